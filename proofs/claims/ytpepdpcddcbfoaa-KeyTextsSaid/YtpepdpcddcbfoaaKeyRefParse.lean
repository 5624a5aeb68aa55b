/-
  The document's answer: the keys of a text.
-/
import Derived.Test.YtpepdpcddcbfoaaKeyHits
import Derived.Test.YtpepdpcddcbfoaaKeyRefSplit
import Derived.BigQuiet
namespace Go.Proofs.Ytpepdpcddcbfoaa
open Go.RowKit
namespace Key
open Utf
section
variable {s : List UInt8} {rs : List (List UInt8)} {i : Nat} {done : List (List UInt8)} {acc : List UInt8}
/-- The bytes from the rune i on. -/
theorem rest_at (hd : dec s = some rs) (i : Nat) : s.drop (off rs i) = (rs.drop i).flatten := by rw [(dec_some hd).2, off_drop]
theorem PL.hit (hd : dec s = some rs) (h : PL s rs i none done acc) {n : Nat} {l : List UInt8} (hn : nm n = some l) (hp : l <+: s.drop (off rs i)) (hi : i ≤ rs.length) :
    PL s rs (i + l.length) none (done ++ [[UInt8.ofNat n]]) (acc ++ [UInt8.ofNat n]) ∧ i + l.length ≤ rs.length := by
  rw [rest_at hd] at hp
  obtain ⟨t, ht⟩ := sing_take (fun r hr => (dec_some hd).1 r (List.mem_of_mem_drop hr)) (nm_ascii hn) hp
  have hlen : (sing l).length = l.length := by simp [sing]
  have hdl : rs.drop (i + l.length) = t := by
    rw [← List.drop_drop, ht, ← hlen, List.drop_left]
  have hle : i + l.length ≤ rs.length := by
    have := congrArg List.length ht
    rw [List.length_drop, List.length_append, hlen] at this
    omega
  have hoff : off rs (i + l.length) = off rs i + l.length := by
    have e : rs.take (i + l.length) = rs.take i ++ sing l := by
      rw [List.take_add, ht, ← hlen, List.take_left]
    unfold off
    rw [e, List.flatten_append, List.length_append, sing_flat]
  have h4 := (nm_len hn).1
  refine ⟨⟨?_, by rw [h.bytes]; simp, ?_, fun p h => by cases h⟩, hle⟩
  · rw [h.run, ht, go_name hn, hdl]
    cases go none t <;> simp
  · have := h.len; simp only [stLen, List.length_append, List.length_cons, List.length_nil] at this ⊢; omega
theorem PL.miss (hd : dec s = some rs) (h : PL s rs i none done acc) (hr : rs[i]? = some [60]) (hm : ∀ n l, nm n = some l → ¬ l <+: s.drop (off rs i)) : go none rs = none := by
  rw [rest_at hd] at hm
  rw [drop_rune hr] at hm
  rw [h.run, drop_rune hr, go_no hm]
  rfl
end
end Key
set_option maxHeartbeats 4000000 in
set_option maxRecDepth 100000 in
theorem ref13_Parse (s : ByteArray) (hs : s.size ≤ 1000000000000) (w : World) :
    Calls Try.prog 19 #[.string s] w fun e w' => e = .returned (.tuple #[.string (bs (Key.parseK s.data.toList)), .int .i64 (Key.parseE s.data.toList)]) ∧ Below w.heap.size w w' := by
  have hl : s.data.toList.length = s.size := by simp
  have c1 := split_got s (by omega) w
  cases hd : Utf.dec s.data.toList with
  | none =>
    rw [Utf.places_none hd] at c1
    have C1 := Lib.hid c1
    have H := Lib.hid (Key.parse_bad hd)
    clear c1 hd
    go_enter Try.func19, Try.ntmps19
    go_wp2_with (go_at_call 27; refine C1.out.mono ?_; rintro e w1 ⟨⟨A, c, rfl, hI⟩, hb⟩)
    go_ret2
    exact ⟨by rw [H.out.1, H.out.2]; rfl, hb⟩
  | some rs =>
    rw [Utf.places_some hd, Utf.pl_length] at c1
    have C1 := Lib.hid c1
    have HD := Lib.hid hd
    have hrl : rs.length ≤ s.size := by
      have h3 := off_ge hd (i := rs.length) (Nat.le_refl _)
      rw [Utf.off_top hd (Nat.le_refl _), hl] at h3
      exact h3
    have g12 : ((rs.length : Int) + 1 == 0) = false := by rw [beq_eq_false_iff_ne]; omega
    clear c1 hd
    go_enter Try.func19, Try.ntmps19
    go_wp2_with (go_at_call 27; refine C1.out.mono ?_; rintro e w1 ⟨⟨A, c, rfl, hI⟩, hb⟩)
    have HW := Lib.hid hb
    clear hb
    go_loopw [5, 6] (fun v iv wr => ∃ (k : Nat) (done : List (List UInt8)) (acc : List UInt8), k ≤ rs.length ∧ iv = .int .i64 k ∧ v = .string (bs acc) ∧ Below w1.heap.size w1 wr ∧ Hid (Key.PL s.data.toList rs k none done acc)) (fun _ iv _ => rs.length - (intOf iv).toNat)
    case atStart => exact ⟨0, [], [], Nat.zero_le _, rfl, rfl, Below.refl _ _, Lib.hid (Key.PL.start _ _)⟩
    case round =>
      obtain ⟨k, done, acc, hk, rfl, rfl, hW, hP⟩ := hrel
      have hacc : acc.length ≤ s.size := by have := hP.out.len; have := Utf.off_in HD.out k; omega
      by_cases hlt : k < rs.length
      · obtain ⟨r, hr⟩ : ∃ r, rs[k]? = some r := ⟨_, List.getElem?_eq_getElem hlt⟩
        have hg1 : (Utf.pl 0 rs)[k]? = some ((Utf.off rs k : Nat) : Int) := by rw [Utf.pl_get 0 (by omega), Nat.zero_add]
        have hg2 : (Utf.pl 0 rs)[k + 1]? = some ((Utf.off rs (k + 1) : Nat) : Int) := by rw [Utf.pl_get 0 (by omega), Nat.zero_add]
        obtain ⟨ad, rfl, hab, hcells⟩ := hI (by rw [Utf.pl_length]; omega)
        have P1 : Hid (∀ u, Below w1.heap.size w1 u → u.cell? (ad.add k) = some (.int .i64 (Utf.off rs k : Nat)) ∧ u.cell? { block := ad.block, off := ad.off + (k + 1) } = some (.int .i64 (Utf.off rs (k + 1) : Nat))) := fun u hu =>
          ⟨(hu.cell (p := ad.add k) (by rw [block_of_add]; exact hab)).trans (hcells k _ hg1), (hu.cell (p := ad.add (k + 1)) (by rw [block_of_add]; exact hab)).trans (hcells (k + 1) _ hg2)⟩
        obtain ⟨L1, L2⟩ := P1.out _ hW
        have hin := Utf.off_in HD.out (k + 1)
        have hmo := Utf.off_mono (rs := rs) (i := k) (j := k + 1) (by omega)
        rw [hl] at hin
        have E1 := between s HD.out hr
        have hwr : w1.heap.size ≤ wr.heap.size := hW.size
        have b1 : (k : Int) < (rs.length : Int) + 1 := by omega
        have b2 : k < rs.length + 1 := by omega
        have b4 : (0 : Int) ≤ (k : Int) + 1 := by omega
        have b5 : (k : Int) < (rs.length : Int) := by omega
        have b6 : (k : Int) + 1 < (rs.length : Int) + 1 := by omega
        have b3 : IntKind.i64.wrap ((k : Int) + 1) = (k : Int) + 1 := by rw [IntKind.wrap_i64]; omega
        have ho : Utf.one r = true := (Utf.dec_some HD.out).1 r (List.mem_of_getElem? hr)
        have hpos := Utf.one_pos ho
        have hemp : (bs r).toList.isEmpty = false := by rw [bs_isEmpty]; cases r with | nil => simp at hpos | cons a t => rfl
        have hr4 := Utf.one_le ho
        have hbr : (bs r).size ≤ 4 := by rw [bs_size]; exact hr4
        have t60 := text_test (bs r) 60
        rw [bs_toList] at t60
        have hsum : ¬ 9223372036854775807 < (bs acc).size + (bs r).size := by rw [bs_size]; omega
        have Happ := Lib.hid (bs_append acc r)
        have c2 := Lib.hid (ref13_Sign (bs r))
        rw [bs_toList, ho, Bool.true_and] at c2
        have Hr := Lib.hid hr
        have HT := Lib.hid (Eq.refl (Utf.off rs k))
        clear hr hg1 hg2 hcells ho hI hr4 hpos
        generalize Utf.off rs (k + 1) = z at *
        by_cases h60 : r = [60]
        · rw [decide_eq_true h60] at t60
          have hmiss := Lib.hid (fun hm => hP.out.miss HD.out (by rw [Hr.out, h60]) hm)
          have hhit := Lib.hid (fun (n : Nat) (l : List UInt8) (hn : Key.nm n = some l) (hp : l <+: s.data.toList.drop (Utf.off rs k)) => hP.out.hit HD.out hn hp hk)
          clear hP h60 HT Happ hsum c2 hemp hbr
          have hys : Utf.off rs k ≤ s.size := by omega
          obtain ⟨T, hT⟩ : ∃ T, Hid (s.data.toList.drop (Utf.off rs k) = T) := ⟨_, rfl⟩
          rw [hT.out] at hmiss hhit
          have P2 := P1
          generalize Utf.off rs k = y at *
          generalize bs r = R at *
          go_wp2
          go_region
          go_wp2
          obtain ⟨W0, hW0⟩ : ∃ W0, (wr.alloc (.cells #[.string ⟨#[8]⟩, .string ⟨#[9]⟩, .string ⟨#[13]⟩, .string ⟨#[18]⟩, .string ⟨#[21]⟩, .string ⟨#[23]⟩, .string ⟨#[27]⟩, .string ⟨#[60]⟩] 9)).drew = W0 := ⟨_, rfl⟩
          rw [hW0]
          have hB : Blk W0 wr.heap.size 9 Key.keyCells := by rw [← hW0]; exact (Blk.new wr 9 _).drew
          have hWb : Below w1.heap.size w1 W0 := by rw [← hW0]; exact (hW.alloc hwr _).trans (below_gb (gb_drew _ none) |>.mono (by simp; omega))
          have P3 : Hid (∀ u, Below W0.heap.size W0 u → u.cell? (ad.add k) = some (.int .i64 (y : Nat))) := fun u hu => (P1.out u (hWb.trans (hu.mono hWb.size))).1
          have hBlt := hB.lt
          have P4 : Hid (∀ u, Below W0.heap.size W0 u → ∀ j p, Key.tab[j]? = some p → u.cell? ⟨wr.heap.size, j, none⟩ = some (.string (bs [UInt8.ofNat p.1]))) := fun u hu j p hp => by
            have h1 := hu.cell (p := ⟨wr.heap.size, j, none⟩) hBlt
            rw [hB.cell, Key.keyCells_at hp] at h1
            exact h1
          clear hW L1 L2 P1 P2 hB hwr hW0
          generalize wr.heap.size = BB at *
          clear wr
          go_loopw [7, 8, 37] (fun kv nv jv wq => ∃ j : Nat, j ≤ 8 ∧ jv = .int .i64 j ∧ kv = .string (bs (Key.hk T j).1) ∧ nv = .int .i64 ((Key.hk T j).2 : Nat) ∧ Below W0.heap.size W0 wq) (fun _ _ jv _ => 8 - (intOf jv).toNat)
          case atStart => exact ⟨0, by omega, rfl, rfl, rfl, Below.refl _ _⟩
          case round =>
            obtain ⟨j, hj, rfl, rfl, rfl, hQ⟩ := hrel
            by_cases hj8 : j < 8
            · obtain ⟨p, hp⟩ : ∃ p, Key.tab[j]? = some p := ⟨_, List.getElem?_eq_getElem (show j < Key.tab.length by show j < 8; omega)⟩
              have L1 := P3.out _ hQ
              have X1 := P4.out _ hQ j p hp
              have hmem : (p.1, p.2) ∈ Key.tab := List.mem_of_getElem? hp
              have c3 := Lib.hid (fun w => ref13_Name_key hmem w)
              have hl7 := (Key.nm_len (Key.nm_tab.2 hmem)).2
              have hsz : (bs p.2).size = p.2.length := bs_size _
              have Hhit : Hid (p.2 <+: T → Key.hk T (j + 1) = ([UInt8.ofNat p.1], p.2.length)) := Lib.hid (fun h => Key.hk_hit hp h)
              have Hmiss : Hid (¬ p.2 <+: T → Key.hk T (j + 1) = Key.hk T j) := Lib.hid (fun h => Key.hk_miss hp h)
              have a1 : (j : Int) < 8 := by omega
              have hTl : T.length = s.size - y := by rw [← hT.out, List.length_drop, hl]
              have b7 : IntKind.i64.wrap ((y : Int) + ((bs p.2).size : Int)) = (y : Int) + ((bs p.2).size : Int) := by rw [IntKind.wrap_i64]; omega
              have b8 : (0 : Int) ≤ (y : Int) + ((bs p.2).size : Int) := by omega
              by_cases hfit : y + (bs p.2).size ≤ s.size
              · have hE : ((s.extract y (y + (bs p.2).size)).toList == (bs p.2).toList) = decide (p.2 <+: T) := by
                  have e1 : (s.extract y (y + (bs p.2).size)).toList = T.take p.2.length := by
                    rw [Lib.extract_eq, show y + (bs p.2).size - y = p.2.length by omega, ← hT.out]
                    exact bs_tl _
                  rw [e1, bs_tl, Bool.eq_iff_iff, decide_eq_true_iff, beq_iff_eq, List.prefix_iff_eq_take]
                  exact eq_comm
                have f1 : (y : Int) + ((bs p.2).size : Int) ≤ (s.size : Int) := by omega
                have f2 : (y : Int) ≤ (y : Int) + ((bs p.2).size : Int) := by omega
                clear hp hmem P3 P4 hsz hTl
                cases hpre : decide (p.2 <+: T) with
                | true =>
                  have hh := Hhit.out (of_decide_eq_true hpre)
                  have HK1 : Hid ((Key.hk T (j + 1)).1 = [UInt8.ofNat p.1]) := Lib.hid (by rw [hh])
                  have HK2 : Hid ((Key.hk T (j + 1)).2 = (bs p.2).size) := Lib.hid (by rw [hh, bs_size])
                  have HX := Lib.hid (Eq.refl (bs [UInt8.ofNat p.1]))
                  rw [hpre] at hE
                  clear hh hpre Hmiss Hhit
                  obtain ⟨XX, hXX⟩ : ∃ XX, Hid (bs [UInt8.ofNat p.1] = XX) := ⟨_, rfl⟩
                  rw [hXX.out] at X1 c3
                  generalize bs p.2 = LL at *
                  clear HX
                  go_wp2_with (go_at_call 12; refine (c3.out _).mono ?_; rintro e w3 ⟨rfl, rfl⟩)
                  go_quiet ((first | (go_at_call 12; exact (c3.out _).mono fun e w1 h => ⟨h.1, _, h.2.symm⟩)))
                  go_wp2
                  go_roundw
                  case rel => exact ⟨j + 1, by omega, by go_num, by rw [HK1.out, hXX.out], by rw [HK2.out], hQ.trans ((below_gb (gb_drewN _ _ none)).mono hQ.size)⟩
                  case measure => simp [intOf]; omega
                | false =>
                  have hh := Lib.hid (Hmiss.out (of_decide_eq_false hpre))
                  rw [hpre] at hE
                  clear hpre Hmiss Hhit
                  generalize bs [UInt8.ofNat p.1] = XX at *
                  generalize bs p.2 = LL at *
                  go_wp2_with (go_at_call 12; refine (c3.out _).mono ?_; rintro e w3 ⟨rfl, rfl⟩)
                  go_quiet ((first | (go_at_call 12; exact (c3.out _).mono fun e w1 h => ⟨h.1, _, h.2.symm⟩)))
                  go_wp2
                  go_roundw
                  case rel => exact ⟨j + 1, by omega, by go_num, by rw [hh.out], by rw [hh.out], hQ.trans ((below_gb (gb_drewN _ _ none)).mono hQ.size)⟩
                  case measure => simp [intOf]; omega
              · have hnp : ¬ p.2 <+: T := fun h => by
                  have := h.length_le
                  omega
                have hh := Lib.hid (Hmiss.out hnp)
                have f1 : decide ((y : Int) + ((bs p.2).size : Int) ≤ (s.size : Int)) = false := by simp; omega
                clear hp hmem P3 P4 hsz hTl hnp Hmiss Hhit hfit
                generalize bs [UInt8.ofNat p.1] = XX at *
                generalize bs p.2 = LL at *
                go_wp2_with (go_at_call 12; refine (c3.out _).mono ?_; rintro e w3 ⟨rfl, rfl⟩)
                go_quiet (fail)
                go_wp2
                go_roundw
                case rel => exact ⟨j + 1, by omega, by go_num, by rw [hh.out], by rw [hh.out], hQ.trans ((below_gb (gb_drewN _ _ none)).mono hQ.size)⟩
                case measure => simp [intOf]; omega
            · obtain rfl : j = 8 := by omega
              have HQ := Lib.hid (hWb.trans (hQ.mono hWb.size))
              clear P3 P4
              rcases Key.hk_all T with ⟨h1, h2⟩ | ⟨n, l, hn, hp, h1⟩
              · have H := Lib.hid (Key.parse_no HD.out (hmiss.out h2))
                have e0 : (bs (Key.hk T 8).1).toList.isEmpty = true := by rw [h1, bs_isEmpty]; rfl
                clear h1 h2
                generalize bs (Key.hk T 8).1 = KK at *
                generalize (Key.hk T 8).2 = NN at *
                go_wp2
                go_ret2
                exact ⟨by rw [H.out.1, H.out.2]; rfl, HW.out.trans (HQ.out.mono HW.out.size)⟩
              · obtain ⟨HP2, hle2⟩ := hhit.out n l hn hp
                have HP3 := Lib.hid HP2
                have hl4 := (Key.nm_len hn).1
                have e0 : (bs (Key.hk T 8).1).toList.isEmpty = false := by rw [h1, bs_isEmpty]; rfl
                have hsum : ¬ 9223372036854775807 < (bs acc).size + (bs (Key.hk T 8).1).size := by rw [h1, bs_size, bs_size]; simp only [List.length_cons, List.length_nil]; omega
                have Happ : Hid (bs acc ++ bs (Key.hk T 8).1 = bs (acc ++ [UInt8.ofNat n])) := Lib.hid (by rw [h1, bs_append])
                have hNN : (Key.hk T 8).2 = l.length := by rw [h1]
                have HNN := Lib.hid hNN
                rw [hNN]
                clear h1 hNN HP2 hn hp
                generalize bs (Key.hk T 8).1 = KK at *
                generalize bs acc = AC at *
                generalize l.length = m at *
                go_wp2
                go_roundw
                case rel => exact ⟨k + m, _, _, hle2, by go_num, by rw [Happ.out], HQ.out, HP3⟩
                case measure => simp [intOf]; omega
        · rw [decide_eq_false h60] at t60
          cases hsg : Key.sgn r with
          | false =>
            rw [hsg] at c2
            have H := Lib.hid (Key.parse_no HD.out (hP.out.bad Hr.out h60 hsg))
            clear hsg h60 HT hP
            generalize Utf.off rs k = y at *
            generalize bs r = R at *
            go_wp2
            go_region
            go_wp2_with (go_at_call 10; refine (c2.out _).mono ?_; rintro e w3 ⟨rfl, hb3⟩)
            go_ret2
            exact ⟨by rw [H.out.1, H.out.2]; rfl, (HW.out.trans (hW.mono HW.out.size)).trans ((below_gb (gb_drew wr none)).trans hb3 |>.mono (Nat.le_trans HW.out.size hwr))⟩
          | true =>
            rw [hsg] at c2
            have HP2 := Lib.hid (hP.out.sgn Hr.out h60 hsg)
            clear hsg h60 HT hP
            generalize Utf.off rs k = y at *
            generalize bs r = R at *
            generalize bs acc = AC at *
            go_wp2
            go_region
            go_wp2_with (go_at_call 10; refine (c2.out _).mono ?_; rintro e w3 ⟨rfl, hb3⟩)
            go_roundw
            case rel => exact ⟨k + 1, _, _, by omega, by go_num, by rw [Happ.out], hW.trans ((below_gb (gb_drew wr none)).trans hb3 |>.mono hwr), HP2⟩
            case measure => simp [intOf]; omega
      · obtain rfl : k = rs.length := by omega
        have d1 : decide ((rs.length : Int) + 1 < (rs.length : Int) + 1) = false := decide_eq_false (by omega)
        have H := Lib.hid (Key.parse_ok HD.out (hP.out.ok (Nat.le_refl _)))
        have HB := Lib.hid hP.out.bytes
        clear hI hP
        go_wp2
        go_ret2
        exact ⟨by rw [H.out.1, H.out.2, ← HB.out]; rfl, HW.out.trans (hW.mono HW.out.size)⟩
end Go.Proofs.Ytpepdpcddcbfoaa
