/-
  The other bracket: the document's Match.
-/
import Derived.Test.YtijjpnppedhfnaaPairMatch
import Derived.Test.YtijjpnppedhfnaaPairRefAll
import Derived.Test.YtijjpnppedhfnaaLineRefs
import Derived.Test.YtijjpnppedhfnaaLineRefs2
namespace Go.Proofs.Ytijjpnppedhfnaa
open Go.RowKit
open Pair
/-- The kinds that Match looks for, by number. -/
def Pair.O (j : Nat) : UInt8 := if j = 0 then 40 else if j = 1 then 91 else 123
def Pair.C (j : Nat) : UInt8 := if j = 0 then 41 else if j = 1 then 93 else 125
theorem Pair.clo_O {j : Nat} (h : j < 3) : clo [O j] = some (C j) := by
  have : j = 0 ∨ j = 1 ∨ j = 2 := by omega
  rcases this with rfl | rfl | rfl <;> rfl
theorem Pair.O_brk {j : Nat} (h : j < 3) : O j ∈ brk ∧ C j ∈ brk ∧ opn (O j) = O j ∧ opn (C j) = O j := by
  have : j = 0 ∨ j = 1 ∨ j = 2 := by omega
  rcases this with rfl | rfl | rfl <;> decide
theorem Pair.not_brk {y : UInt8} (h : ∀ i, i < 3 → y ≠ O i ∧ y ≠ C i) : brk.contains y = false := by
  have h0 := h 0 (by omega)
  have h1 := h 1 (by omega)
  have h2 := h 2 (by omega)
  rw [List.contains_eq_any_beq, List.any_eq_false]
  intro x hx e
  have e1 : y = x := by simpa using e
  subst e1
  have : y = 40 ∨ y = 41 ∨ y = 91 ∨ y = 93 ∨ y = 123 ∨ y = 125 := by simpa [brk] using hx
  rcases this with rfl | rfl | rfl | rfl | rfl | rfl
  · exact h0.1 rfl
  · exact h0.2 rfl
  · exact h1.1 rfl
  · exact h1.2 rfl
  · exact h2.1 rfl
  · exact h2.2 rfl
theorem Pair.O_cell {w : World} {g : Nat} (h : Blk w g 9 #[.string { data := #[40] }, .string { data := #[91] }, .string { data := #[123] }]) {j : Nat} (hj : j < 3) : w.cell? ⟨g, j, none⟩ = some (.string (bs [O j])) := by
  rw [h.cell]
  have : j = 0 ∨ j = 1 ∨ j = 2 := by omega
  rcases this with rfl | rfl | rfl <;> rfl
set_option maxHeartbeats 4000000 in
set_option maxRecDepth 100000 in
theorem ref17_Match (s : ByteArray) (p : Int) (hs : s.size ≤ 500000) (w : World) :
    Calls Try.prog 12 #[.string s, .int .i64 p] w fun e w' => e = .returned (resM (mt s.data.toList p)) ∧ Below w.heap.size w w' := by
  have hl := data_len s
  have c1 := Lib.hid (fun w => ref_Place s p (by omega) w)
  cases hp : Utf.place s.data.toList p with
  | false =>
    rw [hp] at c1
    have H := Lib.hid (mt_not hp)
    clear hp
    go_enter Try.func12, Try.ntmps12
    go_wp2_with (go_at_call 29; refine (c1.out _).mono ?_; rintro e w1 ⟨rfl, hb1⟩)
    go_ret2
    exact ⟨by rw [H.out]; rfl, hb1⟩
  | true =>
    rw [hp] at c1
    have hM : mt s.data.toList p = _ := if_pos hp
    obtain ⟨n, e, k, rs, u, v, rfl, h1, h2, h3, h4, h5, _, _, _, _⟩ := part_of hp
    have c2 := Lib.hid (fun w => ref4_Of s (n : Nat) (by omega) w)
    have c3 := Lib.hid (fun w => ref4_End s (k : Nat) (by omega) w)
    rw [h3] at c2
    rw [h4] at c3
    rw [Int.toNat_natCast] at hM
    have HM := Lib.hid hM
    have HPL : Hid ((Pair.part s.data.toList n).length = e - n ∧ ∀ i, n + i < e → (Pair.part s.data.toList n)[i]? = s.data.toList[n + i]?) := by
      rw [h5]; exact ⟨seg_length h2, fun i hi => seg_get hi⟩
    rw [hl] at h2
    clear hM hp h3 h4 h5
    go_enter Try.func12, Try.ntmps12
    go_wp2_with (first
      | (go_at_call 29; refine (c1.out _).mono ?_; rintro e w1 ⟨rfl, hb1⟩)
      | (go_at_call 31; refine (c2.out _).mono ?_; rintro e w2 ⟨rfl, hb2⟩)
      | (go_at_call 30; refine (c3.out _).mono ?_; rintro e w3 ⟨rfl, hb3⟩))
    have hW0 : Below w.heap.size w w3 := (hb1.trans (hb2.mono hb1.size)).trans (hb3.mono (Nat.le_trans hb1.size hb2.size))
    clear hb1 hb2 hb3
    go_loopw [1] (fun pv wr => ∃ c : Nat, pv = .int .i64 c ∧ n ≤ c ∧ c ≤ e ∧ Below w.heap.size w wr ∧ Hid (Lib.NoAny (Pair.part s.data.toList n) brk (c - n))) (fun pv _ => e - (intOf pv).toNat)
    case atStart => exact ⟨n, rfl, Nat.le_refl _, h1, hW0, by show Lib.NoAny _ _ _; rw [Nat.sub_self]; exact Lib.NoAny.zero _ _⟩
    case round =>
      obtain ⟨c, rfl, hnc, hce, hW, HN⟩ := hrel
      clear hW0
      by_cases hlt : c < e
      · have hcs : c < s.size := by omega
        obtain ⟨y, hy⟩ : ∃ y, s[c]'hcs = y := ⟨_, rfl⟩
        have hg := byte_get s hcs
        have hpy : Hid ((Pair.part s.data.toList n)[c - n]? = some (s[c]'hcs)) := by
          show _ = _
          rw [HPL.out.2 _ (by omega), show n + (c - n) = c by omega]; exact hg
        have HY : Hid (s.data.toList[c]? = some (s[c]'hcs)) := hg
        clear hy hg
        go_wp2
        have hbk := Blk.new wr 9 #[.string { data := #[40] }, .string { data := #[91] }, .string { data := #[123] }]
        have hWa := hW.alloc hW.size (.cells #[.string { data := #[40] }, .string { data := #[91] }, .string { data := #[123] }] 9)
        have hsa := World.size_alloc wr (.cells #[.string { data := #[40] }, .string { data := #[91] }, .string { data := #[123] }] 9)
        generalize wr.alloc (.cells #[.string { data := #[40] }, .string { data := #[91] }, .string { data := #[123] }] 9) = wa at *
        have HBK := Lib.hid hbk
        have HWA := Lib.hid hWa
        have HSA := Lib.hid hsa
        clear hbk hWa hsa hW
        go_loopw [25] (fun jv wr => ∃ j : Nat, jv = .int .i64 j ∧ j ≤ 3 ∧ Below wa.heap.size wa wr ∧ Hid (∀ i, i < j → s[c]'hcs ≠ O i ∧ s[c]'hcs ≠ C i)) (fun jv _ => 3 - (intOf jv).toNat)
        case atStart => exact ⟨0, rfl, Nat.zero_le _, Below.refl _ _, fun i h => absurd h (Nat.not_lt_zero _)⟩
        case round =>
          obtain ⟨j, rfl, hj, hq, HJ⟩ := hrel
          have GO : Hid (∀ u, Below wr.heap.size wr u → Below w.heap.size w u ∧ Below wa.heap.size wa u) := fun u h => by
            have h1 := hq.trans (h.mono hq.size)
            have h2 := HWA.out.size
            exact ⟨HWA.out.trans (h1.mono h2), h1⟩
          by_cases hj3 : j < 3
          · have hcell := O_cell (HBK.out.below hq (by rw [HSA.out]; omega)) hj3
            have hclo := clo_O hj3
            have HOB := Lib.hid (O_brk hj3)
            have D1 := Lib.hid (fun w => ref17_closer (bs [O j]) w)
            rw [bs_toList, cloB, hclo, Option.getD_some] at D1
            have D2 := Lib.hid (fun w => ref17_All s (bs [O j]) hs w)
            rw [bs_toList] at D2
            have hk0 : 0 < (bs [O j]).size := by rw [bs_size]; exact Nat.one_pos
            have hkb : (bs [O j])[0] = O j := by
              have := byte_get (bs [O j]) hk0
              rw [bs_toList] at this
              simpa using this.symm
            have HO : Hid (∀ y, s[c]'hcs = y → opn y = O j → brk.contains y = true → mt s.data.toList (n : Nat) = lk (Pair.all s.data.toList [O j]) c) := fun y h1 h2 h3 => by
              have hh := Lib.indexAny_hit HN.out (by rw [hpy.out, h1]) h3
              rw [HM.out, hh, if_neg (by omega), show (((n : Nat) : Int) + ((c - n : Nat) : Int)).toNat = c by omega, at_, HY.out, Option.getD_some, h1, h2]
            have hlen := all_length s.data.toList [O j]
            rw [hl] at hlen
            have HL : Hid (Pair.all s.data.toList [O j] = Pair.all s.data.toList [O j]) := rfl
            generalize Pair.all s.data.toList [O j] = L at *
            have hnx : Hid (s[c]'hcs ≠ O j → s[c]'hcs ≠ C j → ∀ i, i < j + 1 → s[c]'hcs ≠ O i ∧ s[c]'hcs ≠ C i) := fun h1 h2 i hi => by
              by_cases e : i = j
              · subst e; exact ⟨h1, h2⟩
              · exact HJ.out i (by omega)
            clear hclo HL HJ
            generalize hoj : O j = o at *
            generalize hcj : C j = d at *
            generalize hkk : bs [o] = kk at *
            have Hkb := Lib.hid hkb
            have HQ := Lib.hid hq
            clear hq hkk hoj hcj
            subst hkb
            by_cases hy1 : s[c]'hcs = kk[0]
            · have g1 : (((s[c]'hcs).toNat : Int) != (kk[0].toNat : Int)) = false := by rw [hy1]; simp
              have g2 : (((s[c]'hcs).toNat : Int) == (kk[0].toNat : Int)) = true := by rw [hy1]; simp
              have HMT := Lib.hid (HO.out _ hy1 HOB.out.2.2.1 (by simpa using HOB.out.1))
              clear hy1 HO hnx
              go_wp2_with fail
              go_quiet (fail)
              have hQd := GO.out _ (below_drewN (Below.refl wr.heap.size wr) nq)
              clear GO HQ
              generalize wr.drewN nq = wd at *
              go_wp2_with (go_at_call 10; refine (D2.out _).mono ?_; rintro e w5 ⟨⟨v, rfl, hr⟩, hb5⟩; obtain ⟨A, cp, rfl⟩ := own_long hr)
              have HP := Lib.hid (Pairs.of_own hr rfl)
              have hW5 : Below w.heap.size w w5 := hQd.1.trans (hb5.mono hQd.1.size)
              have HW5 := Lib.hid hW5
              clear hr hb5 hQd hW5
              go_loopw [10] (fun iv wr => ∃ i : Nat, iv = .int .i64 i ∧ i ≤ L.length ∧ Below w5.heap.size w5 wr ∧ Hid (lk L c = lk (L.drop i) c)) (fun iv _ => L.length - (intOf iv).toNat)
              case atStart => exact ⟨0, rfl, Nat.zero_le _, Below.refl _ _, rfl⟩
              case round =>
                obtain ⟨i, rfl, hi, hx5, HI⟩ := hrel
                have HW6 := Lib.hid (HW5.out.trans (hx5.mono HW5.out.size))
                by_cases hil : i < L.length
                · obtain ⟨⟨a, b⟩, hx⟩ : ∃ x, L[i]? = some x := ⟨_, List.getElem?_eq_getElem hil⟩
                  obtain ⟨g, rfl, a0, a1⟩ := (HP.out.below hx5).at_ hx
                  dsimp only at a0 a1
                  by_cases ha : c = a
                  · have t1 : ((a : Int) == (c : Int)) = true := beq_iff_eq.2 (by omega)
                    have H2 : Hid (lk L c = some b) := by show _ = _; rw [HI.out]; exact lk_fst hx ha
                    clear hx ha HI HP hx5
                    go_wp2
                    go_ret2
                    exact ⟨by rw [HMT.out, H2.out]; rfl, HW6.out⟩
                  · have t1 : ((a : Int) == (c : Int)) = false := beq_eq_false_iff_ne.2 (by omega)
                    by_cases hb : c = b
                    · have t2 : ((b : Int) == (c : Int)) = true := beq_iff_eq.2 (by omega)
                      have H2 : Hid (lk L c = some a) := by show _ = _; rw [HI.out]; exact lk_snd hx ha hb
                      clear hx ha hb HI HP hx5
                      go_wp2
                      go_ret2
                      exact ⟨by rw [HMT.out, H2.out]; rfl, HW6.out⟩
                    · have t2 : ((b : Int) == (c : Int)) = false := beq_eq_false_iff_ne.2 (by omega)
                      have H2 : Hid (lk L c = lk (L.drop (i + 1)) c) := by show _ = _; rw [HI.out]; exact lk_skip hx ha hb
                      have HX5 := Lib.hid hx5
                      clear hx ha hb HI HP hx5
                      go_wp2
                      go_roundw
                      case rel => exact ⟨i + 1, by go_num, hil, HX5.out, H2⟩
                      case measure => simp [intOf]; omega
                · obtain rfl : i = L.length := by omega
                  have H2 : Hid (lk L c = none) := by show _ = _; rw [HI.out, List.drop_eq_nil_of_le (Nat.le_refl _), lk]
                  clear HI HP hx5
                  go_wp2
                  go_ret2
                  exact ⟨by rw [HMT.out, H2.out]; rfl, HW6.out⟩
            · by_cases hy2 : s[c]'hcs = d
              · have g1 : (((s[c]'hcs).toNat : Int) != (kk[0].toNat : Int)) = true := by rw [bne_iff_ne]; exact fun e => hy1 (UInt8.toNat_inj.1 (by omega))
                have g2 : (((s[c]'hcs).toNat : Int) != (d.toNat : Int)) = false := by rw [hy2]; simp
                have g3 : (((s[c]'hcs).toNat : Int) == (d.toNat : Int)) = true := by rw [hy2]; simp
                have HMT := Lib.hid (HO.out _ hy2 HOB.out.2.2.2 (by simpa using HOB.out.2.1))
                clear hy1 hy2 HO hnx
                go_wp2_with fail
                go_quiet ((first | (go_at_call 22; exact (D1.out _).mono fun e w1 h => ⟨h.1, _, h.2.symm⟩)))
                have hQd := GO.out _ (below_drewN (Below.refl wr.heap.size wr) nq)
                clear GO HQ
                generalize wr.drewN nq = wd at *
                go_wp2_with (go_at_call 10; refine (D2.out _).mono ?_; rintro e w5 ⟨⟨v, rfl, hr⟩, hb5⟩; obtain ⟨A, cp, rfl⟩ := own_long hr)
                have HP := Lib.hid (Pairs.of_own hr rfl)
                have hW5 : Below w.heap.size w w5 := hQd.1.trans (hb5.mono hQd.1.size)
                have HW5 := Lib.hid hW5
                clear hr hb5 hQd hW5
                go_loopw [10] (fun iv wr => ∃ i : Nat, iv = .int .i64 i ∧ i ≤ L.length ∧ Below w5.heap.size w5 wr ∧ Hid (lk L c = lk (L.drop i) c)) (fun iv _ => L.length - (intOf iv).toNat)
                case atStart => exact ⟨0, rfl, Nat.zero_le _, Below.refl _ _, rfl⟩
                case round =>
                  obtain ⟨i, rfl, hi, hx5, HI⟩ := hrel
                  have HW6 := Lib.hid (HW5.out.trans (hx5.mono HW5.out.size))
                  by_cases hil : i < L.length
                  · obtain ⟨⟨a, b⟩, hx⟩ : ∃ x, L[i]? = some x := ⟨_, List.getElem?_eq_getElem hil⟩
                    obtain ⟨g, rfl, a0, a1⟩ := (HP.out.below hx5).at_ hx
                    dsimp only at a0 a1
                    by_cases ha : c = a
                    · have t1 : ((a : Int) == (c : Int)) = true := beq_iff_eq.2 (by omega)
                      have H2 : Hid (lk L c = some b) := by show _ = _; rw [HI.out]; exact lk_fst hx ha
                      clear hx ha HI HP hx5
                      go_wp2
                      go_ret2
                      exact ⟨by rw [HMT.out, H2.out]; rfl, HW6.out⟩
                    · have t1 : ((a : Int) == (c : Int)) = false := beq_eq_false_iff_ne.2 (by omega)
                      by_cases hb : c = b
                      · have t2 : ((b : Int) == (c : Int)) = true := beq_iff_eq.2 (by omega)
                        have H2 : Hid (lk L c = some a) := by show _ = _; rw [HI.out]; exact lk_snd hx ha hb
                        clear hx ha hb HI HP hx5
                        go_wp2
                        go_ret2
                        exact ⟨by rw [HMT.out, H2.out]; rfl, HW6.out⟩
                      · have t2 : ((b : Int) == (c : Int)) = false := beq_eq_false_iff_ne.2 (by omega)
                        have H2 : Hid (lk L c = lk (L.drop (i + 1)) c) := by show _ = _; rw [HI.out]; exact lk_skip hx ha hb
                        have HX5 := Lib.hid hx5
                        clear hx ha hb HI HP hx5
                        go_wp2
                        go_roundw
                        case rel => exact ⟨i + 1, by go_num, hil, HX5.out, H2⟩
                        case measure => simp [intOf]; omega
                  · obtain rfl : i = L.length := by omega
                    have H2 : Hid (lk L c = none) := by show _ = _; rw [HI.out, List.drop_eq_nil_of_le (Nat.le_refl _), lk]
                    clear HI HP hx5
                    go_wp2
                    go_ret2
                    exact ⟨by rw [HMT.out, H2.out]; rfl, HW6.out⟩
              · have g1 : (((s[c]'hcs).toNat : Int) != (kk[0].toNat : Int)) = true := by rw [bne_iff_ne]; exact fun e => hy1 (UInt8.toNat_inj.1 (by omega))
                have g2 : (((s[c]'hcs).toNat : Int) != (d.toNat : Int)) = true := by rw [bne_iff_ne]; exact fun e => hy2 (UInt8.toNat_inj.1 (by omega))
                have HJ2 := Lib.hid (hnx.out hy1 hy2)
                clear hy1 hy2 HO hnx
                go_wp2_with fail
                go_quiet ((first | (go_at_call 22; exact (D1.out _).mono fun e w1 h => ⟨h.1, _, h.2.symm⟩)))
                go_wp2
                go_roundw
                case rel => exact ⟨j + 1, by go_num, by omega, (GO.out _ (below_drewN (Below.refl _ _) _)).2, HJ2.out⟩
                case measure => simp [intOf]; omega
          · obtain rfl : j = 3 := by omega
            have HN2 : Hid (Lib.NoAny (Pair.part s.data.toList n) brk (c + 1 - n)) := by
              have := HN.out.succ hpy.out (not_brk HJ.out)
              show Lib.NoAny _ _ _
              rwa [show c - n + 1 = c + 1 - n by omega] at this
            clear hq HJ
            go_wp2
            go_roundw
            case rel => exact ⟨c + 1, by go_num, by omega, by omega, (GO.out _ (Below.refl _ _)).1, HN2⟩
            case measure => simp [intOf]; omega
      · obtain rfl : c = e := by omega
        have H : Hid (mt s.data.toList (n : Nat) = none) := by
          show _ = _
          have := HN.out
          rw [← HPL.out.1] at this
          rw [HM.out, Lib.indexAny_none this, if_pos (by decide)]
        clear HN
        go_wp2
        go_ret2
        exact ⟨by rw [H.out]; rfl, hW⟩
end Go.Proofs.Ytijjpnppedhfnaa
