/-
  The document's answer: where words begin.
-/
import Derived.Test.YtjkcdmlbnfibgaaHopRefRow
namespace Go.Proofs.Ytjkcdmlbnfibgaa
open Go.RowKit
namespace Hop
theorem rows_get (big : Bool) (rs : List (List UInt8)) {k : Nat} (hk : k ≤ rs.length) : (rows big 0 rs)[k]? = some (Utf.off rs k, cls big rs k) := by
  rw [← List.head?_drop]
  rcases rune_or_end (rs := rs) k with ⟨r, hr⟩ | he
  · rw [rows_cons big 0 rs hr, Nat.zero_add, cls_some hr]; rfl
  · obtain rfl : k = rs.length := by omega
    rw [rows_last, Nat.zero_add, cls_end he]; rfl
theorem rows_here (big : Bool) (rs : List (List UInt8)) {k : Nat} (hk : k ≤ rs.length) : (rows big 0 rs).drop k = (Utf.off rs k, cls big rs k) :: (rows big 0 rs).drop (k + 1) := by
  have h := rows_get big rs hk
  obtain ⟨hl, he⟩ := List.getElem?_eq_some_iff.1 h
  rw [List.drop_eq_getElem_cons hl, he]
theorem P_get {s : List UInt8} {rs} (h : Utf.dec s = some rs) (big : Bool) {k : Nat} (hk : k ≤ rs.length) : (P s big)[k]? = some (Utf.off rs k : Int) := by
  rw [P, R_ok h, List.getElem?_map, rows_get big rs hk]; rfl
theorem K_get {s : List UInt8} {rs} (h : Utf.dec s = some rs) (big : Bool) {k : Nat} (hk : k ≤ rs.length) : (K s big)[k]? = some (knd (cls big rs k) : Int) := by
  rw [K, R_ok h, List.getElem?_map, rows_get big rs hk]; rfl
theorem knd_zero {c : Nat} (h : c = 1 ∨ c = 4) : knd c = 0 := if_pos h
theorem knd_same {c : Nat} (h : ¬ (c = 1 ∨ c = 4)) : knd c = c := if_neg h
theorem cls_pos (big : Bool) {s : List UInt8} {rs} (h : Utf.dec s = some rs) (k : Nat) : 1 ≤ cls big rs k ∧ cls big rs k ≤ 4 := by
  rcases rune_or_end (rs := rs) k with ⟨r, hr⟩ | he
  · rw [cls_some hr, head_at h hr]
    have hk := (List.getElem?_eq_some_iff.1 hr).1
    rw [Class.at_lt (Class.off_below h hk)]
    exact Class.of_pos _ _
  · rw [cls_end he]; omega
/-- Is a start told at the place k? -/
def told (c d : Nat) : Prop := (c ≠ 1 ∧ c ≠ 4 ∧ c ≠ d) ∨ (c = 4 ∧ d = 4)
instance (c d : Nat) : Decidable (told c d) := by unfold told; infer_instance
theorem SS_step (big : Bool) (rs : List (List UInt8)) {k : Nat} (hk : k ≤ rs.length) : SS (prv big rs k) ((rows big 0 rs).drop k) = (if told (cls big rs k) (prv big rs k) then [(Utf.off rs k : Int)] else []) ++ SS (prv big rs (k + 1)) ((rows big 0 rs).drop (k + 1)) := by
  rw [rows_here big rs hk, SS]; rfl
theorem SS_end (big : Bool) (rs : List (List UInt8)) (la : Nat) : SS la ((rows big 0 rs).drop (rs.length + 1)) = [] := by
  rw [List.drop_of_length_le (by rw [rows_length]; exact Nat.le_refl _)]; rfl
end Hop
theorem byte_is {s : ByteArray} {y : Nat} (hy : y < s.size) : (s.data.toList[y]? = some 10 → ((s[y].toNat : Int) == 10) = true) ∧ (s.data.toList[y]? ≠ some 10 → ((s[y].toNat : Int) == 10) = false) := by
  rw [byte_get s hy]
  constructor
  · intro h; injection h with h; rw [h]; rfl
  · intro h
    have : s[y].toNat ≠ 10 := fun e => h (by congr 1; exact UInt8.toNat_inj.1 e)
    simp; omega
/-- Cells of a list of numbers, in whatever later world. -/
theorem ints_cell {w1 wr : World} {A : Option Addr} {xs : List Int} (h : Ints w1 A xs) (h0 : 0 < xs.length) (hW : Below w1.heap.size w1 wr) : ∃ ad, A = some ad ∧ ∀ j x, xs[j]? = some x → wr.cell? (ad.add j) = some (.int .i64 x) := by
  obtain ⟨ad, rfl, hab, hc⟩ := h h0
  exact ⟨ad, rfl, fun j x hx => (hW.cell (p := ad.add j) (by rw [block_of_add]; exact hab)).trans (hc j x hx)⟩
set_option maxHeartbeats 2000000 in
set_option maxRecDepth 100000 in
theorem ref15_Starts (s : ByteArray) (big : Bool) (hs : s.size ≤ 1000000000000) (w : World) :
    Calls Try.prog 10 #[.string s, .bool big] w fun e w' => GotInts w.heap.size (Hop.starts s.data.toList big) e w' ∧ Below w.heap.size w w' := by
  have hl : s.data.toList.length = s.size := by simp
  have hRl := Hop.R_len s.data.toList big
  have c1 := ref15_row s big hs w
  obtain ⟨i0, hi, hz0, hz1, hz2⟩ := info_parts info_int
  cases hd : Utf.dec s.data.toList with
  | none =>
    have HR := Lib.hid (Hop.R_bad hd big)
    have HS := Lib.hid (Hop.starts_bad hd big)
    rw [HR.out] at c1
    have C1 := Lib.hid c1
    clear c1 hd hRl
    go_enter Try.func10, Try.ntmps10
    go_wp2_with (go_at_call 20; refine C1.out.mono ?_; rintro e w1 ⟨A, c, A', c', rfl, hI, hK, hb⟩)
    go_loopw [7, 8] (fun v iv wr => v = .slice none 0 0 ∧ iv = .int .i64 0 ∧ wr = w1) (fun _ _ _ => 0)
    case atStart => exact ⟨rfl, rfl, rfl⟩
    case round =>
      obtain ⟨rfl, rfl, rfl⟩ := hrel
      go_wp2
      go_ret
      exact ⟨by rw [HS.out]; exact gotInts_nil _ _, hb⟩
  | some rs =>
    have hn : (Hop.R s.data.toList big).length = rs.length + 1 := by rw [Hop.R_ok hd, Hop.rows_length]
    have HD := Lib.hid hd
    have HS := Lib.hid (Hop.starts_rows hd big)
    rw [hn] at c1 hRl
    have C1 := Lib.hid c1
    clear c1 hd
    go_enter Try.func10, Try.ntmps10
    go_wp2_with (go_at_call 20; refine C1.out.mono ?_; rintro e w1 ⟨A, c, A', c', rfl, hI, hK, hb⟩)
    have HW := Lib.hid hb
    have hP0 : 0 < (Hop.P s.data.toList big).length := by rw [Hop.P_length, hn]; omega
    have hK0 : 0 < (Hop.K s.data.toList big).length := by rw [Hop.K_length, hn]; omega
    have HI := Lib.hid (And.intro hI (And.intro hK (And.intro hP0 hK0)))
    obtain ⟨ad, rfl, _⟩ := ints_cell hI hP0 (Below.refl _ _)
    obtain ⟨ad', rfl, _⟩ := ints_cell hK hK0 (Below.refl _ _)
    clear hb hI hK hn hP0 hK0
    go_loopw [7, 8] (fun v iv wr => ∃ (k m : Nat) (done : List Int) (a : Option Addr) (cc : Nat), k ≤ rs.length + 1 ∧ m ≤ k ∧ m = done.length ∧ iv = .int .i64 k ∧ v = .slice a m cc ∧ wr.ownsRow w1.heap.size 3 1 (.slice a m cc) m (done.map (Value.int .i64)) ∧ Hid (Hop.SS 4 (Hop.rows big 0 rs) = done ++ Hop.SS (Hop.prv big rs k) ((Hop.rows big 0 rs).drop k)) ∧ Below w1.heap.size w1 wr) (fun _ iv _ => rs.length + 1 - (intOf iv).toNat)
    case atStart => exact ⟨0, 0, [], none, 0, Nat.zero_le _, Nat.le_refl _, rfl, rfl, rfl, World.ownsRow_nil _ _ _ _, Lib.hid rfl, Below.refl _ _⟩
    case round =>
      obtain ⟨k, m, done, a, cc, hk, hm, hmd, rfl, rfl, hown, hSS, hW⟩ := hrel
      have hwr : w1.heap.size ≤ wr.heap.size := hW.size
      by_cases hle : k ≤ rs.length
      · obtain ⟨ad2, e2, cP⟩ := ints_cell HI.out.1 HI.out.2.2.1 hW
        obtain ⟨ad3, e3, cK⟩ := ints_cell HI.out.2.1 HI.out.2.2.2 hW
        obtain rfl : ad = ad2 := by injection e2
        obtain rfl : ad' = ad3 := by injection e3
        have gP := cP k _ (Hop.P_get HD.out big hle)
        have gK := cK k _ (Hop.K_get HD.out big hle)
        have hst := Hop.SS_step big rs hle
        have hf := Hop.feed_at HD.out k big
        have hp := Hop.feed_prev HD.out hle big
        have hc := Hop.cls_pos big HD.out k
        have hin := Utf.off_in HD.out k
        rw [hl] at hin hf
        have hk1 : k = 0 ∨ ∃ j, k = j + 1 := by cases k with | zero => exact .inl rfl | succ j => exact .inr ⟨j, rfl⟩
        have hgK2 : ∀ j, k = j + 1 → wr.cell? (ad'.add j) = some (.int .i64 (Hop.knd (Hop.prv big rs k) : Nat)) := fun j hj => by
          subst hj
          exact cK j _ (Hop.K_get HD.out big (by omega))
        have hz : k = 0 ↔ Utf.off rs k = 0 := by
          constructor
          · rintro rfl; exact Utf.off_zero rs
          · intro h
            rcases Nat.eq_zero_or_pos k with h1 | h1
            · exact h1
            · have := Utf.off_lt (Utf.dec_some HD.out).1 h1 hle; omega
        have HSS : Hid (Hop.SS 4 (Hop.rows big 0 rs) = (done ++ (if Hop.told (Hop.cls big rs k) (Hop.prv big rs k) then [(Utf.off rs k : Int)] else [])) ++ Hop.SS (Hop.prv big rs (k + 1)) ((Hop.rows big 0 rs).drop (k + 1))) := by
          show _ = _
          rw [hSS.out, hst, List.append_assoc]
        have b1 : (k : Int) < (rs.length : Int) + 1 := by omega
        have b2 : k < rs.length + 1 := by omega
        have b3 : IntKind.i64.wrap ((k : Int) + 1) = (k : Int) + 1 := by rw [IntKind.wrap_i64]; omega
        clear hst hSS cP cK e2 e3
        generalize Hop.cls big rs k = c at *
        generalize Hop.prv big rs k = d at *
        generalize Utf.off rs k = y at *
        rcases hk1 with hk0 | ⟨j, rfl⟩
        · have hy0 := hz.1 hk0
          have hd4 : d = 4 := hp.2 (.inl hy0)
          have fk : ((k : Int) == 0) = true := by simp; omega
          have fy : ((y : Int) == 0) = true := by simp; omega
          clear hy0
          by_cases hcw : c = 1 ∨ c = 4
          · by_cases hend : y = s.size
            · have hc4 : c = 4 := hf.2 (.inl hend)
              rw [Hop.knd_zero (by omega)] at gK
              rw [show ((0 : Nat) : Int) = 0 from rfl] at gK
              have f3 : (((y : Nat) : Int) == (s.size : Nat)) = true := by simp; omega
              rw [if_pos (show Hop.told _ _ from .inr ⟨hc4, hd4⟩)] at HSS
              have HMD := Lib.hid hmd
              clear hmd hf hp hc hgK2 hz hk0 hd4 hend hc4
              go_wp2
              go_quiet (fail)
              have hW2 : Below w1.heap.size w1 (wr.drewN nq) := hW.trans ((below_gb (gb_drewN wr nq none)).mono hwr)
              have hown2 := own_below hown (below_gb (gb_drewN wr nq none))
              generalize wr.drewN nq = w3 at *
              have hwr3 : w1.heap.size ≤ w3.heap.size := hW2.size
              clear hown hW gP gK
              go_wp2_with (at_builtin; refine wpList_append_own _ rfl _ _ 24 rfl w1.heap.size 3 i0 (.int .i64 0) 1 8 Try.underlying24 hi hz0 hz1 hz2 rfl (by decide) _ _ _ rfl (hown2.alloc _) ⟨w3.heap.size, 0, none⟩ 1 1 [.int .i64 (y : Nat)] rfl rfl (append_one_cell _ _ _) (by intro u hu; simp at hu; subst hu; rfl) (by unfold maxLen; omega) (by omega) (by simp; omega) ?_)
              intro v' w4 hown' hgrow _
              have hW4 : Below w1.heap.size w1 w4 := (hW2.alloc hwr3 _).grown hgrow (by simp; omega) (fun g hg => (hown2.lt g hg).1)
              obtain ⟨a', c', rfl⟩ := own_shape hown'
              have hown4 : w4.ownsRow w1.heap.size 3 1 (.slice a' (m + 1) c') (m + 1) ((done ++ [((y : Nat) : Int)]).map (Value.int .i64)) := by rw [List.map_append]; exact hown'
              clear hown' hgrow hown2 hW2
              go_wp2
              go_roundw
              case rel => exact ⟨k + 1, m + 1, done ++ [((y : Nat) : Int)], a', c', by omega, by omega, by simp [HMD.out], by go_num, rfl, hown4, HSS, hW4⟩
              case measure => simp [intOf] <;> omega
            · have hy : y < s.size := by omega
              by_cases hc4 : c = 4
              · rw [Hop.knd_zero (by omega)] at gK
                rw [show ((0 : Nat) : Int) = 0 from rfl] at gK
                have f2 : (((y : Nat) : Int) == (s.size : Nat)) = false := by simp; omega
                have fb : ((s[y].toNat : Int) == 10) = true := (byte_is hy).1 ((hf.1 (by omega)).resolve_left (by omega))
                rw [if_pos (show Hop.told _ _ from .inr ⟨hc4, hd4⟩)] at HSS
                have HMD := Lib.hid hmd
                clear hmd hf hp hc hgK2 hz hk0 hd4
                go_wp2
                go_quiet (fail)
                have hW2 : Below w1.heap.size w1 (wr.drewN nq) := hW.trans ((below_gb (gb_drewN wr nq none)).mono hwr)
                have hown2 := own_below hown (below_gb (gb_drewN wr nq none))
                generalize wr.drewN nq = w3 at *
                have hwr3 : w1.heap.size ≤ w3.heap.size := hW2.size
                clear hown hW gP gK
                go_wp2_with (at_builtin; refine wpList_append_own _ rfl _ _ 24 rfl w1.heap.size 3 i0 (.int .i64 0) 1 8 Try.underlying24 hi hz0 hz1 hz2 rfl (by decide) _ _ _ rfl (hown2.alloc _) ⟨w3.heap.size, 0, none⟩ 1 1 [.int .i64 (y : Nat)] rfl rfl (append_one_cell _ _ _) (by intro u hu; simp at hu; subst hu; rfl) (by unfold maxLen; omega) (by omega) (by simp; omega) ?_)
                intro v' w4 hown' hgrow _
                have hW4 : Below w1.heap.size w1 w4 := (hW2.alloc hwr3 _).grown hgrow (by simp; omega) (fun g hg => (hown2.lt g hg).1)
                obtain ⟨a', c', rfl⟩ := own_shape hown'
                have hown4 : w4.ownsRow w1.heap.size 3 1 (.slice a' (m + 1) c') (m + 1) ((done ++ [((y : Nat) : Int)]).map (Value.int .i64)) := by rw [List.map_append]; exact hown'
                clear hown' hgrow hown2 hW2
                go_wp2
                go_roundw
                case rel => exact ⟨k + 1, m + 1, done ++ [((y : Nat) : Int)], a', c', by omega, by omega, by simp [HMD.out], by go_num, rfl, hown4, HSS, hW4⟩
                case measure => simp [intOf] <;> omega
              · rw [Hop.knd_zero (by omega)] at gK
                rw [show ((0 : Nat) : Int) = 0 from rfl] at gK
                have f2 : (((y : Nat) : Int) == (s.size : Nat)) = false := by simp; omega
                have fb : ((s[y].toNat : Int) == 10) = false := (byte_is hy).2 (fun h => by have := hf.2 (.inr h); omega)
                rw [if_neg (show ¬ Hop.told _ _ from by unfold Hop.told; omega), List.append_nil] at HSS
                have HMD := Lib.hid hmd
                clear hmd hf hp hc hgK2 hz hk0 hd4
                go_wp2
                go_quiet (fail)
                have hW2 : Below w1.heap.size w1 (wr.drewN nq) := hW.trans ((below_gb (gb_drewN wr nq none)).mono hwr)
                have hown2 := own_below hown (below_gb (gb_drewN wr nq none))
                generalize wr.drewN nq = w3 at *
                have hwr3 : w1.heap.size ≤ w3.heap.size := hW2.size
                clear hown hW gP gK
                go_wp2
                go_roundw
                case rel => exact ⟨k + 1, m, done, a, cc, by omega, by omega, HMD.out, by go_num, rfl, hown2, HSS, hW2⟩
                case measure => simp [intOf] <;> omega
          · have hy : y < s.size := by
              rcases Nat.lt_or_ge y s.size with h | h
              · exact h
              · exfalso; have := hf.2 (.inl (by omega)); omega
            rw [Hop.knd_same (by omega)] at gK
            have f1 : (((c : Nat) : Int) != 0) = true := by simp; omega
            have f2 : (((y : Nat) : Int) == (s.size : Nat)) = false := by simp; omega
            have fb : ((s[y].toNat : Int) == 10) = false := (byte_is hy).2 (fun h => by have := hf.2 (.inr h); omega)
            rw [if_pos (show Hop.told _ _ from .inl (by omega))] at HSS
            have HMD := Lib.hid hmd
            clear hmd hf hp hc hgK2 hz hk0 hd4
            go_wp2
            go_quiet (fail)
            have hW2 : Below w1.heap.size w1 (wr.drewN nq) := hW.trans ((below_gb (gb_drewN wr nq none)).mono hwr)
            have hown2 := own_below hown (below_gb (gb_drewN wr nq none))
            generalize wr.drewN nq = w3 at *
            have hwr3 : w1.heap.size ≤ w3.heap.size := hW2.size
            clear hown hW gP gK
            go_wp2_with (at_builtin; refine wpList_append_own _ rfl _ _ 24 rfl w1.heap.size 3 i0 (.int .i64 0) 1 8 Try.underlying24 hi hz0 hz1 hz2 rfl (by decide) _ _ _ rfl (hown2.alloc _) ⟨w3.heap.size, 0, none⟩ 1 1 [.int .i64 (y : Nat)] rfl rfl (append_one_cell _ _ _) (by intro u hu; simp at hu; subst hu; rfl) (by unfold maxLen; omega) (by omega) (by simp; omega) ?_)
            intro v' w4 hown' hgrow _
            have hW4 : Below w1.heap.size w1 w4 := (hW2.alloc hwr3 _).grown hgrow (by simp; omega) (fun g hg => (hown2.lt g hg).1)
            obtain ⟨a', c', rfl⟩ := own_shape hown'
            have hown4 : w4.ownsRow w1.heap.size 3 1 (.slice a' (m + 1) c') (m + 1) ((done ++ [((y : Nat) : Int)]).map (Value.int .i64)) := by rw [List.map_append]; exact hown'
            clear hown' hgrow hown2 hW2
            go_wp2
            go_roundw
            case rel => exact ⟨k + 1, m + 1, done ++ [((y : Nat) : Int)], a', c', by omega, by omega, by simp [HMD.out], by go_num, rfl, hown4, HSS, hW4⟩
            case measure => simp [intOf] <;> omega
        · have hyn : ¬ y = 0 := fun h => by have := hz.2 h; omega
          obtain ⟨q, rfl⟩ : ∃ q, y = q + 1 := ⟨y - 1, by omega⟩
          have hqs : q < s.size := by omega
          have gprev := hgK2 j rfl
          rw [Nat.add_sub_cancel] at hp
          have fk : ((j : Int) + 1 == 0) = false := by simp; omega
          have fy : ((q : Int) + 1 == 0) = false := by simp; omega
          have wj : IntKind.i64.wrap (j : Int) = j := by rw [IntKind.wrap_i64]; omega
          have wq : IntKind.i64.wrap (q : Int) = q := by rw [IntKind.wrap_i64]; omega
          have n1 : (0 : Int) ≤ (j : Int) := by omega
          have n2 : (j : Int) < (rs.length : Int) + 1 := by omega
          have n3 : j < rs.length + 1 := by omega
          by_cases hd4 : d = 4
          · have fq : ((s[q].toNat : Int) == 10) = true := (byte_is hqs).1 ((hp.1 hd4).resolve_left (by omega))
            by_cases hcw : c = 1 ∨ c = 4
            · by_cases hend : q + 1 = s.size
              · have hc4 : c = 4 := hf.2 (.inl hend)
                rw [Hop.knd_zero (by omega)] at gK
                rw [show ((0 : Nat) : Int) = 0 from rfl] at gK
                have fe : ((q : Int) + 1 == (s.size : Nat)) = true := by simp; omega
                have gP2 : wr.cell? { block := ad.block, off := ad.off + (j + 1) } = _ := gP
                have gK2 : wr.cell? { block := ad'.block, off := ad'.off + (j + 1) } = _ := gK
                rw [if_pos (show Hop.told _ _ from .inr ⟨hc4, hd4⟩)] at HSS
                have HMD := Lib.hid hmd
                clear hmd hf hp hc hgK2 hz hend hc4
                go_wp2
                go_quiet (fail)
                have hW2 : Below w1.heap.size w1 (wr.drewN nq) := hW.trans ((below_gb (gb_drewN wr nq none)).mono hwr)
                have hown2 := own_below hown (below_gb (gb_drewN wr nq none))
                generalize wr.drewN nq = w3 at *
                have hwr3 : w1.heap.size ≤ w3.heap.size := hW2.size
                clear hown hW gP gK gP2 gK2
                go_wp2_with (at_builtin; refine wpList_append_own _ rfl _ _ 24 rfl w1.heap.size 3 i0 (.int .i64 0) 1 8 Try.underlying24 hi hz0 hz1 hz2 rfl (by decide) _ _ _ rfl (hown2.alloc _) ⟨w3.heap.size, 0, none⟩ 1 1 [.int .i64 ((q : Int) + 1)] rfl rfl (append_one_cell _ _ _) (by intro u hu; simp at hu; subst hu; rfl) (by unfold maxLen; omega) (by omega) (by simp; omega) ?_)
                intro v' w4 hown' hgrow _
                have hW4 : Below w1.heap.size w1 w4 := (hW2.alloc hwr3 _).grown hgrow (by simp; omega) (fun g hg => (hown2.lt g hg).1)
                obtain ⟨a', c', rfl⟩ := own_shape hown'
                have hown4 : w4.ownsRow w1.heap.size 3 1 (.slice a' (m + 1) c') (m + 1) ((done ++ [(((q : Int) + 1) : Int)]).map (Value.int .i64)) := by rw [List.map_append]; exact hown'
                clear hown' hgrow hown2 hW2
                go_wp2
                go_roundw
                case rel => exact ⟨(j + 1) + 1, m + 1, done ++ [(((q : Int) + 1) : Int)], a', c', by omega, by omega, by simp [HMD.out], by go_num, rfl, hown4, HSS, hW4⟩
                case measure => simp [intOf] <;> omega
              · have hy : q + 1 < s.size := by omega
                have fe : ((q : Int) + 1 == (s.size : Nat)) = false := by simp; omega
                by_cases hc4 : c = 4
                · rw [Hop.knd_zero (by omega)] at gK
                  rw [show ((0 : Nat) : Int) = 0 from rfl] at gK
                  have fb : ((s[q + 1].toNat : Int) == 10) = true := (byte_is hy).1 ((hf.1 (by omega)).resolve_left (by omega))
                  have gP2 : wr.cell? { block := ad.block, off := ad.off + (j + 1) } = _ := gP
                  have gK2 : wr.cell? { block := ad'.block, off := ad'.off + (j + 1) } = _ := gK
                  rw [if_pos (show Hop.told _ _ from .inr ⟨hc4, hd4⟩)] at HSS
                  have HMD := Lib.hid hmd
                  clear hmd hf hp hc hgK2 hz
                  go_wp2
                  go_quiet (fail)
                  have hW2 : Below w1.heap.size w1 (wr.drewN nq) := hW.trans ((below_gb (gb_drewN wr nq none)).mono hwr)
                  have hown2 := own_below hown (below_gb (gb_drewN wr nq none))
                  generalize wr.drewN nq = w3 at *
                  have hwr3 : w1.heap.size ≤ w3.heap.size := hW2.size
                  clear hown hW gP gK gP2 gK2
                  go_wp2_with (at_builtin; refine wpList_append_own _ rfl _ _ 24 rfl w1.heap.size 3 i0 (.int .i64 0) 1 8 Try.underlying24 hi hz0 hz1 hz2 rfl (by decide) _ _ _ rfl (hown2.alloc _) ⟨w3.heap.size, 0, none⟩ 1 1 [.int .i64 ((q : Int) + 1)] rfl rfl (append_one_cell _ _ _) (by intro u hu; simp at hu; subst hu; rfl) (by unfold maxLen; omega) (by omega) (by simp; omega) ?_)
                  intro v' w4 hown' hgrow _
                  have hW4 : Below w1.heap.size w1 w4 := (hW2.alloc hwr3 _).grown hgrow (by simp; omega) (fun g hg => (hown2.lt g hg).1)
                  obtain ⟨a', c', rfl⟩ := own_shape hown'
                  have hown4 : w4.ownsRow w1.heap.size 3 1 (.slice a' (m + 1) c') (m + 1) ((done ++ [(((q : Int) + 1) : Int)]).map (Value.int .i64)) := by rw [List.map_append]; exact hown'
                  clear hown' hgrow hown2 hW2
                  go_wp2
                  go_roundw
                  case rel => exact ⟨(j + 1) + 1, m + 1, done ++ [(((q : Int) + 1) : Int)], a', c', by omega, by omega, by simp [HMD.out], by go_num, rfl, hown4, HSS, hW4⟩
                  case measure => simp [intOf] <;> omega
                · rw [Hop.knd_zero (by omega)] at gK
                  rw [show ((0 : Nat) : Int) = 0 from rfl] at gK
                  have fb : ((s[q + 1].toNat : Int) == 10) = false := (byte_is hy).2 (fun h => by have := hf.2 (.inr h); omega)
                  have gP2 : wr.cell? { block := ad.block, off := ad.off + (j + 1) } = _ := gP
                  have gK2 : wr.cell? { block := ad'.block, off := ad'.off + (j + 1) } = _ := gK
                  rw [if_neg (show ¬ Hop.told _ _ from by unfold Hop.told; omega), List.append_nil] at HSS
                  have HMD := Lib.hid hmd
                  clear hmd hf hp hc hgK2 hz
                  go_wp2
                  go_quiet (fail)
                  have hW2 : Below w1.heap.size w1 (wr.drewN nq) := hW.trans ((below_gb (gb_drewN wr nq none)).mono hwr)
                  have hown2 := own_below hown (below_gb (gb_drewN wr nq none))
                  generalize wr.drewN nq = w3 at *
                  have hwr3 : w1.heap.size ≤ w3.heap.size := hW2.size
                  clear hown hW gP gK gP2 gK2
                  go_wp2
                  go_roundw
                  case rel => exact ⟨(j + 1) + 1, m, done, a, cc, by omega, by omega, HMD.out, by go_num, rfl, hown2, HSS, hW2⟩
                  case measure => simp [intOf] <;> omega
            · have hy : q + 1 < s.size := by
                rcases Nat.lt_or_ge (q + 1) s.size with h | h
                · exact h
                · exfalso; have := hf.2 (.inl (by omega)); omega
              have fe : ((q : Int) + 1 == (s.size : Nat)) = false := by simp; omega
              rw [Hop.knd_same (by omega)] at gK
              have f1 : (((c : Nat) : Int) != 0) = true := by simp; omega
              rw [Hop.knd_zero (by omega)] at gprev
              rw [show ((0 : Nat) : Int) = 0 from rfl] at gprev
              have fc : ((0 : Int) != (c : Nat)) = true := by simp; omega
              have fb : ((s[q + 1].toNat : Int) == 10) = false := (byte_is hy).2 (fun h => by have := hf.2 (.inr h); omega)
              have gP2 : wr.cell? { block := ad.block, off := ad.off + (j + 1) } = _ := gP
              have gK2 : wr.cell? { block := ad'.block, off := ad'.off + (j + 1) } = _ := gK
              rw [if_pos (show Hop.told _ _ from .inl (by omega))] at HSS
              have HMD := Lib.hid hmd
              clear hmd hf hp hc hgK2 hz
              go_wp2
              go_quiet (fail)
              have hW2 : Below w1.heap.size w1 (wr.drewN nq) := hW.trans ((below_gb (gb_drewN wr nq none)).mono hwr)
              have hown2 := own_below hown (below_gb (gb_drewN wr nq none))
              generalize wr.drewN nq = w3 at *
              have hwr3 : w1.heap.size ≤ w3.heap.size := hW2.size
              clear hown hW gP gK gP2 gK2
              go_wp2_with (at_builtin; refine wpList_append_own _ rfl _ _ 24 rfl w1.heap.size 3 i0 (.int .i64 0) 1 8 Try.underlying24 hi hz0 hz1 hz2 rfl (by decide) _ _ _ rfl (hown2.alloc _) ⟨w3.heap.size, 0, none⟩ 1 1 [.int .i64 ((q : Int) + 1)] rfl rfl (append_one_cell _ _ _) (by intro u hu; simp at hu; subst hu; rfl) (by unfold maxLen; omega) (by omega) (by simp; omega) ?_)
              intro v' w4 hown' hgrow _
              have hW4 : Below w1.heap.size w1 w4 := (hW2.alloc hwr3 _).grown hgrow (by simp; omega) (fun g hg => (hown2.lt g hg).1)
              obtain ⟨a', c', rfl⟩ := own_shape hown'
              have hown4 : w4.ownsRow w1.heap.size 3 1 (.slice a' (m + 1) c') (m + 1) ((done ++ [(((q : Int) + 1) : Int)]).map (Value.int .i64)) := by rw [List.map_append]; exact hown'
              clear hown' hgrow hown2 hW2
              go_wp2
              go_roundw
              case rel => exact ⟨(j + 1) + 1, m + 1, done ++ [(((q : Int) + 1) : Int)], a', c', by omega, by omega, by simp [HMD.out], by go_num, rfl, hown4, HSS, hW4⟩
              case measure => simp [intOf] <;> omega
          · have fq : ((s[q].toNat : Int) == 10) = false := (byte_is hqs).2 (fun h => hd4 (hp.2 (.inr h)))
            by_cases hcw : c = 1 ∨ c = 4
            · rw [Hop.knd_zero (by omega)] at gK
              rw [show ((0 : Nat) : Int) = 0 from rfl] at gK
              have gP2 : wr.cell? { block := ad.block, off := ad.off + (j + 1) } = _ := gP
              have gK2 : wr.cell? { block := ad'.block, off := ad'.off + (j + 1) } = _ := gK
              rw [if_neg (show ¬ Hop.told _ _ from by unfold Hop.told; omega), List.append_nil] at HSS
              have HMD := Lib.hid hmd
              clear hmd hf hp hc hgK2 hz
              go_wp2
              go_quiet (fail)
              have hW2 : Below w1.heap.size w1 (wr.drewN nq) := hW.trans ((below_gb (gb_drewN wr nq none)).mono hwr)
              have hown2 := own_below hown (below_gb (gb_drewN wr nq none))
              generalize wr.drewN nq = w3 at *
              have hwr3 : w1.heap.size ≤ w3.heap.size := hW2.size
              clear hown hW gP gK gP2 gK2
              go_wp2
              go_roundw
              case rel => exact ⟨(j + 1) + 1, m, done, a, cc, by omega, by omega, HMD.out, by go_num, rfl, hown2, HSS, hW2⟩
              case measure => simp [intOf] <;> omega
            · have hy : q + 1 < s.size := by
                rcases Nat.lt_or_ge (q + 1) s.size with h | h
                · exact h
                · exfalso; have := hf.2 (.inl (by omega)); omega
              have fe : ((q : Int) + 1 == (s.size : Nat)) = false := by simp; omega
              by_cases hcd : d = c
              · subst hcd
                rw [Hop.knd_same (by omega)] at gK gprev
                have f0 : ((d : Int) != 0) = true := by simp; omega
                have gP2 : wr.cell? { block := ad.block, off := ad.off + (j + 1) } = _ := gP
                have gK2 : wr.cell? { block := ad'.block, off := ad'.off + (j + 1) } = _ := gK
                rw [if_neg (show ¬ Hop.told _ _ from by unfold Hop.told; omega), List.append_nil] at HSS
                have HMD := Lib.hid hmd
                clear hmd hf hp hc hgK2 hz
                go_wp2
                go_quiet (fail)
                have hW2 : Below w1.heap.size w1 (wr.drewN nq) := hW.trans ((below_gb (gb_drewN wr nq none)).mono hwr)
                have hown2 := own_below hown (below_gb (gb_drewN wr nq none))
                generalize wr.drewN nq = w3 at *
                have hwr3 : w1.heap.size ≤ w3.heap.size := hW2.size
                clear hown hW gP gK gP2 gK2
                go_wp2
                go_roundw
                case rel => exact ⟨(j + 1) + 1, m, done, a, cc, by omega, by omega, HMD.out, by go_num, rfl, hown2, HSS, hW2⟩
                case measure => simp [intOf] <;> omega
              · have fc : (((Hop.knd d : Nat) : Int) != (c : Nat)) = true := by
                  by_cases h : d = 1 ∨ d = 4
                  · rw [Hop.knd_zero h]; simp; omega
                  · rw [Hop.knd_same h]; simp; omega
                generalize Hop.knd d = kd at *
                rw [Hop.knd_same (by omega)] at gK
                have f0 : ((c : Int) != 0) = true := by simp; omega
                have gP2 : wr.cell? { block := ad.block, off := ad.off + (j + 1) } = _ := gP
                have gK2 : wr.cell? { block := ad'.block, off := ad'.off + (j + 1) } = _ := gK
                rw [if_pos (show Hop.told _ _ from .inl (by omega))] at HSS
                have HMD := Lib.hid hmd
                clear hmd hf hp hc hgK2 hz
                go_wp2
                go_quiet (fail)
                have hW2 : Below w1.heap.size w1 (wr.drewN nq) := hW.trans ((below_gb (gb_drewN wr nq none)).mono hwr)
                have hown2 := own_below hown (below_gb (gb_drewN wr nq none))
                generalize wr.drewN nq = w3 at *
                have hwr3 : w1.heap.size ≤ w3.heap.size := hW2.size
                clear hown hW gP gK gP2 gK2
                go_wp2_with (at_builtin; refine wpList_append_own _ rfl _ _ 24 rfl w1.heap.size 3 i0 (.int .i64 0) 1 8 Try.underlying24 hi hz0 hz1 hz2 rfl (by decide) _ _ _ rfl (hown2.alloc _) ⟨w3.heap.size, 0, none⟩ 1 1 [.int .i64 ((q : Int) + 1)] rfl rfl (append_one_cell _ _ _) (by intro u hu; simp at hu; subst hu; rfl) (by unfold maxLen; omega) (by omega) (by simp; omega) ?_)
                intro v' w4 hown' hgrow _
                have hW4 : Below w1.heap.size w1 w4 := (hW2.alloc hwr3 _).grown hgrow (by simp; omega) (fun g hg => (hown2.lt g hg).1)
                obtain ⟨a', c', rfl⟩ := own_shape hown'
                have hown4 : w4.ownsRow w1.heap.size 3 1 (.slice a' (m + 1) c') (m + 1) ((done ++ [(((q : Int) + 1) : Int)]).map (Value.int .i64)) := by rw [List.map_append]; exact hown'
                clear hown' hgrow hown2 hW2
                go_wp2
                go_roundw
                case rel => exact ⟨(j + 1) + 1, m + 1, done ++ [(((q : Int) + 1) : Int)], a', c', by omega, by omega, by simp [HMD.out], by go_num, rfl, hown4, HSS, hW4⟩
                case measure => simp [intOf] <;> omega
      · obtain rfl : k = rs.length + 1 := by omega
        have hX := hSS.out
        rw [Hop.SS_end, List.append_nil] at hX
        rw [hmd] at hown
        have HX := Lib.hid (And.intro hown (And.intro hX (HW.out.trans (hW.mono HW.out.size))))
        have HMD := Lib.hid hmd
        clear hown hX hW hmd hle
        go_wp2
        go_ret
        refine ⟨⟨_, rfl, ?_⟩, HX.out.2.2⟩
        rw [HS.out, HX.out.2.1, HMD.out]
        obtain ⟨h1, h2⟩ := HX.out.1
        refine ⟨h1, h2.imp id ?_⟩
        rintro ⟨g, cap, cur, e1, e2, e3⟩
        exact ⟨g, cap, cur, e1, Nat.le_trans HW.out.size e2, e3⟩
end Go.Proofs.Ytjkcdmlbnfibgaa
