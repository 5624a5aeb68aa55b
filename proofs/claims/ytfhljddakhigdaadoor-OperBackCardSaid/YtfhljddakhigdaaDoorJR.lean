/-
  The document's lines of a text, one by one, and lines as a text.
-/
import Derived.Test.YtfhljddakhigdaaDoorJ2
import Derived.Test.YtfhljddakhigdaaDoorLineRefs2
import Derived.Test.YtfhljddakhigdaaDoorStrsOwn
import Derived.Test.YtfhljddakhigdaaDoorInts
import Derived.Test.YtfhljddakhigdaaDoorDiffs
import Derived.Laws.OwnMore
import Derived.Test.YtfhljddakhigdaaDoorClassRefs
import Derived.BigQuiet
namespace Go.Proofs.YtfhljddakhigdaaDoor
open Go.RowKit
open Opr Gl
/-- The cells of a list of lines. -/
def lrow (R : List (List UInt8)) : List Value := (R.map bs).map Value.string
theorem lrow_length (R : List (List UInt8)) : (lrow R).length = R.length := by simp [lrow]
theorem lrow_append (A B : List (List UInt8)) : lrow (A ++ B) = lrow A ++ lrow B := by simp [lrow]
theorem lrow_get {R : List (List UInt8)} {k : Nat} {x : List UInt8} (h : R[k]? = some x) : (lrow R)[k]? = some (.string (bs x)) := by simp [lrow, h]
theorem lrow_set (R : List (List UInt8)) (k : Nat) (x : List UInt8) : (lrow R).set k (.string (bs x)) = lrow (R.set k x) := by
  simp only [lrow, List.map_set]
theorem lrow_take (R : List (List UInt8)) (k : Nat) : (lrow R).take k = lrow (R.take k) := by simp [lrow]
theorem lrow_drop (R : List (List UInt8)) (k : Nat) : (lrow R).drop k = lrow (R.drop k) := by simp [lrow]
theorem lrow_one (R : List (List UInt8)) : ∀ u ∈ lrow R, u.oneCell' = true := fun u hu => by
  simp only [lrow, List.mem_map] at hu
  obtain ⟨_, _, rfl⟩ := hu
  rfl
theorem Opr.row_seg {s : List UInt8} {k : Nat} {x : Nat × Nat} {r : List UInt8} (hx : (Line.L s)[k]? = some x) (hr : (Ix.parts s)[k]? = some r) : Line.seg s x.1 x.2 = r := by
  obtain ⟨A, B, C, h1, h2, h3, h4, h5, h6, h7⟩ := three (Nat.le_refl k) hx hx
  rw [show k + 1 - k = 1 by omega] at h4
  obtain ⟨y, rfl⟩ := List.length_eq_one_iff.1 h4
  rw [h1, List.getElem?_append_right (by omega), h3, Nat.sub_self] at hr
  simp at hr
  subst hr
  rw [Line.seg, take_of (A := fore A ++ glue [y]) (M := aft C) (by rw [List.append_assoc]; exact h5) (by rw [List.length_append]; exact h7), List.drop_left' h6.symm, glue_one]
set_option maxHeartbeats 2000000 in
set_option maxRecDepth 100000 in
theorem ref23_Rows (s : ByteArray) (hv : Utf.valid s.data.toList = true) (hs : s.size ≤ 100000) (w : World) :
    Calls Tryd.prog 40 #[.string s] w fun e w' => (∃ A c, e = .returned (.slice A (Ix.parts s.data.toList).length c) ∧ w'.ownsRow w.heap.size 9 1 (.slice A (Ix.parts s.data.toList).length c) (Ix.parts s.data.toList).length (lrow (Ix.parts s.data.toList))) ∧ Below w.heap.size w w' := by
  have hM := L_len hv
  have hl := Line.L_length s.data.toList
  rw [data_len] at hl
  obtain ⟨i0, hi, hz0, hz1, hz2⟩ := info_parts info_string
  have A1 := fun w => ref4_Count s (by omega) w
  rw [hM] at A1
  have LX : Hid (∀ (k : Nat) r, (Ix.parts s.data.toList)[k]? = some r → ∃ p q : Nat, p ≤ q ∧ q ≤ s.size ∧ s.extract p q = bs r ∧ (∀ w, Calls Tryd.prog 43 #[.string s, .int .i64 k] w fun e w' => e = .returned (.int .i64 (p : Nat)) ∧ Below w.heap.size w w') ∧ (∀ w, Calls Tryd.prog 60 #[.string s, .int .i64 k] w fun e w' => e = .returned (.int .i64 (q : Nat)) ∧ Below w.heap.size w w')) := fun k r hr => by
    have hx := L_at hv hr
    have he := Line.L_each hx
    rw [data_len] at he
    refine ⟨_, _, he.1, he.2, ?_, fun w => ?_, fun w => ?_⟩
    · rw [ext_seg, row_seg hx hr]
    · have := ref4_Start s k (by omega) w
      rwa [Line.start_some (by rw [Line.line_nat]; exact hx)] at this
    · have := ref4_End s k (by omega) w
      rwa [Line.stop_some (by rw [Line.line_nat]; exact hx)] at this
  rw [hM] at hl
  generalize Ix.parts s.data.toList = R at *
  clear hM hv
  obtain ⟨M, hMl⟩ : ∃ M, R.length = M := ⟨_, rfl⟩
  rw [hMl] at A1 hl
  have C1 := Lib.hid A1
  have HM := Lib.hid hMl
  clear A1
  rw [hMl]
  clear hMl
  have hX := Below.refl w.heap.size w
  go_enter Tryd.func40, Tryd.ntmps40
  go_wp2_with fail
  go_loopw [3, 4] (fun v iv wr => ∃ (a : Option Addr) (c k : Nat), k ≤ M ∧ iv = .int .i64 k ∧ v = .slice a k c ∧ Hid (wr.ownsRow w.heap.size 9 1 v k (lrow (R.take k))) ∧ Below w.heap.size w wr) (fun _ iv _ => M - (intOf iv).toNat)
  case atStart => exact ⟨_, 0, 0, Nat.zero_le _, rfl, rfl, World.ownsRow_nil _ _ _ _, hX⟩
  case round =>
    clear hX
    obtain ⟨a, c, k, hk, rfl, rfl, hown, hW⟩ := hrel
    by_cases hlt : k < M
    · obtain ⟨r, hr⟩ : ∃ r, R[k]? = some r := ⟨_, List.getElem?_eq_getElem (by have := HM.out; omega)⟩
      obtain ⟨p, q, hpq, hqs, hex, S0, E0⟩ := LX.out k r hr
      have S1 := Lib.hid S0
      have E1 := Lib.hid E0
      have hS : Hid (lrow (R.take (k + 1)) = lrow (R.take k) ++ [Value.string (bs r)]) := by
        show _ = _
        rw [List.take_add_one, hr]
        exact lrow_append _ _
      have d1 : decide ((k : Int) < (M : Int)) = true := decide_eq_true (by omega)
      have i1 : (p : Int) ≤ (q : Int) := by omega
      have i2 : (q : Int) ≤ (s.size : Int) := by omega
      have hO := hown.out
      clear hr S0 E0 hown
      go_wp2_with (first
        | (go_at_call 35; (with_reducible refine (C1.out _).mono ?_); rintro e u ⟨rfl, hb⟩; replace hO := hO.kept (gb_below none hb) (by cases hv : (Value.slice a k c).ownBlock <;> simp); replace hW := hW.trans (hb.mono hW.size); clear hb)
        | (go_at_call 43; (with_reducible refine (S1.out _).mono ?_); rintro e u ⟨rfl, hb⟩; replace hO := hO.kept (gb_below none hb) (by cases hv : (Value.slice a k c).ownBlock <;> simp); replace hW := hW.trans (hb.mono hW.size); clear hb)
        | (go_at_call 60; (with_reducible refine (E1.out _).mono ?_); rintro e u ⟨rfl, hb⟩; replace hO := hO.kept (gb_below none hb) (by cases hv : (Value.slice a k c).ownBlock <;> simp); replace hW := hW.trans (hb.mono hW.size); clear hb; have hN := Blk.new u 9 #[.string (bs r)]; have hO2 := hO.alloc (.cells #[.string (bs r)] 9); have hW2 := hW.alloc hW.size (.cells #[.string (bs r)] 9))
        | (at_builtin; refine wpList_append_own _ rfl _ _ 49 rfl w.heap.size 9 i0 (.string ⟨#[]⟩) 1 16 Tryd.underlying49 hi hz0 hz1 hz2 rfl (by decide) _ _ _ rfl hO2 ⟨u.heap.size, 0, none⟩ 1 1 [.string (bs r)] rfl rfl ?c1 ?c2 ?c3 ?c4 ?c5 ?_))
      case c1 =>
        intro j y hj
        have e : (⟨u.heap.size, 0, none⟩ : Addr).add j = ⟨u.heap.size, j, none⟩ := by unfold Addr.add; split <;> simp_all
        rw [e, hN.cell]
        simpa using hj
      case c2 => intro y hy; simp at hy; subst hy; rfl
      case c3 => unfold maxLen; omega
      case c4 => omega
      case c5 => exact hW2.size
      intro v' w6 hown6 hgrow6 _
      obtain ⟨a6, cap6, rfl⟩ := own_shape hown6
      rw [← hS.out] at hown6
      have W6 := hW2.grown hgrow6 hW2.size (fun j hj => (hO2.lt j hj).1)
      have HO := Lib.hid hown6
      clear hgrow6 hown6 hO hO2 hN
      go_wp2
      go_roundw
      case rel => exact ⟨a6, cap6, k + 1, by omega, by go_num, rfl, HO, W6⟩
      case measure => simp [intOf]; omega
    · obtain rfl : k = M := by omega
      have d1 : decide ((k : Int) < (k : Int)) = false := decide_eq_false (by omega)
      have hO := hown.out
      rw [List.take_of_length_le (by have := HM.out; omega)] at hO
      clear hown LX
      go_wp2_with (go_at_call 35; (with_reducible refine (C1.out _).mono ?_); rintro e u ⟨rfl, hb⟩; replace hO := hO.kept (gb_below none hb) (by cases hv : (Value.slice a k c).ownBlock <;> simp); replace hW := hW.trans (hb.mono hW.size); clear hb)
      go_ret
      exact ⟨⟨a, c, rfl, hO⟩, hW⟩
theorem Gl.glue_next {R : List (List UInt8)} {k : Nat} {x : List UInt8} (h : R[k]? = some x) : glue (R.take (k + 1)) = (if 0 < k then glue (R.take k) ++ [10] else glue (R.take k)) ++ x := by
  rw [List.take_add_one, h]
  have hk := (List.getElem?_eq_some_iff.1 h).1
  cases k with
  | zero =>
    rw [if_neg (by omega)]
    exact glue_one x
  | succ k =>
    rw [if_pos (by omega), glue_aft (by intro e; have := congrArg List.length e; rw [List.length_take, List.length_nil] at this; omega)]
    show _ ++ aft [x] = _
    simp [aft]
theorem Gl.glue_le (R : List (List UInt8)) (k : Nat) : (glue (R.take k)).length ≤ (glue R).length := by
  cases R with
  | nil => simp [glue]
  | cons y r =>
    rcases Nat.eq_zero_or_pos k with h | h
    · subst h; simp [glue]
    · have e : y :: r = (y :: r).take k ++ (y :: r).drop k := (List.take_append_drop k (y :: r)).symm
      have hne : (y :: r).take k ≠ [] := by intro e; have := congrArg List.length e; rw [List.length_take, List.length_nil, List.length_cons] at this; omega
      conv => rhs; rw [e, glue_aft hne, List.length_append]
      omega
set_option maxHeartbeats 1000000 in
set_option maxRecDepth 100000 in
theorem ref23_Glue {A : Option Addr} {c n : Nat} {R : List (List UInt8)} {w : World} (hx : Strs w A (R.map bs)) (hl : (glue R).length ≤ 1000000000) (hn : R.length = n) (hn2 : n ≤ 1000000000) :
    Calls Tryd.prog 42 #[.slice A n c] w fun e w' => e = .returned (.string (bs (glue R))) ∧ w = w' := by
  have HN := Lib.hid hn
  have HG := Lib.hid (fun k => glue_le R k)
  clear hn
  go_enter Tryd.func42, Tryd.ntmps42
  go_wp2_with fail
  go_loop [3, 4] (fun sv iv => ∃ k : Nat, k ≤ n ∧ iv = .int .i64 k ∧ sv = .string (bs (glue (R.take k)))) (fun _ iv => n - (intOf iv).toNat)
  case atStart => exact ⟨0, Nat.zero_le _, rfl, rfl⟩
  case round =>
    obtain ⟨k, hk, rfl, rfl⟩ := hrel
    by_cases hlt : k < n
    · have hkR : k < R.length := by have := HN.out; omega
      obtain ⟨r, hr⟩ : ∃ r, R[k]? = some r := ⟨_, List.getElem?_eq_getElem hkR⟩
      obtain ⟨ad, rfl, h1⟩ := hx.at_ (k := k) (by simpa using hkR)
      rw [List.getElem_map, show R[k] = r from by rw [List.getElem?_eq_getElem hkR] at hr; injection hr] at h1
      have hnx := glue_next hr
      have hle := HG.out (k + 1)
      have hi : (k : Int) < (n : Int) := by omega
      rw [hnx] at hle
      by_cases h0 : 0 < k
      · rw [if_pos h0] at hnx hle
        have hlen : (bs (glue (R.take k))).size + (bs r).size + 1 ≤ 1000000000 := by rw [bs_size, bs_size]; simp only [List.length_append, List.length_singleton] at hle; omega
        have H1 : bs (glue (R.take k)) ++ ⟨#[10]⟩ = bs (glue (R.take k) ++ [10]) := bs_append _ [10]
        have H2 : Hid (bs (glue (R.take k) ++ [10]) ++ bs r = bs (glue (R.take (k + 1)))) := by show _ = _; rw [bs_append, hnx]
        have hz : (bs (glue (R.take k) ++ [10])).size = (bs (glue (R.take k))).size + 1 := by rw [bs_size, bs_size]; simp
        have g0 : decide ((0 : Int) < (k : Int)) = true := decide_eq_true (by omega)
        have z1 : ¬ 9223372036854775807 < (bs (glue (R.take k))).size + 1 := by omega
        have z2 : ¬ 9223372036854775807 < (bs (glue (R.take k) ++ [10])).size + (bs r).size := by omega
        clear hr hkR hx hnx hle
        generalize bs (glue (R.take k) ++ [10]) = S2 at *
        generalize bs (glue (R.take k)) = S at *
        generalize bs r = Q at *
        go_wp2
        go_round
        case rel => exact ⟨k + 1, by omega, by go_num, by rw [← H2.out]⟩
        case measure => simp [intOf]; omega
      · rw [if_neg h0] at hnx hle
        have hlen : (bs (glue (R.take k))).size + (bs r).size ≤ 1000000000 := by rw [bs_size, bs_size]; simp only [List.length_append] at hle; omega
        have H2 : Hid (bs (glue (R.take k)) ++ bs r = bs (glue (R.take (k + 1)))) := by show _ = _; rw [bs_append, hnx]
        have g0 : decide ((0 : Int) < (k : Int)) = false := decide_eq_false (by omega)
        have z2 : ¬ 9223372036854775807 < (bs (glue (R.take k))).size + (bs r).size := by omega
        clear hr hkR hx hnx hle
        generalize bs (glue (R.take k)) = S at *
        generalize bs r = Q at *
        go_wp2
        go_round
        case rel => exact ⟨k + 1, by omega, by go_num, by rw [← H2.out]⟩
        case measure => simp [intOf]; omega
    · obtain rfl : k = n := by omega
      have HT : Hid (R.take k = R) := by show _ = _; rw [List.take_of_length_le (by have := HN.out; omega)]
      clear hx
      go_wp2
      go_ret
      exact ⟨by rw [HT.out]; rfl, rfl⟩
end Go.Proofs.YtfhljddakhigdaaDoor
/-
  Lines joined by the document.
-/
namespace Go.Proofs.YtfhljddakhigdaaDoor
open Go.RowKit
open Opr Gl
namespace Opr
theorem joinR_len {R : List (List UInt8)} {k i : Nat} (hi : 1 ≤ i) (h : k + i ≤ R.length) : (joinR R k i).length + i = R.length + 1 := by
  rw [joinR, List.length_append, List.length_cons, List.length_take, List.length_drop]; omega
theorem joinR_one {R : List (List UInt8)} {k : Nat} (h : k < R.length) : joinR R k 1 = R := by
  rw [joinR, Nat.sub_self, List.take_zero]
  show R.take k ++ (R.getD k [] :: R.drop (k + 1)) = R
  rw [show R.getD k [] = R[k] by simp [List.getD_eq_getElem?_getD, h], List.getElem_cons_drop, List.take_append_drop]
theorem joinR_at {R : List (List UInt8)} {k i : Nat} (h : k + 1 ≤ R.length) : (joinR R k i)[k]? = some (joined (R.getD k []) ((R.drop (k + 1)).take (i - 1))) := by
  rw [joinR, List.getElem?_append_right (by rw [List.length_take]; omega), List.length_take, show k - min k R.length = 0 by omega]
  rfl
theorem joinR_next {R : List (List UInt8)} {k i : Nat} {x : List UInt8} (h : R[k + i]? = some x) : (joinR R k i)[k + 1]? = some x := by
  have hl := (List.getElem?_eq_some_iff.1 h).1
  rw [joinR, List.getElem?_append_right (by rw [List.length_take]; omega), List.length_take, show k + 1 - min k R.length = 1 by omega, List.getElem?_cons_succ, List.getElem?_drop, Nat.add_zero, h]
theorem joinR_step {R : List (List UInt8)} {k i : Nat} {x : List UInt8} (hi : 1 ≤ i) (h : R[k + i]? = some x) : joinAt (R.getD k []) ((R.drop (k + 1)).take i) = (joined (R.getD k []) ((R.drop (k + 1)).take (i - 1))).length ∧ joined (R.getD k []) ((R.drop (k + 1)).take i) = two (joined (R.getD k []) ((R.drop (k + 1)).take (i - 1))) x := by
  have := joinAt_step (a := R.getD k []) (R := R.drop (k + 1)) (k := i - 1) (X := x) (by rw [List.getElem?_drop, show k + 1 + (i - 1) = k + i by omega]; exact h)
  rwa [show i - 1 + 1 = i by omega] at this
theorem joinR_put {R : List (List UInt8)} {k i : Nat} {x : List UInt8} (hi : 1 ≤ i) (h : R[k + i]? = some x) : ((joinR R k i).set k (two (joined (R.getD k []) ((R.drop (k + 1)).take (i - 1))) x)).take (k + 1) ++ ((joinR R k i).set k (two (joined (R.getD k []) ((R.drop (k + 1)).take (i - 1))) x)).drop (k + 2) = joinR R k (i + 1) := by
  have hl := (List.getElem?_eq_some_iff.1 h).1
  have hs := (joinR_step hi h).2
  have e1 : (joinR R k i).set k (two (joined (R.getD k []) ((R.drop (k + 1)).take (i - 1))) x) = (R.take k ++ [two (joined (R.getD k []) ((R.drop (k + 1)).take (i - 1))) x]) ++ (x :: R.drop (k + i + 1)) := by
    rw [joinR, List.set_append_right _ _ (by rw [List.length_take]; omega), List.length_take, show k - min k R.length = 0 by omega, List.set_cons_zero]
    have : R.drop (k + i) = x :: R.drop (k + i + 1) := by rw [List.drop_eq_getElem_cons hl]; congr 1; rw [List.getElem?_eq_getElem hl] at h; injection h
    rw [this]; simp
  have hA : (R.take k ++ [two (joined (R.getD k []) ((R.drop (k + 1)).take (i - 1))) x]).length = k + 1 := by rw [List.length_append, List.length_take, List.length_singleton]; omega
  rw [e1, List.take_left' hA, show k + 2 = (R.take k ++ [two (joined (R.getD k []) ((R.drop (k + 1)).take (i - 1))) x]).length + 1 by rw [hA], List.drop_length_add_append, List.drop_succ_cons, List.drop_zero, joinR, show i + 1 - 1 = i by omega, hs, Nat.add_assoc]
  simp
theorem joinR_small {R : List (List UInt8)} {k i : Nat} (h : k < R.length) : (joined (R.getD k []) ((R.drop (k + 1)).take (i - 1))).length ≤ (fore R).length := by
  have h1 := joined_length (R.getD k []) ((R.drop (k + 1)).take (i - 1))
  have h2 := fore_most (R := R.drop (k + 1)) (i - 1)
  have h3 : fore R = fore (R.take k) ++ fore (R.drop k) := by rw [← fore_append, List.take_append_drop]
  have h4 : R.drop k = R.getD k [] :: R.drop (k + 1) := by rw [List.drop_eq_getElem_cons h]; congr 1; simp [List.getD_eq_getElem?_getD, h]
  have h5 := congrArg List.length h3
  rw [h4, fore_cons, List.length_append, List.length_append, List.length_cons] at h5
  omega
end Opr
set_option maxHeartbeats 1000000 in
set_option maxRecDepth 100000 in
theorem ref23_Join_low (s : ByteArray) (k n : Int) (hs : s.size ≤ 100000) (hv : Utf.valid s.data.toList = true) (h : k < 0) (w : World) :
    Calls Tryd.prog 13 #[.string s, .int .i64 k, .int .i64 n] w fun e w' => e = .returned (.tuple #[.string ⟨#[]⟩, .int .i64 0, .int .i64 1]) ∧ Below w.heap.size w w' := by
  have hB := Below.refl w.heap.size w
  have V0 := fun w => ref_Valid s (by omega) w
  rw [hv] at V0
  have V1 := Lib.hid V0
  clear V0 hv hs
  go_enter Tryd.func13, Tryd.ntmps13
  go_wp2_with (first
    | (go_at_call 39; (with_reducible refine (V1.out _).mono ?_); rintro e u ⟨rfl, hbn⟩; replace hB := hB.trans (hbn.mono hB.size); clear hbn))
  go_ret3
  exact ⟨rfl, hB⟩
set_option maxHeartbeats 1000000 in
set_option maxRecDepth 100000 in
theorem ref23_Join_text (s : ByteArray) (k n : Int) (hs : s.size ≤ 100000) (hv : Utf.valid s.data.toList = false) (w : World) :
    Calls Tryd.prog 13 #[.string s, .int .i64 k, .int .i64 n] w fun e w' => e = .returned (.tuple #[.string ⟨#[]⟩, .int .i64 0, .int .i64 1]) ∧ Below w.heap.size w w' := by
  have hB := Below.refl w.heap.size w
  have V0 := fun w => ref_Valid s (by omega) w
  rw [hv] at V0
  have V1 := Lib.hid V0
  clear V0 hv hs
  go_enter Tryd.func13, Tryd.ntmps13
  go_wp2_with (first
    | (go_at_call 39; (with_reducible refine (V1.out _).mono ?_); rintro e u ⟨rfl, hbn⟩; replace hB := hB.trans (hbn.mono hB.size); clear hbn))
  go_ret3
  exact ⟨rfl, hB⟩
set_option maxHeartbeats 1000000 in
set_option maxRecDepth 100000 in
theorem ref23_Join_past (s : ByteArray) (k : Nat) (n : Int) (hs : s.size ≤ 100000) (hv : Utf.valid s.data.toList = true) (h : (Line.L s.data.toList).length ≤ k) (w : World) :
    Calls Tryd.prog 13 #[.string s, .int .i64 k, .int .i64 n] w fun e w' => e = .returned (.tuple #[.string ⟨#[]⟩, .int .i64 0, .int .i64 1]) ∧ Below w.heap.size w w' := by
  have hB := Below.refl w.heap.size w
  have V0 := fun w => ref_Valid s (by omega) w
  rw [hv] at V0
  have V1 := Lib.hid V0
  have A1 := Lib.hid (fun w => ref4_Count s (by omega) w)
  generalize (Line.L s.data.toList).length = N at *
  have g0 : decide ((k : Int) < 0) = false := decide_eq_false (by omega)
  have g1 : decide ((N : Int) ≤ (k : Int)) = true := decide_eq_true (by omega)
  clear V0 hv hs
  go_enter Tryd.func13, Tryd.ntmps13
  go_wp2_with (first
    | (go_at_call 39; (with_reducible refine (V1.out _).mono ?_); rintro e u ⟨rfl, hbn⟩; replace hB := hB.trans (hbn.mono hB.size); clear hbn)
    | (go_at_call 35; (with_reducible refine (A1.out _).mono ?_); rintro e u ⟨rfl, hbn⟩; replace hB := hB.trans (hbn.mono hB.size); clear hbn))
  go_ret3
  exact ⟨rfl, hB⟩
set_option maxHeartbeats 1000000 in
set_option maxRecDepth 100000 in
theorem ref23_Join_move (s : ByteArray) (k : Nat) (n : Int) (hs : s.size ≤ 100000) (hv : Utf.valid s.data.toList = true) (h : k + 1 = (Line.L s.data.toList).length) (w : World) :
    Calls Tryd.prog 13 #[.string s, .int .i64 k, .int .i64 n] w fun e w' => e = .returned (.tuple #[.string ⟨#[]⟩, .int .i64 0, .int .i64 10]) ∧ Below w.heap.size w w' := by
  have hB := Below.refl w.heap.size w
  have V0 := fun w => ref_Valid s (by omega) w
  rw [hv] at V0
  have V1 := Lib.hid V0
  have A1 := Lib.hid (fun w => ref4_Count s (by omega) w)
  have R1 := Lib.hid (fun w => ref23_Rows s hv hs w)
  have hl := Line.L_length s.data.toList
  rw [data_len] at hl
  rw [← Gl.L_len hv] at R1
  generalize (Line.L s.data.toList).length = N at *
  generalize lrow (Ix.parts s.data.toList) = row at *
  have g0 : decide ((k : Int) < 0) = false := decide_eq_false (by omega)
  have g1 : decide ((N : Int) ≤ (k : Int)) = false := decide_eq_false (by omega)
  have g2 : IntKind.i64.wrap ((N : Int) - 1) = (k : Int) := by rw [IntKind.wrap_i64]; omega
  have g3 : wrap64 ((N : Int) - 1) = (k : Int) := by unfold wrap64; omega
  have g4 : ((k : Int) == (k : Int)) = true := by simp
  clear V0 hv hs
  go_enter Tryd.func13, Tryd.ntmps13
  go_wp2_with (first
    | (go_at_call 39; (with_reducible refine (V1.out _).mono ?_); rintro e u ⟨rfl, hbn⟩; replace hB := hB.trans (hbn.mono hB.size); clear hbn)
    | (go_at_call 35; (with_reducible refine (A1.out _).mono ?_); rintro e u ⟨rfl, hbn⟩; replace hB := hB.trans (hbn.mono hB.size); clear hbn)
    | (go_at_call 40; (with_reducible refine (R1.out _).mono ?_); rintro e u ⟨⟨A, c, rfl, _⟩, hbn⟩; replace hB := hB.trans (hbn.mono hB.size); clear hbn))
  go_ret3
  exact ⟨rfl, hB⟩

namespace Opr
theorem joinR_ok {s : List UInt8} (hv : Utf.valid s = true) {k m : Nat} (hk : k < (Ix.parts s).length) : ∀ x ∈ joinR (Ix.parts s) k m, Utf.valid x = true ∧ Free x := by
  have hp := valid_part hv
  have hf := parts_free s
  have hall : ∀ x ∈ Ix.parts s, Utf.valid x = true ∧ Free x := fun x hx => ⟨hp x hx, hf x hx⟩
  intro x hx
  rw [joinR] at hx
  rcases List.mem_append.1 hx with h | h
  · exact hall x (List.mem_of_mem_take h)
  · rcases List.mem_cons.1 h with h | h
    · subst h
      refine joined_ok (hall _ ?_) fun b hb => hall b (List.mem_of_mem_drop (List.mem_of_mem_take hb))
      rw [show (Ix.parts s).getD k [] = (Ix.parts s)[k] by simp [List.getD_eq_getElem?_getD, hk]]
      exact List.getElem_mem hk
    · exact hall x (List.mem_of_mem_drop h)
theorem joinT_small {s : List UInt8} (hv : Utf.valid s = true) {k m : Nat} (hm : 1 ≤ m) (h : k + m ≤ (Line.L s).length) : (joinT s k m).length ≤ 2 * s.length + 2 := by
  rw [Gl.L_len hv] at h
  have h0 := fore_glue (R := joinR (Ix.parts s) k m) (by rw [joinR]; simp)
  have h1 := fore_glue (Gl.parts_ne s)
  rw [glue_parts] at h1
  have h2 := joinR_small (R := Ix.parts s) (k := k) (i := m) (by omega)
  have h3 := fore_most (R := Ix.parts s) k
  have h4 : fore (Ix.parts s) = fore ((Ix.parts s).take (k + m)) ++ fore ((Ix.parts s).drop (k + m)) := by rw [← fore_append, List.take_append_drop]
  have h5 := congrArg List.length h4
  have h6 : (fore ((Ix.parts s).take k)).length ≤ (fore ((Ix.parts s).take (k + m))).length := by
    rw [List.take_add, fore_append, List.length_append]; omega
  rw [joinR, fore_append, fore_cons, List.length_append, List.length_append, List.length_cons] at h0
  rw [List.length_append] at h5
  show (glue (joinR (Ix.parts s) k m)).length ≤ _
  rw [joinR]
  omega
theorem joinT_place {s : List UInt8} (hv : Utf.valid s = true) {k m : Nat} (hm : 1 ≤ m) (h : k + m ≤ (Line.L s).length) : Line.start (joinT s k m) (k : Nat) = (fore ((Ix.parts s).take k)).length ∧ joinP s k m ≤ 2 * s.length + 2 := by
  have hN := h
  rw [Gl.L_len hv] at hN
  have hok := joinR_ok hv (k := k) (m := m) (by omega)
  rw [joinR] at hok
  have := (start_fore hok (by simp)).1
  rw [List.length_take, show min k (Ix.parts s).length = k by omega] at this
  refine ⟨this, ?_⟩
  have h1 := fore_glue (Gl.parts_ne s)
  rw [glue_parts] at h1
  have h2 : joinAt ((Ix.parts s).getD k []) (((Ix.parts s).drop (k + 1)).take (m - 1)) ≤ (fore (Ix.parts s)).length := by
    rw [joinAt, List.dropLast_eq_take, List.take_take]
    have := joinR_small (R := Ix.parts s) (k := k) (i := min ((((Ix.parts s).drop (k + 1)).take (m - 1)).length - 1) (m - 1) + 1) (by omega)
    rwa [Nat.add_sub_cancel] at this
  have h3 := fore_most (R := Ix.parts s) k
  rw [joinP]
  omega
end Opr
theorem own_some {u : World} {B : Nat} {A : Option Addr} {n c : Nat} {xs : List Value} (h : u.ownsRow B 9 1 (.slice A n c) n xs) (hn : 0 < n) : ∃ g, A = some ⟨g, 0, none⟩ := by
  rcases h.2 with ⟨_, h2⟩ | ⟨g, cap, cur, hv, _⟩
  · have := h.1; subst h2; simp at this; omega
  · injection hv with hA
    exact ⟨g, hA⟩
theorem own_cap {u : World} {B g : Nat} {n c : Nat} {xs : List Value} (h : u.ownsRow B 9 1 (.slice (some ⟨g, 0, none⟩) n c) n xs) : n ≤ c := by
  rcases h.2 with ⟨h1, h2⟩ | ⟨g, cap, cur, hv, _, _, hc, _⟩
  · cases h1
  · injection hv with _ _ hA
    omega
theorem ownsRow_low {u : World} {B C : Nat} {v : Value} {n : Nat} {xs : List Value} (h : u.ownsRow B 9 1 v n xs) (hB : C ≤ B) : u.ownsRow C 9 1 v n xs := by
  refine ⟨h.1, ?_⟩
  rcases h.2 with h2 | ⟨g, cap, cur, hv, hb, r⟩
  · exact .inl h2
  · exact .inr ⟨g, cap, cur, hv, Nat.le_trans hB hb, r⟩
set_option maxHeartbeats 4000000 in
set_option maxRecDepth 100000 in
theorem ref23_Join_two (s : ByteArray) (k : Nat) (n : Int) (m : Nat) (hs : s.size ≤ 100000) (hv : Utf.valid s.data.toList = true) (h : k + 1 < (Line.L s.data.toList).length) (hc : n < 2) (hm2 : 2 ≤ m) (hkm : k + m ≤ (Line.L s.data.toList).length) (hmn : min (max n 2) (((Line.L s.data.toList).length : Int) - (k : Int)) = (m : Int)) (w : World) :
    Calls Tryd.prog 13 #[.string s, .int .i64 k, .int .i64 n] w fun e w' => e = .returned (.tuple #[.string (bs (joinT s.data.toList k m)), .int .i64 (Line.clamp (joinT s.data.toList k m) (joinP s.data.toList k m : Nat)), .int .i64 0]) ∧ Below w.heap.size w w' := by
  have hB := Below.refl w.heap.size w
  have V0 := fun w => ref_Valid s (by omega) w
  rw [hv] at V0
  have V1 := Lib.hid V0
  have A1 := Lib.hid (fun w => ref4_Count s (by omega) w)
  have R1 := fun w => ref23_Rows s hv hs w
  have hl := Line.L_length s.data.toList
  rw [data_len] at hl
  have hL := Gl.L_len hv
  rw [← hL] at R1
  have hfr : (fore (Ix.parts s.data.toList)).length = s.size + 1 := by rw [fore_glue (parts_ne _), glue_parts, data_len]
  have hpt := joinT_place hv (k := k) (m := m) (by omega) (by omega)
  have G0 : Hid (∀ (A : Option Addr) (c j : Nat) (u : World), Strs u A ((joinR (Ix.parts s.data.toList) k m).map bs) → j + m = (Line.L s.data.toList).length + 1 → Calls Tryd.prog 42 #[.slice A j c] u fun e w' => e = .returned (.string (bs (joinT s.data.toList k m))) ∧ u = w') := fun A c j u hS hj => by
    have hjl := joinR_len (R := Ix.parts s.data.toList) (k := k) (i := m) (by omega) (by omega)
    exact ref23_Glue hS (by have := joinT_small hv (k := k) (m := m) (by omega) (by omega); rw [data_len] at this; show (joinT s.data.toList k m).length ≤ _; omega) (by omega) (by omega)
  have hTs := joinT_small hv (k := k) (m := m) (by omega) (by omega)
  rw [data_len] at hTs
  have S0 := fun w => ref4_Start (bs (joinT s.data.toList k m)) k (by rw [bs_size]; omega) w
  rw [bs_toList, hpt.1] at S0
  have C0 := fun w => ref4_Clamp (bs (joinT s.data.toList k m)) (joinP s.data.toList k m : Nat) (by rw [bs_size]; omega) w
  rw [bs_toList] at C0
  have hjp := hpt.2
  rw [data_len] at hjp
  generalize joinT s.data.toList k m = TT at *
  have hJP : Hid (((fore ((Ix.parts s.data.toList).take k)).length : Int) + (joinAt ((Ix.parts s.data.toList).getD k []) (((Ix.parts s.data.toList).drop (k + 1)).take (m - 1)) : Nat) = (joinP s.data.toList k m : Nat)) := by show _ = _; rw [joinP]; omega
  generalize joinP s.data.toList k m = pp at *
  generalize Line.clamp TT pp = zz at *
  generalize (fore ((Ix.parts s.data.toList).take k)).length = aa at *
  generalize (Line.L s.data.toList).length = N at *
  generalize Ix.parts s.data.toList = R at *
  obtain ⟨i0, hi, hz0, hz1, hz2⟩ := info_parts info_string
  have g0 : decide ((k : Int) < 0) = false := decide_eq_false (by omega)
  have g1 : decide ((N : Int) ≤ (k : Int)) = false := decide_eq_false (by omega)
  have g2 : IntKind.i64.wrap ((N : Int) - 1) = (N : Int) - 1 := by rw [IntKind.wrap_i64]; omega
  have g3 : ((k : Int) == (N : Int) - 1) = false := by rw [beq_eq_false_iff_ne]; omega
  have g4 : IntKind.i64.wrap ((N : Int) - (k : Int)) = (N : Int) - (k : Int) := by rw [IntKind.wrap_i64]; omega
  have q0 : decide (n < (2 : Int)) = true := decide_eq_true (by omega)
  have q1 : decide ((2 : Int) > (N : Int) - (k : Int)) = false := decide_eq_false (by omega)
  have q2 : decide ((N : Int) - (k : Int) < (2 : Int)) = false := decide_eq_false (by omega)
  obtain rfl : m = 2 := by omega
  have R2 := Lib.hid R1
  have S1 := Lib.hid S0
  have C1 := Lib.hid C0
  have HL := Lib.hid hL
  have HF := Lib.hid hfr
  clear V0 hv R1 S0 C0 hL hfr hpt
  go_enter Tryd.func13, Tryd.ntmps13
  go_wp2_with (first
    | (go_at_call 39; (with_reducible refine (V1.out _).mono ?_); rintro e u ⟨rfl, hbn⟩; replace hB := hB.trans (hbn.mono hB.size); clear hbn)
    | (go_at_call 35; (with_reducible refine (A1.out _).mono ?_); rintro e u ⟨rfl, hbn⟩; replace hB := hB.trans (hbn.mono hB.size); clear hbn)
    | (go_at_call 40; (with_reducible refine (R2.out _).mono ?_); rintro e u ⟨⟨A, c, rfl, hO⟩, hbn⟩; replace hO := ownsRow_low hO hB.size; replace hB := hB.trans (hbn.mono hB.size); clear hbn))
  go_loopw [9, 10, 11] (fun lv av iv wr => ∃ (i t g c j : Nat), lv = .slice (some ⟨g, 0, none⟩) j c ∧ av = .int .i64 t ∧ iv = .int .i64 i ∧ 1 ≤ i ∧ i ≤ 2 ∧ j + i = N + 1 ∧ Hid (2 ≤ i → t = joinAt (R.getD k []) ((R.drop (k + 1)).take (i - 1))) ∧ Hid (wr.ownsRow w.heap.size 9 1 (.slice (some ⟨g, 0, none⟩) j c) j (lrow (joinR R k i))) ∧ Below w.heap.size w wr) (fun _ _ iv _ => 2 - (intOf iv).toNat)
  case atStart =>
    obtain ⟨g, rfl⟩ := own_some hO (by omega)
    exact ⟨1, 0, g, c, N, rfl, rfl, rfl, Nat.le_refl _, by omega, rfl, fun h => absurd h (by omega), by show World.ownsRow _ _ _ _ _ _ _; rw [joinR_one (by have := HL.out; omega)]; exact hO, hB⟩
  case round =>
    clear hB hO
    obtain ⟨i, t, g, c, j, rfl, rfl, rfl, hi1, him, hji, HT, HO, hB⟩ := hrel
    by_cases hlt : i < 2
    · have r0 : decide ((i : Int) < (2 : Int)) = true := decide_eq_true (by omega)
      obtain ⟨x, hx⟩ : ∃ x, R[k + i]? = some x := ⟨_, List.getElem?_eq_getElem (by have := HL.out; omega)⟩
      obtain ⟨ha0, hs0⟩ := joinR_step hi1 hx
      have hp0 := joinR_put hi1 hx
      have hk0 := joinR_at (i := i) (show k + 1 ≤ R.length by have := HL.out; omega)
      have hk1 := joinR_next hx
      have hO := HO.out
      have c1 := hO.cellAt k (by omega)
      have c2 := hO.cellAt (k + 1) (by omega)
      rw [lrow_get hk0] at c1
      rw [lrow_get hk1] at c2
      have fz := hO.frozenAt k
      have sm0 := joinR_small (R := R) (k := k) (i := i) (by have := HL.out; omega)
      have sm1 := joinR_small (R := R) (k := k) (i := i + 1) (by have := HL.out; omega)
      rw [Nat.add_sub_cancel, hs0] at sm1
      have xl : x.length ≤ s.size + 1 := by have h1 := fore_next hx; have h2 := fore_most (R := R) (k + i + 1); rw [HF.out] at h2; omega
      rw [HF.out] at sm0 sm1
      have HA := Lib.hid ha0
      have hg0 := two_gap (joined (R.getD k []) ((R.drop (k + 1)).take (i - 1))) x
      clear ha0 hs0 hk0 hk1 HT HO
      generalize joined (R.getD k []) ((R.drop (k + 1)).take (i - 1)) = X at *
      have L0 := fun w => ref5_Lead (bs x) (by rw [bs_size]; omega) w
      rw [bs_toList] at L0
      have L1 := Lib.hid L0
      have e1 := extract_from (bs x) (Class.lead x)
      rw [bs_toList] at e1
      have hlead := lead_le x
      have i1 : (Class.lead x : Int) ≤ ((bs x).size : Int) := by rw [bs_size]; omega
      change (bs x).extract (Class.lead x) (bs x).size = bs (trim x) at e1
      have hTl : (trim x).length ≤ x.length := by rw [trim, List.length_drop]; omega
      have g7 := bs_isEmpty (trim x)
      have g8 := bs_isEmpty X
      have hY := bs_size X
      have hZ := bs_size (trim x)
      have hkj : (k : Int) < (j : Int) := by omega
      have hkj1 : (k : Int) + 1 < (j : Int) := by omega
      have hjc : j ≤ c := own_cap hO
      have hJl0 := joinR_len (R := R) (k := k) hi1 (by have := HL.out; omega)
      have HP := Lib.hid hp0
      clear hp0 L0 hlead hx
      go_wp2
      go_quiet (fail)
      have hO2 : (wr.drewN nq).ownsRow w.heap.size 9 1 (.slice (some ⟨g, 0, none⟩) j c) j (lrow (joinR R k i)) := hO
      have hB2 : Below w.heap.size w (wr.drewN nq) := hB.trans ((below_gb (gb_drewN wr nq none)).mono hB.size)
      have c3 : (wr.drewN nq).cell? ⟨g, k, none⟩ = some (.string (bs X)) := c1
      have fz3 : (wr.drewN nq).frozen? ⟨g, k, none⟩ = false := fz
      clear c1 c2 fz hO hB
      generalize wr.drewN nq = wd at *
      obtain ⟨hO1, hgr1⟩ := hO2.stored k (.string (bs (two X x)))
      rw [lrow_set] at hO1
      have hB1 := hB2.grown hgr1 hB2.size (fun q hq => (hO2.lt q hq).1)
      have hJl : ((joinR R k i).set k (two X x)).length = j := by rw [List.length_set]; have := HL.out; omega
      clear hgr1 hJl0
      generalize (joinR R k i).set k (two X x) = J1 at *
      have ha : ∀ o q : Nat, (⟨g, o, none⟩ : Addr).add q = ⟨g, o + q, none⟩ := fun o q => by unfold Addr.add; split <;> simp_all
      have HT1 : Hid (∀ q y, (lrow (J1.take (k + 1)))[q]? = some y → (wd.setCell ⟨g, k, none⟩ (.string (bs (two X x)))).cell? ⟨g, q, none⟩ = some y) := fun q y hy => by
        rw [← lrow_take, List.getElem?_take] at hy
        split at hy
        · have := hO1.cells (g := g) rfl q y hy
          rwa [ha, Nat.zero_add] at this
        · cases hy
      clear hO2
      by_cases h1 : X = []
      ·
        have hnx : bs X ++ bs (trim x) = bs (two X x) := by rw [bs_append, hg0, gap_none (.inr (.inl h1)), List.append_nil]
        have g9 : (bs X).toList.isEmpty = true := by rw [g8, h1]; rfl
        have zb : ¬ 9223372036854775807 < (bs X).size + (bs (trim x)).size := by omega
        clear g8 g7 hg0 h1
        generalize bs (two X x) = Q at *
        generalize bs X = Y at *
        generalize bs (trim x) = Z at *
        go_wp2_with (first
          | (go_at_call 41; (with_reducible refine (L1.out _).mono ?_); rintro e u ⟨rfl, rfl⟩)
          | (at_builtin; refine wpList_append_own _ rfl _ _ 49 rfl w.heap.size 9 i0 (.string ⟨#[]⟩) 1 16 Tryd.underlying49 hi hz0 hz1 hz2 rfl (by decide) _ _ _ rfl (World.ownsRow_nil _ _ _ _) ⟨g, 0, none⟩ (k + 1) c (lrow (J1.take (k + 1))) rfl ?c0_1 ?c1_1 ?c2_1 ?c3_1 ?c4_1 ?c5_1 ?_))
        case c0_1 => rw [lrow_length, List.length_take]; omega
        case c1_1 =>
          intro q y hy
          rw [ha, Nat.zero_add]
          exact HT1.out q y hy
        case c2_1 => exact lrow_one _
        case c3_1 => unfold maxLen; omega
        case c4_1 => omega
        case c5_1 => exact hB1.size
        intro v6 w6 hown6 hgrow6 _
        obtain ⟨a6, cap6, rfl⟩ := own_shape hown6
        have hO6 := hO1.kept hgrow6 (by simp [Value.ownBlock])
        have W6 := hB1.grown hgrow6 hB1.size (fun q hq => by cases hq)
        have b2 : (k : Int) + 2 ≤ (j : Int) := by omega
        by_cases hcap : c = k + 2
        · subst hcap
          go_wp2_with (at_builtin; refine wpList_append_own _ rfl _ _ 49 rfl w.heap.size 9 i0 (.string ⟨#[]⟩) 1 16 Tryd.underlying49 hi hz0 hz1 hz2 rfl (by decide) _ _ _ rfl hown6 ⟨g, 0, none⟩ (j - (k + 2)) 0 (lrow (J1.drop (k + 2))) ?e0_2 ?e1_2 ?e2_2 ?e3_2 ?e4_2 ?e5_2 ?e6_2 ?_)
          case e0_2 => first | rfl | go_simp | simp [Act.eval]
          case e1_2 => rw [lrow_length, List.length_drop, Nat.mul_one, hJl]
          case e2_2 =>
            intro q y hy
            have hq := (List.getElem?_eq_some_iff.1 hy).1
            rw [lrow_length, List.length_drop] at hq
            omega
          case e3_2 => exact lrow_one _
          case e4_2 => unfold maxLen; omega
          case e5_2 => omega
          case e6_2 => exact W6.size
          intro v7 w7 hown7 hgrow7 _
          obtain ⟨a7, cap7, rfl⟩ := own_shape hown7
          have W7 := W6.grown hgrow7 W6.size (fun q hq => (hown6.lt q hq).1)
          rw [← lrow_append, HP.out] at hown7
          obtain ⟨g7, rfl⟩ := own_some hown7 (by omega)
          have HO7 := Lib.hid hown7
          clear hown7 hgrow7 hO6 hown6 hgrow6 HT1 hO1
          go_wp2
          go_roundw
          case rel => first | exact ⟨i + 1, X.length, g7, cap7, k + 1 + (j - (k + 2)), rfl, by go_num, by go_num, by omega, by omega, by omega, fun _ => HA.out.symm, HO7, W7⟩ | exact ⟨i + 1, X.length, g7, cap7, k + 1, rfl, by go_num, by go_num, by omega, by omega, by omega, fun _ => HA.out.symm, HO7, W7⟩
          case measure => simp [intOf]; omega
        · go_wp2_with (at_builtin; refine wpList_append_own _ rfl _ _ 49 rfl w.heap.size 9 i0 (.string ⟨#[]⟩) 1 16 Tryd.underlying49 hi hz0 hz1 hz2 rfl (by decide) _ _ _ rfl hown6 ⟨g, k + 2, none⟩ (j - (k + 2)) (c - (k + 2)) (lrow (J1.drop (k + 2))) ?e0_3 ?e1_3 ?e2_3 ?e3_3 ?e4_3 ?e5_3 ?e6_3 ?_)
          case e0_3 => first | rfl | go_simp | simp [Act.eval]
          case e1_3 => rw [lrow_length, List.length_drop, Nat.mul_one, hJl]
          case e2_3 =>
            intro q y hy
            rw [← lrow_drop, List.getElem?_drop] at hy
            have := hO6.cells (g := g) rfl _ y hy
            rw [ha, Nat.zero_add] at this
            rw [ha]
            exact this
          case e3_3 => exact lrow_one _
          case e4_3 => unfold maxLen; omega
          case e5_3 => omega
          case e6_3 => exact W6.size
          intro v7 w7 hown7 hgrow7 _
          obtain ⟨a7, cap7, rfl⟩ := own_shape hown7
          have W7 := W6.grown hgrow7 W6.size (fun q hq => (hown6.lt q hq).1)
          rw [← lrow_append, HP.out] at hown7
          obtain ⟨g7, rfl⟩ := own_some hown7 (by omega)
          have HO7 := Lib.hid hown7
          clear hown7 hgrow7 hO6 hown6 hgrow6 HT1 hO1
          go_wp2
          go_roundw
          case rel => first | exact ⟨i + 1, X.length, g7, cap7, k + 1 + (j - (k + 2)), rfl, by go_num, by go_num, by omega, by omega, by omega, fun _ => HA.out.symm, HO7, W7⟩ | exact ⟨i + 1, X.length, g7, cap7, k + 1, rfl, by go_num, by go_num, by omega, by omega, by omega, fun _ => HA.out.symm, HO7, W7⟩
          case measure => simp [intOf]; omega
      · by_cases h2 : trim x = []
        ·
          have hnx : bs X ++ bs (trim x) = bs (two X x) := by rw [bs_append, hg0, gap_none (.inl h2), List.append_nil]
          have g9 : (bs X).toList.isEmpty = false := by rw [g8]; cases X with | nil => exact absurd rfl h1 | cons _ _ => rfl
          have g10 : (bs (trim x)).toList.isEmpty = true := by rw [g7, h2]; rfl
          have zb : ¬ 9223372036854775807 < (bs X).size + (bs (trim x)).size := by omega
          clear g8 g7 hg0 h1 h2
          generalize bs (two X x) = Q at *
          generalize bs X = Y at *
          generalize bs (trim x) = Z at *
          go_wp2_with (first
            | (go_at_call 41; (with_reducible refine (L1.out _).mono ?_); rintro e u ⟨rfl, rfl⟩)
            | (at_builtin; refine wpList_append_own _ rfl _ _ 49 rfl w.heap.size 9 i0 (.string ⟨#[]⟩) 1 16 Tryd.underlying49 hi hz0 hz1 hz2 rfl (by decide) _ _ _ rfl (World.ownsRow_nil _ _ _ _) ⟨g, 0, none⟩ (k + 1) c (lrow (J1.take (k + 1))) rfl ?c0_4 ?c1_4 ?c2_4 ?c3_4 ?c4_4 ?c5_4 ?_))
          case c0_4 => rw [lrow_length, List.length_take]; omega
          case c1_4 =>
            intro q y hy
            rw [ha, Nat.zero_add]
            exact HT1.out q y hy
          case c2_4 => exact lrow_one _
          case c3_4 => unfold maxLen; omega
          case c4_4 => omega
          case c5_4 => exact hB1.size
          intro v6 w6 hown6 hgrow6 _
          obtain ⟨a6, cap6, rfl⟩ := own_shape hown6
          have hO6 := hO1.kept hgrow6 (by simp [Value.ownBlock])
          have W6 := hB1.grown hgrow6 hB1.size (fun q hq => by cases hq)
          have b2 : (k : Int) + 2 ≤ (j : Int) := by omega
          by_cases hcap : c = k + 2
          · subst hcap
            go_wp2_with (at_builtin; refine wpList_append_own _ rfl _ _ 49 rfl w.heap.size 9 i0 (.string ⟨#[]⟩) 1 16 Tryd.underlying49 hi hz0 hz1 hz2 rfl (by decide) _ _ _ rfl hown6 ⟨g, 0, none⟩ (j - (k + 2)) 0 (lrow (J1.drop (k + 2))) ?e0_5 ?e1_5 ?e2_5 ?e3_5 ?e4_5 ?e5_5 ?e6_5 ?_)
            case e0_5 => first | rfl | go_simp | simp [Act.eval]
            case e1_5 => rw [lrow_length, List.length_drop, Nat.mul_one, hJl]
            case e2_5 =>
              intro q y hy
              have hq := (List.getElem?_eq_some_iff.1 hy).1
              rw [lrow_length, List.length_drop] at hq
              omega
            case e3_5 => exact lrow_one _
            case e4_5 => unfold maxLen; omega
            case e5_5 => omega
            case e6_5 => exact W6.size
            intro v7 w7 hown7 hgrow7 _
            obtain ⟨a7, cap7, rfl⟩ := own_shape hown7
            have W7 := W6.grown hgrow7 W6.size (fun q hq => (hown6.lt q hq).1)
            rw [← lrow_append, HP.out] at hown7
            obtain ⟨g7, rfl⟩ := own_some hown7 (by omega)
            have HO7 := Lib.hid hown7
            clear hown7 hgrow7 hO6 hown6 hgrow6 HT1 hO1
            go_wp2
            go_roundw
            case rel => first | exact ⟨i + 1, X.length, g7, cap7, k + 1 + (j - (k + 2)), rfl, by go_num, by go_num, by omega, by omega, by omega, fun _ => HA.out.symm, HO7, W7⟩ | exact ⟨i + 1, X.length, g7, cap7, k + 1, rfl, by go_num, by go_num, by omega, by omega, by omega, fun _ => HA.out.symm, HO7, W7⟩
            case measure => simp [intOf]; omega
          · go_wp2_with (at_builtin; refine wpList_append_own _ rfl _ _ 49 rfl w.heap.size 9 i0 (.string ⟨#[]⟩) 1 16 Tryd.underlying49 hi hz0 hz1 hz2 rfl (by decide) _ _ _ rfl hown6 ⟨g, k + 2, none⟩ (j - (k + 2)) (c - (k + 2)) (lrow (J1.drop (k + 2))) ?e0_6 ?e1_6 ?e2_6 ?e3_6 ?e4_6 ?e5_6 ?e6_6 ?_)
            case e0_6 => first | rfl | go_simp | simp [Act.eval]
            case e1_6 => rw [lrow_length, List.length_drop, Nat.mul_one, hJl]
            case e2_6 =>
              intro q y hy
              rw [← lrow_drop, List.getElem?_drop] at hy
              have := hO6.cells (g := g) rfl _ y hy
              rw [ha, Nat.zero_add] at this
              rw [ha]
              exact this
            case e3_6 => exact lrow_one _
            case e4_6 => unfold maxLen; omega
            case e5_6 => omega
            case e6_6 => exact W6.size
            intro v7 w7 hown7 hgrow7 _
            obtain ⟨a7, cap7, rfl⟩ := own_shape hown7
            have W7 := W6.grown hgrow7 W6.size (fun q hq => (hown6.lt q hq).1)
            rw [← lrow_append, HP.out] at hown7
            obtain ⟨g7, rfl⟩ := own_some hown7 (by omega)
            have HO7 := Lib.hid hown7
            clear hown7 hgrow7 hO6 hown6 hgrow6 HT1 hO1
            go_wp2
            go_roundw
            case rel => first | exact ⟨i + 1, X.length, g7, cap7, k + 1 + (j - (k + 2)), rfl, by go_num, by go_num, by omega, by omega, by omega, fun _ => HA.out.symm, HO7, W7⟩ | exact ⟨i + 1, X.length, g7, cap7, k + 1, rfl, by go_num, by go_num, by omega, by omega, by omega, fun _ => HA.out.symm, HO7, W7⟩
            case measure => simp [intOf]; omega
        ·
          have g9 : (bs X).toList.isEmpty = false := by rw [g8]; cases X with | nil => exact absurd rfl h1 | cons _ _ => rfl
          have g10 : (bs (trim x)).toList.isEmpty = false := by rw [g7]; cases h : trim x with | nil => exact absurd h h2 | cons _ _ => rfl
          obtain ⟨m0, hm0⟩ : ∃ m0, X.length = m0 + 1 := ⟨X.length - 1, by have := List.length_pos_iff.2 h1; omega⟩
          have hb0 : m0 < (bs X).size := by omega
          have im : IntKind.i64.wrap ((X.length : Int) - 1) = (m0 : Int) := by rw [IntKind.wrap_i64]; omega
          have hb1 : m0 < X.length := by omega
          obtain ⟨z, hgl, hz⟩ : ∃ z : UInt8, X.getLast? = some z ∧ ∀ h : m0 < (bs X).size, (bs X)[m0]'h = z := ⟨(bs X)[m0], by
            have := byte_get (bs X) hb0
            rw [bs_toList] at this
            rw [List.getLast?_eq_getElem?, hm0, Nat.add_sub_cancel]
            exact this, fun _ => rfl⟩
          have k1 : ∀ h : m0 < (bs X).size, ((((bs X)[m0]'h).toNat : Int) != 32) = !decide (z = 32) := fun h => by rw [hz h, ← blank_test z]; rfl
          have k2 : ∀ h : m0 < (bs X).size, ((((bs X)[m0]'h).toNat : Int) != 9) = !decide (z = 9) := fun h => by rw [hz h, ← tab_byte z]; rfl
          have k3 : ∀ h : m0 < (bs X).size, ((((bs X)[m0]'h).toNat : Int) = 32) = (z = 32) := fun h => by rw [hz h]; have := blank_test z; rw [Bool.eq_iff_iff, beq_iff_eq, decide_eq_true_iff] at this; exact propext this
          have k4 : ∀ h : m0 < (bs X).size, ((((bs X)[m0]'h).toNat : Int) = 9) = (z = 9) := fun h => by rw [hz h]; have := tab_byte z; rw [Bool.eq_iff_iff, beq_iff_eq, decide_eq_true_iff] at this; exact propext this
          clear g8 g7 h1 hm0 hz
          by_cases h3 : z = 32
          ·
            have hnx : bs X ++ bs (trim x) = bs (two X x) := by rw [bs_append, hg0, gap_none (.inr (.inr ⟨z, hgl, by rw [h3]; rfl⟩)), List.append_nil]
            have zb : ¬ 9223372036854775807 < (bs X).size + (bs (trim x)).size := by omega
            simp only [decide_eq_true h3, Bool.not_true] at k1
            simp only [eq_true h3] at k3
            have h4 : ¬ z = 9 := by rw [h3]; decide
            simp only [decide_eq_false h4, Bool.not_false] at k2
            simp only [eq_false h4] at k4
            clear hg0 hgl h2 h3 h4
            generalize bs (two X x) = Q at *
            generalize bs X = Y at *
            generalize bs (trim x) = Z at *
            go_wp2_with (first
              | (go_at_call 41; (with_reducible refine (L1.out _).mono ?_); rintro e u ⟨rfl, rfl⟩)
              | (at_builtin; refine wpList_append_own _ rfl _ _ 49 rfl w.heap.size 9 i0 (.string ⟨#[]⟩) 1 16 Tryd.underlying49 hi hz0 hz1 hz2 rfl (by decide) _ _ _ rfl (World.ownsRow_nil _ _ _ _) ⟨g, 0, none⟩ (k + 1) c (lrow (J1.take (k + 1))) rfl ?c0_7 ?c1_7 ?c2_7 ?c3_7 ?c4_7 ?c5_7 ?_))
            case c0_7 => rw [lrow_length, List.length_take]; omega
            case c1_7 =>
              intro q y hy
              rw [ha, Nat.zero_add]
              exact HT1.out q y hy
            case c2_7 => exact lrow_one _
            case c3_7 => unfold maxLen; omega
            case c4_7 => omega
            case c5_7 => exact hB1.size
            intro v6 w6 hown6 hgrow6 _
            obtain ⟨a6, cap6, rfl⟩ := own_shape hown6
            have hO6 := hO1.kept hgrow6 (by simp [Value.ownBlock])
            have W6 := hB1.grown hgrow6 hB1.size (fun q hq => by cases hq)
            have b2 : (k : Int) + 2 ≤ (j : Int) := by omega
            by_cases hcap : c = k + 2
            · subst hcap
              go_wp2_with (at_builtin; refine wpList_append_own _ rfl _ _ 49 rfl w.heap.size 9 i0 (.string ⟨#[]⟩) 1 16 Tryd.underlying49 hi hz0 hz1 hz2 rfl (by decide) _ _ _ rfl hown6 ⟨g, 0, none⟩ (j - (k + 2)) 0 (lrow (J1.drop (k + 2))) ?e0_8 ?e1_8 ?e2_8 ?e3_8 ?e4_8 ?e5_8 ?e6_8 ?_)
              case e0_8 => first | rfl | go_simp | simp [Act.eval]
              case e1_8 => rw [lrow_length, List.length_drop, Nat.mul_one, hJl]
              case e2_8 =>
                intro q y hy
                have hq := (List.getElem?_eq_some_iff.1 hy).1
                rw [lrow_length, List.length_drop] at hq
                omega
              case e3_8 => exact lrow_one _
              case e4_8 => unfold maxLen; omega
              case e5_8 => omega
              case e6_8 => exact W6.size
              intro v7 w7 hown7 hgrow7 _
              obtain ⟨a7, cap7, rfl⟩ := own_shape hown7
              have W7 := W6.grown hgrow7 W6.size (fun q hq => (hown6.lt q hq).1)
              rw [← lrow_append, HP.out] at hown7
              obtain ⟨g7, rfl⟩ := own_some hown7 (by omega)
              have HO7 := Lib.hid hown7
              clear hown7 hgrow7 hO6 hown6 hgrow6 HT1 hO1
              go_wp2
              go_roundw
              case rel => first | exact ⟨i + 1, X.length, g7, cap7, k + 1 + (j - (k + 2)), rfl, by go_num, by go_num, by omega, by omega, by omega, fun _ => HA.out.symm, HO7, W7⟩ | exact ⟨i + 1, X.length, g7, cap7, k + 1, rfl, by go_num, by go_num, by omega, by omega, by omega, fun _ => HA.out.symm, HO7, W7⟩
              case measure => simp [intOf]; omega
            · go_wp2_with (at_builtin; refine wpList_append_own _ rfl _ _ 49 rfl w.heap.size 9 i0 (.string ⟨#[]⟩) 1 16 Tryd.underlying49 hi hz0 hz1 hz2 rfl (by decide) _ _ _ rfl hown6 ⟨g, k + 2, none⟩ (j - (k + 2)) (c - (k + 2)) (lrow (J1.drop (k + 2))) ?e0_9 ?e1_9 ?e2_9 ?e3_9 ?e4_9 ?e5_9 ?e6_9 ?_)
              case e0_9 => first | rfl | go_simp | simp [Act.eval]
              case e1_9 => rw [lrow_length, List.length_drop, Nat.mul_one, hJl]
              case e2_9 =>
                intro q y hy
                rw [← lrow_drop, List.getElem?_drop] at hy
                have := hO6.cells (g := g) rfl _ y hy
                rw [ha, Nat.zero_add] at this
                rw [ha]
                exact this
              case e3_9 => exact lrow_one _
              case e4_9 => unfold maxLen; omega
              case e5_9 => omega
              case e6_9 => exact W6.size
              intro v7 w7 hown7 hgrow7 _
              obtain ⟨a7, cap7, rfl⟩ := own_shape hown7
              have W7 := W6.grown hgrow7 W6.size (fun q hq => (hown6.lt q hq).1)
              rw [← lrow_append, HP.out] at hown7
              obtain ⟨g7, rfl⟩ := own_some hown7 (by omega)
              have HO7 := Lib.hid hown7
              clear hown7 hgrow7 hO6 hown6 hgrow6 HT1 hO1
              go_wp2
              go_roundw
              case rel => first | exact ⟨i + 1, X.length, g7, cap7, k + 1 + (j - (k + 2)), rfl, by go_num, by go_num, by omega, by omega, by omega, fun _ => HA.out.symm, HO7, W7⟩ | exact ⟨i + 1, X.length, g7, cap7, k + 1, rfl, by go_num, by go_num, by omega, by omega, by omega, fun _ => HA.out.symm, HO7, W7⟩
              case measure => simp [intOf]; omega
          · by_cases h4 : z = 9
            ·
              have hnx : bs X ++ bs (trim x) = bs (two X x) := by rw [bs_append, hg0, gap_none (.inr (.inr ⟨z, hgl, by rw [h4]; rfl⟩)), List.append_nil]
              have zb : ¬ 9223372036854775807 < (bs X).size + (bs (trim x)).size := by omega
              simp only [decide_eq_false h3, Bool.not_false] at k1
              simp only [eq_false h3] at k3
              simp only [decide_eq_true h4, Bool.not_true] at k2
              simp only [eq_true h4] at k4
              clear hg0 hgl h2 h3 h4
              generalize bs (two X x) = Q at *
              generalize bs X = Y at *
              generalize bs (trim x) = Z at *
              go_wp2_with (first
                | (go_at_call 41; (with_reducible refine (L1.out _).mono ?_); rintro e u ⟨rfl, rfl⟩)
                | (at_builtin; refine wpList_append_own _ rfl _ _ 49 rfl w.heap.size 9 i0 (.string ⟨#[]⟩) 1 16 Tryd.underlying49 hi hz0 hz1 hz2 rfl (by decide) _ _ _ rfl (World.ownsRow_nil _ _ _ _) ⟨g, 0, none⟩ (k + 1) c (lrow (J1.take (k + 1))) rfl ?c0_10 ?c1_10 ?c2_10 ?c3_10 ?c4_10 ?c5_10 ?_))
              case c0_10 => rw [lrow_length, List.length_take]; omega
              case c1_10 =>
                intro q y hy
                rw [ha, Nat.zero_add]
                exact HT1.out q y hy
              case c2_10 => exact lrow_one _
              case c3_10 => unfold maxLen; omega
              case c4_10 => omega
              case c5_10 => exact hB1.size
              intro v6 w6 hown6 hgrow6 _
              obtain ⟨a6, cap6, rfl⟩ := own_shape hown6
              have hO6 := hO1.kept hgrow6 (by simp [Value.ownBlock])
              have W6 := hB1.grown hgrow6 hB1.size (fun q hq => by cases hq)
              have b2 : (k : Int) + 2 ≤ (j : Int) := by omega
              by_cases hcap : c = k + 2
              · subst hcap
                go_wp2_with (at_builtin; refine wpList_append_own _ rfl _ _ 49 rfl w.heap.size 9 i0 (.string ⟨#[]⟩) 1 16 Tryd.underlying49 hi hz0 hz1 hz2 rfl (by decide) _ _ _ rfl hown6 ⟨g, 0, none⟩ (j - (k + 2)) 0 (lrow (J1.drop (k + 2))) ?e0_11 ?e1_11 ?e2_11 ?e3_11 ?e4_11 ?e5_11 ?e6_11 ?_)
                case e0_11 => first | rfl | go_simp | simp [Act.eval]
                case e1_11 => rw [lrow_length, List.length_drop, Nat.mul_one, hJl]
                case e2_11 =>
                  intro q y hy
                  have hq := (List.getElem?_eq_some_iff.1 hy).1
                  rw [lrow_length, List.length_drop] at hq
                  omega
                case e3_11 => exact lrow_one _
                case e4_11 => unfold maxLen; omega
                case e5_11 => omega
                case e6_11 => exact W6.size
                intro v7 w7 hown7 hgrow7 _
                obtain ⟨a7, cap7, rfl⟩ := own_shape hown7
                have W7 := W6.grown hgrow7 W6.size (fun q hq => (hown6.lt q hq).1)
                rw [← lrow_append, HP.out] at hown7
                obtain ⟨g7, rfl⟩ := own_some hown7 (by omega)
                have HO7 := Lib.hid hown7
                clear hown7 hgrow7 hO6 hown6 hgrow6 HT1 hO1
                go_wp2
                go_roundw
                case rel => first | exact ⟨i + 1, X.length, g7, cap7, k + 1 + (j - (k + 2)), rfl, by go_num, by go_num, by omega, by omega, by omega, fun _ => HA.out.symm, HO7, W7⟩ | exact ⟨i + 1, X.length, g7, cap7, k + 1, rfl, by go_num, by go_num, by omega, by omega, by omega, fun _ => HA.out.symm, HO7, W7⟩
                case measure => simp [intOf]; omega
              · go_wp2_with (at_builtin; refine wpList_append_own _ rfl _ _ 49 rfl w.heap.size 9 i0 (.string ⟨#[]⟩) 1 16 Tryd.underlying49 hi hz0 hz1 hz2 rfl (by decide) _ _ _ rfl hown6 ⟨g, k + 2, none⟩ (j - (k + 2)) (c - (k + 2)) (lrow (J1.drop (k + 2))) ?e0_12 ?e1_12 ?e2_12 ?e3_12 ?e4_12 ?e5_12 ?e6_12 ?_)
                case e0_12 => first | rfl | go_simp | simp [Act.eval]
                case e1_12 => rw [lrow_length, List.length_drop, Nat.mul_one, hJl]
                case e2_12 =>
                  intro q y hy
                  rw [← lrow_drop, List.getElem?_drop] at hy
                  have := hO6.cells (g := g) rfl _ y hy
                  rw [ha, Nat.zero_add] at this
                  rw [ha]
                  exact this
                case e3_12 => exact lrow_one _
                case e4_12 => unfold maxLen; omega
                case e5_12 => omega
                case e6_12 => exact W6.size
                intro v7 w7 hown7 hgrow7 _
                obtain ⟨a7, cap7, rfl⟩ := own_shape hown7
                have W7 := W6.grown hgrow7 W6.size (fun q hq => (hown6.lt q hq).1)
                rw [← lrow_append, HP.out] at hown7
                obtain ⟨g7, rfl⟩ := own_some hown7 (by omega)
                have HO7 := Lib.hid hown7
                clear hown7 hgrow7 hO6 hown6 hgrow6 HT1 hO1
                go_wp2
                go_roundw
                case rel => first | exact ⟨i + 1, X.length, g7, cap7, k + 1 + (j - (k + 2)), rfl, by go_num, by go_num, by omega, by omega, by omega, fun _ => HA.out.symm, HO7, W7⟩ | exact ⟨i + 1, X.length, g7, cap7, k + 1, rfl, by go_num, by go_num, by omega, by omega, by omega, fun _ => HA.out.symm, HO7, W7⟩
                case measure => simp [intOf]; omega
            ·
              have hnx1 : bs X ++ ⟨#[32]⟩ = bs (X ++ [32]) := bs_append X [32]
              have hnx : bs (X ++ [32]) ++ bs (trim x) = bs (two X x) := by rw [bs_append, hg0, gap_some h2 hgl (by rw [Opr.blank, decide_eq_false h3, decide_eq_false h4]; rfl)]
              have zb : ¬ 9223372036854775807 < (bs X).size + 1 := by omega
              have zc : ¬ 9223372036854775807 < (bs (X ++ [32])).size + (bs (trim x)).size := by rw [bs_size (X ++ [32]), List.length_append, List.length_singleton]; omega
              simp only [decide_eq_false h3, Bool.not_false] at k1
              simp only [eq_false h3] at k3
              simp only [decide_eq_false h4, Bool.not_false] at k2
              simp only [eq_false h4] at k4
              clear hg0 hgl h2 h3 h4
              generalize bs (two X x) = Q at *
              generalize bs (X ++ [32]) = G at *
              generalize bs X = Y at *
              generalize bs (trim x) = Z at *
              go_wp2_with (first
                | (go_at_call 41; (with_reducible refine (L1.out _).mono ?_); rintro e u ⟨rfl, rfl⟩)
                | (at_builtin; refine wpList_append_own _ rfl _ _ 49 rfl w.heap.size 9 i0 (.string ⟨#[]⟩) 1 16 Tryd.underlying49 hi hz0 hz1 hz2 rfl (by decide) _ _ _ rfl (World.ownsRow_nil _ _ _ _) ⟨g, 0, none⟩ (k + 1) c (lrow (J1.take (k + 1))) rfl ?c0_13 ?c1_13 ?c2_13 ?c3_13 ?c4_13 ?c5_13 ?_))
              case c0_13 => rw [lrow_length, List.length_take]; omega
              case c1_13 =>
                intro q y hy
                rw [ha, Nat.zero_add]
                exact HT1.out q y hy
              case c2_13 => exact lrow_one _
              case c3_13 => unfold maxLen; omega
              case c4_13 => omega
              case c5_13 => exact hB1.size
              intro v6 w6 hown6 hgrow6 _
              obtain ⟨a6, cap6, rfl⟩ := own_shape hown6
              have hO6 := hO1.kept hgrow6 (by simp [Value.ownBlock])
              have W6 := hB1.grown hgrow6 hB1.size (fun q hq => by cases hq)
              have b2 : (k : Int) + 2 ≤ (j : Int) := by omega
              by_cases hcap : c = k + 2
              · subst hcap
                go_wp2_with (at_builtin; refine wpList_append_own _ rfl _ _ 49 rfl w.heap.size 9 i0 (.string ⟨#[]⟩) 1 16 Tryd.underlying49 hi hz0 hz1 hz2 rfl (by decide) _ _ _ rfl hown6 ⟨g, 0, none⟩ (j - (k + 2)) 0 (lrow (J1.drop (k + 2))) ?e0_14 ?e1_14 ?e2_14 ?e3_14 ?e4_14 ?e5_14 ?e6_14 ?_)
                case e0_14 => first | rfl | go_simp | simp [Act.eval]
                case e1_14 => rw [lrow_length, List.length_drop, Nat.mul_one, hJl]
                case e2_14 =>
                  intro q y hy
                  have hq := (List.getElem?_eq_some_iff.1 hy).1
                  rw [lrow_length, List.length_drop] at hq
                  omega
                case e3_14 => exact lrow_one _
                case e4_14 => unfold maxLen; omega
                case e5_14 => omega
                case e6_14 => exact W6.size
                intro v7 w7 hown7 hgrow7 _
                obtain ⟨a7, cap7, rfl⟩ := own_shape hown7
                have W7 := W6.grown hgrow7 W6.size (fun q hq => (hown6.lt q hq).1)
                rw [← lrow_append, HP.out] at hown7
                obtain ⟨g7, rfl⟩ := own_some hown7 (by omega)
                have HO7 := Lib.hid hown7
                clear hown7 hgrow7 hO6 hown6 hgrow6 HT1 hO1
                go_wp2
                go_roundw
                case rel => first | exact ⟨i + 1, X.length, g7, cap7, k + 1 + (j - (k + 2)), rfl, by go_num, by go_num, by omega, by omega, by omega, fun _ => HA.out.symm, HO7, W7⟩ | exact ⟨i + 1, X.length, g7, cap7, k + 1, rfl, by go_num, by go_num, by omega, by omega, by omega, fun _ => HA.out.symm, HO7, W7⟩
                case measure => simp [intOf]; omega
              · go_wp2_with (at_builtin; refine wpList_append_own _ rfl _ _ 49 rfl w.heap.size 9 i0 (.string ⟨#[]⟩) 1 16 Tryd.underlying49 hi hz0 hz1 hz2 rfl (by decide) _ _ _ rfl hown6 ⟨g, k + 2, none⟩ (j - (k + 2)) (c - (k + 2)) (lrow (J1.drop (k + 2))) ?e0_15 ?e1_15 ?e2_15 ?e3_15 ?e4_15 ?e5_15 ?e6_15 ?_)
                case e0_15 => first | rfl | go_simp | simp [Act.eval]
                case e1_15 => rw [lrow_length, List.length_drop, Nat.mul_one, hJl]
                case e2_15 =>
                  intro q y hy
                  rw [← lrow_drop, List.getElem?_drop] at hy
                  have := hO6.cells (g := g) rfl _ y hy
                  rw [ha, Nat.zero_add] at this
                  rw [ha]
                  exact this
                case e3_15 => exact lrow_one _
                case e4_15 => unfold maxLen; omega
                case e5_15 => omega
                case e6_15 => exact W6.size
                intro v7 w7 hown7 hgrow7 _
                obtain ⟨a7, cap7, rfl⟩ := own_shape hown7
                have W7 := W6.grown hgrow7 W6.size (fun q hq => (hown6.lt q hq).1)
                rw [← lrow_append, HP.out] at hown7
                obtain ⟨g7, rfl⟩ := own_some hown7 (by omega)
                have HO7 := Lib.hid hown7
                clear hown7 hgrow7 hO6 hown6 hgrow6 HT1 hO1
                go_wp2
                go_roundw
                case rel => first | exact ⟨i + 1, X.length, g7, cap7, k + 1 + (j - (k + 2)), rfl, by go_num, by go_num, by omega, by omega, by omega, fun _ => HA.out.symm, HO7, W7⟩ | exact ⟨i + 1, X.length, g7, cap7, k + 1, rfl, by go_num, by go_num, by omega, by omega, by omega, fun _ => HA.out.symm, HO7, W7⟩
                case measure => simp [intOf]; omega
    · have hie : i = 2 := by omega
      have r0 : decide ((i : Int) < (2 : Int)) = false := decide_eq_false (by omega)
      have hO := HO.out
      have ht := HT.out (by omega)
      rw [hie] at hO ht
      have hjl := joinR_len (R := R) (k := k) (i := 2) (by omega) (by have := HL.out; omega)
      have hS : Strs wr (some ⟨g, 0, none⟩) ((joinR R k 2).map bs) := Strs.of_own (n := j) (c := c) (by rw [List.length_map, show (joinR R k 2).length = j by have := HL.out; omega]; exact hO) rfl
      have G1 := G0.out _ c j wr hS (by omega)
      have hJ : (aa : Int) + (t : Int) = (pp : Int) := by rw [ht]; exact hJP.out
      have hJw : IntKind.i64.wrap ((aa : Int) + (t : Int)) = (pp : Int) := by rw [IntKind.wrap_i64]; omega
      have G2 := Lib.hid G1
      clear G1 hS hO ht hjl HO HT
      go_wp2_with (first
        | (go_at_call 42; (with_reducible refine (G2.out).mono ?_); rintro e u ⟨rfl, rfl⟩)
        | (go_at_call 43; (with_reducible refine (S1.out _).mono ?_); rintro e u ⟨rfl, hbn⟩; replace hB := hB.trans (hbn.mono hB.size); clear hbn)
        | (go_at_call 33; (with_reducible refine (C1.out _).mono ?_); rintro e u ⟨rfl, hbn⟩; replace hB := hB.trans (hbn.mono hB.size); clear hbn))
      go_ret3
      exact ⟨rfl, hB⟩

end Go.Proofs.YtfhljddakhigdaaDoor
