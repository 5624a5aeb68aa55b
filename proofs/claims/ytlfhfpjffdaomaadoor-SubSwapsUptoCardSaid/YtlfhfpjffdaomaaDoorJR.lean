/-
  The document's lines of a text, one by one, and lines as a text.
-/
import Derived.Test.YtlfhfpjffdaomaaDoorJO
import Derived.Test.YtlfhfpjffdaomaaDoorLineRefs2
import Derived.Test.YtlfhfpjffdaomaaDoorStrsOwn
import Derived.Test.YtlfhfpjffdaomaaDoorInts
import Derived.Test.YtlfhfpjffdaomaaDoorJB
import Derived.Laws.OwnMore
import Derived.Test.YtlfhfpjffdaomaaDoorJS
import Derived.Test.YtlfhfpjffdaomaaDoorUtfRef
namespace Go.Proofs.YtlfhfpjffdaomaaDoor
open Go.RowKit
open Opr Gl
/-- The cells of a list of lines. -/
def lrow (R : List (List UInt8)) : List Value := (R.map bs).map Value.string
theorem lrow_length (R : List (List UInt8)) : (lrow R).length = R.length := by simp [lrow]
theorem lrow_append (A B : List (List UInt8)) : lrow (A ++ B) = lrow A ++ lrow B := by simp [lrow]
theorem lrow_get {R : List (List UInt8)} {k : Nat} {x : List UInt8} (h : R[k]? = some x) : (lrow R)[k]? = some (.string (bs x)) := by simp [lrow, h]
theorem lrow_set (R : List (List UInt8)) (k : Nat) (x : List UInt8) : (lrow R).set k (.string (bs x)) = lrow (R.set k x) := by
  simp only [lrow, List.map_set]
theorem lrow_take (R : List (List UInt8)) (k : Nat) : (lrow R).take k = lrow (R.take k) := by simp [lrow]
theorem lrow_drop (R : List (List UInt8)) (k : Nat) : (lrow R).drop k = lrow (R.drop k) := by simp [lrow]
theorem lrow_one (R : List (List UInt8)) : ∀ u ∈ lrow R, u.oneCell' = true := fun u hu => by
  simp only [lrow, List.mem_map] at hu
  obtain ⟨_, _, rfl⟩ := hu
  rfl
theorem Opr.row_seg {s : List UInt8} {k : Nat} {x : Nat × Nat} {r : List UInt8} (hx : (Line.L s)[k]? = some x) (hr : (Ix.parts s)[k]? = some r) : Line.seg s x.1 x.2 = r := by
  obtain ⟨A, B, C, h1, h2, h3, h4, h5, h6, h7⟩ := three (Nat.le_refl k) hx hx
  rw [show k + 1 - k = 1 by omega] at h4
  obtain ⟨y, rfl⟩ := List.length_eq_one_iff.1 h4
  rw [h1, List.getElem?_append_right (by omega), h3, Nat.sub_self] at hr
  simp at hr
  subst hr
  rw [Line.seg, take_of (A := fore A ++ glue [y]) (M := aft C) (by rw [List.append_assoc]; exact h5) (by rw [List.length_append]; exact h7), List.drop_left' h6.symm, glue_one]
set_option maxHeartbeats 2000000 in
set_option maxRecDepth 100000 in
theorem ref23_Rows (s : ByteArray) (hv : Utf.valid s.data.toList = true) (hs : s.size ≤ 100000) (w : World) :
    Calls Tryd.prog 25 #[.string s] w fun e w' => (∃ A c, e = .returned (.slice A (Ix.parts s.data.toList).length c) ∧ w'.ownsRow w.heap.size 9 1 (.slice A (Ix.parts s.data.toList).length c) (Ix.parts s.data.toList).length (lrow (Ix.parts s.data.toList))) ∧ Below w.heap.size w w' := by
  have hM := L_len hv
  have hl := Line.L_length s.data.toList
  rw [data_len] at hl
  obtain ⟨i0, hi, hz0, hz1, hz2⟩ := info_parts info_string
  have A1 := fun w => ref4_Count s (by omega) w
  rw [hM] at A1
  have LX : Hid (∀ (k : Nat) r, (Ix.parts s.data.toList)[k]? = some r → ∃ p q : Nat, p ≤ q ∧ q ≤ s.size ∧ s.extract p q = bs r ∧ (∀ w, Calls Tryd.prog 30 #[.string s, .int .i64 k] w fun e w' => e = .returned (.int .i64 (p : Nat)) ∧ Below w.heap.size w w') ∧ (∀ w, Calls Tryd.prog 31 #[.string s, .int .i64 k] w fun e w' => e = .returned (.int .i64 (q : Nat)) ∧ Below w.heap.size w w')) := fun k r hr => by
    have hx := L_at hv hr
    have he := Line.L_each hx
    rw [data_len] at he
    refine ⟨_, _, he.1, he.2, ?_, fun w => ?_, fun w => ?_⟩
    · rw [ext_seg, row_seg hx hr]
    · have := ref4_Start s k (by omega) w
      rwa [Line.start_some (by rw [Line.line_nat]; exact hx)] at this
    · have := ref4_End s k (by omega) w
      rwa [Line.stop_some (by rw [Line.line_nat]; exact hx)] at this
  rw [hM] at hl
  generalize Ix.parts s.data.toList = R at *
  clear hM hv
  obtain ⟨M, hMl⟩ : ∃ M, R.length = M := ⟨_, rfl⟩
  rw [hMl] at A1 hl
  have C1 := Lib.hid A1
  have HM := Lib.hid hMl
  clear A1
  rw [hMl]
  clear hMl
  have hX := Below.refl w.heap.size w
  go_enter Tryd.func25, Tryd.ntmps25
  go_wp2_with fail
  go_loopw [3, 4] (fun v iv wr => ∃ (a : Option Addr) (c k : Nat), k ≤ M ∧ iv = .int .i64 k ∧ v = .slice a k c ∧ Hid (wr.ownsRow w.heap.size 9 1 v k (lrow (R.take k))) ∧ Below w.heap.size w wr) (fun _ iv _ => M - (intOf iv).toNat)
  case atStart => exact ⟨_, 0, 0, Nat.zero_le _, rfl, rfl, World.ownsRow_nil _ _ _ _, hX⟩
  case round =>
    clear hX
    obtain ⟨a, c, k, hk, rfl, rfl, hown, hW⟩ := hrel
    by_cases hlt : k < M
    · obtain ⟨r, hr⟩ : ∃ r, R[k]? = some r := ⟨_, List.getElem?_eq_getElem (by have := HM.out; omega)⟩
      obtain ⟨p, q, hpq, hqs, hex, S0, E0⟩ := LX.out k r hr
      have S1 := Lib.hid S0
      have E1 := Lib.hid E0
      have hS : Hid (lrow (R.take (k + 1)) = lrow (R.take k) ++ [Value.string (bs r)]) := by
        show _ = _
        rw [List.take_add_one, hr]
        exact lrow_append _ _
      have d1 : decide ((k : Int) < (M : Int)) = true := decide_eq_true (by omega)
      have i1 : (p : Int) ≤ (q : Int) := by omega
      have i2 : (q : Int) ≤ (s.size : Int) := by omega
      have hO := hown.out
      clear hr S0 E0 hown
      go_wp2_with (first
        | (go_at_call 29; (with_reducible refine (C1.out _).mono ?_); rintro e u ⟨rfl, hb⟩; replace hO := hO.kept (gb_below none hb) (by cases hv : (Value.slice a k c).ownBlock <;> simp); replace hW := hW.trans (hb.mono hW.size); clear hb)
        | (go_at_call 30; (with_reducible refine (S1.out _).mono ?_); rintro e u ⟨rfl, hb⟩; replace hO := hO.kept (gb_below none hb) (by cases hv : (Value.slice a k c).ownBlock <;> simp); replace hW := hW.trans (hb.mono hW.size); clear hb)
        | (go_at_call 31; (with_reducible refine (E1.out _).mono ?_); rintro e u ⟨rfl, hb⟩; replace hO := hO.kept (gb_below none hb) (by cases hv : (Value.slice a k c).ownBlock <;> simp); replace hW := hW.trans (hb.mono hW.size); clear hb; have hN := Blk.new u 9 #[.string (bs r)]; have hO2 := hO.alloc (.cells #[.string (bs r)] 9); have hW2 := hW.alloc hW.size (.cells #[.string (bs r)] 9))
        | (at_builtin; refine wpList_append_own _ rfl _ _ 49 rfl w.heap.size 9 i0 (.string ⟨#[]⟩) 1 16 Tryd.underlying49 hi hz0 hz1 hz2 rfl (by decide) _ _ _ rfl hO2 ⟨u.heap.size, 0, none⟩ 1 1 [.string (bs r)] rfl rfl ?c1 ?c2 ?c3 ?c4 ?c5 ?_))
      case c1 =>
        intro j y hj
        have e : (⟨u.heap.size, 0, none⟩ : Addr).add j = ⟨u.heap.size, j, none⟩ := by unfold Addr.add; split <;> simp_all
        rw [e, hN.cell]
        simpa using hj
      case c2 => intro y hy; simp at hy; subst hy; rfl
      case c3 => unfold maxLen; omega
      case c4 => omega
      case c5 => exact hW2.size
      intro v' w6 hown6 hgrow6 _
      obtain ⟨a6, cap6, rfl⟩ := own_shape hown6
      rw [← hS.out] at hown6
      have W6 := hW2.grown hgrow6 hW2.size (fun j hj => (hO2.lt j hj).1)
      have HO := Lib.hid hown6
      clear hgrow6 hown6 hO hO2 hN
      go_wp2
      go_roundw
      case rel => exact ⟨a6, cap6, k + 1, by omega, by go_num, rfl, HO, W6⟩
      case measure => simp [intOf]; omega
    · obtain rfl : k = M := by omega
      have d1 : decide ((k : Int) < (k : Int)) = false := decide_eq_false (by omega)
      have hO := hown.out
      rw [List.take_of_length_le (by have := HM.out; omega)] at hO
      clear hown LX
      go_wp2_with (go_at_call 29; (with_reducible refine (C1.out _).mono ?_); rintro e u ⟨rfl, hb⟩; replace hO := hO.kept (gb_below none hb) (by cases hv : (Value.slice a k c).ownBlock <;> simp); replace hW := hW.trans (hb.mono hW.size); clear hb)
      go_ret
      exact ⟨⟨a, c, rfl, hO⟩, hW⟩
theorem Gl.glue_next {R : List (List UInt8)} {k : Nat} {x : List UInt8} (h : R[k]? = some x) : glue (R.take (k + 1)) = (if 0 < k then glue (R.take k) ++ [10] else glue (R.take k)) ++ x := by
  rw [List.take_add_one, h]
  have hk := (List.getElem?_eq_some_iff.1 h).1
  cases k with
  | zero =>
    rw [if_neg (by omega)]
    exact glue_one x
  | succ k =>
    rw [if_pos (by omega), glue_aft (by intro e; have := congrArg List.length e; rw [List.length_take, List.length_nil] at this; omega)]
    show _ ++ aft [x] = _
    simp [aft]
theorem Gl.glue_le (R : List (List UInt8)) (k : Nat) : (glue (R.take k)).length ≤ (glue R).length := by
  cases R with
  | nil => simp [glue]
  | cons y r =>
    rcases Nat.eq_zero_or_pos k with h | h
    · subst h; simp [glue]
    · have e : y :: r = (y :: r).take k ++ (y :: r).drop k := (List.take_append_drop k (y :: r)).symm
      have hne : (y :: r).take k ≠ [] := by intro e; have := congrArg List.length e; rw [List.length_take, List.length_nil, List.length_cons] at this; omega
      conv => rhs; rw [e, glue_aft hne, List.length_append]
      omega
set_option maxHeartbeats 1000000 in
set_option maxRecDepth 100000 in
theorem ref23_Glue {A : Option Addr} {c n : Nat} {R : List (List UInt8)} {w : World} (hx : Strs w A (R.map bs)) (hl : (glue R).length ≤ 1000000000) (hn : R.length = n) (hn2 : n ≤ 1000000000) :
    Calls Tryd.prog 27 #[.slice A n c] w fun e w' => e = .returned (.string (bs (glue R))) ∧ w = w' := by
  have HN := Lib.hid hn
  have HG := Lib.hid (fun k => glue_le R k)
  clear hn
  go_enter Tryd.func27, Tryd.ntmps27
  go_wp2_with fail
  go_loop [3, 4] (fun sv iv => ∃ k : Nat, k ≤ n ∧ iv = .int .i64 k ∧ sv = .string (bs (glue (R.take k)))) (fun _ iv => n - (intOf iv).toNat)
  case atStart => exact ⟨0, Nat.zero_le _, rfl, rfl⟩
  case round =>
    obtain ⟨k, hk, rfl, rfl⟩ := hrel
    by_cases hlt : k < n
    · have hkR : k < R.length := by have := HN.out; omega
      obtain ⟨r, hr⟩ : ∃ r, R[k]? = some r := ⟨_, List.getElem?_eq_getElem hkR⟩
      obtain ⟨ad, rfl, h1⟩ := hx.at_ (k := k) (by simpa using hkR)
      rw [List.getElem_map, show R[k] = r from by rw [List.getElem?_eq_getElem hkR] at hr; injection hr] at h1
      have hnx := glue_next hr
      have hle := HG.out (k + 1)
      have hi : (k : Int) < (n : Int) := by omega
      rw [hnx] at hle
      by_cases h0 : 0 < k
      · rw [if_pos h0] at hnx hle
        have hlen : (bs (glue (R.take k))).size + (bs r).size + 1 ≤ 1000000000 := by rw [bs_size, bs_size]; simp only [List.length_append, List.length_singleton] at hle; omega
        have H1 : bs (glue (R.take k)) ++ ⟨#[10]⟩ = bs (glue (R.take k) ++ [10]) := bs_append _ [10]
        have H2 : Hid (bs (glue (R.take k) ++ [10]) ++ bs r = bs (glue (R.take (k + 1)))) := by show _ = _; rw [bs_append, hnx]
        have hz : (bs (glue (R.take k) ++ [10])).size = (bs (glue (R.take k))).size + 1 := by rw [bs_size, bs_size]; simp
        have g0 : decide ((0 : Int) < (k : Int)) = true := decide_eq_true (by omega)
        have z1 : ¬ 9223372036854775807 < (bs (glue (R.take k))).size + 1 := by omega
        have z2 : ¬ 9223372036854775807 < (bs (glue (R.take k) ++ [10])).size + (bs r).size := by omega
        clear hr hkR hx hnx hle
        generalize bs (glue (R.take k) ++ [10]) = S2 at *
        generalize bs (glue (R.take k)) = S at *
        generalize bs r = Q at *
        go_wp2
        go_round
        case rel => exact ⟨k + 1, by omega, by go_num, by rw [← H2.out]⟩
        case measure => simp [intOf]; omega
      · rw [if_neg h0] at hnx hle
        have hlen : (bs (glue (R.take k))).size + (bs r).size ≤ 1000000000 := by rw [bs_size, bs_size]; simp only [List.length_append] at hle; omega
        have H2 : Hid (bs (glue (R.take k)) ++ bs r = bs (glue (R.take (k + 1)))) := by show _ = _; rw [bs_append, hnx]
        have g0 : decide ((0 : Int) < (k : Int)) = false := decide_eq_false (by omega)
        have z2 : ¬ 9223372036854775807 < (bs (glue (R.take k))).size + (bs r).size := by omega
        clear hr hkR hx hnx hle
        generalize bs (glue (R.take k)) = S at *
        generalize bs r = Q at *
        go_wp2
        go_round
        case rel => exact ⟨k + 1, by omega, by go_num, by rw [← H2.out]⟩
        case measure => simp [intOf]; omega
    · obtain rfl : k = n := by omega
      have HT : Hid (R.take k = R) := by show _ = _; rw [List.take_of_length_le (by have := HN.out; omega)]
      clear hx
      go_wp2
      go_ret
      exact ⟨by rw [HT.out]; rfl, rfl⟩
end Go.Proofs.YtlfhfpjffdaomaaDoor
/-
  The document's lines, what may stand in a line, and a line with a text in the place of another one.
-/
namespace Go.Proofs.YtlfhfpjffdaomaaDoor
open Go.RowKit
open Gl
set_option maxHeartbeats 1000000 in
set_option maxRecDepth 100000 in
theorem ref28_Range_low (s : ByteArray) (a b : Int) (hs : s.size ≤ 1000000000000) (h : a < 0) (w : World) :
    Calls Tryd.prog 11 #[.string s, .int .i64 a, .int .i64 b] w fun e w' => e = .returned (Sb.rangeV (Sb.range s.data.toList a b)) ∧ Below w.heap.size w w' := by
  have A1 := Lib.hid (fun w => ref4_Start s a hs w)
  have B1 := Lib.hid (fun w => ref4_End s b hs w)
  have C1 := Lib.hid (fun w => ref4_Count s hs w)
  have K := RBox.new w 0 0 false
  obtain ⟨q0, q1, q2, f0, f1, f2⟩ := K.cells
  have H := Lib.hid (Sb.range_none (fun hh : Sb.there s.data.toList a b => absurd hh.1 (by omega)))
  generalize Line.start s.data.toList a = x at *
  generalize Line.stop s.data.toList b = y at *
  generalize (Line.L s.data.toList).length = n at *
  have d1 : decide (a < 0) = true := decide_eq_true h
  clear hs
  go_enter Tryd.func11, Tryd.ntmps11
  go_wp2_with (first
    | (go_at_call 29; (with_reducible refine (C1.out _).mono ?_); rintro e u ⟨rfl, hb⟩; replace K := K.on hb; clear hb q0 q1 q2 f0 f1 f2; obtain ⟨q0, q1, q2, f0, f1, f2⟩ := K.cells)
    | (go_at_call 30; (with_reducible refine (A1.out _).mono ?_); rintro e u ⟨rfl, hb⟩; replace K := K.on hb; clear hb q0 q1 q2 f0 f1 f2; obtain ⟨q0, q1, q2, f0, f1, f2⟩ := K.cells)
    | (go_at_call 31; (with_reducible refine (B1.out _).mono ?_); rintro e u ⟨rfl, hb⟩; replace K := K.on hb; clear hb q0 q1 q2 f0 f1 f2; obtain ⟨q0, q1, q2, f0, f1, f2⟩ := K.cells))
  exact ret_three1 rfl rfl (Blk.new _ _ _) rfl Tryd.underlying32 rfl ⟨by rw [H.out]; rfl, (Below.refl w.heap.size w).alloc (Nat.le_refl _) _⟩
set_option maxHeartbeats 1000000 in
set_option maxRecDepth 100000 in
theorem ref28_Range_turn (s : ByteArray) (a b : Int) (hs : s.size ≤ 1000000000000) (h : ¬ a < 0) (h2 : b < a) (w : World) :
    Calls Tryd.prog 11 #[.string s, .int .i64 a, .int .i64 b] w fun e w' => e = .returned (Sb.rangeV (Sb.range s.data.toList a b)) ∧ Below w.heap.size w w' := by
  have A1 := Lib.hid (fun w => ref4_Start s a hs w)
  have B1 := Lib.hid (fun w => ref4_End s b hs w)
  have C1 := Lib.hid (fun w => ref4_Count s hs w)
  have K := RBox.new w 0 0 false
  obtain ⟨q0, q1, q2, f0, f1, f2⟩ := K.cells
  have H := Lib.hid (Sb.range_none (fun hh : Sb.there s.data.toList a b => absurd hh.2.1 (by omega)))
  generalize Line.start s.data.toList a = x at *
  generalize Line.stop s.data.toList b = y at *
  generalize (Line.L s.data.toList).length = n at *
  have d1 : decide (a < 0) = false := decide_eq_false h
  have d2 : decide (b < a) = true := decide_eq_true h2
  clear hs
  go_enter Tryd.func11, Tryd.ntmps11
  go_wp2_with (first
    | (go_at_call 29; (with_reducible refine (C1.out _).mono ?_); rintro e u ⟨rfl, hb⟩; replace K := K.on hb; clear hb q0 q1 q2 f0 f1 f2; obtain ⟨q0, q1, q2, f0, f1, f2⟩ := K.cells)
    | (go_at_call 30; (with_reducible refine (A1.out _).mono ?_); rintro e u ⟨rfl, hb⟩; replace K := K.on hb; clear hb q0 q1 q2 f0 f1 f2; obtain ⟨q0, q1, q2, f0, f1, f2⟩ := K.cells)
    | (go_at_call 31; (with_reducible refine (B1.out _).mono ?_); rintro e u ⟨rfl, hb⟩; replace K := K.on hb; clear hb q0 q1 q2 f0 f1 f2; obtain ⟨q0, q1, q2, f0, f1, f2⟩ := K.cells))
  exact ret_three1 rfl rfl (Blk.new _ _ _) rfl Tryd.underlying32 rfl ⟨by rw [H.out]; rfl, (Below.refl w.heap.size w).alloc (Nat.le_refl _) _⟩
set_option maxHeartbeats 1000000 in
set_option maxRecDepth 100000 in
theorem ref28_Range_high (s : ByteArray) (a b : Int) (hs : s.size ≤ 1000000000000) (h : ¬ a < 0) (h2 : ¬ b < a) (h3 : ((Line.L s.data.toList).length : Int) ≤ b) (w : World) :
    Calls Tryd.prog 11 #[.string s, .int .i64 a, .int .i64 b] w fun e w' => e = .returned (Sb.rangeV (Sb.range s.data.toList a b)) ∧ Below w.heap.size w w' := by
  have A1 := Lib.hid (fun w => ref4_Start s a hs w)
  have B1 := Lib.hid (fun w => ref4_End s b hs w)
  have C1 := Lib.hid (fun w => ref4_Count s hs w)
  have K := RBox.new w 0 0 false
  obtain ⟨q0, q1, q2, f0, f1, f2⟩ := K.cells
  have H := Lib.hid (Sb.range_none (fun hh : Sb.there s.data.toList a b => absurd hh.2.2 (by omega)))
  generalize Line.start s.data.toList a = x at *
  generalize Line.stop s.data.toList b = y at *
  generalize (Line.L s.data.toList).length = n at *
  have d1 : decide (a < 0) = false := decide_eq_false h
  have d2 : decide (b < a) = false := decide_eq_false h2
  have d3 : decide ((n : Int) ≤ b) = true := decide_eq_true h3
  clear hs
  go_enter Tryd.func11, Tryd.ntmps11
  go_wp2_with (first
    | (go_at_call 29; (with_reducible refine (C1.out _).mono ?_); rintro e u ⟨rfl, hb⟩; replace K := K.on hb; clear hb q0 q1 q2 f0 f1 f2; obtain ⟨q0, q1, q2, f0, f1, f2⟩ := K.cells)
    | (go_at_call 30; (with_reducible refine (A1.out _).mono ?_); rintro e u ⟨rfl, hb⟩; replace K := K.on hb; clear hb q0 q1 q2 f0 f1 f2; obtain ⟨q0, q1, q2, f0, f1, f2⟩ := K.cells)
    | (go_at_call 31; (with_reducible refine (B1.out _).mono ?_); rintro e u ⟨rfl, hb⟩; replace K := K.on hb; clear hb q0 q1 q2 f0 f1 f2; obtain ⟨q0, q1, q2, f0, f1, f2⟩ := K.cells))
  exact ret_three1 rfl rfl (three_row K.blk) rfl Tryd.underlying32 rfl ⟨by rw [H.out]; rfl, below_three K.below (Nat.le_refl _)⟩
set_option maxHeartbeats 1000000 in
set_option maxRecDepth 100000 in
theorem ref28_Range_ok (s : ByteArray) (a b : Int) (hs : s.size ≤ 1000000000000) (h : ¬ a < 0) (h2 : ¬ b < a) (h3 : ¬ ((Line.L s.data.toList).length : Int) ≤ b) (w : World) :
    Calls Tryd.prog 11 #[.string s, .int .i64 a, .int .i64 b] w fun e w' => e = .returned (Sb.rangeV (Sb.range s.data.toList a b)) ∧ Below w.heap.size w w' := by
  have A1 := Lib.hid (fun w => ref4_Start s a hs w)
  have B1 := Lib.hid (fun w => ref4_End s b hs w)
  have C1 := Lib.hid (fun w => ref4_Count s hs w)
  have K := RBox.new w 0 0 false
  obtain ⟨q0, q1, q2, f0, f1, f2⟩ := K.cells
  have H := Lib.hid (Sb.range_some (s := s.data.toList) (a := a) (b := b) ⟨by omega, by omega, by omega⟩)
  generalize Line.start s.data.toList a = x at *
  generalize Line.stop s.data.toList b = y at *
  generalize (Line.L s.data.toList).length = n at *
  have d1 : decide (a < 0) = false := decide_eq_false h
  have d2 : decide (b < a) = false := decide_eq_false h2
  have d3 : decide ((n : Int) ≤ b) = false := decide_eq_false h3
  clear hs
  go_enter Tryd.func11, Tryd.ntmps11
  go_wp2_with (first
    | (go_at_call 29; (with_reducible refine (C1.out _).mono ?_); rintro e u ⟨rfl, hb⟩; replace K := K.on hb; clear hb q0 q1 q2 f0 f1 f2; obtain ⟨q0, q1, q2, f0, f1, f2⟩ := K.cells)
    | (go_at_call 30; (with_reducible refine (A1.out _).mono ?_); rintro e u ⟨rfl, hb⟩; replace K := K.on hb; clear hb q0 q1 q2 f0 f1 f2; obtain ⟨q0, q1, q2, f0, f1, f2⟩ := K.cells)
    | (go_at_call 31; (with_reducible refine (B1.out _).mono ?_); rintro e u ⟨rfl, hb⟩; replace K := K.on hb; clear hb q0 q1 q2 f0 f1 f2; obtain ⟨q0, q1, q2, f0, f1, f2⟩ := K.cells))
  exact ret_three1 rfl rfl (three_row K.blk) rfl Tryd.underlying32 rfl ⟨by rw [H.out]; rfl, below_three K.below (Nat.le_refl _)⟩
theorem ref28_Range (s : ByteArray) (a b : Int) (hs : s.size ≤ 1000000000000) (w : World) :
    Calls Tryd.prog 11 #[.string s, .int .i64 a, .int .i64 b] w fun e w' => e = .returned (Sb.rangeV (Sb.range s.data.toList a b)) ∧ Below w.heap.size w w' := by
  by_cases h1 : a < 0
  · exact ref28_Range_low s a b hs h1 w
  · by_cases h2 : b < a
    · exact ref28_Range_turn s a b hs h1 h2 w
    · by_cases h3 : ((Line.L s.data.toList).length : Int) ≤ b
      · exact ref28_Range_high s a b hs h1 h2 h3 w
      · exact ref28_Range_ok s a b hs h1 h2 h3 w
theorem sub_num {x : Int} (h1 : -9223372036854775808 ≤ x) (h2 : x ≤ 9223372036854775807) : IntKind.i64.wrap x = x := by rw [IntKind.wrap_i64]; omega
theorem ref28_plain (p : ByteArray) (hp : p.size ≤ 1000000000000) (w : World) :
    Calls Tryd.prog 24 #[.string p] w fun e w' => e = .returned (.bool (decide (Sb.plain p.data.toList))) ∧ Below w.heap.size w w' := by
  have C := Lib.hid (fun w => ref4_Count p hp w)
  have V := fun w => ref_Valid p (by omega) w
  cases hv : Utf.valid p.data.toList with
  | false =>
    have H : Hid (decide (Sb.plain p.data.toList) = false) := decide_eq_false (fun h => by rw [h.1] at hv; cases hv)
    rw [hv] at V
    have V1 := Lib.hid V
    clear hv V
    generalize decide (Sb.plain p.data.toList) = z at *
    go_enter Tryd.func24, Tryd.ntmps24
    go_wp2_with (go_at_call 42; (with_reducible refine (V1.out _).mono ?_); rintro e u ⟨rfl, hb⟩)
    go_ret
    exact ⟨by rw [H.out]; rfl, hb⟩
  | true =>
    have g : ((((Line.L p.data.toList).length : Nat) : Int) == 1) = decide (Sb.plain p.data.toList) := by
      rw [Bool.eq_iff_iff, beq_iff_eq, decide_eq_true_eq, ← Sb.plain_count]
      omega
    rw [hv] at V
    have V1 := Lib.hid V
    clear hv V
    generalize (Line.L p.data.toList).length = n at *
    generalize decide (Sb.plain p.data.toList) = z at *
    go_enter Tryd.func24, Tryd.ntmps24
    go_wp2_with (first
      | (go_at_call 42; (with_reducible refine (V1.out _).mono ?_); rintro e u ⟨rfl, hb⟩)
      | (go_at_call 29; (with_reducible refine (C.out _).mono ?_); rintro e u2 ⟨rfl, hb2⟩))
    go_ret
    exact ⟨rfl, hb.trans (hb2.mono hb.size)⟩
namespace Sb
/-- How the document goes through a line: what it has, how often, and what is left. -/
def Thr (p r : List UInt8) (mo : Nat) (x : List UInt8) (out : List UInt8) (n i : Nat) : Prop :=
  n ≤ mo ∧ one p r mo x = (out ++ (one p r (mo - n) (x.drop i)).1, n + (one p r (mo - n) (x.drop i)).2)
theorem thr_start (p r : List UInt8) (mo : Nat) (x : List UInt8) : Thr p r mo x [] 0 0 := ⟨Nat.zero_le _, by simp⟩
theorem thr_hit {p r : List UInt8} {mo : Nat} {x out : List UInt8} {n i : Nat} (h0 : p ≠ []) (h : Thr p r mo x out n i) (hn : n < mo) {t : List UInt8} (hx : x.drop i = p ++ t) : Thr p r mo x (out ++ r) (n + 1) (i + p.length) := by
  obtain ⟨h1, h2⟩ := h
  refine ⟨by omega, ?_⟩
  have e : x.drop (i + p.length) = t := by rw [← List.drop_drop, hx, List.drop_left]
  rw [h2, hx, one_hit r h0 (by omega) t, e, show mo - (n + 1) = mo - n - 1 by omega]
  simp only [List.append_assoc, Prod.mk.injEq, true_and]
  omega
theorem thr_miss {p r : List UInt8} {mo : Nat} {x out : List UInt8} {n i : Nat} (h : Thr p r mo x out n i) {b : UInt8} (hb : x[i]? = some b) (hm : ¬ (n < mo ∧ p <+: x.drop i)) : Thr p r mo x (out ++ [b]) n (i + 1) := by
  obtain ⟨h1, h2⟩ := h
  obtain ⟨hi, hb2⟩ := List.getElem?_eq_some_iff.1 hb
  refine ⟨h1, ?_⟩
  have e : x.drop i = b :: x.drop (i + 1) := by rw [List.drop_eq_getElem_cons hi, hb2]
  have hm2 : ¬ (0 < mo - n ∧ p <+: b :: x.drop (i + 1)) := fun hh => hm ⟨by omega, by rw [e]; exact hh.2⟩
  rw [h2, e, one_miss r hm2]
  simp
theorem thr_end {p r : List UInt8} {mo : Nat} {x out : List UInt8} {n i : Nat} (h : Thr p r mo x out n i) (hi : x.length ≤ i) : one p r mo x = (out, n) := by
  rw [h.2, List.drop_eq_nil_of_le hi, one_nil]
  simp
end Sb
set_option maxHeartbeats 2000000 in
set_option maxRecDepth 100000 in
theorem ref28_one (x p r : ByteArray) (mo : Nat) (hx : x.size ≤ 1000000) (hp1 : 1 ≤ p.size) (hp : p.size ≤ 1000000000000) (hr : r.size ≤ 1000000000) (hmo : mo ≤ 1000000000000) (w : World) :
    Calls Tryd.prog 26 #[.string x, .string p, .string r, .int .i64 mo] w fun e w' => e = .returned (.tuple #[.string (bs (Sb.one p.data.toList r.data.toList mo x.data.toList).1), .int .i64 ((Sb.one p.data.toList r.data.toList mo x.data.toList).2 : Nat)]) ∧ w = w' := by
  have h0 : p.data.toList ≠ [] := fun e => by have := data_len p; rw [e] at this; simp at this; omega
  have hl := data_len x
  have hpl := data_len p
  have H0 := Lib.hid (Sb.thr_start p.data.toList r.data.toList mo x.data.toList)
  go_enter Tryd.func26, Tryd.ntmps26
  go_wp2_with fail
  go_loop [10, 11, 12] (fun ov nv iv => ∃ (out : List UInt8) (n i : Nat), ov = .string (bs out) ∧ nv = .int .i64 n ∧ iv = .int .i64 i ∧ i ≤ x.size ∧ n ≤ i ∧ out.length ≤ 1000000001 * i ∧ Hid (Sb.Thr p.data.toList r.data.toList mo x.data.toList out n i)) (fun _ _ iv => x.size - (intOf iv).toNat)
  case atStart => exact ⟨[], 0, 0, rfl, rfl, rfl, Nat.zero_le _, Nat.le_refl _, Nat.zero_le _, H0⟩
  case round =>
    obtain ⟨out, n, i, rfl, rfl, rfl, hix, hni, hol, hT⟩ := hrel
    clear H0
    by_cases hlt : i < x.size
    · obtain ⟨b, hb⟩ : ∃ b, x.data.toList[i]? = some b := ⟨_, List.getElem?_eq_getElem (by omega)⟩
      have hoz : (bs out).size = out.length := bs_size out
      have e1 : x.extract i (i + 1) = bs [b] := by
        rw [Lib.extract_eq, show i + 1 - i = 1 by omega, List.drop_eq_getElem_cons (by omega), List.take_succ_cons, List.take_zero, (List.getElem?_eq_some_iff.1 hb).2]; rfl
      have HO : Hid (bs out ++ bs [b] = bs (out ++ [b])) := by show _ = _; rw [bs_append]
      have HR : Hid (bs out ++ r = bs (out ++ r.data.toList)) := by show _ = _; rw [← bs_append, bs_data]
      have hb1 : (bs [b]).size = 1 := by rw [bs_size]; rfl
      have t1 : decide ((i : Int) < (x.size : Int)) = true := decide_eq_true (by omega)
      have t2 : (i : Int) + 1 ≤ (x.size : Int) := by omega
      by_cases hnm : n < mo
      · have t3 : decide ((n : Int) < (mo : Int)) = true := decide_eq_true (by omega)
        have t4 : decide (n < mo) = true := decide_eq_true hnm
        by_cases hroom : i + p.size ≤ x.size
        · have t5 : decide ((i : Int) + (p.size : Int) ≤ (x.size : Int)) = true := decide_eq_true (by omega)
          have t6 : decide (i + p.size ≤ x.size) = true := decide_eq_true hroom
          have t7 : (i : Int) + (p.size : Int) ≤ (x.size : Int) := by omega
          have t8 : (i : Int) ≤ (i : Int) + (p.size : Int) := by omega
          have es : x.extract i (i + p.size) = bs ((x.data.toList.drop i).take p.size) := by
            rw [Lib.extract_eq, show i + p.size - i = p.size by omega]; rfl
          by_cases hh : (x.data.toList.drop i).take p.size = p.data.toList
          · have hxd : x.data.toList.drop i = p.data.toList ++ (x.data.toList.drop i).drop p.size := by rw [← hh, List.take_append_drop]
            have hT2 := Lib.hid (Sb.thr_hit h0 hT.out hnm hxd)
            rw [hpl] at hT2
            rw [hh, bs_data] at es
            have t9 : (p.toList == p.toList) = true := by simp
            have w1 : IntKind.i64.wrap ((i : Int) + (p.size : Int)) = (i : Int) + (p.size : Int) := sub_num (by omega) (by omega)
            clear hT hb hl hpl hh hxd e1 HO hb1
            generalize bs out = O at *
            go_wp2
            go_round
            case rel => exact ⟨out ++ r.data.toList, n + 1, i + p.size, by rw [HR.out], by go_num, by go_num, hroom, by omega, by rw [List.length_append, data_len]; omega, hT2⟩
            case measure => simp [intOf]; omega
          · have t9 : ((bs ((x.data.toList.drop i).take p.size)).toList == p.toList) = false := by
              rw [bs_tl, Lib.toList_data]
              exact beq_eq_false_iff_ne.2 hh
            have hT2 := Lib.hid (Sb.thr_miss hT.out hb (fun hc => hh (by obtain ⟨v, hv⟩ := hc.2; rw [← hv, ← hpl, List.take_left])))
            have w1 : IntKind.i64.wrap ((i : Int) + (p.size : Int)) = (i : Int) + (p.size : Int) := sub_num (by omega) (by omega)
            clear hT hb hl hpl hh HR
            generalize bs ((x.data.toList.drop i).take p.size) = Y at *
            generalize bs out = O at *
            generalize bs [b] = B at *
            go_wp2
            go_round
            case rel => exact ⟨out ++ [b], n, i + 1, by rw [HO.out], by go_num, by go_num, by omega, by omega, by rw [List.length_append, List.length_singleton]; omega, hT2⟩
            case measure => simp [intOf]; omega
        · have t5 : decide ((i : Int) + (p.size : Int) ≤ (x.size : Int)) = false := decide_eq_false (by omega)
          have t6 : decide (i + p.size ≤ x.size) = false := decide_eq_false hroom
          have t7 : ¬ (i : Int) + (p.size : Int) ≤ (x.size : Int) := by omega
          have hT2 := Lib.hid (Sb.thr_miss hT.out hb (fun hc => hroom (by have := hc.2.length_le; rw [List.length_drop] at this; omega)))
          have w1 : IntKind.i64.wrap ((i : Int) + (p.size : Int)) = (i : Int) + (p.size : Int) := sub_num (by omega) (by omega)
          clear hT hb hl hpl HR
          generalize bs out = O at *
          generalize bs [b] = B at *
          go_wp2
          go_round
          case rel => exact ⟨out ++ [b], n, i + 1, by rw [HO.out], by go_num, by go_num, by omega, by omega, by rw [List.length_append, List.length_singleton]; omega, hT2⟩
          case measure => simp [intOf]; omega
      · have t3 : decide ((n : Int) < (mo : Int)) = false := decide_eq_false (by omega)
        have t4 : decide (n < mo) = false := decide_eq_false hnm
        have hT2 := Lib.hid (Sb.thr_miss hT.out hb (fun hc => hnm hc.1))
        clear hT hb hl hpl HR
        generalize bs out = O at *
        generalize bs [b] = B at *
        go_wp2
        go_round
        case rel => exact ⟨out ++ [b], n, i + 1, by rw [HO.out], by go_num, by go_num, by omega, by omega, by rw [List.length_append, List.length_singleton]; omega, hT2⟩
        case measure => simp [intOf]; omega
    · have t1 : decide ((i : Int) < (x.size : Int)) = false := decide_eq_false (by omega)
      have HE := Lib.hid (Sb.thr_end hT.out (by omega))
      clear hT hl hpl
      go_wp2
      go_ret2
      exact ⟨by rw [HE.out]; rfl, rfl⟩
end Go.Proofs.YtlfhfpjffdaomaaDoor
/-
  The document's count of a text in lines, and lines with a text in the place of another one.
-/
namespace Go.Proofs.YtlfhfpjffdaomaaDoor
open Go.RowKit
open Gl
namespace Sb
theorem cnt_le {p : List UInt8} (h0 : p ≠ []) (m : Nat) : ∀ Q : List (List UInt8), cnt p m Q ≤ Q.flatten.length
  | [] => Nat.zero_le _
  | x :: q => by
    have h1 := (ps_few h0 m x).1
    have h2 := cnt_le h0 m q
    rw [cnt, List.map_cons, List.sum_cons, List.flatten_cons, List.length_append]
    rw [cnt] at h2
    omega
theorem mids_cnt {p s : List UInt8} (h0 : p ≠ []) (m : Nat) {i j : Nat} {x y : Nat × Nat} (hij : i ≤ j) (hx : (Line.L s)[i]? = some x) (hy : (Line.L s)[j]? = some y) : cnt p m (mids i j (Ix.parts s)) ≤ s.length := by
  obtain ⟨_, h2, h3, hne, _⟩ := there_glue hij hx hy
  have h4 := glue_len hne
  have h5 := cnt_le h0 m (mids i j (Ix.parts s))
  have h6 := List.length_pos_iff.2 hne
  omega
theorem cnt_drop {p : List UInt8} {m q : Nat} {Q : List (List UInt8)} {x : List UInt8} (h : Q[q]? = some x) : cnt p m (Q.drop q) = ((ps p 0 m x).length - 1) + cnt p m (Q.drop (q + 1)) := by
  obtain ⟨hq, hx⟩ := List.getElem?_eq_some_iff.1 h
  rw [List.drop_eq_getElem_cons hq, hx, cnt, List.map_cons, List.sum_cons, cnt]
theorem lst_drop {p : List UInt8} {m q : Nat} {Q : List (List UInt8)} {x : List UInt8} (h : Q[q]? = some x) (k z : Int) : lst p m k z (Q.drop q) = lst p m (k + 1) (if 0 < (ps p 0 m x).length - 1 then k else z) (Q.drop (q + 1)) := by
  obtain ⟨hq, hx⟩ := List.getElem?_eq_some_iff.1 h
  rw [List.drop_eq_getElem_cons hq, hx, lst]
/-- Lines, of which q from line i on are other ones already. -/
def cur (sw : List UInt8 → List UInt8) (i q : Nat) (R : List (List UInt8)) : List (List UInt8) := R.take i ++ (((R.drop i).take q).map sw ++ R.drop (i + q))
theorem cur_zero (sw : List UInt8 → List UInt8) (i : Nat) (R : List (List UInt8)) : cur sw i 0 R = R := by simp [cur]
theorem cur_length (sw : List UInt8 → List UInt8) {i q : Nat} {R : List (List UInt8)} (h : i + q ≤ R.length) : (cur sw i q R).length = R.length := by
  simp only [cur, List.length_append, List.length_map, List.length_take, List.length_drop]
  omega
theorem cur_get (sw : List UInt8 → List UInt8) {i q : Nat} {R : List (List UInt8)} {x : List UInt8} (h : R[i + q]? = some x) : (cur sw i q R)[i + q]? = some x := by
  have hl := (List.getElem?_eq_some_iff.1 h).1
  rw [cur, ← List.append_assoc, List.getElem?_append_right (by simp; omega), List.getElem?_drop]
  simp only [List.length_append, List.length_map, List.length_take, List.length_drop]
  rw [show i + q + (i + q - (min i R.length + min q (R.length - i))) = i + q by omega]
  exact h
theorem cur_set (sw : List UInt8 → List UInt8) {i q : Nat} {R : List (List UInt8)} {x : List UInt8} (h : R[i + q]? = some x) : (cur sw i q R).set (i + q) (sw x) = cur sw i (q + 1) R := by
  obtain ⟨hl, hx⟩ := List.getElem?_eq_some_iff.1 h
  have e1 : (R.drop i).take (q + 1) = (R.drop i).take q ++ [x] := by rw [List.take_add_one, List.getElem?_drop, h]; rfl
  have e2 : R.drop (i + q) = x :: R.drop (i + (q + 1)) := by rw [List.drop_eq_getElem_cons hl, hx]; rfl
  rw [cur, cur, e1, e2, ← List.append_assoc, List.set_append_right _ _ (by simp; omega), List.map_append, ← List.append_assoc, ← List.append_assoc, List.append_assoc (R.take i ++ _) (List.map sw [x])]
  congr 1
  have e3 : i + q - (R.take i ++ ((R.drop i).take q).map sw).length = 0 := by
    simp only [List.length_append, List.length_map, List.length_take, List.length_drop]
    omega
  rw [e3]
  rfl
theorem cur_all (p r : List UInt8) (m : Nat) {i j : Nat} (hij : i ≤ j) (R : List (List UInt8)) : cur (fun l => jn r (ps p 0 m l)) i (j + 1 - i) R = rows p r m i j R := by
  rw [cur, rows, show i + (j + 1 - i) = j + 1 by omega]
end Sb
set_option maxHeartbeats 2000000 in
set_option maxRecDepth 100000 in
theorem ref28_Count_there (s p : ByteArray) (a b : Int) (hs : s.size ≤ 100000) (h : ¬ Sb.there s.data.toList a b) (w : World) :
    Calls Tryd.prog 13 #[.string s, .int .i64 a, .int .i64 b, .string p] w fun e w' => e = .returned (.int .i64 (Sb.count s.data.toList a b p.data.toList : Nat)) ∧ Below w.heap.size w w' := by
  have R := Lib.hid (fun w => ref28_Range s a b (by omega) w)
  rw [Sb.range_none h, Sb.rangeV] at R
  have H : Hid (Sb.count s.data.toList a b p.data.toList = 0) := by show _ = _; rw [Sb.count, if_neg (fun hh => h hh.1)]
  clear h
  go_enter Tryd.func13, Tryd.ntmps13
  go_wp2_with (first
    | (go_at_call 11; (with_reducible refine (R.out _).mono ?_); rintro e u ⟨rfl, hb⟩; have hX := hb.alloc hb.size (.cells #[.int .i64 0, .int .i64 0, .bool false] 32)))
  go_ret
  exact ⟨by rw [H.out]; rfl, hX⟩
set_option maxHeartbeats 2000000 in
set_option maxRecDepth 100000 in
theorem ref28_Count_none (s p : ByteArray) (a b : Int) (hs : s.size ≤ 100000) (h : Sb.there s.data.toList a b) (h2 : p.data.toList = []) (w : World) :
    Calls Tryd.prog 13 #[.string s, .int .i64 a, .int .i64 b, .string p] w fun e w' => e = .returned (.int .i64 (Sb.count s.data.toList a b p.data.toList : Nat)) ∧ Below w.heap.size w w' := by
  have R := Lib.hid (fun w => ref28_Range s a b (by omega) w)
  rw [Sb.range_some h, Sb.rangeV] at R
  have H : Hid (Sb.count s.data.toList a b p.data.toList = 0) := by show _ = _; rw [Sb.count, if_neg (fun hh => hh.2.1 h2)]
  have ge : p.toList.isEmpty = true := by
    rw [Lib.toList_data]
    rw [h2]; rfl
  clear h h2
  generalize Line.start s.data.toList a = x at *
  generalize Line.stop s.data.toList b = y at *
  go_enter Tryd.func13, Tryd.ntmps13
  go_wp2_with (first
    | (go_at_call 11; (with_reducible refine (R.out _).mono ?_); rintro e u ⟨rfl, hb⟩; have hX := hb.alloc hb.size (.cells #[.int .i64 x, .int .i64 y, .bool true] 32)))
  go_ret
  exact ⟨by rw [H.out]; rfl, hX⟩
set_option maxHeartbeats 2000000 in
set_option maxRecDepth 100000 in
theorem ref28_Count_plain (s p : ByteArray) (a b : Int) (hs : s.size ≤ 100000) (hp : p.size ≤ 1000000000000) (h : Sb.there s.data.toList a b) (h2 : p.data.toList ≠ []) (h3 : ¬ Sb.plain p.data.toList) (w : World) :
    Calls Tryd.prog 13 #[.string s, .int .i64 a, .int .i64 b, .string p] w fun e w' => e = .returned (.int .i64 (Sb.count s.data.toList a b p.data.toList : Nat)) ∧ Below w.heap.size w w' := by
  have R := Lib.hid (fun w => ref28_Range s a b (by omega) w)
  rw [Sb.range_some h, Sb.rangeV] at R
  have P := Lib.hid (fun w => ref28_plain p hp w)
  rw [decide_eq_false h3] at P
  have H : Hid (Sb.count s.data.toList a b p.data.toList = 0) := by show _ = _; rw [Sb.count, if_neg (fun hh => h3 hh.2.2)]
  have ge : p.toList.isEmpty = false := by
    rw [Lib.toList_data]
    cases hl : p.data.toList with
    | nil => exact absurd hl h2
    | cons _ _ => rfl
  clear h h2 h3
  generalize Line.start s.data.toList a = x at *
  generalize Line.stop s.data.toList b = y at *
  go_enter Tryd.func13, Tryd.ntmps13
  go_wp2_with (first
    | (go_at_call 11; (with_reducible refine (R.out _).mono ?_); rintro e u ⟨rfl, hb⟩; have hX := hb.alloc hb.size (.cells #[.int .i64 x, .int .i64 y, .bool true] 32))
    | (go_at_call 24; (with_reducible refine (P.out _).mono ?_); rintro e u2 ⟨rfl, hb2⟩; replace hX := hX.trans (hb2.mono hX.size); clear hb2))
  go_ret
  exact ⟨by rw [H.out]; rfl, hX⟩
set_option maxHeartbeats 2000000 in
set_option maxRecDepth 100000 in
theorem ref28_Count_ok (s p : ByteArray) {i j : Nat} {x y : Nat × Nat} (hs : s.size ≤ 100000) (hp : p.size ≤ 1000000000000) (h : Sb.there s.data.toList (i : Int) (j : Int)) (h2 : p.data.toList ≠ []) (h3 : Sb.plain p.data.toList) (hx : (Line.L s.data.toList)[i]? = some x) (hy : (Line.L s.data.toList)[j]? = some y) (w : World) :
    Calls Tryd.prog 13 #[.string s, .int .i64 i, .int .i64 j, .string p] w fun e w' => e = .returned (.int .i64 (Sb.count s.data.toList (i : Int) (j : Int) p.data.toList : Nat)) ∧ Below w.heap.size w w' := by
  have hp1 : 1 ≤ p.size := by rw [← data_len]; exact List.length_pos_iff.2 h2
  have hij : i ≤ j := by have := h.2.1; omega
  have ht := Line.L_valid hx
  have R := Lib.hid (fun w => ref28_Range s (i : Int) (j : Int) (by omega) w)
  rw [Sb.range_some h, Sb.rangeV, Line.start_some (by rw [Line.line_nat]; exact hx), Line.stop_some (by rw [Line.line_nat]; exact hy)] at R
  have P := Lib.hid (fun w => ref28_plain p hp w)
  rw [decide_eq_true h3] at P
  have hjl : j < (Ix.parts s.data.toList).length := by rw [← L_len ht]; exact (List.getElem?_eq_some_iff.1 hy).1
  have hpl : (Ix.parts s.data.toList).length ≤ s.size + 1 := by
    have := Line.L_length s.data.toList
    rw [data_len] at this
    rw [← L_len ht]; exact this
  have RW := Lib.hid (fun w => ref23_Rows s ht (by omega) w)
  have HL : Hid (∀ q, q < j + 1 - i → ∃ x, (Sb.mids i j (Ix.parts s.data.toList))[q]? = some x ∧ (Ix.parts s.data.toList)[i + q]? = some x ∧ x.length ≤ s.size) := fun q hq => by
    have hl := Sb.mids_length hij hjl
    have hm := List.getElem?_eq_getElem (l := Sb.mids i j (Ix.parts s.data.toList)) (i := q) (by omega)
    have hm2 := hm
    rw [Sb.mids_get hq] at hm2
    exact ⟨_, hm, hm2, by rw [← data_len]; exact Sb.row_len (List.mem_of_getElem? hm2)⟩
  have ge : p.toList.isEmpty = false := by
    rw [Lib.toList_data]
    cases hl : p.data.toList with
    | nil => exact absurd hl h2
    | cons _ _ => rfl
  have hcl := Sb.mids_cnt h2 s.size hij hx hy
  have H : Hid (Sb.count s.data.toList (i : Int) (j : Int) p.data.toList = Sb.cnt p.data.toList s.size (Sb.mids i j (Ix.parts s.data.toList))) := by
    show _ = _
    rw [Sb.count, if_pos ⟨h, h2, h3⟩, Int.toNat_natCast, Int.toNat_natCast, data_len]
  have ON : Hid (∀ z : List UInt8, z.length ≤ s.size → ∀ u, Calls Tryd.prog 26 #[.string (bs z), .string p, .string ⟨#[]⟩, .int .i64 s.size] u fun e w' => (∃ v, e = .returned (.tuple #[v, .int .i64 ((Sb.ps p.data.toList 0 s.size z).length - 1 : Nat)])) ∧ u = w') := fun z hz u => (ref28_one (bs z) p ⟨#[]⟩ s.size (by rw [bs_size]; omega) hp1 hp (by decide) (by omega) u).mono (by
    rintro e w' ⟨rfl, rfl⟩
    rw [bs_toList]
    exact ⟨⟨_, rfl⟩, rfl⟩)
  rw [data_len] at hcl
  have HJ := Lib.hid hjl
  clear h h2 h3 hx hy ht
  generalize x.1 = x at *
  generalize y.2 = y at *
  go_enter Tryd.func13, Tryd.ntmps13
  go_wp2_with (first
    | (go_at_call 11; (with_reducible refine (R.out _).mono ?_); rintro e u ⟨rfl, hb⟩; have hX := hb.alloc hb.size (.cells #[.int .i64 x, .int .i64 y, .bool true] 32))
    | (go_at_call 24; (with_reducible refine (P.out _).mono ?_); rintro e u2 ⟨rfl, hb2⟩; replace hX := hX.trans (hb2.mono hX.size); clear hb2)
    | (go_at_call 25; (with_reducible refine (RW.out _).mono ?_); rintro e u5 ⟨⟨A, c, rfl, hown⟩, hb5⟩))
  obtain ⟨m, hm⟩ : ∃ m, (Ix.parts s.data.toList).length = m := ⟨_, rfl⟩
  rw [hm] at hown hjl hpl
  rw [hm]
  obtain ⟨g, c', hv, hgw, hBg, _⟩ := own_addr hown (by omega)
  injection hv with hv hl hcc
  subst hv hcc
  clear hl hgw hBg
  have hX2 := hX.trans (hb5.mono hX.size)
  have hrow : ∀ q x, (Ix.parts s.data.toList)[i + q]? = some x → u5.cell? ⟨g, i + q, none⟩ = some (.string (bs x)) := fun q x hq => by
    have := hown.cells (g := g) rfl (i + q) _ (lrow_get hq)
    rwa [add_plain, Nat.zero_add] at this
  have HR := Lib.hid hrow
  have HC0 : Hid (Sb.cnt p.data.toList s.size (Sb.mids i j (Ix.parts s.data.toList)) = 0 + Sb.cnt p.data.toList s.size ((Sb.mids i j (Ix.parts s.data.toList)).drop 0)) := by show _ = _; rw [List.drop_zero, Nat.zero_add]
  clear hrow hown hX hb5 R P RW hm
  go_loopw [11, 13] (fun nv kv wr => ∃ q n : Nat, q ≤ j + 1 - i ∧ kv = .int .i64 ((i : Int) + (q : Int)) ∧ nv = .int .i64 n ∧ n ≤ s.size ∧ Hid (Sb.cnt p.data.toList s.size (Sb.mids i j (Ix.parts s.data.toList)) = n + Sb.cnt p.data.toList s.size ((Sb.mids i j (Ix.parts s.data.toList)).drop q)) ∧ wr = u5) (fun _ kv _ => j + 1 - (intOf kv).toNat)
  case atStart => exact ⟨0, 0, Nat.zero_le _, by simp, rfl, Nat.zero_le _, HC0, rfl⟩
  case round =>
    obtain ⟨q, n, hq, rfl, rfl, hns, hC, rfl⟩ := hrel
    clear HC0
    by_cases hlt : q < j + 1 - i
    · obtain ⟨X, hX1, hX3, hXl⟩ := HL.out q hlt
      have c0 := HR.out q X hX3
      have hC2 := hC.out
      rw [Sb.cnt_drop hX1, ← Nat.add_assoc] at hC2
      have O1 := Lib.hid (ON.out X hXl)
      have hnn : n + ((Sb.ps p.data.toList 0 s.size X).length - 1) ≤ s.size := by omega
      have HC2 := Lib.hid hC2
      clear hC hC2 hX1 hX3 hXl
      generalize (Sb.ps p.data.toList 0 s.size X).length - 1 = d at *
      have t1 : decide ((i : Int) + (q : Int) ≤ (j : Int)) = true := decide_eq_true (by omega)
      have t2 : (i : Int) + (q : Int) < (m : Int) := by omega
      have t3 : (0 : Int) ≤ (i : Int) + (q : Int) := by omega
      have t4 : ((i : Int) + (q : Int)).toNat = i + q := by omega
      have w1 : IntKind.i64.wrap ((i : Int) + (q : Int) + 1) = (i : Int) + (q : Int) + 1 := sub_num (by omega) (by omega)
      have w2 : IntKind.i64.wrap ((n : Int) + (d : Int)) = (n : Int) + (d : Int) := sub_num (by omega) (by omega)
      go_wp2_with (go_at_call 26; (with_reducible refine (O1.out _).mono ?_); rintro e u6 ⟨⟨v, rfl⟩, rfl⟩)
      go_roundw
      case rel => exact ⟨q + 1, n + d, by omega, by go_num, by go_num, hnn, HC2, by trivial⟩
      case measure => simp [intOf]; omega
    · have t1 : decide ((i : Int) + (q : Int) ≤ (j : Int)) = false := decide_eq_false (by omega)
      have HE : Hid (Sb.cnt p.data.toList s.size (Sb.mids i j (Ix.parts s.data.toList)) = n) := by
        show _ = _
        rw [hC.out, List.drop_eq_nil_of_le (by rw [Sb.mids_length hij HJ.out]; omega)]
        rfl
      clear hC
      go_wp2
      go_ret
      exact ⟨by rw [H.out, HE.out]; rfl, hX2⟩
theorem ref28_Count (s p : ByteArray) (a b : Int) (hs : s.size ≤ 100000) (hp : p.size ≤ 1000000000000) (w : World) :
    Calls Tryd.prog 13 #[.string s, .int .i64 a, .int .i64 b, .string p] w fun e w' => e = .returned (.int .i64 (Sb.count s.data.toList a b p.data.toList : Nat)) ∧ Below w.heap.size w w' := by
  by_cases h : Sb.there s.data.toList a b
  · by_cases h2 : p.data.toList = []
    · exact ref28_Count_none s p a b hs h h2 w
    · by_cases h3 : Sb.plain p.data.toList
      · obtain ⟨i, j, x, y, rfl, rfl, _, hx, hy, _, _⟩ := Sb.there_at h
        exact ref28_Count_ok s p hs hp h h2 h3 hx hy w
      · exact ref28_Count_plain s p a b hs hp h h2 h3 w
  · exact ref28_Count_there s p a b hs h w
end Go.Proofs.YtlfhfpjffdaomaaDoor
/-
  Lines with a text in the place of another one, by the document.
-/
namespace Go.Proofs.YtlfhfpjffdaomaaDoor
open Go.RowKit
open Gl
set_option maxHeartbeats 2000000 in
set_option maxRecDepth 100000 in
theorem ref28_Swap_there (s p r : ByteArray) (a b : Int) (all : Bool) (hs : s.size ≤ 10000) (h : ¬ Sb.there s.data.toList a b) (w : World) :
    Calls Tryd.prog 9 #[.string s, .int .i64 a, .int .i64 b, .string p, .string r, .bool all] w fun e w' => e = .returned (Sb.swapV (Sb.swap s.data.toList a b p.data.toList r.data.toList all)) ∧ Below w.heap.size w w' := by
  have R := Lib.hid (fun w => ref28_Range s a b (by omega) w)
  rw [Sb.range_none h, Sb.rangeV] at R
  have H := Lib.hid (Sb.swap_arg (p := p.data.toList) (r := r.data.toList) (all := all) (fun hh : Sb.there s.data.toList a b ∧ p.data.toList ≠ [] ∧ Sb.plain p.data.toList ∧ Sb.plain r.data.toList => h hh.1))
  clear h
  go_enter Tryd.func9, Tryd.ntmps9
  go_wp2_with (first
    | (go_at_call 11; (with_reducible refine (R.out _).mono ?_); rintro e u ⟨rfl, hb⟩; have hX := hb.alloc hb.size (.cells #[.int .i64 0, .int .i64 0, .bool false] 32)))
  go_ret3
  exact ⟨by rw [H.out]; rfl, hX⟩
set_option maxHeartbeats 2000000 in
set_option maxRecDepth 100000 in
theorem ref28_Swap_none (s p r : ByteArray) (a b : Int) (all : Bool) (hs : s.size ≤ 10000) (h : Sb.there s.data.toList a b) (h2 : p.data.toList = []) (w : World) :
    Calls Tryd.prog 9 #[.string s, .int .i64 a, .int .i64 b, .string p, .string r, .bool all] w fun e w' => e = .returned (Sb.swapV (Sb.swap s.data.toList a b p.data.toList r.data.toList all)) ∧ Below w.heap.size w w' := by
  have R := Lib.hid (fun w => ref28_Range s a b (by omega) w)
  rw [Sb.range_some h, Sb.rangeV] at R
  have H := Lib.hid (Sb.swap_arg (p := p.data.toList) (r := r.data.toList) (all := all) (fun hh : Sb.there s.data.toList a b ∧ p.data.toList ≠ [] ∧ Sb.plain p.data.toList ∧ Sb.plain r.data.toList => hh.2.1 h2))
  have ge : p.toList.isEmpty = true := by
    rw [Lib.toList_data]
    rw [h2]; rfl
  clear h h2
  generalize Line.start s.data.toList a = x at *
  generalize Line.stop s.data.toList b = y at *
  go_enter Tryd.func9, Tryd.ntmps9
  go_wp2_with (first
    | (go_at_call 11; (with_reducible refine (R.out _).mono ?_); rintro e u ⟨rfl, hb⟩; have hX := hb.alloc hb.size (.cells #[.int .i64 x, .int .i64 y, .bool true] 32)))
  go_ret3
  exact ⟨by rw [H.out]; rfl, hX⟩
set_option maxHeartbeats 2000000 in
set_option maxRecDepth 100000 in
theorem ref28_Swap_pat (s p r : ByteArray) (a b : Int) (all : Bool) (hs : s.size ≤ 10000) (hp : p.size ≤ 1000000000000) (h : Sb.there s.data.toList a b) (h2 : p.data.toList ≠ []) (h3 : ¬ Sb.plain p.data.toList) (w : World) :
    Calls Tryd.prog 9 #[.string s, .int .i64 a, .int .i64 b, .string p, .string r, .bool all] w fun e w' => e = .returned (Sb.swapV (Sb.swap s.data.toList a b p.data.toList r.data.toList all)) ∧ Below w.heap.size w w' := by
  have R := Lib.hid (fun w => ref28_Range s a b (by omega) w)
  rw [Sb.range_some h, Sb.rangeV] at R
  have P := Lib.hid (fun w => ref28_plain p hp w)
  rw [decide_eq_false h3] at P
  have H := Lib.hid (Sb.swap_arg (p := p.data.toList) (r := r.data.toList) (all := all) (fun hh : Sb.there s.data.toList a b ∧ p.data.toList ≠ [] ∧ Sb.plain p.data.toList ∧ Sb.plain r.data.toList => h3 hh.2.2.1))
  have ge : p.toList.isEmpty = false := by
    rw [Lib.toList_data]
    cases hl : p.data.toList with
    | nil => exact absurd hl h2
    | cons _ _ => rfl
  clear h h2 h3
  generalize Line.start s.data.toList a = x at *
  generalize Line.stop s.data.toList b = y at *
  go_enter Tryd.func9, Tryd.ntmps9
  go_wp2_with (first
    | (go_at_call 11; (with_reducible refine (R.out _).mono ?_); rintro e u ⟨rfl, hb⟩; have hX := hb.alloc hb.size (.cells #[.int .i64 x, .int .i64 y, .bool true] 32))
    | (go_at_call 24; (with_reducible refine (P.out _).mono ?_); rintro e u2 ⟨rfl, hb2⟩; replace hX := hX.trans (hb2.mono hX.size); clear hb2))
  go_ret3
  exact ⟨by rw [H.out]; rfl, hX⟩
set_option maxHeartbeats 2000000 in
set_option maxRecDepth 100000 in
theorem ref28_Swap_rep (s p r : ByteArray) (a b : Int) (all : Bool) (hs : s.size ≤ 10000) (hp : p.size ≤ 1000000000000) (hr : r.size ≤ 90000) (h : Sb.there s.data.toList a b) (h2 : p.data.toList ≠ []) (h3 : Sb.plain p.data.toList) (h4 : ¬ Sb.plain r.data.toList) (w : World) :
    Calls Tryd.prog 9 #[.string s, .int .i64 a, .int .i64 b, .string p, .string r, .bool all] w fun e w' => e = .returned (Sb.swapV (Sb.swap s.data.toList a b p.data.toList r.data.toList all)) ∧ Below w.heap.size w w' := by
  have R := Lib.hid (fun w => ref28_Range s a b (by omega) w)
  rw [Sb.range_some h, Sb.rangeV] at R
  have P := Lib.hid (fun w => ref28_plain p hp w)
  have Q := Lib.hid (fun w => ref28_plain r (by omega) w)
  rw [decide_eq_true h3] at P
  rw [decide_eq_false h4] at Q
  have H := Lib.hid (Sb.swap_arg (p := p.data.toList) (r := r.data.toList) (all := all) (fun hh : Sb.there s.data.toList a b ∧ p.data.toList ≠ [] ∧ Sb.plain p.data.toList ∧ Sb.plain r.data.toList => h4 hh.2.2.2))
  have ge : p.toList.isEmpty = false := by
    rw [Lib.toList_data]
    cases hl : p.data.toList with
    | nil => exact absurd hl h2
    | cons _ _ => rfl
  clear h h2 h3 h4
  generalize Line.start s.data.toList a = x at *
  generalize Line.stop s.data.toList b = y at *
  go_enter Tryd.func9, Tryd.ntmps9
  go_wp2_with (first
    | (go_at_call 11; (with_reducible refine (R.out _).mono ?_); rintro e u ⟨rfl, hb⟩; have hX := hb.alloc hb.size (.cells #[.int .i64 x, .int .i64 y, .bool true] 32))
    | (go_at_call 24; (with_reducible refine (P.out _).mono ?_); rintro e u2 ⟨rfl, hb2⟩; replace hX := hX.trans (hb2.mono hX.size); clear hb2)
    | (go_at_call 24; (with_reducible refine (Q.out _).mono ?_); rintro e u3 ⟨rfl, hb2⟩; replace hX := hX.trans (hb2.mono hX.size); clear hb2))
  go_ret3
  exact ⟨by rw [H.out]; rfl, hX⟩
set_option maxHeartbeats 4000000 in
set_option maxRecDepth 100000 in
theorem ref28_Swap_false (s p r : ByteArray) {i j : Nat} {x y : Nat × Nat} (hs : s.size ≤ 10000) (hp : p.size ≤ 1000000000000) (hr : r.size ≤ 90000) (h : Sb.there s.data.toList (i : Int) (j : Int)) (h2 : p.data.toList ≠ []) (h3 : Sb.plain p.data.toList) (h4 : Sb.plain r.data.toList) (hx : (Line.L s.data.toList)[i]? = some x) (hy : (Line.L s.data.toList)[j]? = some y) (w : World) :
    Calls Tryd.prog 9 #[.string s, .int .i64 i, .int .i64 j, .string p, .string r, .bool false] w fun e w' => e = .returned (Sb.swapV (Sb.swap s.data.toList (i : Int) (j : Int) p.data.toList r.data.toList false)) ∧ Below w.heap.size w w' := by
  have hp1 : 1 ≤ p.size := by rw [← data_len]; exact List.length_pos_iff.2 h2
  have hij : i ≤ j := by have := h.2.1; omega
  have ht := Line.L_valid hx
  have R := Lib.hid (fun w => ref28_Range s (i : Int) (j : Int) (by omega) w)
  rw [Sb.range_some h, Sb.rangeV, Line.start_some (by rw [Line.line_nat]; exact hx), Line.stop_some (by rw [Line.line_nat]; exact hy)] at R
  have P := Lib.hid (fun w => ref28_plain p hp w)
  rw [decide_eq_true h3] at P
  have hjl : j < (Ix.parts s.data.toList).length := by rw [← L_len ht]; exact (List.getElem?_eq_some_iff.1 hy).1
  have hpl : (Ix.parts s.data.toList).length ≤ s.size + 1 := by
    have := Line.L_length s.data.toList
    rw [data_len] at this
    rw [← L_len ht]; exact this
  have RW := Lib.hid (fun w => ref23_Rows s ht (by omega) w)
  have HL : Hid (∀ q, q < j + 1 - i → ∃ x, (Sb.mids i j (Ix.parts s.data.toList))[q]? = some x ∧ (Ix.parts s.data.toList)[i + q]? = some x ∧ x.length ≤ s.size) := fun q hq => by
    have hl := Sb.mids_length hij hjl
    have hm := List.getElem?_eq_getElem (l := Sb.mids i j (Ix.parts s.data.toList)) (i := q) (by omega)
    have hm2 := hm
    rw [Sb.mids_get hq] at hm2
    exact ⟨_, hm, hm2, by rw [← data_len]; exact Sb.row_len (List.mem_of_getElem? hm2)⟩
  have ge : p.toList.isEmpty = false := by
    rw [Lib.toList_data]
    cases hl : p.data.toList with
    | nil => exact absurd hl h2
    | cons _ _ => rfl
  have Q := Lib.hid (fun w => ref28_plain r (by omega) w)
  rw [decide_eq_true h4] at Q
  obtain ⟨mo, hmo⟩ : ∃ mo, Sb.most s.data.toList false = mo := ⟨_, rfl⟩
  have hmo2 : mo = 1 := by rw [← hmo]; rfl
  have hcl := Sb.mids_cnt h2 mo hij hx hy
  rw [data_len] at hcl
  have ON : Hid (∀ z : List UInt8, z.length ≤ s.size → ∀ u, Calls Tryd.prog 26 #[.string (bs z), .string p, .string r, .int .i64 1] u fun e w' => e = .returned (.tuple #[.string (bs (Sb.sws p r mo z)), .int .i64 ((Sb.ps p.data.toList 0 mo z).length - 1 : Nat)]) ∧ u = w') := fun z hz u => by
    have := ref28_one (bs z) p r mo (by rw [bs_size]; omega) hp1 hp (by omega) (by omega) u
    rw [bs_toList, hmo2] at this
    rw [hmo2]
    exact this
  have hlen := Sb.rows_len h2 r.data.toList mo hij s.data.toList
  rw [data_len, data_len, data_len] at hlen
  have hmul : Sb.cnt p.data.toList mo (Sb.mids i j (Ix.parts s.data.toList)) * r.size ≤ 10000 * 90000 := Nat.mul_le_mul (by omega) hr
  have hTl : (glue (Sb.rows p.data.toList r.data.toList mo i j (Ix.parts s.data.toList))).length ≤ 1000000000 := by omega
  have HA := Lib.hid (And.intro h (And.intro h2 (And.intro h3 h4)))
  have HX := Lib.hid (And.intro hij hjl)
  have HZ : Hid (Sb.lst p.data.toList mo ((i : Int) + (0 : Nat)) (-1) ((Sb.mids i j (Ix.parts s.data.toList)).drop 0) = Sb.lst p.data.toList mo (i : Nat) (-1) (Sb.mids i j (Ix.parts s.data.toList))) := by show _ = _; rw [List.drop_zero]; simp
  have HMO := Lib.hid hmo
  clear h h2 h3 h4 hx hy ht hlen hmul hcl hmo hmo2
  generalize x.1 = x at *
  generalize y.2 = y at *
  go_enter Tryd.func9, Tryd.ntmps9
  go_wp2_with (first
    | (go_at_call 11; (with_reducible refine (R.out _).mono ?_); rintro e u ⟨rfl, hb⟩; have hX := hb.alloc hb.size (.cells #[.int .i64 x, .int .i64 y, .bool true] 32))
    | (go_at_call 24; (with_reducible refine (P.out _).mono ?_); rintro e u2 ⟨rfl, hb2⟩; replace hX := hX.trans (hb2.mono hX.size); clear hb2)
    | (go_at_call 24; (with_reducible refine (Q.out _).mono ?_); rintro e u3 ⟨rfl, hb2⟩; replace hX := hX.trans (hb2.mono hX.size); clear hb2)
    | (go_at_call 25; (with_reducible refine (RW.out _).mono ?_); rintro e u5 ⟨⟨A, c, rfl, hown⟩, hb5⟩))
  obtain ⟨m, hm⟩ : ∃ m, (Ix.parts s.data.toList).length = m := ⟨_, rfl⟩
  rw [hm] at hown hjl hpl
  rw [hm]
  obtain ⟨g, c', hv, hgw, hBg, _⟩ := own_addr hown (by omega)
  injection hv with hv hl hcc
  subst hv hcc
  clear hl
  have hX2 := hX.trans (hb5.mono hX.size)
  have hBw : w.heap.size ≤ g := Nat.le_trans hX.size hBg
  have hw0 : u5.ownsRow w.heap.size 9 1 (.slice (some ⟨g, 0, none⟩) m c) m (lrow (Sb.cur (Sb.sws p r mo) i 0 (Ix.parts s.data.toList))) := by
    rw [Sb.cur_zero]
    exact ⟨hown.1, hown.2.elim (fun hh => .inl hh) (fun ⟨g', cap, cu, e1, e2, e3⟩ => .inr ⟨g', cap, cu, e1, Nat.le_trans hX.size e2, e3⟩)⟩
  have HMm := Lib.hid hm
  clear hown hX hb5 R P Q RW hm hgw hBg
  go_loopw [18, 20] (fun av kv wr => ∃ (q : Nat) (z : Int), q ≤ j + 1 - i ∧ kv = .int .i64 ((i : Int) + (q : Int)) ∧ av = .int .i64 z ∧ Hid (Sb.lst p.data.toList mo ((i : Int) + (q : Nat)) z ((Sb.mids i j (Ix.parts s.data.toList)).drop q) = Sb.lst p.data.toList mo (i : Nat) (-1) (Sb.mids i j (Ix.parts s.data.toList))) ∧ Hid (wr.ownsRow w.heap.size 9 1 (.slice (some ⟨g, 0, none⟩) m c) m (lrow (Sb.cur (Sb.sws p r mo) i q (Ix.parts s.data.toList)))) ∧ Below w.heap.size w wr) (fun _ kv _ => j + 1 - (intOf kv).toNat)
  case atStart => exact ⟨0, -1, Nat.zero_le _, by simp, rfl, HZ, hw0, hX2⟩
  case round =>
    obtain ⟨q, z, hq, rfl, rfl, hZ, hown, hW⟩ := hrel
    clear HZ hw0 hX2
    by_cases hlt : q < j + 1 - i
    · obtain ⟨X, hX1, hX3, hXl⟩ := HL.out q hlt
      have c0 : wr.cell? ⟨g, i + q, none⟩ = some (.string (bs X)) := by
        have := hown.out.cells (g := g) rfl (i + q) _ (lrow_get (Sb.cur_get (Sb.sws p r mo) hX3))
        rwa [add_plain, Nat.zero_add] at this
      have f0 : wr.frozen? ⟨g, i + q, none⟩ = false := hown.out.frozenAt (i + q)
      have hZ2 := hZ.out
      rw [Sb.lst_drop hX1] at hZ2
      have O1 := Lib.hid (ON.out X hXl)
      have hst := (hown.out.stored (i + q) (.string (bs (Sb.sws p r mo X)))).1
      rw [lrow_set, Sb.cur_set _ hX3] at hst
      have HST := Lib.hid hst
      have hW2 : Below w.heap.size w (wr.setCell ⟨g, i + q, none⟩ (.string (bs (Sb.sws p r mo X)))) := hW.setCell (p := ⟨g, i + q, none⟩) hBw _
      have t1 : decide ((i : Int) + (q : Int) ≤ (j : Int)) = true := decide_eq_true (by omega)
      have t2 : (i : Int) + (q : Int) < (m : Int) := by omega
      have t3 : (0 : Int) ≤ (i : Int) + (q : Int) := by omega
      have t4 : ((i : Int) + (q : Int)).toNat = i + q := by omega
      have w1 : IntKind.i64.wrap ((i : Int) + (q : Int) + 1) = (i : Int) + (q : Int) + 1 := sub_num (by omega) (by omega)
      have e1 : ((i : Int) + (q : Nat)) + 1 = (i : Int) + ((q + 1 : Nat) : Int) := by omega
      rw [e1] at hZ2
      clear hZ hst hX1 hX3 hXl e1 hown hW
      by_cases hd : 0 < (Sb.ps p.data.toList 0 mo X).length - 1
      · rw [if_pos hd] at hZ2
        have HZ2 := Lib.hid hZ2
        clear hZ2
        generalize (Sb.ps p.data.toList 0 mo X).length - 1 = d at *
        generalize bs (Sb.sws p r mo X) = Y at *
        have t5 : decide ((0 : Int) < (d : Int)) = true := decide_eq_true (by omega)
        have t6 : decide (0 < d) = true := decide_eq_true hd
        go_wp2_with (go_at_call 26; (with_reducible refine (O1.out _).mono ?_); rintro e u6 ⟨rfl, rfl⟩)
        go_roundw
        case rel => exact ⟨q + 1, (i : Int) + (q : Int), by omega, by go_num, rfl, HZ2, HST, hW2⟩
        case measure => simp [intOf]; omega
      · rw [if_neg hd] at hZ2
        have HZ2 := Lib.hid hZ2
        clear hZ2
        generalize (Sb.ps p.data.toList 0 mo X).length - 1 = d at *
        generalize bs (Sb.sws p r mo X) = Y at *
        have t5 : decide ((0 : Int) < (d : Int)) = false := decide_eq_false (by omega)
        have t6 : decide (0 < d) = false := decide_eq_false hd
        go_wp2_with (go_at_call 26; (with_reducible refine (O1.out _).mono ?_); rintro e u6 ⟨rfl, rfl⟩)
        go_roundw
        case rel => exact ⟨q + 1, z, by omega, by go_num, rfl, HZ2, HST, hW2⟩
        case measure => simp [intOf]; omega
    · obtain rfl : q = j + 1 - i := by omega
      have hZ2 := hZ.out
      rw [List.drop_eq_nil_of_le (by rw [Sb.mids_length HX.out.1 HX.out.2]; exact Nat.le_refl _)] at hZ2
      replace hZ2 : z = _ := hZ2
      have t1 : decide ((i : Int) + ((j + 1 - i : Nat) : Int) ≤ (j : Int)) = false := decide_eq_false (by omega)
      have ho := hown.out
      rw [show Sb.cur (Sb.sws p r mo) i (j + 1 - i) (Ix.parts s.data.toList) = Sb.rows p.data.toList r.data.toList mo i j (Ix.parts s.data.toList) from Sb.cur_all _ _ _ HX.out.1 _] at ho
      have hrl := Sb.rows_length p.data.toList r.data.toList mo HX.out.1 (Ix.parts s.data.toList)
      rw [HMm.out] at hrl
      have hS : Strs wr (some ⟨g, 0, none⟩) ((Sb.rows p.data.toList r.data.toList mo i j (Ix.parts s.data.toList)).map bs) := Strs.of_own (v := .slice (some ⟨g, 0, none⟩) m c) (n := m) (c := c) (by rw [List.length_map, hrl]; exact ho) rfl
      have G1 := ref23_Glue (c := c) hS hTl hrl (by omega)
      have GL := Lib.hid G1
      have F1 := fun w => ref4_First (bs (glue (Sb.rows p.data.toList r.data.toList mo i j (Ix.parts s.data.toList)))) z (by rw [bs_size]; omega) w
      rw [bs_toList] at F1
      have FI := Lib.hid F1
      have hTz := bs_size (glue (Sb.rows p.data.toList r.data.toList mo i j (Ix.parts s.data.toList)))
      have t9 : IntKind.i64.wrap ((i : Int) + ((j + 1 - i : Nat) : Int)) = (i : Int) + ((j + 1 - i : Nat) : Int) := sub_num (by omega) (by omega)
      by_cases hc : Sb.cnt p.data.toList mo (Sb.mids i j (Ix.parts s.data.toList)) = 0
      · have H := Lib.hid (Sb.swap_no (s := s.data.toList) (all := false) HA.out (by rw [HMO.out]; exact hc))
        rw [Sb.lst_none hc] at hZ2
        have t2 : decide (z < 0) = true := decide_eq_true (by omega)
        clear hZ hZ2 hown ho hS G1 F1 hc
        generalize ((j + 1 - i : Nat) : Int) = k at *
        go_wp2
        go_ret3
        exact ⟨by rw [H.out]; rfl, hW⟩
      · have hz0 : 0 ≤ z := by
          rcases Sb.lst_some (p := p.data.toList) (m := mo) (Q := Sb.mids i j (Ix.parts s.data.toList)) (i : Nat) (-1) with ⟨_, e⟩ | ⟨e, _⟩
          · exact absurd e hc
          · omega
        have t2 : decide (z < 0) = false := decide_eq_false (by omega)
        by_cases hbg : 4096 < (glue (Sb.rows p.data.toList r.data.toList mo i j (Ix.parts s.data.toList))).length
        · have H := Lib.hid (Sb.swap_big (s := s.data.toList) (all := false) HA.out (by rw [HMO.out]; exact hc) (by rw [HMO.out]; exact hbg))
          have t3 : decide ((4096 : Int) < ((glue (Sb.rows p.data.toList r.data.toList mo i j (Ix.parts s.data.toList))).length : Int)) = true := decide_eq_true (by omega)
          have t4 : decide (4096 < (glue (Sb.rows p.data.toList r.data.toList mo i j (Ix.parts s.data.toList))).length) = true := decide_eq_true hbg
          clear hZ hZ2 hown ho hS G1 F1 hc hbg hz0
          generalize ((j + 1 - i : Nat) : Int) = k at *
          generalize (glue (Sb.rows p.data.toList r.data.toList mo i j (Ix.parts s.data.toList))).length = N at *
          generalize bs (glue (Sb.rows p.data.toList r.data.toList mo i j (Ix.parts s.data.toList))) = T at *
          go_wp2_with (go_at_call 27; (with_reducible refine GL.out.mono ?_); rintro e u7 ⟨rfl, rfl⟩)
          go_ret3
          exact ⟨by rw [H.out]; rfl, hW⟩
        · have H := Lib.hid (Sb.swap_ok (s := s.data.toList) (all := false) HA.out (by rw [HMO.out]; exact hc) (by rw [HMO.out]; exact hbg))
          rw [HMO.out, ← hZ2] at H
          have t3 : decide ((4096 : Int) < ((glue (Sb.rows p.data.toList r.data.toList mo i j (Ix.parts s.data.toList))).length : Int)) = false := decide_eq_false (by omega)
          have t4 : decide (4096 < (glue (Sb.rows p.data.toList r.data.toList mo i j (Ix.parts s.data.toList))).length) = false := decide_eq_false hbg
          clear hZ hZ2 hown ho hS G1 F1 hc hbg hz0
          generalize ((j + 1 - i : Nat) : Int) = k at *
          generalize Line.first (glue (Sb.rows p.data.toList r.data.toList mo i j (Ix.parts s.data.toList))) z = v at *
          generalize (glue (Sb.rows p.data.toList r.data.toList mo i j (Ix.parts s.data.toList))).length = N at *
          generalize hTT : bs (glue (Sb.rows p.data.toList r.data.toList mo i j (Ix.parts s.data.toList))) = T at *
          have HTT := Lib.hid hTT
          clear hTT
          go_wp2_with (first
            | (go_at_call 27; (with_reducible refine GL.out.mono ?_); rintro e u7 ⟨rfl, rfl⟩)
            | (go_at_call 28; (with_reducible refine (FI.out _).mono ?_); rintro e u8 ⟨rfl, hb8⟩))
          go_ret3
          exact ⟨by rw [H.out, Sb.swapV]; show _ = Ending.returned (Value.tuple #[.string (bs (glue (Sb.rows p.data.toList r.data.toList mo i j (Ix.parts s.data.toList)))), _, _]); rw [HTT.out]; rfl, hW.trans (hb8.mono hW.size)⟩
set_option maxHeartbeats 4000000 in
set_option maxRecDepth 100000 in
theorem ref28_Swap_true (s p r : ByteArray) {i j : Nat} {x y : Nat × Nat} (hs : s.size ≤ 10000) (hp : p.size ≤ 1000000000000) (hr : r.size ≤ 90000) (h : Sb.there s.data.toList (i : Int) (j : Int)) (h2 : p.data.toList ≠ []) (h3 : Sb.plain p.data.toList) (h4 : Sb.plain r.data.toList) (hx : (Line.L s.data.toList)[i]? = some x) (hy : (Line.L s.data.toList)[j]? = some y) (w : World) :
    Calls Tryd.prog 9 #[.string s, .int .i64 i, .int .i64 j, .string p, .string r, .bool true] w fun e w' => e = .returned (Sb.swapV (Sb.swap s.data.toList (i : Int) (j : Int) p.data.toList r.data.toList true)) ∧ Below w.heap.size w w' := by
  have hp1 : 1 ≤ p.size := by rw [← data_len]; exact List.length_pos_iff.2 h2
  have hij : i ≤ j := by have := h.2.1; omega
  have ht := Line.L_valid hx
  have R := Lib.hid (fun w => ref28_Range s (i : Int) (j : Int) (by omega) w)
  rw [Sb.range_some h, Sb.rangeV, Line.start_some (by rw [Line.line_nat]; exact hx), Line.stop_some (by rw [Line.line_nat]; exact hy)] at R
  have P := Lib.hid (fun w => ref28_plain p hp w)
  rw [decide_eq_true h3] at P
  have hjl : j < (Ix.parts s.data.toList).length := by rw [← L_len ht]; exact (List.getElem?_eq_some_iff.1 hy).1
  have hpl : (Ix.parts s.data.toList).length ≤ s.size + 1 := by
    have := Line.L_length s.data.toList
    rw [data_len] at this
    rw [← L_len ht]; exact this
  have RW := Lib.hid (fun w => ref23_Rows s ht (by omega) w)
  have HL : Hid (∀ q, q < j + 1 - i → ∃ x, (Sb.mids i j (Ix.parts s.data.toList))[q]? = some x ∧ (Ix.parts s.data.toList)[i + q]? = some x ∧ x.length ≤ s.size) := fun q hq => by
    have hl := Sb.mids_length hij hjl
    have hm := List.getElem?_eq_getElem (l := Sb.mids i j (Ix.parts s.data.toList)) (i := q) (by omega)
    have hm2 := hm
    rw [Sb.mids_get hq] at hm2
    exact ⟨_, hm, hm2, by rw [← data_len]; exact Sb.row_len (List.mem_of_getElem? hm2)⟩
  have ge : p.toList.isEmpty = false := by
    rw [Lib.toList_data]
    cases hl : p.data.toList with
    | nil => exact absurd hl h2
    | cons _ _ => rfl
  have Q := Lib.hid (fun w => ref28_plain r (by omega) w)
  rw [decide_eq_true h4] at Q
  obtain ⟨mo, hmo⟩ : ∃ mo, Sb.most s.data.toList true = mo := ⟨_, rfl⟩
  have hmo2 : mo = s.size := by rw [← hmo]; exact data_len s
  have hcl := Sb.mids_cnt h2 mo hij hx hy
  rw [data_len] at hcl
  have ON : Hid (∀ z : List UInt8, z.length ≤ s.size → ∀ u, Calls Tryd.prog 26 #[.string (bs z), .string p, .string r, .int .i64 s.size] u fun e w' => e = .returned (.tuple #[.string (bs (Sb.sws p r mo z)), .int .i64 ((Sb.ps p.data.toList 0 mo z).length - 1 : Nat)]) ∧ u = w') := fun z hz u => by
    have := ref28_one (bs z) p r mo (by rw [bs_size]; omega) hp1 hp (by omega) (by omega) u
    rw [bs_toList, hmo2] at this
    rw [hmo2]
    exact this
  have hlen := Sb.rows_len h2 r.data.toList mo hij s.data.toList
  rw [data_len, data_len, data_len] at hlen
  have hmul : Sb.cnt p.data.toList mo (Sb.mids i j (Ix.parts s.data.toList)) * r.size ≤ 10000 * 90000 := Nat.mul_le_mul (by omega) hr
  have hTl : (glue (Sb.rows p.data.toList r.data.toList mo i j (Ix.parts s.data.toList))).length ≤ 1000000000 := by omega
  have HA := Lib.hid (And.intro h (And.intro h2 (And.intro h3 h4)))
  have HX := Lib.hid (And.intro hij hjl)
  have HZ : Hid (Sb.lst p.data.toList mo ((i : Int) + (0 : Nat)) (-1) ((Sb.mids i j (Ix.parts s.data.toList)).drop 0) = Sb.lst p.data.toList mo (i : Nat) (-1) (Sb.mids i j (Ix.parts s.data.toList))) := by show _ = _; rw [List.drop_zero]; simp
  have HMO := Lib.hid hmo
  clear h h2 h3 h4 hx hy ht hlen hmul hcl hmo hmo2
  generalize x.1 = x at *
  generalize y.2 = y at *
  go_enter Tryd.func9, Tryd.ntmps9
  go_wp2_with (first
    | (go_at_call 11; (with_reducible refine (R.out _).mono ?_); rintro e u ⟨rfl, hb⟩; have hX := hb.alloc hb.size (.cells #[.int .i64 x, .int .i64 y, .bool true] 32))
    | (go_at_call 24; (with_reducible refine (P.out _).mono ?_); rintro e u2 ⟨rfl, hb2⟩; replace hX := hX.trans (hb2.mono hX.size); clear hb2)
    | (go_at_call 24; (with_reducible refine (Q.out _).mono ?_); rintro e u3 ⟨rfl, hb2⟩; replace hX := hX.trans (hb2.mono hX.size); clear hb2)
    | (go_at_call 25; (with_reducible refine (RW.out _).mono ?_); rintro e u5 ⟨⟨A, c, rfl, hown⟩, hb5⟩))
  obtain ⟨m, hm⟩ : ∃ m, (Ix.parts s.data.toList).length = m := ⟨_, rfl⟩
  rw [hm] at hown hjl hpl
  rw [hm]
  obtain ⟨g, c', hv, hgw, hBg, _⟩ := own_addr hown (by omega)
  injection hv with hv hl hcc
  subst hv hcc
  clear hl
  have hX2 := hX.trans (hb5.mono hX.size)
  have hBw : w.heap.size ≤ g := Nat.le_trans hX.size hBg
  have hw0 : u5.ownsRow w.heap.size 9 1 (.slice (some ⟨g, 0, none⟩) m c) m (lrow (Sb.cur (Sb.sws p r mo) i 0 (Ix.parts s.data.toList))) := by
    rw [Sb.cur_zero]
    exact ⟨hown.1, hown.2.elim (fun hh => .inl hh) (fun ⟨g', cap, cu, e1, e2, e3⟩ => .inr ⟨g', cap, cu, e1, Nat.le_trans hX.size e2, e3⟩)⟩
  have HMm := Lib.hid hm
  clear hown hX hb5 R P Q RW hm hgw hBg
  go_loopw [18, 20] (fun av kv wr => ∃ (q : Nat) (z : Int), q ≤ j + 1 - i ∧ kv = .int .i64 ((i : Int) + (q : Int)) ∧ av = .int .i64 z ∧ Hid (Sb.lst p.data.toList mo ((i : Int) + (q : Nat)) z ((Sb.mids i j (Ix.parts s.data.toList)).drop q) = Sb.lst p.data.toList mo (i : Nat) (-1) (Sb.mids i j (Ix.parts s.data.toList))) ∧ Hid (wr.ownsRow w.heap.size 9 1 (.slice (some ⟨g, 0, none⟩) m c) m (lrow (Sb.cur (Sb.sws p r mo) i q (Ix.parts s.data.toList)))) ∧ Below w.heap.size w wr) (fun _ kv _ => j + 1 - (intOf kv).toNat)
  case atStart => exact ⟨0, -1, Nat.zero_le _, by simp, rfl, HZ, hw0, hX2⟩
  case round =>
    obtain ⟨q, z, hq, rfl, rfl, hZ, hown, hW⟩ := hrel
    clear HZ hw0 hX2
    by_cases hlt : q < j + 1 - i
    · obtain ⟨X, hX1, hX3, hXl⟩ := HL.out q hlt
      have c0 : wr.cell? ⟨g, i + q, none⟩ = some (.string (bs X)) := by
        have := hown.out.cells (g := g) rfl (i + q) _ (lrow_get (Sb.cur_get (Sb.sws p r mo) hX3))
        rwa [add_plain, Nat.zero_add] at this
      have f0 : wr.frozen? ⟨g, i + q, none⟩ = false := hown.out.frozenAt (i + q)
      have hZ2 := hZ.out
      rw [Sb.lst_drop hX1] at hZ2
      have O1 := Lib.hid (ON.out X hXl)
      have hst := (hown.out.stored (i + q) (.string (bs (Sb.sws p r mo X)))).1
      rw [lrow_set, Sb.cur_set _ hX3] at hst
      have HST := Lib.hid hst
      have hW2 : Below w.heap.size w (wr.setCell ⟨g, i + q, none⟩ (.string (bs (Sb.sws p r mo X)))) := hW.setCell (p := ⟨g, i + q, none⟩) hBw _
      have t1 : decide ((i : Int) + (q : Int) ≤ (j : Int)) = true := decide_eq_true (by omega)
      have t2 : (i : Int) + (q : Int) < (m : Int) := by omega
      have t3 : (0 : Int) ≤ (i : Int) + (q : Int) := by omega
      have t4 : ((i : Int) + (q : Int)).toNat = i + q := by omega
      have w1 : IntKind.i64.wrap ((i : Int) + (q : Int) + 1) = (i : Int) + (q : Int) + 1 := sub_num (by omega) (by omega)
      have e1 : ((i : Int) + (q : Nat)) + 1 = (i : Int) + ((q + 1 : Nat) : Int) := by omega
      rw [e1] at hZ2
      clear hZ hst hX1 hX3 hXl e1 hown hW
      by_cases hd : 0 < (Sb.ps p.data.toList 0 mo X).length - 1
      · rw [if_pos hd] at hZ2
        have HZ2 := Lib.hid hZ2
        clear hZ2
        generalize (Sb.ps p.data.toList 0 mo X).length - 1 = d at *
        generalize bs (Sb.sws p r mo X) = Y at *
        have t5 : decide ((0 : Int) < (d : Int)) = true := decide_eq_true (by omega)
        have t6 : decide (0 < d) = true := decide_eq_true hd
        go_wp2_with (go_at_call 26; (with_reducible refine (O1.out _).mono ?_); rintro e u6 ⟨rfl, rfl⟩)
        go_roundw
        case rel => exact ⟨q + 1, (i : Int) + (q : Int), by omega, by go_num, rfl, HZ2, HST, hW2⟩
        case measure => simp [intOf]; omega
      · rw [if_neg hd] at hZ2
        have HZ2 := Lib.hid hZ2
        clear hZ2
        generalize (Sb.ps p.data.toList 0 mo X).length - 1 = d at *
        generalize bs (Sb.sws p r mo X) = Y at *
        have t5 : decide ((0 : Int) < (d : Int)) = false := decide_eq_false (by omega)
        have t6 : decide (0 < d) = false := decide_eq_false hd
        go_wp2_with (go_at_call 26; (with_reducible refine (O1.out _).mono ?_); rintro e u6 ⟨rfl, rfl⟩)
        go_roundw
        case rel => exact ⟨q + 1, z, by omega, by go_num, rfl, HZ2, HST, hW2⟩
        case measure => simp [intOf]; omega
    · obtain rfl : q = j + 1 - i := by omega
      have hZ2 := hZ.out
      rw [List.drop_eq_nil_of_le (by rw [Sb.mids_length HX.out.1 HX.out.2]; exact Nat.le_refl _)] at hZ2
      replace hZ2 : z = _ := hZ2
      have t1 : decide ((i : Int) + ((j + 1 - i : Nat) : Int) ≤ (j : Int)) = false := decide_eq_false (by omega)
      have ho := hown.out
      rw [show Sb.cur (Sb.sws p r mo) i (j + 1 - i) (Ix.parts s.data.toList) = Sb.rows p.data.toList r.data.toList mo i j (Ix.parts s.data.toList) from Sb.cur_all _ _ _ HX.out.1 _] at ho
      have hrl := Sb.rows_length p.data.toList r.data.toList mo HX.out.1 (Ix.parts s.data.toList)
      rw [HMm.out] at hrl
      have hS : Strs wr (some ⟨g, 0, none⟩) ((Sb.rows p.data.toList r.data.toList mo i j (Ix.parts s.data.toList)).map bs) := Strs.of_own (v := .slice (some ⟨g, 0, none⟩) m c) (n := m) (c := c) (by rw [List.length_map, hrl]; exact ho) rfl
      have G1 := ref23_Glue (c := c) hS hTl hrl (by omega)
      have GL := Lib.hid G1
      have F1 := fun w => ref4_First (bs (glue (Sb.rows p.data.toList r.data.toList mo i j (Ix.parts s.data.toList)))) z (by rw [bs_size]; omega) w
      rw [bs_toList] at F1
      have FI := Lib.hid F1
      have hTz := bs_size (glue (Sb.rows p.data.toList r.data.toList mo i j (Ix.parts s.data.toList)))
      have t9 : IntKind.i64.wrap ((i : Int) + ((j + 1 - i : Nat) : Int)) = (i : Int) + ((j + 1 - i : Nat) : Int) := sub_num (by omega) (by omega)
      by_cases hc : Sb.cnt p.data.toList mo (Sb.mids i j (Ix.parts s.data.toList)) = 0
      · have H := Lib.hid (Sb.swap_no (s := s.data.toList) (all := true) HA.out (by rw [HMO.out]; exact hc))
        rw [Sb.lst_none hc] at hZ2
        have t2 : decide (z < 0) = true := decide_eq_true (by omega)
        clear hZ hZ2 hown ho hS G1 F1 hc
        generalize ((j + 1 - i : Nat) : Int) = k at *
        go_wp2
        go_ret3
        exact ⟨by rw [H.out]; rfl, hW⟩
      · have hz0 : 0 ≤ z := by
          rcases Sb.lst_some (p := p.data.toList) (m := mo) (Q := Sb.mids i j (Ix.parts s.data.toList)) (i : Nat) (-1) with ⟨_, e⟩ | ⟨e, _⟩
          · exact absurd e hc
          · omega
        have t2 : decide (z < 0) = false := decide_eq_false (by omega)
        by_cases hbg : 4096 < (glue (Sb.rows p.data.toList r.data.toList mo i j (Ix.parts s.data.toList))).length
        · have H := Lib.hid (Sb.swap_big (s := s.data.toList) (all := true) HA.out (by rw [HMO.out]; exact hc) (by rw [HMO.out]; exact hbg))
          have t3 : decide ((4096 : Int) < ((glue (Sb.rows p.data.toList r.data.toList mo i j (Ix.parts s.data.toList))).length : Int)) = true := decide_eq_true (by omega)
          have t4 : decide (4096 < (glue (Sb.rows p.data.toList r.data.toList mo i j (Ix.parts s.data.toList))).length) = true := decide_eq_true hbg
          clear hZ hZ2 hown ho hS G1 F1 hc hbg hz0
          generalize ((j + 1 - i : Nat) : Int) = k at *
          generalize (glue (Sb.rows p.data.toList r.data.toList mo i j (Ix.parts s.data.toList))).length = N at *
          generalize bs (glue (Sb.rows p.data.toList r.data.toList mo i j (Ix.parts s.data.toList))) = T at *
          go_wp2_with (go_at_call 27; (with_reducible refine GL.out.mono ?_); rintro e u7 ⟨rfl, rfl⟩)
          go_ret3
          exact ⟨by rw [H.out]; rfl, hW⟩
        · have H := Lib.hid (Sb.swap_ok (s := s.data.toList) (all := true) HA.out (by rw [HMO.out]; exact hc) (by rw [HMO.out]; exact hbg))
          rw [HMO.out, ← hZ2] at H
          have t3 : decide ((4096 : Int) < ((glue (Sb.rows p.data.toList r.data.toList mo i j (Ix.parts s.data.toList))).length : Int)) = false := decide_eq_false (by omega)
          have t4 : decide (4096 < (glue (Sb.rows p.data.toList r.data.toList mo i j (Ix.parts s.data.toList))).length) = false := decide_eq_false hbg
          clear hZ hZ2 hown ho hS G1 F1 hc hbg hz0
          generalize ((j + 1 - i : Nat) : Int) = k at *
          generalize Line.first (glue (Sb.rows p.data.toList r.data.toList mo i j (Ix.parts s.data.toList))) z = v at *
          generalize (glue (Sb.rows p.data.toList r.data.toList mo i j (Ix.parts s.data.toList))).length = N at *
          generalize hTT : bs (glue (Sb.rows p.data.toList r.data.toList mo i j (Ix.parts s.data.toList))) = T at *
          have HTT := Lib.hid hTT
          clear hTT
          go_wp2_with (first
            | (go_at_call 27; (with_reducible refine GL.out.mono ?_); rintro e u7 ⟨rfl, rfl⟩)
            | (go_at_call 28; (with_reducible refine (FI.out _).mono ?_); rintro e u8 ⟨rfl, hb8⟩))
          go_ret3
          exact ⟨by rw [H.out, Sb.swapV]; show _ = Ending.returned (Value.tuple #[.string (bs (glue (Sb.rows p.data.toList r.data.toList mo i j (Ix.parts s.data.toList)))), _, _]); rw [HTT.out]; rfl, hW.trans (hb8.mono hW.size)⟩
theorem ref28_Swap (s p r : ByteArray) (a b : Int) (all : Bool) (hs : s.size ≤ 10000) (hp : p.size ≤ 1000000000000) (hr : r.size ≤ 90000) (w : World) :
    Calls Tryd.prog 9 #[.string s, .int .i64 a, .int .i64 b, .string p, .string r, .bool all] w fun e w' => e = .returned (Sb.swapV (Sb.swap s.data.toList a b p.data.toList r.data.toList all)) ∧ Below w.heap.size w w' := by
  by_cases h : Sb.there s.data.toList a b
  · by_cases h2 : p.data.toList = []
    · exact ref28_Swap_none s p r a b all hs h h2 w
    · by_cases h3 : Sb.plain p.data.toList
      · by_cases h4 : Sb.plain r.data.toList
        · obtain ⟨i, j, x, y, rfl, rfl, _, hx, hy, _, _⟩ := Sb.there_at h
          cases all with
          | false => exact ref28_Swap_false s p r hs hp hr h h2 h3 h4 hx hy w
          | true => exact ref28_Swap_true s p r hs hp hr h h2 h3 h4 hx hy w
        · exact ref28_Swap_rep s p r a b all hs hp hr h h2 h3 h4 w
      · exact ref28_Swap_pat s p r a b all hs hp h h2 h3 w
  · exact ref28_Swap_there s p r a b all hs h w
end Go.Proofs.YtlfhfpjffdaomaaDoor
