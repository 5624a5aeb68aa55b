/-
  The document's text of layer 6 (calamusref06.Text): the bytes alone.
-/
import Derived.Test.YtgjppkkifclanaaDoorTextOps
import Derived.StillTailTactics
import Derived.OwnWalk
namespace Go.Proofs.YtgjppkkifclanaaDoor
open Go.RowKit
open Pc
/-- The document's table at block q: its bytes, how many were put in, and how often they were changed. -/
def Ref (q : Nat) (T : List UInt8) (a st : Nat) (w : World) : Prop := Blk w q 29 #[.string (bs T), .int .i64 a, .int .i64 st]
set_option maxHeartbeats 1000000 in
theorem ref_right {q a st : Nat} {T : List UInt8} {w : World} (h : Ref q T a st w) (i j : Int) :
    Calls Tryd.prog 33 #[.pointer (some ⟨q, 0, none⟩), .int .i64 i, .int .i64 j] w fun e w' => e = .returned (.bool (decide (okD T i j))) ∧ w = w' := by
  have k0 := h.cell 0
  simp at k0
  have hsz : (bs T).size = T.length := bs_size T
  clear h
  by_cases h1 : 0 ≤ i
  · by_cases h2 : i ≤ j
    · have d1 : decide (0 ≤ i) = true := decide_eq_true h1
      have d2 : decide (i ≤ j) = true := decide_eq_true h2
      have H : Hid (decide (okD T i j) = decide (j ≤ T.length)) := by show _ = _; simp [okD, h1, h2]
      clear h1 h2
      go_enter Tryd.func33, Tryd.ntmps33
      go_wp2
      go_ret
      exact ⟨by rw [H.out]; rfl, rfl⟩
    · have d1 : decide (0 ≤ i) = true := decide_eq_true h1
      have d2 : decide (i ≤ j) = false := decide_eq_false h2
      have H : Hid (decide (okD T i j) = false) := by show _ = _; simp [okD, h2]
      clear h1 h2
      go_enter Tryd.func33, Tryd.ntmps33
      go_wp2
      go_ret
      exact ⟨by rw [H.out]; rfl, rfl⟩
  · have d1 : decide (0 ≤ i) = false := decide_eq_false h1
    have H : Hid (decide (okD T i j) = false) := by show _ = _; simp [okD, h1]
    clear h1
    go_enter Tryd.func33, Tryd.ntmps33
    go_wp2
    go_ret
    exact ⟨by rw [H.out]; rfl, rfl⟩
theorem extract_bs (T : List UInt8) (i j : Nat) : (bs T).extract i j = bs ((T.drop i).take (j - i)) := by
  rw [Lib.extract_eq]; rfl
set_option maxHeartbeats 1000000 in
set_option maxRecDepth 100000 in
theorem ref_insert_ok {q a st : Nat} {T : List UInt8} {w : World} (h : Ref q T a st w) (x : Nat) (s : ByteArray) (hx : x ≤ T.length) (hl : T.length + s.size ≤ 140737488355328) (ha : a + s.size ≤ 140737488355328) (hst : st ≤ 1000000) :
    Calls Tryd.prog 25 #[.pointer (some ⟨q, 0, none⟩), .int .i64 x, .string s] w fun e w' => e = .returned (.int .i64 0) ∧ Ref q (ins T x s.data.toList) (a + s.size) (st + 1) w' ∧ w.grownBy w' (some q) := by
  have k0 := h.cell 0
  have k1 := h.cell 1
  have k2 := h.cell 2
  have z0 := h.frozen 0
  have z1 := h.frozen 1
  have z2 := h.frozen 2
  simp at k0 k1 k2
  have hsz : (bs T).size = T.length := bs_size T
  have H := Lib.hid h
  have E1 : (bs T).extract 0 x = bs (T.take x) := by rw [extract_bs]; simp
  have E2 : (bs T).extract x T.length = bs (T.drop x) := by rw [extract_bs, List.take_of_length_le (by rw [List.length_drop]; exact Nat.le_refl _)]
  have E3 : Hid (bs (T.take x) ++ s ++ bs (T.drop x) = bs (ins T x s.data.toList)) := by
    show _ = _
    rw [← bs_data s, bs_append, bs_append, bs_toList, ins, List.append_assoc]
  have g1 : ¬ 9223372036854775807 < (bs (T.take x)).size + s.size := by rw [bs_size, List.length_take]; omega
  have g2 : ¬ 9223372036854775807 < (bs (T.take x) ++ s).size + (bs (T.drop x)).size := by
    rw [ByteArray.size_append, bs_size, bs_size, List.length_take, List.length_drop]; omega
  clear h
  go_enter Tryd.func25, Tryd.ntmps25
  go_wp2
  go_region
  all_goals
    go_wp2
    go_ret
    refine ⟨rfl, ?_, gb_trans (gb_trans (gb_trans (gb_set w q 0 _) (gb_set _ q 1 _)) (gb_set _ q 2 _)) (gb_drew _ _)⟩
    have := (((H.out.set_ 0 (.string (bs (T.take x) ++ s ++ bs (T.drop x)))).set_ 1 (.int .i64 ((a : Int) + (s.size : Int)))).set_ 2 (.int .i64 ((st : Int) + 1))).drew
    unfold Ref
    rw [← E3.out]
    simpa using this
set_option maxHeartbeats 1000000 in
set_option maxRecDepth 100000 in
theorem ref_insert_no {q a st : Nat} {T : List UInt8} {w : World} (h : Ref q T a st w) (x : Int) (s : ByteArray) (hx : ¬ okI T x) :
    Calls Tryd.prog 25 #[.pointer (some ⟨q, 0, none⟩), .int .i64 x, .string s] w fun e w' => e = .returned (.int .i64 6) ∧ w = w' := by
  have k0 := h.cell 0
  simp at k0
  have hsz : (bs T).size = T.length := bs_size T
  clear h
  by_cases h1 : x < 0
  · have d1 : decide (x < 0) = true := decide_eq_true h1
    clear h1 hx
    go_enter Tryd.func25, Tryd.ntmps25
    go_wp2
    go_ret
    exact ⟨rfl, rfl⟩
  · have d1 : decide (x < 0) = false := decide_eq_false h1
    have d2 : decide ((T.length : Int) < x) = true := decide_eq_true (by unfold okI at hx; omega)
    clear h1 hx
    go_enter Tryd.func25, Tryd.ntmps25
    go_wp2
    go_ret
    exact ⟨rfl, rfl⟩
set_option maxHeartbeats 1000000 in
set_option maxRecDepth 100000 in
theorem ref_delete_ok {q a st : Nat} {T : List UInt8} {w : World} (h : Ref q T a st w) (i j : Nat) (hij : i ≤ j) (hj : j ≤ T.length) (hl : T.length ≤ 140737488355328) (hst : st ≤ 1000000) :
    Calls Tryd.prog 26 #[.pointer (some ⟨q, 0, none⟩), .int .i64 i, .int .i64 j] w fun e w' => e = .returned (.int .i64 0) ∧ Ref q (del T i j) a (st + 1) w' ∧ w.grownBy w' (some q) := by
  have G := ref_right h i j
  rw [decide_eq_true (show okD T (i : Int) (j : Int) from ⟨by omega, by omega, by omega⟩)] at G
  have G1 := Lib.hid G
  have k0 := h.cell 0
  have k2 := h.cell 2
  have z0 := h.frozen 0
  have z2 := h.frozen 2
  simp at k0 k2
  have hsz : (bs T).size = T.length := bs_size T
  have H := Lib.hid h
  have E1 : (bs T).extract 0 i = bs (T.take i) := by rw [extract_bs]; simp
  have E2 : (bs T).extract j T.length = bs (T.drop j) := by rw [extract_bs, List.take_of_length_le (by rw [List.length_drop]; exact Nat.le_refl _)]
  have E3 : Hid (bs (T.take i) ++ bs (T.drop j) = bs (del T i j)) := by
    show _ = _
    rw [bs_append, del]
  have g1 : ¬ 9223372036854775807 < (bs (T.take i)).size + (bs (T.drop j)).size := by rw [bs_size, bs_size, List.length_take, List.length_drop]; omega
  have hiT : i ≤ T.length := by omega
  clear h G
  go_enter Tryd.func26, Tryd.ntmps26
  go_wp2_with (go_at_call 33; refine G1.out.mono ?_; rintro e w2 ⟨rfl, rfl⟩)
  go_region
  all_goals
    go_wp2
    go_ret
    refine ⟨rfl, ?_, gb_trans (gb_trans (gb_set w q 0 _) (gb_set _ q 2 _)) (gb_drew _ _)⟩
    have := ((H.out.set_ 0 (.string (bs (T.take i) ++ bs (T.drop j)))).set_ 2 (.int .i64 ((st : Int) + 1))).drew
    unfold Ref
    rw [← E3.out]
    simpa using this
set_option maxHeartbeats 1000000 in
theorem ref_delete_no {q a st : Nat} {T : List UInt8} {w : World} (h : Ref q T a st w) (i j : Int) (hn : ¬ okD T i j) :
    Calls Tryd.prog 26 #[.pointer (some ⟨q, 0, none⟩), .int .i64 i, .int .i64 j] w fun e w' => e = .returned (.int .i64 6) ∧ w = w' := by
  have G := ref_right h i j
  rw [decide_eq_false hn] at G
  have G1 := Lib.hid G
  clear G h hn
  go_enter Tryd.func26, Tryd.ntmps26
  go_wp2_with (go_at_call 33; refine G1.out.mono ?_; rintro e w2 ⟨rfl, rfl⟩)
  go_ret
  exact ⟨rfl, rfl⟩
theorem gb_refl (w : World) (r : Option Nat) : w.grownBy w r := ⟨rfl, rfl, rfl, Nat.le_refl _, fun _ _ _ => rfl⟩
theorem ref_insert {q a st : Nat} {T : List UInt8} {w : World} (h : Ref q T a st w) (x : Int) (s : ByteArray) (hl : T.length + s.size ≤ 140737488355328) (ha : a + s.size ≤ 140737488355328) (hst : st ≤ 1000000) :
    Calls Tryd.prog 25 #[.pointer (some ⟨q, 0, none⟩), .int .i64 x, .string s] w fun e w' => e = .returned (.int .i64 (if okI T x then 0 else 6)) ∧
      Ref q (if okI T x then ins T x.toNat s.data.toList else T) (if okI T x then a + s.size else a) (if okI T x then st + 1 else st) w' ∧ w.grownBy w' (some q) := by
  by_cases hx : okI T x
  · simp only [if_pos hx]
    obtain ⟨n, rfl⟩ := Int.eq_ofNat_of_zero_le hx.1
    exact ref_insert_ok h n s (by have := hx.2; omega) hl ha hst
  · simp only [if_neg hx]
    refine (ref_insert_no h x s hx).mono ?_
    rintro e w' ⟨rfl, rfl⟩
    exact ⟨rfl, h, gb_refl _ _⟩
theorem ref_delete {q a st : Nat} {T : List UInt8} {w : World} (h : Ref q T a st w) (i j : Int) (hl : T.length ≤ 140737488355328) (hst : st ≤ 1000000) :
    Calls Tryd.prog 26 #[.pointer (some ⟨q, 0, none⟩), .int .i64 i, .int .i64 j] w fun e w' => e = .returned (.int .i64 (if okD T i j then 0 else 6)) ∧
      Ref q (if okD T i j then del T i.toNat j.toNat else T) a (if okD T i j then st + 1 else st) w' ∧ w.grownBy w' (some q) := by
  by_cases hx : okD T i j
  · simp only [if_pos hx]
    obtain ⟨h1, h2, h3⟩ := hx
    obtain ⟨n, rfl⟩ := Int.eq_ofNat_of_zero_le h1
    obtain ⟨m, rfl⟩ := Int.eq_ofNat_of_zero_le (Int.le_trans h1 h2)
    exact ref_delete_ok h n m (by omega) (by omega) hl hst
  · simp only [if_neg hx]
    refine (ref_delete_no h i j hx).mono ?_
    rintro e w' ⟨rfl, rfl⟩
    exact ⟨rfl, h, gb_refl _ _⟩
end Go.Proofs.YtgjppkkifclanaaDoor
