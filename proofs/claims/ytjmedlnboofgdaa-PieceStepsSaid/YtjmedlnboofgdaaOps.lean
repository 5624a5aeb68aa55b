/-
  Insert and Delete of a table, as one contract each.
-/
import Derived.Test.YtjmedlnboofgdaaPutMore
namespace Go.Proofs.Ytjmedlnboofgdaa
open Go.RowKit
open Pc
namespace Pc
/-- May something be put in at x? -/
def okI (T : List UInt8) (x : Int) : Prop := 0 ≤ x ∧ x ≤ T.length
/-- Are there bytes from i to j? -/
def okD (T : List UInt8) (i j : Int) : Prop := 0 ≤ i ∧ i ≤ j ∧ j ≤ T.length
instance (T : List UInt8) (x : Int) : Decidable (okI T x) := inferInstanceAs (Decidable (_ ∧ _))
instance (T : List UInt8) (i j : Int) : Decidable (okD T i j) := inferInstanceAs (Decidable (_ ∧ _))
theorem del_same (T : List UInt8) (i : Nat) : del T i i = T := by rw [del, List.take_append_drop]
theorem ins_nil_ (T : List UInt8) (x : Nat) : ins T x [] = T := by rw [ins, List.nil_append, List.take_append_drop]
end Pc
theorem empty_of {s : ByteArray} (h : s.data.toList = []) : s = ⟨#[]⟩ := by
  rw [← bs_data s, h]; rfl
set_option maxHeartbeats 400000 in
theorem insert_of {x : Value} {i n : Int} {s : ByteArray} {w : World} {R : World → Prop} (h : Calls Try.prog 21 #[x, .int .i64 i, .int .i64 i, .string s] w fun e w' => e = .returned (.int .i64 n) ∧ R w') :
    Calls Try.prog 11 #[x, .int .i64 i, .string s] w fun e w' => e = .returned (.int .i64 n) ∧ R w' := by
  have H := Lib.hid h
  clear h
  go_enter Try.func11, Try.ntmps11
  go_wp2_with (go_at_call 21; refine H.out.mono ?_; rintro e w2 ⟨rfl, hR⟩)
  go_ret
  exact ⟨rfl, hR⟩
set_option maxHeartbeats 400000 in
theorem delete_of {x : Value} {i j n : Int} {w : World} {R : World → Prop} (h : Calls Try.prog 21 #[x, .int .i64 i, .int .i64 j, .string ⟨#[]⟩] w fun e w' => e = .returned (.int .i64 n) ∧ R w') :
    Calls Try.prog 15 #[x, .int .i64 i, .int .i64 j] w fun e w' => e = .returned (.int .i64 n) ∧ R w' := by
  have H := Lib.hid h
  clear h
  go_enter Try.func15, Try.ntmps15
  go_wp2_with (go_at_call 21; refine H.out.mono ?_; rintro e w2 ⟨rfl, hR⟩)
  go_ret
  exact ⟨rfl, hR⟩
theorem tab_insert {B p a : Nat} {ps : List (List UInt8)} {w : World} (hB : B ≤ w.heap.size) (hT : Tab B p ps a w) (x : Int) (s : ByteArray) (hl : ps.flatten.length + s.size ≤ 140737488355328) (ha : a + s.size ≤ 140737488355328) (hn : ps.length ≤ 900000) :
    Calls Try.prog 11 #[.pointer (some ⟨p, 0, none⟩), .int .i64 x, .string s] w fun e w' => e = .returned (.int .i64 (if okI ps.flatten x then 0 else 6)) ∧
      ∃ ps', ps'.flatten = (if okI ps.flatten x then ins ps.flatten x.toNat s.data.toList else ps.flatten) ∧ ps'.length ≤ (if okI ps.flatten x then ps.length + 2 else ps.length) ∧ Tab B p ps' (if okI ps.flatten x then a + s.size else a) w' ∧ Keeps B w w' := by
  apply insert_of
  by_cases h : okI ps.flatten x
  · simp only [if_pos h]
    obtain ⟨n, rfl⟩ := Int.eq_ofNat_of_zero_le h.1
    have hx : n ≤ ps.flatten.length := by have := h.2; omega
    rcases Nat.eq_zero_or_pos s.size with h0 | h0
    · have he : s.data.toList = [] := List.eq_nil_of_length_eq_zero (by rw [data_len]; exact h0)
      rw [he, h0, ins_nil_]
      obtain rfl := empty_of he
      refine (put_same hT n hx).mono ?_
      rintro e w' ⟨rfl, rfl⟩
      exact ⟨rfl, ps, rfl, by omega, hT, Keeps.refl _ _⟩
    · refine (put_ins hB hT n s hx h0 hl ha hn).mono ?_
      rintro e w' ⟨rfl, ps', h1, h2, h3, h4⟩
      exact ⟨rfl, ps', h1.out, h2, h3, h4⟩
  · simp only [if_neg h]
    have hT' := hT
    obtain ⟨vp, va, us, xs, h1⟩ := hT'
    refine (put_no (tab_looks h1.self) x x s (fun h2 => h ⟨h2.1, h2.2.2⟩)).mono ?_
    rintro e w' ⟨rfl, rfl⟩
    exact ⟨rfl, ps, rfl, Nat.le_refl _, hT, Keeps.refl _ _⟩
theorem tab_delete {B p a : Nat} {ps : List (List UInt8)} {w : World} (hB : B ≤ w.heap.size) (hT : Tab B p ps a w) (i j : Int) (hl : ps.flatten.length ≤ 140737488355328) (hn : ps.length ≤ 900000) :
    Calls Try.prog 15 #[.pointer (some ⟨p, 0, none⟩), .int .i64 i, .int .i64 j] w fun e w' => e = .returned (.int .i64 (if okD ps.flatten i j then 0 else 6)) ∧
      ∃ ps', ps'.flatten = (if okD ps.flatten i j then del ps.flatten i.toNat j.toNat else ps.flatten) ∧ ps'.length ≤ (if okD ps.flatten i j then ps.length + 2 else ps.length) ∧ Tab B p ps' a w' ∧ Keeps B w w' := by
  apply delete_of
  by_cases h : okD ps.flatten i j
  · simp only [if_pos h]
    obtain ⟨h1, h2, h3⟩ := h
    obtain ⟨n, rfl⟩ := Int.eq_ofNat_of_zero_le h1
    obtain ⟨m, rfl⟩ := Int.eq_ofNat_of_zero_le (Int.le_trans h1 h2)
    simp only [Int.toNat_natCast]
    rcases Nat.lt_or_ge n m with h0 | h0
    · refine (put_cut hB hT n m h0 (by omega) hl hn).mono ?_
      rintro e w' ⟨rfl, ps', h4, h5, h6, h7⟩
      exact ⟨rfl, ps', h4.out, h5, h6, h7⟩
    · obtain rfl : n = m := by omega
      refine (put_same hT n (by omega)).mono ?_
      rintro e w' ⟨rfl, rfl⟩
      exact ⟨rfl, ps, by rw [del_same], by omega, hT, Keeps.refl _ _⟩
  · simp only [if_neg h]
    have hT' := hT
    obtain ⟨vp, va, us, xs, h1⟩ := hT'
    refine (put_no (tab_looks h1.self) i j ⟨#[]⟩ h).mono ?_
    rintro e w' ⟨rfl, rfl⟩
    exact ⟨rfl, ps, rfl, Nat.le_refl _, hT, Keeps.refl _ _⟩
theorem zero_insert {B p : Nat} {w : World} (hB : B ≤ w.heap.size) (hZ : Zero B p w) (s : ByteArray) (ha : s.size ≤ 140737488355328) :
    Calls Try.prog 11 #[.pointer (some ⟨p, 0, none⟩), .int .i64 0, .string s] w fun e w' => e = .returned (.int .i64 0) ∧
      ∃ ps', ps'.flatten = s.data.toList ∧ ps'.length ≤ 2 ∧ Tab B p ps' s.size w' ∧ Keeps B w w' := by
  apply insert_of
  rcases Nat.eq_zero_or_pos s.size with h0 | h0
  · have he : s.data.toList = [] := List.eq_nil_of_length_eq_zero (by rw [data_len]; exact h0)
    rw [he, h0]
    obtain rfl := empty_of he
    refine (put_same_zero hB hZ).mono ?_
    rintro e w' ⟨rfl, hT, hK⟩
    exact ⟨rfl, [], rfl, by simp, hT, hK⟩
  · have P := put_ins_zero hB hZ 0 s (by simp) h0 (by omega)
    rw [show ((0 : Nat) : Int) = 0 from rfl, Nat.zero_add] at P
    refine P.mono ?_
    rintro e w' ⟨rfl, ps', h1, h2, h3, h4⟩
    rw [Nat.zero_add] at h3
    exact ⟨rfl, ps', by have := h1.out; simpa [ins] using this, by omega, h3, h4⟩
theorem zero_insert_no {B p : Nat} {w : World} (hZ : Zero B p w) (x : Int) (hx : x ≠ 0) (s : ByteArray) :
    Calls Try.prog 11 #[.pointer (some ⟨p, 0, none⟩), .int .i64 x, .string s] w fun e w' => e = .returned (.int .i64 6) ∧ w = w' :=
  insert_of (put_no (zero_looks hZ) x x s (fun h => hx (by omega)))
theorem none_insert (x : Int) (s : ByteArray) (w : World) :
    Calls Try.prog 11 #[.pointer none, .int .i64 x, .string s] w fun e w' => e = .returned (.int .i64 7) ∧ w = w' := insert_of (put_none x x s w)
theorem none_delete (i j : Int) (w : World) :
    Calls Try.prog 15 #[.pointer none, .int .i64 i, .int .i64 j] w fun e w' => e = .returned (.int .i64 7) ∧ w = w' := delete_of (put_none i j _ w)
end Go.Proofs.Ytjmedlnboofgdaa
