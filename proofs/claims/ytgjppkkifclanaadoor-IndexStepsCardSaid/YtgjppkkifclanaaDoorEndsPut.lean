/-
  Ends of lines where bytes take the place of others: the list as the program makes it, step by step; without a program.
-/
import Derived.Test.YtgjppkkifclanaaDoorParts
namespace Go.Proofs.YtgjppkkifclanaaDoor
namespace Ix
/-- The new lines stand there; what is behind them has not moved yet. -/
def half (t : List UInt8) (i j : Nat) (s : List UInt8) : List Nat := (ends t).take (line t i) ++ (mid t i j s ++ (ends t).drop (line t j + 1))
section
variable {t s : List UInt8} {i j : Nat} (hij : i ≤ j) (hj : j ≤ t.length)
include hij hj
theorem half_length : (half t i j s).length = line t i + (lens s).length + ((ends t).length - (line t j + 1)) := by
  have h1 := line_lt (t := t) (p := i) (by omega)
  simp [half, mid_length]
  omega
theorem put_ends_length : (ends (put t i j s)).length = line t i + (lens s).length + ((ends t).length - (line t j + 1)) := by
  have h1 := line_lt (t := t) (p := i) (by omega)
  rw [ends_put hij hj]
  simp [mid_length]
  omega
theorem half_get {k : Nat} (hk : line t i + (lens s).length ≤ k) (hk2 : k < line t i + (lens s).length + ((ends t).length - (line t j + 1))) :
    ∃ z, (half t i j s)[k]? = some z ∧ j ≤ z ∧ z ≤ t.length ∧ (ends (put t i j s))[k]? = some (z + s.length - (j - i)) := by
  have h1 := line_lt (t := t) (p := i) (by omega)
  have hl1 : ((ends t).take (line t i)).length = line t i := by rw [List.length_take]; omega
  have hl2 := mid_length t i j s
  have hq : k - (line t i + (lens s).length) < ((ends t).drop (line t j + 1)).length := by rw [List.length_drop]; omega
  have e : ((ends t).drop (line t j + 1))[k - (line t i + (lens s).length)]? = some ((ends t).drop (line t j + 1))[k - (line t i + (lens s).length)] := List.getElem?_eq_getElem hq
  have hz := put_ends_ge hj (List.getElem_mem hq)
  refine ⟨_, ?_, hz.1, hz.2, ?_⟩
  · rw [half, List.getElem?_append_right (by omega), hl1, List.getElem?_append_right (by omega), hl2, show k - line t i - (lens s).length = k - (line t i + (lens s).length) by omega, e]
  · rw [ends_put hij hj, List.getElem?_append_right (by omega), hl1, List.getElem?_append_right (by omega), hl2, show k - line t i - (lens s).length = k - (line t i + (lens s).length) by omega, List.getElem?_map, e]
    rfl
theorem half_start : (ends (put t i j s)).take (line t i + (lens s).length) ++ (half t i j s).drop (line t i + (lens s).length) = half t i j s := by
  have h1 := line_lt (t := t) (p := i) (by omega)
  have hl1 : ((ends t).take (line t i)).length = line t i := by rw [List.length_take]; omega
  have hl2 := mid_length t i j s
  have e : (ends (put t i j s)).take (line t i + (lens s).length) = (half t i j s).take (line t i + (lens s).length) := by
    have hl : ((ends t).take (line t i) ++ mid t i j s).length = line t i + (lens s).length := by rw [List.length_append, hl1, hl2]
    rw [ends_put hij hj, half, ← List.append_assoc, ← List.append_assoc, List.take_left' hl, List.take_left' hl]
  rw [e, List.take_append_drop]
end
theorem turn_step {a b : List Nat} {k x : Nat} (ha : a[k]? = some x) (hk : k < b.length) : (a.take k ++ b.drop k).set k x = a.take (k + 1) ++ b.drop (k + 1) := by
  obtain ⟨h1, h2⟩ := List.getElem?_eq_some_iff.1 ha
  have hl : (a.take k).length = k := by rw [List.length_take]; omega
  rw [List.set_append_right (h := by omega), hl, Nat.sub_self, List.drop_eq_getElem_cons hk, List.set_cons_zero, List.take_succ_eq_append_getElem h1, h2]
  simp
theorem turn_get {a b : List Nat} {k z : Nat} (hk : k ≤ a.length) (hb : b[k]? = some z) : (a.take k ++ b.drop k)[k]? = some z := by
  have hl : (a.take k).length = k := by rw [List.length_take]; omega
  rw [List.getElem?_append_right (by omega), hl, Nat.sub_self, List.getElem?_drop]
  simpa using hb
theorem turn_length {a b : List Nat} {k : Nat} (h : a.length = b.length) (hk : k ≤ b.length) : (a.take k ++ b.drop k).length = b.length := by simp; omega
end Ix
end Go.Proofs.YtgjppkkifclanaaDoor
