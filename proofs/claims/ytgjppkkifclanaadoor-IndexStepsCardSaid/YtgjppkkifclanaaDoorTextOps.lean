/-
  Bytes put in and taken out, and which offsets are right; without a program.
-/
import Derived.Test.YtgjppkkifclanaaDoorBase
namespace Go.Proofs.YtgjppkkifclanaaDoor
namespace Pc
/-- Bytes with other ones put in. -/
def ins (t : List UInt8) (x : Nat) (s : List UInt8) : List UInt8 := t.take x ++ (s ++ t.drop x)
/-- Bytes with some taken out. -/
def del (t : List UInt8) (i j : Nat) : List UInt8 := t.take i ++ t.drop j
theorem ins_length {t : List UInt8} {x : Nat} (h : x ≤ t.length) (s : List UInt8) : (ins t x s).length = t.length + s.length := by
  rw [ins, List.length_append, List.length_append, List.length_take, List.length_drop]; omega
theorem del_length {t : List UInt8} {i j : Nat} (h : i ≤ j) (h2 : j ≤ t.length) : (del t i j).length = t.length - (j - i) := by
  rw [del, List.length_append, List.length_take, List.length_drop]; omega
/-- May something be put in at x? -/
def okI (T : List UInt8) (x : Int) : Prop := 0 ≤ x ∧ x ≤ T.length
/-- Are there bytes from i to j? -/
def okD (T : List UInt8) (i j : Int) : Prop := 0 ≤ i ∧ i ≤ j ∧ j ≤ T.length
instance (T : List UInt8) (x : Int) : Decidable (okI T x) := inferInstanceAs (Decidable (_ ∧ _))
instance (T : List UInt8) (i j : Int) : Decidable (okD T i j) := inferInstanceAs (Decidable (_ ∧ _))
theorem del_same (T : List UInt8) (i : Nat) : del T i i = T := by rw [del, List.take_append_drop]
theorem ins_nil_ (T : List UInt8) (x : Nat) : ins T x [] = T := by rw [ins, List.nil_append, List.take_append_drop]
end Pc
end Go.Proofs.YtgjppkkifclanaaDoor
