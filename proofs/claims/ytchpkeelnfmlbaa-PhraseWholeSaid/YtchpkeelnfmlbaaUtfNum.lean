/-
  The document's answer by the runes' numbers: the rune of a number, the number of bytes, and whether bytes are one rune.
-/
import Derived.Test.YtchpkeelnfmlbaaUtfValid
import Derived.Test.YtchpkeelnfmlbaaBytes
namespace Go.Proofs.Ytchpkeelnfmlbaa
open Go.RowKit
namespace Utf
/-- A number's rune; nothing: it is none. -/
def enc (n : Int) : List UInt8 :=
  if n < 0 ∨ 1114111 < n ∨ (55296 ≤ n ∧ n < 57344) then []
  else if n < 128 then [UInt8.ofNat n.toNat]
  else if n < 2048 then [UInt8.ofNat (192 + n / 64).toNat, UInt8.ofNat (128 + n % 64).toNat]
  else if n < 65536 then [UInt8.ofNat (224 + n / 4096).toNat, UInt8.ofNat (128 + n / 64 % 64).toNat, UInt8.ofNat (128 + n % 64).toNat]
  else [UInt8.ofNat (240 + n / 262144).toNat, UInt8.ofNat (128 + n / 4096 % 64).toNat, UInt8.ofNat (128 + n / 64 % 64).toNat, UInt8.ofNat (128 + n % 64).toNat]
/-- The number of bytes that go on. -/
def numF : Int → List UInt8 → Int
  | n, [] => n
  | n, b :: t => if b.toNat < 128 ∨ 191 < b.toNat then -1 else numF (64 * n + (b.toNat - 128)) t
/-- What the first byte tells besides the number, by how many there are. -/
def base (k : Nat) : Int := if k = 2 then 192 else if k = 3 then 224 else if k = 4 then 240 else 0
def num : List UInt8 → Int
  | [] => 0
  | [a] => a.toNat
  | a :: b :: t => if (a.toNat : Int) < base (t.length + 2) then -1 else numF (a.toNat - base (t.length + 2)) (b :: t)
end Utf
theorem num_go {n : Int} {b : UInt8} (t : List UInt8) (h : ¬ b.toNat < 128) (h' : ¬ 191 < b.toNat) : Utf.numF n (b :: t) = Utf.numF (64 * n + (b.toNat - 128)) t := by
  rw [Utf.numF, if_neg (by omega)]
theorem num_stop {n : Int} {b : UInt8} (t : List UInt8) (h : b.toNat < 128 ∨ 191 < b.toNat) : Utf.numF n (b :: t) = -1 := by
  rw [Utf.numF, if_pos h]
theorem num_head {l : List UInt8} {a : UInt8} (h2 : 2 ≤ l.length) (ha : l.drop 0 = a :: l.drop 1) : Utf.num l = if (a.toNat : Int) < Utf.base l.length then -1 else Utf.numF (a.toNat - Utf.base l.length) (l.drop 1) := by
  match l, h2 with
  | x :: y :: t, _ =>
    simp only [List.drop_zero, List.drop_succ_cons, List.cons.injEq, and_true] at ha
    subst ha
    rfl
theorem num_none {n : Int} {l : List UInt8} {j : Nat} (h : l.length ≤ j) : Utf.numF n (l.drop j) = n := by
  rw [List.drop_eq_nil_of_le h]; rfl
end Go.Proofs.Ytchpkeelnfmlbaa
