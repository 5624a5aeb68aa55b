/-
  strings.IndexAny at brackets, in whatever valid text.
-/
import Derived.Test.YtchpkeelnfmlbaaGreatPair
import Derived.Test.YtchpkeelnfmlbaaGreatKey
import Derived.Test.YtchpkeelnfmlbaaGreatShelf
import Derived.Test.YtchpkeelnfmlbaaGreatUtfCounts
import Derived.Lib.IndexBytes
import Derived.BigCall
import Derived.BigQuiet
import Derived.Deep.QuietTactic
import Derived.WalkSmall
import Derived.WalkMore
namespace Go.Proofs.YtchpkeelnfmlbaaGreat
open Go.RowKit
namespace Pair
/-- The six. -/
def brk : List UInt8 := [40, 41, 91, 93, 123, 125]
abbrev brkS : ByteArray := { data := #[40, 41, 91, 93, 123, 125] }
theorem brk_small : ∀ (j : Nat) b, brkS.data.toList[j]? = some b → b.toNat < 128 := by
  intro j b h
  have h1 : b ∈ brk := List.mem_of_getElem? h
  clear h
  revert b
  decide
theorem no_big {q : List UInt8} (h : Utf.one q = true) (h2 : 2 ≤ q.length) : ∀ b ∈ q, 128 ≤ b.toNat := by
  intro b hb
  refine Nat.le_of_not_lt fun hlt => ?_
  refine rune_bytes h hlt (o := b) ?_ b hb rfl
  intro e
  rw [e] at h2
  simp at h2
theorem no_brk {b : UInt8} (h : 128 ≤ b.toNat) : brk.contains b = false := by
  rw [List.contains_eq_any_beq, List.any_eq_false]
  intro x hx e
  have e1 : b = x := by simpa using e
  subst e1
  have : ∀ y ∈ brk, y.toNat < 128 := by decide
  have := this _ hx
  omega
end Pair
open Pair
theorem byte_absent {l : List UInt8} {y : UInt8} (hl : ∀ b ∈ l, b.toNat < 128) (hy : 128 ≤ y.toNat) : Lib.indexByte l y = -1 := by
  refine Classical.byContradiction fun hne => ?_
  have hge := Lib.indexByte_ge l y
  obtain ⟨o, ho⟩ : ∃ o : Nat, Lib.indexByte l y = o := ⟨(Lib.indexByte l y).toNat, by omega⟩
  have h1 := (Lib.indexByte_some ho).1
  have := hl y (List.mem_of_getElem? h1)
  omega
theorem Pair.noAny_rune {s : List UInt8} {rs : List (List UInt8)} (hd : Utf.dec s = some rs) {j : Nat} {q : List UInt8} (hq : rs[j]? = some q) (h : Lib.NoAny s brk (Utf.off rs j)) (hn : ∀ b ∈ q, brk.contains b = false) : Lib.NoAny s brk (Utf.off rs (j + 1)) := by
  intro i b hi hb
  by_cases hlt : i < Utf.off rs j
  · exact h i b hlt hb
  · have ho := Utf.off_next hq
    refine hn b ?_
    have hp := Utf.off_piece hq
    rw [← (Utf.dec_some hd).2] at hp
    rw [← hp]
    refine List.mem_of_getElem? (i := i - Utf.off rs j) ?_
    rw [List.getElem?_drop, List.getElem?_take_of_lt (by omega), show Utf.off rs j + (i - Utf.off rs j) = i by omega]
    exact hb
end Go.Proofs.YtchpkeelnfmlbaaGreat
