/-
  Package line: how many lines there are; where line k begins and ends; the line around an offset.
-/
import Derived.RangeFuncBox
import Derived.Test.YtchpkeelnfmlbaaGreatLineSeq
namespace Go.Proofs.YtchpkeelnfmlbaaGreat
open Go.RowKit Go.Shelf
attribute [local go_sem] Oper.semAt_some
theorem boxed_abide {X Y : World} {row : Option Nat} {B : Nat} {t : TypeId} {v : Value} (h : Boxed X B t v) (hg : X.grownBy Y row) (hr : ∀ r, row = some r → ∃ o : Obj, X.heap[r]? = some o ∧ o.isCells = false) : Boxed Y B t v :=
  h.kept hg (fun e => by
    obtain ⟨o, ho, hc⟩ := hr B e.symm
    rw [show X.heap[B]? = _ from h] at ho; cases ho; cases hc)
theorem boxed_far {W : World} {B : Nat} {t : TypeId} {v : Value} (h : Boxed W B t v) {C : Nat} (hne : B ≠ C) (u : Value) : Boxed (W.setCell ⟨C, 0, none⟩ u) B t v := h.kept (grownBy_setCell' W C u) (by simpa using hne)
theorem below_abide {n₀ m : Nat} {w X Y : World} {row : Option Nat} (h : Below n₀ w X) (hn : n₀ ≤ w.heap.size) (hm : n₀ ≤ m) (hg : X.grownBy Y row) (hr : ∀ r, row = some r → m ≤ r) : Below n₀ w Y :=
  h.grown hg (Nat.le_trans hn h.size) (fun k e => Nat.le_trans hm (hr k e))
end Go.Proofs.YtchpkeelnfmlbaaGreat
