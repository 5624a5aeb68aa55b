/-
  May a tree be, by reckoning.
-/
import Derived.Test.YtchmiigjiojiaaaDoorTree
namespace Go.Proofs.YtchmiigjiojiaaaDoor
namespace Tre
/-- May a tree be, by reckoning. -/
def check (l : List Nd) (cur : Int) : Bool := decide (1 ≤ l.length) && decide (l.length ≤ 1024) && decide (0 ≤ cur) && decide (cur < l.length) && (List.range l.length).all fun k => match l[k]? with | some x => decide (UpOk k x) && decide (NextOk l k x) | none => true
theorem right_of {l : List Nd} {cur : Int} (h : check l cur = true) : Right l cur := by
  unfold check at h
  simp only [Bool.and_eq_true, decide_eq_true_eq, List.all_eq_true, List.mem_range] at h
  obtain ⟨⟨⟨⟨h1, h2⟩, h3⟩, h4⟩, h5⟩ := h
  refine ⟨h1, h2, h3, h4, fun k hk x hx => ?_, fun k hk x hx => ?_⟩
  · have := h5 k hk
    rw [hx] at this
    simp only [Bool.and_eq_true, decide_eq_true_eq] at this
    exact this.1
  · have := h5 k hk
    rw [hx] at this
    simp only [Bool.and_eq_true, decide_eq_true_eq] at this
    exact this.2
end Tre
end Go.Proofs.YtchmiigjiojiaaaDoor
