/-
  Lists of texts that a call makes: rows of its own, parts of them, all of their bytes.
-/
import Derived.Test.YtlfhfpjffdaomaaDoorStrs
namespace Go.Proofs.YtlfhfpjffdaomaaDoor
open Go.RowKit
theorem info_string : (Tryd.prog.info? 9).map (fun i => (i.zero, i.size, i.bytes)) = some (some (.string ⟨#[]⟩), 1, 16) := by kernel_rfl
theorem Strs.of_own {w : World} {B : Nat} {v : Value} {A : Option Addr} {n c : Nat} {xs : List ByteArray} (h : w.ownsRow B 9 1 v xs.length (xs.map Value.string)) (hv : v = .slice A n c) : Strs w A xs := fun h0 => by
  subst hv
  rcases h.2 with ⟨_, h2⟩ | ⟨g, cap, cur, hv, hb, hh, _⟩
  · omega
  · injection hv with hA
    subst hA
    refine ⟨_, rfl, (Array.getElem?_eq_some_iff.1 hh).1, fun j x hx => ?_⟩
    exact h.cells (g := g) rfl j _ (by simp [hx])
/-- An answer that is a list of these texts, in memory from block B on. -/
def GotStrs (B : Nat) (xs : List ByteArray) (e : Ending) (w' : World) : Prop := ∃ A c, e = .returned (.slice A xs.length c) ∧ Strs w' A xs ∧ xs.length ≤ c ∧ B ≤ w'.heap.size
end Go.Proofs.YtlfhfpjffdaomaaDoor
