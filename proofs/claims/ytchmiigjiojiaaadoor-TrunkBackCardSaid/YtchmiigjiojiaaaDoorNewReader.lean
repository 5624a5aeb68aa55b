/-
  A new reader, and what is written in its block alone.
-/
import Derived.Test.YtchmiigjiojiaaaDoorReader
namespace Go.Proofs.YtchmiigjiojiaaaDoor
open Go.RowKit
/-- An answer that is a new reader of these bytes. -/
def GotRd (l : List UInt8) (B : Nat) (e : Ending) (w' : World) : Prop := ∃ p, e = .returned (.pointer (some ⟨p, 0, none⟩)) ∧ B ≤ p ∧ Rd p l 0 w'
set_option maxHeartbeats 400000 in
theorem new_reader (s : ByteArray) (w : World) (hs : s.size ≤ maxLen) :
    Calls Tryd.prog 13 #[.string s] w fun e w' => GotRd s.data.toList w.heap.size e w' ∧ Below w.heap.size w w' := by
  go_enter Tryd.func13, Tryd.ntmps13
  go_wp2_with fail
  refine (rd_begin w.heap.size _ _ _ _ s _ hs (Blk.new w _ _)).mono ?_
  rintro e w1 ⟨rfl, hr, hg⟩
  go_wp2
  go_ret
  exact ⟨⟨_, rfl, Nat.le_refl _, hr⟩, ((Below.refl _ w).alloc (Nat.le_refl _) _).trans ((Below.refl _ _).grown hg (by simp) (fun k hk => by injection hk with hk; omega))⟩
theorem of_row {B p : Nat} {w w' : World} (h : Below B w w') {w2 : World} (g : w'.grownBy w2 (some p)) (hp : B ≤ p) (hB : B ≤ w.heap.size) : Below B w w2 :=
  h.grown g (Nat.le_trans hB h.size) (fun k hk => by injection hk with hk; omega)
end Go.Proofs.YtchmiigjiojiaaaDoor
