/-
  The program's reader and the document's, side by side.
-/
import Derived.Test.YtchmiigjiojiaaaRef
namespace Go.Proofs.Ytchmiigjiojiaaa
open Go.RowKit
theorem Rq.other {p g : Nat} {l l' : List UInt8} {e e' : Int} {w w' : World} (h : Rq g l e w) (k : Rd p l' e' w) (hg : w.grownBy w' (some p)) : Rq g l e w' := by
  obtain ⟨c1, c2, s, k⟩ := k
  exact h.grown hg (fun x => by injection x with x; exact h.self.ne_ k.self (by decide) x)
theorem Rd.aside {p g : Nat} {l l' : List UInt8} {e e' : Int} {w w' : World} (h : Rd p l e w) (k : Rq g l' e' w) (hg : w.grownBy w' (some g)) : Rd p l e w' := h.other k.self (by decide) (by decide) (by decide) hg
theorem rd_left_q {p n : Nat} {l : List UInt8} {err : Int} {w : World} (h : Rd p l err w) :
    Calls Try.prog 8 #[.pointer (some ⟨p, 0, none⟩)] (w.drewN n) fun e w' => e = .returned (.int .i64 l.length) ∧ ∃ m, w' = w.drewN m :=
  Calls.quiet_of_same ((rd_left (h.below (gb_drewN _ _ _))).mono fun _ _ k => ⟨k.1, k.2.symm⟩)
theorem rd_err_q {p n : Nat} {l : List UInt8} {err : Int} {w : World} (h : Rd p l err w) :
    Calls Try.prog 14 #[.pointer (some ⟨p, 0, none⟩)] (w.drewN n) fun e w' => e = .returned (.int .i64 err) ∧ ∃ m, w' = w.drewN m :=
  Calls.quiet_of_same ((rd_err (h.below (gb_drewN _ _ _))).mono fun _ _ k => ⟨k.1, k.2.symm⟩)
end Go.Proofs.Ytchmiigjiojiaaa
