/-
  Trees the same, and a new tree: the program's answers.
-/
import Derived.Test.YtchmiigjiojiaaaDoorTreeSame
namespace Go.Proofs.YtchmiigjiojiaaaDoor
open Go.RowKit
open Tre
set_option maxHeartbeats 2000000 in
set_option maxRecDepth 100000 in
theorem tree_Same {A B : Option Addr} {c d : Nat} {l m : List Nd} {p q : Int} {w : World} (hx : Nds w A l) (hy : Nds w B m) (hl : l.length ≤ 2000) :
    Calls Tryd.prog 15 #[.agg #[.slice A l.length c, .int .i64 p], .agg #[.slice B m.length d, .int .i64 q]] w fun e w' => e = .returned (.bool (decide (p = q ∧ l = m))) ∧ Below w.heap.size w w' := by
  have h0 := ba (ba (Below.refl w.heap.size w) (.cells #[.slice A l.length c, .int .i64 p] 24)) (.cells #[.slice B m.length d, .int .i64 q] 24)
  have E := Lib.hid (sl_equal (c := c) (d := d) (hx.below h0) (hy.below h0) hl)
  by_cases hp : p = q
  · by_cases hlm : l = m
    · have H : Hid (decide (p = q ∧ l = m) = true) := decide_eq_true ⟨hp, hlm⟩
      rw [decide_eq_true hlm] at E
      have e0 : (p == q) = true := by simpa using hp
      clear hx hy hlm hp
      go_enter Tryd.func15, Tryd.ntmps15
      go_wp2_with (go_at_call 31; refine E.out.mono ?_; rintro e u1 ⟨rfl, hb1⟩)
      go_ret
      exact ⟨by rw [H.out]; rfl, h0.trans (hb1.mono h0.size)⟩
    · have H : Hid (decide (p = q ∧ l = m) = false) := decide_eq_false (fun h => hlm h.2)
      rw [decide_eq_false hlm] at E
      have e0 : (p == q) = true := by simpa using hp
      clear hx hy hlm hp
      go_enter Tryd.func15, Tryd.ntmps15
      go_wp2_with (go_at_call 31; refine E.out.mono ?_; rintro e u1 ⟨rfl, hb1⟩)
      go_ret
      exact ⟨by rw [H.out]; rfl, h0.trans (hb1.mono h0.size)⟩
  · have H : Hid (decide (p = q ∧ l = m) = false) := decide_eq_false (fun h => hp h.1)
    have e0 : (p == q) = false := by simpa using hp
    clear hx hy E
    go_enter Tryd.func15, Tryd.ntmps15
    go_wp2_with fail
    go_ret
    exact ⟨by rw [H.out]; rfl, h0⟩
namespace Tre
def root : Nd := ⟨-1, -1, 0, 0, 0, { data := #[] }, { data := #[] }⟩
end Tre
/-- One node, as a block holds it. -/
theorem nds_one {w : World} {g : Nat} {t : TypeId} {x : Nd} (h : Blk w g t x.vals) : Nds w (some ⟨g, 0, none⟩) [x] := fun _ => by
  refine ⟨g, 0, rfl, h.lt, fun j k hj => ?_⟩
  match j, hj with
  | 0, hj =>
    simp only [List.getElem?_cons_zero, Option.some.injEq] at hj
    subst hj
    exact ⟨h.cell 0, h.cell 1, h.cell 2, h.cell 3, h.cell 4, h.cell 5, h.cell 6⟩
end Go.Proofs.YtchmiigjiojiaaaDoor
