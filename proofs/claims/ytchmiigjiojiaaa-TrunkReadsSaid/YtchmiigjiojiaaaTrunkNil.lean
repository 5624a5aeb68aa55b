/-
  What the program reads of a reader that is none: nothing.
-/
import Derived.Test.YtchmiigjiojiaaaTrunkRead
namespace Go.Proofs.Ytchmiigjiojiaaa
open Go.RowKit
open Tre Trk
set_option maxHeartbeats 400000 in
theorem none_num (w : World) : Calls Try.prog 12 #[.pointer none] w fun e w' => e = .returned (.int .i64 0) ∧ w = w' := by
  go_enter Try.func12, Try.ntmps12
  go_wp2
  go_ret
  exact ⟨rfl, rfl⟩
set_option maxHeartbeats 400000 in
theorem none_err (w : World) : Calls Try.prog 14 #[.pointer none] w fun e w' => e = .returned (.int .i64 2) ∧ w = w' := by
  go_enter Try.func14, Try.ntmps14
  go_wp2
  go_ret
  exact ⟨rfl, rfl⟩
set_option maxHeartbeats 4000000 in
set_option maxRecDepth 100000 in
theorem trunk_Read_nil (w : World) :
    Calls Try.prog 5 #[.pointer none] w fun e w' => e = .returned (.tuple #[.agg #[.slice none 0 0, .int .i64 0], .int .i64 2]) ∧ Below w.heap.size w w' := by
  have HB := Lib.hid (fun u => blk2 w #[.slice none 0 0, .int .i64 0] #[.slice none 0 0, .int .i64 0] 29 29 (u := u))
  go_enter Try.func5, Try.ntmps5
  go_wp2_with (first
    | (go_at_call 11; ((with_reducible refine (trunk_fields _).mono ?_); rintro e w1 ⟨g, f, rfl, hf, hgB, hb1⟩; obtain ⟨z1, y0, y1, y2⟩ := HB.out _ hb1))
    | (go_at_call 12; ((with_reducible refine (none_num _).mono ?_); rintro e w2 ⟨rfl, rfl⟩)))
  clear hf hb1 hgB
  go_loopw [12] (fun i wr => i = .int .i64 0 ∧ wr = w1) (fun _ _ => 0)
  case atStart => exact ⟨rfl, rfl⟩
  case round =>
    obtain ⟨rfl, rfl⟩ := hrel
    have x1 := y1.cell 1
    have xz := y1.frozen 1
    have t0 : Blk (wr.setCell ⟨w.heap.size + 1, 1, none⟩ (.int .i64 0)) w.heap.size 29 #[.slice none 0 0, .int .i64 0] := y0.far (p := ⟨w.heap.size + 1, 1, none⟩) (by simp) _
    have v0 := t0.cell 0
    have v1 := t0.cell 1
    have vz0 := t0.frozen 0
    have vz1 := t0.frozen 1
    have hb : Below w.heap.size w (wr.setCell ⟨w.heap.size + 1, 1, none⟩ (.int .i64 0)) := y2.setCell (p := ⟨w.heap.size + 1, 1, none⟩) (by simp) _
    go_wp2_with (first
      | (go_at_call 12; ((with_reducible refine (none_num _).mono ?_); rintro e w2 ⟨rfl, rfl⟩))
      | (go_at_call 14; ((with_reducible refine (none_err _).mono ?_); rintro e w2 ⟨rfl, rfl⟩)))
    refine ret_two1 rfl rfl t0 rfl Try.underlying29 rfl ?_
    exact ⟨rfl, below_two hb (Nat.le_refl _)⟩
end Go.Proofs.Ytchmiigjiojiaaa
