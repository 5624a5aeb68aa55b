/-
  The document's example of package ex.
-/
import Derived.Test.YtcddbdefdenecaaGreatDoorExParse
import Derived.Test.YtcddbdefdenecaaGreatDoorExSame
namespace Go.Proofs.YtcddbdefdenecaaGreatDoor
open Go.RowKit Go.Shelf
open Ex (Ln)
def Ex.example1 : Ln := ⟨2, -2, [115], [], [97], [98], true⟩
theorem Ex.parse_example1 : Ex.parse [50, 44, 36, 115, 47, 97, 47, 98, 47, 103] = (Ex.example1, 0) := by
  have hd : Utf.dec [50, 44, 36, 115, 47, 97, 47, 98, 47, 103] = some [[50], [44], [36], [115], [47], [97], [47], [98], [47], [103]] := Utf.dec_of (rs := [[50], [44], [36], [115], [47], [97], [47], [98], [47], [103]]) (by decide)
  have hv : Utf.valid [50, 44, 36, 115, 47, 97, 47, 98, 47, 103] = true := by unfold Utf.valid; rw [hd]; rfl
  have hf : Ex.front [50, 44, 36, 115, 47, 97, 47, 98, 47, 103] = some (2, -2, [115, 47, 97, 47, 98, 47, 103]) := by decide
  rw [Ex.parse_word hv (by decide) hf]
  decide
theorem ex_parsed {s : ByteArray} {l : Ln} {er : Int} (hs : s.size ≤ 1000000000) (h : Ex.parse s.data.toList = (l, er)) (w : World) :
    Calls Tryz.prog 6 #[.string s] w fun e w' => e = .returned (.tuple #[.agg #[.int .i64 l.frm, .int .i64 l.to, .string (bs l.name), .string (bs l.arg), .string (bs l.pat), .string (bs l.rep), .bool l.all], .int .i64 er]) ∧ Below w.heap.size w w' := by
  have := ex_Parse s hs w
  rw [h] at this
  exact this
set_option maxHeartbeats 1000000 in
set_option maxRecDepth 100000 in
theorem ex_lives (w : World) : Calls Tryz.prog 5 #[] w fun e w' => e = .returned (.bool true) ∧ Below w.heap.size w w' := by
  have P1 := Lib.hid (fun w => ex_parsed (s := ⟨#[50, 44, 36, 115, 47, 97, 47, 98, 47, 103]⟩) (by decide) Ex.parse_example1 w)
  have E1 : ∀ w, (binOp .eql 24 (.agg #[.int .i64 Ex.example1.frm, .int .i64 Ex.example1.to, .string (bs Ex.example1.name), .string (bs Ex.example1.arg), .string (bs Ex.example1.pat), .string (bs Ex.example1.rep), .bool Ex.example1.all]) (.agg #[.int .i64 2, .int .i64 (-2), .string ⟨#[115]⟩, .string ⟨#[]⟩, .string ⟨#[97]⟩, .string ⟨#[98]⟩, .bool true])).run Tryz.prog w = .ok (.bool true) w := fun w => eql_ln Ex.example1 Ex.example1 w
  generalize Ex.example1 = c at *
  go_enter Tryz.func5, Tryz.ntmps5
  go_wp2_with (go_at_call 6; refine (P1.out _).mono ?_; rintro e w1 ⟨rfl, hb1⟩)
  go_ret
  exact ⟨rfl, hb1.alloc hb1.size _⟩
end Go.Proofs.YtcddbdefdenecaaGreatDoor
