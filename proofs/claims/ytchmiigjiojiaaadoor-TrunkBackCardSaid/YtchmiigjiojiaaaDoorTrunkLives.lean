/-
  The document's example of a tree's bytes.
-/
import Derived.Test.YtchmiigjiojiaaaDoorTrunkBytes
import Derived.Test.YtchmiigjiojiaaaDoorTreeCheck
import Derived.Test.YtchmiigjiojiaaaDoorTreeTop
namespace Go.Proofs.YtchmiigjiojiaaaDoor
open Go.RowKit
open Tre Trk
namespace Trk
theorem root_right : Right [root] 0 := right_of (by decide +kernel)
theorem root_bytes : (treeB [root] 0).length = 36 := by
  rw [treeB_yes root_right]
  decide +kernel
theorem root_fit : ∀ x ∈ [root], Fit x := by
  intro x hx
  simp only [List.mem_cons, List.not_mem_nil, or_false] at hx
  subst hx
  exact ⟨by decide, by decide, by decide⟩
end Trk
/-- A root alone, as a call answers it. -/
def RootIs (w : World) (e : Ending) (w' : World) : Prop := ∃ g, e = .returned (.agg #[.slice (some ⟨g, 0, none⟩) 1 1, .int .i64 0]) ∧ Nds w' (some ⟨g, 0, none⟩) [root] ∧ Below w.heap.size w w'
set_option maxHeartbeats 2000000 in
set_option maxRecDepth 100000 in
theorem law12_root (w : World) : Calls Tryd.prog 18 #[] w (RootIs w) := by
  go_enter Tryd.func18, Tryd.ntmps18
  go_wp2_with fail
  have b0 := Blk.new w 24 #[.slice (some ⟨w.heap.size + 1, 0, none⟩) 1 1, .int .i64 0]
  have b1 := Blk.new (w.alloc (.cells #[.slice (some ⟨w.heap.size + 1, 0, none⟩) 1 1, .int .i64 0] 24)) 40 root.vals
  rw [World.size_alloc] at b1
  have h0 := al (al (Below.refl w.heap.size w) (.cells #[.slice (some ⟨w.heap.size + 1, 0, none⟩) 1 1, .int .i64 0] 24)) (.cells root.vals 40)
  have F1 := b0.alloc (.cells root.vals 40)
  exact bodyPost_ret (v := .agg #[.slice (some ⟨w.heap.size + 1, 0, none⟩) 1 1, .int .i64 0]) (results_cell_row rfl _ _ w.heap.size 24 #[.slice (some ⟨w.heap.size + 1, 0, none⟩) 1 1, .int .i64 0] (0, 0) _ rfl F1 Tryd.underlying24 rfl rfl) rfl ⟨_, rfl, nds_one b1, h0⟩
set_option maxHeartbeats 2000000 in
set_option maxRecDepth 100000 in
theorem trunk_lives (w : World) : Calls Tryd.prog 6 #[] w fun e w' => e = .returned (.bool true) ∧ Below w.heap.size w w' := by
  have H1 := Lib.hid (fun (u : World) (g : Nat) (h : Nds u (some ⟨g, 0, none⟩) [root]) => trunk_Bytes (c := 1) (cur := 0) h (by decide) root_fit)
  have H2 := Lib.hid (fun (u : World) (g : Nat) (h : Nds u (some ⟨g, 0, none⟩) [root]) => trunk_Size (c := 1) (cur := 0) h (by decide) root_fit)
  rw [show ([root] : List Nd).length = 1 from rfl] at H1 H2
  rw [root_bytes] at H2
  have e1 : (bs (treeB [root] 0)).size = 36 := by rw [bs_size, root_bytes]
  go_enter Tryd.func6, Tryd.ntmps6
  go_wp2_with fail
  refine (law12_root _).mono ?_
  rintro e w1 ⟨g1, rfl, h1, b1⟩
  go_wp2_with fail
  refine (H1.out _ _ h1).mono ?_
  rintro e w2 ⟨rfl, b2⟩
  go_wp2_with fail
  refine (law12_root _).mono ?_
  rintro e w3 ⟨g3, rfl, h3, b3⟩
  go_wp2_with fail
  refine (H2.out _ _ h3).mono ?_
  rintro e w4 ⟨rfl, b4⟩
  go_wp2
  go_ret
  have c2 := b1.trans (b2.mono b1.size)
  have c3 := c2.trans (b3.mono c2.size)
  exact ⟨rfl, c3.trans (b4.mono c3.size)⟩
end Go.Proofs.YtchmiigjiojiaaaDoor
