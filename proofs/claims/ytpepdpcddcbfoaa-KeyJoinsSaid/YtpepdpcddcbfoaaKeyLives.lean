/-
  Package key tells the document's example.
-/
import Derived.Test.YtpepdpcddcbfoaaKeyText
namespace Go.Proofs.Ytpepdpcddcbfoaa
open Go.RowKit
theorem example_dec : Utf.dec [100, 9, 27, 60] = some [[100], [9], [27], [60]] := Utf.dec_of (rs := [[100], [9], [27], [60]]) (by intro r hr; simp at hr; rcases hr with rfl | rfl | rfl | rfl <;> decide)
theorem example_text : Key.text [100, 9, 27, 60] = [100, 60, 84, 97, 98, 62, 60, 69, 115, 99, 62, 60, 108, 116, 62] ∧ Key.err [100, 9, 27, 60] = 0 := by
  unfold Key.text Key.err
  rw [example_dec]
  decide
set_option maxHeartbeats 400000 in
set_option maxRecDepth 100000 in
theorem key_lives (w : World) :
    Calls Try.prog 13 #[] w fun e w' => e = .returned (.bool true) ∧ Below w.heap.size w w' := by
  have c1 := key_Text (⟨#[100, 9, 27, 60]⟩ : ByteArray) (by decide) w
  rw [show (⟨#[100, 9, 27, 60]⟩ : ByteArray).data.toList = [100, 9, 27, 60] from rfl, example_text.1, example_text.2] at c1
  have C1 := Lib.hid c1
  clear c1
  go_enter Try.func13, Try.ntmps13
  go_wp2_with fail
  refine C1.out.mono ?_
  rintro e w1 ⟨rfl, hb1⟩
  have g1 : (bs [100, 60, 84, 97, 98, 62, 60, 69, 115, 99, 62, 60, 108, 116, 62]).toList = [100, 60, 84, 97, 98, 62, 60, 69, 115, 99, 62, 60, 108, 116, 62] := bs_tl _
  go_wp2
  go_ret
  exact ⟨rfl, hb1⟩
end Go.Proofs.Ytpepdpcddcbfoaa
