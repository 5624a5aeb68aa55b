/-
  'calamuslaw15.lives': the document's example.
-/
import Derived.Test.YtjkcdmlbnfibgaaHopCalls
import Derived.Test.YtjkcdmlbnfibgaaFrame
namespace Go.Proofs.Ytjkcdmlbnfibgaa
open Go.RowKit
namespace Hop
def exT : List UInt8 := [97, 98, 44, 32, 99]
theorem ex_dec : Utf.dec exT = some [[97], [98], [44], [32], [99]] := Utf.dec_of (rs := [[97], [98], [44], [32], [99]]) (by intro r hr; simp at hr; rcases hr with rfl | rfl | rfl | rfl | rfl <;> decide)
theorem ex_place : Utf.place exT 0 = true := Utf.place_at ex_dec (i := 0) (by decide)
theorem ex_starts : starts exT false = [0, 2, 4] := by rw [starts_rows ex_dec]; decide
theorem ex_great : starts exT true = [0, 4] := by rw [starts_rows ex_dec]; decide
theorem ex_ends : ends exT false = [1, 2, 4] := by rw [ends_rows ex_dec]; decide
theorem ex_w : goV exT 0 [119] 0 = 2 := by
  rw [goV_at (m := 0) (big := false) rfl ex_place, once, if_pos rfl, ex_starts]; decide
theorem ex_W : goV exT 0 [87] 0 = 4 := by
  rw [goV_at (m := 0) (big := true) rfl ex_place, once, if_pos rfl, ex_great]; decide
theorem ex_e : goV exT 0 [101] 0 = 1 := by
  rw [goV_at (m := 2) (big := false) rfl ex_place, once, if_neg (by decide), if_neg (by decide), ex_ends]; decide
end Hop
theorem hop_int_le {n : Int} (h : (Lit.int .i64 n).wf = true) : n ≤ 9223372036854775807 := by
  simp only [Lit.wf, Bool.and_eq_true, decide_eq_true_eq] at h
  exact h.2
set_option maxHeartbeats 400000 in
set_option maxRecDepth 100000 in
theorem hop_lives (w : World) :
    Calls Try.prog 7 #[] w fun e w' => e = .returned (.bool true) ∧ Below w.heap.size w w' := by
  have c0 := fun w => hop_Go (⟨#[97, 98, 44, 32, 99]⟩ : ByteArray) 0 (⟨#[119]⟩ : ByteArray) 0 (by decide) (by decide) w
  rw [show (⟨#[97, 98, 44, 32, 99]⟩ : ByteArray).data.toList = Hop.exT from rfl, show (⟨#[119]⟩ : ByteArray).data.toList = [119] from rfl, Hop.ex_w, show Hop.res 2 = .tuple #[.int .i64 2, .bool true] from rfl] at c0
  have C0 := Lib.hid c0
  have c1 := fun w => hop_Go (⟨#[97, 98, 44, 32, 99]⟩ : ByteArray) 0 (⟨#[87]⟩ : ByteArray) 0 (by decide) (by decide) w
  rw [show (⟨#[97, 98, 44, 32, 99]⟩ : ByteArray).data.toList = Hop.exT from rfl, show (⟨#[87]⟩ : ByteArray).data.toList = [87] from rfl, Hop.ex_W, show Hop.res 4 = .tuple #[.int .i64 4, .bool true] from rfl] at c1
  have C1 := Lib.hid c1
  have c2 := fun w => hop_Go (⟨#[97, 98, 44, 32, 99]⟩ : ByteArray) 0 (⟨#[101]⟩ : ByteArray) 0 (by decide) (by decide) w
  rw [show (⟨#[97, 98, 44, 32, 99]⟩ : ByteArray).data.toList = Hop.exT from rfl, show (⟨#[101]⟩ : ByteArray).data.toList = [101] from rfl, Hop.ex_e, show Hop.res 1 = .tuple #[.int .i64 1, .bool true] from rfl] at c2
  have C2 := Lib.hid c2
  have c3 := fun w => hop_Has (⟨#[69]⟩ : ByteArray) w
  rw [show (Hop.mot (⟨#[69]⟩ : ByteArray).data.toList).isSome = true from rfl] at c3
  have C3 := Lib.hid c3
  clear c0 c1 c2 c3
  go_enter Try.func7, Try.ntmps7
  go_wp2_with fail
  refine (C0.out _).mono ?_
  rintro e w0 ⟨rfl, hb0⟩
  go_wp2_with fail
  refine (C1.out _).mono ?_
  rintro e w1 ⟨rfl, hb1⟩
  replace hb1 := hop_below hb0 hb1
  go_wp2_with fail
  refine (C2.out _).mono ?_
  rintro e w2 ⟨rfl, hb2⟩
  replace hb2 := hop_below hb1 hb2
  go_wp2_with fail
  refine (C3.out _).mono ?_
  rintro e w3 ⟨rfl, rfl⟩
  go_wp2
  go_ret
  exact ⟨rfl, hb2⟩
end Go.Proofs.Ytjkcdmlbnfibgaa
