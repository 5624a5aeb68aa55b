/-
  Package line tells the document's example.
-/
import Derived.Test.YtaldnhokclofnaaLineClamp
namespace Go.Proofs.Ytaldnhokclofnaa
open Go.RowKit
namespace Line
abbrev exT : List UInt8 := [97, 98, 10, 10, 99, 100]
theorem ex_dec : Utf.dec exT = some [[97], [98], [10], [10], [99], [100]] := Utf.dec_of (rs := [[97], [98], [10], [10], [99], [100]]) (by intro r hr; simp at hr; rcases hr with rfl | rfl | rfl | rfl | rfl | rfl <;> decide)
theorem ex_L : L exT = [(0, 2), (3, 3), (4, 6)] := by rw [L_ok (Utf.valid_ok ex_dec)]; decide
theorem ex_place (i : Nat) (hi : i ≤ 6) (he : Utf.off [[97], [98], [10], [10], [99], [100]] i = i) : Utf.place exT (i : Int) = true := by
  have := Utf.place_at ex_dec (i := i) hi
  rwa [he] at this
theorem ex_clamp2 : clamp exT 2 = 1 := by
  have hx : (L exT)[0]? = some (0, 2) := by rw [ex_L]; rfl
  have hc : clip exT 2 = 2 := by decide
  have h := (clamp_in (p := 2) hx (by rw [hc]; decide) (by rw [hc]; decide)).2.2
  rw [hc, back_at (ex_place 2 (by decide) (by decide)), if_pos (by decide)] at h
  rw [h]
  exact Utf.prev_at ex_dec (i := 1) (by decide)
theorem ex_clamp3 : clamp exT 3 = 3 := by
  have hx : (L exT)[1]? = some (3, 3) := by rw [ex_L]; rfl
  have hc : clip exT 3 = 3 := by decide
  have h := (clamp_in (p := 3) hx (by rw [hc]; decide) (by rw [hc]; decide)).2.2
  rw [hc, back_at (ex_place 3 (by decide) (by decide)), if_neg (by decide)] at h
  exact h
theorem ex_clamp9 : clamp exT 9 = 5 := by
  have hx : (L exT)[2]? = some (4, 6) := by rw [ex_L]; rfl
  have hc : clip exT 9 = 6 := by decide
  have h := (clamp_in (p := 9) hx (by rw [hc]; decide) (by rw [hc]; decide)).2.2
  rw [hc, back_at (ex_place 6 (by decide) (by decide)), if_pos (by decide)] at h
  rw [h]
  exact Utf.prev_at ex_dec (i := 5) (by decide)
end Line
set_option maxHeartbeats 400000 in
set_option maxRecDepth 100000 in
theorem line_lives (w : World) :
    Calls Try.prog 8 #[] w fun e w' => e = .returned (.bool true) ∧ Below w.heap.size w w' := by
  have c0 := fun w => line_Count (⟨#[97, 98, 10, 10, 99, 100]⟩ : ByteArray) (by decide) w
  have c2 := fun w => line_Clamp (⟨#[97, 98, 10, 10, 99, 100]⟩ : ByteArray) 2 (by decide) w
  have c3 := fun w => line_Clamp (⟨#[97, 98, 10, 10, 99, 100]⟩ : ByteArray) 3 (by decide) w
  have c9 := fun w => line_Clamp (⟨#[97, 98, 10, 10, 99, 100]⟩ : ByteArray) 9 (by decide) w
  rw [show (⟨#[97, 98, 10, 10, 99, 100]⟩ : ByteArray).data.toList = Line.exT from rfl] at c0 c2 c3 c9
  rw [Line.ex_L, show [(0, 2), (3, 3), (4, 6)].length = 3 from rfl] at c0
  rw [Line.ex_clamp2] at c2
  rw [Line.ex_clamp3] at c3
  rw [Line.ex_clamp9] at c9
  have C0 := Lib.hid c0
  have C2 := Lib.hid c2
  have C3 := Lib.hid c3
  have C9 := Lib.hid c9
  clear c0 c2 c3 c9
  go_enter Try.func8, Try.ntmps8
  go_wp2_with fail
  refine (C0.out _).mono ?_
  rintro e w1 ⟨rfl, hb1⟩
  go_wp2_with fail
  refine (C2.out _).mono ?_
  rintro e w2 ⟨rfl, hb2⟩
  go_wp2_with fail
  refine (C3.out _).mono ?_
  rintro e w3 ⟨rfl, hb3⟩
  go_wp2_with fail
  refine (C9.out _).mono ?_
  rintro e w4 ⟨rfl, hb4⟩
  have k2 := hb1.trans (hb2.mono hb1.size)
  have k3 := k2.trans (hb3.mono k2.size)
  have k4 := k3.trans (hb4.mono k3.size)
  go_wp2
  go_ret
  exact ⟨rfl, k4⟩
end Go.Proofs.Ytaldnhokclofnaa
