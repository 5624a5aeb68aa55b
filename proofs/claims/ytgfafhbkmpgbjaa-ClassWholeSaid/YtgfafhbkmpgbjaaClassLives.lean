/-
  Package class tells the document's example.
-/
import Derived.Test.YtgfafhbkmpgbjaaClassRun
namespace Go.Proofs.Ytgfafhbkmpgbjaa
open Go.RowKit
namespace Class
abbrev exT : List UInt8 := [97, 98, 43, 32, 99]
theorem ex_dec : Utf.dec exT = some [[97], [98], [43], [32], [99]] := Utf.dec_of (rs := [[97], [98], [43], [32], [99]]) (by intro r hr; simp at hr; rcases hr with rfl | rfl | rfl | rfl | rfl <;> decide)
theorem ex_kind (big : Bool) : kind exT 1 big = 2 := by
  have := kind_at ex_dec (i := 1) (by decide) big
  rw [show (Utf.off [[97], [98], [43], [32], [99]] 1 : Int) = 1 from rfl, show Utf.off [[97], [98], [43], [32], [99]] 1 = 1 from rfl] at this
  rw [this]
  cases big <;> decide
theorem ex_low (big : Bool) : low_ exT 1 big = 0 := by
  have := low_some (s := exT) (x := 1) (big := big) (by rw [show ((1 : Nat) : Int) = 1 from rfl, ex_kind]; decide)
  rw [show ((1 : Nat) : Int) = 1 from rfl, ex_kind] at this
  rw [this]
  cases big <;> decide
theorem ex_high (big : Bool) : high_ exT 1 big = if big then 3 else 2 := by
  have := high_some (s := exT) (x := 1) (big := big) (by rw [show ((1 : Nat) : Int) = 1 from rfl, ex_kind]; decide)
  rw [show ((1 : Nat) : Int) = 1 from rfl, ex_kind] at this
  rw [this]
  cases big <;> decide
end Class
set_option maxHeartbeats 400000 in
set_option maxRecDepth 100000 in
theorem class_lives (w : World) :
    Calls Try.prog 7 #[] w fun e w' => e = .returned (.bool true) ∧ w = w' := by
  have c0 := fun w => class_Run (⟨#[97, 98, 43, 32, 99]⟩ : ByteArray) 1 false (by decide) w
  have c1 := fun w => class_Run (⟨#[97, 98, 43, 32, 99]⟩ : ByteArray) 1 true (by decide) w
  rw [show (⟨#[97, 98, 43, 32, 99]⟩ : ByteArray).data.toList = Class.exT from rfl] at c0 c1
  rw [Class.ex_low, Class.ex_high] at c0 c1
  rw [if_neg (by decide)] at c0
  rw [if_pos rfl] at c1
  have C0 := Lib.hid c0
  have C1 := Lib.hid c1
  clear c0 c1
  go_enter Try.func7, Try.ntmps7
  go_wp2_with fail
  refine (C0.out _).mono ?_
  rintro e w1 ⟨rfl, rfl⟩
  go_wp2_with fail
  refine (C1.out _).mono ?_
  rintro e w1 ⟨rfl, rfl⟩
  go_wp2
  go_ret
  exact ⟨rfl, rfl⟩
end Go.Proofs.Ytgfafhbkmpgbjaa
