/-
  The document's example, as layer 21's statements ask for it.
-/
import Derived.Test.YtopplkfbnpamdaaRegKeep
import Derived.Test.YtopplkfbnpamdaaRegSame
import Derived.Test.YtopplkfbnpamdaaFrame
namespace Go.Proofs.Ytopplkfbnpamdaa
open Go.RowKit
open Reg
namespace Reg
theorem valid_one {b : UInt8} (h : Utf.one [b] = true) : Utf.valid [b] = true := by
  unfold Utf.valid
  rw [show ([b] : List UInt8) = [[b]].flatten from rfl, Utf.dec_of (by intro r hr; simp at hr; subst hr; exact h)]
  rfl
def exX : List Rg := [⟨34, false, ⟨#[120]⟩⟩, ⟨97, false, ⟨#[120]⟩⟩]
def exXY : List Rg := [⟨34, false, ⟨#[120, 121]⟩⟩, ⟨97, false, ⟨#[120, 121]⟩⟩]
theorem ex_right : Right exX := by
  refine ⟨⟨fun k hk => ?_, by decide⟩, fun k hk => ?_⟩
  · simp [exX] at hk
    rcases hk with rfl | rfl <;> decide
  · simp [exX] at hk
    rcases hk with rfl | rfl <;> exact ⟨by decide, valid_one (by decide)⟩
theorem ex_one : kept [] 97 ⟨#[120]⟩ false false = (exX, 0) := by
  rw [kept, if_pos ⟨right_nil, valid_one (by decide)⟩, if_neg (by decide), if_pos (by decide)]
  rfl
theorem ex_joined : (⟨#[120]⟩ : ByteArray) ++ (⟨#[121]⟩ : ByteArray) = ⟨#[120, 121]⟩ := by
  apply ByteArray.ext; simp
theorem ex_two : kept exX 65 ⟨#[121]⟩ false false = (exXY, 0) := by
  have ha : added exX 65 ⟨#[121]⟩ false = (false, ⟨#[120, 121]⟩) := by
    rw [← ex_joined]; rfl
  rw [kept, if_pos ⟨ex_right, valid_one (by decide)⟩, if_neg (by decide), ha, if_pos (by decide)]
  unfold into
  rw [ha]
  rfl
end Reg
theorem lives_one (w : World) : Calls Try.prog 8 #[.slice none 0 0, .int .i64 97, .string ⟨#[120]⟩, .bool false] w fun e w' => ∃ A c, e = .returned (.tuple #[.slice A 2 c, .int .i64 0]) ∧ Rgs w' A exX ∧ Below w.heap.size w w' := by
  have := reg_Yank 97 ⟨#[120]⟩ false (A := none) (c := 0) (ks := []) (w := w) (Rgs.nil _ _) (by decide) (by decide)
  rw [ex_one] at this
  refine this.mono fun e w' h => ?_
  obtain ⟨A, c, h1, h2, _, h3⟩ := h
  exact ⟨A, c, h1, h2, h3⟩
theorem lives_two {u : World} {A : Option Addr} {c : Nat} (hu : Rgs u A exX) : Calls Try.prog 8 #[.slice A 2 c, .int .i64 65, .string ⟨#[121]⟩, .bool false] u fun e w' => ∃ A c, e = .returned (.tuple #[.slice A 2 c, .int .i64 0]) ∧ Rgs w' A exXY ∧ Below u.heap.size u w' := by
  have := reg_Yank 65 ⟨#[121]⟩ false (c := c) hu (by decide) (by decide)
  rw [ex_two] at this
  refine this.mono fun e w' h => ?_
  obtain ⟨A, c, h1, h2, _, h3⟩ := h
  exact ⟨A, c, h1, h2, h3⟩
theorem lives_same {u : World} {A B : Option Addr} {c d : Nat} (h1 : Rgs u A exXY) (h2 : Rgs u B exXY) : Calls Try.prog 12 #[.slice A 2 c, .slice B 2 d] u fun e w' => e = .returned (.bool true) ∧ Below u.heap.size u w' := by
  have hl : exXY.length = 2 := rfl
  have := same21_ok (ks := exXY) (c := c) (d := d) h1 h2 (by rw [hl]; omega)
  rw [hl] at this
  exact this
theorem lives_lit (w : World) (t : TypeId) : Rgs (w.alloc (.cells #[.int .i64 34, .bool false, .string ⟨#[120, 121]⟩, .int .i64 97, .bool false, .string ⟨#[120, 121]⟩] t)) (some ⟨w.heap.size, 0, none⟩) exXY := rgs_two w ⟨34, false, ⟨#[120, 121]⟩⟩ ⟨97, false, ⟨#[120, 121]⟩⟩ t
set_option maxHeartbeats 1000000 in
set_option maxRecDepth 100000 in
theorem reg_lives (w : World) : Calls Try.prog 7 #[] w fun e w' => e = .returned (.bool true) ∧ Below w.heap.size w w' := by
  have C0 := Lib.hid lives_one
  have C1 := Lib.hid (fun (u : World) (A : Option Addr) (c : Nat) (hu : Rgs u A exX) => lives_two (c := c) hu)
  have C2 := Lib.hid (fun (u : World) (A B : Option Addr) (c d : Nat) (h1 : Rgs u A exXY) (h2 : Rgs u B exXY) => lives_same (c := c) (d := d) h1 h2)
  have LIT := Lib.hid (fun u => lives_lit u 32)
  go_enter Try.func7, Try.ntmps7
  go_wp2_with (first
    | (go_at_call 8; (with_reducible refine (C0.out _).mono ?_); rintro e w1 ⟨A1, c1, rfl, h1, hb1⟩)
    | (go_at_call 8; (with_reducible refine (C1.out _ _ _ h1).mono ?_); rintro e w2 ⟨A2, c2, rfl, h2, hb2⟩; have hW2 := hb1.trans (hb2.mono hb1.size))
    | (go_at_call 12; (with_reducible refine (C2.out _ _ _ _ _ (h2.below ((Below.refl _ _).alloc (Nat.le_refl _) _)) (LIT.out _)).mono ?_); rintro e w3 ⟨rfl, hb3⟩; have hW3 := (hW2.alloc hW2.size _).trans (hb3.mono (hW2.alloc hW2.size _).size)))
  go_ret
  exact ⟨rfl, hW3⟩
end Go.Proofs.Ytopplkfbnpamdaa
