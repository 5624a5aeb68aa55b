/-
  Whether the program tells the document's example of marks.
-/
import Derived.Test.YtcpnaanknheekaaMarkRefSet
namespace Go.Proofs.Ytcpnaanknheekaa
open Go.RowKit
open Mrk
theorem setted_one : setted [] 98 4 = ([⟨98, 4⟩], 0) := by
  rw [setted, if_pos ⟨right_nil, by omega⟩, if_pos (by omega)]
  rfl
theorem setted_two : setted [⟨98, 4⟩] 97 7 = ([⟨97, 7⟩, ⟨98, 4⟩], 0) := by
  rw [setted, if_pos ⟨by decide, by omega⟩, if_pos (by omega)]
  rfl
def OneIs (w : World) (e : Ending) (w' : World) : Prop := ∃ (A : Option Addr) (c : Nat), e = .returned (.tuple #[.slice A 1 c, .int .i64 0]) ∧ Mks w' A [⟨98, 4⟩] ∧ 1 ≤ c ∧ Below w.heap.size w w'
def TwoIs (w : World) (e : Ending) (w' : World) : Prop := ∃ (A : Option Addr) (c : Nat), e = .returned (.tuple #[.slice A 2 c, .int .i64 0]) ∧ Mks w' A [⟨97, 7⟩, ⟨98, 4⟩] ∧ 2 ≤ c ∧ Below w.heap.size w w'
set_option maxHeartbeats 1000000 in
set_option maxRecDepth 100000 in
theorem mark_lives (w : World) : Calls Try.prog 18 #[] w fun e w' => e = .returned (.bool true) ∧ Below w.heap.size w w' := by
  have H1 : Hid (Calls Try.prog 7 #[.slice none 0 0, .int .i64 98, .int .i64 4] w (OneIs w)) := by
    have S1 := mark_Set 98 4 (c := 0) (ks := []) (Mks.nil w none) (by decide) (by decide)
    rw [setted_one] at S1
    exact S1
  have H2 : Hid (∀ (u : World) (A : Option Addr) (c : Nat), Mks u A [⟨98, 4⟩] → 1 ≤ c → Calls Try.prog 7 #[.slice A 1 c, .int .i64 97, .int .i64 7] u (TwoIs u)) := fun u A c hA hc => by
    have := mark_Set 97 7 (c := c) (ks := [⟨98, 4⟩]) hA (by decide) hc
    rw [setted_two] at this
    exact this
  have H3 : Hid (∀ (u : World) (A : Option Addr) (c : Nat), Mks u A [⟨97, 7⟩, ⟨98, 4⟩] → Calls Try.prog 15 #[.slice A 2 c, .slice (some ⟨u.heap.size, 0, none⟩) 2 2] (u.alloc (.cells #[.int .i64 97, .int .i64 7, .int .i64 98, .int .i64 4] 44)) fun e w' => e = .returned (.bool true) ∧ Below u.heap.size u w') := fun u A c hA => by
    have h1 := (Below.refl u.heap.size u).alloc (Nat.le_refl _) (.cells #[.int .i64 97, .int .i64 7, .int .i64 98, .int .i64 4] 44)
    refine (same10_ok (c := c) (d := 2) (ks := [⟨97, 7⟩, ⟨98, 4⟩]) (hA.below h1) (mks_two u ⟨97, 7⟩ ⟨98, 4⟩ 44) (by decide)).mono ?_
    rintro e w' ⟨he, hb'⟩
    exact ⟨he, h1.trans (hb'.mono h1.size)⟩
  go_enter Try.func18, Try.ntmps18
  go_wp2_with (first
    | (go_at_call 7; (with_reducible refine H1.out.mono ?_); rintro e w1 ⟨A1, c1, rfl, hm1, hl1, hb1⟩)
    | (go_at_call 7; (with_reducible refine (H2.out _ _ _ hm1 hl1).mono ?_); rintro e w2 ⟨A2, c2, rfl, hm2, hl2, hb2⟩)
    | (go_at_call 15; (with_reducible refine (H3.out _ _ _ hm2).mono ?_); rintro e w3 ⟨rfl, hb3⟩))
  go_ret
  exact ⟨rfl, (hb1.trans (hb2.mono hb1.size)).trans (hb3.mono (Nat.le_trans hb1.size hb2.size))⟩
end Go.Proofs.Ytcpnaanknheekaa
