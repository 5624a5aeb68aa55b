/-
  The document's example, as layer 20's statements ask for it.
-/
import Derived.Test.YtpgonbibekffhaaLookNext
import Derived.Test.YtpgonbibekffhaaSame
import Derived.Test.YtpgonbibekffhaaFrame
namespace Go.Proofs.Ytpgonbibekffhaa
open Go.RowKit
namespace Look
def exT : List UInt8 := [97, 97, 97, 32, 97, 97]
theorem ex_dec : Utf.dec exT = some [[97], [97], [97], [32], [97], [97]] := Utf.dec_of (rs := [[97], [97], [97], [32], [97], [97]]) (by decide)
theorem ex_pat : Utf.dec [97, 97] = some [[97], [97]] := Utf.dec_of (rs := [[97], [97]]) (by decide)
theorem ex_all : all exT [97, 97] = [0, 1, 4] := by
  rw [all_ok (by rw [ok, Utf.valid, Utf.valid, ex_dec, ex_pat]; rfl)]; decide
theorem ex_next : res exT [97, 97] 4 false 1 = .tuple #[.int .i64 0, .bool true] := by
  have hp : Utf.place exT 4 = true := Utf.place_at ex_dec (i := 4) (by decide)
  rw [res_at (by rw [ex_all]; decide) hp, ex_all]; rfl
end Look
theorem lit_ints (w : World) : Ints (w.alloc (.cells #[.int .i64 0, .int .i64 1, .int .i64 4] 3)) (some ⟨w.heap.size, 0, none⟩) [0, 1, 4] := fun _ => ⟨_, rfl, by simp, fun j x hx => by
  have hb := Blk.new w 3 #[.int .i64 0, .int .i64 1, .int .i64 4]
  match j, hx with
  | 0, hx => simp at hx; subst hx; exact hb.cell 0
  | 1, hx => simp at hx; subst hx; exact hb.cell 1
  | 2, hx => simp at hx; subst hx; exact hb.cell 2⟩
theorem Look.ints_below {w w' : World} {A : Option Addr} {xs : List Int} (h : Ints w A xs) (hb : Below w.heap.size w w') : Ints w' A xs := h.grown (gb_below none hb) (fun _ _ h => by cases h)
set_option maxHeartbeats 1000000 in
set_option maxRecDepth 100000 in
theorem look_lives (w : World) : Calls Try.prog 6 #[] w fun e w' => e = .returned (.bool true) ∧ Below w.heap.size w w' := by
  have c0 := fun (w : World) => look_All (⟨#[97, 97, 97, 32, 97, 97]⟩ : ByteArray) ⟨#[97, 97]⟩ (by decide) (by decide) w
  have c1 := fun (w : World) => look_Next (⟨#[97, 97, 97, 32, 97, 97]⟩ : ByteArray) 4 ⟨#[97, 97]⟩ false 1 (by decide) (by decide) (by decide) w
  rw [show (⟨#[97, 97, 97, 32, 97, 97]⟩ : ByteArray).data.toList = Look.exT from rfl, show (⟨#[97, 97]⟩ : ByteArray).data.toList = [97, 97] from rfl] at c0 c1
  rw [Look.ex_all] at c0
  rw [Look.ex_next] at c1
  have C0 := Lib.hid c0
  have C1 := Lib.hid c1
  have C2 := Lib.hid (fun (w : World) (A B : Option Addr) (c d : Nat) (ha : Ints w A [0, 1, 4]) (hb : Ints w B [0, 1, 4]) => ref_same (c := c) (d := d) ha hb (by decide))
  clear c0 c1
  have hX := Below.refl w.heap.size w
  go_enter Try.func6, Try.ntmps6
  go_wp2_with (first
    | (go_at_call 8; refine (C0.out _).mono ?_; rintro e w1 ⟨⟨v, rfl, hr⟩, hb⟩; obtain ⟨A, ca, rfl⟩ := own_shape hr; have hP := Lib.hid (Ints.of_own hr rfl); replace hX := Look.on hX hb; clear hr hb)
    | (go_at_call 10; refine (C1.out _).mono ?_; rintro e w2 ⟨rfl, hb⟩; replace hX := Look.on hX hb; replace hP := Lib.hid (Look.ints_below hP.out hb); clear hb)
    | (go_at_call 7; refine (C2.out _ _ _ _ _ (Look.ints_below hP.out ((Below.refl _ _).alloc (Nat.le_refl _) _)) (lit_ints _)).mono ?_; rintro e w3 ⟨rfl, hb⟩))
  go_ret
  exact ⟨rfl, Look.on (hX.alloc hX.size _) (below_gb hb)⟩
end Go.Proofs.Ytpgonbibekffhaa
