/-
  The document's example, as layer 17's statements ask for it.
-/
import Derived.Test.YtijjpnppedhfnaaPairMatch
import Derived.Test.YtijjpnppedhfnaaPairRefAll
import Derived.Test.YtijjpnppedhfnaaPairSame
import Derived.Test.YtijjpnppedhfnaaFrame
namespace Go.Proofs.Ytijjpnppedhfnaa
open Go.RowKit
namespace Pair
def exT : List UInt8 := [40, 97, 40, 98, 41]
theorem ex_dec : Utf.dec exT = some [[40], [97], [40], [98], [41]] := Utf.dec_of (rs := [[40], [97], [40], [98], [41]]) (by decide)
theorem ex_valid : Utf.valid exT = true := by rw [Utf.valid, ex_dec]; rfl
theorem ex_all : all exT [40] = [(2, 4)] := by rw [all_eq (c := 41) rfl ex_valid]; rfl
theorem ex_line : (Line.L exT)[0]? = some (0, 5) := by rw [Line.L_ok ex_valid]; rfl
theorem ex_mt : mt exT 3 = some 2 := by
  have hp : Utf.place exT (3 : Int) = true := Utf.place_at ex_dec (i := 3) (by decide)
  have ho : Line.of_ exT ((3 : Nat) : Int) = (0 : Nat) := Line.of_at ex_line (by decide) (by decide)
  have hs : Line.stop exT ((0 : Nat) : Int) = (5 : Nat) := Line.stop_some (by rw [Line.line_nat]; exact ex_line)
  have h1 : part exT 3 = [98, 41] := by rw [part, ho, hs]; rfl
  have h2 : Lib.indexAny [98, 41] brk = 1 := by decide
  rw [mt, if_pos hp, show (3 : Int).toNat = 3 from rfl, h1, h2, if_neg (by decide), show ((3 : Int) + 1).toNat = 4 from rfl, at_, show exT[4]?.getD 0 = 41 from rfl, show opn 41 = 40 from rfl, ex_all]
  rfl
theorem on {w u v : World} (h : Below w.heap.size w u) (g : Below u.heap.size u v) : Below w.heap.size w v := h.trans (g.mono h.size)
end Pair
open Pair
theorem same_yes (L : List (Nat × Nat)) (hl : L.length ≤ 500000) (A B : Option Addr) (c d : Nat) (w : World) (hA : Pairs w A L) (hB : Pairs w B L) :
    Calls Try.prog 8 #[.slice A L.length c, .slice B L.length d] w fun e w' => e = .returned (.bool true) ∧ Below w.heap.size w w' := by
  have := ref17_Same L L A B c d w hA hB hl
  rw [decide_eq_true rfl] at this
  exact this
theorem lit_pairs (w : World) : Pairs (w.alloc (.cells #[.int .i64 2, .int .i64 4] 33)) (some ⟨w.heap.size, 0, none⟩) [(2, 4)] := fun _ => ⟨_, rfl, by simp, fun j x hx => by
  have hb := Blk.new w 33 #[.int .i64 2, .int .i64 4]
  match j, hx with
  | 0, hx =>
    simp at hx
    subst hx
    exact ⟨(hb.cell 0), (hb.cell 1)⟩⟩
set_option maxHeartbeats 1000000 in
set_option maxRecDepth 100000 in
theorem pair_lives (w : World) : Calls Try.prog 7 #[] w fun e w' => e = .returned (.bool true) ∧ Below w.heap.size w w' := by
  have c0 := fun (w : World) => pair_All (⟨#[40, 97, 40, 98, 41]⟩ : ByteArray) ⟨#[40]⟩ (by decide) w
  have c1 := fun (w : World) => pair_Match (⟨#[40, 97, 40, 98, 41]⟩ : ByteArray) 3 (by decide) w
  rw [show (⟨#[40, 97, 40, 98, 41]⟩ : ByteArray).data.toList = exT from rfl] at c0 c1
  rw [show (⟨#[40]⟩ : ByteArray).data.toList = [40] from rfl, ex_all] at c0
  rw [ex_mt, show resM (some 2) = .tuple #[.int .i64 2, .bool true] from rfl] at c1
  have C0 := Lib.hid c0
  have C1 := Lib.hid c1
  have C2 := Lib.hid (same_yes [(2, 4)] (by decide))
  clear c0 c1
  have hX := Below.refl w.heap.size w
  go_enter Try.func7, Try.ntmps7
  go_wp2_with (first
    | (go_at_call 9; refine (C0.out _).mono ?_; rintro e w1 ⟨⟨v, rfl, hr⟩, hb⟩; obtain ⟨A, ca, rfl⟩ := own_long hr; have hP := Lib.hid (Pairs.of_own hr rfl); replace hX := on hX hb; clear hr)
    | (go_at_call 11; refine (C1.out _).mono ?_; rintro e w2 ⟨rfl, hb⟩; replace hX := on hX hb; replace hP := Lib.hid (hP.out.below hb))
    | (go_at_call 8; refine (C2.out _ _ _ _ _ (hP.out.below ((Below.refl _ _).alloc (Nat.le_refl _) _)) (lit_pairs _)).mono ?_; rintro e w3 ⟨rfl, hb⟩))
  go_ret
  exact ⟨rfl, on (hX.alloc hX.size _) hb⟩
end Go.Proofs.Ytijjpnppedhfnaa
