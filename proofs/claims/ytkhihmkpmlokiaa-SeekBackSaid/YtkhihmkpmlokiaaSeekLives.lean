/-
  The document's example of a find; and an argument that is a find.
-/
import Derived.Test.YtkhihmkpmlokiaaSeekGo
import Derived.Test.YtkhihmkpmlokiaaFrame
import Derived.HandedShaped
namespace Go.Proofs.Ytkhihmkpmlokiaa
open Go.RowKit
namespace Seek
open Utf (dec off one place rune next prev)
open Line (L of_)
abbrev exT : List UInt8 := [97, 98, 99, 97, 98]
abbrev exR : List (List UInt8) := [[97], [98], [99], [97], [98]]
theorem ex_dec : dec exT = some exR := Utf.dec_of (rs := exR) (by intro r hr; simp at hr; rcases hr with rfl | rfl | rfl | rfl | rfl <;> decide)
theorem ex_L : L exT = [(0, 5)] := by rw [Line.L_ok (Utf.valid_ok ex_dec)]; decide
theorem ex_place : place exT 0 = true := Utf.place_at ex_dec (i := 0) (by decide)
theorem ex_of : of_ exT 0 = 0 := Line.of_at (k := 0) (p := 0) (x := (0, 5)) (by rw [ex_L]; rfl) (by decide) (by decide)
theorem ex_start : Line.start exT 0 = 0 := Line.start_some (k := 0) (x := (0, 5)) (by rw [show ((0 : Int)) = ((0 : Nat) : Int) from rfl, Line.line_nat, ex_L]; rfl)
theorem ex_stop : Line.stop exT 0 = 5 := Line.stop_some (k := 0) (x := (0, 5)) (by rw [show ((0 : Int)) = ((0 : Nat) : Int) from rfl, Line.line_nat, ex_L]; rfl)
theorem ex_hits : hits exT [98] 0 5 = [1, 4] := by
  have r0 : rune exT ((0 : Nat) : Int) = [97] := Utf.rune_at ex_dec (i := 0) rfl
  have r1 : rune exT ((1 : Nat) : Int) = [98] := Utf.rune_at ex_dec (i := 1) rfl
  have r2 : rune exT ((2 : Nat) : Int) = [99] := Utf.rune_at ex_dec (i := 2) rfl
  have r3 : rune exT ((3 : Nat) : Int) = [97] := Utf.rune_at ex_dec (i := 3) rfl
  have r4 : rune exT ((4 : Nat) : Int) = [98] := Utf.rune_at ex_dec (i := 4) rfl
  rw [hits, show List.range' 0 (5 - 0) = [0, 1, 2, 3, 4] from rfl]
  rw [List.filter_cons_of_neg (by rw [r0]; decide), List.filter_cons_of_pos (by rw [r1]; decide), List.filter_cons_of_neg (by rw [r2]; decide), List.filter_cons_of_neg (by rw [r3]; decide), List.filter_cons_of_pos (by rw [r4]; decide), List.filter_nil]
  rfl
theorem ex_lh : lh exT [98] 0 = [1, 4] := by
  rw [lh, ex_of, ex_start, ex_stop]
  exact ex_hits
theorem ex_f : goV exT 0 102 [98] 2 = 4 := by
  rw [goV_at 2 (by decide) ex_place, ex_lh]
  decide
theorem ex_t : goV exT 0 116 [98] 2 = 3 := by
  rw [goV_at 2 (by decide) ex_place, ex_lh]
  exact Utf.prev_at ex_dec (i := 3) (by decide)
end Seek
set_option maxHeartbeats 1000000 in
set_option maxRecDepth 100000 in
theorem seek_lives (w : World) (hm : MaxAt w) : Calls Try.prog 7 #[] w fun e w' => e = .returned (.bool true) ∧ Below w.heap.size w w' := by
  have c0 := fun (w : World) (hm : MaxAt w) => seek_Go (⟨#[97, 98, 99, 97, 98]⟩ : ByteArray) 0 102 ⟨#[98]⟩ 2 (by decide) (by decide) (by decide) w hm
  have c1 := fun (w : World) (hm : MaxAt w) => seek_Go (⟨#[97, 98, 99, 97, 98]⟩ : ByteArray) 0 116 ⟨#[98]⟩ 2 (by decide) (by decide) (by decide) w hm
  rw [show (⟨#[97, 98, 99, 97, 98]⟩ : ByteArray).data.toList = Seek.exT from rfl, show (⟨#[98]⟩ : ByteArray).data.toList = [98] from rfl] at c0 c1
  rw [Seek.ex_f, show Seek.res 4 = .tuple #[.int .i64 4, .bool true] from rfl] at c0
  rw [Seek.ex_t, show Seek.res 3 = .tuple #[.int .i64 3, .bool true] from rfl] at c1
  have C0 := Lib.hid c0
  have C1 := Lib.hid c1
  have HM := Lib.hid hm
  clear c0 c1 hm
  go_enter Try.func7, Try.ntmps7
  go_wp2_with fail
  refine (C0.out _ HM.out).mono ?_
  rintro e w0 ⟨rfl, hb0⟩
  have HM1 := Lib.hid (HM.out.below hb0)
  go_wp2_with fail
  refine (C1.out _ HM1.out).mono ?_
  rintro e w1 ⟨rfl, hb1⟩
  replace hb1 := seek_below hb0 hb1
  go_wp2
  go_ret
  exact ⟨rfl, hb1⟩
section
open Go.ChangeShapes Go.WideShapes Go.ChangeAt
variable {H : Type} {enc : TypeId × Value → H} {W : World}
theorem cells_find : Try.prog.cellsOf 23 = 2 := by kernel_rfl
/-- A find's two cells. -/
theorem trod_find {b : Nat} {sp : Nat → Bool} {hd : Bool} {fuel : Nat} {cs : List Value} {x : DataW H × List MemPlace} (h : DataW.trod enc Try.prog W b sp hd fuel 23 cs = some x) :
    ∃ (n : Int) (s : ByteArray), cs = [.int .i64 n, .string s] ∧ (∃ y, x.1 = .agg [y, .lit (.string s.data.toList)]) ∧ (Lit.int .i64 n).wf = true := by
  obtain ⟨xs, n, _, rfl, hl, hlen, hf⟩ := DataW.trod_struct Try.underlying23 h
  rw [cells_find] at hl
  match cs, hl with
  | [c0, c1], _ =>
    match xs, hlen with
    | [x0, x1], _ =>
      have f0 := hf 0 _ rfl
      have f1 := hf 1 _ rfl
      have hi : Try.prog.cellsOf 3 = 1 := by kernel_rfl
      have hs : Try.prog.cellsOf 9 = 1 := by kernel_rfl
      simp only [List.getElem_toArray, List.getElem_cons_zero, List.getElem_cons_succ, hi, hs, List.drop_succ_cons, List.drop_zero, List.take_succ_cons, List.take_zero, List.getElem?_cons_zero, List.getElem?_cons_succ] at f0 f1
      obtain ⟨m, e0, _, hw⟩ := DataW.trod_int Try.underlying3 f0
      obtain ⟨s, e1, g1, _⟩ := DataW.trod_string Try.underlying9 f1
      simp at e0 e1
      subst e0 e1
      exact ⟨m, s, rfl, ⟨x0.1, by simp [g1]⟩, hw⟩
/-- An argument that is a find. -/
theorem open_find {base : Nat} {v : Value} {d : DataW H} {p : List MemPlace} (ho : Value.okWide Try.prog W .any base 23 v)
    (h : DataW.Trod enc Try.prog W 0 (fun _ => true) true 23 v d p) :
    ∃ (n : Int) (s : ByteArray), v = .agg #[.int .i64 n, .string s] ∧ (∃ y, d = .agg [y, .lit (.string s.data.toList)]) ∧ (Lit.int .i64 n).wf = true := by
  simp only [Value.okWide, Try.underlying23] at ho
  obtain ⟨cs, rfl, _, _⟩ := ho
  obtain ⟨fuel, hf⟩ := h
  obtain ⟨n, s, e, hd, hw⟩ := trod_find hf
  obtain ⟨L⟩ := cs
  simp only [Value.cells] at e
  subst e
  exact ⟨n, s, rfl, hd, hw⟩
theorem sized_find {ts : List TypeId} {ds : List (DataW H)} (h : (DataW.weightsEach Try.prog ts ds).all (· ≤ reachBytes) = true) {j : Nat} {y : DataW H} {u : List UInt8}
    (ht : ts[j]? = some 23) (hd : ds[j]? = some (.agg [y, .lit (.string u)])) : u.length ≤ reachBytes := by
  refine of_decide_eq_true (List.all_eq_true.1 h _ (DataW.weights_mem_each ht hd _ ?_))
  simp [DataW.weights, Try.underlying23, DataW.weightsEach]
end
end Go.Proofs.Ytkhihmkpmlokiaa
