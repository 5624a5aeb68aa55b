/-
  The document's example, as layer 22's statements ask for it.
-/
import Derived.Test.YtnelhhijihmpbaaSpanOf
import Derived.Test.YtnelhhijihmpbaaThingSame
namespace Go.Proofs.Ytnelhhijihmpbaa
open Go.RowKit
open Span (res rng)
namespace Span
def exT : List UInt8 := [97, 98, 10, 99, 100]
def exR : List (List UInt8) := [[97], [98], [10], [99], [100]]
theorem ex_dec : Utf.dec exT = some exR := Utf.dec_of (rs := exR) (by decide)
theorem ex_valid : Utf.valid exT = true := by rw [Utf.valid, ex_dec]; rfl
theorem ex_place0 : Utf.place exT 0 = true := Utf.place_at ex_dec (i := 0) (by decide)
theorem ex_place3 : Utf.place exT 3 = true := Utf.place_at ex_dec (i := 3) (by decide)
theorem ex_lines : Line.L exT = [(0, 2), (3, 5)] := by rw [Line.L_ok ex_valid]; rfl
theorem ex_short : rng exT 0 3 1 = some (0, 3, false) := by rw [rng_short ex_place0 ex_place3]; rfl
theorem ex_long : rng exT 3 0 2 = some (0, 4, false) := by
  rw [rng_long ex_place3 ex_place0, show max (3 : Int) 0 = 3 from rfl, show min (3 : Int) 0 = 0 from rfl, top_ends ex_place3, if_neg (by decide)]
  have := Utf.next_at ex_dec (i := 3) (by decide)
  rw [show Utf.next exT 3 = 4 from this]
theorem ex_whole : rng exT 0 3 3 = some (0, 5, true) := by
  have h0 : (Line.L exT)[0]? = some (0, 2) := by rw [ex_lines]; rfl
  have h1 : (Line.L exT)[1]? = some (3, 5) := by rw [ex_lines]; rfl
  rw [rng_whole ex_place0 ex_place3, show min (0 : Int) 3 = ((0 : Nat) : Int) from rfl, show max (0 : Int) 3 = ((3 : Nat) : Int) from rfl, Line.of_at h0 (Nat.le_refl _) (by decide), Line.of_at h1 (Nat.le_refl _) (by decide), Line.start_some (by rw [Line.line_nat, h0]), Line.stop_some (by rw [Line.line_nat, h1])]
  rfl
end Span
theorem span_on {w u v : World} (h : Below w.heap.size w u) (g : Below u.heap.size u v) : Below w.heap.size w v := h.trans (g.mono h.size)
set_option maxHeartbeats 1000000 in
set_option maxRecDepth 100000 in
theorem span_lives (w : World) : Calls Try.prog 6 #[] w fun e w' => e = .returned (.bool true) ∧ Below w.heap.size w w' := by
  have C0 : Hid (∀ w, Calls Try.prog 7 #[.string ⟨#[97, 98, 10, 99, 100]⟩, .int .i64 0, .int .i64 3, .int .i64 1] w fun e w' => e = .returned (.tuple #[.agg #[.int .i64 0, .int .i64 3, .bool false], .bool true]) ∧ Below w.heap.size w w') := Lib.hid (fun w => by
    have := span_Of ⟨#[97, 98, 10, 99, 100]⟩ 0 3 1 (by decide) w
    rw [show rng (⟨#[97, 98, 10, 99, 100]⟩ : ByteArray).data.toList 0 3 1 = some (0, 3, false) from Span.ex_short] at this
    exact this)
  have C1 : Hid (∀ w, Calls Try.prog 7 #[.string ⟨#[97, 98, 10, 99, 100]⟩, .int .i64 3, .int .i64 0, .int .i64 2] w fun e w' => e = .returned (.tuple #[.agg #[.int .i64 0, .int .i64 4, .bool false], .bool true]) ∧ Below w.heap.size w w') := Lib.hid (fun w => by
    have := span_Of ⟨#[97, 98, 10, 99, 100]⟩ 3 0 2 (by decide) w
    rw [show rng (⟨#[97, 98, 10, 99, 100]⟩ : ByteArray).data.toList 3 0 2 = some (0, 4, false) from Span.ex_long] at this
    exact this)
  have C2 : Hid (∀ w, Calls Try.prog 7 #[.string ⟨#[97, 98, 10, 99, 100]⟩, .int .i64 0, .int .i64 3, .int .i64 3] w fun e w' => e = .returned (.tuple #[.agg #[.int .i64 0, .int .i64 5, .bool true], .bool true]) ∧ Below w.heap.size w w') := Lib.hid (fun w => by
    have := span_Of ⟨#[97, 98, 10, 99, 100]⟩ 0 3 3 (by decide) w
    rw [show rng (⟨#[97, 98, 10, 99, 100]⟩ : ByteArray).data.toList 0 3 3 = some (0, 5, true) from Span.ex_whole] at this
    exact this)
  have hX := Below.refl w.heap.size w
  have ES := @eql_same
  go_enter Try.func6, Try.ntmps6
  go_wp2_with fail
  refine (C0.out _).mono ?_
  rintro e w1 ⟨rfl, hb1⟩
  have A1 := Blk.new w1 24 #[.int .i64 0, .int .i64 3, .bool false]
  have X1 := (span_on hX hb1).alloc (span_on hX hb1).size (.cells #[.int .i64 0, .int .i64 3, .bool false] 24)
  go_wp2_with fail
  refine (C1.out _).mono ?_
  rintro e w2 ⟨rfl, hb2⟩
  have A2 := A1.below hb2 A1.lt
  have B2 := Blk.new w2 24 #[.int .i64 0, .int .i64 4, .bool false]
  have X2 := (X1.trans (hb2.mono X1.size)).alloc (X1.trans (hb2.mono X1.size)).size (.cells #[.int .i64 0, .int .i64 4, .bool false] 24)
  replace A2 := A2.alloc (.cells #[.int .i64 0, .int .i64 4, .bool false] 24)
  clear A1 X1 hb1 hb2 hX
  go_wp2_with fail
  refine (C2.out _).mono ?_
  rintro e w3 ⟨rfl, hb3⟩
  have A3 := (A2.below hb3 A2.lt).alloc (.cells #[.int .i64 0, .int .i64 5, .bool true] 24)
  have B3 := (B2.below hb3 B2.lt).alloc (.cells #[.int .i64 0, .int .i64 5, .bool true] 24)
  have D3 := Blk.new w3 24 #[.int .i64 0, .int .i64 5, .bool true]
  have X3 := (X2.trans (hb3.mono X2.size)).alloc (X2.trans (hb3.mono X2.size)).size (.cells #[.int .i64 0, .int .i64 5, .bool true] 24)
  obtain ⟨a0, a1, a2, _, _, _⟩ := row_three A3
  obtain ⟨b0, b1, b2, _, _, _⟩ := row_three B3
  obtain ⟨d0, d1, d2, _, _, _⟩ := row_three D3
  clear A2 B2 X2 hb3 A3 B3 D3
  go_wp2_with fail
  go_ret
  exact ⟨rfl, X3⟩
end Go.Proofs.Ytnelhhijihmpbaa
