/-
  A row that is looked through for a rune, as the program holds it: the nearest one behind a place, and ahead of it.
-/
import Derived.Test.YtkhihmkpmlokiaaSeekWays
import Derived.Test.YtkhihmkpmlokiaaShelf
import Derived.Deep.RegionHeld3
namespace Go.Proofs.Ytkhihmkpmlokiaa
open Go.RowKit
namespace Seek
open Utf (dec off one place rune next prev)
open Line (seg)
/-- Where the bytes of a rune stand in a part of a text. -/
theorem occ_iff {s r : List UInt8} {rs : List (List UInt8)} (hd : dec s = some rs) (h1 : one r = true) (a b y : Nat) : Lib.occAt (seg s a b) r y = true ↔ a + y + r.length ≤ b ∧ rune s ((a + y : Nat) : Int) = r := by
  have hpos := Utf.one_pos h1
  rw [Lib.occAt, List.isPrefixOf_iff_prefix, seg, List.drop_drop, List.drop_take, List.prefix_take_iff, pre_iff hd h1, rune_iff hd (Utf.one_ne h1)]
  constructor
  · rintro ⟨⟨i, hi, he⟩, hl⟩
    exact ⟨by omega, i, hi, by omega⟩
  · rintro ⟨hl, i, hi, he⟩
    exact ⟨⟨i, hi, by omega⟩, by omega⟩
theorem rune_room {s r : List UInt8} {rs : List (List UInt8)} (hd : dec s = some rs) (h1 : one r = true) {n j : Nat} (hn : rune s (n : Int) = r) (hj : n < off rs j) : n + r.length ≤ off rs j := by
  obtain ⟨u, hu, he⟩ := (rune_iff hd (Utf.one_ne h1) _).1 hn
  have h2 := Utf.off_next hu
  have h3 : u < j := off_lt_iff (rs := rs) (by omega)
  have := Utf.off_mono (rs := rs) (i := u + 1) (j := j) h3
  omega
theorem behind_at {s r : List UInt8} {rs : List (List UInt8)} (hd : dec s = some rs) (h1 : one r = true) {a b q j : Nat} (ha : a ≤ q) (hq : q ≤ b) (hb : b ≤ s.length) (hj : off rs j = b) :
    nth true (hits s r a b) q 1 = if Lib.index (seg s (min (q + 1) b) b) r < 0 then -1 else ((min (q + 1) b : Nat) : Int) + Lib.index (seg s (min (q + 1) b) b) r := by
  have hpos := Utf.one_pos h1
  have hlen : (seg s (min (q + 1) b) b).length = b - min (q + 1) b := by rw [seg, List.length_drop, List.length_take]; omega
  rcases Lib.index_spec (seg s (min (q + 1) b) b) r with ⟨e, hn⟩ | ⟨i, e, hi, ho, hno⟩
  · rw [e, if_pos (by decide)]
    refine nth_no _ (fun x hx => ⟨fun _ hlt => ?_, by simp⟩) 1
    obtain ⟨n, rfl, g1, g2, g3⟩ := mem_hits.1 hx
    have hr := rune_room hd h1 (j := j) g3 (by omega)
    have := hn (n - min (q + 1) b) (by omega)
    rw [(occ_iff hd h1 (min (q + 1) b) b _).2 ⟨by omega, by rw [show min (q + 1) b + (n - min (q + 1) b) = n by omega]; exact g3⟩] at this
    cases this
  · rw [e, if_neg (by omega)]
    obtain ⟨g1, g2⟩ := (occ_iff hd h1 _ _ _).1 ho
    have hx : ((min (q + 1) b + i : Nat) : Int) ∈ hits s r a b := mem_hits.2 ⟨_, rfl, by omega, by omega, g2⟩
    rw [← Int.natCast_add]
    refine nth_one (hits_up s r a b) q (side_mem hx (by simp; omega)) fun x hx => ⟨fun _ hlt => ?_, by simp⟩
    obtain ⟨n, rfl, k1, k2, k3⟩ := mem_hits.1 hx
    have hr := rune_room hd h1 (j := j) k3 (by omega)
    have := hno (n - min (q + 1) b) (by omega)
    rw [(occ_iff hd h1 (min (q + 1) b) b _).2 ⟨by omega, by rw [show min (q + 1) b + (n - min (q + 1) b) = n by omega]; exact k3⟩] at this
    cases this
theorem ahead_at {s r : List UInt8} {rs : List (List UInt8)} (hd : dec s = some rs) (h1 : one r = true) {a b q m : Nat} (ha : a ≤ q) (hq : q ≤ b) (hb : b ≤ s.length) (hm : off rs m = q) :
    nth false (hits s r a b) q 1 = if Lib.lastIndex (seg s a q) r < 0 then -1 else (a : Int) + Lib.lastIndex (seg s a q) r := by
  have hpos := Utf.one_pos h1
  have hlen : (seg s a q).length = q - a := by rw [seg, List.length_drop, List.length_take]; omega
  have key : ∀ n : Nat, a ≤ n → n < q → rune s (n : Int) = r → n + r.length ≤ q ∧ Lib.occAt (seg s a q) r (n - a) = true := fun n k1 k2 k3 => by
    have hr := rune_room hd h1 (j := m) k3 (by omega)
    exact ⟨by omega, (occ_iff hd h1 a q _).2 ⟨by omega, by rw [show a + (n - a) = n by omega]; exact k3⟩⟩
  unfold Lib.lastIndex
  by_cases hl : r.length ≤ (seg s a q).length
  · rw [if_pos hl]
    rcases Lib.lastOcc_spec (seg s a q) r ((seg s a q).length - r.length + 1) with ⟨e, hn⟩ | ⟨i, hi, e, ho, hno⟩
    · rw [e, if_pos (by decide)]
      refine nth_no _ (fun x hx => ⟨by simp, fun _ hlt => ?_⟩) 1
      obtain ⟨n, rfl, g1, g2, g3⟩ := mem_hits.1 hx
      obtain ⟨k1, k2⟩ := key n g1 (by omega) g3
      have := hn (n - a) (by omega)
      rw [k2] at this
      cases this
    · rw [e, if_neg (by omega)]
      obtain ⟨g1, g2⟩ := (occ_iff hd h1 _ _ _).1 ho
      have hx : ((a + i : Nat) : Int) ∈ hits s r a b := mem_hits.2 ⟨_, rfl, by omega, by omega, g2⟩
      rw [← Int.natCast_add]
      refine nth_one (hits_up s r a b) q (side_mem hx (by simp; omega)) fun x hx => ⟨by simp, fun _ hlt => ?_⟩
      obtain ⟨n, rfl, k1, k2, k3⟩ := mem_hits.1 hx
      obtain ⟨j1, j2⟩ := key n k1 (by omega) k3
      have := hno (n - a) (by omega) (by omega)
      rw [j2] at this
      cases this
  · rw [if_neg hl, if_pos (by decide)]
    refine nth_no _ (fun x hx => ⟨by simp, fun _ hlt => ?_⟩) 1
    obtain ⟨n, rfl, g1, g2, g3⟩ := mem_hits.1 hx
    obtain ⟨k1, _⟩ := key n g1 (by omega) g3
    omega
end Seek
/-- The library's variable that says how long a text it looks for at once holds some number. -/
def MaxAt (w : World) : Prop := ∃ m, w.cell? ⟨0, 0, none⟩ = some (.int .i64 m)
theorem MaxAt.lt {w : World} (h : MaxAt w) : 0 < w.heap.size := by
  obtain ⟨m, h⟩ := h
  rcases Nat.lt_or_ge 0 w.heap.size with hlt | hge
  · exact hlt
  · simp only [World.cell?] at h
    rw [Array.getElem?_eq_none hge] at h
    cases h
theorem MaxAt.below {w w' : World} (h : MaxAt w) (hb : Below w.heap.size w w') : MaxAt w' := by
  obtain ⟨m, hm⟩ := h
  exact ⟨m, (hb.cell (p := ⟨0, 0, none⟩) (MaxAt.lt ⟨m, hm⟩)).trans hm⟩
theorem seek_wrap {x : Int} (h1 : -9223372036854775808 ≤ x) (h2 : x ≤ 9223372036854775807) : IntKind.i64.wrap x = x := by rw [IntKind.wrap_i64]; omega
theorem seek_below {w u v : World} (h : Below w.heap.size w u) (g : Below u.heap.size u v) : Below w.heap.size w v := h.trans (g.mono h.size)
theorem below_ond2 {w u : World} (h : Below w.heap.size w u) (n : Nat) : Below w.heap.size w (u.drewN n) := h.trans ((below_gb (gb_drewN u n none)).mono h.size)
/-- The row. -/
abbrev rowV (s r : ByteArray) (a b : Nat) : Value := .agg #[.string s, .int .i64 a, .int .i64 b, .string r]
abbrev rowO (s r : ByteArray) (a b : Nat) : Obj := .cells #[.string s, .int .i64 a, .int .i64 b, .string r] 34
theorem row_new (w : World) (s r : ByteArray) (a b : Nat) : Below w.heap.size w (w.alloc (rowO s r a b)) := (Below.refl _ w).alloc (Nat.le_refl _) _
theorem row_cells (w : World) (s r : ByteArray) (a b : Nat) : (w.alloc (rowO s r a b)).cell? ⟨w.heap.size, 0, none⟩ = some (.string s) ∧ (w.alloc (rowO s r a b)).cell? ⟨w.heap.size, 1, none⟩ = some (.int .i64 a) ∧ (w.alloc (rowO s r a b)).cell? ⟨w.heap.size, 2, none⟩ = some (.int .i64 b) ∧ (w.alloc (rowO s r a b)).cell? ⟨w.heap.size, 3, none⟩ = some (.string r) := by
  have b0 := Blk.new w 34 #[.string s, .int .i64 a, .int .i64 b, .string r]
  exact ⟨b0.cell 0, b0.cell 1, b0.cell 2, b0.cell 3⟩
set_option maxHeartbeats 1000000 in
set_option maxRecDepth 100000 in
theorem seek_behind (s r : ByteArray) {rs : List (List UInt8)} (hd : Utf.dec s.data.toList = some rs) (h1 : Utf.one r.data.toList = true) {a b q j : Nat} (ha : a ≤ q) (hq : q ≤ b) (hb : b ≤ s.size) (hs : s.size < 4294967281) (hj : Utf.off rs j = b) (w : World) (hm : MaxAt w) :
    Calls Try.prog 39 #[rowV s r a b, .int .i64 q] w fun e w' => e = .returned (.int .i64 (Seek.nth true (Seek.hits s.data.toList r.data.toList a b) q 1)) ∧ Below w.heap.size w w' := by
  obtain ⟨c0, c1, c2, c3⟩ := row_cells w s r a b
  have h0 := row_new w s r a b
  obtain ⟨m, hm⟩ := hm.below h0
  have hl := data_len s
  have H := Lib.hid (Seek.behind_at hd h1 ha hq (by omega) hj)
  obtain ⟨x, hx⟩ : ∃ x, Lib.index (Line.seg s.data.toList (min (q + 1) b) b) r.data.toList = x := ⟨_, rfl⟩
  have hge := Lib.index_ge (Line.seg s.data.toList (min (q + 1) b) b) r.data.toList
  have hroom := Lib.index_room (Line.seg s.data.toList (min (q + 1) b) b) r.data.toList
  have hsl : (Line.seg s.data.toList (min (q + 1) b) b).length = b - min (q + 1) b := by rw [Line.seg, List.length_drop, List.length_take]; omega
  rw [hsl] at hroom
  rw [hx] at H hge hroom
  have hmin : min ((q : Int) + 1) (b : Int) = ((min (q + 1) b : Nat) : Int) := by omega
  have hw1 : IntKind.i64.wrap ((q : Int) + 1) = (q : Int) + 1 := seek_wrap (by omega) (by omega)
  have hfb : min (q + 1) b ≤ b := by omega
  generalize min (q + 1) b = f at *
  have C := Lib.hid (fun (w : World) (hm : w.cell? ⟨0, 0, none⟩ = some (.int .i64 m)) => by
    have := Try.strings_Index (s.extract f b) r m w (by rw [ext_seg, bs_size, hsl]; omega) hm
    rw [show (s.extract f b).data.toList = Line.seg s.data.toList f b by rw [ext_seg]; rfl, hx] at this
    exact this)
  have hwx : IntKind.i64.wrap ((f : Int) + x) = (f : Int) + x := seek_wrap (by omega) (by omega)
  have f1 : (f : Int) ≤ b := by omega
  have f2 : (b : Int) ≤ s.size := by omega
  have f3 : f ≤ b := hfb
  clear hd h1 hj hx hroom hsl hl
  by_cases hneg : x < 0
  · rw [if_pos hneg] at H
    generalize Seek.nth true (Seek.hits s.data.toList r.data.toList a b) q 1 = V at *
    go_enter Try.func39, Try.ntmps39
    go_wp2_with fail
    go_quiet ((go_at_call 49; exact (C.out _ (by exact hm)).mono fun e w1 h => ⟨h.1, _, h.2⟩))
    go_wp2
    go_ret
    exact ⟨by rw [H.out]; rfl, below_ond2 h0 _⟩
  · rw [if_neg hneg] at H
    generalize Seek.nth true (Seek.hits s.data.toList r.data.toList a b) q 1 = V at *
    go_enter Try.func39, Try.ntmps39
    go_wp2_with fail
    go_quiet ((go_at_call 49; exact (C.out _ (by exact hm)).mono fun e w1 h => ⟨h.1, _, h.2⟩))
    go_wp2
    go_ret
    exact ⟨by rw [H.out]; rfl, below_ond2 h0 _⟩
set_option maxHeartbeats 1000000 in
set_option maxRecDepth 100000 in
theorem seek_ahead (s r : ByteArray) {rs : List (List UInt8)} (hd : Utf.dec s.data.toList = some rs) (h1 : Utf.one r.data.toList = true) {a b q k : Nat} (ha : a ≤ q) (hq : q ≤ b) (hb : b ≤ s.size) (hs : s.size < 4294967281) (hk : Utf.off rs k = q) (w : World) :
    Calls Try.prog 40 #[rowV s r a b, .int .i64 q] w fun e w' => e = .returned (.int .i64 (Seek.nth false (Seek.hits s.data.toList r.data.toList a b) q 1)) ∧ Below w.heap.size w w' := by
  obtain ⟨c0, c1, c2, c3⟩ := row_cells w s r a b
  have h0 := row_new w s r a b
  have hl := data_len s
  have H := Lib.hid (Seek.ahead_at hd h1 ha hq (by omega) hk)
  obtain ⟨x, hx⟩ : ∃ x, Lib.lastIndex (Line.seg s.data.toList a q) r.data.toList = x := ⟨_, rfl⟩
  have hsl : (Line.seg s.data.toList a q).length = q - a := by rw [Line.seg, List.length_drop, List.length_take]; omega
  have hge : -1 ≤ x ∧ x ≤ q - a + 1 := by
    rw [← hx, Lib.lastIndex]
    split
    · rcases Lib.lastOcc_spec (Line.seg s.data.toList a q) r.data.toList ((Line.seg s.data.toList a q).length - r.data.toList.length + 1) with ⟨e, _⟩ | ⟨i, hi, e, _⟩
      · rw [e]; omega
      · rw [e]; omega
    · omega
  rw [hx] at H
  have C := Lib.hid (fun (w : World) => by
    have := Try.strings_LastIndex (s.extract a q) r (by rw [ext_seg, bs_size, hsl]; omega) w
    rw [show (s.extract a q).data.toList = Line.seg s.data.toList a q by rw [ext_seg]; rfl, hx] at this
    exact this)
  have hwx : IntKind.i64.wrap ((a : Int) + x) = (a : Int) + x := seek_wrap (by omega) (by omega)
  have f1 : (a : Int) ≤ q := by omega
  have f2 : (q : Int) ≤ s.size := by omega
  clear hd h1 hk hx hsl hl
  by_cases hneg : x < 0
  · rw [if_pos hneg] at H
    generalize Seek.nth false (Seek.hits s.data.toList r.data.toList a b) q 1 = V at *
    go_enter Try.func40, Try.ntmps40
    go_wp2_with fail
    go_quiet ((go_at_call 50; exact (C.out _).mono fun e w1 h => ⟨h.1, _, h.2⟩))
    go_wp2
    go_ret
    exact ⟨by rw [H.out]; rfl, below_ond2 h0 _⟩
  · rw [if_neg hneg] at H
    generalize Seek.nth false (Seek.hits s.data.toList r.data.toList a b) q 1 = V at *
    go_enter Try.func40, Try.ntmps40
    go_wp2_with fail
    go_quiet ((go_at_call 50; exact (C.out _).mono fun e w1 h => ⟨h.1, _, h.2⟩))
    go_wp2
    go_ret
    exact ⟨by rw [H.out]; rfl, below_ond2 h0 _⟩
end Go.Proofs.Ytkhihmkpmlokiaa
