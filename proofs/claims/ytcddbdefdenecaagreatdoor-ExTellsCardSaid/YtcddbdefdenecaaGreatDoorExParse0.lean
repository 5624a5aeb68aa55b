/-
  Package ex's Parse.
-/
import Derived.Test.YtcddbdefdenecaaGreatDoorExSwapOk
import Derived.Test.YtcddbdefdenecaaGreatDoorExAddr
import Derived.Test.YtcddbdefdenecaaGreatDoorLineCount
import Derived.Test.YtcddbdefdenecaaGreatDoorUtfValid
import Derived.Deep.Cut
namespace Go.Proofs.YtcddbdefdenecaaGreatDoor
open Go.RowKit Go.Shelf
open Ex (Ln)
namespace Ex
theorem lns_feeds (a i : Nat) (t : List UInt8) : (Line.lns a i t).length = t.count 10 + 1 := by
  induction t generalizing a i with
  | nil => rfl
  | cons b t ih =>
    unfold Line.lns
    by_cases hb : b = 10
    · rw [if_pos hb, List.length_cons, ih, hb, List.count_cons_self]
    · rw [if_neg hb, ih, List.count_cons_of_ne hb]
theorem lines_more {s : List UInt8} (h : Utf.valid s = true) : 1 < (Line.L s).length ↔ 10 ∈ s := by
  rw [Line.L_ok h]
  unfold Line.lines
  rw [lns_feeds, ← List.count_pos_iff]
  omega
theorem verb_len (s : List UInt8) : (verb s).1.length ≤ s.length ∧ (verb s).2.length ≤ s.length := by
  have h := take_drop_verb s
  have : (verb s).1.length + (verb s).2.length = s.length := by rw [← List.length_append, h]
  omega
theorem front_len {s t : List UInt8} {a b : Int} (h : front s = some (a, b, t)) : t.length ≤ s.length := by
  rcases front_told h with h | ⟨r, h, _, h2, _⟩
  · rw [h, List.length_append]; omega
  · rw [h, ← h2, List.length_append]; omega
theorem Kd.as_perhaps {w : World} {v : Value} {k : Nat} (hk : k = 1 ∨ k = 3) (h : Kd w v k) : ∃ c1, v = .func (.func 76) #[] #[.pointer (some ⟨c1, 0, none⟩)] := by
  rcases hk with rfl | rfl <;> (obtain ⟨a, u, e, _⟩ := h; exact ⟨_, e⟩)
theorem Kd.as_behind {w : World} {v : Value} {k : Nat} (hk : k = 2 ∨ k = 4) (h : Kd w v k) : ∃ c1 c2, v = .func (.func 75) #[] #[.pointer (some ⟨c1, 0, none⟩), .pointer (some ⟨c2, 0, none⟩)] := by
  rcases hk with rfl | rfl <;> (obtain ⟨a, b, e, _⟩ := h; exact ⟨_, _, e⟩)
theorem Kd.as_nothing {w : World} {v : Value} {k : Nat} (hk : k = 0) (h : Kd w v k) : v = .func (.func 63) #[] #[] := by subst hk; exact h
theorem Kd.as_swap {w : World} {v : Value} {k : Nat} (hk : k = 5) (h : Kd w v k) : v = .func (.func 65) #[] #[] := by subst hk; exact h
end Ex
theorem ex_reading_nothing {s : ByteArray} {l : Ln} {p k : Nat} {w : World} (hk : k = 0) (hp : Blk w p 24 l.cells) :
    Calls Tryz.prog 63 #[.string s, .pointer (some ⟨p, 0, none⟩)] w (Ex.ReadIs p (Ex.rest l k s.data.toList) w) := by
  subst hk; exact ex_nothing hp
theorem ex_reading_swap {s : ByteArray} {l : Ln} {p k : Nat} {w : World} (hk : k = 5) (hs : s.size ≤ 1000000000) (hp : Blk w p 24 l.cells) :
    Calls Tryz.prog 65 #[.string s, .pointer (some ⟨p, 0, none⟩)] w (Ex.ReadIs p (Ex.rest l k s.data.toList) w) := by
  subst hk; exact ex_swap hs hp
theorem ex_reading_behind {s : ByteArray} {l : Ln} {p k c1 c2 : Nat} {w : World} (hk : k = 2 ∨ k = 4) (hs : s.size ≤ 1000000000) (hp : Blk w p 24 l.cells) (hv : Ex.Kd w (.func (.func 75) #[] #[.pointer (some ⟨c1, 0, none⟩), .pointer (some ⟨c2, 0, none⟩)]) k) :
    Calls Tryz.prog 75 #[.string s, .pointer (some ⟨p, 0, none⟩), .pointer (some ⟨c1, 0, none⟩), .pointer (some ⟨c2, 0, none⟩)] w (Ex.ReadIs p (Ex.rest l k s.data.toList) w) := by
  rcases hk with rfl | rfl
  · obtain ⟨a, b, e, C⟩ := ex_read_name (Nat.le_trans hs (by decide)) hp hv; cases e; exact C
  · obtain ⟨a, b, e, C⟩ := ex_read_number (Nat.le_trans hs (by decide)) hp hv; cases e; exact C
theorem ex_reading_perhaps {s : ByteArray} {l : Ln} {p k c1 : Nat} {w : World} (hk : k = 1 ∨ k = 3) (hs : s.size ≤ 1000000000) (hp : Blk w p 24 l.cells) (hv : Ex.Kd w (.func (.func 76) #[] #[.pointer (some ⟨c1, 0, none⟩)]) k) :
    Calls Tryz.prog 76 #[.string s, .pointer (some ⟨p, 0, none⟩), .pointer (some ⟨c1, 0, none⟩)] w (Ex.ReadIs p (Ex.rest l k s.data.toList) w) := by
  rcases hk with rfl | rfl
  · obtain ⟨a, e, C⟩ := ex_reads_name (Nat.le_trans hs (by decide)) hp hv; cases e; exact C
  · obtain ⟨a, e, C⟩ := ex_reads_number (Nat.le_trans hs (by decide)) hp hv; cases e; exact C
set_option maxHeartbeats 2000000 in
set_option maxRecDepth 100000 in
theorem ex_Parse_invalid (s : ByteArray) (hs : s.size ≤ 1000000000) (hv : Utf.valid s.data.toList = false) (w : World) :
    Calls Tryz.prog 6 #[.string s] w fun e w' => e = .returned (Ex.ansV (Ex.zero, 5)) ∧ Below w.heap.size w w' := by
  have V := Lib.hid (fun w => utf_Valid s (by omega) w)
  rw [hv] at V
  clear hv
  go_enter Tryz.func6, Tryz.ntmps6
  go_wp2_with (first
    | (go_at_call 14; refine (V.out _).mono ?_; rintro e u ⟨rfl, rfl⟩))
  refine ret_seven1 rfl rfl (Blk.new _ _ _) rfl Tryz.underlying24 (by kernel_rfl) ?_
  exact ⟨rfl, (Below.refl _ _).alloc (Nat.le_refl _) _⟩
set_option maxHeartbeats 2000000 in
set_option maxRecDepth 100000 in
theorem ex_Parse_lines (s : ByteArray) (hs : s.size ≤ 1000000000) (hv : Utf.valid s.data.toList = true) (hf : 10 ∈ s.data.toList) (w : World) :
    Calls Tryz.prog 6 #[.string s] w fun e w' => e = .returned (Ex.ansV (Ex.zero, 5)) ∧ Below w.heap.size w w' := by
  have hl := (Ex.lines_more hv).2 hf
  have V := Lib.hid (fun w => utf_Valid s (by omega) w)
  have N := Lib.hid (fun w => line_Count s (by omega) w)
  rw [hv] at V
  generalize hn0 : (Line.L s.data.toList).length = n at *
  have g1 : decide ((1 : Int) < (n : Int)) = true := by rw [decide_eq_true_iff]; omega
  clear hv hf hn0
  have B0 := Blk.new w 24 #[.int .i64 0, .int .i64 0, .string ⟨#[]⟩, .string ⟨#[]⟩, .string ⟨#[]⟩, .string ⟨#[]⟩, .bool false]
  have W0 := (Below.refl w.heap.size w).alloc (Nat.le_refl _) (.cells #[.int .i64 0, .int .i64 0, .string ⟨#[]⟩, .string ⟨#[]⟩, .string ⟨#[]⟩, .string ⟨#[]⟩, .bool false] 24)
  go_enter Tryz.func6, Tryz.ntmps6
  go_wp2_with (first
    | (go_at_call 14; refine (V.out _).mono ?_; rintro e u ⟨rfl, rfl⟩)
    | (go_at_call 15; refine (N.out _).mono ?_; rintro e w1 ⟨rfl, hb1⟩; have B1 := B0.below hb1 (by rw [World.size_alloc]; omega); have W1 := W0.trans (hb1.mono W0.size); clear hb1 B0 W0; obtain ⟨⟨xu0, yu0⟩, ⟨xu1, yu1⟩, ⟨xu2, yu2⟩, ⟨xu3, yu3⟩, ⟨xu4, yu4⟩, ⟨xu5, yu5⟩, ⟨xu6, yu6⟩, BB⟩ := Ex.blk7 B1 (.int .i64 0) (.int .i64 0) (.string ⟨#[]⟩) (.string ⟨#[]⟩) (.string ⟨#[]⟩) (.string ⟨#[]⟩) (.bool false); have GGu := Ex.put7_gb (w1) (w.heap.size) (.int .i64 0) (.int .i64 0) (.string ⟨#[]⟩) (.string ⟨#[]⟩) (.string ⟨#[]⟩) (.string ⟨#[]⟩) (.bool false); unfold Ex.put7 at GGu BB; generalize hu1 : World.setCell (w1) ⟨w.heap.size, 0, none⟩ (.int .i64 0) = u1 at *; generalize hu2 : World.setCell u1 ⟨w.heap.size, 1, none⟩ (.int .i64 0) = u2 at *; generalize hu3 : World.setCell u2 ⟨w.heap.size, 2, none⟩ (.string ⟨#[]⟩) = u3 at *; generalize hu4 : World.setCell u3 ⟨w.heap.size, 3, none⟩ (.string ⟨#[]⟩) = u4 at *; generalize hu5 : World.setCell u4 ⟨w.heap.size, 4, none⟩ (.string ⟨#[]⟩) = u5 at *; generalize hu6 : World.setCell u5 ⟨w.heap.size, 5, none⟩ (.string ⟨#[]⟩) = u6 at *; generalize hu7 : World.setCell u6 ⟨w.heap.size, 6, none⟩ (.bool false) = u7 at *; replace BB := Lib.hid BB))
  refine ret_seven1 rfl rfl BB.out rfl Tryz.underlying24 (by kernel_rfl) ?_
  exact ⟨rfl, W1.grown GGu W1.size (fun j e => by injection e with e; omega)⟩
set_option maxHeartbeats 2000000 in
set_option maxRecDepth 100000 in
theorem ex_Parse_addr (s : ByteArray) (hs : s.size ≤ 1000000000) (hv : Utf.valid s.data.toList = true) (hf : ¬ 10 ∈ s.data.toList) (h : Ex.front s.data.toList = none) (w : World) :
    Calls Tryz.prog 6 #[.string s] w fun e w' => e = .returned (Ex.ansV (Ex.zero, 3)) ∧ Below w.heap.size w w' := by
  have hl : ¬ 1 < (Line.L s.data.toList).length := fun h => hf ((Ex.lines_more hv).1 h)
  have V := Lib.hid (fun w => utf_Valid s (by omega) w)
  have N := Lib.hid (fun w => line_Count s (by omega) w)
  rw [hv] at V
  generalize hn0 : (Line.L s.data.toList).length = n at *
  have g1 : decide ((1 : Int) < (n : Int)) = false := by rw [decide_eq_false_iff_not]; omega
  clear hl
  have A := Lib.hid (fun w => ex_addresses s (by omega) w)
  rw [h] at A
  unfold Ex.frontV at A
  simp only at A
  clear hv hf hn0 h
  have B0 := Blk.new w 24 #[.int .i64 0, .int .i64 0, .string ⟨#[]⟩, .string ⟨#[]⟩, .string ⟨#[]⟩, .string ⟨#[]⟩, .bool false]
  have W0 := (Below.refl w.heap.size w).alloc (Nat.le_refl _) (.cells #[.int .i64 0, .int .i64 0, .string ⟨#[]⟩, .string ⟨#[]⟩, .string ⟨#[]⟩, .string ⟨#[]⟩, .bool false] 24)
  go_enter Tryz.func6, Tryz.ntmps6
  go_upto_region 4 with (first
    | (go_at_call 14; refine (V.out _).mono ?_; rintro e u ⟨rfl, rfl⟩)
    | (go_at_call 15; refine (N.out _).mono ?_; rintro e w1 ⟨rfl, hb1⟩; have B1 := B0.below hb1 (by rw [World.size_alloc]; omega); have W1 := W0.trans (hb1.mono W0.size); clear hb1 B0 W0)
    | (go_at_call 16; refine (A.out _).mono ?_; rintro e w2 ⟨rfl, hb2⟩))
  have B2 := (B1.below hb2 B1.lt).alloc (.cells #[.int .i64 0, .int .i64 0, .string ⟨#[]⟩, .string ⟨#[]⟩, .string ⟨#[]⟩, .string ⟨#[]⟩, .bool false] 24)
  have L2 := Blk.new w2 24 #[.int .i64 0, .int .i64 0, .string ⟨#[]⟩, .string ⟨#[]⟩, .string ⟨#[]⟩, .string ⟨#[]⟩, .bool false]
  have hlb : w.heap.size < w2.heap.size := Nat.lt_of_lt_of_le B1.lt hb2.size
  have W2 := (W1.trans (hb2.mono W1.size)).alloc (Nat.le_trans W1.size hb2.size) (.cells #[.int .i64 0, .int .i64 0, .string ⟨#[]⟩, .string ⟨#[]⟩, .string ⟨#[]⟩, .string ⟨#[]⟩, .bool false] 24)
  clear hb2 B1 W1
  generalize hU2 : w2.alloc (.cells #[.int .i64 0, .int .i64 0, .string ⟨#[]⟩, .string ⟨#[]⟩, .string ⟨#[]⟩, .string ⟨#[]⟩, .bool false] 24) = U2 at *
  obtain ⟨⟨xu0, yu0⟩, ⟨xu1, yu1⟩, ⟨xu2, yu2⟩, ⟨xu3, yu3⟩, ⟨xu4, yu4⟩, ⟨xu5, yu5⟩, ⟨xu6, yu6⟩, BB⟩ := Ex.blk7 B2 (.int .i64 0) (.int .i64 0) (.string ⟨#[]⟩) (.string ⟨#[]⟩) (.string ⟨#[]⟩) (.string ⟨#[]⟩) (.bool false)
  have GGu := Ex.put7_gb (U2) (w.heap.size) (.int .i64 0) (.int .i64 0) (.string ⟨#[]⟩) (.string ⟨#[]⟩) (.string ⟨#[]⟩) (.string ⟨#[]⟩) (.bool false)
  unfold Ex.put7 at GGu BB
  generalize hu1 : World.setCell (U2) ⟨w.heap.size, 0, none⟩ (.int .i64 0) = u1 at *
  generalize hu2 : World.setCell u1 ⟨w.heap.size, 1, none⟩ (.int .i64 0) = u2 at *
  generalize hu3 : World.setCell u2 ⟨w.heap.size, 2, none⟩ (.string ⟨#[]⟩) = u3 at *
  generalize hu4 : World.setCell u3 ⟨w.heap.size, 3, none⟩ (.string ⟨#[]⟩) = u4 at *
  generalize hu5 : World.setCell u4 ⟨w.heap.size, 4, none⟩ (.string ⟨#[]⟩) = u5 at *
  generalize hu6 : World.setCell u5 ⟨w.heap.size, 5, none⟩ (.string ⟨#[]⟩) = u6 at *
  generalize hu7 : World.setCell u6 ⟨w.heap.size, 6, none⟩ (.bool false) = u7 at *
  replace BB := Lib.hid BB
  go_wp2
  refine ret_seven1 rfl rfl BB.out rfl Tryz.underlying24 (by kernel_rfl) ?_
  exact ⟨rfl, W2.grown GGu W2.size (fun j e => by injection e with e; omega)⟩
set_option maxHeartbeats 2000000 in
set_option maxRecDepth 100000 in
theorem ex_Parse_none (s : ByteArray) (hs : s.size ≤ 1000000000) (hv : Utf.valid s.data.toList = true) (hf : ¬ 10 ∈ s.data.toList) {a b : Int} {t : List UInt8} (h : Ex.front s.data.toList = some (a, b, t)) (hk : Ex.kind (Ex.verb t).1 = none) (w : World) :
    Calls Tryz.prog 6 #[.string s] w fun e w' => e = .returned (Ex.ansV (Ex.zero, 16)) ∧ Below w.heap.size w w' := by
  have hl : ¬ 1 < (Line.L s.data.toList).length := fun h => hf ((Ex.lines_more hv).1 h)
  have V := Lib.hid (fun w => utf_Valid s (by omega) w)
  have N := Lib.hid (fun w => line_Count s (by omega) w)
  rw [hv] at V
  generalize hn0 : (Line.L s.data.toList).length = n at *
  have g1 : decide ((1 : Int) < (n : Int)) = false := by rw [decide_eq_false_iff_not]; omega
  clear hl
  have A := Lib.hid (fun w => ex_addresses s (by omega) w)
  have ht := Ex.front_len h
  rw [data_len] at ht
  have C := Lib.hid (fun w => ex_cut (bs t) (by rw [bs_size]; omega) w)
  rw [bs_toList] at C
  rw [h] at A
  unfold Ex.frontV at A
  simp only at A
  generalize bs t = tt at *
  clear hv hf hn0 h ht
  have D := Lib.hid (fun w => ex_find_none (bs (Ex.verb t).1) hk w)
  clear hk
  generalize bs (Ex.verb t).1 = x at *
  generalize bs (Ex.verb t).2 = y at *
  have B0 := Blk.new w 24 #[.int .i64 0, .int .i64 0, .string ⟨#[]⟩, .string ⟨#[]⟩, .string ⟨#[]⟩, .string ⟨#[]⟩, .bool false]
  have W0 := (Below.refl w.heap.size w).alloc (Nat.le_refl _) (.cells #[.int .i64 0, .int .i64 0, .string ⟨#[]⟩, .string ⟨#[]⟩, .string ⟨#[]⟩, .string ⟨#[]⟩, .bool false] 24)
  go_enter Tryz.func6, Tryz.ntmps6
  go_upto_region 4 with (first
    | (go_at_call 14; refine (V.out _).mono ?_; rintro e u ⟨rfl, rfl⟩)
    | (go_at_call 15; refine (N.out _).mono ?_; rintro e w1 ⟨rfl, hb1⟩; have B1 := B0.below hb1 (by rw [World.size_alloc]; omega); have W1 := W0.trans (hb1.mono W0.size); clear hb1 B0 W0)
    | (go_at_call 16; refine (A.out _).mono ?_; rintro e w2 ⟨rfl, hb2⟩))
  have B2 := (B1.below hb2 B1.lt).alloc (.cells #[.int .i64 a, .int .i64 b, .string ⟨#[]⟩, .string ⟨#[]⟩, .string ⟨#[]⟩, .string ⟨#[]⟩, .bool false] 24)
  have L2 := Blk.new w2 24 #[.int .i64 a, .int .i64 b, .string ⟨#[]⟩, .string ⟨#[]⟩, .string ⟨#[]⟩, .string ⟨#[]⟩, .bool false]
  have hlb : w.heap.size < w2.heap.size := Nat.lt_of_lt_of_le B1.lt hb2.size
  have W2 := (W1.trans (hb2.mono W1.size)).alloc (Nat.le_trans W1.size hb2.size) (.cells #[.int .i64 a, .int .i64 b, .string ⟨#[]⟩, .string ⟨#[]⟩, .string ⟨#[]⟩, .string ⟨#[]⟩, .bool false] 24)
  clear hb2 B1 W1
  generalize hU2 : w2.alloc (.cells #[.int .i64 a, .int .i64 b, .string ⟨#[]⟩, .string ⟨#[]⟩, .string ⟨#[]⟩, .string ⟨#[]⟩, .bool false] 24) = U2 at *
  have BB2 := Lib.hid B2
  have LL2 := Lib.hid L2
  clear B2 L2
  go_upto_region 8 with (first
    | (go_at_call 17; refine (C.out _).mono ?_; rintro e w3 ⟨rfl, hb3⟩; have BB3 := Lib.hid (BB2.out.below hb3 BB2.out.lt); have LL3 := Lib.hid (LL2.out.below hb3 LL2.out.lt); have W3 := W2.trans (hb3.mono W2.size); clear hb3 BB2 LL2 W2)
    | (go_at_call 18; refine (D.out _).mono ?_; rintro e w4 ⟨rfl, hb4⟩))
  have B4 := (BB3.out.below hb4 BB3.out.lt).alloc (.cells #[.string ⟨#[]⟩, .bool false, .nilFunc] 48)
  have W4 := (W3.trans (hb4.mono W3.size)).alloc (Nat.le_trans W3.size hb4.size) (.cells #[.string ⟨#[]⟩, .bool false, .nilFunc] 48)
  generalize w4.alloc (.cells #[.string ⟨#[]⟩, .bool false, .nilFunc] 48) = U at *
  clear hb4 BB3 LL3 W3
  obtain ⟨⟨xu0, yu0⟩, ⟨xu1, yu1⟩, ⟨xu2, yu2⟩, ⟨xu3, yu3⟩, ⟨xu4, yu4⟩, ⟨xu5, yu5⟩, ⟨xu6, yu6⟩, BB⟩ := Ex.blk7 B4 (.int .i64 0) (.int .i64 0) (.string ⟨#[]⟩) (.string ⟨#[]⟩) (.string ⟨#[]⟩) (.string ⟨#[]⟩) (.bool false)
  have GGu := Ex.put7_gb (U) (w.heap.size) (.int .i64 0) (.int .i64 0) (.string ⟨#[]⟩) (.string ⟨#[]⟩) (.string ⟨#[]⟩) (.string ⟨#[]⟩) (.bool false)
  unfold Ex.put7 at GGu BB
  generalize hu1 : World.setCell (U) ⟨w.heap.size, 0, none⟩ (.int .i64 0) = u1 at *
  generalize hu2 : World.setCell u1 ⟨w.heap.size, 1, none⟩ (.int .i64 0) = u2 at *
  generalize hu3 : World.setCell u2 ⟨w.heap.size, 2, none⟩ (.string ⟨#[]⟩) = u3 at *
  generalize hu4 : World.setCell u3 ⟨w.heap.size, 3, none⟩ (.string ⟨#[]⟩) = u4 at *
  generalize hu5 : World.setCell u4 ⟨w.heap.size, 4, none⟩ (.string ⟨#[]⟩) = u5 at *
  generalize hu6 : World.setCell u5 ⟨w.heap.size, 5, none⟩ (.string ⟨#[]⟩) = u6 at *
  generalize hu7 : World.setCell u6 ⟨w.heap.size, 6, none⟩ (.bool false) = u7 at *
  replace BB := Lib.hid BB
  go_wp2
  refine ret_seven1 rfl rfl BB.out rfl Tryz.underlying24 (by kernel_rfl) ?_
  exact ⟨rfl, W4.grown GGu W4.size (fun j e => by injection e with e; omega)⟩
set_option maxHeartbeats 2000000 in
set_option maxRecDepth 100000 in
theorem ex_Parse_rest (s : ByteArray) (hs : s.size ≤ 1000000000) (hv : Utf.valid s.data.toList = true) (hf : ¬ 10 ∈ s.data.toList) {a b : Int} {t : List UInt8} (h : Ex.front s.data.toList = some (a, b, t)) {r : Bool} {k : Nat} (hk : Ex.kind (Ex.verb t).1 = some (r, k)) (hx : (Ex.verb t).1 = []) (hy : (Ex.verb t).2 ≠ []) (w : World) :
    Calls Tryz.prog 6 #[.string s] w fun e w' => e = .returned (Ex.ansV (Ex.zero, 16)) ∧ Below w.heap.size w w' := by
  have hl : ¬ 1 < (Line.L s.data.toList).length := fun h => hf ((Ex.lines_more hv).1 h)
  have V := Lib.hid (fun w => utf_Valid s (by omega) w)
  have N := Lib.hid (fun w => line_Count s (by omega) w)
  rw [hv] at V
  generalize hn0 : (Line.L s.data.toList).length = n at *
  have g1 : decide ((1 : Int) < (n : Int)) = false := by rw [decide_eq_false_iff_not]; omega
  clear hl
  have A := Lib.hid (fun w => ex_addresses s (by omega) w)
  have ht := Ex.front_len h
  rw [data_len] at ht
  have C := Lib.hid (fun w => ex_cut (bs t) (by rw [bs_size]; omega) w)
  rw [bs_toList] at C
  rw [h] at A
  unfold Ex.frontV at A
  simp only at A
  generalize bs t = tt at *
  clear hv hf hn0 h ht
  have D := Lib.hid (fun w => ex_find_some (bs (Ex.verb t).1) (r := r) (k := k) hk w)
  have gx : (bs (Ex.verb t).1).toList.isEmpty = true := by rw [bs_tl]; simpa using hx
  have gy : (bs (Ex.verb t).2).toList.isEmpty = false := by rw [bs_tl]; simpa using hy
  clear hk hx hy
  generalize bs (Ex.verb t).1 = x at *
  generalize bs (Ex.verb t).2 = y at *
  have B0 := Blk.new w 24 #[.int .i64 0, .int .i64 0, .string ⟨#[]⟩, .string ⟨#[]⟩, .string ⟨#[]⟩, .string ⟨#[]⟩, .bool false]
  have W0 := (Below.refl w.heap.size w).alloc (Nat.le_refl _) (.cells #[.int .i64 0, .int .i64 0, .string ⟨#[]⟩, .string ⟨#[]⟩, .string ⟨#[]⟩, .string ⟨#[]⟩, .bool false] 24)
  go_enter Tryz.func6, Tryz.ntmps6
  go_upto_region 4 with (first
    | (go_at_call 14; refine (V.out _).mono ?_; rintro e u ⟨rfl, rfl⟩)
    | (go_at_call 15; refine (N.out _).mono ?_; rintro e w1 ⟨rfl, hb1⟩; have B1 := B0.below hb1 (by rw [World.size_alloc]; omega); have W1 := W0.trans (hb1.mono W0.size); clear hb1 B0 W0)
    | (go_at_call 16; refine (A.out _).mono ?_; rintro e w2 ⟨rfl, hb2⟩))
  have B2 := (B1.below hb2 B1.lt).alloc (.cells #[.int .i64 a, .int .i64 b, .string ⟨#[]⟩, .string ⟨#[]⟩, .string ⟨#[]⟩, .string ⟨#[]⟩, .bool false] 24)
  have L2 := Blk.new w2 24 #[.int .i64 a, .int .i64 b, .string ⟨#[]⟩, .string ⟨#[]⟩, .string ⟨#[]⟩, .string ⟨#[]⟩, .bool false]
  have hlb : w.heap.size < w2.heap.size := Nat.lt_of_lt_of_le B1.lt hb2.size
  have W2 := (W1.trans (hb2.mono W1.size)).alloc (Nat.le_trans W1.size hb2.size) (.cells #[.int .i64 a, .int .i64 b, .string ⟨#[]⟩, .string ⟨#[]⟩, .string ⟨#[]⟩, .string ⟨#[]⟩, .bool false] 24)
  clear hb2 B1 W1
  generalize hU2 : w2.alloc (.cells #[.int .i64 a, .int .i64 b, .string ⟨#[]⟩, .string ⟨#[]⟩, .string ⟨#[]⟩, .string ⟨#[]⟩, .bool false] 24) = U2 at *
  have BB2 := Lib.hid B2
  have LL2 := Lib.hid L2
  clear B2 L2
  go_upto_region 8 with (first
    | (go_at_call 17; refine (C.out _).mono ?_; rintro e w3 ⟨rfl, hb3⟩; have BB3 := Lib.hid (BB2.out.below hb3 BB2.out.lt); have LL3 := Lib.hid (LL2.out.below hb3 LL2.out.lt); have W3 := W2.trans (hb3.mono W2.size); clear hb3 BB2 LL2 W2)
    | (go_at_call 18; refine (D.out _).mono ?_; rintro e w4 ⟨v, rfl, kv, hb4⟩; obtain ⟨vf, vc, rfl⟩ := kv.shape))
  have B4 := (BB3.out.below hb4 BB3.out.lt).alloc (.cells #[.string x, .bool r, .func (.func vf) #[] vc] 48)
  have L4 := (LL3.out.below hb4 LL3.out.lt).alloc (.cells #[.string x, .bool r, .func (.func vf) #[] vc] 48)
  have X4 := Blk.new w4 48 #[.string x, .bool r, .func (.func vf) #[] vc]
  have K4 := kv.on ((Below.refl w4.heap.size w4).alloc (Nat.le_refl _) (.cells #[.string x, .bool r, .func (.func vf) #[] vc] 48))
  have hxb : w2.heap.size < w4.heap.size := Nat.lt_of_lt_of_le LL3.out.lt hb4.size
  have W4 := (W3.trans (hb4.mono W3.size)).alloc (Nat.le_trans W3.size hb4.size) (.cells #[.string x, .bool r, .func (.func vf) #[] vc] 48)
  clear kv
  generalize hU : w4.alloc (.cells #[.string x, .bool r, .func (.func vf) #[] vc] 48) = U at *
  clear hb4 BB3 LL3 W3
  obtain ⟨⟨xu0, yu0⟩, ⟨xu1, yu1⟩, ⟨xu2, yu2⟩, ⟨xu3, yu3⟩, ⟨xu4, yu4⟩, ⟨xu5, yu5⟩, ⟨xu6, yu6⟩, BB⟩ := Ex.blk7 B4 (.int .i64 0) (.int .i64 0) (.string ⟨#[]⟩) (.string ⟨#[]⟩) (.string ⟨#[]⟩) (.string ⟨#[]⟩) (.bool false)
  have GGu := Ex.put7_gb (U) (w.heap.size) (.int .i64 0) (.int .i64 0) (.string ⟨#[]⟩) (.string ⟨#[]⟩) (.string ⟨#[]⟩) (.string ⟨#[]⟩) (.bool false)
  unfold Ex.put7 at GGu BB
  generalize hu1 : World.setCell (U) ⟨w.heap.size, 0, none⟩ (.int .i64 0) = u1 at *
  generalize hu2 : World.setCell u1 ⟨w.heap.size, 1, none⟩ (.int .i64 0) = u2 at *
  generalize hu3 : World.setCell u2 ⟨w.heap.size, 2, none⟩ (.string ⟨#[]⟩) = u3 at *
  generalize hu4 : World.setCell u3 ⟨w.heap.size, 3, none⟩ (.string ⟨#[]⟩) = u4 at *
  generalize hu5 : World.setCell u4 ⟨w.heap.size, 4, none⟩ (.string ⟨#[]⟩) = u5 at *
  generalize hu6 : World.setCell u5 ⟨w.heap.size, 5, none⟩ (.string ⟨#[]⟩) = u6 at *
  generalize hu7 : World.setCell u6 ⟨w.heap.size, 6, none⟩ (.bool false) = u7 at *
  replace BB := Lib.hid BB
  clear L4 X4 K4
  go_wp2
  refine ret_seven1 rfl rfl BB.out rfl Tryz.underlying24 (by kernel_rfl) ?_
  exact ⟨rfl, W4.grown GGu W4.size (fun j e => by injection e with e; omega)⟩
set_option maxHeartbeats 2000000 in
set_option maxRecDepth 100000 in
theorem ex_Parse_wide (s : ByteArray) (hs : s.size ≤ 1000000000) (hv : Utf.valid s.data.toList = true) (hf : ¬ 10 ∈ s.data.toList) {a b : Int} {t : List UInt8} (h : Ex.front s.data.toList = some (a, b, t)) {k : Nat} (hk : Ex.kind (Ex.verb t).1 = some (false, k)) (hx : (Ex.verb t).1 ≠ []) (ha : a ≠ 0) (w : World) :
    Calls Tryz.prog 6 #[.string s] w fun e w' => e = .returned (Ex.ansV (Ex.zero, 3)) ∧ Below w.heap.size w w' := by
  have hl : ¬ 1 < (Line.L s.data.toList).length := fun h => hf ((Ex.lines_more hv).1 h)
  have V := Lib.hid (fun w => utf_Valid s (by omega) w)
  have N := Lib.hid (fun w => line_Count s (by omega) w)
  rw [hv] at V
  generalize hn0 : (Line.L s.data.toList).length = n at *
  have g1 : decide ((1 : Int) < (n : Int)) = false := by rw [decide_eq_false_iff_not]; omega
  clear hl
  have A := Lib.hid (fun w => ex_addresses s (by omega) w)
  have ht := Ex.front_len h
  rw [data_len] at ht
  have C := Lib.hid (fun w => ex_cut (bs t) (by rw [bs_size]; omega) w)
  rw [bs_toList] at C
  rw [h] at A
  unfold Ex.frontV at A
  simp only at A
  generalize bs t = tt at *
  clear hv hf hn0 h ht
  have D := Lib.hid (fun w => ex_find_some (bs (Ex.verb t).1) (r := false) (k := k) hk w)
  have gx : (bs (Ex.verb t).1).toList.isEmpty = false := by rw [bs_tl]; simpa using hx
  have ga : (a != 0) = true := by rw [bne_iff_ne]; exact ha
  clear hk hx ha
  generalize bs (Ex.verb t).1 = x at *
  generalize bs (Ex.verb t).2 = y at *
  have B0 := Blk.new w 24 #[.int .i64 0, .int .i64 0, .string ⟨#[]⟩, .string ⟨#[]⟩, .string ⟨#[]⟩, .string ⟨#[]⟩, .bool false]
  have W0 := (Below.refl w.heap.size w).alloc (Nat.le_refl _) (.cells #[.int .i64 0, .int .i64 0, .string ⟨#[]⟩, .string ⟨#[]⟩, .string ⟨#[]⟩, .string ⟨#[]⟩, .bool false] 24)
  go_enter Tryz.func6, Tryz.ntmps6
  go_upto_region 4 with (first
    | (go_at_call 14; refine (V.out _).mono ?_; rintro e u ⟨rfl, rfl⟩)
    | (go_at_call 15; refine (N.out _).mono ?_; rintro e w1 ⟨rfl, hb1⟩; have B1 := B0.below hb1 (by rw [World.size_alloc]; omega); have W1 := W0.trans (hb1.mono W0.size); clear hb1 B0 W0)
    | (go_at_call 16; refine (A.out _).mono ?_; rintro e w2 ⟨rfl, hb2⟩))
  have B2 := (B1.below hb2 B1.lt).alloc (.cells #[.int .i64 a, .int .i64 b, .string ⟨#[]⟩, .string ⟨#[]⟩, .string ⟨#[]⟩, .string ⟨#[]⟩, .bool false] 24)
  have L2 := Blk.new w2 24 #[.int .i64 a, .int .i64 b, .string ⟨#[]⟩, .string ⟨#[]⟩, .string ⟨#[]⟩, .string ⟨#[]⟩, .bool false]
  have hlb : w.heap.size < w2.heap.size := Nat.lt_of_lt_of_le B1.lt hb2.size
  have W2 := (W1.trans (hb2.mono W1.size)).alloc (Nat.le_trans W1.size hb2.size) (.cells #[.int .i64 a, .int .i64 b, .string ⟨#[]⟩, .string ⟨#[]⟩, .string ⟨#[]⟩, .string ⟨#[]⟩, .bool false] 24)
  clear hb2 B1 W1
  generalize hU2 : w2.alloc (.cells #[.int .i64 a, .int .i64 b, .string ⟨#[]⟩, .string ⟨#[]⟩, .string ⟨#[]⟩, .string ⟨#[]⟩, .bool false] 24) = U2 at *
  have BB2 := Lib.hid B2
  have LL2 := Lib.hid L2
  clear B2 L2
  go_upto_region 8 with (first
    | (go_at_call 17; refine (C.out _).mono ?_; rintro e w3 ⟨rfl, hb3⟩; have BB3 := Lib.hid (BB2.out.below hb3 BB2.out.lt); have LL3 := Lib.hid (LL2.out.below hb3 LL2.out.lt); have W3 := W2.trans (hb3.mono W2.size); clear hb3 BB2 LL2 W2)
    | (go_at_call 18; refine (D.out _).mono ?_; rintro e w4 ⟨v, rfl, kv, hb4⟩; obtain ⟨vf, vc, rfl⟩ := kv.shape))
  have B4 := (BB3.out.below hb4 BB3.out.lt).alloc (.cells #[.string x, .bool false, .func (.func vf) #[] vc] 48)
  have L4 := (LL3.out.below hb4 LL3.out.lt).alloc (.cells #[.string x, .bool false, .func (.func vf) #[] vc] 48)
  have X4 := Blk.new w4 48 #[.string x, .bool false, .func (.func vf) #[] vc]
  have K4 := kv.on ((Below.refl w4.heap.size w4).alloc (Nat.le_refl _) (.cells #[.string x, .bool false, .func (.func vf) #[] vc] 48))
  have hxb : w2.heap.size < w4.heap.size := Nat.lt_of_lt_of_le LL3.out.lt hb4.size
  have W4 := (W3.trans (hb4.mono W3.size)).alloc (Nat.le_trans W3.size hb4.size) (.cells #[.string x, .bool false, .func (.func vf) #[] vc] 48)
  clear kv
  generalize hU : w4.alloc (.cells #[.string x, .bool false, .func (.func vf) #[] vc] 48) = U at *
  clear hb4 BB3 LL3 W3
  have l0 := L4.cell 0
  have x1 := X4.cell 1
  simp only [List.getElem?_toArray, List.getElem?_cons_zero, List.getElem?_cons_succ] at l0 x1
  obtain ⟨⟨xu0, yu0⟩, ⟨xu1, yu1⟩, ⟨xu2, yu2⟩, ⟨xu3, yu3⟩, ⟨xu4, yu4⟩, ⟨xu5, yu5⟩, ⟨xu6, yu6⟩, BB⟩ := Ex.blk7 B4 (.int .i64 0) (.int .i64 0) (.string ⟨#[]⟩) (.string ⟨#[]⟩) (.string ⟨#[]⟩) (.string ⟨#[]⟩) (.bool false)
  have GGu := Ex.put7_gb (U) (w.heap.size) (.int .i64 0) (.int .i64 0) (.string ⟨#[]⟩) (.string ⟨#[]⟩) (.string ⟨#[]⟩) (.string ⟨#[]⟩) (.bool false)
  unfold Ex.put7 at GGu BB
  generalize hu1 : World.setCell (U) ⟨w.heap.size, 0, none⟩ (.int .i64 0) = u1 at *
  generalize hu2 : World.setCell u1 ⟨w.heap.size, 1, none⟩ (.int .i64 0) = u2 at *
  generalize hu3 : World.setCell u2 ⟨w.heap.size, 2, none⟩ (.string ⟨#[]⟩) = u3 at *
  generalize hu4 : World.setCell u3 ⟨w.heap.size, 3, none⟩ (.string ⟨#[]⟩) = u4 at *
  generalize hu5 : World.setCell u4 ⟨w.heap.size, 4, none⟩ (.string ⟨#[]⟩) = u5 at *
  generalize hu6 : World.setCell u5 ⟨w.heap.size, 5, none⟩ (.string ⟨#[]⟩) = u6 at *
  generalize hu7 : World.setCell u6 ⟨w.heap.size, 6, none⟩ (.bool false) = u7 at *
  replace BB := Lib.hid BB
  clear L4 X4 K4
  go_wp2
  refine ret_seven1 rfl rfl BB.out rfl Tryz.underlying24 (by kernel_rfl) ?_
  exact ⟨rfl, W4.grown GGu W4.size (fun j e => by injection e with e; omega)⟩
end Go.Proofs.YtcddbdefdenecaaGreatDoor
