/-
  Package ex's Parse where a name or a number may stand behind the word.
-/
import Derived.Test.YtcddbdefdenecaaGreatDoorExParse0
namespace Go.Proofs.YtcddbdefdenecaaGreatDoor
open Go.RowKit Go.Shelf
open Ex (Ln)
set_option maxHeartbeats 2000000 in
set_option maxRecDepth 100000 in
theorem ex_Parse_fail_perhaps (s : ByteArray) (hs : s.size ≤ 1000000000) (hv : Utf.valid s.data.toList = true) (hf : ¬ 10 ∈ s.data.toList) {a b : Int} {t : List UInt8} (h : Ex.front s.data.toList = some (a, b, t)) {r : Bool} {k : Nat} (hk : Ex.kind (Ex.verb t).1 = some (r, k)) (hk2 : k = 1 ∨ k = 3) (hx : (Ex.verb t).1 ≠ []) {q : Bool} (ha : (a != 0) = q) (hq : (q && !r) = false) {z : Ln} {er : Int} (hm : Ex.rest ⟨a, b, (Ex.verb t).1, [], [], [], false⟩ k (Ex.verb t).2 = (z, er)) (her : er ≠ 0) (w : World) :
    Calls Tryz.prog 6 #[.string s] w fun e w' => e = .returned (Ex.ansV (Ex.zero, er)) ∧ Below w.heap.size w w' := by
  cases q <;> cases r
  · have hyl : (bs (Ex.verb t).2).size ≤ 1000000000 := by have := (Ex.verb_len t).2; have := Ex.front_len h; rw [data_len] at this; rw [bs_size]; omega
    have R : Hid (∀ (u : World) (p c1 : Nat), Blk u p 24 #[.int .i64 a, .int .i64 b, .string (bs (Ex.verb t).1), .string ⟨#[]⟩, .string ⟨#[]⟩, .string ⟨#[]⟩, .bool false] → Ex.Kd u (.func (.func 76) #[] #[.pointer (some ⟨c1, 0, none⟩)]) k → Calls Tryz.prog 76 #[.string (bs (Ex.verb t).2), .pointer (some ⟨p, 0, none⟩), .pointer (some ⟨c1, 0, none⟩)] u (Ex.ReadIs p (z, er) u)) := Lib.hid (fun u p c1 hp hv => by
      have := ex_reading_perhaps (s := bs (Ex.verb t).2) (l := ⟨a, b, (Ex.verb t).1, [], [], [], false⟩) (k := k) hk2 hyl hp hv
      rw [bs_toList, hm] at this
      exact this)
    have hl : ¬ 1 < (Line.L s.data.toList).length := fun h => hf ((Ex.lines_more hv).1 h)
    have V := Lib.hid (fun w => utf_Valid s (by omega) w)
    have N := Lib.hid (fun w => line_Count s (by omega) w)
    rw [hv] at V
    generalize hn0 : (Line.L s.data.toList).length = n at *
    have g1 : decide ((1 : Int) < (n : Int)) = false := by rw [decide_eq_false_iff_not]; omega
    clear hl
    have A := Lib.hid (fun w => ex_addresses s (by omega) w)
    have ht := Ex.front_len h
    rw [data_len] at ht
    have C := Lib.hid (fun w => ex_cut (bs t) (by rw [bs_size]; omega) w)
    rw [bs_toList] at C
    rw [h] at A
    unfold Ex.frontV at A
    simp only at A
    generalize bs t = tt at *
    clear hv hf hn0 h ht
    have D := Lib.hid (fun w => ex_find_some (bs (Ex.verb t).1) (r := false) (k := k) hk w)
    have HK := Lib.hid hk2
    have gx : (bs (Ex.verb t).1).toList.isEmpty = false := by rw [bs_tl]; simpa using hx
    have ge : (er != 0) = true := by rw [bne_iff_ne]; exact her
    clear hq hk hk2 hx hm hyl her
    generalize bs (Ex.verb t).1 = x at *
    generalize bs (Ex.verb t).2 = y at *
    have B0 := Blk.new w 24 #[.int .i64 0, .int .i64 0, .string ⟨#[]⟩, .string ⟨#[]⟩, .string ⟨#[]⟩, .string ⟨#[]⟩, .bool false]
    have W0 := (Below.refl w.heap.size w).alloc (Nat.le_refl _) (.cells #[.int .i64 0, .int .i64 0, .string ⟨#[]⟩, .string ⟨#[]⟩, .string ⟨#[]⟩, .string ⟨#[]⟩, .bool false] 24)
    go_enter Tryz.func6, Tryz.ntmps6
    go_upto_region 4 with (first
      | (go_at_call 14; refine (V.out _).mono ?_; rintro e u ⟨rfl, rfl⟩)
      | (go_at_call 15; refine (N.out _).mono ?_; rintro e w1 ⟨rfl, hb1⟩; have B1 := B0.below hb1 (by rw [World.size_alloc]; omega); have W1 := W0.trans (hb1.mono W0.size); clear hb1 B0 W0)
      | (go_at_call 16; refine (A.out _).mono ?_; rintro e w2 ⟨rfl, hb2⟩))
    have B2 := (B1.below hb2 B1.lt).alloc (.cells #[.int .i64 a, .int .i64 b, .string ⟨#[]⟩, .string ⟨#[]⟩, .string ⟨#[]⟩, .string ⟨#[]⟩, .bool false] 24)
    have L2 := Blk.new w2 24 #[.int .i64 a, .int .i64 b, .string ⟨#[]⟩, .string ⟨#[]⟩, .string ⟨#[]⟩, .string ⟨#[]⟩, .bool false]
    have hlb : w.heap.size < w2.heap.size := Nat.lt_of_lt_of_le B1.lt hb2.size
    have W2 := (W1.trans (hb2.mono W1.size)).alloc (Nat.le_trans W1.size hb2.size) (.cells #[.int .i64 a, .int .i64 b, .string ⟨#[]⟩, .string ⟨#[]⟩, .string ⟨#[]⟩, .string ⟨#[]⟩, .bool false] 24)
    clear hb2 B1 W1
    generalize hU2 : w2.alloc (.cells #[.int .i64 a, .int .i64 b, .string ⟨#[]⟩, .string ⟨#[]⟩, .string ⟨#[]⟩, .string ⟨#[]⟩, .bool false] 24) = U2 at *
    have BB2 := Lib.hid B2
    have LL2 := Lib.hid L2
    clear B2 L2
    go_upto_region 8 with (first
      | (go_at_call 17; refine (C.out _).mono ?_; rintro e w3 ⟨rfl, hb3⟩; have BB3 := Lib.hid (BB2.out.below hb3 BB2.out.lt); have LL3 := Lib.hid (LL2.out.below hb3 LL2.out.lt); have W3 := W2.trans (hb3.mono W2.size); clear hb3 BB2 LL2 W2)
      | (go_at_call 18; refine (D.out _).mono ?_; rintro e w4 ⟨v, rfl, kv, hb4⟩; obtain ⟨c1, rfl⟩ := Ex.Kd.as_perhaps HK.out kv))
    have B4 := (BB3.out.below hb4 BB3.out.lt).alloc (.cells #[.string x, .bool false, .func (.func 76) #[] #[.pointer (some ⟨c1, 0, none⟩)]] 48)
    have L4 := (LL3.out.below hb4 LL3.out.lt).alloc (.cells #[.string x, .bool false, .func (.func 76) #[] #[.pointer (some ⟨c1, 0, none⟩)]] 48)
    have X4 := Blk.new w4 48 #[.string x, .bool false, .func (.func 76) #[] #[.pointer (some ⟨c1, 0, none⟩)]]
    have K4 := kv.on ((Below.refl w4.heap.size w4).alloc (Nat.le_refl _) (.cells #[.string x, .bool false, .func (.func 76) #[] #[.pointer (some ⟨c1, 0, none⟩)]] 48))
    have hxb : w2.heap.size < w4.heap.size := Nat.lt_of_lt_of_le LL3.out.lt hb4.size
    have W4 := (W3.trans (hb4.mono W3.size)).alloc (Nat.le_trans W3.size hb4.size) (.cells #[.string x, .bool false, .func (.func 76) #[] #[.pointer (some ⟨c1, 0, none⟩)]] 48)
    clear kv
    generalize hU : w4.alloc (.cells #[.string x, .bool false, .func (.func 76) #[] #[.pointer (some ⟨c1, 0, none⟩)]] 48) = U at *
    clear hb4 BB3 LL3 W3
    have l0 := L4.cell 0
    have l2 := L4.cell 2
    have f2 := L4.frozen 2
    have x0 := X4.cell 0
    have x1 := X4.cell 1
    simp only [List.getElem?_toArray, List.getElem?_cons_zero, List.getElem?_cons_succ] at l0 l2 x0 x1
    have hpb : w2.heap.size ≠ w.heap.size := by omega
    have B5 := B4.far (p := ⟨w2.heap.size, 2, none⟩) (fun e => hpb e.symm) (.string x)
    have L5 : Blk (U.setCell ⟨w2.heap.size, 2, none⟩ (.string x)) w2.heap.size 24 #[.int .i64 a, .int .i64 b, .string x, .string ⟨#[]⟩, .string ⟨#[]⟩, .string ⟨#[]⟩, .bool false] := L4.set_ 2 (.string x)
    have X5 := X4.far (p := ⟨w2.heap.size, 2, none⟩) (Nat.ne_of_gt hxb) (.string x)
    have K5 := K4.grown (gb_set U w2.heap.size 2 (.string x)) L4 (by decide)
    have W5 := W4.setCell (p := ⟨w2.heap.size, 2, none⟩) (Nat.le_of_lt hlb) (.string x)
    have y2 := X5.cell 2
    simp only [List.getElem?_toArray, List.getElem?_cons_zero, List.getElem?_cons_succ] at y2
    generalize hU5 : U.setCell ⟨w2.heap.size, 2, none⟩ (.string x) = U5 at *
    have BB5 := Lib.hid B5
    have LL5 := Lib.hid L5
    have KK5 := Lib.hid K5
    clear B4 L4 X4 K4 W4 B5 L5 X5 K5
    go_wp2_with (first
      | (go_at_call 76; refine (R.out _ _ _ LL5.out KK5.out).mono ?_; rintro e w6 ⟨rfl, hm6, g6⟩; have B6 := BB5.out.grown g6 (fun e => by injection e with e; omega); have W6 := W5.grown g6 W5.size (fun j e => by injection e with e; omega); clear hm6 g6 BB5 LL5 KK5 W5; obtain ⟨⟨xu0, yu0⟩, ⟨xu1, yu1⟩, ⟨xu2, yu2⟩, ⟨xu3, yu3⟩, ⟨xu4, yu4⟩, ⟨xu5, yu5⟩, ⟨xu6, yu6⟩, BB⟩ := Ex.blk7 B6 (.int .i64 0) (.int .i64 0) (.string ⟨#[]⟩) (.string ⟨#[]⟩) (.string ⟨#[]⟩) (.string ⟨#[]⟩) (.bool false); have GGu := Ex.put7_gb (w6) (w.heap.size) (.int .i64 0) (.int .i64 0) (.string ⟨#[]⟩) (.string ⟨#[]⟩) (.string ⟨#[]⟩) (.string ⟨#[]⟩) (.bool false); unfold Ex.put7 at GGu BB; generalize hu1 : World.setCell (w6) ⟨w.heap.size, 0, none⟩ (.int .i64 0) = u1 at *; generalize hu2 : World.setCell u1 ⟨w.heap.size, 1, none⟩ (.int .i64 0) = u2 at *; generalize hu3 : World.setCell u2 ⟨w.heap.size, 2, none⟩ (.string ⟨#[]⟩) = u3 at *; generalize hu4 : World.setCell u3 ⟨w.heap.size, 3, none⟩ (.string ⟨#[]⟩) = u4 at *; generalize hu5 : World.setCell u4 ⟨w.heap.size, 4, none⟩ (.string ⟨#[]⟩) = u5 at *; generalize hu6 : World.setCell u5 ⟨w.heap.size, 5, none⟩ (.string ⟨#[]⟩) = u6 at *; generalize hu7 : World.setCell u6 ⟨w.heap.size, 6, none⟩ (.bool false) = u7 at *; replace BB := Lib.hid BB))
    refine ret_seven1 rfl rfl BB.out rfl Tryz.underlying24 (by kernel_rfl) ?_
    exact ⟨rfl, W6.grown GGu W6.size (fun j e => by injection e with e; omega)⟩
  · have hyl : (bs (Ex.verb t).2).size ≤ 1000000000 := by have := (Ex.verb_len t).2; have := Ex.front_len h; rw [data_len] at this; rw [bs_size]; omega
    have R : Hid (∀ (u : World) (p c1 : Nat), Blk u p 24 #[.int .i64 a, .int .i64 b, .string (bs (Ex.verb t).1), .string ⟨#[]⟩, .string ⟨#[]⟩, .string ⟨#[]⟩, .bool false] → Ex.Kd u (.func (.func 76) #[] #[.pointer (some ⟨c1, 0, none⟩)]) k → Calls Tryz.prog 76 #[.string (bs (Ex.verb t).2), .pointer (some ⟨p, 0, none⟩), .pointer (some ⟨c1, 0, none⟩)] u (Ex.ReadIs p (z, er) u)) := Lib.hid (fun u p c1 hp hv => by
      have := ex_reading_perhaps (s := bs (Ex.verb t).2) (l := ⟨a, b, (Ex.verb t).1, [], [], [], false⟩) (k := k) hk2 hyl hp hv
      rw [bs_toList, hm] at this
      exact this)
    have hl : ¬ 1 < (Line.L s.data.toList).length := fun h => hf ((Ex.lines_more hv).1 h)
    have V := Lib.hid (fun w => utf_Valid s (by omega) w)
    have N := Lib.hid (fun w => line_Count s (by omega) w)
    rw [hv] at V
    generalize hn0 : (Line.L s.data.toList).length = n at *
    have g1 : decide ((1 : Int) < (n : Int)) = false := by rw [decide_eq_false_iff_not]; omega
    clear hl
    have A := Lib.hid (fun w => ex_addresses s (by omega) w)
    have ht := Ex.front_len h
    rw [data_len] at ht
    have C := Lib.hid (fun w => ex_cut (bs t) (by rw [bs_size]; omega) w)
    rw [bs_toList] at C
    rw [h] at A
    unfold Ex.frontV at A
    simp only at A
    generalize bs t = tt at *
    clear hv hf hn0 h ht
    have D := Lib.hid (fun w => ex_find_some (bs (Ex.verb t).1) (r := true) (k := k) hk w)
    have HK := Lib.hid hk2
    have gx : (bs (Ex.verb t).1).toList.isEmpty = false := by rw [bs_tl]; simpa using hx
    have ge : (er != 0) = true := by rw [bne_iff_ne]; exact her
    clear hq hk hk2 hx hm hyl her
    generalize bs (Ex.verb t).1 = x at *
    generalize bs (Ex.verb t).2 = y at *
    have B0 := Blk.new w 24 #[.int .i64 0, .int .i64 0, .string ⟨#[]⟩, .string ⟨#[]⟩, .string ⟨#[]⟩, .string ⟨#[]⟩, .bool false]
    have W0 := (Below.refl w.heap.size w).alloc (Nat.le_refl _) (.cells #[.int .i64 0, .int .i64 0, .string ⟨#[]⟩, .string ⟨#[]⟩, .string ⟨#[]⟩, .string ⟨#[]⟩, .bool false] 24)
    go_enter Tryz.func6, Tryz.ntmps6
    go_upto_region 4 with (first
      | (go_at_call 14; refine (V.out _).mono ?_; rintro e u ⟨rfl, rfl⟩)
      | (go_at_call 15; refine (N.out _).mono ?_; rintro e w1 ⟨rfl, hb1⟩; have B1 := B0.below hb1 (by rw [World.size_alloc]; omega); have W1 := W0.trans (hb1.mono W0.size); clear hb1 B0 W0)
      | (go_at_call 16; refine (A.out _).mono ?_; rintro e w2 ⟨rfl, hb2⟩))
    have B2 := (B1.below hb2 B1.lt).alloc (.cells #[.int .i64 a, .int .i64 b, .string ⟨#[]⟩, .string ⟨#[]⟩, .string ⟨#[]⟩, .string ⟨#[]⟩, .bool false] 24)
    have L2 := Blk.new w2 24 #[.int .i64 a, .int .i64 b, .string ⟨#[]⟩, .string ⟨#[]⟩, .string ⟨#[]⟩, .string ⟨#[]⟩, .bool false]
    have hlb : w.heap.size < w2.heap.size := Nat.lt_of_lt_of_le B1.lt hb2.size
    have W2 := (W1.trans (hb2.mono W1.size)).alloc (Nat.le_trans W1.size hb2.size) (.cells #[.int .i64 a, .int .i64 b, .string ⟨#[]⟩, .string ⟨#[]⟩, .string ⟨#[]⟩, .string ⟨#[]⟩, .bool false] 24)
    clear hb2 B1 W1
    generalize hU2 : w2.alloc (.cells #[.int .i64 a, .int .i64 b, .string ⟨#[]⟩, .string ⟨#[]⟩, .string ⟨#[]⟩, .string ⟨#[]⟩, .bool false] 24) = U2 at *
    have BB2 := Lib.hid B2
    have LL2 := Lib.hid L2
    clear B2 L2
    go_upto_region 8 with (first
      | (go_at_call 17; refine (C.out _).mono ?_; rintro e w3 ⟨rfl, hb3⟩; have BB3 := Lib.hid (BB2.out.below hb3 BB2.out.lt); have LL3 := Lib.hid (LL2.out.below hb3 LL2.out.lt); have W3 := W2.trans (hb3.mono W2.size); clear hb3 BB2 LL2 W2)
      | (go_at_call 18; refine (D.out _).mono ?_; rintro e w4 ⟨v, rfl, kv, hb4⟩; obtain ⟨c1, rfl⟩ := Ex.Kd.as_perhaps HK.out kv))
    have B4 := (BB3.out.below hb4 BB3.out.lt).alloc (.cells #[.string x, .bool true, .func (.func 76) #[] #[.pointer (some ⟨c1, 0, none⟩)]] 48)
    have L4 := (LL3.out.below hb4 LL3.out.lt).alloc (.cells #[.string x, .bool true, .func (.func 76) #[] #[.pointer (some ⟨c1, 0, none⟩)]] 48)
    have X4 := Blk.new w4 48 #[.string x, .bool true, .func (.func 76) #[] #[.pointer (some ⟨c1, 0, none⟩)]]
    have K4 := kv.on ((Below.refl w4.heap.size w4).alloc (Nat.le_refl _) (.cells #[.string x, .bool true, .func (.func 76) #[] #[.pointer (some ⟨c1, 0, none⟩)]] 48))
    have hxb : w2.heap.size < w4.heap.size := Nat.lt_of_lt_of_le LL3.out.lt hb4.size
    have W4 := (W3.trans (hb4.mono W3.size)).alloc (Nat.le_trans W3.size hb4.size) (.cells #[.string x, .bool true, .func (.func 76) #[] #[.pointer (some ⟨c1, 0, none⟩)]] 48)
    clear kv
    generalize hU : w4.alloc (.cells #[.string x, .bool true, .func (.func 76) #[] #[.pointer (some ⟨c1, 0, none⟩)]] 48) = U at *
    clear hb4 BB3 LL3 W3
    have l0 := L4.cell 0
    have l2 := L4.cell 2
    have f2 := L4.frozen 2
    have x0 := X4.cell 0
    have x1 := X4.cell 1
    simp only [List.getElem?_toArray, List.getElem?_cons_zero, List.getElem?_cons_succ] at l0 l2 x0 x1
    have hpb : w2.heap.size ≠ w.heap.size := by omega
    have B5 := B4.far (p := ⟨w2.heap.size, 2, none⟩) (fun e => hpb e.symm) (.string x)
    have L5 : Blk (U.setCell ⟨w2.heap.size, 2, none⟩ (.string x)) w2.heap.size 24 #[.int .i64 a, .int .i64 b, .string x, .string ⟨#[]⟩, .string ⟨#[]⟩, .string ⟨#[]⟩, .bool false] := L4.set_ 2 (.string x)
    have X5 := X4.far (p := ⟨w2.heap.size, 2, none⟩) (Nat.ne_of_gt hxb) (.string x)
    have K5 := K4.grown (gb_set U w2.heap.size 2 (.string x)) L4 (by decide)
    have W5 := W4.setCell (p := ⟨w2.heap.size, 2, none⟩) (Nat.le_of_lt hlb) (.string x)
    have y2 := X5.cell 2
    simp only [List.getElem?_toArray, List.getElem?_cons_zero, List.getElem?_cons_succ] at y2
    generalize hU5 : U.setCell ⟨w2.heap.size, 2, none⟩ (.string x) = U5 at *
    have BB5 := Lib.hid B5
    have LL5 := Lib.hid L5
    have KK5 := Lib.hid K5
    clear B4 L4 X4 K4 W4 B5 L5 X5 K5
    go_wp2_with (first
      | (go_at_call 76; refine (R.out _ _ _ LL5.out KK5.out).mono ?_; rintro e w6 ⟨rfl, hm6, g6⟩; have B6 := BB5.out.grown g6 (fun e => by injection e with e; omega); have W6 := W5.grown g6 W5.size (fun j e => by injection e with e; omega); clear hm6 g6 BB5 LL5 KK5 W5; obtain ⟨⟨xu0, yu0⟩, ⟨xu1, yu1⟩, ⟨xu2, yu2⟩, ⟨xu3, yu3⟩, ⟨xu4, yu4⟩, ⟨xu5, yu5⟩, ⟨xu6, yu6⟩, BB⟩ := Ex.blk7 B6 (.int .i64 0) (.int .i64 0) (.string ⟨#[]⟩) (.string ⟨#[]⟩) (.string ⟨#[]⟩) (.string ⟨#[]⟩) (.bool false); have GGu := Ex.put7_gb (w6) (w.heap.size) (.int .i64 0) (.int .i64 0) (.string ⟨#[]⟩) (.string ⟨#[]⟩) (.string ⟨#[]⟩) (.string ⟨#[]⟩) (.bool false); unfold Ex.put7 at GGu BB; generalize hu1 : World.setCell (w6) ⟨w.heap.size, 0, none⟩ (.int .i64 0) = u1 at *; generalize hu2 : World.setCell u1 ⟨w.heap.size, 1, none⟩ (.int .i64 0) = u2 at *; generalize hu3 : World.setCell u2 ⟨w.heap.size, 2, none⟩ (.string ⟨#[]⟩) = u3 at *; generalize hu4 : World.setCell u3 ⟨w.heap.size, 3, none⟩ (.string ⟨#[]⟩) = u4 at *; generalize hu5 : World.setCell u4 ⟨w.heap.size, 4, none⟩ (.string ⟨#[]⟩) = u5 at *; generalize hu6 : World.setCell u5 ⟨w.heap.size, 5, none⟩ (.string ⟨#[]⟩) = u6 at *; generalize hu7 : World.setCell u6 ⟨w.heap.size, 6, none⟩ (.bool false) = u7 at *; replace BB := Lib.hid BB))
    refine ret_seven1 rfl rfl BB.out rfl Tryz.underlying24 (by kernel_rfl) ?_
    exact ⟨rfl, W6.grown GGu W6.size (fun j e => by injection e with e; omega)⟩
  · cases hq
  · have hyl : (bs (Ex.verb t).2).size ≤ 1000000000 := by have := (Ex.verb_len t).2; have := Ex.front_len h; rw [data_len] at this; rw [bs_size]; omega
    have R : Hid (∀ (u : World) (p c1 : Nat), Blk u p 24 #[.int .i64 a, .int .i64 b, .string (bs (Ex.verb t).1), .string ⟨#[]⟩, .string ⟨#[]⟩, .string ⟨#[]⟩, .bool false] → Ex.Kd u (.func (.func 76) #[] #[.pointer (some ⟨c1, 0, none⟩)]) k → Calls Tryz.prog 76 #[.string (bs (Ex.verb t).2), .pointer (some ⟨p, 0, none⟩), .pointer (some ⟨c1, 0, none⟩)] u (Ex.ReadIs p (z, er) u)) := Lib.hid (fun u p c1 hp hv => by
      have := ex_reading_perhaps (s := bs (Ex.verb t).2) (l := ⟨a, b, (Ex.verb t).1, [], [], [], false⟩) (k := k) hk2 hyl hp hv
      rw [bs_toList, hm] at this
      exact this)
    have hl : ¬ 1 < (Line.L s.data.toList).length := fun h => hf ((Ex.lines_more hv).1 h)
    have V := Lib.hid (fun w => utf_Valid s (by omega) w)
    have N := Lib.hid (fun w => line_Count s (by omega) w)
    rw [hv] at V
    generalize hn0 : (Line.L s.data.toList).length = n at *
    have g1 : decide ((1 : Int) < (n : Int)) = false := by rw [decide_eq_false_iff_not]; omega
    clear hl
    have A := Lib.hid (fun w => ex_addresses s (by omega) w)
    have ht := Ex.front_len h
    rw [data_len] at ht
    have C := Lib.hid (fun w => ex_cut (bs t) (by rw [bs_size]; omega) w)
    rw [bs_toList] at C
    rw [h] at A
    unfold Ex.frontV at A
    simp only at A
    generalize bs t = tt at *
    clear hv hf hn0 h ht
    have D := Lib.hid (fun w => ex_find_some (bs (Ex.verb t).1) (r := true) (k := k) hk w)
    have HK := Lib.hid hk2
    have gx : (bs (Ex.verb t).1).toList.isEmpty = false := by rw [bs_tl]; simpa using hx
    have ge : (er != 0) = true := by rw [bne_iff_ne]; exact her
    clear hq hk hk2 hx hm hyl her
    generalize bs (Ex.verb t).1 = x at *
    generalize bs (Ex.verb t).2 = y at *
    have B0 := Blk.new w 24 #[.int .i64 0, .int .i64 0, .string ⟨#[]⟩, .string ⟨#[]⟩, .string ⟨#[]⟩, .string ⟨#[]⟩, .bool false]
    have W0 := (Below.refl w.heap.size w).alloc (Nat.le_refl _) (.cells #[.int .i64 0, .int .i64 0, .string ⟨#[]⟩, .string ⟨#[]⟩, .string ⟨#[]⟩, .string ⟨#[]⟩, .bool false] 24)
    go_enter Tryz.func6, Tryz.ntmps6
    go_upto_region 4 with (first
      | (go_at_call 14; refine (V.out _).mono ?_; rintro e u ⟨rfl, rfl⟩)
      | (go_at_call 15; refine (N.out _).mono ?_; rintro e w1 ⟨rfl, hb1⟩; have B1 := B0.below hb1 (by rw [World.size_alloc]; omega); have W1 := W0.trans (hb1.mono W0.size); clear hb1 B0 W0)
      | (go_at_call 16; refine (A.out _).mono ?_; rintro e w2 ⟨rfl, hb2⟩))
    have B2 := (B1.below hb2 B1.lt).alloc (.cells #[.int .i64 a, .int .i64 b, .string ⟨#[]⟩, .string ⟨#[]⟩, .string ⟨#[]⟩, .string ⟨#[]⟩, .bool false] 24)
    have L2 := Blk.new w2 24 #[.int .i64 a, .int .i64 b, .string ⟨#[]⟩, .string ⟨#[]⟩, .string ⟨#[]⟩, .string ⟨#[]⟩, .bool false]
    have hlb : w.heap.size < w2.heap.size := Nat.lt_of_lt_of_le B1.lt hb2.size
    have W2 := (W1.trans (hb2.mono W1.size)).alloc (Nat.le_trans W1.size hb2.size) (.cells #[.int .i64 a, .int .i64 b, .string ⟨#[]⟩, .string ⟨#[]⟩, .string ⟨#[]⟩, .string ⟨#[]⟩, .bool false] 24)
    clear hb2 B1 W1
    generalize hU2 : w2.alloc (.cells #[.int .i64 a, .int .i64 b, .string ⟨#[]⟩, .string ⟨#[]⟩, .string ⟨#[]⟩, .string ⟨#[]⟩, .bool false] 24) = U2 at *
    have BB2 := Lib.hid B2
    have LL2 := Lib.hid L2
    clear B2 L2
    go_upto_region 8 with (first
      | (go_at_call 17; refine (C.out _).mono ?_; rintro e w3 ⟨rfl, hb3⟩; have BB3 := Lib.hid (BB2.out.below hb3 BB2.out.lt); have LL3 := Lib.hid (LL2.out.below hb3 LL2.out.lt); have W3 := W2.trans (hb3.mono W2.size); clear hb3 BB2 LL2 W2)
      | (go_at_call 18; refine (D.out _).mono ?_; rintro e w4 ⟨v, rfl, kv, hb4⟩; obtain ⟨c1, rfl⟩ := Ex.Kd.as_perhaps HK.out kv))
    have B4 := (BB3.out.below hb4 BB3.out.lt).alloc (.cells #[.string x, .bool true, .func (.func 76) #[] #[.pointer (some ⟨c1, 0, none⟩)]] 48)
    have L4 := (LL3.out.below hb4 LL3.out.lt).alloc (.cells #[.string x, .bool true, .func (.func 76) #[] #[.pointer (some ⟨c1, 0, none⟩)]] 48)
    have X4 := Blk.new w4 48 #[.string x, .bool true, .func (.func 76) #[] #[.pointer (some ⟨c1, 0, none⟩)]]
    have K4 := kv.on ((Below.refl w4.heap.size w4).alloc (Nat.le_refl _) (.cells #[.string x, .bool true, .func (.func 76) #[] #[.pointer (some ⟨c1, 0, none⟩)]] 48))
    have hxb : w2.heap.size < w4.heap.size := Nat.lt_of_lt_of_le LL3.out.lt hb4.size
    have W4 := (W3.trans (hb4.mono W3.size)).alloc (Nat.le_trans W3.size hb4.size) (.cells #[.string x, .bool true, .func (.func 76) #[] #[.pointer (some ⟨c1, 0, none⟩)]] 48)
    clear kv
    generalize hU : w4.alloc (.cells #[.string x, .bool true, .func (.func 76) #[] #[.pointer (some ⟨c1, 0, none⟩)]] 48) = U at *
    clear hb4 BB3 LL3 W3
    have l0 := L4.cell 0
    have l2 := L4.cell 2
    have f2 := L4.frozen 2
    have x0 := X4.cell 0
    have x1 := X4.cell 1
    simp only [List.getElem?_toArray, List.getElem?_cons_zero, List.getElem?_cons_succ] at l0 l2 x0 x1
    have hpb : w2.heap.size ≠ w.heap.size := by omega
    have B5 := B4.far (p := ⟨w2.heap.size, 2, none⟩) (fun e => hpb e.symm) (.string x)
    have L5 : Blk (U.setCell ⟨w2.heap.size, 2, none⟩ (.string x)) w2.heap.size 24 #[.int .i64 a, .int .i64 b, .string x, .string ⟨#[]⟩, .string ⟨#[]⟩, .string ⟨#[]⟩, .bool false] := L4.set_ 2 (.string x)
    have X5 := X4.far (p := ⟨w2.heap.size, 2, none⟩) (Nat.ne_of_gt hxb) (.string x)
    have K5 := K4.grown (gb_set U w2.heap.size 2 (.string x)) L4 (by decide)
    have W5 := W4.setCell (p := ⟨w2.heap.size, 2, none⟩) (Nat.le_of_lt hlb) (.string x)
    have y2 := X5.cell 2
    simp only [List.getElem?_toArray, List.getElem?_cons_zero, List.getElem?_cons_succ] at y2
    generalize hU5 : U.setCell ⟨w2.heap.size, 2, none⟩ (.string x) = U5 at *
    have BB5 := Lib.hid B5
    have LL5 := Lib.hid L5
    have KK5 := Lib.hid K5
    clear B4 L4 X4 K4 W4 B5 L5 X5 K5
    go_wp2_with (first
      | (go_at_call 76; refine (R.out _ _ _ LL5.out KK5.out).mono ?_; rintro e w6 ⟨rfl, hm6, g6⟩; have B6 := BB5.out.grown g6 (fun e => by injection e with e; omega); have W6 := W5.grown g6 W5.size (fun j e => by injection e with e; omega); clear hm6 g6 BB5 LL5 KK5 W5; obtain ⟨⟨xu0, yu0⟩, ⟨xu1, yu1⟩, ⟨xu2, yu2⟩, ⟨xu3, yu3⟩, ⟨xu4, yu4⟩, ⟨xu5, yu5⟩, ⟨xu6, yu6⟩, BB⟩ := Ex.blk7 B6 (.int .i64 0) (.int .i64 0) (.string ⟨#[]⟩) (.string ⟨#[]⟩) (.string ⟨#[]⟩) (.string ⟨#[]⟩) (.bool false); have GGu := Ex.put7_gb (w6) (w.heap.size) (.int .i64 0) (.int .i64 0) (.string ⟨#[]⟩) (.string ⟨#[]⟩) (.string ⟨#[]⟩) (.string ⟨#[]⟩) (.bool false); unfold Ex.put7 at GGu BB; generalize hu1 : World.setCell (w6) ⟨w.heap.size, 0, none⟩ (.int .i64 0) = u1 at *; generalize hu2 : World.setCell u1 ⟨w.heap.size, 1, none⟩ (.int .i64 0) = u2 at *; generalize hu3 : World.setCell u2 ⟨w.heap.size, 2, none⟩ (.string ⟨#[]⟩) = u3 at *; generalize hu4 : World.setCell u3 ⟨w.heap.size, 3, none⟩ (.string ⟨#[]⟩) = u4 at *; generalize hu5 : World.setCell u4 ⟨w.heap.size, 4, none⟩ (.string ⟨#[]⟩) = u5 at *; generalize hu6 : World.setCell u5 ⟨w.heap.size, 5, none⟩ (.string ⟨#[]⟩) = u6 at *; generalize hu7 : World.setCell u6 ⟨w.heap.size, 6, none⟩ (.bool false) = u7 at *; replace BB := Lib.hid BB))
    refine ret_seven1 rfl rfl BB.out rfl Tryz.underlying24 (by kernel_rfl) ?_
    exact ⟨rfl, W6.grown GGu W6.size (fun j e => by injection e with e; omega)⟩
set_option maxHeartbeats 2000000 in
set_option maxRecDepth 100000 in
theorem ex_Parse_ok_perhaps (s : ByteArray) (hs : s.size ≤ 1000000000) (hv : Utf.valid s.data.toList = true) (hf : ¬ 10 ∈ s.data.toList) {a b : Int} {t : List UInt8} (h : Ex.front s.data.toList = some (a, b, t)) {r : Bool} {k : Nat} (hk : Ex.kind (Ex.verb t).1 = some (r, k)) (hk2 : k = 1 ∨ k = 3) (hx : (Ex.verb t).1 ≠ []) {q : Bool} (ha : (a != 0) = q) (hq : (q && !r) = false) {m : Ln} (hm : Ex.rest ⟨a, b, (Ex.verb t).1, [], [], [], false⟩ k (Ex.verb t).2 = (m, 0)) (w : World) :
    Calls Tryz.prog 6 #[.string s] w fun e w' => e = .returned (Ex.ansV (m, 0)) ∧ Below w.heap.size w w' := by
  cases q <;> cases r
  · have hyl : (bs (Ex.verb t).2).size ≤ 1000000000 := by have := (Ex.verb_len t).2; have := Ex.front_len h; rw [data_len] at this; rw [bs_size]; omega
    have R : Hid (∀ (u : World) (p c1 : Nat), Blk u p 24 #[.int .i64 a, .int .i64 b, .string (bs (Ex.verb t).1), .string ⟨#[]⟩, .string ⟨#[]⟩, .string ⟨#[]⟩, .bool false] → Ex.Kd u (.func (.func 76) #[] #[.pointer (some ⟨c1, 0, none⟩)]) k → Calls Tryz.prog 76 #[.string (bs (Ex.verb t).2), .pointer (some ⟨p, 0, none⟩), .pointer (some ⟨c1, 0, none⟩)] u (Ex.ReadIs p (m, 0) u)) := Lib.hid (fun u p c1 hp hv => by
      have := ex_reading_perhaps (s := bs (Ex.verb t).2) (l := ⟨a, b, (Ex.verb t).1, [], [], [], false⟩) (k := k) hk2 hyl hp hv
      rw [bs_toList, hm] at this
      exact this)
    have hl : ¬ 1 < (Line.L s.data.toList).length := fun h => hf ((Ex.lines_more hv).1 h)
    have V := Lib.hid (fun w => utf_Valid s (by omega) w)
    have N := Lib.hid (fun w => line_Count s (by omega) w)
    rw [hv] at V
    generalize hn0 : (Line.L s.data.toList).length = n at *
    have g1 : decide ((1 : Int) < (n : Int)) = false := by rw [decide_eq_false_iff_not]; omega
    clear hl
    have A := Lib.hid (fun w => ex_addresses s (by omega) w)
    have ht := Ex.front_len h
    rw [data_len] at ht
    have C := Lib.hid (fun w => ex_cut (bs t) (by rw [bs_size]; omega) w)
    rw [bs_toList] at C
    rw [h] at A
    unfold Ex.frontV at A
    simp only at A
    generalize bs t = tt at *
    clear hv hf hn0 h ht
    have D := Lib.hid (fun w => ex_find_some (bs (Ex.verb t).1) (r := false) (k := k) hk w)
    have HK := Lib.hid hk2
    have gx : (bs (Ex.verb t).1).toList.isEmpty = false := by rw [bs_tl]; simpa using hx
    clear hq hk hk2 hx hm hyl
    generalize bs (Ex.verb t).1 = x at *
    generalize bs (Ex.verb t).2 = y at *
    have B0 := Blk.new w 24 #[.int .i64 0, .int .i64 0, .string ⟨#[]⟩, .string ⟨#[]⟩, .string ⟨#[]⟩, .string ⟨#[]⟩, .bool false]
    have W0 := (Below.refl w.heap.size w).alloc (Nat.le_refl _) (.cells #[.int .i64 0, .int .i64 0, .string ⟨#[]⟩, .string ⟨#[]⟩, .string ⟨#[]⟩, .string ⟨#[]⟩, .bool false] 24)
    go_enter Tryz.func6, Tryz.ntmps6
    go_upto_region 4 with (first
      | (go_at_call 14; refine (V.out _).mono ?_; rintro e u ⟨rfl, rfl⟩)
      | (go_at_call 15; refine (N.out _).mono ?_; rintro e w1 ⟨rfl, hb1⟩; have B1 := B0.below hb1 (by rw [World.size_alloc]; omega); have W1 := W0.trans (hb1.mono W0.size); clear hb1 B0 W0)
      | (go_at_call 16; refine (A.out _).mono ?_; rintro e w2 ⟨rfl, hb2⟩))
    have B2 := (B1.below hb2 B1.lt).alloc (.cells #[.int .i64 a, .int .i64 b, .string ⟨#[]⟩, .string ⟨#[]⟩, .string ⟨#[]⟩, .string ⟨#[]⟩, .bool false] 24)
    have L2 := Blk.new w2 24 #[.int .i64 a, .int .i64 b, .string ⟨#[]⟩, .string ⟨#[]⟩, .string ⟨#[]⟩, .string ⟨#[]⟩, .bool false]
    have hlb : w.heap.size < w2.heap.size := Nat.lt_of_lt_of_le B1.lt hb2.size
    have W2 := (W1.trans (hb2.mono W1.size)).alloc (Nat.le_trans W1.size hb2.size) (.cells #[.int .i64 a, .int .i64 b, .string ⟨#[]⟩, .string ⟨#[]⟩, .string ⟨#[]⟩, .string ⟨#[]⟩, .bool false] 24)
    clear hb2 B1 W1
    generalize hU2 : w2.alloc (.cells #[.int .i64 a, .int .i64 b, .string ⟨#[]⟩, .string ⟨#[]⟩, .string ⟨#[]⟩, .string ⟨#[]⟩, .bool false] 24) = U2 at *
    have BB2 := Lib.hid B2
    have LL2 := Lib.hid L2
    clear B2 L2
    go_upto_region 8 with (first
      | (go_at_call 17; refine (C.out _).mono ?_; rintro e w3 ⟨rfl, hb3⟩; have BB3 := Lib.hid (BB2.out.below hb3 BB2.out.lt); have LL3 := Lib.hid (LL2.out.below hb3 LL2.out.lt); have W3 := W2.trans (hb3.mono W2.size); clear hb3 BB2 LL2 W2)
      | (go_at_call 18; refine (D.out _).mono ?_; rintro e w4 ⟨v, rfl, kv, hb4⟩; obtain ⟨c1, rfl⟩ := Ex.Kd.as_perhaps HK.out kv))
    have B4 := (BB3.out.below hb4 BB3.out.lt).alloc (.cells #[.string x, .bool false, .func (.func 76) #[] #[.pointer (some ⟨c1, 0, none⟩)]] 48)
    have L4 := (LL3.out.below hb4 LL3.out.lt).alloc (.cells #[.string x, .bool false, .func (.func 76) #[] #[.pointer (some ⟨c1, 0, none⟩)]] 48)
    have X4 := Blk.new w4 48 #[.string x, .bool false, .func (.func 76) #[] #[.pointer (some ⟨c1, 0, none⟩)]]
    have K4 := kv.on ((Below.refl w4.heap.size w4).alloc (Nat.le_refl _) (.cells #[.string x, .bool false, .func (.func 76) #[] #[.pointer (some ⟨c1, 0, none⟩)]] 48))
    have hxb : w2.heap.size < w4.heap.size := Nat.lt_of_lt_of_le LL3.out.lt hb4.size
    have W4 := (W3.trans (hb4.mono W3.size)).alloc (Nat.le_trans W3.size hb4.size) (.cells #[.string x, .bool false, .func (.func 76) #[] #[.pointer (some ⟨c1, 0, none⟩)]] 48)
    clear kv
    generalize hU : w4.alloc (.cells #[.string x, .bool false, .func (.func 76) #[] #[.pointer (some ⟨c1, 0, none⟩)]] 48) = U at *
    clear hb4 BB3 LL3 W3
    have l0 := L4.cell 0
    have l2 := L4.cell 2
    have f2 := L4.frozen 2
    have x0 := X4.cell 0
    have x1 := X4.cell 1
    simp only [List.getElem?_toArray, List.getElem?_cons_zero, List.getElem?_cons_succ] at l0 l2 x0 x1
    have hpb : w2.heap.size ≠ w.heap.size := by omega
    have B5 := B4.far (p := ⟨w2.heap.size, 2, none⟩) (fun e => hpb e.symm) (.string x)
    have L5 : Blk (U.setCell ⟨w2.heap.size, 2, none⟩ (.string x)) w2.heap.size 24 #[.int .i64 a, .int .i64 b, .string x, .string ⟨#[]⟩, .string ⟨#[]⟩, .string ⟨#[]⟩, .bool false] := L4.set_ 2 (.string x)
    have X5 := X4.far (p := ⟨w2.heap.size, 2, none⟩) (Nat.ne_of_gt hxb) (.string x)
    have K5 := K4.grown (gb_set U w2.heap.size 2 (.string x)) L4 (by decide)
    have W5 := W4.setCell (p := ⟨w2.heap.size, 2, none⟩) (Nat.le_of_lt hlb) (.string x)
    have y2 := X5.cell 2
    simp only [List.getElem?_toArray, List.getElem?_cons_zero, List.getElem?_cons_succ] at y2
    generalize hU5 : U.setCell ⟨w2.heap.size, 2, none⟩ (.string x) = U5 at *
    have BB5 := Lib.hid B5
    have LL5 := Lib.hid L5
    have KK5 := Lib.hid K5
    clear B4 L4 X4 K4 W4 B5 L5 X5 K5
    go_wp2_with (first
      | (go_at_call 76; refine (R.out _ _ _ LL5.out KK5.out).mono ?_; rintro e w6 ⟨rfl, hm6, g6⟩; have B6 := BB5.out.grown g6 (fun e => by injection e with e; omega); have W6 := W5.grown g6 W5.size (fun j e => by injection e with e; omega); have M6 := hm6 rfl; unfold Ex.Ln.cells at M6; obtain ⟨m0, m1, m2, m3, m4, m5, m6⟩ := Ex.cells7 M6; clear hm6 M6 g6 BB5 LL5 KK5 W5; obtain ⟨⟨xu0, yu0⟩, ⟨xu1, yu1⟩, ⟨xu2, yu2⟩, ⟨xu3, yu3⟩, ⟨xu4, yu4⟩, ⟨xu5, yu5⟩, ⟨xu6, yu6⟩, BB⟩ := Ex.blk7 B6 (.int .i64 m.frm) (.int .i64 m.to) (.string (bs m.name)) (.string (bs m.arg)) (.string (bs m.pat)) (.string (bs m.rep)) (.bool m.all); have GGu := Ex.put7_gb (w6) (w.heap.size) (.int .i64 m.frm) (.int .i64 m.to) (.string (bs m.name)) (.string (bs m.arg)) (.string (bs m.pat)) (.string (bs m.rep)) (.bool m.all); unfold Ex.put7 at GGu BB; generalize hu1 : World.setCell (w6) ⟨w.heap.size, 0, none⟩ (.int .i64 m.frm) = u1 at *; generalize hu2 : World.setCell u1 ⟨w.heap.size, 1, none⟩ (.int .i64 m.to) = u2 at *; generalize hu3 : World.setCell u2 ⟨w.heap.size, 2, none⟩ (.string (bs m.name)) = u3 at *; generalize hu4 : World.setCell u3 ⟨w.heap.size, 3, none⟩ (.string (bs m.arg)) = u4 at *; generalize hu5 : World.setCell u4 ⟨w.heap.size, 4, none⟩ (.string (bs m.pat)) = u5 at *; generalize hu6 : World.setCell u5 ⟨w.heap.size, 5, none⟩ (.string (bs m.rep)) = u6 at *; generalize hu7 : World.setCell u6 ⟨w.heap.size, 6, none⟩ (.bool m.all) = u7 at *; replace BB := Lib.hid BB))
    refine ret_seven1 rfl rfl BB.out rfl Tryz.underlying24 (by kernel_rfl) ?_
    exact ⟨rfl, W6.grown GGu W6.size (fun j e => by injection e with e; omega)⟩
  · have hyl : (bs (Ex.verb t).2).size ≤ 1000000000 := by have := (Ex.verb_len t).2; have := Ex.front_len h; rw [data_len] at this; rw [bs_size]; omega
    have R : Hid (∀ (u : World) (p c1 : Nat), Blk u p 24 #[.int .i64 a, .int .i64 b, .string (bs (Ex.verb t).1), .string ⟨#[]⟩, .string ⟨#[]⟩, .string ⟨#[]⟩, .bool false] → Ex.Kd u (.func (.func 76) #[] #[.pointer (some ⟨c1, 0, none⟩)]) k → Calls Tryz.prog 76 #[.string (bs (Ex.verb t).2), .pointer (some ⟨p, 0, none⟩), .pointer (some ⟨c1, 0, none⟩)] u (Ex.ReadIs p (m, 0) u)) := Lib.hid (fun u p c1 hp hv => by
      have := ex_reading_perhaps (s := bs (Ex.verb t).2) (l := ⟨a, b, (Ex.verb t).1, [], [], [], false⟩) (k := k) hk2 hyl hp hv
      rw [bs_toList, hm] at this
      exact this)
    have hl : ¬ 1 < (Line.L s.data.toList).length := fun h => hf ((Ex.lines_more hv).1 h)
    have V := Lib.hid (fun w => utf_Valid s (by omega) w)
    have N := Lib.hid (fun w => line_Count s (by omega) w)
    rw [hv] at V
    generalize hn0 : (Line.L s.data.toList).length = n at *
    have g1 : decide ((1 : Int) < (n : Int)) = false := by rw [decide_eq_false_iff_not]; omega
    clear hl
    have A := Lib.hid (fun w => ex_addresses s (by omega) w)
    have ht := Ex.front_len h
    rw [data_len] at ht
    have C := Lib.hid (fun w => ex_cut (bs t) (by rw [bs_size]; omega) w)
    rw [bs_toList] at C
    rw [h] at A
    unfold Ex.frontV at A
    simp only at A
    generalize bs t = tt at *
    clear hv hf hn0 h ht
    have D := Lib.hid (fun w => ex_find_some (bs (Ex.verb t).1) (r := true) (k := k) hk w)
    have HK := Lib.hid hk2
    have gx : (bs (Ex.verb t).1).toList.isEmpty = false := by rw [bs_tl]; simpa using hx
    clear hq hk hk2 hx hm hyl
    generalize bs (Ex.verb t).1 = x at *
    generalize bs (Ex.verb t).2 = y at *
    have B0 := Blk.new w 24 #[.int .i64 0, .int .i64 0, .string ⟨#[]⟩, .string ⟨#[]⟩, .string ⟨#[]⟩, .string ⟨#[]⟩, .bool false]
    have W0 := (Below.refl w.heap.size w).alloc (Nat.le_refl _) (.cells #[.int .i64 0, .int .i64 0, .string ⟨#[]⟩, .string ⟨#[]⟩, .string ⟨#[]⟩, .string ⟨#[]⟩, .bool false] 24)
    go_enter Tryz.func6, Tryz.ntmps6
    go_upto_region 4 with (first
      | (go_at_call 14; refine (V.out _).mono ?_; rintro e u ⟨rfl, rfl⟩)
      | (go_at_call 15; refine (N.out _).mono ?_; rintro e w1 ⟨rfl, hb1⟩; have B1 := B0.below hb1 (by rw [World.size_alloc]; omega); have W1 := W0.trans (hb1.mono W0.size); clear hb1 B0 W0)
      | (go_at_call 16; refine (A.out _).mono ?_; rintro e w2 ⟨rfl, hb2⟩))
    have B2 := (B1.below hb2 B1.lt).alloc (.cells #[.int .i64 a, .int .i64 b, .string ⟨#[]⟩, .string ⟨#[]⟩, .string ⟨#[]⟩, .string ⟨#[]⟩, .bool false] 24)
    have L2 := Blk.new w2 24 #[.int .i64 a, .int .i64 b, .string ⟨#[]⟩, .string ⟨#[]⟩, .string ⟨#[]⟩, .string ⟨#[]⟩, .bool false]
    have hlb : w.heap.size < w2.heap.size := Nat.lt_of_lt_of_le B1.lt hb2.size
    have W2 := (W1.trans (hb2.mono W1.size)).alloc (Nat.le_trans W1.size hb2.size) (.cells #[.int .i64 a, .int .i64 b, .string ⟨#[]⟩, .string ⟨#[]⟩, .string ⟨#[]⟩, .string ⟨#[]⟩, .bool false] 24)
    clear hb2 B1 W1
    generalize hU2 : w2.alloc (.cells #[.int .i64 a, .int .i64 b, .string ⟨#[]⟩, .string ⟨#[]⟩, .string ⟨#[]⟩, .string ⟨#[]⟩, .bool false] 24) = U2 at *
    have BB2 := Lib.hid B2
    have LL2 := Lib.hid L2
    clear B2 L2
    go_upto_region 8 with (first
      | (go_at_call 17; refine (C.out _).mono ?_; rintro e w3 ⟨rfl, hb3⟩; have BB3 := Lib.hid (BB2.out.below hb3 BB2.out.lt); have LL3 := Lib.hid (LL2.out.below hb3 LL2.out.lt); have W3 := W2.trans (hb3.mono W2.size); clear hb3 BB2 LL2 W2)
      | (go_at_call 18; refine (D.out _).mono ?_; rintro e w4 ⟨v, rfl, kv, hb4⟩; obtain ⟨c1, rfl⟩ := Ex.Kd.as_perhaps HK.out kv))
    have B4 := (BB3.out.below hb4 BB3.out.lt).alloc (.cells #[.string x, .bool true, .func (.func 76) #[] #[.pointer (some ⟨c1, 0, none⟩)]] 48)
    have L4 := (LL3.out.below hb4 LL3.out.lt).alloc (.cells #[.string x, .bool true, .func (.func 76) #[] #[.pointer (some ⟨c1, 0, none⟩)]] 48)
    have X4 := Blk.new w4 48 #[.string x, .bool true, .func (.func 76) #[] #[.pointer (some ⟨c1, 0, none⟩)]]
    have K4 := kv.on ((Below.refl w4.heap.size w4).alloc (Nat.le_refl _) (.cells #[.string x, .bool true, .func (.func 76) #[] #[.pointer (some ⟨c1, 0, none⟩)]] 48))
    have hxb : w2.heap.size < w4.heap.size := Nat.lt_of_lt_of_le LL3.out.lt hb4.size
    have W4 := (W3.trans (hb4.mono W3.size)).alloc (Nat.le_trans W3.size hb4.size) (.cells #[.string x, .bool true, .func (.func 76) #[] #[.pointer (some ⟨c1, 0, none⟩)]] 48)
    clear kv
    generalize hU : w4.alloc (.cells #[.string x, .bool true, .func (.func 76) #[] #[.pointer (some ⟨c1, 0, none⟩)]] 48) = U at *
    clear hb4 BB3 LL3 W3
    have l0 := L4.cell 0
    have l2 := L4.cell 2
    have f2 := L4.frozen 2
    have x0 := X4.cell 0
    have x1 := X4.cell 1
    simp only [List.getElem?_toArray, List.getElem?_cons_zero, List.getElem?_cons_succ] at l0 l2 x0 x1
    have hpb : w2.heap.size ≠ w.heap.size := by omega
    have B5 := B4.far (p := ⟨w2.heap.size, 2, none⟩) (fun e => hpb e.symm) (.string x)
    have L5 : Blk (U.setCell ⟨w2.heap.size, 2, none⟩ (.string x)) w2.heap.size 24 #[.int .i64 a, .int .i64 b, .string x, .string ⟨#[]⟩, .string ⟨#[]⟩, .string ⟨#[]⟩, .bool false] := L4.set_ 2 (.string x)
    have X5 := X4.far (p := ⟨w2.heap.size, 2, none⟩) (Nat.ne_of_gt hxb) (.string x)
    have K5 := K4.grown (gb_set U w2.heap.size 2 (.string x)) L4 (by decide)
    have W5 := W4.setCell (p := ⟨w2.heap.size, 2, none⟩) (Nat.le_of_lt hlb) (.string x)
    have y2 := X5.cell 2
    simp only [List.getElem?_toArray, List.getElem?_cons_zero, List.getElem?_cons_succ] at y2
    generalize hU5 : U.setCell ⟨w2.heap.size, 2, none⟩ (.string x) = U5 at *
    have BB5 := Lib.hid B5
    have LL5 := Lib.hid L5
    have KK5 := Lib.hid K5
    clear B4 L4 X4 K4 W4 B5 L5 X5 K5
    go_wp2_with (first
      | (go_at_call 76; refine (R.out _ _ _ LL5.out KK5.out).mono ?_; rintro e w6 ⟨rfl, hm6, g6⟩; have B6 := BB5.out.grown g6 (fun e => by injection e with e; omega); have W6 := W5.grown g6 W5.size (fun j e => by injection e with e; omega); have M6 := hm6 rfl; unfold Ex.Ln.cells at M6; obtain ⟨m0, m1, m2, m3, m4, m5, m6⟩ := Ex.cells7 M6; clear hm6 M6 g6 BB5 LL5 KK5 W5; obtain ⟨⟨xu0, yu0⟩, ⟨xu1, yu1⟩, ⟨xu2, yu2⟩, ⟨xu3, yu3⟩, ⟨xu4, yu4⟩, ⟨xu5, yu5⟩, ⟨xu6, yu6⟩, BB⟩ := Ex.blk7 B6 (.int .i64 m.frm) (.int .i64 m.to) (.string (bs m.name)) (.string (bs m.arg)) (.string (bs m.pat)) (.string (bs m.rep)) (.bool m.all); have GGu := Ex.put7_gb (w6) (w.heap.size) (.int .i64 m.frm) (.int .i64 m.to) (.string (bs m.name)) (.string (bs m.arg)) (.string (bs m.pat)) (.string (bs m.rep)) (.bool m.all); unfold Ex.put7 at GGu BB; generalize hu1 : World.setCell (w6) ⟨w.heap.size, 0, none⟩ (.int .i64 m.frm) = u1 at *; generalize hu2 : World.setCell u1 ⟨w.heap.size, 1, none⟩ (.int .i64 m.to) = u2 at *; generalize hu3 : World.setCell u2 ⟨w.heap.size, 2, none⟩ (.string (bs m.name)) = u3 at *; generalize hu4 : World.setCell u3 ⟨w.heap.size, 3, none⟩ (.string (bs m.arg)) = u4 at *; generalize hu5 : World.setCell u4 ⟨w.heap.size, 4, none⟩ (.string (bs m.pat)) = u5 at *; generalize hu6 : World.setCell u5 ⟨w.heap.size, 5, none⟩ (.string (bs m.rep)) = u6 at *; generalize hu7 : World.setCell u6 ⟨w.heap.size, 6, none⟩ (.bool m.all) = u7 at *; replace BB := Lib.hid BB))
    refine ret_seven1 rfl rfl BB.out rfl Tryz.underlying24 (by kernel_rfl) ?_
    exact ⟨rfl, W6.grown GGu W6.size (fun j e => by injection e with e; omega)⟩
  · cases hq
  · have hyl : (bs (Ex.verb t).2).size ≤ 1000000000 := by have := (Ex.verb_len t).2; have := Ex.front_len h; rw [data_len] at this; rw [bs_size]; omega
    have R : Hid (∀ (u : World) (p c1 : Nat), Blk u p 24 #[.int .i64 a, .int .i64 b, .string (bs (Ex.verb t).1), .string ⟨#[]⟩, .string ⟨#[]⟩, .string ⟨#[]⟩, .bool false] → Ex.Kd u (.func (.func 76) #[] #[.pointer (some ⟨c1, 0, none⟩)]) k → Calls Tryz.prog 76 #[.string (bs (Ex.verb t).2), .pointer (some ⟨p, 0, none⟩), .pointer (some ⟨c1, 0, none⟩)] u (Ex.ReadIs p (m, 0) u)) := Lib.hid (fun u p c1 hp hv => by
      have := ex_reading_perhaps (s := bs (Ex.verb t).2) (l := ⟨a, b, (Ex.verb t).1, [], [], [], false⟩) (k := k) hk2 hyl hp hv
      rw [bs_toList, hm] at this
      exact this)
    have hl : ¬ 1 < (Line.L s.data.toList).length := fun h => hf ((Ex.lines_more hv).1 h)
    have V := Lib.hid (fun w => utf_Valid s (by omega) w)
    have N := Lib.hid (fun w => line_Count s (by omega) w)
    rw [hv] at V
    generalize hn0 : (Line.L s.data.toList).length = n at *
    have g1 : decide ((1 : Int) < (n : Int)) = false := by rw [decide_eq_false_iff_not]; omega
    clear hl
    have A := Lib.hid (fun w => ex_addresses s (by omega) w)
    have ht := Ex.front_len h
    rw [data_len] at ht
    have C := Lib.hid (fun w => ex_cut (bs t) (by rw [bs_size]; omega) w)
    rw [bs_toList] at C
    rw [h] at A
    unfold Ex.frontV at A
    simp only at A
    generalize bs t = tt at *
    clear hv hf hn0 h ht
    have D := Lib.hid (fun w => ex_find_some (bs (Ex.verb t).1) (r := true) (k := k) hk w)
    have HK := Lib.hid hk2
    have gx : (bs (Ex.verb t).1).toList.isEmpty = false := by rw [bs_tl]; simpa using hx
    clear hq hk hk2 hx hm hyl
    generalize bs (Ex.verb t).1 = x at *
    generalize bs (Ex.verb t).2 = y at *
    have B0 := Blk.new w 24 #[.int .i64 0, .int .i64 0, .string ⟨#[]⟩, .string ⟨#[]⟩, .string ⟨#[]⟩, .string ⟨#[]⟩, .bool false]
    have W0 := (Below.refl w.heap.size w).alloc (Nat.le_refl _) (.cells #[.int .i64 0, .int .i64 0, .string ⟨#[]⟩, .string ⟨#[]⟩, .string ⟨#[]⟩, .string ⟨#[]⟩, .bool false] 24)
    go_enter Tryz.func6, Tryz.ntmps6
    go_upto_region 4 with (first
      | (go_at_call 14; refine (V.out _).mono ?_; rintro e u ⟨rfl, rfl⟩)
      | (go_at_call 15; refine (N.out _).mono ?_; rintro e w1 ⟨rfl, hb1⟩; have B1 := B0.below hb1 (by rw [World.size_alloc]; omega); have W1 := W0.trans (hb1.mono W0.size); clear hb1 B0 W0)
      | (go_at_call 16; refine (A.out _).mono ?_; rintro e w2 ⟨rfl, hb2⟩))
    have B2 := (B1.below hb2 B1.lt).alloc (.cells #[.int .i64 a, .int .i64 b, .string ⟨#[]⟩, .string ⟨#[]⟩, .string ⟨#[]⟩, .string ⟨#[]⟩, .bool false] 24)
    have L2 := Blk.new w2 24 #[.int .i64 a, .int .i64 b, .string ⟨#[]⟩, .string ⟨#[]⟩, .string ⟨#[]⟩, .string ⟨#[]⟩, .bool false]
    have hlb : w.heap.size < w2.heap.size := Nat.lt_of_lt_of_le B1.lt hb2.size
    have W2 := (W1.trans (hb2.mono W1.size)).alloc (Nat.le_trans W1.size hb2.size) (.cells #[.int .i64 a, .int .i64 b, .string ⟨#[]⟩, .string ⟨#[]⟩, .string ⟨#[]⟩, .string ⟨#[]⟩, .bool false] 24)
    clear hb2 B1 W1
    generalize hU2 : w2.alloc (.cells #[.int .i64 a, .int .i64 b, .string ⟨#[]⟩, .string ⟨#[]⟩, .string ⟨#[]⟩, .string ⟨#[]⟩, .bool false] 24) = U2 at *
    have BB2 := Lib.hid B2
    have LL2 := Lib.hid L2
    clear B2 L2
    go_upto_region 8 with (first
      | (go_at_call 17; refine (C.out _).mono ?_; rintro e w3 ⟨rfl, hb3⟩; have BB3 := Lib.hid (BB2.out.below hb3 BB2.out.lt); have LL3 := Lib.hid (LL2.out.below hb3 LL2.out.lt); have W3 := W2.trans (hb3.mono W2.size); clear hb3 BB2 LL2 W2)
      | (go_at_call 18; refine (D.out _).mono ?_; rintro e w4 ⟨v, rfl, kv, hb4⟩; obtain ⟨c1, rfl⟩ := Ex.Kd.as_perhaps HK.out kv))
    have B4 := (BB3.out.below hb4 BB3.out.lt).alloc (.cells #[.string x, .bool true, .func (.func 76) #[] #[.pointer (some ⟨c1, 0, none⟩)]] 48)
    have L4 := (LL3.out.below hb4 LL3.out.lt).alloc (.cells #[.string x, .bool true, .func (.func 76) #[] #[.pointer (some ⟨c1, 0, none⟩)]] 48)
    have X4 := Blk.new w4 48 #[.string x, .bool true, .func (.func 76) #[] #[.pointer (some ⟨c1, 0, none⟩)]]
    have K4 := kv.on ((Below.refl w4.heap.size w4).alloc (Nat.le_refl _) (.cells #[.string x, .bool true, .func (.func 76) #[] #[.pointer (some ⟨c1, 0, none⟩)]] 48))
    have hxb : w2.heap.size < w4.heap.size := Nat.lt_of_lt_of_le LL3.out.lt hb4.size
    have W4 := (W3.trans (hb4.mono W3.size)).alloc (Nat.le_trans W3.size hb4.size) (.cells #[.string x, .bool true, .func (.func 76) #[] #[.pointer (some ⟨c1, 0, none⟩)]] 48)
    clear kv
    generalize hU : w4.alloc (.cells #[.string x, .bool true, .func (.func 76) #[] #[.pointer (some ⟨c1, 0, none⟩)]] 48) = U at *
    clear hb4 BB3 LL3 W3
    have l0 := L4.cell 0
    have l2 := L4.cell 2
    have f2 := L4.frozen 2
    have x0 := X4.cell 0
    have x1 := X4.cell 1
    simp only [List.getElem?_toArray, List.getElem?_cons_zero, List.getElem?_cons_succ] at l0 l2 x0 x1
    have hpb : w2.heap.size ≠ w.heap.size := by omega
    have B5 := B4.far (p := ⟨w2.heap.size, 2, none⟩) (fun e => hpb e.symm) (.string x)
    have L5 : Blk (U.setCell ⟨w2.heap.size, 2, none⟩ (.string x)) w2.heap.size 24 #[.int .i64 a, .int .i64 b, .string x, .string ⟨#[]⟩, .string ⟨#[]⟩, .string ⟨#[]⟩, .bool false] := L4.set_ 2 (.string x)
    have X5 := X4.far (p := ⟨w2.heap.size, 2, none⟩) (Nat.ne_of_gt hxb) (.string x)
    have K5 := K4.grown (gb_set U w2.heap.size 2 (.string x)) L4 (by decide)
    have W5 := W4.setCell (p := ⟨w2.heap.size, 2, none⟩) (Nat.le_of_lt hlb) (.string x)
    have y2 := X5.cell 2
    simp only [List.getElem?_toArray, List.getElem?_cons_zero, List.getElem?_cons_succ] at y2
    generalize hU5 : U.setCell ⟨w2.heap.size, 2, none⟩ (.string x) = U5 at *
    have BB5 := Lib.hid B5
    have LL5 := Lib.hid L5
    have KK5 := Lib.hid K5
    clear B4 L4 X4 K4 W4 B5 L5 X5 K5
    go_wp2_with (first
      | (go_at_call 76; refine (R.out _ _ _ LL5.out KK5.out).mono ?_; rintro e w6 ⟨rfl, hm6, g6⟩; have B6 := BB5.out.grown g6 (fun e => by injection e with e; omega); have W6 := W5.grown g6 W5.size (fun j e => by injection e with e; omega); have M6 := hm6 rfl; unfold Ex.Ln.cells at M6; obtain ⟨m0, m1, m2, m3, m4, m5, m6⟩ := Ex.cells7 M6; clear hm6 M6 g6 BB5 LL5 KK5 W5; obtain ⟨⟨xu0, yu0⟩, ⟨xu1, yu1⟩, ⟨xu2, yu2⟩, ⟨xu3, yu3⟩, ⟨xu4, yu4⟩, ⟨xu5, yu5⟩, ⟨xu6, yu6⟩, BB⟩ := Ex.blk7 B6 (.int .i64 m.frm) (.int .i64 m.to) (.string (bs m.name)) (.string (bs m.arg)) (.string (bs m.pat)) (.string (bs m.rep)) (.bool m.all); have GGu := Ex.put7_gb (w6) (w.heap.size) (.int .i64 m.frm) (.int .i64 m.to) (.string (bs m.name)) (.string (bs m.arg)) (.string (bs m.pat)) (.string (bs m.rep)) (.bool m.all); unfold Ex.put7 at GGu BB; generalize hu1 : World.setCell (w6) ⟨w.heap.size, 0, none⟩ (.int .i64 m.frm) = u1 at *; generalize hu2 : World.setCell u1 ⟨w.heap.size, 1, none⟩ (.int .i64 m.to) = u2 at *; generalize hu3 : World.setCell u2 ⟨w.heap.size, 2, none⟩ (.string (bs m.name)) = u3 at *; generalize hu4 : World.setCell u3 ⟨w.heap.size, 3, none⟩ (.string (bs m.arg)) = u4 at *; generalize hu5 : World.setCell u4 ⟨w.heap.size, 4, none⟩ (.string (bs m.pat)) = u5 at *; generalize hu6 : World.setCell u5 ⟨w.heap.size, 5, none⟩ (.string (bs m.rep)) = u6 at *; generalize hu7 : World.setCell u6 ⟨w.heap.size, 6, none⟩ (.bool m.all) = u7 at *; replace BB := Lib.hid BB))
    refine ret_seven1 rfl rfl BB.out rfl Tryz.underlying24 (by kernel_rfl) ?_
    exact ⟨rfl, W6.grown GGu W6.size (fun j e => by injection e with e; omega)⟩
end Go.Proofs.YtcddbdefdenecaaGreatDoor
