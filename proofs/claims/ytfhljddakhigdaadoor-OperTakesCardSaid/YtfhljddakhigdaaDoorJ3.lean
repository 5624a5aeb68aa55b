/-
  Whether a range may be, and its lines, by the document.
-/
import Derived.Test.YtfhljddakhigdaaDoorJ1
import Derived.Test.YtfhljddakhigdaaDoorLineRefs2
import Derived.Deep.RegionHeld3
import Derived.Test.YtfhljddakhigdaaDoorJ2
import Derived.RegionTactic
import Derived.ChangeAlike
namespace Go.Proofs.YtfhljddakhigdaaDoor
open Go.RowKit
open Span (starts ends)
namespace Span
open Line (L L_whole L_valid of_ column)
theorem starts_in {s : List UInt8} {k n : Nat} {x : Nat × Nat} (h : (L s)[k]? = some x) (h1 : x.1 ≤ n) (h2 : n ≤ x.2) : starts s n = decide (n = x.1) := by
  rcases Nat.eq_or_lt_of_le h1 with e | hlt
  · subst e; rw [starts_at h, decide_eq_true rfl]
  · have h7 := (L_whole (L_valid h)).each k x h |>.2.2.2 (n - 1) (by omega) (by omega)
    rw [starts, decide_eq_false (by omega), decide_eq_false h7, decide_eq_false (by omega)]
    rfl
/-- A place is where a line begins just if its column is 0. -/
theorem column_zero {s : List UInt8} {a : Int} (h : Utf.place s a = true) : (column s a == 0) = starts s a.toNat := by
  obtain ⟨n, k, x, rfl, hx, h1, h2, _, _, _, _⟩ := Line.place_line h
  rw [Int.toNat_natCast, starts_in hx h1 h2]
  obtain ⟨rs, hd⟩ := Option.isSome_iff_exists.1 (Line.place_ok h)
  obtain ⟨i, j, hij, hj, hi1, hj1, _⟩ := Line.line_runes hd hx
  obtain ⟨m, hm, hc⟩ := (Utf.place_iff hd).1 h
  have hc' : Utf.off rs m = n := by omega
  subst hc'
  have ho := (Utf.dec_some hd).1
  have him : i ≤ m := by
    rcases Nat.lt_or_ge m i with h3 | h3
    · have := Utf.off_lt ho h3 (by omega); omega
    · exact h3
  have hmj : m ≤ j := by
    rcases Nat.lt_or_ge j m with h3 | h3
    · have := Utf.off_lt ho h3 hm; omega
    · exact h3
  rw [Line.column_runes hd hx him hmj hj hi1 hj1, Bool.eq_iff_iff, beq_iff_eq, decide_eq_true_iff]
  constructor
  · intro h3
    have : i = m := by omega
    rw [← this, hi1]
  · intro h3
    have := Utf.off_inj ho hm (show i ≤ rs.length by omega) (by rw [h3, hi1])
    omega
theorem ends_stop {s : List UInt8} {b : Int} (h : Utf.place s b = true) : (Line.stop s (of_ s b) == b) = ends s b.toNat := by
  obtain ⟨n, k, x, rfl, hx, h1, h2, _, _, _, hst⟩ := Line.place_line h
  rw [hst, Int.toNat_natCast, ends_at hx h1 h2, Bool.eq_iff_iff, beq_iff_eq, decide_eq_true_iff]
  omega
end Span
/-- A region by hand: its beginning; that at a panic the frame does not matter is asked once. -/
theorem held_start {P : Program} {id : Nat} {ops : Array Oper} {Q : Exit → Act → World → Prop} {S : World → Prop} {a : Act} {w : World} (n : Nat) (hm : P.follows .mixedOrders = true) (hn : ops.size = n) (hS : S w.drew) (hQ : ∀ c (x y : Act) w, Q (.panic c) x w → Q (.panic c) y w)
    (h : (∀ c (x y : Act) w, Q (.panic c) x w → Q (.panic c) y w) → S w.drew → wpAnyH P .any ops Q S n (Array.replicate n false) a w.drew) : (Code.region id ops true).wp P Q a w :=
  wp_region_held_drew hm hS (by rw [hn]; exact h hQ)
/-- An operation of a region by hand: what it yields; where it is told. -/
theorem held_take {P : Program} {md : Region.Mode} {ops : Array Oper} {Q : Exit → Act → World → Prop} {S : World → Prop} {i fuel d : Nat} {oi : Oper} {v : Value} {listed : Array Bool} {a : Act} {w : World} (hi : ops[i]? = some oi) (hd : oi.dst = some d)
    (hs : Region.noSelect ops = true) (hf : Region.free md ops listed i = true) (hr : (Region.ready md ops listed).contains i = true) (hQ : ∀ c (x y : Act) w, Q (.panic c) x w → Q (.panic c) y w) (hy : YieldsIf P ops S oi v a) (hS : S w)
    (h : wpAnyH P md ops Q S fuel (listed.setIfInBounds i true) (a.put (some d) v) w) : wpAnyH P md ops Q S (fuel + 1) listed a w :=
  wpAnyH_take hi hs hf hr (fun c _ w h => hQ c _ _ w h) hy hS (by rw [hd]; exact h)
set_option maxHeartbeats 1000000 in
set_option maxRecDepth 100000 in
theorem ref22_Right_from (s : ByteArray) (a b : Int) (l : Bool) (hs : s.size ≤ 1000000000000) (h1 : Utf.place s.data.toList a = false) (w : World) :
    Calls Tryd.prog 31 #[.string s, .agg #[.int .i64 a, .int .i64 b, .bool l]] w fun e w' => e = .returned (.bool false) ∧ Below w.heap.size w w' := by
  have K := RBox.new w a b l
  obtain ⟨q0, q1, q2, f0, f1, f2⟩ := K.cells
  have P1 := Lib.hid (fun w => ref_Place s a (by omega) w)
  have P2 := Lib.hid (fun w => ref_Place s b (by omega) w)
  rw [h1] at P1
  clear hs h1 P2
  go_enter Tryd.func31, Tryd.ntmps31
  go_wp2_with (first
    | (go_at_call 58; (with_reducible refine (P1.out _).mono ?_); rintro e u ⟨rfl, hb⟩; (first | replace K := K.on hb | replace K := K.ond hb); clear hb; clear q0 q1 q2 f0 f1 f2; obtain ⟨q0, q1, q2, f0, f1, f2⟩ := K.cells))
  go_ret
  exact ⟨rfl, K.below⟩
set_option maxHeartbeats 1000000 in
set_option maxRecDepth 100000 in
theorem ref22_Right_to (s : ByteArray) (a b : Int) (l : Bool) (hs : s.size ≤ 1000000000000) (h1 : Utf.place s.data.toList a = true) (h2 : Utf.place s.data.toList b = false) (w : World) :
    Calls Tryd.prog 31 #[.string s, .agg #[.int .i64 a, .int .i64 b, .bool l]] w fun e w' => e = .returned (.bool false) ∧ Below w.heap.size w w' := by
  have K := RBox.new w a b l
  obtain ⟨q0, q1, q2, f0, f1, f2⟩ := K.cells
  have P1 := Lib.hid (fun w => ref_Place s a (by omega) w)
  have P2 := Lib.hid (fun w => ref_Place s b (by omega) w)
  rw [h1] at P1
  rw [h2] at P2
  clear hs h1 h2
  go_enter Tryd.func31, Tryd.ntmps31
  go_wp2_with (first
    | (go_at_call 58; (with_reducible refine (P1.out _).mono ?_); rintro e u ⟨rfl, hb⟩; (first | replace K := K.on hb | replace K := K.ond hb); clear hb; clear q0 q1 q2 f0 f1 f2; obtain ⟨q0, q1, q2, f0, f1, f2⟩ := K.cells)
    | (go_at_call 58; (with_reducible refine (P2.out _).mono ?_); rintro e u ⟨rfl, hb⟩; (first | replace K := K.on hb | replace K := K.ond hb); clear hb; clear q0 q1 q2 f0 f1 f2; obtain ⟨q0, q1, q2, f0, f1, f2⟩ := K.cells))
  go_ret
  exact ⟨rfl, K.below⟩
set_option maxHeartbeats 1000000 in
set_option maxRecDepth 100000 in
theorem ref22_Right_low (s : ByteArray) (a b : Int) (l : Bool) (hs : s.size ≤ 1000000000000) (h1 : Utf.place s.data.toList a = true) (h2 : Utf.place s.data.toList b = true) (h0 : b < a) (w : World) :
    Calls Tryd.prog 31 #[.string s, .agg #[.int .i64 a, .int .i64 b, .bool l]] w fun e w' => e = .returned (.bool false) ∧ Below w.heap.size w w' := by
  have K := RBox.new w a b l
  obtain ⟨q0, q1, q2, f0, f1, f2⟩ := K.cells
  have P1 := Lib.hid (fun w => ref_Place s a (by omega) w)
  have P2 := Lib.hid (fun w => ref_Place s b (by omega) w)
  rw [h1] at P1
  rw [h2] at P2
  have g0 : decide (b < a) = true := decide_eq_true h0
  clear hs h1 h2 h0
  go_enter Tryd.func31, Tryd.ntmps31
  go_wp2_with (first
    | (go_at_call 58; (with_reducible refine (P1.out _).mono ?_); rintro e u ⟨rfl, hb⟩; (first | replace K := K.on hb | replace K := K.ond hb); clear hb; clear q0 q1 q2 f0 f1 f2; obtain ⟨q0, q1, q2, f0, f1, f2⟩ := K.cells)
    | (go_at_call 58; (with_reducible refine (P2.out _).mono ?_); rintro e u ⟨rfl, hb⟩; (first | replace K := K.on hb | replace K := K.ond hb); clear hb; clear q0 q1 q2 f0 f1 f2; obtain ⟨q0, q1, q2, f0, f1, f2⟩ := K.cells))
  go_ret
  exact ⟨rfl, K.below⟩
set_option maxHeartbeats 1000000 in
set_option maxRecDepth 100000 in
theorem ref22_Right_text (s : ByteArray) (a b : Int) (hs : s.size ≤ 1000000000000) (h1 : Utf.place s.data.toList a = true) (h2 : Utf.place s.data.toList b = true) (h0 : a ≤ b) (w : World) :
    Calls Tryd.prog 31 #[.string s, .agg #[.int .i64 a, .int .i64 b, .bool false]] w fun e w' => e = .returned (.bool true) ∧ Below w.heap.size w w' := by
  have K := RBox.new w a b false
  obtain ⟨q0, q1, q2, f0, f1, f2⟩ := K.cells
  have P1 := Lib.hid (fun w => ref_Place s a (by omega) w)
  have P2 := Lib.hid (fun w => ref_Place s b (by omega) w)
  rw [h1] at P1
  rw [h2] at P2
  have g0 : decide (b < a) = false := decide_eq_false (by omega)
  clear hs h1 h2 h0
  go_enter Tryd.func31, Tryd.ntmps31
  go_wp2_with (first
    | (go_at_call 58; (with_reducible refine (P1.out _).mono ?_); rintro e u ⟨rfl, hb⟩; (first | replace K := K.on hb | replace K := K.ond hb); clear hb; clear q0 q1 q2 f0 f1 f2; obtain ⟨q0, q1, q2, f0, f1, f2⟩ := K.cells)
    | (go_at_call 58; (with_reducible refine (P2.out _).mono ?_); rintro e u ⟨rfl, hb⟩; (first | replace K := K.on hb | replace K := K.ond hb); clear hb; clear q0 q1 q2 f0 f1 f2; obtain ⟨q0, q1, q2, f0, f1, f2⟩ := K.cells))
  go_ret
  exact ⟨rfl, K.below⟩
set_option maxHeartbeats 1000000 in
set_option maxRecDepth 100000 in
theorem ref22_Right_first (s : ByteArray) (a b : Int) (hs : s.size ≤ 1000000000000) (h1 : Utf.place s.data.toList a = true) (h2 : Utf.place s.data.toList b = true) (h0 : a ≤ b) (h4 : starts s.data.toList a.toNat = false) (w : World) :
    Calls Tryd.prog 31 #[.string s, .agg #[.int .i64 a, .int .i64 b, .bool true]] w fun e w' => e = .returned (.bool false) ∧ Below w.heap.size w w' := by
  have K := RBox.new w a b true
  obtain ⟨q0, q1, q2, f0, f1, f2⟩ := K.cells
  have P1 := Lib.hid (fun w => ref_Place s a (by omega) w)
  have P2 := Lib.hid (fun w => ref_Place s b (by omega) w)
  rw [h1] at P1
  rw [h2] at P2
  have g0 : decide (b < a) = false := decide_eq_false (by omega)
  have A3 := Lib.hid (fun w => ref4_Column s a hs w)
  have g3 := Span.column_zero h1
  rw [h4] at g3
  generalize Line.column s.data.toList a = c at *
  clear hs h1 h2 h0 h4
  go_enter Tryd.func31, Tryd.ntmps31
  go_wp2_with (first
    | (go_at_call 58; (with_reducible refine (P1.out _).mono ?_); rintro e u ⟨rfl, hb⟩; (first | replace K := K.on hb | replace K := K.ond hb); clear hb; clear q0 q1 q2 f0 f1 f2; obtain ⟨q0, q1, q2, f0, f1, f2⟩ := K.cells)
    | (go_at_call 58; (with_reducible refine (P2.out _).mono ?_); rintro e u ⟨rfl, hb⟩; (first | replace K := K.on hb | replace K := K.ond hb); clear hb; clear q0 q1 q2 f0 f1 f2; obtain ⟨q0, q1, q2, f0, f1, f2⟩ := K.cells)
    | fail)
  refine wp_region_noPanic ?_
  refine held_start 17 (S := fun u => u.cell? ⟨w.heap.size, 0, none⟩ = some (.int .i64 a) ∧ u.cell? ⟨w.heap.size, 1, none⟩ = some (.int .i64 b)) (by kernel_rfl) (by kernel_rfl) ⟨by assumption, by assumption⟩ (fun _ _ _ _ h => h) (fun HQ hHeld => ?_)
  refine held_take (i := 0) (d := 26) (v := .string s) rfl rfl (by kernel_rfl) (by kernel_rfl) (by kernel_rfl) HQ (Or.inl ⟨by rfl, fun w hSw => by obtain ⟨p0, p1⟩ := hSw; go_simp⟩) (by assumption) ?_
  (try simp only [Act.put]); (try simp only [List.setIfInBounds_toArray]); (try simp only [List.set_cons_succ, List.set_cons_zero])
  refine held_take (i := 1) (d := 27) (v := .pointer (some ⟨w.heap.size, 0, none⟩)) rfl rfl (by kernel_rfl) (by kernel_rfl) (by kernel_rfl) HQ (Or.inl ⟨by rfl, fun w hSw => by obtain ⟨p0, p1⟩ := hSw; go_simp⟩) (by assumption) ?_
  (try simp only [Act.put]); (try simp only [List.setIfInBounds_toArray]); (try simp only [List.set_cons_succ, List.set_cons_zero])
  refine held_take (i := 2) (d := 28) (v := .int .i64 a) rfl rfl (by kernel_rfl) (by kernel_rfl) (by kernel_rfl) HQ (Or.inl ⟨by rfl, fun w hSw => by obtain ⟨p0, p1⟩ := hSw; go_simp⟩) (by assumption) ?_
  (try simp only [Act.put]); (try simp only [List.setIfInBounds_toArray]); (try simp only [List.set_cons_succ, List.set_cons_zero])
  refine wpAnyH_ready (rs := [3]) (by kernel_rfl) (by simp) ?_
  refine AllReadyH.cons (o := _) rfl (fun Kq hKq => ?_) AllReadyH.nil
  go_simp
  (go_at_call 59; (with_reducible refine (A3.out _).mono ?_); rintro e u ⟨rfl, hb⟩; (first | replace K := K.on hb | replace K := K.ond hb); clear hb; clear q0 q1 q2 f0 f1 f2; obtain ⟨q0, q1, q2, f0, f1, f2⟩ := K.cells)
  go_wp2_with fail
  refine hKq.out _ _ ⟨by assumption, by assumption⟩ (fun hHeld => ?_)
  clear hKq Kq
  refine held_take (i := 4) (d := 30) (v := .bool false) rfl rfl (by kernel_rfl) (by kernel_rfl) (by kernel_rfl) HQ (Or.inl ⟨by rfl, fun w hSw => by obtain ⟨p0, p1⟩ := hSw; go_simp⟩) (by assumption) ?_
  (try simp only [Act.put]); (try simp only [List.setIfInBounds_toArray]); (try simp only [List.set_cons_succ, List.set_cons_zero])
  refine held_take (i := 5) (d := 31) (v := .bool false) rfl rfl (by kernel_rfl) (by kernel_rfl) (by kernel_rfl) HQ (Or.inl ⟨by rfl, fun w hSw => by obtain ⟨p0, p1⟩ := hSw; go_simp⟩) (by assumption) ?_
  (try simp only [Act.put]); (try simp only [List.setIfInBounds_toArray]); (try simp only [List.set_cons_succ, List.set_cons_zero])
  refine held_take (i := 6) (d := 32) (v := undef) rfl rfl (by kernel_rfl) (by kernel_rfl) (by kernel_rfl) HQ (Or.inr ⟨by rfl, rfl⟩) (by assumption) ?_
  (try simp only [Act.put]); (try simp only [List.setIfInBounds_toArray]); (try simp only [List.set_cons_succ, List.set_cons_zero])
  refine held_take (i := 7) (d := 33) (v := undef) rfl rfl (by kernel_rfl) (by kernel_rfl) (by kernel_rfl) HQ (Or.inr ⟨by rfl, rfl⟩) (by assumption) ?_
  (try simp only [Act.put]); (try simp only [List.setIfInBounds_toArray]); (try simp only [List.set_cons_succ, List.set_cons_zero])
  refine held_take (i := 8) (d := 34) (v := undef) rfl rfl (by kernel_rfl) (by kernel_rfl) (by kernel_rfl) HQ (Or.inr ⟨by rfl, rfl⟩) (by assumption) ?_
  (try simp only [Act.put]); (try simp only [List.setIfInBounds_toArray]); (try simp only [List.set_cons_succ, List.set_cons_zero])
  refine held_take (i := 9) (d := 35) (v := undef) rfl rfl (by kernel_rfl) (by kernel_rfl) (by kernel_rfl) HQ (Or.inr ⟨by rfl, rfl⟩) (by assumption) ?_
  (try simp only [Act.put]); (try simp only [List.setIfInBounds_toArray]); (try simp only [List.set_cons_succ, List.set_cons_zero])
  refine held_take (i := 10) (d := 36) (v := undef) rfl rfl (by kernel_rfl) (by kernel_rfl) (by kernel_rfl) HQ (Or.inr ⟨by rfl, rfl⟩) (by assumption) ?_
  (try simp only [Act.put]); (try simp only [List.setIfInBounds_toArray]); (try simp only [List.set_cons_succ, List.set_cons_zero])
  refine held_take (i := 11) (d := 37) (v := undef) rfl rfl (by kernel_rfl) (by kernel_rfl) (by kernel_rfl) HQ (Or.inr ⟨by rfl, rfl⟩) (by assumption) ?_
  (try simp only [Act.put]); (try simp only [List.setIfInBounds_toArray]); (try simp only [List.set_cons_succ, List.set_cons_zero])
  refine held_take (i := 12) (d := 38) (v := undef) rfl rfl (by kernel_rfl) (by kernel_rfl) (by kernel_rfl) HQ (Or.inr ⟨by rfl, rfl⟩) (by assumption) ?_
  (try simp only [Act.put]); (try simp only [List.setIfInBounds_toArray]); (try simp only [List.set_cons_succ, List.set_cons_zero])
  refine held_take (i := 13) (d := 39) (v := undef) rfl rfl (by kernel_rfl) (by kernel_rfl) (by kernel_rfl) HQ (Or.inr ⟨by rfl, rfl⟩) (by assumption) ?_
  (try simp only [Act.put]); (try simp only [List.setIfInBounds_toArray]); (try simp only [List.set_cons_succ, List.set_cons_zero])
  refine held_take (i := 14) (d := 40) (v := undef) rfl rfl (by kernel_rfl) (by kernel_rfl) (by kernel_rfl) HQ (Or.inr ⟨by rfl, rfl⟩) (by assumption) ?_
  (try simp only [Act.put]); (try simp only [List.setIfInBounds_toArray]); (try simp only [List.set_cons_succ, List.set_cons_zero])
  refine held_take (i := 15) (d := 41) (v := .bool false) rfl rfl (by kernel_rfl) (by kernel_rfl) (by kernel_rfl) HQ (Or.inl ⟨by rfl, fun w hSw => by obtain ⟨p0, p1⟩ := hSw; go_simp⟩) (by assumption) ?_
  (try simp only [Act.put]); (try simp only [List.setIfInBounds_toArray]); (try simp only [List.set_cons_succ, List.set_cons_zero])
  refine held_take (i := 16) (d := 4) (v := .bool false) rfl rfl (by kernel_rfl) (by kernel_rfl) (by kernel_rfl) HQ (Or.inl ⟨by rfl, fun w hSw => by obtain ⟨p0, p1⟩ := hSw; go_simp⟩) (by assumption) ?_
  (try simp only [Act.put]); (try simp only [List.setIfInBounds_toArray]); (try simp only [List.set_cons_succ, List.set_cons_zero])
  refine wpAnyH_done (by kernel_rfl) ?_ _
  refine NoPanic.normal ?_
  go_wp2
  go_ret
  exact ⟨rfl, K.below⟩
set_option maxHeartbeats 1000000 in
set_option maxRecDepth 100000 in
theorem ref22_Right_lines (s : ByteArray) (a b : Int) (hs : s.size ≤ 1000000000000) (h1 : Utf.place s.data.toList a = true) (h2 : Utf.place s.data.toList b = true) (h0 : a ≤ b) (h4 : starts s.data.toList a.toNat = true) (w : World) :
    Calls Tryd.prog 31 #[.string s, .agg #[.int .i64 a, .int .i64 b, .bool true]] w fun e w' => e = .returned (.bool (ends s.data.toList b.toNat)) ∧ Below w.heap.size w w' := by
  have K := RBox.new w a b true
  obtain ⟨q0, q1, q2, f0, f1, f2⟩ := K.cells
  have P1 := Lib.hid (fun w => ref_Place s a (by omega) w)
  have P2 := Lib.hid (fun w => ref_Place s b (by omega) w)
  rw [h1] at P1
  rw [h2] at P2
  have g0 : decide (b < a) = false := decide_eq_false (by omega)
  have A3 := Lib.hid (fun w => ref4_Column s a hs w)
  have g3 := Span.column_zero h1
  rw [h4] at g3
  generalize Line.column s.data.toList a = c at *
  have A4 := Lib.hid (fun w => ref4_Of s b hs w)
  have A5 := Lib.hid (fun w => ref4_End s (Line.of_ s.data.toList b) hs w)
  have g4 := Span.ends_stop h2
  generalize ends s.data.toList b.toNat = z at *
  generalize Line.stop s.data.toList (Line.of_ s.data.toList b) = y at *
  generalize Line.of_ s.data.toList b = j at *
  clear hs h1 h2 h0 h4
  go_enter Tryd.func31, Tryd.ntmps31
  go_wp2_with (first
    | (go_at_call 58; (with_reducible refine (P1.out _).mono ?_); rintro e u ⟨rfl, hb⟩; (first | replace K := K.on hb | replace K := K.ond hb); clear hb; clear q0 q1 q2 f0 f1 f2; obtain ⟨q0, q1, q2, f0, f1, f2⟩ := K.cells)
    | (go_at_call 58; (with_reducible refine (P2.out _).mono ?_); rintro e u ⟨rfl, hb⟩; (first | replace K := K.on hb | replace K := K.ond hb); clear hb; clear q0 q1 q2 f0 f1 f2; obtain ⟨q0, q1, q2, f0, f1, f2⟩ := K.cells)
    | fail)
  go_region_held3 (fun u => u.cell? ⟨w.heap.size, 0, none⟩ = some (.int .i64 a) ∧ u.cell? ⟨w.heap.size, 1, none⟩ = some (.int .i64 b)) (first | (with_reducible exact ⟨by assumption, by assumption⟩) | go_keep)
    (first
      | (go_at_call 59; (with_reducible refine (A3.out _).mono ?_); rintro e u ⟨rfl, hb⟩; (first | replace K := K.on hb | replace K := K.ond hb); clear hb; clear q0 q1 q2 f0 f1 f2; obtain ⟨q0, q1, q2, f0, f1, f2⟩ := K.cells)
      | (go_at_call 34; (with_reducible refine (A4.out _).mono ?_); rintro e u ⟨rfl, hb⟩; (first | replace K := K.on hb | replace K := K.ond hb); clear hb; clear q0 q1 q2 f0 f1 f2; obtain ⟨q0, q1, q2, f0, f1, f2⟩ := K.cells)
      | (go_at_call 60; (with_reducible refine (A5.out _).mono ?_); rintro e u ⟨rfl, hb⟩; (first | replace K := K.on hb | replace K := K.ond hb); clear hb; clear q0 q1 q2 f0 f1 f2; obtain ⟨q0, q1, q2, f0, f1, f2⟩ := K.cells))
  all_goals go_wp2
  all_goals go_ret
  all_goals exact ⟨rfl, K.below⟩
theorem ref22_Right (s : ByteArray) (a b : Int) (l : Bool) (hs : s.size ≤ 1000000000000) (w : World) :
    Calls Tryd.prog 31 #[.string s, .agg #[.int .i64 a, .int .i64 b, .bool l]] w fun e w' => e = .returned (.bool (Span.right s.data.toList a b l)) ∧ Below w.heap.size w w' := by
  rw [Span.right]
  cases h1 : Utf.place s.data.toList a with
  | false => rw [Bool.false_and, Bool.and_false]; exact ref22_Right_from s a b l hs h1 w
  | true =>
    cases h2 : Utf.place s.data.toList b with
    | false => rw [Bool.false_and, Bool.and_false, Bool.and_false]; exact ref22_Right_to s a b l hs h1 h2 w
    | true =>
      rcases Int.lt_or_le b a with h0 | h0
      · rw [decide_eq_false (by omega)]; exact ref22_Right_low s a b l hs h1 h2 h0 w
      rw [decide_eq_true h0]
      cases l with
      | false => exact ref22_Right_text s a b hs h1 h2 h0 w
      | true =>
        cases h4 : starts s.data.toList a.toNat with
        | false => exact ref22_Right_first s a b hs h1 h2 h0 h4 w
        | true => exact ref22_Right_lines s a b hs h1 h2 h0 h4 w
end Go.Proofs.YtfhljddakhigdaaDoor
/-
  What is taken out with a range, by the document.
-/
namespace Go.Proofs.YtfhljddakhigdaaDoor
open Go.RowKit
set_option maxHeartbeats 1000000 in
set_option maxRecDepth 100000 in
theorem ref22_Cut_no (s : ByteArray) (a b : Int) (l : Bool) (hs : s.size ≤ 1000000000000) (h : Span.right s.data.toList a b l = false) (w : World) :
    Calls Tryd.prog 32 #[.string s, .agg #[.int .i64 a, .int .i64 b, .bool l]] w fun e w' => e = .returned (.agg #[.int .i64 0, .int .i64 0, .bool false]) ∧ Below w.heap.size w w' := by
  have K := CBox.new w a b l
  obtain ⟨q0, q1, q2, f0, f1, f2⟩ := K.cells
  obtain ⟨r0, r1, r2, e0, e1, e2⟩ := row_three K.res
  have R1 := Lib.hid (fun w => ref22_Right s a b l hs w)
  rw [h] at R1
  clear hs h
  go_enter Tryd.func32, Tryd.ntmps32
  go_wp2_with (go_at_call 31; (with_reducible refine (R1.out _).mono ?_); rintro e u ⟨rfl, hb⟩; replace K := K.on hb; clear hb q0 q1 q2 f0 f1 f2 r0 r1 r2 e0 e1 e2; obtain ⟨q0, q1, q2, f0, f1, f2⟩ := K.cells; obtain ⟨r0, r1, r2, e0, e1, e2⟩ := row_three K.res)
  exact ret_three rfl rfl (three_row K.res) rfl Tryd.underlying23 rfl ⟨rfl, below_three K.below (by omega)⟩
set_option maxHeartbeats 1000000 in
set_option maxRecDepth 100000 in
theorem ref22_Cut_text (s : ByteArray) (a b : Int) (hs : s.size ≤ 1000000000000) (h : Span.right s.data.toList a b false = true) (w : World) :
    Calls Tryd.prog 32 #[.string s, .agg #[.int .i64 a, .int .i64 b, .bool false]] w fun e w' => e = .returned (.agg #[.int .i64 a, .int .i64 b, .bool false]) ∧ Below w.heap.size w w' := by
  have K := CBox.new w a b false
  obtain ⟨q0, q1, q2, f0, f1, f2⟩ := K.cells
  obtain ⟨r0, r1, r2, e0, e1, e2⟩ := row_three K.res
  have R1 := Lib.hid (fun w => ref22_Right s a b false hs w)
  rw [h] at R1
  clear hs h
  go_enter Tryd.func32, Tryd.ntmps32
  go_wp2_with (go_at_call 31; (with_reducible refine (R1.out _).mono ?_); rintro e u ⟨rfl, hb⟩; replace K := K.on hb; clear hb q0 q1 q2 f0 f1 f2 r0 r1 r2 e0 e1 e2; obtain ⟨q0, q1, q2, f0, f1, f2⟩ := K.cells; obtain ⟨r0, r1, r2, e0, e1, e2⟩ := row_three K.res)
  exact ret_three rfl rfl (three_row K.res) rfl Tryd.underlying23 rfl ⟨rfl, below_three K.below (by omega)⟩
set_option maxHeartbeats 1000000 in
set_option maxRecDepth 100000 in
theorem ref22_Cut_behind (s : ByteArray) (a b : Int) (hs : s.size ≤ 1000000000000) (h : Span.right s.data.toList a b true = true) (h0 : b < (s.size : Int)) (hb0 : 0 ≤ b) (w : World) :
    Calls Tryd.prog 32 #[.string s, .agg #[.int .i64 a, .int .i64 b, .bool true]] w fun e w' => e = .returned (.agg #[.int .i64 a, .int .i64 (b + 1), .bool true]) ∧ Below w.heap.size w w' := by
  have K := CBox.new w a b true
  obtain ⟨q0, q1, q2, f0, f1, f2⟩ := K.cells
  obtain ⟨r0, r1, r2, e0, e1, e2⟩ := row_three K.res
  have R1 := Lib.hid (fun w => ref22_Right s a b true hs w)
  rw [h] at R1
  have g0 : decide (b < (s.size : Int)) = true := decide_eq_true h0
  have g1 : IntKind.i64.wrap (b + 1) = b + 1 := by rw [IntKind.wrap_i64]; omega
  have g2 : wrap64 (b + 1) = b + 1 := by unfold wrap64; omega
  clear hs h h0 hb0
  go_enter Tryd.func32, Tryd.ntmps32
  go_wp2_with (go_at_call 31; (with_reducible refine (R1.out _).mono ?_); rintro e u ⟨rfl, hb⟩; replace K := K.on hb; clear hb q0 q1 q2 f0 f1 f2 r0 r1 r2 e0 e1 e2; obtain ⟨q0, q1, q2, f0, f1, f2⟩ := K.cells; obtain ⟨r0, r1, r2, e0, e1, e2⟩ := row_three K.res)
  exact ret_three rfl rfl (three_row (K.one (b + 1)).res) rfl Tryd.underlying23 rfl ⟨rfl, below_three (K.one (b + 1)).below (by omega)⟩
set_option maxHeartbeats 1000000 in
set_option maxRecDepth 100000 in
theorem ref22_Cut_ahead (s : ByteArray) (a b : Int) (hs : s.size ≤ 1000000000000) (h : Span.right s.data.toList a b true = true) (h0 : ¬ b < (s.size : Int)) (h1 : 0 < a) (h2 : a ≤ (s.size : Int)) (w : World) :
    Calls Tryd.prog 32 #[.string s, .agg #[.int .i64 a, .int .i64 b, .bool true]] w fun e w' => e = .returned (.agg #[.int .i64 (a - 1), .int .i64 b, .bool true]) ∧ Below w.heap.size w w' := by
  have K := CBox.new w a b true
  obtain ⟨q0, q1, q2, f0, f1, f2⟩ := K.cells
  obtain ⟨r0, r1, r2, e0, e1, e2⟩ := row_three K.res
  have R1 := Lib.hid (fun w => ref22_Right s a b true hs w)
  rw [h] at R1
  have g0 : decide (b < (s.size : Int)) = false := decide_eq_false h0
  have g3 : decide (0 < a) = true := decide_eq_true h1
  have g1 : IntKind.i64.wrap (a - 1) = a - 1 := by rw [IntKind.wrap_i64]; omega
  have g2 : wrap64 (a - 1) = a - 1 := by unfold wrap64; omega
  clear hs h h0 h1 h2
  go_enter Tryd.func32, Tryd.ntmps32
  go_wp2_with (go_at_call 31; (with_reducible refine (R1.out _).mono ?_); rintro e u ⟨rfl, hb⟩; replace K := K.on hb; clear hb q0 q1 q2 f0 f1 f2 r0 r1 r2 e0 e1 e2; obtain ⟨q0, q1, q2, f0, f1, f2⟩ := K.cells; obtain ⟨r0, r1, r2, e0, e1, e2⟩ := row_three K.res)
  exact ret_three rfl rfl (three_row (K.zero (a - 1)).res) rfl Tryd.underlying23 rfl ⟨rfl, below_three (K.zero (a - 1)).below (by omega)⟩
set_option maxHeartbeats 1000000 in
set_option maxRecDepth 100000 in
theorem ref22_Cut_all (s : ByteArray) (a b : Int) (hs : s.size ≤ 1000000000000) (h : Span.right s.data.toList a b true = true) (h0 : ¬ b < (s.size : Int)) (h1 : ¬ 0 < a) (w : World) :
    Calls Tryd.prog 32 #[.string s, .agg #[.int .i64 a, .int .i64 b, .bool true]] w fun e w' => e = .returned (.agg #[.int .i64 a, .int .i64 b, .bool true]) ∧ Below w.heap.size w w' := by
  have K := CBox.new w a b true
  obtain ⟨q0, q1, q2, f0, f1, f2⟩ := K.cells
  obtain ⟨r0, r1, r2, e0, e1, e2⟩ := row_three K.res
  have R1 := Lib.hid (fun w => ref22_Right s a b true hs w)
  rw [h] at R1
  have g0 : decide (b < (s.size : Int)) = false := decide_eq_false h0
  have g3 : decide (0 < a) = false := decide_eq_false h1
  clear hs h h0 h1
  go_enter Tryd.func32, Tryd.ntmps32
  go_wp2_with (go_at_call 31; (with_reducible refine (R1.out _).mono ?_); rintro e u ⟨rfl, hb⟩; replace K := K.on hb; clear hb q0 q1 q2 f0 f1 f2 r0 r1 r2 e0 e1 e2; obtain ⟨q0, q1, q2, f0, f1, f2⟩ := K.cells; obtain ⟨r0, r1, r2, e0, e1, e2⟩ := row_three K.res)
  exact ret_three rfl rfl (three_row K.res) rfl Tryd.underlying23 rfl ⟨rfl, below_three K.below (by omega)⟩
theorem ref22_Cut (s : ByteArray) (a b : Int) (l : Bool) (hs : s.size ≤ 1000000000000) (w : World) :
    Calls Tryd.prog 32 #[.string s, .agg #[.int .i64 a, .int .i64 b, .bool l]] w fun e w' => e = .returned (.agg #[.int .i64 (Span.cut s.data.toList a b l).1, .int .i64 (Span.cut s.data.toList a b l).2.1, .bool (Span.cut s.data.toList a b l).2.2]) ∧ Below w.heap.size w w' := by
  unfold Span.cut
  cases h : Span.right s.data.toList a b l with
  | false => rw [if_neg (by decide)]; exact ref22_Cut_no s a b l hs h w
  | true =>
    have hi := Span.right_in h
    rw [if_pos rfl]
    cases l with
    | false => rw [if_neg (by decide)]; exact ref22_Cut_text s a b hs h w
    | true =>
      rw [if_pos rfl]
      rw [data_len] at hi ⊢
      by_cases h0 : b < (s.size : Int)
      · rw [if_pos h0]; exact ref22_Cut_behind s a b hs h h0 (by omega) w
      · rw [if_neg h0]
        by_cases h1 : 0 < a
        · rw [if_pos h1]; exact ref22_Cut_ahead s a b hs h h0 h1 (by omega) w
        · rw [if_neg h1]; exact ref22_Cut_all s a b hs h h0 h1 w
end Go.Proofs.YtfhljddakhigdaaDoor
/-
  A range taken out, or emptied, by the document.
-/
namespace Go.Proofs.YtfhljddakhigdaaDoor
open Go.RowKit
set_option maxHeartbeats 2000000 in
set_option maxRecDepth 100000 in
theorem ref23_Take_no (s : ByteArray) (a b : Int) (l : Bool) (hs : s.size ≤ 1000000000000) (h : Span.right s.data.toList a b l = false) (w : World) :
    Calls Tryd.prog 9 #[.string s, .agg #[.int .i64 a, .int .i64 b, .bool l]] w fun e w' => e = .returned (.tuple #[.string ⟨#[]⟩, .int .i64 0, .int .i64 1]) ∧ Below w.heap.size w w' := by
  have K := RBox.new w a b l
  obtain ⟨q0, q1, q2, f0, f1, f2⟩ := K.cells
  have R1 := Lib.hid (fun w => ref22_Right s a b l hs w)
  rw [h] at R1
  clear h hs
  go_enter Tryd.func9, Tryd.ntmps9
  go_wp2_with (first
    | (go_at_call 31; (with_reducible refine (R1.out _).mono ?_); rintro e u ⟨rfl, hb⟩; (first | replace K := K.on hb | replace K := K.ond hb); clear hb; clear q0 q1 q2 f0 f1 f2; obtain ⟨q0, q1, q2, f0, f1, f2⟩ := K.cells))
  go_ret3
  exact ⟨rfl, K.below⟩
set_option maxHeartbeats 2000000 in
set_option maxRecDepth 100000 in
theorem ref23_Take_none (s : ByteArray) (a b : Int) (hs : s.size ≤ 1000000000000) (h : Span.right s.data.toList a b false = true) (h0 : a = b) (w : World) :
    Calls Tryd.prog 9 #[.string s, .agg #[.int .i64 a, .int .i64 b, .bool false]] w fun e w' => e = .returned (.tuple #[.string ⟨#[]⟩, .int .i64 0, .int .i64 10]) ∧ Below w.heap.size w w' := by
  have K := RBox.new w a b false
  obtain ⟨q0, q1, q2, f0, f1, f2⟩ := K.cells
  have R1 := Lib.hid (fun w => ref22_Right s a b false hs w)
  rw [h] at R1
  have g0 : (a == b) = true := by simpa using h0
  clear h h0 hs
  go_enter Tryd.func9, Tryd.ntmps9
  go_wp2_with (first
    | (go_at_call 31; (with_reducible refine (R1.out _).mono ?_); rintro e u ⟨rfl, hb⟩; (first | replace K := K.on hb | replace K := K.ond hb); clear hb; clear q0 q1 q2 f0 f1 f2; obtain ⟨q0, q1, q2, f0, f1, f2⟩ := K.cells))
  go_ret3
  exact ⟨rfl, K.below⟩
set_option maxHeartbeats 2000000 in
set_option maxRecDepth 100000 in
theorem ref23_Take_text (s : ByteArray) (a b : Int) (hs : s.size ≤ 1000000000000) (h : Span.right s.data.toList a b false = true) (h0 : a ≠ b) (w : World) :
    Calls Tryd.prog 9 #[.string s, .agg #[.int .i64 a, .int .i64 b, .bool false]] w fun e w' => e = .returned (.tuple #[.string (bs (Opr.rest s.data.toList a b false)), .int .i64 (Line.clamp (Opr.rest s.data.toList a b false) a), .int .i64 0]) ∧ Below w.heap.size w w' := by
  have K := RBox.new w a b false
  obtain ⟨q0, q1, q2, f0, f1, f2⟩ := K.cells
  have R1 := Lib.hid (fun w => ref22_Right s a b false hs w)
  rw [h] at R1
  have g0 : (a == b) = false := by simpa using h0
  obtain ⟨p, q, hc, hpq, hq, _, _⟩ := Opr.cut_place h
  have hv := Opr.rest_valid h
  rw [data_len] at hq
  have C0 := fun w => ref22_Cut s a b false hs w
  rw [hc] at C0
  have C1 := Lib.hid C0
  have hXl : (Opr.rest s.data.toList a b false).length ≤ s.data.toList.length := by rw [Opr.rest_of hc]; exact Opr.put_less hpq (by rw [data_len]; exact hq)
  rw [data_len] at hXl
  have hX2 := Opr.rest_of hc
  have hXs : (bs (Opr.rest s.data.toList a b false)).size ≤ 1000000000000 := by rw [bs_size]; omega
  have A1 := Lib.hid (fun w => ref4_Clamp (bs (Opr.rest s.data.toList a b false)) a hXs w)
  rw [bs_toList] at A1
  generalize Opr.rest s.data.toList a b false = X at *
  generalize Line.clamp X a = z at *
  have e1 := extract_to s p
  have e2 := extract_from s q
  have e3 : bs (s.data.toList.take p) ++ bs (s.data.toList.drop q) = bs X := by rw [bs_append, hX2]; rfl
  have hz1 : (bs (s.data.toList.take p)).size ≤ s.size := by rw [bs_size, List.length_take]; omega
  have hz2 : (bs (s.data.toList.drop q)).size ≤ s.size := by rw [bs_size, List.length_drop, data_len]; omega
  generalize bs (s.data.toList.take p) = Y1 at *
  generalize bs (s.data.toList.drop q) = Y2 at *
  have c1 : (p : Int) ≤ (s.size : Int) := by omega
  have c2 : (q : Int) ≤ (s.size : Int) := by omega
  have c3 : ¬ 9223372036854775807 < Y1.size + Y2.size := by omega
  clear h h0 hc hv hpq hq C0 hX2 hXl hXs
  go_enter Tryd.func9, Tryd.ntmps9
  go_wp2_with (first
    | (go_at_call 31; (with_reducible refine (R1.out _).mono ?_); rintro e u ⟨rfl, hb⟩; (first | replace K := K.on hb | replace K := K.ond hb); clear hb; clear q0 q1 q2 f0 f1 f2; obtain ⟨q0, q1, q2, f0, f1, f2⟩ := K.cells)
    | (go_at_call 32; (with_reducible refine (C1.out _).mono ?_); rintro e u ⟨rfl, hb⟩; replace K := (K.on hb).alloc (.cells #[.int .i64 p, .int .i64 q, .bool false] 23); have KB := Blk.new u 23 #[.int .i64 p, .int .i64 q, .bool false]; have d0 : (u.alloc (.cells #[.int .i64 p, .int .i64 q, .bool false] 23)).cell? ⟨u.heap.size, 0, none⟩ = some (.int .i64 p) := KB.cell 0; have d1 : (u.alloc (.cells #[.int .i64 p, .int .i64 q, .bool false] 23)).cell? ⟨u.heap.size, 1, none⟩ = some (.int .i64 q) := KB.cell 1; clear KB hb; clear q0 q1 q2 f0 f1 f2; obtain ⟨q0, q1, q2, f0, f1, f2⟩ := K.cells))
  go_region
  all_goals replace K := K.drew
  all_goals (clear q0 q1 q2 f0 f1 f2; obtain ⟨q0, q1, q2, f0, f1, f2⟩ := K.cells)
  all_goals go_wp2_with (first
    | (go_at_call 33; (with_reducible refine (A1.out _).mono ?_); rintro e u ⟨rfl, hb⟩; (first | replace K := K.on hb | replace K := K.ond hb); clear hb; clear q0 q1 q2 f0 f1 f2; obtain ⟨q0, q1, q2, f0, f1, f2⟩ := K.cells))
  all_goals go_ret3
  all_goals exact ⟨rfl, K.below⟩
set_option maxHeartbeats 2000000 in
set_option maxRecDepth 100000 in
theorem ref23_Take_lines (s : ByteArray) (a b : Int) (hs : s.size ≤ 1000000000000) (h : Span.right s.data.toList a b true = true) (w : World) :
    Calls Tryd.prog 9 #[.string s, .agg #[.int .i64 a, .int .i64 b, .bool true]] w fun e w' => e = .returned (.tuple #[.string (bs (Opr.rest s.data.toList a b true)), .int .i64 (Line.first (Opr.rest s.data.toList a b true) (min (Line.of_ s.data.toList a) (((Line.L (Opr.rest s.data.toList a b true)).length : Int) - 1))), .int .i64 0]) ∧ Below w.heap.size w w' := by
  have K := RBox.new w a b true
  obtain ⟨q0, q1, q2, f0, f1, f2⟩ := K.cells
  have R1 := Lib.hid (fun w => ref22_Right s a b true hs w)
  rw [h] at R1
  obtain ⟨p, q, hc, hpq, hq, _, _⟩ := Opr.cut_place h
  have hv := Opr.rest_valid h
  rw [data_len] at hq
  have C0 := fun w => ref22_Cut s a b true hs w
  rw [hc] at C0
  have C1 := Lib.hid C0
  have hXl : (Opr.rest s.data.toList a b true).length ≤ s.data.toList.length := by rw [Opr.rest_of hc]; exact Opr.put_less hpq (by rw [data_len]; exact hq)
  rw [data_len] at hXl
  have hX2 := Opr.rest_of hc
  have hXs : (bs (Opr.rest s.data.toList a b true)).size ≤ 1000000000000 := by rw [bs_size]; omega
  have hn := Opr.L_some hv
  have hn2 := Line.L_length (Opr.rest s.data.toList a b true)
  have A2 := Lib.hid (fun w => ref4_Of s a hs w)
  obtain ⟨hab, hpa, _⟩ := Span.right_to h
  obtain ⟨hj0, hj1⟩ := Span.of_small hpa
  obtain ⟨j, hj⟩ : ∃ j : Nat, Line.of_ s.data.toList a = j := ⟨(Line.of_ s.data.toList a).toNat, by omega⟩
  rw [hj] at A2 hj1
  rw [data_len] at hj1
  rw [hj]
  have A3 := Lib.hid (fun w => ref4_Count (bs (Opr.rest s.data.toList a b true)) hXs w)
  have A4 := Lib.hid (fun k w => ref4_First (bs (Opr.rest s.data.toList a b true)) k hXs w)
  rw [bs_toList] at A3 A4
  generalize Opr.rest s.data.toList a b true = X at *
  generalize (Line.L X).length = n at *
  have e1 := extract_to s p
  have e2 := extract_from s q
  have e3 : bs (s.data.toList.take p) ++ bs (s.data.toList.drop q) = bs X := by rw [bs_append, hX2]; rfl
  have hz1 : (bs (s.data.toList.take p)).size ≤ s.size := by rw [bs_size, List.length_take]; omega
  have hz2 : (bs (s.data.toList.drop q)).size ≤ s.size := by rw [bs_size, List.length_drop, data_len]; omega
  generalize bs (s.data.toList.take p) = Y1 at *
  generalize bs (s.data.toList.drop q) = Y2 at *
  have c1 : (p : Int) ≤ (s.size : Int) := by omega
  have c2 : (q : Int) ≤ (s.size : Int) := by omega
  have c3 : ¬ 9223372036854775807 < Y1.size + Y2.size := by omega
  clear h hc hv hpq hq C0 hX2 hXl hXs hj hj0 hpa
  go_enter Tryd.func9, Tryd.ntmps9
  go_wp2_with (first
    | (go_at_call 31; (with_reducible refine (R1.out _).mono ?_); rintro e u ⟨rfl, hb⟩; (first | replace K := K.on hb | replace K := K.ond hb); clear hb; clear q0 q1 q2 f0 f1 f2; obtain ⟨q0, q1, q2, f0, f1, f2⟩ := K.cells)
    | (go_at_call 32; (with_reducible refine (C1.out _).mono ?_); rintro e u ⟨rfl, hb⟩; replace K := (K.on hb).alloc (.cells #[.int .i64 p, .int .i64 q, .bool true] 23); have KB := Blk.new u 23 #[.int .i64 p, .int .i64 q, .bool true]; have d0 : (u.alloc (.cells #[.int .i64 p, .int .i64 q, .bool true] 23)).cell? ⟨u.heap.size, 0, none⟩ = some (.int .i64 p) := KB.cell 0; have d1 : (u.alloc (.cells #[.int .i64 p, .int .i64 q, .bool true] 23)).cell? ⟨u.heap.size, 1, none⟩ = some (.int .i64 q) := KB.cell 1; clear KB hb; clear q0 q1 q2 f0 f1 f2; obtain ⟨q0, q1, q2, f0, f1, f2⟩ := K.cells))
  go_region
  all_goals replace K := K.drew
  all_goals (clear q0 q1 q2 f0 f1 f2; obtain ⟨q0, q1, q2, f0, f1, f2⟩ := K.cells)
  all_goals (go_wp2_with (first
    | (go_at_call 34; (with_reducible refine (A2.out _).mono ?_); rintro e u ⟨rfl, hb⟩; (first | replace K := K.on hb | replace K := K.ond hb); clear hb; clear q0 q1 q2 f0 f1 f2; obtain ⟨q0, q1, q2, f0, f1, f2⟩ := K.cells)
    | fail))
  all_goals go_loopw [9] (fun kv wr => ∃ m : Nat, kv = .int .i64 m ∧ m ≤ j ∧ (m = j ∨ n ≤ m + 1) ∧ RBox w wr a b true) (fun kv _ => (intOf kv).toNat)
  case atStart => exact ⟨j, rfl, Nat.le_refl _, .inl rfl, K⟩
  case round =>
    clear K q0 q1 q2 f0 f1 f2
    obtain ⟨m, rfl, hmj, hmn, K⟩ := hrel
    obtain ⟨q0, q1, q2, f0, f1, f2⟩ := K.cells
    by_cases hlt : n ≤ m
    · have g1 : decide ((n : Int) ≤ (m : Int)) = true := decide_eq_true (by omega)
      have g2 : IntKind.i64.wrap ((m : Int) - 1) = ((m - 1 : Nat) : Int) := by rw [IntKind.wrap_i64]; omega
      have g3 : wrap64 ((m : Int) - 1) = ((m - 1 : Nat) : Int) := by unfold wrap64; omega
      go_wp2_with (go_at_call 35; (with_reducible refine (A3.out _).mono ?_); rintro e u ⟨rfl, hb⟩; (first | replace K := K.on hb | replace K := K.ond hb); clear hb; clear q0 q1 q2 f0 f1 f2; obtain ⟨q0, q1, q2, f0, f1, f2⟩ := K.cells)
      go_roundw
      case rel => exact ⟨m - 1, by first | rfl | (congr 1; omega), by omega, by omega, K⟩
      case measure => simp [intOf]; omega
    · have g1 : decide ((n : Int) ≤ (m : Int)) = false := decide_eq_false (by omega)
      have hm : min (j : Int) ((n : Int) - 1) = (m : Int) := by omega
      go_wp2_with (first
        | (go_at_call 35; (with_reducible refine (A3.out _).mono ?_); rintro e u ⟨rfl, hb⟩; (first | replace K := K.on hb | replace K := K.ond hb); clear hb; clear q0 q1 q2 f0 f1 f2; obtain ⟨q0, q1, q2, f0, f1, f2⟩ := K.cells)
        | (go_at_call 36; (with_reducible refine (A4.out _ _).mono ?_); rintro e u ⟨rfl, hb⟩; replace K := K.on hb; clear hb; clear q0 q1 q2 f0 f1 f2; obtain ⟨q0, q1, q2, f0, f1, f2⟩ := K.cells))
      go_ret3
      exact ⟨by rw [hm]; rfl, K.below⟩
theorem ref23_Take (s : ByteArray) (a b : Int) (l : Bool) (hs : s.size ≤ 1000000000000) (w : World) :
    Calls Tryd.prog 9 #[.string s, .agg #[.int .i64 a, .int .i64 b, .bool l]] w fun e w' => e = .returned (Opr.val (Opr.take s.data.toList a b l)) ∧ Below w.heap.size w w' := by
  rw [Opr.take]
  cases h : Span.right s.data.toList a b l with
  | false => rw [Opr.fault_arg h, if_neg (by decide), Opr.val_no]; exact ref23_Take_no s a b l hs h w
  | true =>
    cases l with
    | true => rw [Opr.fault_ok h (by simp), if_pos rfl, if_pos rfl, Opr.val_mk]; exact ref23_Take_lines s a b hs h w
    | false =>
      by_cases h0 : a = b
      · have h2 := h
        rw [← h0] at h2
        rw [show Opr.fault s.data.toList a b false = 10 by rw [← h0]; exact Opr.fault_move h2, if_neg (by decide), Opr.val_no]
        exact ref23_Take_none s a b hs h h0 w
      · rw [Opr.fault_ok h (fun e => h0 e.2), if_pos rfl, if_neg (by decide), Opr.val_mk]; exact ref23_Take_text s a b hs h h0 w
set_option maxHeartbeats 2000000 in
set_option maxRecDepth 100000 in
theorem ref23_Clear_no (s : ByteArray) (a b : Int) (l : Bool) (hs : s.size ≤ 1000000000000) (h : Span.right s.data.toList a b l = false) (w : World) :
    Calls Tryd.prog 11 #[.string s, .agg #[.int .i64 a, .int .i64 b, .bool l]] w fun e w' => e = .returned (.tuple #[.string ⟨#[]⟩, .int .i64 0, .int .i64 1]) ∧ Below w.heap.size w w' := by
  have K := RBox.new w a b l
  obtain ⟨q0, q1, q2, f0, f1, f2⟩ := K.cells
  have R1 := Lib.hid (fun w => ref22_Right s a b l hs w)
  rw [h] at R1
  clear h hs
  go_enter Tryd.func11, Tryd.ntmps11
  go_wp2_with (first
    | (go_at_call 31; (with_reducible refine (R1.out _).mono ?_); rintro e u ⟨rfl, hb⟩; (first | replace K := K.on hb | replace K := K.ond hb); clear hb; clear q0 q1 q2 f0 f1 f2; obtain ⟨q0, q1, q2, f0, f1, f2⟩ := K.cells))
  go_ret3
  exact ⟨rfl, K.below⟩
set_option maxHeartbeats 2000000 in
set_option maxRecDepth 100000 in
theorem ref23_Clear_ok (s : ByteArray) (a b : Int) (l : Bool) (hs : s.size ≤ 1000000000000) (h : Span.right s.data.toList a b l = true) (w : World) :
    Calls Tryd.prog 11 #[.string s, .agg #[.int .i64 a, .int .i64 b, .bool l]] w fun e w' => e = .returned (.tuple #[.string (bs (Opr.put s.data.toList a b [])), .int .i64 a, .int .i64 0]) ∧ Below w.heap.size w w' := by
  obtain ⟨h0, h1, h2⟩ := Span.right_in h
  rw [data_len] at h2
  obtain ⟨p, rfl⟩ : ∃ p : Nat, a = p := ⟨a.toNat, by omega⟩
  obtain ⟨q, rfl⟩ : ∃ q : Nat, b = q := ⟨b.toNat, by omega⟩
  have hq : q ≤ s.size := by omega
  have hpq : p ≤ q := by omega
  have K := RBox.new w p q l
  obtain ⟨q0, q1, q2, f0, f1, f2⟩ := K.cells
  have R1 := Lib.hid (fun w => ref22_Right s p q l hs w)
  rw [h] at R1
  have hX2 : Opr.put s.data.toList p q [] = Opr.put s.data.toList p q [] := rfl
  generalize hX3 : Opr.put s.data.toList p q [] = X at *
  have e1 := extract_to s p
  have e2 := extract_from s q
  have e3 : bs (s.data.toList.take p) ++ bs (s.data.toList.drop q) = bs X := by rw [bs_append, ← hX3]; rfl
  have hz1 : (bs (s.data.toList.take p)).size ≤ s.size := by rw [bs_size, List.length_take]; omega
  have hz2 : (bs (s.data.toList.drop q)).size ≤ s.size := by rw [bs_size, List.length_drop, data_len]; omega
  generalize bs (s.data.toList.take p) = Y1 at *
  generalize bs (s.data.toList.drop q) = Y2 at *
  have c1 : (p : Int) ≤ (s.size : Int) := by omega
  have c2 : (q : Int) ≤ (s.size : Int) := by omega
  have c3 : ¬ 9223372036854775807 < Y1.size + Y2.size := by omega
  clear h h0 h1 h2 hX2 hX3
  go_enter Tryd.func11, Tryd.ntmps11
  go_wp2_with (first
    | (go_at_call 31; (with_reducible refine (R1.out _).mono ?_); rintro e u ⟨rfl, hb⟩; (first | replace K := K.on hb | replace K := K.ond hb); clear hb; clear q0 q1 q2 f0 f1 f2; obtain ⟨q0, q1, q2, f0, f1, f2⟩ := K.cells))
  go_region
  all_goals replace K := K.drew
  all_goals go_wp2
  all_goals go_ret3
  all_goals exact ⟨rfl, K.below⟩
theorem ref23_Clear (s : ByteArray) (a b : Int) (l : Bool) (hs : s.size ≤ 1000000000000) (w : World) :
    Calls Tryd.prog 11 #[.string s, .agg #[.int .i64 a, .int .i64 b, .bool l]] w fun e w' => e = .returned (Opr.val (Opr.clear s.data.toList a b l)) ∧ Below w.heap.size w w' := by
  rw [Opr.clear]
  cases h : Span.right s.data.toList a b l with
  | false => rw [if_neg (by decide), Opr.val_no]; exact ref23_Clear_no s a b l hs h w
  | true => rw [if_pos rfl, Opr.val_mk]; exact ref23_Clear_ok s a b l hs h w
end Go.Proofs.YtfhljddakhigdaaDoor
