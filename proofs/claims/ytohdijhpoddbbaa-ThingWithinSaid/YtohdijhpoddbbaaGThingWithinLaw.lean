/-
  'calamuslaw19.ThingWithin' answers true for every text, place and kind: what is inside lies within the whole, both at places; words and signs in their line.
-/
import Derived.Test.YtohdijhpoddbbaaJT
import Derived.Test.YtohdijhpoddbbaaFrame
/-
  What is inside a thing lies within the whole, both at places, without a program.
-/
namespace Go.Proofs.Ytohdijhpoddbbaa
namespace Thing
open Utf (dec off place prev next valid valid_ok place_at prev_zero next_no)
open Line (L L_valid L_whole L_each line line_nat start_some stop_some of_ of_at idx_find)
open Class (kind low_ high_ kind_none low_none low_some high_some prev_under)
/-- A sign of one byte stands at a place, and so does what is behind it. -/
theorem small_place {s : List UInt8} (hv : valid s = true) {i : Nat} {b : UInt8} (h : s[i]? = some b) (hb : b.toNat < 128) : place s (i : Int) = true ∧ place s ((i : Int) + 1) = true := by
  obtain ⟨rs, hd⟩ := Utf.valid_of hv
  obtain ⟨hi, he⟩ := List.getElem?_eq_some_iff.1 h
  have hpre : [b] <+: s.drop i := by
    rw [List.drop_eq_getElem_cons hi, he]
    exact ⟨s.drop (i + 1), rfl⟩
  obtain ⟨j, hj, hx⟩ := (Seek.pre_iff hd ((Utf.one1 b).2 hb) i).1 hpre
  have hjl := (List.getElem?_eq_some_iff.1 hj).1
  have hn := Utf.off_next hj
  rw [List.length_singleton, hx] at hn
  refine ⟨by rw [← hx]; exact place_at hd (Nat.le_of_lt hjl), ?_⟩
  rw [show ((i : Int) + 1) = ((i + 1 : Nat) : Int) from rfl, ← hn]
  exact place_at hd hjl
/-- Two runs that meet lie in one line. -/
theorem runs_meet {s : List UInt8} {p q : Nat} {big c : Bool} {k l : Nat} {x y : Nat × Nat} {a b u v z : Nat} (r : Run s p big k x a b) (t : Run s q c l y u v) (h1 : a ≤ z) (h2 : z ≤ b) (h3 : u ≤ z) (h4 : z ≤ v) : l = k := by
  have W := L_whole (L_valid r.line)
  have := r.xa; have := r.xb; have := t.xa; have := t.xb
  exact (W.unique r.line t.line (p := z) (by omega) (by omega) (by omega) (by omega)).symm
/-- The whole of a run. -/
theorem wid_in {s : List UInt8} {p : Nat} {big : Bool} {k : Nat} {x : Nat × Nat} {a b : Nat} (r : Run s p big k x a b) : ∃ c d : Nat, wid s a b big = ((c : Int), (d : Int)) ∧ c ≤ a ∧ b ≤ d ∧ place s (c : Int) = true ∧ place s (d : Int) = true ∧ of_ s (c : Int) = k ∧ of_ s (d : Int) = k := by
  have hpl : of_ s (a : Int) = k := of_at r.line r.xa (by have := r.le; have := r.lt; have := r.xb; omega)
  have hph : of_ s (b : Int) = k := of_at r.line (by have := r.le; have := r.lt; have := r.xa; omega) r.xb
  have on : ¬ high_ s (b : Int) big < 0 → ∃ d : Nat, high_ s (b : Int) big = d ∧ b ≤ d ∧ place s (d : Int) = true ∧ of_ s (d : Int) = k := fun h => by
    obtain ⟨n, l, y, u, v, hn, t⟩ := run_has (s := s) (p := (b : Int)) (big := big) (fun h1 => h ((low_high s b big).1 h1))
    obtain rfl : n = b := by omega
    have hlt := t.lt
    obtain rfl := runs_meet r t (z := n) (by have := r.le; have := r.lt; omega) (Nat.le_refl _) t.le (by omega)
    exact ⟨v, t.high, by omega, t.pb, of_at t.line (by have := t.xa; have := t.le; omega) t.xb⟩
  unfold wid
  split
  · split
    · exact ⟨a, b, rfl, Nat.le_refl _, Nat.le_refl _, r.pa, r.pb, hpl, hph⟩
    · rename_i h
      obtain ⟨d, h1, h2, h3, h4⟩ := on h
      exact ⟨a, d, by rw [h1], Nat.le_refl _, h2, r.pa, h3, hpl, h4⟩
  · split
    · rename_i h
      have hk := (kind_one s (b : Int) big).2 h
      have hh : ¬ high_ s (b : Int) big < 0 := by
        unfold high_; rw [hk, if_neg (by decide)]; omega
      obtain ⟨d, h1, h2, h3, h4⟩ := on hh
      exact ⟨a, d, by rw [h1], Nat.le_refl _, h2, r.pa, h3, hpl, h4⟩
    · split
      · rename_i h
        have hk := (kind_one s (prev s (a : Int)) big).2 h
        have hl : ¬ low_ s (prev s (a : Int)) big < 0 := by
          unfold low_; rw [hk, if_neg (by decide)]; omega
        obtain ⟨n, l, y, u, v, hn, t⟩ := run_has hl
        obtain ⟨rs, hd⟩ := Utf.valid_of (L_valid r.line)
        have h0 : 0 < a := by
          rcases Nat.eq_zero_or_pos a with h0 | h0
          · rw [h0, show ((0 : Nat) : Int) = 0 from rfl, prev_zero hd] at hn; omega
          · exact h0
        obtain ⟨g, g1, g2, g3, g4⟩ := prev_under hd r.pa h0
        obtain rfl : g = n := by omega
        have hav : a ≤ v := by
          rcases Nat.lt_or_ge v a with h1 | h1
          · have := g4 v t.lt h1; rw [t.pb] at this; cases this
          · exact h1
        have hul := t.le
        obtain rfl := runs_meet r t (z := a) (Nat.le_refl _) (by have := r.le; have := r.lt; omega) (by omega) hav
        refine ⟨u, b, by rw [hn, t.low], by omega, Nat.le_refl _, t.pa, r.pb, of_at t.line t.xa (by have := t.xb; omega), hph⟩
      · exact ⟨a, b, rfl, Nat.le_refl _, Nat.le_refl _, r.pa, r.pb, hpl, hph⟩
/-- What is asked of a thing inside and of the whole. -/
structure Lies (s : List UInt8) (a b c d : Int) : Prop where
  ca : c ≤ a
  ab : a ≤ b
  bd : b ≤ d
  pa : place s a = true
  pb : place s b = true
  pc : place s c = true
  pd : place s d = true
theorem word_in (s : List UInt8) (p : Int) (big : Bool) : (wrd s p big false = none ∧ wrd s p big true = none) ∨
    ∃ a b c d, wrd s p big false = some (a, b) ∧ wrd s p big true = some (c, d) ∧ Lies s a b c d ∧ of_ s c = of_ s p ∧ of_ s d = of_ s p := by
  by_cases h : low_ s p big < 0
  · exact .inl ⟨by rw [wrd, if_pos h], by rw [wrd, if_pos h]⟩
  · obtain ⟨n, k, x, a, b, rfl, r⟩ := run_has h
    obtain ⟨c, d, hw, h1, h2, h3, h4, h5, h6⟩ := wid_in r
    have hof : of_ s (n : Int) = k := of_at r.line (by have := r.xa; have := r.le; omega) (by have := r.xb; have := r.lt; omega)
    have := r.le; have := r.lt
    refine .inr ⟨a, b, c, d, ?_, ?_, ⟨by omega, by omega, by omega, r.pa, r.pb, h3, h4⟩, by rw [h5, hof], by rw [h6, hof]⟩
    · rw [wrd, if_neg h, r.low, r.high]; rfl
    · rw [wrd, if_neg h, r.low, r.high, ← hw]; rfl
theorem btw_in {s : List UInt8} (hv : valid s = true) {x y : Nat} {o q : UInt8} (hx : s[x]? = some o) (ho : o.toNat < 128) (hy : s[y]? = some q) (hq : q.toNat < 128) (h : x < y) : Lies s (btw (x, y) false).1 (btw (x, y) false).2 (btw (x, y) true).1 (btw (x, y) true).2 := by
  have h1 := small_place hv hx ho
  have h2 := small_place hv hy hq
  simp only [btw, if_true]
  exact ⟨by simp; omega, by simp; omega, by simp; omega, by simpa using h1.2, by simpa using h2.1, h1.1, h2.2⟩
theorem sign_in {s : List UInt8} {p : Int} (hp : place s p = true) {q : UInt8} (hq : q.toNat < 128) {z : Nat × Nat} (h : quo s p q = some z) :
    Lies s (btw z false).1 (btw z false).2 (btw z true).1 (btw z true).2 ∧ of_ s (btw z true).1 = of_ s p ∧ of_ s (btw z true).2 = of_ s p := by
  obtain ⟨n, k, x, rfl, hk, h1, h2, h3, e1, e2, e3⟩ := Line.place_line hp
  rw [quo, sgs, e2, e3, Int.toNat_natCast, Int.toNat_natCast] at h
  obtain ⟨g1, g2, g3, g4⟩ := two_in (pos_sorted _ _ _ _) h
  obtain ⟨i1, i2, i3⟩ := pos_in g1
  obtain ⟨j1, j2, j3⟩ := pos_in g2
  obtain ⟨u, v⟩ := z
  dsimp only at *
  refine ⟨btw_in (L_valid hk) i3 hq j3 hq g3, ?_, ?_⟩
  · rw [e1]
    exact of_at (p := u) hk i1 (by omega)
  · rw [e1]
    exact of_at (p := v + 1) hk (by omega) (by omega)
theorem bracket_in {s k : List UInt8} {p : Int} {x : Nat × Nat} (h : Pair.ar s k p = some x) :
    Lies s (btw x false).1 (btw x false).2 (btw x true).1 (btw x true).2 ∧ (btw x true).1 ≤ p ∧ p ≤ (btw x true).2 := by
  rw [Pair.ar] at h
  split at h
  · obtain ⟨h1, h2, h3⟩ := Pair.arnd_mem h
    obtain ⟨o, c, rfl, hc, hv, h4, h5, h6, h7⟩ := Pair.all_mem h1
    obtain ⟨o', he, _, h8, h9⟩ := Pair.clo_facts hc
    injection he with he
    subst he
    obtain ⟨u, v⟩ := x
    dsimp only at *
    refine ⟨btw_in hv h6 h8 h7 h9 h4, ?_, ?_⟩
    · simpa [btw] using h2
    · simp only [btw, if_true]; omega
  · cases h
theorem lines_in {s : List UInt8} {j k : Nat} {x y : Nat × Nat} (hx : (L s)[j]? = some x) (hy : (L s)[k]? = some y) (h : j ≤ k) : x.1 ≤ y.1 ∧ x.2 ≤ y.2 := by
  rcases Nat.eq_or_lt_of_le h with e | hlt
  · subst e; rw [hx] at hy; injection hy with hy; subst hy; exact ⟨Nat.le_refl _, Nat.le_refl _⟩
  · have := (L_whole (L_valid hx)).mono hx hy hlt
    have := L_each hx
    have := L_each hy
    omega
theorem block_in {s : List UInt8} {p : Int} (hp : place s p = true) :
    Lies s (blk s p false).1 (blk s p false).2 (blk s p true).1 (blk s p true).2 ∧ (blk s p true).1 ≤ p ∧ p ≤ (blk s p true).2 := by
  obtain ⟨n, k, x, rfl, hk, h1, h2, h3, e1, e2, e3⟩ := Line.place_line hp
  have R := Para.all_right (L_valid hk)
  have hkl := (List.getElem?_eq_some_iff.1 hk).1
  have I := R.block hkl
  have T := R.block_two I
  have hf : lns s n false = Para.blockV (Para.all s) k false := by rw [lns, e1, Int.toNat_natCast]
  have ht : lns s n true = Para.blockV (Para.all s) k true := by rw [lns, e1, Int.toNat_natCast]
  generalize hab : Para.blockV (Para.all s) k false = ab at *
  obtain ⟨a, b⟩ := ab
  dsimp only at I T
  have hc : ∃ c d, Para.blockV (Para.all s) k true = (c, d) ∧ c ≤ a ∧ b ≤ d ∧ d < (L s).length := by
    have := I.le; have := I.ge; have := I.lt
    by_cases hb : b + 1 < (L s).length
    · have I2 := R.block hb
      exact ⟨_, _, T.1 _ _ hb I2, Nat.le_refl _, by have := I2.ge; omega, I2.lt⟩
    · rcases Nat.eq_zero_or_pos a with h0 | h0
      · exact ⟨_, _, T.2.2 (by omega) h0, Nat.le_refl _, Nat.le_refl _, I.lt⟩
      · have I2 := R.block (k := a - 1) (by omega)
        exact ⟨_, _, T.2.1 _ _ (by omega) h0 I2, by have := I2.le; omega, Nat.le_refl _, I.lt⟩
  obtain ⟨c, d, hcd, g1, g2, g3⟩ := hc
  rw [hcd] at ht
  have i1 := I.le; have i2 := I.ge; have i3 := I.lt
  have la : (L s)[a]? = some (L s)[a] := List.getElem?_eq_getElem (by omega)
  have lb : (L s)[b]? = some (L s)[b] := List.getElem?_eq_getElem (by omega)
  have lc : (L s)[c]? = some (L s)[c] := List.getElem?_eq_getElem (by omega)
  have ld : (L s)[d]? = some (L s)[d] := List.getElem?_eq_getElem (by omega)
  have m1 := (lines_in lc la g1).1
  have m2 := (lines_in la hk i1).1
  have m3 := (lines_in hk lb i2).2
  have m4 := (lines_in lb ld g2).2
  simp only [blk, hf, ht]
  rw [start_some (by rw [line_nat]; exact la), start_some (by rw [line_nat]; exact lc), stop_some (by rw [line_nat]; exact lb), stop_some (by rw [line_nat]; exact ld)]
  exact ⟨⟨by omega, by omega, by omega, Line.start_ok la, Line.stop_ok lb, Line.start_ok lc, Line.stop_ok ld⟩, by omega, by omega⟩
/-- Which kinds lie in one line. -/
def lined (m : Nat) : Bool := decide (m < 2) || (decide (6 ≤ m) && decide (m < 9))
theorem way_in {s : List UInt8} {p : Int} (hp : place s p = true) {m : Nat} (hm : m < 10) : (way m s p false = none ∧ way m s p true = none) ∨
    ∃ a b c d, way m s p false = some (a, b) ∧ way m s p true = some (c, d) ∧ Lies s a b c d ∧ (lined m = true → of_ s c = of_ s p ∧ of_ s d = of_ s p) ∧ (lined m = false → c ≤ p ∧ p ≤ d) := by
  have word : ∀ big, (wrd s p big false = none ∧ wrd s p big true = none) ∨ ∃ a b c d, wrd s p big false = some (a, b) ∧ wrd s p big true = some (c, d) ∧ Lies s a b c d ∧ (true = true → of_ s c = of_ s p ∧ of_ s d = of_ s p) ∧ (true = false → c ≤ p ∧ p ≤ d) := fun big => by
    rcases word_in s p big with h | ⟨a, b, c, d, h1, h2, h3, h4⟩
    · exact .inl h
    · exact .inr ⟨a, b, c, d, h1, h2, h3, fun _ => h4, fun h => by cases h⟩
  have brk : ∀ k, ((Pair.ar s k p).map (btw · false) = none ∧ (Pair.ar s k p).map (btw · true) = none) ∨ ∃ a b c d, (Pair.ar s k p).map (btw · false) = some (a, b) ∧ (Pair.ar s k p).map (btw · true) = some (c, d) ∧ Lies s a b c d ∧ (false = true → of_ s c = of_ s p ∧ of_ s d = of_ s p) ∧ (false = false → c ≤ p ∧ p ≤ d) := fun k => by
    cases h : Pair.ar s k p with
    | none => exact .inl ⟨rfl, rfl⟩
    | some x => have := bracket_in h; exact .inr ⟨_, _, _, _, rfl, rfl, this.1, fun h => (by cases h), fun _ => this.2⟩
  have sg : ∀ q : UInt8, q.toNat < 128 → ((quo s p q).map (btw · false) = none ∧ (quo s p q).map (btw · true) = none) ∨ ∃ a b c d, (quo s p q).map (btw · false) = some (a, b) ∧ (quo s p q).map (btw · true) = some (c, d) ∧ Lies s a b c d ∧ (true = true → of_ s c = of_ s p ∧ of_ s d = of_ s p) ∧ (true = false → c ≤ p ∧ p ≤ d) := fun q hq => by
    cases h : quo s p q with
    | none => exact .inl ⟨rfl, rfl⟩
    | some x => have := sign_in hp hq h; exact .inr ⟨_, _, _, _, rfl, rfl, this.1, fun _ => this.2, fun h => (by cases h)⟩
  rcases m with _ | _ | _ | _ | _ | _ | _ | _ | _ | _ | m
  · exact word false
  · exact word true
  · exact brk [40]
  · exact brk [91]
  · exact brk [123]
  · exact brk [60]
  · exact sg 34 (by decide)
  · exact sg 39 (by decide)
  · exact sg 96 (by decide)
  · have := block_in hp
    exact .inr ⟨_, _, _, _, rfl, rfl, this.1, fun h => (by cases h), fun _ => this.2⟩
  · omega
theorem cls_lt (j : Nat) : cls j < 10 := by
  unfold cls; split <;> omega
end Thing
end Go.Proofs.Ytohdijhpoddbbaa
namespace Go.Proofs.Ytohdijhpoddbbaa
open Go.RowKit
open Thing (res thg num cls)
theorem Thing.key_test (k : ByteArray) (m : UInt8) : (k.toList == [m]) = decide (k.data.toList = [m]) := by
  rw [show k.toList = k.data.toList from bs_tl k.data.toList, Bool.eq_iff_iff]; simp
theorem Thing.key_is {k : ByteArray} {m : UInt8} (h : k.data.toList = [m]) : (k.toList == [m]) = true := by rw [key_test, h]; simp
theorem Thing.key_not {k : ByteArray} {n : UInt8} (m : UInt8) (h : k.data.toList = [n]) (hn : n ≠ m) : (k.toList == [m]) = false := by rw [key_test, h]; simpa using hn
set_option maxHeartbeats 4000000 in
set_option maxRecDepth 100000 in
theorem thingWithin_none (s : ByteArray) (p : Int) (key : ByteArray) (hs : s.size ≤ 300) (hk : key.size ≤ 140737488351232) (h1 : thg s.data.toList p false key.data.toList = none) (h2 : thg s.data.toList p true key.data.toList = none) (w : World) :
    Calls Try.prog 5 #[.string s, .int .i64 p, .string key] w fun e w' => e = .returned (.bool true) ∧ Below w.heap.size w w' := by
  have LV := Lib.hid thing_lives
  have g0 : decide ((300 : Int) < (s.size : Int)) = false := decide_eq_false (by omega)
  have A0 := fun w => thing_Of s p false key (by omega) (by omega) w
  have A1 := fun w => thing_Of s p true key (by omega) (by omega) w
  rw [h1] at A0
  rw [h2] at A1
  rw [Thing.res_none] at A0 A1
  have C0 := Lib.hid A0
  have C1 := Lib.hid A1
  have ES := @eql_same
  clear A0 A1 h1 h2 hs hk
  go_enter Try.func5, Try.ntmps5
  go_wp2_with fail
  with_reducible refine (C0.out _).mono ?_
  rintro e w1 ⟨rfl, hb1⟩
  have E1 := Blk.new w1 24 #[.int .i64 0, .int .i64 0, .bool false]
  have X1 := hb1.alloc hb1.size (.cells #[.int .i64 0, .int .i64 0, .bool false] 24)
  clear hb1
  go_wp2_with fail
  with_reducible refine (C1.out _).mono ?_
  rintro e w2 ⟨rfl, hb2⟩
  have E2 := (E1.below hb2 E1.lt).alloc (.cells #[.int .i64 0, .int .i64 0, .bool false] 24)
  have F2 := Blk.new w2 24 #[.int .i64 0, .int .i64 0, .bool false]
  have hX := (X1.trans (hb2.mono X1.size)).alloc (X1.trans (hb2.mono X1.size)).size (.cells #[.int .i64 0, .int .i64 0, .bool false] 24)
  obtain ⟨a0, a1, a2, _, _, _⟩ := row_three E2
  obtain ⟨b0, b1, b2, _, _, _⟩ := row_three F2
  clear E1 E2 F2 X1 hb2
  go_wp2_with (go_at_call 6; (with_reducible refine (LV.out _).mono ?_); rintro e w9 ⟨rfl, hbn⟩; replace hX := hX.trans (hbn.mono hX.size); clear hbn)
  go_ret
  exact ⟨rfl, hX⟩
set_option maxHeartbeats 4000000 in
set_option maxRecDepth 100000 in
theorem thingWithin_pairs (s : ByteArray) (p : Int) (key : ByteArray) (hs : s.size ≤ 300) (hk : key.size ≤ 140737488351232) {a b c d : Int} (h1 : thg s.data.toList p false key.data.toList = some (a, b, false)) (h2 : thg s.data.toList p true key.data.toList = some (c, d, false)) (hl : Thing.Lies s.data.toList a b c d) (h3 : c ≤ p) (h4 : p ≤ d) (k0 : (key.toList == [112]) = false) (k1 : (key.toList == [119]) = false) (k2 : (key.toList == [87]) = false) (k3 : (key.toList == [34]) = false) (k4 : (key.toList == [39]) = false) (k5 : (key.toList == [96]) = false) (w : World) :
    Calls Try.prog 5 #[.string s, .int .i64 p, .string key] w fun e w' => e = .returned (.bool true) ∧ Below w.heap.size w w' := by
  have LV := Lib.hid thing_lives
  have g0 : decide ((300 : Int) < (s.size : Int)) = false := decide_eq_false (by omega)
  have A0 := fun w => thing_Of s p false key (by omega) (by omega) w
  have A1 := fun w => thing_Of s p true key (by omega) (by omega) w
  have P1 := Lib.hid (fun w => utf_Place s a (by omega) w)
  have P2 := Lib.hid (fun w => utf_Place s b (by omega) w)
  have P3 := Lib.hid (fun w => utf_Place s c (by omega) w)
  have P4 := Lib.hid (fun w => utf_Place s d (by omega) w)
  rw [hl.pa] at P1
  rw [hl.pb] at P2
  rw [hl.pc] at P3
  rw [hl.pd] at P4
  have g1 : decide (a < c) = false := decide_eq_false (by have := hl.ca; omega)
  have g2 : decide (b < a) = false := decide_eq_false (by have := hl.ab; omega)
  have g3 : decide (d < b) = false := decide_eq_false (by have := hl.bd; omega)
  rw [h1, Thing.res_some] at A0
  rw [h2, Thing.res_some] at A1
  have C0 := Lib.hid A0
  have C1 := Lib.hid A1
  have g4 : decide (c ≤ p) = true := decide_eq_true h3
  have g5 : decide (p ≤ d) = true := decide_eq_true h4
  clear A0 A1 h1 h2 h3 h4 hl hs hk
  go_enter Try.func5, Try.ntmps5
  go_wp2_with fail
  with_reducible refine (C0.out _).mono ?_
  rintro e w1 ⟨rfl, hb1⟩
  have E1 := Blk.new w1 24 #[.int .i64 a, .int .i64 b, .bool false]
  have X1 := hb1.alloc hb1.size (.cells #[.int .i64 a, .int .i64 b, .bool false] 24)
  clear hb1
  go_wp2_with fail
  with_reducible refine (C1.out _).mono ?_
  rintro e w2 ⟨rfl, hb2⟩
  have E2 := (E1.below hb2 E1.lt).alloc (.cells #[.int .i64 c, .int .i64 d, .bool false] 24)
  have F2 := Blk.new w2 24 #[.int .i64 c, .int .i64 d, .bool false]
  have hX := (X1.trans (hb2.mono X1.size)).alloc (X1.trans (hb2.mono X1.size)).size (.cells #[.int .i64 c, .int .i64 d, .bool false] 24)
  obtain ⟨a0, a1, a2, _, _, _⟩ := row_three E2
  obtain ⟨b0, b1, b2, _, _, _⟩ := row_three F2
  clear E1 E2 F2 X1 hb2
  go_wp2_with (first
    | (go_at_call 11; (with_reducible refine (P1.out _).mono ?_); rintro e w8 ⟨rfl, rfl⟩)
    | (go_at_call 11; (with_reducible refine (P2.out _).mono ?_); rintro e w8 ⟨rfl, rfl⟩)
    | (go_at_call 11; (with_reducible refine (P3.out _).mono ?_); rintro e w8 ⟨rfl, rfl⟩)
    | (go_at_call 11; (with_reducible refine (P4.out _).mono ?_); rintro e w8 ⟨rfl, rfl⟩)
    | (go_at_call 6; (with_reducible refine (LV.out _).mono ?_); rintro e w9 ⟨rfl, hbn⟩; replace hX := hX.trans (hbn.mono hX.size); clear hbn))
  go_ret
  exact ⟨rfl, hX⟩
set_option maxHeartbeats 4000000 in
set_option maxRecDepth 100000 in
theorem thingWithin_lines (s : ByteArray) (p : Int) (key : ByteArray) (hs : s.size ≤ 300) (hk : key.size ≤ 140737488351232) {a b c d : Int} (h1 : thg s.data.toList p false key.data.toList = some (a, b, true)) (h2 : thg s.data.toList p true key.data.toList = some (c, d, true)) (hl : Thing.Lies s.data.toList a b c d) (h3 : c ≤ p) (h4 : p ≤ d) (k0 : (key.toList == [112]) = true) (k1 : (key.toList == [119]) = false) (k2 : (key.toList == [87]) = false) (k3 : (key.toList == [34]) = false) (k4 : (key.toList == [39]) = false) (k5 : (key.toList == [96]) = false) (w : World) :
    Calls Try.prog 5 #[.string s, .int .i64 p, .string key] w fun e w' => e = .returned (.bool true) ∧ Below w.heap.size w w' := by
  have LV := Lib.hid thing_lives
  have g0 : decide ((300 : Int) < (s.size : Int)) = false := decide_eq_false (by omega)
  have A0 := fun w => thing_Of s p false key (by omega) (by omega) w
  have A1 := fun w => thing_Of s p true key (by omega) (by omega) w
  have P1 := Lib.hid (fun w => utf_Place s a (by omega) w)
  have P2 := Lib.hid (fun w => utf_Place s b (by omega) w)
  have P3 := Lib.hid (fun w => utf_Place s c (by omega) w)
  have P4 := Lib.hid (fun w => utf_Place s d (by omega) w)
  rw [hl.pa] at P1
  rw [hl.pb] at P2
  rw [hl.pc] at P3
  rw [hl.pd] at P4
  have g1 : decide (a < c) = false := decide_eq_false (by have := hl.ca; omega)
  have g2 : decide (b < a) = false := decide_eq_false (by have := hl.ab; omega)
  have g3 : decide (d < b) = false := decide_eq_false (by have := hl.bd; omega)
  rw [h1, Thing.res_some] at A0
  rw [h2, Thing.res_some] at A1
  have C0 := Lib.hid A0
  have C1 := Lib.hid A1
  have g4 : decide (c ≤ p) = true := decide_eq_true h3
  have g5 : decide (p ≤ d) = true := decide_eq_true h4
  clear A0 A1 h1 h2 h3 h4 hl hs hk
  go_enter Try.func5, Try.ntmps5
  go_wp2_with fail
  with_reducible refine (C0.out _).mono ?_
  rintro e w1 ⟨rfl, hb1⟩
  have E1 := Blk.new w1 24 #[.int .i64 a, .int .i64 b, .bool true]
  have X1 := hb1.alloc hb1.size (.cells #[.int .i64 a, .int .i64 b, .bool true] 24)
  clear hb1
  go_wp2_with fail
  with_reducible refine (C1.out _).mono ?_
  rintro e w2 ⟨rfl, hb2⟩
  have E2 := (E1.below hb2 E1.lt).alloc (.cells #[.int .i64 c, .int .i64 d, .bool true] 24)
  have F2 := Blk.new w2 24 #[.int .i64 c, .int .i64 d, .bool true]
  have hX := (X1.trans (hb2.mono X1.size)).alloc (X1.trans (hb2.mono X1.size)).size (.cells #[.int .i64 c, .int .i64 d, .bool true] 24)
  obtain ⟨a0, a1, a2, _, _, _⟩ := row_three E2
  obtain ⟨b0, b1, b2, _, _, _⟩ := row_three F2
  clear E1 E2 F2 X1 hb2
  go_wp2_with (first
    | (go_at_call 11; (with_reducible refine (P1.out _).mono ?_); rintro e w8 ⟨rfl, rfl⟩)
    | (go_at_call 11; (with_reducible refine (P2.out _).mono ?_); rintro e w8 ⟨rfl, rfl⟩)
    | (go_at_call 11; (with_reducible refine (P3.out _).mono ?_); rintro e w8 ⟨rfl, rfl⟩)
    | (go_at_call 11; (with_reducible refine (P4.out _).mono ?_); rintro e w8 ⟨rfl, rfl⟩)
    | (go_at_call 6; (with_reducible refine (LV.out _).mono ?_); rintro e w9 ⟨rfl, hbn⟩; replace hX := hX.trans (hbn.mono hX.size); clear hbn))
  go_ret
  exact ⟨rfl, hX⟩
set_option maxHeartbeats 4000000 in
set_option maxRecDepth 100000 in
theorem thingWithin_line119 (s : ByteArray) (p : Int) (key : ByteArray) (hs : s.size ≤ 300) (hk : key.size ≤ 140737488351232) {a b c d : Int} (h1 : thg s.data.toList p false key.data.toList = some (a, b, false)) (h2 : thg s.data.toList p true key.data.toList = some (c, d, false)) (hl : Thing.Lies s.data.toList a b c d) (h3 : Line.of_ s.data.toList c = Line.of_ s.data.toList p) (h4 : Line.of_ s.data.toList d = Line.of_ s.data.toList p) (k0 : (key.toList == [112]) = false) (k1 : (key.toList == [119]) = true) (w : World) :
    Calls Try.prog 5 #[.string s, .int .i64 p, .string key] w fun e w' => e = .returned (.bool true) ∧ Below w.heap.size w w' := by
  have LV := Lib.hid thing_lives
  have g0 : decide ((300 : Int) < (s.size : Int)) = false := decide_eq_false (by omega)
  have A0 := fun w => thing_Of s p false key (by omega) (by omega) w
  have A1 := fun w => thing_Of s p true key (by omega) (by omega) w
  have P1 := Lib.hid (fun w => utf_Place s a (by omega) w)
  have P2 := Lib.hid (fun w => utf_Place s b (by omega) w)
  have P3 := Lib.hid (fun w => utf_Place s c (by omega) w)
  have P4 := Lib.hid (fun w => utf_Place s d (by omega) w)
  rw [hl.pa] at P1
  rw [hl.pb] at P2
  rw [hl.pc] at P3
  rw [hl.pd] at P4
  have g1 : decide (a < c) = false := decide_eq_false (by have := hl.ca; omega)
  have g2 : decide (b < a) = false := decide_eq_false (by have := hl.ab; omega)
  have g3 : decide (d < b) = false := decide_eq_false (by have := hl.bd; omega)
  rw [h1, Thing.res_some] at A0
  rw [h2, Thing.res_some] at A1
  have C0 := Lib.hid A0
  have C1 := Lib.hid A1
  have L1 := Lib.hid (fun w => line_Of s c (by omega) w)
  have L2 := Lib.hid (fun w => line_Of s d (by omega) w)
  have L3 := Lib.hid (fun w => line_Of s p (by omega) w)
  rw [h3] at L1
  rw [h4] at L2
  generalize Line.of_ s.data.toList p = k at *
  have t1 : (k == k) = true := by simp
  clear A0 A1 h1 h2 h3 h4 hl hs hk
  go_enter Try.func5, Try.ntmps5
  go_wp2_with fail
  with_reducible refine (C0.out _).mono ?_
  rintro e w1 ⟨rfl, hb1⟩
  have E1 := Blk.new w1 24 #[.int .i64 a, .int .i64 b, .bool false]
  have X1 := hb1.alloc hb1.size (.cells #[.int .i64 a, .int .i64 b, .bool false] 24)
  clear hb1
  go_wp2_with fail
  with_reducible refine (C1.out _).mono ?_
  rintro e w2 ⟨rfl, hb2⟩
  have E2 := (E1.below hb2 E1.lt).alloc (.cells #[.int .i64 c, .int .i64 d, .bool false] 24)
  have F2 := Blk.new w2 24 #[.int .i64 c, .int .i64 d, .bool false]
  have hX := (X1.trans (hb2.mono X1.size)).alloc (X1.trans (hb2.mono X1.size)).size (.cells #[.int .i64 c, .int .i64 d, .bool false] 24)
  obtain ⟨a0, a1, a2, _, _, _⟩ := row_three E2
  obtain ⟨b0, b1, b2, _, _, _⟩ := row_three F2
  clear E1 X1 hb2
  go_wp2_with (first
    | (go_at_call 11; (with_reducible refine (P1.out _).mono ?_); rintro e w8 ⟨rfl, rfl⟩)
    | (go_at_call 11; (with_reducible refine (P2.out _).mono ?_); rintro e w8 ⟨rfl, rfl⟩)
    | (go_at_call 11; (with_reducible refine (P3.out _).mono ?_); rintro e w8 ⟨rfl, rfl⟩)
    | (go_at_call 11; (with_reducible refine (P4.out _).mono ?_); rintro e w8 ⟨rfl, rfl⟩)
    | (go_at_call 12; (with_reducible refine (L1.out _).mono ?_); rintro e w8 ⟨rfl, hbn⟩; replace hX := hX.trans (hbn.mono hX.size); replace E2 := E2.below hbn E2.lt; replace F2 := F2.below hbn F2.lt; clear a0 a1 a2 b0 b1 b2 hbn; obtain ⟨a0, a1, a2, _, _, _⟩ := row_three E2; obtain ⟨b0, b1, b2, _, _, _⟩ := row_three F2)
    | (go_at_call 12; (with_reducible refine (L2.out _).mono ?_); rintro e w8 ⟨rfl, hbn⟩; replace hX := hX.trans (hbn.mono hX.size); replace E2 := E2.below hbn E2.lt; replace F2 := F2.below hbn F2.lt; clear a0 a1 a2 b0 b1 b2 hbn; obtain ⟨a0, a1, a2, _, _, _⟩ := row_three E2; obtain ⟨b0, b1, b2, _, _, _⟩ := row_three F2)
    | (go_at_call 12; (with_reducible refine (L3.out _).mono ?_); rintro e w8 ⟨rfl, hbn⟩; replace hX := hX.trans (hbn.mono hX.size); replace E2 := E2.below hbn E2.lt; replace F2 := F2.below hbn F2.lt; clear a0 a1 a2 b0 b1 b2 hbn; obtain ⟨a0, a1, a2, _, _, _⟩ := row_three E2; obtain ⟨b0, b1, b2, _, _, _⟩ := row_three F2)
    | (go_at_call 6; (with_reducible refine (LV.out _).mono ?_); rintro e w9 ⟨rfl, hbn⟩; replace hX := hX.trans (hbn.mono hX.size); clear hbn))
  go_ret
  exact ⟨rfl, hX⟩
set_option maxHeartbeats 4000000 in
set_option maxRecDepth 100000 in
theorem thingWithin_line87 (s : ByteArray) (p : Int) (key : ByteArray) (hs : s.size ≤ 300) (hk : key.size ≤ 140737488351232) {a b c d : Int} (h1 : thg s.data.toList p false key.data.toList = some (a, b, false)) (h2 : thg s.data.toList p true key.data.toList = some (c, d, false)) (hl : Thing.Lies s.data.toList a b c d) (h3 : Line.of_ s.data.toList c = Line.of_ s.data.toList p) (h4 : Line.of_ s.data.toList d = Line.of_ s.data.toList p) (k0 : (key.toList == [112]) = false) (k1 : (key.toList == [119]) = false) (k2 : (key.toList == [87]) = true) (w : World) :
    Calls Try.prog 5 #[.string s, .int .i64 p, .string key] w fun e w' => e = .returned (.bool true) ∧ Below w.heap.size w w' := by
  have LV := Lib.hid thing_lives
  have g0 : decide ((300 : Int) < (s.size : Int)) = false := decide_eq_false (by omega)
  have A0 := fun w => thing_Of s p false key (by omega) (by omega) w
  have A1 := fun w => thing_Of s p true key (by omega) (by omega) w
  have P1 := Lib.hid (fun w => utf_Place s a (by omega) w)
  have P2 := Lib.hid (fun w => utf_Place s b (by omega) w)
  have P3 := Lib.hid (fun w => utf_Place s c (by omega) w)
  have P4 := Lib.hid (fun w => utf_Place s d (by omega) w)
  rw [hl.pa] at P1
  rw [hl.pb] at P2
  rw [hl.pc] at P3
  rw [hl.pd] at P4
  have g1 : decide (a < c) = false := decide_eq_false (by have := hl.ca; omega)
  have g2 : decide (b < a) = false := decide_eq_false (by have := hl.ab; omega)
  have g3 : decide (d < b) = false := decide_eq_false (by have := hl.bd; omega)
  rw [h1, Thing.res_some] at A0
  rw [h2, Thing.res_some] at A1
  have C0 := Lib.hid A0
  have C1 := Lib.hid A1
  have L1 := Lib.hid (fun w => line_Of s c (by omega) w)
  have L2 := Lib.hid (fun w => line_Of s d (by omega) w)
  have L3 := Lib.hid (fun w => line_Of s p (by omega) w)
  rw [h3] at L1
  rw [h4] at L2
  generalize Line.of_ s.data.toList p = k at *
  have t1 : (k == k) = true := by simp
  clear A0 A1 h1 h2 h3 h4 hl hs hk
  go_enter Try.func5, Try.ntmps5
  go_wp2_with fail
  with_reducible refine (C0.out _).mono ?_
  rintro e w1 ⟨rfl, hb1⟩
  have E1 := Blk.new w1 24 #[.int .i64 a, .int .i64 b, .bool false]
  have X1 := hb1.alloc hb1.size (.cells #[.int .i64 a, .int .i64 b, .bool false] 24)
  clear hb1
  go_wp2_with fail
  with_reducible refine (C1.out _).mono ?_
  rintro e w2 ⟨rfl, hb2⟩
  have E2 := (E1.below hb2 E1.lt).alloc (.cells #[.int .i64 c, .int .i64 d, .bool false] 24)
  have F2 := Blk.new w2 24 #[.int .i64 c, .int .i64 d, .bool false]
  have hX := (X1.trans (hb2.mono X1.size)).alloc (X1.trans (hb2.mono X1.size)).size (.cells #[.int .i64 c, .int .i64 d, .bool false] 24)
  obtain ⟨a0, a1, a2, _, _, _⟩ := row_three E2
  obtain ⟨b0, b1, b2, _, _, _⟩ := row_three F2
  clear E1 X1 hb2
  go_wp2_with (first
    | (go_at_call 11; (with_reducible refine (P1.out _).mono ?_); rintro e w8 ⟨rfl, rfl⟩)
    | (go_at_call 11; (with_reducible refine (P2.out _).mono ?_); rintro e w8 ⟨rfl, rfl⟩)
    | (go_at_call 11; (with_reducible refine (P3.out _).mono ?_); rintro e w8 ⟨rfl, rfl⟩)
    | (go_at_call 11; (with_reducible refine (P4.out _).mono ?_); rintro e w8 ⟨rfl, rfl⟩)
    | (go_at_call 12; (with_reducible refine (L1.out _).mono ?_); rintro e w8 ⟨rfl, hbn⟩; replace hX := hX.trans (hbn.mono hX.size); replace E2 := E2.below hbn E2.lt; replace F2 := F2.below hbn F2.lt; clear a0 a1 a2 b0 b1 b2 hbn; obtain ⟨a0, a1, a2, _, _, _⟩ := row_three E2; obtain ⟨b0, b1, b2, _, _, _⟩ := row_three F2)
    | (go_at_call 12; (with_reducible refine (L2.out _).mono ?_); rintro e w8 ⟨rfl, hbn⟩; replace hX := hX.trans (hbn.mono hX.size); replace E2 := E2.below hbn E2.lt; replace F2 := F2.below hbn F2.lt; clear a0 a1 a2 b0 b1 b2 hbn; obtain ⟨a0, a1, a2, _, _, _⟩ := row_three E2; obtain ⟨b0, b1, b2, _, _, _⟩ := row_three F2)
    | (go_at_call 12; (with_reducible refine (L3.out _).mono ?_); rintro e w8 ⟨rfl, hbn⟩; replace hX := hX.trans (hbn.mono hX.size); replace E2 := E2.below hbn E2.lt; replace F2 := F2.below hbn F2.lt; clear a0 a1 a2 b0 b1 b2 hbn; obtain ⟨a0, a1, a2, _, _, _⟩ := row_three E2; obtain ⟨b0, b1, b2, _, _, _⟩ := row_three F2)
    | (go_at_call 6; (with_reducible refine (LV.out _).mono ?_); rintro e w9 ⟨rfl, hbn⟩; replace hX := hX.trans (hbn.mono hX.size); clear hbn))
  go_ret
  exact ⟨rfl, hX⟩
set_option maxHeartbeats 4000000 in
set_option maxRecDepth 100000 in
theorem thingWithin_line34 (s : ByteArray) (p : Int) (key : ByteArray) (hs : s.size ≤ 300) (hk : key.size ≤ 140737488351232) {a b c d : Int} (h1 : thg s.data.toList p false key.data.toList = some (a, b, false)) (h2 : thg s.data.toList p true key.data.toList = some (c, d, false)) (hl : Thing.Lies s.data.toList a b c d) (h3 : Line.of_ s.data.toList c = Line.of_ s.data.toList p) (h4 : Line.of_ s.data.toList d = Line.of_ s.data.toList p) (k0 : (key.toList == [112]) = false) (k1 : (key.toList == [119]) = false) (k2 : (key.toList == [87]) = false) (k3 : (key.toList == [34]) = true) (w : World) :
    Calls Try.prog 5 #[.string s, .int .i64 p, .string key] w fun e w' => e = .returned (.bool true) ∧ Below w.heap.size w w' := by
  have LV := Lib.hid thing_lives
  have g0 : decide ((300 : Int) < (s.size : Int)) = false := decide_eq_false (by omega)
  have A0 := fun w => thing_Of s p false key (by omega) (by omega) w
  have A1 := fun w => thing_Of s p true key (by omega) (by omega) w
  have P1 := Lib.hid (fun w => utf_Place s a (by omega) w)
  have P2 := Lib.hid (fun w => utf_Place s b (by omega) w)
  have P3 := Lib.hid (fun w => utf_Place s c (by omega) w)
  have P4 := Lib.hid (fun w => utf_Place s d (by omega) w)
  rw [hl.pa] at P1
  rw [hl.pb] at P2
  rw [hl.pc] at P3
  rw [hl.pd] at P4
  have g1 : decide (a < c) = false := decide_eq_false (by have := hl.ca; omega)
  have g2 : decide (b < a) = false := decide_eq_false (by have := hl.ab; omega)
  have g3 : decide (d < b) = false := decide_eq_false (by have := hl.bd; omega)
  rw [h1, Thing.res_some] at A0
  rw [h2, Thing.res_some] at A1
  have C0 := Lib.hid A0
  have C1 := Lib.hid A1
  have L1 := Lib.hid (fun w => line_Of s c (by omega) w)
  have L2 := Lib.hid (fun w => line_Of s d (by omega) w)
  have L3 := Lib.hid (fun w => line_Of s p (by omega) w)
  rw [h3] at L1
  rw [h4] at L2
  generalize Line.of_ s.data.toList p = k at *
  have t1 : (k == k) = true := by simp
  clear A0 A1 h1 h2 h3 h4 hl hs hk
  go_enter Try.func5, Try.ntmps5
  go_wp2_with fail
  with_reducible refine (C0.out _).mono ?_
  rintro e w1 ⟨rfl, hb1⟩
  have E1 := Blk.new w1 24 #[.int .i64 a, .int .i64 b, .bool false]
  have X1 := hb1.alloc hb1.size (.cells #[.int .i64 a, .int .i64 b, .bool false] 24)
  clear hb1
  go_wp2_with fail
  with_reducible refine (C1.out _).mono ?_
  rintro e w2 ⟨rfl, hb2⟩
  have E2 := (E1.below hb2 E1.lt).alloc (.cells #[.int .i64 c, .int .i64 d, .bool false] 24)
  have F2 := Blk.new w2 24 #[.int .i64 c, .int .i64 d, .bool false]
  have hX := (X1.trans (hb2.mono X1.size)).alloc (X1.trans (hb2.mono X1.size)).size (.cells #[.int .i64 c, .int .i64 d, .bool false] 24)
  obtain ⟨a0, a1, a2, _, _, _⟩ := row_three E2
  obtain ⟨b0, b1, b2, _, _, _⟩ := row_three F2
  clear E1 X1 hb2
  go_wp2_with (first
    | (go_at_call 11; (with_reducible refine (P1.out _).mono ?_); rintro e w8 ⟨rfl, rfl⟩)
    | (go_at_call 11; (with_reducible refine (P2.out _).mono ?_); rintro e w8 ⟨rfl, rfl⟩)
    | (go_at_call 11; (with_reducible refine (P3.out _).mono ?_); rintro e w8 ⟨rfl, rfl⟩)
    | (go_at_call 11; (with_reducible refine (P4.out _).mono ?_); rintro e w8 ⟨rfl, rfl⟩)
    | (go_at_call 12; (with_reducible refine (L1.out _).mono ?_); rintro e w8 ⟨rfl, hbn⟩; replace hX := hX.trans (hbn.mono hX.size); replace E2 := E2.below hbn E2.lt; replace F2 := F2.below hbn F2.lt; clear a0 a1 a2 b0 b1 b2 hbn; obtain ⟨a0, a1, a2, _, _, _⟩ := row_three E2; obtain ⟨b0, b1, b2, _, _, _⟩ := row_three F2)
    | (go_at_call 12; (with_reducible refine (L2.out _).mono ?_); rintro e w8 ⟨rfl, hbn⟩; replace hX := hX.trans (hbn.mono hX.size); replace E2 := E2.below hbn E2.lt; replace F2 := F2.below hbn F2.lt; clear a0 a1 a2 b0 b1 b2 hbn; obtain ⟨a0, a1, a2, _, _, _⟩ := row_three E2; obtain ⟨b0, b1, b2, _, _, _⟩ := row_three F2)
    | (go_at_call 12; (with_reducible refine (L3.out _).mono ?_); rintro e w8 ⟨rfl, hbn⟩; replace hX := hX.trans (hbn.mono hX.size); replace E2 := E2.below hbn E2.lt; replace F2 := F2.below hbn F2.lt; clear a0 a1 a2 b0 b1 b2 hbn; obtain ⟨a0, a1, a2, _, _, _⟩ := row_three E2; obtain ⟨b0, b1, b2, _, _, _⟩ := row_three F2)
    | (go_at_call 6; (with_reducible refine (LV.out _).mono ?_); rintro e w9 ⟨rfl, hbn⟩; replace hX := hX.trans (hbn.mono hX.size); clear hbn))
  go_ret
  exact ⟨rfl, hX⟩
set_option maxHeartbeats 4000000 in
set_option maxRecDepth 100000 in
theorem thingWithin_line39 (s : ByteArray) (p : Int) (key : ByteArray) (hs : s.size ≤ 300) (hk : key.size ≤ 140737488351232) {a b c d : Int} (h1 : thg s.data.toList p false key.data.toList = some (a, b, false)) (h2 : thg s.data.toList p true key.data.toList = some (c, d, false)) (hl : Thing.Lies s.data.toList a b c d) (h3 : Line.of_ s.data.toList c = Line.of_ s.data.toList p) (h4 : Line.of_ s.data.toList d = Line.of_ s.data.toList p) (k0 : (key.toList == [112]) = false) (k1 : (key.toList == [119]) = false) (k2 : (key.toList == [87]) = false) (k3 : (key.toList == [34]) = false) (k4 : (key.toList == [39]) = true) (w : World) :
    Calls Try.prog 5 #[.string s, .int .i64 p, .string key] w fun e w' => e = .returned (.bool true) ∧ Below w.heap.size w w' := by
  have LV := Lib.hid thing_lives
  have g0 : decide ((300 : Int) < (s.size : Int)) = false := decide_eq_false (by omega)
  have A0 := fun w => thing_Of s p false key (by omega) (by omega) w
  have A1 := fun w => thing_Of s p true key (by omega) (by omega) w
  have P1 := Lib.hid (fun w => utf_Place s a (by omega) w)
  have P2 := Lib.hid (fun w => utf_Place s b (by omega) w)
  have P3 := Lib.hid (fun w => utf_Place s c (by omega) w)
  have P4 := Lib.hid (fun w => utf_Place s d (by omega) w)
  rw [hl.pa] at P1
  rw [hl.pb] at P2
  rw [hl.pc] at P3
  rw [hl.pd] at P4
  have g1 : decide (a < c) = false := decide_eq_false (by have := hl.ca; omega)
  have g2 : decide (b < a) = false := decide_eq_false (by have := hl.ab; omega)
  have g3 : decide (d < b) = false := decide_eq_false (by have := hl.bd; omega)
  rw [h1, Thing.res_some] at A0
  rw [h2, Thing.res_some] at A1
  have C0 := Lib.hid A0
  have C1 := Lib.hid A1
  have L1 := Lib.hid (fun w => line_Of s c (by omega) w)
  have L2 := Lib.hid (fun w => line_Of s d (by omega) w)
  have L3 := Lib.hid (fun w => line_Of s p (by omega) w)
  rw [h3] at L1
  rw [h4] at L2
  generalize Line.of_ s.data.toList p = k at *
  have t1 : (k == k) = true := by simp
  clear A0 A1 h1 h2 h3 h4 hl hs hk
  go_enter Try.func5, Try.ntmps5
  go_wp2_with fail
  with_reducible refine (C0.out _).mono ?_
  rintro e w1 ⟨rfl, hb1⟩
  have E1 := Blk.new w1 24 #[.int .i64 a, .int .i64 b, .bool false]
  have X1 := hb1.alloc hb1.size (.cells #[.int .i64 a, .int .i64 b, .bool false] 24)
  clear hb1
  go_wp2_with fail
  with_reducible refine (C1.out _).mono ?_
  rintro e w2 ⟨rfl, hb2⟩
  have E2 := (E1.below hb2 E1.lt).alloc (.cells #[.int .i64 c, .int .i64 d, .bool false] 24)
  have F2 := Blk.new w2 24 #[.int .i64 c, .int .i64 d, .bool false]
  have hX := (X1.trans (hb2.mono X1.size)).alloc (X1.trans (hb2.mono X1.size)).size (.cells #[.int .i64 c, .int .i64 d, .bool false] 24)
  obtain ⟨a0, a1, a2, _, _, _⟩ := row_three E2
  obtain ⟨b0, b1, b2, _, _, _⟩ := row_three F2
  clear E1 X1 hb2
  go_wp2_with (first
    | (go_at_call 11; (with_reducible refine (P1.out _).mono ?_); rintro e w8 ⟨rfl, rfl⟩)
    | (go_at_call 11; (with_reducible refine (P2.out _).mono ?_); rintro e w8 ⟨rfl, rfl⟩)
    | (go_at_call 11; (with_reducible refine (P3.out _).mono ?_); rintro e w8 ⟨rfl, rfl⟩)
    | (go_at_call 11; (with_reducible refine (P4.out _).mono ?_); rintro e w8 ⟨rfl, rfl⟩)
    | (go_at_call 12; (with_reducible refine (L1.out _).mono ?_); rintro e w8 ⟨rfl, hbn⟩; replace hX := hX.trans (hbn.mono hX.size); replace E2 := E2.below hbn E2.lt; replace F2 := F2.below hbn F2.lt; clear a0 a1 a2 b0 b1 b2 hbn; obtain ⟨a0, a1, a2, _, _, _⟩ := row_three E2; obtain ⟨b0, b1, b2, _, _, _⟩ := row_three F2)
    | (go_at_call 12; (with_reducible refine (L2.out _).mono ?_); rintro e w8 ⟨rfl, hbn⟩; replace hX := hX.trans (hbn.mono hX.size); replace E2 := E2.below hbn E2.lt; replace F2 := F2.below hbn F2.lt; clear a0 a1 a2 b0 b1 b2 hbn; obtain ⟨a0, a1, a2, _, _, _⟩ := row_three E2; obtain ⟨b0, b1, b2, _, _, _⟩ := row_three F2)
    | (go_at_call 12; (with_reducible refine (L3.out _).mono ?_); rintro e w8 ⟨rfl, hbn⟩; replace hX := hX.trans (hbn.mono hX.size); replace E2 := E2.below hbn E2.lt; replace F2 := F2.below hbn F2.lt; clear a0 a1 a2 b0 b1 b2 hbn; obtain ⟨a0, a1, a2, _, _, _⟩ := row_three E2; obtain ⟨b0, b1, b2, _, _, _⟩ := row_three F2)
    | (go_at_call 6; (with_reducible refine (LV.out _).mono ?_); rintro e w9 ⟨rfl, hbn⟩; replace hX := hX.trans (hbn.mono hX.size); clear hbn))
  go_ret
  exact ⟨rfl, hX⟩
set_option maxHeartbeats 4000000 in
set_option maxRecDepth 100000 in
theorem thingWithin_line96 (s : ByteArray) (p : Int) (key : ByteArray) (hs : s.size ≤ 300) (hk : key.size ≤ 140737488351232) {a b c d : Int} (h1 : thg s.data.toList p false key.data.toList = some (a, b, false)) (h2 : thg s.data.toList p true key.data.toList = some (c, d, false)) (hl : Thing.Lies s.data.toList a b c d) (h3 : Line.of_ s.data.toList c = Line.of_ s.data.toList p) (h4 : Line.of_ s.data.toList d = Line.of_ s.data.toList p) (k0 : (key.toList == [112]) = false) (k1 : (key.toList == [119]) = false) (k2 : (key.toList == [87]) = false) (k3 : (key.toList == [34]) = false) (k4 : (key.toList == [39]) = false) (k5 : (key.toList == [96]) = true) (w : World) :
    Calls Try.prog 5 #[.string s, .int .i64 p, .string key] w fun e w' => e = .returned (.bool true) ∧ Below w.heap.size w w' := by
  have LV := Lib.hid thing_lives
  have g0 : decide ((300 : Int) < (s.size : Int)) = false := decide_eq_false (by omega)
  have A0 := fun w => thing_Of s p false key (by omega) (by omega) w
  have A1 := fun w => thing_Of s p true key (by omega) (by omega) w
  have P1 := Lib.hid (fun w => utf_Place s a (by omega) w)
  have P2 := Lib.hid (fun w => utf_Place s b (by omega) w)
  have P3 := Lib.hid (fun w => utf_Place s c (by omega) w)
  have P4 := Lib.hid (fun w => utf_Place s d (by omega) w)
  rw [hl.pa] at P1
  rw [hl.pb] at P2
  rw [hl.pc] at P3
  rw [hl.pd] at P4
  have g1 : decide (a < c) = false := decide_eq_false (by have := hl.ca; omega)
  have g2 : decide (b < a) = false := decide_eq_false (by have := hl.ab; omega)
  have g3 : decide (d < b) = false := decide_eq_false (by have := hl.bd; omega)
  rw [h1, Thing.res_some] at A0
  rw [h2, Thing.res_some] at A1
  have C0 := Lib.hid A0
  have C1 := Lib.hid A1
  have L1 := Lib.hid (fun w => line_Of s c (by omega) w)
  have L2 := Lib.hid (fun w => line_Of s d (by omega) w)
  have L3 := Lib.hid (fun w => line_Of s p (by omega) w)
  rw [h3] at L1
  rw [h4] at L2
  generalize Line.of_ s.data.toList p = k at *
  have t1 : (k == k) = true := by simp
  clear A0 A1 h1 h2 h3 h4 hl hs hk
  go_enter Try.func5, Try.ntmps5
  go_wp2_with fail
  with_reducible refine (C0.out _).mono ?_
  rintro e w1 ⟨rfl, hb1⟩
  have E1 := Blk.new w1 24 #[.int .i64 a, .int .i64 b, .bool false]
  have X1 := hb1.alloc hb1.size (.cells #[.int .i64 a, .int .i64 b, .bool false] 24)
  clear hb1
  go_wp2_with fail
  with_reducible refine (C1.out _).mono ?_
  rintro e w2 ⟨rfl, hb2⟩
  have E2 := (E1.below hb2 E1.lt).alloc (.cells #[.int .i64 c, .int .i64 d, .bool false] 24)
  have F2 := Blk.new w2 24 #[.int .i64 c, .int .i64 d, .bool false]
  have hX := (X1.trans (hb2.mono X1.size)).alloc (X1.trans (hb2.mono X1.size)).size (.cells #[.int .i64 c, .int .i64 d, .bool false] 24)
  obtain ⟨a0, a1, a2, _, _, _⟩ := row_three E2
  obtain ⟨b0, b1, b2, _, _, _⟩ := row_three F2
  clear E1 X1 hb2
  go_wp2_with (first
    | (go_at_call 11; (with_reducible refine (P1.out _).mono ?_); rintro e w8 ⟨rfl, rfl⟩)
    | (go_at_call 11; (with_reducible refine (P2.out _).mono ?_); rintro e w8 ⟨rfl, rfl⟩)
    | (go_at_call 11; (with_reducible refine (P3.out _).mono ?_); rintro e w8 ⟨rfl, rfl⟩)
    | (go_at_call 11; (with_reducible refine (P4.out _).mono ?_); rintro e w8 ⟨rfl, rfl⟩)
    | (go_at_call 12; (with_reducible refine (L1.out _).mono ?_); rintro e w8 ⟨rfl, hbn⟩; replace hX := hX.trans (hbn.mono hX.size); replace E2 := E2.below hbn E2.lt; replace F2 := F2.below hbn F2.lt; clear a0 a1 a2 b0 b1 b2 hbn; obtain ⟨a0, a1, a2, _, _, _⟩ := row_three E2; obtain ⟨b0, b1, b2, _, _, _⟩ := row_three F2)
    | (go_at_call 12; (with_reducible refine (L2.out _).mono ?_); rintro e w8 ⟨rfl, hbn⟩; replace hX := hX.trans (hbn.mono hX.size); replace E2 := E2.below hbn E2.lt; replace F2 := F2.below hbn F2.lt; clear a0 a1 a2 b0 b1 b2 hbn; obtain ⟨a0, a1, a2, _, _, _⟩ := row_three E2; obtain ⟨b0, b1, b2, _, _, _⟩ := row_three F2)
    | (go_at_call 12; (with_reducible refine (L3.out _).mono ?_); rintro e w8 ⟨rfl, hbn⟩; replace hX := hX.trans (hbn.mono hX.size); replace E2 := E2.below hbn E2.lt; replace F2 := F2.below hbn F2.lt; clear a0 a1 a2 b0 b1 b2 hbn; obtain ⟨a0, a1, a2, _, _, _⟩ := row_three E2; obtain ⟨b0, b1, b2, _, _, _⟩ := row_three F2)
    | (go_at_call 6; (with_reducible refine (LV.out _).mono ?_); rintro e w9 ⟨rfl, hbn⟩; replace hX := hX.trans (hbn.mono hX.size); clear hbn))
  go_ret
  exact ⟨rfl, hX⟩
theorem thingWithin_walk (s : ByteArray) (p : Int) (key : ByteArray) (hk : key.size ≤ 140737488351232) (w : World) :
    Calls Try.prog 5 #[.string s, .int .i64 p, .string key] w fun e w' => e = .returned (.bool true) ∧ Below w.heap.size w w' := by
  have LV := Lib.hid thing_lives
  by_cases h0 : 300 < s.size
  · have g0 : decide ((300 : Int) < (s.size : Int)) = true := decide_eq_true (by omega)
    go_enter Try.func5, Try.ntmps5
    go_wp2_with fail
    refine (LV.out _).mono ?_
    rintro e w1 ⟨rfl, hb⟩
    go_wp2
    go_ret
    exact ⟨rfl, hb⟩
  have g0 : decide ((300 : Int) < (s.size : Int)) = false := decide_eq_false (by omega)
  have hs : s.size ≤ 300 := by omega
  clear LV h0 g0
  cases hm : num key.data.toList with
  | none => exact thingWithin_none s p key hs hk (Thing.thg_none hm) (Thing.thg_none hm) w
  | some j =>
    cases hp : Utf.place s.data.toList p with
    | false => exact thingWithin_none s p key hs hk (Thing.thg_bad hp) (Thing.thg_bad hp) w
    | true =>
      have t1 := Thing.thg_at (all := false) hm hp
      have t2 := Thing.thg_at (all := true) hm hp
      rcases Thing.way_in hp (Thing.cls_lt j) with ⟨n1, n2⟩ | ⟨a, b, c, d, n1, n2, hl, hx, hy⟩
      · exact thingWithin_none s p key hs hk (by rw [t1, n1]; rfl) (by rw [t2, n2]; rfl) w
      · rw [n1, Option.map_some] at t1
        rw [n2, Option.map_some] at t2
        dsimp only at t1 t2
        clear n1 n2
        have hkey := Thing.num_tab.1 hm
        have hlt := Thing.num_lt hm
        unfold Thing.tab at hkey
        simp only [List.mem_cons, Prod.mk.injEq, List.not_mem_nil, or_false] at hkey
        rcases hkey with ⟨hkey, rfl⟩ | ⟨hkey, rfl⟩ | ⟨hkey, rfl⟩ | ⟨hkey, rfl⟩ | ⟨hkey, rfl⟩ | ⟨hkey, rfl⟩ | ⟨hkey, rfl⟩ | ⟨hkey, rfl⟩ | ⟨hkey, rfl⟩ | ⟨hkey, rfl⟩ | ⟨hkey, rfl⟩ | ⟨hkey, rfl⟩ | ⟨hkey, rfl⟩ | ⟨hkey, rfl⟩ | ⟨hkey, rfl⟩ | ⟨hkey, rfl⟩
        · exact thingWithin_line119 s p key hs hk t1 t2 hl (hx rfl).1 (hx rfl).2 (Thing.key_not 112 hkey (by decide)) (Thing.key_is hkey) w
        · exact thingWithin_line87 s p key hs hk t1 t2 hl (hx rfl).1 (hx rfl).2 (Thing.key_not 112 hkey (by decide)) (Thing.key_not 119 hkey (by decide)) (Thing.key_is hkey) w
        · exact thingWithin_pairs s p key hs hk t1 t2 hl (hy rfl).1 (hy rfl).2 (Thing.key_not 112 hkey (by decide)) (Thing.key_not 119 hkey (by decide)) (Thing.key_not 87 hkey (by decide)) (Thing.key_not 34 hkey (by decide)) (Thing.key_not 39 hkey (by decide)) (Thing.key_not 96 hkey (by decide)) w
        · exact thingWithin_pairs s p key hs hk t1 t2 hl (hy rfl).1 (hy rfl).2 (Thing.key_not 112 hkey (by decide)) (Thing.key_not 119 hkey (by decide)) (Thing.key_not 87 hkey (by decide)) (Thing.key_not 34 hkey (by decide)) (Thing.key_not 39 hkey (by decide)) (Thing.key_not 96 hkey (by decide)) w
        · exact thingWithin_pairs s p key hs hk t1 t2 hl (hy rfl).1 (hy rfl).2 (Thing.key_not 112 hkey (by decide)) (Thing.key_not 119 hkey (by decide)) (Thing.key_not 87 hkey (by decide)) (Thing.key_not 34 hkey (by decide)) (Thing.key_not 39 hkey (by decide)) (Thing.key_not 96 hkey (by decide)) w
        · exact thingWithin_pairs s p key hs hk t1 t2 hl (hy rfl).1 (hy rfl).2 (Thing.key_not 112 hkey (by decide)) (Thing.key_not 119 hkey (by decide)) (Thing.key_not 87 hkey (by decide)) (Thing.key_not 34 hkey (by decide)) (Thing.key_not 39 hkey (by decide)) (Thing.key_not 96 hkey (by decide)) w
        · exact thingWithin_pairs s p key hs hk t1 t2 hl (hy rfl).1 (hy rfl).2 (Thing.key_not 112 hkey (by decide)) (Thing.key_not 119 hkey (by decide)) (Thing.key_not 87 hkey (by decide)) (Thing.key_not 34 hkey (by decide)) (Thing.key_not 39 hkey (by decide)) (Thing.key_not 96 hkey (by decide)) w
        · exact thingWithin_pairs s p key hs hk t1 t2 hl (hy rfl).1 (hy rfl).2 (Thing.key_not 112 hkey (by decide)) (Thing.key_not 119 hkey (by decide)) (Thing.key_not 87 hkey (by decide)) (Thing.key_not 34 hkey (by decide)) (Thing.key_not 39 hkey (by decide)) (Thing.key_not 96 hkey (by decide)) w
        · exact thingWithin_pairs s p key hs hk t1 t2 hl (hy rfl).1 (hy rfl).2 (Thing.key_not 112 hkey (by decide)) (Thing.key_not 119 hkey (by decide)) (Thing.key_not 87 hkey (by decide)) (Thing.key_not 34 hkey (by decide)) (Thing.key_not 39 hkey (by decide)) (Thing.key_not 96 hkey (by decide)) w
        · exact thingWithin_pairs s p key hs hk t1 t2 hl (hy rfl).1 (hy rfl).2 (Thing.key_not 112 hkey (by decide)) (Thing.key_not 119 hkey (by decide)) (Thing.key_not 87 hkey (by decide)) (Thing.key_not 34 hkey (by decide)) (Thing.key_not 39 hkey (by decide)) (Thing.key_not 96 hkey (by decide)) w
        · exact thingWithin_pairs s p key hs hk t1 t2 hl (hy rfl).1 (hy rfl).2 (Thing.key_not 112 hkey (by decide)) (Thing.key_not 119 hkey (by decide)) (Thing.key_not 87 hkey (by decide)) (Thing.key_not 34 hkey (by decide)) (Thing.key_not 39 hkey (by decide)) (Thing.key_not 96 hkey (by decide)) w
        · exact thingWithin_pairs s p key hs hk t1 t2 hl (hy rfl).1 (hy rfl).2 (Thing.key_not 112 hkey (by decide)) (Thing.key_not 119 hkey (by decide)) (Thing.key_not 87 hkey (by decide)) (Thing.key_not 34 hkey (by decide)) (Thing.key_not 39 hkey (by decide)) (Thing.key_not 96 hkey (by decide)) w
        · exact thingWithin_line34 s p key hs hk t1 t2 hl (hx rfl).1 (hx rfl).2 (Thing.key_not 112 hkey (by decide)) (Thing.key_not 119 hkey (by decide)) (Thing.key_not 87 hkey (by decide)) (Thing.key_is hkey) w
        · exact thingWithin_line39 s p key hs hk t1 t2 hl (hx rfl).1 (hx rfl).2 (Thing.key_not 112 hkey (by decide)) (Thing.key_not 119 hkey (by decide)) (Thing.key_not 87 hkey (by decide)) (Thing.key_not 34 hkey (by decide)) (Thing.key_is hkey) w
        · exact thingWithin_line96 s p key hs hk t1 t2 hl (hx rfl).1 (hx rfl).2 (Thing.key_not 112 hkey (by decide)) (Thing.key_not 119 hkey (by decide)) (Thing.key_not 87 hkey (by decide)) (Thing.key_not 34 hkey (by decide)) (Thing.key_not 39 hkey (by decide)) (Thing.key_is hkey) w
        · exact thingWithin_lines s p key hs hk t1 t2 hl (hy rfl).1 (hy rfl).2 (Thing.key_is hkey) (Thing.key_not 119 hkey (by decide)) (Thing.key_not 87 hkey (by decide)) (Thing.key_not 34 hkey (by decide)) (Thing.key_not 39 hkey (by decide)) (Thing.key_not 96 hkey (by decide)) w
section
open Go.ChangeShapes Go.WideShapes Go.ChangeAt
open Go.ChangeMaps (open_string)
set_option maxRecDepth 100000 in
theorem thingWithin_lifted (os : Os) (started : os.Started) (H : Type) (enc : TypeId × Value → H) :
    ReturnsInHanded {} Try.checked os 5 .any (Rows.thingWithinSpec.pre6 enc Try.prog Try.f5 Rows.thingWithinRow.domain false) (Rows.thingWithinSpec.post enc Try.prog Try.f5 false true false false) := by
  refine returnsInHanded_of_change_sized (C := Try.checked) own_knob started (by kernel_rfl) Try.func5
    (ChangeSpec.witness6 (enc := enc) (C := Try.checked) false ⟨#[], #[.string .empty, .int .i64 0, .string .empty], []⟩ 8 (by kernel_rfl) (by kernel_rfl) (by kernel_rfl) (by kernel_rfl)) ?_
  intro W base args ds gs before hval0 hW _ hsz0 _
  have hsz : (DataW.weightsEach Try.prog (Try.f5.params.toList ++ Rows.thingWithinSpec.plain.varTypes Try.prog) (ds ++ gs)).all (· ≤ reachBytes) = true := hsz0
  clear hsz0
  have hval : ∀ (j : Nat) t v, Try.f5.params[j]? = some t → args[j]? = some v → Value.okWide Try.prog W .any base t v := hval0
  have hW' := hW
  obtain ⟨p, q, hA0, hV, rfl, hfz, hnd⟩ := hW
  have hA : DataW.TrodAll enc Try.prog W 0 (fun _ => true) true Try.f5.params.toList args.toList ds p := hA0
  rw [Try.params5] at hA hval hsz
  obtain ⟨v0, vs0, d0, ds0, p0, q0, hargs, rfl, rfl, h0, r0⟩ := trodAll_cons hA
  obtain ⟨v1, vs1, d1, ds1, p1, q1, rfl, rfl, rfl, h1, r1⟩ := trodAll_cons r0
  obtain ⟨v2, vs2, d2, ds2, p2, q2, rfl, rfl, rfl, h2, r2⟩ := trodAll_cons r1
  obtain ⟨rfl, rfl, rfl⟩ := trodAll_nil r2
  obtain rfl : args = #[v0, v1, v2] := by cases args; simp_all
  obtain ⟨rfl, rfl⟩ := trodVars_none hV
  obtain ⟨s0, rfl, rfl, rfl, hmax0⟩ := open_string Try.underlying9 (hval 0 9 v0 rfl rfl) h0
  have hs0 : s0.size ≤ 140737488351232 := by rw [← data_len]; exact sized_string hsz (j := 0) (t := 9) rfl rfl
  obtain ⟨n1, rfl, rfl, rfl, wn1⟩ := open_int Try.underlying3 (hval 1 3 v1 rfl rfl) h1
  obtain ⟨s2, rfl, rfl, rfl, hmax2⟩ := open_string Try.underlying9 (hval 2 9 v2 rfl rfl) h2
  have hs2 : s2.size ≤ 140737488351232 := by rw [← data_len]; exact sized_string hsz (j := 2) (t := 9) rfl rfl
  refine (thingWithin_walk s0 n1 s2 (by omega) _).mono fun e W' ⟨he, hb⟩ => ?_
  subst he
  exact ⟨_, rfl, law_post rfl rfl (by rw [Try.params5]; decide +kernel) ⟨rfl, rfl, rfl⟩ hW' hb⟩
theorem thingWithin_holds : Rows.ThingWithinSaid :=
  OpenClaim.holds_of_wide 5 Try.f5 rfl rfl rfl rfl rfl rfl rfl ⟨rfl, rfl, rfl, rfl, rfl⟩ rfl rfl rfl rfl rfl (by kernel_rfl) Try.func5 (by kernel_rfl)
    (of_decide_eq_true (by kernel_rfl)) (by unfold Func.isWrapper; first | (rw [if_pos (by decide +kernel)]; kernel_rfl) | (rw [if_neg (by decide +kernel)]; exact ⟨rfl, rfl⟩))
    (fun os started H enc _ => thingWithin_lifted os started H enc)
end
end Go.Proofs.Ytohdijhpoddbbaa
