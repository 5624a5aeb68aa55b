/-
  Ranges without a program: kinds of keys, what a motion goes over, what is cut with it, and how many lines are left.
-/
import Derived.Test.YtlfhfpjffdaomaaDoorLineCalls
namespace Go.Proofs.YtlfhfpjffdaomaaDoor
namespace Span
open Utf (off valid place)
open Line (L L_whole L_valid L_each of_ Whole)

def short : List (List UInt8) := [[104], [108], [48], [94], [36], [124], [119], [98], [87], [66], [123], [125], [70], [84], [110], [78], [96]]
def long : List (List UInt8) := [[101], [69], [102], [116], [37]]
def whole : List (List UInt8) := [[106], [107], [103, 103], [71], [39]]
/-- A key's kind. -/
def kind (key : List UInt8) : Nat := if key ∈ short then 1 else if key ∈ long then 2 else if key ∈ whole then 3 else 0

/-- Is an offset where a line begins, and ends? -/
def starts (s : List UInt8) (p : Nat) : Bool := decide (p = 0) || decide (s[p - 1]? = some 10)
def ends (s : List UInt8) (p : Nat) : Bool := decide (p = s.length) || decide (s[p]? = some 10)
theorem starts_at {s : List UInt8} {k : Nat} {x : Nat × Nat} (h : (L s)[k]? = some x) : starts s x.1 = true := by
  have W := L_whole (L_valid h)
  cases k with
  | zero =>
    obtain ⟨z, hz, h0⟩ := W.head
    rw [hz] at h
    injection h with h
    subst h
    simp [starts, h0]
  | succ k =>
    have hk : k < (L s).length := by have := (List.getElem?_eq_some_iff.1 h).1; omega
    have hz : (L s)[k]? = some (L s)[k] := List.getElem?_eq_getElem hk
    obtain ⟨h1, h2⟩ := W.more k _ x hz h
    simp [starts, h1, h2]
theorem ends_at {s : List UInt8} {k n : Nat} {x : Nat × Nat} (h : (L s)[k]? = some x) (h1 : x.1 ≤ n) (h2 : n ≤ x.2) : ends s n = decide (n = x.2) := by
  have W := L_whole (L_valid h)
  obtain ⟨_, _, h3, h4⟩ := W.each k x h
  rcases Nat.lt_or_ge n x.2 with h5 | h5
  · have := h4 n h1 h5
    rw [ends, decide_eq_false (by omega), decide_eq_false this, decide_eq_false (by omega)]
    rfl
  · obtain rfl : n = x.2 := by omega
    rw [ends]
    cases hy : (L s)[k + 1]? with
    | none => simp [W.last k x h hy]
    | some y => simp [(W.more k x y h hy).2]

/-- Where a rune's end is, or the line's. -/
def top (s : List UInt8) (q : Int) : Int := if q < Line.stop s (of_ s q) then Utf.next s q else q
/-- What a motion of a kind goes over. -/
def rng (s : List UInt8) (p q kind : Int) : Option (Int × Int × Bool) :=
  if (place s p && place s q) = true then
    (if kind = 1 then some (min p q, max p q, false)
     else if kind = 2 then some (min p q, top s (max p q), false)
     else if kind = 3 then some (Line.start s (of_ s (min p q)), Line.stop s (of_ s (max p q)), true)
     else none)
  else none
theorem rng_comm (s : List UInt8) (p q kind : Int) : rng s p q kind = rng s q p kind := by rw [rng, rng, Bool.and_comm, Int.min_comm, Int.max_comm]
theorem rng_bad {s : List UInt8} {p q kind : Int} (h : (place s p && place s q) = false) : rng s p q kind = none := by rw [rng, if_neg (by simp [h])]
theorem rng_kind {s : List UInt8} {p q kind : Int} (h1 : kind ≠ 1) (h2 : kind ≠ 2) (h3 : kind ≠ 3) : rng s p q kind = none := by
  rw [rng, if_neg h1, if_neg h2, if_neg h3]; split <;> rfl
theorem rng_short {s : List UInt8} {p q : Int} (hp : place s p = true) (hq : place s q = true) : rng s p q 1 = some (min p q, max p q, false) := by rw [rng, if_pos (by simp [hp, hq]), if_pos rfl]
theorem rng_long {s : List UInt8} {p q : Int} (hp : place s p = true) (hq : place s q = true) : rng s p q 2 = some (min p q, top s (max p q), false) := by rw [rng, if_pos (by simp [hp, hq]), if_neg (by decide), if_pos rfl]
theorem rng_whole {s : List UInt8} {p q : Int} (hp : place s p = true) (hq : place s q = true) : rng s p q 3 = some (Line.start s (of_ s (min p q)), Line.stop s (of_ s (max p q)), true) := by rw [rng, if_pos (by simp [hp, hq]), if_neg (by decide), if_neg (by decide), if_pos rfl]
/-- What is answered. -/
def res : Option (Int × Int × Bool) → Value
  | some x => .tuple #[.agg #[.int .i64 x.1, .int .i64 x.2.1, .bool x.2.2], .bool true]
  | none => .tuple #[.agg #[.int .i64 0, .int .i64 0, .bool false], .bool false]
theorem res_some (a b : Int) (c : Bool) : res (some (a, b, c)) = .tuple #[.agg #[.int .i64 a, .int .i64 b, .bool c], .bool true] := rfl
theorem res_none : res none = .tuple #[.agg #[.int .i64 0, .int .i64 0, .bool false], .bool false] := rfl
theorem res_form (o : Option (Int × Int × Bool)) : ∃ (a b : Int) (c d : Bool), res o = .tuple #[.agg #[.int .i64 a, .int .i64 b, .bool c], .bool d] := by
  cases o with
  | none => exact ⟨0, 0, false, false, rfl⟩
  | some x => exact ⟨x.1, x.2.1, x.2.2, true, rfl⟩

theorem next_ok {s : List UInt8} {q : Nat} (hq : place s (q : Int) = true) (h : q < s.length) : ∃ m : Nat, Utf.next s (q : Int) = m ∧ place s (m : Int) = true ∧ q < m ∧ m ≤ s.length := by
  obtain ⟨rs, hd⟩ := Option.isSome_iff_exists.1 (Line.place_ok hq)
  obtain ⟨i, hi, he⟩ := (Utf.place_iff hd).1 hq
  have he' : off rs i = q := by omega
  have hlt : i < rs.length := by
    rcases Nat.lt_or_ge i rs.length with h1 | h1
    · exact h1
    · rw [Utf.off_top hd h1] at he'; omega
  refine ⟨off rs (i + 1), by rw [← he, Utf.next_at hd hlt], Utf.place_at hd hlt, ?_, Utf.off_in hd _⟩
  have := Utf.off_lt (Utf.dec_some hd).1 (show i < i + 1 by omega) hlt
  omega
theorem place_min {s : List UInt8} {p q : Int} (hp : place s p = true) (hq : place s q = true) : place s (min p q) = true := by
  rcases Int.le_total p q with h | h
  · rwa [Int.min_eq_left h]
  · rwa [Int.min_eq_right h]
theorem place_max {s : List UInt8} {p q : Int} (hp : place s p = true) (hq : place s q = true) : place s (max p q) = true := by
  rcases Int.le_total p q with h | h
  · rwa [Int.max_eq_right h]
  · rwa [Int.max_eq_left h]

/-- What a range that is told is. -/
structure Lies (s : List UInt8) (p q kind a b : Int) (l : Bool) : Prop where
  pa : place s a = true
  pb : place s b = true
  ap : a ≤ min p q
  qb : max p q ≤ b
  ll : l = (kind == 3)
  al : l = true → starts s a.toNat = true
  bl : l = true → ends s b.toNat = true
theorem rng_lies {s : List UInt8} {p q kind a b : Int} {l : Bool} (h : rng s p q kind = some (a, b, l)) : Lies s p q kind a b l := by
  rw [rng] at h
  split at h
  case isFalse => cases h
  case isTrue hpq =>
    obtain ⟨hp, hq⟩ := Bool.and_eq_true_iff.1 hpq
    have h1 := place_min hp hq
    have h2 := place_max hp hq
    split at h
    case isTrue hk =>
      injection h with h
      injection h with ha h
      injection h with hb hl
      subst ha hb hl hk
      exact ⟨h1, h2, Int.le_refl _, Int.le_refl _, rfl, nofun, nofun⟩
    case isFalse k1 =>
      split at h
      case isTrue hk =>
        injection h with h
        injection h with ha h
        injection h with hb hl
        obtain ⟨n, k, x, hn, hx, h3, h4, h5, _, _, hst⟩ := Line.place_line h2
        have ht : place s b = true ∧ max p q ≤ b := by
          rw [← hb, top, hst]
          split
          · obtain ⟨m, hm, hp, hlt, _⟩ := next_ok (q := n) (by rw [← hn]; exact h2) (by omega)
            rw [hn, hm]
            exact ⟨hp, by omega⟩
          · exact ⟨h2, Int.le_refl _⟩
        subst ha hl hk
        exact ⟨h1, ht.1, Int.le_refl _, ht.2, rfl, nofun, nofun⟩
      case isFalse k2 =>
        split at h
        case isTrue hk =>
          injection h with h
          injection h with ha h
          injection h with hb hl
          obtain ⟨n, j, x, hn, hx, h3, h4, h5, _, hsx, _⟩ := Line.place_line h1
          obtain ⟨m, k, y, hm, hy, h6, h7, h8, _, _, hst⟩ := Line.place_line h2
          rw [hsx] at ha
          rw [hst] at hb
          subst ha hb hl hk
          refine ⟨Line.start_ok hx, Line.stop_ok hy, by omega, by omega, rfl, fun _ => starts_at hx, fun _ => ?_⟩
          rw [Int.toNat_natCast, ends_at hy (L_each hy).1 (Nat.le_refl _)]
          simp
        case isFalse => cases h
/-- A range of whole lines, by its lines. -/
theorem rng_lines {s : List UInt8} {p q : Int} (hp : place s p = true) (hq : place s q = true) : ∃ (j k : Nat) (x y : Nat × Nat), j ≤ k ∧ (L s)[j]? = some x ∧ (L s)[k]? = some y ∧ rng s p q 3 = some ((x.1 : Int), (y.2 : Int), true) := by
  have h1 := place_min hp hq
  have h2 := place_max hp hq
  obtain ⟨n, j, x, hn, hx, h3, h4, h5, _, hsx, _⟩ := Line.place_line h1
  obtain ⟨m, k, y, hm, hy, h6, h7, h8, _, _, hst⟩ := Line.place_line h2
  refine ⟨j, k, x, y, ?_, hx, hy, by rw [rng_whole hp hq, hsx, hst]⟩
  rcases Nat.lt_or_ge k j with h | h
  · have := (L_whole (L_valid hx)).mono hy hx h
    omega
  · exact h

/-- As many line feeds, and one more. -/
theorem lns_count (a i : Nat) (t : List UInt8) : (Line.lns a i t).length = t.count 10 + 1 := by
  induction t generalizing a i with
  | nil => rfl
  | cons b t ih =>
    rw [Line.lns]
    split
    · rename_i h; subst h; simp [ih]
    · rename_i h; rw [ih, List.count_cons_of_ne h]
theorem L_count {s : List UInt8} (h : valid s = true) : (L s).length = s.count 10 + 1 := by rw [Line.L_ok h]; exact lns_count 0 0 s
theorem count_more {s : List UInt8} {a n : Nat} (h : ∀ p, a ≤ p → p < a + n → s[p]? ≠ some 10) : (s.take (a + n)).count 10 = (s.take a).count 10 := by
  induction n with
  | zero => rfl
  | succ n ih =>
    rw [← Nat.add_assoc, List.take_add_one, List.count_append, ih (fun p h1 h2 => h p h1 (by omega))]
    have := h (a + n) (by omega) (by omega)
    cases hs : s[a + n]? with
    | none => simp
    | some b =>
      rw [hs] at this
      have hb : b ≠ 10 := fun h => this (by rw [h])
      simp [List.count_cons_of_ne hb]
theorem count_line {s : List UInt8} {k : Nat} {x : Nat × Nat} (h : (L s)[k]? = some x) : (s.take x.1).count 10 = k ∧ (s.take x.2).count 10 = k := by
  have W := L_whole (L_valid h)
  have key : (s.take x.2).count 10 = (s.take x.1).count 10 := by
    obtain ⟨_, h1, _, h2⟩ := W.each k x h
    have := count_more (s := s) (a := x.1) (n := x.2 - x.1) (fun p h3 h4 => h2 p h3 (by omega))
    rwa [show x.1 + (x.2 - x.1) = x.2 by omega] at this
  rw [key]
  suffices h0 : (s.take x.1).count 10 = k from ⟨h0, h0⟩
  clear key
  induction k generalizing x with
  | zero =>
    obtain ⟨z, hz, h0⟩ := W.head
    rw [hz] at h
    injection h with h
    subst h
    rw [h0]; rfl
  | succ k ih =>
    have hk : k < (L s).length := by have := (List.getElem?_eq_some_iff.1 h).1; omega
    have hz : (L s)[k]? = some (L s)[k] := List.getElem?_eq_getElem hk
    obtain ⟨h1, h2⟩ := W.more k _ x hz h
    obtain ⟨_, h3, _, h4⟩ := W.each k _ hz
    have := count_more (s := s) (a := (L s)[k].1) (n := (L s)[k].2 - (L s)[k].1) (fun p h5 h6 => h4 p h5 (by omega))
    rw [show (L s)[k].1 + ((L s)[k].2 - (L s)[k].1) = (L s)[k].2 by omega, ih hz] at this
    rw [h1, List.take_add_one, List.count_append, this, h2]
    rfl
theorem left_valid {s : List UInt8} {a b : Nat} (ha : place s (a : Int) = true) (hb : place s (b : Int) = true) : valid (s.take a ++ s.drop b) = true := by
  obtain ⟨rs, hd⟩ := Option.isSome_iff_exists.1 (Line.place_ok ha)
  obtain ⟨i, hi, he⟩ := (Utf.place_iff hd).1 ha
  obtain ⟨j, hj, hf⟩ := (Utf.place_iff hd).1 hb
  obtain rfl : off rs i = a := by omega
  obtain rfl : off rs j = b := by omega
  obtain ⟨h1, h2⟩ := Utf.dec_some hd
  rw [h2, Utf.off_take, Utf.off_drop, ← List.flatten_append, Utf.valid, Utf.dec_of]
  · rfl
  · intro r hr
    rcases List.mem_append.1 hr with h | h
    · exact h1 r (List.mem_of_mem_take h)
    · exact h1 r (List.mem_of_mem_drop h)
/-- What is cut with whole lines from a to b. -/
def cutA (s : List UInt8) (a b : Nat) : Nat := if b < s.length then a else a - 1
def cutB (s : List UInt8) (b : Nat) : Nat := if b < s.length then b + 1 else b
theorem cut_left {s : List UInt8} {j k : Nat} {x y : Nat × Nat} (hjk : j ≤ k) (hx : (L s)[j]? = some x) (hy : (L s)[k]? = some y) :
    cutA s x.1 y.2 ≤ cutB s y.2 ∧ cutB s y.2 ≤ s.length ∧ ((L (s.take (cutA s x.1 y.2) ++ s.drop (cutB s y.2))).length : Int) = max 1 (((L s).length : Int) - ((k : Int) - (j : Int) + 1)) := by
  have hv := L_valid hx
  have W := L_whole hv
  have hxs := L_each hx
  have hys := L_each hy
  have hxy : x.1 ≤ y.2 := by
    rcases Nat.eq_or_lt_of_le hjk with h | h
    · subst h; rw [hx] at hy; injection hy with hy; subst hy; exact hxs.1
    · have := W.mono hx hy h; omega
  have cx := count_line hx
  have cy := count_line hy
  have hL := L_count hv
  have hsum : ∀ n, (s.take n).count 10 + (s.drop n).count 10 = s.count 10 := fun n => by rw [← List.count_append, List.take_append_drop]
  unfold cutA cutB
  cases hz : (L s)[k + 1]? with
  | some z =>
    obtain ⟨h1, h2⟩ := W.more k y z hy hz
    have hlt : y.2 < s.length := (List.getElem?_eq_some_iff.1 h2).1
    have hkl := (List.getElem?_eq_some_iff.1 hz).1
    rw [if_pos hlt, if_pos hlt, ← h1]
    refine ⟨by omega, by omega, ?_⟩
    rw [L_count (left_valid (Line.start_ok hx) (Line.start_ok hz)), List.count_append]
    have := hsum z.1
    have := (count_line hz).1
    omega
  | none =>
    have h1 := W.last k y hy hz
    have hkl := (List.getElem?_eq_some_iff.1 hy).1
    have hkn : (L s).length = k + 1 := by
      rcases Nat.lt_or_ge (k + 1) (L s).length with h | h
      · rw [List.getElem?_eq_getElem h] at hz; cases hz
      · omega
    rw [if_neg (by omega), if_neg (by omega)]
    refine ⟨by omega, by omega, ?_⟩
    rw [h1, List.drop_length, List.append_nil]
    cases j with
    | zero =>
      obtain ⟨u, hu, h0⟩ := W.head
      rw [hu] at hx
      injection hx with hx
      subst hx
      rw [h0, show s.take (0 - 1) = [] from rfl, L_count (by rw [Utf.valid, Utf.dec_nil]; rfl)]
      rw [show List.count (10 : UInt8) [] = 0 from rfl]
      omega
    | succ j =>
      have hj : j < (L s).length := by have := (List.getElem?_eq_some_iff.1 hx).1; omega
      have hu : (L s)[j]? = some (L s)[j] := List.getElem?_eq_getElem hj
      have h2 := (W.more j _ x hu hx).1
      rw [h2, Nat.add_sub_cancel]
      have h3 := left_valid (Line.stop_ok hu) (b := s.length) (by rw [← h1]; exact Line.stop_ok hy)
      rw [List.drop_length, List.append_nil] at h3
      rw [L_count h3, (count_line hu).2]
      omega
end Span
end Go.Proofs.YtlfhfpjffdaomaaDoor
