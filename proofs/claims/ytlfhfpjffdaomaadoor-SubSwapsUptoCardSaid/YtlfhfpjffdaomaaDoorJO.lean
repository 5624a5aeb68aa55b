/-
  Ranges without a program: kinds of keys, what a motion goes over, what is cut with it, and how many lines are left.
-/
import Derived.Test.YtlfhfpjffdaomaaDoorLineCalls
import Derived.Test.YtlfhfpjffdaomaaDoorBase
import Derived.Laws.Rows
import Derived.Deep.RegionHeld3
import Derived.Test.YtlfhfpjffdaomaaDoorUtfPlaces
import Derived.Test.YtlfhfpjffdaomaaDoorLine
import Derived.Test.YtlfhfpjffdaomaaDoorJP
import Derived.Test.YtlfhfpjffdaomaaDoorJB
namespace Go.Proofs.YtlfhfpjffdaomaaDoor
namespace Span
open Utf (off valid place)
open Line (L L_whole L_valid L_each of_ Whole)

def short : List (List UInt8) := [[104], [108], [48], [94], [36], [124], [119], [98], [87], [66], [123], [125], [70], [84], [110], [78], [96]]
def long : List (List UInt8) := [[101], [69], [102], [116], [37]]
def whole : List (List UInt8) := [[106], [107], [103, 103], [71], [39]]
/-- A key's kind. -/
def kind (key : List UInt8) : Nat := if key ∈ short then 1 else if key ∈ long then 2 else if key ∈ whole then 3 else 0

/-- Is an offset where a line begins, and ends? -/
def starts (s : List UInt8) (p : Nat) : Bool := decide (p = 0) || decide (s[p - 1]? = some 10)
def ends (s : List UInt8) (p : Nat) : Bool := decide (p = s.length) || decide (s[p]? = some 10)
theorem starts_at {s : List UInt8} {k : Nat} {x : Nat × Nat} (h : (L s)[k]? = some x) : starts s x.1 = true := by
  have W := L_whole (L_valid h)
  cases k with
  | zero =>
    obtain ⟨z, hz, h0⟩ := W.head
    rw [hz] at h
    injection h with h
    subst h
    simp [starts, h0]
  | succ k =>
    have hk : k < (L s).length := by have := (List.getElem?_eq_some_iff.1 h).1; omega
    have hz : (L s)[k]? = some (L s)[k] := List.getElem?_eq_getElem hk
    obtain ⟨h1, h2⟩ := W.more k _ x hz h
    simp [starts, h1, h2]
theorem ends_at {s : List UInt8} {k n : Nat} {x : Nat × Nat} (h : (L s)[k]? = some x) (h1 : x.1 ≤ n) (h2 : n ≤ x.2) : ends s n = decide (n = x.2) := by
  have W := L_whole (L_valid h)
  obtain ⟨_, _, h3, h4⟩ := W.each k x h
  rcases Nat.lt_or_ge n x.2 with h5 | h5
  · have := h4 n h1 h5
    rw [ends, decide_eq_false (by omega), decide_eq_false this, decide_eq_false (by omega)]
    rfl
  · obtain rfl : n = x.2 := by omega
    rw [ends]
    cases hy : (L s)[k + 1]? with
    | none => simp [W.last k x h hy]
    | some y => simp [(W.more k x y h hy).2]

/-- Where a rune's end is, or the line's. -/
def top (s : List UInt8) (q : Int) : Int := if q < Line.stop s (of_ s q) then Utf.next s q else q
/-- What a motion of a kind goes over. -/
def rng (s : List UInt8) (p q kind : Int) : Option (Int × Int × Bool) :=
  if (place s p && place s q) = true then
    (if kind = 1 then some (min p q, max p q, false)
     else if kind = 2 then some (min p q, top s (max p q), false)
     else if kind = 3 then some (Line.start s (of_ s (min p q)), Line.stop s (of_ s (max p q)), true)
     else none)
  else none
theorem rng_comm (s : List UInt8) (p q kind : Int) : rng s p q kind = rng s q p kind := by rw [rng, rng, Bool.and_comm, Int.min_comm, Int.max_comm]
theorem rng_bad {s : List UInt8} {p q kind : Int} (h : (place s p && place s q) = false) : rng s p q kind = none := by rw [rng, if_neg (by simp [h])]
theorem rng_kind {s : List UInt8} {p q kind : Int} (h1 : kind ≠ 1) (h2 : kind ≠ 2) (h3 : kind ≠ 3) : rng s p q kind = none := by
  rw [rng, if_neg h1, if_neg h2, if_neg h3]; split <;> rfl
theorem rng_short {s : List UInt8} {p q : Int} (hp : place s p = true) (hq : place s q = true) : rng s p q 1 = some (min p q, max p q, false) := by rw [rng, if_pos (by simp [hp, hq]), if_pos rfl]
theorem rng_long {s : List UInt8} {p q : Int} (hp : place s p = true) (hq : place s q = true) : rng s p q 2 = some (min p q, top s (max p q), false) := by rw [rng, if_pos (by simp [hp, hq]), if_neg (by decide), if_pos rfl]
theorem rng_whole {s : List UInt8} {p q : Int} (hp : place s p = true) (hq : place s q = true) : rng s p q 3 = some (Line.start s (of_ s (min p q)), Line.stop s (of_ s (max p q)), true) := by rw [rng, if_pos (by simp [hp, hq]), if_neg (by decide), if_neg (by decide), if_pos rfl]
/-- What is answered. -/
def res : Option (Int × Int × Bool) → Value
  | some x => .tuple #[.agg #[.int .i64 x.1, .int .i64 x.2.1, .bool x.2.2], .bool true]
  | none => .tuple #[.agg #[.int .i64 0, .int .i64 0, .bool false], .bool false]
theorem res_some (a b : Int) (c : Bool) : res (some (a, b, c)) = .tuple #[.agg #[.int .i64 a, .int .i64 b, .bool c], .bool true] := rfl
theorem res_none : res none = .tuple #[.agg #[.int .i64 0, .int .i64 0, .bool false], .bool false] := rfl
theorem res_form (o : Option (Int × Int × Bool)) : ∃ (a b : Int) (c d : Bool), res o = .tuple #[.agg #[.int .i64 a, .int .i64 b, .bool c], .bool d] := by
  cases o with
  | none => exact ⟨0, 0, false, false, rfl⟩
  | some x => exact ⟨x.1, x.2.1, x.2.2, true, rfl⟩

theorem next_ok {s : List UInt8} {q : Nat} (hq : place s (q : Int) = true) (h : q < s.length) : ∃ m : Nat, Utf.next s (q : Int) = m ∧ place s (m : Int) = true ∧ q < m ∧ m ≤ s.length := by
  obtain ⟨rs, hd⟩ := Option.isSome_iff_exists.1 (Line.place_ok hq)
  obtain ⟨i, hi, he⟩ := (Utf.place_iff hd).1 hq
  have he' : off rs i = q := by omega
  have hlt : i < rs.length := by
    rcases Nat.lt_or_ge i rs.length with h1 | h1
    · exact h1
    · rw [Utf.off_top hd h1] at he'; omega
  refine ⟨off rs (i + 1), by rw [← he, Utf.next_at hd hlt], Utf.place_at hd hlt, ?_, Utf.off_in hd _⟩
  have := Utf.off_lt (Utf.dec_some hd).1 (show i < i + 1 by omega) hlt
  omega
theorem place_min {s : List UInt8} {p q : Int} (hp : place s p = true) (hq : place s q = true) : place s (min p q) = true := by
  rcases Int.le_total p q with h | h
  · rwa [Int.min_eq_left h]
  · rwa [Int.min_eq_right h]
theorem place_max {s : List UInt8} {p q : Int} (hp : place s p = true) (hq : place s q = true) : place s (max p q) = true := by
  rcases Int.le_total p q with h | h
  · rwa [Int.max_eq_right h]
  · rwa [Int.max_eq_left h]

/-- What a range that is told is. -/
structure Lies (s : List UInt8) (p q kind a b : Int) (l : Bool) : Prop where
  pa : place s a = true
  pb : place s b = true
  ap : a ≤ min p q
  qb : max p q ≤ b
  ll : l = (kind == 3)
  al : l = true → starts s a.toNat = true
  bl : l = true → ends s b.toNat = true
theorem rng_lies {s : List UInt8} {p q kind a b : Int} {l : Bool} (h : rng s p q kind = some (a, b, l)) : Lies s p q kind a b l := by
  rw [rng] at h
  split at h
  case isFalse => cases h
  case isTrue hpq =>
    obtain ⟨hp, hq⟩ := Bool.and_eq_true_iff.1 hpq
    have h1 := place_min hp hq
    have h2 := place_max hp hq
    split at h
    case isTrue hk =>
      injection h with h
      injection h with ha h
      injection h with hb hl
      subst ha hb hl hk
      exact ⟨h1, h2, Int.le_refl _, Int.le_refl _, rfl, nofun, nofun⟩
    case isFalse k1 =>
      split at h
      case isTrue hk =>
        injection h with h
        injection h with ha h
        injection h with hb hl
        obtain ⟨n, k, x, hn, hx, h3, h4, h5, _, _, hst⟩ := Line.place_line h2
        have ht : place s b = true ∧ max p q ≤ b := by
          rw [← hb, top, hst]
          split
          · obtain ⟨m, hm, hp, hlt, _⟩ := next_ok (q := n) (by rw [← hn]; exact h2) (by omega)
            rw [hn, hm]
            exact ⟨hp, by omega⟩
          · exact ⟨h2, Int.le_refl _⟩
        subst ha hl hk
        exact ⟨h1, ht.1, Int.le_refl _, ht.2, rfl, nofun, nofun⟩
      case isFalse k2 =>
        split at h
        case isTrue hk =>
          injection h with h
          injection h with ha h
          injection h with hb hl
          obtain ⟨n, j, x, hn, hx, h3, h4, h5, _, hsx, _⟩ := Line.place_line h1
          obtain ⟨m, k, y, hm, hy, h6, h7, h8, _, _, hst⟩ := Line.place_line h2
          rw [hsx] at ha
          rw [hst] at hb
          subst ha hb hl hk
          refine ⟨Line.start_ok hx, Line.stop_ok hy, by omega, by omega, rfl, fun _ => starts_at hx, fun _ => ?_⟩
          rw [Int.toNat_natCast, ends_at hy (L_each hy).1 (Nat.le_refl _)]
          simp
        case isFalse => cases h
/-- A range of whole lines, by its lines. -/
theorem rng_lines {s : List UInt8} {p q : Int} (hp : place s p = true) (hq : place s q = true) : ∃ (j k : Nat) (x y : Nat × Nat), j ≤ k ∧ (L s)[j]? = some x ∧ (L s)[k]? = some y ∧ rng s p q 3 = some ((x.1 : Int), (y.2 : Int), true) := by
  have h1 := place_min hp hq
  have h2 := place_max hp hq
  obtain ⟨n, j, x, hn, hx, h3, h4, h5, _, hsx, _⟩ := Line.place_line h1
  obtain ⟨m, k, y, hm, hy, h6, h7, h8, _, _, hst⟩ := Line.place_line h2
  refine ⟨j, k, x, y, ?_, hx, hy, by rw [rng_whole hp hq, hsx, hst]⟩
  rcases Nat.lt_or_ge k j with h | h
  · have := (L_whole (L_valid hx)).mono hy hx h
    omega
  · exact h

/-- As many line feeds, and one more. -/
theorem lns_count (a i : Nat) (t : List UInt8) : (Line.lns a i t).length = t.count 10 + 1 := by
  induction t generalizing a i with
  | nil => rfl
  | cons b t ih =>
    rw [Line.lns]
    split
    · rename_i h; subst h; simp [ih]
    · rename_i h; rw [ih, List.count_cons_of_ne h]
theorem L_count {s : List UInt8} (h : valid s = true) : (L s).length = s.count 10 + 1 := by rw [Line.L_ok h]; exact lns_count 0 0 s
theorem count_more {s : List UInt8} {a n : Nat} (h : ∀ p, a ≤ p → p < a + n → s[p]? ≠ some 10) : (s.take (a + n)).count 10 = (s.take a).count 10 := by
  induction n with
  | zero => rfl
  | succ n ih =>
    rw [← Nat.add_assoc, List.take_add_one, List.count_append, ih (fun p h1 h2 => h p h1 (by omega))]
    have := h (a + n) (by omega) (by omega)
    cases hs : s[a + n]? with
    | none => simp
    | some b =>
      rw [hs] at this
      have hb : b ≠ 10 := fun h => this (by rw [h])
      simp [List.count_cons_of_ne hb]
theorem count_line {s : List UInt8} {k : Nat} {x : Nat × Nat} (h : (L s)[k]? = some x) : (s.take x.1).count 10 = k ∧ (s.take x.2).count 10 = k := by
  have W := L_whole (L_valid h)
  have key : (s.take x.2).count 10 = (s.take x.1).count 10 := by
    obtain ⟨_, h1, _, h2⟩ := W.each k x h
    have := count_more (s := s) (a := x.1) (n := x.2 - x.1) (fun p h3 h4 => h2 p h3 (by omega))
    rwa [show x.1 + (x.2 - x.1) = x.2 by omega] at this
  rw [key]
  suffices h0 : (s.take x.1).count 10 = k from ⟨h0, h0⟩
  clear key
  induction k generalizing x with
  | zero =>
    obtain ⟨z, hz, h0⟩ := W.head
    rw [hz] at h
    injection h with h
    subst h
    rw [h0]; rfl
  | succ k ih =>
    have hk : k < (L s).length := by have := (List.getElem?_eq_some_iff.1 h).1; omega
    have hz : (L s)[k]? = some (L s)[k] := List.getElem?_eq_getElem hk
    obtain ⟨h1, h2⟩ := W.more k _ x hz h
    obtain ⟨_, h3, _, h4⟩ := W.each k _ hz
    have := count_more (s := s) (a := (L s)[k].1) (n := (L s)[k].2 - (L s)[k].1) (fun p h5 h6 => h4 p h5 (by omega))
    rw [show (L s)[k].1 + ((L s)[k].2 - (L s)[k].1) = (L s)[k].2 by omega, ih hz] at this
    rw [h1, List.take_add_one, List.count_append, this, h2]
    rfl
theorem left_valid {s : List UInt8} {a b : Nat} (ha : place s (a : Int) = true) (hb : place s (b : Int) = true) : valid (s.take a ++ s.drop b) = true := by
  obtain ⟨rs, hd⟩ := Option.isSome_iff_exists.1 (Line.place_ok ha)
  obtain ⟨i, hi, he⟩ := (Utf.place_iff hd).1 ha
  obtain ⟨j, hj, hf⟩ := (Utf.place_iff hd).1 hb
  obtain rfl : off rs i = a := by omega
  obtain rfl : off rs j = b := by omega
  obtain ⟨h1, h2⟩ := Utf.dec_some hd
  rw [h2, Utf.off_take, Utf.off_drop, ← List.flatten_append, Utf.valid, Utf.dec_of]
  · rfl
  · intro r hr
    rcases List.mem_append.1 hr with h | h
    · exact h1 r (List.mem_of_mem_take h)
    · exact h1 r (List.mem_of_mem_drop h)
/-- What is cut with whole lines from a to b. -/
def cutA (s : List UInt8) (a b : Nat) : Nat := if b < s.length then a else a - 1
def cutB (s : List UInt8) (b : Nat) : Nat := if b < s.length then b + 1 else b
theorem cut_left {s : List UInt8} {j k : Nat} {x y : Nat × Nat} (hjk : j ≤ k) (hx : (L s)[j]? = some x) (hy : (L s)[k]? = some y) :
    cutA s x.1 y.2 ≤ cutB s y.2 ∧ cutB s y.2 ≤ s.length ∧ ((L (s.take (cutA s x.1 y.2) ++ s.drop (cutB s y.2))).length : Int) = max 1 (((L s).length : Int) - ((k : Int) - (j : Int) + 1)) := by
  have hv := L_valid hx
  have W := L_whole hv
  have hxs := L_each hx
  have hys := L_each hy
  have hxy : x.1 ≤ y.2 := by
    rcases Nat.eq_or_lt_of_le hjk with h | h
    · subst h; rw [hx] at hy; injection hy with hy; subst hy; exact hxs.1
    · have := W.mono hx hy h; omega
  have cx := count_line hx
  have cy := count_line hy
  have hL := L_count hv
  have hsum : ∀ n, (s.take n).count 10 + (s.drop n).count 10 = s.count 10 := fun n => by rw [← List.count_append, List.take_append_drop]
  unfold cutA cutB
  cases hz : (L s)[k + 1]? with
  | some z =>
    obtain ⟨h1, h2⟩ := W.more k y z hy hz
    have hlt : y.2 < s.length := (List.getElem?_eq_some_iff.1 h2).1
    have hkl := (List.getElem?_eq_some_iff.1 hz).1
    rw [if_pos hlt, if_pos hlt, ← h1]
    refine ⟨by omega, by omega, ?_⟩
    rw [L_count (left_valid (Line.start_ok hx) (Line.start_ok hz)), List.count_append]
    have := hsum z.1
    have := (count_line hz).1
    omega
  | none =>
    have h1 := W.last k y hy hz
    have hkl := (List.getElem?_eq_some_iff.1 hy).1
    have hkn : (L s).length = k + 1 := by
      rcases Nat.lt_or_ge (k + 1) (L s).length with h | h
      · rw [List.getElem?_eq_getElem h] at hz; cases hz
      · omega
    rw [if_neg (by omega), if_neg (by omega)]
    refine ⟨by omega, by omega, ?_⟩
    rw [h1, List.drop_length, List.append_nil]
    cases j with
    | zero =>
      obtain ⟨u, hu, h0⟩ := W.head
      rw [hu] at hx
      injection hx with hx
      subst hx
      rw [h0, show s.take (0 - 1) = [] from rfl, L_count (by rw [Utf.valid, Utf.dec_nil]; rfl)]
      rw [show List.count (10 : UInt8) [] = 0 from rfl]
      omega
    | succ j =>
      have hj : j < (L s).length := by have := (List.getElem?_eq_some_iff.1 hx).1; omega
      have hu : (L s)[j]? = some (L s)[j] := List.getElem?_eq_getElem hj
      have h2 := (W.more j _ x hu hx).1
      rw [h2, Nat.add_sub_cancel]
      have h3 := left_valid (Line.stop_ok hu) (b := s.length) (by rw [← h1]; exact Line.stop_ok hy)
      rw [List.drop_length, List.append_nil] at h3
      rw [L_count h3, (count_line hu).2]
      omega
end Span
end Go.Proofs.YtlfhfpjffdaomaaDoor
/-
  Answers that are, or begin with, a struct of three cells.
-/
namespace Go.Proofs.YtlfhfpjffdaomaaDoor
open Go.RowKit
theorem results_row_and {P : Program} {fn : Func} {p u : Tmp} {ty : TypeId} (h : fn.results = #[.cell p ty, .tmp u]) (tmps : Array Value) (w : World) (g : Nat) (t : TypeId) (cs : Array Value) (fr : Nat × Nat) (d : TypeDesc)
    (hp : tmps.getD p undef = .pointer (some ⟨g, 0, none⟩)) (hg : w.heap[g]? = some (.cells cs t fr))
    (hu : P.underlying ty = some d) (hd : (match d with | .struct _ | .array _ _ => true | _ => false) = true) (hi : (P.info? ty).map (·.size) = some cs.size) :
    (results fn tmps).run P w = .ok (.tuple #[.agg cs, tmps.getD u undef]) w := by
  have hp' : tmps[p]?.getD undef = .pointer (some ⟨g, 0, none⟩) := by simpa using hp
  simp [results, h, hp', asAddr, run_loadVar_row w g t ty cs fr d hg hu hd hi]
section
variable {P : Program} {fn : Func} {R : Ending → World → Prop} {a : Act} {w : World} {g : Nat} {t : TypeId} {v0 v1 v2 c0 c1 c2 : Value} {p u : Tmp} {fs : Array Field} {ty : TypeId}
theorem three_row (hB : Blk w g t #[c0, c1, c2]) : Blk (((w.setCell ⟨g, 0, none⟩ v0).setCell ⟨g, 1, none⟩ v1).setCell ⟨g, 2, none⟩ v2) g t #[v0, v1, v2] := ((hB.set_ 0 v0).set_ 1 v1).set_ 2 v2
theorem ret_three (h : fn.results = #[.cell p ty]) (hp : a.tmps.getD p undef = .pointer (some ⟨g, 0, none⟩)) (hB : Blk w g t #[v0, v1, v2]) (hd : a.defers = []) (hu : P.underlying ty = some (.struct fs)) (hi : (P.info? ty).map (·.size) = some 3)
    (hR : R (.returned (.agg #[v0, v1, v2])) w) : bodyPost P fn R .ret a w :=
  bodyPost_ret (results_cell_row h _ _ g t #[v0, v1, v2] (0, 0) _ hp hB hu rfl hi) hd hR
theorem ret_three1 (h : fn.results = #[.cell p ty, .tmp u]) (hp : a.tmps.getD p undef = .pointer (some ⟨g, 0, none⟩)) (hB : Blk w g t #[v0, v1, v2]) (hd : a.defers = []) (hu : P.underlying ty = some (.struct fs)) (hi : (P.info? ty).map (·.size) = some 3)
    (hR : R (.returned (.tuple #[.agg #[v0, v1, v2], a.tmps.getD u undef])) w) : bodyPost P fn R .ret a w :=
  bodyPost_ret (results_row_and h _ _ g t #[v0, v1, v2] (0, 0) _ hp hB hu rfl hi) hd hR
end
/-- What a store into the row wants. -/
theorem row_three {w : World} {g : Nat} {t : TypeId} {c0 c1 c2 : Value} (h : Blk w g t #[c0, c1, c2]) : w.cell? ⟨g, 0, none⟩ = some c0 ∧ w.cell? ⟨g, 1, none⟩ = some c1 ∧ w.cell? ⟨g, 2, none⟩ = some c2 ∧ w.frozen? ⟨g, 0, none⟩ = false ∧ w.frozen? ⟨g, 1, none⟩ = false ∧ w.frozen? ⟨g, 2, none⟩ = false :=
  ⟨h.cell 0, h.cell 1, h.cell 2, h.frozen 0, h.frozen 1, h.frozen 2⟩
theorem below_three {n g : Nat} {w u : World} {v0 v1 v2 : Value} (h : Below n w u) (hg : n ≤ g) : Below n w (((u.setCell ⟨g, 0, none⟩ v0).setCell ⟨g, 1, none⟩ v1).setCell ⟨g, 2, none⟩ v2) := ((h.setCell (p := ⟨g, 0, none⟩) hg v0).setCell (p := ⟨g, 1, none⟩) hg v1).setCell (p := ⟨g, 2, none⟩) hg v2
end Go.Proofs.YtlfhfpjffdaomaaDoor
/-
  Package span: where lines begin and end; whether a range may be.
-/
namespace Go.Proofs.YtlfhfpjffdaomaaDoor
open Go.RowKit
open Span (starts ends)
namespace Span
/-- May a range be? -/
def right (s : List UInt8) (a b : Int) (l : Bool) : Bool := decide (a ≤ b) && (Utf.place s a && (Utf.place s b && (!l || (starts s a.toNat && ends s b.toNat))))
theorem right_lies {s : List UInt8} {p q kind a b : Int} {l : Bool} (h : Lies s p q kind a b l) : right s a b l = true := by
  have h1 := h.ap
  have h2 := h.qb
  rw [right, decide_eq_true (by omega), h.pa, h.pb]
  cases l with
  | false => rfl
  | true => rw [h.al rfl, h.bl rfl]; rfl
theorem feed_test (b : UInt8) : ((b.toNat : Int) == 10) = decide (b = 10) := by
  rw [Bool.eq_iff_iff, beq_iff_eq, decide_eq_true_iff]
  refine ⟨fun h => UInt8.toNat_inj.1 ?_, fun h => by rw [h]; rfl⟩
  rw [show (10 : UInt8).toNat = 10 from rfl]
  omega
end Span
/-- The box of a range. -/
structure RBox (w u : World) (a b : Int) (l : Bool) : Prop where
  below : Below w.heap.size w u
  blk : Blk u w.heap.size 32 #[.int .i64 a, .int .i64 b, .bool l]
theorem RBox.drew {w u : World} {a b : Int} {l : Bool} (h : RBox w u a b l) : RBox w u.drew a b l := ⟨h.below.trans ((below_gb (gb_drew u none)).mono h.below.size), h.blk⟩
theorem RBox.on {w u v : World} {a b : Int} {l : Bool} (h : RBox w u a b l) (hb : Below u.heap.size u v) : RBox w v a b l := ⟨h.below.trans (hb.mono h.below.size), h.blk.below hb h.blk.lt⟩
theorem RBox.ond {w u v : World} {a b : Int} {l : Bool} (h : RBox w u a b l) (hb : Below u.drew.heap.size u.drew v) : RBox w v a b l := h.drew.on hb
theorem RBox.cells {w u : World} {a b : Int} {l : Bool} (h : RBox w u a b l) : u.cell? ⟨w.heap.size, 0, none⟩ = some (.int .i64 a) ∧ u.cell? ⟨w.heap.size, 1, none⟩ = some (.int .i64 b) ∧ u.cell? ⟨w.heap.size, 2, none⟩ = some (.bool l) ∧ u.frozen? ⟨w.heap.size, 0, none⟩ = false ∧ u.frozen? ⟨w.heap.size, 1, none⟩ = false ∧ u.frozen? ⟨w.heap.size, 2, none⟩ = false := row_three h.blk
theorem RBox.new (w : World) (a b : Int) (l : Bool) : RBox w (w.alloc (.cells #[.int .i64 a, .int .i64 b, .bool l] 32)) a b l := ⟨(Below.refl _ w).alloc (Nat.le_refl _) _, Blk.new _ _ _⟩
theorem RBox.alloc {w u : World} {a b : Int} {l : Bool} (h : RBox w u a b l) (o : Obj) : RBox w (u.alloc o) a b l := ⟨h.below.alloc h.below.size o, h.blk.alloc o⟩
end Go.Proofs.YtlfhfpjffdaomaaDoor
/-
  Package span: a range's lines.
-/
namespace Go.Proofs.YtlfhfpjffdaomaaDoor
open Go.RowKit
open Span (starts ends)
/-- A range's lines. -/
def Span.lines (s : List UInt8) (a b : Int) (l : Bool) : Int × Int :=
  if Span.right s a b l = true then (Line.of_ s a, if (!l && (decide (a < b) && starts s b.toNat)) = true then Line.of_ s b - 1 else Line.of_ s b) else (-1, -1)
theorem Span.right_to {s : List UInt8} {a b : Int} {l : Bool} (h : Span.right s a b l = true) : a ≤ b ∧ Utf.place s a = true ∧ Utf.place s b = true := by
  rw [Span.right, Bool.and_eq_true, Bool.and_eq_true, Bool.and_eq_true] at h
  exact ⟨of_decide_eq_true h.1, h.2.1, h.2.2.1⟩
theorem Span.of_small {s : List UInt8} {p : Int} (h : Utf.place s p = true) : 0 ≤ Line.of_ s p ∧ Line.of_ s p ≤ s.length := by
  obtain ⟨n, k, x, rfl, hx, _, _, _, hk, _, _⟩ := Line.place_line h
  have h1 := (List.getElem?_eq_some_iff.1 hx).1
  have h2 := Line.L_length s
  omega
end Go.Proofs.YtlfhfpjffdaomaaDoor
/-
  Package span: what is taken out with a range.
-/
namespace Go.Proofs.YtlfhfpjffdaomaaDoor
open Go.RowKit
/-- What is taken out with a range. -/
def Span.cut (s : List UInt8) (a b : Int) (l : Bool) : Int × Int × Bool :=
  if Span.right s a b l = true then (if l = true then (if b < s.length then (a, b + 1, l) else if 0 < a then (a - 1, b, l) else (a, b, l)) else (a, b, l)) else (0, 0, false)
/-- A range's box, and the answer's. -/
structure CBox (w u : World) (a b : Int) (l : Bool) : Prop extends RBox w u a b l where
  res : Blk u (w.heap.size + 1) 32 #[.int .i64 0, .int .i64 0, .bool false]
theorem CBox.new (w : World) (a b : Int) (l : Bool) : CBox w ((w.alloc (.cells #[.int .i64 a, .int .i64 b, .bool l] 32)).alloc (.cells #[.int .i64 0, .int .i64 0, .bool false] 32)) a b l := by
  refine ⟨(RBox.new w a b l).alloc _, ?_⟩
  have := Blk.new (w.alloc (.cells #[.int .i64 a, .int .i64 b, .bool l] 32)) 32 #[.int .i64 0, .int .i64 0, .bool false]
  rwa [World.size_alloc] at this
theorem CBox.on {w u v : World} {a b : Int} {l : Bool} (h : CBox w u a b l) (hb : Below u.heap.size u v) : CBox w v a b l := ⟨h.toRBox.on hb, h.res.below hb h.res.lt⟩
/-- One cell of the range, turned. -/
theorem CBox.one {w u : World} {a b : Int} {l : Bool} (h : CBox w u a b l) (c : Int) : CBox w (u.setCell ⟨w.heap.size, 1, none⟩ (.int .i64 c)) a c l :=
  ⟨⟨h.below.setCell (p := ⟨w.heap.size, 1, none⟩) (Nat.le_refl _) _, h.blk.set_ 1 _⟩, h.res.far (p := ⟨w.heap.size, 1, none⟩) (by show w.heap.size + 1 ≠ w.heap.size; omega) _⟩
theorem CBox.zero {w u : World} {a b : Int} {l : Bool} (h : CBox w u a b l) (c : Int) : CBox w (u.setCell ⟨w.heap.size, 0, none⟩ (.int .i64 c)) c b l :=
  ⟨⟨h.below.setCell (p := ⟨w.heap.size, 0, none⟩) (Nat.le_refl _) _, h.blk.set_ 0 _⟩, h.res.far (p := ⟨w.heap.size, 0, none⟩) (by show w.heap.size + 1 ≠ w.heap.size; omega) _⟩
theorem Span.right_in {s : List UInt8} {a b : Int} {l : Bool} (h : Span.right s a b l = true) : 0 ≤ a ∧ a ≤ b ∧ b ≤ s.length := by
  rw [Span.right, Bool.and_eq_true, Bool.and_eq_true, Bool.and_eq_true] at h
  obtain ⟨n, rfl, hn⟩ := Line.place_nat h.2.1
  obtain ⟨m, rfl, hm⟩ := Line.place_nat h.2.2.1
  have := of_decide_eq_true h.1
  omega
end Go.Proofs.YtlfhfpjffdaomaaDoor
/-
  Classes of runes in bytes, without a program: a byte's class, a rune's, and the bytes around a place that are of one class; letters that are others.
-/
namespace Go.Proofs.YtlfhfpjffdaomaaDoor
namespace Class
open Utf Line

def small (b : Nat) : Bool := decide (97 ≤ b) && decide (b ≤ 122)
def capital (b : Nat) : Bool := decide (65 ≤ b) && decide (b ≤ 90)
def letter (b : Nat) : Bool := small b || capital b
/-- A byte's class: 4 a line feed, 1 blanks, 2 of words, 3 all others. -/
def plain (b : Nat) : Nat := if b = 10 then 4 else if b = 32 ∨ b = 9 then 1 else if letter b = true ∨ (48 ≤ b ∧ b ≤ 57) ∨ b = 95 ∨ 127 < b then 2 else 3
def great (b : Nat) : Nat := if plain b = 3 then 2 else plain b
def of (big : Bool) (b : Nat) : Nat := if big then great b else plain b
theorem of_true (b : Nat) : of true b = great b := rfl
theorem of_false (b : Nat) : of false b = plain b := rfl
theorem plain_pos (b : Nat) : 1 ≤ plain b ∧ plain b ≤ 4 := by
  unfold plain; split <;> (try split) <;> (try split) <;> omega
theorem of_pos (big : Bool) (b : Nat) : 1 ≤ of big b ∧ of big b ≤ 4 := by
  have := plain_pos b
  cases big
  · exact this
  · rw [of_true]; unfold great; split <;> omega
theorem plain_long {b : Nat} (h : 127 < b) : plain b = 2 := by
  unfold plain
  rw [if_neg (by omega), if_neg (by omega), if_pos (by omega)]
theorem of_long (big : Bool) {b : Nat} (h : 127 < b) : of big b = 2 := by
  have := plain_long h
  cases big
  · exact this
  · rw [of_true, great, this]; rfl
theorem of_feed (big : Bool) : of big 10 = 4 := by cases big <;> rfl
theorem of_feed_iff (big : Bool) (b : Nat) : of big b = 4 ↔ b = 10 := by
  constructor
  · intro h
    have hp : plain b = 4 := by
      cases big
      · exact h
      · rw [of_true] at h; unfold great at h; split at h
        · omega
        · exact h
    unfold plain at hp
    split at hp
    · assumption
    · split at hp
      · omega
      · split at hp <;> omega
  · rintro rfl; exact of_feed big
/-- The class of a byte of a text; 0 behind its end. -/
def at_ (s : List UInt8) (i : Nat) (big : Bool) : Nat := match s[i]? with | none => 0 | some b => of big b.toNat
theorem at_some {s : List UInt8} {i : Nat} {b : UInt8} (h : s[i]? = some b) (big : Bool) : at_ s i big = of big b.toNat := by rw [at_, h]
theorem at_lt {s : List UInt8} {i : Nat} (h : i < s.length) (big : Bool) : at_ s i big = of big s[i].toNat := at_some (List.getElem?_eq_getElem h) big
theorem at_past {s : List UInt8} {i : Nat} (h : s.length ≤ i) (big : Bool) : at_ s i big = 0 := by rw [at_, List.getElem?_eq_none h]
theorem at_pos {s : List UInt8} {i : Nat} (h : i < s.length) (big : Bool) : 1 ≤ at_ s i big := by rw [at_lt h]; exact (of_pos _ _).1
theorem at_le (s : List UInt8) (i : Nat) (big : Bool) : at_ s i big ≤ 4 := by
  rcases Nat.lt_or_ge i s.length with h | h
  · rw [at_lt h]; exact (of_pos _ _).2
  · rw [at_past h]; omega
/-- The class of the rune that begins at a place; 0, if none does. -/
def kind (s : List UInt8) (x : Int) (big : Bool) : Nat := if next s x < 0 then 0 else at_ s x.toNat big
theorem kind_none {s : List UInt8} {x : Int} (h : next s x < 0) (big : Bool) : kind s x big = 0 := by rw [kind, if_pos h]
theorem kind_some {s : List UInt8} {x : Int} (h : ¬ next s x < 0) (big : Bool) : kind s x big = at_ s x.toNat big := by rw [kind, if_neg h]
theorem kind_le (s : List UInt8) (x : Int) (big : Bool) : kind s x big ≤ 4 := by
  unfold kind; split
  · omega
  · exact at_le _ _ _
theorem next_place {s : List UInt8} {x : Int} (h : ¬ next s x < 0) : ∃ rs i, dec s = some rs ∧ i < rs.length ∧ x = (off rs i : Int) := by
  cases hp : place s x with
  | false => exact absurd (by rw [next_no hp]; omega) h
  | true =>
    obtain ⟨rs, i, hd, hi, rfl⟩ := place_of hp
    rcases Nat.lt_or_ge i rs.length with hlt | hge
    · exact ⟨rs, i, hd, hlt, rfl⟩
    · rw [off_top hd hge, next_end hd] at h
      exact absurd (by omega) h
section
variable {s : List UInt8} {rs : List (List UInt8)} (hd : dec s = some rs)
include hd
theorem off_below {i : Nat} (hi : i < rs.length) : off rs i < s.length := by
  have h1 : off rs i < off rs (i + 1) := off_lt (dec_some hd).1 (Nat.lt_succ_self i) hi
  have h2 := off_in hd (i + 1)
  omega
theorem kind_at {i : Nat} (hi : i < rs.length) (big : Bool) : kind s (off rs i : Int) big = at_ s (off rs i) big := by
  rw [kind_some (by rw [next_at hd hi]; omega)]
  simp
theorem kind_end (big : Bool) : kind s (s.length : Int) big = 0 := kind_none (by rw [next_end hd]; omega) big
/-- All bytes of a rune are of its class. -/
theorem rune_same {i q : Nat} (hi : i < rs.length) (h1 : off rs i ≤ q) (h2 : q < off rs (i + 1)) (big : Bool) : at_ s q big = at_ s (off rs i) big := by
  obtain ⟨ho, he⟩ := dec_some hd
  have hr := List.getElem?_eq_getElem hi
  obtain ⟨a, t, hat, hh, hl, ht⟩ := one_shape (ho _ (List.getElem_mem hi))
  have hn := off_next hr
  rcases Nat.eq_or_lt_of_le h1 with e | hlt
  · rw [e]
  · have hg : ∀ j, j < rs[i].length → s[off rs i + j]? = rs[i][j]? := by
      intro j hj
      have := off_drop rs i
      rw [List.drop_eq_getElem_cons hi, List.flatten_cons, ← he] at this
      rw [← List.getElem?_drop, this, List.getElem?_append_left hj]
    have hlen : 2 ≤ rs[i].length := by omega
    have ha : s[off rs i]? = some a := by
      have := hg 0 (by omega)
      rw [hat] at this
      simpa using this
    have hq : ∃ b ∈ t, s[q]? = some b := by
      have h3 := hg (q - off rs i) (by omega)
      rw [show off rs i + (q - off rs i) = q by omega] at h3
      obtain ⟨m, hm⟩ : ∃ m, q - off rs i = m + 1 := ⟨q - off rs i - 1, by omega⟩
      rw [hm, hat, List.getElem?_cons_succ] at h3
      have hml : m < t.length := by
        have : rs[i].length = t.length + 1 := by rw [hat]; rfl
        omega
      exact ⟨t[m], List.getElem_mem hml, by rw [h3, List.getElem?_eq_getElem hml]⟩
    obtain ⟨b, hb, hqb⟩ := hq
    have hb2 := ht b hb
    have hb3 : 127 < b.toNat := by
      simp [heads] at hb2; omega
    have ha2 : 127 < a.toNat := by
      rcases Nat.lt_or_ge 127 a.toNat with h | h
      · exact h
      · have : len a.toNat = 1 := by
          unfold len
          rw [if_neg (by omega), if_neg (by omega), if_neg (by omega), if_neg (by omega), if_neg (by omega)]
        omega
    rw [at_some hqb, at_some ha, of_long _ hb3, of_long _ ha2]
end

/-- The lowest place from which f holds up to n. -/
def lft (f : Nat → Bool) : Nat → Nat | 0 => 0 | n + 1 => if f n then lft f n else n + 1
/-- From p on f holds up to there, m places at most. -/
def rgt (f : Nat → Bool) (p : Nat) : Nat → Nat | 0 => p | m + 1 => if f p then rgt f (p + 1) m else p
theorem lft_zero (f : Nat → Bool) : lft f 0 = 0 := rfl
theorem lft_yes {f : Nat → Bool} {n : Nat} (h : f n = true) : lft f (n + 1) = lft f n := by rw [lft, if_pos h]
theorem lft_no {f : Nat → Bool} {n : Nat} (h : f n = false) : lft f (n + 1) = n + 1 := by rw [lft, h]; rfl
theorem lft_le (f : Nat → Bool) (n : Nat) : lft f n ≤ n := by
  induction n with
  | zero => exact Nat.le_refl _
  | succ n ih => rw [lft]; split <;> omega
theorem lft_in (f : Nat → Bool) (n : Nat) : ∀ i, lft f n ≤ i → i < n → f i = true := by
  induction n with
  | zero => intro i _ h; omega
  | succ n ih =>
    intro i h1 h2
    cases hf : f n with
    | false => rw [lft_no hf] at h1; omega
    | true =>
      rw [lft_yes hf] at h1
      rcases Nat.eq_or_lt_of_le (Nat.le_of_lt_succ h2) with e | hlt
      · rw [e]; exact hf
      · exact ih i h1 hlt
theorem lft_stop (f : Nat → Bool) (n : Nat) : lft f n = 0 ∨ f (lft f n - 1) = false := by
  induction n with
  | zero => exact Or.inl rfl
  | succ n ih =>
    cases hf : f n with
    | false => right; rw [lft_no hf]; simpa using hf
    | true => rw [lft_yes hf]; exact ih
theorem lft_down {f : Nat → Bool} {a n : Nat} (h : a ≤ n) (hf : ∀ i, a ≤ i → i < n → f i = true) : lft f n = lft f a := by
  induction n with
  | zero => obtain rfl : a = 0 := by omega
            rfl
  | succ n ih =>
    rcases Nat.eq_or_lt_of_le h with e | hlt
    · rw [e]
    · rw [lft_yes (hf n (by omega) (by omega))]
      exact ih (by omega) (fun i h1 h2 => hf i h1 (by omega))
theorem lft_here {f : Nat → Bool} {n : Nat} (h : n = 0 ∨ f (n - 1) = false) : lft f n = n := by
  cases n with
  | zero => rfl
  | succ n => exact lft_no (by simpa using h)
theorem rgt_zero (f : Nat → Bool) (p : Nat) : rgt f p 0 = p := rfl
theorem rgt_yes {f : Nat → Bool} {p m : Nat} (h : f p = true) : rgt f p (m + 1) = rgt f (p + 1) m := by rw [rgt, if_pos h]
theorem rgt_no {f : Nat → Bool} {p m : Nat} (h : f p = false) : rgt f p m = p := by
  cases m with
  | zero => rfl
  | succ m => rw [rgt, h]; rfl
theorem rgt_ge (f : Nat → Bool) (p m : Nat) : p ≤ rgt f p m ∧ rgt f p m ≤ p + m := by
  induction m generalizing p with
  | zero => exact ⟨Nat.le_refl _, Nat.le_refl _⟩
  | succ m ih =>
    cases hf : f p with
    | false => rw [rgt_no hf]; omega
    | true => rw [rgt_yes hf]; have := ih (p + 1); omega
theorem rgt_in (f : Nat → Bool) (p m : Nat) : ∀ i, p ≤ i → i < rgt f p m → f i = true := by
  induction m generalizing p with
  | zero => intro i h1 h2; rw [rgt_zero] at h2; omega
  | succ m ih =>
    intro i h1 h2
    cases hf : f p with
    | false => rw [rgt_no hf] at h2; omega
    | true =>
      rw [rgt_yes hf] at h2
      rcases Nat.eq_or_lt_of_le h1 with e | hlt
      · rw [← e]; exact hf
      · exact ih (p + 1) i (by omega) h2
theorem rgt_stop (f : Nat → Bool) (p m : Nat) : rgt f p m = p + m ∨ f (rgt f p m) = false := by
  induction m generalizing p with
  | zero => exact Or.inl rfl
  | succ m ih =>
    cases hf : f p with
    | false => right; rw [rgt_no hf]; exact hf
    | true =>
      rw [rgt_yes hf]
      rcases ih (p + 1) with h | h
      · left; omega
      · right; exact h
theorem rgt_up {f : Nat → Bool} {p q l : Nat} (h : p ≤ q) (hq : q ≤ l) (hf : ∀ i, p ≤ i → i < q → f i = true) : rgt f p (l - p) = rgt f q (l - q) := by
  induction hk : q - p generalizing p with
  | zero => obtain rfl : p = q := by omega
            rfl
  | succ k ih =>
    rw [show l - p = (l - (p + 1)) + 1 by omega, rgt_yes (hf p (by omega) (by omega))]
    exact ih (p := p + 1) (by omega) (fun i h1 h2 => hf i (by omega) h2) (by omega)

/-- Is a byte of this class? -/
def same (s : List UInt8) (big : Bool) (c : Nat) (i : Nat) : Bool := decide (at_ s i big = c)
theorem same_iff {s : List UInt8} {big : Bool} {c i : Nat} : same s big c i = true ↔ at_ s i big = c := by simp [same]
theorem same_not {s : List UInt8} {big : Bool} {c i : Nat} : same s big c i = false ↔ at_ s i big ≠ c := by simp [same]
/-- Of the rune that begins at x: from where to where runes of its class stand. -/
def low_ (s : List UInt8) (x : Int) (big : Bool) : Int := if kind s x big = 0 ∨ kind s x big = 4 then -1 else (lft (same s big (kind s x big)) x.toNat : Nat)
def high_ (s : List UInt8) (x : Int) (big : Bool) : Int := if kind s x big = 0 ∨ kind s x big = 4 then -1 else (rgt (same s big (kind s x big)) x.toNat (s.length - x.toNat) : Nat)
theorem low_none {s : List UInt8} {x : Int} {big : Bool} (h : kind s x big = 0 ∨ kind s x big = 4) : low_ s x big = -1 := by rw [low_, if_pos h]
theorem high_none {s : List UInt8} {x : Int} {big : Bool} (h : kind s x big = 0 ∨ kind s x big = 4) : high_ s x big = -1 := by rw [high_, if_pos h]
theorem low_some {s : List UInt8} {x : Nat} {big : Bool} (h : ¬ (kind s x big = 0 ∨ kind s x big = 4)) : low_ s x big = (lft (same s big (kind s x big)) x : Nat) := by rw [low_, if_neg h]; simp
theorem high_some {s : List UInt8} {x : Nat} {big : Bool} (h : ¬ (kind s x big = 0 ∨ kind s x big = 4)) : high_ s x big = (rgt (same s big (kind s x big)) x (s.length - x) : Nat) := by rw [high_, if_neg h]; simp
theorem kind_nat {s : List UInt8} {x : Int} {big : Bool} (h : ¬ (kind s x big = 0 ∨ kind s x big = 4)) : ∃ rs i, dec s = some rs ∧ i < rs.length ∧ x = (off rs i : Int) ∧ kind s x big = at_ s (off rs i) big := by
  have hn : ¬ next s x < 0 := fun hn => h (Or.inl (kind_none hn big))
  obtain ⟨rs, i, hd, hi, rfl⟩ := next_place hn
  exact ⟨rs, i, hd, hi, rfl, kind_at hd hi big⟩

/-- A text in which letters are others. -/
def flip (f : Nat → Bool) (b : UInt8) : UInt8 := if f b.toNat then b ^^^ 32 else b
def turn (f : Nat → Bool) (s : List UInt8) : List UInt8 := s.map (flip f)
theorem turn_length (f : Nat → Bool) (s : List UInt8) : (turn f s).length = s.length := by simp [turn]
theorem flip_all (P : UInt8 → Prop) (h : ∀ b : Fin 256, P (UInt8.ofNat b.val)) (b : UInt8) : P b := by
  have := h ⟨b.toNat, b.toNat_lt⟩
  simpa using this
theorem flip_flip (b : UInt8) : flip letter (flip letter b) = b := flip_all (fun b => flip letter (flip letter b) = b) (by decide +kernel) b
theorem up_up (b : UInt8) : flip small (flip small b) = flip small b := flip_all (fun b => flip small (flip small b) = flip small b) (by decide +kernel) b
theorem low_up (b : UInt8) : flip capital (flip small b) = flip capital b := flip_all (fun b => flip capital (flip small b) = flip capital b) (by decide +kernel) b
theorem up_low (b : UInt8) : flip small (flip capital b) = flip small b := flip_all (fun b => flip small (flip capital b) = flip small b) (by decide +kernel) b
theorem up_flip (b : UInt8) : flip small (flip letter b) = flip small b := flip_all (fun b => flip small (flip letter b) = flip small b) (by decide +kernel) b
theorem turn_turn {f g h : Nat → Bool} (hfg : ∀ b, flip f (flip g b) = flip h b) (s : List UInt8) : turn f (turn g s) = turn h s := by
  simp [turn, Function.comp_def, hfg]
theorem flips (s : List UInt8) : turn letter (turn letter s) = s := by
  simp [turn, Function.comp_def, flip_flip]
theorem ups (s : List UInt8) : turn small (turn small s) = turn small s := turn_turn up_up s
theorem lows (s : List UInt8) : turn capital (turn small s) = turn capital s := turn_turn low_up s
theorem ups_low (s : List UInt8) : turn small (turn capital s) = turn small s := turn_turn up_low s
theorem ups_flip (s : List UInt8) : turn small (turn letter s) = turn small s := turn_turn up_flip s
theorem up_range (b : UInt8) : (len (flip small b).toNat = len b.toNat ∧ low (flip small b).toNat = low b.toNat ∧ high (flip small b).toNat = high b.toNat) ∧ (128 ≤ (flip small b).toNat ∨ 128 ≤ b.toNat → flip small b = b) :=
  flip_all (fun b => (len (flip small b).toNat = len b.toNat ∧ low (flip small b).toNat = low b.toNat ∧ high (flip small b).toNat = high b.toNat) ∧ (128 ≤ (flip small b).toNat ∨ 128 ≤ b.toNat → flip small b = b)) (by decide +kernel) b
theorem goes_up {lo hi n : Nat} (hlo : 128 ≤ lo) (s : List UInt8) : goes lo hi n (turn small s) = goes lo hi n s := by
  induction s generalizing lo hi n with
  | nil => rfl
  | cons b s ih =>
    cases n with
    | zero => simp [goes]
    | succ n =>
      rw [show turn small (b :: s) = flip small b :: turn small s from rfl]
      simp only [goes]
      rw [ih (Nat.le_refl _)]
      by_cases hb : 128 ≤ (flip small b).toNat ∨ 128 ≤ b.toNat
      · rw [(up_range b).2 hb]
      · have h1 : decide (lo ≤ (flip small b).toNat) = false := by simp; omega
        have h2 : decide (lo ≤ b.toNat) = false := by simp; omega
        rw [h1, h2]; rfl
theorem siz_up (s : List UInt8) : siz (turn small s) = siz s := by
  cases s with
  | nil => rfl
  | cons b s =>
    rw [show turn small (b :: s) = flip small b :: turn small s from rfl, siz_cons, siz_cons]
    obtain ⟨h1, h2, h3⟩ := (up_range b).1
    rw [h1, h2, h3, goes_up (low_le _)]
theorem valid_up (s : List UInt8) : valid (turn small s) = valid s := by
  induction hn : s.length using Nat.strongRecOn generalizing s with
  | ind n ih =>
    by_cases h0 : s = []
    · subst h0; rfl
    · have h0' : turn small s ≠ [] := by
        intro h; have := congrArg List.length h; rw [turn_length] at this; simp at this; exact h0 this
      have hp : 0 < s.length := List.length_pos_iff.2 h0
      by_cases h1 : 0 < siz s ∧ siz s ≤ s.length
      · have hd : (turn small s).drop (siz s) = turn small (s.drop (siz s)) := by simp [turn]
        have e1 : valid s = valid (s.drop (siz s)) := by
          rw [valid, dec, if_neg h0, if_pos h1, valid]
          cases dec (s.drop (siz s)) <;> rfl
        have e2 : valid (turn small s) = valid ((turn small s).drop (siz s)) := by
          rw [valid, dec, if_neg h0', siz_up, if_pos ⟨h1.1, by rw [turn_length]; exact h1.2⟩, valid]
          cases dec ((turn small s).drop (siz s)) <;> rfl
        rw [e1, e2, hd]
        exact ih _ (by rw [List.length_drop]; omega) _ rfl
      · have e1 : dec s = none := dec_bad h0 (by omega)
        have e2 : dec (turn small s) = none := dec_bad h0' (by rw [siz_up, turn_length]; omega)
        rw [valid, valid, e1, e2]
/-- How many blanks lead. -/
def lead : List UInt8 → Nat | [] => 0 | b :: s => if plain b.toNat = 1 then lead s + 1 else 0
end Class
end Go.Proofs.YtlfhfpjffdaomaaDoor
/-
  Operators without a program: what is left of a text, lines shifted, other letters, lines joined.
-/
namespace Go.Proofs.YtlfhfpjffdaomaaDoor
namespace Opr
open Utf (off valid place)
open Line (L seg of_ clamp normal L_whole L_valid L_each)
open Ix (parts)
open Gl

/-- What is told: a text, a place, an error. -/
abbrev Ans := List UInt8 × Int × Int
def val (r : Ans) : Value := .tuple #[.string (bs r.1), .int .i64 r.2.1, .int .i64 r.2.2]
theorem val_mk (t : List UInt8) (p e : Int) : val (t, p, e) = .tuple #[.string (bs t), .int .i64 p, .int .i64 e] := rfl
def no (e : Int) : Ans := ([], 0, e)
theorem val_no (e : Int) : val (no e) = .tuple #[.string ⟨#[]⟩, .int .i64 0, .int .i64 e] := rfl
/-- A text with another one in the place of what stands from a to b. -/
def put (s : List UInt8) (a b : Int) (t : List UInt8) : List UInt8 := s.take a.toNat ++ (t ++ s.drop b.toNat)
/-- The error of a range with which nothing can be done. -/
def fault (s : List UInt8) (a b : Int) (l : Bool) : Int := if Span.right s a b l = true then if l = false ∧ a = b then 10 else 0 else 1
theorem fault_arg {s : List UInt8} {a b : Int} {l : Bool} (h : Span.right s a b l = false) : fault s a b l = 1 := by rw [fault, if_neg (by rw [h]; decide)]
theorem fault_move {s : List UInt8} {a : Int} (h : Span.right s a a false = true) : fault s a a false = 10 := by rw [fault, if_pos h, if_pos ⟨rfl, rfl⟩]
theorem fault_ok {s : List UInt8} {a b : Int} {l : Bool} (h : Span.right s a b l = true) (h1 : ¬ (l = false ∧ a = b)) : fault s a b l = 0 := by rw [fault, if_pos h, if_neg h1]
/-- Take. -/
def rest (s : List UInt8) (a b : Int) (l : Bool) : List UInt8 := put s (Span.cut s a b l).1 (Span.cut s a b l).2.1 []
def take (s : List UInt8) (a b : Int) (l : Bool) : Ans :=
  if fault s a b l = 0 then (rest s a b l, if l = true then Line.first (rest s a b l) (min (of_ s a) (((L (rest s a b l)).length : Int) - 1)) else clamp (rest s a b l) a, 0) else no (fault s a b l)
/-- Clear. -/
def clear (s : List UInt8) (a b : Int) (l : Bool) : Ans := if Span.right s a b l = true then (put s a b [], a, 0) else no 1

/-- How many blanks lead, n at most. -/
def ldn : Nat → List UInt8 → Nat
  | 0, _ => 0
  | _ + 1, [] => 0
  | n + 1, b :: t => if b = 32 then ldn n t + 1 else 0
theorem ldn_le (n : Nat) (x : List UInt8) : ldn n x ≤ n ∧ ldn n x ≤ x.length := by
  induction n generalizing x with
  | zero => exact ⟨Nat.le_refl _, Nat.zero_le _⟩
  | succ n ih =>
    cases x with
    | nil => exact ⟨Nat.zero_le _, Nat.le_refl _⟩
    | cons b t =>
      rw [ldn]
      have := ih t
      split <;> (try rw [List.length_cons]) <;> omega
theorem ldn_go {n : Nat} {x : List UInt8} {b : UInt8} (h : x[0]? = some b) (hb : b = 32) : ldn (n + 1) x = ldn n (x.drop 1) + 1 := by
  cases x with
  | nil => simp at h
  | cons c t => simp at h; rw [ldn, if_pos (by rw [h, hb])]; rfl
theorem ldn_stop {n : Nat} {x : List UInt8} {b : UInt8} (h : x[0]? = some b) (hb : b ≠ 32) : ldn n x = 0 := by
  cases n with
  | zero => rfl
  | succ n =>
    cases x with
    | nil => simp at h
    | cons c t => simp at h; rw [ldn, if_neg (by rw [h]; exact hb)]
theorem ldn_nil (n : Nat) : ldn n [] = 0 := by cases n <;> rfl
/-- How many bytes go from a line's beginning. -/
def ind (x : List UInt8) : Nat := if x[0]? = some 9 then 1 else ldn 4 x
theorem ind_le (x : List UInt8) : ind x ≤ 4 ∧ ind x ≤ x.length := by
  unfold ind
  split
  · rename_i h; have := (List.getElem?_eq_some_iff.1 h).1; omega
  · exact ldn_le 4 x
def old (lf : Bool) (x : List UInt8) : List UInt8 := if lf = true then x.take (ind x) else []
def new_ (lf : Bool) (x : List UInt8) : List UInt8 := if lf = true then [] else if x = [] then [] else [9]
/-- A line shifted. -/
def sh (lf : Bool) (x : List UInt8) : List UInt8 := new_ lf x ++ x.drop (old lf x).length
theorem sh_right (x : List UInt8) : sh false x = if x = [] then [] else 9 :: x := by
  cases x with
  | nil => rfl
  | cons b t => rfl
theorem sh_left (x : List UInt8) : sh true x = x.drop (ind x) := by
  have := ind_le x
  show [] ++ x.drop (x.take (ind x)).length = _
  rw [List.length_take, Nat.min_eq_left this.2]
  rfl
theorem sh_back (x : List UInt8) : sh true (sh false x) = x := by
  rw [sh_right]
  split
  · rename_i h; subst h; rfl
  · rw [sh_left]; rfl
theorem old_length (lf : Bool) (x : List UInt8) : (old lf x).length ≤ x.length ∧ (old lf x).length ≤ 4 := by
  have := ind_le x
  cases lf with
  | false => exact ⟨Nat.zero_le _, Nat.zero_le _⟩
  | true => show (x.take (ind x)).length ≤ _ ∧ (x.take (ind x)).length ≤ _; rw [List.length_take]; omega
theorem old_take (lf : Bool) (x : List UInt8) : x = old lf x ++ x.drop (old lf x).length := by
  cases lf with
  | false => rfl
  | true =>
    have := ind_le x
    show x = x.take (ind x) ++ x.drop (x.take (ind x)).length
    rw [List.length_take, Nat.min_eq_left this.2, List.take_append_drop]
theorem new_length (lf : Bool) (x : List UInt8) : (new_ lf x).length ≤ 1 := by
  unfold new_; split
  · exact Nat.zero_le _
  · split <;> simp
theorem ldn_ascii (n : Nat) (x : List UInt8) : ∀ b ∈ x.take (ldn n x), b = 32 := by
  induction n generalizing x with
  | zero => simp [ldn]
  | succ n ih =>
    cases x with
    | nil => simp [ldn]
    | cons c t =>
      rw [ldn]
      split
      · rename_i h
        intro b hb
        rw [List.take_succ_cons] at hb
        rcases List.mem_cons.1 hb with h1 | h1
        · rw [h1, h]
        · exact ih t b h1
      · simp
theorem old_ascii (lf : Bool) (x : List UInt8) : ∀ b ∈ old lf x, b = 32 ∨ b = 9 := by
  cases lf with
  | false => intro b hb; cases hb
  | true =>
    intro b hb
    change b ∈ x.take (ind x) at hb
    unfold ind at hb
    split at hb
    · rename_i h
      cases x with
      | nil => simp at h
      | cons c t => simp at h hb; right; rw [hb, h]
    · exact Or.inl (ldn_ascii 4 x b hb)
theorem valid_run {a : List UInt8} (b : List UInt8) (h : ∀ c ∈ a, c.toNat < 128) : valid (a ++ b) = valid b := by
  induction a with
  | nil => rfl
  | cons c r ih => rw [List.cons_append, valid_ascii _ (h c (by simp)), ih fun d hd => h d (by simp [hd])]
theorem blank_low {c : UInt8} (h : c = 32 ∨ c = 9) : c.toNat < 128 := by rcases h with rfl | rfl <;> decide
theorem old_valid (lf : Bool) (x : List UInt8) : valid (old lf x) = true := by
  have := valid_run (a := old lf x) [] (fun c hc => blank_low (old_ascii lf x c hc))
  rw [List.append_nil] at this
  rw [this, valid_nil]
theorem new_valid (lf : Bool) (x : List UInt8) : valid (new_ lf x) = true := by
  unfold new_; split
  · exact valid_nil
  · split
    · exact valid_nil
    · rw [valid_ascii _ (by decide), valid_nil]
theorem sh_ok {lf : Bool} {x : List UInt8} (h : valid x = true ∧ Free x) : valid (sh lf x) = true ∧ Free (sh lf x) := by
  have e := old_take lf x
  constructor
  · rw [sh, valid_all _ (new_valid lf x)]
    have := valid_run (a := old lf x) (x.drop (old lf x).length) (fun c hc => blank_low (old_ascii lf x c hc))
    rw [← e] at this
    rw [← this]; exact h.1
  · intro hm
    rcases List.mem_append.1 hm with h1 | h1
    · unfold new_ at h1
      split at h1
      · cases h1
      · split at h1
        · cases h1
        · simp at h1
    · exact h.2 (List.mem_of_mem_drop h1)
/-- What shifts lines, the first of which begins at a. -/
def chg (lf : Bool) (a : Nat) (x : List UInt8) : Cg := ⟨a, bs (old lf x), bs (new_ lf x)⟩
def chgs (lf : Bool) (a : Nat) : List (List UInt8) → List Cg
  | [] => []
  | x :: r => chg lf a x :: chgs lf (a + x.length + 1) r
theorem chgs_length (lf : Bool) (a : Nat) (R : List (List UInt8)) : (chgs lf a R).length = R.length := by
  induction R generalizing a with
  | nil => rfl
  | cons x r ih => rw [chgs, List.length_cons, List.length_cons, ih]
theorem chgs_get {lf : Bool} {a : Nat} {R : List (List UInt8)} {k : Nat} {x : List UInt8} (h : R[k]? = some x) : (chgs lf a R)[k]? = some (chg lf (a + (fore (R.take k)).length) x) := by
  induction R generalizing a k with
  | nil => simp at h
  | cons y r ih =>
    cases k with
    | zero => simp at h; subst h; rfl
    | succ k =>
      rw [List.getElem?_cons_succ] at h
      rw [chgs, List.getElem?_cons_succ, ih h, List.take_succ_cons, fore_cons, List.length_append, List.length_cons]
      congr 2; omega
theorem chgs_weigh (lf : Bool) (a : Nat) (R : List (List UInt8)) : weigh (chgs lf a R) ≤ 5 * R.length := by
  induction R generalizing a with
  | nil => exact Nat.le_refl _
  | cons x r ih =>
    have h1 := old_length lf x
    have h2 := new_length lf x
    have h3 := ih (a + x.length + 1)
    simp only [weigh, chgs, List.map_cons, List.sum_cons, chg, bs_size, List.length_cons] at h3 ⊢
    omega
theorem chgs_in {lf : Bool} {a : Nat} {R : List (List UInt8)} : ∀ k ∈ chgs lf a R, (a : Int) ≤ k.at_ ∧ k.at_ ≤ (a + (fore R).length : Nat) := by
  induction R generalizing a with
  | nil => intro k hk; cases hk
  | cons x r ih =>
    intro k hk
    rw [fore_cons, List.length_append, List.length_cons]
    rcases List.mem_cons.1 hk with h | h
    · subst h; show (a : Int) ≤ (a : Int) ∧ (a : Int) ≤ _; omega
    · have := ih k h
      omega
theorem chgs_apart (lf : Bool) (a : Nat) (R : List (List UInt8)) : Btc.apart (chgs lf a R) = true := by
  induction R generalizing a with
  | nil => rfl
  | cons x r ih =>
    cases r with
    | nil => rfl
    | cons y q =>
      have h1 := old_length lf x
      have := ih (a + x.length + 1)
      simp only [chgs] at this ⊢
      rw [Btc.apart, this, Bool.and_true, decide_eq_true_iff]
      show (a : Int) + ((bs (old lf x)).size : Int) ≤ ((a + x.length + 1 : Nat) : Int)
      rw [bs_size]
      omega
theorem glue_drop {x : List UInt8} {r Z} : (glue (x :: r) ++ Z) = x ++ (aft r ++ Z) := by rw [glue_cons, List.append_assoc]
theorem aft_cons2 (y : List UInt8) (q : List (List UInt8)) : aft (y :: q) = 10 :: glue (y :: q) := aft_glue (by simp)
/-- What changes make of lines. -/
theorem chgs_parts {lf : Bool} {t Z : List UInt8} {R : List (List UInt8)} (hR : R ≠ []) {a f : Nat} (hf : f ≤ a) (ht : t.drop a = glue R ++ Z) : Btc.parts t f (chgs lf a R) = (t.drop f).take (a - f) ++ (glue (R.map (sh lf)) ++ Z) := by
  induction R generalizing a f with
  | nil => exact absurd rfl hR
  | cons x r ih =>
    rw [chgs, Btc.parts]
    show (t.drop f).take (((a : Nat) : Int).toNat - f) ++ (new_ lf x ++ Btc.parts t (((a : Nat) : Int).toNat + (bs (old lf x)).size) (chgs lf (a + x.length + 1) r)) = _
    rw [Int.toNat_natCast, bs_size]
    congr 1
    have h1 := old_length lf x
    have hd : t.drop (a + (old lf x).length) = x.drop (old lf x).length ++ (aft r ++ Z) := by
      rw [← List.drop_drop, ht, glue_drop, List.drop_append_of_le_length h1.1]
    cases r with
    | nil =>
      show new_ lf x ++ t.drop _ = _
      rw [hd, List.map_cons, List.map_nil, glue_one, sh]
      simp [aft]
    | cons y q =>
      have ht2 : t.drop (a + x.length + 1) = glue (y :: q) ++ Z := by
        rw [Nat.add_assoc, ← List.drop_drop, ht, glue_drop, aft_cons2, List.drop_append]
        simp
      rw [ih (by simp) (by omega) ht2, hd, show a + x.length + 1 - (a + (old lf x).length) = (x.drop (old lf x).length).length + 1 by rw [List.length_drop]; omega, List.take_append, List.take_of_length_le (by omega), Nat.add_sub_cancel_left]
      show _ = glue (sh lf x :: sh lf y :: q.map (sh lf)) ++ Z
      rw [glue_cons, aft_cons2 (sh lf y), aft_cons2 y, sh]
      simp
end Opr
end Go.Proofs.YtlfhfpjffdaomaaDoor
/-
  Operators without a program: the changes that shift lines fit, a range's lines are lines; letters and joined lines.
-/
namespace Go.Proofs.YtlfhfpjffdaomaaDoor
namespace Opr
open Utf (off valid place)
open Line (L seg of_ clamp normal L_whole L_valid L_each)
open Ix (parts)
open Gl
theorem fore_next {k : Nat} {R : List (List UInt8)} {x : List UInt8} (h : R[k]? = some x) : (fore (R.take (k + 1))).length = (fore (R.take k)).length + (x.length + 1) := by
  rw [List.take_add_one, h]
  show (fore (R.take k ++ [x])).length = _
  rw [fore_snoc]
  simp
theorem fore_most {R : List (List UInt8)} (k : Nat) : (fore (R.take k)).length ≤ (fore R).length := by
  have : fore R = fore (R.take k) ++ fore (R.drop k) := by rw [← fore_append, List.take_append_drop]
  rw [this, List.length_append]; omega
theorem fore_glue {R : List (List UInt8)} (h : R ≠ []) : (fore R).length = (glue R).length + 1 := by
  induction R with
  | nil => exact absurd rfl h
  | cons x r ih =>
    cases r with
    | nil => simp [fore, glue, aft]
    | cons y q =>
      rw [fore_cons, glue_cons, aft_glue (by simp), List.length_append, List.length_append, List.length_cons, List.length_cons, ih (by simp)]
      omega
theorem glue_length {R : List (List UInt8)} : R.length ≤ (glue R).length + 1 := by
  cases R with
  | nil => exact Nat.zero_le _
  | cons x r =>
    have : ∀ q : List (List UInt8), q.length ≤ (aft q).length := fun q => by
      induction q with
      | nil => exact Nat.le_refl _
      | cons y q ih => rw [aft_cons, List.length_cons, List.length_cons, List.length_append]; omega
    have := this r
    rw [glue_cons, List.length_append, List.length_cons]
    omega
theorem prefix_self (a b : List UInt8) : Lib.hasPrefix (a ++ b) a = true := by
  induction a with
  | nil => cases b <;> rfl
  | cons c r ih => simp [Lib.hasPrefix]
theorem chgs_fit {lf : Bool} {R : List (List UInt8)} {A Z : List UInt8} (hA : valid A = true) (hR : ∀ x ∈ R, valid x = true) (hZ : valid Z = true) : (chgs lf A.length R).all (fun k => Chg.fits (A ++ (glue R ++ Z)) k.at_ k.old.data.toList k.new.data.toList) = true := by
  induction R generalizing A with
  | nil => rfl
  | cons x r ih =>
    have e := old_take lf x
    have hx := hR x (by simp)
    have hr := fun y hy => hR y (List.mem_cons_of_mem x hy)
    rw [chgs, List.all_cons, Bool.and_eq_true]
    constructor
    · have h1 : place (A ++ (glue (x :: r) ++ Z)) ((A.length : Nat) : Int) = true := place_mid hA (by rw [valid_all _ (valid_glue hR)]; exact hZ)
      show (place (A ++ (glue (x :: r) ++ Z)) ((A.length : Nat) : Int) && valid (old lf x) && valid (new_ lf x) && Lib.hasPrefix ((A ++ (glue (x :: r) ++ Z)).drop ((A.length : Nat) : Int).toNat) (old lf x)) = true
      rw [h1, old_valid, new_valid, Int.toNat_natCast, List.drop_left, glue_drop]
      have e2 : x ++ (aft r ++ Z) = old lf x ++ (x.drop (old lf x).length ++ (aft r ++ Z)) := by rw [← List.append_assoc (old lf x), ← e]
      rw [e2, prefix_self]
      rfl
    · cases r with
      | nil => rfl
      | cons y q =>
        have := ih (A := A ++ (x ++ [10])) (by rw [valid_all _ hA, valid_all _ hx, valid_feed, valid_nil]) hr
        rw [List.length_append, List.length_append] at this
        have e2 : A ++ (glue (x :: y :: q) ++ Z) = A ++ (x ++ [10]) ++ (glue (y :: q) ++ Z) := by
          rw [glue_cons, aft_glue (by simp)]; simp
        rw [e2]
        exact this
/-- Lines j to k, shifted. -/
def shiftR (R : List (List UInt8)) (j k : Nat) (lf : Bool) : List (List UInt8) := R.take j ++ (((R.drop j).take (k + 1 - j)).map (sh lf) ++ R.drop (k + 1))
def shiftT (s : List UInt8) (j k : Nat) (lf : Bool) : List UInt8 := glue (shiftR (parts s) j k lf)
/-- Shift. -/
def shift (s : List UInt8) (a b : Int) (l lf : Bool) : Ans :=
  if Span.right s a b l = true then (shiftT s (Span.lines s a b l).1.toNat (Span.lines s a b l).2.toNat lf, Line.first (shiftT s (Span.lines s a b l).1.toNat (Span.lines s a b l).2.toNat lf) (Span.lines s a b l).1, 0) else no 1
/-- A range's lines are lines. -/
theorem lines_in {s : List UInt8} {a b : Int} {l : Bool} (h : Span.right s a b l = true) : ∃ (j k : Nat) (x y : Nat × Nat), Span.lines s a b l = ((j : Int), (k : Int)) ∧ j ≤ k ∧ (L s)[j]? = some x ∧ (L s)[k]? = some y := by
  obtain ⟨hab, ha, hb⟩ := Span.right_to h
  obtain ⟨n, j, x, rfl, hx, h1, h2, h3, hj, _, _⟩ := Line.place_line ha
  obtain ⟨m, k, y, rfl, hy, h4, h5, h6, hk, _, _⟩ := Line.place_line hb
  have W := L_whole (L_valid hx)
  have hjk : j ≤ k := by
    rcases Nat.lt_or_ge k j with h | h
    · have := W.mono hy hx h; omega
    · exact h
  rw [Span.lines, if_pos h, hj, hk]
  split
  · rename_i hc
    simp only [Bool.and_eq_true, decide_eq_true_eq] at hc
    obtain ⟨_, hlt, hst⟩ := hc
    rw [Int.toNat_natCast] at hst
    have hm : m = y.1 := by
      rcases Nat.lt_or_ge y.1 m with h | h
      · have h7 := (W.each k y hy).2.2.2 (m - 1) (by omega) (by omega)
        simp only [Span.starts, Bool.or_eq_true, decide_eq_true_eq] at hst
        rcases hst with h8 | h8
        · omega
        · exact absurd h8 h7
      · omega
    have hjk2 : j < k := by
      rcases Nat.lt_or_ge j k with h | h
      · exact h
      · obtain rfl : j = k := by omega
        rw [hx] at hy
        injection hy with hy
        subst hy
        omega
    have hk1 : k - 1 < (L s).length := by have := (List.getElem?_eq_some_iff.1 hy).1; omega
    exact ⟨j, k - 1, x, _, by rw [Prod.mk.injEq]; exact ⟨rfl, by omega⟩, by omega, hx, List.getElem?_eq_getElem hk1⟩
  · exact ⟨j, k, x, y, rfl, hjk, hx, hy⟩
theorem lines_not {s : List UInt8} {a b : Int} {l : Bool} (h : Span.right s a b l = false) : Span.lines s a b l = (-1, -1) := by rw [Span.lines, if_neg (by rw [h]; decide)]
/-- What is made by the changes that shift lines. -/
theorem shift_made {s : List UInt8} {j k : Nat} {x y : Nat × Nat} (hjk : j ≤ k) (hx : (L s)[j]? = some x) (hy : (L s)[k]? = some y) (lf : Bool) :
    Btc.right s (chgs lf x.1 (((parts s).drop j).take (k + 1 - j))) = true ∧ Btc.made s (chgs lf x.1 (((parts s).drop j).take (k + 1 - j))) = shiftT s j k lf ∧ (seg s x.1 y.2) = glue (((parts s).drop j).take (k + 1 - j)) := by
  have hv := L_valid hx
  obtain ⟨A, B, C, h1, h2, h3, h4, h5, h6, h7⟩ := three hjk hx hy
  have hp := valid_part hv
  have eB : ((parts s).drop j).take (k + 1 - j) = B := by rw [h1, ← h3, List.drop_left, h3, ← h4, List.take_left]
  have eA : (parts s).take j = A := by rw [h1, ← h3, List.take_left]
  have eC : (parts s).drop (k + 1) = C := by
    have hkl : k + 1 = A.length + B.length := by
      have : 0 < B.length := List.length_pos_iff.2 h2
      omega
    rw [h1, hkl, ← List.drop_drop, List.drop_left, List.drop_left]
  have hA := valid_fore (R := A) fun z hz => hp z (by rw [h1]; simp [hz])
  have hB := fun z hz => hp z (by rw [h1]; exact List.mem_append_right _ (List.mem_append_left C hz))
  have hC := valid_aft (R := C) fun z hz => hp z (by rw [h1]; simp [hz])
  have hfit := chgs_fit (lf := lf) hA hB hC
  rw [← h5, ← h6] at hfit
  have hr : Btc.right s (chgs lf x.1 B) = true := by rw [Btc.right, chgs_apart, hfit]; rfl
  rw [eB]
  refine ⟨hr, ?_, ?_⟩
  · have hin : Btc.In s.length 0 (chgs lf x.1 B) := Btc.right_in hr (Nat.zero_le _) fun c hc => by
      have := (chgs_in c (List.mem_of_mem_head? (by rw [hc]; rfl))).1
      omega
    rw [Btc.made_parts hin, chgs_parts h2 (Nat.zero_le _) (drop_of h5 h6), shiftT, shiftR, eA, eB, eC, glue_mid (by simpa using h2), Nat.sub_zero, List.drop_zero, take_of h5 h6]
    rfl
  · rw [seg, take_of (A := fore A ++ glue B) (M := aft C) (by rw [List.append_assoc]; exact h5) (by rw [List.length_append]; exact h7), List.drop_left' h6.symm]
theorem shift_ok {s : List UInt8} {j k : Nat} (hv : valid s = true) (lf : Bool) : ∀ x ∈ shiftR (parts s) j k lf, valid x = true ∧ Free x := by
  have hp := valid_part hv
  have hf := parts_free s
  intro x hx
  rw [shiftR] at hx
  rcases List.mem_append.1 hx with h | h
  · have := List.mem_of_mem_take h; exact ⟨hp x this, hf x this⟩
  · rcases List.mem_append.1 h with h | h
    · obtain ⟨z, hz, rfl⟩ := List.mem_map.1 h
      have := List.mem_of_mem_drop (List.mem_of_mem_take hz)
      exact sh_ok ⟨hp z this, hf z this⟩
    · have := List.mem_of_mem_drop h; exact ⟨hp x this, hf x this⟩

/-- Which letters a letter makes others. -/
def letters (how : Int) : Option (Nat → Bool) := if how = 85 then some Class.small else if how = 117 then some Class.capital else if how = 126 then some Class.letter else none
/-- Case. -/
def caseT (s : List UInt8) (a b : Int) (f : Nat → Bool) : List UInt8 := put s a b (Class.turn f ((s.take b.toNat).drop a.toNat))
def case_ (s : List UInt8) (a b : Int) (l : Bool) (how : Int) : Ans :=
  match letters how with
  | none => no 1
  | some f => if fault s a b l = 0 then (caseT s a b f, clamp (caseT s a b f) a, 0) else no (fault s a b l)

/-- Is a byte a blank or a tab? -/
def blank (b : UInt8) : Bool := decide (b = 32) || decide (b = 9)
/-- A line without what leads. -/
def trim (b : List UInt8) : List UInt8 := b.drop (Class.lead b)
/-- What stands between two lines that are one. -/
def gap (a b : List UInt8) : List UInt8 := if a ≠ [] ∧ trim b ≠ [] ∧ (a.getLast?.map blank) = some false then [32] else []
def two (a b : List UInt8) : List UInt8 := a ++ (gap a b ++ trim b)
/-- Lines as one, and where the last of them was put. -/
def joined (a : List UInt8) (r : List (List UInt8)) : List UInt8 := r.foldl two a
def joinAt (a : List UInt8) (r : List (List UInt8)) : Nat := (r.dropLast.foldl two a).length
theorem joined_snoc (a : List UInt8) (r : List (List UInt8)) (x : List UInt8) : joined a (r ++ [x]) = two (joined a r) x := by simp [joined]
theorem joinAt_snoc (a : List UInt8) (r : List (List UInt8)) (x : List UInt8) : joinAt a (r ++ [x]) = (joined a r).length := by simp [joinAt, joined]
theorem two_ok {a b : List UInt8} (ha : valid a = true ∧ Free a) (hb : valid b = true ∧ Free b) : valid (two a b) = true ∧ Free (two a b) := by
  have hl : ∀ x : List UInt8, ∀ c ∈ x.take (Class.lead x), c = 32 ∨ c = 9 := fun x => by
    induction x with
    | nil => intro c hc; simp at hc
    | cons d t ih =>
      intro c hc
      rw [Class.lead] at hc
      split at hc
      · rename_i h
        rw [List.take_succ_cons] at hc
        rcases List.mem_cons.1 hc with h1 | h1
        · subst h1
          unfold Class.plain at h
          split at h
          · omega
          · split at h
            · rename_i h2
              rcases h2 with h2 | h2
              · left; exact UInt8.toNat_inj.1 h2
              · right; exact UInt8.toNat_inj.1 h2
            · split at h <;> omega
        · exact ih c h1
      · simp at hc
  have ht : valid (trim b) = true := by
    have := valid_run (a := b.take (Class.lead b)) (trim b) (fun c hc => blank_low (hl b c hc))
    rw [trim, List.take_append_drop] at this
    rw [trim, ← this]; exact hb.1
  constructor
  · rw [two, valid_all _ ha.1]
    unfold gap
    split
    · rw [List.singleton_append, valid_ascii _ (by decide)]; exact ht
    · exact ht
  · intro hm
    rcases List.mem_append.1 hm with h | h
    · exact ha.2 h
    · rcases List.mem_append.1 h with h | h
      · unfold gap at h
        split at h
        · simp at h
        · cases h
      · exact hb.2 (List.mem_of_mem_drop h)
theorem joined_ok {a : List UInt8} {r : List (List UInt8)} (ha : valid a = true ∧ Free a) (hr : ∀ b ∈ r, valid b = true ∧ Free b) : valid (joined a r) = true ∧ Free (joined a r) := by
  induction r generalizing a with
  | nil => exact ha
  | cons b r ih => exact ih (two_ok ha (hr b (by simp))) fun c hc => hr c (by simp [hc])
theorem two_length (a b : List UInt8) : (two a b).length ≤ a.length + b.length + 1 := by
  have : (trim b).length ≤ b.length := by rw [trim, List.length_drop]; omega
  rw [two, List.length_append, List.length_append]
  unfold gap
  split
  · simp; omega
  · simp; omega
/-- How many lines are joined. -/
def many (c : Nat) (k : Nat) (n : Int) : Nat := (min (max n 2) ((c : Int) - k)).toNat
/-- Line k and the lines behind it, n of them, as one. -/
def joinR (R : List (List UInt8)) (k m : Nat) : List (List UInt8) := R.take k ++ (joined (R.getD k []) ((R.drop (k + 1)).take (m - 1)) :: R.drop (k + m))
def joinT (s : List UInt8) (k m : Nat) : List UInt8 := glue (joinR (parts s) k m)
def joinP (s : List UInt8) (k m : Nat) : Nat := (fore ((parts s).take k)).length + joinAt ((parts s).getD k []) (((parts s).drop (k + 1)).take (m - 1))
/-- Join. -/
def join (s : List UInt8) (k n : Int) : Ans :=
  if k < 0 ∨ ((L s).length : Int) ≤ k then no 1 else if k = (L s).length - 1 then no 10
  else (joinT s k.toNat (many (L s).length k.toNat n), clamp (joinT s k.toNat (many (L s).length k.toNat n)) (joinP s k.toNat (many (L s).length k.toNat n) : Nat), 0)
theorem joined_length (a : List UInt8) (r : List (List UInt8)) : (joined a r).length ≤ a.length + (fore r).length := by
  induction r generalizing a with
  | nil => exact Nat.le_add_right _ _
  | cons b r ih =>
    have h1 := ih (two a b)
    have h2 := two_length a b
    rw [fore_cons, List.length_append, List.length_cons]
    show (joined (two a b) r).length ≤ _
    omega
theorem two_gap (a b : List UInt8) : two a b = (a ++ gap a b) ++ trim b := by rw [two, List.append_assoc]
theorem gap_none {a b : List UInt8} (h : trim b = [] ∨ a = [] ∨ ∃ c, a.getLast? = some c ∧ blank c = true) : gap a b = [] := by
  rw [gap, if_neg]
  rintro ⟨h1, h2, h3⟩
  rcases h with h | h | ⟨c, h, h4⟩
  · exact h2 h
  · exact h1 h
  · rw [h] at h3; simp [h4] at h3
theorem gap_some {a b : List UInt8} {c : UInt8} (h : trim b ≠ []) (h1 : a.getLast? = some c) (h2 : blank c = false) : gap a b = [32] := by
  rw [gap, if_pos ⟨by rintro rfl; simp at h1, h, by rw [h1]; simp [h2]⟩]
end Opr
theorem byte_test (b c : UInt8) : ((b.toNat : Int) == (c.toNat : Int)) = decide (b = c) := by
  rw [Bool.eq_iff_iff, beq_iff_eq, decide_eq_true_iff]
  refine ⟨fun h => UInt8.toNat_inj.1 (by omega), fun h => by rw [h]⟩
theorem blank_test (b : UInt8) : ((b.toNat : Int) == 32) = decide (b = 32) := byte_test b 32
theorem tab_byte (b : UInt8) : ((b.toNat : Int) == 9) = decide (b = 9) := byte_test b 9
end Go.Proofs.YtlfhfpjffdaomaaDoor
