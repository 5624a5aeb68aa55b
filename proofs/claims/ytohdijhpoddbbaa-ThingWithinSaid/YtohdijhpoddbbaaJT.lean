/-
  Things around a place, without a program: which kind a text tells; a run with the one beside it, by the program's way and by the document's; signs that belong together; what is told of each kind.
-/
import Derived.Test.YtohdijhpoddbbaaClassWholes
import Derived.Test.YtohdijhpoddbbaaJP
import Derived.Test.YtohdijhpoddbbaaJQ
import Derived.RangeFuncBox
import Derived.Maps.OwnSet
import Derived.Test.YtohdijhpoddbbaaBase
import Derived.Laws.Rows
import Derived.Test.YtohdijhpoddbbaaClassRun
import Derived.BigQuiet
import Derived.Deep.QuietTactic
import Derived.Laws.StructEq
namespace Go.Proofs.Ytohdijhpoddbbaa
namespace Thing
open Utf (dec off place prev next valid valid_ok place_at prev_zero next_no)
open Line (L L_valid L_whole L_each line line_nat start stop start_some stop_some of_ of_at idx_find)
open Class (great plain of kind low_ high_ lft rgt same kind_none kind_nat low_none low_some high_some off_below at_some at_lt at_pos of_feed of_feed_iff kind_end lft_le rgt_ge high_gt low_place high_place inside_run feed_ahead feed_behind kind_place prev_under same_upto)

def tab : List (List UInt8 × Nat) := [([119], 0), ([87], 1), ([40], 2), ([41], 3), ([98], 4), ([91], 5), ([93], 6), ([123], 7), ([125], 8), ([66], 9), ([60], 10), ([62], 11), ([34], 12), ([39], 13), ([96], 14), ([112], 15)]
/-- Which kind a text tells, in the order of the map. -/
def num (key : List UInt8) : Option Nat :=
  if key = [119] then some 0 else if key = [87] then some 1 else if key = [40] then some 2 else if key = [41] then some 3 else if key = [98] then some 4 else if key = [91] then some 5 else if key = [93] then some 6 else if key = [123] then some 7 else if key = [125] then some 8 else if key = [66] then some 9 else if key = [60] then some 10 else if key = [62] then some 11 else if key = [34] then some 12 else if key = [39] then some 13 else if key = [96] then some 14 else if key = [112] then some 15 else none
/-- What is told of a kind: 0 and 1 words, 2 to 5 brackets, 6 to 8 signs, 9 blocks. -/
def cls (j : Nat) : Nat := match j with | 0 => 0 | 1 => 1 | 2 => 2 | 3 => 2 | 4 => 2 | 5 => 3 | 6 => 3 | 7 => 4 | 8 => 4 | 9 => 4 | 10 => 5 | 11 => 5 | 12 => 6 | 13 => 7 | 14 => 8 | _ => 9
theorem num_tab {key : List UInt8} {m : Nat} : num key = some m ↔ (key, m) ∈ tab := by
  unfold num tab
  constructor
  · intro h
    by_cases e0 : key = [119]
    · rw [if_pos e0] at h; injection h with h; subst h; subst e0; simp
    rw [if_neg e0] at h
    by_cases e1 : key = [87]
    · rw [if_pos e1] at h; injection h with h; subst h; subst e1; simp
    rw [if_neg e1] at h
    by_cases e2 : key = [40]
    · rw [if_pos e2] at h; injection h with h; subst h; subst e2; simp
    rw [if_neg e2] at h
    by_cases e3 : key = [41]
    · rw [if_pos e3] at h; injection h with h; subst h; subst e3; simp
    rw [if_neg e3] at h
    by_cases e4 : key = [98]
    · rw [if_pos e4] at h; injection h with h; subst h; subst e4; simp
    rw [if_neg e4] at h
    by_cases e5 : key = [91]
    · rw [if_pos e5] at h; injection h with h; subst h; subst e5; simp
    rw [if_neg e5] at h
    by_cases e6 : key = [93]
    · rw [if_pos e6] at h; injection h with h; subst h; subst e6; simp
    rw [if_neg e6] at h
    by_cases e7 : key = [123]
    · rw [if_pos e7] at h; injection h with h; subst h; subst e7; simp
    rw [if_neg e7] at h
    by_cases e8 : key = [125]
    · rw [if_pos e8] at h; injection h with h; subst h; subst e8; simp
    rw [if_neg e8] at h
    by_cases e9 : key = [66]
    · rw [if_pos e9] at h; injection h with h; subst h; subst e9; simp
    rw [if_neg e9] at h
    by_cases e10 : key = [60]
    · rw [if_pos e10] at h; injection h with h; subst h; subst e10; simp
    rw [if_neg e10] at h
    by_cases e11 : key = [62]
    · rw [if_pos e11] at h; injection h with h; subst h; subst e11; simp
    rw [if_neg e11] at h
    by_cases e12 : key = [34]
    · rw [if_pos e12] at h; injection h with h; subst h; subst e12; simp
    rw [if_neg e12] at h
    by_cases e13 : key = [39]
    · rw [if_pos e13] at h; injection h with h; subst h; subst e13; simp
    rw [if_neg e13] at h
    by_cases e14 : key = [96]
    · rw [if_pos e14] at h; injection h with h; subst h; subst e14; simp
    rw [if_neg e14] at h
    by_cases e15 : key = [112]
    · rw [if_pos e15] at h; injection h with h; subst h; subst e15; simp
    rw [if_neg e15] at h
    cases h
  · intro h
    simp only [List.mem_cons, Prod.mk.injEq, List.not_mem_nil, or_false] at h
    rcases h with ⟨rfl, rfl⟩ | ⟨rfl, rfl⟩ | ⟨rfl, rfl⟩ | ⟨rfl, rfl⟩ | ⟨rfl, rfl⟩ | ⟨rfl, rfl⟩ | ⟨rfl, rfl⟩ | ⟨rfl, rfl⟩ | ⟨rfl, rfl⟩ | ⟨rfl, rfl⟩ | ⟨rfl, rfl⟩ | ⟨rfl, rfl⟩ | ⟨rfl, rfl⟩ | ⟨rfl, rfl⟩ | ⟨rfl, rfl⟩ | ⟨rfl, rfl⟩ <;> decide
theorem num_lt {key : List UInt8} {m : Nat} (h : num key = some m) : m < 16 := by
  have h := num_tab.1 h
  unfold tab at h
  simp only [List.mem_cons, Prod.mk.injEq, List.not_mem_nil, or_false] at h
  omega
theorem num_one {key : List UInt8} {m : Nat} (h : num key = some m) : ∃ b, key = [b] := by
  have h := num_tab.1 h
  unfold tab at h
  simp only [List.mem_cons, Prod.mk.injEq, List.not_mem_nil, or_false] at h
  rcases h with ⟨rfl, _⟩ | ⟨rfl, _⟩ | ⟨rfl, _⟩ | ⟨rfl, _⟩ | ⟨rfl, _⟩ | ⟨rfl, _⟩ | ⟨rfl, _⟩ | ⟨rfl, _⟩ | ⟨rfl, _⟩ | ⟨rfl, _⟩ | ⟨rfl, _⟩ | ⟨rfl, _⟩ | ⟨rfl, _⟩ | ⟨rfl, _⟩ | ⟨rfl, _⟩ | ⟨rfl, _⟩ <;> exact ⟨_, rfl⟩

/-! Words. -/
/-- A run together with the one beside it that is of its whole. -/
def wid (s : List UInt8) (a b : Int) (big : Bool) : Int × Int :=
  if kind s a false = 1 then (a, if high_ s b big < 0 then b else high_ s b big)
  else if kind s b false = 1 then (a, high_ s b big)
  else if kind s (prev s a) false = 1 then (low_ s (prev s a) big, b) else (a, b)
def wrd (s : List UInt8) (p : Int) (big all : Bool) : Option (Int × Int) :=
  if low_ s p big < 0 then none else some (if all then wid s (low_ s p big) (high_ s p big) big else (low_ s p big, high_ s p big))
theorem great_one (b : Nat) : great b = 1 ↔ plain b = 1 := by
  unfold great; split
  · omega
  · exact Iff.rfl
theorem of_one (big : Bool) (b : Nat) : of big b = 1 ↔ of false b = 1 := by
  cases big
  · exact Iff.rfl
  · exact great_one b
theorem at_one (s : List UInt8) (i : Nat) (big : Bool) : Class.at_ s i big = 1 ↔ Class.at_ s i false = 1 := by
  unfold Class.at_; split
  · exact Iff.rfl
  · exact of_one big _
theorem kind_one (s : List UInt8) (x : Int) (big : Bool) : kind s x big = 1 ↔ kind s x false = 1 := by
  unfold kind; split
  · exact Iff.rfl
  · exact at_one s _ big
theorem low_high (s : List UInt8) (x : Int) (big : Bool) : low_ s x big < 0 ↔ high_ s x big < 0 := by
  unfold low_ high_; split
  · exact Iff.rfl
  · omega
/-- A run: what it is of, where it lies. -/
structure Run (s : List UInt8) (p : Nat) (big : Bool) (k : Nat) (x : Nat × Nat) (a b : Nat) : Prop where
  low : low_ s (p : Int) big = a
  high : high_ s (p : Int) big = b
  le : a ≤ p
  lt : p < b
  pa : place s (a : Int) = true
  pb : place s (b : Int) = true
  line : (L s)[k]? = some x
  xa : x.1 ≤ a
  xb : b ≤ x.2
  one : kind s (a : Int) false = 1 ↔ kind s (p : Int) big = 1
theorem run_has {s : List UInt8} {p : Int} {big : Bool} (h : ¬ low_ s p big < 0) : ∃ (n k : Nat) (x : Nat × Nat) (a b : Nat), p = n ∧ Run s n big k x a b := by
  have hk : ¬ (kind s p big = 0 ∨ kind s p big = 4) := fun h1 => by rw [low_none h1] at h; omega
  obtain ⟨rs, i, hd, hi, rfl, hc⟩ := kind_nat hk
  have hy := off_below hd hi
  have hp : place s (off rs i : Int) = true := place_at hd (Nat.le_of_lt hi)
  have hl := low_some (x := off rs i) hk
  have hh := high_some (x := off rs i) hk
  have hc4 : kind s (off rs i : Int) big ≠ 4 := fun h1 => hk (.inr h1)
  generalize hcc : kind s (off rs i : Int) big = c at *
  generalize off rs i = y at *
  have hle := lft_le (same s big c) y
  have hge := rgt_ge (same s big c) y (s.length - y)
  have hgt := high_gt hy hc.symm
  have pa := low_place hd hy hc.symm
  have pb := high_place hd (c := c) (big := big) hp hy
  obtain ⟨k, x, -, hL, h1, h2⟩ := idx_find (valid_ok hd) (p := y) (by omega)
  have hfeed : ∀ q, s[q]? = some 10 → lft (same s big c) y ≤ q → q < rgt (same s big c) y (s.length - y) → False := by
    intro q hq h5 h6
    have := inside_run (c := c) (big := big) h5 h6
    rw [at_some hq, show (10 : UInt8).toNat = 10 from rfl, of_feed] at this
    exact hc4 this.symm
  have ha : x.1 ≤ lft (same s big c) y := by
    rcases feed_ahead hL with h5 | h5
    · omega
    · rcases Nat.lt_or_ge (lft (same s big c) y) x.1 with h6 | h6
      · exact absurd (hfeed _ h5 (by omega) (by omega)) id
      · exact h6
  have hb : rgt (same s big c) y (s.length - y) ≤ x.2 := by
    rcases feed_behind hL with h5 | h5
    · omega
    · rcases Nat.lt_or_ge x.2 (rgt (same s big c) y (s.length - y)) with h6 | h6
      · exact absurd (hfeed _ h5 (by omega) h6) id
      · exact h6
  refine ⟨y, k, x, _, _, rfl, hl, hh, hle, hgt, pa, pb, hL, ha, hb, ?_⟩
  rw [kind_place hd pa (by omega), ← at_one s _ big, inside_run (c := c) (big := big) (Nat.le_refl _) (by omega), hcc]
/-- Behind a run: as the document asks, and as the program does. -/
theorem behind {s : List UInt8} {p : Nat} {big : Bool} {k : Nat} {x : Nat × Nat} {a b : Nat} (r : Run s p big k x a b) :
    (b < x.2 → (kind s (b : Int) big ≠ 0 ∧ kind s (b : Int) big ≠ 4)) ∧ (¬ b < x.2 → (kind s (b : Int) big = 0 ∨ kind s (b : Int) big = 4)) := by
  obtain ⟨rs, hd⟩ := Utf.valid_of (L_valid r.line)
  have W := (L_whole (L_valid r.line)).each k x r.line
  have hxb := r.xb
  constructor
  · intro hlt
    have hbl : b < s.length := by omega
    rw [kind_place hd r.pb hbl]
    have h1 := at_pos hbl big
    refine ⟨by omega, fun h4 => ?_⟩
    rw [at_lt hbl, of_feed_iff] at h4
    refine W.2.2.2 b (by have := r.xa; have := r.le; have := r.lt; omega) hlt ?_
    rw [List.getElem?_eq_getElem hbl, ← UInt8.ofNat_toNat (x := s[b]), h4]; rfl
  · intro hge
    obtain rfl : b = x.2 := by omega
    rcases feed_behind r.line with h5 | h5
    · rw [h5, kind_end hd]; exact .inl rfl
    · have hbl := (List.getElem?_eq_some_iff.1 h5).1
      rw [kind_place hd r.pb hbl, at_some h5]
      exact .inr (of_feed big)
/-- Ahead of a run. -/
theorem ahead {s : List UInt8} {p : Nat} {big : Bool} {k : Nat} {x : Nat × Nat} {a b : Nat} (r : Run s p big k x a b) (c : Bool) :
    ¬ x.1 < a → (kind s (prev s (a : Int)) c = 0 ∨ kind s (prev s (a : Int)) c = 4) := by
  obtain ⟨rs, hd⟩ := Utf.valid_of (L_valid r.line)
  have W := (L_whole (L_valid r.line)).each k x r.line
  intro hge
  have hxa := r.xa
  obtain rfl : a = x.1 := by omega
  rcases feed_ahead r.line with h5 | h5
  · rw [h5, show ((0 : Nat) : Int) = 0 from rfl, prev_zero hd]
    exact .inl (kind_none (by rw [next_no (by cases hp : place s (-1) with | false => rfl | true => (obtain ⟨n, hn, _⟩ := Line.place_nat hp; omega))]; omega) c)
  · rcases Nat.eq_zero_or_pos x.1 with h0 | h0
    · rw [h0, show ((0 : Nat) : Int) = 0 from rfl, prev_zero hd]
      exact .inl (kind_none (by rw [next_no (by cases hp : place s (-1) with | false => rfl | true => (obtain ⟨n, hn, _⟩ := Line.place_nat hp; omega))]; omega) c)
    · obtain ⟨u, h1, h2, h3, h4⟩ := prev_under hd r.pa h0
      have hbl := (List.getElem?_eq_some_iff.1 h5).1
      rw [h1, kind_place hd h2 (by omega), ← same_upto hd (big := c) h2 (by omega) (F := x.1) h4 (x.1 - 1) (by omega) (by omega), at_some h5]
      exact .inr (of_feed c)
/-- What is told by the document's way: the classes of what stands beside, in the line. -/
def beside (s : List UInt8) (p : Int) (big : Bool) : Nat × Nat :=
  (if high_ s p big < Line.stop s (of_ s p) then kind s (high_ s p big) big else 0, if Line.start s (of_ s p) < low_ s p big then kind s (prev s (low_ s p big)) big else 0)
theorem wid_ref {s : List UInt8} {p : Int} {big : Bool} (h : ¬ low_ s p big < 0) : wid s (low_ s p big) (high_ s p big) big =
    if (kind s p big = 1 ∧ 0 < (beside s p big).1) ∨ (kind s p big ≠ 1 ∧ (beside s p big).1 = 1) then (low_ s p big, high_ s (high_ s p big) big)
    else if kind s p big ≠ 1 ∧ (beside s p big).2 = 1 then (low_ s (prev s (low_ s p big)) big, high_ s p big) else (low_ s p big, high_ s p big) := by
  obtain ⟨n, k, x, a, b, rfl, r⟩ := run_has h
  have hb := behind r
  have ha := ahead r big
  have h1 := r.one
  have hof : of_ s (n : Int) = k := of_at r.line (by have := r.xa; have := r.le; omega) (by have := r.xb; have := r.lt; omega)
  have hl : line s ((k : Nat) : Int) = some x := by rw [line_nat, r.line]
  have q1 := kind_one s (b : Int) big
  have q2 := kind_one s (prev s (a : Int)) big
  have q3 : high_ s (b : Int) big < 0 ↔ (kind s (b : Int) big = 0 ∨ kind s (b : Int) big = 4) := by
    unfold high_; split
    · rename_i h; exact ⟨fun _ => h, fun _ => by omega⟩
    · rename_i h; exact ⟨fun h2 => by omega, fun h2 => absurd h2 h⟩
  unfold beside wid
  rw [hof, start_some hl, stop_some hl, r.low, r.high]
  dsimp only
  generalize kind s (a : Int) false = A at *
  generalize kind s (n : Int) big = N at *
  generalize kind s (b : Int) false = Bf at *
  generalize kind s (b : Int) big = B at *
  generalize kind s (prev s (a : Int)) false = Pf at *
  generalize kind s (prev s (a : Int)) big = P at *
  generalize high_ s (b : Int) big = hv at *
  generalize low_ s (prev s (a : Int)) big = lv at *
  clear r hl hof h
  by_cases hbx : b < x.2
  · have hb := hb.1 hbx
    have hq3 : ¬ hv < 0 := fun h2 => by have := q3.1 h2; omega
    rw [if_pos (show (b : Int) < (x.2 : Int) by omega)]
    by_cases hN : N = 1
    · rw [if_pos (h1.2 hN), if_neg hq3, if_pos (.inl ⟨hN, by omega⟩)]
    · rw [if_neg (fun h => hN (h1.1 h))]
      by_cases hB : B = 1
      · rw [if_pos (q1.1 hB), if_pos (.inr ⟨hN, hB⟩)]
      · rw [if_neg (fun h => hB (q1.2 h)), if_neg (show ¬ ((N = 1 ∧ 0 < B) ∨ (N ≠ 1 ∧ B = 1)) from fun h => h.elim (fun h => hN h.1) (fun h => hB h.2))]
        by_cases hP : P = 1
        · have hxa : x.1 < a := by
            rcases Nat.lt_or_ge x.1 a with h | h
            · exact h
            · have := ha (by omega); omega
          rw [if_pos (show (x.1 : Int) < (a : Int) by omega), if_pos (q2.1 hP), if_pos ⟨hN, hP⟩]
        · rw [if_neg (fun h => hP (q2.2 h)), if_neg (show ¬ (N ≠ 1 ∧ (if (x.1 : Int) < (a : Int) then P else 0) = 1) from fun h => by have h := h.2; split at h <;> first | exact hP h | omega)]
  · have hb := hb.2 hbx
    have hq3 : hv < 0 := q3.2 hb
    rw [if_neg (show ¬ (b : Int) < (x.2 : Int) by omega)]
    rw [if_neg (show ¬ ((N = 1 ∧ 0 < 0) ∨ (N ≠ 1 ∧ 0 = 1)) by omega)]
    by_cases hN : N = 1
    · rw [if_pos (h1.2 hN), if_pos hq3, if_neg (by rintro ⟨h, _⟩; exact h hN)]
    · rw [if_neg (fun h => hN (h1.1 h)), if_neg (fun h => by have := q1.2 h; omega)]
      by_cases hP : P = 1
      · have hxa : x.1 < a := by
          rcases Nat.lt_or_ge x.1 a with h | h
          · exact h
          · have := ha (by omega); omega
        rw [if_pos (show (x.1 : Int) < (a : Int) by omega), if_pos (q2.1 hP), if_pos ⟨hN, hP⟩]
      · rw [if_neg (fun h => hP (q2.2 h)), if_neg (show ¬ (N ≠ 1 ∧ (if (x.1 : Int) < (a : Int) then P else 0) = 1) from fun h => by have h := h.2; split at h <;> first | exact hP h | omega)]

/-! Signs. -/
/-- Where a sign stands among n bytes from a on. -/
def pos (s : List UInt8) (q : UInt8) : Nat → Nat → List Nat
  | _, 0 => []
  | a, n + 1 => if s[a]? = some q then a :: pos s q (a + 1) n else pos s q (a + 1) n
theorem pos_yes {s : List UInt8} {q : UInt8} {a n : Nat} (h : s[a]? = some q) : pos s q a (n + 1) = a :: pos s q (a + 1) n := by rw [pos, if_pos h]
theorem pos_no {s : List UInt8} {q : UInt8} {a n : Nat} (h : ¬ s[a]? = some q) : pos s q a (n + 1) = pos s q (a + 1) n := by rw [pos, if_neg h]
theorem pos_length (s : List UInt8) (q : UInt8) (a n : Nat) : (pos s q a n).length ≤ n := by
  induction n generalizing a with
  | zero => exact Nat.le_refl _
  | succ n ih => 
    have := ih (a + 1)
    rw [pos]
    split
    · rw [List.length_cons]; omega
    · omega
theorem pos_in {s : List UInt8} {q : UInt8} {a n i : Nat} (h : i ∈ pos s q a n) : a ≤ i ∧ i < a + n ∧ s[i]? = some q := by
  induction n generalizing a with
  | zero => cases h
  | succ n ih =>
    rw [pos] at h
    split at h
    · rcases List.mem_cons.1 h with e | h
      · subst e; exact ⟨Nat.le_refl _, by omega, by assumption⟩
      · have := ih h; exact ⟨by omega, by omega, this.2.2⟩
    · have := ih h; exact ⟨by omega, by omega, this.2.2⟩
theorem pos_sorted (s : List UInt8) (q : UInt8) (a n : Nat) : (pos s q a n).Pairwise (· < ·) := by
  induction n generalizing a with
  | zero => exact List.Pairwise.nil
  | succ n ih =>
    rw [pos]
    split
    · exact List.pairwise_cons.2 ⟨fun i hi => by have := pos_in hi; omega, ih _⟩
    · exact ih _
/-- The first two that belong together of which the second is not ahead of p. -/
def two (p : Int) : List Nat → Option (Nat × Nat)
  | x :: y :: l => if p ≤ (y : Int) then some (x, y) else two p l
  | _ => none
theorem two_nil (p : Int) : two p [] = none := rfl
theorem two_one (p : Int) (x : Nat) : two p [x] = none := rfl
theorem two_hit {p : Int} {x y : Nat} {l : List Nat} (h : p ≤ (y : Int)) : two p (x :: y :: l) = some (x, y) := by rw [two, if_pos h]
theorem two_miss {p : Int} {x y : Nat} {l : List Nat} (h : ¬ p ≤ (y : Int)) : two p (x :: y :: l) = two p l := by rw [two, if_neg h]
theorem two_in {p : Int} : ∀ {l : List Nat} {z : Nat × Nat}, l.Pairwise (· < ·) → two p l = some z → z.1 ∈ l ∧ z.2 ∈ l ∧ z.1 < z.2 ∧ p ≤ (z.2 : Int)
  | [], _, _, h => by cases h
  | [_], _, _, h => by cases h
  | x :: y :: l, z, hs, h => by
    rw [List.pairwise_cons, List.pairwise_cons] at hs
    by_cases hy : p ≤ (y : Int)
    · rw [two_hit hy] at h
      injection h with h
      subst h
      exact ⟨by simp, by simp, hs.1 y (by simp), hy⟩
    · rw [two_miss hy] at h
      obtain ⟨h1, h2, h3⟩ := two_in hs.2.2 h
      exact ⟨by simp [h1], by simp [h2], h3⟩
/-- The signs of the line of a place. -/
def sgs (s : List UInt8) (p : Int) (q : UInt8) : List Nat := pos s q (Line.start s (of_ s p)).toNat ((Line.stop s (of_ s p)).toNat - (Line.start s (of_ s p)).toNat)
def quo (s : List UInt8) (p : Int) (q : UInt8) : Option (Nat × Nat) := two p (sgs s p q)

/-! Things of all kinds. -/
/-- What opens; which sign. -/
def opn (m : Nat) : List UInt8 := match m with | 2 => [40] | 3 => [91] | 4 => [123] | _ => [60]
def sgn (m : Nat) : UInt8 := match m with | 6 => 34 | 7 => 39 | _ => 96
/-- With two signs, or without them. -/
def btw (x : Nat × Nat) (all : Bool) : Int × Int := if all then (x.1, (x.2 : Int) + 1) else ((x.1 : Int) + 1, x.2)
/-- The lines of a block. -/
def lns (s : List UInt8) (p : Int) (all : Bool) : Nat × Nat := Para.blockV (Para.all s) (of_ s p).toNat all
def blk (s : List UInt8) (p : Int) (all : Bool) : Int × Int := (Line.start s (lns s p all).1, Line.stop s (lns s p all).2)
def way (m : Nat) (s : List UInt8) (p : Int) (all : Bool) : Option (Int × Int) :=
  if m = 0 then wrd s p false all else if m = 1 then wrd s p true all
  else if m ≤ 5 then (Pair.ar s (opn m) p).map (btw · all) else if m ≤ 8 then (quo s p (sgn m)).map (btw · all) else some (blk s p all)
/-- The thing of a kind, around a place. -/
def thg (s : List UInt8) (p : Int) (all : Bool) (key : List UInt8) : Option (Int × Int × Bool) :=
  match num key with | none => none | some j => if place s p then (way (cls j) s p all).map (fun x => (x.1, x.2, decide (cls j = 9))) else none
/-- What is answered. -/
def res : Option (Int × Int × Bool) → Value
  | some x => .tuple #[.agg #[.int .i64 x.1, .int .i64 x.2.1, .bool x.2.2], .bool true]
  | none => .tuple #[.agg #[.int .i64 0, .int .i64 0, .bool false], .bool false]
theorem res_some (a b : Int) (c : Bool) : res (some (a, b, c)) = .tuple #[.agg #[.int .i64 a, .int .i64 b, .bool c], .bool true] := rfl
theorem res_none : res none = .tuple #[.agg #[.int .i64 0, .int .i64 0, .bool false], .bool false] := rfl
theorem thg_none {s : List UInt8} {p : Int} {all : Bool} {key : List UInt8} (h : num key = none) : thg s p all key = none := by rw [thg, h]
theorem thg_bad {s : List UInt8} {p : Int} {all : Bool} {key : List UInt8} (h : place s p = false) : thg s p all key = none := by
  rw [thg]; split
  · rfl
  · rw [if_neg (by simp [h])]
theorem thg_at {s : List UInt8} {p : Int} {all : Bool} {key : List UInt8} {j : Nat} (h : num key = some j) (hp : place s p = true) : thg s p all key = (way (cls j) s p all).map (fun x => (x.1, x.2, decide (cls j = 9))) := by rw [thg, h]; simp only []; rw [if_pos hp]
end Thing
end Go.Proofs.Ytohdijhpoddbbaa
/-
  The map of kinds: what it holds, and the function that makes it; whether a key is there.
-/
namespace Go.Proofs.Ytohdijhpoddbbaa
open Go.RowKit
open Go.Maps (Keyed)
open Go.MapKept Go.ChangeMaps

/-- How a function lies in the map: alone, or with a box that it has captured. -/
def fnElem (v : Value) : Option (DataW Unit × List MemPlace) :=
  match v with
  | .func (.func n) ⟨[]⟩ ⟨[]⟩ => some (.lit (.int .i64 (n : Int)), [])
  | .func (.func n) ⟨[]⟩ ⟨[.pointer (some ⟨g, 0, none⟩)]⟩ => some (.agg [.lit (.int .i64 (n : Int)), .lit (.int .i64 (g : Int))], [])
  | .nilFunc => some (.lit (.bool false), [])
  | _ => none
theorem fnElem_mk (n : Nat) : fnElem (.func (.func n) #[] #[]) = some (.lit (.int .i64 (n : Int)), []) := rfl
theorem fnElem_box (n g : Nat) : fnElem (.func (.func n) #[] #[.pointer (some ⟨g, 0, none⟩)]) = some (.agg [.lit (.int .i64 (n : Int)), .lit (.int .i64 (g : Int))], []) := rfl
theorem fnElem_nil : fnElem .nilFunc = some (.lit (.bool false), []) := rfl
theorem fnElem_fun {v : Value} {n : Nat} {p : List MemPlace} (h : fnElem v = some (.lit (.int .i64 (n : Int)), p)) : v = .func (.func n) #[] #[] := by
  unfold fnElem at h
  split at h
  · simp only [Option.some.injEq, Prod.mk.injEq, DataW.lit.injEq, Lit.int.injEq, Int.natCast_inj, true_and] at h
    rw [h.1]
  · simp at h
  · simp at h
  · cases h
theorem fnElem_boxed {v : Value} {n g : Nat} {p : List MemPlace} (h : fnElem v = some (.agg [.lit (.int .i64 (n : Int)), .lit (.int .i64 (g : Int))], p)) : v = .func (.func n) #[] #[.pointer (some ⟨g, 0, none⟩)] := by
  unfold fnElem at h
  split at h
  · simp at h
  · simp only [Option.some.injEq, Prod.mk.injEq, DataW.agg.injEq, List.cons.injEq, DataW.lit.injEq, Lit.int.injEq, Int.natCast_inj, true_and, and_true] at h
    rw [h.1.1, h.1.2]
  · simp at h
  · cases h
theorem fnElem_none {v : Value} {p : List MemPlace} (h : fnElem v = some (.lit (.bool false), p)) : v = .nilFunc := by
  unfold fnElem at h
  split at h
  · simp at h
  · simp at h
  · rfl
  · cases h
theorem keyText' : Keyed Try.prog 9 := Maps.string_keyed Try.underlying9
theorem zeroFinder (w : World) : (zeroValue 35).run Try.prog w = .ok .nilFunc w := by kernel_rfl

/-- The functions. -/
def tfn (m : Nat) : Nat := match m with | 0 => 41 | 1 => 41 | 2 => 44 | 3 => 44 | 4 => 44 | 5 => 44 | 6 => 47 | 7 => 47 | _ => 47
/-- What each has captured. -/
def tcap (m : Nat) : TypeId × Value := match m with | 0 => (4, .bool false) | 1 => (4, .bool true) | 2 => (9, .string ⟨#[40]⟩) | 3 => (9, .string ⟨#[91]⟩) | 4 => (9, .string ⟨#[123]⟩) | 5 => (9, .string ⟨#[60]⟩) | 6 => (5, .int .u8 34) | 7 => (5, .int .u8 39) | _ => (5, .int .u8 96)
/-- The function of the jth kind, in the map that lies in block b. -/
def tval (b : Nat) (o : Option Nat) : Value := match o with | some j => if j = 15 then .func (.func 28) #[] #[] else .func (.func (tfn (Thing.cls j))) #[] #[.pointer (some ⟨b + 1 + j, 0, none⟩)] | none => .nilFunc
/-- Its datum. -/
def tdat (b j : Nat) : DataW Unit := if j = 15 then .lit (.int .i64 (28 : Nat)) else .agg [.lit (.int .i64 (tfn (Thing.cls j) : Nat)), .lit (.int .i64 ((b + 1 + j : Nat) : Int))]
theorem tdat_val {b j : Nat} {v : Value} {p : List MemPlace} (h : fnElem v = some (tdat b j, p)) : v = tval b (some j) := by
  unfold tdat at h
  unfold tval
  split at h
  · rename_i hj; rw [fnElem_fun h]; exact (if_pos hj).symm
  · rename_i hj; rw [fnElem_boxed h]; exact (if_neg hj).symm
/-- What the map holds. -/
def ThingD (b : Nat) : DataW Unit := .map [(.string [34], tdat b 12), (.string [39], tdat b 13), (.string [40], tdat b 2), (.string [41], tdat b 3), (.string [60], tdat b 10), (.string [62], tdat b 11), (.string [66], tdat b 9), (.string [87], tdat b 1), (.string [91], tdat b 5), (.string [93], tdat b 6), (.string [96], tdat b 14), (.string [98], tdat b 4), (.string [112], tdat b 15), (.string [119], tdat b 0), (.string [123], tdat b 7), (.string [125], tdat b 8)]

theorem ThingD_has (b : Nat) (l : List UInt8) : Maps.has (ThingD b) (.string l) = (Thing.num l).isSome := by
  rw [Bool.eq_iff_iff]
  simp only [Maps.has, ThingD, List.any_cons, List.any_nil, Lit.sameKey, Bool.or_eq_true, beq_iff_eq, Bool.or_false]
  constructor
  · rintro (rfl | rfl | rfl | rfl | rfl | rfl | rfl | rfl | rfl | rfl | rfl | rfl | rfl | rfl | rfl | rfl) <;> rfl
  · intro h
    obtain ⟨m, hm⟩ := Option.isSome_iff_exists.1 h
    have h := Thing.num_tab.1 hm
    unfold Thing.tab at h
    simp only [List.mem_cons, Prod.mk.injEq, List.not_mem_nil, or_false] at h
    rcases h with ⟨rfl, _⟩ | ⟨rfl, _⟩ | ⟨rfl, _⟩ | ⟨rfl, _⟩ | ⟨rfl, _⟩ | ⟨rfl, _⟩ | ⟨rfl, _⟩ | ⟨rfl, _⟩ | ⟨rfl, _⟩ | ⟨rfl, _⟩ | ⟨rfl, _⟩ | ⟨rfl, _⟩ | ⟨rfl, _⟩ | ⟨rfl, _⟩ | ⟨rfl, _⟩ | ⟨rfl, _⟩ <;> simp
theorem ThingD_at (b : Nat) (l : List UInt8) (z : DataW Unit) : (ThingD b).atKey (.string l) z = match Thing.num l with | some j => tdat b j | none => z := by
  cases hm : Thing.num l with
  | some m =>
    have h := Thing.num_tab.1 hm
    unfold Thing.tab at h
    simp only [List.mem_cons, Prod.mk.injEq, List.not_mem_nil, or_false] at h
    rcases h with ⟨rfl, rfl⟩ | ⟨rfl, rfl⟩ | ⟨rfl, rfl⟩ | ⟨rfl, rfl⟩ | ⟨rfl, rfl⟩ | ⟨rfl, rfl⟩ | ⟨rfl, rfl⟩ | ⟨rfl, rfl⟩ | ⟨rfl, rfl⟩ | ⟨rfl, rfl⟩ | ⟨rfl, rfl⟩ | ⟨rfl, rfl⟩ | ⟨rfl, rfl⟩ | ⟨rfl, rfl⟩ | ⟨rfl, rfl⟩ | ⟨rfl, rfl⟩ <;> rfl
  | none =>
    have h := ThingD_has b l
    rw [hm] at h
    simp only [Maps.has, ThingD, Option.isSome_none] at h
    simp only [ThingD, DataW.atKey]
    rw [List.find?_eq_none.2 (fun x hx hk => by rw [List.any_eq_false] at h; exact h x hx hk)]
/-- Block b is the map of kinds, the boxes of its functions behind it. -/
def ThingTbl (w : World) (b : Nat) : Prop := w.ownsMap Try.prog 9 fnElem b 16 (ThingD b) ∧ ∀ j, j < 15 → Boxed w (b + 1 + j) (tcap (Thing.cls j)).1 (tcap (Thing.cls j)).2
/-- What is looked up in the map. -/
theorem ThingTbl.look {w : World} {b : Nat} (h : ThingTbl w b) {s : ByteArray} (hs : s.size ≤ 9223372036854775807) :
    (Instr.lookup 37 (.map (some b)) (.string s) true).run Try.prog w = .ok (.tuple #[tval b (Thing.num s.data.toList), .bool (Thing.num s.data.toList).isSome]) w := by
  obtain ⟨v, ps, hrun, hv⟩ := World.ownsMap.look_ok (t := 37) h.1 keyText' Try.underlying37 (zeroFinder w) fnElem_nil (WideMaps.keyOf_string_mk Try.underlying9 (s := s) (by unfold maxLen; omega))
  rw [ThingD_has] at hrun
  rw [ThingD_at] at hv
  have e : v = tval b (Thing.num s.data.toList) := by
    cases hn : Thing.num s.data.toList with
    | none => rw [hn] at hv; exact fnElem_none hv
    | some m => rw [hn] at hv; exact tdat_val hv
  rw [← e]
  exact hrun

theorem thing_word (big : Bool) (w : World) :
    Calls Try.prog 25 #[.bool big] w fun e w' => e = .returned (.func (.func 41) #[] #[.pointer (some ⟨w.heap.size, 0, none⟩)]) ∧ w' = w.alloc (.cells #[.bool big] 4) := by
  go_enter Try.func25, Try.ntmps25
  go_wp2
  go_ret
  exact ⟨rfl, rfl⟩
theorem thing_bracket (s : ByteArray) (w : World) :
    Calls Try.prog 26 #[.string s] w fun e w' => e = .returned (.func (.func 44) #[] #[.pointer (some ⟨w.heap.size, 0, none⟩)]) ∧ w' = w.alloc (.cells #[.string s] 9) := by
  go_enter Try.func26, Try.ntmps26
  go_wp2
  go_ret
  exact ⟨rfl, rfl⟩
theorem thing_quote (q : Int) (w : World) :
    Calls Try.prog 27 #[.int .u8 q] w fun e w' => e = .returned (.func (.func 47) #[] #[.pointer (some ⟨w.heap.size, 0, none⟩)]) ∧ w' = w.alloc (.cells #[.int .u8 q] 5) := by
  go_enter Try.func27, Try.ntmps27
  go_wp2
  go_ret
  exact ⟨rfl, rfl⟩
theorem keyT0 : keyOf Try.prog 9 (.string ⟨#[119]⟩) = some (.string [119]) := WideMaps.keyOf_string_mk Try.underlying9 (s := ⟨#[119]⟩) (by unfold maxLen; decide)
theorem keyT1 : keyOf Try.prog 9 (.string ⟨#[87]⟩) = some (.string [87]) := WideMaps.keyOf_string_mk Try.underlying9 (s := ⟨#[87]⟩) (by unfold maxLen; decide)
theorem keyT2 : keyOf Try.prog 9 (.string ⟨#[40]⟩) = some (.string [40]) := WideMaps.keyOf_string_mk Try.underlying9 (s := ⟨#[40]⟩) (by unfold maxLen; decide)
theorem keyT3 : keyOf Try.prog 9 (.string ⟨#[41]⟩) = some (.string [41]) := WideMaps.keyOf_string_mk Try.underlying9 (s := ⟨#[41]⟩) (by unfold maxLen; decide)
theorem keyT4 : keyOf Try.prog 9 (.string ⟨#[98]⟩) = some (.string [98]) := WideMaps.keyOf_string_mk Try.underlying9 (s := ⟨#[98]⟩) (by unfold maxLen; decide)
theorem keyT5 : keyOf Try.prog 9 (.string ⟨#[91]⟩) = some (.string [91]) := WideMaps.keyOf_string_mk Try.underlying9 (s := ⟨#[91]⟩) (by unfold maxLen; decide)
theorem keyT6 : keyOf Try.prog 9 (.string ⟨#[93]⟩) = some (.string [93]) := WideMaps.keyOf_string_mk Try.underlying9 (s := ⟨#[93]⟩) (by unfold maxLen; decide)
theorem keyT7 : keyOf Try.prog 9 (.string ⟨#[123]⟩) = some (.string [123]) := WideMaps.keyOf_string_mk Try.underlying9 (s := ⟨#[123]⟩) (by unfold maxLen; decide)
theorem keyT8 : keyOf Try.prog 9 (.string ⟨#[125]⟩) = some (.string [125]) := WideMaps.keyOf_string_mk Try.underlying9 (s := ⟨#[125]⟩) (by unfold maxLen; decide)
theorem keyT9 : keyOf Try.prog 9 (.string ⟨#[66]⟩) = some (.string [66]) := WideMaps.keyOf_string_mk Try.underlying9 (s := ⟨#[66]⟩) (by unfold maxLen; decide)
theorem keyT10 : keyOf Try.prog 9 (.string ⟨#[60]⟩) = some (.string [60]) := WideMaps.keyOf_string_mk Try.underlying9 (s := ⟨#[60]⟩) (by unfold maxLen; decide)
theorem keyT11 : keyOf Try.prog 9 (.string ⟨#[62]⟩) = some (.string [62]) := WideMaps.keyOf_string_mk Try.underlying9 (s := ⟨#[62]⟩) (by unfold maxLen; decide)
theorem keyT12 : keyOf Try.prog 9 (.string ⟨#[34]⟩) = some (.string [34]) := WideMaps.keyOf_string_mk Try.underlying9 (s := ⟨#[34]⟩) (by unfold maxLen; decide)
theorem keyT13 : keyOf Try.prog 9 (.string ⟨#[39]⟩) = some (.string [39]) := WideMaps.keyOf_string_mk Try.underlying9 (s := ⟨#[39]⟩) (by unfold maxLen; decide)
theorem keyT14 : keyOf Try.prog 9 (.string ⟨#[96]⟩) = some (.string [96]) := WideMaps.keyOf_string_mk Try.underlying9 (s := ⟨#[96]⟩) (by unfold maxLen; decide)
theorem keyT15 : keyOf Try.prog 9 (.string ⟨#[112]⟩) = some (.string [112]) := WideMaps.keyOf_string_mk Try.underlying9 (s := ⟨#[112]⟩) (by unfold maxLen; decide)
theorem ThingD_put (b : Nat) : DataW.put (DataW.put (DataW.put (DataW.put (DataW.put (DataW.put (DataW.put (DataW.put (DataW.put (DataW.put (DataW.put (DataW.put (DataW.put (DataW.put (DataW.put (DataW.put ((DataW.map [] : DataW Unit)) (.string [119]) (tdat b 0)) (.string [87]) (tdat b 1)) (.string [40]) (tdat b 2)) (.string [41]) (tdat b 3)) (.string [98]) (tdat b 4)) (.string [91]) (tdat b 5)) (.string [93]) (tdat b 6)) (.string [123]) (tdat b 7)) (.string [125]) (tdat b 8)) (.string [66]) (tdat b 9)) (.string [60]) (tdat b 10)) (.string [62]) (tdat b 11)) (.string [34]) (tdat b 12)) (.string [39]) (tdat b 13)) (.string [96]) (tdat b 14)) (.string [112]) (tdat b 15) = ThingD b := by kernel_rfl
/-- The box of the jth function, and it laid into the map. -/
theorem thing_step {w u : World} {b j n : Nat} {D : DataW Unit} {key : Value} {kl : Lit} {fn : Nat} {t : TypeId} {v : Value} (hj : j < 15) (hb : b = w.heap.size) (hO : u.ownsMap Try.prog 9 fnElem b n D) (hn : n ≤ 16) (hB : Below w.heap.size w u) (hs : u.heap.size = b + 1 + j)
    (hX : ∀ i, i < j → Boxed u (b + 1 + i) (tcap (Thing.cls i)).1 (tcap (Thing.cls i)).2) (hk : keyOf Try.prog 9 key = some kl) (hf : tfn (Thing.cls j) = fn) (hc : tcap (Thing.cls j) = (t, v)) :
    ∃ u', (Instr.mapUpdate 37 (.map (some b)) key (.func (.func fn) #[] #[.pointer (some ⟨u.heap.size, 0, none⟩)])).run Try.prog (u.alloc (.cells #[v] t)) = .ok () u' ∧ u'.ownsMap Try.prog 9 fnElem b (n + 1) (D.put kl (tdat b j)) ∧ Below w.heap.size w u' ∧ u'.heap.size = b + 1 + (j + 1)
      ∧ ∀ i, i < j + 1 → Boxed u' (b + 1 + i) (tcap (Thing.cls i)).1 (tcap (Thing.cls i)).2 := by
  have hO1 := hO.alloc (.cells #[v] t)
  have hd : tdat b j = .agg [.lit (.int .i64 (fn : Nat)), .lit (.int .i64 ((u.heap.size : Nat) : Int))] := by rw [tdat, if_neg (by omega), hf, hs]
  obtain ⟨u', hr, hO2, hM⟩ := hO1.store (t := 37) keyText' Try.underlying37 (by unfold maxLen; omega) hk (show fnElem (.func (.func fn) #[] #[.pointer (some ⟨u.heap.size, 0, none⟩)]) = some (tdat b j, []) by rw [hd]; exact fnElem_box fn u.heap.size)
  obtain ⟨es, clock, es', clock', hm, rfl⟩ := hM
  have hsz : (setBlock (u.alloc (.cells #[v] t)) b (.map es' clock')).heap.size = b + 1 + (j + 1) := by simp [setBlock]; omega
  refine ⟨_, hr, hO2, ?_, hsz, ?_⟩
  · have hB1 := hB.alloc hB.size (.cells #[v] t)
    exact hB1.grown (row := some b) ⟨rfl, rfl, rfl, by simp [setBlock], fun i _ hi => heap_setBlock_other hm _ (fun e => hi (by rw [e]))⟩ hB1.size (fun g hg => by cases hg; omega)
  · intro i hi
    have hg : (u.alloc (.cells #[v] t)).grownBy (setBlock (u.alloc (.cells #[v] t)) b (.map es' clock')) (some b) := ⟨rfl, rfl, rfl, by simp [setBlock], fun i _ hi => heap_setBlock_other hm _ (fun e => hi (by rw [e]))⟩
    refine Boxed.kept ?_ hg (fun e => by injection e with e; omega)
    rcases Nat.lt_or_ge i j with h | h
    · exact (hX i h).alloc _
    · obtain rfl : i = j := by omega
      rw [hc, ← hs]
      exact Boxed.new u t v
set_option maxHeartbeats 2000000 in
set_option maxRecDepth 100000 in
theorem thing_kinds (w : World) :
    Calls Try.prog 13 #[] w fun e w' => e = .returned (.map (some w.heap.size)) ∧ ThingTbl w' w.heap.size ∧ Below w.heap.size w w' := by
  have hmm := @run_makeMap Try.prog
  have O0 := World.ownsMap_made w Try.prog 9 fnElem
  have B0 : Below w.heap.size w (w.alloc (.map #[] 0)) := (Below.refl _ w).alloc (Nat.le_refl _) _
  have S0 : (w.alloc (.map #[] 0)).heap.size = w.heap.size + 1 + 0 := by simp
  have X0 : ∀ i, i < 0 → Boxed (w.alloc (.map #[] 0)) (w.heap.size + 1 + i) (tcap (Thing.cls i)).1 (tcap (Thing.cls i)).2 := fun i hi => absurd hi (Nat.not_lt_zero _)
  obtain ⟨w1, R1, O1, B1, S1, X1⟩ := thing_step (j := 0) (fn := 41) (t := 4) (v := .bool false) (by omega) rfl O0 (by omega) B0 S0 X0 keyT0 rfl rfl
  simp only [World.size_alloc] at R1
  clear O0 B0 S0 X0
  obtain ⟨w2, R2, O2, B2, S2, X2⟩ := thing_step (j := 1) (fn := 41) (t := 4) (v := .bool true) (by omega) rfl O1 (by omega) B1 S1 X1 keyT1 rfl rfl
  clear O1 B1 S1 X1
  obtain ⟨w3, R3, O3, B3, S3, X3⟩ := thing_step (j := 2) (fn := 44) (t := 9) (v := .string ⟨#[40]⟩) (by omega) rfl O2 (by omega) B2 S2 X2 keyT2 rfl rfl
  clear O2 B2 S2 X2
  obtain ⟨w4, R4, O4, B4, S4, X4⟩ := thing_step (j := 3) (fn := 44) (t := 9) (v := .string ⟨#[40]⟩) (by omega) rfl O3 (by omega) B3 S3 X3 keyT3 rfl rfl
  clear O3 B3 S3 X3
  obtain ⟨w5, R5, O5, B5, S5, X5⟩ := thing_step (j := 4) (fn := 44) (t := 9) (v := .string ⟨#[40]⟩) (by omega) rfl O4 (by omega) B4 S4 X4 keyT4 rfl rfl
  clear O4 B4 S4 X4
  obtain ⟨w6, R6, O6, B6, S6, X6⟩ := thing_step (j := 5) (fn := 44) (t := 9) (v := .string ⟨#[91]⟩) (by omega) rfl O5 (by omega) B5 S5 X5 keyT5 rfl rfl
  clear O5 B5 S5 X5
  obtain ⟨w7, R7, O7, B7, S7, X7⟩ := thing_step (j := 6) (fn := 44) (t := 9) (v := .string ⟨#[91]⟩) (by omega) rfl O6 (by omega) B6 S6 X6 keyT6 rfl rfl
  clear O6 B6 S6 X6
  obtain ⟨w8, R8, O8, B8, S8, X8⟩ := thing_step (j := 7) (fn := 44) (t := 9) (v := .string ⟨#[123]⟩) (by omega) rfl O7 (by omega) B7 S7 X7 keyT7 rfl rfl
  clear O7 B7 S7 X7
  obtain ⟨w9, R9, O9, B9, S9, X9⟩ := thing_step (j := 8) (fn := 44) (t := 9) (v := .string ⟨#[123]⟩) (by omega) rfl O8 (by omega) B8 S8 X8 keyT8 rfl rfl
  clear O8 B8 S8 X8
  obtain ⟨w10, R10, O10, B10, S10, X10⟩ := thing_step (j := 9) (fn := 44) (t := 9) (v := .string ⟨#[123]⟩) (by omega) rfl O9 (by omega) B9 S9 X9 keyT9 rfl rfl
  clear O9 B9 S9 X9
  obtain ⟨w11, R11, O11, B11, S11, X11⟩ := thing_step (j := 10) (fn := 44) (t := 9) (v := .string ⟨#[60]⟩) (by omega) rfl O10 (by omega) B10 S10 X10 keyT10 rfl rfl
  clear O10 B10 S10 X10
  obtain ⟨w12, R12, O12, B12, S12, X12⟩ := thing_step (j := 11) (fn := 44) (t := 9) (v := .string ⟨#[60]⟩) (by omega) rfl O11 (by omega) B11 S11 X11 keyT11 rfl rfl
  clear O11 B11 S11 X11
  obtain ⟨w13, R13, O13, B13, S13, X13⟩ := thing_step (j := 12) (fn := 47) (t := 5) (v := .int .u8 34) (by omega) rfl O12 (by omega) B12 S12 X12 keyT12 rfl rfl
  clear O12 B12 S12 X12
  obtain ⟨w14, R14, O14, B14, S14, X14⟩ := thing_step (j := 13) (fn := 47) (t := 5) (v := .int .u8 39) (by omega) rfl O13 (by omega) B13 S13 X13 keyT13 rfl rfl
  clear O13 B13 S13 X13
  obtain ⟨w15, R15, O15, B15, S15, X15⟩ := thing_step (j := 14) (fn := 47) (t := 5) (v := .int .u8 96) (by omega) rfl O14 (by omega) B14 S14 X14 keyT14 rfl rfl
  clear O14 B14 S14 X14
  obtain ⟨w16, R16, O16, G16⟩ := O15.update (t := 37) keyText' Try.underlying37 (by unfold maxLen; omega) keyT15 (show fnElem (.func (.func 28) #[] #[]) = some (tdat w.heap.size 15, []) from rfl)
  have B16 : Below w.heap.size w w16 := B15.grown G16 B15.size (fun g hg => by cases hg; exact Nat.le_refl _)
  have H := Lib.hid (show ThingTbl w16 w.heap.size ∧ Below w.heap.size w w16 from ⟨⟨by rw [← ThingD_put]; exact O16, fun j hj => (X15 j hj).kept G16 (fun e => by injection e with e; omega)⟩, B16⟩)
  clear O15 B15 S15 X15 O16 G16 B16
  have CW := Lib.hid @thing_word
  have CB := Lib.hid @thing_bracket
  have CQ := Lib.hid @thing_quote
  go_enter Try.func13, Try.ntmps13
  go_wp2_with (first
    | (go_at_call 25; refine (CW.out _ _).mono ?_; rintro e u ⟨rfl, rfl⟩)
    | (go_at_call 26; refine (CB.out _ _).mono ?_; rintro e u ⟨rfl, rfl⟩)
    | (go_at_call 27; refine (CQ.out _ _).mono ?_; rintro e u ⟨rfl, rfl⟩))
  go_ret
  exact ⟨rfl, H.out.1, H.out.2⟩
set_option maxRecDepth 100000 in
theorem thing_Has (key : ByteArray) (hs : key.size ≤ 9223372036854775807) (w : World) :
    Calls Try.prog 9 #[.string key] w fun e w' => e = .returned (.bool (Thing.num key.data.toList).isSome) ∧ Below w.heap.size w w' := by
  have LK := Lib.hid (fun (w1 : World) (h : ThingTbl w1 w.heap.size) => h.look hs)
  generalize Thing.num key.data.toList = o at *
  go_enter Try.func9, Try.ntmps9
  go_wp2_with (go_at_call 13; refine (thing_kinds _).mono ?_; rintro e w1 ⟨rfl, ht, hb⟩; have hlk := LK.out w1 ht)
  go_ret
  exact ⟨rfl, hb⟩
end Go.Proofs.Ytohdijhpoddbbaa
/-
  Answers that are, or begin with, a struct of three cells.
-/
namespace Go.Proofs.Ytohdijhpoddbbaa
open Go.RowKit
theorem results_row_and {P : Program} {fn : Func} {p u : Tmp} {ty : TypeId} (h : fn.results = #[.cell p ty, .tmp u]) (tmps : Array Value) (w : World) (g : Nat) (t : TypeId) (cs : Array Value) (fr : Nat × Nat) (d : TypeDesc)
    (hp : tmps.getD p undef = .pointer (some ⟨g, 0, none⟩)) (hg : w.heap[g]? = some (.cells cs t fr))
    (hu : P.underlying ty = some d) (hd : (match d with | .struct _ | .array _ _ => true | _ => false) = true) (hi : (P.info? ty).map (·.size) = some cs.size) :
    (results fn tmps).run P w = .ok (.tuple #[.agg cs, tmps.getD u undef]) w := by
  have hp' : tmps[p]?.getD undef = .pointer (some ⟨g, 0, none⟩) := by simpa using hp
  simp [results, h, hp', asAddr, run_loadVar_row w g t ty cs fr d hg hu hd hi]
section
variable {P : Program} {fn : Func} {R : Ending → World → Prop} {a : Act} {w : World} {g : Nat} {t : TypeId} {v0 v1 v2 c0 c1 c2 : Value} {p u : Tmp} {fs : Array Field} {ty : TypeId}
theorem three_row (hB : Blk w g t #[c0, c1, c2]) : Blk (((w.setCell ⟨g, 0, none⟩ v0).setCell ⟨g, 1, none⟩ v1).setCell ⟨g, 2, none⟩ v2) g t #[v0, v1, v2] := ((hB.set_ 0 v0).set_ 1 v1).set_ 2 v2
theorem ret_three (h : fn.results = #[.cell p ty]) (hp : a.tmps.getD p undef = .pointer (some ⟨g, 0, none⟩)) (hB : Blk w g t #[v0, v1, v2]) (hd : a.defers = []) (hu : P.underlying ty = some (.struct fs)) (hi : (P.info? ty).map (·.size) = some 3)
    (hR : R (.returned (.agg #[v0, v1, v2])) w) : bodyPost P fn R .ret a w :=
  bodyPost_ret (results_cell_row h _ _ g t #[v0, v1, v2] (0, 0) _ hp hB hu rfl hi) hd hR
theorem ret_three1 (h : fn.results = #[.cell p ty, .tmp u]) (hp : a.tmps.getD p undef = .pointer (some ⟨g, 0, none⟩)) (hB : Blk w g t #[v0, v1, v2]) (hd : a.defers = []) (hu : P.underlying ty = some (.struct fs)) (hi : (P.info? ty).map (·.size) = some 3)
    (hR : R (.returned (.tuple #[.agg #[v0, v1, v2], a.tmps.getD u undef])) w) : bodyPost P fn R .ret a w :=
  bodyPost_ret (results_row_and h _ _ g t #[v0, v1, v2] (0, 0) _ hp hB hu rfl hi) hd hR
end
/-- What a store into the row wants. -/
theorem row_three {w : World} {g : Nat} {t : TypeId} {c0 c1 c2 : Value} (h : Blk w g t #[c0, c1, c2]) : w.cell? ⟨g, 0, none⟩ = some c0 ∧ w.cell? ⟨g, 1, none⟩ = some c1 ∧ w.cell? ⟨g, 2, none⟩ = some c2 ∧ w.frozen? ⟨g, 0, none⟩ = false ∧ w.frozen? ⟨g, 1, none⟩ = false ∧ w.frozen? ⟨g, 2, none⟩ = false :=
  ⟨h.cell 0, h.cell 1, h.cell 2, h.frozen 0, h.frozen 1, h.frozen 2⟩
theorem below_three {n g : Nat} {w u : World} {v0 v1 v2 : Value} (h : Below n w u) (hg : n ≤ g) : Below n w (((u.setCell ⟨g, 0, none⟩ v0).setCell ⟨g, 1, none⟩ v1).setCell ⟨g, 2, none⟩ v2) := ((h.setCell (p := ⟨g, 0, none⟩) hg v0).setCell (p := ⟨g, 1, none⟩) hg v1).setCell (p := ⟨g, 2, none⟩) hg v2
end Go.Proofs.Ytohdijhpoddbbaa
/-
  Package thing: what each function tells: words, brackets, blocks.
-/
namespace Go.Proofs.Ytohdijhpoddbbaa
open Go.RowKit
open Thing (wid wrd btw res)
theorem thing_blank (s : ByteArray) (x : Int) (hs : s.size ≤ 9223372036854775807) (w : World) :
    Calls Try.prog 67 #[.string s, .int .i64 x] w fun e w' => e = .returned (.bool (decide (Class.kind s.data.toList x false = 1))) ∧ w = w' := by
  have c := Lib.hid (fun w => class_Of s x hs w)
  generalize Class.kind s.data.toList x false = k at *
  have hq : Hid (((k : Int) == 1) = decide (k = 1)) := by show _ = _; rw [Bool.eq_iff_iff]; simp; omega
  go_enter Try.func67, Try.ntmps67
  go_wp2_with (go_at_call 82; refine (c.out _).mono ?_; rintro e w1 ⟨rfl, rfl⟩)
  go_ret
  exact ⟨by rw [← hq.out]; rfl, rfl⟩
set_option maxHeartbeats 1000000 in
set_option maxRecDepth 100000 in
theorem thing_widen (s : ByteArray) (a b : Int) (big : Bool) (hs : s.size ≤ 9223372036854775807) (w : World) :
    Calls Try.prog 43 #[.string s, .int .i64 a, .int .i64 b, .bool big] w fun e w' => e = .returned (.tuple #[.int .i64 (wid s.data.toList a b big).1, .int .i64 (wid s.data.toList a b big).2]) ∧ w = w' := by
  have c1 := Lib.hid (fun w => utf_Prev s a hs w)
  have b1 := Lib.hid (fun w => thing_blank s a hs w)
  have b2 := Lib.hid (fun w => thing_blank s b hs w)
  have b3 := Lib.hid (fun w => thing_blank s (Utf.prev s.data.toList a) hs w)
  have r1 := Lib.hid (fun w => class_Run s b big hs w)
  have r2 := Lib.hid (fun w => class_Run s (Utf.prev s.data.toList a) big hs w)
  by_cases hA : Class.kind s.data.toList a false = 1
  · rw [decide_eq_true hA] at b1
    by_cases hh : Class.high_ s.data.toList b big < 0
    · have H : Hid (wid s.data.toList a b big = (a, b)) := by show _ = _; rw [wid, if_pos hA, if_pos hh]
      have g1 : decide (0 ≤ Class.high_ s.data.toList b big) = false := decide_eq_false (by omega)
      have g2 : ¬ 0 ≤ Class.high_ s.data.toList b big := by omega
      clear hA b2 b3 r2
      generalize Utf.prev s.data.toList a = u at *
      generalize Class.high_ s.data.toList b big = hb at *
      generalize Class.low_ s.data.toList b big = lb at *
      go_enter Try.func43, Try.ntmps43
      go_wp2_with (first
        | (go_at_call 66; (with_reducible refine (c1.out _).mono ?_); rintro e w1 ⟨rfl, rfl⟩)
        | (go_at_call 67; (with_reducible refine (b1.out _).mono ?_); rintro e w1 ⟨rfl, rfl⟩)
        | (go_at_call 42; (with_reducible refine (r1.out _).mono ?_); rintro e w1 ⟨rfl, rfl⟩))
      go_ret2
      exact ⟨by rw [H.out]; rfl, rfl⟩
    · have H : Hid (wid s.data.toList a b big = (a, Class.high_ s.data.toList b big)) := by show _ = _; rw [wid, if_pos hA, if_neg hh]
      have g1 : decide (0 ≤ Class.high_ s.data.toList b big) = true := decide_eq_true (by omega)
      have g2 : 0 ≤ Class.high_ s.data.toList b big := by omega
      clear hA b2 b3 r2 hh
      generalize Utf.prev s.data.toList a = u at *
      generalize Class.high_ s.data.toList b big = hb at *
      generalize Class.low_ s.data.toList b big = lb at *
      go_enter Try.func43, Try.ntmps43
      go_wp2_with (first
        | (go_at_call 66; (with_reducible refine (c1.out _).mono ?_); rintro e w1 ⟨rfl, rfl⟩)
        | (go_at_call 67; (with_reducible refine (b1.out _).mono ?_); rintro e w1 ⟨rfl, rfl⟩)
        | (go_at_call 42; (with_reducible refine (r1.out _).mono ?_); rintro e w1 ⟨rfl, rfl⟩))
      go_ret2
      exact ⟨by rw [H.out]; rfl, rfl⟩
  · rw [decide_eq_false hA] at b1
    by_cases hB : Class.kind s.data.toList b false = 1
    · rw [decide_eq_true hB] at b2
      have H : Hid (wid s.data.toList a b big = (a, Class.high_ s.data.toList b big)) := by show _ = _; rw [wid, if_neg hA, if_pos hB]
      clear hA hB b3 r2
      generalize Utf.prev s.data.toList a = u at *
      generalize Class.high_ s.data.toList b big = hb at *
      generalize Class.low_ s.data.toList b big = lb at *
      go_enter Try.func43, Try.ntmps43
      go_wp2_with (first
        | (go_at_call 66; (with_reducible refine (c1.out _).mono ?_); rintro e w1 ⟨rfl, rfl⟩)
        | (go_at_call 67; (with_reducible refine (b1.out _).mono ?_); rintro e w1 ⟨rfl, rfl⟩)
        | (go_at_call 67; (with_reducible refine (b2.out _).mono ?_); rintro e w1 ⟨rfl, rfl⟩)
        | (go_at_call 42; (with_reducible refine (r1.out _).mono ?_); rintro e w1 ⟨rfl, rfl⟩))
      go_ret2
      exact ⟨by rw [H.out]; rfl, rfl⟩
    · rw [decide_eq_false hB] at b2
      by_cases hC : Class.kind s.data.toList (Utf.prev s.data.toList a) false = 1
      · rw [decide_eq_true hC] at b3
        have H : Hid (wid s.data.toList a b big = (Class.low_ s.data.toList (Utf.prev s.data.toList a) big, b)) := by show _ = _; rw [wid, if_neg hA, if_neg hB, if_pos hC]
        clear hA hB hC r1
        generalize Utf.prev s.data.toList a = u at *
        generalize Class.high_ s.data.toList u big = hb at *
        generalize Class.low_ s.data.toList u big = lb at *
        go_enter Try.func43, Try.ntmps43
        go_wp2_with (first
          | (go_at_call 66; (with_reducible refine (c1.out _).mono ?_); rintro e w1 ⟨rfl, rfl⟩)
          | (go_at_call 67; (with_reducible refine (b1.out _).mono ?_); rintro e w1 ⟨rfl, rfl⟩)
          | (go_at_call 67; (with_reducible refine (b2.out _).mono ?_); rintro e w1 ⟨rfl, rfl⟩)
          | (go_at_call 67; (with_reducible refine (b3.out _).mono ?_); rintro e w1 ⟨rfl, rfl⟩)
          | (go_at_call 42; (with_reducible refine (r2.out _).mono ?_); rintro e w1 ⟨rfl, rfl⟩))
        go_ret2
        exact ⟨by rw [H.out]; rfl, rfl⟩
      · rw [decide_eq_false hC] at b3
        have H : Hid (wid s.data.toList a b big = (a, b)) := by show _ = _; rw [wid, if_neg hA, if_neg hB, if_neg hC]
        clear hA hB hC r1 r2
        generalize Utf.prev s.data.toList a = u at *
        go_enter Try.func43, Try.ntmps43
        go_wp2_with (first
          | (go_at_call 66; (with_reducible refine (c1.out _).mono ?_); rintro e w1 ⟨rfl, rfl⟩)
          | (go_at_call 67; (with_reducible refine (b1.out _).mono ?_); rintro e w1 ⟨rfl, rfl⟩)
          | (go_at_call 67; (with_reducible refine (b2.out _).mono ?_); rintro e w1 ⟨rfl, rfl⟩)
          | (go_at_call 67; (with_reducible refine (b3.out _).mono ?_); rintro e w1 ⟨rfl, rfl⟩))
        go_ret2
        exact ⟨by rw [H.out]; rfl, rfl⟩
/-- A thing that is no lines. -/
def Thing.plain (o : Option (Int × Int)) : Value := res (o.map fun x => (x.1, x.2, false))
theorem Thing.plain_none : Thing.plain none = .tuple #[.agg #[.int .i64 0, .int .i64 0, .bool false], .bool false] := rfl
theorem Thing.plain_some (a b : Int) : Thing.plain (some (a, b)) = .tuple #[.agg #[.int .i64 a, .int .i64 b, .bool false], .bool true] := rfl
set_option maxHeartbeats 1000000 in
set_option maxRecDepth 100000 in
theorem thing_wordf (s : ByteArray) (p : Int) (all big : Bool) (B : Nat) (hs : s.size ≤ 9223372036854775807) (w : World) (hT : Boxed w B 4 (.bool big)) :
    Calls Try.prog 41 #[.string s, .int .i64 p, .bool all, .pointer (some ⟨B, 0, none⟩)] w fun e w' => e = .returned (Thing.plain (wrd s.data.toList p big all)) ∧ Below w.heap.size w w' := by
  have c1 := Lib.hid (fun w => class_Run s p big hs w)
  have c2 := Lib.hid (fun w => thing_widen s (Class.low_ s.data.toList p big) (Class.high_ s.data.toList p big) big hs w)
  have hc := (hT.alloc (.cells #[.int .i64 0, .int .i64 0, .bool false] 24)).cell
  clear hT
  by_cases hl : Class.low_ s.data.toList p big < 0
  · have H : Hid (wrd s.data.toList p big all = none) := by show _ = _; rw [wrd, if_pos hl]
    have g1 : decide (Class.low_ s.data.toList p big < 0) = true := decide_eq_true hl
    clear c2
    generalize Class.low_ s.data.toList p big = l at *
    generalize Class.high_ s.data.toList p big = h at *
    go_enter Try.func41, Try.ntmps41
    go_wp2_with (first
      | (go_at_call 42; (with_reducible refine (c1.out _).mono ?_); rintro e w1 ⟨rfl, rfl⟩))
    exact ret_three1 rfl rfl (Blk.new _ _ _) rfl Try.underlying24 rfl ⟨by rw [H.out]; rfl, (Below.refl w.heap.size w).alloc (Nat.le_refl _) _⟩
  · have g1 : decide (Class.low_ s.data.toList p big < 0) = false := decide_eq_false hl
    cases all with
    | false =>
      have H : Hid (wrd s.data.toList p big false = some (Class.low_ s.data.toList p big, Class.high_ s.data.toList p big)) := by show _ = _; rw [wrd, if_neg hl]; rfl
      clear c2
      generalize Class.low_ s.data.toList p big = l at *
      generalize Class.high_ s.data.toList p big = h at *
      go_enter Try.func41, Try.ntmps41
      go_wp2_with (first
        | (go_at_call 42; (with_reducible refine (c1.out _).mono ?_); rintro e w1 ⟨rfl, rfl⟩))
      exact ret_three1 rfl rfl (Blk.new _ _ _) rfl Try.underlying24 rfl ⟨by rw [H.out]; rfl, (Below.refl w.heap.size w).alloc (Nat.le_refl _) _⟩
    | true =>
      have H : Hid (wrd s.data.toList p big true = some (wid s.data.toList (Class.low_ s.data.toList p big) (Class.high_ s.data.toList p big) big)) := by show _ = _; rw [wrd, if_neg hl]; rfl
      generalize hq : wid s.data.toList (Class.low_ s.data.toList p big) (Class.high_ s.data.toList p big) big = q at *
      obtain ⟨q1, q2⟩ := q
      dsimp only at c2
      clear hq
      generalize Class.low_ s.data.toList p big = l at *
      generalize Class.high_ s.data.toList p big = h at *
      go_enter Try.func41, Try.ntmps41
      go_wp2_with (first
        | (go_at_call 42; (with_reducible refine (c1.out _).mono ?_); rintro e w1 ⟨rfl, rfl⟩)
        | (go_at_call 43; (with_reducible refine (c2.out _).mono ?_); rintro e w1 ⟨rfl, rfl⟩))
      exact ret_three1 rfl rfl (Blk.new _ _ _) rfl Try.underlying24 rfl ⟨by rw [H.out]; rfl, (Below.refl w.heap.size w).alloc (Nat.le_refl _) _⟩
set_option maxRecDepth 100000 in
theorem thing_between (x y : Nat) (all : Bool) (hx : x ≤ 1000000000000) (hy : y ≤ 1000000000000) (w : World) :
    Calls Try.prog 46 #[.int .i64 (x : Nat), .int .i64 (y : Nat), .bool all] w fun e w' => e = .returned (.agg #[.int .i64 (btw (x, y) all).1, .int .i64 (btw (x, y) all).2, .bool false]) ∧ Below w.heap.size w w' := by
  have r1 : IntKind.i64.wrap ((y : Int) + 1) = (y : Int) + 1 := by rw [IntKind.wrap_i64]; omega
  have r2 : IntKind.i64.wrap ((x : Int) + 1) = (x : Int) + 1 := by rw [IntKind.wrap_i64]; omega
  clear hx hy
  cases all with
  | false =>
    go_enter Try.func46, Try.ntmps46
    go_wp2
    exact ret_three rfl rfl (Blk.new _ _ _) rfl Try.underlying24 rfl ⟨rfl, (Below.refl w.heap.size w).alloc (Nat.le_refl _) _⟩
  | true =>
    go_enter Try.func46, Try.ntmps46
    go_wp2
    exact ret_three rfl rfl (Blk.new _ _ _) rfl Try.underlying24 rfl ⟨rfl, (Below.refl w.heap.size w).alloc (Nat.le_refl _) _⟩
theorem Thing.ar_lt {s k : List UInt8} {p : Int} {x : Nat × Nat} (h : Pair.ar s k p = some x) : x.1 < x.2 ∧ x.2 < s.length := by
  rw [Pair.ar] at h
  split at h
  · obtain ⟨_, _, _, _, _, h1, h2, _⟩ := Pair.all_mem (Pair.arnd_mem h).1; exact ⟨h1, h2⟩
  · cases h
set_option maxHeartbeats 1000000 in
set_option maxRecDepth 100000 in
theorem thing_bracketf (s : ByteArray) (p : Int) (all : Bool) (k : ByteArray) (B : Nat) (hs : s.size ≤ 500000) (w : World) (hT : Boxed w B 9 (.string k)) :
    Calls Try.prog 44 #[.string s, .int .i64 p, .bool all, .pointer (some ⟨B, 0, none⟩)] w fun e w' => e = .returned (Thing.plain ((Pair.ar s.data.toList k.data.toList p).map (btw · all))) ∧ Below w.heap.size w w' := by
  have hl := data_len s
  have c1 := Lib.hid (fun w => pair_Around s p k hs w)
  have hB := Blk.new w 24 #[.int .i64 0, .int .i64 0, .bool false]
  have hW := (Below.refl w.heap.size w).alloc (Nat.le_refl _) (.cells #[.int .i64 0, .int .i64 0, .bool false] 24)
  have hc := (hT.alloc (.cells #[.int .i64 0, .int .i64 0, .bool false] 24)).cell
  clear hT
  cases ha : Pair.ar s.data.toList k.data.toList p with
  | none =>
    rw [ha, show Pair.resA none = .tuple #[.int .i64 0, .int .i64 0, .bool false] from rfl] at c1
    clear ha hl
    go_enter Try.func44, Try.ntmps44
    go_wp2_with (first
      | (go_at_call 45; (with_reducible refine (c1.out _).mono ?_); rintro e w1 ⟨rfl, hb1⟩; have hB1 := hB.below hb1 hB.lt; have hW1 := hW.trans (hb1.mono hW.size); obtain ⟨q0, q1, q2, f0, f1, f2⟩ := row_three hB1; clear hb1))
    exact ret_three1 rfl rfl (three_row hB1) rfl Try.underlying24 rfl ⟨rfl, below_three hW1 (Nat.le_refl _)⟩
  | some x =>
    have hx := Thing.ar_lt ha
    obtain ⟨x, y⟩ := x
    dsimp only at hx
    rw [ha, show Pair.resA (some (x, y)) = .tuple #[.int .i64 (x : Nat), .int .i64 (y : Nat), .bool true] from rfl] at c1
    have c2 := Lib.hid (fun w => thing_between x y all (by omega) (by omega) w)
    have H : Hid (Thing.plain ((some (x, y)).map (btw · all)) = .tuple #[.agg #[.int .i64 (btw (x, y) all).1, .int .i64 (btw (x, y) all).2, .bool false], .bool true]) := rfl
    generalize btw (x, y) all = q at *
    obtain ⟨q1, q2⟩ := q
    dsimp only at c2
    clear ha hl hx
    go_enter Try.func44, Try.ntmps44
    go_wp2_with (first
      | (go_at_call 45; (with_reducible refine (c1.out _).mono ?_); rintro e w1 ⟨rfl, hb1⟩; have hB1 := hB.below hb1 hB.lt; have hW1 := hW.trans (hb1.mono hW.size); clear hb1)
      | (go_at_call 46; (with_reducible refine (c2.out _).mono ?_); rintro e w2 ⟨rfl, hb2⟩; have hB2 := hB1.below hb2 hB1.lt; have hW2 := hW1.trans (hb2.mono hW1.size); obtain ⟨q0, q1, q2, f0, f1, f2⟩ := row_three hB2; clear hb2))
    exact ret_three1 rfl rfl (three_row hB2) rfl Try.underlying24 rfl ⟨by rw [H.out]; rfl, below_three hW2 (Nat.le_refl _)⟩
end Go.Proofs.Ytohdijhpoddbbaa
/-
  Package thing: two signs of a line that belong together, and blocks of lines.
-/
namespace Go.Proofs.Ytohdijhpoddbbaa
open Go.RowKit
open Thing (btw res pos two quo)
theorem below_drewN {B : Nat} {a w : World} (h : Below B a w) (n : Nat) : Below B a (w.drewN n) := ⟨h.os, h.tape, h.output, h.size, h.block⟩
theorem box_below {W W' : World} {n B : Nat} {t : TypeId} {v : Value} (h : Boxed W B t v) (hb : Below n W W') (hB : B < n) : Boxed W' B t v := (hb.block B hB).trans h
namespace Thing
/-- The sign that is still open. -/
def pre (f : Int) : List Nat := if f < 0 then [] else [f.toNat]
theorem pre_no {f : Int} (h : f < 0) : pre f = [] := if_pos h
theorem pre_at {f : Int} (h : ¬ f < 0) : pre f = [f.toNat] := if_neg h
theorem two_pre (p f : Int) : two p (pre f) = none := by
  unfold pre; split <;> rfl
theorem quo_line {s : List UInt8} {p : Int} {q : UInt8} {x : Nat × Nat} (h1 : Line.start s (Line.of_ s p) = x.1) (h2 : Line.stop s (Line.of_ s p) = x.2) : quo s p q = two p (pre (-1) ++ pos s q x.1 (x.2 - x.1)) := by
  rw [quo, sgs, h1, h2, Int.toNat_natCast, Int.toNat_natCast]; rfl
end Thing
set_option maxHeartbeats 2000000 in
set_option maxRecDepth 100000 in
theorem thing_quotef (s : ByteArray) (p : Int) (all : Bool) (q : UInt8) (B : Nat) (hs : s.size ≤ 1000000000000) (hp : Utf.place s.data.toList p = true) (w : World) (hT : Boxed w B 5 (.int .u8 (q.toNat : Int))) :
    Calls Try.prog 47 #[.string s, .int .i64 p, .bool all, .pointer (some ⟨B, 0, none⟩)] w fun e w' => e = .returned (Thing.plain ((quo s.data.toList p q).map (btw · all))) ∧ Below w.heap.size w w' := by
  have hl := data_len s
  have c1 := Lib.hid (fun w => line_Of s p hs w)
  have c2 := Lib.hid (fun w => line_Start s (Line.of_ s.data.toList p) hs w)
  have c3 := Lib.hid (fun w => line_End s (Line.of_ s.data.toList p) hs w)
  obtain ⟨n, k, x, rfl, hk, h1, h2, h3, e1, e2, e3⟩ := Line.place_line hp
  have HQ : Hid (quo s.data.toList n q = two n (Thing.pre (-1) ++ pos s.data.toList q x.1 (x.2 - x.1))) := Thing.quo_line e2 e3
  rw [e2] at c2
  rw [e3] at c3
  rw [e1] at c1 c2 c3
  obtain ⟨u, v⟩ := x
  dsimp only at *
  replace h3 : v ≤ s.size := by omega
  have huv : u ≤ v := by omega
  have hB := Blk.new w 24 #[.int .i64 0, .int .i64 0, .bool false]
  have hW := (Below.refl w.heap.size w).alloc (Nat.le_refl _) (.cells #[.int .i64 0, .int .i64 0, .bool false] 24)
  have hX := hT.alloc (.cells #[.int .i64 0, .int .i64 0, .bool false] 24)
  clear hT hk e1 e2 e3 hp h1 h2 hl
  generalize hz : quo s.data.toList n q = z at *
  clear hz
  go_enter Try.func47, Try.ntmps47
  go_wp2_with (first
    | (go_at_call 12; (with_reducible refine (c1.out _).mono ?_); rintro e w1 ⟨rfl, hb1⟩; have hB1 := hB.below hb1 hB.lt; have hX1 := box_below hX hb1 hX.lt; have hW1 := hW.trans (hb1.mono hW.size); clear hb1)
    | (go_at_call 48; (with_reducible refine (c2.out _).mono ?_); rintro e w2 ⟨rfl, hb2⟩; have hB2 := hB1.below hb2 hB1.lt; have hX2 := box_below hX1 hb2 hX1.lt; have hW2 := hW1.trans (hb2.mono hW1.size); clear hb2)
    | (go_at_call 49; (with_reducible refine (c3.out _).mono ?_); rintro e w3 ⟨rfl, hb3⟩; have hB3 := hB2.below hb3 hB2.lt; have hX3 := box_below hX2 hb3 hX2.lt; have hW3 := hW2.trans (hb3.mono hW2.size); clear hb3))
  clear c1 c2 c3 hB hB1 hB2 hX hX1 hX2 hW hW1 hW2
  go_loopw [12, 13] (fun fv av wr => ∃ (f : Int) (i : Nat), u ≤ i ∧ i ≤ v ∧ -1 ≤ f ∧ f < i ∧ fv = .int .i64 f ∧ av = .int .i64 i ∧ Hid (z = two n (Thing.pre f ++ pos s.data.toList q i (v - i))) ∧ Hid (Blk wr w.heap.size 24 #[.int .i64 0, .int .i64 0, .bool false]) ∧ Hid (Boxed wr B 5 (.int .u8 (q.toNat : Int))) ∧ Below w.heap.size w wr) (fun _ av _ => v - (intOf av).toNat)
  case atStart => exact ⟨-1, u, Nat.le_refl _, huv, by omega, by omega, rfl, rfl, HQ, hB3, hX3, hW3⟩
  case round =>
    obtain ⟨f, i, hi1, hi2, hf1, hf2, rfl, rfl, HZ, HB, HX, hb⟩ := hrel
    have r1 : IntKind.i64.wrap ((i : Int) + 1) = (i : Int) + 1 := by rw [IntKind.wrap_i64]; omega
    have hBr := HB.out
    obtain ⟨q0, q1, q2, f0, f1, f2⟩ := row_three hBr
    have hcx := HX.out.cell
    by_cases hiv : i < v
    · have hlt : i < s.size := by omega
      have hy : s.data.toList[i]? = some s[i] := byte_get s hlt
      obtain ⟨m, hm⟩ : ∃ m, v - i = m + 1 := ⟨v - i - 1, by omega⟩
      have hm2 : v - (i + 1) = m := by omega
      have g0 : decide (i < v) = true := decide_eq_true hiv
      by_cases hq : s[i] = q
      · have g1 : ((s[i].toNat : Int) != (q.toNat : Int)) = false := by rw [hq]; simp
        rw [hm, Thing.pos_yes (by rw [hy, hq])] at HZ
        by_cases hf : f < 0
        · have H2 : Hid (z = two n (Thing.pre (i : Int) ++ pos s.data.toList q (i + 1) (v - (i + 1)))) := by
            show _ = _
            rw [HZ.out, hm2, Thing.pre_no hf, Thing.pre_at (by omega)]; rfl
          have g2 : decide (f < 0) = true := decide_eq_true hf
          clear HZ hm hm2 hy hq
          go_wp2_with fail
          go_quiet (fail)
          go_wp2_with fail
          go_roundw
          case rel => exact ⟨i, i + 1, by omega, by omega, by omega, by omega, rfl, by go_num, H2, HB, HX, below_drewN hb _⟩
          case measure => simp [intOf]; omega
        · by_cases hin : i < n
          · have H2 : Hid (z = two n (Thing.pre (-1) ++ pos s.data.toList q (i + 1) (v - (i + 1)))) := by
              show _ = _
              rw [HZ.out, hm2, Thing.pre_at hf, Thing.pre_no (by omega)]
              exact Thing.two_miss (by omega)
            have g2 : decide (f < 0) = false := decide_eq_false hf
            have g3 : decide (i < n) = true := decide_eq_true hin
            clear HZ hm hm2 hy hq
            go_wp2_with fail
            go_quiet (fail)
            go_wp2_with fail
            go_roundw
            case rel => exact ⟨-1, i + 1, by omega, by omega, by omega, by omega, rfl, by go_num, H2, HB, HX, below_drewN hb _⟩
            case measure => simp [intOf]; omega
          · obtain ⟨y, rfl⟩ : ∃ y : Nat, f = y := ⟨f.toNat, by omega⟩
            have H2 : Hid (z = some (y, i)) := by
              show _ = _
              rw [HZ.out, Thing.pre_at hf, Int.toNat_natCast]
              exact Thing.two_hit (by omega)
            have g2 : decide ((y : Int) < 0) = false := decide_eq_false hf
            have g3 : decide (i < n) = false := decide_eq_false hin
            have c4 := Lib.hid (fun w => thing_between y i all (by omega) (by omega) w)
            have H : Hid (Thing.plain ((some (y, i)).map (btw · all)) = .tuple #[.agg #[.int .i64 (btw (y, i) all).1, .int .i64 (btw (y, i) all).2, .bool false], .bool true]) := rfl
            generalize btw (y, i) all = bt at *
            obtain ⟨bt1, bt2⟩ := bt
            dsimp only at c4
            clear HZ hm hm2 hy hq q0 q1 q2 f0 f1 f2
            go_wp2_with fail
            go_quiet (fail)
            go_wp2_with (go_at_call 46; (with_reducible refine (c4.out _).mono ?_); rintro e w4 ⟨rfl, hb4⟩; have hB4 := (hBr.drewN nq).below hb4 (hBr.drewN nq).lt; have hW4 := (below_drewN hb nq).trans (hb4.mono (below_drewN hb nq).size); obtain ⟨q0, q1, q2, f0, f1, f2⟩ := row_three hB4; clear hb4)
            exact ret_three1 rfl rfl (three_row hB4) rfl Try.underlying24 rfl ⟨by rw [H2.out, H.out]; rfl, below_three hW4 (Nat.le_refl _)⟩
      · have g1 : ((s[i].toNat : Int) != (q.toNat : Int)) = true := by
          rw [bne_iff_ne]; intro h; exact hq (UInt8.toNat_inj.1 (by omega))
        rw [hm, Thing.pos_no (by rw [hy]; intro h; injection h with h; exact hq h)] at HZ
        have H2 : Hid (z = two n (Thing.pre f ++ pos s.data.toList q (i + 1) (v - (i + 1)))) := by
          show _ = _
          rw [HZ.out, hm2]
        clear HZ hm hm2 hy hq
        go_wp2_with fail
        go_quiet (fail)
        go_wp2_with fail
        go_roundw
        case rel => exact ⟨f, i + 1, by omega, by omega, by omega, by omega, rfl, by go_num, H2, HB, HX, below_drewN hb _⟩
        case measure => simp [intOf]; omega
    · have H2 : Hid (z = none) := by
        show _ = _
        rw [HZ.out, show v - i = 0 by omega, pos, List.append_nil, Thing.two_pre]
      have g0 : decide (i < v) = false := decide_eq_false hiv
      clear HZ
      go_wp2_with fail
      exact ret_three1 rfl rfl (three_row hBr) rfl Try.underlying24 rfl ⟨by rw [H2.out]; rfl, below_three hb (Nat.le_refl _)⟩
end Go.Proofs.Ytohdijhpoddbbaa
/-
  Package thing: blocks of lines; Of, by the map.
-/
namespace Go.Proofs.Ytohdijhpoddbbaa
open Go.RowKit
open Thing (btw res thg num cls lns blk quo wrd)
theorem Thing.lns_val {s : List UInt8} {p : Int} (all : Bool) (hp : Utf.place s p = true) : Para.blkT s p all = .tuple #[.int .i64 ((lns s p all).1 : Nat), .int .i64 ((lns s p all).2 : Nat)] := by rw [Para.blkT, if_pos hp]; rfl
set_option maxHeartbeats 1000000 in
set_option maxRecDepth 100000 in
theorem thing_block (s : ByteArray) (p : Int) (all : Bool) (hs : s.size ≤ 1000000000000) (hp : Utf.place s.data.toList p = true) (w : World) :
    Calls Try.prog 28 #[.string s, .int .i64 p, .bool all] w fun e w' => e = .returned (res (some ((blk s.data.toList p all).1, (blk s.data.toList p all).2, true))) ∧ Below w.heap.size w w' := by
  have c1 := Lib.hid (fun w => para_Block s p all hs w)
  rw [Thing.lns_val all hp] at c1
  have H : Hid (blk s.data.toList p all = (Line.start s.data.toList (lns s.data.toList p all).1, Line.stop s.data.toList (lns s.data.toList p all).2)) := rfl
  generalize blk s.data.toList p all = bk at *
  generalize lns s.data.toList p all = l at *
  obtain ⟨a, b⟩ := l
  dsimp only at c1 H
  have c2 := Lib.hid (fun w => line_Start s (a : Nat) hs w)
  have c3 := Lib.hid (fun w => line_End s (b : Nat) hs w)
  generalize Line.start s.data.toList (a : Nat) = u at *
  generalize Line.stop s.data.toList (b : Nat) = v at *
  obtain rfl : bk = (u, v) := H.out
  have hB := Blk.new w 24 #[.int .i64 0, .int .i64 0, .bool false]
  have hW := (Below.refl w.heap.size w).alloc (Nat.le_refl _) (.cells #[.int .i64 0, .int .i64 0, .bool false] 24)
  clear hp H
  go_enter Try.func28, Try.ntmps28
  go_wp2_with (first
    | (go_at_call 50; (with_reducible refine (c1.out _).mono ?_); rintro e w1 ⟨rfl, hb1⟩; have hB1 := hB.below hb1 hB.lt; have hW1 := hW.trans (hb1.mono hW.size); clear hb1)
    | (go_at_call 48; (with_reducible refine (c2.out _).mono ?_); rintro e w2 ⟨rfl, hb2⟩; have hB2 := hB1.below hb2 hB1.lt; have hW2 := hW1.trans (hb2.mono hW1.size); clear hb2)
    | (go_at_call 49; (with_reducible refine (c3.out _).mono ?_); rintro e w3 ⟨rfl, hb3⟩; have hB3 := hB2.below hb3 hB2.lt; have hW3 := hW2.trans (hb3.mono hW2.size); obtain ⟨q0, q1, q2, f0, f1, f2⟩ := row_three hB3; clear hb3))
  exact ret_three1 rfl rfl (three_row hB3) rfl Try.underlying24 rfl ⟨rfl, below_three hW3 (Nat.le_refl _)⟩
theorem tval_at {b j N : Nat} (hj : j < 15) (hf : tfn (cls j) = N) : tval b (some j) = .func (.func N) #[] #[.pointer (some ⟨b + 1 + j, 0, none⟩)] := by rw [← hf]; exact if_neg (by omega)
theorem tval_last {b : Nat} : tval b (some 15) = .func (.func 28) #[] #[] := rfl
theorem tval_none {b : Nat} : tval b none = .nilFunc := rfl
theorem Thing.cls_low {j : Nat} (h : j < 15) : decide (cls j = 9) = false := (by decide : ∀ j : Fin 15, decide (cls j.val = 9) = false) ⟨j, h⟩
/-- An answer as its two parts. -/
theorem Thing.plain_form (o : Option (Int × Int)) : ∃ (a b : Int) (c : Bool), Thing.plain o = .tuple #[.agg #[.int .i64 a, .int .i64 b, .bool false], .bool c] := by
  cases o with
  | none => exact ⟨0, 0, false, rfl⟩
  | some x => exact ⟨x.1, x.2, true, rfl⟩
set_option maxHeartbeats 1000000 in
set_option maxRecDepth 100000 in
theorem thing_Of_none (s : ByteArray) (p : Int) (all : Bool) (key : ByteArray) (hk : key.size ≤ 9223372036854775807) (hm : num key.data.toList = none) (w : World) :
    Calls Try.prog 7 #[.string s, .int .i64 p, .bool all, .string key] w fun e w' => e = .returned (res (thg s.data.toList p all key.data.toList)) ∧ Below w.heap.size w w' := by
  have CM := Lib.hid @thing_kinds
  have LK := Lib.hid (fun (w1 : World) (b : Nat) (h : ThingTbl w1 b) => h.look hk)
  have hB := Blk.new w 24 #[.int .i64 0, .int .i64 0, .bool false]
  have hW := (Below.refl w.heap.size w).alloc (Nat.le_refl _) (.cells #[.int .i64 0, .int .i64 0, .bool false] 24)
  have H : Hid (thg s.data.toList p all key.data.toList = none) := Thing.thg_none hm
  rw [hm] at LK
  clear hm
  go_enter Try.func7, Try.ntmps7
  go_wp2_with (first
    | (go_at_call 13; (with_reducible refine (CM.out _).mono ?_); rintro e w1 ⟨rfl, ht, hb1⟩; have hB1 := hB.below hb1 hB.lt; have hW1 := hW.trans (hb1.mono hW.size); generalize (w.alloc (.cells #[.int .i64 0, .int .i64 0, .bool false] 24)).heap.size = b at *; have hlk := LK.out w1 b ht; obtain ⟨q0, q1, q2, f0, f1, f2⟩ := row_three hB1; clear hb1))
  exact ret_three1 rfl rfl (three_row hB1) rfl Try.underlying24 rfl ⟨by rw [H.out]; rfl, below_three hW1 (Nat.le_refl _)⟩
set_option maxHeartbeats 1000000 in
set_option maxRecDepth 100000 in
theorem thing_Of_bad (s : ByteArray) (p : Int) (all : Bool) (key : ByteArray) (hs : s.size ≤ 500000) (hk : key.size ≤ 9223372036854775807) {j : Nat} (hm : num key.data.toList = some j) (hp : Utf.place s.data.toList p = false) (w : World) :
    Calls Try.prog 7 #[.string s, .int .i64 p, .bool all, .string key] w fun e w' => e = .returned (res (thg s.data.toList p all key.data.toList)) ∧ Below w.heap.size w w' := by
  have CM := Lib.hid @thing_kinds
  have LK := Lib.hid (fun (w1 : World) (b : Nat) (h : ThingTbl w1 b) => h.look hk)
  have hB := Blk.new w 24 #[.int .i64 0, .int .i64 0, .bool false]
  have hW := (Below.refl w.heap.size w).alloc (Nat.le_refl _) (.cells #[.int .i64 0, .int .i64 0, .bool false] 24)
  have CP := Lib.hid (fun w => utf_Place s p (by omega) w)
  have H : Hid (thg s.data.toList p all key.data.toList = none) := Thing.thg_bad hp
  rw [hm] at LK
  rw [hp] at CP
  clear hm hp
  go_enter Try.func7, Try.ntmps7
  go_wp2_with (first
    | (go_at_call 13; (with_reducible refine (CM.out _).mono ?_); rintro e w1 ⟨rfl, ht, hb1⟩; have hB1 := hB.below hb1 hB.lt; have hW1 := hW.trans (hb1.mono hW.size); generalize (w.alloc (.cells #[.int .i64 0, .int .i64 0, .bool false] 24)).heap.size = b at *; have hlk := LK.out w1 b ht; generalize tval b (some j) = tv at *; obtain ⟨q0, q1, q2, f0, f1, f2⟩ := row_three hB1; clear hb1)
    | (go_at_call 11; (with_reducible refine (CP.out _).mono ?_); rintro e w2 ⟨rfl, rfl⟩))
  exact ret_three1 rfl rfl (three_row hB1) rfl Try.underlying24 rfl ⟨by rw [H.out]; rfl, below_three hW1 (Nat.le_refl _)⟩
set_option maxHeartbeats 1000000 in
set_option maxRecDepth 100000 in
theorem thing_Of_word (s : ByteArray) (p : Int) (all : Bool) (key : ByteArray) (hs : s.size ≤ 500000) (hk : key.size ≤ 9223372036854775807) {j : Nat} (hm : num key.data.toList = some j) (hp : Utf.place s.data.toList p = true) (hj : j < 15) (hf : tfn (cls j) = 41) (big : Bool) (hw : Thing.way (cls j) s.data.toList p all = wrd s.data.toList p big all) (hc : tcap (cls j) = (4, (.bool big))) (w : World) :
    Calls Try.prog 7 #[.string s, .int .i64 p, .bool all, .string key] w fun e w' => e = .returned (res (thg s.data.toList p all key.data.toList)) ∧ Below w.heap.size w w' := by
  have CM := Lib.hid @thing_kinds
  have LK := Lib.hid (fun (w1 : World) (b : Nat) (h : ThingTbl w1 b) => h.look hk)
  have hB := Blk.new w 24 #[.int .i64 0, .int .i64 0, .bool false]
  have hW := (Below.refl w.heap.size w).alloc (Nat.le_refl _) (.cells #[.int .i64 0, .int .i64 0, .bool false] 24)
  have CP := Lib.hid (fun w => utf_Place s p (by omega) w)
  have CF := Lib.hid (fun (B : Nat) (w : World) (hT : Boxed w B 4 (.bool big)) => thing_wordf s p all big B (by omega) w hT)
  have H : Hid (res (thg s.data.toList p all key.data.toList) = Thing.plain (wrd s.data.toList p big all)) := by
    show _ = _
    rw [Thing.thg_at hm hp, hw, Thing.cls_low hj]
    rfl
  have TV := Lib.hid (fun b => tval_at (b := b) hj hf)
  have TX := Lib.hid (fun (w1 : World) (b : Nat) (h : ThingTbl w1 b) => h.2 j hj)
  rw [hm] at LK
  rw [hp] at CP
  rw [hc] at TX
  obtain ⟨a, c, d, hd⟩ := Thing.plain_form (wrd s.data.toList p big all)
  rw [hd] at CF H
  clear hm hp hw hc hf hd hs hk
  go_enter Try.func7, Try.ntmps7
  go_wp2_with (first
    | (go_at_call 13; (with_reducible refine (CM.out _).mono ?_); rintro e w1 ⟨rfl, ht, hb1⟩; have hB1 := hB.below hb1 hB.lt; have hW1 := hW.trans (hb1.mono hW.size); generalize (w.alloc (.cells #[.int .i64 0, .int .i64 0, .bool false] 24)).heap.size = b at *; have hlk := LK.out w1 b ht; have hX1 := TX.out w1 b ht; rw [TV.out b] at hlk; clear ht; clear hb1)
    | (go_at_call 11; (with_reducible refine (CP.out _).mono ?_); rintro e w2 ⟨rfl, rfl⟩)
    | (go_at_call 41; (with_reducible refine (CF.out _ _ hX1).mono ?_); rintro e w2 ⟨rfl, hb2⟩; have hB2 := hB1.below hb2 hB1.lt; have hW2 := hW1.trans (hb2.mono hW1.size); obtain ⟨q0, q1, q2, f0, f1, f2⟩ := row_three hB2; clear hb2))
  exact ret_three1 rfl rfl (three_row hB2) rfl Try.underlying24 rfl ⟨by rw [H.out]; rfl, below_three hW2 (Nat.le_refl _)⟩
set_option maxHeartbeats 1000000 in
set_option maxRecDepth 100000 in
theorem thing_Of_bracket (s : ByteArray) (p : Int) (all : Bool) (key : ByteArray) (hs : s.size ≤ 500000) (hk : key.size ≤ 9223372036854775807) {j : Nat} (hm : num key.data.toList = some j) (hp : Utf.place s.data.toList p = true) (hj : j < 15) (hf : tfn (cls j) = 44) (k : ByteArray) (hw : Thing.way (cls j) s.data.toList p all = (Pair.ar s.data.toList k.data.toList p).map (btw · all)) (hc : tcap (cls j) = (9, (.string k))) (w : World) :
    Calls Try.prog 7 #[.string s, .int .i64 p, .bool all, .string key] w fun e w' => e = .returned (res (thg s.data.toList p all key.data.toList)) ∧ Below w.heap.size w w' := by
  have CM := Lib.hid @thing_kinds
  have LK := Lib.hid (fun (w1 : World) (b : Nat) (h : ThingTbl w1 b) => h.look hk)
  have hB := Blk.new w 24 #[.int .i64 0, .int .i64 0, .bool false]
  have hW := (Below.refl w.heap.size w).alloc (Nat.le_refl _) (.cells #[.int .i64 0, .int .i64 0, .bool false] 24)
  have CP := Lib.hid (fun w => utf_Place s p (by omega) w)
  have CF := Lib.hid (fun (B : Nat) (w : World) (hT : Boxed w B 9 (.string k)) => thing_bracketf s p all k B (by omega) w hT)
  have H : Hid (res (thg s.data.toList p all key.data.toList) = Thing.plain ((Pair.ar s.data.toList k.data.toList p).map (btw · all))) := by
    show _ = _
    rw [Thing.thg_at hm hp, hw, Thing.cls_low hj]
    rfl
  have TV := Lib.hid (fun b => tval_at (b := b) hj hf)
  have TX := Lib.hid (fun (w1 : World) (b : Nat) (h : ThingTbl w1 b) => h.2 j hj)
  rw [hm] at LK
  rw [hp] at CP
  rw [hc] at TX
  obtain ⟨a, c, d, hd⟩ := Thing.plain_form ((Pair.ar s.data.toList k.data.toList p).map (btw · all))
  rw [hd] at CF H
  clear hm hp hw hc hf hd hs hk
  go_enter Try.func7, Try.ntmps7
  go_wp2_with (first
    | (go_at_call 13; (with_reducible refine (CM.out _).mono ?_); rintro e w1 ⟨rfl, ht, hb1⟩; have hB1 := hB.below hb1 hB.lt; have hW1 := hW.trans (hb1.mono hW.size); generalize (w.alloc (.cells #[.int .i64 0, .int .i64 0, .bool false] 24)).heap.size = b at *; have hlk := LK.out w1 b ht; have hX1 := TX.out w1 b ht; rw [TV.out b] at hlk; clear ht; clear hb1)
    | (go_at_call 11; (with_reducible refine (CP.out _).mono ?_); rintro e w2 ⟨rfl, rfl⟩)
    | (go_at_call 44; (with_reducible refine (CF.out _ _ hX1).mono ?_); rintro e w2 ⟨rfl, hb2⟩; have hB2 := hB1.below hb2 hB1.lt; have hW2 := hW1.trans (hb2.mono hW1.size); obtain ⟨q0, q1, q2, f0, f1, f2⟩ := row_three hB2; clear hb2))
  exact ret_three1 rfl rfl (three_row hB2) rfl Try.underlying24 rfl ⟨by rw [H.out]; rfl, below_three hW2 (Nat.le_refl _)⟩
set_option maxHeartbeats 1000000 in
set_option maxRecDepth 100000 in
theorem thing_Of_quote (s : ByteArray) (p : Int) (all : Bool) (key : ByteArray) (hs : s.size ≤ 500000) (hk : key.size ≤ 9223372036854775807) {j : Nat} (hm : num key.data.toList = some j) (hp : Utf.place s.data.toList p = true) (hj : j < 15) (hf : tfn (cls j) = 47) (q : UInt8) (hw : Thing.way (cls j) s.data.toList p all = (quo s.data.toList p q).map (btw · all)) (hc : tcap (cls j) = (5, (.int .u8 (q.toNat : Int)))) (w : World) :
    Calls Try.prog 7 #[.string s, .int .i64 p, .bool all, .string key] w fun e w' => e = .returned (res (thg s.data.toList p all key.data.toList)) ∧ Below w.heap.size w w' := by
  have CM := Lib.hid @thing_kinds
  have LK := Lib.hid (fun (w1 : World) (b : Nat) (h : ThingTbl w1 b) => h.look hk)
  have hB := Blk.new w 24 #[.int .i64 0, .int .i64 0, .bool false]
  have hW := (Below.refl w.heap.size w).alloc (Nat.le_refl _) (.cells #[.int .i64 0, .int .i64 0, .bool false] 24)
  have CP := Lib.hid (fun w => utf_Place s p (by omega) w)
  have CF := Lib.hid (fun (B : Nat) (w : World) (hT : Boxed w B 5 (.int .u8 (q.toNat : Int))) => thing_quotef s p all q B (by omega) hp w hT)
  have H : Hid (res (thg s.data.toList p all key.data.toList) = Thing.plain ((quo s.data.toList p q).map (btw · all))) := by
    show _ = _
    rw [Thing.thg_at hm hp, hw, Thing.cls_low hj]
    rfl
  have TV := Lib.hid (fun b => tval_at (b := b) hj hf)
  have TX := Lib.hid (fun (w1 : World) (b : Nat) (h : ThingTbl w1 b) => h.2 j hj)
  rw [hm] at LK
  rw [hp] at CP
  rw [hc] at TX
  obtain ⟨a, c, d, hd⟩ := Thing.plain_form ((quo s.data.toList p q).map (btw · all))
  rw [hd] at CF H
  clear hm hp hw hc hf hd hs hk
  go_enter Try.func7, Try.ntmps7
  go_wp2_with (first
    | (go_at_call 13; (with_reducible refine (CM.out _).mono ?_); rintro e w1 ⟨rfl, ht, hb1⟩; have hB1 := hB.below hb1 hB.lt; have hW1 := hW.trans (hb1.mono hW.size); generalize (w.alloc (.cells #[.int .i64 0, .int .i64 0, .bool false] 24)).heap.size = b at *; have hlk := LK.out w1 b ht; have hX1 := TX.out w1 b ht; rw [TV.out b] at hlk; clear ht; clear hb1)
    | (go_at_call 11; (with_reducible refine (CP.out _).mono ?_); rintro e w2 ⟨rfl, rfl⟩)
    | (go_at_call 47; (with_reducible refine (CF.out _ _ hX1).mono ?_); rintro e w2 ⟨rfl, hb2⟩; have hB2 := hB1.below hb2 hB1.lt; have hW2 := hW1.trans (hb2.mono hW1.size); obtain ⟨q0, q1, q2, f0, f1, f2⟩ := row_three hB2; clear hb2))
  exact ret_three1 rfl rfl (three_row hB2) rfl Try.underlying24 rfl ⟨by rw [H.out]; rfl, below_three hW2 (Nat.le_refl _)⟩
set_option maxHeartbeats 1000000 in
set_option maxRecDepth 100000 in
theorem thing_Of_block (s : ByteArray) (p : Int) (all : Bool) (key : ByteArray) (hs : s.size ≤ 500000) (hk : key.size ≤ 9223372036854775807) (hm : num key.data.toList = some 15) (hp : Utf.place s.data.toList p = true) (w : World) :
    Calls Try.prog 7 #[.string s, .int .i64 p, .bool all, .string key] w fun e w' => e = .returned (res (thg s.data.toList p all key.data.toList)) ∧ Below w.heap.size w w' := by
  have CM := Lib.hid @thing_kinds
  have LK := Lib.hid (fun (w1 : World) (b : Nat) (h : ThingTbl w1 b) => h.look hk)
  have hB := Blk.new w 24 #[.int .i64 0, .int .i64 0, .bool false]
  have hW := (Below.refl w.heap.size w).alloc (Nat.le_refl _) (.cells #[.int .i64 0, .int .i64 0, .bool false] 24)
  have CP := Lib.hid (fun w => utf_Place s p (by omega) w)
  have CF := Lib.hid (fun w => thing_block s p all (by omega) hp w)
  have H : Hid (res (thg s.data.toList p all key.data.toList) = res (some ((blk s.data.toList p all).1, (blk s.data.toList p all).2, true))) := by
    show _ = _
    rw [Thing.thg_at hm hp]
    rfl
  rw [hm] at LK
  rw [hp] at CP
  rw [Thing.res_some] at CF H
  generalize (blk s.data.toList p all).1 = a at *
  generalize (blk s.data.toList p all).2 = c at *
  clear hm hp hs hk
  go_enter Try.func7, Try.ntmps7
  go_wp2_with (first
    | (go_at_call 13; (with_reducible refine (CM.out _).mono ?_); rintro e w1 ⟨rfl, ht, hb1⟩; have hB1 := hB.below hb1 hB.lt; have hW1 := hW.trans (hb1.mono hW.size); generalize (w.alloc (.cells #[.int .i64 0, .int .i64 0, .bool false] 24)).heap.size = b at *; have hlk := LK.out w1 b ht; rw [tval_last] at hlk; clear ht; clear hb1)
    | (go_at_call 11; (with_reducible refine (CP.out _).mono ?_); rintro e w2 ⟨rfl, rfl⟩)
    | (go_at_call 28; (with_reducible refine (CF.out _).mono ?_); rintro e w2 ⟨rfl, hb2⟩; have hB2 := hB1.below hb2 hB1.lt; have hW2 := hW1.trans (hb2.mono hW1.size); obtain ⟨q0, q1, q2, f0, f1, f2⟩ := row_three hB2; clear hb2))
  exact ret_three1 rfl rfl (three_row hB2) rfl Try.underlying24 rfl ⟨by rw [H.out]; rfl, below_three hW2 (Nat.le_refl _)⟩
theorem thing_Of (s : ByteArray) (p : Int) (all : Bool) (key : ByteArray) (hs : s.size ≤ 500000) (hk : key.size ≤ 9223372036854775807) (w : World) :
    Calls Try.prog 7 #[.string s, .int .i64 p, .bool all, .string key] w fun e w' => e = .returned (res (thg s.data.toList p all key.data.toList)) ∧ Below w.heap.size w w' := by
  cases hm : num key.data.toList with
  | none => exact thing_Of_none s p all key hk hm w
  | some j =>
    cases hp : Utf.place s.data.toList p with
    | false => exact thing_Of_bad s p all key hs hk hm hp w
    | true =>
      have hlt := Thing.num_lt hm
      rcases j with _ | _ | _ | _ | _ | _ | _ | _ | _ | _ | _ | _ | _ | _ | _ | _ | j
      · exact thing_Of_word s p all key hs hk hm hp (by omega) rfl false rfl rfl w
      · exact thing_Of_word s p all key hs hk hm hp (by omega) rfl true rfl rfl w
      · exact thing_Of_bracket s p all key hs hk hm hp (by omega) rfl ⟨#[40]⟩ rfl rfl w
      · exact thing_Of_bracket s p all key hs hk hm hp (by omega) rfl ⟨#[40]⟩ rfl rfl w
      · exact thing_Of_bracket s p all key hs hk hm hp (by omega) rfl ⟨#[40]⟩ rfl rfl w
      · exact thing_Of_bracket s p all key hs hk hm hp (by omega) rfl ⟨#[91]⟩ rfl rfl w
      · exact thing_Of_bracket s p all key hs hk hm hp (by omega) rfl ⟨#[91]⟩ rfl rfl w
      · exact thing_Of_bracket s p all key hs hk hm hp (by omega) rfl ⟨#[123]⟩ rfl rfl w
      · exact thing_Of_bracket s p all key hs hk hm hp (by omega) rfl ⟨#[123]⟩ rfl rfl w
      · exact thing_Of_bracket s p all key hs hk hm hp (by omega) rfl ⟨#[123]⟩ rfl rfl w
      · exact thing_Of_bracket s p all key hs hk hm hp (by omega) rfl ⟨#[60]⟩ rfl rfl w
      · exact thing_Of_bracket s p all key hs hk hm hp (by omega) rfl ⟨#[60]⟩ rfl rfl w
      · exact thing_Of_quote s p all key hs hk hm hp (by omega) rfl 34 rfl rfl w
      · exact thing_Of_quote s p all key hs hk hm hp (by omega) rfl 39 rfl rfl w
      · exact thing_Of_quote s p all key hs hk hm hp (by omega) rfl 96 rfl rfl w
      · exact thing_Of_block s p all key hs hk hm hp w
      · omega
end Go.Proofs.Ytohdijhpoddbbaa
/-
  '==' and '!=' of ranges.
-/
namespace Go.Proofs.Ytohdijhpoddbbaa
open Go.RowKit
theorem same_range (a b c d : Int) (e f : Bool) (w : World) : (Op.equalIn 10000 24 (.agg #[.int .i64 a, .int .i64 b, .bool e]) (.agg #[.int .i64 c, .int .i64 d, .bool f])).run Try.prog w = .ok (a == c && (b == d && e == f)) w := by
  rw [run_equalIn_struct w 9999 _ _ _ (by kernel_rfl) (by kernel_rfl)]
  have hi : ∀ (cs : Array Value) (j : Nat) (v : Value), cs[j]? = some v → ∀ w, (part 3 cs j).run Try.prog w = .ok v w := fun cs j v h w => by
    have ha : ∀ w, (isAgg 3).run Try.prog w = .ok false w := fun _ => by kernel_rfl
    simp [part, ha, h]
  have hb : ∀ (cs : Array Value) (j : Nat) (v : Value), cs[j]? = some v → ∀ w, (part 4 cs j).run Try.prog w = .ok v w := fun cs j v h w => by
    have ha : ∀ w, (isAgg 4).run Try.prog w = .ok false w := fun _ => by kernel_rfl
    simp [part, ha, h]
  have ei : ∀ (x y : Int) w, (Op.equalIn 9999 3 (.int .i64 x) (.int .i64 y)).run Try.prog w = .ok (x == y) w := fun x y w => run_equalIn_int w 9998 _ .i64 .i64 x y Try.underlying3
  have eb : ∀ (x y : Bool) w, (Op.equalIn 9999 4 (.bool x) (.bool y)).run Try.prog w = .ok (x == y) w := fun x y w => run_equalIn_bool' w 9998 _ x y Try.underlying4
  have p0 : ∀ (x y : Int) (z : Bool) w, (part 3 #[.int .i64 x, .int .i64 y, .bool z] 0).run Try.prog w = .ok (.int .i64 x) w := fun x y z => hi _ _ _ rfl
  have p1 : ∀ (x y : Int) (z : Bool) w, (part 3 #[.int .i64 x, .int .i64 y, .bool z] 1).run Try.prog w = .ok (.int .i64 y) w := fun x y z => hi _ _ _ rfl
  have p2 : ∀ (x y : Int) (z : Bool) w, (part 4 #[.int .i64 x, .int .i64 y, .bool z] 2).run Try.prog w = .ok (.bool z) w := fun x y z => hb _ _ _ rfl
  simp only [Op.eqFields, Program.fieldsOf, Try.underlying24, p0, p1, p2, ei, eb, Sem.run_bind, Sem.run_ite, Sem.run_pure, Result.andThen_ok]
  cases (a == c) <;> cases (b == d) <;> cases (e == f) <;> simp
theorem eql_range (a b c d : Int) (e f : Bool) (w : World) : (binOp .eql 24 (.agg #[.int .i64 a, .int .i64 b, .bool e]) (.agg #[.int .i64 c, .int .i64 d, .bool f])).run Try.prog w = .ok (.bool (a == c && (b == d && e == f))) w := by
  rw [run_eql_struct, same_range]; rfl
theorem neq_range (a b c d : Int) (e f : Bool) (w : World) : (binOp .neq 24 (.agg #[.int .i64 a, .int .i64 b, .bool e]) (.agg #[.int .i64 c, .int .i64 d, .bool f])).run Try.prog w = .ok (.bool !(a == c && (b == d && e == f))) w := by
  rw [run_neq_struct, same_range]; rfl
theorem eql_same (a b : Int) (e : Bool) (w : World) : (binOp .eql 24 (.agg #[.int .i64 a, .int .i64 b, .bool e]) (.agg #[.int .i64 a, .int .i64 b, .bool e])).run Try.prog w = .ok (.bool true) w := by
  rw [eql_range]; simp
theorem neq_same (a b : Int) (e : Bool) (w : World) : (binOp .neq 24 (.agg #[.int .i64 a, .int .i64 b, .bool e]) (.agg #[.int .i64 a, .int .i64 b, .bool e])).run Try.prog w = .ok (.bool false) w := by
  rw [neq_range]; simp
end Go.Proofs.Ytohdijhpoddbbaa
/-
  The document's example, as layer 19's statements ask for it.
-/
namespace Go.Proofs.Ytohdijhpoddbbaa
open Go.RowKit
open Thing (res thg)
namespace Thing
def exT : List UInt8 := [102, 40, 97, 44, 32, 98, 41]
theorem ex_dec : Utf.dec exT = some [[102], [40], [97], [44], [32], [98], [41]] := Utf.dec_of (rs := [[102], [40], [97], [44], [32], [98], [41]]) (by decide)
theorem ex_valid : Utf.valid exT = true := by rw [Utf.valid, ex_dec]; rfl
theorem ex_place : Utf.place exT 3 = true := Utf.place_at ex_dec (i := 3) (by decide)
theorem ex_place0 : Utf.place exT 0 = true := Utf.place_at ex_dec (i := 0) (by decide)
theorem ex_ar : Pair.ar exT [40] 3 = some (1, 6) := by
  have h : Pair.all exT [40] = [(1, 6)] := by rw [Pair.all_eq (c := 41) rfl ex_valid]; rfl
  rw [Pair.ar, if_pos ex_place, h]; rfl
theorem ex_in : thg exT 3 false [40] = some (2, 6, false) := by
  rw [thg_at (j := 2) rfl ex_place, show way (cls 2) exT 3 false = (Pair.ar exT [40] 3).map (btw · false) from rfl, ex_ar]; rfl
theorem ex_all : thg exT 3 true [40] = some (1, 7, false) := by
  rw [thg_at (j := 2) rfl ex_place, show way (cls 2) exT 3 true = (Pair.ar exT [40] 3).map (btw · true) from rfl, ex_ar]; rfl
theorem ex_kind : Class.kind exT 0 false = 2 := by
  have := Class.kind_at ex_dec (i := 0) (by decide) false
  rw [show (Utf.off [[102], [40], [97], [44], [32], [98], [41]] 0 : Int) = 0 from rfl, show Utf.off [[102], [40], [97], [44], [32], [98], [41]] 0 = 0 from rfl] at this
  rw [this]
  decide
theorem ex_low : Class.low_ exT 0 false = 0 := by
  have := Class.low_some (s := exT) (x := 0) (big := false) (by rw [show ((0 : Nat) : Int) = 0 from rfl, ex_kind]; decide)
  rw [show ((0 : Nat) : Int) = 0 from rfl, ex_kind] at this
  rw [this]; decide
theorem ex_high : Class.high_ exT 0 false = 1 := by
  have := Class.high_some (s := exT) (x := 0) (big := false) (by rw [show ((0 : Nat) : Int) = 0 from rfl, ex_kind]; decide)
  rw [show ((0 : Nat) : Int) = 0 from rfl, ex_kind] at this
  rw [this]; decide
theorem ex_word : thg exT 0 false [119] = some (0, 1, false) := by
  rw [thg_at (j := 0) rfl ex_place0, show way (cls 0) exT 0 false = wrd exT 0 false false from rfl, wrd, ex_low, ex_high]; rfl
end Thing
theorem Thing.res_form (o : Option (Int × Int × Bool)) : ∃ (a b : Int) (c d : Bool), res o = .tuple #[.agg #[.int .i64 a, .int .i64 b, .bool c], .bool d] := by
  cases o with
  | none => exact ⟨0, 0, false, false, rfl⟩
  | some x => exact ⟨x.1, x.2.1, x.2.2, true, rfl⟩
theorem thing_on {w u v : World} (h : Below w.heap.size w u) (g : Below u.heap.size u v) : Below w.heap.size w v := h.trans (g.mono h.size)
set_option maxHeartbeats 1000000 in
set_option maxRecDepth 100000 in
theorem thing_lives (w : World) : Calls Try.prog 6 #[] w fun e w' => e = .returned (.bool true) ∧ Below w.heap.size w w' := by
  have C0 : Hid (∀ w, Calls Try.prog 7 #[.string ⟨#[102, 40, 97, 44, 32, 98, 41]⟩, .int .i64 3, .bool false, .string ⟨#[40]⟩] w fun e w' => e = .returned (.tuple #[.agg #[.int .i64 2, .int .i64 6, .bool false], .bool true]) ∧ Below w.heap.size w w') := Lib.hid (fun w => by
    have := thing_Of ⟨#[102, 40, 97, 44, 32, 98, 41]⟩ 3 false ⟨#[40]⟩ (by decide) (by decide) w
    rw [show thg (⟨#[102, 40, 97, 44, 32, 98, 41]⟩ : ByteArray).data.toList 3 false (⟨#[40]⟩ : ByteArray).data.toList = some (2, 6, false) from Thing.ex_in] at this
    exact this)
  have C1 : Hid (∀ w, Calls Try.prog 7 #[.string ⟨#[102, 40, 97, 44, 32, 98, 41]⟩, .int .i64 3, .bool true, .string ⟨#[40]⟩] w fun e w' => e = .returned (.tuple #[.agg #[.int .i64 1, .int .i64 7, .bool false], .bool true]) ∧ Below w.heap.size w w') := Lib.hid (fun w => by
    have := thing_Of ⟨#[102, 40, 97, 44, 32, 98, 41]⟩ 3 true ⟨#[40]⟩ (by decide) (by decide) w
    rw [show thg (⟨#[102, 40, 97, 44, 32, 98, 41]⟩ : ByteArray).data.toList 3 true (⟨#[40]⟩ : ByteArray).data.toList = some (1, 7, false) from Thing.ex_all] at this
    exact this)
  have C2 : Hid (∀ w, Calls Try.prog 7 #[.string ⟨#[102, 40, 97, 44, 32, 98, 41]⟩, .int .i64 0, .bool false, .string ⟨#[119]⟩] w fun e w' => e = .returned (.tuple #[.agg #[.int .i64 0, .int .i64 1, .bool false], .bool true]) ∧ Below w.heap.size w w') := Lib.hid (fun w => by
    have := thing_Of ⟨#[102, 40, 97, 44, 32, 98, 41]⟩ 0 false ⟨#[119]⟩ (by decide) (by decide) w
    rw [show thg (⟨#[102, 40, 97, 44, 32, 98, 41]⟩ : ByteArray).data.toList 0 false (⟨#[119]⟩ : ByteArray).data.toList = some (0, 1, false) from Thing.ex_word] at this
    exact this)
  have hX := Below.refl w.heap.size w
  have ES := @eql_same
  go_enter Try.func6, Try.ntmps6
  go_wp2_with fail
  refine (C0.out _).mono ?_
  rintro e w1 ⟨rfl, hb1⟩
  have A1 := Blk.new w1 24 #[.int .i64 2, .int .i64 6, .bool false]
  have X1 := (thing_on hX hb1).alloc (thing_on hX hb1).size (.cells #[.int .i64 2, .int .i64 6, .bool false] 24)
  go_wp2_with fail
  refine (C1.out _).mono ?_
  rintro e w2 ⟨rfl, hb2⟩
  have A2 := A1.below hb2 A1.lt
  have B2 := Blk.new w2 24 #[.int .i64 1, .int .i64 7, .bool false]
  have X2 := (X1.trans (hb2.mono X1.size)).alloc (X1.trans (hb2.mono X1.size)).size (.cells #[.int .i64 1, .int .i64 7, .bool false] 24)
  replace A2 := A2.alloc (.cells #[.int .i64 1, .int .i64 7, .bool false] 24)
  clear A1 X1 hb1 hb2 hX
  go_wp2_with fail
  refine (C2.out _).mono ?_
  rintro e w3 ⟨rfl, hb3⟩
  have A3 := (A2.below hb3 A2.lt).alloc (.cells #[.int .i64 0, .int .i64 1, .bool false] 24)
  have B3 := (B2.below hb3 B2.lt).alloc (.cells #[.int .i64 0, .int .i64 1, .bool false] 24)
  have D3 := Blk.new w3 24 #[.int .i64 0, .int .i64 1, .bool false]
  have X3 := (X2.trans (hb3.mono X2.size)).alloc (X2.trans (hb3.mono X2.size)).size (.cells #[.int .i64 0, .int .i64 1, .bool false] 24)
  obtain ⟨a0, a1, a2, _, _, _⟩ := row_three A3
  obtain ⟨b0, b1, b2, _, _, _⟩ := row_three B3
  obtain ⟨d0, d1, d2, _, _, _⟩ := row_three D3
  clear A2 B2 X2 hb3 A3 B3 D3
  go_wp2_with fail
  go_ret
  exact ⟨rfl, X3⟩
end Go.Proofs.Ytohdijhpoddbbaa
