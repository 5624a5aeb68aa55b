/-
  Things around a place, without a program: which kind a text tells; a run with the one beside it, by the program's way and by the document's; signs that belong together; what is told of each kind.
-/
import Derived.Test.YtchpkeelnfmlbaaGreatClassWholes
import Derived.Test.YtchpkeelnfmlbaaGreatPairWays
import Derived.Test.YtchpkeelnfmlbaaGreatPara
namespace Go.Proofs.YtchpkeelnfmlbaaGreat
namespace Thing
open Utf (dec off place prev next valid valid_ok place_at prev_zero next_no)
open Line (L L_valid L_whole L_each line line_nat start stop start_some stop_some of_ of_at idx_find)
open Class (great plain of kind low_ high_ lft rgt same kind_none kind_nat low_none low_some high_some off_below at_some at_lt at_pos of_feed of_feed_iff kind_end lft_le rgt_ge high_gt low_place high_place inside_run feed_ahead feed_behind kind_place prev_under same_upto)

def tab : List (List UInt8 × Nat) := [([119], 0), ([87], 1), ([40], 2), ([41], 3), ([98], 4), ([91], 5), ([93], 6), ([123], 7), ([125], 8), ([66], 9), ([60], 10), ([62], 11), ([34], 12), ([39], 13), ([96], 14), ([112], 15)]
/-- Which kind a text tells, in the order of the map. -/
def num (key : List UInt8) : Option Nat :=
  if key = [119] then some 0 else if key = [87] then some 1 else if key = [40] then some 2 else if key = [41] then some 3 else if key = [98] then some 4 else if key = [91] then some 5 else if key = [93] then some 6 else if key = [123] then some 7 else if key = [125] then some 8 else if key = [66] then some 9 else if key = [60] then some 10 else if key = [62] then some 11 else if key = [34] then some 12 else if key = [39] then some 13 else if key = [96] then some 14 else if key = [112] then some 15 else none
/-- What is told of a kind: 0 and 1 words, 2 to 5 brackets, 6 to 8 signs, 9 blocks. -/
def cls (j : Nat) : Nat := match j with | 0 => 0 | 1 => 1 | 2 => 2 | 3 => 2 | 4 => 2 | 5 => 3 | 6 => 3 | 7 => 4 | 8 => 4 | 9 => 4 | 10 => 5 | 11 => 5 | 12 => 6 | 13 => 7 | 14 => 8 | _ => 9
theorem num_tab {key : List UInt8} {m : Nat} : num key = some m ↔ (key, m) ∈ tab := by
  unfold num tab
  constructor
  · intro h
    by_cases e0 : key = [119]
    · rw [if_pos e0] at h; injection h with h; subst h; subst e0; simp
    rw [if_neg e0] at h
    by_cases e1 : key = [87]
    · rw [if_pos e1] at h; injection h with h; subst h; subst e1; simp
    rw [if_neg e1] at h
    by_cases e2 : key = [40]
    · rw [if_pos e2] at h; injection h with h; subst h; subst e2; simp
    rw [if_neg e2] at h
    by_cases e3 : key = [41]
    · rw [if_pos e3] at h; injection h with h; subst h; subst e3; simp
    rw [if_neg e3] at h
    by_cases e4 : key = [98]
    · rw [if_pos e4] at h; injection h with h; subst h; subst e4; simp
    rw [if_neg e4] at h
    by_cases e5 : key = [91]
    · rw [if_pos e5] at h; injection h with h; subst h; subst e5; simp
    rw [if_neg e5] at h
    by_cases e6 : key = [93]
    · rw [if_pos e6] at h; injection h with h; subst h; subst e6; simp
    rw [if_neg e6] at h
    by_cases e7 : key = [123]
    · rw [if_pos e7] at h; injection h with h; subst h; subst e7; simp
    rw [if_neg e7] at h
    by_cases e8 : key = [125]
    · rw [if_pos e8] at h; injection h with h; subst h; subst e8; simp
    rw [if_neg e8] at h
    by_cases e9 : key = [66]
    · rw [if_pos e9] at h; injection h with h; subst h; subst e9; simp
    rw [if_neg e9] at h
    by_cases e10 : key = [60]
    · rw [if_pos e10] at h; injection h with h; subst h; subst e10; simp
    rw [if_neg e10] at h
    by_cases e11 : key = [62]
    · rw [if_pos e11] at h; injection h with h; subst h; subst e11; simp
    rw [if_neg e11] at h
    by_cases e12 : key = [34]
    · rw [if_pos e12] at h; injection h with h; subst h; subst e12; simp
    rw [if_neg e12] at h
    by_cases e13 : key = [39]
    · rw [if_pos e13] at h; injection h with h; subst h; subst e13; simp
    rw [if_neg e13] at h
    by_cases e14 : key = [96]
    · rw [if_pos e14] at h; injection h with h; subst h; subst e14; simp
    rw [if_neg e14] at h
    by_cases e15 : key = [112]
    · rw [if_pos e15] at h; injection h with h; subst h; subst e15; simp
    rw [if_neg e15] at h
    cases h
  · intro h
    simp only [List.mem_cons, Prod.mk.injEq, List.not_mem_nil, or_false] at h
    rcases h with ⟨rfl, rfl⟩ | ⟨rfl, rfl⟩ | ⟨rfl, rfl⟩ | ⟨rfl, rfl⟩ | ⟨rfl, rfl⟩ | ⟨rfl, rfl⟩ | ⟨rfl, rfl⟩ | ⟨rfl, rfl⟩ | ⟨rfl, rfl⟩ | ⟨rfl, rfl⟩ | ⟨rfl, rfl⟩ | ⟨rfl, rfl⟩ | ⟨rfl, rfl⟩ | ⟨rfl, rfl⟩ | ⟨rfl, rfl⟩ | ⟨rfl, rfl⟩ <;> decide
theorem num_lt {key : List UInt8} {m : Nat} (h : num key = some m) : m < 16 := by
  have h := num_tab.1 h
  unfold tab at h
  simp only [List.mem_cons, Prod.mk.injEq, List.not_mem_nil, or_false] at h
  omega
theorem num_one {key : List UInt8} {m : Nat} (h : num key = some m) : ∃ b, key = [b] := by
  have h := num_tab.1 h
  unfold tab at h
  simp only [List.mem_cons, Prod.mk.injEq, List.not_mem_nil, or_false] at h
  rcases h with ⟨rfl, _⟩ | ⟨rfl, _⟩ | ⟨rfl, _⟩ | ⟨rfl, _⟩ | ⟨rfl, _⟩ | ⟨rfl, _⟩ | ⟨rfl, _⟩ | ⟨rfl, _⟩ | ⟨rfl, _⟩ | ⟨rfl, _⟩ | ⟨rfl, _⟩ | ⟨rfl, _⟩ | ⟨rfl, _⟩ | ⟨rfl, _⟩ | ⟨rfl, _⟩ | ⟨rfl, _⟩ <;> exact ⟨_, rfl⟩

/-! Words. -/
/-- A run together with the one beside it that is of its whole. -/
def wid (s : List UInt8) (a b : Int) (big : Bool) : Int × Int :=
  if kind s a false = 1 then (a, if high_ s b big < 0 then b else high_ s b big)
  else if kind s b false = 1 then (a, high_ s b big)
  else if kind s (prev s a) false = 1 then (low_ s (prev s a) big, b) else (a, b)
def wrd (s : List UInt8) (p : Int) (big all : Bool) : Option (Int × Int) :=
  if low_ s p big < 0 then none else some (if all then wid s (low_ s p big) (high_ s p big) big else (low_ s p big, high_ s p big))
theorem great_one (b : Nat) : great b = 1 ↔ plain b = 1 := by
  unfold great; split
  · omega
  · exact Iff.rfl
theorem of_one (big : Bool) (b : Nat) : of big b = 1 ↔ of false b = 1 := by
  cases big
  · exact Iff.rfl
  · exact great_one b
theorem at_one (s : List UInt8) (i : Nat) (big : Bool) : Class.at_ s i big = 1 ↔ Class.at_ s i false = 1 := by
  unfold Class.at_; split
  · exact Iff.rfl
  · exact of_one big _
theorem kind_one (s : List UInt8) (x : Int) (big : Bool) : kind s x big = 1 ↔ kind s x false = 1 := by
  unfold kind; split
  · exact Iff.rfl
  · exact at_one s _ big
theorem low_high (s : List UInt8) (x : Int) (big : Bool) : low_ s x big < 0 ↔ high_ s x big < 0 := by
  unfold low_ high_; split
  · exact Iff.rfl
  · omega
/-- A run: what it is of, where it lies. -/
structure Run (s : List UInt8) (p : Nat) (big : Bool) (k : Nat) (x : Nat × Nat) (a b : Nat) : Prop where
  low : low_ s (p : Int) big = a
  high : high_ s (p : Int) big = b
  le : a ≤ p
  lt : p < b
  pa : place s (a : Int) = true
  pb : place s (b : Int) = true
  line : (L s)[k]? = some x
  xa : x.1 ≤ a
  xb : b ≤ x.2
  one : kind s (a : Int) false = 1 ↔ kind s (p : Int) big = 1
theorem run_has {s : List UInt8} {p : Int} {big : Bool} (h : ¬ low_ s p big < 0) : ∃ (n k : Nat) (x : Nat × Nat) (a b : Nat), p = n ∧ Run s n big k x a b := by
  have hk : ¬ (kind s p big = 0 ∨ kind s p big = 4) := fun h1 => by rw [low_none h1] at h; omega
  obtain ⟨rs, i, hd, hi, rfl, hc⟩ := kind_nat hk
  have hy := off_below hd hi
  have hp : place s (off rs i : Int) = true := place_at hd (Nat.le_of_lt hi)
  have hl := low_some (x := off rs i) hk
  have hh := high_some (x := off rs i) hk
  have hc4 : kind s (off rs i : Int) big ≠ 4 := fun h1 => hk (.inr h1)
  generalize hcc : kind s (off rs i : Int) big = c at *
  generalize off rs i = y at *
  have hle := lft_le (same s big c) y
  have hge := rgt_ge (same s big c) y (s.length - y)
  have hgt := high_gt hy hc.symm
  have pa := low_place hd hy hc.symm
  have pb := high_place hd (c := c) (big := big) hp hy
  obtain ⟨k, x, -, hL, h1, h2⟩ := idx_find (valid_ok hd) (p := y) (by omega)
  have hfeed : ∀ q, s[q]? = some 10 → lft (same s big c) y ≤ q → q < rgt (same s big c) y (s.length - y) → False := by
    intro q hq h5 h6
    have := inside_run (c := c) (big := big) h5 h6
    rw [at_some hq, show (10 : UInt8).toNat = 10 from rfl, of_feed] at this
    exact hc4 this.symm
  have ha : x.1 ≤ lft (same s big c) y := by
    rcases feed_ahead hL with h5 | h5
    · omega
    · rcases Nat.lt_or_ge (lft (same s big c) y) x.1 with h6 | h6
      · exact absurd (hfeed _ h5 (by omega) (by omega)) id
      · exact h6
  have hb : rgt (same s big c) y (s.length - y) ≤ x.2 := by
    rcases feed_behind hL with h5 | h5
    · omega
    · rcases Nat.lt_or_ge x.2 (rgt (same s big c) y (s.length - y)) with h6 | h6
      · exact absurd (hfeed _ h5 (by omega) h6) id
      · exact h6
  refine ⟨y, k, x, _, _, rfl, hl, hh, hle, hgt, pa, pb, hL, ha, hb, ?_⟩
  rw [kind_place hd pa (by omega), ← at_one s _ big, inside_run (c := c) (big := big) (Nat.le_refl _) (by omega), hcc]
/-- Behind a run: as the document asks, and as the program does. -/
theorem behind {s : List UInt8} {p : Nat} {big : Bool} {k : Nat} {x : Nat × Nat} {a b : Nat} (r : Run s p big k x a b) :
    (b < x.2 → (kind s (b : Int) big ≠ 0 ∧ kind s (b : Int) big ≠ 4)) ∧ (¬ b < x.2 → (kind s (b : Int) big = 0 ∨ kind s (b : Int) big = 4)) := by
  obtain ⟨rs, hd⟩ := Utf.valid_of (L_valid r.line)
  have W := (L_whole (L_valid r.line)).each k x r.line
  have hxb := r.xb
  constructor
  · intro hlt
    have hbl : b < s.length := by omega
    rw [kind_place hd r.pb hbl]
    have h1 := at_pos hbl big
    refine ⟨by omega, fun h4 => ?_⟩
    rw [at_lt hbl, of_feed_iff] at h4
    refine W.2.2.2 b (by have := r.xa; have := r.le; have := r.lt; omega) hlt ?_
    rw [List.getElem?_eq_getElem hbl, ← UInt8.ofNat_toNat (x := s[b]), h4]; rfl
  · intro hge
    obtain rfl : b = x.2 := by omega
    rcases feed_behind r.line with h5 | h5
    · rw [h5, kind_end hd]; exact .inl rfl
    · have hbl := (List.getElem?_eq_some_iff.1 h5).1
      rw [kind_place hd r.pb hbl, at_some h5]
      exact .inr (of_feed big)
/-- Ahead of a run. -/
theorem ahead {s : List UInt8} {p : Nat} {big : Bool} {k : Nat} {x : Nat × Nat} {a b : Nat} (r : Run s p big k x a b) (c : Bool) :
    ¬ x.1 < a → (kind s (prev s (a : Int)) c = 0 ∨ kind s (prev s (a : Int)) c = 4) := by
  obtain ⟨rs, hd⟩ := Utf.valid_of (L_valid r.line)
  have W := (L_whole (L_valid r.line)).each k x r.line
  intro hge
  have hxa := r.xa
  obtain rfl : a = x.1 := by omega
  rcases feed_ahead r.line with h5 | h5
  · rw [h5, show ((0 : Nat) : Int) = 0 from rfl, prev_zero hd]
    exact .inl (kind_none (by rw [next_no (by cases hp : place s (-1) with | false => rfl | true => (obtain ⟨n, hn, _⟩ := Line.place_nat hp; omega))]; omega) c)
  · rcases Nat.eq_zero_or_pos x.1 with h0 | h0
    · rw [h0, show ((0 : Nat) : Int) = 0 from rfl, prev_zero hd]
      exact .inl (kind_none (by rw [next_no (by cases hp : place s (-1) with | false => rfl | true => (obtain ⟨n, hn, _⟩ := Line.place_nat hp; omega))]; omega) c)
    · obtain ⟨u, h1, h2, h3, h4⟩ := prev_under hd r.pa h0
      have hbl := (List.getElem?_eq_some_iff.1 h5).1
      rw [h1, kind_place hd h2 (by omega), ← same_upto hd (big := c) h2 (by omega) (F := x.1) h4 (x.1 - 1) (by omega) (by omega), at_some h5]
      exact .inr (of_feed c)
/-- What is told by the document's way: the classes of what stands beside, in the line. -/
def beside (s : List UInt8) (p : Int) (big : Bool) : Nat × Nat :=
  (if high_ s p big < Line.stop s (of_ s p) then kind s (high_ s p big) big else 0, if Line.start s (of_ s p) < low_ s p big then kind s (prev s (low_ s p big)) big else 0)
theorem wid_ref {s : List UInt8} {p : Int} {big : Bool} (h : ¬ low_ s p big < 0) : wid s (low_ s p big) (high_ s p big) big =
    if (kind s p big = 1 ∧ 0 < (beside s p big).1) ∨ (kind s p big ≠ 1 ∧ (beside s p big).1 = 1) then (low_ s p big, high_ s (high_ s p big) big)
    else if kind s p big ≠ 1 ∧ (beside s p big).2 = 1 then (low_ s (prev s (low_ s p big)) big, high_ s p big) else (low_ s p big, high_ s p big) := by
  obtain ⟨n, k, x, a, b, rfl, r⟩ := run_has h
  have hb := behind r
  have ha := ahead r big
  have h1 := r.one
  have hof : of_ s (n : Int) = k := of_at r.line (by have := r.xa; have := r.le; omega) (by have := r.xb; have := r.lt; omega)
  have hl : line s ((k : Nat) : Int) = some x := by rw [line_nat, r.line]
  have q1 := kind_one s (b : Int) big
  have q2 := kind_one s (prev s (a : Int)) big
  have q3 : high_ s (b : Int) big < 0 ↔ (kind s (b : Int) big = 0 ∨ kind s (b : Int) big = 4) := by
    unfold high_; split
    · rename_i h; exact ⟨fun _ => h, fun _ => by omega⟩
    · rename_i h; exact ⟨fun h2 => by omega, fun h2 => absurd h2 h⟩
  unfold beside wid
  rw [hof, start_some hl, stop_some hl, r.low, r.high]
  dsimp only
  generalize kind s (a : Int) false = A at *
  generalize kind s (n : Int) big = N at *
  generalize kind s (b : Int) false = Bf at *
  generalize kind s (b : Int) big = B at *
  generalize kind s (prev s (a : Int)) false = Pf at *
  generalize kind s (prev s (a : Int)) big = P at *
  generalize high_ s (b : Int) big = hv at *
  generalize low_ s (prev s (a : Int)) big = lv at *
  clear r hl hof h
  by_cases hbx : b < x.2
  · have hb := hb.1 hbx
    have hq3 : ¬ hv < 0 := fun h2 => by have := q3.1 h2; omega
    rw [if_pos (show (b : Int) < (x.2 : Int) by omega)]
    by_cases hN : N = 1
    · rw [if_pos (h1.2 hN), if_neg hq3, if_pos (.inl ⟨hN, by omega⟩)]
    · rw [if_neg (fun h => hN (h1.1 h))]
      by_cases hB : B = 1
      · rw [if_pos (q1.1 hB), if_pos (.inr ⟨hN, hB⟩)]
      · rw [if_neg (fun h => hB (q1.2 h)), if_neg (show ¬ ((N = 1 ∧ 0 < B) ∨ (N ≠ 1 ∧ B = 1)) from fun h => h.elim (fun h => hN h.1) (fun h => hB h.2))]
        by_cases hP : P = 1
        · have hxa : x.1 < a := by
            rcases Nat.lt_or_ge x.1 a with h | h
            · exact h
            · have := ha (by omega); omega
          rw [if_pos (show (x.1 : Int) < (a : Int) by omega), if_pos (q2.1 hP), if_pos ⟨hN, hP⟩]
        · rw [if_neg (fun h => hP (q2.2 h)), if_neg (show ¬ (N ≠ 1 ∧ (if (x.1 : Int) < (a : Int) then P else 0) = 1) from fun h => by have h := h.2; split at h <;> first | exact hP h | omega)]
  · have hb := hb.2 hbx
    have hq3 : hv < 0 := q3.2 hb
    rw [if_neg (show ¬ (b : Int) < (x.2 : Int) by omega)]
    rw [if_neg (show ¬ ((N = 1 ∧ 0 < 0) ∨ (N ≠ 1 ∧ 0 = 1)) by omega)]
    by_cases hN : N = 1
    · rw [if_pos (h1.2 hN), if_pos hq3, if_neg (by rintro ⟨h, _⟩; exact h hN)]
    · rw [if_neg (fun h => hN (h1.1 h)), if_neg (fun h => by have := q1.2 h; omega)]
      by_cases hP : P = 1
      · have hxa : x.1 < a := by
          rcases Nat.lt_or_ge x.1 a with h | h
          · exact h
          · have := ha (by omega); omega
        rw [if_pos (show (x.1 : Int) < (a : Int) by omega), if_pos (q2.1 hP), if_pos ⟨hN, hP⟩]
      · rw [if_neg (fun h => hP (q2.2 h)), if_neg (show ¬ (N ≠ 1 ∧ (if (x.1 : Int) < (a : Int) then P else 0) = 1) from fun h => by have h := h.2; split at h <;> first | exact hP h | omega)]

/-! Signs. -/
/-- Where a sign stands among n bytes from a on. -/
def pos (s : List UInt8) (q : UInt8) : Nat → Nat → List Nat
  | _, 0 => []
  | a, n + 1 => if s[a]? = some q then a :: pos s q (a + 1) n else pos s q (a + 1) n
theorem pos_yes {s : List UInt8} {q : UInt8} {a n : Nat} (h : s[a]? = some q) : pos s q a (n + 1) = a :: pos s q (a + 1) n := by rw [pos, if_pos h]
theorem pos_no {s : List UInt8} {q : UInt8} {a n : Nat} (h : ¬ s[a]? = some q) : pos s q a (n + 1) = pos s q (a + 1) n := by rw [pos, if_neg h]
theorem pos_length (s : List UInt8) (q : UInt8) (a n : Nat) : (pos s q a n).length ≤ n := by
  induction n generalizing a with
  | zero => exact Nat.le_refl _
  | succ n ih => 
    have := ih (a + 1)
    rw [pos]
    split
    · rw [List.length_cons]; omega
    · omega
theorem pos_in {s : List UInt8} {q : UInt8} {a n i : Nat} (h : i ∈ pos s q a n) : a ≤ i ∧ i < a + n ∧ s[i]? = some q := by
  induction n generalizing a with
  | zero => cases h
  | succ n ih =>
    rw [pos] at h
    split at h
    · rcases List.mem_cons.1 h with e | h
      · subst e; exact ⟨Nat.le_refl _, by omega, by assumption⟩
      · have := ih h; exact ⟨by omega, by omega, this.2.2⟩
    · have := ih h; exact ⟨by omega, by omega, this.2.2⟩
theorem pos_sorted (s : List UInt8) (q : UInt8) (a n : Nat) : (pos s q a n).Pairwise (· < ·) := by
  induction n generalizing a with
  | zero => exact List.Pairwise.nil
  | succ n ih =>
    rw [pos]
    split
    · exact List.pairwise_cons.2 ⟨fun i hi => by have := pos_in hi; omega, ih _⟩
    · exact ih _
/-- The first two that belong together of which the second is not ahead of p. -/
def two (p : Int) : List Nat → Option (Nat × Nat)
  | x :: y :: l => if p ≤ (y : Int) then some (x, y) else two p l
  | _ => none
theorem two_nil (p : Int) : two p [] = none := rfl
theorem two_one (p : Int) (x : Nat) : two p [x] = none := rfl
theorem two_hit {p : Int} {x y : Nat} {l : List Nat} (h : p ≤ (y : Int)) : two p (x :: y :: l) = some (x, y) := by rw [two, if_pos h]
theorem two_miss {p : Int} {x y : Nat} {l : List Nat} (h : ¬ p ≤ (y : Int)) : two p (x :: y :: l) = two p l := by rw [two, if_neg h]
theorem two_in {p : Int} : ∀ {l : List Nat} {z : Nat × Nat}, l.Pairwise (· < ·) → two p l = some z → z.1 ∈ l ∧ z.2 ∈ l ∧ z.1 < z.2 ∧ p ≤ (z.2 : Int)
  | [], _, _, h => by cases h
  | [_], _, _, h => by cases h
  | x :: y :: l, z, hs, h => by
    rw [List.pairwise_cons, List.pairwise_cons] at hs
    by_cases hy : p ≤ (y : Int)
    · rw [two_hit hy] at h
      injection h with h
      subst h
      exact ⟨by simp, by simp, hs.1 y (by simp), hy⟩
    · rw [two_miss hy] at h
      obtain ⟨h1, h2, h3⟩ := two_in hs.2.2 h
      exact ⟨by simp [h1], by simp [h2], h3⟩
/-- The signs of the line of a place. -/
def sgs (s : List UInt8) (p : Int) (q : UInt8) : List Nat := pos s q (Line.start s (of_ s p)).toNat ((Line.stop s (of_ s p)).toNat - (Line.start s (of_ s p)).toNat)
def quo (s : List UInt8) (p : Int) (q : UInt8) : Option (Nat × Nat) := two p (sgs s p q)

/-! Things of all kinds. -/
/-- What opens; which sign. -/
def opn (m : Nat) : List UInt8 := match m with | 2 => [40] | 3 => [91] | 4 => [123] | _ => [60]
def sgn (m : Nat) : UInt8 := match m with | 6 => 34 | 7 => 39 | _ => 96
/-- With two signs, or without them. -/
def btw (x : Nat × Nat) (all : Bool) : Int × Int := if all then (x.1, (x.2 : Int) + 1) else ((x.1 : Int) + 1, x.2)
/-- The lines of a block. -/
def lns (s : List UInt8) (p : Int) (all : Bool) : Nat × Nat := Para.blockV (Para.all s) (of_ s p).toNat all
def blk (s : List UInt8) (p : Int) (all : Bool) : Int × Int := (Line.start s (lns s p all).1, Line.stop s (lns s p all).2)
def way (m : Nat) (s : List UInt8) (p : Int) (all : Bool) : Option (Int × Int) :=
  if m = 0 then wrd s p false all else if m = 1 then wrd s p true all
  else if m ≤ 5 then (Pair.ar s (opn m) p).map (btw · all) else if m ≤ 8 then (quo s p (sgn m)).map (btw · all) else some (blk s p all)
/-- The thing of a kind, around a place. -/
def thg (s : List UInt8) (p : Int) (all : Bool) (key : List UInt8) : Option (Int × Int × Bool) :=
  match num key with | none => none | some j => if place s p then (way (cls j) s p all).map (fun x => (x.1, x.2, decide (cls j = 9))) else none
/-- What is answered. -/
def res : Option (Int × Int × Bool) → Value
  | some x => .tuple #[.agg #[.int .i64 x.1, .int .i64 x.2.1, .bool x.2.2], .bool true]
  | none => .tuple #[.agg #[.int .i64 0, .int .i64 0, .bool false], .bool false]
theorem res_some (a b : Int) (c : Bool) : res (some (a, b, c)) = .tuple #[.agg #[.int .i64 a, .int .i64 b, .bool c], .bool true] := rfl
theorem res_none : res none = .tuple #[.agg #[.int .i64 0, .int .i64 0, .bool false], .bool false] := rfl
theorem thg_none {s : List UInt8} {p : Int} {all : Bool} {key : List UInt8} (h : num key = none) : thg s p all key = none := by rw [thg, h]
theorem thg_bad {s : List UInt8} {p : Int} {all : Bool} {key : List UInt8} (h : place s p = false) : thg s p all key = none := by
  rw [thg]; split
  · rfl
  · rw [if_neg (by simp [h])]
theorem thg_at {s : List UInt8} {p : Int} {all : Bool} {key : List UInt8} {j : Nat} (h : num key = some j) (hp : place s p = true) : thg s p all key = (way (cls j) s p all).map (fun x => (x.1, x.2, decide (cls j = 9))) := by rw [thg, h]; simp only []; rw [if_pos hp]
end Thing
end Go.Proofs.YtchpkeelnfmlbaaGreat
