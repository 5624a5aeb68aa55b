/-
  Operators without a program: what is left of a text, lines shifted, other letters, lines joined.
-/
import Derived.Test.YtfhljddakhigdaaGreatDoorJ1
import Derived.Test.YtfhljddakhigdaaGreatDoorBatch
import Derived.Test.YtfhljddakhigdaaGreatDoorClass
import Derived.Test.YtfhljddakhigdaaGreatDoorHeld8
import Derived.Test.YtfhljddakhigdaaGreatDoorInts
import Derived.Laws.IdiomCopy
import Derived.Lib.AppendStr
import Derived.Lib.UnsafeStr
import Derived.Test.YtfhljddakhigdaaGreatDoorClassOf
import Derived.Test.YtfhljddakhigdaaGreatDoorDiffs
import Derived.Test.YtfhljddakhigdaaGreatDoorStrs
import Derived.Test.YtfhljddakhigdaaGreatDoorShelf
import Derived.Deep.RegionHeld3
import Derived.Test.YtfhljddakhigdaaGreatDoorLineCalls
import Derived.Test.YtfhljddakhigdaaGreatDoorLineCount
import Derived.OwnWalk
import Derived.Shelf.Strings.SplitCore
import Derived.Lib.SplitLaws
import Derived.Lib.IndexBytes
import Derived.Test.YtfhljddakhigdaaGreatDoorFrame
namespace Go.Proofs.YtfhljddakhigdaaGreatDoor
namespace Opr
open Utf (off valid place)
open Line (L seg of_ clamp normal L_whole L_valid L_each)
open Ix (parts)
open Gl

/-- What is told: a text, a place, an error. -/
abbrev Ans := List UInt8 × Int × Int
def val (r : Ans) : Value := .tuple #[.string (bs r.1), .int .i64 r.2.1, .int .i64 r.2.2]
theorem val_mk (t : List UInt8) (p e : Int) : val (t, p, e) = .tuple #[.string (bs t), .int .i64 p, .int .i64 e] := rfl
def no (e : Int) : Ans := ([], 0, e)
theorem val_no (e : Int) : val (no e) = .tuple #[.string ⟨#[]⟩, .int .i64 0, .int .i64 e] := rfl
/-- A text with another one in the place of what stands from a to b. -/
def put (s : List UInt8) (a b : Int) (t : List UInt8) : List UInt8 := s.take a.toNat ++ (t ++ s.drop b.toNat)
/-- The error of a range with which nothing can be done. -/
def fault (s : List UInt8) (a b : Int) (l : Bool) : Int := if Span.right s a b l = true then if l = false ∧ a = b then 10 else 0 else 1
theorem fault_arg {s : List UInt8} {a b : Int} {l : Bool} (h : Span.right s a b l = false) : fault s a b l = 1 := by rw [fault, if_neg (by rw [h]; decide)]
theorem fault_move {s : List UInt8} {a : Int} (h : Span.right s a a false = true) : fault s a a false = 10 := by rw [fault, if_pos h, if_pos ⟨rfl, rfl⟩]
theorem fault_ok {s : List UInt8} {a b : Int} {l : Bool} (h : Span.right s a b l = true) (h1 : ¬ (l = false ∧ a = b)) : fault s a b l = 0 := by rw [fault, if_pos h, if_neg h1]
/-- Take. -/
def rest (s : List UInt8) (a b : Int) (l : Bool) : List UInt8 := put s (Span.cut s a b l).1 (Span.cut s a b l).2.1 []
def take (s : List UInt8) (a b : Int) (l : Bool) : Ans :=
  if fault s a b l = 0 then (rest s a b l, if l = true then Line.first (rest s a b l) (min (of_ s a) (((L (rest s a b l)).length : Int) - 1)) else clamp (rest s a b l) a, 0) else no (fault s a b l)
/-- Clear. -/
def clear (s : List UInt8) (a b : Int) (l : Bool) : Ans := if Span.right s a b l = true then (put s a b [], a, 0) else no 1

/-- How many blanks lead, n at most. -/
def ldn : Nat → List UInt8 → Nat
  | 0, _ => 0
  | _ + 1, [] => 0
  | n + 1, b :: t => if b = 32 then ldn n t + 1 else 0
theorem ldn_le (n : Nat) (x : List UInt8) : ldn n x ≤ n ∧ ldn n x ≤ x.length := by
  induction n generalizing x with
  | zero => exact ⟨Nat.le_refl _, Nat.zero_le _⟩
  | succ n ih =>
    cases x with
    | nil => exact ⟨Nat.zero_le _, Nat.le_refl _⟩
    | cons b t =>
      rw [ldn]
      have := ih t
      split <;> (try rw [List.length_cons]) <;> omega
theorem ldn_go {n : Nat} {x : List UInt8} {b : UInt8} (h : x[0]? = some b) (hb : b = 32) : ldn (n + 1) x = ldn n (x.drop 1) + 1 := by
  cases x with
  | nil => simp at h
  | cons c t => simp at h; rw [ldn, if_pos (by rw [h, hb])]; rfl
theorem ldn_stop {n : Nat} {x : List UInt8} {b : UInt8} (h : x[0]? = some b) (hb : b ≠ 32) : ldn n x = 0 := by
  cases n with
  | zero => rfl
  | succ n =>
    cases x with
    | nil => simp at h
    | cons c t => simp at h; rw [ldn, if_neg (by rw [h]; exact hb)]
theorem ldn_nil (n : Nat) : ldn n [] = 0 := by cases n <;> rfl
/-- How many bytes go from a line's beginning. -/
def ind (x : List UInt8) : Nat := if x[0]? = some 9 then 1 else ldn 4 x
theorem ind_le (x : List UInt8) : ind x ≤ 4 ∧ ind x ≤ x.length := by
  unfold ind
  split
  · rename_i h; have := (List.getElem?_eq_some_iff.1 h).1; omega
  · exact ldn_le 4 x
def old (lf : Bool) (x : List UInt8) : List UInt8 := if lf = true then x.take (ind x) else []
def new_ (lf : Bool) (x : List UInt8) : List UInt8 := if lf = true then [] else if x = [] then [] else [9]
/-- A line shifted. -/
def sh (lf : Bool) (x : List UInt8) : List UInt8 := new_ lf x ++ x.drop (old lf x).length
theorem sh_right (x : List UInt8) : sh false x = if x = [] then [] else 9 :: x := by
  cases x with
  | nil => rfl
  | cons b t => rfl
theorem sh_left (x : List UInt8) : sh true x = x.drop (ind x) := by
  have := ind_le x
  show [] ++ x.drop (x.take (ind x)).length = _
  rw [List.length_take, Nat.min_eq_left this.2]
  rfl
theorem sh_back (x : List UInt8) : sh true (sh false x) = x := by
  rw [sh_right]
  split
  · rename_i h; subst h; rfl
  · rw [sh_left]; rfl
theorem old_length (lf : Bool) (x : List UInt8) : (old lf x).length ≤ x.length ∧ (old lf x).length ≤ 4 := by
  have := ind_le x
  cases lf with
  | false => exact ⟨Nat.zero_le _, Nat.zero_le _⟩
  | true => show (x.take (ind x)).length ≤ _ ∧ (x.take (ind x)).length ≤ _; rw [List.length_take]; omega
theorem old_take (lf : Bool) (x : List UInt8) : x = old lf x ++ x.drop (old lf x).length := by
  cases lf with
  | false => rfl
  | true =>
    have := ind_le x
    show x = x.take (ind x) ++ x.drop (x.take (ind x)).length
    rw [List.length_take, Nat.min_eq_left this.2, List.take_append_drop]
theorem new_length (lf : Bool) (x : List UInt8) : (new_ lf x).length ≤ 1 := by
  unfold new_; split
  · exact Nat.zero_le _
  · split <;> simp
theorem ldn_ascii (n : Nat) (x : List UInt8) : ∀ b ∈ x.take (ldn n x), b = 32 := by
  induction n generalizing x with
  | zero => simp [ldn]
  | succ n ih =>
    cases x with
    | nil => simp [ldn]
    | cons c t =>
      rw [ldn]
      split
      · rename_i h
        intro b hb
        rw [List.take_succ_cons] at hb
        rcases List.mem_cons.1 hb with h1 | h1
        · rw [h1, h]
        · exact ih t b h1
      · simp
theorem old_ascii (lf : Bool) (x : List UInt8) : ∀ b ∈ old lf x, b = 32 ∨ b = 9 := by
  cases lf with
  | false => intro b hb; cases hb
  | true =>
    intro b hb
    change b ∈ x.take (ind x) at hb
    unfold ind at hb
    split at hb
    · rename_i h
      cases x with
      | nil => simp at h
      | cons c t => simp at h hb; right; rw [hb, h]
    · exact Or.inl (ldn_ascii 4 x b hb)
theorem valid_run {a : List UInt8} (b : List UInt8) (h : ∀ c ∈ a, c.toNat < 128) : valid (a ++ b) = valid b := by
  induction a with
  | nil => rfl
  | cons c r ih => rw [List.cons_append, valid_ascii _ (h c (by simp)), ih fun d hd => h d (by simp [hd])]
theorem blank_low {c : UInt8} (h : c = 32 ∨ c = 9) : c.toNat < 128 := by rcases h with rfl | rfl <;> decide
theorem old_valid (lf : Bool) (x : List UInt8) : valid (old lf x) = true := by
  have := valid_run (a := old lf x) [] (fun c hc => blank_low (old_ascii lf x c hc))
  rw [List.append_nil] at this
  rw [this, valid_nil]
theorem new_valid (lf : Bool) (x : List UInt8) : valid (new_ lf x) = true := by
  unfold new_; split
  · exact valid_nil
  · split
    · exact valid_nil
    · rw [valid_ascii _ (by decide), valid_nil]
theorem sh_ok {lf : Bool} {x : List UInt8} (h : valid x = true ∧ Free x) : valid (sh lf x) = true ∧ Free (sh lf x) := by
  have e := old_take lf x
  constructor
  · rw [sh, valid_all _ (new_valid lf x)]
    have := valid_run (a := old lf x) (x.drop (old lf x).length) (fun c hc => blank_low (old_ascii lf x c hc))
    rw [← e] at this
    rw [← this]; exact h.1
  · intro hm
    rcases List.mem_append.1 hm with h1 | h1
    · unfold new_ at h1
      split at h1
      · cases h1
      · split at h1
        · cases h1
        · simp at h1
    · exact h.2 (List.mem_of_mem_drop h1)
/-- What shifts lines, the first of which begins at a. -/
def chg (lf : Bool) (a : Nat) (x : List UInt8) : Cg := ⟨a, bs (old lf x), bs (new_ lf x)⟩
def chgs (lf : Bool) (a : Nat) : List (List UInt8) → List Cg
  | [] => []
  | x :: r => chg lf a x :: chgs lf (a + x.length + 1) r
theorem chgs_length (lf : Bool) (a : Nat) (R : List (List UInt8)) : (chgs lf a R).length = R.length := by
  induction R generalizing a with
  | nil => rfl
  | cons x r ih => rw [chgs, List.length_cons, List.length_cons, ih]
theorem chgs_get {lf : Bool} {a : Nat} {R : List (List UInt8)} {k : Nat} {x : List UInt8} (h : R[k]? = some x) : (chgs lf a R)[k]? = some (chg lf (a + (fore (R.take k)).length) x) := by
  induction R generalizing a k with
  | nil => simp at h
  | cons y r ih =>
    cases k with
    | zero => simp at h; subst h; rfl
    | succ k =>
      rw [List.getElem?_cons_succ] at h
      rw [chgs, List.getElem?_cons_succ, ih h, List.take_succ_cons, fore_cons, List.length_append, List.length_cons]
      congr 2; omega
theorem chgs_weigh (lf : Bool) (a : Nat) (R : List (List UInt8)) : weigh (chgs lf a R) ≤ 5 * R.length := by
  induction R generalizing a with
  | nil => exact Nat.le_refl _
  | cons x r ih =>
    have h1 := old_length lf x
    have h2 := new_length lf x
    have h3 := ih (a + x.length + 1)
    simp only [weigh, chgs, List.map_cons, List.sum_cons, chg, bs_size, List.length_cons] at h3 ⊢
    omega
theorem chgs_in {lf : Bool} {a : Nat} {R : List (List UInt8)} : ∀ k ∈ chgs lf a R, (a : Int) ≤ k.at_ ∧ k.at_ ≤ (a + (fore R).length : Nat) := by
  induction R generalizing a with
  | nil => intro k hk; cases hk
  | cons x r ih =>
    intro k hk
    rw [fore_cons, List.length_append, List.length_cons]
    rcases List.mem_cons.1 hk with h | h
    · subst h; show (a : Int) ≤ (a : Int) ∧ (a : Int) ≤ _; omega
    · have := ih k h
      omega
theorem chgs_apart (lf : Bool) (a : Nat) (R : List (List UInt8)) : Btc.apart (chgs lf a R) = true := by
  induction R generalizing a with
  | nil => rfl
  | cons x r ih =>
    cases r with
    | nil => rfl
    | cons y q =>
      have h1 := old_length lf x
      have := ih (a + x.length + 1)
      simp only [chgs] at this ⊢
      rw [Btc.apart, this, Bool.and_true, decide_eq_true_iff]
      show (a : Int) + ((bs (old lf x)).size : Int) ≤ ((a + x.length + 1 : Nat) : Int)
      rw [bs_size]
      omega
theorem glue_drop {x : List UInt8} {r Z} : (glue (x :: r) ++ Z) = x ++ (aft r ++ Z) := by rw [glue_cons, List.append_assoc]
theorem aft_cons2 (y : List UInt8) (q : List (List UInt8)) : aft (y :: q) = 10 :: glue (y :: q) := aft_glue (by simp)
/-- What changes make of lines. -/
theorem chgs_parts {lf : Bool} {t Z : List UInt8} {R : List (List UInt8)} (hR : R ≠ []) {a f : Nat} (hf : f ≤ a) (ht : t.drop a = glue R ++ Z) : Btc.parts t f (chgs lf a R) = (t.drop f).take (a - f) ++ (glue (R.map (sh lf)) ++ Z) := by
  induction R generalizing a f with
  | nil => exact absurd rfl hR
  | cons x r ih =>
    rw [chgs, Btc.parts]
    show (t.drop f).take (((a : Nat) : Int).toNat - f) ++ (new_ lf x ++ Btc.parts t (((a : Nat) : Int).toNat + (bs (old lf x)).size) (chgs lf (a + x.length + 1) r)) = _
    rw [Int.toNat_natCast, bs_size]
    congr 1
    have h1 := old_length lf x
    have hd : t.drop (a + (old lf x).length) = x.drop (old lf x).length ++ (aft r ++ Z) := by
      rw [← List.drop_drop, ht, glue_drop, List.drop_append_of_le_length h1.1]
    cases r with
    | nil =>
      show new_ lf x ++ t.drop _ = _
      rw [hd, List.map_cons, List.map_nil, glue_one, sh]
      simp [aft]
    | cons y q =>
      have ht2 : t.drop (a + x.length + 1) = glue (y :: q) ++ Z := by
        rw [Nat.add_assoc, ← List.drop_drop, ht, glue_drop, aft_cons2, List.drop_append]
        simp
      rw [ih (by simp) (by omega) ht2, hd, show a + x.length + 1 - (a + (old lf x).length) = (x.drop (old lf x).length).length + 1 by rw [List.length_drop]; omega, List.take_append, List.take_of_length_le (by omega), Nat.add_sub_cancel_left]
      show _ = glue (sh lf x :: sh lf y :: q.map (sh lf)) ++ Z
      rw [glue_cons, aft_cons2 (sh lf y), aft_cons2 y, sh]
      simp
end Opr
end Go.Proofs.YtfhljddakhigdaaGreatDoor
/-
  Operators without a program: the changes that shift lines fit, a range's lines are lines; letters and joined lines.
-/
namespace Go.Proofs.YtfhljddakhigdaaGreatDoor
namespace Opr
open Utf (off valid place)
open Line (L seg of_ clamp normal L_whole L_valid L_each)
open Ix (parts)
open Gl
theorem fore_next {k : Nat} {R : List (List UInt8)} {x : List UInt8} (h : R[k]? = some x) : (fore (R.take (k + 1))).length = (fore (R.take k)).length + (x.length + 1) := by
  rw [List.take_add_one, h]
  show (fore (R.take k ++ [x])).length = _
  rw [fore_snoc]
  simp
theorem fore_most {R : List (List UInt8)} (k : Nat) : (fore (R.take k)).length ≤ (fore R).length := by
  have : fore R = fore (R.take k) ++ fore (R.drop k) := by rw [← fore_append, List.take_append_drop]
  rw [this, List.length_append]; omega
theorem fore_glue {R : List (List UInt8)} (h : R ≠ []) : (fore R).length = (glue R).length + 1 := by
  induction R with
  | nil => exact absurd rfl h
  | cons x r ih =>
    cases r with
    | nil => simp [fore, glue, aft]
    | cons y q =>
      rw [fore_cons, glue_cons, aft_glue (by simp), List.length_append, List.length_append, List.length_cons, List.length_cons, ih (by simp)]
      omega
theorem glue_length {R : List (List UInt8)} : R.length ≤ (glue R).length + 1 := by
  cases R with
  | nil => exact Nat.zero_le _
  | cons x r =>
    have : ∀ q : List (List UInt8), q.length ≤ (aft q).length := fun q => by
      induction q with
      | nil => exact Nat.le_refl _
      | cons y q ih => rw [aft_cons, List.length_cons, List.length_cons, List.length_append]; omega
    have := this r
    rw [glue_cons, List.length_append, List.length_cons]
    omega
theorem prefix_self (a b : List UInt8) : Lib.hasPrefix (a ++ b) a = true := by
  induction a with
  | nil => cases b <;> rfl
  | cons c r ih => simp [Lib.hasPrefix]
theorem chgs_fit {lf : Bool} {R : List (List UInt8)} {A Z : List UInt8} (hA : valid A = true) (hR : ∀ x ∈ R, valid x = true) (hZ : valid Z = true) : (chgs lf A.length R).all (fun k => Chg.fits (A ++ (glue R ++ Z)) k.at_ k.old.data.toList k.new.data.toList) = true := by
  induction R generalizing A with
  | nil => rfl
  | cons x r ih =>
    have e := old_take lf x
    have hx := hR x (by simp)
    have hr := fun y hy => hR y (List.mem_cons_of_mem x hy)
    rw [chgs, List.all_cons, Bool.and_eq_true]
    constructor
    · have h1 : place (A ++ (glue (x :: r) ++ Z)) ((A.length : Nat) : Int) = true := place_mid hA (by rw [valid_all _ (valid_glue hR)]; exact hZ)
      show (place (A ++ (glue (x :: r) ++ Z)) ((A.length : Nat) : Int) && valid (old lf x) && valid (new_ lf x) && Lib.hasPrefix ((A ++ (glue (x :: r) ++ Z)).drop ((A.length : Nat) : Int).toNat) (old lf x)) = true
      rw [h1, old_valid, new_valid, Int.toNat_natCast, List.drop_left, glue_drop]
      have e2 : x ++ (aft r ++ Z) = old lf x ++ (x.drop (old lf x).length ++ (aft r ++ Z)) := by rw [← List.append_assoc (old lf x), ← e]
      rw [e2, prefix_self]
      rfl
    · cases r with
      | nil => rfl
      | cons y q =>
        have := ih (A := A ++ (x ++ [10])) (by rw [valid_all _ hA, valid_all _ hx, valid_feed, valid_nil]) hr
        rw [List.length_append, List.length_append] at this
        have e2 : A ++ (glue (x :: y :: q) ++ Z) = A ++ (x ++ [10]) ++ (glue (y :: q) ++ Z) := by
          rw [glue_cons, aft_glue (by simp)]; simp
        rw [e2]
        exact this
/-- Lines j to k, shifted. -/
def shiftR (R : List (List UInt8)) (j k : Nat) (lf : Bool) : List (List UInt8) := R.take j ++ (((R.drop j).take (k + 1 - j)).map (sh lf) ++ R.drop (k + 1))
def shiftT (s : List UInt8) (j k : Nat) (lf : Bool) : List UInt8 := glue (shiftR (parts s) j k lf)
/-- Shift. -/
def shift (s : List UInt8) (a b : Int) (l lf : Bool) : Ans :=
  if Span.right s a b l = true then (shiftT s (Span.lines s a b l).1.toNat (Span.lines s a b l).2.toNat lf, Line.first (shiftT s (Span.lines s a b l).1.toNat (Span.lines s a b l).2.toNat lf) (Span.lines s a b l).1, 0) else no 1
/-- A range's lines are lines. -/
theorem lines_in {s : List UInt8} {a b : Int} {l : Bool} (h : Span.right s a b l = true) : ∃ (j k : Nat) (x y : Nat × Nat), Span.lines s a b l = ((j : Int), (k : Int)) ∧ j ≤ k ∧ (L s)[j]? = some x ∧ (L s)[k]? = some y := by
  obtain ⟨hab, ha, hb⟩ := Span.right_to h
  obtain ⟨n, j, x, rfl, hx, h1, h2, h3, hj, _, _⟩ := Line.place_line ha
  obtain ⟨m, k, y, rfl, hy, h4, h5, h6, hk, _, _⟩ := Line.place_line hb
  have W := L_whole (L_valid hx)
  have hjk : j ≤ k := by
    rcases Nat.lt_or_ge k j with h | h
    · have := W.mono hy hx h; omega
    · exact h
  rw [Span.lines, if_pos h, hj, hk]
  split
  · rename_i hc
    simp only [Bool.and_eq_true, decide_eq_true_eq] at hc
    obtain ⟨_, hlt, hst⟩ := hc
    rw [Int.toNat_natCast] at hst
    have hm : m = y.1 := by
      rcases Nat.lt_or_ge y.1 m with h | h
      · have h7 := (W.each k y hy).2.2.2 (m - 1) (by omega) (by omega)
        simp only [Span.starts, Bool.or_eq_true, decide_eq_true_eq] at hst
        rcases hst with h8 | h8
        · omega
        · exact absurd h8 h7
      · omega
    have hjk2 : j < k := by
      rcases Nat.lt_or_ge j k with h | h
      · exact h
      · obtain rfl : j = k := by omega
        rw [hx] at hy
        injection hy with hy
        subst hy
        omega
    have hk1 : k - 1 < (L s).length := by have := (List.getElem?_eq_some_iff.1 hy).1; omega
    exact ⟨j, k - 1, x, _, by rw [Prod.mk.injEq]; exact ⟨rfl, by omega⟩, by omega, hx, List.getElem?_eq_getElem hk1⟩
  · exact ⟨j, k, x, y, rfl, hjk, hx, hy⟩
theorem lines_not {s : List UInt8} {a b : Int} {l : Bool} (h : Span.right s a b l = false) : Span.lines s a b l = (-1, -1) := by rw [Span.lines, if_neg (by rw [h]; decide)]
/-- What is made by the changes that shift lines. -/
theorem shift_made {s : List UInt8} {j k : Nat} {x y : Nat × Nat} (hjk : j ≤ k) (hx : (L s)[j]? = some x) (hy : (L s)[k]? = some y) (lf : Bool) :
    Btc.right s (chgs lf x.1 (((parts s).drop j).take (k + 1 - j))) = true ∧ Btc.made s (chgs lf x.1 (((parts s).drop j).take (k + 1 - j))) = shiftT s j k lf ∧ (seg s x.1 y.2) = glue (((parts s).drop j).take (k + 1 - j)) := by
  have hv := L_valid hx
  obtain ⟨A, B, C, h1, h2, h3, h4, h5, h6, h7⟩ := three hjk hx hy
  have hp := valid_part hv
  have eB : ((parts s).drop j).take (k + 1 - j) = B := by rw [h1, ← h3, List.drop_left, h3, ← h4, List.take_left]
  have eA : (parts s).take j = A := by rw [h1, ← h3, List.take_left]
  have eC : (parts s).drop (k + 1) = C := by
    have hkl : k + 1 = A.length + B.length := by
      have : 0 < B.length := List.length_pos_iff.2 h2
      omega
    rw [h1, hkl, ← List.drop_drop, List.drop_left, List.drop_left]
  have hA := valid_fore (R := A) fun z hz => hp z (by rw [h1]; simp [hz])
  have hB := fun z hz => hp z (by rw [h1]; exact List.mem_append_right _ (List.mem_append_left C hz))
  have hC := valid_aft (R := C) fun z hz => hp z (by rw [h1]; simp [hz])
  have hfit := chgs_fit (lf := lf) hA hB hC
  rw [← h5, ← h6] at hfit
  have hr : Btc.right s (chgs lf x.1 B) = true := by rw [Btc.right, chgs_apart, hfit]; rfl
  rw [eB]
  refine ⟨hr, ?_, ?_⟩
  · have hin : Btc.In s.length 0 (chgs lf x.1 B) := Btc.right_in hr (Nat.zero_le _) fun c hc => by
      have := (chgs_in c (List.mem_of_mem_head? (by rw [hc]; rfl))).1
      omega
    rw [Btc.made_parts hin, chgs_parts h2 (Nat.zero_le _) (drop_of h5 h6), shiftT, shiftR, eA, eB, eC, glue_mid (by simpa using h2), Nat.sub_zero, List.drop_zero, take_of h5 h6]
    rfl
  · rw [seg, take_of (A := fore A ++ glue B) (M := aft C) (by rw [List.append_assoc]; exact h5) (by rw [List.length_append]; exact h7), List.drop_left' h6.symm]
theorem shift_ok {s : List UInt8} {j k : Nat} (hv : valid s = true) (lf : Bool) : ∀ x ∈ shiftR (parts s) j k lf, valid x = true ∧ Free x := by
  have hp := valid_part hv
  have hf := parts_free s
  intro x hx
  rw [shiftR] at hx
  rcases List.mem_append.1 hx with h | h
  · have := List.mem_of_mem_take h; exact ⟨hp x this, hf x this⟩
  · rcases List.mem_append.1 h with h | h
    · obtain ⟨z, hz, rfl⟩ := List.mem_map.1 h
      have := List.mem_of_mem_drop (List.mem_of_mem_take hz)
      exact sh_ok ⟨hp z this, hf z this⟩
    · have := List.mem_of_mem_drop h; exact ⟨hp x this, hf x this⟩

/-- Which letters a letter makes others. -/
def letters (how : Int) : Option (Nat → Bool) := if how = 85 then some Class.small else if how = 117 then some Class.capital else if how = 126 then some Class.letter else none
/-- Case. -/
def caseT (s : List UInt8) (a b : Int) (f : Nat → Bool) : List UInt8 := put s a b (Class.turn f ((s.take b.toNat).drop a.toNat))
def case_ (s : List UInt8) (a b : Int) (l : Bool) (how : Int) : Ans :=
  match letters how with
  | none => no 1
  | some f => if fault s a b l = 0 then (caseT s a b f, clamp (caseT s a b f) a, 0) else no (fault s a b l)

/-- Is a byte a blank or a tab? -/
def blank (b : UInt8) : Bool := decide (b = 32) || decide (b = 9)
/-- A line without what leads. -/
def trim (b : List UInt8) : List UInt8 := b.drop (Class.lead b)
/-- What stands between two lines that are one. -/
def gap (a b : List UInt8) : List UInt8 := if a ≠ [] ∧ trim b ≠ [] ∧ (a.getLast?.map blank) = some false then [32] else []
def two (a b : List UInt8) : List UInt8 := a ++ (gap a b ++ trim b)
/-- Lines as one, and where the last of them was put. -/
def joined (a : List UInt8) (r : List (List UInt8)) : List UInt8 := r.foldl two a
def joinAt (a : List UInt8) (r : List (List UInt8)) : Nat := (r.dropLast.foldl two a).length
theorem joined_snoc (a : List UInt8) (r : List (List UInt8)) (x : List UInt8) : joined a (r ++ [x]) = two (joined a r) x := by simp [joined]
theorem joinAt_snoc (a : List UInt8) (r : List (List UInt8)) (x : List UInt8) : joinAt a (r ++ [x]) = (joined a r).length := by simp [joinAt, joined]
theorem two_ok {a b : List UInt8} (ha : valid a = true ∧ Free a) (hb : valid b = true ∧ Free b) : valid (two a b) = true ∧ Free (two a b) := by
  have hl : ∀ x : List UInt8, ∀ c ∈ x.take (Class.lead x), c = 32 ∨ c = 9 := fun x => by
    induction x with
    | nil => intro c hc; simp at hc
    | cons d t ih =>
      intro c hc
      rw [Class.lead] at hc
      split at hc
      · rename_i h
        rw [List.take_succ_cons] at hc
        rcases List.mem_cons.1 hc with h1 | h1
        · subst h1
          unfold Class.plain at h
          split at h
          · omega
          · split at h
            · rename_i h2
              rcases h2 with h2 | h2
              · left; exact UInt8.toNat_inj.1 h2
              · right; exact UInt8.toNat_inj.1 h2
            · split at h <;> omega
        · exact ih c h1
      · simp at hc
  have ht : valid (trim b) = true := by
    have := valid_run (a := b.take (Class.lead b)) (trim b) (fun c hc => blank_low (hl b c hc))
    rw [trim, List.take_append_drop] at this
    rw [trim, ← this]; exact hb.1
  constructor
  · rw [two, valid_all _ ha.1]
    unfold gap
    split
    · rw [List.singleton_append, valid_ascii _ (by decide)]; exact ht
    · exact ht
  · intro hm
    rcases List.mem_append.1 hm with h | h
    · exact ha.2 h
    · rcases List.mem_append.1 h with h | h
      · unfold gap at h
        split at h
        · simp at h
        · cases h
      · exact hb.2 (List.mem_of_mem_drop h)
theorem joined_ok {a : List UInt8} {r : List (List UInt8)} (ha : valid a = true ∧ Free a) (hr : ∀ b ∈ r, valid b = true ∧ Free b) : valid (joined a r) = true ∧ Free (joined a r) := by
  induction r generalizing a with
  | nil => exact ha
  | cons b r ih => exact ih (two_ok ha (hr b (by simp))) fun c hc => hr c (by simp [hc])
theorem two_length (a b : List UInt8) : (two a b).length ≤ a.length + b.length + 1 := by
  have : (trim b).length ≤ b.length := by rw [trim, List.length_drop]; omega
  rw [two, List.length_append, List.length_append]
  unfold gap
  split
  · simp; omega
  · simp; omega
/-- How many lines are joined. -/
def many (c : Nat) (k : Nat) (n : Int) : Nat := (min (max n 2) ((c : Int) - k)).toNat
/-- Line k and the lines behind it, n of them, as one. -/
def joinR (R : List (List UInt8)) (k m : Nat) : List (List UInt8) := R.take k ++ (joined (R.getD k []) ((R.drop (k + 1)).take (m - 1)) :: R.drop (k + m))
def joinT (s : List UInt8) (k m : Nat) : List UInt8 := glue (joinR (parts s) k m)
def joinP (s : List UInt8) (k m : Nat) : Nat := (fore ((parts s).take k)).length + joinAt ((parts s).getD k []) (((parts s).drop (k + 1)).take (m - 1))
/-- Join. -/
def join (s : List UInt8) (k n : Int) : Ans :=
  if k < 0 ∨ ((L s).length : Int) ≤ k then no 1 else if k = (L s).length - 1 then no 10
  else (joinT s k.toNat (many (L s).length k.toNat n), clamp (joinT s k.toNat (many (L s).length k.toNat n)) (joinP s k.toNat (many (L s).length k.toNat n) : Nat), 0)
theorem joined_length (a : List UInt8) (r : List (List UInt8)) : (joined a r).length ≤ a.length + (fore r).length := by
  induction r generalizing a with
  | nil => exact Nat.le_add_right _ _
  | cons b r ih =>
    have h1 := ih (two a b)
    have h2 := two_length a b
    rw [fore_cons, List.length_append, List.length_cons]
    show (joined (two a b) r).length ≤ _
    omega
theorem two_gap (a b : List UInt8) : two a b = (a ++ gap a b) ++ trim b := by rw [two, List.append_assoc]
theorem gap_none {a b : List UInt8} (h : trim b = [] ∨ a = [] ∨ ∃ c, a.getLast? = some c ∧ blank c = true) : gap a b = [] := by
  rw [gap, if_neg]
  rintro ⟨h1, h2, h3⟩
  rcases h with h | h | ⟨c, h, h4⟩
  · exact h2 h
  · exact h1 h
  · rw [h] at h3; simp [h4] at h3
theorem gap_some {a b : List UInt8} {c : UInt8} (h : trim b ≠ []) (h1 : a.getLast? = some c) (h2 : blank c = false) : gap a b = [32] := by
  rw [gap, if_pos ⟨by rintro rfl; simp at h1, h, by rw [h1]; simp [h2]⟩]
end Opr
theorem byte_test (b c : UInt8) : ((b.toNat : Int) == (c.toNat : Int)) = decide (b = c) := by
  rw [Bool.eq_iff_iff, beq_iff_eq, decide_eq_true_iff]
  refine ⟨fun h => UInt8.toNat_inj.1 (by omega), fun h => by rw [h]⟩
theorem blank_test (b : UInt8) : ((b.toNat : Int) == 32) = decide (b = 32) := byte_test b 32
theorem tab_byte (b : UInt8) : ((b.toNat : Int) == 9) = decide (b = 9) := byte_test b 9
end Go.Proofs.YtfhljddakhigdaaGreatDoor
/-
  A row of bytes that a call has made of a text, and appended to: '[]byte(s)', 'append(l, s...)', 'append(l, c)', 'string(l)'.
-/
namespace Go.Proofs.YtfhljddakhigdaaGreatDoor
open Go.RowKit
/-- The slice v holds the bytes l, in a row of the call's own (its block lies from B on), of which no cell is frozen. -/
def Row8 (w : World) (B : Nat) (v : Value) (l : List UInt8) : Prop := ∃ (g cap : Nat) (cur : Array Value) (fz : Nat × Nat), v = .slice (some ⟨g, 0, none⟩) l.length cap ∧ B ≤ g ∧ w.heap[g]? = some (.cells cur 5 fz) ∧ (fz.2 = 0 ∨ cap ≤ fz.1) ∧ l.length ≤ cap ∧ cap ≤ maxLen ∧ cap ≤ cur.size ∧ ∀ (i : Nat) (b : UInt8), l[i]? = some b → cur[i]? = some (.int .u8 (b.toNat : Int))
/-- Cells of a block set one by one. -/
theorem setCells_row {g : Nat} {t : TypeId} {fz : Nat × Nat} : ∀ (vs : List Value) (o : Nat) (w : World) (cur : Array Value), w.heap[g]? = some (.cells cur t fz) →
    w.grownBy (w.setCells g o vs) (some g) ∧ ∃ cur', (w.setCells g o vs).heap[g]? = some (.cells cur' t fz) ∧ cur'.size = cur.size ∧ (∀ j, j < o → cur'[j]? = cur[j]?) ∧ (o + vs.length ≤ cur.size → ∀ (j : Nat) u, vs[j]? = some u → cur'[o + j]? = some u)
  | [], o, w, cur, h => ⟨⟨rfl, rfl, rfl, Nat.le_refl _, fun _ _ _ => rfl⟩, cur, h, rfl, fun _ _ => rfl, fun _ j u hj => by simp at hj⟩
  | v :: r, o, w, cur, h => by
    have h1 : (w.setCell ⟨g, o, none⟩ v).heap[g]? = some (.cells (cur.setIfInBounds o v) t fz) := by simp [World.setCell, Array.getElem?_modify, h]
    obtain ⟨hg, cur', h2, h3, h4, h5⟩ := setCells_row r (o + 1) (w.setCell ⟨g, o, none⟩ v) (cur.setIfInBounds o v) h1
    refine ⟨gb_trans (gb_set w g o v) hg, cur', h2, by simpa using h3, fun j hj => ?_, fun hl j u hj => ?_⟩
    · rw [h4 j (by omega), Array.getElem?_setIfInBounds, if_neg (by omega)]
    · simp only [List.length_cons] at hl
      cases j with
      | zero =>
        simp only [List.getElem?_cons_zero, Option.some.injEq] at hj
        subst hj
        rw [Nat.add_zero, h4 o (by omega), Array.getElem?_setIfInBounds, if_pos rfl, if_pos (by omega)]
      | succ j =>
        rw [List.getElem?_cons_succ] at hj
        rw [show o + (j + 1) = o + 1 + j by omega]
        exact h5 (by simp; omega) j u hj
section
variable {w w' : World} {B : Nat} {v : Value} {l : List UInt8}
theorem Row8.form (h : Row8 w B v l) : ∃ g cap, v = .slice (some ⟨g, 0, none⟩) l.length cap ∧ B ≤ g ∧ v.ownBlock = some g := by
  obtain ⟨g, cap, cur, fz, rfl, hB, _⟩ := h
  exact ⟨g, cap, rfl, hB, by simp [Value.ownBlock]⟩
theorem Row8.cell (h : Row8 w B v l) {g : Nat} (hv : v.ownBlock = some g) {i : Nat} {b : UInt8} (hb : l[i]? = some b) : w.cell? ⟨g, i, none⟩ = some (.int .u8 (b.toNat : Int)) := by
  obtain ⟨g', cap, cur, fz, rfl, _, hg, _, _, _, _, hc⟩ := h
  obtain rfl : g' = g := by simpa [Value.ownBlock] using hv
  rw [cell_of_row w g' i cur _ _ hg]
  exact hc i b hb
theorem Row8.kept (h : Row8 w B v l) {row : Option Nat} (hg : w.grownBy w' row) (hr : v.ownBlock ≠ row) : Row8 w' B v l := by
  obtain ⟨g, cap, cur, fz, rfl, hB, hh, rest⟩ := h
  refine ⟨g, cap, cur, fz, rfl, hB, ?_, rest⟩
  rw [hg.block g (Array.getElem?_eq_some_iff.1 hh).1 (by simpa [Value.ownBlock] using hr)]
  exact hh
theorem Row8.alloc (h : Row8 w B v l) (o : Obj) : Row8 (w.alloc o) B v l := h.kept (gb_below none ((Below.refl _ w).alloc (Nat.le_refl _) o)) (by obtain ⟨g, _, _, _, e⟩ := h.form; rw [e]; simp)
theorem Row8.drew (h : Row8 w B v l) : Row8 w.drew B v l := h
theorem Row8.lt (h : Row8 w B v l) {g : Nat} (hv : v.ownBlock = some g) : B ≤ g ∧ g < w.heap.size := by
  obtain ⟨g', cap, cur, fz, rfl, hB, hh, _⟩ := h
  obtain rfl : g' = g := by simpa [Value.ownBlock] using hv
  exact ⟨hB, (Array.getElem?_eq_some_iff.1 hh).1⟩
/-- Another block, of another type, is another one. -/
theorem Row8.ne_ (h : Row8 w B v l) {g : Nat} {t : TypeId} {cs : Array Value} (hb : Blk w g t cs) (ht : 5 ≠ t) : v.ownBlock ≠ some g := by
  obtain ⟨g', cap, cur, fz, rfl, _, hh, _⟩ := h
  intro e
  obtain rfl : g' = g := by simpa [Value.ownBlock] using e
  unfold Blk at hb
  rw [hb] at hh
  injection hh with hh
  injection hh with _ h2
  exact ht h2.symm
/-- '[]byte(s)'. -/
theorem Row8.made (w : World) (s : ByteArray) (hs : s.size ≤ maxLen) : Row8 (w.alloc (.cells (bytesRow s (grownCap w s.size 0 5)) 5 ((bytesRow s (grownCap w s.size 0 5)).size, (bytesRow s (grownCap w s.size 0 5)).size + 1))).drew w.heap.size (.slice (some ⟨w.heap.size, 0, none⟩) s.size (grownCap w s.size 0 5)) s.data.toList := by
  have hge := grownCap_ge w s.size 0 5
  have hle := grownCap_le_maxLen w s.size 0 5 hs
  have hsz : (bytesRow s (grownCap w s.size 0 5)).size = grownCap w s.size 0 5 := by
    unfold bytesRow
    rw [Array.size_append, Array.size_map, Array.size_replicate]
    have : s.data.size = s.size := rfl
    omega
  have hl := data_len s
  refine ⟨w.heap.size, _, _, _, by rw [hl], Nat.le_refl _, heap_alloc_new w _, .inr (by omega), by omega, hle, by omega, fun i b hb => ?_⟩
  have hi : i < s.data.size := by
    rcases Nat.lt_or_ge i s.data.size with h | h
    · exact h
    · rw [List.getElem?_eq_none (by simpa using h)] at hb; cases hb
  rw [bytesRow_at s _ i hi]
  rw [Array.getElem?_toList, Array.getElem?_eq_getElem hi] at hb
  injection hb with hb
  rw [hb]
/-- 'string(l)'. -/
theorem Row8.text (h : Row8 w B v l) : (convert 59 9 v).run Tryz.prog w = .ok (.string (bs l)) w := by
  obtain ⟨g, cap, e, _, e2⟩ := h.form
  have hc := fun (i : Nat) (b : UInt8) (hb : l[i]? = some b) => h.cell e2 hb
  subst e
  exact run_convert_bytes_back (P := Tryz.prog) w 59 9 5 ⟨g, 0, none⟩ cap l Tryz.underlying59 Tryz.underlying5 Tryz.underlying9 (fun j hj => by
    have e : (⟨g, 0, none⟩ : Addr).add j = ⟨g, j, none⟩ := by unfold Addr.add; split <;> simp_all
    rw [e]
    exact hc j _ (List.getElem?_eq_getElem hj))
/-- Where there is room the new cells are stored behind the others. -/
theorem Row8.room {g cap : Nat} {cur : Array Value} {fz : Nat × Nat} (hg : w.heap[g]? = some (.cells cur 5 fz)) (hf : fz.2 = 0 ∨ cap ≤ fz.1) (hcs : cap ≤ cur.size) (hcm : cap ≤ maxLen) (hB : B ≤ g) (hc : ∀ (i : Nat) (b : UInt8), l[i]? = some b → cur[i]? = some (.int .u8 (b.toNat : Int)))
    (m : List UInt8) (hr : l.length + m.length ≤ cap) : (storeCells ⟨g, l.length, none⟩ (Lib.byteCells m) 0).run Tryz.prog w = .ok () (w.setCells g l.length (Lib.byteCells m)) ∧ Row8 (w.setCells g l.length (Lib.byteCells m)) B (.slice (some ⟨g, 0, none⟩) (l.length + m.length) cap) (l ++ m) ∧ w.grownBy (w.setCells g l.length (Lib.byteCells m)) (some g) := by
  have hml := Lib.byteCells_length m
  have hone : ∀ u ∈ Lib.byteCells m, u.oneCell' = true := fun u hu => by
    simp only [Lib.byteCells, List.mem_map] at hu
    obtain ⟨b, _, rfl⟩ := hu
    rfl
  have hst := run_storeCells_cells (P := Tryz.prog) g l.length (Lib.byteCells m) 0 w (fun j hj => by rw [cell_of_row w g _ cur _ _ hg, Array.getElem?_eq_getElem (by omega)]; rfl)
    (fun j hj => by simp only [World.frozen?, hg]; simp; omega) hone
  rw [Nat.add_zero] at hst
  obtain ⟨h1, cur', h2, h3, h4, h5⟩ := setCells_row (Lib.byteCells m) l.length w cur hg
  refine ⟨hst, ⟨g, cap, cur', fz, by rw [List.length_append], hB, h2, hf, by rw [List.length_append]; exact hr, hcm, by omega, fun i b hb => ?_⟩, h1⟩
  rcases Nat.lt_or_ge i l.length with hi | hi
  · rw [List.getElem?_append_left hi] at hb
    rw [h4 i hi]
    exact hc i b hb
  · rw [List.getElem?_append_right hi] at hb
    have := h5 (by omega) (i - l.length) (.int .u8 (b.toNat : Int)) (by rw [Lib.byteCells, List.getElem?_map, hb]; rfl)
    rwa [show l.length + (i - l.length) = i by omega] at this
/-- Where there is none, a new row. -/
theorem Row8.grow {n cap : Nat} {m : List UInt8} {C : Array Value} (hB : B ≤ w.heap.size) (hn : n = (l ++ m).length) (hcap : n ≤ cap) (hcm : cap ≤ maxLen) (hC : C = (Lib.byteCells l).toArray ++ (Lib.byteCells m).toArray ++ Builtin.zeroCells #[Value.int .u8 0] (cap - n)) :
    Row8 (w.drew.alloc (.cells C 5)) B (.slice (some ⟨w.heap.size, 0, none⟩) n cap) (l ++ m) := by
  have hcells : C.toList = Lib.byteCells (l ++ m) ++ (Builtin.zeroCells #[Value.int .u8 0] (cap - n)).toList := by rw [hC, Lib.byteCells_append]; simp
  refine ⟨w.heap.size, cap, C, (0, 0), by rw [hn], hB, heap_alloc_new w.drew _, .inl rfl, by omega, hcm, ?_, fun i b hb => ?_⟩
  · have := congrArg List.length hcells
    simp only [Array.length_toList, List.length_append, Lib.byteCells_length, size_zeroCells] at this
    have h1 : (#[Value.int .u8 0] : Array Value).size = 1 := rfl
    rw [h1] at this
    rw [List.length_append] at hn
    omega
  · have hi := (List.getElem?_eq_some_iff.1 hb).1
    rw [← Array.getElem?_toList, hcells, List.getElem?_append_left (by rw [Lib.byteCells_length]; exact hi), Lib.byteCells, List.getElem?_map, hb]
    rfl
end
theorem info_u8 : (Tryz.prog.info? 5).map (fun i => (i.zero, i.size, i.bytes)) = some (some (.int .u8 0), 1, 1) := by kernel_rfl
set_option maxRecDepth 100000 in
/-- 'append(l, s...)'. -/
theorem run_append_text {w : World} {B : Nat} {v : Value} {l : List UInt8} (ty : TypeId) (h : Row8 w B v l) (s : ByteArray) (hl : l.length + s.size ≤ 1000000000000) (hB : B ≤ w.heap.size) :
    ∃ v' w', (Builtin.append_ #[59, 9] ty #[v, .string s]).run Tryz.prog w = .ok v' w' ∧ Row8 w' B v' (l ++ s.data.toList) ∧ w.grownBy w' v.ownBlock := by
  obtain ⟨g, cap, cur, fz, rfl, hBg, hg, hf, hlc, hcm, hcs, hc⟩ := h
  obtain ⟨i0, hi, hz0, hz1, hz2⟩ := info_parts info_u8
  have hsl := data_len s
  by_cases hroom : l.length + s.size ≤ cap
  · obtain ⟨h1, h2, h3⟩ := Row8.room (B := B) hg hf hcs hcm hBg hc s.data.toList (by omega)
    rw [hsl] at h2
    refine ⟨_, _, ?_, h2, by simpa [Value.ownBlock] using h3⟩
    have hfc := Lib.run_firstCells_string (P := Tryz.prog) w 1 s
    rw [show Lib.byteCells s.data.toList = Lib.strCells s from rfl] at h1
    simp [Builtin.append_, run_underlying Tryz.underlying59, run_underlying Tryz.underlying9, sizeOf, typeInfo, hi, hz1, Builtin.lenOf, hroom, hfc, Addr.add_lit, h1]
    rfl
  · have hr := Lib.run_append_grow_string (P := Tryz.prog) w 59 9 ty 5 i0 (.int .u8 0) Tryz.underlying59 Tryz.underlying9 hi hz0 ⟨g, 0, none⟩ l.length cap (Lib.byteCells l) (by rw [hz1, Lib.byteCells_length, Nat.mul_one]) (fun j u hj => by
      have e : (⟨g, 0, none⟩ : Addr).add j = ⟨g, j, none⟩ := by unfold Addr.add; split <;> simp_all
      rw [Lib.byteCells, List.getElem?_map] at hj
      cases hb : l[j]? with
      | none => rw [hb] at hj; cases hj
      | some b =>
        rw [hb] at hj
        injection hj with hj
        rw [e, cell_of_row w g j cur _ _ hg, hc j b hb, ← hj]) s (by omega) (by omega) (by rw [hz2]; exact growslice_fits (by omega) (by omega))
    have hge := grownCap_ge w (l.length + s.size) cap 5
    have hle := grownCap_le_maxLen w (l.length + s.size) cap 5 (by unfold maxLen; omega)
    refine ⟨_, _, hr, Row8.grow hB (by rw [List.length_append, hsl]) hge hle rfl, ⟨rfl, rfl, rfl, by simp, fun _ hk _ => heap_alloc_old w.drew _ hk⟩⟩
set_option maxRecDepth 100000 in
/-- 'append(l, c)': the byte lies in a block that has just been laid. -/
theorem run_append_byte {w : World} {B : Nat} {v : Value} {l : List UInt8} (ty : TypeId) (h : Row8 w B v l) (b : UInt8) {k : Nat} (hk : Blk w k 5 #[.int .u8 (b.toNat : Int)]) (hl : l.length + 1 ≤ 1000000000000) (hB : B ≤ w.heap.size) :
    ∃ v' w', (Builtin.append_ #[59, 59] ty #[v, .slice (some ⟨k, 0, none⟩) 1 1]).run Tryz.prog w = .ok v' w' ∧ Row8 w' B v' (l ++ [b]) ∧ w.grownBy w' v.ownBlock := by
  obtain ⟨g, cap, cur, fz, rfl, hBg, hg, hf, hlc, hcm, hcs, hc⟩ := h
  obtain ⟨i0, hi, hz0, hz1, hz2⟩ := info_parts info_u8
  have hnews : ∀ (j : Nat) u, (Lib.byteCells [b])[j]? = some u → w.cell? ((⟨k, 0, none⟩ : Addr).add j) = some u := fun j u hj => by
    have e : (⟨k, 0, none⟩ : Addr).add j = ⟨k, j, none⟩ := by unfold Addr.add; split <;> simp_all
    rw [e, hk.cell]
    match j, hj with
    | 0, hj => simpa [Lib.byteCells] using hj
  by_cases hroom : l.length + 1 ≤ cap
  · obtain ⟨h1, h2, h3⟩ := Row8.room (B := B) hg hf hcs hcm hBg hc [b] hroom
    refine ⟨_, _, ?_, h2, by simpa [Value.ownBlock] using h3⟩
    have hfc := run_firstCells_some (P := Tryz.prog) w 1 1 ⟨k, 0, none⟩ 1 1 (Lib.byteCells [b]) rfl hnews
    simp [Builtin.append_, run_underlying Tryz.underlying59, sizeOf, typeInfo, hi, hz1, Builtin.lenOf, hroom, hfc, Addr.add_lit, h1]
  · have hr := run_append_grow (P := Tryz.prog) w 59 ty 5 i0 (.int .u8 0) Tryz.underlying59 hi hz0 ⟨g, 0, none⟩ l.length cap (Lib.byteCells l) (by rw [hz1, Lib.byteCells_length, Nat.mul_one]) (fun j u hj => by
      have e : (⟨g, 0, none⟩ : Addr).add j = ⟨g, j, none⟩ := by unfold Addr.add; split <;> simp_all
      rw [Lib.byteCells, List.getElem?_map] at hj
      cases hb : l[j]? with
      | none => rw [hb] at hj; cases hj
      | some b =>
        rw [hb] at hj
        injection hj with hj
        rw [e, cell_of_row w g j cur _ _ hg, hc j b hb, ← hj]) ⟨k, 0, none⟩ 1 1 (Lib.byteCells [b]) (by rw [hz1]; rfl) hnews (by omega) (by omega) (by rw [hz2]; exact growslice_fits (by omega) (by omega))
    have hge := grownCap_ge w (l.length + 1) cap 5
    have hle := grownCap_le_maxLen w (l.length + 1) cap 5 (by unfold maxLen; omega)
    refine ⟨_, _, hr, Row8.grow hB (by simp) hge hle rfl, ⟨rfl, rfl, rfl, by simp, fun _ hk _ => heap_alloc_old w.drew _ hk⟩⟩
section
variable {ops : Array Oper} {rest : List Oper} {o : Oper} {a : Act} {Q : Exit → Act → World → Prop} {w : World} {B : Nat} {v : Value} {l : List UInt8}
theorem step_append_text (hgd : o.guard = none) (sl x : Operand) (ho : o.op = .call { callee := .builtin .append, args := #[sl, x], argTypes := #[59, 9] }) (hs : a.eval sl = v) (h : Row8 w B v l) (s : ByteArray) (hx : a.eval x = .string s)
    (hl : l.length + s.size ≤ 1000000000000) (hB : B ≤ w.heap.size) (hn : ∀ v' w', Row8 w' B v' (l ++ s.data.toList) → w.grownBy w' v.ownBlock → wpList Tryz.prog ops Q rest (a.put o.dst v') w') : wpList Tryz.prog ops Q (o :: rest) a w := by
  refine wpList_plain hgd fun K hK => ?_
  obtain ⟨v', w', hr, h2, h3⟩ := run_append_text o.type h s hl hB
  unfold Oper.wp execOp
  simp only [ho, resolve, invoke, builtin, Sem.run_bind, Sem.run_pure, Result.andThen_ok, List.map_toArray, List.map_cons, List.map_nil, hs, hx, hr]
  exact hK _ _ (hn v' w' h2 h3)
theorem step_append_byte (hgd : o.guard = none) (sl x : Operand) (ho : o.op = .call { callee := .builtin .append, args := #[sl, x], argTypes := #[59, 59] }) (hs : a.eval sl = v) (h : Row8 w B v l) (b : UInt8) {k : Nat} (hk : Blk w k 5 #[.int .u8 (b.toNat : Int)]) (hx : a.eval x = .slice (some ⟨k, 0, none⟩) 1 1)
    (hl : l.length + 1 ≤ 1000000000000) (hB : B ≤ w.heap.size) (hn : ∀ v' w', Row8 w' B v' (l ++ [b]) → w.grownBy w' v.ownBlock → wpList Tryz.prog ops Q rest (a.put o.dst v') w') : wpList Tryz.prog ops Q (o :: rest) a w := by
  refine wpList_plain hgd fun K hK => ?_
  obtain ⟨v', w', hr, h2, h3⟩ := run_append_byte o.type h b hk hl hB
  unfold Oper.wp execOp
  simp only [ho, resolve, invoke, builtin, Sem.run_bind, Sem.run_pure, Result.andThen_ok, List.map_toArray, List.map_cons, List.map_nil, hs, hx, hr]
  exact hK _ _ (hn v' w' h2 h3)
end
end Go.Proofs.YtfhljddakhigdaaGreatDoor
/-
  Package oper: lines as one.
-/
namespace Go.Proofs.YtfhljddakhigdaaGreatDoor
open Go.RowKit
open Opr Gl
theorem oper_blank (b : UInt8) (w : World) : Calls Tryz.prog 63 #[.int .u8 (b.toNat : Int)] w fun e w' => e = .returned (.bool (Opr.blank b)) ∧ w = w' := by
  have g1 := blank_test b
  have g2 := tab_byte b
  have H : Hid (Opr.blank b = (decide (b = 32) || decide (b = 9))) := rfl
  generalize decide (b = 32) = x at *
  generalize decide (b = 9) = y at *
  cases x
  · go_enter Tryz.func63, Tryz.ntmps63
    go_wp2
    go_ret
    exact ⟨by rw [H.out]; rfl, rfl⟩
  · go_enter Tryz.func63, Tryz.ntmps63
    go_wp2
    go_ret
    exact ⟨by rw [H.out]; rfl, rfl⟩
theorem lead_le (X : List UInt8) : Class.lead X ≤ X.length := by
  induction X with
  | nil => exact Nat.le_refl _
  | cons b t ih => rw [Class.lead, List.length_cons]; split <;> omega
theorem joinAt_step {a : List UInt8} {R : List (List UInt8)} {k : Nat} {X : List UInt8} (h : R[k]? = some X) : joinAt a (R.take (k + 1)) = (joined a (R.take k)).length ∧ joined a (R.take (k + 1)) = two (joined a (R.take k)) X := by
  have e : R.take (k + 1) = R.take k ++ [X] := by rw [List.take_add_one, h]; rfl
  rw [e, joinAt_snoc, joined_snoc]
  exact ⟨rfl, rfl⟩
set_option maxHeartbeats 4000000 in
set_option maxRecDepth 100000 in
theorem oper_join (a : List UInt8) (R : List (List UInt8)) {A : Option Addr} {c : Nat} {w : World} (hx : Strs w A (R.map bs)) (hl : a.length + (fore R).length ≤ 1000000) (hm : R.length ≤ 1000000) :
    Calls Tryz.prog 32 #[.string (bs a), .slice A R.length c] w fun e w' => e = .returned (.tuple #[.string (bs (joined a R)), .int .i64 (joinAt a R : Nat)]) ∧ Below w.heap.size w w' := by
  have hsz := bs_size a
  have hcv := fun w => run_bytes_of_string (P := Tryz.prog) w 9 59 5 (bs a) Tryz.underlying9 Tryz.underlying59 Tryz.underlying5
  have HM0 := Row8.made w (bs a) (by rw [hsz]; unfold maxLen; omega)
  have hW : Below w.heap.size w (w.alloc (.cells (bytesRow (bs a) (grownCap w (bs a).size 0 5)) 5 ((bytesRow (bs a) (grownCap w (bs a).size 0 5)).size, (bytesRow (bs a) (grownCap w (bs a).size 0 5)).size + 1))).drew := ((Below.refl _ _).alloc (Nat.le_refl _) _).drew
  clear hsz
  go_enter Tryz.func32, Tryz.ntmps32
  go_wp2
  clear hcv
  generalize (w.alloc (.cells (bytesRow (bs a) (grownCap w (bs a).size 0 5)) 5 ((bytesRow (bs a) (grownCap w (bs a).size 0 5)).size, (bytesRow (bs a) (grownCap w (bs a).size 0 5)).size + 1))).drew = wo at *
  generalize grownCap w (bs a).size 0 5 = cap at *
  rw [bs_toList, bs_size] at HM0
  simp only [bs_size]
  have HX := Lib.hid hx
  have HF := Lib.hid (fun n => fore_most (R := R) n)
  obtain ⟨n0, hn0⟩ : ∃ n0, a.length = n0 := ⟨_, rfl⟩
  rw [hn0] at HM0 hl
  have HN0 := Lib.hid hn0
  have HL := Lib.hid (fun r => by have := joined_length a r; rw [hn0] at this; exact this)
  have HM1 := Lib.hid HM0
  simp only [hn0]
  clear hx HM0 hn0
  go_loopw [6, 7, 16] (fun ov av iv wr => ∃ (k t g cap n : Nat), ov = .slice (some ⟨g, 0, none⟩) n cap ∧ av = .int .i64 t ∧ iv = .int .i64 k ∧ k ≤ R.length ∧ Hid (t = joinAt a (R.take k)) ∧ Hid ((joined a (R.take k)).length = n) ∧ n ≤ 1000000 ∧ Hid (Row8 wr w.heap.size (.slice (some ⟨g, 0, none⟩) n cap) (joined a (R.take k))) ∧ Below w.heap.size w wr) (fun _ _ iv _ => R.length - (intOf iv).toNat)
  case atStart => exact ⟨0, n0, _, _, n0, rfl, rfl, rfl, Nat.zero_le _, HN0.out.symm, HN0.out, by omega, HM1.out, hW⟩
  case round =>
    clear hW HM1 HN0
    obtain ⟨k, t, g, cap, n, rfl, rfl, rfl, hkR, hta, HJ, hnb0, HR0, hW⟩ := hrel
    have HR := HR0.out
    have hJl := HJ.out
    clear HR0 HJ
    by_cases hlt : k < R.length
    · obtain ⟨X, hX⟩ : ∃ X, R[k]? = some X := ⟨_, List.getElem?_eq_getElem hlt⟩
      obtain ⟨hat0, hj2⟩ := joinAt_step (a := a) hX
      have hat : Hid (n = joinAt a (R.take (k + 1))) := by show _ = _; rw [hat0, hJl]
      have hfn := fore_next hX
      have hfm := HF.out (k + 1)
      have hjl1 := HL.out (R.take (k + 1))
      have hjl0 := HL.out (R.take k)
      have hnb : (joined a (R.take (k + 1))).length ≤ 1000000 := by omega
      have hXl : X.length ≤ 1000000 := by omega
      obtain ⟨ad, rfl, hc1⟩ := (HX.out.below hW).at_ (k := k) (by rw [List.length_map]; exact hlt)
      rw [List.getElem_map, show R[k] = X from by have := List.getElem?_eq_getElem hlt; rw [hX] at this; injection this with this; exact this.symm] at hc1
      have L0 := fun w => class_Lead (bs X) (by rw [bs_size]; omega) w
      rw [bs_toList] at L0
      have L1 := Lib.hid L0
      have e1 := extract_from (bs X) (Class.lead X)
      rw [bs_toList] at e1
      have hlead := lead_le X
      have i1 : (Class.lead X : Int) ≤ ((bs X).size : Int) := by rw [bs_size]; omega
      change (bs X).extract (Class.lead X) (bs X).size = bs (trim X) at e1
      have hTl : (trim X).length ≤ X.length := by rw [trim, List.length_drop]; omega
      have hkR2 : (k : Int) < (R.length : Int) := by omega
      have hTs : (bs (trim X)).size ≤ 1000000 := by rw [bs_size]; omega
      have g7 := bs_isEmpty (trim X)
      have hnx : joined a (R.take (k + 1)) = (joined a (R.take k) ++ gap (joined a (R.take k)) X) ++ trim X := by rw [hj2, two_gap]
      have HRl := Lib.hid HR
      clear hat0 hj2 hfn hfm hjl1 hjl0 hX HX HL HF hta L0 hlead hTl hXl HRl
      generalize hT : trim X = T at *
      generalize hJ : joined a (R.take k) = J at *
      by_cases hT0 : T = []
      · have hnext : Hid (J ++ T = joined a (R.take (k + 1))) := by show _ = _; rw [hnx, gap_none (.inl (by rw [hT, hT0])), List.append_nil]
        have g8 : (bs T).toList.isEmpty = true := by rw [g7, hT0]; rfl
        clear g7 hnx hT0 hT hJ
        go_wp2_with (first
          | (go_at_call 62; (with_reducible refine (L1.out _).mono ?_); rintro e u ⟨rfl, rfl⟩)
          | (at_builtin; refine step_append_text rfl _ _ rfl rfl HR (bs T) rfl (by omega) hW.size ?_; intro v3 w3 HR3 hgr3))
        obtain ⟨g3, cap3, hv3, hg3, ho3⟩ := HR3.form
        have hW3 := hW.grown hgr3 hW.size (fun j hj => (HR.lt hj).1)
        rw [bs_toList, hnext.out] at HR3
        rw [bs_toList, hnext.out] at hv3
        obtain ⟨n3, hn3⟩ : ∃ n3, (joined a (R.take (k + 1))).length = n3 := ⟨_, rfl⟩
        rw [hn3] at hv3 hnb
        subst hv3
        have HN3 := Lib.hid hn3
        have HR4 := Lib.hid HR3
        clear HR3 hgr3 hn3
        go_wp2
        go_roundw
        case rel => exact ⟨k + 1, n, g3, cap3, n3, rfl, by go_num, by go_num, by omega, hat, HN3, hnb, HR4, hW3⟩
        case measure => simp [intOf]; omega
      · have g8 : (bs T).toList.isEmpty = false := by rw [g7]; cases T with | nil => exact absurd rfl hT0 | cons _ _ => rfl
        cases n with
        | zero =>
          have hnext : Hid (J ++ T = joined a (R.take (k + 1))) := by show _ = _; rw [hnx, gap_none (.inr (.inl (List.length_eq_zero_iff.1 hJl))), List.append_nil]
          clear g7 hnx hT0 hT hJ
          go_wp2_with (first
            | (go_at_call 62; (with_reducible refine (L1.out _).mono ?_); rintro e u ⟨rfl, rfl⟩)
            | (at_builtin; refine step_append_text rfl _ _ rfl rfl HR (bs T) rfl (by omega) hW.size ?_; intro v3 w3 HR3 hgr3))
          obtain ⟨g3, cap3, hv3, hg3, ho3⟩ := HR3.form
          have hW3 := hW.grown hgr3 hW.size (fun j hj => (HR.lt hj).1)
          rw [bs_toList, hnext.out] at HR3
          rw [bs_toList, hnext.out] at hv3
          obtain ⟨n3, hn3⟩ : ∃ n3, (joined a (R.take (k + 1))).length = n3 := ⟨_, rfl⟩
          rw [hn3] at hv3 hnb
          subst hv3
          have HN3 := Lib.hid hn3
          have HR4 := Lib.hid HR3
          clear HR3 hgr3 hn3
          go_wp2
          go_roundw
          case rel => exact ⟨k + 1, 0, g3, cap3, n3, rfl, by go_num, by go_num, by omega, hat, HN3, hnb, HR4, hW3⟩
          case measure => simp [intOf]; omega
        | succ m =>
          obtain ⟨z, hz⟩ : ∃ z, J.getLast? = some z := by
            cases h : J.getLast? with
            | none => rw [List.getLast?_eq_none_iff] at h; rw [h] at hJl; simp at hJl
            | some z => exact ⟨z, rfl⟩
          have hzm : J[m]? = some z := by rw [List.getLast?_eq_getElem?, hJl] at hz; exact hz
          obtain ⟨g', cap', hgf, _, ho⟩ := HR.form
          have cz := HR.cell ho hzm
          obtain rfl : g = g' := by simpa [Value.ownBlock] using ho
          have B1 := Lib.hid (fun w => oper_blank z w)
          have im : IntKind.i64.wrap ((m : Int) + 1 - 1) = (m : Int) := by rw [IntKind.wrap_i64]; omega
          have im2 : (m : Int) < (m : Int) + 1 := by omega
          cases hb : Opr.blank z with
          | true =>
            rw [hb] at B1
            have hnext : Hid (J ++ T = joined a (R.take (k + 1))) := by show _ = _; rw [hnx, gap_none (.inr (.inr ⟨z, hz, hb⟩)), List.append_nil]
            clear g7 hnx hT0 hT hJ hz hzm hgf ho hb
            go_wp2_with (first
              | (go_at_call 62; (with_reducible refine (L1.out _).mono ?_); rintro e u ⟨rfl, rfl⟩)
              | (go_at_call 63; (with_reducible refine (B1.out _).mono ?_); rintro e u ⟨rfl, rfl⟩)
              | (at_builtin; refine step_append_text rfl _ _ rfl rfl HR (bs T) rfl (by omega) hW.size ?_; intro v3 w3 HR3 hgr3))
            obtain ⟨g3, cap3, hv3, hg3, ho3⟩ := HR3.form
            have hW3 := hW.grown hgr3 hW.size (fun j hj => (HR.lt hj).1)
            rw [bs_toList, hnext.out] at HR3
            rw [bs_toList, hnext.out] at hv3
            obtain ⟨n3, hn3⟩ : ∃ n3, (joined a (R.take (k + 1))).length = n3 := ⟨_, rfl⟩
            rw [hn3] at hv3 hnb
            subst hv3
            have HN3 := Lib.hid hn3
            have HR4 := Lib.hid HR3
            clear HR3 hgr3 hn3
            go_wp2
            go_roundw
            case rel => exact ⟨k + 1, m + 1, g3, cap3, n3, rfl, by go_num, by go_num, by omega, hat, HN3, hnb, HR4, hW3⟩
            case measure => simp [intOf]; omega
          | false =>
            rw [hb] at B1
            have hnext : Hid ((J ++ [32]) ++ T = joined a (R.take (k + 1))) := by show _ = _; rw [hnx, gap_some (by rw [hT]; exact hT0) hz hb]
            clear g7 hnx hT0 hT hJ hz hzm hgf ho hb
            have HR1 := HR.alloc (.cells #[.int .u8 32] 5)
            have HK := Blk.new wr 5 #[.int .u8 32]
            have hWa := hW.alloc hW.size (.cells #[.int .u8 32] 5)
            clear HR
            go_wp2_with (first
              | (go_at_call 62; (with_reducible refine (L1.out _).mono ?_); rintro e u ⟨rfl, rfl⟩)
              | (go_at_call 63; (with_reducible refine (B1.out _).mono ?_); rintro e u ⟨rfl, rfl⟩)
              | (at_builtin; refine step_append_byte rfl _ _ rfl rfl HR1 32 HK rfl (by omega) hWa.size ?_; intro v1 w1 HR2 hgr; obtain ⟨g2, cap2, hv2, hg2, ho2⟩ := HR2.form; rw [List.length_append, List.length_singleton, hJl] at hv2; subst hv2; have hW1 := hWa.grown hgr hWa.size (fun j hj => (HR1.lt hj).1))
              | (at_builtin; refine step_append_text rfl _ _ rfl rfl HR2 (bs T) rfl (by rw [List.length_append, List.length_singleton]; omega) hW1.size ?_; intro v3 w3 HR3 hgr3))
            obtain ⟨g3, cap3, hv3, hg3, ho3⟩ := HR3.form
            have hW3 := hW1.grown hgr3 hW1.size (fun j hj => (HR2.lt hj).1)
            rw [bs_toList, hnext.out] at HR3
            rw [bs_toList, hnext.out] at hv3
            obtain ⟨n3, hn3⟩ : ∃ n3, (joined a (R.take (k + 1))).length = n3 := ⟨_, rfl⟩
            rw [hn3] at hv3 hnb
            subst hv3
            have HN3 := Lib.hid hn3
            have HR4 := Lib.hid HR3
            clear HR3 hgr3 hn3
            go_wp2
            go_roundw
            case rel => exact ⟨k + 1, m + 1, g3, cap3, n3, rfl, by go_num, by go_num, by omega, hat, HN3, hnb, HR4, hW3⟩
            case measure => simp [intOf]; omega
    · obtain rfl : k = R.length := by omega
      have HT := HR.text
      rw [List.take_length] at HT
      have hta2 : Hid (t = joinAt a R) := by have := hta.out; rw [List.take_length] at this; exact this
      clear HX HL HF HR hta hJl
      go_wp2
      go_ret2
      exact ⟨by rw [← hta2.out]; rfl, hW⟩
end Go.Proofs.YtfhljddakhigdaaGreatDoor
/-
  Package oper: what is wrong with a range; a text with another one in the place of what stands in a range.
-/
namespace Go.Proofs.YtfhljddakhigdaaGreatDoor
open Go.RowKit
theorem fault_err (s : List UInt8) (a b : Int) (l : Bool) : Opr.fault s a b l = 0 ∨ Opr.fault s a b l = 1 ∨ Opr.fault s a b l = 10 := by unfold Opr.fault; split <;> (try split) <;> simp
set_option maxHeartbeats 1000000 in
set_option maxRecDepth 100000 in
theorem oper_fault_no (s : ByteArray) (a b : Int) (l : Bool) (hs : s.size ≤ 1000000000000) (h : Span.right s.data.toList a b l = false) (w : World) :
    Calls Tryz.prog 20 #[.string s, .agg #[.int .i64 a, .int .i64 b, .bool l]] w fun e w' => e = .returned (.int .i64 1) ∧ Below w.heap.size w w' := by
  have K := RBox.new w a b l
  obtain ⟨q0, q1, q2, f0, f1, f2⟩ := K.cells
  have R1 := Lib.hid (fun w => span_Right s a b l hs w)
  rw [h] at R1
  clear hs h
  go_enter Tryz.func20, Tryz.ntmps20
  go_wp2_with (go_at_call 33; (with_reducible refine (R1.out _).mono ?_); rintro e u ⟨rfl, hb⟩; replace K := K.on hb; clear hb; clear q0 q1 q2 f0 f1 f2; obtain ⟨q0, q1, q2, f0, f1, f2⟩ := K.cells)
  go_ret
  exact ⟨rfl, K.below⟩
set_option maxHeartbeats 1000000 in
set_option maxRecDepth 100000 in
theorem oper_fault_lines (s : ByteArray) (a b : Int) (hs : s.size ≤ 1000000000000) (h : Span.right s.data.toList a b true = true) (w : World) :
    Calls Tryz.prog 20 #[.string s, .agg #[.int .i64 a, .int .i64 b, .bool true]] w fun e w' => e = .returned (.int .i64 0) ∧ Below w.heap.size w w' := by
  have K := RBox.new w a b true
  obtain ⟨q0, q1, q2, f0, f1, f2⟩ := K.cells
  have R1 := Lib.hid (fun w => span_Right s a b true hs w)
  rw [h] at R1
  clear hs h
  go_enter Tryz.func20, Tryz.ntmps20
  go_wp2_with (go_at_call 33; (with_reducible refine (R1.out _).mono ?_); rintro e u ⟨rfl, hb⟩; replace K := K.on hb; clear hb; clear q0 q1 q2 f0 f1 f2; obtain ⟨q0, q1, q2, f0, f1, f2⟩ := K.cells)
  go_ret
  exact ⟨rfl, K.below⟩
set_option maxHeartbeats 1000000 in
set_option maxRecDepth 100000 in
theorem oper_fault_text (s : ByteArray) (a b : Int) (hs : s.size ≤ 1000000000000) (h : Span.right s.data.toList a b false = true) (h0 : a ≠ b) (w : World) :
    Calls Tryz.prog 20 #[.string s, .agg #[.int .i64 a, .int .i64 b, .bool false]] w fun e w' => e = .returned (.int .i64 0) ∧ Below w.heap.size w w' := by
  have K := RBox.new w a b false
  obtain ⟨q0, q1, q2, f0, f1, f2⟩ := K.cells
  have R1 := Lib.hid (fun w => span_Right s a b false hs w)
  rw [h] at R1
  have g0 : (a == b) = false := by simpa using h0
  clear hs h h0
  go_enter Tryz.func20, Tryz.ntmps20
  go_wp2_with (go_at_call 33; (with_reducible refine (R1.out _).mono ?_); rintro e u ⟨rfl, hb⟩; replace K := K.on hb; clear hb; clear q0 q1 q2 f0 f1 f2; obtain ⟨q0, q1, q2, f0, f1, f2⟩ := K.cells)
  go_ret
  exact ⟨rfl, K.below⟩
set_option maxHeartbeats 1000000 in
set_option maxRecDepth 100000 in
theorem oper_fault_none (s : ByteArray) (a b : Int) (hs : s.size ≤ 1000000000000) (h : Span.right s.data.toList a b false = true) (h0 : a = b) (w : World) :
    Calls Tryz.prog 20 #[.string s, .agg #[.int .i64 a, .int .i64 b, .bool false]] w fun e w' => e = .returned (.int .i64 10) ∧ Below w.heap.size w w' := by
  have K := RBox.new w a b false
  obtain ⟨q0, q1, q2, f0, f1, f2⟩ := K.cells
  have R1 := Lib.hid (fun w => span_Right s a b false hs w)
  rw [h] at R1
  have g0 : (a == b) = true := by simpa using h0
  clear hs h h0
  go_enter Tryz.func20, Tryz.ntmps20
  go_wp2_with (go_at_call 33; (with_reducible refine (R1.out _).mono ?_); rintro e u ⟨rfl, hb⟩; replace K := K.on hb; clear hb; clear q0 q1 q2 f0 f1 f2; obtain ⟨q0, q1, q2, f0, f1, f2⟩ := K.cells)
  go_ret
  exact ⟨rfl, K.below⟩
theorem oper_fault (s : ByteArray) (a b : Int) (l : Bool) (hs : s.size ≤ 1000000000000) (w : World) :
    Calls Tryz.prog 20 #[.string s, .agg #[.int .i64 a, .int .i64 b, .bool l]] w fun e w' => e = .returned (.int .i64 (Opr.fault s.data.toList a b l)) ∧ Below w.heap.size w w' := by
  unfold Opr.fault
  cases h : Span.right s.data.toList a b l with
  | false => rw [if_neg (by decide)]; exact oper_fault_no s a b l hs h w
  | true =>
    rw [if_pos rfl]
    cases l with
    | true => rw [if_neg (by simp)]; exact oper_fault_lines s a b hs h w
    | false =>
      by_cases h0 : a = b
      · rw [if_pos ⟨rfl, h0⟩]; exact oper_fault_none s a b hs h h0 w
      · rw [if_neg (fun e => h0 e.2)]; exact oper_fault_text s a b hs h h0 w
/-- strings.Join at three texts that have just been laid. -/
theorem join_three (x y z : List UInt8) (h : x.length + y.length + z.length ≤ 140737488355328) {g : Nat} {v : World} (hg : Blk v g 9 #[.string (bs x), .string (bs y), .string (bs z)]) :
    Calls Tryz.prog 51 #[.slice (some ⟨g, 0, none⟩) 3 3, .string ⟨#[]⟩] v fun e w' => e = .returned (.string (bs (x ++ (y ++ z)))) ∧ Below v.heap.size v w' := by
  have e : Lib.join ([bs x, bs y, bs z].map (·.data.toList)) (⟨#[]⟩ : ByteArray).data.toList = x ++ (y ++ z) := by
    show Lib.join [x, y, z] [] = _
    simp [Lib.join_cons, Lib.joinTail]
  have J := Tryz.strings_Join g 0 3 [bs x, bs y, bs z] ⟨#[]⟩ v (fun j t hj => by
    rw [Nat.zero_add, hg.cell]
    match j, hj with
    | 0, hj => simpa using hj
    | 1, hj => simpa using hj
    | 2, hj => simpa using hj) hg.lt (by simp) (by simp) (by rw [e]; simp only [List.length_append]; omega)
  rw [e] at J
  exact J
set_option maxHeartbeats 2000000 in
set_option maxRecDepth 100000 in
theorem oper_put (s : ByteArray) (a b : Nat) (l : Bool) (t : ByteArray) (ha : a ≤ s.size) (hb : b ≤ s.size) (hs : s.size ≤ 1000000000000) (ht : t.size ≤ 1000000000000) (w : World) :
    Calls Tryz.prog 21 #[.string s, .agg #[.int .i64 a, .int .i64 b, .bool l], .string t] w fun e w' => e = .returned (.string (bs (Opr.put s.data.toList a b t.data.toList))) ∧ Below w.heap.size w w' := by
  have K := RBox.new w a b l
  obtain ⟨q0, q1, q2, f0, f1, f2⟩ := K.cells
  have hl := data_len s
  have ht2 := data_len t
  have J : Hid (∀ (v : World) (g : Nat), Blk v g 9 #[.string (bs (s.data.toList.take a)), .string t, .string (bs (s.data.toList.drop b))] → Calls Tryz.prog 51 #[.slice (some ⟨g, 0, none⟩) 3 3, .string ⟨#[]⟩] v fun e w' => e = .returned (.string (bs (Opr.put s.data.toList a b t.data.toList))) ∧ Below v.heap.size v w') := fun v g h => by
    have := join_three (s.data.toList.take a) t.data.toList (s.data.toList.drop b) (by rw [List.length_take, List.length_drop]; omega) h
    rw [Opr.put, Int.toNat_natCast, Int.toNat_natCast]
    exact this
  have e1 := extract_to s a
  have e2 := extract_from s b
  generalize bs (s.data.toList.take a) = X at *
  generalize bs (s.data.toList.drop b) = Z at *
  generalize bs (Opr.put s.data.toList a b t.data.toList) = R at *
  have c1 : (a : Int) ≤ (s.size : Int) := by omega
  have c2 : (b : Int) ≤ (s.size : Int) := by omega
  have HB : Blk (((w.alloc (.cells #[.int .i64 a, .int .i64 b, .bool l] 23)).alloc (.cells #[.string X, .string t, .string Z] 9)).drew) (w.heap.size + 1) 9 #[.string X, .string t, .string Z] := by
    have := Blk.new (w.alloc (.cells #[.int .i64 a, .int .i64 b, .bool l] 23)) 9 #[.string X, .string t, .string Z]
    rw [World.size_alloc] at this
    exact this
  have HK : Hid (∀ u, Below (((w.alloc (.cells #[.int .i64 a, .int .i64 b, .bool l] 23)).alloc (.cells #[.string X, .string t, .string Z] 9)).drew).heap.size (((w.alloc (.cells #[.int .i64 a, .int .i64 b, .bool l] 23)).alloc (.cells #[.string X, .string t, .string Z] 9)).drew) u → RBox w u a b l) := fun u hu => (K.alloc (.cells #[.string X, .string t, .string Z] 9)).drew.on hu
  clear hl ht2
  go_enter Tryz.func21, Tryz.ntmps21
  go_wp2_with fail
  go_region_held3 (fun u => u.cell? ⟨w.heap.size, 0, none⟩ = some (.int .i64 a) ∧ u.cell? ⟨w.heap.size, 1, none⟩ = some (.int .i64 b)) (first | (with_reducible exact ⟨by assumption, by assumption⟩) | go_keep)
    ((go_at_call 51; (with_reducible refine (J.out _ _ HB).mono ?_); rintro e u ⟨rfl, hbn⟩; have hX := HK.out u hbn; clear hbn; obtain ⟨q0, q1, q2, f0, f1, f2⟩ := hX.cells))
  all_goals go_wp2
  all_goals go_ret
  all_goals exact ⟨rfl, hX.below⟩
end Go.Proofs.YtfhljddakhigdaaGreatDoor
/-
  What package line tells: the normal place of an offset, the first sign of a line; and the document's example.
-/
namespace Go.Proofs.YtfhljddakhigdaaGreatDoor
open Go.RowKit
set_option maxHeartbeats 1000000 in
set_option maxRecDepth 100000 in
theorem line_Clamp (s : ByteArray) (p : Int) (hs : s.size ≤ 1000000000000) (w : World) :
    Calls Tryz.prog 22 #[.string s, .int .i64 p] w fun e w' => e = .returned (.int .i64 (Line.clamp s.data.toList p)) ∧ Below w.heap.size w w' := by
  have hl := data_len s
  have hq := Line.clip_le s.data.toList p
  have hqe : min (max p 0) (s.size : Int) = (Line.clip s.data.toList p : Nat) := by unfold Line.clip; omega
  have ca := line_around s (Line.clip s.data.toList p : Nat) hs
  dsimp only [Line.aroundT] at ca
  rw [← hqe] at ca
  cases hv : Utf.valid s.data.toList with
  | false =>
    have hn := Line.of_not (Line.idx_none (s := s.data.toList) (p := (min (max p 0) (s.size : Int))) (Or.inr (Or.inr hv)))
    rw [hn.2.1, hn.2.2, hn.1] at ca
    have H : Hid (Line.clamp s.data.toList p = 0) := by show _ = _; rw [Line.clamp, if_neg (by simp [hv])]
    have C := Lib.hid ca
    clear hv hn ca hqe hq
    go_enter Tryz.func22, Tryz.ntmps22
    go_wp2_with (go_at_call 52; refine (C.out _).mono ?_; rintro e w1 ⟨rfl, hb⟩)
    go_ret
    exact ⟨by rw [H.out]; rfl, hb⟩
  | true =>
    obtain ⟨rs, hd⟩ := Utf.valid_of hv
    obtain ⟨k, x, _, hk, h1, h2⟩ := Line.idx_find hv hq
    have hx := Line.L_each hk
    have hln : Line.line s.data.toList ((k : Nat) : Int) = some x := by rw [Line.line_nat, hk]
    rw [hqe, Line.of_at hk h1 h2, Line.start_some hln, Line.stop_some hln, ← hqe] at ca
    obtain ⟨hb1, hb2, hc⟩ := Line.clamp_in hk h1 h2
    have H := Lib.hid hc
    have Q := Lib.hid hqe
    have D := Lib.hid hd
    have ST := Lib.hid (Line.start_ok hk)
    have C := Lib.hid ca
    have hpr : Hid (x.1 < x.2 → ∃ u : Nat, Utf.prev s.data.toList (x.2 : Int) = u) := fun h => by
      obtain ⟨u, hu, _⟩ := Line.prev_in hk h
      exact ⟨u, hu⟩
    clear hv hd hk hln ca hc hqe hb1 hb2
    generalize Line.clip s.data.toList p = q at *
    go_enter Tryz.func22, Tryz.ntmps22
    go_wp2_with fail
    refine (C.out _).mono ?_
    rintro e w1 ⟨rfl, hb⟩
    go_wp2_with fail
    go_loop [1] (fun v => ∃ y : Nat, y ≤ q ∧ x.1 ≤ y ∧ v = .int .i64 y ∧ Hid (Line.back s.data.toList q = Line.back s.data.toList y)) (fun v => (intOf v).toNat)
    case atStart => exact ⟨q, Nat.le_refl _, h1, by rw [Q.out], rfl⟩
    case round =>
      obtain ⟨y, hy, hxy, rfl, B⟩ := hrel
      have cp := Lib.hid (fun w => utf_Place s y (by omega) w)
      cases hp : Utf.place s.data.toList (y : Int) with
      | false =>
        rw [hp] at cp
        have h0 : 0 < y := by
          rcases Nat.eq_zero_or_pos y with rfl | h
          · rw [Line.place_zero D.out] at hp; cases hp
          · exact h
        have hne : y ≠ x.1 := by rintro rfl; rw [ST.out] at hp; cases hp
        have B2 : Hid (Line.back s.data.toList q = Line.back s.data.toList (y - 1)) := by
          show _ = _
          rw [B.out]
          obtain ⟨z, rfl⟩ : ∃ z, y = z + 1 := ⟨y - 1, by omega⟩
          exact Line.back_not hp
        clear B hp
        go_wp2_with (go_at_call 53; refine (cp.out _).mono ?_; rintro e w2 ⟨rfl, rfl⟩)
        go_round
        case rel => exact ⟨y - 1, by omega, by omega, by go_num, B2⟩
        case measure => simp [intOf]; omega
      | true =>
        rw [hp] at cp
        have K : Hid (Line.clamp s.data.toList p = if y = x.2 ∧ x.1 < x.2 then Utf.prev s.data.toList (y : Int) else (y : Int)) := by
          show _ = _
          rw [H.out, B.out, Line.back_at hp]
        clear H B hp
        by_cases he : y = x.2
        · subst he
          by_cases hlt : x.1 < x.2
          · have K2 : Hid (Line.clamp s.data.toList p = Utf.prev s.data.toList (x.2 : Int)) := by show _ = _; rw [K.out, if_pos ⟨rfl, hlt⟩]
            have cv := Lib.hid (fun w => utf_Prev s (x.2 : Nat) (by omega) w)
            clear K
            go_wp2_with (first | (go_at_call 53; refine (cp.out _).mono ?_; rintro e w2 ⟨rfl, rfl⟩) | (go_at_call 54; refine (cv.out _).mono ?_; rintro e w2 ⟨rfl, rfl⟩))
            go_ret
            exact ⟨by rw [K2.out]; rfl, hb⟩
          · have K2 : Hid (Line.clamp s.data.toList p = (x.2 : Int)) := by show _ = _; rw [K.out, if_neg (by omega)]
            clear K
            go_wp2_with (go_at_call 53; refine (cp.out _).mono ?_; rintro e w2 ⟨rfl, rfl⟩)
            go_ret
            exact ⟨by rw [K2.out]; rfl, hb⟩
        · have K2 : Hid (Line.clamp s.data.toList p = (y : Int)) := by show _ = _; rw [K.out, if_neg (by omega)]
          have g : ((y : Int) == (x.2 : Int)) = false := by simp; omega
          clear K
          go_wp2_with (go_at_call 53; refine (cp.out _).mono ?_; rintro e w2 ⟨rfl, rfl⟩)
          go_ret
          exact ⟨by rw [K2.out]; rfl, hb⟩
set_option maxHeartbeats 1000000 in
set_option maxRecDepth 100000 in
theorem line_First (s : ByteArray) (k : Int) (hs : s.size ≤ 1000000000000) (w : World) :
    Calls Tryz.prog 14 #[.string s, .int .i64 k] w fun e w' => e = .returned (.int .i64 (Line.first s.data.toList k)) ∧ Below w.heap.size w w' := by
  have hl := data_len s
  have c := Lib.hid (fun w => line_ends s k hs w)
  cases hx : Line.line s.data.toList k with
  | none =>
    rw [Line.start_none hx, Line.stop_none hx] at c
    have H : Hid (Line.first s.data.toList k = -1) := by show _ = _; rw [Line.first, hx]
    clear hx
    go_enter Tryz.func14, Tryz.ntmps14
    go_wp2_with (go_at_call 42; refine (c.out _).mono ?_; rintro e w1 ⟨rfl, hb⟩)
    go_ret
    exact ⟨by rw [H.out]; rfl, hb⟩
  | some x =>
    rw [Line.start_some hx, Line.stop_some hx] at c
    obtain ⟨n, rfl, hk⟩ := Line.line_some hx
    obtain ⟨h1, h2⟩ := Line.L_each hk
    have H : Hid (Line.first s.data.toList n = if Line.skip s.data.toList x.1 (x.2 - x.1) = x.2 then Line.clamp s.data.toList x.2 else (Line.skip s.data.toList x.1 (x.2 - x.1) : Nat)) := by show _ = _; rw [Line.first, hx]
    have cc := Lib.hid (fun w => line_Clamp s x.2 hs w)
    clear hx hk
    go_enter Tryz.func14, Tryz.ntmps14
    go_wp2_with (go_at_call 42; refine (c.out _).mono ?_; rintro e w1 ⟨rfl, hb⟩)
    go_loop [7] (fun v => ∃ y : Nat, x.1 ≤ y ∧ y ≤ x.2 ∧ v = .int .i64 y ∧ Hid (Line.skip s.data.toList x.1 (x.2 - x.1) = Line.skip s.data.toList y (x.2 - y))) (fun v => x.2 - (intOf v).toNat)
    case atStart => exact ⟨x.1, Nat.le_refl _, h1, rfl, rfl⟩
    case round =>
      obtain ⟨y, hy1, hy2, rfl, B⟩ := hrel
      rcases Nat.lt_or_ge y x.2 with hlt | hge
      · have hys : y < s.size := by omega
        have hg := byte_get s hys
        have hb8 := s[y].toNat_lt
        by_cases hbl : s[y].toNat = 32 ∨ s[y].toNat = 9
        · have B2 : Hid (Line.skip s.data.toList x.1 (x.2 - x.1) = Line.skip s.data.toList (y + 1) (x.2 - (y + 1))) := by
            show _ = _
            rw [B.out, show x.2 - y = (x.2 - (y + 1)) + 1 by omega, Line.skip, if_pos]
            rw [hg]
            rcases hbl with h | h
            · exact Or.inl (congrArg some (UInt8.toNat_inj.1 h))
            · exact Or.inr (congrArg some (UInt8.toNat_inj.1 h))
          clear B H hg
          rcases hbl with h | h
          · go_wp2
            go_round
            case rel => exact ⟨y + 1, by omega, by omega, by go_num, B2⟩
            case measure => simp [intOf]; omega
          · go_wp2
            go_round
            case rel => exact ⟨y + 1, by omega, by omega, by go_num, B2⟩
            case measure => simp [intOf]; omega
        · have K : Hid (Line.first s.data.toList n = y) := by
            show _ = _
            have hsk : Line.skip s.data.toList y (x.2 - y) = y := by
              rw [show x.2 - y = (x.2 - (y + 1)) + 1 by omega, Line.skip, if_neg]
              rw [hg]
              rintro (h | h) <;>
              · injection h with h
                rw [h] at hbl
                exact hbl (by decide)
            rw [H.out, B.out, hsk, if_neg (by omega)]
          have n1 : s[y].toNat ≠ 32 := fun h => hbl (Or.inl h)
          have n2 : s[y].toNat ≠ 9 := fun h => hbl (Or.inr h)
          have g1 : ((s[y].toNat : Int) != 32) = true := by simp; omega
          have g2 : ((s[y].toNat : Int) != 9) = true := by simp; omega
          clear B H hg hbl
          go_wp2
          go_ret
          exact ⟨by rw [K.out]; rfl, hb⟩
      · have K : Hid (Line.first s.data.toList n = Line.clamp s.data.toList x.2) := by
          show _ = _
          rw [H.out, B.out, show x.2 - y = 0 by omega, Line.skip, if_pos (by omega)]
        clear B H
        go_wp2_with (go_at_call 22; refine (cc.out _).mono ?_; rintro e w2 ⟨rfl, hb2⟩)
        go_ret
        exact ⟨by rw [K.out]; rfl, hb.trans (hb2.mono hb.size)⟩
end Go.Proofs.YtfhljddakhigdaaGreatDoor
/-
  Package oper: a range taken out, or emptied.
-/
namespace Go.Proofs.YtfhljddakhigdaaGreatDoor
open Go.RowKit
namespace Opr
open Line (L L_whole L_valid)
/-- What is taken out lies between places. -/
theorem cut_place {s : List UInt8} {a b : Int} {l : Bool} (h : Span.right s a b l = true) : ∃ p q : Nat, Span.cut s a b l = ((p : Int), (q : Int), l) ∧ p ≤ q ∧ q ≤ s.length ∧ Utf.place s (p : Int) = true ∧ Utf.place s (q : Int) = true := by
  obtain ⟨hab, ha, hb⟩ := Span.right_to h
  rw [Span.cut, if_pos h]
  obtain ⟨n, j, x, rfl, hx, h1, h2, h3, _⟩ := Line.place_line ha
  obtain ⟨m, k, y, rfl, hy, h4, h5, h6, _⟩ := Line.place_line hb
  cases l with
  | false => exact ⟨n, m, rfl, by omega, by omega, ha, hb⟩
  | true =>
    rw [Span.right, Bool.and_eq_true, Bool.and_eq_true, Bool.and_eq_true] at h
    have hst := h.2.2.2
    simp only [Bool.not_true, Bool.false_or, Bool.and_eq_true, Int.toNat_natCast] at hst
    have W := L_whole (L_valid hx)
    have hm : m = y.2 := by have := Span.ends_at hy h4 h5; rw [hst.2] at this; exact of_decide_eq_true this.symm
    rw [if_pos rfl]
    by_cases hlt : (m : Int) < s.length
    · rw [if_pos hlt]
      refine ⟨n, m + 1, rfl, by omega, by omega, ha, ?_⟩
      cases hz : (L s)[k + 1]? with
      | none => have := W.last k y hy hz; omega
      | some z =>
        obtain ⟨h7, h8⟩ := W.more k y z hy hz
        have := Line.start_ok hz
        rw [h7, ← hm] at this
        exact this
    · rw [if_neg hlt]
      by_cases h0 : (0 : Int) < (n : Int)
      · rw [if_pos h0]
        refine ⟨n - 1, m, by rw [Prod.mk.injEq]; exact ⟨by omega, rfl⟩, by omega, by omega, ?_, hb⟩
        have hn : n = x.1 := by
          rcases Nat.eq_or_lt_of_le h1 with e | hlt
          · exact e.symm
          · have h7 := (W.each j x hx).2.2.2 (n - 1) (by omega) (by omega)
            have h8 := hst.1
            rw [Span.starts, decide_eq_false (by omega), Bool.false_or] at h8
            exact absurd (of_decide_eq_true h8) h7
        cases j with
        | zero =>
          obtain ⟨z, hz, h00⟩ := W.head
          rw [hz] at hx
          injection hx with hx
          subst hx
          omega
        | succ j =>
          have hj : j < (L s).length := by have := (List.getElem?_eq_some_iff.1 hx).1; omega
          have hz : (L s)[j]? = some (L s)[j] := List.getElem?_eq_getElem hj
          have h9 := (W.more j _ x hz hx).1
          have := Line.stop_ok hz
          rw [show n - 1 = ((L s)[j]).2 by omega]
          exact this
      · rw [if_neg h0]
        exact ⟨n, m, rfl, by omega, by omega, ha, hb⟩
theorem rest_of {s : List UInt8} {a b : Int} {l l' : Bool} {p q : Nat} (h : Span.cut s a b l = ((p : Int), (q : Int), l')) : rest s a b l = put s p q [] := by rw [rest, h]
theorem put_length {s : List UInt8} {p q : Nat} (t : List UInt8) : (put s p q t).length ≤ s.length + (t.length + s.length) := by
  rw [put, List.length_append, List.length_append, List.length_take, List.length_drop]; omega
theorem put_less {s : List UInt8} {p q : Nat} (h : p ≤ q) (hq : q ≤ s.length) : (put s p q []).length ≤ s.length := by
  rw [put, List.length_append, List.length_append, List.length_take, List.length_drop, List.length_nil, Int.toNat_natCast, Int.toNat_natCast]; omega
theorem put_valid {s t : List UInt8} {p q : Nat} (hp : Utf.place s (p : Int) = true) (hq : Utf.place s (q : Int) = true) (ht : Utf.valid t = true) : Utf.valid (put s p q t) = true := by
  rw [put, Int.toNat_natCast, Int.toNat_natCast, Gl.valid_all _ (Gl.place_two hp).1, Gl.valid_all _ ht]
  exact (Gl.place_two hq).2
theorem fault_zero {s : List UInt8} {a b : Int} {l : Bool} (h : fault s a b l = 0) : Span.right s a b l = true ∧ ¬ (l = false ∧ a = b) := by
  rw [fault] at h
  split at h
  · split at h
    · omega
    · exact ⟨by assumption, by assumption⟩
  · omega
theorem rest_valid {s : List UInt8} {a b : Int} {l : Bool} (h : Span.right s a b l = true) : Utf.valid (rest s a b l) = true := by
  obtain ⟨p, q, hc, _, _, hp, hq⟩ := cut_place h
  rw [rest_of hc]
  exact put_valid hp hq Gl.valid_nil
theorem L_some {s : List UInt8} (h : Utf.valid s = true) : 1 ≤ (L s).length := (L_whole h).pos
end Opr
end Go.Proofs.YtfhljddakhigdaaGreatDoor
/-
  strings.Split at a line feed: a text's lines, one by one.
-/
namespace Go.Proofs.YtfhljddakhigdaaGreatDoor
open Go.RowKit Go.Shelf
namespace Gl
theorem split_parts : ∀ (n : Nat) (s : ByteArray), s.size ≤ n → ∀ k, s.data.toList.count 10 ≤ k → Lib.splitB ⟨#[10]⟩ 0 k s = (Ix.parts s.data.toList).map bs := by
  intro n
  induction n with
  | zero =>
    intro s hs k _
    have h0 : s.data.toList = [] := List.length_eq_zero_iff.1 (by rw [data_len]; omega)
    have h : Lib.indexB s ⟨#[10]⟩ = -1 := by
      show Lib.index s.data.toList [10] = -1
      rw [h0]; rfl
    rw [Lib.splitB_miss _ _ _ _ h, h0]
    show [s] = [bs []]
    rw [← h0]; rfl
  | succ n ih =>
    intro s hs k hk
    have hl := data_len s
    have e : Lib.indexB s ⟨#[10]⟩ = Lib.indexByte s.data.toList 10 := Lib.index_one s.data.toList 10
    have hge := Lib.indexByte_ge s.data.toList 10
    by_cases hi : Lib.indexByte s.data.toList 10 = -1
    · rw [Lib.splitB_miss _ _ _ _ (e.trans hi), Ix.parts_none hi]
      rfl
    · obtain ⟨o, ho⟩ : ∃ o : Nat, Lib.indexByte s.data.toList 10 = o := ⟨(Lib.indexByte s.data.toList 10).toNat, by omega⟩
      obtain ⟨hlt, hp⟩ := Ix.parts_some ho
      obtain ⟨h10, _⟩ := Lib.indexByte_some ho
      have hc : s.data.toList.count 10 = (s.data.toList.take (o + 1)).count 10 + (s.data.toList.drop (o + 1)).count 10 := by rw [← List.count_append, List.take_append_drop]
      have hc1 : 1 ≤ (s.data.toList.take (o + 1)).count 10 := by
        rw [List.take_add_one, h10, List.count_append]
        simp
      obtain ⟨k, rfl⟩ : ∃ j, k = j + 1 := ⟨k - 1, by omega⟩
      rw [Lib.splitB_hit _ _ _ _ _ (e.trans ho), hp, List.map_cons]
      have e1 : s.extract 0 (o + 0) = bs (s.data.toList.take o) := by rw [Lib.extract_eq]; simp [bs]
      have e2 : s.extract (o + (⟨#[10]⟩ : ByteArray).size) s.size = bs (s.data.toList.drop (o + 1)) := by
        rw [Lib.extract_eq, List.take_of_length_le (by rw [List.length_drop]; omega)]; rfl
      rw [e1, e2, ih _ (by rw [bs_size, List.length_drop]; omega) k (by rw [bs_toList]; omega), bs_toList]
end Gl
set_option maxHeartbeats 1000000 in
theorem str_split (s : ByteArray) (hs : s.size < 4294967281) (w : World) :
    Calls Tryz.prog 31 #[.string s, .string ⟨#[10]⟩] w fun e w' =>
      e = .returned (.slice (some ⟨w.heap.size, 0, none⟩) (Ix.parts s.data.toList).length (Ix.parts s.data.toList).length) ∧ w' = w.alloc (.cells (((Ix.parts s.data.toList).map bs).map Value.string).toArray 9) := by
  have hn := Ix.parts_length s.data.toList
  have hcb : Lib.countB s ⟨#[10]⟩ = s.data.toList.count 10 := Lib.count_one 10 _
  have C := Any.strings_genSplit_core { Tryz.lays146 with } (by kernel_rfl) s ⟨#[10]⟩ 0 (-1) (Ix.parts s.data.toList).length w hs (by decide) (Nat.zero_le _)
    (fun x c _ => by
      have := Tryz.strings_Index_one x 10 (w.alloc (.cells c 9))
      refine this.mono fun e w' h => ⟨?_, h.2⟩
      rw [h.1]
      show _ = Ending.returned (Value.int .i64 (Lib.index x.data.toList [10]))
      rw [Lib.index_one])
    (by
      refine (Tryz.strings_Count_one s 10 w).mono fun e w' h => ⟨?_, h.2⟩
      rw [h.1, hcb]
      first | rfl | skip)
    (by decide) (by decide) (by rw [if_pos (by decide), hcb, hn]; have := List.count_le_length (a := (10 : UInt8)) (l := s.data.toList); rw [data_len] at this; omega)
  have hsp := Gl.split_parts s.size s (Nat.le_refl _) ((Ix.parts s.data.toList).length - 1) (by omega)
  rw [hsp] at C
  have hl : ((Ix.parts s.data.toList).map bs).length = (Ix.parts s.data.toList).length := List.length_map _
  have hcells : Lib.cellsOf ((Ix.parts s.data.toList).map bs) (Ix.parts s.data.toList).length = (((Ix.parts s.data.toList).map bs).map Value.string).toArray := by
    have := Lib.cellsOf_full ((Ix.parts s.data.toList).map bs)
    rwa [hl] at this
  rw [hcells, hl] at C
  have C1 := Lib.hid C
  clear C hsp hcells hn hcb hl
  generalize (Ix.parts s.data.toList).length = m at *
  go_enter Tryz.func31, Tryz.ntmps31
  go_wp2_with (go_at_call 61; refine C1.out.mono ?_; rintro e w' ⟨rfl, rfl⟩)
  go_ret
  exact ⟨rfl, by rw [List.map_map]; rfl⟩
/-- Lists that a call has just laid. -/
theorem strs_new (w : World) (xs : List ByteArray) : Strs (w.alloc (.cells (xs.map Value.string).toArray 9)) (some ⟨w.heap.size, 0, none⟩) xs := fun _ => by
  refine ⟨_, rfl, by simp, fun j x hx => ?_⟩
  have hb := Blk.new w 9 (xs.map Value.string).toArray
  have e : (⟨w.heap.size, 0, none⟩ : Addr).add j = ⟨w.heap.size, j, none⟩ := by unfold Addr.add; split <;> simp_all
  rw [e, hb.cell]
  simp [hx]
end Go.Proofs.YtfhljddakhigdaaGreatDoor
/-
  Package oper: Join.
-/
namespace Go.Proofs.YtfhljddakhigdaaGreatDoor
open Go.RowKit
open Opr Gl
namespace Opr
open Line (L L_whole L_valid seg)
/-- Line k and the lines behind it, and the text with them as one. -/
theorem join_lines {s : List UInt8} {k m : Nat} {x y : Nat × Nat} (hm : 1 ≤ m) (hx : (L s)[k]? = some x) (hy : (L s)[k + (m - 1)]? = some y) :
    ∃ X R, (Ix.parts s)[k]? = some X ∧ R = ((Ix.parts s).drop (k + 1)).take (m - 1) ∧ R.length = m - 1 ∧ (∀ z ∈ X :: R, Utf.valid z = true ∧ Free z) ∧ seg s x.1 y.2 = glue (X :: R) ∧
      put s x.1 y.2 (joined X R) = joinT s k m ∧ joinP s k m = x.1 + joinAt X R := by
  have hv := L_valid hx
  obtain ⟨A, B, C, h1, h2, h3, h4, h5, h6, h7⟩ := three (show k ≤ k + (m - 1) by omega) hx hy
  rw [show k + (m - 1) + 1 - k = m by omega] at h4
  obtain ⟨X, R, rfl⟩ : ∃ X R, B = X :: R := by
    cases B with
    | nil => exact absurd rfl h2
    | cons X R => exact ⟨X, R, rfl⟩
  have hRl : R.length = m - 1 := by rw [List.length_cons] at h4; omega
  have eA : (Ix.parts s).take k = A := by rw [h1, ← h3, List.take_left]
  have eX : (Ix.parts s)[k]? = some X := by rw [h1, List.getElem?_append_right (by omega), h3, Nat.sub_self]; rfl
  have e2 : Ix.parts s = (A ++ [X]) ++ (R ++ C) := by rw [h1]; simp
  have eR : ((Ix.parts s).drop (k + 1)).take (m - 1) = R := by rw [e2, List.drop_left' (by simp [h3]), List.take_left' hRl]
  have eC : (Ix.parts s).drop (k + m) = C := by rw [h1, ← List.append_assoc, List.drop_left' (by simp [h3]; omega)]
  have hp := valid_part hv
  have hf := parts_free s
  have hall : ∀ z ∈ X :: R, Utf.valid z = true ∧ Free z := fun z hz => by
    have hm : z ∈ Ix.parts s := by rw [h1]; exact List.mem_append_right _ (List.mem_append_left _ hz)
    exact ⟨hp z hm, hf z hm⟩
  have hd : (Ix.parts s).getD k [] = X := by rw [List.getD_eq_getElem?_getD, eX]; rfl
  refine ⟨X, R, eX, eR.symm, hRl, hall, ?_, ?_, ?_⟩
  · rw [seg, take_of (A := fore A ++ glue (X :: R)) (M := aft C) (by rw [List.append_assoc]; exact h5) (by rw [List.length_append]; exact h7), List.drop_left' h6.symm]
  · rw [put, Int.toNat_natCast, Int.toNat_natCast, take_of h5 h6, drop_of (A := fore A ++ glue (X :: R)) (M := aft C) (by rw [List.append_assoc]; exact h5) (by rw [List.length_append]; exact h7), joinT, joinR, eA, eR, eC, hd, glue_fore (by simp), glue_cons]
  · rw [joinP, eA, eR, hd, h6]
theorem many_at {c k : Nat} {n : Int} (h : k + 1 < c) : ∃ m : Nat, many c k n = m ∧ 2 ≤ m ∧ k + m ≤ c ∧ min (max n 2) ((c : Int) - (k : Int)) = (m : Int) := by
  refine ⟨_, rfl, ?_⟩
  unfold many
  omega
end Opr
set_option maxHeartbeats 1000000 in
set_option maxRecDepth 100000 in
theorem oper_Join_arg (s : ByteArray) (k n : Int) (hs : s.size ≤ 1000000000000) (h : k < 0 ∨ ((Line.L s.data.toList).length : Int) ≤ k) (w : World) :
    Calls Tryz.prog 9 #[.string s, .int .i64 k, .int .i64 n] w fun e w' => e = .returned (.tuple #[.string ⟨#[]⟩, .int .i64 0, .int .i64 1]) ∧ Below w.heap.size w w' := by
  have hX := Below.refl w.heap.size w
  have A0 := fun w => line_Start s k hs w
  rw [Line.start_none (by rcases h with h | h; exact Line.line_low h; exact Line.line_past h)] at A0
  have A1 := Lib.hid A0
  have A2 := Lib.hid (fun w => line_Count s hs w)
  clear hs h A0
  go_enter Tryz.func9, Tryz.ntmps9
  go_wp2_with (first
    | (go_at_call 28; (with_reducible refine (A1.out _).mono ?_); rintro e u ⟨rfl, hbn⟩; replace hX := hX.trans (hbn.mono hX.size); clear hbn)
    | (go_at_call 29; (with_reducible refine (A2.out _).mono ?_); rintro e u ⟨rfl, hbn⟩; replace hX := hX.trans (hbn.mono hX.size); clear hbn))
  go_ret3
  exact ⟨rfl, hX⟩
set_option maxHeartbeats 1000000 in
set_option maxRecDepth 100000 in
theorem oper_Join_move (s : ByteArray) (k : Nat) (n : Int) (hs : s.size ≤ 1000000000000) (h : k + 1 = (Line.L s.data.toList).length) (w : World) :
    Calls Tryz.prog 9 #[.string s, .int .i64 k, .int .i64 n] w fun e w' => e = .returned (.tuple #[.string ⟨#[]⟩, .int .i64 0, .int .i64 10]) ∧ Below w.heap.size w w' := by
  have hX := Below.refl w.heap.size w
  obtain ⟨x, hx⟩ : ∃ x, (Line.L s.data.toList)[k]? = some x := ⟨_, List.getElem?_eq_getElem (by omega)⟩
  have hl := Line.L_length s.data.toList
  rw [data_len] at hl
  have A0 := fun w => line_Start s k hs w
  rw [Line.start_some (by rw [Line.line_nat]; exact hx)] at A0
  have A1 := Lib.hid A0
  have A3 := fun w => line_Count s hs w
  rw [← h] at A3
  have A2 := Lib.hid A3
  have g0 : IntKind.i64.wrap (((k + 1 : Nat) : Int) - 1) = (k : Int) := by rw [IntKind.wrap_i64]; omega
  have g1 : IntKind.i64.wrap ((k : Int) + 1 - 1) = (k : Int) := by rw [IntKind.wrap_i64]; omega
  have g2 : wrap64 (k : Int) = (k : Int) := by unfold wrap64; omega
  have g3 : ((k : Int) == (k : Int)) = true := by simp
  clear hs h A0 A3 hx
  generalize x.1 = a at *
  have g4 : decide ((a : Int) < 0) = false := decide_eq_false (by omega)
  go_enter Tryz.func9, Tryz.ntmps9
  go_wp2_with (first
    | (go_at_call 28; (with_reducible refine (A1.out _).mono ?_); rintro e u ⟨rfl, hbn⟩; replace hX := hX.trans (hbn.mono hX.size); clear hbn)
    | (go_at_call 29; (with_reducible refine (A2.out _).mono ?_); rintro e u ⟨rfl, hbn⟩; replace hX := hX.trans (hbn.mono hX.size); clear hbn))
  go_ret3
  exact ⟨rfl, hX⟩
/-- A list of texts in memory, its first one and the others. -/
theorem strs_tail {w : World} {g : Nat} {x : List UInt8} {xs : List (List UInt8)} (h : Strs w (some ⟨g, 0, none⟩) ((x :: xs).map bs)) : w.cell? ⟨g, 0, none⟩ = some (.string (bs x)) ∧ g < w.heap.size ∧ Strs w (some ⟨g, 1, none⟩) (xs.map bs) := by
  obtain ⟨ad, e, hb, hc⟩ := h (by simp)
  injection e with e
  subst e
  have ha : ∀ o j : Nat, (⟨g, o, none⟩ : Addr).add j = ⟨g, o + j, none⟩ := fun o j => by unfold Addr.add; split <;> simp_all
  refine ⟨?_, hb, fun _ => ⟨_, rfl, hb, fun j y hy => ?_⟩⟩
  · have := hc 0 (bs x) rfl
    rwa [ha] at this
  · have := hc (j + 1) y (by simpa using hy)
    rw [ha] at this ⊢
    rwa [show 0 + (j + 1) = 1 + j by omega] at this
set_option maxHeartbeats 4000000 in
set_option maxRecDepth 100000 in
theorem oper_Join_ok (s : ByteArray) (k : Nat) (n : Int) (hs : s.size ≤ 100000) (h : k + 1 < (Line.L s.data.toList).length) (w : World) :
    Calls Tryz.prog 9 #[.string s, .int .i64 k, .int .i64 n] w fun e w' => e = .returned (.tuple #[.string (bs (joinT s.data.toList k (many (Line.L s.data.toList).length k n))), .int .i64 (Line.clamp (joinT s.data.toList k (many (Line.L s.data.toList).length k n)) (joinP s.data.toList k (many (Line.L s.data.toList).length k n) : Nat)), .int .i64 0]) ∧ Below w.heap.size w w' := by
  obtain ⟨m, hme, hm2, hkm, gmm⟩ := many_at (n := n) h
  rw [hme]
  obtain ⟨x, hx⟩ : ∃ x, (Line.L s.data.toList)[k]? = some x := ⟨_, List.getElem?_eq_getElem (by omega)⟩
  obtain ⟨y, hy⟩ : ∃ y, (Line.L s.data.toList)[k + (m - 1)]? = some y := ⟨_, List.getElem?_eq_getElem (by omega)⟩
  obtain ⟨X, R, hX1, hRdef, hRl, hall, hseg, hput, hpos⟩ := join_lines (by omega) hx hy
  have hl := Line.L_length s.data.toList
  have hyl := (Line.L_each hy).2
  have hxl := Line.L_each hx
  have hxy : x.1 ≤ y.2 := by
    rcases Nat.eq_or_lt_of_le (show k ≤ k + (m - 1) by omega) with e | e
    · rw [← e, hx] at hy; injection hy with hy; rw [← hy]; exact hxl.1
    · have := (Line.L_whole (Line.L_valid hx)).mono hx hy e; have := (Line.L_each hy).1; omega
  rw [data_len] at hl hyl hxl
  have A0 := fun w => line_Start s k (by omega) w
  rw [Line.start_some (by rw [Line.line_nat]; exact hx)] at A0
  have A2 := Lib.hid (fun w => line_Count s (by omega) w)
  have A4 : Hid (∀ (z : Int) (w : World), z = ((k + (m - 1) : Nat) : Int) → Calls Tryz.prog 30 #[.string s, .int .i64 z] w fun e w' => e = .returned (.int .i64 (y.2 : Nat)) ∧ Below w.heap.size w w') := fun z w hz => by
    subst hz
    have := line_End s ((k + (m - 1) : Nat) : Int) (by omega) w
    rwa [Line.stop_some (by rw [Line.line_nat]; exact hy)] at this
  have hgl : (glue (X :: R)).length ≤ s.size := by rw [← hseg, Line.seg, List.length_drop, List.length_take, data_len]; omega
  have SP := fun w => str_split (bs (glue (X :: R))) (by rw [bs_size]; omega) w
  rw [bs_toList, parts_glue (by simp) (fun z hz => (hall z hz).2), show (X :: R).length = m by rw [List.length_cons]; omega] at SP
  have X1 := ext_seg s x.1 y.2
  rw [hseg] at X1
  have hfl : X.length + (fore R).length ≤ 100001 := by
    have h1 := fore_glue (R := X :: R) (by simp)
    rw [fore_cons, List.length_append, List.length_cons] at h1
    omega
  have hjl := joined_length X R
  have J1 : Hid (∀ (u : World) (A : Option Addr) (c : Nat), Strs u A (R.map bs) → Calls Tryz.prog 32 #[.string (bs X), .slice A (m - 1) c] u fun e w' => e = .returned (.tuple #[.string (bs (joined X R)), .int .i64 (joinAt X R : Nat)]) ∧ Below u.heap.size u w') := fun u A c hx => by
    have := oper_join X R (c := c) hx (by omega) (by omega)
    rw [hRl] at this
    exact this
  have P0 := fun w => oper_put s x.1 y.2 false (bs (joined X R)) (by omega) hyl (by omega) (by rw [bs_size]; omega) w
  rw [bs_toList, hput] at P0
  have hjt : joinAt X R ≤ 200000 := by
    have h1 := joined_length X R.dropLast
    have h2 : (fore R.dropLast).length ≤ (fore R).length := by rw [List.dropLast_eq_take]; exact fore_most _
    show (joined X R.dropLast).length ≤ _
    omega
  have hTl : (joinT s.data.toList k m).length ≤ 1000000 := by
    rw [← hput, put, List.length_append, List.length_append, List.length_take, List.length_drop, data_len]; omega
  have C0 := fun w => line_Clamp (bs (joinT s.data.toList k m)) ((x.1 : Int) + (joinAt X R : Int)) (by rw [bs_size]; omega) w
  rw [bs_toList] at C0
  rw [hpos, Int.natCast_add]
  have A1 := Lib.hid A0
  have S1 := Lib.hid SP
  have P1 := Lib.hid P0
  have C1 := Lib.hid C0
  rw [hme] at *
  clear A0 SP P0 C0 hall hput hpos hseg hX1 hTl hfl hjl hgl hme hRdef hRl
  generalize joinT s.data.toList k m = T at *
  generalize hZ : Line.clamp T ((x.1 : Int) + (joinAt X R : Int)) = z at *
  clear hZ
  generalize hJ : joined X R = J at *
  clear hJ
  generalize joinAt X R = t at *
  generalize (Line.L s.data.toList).length = c at *
  clear hx hy
  generalize x.1 = a at *
  generalize y.2 = b at *
  clear hxl
  obtain ⟨q, rfl⟩ : ∃ q, m = q + 2 := ⟨m - 2, by omega⟩
  have g0 : ((k : Int) == (c : Int) - 1) = false := by rw [beq_eq_false_iff_ne]; omega
  have g1 : IntKind.i64.wrap ((c : Int) - 1) = (c : Int) - 1 := by rw [IntKind.wrap_i64]; omega
  have g2 : IntKind.i64.wrap ((c : Int) - (k : Int)) = (c : Int) - (k : Int) := by rw [IntKind.wrap_i64]; omega
  have g5 : decide ((a : Int) < 0) = false := decide_eq_false (by omega)
  have hB := Below.refl w.heap.size w
  go_enter Tryz.func9, Tryz.ntmps9
  go_wp2_with (first
    | (go_at_call 28; (with_reducible refine (A1.out _).mono ?_); rintro e u ⟨rfl, hbn⟩; replace hB := hB.trans (hbn.mono hB.size); clear hbn)
    | (go_at_call 29; (with_reducible refine (A2.out _).mono ?_); rintro e u ⟨rfl, hbn⟩; replace hB := hB.trans (hbn.mono hB.size); clear hbn)
    | (go_at_call 30; (with_reducible refine (A4.out _ _ (by omega)).mono ?_); rintro e v ⟨rfl, hbn⟩; replace hB := hB.trans (hbn.mono hB.size); clear hbn; have K := RBox.new v (a : Int) (b : Int) false; obtain ⟨q0, q1, q2, f0, f1, f2⟩ := K.cells)
    | (go_at_call 31; (with_reducible refine (S1.out _).mono ?_); rintro e u ⟨rfl, rfl⟩))
  have K2 := K.alloc (.cells (Value.string (bs X) :: R.map (Value.string ∘ bs)).toArray 9)
  have HS : Strs ((v.alloc (.cells #[.int .i64 (a : Int), .int .i64 (b : Int), .bool false] 23)).alloc (.cells (Value.string (bs X) :: R.map (Value.string ∘ bs)).toArray 9)) (some ⟨v.heap.size + 1, 0, none⟩) ((X :: R).map bs) := by
    have := strs_new (v.alloc (.cells #[.int .i64 (a : Int), .int .i64 (b : Int), .bool false] 23)) ((X :: R).map bs)
    rw [World.size_alloc, List.map_map] at this
    exact this
  generalize (v.alloc (.cells #[.int .i64 (a : Int), .int .i64 (b : Int), .bool false] 23)).alloc (.cells (Value.string (bs X) :: R.map (Value.string ∘ bs)).toArray 9) = W2 at *
  have hB2 := hB.trans (K2.below.mono hB.size)
  obtain ⟨d0, hlt, HT⟩ := strs_tail HS
  have HTd : Strs W2.drew (some ⟨v.heap.size + 1, 1, none⟩) (R.map bs) := HT
  have J2 : Hid (∀ (u : World) (A : Option Addr) (c : Nat), Strs u A (R.map bs) → Calls Tryz.prog 32 #[.string (bs X), .slice A (q + 1) c] u fun e w' => e = .returned (.tuple #[.string (bs J), .int .i64 (t : Nat)]) ∧ Below u.heap.size u w') := J1
  obtain ⟨p0, p1, p2, z0, z1, z2⟩ := K2.cells
  have hltd : v.heap.size + 1 < W2.drew.heap.size := hlt
  have i0 : (0 : Int) < (q : Int) + 2 := by omega
  have i1 : (1 : Int) ≤ (q : Int) + 2 := by omega
  clear J1 HS HT q0 q1 q2 f0 f1 f2 K hB A1 A2 A4 S1
  go_region_held3 (fun u => u.cell? ⟨v.heap.size + 1, 0, none⟩ = some (.string (bs X))) (first | (with_reducible assumption) | go_keep)
    ((go_at_call 32; (with_reducible refine (J2.out _ _ _ HTd).mono ?_); rintro e u ⟨rfl, hbn⟩; have K3 := K2.ond hbn; have hB3 := hB2.drew.trans (hbn.mono hB2.drew.size); have d1 : u.cell? ⟨v.heap.size + 1, 0, none⟩ = some (.string (bs X)) := (hbn.cell (p := ⟨v.heap.size + 1, 0, none⟩) hltd).trans d0; clear hbn; obtain ⟨q0, q1, q2, f0, f1, f2⟩ := K3.cells))
  all_goals (go_wp2_with (first
    | (go_at_call 21; (with_reducible refine (P1.out _).mono ?_); rintro e u2 ⟨rfl, hbn⟩; replace hB3 := hB3.trans (hbn.mono hB3.size); clear hbn)
    | (go_at_call 22; (with_reducible refine (C1.out _).mono ?_); rintro e u2 ⟨rfl, hbn⟩; replace hB3 := hB3.trans (hbn.mono hB3.size); clear hbn)))
  all_goals go_ret3
  all_goals exact ⟨rfl, hB3⟩
theorem oper_Join (s : ByteArray) (k n : Int) (hs : s.size ≤ 100000) (w : World) :
    Calls Tryz.prog 9 #[.string s, .int .i64 k, .int .i64 n] w fun e w' => e = .returned (Opr.val (Opr.join s.data.toList k n)) ∧ Below w.heap.size w w' := by
  rw [Opr.join]
  by_cases h : k < 0 ∨ ((Line.L s.data.toList).length : Int) ≤ k
  · rw [if_pos h, Opr.val_no]; exact oper_Join_arg s k n (by omega) h w
  · rw [if_neg h]
    obtain ⟨j, rfl⟩ : ∃ j : Nat, k = j := ⟨k.toNat, by omega⟩
    by_cases h1 : (j : Int) = (Line.L s.data.toList).length - 1
    · rw [if_pos h1, Opr.val_no]; exact oper_Join_move s j n (by omega) (by omega) w
    · rw [if_neg h1, Opr.val_mk, Int.toNat_natCast]; exact oper_Join_ok s j n hs (by omega) w
end Go.Proofs.YtfhljddakhigdaaGreatDoor
/-
  The document's example, as layer 23's statements ask for it; a range that comes in.
-/
namespace Go.Proofs.YtfhljddakhigdaaGreatDoor
open Go.RowKit
set_option maxRecDepth 100000
namespace Opr
def exT : List UInt8 := [97, 10, 32, 32, 98]
def exR : List (List UInt8) := [[97], [10], [32], [32], [98]]
def exU : List UInt8 := [97, 32, 98]
def exV : List (List UInt8) := [[97], [32], [98]]
theorem ex_valid : Utf.valid exT = true := by
  have := Utf.dec_of (rs := exR) (by decide)
  rw [Utf.valid, show exT = exR.flatten from rfl, this]; rfl
theorem ex_join : join exT 0 2 = (exU, 1, 0) := by
  have hL : Line.L exT = [(0, 1), (2, 5)] := by rw [Line.L_ok ex_valid]; rfl
  have hU : Utf.dec exU = some exV := Utf.dec_of (rs := exV) (by decide)
  have hv : Utf.valid exU = true := by rw [Utf.valid, hU]; rfl
  have hM : Line.L exU = [(0, 3)] := by rw [Line.L_ok hv]; rfl
  have h0 : (Line.L exU)[0]? = some (0, 3) := by rw [hM]; rfl
  have hT : joinT exT 0 2 = exU := by decide
  have hP : joinP exT 0 2 = 1 := by decide
  have hm : many 2 0 2 = 2 := by decide
  rw [join, hL, if_neg (by decide), if_neg (by decide)]
  show (joinT exT 0 (many 2 0 2), Line.clamp (joinT exT 0 (many 2 0 2)) (joinP exT 0 (many 2 0 2) : Nat), (0 : Int)) = _
  rw [hm, hT, hP]
  have hp : Utf.place exU ((1 : Nat) : Int) = true := Utf.place_at hU (i := 1) (by decide)
  rw [Line.clamp_same (by rw [Line.normal_in h0 hp (by decide) (by decide)]; decide)]
  rfl
end Opr
set_option maxHeartbeats 1000000 in
set_option maxRecDepth 100000 in
theorem oper_lives (w : World) : Calls Tryz.prog 4 #[] w fun e w' => e = .returned (.bool true) ∧ Below w.heap.size w w' := by
  have C0 : Hid (∀ w, Calls Tryz.prog 9 #[.string ⟨#[97, 10, 32, 32, 98]⟩, .int .i64 0, .int .i64 2] w fun e w' => e = .returned (.tuple #[.string ⟨#[97, 32, 98]⟩, .int .i64 1, .int .i64 0]) ∧ Below w.heap.size w w') := Lib.hid (fun w => by
    have := oper_Join ⟨#[97, 10, 32, 32, 98]⟩ 0 2 (by decide) w
    rw [show Opr.join (⟨#[97, 10, 32, 32, 98]⟩ : ByteArray).data.toList 0 2 = (Opr.exU, 1, 0) from Opr.ex_join] at this
    exact this)
  have hX := Below.refl w.heap.size w
  have g0 : ((⟨#[97, 32, 98]⟩ : ByteArray).toList == (⟨#[97, 32, 98]⟩ : ByteArray).toList) = true := by simp
  go_enter Tryz.func4, Tryz.ntmps4
  go_wp2_with (go_at_call 9; (with_reducible refine (C0.out _).mono ?_); rintro e u ⟨rfl, hbn⟩; replace hX := hX.trans (hbn.mono hX.size); clear hbn)
  go_ret
  exact ⟨rfl, hX⟩
section
open Go.ChangeShapes Go.WideShapes Go.ChangeAt
variable {H : Type} {enc : TypeId × Value → H} {W : World}
theorem cells_range : Tryz.prog.cellsOf 23 = 3 := by kernel_rfl
/-- An argument that is a range. -/
theorem open_range {base : Nat} {v : Value} {d : DataW H} {p : List MemPlace} (ho : Value.okWide Tryz.prog W .any base 23 v)
    (h : DataW.Trod enc Tryz.prog W 0 (fun _ => true) true 23 v d p) :
    ∃ (a b : Int) (l : Bool), v = .agg #[.int .i64 a, .int .i64 b, .bool l] := by
  simp only [Value.okWide, Tryz.underlying23] at ho
  obtain ⟨cs, rfl, _, _⟩ := ho
  obtain ⟨fuel, hf⟩ := h
  obtain ⟨xs, n, _, hx, hlen0, hlen, hf⟩ := DataW.trod_struct Tryz.underlying23 hf
  rw [cells_range] at hlen0
  simp only [Value.cells] at hlen0 hf
  obtain ⟨L⟩ := cs
  match L, hlen0 with
  | [c0, c1, c2], _ =>
    match xs, hlen with
    | [x0, x1, x2], _ =>
      have f0 := hf 0 _ rfl
      have f1 := hf 1 _ rfl
      have f2 := hf 2 _ rfl
      have hi : Tryz.prog.cellsOf 3 = 1 := by kernel_rfl
      have hb : Tryz.prog.cellsOf 4 = 1 := by kernel_rfl
      simp only [List.getElem_toArray, List.getElem_cons_zero, List.getElem_cons_succ, hi, hb, List.drop_succ_cons, List.drop_zero, List.take_succ_cons, List.take_zero, List.getElem?_cons_zero, List.getElem?_cons_succ] at f0 f1 f2
      obtain ⟨m, e0, _, _⟩ := DataW.trod_int Tryz.underlying3 f0
      obtain ⟨k, e1, _, _⟩ := DataW.trod_int Tryz.underlying3 f1
      obtain ⟨b, e2, _⟩ := DataW.trod_bool Tryz.underlying4 f2
      simp at e0 e1 e2
      subst e0 e1 e2
      exact ⟨m, k, b, rfl⟩
end
end Go.Proofs.YtfhljddakhigdaaGreatDoor
