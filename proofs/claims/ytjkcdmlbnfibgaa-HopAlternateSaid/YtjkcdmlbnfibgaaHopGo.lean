/-
  Where motions by words lead, without a program: the next place of a rising list, the one ahead, and n of them at once.
-/
import Derived.Test.YtjkcdmlbnfibgaaHop
namespace Go.Proofs.Ytjkcdmlbnfibgaa
namespace Hop
open Utf Class
/-- The first place behind p; -1, if there is none. -/
def nxt (l : List Int) (p : Int) : Int := ((l.filter fun x => decide (p < x)).head?).getD (-1)
/-- The last place ahead of p; -1, if there is none. -/
def bck (l : List Int) (p : Int) : Int := ((l.filter fun x => decide (x < p)).getLast?).getD (-1)
/-- On and on, n times, till there is no further one. -/
def iter (f : Int → Int) : Nat → Int → Int
  | 0, p => p
  | n + 1, p => if f p < 0 then p else iter f n (f p)
def times (f : Int → Int) (n : Nat) (p : Int) : Int := if f p < 0 then -1 else iter f n p
/-- n places on at once: the program's way. -/
def far (l : List Int) (p : Int) (n : Nat) : Int := ((l.filter fun x => decide (p < x))[min n (l.filter fun x => decide (p < x)).length - 1]?).getD (-1)
/-- n places back at once. -/
def farb (l : List Int) (p : Int) (n : Nat) : Int := if (l.filter fun x => decide (x < p)) = [] then -1 else ((l.filter fun x => decide (x < p))[(l.filter fun x => decide (x < p)).length - n]?).getD (-1)
/-- What rises. -/
abbrev Up (l : List Int) : Prop := l.Pairwise (· < ·)
theorem mem_in {l : List Int} {f : Int → Bool} {x : Int} (h : x ∈ l.filter f) : x ∈ l := (List.mem_filter.1 h).1
theorem iter_zero (f : Int → Int) (p : Int) : iter f 0 p = p := rfl
theorem iter_no {f : Int → Int} {p : Int} (h : f p < 0) (n : Nat) : iter f n p = p := by cases n <;> simp [iter, h]
theorem iter_yes {f : Int → Int} {p : Int} (h : ¬ f p < 0) (n : Nat) : iter f (n + 1) p = iter f n (f p) := by rw [iter, if_neg h]
theorem iter_succ (f : Int → Int) (n : Nat) (p : Int) : iter f (n + 1) p = if f (iter f n p) < 0 then iter f n p else f (iter f n p) := by
  induction n generalizing p with
  | zero =>
    by_cases h : f p < 0
    · rw [iter_no h, iter_zero, if_pos h]
    · rw [iter_yes h, iter_zero, iter_zero, if_neg h]
  | succ n ih =>
    by_cases h : f p < 0
    · rw [iter_no h, iter_no h, if_pos h]
    · rw [iter_yes h (n + 1), iter_yes h n, ih]
theorem times_no {f : Int → Int} {p : Int} (h : f p < 0) (n : Nat) : times f n p = -1 := if_pos h
theorem times_yes {f : Int → Int} {p : Int} (h : ¬ f p < 0) (n : Nat) : times f n p = iter f n p := if_neg h
theorem times_one (f : Int → Int) (h : ∀ p, -1 ≤ f p) (p : Int) : times f 1 p = f p := by
  by_cases h1 : f p < 0
  · rw [times_no h1]; have := h p; omega
  · rw [times_yes h1, iter_yes h1, iter_zero]
/-- What is behind p begins with the next place; behind that one is the rest. -/
theorem nxt_cons {l : List Int} (hl : Up l) {p x : Int} {r : List Int} (h : (l.filter fun x => decide (p < x)) = x :: r) : (l.filter fun y => decide (x < y)) = r := by
  have hp : p < x := by
    have : x ∈ l.filter fun x => decide (p < x) := by rw [h]; exact List.mem_cons_self
    simpa using (List.mem_filter.1 this).2
  have e : (l.filter fun y => decide (x < y)) = ((l.filter fun y => decide (p < y)).filter fun y => decide (x < y)) := by
    rw [List.filter_filter]
    refine List.filter_congr fun y _ => ?_
    by_cases h1 : x < y
    · have : p < y := by omega
      simp [h1, this]
    · simp [h1]
  have hu : Up (x :: r) := h ▸ List.Pairwise.filter _ hl
  rw [e, h]
  rw [List.filter_cons_of_neg (by simp)]
  refine List.filter_eq_self.2 fun y hy => ?_
  have := (List.pairwise_cons.1 hu).1 y hy
  simpa using this
theorem bck_snoc {l : List Int} (hl : Up l) {p x : Int} {r : List Int} (h : (l.filter fun x => decide (x < p)) = r ++ [x]) : (l.filter fun y => decide (y < x)) = r := by
  have hp : x < p := by
    have : x ∈ l.filter fun x => decide (x < p) := by rw [h]; simp
    simpa using (List.mem_filter.1 this).2
  have e : (l.filter fun y => decide (y < x)) = ((l.filter fun y => decide (y < p)).filter fun y => decide (y < x)) := by
    rw [List.filter_filter]
    refine List.filter_congr fun y _ => ?_
    by_cases h1 : y < x
    · have : y < p := by omega
      simp [h1, this]
    · simp [h1]
  have hu : Up (r ++ [x]) := h ▸ List.Pairwise.filter _ hl
  rw [e, h, List.filter_append, List.filter_cons_of_neg (by simp), List.filter_nil, List.append_nil]
  refine List.filter_eq_self.2 fun y hy => ?_
  have := (List.pairwise_append.1 hu).2.2 y hy x (by simp)
  simpa using this
theorem iter_nxt {l : List Int} (hl : Up l) (h0 : ∀ x ∈ l, 0 ≤ x) (n : Nat) : ∀ p : Int, iter (nxt l) n p = if n = 0 ∨ (l.filter fun x => decide (p < x)) = [] then p else ((l.filter fun x => decide (p < x))[min n (l.filter fun x => decide (p < x)).length - 1]?).getD (-1) := by
  induction n with
  | zero => intro p; simp [iter]
  | succ n ih =>
    intro p
    cases h : l.filter fun x => decide (p < x) with
    | nil =>
      have : nxt l p < 0 := by rw [nxt, h]; decide
      rw [iter_no this]; simp
    | cons x r =>
      have hx : nxt l p = x := by rw [nxt, h]; rfl
      have hx0 : 0 ≤ x := h0 x (mem_in (f := fun x => decide (p < x)) (by rw [h]; exact List.mem_cons_self))
      rw [iter_yes (by omega), hx, ih, nxt_cons hl h]
      rw [if_neg (c := n + 1 = 0 ∨ x :: r = []) (by simp)]
      cases n with
      | zero => simp
      | succ n =>
        cases r with
        | nil => simp
        | cons y r =>
          rw [if_neg (by simp)]
          simp only [List.length_cons]
          rw [show min (n + 1 + 1) (r.length + 1 + 1) - 1 = (min (n + 1) (r.length + 1) - 1) + 1 by omega, List.getElem?_cons_succ]
theorem far_times {l : List Int} (hl : Up l) (h0 : ∀ x ∈ l, 0 ≤ x) (n : Nat) (hn : 1 ≤ n) (p : Int) : far l p n = times (nxt l) n p := by
  cases h : l.filter fun x => decide (p < x) with
  | nil => rw [times_no (by rw [nxt, h]; decide), far, h]; simp
  | cons x r =>
    have hx : nxt l p = x := by rw [nxt, h]; rfl
    have hx0 : 0 ≤ x := h0 x (mem_in (f := fun x => decide (p < x)) (by rw [h]; exact List.mem_cons_self))
    rw [times_yes (by omega), iter_nxt hl h0, if_neg (by rw [h]; simp; omega), far]
theorem iter_bck {l : List Int} (hl : Up l) (h0 : ∀ x ∈ l, 0 ≤ x) (n : Nat) : ∀ p : Int, iter (bck l) n p = if n = 0 ∨ (l.filter fun x => decide (x < p)) = [] then p else ((l.filter fun x => decide (x < p))[(l.filter fun x => decide (x < p)).length - n]?).getD (-1) := by
  induction n with
  | zero => intro p; simp [iter]
  | succ n ih =>
    intro p
    rcases List.eq_nil_or_concat (l.filter fun x => decide (x < p)) with h | ⟨r, x, h⟩
    · have : bck l p < 0 := by rw [bck, h]; decide
      rw [iter_no this, h]; simp
    · rw [List.concat_eq_append] at h
      have hx : bck l p = x := by rw [bck, h]; simp
      have hx0 : 0 ≤ x := h0 x (mem_in (f := fun x => decide (x < p)) (by rw [h]; simp))
      rw [iter_yes (by omega), hx, ih, bck_snoc hl h, h]
      rw [if_neg (c := n + 1 = 0 ∨ r ++ [x] = []) (by simp)]
      by_cases hn : n = 0
      · subst hn; simp
      · cases r with
        | nil => simp
        | cons y r =>
          rw [if_neg (by simp [hn])]
          rw [List.length_append, List.length_singleton, show (y :: r).length + 1 - (n + 1) = (y :: r).length - n by omega, List.getElem?_append_left (by simp; omega)]
theorem farb_times {l : List Int} (hl : Up l) (h0 : ∀ x ∈ l, 0 ≤ x) (n : Nat) (hn : 1 ≤ n) (p : Int) : farb l p n = times (bck l) n p := by
  rcases List.eq_nil_or_concat (l.filter fun x => decide (x < p)) with h | ⟨r, x, h⟩
  · rw [times_no (by rw [bck, h]; decide), farb, if_pos h]
  · rw [List.concat_eq_append] at h
    have hx : bck l p = x := by rw [bck, h]; simp
    have hx0 : 0 ≤ x := h0 x (mem_in (f := fun x => decide (x < p)) (by rw [h]; simp))
    rw [times_yes (by omega), iter_bck hl h0, if_neg (by rw [h]; simp; omega), farb, if_neg (by rw [h]; simp)]
/-- One more place at the end, which may be there already. -/
theorem far_end (l : List Int) (e p : Int) (n : Nat) (hn : 1 ≤ n) : far (l ++ [e] ++ [e]) p n = far (l ++ [e]) p n := by
  unfold far
  rw [List.filter_append (l ++ [e])]
  by_cases h : p < e
  · rw [List.filter_cons_of_pos (by simpa using h), List.filter_nil]
    rw [List.filter_append, List.filter_cons_of_pos (by simpa using h), List.filter_nil]
    generalize (l.filter fun x => decide (p < x)) = r
    simp only [List.length_append, List.length_cons, List.length_nil]
    by_cases hle : n ≤ r.length + 1
    · rw [Nat.min_eq_left (by omega), Nat.min_eq_left (by omega), List.getElem?_append_left (by simp; omega)]
    · rw [Nat.min_eq_right (by omega), Nat.min_eq_right (by omega)]
      rw [List.getElem?_append_right (by simp), List.getElem?_append_right (by omega)]
      simp
  · rw [List.filter_cons_of_neg (by simpa using h), List.filter_nil, List.append_nil]
theorem nxt_end (l : List Int) (e p : Int) : nxt (l ++ [e] ++ [e]) p = nxt (l ++ [e]) p := by
  unfold nxt
  rw [List.filter_append (l ++ [e])]
  by_cases h : p < e
  · rw [List.filter_append, List.filter_cons_of_pos (by simpa using h), List.filter_nil]
    generalize (l.filter fun x => decide (p < x)) = r
    cases r <;> simp
  · rw [List.filter_cons_of_neg (by simpa using h), List.filter_nil, List.append_nil]
/-- A rising list that ends at e at most: with e behind it. -/
theorem far_more {l : List Int} {e : Int} (hl : Up l) (h0 : ∀ x ∈ l, 0 ≤ x ∧ x ≤ e) (he : 0 ≤ e) (p : Int) (n : Nat) (hn : 1 ≤ n) : far (l ++ [e]) p n = times (nxt (l ++ [e])) n p := by
  by_cases h : e ∈ l
  · obtain ⟨r, t, rfl⟩ := List.append_of_mem h
    have ht : t = [] := by
      cases t with
      | nil => rfl
      | cons y t =>
        have h1 := (List.pairwise_append.1 hl).2.1
        have h2 := (List.pairwise_cons.1 h1).1 y (by simp)
        have h3 := (h0 y (by simp)).2
        omega
    subst ht
    have hf : nxt (r ++ [e] ++ [e]) = nxt (r ++ [e]) := funext fun p => nxt_end r e p
    rw [far_end r e p n hn, hf]
    exact far_times hl (fun x hx => (h0 x hx).1) n hn p
  · refine far_times (List.pairwise_append.2 ⟨hl, by simp, fun x hx y hy => ?_⟩) (fun x hx => ?_) n hn p
    · have h1 : y = e := by simpa using hy
      subst h1
      have := (h0 x hx).2
      rcases Int.lt_or_eq_of_le this with h2 | h2
      · exact h2
      · exact absurd (h2 ▸ hx) h
    · rcases List.mem_append.1 hx with h1 | h1
      · exact (h0 x h1).1
      · have : x = e := by simpa using h1
        omega
theorem nxt_ge (l : List Int) (h0 : ∀ x ∈ l, 0 ≤ x) (p : Int) : -1 ≤ nxt l p := by
  unfold nxt
  cases h : l.filter fun x => decide (p < x) with
  | nil => simp
  | cons x r =>
    have := h0 x (mem_in (f := fun x => decide (p < x)) (by rw [h]; exact List.mem_cons_self))
    simp; omega
theorem bck_ge (l : List Int) (h0 : ∀ x ∈ l, 0 ≤ x) (p : Int) : -1 ≤ bck l p := by
  unfold bck
  rcases List.eq_nil_or_concat (l.filter fun x => decide (x < p)) with h | ⟨r, x, h⟩
  · rw [h]; simp
  · rw [List.concat_eq_append] at h
    have := h0 x (mem_in (f := fun x => decide (x < p)) (by rw [h]; simp))
    rw [h]; simp; omega
theorem nxt_mem {l : List Int} {p : Int} (h : 0 ≤ nxt l p) : nxt l p ∈ l := by
  unfold nxt at *
  cases h1 : l.filter fun x => decide (p < x) with
  | nil => rw [h1] at h; simp at h
  | cons x r => exact mem_in (f := fun x => decide (p < x)) (by rw [h1]; simp)
theorem bck_mem {l : List Int} {p : Int} (h : 0 ≤ bck l p) : bck l p ∈ l := by
  unfold bck at *
  rcases List.eq_nil_or_concat (l.filter fun x => decide (x < p)) with h1 | ⟨r, x, h1⟩
  · rw [h1] at h; simp at h
  · rw [List.concat_eq_append] at h1
    exact mem_in (f := fun x => decide (x < p)) (by rw [h1]; simp)
/-- Where on leads is a place of the list, or where it began. -/
theorem iter_mem {f : Int → Int} {l : List Int} (hf : ∀ p, 0 ≤ f p → f p ∈ l) (n : Nat) : ∀ p : Int, iter f n p ∈ l ∨ iter f n p = p := by
  induction n with
  | zero => intro p; exact .inr rfl
  | succ n ih =>
    intro p
    by_cases h : f p < 0
    · rw [iter_no h]; exact .inr rfl
    · rw [iter_yes h]
      rcases ih (f p) with h1 | h1
      · exact .inl h1
      · rw [h1]; exact .inl (hf p (by omega))
theorem nxt_at {a b : List Int} {x y : Int} (hl : Up (a ++ x :: y :: b)) : nxt (a ++ x :: y :: b) x = y := by
  unfold nxt
  have h1 := List.pairwise_append.1 hl
  have h2 := List.pairwise_cons.1 h1.2.1
  rw [List.filter_append, List.filter_eq_nil_iff.2 (fun z hz => by have := h1.2.2 z hz x (by simp); simp; omega)]
  rw [List.filter_cons_of_neg (by simp), List.filter_cons_of_pos (by have := h2.1 y (by simp); simpa using this)]
  rfl
theorem bck_at {a b : List Int} {x y : Int} (hl : Up (a ++ x :: y :: b)) : bck (a ++ x :: y :: b) y = x := by
  unfold bck
  have h1 := List.pairwise_append.1 hl
  have h2 := List.pairwise_cons.1 h1.2.1
  have h3 := List.pairwise_cons.1 h2.2
  have hxy := h2.1 y (by simp)
  rw [List.filter_append, List.filter_cons_of_pos (by simpa using hxy), List.filter_cons_of_neg (by simp), show (b.filter fun z => decide (z < y)) = [] from List.filter_eq_nil_iff.2 (fun z hz => by have := h3.1 z hz; simp; omega)]
  simp
end Hop
end Go.Proofs.Ytjkcdmlbnfibgaa
