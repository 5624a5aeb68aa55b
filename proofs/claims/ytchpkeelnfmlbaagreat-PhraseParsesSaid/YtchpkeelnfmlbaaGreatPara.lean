/-
  Blocks of lines, without a program: which lines are empty, the blocks as one goes through where lines start, the block of a line, and where motions by paragraphs lead.
-/
import Derived.Test.YtchpkeelnfmlbaaGreatLine
namespace Go.Proofs.YtchpkeelnfmlbaaGreat
namespace Para
/-- Is line j empty; where does it start? -/
def emp (s : List UInt8) (j : Nat) : Bool := match (Line.L s)[j]? with | some x => decide (x.1 = x.2) | none => false
def at_ (s : List UInt8) (j : Nat) : Nat := match (Line.L s)[j]? with | some x => x.1 | none => 0
/-- Is the line that starts at x empty? -/
def bare (s : List UInt8) (x : Nat) : Bool := decide (x = s.length ∨ s[x]? = some 10)
theorem emp_at {s : List UInt8} {j : Nat} {x : Nat × Nat} (h : (Line.L s)[j]? = some x) : emp s j = decide (x.1 = x.2) := by rw [emp, h]
theorem at_at {s : List UInt8} {j : Nat} {x : Nat × Nat} (h : (Line.L s)[j]? = some x) : at_ s j = x.1 := by rw [at_, h]
theorem bare_emp {s : List UInt8} {j : Nat} {x : Nat × Nat} (h : (Line.L s)[j]? = some x) : bare s x.1 = emp s j := by
  rw [emp_at h, bare]
  have W := Line.L_whole (Line.L_valid h)
  obtain ⟨_, h1, h2, h3⟩ := W.each j x h
  by_cases he : x.1 = x.2
  · have : x.1 = s.length ∨ s[x.1]? = some 10 := by
      cases hy : (Line.L s)[j + 1]? with
      | none => exact .inl (he.trans (W.last j x h hy))
      | some y => exact .inr (he ▸ (W.more j x y h hy).2)
    rw [decide_eq_true this, decide_eq_true he]
  · have : ¬ (x.1 = s.length ∨ s[x.1]? = some 10) := by
      rintro (h4 | h4)
      · omega
      · exact h3 x.1 (Nat.le_refl _) (by omega) h4
    rw [decide_eq_false this, decide_eq_false he]
/-- A block: is it empty, its first and last line, and where these start. -/
structure Bl where
  e : Bool
  f : Nat
  l : Nat
  fa : Nat
  la : Nat
/-- One line more. -/
def step (s : List UInt8) (r : List Bl × Bl × Nat) (x : Nat) : List Bl × Bl × Nat :=
  if bare s x = r.2.1.e then (r.1, { r.2.1 with l := r.2.2, la := x }, r.2.2 + 1) else (r.1 ++ [r.2.1], ⟨!r.2.1.e, r.2.2, r.2.2, x, x⟩, r.2.2 + 1)
def run (s : List UInt8) (pre : List Nat) : List Bl × Bl × Nat := pre.foldl (step s) ([], ⟨bare s 0, 0, 0, 0, 0⟩, 0)
theorem run_nil (s : List UInt8) : run s [] = ([], ⟨bare s 0, 0, 0, 0, 0⟩, 0) := rfl
theorem run_snoc (s : List UInt8) (pre : List Nat) (x : Nat) : run s (pre ++ [x]) = step s (run s pre) x := by rw [run, run, List.foldl_append]; rfl
theorem run_count (s : List UInt8) (pre : List Nat) : (run s pre).2.2 = pre.length := by
  obtain ⟨n, hn⟩ : ∃ n, pre.length = n := ⟨_, rfl⟩
  induction n generalizing pre with
  | zero => rw [List.length_eq_zero_iff.1 hn]; rfl
  | succ n ih =>
    rcases List.eq_nil_or_concat pre with rfl | ⟨q, x, rfl⟩
    · cases hn
    · rw [List.concat_eq_append] at hn ⊢
      rw [List.length_append, List.length_singleton] at hn
      have := ih q (by omega)
      rw [run_snoc, step]
      split <;> · simp [this]
theorem run_le (s : List UInt8) (pre : List Nat) : (run s pre).1.length ≤ pre.length := by
  obtain ⟨n, hn⟩ : ∃ n, pre.length = n := ⟨_, rfl⟩
  induction n generalizing pre with
  | zero => rw [List.length_eq_zero_iff.1 hn]; simp [run]
  | succ n ih =>
    rcases List.eq_nil_or_concat pre with rfl | ⟨q, x, rfl⟩
    · cases hn
    · rw [List.concat_eq_append] at hn ⊢
      rw [List.length_append, List.length_singleton] at hn
      have := ih q (by omega)
      rw [run_snoc, step, List.length_append]
      split <;> simp <;> omega
theorem step_prefix (s : List UInt8) (r : List Bl × Bl × Nat) (x : Nat) : r.1 <+: (step s r x).1 := by
  rw [step]; split
  · exact List.prefix_refl _
  · exact List.prefix_append _ _
theorem fold_prefix (s : List UInt8) (t : List Nat) (r : List Bl × Bl × Nat) : r.1 <+: (t.foldl (step s) r).1 := by
  induction t generalizing r with
  | nil => exact List.prefix_refl _
  | cons x t ih => exact (step_prefix s r x).trans (ih _)
theorem run_prefix {s : List UInt8} {pre L : List Nat} (h : pre <+: L) : (run s pre).1 <+: (run s L).1 := by
  obtain ⟨t, rfl⟩ := h
  rw [run, run, List.foldl_append]
  exact fold_prefix s t _
/-- Where lines start. -/
def S (s : List UInt8) : List Nat := (Line.L s).map fun x => x.1
/-- All blocks. -/
def all (s : List UInt8) : List Bl := (run s (S s)).1 ++ [(run s (S s)).2.1]
theorem all_length (s : List UInt8) : (all s).length ≤ s.length + 2 := by
  have h1 := run_le s (S s)
  have h2 := Line.L_length s
  rw [S, List.length_map] at h1
  rw [all, List.length_append, List.length_singleton, S]
  omega

/-- What a block is, of lines that are empty as E tells and start as A tells. -/
structure Good (E : Nat → Bool) (A : Nat → Nat) (b : Bl) : Prop where
  le : b.f ≤ b.l
  same : ∀ j, b.f ≤ j → j ≤ b.l → E j = b.e
  fa : b.fa = A b.f
  la : b.la = A b.l
  ahead : b.f = 0 ∨ E (b.f - 1) = !b.e
structure Inv (E : Nat → Bool) (A : Nat → Nat) (r : List Bl × Bl × Nat) : Prop where
  good : Good E A r.2.1
  last : r.2.1.l + 1 = r.2.2
  each : ∀ x ∈ r.1, Good E A x ∧ E (x.l + 1) = !x.e ∧ x.l < r.2.1.f
  cover : ∀ j, j < r.2.1.f → ∃ x ∈ r.1, x.f ≤ j ∧ j ≤ x.l
  sorted : r.1.Pairwise fun x y => x.l < y.f
theorem Inv.step {s : List UInt8} {E : Nat → Bool} {A : Nat → Nat} {r : List Bl × Bl × Nat} (h : Inv E A r) {x : Nat} (hx : x = A r.2.2) (he : bare s x = E r.2.2) : Inv E A (step s r x) := by
  obtain ⟨out, b, k⟩ := r
  obtain ⟨hg, hl, hc, hv, hs⟩ := h
  dsimp only at *
  rw [Para.step]
  dsimp only
  by_cases hb : bare s x = b.e
  · rw [if_pos hb]
    refine ⟨⟨by show b.f ≤ k; have := hg.le; omega, fun j h1 h2 => ?_, hg.fa, hx, hg.ahead⟩, rfl, hc, hv, hs⟩
    rcases Nat.lt_or_ge b.l j with h3 | h3
    · have : j = k := by simp only at h2; omega
      rw [this, ← he, hb]
    · exact hg.same j h1 h3
  · rw [if_neg hb]
    have hne : bare s x = !b.e := by cases h1 : bare s x <;> cases h2 : b.e <;> simp_all
    refine ⟨⟨Nat.le_refl _, fun j h1 h2 => ?_, hx, hx, ?_⟩, rfl, fun y hy => ?_, fun j hj => ?_, ?_⟩
    · have : j = k := by simp only at h1 h2; omega
      rw [this, ← he, hne]
    · refine .inr ?_
      show E (k - 1) = !!b.e
      rw [show k - 1 = b.l by omega, hg.same b.l hg.le (Nat.le_refl _), Bool.not_not]
    · rcases List.mem_append.1 hy with h1 | h1
      · obtain ⟨q1, q2, q3⟩ := hc y h1
        exact ⟨q1, q2, by show y.l < k; have := hg.le; omega⟩
      · rw [List.mem_singleton] at h1
        subst h1
        refine ⟨hg, ?_, by show y.l < k; omega⟩
        rw [hl, ← he, hne]
    · simp only at hj
      rcases Nat.lt_or_ge j b.f with h1 | h1
      · obtain ⟨y, hy, h2⟩ := hv j h1
        exact ⟨y, List.mem_append_left _ hy, h2⟩
      · exact ⟨b, List.mem_append_right _ (List.mem_singleton.2 rfl), h1, by omega⟩
    · rw [List.pairwise_append]
      refine ⟨hs, List.pairwise_singleton _ _, fun y hy z hz => ?_⟩
      rw [List.mem_singleton] at hz
      subst hz
      exact (hc y hy).2.2
theorem run_inv {s : List UInt8} (hv : Utf.valid s = true) (k : Nat) (hk : k < (Line.L s).length) : Inv (emp s) (at_ s) (run s ((S s).take (k + 1))) := by
  have hx : ∀ j, j < (Line.L s).length → ∃ x, (Line.L s)[j]? = some x ∧ (S s).take (j + 1) = (S s).take j ++ [x.1] := fun j hj => by
    refine ⟨(Line.L s)[j], List.getElem?_eq_getElem hj, ?_⟩
    rw [List.take_add_one]
    simp [S, List.getElem?_map, List.getElem?_eq_getElem hj]
  induction k with
  | zero =>
    obtain ⟨x, h1, h2⟩ := hx 0 hk
    obtain ⟨z, hz, h0⟩ := (Line.L_whole hv).head
    rw [hz] at h1; cases h1
    rw [h2, List.take_zero, run_snoc, run_nil, step, h0, if_pos rfl]
    have e0 := bare_emp hz
    have a0 := at_at hz
    rw [h0] at e0 a0
    refine ⟨⟨Nat.le_refl _, fun j h3 h4 => ?_, a0.symm, a0.symm, .inl rfl⟩, rfl, fun y hy => (by cases hy), fun j hj => absurd hj (Nat.not_lt_zero _), List.Pairwise.nil⟩
    have : j = 0 := by simp only at h4; omega
    rw [this]; exact e0.symm
  | succ k ih =>
    obtain ⟨x, h1, h2⟩ := hx (k + 1) hk
    rw [h2, run_snoc]
    have hc : (run s ((S s).take (k + 1))).2.2 = k + 1 := by rw [run_count, List.length_take, S, List.length_map]; omega
    refine (ih (by omega)).step ?_ ?_
    · rw [hc, at_at h1]
    · rw [hc, bare_emp h1]
/-- What all blocks are. -/
structure Right (E : Nat → Bool) (A : Nat → Nat) (B : List Bl) (m : Nat) : Prop where
  each : ∀ x ∈ B, Good E A x ∧ x.l < m ∧ (x.l + 1 = m ∨ E (x.l + 1) = !x.e)
  cover : ∀ j, j < m → ∃ x ∈ B, x.f ≤ j ∧ j ≤ x.l
  sorted : B.Pairwise fun x y => x.l < y.f
theorem all_right {s : List UInt8} (hv : Utf.valid s = true) : Right (emp s) (at_ s) (all s) (Line.L s).length := by
  have hp := (Line.L_whole hv).pos
  have I := run_inv hv ((Line.L s).length - 1) (by omega)
  rw [show (Line.L s).length - 1 + 1 = (Line.L s).length by omega, List.take_of_length_le (by rw [S, List.length_map]; exact Nat.le_refl _)] at I
  have hc : (run s (S s)).2.2 = (Line.L s).length := by rw [run_count, S, List.length_map]
  have hl := I.last
  rw [hc] at hl
  have hg := I.good.le
  refine ⟨fun x hx => ?_, fun j hj => ?_, ?_⟩
  · rcases List.mem_append.1 hx with h | h
    · obtain ⟨q1, q2, q3⟩ := I.each x h
      exact ⟨q1, by omega, .inr q2⟩
    · rw [List.mem_singleton] at h
      subst h
      exact ⟨I.good, by omega, .inl hl⟩
  · rcases Nat.lt_or_ge j (run s (S s)).2.1.f with h | h
    · obtain ⟨x, hx, h1⟩ := I.cover j h
      exact ⟨x, List.mem_append_left _ hx, h1⟩
    · exact ⟨_, List.mem_append_right _ (List.mem_singleton.2 rfl), h, by omega⟩
  · rw [all, List.pairwise_append]
    refine ⟨I.sorted, List.pairwise_singleton _ _, fun y hy z hz => ?_⟩
    rw [List.mem_singleton] at hz
    subst hz
    exact (I.each y hy).2.2

/-- The block of line k goes from a to b. -/
structure IsBl (E : Nat → Bool) (m k a b : Nat) : Prop where
  le : a ≤ k
  ge : k ≤ b
  lt : b < m
  same : ∀ j, a ≤ j → j ≤ b → E j = E k
  ahead : a = 0 ∨ E (a - 1) ≠ E k
  behind : b + 1 = m ∨ E (b + 1) ≠ E k
theorem IsBl.unique {E : Nat → Bool} {m k a b c d : Nat} (h : IsBl E m k a b) (g : IsBl E m k c d) : a = c ∧ b = d := by
  have h1 : ¬ a < c := fun hlt => by
    rcases g.ahead with e | e
    · omega
    · exact e (h.same (c - 1) (by omega) (by have := g.le; have := h.ge; omega))
  have h2 : ¬ c < a := fun hlt => by
    rcases h.ahead with e | e
    · omega
    · exact e (g.same (a - 1) (by omega) (by have := h.le; have := g.ge; omega))
  have h3 : ¬ b < d := fun hlt => by
    rcases h.behind with e | e
    · have := g.lt; omega
    · exact e (g.same (b + 1) (by have := g.le; have := h.ge; omega) (by omega))
  have h4 : ¬ d < b := fun hlt => by
    rcases g.behind with e | e
    · have := h.lt; omega
    · exact e (h.same (d + 1) (by have := h.le; have := g.ge; omega) (by omega))
  exact ⟨by omega, by omega⟩
/-- The block of each of its lines. -/
theorem IsBl.of_ {E : Nat → Bool} {m k a b j : Nat} (h : IsBl E m k a b) (h1 : a ≤ j) (h2 : j ≤ b) : IsBl E m j a b := by
  have hj := h.same j h1 h2
  exact ⟨h1, h2, h.lt, fun i h3 h4 => (h.same i h3 h4).trans hj.symm, by rw [hj]; exact h.ahead, by rw [hj]; exact h.behind⟩
theorem mem_at {B : List Bl} {i : Nat} {b : Bl} (hi : B[i]? = some b) : b ∈ B := by
  obtain ⟨h1, rfl⟩ := List.getElem?_eq_some_iff.1 hi
  exact List.getElem_mem h1
section
variable {E : Nat → Bool} {A : Nat → Nat} {B : List Bl} {m : Nat} (R : Right E A B m)
include R
theorem Right.is {b : Bl} (hb : b ∈ B) {k : Nat} (h1 : b.f ≤ k) (h2 : k ≤ b.l) : IsBl E m k b.f b.l := by
  obtain ⟨g, hl, hn⟩ := R.each b hb
  have hk := g.same k h1 h2
  refine ⟨h1, h2, hl, fun j h3 h4 => (g.same j h3 h4).trans hk.symm, ?_, ?_⟩
  · rcases g.ahead with e | e
    · exact .inl e
    · exact .inr (by rw [e, hk]; cases b.e <;> simp)
  · rcases hn with e | e
    · exact .inl e
    · exact .inr (by rw [e, hk]; cases b.e <;> simp)
theorem Right.less {i j : Nat} {b c : Bl} (hi : B[i]? = some b) (hj : B[j]? = some c) (h : i < j) : b.l < c.f := by
  obtain ⟨h1, rfl⟩ := List.getElem?_eq_some_iff.1 hi
  obtain ⟨h2, rfl⟩ := List.getElem?_eq_some_iff.1 hj
  exact List.pairwise_iff_getElem.1 R.sorted i j h1 h2 h
theorem Right.find {k : Nat} (hk : k < m) : ∃ (i : Nat) (b : Bl), B[i]? = some b ∧ b.f ≤ k ∧ k ≤ b.l ∧ ∀ (j : Nat) (c : Bl), j < i → B[j]? = some c → c.l < k := by
  obtain ⟨b, hb, h1, h2⟩ := R.cover k hk
  obtain ⟨i, hi, rfl⟩ := List.mem_iff_getElem.1 hb
  exact ⟨i, _, List.getElem?_eq_getElem hi, h1, h2, fun j c hj hc => by have := R.less hc (List.getElem?_eq_getElem hi) hj; omega⟩
theorem Right.next {i : Nat} {b c : Bl} (hi : B[i]? = some b) (hc : B[i + 1]? = some c) : b.l + 1 < m ∧ c.f ≤ b.l + 1 ∧ b.l + 1 ≤ c.l := by
  have h1 := R.less hi hc (by omega)
  have h2 := (R.each c (mem_at hc)).1.le
  have h3 := (R.each c (mem_at hc)).2.1
  obtain ⟨d, hd, h4, h5⟩ := R.cover (b.l + 1) (by omega)
  obtain ⟨j, hj, rfl⟩ := List.mem_iff_getElem.1 hd
  have hjg := List.getElem?_eq_getElem hj
  have hb := (R.each b (mem_at hi)).1.le
  rcases Nat.lt_trichotomy j (i + 1) with h | h | h
  · rcases Nat.lt_or_ge j i with h6 | h6
    · have := R.less hjg hi h6; omega
    · have : j = i := by omega
      subst this
      rw [hjg] at hi; cases hi; omega
  · subst h
    rw [hjg] at hc; cases hc
    exact ⟨by omega, h4, h5⟩
  · have := R.less hc hjg h; omega
theorem Right.end_ {i : Nat} {b : Bl} (hi : B[i]? = some b) (hc : B[i + 1]? = none) : b.l + 1 = m := by
  have h3 := (R.each b (mem_at hi)).2.1
  have hb := (R.each b (mem_at hi)).1.le
  rcases Nat.lt_or_ge (b.l + 1) m with h | h
  · obtain ⟨d, hd, h4, h5⟩ := R.cover (b.l + 1) h
    obtain ⟨j, hj, rfl⟩ := List.mem_iff_getElem.1 hd
    have hjg := List.getElem?_eq_getElem hj
    have hlen := List.getElem?_eq_none_iff.1 hc
    rcases Nat.lt_or_ge j i with h6 | h6
    · have := R.less hjg hi h6; omega
    · have : j = i := by omega
      subst this
      rw [hjg] at hi; cases hi; omega
  · omega
theorem Right.prev {i : Nat} {b c : Bl} (hi : B[i + 1]? = some b) (hc : B[i]? = some c) : 0 < b.f ∧ c.f ≤ b.f - 1 ∧ b.f - 1 ≤ c.l := by
  have h1 := R.less hc hi (by omega)
  obtain ⟨h2, h3, h4⟩ := R.next hc hi
  have := (R.each c (mem_at hc)).1.le
  exact ⟨by omega, by omega, by omega⟩
theorem Right.first {b : Bl} (hi : B[0]? = some b) : b.f = 0 := by
  rcases Nat.eq_zero_or_pos b.f with h | h
  · exact h
  · have h3 := (R.each b (mem_at hi)).2.1
    have hb := (R.each b (mem_at hi)).1.le
    obtain ⟨d, hd, h4, h5⟩ := R.cover (b.f - 1) (by omega)
    obtain ⟨j, hj, rfl⟩ := List.mem_iff_getElem.1 hd
    have hjg := List.getElem?_eq_getElem hj
    rcases Nat.eq_zero_or_pos j with h6 | h6
    · subst h6
      rw [hjg] at hi; cases hi; omega
    · have := R.less hi hjg h6; omega
end
/-- The block of line k, alone and with another one, out of all blocks. -/
def blockV (B : List Bl) (k : Nat) (two : Bool) : Nat × Nat :=
  match B.findIdx? fun b => decide (k ≤ b.l) with
  | none => (0, 0)
  | some i => match B[i]? with
    | none => (0, 0)
    | some b => if two then (match B[i + 1]? with
        | some c => (b.f, c.l)
        | none => if i = 0 then (b.f, b.l) else match B[i - 1]? with | some c => (c.f, b.l) | none => (0, 0)) else (b.f, b.l)
theorem Right.idx {E : Nat → Bool} {A : Nat → Nat} {B : List Bl} {m : Nat} (R : Right E A B m) {k : Nat} (hk : k < m) : ∃ (i : Nat) (b : Bl), B[i]? = some b ∧ b.f ≤ k ∧ k ≤ b.l ∧ (∀ (j : Nat) (c : Bl), j < i → B[j]? = some c → c.l < k) ∧ (B.findIdx? fun b => decide (k ≤ b.l)) = some i := by
  obtain ⟨i, b, hi, h1, h2, h3⟩ := R.find hk
  refine ⟨i, b, hi, h1, h2, h3, ?_⟩
  obtain ⟨h4, h5⟩ := List.getElem?_eq_some_iff.1 hi
  rw [List.findIdx?_eq_some_iff_getElem]
  refine ⟨h4, by rw [h5]; simp [h2], fun j hj => ?_⟩
  have := h3 j _ hj (List.getElem?_eq_getElem (by omega))
  simp; omega
theorem Right.block {E : Nat → Bool} {A : Nat → Nat} {B : List Bl} {m : Nat} (R : Right E A B m) {k : Nat} (hk : k < m) : IsBl E m k (blockV B k false).1 (blockV B k false).2 := by
  obtain ⟨i, b, hi, h1, h2, _, h4⟩ := R.idx hk
  rw [blockV, h4]
  simp only [hi, Bool.false_eq_true, if_false]
  exact R.is (mem_at hi) h1 h2
theorem Right.block_two {E : Nat → Bool} {A : Nat → Nat} {B : List Bl} {m : Nat} (R : Right E A B m) {k a b : Nat} (h : IsBl E m k a b) :
    (∀ c d, b + 1 < m → IsBl E m (b + 1) c d → blockV B k true = (a, d)) ∧ (∀ c d, b + 1 = m → 0 < a → IsBl E m (a - 1) c d → blockV B k true = (c, b)) ∧ (b + 1 = m → a = 0 → blockV B k true = (a, b)) := by
  obtain ⟨i, x, hi, h1, h2, _, h4⟩ := R.idx (Nat.lt_of_le_of_lt h.ge h.lt)
  obtain ⟨rfl, rfl⟩ := h.unique (R.is (mem_at hi) h1 h2)
  rw [blockV, h4]
  simp only [hi, if_true]
  cases hn : B[i + 1]? with
  | some y =>
    obtain ⟨q1, q2, q3⟩ := R.next hi hn
    refine ⟨fun c d _ hd => ?_, fun c d e => by omega, fun e => by omega⟩
    obtain ⟨rfl, rfl⟩ := hd.unique (R.is (mem_at hn) q2 q3)
    rfl
  | none =>
    have he := R.end_ hi hn
    refine ⟨fun c d e => by omega, fun c d _ e hd => ?_, fun _ e => ?_⟩
    · cases i with
      | zero => have := R.first hi; omega
      | succ i =>
        have hlt := (List.getElem?_eq_some_iff.1 hi).1
        have hz : B[i]? = some B[i] := List.getElem?_eq_getElem (by omega)
        obtain ⟨q1, q2, q3⟩ := R.prev hi hz
        obtain ⟨rfl, rfl⟩ := hd.unique (R.is (mem_at hz) q2 q3)
        simp only [Nat.add_sub_cancel, hz]
        simp
    · cases i with
      | zero => simp
      | succ i =>
        have hlt := (List.getElem?_eq_some_iff.1 hi).1
        have hz : B[i]? = some B[i] := List.getElem?_eq_getElem (by omega)
        have := (R.prev hi hz).1
        omega
end Para
end Go.Proofs.YtchpkeelnfmlbaaGreat
