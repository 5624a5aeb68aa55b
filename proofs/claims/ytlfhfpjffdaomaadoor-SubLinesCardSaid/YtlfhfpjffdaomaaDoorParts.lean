/-
  Bytes parted at line feeds, without a program.
-/
import Derived.Lib.IndexLaws
import Derived.Test.YtlfhfpjffdaomaaDoorEnds
namespace Go.Proofs.YtlfhfpjffdaomaaDoor
namespace Ix
/-- Bytes parted at line feeds. -/
def parts : List UInt8 → List (List UInt8)
  | [] => [[]]
  | c :: r => if c = 10 then [] :: parts r else (parts r).modify 0 (c :: ·)
theorem parts_pos (s : List UInt8) : 0 < (parts s).length := by
  induction s with
  | nil => simp [parts]
  | cons c r ih => simp only [parts]; split <;> simp [ih]
theorem parts_lens (s : List UInt8) : (parts s).map List.length = lens s := by
  induction s with
  | nil => rfl
  | cons c r ih =>
    simp only [parts, lens]
    split
    · simp [ih]
    · rw [← ih]
      cases parts r <;> simp
theorem parts_whole (a : List UInt8) (h : ∀ i : Nat, a[i]? ≠ some 10) : parts a = [a] := by
  induction a with
  | nil => rfl
  | cons c r ih =>
    have h0 : c ≠ 10 := fun e => h 0 (by simp [e])
    rw [parts, if_neg h0, ih (fun i => by have := h (i + 1); simpa using this)]
    rfl
theorem parts_cut (a r : List UInt8) (h : ∀ i : Nat, a[i]? ≠ some 10) : parts (a ++ 10 :: r) = a :: parts r := by
  induction a with
  | nil => simp [parts]
  | cons c q ih =>
    have h0 : c ≠ 10 := fun e => h 0 (by simp [e])
    rw [List.cons_append, parts, if_neg h0, ih (fun i => by have := h (i + 1); simpa using this)]
    rfl
theorem parts_none {s : List UInt8} (h : Lib.indexByte s 10 = -1) : parts s = [s] := parts_whole s (Lib.indexByte_none h)
theorem parts_some {s : List UInt8} {o : Nat} (h : Lib.indexByte s 10 = o) : o < s.length ∧ parts s = s.take o :: parts (s.drop (o + 1)) := by
  obtain ⟨h1, h2⟩ := Lib.indexByte_some h
  have h3 := (List.getElem?_eq_some_iff.1 h1).1
  refine ⟨h3, ?_⟩
  have e : s = s.take o ++ 10 :: s.drop (o + 1) := by
    have := List.drop_eq_getElem_cons h3
    rw [(List.getElem?_eq_some_iff.1 h1).2] at this
    rw [← this, List.take_append_drop]
  conv => lhs; rw [e]
  refine parts_cut _ _ fun i hi => ?_
  rw [List.getElem?_take] at hi
  split at hi
  · exact h2 i (by assumption) hi
  · cases hi
theorem parts_length (s : List UInt8) : (parts s).length = s.count 10 + 1 := by
  have := congrArg List.length (parts_lens s)
  rw [List.length_map, lens_length] at this
  exact this
/-- Pairs of starts and ends, of lines that end so, the first of which starts at f. -/
def pairs (f : Nat) : List Nat → List (Nat × Nat)
  | [] => []
  | e :: r => (f, e) :: pairs (e + 1) r
theorem pairs_length (f : Nat) (l : List Nat) : (pairs f l).length = l.length := by
  induction l generalizing f with
  | nil => rfl
  | cons e r ih => simp [pairs, ih]
theorem pairs_get (f : Nat) (l : List Nat) (k : Nat) (h : k < l.length) : (pairs f l)[k]? = some (if k = 0 then f else l.getD (k - 1) 0 + 1, l.getD k 0) := by
  induction l generalizing f k with
  | nil => simp at h
  | cons e r ih =>
    cases k with
    | zero => simp [pairs]
    | succ k =>
      simp only [pairs, List.getElem?_cons_succ]
      rw [ih (e + 1) k (by simpa using h)]
      cases k with
      | zero => simp
      | succ k => simp
/-- All lines of bytes. -/
def all (t : List UInt8) : List (Nat × Nat) := pairs 0 (ends t)
theorem all_length (t : List UInt8) : (all t).length = (ends t).length := pairs_length _ _
theorem all_get {t : List UInt8} {k : Nat} (h : k < (ends t).length) : (all t)[k]? = some (start t k, stop t k) := pairs_get 0 (ends t) k h
theorem nls_here {t : List UInt8} {p : Nat} (h : t[p]? = some 10) : nls p (t.drop p) = p :: nls (p + 1) (t.drop (p + 1)) := by
  obtain ⟨hi, hb⟩ := List.getElem?_eq_some_iff.1 h
  rw [List.drop_eq_getElem_cons hi, hb, nls, if_pos rfl]
theorem nls_not {t : List UInt8} {p : Nat} {b : UInt8} (h : t[p]? = some b) (hb : b ≠ 10) : nls p (t.drop p) = nls (p + 1) (t.drop (p + 1)) := by
  obtain ⟨hi, hc⟩ := List.getElem?_eq_some_iff.1 h
  rw [List.drop_eq_getElem_cons hi, hc, nls, if_neg hb]
/-- How far a loop over bytes has come: these lines are done; the next one began at a. -/
def Come (t : List UInt8) (R done : List (Nat × Nat)) (a p : Nat) : Prop := (p ≤ t.length ∧ R = done ++ pairs a (nls p (t.drop p) ++ [t.length])) ∨ (p = t.length + 1 ∧ R = done)
theorem come_start (t : List UInt8) : Come t (all t) [] 0 0 := Or.inl ⟨Nat.zero_le _, by simp [all, ends]⟩
theorem come_end {t : List UInt8} {R done : List (Nat × Nat)} {a : Nat} (h : R = done ++ pairs a (nls t.length (t.drop t.length) ++ [t.length])) : Come t R (done ++ [(a, t.length)]) (t.length + 1) (t.length + 1) :=
  Or.inr ⟨rfl, by rw [h]; simp [nls, pairs]⟩
theorem come_here {t : List UInt8} {R done : List (Nat × Nat)} {a p : Nat} (h : R = done ++ pairs a (nls p (t.drop p) ++ [t.length])) (hp : t[p]? = some 10) : Come t R (done ++ [(a, p)]) (p + 1) (p + 1) :=
  Or.inl ⟨(List.getElem?_eq_some_iff.1 hp).1, by rw [h, nls_here hp]; simp [pairs]⟩
theorem come_not {t : List UInt8} {R done : List (Nat × Nat)} {a p : Nat} {b : UInt8} (h : R = done ++ pairs a (nls p (t.drop p) ++ [t.length])) (hp : t[p]? = some b) (hb : b ≠ 10) : Come t R done a (p + 1) :=
  Or.inl ⟨(List.getElem?_eq_some_iff.1 hp).1, by rw [h, nls_not hp hb]⟩
/-- The order of starts and ends. -/
theorem sorted_lt {l : List Nat} (h : l.Pairwise (· < ·)) {i j : Nat} (hij : i < j) (hj : j < l.length) : l.getD i 0 < l.getD j 0 := by
  have hi : i < l.length := by omega
  have := List.pairwise_iff_getElem.1 h i j hi hj hij
  rw [List.getD_eq_getElem?_getD, List.getD_eq_getElem?_getD, List.getElem?_eq_getElem hi, List.getElem?_eq_getElem hj]
  exact this
theorem line_here {t : List UInt8} {p k : Nat} (hk : k < (ends t).length) (h1 : start t k ≤ p) (h2 : p ≤ stop t k) : p ≤ t.length ∧ line t p = k := by
  have hs := ends_sorted t
  have hm : stop t k ∈ ends t := by
    rw [stop, List.getD_eq_getElem?_getD, List.getElem?_eq_getElem hk]
    exact List.getElem_mem hk
  have hp : p ≤ t.length := Nat.le_trans h2 (ends_mem hm)
  refine ⟨hp, ?_⟩
  have hl := line_lt hp
  have hge := le_stop hp
  have hle := start_le hp
  rcases Nat.lt_trichotomy (line t p) k with h | h | h
  · have h3 : stop t (line t p) < start t k := by
      unfold start
      rw [if_neg (by omega)]
      rcases Nat.lt_or_ge (line t p) (k - 1) with h4 | h4
      · have := sorted_lt hs h4 (by omega)
        unfold stop; omega
      · rw [show k - 1 = line t p by omega]; unfold stop; omega
    omega
  · exact h
  · have h3 : stop t k < start t (line t p) := by
      unfold start
      rw [if_neg (by omega)]
      rcases Nat.lt_or_ge k (line t p - 1) with h4 | h4
      · have := sorted_lt hs h4 (by omega)
        unfold stop; omega
      · rw [show line t p - 1 = k by omega]; unfold stop; omega
    omega
/-- An end is in its line. -/
theorem line_stop {t : List UInt8} {k : Nat} (hk : k < (ends t).length) : line t (stop t k) = k ∧ stop t k ≤ t.length := by
  have hs : start t k ≤ stop t k := by
    unfold start
    split
    · exact Nat.zero_le _
    · have := sorted_lt (ends_sorted t) (i := k - 1) (j := k) (by omega) hk
      unfold stop; omega
  have := line_here hk hs (Nat.le_refl _)
  exact ⟨this.2, this.1⟩
end Ix
end Go.Proofs.YtlfhfpjffdaomaaDoor
