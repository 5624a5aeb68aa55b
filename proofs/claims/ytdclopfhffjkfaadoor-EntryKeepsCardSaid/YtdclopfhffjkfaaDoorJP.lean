/-
  Where lines of bytes end, without a program: places of line feeds, lengths of lines, and what becomes of them where bytes take the place of others.
-/
import Derived.Test.YtdclopfhffjkfaaDoorBase
import Derived.Lib.IndexLaws
import Derived.Test.YtdclopfhffjkfaaDoorLineCalls
import Derived.Test.YtdclopfhffjkfaaDoorClass
import Derived.Test.YtdclopfhffjkfaaDoorKey
import Derived.Test.YtdclopfhffjkfaaDoorUtfPlaces
namespace Go.Proofs.YtdclopfhffjkfaaDoor
namespace Ix
/-- The places of line feeds; the first byte stands at o. -/
def nls (o : Nat) : List UInt8 → List Nat
  | [] => []
  | c :: r => if c = 10 then o :: nls (o + 1) r else nls (o + 1) r
/-- Where lines end. -/
def ends (t : List UInt8) : List Nat := nls 0 t ++ [t.length]
/-- How long lines are. -/
def lens : List UInt8 → List Nat
  | [] => [0]
  | c :: r => if c = 10 then 0 :: lens r else (lens r).modify 0 (· + 1)
/-- Where lines of these lengths end, the first of which starts at o. -/
def lay (o : Nat) : List Nat → List Nat
  | [] => []
  | n :: r => (o + n) :: lay (o + n + 1) r
theorem nls_append (a b : List UInt8) (o : Nat) : nls o (a ++ b) = nls o a ++ nls (o + a.length) b := by
  induction a generalizing o with
  | nil => simp [nls]
  | cons c r ih =>
    simp only [List.cons_append, nls, List.length_cons]
    rw [ih, show o + 1 + r.length = o + (r.length + 1) by omega]
    split <;> simp
theorem nls_shift (s : List UInt8) (o d : Nat) : nls (o + d) s = (nls o s).map (· + d) := by
  induction s generalizing o with
  | nil => rfl
  | cons c r ih =>
    simp only [nls]
    rw [show o + d + 1 = o + 1 + d by omega, ih]
    split <;> simp
theorem nls_mem {s : List UInt8} {o x : Nat} (h : x ∈ nls o s) : o ≤ x ∧ x < o + s.length := by
  induction s generalizing o with
  | nil => simp [nls] at h
  | cons c r ih =>
    simp only [nls] at h
    split at h
    · rcases List.mem_cons.1 h with h | h
      · subst h; simp
      · have := ih h; simp; omega
    · have := ih h; simp; omega
theorem nls_sorted (s : List UInt8) (o : Nat) : (nls o s).Pairwise (· < ·) := by
  induction s generalizing o with
  | nil => exact List.Pairwise.nil
  | cons c r ih =>
    simp only [nls]
    split
    · exact List.pairwise_cons.2 ⟨fun x hx => by have := nls_mem hx; omega, ih _⟩
    · exact ih _
theorem nls_length (s : List UInt8) (o : Nat) : (nls o s).length = s.count 10 := by
  induction s generalizing o with
  | nil => rfl
  | cons c r ih =>
    simp only [nls]
    split
    · rename_i h; subst h; simp [ih]
    · rename_i h; rw [ih, List.count_cons_of_ne h]
theorem ends_sorted (t : List UInt8) : (ends t).Pairwise (· < ·) := by
  rw [ends, List.pairwise_append]
  refine ⟨nls_sorted t 0, List.pairwise_singleton _ _, fun x hx y hy => ?_⟩
  have := nls_mem hx
  simp at hy
  omega
theorem ends_length (t : List UInt8) : (ends t).length = t.count 10 + 1 := by rw [ends, List.length_append, nls_length]; rfl
theorem ends_pos (t : List UInt8) : 0 < (ends t).length := by rw [ends_length]; omega
theorem ends_le (t : List UInt8) : (ends t).length ≤ t.length + 1 := by
  rw [ends_length]
  have := List.count_le_length (a := (10 : UInt8)) (l := t)
  omega
theorem ends_mem {t : List UInt8} {x : Nat} (h : x ∈ ends t) : x ≤ t.length := by
  rw [ends, List.mem_append] at h
  rcases h with h | h
  · have := nls_mem h; omega
  · simp at h; omega
theorem ends_last (t : List UInt8) : (ends t)[(ends t).length - 1]? = some t.length := by
  rw [ends, List.length_append, List.getElem?_append_right (by simp)]
  simp
theorem lens_length (s : List UInt8) : (lens s).length = s.count 10 + 1 := by
  induction s with
  | nil => rfl
  | cons c r ih =>
    simp only [lens]
    split
    · rename_i h; subst h; simp [ih]
    · rename_i h; rw [List.length_modify, ih, List.count_cons_of_ne h]
theorem lens_pos (s : List UInt8) : 0 < (lens s).length := by rw [lens_length]; omega
/-- What is ahead of the first line, and behind the last one, is put to them. -/
def wide (x y : Nat) (l : List Nat) : List Nat := (l.modify 0 (· + x)).modify (l.length - 1) (· + y)
theorem modify_modify (l : List Nat) (x y : Nat) : (l.modify 0 (· + x)).modify 0 (· + y) = l.modify 0 (· + (x + y)) := by
  cases l with
  | nil => rfl
  | cons n r => simp [Nat.add_assoc]
theorem lay_wide (s : List UInt8) (o x y : Nat) : lay o (wide x y (lens s)) = nls (o + x) s ++ [o + x + s.length + y] := by
  induction s generalizing o x with
  | nil => simp [lens, wide, lay, nls]; omega
  | cons c r ih =>
    simp only [lens, nls]
    have hp := lens_pos r
    split
    · have e : wide x y (0 :: lens r) = x :: wide 0 y (lens r) := by
        simp only [wide, List.modify_zero_cons, Nat.zero_add, List.length_cons, Nat.add_sub_cancel]
        rw [show (lens r).length = (lens r).length - 1 + 1 by omega, List.modify_succ_cons]
        have : (lens r).modify 0 (fun z => z + 0) = lens r := by cases lens r <;> simp
        rw [this]
        simp
      rw [e, lay, ih]
      simp
      omega
    · have e : wide x y ((lens r).modify 0 (· + 1)) = wide (1 + x) y (lens r) := by
        simp only [wide, List.length_modify]
        rw [modify_modify]
      rw [e, ih, show o + (1 + x) = o + x + 1 by omega]
      simp
      omega
theorem wide_zero (l : List Nat) : wide 0 0 l = l := by
  unfold wide
  have h : ∀ (l : List Nat) k, l.modify k (fun z => z + 0) = l := fun l k => by
    apply List.ext_getElem?
    intro j
    rw [List.getElem?_modify]
    split <;> simp
  rw [h, h]
theorem lay_lens (s : List UInt8) : lay 0 (lens s) = ends s := by
  have := lay_wide s 0 0 0
  rw [wide_zero] at this
  simpa [ends] using this
theorem wide_length (x y : Nat) (l : List Nat) : (wide x y l).length = l.length := by simp [wide]
theorem lay_length (o : Nat) (l : List Nat) : (lay o l).length = l.length := by
  induction l generalizing o with
  | nil => rfl
  | cons n r ih => simp [lay, ih]
theorem lay_snoc (o : Nat) (l : List Nat) (n : Nat) : lay o (l ++ [n]) = lay o l ++ [o + (l.sum + l.length) + n] := by
  induction l generalizing o with
  | nil => simp [lay]
  | cons m r ih => simp [lay, ih]; omega
theorem lens_sum (s : List UInt8) : (lens s).sum + (lens s).length = s.length + 1 := by
  induction s with
  | nil => rfl
  | cons c r ih =>
    simp only [lens]
    split
    · simp; omega
    · have h : ∀ l : List Nat, 0 < l.length → (l.modify 0 (· + 1)).sum = l.sum + 1 := fun l hl => by
        cases l with
        | nil => simp at hl
        | cons n r => simp; omega
      rw [h _ (lens_pos r), List.length_modify]
      simp; omega
theorem wide_sum (x y : Nat) (l : List Nat) (h : 0 < l.length) : (wide x y l).sum = l.sum + x + y := by
  have key : ∀ (l : List Nat) (k z : Nat), k < l.length → (l.modify k (· + z)).sum = l.sum + z := by
    intro l
    induction l with
    | nil => intro k z h; simp at h
    | cons n r ih =>
      intro k z h
      cases k with
      | zero => simp; omega
      | succ k => simp at h; simp [ih k z h]; omega
  rw [wide, key _ _ _ (by rw [List.length_modify]; omega), key _ _ _ h]
/-- How many lines end ahead of an offset. -/
def line (t : List UInt8) (p : Nat) : Nat := (nls 0 (t.take p)).length
theorem ends_split (t : List UInt8) (p : Nat) (hp : p ≤ t.length) : ends t = nls 0 (t.take p) ++ (nls p (t.drop p) ++ [t.length]) := by
  have h := nls_append (t.take p) (t.drop p) 0
  rw [List.take_append_drop, List.length_take, Nat.min_eq_left hp, Nat.zero_add] at h
  rw [ends, h, List.append_assoc]
theorem line_lt {t : List UInt8} {p : Nat} (hp : p ≤ t.length) : line t p < (ends t).length := by
  rw [ends_split t p hp]; simp [line]
theorem ends_take {t : List UInt8} {p : Nat} (hp : p ≤ t.length) : (ends t).take (line t p) = nls 0 (t.take p) := by
  rw [ends_split t p hp, line, List.take_left]
theorem ends_drop {t : List UInt8} {p : Nat} (hp : p ≤ t.length) : (ends t).drop (line t p) = nls p (t.drop p) ++ [t.length] := by
  rw [ends_split t p hp, line, List.drop_left]
/-- The line of an offset is as many as end ahead of it. -/
theorem line_count {t : List UInt8} {p : Nat} (hp : p ≤ t.length) : ((ends t).map (fun n : Nat => (n : Int))).countP (· < (p : Int)) = line t p := by
  rw [List.countP_map, ends_split t p hp, List.countP_append]
  have h1 : (nls 0 (t.take p)).countP ((fun x : Int => decide (x < (p : Int))) ∘ fun n : Nat => (n : Int)) = (nls 0 (t.take p)).length := by
    rw [List.countP_eq_length]
    intro x hx
    have := nls_mem hx
    simp at this ⊢
    omega
  have h2 : (nls p (t.drop p) ++ [t.length]).countP ((fun x : Int => decide (x < (p : Int))) ∘ fun n : Nat => (n : Int)) = 0 := by
    rw [List.countP_eq_zero]
    intro x hx
    rw [List.mem_append] at hx
    rcases hx with hx | hx
    · have := nls_mem hx
      simp
      omega
    · simp at hx
      simp
      omega
  rw [h1, h2, line, Nat.add_zero]
theorem line_high {t : List UInt8} {p : Int} (hp : (t.length : Int) < p) : ((ends t).map (fun n : Nat => (n : Int))).countP (· < p) = (ends t).length := by
  rw [List.countP_map, List.countP_eq_length]
  intro x hx
  have := ends_mem hx
  simp
  omega
/-- Where the line k starts. -/
def start (t : List UInt8) (k : Nat) : Nat := if k = 0 then 0 else (ends t).getD (k - 1) 0 + 1
def stop (t : List UInt8) (k : Nat) : Nat := (ends t).getD k 0
theorem getD_of {l : List Nat} {k x : Nat} (h : l[k]? = some x) : l.getD k 0 = x := by simp [List.getD, h]
theorem start_le {t : List UInt8} {p : Nat} (hp : p ≤ t.length) : start t (line t p) ≤ p := by
  unfold start
  split
  · omega
  · rename_i h0
    have h1 : line t p - 1 < (nls 0 (t.take p)).length := by unfold line at h0 ⊢; omega
    have h2 : (ends t)[line t p - 1]? = some (nls 0 (t.take p))[line t p - 1] := by
      rw [ends_split t p hp, List.getElem?_append_left h1, List.getElem?_eq_getElem h1]
    rw [getD_of h2]
    have := nls_mem (List.getElem_mem h1)
    simp at this
    omega
theorem stop_split {t : List UInt8} {p : Nat} (hp : p ≤ t.length) : nls p (t.drop p) ++ [t.length] = stop t (line t p) :: (ends t).drop (line t p + 1) := by
  have h := line_lt hp
  have h2 := List.drop_eq_getElem_cons h
  rw [← ends_drop hp, h2, stop, List.getD_eq_getElem?_getD, List.getElem?_eq_getElem h]
  rfl
theorem le_stop {t : List UInt8} {p : Nat} (hp : p ≤ t.length) : p ≤ stop t (line t p) ∧ stop t (line t p) ≤ t.length := by
  have h : stop t (line t p) ∈ nls p (t.drop p) ++ [t.length] := by rw [stop_split hp]; exact List.mem_cons_self
  rw [List.mem_append] at h
  rcases h with h | h
  · have := nls_mem h; simp at this; omega
  · simp at h; omega
theorem line_mono {t : List UInt8} {p q : Nat} (h : p ≤ q) : line t p ≤ line t q := by
  unfold line
  rw [nls_length, nls_length]
  have : t.take p <+: t.take q := List.take_prefix_take_left h
  exact this.sublist.count_le _
/-- What stands in the place of some bytes. -/
def put (t : List UInt8) (i j : Nat) (s : List UInt8) : List UInt8 := t.take i ++ (s ++ t.drop j)
theorem put_length {t : List UInt8} {i j : Nat} (hij : i ≤ j) (hj : j ≤ t.length) (s : List UInt8) : (put t i j s).length + (j - i) = t.length + s.length := by
  simp [put]; omega
/-- The lengths that the new lines get. -/
def mid (t : List UInt8) (i j : Nat) (s : List UInt8) : List Nat := lay (start t (line t i)) (wide (i - start t (line t i)) (stop t (line t j) - j) (lens s))
theorem mid_eq {t : List UInt8} {i j : Nat} (hi : i ≤ t.length) (s : List UInt8) : mid t i j s = nls i s ++ [i + s.length + (stop t (line t j) - j)] := by
  have h := start_le hi
  rw [mid, lay_wide, show start t (line t i) + (i - start t (line t i)) = i by omega]
theorem mid_length (t : List UInt8) (i j : Nat) (s : List UInt8) : (mid t i j s).length = (lens s).length := by rw [mid, lay_length, wide_length]
theorem ends_put {t : List UInt8} {i j : Nat} (hij : i ≤ j) (hj : j ≤ t.length) (s : List UInt8) :
    ends (put t i j s) = (ends t).take (line t i) ++ (mid t i j s ++ ((ends t).drop (line t j + 1)).map (fun z => z + s.length - (j - i))) := by
  have hi : i ≤ t.length := by omega
  have hl := put_length hij hj s
  have hst := le_stop hj
  have h1 : ends (put t i j s) = nls 0 (t.take i) ++ (nls i s ++ (nls (i + s.length) (t.drop j) ++ [(put t i j s).length])) := by
    rw [ends, put, nls_append, nls_append, List.length_take, Nat.min_eq_left hi, Nat.zero_add]
    simp
  have h2 : nls (i + s.length) (t.drop j) ++ [(put t i j s).length] = (nls j (t.drop j) ++ [t.length]).map (fun z => z + s.length - (j - i)) := by
    have e1 := nls_shift (t.drop j) 0 (i + s.length)
    have e2 := nls_shift (t.drop j) 0 j
    rw [Nat.zero_add] at e1 e2
    rw [List.map_append, e1, e2, List.map_map]
    congr 1
    · apply List.map_congr_left
      intro z _
      simp
      omega
    · simp; omega
  rw [h1, h2, ends_take hi, mid_eq hi, stop_split hj]
  simp
  omega
theorem put_ends_ge {t : List UInt8} {j : Nat} (hj : j ≤ t.length) {z : Nat} (hz : z ∈ (ends t).drop (line t j + 1)) : j ≤ z ∧ z ≤ t.length := by
  have h : z ∈ nls j (t.drop j) ++ [t.length] := by rw [stop_split hj]; exact List.mem_cons_of_mem _ hz
  rw [List.mem_append] at h
  rcases h with h | h
  · have := nls_mem h; simp at this; omega
  · simp at h; omega
/-- The answers of an index of bytes. -/
def startOf (t : List UInt8) (k : Int) : Int := if k < 0 ∨ (ends t).length ≤ k then -1 else (start t k.toNat : Nat)
def endOf (t : List UInt8) (k : Int) : Int := if k < 0 ∨ (ends t).length ≤ k then -1 else (stop t k.toNat : Nat)
def lineOf (t : List UInt8) (p : Int) : Int := if p < 0 ∨ t.length < p then -1 else (line t p.toNat : Nat)
end Ix
end Go.Proofs.YtdclopfhffjkfaaDoor
/-
  Bytes parted at line feeds, without a program.
-/
namespace Go.Proofs.YtdclopfhffjkfaaDoor
namespace Ix
/-- Bytes parted at line feeds. -/
def parts : List UInt8 → List (List UInt8)
  | [] => [[]]
  | c :: r => if c = 10 then [] :: parts r else (parts r).modify 0 (c :: ·)
theorem parts_pos (s : List UInt8) : 0 < (parts s).length := by
  induction s with
  | nil => simp [parts]
  | cons c r ih => simp only [parts]; split <;> simp [ih]
theorem parts_lens (s : List UInt8) : (parts s).map List.length = lens s := by
  induction s with
  | nil => rfl
  | cons c r ih =>
    simp only [parts, lens]
    split
    · simp [ih]
    · rw [← ih]
      cases parts r <;> simp
theorem parts_whole (a : List UInt8) (h : ∀ i : Nat, a[i]? ≠ some 10) : parts a = [a] := by
  induction a with
  | nil => rfl
  | cons c r ih =>
    have h0 : c ≠ 10 := fun e => h 0 (by simp [e])
    rw [parts, if_neg h0, ih (fun i => by have := h (i + 1); simpa using this)]
    rfl
theorem parts_cut (a r : List UInt8) (h : ∀ i : Nat, a[i]? ≠ some 10) : parts (a ++ 10 :: r) = a :: parts r := by
  induction a with
  | nil => simp [parts]
  | cons c q ih =>
    have h0 : c ≠ 10 := fun e => h 0 (by simp [e])
    rw [List.cons_append, parts, if_neg h0, ih (fun i => by have := h (i + 1); simpa using this)]
    rfl
theorem parts_none {s : List UInt8} (h : Lib.indexByte s 10 = -1) : parts s = [s] := parts_whole s (Lib.indexByte_none h)
theorem parts_some {s : List UInt8} {o : Nat} (h : Lib.indexByte s 10 = o) : o < s.length ∧ parts s = s.take o :: parts (s.drop (o + 1)) := by
  obtain ⟨h1, h2⟩ := Lib.indexByte_some h
  have h3 := (List.getElem?_eq_some_iff.1 h1).1
  refine ⟨h3, ?_⟩
  have e : s = s.take o ++ 10 :: s.drop (o + 1) := by
    have := List.drop_eq_getElem_cons h3
    rw [(List.getElem?_eq_some_iff.1 h1).2] at this
    rw [← this, List.take_append_drop]
  conv => lhs; rw [e]
  refine parts_cut _ _ fun i hi => ?_
  rw [List.getElem?_take] at hi
  split at hi
  · exact h2 i (by assumption) hi
  · cases hi
theorem parts_length (s : List UInt8) : (parts s).length = s.count 10 + 1 := by
  have := congrArg List.length (parts_lens s)
  rw [List.length_map, lens_length] at this
  exact this
/-- Pairs of starts and ends, of lines that end so, the first of which starts at f. -/
def pairs (f : Nat) : List Nat → List (Nat × Nat)
  | [] => []
  | e :: r => (f, e) :: pairs (e + 1) r
theorem pairs_length (f : Nat) (l : List Nat) : (pairs f l).length = l.length := by
  induction l generalizing f with
  | nil => rfl
  | cons e r ih => simp [pairs, ih]
theorem pairs_get (f : Nat) (l : List Nat) (k : Nat) (h : k < l.length) : (pairs f l)[k]? = some (if k = 0 then f else l.getD (k - 1) 0 + 1, l.getD k 0) := by
  induction l generalizing f k with
  | nil => simp at h
  | cons e r ih =>
    cases k with
    | zero => simp [pairs]
    | succ k =>
      simp only [pairs, List.getElem?_cons_succ]
      rw [ih (e + 1) k (by simpa using h)]
      cases k with
      | zero => simp
      | succ k => simp
/-- All lines of bytes. -/
def all (t : List UInt8) : List (Nat × Nat) := pairs 0 (ends t)
theorem all_length (t : List UInt8) : (all t).length = (ends t).length := pairs_length _ _
theorem all_get {t : List UInt8} {k : Nat} (h : k < (ends t).length) : (all t)[k]? = some (start t k, stop t k) := pairs_get 0 (ends t) k h
theorem nls_here {t : List UInt8} {p : Nat} (h : t[p]? = some 10) : nls p (t.drop p) = p :: nls (p + 1) (t.drop (p + 1)) := by
  obtain ⟨hi, hb⟩ := List.getElem?_eq_some_iff.1 h
  rw [List.drop_eq_getElem_cons hi, hb, nls, if_pos rfl]
theorem nls_not {t : List UInt8} {p : Nat} {b : UInt8} (h : t[p]? = some b) (hb : b ≠ 10) : nls p (t.drop p) = nls (p + 1) (t.drop (p + 1)) := by
  obtain ⟨hi, hc⟩ := List.getElem?_eq_some_iff.1 h
  rw [List.drop_eq_getElem_cons hi, hc, nls, if_neg hb]
/-- How far a loop over bytes has come: these lines are done; the next one began at a. -/
def Come (t : List UInt8) (R done : List (Nat × Nat)) (a p : Nat) : Prop := (p ≤ t.length ∧ R = done ++ pairs a (nls p (t.drop p) ++ [t.length])) ∨ (p = t.length + 1 ∧ R = done)
theorem come_start (t : List UInt8) : Come t (all t) [] 0 0 := Or.inl ⟨Nat.zero_le _, by simp [all, ends]⟩
theorem come_end {t : List UInt8} {R done : List (Nat × Nat)} {a : Nat} (h : R = done ++ pairs a (nls t.length (t.drop t.length) ++ [t.length])) : Come t R (done ++ [(a, t.length)]) (t.length + 1) (t.length + 1) :=
  Or.inr ⟨rfl, by rw [h]; simp [nls, pairs]⟩
theorem come_here {t : List UInt8} {R done : List (Nat × Nat)} {a p : Nat} (h : R = done ++ pairs a (nls p (t.drop p) ++ [t.length])) (hp : t[p]? = some 10) : Come t R (done ++ [(a, p)]) (p + 1) (p + 1) :=
  Or.inl ⟨(List.getElem?_eq_some_iff.1 hp).1, by rw [h, nls_here hp]; simp [pairs]⟩
theorem come_not {t : List UInt8} {R done : List (Nat × Nat)} {a p : Nat} {b : UInt8} (h : R = done ++ pairs a (nls p (t.drop p) ++ [t.length])) (hp : t[p]? = some b) (hb : b ≠ 10) : Come t R done a (p + 1) :=
  Or.inl ⟨(List.getElem?_eq_some_iff.1 hp).1, by rw [h, nls_not hp hb]⟩
/-- The order of starts and ends. -/
theorem sorted_lt {l : List Nat} (h : l.Pairwise (· < ·)) {i j : Nat} (hij : i < j) (hj : j < l.length) : l.getD i 0 < l.getD j 0 := by
  have hi : i < l.length := by omega
  have := List.pairwise_iff_getElem.1 h i j hi hj hij
  rw [List.getD_eq_getElem?_getD, List.getD_eq_getElem?_getD, List.getElem?_eq_getElem hi, List.getElem?_eq_getElem hj]
  exact this
theorem line_here {t : List UInt8} {p k : Nat} (hk : k < (ends t).length) (h1 : start t k ≤ p) (h2 : p ≤ stop t k) : p ≤ t.length ∧ line t p = k := by
  have hs := ends_sorted t
  have hm : stop t k ∈ ends t := by
    rw [stop, List.getD_eq_getElem?_getD, List.getElem?_eq_getElem hk]
    exact List.getElem_mem hk
  have hp : p ≤ t.length := Nat.le_trans h2 (ends_mem hm)
  refine ⟨hp, ?_⟩
  have hl := line_lt hp
  have hge := le_stop hp
  have hle := start_le hp
  rcases Nat.lt_trichotomy (line t p) k with h | h | h
  · have h3 : stop t (line t p) < start t k := by
      unfold start
      rw [if_neg (by omega)]
      rcases Nat.lt_or_ge (line t p) (k - 1) with h4 | h4
      · have := sorted_lt hs h4 (by omega)
        unfold stop; omega
      · rw [show k - 1 = line t p by omega]; unfold stop; omega
    omega
  · exact h
  · have h3 : stop t k < start t (line t p) := by
      unfold start
      rw [if_neg (by omega)]
      rcases Nat.lt_or_ge k (line t p - 1) with h4 | h4
      · have := sorted_lt hs h4 (by omega)
        unfold stop; omega
      · rw [show line t p - 1 = k by omega]; unfold stop; omega
    omega
/-- An end is in its line. -/
theorem line_stop {t : List UInt8} {k : Nat} (hk : k < (ends t).length) : line t (stop t k) = k ∧ stop t k ≤ t.length := by
  have hs : start t k ≤ stop t k := by
    unfold start
    split
    · exact Nat.zero_le _
    · have := sorted_lt (ends_sorted t) (i := k - 1) (j := k) (by omega) hk
      unfold stop; omega
  have := line_here hk hs (Nat.le_refl _)
  exact ⟨this.2, this.1⟩
end Ix
end Go.Proofs.YtdclopfhffjkfaaDoor
/-
  A text as its lines without a program: parted, and glued again; where its lines stand; which lines make a valid text.
-/
namespace Go.Proofs.YtdclopfhffjkfaaDoor
namespace Gl
open Utf (dec off valid place one)
open Line (L seg Whole lns L_ok L_valid L_each)
open Ix (parts parts_pos parts_whole parts_cut)

/-- Lines, each with its line feed behind it. -/
def fore (R : List (List UInt8)) : List UInt8 := R.flatMap (· ++ [10])
/-- Lines, each with a line feed ahead. -/
def aft (R : List (List UInt8)) : List UInt8 := R.flatMap (10 :: ·)
/-- Lines as a text. -/
def glue : List (List UInt8) → List UInt8
  | [] => []
  | x :: r => x ++ aft r
theorem glue_cons (x : List UInt8) (r : List (List UInt8)) : glue (x :: r) = x ++ aft r := rfl
theorem fore_cons (x : List UInt8) (r : List (List UInt8)) : fore (x :: r) = x ++ 10 :: fore r := by simp [fore]
theorem aft_cons (x : List UInt8) (r : List (List UInt8)) : aft (x :: r) = 10 :: (x ++ aft r) := by simp [aft]
theorem fore_append (A B : List (List UInt8)) : fore (A ++ B) = fore A ++ fore B := by simp [fore]
theorem aft_append (A B : List (List UInt8)) : aft (A ++ B) = aft A ++ aft B := by simp [aft]
theorem fore_snoc (A : List (List UInt8)) (x : List UInt8) : fore (A ++ [x]) = fore A ++ (x ++ [10]) := by rw [fore_append, fore_cons]; simp [fore]
theorem aft_glue {R : List (List UInt8)} (h : R ≠ []) : aft R = 10 :: glue R := by
  cases R with
  | nil => exact absurd rfl h
  | cons x r => rw [aft_cons, glue_cons]
theorem glue_fore {A B : List (List UInt8)} (hB : B ≠ []) : glue (A ++ B) = fore A ++ glue B := by
  induction A with
  | nil => rfl
  | cons a A ih =>
    rw [List.cons_append, glue_cons, aft_glue (by simp [hB]), ih, fore_cons]
    simp
theorem glue_aft {B C : List (List UInt8)} (hB : B ≠ []) : glue (B ++ C) = glue B ++ aft C := by
  cases B with
  | nil => exact absurd rfl hB
  | cons x r => rw [List.cons_append, glue_cons, glue_cons, aft_append, List.append_assoc]
theorem glue_mid {A B C : List (List UInt8)} (hB : B ≠ []) : glue (A ++ (B ++ C)) = fore A ++ (glue B ++ aft C) := by
  rw [glue_fore (by simp [hB]), glue_aft hB]
theorem glue_one (x : List UInt8) : glue [x] = x := by simp [glue, aft]

/-- Is there no line feed in it? -/
def Free (x : List UInt8) : Prop := (10 : UInt8) ∉ x
theorem free_get {x : List UInt8} (h : Free x) (i : Nat) : x[i]? ≠ some 10 := fun e => h (List.mem_of_getElem? e)
theorem parts_ne (s : List UInt8) : parts s ≠ [] := fun h => by have := parts_pos s; rw [h] at this; exact absurd this (Nat.lt_irrefl 0)
theorem glue_parts (s : List UInt8) : glue (parts s) = s := by
  induction s with
  | nil => rfl
  | cons c r ih =>
    rw [parts]
    split
    · rename_i h
      subst h
      rw [glue_cons, aft_glue (parts_ne r), ih]
      rfl
    · cases hp : parts r with
      | nil => exact absurd hp (parts_ne r)
      | cons x q =>
        rw [hp, glue_cons] at ih
        rw [← ih]
        rfl
theorem parts_free (s : List UInt8) : ∀ x ∈ parts s, Free x := by
  induction s with
  | nil => intro x hx; simp [parts] at hx; subst hx; simp [Free]
  | cons c r ih =>
    intro x hx
    rw [parts] at hx
    split at hx
    · rcases List.mem_cons.1 hx with h | h
      · subst h; simp [Free]
      · exact ih x h
    · rename_i hc
      cases hp : parts r with
      | nil => exact absurd hp (parts_ne r)
      | cons y q =>
        rw [hp] at hx ih
        rcases List.mem_cons.1 hx with h | h
        · subst h
          intro hm
          rcases List.mem_cons.1 hm with h2 | h2
          · exact hc h2.symm
          · exact ih y (by simp) h2
        · exact ih x (by simp [h])
theorem parts_glue {R : List (List UInt8)} (h0 : R ≠ []) (h : ∀ x ∈ R, Free x) : parts (glue R) = R := by
  induction R with
  | nil => exact absurd rfl h0
  | cons x r ih =>
    cases r with
    | nil => rw [glue_one]; exact parts_whole x (free_get (h x (by simp)))
    | cons y q =>
      rw [glue_cons, aft_glue (by simp), parts_cut x _ (free_get (h x (by simp))), ih (by simp) (fun z hz => h z (by simp [hz]))]

/-- Where lines stand, the first of them from a on. -/
def spots (a : Nat) : List (List UInt8) → List (Nat × Nat)
  | [] => []
  | x :: r => (a, a + x.length) :: spots (a + x.length + 1) r
theorem lns_parts (a i : Nat) (t : List UInt8) : lns a i t = match parts t with | [] => [] | x :: r => (a, i + x.length) :: spots (i + x.length + 1) r := by
  induction t generalizing a i with
  | nil => rfl
  | cons b t ih =>
    cases hp : parts t with
    | nil => exact absurd hp (parts_ne t)
    | cons x r =>
      rw [lns, parts, hp]
      split
      · rw [ih, hp]
        rfl
      · rw [ih, hp]
        show _ = (a, i + (b :: x).length) :: spots (i + (b :: x).length + 1) r
        rw [List.length_cons, show i + (x.length + 1) = i + 1 + x.length by omega]
theorem L_spots {s : List UInt8} (h : valid s = true) : L s = spots 0 (parts s) := by
  rw [L_ok h, Line.lines, lns_parts]
  cases hp : parts s with
  | nil => exact absurd hp (parts_ne s)
  | cons x r => rfl
theorem spots_length (a : Nat) (R : List (List UInt8)) : (spots a R).length = R.length := by
  induction R generalizing a with
  | nil => rfl
  | cons x r ih => rw [spots, List.length_cons, List.length_cons, ih]
theorem spots_get {a : Nat} {R : List (List UInt8)} {k : Nat} {x : List UInt8} (h : R[k]? = some x) : (spots a R)[k]? = some (a + (fore (R.take k)).length, a + (fore (R.take k)).length + x.length) := by
  induction R generalizing a k with
  | nil => simp at h
  | cons y r ih =>
    cases k with
    | zero =>
      simp only [List.getElem?_cons_zero, Option.some.injEq] at h
      subst h
      simp [spots, fore]
    | succ k =>
      rw [List.getElem?_cons_succ] at h
      rw [spots, List.getElem?_cons_succ, ih h, List.take_succ_cons, fore_cons, List.length_append, List.length_cons]
      congr 2 <;> omega
theorem L_len {s : List UInt8} (h : valid s = true) : (L s).length = (parts s).length := by rw [L_spots h, spots_length]
/-- Line k, by the lines. -/
theorem L_at {s : List UInt8} (hv : valid s = true) {k : Nat} {r : List UInt8} (h : (parts s)[k]? = some r) : (L s)[k]? = some ((fore ((parts s).take k)).length, (fore ((parts s).take k)).length + r.length) := by
  rw [L_spots hv, spots_get h, Nat.zero_add]
theorem L_of {s : List UInt8} {k : Nat} {x : Nat × Nat} (h : (L s)[k]? = some x) : ∃ r, (parts s)[k]? = some r ∧ x.1 = (fore ((parts s).take k)).length ∧ x.2 = x.1 + r.length := by
  have hv := L_valid h
  have hk : k < (parts s).length := by rw [← L_len hv]; exact (List.getElem?_eq_some_iff.1 h).1
  have hr := List.getElem?_eq_getElem hk
  refine ⟨_, hr, ?_⟩
  rw [L_at hv hr] at h
  injection h with h
  subst h
  exact ⟨rfl, rfl⟩
/-- A text, ahead of line j, from there to line k, and behind it. -/
theorem three {s : List UInt8} {j k : Nat} {x y : Nat × Nat} (hjk : j ≤ k) (hx : (L s)[j]? = some x) (hy : (L s)[k]? = some y) :
    ∃ A B C, parts s = A ++ (B ++ C) ∧ B ≠ [] ∧ A.length = j ∧ B.length = k + 1 - j ∧ s = fore A ++ (glue B ++ aft C) ∧ x.1 = (fore A).length ∧ y.2 = (fore A).length + (glue B).length := by
  obtain ⟨r, hr, h1, h2⟩ := L_of hx
  obtain ⟨q, hq, h3, h4⟩ := L_of hy
  have hk := (List.getElem?_eq_some_iff.1 hq).1
  have hR : parts s = (parts s).take j ++ (((parts s).drop j).take (k + 1 - j) ++ (parts s).drop (k + 1)) := by
    conv => lhs; rw [← List.take_append_drop j (parts s), ← List.take_append_drop (k + 1 - j) ((parts s).drop j), List.drop_drop, show j + (k + 1 - j) = k + 1 by omega]
  have hne : ((parts s).drop j).take (k + 1 - j) ≠ [] := fun h => by
    have := congrArg List.length h
    simp at this
    omega
  have hs := glue_parts s
  rw [hR, glue_mid hne] at hs
  have e1 : (parts s).take j ++ ((parts s).drop j).take (k + 1 - j) = (parts s).take k ++ [q] := by
    have := List.take_succ_eq_append_getElem hk
    rw [(List.getElem?_eq_some_iff.1 hq).2] at this
    rw [← this, ← List.take_append_drop j ((parts s).take (k + 1)), List.take_take, Nat.min_eq_left (by omega), List.drop_take]
  have e2 := congrArg glue e1
  rw [glue_fore hne, glue_fore (by simp), glue_one] at e2
  have e3 := congrArg List.length e2
  rw [List.length_append, List.length_append] at e3
  exact ⟨_, _, _, hR, hne, by rw [List.length_take]; omega, by rw [List.length_take, List.length_drop]; omega, hs.symm, h1, by rw [h4, h3]; omega⟩

/-- A valid text and another one. -/
theorem valid_all {a : List UInt8} (b : List UInt8) (ha : valid a = true) : valid (a ++ b) = valid b := by
  obtain ⟨rs, hd⟩ := Utf.valid_of ha
  obtain ⟨h1, h2⟩ := Utf.dec_some hd
  rw [valid, h2, Utf.dec_all b h1, valid, Option.isSome_map]
theorem one_ascii {b : UInt8} (h : b.toNat < 128) : one [b] = true := by
  have hl : Utf.len b.toNat = 1 := by
    unfold Utf.len
    rw [if_neg (by omega), if_neg (by omega), if_neg (by omega), if_neg (by omega), if_neg (by omega)]
  rw [Utf.one_iff, Utf.siz_cons, hl]
  simp [Utf.goes]
theorem valid_nil : valid [] = true := by rw [valid, Utf.dec_nil]; rfl
theorem valid_ascii {b : UInt8} (t : List UInt8) (h : b.toNat < 128) : valid (b :: t) = valid t := by
  have := valid_all (a := [b]) t (by
    have := Utf.dec_of (rs := [[b]]) (by simp [one_ascii h])
    rw [valid]
    simp at this
    rw [this]; rfl)
  exact this
theorem valid_feed (t : List UInt8) : valid (10 :: t) = valid t := valid_ascii t (by decide)
theorem place_mid {a b : List UInt8} (ha : valid a = true) (hb : valid b = true) : place (a ++ b) (a.length : Int) = true := by
  obtain ⟨rs, hd⟩ := Utf.valid_of ha
  obtain ⟨qs, he⟩ := Utf.valid_of hb
  obtain ⟨h1, h2⟩ := Utf.dec_some hd
  have h3 : dec (a ++ b) = some (rs ++ qs) := by
    conv => lhs; rw [h2]
    rw [Utf.dec_all b h1, he]
    rfl
  have := Utf.place_at h3 (i := rs.length) (by simp)
  rwa [off, List.take_left, ← h2] at this
/-- What stands from one place of a text on is valid, and so is what stands ahead of it. -/
theorem place_two {s : List UInt8} {n : Nat} (h : place s (n : Int) = true) : valid (s.take n) = true ∧ valid (s.drop n) = true := by
  obtain ⟨rs, i, hd, hi, he⟩ := Utf.place_of h
  obtain rfl : off rs i = n := by omega
  obtain ⟨h1, h2⟩ := Utf.dec_some hd
  rw [h2, Utf.off_take, Utf.off_drop]
  constructor
  · rw [valid, Utf.dec_of fun r hr => h1 r (List.mem_of_mem_take hr)]; rfl
  · rw [valid, Utf.dec_of fun r hr => h1 r (List.mem_of_mem_drop hr)]; rfl
theorem take_of {s A M : List UInt8} {n : Nat} (h : s = A ++ M) (hn : n = A.length) : s.take n = A := by rw [h, hn, List.take_left]
theorem drop_of {s A M : List UInt8} {n : Nat} (h : s = A ++ M) (hn : n = A.length) : s.drop n = M := by rw [h, hn, List.drop_left]
theorem valid_part {s : List UInt8} (hv : valid s = true) : ∀ x ∈ parts s, valid x = true := by
  intro r hx
  obtain ⟨k, hk, he⟩ := List.mem_iff_getElem.1 hx
  have hr : (parts s)[k]? = some r := by rw [List.getElem?_eq_getElem hk, he]
  have hL := L_at hv hr
  obtain ⟨A, B, C, h1, h2, h3, h4, h5, h6, h7⟩ := three (Nat.le_refl k) hL hL
  have p1 := (place_two (Line.start_ok hL)).1
  have p2 := (place_two (Line.stop_ok hL)).1
  have hB : B = [r] := by
    have e : (parts s)[k]? = B[0]? := by
      have hl : 0 < B.length := List.length_pos_iff.2 h2
      rw [h1, List.getElem?_append_right (by omega), h3, Nat.sub_self, List.getElem?_append_left hl]
    rw [hr] at e
    match B, h4, e with
    | [b], _, e => simp at e; rw [e]
    | [], h, _ => exact absurd rfl h2
    | b :: c :: r, h, _ => simp at h
  rw [take_of h5 h6] at p1
  rw [take_of (A := fore A ++ glue B) (M := aft C) (by rw [List.append_assoc]; exact h5) (by rw [List.length_append]; exact h7), hB, glue_one, valid_all _ p1] at p2
  exact p2
theorem valid_aft {R : List (List UInt8)} (h : ∀ x ∈ R, valid x = true) : valid (aft R) = true := by
  induction R with
  | nil => exact valid_nil
  | cons x r ih => rw [aft_cons, valid_feed, valid_all _ (h x (by simp))]; exact ih fun y hy => h y (by simp [hy])
theorem valid_fore {R : List (List UInt8)} (h : ∀ x ∈ R, valid x = true) : valid (fore R) = true := by
  induction R with
  | nil => exact valid_nil
  | cons x r ih => rw [fore_cons, valid_all _ (h x (by simp)), valid_feed]; exact ih fun y hy => h y (by simp [hy])
theorem valid_glue {R : List (List UInt8)} (h : ∀ x ∈ R, valid x = true) : valid (glue R) = true := by
  cases R with
  | nil => exact valid_nil
  | cons x r => rw [glue_cons, valid_all _ (h x (by simp))]; exact valid_aft fun y hy => h y (by simp [hy])
/-- Where the line behind these ones begins. -/
theorem start_fore {A R : List (List UInt8)} (h : ∀ x ∈ A ++ R, valid x = true ∧ Free x) (hR : R ≠ []) : Line.start (glue (A ++ R)) (A.length : Nat) = (fore A).length ∧ ∃ x, R.head? = some x ∧ Line.stop (glue (A ++ R)) (A.length : Nat) = ((fore A).length + x.length : Nat) := by
  have hv := valid_glue fun x hx => (h x hx).1
  have hp := parts_glue (R := A ++ R) (by simp [hR]) (fun x hx => (h x hx).2)
  cases R with
  | nil => exact absurd rfl hR
  | cons x r =>
    have hL := L_at hv (k := A.length) (r := x) (by rw [hp]; simp)
    rw [hp, List.take_left] at hL
    have hl : Line.line (glue (A ++ x :: r)) ((A.length : Nat) : Int) = some ((fore A).length, (fore A).length + x.length) := by rw [Line.line_nat]; exact hL
    exact ⟨Line.start_some hl, x, rfl, Line.stop_some hl⟩
end Gl
end Go.Proofs.YtdclopfhffjkfaaDoor
/-
  Ranges without a program: kinds of keys, what a motion goes over, what is cut with it, and how many lines are left.
-/
namespace Go.Proofs.YtdclopfhffjkfaaDoor
namespace Span
open Utf (off valid place)
open Line (L L_whole L_valid L_each of_ Whole)

def short : List (List UInt8) := [[104], [108], [48], [94], [36], [124], [119], [98], [87], [66], [123], [125], [70], [84], [110], [78], [96]]
def long : List (List UInt8) := [[101], [69], [102], [116], [37]]
def whole : List (List UInt8) := [[106], [107], [103, 103], [71], [39]]
/-- A key's kind. -/
def kind (key : List UInt8) : Nat := if key ∈ short then 1 else if key ∈ long then 2 else if key ∈ whole then 3 else 0

/-- Is an offset where a line begins, and ends? -/
def starts (s : List UInt8) (p : Nat) : Bool := decide (p = 0) || decide (s[p - 1]? = some 10)
def ends (s : List UInt8) (p : Nat) : Bool := decide (p = s.length) || decide (s[p]? = some 10)
theorem starts_at {s : List UInt8} {k : Nat} {x : Nat × Nat} (h : (L s)[k]? = some x) : starts s x.1 = true := by
  have W := L_whole (L_valid h)
  cases k with
  | zero =>
    obtain ⟨z, hz, h0⟩ := W.head
    rw [hz] at h
    injection h with h
    subst h
    simp [starts, h0]
  | succ k =>
    have hk : k < (L s).length := by have := (List.getElem?_eq_some_iff.1 h).1; omega
    have hz : (L s)[k]? = some (L s)[k] := List.getElem?_eq_getElem hk
    obtain ⟨h1, h2⟩ := W.more k _ x hz h
    simp [starts, h1, h2]
theorem ends_at {s : List UInt8} {k n : Nat} {x : Nat × Nat} (h : (L s)[k]? = some x) (h1 : x.1 ≤ n) (h2 : n ≤ x.2) : ends s n = decide (n = x.2) := by
  have W := L_whole (L_valid h)
  obtain ⟨_, _, h3, h4⟩ := W.each k x h
  rcases Nat.lt_or_ge n x.2 with h5 | h5
  · have := h4 n h1 h5
    rw [ends, decide_eq_false (by omega), decide_eq_false this, decide_eq_false (by omega)]
    rfl
  · obtain rfl : n = x.2 := by omega
    rw [ends]
    cases hy : (L s)[k + 1]? with
    | none => simp [W.last k x h hy]
    | some y => simp [(W.more k x y h hy).2]

/-- Where a rune's end is, or the line's. -/
def top (s : List UInt8) (q : Int) : Int := if q < Line.stop s (of_ s q) then Utf.next s q else q
/-- What a motion of a kind goes over. -/
def rng (s : List UInt8) (p q kind : Int) : Option (Int × Int × Bool) :=
  if (place s p && place s q) = true then
    (if kind = 1 then some (min p q, max p q, false)
     else if kind = 2 then some (min p q, top s (max p q), false)
     else if kind = 3 then some (Line.start s (of_ s (min p q)), Line.stop s (of_ s (max p q)), true)
     else none)
  else none
theorem rng_comm (s : List UInt8) (p q kind : Int) : rng s p q kind = rng s q p kind := by rw [rng, rng, Bool.and_comm, Int.min_comm, Int.max_comm]
theorem rng_bad {s : List UInt8} {p q kind : Int} (h : (place s p && place s q) = false) : rng s p q kind = none := by rw [rng, if_neg (by simp [h])]
theorem rng_kind {s : List UInt8} {p q kind : Int} (h1 : kind ≠ 1) (h2 : kind ≠ 2) (h3 : kind ≠ 3) : rng s p q kind = none := by
  rw [rng, if_neg h1, if_neg h2, if_neg h3]; split <;> rfl
theorem rng_short {s : List UInt8} {p q : Int} (hp : place s p = true) (hq : place s q = true) : rng s p q 1 = some (min p q, max p q, false) := by rw [rng, if_pos (by simp [hp, hq]), if_pos rfl]
theorem rng_long {s : List UInt8} {p q : Int} (hp : place s p = true) (hq : place s q = true) : rng s p q 2 = some (min p q, top s (max p q), false) := by rw [rng, if_pos (by simp [hp, hq]), if_neg (by decide), if_pos rfl]
theorem rng_whole {s : List UInt8} {p q : Int} (hp : place s p = true) (hq : place s q = true) : rng s p q 3 = some (Line.start s (of_ s (min p q)), Line.stop s (of_ s (max p q)), true) := by rw [rng, if_pos (by simp [hp, hq]), if_neg (by decide), if_neg (by decide), if_pos rfl]
/-- What is answered. -/
def res : Option (Int × Int × Bool) → Value
  | some x => .tuple #[.agg #[.int .i64 x.1, .int .i64 x.2.1, .bool x.2.2], .bool true]
  | none => .tuple #[.agg #[.int .i64 0, .int .i64 0, .bool false], .bool false]
theorem res_some (a b : Int) (c : Bool) : res (some (a, b, c)) = .tuple #[.agg #[.int .i64 a, .int .i64 b, .bool c], .bool true] := rfl
theorem res_none : res none = .tuple #[.agg #[.int .i64 0, .int .i64 0, .bool false], .bool false] := rfl
theorem res_form (o : Option (Int × Int × Bool)) : ∃ (a b : Int) (c d : Bool), res o = .tuple #[.agg #[.int .i64 a, .int .i64 b, .bool c], .bool d] := by
  cases o with
  | none => exact ⟨0, 0, false, false, rfl⟩
  | some x => exact ⟨x.1, x.2.1, x.2.2, true, rfl⟩

theorem next_ok {s : List UInt8} {q : Nat} (hq : place s (q : Int) = true) (h : q < s.length) : ∃ m : Nat, Utf.next s (q : Int) = m ∧ place s (m : Int) = true ∧ q < m ∧ m ≤ s.length := by
  obtain ⟨rs, hd⟩ := Option.isSome_iff_exists.1 (Line.place_ok hq)
  obtain ⟨i, hi, he⟩ := (Utf.place_iff hd).1 hq
  have he' : off rs i = q := by omega
  have hlt : i < rs.length := by
    rcases Nat.lt_or_ge i rs.length with h1 | h1
    · exact h1
    · rw [Utf.off_top hd h1] at he'; omega
  refine ⟨off rs (i + 1), by rw [← he, Utf.next_at hd hlt], Utf.place_at hd hlt, ?_, Utf.off_in hd _⟩
  have := Utf.off_lt (Utf.dec_some hd).1 (show i < i + 1 by omega) hlt
  omega
theorem place_min {s : List UInt8} {p q : Int} (hp : place s p = true) (hq : place s q = true) : place s (min p q) = true := by
  rcases Int.le_total p q with h | h
  · rwa [Int.min_eq_left h]
  · rwa [Int.min_eq_right h]
theorem place_max {s : List UInt8} {p q : Int} (hp : place s p = true) (hq : place s q = true) : place s (max p q) = true := by
  rcases Int.le_total p q with h | h
  · rwa [Int.max_eq_right h]
  · rwa [Int.max_eq_left h]

/-- What a range that is told is. -/
structure Lies (s : List UInt8) (p q kind a b : Int) (l : Bool) : Prop where
  pa : place s a = true
  pb : place s b = true
  ap : a ≤ min p q
  qb : max p q ≤ b
  ll : l = (kind == 3)
  al : l = true → starts s a.toNat = true
  bl : l = true → ends s b.toNat = true
theorem rng_lies {s : List UInt8} {p q kind a b : Int} {l : Bool} (h : rng s p q kind = some (a, b, l)) : Lies s p q kind a b l := by
  rw [rng] at h
  split at h
  case isFalse => cases h
  case isTrue hpq =>
    obtain ⟨hp, hq⟩ := Bool.and_eq_true_iff.1 hpq
    have h1 := place_min hp hq
    have h2 := place_max hp hq
    split at h
    case isTrue hk =>
      injection h with h
      injection h with ha h
      injection h with hb hl
      subst ha hb hl hk
      exact ⟨h1, h2, Int.le_refl _, Int.le_refl _, rfl, nofun, nofun⟩
    case isFalse k1 =>
      split at h
      case isTrue hk =>
        injection h with h
        injection h with ha h
        injection h with hb hl
        obtain ⟨n, k, x, hn, hx, h3, h4, h5, _, _, hst⟩ := Line.place_line h2
        have ht : place s b = true ∧ max p q ≤ b := by
          rw [← hb, top, hst]
          split
          · obtain ⟨m, hm, hp, hlt, _⟩ := next_ok (q := n) (by rw [← hn]; exact h2) (by omega)
            rw [hn, hm]
            exact ⟨hp, by omega⟩
          · exact ⟨h2, Int.le_refl _⟩
        subst ha hl hk
        exact ⟨h1, ht.1, Int.le_refl _, ht.2, rfl, nofun, nofun⟩
      case isFalse k2 =>
        split at h
        case isTrue hk =>
          injection h with h
          injection h with ha h
          injection h with hb hl
          obtain ⟨n, j, x, hn, hx, h3, h4, h5, _, hsx, _⟩ := Line.place_line h1
          obtain ⟨m, k, y, hm, hy, h6, h7, h8, _, _, hst⟩ := Line.place_line h2
          rw [hsx] at ha
          rw [hst] at hb
          subst ha hb hl hk
          refine ⟨Line.start_ok hx, Line.stop_ok hy, by omega, by omega, rfl, fun _ => starts_at hx, fun _ => ?_⟩
          rw [Int.toNat_natCast, ends_at hy (L_each hy).1 (Nat.le_refl _)]
          simp
        case isFalse => cases h
/-- A range of whole lines, by its lines. -/
theorem rng_lines {s : List UInt8} {p q : Int} (hp : place s p = true) (hq : place s q = true) : ∃ (j k : Nat) (x y : Nat × Nat), j ≤ k ∧ (L s)[j]? = some x ∧ (L s)[k]? = some y ∧ rng s p q 3 = some ((x.1 : Int), (y.2 : Int), true) := by
  have h1 := place_min hp hq
  have h2 := place_max hp hq
  obtain ⟨n, j, x, hn, hx, h3, h4, h5, _, hsx, _⟩ := Line.place_line h1
  obtain ⟨m, k, y, hm, hy, h6, h7, h8, _, _, hst⟩ := Line.place_line h2
  refine ⟨j, k, x, y, ?_, hx, hy, by rw [rng_whole hp hq, hsx, hst]⟩
  rcases Nat.lt_or_ge k j with h | h
  · have := (L_whole (L_valid hx)).mono hy hx h
    omega
  · exact h

/-- As many line feeds, and one more. -/
theorem lns_count (a i : Nat) (t : List UInt8) : (Line.lns a i t).length = t.count 10 + 1 := by
  induction t generalizing a i with
  | nil => rfl
  | cons b t ih =>
    rw [Line.lns]
    split
    · rename_i h; subst h; simp [ih]
    · rename_i h; rw [ih, List.count_cons_of_ne h]
theorem L_count {s : List UInt8} (h : valid s = true) : (L s).length = s.count 10 + 1 := by rw [Line.L_ok h]; exact lns_count 0 0 s
theorem count_more {s : List UInt8} {a n : Nat} (h : ∀ p, a ≤ p → p < a + n → s[p]? ≠ some 10) : (s.take (a + n)).count 10 = (s.take a).count 10 := by
  induction n with
  | zero => rfl
  | succ n ih =>
    rw [← Nat.add_assoc, List.take_add_one, List.count_append, ih (fun p h1 h2 => h p h1 (by omega))]
    have := h (a + n) (by omega) (by omega)
    cases hs : s[a + n]? with
    | none => simp
    | some b =>
      rw [hs] at this
      have hb : b ≠ 10 := fun h => this (by rw [h])
      simp [List.count_cons_of_ne hb]
theorem count_line {s : List UInt8} {k : Nat} {x : Nat × Nat} (h : (L s)[k]? = some x) : (s.take x.1).count 10 = k ∧ (s.take x.2).count 10 = k := by
  have W := L_whole (L_valid h)
  have key : (s.take x.2).count 10 = (s.take x.1).count 10 := by
    obtain ⟨_, h1, _, h2⟩ := W.each k x h
    have := count_more (s := s) (a := x.1) (n := x.2 - x.1) (fun p h3 h4 => h2 p h3 (by omega))
    rwa [show x.1 + (x.2 - x.1) = x.2 by omega] at this
  rw [key]
  suffices h0 : (s.take x.1).count 10 = k from ⟨h0, h0⟩
  clear key
  induction k generalizing x with
  | zero =>
    obtain ⟨z, hz, h0⟩ := W.head
    rw [hz] at h
    injection h with h
    subst h
    rw [h0]; rfl
  | succ k ih =>
    have hk : k < (L s).length := by have := (List.getElem?_eq_some_iff.1 h).1; omega
    have hz : (L s)[k]? = some (L s)[k] := List.getElem?_eq_getElem hk
    obtain ⟨h1, h2⟩ := W.more k _ x hz h
    obtain ⟨_, h3, _, h4⟩ := W.each k _ hz
    have := count_more (s := s) (a := (L s)[k].1) (n := (L s)[k].2 - (L s)[k].1) (fun p h5 h6 => h4 p h5 (by omega))
    rw [show (L s)[k].1 + ((L s)[k].2 - (L s)[k].1) = (L s)[k].2 by omega, ih hz] at this
    rw [h1, List.take_add_one, List.count_append, this, h2]
    rfl
theorem left_valid {s : List UInt8} {a b : Nat} (ha : place s (a : Int) = true) (hb : place s (b : Int) = true) : valid (s.take a ++ s.drop b) = true := by
  obtain ⟨rs, hd⟩ := Option.isSome_iff_exists.1 (Line.place_ok ha)
  obtain ⟨i, hi, he⟩ := (Utf.place_iff hd).1 ha
  obtain ⟨j, hj, hf⟩ := (Utf.place_iff hd).1 hb
  obtain rfl : off rs i = a := by omega
  obtain rfl : off rs j = b := by omega
  obtain ⟨h1, h2⟩ := Utf.dec_some hd
  rw [h2, Utf.off_take, Utf.off_drop, ← List.flatten_append, Utf.valid, Utf.dec_of]
  · rfl
  · intro r hr
    rcases List.mem_append.1 hr with h | h
    · exact h1 r (List.mem_of_mem_take h)
    · exact h1 r (List.mem_of_mem_drop h)
/-- What is cut with whole lines from a to b. -/
def cutA (s : List UInt8) (a b : Nat) : Nat := if b < s.length then a else a - 1
def cutB (s : List UInt8) (b : Nat) : Nat := if b < s.length then b + 1 else b
theorem cut_left {s : List UInt8} {j k : Nat} {x y : Nat × Nat} (hjk : j ≤ k) (hx : (L s)[j]? = some x) (hy : (L s)[k]? = some y) :
    cutA s x.1 y.2 ≤ cutB s y.2 ∧ cutB s y.2 ≤ s.length ∧ ((L (s.take (cutA s x.1 y.2) ++ s.drop (cutB s y.2))).length : Int) = max 1 (((L s).length : Int) - ((k : Int) - (j : Int) + 1)) := by
  have hv := L_valid hx
  have W := L_whole hv
  have hxs := L_each hx
  have hys := L_each hy
  have hxy : x.1 ≤ y.2 := by
    rcases Nat.eq_or_lt_of_le hjk with h | h
    · subst h; rw [hx] at hy; injection hy with hy; subst hy; exact hxs.1
    · have := W.mono hx hy h; omega
  have cx := count_line hx
  have cy := count_line hy
  have hL := L_count hv
  have hsum : ∀ n, (s.take n).count 10 + (s.drop n).count 10 = s.count 10 := fun n => by rw [← List.count_append, List.take_append_drop]
  unfold cutA cutB
  cases hz : (L s)[k + 1]? with
  | some z =>
    obtain ⟨h1, h2⟩ := W.more k y z hy hz
    have hlt : y.2 < s.length := (List.getElem?_eq_some_iff.1 h2).1
    have hkl := (List.getElem?_eq_some_iff.1 hz).1
    rw [if_pos hlt, if_pos hlt, ← h1]
    refine ⟨by omega, by omega, ?_⟩
    rw [L_count (left_valid (Line.start_ok hx) (Line.start_ok hz)), List.count_append]
    have := hsum z.1
    have := (count_line hz).1
    omega
  | none =>
    have h1 := W.last k y hy hz
    have hkl := (List.getElem?_eq_some_iff.1 hy).1
    have hkn : (L s).length = k + 1 := by
      rcases Nat.lt_or_ge (k + 1) (L s).length with h | h
      · rw [List.getElem?_eq_getElem h] at hz; cases hz
      · omega
    rw [if_neg (by omega), if_neg (by omega)]
    refine ⟨by omega, by omega, ?_⟩
    rw [h1, List.drop_length, List.append_nil]
    cases j with
    | zero =>
      obtain ⟨u, hu, h0⟩ := W.head
      rw [hu] at hx
      injection hx with hx
      subst hx
      rw [h0, show s.take (0 - 1) = [] from rfl, L_count (by rw [Utf.valid, Utf.dec_nil]; rfl)]
      rw [show List.count (10 : UInt8) [] = 0 from rfl]
      omega
    | succ j =>
      have hj : j < (L s).length := by have := (List.getElem?_eq_some_iff.1 hx).1; omega
      have hu : (L s)[j]? = some (L s)[j] := List.getElem?_eq_getElem hj
      have h2 := (W.more j _ x hu hx).1
      rw [h2, Nat.add_sub_cancel]
      have h3 := left_valid (Line.stop_ok hu) (b := s.length) (by rw [← h1]; exact Line.stop_ok hy)
      rw [List.drop_length, List.append_nil] at h3
      rw [L_count h3, (count_line hu).2]
      omega
end Span
end Go.Proofs.YtdclopfhffjkfaaDoor
/-
  What is put in, flipped, and put over others, without a program.
-/
namespace Go.Proofs.YtdclopfhffjkfaaDoor
namespace Pst
open Utf (dec off valid place next prev rune offset one)
open Line (L seg of_ clamp normal L_whole L_valid L_each)
open Gl

/-- What is told: a text, a place, an error. -/
abbrev Ans := List UInt8 × Int × Int
def val (r : Ans) : Value := .tuple #[.string (bs r.1), .int .i64 r.2.1, .int .i64 r.2.2]
theorem val_mk (t : List UInt8) (p e : Int) : val (t, p, e) = .tuple #[.string (bs t), .int .i64 p, .int .i64 e] := rfl
def no (e : Int) : Ans := ([], 0, e)
theorem val_no (e : Int) : val (no e) = .tuple #[.string ⟨#[]⟩, .int .i64 0, .int .i64 e] := rfl

/-- A text n times. -/
def reps : Nat → List UInt8 → List UInt8
  | 0, _ => []
  | n + 1, x => x ++ reps n x
theorem reps_succ (n : Nat) (x : List UInt8) : reps (n + 1) x = x ++ reps n x := rfl
theorem reps_one (x : List UInt8) : reps 1 x = x := by simp [reps]
theorem reps_snoc (n : Nat) (x : List UInt8) : reps (n + 1) x = reps n x ++ x := by
  induction n with
  | zero => simp [reps]
  | succ n ih => rw [reps_succ (n + 1), ih, ← List.append_assoc, ← reps_succ, ih]
theorem reps_length (n : Nat) (x : List UInt8) : (reps n x).length = n * x.length := by
  induction n with
  | zero => simp [reps]
  | succ n ih => rw [reps_succ, List.length_append, ih, Nat.succ_mul, Nat.add_comm]
/-- A text with another one in the place of what stands from a to b. -/
def mid (s : List UInt8) (a b : Nat) (y : List UInt8) : List UInt8 := s.take a ++ (y ++ s.drop b)
theorem mid_length {s : List UInt8} {a b : Nat} (y : List UInt8) (h : a ≤ b) (hb : b ≤ s.length) : (mid s a b y).length + (b - a) = s.length + y.length := by
  rw [mid, List.length_append, List.length_append, List.length_take, List.length_drop]; omega

/-- What is put in each time. -/
def once (x : List UInt8) (l ah : Bool) : List UInt8 := if l then (if ah then x ++ [10] else 10 :: x) else x
/-- Where. -/
def spot (s : List UInt8) (p : Int) (l ah : Bool) : Int := if l then (if ah then Line.start s (of_ s p) else Line.stop s (of_ s p)) else (if ah = true ∨ Span.ends s p.toNat = true then p else next s p)
/-- How often, at least once. -/
def often (n : Int) : Nat := (max n 1).toNat
theorem often_int (n : Int) : (often n : Int) = max n 1 := by unfold often; omega
theorem often_pos (n : Int) : 1 ≤ often n := by unfold often; omega
/-- Put. -/
def putT (s : List UInt8) (p : Int) (x : List UInt8) (l ah : Bool) (n : Int) : List UInt8 := mid s (spot s p l ah).toNat (spot s p l ah).toNat (reps (often n) (once x l ah))
def putP (s : List UInt8) (p : Int) (x : List UInt8) (l ah : Bool) (n : Int) : Int :=
  if l then Line.first (putT s p x l ah n) (if ah then of_ s p else of_ s p + 1)
  else if 10 ∈ x then clamp (putT s p x l ah n) (spot s p l ah)
  else prev (putT s p x l ah n) (spot s p l ah + (often n * x.length : Nat))
def fits (s x : List UInt8) (l ah : Bool) (n : Int) : Prop := s.length + often n * (once x l ah).length ≤ 4096
instance (s x : List UInt8) (l ah : Bool) (n : Int) : Decidable (fits s x l ah n) := inferInstanceAs (Decidable (_ ≤ _))
def put (s : List UInt8) (p : Int) (x : List UInt8) (l ah : Bool) (n : Int) : Ans :=
  if place s p = true ∧ valid x = true then
    (if x = [] ∧ l = false then no 7 else if fits s x l ah n then (putT s p x l ah n, putP s p x l ah n, 0) else no 8)
  else no 1

/-- Behind the n runes from p on; -1, if the line has not so many. -/
def behind (s : List UInt8) (p n : Int) : Int := if offset (seg s p.toNat (Line.stop s (of_ s p)).toNat) n < 0 then -1 else p + offset (seg s p.toNat (Line.stop s (of_ s p)).toNat) n
/-- .. or the line's end. -/
def reach (s : List UInt8) (p n : Int) : Int := if behind s p (max n 1) < 0 then Line.stop s (of_ s p) else behind s p (max n 1)
/-- Flip. -/
def flipT (s : List UInt8) (p q : Nat) : List UInt8 := mid s p q (Class.turn Class.letter (seg s p q))
def flip (s : List UInt8) (p n : Int) : Ans :=
  if place s p = true then
    (if Span.ends s p.toNat = true then no 10 else (flipT s p.toNat (reach s p n).toNat, clamp (flipT s p.toNat (reach s p n).toNat) (reach s p n), 0))
  else no 1
/-- May it be put over others? -/
def key (k : List UInt8) : Bool := (one k && Key.sgn k) || decide (k = [9])
/-- Over. -/
def overT (s : List UInt8) (p q : Nat) (k : List UInt8) (n : Int) : List UInt8 := mid s p q (reps (often n) k)
def over (s : List UInt8) (p : Int) (k : List UInt8) (n : Int) : Ans :=
  if place s p = true then
    (if key k = true then
      (if behind s p (max n 1) < 0 then no 10
       else if (overT s p.toNat (behind s p (max n 1)).toNat k n).length ≤ 4096 then (overT s p.toNat (behind s p (max n 1)).toNat k n, p + ((often n - 1) * k.length : Nat), 0)
       else no 8)
     else no 9)
  else no 1

/-- A place, and the runes from it on, ahead of its line's end. -/
theorem tail_runes {s : List UInt8} {p : Int} (h : place s p = true) : ∃ (rs : List (List UInt8)) (i j : Nat), dec s = some rs ∧ i ≤ j ∧ j ≤ rs.length ∧ p = off rs i ∧ Line.stop s (of_ s p) = off rs j ∧ dec (seg s p.toNat (Line.stop s (of_ s p)).toNat) = some ((rs.take j).drop i) ∧
    (Span.ends s p.toNat = true ↔ i = j) ∧ (∀ q : Nat, off rs i ≤ q → q < off rs j → s[q]? ≠ some 10) ∧ (j = rs.length ∨ s[off rs j]? = some 10) ∧ off rs i ≤ off rs j ∧ off rs j ≤ s.length := by
  obtain ⟨n, k, x, rfl, hx, h1, h2, h3, he, hst, hsp⟩ := Line.place_line h
  obtain ⟨rs, i', j, hd, hij, hj, hi1, hj1⟩ : ∃ (rs : List (List UInt8)) (i' j : Nat), dec s = some rs ∧ i' ≤ j ∧ j ≤ rs.length ∧ off rs i' = x.1 ∧ off rs j = x.2 := by
    obtain ⟨rs, hd⟩ := Utf.valid_of (L_valid hx)
    obtain ⟨i, j, a, b, c, d, _⟩ := Line.line_runes hd hx
    exact ⟨rs, i, j, hd, a, b, c, d⟩
  obtain ⟨i, hi, hin⟩ := (Utf.place_iff hd).1 h
  have hin' : off rs i = n := by omega
  have hall := (Utf.dec_some hd).1
  have hij2 : i ≤ j := by
    rcases Nat.lt_or_ge j i with h4 | h4
    · have := Utf.off_lt hall h4 hi; omega
    · exact h4
  have W := L_whole (L_valid hx)
  refine ⟨rs, i, j, hd, hij2, hj, by omega, by rw [hsp, hj1], ?_, ?_, ?_, ?_, Utf.off_mono hij2, Utf.off_in hd j⟩
  · rw [hsp, Int.toNat_natCast, Int.toNat_natCast, ← hin', ← hj1]
    exact Line.seg_dec hd i j
  · rw [Int.toNat_natCast, Span.ends_at hx h1 h2, decide_eq_true_iff]
    constructor
    · intro e
      refine Utf.off_inj hall hi hj ?_
      omega
    · rintro rfl; omega
  · intro q hq hqj
    exact (W.each k x hx).2.2.2 _ (by omega) (by omega)
  · cases hy : (L s)[k + 1]? with
    | none =>
      have := W.last k x hx hy
      left
      refine Utf.off_inj hall hj (Nat.le_refl _) ?_
      rw [Utf.off_top hd (Nat.le_refl _)]; omega
    | some y => right; rw [hj1]; exact (W.more k x y hx hy).2
theorem behind_runes {s : List UInt8} {p : Int} {rs : List (List UInt8)} {i j : Nat} (hd : dec (seg s p.toNat (Line.stop s (of_ s p)).toNat) = some ((rs.take j).drop i)) (hp : p = off rs i) (hij : i ≤ j) (hj : j ≤ rs.length) {m : Nat} :
    behind s p (m : Int) = if i + m ≤ j then (off rs (i + m) : Int) else -1 := by
  have hl : ((rs.take j).drop i).length = j - i := by rw [List.length_drop, List.length_take]; omega
  rw [behind]
  by_cases h : i + m ≤ j
  · rw [Utf.offset_at hd (by rw [hl]; omega), if_neg (by omega), if_pos h, hp, Line.seg_off (rs := rs) (i := i) (j := j) h]
    omega
  · rw [Utf.offset_past hd (Or.inr (by rw [hl]; omega)), if_pos (by decide), if_neg h]
theorem reach_runes {s : List UInt8} {p : Int} {rs : List (List UInt8)} {i j : Nat} (hd : dec (seg s p.toNat (Line.stop s (of_ s p)).toNat) = some ((rs.take j).drop i)) (hp : p = off rs i) (hij : i ≤ j) (hj : j ≤ rs.length) (he : Line.stop s (of_ s p) = off rs j) (n : Int) :
    reach s p n = off rs (i + min (often n) (j - i)) := by
  rw [reach, ← often_int, behind_runes hd hp hij hj]
  by_cases h : i + often n ≤ j
  · rw [if_pos h, if_neg (by omega), Nat.min_eq_left (by omega)]
  · rw [if_neg h, if_pos (by decide), he, Nat.min_eq_right (by omega)]
    congr 2; omega
/-- Where something is put in is a place. -/
theorem spot_place {s : List UInt8} {p : Int} (h : place s p = true) (l ah : Bool) : ∃ a : Nat, spot s p l ah = a ∧ a ≤ s.length ∧ place s (a : Int) = true := by
  obtain ⟨n, k, x, hn, hx, h1, h2, h3, he, hst, hsp⟩ := Line.place_line h
  rw [spot]
  cases l with
  | true =>
    rw [if_pos rfl]
    cases ah with
    | true => rw [if_pos rfl, hst]; exact ⟨x.1, rfl, by omega, Line.start_ok hx⟩
    | false => rw [if_neg (by decide), hsp]; exact ⟨x.2, rfl, h3, Line.stop_ok hx⟩
  | false =>
    rw [if_neg (by decide)]
    by_cases hc : ah = true ∨ Span.ends s p.toNat = true
    · rw [if_pos hc]; exact ⟨n, hn, by omega, by rw [← hn]; exact h⟩
    · rw [if_neg hc]
      have hlt : n < s.length := by
        rcases Nat.lt_or_ge n s.length with h4 | h4
        · exact h4
        · exact absurd (Or.inr (by rw [hn, Int.toNat_natCast, Span.ends, decide_eq_true (by omega)]; rfl)) hc
      obtain ⟨m, hm, hp, _, hml⟩ := Span.next_ok (q := n) (by rw [← hn]; exact h) hlt
      rw [hn, hm]
      exact ⟨m, rfl, hml, hp⟩
theorem once_length (x : List UInt8) (l ah : Bool) : (once x l ah).length = x.length + (if l then 1 else 0) := by
  cases l <;> cases ah <;> simp [once]
/-- There is room for so many. -/
theorem room {n f z : Int} (hn : 1 ≤ n) (hz : 1 ≤ z) : f.tdiv z < n ↔ f < n * z := by
  rcases Int.lt_or_le f 0 with h | h
  · constructor
    · intro _
      have : 0 < n * z := Int.mul_pos (by omega) (by omega)
      omega
    · intro _
      have h2 : f.tdiv z ≤ 0 := by
        rw [show f = -(-f) by omega, Int.neg_tdiv]
        have := Int.tdiv_nonneg (a := -f) (b := z) (by omega) (by omega)
        omega
      omega
  · rw [Int.tdiv_eq_ediv_of_nonneg h]
    exact Int.ediv_lt_iff_lt_mul (by omega)
end Pst
end Go.Proofs.YtdclopfhffjkfaaDoor
/-
  What may be told of a text and a place, without a program; other letters keep a text valid, and its lines.
-/
namespace Go.Proofs.YtdclopfhffjkfaaDoor
namespace Opr
open Utf (valid place dec off one)
open Line (L L_whole L_valid L_each seg clamp normal clip lns)
open Gl
/-- What may be told. -/
def Good (x : List UInt8) (p e : Int) (nm : Bool) : Prop := (e ≠ 0 → x = [] ∧ p = 0) ∧ (e = 0 → place x p = true ∧ (nm = true → normal x p = true))
theorem good_no {e : Int} (nm : Bool) (h : e ≠ 0) : Good [] 0 e nm := ⟨fun _ => ⟨rfl, rfl⟩, fun h2 => absurd h2 h⟩
theorem place_normal {x : List UInt8} {p : Int} (h : normal x p = true) : place x p = true := by
  cases hp : place x p with
  | true => rfl
  | false => rw [Line.normal_bad hp] at h; cases h
theorem good_normal {x : List UInt8} {p : Int} (h : normal x p = true) : Good x p 0 true := ⟨fun h => absurd rfl h, fun _ => ⟨place_normal h, fun _ => h⟩⟩
theorem clamp_good {x : List UInt8} (hv : valid x = true) (p : Int) : Good x (clamp x p) 0 true := by
  obtain ⟨k, y, hy, h1, h2⟩ := (L_whole hv).find (p := clip x p) (Line.clip_le x p)
  obtain ⟨c, hc, _, hn, _⟩ := Line.clamp_ok hy h1 h2
  rw [hc]; exact good_normal hn
theorem first_good {x : List UInt8} {k : Nat} (h : k < (L x).length) : Good x (Line.first x (k : Nat)) 0 true := by
  obtain ⟨c, hc, hn, _, _⟩ := Line.first_ok (List.getElem?_eq_getElem h)
  rw [hc]; exact good_normal hn
theorem flip_low (f : Nat → Bool) (hf : f = Class.small ∨ f = Class.capital ∨ f = Class.letter) (b : UInt8) : (b.toNat < 128 → (Class.flip f b).toNat < 128) ∧ (128 ≤ b.toNat → Class.flip f b = b) := by
  rcases hf with rfl | rfl | rfl
  · exact Class.flip_all (fun b => (b.toNat < 128 → (Class.flip Class.small b).toNat < 128) ∧ (128 ≤ b.toNat → Class.flip Class.small b = b)) (by decide +kernel) b
  · exact Class.flip_all (fun b => (b.toNat < 128 → (Class.flip Class.capital b).toNat < 128) ∧ (128 ≤ b.toNat → Class.flip Class.capital b = b)) (by decide +kernel) b
  · exact Class.flip_all (fun b => (b.toNat < 128 → (Class.flip Class.letter b).toNat < 128) ∧ (128 ≤ b.toNat → Class.flip Class.letter b = b)) (by decide +kernel) b
theorem heads_low {b : UInt8} (h : Utf.heads b.toNat = false) : 128 ≤ b.toNat := Class.flip_all (fun b => Utf.heads b.toNat = false → 128 ≤ b.toNat) (by decide +kernel) b h
theorem len_low {b : UInt8} (h : b.toNat < 128) : Utf.len b.toNat = 1 := Class.flip_all (fun b => b.toNat < 128 → Utf.len b.toNat = 1) (by decide +kernel) b h
theorem turn_one {f : Nat → Bool} (hf : f = Class.small ∨ f = Class.capital ∨ f = Class.letter) {r : List UInt8} (h : one r = true) : one (Class.turn f r) = true := by
  obtain ⟨a, t, rfl, _, hl, ht⟩ := Utf.one_shape h
  rcases Nat.lt_or_ge a.toNat 128 with ha | ha
  · rw [len_low ha] at hl
    cases t with
    | cons _ _ => rw [List.length_cons, List.length_cons] at hl; omega
    | nil => exact one_ascii ((flip_low f hf a).1 ha)
  · have : Class.turn f (a :: t) = a :: t := by
      rw [Class.turn, List.map_cons, (flip_low f hf a).2 ha]
      congr 1
      conv => rhs; rw [← List.map_id t]
      exact List.map_congr_left fun b hb => (flip_low f hf b).2 (heads_low (ht b hb))
    rw [this]; exact h
theorem turn_valid {f : Nat → Bool} (hf : f = Class.small ∨ f = Class.capital ∨ f = Class.letter) {x : List UInt8} (h : valid x = true) : valid (Class.turn f x) = true := by
  obtain ⟨rs, hd⟩ := Utf.valid_of h
  obtain ⟨h1, h2⟩ := Utf.dec_some hd
  have e : Class.turn f x = (rs.map (Class.turn f)).flatten := by
    rw [h2, Class.turn, List.map_flatten]
    rfl
  rw [e, valid, Utf.dec_of fun r hr => ?_]
  · rfl
  · obtain ⟨z, hz, rfl⟩ := List.mem_map.1 hr
    exact turn_one hf (h1 z hz)
theorem seg_valid {s : List UInt8} {p q : Nat} (hp : place s (p : Int) = true) (hq : place s (q : Int) = true) (h : p ≤ q) : valid (seg s p q) = true := by
  obtain ⟨rs, i, hd, hi, he⟩ := Utf.place_of hp
  obtain ⟨rs', j, hd', hj, he'⟩ := Utf.place_of hq
  rw [hd] at hd'
  injection hd' with hd'
  subst hd'
  obtain ⟨h1, h2⟩ := Utf.dec_some hd
  obtain rfl : off rs i = p := by omega
  obtain rfl : off rs j = q := by omega
  have hij : i ≤ j := by
    rcases Nat.lt_or_ge j i with h3 | h3
    · have := Utf.off_lt h1 h3 hi; omega
    · exact h3
  have ho : off (rs.take j) i = off rs i := by rw [off, off, List.take_take, Nat.min_eq_left hij]
  rw [seg, h2, Utf.off_take, ← ho, Utf.off_drop, valid, Utf.dec_of fun r hr => h1 r (List.mem_of_mem_take (List.mem_of_mem_drop hr))]
  rfl
/-- Lines lie where line feeds do. -/
theorem lns_same (a i : Nat) {t u : List UInt8} (h : t.map (fun b => decide (b = 10)) = u.map (fun b => decide (b = 10))) : lns a i t = lns a i u := by
  induction t generalizing a i u with
  | nil => cases u with
    | nil => rfl
    | cons _ _ => cases h
  | cons b t ih =>
    cases u with
    | nil => cases h
    | cons c u =>
      rw [List.map_cons, List.map_cons] at h
      injection h with h1 h2
      rw [lns, lns]
      by_cases hb : b = 10
      · have hc : c = 10 := by rw [decide_eq_true hb] at h1; exact of_decide_eq_true h1.symm
        rw [if_pos hb, if_pos hc, ih _ _ h2]
      · have hc : ¬ c = 10 := by rw [decide_eq_false hb] at h1; exact of_decide_eq_false h1.symm
        rw [if_neg hb, if_neg hc, ih _ _ h2]
theorem flip_feed (b : UInt8) : decide (Class.flip Class.letter b = 10) = decide (b = 10) := Class.flip_all (fun b => decide (Class.flip Class.letter b = 10) = decide (b = 10)) (by decide +kernel) b
theorem three_parts {s : List UInt8} {p q : Nat} (h : p ≤ q) (hq : q ≤ s.length) : s = s.take p ++ (seg s p q ++ s.drop q) ∧ (s.take p).length = p ∧ (seg s p q).length = q - p := by
  refine ⟨?_, by rw [List.length_take]; omega, by rw [seg, List.length_drop, List.length_take]; omega⟩
  have e : s.take p = (s.take q).take p := by rw [List.take_take, Nat.min_eq_left h]
  rw [seg, ← List.append_assoc, e, List.take_append_drop, List.take_append_drop]
end Opr
end Go.Proofs.YtdclopfhffjkfaaDoor
/-
  Where a place goes by one change, without a program.
-/
namespace Go.Proofs.YtdclopfhffjkfaaDoor
namespace Chg
/-- Where a place goes by one change. -/
def shift (p i : Int) (o n : Nat) : Int := if p < i then p else if p < i + o then i else p + ((n : Int) - o)
end Chg
end Go.Proofs.YtdclopfhffjkfaaDoor
/-
  Changes of texts, without a program: what two lists have in common at their beginnings and ends, the change that makes one text of another one, what changes make of a text, where places go.
-/
namespace Go.Proofs.YtdclopfhffjkfaaDoor
namespace Chg
open Utf
/-- How many of two lists are the same, from the first on. -/
def cp {α : Type} [DecidableEq α] : List α → List α → Nat
  | a :: x, b :: y => if a = b then cp x y + 1 else 0
  | [], _ => 0
  | _ :: _, [] => 0
/-- How many of two lists are the same, from the last on. -/
def cs {α : Type} [DecidableEq α] (x y : List α) : Nat := cp x.reverse y.reverse
section
variable {α : Type} [DecidableEq α]
theorem cp_comm : ∀ x y : List α, cp x y = cp y x
  | [], [] => rfl
  | [], _ :: _ => rfl
  | _ :: _, [] => rfl
  | a :: x, b :: y => by
    simp only [cp]
    by_cases h : a = b
    · rw [if_pos h, if_pos h.symm, cp_comm x y]
    · rw [if_neg h, if_neg (fun e => h e.symm)]
theorem cp_get : ∀ {x y : List α} {n : Nat}, n < cp x y → ∃ c, x[n]? = some c ∧ y[n]? = some c
  | [], _, _, h => by simp [cp] at h
  | _ :: _, [], _, h => by simp [cp] at h
  | a :: x, b :: y, n, h => by
    simp only [cp] at h
    by_cases e : a = b
    · rw [if_pos e] at h
      subst e
      cases n with
      | zero => exact ⟨a, rfl, rfl⟩
      | succ n => exact cp_get (x := x) (y := y) (n := n) (by omega)
    · rw [if_neg e] at h; omega
theorem cp_next : ∀ {x y : List α} {c : α}, x[cp x y]? = some c → y[cp x y]? ≠ some c
  | [], _, _, h => by simp at h
  | _ :: _, [], _, _ => by simp
  | a :: x, b :: y, c, h => by
    simp only [cp] at h ⊢
    by_cases e : a = b
    · rw [if_pos e] at h ⊢
      exact cp_next (x := x) (y := y) h
    · rw [if_neg e] at h ⊢
      intro h2
      simp only [List.getElem?_cons_zero, Option.some.injEq] at h h2
      exact e (h.trans h2.symm)
theorem cp_le (x y : List α) : cp x y ≤ x.length := by
  rcases Nat.lt_or_ge x.length (cp x y) with h | h
  · obtain ⟨c, h1, _⟩ := cp_get h
    simp at h1
  · exact h
theorem cp_le' (x y : List α) : cp x y ≤ y.length := by rw [cp_comm]; exact cp_le y x
theorem cp_take {x y : List α} {k : Nat} (h : k ≤ cp x y) : x.take k = y.take k := by
  apply List.ext_getElem?
  intro i
  rw [List.getElem?_take, List.getElem?_take]
  by_cases hi : i < k
  · rw [if_pos hi, if_pos hi]
    obtain ⟨c, h1, h2⟩ := cp_get (x := x) (y := y) (n := i) (by omega)
    rw [h1, h2]
  · rw [if_neg hi, if_neg hi]
theorem cp_max {x y : List α} {k : Nat} (hx : k ≤ x.length) (h : x.take k = y.take k) : k ≤ cp x y := by
  rcases Nat.lt_or_ge (cp x y) k with hlt | hge
  · have h1 : x[cp x y]? = some (x[cp x y]'(by omega)) := List.getElem?_eq_getElem _
    have h2 := congrArg (fun l => l[cp x y]?) h
    simp only [List.getElem?_take, if_pos hlt] at h2
    exact absurd (h2 ▸ h1) (cp_next h1)
  · exact hge
theorem cp_lt {x y : List α} {n : Nat} (h : n ≤ cp x y) (hx : n < x.length) (hy : n < y.length) : x[n] = y[n] ↔ n < cp x y := by
  constructor
  · intro e
    rcases Nat.lt_or_ge n (cp x y) with h1 | h1
    · exact h1
    · obtain rfl : n = cp x y := by omega
      exact absurd (by rw [List.getElem?_eq_getElem hy, e]) (cp_next (List.getElem?_eq_getElem hx))
  · intro h1
    obtain ⟨c, h2, h3⟩ := cp_get h1
    rw [List.getElem?_eq_getElem hx] at h2
    rw [List.getElem?_eq_getElem hy] at h3
    injection h2 with h2
    injection h3 with h3
    rw [h2, h3]
theorem cs_comm (x y : List α) : cs x y = cs y x := cp_comm _ _
theorem cs_le (x y : List α) : cs x y ≤ x.length := by have := cp_le x.reverse y.reverse; simpa [cs] using this
theorem cs_le' (x y : List α) : cs x y ≤ y.length := by rw [cs_comm]; exact cs_le y x
theorem cs_drop {x y : List α} {k : Nat} (h : k ≤ cs x y) : x.drop (x.length - k) = y.drop (y.length - k) := by
  have := cp_take h
  rw [List.take_reverse, List.take_reverse] at this
  exact List.reverse_inj.1 this
theorem cs_max {x y : List α} {k : Nat} (hx : k ≤ x.length) (h : x.drop (x.length - k) = y.drop (y.length - k)) : k ≤ cs x y := by
  refine cp_max (by simpa using hx) ?_
  rw [List.take_reverse, List.take_reverse, h]
theorem cs_lt {x y : List α} {n : Nat} (h : n ≤ cs x y) (hx : n < x.length) (hy : n < y.length) : x[x.length - 1 - n]'(by omega) = y[y.length - 1 - n]'(by omega) ↔ n < cs x y := by
  have := cp_lt h (by simpa using hx) (by simpa using hy)
  rw [List.getElem_reverse, List.getElem_reverse] at this
  exact this
end
theorem dec_inj {x y : List (List UInt8)} (hx : ∀ r ∈ x, one r = true) (hy : ∀ r ∈ y, one r = true) (h : x.flatten = y.flatten) : x = y := by
  have h1 := dec_of hx
  rw [h, dec_of hy] at h1
  injection h1 with h1
  exact h1.symm
section
variable {x y : List (List UInt8)}
theorem off_same {n : Nat} (h : x.take n = y.take n) : off x n = off y n := by rw [off, off, h]
/-- Of two texts of runes what is the same at the beginning, byte by byte, ends in the rune behind those that are the same. -/
theorem head_under (hx : ∀ r ∈ x, one r = true) (hy : ∀ r ∈ y, one r = true) : Under x (cp x y) (cp x.flatten y.flatten) := by
  refine ⟨cp_le x y, cp_max (off_le x _) ?_, fun hn => ?_⟩
  · rw [off_take, off_same (cp_take (Nat.le_refl _)), off_take, cp_take (Nat.le_refl _)]
  · rcases Nat.lt_or_ge (cp x.flatten y.flatten) (off x (cp x y + 1)) with h | h
    · exact h
    · exfalso
      have h1 := cp_take h
      rw [off_take] at h1
      have h2 : y.flatten = (x.take (cp x y + 1)).flatten ++ y.flatten.drop (off x (cp x y + 1)) := by rw [h1, List.take_append_drop]
      have h3 := dec_all (y.flatten.drop (off x (cp x y + 1))) (rs := x.take (cp x y + 1)) (fun r hr => hx r (List.mem_of_mem_take hr))
      rw [← h2, dec_of hy] at h3
      cases hd : dec (y.flatten.drop (off x (cp x y + 1))) with
      | none => rw [hd] at h3; cases h3
      | some q =>
        rw [hd] at h3
        injection h3 with h3
        have h5 : y = x.take (cp x y + 1) ++ q := h3
        have hl : (x.take (cp x y + 1)).length = cp x y + 1 := by rw [List.length_take]; omega
        have h4 : y.take (cp x y + 1) = x.take (cp x y + 1) := by
          have := congrArg (List.take (cp x y + 1)) h5
          rw [List.take_append_of_le_length (by omega), List.take_take, Nat.min_self] at this
          exact this
        have := cp_max (x := x) (y := y) (k := cp x y + 1) (by omega) h4.symm
        omega
/-- How many bytes the runes have that are the same at the ends. -/
def tl (x y : List (List UInt8)) : Nat := (x.drop (x.length - cs x y)).flatten.length
theorem tl_comm (x y : List (List UInt8)) : tl x y = tl y x := by rw [tl, tl, cs_drop (Nat.le_refl _), cs_comm]
theorem tl_off (x y : List (List UInt8)) : off x (x.length - cs x y) + tl x y = x.flatten.length := by
  rw [tl, ← off_drop, List.length_drop]
  have := off_le x (x.length - cs x y)
  omega
theorem tl_le (x y : List (List UInt8)) : tl x y ≤ cs x.flatten y.flatten := by
  have h1 := tl_off x y
  have h2 := tl_off y x
  rw [tl_comm y x] at h2
  refine cs_max (by omega) ?_
  rw [show x.flatten.length - tl x y = off x (x.length - cs x y) by omega, show y.flatten.length - tl x y = off y (y.length - cs y x) by omega, off_drop, off_drop, cs_drop (Nat.le_refl _), cs_comm]
theorem tl_far (hx : ∀ r ∈ x, one r = true) (hy : ∀ r ∈ y, one r = true) {k : Nat} (h1 : tl x y < k) (h2 : k ≤ cs x.flatten y.flatten) : apart x.flatten (x.flatten.length - k) = false := by
  cases ha : apart x.flatten (x.flatten.length - k) with
  | false => rfl
  | true =>
    exfalso
    have hk1 : k ≤ x.flatten.length := Nat.le_trans h2 (cs_le _ _)
    have hk2 : k ≤ y.flatten.length := Nat.le_trans h2 (cs_le' _ _)
    have hd := cs_drop h2
    obtain ⟨i, hi, hoi⟩ := (apart_flat hx (by omega)).1 ha
    have hg : x.flatten[x.flatten.length - k]? = y.flatten[y.flatten.length - k]? := by
      have := congrArg (fun l => l[0]?) hd
      simpa [List.getElem?_drop] using this
    have hb : apart y.flatten (y.flatten.length - k) = true := by
      rw [apart] at ha ⊢
      rw [← hg]
      exact ha
    obtain ⟨j, hj, hoj⟩ := (apart_flat hy (by omega)).1 hb
    rw [← hoi, ← hoj, off_drop, off_drop] at hd
    have he := dec_inj (fun r hr => hx r (List.mem_of_mem_drop hr)) (fun r hr => hy r (List.mem_of_mem_drop hr)) hd
    have hl := congrArg List.length he
    rw [List.length_drop, List.length_drop] at hl
    have hm : x.length - i ≤ cs x y := cs_max (by omega) (by rw [show x.length - (x.length - i) = i by omega, show y.length - (x.length - i) = j by omega]; exact he)
    have hmo := off_mono (rs := x) (i := x.length - cs x y) (j := i) (by omega)
    have := tl_off x y
    omega
/-- What is between: without what is the same at the beginnings, and then at the ends. -/
def mid (x y : List (List UInt8)) : List (List UInt8) := (x.drop (cp x y)).take ((x.drop (cp x y)).length - cs (x.drop (cp x y)) (y.drop (cp x y)))
/-- What is the same at the ends. -/
def ends (x y : List (List UInt8)) : List (List UInt8) := (x.drop (cp x y)).drop ((x.drop (cp x y)).length - cs (x.drop (cp x y)) (y.drop (cp x y)))
theorem parts (x y : List (List UInt8)) : x = x.take (cp x y) ++ (mid x y ++ ends x y) := by rw [mid, ends, List.take_append_drop, List.take_append_drop]
theorem ends_comm (x y : List (List UInt8)) : ends x y = ends y x := by
  rw [ends, ends, cs_drop (Nat.le_refl _), cs_comm, cp_comm]
theorem parts' (x y : List (List UInt8)) : y = x.take (cp x y) ++ (mid y x ++ ends x y) := by
  rw [cp_take (Nat.le_refl _), ends_comm, cp_comm]
  exact parts y x
theorem mid_mem {r : List UInt8} (h : r ∈ mid x y) : r ∈ x := List.mem_of_mem_drop (List.mem_of_mem_take h)
theorem mid_first {r : List UInt8} (h : (mid x y).head? = some r) : (mid y x).head? ≠ some r := by
  intro h2
  rw [mid, List.head?_take] at h h2
  split at h
  · cases h
  · split at h2
    · cases h2
    · rw [List.head?_drop] at h h2
      rw [cp_comm y x] at h2
      exact cp_next h h2
theorem mid_last {r : List UInt8} (h : (mid x y).getLast? = some r) : (mid y x).getLast? ≠ some r := by
  intro h2
  have key : ∀ (u v : List (List UInt8)) (r : List UInt8), (u.take (u.length - cs u v)).getLast? = some r → u.reverse[cp u.reverse v.reverse]? = some r := fun u v r h => by
    have hc := cs_le u v
    rw [List.getLast?_eq_getElem?, List.length_take, Nat.min_eq_left (by omega), List.getElem?_take] at h
    split at h
    · next hlt =>
      have hlt2 : cs u v < u.length := by
        rcases Nat.lt_or_ge (cs u v) u.length with h3 | h3
        · exact h3
        · omega
      rw [show cp u.reverse v.reverse = cs u v from rfl, List.getElem?_reverse hlt2, ← h]
      congr 1; omega
    · cases h
  have k1 := key _ _ _ h
  rw [mid, cp_comm y x] at h2
  have k2 := key _ _ _ h2
  rw [cp_comm (List.reverse (y.drop _))] at k2
  exact cp_next k1 k2
end
/-- The place, what goes, and what comes, of the change that makes b of a. -/
def dAt (a b : List UInt8) : Nat := if a = b then 0 else match dec a, dec b with | some x, some y => off x (cp x y) | _, _ => 0
def dOld (a b : List UInt8) : List UInt8 := if a = b then [] else match dec a, dec b with | some x, some y => (mid x y).flatten | _, _ => []
section
variable {a b : List UInt8} {x y : List (List UInt8)}
theorem dAt_none (h : a = b ∨ dec a = none ∨ dec b = none) : dAt a b = 0 := by
  rw [dAt]
  split
  · rfl
  · rcases h with h | h | h
    · contradiction
    · rw [h]
    · rw [h]; cases dec a <;> rfl
theorem dOld_none (h : a = b ∨ dec a = none ∨ dec b = none) : dOld a b = [] := by
  rw [dOld]
  split
  · rfl
  · rcases h with h | h | h
    · contradiction
    · rw [h]
    · rw [h]; cases dec a <;> rfl
theorem dAt_some (hn : a ≠ b) (hx : dec a = some x) (hy : dec b = some y) : dAt a b = off x (cp x y) := by rw [dAt, if_neg hn, hx, hy]
theorem dOld_some (hn : a ≠ b) (hx : dec a = some x) (hy : dec b = some y) : dOld a b = (mid x y).flatten := by rw [dOld, if_neg hn, hx, hy]
theorem dAt_comm (a b : List UInt8) : dAt a b = dAt b a := by
  by_cases h : a = b
  · rw [h]
  · cases hx : dec a with
    | none => rw [dAt_none (Or.inr (Or.inl hx)), dAt_none (Or.inr (Or.inr hx))]
    | some x =>
      cases hy : dec b with
      | none => rw [dAt_none (Or.inr (Or.inr hy)), dAt_none (Or.inr (Or.inl hy))]
      | some y => rw [dAt_some h hx hy, dAt_some (fun e => h e.symm) hy hx, off_same (cp_take (Nat.le_refl _)), cp_comm]
/-- Both texts begin and end alike; between there is what goes, and what comes. -/
theorem diff_parts (ha : valid a = true) (hb : valid b = true) : ∃ p q, a = p ++ (dOld a b ++ q) ∧ b = p ++ (dOld b a ++ q) ∧ p.length = dAt a b ∧ place a (dAt a b : Int) = true ∧ valid (dOld a b) = true ∧ valid (dOld b a) = true := by
  obtain ⟨x, hx⟩ := valid_of ha
  obtain ⟨y, hy⟩ := valid_of hb
  by_cases h : a = b
  · subst h
    refine ⟨[], a, ?_, ?_, ?_, ?_, ?_, ?_⟩
    · rw [dOld_none (Or.inl rfl)]; rfl
    · rw [dOld_none (Or.inl rfl)]; rfl
    · rw [dAt_none (Or.inl rfl)]; rfl
    · rw [dAt_none (Or.inl rfl)]
      have := place_at hx (i := 0) (by omega)
      rwa [off_zero] at this
    · rw [dOld_none (Or.inl rfl)]; exact valid_ok dec_nil
    · rw [dOld_none (Or.inl rfl)]; exact valid_ok dec_nil
  · have h' : b ≠ a := fun e => h e.symm
    obtain ⟨rx, ex⟩ := dec_some hx
    obtain ⟨ry, ey⟩ := dec_some hy
    refine ⟨(x.take (cp x y)).flatten, (ends x y).flatten, ?_, ?_, ?_, ?_, ?_, ?_⟩
    · rw [dOld_some h hx hy, ← List.flatten_append, ← List.flatten_append, ← parts, ex]
    · rw [dOld_some h' hy hx, ← List.flatten_append, ← List.flatten_append, ← parts', ey]
    · rw [dAt_some h hx hy, off]
    · rw [dAt_some h hx hy]
      exact place_at hx (cp_le x y)
    · rw [dOld_some h hx hy]
      exact valid_ok (dec_of fun r hr => rx r (mid_mem hr))
    · rw [dOld_some h' hy hx]
      exact valid_ok (dec_of fun r hr => ry r (mid_mem hr))
end
theorem rune_first {s : List UInt8} {rs : List (List UInt8)} (h : dec s = some rs) : rune s 0 = rs.head?.getD [] := by
  cases rs with
  | nil =>
    obtain rfl : s = [] := (dec_some h).2
    rw [rune, show (0 : Int) = (([] : List UInt8).length : Int) from rfl, next_end h]
    rfl
  | cons r rs =>
    have := rune_at h (i := 0) (r := r) rfl
    rw [off_zero] at this
    exact this
theorem rune_last {s : List UInt8} {rs : List (List UInt8)} (h : dec s = some rs) : rune s (prev s (s.length : Int)) = rs.getLast?.getD [] := by
  have ht := off_top h (Nat.le_refl _)
  cases hl : rs.length with
  | zero =>
    obtain rfl := List.eq_nil_of_length_eq_zero hl
    obtain rfl : s = [] := (dec_some h).2
    rw [show (([] : List UInt8).length : Int) = 0 from rfl, prev_zero h, rune, next_no (place_out (Or.inl (by omega)))]
    rfl
  | succ i =>
    have hi : i < rs.length := by omega
    rw [← ht, hl, prev_at h hi, rune_at h (List.getElem?_eq_getElem hi), List.getLast?_eq_getElem?, show rs.length - 1 = i by omega, List.getElem?_eq_getElem hi]
    rfl
theorem getD_ne {u v : Option (List UInt8)} (hu : ∀ r, u = some r → one r = true) (hv : ∀ r, v = some r → one r = true) (h : ∀ r, u = some r → v ≠ some r) : u.getD [] ≠ v.getD [] ∨ (u.getD [] = [] ∧ v.getD [] = []) := by
  cases u with
  | none =>
    cases v with
    | none => exact Or.inr ⟨rfl, rfl⟩
    | some r => exact Or.inl fun e => one_ne (hv r rfl) e.symm
  | some q =>
    cases v with
    | none => exact Or.inl fun e => one_ne (hu q rfl) e
    | some r => exact Or.inl fun e => h q rfl (by rw [show q = r from e])
/-- The first runes of what goes and what comes are not the same, and the last ones are not. -/
theorem diff_least {a b : List UInt8} (ha : valid a = true) (hb : valid b = true) (hn : a ≠ b) :
    (rune (dOld a b) 0 ≠ rune (dOld b a) 0 ∨ (rune (dOld a b) 0 = [] ∧ rune (dOld b a) 0 = [])) ∧
    (rune (dOld a b) (prev (dOld a b) (dOld a b).length) ≠ rune (dOld b a) (prev (dOld b a) (dOld b a).length) ∨ (rune (dOld a b) (prev (dOld a b) (dOld a b).length) = [] ∧ rune (dOld b a) (prev (dOld b a) (dOld b a).length) = [])) := by
  obtain ⟨x, hx⟩ := valid_of ha
  obtain ⟨y, hy⟩ := valid_of hb
  obtain ⟨rx, ex⟩ := dec_some hx
  obtain ⟨ry, ey⟩ := dec_some hy
  have h1 := dec_of (rs := mid x y) fun r hr => rx r (mid_mem hr)
  have h2 := dec_of (rs := mid y x) fun r hr => ry r (mid_mem hr)
  rw [dOld_some hn hx hy, dOld_some (fun e => hn e.symm) hy hx, rune_first h1, rune_first h2, rune_last h1, rune_last h2]
  exact ⟨getD_ne (fun r e => rx r (mid_mem (List.mem_of_mem_head? e))) (fun r e => ry r (mid_mem (List.mem_of_mem_head? e))) (fun r e => mid_first e),
    getD_ne (fun r e => rx r (mid_mem (List.mem_of_getLast? e))) (fun r e => ry r (mid_mem (List.mem_of_getLast? e))) (fun r e => mid_last e)⟩
/-- Does a change fit a text? -/
def fits (t : List UInt8) (i : Int) (o n : List UInt8) : Bool := place t i && valid o && valid n && Lib.hasPrefix (t.drop i.toNat) o
/-- What a change makes. -/
def make (t : List UInt8) (i : Nat) (o n : List UInt8) : List UInt8 := t.take i ++ n ++ t.drop (i + o.length)
theorem fits_off {t : List UInt8} {i : Int} {o n : List UInt8} (h : fits t i o n = true) : ∃ k : Nat, i = k ∧ k + o.length ≤ t.length := by
  simp only [fits, Bool.and_eq_true] at h
  obtain ⟨rs, j, hd, hj, rfl⟩ := place_of h.1.1.1
  refine ⟨_, rfl, ?_⟩
  have h1 : o.length ≤ (t.drop ((off rs j : Int)).toNat).length := (List.isPrefixOf_iff_prefix.1 h.2).length_le
  have h2 := off_in hd j
  rw [List.length_drop] at h1
  simp at h1
  omega
theorem make_length {t : List UInt8} {i : Nat} {o n : List UInt8} (h : i + o.length ≤ t.length) : (make t i o n).length = t.length - o.length + n.length := by
  rw [make, List.length_append, List.length_append, List.length_take, List.length_drop]
  omega
theorem diff_fits {a b : List UInt8} (ha : valid a = true) (hb : valid b = true) : fits a (dAt a b : Int) (dOld a b) (dOld b a) = true ∧ make a (dAt a b) (dOld a b) (dOld b a) = b := by
  obtain ⟨p, q, h1, h2, h3, h4, h5, h6⟩ := diff_parts ha hb
  have h7 : a.drop (dAt a b) = dOld a b ++ q := by
    rw [← h3]
    conv => lhs; rw [h1]
    exact List.drop_left
  constructor
  · have h8 : Lib.hasPrefix (a.drop ((dAt a b : Int)).toNat) (dOld a b) = true := by
      rw [show ((dAt a b : Nat) : Int).toNat = dAt a b by omega, h7, ← Lib.hasPrefix_of_take]
      simp
    rw [fits, h4, h5, h6, h8]
    rfl
  · rw [make, ← List.drop_drop, h7, List.drop_left]
    conv => rhs; rw [h2]
    rw [← h3]
    conv => lhs; arg 1; arg 1; arg 2; rw [h1]
    simp
end Chg
end Go.Proofs.YtdclopfhffjkfaaDoor
/-
  What the document puts in, text by text, without a program; what is put in may be taken out, what is flipped may be flipped back, what is put over others is as many runes.
-/
namespace Go.Proofs.YtdclopfhffjkfaaDoor
namespace Pst
open Utf (dec off valid place next prev rune offset one)
open Line (L seg of_ clamp normal L_whole L_valid L_each)
open Gl

/-- A text, and so many times more with another one between; as soon as it is longer than any text it is enough. -/
def rp (x bt : List UInt8) : Nat → List UInt8
  | 0 => x
  | n + 1 => if (rp x bt n).length ≤ 4096 then rp x bt n ++ (bt ++ x) else rp x bt n
theorem rp_more {x bt : List UInt8} {n : Nat} (h : (rp x bt n).length ≤ 4096) : rp x bt (n + 1) = rp x bt n ++ (bt ++ x) := by rw [rp, if_pos h]
theorem rp_stop {x bt : List UInt8} {i n : Nat} (h : 4096 < (rp x bt i).length) (hin : i ≤ n) : rp x bt n = rp x bt i := by
  induction n with
  | zero => rw [show i = 0 by omega]
  | succ n ih =>
    rcases Nat.eq_or_lt_of_le hin with e | hlt
    · rw [e]
    · rw [rp, ih (by omega), if_neg (by omega)]
theorem rp_length (x bt : List UInt8) (n : Nat) : (rp x bt n).length ≤ 4096 + bt.length + x.length := by
  induction n with
  | zero => show x.length ≤ _; omega
  | succ n ih =>
    rw [rp]
    split
    · rw [List.length_append, List.length_append]; omega
    · exact ih
theorem rp_two (x bt : List UInt8) (n : Nat) : rp x bt n = x ++ reps n (bt ++ x) ∨ 4096 < (rp x bt n).length := by
  induction n with
  | zero => left; simp [rp, reps]
  | succ n ih =>
    rw [rp]
    split
    · rename_i h
      rcases ih with e | h2
      · left; rw [reps_snoc, e, List.append_assoc]
      · omega
    · right; omega
theorem reps_swap (x b : List UInt8) (n : Nat) : x ++ reps n (b ++ x) = reps n (x ++ b) ++ x := by
  induction n with
  | zero => simp [reps]
  | succ n ih => rw [reps_succ, reps_succ, List.append_assoc, List.append_assoc, List.append_assoc, ← ih]
/-- What the document puts in. -/
def refS (x : List UInt8) (l ah : Bool) (n : Int) : List UInt8 := if l then (if ah then rp x [10] (often n - 1) ++ [10] else 10 :: rp x [10] (often n - 1)) else rp x [] (often n - 1)
theorem refS_two (x : List UInt8) (l ah : Bool) (n : Int) : refS x l ah n = reps (often n) (once x l ah) ∨ 4096 < (refS x l ah n).length := by
  obtain ⟨m, hm⟩ : ∃ m, often n = m + 1 := ⟨often n - 1, by have := often_pos n; omega⟩
  rw [refS, once, hm, Nat.add_sub_cancel]
  cases l with
  | true =>
    rcases rp_two x [10] m with e | h
    · left
      cases ah with
      | true => rw [if_pos rfl, if_pos rfl, if_pos rfl, if_pos rfl, e, reps_swap, reps_snoc, List.append_assoc]
      | false =>
        rw [if_pos rfl, if_neg (by decide), if_pos rfl, if_neg (by decide), e]
        rfl
    · right
      cases ah with
      | true => rw [if_pos rfl, if_pos rfl, List.length_append]; omega
      | false => rw [if_pos rfl, if_neg (by decide), List.length_cons]; omega
  | false =>
    rcases rp_two x [] m with e | h
    · left; rw [if_neg (by decide), if_neg (by decide), e]; rfl
    · right; rw [if_neg (by decide)]; exact h
theorem refS_fit {s x : List UInt8} {l ah : Bool} {n : Int} (h : s.length + (refS x l ah n).length ≤ 4096) : fits s x l ah n ∧ refS x l ah n = reps (often n) (once x l ah) := by
  rcases refS_two x l ah n with e | h2
  · refine ⟨?_, e⟩
    rw [e, reps_length] at h
    exact h
  · omega
theorem refS_over {s x : List UInt8} {l ah : Bool} {n : Int} (h : fits s x l ah n) : s.length + (refS x l ah n).length ≤ 4096 := by
  rw [fits] at h
  have ho := often_pos n
  obtain ⟨m, hm⟩ : ∃ m, often n = m + 1 := ⟨often n - 1, by omega⟩
  rw [once_length, hm, Nat.succ_mul] at h
  have hr : ∀ (bt : List UInt8), x.length + m * (bt.length + x.length) ≤ 4096 → rp x bt m = x ++ reps m (bt ++ x) := fun bt hb => by
    have key : ∀ k, k ≤ m → rp x bt k = x ++ reps k (bt ++ x) := fun k => by
      induction k with
      | zero => intro _; simp [rp, reps]
      | succ k ih =>
        intro hk
        have e := ih (by omega)
        have h1 : k * (bt.length + x.length) ≤ m * (bt.length + x.length) := Nat.mul_le_mul_right _ (by omega)
        rw [rp, e, if_pos (by rw [List.length_append, reps_length, List.length_append]; omega), reps_snoc, List.append_assoc]
    exact key m (Nat.le_refl _)
  rw [refS, hm, Nat.add_sub_cancel]
  cases l with
  | true =>
    simp only [if_true] at h
    have hb : (x ++ reps m ([10] ++ x)).length = x.length + m * (x.length + 1) := by rw [List.length_append, reps_length, List.length_append, List.length_singleton, Nat.add_comm 1]
    rw [hr [10] (by rw [List.length_singleton, Nat.add_comm 1]; omega)]
    cases ah with
    | true => rw [if_pos rfl, if_pos rfl, List.length_append, hb, List.length_singleton]; omega
    | false => rw [if_pos rfl, if_neg (by decide), List.length_cons, hb]; omega
  | false =>
    simp only [Bool.false_eq_true, if_false, Nat.add_zero] at h ⊢
    rw [hr [] (by rw [List.length_nil, Nat.zero_add]; omega), List.length_append, reps_length, List.nil_append]
    omega
theorem mem_reps {n : Nat} {x : List UInt8} {b : UInt8} (hn : 1 ≤ n) : b ∈ reps n x ↔ b ∈ x := by
  induction n with
  | zero => omega
  | succ n ih =>
    rw [reps_succ, List.mem_append]
    rcases Nat.eq_zero_or_pos n with h | h
    · subst h; simp [reps]
    · rw [ih h]; simp
theorem valid_reps {n : Nat} {x : List UInt8} (h : valid x = true) : valid (reps n x) = true := by
  induction n with
  | zero => exact valid_nil
  | succ n ih => rw [reps_succ, valid_all _ h]; exact ih
theorem valid_once {x : List UInt8} (h : valid x = true) (l ah : Bool) : valid (once x l ah) = true := by
  cases l with
  | false => exact h
  | true =>
    cases ah with
    | true => show valid (x ++ [10]) = true; rw [valid_all _ h, valid_feed]; exact valid_nil
    | false => show valid (10 :: x) = true; rw [valid_feed]; exact h
theorem mid_valid {s y : List UInt8} {a b : Nat} (ha : place s (a : Int) = true) (hb : place s (b : Int) = true) (hy : valid y = true) : valid (mid s a b y) = true := by
  rw [mid, valid_all _ (place_two ha).1, valid_all _ hy]
  exact (place_two hb).2

/-- What Put tells. -/
theorem put_cases (s : List UInt8) (p : Int) (x : List UInt8) (l ah : Bool) (n : Int) : (∃ e : Int, e ≠ 0 ∧ put s p x l ah n = no e) ∨
    (place s p = true ∧ valid x = true ∧ ¬ (x = [] ∧ l = false) ∧ fits s x l ah n ∧ put s p x l ah n = (putT s p x l ah n, putP s p x l ah n, 0)) := by
  rw [put]
  split
  · rename_i h
    split
    · exact .inl ⟨7, by decide, rfl⟩
    · rename_i h0
      split
      · rename_i hf; exact .inr ⟨h.1, h.2, h0, hf, rfl⟩
      · exact .inl ⟨8, by decide, rfl⟩
  · exact .inl ⟨1, by decide, rfl⟩
/-- A text in which something was put in: nothing goes. -/
theorem diff_mid {s y : List UInt8} {a : Nat} (ha : place s (a : Int) = true) (hy : valid y = true) (hl : a ≤ s.length) : Chg.dOld s (mid s a a y) = [] ∧ (Chg.dOld (mid s a a y) s).length = y.length := by
  obtain ⟨rs, i, hd, hi, he⟩ := Utf.place_of ha
  obtain ⟨ys, hdy⟩ := Utf.valid_of hy
  have hoa : off rs i = a := by omega
  obtain ⟨hr, hs⟩ := Utf.dec_some hd
  obtain ⟨hyr, hys⟩ := Utf.dec_some hdy
  have hv := mid_valid ha ha hy
  have ht : s.take a = (rs.take i).flatten := by rw [hs, ← hoa, Utf.off_take]
  have htd : s.drop a = (rs.drop i).flatten := by rw [hs, ← hoa, Utf.off_drop]
  have hm : dec (mid s a a y) = some (rs.take i ++ (ys ++ rs.drop i)) := by
    have := Utf.dec_of (rs := rs.take i ++ (ys ++ rs.drop i)) (fun r hm => by
      rcases List.mem_append.1 hm with h | h
      · exact hr r (List.mem_of_mem_take h)
      · rcases List.mem_append.1 h with h | h
        · exact hyr r h
        · exact hr r (List.mem_of_mem_drop h))
    rw [List.flatten_append, List.flatten_append, ← ht, ← htd, ← hys] at this
    exact this
  have hold : Chg.dOld s (mid s a a y) = [] := by
    by_cases hn : s = mid s a a y
    · exact Chg.dOld_none (.inl hn)
    · rw [Chg.dOld_some hn hd hm]
      have h1 : i ≤ Chg.cp rs (rs.take i ++ (ys ++ rs.drop i)) := Chg.cp_max hi (by rw [List.take_append_of_le_length (by rw [List.length_take]; omega), List.take_take, Nat.min_self])
      have h2 := Chg.cp_le rs (rs.take i ++ (ys ++ rs.drop i))
      have h3 : (rs.take i ++ (ys ++ rs.drop i)).length = rs.length + ys.length := by rw [List.length_append, List.length_append, List.length_take, List.length_drop]; omega
      have h4 := Chg.cp_le' rs (rs.take i ++ (ys ++ rs.drop i))
      rw [Chg.mid]
      generalize hc : Chg.cp rs (rs.take i ++ (ys ++ rs.drop i)) = c at *
      have h5 : (rs.drop c).length ≤ Chg.cs (rs.drop c) ((rs.take i ++ (ys ++ rs.drop i)).drop c) := by
        refine Chg.cs_max (Nat.le_refl _) ?_
        have hd2 : (rs.take i ++ (ys ++ rs.drop i)).drop (c + ys.length) = rs.drop c := by
          rw [← List.append_assoc, List.drop_append, (List.drop_eq_nil_of_le (by rw [List.length_append, List.length_take]; omega) : (rs.take i ++ ys).drop (c + ys.length) = []), List.nil_append, List.length_append, List.length_take, List.drop_drop]
          congr 1; omega
        rw [Nat.sub_self, List.drop_zero, List.length_drop, List.length_drop, h3, List.drop_drop, show c + (rs.length + ys.length - c - (rs.length - c)) = c + ys.length by omega, hd2]
      rw [show (rs.drop c).length - Chg.cs (rs.drop c) ((rs.take i ++ (ys ++ rs.drop i)).drop c) = 0 by omega]
      rfl
  refine ⟨hold, ?_⟩
  obtain ⟨p, q, h1, h2, _⟩ := Chg.diff_parts (Line.place_ok ha) hv
  have e1 := congrArg List.length h1
  have e2 := congrArg List.length h2
  rw [hold, List.nil_append, List.length_append] at e1
  rw [List.length_append, List.length_append] at e2
  have e3 := mid_length (s := s) y (Nat.le_refl a) hl
  omega
theorem count_mid (s y : List UInt8) (a : Nat) : (mid s a a y).count 10 = s.count 10 + y.count 10 := by
  rw [mid, List.count_append, List.count_append]
  conv => rhs; rw [← List.take_append_drop a s, List.count_append]
  omega
theorem count_reps {n : Nat} {x : List UInt8} (hn : 1 ≤ n) : x.count 10 ≤ (reps n x).count 10 := by
  obtain ⟨m, rfl⟩ : ∃ m, n = m + 1 := ⟨n - 1, by omega⟩
  rw [reps_succ, List.count_append]; omega
/-- A place at which no line feed stands, nor the text ends, is normal. -/
theorem normal_of {s : List UInt8} {n : Nat} (h : place s (n : Int) = true) (hl : n < s.length) (h10 : s[n]? ≠ some 10) : normal s (n : Int) = true := by
  obtain ⟨n', k, x, hn, hx, h1, h2, _⟩ := Line.place_line h
  obtain rfl : n' = n := by omega
  have he := Span.ends_at hx h1 h2
  rw [Span.ends, decide_eq_false (by omega), decide_eq_false h10] at he
  have hne : n' ≠ x.2 := fun e => by rw [decide_eq_true e] at he; cases he
  rw [Line.normal_in hx h h1 h2, decide_eq_true (show n' < x.2 by omega)]
  rfl
/-- The rune ahead of what stands behind a text without line feeds. -/
theorem normal_prev {A Y B : List UInt8} (hA : valid A = true) (hY : valid Y = true) (hB : valid B = true) (h0 : Y ≠ []) (h10 : (10 : UInt8) ∉ Y) : normal (A ++ (Y ++ B)) (prev (A ++ (Y ++ B)) (A.length + Y.length : Nat)) = true := by
  obtain ⟨us, ha⟩ := Utf.valid_of hA
  obtain ⟨ys, hy⟩ := Utf.valid_of hY
  obtain ⟨ss, hb⟩ := Utf.valid_of hB
  obtain ⟨h1, h2⟩ := Utf.dec_some ha
  obtain ⟨h3, h4⟩ := Utf.dec_some hy
  obtain ⟨h5, h6⟩ := Utf.dec_some hb
  have hd : dec (A ++ (Y ++ B)) = some (us ++ (ys ++ ss)) := by
    have := Utf.dec_of (rs := us ++ (ys ++ ss)) (fun r hm => by
      rcases List.mem_append.1 hm with h | h
      · exact h1 r h
      · rcases List.mem_append.1 h with h | h
        · exact h3 r h
        · exact h5 r h)
    rw [List.flatten_append, List.flatten_append, ← h2, ← h4, ← h6] at this
    exact this
  have hys : ys ≠ [] := by rintro rfl; exact h0 (by rw [h4]; rfl)
  obtain ⟨m, hm⟩ : ∃ m, ys.length = m + 1 := ⟨ys.length - 1, by have := List.length_pos_iff.2 hys; omega⟩
  have ho : off (us ++ (ys ++ ss)) (us.length + m + 1) = A.length + Y.length := by
    rw [off, ← List.append_assoc, List.take_left' (by rw [List.length_append]; omega), List.flatten_append, ← h2, ← h4, List.length_append]
  have hlt : us.length + m < (us ++ (ys ++ ss)).length := by rw [List.length_append, List.length_append]; omega
  have hpr := Utf.prev_at hd hlt
  rw [ho] at hpr
  rw [hpr]
  have hpl := Utf.place_at hd (Nat.le_of_lt hlt)
  have hlt2 := Utf.off_lt (Utf.dec_some hd).1 (show us.length + m < us.length + m + 1 by omega) hlt
  have hin := Utf.off_in hd (us.length + m + 1)
  refine normal_of hpl (by omega) fun e => ?_
  have ho3 : A.length ≤ off (us ++ (ys ++ ss)) (us.length + m) := by
    have := Utf.off_mono (rs := us ++ (ys ++ ss)) (show us.length ≤ us.length + m by omega)
    rwa [show off (us ++ (ys ++ ss)) us.length = A.length by rw [off, List.take_left, ← h2]] at this
  rw [ho] at hlt2
  rw [List.getElem?_append_right ho3, List.getElem?_append_left (by omega)] at e
  exact h10 (List.mem_of_getElem? e)
/-- What was put in: how long all is, what comes and goes, and the cursor's place. -/
theorem put_less {s : List UInt8} {p : Int} {x : List UInt8} {l ah : Bool} {n : Int} (hp : place s p = true) (hx : valid x = true) (h0 : ¬ (x = [] ∧ l = false)) :
    (putT s p x l ah n).length = s.length + often n * (once x l ah).length ∧ Chg.dOld s (putT s p x l ah n) = [] ∧ (Chg.dOld (putT s p x l ah n) s).length = often n * (once x l ah).length ∧ normal (putT s p x l ah n) (putP s p x l ah n) = true := by
  obtain ⟨a, ha, hal, hpa⟩ := spot_place hp l ah
  have hy := valid_reps (n := often n) (valid_once hx l ah)
  have ho := often_pos n
  have hT : putT s p x l ah n = mid s a a (reps (often n) (once x l ah)) := by rw [putT, ha, Int.toNat_natCast]
  have hml := mid_length (s := s) (reps (often n) (once x l ah)) (Nat.le_refl a) hal
  obtain ⟨d1, d2⟩ := diff_mid hpa hy hal
  have hv := mid_valid hpa hpa hy
  rw [reps_length] at hml d2
  rw [putP, hT, ha]
  refine ⟨by omega, d1, d2, ?_⟩
  cases l with
  | true =>
    rw [if_pos rfl]
    obtain ⟨n', k, z, hn, hz, h1, h2, h3, hk, _⟩ := Line.place_line hp
    have hkl := (List.getElem?_eq_some_iff.1 hz).1
    have c1 := Span.L_count (Line.place_ok hp)
    have c2 := Span.L_count hv
    have c3 := count_mid s (reps (often n) (once x true ah)) a
    have c4 := count_reps (x := once x true ah) ho
    have c5 : 1 ≤ (once x true ah).count 10 := by cases ah <;> simp [once, List.count_append]
    rw [hk]
    cases ah with
    | true =>
      rw [if_pos rfl]
      obtain ⟨c, hc, hn, _, _⟩ := Line.first_ok (List.getElem?_eq_getElem (show k < (L (mid s a a (reps (often n) (once x true true)))).length by omega))
      rw [hc]; exact hn
    | false =>
      rw [if_neg (by decide)]
      obtain ⟨c, hc, hn, _, _⟩ := Line.first_ok (List.getElem?_eq_getElem (show k + 1 < (L (mid s a a (reps (often n) (once x true false)))).length by omega))
      rw [show ((k : Int) + 1) = ((k + 1 : Nat) : Int) from rfl, hc]; exact hn
  | false =>
    rw [if_neg (by decide)]
    have hxe : once x false ah = x := rfl
    rw [hxe] at hv hy hml ⊢
    split
    · have := (Opr.clamp_good hv (a : Int)).2 rfl
      exact this.2 rfl
    · rename_i h10
      have hne : reps (often n) x ≠ [] := fun e => by
        have h1 := congrArg List.length e
        rw [reps_length, List.length_nil] at h1
        rcases Nat.mul_eq_zero.1 h1 with h2 | h2
        · omega
        · exact h0 ⟨List.eq_nil_of_length_eq_zero h2, rfl⟩
      have := normal_prev (place_two hpa).1 hy (place_two hpa).2 hne (fun e => h10 ((mem_reps ho).1 e))
      rw [List.length_take, Nat.min_eq_left hal, reps_length] at this
      exact this
end Pst
end Go.Proofs.YtdclopfhffjkfaaDoor
/-
  What is flipped twice is the same, what is put over others is as many runes and lines: without a program.
-/
namespace Go.Proofs.YtdclopfhffjkfaaDoor
namespace Pst
open Utf (dec off valid place next prev rune offset one)
open Line (L seg of_ clamp normal L_whole L_valid L_each lns)
open Gl
theorem off_lens {rs us : List (List UInt8)} (h : rs.map List.length = us.map List.length) (q : Nat) : off rs q = off us q := by
  rw [off, off, List.length_flatten, List.length_flatten, List.map_take, List.map_take, h]
theorem runes_three {rs : List (List UInt8)} {i c : Nat} (hic : i ≤ c) : rs = rs.take i ++ ((rs.take c).drop i ++ rs.drop c) := by
  have e : rs.take i = (rs.take c).take i := by rw [List.take_take, Nat.min_eq_left hic]
  rw [← List.append_assoc, e, List.take_append_drop, List.take_append_drop]
theorem seg_runes {s : List UInt8} {rs : List (List UInt8)} (hd : dec s = some rs) (i c : Nat) : seg s (off rs i) (off rs c) = ((rs.take c).drop i).flatten := (Utf.dec_some (Line.seg_dec hd i c)).2
theorem take_runes {s : List UInt8} {rs : List (List UInt8)} (hd : dec s = some rs) (i : Nat) : s.take (off rs i) = (rs.take i).flatten := by
  conv => lhs; rw [(Utf.dec_some hd).2]
  exact Utf.off_take rs i
theorem drop_runes {s : List UInt8} {rs : List (List UInt8)} (hd : dec s = some rs) (i : Nat) : s.drop (off rs i) = (rs.drop i).flatten := by
  conv => lhs; rw [(Utf.dec_some hd).2]
  exact Utf.off_drop rs i
/-- A text's runes with others in the place of some. -/
theorem mid_runes {s : List UInt8} {rs ys : List (List UInt8)} (hd : dec s = some rs) (hy : ∀ r ∈ ys, one r = true) (i c : Nat) : dec (mid s (off rs i) (off rs c) ys.flatten) = some (rs.take i ++ (ys ++ rs.drop c)) := by
  have hr := (Utf.dec_some hd).1
  have := Utf.dec_of (rs := rs.take i ++ (ys ++ rs.drop c)) (fun r hm => by
    rcases List.mem_append.1 hm with h | h
    · exact hr r (List.mem_of_mem_take h)
    · rcases List.mem_append.1 h with h | h
      · exact hy r h
      · exact hr r (List.mem_of_mem_drop h))
  rw [List.flatten_append, List.flatten_append, ← take_runes hd, ← drop_runes hd] at this
  exact this
theorem flip_runes {s : List UInt8} {rs : List (List UInt8)} (hd : dec s = some rs) (i c : Nat) : dec (flipT s (off rs i) (off rs c)) = some (rs.take i ++ (((rs.take c).drop i).map (Class.turn Class.letter) ++ rs.drop c)) := by
  have hr := (Utf.dec_some hd).1
  have e : Class.turn Class.letter (seg s (off rs i) (off rs c)) = (((rs.take c).drop i).map (Class.turn Class.letter)).flatten := by
    rw [seg_runes hd, Class.turn, List.map_flatten]
    rfl
  rw [flipT, e]
  refine mid_runes hd (fun r hm => ?_) i c
  obtain ⟨z, hz, rfl⟩ := List.mem_map.1 hm
  exact Opr.turn_one (.inr (.inr rfl)) (hr z (List.mem_of_mem_take (List.mem_of_mem_drop hz)))
theorem flip_lens {rs : List (List UInt8)} {i c : Nat} (hic : i ≤ c) : rs.map List.length = (rs.take i ++ (((rs.take c).drop i).map (Class.turn Class.letter) ++ rs.drop c)).map List.length := by
  conv => lhs; rw [runes_three (rs := rs) hic]
  rw [List.map_append, List.map_append, List.map_append, List.map_append, List.map_map]
  congr 2
  exact List.map_congr_left fun r _ => (Class.turn_length _ r).symm
theorem flip_lines {s : List UInt8} {p q : Nat} (hv : valid (flipT s p q) = true) (hs : valid s = true) (h : p ≤ q) (hl : q ≤ s.length) : L (flipT s p q) = L s := by
  rw [Line.L_ok hv, Line.L_ok hs]
  refine Opr.lns_same 0 0 ?_
  obtain ⟨h1, _, _⟩ := Opr.three_parts h hl
  rw [flipT, mid]
  conv => rhs; rw [h1]
  simp only [List.map_append, Class.turn, List.map_map]
  congr 2
  exact List.map_congr_left fun b _ => Opr.flip_feed b
theorem flip_back {s : List UInt8} {p q : Nat} (h : p ≤ q) (hq : q ≤ s.length) : flipT (flipT s p q) p q = s := by
  obtain ⟨h1, h2, h3⟩ := Opr.three_parts h hq
  have hu : flipT s p q = s.take p ++ (Class.turn Class.letter (seg s p q) ++ s.drop q) := rfl
  have hm : (s.take p ++ Class.turn Class.letter (seg s p q)).length = q := by rw [List.length_append, Class.turn_length]; omega
  have e1 : (flipT s p q).take p = s.take p := by rw [hu, List.take_left' h2]
  have e2 : (flipT s p q).drop q = s.drop q := by rw [hu, ← List.append_assoc, List.drop_left' hm]
  have e3 : seg (flipT s p q) p q = Class.turn Class.letter (seg s p q) := by rw [seg, hu, ← List.append_assoc, List.take_left' hm, List.drop_left' h2]
  rw [flipT, mid, e1, e2, e3, Class.flips]
  exact h1.symm
theorem flip_length {s : List UInt8} {p q : Nat} (h : p ≤ q) (hq : q ≤ s.length) : (flipT s p q).length = s.length := by
  obtain ⟨h1, h2, h3⟩ := Opr.three_parts h hq
  have := mid_length (s := s) (Class.turn Class.letter (seg s p q)) h hq
  rw [Class.turn_length, h3] at this
  rw [flipT]; omega
/-- How far Flip goes. -/
theorem reach_ok {s : List UInt8} {p : Int} (hp : place s p = true) (n : Int) : ∃ a q : Nat, p = a ∧ reach s p n = q ∧ a ≤ q ∧ q ≤ s.length ∧ place s (q : Int) = true := by
  obtain ⟨rs, i, j, hd, hij, hj, he, hst, hsd, _⟩ := tail_runes hp
  have hr := reach_runes hsd he hij hj hst n
  exact ⟨_, _, he, hr, Utf.off_mono (by omega), Utf.off_in hd _, Utf.place_at hd (by omega)⟩
/-- Flipped once more. -/
theorem flip_twice {s : List UInt8} {p : Int} (hp : place s p = true) (n : Int) {a q : Nat} (ha : p = a) (hq : reach s p n = q) :
    valid (flipT s a q) = true ∧ place (flipT s a q) p = true ∧ Span.ends (flipT s a q) a = Span.ends s a ∧ reach (flipT s a q) p n = q := by
  obtain ⟨rs, i, j, hd, hij, hj, he, hst, hsd, hen, _⟩ := tail_runes hp
  have hr := reach_runes hsd he hij hj hst n
  have hall := (Utf.dec_some hd).1
  obtain rfl : off rs i = a := by omega
  obtain rfl : off rs (i + min (often n) (j - i)) = q := by omega
  generalize hc : i + min (often n) (j - i) = c at *
  have hf := flip_runes hd i c
  have hl := flip_lens (rs := rs) (i := i) (c := c) (by omega)
  have hlen := congrArg List.length hl
  rw [List.length_map, List.length_map] at hlen
  have ho := off_lens hl
  have hac : off rs i ≤ off rs c := Utf.off_mono (by omega)
  have hL := flip_lines (Utf.valid_ok hf) (Line.place_ok hp) hac (Utf.off_in hd c)
  have hfl := flip_length hac (Utf.off_in hd c)
  generalize hU : flipT s (off rs i) (off rs c) = U at *
  generalize hus : rs.take i ++ (((rs.take c).drop i).map (Class.turn Class.letter) ++ rs.drop c) = us at *
  have hpU : place U p = true := by rw [he, ho i]; exact Utf.place_at hf (by omega)
  have hsp : Line.stop U (of_ U p) = Line.stop s (of_ s p) := by
    obtain ⟨n', k, x, hn, hx, h1, h2, _, _, _, h5⟩ := Line.place_line hp
    have hxU : (L U)[k]? = some x := by rw [hL]; exact hx
    rw [h5, hn, Line.of_at hxU h1 h2, Line.stop_some (by rw [Line.line_nat]; exact hxU)]
  refine ⟨Utf.valid_ok hf, hpU, ?_, ?_⟩
  · obtain ⟨n', k, x, hn, hx, h1, h2, _⟩ := Line.place_line hp
    obtain rfl : n' = off rs i := by omega
    rw [Span.ends_at hx h1 h2, Span.ends_at (by rw [hL]; exact hx) h1 h2]
  · obtain ⟨rs', i', j', hd', hij', hj', he', hst', hsd', _⟩ := tail_runes hpU
    rw [hf] at hd'
    injection hd' with hd'
    subst hd'
    have hall' := (Utf.dec_some hf).1
    have hi : i' = i := Utf.off_inj hall' (by omega) (by omega) (by rw [← ho i]; omega)
    have hjj : j' = j := Utf.off_inj hall' hj' (by omega) (by rw [← ho j]; omega)
    subst hi hjj
    rw [reach_runes hsd' he' hij' hj' hst' n, hc, ho c]
/-- A rune with a line feed is one. -/
theorem feed_rune {r : List UInt8} (h : one r = true) (hm : (10 : UInt8) ∈ r) : r = [10] := by
  obtain ⟨a, t, rfl, _, hl, ht⟩ := Utf.one_shape h
  rcases List.mem_cons.1 hm with e | e
  · subst e
    have : t.length = 0 := by
      have h1 : Utf.len (10 : UInt8).toNat = 1 := by decide
      rw [h1, List.length_cons] at hl; omega
    rw [List.eq_nil_of_length_eq_zero this]
  · have := ht _ e
    exact absurd this (by decide)
/-- What may be put over others is a rune, and no line feed. -/
theorem key_one {k : List UInt8} (h : key k = true) : one k = true ∧ (10 : UInt8) ∉ k ∧ k.length ≤ 4 := by
  rw [key, Bool.or_eq_true, Bool.and_eq_true, decide_eq_true_iff] at h
  rcases h with ⟨h1, h2⟩ | rfl
  · refine ⟨h1, fun hm => ?_, Utf.one_le h1⟩
    rw [feed_rune h1 hm] at h2
    exact absurd h2 (by decide)
  · exact ⟨one_ascii (by decide), by decide, by decide⟩
theorem reps_flat (n : Nat) (k : List UInt8) : reps n k = (List.replicate n k).flatten := by
  induction n with
  | zero => rfl
  | succ n ih => rw [reps_succ, List.replicate_succ, List.flatten_cons, ih]
/-- What Over's runs. -/
theorem behind_ok {s : List UInt8} {p : Int} (hp : place s p = true) {m : Nat} (h : ¬ behind s p (m : Int) < 0) : ∃ a b : Nat, p = a ∧ behind s p (m : Int) = b ∧ a ≤ b ∧ b ≤ s.length ∧ place s (b : Int) = true ∧ (1 ≤ m → Span.ends s a = false) := by
  obtain ⟨rs, i, j, hd, hij, hj, he, hst, hsd, hen, _⟩ := tail_runes hp
  have hb := behind_runes hsd he hij hj (m := m)
  have him : i + m ≤ j := by
    rcases Nat.lt_or_ge j (i + m) with h1 | h1
    · rw [hb, if_neg (by omega)] at h; exact absurd (by decide) h
    · exact h1
  rw [if_pos him] at hb
  refine ⟨_, _, he, hb, Utf.off_mono (by omega), Utf.off_in hd _, Utf.place_at hd (by omega), fun h1 => ?_⟩
  cases hx : Span.ends s (off rs i) with
  | false => rfl
  | true =>
    have := hen.1 (by rw [he, Int.toNat_natCast]; exact hx)
    omega
theorem over_runes {s k : List UInt8} {p : Int} (hp : place s p = true) (hk : key k = true) {n : Int} {a b : Nat} (ha : p = a) (hb : behind s p (max n 1) = b) :
    Utf.count (overT s a b k n) = Utf.count s ∧ (L (overT s a b k n)).length = (L s).length ∧ rune (overT s a b k n) (p + ((often n - 1) * k.length : Nat)) = k ∧ rune (overT s a b k n) p = k := by
  obtain ⟨rs, i, j, hd, hij, hj, he, hst, hsd, _, hno, _⟩ := tail_runes hp
  obtain ⟨h1, h10, _⟩ := key_one hk
  rw [← often_int, behind_runes hsd he hij hj] at hb
  have ho := often_pos n
  rw [overT]
  generalize often n = m at *
  have him : i + m ≤ j := by
    rcases Nat.lt_or_ge j (i + m) with h1 | h1
    · rw [if_neg (by omega)] at hb; omega
    · exact h1
  rw [if_pos him] at hb
  obtain rfl : off rs i = a := by omega
  obtain rfl : off rs (i + m) = b := by omega
  have hu := mid_runes hd (ys := List.replicate m k) (fun r hr => by rw [(List.mem_replicate.1 hr).2]; exact h1) i (i + m)
  rw [← reps_flat] at hu
  have hlen : (rs.take i ++ (List.replicate m k ++ rs.drop (i + m))).length = rs.length := by rw [List.length_append, List.length_append, List.length_take, List.length_replicate, List.length_drop]; omega
  have hil : (rs.take i).length = i := by rw [List.length_take]; omega
  have hoff : ∀ d, d ≤ m → off (rs.take i ++ (List.replicate m k ++ rs.drop (i + m))) (i + d) = off rs i + d * k.length := fun d hd2 => by
    rw [off, off, List.take_append, hil, List.take_of_length_le (by omega), Nat.add_sub_cancel_left, List.take_append_of_le_length (by rw [List.length_replicate]; exact hd2), List.take_replicate, Nat.min_eq_left hd2, List.flatten_append, List.length_append, ← reps_flat, reps_length]
  have hget : ∀ d, d < m → (rs.take i ++ (List.replicate m k ++ rs.drop (i + m)))[i + d]? = some k := fun d hd2 => by
    rw [List.getElem?_append_right (by omega), hil, Nat.add_sub_cancel_left, List.getElem?_append_left (by rw [List.length_replicate]; exact hd2), List.getElem?_replicate, if_pos hd2]
  refine ⟨by rw [Utf.count_ok hu, Utf.count_ok hd, hlen], ?_, ?_, ?_⟩
  · rw [Span.L_count (Utf.valid_ok hu), Span.L_count (Utf.valid_ok hd), mid, List.count_append, List.count_append]
    have c1 := Span.count_more (s := s) (a := off rs i) (n := off rs (i + m) - off rs i) (fun q h1 h2 => hno q h1 (by have := Utf.off_mono (rs := rs) him; have := Utf.off_mono (rs := rs) (show i ≤ i + m by omega); omega))
    rw [show off rs i + (off rs (i + m) - off rs i) = off rs (i + m) by have := Utf.off_mono (rs := rs) (show i ≤ i + m by omega); omega] at c1
    have c2 : (reps m k).count 10 = 0 := List.count_eq_zero.2 fun hm => h10 ((mem_reps ho).1 hm)
    conv => rhs; rw [← List.take_append_drop (off rs (i + m)) s, List.count_append, c1]
    omega
  · have := Utf.rune_at hu (hget (m - 1) (by omega))
    rw [hoff (m - 1) (by omega)] at this
    rw [he, ← Int.natCast_add]
    exact this
  · have := Utf.rune_at hu (hget 0 (by omega))
    rw [hoff 0 (by omega), Nat.zero_mul, Nat.add_zero] at this
    rw [he]
    exact this
end Pst
end Go.Proofs.YtdclopfhffjkfaaDoor
/-
  What is typed, taken out, and put in again, without a program.
-/
namespace Go.Proofs.YtdclopfhffjkfaaDoor
namespace Ent
open Utf (dec off valid place next prev rune offset one)
open Line (L seg of_ clamp normal L_whole L_valid L_each)
open Pst (Ans val no mid reps)

/-- The class of a text's rune i. -/
def cl (s : List UInt8) (rs : List (List UInt8)) (i : Nat) : Nat := Class.at_ s (off rs i) false
/-- Back from rune i over runes of some classes, but not ahead of rune a. -/
def lef (s : List UInt8) (rs : List (List UInt8)) (g : Nat → Bool) (a i : Nat) : Nat := Class.lft (fun k => decide (a ≤ k) && g (cl s rs k)) i
section
variable {s : List UInt8} {rs : List (List UInt8)} {g : Nat → Bool} {a i : Nat}
theorem lef_le : lef s rs g a i ≤ i := Class.lft_le _ _
theorem lef_yes (h : a ≤ i) (hg : g (cl s rs i) = true) : lef s rs g a (i + 1) = lef s rs g a i := Class.lft_yes (by simp [h, hg])
theorem lef_no (hg : g (cl s rs i) = false) : lef s rs g a (i + 1) = i + 1 := Class.lft_no (by simp [hg])
theorem lef_stay (h : i ≤ a) : lef s rs g a i = i := by
  cases i with
  | zero => rfl
  | succ i => exact Class.lft_no (by simp; omega)
theorem lef_in {k : Nat} (h1 : lef s rs g a i ≤ k) (h2 : k < i) : a ≤ k ∧ g (cl s rs k) = true := by
  have := Class.lft_in _ i k h1 h2
  simpa using this
theorem lef_ge (h : a ≤ i) : a ≤ lef s rs g a i := by
  rcases Nat.lt_or_ge (lef s rs g a i) a with h1 | h1
  · have := (lef_in (k := lef s rs g a i) (Nat.le_refl _) (by omega)).1
    omega
  · exact h1
theorem lef_least {j : Nat} (hj : j ≤ i) (h : ∀ k, j ≤ k → k < i → a ≤ k ∧ g (cl s rs k) = true) : lef s rs g a i ≤ j := by
  unfold lef
  rw [Class.lft_down hj (fun k h1 h2 => by simpa using h k h1 h2)]
  exact Class.lft_le _ _
end
/-- Back: the rune ahead. -/
def backQ (_ : List UInt8) (_ : List (List UInt8)) (_ i : Nat) : Nat := i - 1
/-- Behind the blanks: runes of one class. -/
def wordQ (s : List UInt8) (rs : List (List UInt8)) (a j : Nat) : Nat := if cl s rs (j - 1) = 4 then j else lef s rs (· == cl s rs (j - 1)) a j
/-- Chop. -/
def chopQ (s : List UInt8) (rs : List (List UInt8)) (a i : Nat) : Nat := if cl s rs (i - 1) = 4 then i - 1 else wordQ s rs a (lef s rs (· == 1) a i)
/-- Wipe. -/
def wipeQ (s : List UInt8) (rs : List (List UInt8)) (a i : Nat) : Nat := if cl s rs (i - 1) = 4 then i - 1 else lef s rs (· != 4) a i
/-- What is taken out. -/
def cut (Q : List UInt8 → List (List UInt8) → Nat → Nat → Nat) (s : List UInt8) (p b : Int) : Ans :=
  match dec s, Utf.idx (Utf.places s) p, Utf.idx (Utf.places s) b with
  | some rs, some i, some a => if i ≤ a then no 10 else (mid s (off rs (Q s rs a i)) (off rs i) [], (off rs (Q s rs a i) : Nat), 0)
  | _, _, _ => no 1
/-- What is typed. -/
def typ (s : List UInt8) (p : Int) (y : List UInt8) : Ans :=
  if place s p = true ∧ valid y = true then (if s.length + y.length ≤ 4096 then (mid s p.toNat p.toNat y, p + y.length, 0) else no 8) else no 1
/-- How often more. -/
def more (n : Int) : Nat := (max n 1 - 1).toNat
/-- .. again. -/
def again (s : List UInt8) (p b n : Int) : Ans :=
  if place s p = true ∧ place s b = true ∧ b ≤ p then
    (if s.length + more n * (seg s b.toNat p.toNat).length ≤ 4096 then (mid s p.toNat p.toNat (reps (more n) (seg s b.toNat p.toNat)), p + (more n * (seg s b.toNat p.toNat).length : Nat), 0) else no 8)
  else no 1
/-- Where the cursor goes. -/
def leave (s : List UInt8) (p : Int) : Int := if place s p = true then clamp s (if 0 < p ∧ s[p.toNat - 1]? ≠ some 10 then prev s p else p) else 0

section
variable {s : List UInt8} {rs : List (List UInt8)}
theorem cut_no (Q : List UInt8 → List (List UInt8) → Nat → Nat → Nat) {p b : Int} (h : place s p = false ∨ place s b = false) : cut Q s p b = no 1 := by
  unfold cut place at *
  cases dec s with
  | none => rfl
  | some rs =>
    cases hp : Utf.idx (Utf.places s) p with
    | none => rfl
    | some i =>
      cases hb : Utf.idx (Utf.places s) b with
      | none => rfl
      | some a => rw [hp, hb] at h; simp at h
theorem cut_at (Q : List UInt8 → List (List UInt8) → Nat → Nat → Nat) (hd : dec s = some rs) {i a : Nat} (hi : i ≤ rs.length) (ha : a ≤ rs.length) :
    cut Q s (off rs i : Int) (off rs a : Int) = if i ≤ a then no 10 else (mid s (off rs (Q s rs a i)) (off rs i) [], (off rs (Q s rs a i) : Nat), 0) := by
  rw [cut, hd, Utf.idx_place hd hi, Utf.idx_place hd ha]
theorem off_le_iff (hd : dec s = some rs) {i j : Nat} (hi : i ≤ rs.length) : off rs i ≤ off rs j ↔ i ≤ j := by
  constructor
  · intro h
    rcases Nat.lt_or_ge j i with h1 | h1
    · have := Utf.off_lt (Utf.dec_some hd).1 h1 hi; omega
    · exact h1
  · exact Utf.off_mono
theorem cl_pos (hd : dec s = some rs) {i : Nat} (hi : i < rs.length) : 1 ≤ cl s rs i := Class.at_pos (Class.off_below hd hi) false
theorem cl_kind (hd : dec s = some rs) {i : Nat} (hi : i < rs.length) : Class.kind s (off rs i : Int) false = cl s rs i := Class.kind_at hd hi false
/-- A rune's class is that of each of its bytes. -/
theorem cl_byte (hd : dec s = some rs) {i q : Nat} (hi : i < rs.length) (h1 : off rs i ≤ q) (h2 : q < off rs (i + 1)) : cl s rs i = Class.at_ s q false := (Class.rune_same hd hi h1 h2 false).symm
theorem feed_at {q : Nat} : Class.at_ s q false = 4 ↔ s[q]? = some 10 := by
  cases h : s[q]? with
  | none => rw [Class.at_, h]; simp
  | some b =>
    rw [Class.at_some h, Class.of_feed_iff]
    constructor
    · intro e
      rw [show b = 10 from UInt8.toNat_inj.1 (by rw [e]; rfl)]
    · intro e
      injection e with e
      rw [e]; rfl
theorem cl_last (hd : dec s = some rs) {i : Nat} (hi : i < rs.length) : cl s rs i = 4 ↔ s[off rs (i + 1) - 1]? = some 10 := by
  have h1 : off rs i < off rs (i + 1) := Utf.off_lt (Utf.dec_some hd).1 (Nat.lt_succ_self i) hi
  rw [cl_byte hd hi (q := off rs (i + 1) - 1) (by omega) (by omega)]
  exact feed_at
theorem cl_first {i : Nat} : cl s rs i = 4 ↔ s[off rs i]? = some 10 := feed_at
theorem rune_first (hd : dec s = some rs) {i : Nat} (hi : i < rs.length) {k : Nat} (hk : k < rs[i].length) : s[off rs i + k]? = some (rs[i][k]) := by
  have he := (Utf.dec_some hd).2
  have := Utf.off_drop rs i
  rw [List.drop_eq_getElem_cons hi, List.flatten_cons, ← he] at this
  rw [← List.getElem?_drop, this, List.getElem?_append_left hk, List.getElem?_eq_getElem hk]
/-- A line feed is one byte. -/
theorem feed_one (hd : dec s = some rs) {i : Nat} (hi : i < rs.length) (h : cl s rs i = 4) : off rs (i + 1) = off rs i + 1 := by
  have hr : rs[i]? = some rs[i] := List.getElem?_eq_getElem hi
  have ho := (Utf.dec_some hd).1 _ (List.getElem_mem hi)
  have h0 := Utf.one_pos ho
  have h1 := rune_first hd hi h0
  rw [Nat.add_zero, cl_first.1 h] at h1
  injection h1 with h1
  have := Pst.feed_rune ho (by rw [h1]; exact List.getElem_mem h0)
  rw [Utf.off_next hr, this]; rfl
/-- A line begins the text, or behind a line feed. -/
theorem start_ahead {k : Nat} {x : Nat × Nat} (hx : (L s)[k]? = some x) : x.1 = 0 ∨ s[x.1 - 1]? = some 10 := by
  have W := L_whole (L_valid hx)
  cases k with
  | zero =>
    left
    obtain ⟨y, hy, h0⟩ := W.head
    rw [hy] at hx
    injection hx with hx
    rw [← hx]; exact h0
  | succ k =>
    right
    have hk : k < (L s).length := by have := (List.getElem?_eq_some_iff.1 hx).1; omega
    obtain ⟨h1, h2⟩ := W.more k _ x (List.getElem?_eq_getElem hk) hx
    rw [h1, Nat.add_sub_cancel]; exact h2
/-- The line of a place begins at some rune; ahead of that is a line feed, and none between. -/
theorem line_rune (hd : dec s = some rs) {i : Nat} (hi : i ≤ rs.length) : ∃ b, b ≤ i ∧ Line.start s (of_ s (off rs i : Int)) = off rs b ∧ (∀ k, b ≤ k → k < i → cl s rs k ≠ 4) ∧ (b = 0 ∨ cl s rs (b - 1) = 4) := by
  obtain ⟨n, k, x, hn, hx, h1, h2, h3, he, hst, hsp⟩ := Line.place_line (Utf.place_at hd hi)
  have hn' : off rs i = n := by omega
  obtain ⟨b, hb, hbx⟩ := Line.start_place hd hx
  have W := L_whole (L_valid hx)
  have hbi : b ≤ i := (off_le_iff hd hb).1 (by omega)
  refine ⟨b, hbi, by rw [hst, hbx], fun k hk1 hk2 h4 => ?_, ?_⟩
  · have e1 := Utf.off_mono (rs := rs) hk1
    have e2 := Utf.off_lt (Utf.dec_some hd).1 hk2 hi
    exact (W.each _ x hx).2.2.2 (off rs k) (by omega) (by omega) (cl_first.1 h4)
  · rcases Nat.eq_zero_or_pos b with h0 | h0
    · exact .inl h0
    · right
      obtain ⟨c, rfl⟩ : ∃ c, b = c + 1 := ⟨b - 1, by omega⟩
      rw [Nat.add_sub_cancel, cl_last hd (by omega), hbx]
      have hpos : off rs 0 < off rs (c + 1) := Utf.off_lt (Utf.dec_some hd).1 (Nat.succ_pos c) hb
      rw [Utf.off_zero] at hpos
      have := start_ahead hx
      rcases this with e | e
      · omega
      · exact e
/-- Wipe goes to the line's start, or to where typing began, whichever is behind. -/
theorem wipe_line {a i : Nat} (hai : a < i) (h4 : cl s rs (i - 1) ≠ 4) {b : Nat} (hb : b ≤ i) (hbk : ∀ k, b ≤ k → k < i → cl s rs k ≠ 4) (hb0 : b = 0 ∨ cl s rs (b - 1) = 4) :
    wipeQ s rs a i = max b a ∧ b < i := by
  have hbi : b < i := by
    rcases Nat.eq_or_lt_of_le hb with e | h
    · exfalso
      rcases hb0 with h0 | h0
      · omega
      · rw [e] at h0; exact h4 h0
    · exact h
  refine ⟨?_, hbi⟩
  rw [wipeQ, if_neg h4]
  apply Nat.le_antisymm
  · refine lef_least (by omega) (fun k h1 h2 => ⟨by omega, ?_⟩)
    have := hbk k (by omega) h2
    simpa using this
  · refine Nat.max_le.2 ⟨?_, lef_ge (by omega)⟩
    rcases hb0 with h0 | h0
    · omega
    · rcases Nat.lt_or_ge (lef s rs (· != 4) a i) b with h | h
      · have := (lef_in (s := s) (rs := rs) (g := (· != 4)) (a := a) (i := i) (k := b - 1) (by omega) (by omega)).2
        rw [h0] at this
        simp at this
      · exact h
/-- A Wipe takes no less than a Chop, this no less than a Back. -/
theorem cut_order {a i : Nat} (hai : a < i) : wipeQ s rs a i ≤ chopQ s rs a i ∧ chopQ s rs a i ≤ i - 1 ∧ a ≤ wipeQ s rs a i := by
  unfold wipeQ chopQ
  by_cases h4 : cl s rs (i - 1) = 4
  · rw [if_pos h4, if_pos h4]; omega
  · rw [if_neg h4, if_neg h4]
    have hj := lef_le (s := s) (rs := rs) (g := (· == 1)) (a := a) (i := i)
    have hin := fun k => lef_in (s := s) (rs := rs) (g := (· == 1)) (a := a) (i := i) (k := k)
    have hge := lef_ge (s := s) (rs := rs) (g := (· == 1)) (a := a) (i := i) (by omega)
    have hyes := fun (h : cl s rs (i - 1) = 1) => lef_yes (s := s) (rs := rs) (g := (· == 1)) (a := a) (i := i - 1) (by omega) (by rw [h]; rfl)
    have hno := fun (h : cl s rs (i - 1) ≠ 1) => lef_no (s := s) (rs := rs) (g := (· == 1)) (a := a) (i := i - 1) (by simpa using h)
    rw [show i - 1 + 1 = i by omega] at hyes hno
    have hle1 := lef_le (s := s) (rs := rs) (g := (· == 1)) (a := a) (i := i - 1)
    generalize lef s rs (· == 1) a i = j at *
    have hw : wordQ s rs a j ≤ j := by
      unfold wordQ
      split
      · exact Nat.le_refl _
      · exact lef_le
    have hwk : ∀ k, wordQ s rs a j ≤ k → k < i → a ≤ k ∧ (cl s rs k != 4) = true := by
      intro k h1 h2
      rcases Nat.lt_or_ge k j with h3 | h3
      · unfold wordQ at h1
        split at h1
        · omega
        · rename_i h5
          obtain ⟨h6, h7⟩ := lef_in h1 h3
          simp only [beq_iff_eq] at h7
          exact ⟨h6, by rw [h7]; simpa using h5⟩
      · obtain ⟨h6, h7⟩ := hin k h3 h2
        simp only [beq_iff_eq] at h7
        exact ⟨h6, by rw [h7]; rfl⟩
    refine ⟨lef_least (by omega) hwk, ?_, lef_ge (by omega)⟩
    by_cases h1 : cl s rs (i - 1) = 1
    · have := hyes h1; omega
    · have e := hno h1
      subst e
      unfold wordQ
      rw [if_neg h4]
      have := lef_yes (s := s) (rs := rs) (g := (· == cl s rs (j - 1))) (a := a) (i := j - 1) (by omega) (by simp)
      rw [show j - 1 + 1 = j by omega] at this
      rw [this]
      exact lef_le
end
/-- How often more: n is less than 2, or one more than that. -/
theorem more_int (n : Int) : (more n : Int) = max n 1 - 1 := by unfold more; omega
theorem mid_none (s : List UInt8) (p : Nat) : mid s p p [] = s := by simp [mid]
/-- What is typed stands there as runes. -/
theorem typ_runes {s : List UInt8} {rs ys : List (List UInt8)} (hd : dec s = some rs) (hy : ∀ r ∈ ys, one r = true) (i m : Nat) :
    dec (mid s (off rs i) (off rs i) (ys.take m).flatten) = some (rs.take i ++ (ys.take m ++ rs.drop i)) := Pst.mid_runes hd (fun r hr => hy r (List.mem_of_mem_take hr)) i i
theorem off_front {A B : List (List UInt8)} {k : Nat} (h : k ≤ A.length) : off (A ++ B) k = off A k := by
  rw [off, off, List.take_append_of_le_length h]
theorem off_behind (A B : List (List UInt8)) (k : Nat) : off (A ++ B) (A.length + k) = A.flatten.length + off B k := by
  rw [off, off, List.take_length_add_append, List.flatten_append, List.length_append]
theorem typ_off {rs ys : List (List UInt8)} {i m q : Nat} (hi : i ≤ rs.length) (hm : m ≤ ys.length) (hq : q ≤ m) : off (rs.take i ++ (ys.take m ++ rs.drop i)) (i + q) = off rs i + off ys q := by
  have hl : (rs.take i).length = i := by rw [List.length_take]; omega
  have e := off_behind (rs.take i) (ys.take m ++ rs.drop i) q
  rw [hl, off_front (A := ys.take m) (by rw [List.length_take]; omega)] at e
  rw [e, show (rs.take i).flatten.length = off rs i from rfl]
  congr 1
  rw [off, off, List.take_take, Nat.min_eq_left hq]
/-- A Back takes the last rune that was typed. -/
theorem typ_back {s : List UInt8} {rs ys : List (List UInt8)} (hd : dec s = some rs) (hy : ∀ r ∈ ys, one r = true) {i m : Nat} (hi : i ≤ rs.length) (hm : m < ys.length) :
    cut backQ (mid s (off rs i) (off rs i) (ys.take (m + 1)).flatten) (off rs i + off ys (m + 1) : Nat) (off rs i : Nat) = (mid s (off rs i) (off rs i) (ys.take m).flatten, ((off rs i + off ys m : Nat) : Int), 0) := by
  have hu := typ_runes hd hy i (m + 1)
  have hl : (rs.take i ++ (ys.take (m + 1) ++ rs.drop i)).length = rs.length + (m + 1) := by
    rw [List.length_append, List.length_append, List.length_take, List.length_take, List.length_drop]; omega
  have e1 := typ_off (rs := rs) (ys := ys) hi (m := m + 1) (q := m + 1) (by omega) (Nat.le_refl _)
  have e2 := typ_off (rs := rs) (ys := ys) hi (m := m + 1) (q := m) (by omega) (by omega)
  have e3 := typ_off (rs := rs) (ys := ys) hi (m := m + 1) (q := 0) (by omega) (by omega)
  rw [Utf.off_zero] at e3
  have e3 : off (rs.take i ++ (ys.take (m + 1) ++ rs.drop i)) i = off rs i := e3
  have hc := cut_at backQ hu (i := i + (m + 1)) (a := i) (by omega) (by omega)
  rw [e1, e3] at hc
  rw [hc, if_neg (by omega), backQ, show i + (m + 1) - 1 = i + m by omega, e2]
  congr 1
  have hil : off rs i ≤ s.length := Utf.off_in hd i
  have hoy : off ys m = (ys.take m).flatten.length := rfl
  have hsucc : (ys.take (m + 1)).flatten = (ys.take m).flatten ++ ys[m] := by
    rw [List.take_succ_eq_append_getElem hm, List.flatten_append, List.flatten_cons, List.flatten_nil, List.append_nil]
  have h1 : mid s (off rs i) (off rs i) (ys.take (m + 1)).flatten = (s.take (off rs i) ++ (ys.take m).flatten) ++ (ys[m] ++ s.drop (off rs i)) := by
    rw [mid, hsucc, List.append_assoc, List.append_assoc]
  have h2 : mid s (off rs i) (off rs i) (ys.take (m + 1)).flatten = ((s.take (off rs i) ++ (ys.take m).flatten) ++ ys[m]) ++ s.drop (off rs i) := by
    rw [h1]; simp only [List.append_assoc]
  have hA : (s.take (off rs i)).length = off rs i := by rw [List.length_take]; omega
  have hon : off ys (m + 1) = off ys m + ys[m].length := Utf.off_next (List.getElem?_eq_getElem hm)
  have t1 : (mid s (off rs i) (off rs i) (ys.take (m + 1)).flatten).take (off rs i + off ys m) = s.take (off rs i) ++ (ys.take m).flatten := by
    rw [h1]; exact List.take_left' (by rw [List.length_append, hA, hoy])
  have t2 : (mid s (off rs i) (off rs i) (ys.take (m + 1)).flatten).drop (off rs i + off ys (m + 1)) = s.drop (off rs i) := by
    rw [h2]; exact List.drop_left' (by rw [List.length_append, List.length_append, hA, hon, hoy]; omega)
  rw [mid, t1, t2, mid]
  simp only [List.nil_append, List.append_assoc]
/-- No more is taken out. -/
theorem typ_end {s : List UInt8} {rs : List (List UInt8)} (hd : dec s = some rs) {i : Nat} (hi : i ≤ rs.length) : cut backQ s (off rs i : Nat) (off rs i : Nat) = no 10 := by
  have := cut_at backQ hd hi hi
  rw [if_pos (Nat.le_refl _)] at this
  exact this
end Ent
end Go.Proofs.YtdclopfhffjkfaaDoor
