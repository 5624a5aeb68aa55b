/-
  Where lines of bytes end, without a program: places of line feeds, lengths of lines, and what becomes of them where bytes take the place of others.
-/
import Derived.Test.YtlfhfpjffdaomaaDoorBase
import Derived.Lib.IndexLaws
import Derived.Test.YtlfhfpjffdaomaaDoorLineCalls
import Derived.Test.YtlfhfpjffdaomaaDoorUtf
namespace Go.Proofs.YtlfhfpjffdaomaaDoor
namespace Ix
/-- The places of line feeds; the first byte stands at o. -/
def nls (o : Nat) : List UInt8 → List Nat
  | [] => []
  | c :: r => if c = 10 then o :: nls (o + 1) r else nls (o + 1) r
/-- Where lines end. -/
def ends (t : List UInt8) : List Nat := nls 0 t ++ [t.length]
/-- How long lines are. -/
def lens : List UInt8 → List Nat
  | [] => [0]
  | c :: r => if c = 10 then 0 :: lens r else (lens r).modify 0 (· + 1)
/-- Where lines of these lengths end, the first of which starts at o. -/
def lay (o : Nat) : List Nat → List Nat
  | [] => []
  | n :: r => (o + n) :: lay (o + n + 1) r
theorem nls_append (a b : List UInt8) (o : Nat) : nls o (a ++ b) = nls o a ++ nls (o + a.length) b := by
  induction a generalizing o with
  | nil => simp [nls]
  | cons c r ih =>
    simp only [List.cons_append, nls, List.length_cons]
    rw [ih, show o + 1 + r.length = o + (r.length + 1) by omega]
    split <;> simp
theorem nls_shift (s : List UInt8) (o d : Nat) : nls (o + d) s = (nls o s).map (· + d) := by
  induction s generalizing o with
  | nil => rfl
  | cons c r ih =>
    simp only [nls]
    rw [show o + d + 1 = o + 1 + d by omega, ih]
    split <;> simp
theorem nls_mem {s : List UInt8} {o x : Nat} (h : x ∈ nls o s) : o ≤ x ∧ x < o + s.length := by
  induction s generalizing o with
  | nil => simp [nls] at h
  | cons c r ih =>
    simp only [nls] at h
    split at h
    · rcases List.mem_cons.1 h with h | h
      · subst h; simp
      · have := ih h; simp; omega
    · have := ih h; simp; omega
theorem nls_sorted (s : List UInt8) (o : Nat) : (nls o s).Pairwise (· < ·) := by
  induction s generalizing o with
  | nil => exact List.Pairwise.nil
  | cons c r ih =>
    simp only [nls]
    split
    · exact List.pairwise_cons.2 ⟨fun x hx => by have := nls_mem hx; omega, ih _⟩
    · exact ih _
theorem nls_length (s : List UInt8) (o : Nat) : (nls o s).length = s.count 10 := by
  induction s generalizing o with
  | nil => rfl
  | cons c r ih =>
    simp only [nls]
    split
    · rename_i h; subst h; simp [ih]
    · rename_i h; rw [ih, List.count_cons_of_ne h]
theorem ends_sorted (t : List UInt8) : (ends t).Pairwise (· < ·) := by
  rw [ends, List.pairwise_append]
  refine ⟨nls_sorted t 0, List.pairwise_singleton _ _, fun x hx y hy => ?_⟩
  have := nls_mem hx
  simp at hy
  omega
theorem ends_length (t : List UInt8) : (ends t).length = t.count 10 + 1 := by rw [ends, List.length_append, nls_length]; rfl
theorem ends_pos (t : List UInt8) : 0 < (ends t).length := by rw [ends_length]; omega
theorem ends_le (t : List UInt8) : (ends t).length ≤ t.length + 1 := by
  rw [ends_length]
  have := List.count_le_length (a := (10 : UInt8)) (l := t)
  omega
theorem ends_mem {t : List UInt8} {x : Nat} (h : x ∈ ends t) : x ≤ t.length := by
  rw [ends, List.mem_append] at h
  rcases h with h | h
  · have := nls_mem h; omega
  · simp at h; omega
theorem ends_last (t : List UInt8) : (ends t)[(ends t).length - 1]? = some t.length := by
  rw [ends, List.length_append, List.getElem?_append_right (by simp)]
  simp
theorem lens_length (s : List UInt8) : (lens s).length = s.count 10 + 1 := by
  induction s with
  | nil => rfl
  | cons c r ih =>
    simp only [lens]
    split
    · rename_i h; subst h; simp [ih]
    · rename_i h; rw [List.length_modify, ih, List.count_cons_of_ne h]
theorem lens_pos (s : List UInt8) : 0 < (lens s).length := by rw [lens_length]; omega
/-- What is ahead of the first line, and behind the last one, is put to them. -/
def wide (x y : Nat) (l : List Nat) : List Nat := (l.modify 0 (· + x)).modify (l.length - 1) (· + y)
theorem modify_modify (l : List Nat) (x y : Nat) : (l.modify 0 (· + x)).modify 0 (· + y) = l.modify 0 (· + (x + y)) := by
  cases l with
  | nil => rfl
  | cons n r => simp [Nat.add_assoc]
theorem lay_wide (s : List UInt8) (o x y : Nat) : lay o (wide x y (lens s)) = nls (o + x) s ++ [o + x + s.length + y] := by
  induction s generalizing o x with
  | nil => simp [lens, wide, lay, nls]; omega
  | cons c r ih =>
    simp only [lens, nls]
    have hp := lens_pos r
    split
    · have e : wide x y (0 :: lens r) = x :: wide 0 y (lens r) := by
        simp only [wide, List.modify_zero_cons, Nat.zero_add, List.length_cons, Nat.add_sub_cancel]
        rw [show (lens r).length = (lens r).length - 1 + 1 by omega, List.modify_succ_cons]
        have : (lens r).modify 0 (fun z => z + 0) = lens r := by cases lens r <;> simp
        rw [this]
        simp
      rw [e, lay, ih]
      simp
      omega
    · have e : wide x y ((lens r).modify 0 (· + 1)) = wide (1 + x) y (lens r) := by
        simp only [wide, List.length_modify]
        rw [modify_modify]
      rw [e, ih, show o + (1 + x) = o + x + 1 by omega]
      simp
      omega
theorem wide_zero (l : List Nat) : wide 0 0 l = l := by
  unfold wide
  have h : ∀ (l : List Nat) k, l.modify k (fun z => z + 0) = l := fun l k => by
    apply List.ext_getElem?
    intro j
    rw [List.getElem?_modify]
    split <;> simp
  rw [h, h]
theorem lay_lens (s : List UInt8) : lay 0 (lens s) = ends s := by
  have := lay_wide s 0 0 0
  rw [wide_zero] at this
  simpa [ends] using this
theorem wide_length (x y : Nat) (l : List Nat) : (wide x y l).length = l.length := by simp [wide]
theorem lay_length (o : Nat) (l : List Nat) : (lay o l).length = l.length := by
  induction l generalizing o with
  | nil => rfl
  | cons n r ih => simp [lay, ih]
theorem lay_snoc (o : Nat) (l : List Nat) (n : Nat) : lay o (l ++ [n]) = lay o l ++ [o + (l.sum + l.length) + n] := by
  induction l generalizing o with
  | nil => simp [lay]
  | cons m r ih => simp [lay, ih]; omega
theorem lens_sum (s : List UInt8) : (lens s).sum + (lens s).length = s.length + 1 := by
  induction s with
  | nil => rfl
  | cons c r ih =>
    simp only [lens]
    split
    · simp; omega
    · have h : ∀ l : List Nat, 0 < l.length → (l.modify 0 (· + 1)).sum = l.sum + 1 := fun l hl => by
        cases l with
        | nil => simp at hl
        | cons n r => simp; omega
      rw [h _ (lens_pos r), List.length_modify]
      simp; omega
theorem wide_sum (x y : Nat) (l : List Nat) (h : 0 < l.length) : (wide x y l).sum = l.sum + x + y := by
  have key : ∀ (l : List Nat) (k z : Nat), k < l.length → (l.modify k (· + z)).sum = l.sum + z := by
    intro l
    induction l with
    | nil => intro k z h; simp at h
    | cons n r ih =>
      intro k z h
      cases k with
      | zero => simp; omega
      | succ k => simp at h; simp [ih k z h]; omega
  rw [wide, key _ _ _ (by rw [List.length_modify]; omega), key _ _ _ h]
/-- How many lines end ahead of an offset. -/
def line (t : List UInt8) (p : Nat) : Nat := (nls 0 (t.take p)).length
theorem ends_split (t : List UInt8) (p : Nat) (hp : p ≤ t.length) : ends t = nls 0 (t.take p) ++ (nls p (t.drop p) ++ [t.length]) := by
  have h := nls_append (t.take p) (t.drop p) 0
  rw [List.take_append_drop, List.length_take, Nat.min_eq_left hp, Nat.zero_add] at h
  rw [ends, h, List.append_assoc]
theorem line_lt {t : List UInt8} {p : Nat} (hp : p ≤ t.length) : line t p < (ends t).length := by
  rw [ends_split t p hp]; simp [line]
theorem ends_take {t : List UInt8} {p : Nat} (hp : p ≤ t.length) : (ends t).take (line t p) = nls 0 (t.take p) := by
  rw [ends_split t p hp, line, List.take_left]
theorem ends_drop {t : List UInt8} {p : Nat} (hp : p ≤ t.length) : (ends t).drop (line t p) = nls p (t.drop p) ++ [t.length] := by
  rw [ends_split t p hp, line, List.drop_left]
/-- The line of an offset is as many as end ahead of it. -/
theorem line_count {t : List UInt8} {p : Nat} (hp : p ≤ t.length) : ((ends t).map (fun n : Nat => (n : Int))).countP (· < (p : Int)) = line t p := by
  rw [List.countP_map, ends_split t p hp, List.countP_append]
  have h1 : (nls 0 (t.take p)).countP ((fun x : Int => decide (x < (p : Int))) ∘ fun n : Nat => (n : Int)) = (nls 0 (t.take p)).length := by
    rw [List.countP_eq_length]
    intro x hx
    have := nls_mem hx
    simp at this ⊢
    omega
  have h2 : (nls p (t.drop p) ++ [t.length]).countP ((fun x : Int => decide (x < (p : Int))) ∘ fun n : Nat => (n : Int)) = 0 := by
    rw [List.countP_eq_zero]
    intro x hx
    rw [List.mem_append] at hx
    rcases hx with hx | hx
    · have := nls_mem hx
      simp
      omega
    · simp at hx
      simp
      omega
  rw [h1, h2, line, Nat.add_zero]
theorem line_high {t : List UInt8} {p : Int} (hp : (t.length : Int) < p) : ((ends t).map (fun n : Nat => (n : Int))).countP (· < p) = (ends t).length := by
  rw [List.countP_map, List.countP_eq_length]
  intro x hx
  have := ends_mem hx
  simp
  omega
/-- Where the line k starts. -/
def start (t : List UInt8) (k : Nat) : Nat := if k = 0 then 0 else (ends t).getD (k - 1) 0 + 1
def stop (t : List UInt8) (k : Nat) : Nat := (ends t).getD k 0
theorem getD_of {l : List Nat} {k x : Nat} (h : l[k]? = some x) : l.getD k 0 = x := by simp [List.getD, h]
theorem start_le {t : List UInt8} {p : Nat} (hp : p ≤ t.length) : start t (line t p) ≤ p := by
  unfold start
  split
  · omega
  · rename_i h0
    have h1 : line t p - 1 < (nls 0 (t.take p)).length := by unfold line at h0 ⊢; omega
    have h2 : (ends t)[line t p - 1]? = some (nls 0 (t.take p))[line t p - 1] := by
      rw [ends_split t p hp, List.getElem?_append_left h1, List.getElem?_eq_getElem h1]
    rw [getD_of h2]
    have := nls_mem (List.getElem_mem h1)
    simp at this
    omega
theorem stop_split {t : List UInt8} {p : Nat} (hp : p ≤ t.length) : nls p (t.drop p) ++ [t.length] = stop t (line t p) :: (ends t).drop (line t p + 1) := by
  have h := line_lt hp
  have h2 := List.drop_eq_getElem_cons h
  rw [← ends_drop hp, h2, stop, List.getD_eq_getElem?_getD, List.getElem?_eq_getElem h]
  rfl
theorem le_stop {t : List UInt8} {p : Nat} (hp : p ≤ t.length) : p ≤ stop t (line t p) ∧ stop t (line t p) ≤ t.length := by
  have h : stop t (line t p) ∈ nls p (t.drop p) ++ [t.length] := by rw [stop_split hp]; exact List.mem_cons_self
  rw [List.mem_append] at h
  rcases h with h | h
  · have := nls_mem h; simp at this; omega
  · simp at h; omega
theorem line_mono {t : List UInt8} {p q : Nat} (h : p ≤ q) : line t p ≤ line t q := by
  unfold line
  rw [nls_length, nls_length]
  have : t.take p <+: t.take q := List.take_prefix_take_left h
  exact this.sublist.count_le _
/-- What stands in the place of some bytes. -/
def put (t : List UInt8) (i j : Nat) (s : List UInt8) : List UInt8 := t.take i ++ (s ++ t.drop j)
theorem put_length {t : List UInt8} {i j : Nat} (hij : i ≤ j) (hj : j ≤ t.length) (s : List UInt8) : (put t i j s).length + (j - i) = t.length + s.length := by
  simp [put]; omega
/-- The lengths that the new lines get. -/
def mid (t : List UInt8) (i j : Nat) (s : List UInt8) : List Nat := lay (start t (line t i)) (wide (i - start t (line t i)) (stop t (line t j) - j) (lens s))
theorem mid_eq {t : List UInt8} {i j : Nat} (hi : i ≤ t.length) (s : List UInt8) : mid t i j s = nls i s ++ [i + s.length + (stop t (line t j) - j)] := by
  have h := start_le hi
  rw [mid, lay_wide, show start t (line t i) + (i - start t (line t i)) = i by omega]
theorem mid_length (t : List UInt8) (i j : Nat) (s : List UInt8) : (mid t i j s).length = (lens s).length := by rw [mid, lay_length, wide_length]
theorem ends_put {t : List UInt8} {i j : Nat} (hij : i ≤ j) (hj : j ≤ t.length) (s : List UInt8) :
    ends (put t i j s) = (ends t).take (line t i) ++ (mid t i j s ++ ((ends t).drop (line t j + 1)).map (fun z => z + s.length - (j - i))) := by
  have hi : i ≤ t.length := by omega
  have hl := put_length hij hj s
  have hst := le_stop hj
  have h1 : ends (put t i j s) = nls 0 (t.take i) ++ (nls i s ++ (nls (i + s.length) (t.drop j) ++ [(put t i j s).length])) := by
    rw [ends, put, nls_append, nls_append, List.length_take, Nat.min_eq_left hi, Nat.zero_add]
    simp
  have h2 : nls (i + s.length) (t.drop j) ++ [(put t i j s).length] = (nls j (t.drop j) ++ [t.length]).map (fun z => z + s.length - (j - i)) := by
    have e1 := nls_shift (t.drop j) 0 (i + s.length)
    have e2 := nls_shift (t.drop j) 0 j
    rw [Nat.zero_add] at e1 e2
    rw [List.map_append, e1, e2, List.map_map]
    congr 1
    · apply List.map_congr_left
      intro z _
      simp
      omega
    · simp; omega
  rw [h1, h2, ends_take hi, mid_eq hi, stop_split hj]
  simp
  omega
theorem put_ends_ge {t : List UInt8} {j : Nat} (hj : j ≤ t.length) {z : Nat} (hz : z ∈ (ends t).drop (line t j + 1)) : j ≤ z ∧ z ≤ t.length := by
  have h : z ∈ nls j (t.drop j) ++ [t.length] := by rw [stop_split hj]; exact List.mem_cons_of_mem _ hz
  rw [List.mem_append] at h
  rcases h with h | h
  · have := nls_mem h; simp at this; omega
  · simp at h; omega
/-- The answers of an index of bytes. -/
def startOf (t : List UInt8) (k : Int) : Int := if k < 0 ∨ (ends t).length ≤ k then -1 else (start t k.toNat : Nat)
def endOf (t : List UInt8) (k : Int) : Int := if k < 0 ∨ (ends t).length ≤ k then -1 else (stop t k.toNat : Nat)
def lineOf (t : List UInt8) (p : Int) : Int := if p < 0 ∨ t.length < p then -1 else (line t p.toNat : Nat)
end Ix
end Go.Proofs.YtlfhfpjffdaomaaDoor
/-
  Bytes parted at line feeds, without a program.
-/
namespace Go.Proofs.YtlfhfpjffdaomaaDoor
namespace Ix
/-- Bytes parted at line feeds. -/
def parts : List UInt8 → List (List UInt8)
  | [] => [[]]
  | c :: r => if c = 10 then [] :: parts r else (parts r).modify 0 (c :: ·)
theorem parts_pos (s : List UInt8) : 0 < (parts s).length := by
  induction s with
  | nil => simp [parts]
  | cons c r ih => simp only [parts]; split <;> simp [ih]
theorem parts_lens (s : List UInt8) : (parts s).map List.length = lens s := by
  induction s with
  | nil => rfl
  | cons c r ih =>
    simp only [parts, lens]
    split
    · simp [ih]
    · rw [← ih]
      cases parts r <;> simp
theorem parts_whole (a : List UInt8) (h : ∀ i : Nat, a[i]? ≠ some 10) : parts a = [a] := by
  induction a with
  | nil => rfl
  | cons c r ih =>
    have h0 : c ≠ 10 := fun e => h 0 (by simp [e])
    rw [parts, if_neg h0, ih (fun i => by have := h (i + 1); simpa using this)]
    rfl
theorem parts_cut (a r : List UInt8) (h : ∀ i : Nat, a[i]? ≠ some 10) : parts (a ++ 10 :: r) = a :: parts r := by
  induction a with
  | nil => simp [parts]
  | cons c q ih =>
    have h0 : c ≠ 10 := fun e => h 0 (by simp [e])
    rw [List.cons_append, parts, if_neg h0, ih (fun i => by have := h (i + 1); simpa using this)]
    rfl
theorem parts_none {s : List UInt8} (h : Lib.indexByte s 10 = -1) : parts s = [s] := parts_whole s (Lib.indexByte_none h)
theorem parts_some {s : List UInt8} {o : Nat} (h : Lib.indexByte s 10 = o) : o < s.length ∧ parts s = s.take o :: parts (s.drop (o + 1)) := by
  obtain ⟨h1, h2⟩ := Lib.indexByte_some h
  have h3 := (List.getElem?_eq_some_iff.1 h1).1
  refine ⟨h3, ?_⟩
  have e : s = s.take o ++ 10 :: s.drop (o + 1) := by
    have := List.drop_eq_getElem_cons h3
    rw [(List.getElem?_eq_some_iff.1 h1).2] at this
    rw [← this, List.take_append_drop]
  conv => lhs; rw [e]
  refine parts_cut _ _ fun i hi => ?_
  rw [List.getElem?_take] at hi
  split at hi
  · exact h2 i (by assumption) hi
  · cases hi
theorem parts_length (s : List UInt8) : (parts s).length = s.count 10 + 1 := by
  have := congrArg List.length (parts_lens s)
  rw [List.length_map, lens_length] at this
  exact this
/-- Pairs of starts and ends, of lines that end so, the first of which starts at f. -/
def pairs (f : Nat) : List Nat → List (Nat × Nat)
  | [] => []
  | e :: r => (f, e) :: pairs (e + 1) r
theorem pairs_length (f : Nat) (l : List Nat) : (pairs f l).length = l.length := by
  induction l generalizing f with
  | nil => rfl
  | cons e r ih => simp [pairs, ih]
theorem pairs_get (f : Nat) (l : List Nat) (k : Nat) (h : k < l.length) : (pairs f l)[k]? = some (if k = 0 then f else l.getD (k - 1) 0 + 1, l.getD k 0) := by
  induction l generalizing f k with
  | nil => simp at h
  | cons e r ih =>
    cases k with
    | zero => simp [pairs]
    | succ k =>
      simp only [pairs, List.getElem?_cons_succ]
      rw [ih (e + 1) k (by simpa using h)]
      cases k with
      | zero => simp
      | succ k => simp
/-- All lines of bytes. -/
def all (t : List UInt8) : List (Nat × Nat) := pairs 0 (ends t)
theorem all_length (t : List UInt8) : (all t).length = (ends t).length := pairs_length _ _
theorem all_get {t : List UInt8} {k : Nat} (h : k < (ends t).length) : (all t)[k]? = some (start t k, stop t k) := pairs_get 0 (ends t) k h
theorem nls_here {t : List UInt8} {p : Nat} (h : t[p]? = some 10) : nls p (t.drop p) = p :: nls (p + 1) (t.drop (p + 1)) := by
  obtain ⟨hi, hb⟩ := List.getElem?_eq_some_iff.1 h
  rw [List.drop_eq_getElem_cons hi, hb, nls, if_pos rfl]
theorem nls_not {t : List UInt8} {p : Nat} {b : UInt8} (h : t[p]? = some b) (hb : b ≠ 10) : nls p (t.drop p) = nls (p + 1) (t.drop (p + 1)) := by
  obtain ⟨hi, hc⟩ := List.getElem?_eq_some_iff.1 h
  rw [List.drop_eq_getElem_cons hi, hc, nls, if_neg hb]
/-- How far a loop over bytes has come: these lines are done; the next one began at a. -/
def Come (t : List UInt8) (R done : List (Nat × Nat)) (a p : Nat) : Prop := (p ≤ t.length ∧ R = done ++ pairs a (nls p (t.drop p) ++ [t.length])) ∨ (p = t.length + 1 ∧ R = done)
theorem come_start (t : List UInt8) : Come t (all t) [] 0 0 := Or.inl ⟨Nat.zero_le _, by simp [all, ends]⟩
theorem come_end {t : List UInt8} {R done : List (Nat × Nat)} {a : Nat} (h : R = done ++ pairs a (nls t.length (t.drop t.length) ++ [t.length])) : Come t R (done ++ [(a, t.length)]) (t.length + 1) (t.length + 1) :=
  Or.inr ⟨rfl, by rw [h]; simp [nls, pairs]⟩
theorem come_here {t : List UInt8} {R done : List (Nat × Nat)} {a p : Nat} (h : R = done ++ pairs a (nls p (t.drop p) ++ [t.length])) (hp : t[p]? = some 10) : Come t R (done ++ [(a, p)]) (p + 1) (p + 1) :=
  Or.inl ⟨(List.getElem?_eq_some_iff.1 hp).1, by rw [h, nls_here hp]; simp [pairs]⟩
theorem come_not {t : List UInt8} {R done : List (Nat × Nat)} {a p : Nat} {b : UInt8} (h : R = done ++ pairs a (nls p (t.drop p) ++ [t.length])) (hp : t[p]? = some b) (hb : b ≠ 10) : Come t R done a (p + 1) :=
  Or.inl ⟨(List.getElem?_eq_some_iff.1 hp).1, by rw [h, nls_not hp hb]⟩
/-- The order of starts and ends. -/
theorem sorted_lt {l : List Nat} (h : l.Pairwise (· < ·)) {i j : Nat} (hij : i < j) (hj : j < l.length) : l.getD i 0 < l.getD j 0 := by
  have hi : i < l.length := by omega
  have := List.pairwise_iff_getElem.1 h i j hi hj hij
  rw [List.getD_eq_getElem?_getD, List.getD_eq_getElem?_getD, List.getElem?_eq_getElem hi, List.getElem?_eq_getElem hj]
  exact this
theorem line_here {t : List UInt8} {p k : Nat} (hk : k < (ends t).length) (h1 : start t k ≤ p) (h2 : p ≤ stop t k) : p ≤ t.length ∧ line t p = k := by
  have hs := ends_sorted t
  have hm : stop t k ∈ ends t := by
    rw [stop, List.getD_eq_getElem?_getD, List.getElem?_eq_getElem hk]
    exact List.getElem_mem hk
  have hp : p ≤ t.length := Nat.le_trans h2 (ends_mem hm)
  refine ⟨hp, ?_⟩
  have hl := line_lt hp
  have hge := le_stop hp
  have hle := start_le hp
  rcases Nat.lt_trichotomy (line t p) k with h | h | h
  · have h3 : stop t (line t p) < start t k := by
      unfold start
      rw [if_neg (by omega)]
      rcases Nat.lt_or_ge (line t p) (k - 1) with h4 | h4
      · have := sorted_lt hs h4 (by omega)
        unfold stop; omega
      · rw [show k - 1 = line t p by omega]; unfold stop; omega
    omega
  · exact h
  · have h3 : stop t k < start t (line t p) := by
      unfold start
      rw [if_neg (by omega)]
      rcases Nat.lt_or_ge k (line t p - 1) with h4 | h4
      · have := sorted_lt hs h4 (by omega)
        unfold stop; omega
      · rw [show line t p - 1 = k by omega]; unfold stop; omega
    omega
/-- An end is in its line. -/
theorem line_stop {t : List UInt8} {k : Nat} (hk : k < (ends t).length) : line t (stop t k) = k ∧ stop t k ≤ t.length := by
  have hs : start t k ≤ stop t k := by
    unfold start
    split
    · exact Nat.zero_le _
    · have := sorted_lt (ends_sorted t) (i := k - 1) (j := k) (by omega) hk
      unfold stop; omega
  have := line_here hk hs (Nat.le_refl _)
  exact ⟨this.2, this.1⟩
end Ix
end Go.Proofs.YtlfhfpjffdaomaaDoor
/-
  A text as its lines without a program: parted, and glued again; where its lines stand; which lines make a valid text.
-/
namespace Go.Proofs.YtlfhfpjffdaomaaDoor
namespace Gl
open Utf (dec off valid place one)
open Line (L seg Whole lns L_ok L_valid L_each)
open Ix (parts parts_pos parts_whole parts_cut)

/-- Lines, each with its line feed behind it. -/
def fore (R : List (List UInt8)) : List UInt8 := R.flatMap (· ++ [10])
/-- Lines, each with a line feed ahead. -/
def aft (R : List (List UInt8)) : List UInt8 := R.flatMap (10 :: ·)
/-- Lines as a text. -/
def glue : List (List UInt8) → List UInt8
  | [] => []
  | x :: r => x ++ aft r
theorem glue_cons (x : List UInt8) (r : List (List UInt8)) : glue (x :: r) = x ++ aft r := rfl
theorem fore_cons (x : List UInt8) (r : List (List UInt8)) : fore (x :: r) = x ++ 10 :: fore r := by simp [fore]
theorem aft_cons (x : List UInt8) (r : List (List UInt8)) : aft (x :: r) = 10 :: (x ++ aft r) := by simp [aft]
theorem fore_append (A B : List (List UInt8)) : fore (A ++ B) = fore A ++ fore B := by simp [fore]
theorem aft_append (A B : List (List UInt8)) : aft (A ++ B) = aft A ++ aft B := by simp [aft]
theorem fore_snoc (A : List (List UInt8)) (x : List UInt8) : fore (A ++ [x]) = fore A ++ (x ++ [10]) := by rw [fore_append, fore_cons]; simp [fore]
theorem aft_glue {R : List (List UInt8)} (h : R ≠ []) : aft R = 10 :: glue R := by
  cases R with
  | nil => exact absurd rfl h
  | cons x r => rw [aft_cons, glue_cons]
theorem glue_fore {A B : List (List UInt8)} (hB : B ≠ []) : glue (A ++ B) = fore A ++ glue B := by
  induction A with
  | nil => rfl
  | cons a A ih =>
    rw [List.cons_append, glue_cons, aft_glue (by simp [hB]), ih, fore_cons]
    simp
theorem glue_aft {B C : List (List UInt8)} (hB : B ≠ []) : glue (B ++ C) = glue B ++ aft C := by
  cases B with
  | nil => exact absurd rfl hB
  | cons x r => rw [List.cons_append, glue_cons, glue_cons, aft_append, List.append_assoc]
theorem glue_mid {A B C : List (List UInt8)} (hB : B ≠ []) : glue (A ++ (B ++ C)) = fore A ++ (glue B ++ aft C) := by
  rw [glue_fore (by simp [hB]), glue_aft hB]
theorem glue_one (x : List UInt8) : glue [x] = x := by simp [glue, aft]

/-- Is there no line feed in it? -/
def Free (x : List UInt8) : Prop := (10 : UInt8) ∉ x
theorem free_get {x : List UInt8} (h : Free x) (i : Nat) : x[i]? ≠ some 10 := fun e => h (List.mem_of_getElem? e)
theorem parts_ne (s : List UInt8) : parts s ≠ [] := fun h => by have := parts_pos s; rw [h] at this; exact absurd this (Nat.lt_irrefl 0)
theorem glue_parts (s : List UInt8) : glue (parts s) = s := by
  induction s with
  | nil => rfl
  | cons c r ih =>
    rw [parts]
    split
    · rename_i h
      subst h
      rw [glue_cons, aft_glue (parts_ne r), ih]
      rfl
    · cases hp : parts r with
      | nil => exact absurd hp (parts_ne r)
      | cons x q =>
        rw [hp, glue_cons] at ih
        rw [← ih]
        rfl
theorem parts_free (s : List UInt8) : ∀ x ∈ parts s, Free x := by
  induction s with
  | nil => intro x hx; simp [parts] at hx; subst hx; simp [Free]
  | cons c r ih =>
    intro x hx
    rw [parts] at hx
    split at hx
    · rcases List.mem_cons.1 hx with h | h
      · subst h; simp [Free]
      · exact ih x h
    · rename_i hc
      cases hp : parts r with
      | nil => exact absurd hp (parts_ne r)
      | cons y q =>
        rw [hp] at hx ih
        rcases List.mem_cons.1 hx with h | h
        · subst h
          intro hm
          rcases List.mem_cons.1 hm with h2 | h2
          · exact hc h2.symm
          · exact ih y (by simp) h2
        · exact ih x (by simp [h])
theorem parts_glue {R : List (List UInt8)} (h0 : R ≠ []) (h : ∀ x ∈ R, Free x) : parts (glue R) = R := by
  induction R with
  | nil => exact absurd rfl h0
  | cons x r ih =>
    cases r with
    | nil => rw [glue_one]; exact parts_whole x (free_get (h x (by simp)))
    | cons y q =>
      rw [glue_cons, aft_glue (by simp), parts_cut x _ (free_get (h x (by simp))), ih (by simp) (fun z hz => h z (by simp [hz]))]

/-- Where lines stand, the first of them from a on. -/
def spots (a : Nat) : List (List UInt8) → List (Nat × Nat)
  | [] => []
  | x :: r => (a, a + x.length) :: spots (a + x.length + 1) r
theorem lns_parts (a i : Nat) (t : List UInt8) : lns a i t = match parts t with | [] => [] | x :: r => (a, i + x.length) :: spots (i + x.length + 1) r := by
  induction t generalizing a i with
  | nil => rfl
  | cons b t ih =>
    cases hp : parts t with
    | nil => exact absurd hp (parts_ne t)
    | cons x r =>
      rw [lns, parts, hp]
      split
      · rw [ih, hp]
        rfl
      · rw [ih, hp]
        show _ = (a, i + (b :: x).length) :: spots (i + (b :: x).length + 1) r
        rw [List.length_cons, show i + (x.length + 1) = i + 1 + x.length by omega]
theorem L_spots {s : List UInt8} (h : valid s = true) : L s = spots 0 (parts s) := by
  rw [L_ok h, Line.lines, lns_parts]
  cases hp : parts s with
  | nil => exact absurd hp (parts_ne s)
  | cons x r => rfl
theorem spots_length (a : Nat) (R : List (List UInt8)) : (spots a R).length = R.length := by
  induction R generalizing a with
  | nil => rfl
  | cons x r ih => rw [spots, List.length_cons, List.length_cons, ih]
theorem spots_get {a : Nat} {R : List (List UInt8)} {k : Nat} {x : List UInt8} (h : R[k]? = some x) : (spots a R)[k]? = some (a + (fore (R.take k)).length, a + (fore (R.take k)).length + x.length) := by
  induction R generalizing a k with
  | nil => simp at h
  | cons y r ih =>
    cases k with
    | zero =>
      simp only [List.getElem?_cons_zero, Option.some.injEq] at h
      subst h
      simp [spots, fore]
    | succ k =>
      rw [List.getElem?_cons_succ] at h
      rw [spots, List.getElem?_cons_succ, ih h, List.take_succ_cons, fore_cons, List.length_append, List.length_cons]
      congr 2 <;> omega
theorem L_len {s : List UInt8} (h : valid s = true) : (L s).length = (parts s).length := by rw [L_spots h, spots_length]
/-- Line k, by the lines. -/
theorem L_at {s : List UInt8} (hv : valid s = true) {k : Nat} {r : List UInt8} (h : (parts s)[k]? = some r) : (L s)[k]? = some ((fore ((parts s).take k)).length, (fore ((parts s).take k)).length + r.length) := by
  rw [L_spots hv, spots_get h, Nat.zero_add]
theorem L_of {s : List UInt8} {k : Nat} {x : Nat × Nat} (h : (L s)[k]? = some x) : ∃ r, (parts s)[k]? = some r ∧ x.1 = (fore ((parts s).take k)).length ∧ x.2 = x.1 + r.length := by
  have hv := L_valid h
  have hk : k < (parts s).length := by rw [← L_len hv]; exact (List.getElem?_eq_some_iff.1 h).1
  have hr := List.getElem?_eq_getElem hk
  refine ⟨_, hr, ?_⟩
  rw [L_at hv hr] at h
  injection h with h
  subst h
  exact ⟨rfl, rfl⟩
/-- A text, ahead of line j, from there to line k, and behind it. -/
theorem three {s : List UInt8} {j k : Nat} {x y : Nat × Nat} (hjk : j ≤ k) (hx : (L s)[j]? = some x) (hy : (L s)[k]? = some y) :
    ∃ A B C, parts s = A ++ (B ++ C) ∧ B ≠ [] ∧ A.length = j ∧ B.length = k + 1 - j ∧ s = fore A ++ (glue B ++ aft C) ∧ x.1 = (fore A).length ∧ y.2 = (fore A).length + (glue B).length := by
  obtain ⟨r, hr, h1, h2⟩ := L_of hx
  obtain ⟨q, hq, h3, h4⟩ := L_of hy
  have hk := (List.getElem?_eq_some_iff.1 hq).1
  have hR : parts s = (parts s).take j ++ (((parts s).drop j).take (k + 1 - j) ++ (parts s).drop (k + 1)) := by
    conv => lhs; rw [← List.take_append_drop j (parts s), ← List.take_append_drop (k + 1 - j) ((parts s).drop j), List.drop_drop, show j + (k + 1 - j) = k + 1 by omega]
  have hne : ((parts s).drop j).take (k + 1 - j) ≠ [] := fun h => by
    have := congrArg List.length h
    simp at this
    omega
  have hs := glue_parts s
  rw [hR, glue_mid hne] at hs
  have e1 : (parts s).take j ++ ((parts s).drop j).take (k + 1 - j) = (parts s).take k ++ [q] := by
    have := List.take_succ_eq_append_getElem hk
    rw [(List.getElem?_eq_some_iff.1 hq).2] at this
    rw [← this, ← List.take_append_drop j ((parts s).take (k + 1)), List.take_take, Nat.min_eq_left (by omega), List.drop_take]
  have e2 := congrArg glue e1
  rw [glue_fore hne, glue_fore (by simp), glue_one] at e2
  have e3 := congrArg List.length e2
  rw [List.length_append, List.length_append] at e3
  exact ⟨_, _, _, hR, hne, by rw [List.length_take]; omega, by rw [List.length_take, List.length_drop]; omega, hs.symm, h1, by rw [h4, h3]; omega⟩

/-- A valid text and another one. -/
theorem valid_all {a : List UInt8} (b : List UInt8) (ha : valid a = true) : valid (a ++ b) = valid b := by
  obtain ⟨rs, hd⟩ := Utf.valid_of ha
  obtain ⟨h1, h2⟩ := Utf.dec_some hd
  rw [valid, h2, Utf.dec_all b h1, valid, Option.isSome_map]
theorem one_ascii {b : UInt8} (h : b.toNat < 128) : one [b] = true := by
  have hl : Utf.len b.toNat = 1 := by
    unfold Utf.len
    rw [if_neg (by omega), if_neg (by omega), if_neg (by omega), if_neg (by omega), if_neg (by omega)]
  rw [Utf.one_iff, Utf.siz_cons, hl]
  simp [Utf.goes]
theorem valid_nil : valid [] = true := by rw [valid, Utf.dec_nil]; rfl
theorem valid_ascii {b : UInt8} (t : List UInt8) (h : b.toNat < 128) : valid (b :: t) = valid t := by
  have := valid_all (a := [b]) t (by
    have := Utf.dec_of (rs := [[b]]) (by simp [one_ascii h])
    rw [valid]
    simp at this
    rw [this]; rfl)
  exact this
theorem valid_feed (t : List UInt8) : valid (10 :: t) = valid t := valid_ascii t (by decide)
theorem place_mid {a b : List UInt8} (ha : valid a = true) (hb : valid b = true) : place (a ++ b) (a.length : Int) = true := by
  obtain ⟨rs, hd⟩ := Utf.valid_of ha
  obtain ⟨qs, he⟩ := Utf.valid_of hb
  obtain ⟨h1, h2⟩ := Utf.dec_some hd
  have h3 : dec (a ++ b) = some (rs ++ qs) := by
    conv => lhs; rw [h2]
    rw [Utf.dec_all b h1, he]
    rfl
  have := Utf.place_at h3 (i := rs.length) (by simp)
  rwa [off, List.take_left, ← h2] at this
/-- What stands from one place of a text on is valid, and so is what stands ahead of it. -/
theorem place_two {s : List UInt8} {n : Nat} (h : place s (n : Int) = true) : valid (s.take n) = true ∧ valid (s.drop n) = true := by
  obtain ⟨rs, i, hd, hi, he⟩ := Utf.place_of h
  obtain rfl : off rs i = n := by omega
  obtain ⟨h1, h2⟩ := Utf.dec_some hd
  rw [h2, Utf.off_take, Utf.off_drop]
  constructor
  · rw [valid, Utf.dec_of fun r hr => h1 r (List.mem_of_mem_take hr)]; rfl
  · rw [valid, Utf.dec_of fun r hr => h1 r (List.mem_of_mem_drop hr)]; rfl
theorem take_of {s A M : List UInt8} {n : Nat} (h : s = A ++ M) (hn : n = A.length) : s.take n = A := by rw [h, hn, List.take_left]
theorem drop_of {s A M : List UInt8} {n : Nat} (h : s = A ++ M) (hn : n = A.length) : s.drop n = M := by rw [h, hn, List.drop_left]
theorem valid_part {s : List UInt8} (hv : valid s = true) : ∀ x ∈ parts s, valid x = true := by
  intro r hx
  obtain ⟨k, hk, he⟩ := List.mem_iff_getElem.1 hx
  have hr : (parts s)[k]? = some r := by rw [List.getElem?_eq_getElem hk, he]
  have hL := L_at hv hr
  obtain ⟨A, B, C, h1, h2, h3, h4, h5, h6, h7⟩ := three (Nat.le_refl k) hL hL
  have p1 := (place_two (Line.start_ok hL)).1
  have p2 := (place_two (Line.stop_ok hL)).1
  have hB : B = [r] := by
    have e : (parts s)[k]? = B[0]? := by
      have hl : 0 < B.length := List.length_pos_iff.2 h2
      rw [h1, List.getElem?_append_right (by omega), h3, Nat.sub_self, List.getElem?_append_left hl]
    rw [hr] at e
    match B, h4, e with
    | [b], _, e => simp at e; rw [e]
    | [], h, _ => exact absurd rfl h2
    | b :: c :: r, h, _ => simp at h
  rw [take_of h5 h6] at p1
  rw [take_of (A := fore A ++ glue B) (M := aft C) (by rw [List.append_assoc]; exact h5) (by rw [List.length_append]; exact h7), hB, glue_one, valid_all _ p1] at p2
  exact p2
theorem valid_aft {R : List (List UInt8)} (h : ∀ x ∈ R, valid x = true) : valid (aft R) = true := by
  induction R with
  | nil => exact valid_nil
  | cons x r ih => rw [aft_cons, valid_feed, valid_all _ (h x (by simp))]; exact ih fun y hy => h y (by simp [hy])
theorem valid_fore {R : List (List UInt8)} (h : ∀ x ∈ R, valid x = true) : valid (fore R) = true := by
  induction R with
  | nil => exact valid_nil
  | cons x r ih => rw [fore_cons, valid_all _ (h x (by simp)), valid_feed]; exact ih fun y hy => h y (by simp [hy])
theorem valid_glue {R : List (List UInt8)} (h : ∀ x ∈ R, valid x = true) : valid (glue R) = true := by
  cases R with
  | nil => exact valid_nil
  | cons x r => rw [glue_cons, valid_all _ (h x (by simp))]; exact valid_aft fun y hy => h y (by simp [hy])
/-- Where the line behind these ones begins. -/
theorem start_fore {A R : List (List UInt8)} (h : ∀ x ∈ A ++ R, valid x = true ∧ Free x) (hR : R ≠ []) : Line.start (glue (A ++ R)) (A.length : Nat) = (fore A).length ∧ ∃ x, R.head? = some x ∧ Line.stop (glue (A ++ R)) (A.length : Nat) = ((fore A).length + x.length : Nat) := by
  have hv := valid_glue fun x hx => (h x hx).1
  have hp := parts_glue (R := A ++ R) (by simp [hR]) (fun x hx => (h x hx).2)
  cases R with
  | nil => exact absurd rfl hR
  | cons x r =>
    have hL := L_at hv (k := A.length) (r := x) (by rw [hp]; simp)
    rw [hp, List.take_left] at hL
    have hl : Line.line (glue (A ++ x :: r)) ((A.length : Nat) : Int) = some ((fore A).length, (fore A).length + x.length) := by rw [Line.line_nat]; exact hL
    exact ⟨Line.start_some hl, x, rfl, Line.stop_some hl⟩
end Gl
end Go.Proofs.YtlfhfpjffdaomaaDoor
/-
  The bytes of a rune stand only where it is a rune of the text: without a program.
-/
namespace Go.Proofs.YtlfhfpjffdaomaaDoor
namespace Seek
open Utf (dec off one)
/-- The bytes of a rune stand only where it is a rune of the text. -/
theorem pre_iff {s r : List UInt8} {rs : List (List UInt8)} (hd : dec s = some rs) (hr : one r = true) (x : Nat) : r <+: s.drop x ↔ ∃ i : Nat, rs[i]? = some r ∧ off rs i = x := by
  obtain ⟨hall, hs⟩ := Utf.dec_some hd
  constructor
  · rintro ⟨t, ht⟩
    obtain ⟨a, q, ha, hh, _, _⟩ := Utf.one_shape hr
    have hx : s[x]? = some a := by
      have : (s.drop x)[0]? = some a := by rw [← ht, ha]; rfl
      simpa using this
    have hxl : x < s.length := (List.getElem?_eq_some_iff.1 hx).1
    obtain ⟨i, hi, rfl⟩ := (Utf.apart_iff hd (Nat.le_of_lt hxl)).1 (by rw [Utf.apart, hx]; exact hh)
    have hdr : s.drop (off rs i) = (rs.drop i).flatten := by rw [hs]; exact Utf.off_drop rs i
    have h1 := Utf.dec_of (rs := rs.drop i) (fun y hy => hall y (List.mem_of_mem_drop hy))
    rw [← hdr, ← ht, Utf.dec_one t hr] at h1
    cases hq : dec t with
    | none => rw [hq] at h1; cases h1
    | some ts =>
      rw [hq] at h1
      injection h1 with h1
      refine ⟨i, ?_, rfl⟩
      have : (rs.drop i)[0]? = some r := by rw [← h1]; rfl
      simpa using this
  · rintro ⟨i, hi, rfl⟩
    obtain ⟨hil, he⟩ := List.getElem?_eq_some_iff.1 hi
    refine ⟨(rs.drop (i + 1)).flatten, ?_⟩
    rw [hs, Utf.off_drop, List.drop_eq_getElem_cons hil, he, List.flatten_cons]
end Seek
end Go.Proofs.YtlfhfpjffdaomaaDoor
/-
  Where a pattern stands in a text, and which of these offsets is next, past both ends: without a program.
-/
namespace Go.Proofs.YtlfhfpjffdaomaaDoor
namespace Look
open Utf (dec off one valid)

/-- Does a pattern stand in a text at x? -/
def at_ (s p : List UInt8) (x : Nat) : Bool := decide (p <+: s.drop x)
/-- The offsets ahead of b at which it stands. -/
def upto (s p : List UInt8) (b : Nat) : List Int := ((List.range b).filter (at_ s p)).map (fun x : Nat => (x : Int))
/-- May they be? -/
def ok (s p : List UInt8) : Bool := valid s && valid p && !p.isEmpty
/-- All offsets at which it stands. -/
def all (s p : List UInt8) : List Int := if ok s p then upto s p s.length else []
theorem all_ok {s p : List UInt8} (h : ok s p = true) : all s p = upto s p s.length := if_pos h
theorem all_no {s p : List UInt8} (h : ok s p = false) : all s p = [] := if_neg (by simp [h])
theorem upto_zero (s p : List UInt8) : upto s p 0 = [] := rfl
theorem upto_succ (s p : List UInt8) (b : Nat) : upto s p (b + 1) = upto s p b ++ if at_ s p b then [(b : Int)] else [] := by
  rw [upto, upto, List.range_succ, List.filter_append, List.map_append]
  by_cases h : at_ s p b = true
  · simp [h]
  · simp [h]
theorem upto_skip {s p : List UInt8} {a b : Nat} (hab : a ≤ b) (h : ∀ x, a ≤ x → x < b → at_ s p x = false) : upto s p b = upto s p a := by
  induction b with
  | zero => rw [Nat.le_zero.1 hab]
  | succ b ih =>
    rcases Nat.lt_or_ge b a with h1 | h1
    · rw [show a = b + 1 by omega]
    · rw [upto_succ, h b h1 (by omega), ih h1 (fun x h2 h3 => h x h2 (by omega))]
      simp
theorem upto_prefix (s p : List UInt8) {a b : Nat} (h : a ≤ b) : upto s p a <+: upto s p b := by
  induction b with
  | zero => rw [Nat.le_zero.1 h]; exact List.prefix_refl _
  | succ b ih =>
    rcases Nat.lt_or_ge b a with h1 | h1
    · rw [show a = b + 1 by omega]; exact List.prefix_refl _
    · rw [upto_succ]; exact (ih h1).trans (List.prefix_append _ _)
theorem mem_upto {s p : List UInt8} {b : Nat} {x : Int} : x ∈ upto s p b ↔ ∃ n : Nat, x = n ∧ n < b ∧ at_ s p n = true := by
  simp only [upto, List.mem_map, List.mem_filter, List.mem_range]
  constructor
  · rintro ⟨n, ⟨h1, h2⟩, rfl⟩; exact ⟨n, rfl, h1, h2⟩
  · rintro ⟨n, rfl, h1, h2⟩; exact ⟨n, ⟨h1, h2⟩, rfl⟩
theorem upto_up (s p : List UInt8) (b : Nat) : (upto s p b).Pairwise (· < ·) := by
  rw [upto, List.pairwise_map]
  exact (List.pairwise_lt_range.filter _).imp (by intro x y h; omega)
theorem upto_length (s p : List UInt8) (b : Nat) : (upto s p b).length ≤ b := by
  rw [upto, List.length_map]
  exact Nat.le_trans (List.length_filter_le ..) (by rw [List.length_range]; exact Nat.le_refl _)
theorem all_up (s p : List UInt8) : (all s p).Pairwise (· < ·) := by
  unfold all; split
  · exact upto_up _ _ _
  · exact List.Pairwise.nil
theorem all_length (s p : List UInt8) : (all s p).length ≤ s.length := by
  unfold all; split
  · exact upto_length _ _ _
  · exact Nat.zero_le _
theorem at_room {s p : List UInt8} {x : Nat} (h : at_ s p x = true) : p.length ≤ s.length - x := by
  have := (of_decide_eq_true h).length_le
  rwa [List.length_drop] at this
theorem upto_far {s p : List UInt8} {x : Nat} (h1 : x ≤ s.length) (h2 : s.length < x + p.length) : upto s p s.length = upto s p x :=
  upto_skip h1 fun y h3 h4 => by
    cases h : at_ s p y with
    | false => rfl
    | true => have := at_room h; omega
/-- It stands only where a rune begins. -/
theorem at_place {s p : List UInt8} {rs : List (List UInt8)} (hd : dec s = some rs) (hv : valid p = true) (h0 : p ≠ []) {x : Nat} (h : at_ s p x = true) : ∃ i, i < rs.length ∧ off rs i = x := by
  obtain ⟨ps, hp⟩ := Option.isSome_iff_exists.1 hv
  obtain ⟨h1, h2⟩ := Utf.dec_some hp
  cases ps with
  | nil => exact absurd h2 h0
  | cons r t =>
    rw [List.flatten_cons] at h2
    have hr := h1 r (by simp)
    have hpre : r <+: s.drop x := (List.prefix_append r t.flatten).trans (by rw [← h2]; exact of_decide_eq_true h)
    obtain ⟨i, hi, e⟩ := (Seek.pre_iff hd hr x).1 hpre
    exact ⟨i, (List.getElem?_eq_some_iff.1 hi).1, e⟩
/-- From rune to rune. -/
theorem upto_next {s p : List UInt8} {rs : List (List UInt8)} (hd : dec s = some rs) (hv : valid p = true) (h0 : p ≠ []) {i : Nat} {r : List UInt8} (hr : rs[i]? = some r) : upto s p (off rs (i + 1)) = upto s p (off rs i) ++ if at_ s p (off rs i) then [(off rs i : Int)] else [] := by
  have ho : one r = true := (Utf.dec_some hd).1 r (List.mem_of_getElem? hr)
  have hn := Utf.off_next hr
  have hp := Utf.one_pos ho
  have hi := (List.getElem?_eq_some_iff.1 hr).1
  rw [← upto_succ]
  refine upto_skip (by omega) fun x h1 h2 => ?_
  cases h : at_ s p x with
  | false => rfl
  | true =>
    obtain ⟨j, hj, rfl⟩ := at_place hd hv h0 h
    rcases Nat.lt_or_ge i j with h3 | h3
    · have := Utf.off_mono (rs := rs) (i := i + 1) (j := j) (by omega); omega
    · have := Utf.off_mono (rs := rs) (i := j) (j := i) h3; omega
/-- What stands somewhere stands in a text, at a place, whole. -/
theorem all_mem {s p : List UInt8} {x : Int} (h : x ∈ all s p) : ok s p = true ∧ ∃ n : Nat, x = n ∧ n + p.length ≤ s.length ∧ at_ s p n = true ∧ Utf.place s x = true := by
  cases hk : ok s p with
  | false => rw [all_no hk] at h; cases h
  | true =>
    rw [all_ok hk] at h
    obtain ⟨n, rfl, h1, h2⟩ := mem_upto.1 h
    have h3 := at_room h2
    simp only [ok, Bool.and_eq_true, Bool.not_eq_true', List.isEmpty_eq_false_iff] at hk
    obtain ⟨rs, hd⟩ := Option.isSome_iff_exists.1 hk.1.1
    obtain ⟨i, hi, e⟩ := at_place hd hk.1.2 hk.2 h2
    exact ⟨rfl, n, rfl, by omega, h2, (Utf.place_iff hd).2 ⟨i, Nat.le_of_lt hi, by rw [e]⟩⟩

/-- How many of a list are ahead of p, or at p or ahead of it. -/
def cut (l : List Int) (p : Int) : Nat := l.countP (· < p)
/-- Where n steps lead, of a list that is not empty (n from 1 on): as the program reckons. -/
def nx (l : List Int) (p : Int) (back : Bool) (n : Nat) : Int :=
  (l[(if back then cut l p + l.length - 1 - (n - 1) % l.length else cut l (p + 1) + (n - 1) % l.length) % l.length]?).getD 0
theorem cut_le (l : List Int) (p : Int) : cut l p ≤ l.length := List.countP_le_length
/-- What is ahead of p in a rising list. -/
theorem cut_iff {l : List Int} (hl : l.Pairwise (· < ·)) {k : Nat} {x : Int} (hk : l[k]? = some x) (p : Int) : x < p ↔ k < cut l p := by
  induction l generalizing k with
  | nil => simp at hk
  | cons a t ih =>
    obtain ⟨h1, h2⟩ := List.pairwise_cons.1 hl
    unfold cut at ih ⊢
    by_cases ha : a < p
    · rw [List.countP_cons_of_pos (by simpa using ha)]
      cases k with
      | zero => simp at hk; subst hk; exact ⟨fun _ => by omega, fun _ => ha⟩
      | succ k =>
        rw [List.getElem?_cons_succ] at hk
        rw [ih h2 hk]
        omega
    · rw [List.countP_cons_of_neg (by simpa using ha)]
      have h0 : t.countP (· < p) = 0 := by
        rw [List.countP_eq_zero]
        intro y hy
        have := h1 y hy
        simp; omega
      rw [h0]
      constructor
      · intro h
        cases k with
        | zero => simp at hk; omega
        | succ k =>
          rw [List.getElem?_cons_succ] at hk
          have := h1 x (List.mem_of_getElem? hk); omega
      · omega
theorem cut_at {l : List Int} (hl : l.Pairwise (· < ·)) {k : Nat} {x : Int} (hk : l[k]? = some x) : cut l x = k ∧ cut l (x + 1) = k + 1 := by
  have hkl := (List.getElem?_eq_some_iff.1 hk).1
  have key : ∀ p, ∀ j y, l[j]? = some y → (y < p ↔ j < cut l p) := fun p j y h => cut_iff hl h p
  constructor
  · rcases Nat.lt_trichotomy (cut l x) k with h | h | h
    · obtain ⟨y, hy⟩ : ∃ y, l[cut l x]? = some y := ⟨_, List.getElem?_eq_getElem (by omega)⟩
      have h1 := key x _ _ hy
      have h2 : y < x := by
        obtain ⟨a, rfl⟩ := (List.getElem?_eq_some_iff.1 hy); obtain ⟨b, rfl⟩ := (List.getElem?_eq_some_iff.1 hk)
        exact List.pairwise_iff_getElem.1 hl _ _ _ _ h
      omega
    · exact h
    · have := (key x k x hk).2 h; omega
  · have h1 := (key (x + 1) k x hk).1 (by omega)
    have h2 := cut_le l (x + 1)
    rcases Nat.lt_or_ge (k + 1) (cut l (x + 1)) with h | h
    · obtain ⟨y, hy⟩ : ∃ y, l[k + 1]? = some y := ⟨_, List.getElem?_eq_getElem (by omega)⟩
      have h3 := (key (x + 1) _ _ hy).2 h
      have h4 : x < y := by
        obtain ⟨a, rfl⟩ := (List.getElem?_eq_some_iff.1 hy); obtain ⟨b, rfl⟩ := (List.getElem?_eq_some_iff.1 hk)
        exact List.pairwise_iff_getElem.1 hl _ _ _ _ (by omega)
      omega
    · omega
/-- Which position of the list n steps lead to. -/
def ix (l : List Int) (p : Int) (back : Bool) (n : Nat) : Nat := (if back then cut l p + l.length - 1 - (n - 1) % l.length else cut l (p + 1) + (n - 1) % l.length) % l.length
theorem ix_lt {l : List Int} (h : l ≠ []) (p : Int) (back : Bool) (n : Nat) : ix l p back n < l.length := Nat.mod_lt _ (List.length_pos_iff.2 h)
theorem nx_ix (l : List Int) (p : Int) (back : Bool) (n : Nat) : nx l p back n = (l[ix l p back n]?).getD 0 := rfl
theorem nx_at {l : List Int} (h : l ≠ []) (p : Int) (back : Bool) (n : Nat) : l[ix l p back n]? = some (nx l p back n) := by
  rw [nx_ix, List.getElem?_eq_getElem (ix_lt h p back n)]; rfl
theorem nx_mem {l : List Int} (h : l ≠ []) (p : Int) (back : Bool) (n : Nat) : nx l p back n ∈ l := List.mem_of_getElem? (nx_at h p back n)
theorem mod_mod_add (a b m : Nat) : (a % m + b) % m = (a + b) % m := by rw [Nat.add_mod, Nat.mod_mod, ← Nat.add_mod]
/-- From one of the list, n steps on. -/
theorem ix_on {l : List Int} (hl : l.Pairwise (· < ·)) {k : Nat} {x : Int} (hk : l[k]? = some x) {n : Nat} (hn : 1 ≤ n) : ix l x false n = (k + n) % l.length := by
  rw [ix, if_neg (by simp), (cut_at hl hk).2, Nat.add_mod, Nat.mod_mod, ← Nat.add_mod]
  congr 1; omega
theorem sub_mod_lemma {k n m : Nat} (hm : 0 < m) (hk : k < m) (hn : 1 ≤ n) : (k + m - 1 - (n - 1) % m) % m = (k + (m - n % m)) % m := by
  have h1 := Nat.mod_lt (n - 1) hm
  have h2 := Nat.mod_lt n hm
  obtain ⟨j, rfl⟩ : ∃ j, n = j + 1 := ⟨n - 1, by omega⟩
  rw [Nat.add_sub_cancel] at *
  by_cases h : j % m + 1 = m
  · have h3 : (j + 1) % m = 0 := by
      rcases Nat.lt_or_ge 1 m with h4 | h4
      · rw [Nat.add_mod, Nat.mod_eq_of_lt (a := 1) h4, h, Nat.mod_self]
      · obtain rfl : m = 1 := by omega
        simp [Nat.mod_one]
    rw [h3, show k + m - 1 - j % m = k by omega, Nat.sub_zero, Nat.add_mod_right]
  · have h3 : (j + 1) % m = j % m + 1 := by
      rw [Nat.add_mod, Nat.mod_eq_of_lt (a := 1) (by omega)]
      exact Nat.mod_eq_of_lt (by omega)
    rw [h3]
    congr 1; omega
theorem ix_back {l : List Int} (hl : l.Pairwise (· < ·)) {k : Nat} {x : Int} (hk : l[k]? = some x) {n : Nat} (hn : 1 ≤ n) : ix l x true n = (k + (l.length - n % l.length)) % l.length := by
  have h := (List.getElem?_eq_some_iff.1 hk).1
  rw [ix, if_pos rfl, (cut_at hl hk).1, sub_mod_lemma (by omega) h hn]
/-- One step more. -/
theorem nx_more {l : List Int} (hl : l.Pairwise (· < ·)) (h0 : l ≠ []) (p : Int) (back : Bool) {n : Nat} (hn : 1 ≤ n) : nx l p back (n + 1) = nx l (nx l p back n) back 1 := by
  have hL := List.length_pos_iff.2 h0
  have ha := nx_at h0 p back n
  have hb := nx_at h0 p back (n + 1)
  have hc := nx_at h0 (nx l p back n) back 1
  suffices h : ix l p back (n + 1) = ix l (nx l p back n) back 1 by
    rw [h, hc] at hb; injection hb with hb; exact hb.symm
  obtain ⟨j, rfl⟩ : ∃ j, n = j + 1 := ⟨n - 1, by omega⟩
  have h1 := Nat.mod_lt j hL
  cases back with
  | false =>
    rw [ix_on hl ha (Nat.le_refl 1), ix, ix, if_neg (by simp), if_neg (by simp), Nat.add_sub_cancel, Nat.add_sub_cancel, mod_mod_add, Nat.add_mod_mod, show cut l (p + 1) + j % l.length + 1 = cut l (p + 1) + 1 + j % l.length by omega, Nat.add_mod_mod]
    congr 1; omega
  | true =>
    have hi := ix_lt h0 p true (j + 1)
    have hcut := cut_le l p
    rw [ix_back hl ha (Nat.le_refl 1)]
    generalize hm : l.length = m at *
    have e1 : ix l p true (j + 1) = (cut l p + m - 1 - j % m) % m := by rw [ix, if_pos rfl, hm, Nat.add_sub_cancel]
    have e2 : ix l p true (j + 1 + 1) = (cut l p + m - 1 - (j + 1) % m) % m := by rw [ix, if_pos rfl, hm, Nat.add_sub_cancel]
    rw [e1, e2, mod_mod_add]
    by_cases h2 : j % m + 1 = m
    · have h3 : (j + 1) % m = 0 := by
        rcases Nat.lt_or_ge 1 m with h4 | h4
        · rw [Nat.add_mod, Nat.mod_eq_of_lt (a := 1) h4, h2, Nat.mod_self]
        · obtain rfl : m = 1 := by omega
          simp [Nat.mod_one]
      rw [h3]
      rcases Nat.lt_or_ge 1 m with h4 | h4
      · rw [Nat.mod_eq_of_lt (a := 1) h4]
        rw [show cut l p + m - 1 - j % m + (m - 1) = cut l p + m - 1 - 0 by omega]
      · obtain rfl : m = 1 := by omega
        simp [Nat.mod_one]
    · have h3 : (j + 1) % m = j % m + 1 := by
        rw [Nat.add_mod, Nat.mod_eq_of_lt (a := 1) (by omega)]
        exact Nat.mod_eq_of_lt (by omega)
      rw [h3, Nat.mod_eq_of_lt (a := 1) (by omega), show cut l p + m - 1 - j % m + (m - 1) = (cut l p + m - 1 - (j % m + 1)) + m by omega, Nat.add_mod_right]
/-- All the way round. -/
theorem nx_round {l : List Int} (hl : l.Pairwise (· < ·)) {k : Nat} {x : Int} (hk : l[k]? = some x) : nx l x false l.length = x := by
  have h := (List.getElem?_eq_some_iff.1 hk).1
  have h0 : l ≠ [] := by rintro rfl; simp at hk
  have ha := nx_at h0 x false l.length
  rw [ix_on hl hk (by omega), Nat.add_mod_right, Nat.mod_eq_of_lt h, hk] at ha
  injection ha with ha; exact ha.symm
/-- The way back undoes it. -/
theorem nx_undo {l : List Int} (hl : l.Pairwise (· < ·)) {k : Nat} {x : Int} (hk : l[k]? = some x) {n : Nat} (hn : 1 ≤ n) : nx l (nx l x false n) true n = x := by
  have h := (List.getElem?_eq_some_iff.1 hk).1
  have h0 : l ≠ [] := by rintro rfl; simp at hk
  have ha := nx_at h0 x false n
  have hb := nx_at h0 (nx l x false n) true n
  rw [ix_back hl ha hn, ix_on hl hk hn, mod_mod_add] at hb
  have h2 := Nat.mod_lt n (show 0 < l.length by omega)
  have e : (k + n + (l.length - n % l.length)) % l.length = k := by
    have hd := Nat.div_add_mod n l.length
    have : k + n + (l.length - n % l.length) = k + l.length * (n / l.length + 1) := by rw [Nat.mul_add, Nat.mul_one]; omega
    rw [this, Nat.add_mul_mod_self_left, Nat.mod_eq_of_lt h]
  rw [e, hk] at hb
  injection hb with hb; exact hb.symm
/-- The answer of Next. -/
def res (s p : List UInt8) (at0 : Int) (back : Bool) (n : Int) : Value :=
  if all s p ≠ [] ∧ Utf.place s at0 = true then .tuple #[.int .i64 (nx (all s p) at0 back (max n 1).toNat), .bool true] else .tuple #[.int .i64 0, .bool false]
end Look
end Go.Proofs.YtlfhfpjffdaomaaDoor
/-
  A text in the place of another one, without a program: pieces of a line, lines of a text, and what is put back.
-/
namespace Go.Proofs.YtlfhfpjffdaomaaDoor
namespace Sb
open Utf (valid place dec off)
open Line (L)
open Ix (parts)
open Gl
/-- What stands between the places of p, m of them at most; k bytes are still to be passed. -/
def ps (p : List UInt8) : Nat → Nat → List UInt8 → List (List UInt8)
  | _, _, [] => [[]]
  | k + 1, m, _ :: t => ps p k m t
  | 0, m, b :: t =>
    if 0 < m ∧ p <+: b :: t then [] :: ps p (p.length - 1) (m - 1) t
    else match ps p 0 m t with
      | [] => [[b]]
      | x :: q => (b :: x) :: q
/-- Pieces with a text between them. -/
def jn (r : List UInt8) : List (List UInt8) → List UInt8
  | [] => []
  | x :: q => x ++ q.flatMap (r ++ ·)
theorem jn_one (r x : List UInt8) : jn r [x] = x := by simp [jn]
theorem jn_cons (r x : List UInt8) {q : List (List UInt8)} (h : q ≠ []) : jn r (x :: q) = x ++ (r ++ jn r q) := by
  cases q with
  | nil => exact absurd rfl h
  | cons y q => simp [jn]
theorem ps_ne (p : List UInt8) (k m : Nat) (s : List UInt8) : ps p k m s ≠ [] := by
  induction s generalizing k m with
  | nil => simp [ps]
  | cons b t ih =>
    cases k with
    | succ k => rw [ps]; exact ih k m
    | zero =>
      rw [ps]
      split
      · simp
      · split <;> simp
theorem ps_skip (p : List UInt8) (m : Nat) (s : List UInt8) (k : Nat) : ps p k m s = ps p 0 m (s.drop k) := by
  induction s generalizing k with
  | nil => cases k <;> simp [ps]
  | cons b t ih =>
    cases k with
    | zero => rfl
    | succ k => rw [ps, ih, List.drop_succ_cons]
theorem ps_nil (p : List UInt8) (m : Nat) : ps p 0 m [] = [[]] := rfl
theorem ps_hit {p s : List UInt8} {m : Nat} (h0 : p ≠ []) (hm : 0 < m) (t : List UInt8) (hs : s = p ++ t) : ps p 0 m s = [] :: ps p 0 (m - 1) t := by
  cases s with
  | nil => cases p with
    | nil => exact absurd rfl h0
    | cons _ _ => cases hs
  | cons b u =>
    rw [ps, if_pos ⟨hm, by rw [hs]; exact List.prefix_append p t⟩, ps_skip]
    have hl : 0 < p.length := List.length_pos_iff.2 h0
    have : u.drop (p.length - 1) = (b :: u).drop p.length := by
      rw [show p.length = p.length - 1 + 1 by omega, List.drop_succ_cons]; rfl
    rw [this, hs, List.drop_left]
theorem ps_miss {p : List UInt8} {m : Nat} {b : UInt8} {t : List UInt8} (h : ¬ (0 < m ∧ p <+: b :: t)) : ∃ x q, ps p 0 m t = x :: q ∧ ps p 0 m (b :: t) = (b :: x) :: q := by
  rw [ps, if_neg h]
  cases hp : ps p 0 m t with
  | nil => exact absurd hp (ps_ne p 0 m t)
  | cons x q => exact ⟨x, q, rfl, rfl⟩
/-- Where p stands first, or that it stands nowhere. -/
theorem ps_first {p : List UInt8} (h0 : p ≠ []) (m : Nat) (s : List UInt8) :
    (ps p 0 m s = [s] ∧ (m = 0 ∨ ∀ x, ¬ p <+: s.drop x)) ∨
    (0 < m ∧ ∃ a t, s = a ++ (p ++ t) ∧ (∀ x, x < a.length → ¬ p <+: s.drop x) ∧ ps p 0 m s = a :: ps p 0 (m - 1) t) := by
  induction s with
  | nil =>
    left
    refine ⟨rfl, .inr fun x h => h0 ?_⟩
    rw [List.drop_nil] at h
    exact List.prefix_nil.1 h
  | cons b t ih =>
    by_cases h : 0 < m ∧ p <+: b :: t
    · obtain ⟨hm, u, hu⟩ := h
      exact .inr ⟨hm, [], u, hu.symm, fun x hx => absurd hx (Nat.not_lt_zero x), ps_hit h0 hm u hu.symm⟩
    · obtain ⟨x, q, e1, e2⟩ := ps_miss h
      rcases ih with ⟨e3, e4⟩ | ⟨hm, a, u, e3, e4, e5⟩
      · rw [e3] at e1
        injection e1 with e5 e6
        subst e5 e6
        refine .inl ⟨e2, ?_⟩
        by_cases hm : m = 0
        · exact .inl hm
        · right
          intro y
          cases y with
          | zero => exact fun hp => h ⟨by omega, hp⟩
          | succ y => rw [List.drop_succ_cons]; exact e4.resolve_left hm y
      · rw [e5] at e1
        injection e1 with e6 e7
        subst e6 e7
        refine .inr ⟨hm, b :: a, u, by rw [e3]; rfl, ?_, e2⟩
        intro y hy
        cases y with
        | zero => exact fun hp => h ⟨hm, hp⟩
        | succ y =>
          rw [List.drop_succ_cons]
          exact e4 y (by rw [List.length_cons] at hy; omega)
theorem ps_zero (p s : List UInt8) : ps p 0 0 s = [s] := by
  induction s with
  | nil => rfl
  | cons b t ih =>
    obtain ⟨x, q, e1, e2⟩ := ps_miss (p := p) (m := 0) (b := b) (t := t) (by simp)
    rw [ih] at e1
    injection e1 with e3 e4
    rw [e2, ← e3, ← e4]
/-- By the first place of p, on to the next. -/
theorem ps_rec {p : List UInt8} (h0 : p ≠ []) {P : Nat → List UInt8 → List (List UInt8) → Prop}
    (base : ∀ m s, (m = 0 ∨ ∀ x, ¬ p <+: s.drop x) → P m s [s])
    (step : ∀ m a t, (∀ x, x < a.length → ¬ p <+: (a ++ (p ++ t)).drop x) → P m t (ps p 0 m t) → P (m + 1) (a ++ (p ++ t)) (a :: ps p 0 m t)) :
    ∀ m s, P m s (ps p 0 m s) := by
  intro m
  induction m with
  | zero => intro s; rw [ps_zero]; exact base 0 s (.inl rfl)
  | succ m ih =>
    intro s
    rcases ps_first h0 (m + 1) s with ⟨e, h⟩ | ⟨_, a, t, e, h, e2⟩
    · rw [e]; exact base _ s h
    · rw [e2, e]; exact step m a t (by rw [← e]; exact h) (ih t)
/-- The line, of its pieces. -/
theorem ps_join {p : List UInt8} (h0 : p ≠ []) (m : Nat) (s : List UInt8) : jn p (ps p 0 m s) = s := by
  refine ps_rec h0 (P := fun _ s q => jn p q = s) (fun m s _ => jn_one p s) (fun m a t _ h => ?_) m s
  rw [jn_cons p a (ps_ne p 0 m t), h]
theorem jn_len (r : List UInt8) (q : List (List UInt8)) : (jn r q).length = q.flatten.length + (q.length - 1) * r.length := by
  cases q with
  | nil => simp [jn]
  | cons x q =>
    rw [jn, List.length_append, List.flatten_cons, List.length_append, List.length_cons, Nat.add_sub_cancel]
    have : (q.flatMap (r ++ ·)).length = q.flatten.length + q.length * r.length := by
      induction q with
      | nil => simp
      | cons y q ih => rw [List.flatMap_cons, List.length_append, ih, List.length_append, List.flatten_cons, List.length_append, List.length_cons, Nat.succ_mul]; omega
    omega
/-- A line with r in p's place is longer by that. -/
theorem sw_len {p : List UInt8} (h0 : p ≠ []) (r : List UInt8) (m : Nat) (s : List UInt8) : (jn r (ps p 0 m s)).length + ((ps p 0 m s).length - 1) * p.length = s.length + ((ps p 0 m s).length - 1) * r.length := by
  have h := congrArg List.length (ps_join h0 m s)
  rw [jn_len] at h
  rw [jn_len]
  omega
theorem jn_mem {r : List UInt8} {q : List (List UInt8)} {b : UInt8} : b ∈ jn r q → (∃ x ∈ q, b ∈ x) ∨ b ∈ r := by
  cases q with
  | nil => intro h; cases h
  | cons x q =>
    rw [jn, List.mem_append, List.mem_flatMap]
    rintro (h | ⟨y, hy, h⟩)
    · exact .inl ⟨x, by simp, h⟩
    · rw [List.mem_append] at h
      rcases h with h | h
      · exact .inr h
      · exact .inl ⟨y, by simp [hy], h⟩
theorem mem_jn {r x : List UInt8} {q : List (List UInt8)} {b : UInt8} (hx : x ∈ q) (hb : b ∈ x) : b ∈ jn r q := by
  cases q with
  | nil => cases hx
  | cons y q =>
    rw [jn, List.mem_append, List.mem_flatMap]
    rcases List.mem_cons.1 hx with rfl | h
    · exact .inl hb
    · exact .inr ⟨x, h, by simp [hb]⟩
theorem sw_free {p r : List UInt8} (h0 : p ≠ []) (m : Nat) {s : List UInt8} (hs : Free s) (hr : Free r) : Free (jn r (ps p 0 m s)) := by
  intro h
  rcases jn_mem h with ⟨x, hx, hb⟩ | h
  · have := mem_jn (r := p) hx hb
    rw [ps_join h0] at this
    exact hs this
  · exact hr h
/-- Pieces of a valid line are valid. -/
theorem ps_valid {p : List UInt8} (h0 : p ≠ []) (hp : valid p = true) (m : Nat) (s : List UInt8) (hs : valid s = true) : ∀ x ∈ ps p 0 m s, valid x = true := by
  refine ps_rec h0 (P := fun _ s q => valid s = true → ∀ x ∈ q, valid x = true) (fun m s _ h x hx => ?_) (fun m a t _ ih h x hx => ?_) m s hs
  · rw [List.mem_singleton] at hx; rw [hx]; exact h
  · obtain ⟨rs, hd⟩ := Utf.valid_of h
    obtain ⟨i, hi, he⟩ := Look.at_place hd hp h0 (x := a.length) (by rw [Look.at_, List.drop_left]; exact decide_eq_true (List.prefix_append p t))
    have hpl : place (a ++ (p ++ t)) (a.length : Int) = true := by rw [← he]; exact Utf.place_at hd (Nat.le_of_lt hi)
    obtain ⟨v1, v2⟩ := place_two hpl
    rw [List.take_left] at v1
    rw [List.drop_left, valid_all _ hp] at v2
    rcases List.mem_cons.1 hx with rfl | hx
    · exact v1
    · exact ih v2 x hx
theorem jn_valid {r : List UInt8} (hr : valid r = true) {q : List (List UInt8)} (h : ∀ x ∈ q, valid x = true) : valid (jn r q) = true := by
  cases q with
  | nil => exact valid_nil
  | cons x q =>
    rw [jn, valid_all _ (h x (by simp))]
    have h2 : ∀ y ∈ q, valid y = true := fun y hy => h y (by simp [hy])
    clear h
    induction q with
    | nil => exact valid_nil
    | cons y q ih => rw [List.flatMap_cons, List.append_assoc, valid_all _ hr, valid_all _ (h2 y (by simp))]; exact ih fun z hz => h2 z (by simp [hz])
theorem sw_valid {p r : List UInt8} (h0 : p ≠ []) (hp : valid p = true) (hr : valid r = true) (m : Nat) {s : List UInt8} (hs : valid s = true) : valid (jn r (ps p 0 m s)) = true := jn_valid hr (ps_valid h0 hp m s hs)
/-- No more than a line has bytes. -/
theorem ps_few {p : List UInt8} (h0 : p ≠ []) (m : Nat) (s : List UInt8) : (ps p 0 m s).length - 1 ≤ s.length ∧ (ps p 0 m s).length - 1 ≤ m := by
  have hl : 0 < p.length := List.length_pos_iff.2 h0
  refine ps_rec h0 (P := fun m s q => q.length - 1 ≤ s.length ∧ q.length - 1 ≤ m) (fun m s _ => by simp) (fun m a t _ h => ?_) m s
  rw [List.length_append, List.length_append, List.length_cons]
  have := List.length_pos_iff.2 (ps_ne p 0 m t)
  omega
/-- As often as it may be is as often as there are bytes. -/
theorem ps_more {p : List UInt8} (h0 : p ≠ []) {m n : Nat} {s : List UInt8} (hm : s.length ≤ m) (hn : s.length ≤ n) : ps p 0 m s = ps p 0 n s := by
  have hl : 0 < p.length := List.length_pos_iff.2 h0
  induction m generalizing n s with
  | zero =>
    obtain rfl : s = [] := List.length_eq_zero_iff.1 (by omega)
    rfl
  | succ m ih =>
    cases n with
    | zero =>
      obtain rfl : s = [] := List.length_eq_zero_iff.1 (by omega)
      rfl
    | succ n =>
      rcases ps_first h0 (m + 1) s with ⟨e, h⟩ | ⟨_, a, t, e, h, e2⟩
      · rcases ps_first h0 (n + 1) s with ⟨e3, _⟩ | ⟨_, a, t, e3, _, _⟩
        · rw [e, e3]
        · refine absurd ?_ (h.resolve_left (by omega) a.length)
          rw [e3, List.drop_left]
          exact List.prefix_append p t
      · rcases ps_first h0 (n + 1) s with ⟨e3, h3⟩ | ⟨_, a', t', e3, h3, e4⟩
        · refine absurd ?_ (h3.resolve_left (by omega) a.length)
          rw [e, List.drop_left]
          exact List.prefix_append p t
        · have hal : a.length = a'.length := by
            rcases Nat.lt_trichotomy a.length a'.length with hh | hh | hh
            · refine absurd ?_ (h3 _ hh)
              rw [e, List.drop_left]; exact List.prefix_append p t
            · exact hh
            · refine absurd ?_ (h _ hh)
              rw [e3, List.drop_left]; exact List.prefix_append p t'
          obtain ⟨rfl, e5⟩ := List.append_inj (e.symm.trans e3) hal
          obtain rfl := List.append_cancel_left e5
          rw [e2, e4]
          congr 1
          have := congrArg List.length e
          simp only [List.length_append] at this
          exact ih (by omega) (by omega)
/-- How the document's answer goes: the line, and how often. -/
def one (p r : List UInt8) (m : Nat) (s : List UInt8) : List UInt8 × Nat := (jn r (ps p 0 m s), (ps p 0 m s).length - 1)
theorem one_nil (p r : List UInt8) (m : Nat) : one p r m [] = ([], 0) := by simp [one, ps_nil, jn_one]
theorem one_hit {p : List UInt8} (r : List UInt8) {m : Nat} (h0 : p ≠ []) (hm : 0 < m) (t : List UInt8) : one p r m (p ++ t) = (r ++ (one p r (m - 1) t).1, (one p r (m - 1) t).2 + 1) := by
  have := List.length_pos_iff.2 (ps_ne p 0 (m - 1) t)
  rw [one, ps_hit h0 hm t rfl, jn_cons r [] (ps_ne p 0 (m - 1) t), List.nil_append, one, List.length_cons]
  congr 1
  omega
theorem one_miss {p : List UInt8} (r : List UInt8) {m : Nat} {b : UInt8} {t : List UInt8} (h : ¬ (0 < m ∧ p <+: b :: t)) : one p r m (b :: t) = (b :: (one p r m t).1, (one p r m t).2) := by
  obtain ⟨x, q, e1, e2⟩ := ps_miss h
  rw [one, one, e1, e2]
  simp [jn]
/-- What is put in the place of one sign, where it stood nowhere, is put back. -/
theorem back_one {x y : UInt8} (m : Nat) {s : List UInt8} (hs : y ∉ s) {n : Nat} (hn : s.length ≤ n) : ps [y] 0 n (jn [y] (ps [x] 0 m s)) = ps [x] 0 m s := by
  have hno : ∀ u : List UInt8, y ∉ u → ∀ k, ¬ [y] <+: u.drop k := by
    intro u hu k ⟨w, hw⟩
    exact hu (List.mem_of_mem_drop (i := k) (by rw [← hw]; simp))
  have hlone : ∀ (n : Nat) (u : List UInt8), y ∉ u → ps [y] 0 n u = [u] := by
    intro n u hu
    rcases ps_first (p := [y]) (by simp) n u with ⟨e, _⟩ | ⟨_, a, t, e, _, _⟩
    · exact e
    · exact absurd (by rw [e]; simp) hu
  refine ps_rec (p := [x]) (by simp) (P := fun _ s q => y ∉ s → ∀ n, s.length ≤ n → ps [y] 0 n (jn [y] q) = q) (fun m s _ h n _ => by rw [jn_one]; exact hlone n s h) (fun m a t _ ih h n hn => ?_) m s hs n hn
  have ha : y ∉ a := fun h' => h (by simp [h'])
  have ht : y ∉ t := fun h' => h (by simp [h'])
  simp only [List.length_append, List.length_cons, List.length_nil] at hn
  rw [jn_cons _ _ (ps_ne [x] 0 m t)]
  rcases ps_first (p := [y]) (by simp) n (a ++ ([y] ++ jn [y] (ps [x] 0 m t))) with ⟨_, h2⟩ | ⟨_, a', t', e, h2, e2⟩
  · refine absurd ?_ (h2.resolve_left (by omega) a.length)
    rw [List.drop_left]
    exact List.prefix_append _ _
  · have hal : a.length = a'.length := by
      rcases Nat.lt_trichotomy a.length a'.length with hh | hh | hh
      · refine absurd ?_ (h2 _ hh)
        rw [List.drop_left]; exact List.prefix_append _ _
      · exact hh
      · exfalso
        apply ha
        have : (a ++ ([y] ++ jn [y] (ps [x] 0 m t)))[a'.length]? = some y := by rw [e, List.getElem?_append_right (Nat.le_refl _)]; simp
        rw [List.getElem?_append_left hh] at this
        exact List.mem_of_getElem? this
    obtain ⟨rfl, e5⟩ := List.append_inj e hal
    obtain rfl := List.append_cancel_left e5
    rw [e2, ih ht (n - 1) (by omega)]
/-- Of the lines of a text, those from a to b with r in p's place. -/
def rows (p r : List UInt8) (m a b : Nat) (R : List (List UInt8)) : List (List UInt8) := R.take a ++ (((R.drop a).take (b + 1 - a)).map (fun l => jn r (ps p 0 m l)) ++ R.drop (b + 1))
def mids (a b : Nat) (R : List (List UInt8)) : List (List UInt8) := (R.drop a).take (b + 1 - a)
/-- How often p stands in lines. -/
def cnt (p : List UInt8) (m : Nat) (Q : List (List UInt8)) : Nat := (Q.map fun l => (ps p 0 m l).length - 1).sum
/-- The last of lines in which p stands, the first of them line k; else z. -/
def lst (p : List UInt8) (m : Nat) : Int → Int → List (List UInt8) → Int
  | _, z, [] => z
  | k, z, x :: q => lst p m (k + 1) (if 0 < (ps p 0 m x).length - 1 then k else z) q
theorem lst_none {p : List UInt8} {m : Nat} {Q : List (List UInt8)} (h : cnt p m Q = 0) : ∀ k z, lst p m k z Q = z := by
  induction Q with
  | nil => intro k z; rfl
  | cons x q ih =>
    intro k z
    rw [cnt, List.map_cons, List.sum_cons] at h
    rw [lst, if_neg (by omega)]
    exact ih (by rw [cnt]; omega) _ _
theorem lst_some {p : List UInt8} {m : Nat} : ∀ {Q : List (List UInt8)} (k z : Int), (lst p m k z Q = z ∧ cnt p m Q = 0) ∨ (k ≤ lst p m k z Q ∧ lst p m k z Q < k + Q.length ∧ 0 < cnt p m Q) := by
  intro Q
  induction Q with
  | nil => intro k z; exact .inl ⟨rfl, rfl⟩
  | cons x q ih =>
    intro k z
    rw [lst, cnt, List.map_cons, List.sum_cons, List.length_cons]
    by_cases h : 0 < (ps p 0 m x).length - 1
    · rw [if_pos h]
      rcases ih (k + 1) k with ⟨e, _⟩ | ⟨h1, h2, _⟩
      · right; rw [e]; omega
      · right; omega
    · rw [if_neg h]
      rcases ih (k + 1) z with ⟨e, h1⟩ | ⟨h1, h2, h3⟩
      · left; exact ⟨e, by rw [cnt] at h1; omega⟩
      · right; rw [cnt] at h3; omega
theorem rows_split {a b : Nat} {R : List (List UInt8)} (hab : a ≤ b) : R = R.take a ++ (mids a b R ++ R.drop (b + 1)) := by
  rw [mids]
  conv => lhs; rw [← List.take_append_drop a R, ← List.take_append_drop (b + 1 - a) (R.drop a), List.drop_drop, show a + (b + 1 - a) = b + 1 by omega]
theorem rows_length (p r : List UInt8) (m : Nat) {a b : Nat} (hab : a ≤ b) (R : List (List UInt8)) : (rows p r m a b R).length = R.length := by
  have := congrArg List.length (rows_split (R := R) hab)
  simp only [List.length_append, mids] at this
  rw [rows, List.length_append, List.length_append, List.length_map]
  omega
theorem rows_get {p r : List UInt8} {m a b : Nat} {R : List (List UInt8)} (hab : a ≤ b) {k : Nat} (h : k < a ∨ b < k) : (rows p r m a b R)[k]? = R[k]? := by
  by_cases hb : b < R.length
  · conv => rhs; rw [rows_split (R := R) hab]
    rw [rows, mids]
    rcases h with h | h
    · rw [List.getElem?_append_left (by rw [List.length_take]; omega), List.getElem?_append_left (by rw [List.length_take]; omega)]
    · have h1 : (R.take a).length = a := by rw [List.length_take]; omega
      have h2 : ((R.drop a).take (b + 1 - a)).length = b + 1 - a := by rw [List.length_take, List.length_drop]; omega
      rw [List.getElem?_append_right (by omega), List.getElem?_append_right (by rw [List.length_map]; omega), List.getElem?_append_right (by omega), List.getElem?_append_right (by omega), List.length_map]
  · rcases h with h | h
    · rw [rows]
      by_cases hk : k < R.length
      · rw [List.getElem?_append_left (by rw [List.length_take]; omega), List.getElem?_take_of_lt h]
      · have := rows_length p r m hab R
        rw [rows] at this
        rw [List.getElem?_eq_none (by omega), List.getElem?_eq_none (by omega)]
    · rw [List.getElem?_eq_none (by rw [rows_length p r m hab]; omega), List.getElem?_eq_none (by omega)]
theorem rows_all {P : List UInt8 → Prop} {p r : List UInt8} {m a b : Nat} {R : List (List UInt8)} (h : ∀ x ∈ R, P x) (hs : ∀ x, P x → P (jn r (ps p 0 m x))) : ∀ x ∈ rows p r m a b R, P x := by
  intro x hx
  rw [rows, List.mem_append, List.mem_append, List.mem_map] at hx
  rcases hx with hx | ⟨y, hy, rfl⟩ | hx
  · exact h x (List.mem_of_mem_take hx)
  · exact hs y (h y (List.mem_of_mem_drop (List.mem_of_mem_take hy)))
  · exact h x (List.mem_of_mem_drop hx)
theorem rows_free {p r : List UInt8} (h0 : p ≠ []) (hr : Free r) (m a b : Nat) (s : List UInt8) : ∀ x ∈ rows p r m a b (parts s), Free x := rows_all (parts_free s) fun _ hx => sw_free h0 m hx hr
theorem rows_valid {p r : List UInt8} (h0 : p ≠ []) (hp : valid p = true) (hr : valid r = true) (m a b : Nat) {s : List UInt8} (hs : valid s = true) : ∀ x ∈ rows p r m a b (parts s), valid x = true := rows_all (valid_part hs) fun _ hx => sw_valid h0 hp hr m hx
/-- The lines of what a text becomes. -/
theorem rows_parts {p r : List UInt8} (h0 : p ≠ []) (hr : Free r) (m : Nat) {a b : Nat} (hab : a ≤ b) (s : List UInt8) : parts (glue (rows p r m a b (parts s))) = rows p r m a b (parts s) := by
  refine parts_glue (fun e => ?_) (rows_free h0 hr m a b s)
  have := congrArg List.length e
  rw [rows_length p r m hab, List.length_nil] at this
  exact parts_ne s (List.length_eq_zero_iff.1 this)
theorem glue_len {R : List (List UInt8)} (h : R ≠ []) : (glue R).length + 1 = R.flatten.length + R.length := by
  cases R with
  | nil => exact absurd rfl h
  | cons x q =>
    rw [glue_cons, List.length_append, List.flatten_cons, List.length_append, List.length_cons]
    have : (aft q).length = q.flatten.length + q.length := by
      induction q with
      | nil => rfl
      | cons y q ih => rw [aft_cons, List.length_cons, List.length_append, ih (by simp), List.flatten_cons, List.length_append, List.length_cons]; omega
    omega
theorem mids_len {p : List UInt8} (h0 : p ≠ []) (r : List UInt8) (m : Nat) (Q : List (List UInt8)) : (Q.map (fun l => jn r (ps p 0 m l))).flatten.length + cnt p m Q * p.length = Q.flatten.length + cnt p m Q * r.length := by
  induction Q with
  | nil => simp [cnt]
  | cons x q ih =>
    have := sw_len h0 r m x
    rw [List.map_cons, List.flatten_cons, List.flatten_cons, List.length_append, List.length_append, cnt, List.map_cons, List.sum_cons, Nat.add_mul, Nat.add_mul]
    rw [cnt] at ih
    omega
/-- A text is longer by what was put in, as often as it stood there. -/
theorem rows_len {p : List UInt8} (h0 : p ≠ []) (r : List UInt8) (m : Nat) {a b : Nat} (hab : a ≤ b) (s : List UInt8) :
    (glue (rows p r m a b (parts s))).length + cnt p m (mids a b (parts s)) * p.length = s.length + cnt p m (mids a b (parts s)) * r.length := by
  have hne : rows p r m a b (parts s) ≠ [] := fun e => by
    have := congrArg List.length e
    rw [rows_length p r m hab, List.length_nil] at this
    exact parts_ne s (List.length_eq_zero_iff.1 this)
  have h1 := glue_len hne
  have h2 := glue_len (parts_ne s)
  rw [glue_parts] at h2
  rw [rows_length p r m hab] at h1
  have h3 := mids_len h0 r m (mids a b (parts s))
  have h4 := congrArg (fun R : List (List UInt8) => R.flatten.length) (rows_split (R := parts s) hab)
  simp only [List.flatten_append, List.length_append] at h4
  rw [rows, List.flatten_append, List.flatten_append, List.length_append, List.length_append] at h1
  rw [rows]
  rw [mids] at *
  omega
/-- Of a line of a text: where it stands, and what. -/
theorem row_seg {s : List UInt8} {k : Nat} {x : Nat × Nat} (h : (L s)[k]? = some x) : ∃ r, (parts s)[k]? = some r ∧ Line.seg s x.1 x.2 = r := by
  obtain ⟨r, hr, h1, h2⟩ := L_of h
  refine ⟨r, hr, ?_⟩
  obtain ⟨A, B, C, e1, e2, e3, e4, e5, e6, e7⟩ := three (Nat.le_refl k) h h
  have hB : B = [r] := by
    have e : (parts s)[k]? = B[0]? := by
      have hl : 0 < B.length := List.length_pos_iff.2 e2
      rw [e1, List.getElem?_append_right (by omega), e3, Nat.sub_self, List.getElem?_append_left hl]
    rw [hr] at e
    match B, e4, e with
    | [b], _, e => simp at e; rw [e]
    | [], h, _ => exact absurd rfl e2
    | b :: c :: r, h, _ => simp at h
  rw [Line.seg, take_of (A := fore A ++ glue B) (M := aft C) (by rw [List.append_assoc]; exact e5) (by rw [List.length_append]; exact e7), drop_of rfl e6, hB, glue_one]
/-- Are there lines a to b? -/
def there (s : List UInt8) (a b : Int) : Prop := 0 ≤ a ∧ a ≤ b ∧ b < (L s).length
instance (s : List UInt8) (a b : Int) : Decidable (there s a b) := inferInstanceAs (Decidable (_ ∧ _))
/-- May it stand in a line? -/
def plain (p : List UInt8) : Prop := valid p = true ∧ (10 : UInt8) ∉ p
instance (p : List UInt8) : Decidable (plain p) := inferInstanceAs (Decidable (_ ∧ _))
def range (s : List UInt8) (a b : Int) : Int × Int × Bool := if there s a b then (Line.start s a, Line.stop s b, true) else (0, 0, false)
def count (s : List UInt8) (a b : Int) (p : List UInt8) : Nat := if there s a b ∧ p ≠ [] ∧ plain p then cnt p s.length (mids a.toNat b.toNat (parts s)) else 0
def most (s : List UInt8) (all : Bool) : Nat := if all then s.length else 1
/-- The text, the last line in which something was put, the error. -/
def swap (s : List UInt8) (a b : Int) (p r : List UInt8) (all : Bool) : List UInt8 × Int × Int :=
  if there s a b ∧ p ≠ [] ∧ plain p ∧ plain r then
    if cnt p (most s all) (mids a.toNat b.toNat (parts s)) = 0 then ([], 0, 7)
    else if 4096 < (glue (rows p r (most s all) a.toNat b.toNat (parts s))).length then ([], 0, 8)
    else (glue (rows p r (most s all) a.toNat b.toNat (parts s)),
      Line.first (glue (rows p r (most s all) a.toNat b.toNat (parts s))) (lst p (most s all) a (-1) (mids a.toNat b.toNat (parts s))), 0)
  else ([], 0, 1)
theorem there_valid {s : List UInt8} {a b : Int} (h : there s a b) : valid s = true := by
  obtain ⟨h1, h2, h3⟩ := h
  have : b.toNat < (L s).length := by omega
  exact Line.L_valid (List.getElem?_eq_getElem this)
/-- What must be so where there is no error. -/
structure Fine (s : List UInt8) (a b : Nat) (p r : List UInt8) (m : Nat) (t : List UInt8) (f : Int) : Prop where
  le : a ≤ b
  lt : b < (L s).length
  vs : valid s = true
  p0 : p ≠ []
  pp : plain p
  pr : plain r
  text : t = glue (rows p r m a b (parts s))
  hit : 0 < cnt p m (mids a b (parts s))
  at_ : f = Line.first t (lst p m a (-1) (mids a b (parts s)))
theorem swap_fine {s : List UInt8} {a b : Int} {p r : List UInt8} {all : Bool} {t : List UInt8} {f : Int} (h : swap s a b p r all = (t, f, 0)) :
    ∃ i j : Nat, a = i ∧ b = j ∧ Fine s i j p r (most s all) t f := by
  unfold swap at h
  split at h
  · rename_i hc
    obtain ⟨ht, h0, hp, hr⟩ := hc
    have hv := there_valid ht
    obtain ⟨h1, h2, h3⟩ := ht
    split at h
    · injection h with _ h; injection h with _ h; cases h
    split at h
    · injection h with _ h; injection h with _ h; cases h
    rename_i hk _
    injection h with e1 h
    injection h with e2 _
    refine ⟨a.toNat, b.toNat, by omega, by omega, by omega, by omega, hv, h0, hp, hr, e1.symm, by omega, ?_⟩
    rw [← e2, ← e1, show ((a.toNat : Nat) : Int) = a by omega]
  · injection h with _ h; injection h with _ h; cases h
theorem mids_length {s : List UInt8} {a b : Nat} (hab : a ≤ b) (hb : b < (parts s).length) : (mids a b (parts s)).length = b + 1 - a := by
  rw [mids, List.length_take, List.length_drop]; omega
theorem Fine.valid {s p r t : List UInt8} {a b m : Nat} {f : Int} (F : Fine s a b p r m t f) : Utf.valid t = true := by
  rw [F.text]; exact valid_glue (rows_valid F.p0 F.pp.1 F.pr.1 m a b F.vs)
theorem Fine.parts {s p r t : List UInt8} {a b m : Nat} {f : Int} (F : Fine s a b p r m t f) : parts t = rows p r m a b (parts s) := by
  rw [F.text]; exact rows_parts F.p0 F.pr.2 m F.le s
/-- There are as many lines as before. -/
theorem Fine.count {s p r t : List UInt8} {a b m : Nat} {f : Int} (F : Fine s a b p r m t f) : (L t).length = (L s).length := by
  rw [L_len F.valid, L_len F.vs, F.parts, rows_length p r m F.le]
/-- Those that were not meant are as before. -/
theorem Fine.other {s p r t : List UInt8} {a b m : Nat} {f : Int} (F : Fine s a b p r m t f) {k : Nat} (hk : k < a ∨ b < k) {x : Nat × Nat} (h : (L s)[k]? = some x) :
    ∃ y, (L t)[k]? = some y ∧ Line.seg t y.1 y.2 = Line.seg s x.1 x.2 := by
  have hlt : k < (L t).length := by rw [F.count]; exact (List.getElem?_eq_some_iff.1 h).1
  have hy := List.getElem?_eq_getElem hlt
  refine ⟨_, hy, ?_⟩
  obtain ⟨r1, e1, e2⟩ := row_seg h
  obtain ⟨r2, e3, e4⟩ := row_seg hy
  rw [F.parts, rows_get F.le hk, e1] at e3
  injection e3 with e3
  rw [e2, e4, e3]
theorem Fine.len {s p r t : List UInt8} {a b m : Nat} {f : Int} (F : Fine s a b p r m t f) : t.length + cnt p m (mids a b (Ix.parts s)) * p.length = s.length + cnt p m (mids a b (Ix.parts s)) * r.length := by
  rw [F.text]; exact rows_len F.p0 r m F.le s
/-- Where it is then, is a place in one of the lines. -/
theorem Fine.place {s p r t : List UInt8} {a b m : Nat} {f : Int} (F : Fine s a b p r m t f) : Line.normal t f = true ∧ (a : Int) ≤ Line.of_ t f ∧ Line.of_ t f ≤ b := by
  have hl := mids_length F.le (s := s) (by rw [← L_len F.vs]; exact F.lt)
  rcases lst_some (p := p) (m := m) (Q := mids a b (Ix.parts s)) a (-1) with ⟨_, e⟩ | ⟨h1, h2, _⟩
  · have := F.hit; omega
  · rw [hl] at h2
    obtain ⟨k, hk⟩ : ∃ k : Nat, lst p m a (-1) (mids a b (Ix.parts s)) = k := ⟨(lst p m a (-1) (mids a b (Ix.parts s))).toNat, by omega⟩
    rw [hk] at h1 h2
    have hkl : k < (L t).length := by rw [F.count]; have := F.le; have := F.lt; omega
    obtain ⟨c, e1, e2, e3, e4⟩ := Line.first_ok (List.getElem?_eq_getElem hkl)
    have hf := F.at_
    rw [hk, e1] at hf
    subst hf
    rw [Line.of_at (List.getElem?_eq_getElem hkl) e3 e4]
    exact ⟨e2, h1, by have := F.le; omega⟩
theorem cnt_zero {p : List UInt8} {m : Nat} {Q : List (List UInt8)} : cnt p m Q = 0 ↔ ∀ x ∈ Q, (ps p 0 m x).length - 1 = 0 := by
  rw [cnt, List.sum_eq_zero_iff_forall_eq_nat]
  simp
theorem row_len {s x : List UInt8} (h : x ∈ parts s) : x.length ≤ s.length := by
  have h1 := glue_len (Ix.parts_pos s |> List.length_pos_iff.1)
  rw [glue_parts] at h1
  have h2 : x.length ≤ (parts s).flatten.length := by
    exact (List.sublist_flatten_of_mem h).length_le
  have := Ix.parts_pos s
  omega
/-- No sign, or a sign somewhere. -/
theorem ps_sign {y : UInt8} {n : Nat} (hn : 0 < n) {s : List UInt8} : (ps [y] 0 n s).length - 1 = 0 ↔ y ∉ s := by
  rcases ps_first (p := [y]) (by simp) n s with ⟨e, h⟩ | ⟨_, a, t, e, _, e2⟩
  · rw [e]
    refine ⟨fun _ hy => ?_, fun _ => rfl⟩
    obtain ⟨u, v, rfl⟩ := List.append_of_mem hy
    refine h.resolve_left (by omega) u.length ?_
    rw [List.drop_left]
    exact ⟨v, rfl⟩
  · rw [e2]
    have := List.length_pos_iff.2 (ps_ne [y] 0 (n - 1) t)
    refine ⟨fun h => ?_, fun h => absurd (by rw [e]; simp) h⟩
    rw [List.length_cons] at h; omega
theorem take_of' {s A M : List (List UInt8)} {n : Nat} (h : s = A ++ M) (hn : n = A.length) : s.take n = A := by rw [h, hn, List.take_left]
theorem drop_of' {s A M : List (List UInt8)} {n : Nat} (h : s = A ++ M) (hn : n = A.length) : s.drop n = M := by rw [h, hn, List.drop_left]
theorem rows_back {x y : UInt8} {m n a b : Nat} (hab : a ≤ b) {R : List (List UInt8)} (hb : b < R.length) (hy : ∀ l ∈ mids a b R, y ∉ l) (hn : ∀ l ∈ mids a b R, l.length ≤ n) :
    mids a b (rows [x] [y] m a b R) = (mids a b R).map (fun l => jn [y] (ps [x] 0 m l)) ∧ rows [y] [x] n a b (rows [x] [y] m a b R) = R := by
  have h1 : (R.take a).length = a := by rw [List.length_take]; omega
  have h2 : (mids a b R).length = b + 1 - a := by rw [mids, List.length_take, List.length_drop]; omega
  have e0 : rows [x] [y] m a b R = R.take a ++ ((mids a b R).map (fun l => jn [y] (ps [x] 0 m l)) ++ R.drop (b + 1)) := rfl
  have e1 : mids a b (rows [x] [y] m a b R) = (mids a b R).map (fun l => jn [y] (ps [x] 0 m l)) := by
    rw [e0, mids, drop_of' rfl h1.symm, take_of' rfl (by rw [List.length_map]; exact h2.symm)]
  refine ⟨e1, ?_⟩
  have e2 : (rows [x] [y] m a b R).take a = R.take a := by rw [e0, take_of' rfl h1.symm]
  have e3 : (rows [x] [y] m a b R).drop (b + 1) = R.drop (b + 1) := by
    rw [e0, ← List.append_assoc, drop_of' rfl (by rw [List.length_append, List.length_map]; omega)]
  have e4 : rows [y] [x] n a b (rows [x] [y] m a b R) = (rows [x] [y] m a b R).take a ++ ((mids a b (rows [x] [y] m a b R)).map (fun l => jn [x] (ps [y] 0 n l)) ++ (rows [x] [y] m a b R).drop (b + 1)) := rfl
  rw [e4, e1, e2, e3, List.map_map]
  conv => rhs; rw [rows_split (R := R) hab]
  congr 2
  conv => rhs; rw [← List.map_id (mids a b R)]
  refine List.map_congr_left fun l hl => ?_
  show jn [x] (ps [y] 0 n (jn [y] (ps [x] 0 m l))) = l
  rw [back_one m (hy l hl) (hn l hl), ps_join (by simp)]
theorem plain_sign {b : UInt8} (h : b.toNat < 128) (h10 : b ≠ 10) : plain [b] := ⟨by rw [valid_ascii [] h]; exact valid_nil, by simp [h10.symm]⟩
/-- Where it has an error, nothing is told beside it. -/
theorem swap_err {s : List UInt8} {a b : Int} {p r : List UInt8} {all : Bool} {t : List UInt8} {f e : Int} (h : swap s a b p r all = (t, f, e)) (he : e ≠ 0) :
    t = [] ∧ f = 0 ∧ (e = 1 ∨ (e = 7 ∧ cnt p (most s all) (mids a.toNat b.toNat (parts s)) = 0) ∨ (e = 8 ∧ there s a b ∧ p ≠ [] ∧ plain p ∧ plain r ∧ 4096 < (glue (rows p r (most s all) a.toNat b.toNat (parts s))).length)) := by
  unfold swap at h
  split at h
  · rename_i hc
    split at h
    · rename_i h0
      injection h with e1 h; injection h with e2 e3
      subst e1 e2 e3
      exact ⟨rfl, rfl, .inr (.inl ⟨rfl, h0⟩)⟩
    split at h
    · rename_i h0
      injection h with e1 h; injection h with e2 e3
      subst e1 e2 e3
      exact ⟨rfl, rfl, .inr (.inr ⟨rfl, hc.1, hc.2.1, hc.2.2.1, hc.2.2.2, h0⟩)⟩
    · injection h with e1 h; injection h with e2 e3
      exact absurd e3.symm he
  · injection h with e1 h; injection h with e2 e3
    subst e1 e2 e3
    exact ⟨rfl, rfl, .inl rfl⟩
/-- A sign for a sign: no room is wanted. -/
theorem swap_sign {s : List UInt8} {a b : Int} {x y : UInt8} {all : Bool} {t : List UInt8} {f e : Int} (h : swap s a b [x] [y] all = (t, f, e)) (hs : s.length ≤ 4096) : e = 0 ∨ e = 1 ∨ e = 7 := by
  by_cases he : e = 0
  · exact .inl he
  · obtain ⟨_, _, h1 | h1 | ⟨_, ht, _, _, _, h8⟩⟩ := swap_err h he
    · exact .inr (.inl h1)
    · exact .inr (.inr h1.1)
    · have hab : a.toNat ≤ b.toNat := by have := ht.2.1; omega
      have := rows_len (p := [x]) (by simp) [y] (most s all) hab s
      simp only [List.length_cons, List.length_nil] at this
      omega
/-- What is put in the place of a sign, where it stood nowhere, is put back. -/
theorem swap_back {s : List UInt8} {a b : Int} {x y : UInt8} {all : Bool} {t : List UInt8} {f : Int} (h : swap s a b [x] [y] all = (t, f, 0)) (hc : count s a b [y] = 0) (hs : s.length ≤ 4096) :
    ∃ g, swap t a b [y] [x] true = (s, g, 0) := by
  obtain ⟨i, j, rfl, rfl, F⟩ := swap_fine h
  have hlt := F.lt
  have hle := F.le
  have hth : there s (i : Int) (j : Int) := ⟨by omega, by omega, by omega⟩
  have hb : j < (parts s).length := by rw [← L_len F.vs]; exact F.lt
  have hs0 : 0 < s.length := by
    rcases Nat.eq_zero_or_pos s.length with h0 | h0
    · have h1 := F.hit
      obtain rfl : s = [] := List.length_eq_zero_iff.1 h0
      have h2 : cnt [x] (most [] all) (mids i j (parts [])) = 0 := cnt_zero.2 fun l hl => by
        have h3 := row_len (List.mem_of_mem_drop (List.mem_of_mem_take hl))
        obtain rfl : l = [] := List.length_eq_zero_iff.1 (by simpa using h3)
        rfl
      omega
    · exact h0
  rw [count, if_pos ⟨hth, by simp, F.pr⟩, Int.toNat_natCast, Int.toNat_natCast, cnt_zero] at hc
  have hy : ∀ l ∈ mids i j (parts s), y ∉ l := fun l hl => (ps_sign hs0).1 (hc l hl)
  have hlen : t.length = s.length := by
    have := F.len
    simp only [List.length_cons, List.length_nil] at this
    omega
  obtain ⟨e1, e2⟩ := rows_back (x := x) (y := y) (m := most s all) (n := t.length) F.le hb hy (fun l hl => by rw [hlen]; exact row_len (List.mem_of_mem_drop (List.mem_of_mem_take hl)))
  have ec : cnt [y] t.length (mids i j (parts t)) = cnt [x] (most s all) (mids i j (parts s)) := by
    rw [F.parts, e1, cnt, cnt, List.map_map]
    congr 1
    refine List.map_congr_left fun l hl => ?_
    show (ps [y] 0 t.length (jn [y] (ps [x] 0 (most s all) l))).length - 1 = _
    rw [back_one _ (hy l hl) (by rw [hlen]; exact row_len (List.mem_of_mem_drop (List.mem_of_mem_take hl)))]
  have eg : glue (rows [y] [x] t.length i j (parts t)) = s := by rw [F.parts, e2, glue_parts]
  have hm : most t true = t.length := rfl
  have hhit := F.hit
  rw [swap, if_pos ⟨⟨by omega, by omega, by rw [F.count]; omega⟩, by simp, F.pr, F.pp⟩, hm, Int.toNat_natCast, Int.toNat_natCast, if_neg (by rw [ec]; omega), eg, if_neg (by omega)]
  exact ⟨_, rfl⟩
/-- What there is of lines where there is an error. -/
theorem swap_none {s : List UInt8} {a b : Int} {p r : List UInt8} {t : List UInt8} {f : Int} (h : swap s a b p r true = (t, f, 7)) : count s a b p = 0 := by
  obtain ⟨_, _, h1 | ⟨_, h1⟩ | ⟨h1, _⟩⟩ := swap_err h (by decide)
  · cases h1
  · rw [count]
    split
    · exact h1
    · rfl
  · cases h1
theorem count_fine {s p r t : List UInt8} {a b : Nat} {f : Int} (F : Fine s a b p r (most s true) t f) : count s (a : Int) (b : Int) p = cnt p (most s true) (mids a b (parts s)) := by
  have h1 := F.le
  have h2 := F.lt
  rw [count, if_pos ⟨⟨by omega, by omega, by omega⟩, F.p0, F.pp⟩, Int.toNat_natCast, Int.toNat_natCast]
  rfl
end Sb
end Go.Proofs.YtlfhfpjffdaomaaDoor
