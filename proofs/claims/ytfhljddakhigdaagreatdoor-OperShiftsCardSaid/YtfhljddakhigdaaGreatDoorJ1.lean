/-
  Where lines of bytes end, without a program: places of line feeds, lengths of lines, and what becomes of them where bytes take the place of others.
-/
import Derived.Test.YtfhljddakhigdaaGreatDoorBase
import Derived.Lib.IndexLaws
import Derived.Test.YtfhljddakhigdaaGreatDoorLineCalls
import Derived.Laws.Rows
import Derived.Deep.RegionHeld3
namespace Go.Proofs.YtfhljddakhigdaaGreatDoor
namespace Ix
/-- The places of line feeds; the first byte stands at o. -/
def nls (o : Nat) : List UInt8 → List Nat
  | [] => []
  | c :: r => if c = 10 then o :: nls (o + 1) r else nls (o + 1) r
/-- Where lines end. -/
def ends (t : List UInt8) : List Nat := nls 0 t ++ [t.length]
/-- How long lines are. -/
def lens : List UInt8 → List Nat
  | [] => [0]
  | c :: r => if c = 10 then 0 :: lens r else (lens r).modify 0 (· + 1)
/-- Where lines of these lengths end, the first of which starts at o. -/
def lay (o : Nat) : List Nat → List Nat
  | [] => []
  | n :: r => (o + n) :: lay (o + n + 1) r
theorem nls_append (a b : List UInt8) (o : Nat) : nls o (a ++ b) = nls o a ++ nls (o + a.length) b := by
  induction a generalizing o with
  | nil => simp [nls]
  | cons c r ih =>
    simp only [List.cons_append, nls, List.length_cons]
    rw [ih, show o + 1 + r.length = o + (r.length + 1) by omega]
    split <;> simp
theorem nls_shift (s : List UInt8) (o d : Nat) : nls (o + d) s = (nls o s).map (· + d) := by
  induction s generalizing o with
  | nil => rfl
  | cons c r ih =>
    simp only [nls]
    rw [show o + d + 1 = o + 1 + d by omega, ih]
    split <;> simp
theorem nls_mem {s : List UInt8} {o x : Nat} (h : x ∈ nls o s) : o ≤ x ∧ x < o + s.length := by
  induction s generalizing o with
  | nil => simp [nls] at h
  | cons c r ih =>
    simp only [nls] at h
    split at h
    · rcases List.mem_cons.1 h with h | h
      · subst h; simp
      · have := ih h; simp; omega
    · have := ih h; simp; omega
theorem nls_sorted (s : List UInt8) (o : Nat) : (nls o s).Pairwise (· < ·) := by
  induction s generalizing o with
  | nil => exact List.Pairwise.nil
  | cons c r ih =>
    simp only [nls]
    split
    · exact List.pairwise_cons.2 ⟨fun x hx => by have := nls_mem hx; omega, ih _⟩
    · exact ih _
theorem nls_length (s : List UInt8) (o : Nat) : (nls o s).length = s.count 10 := by
  induction s generalizing o with
  | nil => rfl
  | cons c r ih =>
    simp only [nls]
    split
    · rename_i h; subst h; simp [ih]
    · rename_i h; rw [ih, List.count_cons_of_ne h]
theorem ends_sorted (t : List UInt8) : (ends t).Pairwise (· < ·) := by
  rw [ends, List.pairwise_append]
  refine ⟨nls_sorted t 0, List.pairwise_singleton _ _, fun x hx y hy => ?_⟩
  have := nls_mem hx
  simp at hy
  omega
theorem ends_length (t : List UInt8) : (ends t).length = t.count 10 + 1 := by rw [ends, List.length_append, nls_length]; rfl
theorem ends_pos (t : List UInt8) : 0 < (ends t).length := by rw [ends_length]; omega
theorem ends_le (t : List UInt8) : (ends t).length ≤ t.length + 1 := by
  rw [ends_length]
  have := List.count_le_length (a := (10 : UInt8)) (l := t)
  omega
theorem ends_mem {t : List UInt8} {x : Nat} (h : x ∈ ends t) : x ≤ t.length := by
  rw [ends, List.mem_append] at h
  rcases h with h | h
  · have := nls_mem h; omega
  · simp at h; omega
theorem ends_last (t : List UInt8) : (ends t)[(ends t).length - 1]? = some t.length := by
  rw [ends, List.length_append, List.getElem?_append_right (by simp)]
  simp
theorem lens_length (s : List UInt8) : (lens s).length = s.count 10 + 1 := by
  induction s with
  | nil => rfl
  | cons c r ih =>
    simp only [lens]
    split
    · rename_i h; subst h; simp [ih]
    · rename_i h; rw [List.length_modify, ih, List.count_cons_of_ne h]
theorem lens_pos (s : List UInt8) : 0 < (lens s).length := by rw [lens_length]; omega
/-- What is ahead of the first line, and behind the last one, is put to them. -/
def wide (x y : Nat) (l : List Nat) : List Nat := (l.modify 0 (· + x)).modify (l.length - 1) (· + y)
theorem modify_modify (l : List Nat) (x y : Nat) : (l.modify 0 (· + x)).modify 0 (· + y) = l.modify 0 (· + (x + y)) := by
  cases l with
  | nil => rfl
  | cons n r => simp [Nat.add_assoc]
theorem lay_wide (s : List UInt8) (o x y : Nat) : lay o (wide x y (lens s)) = nls (o + x) s ++ [o + x + s.length + y] := by
  induction s generalizing o x with
  | nil => simp [lens, wide, lay, nls]; omega
  | cons c r ih =>
    simp only [lens, nls]
    have hp := lens_pos r
    split
    · have e : wide x y (0 :: lens r) = x :: wide 0 y (lens r) := by
        simp only [wide, List.modify_zero_cons, Nat.zero_add, List.length_cons, Nat.add_sub_cancel]
        rw [show (lens r).length = (lens r).length - 1 + 1 by omega, List.modify_succ_cons]
        have : (lens r).modify 0 (fun z => z + 0) = lens r := by cases lens r <;> simp
        rw [this]
        simp
      rw [e, lay, ih]
      simp
      omega
    · have e : wide x y ((lens r).modify 0 (· + 1)) = wide (1 + x) y (lens r) := by
        simp only [wide, List.length_modify]
        rw [modify_modify]
      rw [e, ih, show o + (1 + x) = o + x + 1 by omega]
      simp
      omega
theorem wide_zero (l : List Nat) : wide 0 0 l = l := by
  unfold wide
  have h : ∀ (l : List Nat) k, l.modify k (fun z => z + 0) = l := fun l k => by
    apply List.ext_getElem?
    intro j
    rw [List.getElem?_modify]
    split <;> simp
  rw [h, h]
theorem lay_lens (s : List UInt8) : lay 0 (lens s) = ends s := by
  have := lay_wide s 0 0 0
  rw [wide_zero] at this
  simpa [ends] using this
theorem wide_length (x y : Nat) (l : List Nat) : (wide x y l).length = l.length := by simp [wide]
theorem lay_length (o : Nat) (l : List Nat) : (lay o l).length = l.length := by
  induction l generalizing o with
  | nil => rfl
  | cons n r ih => simp [lay, ih]
theorem lay_snoc (o : Nat) (l : List Nat) (n : Nat) : lay o (l ++ [n]) = lay o l ++ [o + (l.sum + l.length) + n] := by
  induction l generalizing o with
  | nil => simp [lay]
  | cons m r ih => simp [lay, ih]; omega
theorem lens_sum (s : List UInt8) : (lens s).sum + (lens s).length = s.length + 1 := by
  induction s with
  | nil => rfl
  | cons c r ih =>
    simp only [lens]
    split
    · simp; omega
    · have h : ∀ l : List Nat, 0 < l.length → (l.modify 0 (· + 1)).sum = l.sum + 1 := fun l hl => by
        cases l with
        | nil => simp at hl
        | cons n r => simp; omega
      rw [h _ (lens_pos r), List.length_modify]
      simp; omega
theorem wide_sum (x y : Nat) (l : List Nat) (h : 0 < l.length) : (wide x y l).sum = l.sum + x + y := by
  have key : ∀ (l : List Nat) (k z : Nat), k < l.length → (l.modify k (· + z)).sum = l.sum + z := by
    intro l
    induction l with
    | nil => intro k z h; simp at h
    | cons n r ih =>
      intro k z h
      cases k with
      | zero => simp; omega
      | succ k => simp at h; simp [ih k z h]; omega
  rw [wide, key _ _ _ (by rw [List.length_modify]; omega), key _ _ _ h]
/-- How many lines end ahead of an offset. -/
def line (t : List UInt8) (p : Nat) : Nat := (nls 0 (t.take p)).length
theorem ends_split (t : List UInt8) (p : Nat) (hp : p ≤ t.length) : ends t = nls 0 (t.take p) ++ (nls p (t.drop p) ++ [t.length]) := by
  have h := nls_append (t.take p) (t.drop p) 0
  rw [List.take_append_drop, List.length_take, Nat.min_eq_left hp, Nat.zero_add] at h
  rw [ends, h, List.append_assoc]
theorem line_lt {t : List UInt8} {p : Nat} (hp : p ≤ t.length) : line t p < (ends t).length := by
  rw [ends_split t p hp]; simp [line]
theorem ends_take {t : List UInt8} {p : Nat} (hp : p ≤ t.length) : (ends t).take (line t p) = nls 0 (t.take p) := by
  rw [ends_split t p hp, line, List.take_left]
theorem ends_drop {t : List UInt8} {p : Nat} (hp : p ≤ t.length) : (ends t).drop (line t p) = nls p (t.drop p) ++ [t.length] := by
  rw [ends_split t p hp, line, List.drop_left]
/-- The line of an offset is as many as end ahead of it. -/
theorem line_count {t : List UInt8} {p : Nat} (hp : p ≤ t.length) : ((ends t).map (fun n : Nat => (n : Int))).countP (· < (p : Int)) = line t p := by
  rw [List.countP_map, ends_split t p hp, List.countP_append]
  have h1 : (nls 0 (t.take p)).countP ((fun x : Int => decide (x < (p : Int))) ∘ fun n : Nat => (n : Int)) = (nls 0 (t.take p)).length := by
    rw [List.countP_eq_length]
    intro x hx
    have := nls_mem hx
    simp at this ⊢
    omega
  have h2 : (nls p (t.drop p) ++ [t.length]).countP ((fun x : Int => decide (x < (p : Int))) ∘ fun n : Nat => (n : Int)) = 0 := by
    rw [List.countP_eq_zero]
    intro x hx
    rw [List.mem_append] at hx
    rcases hx with hx | hx
    · have := nls_mem hx
      simp
      omega
    · simp at hx
      simp
      omega
  rw [h1, h2, line, Nat.add_zero]
theorem line_high {t : List UInt8} {p : Int} (hp : (t.length : Int) < p) : ((ends t).map (fun n : Nat => (n : Int))).countP (· < p) = (ends t).length := by
  rw [List.countP_map, List.countP_eq_length]
  intro x hx
  have := ends_mem hx
  simp
  omega
/-- Where the line k starts. -/
def start (t : List UInt8) (k : Nat) : Nat := if k = 0 then 0 else (ends t).getD (k - 1) 0 + 1
def stop (t : List UInt8) (k : Nat) : Nat := (ends t).getD k 0
theorem getD_of {l : List Nat} {k x : Nat} (h : l[k]? = some x) : l.getD k 0 = x := by simp [List.getD, h]
theorem start_le {t : List UInt8} {p : Nat} (hp : p ≤ t.length) : start t (line t p) ≤ p := by
  unfold start
  split
  · omega
  · rename_i h0
    have h1 : line t p - 1 < (nls 0 (t.take p)).length := by unfold line at h0 ⊢; omega
    have h2 : (ends t)[line t p - 1]? = some (nls 0 (t.take p))[line t p - 1] := by
      rw [ends_split t p hp, List.getElem?_append_left h1, List.getElem?_eq_getElem h1]
    rw [getD_of h2]
    have := nls_mem (List.getElem_mem h1)
    simp at this
    omega
theorem stop_split {t : List UInt8} {p : Nat} (hp : p ≤ t.length) : nls p (t.drop p) ++ [t.length] = stop t (line t p) :: (ends t).drop (line t p + 1) := by
  have h := line_lt hp
  have h2 := List.drop_eq_getElem_cons h
  rw [← ends_drop hp, h2, stop, List.getD_eq_getElem?_getD, List.getElem?_eq_getElem h]
  rfl
theorem le_stop {t : List UInt8} {p : Nat} (hp : p ≤ t.length) : p ≤ stop t (line t p) ∧ stop t (line t p) ≤ t.length := by
  have h : stop t (line t p) ∈ nls p (t.drop p) ++ [t.length] := by rw [stop_split hp]; exact List.mem_cons_self
  rw [List.mem_append] at h
  rcases h with h | h
  · have := nls_mem h; simp at this; omega
  · simp at h; omega
theorem line_mono {t : List UInt8} {p q : Nat} (h : p ≤ q) : line t p ≤ line t q := by
  unfold line
  rw [nls_length, nls_length]
  have : t.take p <+: t.take q := List.take_prefix_take_left h
  exact this.sublist.count_le _
/-- What stands in the place of some bytes. -/
def put (t : List UInt8) (i j : Nat) (s : List UInt8) : List UInt8 := t.take i ++ (s ++ t.drop j)
theorem put_length {t : List UInt8} {i j : Nat} (hij : i ≤ j) (hj : j ≤ t.length) (s : List UInt8) : (put t i j s).length + (j - i) = t.length + s.length := by
  simp [put]; omega
/-- The lengths that the new lines get. -/
def mid (t : List UInt8) (i j : Nat) (s : List UInt8) : List Nat := lay (start t (line t i)) (wide (i - start t (line t i)) (stop t (line t j) - j) (lens s))
theorem mid_eq {t : List UInt8} {i j : Nat} (hi : i ≤ t.length) (s : List UInt8) : mid t i j s = nls i s ++ [i + s.length + (stop t (line t j) - j)] := by
  have h := start_le hi
  rw [mid, lay_wide, show start t (line t i) + (i - start t (line t i)) = i by omega]
theorem mid_length (t : List UInt8) (i j : Nat) (s : List UInt8) : (mid t i j s).length = (lens s).length := by rw [mid, lay_length, wide_length]
theorem ends_put {t : List UInt8} {i j : Nat} (hij : i ≤ j) (hj : j ≤ t.length) (s : List UInt8) :
    ends (put t i j s) = (ends t).take (line t i) ++ (mid t i j s ++ ((ends t).drop (line t j + 1)).map (fun z => z + s.length - (j - i))) := by
  have hi : i ≤ t.length := by omega
  have hl := put_length hij hj s
  have hst := le_stop hj
  have h1 : ends (put t i j s) = nls 0 (t.take i) ++ (nls i s ++ (nls (i + s.length) (t.drop j) ++ [(put t i j s).length])) := by
    rw [ends, put, nls_append, nls_append, List.length_take, Nat.min_eq_left hi, Nat.zero_add]
    simp
  have h2 : nls (i + s.length) (t.drop j) ++ [(put t i j s).length] = (nls j (t.drop j) ++ [t.length]).map (fun z => z + s.length - (j - i)) := by
    have e1 := nls_shift (t.drop j) 0 (i + s.length)
    have e2 := nls_shift (t.drop j) 0 j
    rw [Nat.zero_add] at e1 e2
    rw [List.map_append, e1, e2, List.map_map]
    congr 1
    · apply List.map_congr_left
      intro z _
      simp
      omega
    · simp; omega
  rw [h1, h2, ends_take hi, mid_eq hi, stop_split hj]
  simp
  omega
theorem put_ends_ge {t : List UInt8} {j : Nat} (hj : j ≤ t.length) {z : Nat} (hz : z ∈ (ends t).drop (line t j + 1)) : j ≤ z ∧ z ≤ t.length := by
  have h : z ∈ nls j (t.drop j) ++ [t.length] := by rw [stop_split hj]; exact List.mem_cons_of_mem _ hz
  rw [List.mem_append] at h
  rcases h with h | h
  · have := nls_mem h; simp at this; omega
  · simp at h; omega
/-- The answers of an index of bytes. -/
def startOf (t : List UInt8) (k : Int) : Int := if k < 0 ∨ (ends t).length ≤ k then -1 else (start t k.toNat : Nat)
def endOf (t : List UInt8) (k : Int) : Int := if k < 0 ∨ (ends t).length ≤ k then -1 else (stop t k.toNat : Nat)
def lineOf (t : List UInt8) (p : Int) : Int := if p < 0 ∨ t.length < p then -1 else (line t p.toNat : Nat)
end Ix
end Go.Proofs.YtfhljddakhigdaaGreatDoor
/-
  Bytes parted at line feeds, without a program.
-/
namespace Go.Proofs.YtfhljddakhigdaaGreatDoor
namespace Ix
/-- Bytes parted at line feeds. -/
def parts : List UInt8 → List (List UInt8)
  | [] => [[]]
  | c :: r => if c = 10 then [] :: parts r else (parts r).modify 0 (c :: ·)
theorem parts_pos (s : List UInt8) : 0 < (parts s).length := by
  induction s with
  | nil => simp [parts]
  | cons c r ih => simp only [parts]; split <;> simp [ih]
theorem parts_lens (s : List UInt8) : (parts s).map List.length = lens s := by
  induction s with
  | nil => rfl
  | cons c r ih =>
    simp only [parts, lens]
    split
    · simp [ih]
    · rw [← ih]
      cases parts r <;> simp
theorem parts_whole (a : List UInt8) (h : ∀ i : Nat, a[i]? ≠ some 10) : parts a = [a] := by
  induction a with
  | nil => rfl
  | cons c r ih =>
    have h0 : c ≠ 10 := fun e => h 0 (by simp [e])
    rw [parts, if_neg h0, ih (fun i => by have := h (i + 1); simpa using this)]
    rfl
theorem parts_cut (a r : List UInt8) (h : ∀ i : Nat, a[i]? ≠ some 10) : parts (a ++ 10 :: r) = a :: parts r := by
  induction a with
  | nil => simp [parts]
  | cons c q ih =>
    have h0 : c ≠ 10 := fun e => h 0 (by simp [e])
    rw [List.cons_append, parts, if_neg h0, ih (fun i => by have := h (i + 1); simpa using this)]
    rfl
theorem parts_none {s : List UInt8} (h : Lib.indexByte s 10 = -1) : parts s = [s] := parts_whole s (Lib.indexByte_none h)
theorem parts_some {s : List UInt8} {o : Nat} (h : Lib.indexByte s 10 = o) : o < s.length ∧ parts s = s.take o :: parts (s.drop (o + 1)) := by
  obtain ⟨h1, h2⟩ := Lib.indexByte_some h
  have h3 := (List.getElem?_eq_some_iff.1 h1).1
  refine ⟨h3, ?_⟩
  have e : s = s.take o ++ 10 :: s.drop (o + 1) := by
    have := List.drop_eq_getElem_cons h3
    rw [(List.getElem?_eq_some_iff.1 h1).2] at this
    rw [← this, List.take_append_drop]
  conv => lhs; rw [e]
  refine parts_cut _ _ fun i hi => ?_
  rw [List.getElem?_take] at hi
  split at hi
  · exact h2 i (by assumption) hi
  · cases hi
theorem parts_length (s : List UInt8) : (parts s).length = s.count 10 + 1 := by
  have := congrArg List.length (parts_lens s)
  rw [List.length_map, lens_length] at this
  exact this
/-- Pairs of starts and ends, of lines that end so, the first of which starts at f. -/
def pairs (f : Nat) : List Nat → List (Nat × Nat)
  | [] => []
  | e :: r => (f, e) :: pairs (e + 1) r
theorem pairs_length (f : Nat) (l : List Nat) : (pairs f l).length = l.length := by
  induction l generalizing f with
  | nil => rfl
  | cons e r ih => simp [pairs, ih]
theorem pairs_get (f : Nat) (l : List Nat) (k : Nat) (h : k < l.length) : (pairs f l)[k]? = some (if k = 0 then f else l.getD (k - 1) 0 + 1, l.getD k 0) := by
  induction l generalizing f k with
  | nil => simp at h
  | cons e r ih =>
    cases k with
    | zero => simp [pairs]
    | succ k =>
      simp only [pairs, List.getElem?_cons_succ]
      rw [ih (e + 1) k (by simpa using h)]
      cases k with
      | zero => simp
      | succ k => simp
/-- All lines of bytes. -/
def all (t : List UInt8) : List (Nat × Nat) := pairs 0 (ends t)
theorem all_length (t : List UInt8) : (all t).length = (ends t).length := pairs_length _ _
theorem all_get {t : List UInt8} {k : Nat} (h : k < (ends t).length) : (all t)[k]? = some (start t k, stop t k) := pairs_get 0 (ends t) k h
theorem nls_here {t : List UInt8} {p : Nat} (h : t[p]? = some 10) : nls p (t.drop p) = p :: nls (p + 1) (t.drop (p + 1)) := by
  obtain ⟨hi, hb⟩ := List.getElem?_eq_some_iff.1 h
  rw [List.drop_eq_getElem_cons hi, hb, nls, if_pos rfl]
theorem nls_not {t : List UInt8} {p : Nat} {b : UInt8} (h : t[p]? = some b) (hb : b ≠ 10) : nls p (t.drop p) = nls (p + 1) (t.drop (p + 1)) := by
  obtain ⟨hi, hc⟩ := List.getElem?_eq_some_iff.1 h
  rw [List.drop_eq_getElem_cons hi, hc, nls, if_neg hb]
/-- How far a loop over bytes has come: these lines are done; the next one began at a. -/
def Come (t : List UInt8) (R done : List (Nat × Nat)) (a p : Nat) : Prop := (p ≤ t.length ∧ R = done ++ pairs a (nls p (t.drop p) ++ [t.length])) ∨ (p = t.length + 1 ∧ R = done)
theorem come_start (t : List UInt8) : Come t (all t) [] 0 0 := Or.inl ⟨Nat.zero_le _, by simp [all, ends]⟩
theorem come_end {t : List UInt8} {R done : List (Nat × Nat)} {a : Nat} (h : R = done ++ pairs a (nls t.length (t.drop t.length) ++ [t.length])) : Come t R (done ++ [(a, t.length)]) (t.length + 1) (t.length + 1) :=
  Or.inr ⟨rfl, by rw [h]; simp [nls, pairs]⟩
theorem come_here {t : List UInt8} {R done : List (Nat × Nat)} {a p : Nat} (h : R = done ++ pairs a (nls p (t.drop p) ++ [t.length])) (hp : t[p]? = some 10) : Come t R (done ++ [(a, p)]) (p + 1) (p + 1) :=
  Or.inl ⟨(List.getElem?_eq_some_iff.1 hp).1, by rw [h, nls_here hp]; simp [pairs]⟩
theorem come_not {t : List UInt8} {R done : List (Nat × Nat)} {a p : Nat} {b : UInt8} (h : R = done ++ pairs a (nls p (t.drop p) ++ [t.length])) (hp : t[p]? = some b) (hb : b ≠ 10) : Come t R done a (p + 1) :=
  Or.inl ⟨(List.getElem?_eq_some_iff.1 hp).1, by rw [h, nls_not hp hb]⟩
/-- The order of starts and ends. -/
theorem sorted_lt {l : List Nat} (h : l.Pairwise (· < ·)) {i j : Nat} (hij : i < j) (hj : j < l.length) : l.getD i 0 < l.getD j 0 := by
  have hi : i < l.length := by omega
  have := List.pairwise_iff_getElem.1 h i j hi hj hij
  rw [List.getD_eq_getElem?_getD, List.getD_eq_getElem?_getD, List.getElem?_eq_getElem hi, List.getElem?_eq_getElem hj]
  exact this
theorem line_here {t : List UInt8} {p k : Nat} (hk : k < (ends t).length) (h1 : start t k ≤ p) (h2 : p ≤ stop t k) : p ≤ t.length ∧ line t p = k := by
  have hs := ends_sorted t
  have hm : stop t k ∈ ends t := by
    rw [stop, List.getD_eq_getElem?_getD, List.getElem?_eq_getElem hk]
    exact List.getElem_mem hk
  have hp : p ≤ t.length := Nat.le_trans h2 (ends_mem hm)
  refine ⟨hp, ?_⟩
  have hl := line_lt hp
  have hge := le_stop hp
  have hle := start_le hp
  rcases Nat.lt_trichotomy (line t p) k with h | h | h
  · have h3 : stop t (line t p) < start t k := by
      unfold start
      rw [if_neg (by omega)]
      rcases Nat.lt_or_ge (line t p) (k - 1) with h4 | h4
      · have := sorted_lt hs h4 (by omega)
        unfold stop; omega
      · rw [show k - 1 = line t p by omega]; unfold stop; omega
    omega
  · exact h
  · have h3 : stop t k < start t (line t p) := by
      unfold start
      rw [if_neg (by omega)]
      rcases Nat.lt_or_ge k (line t p - 1) with h4 | h4
      · have := sorted_lt hs h4 (by omega)
        unfold stop; omega
      · rw [show line t p - 1 = k by omega]; unfold stop; omega
    omega
/-- An end is in its line. -/
theorem line_stop {t : List UInt8} {k : Nat} (hk : k < (ends t).length) : line t (stop t k) = k ∧ stop t k ≤ t.length := by
  have hs : start t k ≤ stop t k := by
    unfold start
    split
    · exact Nat.zero_le _
    · have := sorted_lt (ends_sorted t) (i := k - 1) (j := k) (by omega) hk
      unfold stop; omega
  have := line_here hk hs (Nat.le_refl _)
  exact ⟨this.2, this.1⟩
end Ix
end Go.Proofs.YtfhljddakhigdaaGreatDoor
/-
  A text as its lines without a program: parted, and glued again; where its lines stand; which lines make a valid text.
-/
namespace Go.Proofs.YtfhljddakhigdaaGreatDoor
namespace Gl
open Utf (dec off valid place one)
open Line (L seg Whole lns L_ok L_valid L_each)
open Ix (parts parts_pos parts_whole parts_cut)

/-- Lines, each with its line feed behind it. -/
def fore (R : List (List UInt8)) : List UInt8 := R.flatMap (· ++ [10])
/-- Lines, each with a line feed ahead. -/
def aft (R : List (List UInt8)) : List UInt8 := R.flatMap (10 :: ·)
/-- Lines as a text. -/
def glue : List (List UInt8) → List UInt8
  | [] => []
  | x :: r => x ++ aft r
theorem glue_cons (x : List UInt8) (r : List (List UInt8)) : glue (x :: r) = x ++ aft r := rfl
theorem fore_cons (x : List UInt8) (r : List (List UInt8)) : fore (x :: r) = x ++ 10 :: fore r := by simp [fore]
theorem aft_cons (x : List UInt8) (r : List (List UInt8)) : aft (x :: r) = 10 :: (x ++ aft r) := by simp [aft]
theorem fore_append (A B : List (List UInt8)) : fore (A ++ B) = fore A ++ fore B := by simp [fore]
theorem aft_append (A B : List (List UInt8)) : aft (A ++ B) = aft A ++ aft B := by simp [aft]
theorem fore_snoc (A : List (List UInt8)) (x : List UInt8) : fore (A ++ [x]) = fore A ++ (x ++ [10]) := by rw [fore_append, fore_cons]; simp [fore]
theorem aft_glue {R : List (List UInt8)} (h : R ≠ []) : aft R = 10 :: glue R := by
  cases R with
  | nil => exact absurd rfl h
  | cons x r => rw [aft_cons, glue_cons]
theorem glue_fore {A B : List (List UInt8)} (hB : B ≠ []) : glue (A ++ B) = fore A ++ glue B := by
  induction A with
  | nil => rfl
  | cons a A ih =>
    rw [List.cons_append, glue_cons, aft_glue (by simp [hB]), ih, fore_cons]
    simp
theorem glue_aft {B C : List (List UInt8)} (hB : B ≠ []) : glue (B ++ C) = glue B ++ aft C := by
  cases B with
  | nil => exact absurd rfl hB
  | cons x r => rw [List.cons_append, glue_cons, glue_cons, aft_append, List.append_assoc]
theorem glue_mid {A B C : List (List UInt8)} (hB : B ≠ []) : glue (A ++ (B ++ C)) = fore A ++ (glue B ++ aft C) := by
  rw [glue_fore (by simp [hB]), glue_aft hB]
theorem glue_one (x : List UInt8) : glue [x] = x := by simp [glue, aft]

/-- Is there no line feed in it? -/
def Free (x : List UInt8) : Prop := (10 : UInt8) ∉ x
theorem free_get {x : List UInt8} (h : Free x) (i : Nat) : x[i]? ≠ some 10 := fun e => h (List.mem_of_getElem? e)
theorem parts_ne (s : List UInt8) : parts s ≠ [] := fun h => by have := parts_pos s; rw [h] at this; exact absurd this (Nat.lt_irrefl 0)
theorem glue_parts (s : List UInt8) : glue (parts s) = s := by
  induction s with
  | nil => rfl
  | cons c r ih =>
    rw [parts]
    split
    · rename_i h
      subst h
      rw [glue_cons, aft_glue (parts_ne r), ih]
      rfl
    · cases hp : parts r with
      | nil => exact absurd hp (parts_ne r)
      | cons x q =>
        rw [hp, glue_cons] at ih
        rw [← ih]
        rfl
theorem parts_free (s : List UInt8) : ∀ x ∈ parts s, Free x := by
  induction s with
  | nil => intro x hx; simp [parts] at hx; subst hx; simp [Free]
  | cons c r ih =>
    intro x hx
    rw [parts] at hx
    split at hx
    · rcases List.mem_cons.1 hx with h | h
      · subst h; simp [Free]
      · exact ih x h
    · rename_i hc
      cases hp : parts r with
      | nil => exact absurd hp (parts_ne r)
      | cons y q =>
        rw [hp] at hx ih
        rcases List.mem_cons.1 hx with h | h
        · subst h
          intro hm
          rcases List.mem_cons.1 hm with h2 | h2
          · exact hc h2.symm
          · exact ih y (by simp) h2
        · exact ih x (by simp [h])
theorem parts_glue {R : List (List UInt8)} (h0 : R ≠ []) (h : ∀ x ∈ R, Free x) : parts (glue R) = R := by
  induction R with
  | nil => exact absurd rfl h0
  | cons x r ih =>
    cases r with
    | nil => rw [glue_one]; exact parts_whole x (free_get (h x (by simp)))
    | cons y q =>
      rw [glue_cons, aft_glue (by simp), parts_cut x _ (free_get (h x (by simp))), ih (by simp) (fun z hz => h z (by simp [hz]))]

/-- Where lines stand, the first of them from a on. -/
def spots (a : Nat) : List (List UInt8) → List (Nat × Nat)
  | [] => []
  | x :: r => (a, a + x.length) :: spots (a + x.length + 1) r
theorem lns_parts (a i : Nat) (t : List UInt8) : lns a i t = match parts t with | [] => [] | x :: r => (a, i + x.length) :: spots (i + x.length + 1) r := by
  induction t generalizing a i with
  | nil => rfl
  | cons b t ih =>
    cases hp : parts t with
    | nil => exact absurd hp (parts_ne t)
    | cons x r =>
      rw [lns, parts, hp]
      split
      · rw [ih, hp]
        rfl
      · rw [ih, hp]
        show _ = (a, i + (b :: x).length) :: spots (i + (b :: x).length + 1) r
        rw [List.length_cons, show i + (x.length + 1) = i + 1 + x.length by omega]
theorem L_spots {s : List UInt8} (h : valid s = true) : L s = spots 0 (parts s) := by
  rw [L_ok h, Line.lines, lns_parts]
  cases hp : parts s with
  | nil => exact absurd hp (parts_ne s)
  | cons x r => rfl
theorem spots_length (a : Nat) (R : List (List UInt8)) : (spots a R).length = R.length := by
  induction R generalizing a with
  | nil => rfl
  | cons x r ih => rw [spots, List.length_cons, List.length_cons, ih]
theorem spots_get {a : Nat} {R : List (List UInt8)} {k : Nat} {x : List UInt8} (h : R[k]? = some x) : (spots a R)[k]? = some (a + (fore (R.take k)).length, a + (fore (R.take k)).length + x.length) := by
  induction R generalizing a k with
  | nil => simp at h
  | cons y r ih =>
    cases k with
    | zero =>
      simp only [List.getElem?_cons_zero, Option.some.injEq] at h
      subst h
      simp [spots, fore]
    | succ k =>
      rw [List.getElem?_cons_succ] at h
      rw [spots, List.getElem?_cons_succ, ih h, List.take_succ_cons, fore_cons, List.length_append, List.length_cons]
      congr 2 <;> omega
theorem L_len {s : List UInt8} (h : valid s = true) : (L s).length = (parts s).length := by rw [L_spots h, spots_length]
/-- Line k, by the lines. -/
theorem L_at {s : List UInt8} (hv : valid s = true) {k : Nat} {r : List UInt8} (h : (parts s)[k]? = some r) : (L s)[k]? = some ((fore ((parts s).take k)).length, (fore ((parts s).take k)).length + r.length) := by
  rw [L_spots hv, spots_get h, Nat.zero_add]
theorem L_of {s : List UInt8} {k : Nat} {x : Nat × Nat} (h : (L s)[k]? = some x) : ∃ r, (parts s)[k]? = some r ∧ x.1 = (fore ((parts s).take k)).length ∧ x.2 = x.1 + r.length := by
  have hv := L_valid h
  have hk : k < (parts s).length := by rw [← L_len hv]; exact (List.getElem?_eq_some_iff.1 h).1
  have hr := List.getElem?_eq_getElem hk
  refine ⟨_, hr, ?_⟩
  rw [L_at hv hr] at h
  injection h with h
  subst h
  exact ⟨rfl, rfl⟩
/-- A text, ahead of line j, from there to line k, and behind it. -/
theorem three {s : List UInt8} {j k : Nat} {x y : Nat × Nat} (hjk : j ≤ k) (hx : (L s)[j]? = some x) (hy : (L s)[k]? = some y) :
    ∃ A B C, parts s = A ++ (B ++ C) ∧ B ≠ [] ∧ A.length = j ∧ B.length = k + 1 - j ∧ s = fore A ++ (glue B ++ aft C) ∧ x.1 = (fore A).length ∧ y.2 = (fore A).length + (glue B).length := by
  obtain ⟨r, hr, h1, h2⟩ := L_of hx
  obtain ⟨q, hq, h3, h4⟩ := L_of hy
  have hk := (List.getElem?_eq_some_iff.1 hq).1
  have hR : parts s = (parts s).take j ++ (((parts s).drop j).take (k + 1 - j) ++ (parts s).drop (k + 1)) := by
    conv => lhs; rw [← List.take_append_drop j (parts s), ← List.take_append_drop (k + 1 - j) ((parts s).drop j), List.drop_drop, show j + (k + 1 - j) = k + 1 by omega]
  have hne : ((parts s).drop j).take (k + 1 - j) ≠ [] := fun h => by
    have := congrArg List.length h
    simp at this
    omega
  have hs := glue_parts s
  rw [hR, glue_mid hne] at hs
  have e1 : (parts s).take j ++ ((parts s).drop j).take (k + 1 - j) = (parts s).take k ++ [q] := by
    have := List.take_succ_eq_append_getElem hk
    rw [(List.getElem?_eq_some_iff.1 hq).2] at this
    rw [← this, ← List.take_append_drop j ((parts s).take (k + 1)), List.take_take, Nat.min_eq_left (by omega), List.drop_take]
  have e2 := congrArg glue e1
  rw [glue_fore hne, glue_fore (by simp), glue_one] at e2
  have e3 := congrArg List.length e2
  rw [List.length_append, List.length_append] at e3
  exact ⟨_, _, _, hR, hne, by rw [List.length_take]; omega, by rw [List.length_take, List.length_drop]; omega, hs.symm, h1, by rw [h4, h3]; omega⟩

/-- A valid text and another one. -/
theorem valid_all {a : List UInt8} (b : List UInt8) (ha : valid a = true) : valid (a ++ b) = valid b := by
  obtain ⟨rs, hd⟩ := Utf.valid_of ha
  obtain ⟨h1, h2⟩ := Utf.dec_some hd
  rw [valid, h2, Utf.dec_all b h1, valid, Option.isSome_map]
theorem one_ascii {b : UInt8} (h : b.toNat < 128) : one [b] = true := by
  have hl : Utf.len b.toNat = 1 := by
    unfold Utf.len
    rw [if_neg (by omega), if_neg (by omega), if_neg (by omega), if_neg (by omega), if_neg (by omega)]
  rw [Utf.one_iff, Utf.siz_cons, hl]
  simp [Utf.goes]
theorem valid_nil : valid [] = true := by rw [valid, Utf.dec_nil]; rfl
theorem valid_ascii {b : UInt8} (t : List UInt8) (h : b.toNat < 128) : valid (b :: t) = valid t := by
  have := valid_all (a := [b]) t (by
    have := Utf.dec_of (rs := [[b]]) (by simp [one_ascii h])
    rw [valid]
    simp at this
    rw [this]; rfl)
  exact this
theorem valid_feed (t : List UInt8) : valid (10 :: t) = valid t := valid_ascii t (by decide)
theorem place_mid {a b : List UInt8} (ha : valid a = true) (hb : valid b = true) : place (a ++ b) (a.length : Int) = true := by
  obtain ⟨rs, hd⟩ := Utf.valid_of ha
  obtain ⟨qs, he⟩ := Utf.valid_of hb
  obtain ⟨h1, h2⟩ := Utf.dec_some hd
  have h3 : dec (a ++ b) = some (rs ++ qs) := by
    conv => lhs; rw [h2]
    rw [Utf.dec_all b h1, he]
    rfl
  have := Utf.place_at h3 (i := rs.length) (by simp)
  rwa [off, List.take_left, ← h2] at this
/-- What stands from one place of a text on is valid, and so is what stands ahead of it. -/
theorem place_two {s : List UInt8} {n : Nat} (h : place s (n : Int) = true) : valid (s.take n) = true ∧ valid (s.drop n) = true := by
  obtain ⟨rs, i, hd, hi, he⟩ := Utf.place_of h
  obtain rfl : off rs i = n := by omega
  obtain ⟨h1, h2⟩ := Utf.dec_some hd
  rw [h2, Utf.off_take, Utf.off_drop]
  constructor
  · rw [valid, Utf.dec_of fun r hr => h1 r (List.mem_of_mem_take hr)]; rfl
  · rw [valid, Utf.dec_of fun r hr => h1 r (List.mem_of_mem_drop hr)]; rfl
theorem take_of {s A M : List UInt8} {n : Nat} (h : s = A ++ M) (hn : n = A.length) : s.take n = A := by rw [h, hn, List.take_left]
theorem drop_of {s A M : List UInt8} {n : Nat} (h : s = A ++ M) (hn : n = A.length) : s.drop n = M := by rw [h, hn, List.drop_left]
theorem valid_part {s : List UInt8} (hv : valid s = true) : ∀ x ∈ parts s, valid x = true := by
  intro r hx
  obtain ⟨k, hk, he⟩ := List.mem_iff_getElem.1 hx
  have hr : (parts s)[k]? = some r := by rw [List.getElem?_eq_getElem hk, he]
  have hL := L_at hv hr
  obtain ⟨A, B, C, h1, h2, h3, h4, h5, h6, h7⟩ := three (Nat.le_refl k) hL hL
  have p1 := (place_two (Line.start_ok hL)).1
  have p2 := (place_two (Line.stop_ok hL)).1
  have hB : B = [r] := by
    have e : (parts s)[k]? = B[0]? := by
      have hl : 0 < B.length := List.length_pos_iff.2 h2
      rw [h1, List.getElem?_append_right (by omega), h3, Nat.sub_self, List.getElem?_append_left hl]
    rw [hr] at e
    match B, h4, e with
    | [b], _, e => simp at e; rw [e]
    | [], h, _ => exact absurd rfl h2
    | b :: c :: r, h, _ => simp at h
  rw [take_of h5 h6] at p1
  rw [take_of (A := fore A ++ glue B) (M := aft C) (by rw [List.append_assoc]; exact h5) (by rw [List.length_append]; exact h7), hB, glue_one, valid_all _ p1] at p2
  exact p2
theorem valid_aft {R : List (List UInt8)} (h : ∀ x ∈ R, valid x = true) : valid (aft R) = true := by
  induction R with
  | nil => exact valid_nil
  | cons x r ih => rw [aft_cons, valid_feed, valid_all _ (h x (by simp))]; exact ih fun y hy => h y (by simp [hy])
theorem valid_fore {R : List (List UInt8)} (h : ∀ x ∈ R, valid x = true) : valid (fore R) = true := by
  induction R with
  | nil => exact valid_nil
  | cons x r ih => rw [fore_cons, valid_all _ (h x (by simp)), valid_feed]; exact ih fun y hy => h y (by simp [hy])
theorem valid_glue {R : List (List UInt8)} (h : ∀ x ∈ R, valid x = true) : valid (glue R) = true := by
  cases R with
  | nil => exact valid_nil
  | cons x r => rw [glue_cons, valid_all _ (h x (by simp))]; exact valid_aft fun y hy => h y (by simp [hy])
/-- Where the line behind these ones begins. -/
theorem start_fore {A R : List (List UInt8)} (h : ∀ x ∈ A ++ R, valid x = true ∧ Free x) (hR : R ≠ []) : Line.start (glue (A ++ R)) (A.length : Nat) = (fore A).length ∧ ∃ x, R.head? = some x ∧ Line.stop (glue (A ++ R)) (A.length : Nat) = ((fore A).length + x.length : Nat) := by
  have hv := valid_glue fun x hx => (h x hx).1
  have hp := parts_glue (R := A ++ R) (by simp [hR]) (fun x hx => (h x hx).2)
  cases R with
  | nil => exact absurd rfl hR
  | cons x r =>
    have hL := L_at hv (k := A.length) (r := x) (by rw [hp]; simp)
    rw [hp, List.take_left] at hL
    have hl : Line.line (glue (A ++ x :: r)) ((A.length : Nat) : Int) = some ((fore A).length, (fore A).length + x.length) := by rw [Line.line_nat]; exact hL
    exact ⟨Line.start_some hl, x, rfl, Line.stop_some hl⟩
end Gl
end Go.Proofs.YtfhljddakhigdaaGreatDoor
/-
  Ranges without a program: kinds of keys, what a motion goes over, what is cut with it, and how many lines are left.
-/
namespace Go.Proofs.YtfhljddakhigdaaGreatDoor
namespace Span
open Utf (off valid place)
open Line (L L_whole L_valid L_each of_ Whole)

def short : List (List UInt8) := [[104], [108], [48], [94], [36], [124], [119], [98], [87], [66], [123], [125], [70], [84], [110], [78], [96]]
def long : List (List UInt8) := [[101], [69], [102], [116], [37]]
def whole : List (List UInt8) := [[106], [107], [103, 103], [71], [39]]
/-- A key's kind. -/
def kind (key : List UInt8) : Nat := if key ∈ short then 1 else if key ∈ long then 2 else if key ∈ whole then 3 else 0

/-- Is an offset where a line begins, and ends? -/
def starts (s : List UInt8) (p : Nat) : Bool := decide (p = 0) || decide (s[p - 1]? = some 10)
def ends (s : List UInt8) (p : Nat) : Bool := decide (p = s.length) || decide (s[p]? = some 10)
theorem starts_at {s : List UInt8} {k : Nat} {x : Nat × Nat} (h : (L s)[k]? = some x) : starts s x.1 = true := by
  have W := L_whole (L_valid h)
  cases k with
  | zero =>
    obtain ⟨z, hz, h0⟩ := W.head
    rw [hz] at h
    injection h with h
    subst h
    simp [starts, h0]
  | succ k =>
    have hk : k < (L s).length := by have := (List.getElem?_eq_some_iff.1 h).1; omega
    have hz : (L s)[k]? = some (L s)[k] := List.getElem?_eq_getElem hk
    obtain ⟨h1, h2⟩ := W.more k _ x hz h
    simp [starts, h1, h2]
theorem ends_at {s : List UInt8} {k n : Nat} {x : Nat × Nat} (h : (L s)[k]? = some x) (h1 : x.1 ≤ n) (h2 : n ≤ x.2) : ends s n = decide (n = x.2) := by
  have W := L_whole (L_valid h)
  obtain ⟨_, _, h3, h4⟩ := W.each k x h
  rcases Nat.lt_or_ge n x.2 with h5 | h5
  · have := h4 n h1 h5
    rw [ends, decide_eq_false (by omega), decide_eq_false this, decide_eq_false (by omega)]
    rfl
  · obtain rfl : n = x.2 := by omega
    rw [ends]
    cases hy : (L s)[k + 1]? with
    | none => simp [W.last k x h hy]
    | some y => simp [(W.more k x y h hy).2]

/-- Where a rune's end is, or the line's. -/
def top (s : List UInt8) (q : Int) : Int := if q < Line.stop s (of_ s q) then Utf.next s q else q
/-- What a motion of a kind goes over. -/
def rng (s : List UInt8) (p q kind : Int) : Option (Int × Int × Bool) :=
  if (place s p && place s q) = true then
    (if kind = 1 then some (min p q, max p q, false)
     else if kind = 2 then some (min p q, top s (max p q), false)
     else if kind = 3 then some (Line.start s (of_ s (min p q)), Line.stop s (of_ s (max p q)), true)
     else none)
  else none
theorem rng_comm (s : List UInt8) (p q kind : Int) : rng s p q kind = rng s q p kind := by rw [rng, rng, Bool.and_comm, Int.min_comm, Int.max_comm]
theorem rng_bad {s : List UInt8} {p q kind : Int} (h : (place s p && place s q) = false) : rng s p q kind = none := by rw [rng, if_neg (by simp [h])]
theorem rng_kind {s : List UInt8} {p q kind : Int} (h1 : kind ≠ 1) (h2 : kind ≠ 2) (h3 : kind ≠ 3) : rng s p q kind = none := by
  rw [rng, if_neg h1, if_neg h2, if_neg h3]; split <;> rfl
theorem rng_short {s : List UInt8} {p q : Int} (hp : place s p = true) (hq : place s q = true) : rng s p q 1 = some (min p q, max p q, false) := by rw [rng, if_pos (by simp [hp, hq]), if_pos rfl]
theorem rng_long {s : List UInt8} {p q : Int} (hp : place s p = true) (hq : place s q = true) : rng s p q 2 = some (min p q, top s (max p q), false) := by rw [rng, if_pos (by simp [hp, hq]), if_neg (by decide), if_pos rfl]
theorem rng_whole {s : List UInt8} {p q : Int} (hp : place s p = true) (hq : place s q = true) : rng s p q 3 = some (Line.start s (of_ s (min p q)), Line.stop s (of_ s (max p q)), true) := by rw [rng, if_pos (by simp [hp, hq]), if_neg (by decide), if_neg (by decide), if_pos rfl]
/-- What is answered. -/
def res : Option (Int × Int × Bool) → Value
  | some x => .tuple #[.agg #[.int .i64 x.1, .int .i64 x.2.1, .bool x.2.2], .bool true]
  | none => .tuple #[.agg #[.int .i64 0, .int .i64 0, .bool false], .bool false]
theorem res_some (a b : Int) (c : Bool) : res (some (a, b, c)) = .tuple #[.agg #[.int .i64 a, .int .i64 b, .bool c], .bool true] := rfl
theorem res_none : res none = .tuple #[.agg #[.int .i64 0, .int .i64 0, .bool false], .bool false] := rfl
theorem res_form (o : Option (Int × Int × Bool)) : ∃ (a b : Int) (c d : Bool), res o = .tuple #[.agg #[.int .i64 a, .int .i64 b, .bool c], .bool d] := by
  cases o with
  | none => exact ⟨0, 0, false, false, rfl⟩
  | some x => exact ⟨x.1, x.2.1, x.2.2, true, rfl⟩

theorem next_ok {s : List UInt8} {q : Nat} (hq : place s (q : Int) = true) (h : q < s.length) : ∃ m : Nat, Utf.next s (q : Int) = m ∧ place s (m : Int) = true ∧ q < m ∧ m ≤ s.length := by
  obtain ⟨rs, hd⟩ := Option.isSome_iff_exists.1 (Line.place_ok hq)
  obtain ⟨i, hi, he⟩ := (Utf.place_iff hd).1 hq
  have he' : off rs i = q := by omega
  have hlt : i < rs.length := by
    rcases Nat.lt_or_ge i rs.length with h1 | h1
    · exact h1
    · rw [Utf.off_top hd h1] at he'; omega
  refine ⟨off rs (i + 1), by rw [← he, Utf.next_at hd hlt], Utf.place_at hd hlt, ?_, Utf.off_in hd _⟩
  have := Utf.off_lt (Utf.dec_some hd).1 (show i < i + 1 by omega) hlt
  omega
theorem place_min {s : List UInt8} {p q : Int} (hp : place s p = true) (hq : place s q = true) : place s (min p q) = true := by
  rcases Int.le_total p q with h | h
  · rwa [Int.min_eq_left h]
  · rwa [Int.min_eq_right h]
theorem place_max {s : List UInt8} {p q : Int} (hp : place s p = true) (hq : place s q = true) : place s (max p q) = true := by
  rcases Int.le_total p q with h | h
  · rwa [Int.max_eq_right h]
  · rwa [Int.max_eq_left h]

/-- What a range that is told is. -/
structure Lies (s : List UInt8) (p q kind a b : Int) (l : Bool) : Prop where
  pa : place s a = true
  pb : place s b = true
  ap : a ≤ min p q
  qb : max p q ≤ b
  ll : l = (kind == 3)
  al : l = true → starts s a.toNat = true
  bl : l = true → ends s b.toNat = true
theorem rng_lies {s : List UInt8} {p q kind a b : Int} {l : Bool} (h : rng s p q kind = some (a, b, l)) : Lies s p q kind a b l := by
  rw [rng] at h
  split at h
  case isFalse => cases h
  case isTrue hpq =>
    obtain ⟨hp, hq⟩ := Bool.and_eq_true_iff.1 hpq
    have h1 := place_min hp hq
    have h2 := place_max hp hq
    split at h
    case isTrue hk =>
      injection h with h
      injection h with ha h
      injection h with hb hl
      subst ha hb hl hk
      exact ⟨h1, h2, Int.le_refl _, Int.le_refl _, rfl, nofun, nofun⟩
    case isFalse k1 =>
      split at h
      case isTrue hk =>
        injection h with h
        injection h with ha h
        injection h with hb hl
        obtain ⟨n, k, x, hn, hx, h3, h4, h5, _, _, hst⟩ := Line.place_line h2
        have ht : place s b = true ∧ max p q ≤ b := by
          rw [← hb, top, hst]
          split
          · obtain ⟨m, hm, hp, hlt, _⟩ := next_ok (q := n) (by rw [← hn]; exact h2) (by omega)
            rw [hn, hm]
            exact ⟨hp, by omega⟩
          · exact ⟨h2, Int.le_refl _⟩
        subst ha hl hk
        exact ⟨h1, ht.1, Int.le_refl _, ht.2, rfl, nofun, nofun⟩
      case isFalse k2 =>
        split at h
        case isTrue hk =>
          injection h with h
          injection h with ha h
          injection h with hb hl
          obtain ⟨n, j, x, hn, hx, h3, h4, h5, _, hsx, _⟩ := Line.place_line h1
          obtain ⟨m, k, y, hm, hy, h6, h7, h8, _, _, hst⟩ := Line.place_line h2
          rw [hsx] at ha
          rw [hst] at hb
          subst ha hb hl hk
          refine ⟨Line.start_ok hx, Line.stop_ok hy, by omega, by omega, rfl, fun _ => starts_at hx, fun _ => ?_⟩
          rw [Int.toNat_natCast, ends_at hy (L_each hy).1 (Nat.le_refl _)]
          simp
        case isFalse => cases h
/-- A range of whole lines, by its lines. -/
theorem rng_lines {s : List UInt8} {p q : Int} (hp : place s p = true) (hq : place s q = true) : ∃ (j k : Nat) (x y : Nat × Nat), j ≤ k ∧ (L s)[j]? = some x ∧ (L s)[k]? = some y ∧ rng s p q 3 = some ((x.1 : Int), (y.2 : Int), true) := by
  have h1 := place_min hp hq
  have h2 := place_max hp hq
  obtain ⟨n, j, x, hn, hx, h3, h4, h5, _, hsx, _⟩ := Line.place_line h1
  obtain ⟨m, k, y, hm, hy, h6, h7, h8, _, _, hst⟩ := Line.place_line h2
  refine ⟨j, k, x, y, ?_, hx, hy, by rw [rng_whole hp hq, hsx, hst]⟩
  rcases Nat.lt_or_ge k j with h | h
  · have := (L_whole (L_valid hx)).mono hy hx h
    omega
  · exact h

/-- As many line feeds, and one more. -/
theorem lns_count (a i : Nat) (t : List UInt8) : (Line.lns a i t).length = t.count 10 + 1 := by
  induction t generalizing a i with
  | nil => rfl
  | cons b t ih =>
    rw [Line.lns]
    split
    · rename_i h; subst h; simp [ih]
    · rename_i h; rw [ih, List.count_cons_of_ne h]
theorem L_count {s : List UInt8} (h : valid s = true) : (L s).length = s.count 10 + 1 := by rw [Line.L_ok h]; exact lns_count 0 0 s
theorem count_more {s : List UInt8} {a n : Nat} (h : ∀ p, a ≤ p → p < a + n → s[p]? ≠ some 10) : (s.take (a + n)).count 10 = (s.take a).count 10 := by
  induction n with
  | zero => rfl
  | succ n ih =>
    rw [← Nat.add_assoc, List.take_add_one, List.count_append, ih (fun p h1 h2 => h p h1 (by omega))]
    have := h (a + n) (by omega) (by omega)
    cases hs : s[a + n]? with
    | none => simp
    | some b =>
      rw [hs] at this
      have hb : b ≠ 10 := fun h => this (by rw [h])
      simp [List.count_cons_of_ne hb]
theorem count_line {s : List UInt8} {k : Nat} {x : Nat × Nat} (h : (L s)[k]? = some x) : (s.take x.1).count 10 = k ∧ (s.take x.2).count 10 = k := by
  have W := L_whole (L_valid h)
  have key : (s.take x.2).count 10 = (s.take x.1).count 10 := by
    obtain ⟨_, h1, _, h2⟩ := W.each k x h
    have := count_more (s := s) (a := x.1) (n := x.2 - x.1) (fun p h3 h4 => h2 p h3 (by omega))
    rwa [show x.1 + (x.2 - x.1) = x.2 by omega] at this
  rw [key]
  suffices h0 : (s.take x.1).count 10 = k from ⟨h0, h0⟩
  clear key
  induction k generalizing x with
  | zero =>
    obtain ⟨z, hz, h0⟩ := W.head
    rw [hz] at h
    injection h with h
    subst h
    rw [h0]; rfl
  | succ k ih =>
    have hk : k < (L s).length := by have := (List.getElem?_eq_some_iff.1 h).1; omega
    have hz : (L s)[k]? = some (L s)[k] := List.getElem?_eq_getElem hk
    obtain ⟨h1, h2⟩ := W.more k _ x hz h
    obtain ⟨_, h3, _, h4⟩ := W.each k _ hz
    have := count_more (s := s) (a := (L s)[k].1) (n := (L s)[k].2 - (L s)[k].1) (fun p h5 h6 => h4 p h5 (by omega))
    rw [show (L s)[k].1 + ((L s)[k].2 - (L s)[k].1) = (L s)[k].2 by omega, ih hz] at this
    rw [h1, List.take_add_one, List.count_append, this, h2]
    rfl
theorem left_valid {s : List UInt8} {a b : Nat} (ha : place s (a : Int) = true) (hb : place s (b : Int) = true) : valid (s.take a ++ s.drop b) = true := by
  obtain ⟨rs, hd⟩ := Option.isSome_iff_exists.1 (Line.place_ok ha)
  obtain ⟨i, hi, he⟩ := (Utf.place_iff hd).1 ha
  obtain ⟨j, hj, hf⟩ := (Utf.place_iff hd).1 hb
  obtain rfl : off rs i = a := by omega
  obtain rfl : off rs j = b := by omega
  obtain ⟨h1, h2⟩ := Utf.dec_some hd
  rw [h2, Utf.off_take, Utf.off_drop, ← List.flatten_append, Utf.valid, Utf.dec_of]
  · rfl
  · intro r hr
    rcases List.mem_append.1 hr with h | h
    · exact h1 r (List.mem_of_mem_take h)
    · exact h1 r (List.mem_of_mem_drop h)
/-- What is cut with whole lines from a to b. -/
def cutA (s : List UInt8) (a b : Nat) : Nat := if b < s.length then a else a - 1
def cutB (s : List UInt8) (b : Nat) : Nat := if b < s.length then b + 1 else b
theorem cut_left {s : List UInt8} {j k : Nat} {x y : Nat × Nat} (hjk : j ≤ k) (hx : (L s)[j]? = some x) (hy : (L s)[k]? = some y) :
    cutA s x.1 y.2 ≤ cutB s y.2 ∧ cutB s y.2 ≤ s.length ∧ ((L (s.take (cutA s x.1 y.2) ++ s.drop (cutB s y.2))).length : Int) = max 1 (((L s).length : Int) - ((k : Int) - (j : Int) + 1)) := by
  have hv := L_valid hx
  have W := L_whole hv
  have hxs := L_each hx
  have hys := L_each hy
  have hxy : x.1 ≤ y.2 := by
    rcases Nat.eq_or_lt_of_le hjk with h | h
    · subst h; rw [hx] at hy; injection hy with hy; subst hy; exact hxs.1
    · have := W.mono hx hy h; omega
  have cx := count_line hx
  have cy := count_line hy
  have hL := L_count hv
  have hsum : ∀ n, (s.take n).count 10 + (s.drop n).count 10 = s.count 10 := fun n => by rw [← List.count_append, List.take_append_drop]
  unfold cutA cutB
  cases hz : (L s)[k + 1]? with
  | some z =>
    obtain ⟨h1, h2⟩ := W.more k y z hy hz
    have hlt : y.2 < s.length := (List.getElem?_eq_some_iff.1 h2).1
    have hkl := (List.getElem?_eq_some_iff.1 hz).1
    rw [if_pos hlt, if_pos hlt, ← h1]
    refine ⟨by omega, by omega, ?_⟩
    rw [L_count (left_valid (Line.start_ok hx) (Line.start_ok hz)), List.count_append]
    have := hsum z.1
    have := (count_line hz).1
    omega
  | none =>
    have h1 := W.last k y hy hz
    have hkl := (List.getElem?_eq_some_iff.1 hy).1
    have hkn : (L s).length = k + 1 := by
      rcases Nat.lt_or_ge (k + 1) (L s).length with h | h
      · rw [List.getElem?_eq_getElem h] at hz; cases hz
      · omega
    rw [if_neg (by omega), if_neg (by omega)]
    refine ⟨by omega, by omega, ?_⟩
    rw [h1, List.drop_length, List.append_nil]
    cases j with
    | zero =>
      obtain ⟨u, hu, h0⟩ := W.head
      rw [hu] at hx
      injection hx with hx
      subst hx
      rw [h0, show s.take (0 - 1) = [] from rfl, L_count (by rw [Utf.valid, Utf.dec_nil]; rfl)]
      rw [show List.count (10 : UInt8) [] = 0 from rfl]
      omega
    | succ j =>
      have hj : j < (L s).length := by have := (List.getElem?_eq_some_iff.1 hx).1; omega
      have hu : (L s)[j]? = some (L s)[j] := List.getElem?_eq_getElem hj
      have h2 := (W.more j _ x hu hx).1
      rw [h2, Nat.add_sub_cancel]
      have h3 := left_valid (Line.stop_ok hu) (b := s.length) (by rw [← h1]; exact Line.stop_ok hy)
      rw [List.drop_length, List.append_nil] at h3
      rw [L_count h3, (count_line hu).2]
      omega
end Span
end Go.Proofs.YtfhljddakhigdaaGreatDoor
/-
  Answers that are, or begin with, a struct of three cells.
-/
namespace Go.Proofs.YtfhljddakhigdaaGreatDoor
open Go.RowKit
theorem results_row_and {P : Program} {fn : Func} {p u : Tmp} {ty : TypeId} (h : fn.results = #[.cell p ty, .tmp u]) (tmps : Array Value) (w : World) (g : Nat) (t : TypeId) (cs : Array Value) (fr : Nat × Nat) (d : TypeDesc)
    (hp : tmps.getD p undef = .pointer (some ⟨g, 0, none⟩)) (hg : w.heap[g]? = some (.cells cs t fr))
    (hu : P.underlying ty = some d) (hd : (match d with | .struct _ | .array _ _ => true | _ => false) = true) (hi : (P.info? ty).map (·.size) = some cs.size) :
    (results fn tmps).run P w = .ok (.tuple #[.agg cs, tmps.getD u undef]) w := by
  have hp' : tmps[p]?.getD undef = .pointer (some ⟨g, 0, none⟩) := by simpa using hp
  simp [results, h, hp', asAddr, run_loadVar_row w g t ty cs fr d hg hu hd hi]
section
variable {P : Program} {fn : Func} {R : Ending → World → Prop} {a : Act} {w : World} {g : Nat} {t : TypeId} {v0 v1 v2 c0 c1 c2 : Value} {p u : Tmp} {fs : Array Field} {ty : TypeId}
theorem three_row (hB : Blk w g t #[c0, c1, c2]) : Blk (((w.setCell ⟨g, 0, none⟩ v0).setCell ⟨g, 1, none⟩ v1).setCell ⟨g, 2, none⟩ v2) g t #[v0, v1, v2] := ((hB.set_ 0 v0).set_ 1 v1).set_ 2 v2
theorem ret_three (h : fn.results = #[.cell p ty]) (hp : a.tmps.getD p undef = .pointer (some ⟨g, 0, none⟩)) (hB : Blk w g t #[v0, v1, v2]) (hd : a.defers = []) (hu : P.underlying ty = some (.struct fs)) (hi : (P.info? ty).map (·.size) = some 3)
    (hR : R (.returned (.agg #[v0, v1, v2])) w) : bodyPost P fn R .ret a w :=
  bodyPost_ret (results_cell_row h _ _ g t #[v0, v1, v2] (0, 0) _ hp hB hu rfl hi) hd hR
theorem ret_three1 (h : fn.results = #[.cell p ty, .tmp u]) (hp : a.tmps.getD p undef = .pointer (some ⟨g, 0, none⟩)) (hB : Blk w g t #[v0, v1, v2]) (hd : a.defers = []) (hu : P.underlying ty = some (.struct fs)) (hi : (P.info? ty).map (·.size) = some 3)
    (hR : R (.returned (.tuple #[.agg #[v0, v1, v2], a.tmps.getD u undef])) w) : bodyPost P fn R .ret a w :=
  bodyPost_ret (results_row_and h _ _ g t #[v0, v1, v2] (0, 0) _ hp hB hu rfl hi) hd hR
end
/-- What a store into the row wants. -/
theorem row_three {w : World} {g : Nat} {t : TypeId} {c0 c1 c2 : Value} (h : Blk w g t #[c0, c1, c2]) : w.cell? ⟨g, 0, none⟩ = some c0 ∧ w.cell? ⟨g, 1, none⟩ = some c1 ∧ w.cell? ⟨g, 2, none⟩ = some c2 ∧ w.frozen? ⟨g, 0, none⟩ = false ∧ w.frozen? ⟨g, 1, none⟩ = false ∧ w.frozen? ⟨g, 2, none⟩ = false :=
  ⟨h.cell 0, h.cell 1, h.cell 2, h.frozen 0, h.frozen 1, h.frozen 2⟩
theorem below_three {n g : Nat} {w u : World} {v0 v1 v2 : Value} (h : Below n w u) (hg : n ≤ g) : Below n w (((u.setCell ⟨g, 0, none⟩ v0).setCell ⟨g, 1, none⟩ v1).setCell ⟨g, 2, none⟩ v2) := ((h.setCell (p := ⟨g, 0, none⟩) hg v0).setCell (p := ⟨g, 1, none⟩) hg v1).setCell (p := ⟨g, 2, none⟩) hg v2
end Go.Proofs.YtfhljddakhigdaaGreatDoor
/-
  Package span: where lines begin and end; whether a range may be.
-/
namespace Go.Proofs.YtfhljddakhigdaaGreatDoor
open Go.RowKit
open Span (starts ends)
namespace Span
/-- May a range be? -/
def right (s : List UInt8) (a b : Int) (l : Bool) : Bool := decide (a ≤ b) && (Utf.place s a && (Utf.place s b && (!l || (starts s a.toNat && ends s b.toNat))))
theorem right_lies {s : List UInt8} {p q kind a b : Int} {l : Bool} (h : Lies s p q kind a b l) : right s a b l = true := by
  have h1 := h.ap
  have h2 := h.qb
  rw [right, decide_eq_true (by omega), h.pa, h.pb]
  cases l with
  | false => rfl
  | true => rw [h.al rfl, h.bl rfl]; rfl
theorem feed_test (b : UInt8) : ((b.toNat : Int) == 10) = decide (b = 10) := by
  rw [Bool.eq_iff_iff, beq_iff_eq, decide_eq_true_iff]
  refine ⟨fun h => UInt8.toNat_inj.1 ?_, fun h => by rw [h]; rfl⟩
  rw [show (10 : UInt8).toNat = 10 from rfl]
  omega
end Span
theorem span_starts (s : ByteArray) {x : Nat} (hx : x ≤ s.size) (hs : s.size ≤ 9223372036854775807) (w : World) :
    Calls Tryz.prog 35 #[.string s, .int .i64 x] w fun e w' => e = .returned (.bool (starts s.data.toList x)) ∧ w = w' := by
  cases x with
  | zero =>
    go_enter Tryz.func35, Tryz.ntmps35
    go_wp2
    go_ret
    exact ⟨rfl, rfl⟩
  | succ x =>
    have H : Hid (starts s.data.toList (x + 1) = decide (s[x]'(by omega) = 10)) := by
      show _ = _
      rw [starts, Nat.add_sub_cancel, byte_get s (by omega), decide_eq_false (by omega)]
      simp
    have g0 := Span.feed_test (s[x]'(by omega))
    have g1 : (((x + 1 : Nat) : Int) == 0) = false := by rw [beq_eq_false_iff_ne]; omega
    have g2 : ((x : Int) + 1 == 0) = false := by rw [beq_eq_false_iff_ne]; omega
    have g3 : wrap64 (x : Int) = (x : Int) := by unfold wrap64; omega
    generalize decide (s[x]'(by omega) = 10) = z at *
    go_enter Tryz.func35, Tryz.ntmps35
    go_wp2
    go_ret
    exact ⟨by rw [H.out]; rfl, rfl⟩
theorem span_ends (s : ByteArray) {x : Nat} (hx : x ≤ s.size) (w : World) :
    Calls Tryz.prog 64 #[.string s, .int .i64 x] w fun e w' => e = .returned (.bool (ends s.data.toList x)) ∧ w = w' := by
  rcases Nat.lt_or_ge x s.size with h | h
  · have H : Hid (ends s.data.toList x = decide (s[x] = 10)) := by
      show _ = _
      rw [ends, byte_get s h, data_len, decide_eq_false (by omega)]
      simp
    have g0 := Span.feed_test s[x]
    have g1 : ((x : Int) == (s.size : Int)) = false := by simp; omega
    generalize decide (s[x] = 10) = z at *
    go_enter Tryz.func64, Tryz.ntmps64
    go_wp2
    go_ret
    exact ⟨by rw [H.out]; rfl, rfl⟩
  · have H : Hid (ends s.data.toList x = true) := by
      show _ = _
      rw [ends, data_len, decide_eq_true (by omega)]; rfl
    have g1 : ((x : Int) == (s.size : Int)) = true := by simp; omega
    go_enter Tryz.func64, Tryz.ntmps64
    go_wp2
    go_ret
    exact ⟨by rw [H.out]; rfl, rfl⟩
/-- The box of a range. -/
structure RBox (w u : World) (a b : Int) (l : Bool) : Prop where
  below : Below w.heap.size w u
  blk : Blk u w.heap.size 23 #[.int .i64 a, .int .i64 b, .bool l]
theorem RBox.drew {w u : World} {a b : Int} {l : Bool} (h : RBox w u a b l) : RBox w u.drew a b l := ⟨h.below.trans ((below_gb (gb_drew u none)).mono h.below.size), h.blk⟩
theorem RBox.on {w u v : World} {a b : Int} {l : Bool} (h : RBox w u a b l) (hb : Below u.heap.size u v) : RBox w v a b l := ⟨h.below.trans (hb.mono h.below.size), h.blk.below hb h.blk.lt⟩
theorem RBox.ond {w u v : World} {a b : Int} {l : Bool} (h : RBox w u a b l) (hb : Below u.drew.heap.size u.drew v) : RBox w v a b l := h.drew.on hb
theorem RBox.cells {w u : World} {a b : Int} {l : Bool} (h : RBox w u a b l) : u.cell? ⟨w.heap.size, 0, none⟩ = some (.int .i64 a) ∧ u.cell? ⟨w.heap.size, 1, none⟩ = some (.int .i64 b) ∧ u.cell? ⟨w.heap.size, 2, none⟩ = some (.bool l) ∧ u.frozen? ⟨w.heap.size, 0, none⟩ = false ∧ u.frozen? ⟨w.heap.size, 1, none⟩ = false ∧ u.frozen? ⟨w.heap.size, 2, none⟩ = false := row_three h.blk
theorem RBox.new (w : World) (a b : Int) (l : Bool) : RBox w (w.alloc (.cells #[.int .i64 a, .int .i64 b, .bool l] 23)) a b l := ⟨(Below.refl _ w).alloc (Nat.le_refl _) _, Blk.new _ _ _⟩
theorem RBox.alloc {w u : World} {a b : Int} {l : Bool} (h : RBox w u a b l) (o : Obj) : RBox w (u.alloc o) a b l := ⟨h.below.alloc h.below.size o, h.blk.alloc o⟩
set_option maxHeartbeats 1000000 in
set_option maxRecDepth 100000 in
theorem span_Right_low (s : ByteArray) (a b : Int) (l : Bool) (hs : s.size ≤ 1000000000000) (h0 : b < a) (w : World) :
    Calls Tryz.prog 33 #[.string s, .agg #[.int .i64 a, .int .i64 b, .bool l]] w fun e w' => e = .returned (.bool false) ∧ Below w.heap.size w w' := by
  have hX : Below w.heap.size w (w.alloc (.cells #[.int .i64 a, .int .i64 b, .bool l] 23)) := (Below.refl _ w).alloc (Nat.le_refl _) _
  have P1 := Lib.hid (fun w => utf_Place s a (by omega) w)
  have P2 := Lib.hid (fun w => utf_Place s b (by omega) w)
  have g0 : decide (b < a) = true := decide_eq_true h0
  clear hs h0 P1 P2
  go_enter Tryz.func33, Tryz.ntmps33
  go_wp2_with fail
  go_ret
  exact ⟨rfl, hX⟩
set_option maxHeartbeats 1000000 in
set_option maxRecDepth 100000 in
theorem span_Right_from (s : ByteArray) (a b : Int) (l : Bool) (hs : s.size ≤ 1000000000000) (h0 : a ≤ b) (h1 : Utf.place s.data.toList a = false) (w : World) :
    Calls Tryz.prog 33 #[.string s, .agg #[.int .i64 a, .int .i64 b, .bool l]] w fun e w' => e = .returned (.bool false) ∧ Below w.heap.size w w' := by
  have hX : Below w.heap.size w (w.alloc (.cells #[.int .i64 a, .int .i64 b, .bool l] 23)) := (Below.refl _ w).alloc (Nat.le_refl _) _
  have P1 := Lib.hid (fun w => utf_Place s a (by omega) w)
  have P2 := Lib.hid (fun w => utf_Place s b (by omega) w)
  have g0 : decide (b < a) = false := decide_eq_false (by omega)
  rw [h1] at P1
  clear hs h0 h1 P2
  go_enter Tryz.func33, Tryz.ntmps33
  go_wp2_with (first
    | (go_at_call 53; (with_reducible refine (P1.out _).mono ?_); rintro e w1 ⟨rfl, rfl⟩))
  go_ret
  exact ⟨rfl, hX⟩
set_option maxHeartbeats 1000000 in
set_option maxRecDepth 100000 in
theorem span_Right_to (s : ByteArray) (a b : Int) (l : Bool) (hs : s.size ≤ 1000000000000) (h0 : a ≤ b) (h1 : Utf.place s.data.toList a = true) (h2 : Utf.place s.data.toList b = false) (w : World) :
    Calls Tryz.prog 33 #[.string s, .agg #[.int .i64 a, .int .i64 b, .bool l]] w fun e w' => e = .returned (.bool false) ∧ Below w.heap.size w w' := by
  have hX : Below w.heap.size w (w.alloc (.cells #[.int .i64 a, .int .i64 b, .bool l] 23)) := (Below.refl _ w).alloc (Nat.le_refl _) _
  have P1 := Lib.hid (fun w => utf_Place s a (by omega) w)
  have P2 := Lib.hid (fun w => utf_Place s b (by omega) w)
  have g0 : decide (b < a) = false := decide_eq_false (by omega)
  rw [h1] at P1
  rw [h2] at P2
  clear hs h0 h1 h2
  go_enter Tryz.func33, Tryz.ntmps33
  go_wp2_with (first
    | (go_at_call 53; (with_reducible refine (P1.out _).mono ?_); rintro e w1 ⟨rfl, rfl⟩)
    | (go_at_call 53; (with_reducible refine (P2.out _).mono ?_); rintro e w1 ⟨rfl, rfl⟩))
  go_ret
  exact ⟨rfl, hX⟩
set_option maxHeartbeats 1000000 in
set_option maxRecDepth 100000 in
theorem span_Right_text (s : ByteArray) (a b : Int) (l : Bool) (hs : s.size ≤ 1000000000000) (h0 : a ≤ b) (h1 : Utf.place s.data.toList a = true) (h2 : Utf.place s.data.toList b = true) (h3 : l = false) (w : World) :
    Calls Tryz.prog 33 #[.string s, .agg #[.int .i64 a, .int .i64 b, .bool l]] w fun e w' => e = .returned (.bool true) ∧ Below w.heap.size w w' := by
  have hX : Below w.heap.size w (w.alloc (.cells #[.int .i64 a, .int .i64 b, .bool l] 23)) := (Below.refl _ w).alloc (Nat.le_refl _) _
  have P1 := Lib.hid (fun w => utf_Place s a (by omega) w)
  have P2 := Lib.hid (fun w => utf_Place s b (by omega) w)
  have g0 : decide (b < a) = false := decide_eq_false (by omega)
  rw [h1] at P1
  rw [h2] at P2
  subst h3
  clear hs h0 h1 h2
  go_enter Tryz.func33, Tryz.ntmps33
  go_wp2_with (first
    | (go_at_call 53; (with_reducible refine (P1.out _).mono ?_); rintro e w1 ⟨rfl, rfl⟩)
    | (go_at_call 53; (with_reducible refine (P2.out _).mono ?_); rintro e w1 ⟨rfl, rfl⟩))
  go_ret
  exact ⟨rfl, hX⟩
set_option maxHeartbeats 1000000 in
set_option maxRecDepth 100000 in
theorem span_Right_first (s : ByteArray) (a b : Int) (l : Bool) (hs : s.size ≤ 1000000000000) (h0 : a ≤ b) (h1 : Utf.place s.data.toList a = true) (h2 : Utf.place s.data.toList b = true) (h3 : l = true) (h4 : starts s.data.toList a.toNat = false) (w : World) :
    Calls Tryz.prog 33 #[.string s, .agg #[.int .i64 a, .int .i64 b, .bool l]] w fun e w' => e = .returned (.bool false) ∧ Below w.heap.size w w' := by
  have hX : Below w.heap.size w (w.alloc (.cells #[.int .i64 a, .int .i64 b, .bool l] 23)) := (Below.refl _ w).alloc (Nat.le_refl _) _
  have P1 := Lib.hid (fun w => utf_Place s a (by omega) w)
  have P2 := Lib.hid (fun w => utf_Place s b (by omega) w)
  have g0 : decide (b < a) = false := decide_eq_false (by omega)
  rw [h1] at P1
  rw [h2] at P2
  subst h3
  obtain ⟨x, rfl, hx⟩ := Line.place_nat h1
  obtain ⟨y, rfl, hy⟩ := Line.place_nat h2
  rw [data_len] at hx hy
  rw [Int.toNat_natCast] at h4
  have S1 := Lib.hid (fun w => span_starts s hx (by omega) w)
  rw [h4] at S1
  have g9 : decide (y < x) = false := decide_eq_false (by omega)
  clear hs h0 h1 h2 h4 hx hy
  go_enter Tryz.func33, Tryz.ntmps33
  go_wp2_with (first
    | (go_at_call 53; (with_reducible refine (P1.out _).mono ?_); rintro e w1 ⟨rfl, rfl⟩)
    | (go_at_call 53; (with_reducible refine (P2.out _).mono ?_); rintro e w1 ⟨rfl, rfl⟩)
    | (go_at_call 35; (with_reducible refine (S1.out _).mono ?_); rintro e w1 ⟨rfl, rfl⟩))
  go_ret
  exact ⟨rfl, hX⟩
set_option maxHeartbeats 1000000 in
set_option maxRecDepth 100000 in
theorem span_Right_lines (s : ByteArray) (a b : Int) (l : Bool) (hs : s.size ≤ 1000000000000) (h0 : a ≤ b) (h1 : Utf.place s.data.toList a = true) (h2 : Utf.place s.data.toList b = true) (h3 : l = true) (h4 : starts s.data.toList a.toNat = true) (w : World) :
    Calls Tryz.prog 33 #[.string s, .agg #[.int .i64 a, .int .i64 b, .bool l]] w fun e w' => e = .returned (.bool (ends s.data.toList b.toNat)) ∧ Below w.heap.size w w' := by
  have hX : Below w.heap.size w (w.alloc (.cells #[.int .i64 a, .int .i64 b, .bool l] 23)) := (Below.refl _ w).alloc (Nat.le_refl _) _
  have P1 := Lib.hid (fun w => utf_Place s a (by omega) w)
  have P2 := Lib.hid (fun w => utf_Place s b (by omega) w)
  have g0 : decide (b < a) = false := decide_eq_false (by omega)
  rw [h1] at P1
  rw [h2] at P2
  subst h3
  obtain ⟨x, rfl, hx⟩ := Line.place_nat h1
  obtain ⟨y, rfl, hy⟩ := Line.place_nat h2
  rw [data_len] at hx hy
  rw [Int.toNat_natCast] at h4
  have S1 := Lib.hid (fun w => span_starts s hx (by omega) w)
  rw [h4] at S1
  have g9 : decide (y < x) = false := decide_eq_false (by omega)
  have E1 := Lib.hid (fun w => span_ends s hy w)
  rw [Int.toNat_natCast]
  generalize ends s.data.toList y = z at *
  clear hs h0 h1 h2 h4 hx hy
  go_enter Tryz.func33, Tryz.ntmps33
  go_wp2_with (first
    | (go_at_call 53; (with_reducible refine (P1.out _).mono ?_); rintro e w1 ⟨rfl, rfl⟩)
    | (go_at_call 53; (with_reducible refine (P2.out _).mono ?_); rintro e w1 ⟨rfl, rfl⟩)
    | (go_at_call 35; (with_reducible refine (S1.out _).mono ?_); rintro e w1 ⟨rfl, rfl⟩)
    | (go_at_call 64; (with_reducible refine (E1.out _).mono ?_); rintro e w1 ⟨rfl, rfl⟩))
  go_ret
  exact ⟨rfl, hX⟩
theorem span_Right (s : ByteArray) (a b : Int) (l : Bool) (hs : s.size ≤ 1000000000000) (w : World) :
    Calls Tryz.prog 33 #[.string s, .agg #[.int .i64 a, .int .i64 b, .bool l]] w fun e w' => e = .returned (.bool (Span.right s.data.toList a b l)) ∧ Below w.heap.size w w' := by
  rw [Span.right]
  rcases Int.lt_or_le b a with h0 | h0
  · rw [decide_eq_false (by omega)]; exact span_Right_low s a b l hs h0 w
  rw [decide_eq_true h0]
  cases h1 : Utf.place s.data.toList a with
  | false => exact span_Right_from s a b l hs h0 h1 w
  | true =>
    cases h2 : Utf.place s.data.toList b with
    | false => exact span_Right_to s a b l hs h0 h1 h2 w
    | true =>
      cases l with
      | false => exact span_Right_text s a b false hs h0 h1 h2 rfl w
      | true =>
        cases h4 : starts s.data.toList a.toNat with
        | false => exact span_Right_first s a b true hs h0 h1 h2 rfl h4 w
        | true => exact span_Right_lines s a b true hs h0 h1 h2 rfl h4 w
end Go.Proofs.YtfhljddakhigdaaGreatDoor
/-
  Package span: a range's lines.
-/
namespace Go.Proofs.YtfhljddakhigdaaGreatDoor
open Go.RowKit
open Span (starts ends)
/-- A range's lines. -/
def Span.lines (s : List UInt8) (a b : Int) (l : Bool) : Int × Int :=
  if Span.right s a b l = true then (Line.of_ s a, if (!l && (decide (a < b) && starts s b.toNat)) = true then Line.of_ s b - 1 else Line.of_ s b) else (-1, -1)
theorem Span.right_to {s : List UInt8} {a b : Int} {l : Bool} (h : Span.right s a b l = true) : a ≤ b ∧ Utf.place s a = true ∧ Utf.place s b = true := by
  rw [Span.right, Bool.and_eq_true, Bool.and_eq_true, Bool.and_eq_true] at h
  exact ⟨of_decide_eq_true h.1, h.2.1, h.2.2.1⟩
theorem Span.of_small {s : List UInt8} {p : Int} (h : Utf.place s p = true) : 0 ≤ Line.of_ s p ∧ Line.of_ s p ≤ s.length := by
  obtain ⟨n, k, x, rfl, hx, _, _, _, hk, _, _⟩ := Line.place_line h
  have h1 := (List.getElem?_eq_some_iff.1 hx).1
  have h2 := Line.L_length s
  omega
set_option maxHeartbeats 1000000 in
set_option maxRecDepth 100000 in
theorem span_Lines_no (s : ByteArray) (a b : Int) (l : Bool) (hs : s.size ≤ 1000000000000) (h : Span.right s.data.toList a b l = false) (w : World) :
    Calls Tryz.prog 10 #[.string s, .agg #[.int .i64 a, .int .i64 b, .bool l]] w fun e w' => e = .returned (.tuple #[.int .i64 (-1), .int .i64 (-1)]) ∧ Below w.heap.size w w' := by
  have K := RBox.new w a b l
  obtain ⟨q0, q1, q2, f0, f1, f2⟩ := K.cells
  have R1 := Lib.hid (fun w => span_Right s a b l hs w)
  rw [h] at R1
  clear hs h
  go_enter Tryz.func10, Tryz.ntmps10
  go_wp2_with (go_at_call 33; (with_reducible refine (R1.out _).mono ?_); rintro e u ⟨rfl, hb⟩; replace K := K.on hb; clear hb; clear q0 q1 q2 f0 f1 f2; obtain ⟨q0, q1, q2, f0, f1, f2⟩ := K.cells)
  go_ret2
  exact ⟨rfl, K.below⟩
set_option maxHeartbeats 1000000 in
set_option maxRecDepth 100000 in
theorem span_Lines_whole (s : ByteArray) (a b : Int) (hs : s.size ≤ 1000000000000) (h : Span.right s.data.toList a b true = true) (w : World) :
    Calls Tryz.prog 10 #[.string s, .agg #[.int .i64 a, .int .i64 b, .bool true]] w fun e w' => e = .returned (.tuple #[.int .i64 (Line.of_ s.data.toList a), .int .i64 (Line.of_ s.data.toList b)]) ∧ Below w.heap.size w w' := by
  have K := RBox.new w a b true
  obtain ⟨q0, q1, q2, f0, f1, f2⟩ := K.cells
  have R1 := Lib.hid (fun w => span_Right s a b true hs w)
  rw [h] at R1
  have A1 := Lib.hid (fun w => line_Of s a hs w)
  have A2 := Lib.hid (fun w => line_Of s b hs w)
  generalize Line.of_ s.data.toList a = x at *
  generalize Line.of_ s.data.toList b = y at *
  clear hs h
  go_enter Tryz.func10, Tryz.ntmps10
  go_wp2_with (first | (go_at_call 33; (with_reducible refine (R1.out _).mono ?_); rintro e u ⟨rfl, hb⟩; replace K := K.on hb; clear hb; clear q0 q1 q2 f0 f1 f2; obtain ⟨q0, q1, q2, f0, f1, f2⟩ := K.cells) | fail)
  go_region_held3 (fun u => u.cell? ⟨w.heap.size, 0, none⟩ = some (.int .i64 a) ∧ u.cell? ⟨w.heap.size, 1, none⟩ = some (.int .i64 b)) (first | (with_reducible exact ⟨by assumption, by assumption⟩) | go_keep)
    (first
      | (go_at_call 34; (with_reducible refine (A1.out _).mono ?_); rintro e u ⟨rfl, hb⟩; (first | replace K := K.on hb | replace K := K.ond hb); clear hb; clear q0 q1 q2 f0 f1 f2; obtain ⟨q0, q1, q2, f0, f1, f2⟩ := K.cells)
      | (go_at_call 34; (with_reducible refine (A2.out _).mono ?_); rintro e u ⟨rfl, hb⟩; (first | replace K := K.on hb | replace K := K.ond hb); clear hb; clear q0 q1 q2 f0 f1 f2; obtain ⟨q0, q1, q2, f0, f1, f2⟩ := K.cells))
  all_goals go_wp2
  all_goals go_ret2
  all_goals exact ⟨rfl, K.below⟩
set_option maxHeartbeats 1000000 in
set_option maxRecDepth 100000 in
theorem span_Lines_none (s : ByteArray) (a b : Int) (hs : s.size ≤ 1000000000000) (h : Span.right s.data.toList a b false = true) (h0 : ¬ a < b) (w : World) :
    Calls Tryz.prog 10 #[.string s, .agg #[.int .i64 a, .int .i64 b, .bool false]] w fun e w' => e = .returned (.tuple #[.int .i64 (Line.of_ s.data.toList a), .int .i64 (Line.of_ s.data.toList b)]) ∧ Below w.heap.size w w' := by
  have K := RBox.new w a b false
  obtain ⟨q0, q1, q2, f0, f1, f2⟩ := K.cells
  have R1 := Lib.hid (fun w => span_Right s a b false hs w)
  rw [h] at R1
  have g0 : decide (a < b) = false := decide_eq_false h0
  have A1 := Lib.hid (fun w => line_Of s a hs w)
  have A2 := Lib.hid (fun w => line_Of s b hs w)
  generalize Line.of_ s.data.toList a = x at *
  generalize Line.of_ s.data.toList b = y at *
  clear hs h h0
  go_enter Tryz.func10, Tryz.ntmps10
  go_wp2_with (first | (go_at_call 33; (with_reducible refine (R1.out _).mono ?_); rintro e u ⟨rfl, hb⟩; replace K := K.on hb; clear hb; clear q0 q1 q2 f0 f1 f2; obtain ⟨q0, q1, q2, f0, f1, f2⟩ := K.cells) | fail)
  go_region_held3 (fun u => u.cell? ⟨w.heap.size, 0, none⟩ = some (.int .i64 a) ∧ u.cell? ⟨w.heap.size, 1, none⟩ = some (.int .i64 b)) (first | (with_reducible exact ⟨by assumption, by assumption⟩) | go_keep)
    (first
      | (go_at_call 34; (with_reducible refine (A1.out _).mono ?_); rintro e u ⟨rfl, hb⟩; (first | replace K := K.on hb | replace K := K.ond hb); clear hb; clear q0 q1 q2 f0 f1 f2; obtain ⟨q0, q1, q2, f0, f1, f2⟩ := K.cells)
      | (go_at_call 34; (with_reducible refine (A2.out _).mono ?_); rintro e u ⟨rfl, hb⟩; (first | replace K := K.on hb | replace K := K.ond hb); clear hb; clear q0 q1 q2 f0 f1 f2; obtain ⟨q0, q1, q2, f0, f1, f2⟩ := K.cells))
  all_goals go_wp2
  all_goals go_ret2
  all_goals exact ⟨rfl, K.below⟩
set_option maxHeartbeats 1000000 in
set_option maxRecDepth 100000 in
theorem span_Lines_in (s : ByteArray) (a b : Int) (hs : s.size ≤ 1000000000000) (h : Span.right s.data.toList a b false = true) (h0 : a < b) (h1 : starts s.data.toList b.toNat = false) (w : World) :
    Calls Tryz.prog 10 #[.string s, .agg #[.int .i64 a, .int .i64 b, .bool false]] w fun e w' => e = .returned (.tuple #[.int .i64 (Line.of_ s.data.toList a), .int .i64 (Line.of_ s.data.toList b)]) ∧ Below w.heap.size w w' := by
  have K := RBox.new w a b false
  obtain ⟨q0, q1, q2, f0, f1, f2⟩ := K.cells
  have R1 := Lib.hid (fun w => span_Right s a b false hs w)
  rw [h] at R1
  have g0 : decide (a < b) = true := decide_eq_true h0
  have hp := (Span.right_to h).2.2
  obtain ⟨m, hq, hm⟩ := Line.place_nat hp
  rw [data_len] at hm
  have S0 := fun w => span_starts s hm (by omega) w
  rw [← hq, show starts s.data.toList m = starts s.data.toList b.toNat by rw [hq]; rfl, h1] at S0
  have S1 := Lib.hid S0
  have A1 := Lib.hid (fun w => line_Of s a hs w)
  have A2 := Lib.hid (fun w => line_Of s b hs w)
  generalize Line.of_ s.data.toList a = x at *
  generalize Line.of_ s.data.toList b = y at *
  clear hs h h1 hp hq hm S0
  go_enter Tryz.func10, Tryz.ntmps10
  go_wp2_with (first | (go_at_call 33; (with_reducible refine (R1.out _).mono ?_); rintro e u ⟨rfl, hb⟩; replace K := K.on hb; clear hb; clear q0 q1 q2 f0 f1 f2; obtain ⟨q0, q1, q2, f0, f1, f2⟩ := K.cells) | fail)
  go_region_held3 (fun u => u.cell? ⟨w.heap.size, 0, none⟩ = some (.int .i64 a) ∧ u.cell? ⟨w.heap.size, 1, none⟩ = some (.int .i64 b)) (first | (with_reducible exact ⟨by assumption, by assumption⟩) | go_keep)
    (first
      | (go_at_call 34; (with_reducible refine (A1.out _).mono ?_); rintro e u ⟨rfl, hb⟩; (first | replace K := K.on hb | replace K := K.ond hb); clear hb; clear q0 q1 q2 f0 f1 f2; obtain ⟨q0, q1, q2, f0, f1, f2⟩ := K.cells)
      | (go_at_call 34; (with_reducible refine (A2.out _).mono ?_); rintro e u ⟨rfl, hb⟩; (first | replace K := K.on hb | replace K := K.ond hb); clear hb; clear q0 q1 q2 f0 f1 f2; obtain ⟨q0, q1, q2, f0, f1, f2⟩ := K.cells))
  all_goals go_wp2_with (go_at_call 35; (with_reducible refine (S1.out _).mono ?_); rintro e u ⟨rfl, rfl⟩)
  all_goals go_ret2
  all_goals exact ⟨rfl, K.below⟩
set_option maxHeartbeats 1000000 in
set_option maxRecDepth 100000 in
theorem span_Lines_edge (s : ByteArray) (a b : Int) (hs : s.size ≤ 1000000000000) (h : Span.right s.data.toList a b false = true) (h0 : a < b) (h1 : starts s.data.toList b.toNat = true) (w : World) :
    Calls Tryz.prog 10 #[.string s, .agg #[.int .i64 a, .int .i64 b, .bool false]] w fun e w' => e = .returned (.tuple #[.int .i64 (Line.of_ s.data.toList a), .int .i64 (Line.of_ s.data.toList b - 1)]) ∧ Below w.heap.size w w' := by
  have K := RBox.new w a b false
  obtain ⟨q0, q1, q2, f0, f1, f2⟩ := K.cells
  have R1 := Lib.hid (fun w => span_Right s a b false hs w)
  rw [h] at R1
  have g0 : decide (a < b) = true := decide_eq_true h0
  have hp := (Span.right_to h).2.2
  obtain ⟨m, hq, hm⟩ := Line.place_nat hp
  rw [data_len] at hm
  have S0 := fun w => span_starts s hm (by omega) w
  rw [← hq, show starts s.data.toList m = starts s.data.toList b.toNat by rw [hq]; rfl, h1] at S0
  have S1 := Lib.hid S0
  have A1 := Lib.hid (fun w => line_Of s a hs w)
  have A2 := Lib.hid (fun w => line_Of s b hs w)
  have hy := Span.of_small hp
  rw [data_len] at hy
  have g5 : IntKind.i64.wrap (Line.of_ s.data.toList b - 1) = Line.of_ s.data.toList b - 1 := by rw [IntKind.wrap_i64]; omega
  have g6 : wrap64 (Line.of_ s.data.toList b - 1) = Line.of_ s.data.toList b - 1 := by unfold wrap64; omega
  generalize Line.of_ s.data.toList a = x at *
  generalize Line.of_ s.data.toList b = y at *
  clear hs h h1 hp hq hm S0 hy
  go_enter Tryz.func10, Tryz.ntmps10
  go_wp2_with (first | (go_at_call 33; (with_reducible refine (R1.out _).mono ?_); rintro e u ⟨rfl, hb⟩; replace K := K.on hb; clear hb; clear q0 q1 q2 f0 f1 f2; obtain ⟨q0, q1, q2, f0, f1, f2⟩ := K.cells) | fail)
  go_region_held3 (fun u => u.cell? ⟨w.heap.size, 0, none⟩ = some (.int .i64 a) ∧ u.cell? ⟨w.heap.size, 1, none⟩ = some (.int .i64 b)) (first | (with_reducible exact ⟨by assumption, by assumption⟩) | go_keep)
    (first
      | (go_at_call 34; (with_reducible refine (A1.out _).mono ?_); rintro e u ⟨rfl, hb⟩; (first | replace K := K.on hb | replace K := K.ond hb); clear hb; clear q0 q1 q2 f0 f1 f2; obtain ⟨q0, q1, q2, f0, f1, f2⟩ := K.cells)
      | (go_at_call 34; (with_reducible refine (A2.out _).mono ?_); rintro e u ⟨rfl, hb⟩; (first | replace K := K.on hb | replace K := K.ond hb); clear hb; clear q0 q1 q2 f0 f1 f2; obtain ⟨q0, q1, q2, f0, f1, f2⟩ := K.cells))
  all_goals go_wp2_with (go_at_call 35; (with_reducible refine (S1.out _).mono ?_); rintro e u ⟨rfl, rfl⟩)
  all_goals go_ret2
  all_goals exact ⟨rfl, K.below⟩
theorem span_Lines (s : ByteArray) (a b : Int) (l : Bool) (hs : s.size ≤ 1000000000000) (w : World) :
    Calls Tryz.prog 10 #[.string s, .agg #[.int .i64 a, .int .i64 b, .bool l]] w fun e w' => e = .returned (.tuple #[.int .i64 (Span.lines s.data.toList a b l).1, .int .i64 (Span.lines s.data.toList a b l).2]) ∧ Below w.heap.size w w' := by
  unfold Span.lines
  cases h : Span.right s.data.toList a b l with
  | false => rw [if_neg (by decide)]; exact span_Lines_no s a b l hs h w
  | true =>
    rw [if_pos rfl]
    cases l with
    | true => rw [if_neg (by simp)]; exact span_Lines_whole s a b hs h w
    | false =>
      by_cases h0 : a < b
      · cases h1 : starts s.data.toList b.toNat with
        | false => rw [if_neg (by simp)]; exact span_Lines_in s a b hs h h0 h1 w
        | true => rw [if_pos (by simp [h0])]; exact span_Lines_edge s a b hs h h0 h1 w
      · rw [if_neg (by simp [h0])]; exact span_Lines_none s a b hs h h0 w
end Go.Proofs.YtfhljddakhigdaaGreatDoor
/-
  Package span: what is taken out with a range.
-/
namespace Go.Proofs.YtfhljddakhigdaaGreatDoor
open Go.RowKit
/-- What is taken out with a range. -/
def Span.cut (s : List UInt8) (a b : Int) (l : Bool) : Int × Int × Bool :=
  if Span.right s a b l = true then (if l = true then (if b < s.length then (a, b + 1, l) else if 0 < a then (a - 1, b, l) else (a, b, l)) else (a, b, l)) else (0, 0, false)
/-- A range's box, and the answer's. -/
structure CBox (w u : World) (a b : Int) (l : Bool) : Prop extends RBox w u a b l where
  res : Blk u (w.heap.size + 1) 23 #[.int .i64 0, .int .i64 0, .bool false]
theorem CBox.new (w : World) (a b : Int) (l : Bool) : CBox w ((w.alloc (.cells #[.int .i64 a, .int .i64 b, .bool l] 23)).alloc (.cells #[.int .i64 0, .int .i64 0, .bool false] 23)) a b l := by
  refine ⟨(RBox.new w a b l).alloc _, ?_⟩
  have := Blk.new (w.alloc (.cells #[.int .i64 a, .int .i64 b, .bool l] 23)) 23 #[.int .i64 0, .int .i64 0, .bool false]
  rwa [World.size_alloc] at this
theorem CBox.on {w u v : World} {a b : Int} {l : Bool} (h : CBox w u a b l) (hb : Below u.heap.size u v) : CBox w v a b l := ⟨h.toRBox.on hb, h.res.below hb h.res.lt⟩
/-- One cell of the range, turned. -/
theorem CBox.one {w u : World} {a b : Int} {l : Bool} (h : CBox w u a b l) (c : Int) : CBox w (u.setCell ⟨w.heap.size, 1, none⟩ (.int .i64 c)) a c l :=
  ⟨⟨h.below.setCell (p := ⟨w.heap.size, 1, none⟩) (Nat.le_refl _) _, h.blk.set_ 1 _⟩, h.res.far (p := ⟨w.heap.size, 1, none⟩) (by show w.heap.size + 1 ≠ w.heap.size; omega) _⟩
theorem CBox.zero {w u : World} {a b : Int} {l : Bool} (h : CBox w u a b l) (c : Int) : CBox w (u.setCell ⟨w.heap.size, 0, none⟩ (.int .i64 c)) c b l :=
  ⟨⟨h.below.setCell (p := ⟨w.heap.size, 0, none⟩) (Nat.le_refl _) _, h.blk.set_ 0 _⟩, h.res.far (p := ⟨w.heap.size, 0, none⟩) (by show w.heap.size + 1 ≠ w.heap.size; omega) _⟩
theorem Span.right_in {s : List UInt8} {a b : Int} {l : Bool} (h : Span.right s a b l = true) : 0 ≤ a ∧ a ≤ b ∧ b ≤ s.length := by
  rw [Span.right, Bool.and_eq_true, Bool.and_eq_true, Bool.and_eq_true] at h
  obtain ⟨n, rfl, hn⟩ := Line.place_nat h.2.1
  obtain ⟨m, rfl, hm⟩ := Line.place_nat h.2.2.1
  have := of_decide_eq_true h.1
  omega
end Go.Proofs.YtfhljddakhigdaaGreatDoor
