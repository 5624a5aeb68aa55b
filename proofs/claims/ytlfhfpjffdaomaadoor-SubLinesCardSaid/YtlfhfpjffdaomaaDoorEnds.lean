/-
  Where lines of bytes end, without a program: places of line feeds, lengths of lines, and what becomes of them where bytes take the place of others.
-/
import Derived.Test.YtlfhfpjffdaomaaDoorBase
namespace Go.Proofs.YtlfhfpjffdaomaaDoor
namespace Ix
/-- The places of line feeds; the first byte stands at o. -/
def nls (o : Nat) : List UInt8 → List Nat
  | [] => []
  | c :: r => if c = 10 then o :: nls (o + 1) r else nls (o + 1) r
/-- Where lines end. -/
def ends (t : List UInt8) : List Nat := nls 0 t ++ [t.length]
/-- How long lines are. -/
def lens : List UInt8 → List Nat
  | [] => [0]
  | c :: r => if c = 10 then 0 :: lens r else (lens r).modify 0 (· + 1)
/-- Where lines of these lengths end, the first of which starts at o. -/
def lay (o : Nat) : List Nat → List Nat
  | [] => []
  | n :: r => (o + n) :: lay (o + n + 1) r
theorem nls_append (a b : List UInt8) (o : Nat) : nls o (a ++ b) = nls o a ++ nls (o + a.length) b := by
  induction a generalizing o with
  | nil => simp [nls]
  | cons c r ih =>
    simp only [List.cons_append, nls, List.length_cons]
    rw [ih, show o + 1 + r.length = o + (r.length + 1) by omega]
    split <;> simp
theorem nls_shift (s : List UInt8) (o d : Nat) : nls (o + d) s = (nls o s).map (· + d) := by
  induction s generalizing o with
  | nil => rfl
  | cons c r ih =>
    simp only [nls]
    rw [show o + d + 1 = o + 1 + d by omega, ih]
    split <;> simp
theorem nls_mem {s : List UInt8} {o x : Nat} (h : x ∈ nls o s) : o ≤ x ∧ x < o + s.length := by
  induction s generalizing o with
  | nil => simp [nls] at h
  | cons c r ih =>
    simp only [nls] at h
    split at h
    · rcases List.mem_cons.1 h with h | h
      · subst h; simp
      · have := ih h; simp; omega
    · have := ih h; simp; omega
theorem nls_sorted (s : List UInt8) (o : Nat) : (nls o s).Pairwise (· < ·) := by
  induction s generalizing o with
  | nil => exact List.Pairwise.nil
  | cons c r ih =>
    simp only [nls]
    split
    · exact List.pairwise_cons.2 ⟨fun x hx => by have := nls_mem hx; omega, ih _⟩
    · exact ih _
theorem nls_length (s : List UInt8) (o : Nat) : (nls o s).length = s.count 10 := by
  induction s generalizing o with
  | nil => rfl
  | cons c r ih =>
    simp only [nls]
    split
    · rename_i h; subst h; simp [ih]
    · rename_i h; rw [ih, List.count_cons_of_ne h]
theorem ends_sorted (t : List UInt8) : (ends t).Pairwise (· < ·) := by
  rw [ends, List.pairwise_append]
  refine ⟨nls_sorted t 0, List.pairwise_singleton _ _, fun x hx y hy => ?_⟩
  have := nls_mem hx
  simp at hy
  omega
theorem ends_length (t : List UInt8) : (ends t).length = t.count 10 + 1 := by rw [ends, List.length_append, nls_length]; rfl
theorem ends_pos (t : List UInt8) : 0 < (ends t).length := by rw [ends_length]; omega
theorem ends_le (t : List UInt8) : (ends t).length ≤ t.length + 1 := by
  rw [ends_length]
  have := List.count_le_length (a := (10 : UInt8)) (l := t)
  omega
theorem ends_mem {t : List UInt8} {x : Nat} (h : x ∈ ends t) : x ≤ t.length := by
  rw [ends, List.mem_append] at h
  rcases h with h | h
  · have := nls_mem h; omega
  · simp at h; omega
theorem ends_last (t : List UInt8) : (ends t)[(ends t).length - 1]? = some t.length := by
  rw [ends, List.length_append, List.getElem?_append_right (by simp)]
  simp
theorem lens_length (s : List UInt8) : (lens s).length = s.count 10 + 1 := by
  induction s with
  | nil => rfl
  | cons c r ih =>
    simp only [lens]
    split
    · rename_i h; subst h; simp [ih]
    · rename_i h; rw [List.length_modify, ih, List.count_cons_of_ne h]
theorem lens_pos (s : List UInt8) : 0 < (lens s).length := by rw [lens_length]; omega
/-- What is ahead of the first line, and behind the last one, is put to them. -/
def wide (x y : Nat) (l : List Nat) : List Nat := (l.modify 0 (· + x)).modify (l.length - 1) (· + y)
theorem modify_modify (l : List Nat) (x y : Nat) : (l.modify 0 (· + x)).modify 0 (· + y) = l.modify 0 (· + (x + y)) := by
  cases l with
  | nil => rfl
  | cons n r => simp [Nat.add_assoc]
theorem lay_wide (s : List UInt8) (o x y : Nat) : lay o (wide x y (lens s)) = nls (o + x) s ++ [o + x + s.length + y] := by
  induction s generalizing o x with
  | nil => simp [lens, wide, lay, nls]; omega
  | cons c r ih =>
    simp only [lens, nls]
    have hp := lens_pos r
    split
    · have e : wide x y (0 :: lens r) = x :: wide 0 y (lens r) := by
        simp only [wide, List.modify_zero_cons, Nat.zero_add, List.length_cons, Nat.add_sub_cancel]
        rw [show (lens r).length = (lens r).length - 1 + 1 by omega, List.modify_succ_cons]
        have : (lens r).modify 0 (fun z => z + 0) = lens r := by cases lens r <;> simp
        rw [this]
        simp
      rw [e, lay, ih]
      simp
      omega
    · have e : wide x y ((lens r).modify 0 (· + 1)) = wide (1 + x) y (lens r) := by
        simp only [wide, List.length_modify]
        rw [modify_modify]
      rw [e, ih, show o + (1 + x) = o + x + 1 by omega]
      simp
      omega
theorem wide_zero (l : List Nat) : wide 0 0 l = l := by
  unfold wide
  have h : ∀ (l : List Nat) k, l.modify k (fun z => z + 0) = l := fun l k => by
    apply List.ext_getElem?
    intro j
    rw [List.getElem?_modify]
    split <;> simp
  rw [h, h]
theorem lay_lens (s : List UInt8) : lay 0 (lens s) = ends s := by
  have := lay_wide s 0 0 0
  rw [wide_zero] at this
  simpa [ends] using this
theorem wide_length (x y : Nat) (l : List Nat) : (wide x y l).length = l.length := by simp [wide]
theorem lay_length (o : Nat) (l : List Nat) : (lay o l).length = l.length := by
  induction l generalizing o with
  | nil => rfl
  | cons n r ih => simp [lay, ih]
theorem lay_snoc (o : Nat) (l : List Nat) (n : Nat) : lay o (l ++ [n]) = lay o l ++ [o + (l.sum + l.length) + n] := by
  induction l generalizing o with
  | nil => simp [lay]
  | cons m r ih => simp [lay, ih]; omega
theorem lens_sum (s : List UInt8) : (lens s).sum + (lens s).length = s.length + 1 := by
  induction s with
  | nil => rfl
  | cons c r ih =>
    simp only [lens]
    split
    · simp; omega
    · have h : ∀ l : List Nat, 0 < l.length → (l.modify 0 (· + 1)).sum = l.sum + 1 := fun l hl => by
        cases l with
        | nil => simp at hl
        | cons n r => simp; omega
      rw [h _ (lens_pos r), List.length_modify]
      simp; omega
theorem wide_sum (x y : Nat) (l : List Nat) (h : 0 < l.length) : (wide x y l).sum = l.sum + x + y := by
  have key : ∀ (l : List Nat) (k z : Nat), k < l.length → (l.modify k (· + z)).sum = l.sum + z := by
    intro l
    induction l with
    | nil => intro k z h; simp at h
    | cons n r ih =>
      intro k z h
      cases k with
      | zero => simp; omega
      | succ k => simp at h; simp [ih k z h]; omega
  rw [wide, key _ _ _ (by rw [List.length_modify]; omega), key _ _ _ h]
/-- How many lines end ahead of an offset. -/
def line (t : List UInt8) (p : Nat) : Nat := (nls 0 (t.take p)).length
theorem ends_split (t : List UInt8) (p : Nat) (hp : p ≤ t.length) : ends t = nls 0 (t.take p) ++ (nls p (t.drop p) ++ [t.length]) := by
  have h := nls_append (t.take p) (t.drop p) 0
  rw [List.take_append_drop, List.length_take, Nat.min_eq_left hp, Nat.zero_add] at h
  rw [ends, h, List.append_assoc]
theorem line_lt {t : List UInt8} {p : Nat} (hp : p ≤ t.length) : line t p < (ends t).length := by
  rw [ends_split t p hp]; simp [line]
theorem ends_take {t : List UInt8} {p : Nat} (hp : p ≤ t.length) : (ends t).take (line t p) = nls 0 (t.take p) := by
  rw [ends_split t p hp, line, List.take_left]
theorem ends_drop {t : List UInt8} {p : Nat} (hp : p ≤ t.length) : (ends t).drop (line t p) = nls p (t.drop p) ++ [t.length] := by
  rw [ends_split t p hp, line, List.drop_left]
/-- The line of an offset is as many as end ahead of it. -/
theorem line_count {t : List UInt8} {p : Nat} (hp : p ≤ t.length) : ((ends t).map (fun n : Nat => (n : Int))).countP (· < (p : Int)) = line t p := by
  rw [List.countP_map, ends_split t p hp, List.countP_append]
  have h1 : (nls 0 (t.take p)).countP ((fun x : Int => decide (x < (p : Int))) ∘ fun n : Nat => (n : Int)) = (nls 0 (t.take p)).length := by
    rw [List.countP_eq_length]
    intro x hx
    have := nls_mem hx
    simp at this ⊢
    omega
  have h2 : (nls p (t.drop p) ++ [t.length]).countP ((fun x : Int => decide (x < (p : Int))) ∘ fun n : Nat => (n : Int)) = 0 := by
    rw [List.countP_eq_zero]
    intro x hx
    rw [List.mem_append] at hx
    rcases hx with hx | hx
    · have := nls_mem hx
      simp
      omega
    · simp at hx
      simp
      omega
  rw [h1, h2, line, Nat.add_zero]
theorem line_high {t : List UInt8} {p : Int} (hp : (t.length : Int) < p) : ((ends t).map (fun n : Nat => (n : Int))).countP (· < p) = (ends t).length := by
  rw [List.countP_map, List.countP_eq_length]
  intro x hx
  have := ends_mem hx
  simp
  omega
/-- Where the line k starts. -/
def start (t : List UInt8) (k : Nat) : Nat := if k = 0 then 0 else (ends t).getD (k - 1) 0 + 1
def stop (t : List UInt8) (k : Nat) : Nat := (ends t).getD k 0
theorem getD_of {l : List Nat} {k x : Nat} (h : l[k]? = some x) : l.getD k 0 = x := by simp [List.getD, h]
theorem start_le {t : List UInt8} {p : Nat} (hp : p ≤ t.length) : start t (line t p) ≤ p := by
  unfold start
  split
  · omega
  · rename_i h0
    have h1 : line t p - 1 < (nls 0 (t.take p)).length := by unfold line at h0 ⊢; omega
    have h2 : (ends t)[line t p - 1]? = some (nls 0 (t.take p))[line t p - 1] := by
      rw [ends_split t p hp, List.getElem?_append_left h1, List.getElem?_eq_getElem h1]
    rw [getD_of h2]
    have := nls_mem (List.getElem_mem h1)
    simp at this
    omega
theorem stop_split {t : List UInt8} {p : Nat} (hp : p ≤ t.length) : nls p (t.drop p) ++ [t.length] = stop t (line t p) :: (ends t).drop (line t p + 1) := by
  have h := line_lt hp
  have h2 := List.drop_eq_getElem_cons h
  rw [← ends_drop hp, h2, stop, List.getD_eq_getElem?_getD, List.getElem?_eq_getElem h]
  rfl
theorem le_stop {t : List UInt8} {p : Nat} (hp : p ≤ t.length) : p ≤ stop t (line t p) ∧ stop t (line t p) ≤ t.length := by
  have h : stop t (line t p) ∈ nls p (t.drop p) ++ [t.length] := by rw [stop_split hp]; exact List.mem_cons_self
  rw [List.mem_append] at h
  rcases h with h | h
  · have := nls_mem h; simp at this; omega
  · simp at h; omega
theorem line_mono {t : List UInt8} {p q : Nat} (h : p ≤ q) : line t p ≤ line t q := by
  unfold line
  rw [nls_length, nls_length]
  have : t.take p <+: t.take q := List.take_prefix_take_left h
  exact this.sublist.count_le _
/-- What stands in the place of some bytes. -/
def put (t : List UInt8) (i j : Nat) (s : List UInt8) : List UInt8 := t.take i ++ (s ++ t.drop j)
theorem put_length {t : List UInt8} {i j : Nat} (hij : i ≤ j) (hj : j ≤ t.length) (s : List UInt8) : (put t i j s).length + (j - i) = t.length + s.length := by
  simp [put]; omega
/-- The lengths that the new lines get. -/
def mid (t : List UInt8) (i j : Nat) (s : List UInt8) : List Nat := lay (start t (line t i)) (wide (i - start t (line t i)) (stop t (line t j) - j) (lens s))
theorem mid_eq {t : List UInt8} {i j : Nat} (hi : i ≤ t.length) (s : List UInt8) : mid t i j s = nls i s ++ [i + s.length + (stop t (line t j) - j)] := by
  have h := start_le hi
  rw [mid, lay_wide, show start t (line t i) + (i - start t (line t i)) = i by omega]
theorem mid_length (t : List UInt8) (i j : Nat) (s : List UInt8) : (mid t i j s).length = (lens s).length := by rw [mid, lay_length, wide_length]
theorem ends_put {t : List UInt8} {i j : Nat} (hij : i ≤ j) (hj : j ≤ t.length) (s : List UInt8) :
    ends (put t i j s) = (ends t).take (line t i) ++ (mid t i j s ++ ((ends t).drop (line t j + 1)).map (fun z => z + s.length - (j - i))) := by
  have hi : i ≤ t.length := by omega
  have hl := put_length hij hj s
  have hst := le_stop hj
  have h1 : ends (put t i j s) = nls 0 (t.take i) ++ (nls i s ++ (nls (i + s.length) (t.drop j) ++ [(put t i j s).length])) := by
    rw [ends, put, nls_append, nls_append, List.length_take, Nat.min_eq_left hi, Nat.zero_add]
    simp
  have h2 : nls (i + s.length) (t.drop j) ++ [(put t i j s).length] = (nls j (t.drop j) ++ [t.length]).map (fun z => z + s.length - (j - i)) := by
    have e1 := nls_shift (t.drop j) 0 (i + s.length)
    have e2 := nls_shift (t.drop j) 0 j
    rw [Nat.zero_add] at e1 e2
    rw [List.map_append, e1, e2, List.map_map]
    congr 1
    · apply List.map_congr_left
      intro z _
      simp
      omega
    · simp; omega
  rw [h1, h2, ends_take hi, mid_eq hi, stop_split hj]
  simp
  omega
theorem put_ends_ge {t : List UInt8} {j : Nat} (hj : j ≤ t.length) {z : Nat} (hz : z ∈ (ends t).drop (line t j + 1)) : j ≤ z ∧ z ≤ t.length := by
  have h : z ∈ nls j (t.drop j) ++ [t.length] := by rw [stop_split hj]; exact List.mem_cons_of_mem _ hz
  rw [List.mem_append] at h
  rcases h with h | h
  · have := nls_mem h; simp at this; omega
  · simp at h; omega
/-- The answers of an index of bytes. -/
def startOf (t : List UInt8) (k : Int) : Int := if k < 0 ∨ (ends t).length ≤ k then -1 else (start t k.toNat : Nat)
def endOf (t : List UInt8) (k : Int) : Int := if k < 0 ∨ (ends t).length ≤ k then -1 else (stop t k.toNat : Nat)
def lineOf (t : List UInt8) (p : Int) : Int := if p < 0 ∨ t.length < p then -1 else (line t p.toNat : Nat)
end Ix
end Go.Proofs.YtlfhfpjffdaomaaDoor
