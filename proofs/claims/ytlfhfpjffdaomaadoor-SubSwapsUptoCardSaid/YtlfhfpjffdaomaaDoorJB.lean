/-
  Where a place goes by one change, without a program.
-/
import Derived.Test.YtlfhfpjffdaomaaDoorBase
import Derived.Test.YtlfhfpjffdaomaaDoorUtfPlaces
import Derived.Test.YtlfhfpjffdaomaaDoorCgs
import Derived.Test.YtlfhfpjffdaomaaDoorUtfCounts
import Derived.Test.YtlfhfpjffdaomaaDoorInts
import Derived.Deep.RegionHeld3
import Derived.WalkLawsBesides
import Derived.Test.YtlfhfpjffdaomaaDoorBuilderWrite
namespace Go.Proofs.YtlfhfpjffdaomaaDoor
namespace Chg
/-- Where a place goes by one change. -/
def shift (p i : Int) (o n : Nat) : Int := if p < i then p else if p < i + o then i else p + ((n : Int) - o)
end Chg
end Go.Proofs.YtlfhfpjffdaomaaDoor
/-
  Changes of texts, without a program: what two lists have in common at their beginnings and ends, the change that makes one text of another one, what changes make of a text, where places go.
-/
namespace Go.Proofs.YtlfhfpjffdaomaaDoor
namespace Chg
open Utf
/-- How many of two lists are the same, from the first on. -/
def cp {α : Type} [DecidableEq α] : List α → List α → Nat
  | a :: x, b :: y => if a = b then cp x y + 1 else 0
  | [], _ => 0
  | _ :: _, [] => 0
/-- How many of two lists are the same, from the last on. -/
def cs {α : Type} [DecidableEq α] (x y : List α) : Nat := cp x.reverse y.reverse
section
variable {α : Type} [DecidableEq α]
theorem cp_comm : ∀ x y : List α, cp x y = cp y x
  | [], [] => rfl
  | [], _ :: _ => rfl
  | _ :: _, [] => rfl
  | a :: x, b :: y => by
    simp only [cp]
    by_cases h : a = b
    · rw [if_pos h, if_pos h.symm, cp_comm x y]
    · rw [if_neg h, if_neg (fun e => h e.symm)]
theorem cp_get : ∀ {x y : List α} {n : Nat}, n < cp x y → ∃ c, x[n]? = some c ∧ y[n]? = some c
  | [], _, _, h => by simp [cp] at h
  | _ :: _, [], _, h => by simp [cp] at h
  | a :: x, b :: y, n, h => by
    simp only [cp] at h
    by_cases e : a = b
    · rw [if_pos e] at h
      subst e
      cases n with
      | zero => exact ⟨a, rfl, rfl⟩
      | succ n => exact cp_get (x := x) (y := y) (n := n) (by omega)
    · rw [if_neg e] at h; omega
theorem cp_next : ∀ {x y : List α} {c : α}, x[cp x y]? = some c → y[cp x y]? ≠ some c
  | [], _, _, h => by simp at h
  | _ :: _, [], _, _ => by simp
  | a :: x, b :: y, c, h => by
    simp only [cp] at h ⊢
    by_cases e : a = b
    · rw [if_pos e] at h ⊢
      exact cp_next (x := x) (y := y) h
    · rw [if_neg e] at h ⊢
      intro h2
      simp only [List.getElem?_cons_zero, Option.some.injEq] at h h2
      exact e (h.trans h2.symm)
theorem cp_le (x y : List α) : cp x y ≤ x.length := by
  rcases Nat.lt_or_ge x.length (cp x y) with h | h
  · obtain ⟨c, h1, _⟩ := cp_get h
    simp at h1
  · exact h
theorem cp_le' (x y : List α) : cp x y ≤ y.length := by rw [cp_comm]; exact cp_le y x
theorem cp_take {x y : List α} {k : Nat} (h : k ≤ cp x y) : x.take k = y.take k := by
  apply List.ext_getElem?
  intro i
  rw [List.getElem?_take, List.getElem?_take]
  by_cases hi : i < k
  · rw [if_pos hi, if_pos hi]
    obtain ⟨c, h1, h2⟩ := cp_get (x := x) (y := y) (n := i) (by omega)
    rw [h1, h2]
  · rw [if_neg hi, if_neg hi]
theorem cp_max {x y : List α} {k : Nat} (hx : k ≤ x.length) (h : x.take k = y.take k) : k ≤ cp x y := by
  rcases Nat.lt_or_ge (cp x y) k with hlt | hge
  · have h1 : x[cp x y]? = some (x[cp x y]'(by omega)) := List.getElem?_eq_getElem _
    have h2 := congrArg (fun l => l[cp x y]?) h
    simp only [List.getElem?_take, if_pos hlt] at h2
    exact absurd (h2 ▸ h1) (cp_next h1)
  · exact hge
theorem cp_lt {x y : List α} {n : Nat} (h : n ≤ cp x y) (hx : n < x.length) (hy : n < y.length) : x[n] = y[n] ↔ n < cp x y := by
  constructor
  · intro e
    rcases Nat.lt_or_ge n (cp x y) with h1 | h1
    · exact h1
    · obtain rfl : n = cp x y := by omega
      exact absurd (by rw [List.getElem?_eq_getElem hy, e]) (cp_next (List.getElem?_eq_getElem hx))
  · intro h1
    obtain ⟨c, h2, h3⟩ := cp_get h1
    rw [List.getElem?_eq_getElem hx] at h2
    rw [List.getElem?_eq_getElem hy] at h3
    injection h2 with h2
    injection h3 with h3
    rw [h2, h3]
theorem cs_comm (x y : List α) : cs x y = cs y x := cp_comm _ _
theorem cs_le (x y : List α) : cs x y ≤ x.length := by have := cp_le x.reverse y.reverse; simpa [cs] using this
theorem cs_le' (x y : List α) : cs x y ≤ y.length := by rw [cs_comm]; exact cs_le y x
theorem cs_drop {x y : List α} {k : Nat} (h : k ≤ cs x y) : x.drop (x.length - k) = y.drop (y.length - k) := by
  have := cp_take h
  rw [List.take_reverse, List.take_reverse] at this
  exact List.reverse_inj.1 this
theorem cs_max {x y : List α} {k : Nat} (hx : k ≤ x.length) (h : x.drop (x.length - k) = y.drop (y.length - k)) : k ≤ cs x y := by
  refine cp_max (by simpa using hx) ?_
  rw [List.take_reverse, List.take_reverse, h]
theorem cs_lt {x y : List α} {n : Nat} (h : n ≤ cs x y) (hx : n < x.length) (hy : n < y.length) : x[x.length - 1 - n]'(by omega) = y[y.length - 1 - n]'(by omega) ↔ n < cs x y := by
  have := cp_lt h (by simpa using hx) (by simpa using hy)
  rw [List.getElem_reverse, List.getElem_reverse] at this
  exact this
end
theorem dec_inj {x y : List (List UInt8)} (hx : ∀ r ∈ x, one r = true) (hy : ∀ r ∈ y, one r = true) (h : x.flatten = y.flatten) : x = y := by
  have h1 := dec_of hx
  rw [h, dec_of hy] at h1
  injection h1 with h1
  exact h1.symm
section
variable {x y : List (List UInt8)}
theorem off_same {n : Nat} (h : x.take n = y.take n) : off x n = off y n := by rw [off, off, h]
/-- Of two texts of runes what is the same at the beginning, byte by byte, ends in the rune behind those that are the same. -/
theorem head_under (hx : ∀ r ∈ x, one r = true) (hy : ∀ r ∈ y, one r = true) : Under x (cp x y) (cp x.flatten y.flatten) := by
  refine ⟨cp_le x y, cp_max (off_le x _) ?_, fun hn => ?_⟩
  · rw [off_take, off_same (cp_take (Nat.le_refl _)), off_take, cp_take (Nat.le_refl _)]
  · rcases Nat.lt_or_ge (cp x.flatten y.flatten) (off x (cp x y + 1)) with h | h
    · exact h
    · exfalso
      have h1 := cp_take h
      rw [off_take] at h1
      have h2 : y.flatten = (x.take (cp x y + 1)).flatten ++ y.flatten.drop (off x (cp x y + 1)) := by rw [h1, List.take_append_drop]
      have h3 := dec_all (y.flatten.drop (off x (cp x y + 1))) (rs := x.take (cp x y + 1)) (fun r hr => hx r (List.mem_of_mem_take hr))
      rw [← h2, dec_of hy] at h3
      cases hd : dec (y.flatten.drop (off x (cp x y + 1))) with
      | none => rw [hd] at h3; cases h3
      | some q =>
        rw [hd] at h3
        injection h3 with h3
        have h5 : y = x.take (cp x y + 1) ++ q := h3
        have hl : (x.take (cp x y + 1)).length = cp x y + 1 := by rw [List.length_take]; omega
        have h4 : y.take (cp x y + 1) = x.take (cp x y + 1) := by
          have := congrArg (List.take (cp x y + 1)) h5
          rw [List.take_append_of_le_length (by omega), List.take_take, Nat.min_self] at this
          exact this
        have := cp_max (x := x) (y := y) (k := cp x y + 1) (by omega) h4.symm
        omega
/-- How many bytes the runes have that are the same at the ends. -/
def tl (x y : List (List UInt8)) : Nat := (x.drop (x.length - cs x y)).flatten.length
theorem tl_comm (x y : List (List UInt8)) : tl x y = tl y x := by rw [tl, tl, cs_drop (Nat.le_refl _), cs_comm]
theorem tl_off (x y : List (List UInt8)) : off x (x.length - cs x y) + tl x y = x.flatten.length := by
  rw [tl, ← off_drop, List.length_drop]
  have := off_le x (x.length - cs x y)
  omega
theorem tl_le (x y : List (List UInt8)) : tl x y ≤ cs x.flatten y.flatten := by
  have h1 := tl_off x y
  have h2 := tl_off y x
  rw [tl_comm y x] at h2
  refine cs_max (by omega) ?_
  rw [show x.flatten.length - tl x y = off x (x.length - cs x y) by omega, show y.flatten.length - tl x y = off y (y.length - cs y x) by omega, off_drop, off_drop, cs_drop (Nat.le_refl _), cs_comm]
theorem tl_far (hx : ∀ r ∈ x, one r = true) (hy : ∀ r ∈ y, one r = true) {k : Nat} (h1 : tl x y < k) (h2 : k ≤ cs x.flatten y.flatten) : apart x.flatten (x.flatten.length - k) = false := by
  cases ha : apart x.flatten (x.flatten.length - k) with
  | false => rfl
  | true =>
    exfalso
    have hk1 : k ≤ x.flatten.length := Nat.le_trans h2 (cs_le _ _)
    have hk2 : k ≤ y.flatten.length := Nat.le_trans h2 (cs_le' _ _)
    have hd := cs_drop h2
    obtain ⟨i, hi, hoi⟩ := (apart_flat hx (by omega)).1 ha
    have hg : x.flatten[x.flatten.length - k]? = y.flatten[y.flatten.length - k]? := by
      have := congrArg (fun l => l[0]?) hd
      simpa [List.getElem?_drop] using this
    have hb : apart y.flatten (y.flatten.length - k) = true := by
      rw [apart] at ha ⊢
      rw [← hg]
      exact ha
    obtain ⟨j, hj, hoj⟩ := (apart_flat hy (by omega)).1 hb
    rw [← hoi, ← hoj, off_drop, off_drop] at hd
    have he := dec_inj (fun r hr => hx r (List.mem_of_mem_drop hr)) (fun r hr => hy r (List.mem_of_mem_drop hr)) hd
    have hl := congrArg List.length he
    rw [List.length_drop, List.length_drop] at hl
    have hm : x.length - i ≤ cs x y := cs_max (by omega) (by rw [show x.length - (x.length - i) = i by omega, show y.length - (x.length - i) = j by omega]; exact he)
    have hmo := off_mono (rs := x) (i := x.length - cs x y) (j := i) (by omega)
    have := tl_off x y
    omega
/-- What is between: without what is the same at the beginnings, and then at the ends. -/
def mid (x y : List (List UInt8)) : List (List UInt8) := (x.drop (cp x y)).take ((x.drop (cp x y)).length - cs (x.drop (cp x y)) (y.drop (cp x y)))
/-- What is the same at the ends. -/
def ends (x y : List (List UInt8)) : List (List UInt8) := (x.drop (cp x y)).drop ((x.drop (cp x y)).length - cs (x.drop (cp x y)) (y.drop (cp x y)))
theorem parts (x y : List (List UInt8)) : x = x.take (cp x y) ++ (mid x y ++ ends x y) := by rw [mid, ends, List.take_append_drop, List.take_append_drop]
theorem ends_comm (x y : List (List UInt8)) : ends x y = ends y x := by
  rw [ends, ends, cs_drop (Nat.le_refl _), cs_comm, cp_comm]
theorem parts' (x y : List (List UInt8)) : y = x.take (cp x y) ++ (mid y x ++ ends x y) := by
  rw [cp_take (Nat.le_refl _), ends_comm, cp_comm]
  exact parts y x
theorem mid_mem {r : List UInt8} (h : r ∈ mid x y) : r ∈ x := List.mem_of_mem_drop (List.mem_of_mem_take h)
theorem mid_first {r : List UInt8} (h : (mid x y).head? = some r) : (mid y x).head? ≠ some r := by
  intro h2
  rw [mid, List.head?_take] at h h2
  split at h
  · cases h
  · split at h2
    · cases h2
    · rw [List.head?_drop] at h h2
      rw [cp_comm y x] at h2
      exact cp_next h h2
theorem mid_last {r : List UInt8} (h : (mid x y).getLast? = some r) : (mid y x).getLast? ≠ some r := by
  intro h2
  have key : ∀ (u v : List (List UInt8)) (r : List UInt8), (u.take (u.length - cs u v)).getLast? = some r → u.reverse[cp u.reverse v.reverse]? = some r := fun u v r h => by
    have hc := cs_le u v
    rw [List.getLast?_eq_getElem?, List.length_take, Nat.min_eq_left (by omega), List.getElem?_take] at h
    split at h
    · next hlt =>
      have hlt2 : cs u v < u.length := by
        rcases Nat.lt_or_ge (cs u v) u.length with h3 | h3
        · exact h3
        · omega
      rw [show cp u.reverse v.reverse = cs u v from rfl, List.getElem?_reverse hlt2, ← h]
      congr 1; omega
    · cases h
  have k1 := key _ _ _ h
  rw [mid, cp_comm y x] at h2
  have k2 := key _ _ _ h2
  rw [cp_comm (List.reverse (y.drop _))] at k2
  exact cp_next k1 k2
end
/-- The place, what goes, and what comes, of the change that makes b of a. -/
def dAt (a b : List UInt8) : Nat := if a = b then 0 else match dec a, dec b with | some x, some y => off x (cp x y) | _, _ => 0
def dOld (a b : List UInt8) : List UInt8 := if a = b then [] else match dec a, dec b with | some x, some y => (mid x y).flatten | _, _ => []
section
variable {a b : List UInt8} {x y : List (List UInt8)}
theorem dAt_none (h : a = b ∨ dec a = none ∨ dec b = none) : dAt a b = 0 := by
  rw [dAt]
  split
  · rfl
  · rcases h with h | h | h
    · contradiction
    · rw [h]
    · rw [h]; cases dec a <;> rfl
theorem dOld_none (h : a = b ∨ dec a = none ∨ dec b = none) : dOld a b = [] := by
  rw [dOld]
  split
  · rfl
  · rcases h with h | h | h
    · contradiction
    · rw [h]
    · rw [h]; cases dec a <;> rfl
theorem dAt_some (hn : a ≠ b) (hx : dec a = some x) (hy : dec b = some y) : dAt a b = off x (cp x y) := by rw [dAt, if_neg hn, hx, hy]
theorem dOld_some (hn : a ≠ b) (hx : dec a = some x) (hy : dec b = some y) : dOld a b = (mid x y).flatten := by rw [dOld, if_neg hn, hx, hy]
theorem dAt_comm (a b : List UInt8) : dAt a b = dAt b a := by
  by_cases h : a = b
  · rw [h]
  · cases hx : dec a with
    | none => rw [dAt_none (Or.inr (Or.inl hx)), dAt_none (Or.inr (Or.inr hx))]
    | some x =>
      cases hy : dec b with
      | none => rw [dAt_none (Or.inr (Or.inr hy)), dAt_none (Or.inr (Or.inl hy))]
      | some y => rw [dAt_some h hx hy, dAt_some (fun e => h e.symm) hy hx, off_same (cp_take (Nat.le_refl _)), cp_comm]
/-- Both texts begin and end alike; between there is what goes, and what comes. -/
theorem diff_parts (ha : valid a = true) (hb : valid b = true) : ∃ p q, a = p ++ (dOld a b ++ q) ∧ b = p ++ (dOld b a ++ q) ∧ p.length = dAt a b ∧ place a (dAt a b : Int) = true ∧ valid (dOld a b) = true ∧ valid (dOld b a) = true := by
  obtain ⟨x, hx⟩ := valid_of ha
  obtain ⟨y, hy⟩ := valid_of hb
  by_cases h : a = b
  · subst h
    refine ⟨[], a, ?_, ?_, ?_, ?_, ?_, ?_⟩
    · rw [dOld_none (Or.inl rfl)]; rfl
    · rw [dOld_none (Or.inl rfl)]; rfl
    · rw [dAt_none (Or.inl rfl)]; rfl
    · rw [dAt_none (Or.inl rfl)]
      have := place_at hx (i := 0) (by omega)
      rwa [off_zero] at this
    · rw [dOld_none (Or.inl rfl)]; exact valid_ok dec_nil
    · rw [dOld_none (Or.inl rfl)]; exact valid_ok dec_nil
  · have h' : b ≠ a := fun e => h e.symm
    obtain ⟨rx, ex⟩ := dec_some hx
    obtain ⟨ry, ey⟩ := dec_some hy
    refine ⟨(x.take (cp x y)).flatten, (ends x y).flatten, ?_, ?_, ?_, ?_, ?_, ?_⟩
    · rw [dOld_some h hx hy, ← List.flatten_append, ← List.flatten_append, ← parts, ex]
    · rw [dOld_some h' hy hx, ← List.flatten_append, ← List.flatten_append, ← parts', ey]
    · rw [dAt_some h hx hy, off]
    · rw [dAt_some h hx hy]
      exact place_at hx (cp_le x y)
    · rw [dOld_some h hx hy]
      exact valid_ok (dec_of fun r hr => rx r (mid_mem hr))
    · rw [dOld_some h' hy hx]
      exact valid_ok (dec_of fun r hr => ry r (mid_mem hr))
end
theorem rune_first {s : List UInt8} {rs : List (List UInt8)} (h : dec s = some rs) : rune s 0 = rs.head?.getD [] := by
  cases rs with
  | nil =>
    obtain rfl : s = [] := (dec_some h).2
    rw [rune, show (0 : Int) = (([] : List UInt8).length : Int) from rfl, next_end h]
    rfl
  | cons r rs =>
    have := rune_at h (i := 0) (r := r) rfl
    rw [off_zero] at this
    exact this
theorem rune_last {s : List UInt8} {rs : List (List UInt8)} (h : dec s = some rs) : rune s (prev s (s.length : Int)) = rs.getLast?.getD [] := by
  have ht := off_top h (Nat.le_refl _)
  cases hl : rs.length with
  | zero =>
    obtain rfl := List.eq_nil_of_length_eq_zero hl
    obtain rfl : s = [] := (dec_some h).2
    rw [show (([] : List UInt8).length : Int) = 0 from rfl, prev_zero h, rune, next_no (place_out (Or.inl (by omega)))]
    rfl
  | succ i =>
    have hi : i < rs.length := by omega
    rw [← ht, hl, prev_at h hi, rune_at h (List.getElem?_eq_getElem hi), List.getLast?_eq_getElem?, show rs.length - 1 = i by omega, List.getElem?_eq_getElem hi]
    rfl
theorem getD_ne {u v : Option (List UInt8)} (hu : ∀ r, u = some r → one r = true) (hv : ∀ r, v = some r → one r = true) (h : ∀ r, u = some r → v ≠ some r) : u.getD [] ≠ v.getD [] ∨ (u.getD [] = [] ∧ v.getD [] = []) := by
  cases u with
  | none =>
    cases v with
    | none => exact Or.inr ⟨rfl, rfl⟩
    | some r => exact Or.inl fun e => one_ne (hv r rfl) e.symm
  | some q =>
    cases v with
    | none => exact Or.inl fun e => one_ne (hu q rfl) e
    | some r => exact Or.inl fun e => h q rfl (by rw [show q = r from e])
/-- The first runes of what goes and what comes are not the same, and the last ones are not. -/
theorem diff_least {a b : List UInt8} (ha : valid a = true) (hb : valid b = true) (hn : a ≠ b) :
    (rune (dOld a b) 0 ≠ rune (dOld b a) 0 ∨ (rune (dOld a b) 0 = [] ∧ rune (dOld b a) 0 = [])) ∧
    (rune (dOld a b) (prev (dOld a b) (dOld a b).length) ≠ rune (dOld b a) (prev (dOld b a) (dOld b a).length) ∨ (rune (dOld a b) (prev (dOld a b) (dOld a b).length) = [] ∧ rune (dOld b a) (prev (dOld b a) (dOld b a).length) = [])) := by
  obtain ⟨x, hx⟩ := valid_of ha
  obtain ⟨y, hy⟩ := valid_of hb
  obtain ⟨rx, ex⟩ := dec_some hx
  obtain ⟨ry, ey⟩ := dec_some hy
  have h1 := dec_of (rs := mid x y) fun r hr => rx r (mid_mem hr)
  have h2 := dec_of (rs := mid y x) fun r hr => ry r (mid_mem hr)
  rw [dOld_some hn hx hy, dOld_some (fun e => hn e.symm) hy hx, rune_first h1, rune_first h2, rune_last h1, rune_last h2]
  exact ⟨getD_ne (fun r e => rx r (mid_mem (List.mem_of_mem_head? e))) (fun r e => ry r (mid_mem (List.mem_of_mem_head? e))) (fun r e => mid_first e),
    getD_ne (fun r e => rx r (mid_mem (List.mem_of_getLast? e))) (fun r e => ry r (mid_mem (List.mem_of_getLast? e))) (fun r e => mid_last e)⟩
/-- Does a change fit a text? -/
def fits (t : List UInt8) (i : Int) (o n : List UInt8) : Bool := place t i && valid o && valid n && Lib.hasPrefix (t.drop i.toNat) o
/-- What a change makes. -/
def make (t : List UInt8) (i : Nat) (o n : List UInt8) : List UInt8 := t.take i ++ n ++ t.drop (i + o.length)
theorem fits_off {t : List UInt8} {i : Int} {o n : List UInt8} (h : fits t i o n = true) : ∃ k : Nat, i = k ∧ k + o.length ≤ t.length := by
  simp only [fits, Bool.and_eq_true] at h
  obtain ⟨rs, j, hd, hj, rfl⟩ := place_of h.1.1.1
  refine ⟨_, rfl, ?_⟩
  have h1 : o.length ≤ (t.drop ((off rs j : Int)).toNat).length := (List.isPrefixOf_iff_prefix.1 h.2).length_le
  have h2 := off_in hd j
  rw [List.length_drop] at h1
  simp at h1
  omega
theorem make_length {t : List UInt8} {i : Nat} {o n : List UInt8} (h : i + o.length ≤ t.length) : (make t i o n).length = t.length - o.length + n.length := by
  rw [make, List.length_append, List.length_append, List.length_take, List.length_drop]
  omega
theorem diff_fits {a b : List UInt8} (ha : valid a = true) (hb : valid b = true) : fits a (dAt a b : Int) (dOld a b) (dOld b a) = true ∧ make a (dAt a b) (dOld a b) (dOld b a) = b := by
  obtain ⟨p, q, h1, h2, h3, h4, h5, h6⟩ := diff_parts ha hb
  have h7 : a.drop (dAt a b) = dOld a b ++ q := by
    rw [← h3]
    conv => lhs; rw [h1]
    exact List.drop_left
  constructor
  · have h8 : Lib.hasPrefix (a.drop ((dAt a b : Int)).toNat) (dOld a b) = true := by
      rw [show ((dAt a b : Nat) : Int).toNat = dAt a b by omega, h7, ← Lib.hasPrefix_of_take]
      simp
    rw [fits, h4, h5, h6, h8]
    rfl
  · rw [make, ← List.drop_drop, h7, List.drop_left]
    conv => rhs; rw [h2]
    rw [← h3]
    conv => lhs; arg 1; arg 1; arg 2; rw [h1]
    simp
end Chg
end Go.Proofs.YtlfhfpjffdaomaaDoor
/-
  Changes made at once, without a program: whether they may be, what they make of a text, where places go by them, what undoes them.
-/
namespace Go.Proofs.YtlfhfpjffdaomaaDoor
namespace Btc
open Utf Chg
/-- Do changes stand one behind the other? -/
def apart : List Cg → Bool
  | a :: b :: r => decide (a.at_ + (a.old.size : Int) ≤ b.at_) && apart (b :: r)
  | _ => true
/-- May changes be made at once of a text? -/
def right (t : List UInt8) (ks : List Cg) : Bool := apart ks && ks.all fun k => fits t k.at_ k.old.data.toList k.new.data.toList
/-- How many bytes more a text has behind changes. -/
def grow (ks : List Cg) : Int := (ks.map fun k => (k.new.size : Int) - k.old.size).sum
/-- The text behind changes, made from the last to the first. -/
def made (t : List UInt8) : List Cg → List UInt8
  | [] => t
  | k :: r => make (made t r) k.at_.toNat k.old.data.toList k.new.data.toList
/-- What stands behind a place of a text, changes being made. -/
def parts (t : List UInt8) : Nat → List Cg → List UInt8
  | f, [] => t.drop f
  | f, k :: r => (t.drop f).take (k.at_.toNat - f) ++ (k.new.data.toList ++ parts t (k.at_.toNat + k.old.size) r)
/-- Where a place goes: by the last change, and then by the one ahead of it. -/
def back (p : Int) (ks : List Cg) : Int := ks.foldr (fun k p => shift p k.at_ k.old.size k.new.size) p
/-- What undoes changes behind others that have made a text longer. -/
def turned : Int → List Cg → List Cg
  | _, [] => []
  | m, k :: r => ⟨k.at_ + m, k.new, k.old⟩ :: turned (m + ((k.new.size : Int) - k.old.size)) r
/-- Changes made at once: the text, and the error. -/
def done (t : List UInt8) (ks : List Cg) : List UInt8 × Int := if right t ks = true then if 4096 < (made t ks).length then ([], 8) else (made t ks, 0) else ([], 1)
/-- Changes stand in their order within N bytes, behind f of them. -/
def In (N : Nat) : Nat → List Cg → Prop
  | f, [] => f ≤ N
  | f, k :: r => ∃ a : Nat, k.at_ = a ∧ f ≤ a ∧ In N (a + k.old.size) r
theorem In.le {N : Nat} : ∀ {ks : List Cg} {f : Nat}, In N f ks → f ≤ N
  | [], _, h => h
  | k :: r, f, ⟨a, _, h1, h2⟩ => by have := In.le h2; omega
theorem right_in {t : List UInt8} : ∀ {ks : List Cg} {f : Nat}, right t ks = true → f ≤ t.length → (∀ k, ks.head? = some k → (f : Int) ≤ k.at_) → In t.length f ks
  | [], _, _, hf, _ => hf
  | k :: r, f, h, hf, h0 => by
    simp only [right, List.all_cons, Bool.and_eq_true] at h
    obtain ⟨h1, h2, h3⟩ := h
    obtain ⟨a, ha, hl⟩ := fits_off h2
    rw [data_len] at hl
    have := h0 k rfl
    refine ⟨a, ha, by omega, right_in (ks := r) ?_ hl ?_⟩
    · simp only [right, Bool.and_eq_true]
      refine ⟨?_, h3⟩
      cases r with
      | nil => rfl
      | cons b r => simp only [apart, Bool.and_eq_true] at h1; exact h1.2
    · intro b hb
      cases r with
      | nil => cases hb
      | cons b' r =>
        injection hb with hb
        subst hb
        simp only [apart, Bool.and_eq_true, decide_eq_true_eq] at h1
        have := h1.1
        omega
theorem made_parts {t : List UInt8} : ∀ {ks : List Cg} {f : Nat}, In t.length f ks → made t ks = t.take f ++ parts t f ks
  | [], f, _ => (List.take_append_drop f t).symm
  | k :: r, f, ⟨a, ha, hf, hr⟩ => by
    have hN := hr.le
    have ih := made_parts hr
    rw [made, make, ha, Int.toNat_natCast, ih, data_len, parts, ha, Int.toNat_natCast]
    rw [List.take_append_of_le_length (by rw [List.length_take]; omega), List.take_take, Nat.min_eq_left (by omega)]
    rw [List.drop_append_of_le_length (by rw [List.length_take]; omega), List.drop_eq_nil_of_le (by rw [List.length_take]; omega), List.nil_append]
    have e : t.take a = t.take f ++ (t.drop f).take (a - f) := by
      conv => lhs; rw [show a = f + (a - f) by omega]
      rw [List.take_add]
    rw [e]
    simp
theorem made_length {t : List UInt8} : ∀ {ks : List Cg} {f : Nat}, In t.length f ks → ((made t ks).length : Int) = t.length + grow ks ∧ ∀ k r, ks = k :: r → k.at_.toNat + k.old.size ≤ (made t r).length
  | [], f, _ => ⟨by simp [made, grow], fun k r h => by cases h⟩
  | k :: r, f, ⟨a, ha, hf, hr⟩ => by
    obtain ⟨ih, _⟩ := made_length hr
    have hN : a + k.old.size ≤ (made t r).length := by
      rw [made_parts hr, List.length_append, List.length_take]
      have := hr.le
      omega
    constructor
    · rw [made, ha, Int.toNat_natCast, make_length (by rw [data_len]; exact hN), data_len, data_len, grow, List.map_cons, List.sum_cons]
      rw [grow] at ih
      omega
    · intro k' r' h
      injection h with h1 h2
      subst h1 h2
      rw [ha, Int.toNat_natCast]
      exact hN
theorem shift_mono {p q i : Int} {o n : Nat} (h : p ≤ q) : shift p i o n ≤ shift q i o n := by
  unfold shift
  split <;> split <;> (try split) <;> (try split) <;> omega
theorem back_mono {p q : Int} (h : p ≤ q) : ∀ ks : List Cg, back p ks ≤ back q ks
  | [] => h
  | _ :: r => shift_mono (back_mono h r)
theorem back_low {N : Nat} {p : Int} : ∀ {ks : List Cg} {f : Nat}, In N f ks → p < f → back p ks = p
  | [], _, _, _ => rfl
  | k :: r, f, ⟨a, ha, hf, hr⟩, hp => by
    show shift (back p r) k.at_ k.old.size k.new.size = p
    rw [back_low hr (by omega), ha, shift, if_pos (by omega)]
theorem back_ge {N : Nat} {p : Int} : ∀ {ks : List Cg} {f : Nat}, In N f ks → (f : Int) ≤ p → (f : Int) ≤ back p ks
  | [], _, _, hp => hp
  | k :: r, f, ⟨a, ha, hf, hr⟩, hp => by
    show (f : Int) ≤ shift (back p r) k.at_ k.old.size k.new.size
    rw [ha]
    by_cases h : p < ((a + k.old.size : Nat) : Int)
    · rw [back_low hr h]
      unfold shift
      split <;> (try split) <;> omega
    · have := back_ge (p := p) hr (by omega)
      unfold shift
      split <;> (try split) <;> omega
theorem back_le {t : List UInt8} {p : Int} (hp : p ≤ t.length) : ∀ {ks : List Cg} {f : Nat}, In t.length f ks → back p ks ≤ (made t ks).length
  | [], _, _ => hp
  | k :: r, f, h => by
    obtain ⟨hl, h1⟩ := made_length h
    have h2 := h1 k r rfl
    obtain ⟨a, ha, hf, hr⟩ := h
    have ih := back_le hp hr
    rw [ha, Int.toNat_natCast] at h2
    obtain ⟨hl2, _⟩ := made_length hr
    rw [hl]
    show shift (back p r) k.at_ k.old.size k.new.size ≤ _
    rw [ha, grow, List.map_cons, List.sum_cons]
    rw [grow] at hl2
    unfold shift
    split <;> (try split) <;> omega
/-- What stands at a place that no change takes stands behind them where the place goes. -/
theorem back_byte {t : List UInt8} {p : Nat} (hp : p < t.length) : ∀ {ks : List Cg} {f : Nat}, In t.length f ks → (∀ k ∈ ks, ¬ (k.at_ ≤ (p : Int) ∧ (p : Int) < k.at_ + k.old.size)) →
    ∃ x : Nat, back p ks = x ∧ (made t ks)[x]? = t[p]?
  | [], _, _, _ => ⟨p, rfl, rfl⟩
  | k :: r, f, h, hno => by
    obtain ⟨_, h1⟩ := made_length h
    have h2 := h1 k r rfl
    obtain ⟨a, ha, hf, hr⟩ := h
    obtain ⟨x, hx, hb⟩ := back_byte hp hr (fun k hk => hno k (List.mem_cons_of_mem _ hk))
    have h3 := hno k (by simp)
    rw [ha, Int.toNat_natCast] at h2
    have hxl : x < (made t r).length := by
      rcases Nat.lt_or_ge x (made t r).length with h' | h'
      · exact h'
      · rw [List.getElem?_eq_none h', List.getElem?_eq_getElem hp] at hb
        cases hb
    rw [ha] at h3
    show ∃ y : Nat, shift (back p r) k.at_ k.old.size k.new.size = y ∧ (make (made t r) k.at_.toNat k.old.data.toList k.new.data.toList)[y]? = t[p]?
    rw [hx, ha, Int.toNat_natCast, make, data_len]
    by_cases h4 : p < a
    · have h5 : back p r = p := back_low hr (by omega)
      have h6 : x = p := by omega
      subst h6
      refine ⟨x, by rw [shift, if_pos (by omega)], ?_⟩
      rw [List.append_assoc, List.getElem?_append_left (by rw [List.length_take]; omega), List.getElem?_take, if_pos h4]
      exact hb
    · have h5 : ((a + k.old.size : Nat) : Int) ≤ back p r := back_ge (p := p) hr (by omega)
      refine ⟨x - k.old.size + k.new.size, by rw [shift, if_neg (by omega), if_neg (by omega)]; omega, ?_⟩
      rw [List.getElem?_append_right (by rw [List.length_append, List.length_take, data_len]; omega), List.length_append, List.length_take, data_len, List.getElem?_drop, ← hb]
      congr 1
      omega
theorem grow_snoc {ks : List Cg} {j : Nat} {k : Cg} (h : ks[j]? = some k) : grow (ks.take (j + 1)) = grow (ks.take j) + ((k.new.size : Int) - k.old.size) := by
  obtain ⟨hj, rfl⟩ := List.getElem?_eq_some_iff.1 h
  rw [List.take_succ_eq_append_getElem hj, grow, List.map_append, List.sum_append]
  simp [grow]
theorem grow_weigh : ∀ ks : List Cg, -(weigh ks : Int) ≤ grow ks ∧ grow ks ≤ weigh ks
  | [] => by simp [grow, weigh]
  | k :: r => by
    have := grow_weigh r
    simp only [grow, weigh, List.map_cons, List.sum_cons] at this ⊢
    omega
theorem back_drop {p : Int} {ks : List Cg} {j : Nat} {k : Cg} (h : ks[j]? = some k) : back p (ks.drop j) = shift (back p (ks.drop (j + 1))) k.at_ k.old.size k.new.size := by
  obtain ⟨hj, rfl⟩ := List.getElem?_eq_some_iff.1 h
  rw [List.drop_eq_getElem_cons hj]
  rfl
theorem apart_drop {ks : List Cg} {j : Nat} {a b : Cg} (h1 : ks[j]? = some a) (h2 : ks[j + 1]? = some b) : apart (ks.drop j) = (decide (a.at_ + (a.old.size : Int) ≤ b.at_) && apart (ks.drop (j + 1))) := by
  obtain ⟨hj, rfl⟩ := List.getElem?_eq_some_iff.1 h1
  obtain ⟨hj2, rfl⟩ := List.getElem?_eq_some_iff.1 h2
  rw [List.drop_eq_getElem_cons hj, List.drop_eq_getElem_cons hj2]
  rfl
theorem apart_end {ks : List Cg} {j : Nat} (h : ks.length ≤ j + 1) : apart (ks.drop j) = true := by
  rcases Nat.lt_or_ge j ks.length with h1 | h1
  · rw [List.drop_eq_getElem_cons h1, List.drop_eq_nil_of_le h]
    rfl
  · rw [List.drop_eq_nil_of_le h1]
    rfl
theorem turned_length : ∀ (m : Int) (ks : List Cg), (turned m ks).length = ks.length
  | _, [] => rfl
  | m, k :: r => by simp [turned, turned_length _ r]
theorem turned_snoc {ks : List Cg} {j : Nat} {k : Cg} (h : ks[j]? = some k) : ∀ m, turned m (ks.take (j + 1)) = turned m (ks.take j) ++ [⟨k.at_ + (m + grow (ks.take j)), k.new, k.old⟩] := by
  induction ks generalizing j with
  | nil => simp at h
  | cons x r ih =>
    intro m
    cases j with
    | zero =>
      simp only [List.getElem?_cons_zero, Option.some.injEq] at h
      subst h
      simp [turned, grow]
    | succ j =>
      have := ih (j := j) (by simpa using h) (m + ((x.new.size : Int) - x.old.size))
      simp only [List.take_succ_cons, turned, this, List.cons_append, grow, List.map_cons, List.sum_cons]
      rw [show m + ((x.new.size : Int) - x.old.size) + ((r.take j).map fun k => (k.new.size : Int) - k.old.size).sum = m + (((x.new.size : Int) - x.old.size) + ((r.take j).map fun k => (k.new.size : Int) - k.old.size).sum) by omega]
end Btc
end Go.Proofs.YtlfhfpjffdaomaaDoor
/-
  What package change tells of the beginnings and ends of two texts, and what makes one of the other.
-/
namespace Go.Proofs.YtlfhfpjffdaomaaDoor
open Go.RowKit
open Utf Chg
theorem byte_eq {a b : ByteArray} {i j : Nat} (hi : i < a.size) (hj : j < b.size) : ((a[i].toNat : Int) == (b[j].toNat : Int)) = (a[i] == b[j]) := by
  apply Bool.eq_iff_iff.2
  simp only [beq_iff_eq]
  constructor
  · intro h
    exact UInt8.toNat_inj.1 (by omega)
  · intro h
    rw [h]
end Go.Proofs.YtlfhfpjffdaomaaDoor
/-
  What makes one text of another one, as package change tells it.
-/
namespace Go.Proofs.YtlfhfpjffdaomaaDoor
open Go.RowKit
open Utf Chg
theorem tl_data (s : ByteArray) : s.toList = s.data.toList := bs_tl s.data.toList
theorem extract_from (s : ByteArray) (i : Nat) : s.extract i s.size = bs (s.data.toList.drop i) := by
  rw [Lib.extract_eq, List.take_of_length_le (by rw [List.length_drop, data_len]; exact Nat.le_refl _)]
  rfl
theorem extract_to (s : ByteArray) (k : Nat) : s.extract 0 k = bs (s.data.toList.take k) := by
  rw [Lib.extract_eq, List.drop_zero, Nat.sub_zero]
  rfl
theorem gb_low {w w' : World} {r : Nat} (h : w.grownBy w' (some r)) (hr : w.heap.size ≤ r) : Below w.heap.size w w' :=
  ⟨h.os, h.tape, h.output, h.size, fun i hi => h.block i hi (fun e => by injection e with e; omega)⟩
theorem dec_drop {s : List UInt8} {rs : List (List UInt8)} (h : dec s = some rs) (i : Nat) : dec (s.drop (off rs i)) = some (rs.drop i) := by
  obtain ⟨h1, rfl⟩ := dec_some h
  rw [off_drop]
  exact dec_of fun r hr => h1 r (List.mem_of_mem_drop hr)
end Go.Proofs.YtlfhfpjffdaomaaDoor
/-
  Whether a change fits a text, as package change tells it, and what undoes it.
-/
namespace Go.Proofs.YtlfhfpjffdaomaaDoor
open Go.RowKit
open Utf Chg
set_option maxHeartbeats 1000000 in
set_option maxRecDepth 100000 in
theorem change_Fits (t : ByteArray) (i : Int) (o n : ByteArray) (ht : t.size ≤ 281474976710656) (ho : o.size ≤ 281474976710656) (hn : n.size ≤ 281474976710656) (w : World) :
    Calls Tryd.prog 68 #[.string t, .agg #[.int .i64 i, .string o, .string n]] w fun e w' => e = .returned (.bool (fits t.data.toList i o.data.toList n.data.toList)) ∧ Below w.heap.size w w' := by
  have hl := data_len t
  have P := Lib.hid (fun w => utf_Place t i (by omega) w)
  have V1 := Lib.hid (fun w => utf_Valid o (by omega) w)
  have V2 := Lib.hid (fun w => utf_Valid n (by omega) w)
  have b0 := Blk.new w 48 #[.int .i64 i, .string o, .string n]
  have c0 : (w.alloc (.cells #[.int .i64 i, .string o, .string n] 48)).cell? ⟨w.heap.size, 0, none⟩ = some (.int .i64 i) := b0.cell 0
  have c1 : (w.alloc (.cells #[.int .i64 i, .string o, .string n] 48)).cell? ⟨w.heap.size, 1, none⟩ = some (.string o) := b0.cell 1
  have c2 : (w.alloc (.cells #[.int .i64 i, .string o, .string n] 48)).cell? ⟨w.heap.size, 2, none⟩ = some (.string n) := b0.cell 2
  have h0 : Below w.heap.size w (w.alloc (.cells #[.int .i64 i, .string o, .string n] 48)) := (Below.refl _ w).alloc (Nat.le_refl _) _
  have hq : ∀ q, Below w.heap.size w ((w.alloc (.cells #[.int .i64 i, .string o, .string n] 48)).drewN q) := fun q => h0.trans ((below_gb (gb_drewN _ q none)).mono h0.size)
  clear b0 h0
  cases hp : place t.data.toList i with
  | false =>
    have H : Hid (fits t.data.toList i o.data.toList n.data.toList = false) := by show _ = _; rw [fits, hp]; rfl
    rw [hp] at P
    clear hp
    go_enter Tryd.func68, Tryd.ntmps68
    go_wp2
    go_quiet ((first
        | (go_at_call 34; exact (P.out _).mono fun e w1 h => ⟨h.1, _, h.2.symm⟩)
        | (go_at_call 49; with_reducible exact (V1.out _).mono fun e w1 h => ⟨h.1, _, h.2.symm⟩)
        | (go_at_call 49; with_reducible exact (V2.out _).mono fun e w1 h => ⟨h.1, _, h.2.symm⟩)
        | (go_at_call 82; exact (HP.out _).mono fun e w1 h => ⟨h.1, _, h.2⟩)))
    go_wp2
    go_ret
    exact ⟨by rw [H.out]; rfl, hq _⟩
  | true =>
    cases hv1 : valid o.data.toList with
    | false =>
      have H : Hid (fits t.data.toList i o.data.toList n.data.toList = false) := by show _ = _; rw [fits, hp, hv1]; rfl
      rw [hp] at P
      rw [hv1] at V1
      clear hp hv1
      go_enter Tryd.func68, Tryd.ntmps68
      go_wp2
      go_quiet ((first
          | (go_at_call 34; exact (P.out _).mono fun e w1 h => ⟨h.1, _, h.2.symm⟩)
          | (go_at_call 49; with_reducible exact (V1.out _).mono fun e w1 h => ⟨h.1, _, h.2.symm⟩)
          | (go_at_call 49; with_reducible exact (V2.out _).mono fun e w1 h => ⟨h.1, _, h.2.symm⟩)
          | (go_at_call 82; exact (HP.out _).mono fun e w1 h => ⟨h.1, _, h.2⟩)))
      go_wp2
      go_ret
      exact ⟨by rw [H.out]; rfl, hq _⟩
    | true =>
      cases hv2 : valid n.data.toList with
      | false =>
        have H : Hid (fits t.data.toList i o.data.toList n.data.toList = false) := by show _ = _; rw [fits, hp, hv1, hv2]; rfl
        rw [hp] at P
        rw [hv1] at V1
        rw [hv2] at V2
        clear hp hv1 hv2
        go_enter Tryd.func68, Tryd.ntmps68
        go_wp2
        go_quiet ((first
            | (go_at_call 34; exact (P.out _).mono fun e w1 h => ⟨h.1, _, h.2.symm⟩)
            | (go_at_call 49; with_reducible exact (V1.out _).mono fun e w1 h => ⟨h.1, _, h.2.symm⟩)
            | (go_at_call 49; with_reducible exact (V2.out _).mono fun e w1 h => ⟨h.1, _, h.2.symm⟩)
            | (go_at_call 82; exact (HP.out _).mono fun e w1 h => ⟨h.1, _, h.2⟩)))
        go_wp2
        go_ret
        exact ⟨by rw [H.out]; rfl, hq _⟩
      | true =>
        obtain ⟨rs, j, hd, hj, he⟩ := place_of hp
        subst he
        have hin := off_in hd j
        rw [hl] at hin
        have H : Hid (fits t.data.toList (off rs j : Int) o.data.toList n.data.toList = Lib.hasPrefix (t.data.toList.drop (off rs j)) o.data.toList) := by
          show _ = _
          rw [fits, hp, hv1, hv2, Int.toNat_natCast]
          simp
        have HP := Lib.hid (fun w => Tryd.strings_HasPrefix (bs (t.data.toList.drop (off rs j))) o w)
        rw [bs_toList] at HP
        have e1 := extract_from t (off rs j)
        rw [hp] at P
        rw [hv1] at V1
        rw [hv2] at V2
        clear hp hv1 hv2 hd hj
        generalize bs (t.data.toList.drop (off rs j)) = t1 at *
        generalize Lib.hasPrefix (t.data.toList.drop (off rs j)) o.data.toList = r at *
        generalize off rs j = k at *
        go_enter Tryd.func68, Tryd.ntmps68
        go_wp2
        go_quiet ((first
            | (go_at_call 34; exact (P.out _).mono fun e w1 h => ⟨h.1, _, h.2.symm⟩)
            | (go_at_call 49; with_reducible exact (V1.out _).mono fun e w1 h => ⟨h.1, _, h.2.symm⟩)
            | (go_at_call 49; with_reducible exact (V2.out _).mono fun e w1 h => ⟨h.1, _, h.2.symm⟩)
            | (go_at_call 82; exact (HP.out _).mono fun e w1 h => ⟨h.1, _, h.2⟩)))
        go_wp2
        go_ret
        exact ⟨by rw [H.out]; rfl, hq _⟩
end Go.Proofs.YtlfhfpjffdaomaaDoor
/-
  Whether changes stand one behind the other, how many bytes more there are behind them, whether they may be made at once: as package batch tells it.
-/
namespace Go.Proofs.YtlfhfpjffdaomaaDoor
open Go.RowKit
open Utf Chg Btc
theorem grow_end {ks : List Cg} {j : Nat} (h : ks.length ≤ j) : grow (ks.take j) = grow ks := by rw [List.take_of_length_le h]
set_option maxHeartbeats 1000000 in
set_option maxRecDepth 100000 in
theorem batch_growth {A : Option Addr} {c : Nat} {ks : List Cg} {w : World} (hx : Cgs w A ks) (hs : weigh ks ≤ 100000) (hm : ks.length ≤ 100000) :
    Calls Tryd.prog 54 #[.slice A ks.length c] w fun e w' => e = .returned (.int .i64 (grow ks)) ∧ Below w.heap.size w w' := by
  go_enter Tryd.func54, Tryd.ntmps54
  go_wp2_with fail
  go_loopw [3, 8] (fun nv iv wr => ∃ (k : Nat) (q : Int), k ≤ ks.length ∧ iv = .int .i64 k ∧ nv = .int .i64 q ∧ Hid (q = grow (ks.take k)) ∧ Below w.heap.size w wr) (fun _ iv _ => ks.length - (intOf iv).toNat)
  case atStart => exact ⟨0, 0, Nat.zero_le _, rfl, rfl, rfl, Below.refl _ _⟩
  case round =>
    obtain ⟨k, q, hkl, rfl, rfl, hq, hW⟩ := hrel
    by_cases hlt : k < ks.length
    · obtain ⟨x, hkx⟩ : ∃ x, ks[k]? = some x := ⟨_, List.getElem?_eq_getElem hlt⟩
      obtain ⟨b, off, rfl, hbw, c0, c1, c2⟩ := hx.at_ hW (Nat.le_refl _) hkx
      have hsn := weigh_snoc hkx
      have htk := weigh_take ks (k + 1)
      have hgw := grow_weigh (ks.take k)
      rw [← hq.out] at hgw
      have hgs : Hid (q + ((x.new.size : Int) - x.old.size) = grow (ks.take (k + 1))) := by show _ = _; rw [grow_snoc hkx, hq.out]
      have hW2 : Below w.heap.size w (wr.alloc (.cells #[.int .i64 x.at_, .string x.old, .string x.new] 48)) := hW.alloc hW.size _
      have b0 := Blk.new wr 48 #[.int .i64 x.at_, .string x.old, .string x.new]
      have d0 : (wr.alloc (.cells #[.int .i64 x.at_, .string x.old, .string x.new] 48)).cell? ⟨wr.heap.size, 0, none⟩ = some (.int .i64 x.at_) := b0.cell 0
      have d1 : (wr.alloc (.cells #[.int .i64 x.at_, .string x.old, .string x.new] 48)).cell? ⟨wr.heap.size, 1, none⟩ = some (.string x.old) := b0.cell 1
      have d2 : (wr.alloc (.cells #[.int .i64 x.at_, .string x.old, .string x.new] 48)).cell? ⟨wr.heap.size, 2, none⟩ = some (.string x.new) := b0.cell 2
      clear hkx b0 hx hq
      go_wp2
      go_roundw
      case rel => exact ⟨k + 1, _, by omega, by go_num, by go_num, hgs, hW2⟩
      case measure => simp [intOf]; omega
    · have H : Hid (q = grow ks) := by show _ = _; rw [hq.out, grow_end (by omega)]
      clear hx hq
      go_wp2
      go_ret
      exact ⟨by rw [H.out]; rfl, hW⟩
set_option maxHeartbeats 2000000 in
set_option maxRecDepth 100000 in
theorem batch_ordered {A : Option Addr} {c : Nat} {ks : List Cg} {w : World} (hx : Cgs w A ks) (hk : ∀ k ∈ ks, -1099511627776 ≤ k.at_ ∧ k.at_ ≤ 1099511627776) (hs : ∀ k ∈ ks, k.old.size ≤ 281474976710656) (hm : ks.length ≤ 100000) :
    Calls Tryd.prog 67 #[.slice A ks.length c] w fun e w' => e = .returned (.bool (apart ks)) ∧ Below w.heap.size w w' := by
  have HK := Lib.hid hk
  have HS := Lib.hid hs
  clear hk hs
  go_enter Tryd.func67, Tryd.ntmps67
  go_wp2_with fail
  go_loopw [3] (fun iv wr => ∃ k m : Nat, iv = .int .i64 m ∧ Hid (k + 1 = m) ∧ (k : Int) = (m : Int) - 1 ∧ (ks.length = 0 ∨ m ≤ ks.length) ∧ Hid (apart ks = apart (ks.drop k)) ∧ Below w.heap.size w wr) (fun iv _ => ks.length + 1 - (intOf iv).toNat)
  case atStart => exact ⟨0, 1, rfl, rfl, rfl, by omega, rfl, Below.refl _ _⟩
  case round =>
    obtain ⟨k, m, rfl, hkm, hkm2, hml, hap, hW⟩ := hrel
    by_cases hlt : m < ks.length
    · have hkl : k < ks.length := by have := hkm.out; omega
      obtain ⟨x, hkx⟩ : ∃ x, ks[k]? = some x := ⟨_, List.getElem?_eq_getElem hkl⟩
      obtain ⟨y, hky⟩ : ∃ y, ks[m]? = some y := ⟨_, List.getElem?_eq_getElem hlt⟩
      obtain ⟨b, off, hA, hbw, c0, c1, c2⟩ := hx.at_ hW (Nat.le_refl _) hkx
      obtain ⟨b', off', hA', _, e0, e1, e2⟩ := hx.at_ hW (Nat.le_refl _) hky
      subst hA
      simp only [Option.some.injEq, Addr.mk.injEq, and_true] at hA'
      obtain ⟨rfl, rfl⟩ := hA'
      have hst := apart_drop hkx (by rw [hkm.out]; exact hky)
      rw [← hap.out, hkm.out] at hst
      obtain ⟨x1, x2⟩ := HK.out x (List.mem_of_getElem? hkx)
      obtain ⟨y1, y2⟩ := HK.out y (List.mem_of_getElem? hky)
      have xo := HS.out x (List.mem_of_getElem? hkx)
      have i1 : (m : Int) - 1 = k := hkm2.symm
      have i2 : (k : Int) < ks.length := by omega
      have i3 : (m : Int) < ks.length := by omega
      have hst2 := Lib.hid hst
      have hb2 : b < wr.heap.size := Nat.lt_of_lt_of_le hbw hW.size
      clear hkx hky hx hap hkm2 hst hml
      have bx1 : Blk ((wr.alloc (.cells #[.int .i64 x.at_, .string x.old, .string x.new] 48)).alloc (.cells #[.int .i64 y.at_, .string y.old, .string y.new] 48)) wr.heap.size 48 #[.int .i64 x.at_, .string x.old, .string x.new] := (Blk.new wr _ _).alloc _
      have by1 : Blk ((wr.alloc (.cells #[.int .i64 x.at_, .string x.old, .string x.new] 48)).alloc (.cells #[.int .i64 y.at_, .string y.old, .string y.new] 48)) (wr.heap.size + 1) 48 #[.int .i64 y.at_, .string y.old, .string y.new] := by
        have := Blk.new (wr.alloc (.cells #[.int .i64 x.at_, .string x.old, .string x.new] 48)) 48 #[.int .i64 y.at_, .string y.old, .string y.new]
        rwa [World.size_alloc] at this
      have bx2 : Blk ((wr.alloc (.cells #[.int .i64 y.at_, .string y.old, .string y.new] 48)).alloc (.cells #[.int .i64 x.at_, .string x.old, .string x.new] 48)) (wr.heap.size + 1) 48 #[.int .i64 x.at_, .string x.old, .string x.new] := by
        have := Blk.new (wr.alloc (.cells #[.int .i64 y.at_, .string y.old, .string y.new] 48)) 48 #[.int .i64 x.at_, .string x.old, .string x.new]
        rwa [World.size_alloc] at this
      have by2 : Blk ((wr.alloc (.cells #[.int .i64 y.at_, .string y.old, .string y.new] 48)).alloc (.cells #[.int .i64 x.at_, .string x.old, .string x.new] 48)) wr.heap.size 48 #[.int .i64 y.at_, .string y.old, .string y.new] := (Blk.new wr _ _).alloc _
      have p0 : ((wr.alloc (.cells #[.int .i64 x.at_, .string x.old, .string x.new] 48)).alloc (.cells #[.int .i64 y.at_, .string y.old, .string y.new] 48)).cell? ⟨wr.heap.size, 0, none⟩ = some (.int .i64 x.at_) := bx1.cell 0
      have p1 : ((wr.alloc (.cells #[.int .i64 x.at_, .string x.old, .string x.new] 48)).alloc (.cells #[.int .i64 y.at_, .string y.old, .string y.new] 48)).cell? ⟨wr.heap.size, 1, none⟩ = some (.string x.old) := bx1.cell 1
      have p2 : ((wr.alloc (.cells #[.int .i64 x.at_, .string x.old, .string x.new] 48)).alloc (.cells #[.int .i64 y.at_, .string y.old, .string y.new] 48)).cell? ⟨wr.heap.size + 1, 0, none⟩ = some (.int .i64 y.at_) := by1.cell 0
      have p3 : ((wr.alloc (.cells #[.int .i64 y.at_, .string y.old, .string y.new] 48)).alloc (.cells #[.int .i64 x.at_, .string x.old, .string x.new] 48)).cell? ⟨wr.heap.size + 1, 0, none⟩ = some (.int .i64 x.at_) := bx2.cell 0
      have p4 : ((wr.alloc (.cells #[.int .i64 y.at_, .string y.old, .string y.new] 48)).alloc (.cells #[.int .i64 x.at_, .string x.old, .string x.new] 48)).cell? ⟨wr.heap.size + 1, 1, none⟩ = some (.string x.old) := bx2.cell 1
      have p5 : ((wr.alloc (.cells #[.int .i64 y.at_, .string y.old, .string y.new] 48)).alloc (.cells #[.int .i64 x.at_, .string x.old, .string x.new] 48)).cell? ⟨wr.heap.size, 0, none⟩ = some (.int .i64 y.at_) := by2.cell 0
      have hW2 : ∀ o o', Below w.heap.size w ((wr.alloc o).alloc o').drew := fun o o' => ((hW.alloc hW.size _).alloc (by have := hW.size; simp; omega) _).drew
      clear bx1 by1 bx2 by2
      by_cases h1 : y.at_ < x.at_
      · have H : Hid (apart ks = false) := by show _ = _; rw [hst2.out, decide_eq_false (by omega)]; rfl
        go_wp2
        go_region
        all_goals
          go_wp2
          go_ret
          exact ⟨by rw [H.out]; rfl, hW2 _ _⟩
      · obtain ⟨d, hd⟩ : ∃ d : Nat, y.at_ - x.at_ = d := ⟨(y.at_ - x.at_).toNat, by omega⟩
        have hdl : d ≤ 2199023255552 := by omega
        by_cases h2 : d < x.old.size
        · have H : Hid (apart ks = false) := by show _ = _; rw [hst2.out, decide_eq_false (by omega)]; rfl
          go_wp2
          go_region
          all_goals
            go_wp2
            go_ret
            exact ⟨by rw [H.out]; rfl, hW2 _ _⟩
        · have H : Hid (apart ks = apart (ks.drop m)) := by show _ = _; rw [hst2.out, decide_eq_true (by omega)]; rfl
          go_wp2
          go_region
          all_goals
            go_wp2
            go_roundw
            case rel => exact ⟨m, m + 1, by go_num, rfl, by omega, by omega, H, hW2 _ _⟩
            case measure => simp [intOf]; omega
    · have hge : ks.length ≤ k + 1 := by have := hkm.out; omega
      have H : Hid (apart ks = true) := by show _ = _; rw [hap.out, apart_end hge]
      clear hx hap hkm2 hml
      go_wp2
      go_ret
      exact ⟨by rw [H.out]; rfl, hW⟩
end Go.Proofs.YtlfhfpjffdaomaaDoor
/-
  What undoes changes made at once, as package batch tells it.
-/
namespace Go.Proofs.YtlfhfpjffdaomaaDoor
open Go.RowKit
open Utf Chg Btc
namespace Btc
/-- The cells of changes, one behind the other. -/
def rows (l : List Cg) : List Value := l.flatMap fun k => [.int .i64 k.at_, .string k.old, .string k.new]
theorem rows_append (a b : List Cg) : rows (a ++ b) = rows a ++ rows b := by simp [rows]
theorem rows_get : ∀ {l : List Cg} {j : Nat} {k : Cg}, l[j]? = some k → (rows l)[j * 3]? = some (.int .i64 k.at_) ∧ (rows l)[j * 3 + 1]? = some (.string k.old) ∧ (rows l)[j * 3 + 2]? = some (.string k.new)
  | [], _, _, h => by simp at h
  | x :: r, 0, k, h => by
    simp only [List.getElem?_cons_zero, Option.some.injEq] at h
    subst h
    exact ⟨rfl, rfl, rfl⟩
  | x :: r, j + 1, k, h => by
    have ih := rows_get (l := r) (j := j) (by simpa using h)
    have e : rows (x :: r) = .int .i64 x.at_ :: .string x.old :: .string x.new :: rows r := rfl
    rw [e, show (j + 1) * 3 = j * 3 + 1 + 1 + 1 by omega]
    exact ih
/-- What undoes changes: nothing, if they do not stand in their order. -/
def turns (ks : List Cg) : List Cg := if apart ks = true then turned 0 ks else []
end Btc
theorem info_cg : (Tryd.prog.info? 48).map (fun i => (i.zero, i.size, i.bytes)) = some (some (.agg #[.int .i64 0, .string ⟨#[]⟩, .string ⟨#[]⟩]), 3, 40) := by kernel_rfl
/-- Changes that the call has laid. -/
theorem own_cgs {w : World} {B : Nat} {e : TypeId} {A : Option Addr} {n c : Nat} {l : List Cg} (h : w.ownsRow B e 3 (.slice A n c) n (rows l)) (hn : l.length = n) : Cgs w A l := fun h0 => by
  rcases h.2 with ⟨_, h1⟩ | ⟨g, cap, cur, hv, _, hh, _⟩
  · omega
  · injection hv with e1 e2 e3
    subst e1
    have hc := h.cells (g := g) rfl
    have hp : ∀ j, (⟨g, 0, none⟩ : Addr).add j = ⟨g, 0 + j, none⟩ := fun j => add_plain g 0 j
    refine ⟨g, 0, rfl, Blk.lt (w := w) hh, fun j k hj => ?_⟩
    obtain ⟨h1, h2, h3⟩ := rows_get hj
    refine ⟨?_, ?_, ?_⟩
    · rw [← hp]; exact hc _ _ h1
    · rw [Nat.add_assoc, ← hp]; exact hc _ _ h2
    · rw [Nat.add_assoc, ← hp]; exact hc _ _ h3
/-- An answer of changes that the call has laid. -/
def TurnIs (l : List Cg) (w : World) (e : Ending) (w' : World) : Prop := ∃ (A : Option Addr) (c : Nat), e = .returned (.slice A l.length c) ∧ Cgs w' A l ∧ Below w.heap.size w w'
end Go.Proofs.YtlfhfpjffdaomaaDoor
/-
  Whether changes may be made at once of a text, as package batch tells it.
-/
namespace Go.Proofs.YtlfhfpjffdaomaaDoor
open Go.RowKit
open Utf Chg Btc
theorem fit_drop {t : List UInt8} {ks : List Cg} {j : Nat} {k : Cg} (h : ks[j]? = some k) : (ks.drop j).all (fun k => fits t k.at_ k.old.data.toList k.new.data.toList) = (fits t k.at_ k.old.data.toList k.new.data.toList && (ks.drop (j + 1)).all (fun k => fits t k.at_ k.old.data.toList k.new.data.toList)) := by
  obtain ⟨hj, rfl⟩ := List.getElem?_eq_some_iff.1 h
  rw [List.drop_eq_getElem_cons hj]
  rfl
set_option maxHeartbeats 2000000 in
set_option maxRecDepth 100000 in
theorem batch_Right (t : ByteArray) {A : Option Addr} {c : Nat} {ks : List Cg} {w : World} (hx : Cgs w A ks) (ht : t.size ≤ 281474976710656) (hk : ∀ k ∈ ks, -1099511627776 ≤ k.at_ ∧ k.at_ ≤ 1099511627776) (hs : weigh ks ≤ 100000) (hm : ks.length ≤ 100000) :
    Calls Tryd.prog 53 #[.string t, .slice A ks.length c] w fun e w' => e = .returned (.bool (right t.data.toList ks)) ∧ Below w.heap.size w w' := by
  have O := Lib.hid (batch_ordered (c := c) hx hk (fun k hk => by
    have h1 : weigh ks ≤ 100000 := hs
    have : k.old.size ≤ weigh ks := by
      obtain ⟨j, hj, rfl⟩ := List.getElem_of_mem hk
      have h2 := weigh_snoc (List.getElem?_eq_getElem hj)
      have h3 := weigh_take ks (j + 1)
      omega
    omega) hm)
  cases hap : apart ks with
  | false =>
    have H : Hid (right t.data.toList ks = false) := by show _ = _; rw [right, hap]; rfl
    rw [hap] at O
    clear hap hx
    go_enter Tryd.func53, Tryd.ntmps53
    go_wp2_with (go_at_call 67; refine O.out.mono ?_; rintro e w1 ⟨rfl, hb1⟩)
    go_ret
    exact ⟨by rw [H.out]; rfl, hb1⟩
  | true =>
    have H0 : Hid (right t.data.toList ks = (ks.drop 0).all (fun k => fits t.data.toList k.at_ k.old.data.toList k.new.data.toList)) := by show _ = _; rw [right, hap]; rfl
    rw [hap] at O
    clear hap
    go_enter Tryd.func53, Tryd.ntmps53
    go_wp2_with (go_at_call 67; refine O.out.mono ?_; rintro e w1 ⟨rfl, hb1⟩)
    go_loopw [12] (fun iv wr => ∃ k : Nat, k ≤ ks.length ∧ iv = .int .i64 k ∧ Hid (right t.data.toList ks = (ks.drop k).all (fun k => fits t.data.toList k.at_ k.old.data.toList k.new.data.toList)) ∧ Below w.heap.size w wr) (fun iv _ => ks.length - (intOf iv).toNat)
    case atStart => exact ⟨0, Nat.zero_le _, rfl, H0, hb1⟩
    case round =>
      obtain ⟨k, hkl, rfl, HD, hW⟩ := hrel
      clear O H0 hb1
      by_cases hlt : k < ks.length
      · obtain ⟨x, hkx⟩ : ∃ x, ks[k]? = some x := ⟨_, List.getElem?_eq_getElem hlt⟩
        obtain ⟨b, off, rfl, hbw, c0, c1, c2⟩ := hx.at_ hW (Nat.le_refl _) hkx
        have hsn := weigh_snoc hkx
        have htk := weigh_take ks (k + 1)
        have hst := fit_drop (t := t.data.toList) hkx
        rw [← HD.out] at hst
        have hW2 : Below w.heap.size w (wr.alloc (.cells #[.int .i64 x.at_, .string x.old, .string x.new] 48)) := hW.alloc hW.size _
        have b0 := Blk.new wr 48 #[.int .i64 x.at_, .string x.old, .string x.new]
        have d0 : (wr.alloc (.cells #[.int .i64 x.at_, .string x.old, .string x.new] 48)).cell? ⟨wr.heap.size, 0, none⟩ = some (.int .i64 x.at_) := b0.cell 0
        have d1 : (wr.alloc (.cells #[.int .i64 x.at_, .string x.old, .string x.new] 48)).cell? ⟨wr.heap.size, 1, none⟩ = some (.string x.old) := b0.cell 1
        have d2 : (wr.alloc (.cells #[.int .i64 x.at_, .string x.old, .string x.new] 48)).cell? ⟨wr.heap.size, 2, none⟩ = some (.string x.new) := b0.cell 2
        have F := Lib.hid (fun w => change_Fits t x.at_ x.old x.new ht (by omega) (by omega) w)
        cases hf : fits t.data.toList x.at_ x.old.data.toList x.new.data.toList with
        | false =>
          rw [hf] at F hst
          have H := Lib.hid hst
          clear hkx b0 hx hst hf HD
          go_wp2_with (go_at_call 68; refine (F.out _).mono ?_; rintro e w2 ⟨rfl, hb3⟩)
          go_ret
          exact ⟨by rw [H.out]; rfl, hW2.trans (hb3.mono hW2.size)⟩
        | true =>
          rw [hf, Bool.true_and] at hst
          rw [hf] at F
          have H := Lib.hid hst
          clear hkx b0 hx hst hf HD
          go_wp2_with (go_at_call 68; refine (F.out _).mono ?_; rintro e w2 ⟨rfl, hb3⟩)
          go_roundw
          case rel => exact ⟨k + 1, by omega, by go_num, H, hW2.trans (hb3.mono hW2.size)⟩
          case measure => simp [intOf]; omega
      · have H : Hid (right t.data.toList ks = true) := by show _ = _; rw [HD.out, List.drop_eq_nil_of_le (by omega)]; rfl
        clear hx HD
        go_wp2
        go_ret
        exact ⟨by rw [H.out]; rfl, hW⟩
end Go.Proofs.YtlfhfpjffdaomaaDoor
/-
  What changes made at once make of a text, as package batch tells it.
-/
namespace Go.Proofs.YtlfhfpjffdaomaaDoor
open Go.RowKit
open Utf Chg Btc
theorem done_no {t : List UInt8} {ks : List Cg} (h : right t ks = false) : done t ks = ([], 1) := by unfold done; rw [if_neg (by rw [h]; exact Bool.false_ne_true)]
theorem done_big {t : List UInt8} {ks : List Cg} (h : right t ks = true) (hb : 4096 < (made t ks).length) : done t ks = ([], 8) := by unfold done; rw [if_pos h, if_pos hb]
theorem done_ok {t : List UInt8} {ks : List Cg} (h : right t ks = true) (hb : ¬ 4096 < (made t ks).length) : done t ks = (made t ks, 0) := by unfold done; rw [if_pos h, if_neg hb]
theorem right_in0 {t : List UInt8} {ks : List Cg} (h : right t ks = true) : In t.length 0 ks := right_in h (Nat.zero_le _) (fun k hk => by
  have h1 : k ∈ ks := List.mem_of_mem_head? (by rw [hk]; rfl)
  simp only [right, Bool.and_eq_true, List.all_eq_true] at h
  obtain ⟨a, ha, _⟩ := fits_off (h.2 k h1)
  omega)
theorem extract_mid (s : ByteArray) (i j : Nat) : s.extract i j = bs ((s.data.toList.drop i).take (j - i)) := by
  rw [Lib.extract_eq]
  rfl
theorem made_all {t : List UInt8} {ks : List Cg} (h : In t.length 0 ks) : made t ks = [] ++ Btc.parts t 0 (ks.drop 0) := by
  rw [made_parts h]
  simp
/-- A round: what stands ahead of a change, and what it puts in. -/
theorem parts_drop {t : List UInt8} {ks : List Cg} {j f : Nat} {k : Cg} (h : ks[j]? = some k) (hi : In t.length f (ks.drop j)) : ∃ a : Nat, k.at_ = a ∧ f ≤ a ∧ a + k.old.size ≤ t.length ∧ In t.length (a + k.old.size) (ks.drop (j + 1)) ∧
    Btc.parts t f (ks.drop j) = (t.drop f).take (a - f) ++ (k.new.data.toList ++ Btc.parts t (a + k.old.size) (ks.drop (j + 1))) := by
  obtain ⟨hj, rfl⟩ := List.getElem?_eq_some_iff.1 h
  rw [List.drop_eq_getElem_cons hj] at hi ⊢
  obtain ⟨a, ha, hf, hr⟩ := hi
  refine ⟨a, ha, hf, hr.le, hr, ?_⟩
  rw [Btc.parts, ha, Int.toNat_natCast]
theorem parts_end {t : List UInt8} {ks : List Cg} {j f : Nat} (h : ks.length ≤ j) : Btc.parts t f (ks.drop j) = t.drop f := by
  rw [List.drop_eq_nil_of_le h]
  rfl
set_option maxHeartbeats 2000000 in
set_option maxRecDepth 100000 in
theorem batch_Do (t : ByteArray) {A : Option Addr} {c : Nat} {ks : List Cg} {w : World} (hx : Cgs w A ks) (ht : t.size ≤ 100000) (hk : ∀ k ∈ ks, -1099511627776 ≤ k.at_ ∧ k.at_ ≤ 1099511627776) (hs : weigh ks ≤ 100000) (hm : ks.length ≤ 100000) :
    Calls Tryd.prog 40 #[.string t, .slice A ks.length c] w fun e w' => e = .returned (.tuple #[.string (bs (done t.data.toList ks).1), .int .i64 (done t.data.toList ks).2]) ∧ Below w.heap.size w w' := by
  have hl := data_len t
  have R : Hid (∀ u, Below w.heap.size w u → Calls Tryd.prog 53 #[.string t, .slice A ks.length c] u fun e w' => e = .returned (.bool (right t.data.toList ks)) ∧ Below u.heap.size u w') := fun u hu => batch_Right t (hx.below hu) (by omega) hk (by omega) (by omega)
  have G : Hid (∀ u, Below w.heap.size w u → Calls Tryd.prog 54 #[.slice A ks.length c] u fun e w' => e = .returned (.int .i64 (grow ks)) ∧ Below u.heap.size u w') := fun u hu => batch_growth (hx.below hu) (by omega) (by omega)
  cases hr : right t.data.toList ks with
  | false =>
    have H := Lib.hid (done_no hr)
    rw [hr] at R
    clear hr hx
    go_enter Tryd.func40, Tryd.ntmps40
    go_wp2_with (go_at_call 53; refine (R.out _ (Below.refl _ _)).mono ?_; rintro e w1 ⟨rfl, hb1⟩)
    go_ret2
    exact ⟨by rw [H.out]; rfl, hb1⟩
  | true =>
    have hin := right_in0 hr
    have hml := (made_length hin).1
    rw [hl] at hml
    have hgw := grow_weigh ks
    rw [hr] at R
    by_cases hbig : 4096 < (made t.data.toList ks).length
    · have H := Lib.hid (done_big hr hbig)
      have g0 : (t.size : Int) + grow ks = (made t.data.toList ks).length := by omega
      have hMb : (made t.data.toList ks).length ≤ 200000 := by omega
      clear hr hx hin hml
      generalize (made t.data.toList ks).length = M at *
      go_enter Tryd.func40, Tryd.ntmps40
      go_wp2_with (first
        | (go_at_call 53; refine (R.out _ (Below.refl _ _)).mono ?_; rintro e w1 ⟨rfl, hb1⟩)
        | (go_at_call 54; refine (G.out _ hb1).mono ?_; rintro e w2 ⟨rfl, hb2⟩))
      go_ret2
      exact ⟨by rw [H.out]; rfl, hb1.trans (hb2.mono hb1.size)⟩
    · have H := Lib.hid (done_ok hr hbig)
      have g0 : (t.size : Int) + grow ks = (made t.data.toList ks).length := by omega
      have hMb : (made t.data.toList ks).length ≤ 4096 := by omega
      have HA := Lib.hid (made_all hin)
      have HI := Lib.hid hin
      obtain ⟨X, hX⟩ : ∃ X, made t.data.toList ks = X := ⟨_, rfl⟩
      rw [hX] at H g0 hMb hbig HA
      have hXn : X.length ≤ 281474976710656 := by omega
      clear hr hin hml hX
      obtain ⟨M, hM⟩ : ∃ M, X.length = M := ⟨_, rfl⟩
      rw [hM] at hMb g0 hbig hXn
      have HM := Lib.hid hM
      clear hM
      go_enter Tryd.func40, Tryd.ntmps40
      go_wp2_with (first
        | (go_at_call 53; refine (R.out _ (Below.refl _ _)).mono ?_; rintro e w1 ⟨rfl, hb1⟩)
        | (go_at_call 54; refine (G.out _ hb1).mono ?_; rintro e w2 ⟨rfl, hb2⟩)
        | (go_at_call 55; refine (bd_grow w.heap.size w2.heap.size M (w2.alloc (.cells #[.pointer none, .slice none 0 0] 76)) (Nat.le_trans hb1.size hb2.size) (Blk.new w2 _ _) (by have := hb1.size; have := hb2.size; simp; omega) hXn).mono ?_; rintro e w3 ⟨rfl, hbd, hb3⟩))
      obtain ⟨g, hg⟩ : ∃ g, w2.heap.size = g := ⟨_, rfl⟩
      have hW3 : Below w.heap.size w w3 := ((hb1.trans (hb2.mono hb1.size)).alloc (Nat.le_trans hb1.size hb2.size) _).trans hb3
      rw [hg] at hbd
      rw [hg]
      clear hb1 hb2 hb3 hg R G
      go_loopw [8, 26] (fun fv iv wr => ∃ (k f : Nat) (acc : List UInt8), fv = .int .i64 f ∧ iv = .int .i64 k ∧ k ≤ ks.length ∧ f ≤ t.size ∧ acc.length ≤ 4096 ∧ Hid (X = acc ++ Btc.parts t.data.toList f (ks.drop k)) ∧ Hid (In t.data.toList.length f (ks.drop k)) ∧
        Lib.BuilderAt 76 5 w.heap.size g (.pointer (some ⟨g, 0, none⟩)) (Lib.byteCells acc) wr ∧ Below w.heap.size w wr) (fun _ iv _ => ks.length - (intOf iv).toNat)
      case atStart => exact ⟨0, 0, [], rfl, rfl, Nat.zero_le _, Nat.zero_le _, Nat.zero_le _, HA, HI, hbd, hW3⟩
      case round =>
        obtain ⟨k, f, acc, rfl, rfl, hkl, hft, hac, HX, HN, hbd, hW⟩ := hrel
        clear HA HI hW3 g0
        by_cases hlt : k < ks.length
        · obtain ⟨x, hkx⟩ : ∃ x, ks[k]? = some x := ⟨_, List.getElem?_eq_getElem hlt⟩
          obtain ⟨b, off, rfl, hbw, c0, c1, c2⟩ := hx.at_ hW (Nat.le_refl _) hkx
          obtain ⟨a, ha, hfa, hat, hnx, hpt⟩ := parts_drop hkx HN.out
          rw [hl] at hat
          have hsn := weigh_snoc hkx
          have htk := weigh_take ks (k + 1)
          have e1 := extract_mid t f a
          obtain ⟨P, hP⟩ : ∃ P, (t.data.toList.drop f).take (a - f) = P := ⟨_, rfl⟩
          rw [hP] at e1 hpt
          have hPl : P.length ≤ 100000 := by rw [← hP, List.length_take]; omega
          have HX2 : Hid (X = (acc ++ (P ++ x.new.data.toList)) ++ Btc.parts t.data.toList (a + x.old.size) (ks.drop (k + 1))) := by
            show _ = _
            rw [HX.out, hpt]
            simp
          have hac2 : (acc ++ (P ++ x.new.data.toList)).length ≤ 4096 := by
            have h1 := congrArg List.length HX2.out
            rw [HM.out, List.length_append] at h1
            omega
          have HC : Hid (Lib.byteCells acc ++ Lib.strCells (bs P) ++ Lib.strCells x.new = Lib.byteCells (acc ++ (P ++ x.new.data.toList))) := by
            show _ = _
            rw [byteCells_append, byteCells_append, List.append_assoc]
            rfl
          have HN2 := Lib.hid hnx
          rw [ha] at c0
          have hgw := hbd.lt
          have b0 := Blk.new wr 48 #[.int .i64 a, .string x.old, .string x.new]
          have d0 : (wr.alloc (.cells #[.int .i64 a, .string x.old, .string x.new] 48)).cell? ⟨wr.heap.size, 0, none⟩ = some (.int .i64 a) := b0.cell 0
          have C1 := Lib.hid (bd_write_keeps w.heap.size g (Lib.byteCells acc) (bs P) (wr.alloc (.cells #[.int .i64 a, .string x.old, .string x.new] 48)) (bd_keep hbd ((Below.refl _ wr).alloc (Nat.le_refl _) _)) (by rw [Lib.byteCells_length, bs_size]; omega) (by have := hW.size; simp; omega))
          have C2 : Hid (∀ w4, Lib.BuilderAt 76 5 w.heap.size g (.pointer (some ⟨g, 0, none⟩)) (Lib.byteCells acc ++ Lib.strCells (bs P)) w4 → w.heap.size ≤ w4.heap.size → Calls Tryd.prog 56 #[.pointer (some ⟨g, 0, none⟩), .string x.new] w4 fun e w' => e = .returned (.tuple #[.int .i64 x.new.size, .nilIface]) ∧ (Lib.BuilderAt 76 5 w.heap.size g (.pointer (some ⟨g, 0, none⟩)) (Lib.byteCells acc ++ Lib.strCells (bs P) ++ Lib.strCells x.new) w' ∧ Below w.heap.size w4 w' ∧
              ∀ (g' : Nat) (t : TypeId) (cs : Array Value), Blk w4 g' t cs → 5 ≠ t → g' ≠ g → Blk w' g' t cs)) := fun w4 h4 h5 =>
            bd_write_keeps w.heap.size g _ x.new w4 h4 (by rw [List.length_append, Lib.byteCells_length, Lib.strCells_length, bs_size]; omega) h5
          have hW2 : Below w.heap.size w (wr.alloc (.cells #[.int .i64 a, .string x.old, .string x.new] 48)) := hW.alloc hW.size _
          clear hkx hx ha hpt hP HX HN hnx hbd
          go_wp2_with (first
            | (go_at_call 56; (with_reducible refine C1.out.mono ?_); rintro e w4 ⟨rfl, hbd4, hb4, hk4⟩; have b4 := hk4 _ _ _ b0 (by decide) (by omega); have f0 : w4.cell? ⟨wr.heap.size, 0, none⟩ = some (.int .i64 a) := b4.cell 0; have f1 : w4.cell? ⟨wr.heap.size, 1, none⟩ = some (.string x.old) := b4.cell 1; have f2 : w4.cell? ⟨wr.heap.size, 2, none⟩ = some (.string x.new) := b4.cell 2; have hW4 := hW2.trans hb4)
            | (go_at_call 56; (with_reducible refine (C2.out _ hbd4 hW4.size).mono ?_); rintro e w5 ⟨rfl, hbd5, hb5, hk5⟩; have b5 := hk5 _ _ _ b4 (by decide) (by omega); have k0 : w5.cell? ⟨wr.heap.size, 0, none⟩ = some (.int .i64 a) := b5.cell 0; have k1 : w5.cell? ⟨wr.heap.size, 1, none⟩ = some (.string x.old) := b5.cell 1))
          go_roundw
          case rel => exact ⟨k + 1, a + x.old.size, acc ++ (P ++ x.new.data.toList), by go_num, by go_num, by omega, hat, hac2, HX2, HN2, by rw [← HC.out]; exact hbd5, hW4.trans hb5⟩
          case measure => simp [intOf]; omega
        · have HE : Hid (Lib.byteCells X = Lib.byteCells acc ++ Lib.strCells (bs (t.data.toList.drop f))) := by
            show _ = _
            rw [HX.out, parts_end (by omega), byteCells_append]
            rfl
          have e1 := extract_from t f
          have hdl : (bs (t.data.toList.drop f)).size ≤ 100000 := by rw [bs_size, List.length_drop]; omega
          have C1 := Lib.hid (bd_write_keeps w.heap.size g (Lib.byteCells acc) (bs (t.data.toList.drop f)) wr hbd (by rw [Lib.byteCells_length]; omega) hW.size)
          clear hx HX HN
          generalize bs (t.data.toList.drop f) = Z at *
          go_wp2_with (first
            | (go_at_call 56; refine C1.out.mono ?_; rintro e w4 ⟨rfl, hbd4, hb4, hk4⟩; have hbd5 : Lib.BuilderAt 76 5 w.heap.size g (.pointer (some ⟨g, 0, none⟩)) (Lib.byteCells X) w4 := (by rw [HE.out]; exact hbd4))
            | (go_at_call 57; refine (Tryd.Builder_String_any w.heap.size g X w4 (Or.inr hbd5) (Nat.le_trans hW.size hb4.size)).mono ?_; rintro e w5 ⟨rfl, hb5⟩))
          go_ret2
          exact ⟨by rw [H.out]; rfl, (hW.trans hb4).trans hb5⟩
end Go.Proofs.YtlfhfpjffdaomaaDoor
