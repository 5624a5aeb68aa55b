/-
  Changes of texts, without a program: what two lists have in common at their beginnings and ends, the change that makes one text of another one, what changes make of a text, where places go.
-/
import Derived.Test.YtlfhfpjffdaomaaDoorUtfPlaces
import Derived.Test.YtlfhfpjffdaomaaDoorShiftPlain
namespace Go.Proofs.YtlfhfpjffdaomaaDoor
namespace Chg
open Utf
/-- How many of two lists are the same, from the first on. -/
def cp {α : Type} [DecidableEq α] : List α → List α → Nat
  | a :: x, b :: y => if a = b then cp x y + 1 else 0
  | [], _ => 0
  | _ :: _, [] => 0
/-- How many of two lists are the same, from the last on. -/
def cs {α : Type} [DecidableEq α] (x y : List α) : Nat := cp x.reverse y.reverse
section
variable {α : Type} [DecidableEq α]
theorem cp_comm : ∀ x y : List α, cp x y = cp y x
  | [], [] => rfl
  | [], _ :: _ => rfl
  | _ :: _, [] => rfl
  | a :: x, b :: y => by
    simp only [cp]
    by_cases h : a = b
    · rw [if_pos h, if_pos h.symm, cp_comm x y]
    · rw [if_neg h, if_neg (fun e => h e.symm)]
theorem cp_get : ∀ {x y : List α} {n : Nat}, n < cp x y → ∃ c, x[n]? = some c ∧ y[n]? = some c
  | [], _, _, h => by simp [cp] at h
  | _ :: _, [], _, h => by simp [cp] at h
  | a :: x, b :: y, n, h => by
    simp only [cp] at h
    by_cases e : a = b
    · rw [if_pos e] at h
      subst e
      cases n with
      | zero => exact ⟨a, rfl, rfl⟩
      | succ n => exact cp_get (x := x) (y := y) (n := n) (by omega)
    · rw [if_neg e] at h; omega
theorem cp_next : ∀ {x y : List α} {c : α}, x[cp x y]? = some c → y[cp x y]? ≠ some c
  | [], _, _, h => by simp at h
  | _ :: _, [], _, _ => by simp
  | a :: x, b :: y, c, h => by
    simp only [cp] at h ⊢
    by_cases e : a = b
    · rw [if_pos e] at h ⊢
      exact cp_next (x := x) (y := y) h
    · rw [if_neg e] at h ⊢
      intro h2
      simp only [List.getElem?_cons_zero, Option.some.injEq] at h h2
      exact e (h.trans h2.symm)
theorem cp_le (x y : List α) : cp x y ≤ x.length := by
  rcases Nat.lt_or_ge x.length (cp x y) with h | h
  · obtain ⟨c, h1, _⟩ := cp_get h
    simp at h1
  · exact h
theorem cp_le' (x y : List α) : cp x y ≤ y.length := by rw [cp_comm]; exact cp_le y x
theorem cp_take {x y : List α} {k : Nat} (h : k ≤ cp x y) : x.take k = y.take k := by
  apply List.ext_getElem?
  intro i
  rw [List.getElem?_take, List.getElem?_take]
  by_cases hi : i < k
  · rw [if_pos hi, if_pos hi]
    obtain ⟨c, h1, h2⟩ := cp_get (x := x) (y := y) (n := i) (by omega)
    rw [h1, h2]
  · rw [if_neg hi, if_neg hi]
theorem cp_max {x y : List α} {k : Nat} (hx : k ≤ x.length) (h : x.take k = y.take k) : k ≤ cp x y := by
  rcases Nat.lt_or_ge (cp x y) k with hlt | hge
  · have h1 : x[cp x y]? = some (x[cp x y]'(by omega)) := List.getElem?_eq_getElem _
    have h2 := congrArg (fun l => l[cp x y]?) h
    simp only [List.getElem?_take, if_pos hlt] at h2
    exact absurd (h2 ▸ h1) (cp_next h1)
  · exact hge
theorem cp_lt {x y : List α} {n : Nat} (h : n ≤ cp x y) (hx : n < x.length) (hy : n < y.length) : x[n] = y[n] ↔ n < cp x y := by
  constructor
  · intro e
    rcases Nat.lt_or_ge n (cp x y) with h1 | h1
    · exact h1
    · obtain rfl : n = cp x y := by omega
      exact absurd (by rw [List.getElem?_eq_getElem hy, e]) (cp_next (List.getElem?_eq_getElem hx))
  · intro h1
    obtain ⟨c, h2, h3⟩ := cp_get h1
    rw [List.getElem?_eq_getElem hx] at h2
    rw [List.getElem?_eq_getElem hy] at h3
    injection h2 with h2
    injection h3 with h3
    rw [h2, h3]
theorem cs_comm (x y : List α) : cs x y = cs y x := cp_comm _ _
theorem cs_le (x y : List α) : cs x y ≤ x.length := by have := cp_le x.reverse y.reverse; simpa [cs] using this
theorem cs_le' (x y : List α) : cs x y ≤ y.length := by rw [cs_comm]; exact cs_le y x
theorem cs_drop {x y : List α} {k : Nat} (h : k ≤ cs x y) : x.drop (x.length - k) = y.drop (y.length - k) := by
  have := cp_take h
  rw [List.take_reverse, List.take_reverse] at this
  exact List.reverse_inj.1 this
theorem cs_max {x y : List α} {k : Nat} (hx : k ≤ x.length) (h : x.drop (x.length - k) = y.drop (y.length - k)) : k ≤ cs x y := by
  refine cp_max (by simpa using hx) ?_
  rw [List.take_reverse, List.take_reverse, h]
theorem cs_lt {x y : List α} {n : Nat} (h : n ≤ cs x y) (hx : n < x.length) (hy : n < y.length) : x[x.length - 1 - n]'(by omega) = y[y.length - 1 - n]'(by omega) ↔ n < cs x y := by
  have := cp_lt h (by simpa using hx) (by simpa using hy)
  rw [List.getElem_reverse, List.getElem_reverse] at this
  exact this
end
theorem dec_inj {x y : List (List UInt8)} (hx : ∀ r ∈ x, one r = true) (hy : ∀ r ∈ y, one r = true) (h : x.flatten = y.flatten) : x = y := by
  have h1 := dec_of hx
  rw [h, dec_of hy] at h1
  injection h1 with h1
  exact h1.symm
section
variable {x y : List (List UInt8)}
theorem off_same {n : Nat} (h : x.take n = y.take n) : off x n = off y n := by rw [off, off, h]
/-- Of two texts of runes what is the same at the beginning, byte by byte, ends in the rune behind those that are the same. -/
theorem head_under (hx : ∀ r ∈ x, one r = true) (hy : ∀ r ∈ y, one r = true) : Under x (cp x y) (cp x.flatten y.flatten) := by
  refine ⟨cp_le x y, cp_max (off_le x _) ?_, fun hn => ?_⟩
  · rw [off_take, off_same (cp_take (Nat.le_refl _)), off_take, cp_take (Nat.le_refl _)]
  · rcases Nat.lt_or_ge (cp x.flatten y.flatten) (off x (cp x y + 1)) with h | h
    · exact h
    · exfalso
      have h1 := cp_take h
      rw [off_take] at h1
      have h2 : y.flatten = (x.take (cp x y + 1)).flatten ++ y.flatten.drop (off x (cp x y + 1)) := by rw [h1, List.take_append_drop]
      have h3 := dec_all (y.flatten.drop (off x (cp x y + 1))) (rs := x.take (cp x y + 1)) (fun r hr => hx r (List.mem_of_mem_take hr))
      rw [← h2, dec_of hy] at h3
      cases hd : dec (y.flatten.drop (off x (cp x y + 1))) with
      | none => rw [hd] at h3; cases h3
      | some q =>
        rw [hd] at h3
        injection h3 with h3
        have h5 : y = x.take (cp x y + 1) ++ q := h3
        have hl : (x.take (cp x y + 1)).length = cp x y + 1 := by rw [List.length_take]; omega
        have h4 : y.take (cp x y + 1) = x.take (cp x y + 1) := by
          have := congrArg (List.take (cp x y + 1)) h5
          rw [List.take_append_of_le_length (by omega), List.take_take, Nat.min_self] at this
          exact this
        have := cp_max (x := x) (y := y) (k := cp x y + 1) (by omega) h4.symm
        omega
/-- How many bytes the runes have that are the same at the ends. -/
def tl (x y : List (List UInt8)) : Nat := (x.drop (x.length - cs x y)).flatten.length
theorem tl_comm (x y : List (List UInt8)) : tl x y = tl y x := by rw [tl, tl, cs_drop (Nat.le_refl _), cs_comm]
theorem tl_off (x y : List (List UInt8)) : off x (x.length - cs x y) + tl x y = x.flatten.length := by
  rw [tl, ← off_drop, List.length_drop]
  have := off_le x (x.length - cs x y)
  omega
theorem tl_le (x y : List (List UInt8)) : tl x y ≤ cs x.flatten y.flatten := by
  have h1 := tl_off x y
  have h2 := tl_off y x
  rw [tl_comm y x] at h2
  refine cs_max (by omega) ?_
  rw [show x.flatten.length - tl x y = off x (x.length - cs x y) by omega, show y.flatten.length - tl x y = off y (y.length - cs y x) by omega, off_drop, off_drop, cs_drop (Nat.le_refl _), cs_comm]
theorem tl_far (hx : ∀ r ∈ x, one r = true) (hy : ∀ r ∈ y, one r = true) {k : Nat} (h1 : tl x y < k) (h2 : k ≤ cs x.flatten y.flatten) : apart x.flatten (x.flatten.length - k) = false := by
  cases ha : apart x.flatten (x.flatten.length - k) with
  | false => rfl
  | true =>
    exfalso
    have hk1 : k ≤ x.flatten.length := Nat.le_trans h2 (cs_le _ _)
    have hk2 : k ≤ y.flatten.length := Nat.le_trans h2 (cs_le' _ _)
    have hd := cs_drop h2
    obtain ⟨i, hi, hoi⟩ := (apart_flat hx (by omega)).1 ha
    have hg : x.flatten[x.flatten.length - k]? = y.flatten[y.flatten.length - k]? := by
      have := congrArg (fun l => l[0]?) hd
      simpa [List.getElem?_drop] using this
    have hb : apart y.flatten (y.flatten.length - k) = true := by
      rw [apart] at ha ⊢
      rw [← hg]
      exact ha
    obtain ⟨j, hj, hoj⟩ := (apart_flat hy (by omega)).1 hb
    rw [← hoi, ← hoj, off_drop, off_drop] at hd
    have he := dec_inj (fun r hr => hx r (List.mem_of_mem_drop hr)) (fun r hr => hy r (List.mem_of_mem_drop hr)) hd
    have hl := congrArg List.length he
    rw [List.length_drop, List.length_drop] at hl
    have hm : x.length - i ≤ cs x y := cs_max (by omega) (by rw [show x.length - (x.length - i) = i by omega, show y.length - (x.length - i) = j by omega]; exact he)
    have hmo := off_mono (rs := x) (i := x.length - cs x y) (j := i) (by omega)
    have := tl_off x y
    omega
/-- What is between: without what is the same at the beginnings, and then at the ends. -/
def mid (x y : List (List UInt8)) : List (List UInt8) := (x.drop (cp x y)).take ((x.drop (cp x y)).length - cs (x.drop (cp x y)) (y.drop (cp x y)))
/-- What is the same at the ends. -/
def ends (x y : List (List UInt8)) : List (List UInt8) := (x.drop (cp x y)).drop ((x.drop (cp x y)).length - cs (x.drop (cp x y)) (y.drop (cp x y)))
theorem parts (x y : List (List UInt8)) : x = x.take (cp x y) ++ (mid x y ++ ends x y) := by rw [mid, ends, List.take_append_drop, List.take_append_drop]
theorem ends_comm (x y : List (List UInt8)) : ends x y = ends y x := by
  rw [ends, ends, cs_drop (Nat.le_refl _), cs_comm, cp_comm]
theorem parts' (x y : List (List UInt8)) : y = x.take (cp x y) ++ (mid y x ++ ends x y) := by
  rw [cp_take (Nat.le_refl _), ends_comm, cp_comm]
  exact parts y x
theorem mid_mem {r : List UInt8} (h : r ∈ mid x y) : r ∈ x := List.mem_of_mem_drop (List.mem_of_mem_take h)
theorem mid_first {r : List UInt8} (h : (mid x y).head? = some r) : (mid y x).head? ≠ some r := by
  intro h2
  rw [mid, List.head?_take] at h h2
  split at h
  · cases h
  · split at h2
    · cases h2
    · rw [List.head?_drop] at h h2
      rw [cp_comm y x] at h2
      exact cp_next h h2
theorem mid_last {r : List UInt8} (h : (mid x y).getLast? = some r) : (mid y x).getLast? ≠ some r := by
  intro h2
  have key : ∀ (u v : List (List UInt8)) (r : List UInt8), (u.take (u.length - cs u v)).getLast? = some r → u.reverse[cp u.reverse v.reverse]? = some r := fun u v r h => by
    have hc := cs_le u v
    rw [List.getLast?_eq_getElem?, List.length_take, Nat.min_eq_left (by omega), List.getElem?_take] at h
    split at h
    · next hlt =>
      have hlt2 : cs u v < u.length := by
        rcases Nat.lt_or_ge (cs u v) u.length with h3 | h3
        · exact h3
        · omega
      rw [show cp u.reverse v.reverse = cs u v from rfl, List.getElem?_reverse hlt2, ← h]
      congr 1; omega
    · cases h
  have k1 := key _ _ _ h
  rw [mid, cp_comm y x] at h2
  have k2 := key _ _ _ h2
  rw [cp_comm (List.reverse (y.drop _))] at k2
  exact cp_next k1 k2
end
/-- The place, what goes, and what comes, of the change that makes b of a. -/
def dAt (a b : List UInt8) : Nat := if a = b then 0 else match dec a, dec b with | some x, some y => off x (cp x y) | _, _ => 0
def dOld (a b : List UInt8) : List UInt8 := if a = b then [] else match dec a, dec b with | some x, some y => (mid x y).flatten | _, _ => []
section
variable {a b : List UInt8} {x y : List (List UInt8)}
theorem dAt_none (h : a = b ∨ dec a = none ∨ dec b = none) : dAt a b = 0 := by
  rw [dAt]
  split
  · rfl
  · rcases h with h | h | h
    · contradiction
    · rw [h]
    · rw [h]; cases dec a <;> rfl
theorem dOld_none (h : a = b ∨ dec a = none ∨ dec b = none) : dOld a b = [] := by
  rw [dOld]
  split
  · rfl
  · rcases h with h | h | h
    · contradiction
    · rw [h]
    · rw [h]; cases dec a <;> rfl
theorem dAt_some (hn : a ≠ b) (hx : dec a = some x) (hy : dec b = some y) : dAt a b = off x (cp x y) := by rw [dAt, if_neg hn, hx, hy]
theorem dOld_some (hn : a ≠ b) (hx : dec a = some x) (hy : dec b = some y) : dOld a b = (mid x y).flatten := by rw [dOld, if_neg hn, hx, hy]
theorem dAt_comm (a b : List UInt8) : dAt a b = dAt b a := by
  by_cases h : a = b
  · rw [h]
  · cases hx : dec a with
    | none => rw [dAt_none (Or.inr (Or.inl hx)), dAt_none (Or.inr (Or.inr hx))]
    | some x =>
      cases hy : dec b with
      | none => rw [dAt_none (Or.inr (Or.inr hy)), dAt_none (Or.inr (Or.inl hy))]
      | some y => rw [dAt_some h hx hy, dAt_some (fun e => h e.symm) hy hx, off_same (cp_take (Nat.le_refl _)), cp_comm]
/-- Both texts begin and end alike; between there is what goes, and what comes. -/
theorem diff_parts (ha : valid a = true) (hb : valid b = true) : ∃ p q, a = p ++ (dOld a b ++ q) ∧ b = p ++ (dOld b a ++ q) ∧ p.length = dAt a b ∧ place a (dAt a b : Int) = true ∧ valid (dOld a b) = true ∧ valid (dOld b a) = true := by
  obtain ⟨x, hx⟩ := valid_of ha
  obtain ⟨y, hy⟩ := valid_of hb
  by_cases h : a = b
  · subst h
    refine ⟨[], a, ?_, ?_, ?_, ?_, ?_, ?_⟩
    · rw [dOld_none (Or.inl rfl)]; rfl
    · rw [dOld_none (Or.inl rfl)]; rfl
    · rw [dAt_none (Or.inl rfl)]; rfl
    · rw [dAt_none (Or.inl rfl)]
      have := place_at hx (i := 0) (by omega)
      rwa [off_zero] at this
    · rw [dOld_none (Or.inl rfl)]; exact valid_ok dec_nil
    · rw [dOld_none (Or.inl rfl)]; exact valid_ok dec_nil
  · have h' : b ≠ a := fun e => h e.symm
    obtain ⟨rx, ex⟩ := dec_some hx
    obtain ⟨ry, ey⟩ := dec_some hy
    refine ⟨(x.take (cp x y)).flatten, (ends x y).flatten, ?_, ?_, ?_, ?_, ?_, ?_⟩
    · rw [dOld_some h hx hy, ← List.flatten_append, ← List.flatten_append, ← parts, ex]
    · rw [dOld_some h' hy hx, ← List.flatten_append, ← List.flatten_append, ← parts', ey]
    · rw [dAt_some h hx hy, off]
    · rw [dAt_some h hx hy]
      exact place_at hx (cp_le x y)
    · rw [dOld_some h hx hy]
      exact valid_ok (dec_of fun r hr => rx r (mid_mem hr))
    · rw [dOld_some h' hy hx]
      exact valid_ok (dec_of fun r hr => ry r (mid_mem hr))
end
theorem rune_first {s : List UInt8} {rs : List (List UInt8)} (h : dec s = some rs) : rune s 0 = rs.head?.getD [] := by
  cases rs with
  | nil =>
    obtain rfl : s = [] := (dec_some h).2
    rw [rune, show (0 : Int) = (([] : List UInt8).length : Int) from rfl, next_end h]
    rfl
  | cons r rs =>
    have := rune_at h (i := 0) (r := r) rfl
    rw [off_zero] at this
    exact this
theorem rune_last {s : List UInt8} {rs : List (List UInt8)} (h : dec s = some rs) : rune s (prev s (s.length : Int)) = rs.getLast?.getD [] := by
  have ht := off_top h (Nat.le_refl _)
  cases hl : rs.length with
  | zero =>
    obtain rfl := List.eq_nil_of_length_eq_zero hl
    obtain rfl : s = [] := (dec_some h).2
    rw [show (([] : List UInt8).length : Int) = 0 from rfl, prev_zero h, rune, next_no (place_out (Or.inl (by omega)))]
    rfl
  | succ i =>
    have hi : i < rs.length := by omega
    rw [← ht, hl, prev_at h hi, rune_at h (List.getElem?_eq_getElem hi), List.getLast?_eq_getElem?, show rs.length - 1 = i by omega, List.getElem?_eq_getElem hi]
    rfl
theorem getD_ne {u v : Option (List UInt8)} (hu : ∀ r, u = some r → one r = true) (hv : ∀ r, v = some r → one r = true) (h : ∀ r, u = some r → v ≠ some r) : u.getD [] ≠ v.getD [] ∨ (u.getD [] = [] ∧ v.getD [] = []) := by
  cases u with
  | none =>
    cases v with
    | none => exact Or.inr ⟨rfl, rfl⟩
    | some r => exact Or.inl fun e => one_ne (hv r rfl) e.symm
  | some q =>
    cases v with
    | none => exact Or.inl fun e => one_ne (hu q rfl) e
    | some r => exact Or.inl fun e => h q rfl (by rw [show q = r from e])
/-- The first runes of what goes and what comes are not the same, and the last ones are not. -/
theorem diff_least {a b : List UInt8} (ha : valid a = true) (hb : valid b = true) (hn : a ≠ b) :
    (rune (dOld a b) 0 ≠ rune (dOld b a) 0 ∨ (rune (dOld a b) 0 = [] ∧ rune (dOld b a) 0 = [])) ∧
    (rune (dOld a b) (prev (dOld a b) (dOld a b).length) ≠ rune (dOld b a) (prev (dOld b a) (dOld b a).length) ∨ (rune (dOld a b) (prev (dOld a b) (dOld a b).length) = [] ∧ rune (dOld b a) (prev (dOld b a) (dOld b a).length) = [])) := by
  obtain ⟨x, hx⟩ := valid_of ha
  obtain ⟨y, hy⟩ := valid_of hb
  obtain ⟨rx, ex⟩ := dec_some hx
  obtain ⟨ry, ey⟩ := dec_some hy
  have h1 := dec_of (rs := mid x y) fun r hr => rx r (mid_mem hr)
  have h2 := dec_of (rs := mid y x) fun r hr => ry r (mid_mem hr)
  rw [dOld_some hn hx hy, dOld_some (fun e => hn e.symm) hy hx, rune_first h1, rune_first h2, rune_last h1, rune_last h2]
  exact ⟨getD_ne (fun r e => rx r (mid_mem (List.mem_of_mem_head? e))) (fun r e => ry r (mid_mem (List.mem_of_mem_head? e))) (fun r e => mid_first e),
    getD_ne (fun r e => rx r (mid_mem (List.mem_of_getLast? e))) (fun r e => ry r (mid_mem (List.mem_of_getLast? e))) (fun r e => mid_last e)⟩
/-- Does a change fit a text? -/
def fits (t : List UInt8) (i : Int) (o n : List UInt8) : Bool := place t i && valid o && valid n && Lib.hasPrefix (t.drop i.toNat) o
/-- What a change makes. -/
def make (t : List UInt8) (i : Nat) (o n : List UInt8) : List UInt8 := t.take i ++ n ++ t.drop (i + o.length)
theorem fits_off {t : List UInt8} {i : Int} {o n : List UInt8} (h : fits t i o n = true) : ∃ k : Nat, i = k ∧ k + o.length ≤ t.length := by
  simp only [fits, Bool.and_eq_true] at h
  obtain ⟨rs, j, hd, hj, rfl⟩ := place_of h.1.1.1
  refine ⟨_, rfl, ?_⟩
  have h1 : o.length ≤ (t.drop ((off rs j : Int)).toNat).length := (List.isPrefixOf_iff_prefix.1 h.2).length_le
  have h2 := off_in hd j
  rw [List.length_drop] at h1
  simp at h1
  omega
theorem make_length {t : List UInt8} {i : Nat} {o n : List UInt8} (h : i + o.length ≤ t.length) : (make t i o n).length = t.length - o.length + n.length := by
  rw [make, List.length_append, List.length_append, List.length_take, List.length_drop]
  omega
theorem diff_fits {a b : List UInt8} (ha : valid a = true) (hb : valid b = true) : fits a (dAt a b : Int) (dOld a b) (dOld b a) = true ∧ make a (dAt a b) (dOld a b) (dOld b a) = b := by
  obtain ⟨p, q, h1, h2, h3, h4, h5, h6⟩ := diff_parts ha hb
  have h7 : a.drop (dAt a b) = dOld a b ++ q := by
    rw [← h3]
    conv => lhs; rw [h1]
    exact List.drop_left
  constructor
  · have h8 : Lib.hasPrefix (a.drop ((dAt a b : Int)).toNat) (dOld a b) = true := by
      rw [show ((dAt a b : Nat) : Int).toNat = dAt a b by omega, h7, ← Lib.hasPrefix_of_take]
      simp
    rw [fits, h4, h5, h6, h8]
    rfl
  · rw [make, ← List.drop_drop, h7, List.drop_left]
    conv => rhs; rw [h2]
    rw [← h3]
    conv => lhs; arg 1; arg 1; arg 2; rw [h1]
    simp
end Chg
end Go.Proofs.YtlfhfpjffdaomaaDoor
