/-
  Runes in bytes, without a program: how long a rune is, what begins one, the runes of a text, and its places.
-/
import Derived.Test.YtlfhfpjffdaomaaDoorBase
namespace Go.Proofs.YtlfhfpjffdaomaaDoor
namespace Utf

/-- How many bytes a rune has by its first one; 0: none begins with it. -/
def len (a : Nat) : Nat := if 244 < a then 0 else if 240 ≤ a then 4 else if 224 ≤ a then 3 else if 194 ≤ a then 2 else if 128 ≤ a then 0 else 1
/-- From where to where the second byte goes. -/
def low (a : Nat) : Nat := if a = 224 then 160 else if a = 240 then 144 else 128
def high (a : Nat) : Nat := if a = 237 then 159 else if a = 244 then 143 else 191
/-- Are the bytes, n of them at most, such that a rune may go on with them, the first of them from lo to hi? -/
def goes (lo hi : Nat) : Nat → List UInt8 → Bool
  | 0, _ => true
  | _ + 1, [] => true
  | n + 1, b :: t => decide (lo ≤ b.toNat) && decide (b.toNat ≤ hi) && goes 128 191 n t
/-- How many bytes the rune has that begins the bytes, or that they begin; 0: none. -/
def siz : List UInt8 → Nat
  | [] => 0
  | a :: t => if goes (low a.toNat) (high a.toNat) (len a.toNat - 1) t then len a.toNat else 0

theorem siz_cons (a : UInt8) (t : List UInt8) : siz (a :: t) = if goes (low a.toNat) (high a.toNat) (len a.toNat - 1) t then len a.toNat else 0 := rfl
theorem len_le (a : Nat) : len a ≤ 4 := by unfold len; split <;> (try split) <;> (try split) <;> (try split) <;> (try split) <;> omega
theorem siz_le (s : List UInt8) : siz s ≤ 4 := by
  cases s with
  | nil => exact Nat.zero_le _
  | cons a t => rw [siz_cons]; split; exact len_le _; exact Nat.zero_le _
theorem goes_more {lo hi n : Nat} {s : List UInt8} (t : List UInt8) (h : n ≤ s.length) : goes lo hi n (s ++ t) = goes lo hi n s := by
  induction n generalizing lo hi s with
  | zero => simp [goes]
  | succ n ih =>
    cases s with
    | nil => simp at h
    | cons b s => simp only [List.cons_append, goes]; rw [ih (by simpa using h)]
theorem goes_less {lo hi n : Nat} {s : List UInt8} (t : List UInt8) (h : goes lo hi n (s ++ t) = true) : goes lo hi n s = true := by
  induction n generalizing lo hi s with
  | zero => simp [goes]
  | succ n ih =>
    cases s with
    | nil => simp [goes]
    | cons b s =>
      simp only [List.cons_append, goes, Bool.and_eq_true] at h ⊢
      exact ⟨h.1, ih h.2⟩
theorem siz_more {s : List UInt8} (t : List UInt8) (h0 : s ≠ []) (h : siz s ≤ s.length) : siz (s ++ t) = siz s := by
  cases s with
  | nil => exact absurd rfl h0
  | cons a s =>
    simp only [List.cons_append, siz] at h ⊢
    by_cases hg : goes (low a.toNat) (high a.toNat) (len a.toNat - 1) s = true
    · rw [if_pos hg] at h ⊢
      rw [goes_more t (by simp at h; omega), if_pos hg]
    · rw [if_neg hg, if_neg (fun hk => hg (goes_less t hk))]
theorem siz_less {s t : List UInt8} (h0 : s ≠ []) (h : 0 < siz (s ++ t)) : siz s = siz (s ++ t) := by
  cases s with
  | nil => exact absurd rfl h0
  | cons a s =>
    simp only [List.cons_append, siz] at h ⊢
    by_cases hg : goes (low a.toNat) (high a.toNat) (len a.toNat - 1) (s ++ t) = true
    · rw [if_pos hg, if_pos (goes_less t hg)]
    · rw [if_neg hg] at h; exact absurd h (by omega)
/-- Are the bytes just one rune? -/
def one (s : List UInt8) : Bool := decide (0 < siz s) && decide (siz s = s.length)
theorem one_iff {s : List UInt8} : one s = true ↔ 0 < siz s ∧ siz s = s.length := by simp [one]
theorem one_pos {s : List UInt8} (h : one s = true) : 0 < s.length := by rw [one_iff] at h; omega
theorem one_le {s : List UInt8} (h : one s = true) : s.length ≤ 4 := by rw [one_iff] at h; have := siz_le s; omega
theorem one_ne {s : List UInt8} (h : one s = true) : s ≠ [] := by have := one_pos h; intro h0; subst h0; simp at this
theorem one_more {r : List UInt8} (t : List UInt8) (h : one r = true) : siz (r ++ t) = r.length := by
  rw [siz_more t (one_ne h) (by have := one_iff.1 h; omega), (one_iff.1 h).2]
theorem one_take {s : List UInt8} (h0 : 0 < siz s) (h : siz s ≤ s.length) : one (s.take (siz s)) = true := by
  have hl : (s.take (siz s)).length = siz s := by rw [List.length_take]; omega
  have hne : s.take (siz s) ≠ [] := by intro h1; rw [h1] at hl; simp at hl; omega
  have hs : s.take (siz s) ++ s.drop (siz s) = s := List.take_append_drop _ _
  have := siz_less (s := s.take (siz s)) (t := s.drop (siz s)) hne (by rw [hs]; exact h0)
  rw [hs] at this
  rw [one_iff]; omega
theorem one_of_take {s : List UInt8} {n : Nat} (hn : n ≤ s.length) : one (s.take n) = true ↔ 0 < n ∧ n = siz s := by
  have hl : (s.take n).length = n := by rw [List.length_take]; omega
  constructor
  · intro h
    have h1 := one_more (s.drop n) h
    rw [List.take_append_drop, hl] at h1
    have := one_pos h
    omega
  · rintro ⟨h0, rfl⟩
    exact one_take h0 hn

/-- The runes of a text; none, if it is not valid. -/
def dec (s : List UInt8) : Option (List (List UInt8)) :=
  if s = [] then some [] else if 0 < siz s ∧ siz s ≤ s.length then (dec (s.drop (siz s))).map (s.take (siz s) :: ·) else none
  termination_by s.length
  decreasing_by simp only [List.length_drop]; omega
theorem dec_nil : dec [] = some [] := by rw [dec]; simp
theorem dec_one {r : List UInt8} (t : List UInt8) (h : one r = true) : dec (r ++ t) = (dec t).map (r :: ·) := by
  have h1 := one_more t h
  have h0 := one_pos h
  rw [dec, if_neg (by simp [one_ne h]), h1, if_pos ⟨h0, by simp⟩]
  simp
theorem dec_bad {s : List UInt8} (h0 : s ≠ []) (h : siz s = 0 ∨ s.length < siz s) : dec s = none := by
  rw [dec, if_neg h0, if_neg (by omega)]
theorem dec_all {rs : List (List UInt8)} (t : List UInt8) (h : ∀ r ∈ rs, one r = true) : dec (rs.flatten ++ t) = (dec t).map (rs ++ ·) := by
  induction rs with
  | nil => simp
  | cons r rs ih =>
    rw [List.flatten_cons, List.append_assoc, dec_one _ (h r (by simp)), ih (fun x hx => h x (by simp [hx]))]
    cases dec t <;> simp
theorem dec_of {rs : List (List UInt8)} (h : ∀ r ∈ rs, one r = true) : dec rs.flatten = some rs := by
  have := dec_all [] h
  rw [dec_nil] at this
  simpa using this
theorem dec_some {s : List UInt8} {rs : List (List UInt8)} (h : dec s = some rs) : (∀ r ∈ rs, one r = true) ∧ s = rs.flatten := by
  induction hn : s.length using Nat.strongRecOn generalizing s rs with
  | ind n ih =>
    by_cases h0 : s = []
    · subst h0
      rw [dec_nil] at h
      cases h
      simp
    · by_cases h1 : 0 < siz s ∧ siz s ≤ s.length
      · rw [dec, if_neg h0, if_pos h1] at h
        cases hd : dec (s.drop (siz s)) with
        | none => rw [hd] at h; cases h
        | some qs =>
          rw [hd] at h
          cases h
          have := ih (s.drop (siz s)).length (by rw [List.length_drop]; omega) hd rfl
          refine ⟨fun r hr => ?_, ?_⟩
          · rcases List.mem_cons.1 hr with rfl | hr
            · exact one_take h1.1 h1.2
            · exact this.1 r hr
          · rw [List.flatten_cons, ← this.2, List.take_append_drop]
      · rw [dec_bad h0 (by omega)] at h; cases h

/-- Where the rune i begins. -/
def off (rs : List (List UInt8)) (i : Nat) : Nat := (rs.take i).flatten.length
theorem off_zero (rs : List (List UInt8)) : off rs 0 = 0 := by simp [off]
theorem off_cons (r : List UInt8) (rs : List (List UInt8)) (i : Nat) : off (r :: rs) (i + 1) = r.length + off rs i := by simp [off]
theorem off_all {rs : List (List UInt8)} {i : Nat} (h : rs.length ≤ i) : off rs i = rs.flatten.length := by rw [off, List.take_of_length_le h]
theorem off_next {rs : List (List UInt8)} {i : Nat} {r : List UInt8} (h : rs[i]? = some r) : off rs (i + 1) = off rs i + r.length := by
  rw [off, List.take_add_one, h]; simp [off]
theorem off_le (rs : List (List UInt8)) (i : Nat) : off rs i ≤ rs.flatten.length := by
  induction rs generalizing i with
  | nil => simp [off]
  | cons r rs ih =>
    cases i with
    | zero => simp [off]
    | succ i => rw [off_cons, List.flatten_cons, List.length_append]; have := ih i; omega
theorem off_mono {rs : List (List UInt8)} {i j : Nat} (h : i ≤ j) : off rs i ≤ off rs j := by
  induction rs generalizing i j with
  | nil => simp [off]
  | cons r rs ih =>
    cases i with
    | zero => simp [off]
    | succ i =>
      cases j with
      | zero => omega
      | succ j => rw [off_cons, off_cons]; have := ih (i := i) (j := j) (by omega); omega
theorem off_lt {rs : List (List UInt8)} (hr : ∀ r ∈ rs, one r = true) {i j : Nat} (h : i < j) (hj : j ≤ rs.length) : off rs i < off rs j := by
  have hi : i < rs.length := by omega
  have h1 := off_next (List.getElem?_eq_getElem hi)
  have h2 := one_pos (hr rs[i] (List.getElem_mem hi))
  have h3 := off_mono (rs := rs) (i := i + 1) (j := j) (by omega)
  omega
theorem off_inj {rs : List (List UInt8)} (hr : ∀ r ∈ rs, one r = true) {i j : Nat} (hi : i ≤ rs.length) (hj : j ≤ rs.length) (h : off rs i = off rs j) : i = j := by
  rcases Nat.lt_trichotomy i j with h1 | h1 | h1
  · have := off_lt hr h1 hj; omega
  · exact h1
  · have := off_lt hr h1 hi; omega
theorem off_take (rs : List (List UInt8)) (i : Nat) : rs.flatten.take (off rs i) = (rs.take i).flatten := by
  conv => lhs; rw [← List.take_append_drop i rs, List.flatten_append]
  rw [List.take_append_of_le_length (by simp [off]), List.take_of_length_le (by simp [off])]
theorem off_drop (rs : List (List UInt8)) (i : Nat) : rs.flatten.drop (off rs i) = (rs.drop i).flatten := by
  conv => lhs; rw [← List.take_append_drop i rs, List.flatten_append]
  rw [List.drop_append]
  simp [off]
theorem off_piece {rs : List (List UInt8)} {i : Nat} {r : List UInt8} (h : rs[i]? = some r) : (rs.flatten.take (off rs (i + 1))).drop (off rs i) = r := by
  rw [List.drop_take, off_drop, off_next h]
  have hi : i < rs.length := (List.getElem?_eq_some_iff.1 h).1
  have h1 : rs[i] = r := (List.getElem?_eq_some_iff.1 h).2
  rw [List.drop_eq_getElem_cons hi, h1, List.flatten_cons]
  rw [show off rs i + r.length - off rs i = r.length by omega]
  simp

/-- The places of runes one behind the other, from at on. -/
def pl : Nat → List (List UInt8) → List Int
  | at_, [] => [(at_ : Int)]
  | at_, r :: rs => (at_ : Int) :: pl (at_ + r.length) rs
theorem pl_length (a : Nat) (rs : List (List UInt8)) : (pl a rs).length = rs.length + 1 := by
  induction rs generalizing a with
  | nil => rfl
  | cons r rs ih => simp [pl, ih]
theorem pl_get {rs : List (List UInt8)} {i : Nat} (a : Nat) (h : i ≤ rs.length) : (pl a rs)[i]? = some ((a + off rs i : Nat) : Int) := by
  induction rs generalizing a i with
  | nil => obtain rfl : i = 0 := by simpa using h
           simp [pl, off]
  | cons r rs ih =>
    cases i with
    | zero => simp [pl, off]
    | succ i =>
      rw [pl, List.getElem?_cons_succ, ih (a + r.length) (by simpa using h), off_cons]
      congr 2; omega
theorem pl_snoc (a : Nat) (rs : List (List UInt8)) (r : List UInt8) : pl a (rs ++ [r]) = pl a rs ++ [((a + rs.flatten.length + r.length : Nat) : Int)] := by
  induction rs generalizing a with
  | nil => simp [pl]
  | cons q rs ih =>
    simp only [List.cons_append, pl, ih, List.flatten_cons, List.length_append]
    congr 4; omega
/-- The places of a text. -/
def places (s : List UInt8) : List Int := match dec s with | none => [] | some rs => pl 0 rs
theorem places_none {s : List UInt8} (h : dec s = none) : places s = [] := by simp [places, h]
theorem places_some {s : List UInt8} {rs : List (List UInt8)} (h : dec s = some rs) : places s = pl 0 rs := by simp [places, h]
theorem places_get {s : List UInt8} {rs : List (List UInt8)} (h : dec s = some rs) {i : Nat} (hi : i ≤ rs.length) : (places s)[i]? = some (off rs i : Int) := by
  rw [places_some h, pl_get 0 hi]; simp
theorem places_length {s : List UInt8} {rs : List (List UInt8)} (h : dec s = some rs) : (places s).length = rs.length + 1 := by rw [places_some h, pl_length]
theorem places_past {s : List UInt8} {rs : List (List UInt8)} (h : dec s = some rs) {i : Nat} (hi : rs.length < i) : (places s)[i]? = none := by
  rw [List.getElem?_eq_none]; rw [places_length h]; omega
theorem places_empty {s : List UInt8} : 0 < (places s).length ↔ (dec s).isSome = true := by
  cases h : dec s with
  | none => simp [places, h]
  | some rs => simp [places, h, pl_length]

/-- Which of a list one is. -/
def idx (l : List Int) (x : Int) : Option Nat := l.findIdx? (· == x)
theorem idx_some {l : List Int} {x : Int} {i : Nat} (h : l[i]? = some x) (hn : ∀ j, j < i → l[j]? ≠ some x) : idx l x = some i := by
  have hi : i < l.length := (List.getElem?_eq_some_iff.1 h).1
  rw [idx, List.findIdx?_eq_some_iff_getElem]
  refine ⟨hi, by have := (List.getElem?_eq_some_iff.1 h).2; simpa using this, fun j hj => ?_⟩
  have h1 := hn j hj
  rw [List.getElem?_eq_getElem (by omega)] at h1
  simpa using h1
theorem idx_none {l : List Int} {x : Int} (hn : ∀ j : Nat, l[j]? ≠ some x) : idx l x = none := by
  rw [idx, List.findIdx?_eq_none_iff]
  intro y hy
  obtain ⟨j, hj, rfl⟩ := List.mem_iff_getElem.1 hy
  have h1 := hn j
  rw [List.getElem?_eq_getElem hj] at h1
  simpa using h1
theorem idx_place {s : List UInt8} {rs : List (List UInt8)} (h : dec s = some rs) {i : Nat} (hi : i ≤ rs.length) : idx (places s) (off rs i : Int) = some i := by
  refine idx_some (places_get h hi) fun j hj h1 => ?_
  rw [places_get h (by omega)] at h1
  injection h1 with h1
  have := off_lt (dec_some h).1 hj hi
  omega
theorem idx_no {s : List UInt8} {rs : List (List UInt8)} (h : dec s = some rs) {x : Int} (hx : ∀ i, i ≤ rs.length → (off rs i : Int) ≠ x) : idx (places s) x = none := by
  refine idx_none fun j h1 => ?_
  have hj : j < (places s).length := (List.getElem?_eq_some_iff.1 h1).1
  rw [places_length h] at hj
  rw [places_get h (by omega)] at h1
  injection h1 with h1
  exact hx j (by omega) h1
theorem idx_bad {s : List UInt8} (h : dec s = none) (x : Int) : idx (places s) x = none := by
  rw [places_none h]; rfl

/-- The document's answers. -/
def valid (s : List UInt8) : Bool := (dec s).isSome
def place (s : List UInt8) (x : Int) : Bool := (idx (places s) x).isSome
def next (s : List UInt8) (x : Int) : Int := match idx (places s) x with | none => -1 | some i => (places s)[i + 1]?.getD (-1)
def prev (s : List UInt8) (x : Int) : Int := match idx (places s) x with | none => -1 | some 0 => -1 | some (i + 1) => (places s)[i]?.getD (-1)
def rune (s : List UInt8) (x : Int) : List UInt8 := if next s x < 0 then [] else (s.take (next s x).toNat).drop x.toNat
def count (s : List UInt8) : Int := ((places s).length - 1 : Nat)
def offset (s : List UInt8) (k : Int) : Int := if k < 0 then -1 else (places s)[k.toNat]?.getD (-1)
def cut (s : List UInt8) (n : Int) : List UInt8 := s.take (((places s).takeWhile (fun p => decide (p ≤ n))).getLast?.getD 0).toNat

section
variable {s : List UInt8} (h : dec s = none)
include h
theorem valid_bad : valid s = false := by simp [valid, h]
theorem place_bad (x : Int) : place s x = false := by simp [place, idx_bad h]
theorem next_bad (x : Int) : next s x = -1 := by simp [next, idx_bad h]
theorem prev_bad (x : Int) : prev s x = -1 := by simp [prev, idx_bad h]
theorem rune_bad (x : Int) : rune s x = [] := by simp [rune, next_bad h]
theorem count_bad : count s = 0 := by simp [count, places_none h]
theorem offset_bad (k : Int) : offset s k = -1 := by simp [offset, places_none h]
theorem cut_bad (n : Int) : cut s n = [] := by simp [cut, places_none h]
end
section
variable {s : List UInt8} {rs : List (List UInt8)} (h : dec s = some rs)
include h
theorem valid_ok : valid s = true := by simp [valid, h]
theorem off_top {i : Nat} (hi : rs.length ≤ i) : off rs i = s.length := by rw [off_all hi, (dec_some h).2]
theorem off_in (i : Nat) : off rs i ≤ s.length := by have := off_le rs i; rw [(dec_some h).2]; exact this
theorem place_at {i : Nat} (hi : i ≤ rs.length) : place s (off rs i : Int) = true := by rw [place, idx_place h hi]; rfl
theorem place_no {x : Int} (hx : ∀ i, i ≤ rs.length → (off rs i : Int) ≠ x) : place s x = false := by rw [place, idx_no h hx]; rfl
theorem place_iff {x : Int} : place s x = true ↔ ∃ i, i ≤ rs.length ∧ (off rs i : Int) = x := by
  constructor
  · intro hp
    refine Classical.byContradiction fun hn => ?_
    rw [place_no h (fun i hi he => hn ⟨i, hi, he⟩)] at hp
    cases hp
  · rintro ⟨i, hi, rfl⟩
    exact place_at h hi
theorem next_at {i : Nat} (hi : i < rs.length) : next s (off rs i : Int) = (off rs (i + 1) : Int) := by
  rw [next, idx_place h (by omega)]
  simp only []
  rw [places_get h (by omega)]; rfl
theorem next_end : next s (s.length : Int) = -1 := by
  rw [← off_top h (Nat.le_refl _), next, idx_place h (by omega)]
  simp only []
  rw [places_past h (by omega)]; rfl
omit h in
theorem next_no {x : Int} (hx : place s x = false) : next s x = -1 := by
  rw [next]
  rw [place] at hx
  cases hi : idx (places s) x with
  | none => rfl
  | some i => rw [hi] at hx; cases hx
theorem prev_at {i : Nat} (hi : i < rs.length) : prev s (off rs (i + 1) : Int) = (off rs i : Int) := by
  rw [prev, idx_place h (by omega)]
  simp only []
  rw [places_get h (by omega)]; rfl
theorem prev_zero : prev s 0 = -1 := by
  have := idx_place h (i := 0) (by omega)
  rw [off_zero] at this
  rw [prev, show (0 : Int) = ((0 : Nat) : Int) from rfl, this]
omit h in
theorem prev_no {x : Int} (hx : place s x = false) : prev s x = -1 := by
  rw [prev]
  rw [place] at hx
  cases hi : idx (places s) x with
  | none => rfl
  | some i => rw [hi] at hx; cases hx
theorem rune_at {i : Nat} {r : List UInt8} (hi : rs[i]? = some r) : rune s (off rs i : Int) = r := by
  have hl : i < rs.length := (List.getElem?_eq_some_iff.1 hi).1
  rw [rune, next_at h hl, if_neg (by omega)]
  have := off_piece hi
  rw [← (dec_some h).2] at this
  simpa using this
theorem count_ok : count s = (rs.length : Int) := by rw [count, places_length h]; simp
theorem offset_at {i : Nat} (hi : i ≤ rs.length) : offset s (i : Int) = (off rs i : Int) := by
  rw [offset, if_neg (by omega), show ((i : Int)).toNat = i by omega, places_get h hi]; rfl
theorem offset_past {k : Int} (hk : k < 0 ∨ (rs.length : Int) < k) : offset s k = -1 := by
  rw [offset]
  split
  · rfl
  · rw [places_past h (by omega)]; rfl
end
theorem takeWhile_of {p : Int → Bool} {l : List Int} {i : Nat} (h1 : ∀ j x, j < i → l[j]? = some x → p x = true) (h2 : ∀ x, l[i]? = some x → p x = false) : l.takeWhile p = l.take i := by
  induction l generalizing i with
  | nil => simp
  | cons y l ih =>
    cases i with
    | zero =>
      have := h2 y rfl
      simp [List.takeWhile, this]
    | succ i =>
      have h0 := h1 0 y (by omega) rfl
      rw [List.takeWhile_cons, h0, if_pos rfl, List.take_succ_cons, ih (fun j x hj hx => h1 (j + 1) x (Nat.succ_lt_succ hj) (by simpa using hx)) (fun x hx => h2 x (by simpa using hx))]
theorem cut_of {s : List UInt8} {n : Int} {i : Nat} (h1 : ∀ j x, j < i → (places s)[j]? = some x → x ≤ n) (h2 : ∀ x, (places s)[i]? = some x → n < x) :
    cut s n = s.take (((places s).take i).getLast?.getD 0).toNat := by
  rw [cut, takeWhile_of (i := i) (fun j x hj hx => by simpa using h1 j x hj hx) (fun x hx => by have := h2 x hx; simp; omega)]
theorem last_take {l : List Int} {i : Nat} (h : i < l.length) : (l.take (i + 1)).getLast? = l[i]? := by
  rw [List.getLast?_eq_getElem?, List.length_take, List.getElem?_take]
  rw [if_pos (by omega)]
  congr 1; omega
theorem cut_at {s : List UInt8} {rs : List (List UInt8)} (h : dec s = some rs) {n : Int} {i : Nat} (hi : i ≤ rs.length) (h1 : (off rs i : Int) ≤ n) (h2 : i < rs.length → n < (off rs (i + 1) : Int)) :
    cut s n = s.take (off rs i) := by
  rw [cut_of (i := i + 1) (fun j x hj hx => by
      rw [places_get h (Nat.le_trans (Nat.le_of_lt_succ hj) hi)] at hx
      injection hx with hx
      have := off_mono (rs := rs) (i := j) (j := i) (Nat.le_of_lt_succ hj)
      omega) (fun x hx => by
      have hl : i + 1 < (places s).length := (List.getElem?_eq_some_iff.1 hx).1
      rw [places_length h] at hl
      rw [places_get h (by omega)] at hx
      injection hx with hx
      have := h2 (by omega)
      omega)]
  rw [last_take (by rw [places_length h]; omega), places_get h hi]
  simp
theorem cut_low {s : List UInt8} {n : Int} (hn : n < 0) : cut s n = [] := by
  cases h : dec s with
  | none => exact cut_bad h n
  | some rs =>
    rw [cut_of (i := 0) (fun j x hj _ => absurd hj (Nat.not_lt_zero j)) (fun x hx => by
      rw [places_get h (by omega)] at hx
      injection hx with hx
      omega)]
    simp

/-- Does no rune go on with a byte? -/
def heads (b : Nat) : Bool := decide (b < 128) || decide (191 < b)
theorem low_le (a : Nat) : 128 ≤ low a := by unfold low; split <;> (try split) <;> omega
theorem high_le (a : Nat) : high a ≤ 191 := by unfold high; split <;> (try split) <;> omega
theorem goes_tail {lo hi n : Nat} {t : List UInt8} (hl : 128 ≤ lo) (hh : hi ≤ 191) (ht : t.length ≤ n) (h : goes lo hi n t = true) : ∀ b ∈ t, heads b.toNat = false := by
  induction t generalizing lo hi n with
  | nil => simp
  | cons b t ih =>
    cases n with
    | zero => simp at ht
    | succ n =>
      simp only [goes, Bool.and_eq_true, decide_eq_true_eq] at h
      intro c hc
      rcases List.mem_cons.1 hc with rfl | hc
      · simp [heads]; omega
      · exact ih (Nat.le_refl _) (Nat.le_refl _) (by simpa using ht) h.2 c hc
theorem heads_of {a : Nat} (h : 0 < len a) : heads a = true := by
  simp only [heads, Bool.or_eq_true, decide_eq_true_eq]
  unfold len at h
  split at h <;> (try split at h) <;> (try split at h) <;> (try split at h) <;> (try split at h) <;> omega
theorem one_shape {r : List UInt8} (h : one r = true) : ∃ a t, r = a :: t ∧ heads a.toNat = true ∧ len a.toNat = r.length ∧ ∀ b ∈ t, heads b.toNat = false := by
  cases r with
  | nil => exact absurd rfl (one_ne h)
  | cons a t =>
    obtain ⟨h0, h1⟩ := one_iff.1 h
    rw [siz_cons] at h0 h1
    split at h1
    · next hg =>
      rw [if_pos hg] at h0
      refine ⟨a, t, rfl, ?_, h1, goes_tail (low_le _) (high_le _) (by simp at h1; omega) hg⟩
      exact heads_of h0
    · next hg => rw [if_neg hg] at h0; omega
/-- No rune goes on at x. -/
def apart (s : List UInt8) (x : Nat) : Bool := match s[x]? with | none => true | some b => heads b.toNat
theorem apart_flat {rs : List (List UInt8)} (h : ∀ r ∈ rs, one r = true) {x : Nat} (hx : x ≤ rs.flatten.length) : apart rs.flatten x = true ↔ ∃ i, i ≤ rs.length ∧ off rs i = x := by
  induction rs generalizing x with
  | nil =>
    obtain rfl : x = 0 := by simpa using hx
    simp [apart, off]
  | cons r rs ih =>
    obtain ⟨a, t, hr, ha, _, ht⟩ := one_shape (h r (by simp))
    rcases Nat.lt_or_ge x r.length with h1 | h1
    · have hg : (r :: rs).flatten[x]? = r[x]? := by rw [List.flatten_cons, List.getElem?_append_left h1]
      cases x with
      | zero =>
        rw [apart, hg]
        subst hr
        simp only [List.getElem?_cons_zero, ha, true_iff]
        exact ⟨0, by omega, off_zero _⟩
      | succ x =>
        have hne : ¬ ∃ i, i ≤ (r :: rs).length ∧ off (r :: rs) i = x + 1 := by
          rintro ⟨i, hi, he⟩
          cases i with
          | zero => rw [off_zero] at he; omega
          | succ i => rw [off_cons] at he; omega
        have h2 : heads (r[x + 1]).toNat = false := by
          subst hr
          exact ht _ (by simp)
        rw [apart, hg, List.getElem?_eq_getElem h1]
        simp only [h2]
        simp only [Bool.false_eq_true, false_iff]
        exact hne
    · have hg : (r :: rs).flatten[x]? = rs.flatten[x - r.length]? := by rw [List.flatten_cons, List.getElem?_append_right h1]
      have := ih (fun q hq => h q (by simp [hq])) (x := x - r.length) (by rw [List.flatten_cons, List.length_append] at hx; omega)
      have he : apart (r :: rs).flatten x = apart rs.flatten (x - r.length) := by simp only [apart, hg]
      rw [he, this]
      constructor
      · rintro ⟨i, hi, he⟩
        exact ⟨i + 1, by simp; omega, by rw [off_cons]; omega⟩
      · rintro ⟨i, hi, he⟩
        cases i with
        | zero =>
          rw [off_zero] at he
          have := one_pos (h r (by simp))
          omega
        | succ i => rw [off_cons] at he; exact ⟨i, by simpa using hi, by omega⟩
theorem apart_iff {s : List UInt8} {rs : List (List UInt8)} (h : dec s = some rs) {x : Nat} (hx : x ≤ s.length) : apart s x = true ↔ ∃ i, i ≤ rs.length ∧ off rs i = x := by
  obtain ⟨h1, rfl⟩ := dec_some h
  exact apart_flat h1 hx
theorem apart_place {s : List UInt8} {rs : List (List UInt8)} (h : dec s = some rs) {x : Nat} (hx : x ≤ s.length) : apart s x = place s (x : Int) := by
  apply Bool.eq_iff_iff.2
  rw [apart_iff h hx, place_iff h]
  constructor
  · rintro ⟨i, hi, rfl⟩; exact ⟨i, hi, rfl⟩
  · rintro ⟨i, hi, he⟩; exact ⟨i, hi, by omega⟩
/-- The first byte of a rune of a text, and how long it says that the rune is. -/
theorem first_at {s : List UInt8} {rs : List (List UInt8)} (h : dec s = some rs) {i : Nat} (hi : i < rs.length) :
    ∃ a : UInt8, s[off rs i]? = some a ∧ off rs (i + 1) = off rs i + len a.toNat := by
  obtain ⟨h1, h2⟩ := dec_some h
  have hr := List.getElem?_eq_getElem hi
  obtain ⟨a, t, he, _, hl, _⟩ := one_shape (h1 _ (List.getElem_mem hi))
  refine ⟨a, ?_, by rw [off_next hr, hl]⟩
  have h3 := off_drop rs i
  rw [List.drop_eq_getElem_cons hi, List.flatten_cons, he, ← h2] at h3
  have h4 : (s.drop (off rs i))[0]? = some a := by rw [h3]; rfl
  simpa using h4
end Utf
end Go.Proofs.YtlfhfpjffdaomaaDoor
