/-
  Words and their ends by turns, without a program.
-/
import Derived.Test.YtjkcdmlbnfibgaaHopKeys
namespace Go.Proofs.Ytjkcdmlbnfibgaa
namespace Hop
/-- How many of the first i words have an end. -/
def cnt (s : List UInt8) (big : Bool) (i : Nat) : Nat := ((((words s big).take i).map fun x : Nat × Int => x.2).filter fun b => decide (0 ≤ b)).length
theorem cnt_zero (s : List UInt8) (big : Bool) : cnt s big 0 = 0 := rfl
theorem cnt_all (s : List UInt8) (big : Bool) : cnt s big (words s big).length = (ends s big).length := by rw [cnt, List.take_length, ends]
theorem cnt_yes {s : List UInt8} {big : Bool} {i : Nat} {x : Nat × Int} (h : (words s big)[i]? = some x) (h0 : 0 ≤ x.2) : cnt s big (i + 1) = cnt s big i + 1 := by
  rw [cnt, List.take_add_one, h, Option.toList, List.map_append, List.filter_append, List.map_singleton, List.filter_cons_of_pos (by simpa using h0), List.filter_nil, List.length_append]; rfl
theorem cnt_no {s : List UInt8} {big : Bool} {i : Nat} {x : Nat × Int} (h : (words s big)[i]? = some x) (h0 : ¬ 0 ≤ x.2) : cnt s big (i + 1) = cnt s big i := by
  rw [cnt, List.take_add_one, h, Option.toList, List.map_append, List.filter_append, List.map_singleton, List.filter_cons_of_neg (by simpa using h0), List.filter_nil, List.append_nil]; rfl
theorem cnt_at {s : List UInt8} {big : Bool} {i : Nat} {x : Nat × Int} (h : (words s big)[i]? = some x) (h0 : 0 ≤ x.2) : (ends s big)[cnt s big i]? = some x.2 := by
  obtain ⟨hi, he⟩ := List.getElem?_eq_some_iff.1 h
  have e : words s big = (words s big).take i ++ x :: (words s big).drop (i + 1) := by
    rw [← he, ← List.drop_eq_getElem_cons hi, List.take_append_drop]
  rw [ends]
  rw [congrArg (fun l => (l.map (·.2)).filter fun b => decide (0 ≤ b)) e]
  simp only [List.map_append, List.map_cons, List.filter_append]
  rw [List.filter_cons_of_pos (by simpa using h0), List.getElem?_append_right (by rw [cnt]; exact Nat.le_refl _), cnt, Nat.sub_self]; rfl
theorem cnt_le (s : List UInt8) (big : Bool) (i : Nat) : cnt s big i ≤ i := by
  refine Nat.le_trans (List.length_filter_le ..) ?_
  rw [List.length_map, List.length_take]; omega
theorem al_next {G : Nat → Int → Prop} : ∀ (l : List (Nat × Int)) (m : Nat), Al G m l → ∀ (i : Nat) (x y : Nat × Int), l[i]? = some x → l[i + 1]? = some y → (x.1 : Int) < y.1 ∧ x.2 < y.1
  | [], _, _, i, x, y, h, _ => by simp at h
  | z :: l, m, ⟨_, _, _, h4⟩, i, x, y, hx, hy => by
    cases i with
    | zero =>
      obtain rfl : z = x := by simpa using hx
      cases l with
      | nil => simp at hy
      | cons u l =>
        obtain rfl : u = y := by simpa using hy
        have := h4.1
        omega
    | succ i => exact al_next l _ h4 i x y (by simpa using hx) (by simpa using hy)
theorem starts_at {s : List UInt8} {big : Bool} {i : Nat} {x : Nat × Int} (h : (words s big)[i]? = some x) : (starts s big)[i]? = some (x.1 : Int) := by rw [starts, List.getElem?_map, h]; rfl
theorem starts_split {s : List UInt8} {big : Bool} {i : Nat} {x y : Nat × Int} (hx : (words s big)[i]? = some x) (hy : (words s big)[i + 1]? = some y) : starts s big = (starts s big).take i ++ (x.1 : Int) :: (y.1 : Int) :: (starts s big).drop (i + 1 + 1) := by
  have h1 := starts_at hx
  have h2 := starts_at hy
  obtain ⟨h3, h4⟩ := List.getElem?_eq_some_iff.1 h1
  obtain ⟨h5, h6⟩ := List.getElem?_eq_some_iff.1 h2
  rw [← h4, ← h6, ← List.drop_eq_getElem_cons h5, ← List.drop_eq_getElem_cons h3, List.take_append_drop]
theorem nxt_more (l m : List Int) {p : Int} (h : 0 ≤ nxt l p) : nxt (l ++ m) p = nxt l p := by
  unfold nxt at *
  rw [List.filter_append]
  cases e : l.filter fun x => decide (p < x) with
  | nil => rw [e] at h; simp at h
  | cons z r => rfl
theorem go_on {s : List UInt8} {big : Bool} {i : Nat} {x y : Nat × Int} (hx : (words s big)[i]? = some x) (hy : (words s big)[i + 1]? = some y) : once s 0 big (x.1 : Int) = (y.1 : Int) := by
  have hs := starts_split hx hy
  have hu := (starts_up s big).1
  rw [hs] at hu
  have h1 := nxt_at hu
  rw [← hs] at h1
  rw [once, if_pos rfl, nxt_more _ _ (by omega), h1]
theorem go_back {s : List UInt8} {big : Bool} {i : Nat} {x y : Nat × Int} (hx : (words s big)[i]? = some x) (hy : (words s big)[i + 1]? = some y) : once s 1 big (y.1 : Int) = (x.1 : Int) := by
  have hs := starts_split hx hy
  have hu := (starts_up s big).1
  rw [hs] at hu
  have h1 := bck_at hu
  rw [← hs] at h1
  rw [once, if_neg (by decide), if_pos rfl, h1]
theorem step_on {s : List UInt8} {k : List UInt8} {m : Nat} {big : Bool} {p q : Int} (hm : mot k = some (m, big)) (hp : Utf.place s p = true) (h : once s m big p = q) : goV s p k 1 = q := by
  rw [goV_at hm hp, show often 1 = 1 from rfl, times_one _ (once_ge _ _ _), h]
/-- What is known of word i. -/
theorem word_at {s : List UInt8} {rs : List (List UInt8)} (h : Utf.dec s = some rs) {big : Bool} {i : Nat} {x : Nat × Int} (hx : (words s big)[i]? = some x) :
    x.1 ≤ s.length ∧ Utf.place s (x.1 : Int) = true ∧ (x.2 = -1 ∨ (x.1 : Int) ≤ x.2) ∧ (x.2 = -1 → (x.1 = 0 ∨ s[x.1 - 1]? = some 10) ∧ (x.1 = s.length ∨ s[x.1]? = some 10)) ∧ (x.2 ≠ -1 → x.1 < s.length ∧ s[x.1]? ≠ some 10) ∧ x.2 ≤ s.length := by
  obtain ⟨⟨⟨j, hj, e⟩, h2, h3⟩, h4⟩ := al_all _ _ (words_al h big) x (List.mem_of_getElem? hx)
  have h5 := Utf.off_in h j
  refine ⟨by omega, by rw [e]; exact Utf.place_at h hj, h4, h2, fun hb => (h3 hb).1, ?_⟩
  by_cases hb : x.2 = -1
  · omega
  · obtain ⟨_, q, hq, e2⟩ := h3 hb
    have := Utf.off_in h q
    omega
end Hop
end Go.Proofs.Ytjkcdmlbnfibgaa
