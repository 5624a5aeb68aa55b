/-
  Finds, without a program: which may be, the places of a rune in a line, and where a find leads from a place of a text.
-/
import Derived.Test.YtchpkeelnfmlbaaGreatMove
import Derived.Test.YtchpkeelnfmlbaaGreatRuneAt
import Derived.Lib.IndexMore
import Derived.Lib.LastIndexLaws
namespace Go.Proofs.YtchpkeelnfmlbaaGreat
namespace Seek
open Utf (dec off one place rune next prev)
open Line (L of_ seg)

/-- What is a rune of a text, and where. -/
theorem rune_iff {s r : List UInt8} {rs : List (List UInt8)} (hd : dec s = some rs) (hr : r ≠ []) (x : Int) : rune s x = r ↔ ∃ i : Nat, rs[i]? = some r ∧ (off rs i : Int) = x := by
  constructor
  · intro h
    have hn : ¬ next s x < 0 := fun h1 => hr (by rw [← h, rune, if_pos h1])
    have hp : place s x = true := by
      cases hp : place s x with
      | true => rfl
      | false => rw [Utf.next_no hp] at hn; omega
    obtain ⟨i, hi, rfl⟩ := (Utf.place_iff hd).1 hp
    have hil : i < rs.length := by
      rcases Nat.lt_or_ge i rs.length with h1 | h1
      · exact h1
      · rw [Utf.off_top hd h1, Utf.next_end hd] at hn; omega
    have he := List.getElem?_eq_getElem hil
    rw [Utf.rune_at hd he] at h
    exact ⟨i, by rw [he, h], rfl⟩
  · rintro ⟨i, hi, rfl⟩
    exact Utf.rune_at hd hi
/-- The places from a to b at which a rune begins. -/
def hits (s r : List UInt8) (a b : Nat) : List Int := ((List.range' a (b - a)).filter (fun x : Nat => decide (rune s (x : Int) = r))).map (fun x : Nat => (x : Int))
theorem mem_hits {s r : List UInt8} {a b : Nat} {x : Int} : x ∈ hits s r a b ↔ ∃ n : Nat, x = n ∧ a ≤ n ∧ n < b ∧ rune s (n : Int) = r := by
  simp only [hits, List.mem_map, List.mem_filter, List.mem_range'_1, decide_eq_true_eq]
  constructor
  · rintro ⟨n, ⟨⟨h1, h2⟩, h3⟩, rfl⟩
    exact ⟨n, rfl, h1, by omega, h3⟩
  · rintro ⟨n, rfl, h1, h2, h3⟩
    exact ⟨n, ⟨⟨h1, by omega⟩, h3⟩, rfl⟩
theorem hits_up (s r : List UInt8) (a b : Nat) : (hits s r a b).Pairwise (· < ·) := by
  rw [hits, List.pairwise_map]
  exact ((List.pairwise_lt_range' (s := a) (n := b - a) (step := 1) (by omega)).filter _).imp (by intro x y h; omega)
theorem hits_none (s r : List UInt8) (a : Nat) : hits s r a a = [] := by simp [hits]
theorem hits_more {s r : List UInt8} {a q b : Nat} (h1 : a ≤ q) (h2 : q < b) (h : ∀ x : Nat, q < x → x < b → rune s (x : Int) ≠ r) :
    hits s r a b = hits s r a q ++ (if rune s (q : Int) = r then [(q : Int)] else []) := by
  have e : List.range' a (b - a) = List.range' a (q - a) ++ q :: List.range' (q + 1) (b - q - 1) := by
    have := List.range'_append (s := a) (m := q - a) (n := b - q) (step := 1)
    rw [show q - a + (b - q) = b - a by omega, show a + 1 * (q - a) = q by omega, show b - q = (b - q - 1) + 1 by omega, List.range'_succ] at this
    exact this.symm
  rw [hits, hits, e, List.filter_append, List.map_append, List.filter_cons]
  have hn : (List.range' (q + 1) (b - q - 1)).filter (fun x : Nat => decide (rune s (x : Int) = r)) = [] := by
    rw [List.filter_eq_nil_iff]
    intro x hx
    rw [List.mem_range'_1] at hx
    simpa using h x (by omega) (by omega)
  rw [hn]
  by_cases hq : rune s (q : Int) = r
  · simp [hq]
  · simp [hq]

/-- The places of a rising list behind p, or ahead of it, the nearest first. -/
def side (on : Bool) (l : List Int) (p : Int) : List Int := if on then l.filter (fun x => decide (p < x)) else (l.filter (fun x => decide (x < p))).reverse
/-- The n-th of them; -1, if there are not so many. -/
def nth (on : Bool) (l : List Int) (p : Int) (n : Nat) : Int := ((side on l p)[n - 1]?).getD (-1)
theorem side_at {l : List Int} (hl : l.Pairwise (· < ·)) {i : Nat} {p : Int} (h : l[i]? = some p) (on : Bool) : side on l p = if on then l.drop (i + 1) else (l.take i).reverse := by
  have key : l.filter (fun x => decide (p < x)) = l.drop (i + 1) ∧ l.filter (fun x => decide (x < p)) = l.take i := by
    induction l generalizing i with
    | nil => simp at h
    | cons a t ih =>
      obtain ⟨h1, h2⟩ := List.pairwise_cons.1 hl
      cases i with
      | zero =>
        simp at h
        subst h
        constructor
        · rw [List.filter_cons_of_neg (by simp), List.drop_succ_cons, List.drop_zero, List.filter_eq_self]
          intro y hy; simpa using h1 y hy
        · rw [List.filter_cons_of_neg (by simp), List.take_zero, List.filter_eq_nil_iff]
          intro y hy; have := h1 y hy; simp; omega
      | succ i =>
        have h' : t[i]? = some p := by simpa using h
        obtain ⟨e1, e2⟩ := ih h2 h'
        have hap : a < p := h1 p (List.mem_of_getElem? h')
        constructor
        · rw [List.filter_cons_of_neg (by simp; omega), e1]; rfl
        · rw [List.filter_cons_of_pos (by simpa using hap), e2]; rfl
  cases on with
  | true => rw [side, if_pos rfl, if_pos rfl]; exact key.1
  | false => rw [side, if_neg (by simp), if_neg (by simp), key.2]
theorem mem_side {on : Bool} {l : List Int} {p x : Int} (h : x ∈ side on l p) : x ∈ l ∧ (on = true → p < x) ∧ (on = false → x < p) := by
  cases on with
  | true => rw [side, if_pos rfl, List.mem_filter] at h; exact ⟨h.1, by simpa using h.2, by simp⟩
  | false => rw [side, if_neg (by simp), List.mem_reverse, List.mem_filter] at h; exact ⟨h.1, by simp, by simpa using h.2⟩
theorem side_mem {on : Bool} {l : List Int} {p x : Int} (h : x ∈ l) (h1 : if on then p < x else x < p) : x ∈ side on l p := by
  cases on with
  | true => rw [side, if_pos rfl, List.mem_filter]; exact ⟨h, by simpa using h1⟩
  | false => rw [side, if_neg (by simp), List.mem_reverse, List.mem_filter]; exact ⟨h, by simpa using h1⟩
/-- From the nearest place on there are the others. -/
theorem side_cons {on : Bool} {l : List Int} (hl : l.Pairwise (· < ·)) {p x : Int} {t : List Int} (h : side on l p = x :: t) : side on l x = t := by
  have hx : x ∈ l ∧ (on = true → p < x) ∧ (on = false → x < p) := mem_side (by rw [h]; exact List.mem_cons_self)
  cases on with
  | true =>
    have hp := hx.2.1 rfl
    rw [side, if_pos rfl] at h ⊢
    have e : (l.filter fun y => decide (x < y)) = ((l.filter fun y => decide (p < y)).filter fun y => decide (x < y)) := by
      rw [List.filter_filter]
      refine List.filter_congr fun y _ => ?_
      by_cases h1 : x < y
      · have : p < y := by omega
        simp [h1, this]
      · simp [h1]
    have hu : (x :: t).Pairwise (· < ·) := h ▸ List.Pairwise.filter _ hl
    rw [e, h, List.filter_cons_of_neg (by simp)]
    refine List.filter_eq_self.2 fun y hy => ?_
    have := (List.pairwise_cons.1 hu).1 y hy
    simpa using this
  | false =>
    have hp := hx.2.2 rfl
    rw [side, if_neg (by simp)] at h ⊢
    have h' : (l.filter fun y => decide (y < p)) = t.reverse ++ [x] := by rw [← List.reverse_reverse (l.filter _), h]; simp
    have e : (l.filter fun y => decide (y < x)) = ((l.filter fun y => decide (y < p)).filter fun y => decide (y < x)) := by
      rw [List.filter_filter]
      refine List.filter_congr fun y _ => ?_
      by_cases h1 : y < x
      · have : y < p := by omega
        simp [h1, this]
      · simp [h1]
    have hu : (t.reverse ++ [x]).Pairwise (· < ·) := h' ▸ List.Pairwise.filter _ hl
    rw [e, h', List.filter_append, List.filter_cons_of_neg (by simp), List.filter_nil, List.append_nil, List.filter_eq_self.2, List.reverse_reverse]
    intro y hy
    have := (List.pairwise_append.1 hu).2.2 y hy x (by simp)
    simpa using this
/-- On and on, n times; -1, if there are not so many. -/
def itr (f : Int → Int) : Nat → Int → Int
  | 0, p => p
  | n + 1, p => if f p < 0 then -1 else itr f n (f p)
theorem itr_zero (f : Int → Int) (p : Int) : itr f 0 p = p := rfl
theorem itr_no {f : Int → Int} {p : Int} (h : f p < 0) (n : Nat) : itr f (n + 1) p = -1 := if_pos h
theorem itr_yes {f : Int → Int} {p : Int} (h : ¬ f p < 0) (n : Nat) : itr f (n + 1) p = itr f n (f p) := if_neg h
theorem itr_nth {on : Bool} {l : List Int} (hl : l.Pairwise (· < ·)) (h0 : ∀ x ∈ l, 0 ≤ x) (n : Nat) (p : Int) : itr (fun q => nth on l q 1) (n + 1) p = nth on l p (n + 1) := by
  induction n generalizing p with
  | zero =>
    cases h : side on l p with
    | nil =>
      have : nth on l p 1 = -1 := by rw [nth, h]; rfl
      rw [itr_no (by show nth on l p 1 < 0; omega), this]
    | cons x t =>
      have e : nth on l p 1 = x := by rw [nth, h]; rfl
      have := h0 x (mem_side (p := p) (on := on) (by rw [h]; exact List.mem_cons_self)).1
      rw [itr_yes (by show ¬ nth on l p 1 < 0; omega), itr_zero]
  | succ n ih =>
    cases h : side on l p with
    | nil =>
      have : nth on l p 1 = -1 := by rw [nth, h]; rfl
      rw [itr_no (by show nth on l p 1 < 0; omega), nth, h]; rfl
    | cons x t =>
      have e : nth on l p 1 = x := by rw [nth, h]; rfl
      have := h0 x (mem_side (p := p) (on := on) (by rw [h]; exact List.mem_cons_self)).1
      rw [itr_yes (by show ¬ nth on l p 1 < 0; omega)]
      show itr _ (n + 1) (nth on l p 1) = _
      rw [e, ih, nth, nth, side_cons hl h, h]
      simp
theorem nth_mem {on : Bool} {l : List Int} {p : Int} {n : Nat} (h : 0 ≤ nth on l p n) : nth on l p n ∈ side on l p := by
  unfold nth at *
  cases hx : (side on l p)[n - 1]? with
  | none => rw [hx] at h; exact absurd h (by decide)
  | some x => exact List.mem_of_getElem? hx
theorem nth_ge {on : Bool} {l : List Int} (h0 : ∀ x ∈ l, 0 ≤ x) (p : Int) (n : Nat) : -1 ≤ nth on l p n := by
  by_cases h : 0 ≤ nth on l p n
  · omega
  · unfold nth at *
    cases hx : (side on l p)[n - 1]? with
    | none => simp
    | some x =>
      have := h0 x (mem_side (List.mem_of_getElem? hx)).1
      rw [hx] at h
      simp at h; omega
/-- The nearest place: none lies between, and there is one if there is any. -/
theorem nth_one {on : Bool} {l : List Int} (hl : l.Pairwise (· < ·)) (p : Int) {q : Int} (hq : q ∈ side on l p) (hn : ∀ x ∈ l, (on = true → ¬ (p < x ∧ x < q)) ∧ (on = false → ¬ (q < x ∧ x < p))) : nth on l p 1 = q := by
  cases h : side on l p with
  | nil => rw [h] at hq; cases hq
  | cons x t =>
    have hx := mem_side (p := p) (on := on) (l := l) (x := x) (by rw [h]; exact List.mem_cons_self)
    have e : nth on l p 1 = x := by rw [nth, h]; rfl
    have hqs := mem_side hq
    rw [h] at hq
    rcases List.mem_cons.1 hq with rfl | hq
    · exact e
    · exfalso
      have hs := side_cons hl h
      rw [← hs] at hq
      have h2 := mem_side hq
      have h3 := hn x hx.1
      cases on with
      | true => exact h3.1 rfl ⟨hx.2.1 rfl, h2.2.1 rfl⟩
      | false => exact h3.2 rfl ⟨h2.2.2 rfl, hx.2.2 rfl⟩
theorem nth_no {on : Bool} {l : List Int} (p : Int) (hn : ∀ x ∈ l, (on = true → ¬ p < x) ∧ (on = false → ¬ x < p)) (n : Nat) : nth on l p n = -1 := by
  have : side on l p = [] := by
    rw [List.eq_nil_iff_forall_not_mem]
    intro x hx
    obtain ⟨h1, h2, h3⟩ := mem_side hx
    cases on with
    | true => exact (hn x h1).1 rfl (h2 rfl)
    | false => exact (hn x h1).2 rfl (h3 rfl)
  rw [nth, this]; rfl
theorem nth_between {on : Bool} {l : List Int} (hl : l.Pairwise (· < ·)) {p x : Int} (hx : x ∈ l) (h0 : 0 ≤ nth on l p 1) : (on = true → p < x → nth on l p 1 ≤ x) ∧ (on = false → x < p → x ≤ nth on l p 1) := by
  cases h : side on l p with
  | nil => rw [nth, h] at h0; exact absurd h0 (by decide)
  | cons y t =>
    have e : nth on l p 1 = y := by rw [nth, h]; rfl
    have hs := side_cons hl h
    have key : (if on then p < x else x < p) → x = y ∨ x ∈ t := fun h1 => by
      have := side_mem (on := on) hx h1
      rw [h] at this
      exact List.mem_cons.1 this
    rw [e]
    cases on with
    | true =>
      refine ⟨fun _ h1 => ?_, by simp⟩
      rcases key h1 with rfl | h2
      · exact Int.le_refl _
      · rw [← hs] at h2; have := (mem_side h2).2.1 rfl; omega
    | false =>
      refine ⟨by simp, fun _ h1 => ?_⟩
      rcases key h1 with rfl | h2
      · exact Int.le_refl _
      · rw [← hs] at h2; have := (mem_side h2).2.2 rfl; omega
/-- Who goes n places one way goes back n the other way. -/
theorem nth_back {on : Bool} {l : List Int} (hl : l.Pairwise (· < ·)) {p : Int} (hp : p ∈ l) {n : Nat} (hn : 1 ≤ n) (h : 0 ≤ nth on l p n) : nth (!on) l (nth on l p n) n = p := by
  obtain ⟨i, hi, he⟩ := List.mem_iff_getElem.1 hp
  have hip : l[i]? = some p := by rw [List.getElem?_eq_getElem hi, he]
  have e := side_at hl hip on
  cases on with
  | true =>
    rw [if_pos rfl] at e
    have e1 : nth true l p n = (l[i + n]?).getD (-1) := by rw [nth, e, List.getElem?_drop, show i + 1 + (n - 1) = i + n by omega]
    rw [e1] at h ⊢
    cases hq : l[i + n]? with
    | none => rw [hq] at h; exact absurd h (by decide)
    | some q =>
      simp only [Option.getD_some, Bool.not_true]
      have e2 := side_at hl hq false
      rw [if_neg (by simp)] at e2
      have hl2 := (List.getElem?_eq_some_iff.1 hq).1
      rw [nth, e2, List.getElem?_reverse (by rw [List.length_take]; omega), List.length_take, List.getElem?_take, if_pos (by omega), show min (i + n) l.length - 1 - (n - 1) = i by omega, hip]
      rfl
  | false =>
    rw [if_neg (by simp)] at e
    by_cases hni : n ≤ i
    · have e1 : nth false l p n = (l[i - n]?).getD (-1) := by
        rw [nth, e, List.getElem?_reverse (by rw [List.length_take]; omega), List.length_take, List.getElem?_take, if_pos (by omega), show min i l.length - 1 - (n - 1) = i - n by omega]
      rw [e1] at h ⊢
      have hq := List.getElem?_eq_getElem (show i - n < l.length by omega)
      rw [hq]
      simp only [Option.getD_some, Bool.not_false]
      have e2 := side_at hl hq true
      rw [if_pos rfl] at e2
      rw [nth, e2, List.getElem?_drop, show i - n + 1 + (n - 1) = i by omega, hip]
      rfl
    · exfalso
      rw [nth, e, List.getElem?_eq_none (by rw [List.length_reverse, List.length_take]; omega)] at h
      exact absurd h (by decide)
/-- More often is further. -/
theorem nth_far {on : Bool} {l : List Int} (hl : l.Pairwise (· < ·)) {p : Int} {n : Nat} (h : 0 ≤ nth on l p n) (h1 : 0 ≤ nth on l p 1) : (on = true → nth on l p 1 ≤ nth on l p n) ∧ (on = false → nth on l p n ≤ nth on l p 1) := by
  have hm := mem_side (nth_mem h)
  have hb := nth_between hl (p := p) hm.1 h1
  exact ⟨fun ho => hb.1 ho (hm.2.1 ho), fun ho => hb.2 ho (hm.2.2 ho)⟩
theorem nth_first {on : Bool} {l : List Int} (h0 : ∀ x ∈ l, 0 ≤ x) {p : Int} (n : Nat) (h : nth on l p 1 < 0) : nth on l p n = -1 := by
  cases hs : side on l p with
  | nil => rw [nth, hs]; rfl
  | cons y t =>
    have e : nth on l p 1 = y := by rw [nth, hs]; rfl
    have := h0 y (mem_side (p := p) (on := on) (by rw [hs]; exact List.mem_cons_self)).1
    omega
end Seek
end Go.Proofs.YtchpkeelnfmlbaaGreat
