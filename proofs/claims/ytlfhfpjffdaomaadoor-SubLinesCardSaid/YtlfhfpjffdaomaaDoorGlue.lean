/-
  A text as its lines without a program: parted, and glued again; where its lines stand; which lines make a valid text.
-/
import Derived.Test.YtlfhfpjffdaomaaDoorLineCalls
import Derived.Test.YtlfhfpjffdaomaaDoorParts
namespace Go.Proofs.YtlfhfpjffdaomaaDoor
namespace Gl
open Utf (dec off valid place one)
open Line (L seg Whole lns L_ok L_valid L_each)
open Ix (parts parts_pos parts_whole parts_cut)

/-- Lines, each with its line feed behind it. -/
def fore (R : List (List UInt8)) : List UInt8 := R.flatMap (· ++ [10])
/-- Lines, each with a line feed ahead. -/
def aft (R : List (List UInt8)) : List UInt8 := R.flatMap (10 :: ·)
/-- Lines as a text. -/
def glue : List (List UInt8) → List UInt8
  | [] => []
  | x :: r => x ++ aft r
theorem glue_cons (x : List UInt8) (r : List (List UInt8)) : glue (x :: r) = x ++ aft r := rfl
theorem fore_cons (x : List UInt8) (r : List (List UInt8)) : fore (x :: r) = x ++ 10 :: fore r := by simp [fore]
theorem aft_cons (x : List UInt8) (r : List (List UInt8)) : aft (x :: r) = 10 :: (x ++ aft r) := by simp [aft]
theorem fore_append (A B : List (List UInt8)) : fore (A ++ B) = fore A ++ fore B := by simp [fore]
theorem aft_append (A B : List (List UInt8)) : aft (A ++ B) = aft A ++ aft B := by simp [aft]
theorem fore_snoc (A : List (List UInt8)) (x : List UInt8) : fore (A ++ [x]) = fore A ++ (x ++ [10]) := by rw [fore_append, fore_cons]; simp [fore]
theorem aft_glue {R : List (List UInt8)} (h : R ≠ []) : aft R = 10 :: glue R := by
  cases R with
  | nil => exact absurd rfl h
  | cons x r => rw [aft_cons, glue_cons]
theorem glue_fore {A B : List (List UInt8)} (hB : B ≠ []) : glue (A ++ B) = fore A ++ glue B := by
  induction A with
  | nil => rfl
  | cons a A ih =>
    rw [List.cons_append, glue_cons, aft_glue (by simp [hB]), ih, fore_cons]
    simp
theorem glue_aft {B C : List (List UInt8)} (hB : B ≠ []) : glue (B ++ C) = glue B ++ aft C := by
  cases B with
  | nil => exact absurd rfl hB
  | cons x r => rw [List.cons_append, glue_cons, glue_cons, aft_append, List.append_assoc]
theorem glue_mid {A B C : List (List UInt8)} (hB : B ≠ []) : glue (A ++ (B ++ C)) = fore A ++ (glue B ++ aft C) := by
  rw [glue_fore (by simp [hB]), glue_aft hB]
theorem glue_one (x : List UInt8) : glue [x] = x := by simp [glue, aft]

/-- Is there no line feed in it? -/
def Free (x : List UInt8) : Prop := (10 : UInt8) ∉ x
theorem free_get {x : List UInt8} (h : Free x) (i : Nat) : x[i]? ≠ some 10 := fun e => h (List.mem_of_getElem? e)
theorem parts_ne (s : List UInt8) : parts s ≠ [] := fun h => by have := parts_pos s; rw [h] at this; exact absurd this (Nat.lt_irrefl 0)
theorem glue_parts (s : List UInt8) : glue (parts s) = s := by
  induction s with
  | nil => rfl
  | cons c r ih =>
    rw [parts]
    split
    · rename_i h
      subst h
      rw [glue_cons, aft_glue (parts_ne r), ih]
      rfl
    · cases hp : parts r with
      | nil => exact absurd hp (parts_ne r)
      | cons x q =>
        rw [hp, glue_cons] at ih
        rw [← ih]
        rfl
theorem parts_free (s : List UInt8) : ∀ x ∈ parts s, Free x := by
  induction s with
  | nil => intro x hx; simp [parts] at hx; subst hx; simp [Free]
  | cons c r ih =>
    intro x hx
    rw [parts] at hx
    split at hx
    · rcases List.mem_cons.1 hx with h | h
      · subst h; simp [Free]
      · exact ih x h
    · rename_i hc
      cases hp : parts r with
      | nil => exact absurd hp (parts_ne r)
      | cons y q =>
        rw [hp] at hx ih
        rcases List.mem_cons.1 hx with h | h
        · subst h
          intro hm
          rcases List.mem_cons.1 hm with h2 | h2
          · exact hc h2.symm
          · exact ih y (by simp) h2
        · exact ih x (by simp [h])
theorem parts_glue {R : List (List UInt8)} (h0 : R ≠ []) (h : ∀ x ∈ R, Free x) : parts (glue R) = R := by
  induction R with
  | nil => exact absurd rfl h0
  | cons x r ih =>
    cases r with
    | nil => rw [glue_one]; exact parts_whole x (free_get (h x (by simp)))
    | cons y q =>
      rw [glue_cons, aft_glue (by simp), parts_cut x _ (free_get (h x (by simp))), ih (by simp) (fun z hz => h z (by simp [hz]))]

/-- Where lines stand, the first of them from a on. -/
def spots (a : Nat) : List (List UInt8) → List (Nat × Nat)
  | [] => []
  | x :: r => (a, a + x.length) :: spots (a + x.length + 1) r
theorem lns_parts (a i : Nat) (t : List UInt8) : lns a i t = match parts t with | [] => [] | x :: r => (a, i + x.length) :: spots (i + x.length + 1) r := by
  induction t generalizing a i with
  | nil => rfl
  | cons b t ih =>
    cases hp : parts t with
    | nil => exact absurd hp (parts_ne t)
    | cons x r =>
      rw [lns, parts, hp]
      split
      · rw [ih, hp]
        rfl
      · rw [ih, hp]
        show _ = (a, i + (b :: x).length) :: spots (i + (b :: x).length + 1) r
        rw [List.length_cons, show i + (x.length + 1) = i + 1 + x.length by omega]
theorem L_spots {s : List UInt8} (h : valid s = true) : L s = spots 0 (parts s) := by
  rw [L_ok h, Line.lines, lns_parts]
  cases hp : parts s with
  | nil => exact absurd hp (parts_ne s)
  | cons x r => rfl
theorem spots_length (a : Nat) (R : List (List UInt8)) : (spots a R).length = R.length := by
  induction R generalizing a with
  | nil => rfl
  | cons x r ih => rw [spots, List.length_cons, List.length_cons, ih]
theorem spots_get {a : Nat} {R : List (List UInt8)} {k : Nat} {x : List UInt8} (h : R[k]? = some x) : (spots a R)[k]? = some (a + (fore (R.take k)).length, a + (fore (R.take k)).length + x.length) := by
  induction R generalizing a k with
  | nil => simp at h
  | cons y r ih =>
    cases k with
    | zero =>
      simp only [List.getElem?_cons_zero, Option.some.injEq] at h
      subst h
      simp [spots, fore]
    | succ k =>
      rw [List.getElem?_cons_succ] at h
      rw [spots, List.getElem?_cons_succ, ih h, List.take_succ_cons, fore_cons, List.length_append, List.length_cons]
      congr 2 <;> omega
theorem L_len {s : List UInt8} (h : valid s = true) : (L s).length = (parts s).length := by rw [L_spots h, spots_length]
/-- Line k, by the lines. -/
theorem L_at {s : List UInt8} (hv : valid s = true) {k : Nat} {r : List UInt8} (h : (parts s)[k]? = some r) : (L s)[k]? = some ((fore ((parts s).take k)).length, (fore ((parts s).take k)).length + r.length) := by
  rw [L_spots hv, spots_get h, Nat.zero_add]
theorem L_of {s : List UInt8} {k : Nat} {x : Nat × Nat} (h : (L s)[k]? = some x) : ∃ r, (parts s)[k]? = some r ∧ x.1 = (fore ((parts s).take k)).length ∧ x.2 = x.1 + r.length := by
  have hv := L_valid h
  have hk : k < (parts s).length := by rw [← L_len hv]; exact (List.getElem?_eq_some_iff.1 h).1
  have hr := List.getElem?_eq_getElem hk
  refine ⟨_, hr, ?_⟩
  rw [L_at hv hr] at h
  injection h with h
  subst h
  exact ⟨rfl, rfl⟩
/-- A text, ahead of line j, from there to line k, and behind it. -/
theorem three {s : List UInt8} {j k : Nat} {x y : Nat × Nat} (hjk : j ≤ k) (hx : (L s)[j]? = some x) (hy : (L s)[k]? = some y) :
    ∃ A B C, parts s = A ++ (B ++ C) ∧ B ≠ [] ∧ A.length = j ∧ B.length = k + 1 - j ∧ s = fore A ++ (glue B ++ aft C) ∧ x.1 = (fore A).length ∧ y.2 = (fore A).length + (glue B).length := by
  obtain ⟨r, hr, h1, h2⟩ := L_of hx
  obtain ⟨q, hq, h3, h4⟩ := L_of hy
  have hk := (List.getElem?_eq_some_iff.1 hq).1
  have hR : parts s = (parts s).take j ++ (((parts s).drop j).take (k + 1 - j) ++ (parts s).drop (k + 1)) := by
    conv => lhs; rw [← List.take_append_drop j (parts s), ← List.take_append_drop (k + 1 - j) ((parts s).drop j), List.drop_drop, show j + (k + 1 - j) = k + 1 by omega]
  have hne : ((parts s).drop j).take (k + 1 - j) ≠ [] := fun h => by
    have := congrArg List.length h
    simp at this
    omega
  have hs := glue_parts s
  rw [hR, glue_mid hne] at hs
  have e1 : (parts s).take j ++ ((parts s).drop j).take (k + 1 - j) = (parts s).take k ++ [q] := by
    have := List.take_succ_eq_append_getElem hk
    rw [(List.getElem?_eq_some_iff.1 hq).2] at this
    rw [← this, ← List.take_append_drop j ((parts s).take (k + 1)), List.take_take, Nat.min_eq_left (by omega), List.drop_take]
  have e2 := congrArg glue e1
  rw [glue_fore hne, glue_fore (by simp), glue_one] at e2
  have e3 := congrArg List.length e2
  rw [List.length_append, List.length_append] at e3
  exact ⟨_, _, _, hR, hne, by rw [List.length_take]; omega, by rw [List.length_take, List.length_drop]; omega, hs.symm, h1, by rw [h4, h3]; omega⟩

/-- A valid text and another one. -/
theorem valid_all {a : List UInt8} (b : List UInt8) (ha : valid a = true) : valid (a ++ b) = valid b := by
  obtain ⟨rs, hd⟩ := Utf.valid_of ha
  obtain ⟨h1, h2⟩ := Utf.dec_some hd
  rw [valid, h2, Utf.dec_all b h1, valid, Option.isSome_map]
theorem one_ascii {b : UInt8} (h : b.toNat < 128) : one [b] = true := by
  have hl : Utf.len b.toNat = 1 := by
    unfold Utf.len
    rw [if_neg (by omega), if_neg (by omega), if_neg (by omega), if_neg (by omega), if_neg (by omega)]
  rw [Utf.one_iff, Utf.siz_cons, hl]
  simp [Utf.goes]
theorem valid_nil : valid [] = true := by rw [valid, Utf.dec_nil]; rfl
theorem valid_ascii {b : UInt8} (t : List UInt8) (h : b.toNat < 128) : valid (b :: t) = valid t := by
  have := valid_all (a := [b]) t (by
    have := Utf.dec_of (rs := [[b]]) (by simp [one_ascii h])
    rw [valid]
    simp at this
    rw [this]; rfl)
  exact this
theorem valid_feed (t : List UInt8) : valid (10 :: t) = valid t := valid_ascii t (by decide)
theorem place_mid {a b : List UInt8} (ha : valid a = true) (hb : valid b = true) : place (a ++ b) (a.length : Int) = true := by
  obtain ⟨rs, hd⟩ := Utf.valid_of ha
  obtain ⟨qs, he⟩ := Utf.valid_of hb
  obtain ⟨h1, h2⟩ := Utf.dec_some hd
  have h3 : dec (a ++ b) = some (rs ++ qs) := by
    conv => lhs; rw [h2]
    rw [Utf.dec_all b h1, he]
    rfl
  have := Utf.place_at h3 (i := rs.length) (by simp)
  rwa [off, List.take_left, ← h2] at this
/-- What stands from one place of a text on is valid, and so is what stands ahead of it. -/
theorem place_two {s : List UInt8} {n : Nat} (h : place s (n : Int) = true) : valid (s.take n) = true ∧ valid (s.drop n) = true := by
  obtain ⟨rs, i, hd, hi, he⟩ := Utf.place_of h
  obtain rfl : off rs i = n := by omega
  obtain ⟨h1, h2⟩ := Utf.dec_some hd
  rw [h2, Utf.off_take, Utf.off_drop]
  constructor
  · rw [valid, Utf.dec_of fun r hr => h1 r (List.mem_of_mem_take hr)]; rfl
  · rw [valid, Utf.dec_of fun r hr => h1 r (List.mem_of_mem_drop hr)]; rfl
theorem take_of {s A M : List UInt8} {n : Nat} (h : s = A ++ M) (hn : n = A.length) : s.take n = A := by rw [h, hn, List.take_left]
theorem drop_of {s A M : List UInt8} {n : Nat} (h : s = A ++ M) (hn : n = A.length) : s.drop n = M := by rw [h, hn, List.drop_left]
theorem valid_part {s : List UInt8} (hv : valid s = true) : ∀ x ∈ parts s, valid x = true := by
  intro r hx
  obtain ⟨k, hk, he⟩ := List.mem_iff_getElem.1 hx
  have hr : (parts s)[k]? = some r := by rw [List.getElem?_eq_getElem hk, he]
  have hL := L_at hv hr
  obtain ⟨A, B, C, h1, h2, h3, h4, h5, h6, h7⟩ := three (Nat.le_refl k) hL hL
  have p1 := (place_two (Line.start_ok hL)).1
  have p2 := (place_two (Line.stop_ok hL)).1
  have hB : B = [r] := by
    have e : (parts s)[k]? = B[0]? := by
      have hl : 0 < B.length := List.length_pos_iff.2 h2
      rw [h1, List.getElem?_append_right (by omega), h3, Nat.sub_self, List.getElem?_append_left hl]
    rw [hr] at e
    match B, h4, e with
    | [b], _, e => simp at e; rw [e]
    | [], h, _ => exact absurd rfl h2
    | b :: c :: r, h, _ => simp at h
  rw [take_of h5 h6] at p1
  rw [take_of (A := fore A ++ glue B) (M := aft C) (by rw [List.append_assoc]; exact h5) (by rw [List.length_append]; exact h7), hB, glue_one, valid_all _ p1] at p2
  exact p2
theorem valid_aft {R : List (List UInt8)} (h : ∀ x ∈ R, valid x = true) : valid (aft R) = true := by
  induction R with
  | nil => exact valid_nil
  | cons x r ih => rw [aft_cons, valid_feed, valid_all _ (h x (by simp))]; exact ih fun y hy => h y (by simp [hy])
theorem valid_fore {R : List (List UInt8)} (h : ∀ x ∈ R, valid x = true) : valid (fore R) = true := by
  induction R with
  | nil => exact valid_nil
  | cons x r ih => rw [fore_cons, valid_all _ (h x (by simp)), valid_feed]; exact ih fun y hy => h y (by simp [hy])
theorem valid_glue {R : List (List UInt8)} (h : ∀ x ∈ R, valid x = true) : valid (glue R) = true := by
  cases R with
  | nil => exact valid_nil
  | cons x r => rw [glue_cons, valid_all _ (h x (by simp))]; exact valid_aft fun y hy => h y (by simp [hy])
/-- Where the line behind these ones begins. -/
theorem start_fore {A R : List (List UInt8)} (h : ∀ x ∈ A ++ R, valid x = true ∧ Free x) (hR : R ≠ []) : Line.start (glue (A ++ R)) (A.length : Nat) = (fore A).length ∧ ∃ x, R.head? = some x ∧ Line.stop (glue (A ++ R)) (A.length : Nat) = ((fore A).length + x.length : Nat) := by
  have hv := valid_glue fun x hx => (h x hx).1
  have hp := parts_glue (R := A ++ R) (by simp [hR]) (fun x hx => (h x hx).2)
  cases R with
  | nil => exact absurd rfl hR
  | cons x r =>
    have hL := L_at hv (k := A.length) (r := x) (by rw [hp]; simp)
    rw [hp, List.take_left] at hL
    have hl : Line.line (glue (A ++ x :: r)) ((A.length : Nat) : Int) = some ((fore A).length, (fore A).length + x.length) := by rw [Line.line_nat]; exact hL
    exact ⟨Line.start_some hl, x, rfl, Line.stop_some hl⟩
end Gl
end Go.Proofs.YtlfhfpjffdaomaaDoor
