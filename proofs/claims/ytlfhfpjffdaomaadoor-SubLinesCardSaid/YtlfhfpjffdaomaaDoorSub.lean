/-
  A text in the place of another one, without a program: pieces of a line, lines of a text, and what is put back.
-/
import Derived.Test.YtlfhfpjffdaomaaDoorGlue
import Derived.Test.YtlfhfpjffdaomaaDoorLook
namespace Go.Proofs.YtlfhfpjffdaomaaDoor
namespace Sb
open Utf (valid place dec off)
open Line (L)
open Ix (parts)
open Gl
/-- What stands between the places of p, m of them at most; k bytes are still to be passed. -/
def ps (p : List UInt8) : Nat → Nat → List UInt8 → List (List UInt8)
  | _, _, [] => [[]]
  | k + 1, m, _ :: t => ps p k m t
  | 0, m, b :: t =>
    if 0 < m ∧ p <+: b :: t then [] :: ps p (p.length - 1) (m - 1) t
    else match ps p 0 m t with
      | [] => [[b]]
      | x :: q => (b :: x) :: q
/-- Pieces with a text between them. -/
def jn (r : List UInt8) : List (List UInt8) → List UInt8
  | [] => []
  | x :: q => x ++ q.flatMap (r ++ ·)
theorem jn_one (r x : List UInt8) : jn r [x] = x := by simp [jn]
theorem jn_cons (r x : List UInt8) {q : List (List UInt8)} (h : q ≠ []) : jn r (x :: q) = x ++ (r ++ jn r q) := by
  cases q with
  | nil => exact absurd rfl h
  | cons y q => simp [jn]
theorem ps_ne (p : List UInt8) (k m : Nat) (s : List UInt8) : ps p k m s ≠ [] := by
  induction s generalizing k m with
  | nil => simp [ps]
  | cons b t ih =>
    cases k with
    | succ k => rw [ps]; exact ih k m
    | zero =>
      rw [ps]
      split
      · simp
      · split <;> simp
theorem ps_skip (p : List UInt8) (m : Nat) (s : List UInt8) (k : Nat) : ps p k m s = ps p 0 m (s.drop k) := by
  induction s generalizing k with
  | nil => cases k <;> simp [ps]
  | cons b t ih =>
    cases k with
    | zero => rfl
    | succ k => rw [ps, ih, List.drop_succ_cons]
theorem ps_nil (p : List UInt8) (m : Nat) : ps p 0 m [] = [[]] := rfl
theorem ps_hit {p s : List UInt8} {m : Nat} (h0 : p ≠ []) (hm : 0 < m) (t : List UInt8) (hs : s = p ++ t) : ps p 0 m s = [] :: ps p 0 (m - 1) t := by
  cases s with
  | nil => cases p with
    | nil => exact absurd rfl h0
    | cons _ _ => cases hs
  | cons b u =>
    rw [ps, if_pos ⟨hm, by rw [hs]; exact List.prefix_append p t⟩, ps_skip]
    have hl : 0 < p.length := List.length_pos_iff.2 h0
    have : u.drop (p.length - 1) = (b :: u).drop p.length := by
      rw [show p.length = p.length - 1 + 1 by omega, List.drop_succ_cons]; rfl
    rw [this, hs, List.drop_left]
theorem ps_miss {p : List UInt8} {m : Nat} {b : UInt8} {t : List UInt8} (h : ¬ (0 < m ∧ p <+: b :: t)) : ∃ x q, ps p 0 m t = x :: q ∧ ps p 0 m (b :: t) = (b :: x) :: q := by
  rw [ps, if_neg h]
  cases hp : ps p 0 m t with
  | nil => exact absurd hp (ps_ne p 0 m t)
  | cons x q => exact ⟨x, q, rfl, rfl⟩
/-- Where p stands first, or that it stands nowhere. -/
theorem ps_first {p : List UInt8} (h0 : p ≠ []) (m : Nat) (s : List UInt8) :
    (ps p 0 m s = [s] ∧ (m = 0 ∨ ∀ x, ¬ p <+: s.drop x)) ∨
    (0 < m ∧ ∃ a t, s = a ++ (p ++ t) ∧ (∀ x, x < a.length → ¬ p <+: s.drop x) ∧ ps p 0 m s = a :: ps p 0 (m - 1) t) := by
  induction s with
  | nil =>
    left
    refine ⟨rfl, .inr fun x h => h0 ?_⟩
    rw [List.drop_nil] at h
    exact List.prefix_nil.1 h
  | cons b t ih =>
    by_cases h : 0 < m ∧ p <+: b :: t
    · obtain ⟨hm, u, hu⟩ := h
      exact .inr ⟨hm, [], u, hu.symm, fun x hx => absurd hx (Nat.not_lt_zero x), ps_hit h0 hm u hu.symm⟩
    · obtain ⟨x, q, e1, e2⟩ := ps_miss h
      rcases ih with ⟨e3, e4⟩ | ⟨hm, a, u, e3, e4, e5⟩
      · rw [e3] at e1
        injection e1 with e5 e6
        subst e5 e6
        refine .inl ⟨e2, ?_⟩
        by_cases hm : m = 0
        · exact .inl hm
        · right
          intro y
          cases y with
          | zero => exact fun hp => h ⟨by omega, hp⟩
          | succ y => rw [List.drop_succ_cons]; exact e4.resolve_left hm y
      · rw [e5] at e1
        injection e1 with e6 e7
        subst e6 e7
        refine .inr ⟨hm, b :: a, u, by rw [e3]; rfl, ?_, e2⟩
        intro y hy
        cases y with
        | zero => exact fun hp => h ⟨hm, hp⟩
        | succ y =>
          rw [List.drop_succ_cons]
          exact e4 y (by rw [List.length_cons] at hy; omega)
theorem ps_zero (p s : List UInt8) : ps p 0 0 s = [s] := by
  induction s with
  | nil => rfl
  | cons b t ih =>
    obtain ⟨x, q, e1, e2⟩ := ps_miss (p := p) (m := 0) (b := b) (t := t) (by simp)
    rw [ih] at e1
    injection e1 with e3 e4
    rw [e2, ← e3, ← e4]
/-- By the first place of p, on to the next. -/
theorem ps_rec {p : List UInt8} (h0 : p ≠ []) {P : Nat → List UInt8 → List (List UInt8) → Prop}
    (base : ∀ m s, (m = 0 ∨ ∀ x, ¬ p <+: s.drop x) → P m s [s])
    (step : ∀ m a t, (∀ x, x < a.length → ¬ p <+: (a ++ (p ++ t)).drop x) → P m t (ps p 0 m t) → P (m + 1) (a ++ (p ++ t)) (a :: ps p 0 m t)) :
    ∀ m s, P m s (ps p 0 m s) := by
  intro m
  induction m with
  | zero => intro s; rw [ps_zero]; exact base 0 s (.inl rfl)
  | succ m ih =>
    intro s
    rcases ps_first h0 (m + 1) s with ⟨e, h⟩ | ⟨_, a, t, e, h, e2⟩
    · rw [e]; exact base _ s h
    · rw [e2, e]; exact step m a t (by rw [← e]; exact h) (ih t)
/-- The line, of its pieces. -/
theorem ps_join {p : List UInt8} (h0 : p ≠ []) (m : Nat) (s : List UInt8) : jn p (ps p 0 m s) = s := by
  refine ps_rec h0 (P := fun _ s q => jn p q = s) (fun m s _ => jn_one p s) (fun m a t _ h => ?_) m s
  rw [jn_cons p a (ps_ne p 0 m t), h]
theorem jn_len (r : List UInt8) (q : List (List UInt8)) : (jn r q).length = q.flatten.length + (q.length - 1) * r.length := by
  cases q with
  | nil => simp [jn]
  | cons x q =>
    rw [jn, List.length_append, List.flatten_cons, List.length_append, List.length_cons, Nat.add_sub_cancel]
    have : (q.flatMap (r ++ ·)).length = q.flatten.length + q.length * r.length := by
      induction q with
      | nil => simp
      | cons y q ih => rw [List.flatMap_cons, List.length_append, ih, List.length_append, List.flatten_cons, List.length_append, List.length_cons, Nat.succ_mul]; omega
    omega
/-- A line with r in p's place is longer by that. -/
theorem sw_len {p : List UInt8} (h0 : p ≠ []) (r : List UInt8) (m : Nat) (s : List UInt8) : (jn r (ps p 0 m s)).length + ((ps p 0 m s).length - 1) * p.length = s.length + ((ps p 0 m s).length - 1) * r.length := by
  have h := congrArg List.length (ps_join h0 m s)
  rw [jn_len] at h
  rw [jn_len]
  omega
theorem jn_mem {r : List UInt8} {q : List (List UInt8)} {b : UInt8} : b ∈ jn r q → (∃ x ∈ q, b ∈ x) ∨ b ∈ r := by
  cases q with
  | nil => intro h; cases h
  | cons x q =>
    rw [jn, List.mem_append, List.mem_flatMap]
    rintro (h | ⟨y, hy, h⟩)
    · exact .inl ⟨x, by simp, h⟩
    · rw [List.mem_append] at h
      rcases h with h | h
      · exact .inr h
      · exact .inl ⟨y, by simp [hy], h⟩
theorem mem_jn {r x : List UInt8} {q : List (List UInt8)} {b : UInt8} (hx : x ∈ q) (hb : b ∈ x) : b ∈ jn r q := by
  cases q with
  | nil => cases hx
  | cons y q =>
    rw [jn, List.mem_append, List.mem_flatMap]
    rcases List.mem_cons.1 hx with rfl | h
    · exact .inl hb
    · exact .inr ⟨x, h, by simp [hb]⟩
theorem sw_free {p r : List UInt8} (h0 : p ≠ []) (m : Nat) {s : List UInt8} (hs : Free s) (hr : Free r) : Free (jn r (ps p 0 m s)) := by
  intro h
  rcases jn_mem h with ⟨x, hx, hb⟩ | h
  · have := mem_jn (r := p) hx hb
    rw [ps_join h0] at this
    exact hs this
  · exact hr h
/-- Pieces of a valid line are valid. -/
theorem ps_valid {p : List UInt8} (h0 : p ≠ []) (hp : valid p = true) (m : Nat) (s : List UInt8) (hs : valid s = true) : ∀ x ∈ ps p 0 m s, valid x = true := by
  refine ps_rec h0 (P := fun _ s q => valid s = true → ∀ x ∈ q, valid x = true) (fun m s _ h x hx => ?_) (fun m a t _ ih h x hx => ?_) m s hs
  · rw [List.mem_singleton] at hx; rw [hx]; exact h
  · obtain ⟨rs, hd⟩ := Utf.valid_of h
    obtain ⟨i, hi, he⟩ := Look.at_place hd hp h0 (x := a.length) (by rw [Look.at_, List.drop_left]; exact decide_eq_true (List.prefix_append p t))
    have hpl : place (a ++ (p ++ t)) (a.length : Int) = true := by rw [← he]; exact Utf.place_at hd (Nat.le_of_lt hi)
    obtain ⟨v1, v2⟩ := place_two hpl
    rw [List.take_left] at v1
    rw [List.drop_left, valid_all _ hp] at v2
    rcases List.mem_cons.1 hx with rfl | hx
    · exact v1
    · exact ih v2 x hx
theorem jn_valid {r : List UInt8} (hr : valid r = true) {q : List (List UInt8)} (h : ∀ x ∈ q, valid x = true) : valid (jn r q) = true := by
  cases q with
  | nil => exact valid_nil
  | cons x q =>
    rw [jn, valid_all _ (h x (by simp))]
    have h2 : ∀ y ∈ q, valid y = true := fun y hy => h y (by simp [hy])
    clear h
    induction q with
    | nil => exact valid_nil
    | cons y q ih => rw [List.flatMap_cons, List.append_assoc, valid_all _ hr, valid_all _ (h2 y (by simp))]; exact ih fun z hz => h2 z (by simp [hz])
theorem sw_valid {p r : List UInt8} (h0 : p ≠ []) (hp : valid p = true) (hr : valid r = true) (m : Nat) {s : List UInt8} (hs : valid s = true) : valid (jn r (ps p 0 m s)) = true := jn_valid hr (ps_valid h0 hp m s hs)
/-- No more than a line has bytes. -/
theorem ps_few {p : List UInt8} (h0 : p ≠ []) (m : Nat) (s : List UInt8) : (ps p 0 m s).length - 1 ≤ s.length ∧ (ps p 0 m s).length - 1 ≤ m := by
  have hl : 0 < p.length := List.length_pos_iff.2 h0
  refine ps_rec h0 (P := fun m s q => q.length - 1 ≤ s.length ∧ q.length - 1 ≤ m) (fun m s _ => by simp) (fun m a t _ h => ?_) m s
  rw [List.length_append, List.length_append, List.length_cons]
  have := List.length_pos_iff.2 (ps_ne p 0 m t)
  omega
/-- As often as it may be is as often as there are bytes. -/
theorem ps_more {p : List UInt8} (h0 : p ≠ []) {m n : Nat} {s : List UInt8} (hm : s.length ≤ m) (hn : s.length ≤ n) : ps p 0 m s = ps p 0 n s := by
  have hl : 0 < p.length := List.length_pos_iff.2 h0
  induction m generalizing n s with
  | zero =>
    obtain rfl : s = [] := List.length_eq_zero_iff.1 (by omega)
    rfl
  | succ m ih =>
    cases n with
    | zero =>
      obtain rfl : s = [] := List.length_eq_zero_iff.1 (by omega)
      rfl
    | succ n =>
      rcases ps_first h0 (m + 1) s with ⟨e, h⟩ | ⟨_, a, t, e, h, e2⟩
      · rcases ps_first h0 (n + 1) s with ⟨e3, _⟩ | ⟨_, a, t, e3, _, _⟩
        · rw [e, e3]
        · refine absurd ?_ (h.resolve_left (by omega) a.length)
          rw [e3, List.drop_left]
          exact List.prefix_append p t
      · rcases ps_first h0 (n + 1) s with ⟨e3, h3⟩ | ⟨_, a', t', e3, h3, e4⟩
        · refine absurd ?_ (h3.resolve_left (by omega) a.length)
          rw [e, List.drop_left]
          exact List.prefix_append p t
        · have hal : a.length = a'.length := by
            rcases Nat.lt_trichotomy a.length a'.length with hh | hh | hh
            · refine absurd ?_ (h3 _ hh)
              rw [e, List.drop_left]; exact List.prefix_append p t
            · exact hh
            · refine absurd ?_ (h _ hh)
              rw [e3, List.drop_left]; exact List.prefix_append p t'
          obtain ⟨rfl, e5⟩ := List.append_inj (e.symm.trans e3) hal
          obtain rfl := List.append_cancel_left e5
          rw [e2, e4]
          congr 1
          have := congrArg List.length e
          simp only [List.length_append] at this
          exact ih (by omega) (by omega)
/-- How the document's answer goes: the line, and how often. -/
def one (p r : List UInt8) (m : Nat) (s : List UInt8) : List UInt8 × Nat := (jn r (ps p 0 m s), (ps p 0 m s).length - 1)
theorem one_nil (p r : List UInt8) (m : Nat) : one p r m [] = ([], 0) := by simp [one, ps_nil, jn_one]
theorem one_hit {p : List UInt8} (r : List UInt8) {m : Nat} (h0 : p ≠ []) (hm : 0 < m) (t : List UInt8) : one p r m (p ++ t) = (r ++ (one p r (m - 1) t).1, (one p r (m - 1) t).2 + 1) := by
  have := List.length_pos_iff.2 (ps_ne p 0 (m - 1) t)
  rw [one, ps_hit h0 hm t rfl, jn_cons r [] (ps_ne p 0 (m - 1) t), List.nil_append, one, List.length_cons]
  congr 1
  omega
theorem one_miss {p : List UInt8} (r : List UInt8) {m : Nat} {b : UInt8} {t : List UInt8} (h : ¬ (0 < m ∧ p <+: b :: t)) : one p r m (b :: t) = (b :: (one p r m t).1, (one p r m t).2) := by
  obtain ⟨x, q, e1, e2⟩ := ps_miss h
  rw [one, one, e1, e2]
  simp [jn]
/-- What is put in the place of one sign, where it stood nowhere, is put back. -/
theorem back_one {x y : UInt8} (m : Nat) {s : List UInt8} (hs : y ∉ s) {n : Nat} (hn : s.length ≤ n) : ps [y] 0 n (jn [y] (ps [x] 0 m s)) = ps [x] 0 m s := by
  have hno : ∀ u : List UInt8, y ∉ u → ∀ k, ¬ [y] <+: u.drop k := by
    intro u hu k ⟨w, hw⟩
    exact hu (List.mem_of_mem_drop (i := k) (by rw [← hw]; simp))
  have hlone : ∀ (n : Nat) (u : List UInt8), y ∉ u → ps [y] 0 n u = [u] := by
    intro n u hu
    rcases ps_first (p := [y]) (by simp) n u with ⟨e, _⟩ | ⟨_, a, t, e, _, _⟩
    · exact e
    · exact absurd (by rw [e]; simp) hu
  refine ps_rec (p := [x]) (by simp) (P := fun _ s q => y ∉ s → ∀ n, s.length ≤ n → ps [y] 0 n (jn [y] q) = q) (fun m s _ h n _ => by rw [jn_one]; exact hlone n s h) (fun m a t _ ih h n hn => ?_) m s hs n hn
  have ha : y ∉ a := fun h' => h (by simp [h'])
  have ht : y ∉ t := fun h' => h (by simp [h'])
  simp only [List.length_append, List.length_cons, List.length_nil] at hn
  rw [jn_cons _ _ (ps_ne [x] 0 m t)]
  rcases ps_first (p := [y]) (by simp) n (a ++ ([y] ++ jn [y] (ps [x] 0 m t))) with ⟨_, h2⟩ | ⟨_, a', t', e, h2, e2⟩
  · refine absurd ?_ (h2.resolve_left (by omega) a.length)
    rw [List.drop_left]
    exact List.prefix_append _ _
  · have hal : a.length = a'.length := by
      rcases Nat.lt_trichotomy a.length a'.length with hh | hh | hh
      · refine absurd ?_ (h2 _ hh)
        rw [List.drop_left]; exact List.prefix_append _ _
      · exact hh
      · exfalso
        apply ha
        have : (a ++ ([y] ++ jn [y] (ps [x] 0 m t)))[a'.length]? = some y := by rw [e, List.getElem?_append_right (Nat.le_refl _)]; simp
        rw [List.getElem?_append_left hh] at this
        exact List.mem_of_getElem? this
    obtain ⟨rfl, e5⟩ := List.append_inj e hal
    obtain rfl := List.append_cancel_left e5
    rw [e2, ih ht (n - 1) (by omega)]
/-- Of the lines of a text, those from a to b with r in p's place. -/
def rows (p r : List UInt8) (m a b : Nat) (R : List (List UInt8)) : List (List UInt8) := R.take a ++ (((R.drop a).take (b + 1 - a)).map (fun l => jn r (ps p 0 m l)) ++ R.drop (b + 1))
def mids (a b : Nat) (R : List (List UInt8)) : List (List UInt8) := (R.drop a).take (b + 1 - a)
/-- How often p stands in lines. -/
def cnt (p : List UInt8) (m : Nat) (Q : List (List UInt8)) : Nat := (Q.map fun l => (ps p 0 m l).length - 1).sum
/-- The last of lines in which p stands, the first of them line k; else z. -/
def lst (p : List UInt8) (m : Nat) : Int → Int → List (List UInt8) → Int
  | _, z, [] => z
  | k, z, x :: q => lst p m (k + 1) (if 0 < (ps p 0 m x).length - 1 then k else z) q
theorem lst_none {p : List UInt8} {m : Nat} {Q : List (List UInt8)} (h : cnt p m Q = 0) : ∀ k z, lst p m k z Q = z := by
  induction Q with
  | nil => intro k z; rfl
  | cons x q ih =>
    intro k z
    rw [cnt, List.map_cons, List.sum_cons] at h
    rw [lst, if_neg (by omega)]
    exact ih (by rw [cnt]; omega) _ _
theorem lst_some {p : List UInt8} {m : Nat} : ∀ {Q : List (List UInt8)} (k z : Int), (lst p m k z Q = z ∧ cnt p m Q = 0) ∨ (k ≤ lst p m k z Q ∧ lst p m k z Q < k + Q.length ∧ 0 < cnt p m Q) := by
  intro Q
  induction Q with
  | nil => intro k z; exact .inl ⟨rfl, rfl⟩
  | cons x q ih =>
    intro k z
    rw [lst, cnt, List.map_cons, List.sum_cons, List.length_cons]
    by_cases h : 0 < (ps p 0 m x).length - 1
    · rw [if_pos h]
      rcases ih (k + 1) k with ⟨e, _⟩ | ⟨h1, h2, _⟩
      · right; rw [e]; omega
      · right; omega
    · rw [if_neg h]
      rcases ih (k + 1) z with ⟨e, h1⟩ | ⟨h1, h2, h3⟩
      · left; exact ⟨e, by rw [cnt] at h1; omega⟩
      · right; rw [cnt] at h3; omega
theorem rows_split {a b : Nat} {R : List (List UInt8)} (hab : a ≤ b) : R = R.take a ++ (mids a b R ++ R.drop (b + 1)) := by
  rw [mids]
  conv => lhs; rw [← List.take_append_drop a R, ← List.take_append_drop (b + 1 - a) (R.drop a), List.drop_drop, show a + (b + 1 - a) = b + 1 by omega]
theorem rows_length (p r : List UInt8) (m : Nat) {a b : Nat} (hab : a ≤ b) (R : List (List UInt8)) : (rows p r m a b R).length = R.length := by
  have := congrArg List.length (rows_split (R := R) hab)
  simp only [List.length_append, mids] at this
  rw [rows, List.length_append, List.length_append, List.length_map]
  omega
theorem rows_get {p r : List UInt8} {m a b : Nat} {R : List (List UInt8)} (hab : a ≤ b) {k : Nat} (h : k < a ∨ b < k) : (rows p r m a b R)[k]? = R[k]? := by
  by_cases hb : b < R.length
  · conv => rhs; rw [rows_split (R := R) hab]
    rw [rows, mids]
    rcases h with h | h
    · rw [List.getElem?_append_left (by rw [List.length_take]; omega), List.getElem?_append_left (by rw [List.length_take]; omega)]
    · have h1 : (R.take a).length = a := by rw [List.length_take]; omega
      have h2 : ((R.drop a).take (b + 1 - a)).length = b + 1 - a := by rw [List.length_take, List.length_drop]; omega
      rw [List.getElem?_append_right (by omega), List.getElem?_append_right (by rw [List.length_map]; omega), List.getElem?_append_right (by omega), List.getElem?_append_right (by omega), List.length_map]
  · rcases h with h | h
    · rw [rows]
      by_cases hk : k < R.length
      · rw [List.getElem?_append_left (by rw [List.length_take]; omega), List.getElem?_take_of_lt h]
      · have := rows_length p r m hab R
        rw [rows] at this
        rw [List.getElem?_eq_none (by omega), List.getElem?_eq_none (by omega)]
    · rw [List.getElem?_eq_none (by rw [rows_length p r m hab]; omega), List.getElem?_eq_none (by omega)]
theorem rows_all {P : List UInt8 → Prop} {p r : List UInt8} {m a b : Nat} {R : List (List UInt8)} (h : ∀ x ∈ R, P x) (hs : ∀ x, P x → P (jn r (ps p 0 m x))) : ∀ x ∈ rows p r m a b R, P x := by
  intro x hx
  rw [rows, List.mem_append, List.mem_append, List.mem_map] at hx
  rcases hx with hx | ⟨y, hy, rfl⟩ | hx
  · exact h x (List.mem_of_mem_take hx)
  · exact hs y (h y (List.mem_of_mem_drop (List.mem_of_mem_take hy)))
  · exact h x (List.mem_of_mem_drop hx)
theorem rows_free {p r : List UInt8} (h0 : p ≠ []) (hr : Free r) (m a b : Nat) (s : List UInt8) : ∀ x ∈ rows p r m a b (parts s), Free x := rows_all (parts_free s) fun _ hx => sw_free h0 m hx hr
theorem rows_valid {p r : List UInt8} (h0 : p ≠ []) (hp : valid p = true) (hr : valid r = true) (m a b : Nat) {s : List UInt8} (hs : valid s = true) : ∀ x ∈ rows p r m a b (parts s), valid x = true := rows_all (valid_part hs) fun _ hx => sw_valid h0 hp hr m hx
/-- The lines of what a text becomes. -/
theorem rows_parts {p r : List UInt8} (h0 : p ≠ []) (hr : Free r) (m : Nat) {a b : Nat} (hab : a ≤ b) (s : List UInt8) : parts (glue (rows p r m a b (parts s))) = rows p r m a b (parts s) := by
  refine parts_glue (fun e => ?_) (rows_free h0 hr m a b s)
  have := congrArg List.length e
  rw [rows_length p r m hab, List.length_nil] at this
  exact parts_ne s (List.length_eq_zero_iff.1 this)
theorem glue_len {R : List (List UInt8)} (h : R ≠ []) : (glue R).length + 1 = R.flatten.length + R.length := by
  cases R with
  | nil => exact absurd rfl h
  | cons x q =>
    rw [glue_cons, List.length_append, List.flatten_cons, List.length_append, List.length_cons]
    have : (aft q).length = q.flatten.length + q.length := by
      induction q with
      | nil => rfl
      | cons y q ih => rw [aft_cons, List.length_cons, List.length_append, ih (by simp), List.flatten_cons, List.length_append, List.length_cons]; omega
    omega
theorem mids_len {p : List UInt8} (h0 : p ≠ []) (r : List UInt8) (m : Nat) (Q : List (List UInt8)) : (Q.map (fun l => jn r (ps p 0 m l))).flatten.length + cnt p m Q * p.length = Q.flatten.length + cnt p m Q * r.length := by
  induction Q with
  | nil => simp [cnt]
  | cons x q ih =>
    have := sw_len h0 r m x
    rw [List.map_cons, List.flatten_cons, List.flatten_cons, List.length_append, List.length_append, cnt, List.map_cons, List.sum_cons, Nat.add_mul, Nat.add_mul]
    rw [cnt] at ih
    omega
/-- A text is longer by what was put in, as often as it stood there. -/
theorem rows_len {p : List UInt8} (h0 : p ≠ []) (r : List UInt8) (m : Nat) {a b : Nat} (hab : a ≤ b) (s : List UInt8) :
    (glue (rows p r m a b (parts s))).length + cnt p m (mids a b (parts s)) * p.length = s.length + cnt p m (mids a b (parts s)) * r.length := by
  have hne : rows p r m a b (parts s) ≠ [] := fun e => by
    have := congrArg List.length e
    rw [rows_length p r m hab, List.length_nil] at this
    exact parts_ne s (List.length_eq_zero_iff.1 this)
  have h1 := glue_len hne
  have h2 := glue_len (parts_ne s)
  rw [glue_parts] at h2
  rw [rows_length p r m hab] at h1
  have h3 := mids_len h0 r m (mids a b (parts s))
  have h4 := congrArg (fun R : List (List UInt8) => R.flatten.length) (rows_split (R := parts s) hab)
  simp only [List.flatten_append, List.length_append] at h4
  rw [rows, List.flatten_append, List.flatten_append, List.length_append, List.length_append] at h1
  rw [rows]
  rw [mids] at *
  omega
/-- Of a line of a text: where it stands, and what. -/
theorem row_seg {s : List UInt8} {k : Nat} {x : Nat × Nat} (h : (L s)[k]? = some x) : ∃ r, (parts s)[k]? = some r ∧ Line.seg s x.1 x.2 = r := by
  obtain ⟨r, hr, h1, h2⟩ := L_of h
  refine ⟨r, hr, ?_⟩
  obtain ⟨A, B, C, e1, e2, e3, e4, e5, e6, e7⟩ := three (Nat.le_refl k) h h
  have hB : B = [r] := by
    have e : (parts s)[k]? = B[0]? := by
      have hl : 0 < B.length := List.length_pos_iff.2 e2
      rw [e1, List.getElem?_append_right (by omega), e3, Nat.sub_self, List.getElem?_append_left hl]
    rw [hr] at e
    match B, e4, e with
    | [b], _, e => simp at e; rw [e]
    | [], h, _ => exact absurd rfl e2
    | b :: c :: r, h, _ => simp at h
  rw [Line.seg, take_of (A := fore A ++ glue B) (M := aft C) (by rw [List.append_assoc]; exact e5) (by rw [List.length_append]; exact e7), drop_of rfl e6, hB, glue_one]
/-- Are there lines a to b? -/
def there (s : List UInt8) (a b : Int) : Prop := 0 ≤ a ∧ a ≤ b ∧ b < (L s).length
instance (s : List UInt8) (a b : Int) : Decidable (there s a b) := inferInstanceAs (Decidable (_ ∧ _))
/-- May it stand in a line? -/
def plain (p : List UInt8) : Prop := valid p = true ∧ (10 : UInt8) ∉ p
instance (p : List UInt8) : Decidable (plain p) := inferInstanceAs (Decidable (_ ∧ _))
def range (s : List UInt8) (a b : Int) : Int × Int × Bool := if there s a b then (Line.start s a, Line.stop s b, true) else (0, 0, false)
def count (s : List UInt8) (a b : Int) (p : List UInt8) : Nat := if there s a b ∧ p ≠ [] ∧ plain p then cnt p s.length (mids a.toNat b.toNat (parts s)) else 0
def most (s : List UInt8) (all : Bool) : Nat := if all then s.length else 1
/-- The text, the last line in which something was put, the error. -/
def swap (s : List UInt8) (a b : Int) (p r : List UInt8) (all : Bool) : List UInt8 × Int × Int :=
  if there s a b ∧ p ≠ [] ∧ plain p ∧ plain r then
    if cnt p (most s all) (mids a.toNat b.toNat (parts s)) = 0 then ([], 0, 7)
    else if 4096 < (glue (rows p r (most s all) a.toNat b.toNat (parts s))).length then ([], 0, 8)
    else (glue (rows p r (most s all) a.toNat b.toNat (parts s)),
      Line.first (glue (rows p r (most s all) a.toNat b.toNat (parts s))) (lst p (most s all) a (-1) (mids a.toNat b.toNat (parts s))), 0)
  else ([], 0, 1)
theorem there_valid {s : List UInt8} {a b : Int} (h : there s a b) : valid s = true := by
  obtain ⟨h1, h2, h3⟩ := h
  have : b.toNat < (L s).length := by omega
  exact Line.L_valid (List.getElem?_eq_getElem this)
/-- What must be so where there is no error. -/
structure Fine (s : List UInt8) (a b : Nat) (p r : List UInt8) (m : Nat) (t : List UInt8) (f : Int) : Prop where
  le : a ≤ b
  lt : b < (L s).length
  vs : valid s = true
  p0 : p ≠ []
  pp : plain p
  pr : plain r
  text : t = glue (rows p r m a b (parts s))
  hit : 0 < cnt p m (mids a b (parts s))
  at_ : f = Line.first t (lst p m a (-1) (mids a b (parts s)))
theorem swap_fine {s : List UInt8} {a b : Int} {p r : List UInt8} {all : Bool} {t : List UInt8} {f : Int} (h : swap s a b p r all = (t, f, 0)) :
    ∃ i j : Nat, a = i ∧ b = j ∧ Fine s i j p r (most s all) t f := by
  unfold swap at h
  split at h
  · rename_i hc
    obtain ⟨ht, h0, hp, hr⟩ := hc
    have hv := there_valid ht
    obtain ⟨h1, h2, h3⟩ := ht
    split at h
    · injection h with _ h; injection h with _ h; cases h
    split at h
    · injection h with _ h; injection h with _ h; cases h
    rename_i hk _
    injection h with e1 h
    injection h with e2 _
    refine ⟨a.toNat, b.toNat, by omega, by omega, by omega, by omega, hv, h0, hp, hr, e1.symm, by omega, ?_⟩
    rw [← e2, ← e1, show ((a.toNat : Nat) : Int) = a by omega]
  · injection h with _ h; injection h with _ h; cases h
theorem mids_length {s : List UInt8} {a b : Nat} (hab : a ≤ b) (hb : b < (parts s).length) : (mids a b (parts s)).length = b + 1 - a := by
  rw [mids, List.length_take, List.length_drop]; omega
theorem Fine.valid {s p r t : List UInt8} {a b m : Nat} {f : Int} (F : Fine s a b p r m t f) : Utf.valid t = true := by
  rw [F.text]; exact valid_glue (rows_valid F.p0 F.pp.1 F.pr.1 m a b F.vs)
theorem Fine.parts {s p r t : List UInt8} {a b m : Nat} {f : Int} (F : Fine s a b p r m t f) : parts t = rows p r m a b (parts s) := by
  rw [F.text]; exact rows_parts F.p0 F.pr.2 m F.le s
/-- There are as many lines as before. -/
theorem Fine.count {s p r t : List UInt8} {a b m : Nat} {f : Int} (F : Fine s a b p r m t f) : (L t).length = (L s).length := by
  rw [L_len F.valid, L_len F.vs, F.parts, rows_length p r m F.le]
/-- Those that were not meant are as before. -/
theorem Fine.other {s p r t : List UInt8} {a b m : Nat} {f : Int} (F : Fine s a b p r m t f) {k : Nat} (hk : k < a ∨ b < k) {x : Nat × Nat} (h : (L s)[k]? = some x) :
    ∃ y, (L t)[k]? = some y ∧ Line.seg t y.1 y.2 = Line.seg s x.1 x.2 := by
  have hlt : k < (L t).length := by rw [F.count]; exact (List.getElem?_eq_some_iff.1 h).1
  have hy := List.getElem?_eq_getElem hlt
  refine ⟨_, hy, ?_⟩
  obtain ⟨r1, e1, e2⟩ := row_seg h
  obtain ⟨r2, e3, e4⟩ := row_seg hy
  rw [F.parts, rows_get F.le hk, e1] at e3
  injection e3 with e3
  rw [e2, e4, e3]
theorem Fine.len {s p r t : List UInt8} {a b m : Nat} {f : Int} (F : Fine s a b p r m t f) : t.length + cnt p m (mids a b (Ix.parts s)) * p.length = s.length + cnt p m (mids a b (Ix.parts s)) * r.length := by
  rw [F.text]; exact rows_len F.p0 r m F.le s
/-- Where it is then, is a place in one of the lines. -/
theorem Fine.place {s p r t : List UInt8} {a b m : Nat} {f : Int} (F : Fine s a b p r m t f) : Line.normal t f = true ∧ (a : Int) ≤ Line.of_ t f ∧ Line.of_ t f ≤ b := by
  have hl := mids_length F.le (s := s) (by rw [← L_len F.vs]; exact F.lt)
  rcases lst_some (p := p) (m := m) (Q := mids a b (Ix.parts s)) a (-1) with ⟨_, e⟩ | ⟨h1, h2, _⟩
  · have := F.hit; omega
  · rw [hl] at h2
    obtain ⟨k, hk⟩ : ∃ k : Nat, lst p m a (-1) (mids a b (Ix.parts s)) = k := ⟨(lst p m a (-1) (mids a b (Ix.parts s))).toNat, by omega⟩
    rw [hk] at h1 h2
    have hkl : k < (L t).length := by rw [F.count]; have := F.le; have := F.lt; omega
    obtain ⟨c, e1, e2, e3, e4⟩ := Line.first_ok (List.getElem?_eq_getElem hkl)
    have hf := F.at_
    rw [hk, e1] at hf
    subst hf
    rw [Line.of_at (List.getElem?_eq_getElem hkl) e3 e4]
    exact ⟨e2, h1, by have := F.le; omega⟩
theorem cnt_zero {p : List UInt8} {m : Nat} {Q : List (List UInt8)} : cnt p m Q = 0 ↔ ∀ x ∈ Q, (ps p 0 m x).length - 1 = 0 := by
  rw [cnt, List.sum_eq_zero_iff_forall_eq_nat]
  simp
theorem row_len {s x : List UInt8} (h : x ∈ parts s) : x.length ≤ s.length := by
  have h1 := glue_len (Ix.parts_pos s |> List.length_pos_iff.1)
  rw [glue_parts] at h1
  have h2 : x.length ≤ (parts s).flatten.length := by
    exact (List.sublist_flatten_of_mem h).length_le
  have := Ix.parts_pos s
  omega
/-- No sign, or a sign somewhere. -/
theorem ps_sign {y : UInt8} {n : Nat} (hn : 0 < n) {s : List UInt8} : (ps [y] 0 n s).length - 1 = 0 ↔ y ∉ s := by
  rcases ps_first (p := [y]) (by simp) n s with ⟨e, h⟩ | ⟨_, a, t, e, _, e2⟩
  · rw [e]
    refine ⟨fun _ hy => ?_, fun _ => rfl⟩
    obtain ⟨u, v, rfl⟩ := List.append_of_mem hy
    refine h.resolve_left (by omega) u.length ?_
    rw [List.drop_left]
    exact ⟨v, rfl⟩
  · rw [e2]
    have := List.length_pos_iff.2 (ps_ne [y] 0 (n - 1) t)
    refine ⟨fun h => ?_, fun h => absurd (by rw [e]; simp) h⟩
    rw [List.length_cons] at h; omega
theorem take_of' {s A M : List (List UInt8)} {n : Nat} (h : s = A ++ M) (hn : n = A.length) : s.take n = A := by rw [h, hn, List.take_left]
theorem drop_of' {s A M : List (List UInt8)} {n : Nat} (h : s = A ++ M) (hn : n = A.length) : s.drop n = M := by rw [h, hn, List.drop_left]
theorem rows_back {x y : UInt8} {m n a b : Nat} (hab : a ≤ b) {R : List (List UInt8)} (hb : b < R.length) (hy : ∀ l ∈ mids a b R, y ∉ l) (hn : ∀ l ∈ mids a b R, l.length ≤ n) :
    mids a b (rows [x] [y] m a b R) = (mids a b R).map (fun l => jn [y] (ps [x] 0 m l)) ∧ rows [y] [x] n a b (rows [x] [y] m a b R) = R := by
  have h1 : (R.take a).length = a := by rw [List.length_take]; omega
  have h2 : (mids a b R).length = b + 1 - a := by rw [mids, List.length_take, List.length_drop]; omega
  have e0 : rows [x] [y] m a b R = R.take a ++ ((mids a b R).map (fun l => jn [y] (ps [x] 0 m l)) ++ R.drop (b + 1)) := rfl
  have e1 : mids a b (rows [x] [y] m a b R) = (mids a b R).map (fun l => jn [y] (ps [x] 0 m l)) := by
    rw [e0, mids, drop_of' rfl h1.symm, take_of' rfl (by rw [List.length_map]; exact h2.symm)]
  refine ⟨e1, ?_⟩
  have e2 : (rows [x] [y] m a b R).take a = R.take a := by rw [e0, take_of' rfl h1.symm]
  have e3 : (rows [x] [y] m a b R).drop (b + 1) = R.drop (b + 1) := by
    rw [e0, ← List.append_assoc, drop_of' rfl (by rw [List.length_append, List.length_map]; omega)]
  have e4 : rows [y] [x] n a b (rows [x] [y] m a b R) = (rows [x] [y] m a b R).take a ++ ((mids a b (rows [x] [y] m a b R)).map (fun l => jn [x] (ps [y] 0 n l)) ++ (rows [x] [y] m a b R).drop (b + 1)) := rfl
  rw [e4, e1, e2, e3, List.map_map]
  conv => rhs; rw [rows_split (R := R) hab]
  congr 2
  conv => rhs; rw [← List.map_id (mids a b R)]
  refine List.map_congr_left fun l hl => ?_
  show jn [x] (ps [y] 0 n (jn [y] (ps [x] 0 m l))) = l
  rw [back_one m (hy l hl) (hn l hl), ps_join (by simp)]
theorem plain_sign {b : UInt8} (h : b.toNat < 128) (h10 : b ≠ 10) : plain [b] := ⟨by rw [valid_ascii [] h]; exact valid_nil, by simp [h10.symm]⟩
/-- Where it has an error, nothing is told beside it. -/
theorem swap_err {s : List UInt8} {a b : Int} {p r : List UInt8} {all : Bool} {t : List UInt8} {f e : Int} (h : swap s a b p r all = (t, f, e)) (he : e ≠ 0) :
    t = [] ∧ f = 0 ∧ (e = 1 ∨ (e = 7 ∧ cnt p (most s all) (mids a.toNat b.toNat (parts s)) = 0) ∨ (e = 8 ∧ there s a b ∧ p ≠ [] ∧ plain p ∧ plain r ∧ 4096 < (glue (rows p r (most s all) a.toNat b.toNat (parts s))).length)) := by
  unfold swap at h
  split at h
  · rename_i hc
    split at h
    · rename_i h0
      injection h with e1 h; injection h with e2 e3
      subst e1 e2 e3
      exact ⟨rfl, rfl, .inr (.inl ⟨rfl, h0⟩)⟩
    split at h
    · rename_i h0
      injection h with e1 h; injection h with e2 e3
      subst e1 e2 e3
      exact ⟨rfl, rfl, .inr (.inr ⟨rfl, hc.1, hc.2.1, hc.2.2.1, hc.2.2.2, h0⟩)⟩
    · injection h with e1 h; injection h with e2 e3
      exact absurd e3.symm he
  · injection h with e1 h; injection h with e2 e3
    subst e1 e2 e3
    exact ⟨rfl, rfl, .inl rfl⟩
/-- A sign for a sign: no room is wanted. -/
theorem swap_sign {s : List UInt8} {a b : Int} {x y : UInt8} {all : Bool} {t : List UInt8} {f e : Int} (h : swap s a b [x] [y] all = (t, f, e)) (hs : s.length ≤ 4096) : e = 0 ∨ e = 1 ∨ e = 7 := by
  by_cases he : e = 0
  · exact .inl he
  · obtain ⟨_, _, h1 | h1 | ⟨_, ht, _, _, _, h8⟩⟩ := swap_err h he
    · exact .inr (.inl h1)
    · exact .inr (.inr h1.1)
    · have hab : a.toNat ≤ b.toNat := by have := ht.2.1; omega
      have := rows_len (p := [x]) (by simp) [y] (most s all) hab s
      simp only [List.length_cons, List.length_nil] at this
      omega
/-- What is put in the place of a sign, where it stood nowhere, is put back. -/
theorem swap_back {s : List UInt8} {a b : Int} {x y : UInt8} {all : Bool} {t : List UInt8} {f : Int} (h : swap s a b [x] [y] all = (t, f, 0)) (hc : count s a b [y] = 0) (hs : s.length ≤ 4096) :
    ∃ g, swap t a b [y] [x] true = (s, g, 0) := by
  obtain ⟨i, j, rfl, rfl, F⟩ := swap_fine h
  have hlt := F.lt
  have hle := F.le
  have hth : there s (i : Int) (j : Int) := ⟨by omega, by omega, by omega⟩
  have hb : j < (parts s).length := by rw [← L_len F.vs]; exact F.lt
  have hs0 : 0 < s.length := by
    rcases Nat.eq_zero_or_pos s.length with h0 | h0
    · have h1 := F.hit
      obtain rfl : s = [] := List.length_eq_zero_iff.1 h0
      have h2 : cnt [x] (most [] all) (mids i j (parts [])) = 0 := cnt_zero.2 fun l hl => by
        have h3 := row_len (List.mem_of_mem_drop (List.mem_of_mem_take hl))
        obtain rfl : l = [] := List.length_eq_zero_iff.1 (by simpa using h3)
        rfl
      omega
    · exact h0
  rw [count, if_pos ⟨hth, by simp, F.pr⟩, Int.toNat_natCast, Int.toNat_natCast, cnt_zero] at hc
  have hy : ∀ l ∈ mids i j (parts s), y ∉ l := fun l hl => (ps_sign hs0).1 (hc l hl)
  have hlen : t.length = s.length := by
    have := F.len
    simp only [List.length_cons, List.length_nil] at this
    omega
  obtain ⟨e1, e2⟩ := rows_back (x := x) (y := y) (m := most s all) (n := t.length) F.le hb hy (fun l hl => by rw [hlen]; exact row_len (List.mem_of_mem_drop (List.mem_of_mem_take hl)))
  have ec : cnt [y] t.length (mids i j (parts t)) = cnt [x] (most s all) (mids i j (parts s)) := by
    rw [F.parts, e1, cnt, cnt, List.map_map]
    congr 1
    refine List.map_congr_left fun l hl => ?_
    show (ps [y] 0 t.length (jn [y] (ps [x] 0 (most s all) l))).length - 1 = _
    rw [back_one _ (hy l hl) (by rw [hlen]; exact row_len (List.mem_of_mem_drop (List.mem_of_mem_take hl)))]
  have eg : glue (rows [y] [x] t.length i j (parts t)) = s := by rw [F.parts, e2, glue_parts]
  have hm : most t true = t.length := rfl
  have hhit := F.hit
  rw [swap, if_pos ⟨⟨by omega, by omega, by rw [F.count]; omega⟩, by simp, F.pr, F.pp⟩, hm, Int.toNat_natCast, Int.toNat_natCast, if_neg (by rw [ec]; omega), eg, if_neg (by omega)]
  exact ⟨_, rfl⟩
/-- What there is of lines where there is an error. -/
theorem swap_none {s : List UInt8} {a b : Int} {p r : List UInt8} {t : List UInt8} {f : Int} (h : swap s a b p r true = (t, f, 7)) : count s a b p = 0 := by
  obtain ⟨_, _, h1 | ⟨_, h1⟩ | ⟨h1, _⟩⟩ := swap_err h (by decide)
  · cases h1
  · rw [count]
    split
    · exact h1
    · rfl
  · cases h1
theorem count_fine {s p r t : List UInt8} {a b : Nat} {f : Int} (F : Fine s a b p r (most s true) t f) : count s (a : Int) (b : Int) p = cnt p (most s true) (mids a b (parts s)) := by
  have h1 := F.le
  have h2 := F.lt
  rw [count, if_pos ⟨⟨by omega, by omega, by omega⟩, F.p0, F.pp⟩, Int.toNat_natCast, Int.toNat_natCast]
  rfl
end Sb
end Go.Proofs.YtlfhfpjffdaomaaDoor
