/-
  A node more and the texts, without a program.
-/
import Derived.Test.YtffihchkmcddeaaTreeTextsPlain
import Derived.Test.YtffihchkmcddeaaTreeBackPlain
import Derived.Test.YtffihchkmcddeaaDiffs
namespace Go.Proofs.Ytffihchkmcddeaa
open Go.RowKit
open Utf Chg Tre
theorem data_bs (b : List UInt8) : (bs b).data.toList = b := bs_toList b
theorem does_hit {t : List UInt8} {k : Cg} {u : List UInt8} {i : Nat} (hi : k.at_ = i) (hf : fits t k.at_ k.old.data.toList k.new.data.toList = true) (hm : make t i k.old.data.toList k.new.data.toList = u) (hu : u.length ≤ 4096) : does [k] t = (u, 0) := by
  rw [does, if_pos hf, show k.at_.toNat = i by omega, hm, if_neg (by omega)]
  rfl
/-- What makes one text of another one, turned, leads back. -/
theorem diff_turn {x y u : List UInt8} (hl : x.length ≤ 4096) (h : does [⟨(dAt x y : Nat), bs (dOld x y), bs (dOld y x)⟩] x = (u, 0)) : does [⟨(dAt x y : Nat), bs (dOld y x), bs (dOld x y)⟩] u = (x, 0) := by
  cases hx : dec x with
  | none =>
    have hf : fits x (dAt x y : Nat) (dOld x y) (dOld y x) = false := by rw [fits, place_valid_of (valid_bad hx)]; rfl
    rw [does, if_neg (by simp only [data_bs]; rw [hf]; exact Bool.false_ne_true)] at h
    injection h with _ h
    exact absurd h (by decide)
  | some rs =>
    cases hy : dec y with
    | none =>
      have e1 := dAt_none (a := x) (b := y) (Or.inr (Or.inr hy))
      have e2 := dOld_none (a := x) (b := y) (Or.inr (Or.inr hy))
      have e3 := dOld_none (a := y) (b := x) (Or.inr (Or.inl hy))
      rw [e1, e2, e3] at h ⊢
      have hm : make x 0 [] [] = x := by simp [make]
      unfold does at h
      split at h
      · rename_i hf
        rw [show ((0 : Nat) : Int).toNat = 0 from rfl, data_bs, hm, if_neg (by omega)] at h
        have hu : x = u := by injection h
        subst hu
        exact does_hit (i := 0) rfl hf (by simp only [data_bs]; exact hm) hl
      · injection h with _ h
        exact absurd h (by decide)
    | some ss =>
      have vx := valid_ok hx
      have vy := valid_ok hy
      obtain ⟨f1, m1⟩ := diff_fits vx vy
      obtain ⟨f2, m2⟩ := diff_fits vy vx
      have hu : u = y := by
        unfold does at h
        rw [if_pos (by simp only [data_bs]; exact f1)] at h
        simp only [data_bs, Int.toNat_natCast] at h
        rw [m1] at h
        split at h
        · injection h with _ h
          exact absurd h (by decide)
        · injection h with h
          exact h.symm
      subst hu
      rw [← dAt_comm] at f2 m2
      exact does_hit (i := dAt x u) rfl (by simp only [data_bs]; exact f2) (by simp only [data_bs]; exact m2) hl
namespace Tre
variable {l : List Nd} {X : Nd} {m : Nat}
theorem added_eq (hX : X.up = (m : Nat)) : added l X = setNext (l ++ [X]) m (l.length : Nat) := by
  rw [added, choose, abv_of (x := X) (by rw [List.getElem?_append_right (Nat.le_refl _), Nat.sub_self]; rfl) hX]
theorem added_alike (l : List Nd) (X : Nd) : Tre.Alike (l ++ [X]) (added l X) := alike_choose _ _
theorem added_get (l : List Nd) (X : Nd) {k : Nat} {x : Nd} (h : l[k]? = some x) : ∃ n, (added l X)[k]? = some { x with next := n } :=
  (added_alike l X).2 k x (by rw [List.getElem?_append_left (List.getElem?_eq_some_iff.1 h).1]; exact h)
theorem added_last (l : List Nd) (X : Nd) : ∃ n, (added l X)[l.length]? = some { X with next := n } :=
  (added_alike l X).2 l.length X (by rw [List.getElem?_append_right (Nat.le_refl _), Nat.sub_self]; rfl)
theorem added_abv (l : List Nd) (X : Nd) {k : Nat} (h : k < l.length) : abv (added l X) k = abv l k := by
  rw [(added_alike l X).abv]
  unfold abv
  rw [List.getElem?_append_left h]
theorem added_abv_last (hX : X.up = (m : Nat)) : abv (added l X) l.length = m := by
  rw [(added_alike l X).abv]
  exact abv_of (x := X) (by rw [List.getElem?_append_right (Nat.le_refl _), Nat.sub_self]; rfl) hX
theorem added_on (hU : Ups l l.length) (X : Nd) {j : Nat} : ∀ {k : Nat}, k < l.length → on (added l X) j k = on l j k := by
  intro k
  induction k using Nat.strongRecOn with
  | ind k ih =>
    intro hk
    rcases Nat.lt_or_ge j k with h | h
    · have ha := hU.abv_lt (by omega) hk
      rw [on_up h (by rw [added_abv l X hk]; exact ha), on_up h ha, added_abv l X hk]
      exact ih _ ha (by omega)
    · rw [on, dif_neg (by omega), on, dif_neg (by omega)]
theorem added_on_last (hU : Ups l l.length) (hX : X.up = (m : Nat)) (hm : m < l.length) {j : Nat} (hj : j < l.length) : on (added l X) j l.length = on l j m := by
  rw [on_up hj (by rw [added_abv_last hX]; exact hm), added_abv_last hX, added_on hU X hm]
theorem added_right {cur : Int} (h : Right l cur) (hX : X.up = (m : Nat)) (hm : m < l.length) (hn : X.next = -1) (hb : 0 ≤ X.before) (ha : 0 ≤ X.after) (hl : l.length < 1024) : Right (added l X) (l.length : Nat) := by
  have hL := added_length l X
  have al := added_alike l X
  have hU : Ups (l ++ [X]) (l ++ [X]).length := fun k hk x hx => by
    rcases Nat.lt_or_ge k l.length with hlt | hge
    · rw [List.getElem?_append_left hlt] at hx
      exact h.ups k hlt x hx
    · have : k = l.length := by simp at hk; omega
      subst this
      rw [List.getElem?_append_right (Nat.le_refl _), Nat.sub_self] at hx
      simp only [List.getElem?_cons_zero, Option.some.injEq] at hx
      subst hx
      exact (upOk_pos (by have := h.one; omega)).2 ⟨by omega, by omega, hb, ha⟩
  have hk : ∀ j : Nat, kid (added l X) j = (kid l j || decide (j = m)) := fun j => by
    rw [al.kid]
    unfold kid
    rw [List.any_append]
    congr 1
    simp only [List.any_cons, List.any_nil, Bool.or_false, hX]
    rw [Bool.eq_iff_iff]
    simp
    omega
  refine ⟨by omega, by omega, by omega, by omega, al.ups hU, fun j hj y hy => ?_⟩
  rw [added_eq hX, setNext_get] at hy
  unfold NextOk
  rw [hk, hL]
  rcases Nat.lt_or_ge j l.length with hlt | hge
  · obtain ⟨z, hz⟩ : ∃ z, l[j]? = some z := ⟨_, List.getElem?_eq_getElem hlt⟩
    rw [List.getElem?_append_left hlt, hz, Option.map_some] at hy
    injection hy with hy
    by_cases e : j = m
    · rw [if_pos e] at hy
      subst hy
      rw [if_pos (by simp [e])]
      refine ⟨by show (0 : Int) ≤ (l.length : Nat); omega, by show ((l.length : Nat) : Int) < _; omega, ?_⟩
      show ((added l X)[((l.length : Nat) : Int).toNat]?.map (·.up)) = _
      rw [Int.toNat_natCast, al.up, List.getElem?_append_right (Nat.le_refl _), Nat.sub_self]
      simp [hX, e]
    · rw [if_neg e] at hy
      subst hy
      have := h.nexts j hlt z hz
      unfold NextOk at this
      rw [decide_eq_false e, Bool.or_false]
      by_cases c : kid l j = true
      · rw [if_pos c] at this ⊢
        obtain ⟨a1, a2, a3⟩ := this
        refine ⟨a1, by omega, ?_⟩
        rw [al.up, List.getElem?_append_left (by omega)]
        exact a3
      · rw [if_neg c] at this ⊢
        exact this
  · have : j = l.length := by omega
    subst this
    rw [List.getElem?_append_right (Nat.le_refl _), Nat.sub_self] at hy
    simp only [List.getElem?_cons_zero, Option.map_some, Option.some.injEq] at hy
    rw [if_neg (by omega)] at hy
    subst hy
    have hkn : kid l l.length = false := by
      rw [Bool.eq_false_iff]
      intro c
      unfold kid at c
      rw [List.any_eq_true] at c
      obtain ⟨x, hx, hu⟩ := c
      obtain ⟨i, hi, rfl⟩ := List.getElem_of_mem hx
      have hxi := List.getElem?_eq_getElem hi
      rw [beq_iff_eq] at hu
      rcases Nat.eq_zero_or_pos i with h0 | h0
      · subst h0
        have := (h.ups 0 hi _ hxi).zero.1
        omega
      · obtain ⟨u, hu2, hlt⟩ := h.ups.up hxi h0
        omega
    rw [hkn, decide_eq_false (by omega), Bool.or_false, if_neg Bool.false_ne_true]
    exact hn
/-- The texts on the way up, with a node more. -/
theorem upT_more (hU : Ups l l.length) (X : Nd) : ∀ {k : Nat} {T T' : Nat → List UInt8}, k < l.length → (∀ j, j < l.length → T' j = T j) →
    (upT (added l X) T' k).2 = (upT l T k).2 ∧ (∀ j, j < l.length → (upT (added l X) T' k).1 j = (upT l T k).1 j) ∧ (upT (added l X) T' k).1 l.length = T' l.length := by
  intro k
  induction k using Nat.strongRecOn with
  | ind k ih =>
    intro T T' hk hT
    rcases Nat.eq_zero_or_pos k with h0 | h0
    · subst h0
      rw [upT_zero, upT_zero]
      exact ⟨rfl, hT, rfl⟩
    · obtain ⟨x, hx⟩ : ∃ x, l[k]? = some x := ⟨_, List.getElem?_eq_getElem hk⟩
      obtain ⟨n, hx2⟩ := added_get l X hx
      have ha := hU.abv_lt h0 hk
      have ha2 : abv (added l X) k < k := by rw [added_abv l X hk]; exact ha
      have et : turned { x with next := n } = turned x := rfl
      by_cases hr : (does [turned x] (T k)).2 = 0
      · rw [upT_ok hx h0 ha hr, upT_ok hx2 h0 ha2 (by rw [et, hT k hk]; exact hr), added_abv l X hk, et, hT k hk]
        have hv : ∀ j, j < l.length → upd T' (abv l k) (does [turned x] (T k)).1 j = upd T (abv l k) (does [turned x] (T k)).1 j := fun j hj => by
          show (if j = abv l k then _ else T' j) = (if j = abv l k then _ else T j)
          rw [hT j hj]
        obtain ⟨h1, h2, h3⟩ := ih _ ha (by omega) hv
        refine ⟨h1, h2, ?_⟩
        rw [h3]
        show (if l.length = abv l k then _ else T' l.length) = _
        rw [if_neg (by omega)]
      · rw [upT_bad hx h0 ha hr, upT_bad hx2 h0 ha2 (by rw [et, hT k hk]; exact hr), et, hT k hk]
        exact ⟨rfl, hT, rfl⟩
theorem upT_keep (hU : Ups l l.length) : ∀ {k : Nat} {T : Nat → List UInt8}, k < l.length → ∀ j, k ≤ j → (upT l T k).1 j = T j := by
  intro k
  induction k using Nat.strongRecOn with
  | ind k ih =>
    intro T hk j hj
    rcases Nat.eq_zero_or_pos k with h0 | h0
    · subst h0; rw [upT_zero]
    · obtain ⟨x, hx⟩ : ∃ x, l[k]? = some x := ⟨_, List.getElem?_eq_getElem hk⟩
      have ha := hU.abv_lt h0 hk
      by_cases hr : (does [turned x] (T k)).2 = 0
      · rw [upT_ok hx h0 ha hr, ih _ ha (by omega) j (by omega)]
        show (if j = abv l k then _ else T j) = _
        rw [if_neg (by omega)]
      · rw [upT_bad hx h0 ha hr]
theorem dnT_keep (l : List Nd) (c : Nat) {j : Nat} (hj : on l j c = true) : ∀ (r : List Nat) (T : Nat → List UInt8), (dnT l c r T).1 j = T j
  | [], _ => rfl
  | k :: r, T => by
    unfold dnT
    split
    · exact dnT_keep l c hj r T
    · rename_i hk
      split
      · split
        · rw [dnT_keep l c hj r _]
          show (if j = k then _ else T j) = _
          rw [if_neg (fun e => hk (by rw [← e]; exact hj))]
        · rfl
      · rfl
theorem cons_on {c k : Nat} {r : List Nat} {T : Nat → List UInt8} (ho : on l k c = true) : dnT l c (k :: r) T = dnT l c r T := by
  show (if _ then _ else _) = _
  rw [if_pos ho]
theorem cons_off {c k : Nat} {r : List Nat} {T : Nat → List UInt8} {x : Nd} (ho : ¬ on l k c = true) (hx : l[k]? = some x) : dnT l c (k :: r) T = if (does [made x] (T (abv l k))).2 = 0 then dnT l c r (upd T k (does [made x] (T (abv l k))).1) else (T, (does [made x] (T (abv l k))).2) := by
  show (if _ then _ else _) = _
  rw [if_neg ho, hx]
theorem dnT_append (l : List Nd) (c : Nat) (s : List Nat) : ∀ (r : List Nat) (T : Nat → List UInt8), (∀ k ∈ r, k < l.length) → (dnT l c r T).2 = 0 → dnT l c (r ++ s) T = dnT l c s (dnT l c r T).1
  | [], _, _, _ => rfl
  | k :: r, T, hk, h => by
    have hr : ∀ i ∈ r, i < l.length := fun i hi => hk i (by simp [hi])
    obtain ⟨x, hx⟩ : ∃ x, l[k]? = some x := ⟨_, List.getElem?_eq_getElem (hk k (by simp))⟩
    rw [List.cons_append]
    by_cases ho : on l k c = true
    · rw [cons_on ho] at h ⊢
      rw [cons_on ho]
      exact dnT_append l c s r T hr h
    · rw [cons_off ho hx] at h ⊢
      rw [cons_off ho hx]
      by_cases e : (does [made x] (T (abv l k))).2 = 0
      · rw [if_pos e] at h ⊢
        rw [if_pos e]
        exact dnT_append l c s r _ hr h
      · rw [if_neg e] at h
        exact absurd h e
theorem dnT_more (hU : Ups l l.length) (hX : X.up = (m : Nat)) (hm : m < l.length) : ∀ (r : List Nat) {T T' : Nat → List UInt8}, (∀ k ∈ r, k < l.length) → (∀ j, j < l.length → T' j = T j) →
    (dnT (added l X) l.length r T').2 = (dnT l m r T).2 ∧ (∀ j, j < l.length → (dnT (added l X) l.length r T').1 j = (dnT l m r T).1 j) ∧ (dnT (added l X) l.length r T').1 l.length = T' l.length
  | [], _, _, _, hT => ⟨rfl, hT, rfl⟩
  | k :: r, T, T', hr, hT => by
    have hk := hr k (by simp)
    have hr' : ∀ i ∈ r, i < l.length := fun i hi => hr i (by simp [hi])
    obtain ⟨x, hx⟩ : ∃ x, l[k]? = some x := ⟨_, List.getElem?_eq_getElem hk⟩
    obtain ⟨n, hx2⟩ := added_get l X hx
    unfold dnT
    rw [added_on_last hU hX hm hk]
    by_cases ho : on l k m = true
    · rw [if_pos ho, if_pos ho]
      exact dnT_more hU hX hm r hr' hT
    · rw [if_neg ho, if_neg ho, hx, hx2]
      have hk0 : 0 < k := by
        rcases Nat.eq_zero_or_pos k with e | e
        · subst e; exact absurd (on_base hU hm) ho
        · exact e
      have ha := hU.abv_lt hk0 hk
      have et : made { x with next := n } = made x := rfl
      simp only [et, added_abv l X hk, hT (abv l k) (by omega)]
      by_cases e : (does [made x] (T (abv l k))).2 = 0
      · rw [if_pos e, if_pos e]
        have hv : ∀ j, j < l.length → upd T' k (does [made x] (T (abv l k))).1 j = upd T k (does [made x] (T (abv l k))).1 j := fun j hj => by
          show (if j = k then _ else T' j) = (if j = k then _ else T j)
          rw [hT j hj]
        obtain ⟨h1, h2, h3⟩ := dnT_more hU hX hm r hr' hv
        refine ⟨h1, h2, ?_⟩
        rw [h3]
        show (if l.length = k then _ else T' l.length) = _
        rw [if_neg (by omega)]
      · rw [if_neg e, if_neg e]
        exact ⟨rfl, hT, rfl⟩
/-- The texts with a node more: the same, and the new one. -/
theorem texts_more {cur : Int} {x u : List UInt8} {ts : List (List UInt8)} (h : texts l cur x = (ts, 0)) (hX : X.up = cur) (hn : X.next = -1) (hb : 0 ≤ X.before) (ha : 0 ≤ X.after) (hl : l.length < 1024) (hd : does [turned X] u = (x, 0)) :
    Right l cur ∧ ts.length = l.length ∧ ts[cur.toNat]? = some x ∧ Right (added l X) (l.length : Nat) ∧ texts (added l X) (l.length : Nat) u = (ts ++ [u], 0) := by
  have hR : Right l cur := Classical.byContradiction fun hR => by
    rw [texts, if_pos hR] at h
    injection h with _ h
    exact absurd h (by decide)
  obtain ⟨m, rfl⟩ : ∃ m : Nat, cur = m := ⟨cur.toNat, by have := hR.low; omega⟩
  have hm : m < l.length := by have := hR.high; omega
  have hR2 := added_right hR hX hm hn hb ha hl
  rw [texts, if_neg (fun c => c hR), Int.toNat_natCast] at h
  obtain ⟨T0, hT0⟩ : ∃ T0, upd (fun _ => []) m x = T0 := ⟨_, rfl⟩
  rw [hT0] at h
  by_cases e1 : (upT l T0 m).2 = 0
  · rw [if_pos e1] at h
    by_cases e2 : (dnT l m (List.range l.length) (upT l T0 m).1).2 = 0
    · rw [if_pos e2] at h
      injection h with h _
      have hlen : ts.length = l.length := by rw [← h]; simp
      have hTm : (dnT l m (List.range l.length) (upT l T0 m).1).1 m = x := by
        rw [dnT_keep l m (on_self l m), upT_keep hR.ups hm m (Nat.le_refl _), ← hT0]
        show (if m = m then x else []) = x
        rw [if_pos rfl]
      refine ⟨hR, hlen, ?_, hR2, ?_⟩
      · rw [Int.toNat_natCast, ← h, List.getElem?_map, List.getElem?_range hm, Option.map_some, hTm]
      · rw [texts, if_neg (fun c => c hR2), Int.toNat_natCast]
        obtain ⟨n, hxl⟩ := added_last l X
        have hal : abv (added l X) l.length = m := added_abv_last hX
        have et : turned { X with next := n } = turned X := rfl
        have hTn : upd (fun _ => []) l.length u l.length = u := by show (if l.length = l.length then u else []) = u; rw [if_pos rfl]
        have hu1 : upT (added l X) (upd (fun _ => []) l.length u) l.length = upT (added l X) (upd (upd (fun _ => []) l.length u) m x) m := by
          rw [upT_ok hxl (by omega) (by rw [hal]; exact hm) (by rw [et, hTn, hd]), hal, et, hTn, hd]
        rw [hu1]
        have hv : ∀ j, j < l.length → upd (upd (fun _ => []) l.length u) m x j = T0 j := fun j hj => by
          rw [← hT0]
          show (if j = m then x else if j = l.length then u else []) = if j = m then x else []
          rw [show (if j = l.length then u else ([] : List UInt8)) = [] from if_neg (by omega)]
        obtain ⟨a1, a2, a3⟩ := upT_more hR.ups X hm hv
        rw [if_pos (by rw [a1]; exact e1)]
        obtain ⟨b1, b2, b3⟩ := dnT_more hR.ups hX hm (List.range l.length) (fun k hk => by simpa using hk) a2
        have hdn : dnT (added l X) l.length (List.range (added l X).length) (upT (added l X) (upd (upd (fun _ => []) l.length u) m x) m).1 = ((dnT (added l X) l.length (List.range l.length) (upT (added l X) (upd (upd (fun _ => []) l.length u) m x) m).1).1, 0) := by
          have hkl : ∀ k ∈ List.range l.length, k < (added l X).length := fun k hk => by
            have : k < l.length := by simpa using hk
            rw [added_length]; omega
          rw [show List.range (added l X).length = List.range l.length ++ [l.length] by rw [added_length, List.range_succ], dnT_append _ _ _ _ _ hkl (by rw [b1]; exact e2), cons_on (on_self _ _)]
          rfl
        rw [hdn]
        simp only [if_true]
        rw [added_length, List.range_succ, List.map_append, ← h]
        congr 2
        · exact List.map_congr_left fun j hj => b2 j (by simpa using hj)
        · show [_] = [u]
          rw [b3, a3]
          show [if l.length = m then x else if l.length = l.length then u else []] = [u]
          rw [if_neg (by omega), if_pos rfl]
    · rw [if_neg e2] at h
      injection h with _ h
      exact absurd h e2
  · rw [if_neg e1] at h
    injection h with _ h
    exact absurd h e1
end Tre
end Go.Proofs.Ytffihchkmcddeaa
