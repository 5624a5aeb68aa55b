/-
  There and back in a tree, without a program.
-/
import Derived.Test.YtffihchkmcddeaaTreeOn
namespace Go.Proofs.Ytffihchkmcddeaa
open Go.RowKit
open Tre
namespace Tre
variable {l m : List Nd} {cur : Int} {k q : Nat}
theorem Alike.kid (h : Tre.Alike l m) (j : Nat) : kid m j = kid l j := by
  have key : ∀ {a b : List Nd}, Tre.Alike a b → Tre.kid a j = true → Tre.kid b j = true := fun {a b} h ha => by
    unfold Tre.kid at ha ⊢
    rw [List.any_eq_true] at ha ⊢
    obtain ⟨x, hx, hu⟩ := ha
    obtain ⟨i, hi, rfl⟩ := List.getElem_of_mem hx
    obtain ⟨n, h2⟩ := h.2 i _ (List.getElem?_eq_getElem hi)
    exact ⟨_, List.mem_of_getElem? h2, hu⟩
  have back : Tre.Alike m l := ⟨h.1.symm, fun j x hx => by
    obtain ⟨y, hy⟩ : ∃ y, l[j]? = some y := ⟨_, List.getElem?_eq_getElem (by rw [h.1]; exact (List.getElem?_eq_some_iff.1 hx).1)⟩
    obtain ⟨n, h2⟩ := h.2 j y hy
    rw [hx] at h2
    injection h2 with h2
    subst h2
    exact ⟨y.next, hy⟩⟩
  rw [Bool.eq_iff_iff]
  exact ⟨key back, key h⟩
theorem Alike.ups (h : Tre.Alike l m) (hU : Ups l l.length) : Ups m m.length := fun j hj y hy => by
  obtain ⟨x, hx⟩ : ∃ x, l[j]? = some x := ⟨_, List.getElem?_eq_getElem (by rw [h.1]; exact hj)⟩
  obtain ⟨n, h2⟩ := h.2 j x hx
  rw [hy] at h2
  injection h2 with h2
  have := hU j (by rw [h.1]; exact hj) x hx
  subst h2
  exact this
theorem Alike.up (h : Tre.Alike l m) (j : Nat) : (m[j]?.map (·.up)) = (l[j]?.map (·.up)) := by
  cases hj : l[j]? with
  | none =>
    have : m[j]? = none := by rw [List.getElem?_eq_none_iff] at hj ⊢; rw [← h.1]; exact hj
    rw [this]
  | some x =>
    obtain ⟨n, h2⟩ := h.2 j x hj
    rw [h2]; rfl
theorem kid_of {x : Nd} {j : Nat} (h : l[k]? = some x) (hu : x.up = (j : Int)) : kid l j = true := by
  unfold kid
  rw [List.any_eq_true]
  exact ⟨x, List.mem_of_getElem? h, by rw [hu]; simp⟩
theorem right_choose (h : Right l cur) (h0 : 0 < k) (hk : k < l.length) : Right (choose l k) cur := by
  have ha := alike_choose l k
  obtain ⟨x, hx⟩ : ∃ x, l[k]? = some x := ⟨_, List.getElem?_eq_getElem hk⟩
  have hu := h.ups.abv_up hx h0
  refine ⟨by rw [← ha.1]; exact h.one, by rw [← ha.1]; exact h.few, h.low, by rw [← ha.1]; exact h.high, ha.ups h.ups, fun j hj y hy => ?_⟩
  unfold choose at hy
  rw [setNext_get] at hy
  obtain ⟨z, hz⟩ : ∃ z, l[j]? = some z := ⟨_, List.getElem?_eq_getElem (by rw [ha.1]; exact hj)⟩
  rw [hz, Option.map_some] at hy
  injection hy with hy
  unfold NextOk
  rw [ha.kid, ← ha.1]
  by_cases e : j = abv l k
  · rw [if_pos e] at hy
    subst hy
    rw [if_pos (kid_of hx (by rw [hu, e]))]
    refine ⟨by show (0 : Int) ≤ (k : Nat); omega, by show ((k : Nat) : Int) < _; omega, ?_⟩
    show ((choose l k)[((k : Nat) : Int).toNat]?.map (·.up)) = _
    rw [Int.toNat_natCast, ha.up, hx, Option.map_some, hu, e]
  · rw [if_neg e] at hy
    subst hy
    have := h.nexts j (by rw [ha.1]; exact hj) z hz
    unfold NextOk at this
    by_cases c : kid l j = true
    · rw [if_pos c] at this ⊢
      exact ⟨this.1, this.2.1, by rw [ha.up]; exact this.2.2⟩
    · rw [if_neg c] at this ⊢
      exact this
theorem right_chosen : ∀ {ns : List Nat} {l : List Nd}, Right l cur → (∀ n ∈ ns, 0 < n ∧ n < l.length) → Right (chosen l ns) cur
  | [], _, h, _ => h
  | n :: r, l, h, hn => right_chosen (ns := r) (right_choose h (hn n (by simp)).1 (hn n (by simp)).2) fun i hi => by rw [choose_length]; exact hn i (by simp [hi])
theorem Right.goto (h : Right l cur) (hq : q < l.length) : Right l (q : Int) := ⟨h.one, h.few, by omega, by omega, h.ups, h.nexts⟩
theorem nxt_setNext (m : List Nd) {i : Nat} (n : Int) (hi : i < m.length) : nxt (setNext m i n) i = n := by
  obtain ⟨x, hx⟩ : ∃ x, m[i]? = some x := ⟨_, List.getElem?_eq_getElem hi⟩
  unfold nxt
  rw [setNext_get, hx, Option.map_some, if_pos rfl]
theorem nxt_other (m : List Nd) {i j : Nat} (n : Int) (h : j ≠ i) : nxt (setNext m i n) j = nxt m j := by
  unfold nxt
  rw [setNext_get]
  cases m[j]? with
  | none => rfl
  | some x => rw [Option.map_some, if_neg h]
theorem chosenBy_len (u : Nat → Nat) : ∀ (ns : List Nat) (m : List Nd), (chosenBy u m ns).length = m.length
  | [], _ => rfl
  | n :: r, m => by show (chosenBy u (setNext m (u n) n) r).length = _; rw [chosenBy_len u r, setNext_length]
theorem nxt_far (u : Nat → Nat) (j : Nat) : ∀ (ns : List Nat) (m : List Nd), (∀ i ∈ ns, u i ≠ j) → nxt (chosenBy u m ns) j = nxt m j
  | [], _, _ => rfl
  | n :: r, m, h => by
    show nxt (chosenBy u (setNext m (u n) n) r) j = _
    rw [nxt_far u j r _ (fun i hi => h i (by simp [hi])), nxt_other _ _ (fun e => h n (by simp) e.symm)]
theorem nxt_hit (u : Nat → Nat) (p : Nat) : ∀ (ns : List Nat) (m : List Nd), p ∈ ns → (∀ i ∈ ns, u i = u p → i = p) → u p < m.length → nxt (chosenBy u m ns) (u p) = (p : Int)
  | [], _, h, _, _ => by simp at h
  | n :: r, m, h, hd, hl => by
    show nxt (chosenBy u (setNext m (u n) n) r) (u p) = _
    by_cases e : p ∈ r
    · exact nxt_hit u p r _ e (fun i hi => hd i (by simp [hi])) (by rw [setNext_length]; exact hl)
    · have hp : p = n := by rcases List.mem_cons.1 h with h | h; exact h; exact absurd h e
      subst hp
      rw [nxt_far u (u p) r _ (fun i hi h2 => e (by rw [← hd i (by simp [hi]) h2]; exact hi)), nxt_setNext _ _ hl]
/-- On the way to k: the next one. -/
theorem way_next (hU : Ups l l.length) : ∀ {k : Nat}, k < l.length → on l q k = true → q ≠ k → ∃ p, on l p k = true ∧ abv l p = q ∧ q < p ∧ p < l.length := by
  intro k
  induction k using Nat.strongRecOn with
  | ind k ih =>
    intro hk ho hne
    have hqk := on_le ho
    have ha := hU.abv_lt (k := k) (by omega) hk
    rw [on_up (by omega) ha] at ho
    by_cases e : q = abv l k
    · exact ⟨k, on_self l k, e.symm, by omega, hk⟩
    · obtain ⟨p, h1, h2, h3, h4⟩ := ih _ ha (by omega) ho e
      have := on_le h1
      exact ⟨p, by rw [on_up (by omega) ha]; exact h1, h2, h3, h4⟩
/-- The nodes on the way to k, each the Next of the one ahead. -/
def went (l : List Nd) (k : Nat) : List Nd := chosen l (way l l.length k)
theorem went_len (l : List Nd) (k : Nat) : (went l k).length = l.length := chosen_length _ _
theorem went_alike (l : List Nd) (k : Nat) : Tre.Alike l (went l k) := alike_chosen _ _
theorem went_right (h : Right l cur) (hk : k < l.length) : Right (went l k) (k : Int) :=
  right_chosen (h.goto hk) fun n hn => by obtain ⟨a, b, _⟩ := way_mem hn; exact ⟨b, a⟩
theorem way_in {i : Nat} (h1 : i < l.length) (h2 : 0 < i) (h3 : on l i k = true) : i ∈ way l l.length k := by
  unfold way
  rw [List.mem_filter]
  exact ⟨by simpa using h1, by rw [h3, decide_eq_true h2]; rfl⟩
theorem went_next (hU : Ups l l.length) (hk : k < l.length) (ho : on l q k = true) (hne : q ≠ k) : ∃ p, on l p k = true ∧ abv l p = q ∧ q < p ∧ p < l.length ∧ nxt (went l k) q = (p : Int) := by
  obtain ⟨p, h1, h2, h3, h4⟩ := way_next hU hk ho hne
  refine ⟨p, h1, h2, h3, h4, ?_⟩
  have hp : p ∈ way l l.length k := way_in h4 (by omega) h1
  unfold went
  rw [chosen_by l _ _ (Tre.Alike.refl l), ← h2]
  refine nxt_hit (abv l) p _ _ hp (fun i hi e => ?_) (by omega)
  rcases Nat.decEq i p with c | c
  · exact absurd e (way_apart hU hk hi hp c)
  · exact c
theorem redo_next (h : Right l cur) (hn : nxt l cur.toNat ≠ -1) : ∃ p : Nat, nxt l cur.toNat = p ∧ p < l.length ∧ 0 < p ∧ abv l p = cur.toNat := by
  obtain ⟨x, hx⟩ : ∃ x, l[cur.toNat]? = some x := ⟨_, List.getElem?_eq_getElem (by have := h.low; have := h.high; omega)⟩
  have := h.nexts cur.toNat (List.getElem?_eq_some_iff.1 hx).1 x hx
  rw [nxt_of hx] at hn ⊢
  unfold NextOk at this
  by_cases c : kid l cur.toNat = true
  · rw [if_pos c] at this
    obtain ⟨h1, h2, h3⟩ := this
    refine ⟨x.next.toNat, by omega, by omega, ?_, ?_⟩
    · rcases Nat.eq_zero_or_pos x.next.toNat with e | e
      · rw [e] at h3
        obtain ⟨y, hy⟩ : ∃ y, l[0]? = some y := ⟨_, List.getElem?_eq_getElem (by have := h.one; omega)⟩
        have hz := (h.ups 0 (by have := h.one; omega) y hy).zero.1
        rw [hy, Option.map_some, hz] at h3
        injection h3 with h3
        omega
      · exact e
    · obtain ⟨y, hy⟩ : ∃ y, l[x.next.toNat]? = some y := ⟨_, List.getElem?_eq_getElem (by omega)⟩
      rw [hy, Option.map_some] at h3
      injection h3 with h3
      exact abv_of hy h3
  · rw [if_neg c] at this
    exact absurd this hn
theorem on_base (hU : Ups l l.length) : ∀ {c : Nat}, c < l.length → on l 0 c = true := by
  intro c
  induction c using Nat.strongRecOn with
  | ind c ih =>
    intro hc
    rcases Nat.eq_zero_or_pos c with h | h
    · rw [h, on_self]
    · have ha := hU.abv_lt h hc
      rw [on_up h ha]
      exact ih _ ha (by omega)
end Tre
end Go.Proofs.Ytffihchkmcddeaa
