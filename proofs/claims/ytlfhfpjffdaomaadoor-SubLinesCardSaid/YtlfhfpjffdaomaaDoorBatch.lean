/-
  Changes made at once, without a program: whether they may be, what they make of a text, where places go by them, what undoes them.
-/
import Derived.Test.YtlfhfpjffdaomaaDoorChange
import Derived.Test.YtlfhfpjffdaomaaDoorCgs
namespace Go.Proofs.YtlfhfpjffdaomaaDoor
namespace Btc
open Utf Chg
/-- Do changes stand one behind the other? -/
def apart : List Cg → Bool
  | a :: b :: r => decide (a.at_ + (a.old.size : Int) ≤ b.at_) && apart (b :: r)
  | _ => true
/-- May changes be made at once of a text? -/
def right (t : List UInt8) (ks : List Cg) : Bool := apart ks && ks.all fun k => fits t k.at_ k.old.data.toList k.new.data.toList
/-- How many bytes more a text has behind changes. -/
def grow (ks : List Cg) : Int := (ks.map fun k => (k.new.size : Int) - k.old.size).sum
/-- The text behind changes, made from the last to the first. -/
def made (t : List UInt8) : List Cg → List UInt8
  | [] => t
  | k :: r => make (made t r) k.at_.toNat k.old.data.toList k.new.data.toList
/-- What stands behind a place of a text, changes being made. -/
def parts (t : List UInt8) : Nat → List Cg → List UInt8
  | f, [] => t.drop f
  | f, k :: r => (t.drop f).take (k.at_.toNat - f) ++ (k.new.data.toList ++ parts t (k.at_.toNat + k.old.size) r)
/-- Where a place goes: by the last change, and then by the one ahead of it. -/
def back (p : Int) (ks : List Cg) : Int := ks.foldr (fun k p => shift p k.at_ k.old.size k.new.size) p
/-- What undoes changes behind others that have made a text longer. -/
def turned : Int → List Cg → List Cg
  | _, [] => []
  | m, k :: r => ⟨k.at_ + m, k.new, k.old⟩ :: turned (m + ((k.new.size : Int) - k.old.size)) r
/-- Changes made at once: the text, and the error. -/
def done (t : List UInt8) (ks : List Cg) : List UInt8 × Int := if right t ks = true then if 4096 < (made t ks).length then ([], 8) else (made t ks, 0) else ([], 1)
/-- Changes stand in their order within N bytes, behind f of them. -/
def In (N : Nat) : Nat → List Cg → Prop
  | f, [] => f ≤ N
  | f, k :: r => ∃ a : Nat, k.at_ = a ∧ f ≤ a ∧ In N (a + k.old.size) r
theorem In.le {N : Nat} : ∀ {ks : List Cg} {f : Nat}, In N f ks → f ≤ N
  | [], _, h => h
  | k :: r, f, ⟨a, _, h1, h2⟩ => by have := In.le h2; omega
theorem right_in {t : List UInt8} : ∀ {ks : List Cg} {f : Nat}, right t ks = true → f ≤ t.length → (∀ k, ks.head? = some k → (f : Int) ≤ k.at_) → In t.length f ks
  | [], _, _, hf, _ => hf
  | k :: r, f, h, hf, h0 => by
    simp only [right, List.all_cons, Bool.and_eq_true] at h
    obtain ⟨h1, h2, h3⟩ := h
    obtain ⟨a, ha, hl⟩ := fits_off h2
    rw [data_len] at hl
    have := h0 k rfl
    refine ⟨a, ha, by omega, right_in (ks := r) ?_ hl ?_⟩
    · simp only [right, Bool.and_eq_true]
      refine ⟨?_, h3⟩
      cases r with
      | nil => rfl
      | cons b r => simp only [apart, Bool.and_eq_true] at h1; exact h1.2
    · intro b hb
      cases r with
      | nil => cases hb
      | cons b' r =>
        injection hb with hb
        subst hb
        simp only [apart, Bool.and_eq_true, decide_eq_true_eq] at h1
        have := h1.1
        omega
theorem made_parts {t : List UInt8} : ∀ {ks : List Cg} {f : Nat}, In t.length f ks → made t ks = t.take f ++ parts t f ks
  | [], f, _ => (List.take_append_drop f t).symm
  | k :: r, f, ⟨a, ha, hf, hr⟩ => by
    have hN := hr.le
    have ih := made_parts hr
    rw [made, make, ha, Int.toNat_natCast, ih, data_len, parts, ha, Int.toNat_natCast]
    rw [List.take_append_of_le_length (by rw [List.length_take]; omega), List.take_take, Nat.min_eq_left (by omega)]
    rw [List.drop_append_of_le_length (by rw [List.length_take]; omega), List.drop_eq_nil_of_le (by rw [List.length_take]; omega), List.nil_append]
    have e : t.take a = t.take f ++ (t.drop f).take (a - f) := by
      conv => lhs; rw [show a = f + (a - f) by omega]
      rw [List.take_add]
    rw [e]
    simp
theorem made_length {t : List UInt8} : ∀ {ks : List Cg} {f : Nat}, In t.length f ks → ((made t ks).length : Int) = t.length + grow ks ∧ ∀ k r, ks = k :: r → k.at_.toNat + k.old.size ≤ (made t r).length
  | [], f, _ => ⟨by simp [made, grow], fun k r h => by cases h⟩
  | k :: r, f, ⟨a, ha, hf, hr⟩ => by
    obtain ⟨ih, _⟩ := made_length hr
    have hN : a + k.old.size ≤ (made t r).length := by
      rw [made_parts hr, List.length_append, List.length_take]
      have := hr.le
      omega
    constructor
    · rw [made, ha, Int.toNat_natCast, make_length (by rw [data_len]; exact hN), data_len, data_len, grow, List.map_cons, List.sum_cons]
      rw [grow] at ih
      omega
    · intro k' r' h
      injection h with h1 h2
      subst h1 h2
      rw [ha, Int.toNat_natCast]
      exact hN
theorem shift_mono {p q i : Int} {o n : Nat} (h : p ≤ q) : shift p i o n ≤ shift q i o n := by
  unfold shift
  split <;> split <;> (try split) <;> (try split) <;> omega
theorem back_mono {p q : Int} (h : p ≤ q) : ∀ ks : List Cg, back p ks ≤ back q ks
  | [] => h
  | _ :: r => shift_mono (back_mono h r)
theorem back_low {N : Nat} {p : Int} : ∀ {ks : List Cg} {f : Nat}, In N f ks → p < f → back p ks = p
  | [], _, _, _ => rfl
  | k :: r, f, ⟨a, ha, hf, hr⟩, hp => by
    show shift (back p r) k.at_ k.old.size k.new.size = p
    rw [back_low hr (by omega), ha, shift, if_pos (by omega)]
theorem back_ge {N : Nat} {p : Int} : ∀ {ks : List Cg} {f : Nat}, In N f ks → (f : Int) ≤ p → (f : Int) ≤ back p ks
  | [], _, _, hp => hp
  | k :: r, f, ⟨a, ha, hf, hr⟩, hp => by
    show (f : Int) ≤ shift (back p r) k.at_ k.old.size k.new.size
    rw [ha]
    by_cases h : p < ((a + k.old.size : Nat) : Int)
    · rw [back_low hr h]
      unfold shift
      split <;> (try split) <;> omega
    · have := back_ge (p := p) hr (by omega)
      unfold shift
      split <;> (try split) <;> omega
theorem back_le {t : List UInt8} {p : Int} (hp : p ≤ t.length) : ∀ {ks : List Cg} {f : Nat}, In t.length f ks → back p ks ≤ (made t ks).length
  | [], _, _ => hp
  | k :: r, f, h => by
    obtain ⟨hl, h1⟩ := made_length h
    have h2 := h1 k r rfl
    obtain ⟨a, ha, hf, hr⟩ := h
    have ih := back_le hp hr
    rw [ha, Int.toNat_natCast] at h2
    obtain ⟨hl2, _⟩ := made_length hr
    rw [hl]
    show shift (back p r) k.at_ k.old.size k.new.size ≤ _
    rw [ha, grow, List.map_cons, List.sum_cons]
    rw [grow] at hl2
    unfold shift
    split <;> (try split) <;> omega
/-- What stands at a place that no change takes stands behind them where the place goes. -/
theorem back_byte {t : List UInt8} {p : Nat} (hp : p < t.length) : ∀ {ks : List Cg} {f : Nat}, In t.length f ks → (∀ k ∈ ks, ¬ (k.at_ ≤ (p : Int) ∧ (p : Int) < k.at_ + k.old.size)) →
    ∃ x : Nat, back p ks = x ∧ (made t ks)[x]? = t[p]?
  | [], _, _, _ => ⟨p, rfl, rfl⟩
  | k :: r, f, h, hno => by
    obtain ⟨_, h1⟩ := made_length h
    have h2 := h1 k r rfl
    obtain ⟨a, ha, hf, hr⟩ := h
    obtain ⟨x, hx, hb⟩ := back_byte hp hr (fun k hk => hno k (List.mem_cons_of_mem _ hk))
    have h3 := hno k (by simp)
    rw [ha, Int.toNat_natCast] at h2
    have hxl : x < (made t r).length := by
      rcases Nat.lt_or_ge x (made t r).length with h' | h'
      · exact h'
      · rw [List.getElem?_eq_none h', List.getElem?_eq_getElem hp] at hb
        cases hb
    rw [ha] at h3
    show ∃ y : Nat, shift (back p r) k.at_ k.old.size k.new.size = y ∧ (make (made t r) k.at_.toNat k.old.data.toList k.new.data.toList)[y]? = t[p]?
    rw [hx, ha, Int.toNat_natCast, make, data_len]
    by_cases h4 : p < a
    · have h5 : back p r = p := back_low hr (by omega)
      have h6 : x = p := by omega
      subst h6
      refine ⟨x, by rw [shift, if_pos (by omega)], ?_⟩
      rw [List.append_assoc, List.getElem?_append_left (by rw [List.length_take]; omega), List.getElem?_take, if_pos h4]
      exact hb
    · have h5 : ((a + k.old.size : Nat) : Int) ≤ back p r := back_ge (p := p) hr (by omega)
      refine ⟨x - k.old.size + k.new.size, by rw [shift, if_neg (by omega), if_neg (by omega)]; omega, ?_⟩
      rw [List.getElem?_append_right (by rw [List.length_append, List.length_take, data_len]; omega), List.length_append, List.length_take, data_len, List.getElem?_drop, ← hb]
      congr 1
      omega
theorem grow_snoc {ks : List Cg} {j : Nat} {k : Cg} (h : ks[j]? = some k) : grow (ks.take (j + 1)) = grow (ks.take j) + ((k.new.size : Int) - k.old.size) := by
  obtain ⟨hj, rfl⟩ := List.getElem?_eq_some_iff.1 h
  rw [List.take_succ_eq_append_getElem hj, grow, List.map_append, List.sum_append]
  simp [grow]
theorem grow_weigh : ∀ ks : List Cg, -(weigh ks : Int) ≤ grow ks ∧ grow ks ≤ weigh ks
  | [] => by simp [grow, weigh]
  | k :: r => by
    have := grow_weigh r
    simp only [grow, weigh, List.map_cons, List.sum_cons] at this ⊢
    omega
theorem back_drop {p : Int} {ks : List Cg} {j : Nat} {k : Cg} (h : ks[j]? = some k) : back p (ks.drop j) = shift (back p (ks.drop (j + 1))) k.at_ k.old.size k.new.size := by
  obtain ⟨hj, rfl⟩ := List.getElem?_eq_some_iff.1 h
  rw [List.drop_eq_getElem_cons hj]
  rfl
theorem apart_drop {ks : List Cg} {j : Nat} {a b : Cg} (h1 : ks[j]? = some a) (h2 : ks[j + 1]? = some b) : apart (ks.drop j) = (decide (a.at_ + (a.old.size : Int) ≤ b.at_) && apart (ks.drop (j + 1))) := by
  obtain ⟨hj, rfl⟩ := List.getElem?_eq_some_iff.1 h1
  obtain ⟨hj2, rfl⟩ := List.getElem?_eq_some_iff.1 h2
  rw [List.drop_eq_getElem_cons hj, List.drop_eq_getElem_cons hj2]
  rfl
theorem apart_end {ks : List Cg} {j : Nat} (h : ks.length ≤ j + 1) : apart (ks.drop j) = true := by
  rcases Nat.lt_or_ge j ks.length with h1 | h1
  · rw [List.drop_eq_getElem_cons h1, List.drop_eq_nil_of_le h]
    rfl
  · rw [List.drop_eq_nil_of_le h1]
    rfl
theorem turned_length : ∀ (m : Int) (ks : List Cg), (turned m ks).length = ks.length
  | _, [] => rfl
  | m, k :: r => by simp [turned, turned_length _ r]
theorem turned_snoc {ks : List Cg} {j : Nat} {k : Cg} (h : ks[j]? = some k) : ∀ m, turned m (ks.take (j + 1)) = turned m (ks.take j) ++ [⟨k.at_ + (m + grow (ks.take j)), k.new, k.old⟩] := by
  induction ks generalizing j with
  | nil => simp at h
  | cons x r ih =>
    intro m
    cases j with
    | zero =>
      simp only [List.getElem?_cons_zero, Option.some.injEq] at h
      subst h
      simp [turned, grow]
    | succ j =>
      have := ih (j := j) (by simpa using h) (m + ((x.new.size : Int) - x.old.size))
      simp only [List.take_succ_cons, turned, this, List.cons_append, grow, List.map_cons, List.sum_cons]
      rw [show m + ((x.new.size : Int) - x.old.size) + ((r.take j).map fun k => (k.new.size : Int) - k.old.size).sum = m + (((x.new.size : Int) - x.old.size) + ((r.take j).map fun k => (k.new.size : Int) - k.old.size).sum) by omega]
end Btc
end Go.Proofs.YtlfhfpjffdaomaaDoor
