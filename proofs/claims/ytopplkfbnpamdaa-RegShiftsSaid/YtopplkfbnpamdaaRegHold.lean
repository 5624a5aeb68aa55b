/-
  What is kept is got, others stay, lines go from 1 to 9: without a program.
-/
import Derived.Test.YtopplkfbnpamdaaReg
namespace Go.Proofs.Ytopplkfbnpamdaa
open Go.RowKit
namespace Reg
theorem get_eq {a b : List Rg} {n : Int} (ha : Right a) (hb : Right b) (h : look a (nameN n) = look b (nameN n)) : get a n = get b n := by
  unfold get; rw [if_pos ha, if_pos hb, h]
/-- A keep that is no error: what it needs, and what it makes. -/
theorem kept_way (ks : List Rg) (n : Int) (t : ByteArray) (lines taken : Bool) :
    ((kept ks n t lines taken).1 = [] ∧ (kept ks n t lines taken).2 ≠ 0) ∨
    (Right ks ∧ Utf.valid t.data.toList = true ∧ nameN n ≠ 0 ∧ (added ks n t lines).2.size ≤ 4096 ∧ kept ks n t lines taken = (into ks n t lines taken, 0)) := by
  unfold kept
  split
  · rename_i h
    split
    · exact .inl ⟨rfl, by decide⟩
    · rename_i h0
      split
      · rename_i hs; exact .inr ⟨h.1, h.2, h0, hs, rfl⟩
      · exact .inl ⟨rfl, by decide⟩
  · exact .inl ⟨rfl, by decide⟩
theorem is34 : IsName 34 := .inl rfl
theorem name_0 : nameN 0 = 34 := rfl
/-- What is yanked is got by its name, and without one; others stay. -/
theorem holds_facts {ks : List Rg} (h : Right ks) {n : Int} (h0 : nameN n ≠ 0) {t : ByteArray} {lines : Bool} (hv : Utf.valid t.data.toList = true) (hs : (added ks n t lines).2.size ≤ 4096) :
    Right (into ks n t lines false) ∧ get (into ks n t lines false) n = (⟨nameN n, (added ks n t lines).1, (added ks n t lines).2⟩, true) ∧ get (into ks n t lines false) 0 = (⟨34, (added ks n t lines).1, (added ks n t lines).2⟩, true) ∧
    (∀ o, nameN o ≠ 0 → nameN o ≠ nameN n → nameN o ≠ 34 → nameN o ≠ 48 → get (into ks n t lines false) o = get ks o) := by
  have hr := into_right (taken := false) h h0 hv hs
  have hI := nameN_is h0
  have hlook : ∀ o, o ≠ 34 → o ≠ nameN n → o ≠ 48 → look (into ks n t lines false) o = look ks o := fun o h1 h2 h3 => by
    unfold into
    simp only
    split
    · unfold also
      rw [if_neg (by decide), look_put_other _ _ (by exact h3), look_put_other _ _ (by exact h1), look_put_other _ _ (by exact h2)]
    · rw [look_put_other _ _ (by exact h1), look_put_other _ _ (by exact h2)]
  have h34 : look (into ks n t lines false) 34 = some ⟨34, (added ks n t lines).1, (added ks n t lines).2⟩ := by
    unfold into
    simp only
    split
    · unfold also
      rw [if_neg (by decide), look_put_other _ _ (by show (34 : Int) ≠ 48; decide)]
      exact look_put _ _
    · exact look_put _ _
  have hz : look (into ks n t lines false) (nameN n) = some ⟨nameN n, (added ks n t lines).1, (added ks n t lines).2⟩ := by
    by_cases e : nameN n = 34
    · rw [e]; exact h34
    · unfold into
      simp only
      rw [if_neg e, look_put_other _ _ (by exact e)]
      exact look_put _ _
  refine ⟨hr, get_some hr hz, get_some hr (by rw [name_0]; exact h34), fun o _ h2 h3 h4 => get_eq hr h (hlook _ h3 h2 h4)⟩
theorem added_not {ks : List Rg} {n : Int} {t : ByteArray} {lines : Bool} (h : ¬ (65 ≤ n ∧ n ≤ 90)) : added ks n t lines = (lines, t) := by unfold added; rw [if_neg h]
theorem nameN_num {i : Int} (h : 48 ≤ i ∧ i ≤ 57) : nameN i = i := nameN_name (.inr (.inr (.inl h)))
/-- Lines that are taken out: they are in 1, what was in 1 to 8 is in 2 to 9. -/
theorem shifts_facts {ks : List Rg} (h : Right ks) {t : ByteArray} (hv : Utf.valid t.data.toList = true) (hs : t.size ≤ 4096) :
    Right (into ks 0 t true true) ∧ get (into ks 0 t true true) 49 = (⟨49, true, t⟩, true) ∧
    (∀ i, 49 ≤ i → i ≤ 56 → (look ks i = none ∧ get ks i = (zero, false) ∧ get (into ks 0 t true true) (i + 1) = (zero, false)) ∨ (∃ x, get ks i = (x, true) ∧ get (into ks 0 t true true) (i + 1) = (⟨i + 1, x.lines, x.text⟩, true))) := by
  have h0 : nameN 0 ≠ 0 := by decide
  have ha : added ks 0 t true = (true, t) := added_not (by omega)
  have hr := into_right (taken := true) (n := 0) (lines := true) h h0 hv (by rw [ha]; exact hs)
  have hi : into ks 0 t true true = put (age (put (put ks ⟨34, true, t⟩) ⟨34, true, t⟩)) ⟨49, true, t⟩ := by
    unfold into
    rw [ha, name_0]
    simp only [if_true]
    unfold also
    rw [if_pos rfl, if_pos (by rw [Bool.true_or])]
  refine ⟨hr, get_some hr (by rw [nameN_num (by omega), hi]; exact look_put _ _), fun i h1 h2 => ?_⟩
  have hl : look (into ks 0 t true true) (i + 1) = (look ks i).map (fun k => { k with name := i + 1 }) := by
    rw [hi, look_put_other _ _ (by show i + 1 ≠ 49; omega), look_age, if_pos (by omega), show i + 1 - 1 = i by omega]
    rw [look_put_other _ _ (by show i ≠ 34; omega), look_put_other _ _ (by show i ≠ 34; omega)]
  cases e : look ks i with
  | none =>
    rw [e] at hl
    exact .inl ⟨rfl, get_none (by rw [nameN_num (by omega)]; exact e), get_none (by rw [nameN_num (by omega)]; exact hl)⟩
  | some x =>
    rw [e] at hl
    exact .inr ⟨x, get_some h (by rw [nameN_num (by omega)]; exact e), get_some hr (by rw [nameN_num (by omega)]; exact hl)⟩
end Reg
end Go.Proofs.Ytopplkfbnpamdaa
