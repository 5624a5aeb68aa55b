/-
  The document's row as a list; what goes from 1 to 9 in it.
-/
import Derived.Test.YtopplkfbnpamdaaRegRefs
namespace Go.Proofs.Ytopplkfbnpamdaa
open Go.RowKit
open Reg
namespace Reg
/-- A register under another name. -/
def named (m : Int) (k : Rg) : Rg := ⟨m, k.lines, k.text⟩
/-- The row where what was in i to 8 is in the place of the next one each, i the number of the name. -/
def shiftR (ks : List Rg) (i : Int) : List (Option Rg) := (List.range 38).map fun j => if i < nm j ∧ nm j ≤ 57 then (look ks (nm j - 1)).map (named (nm j)) else look ks (nm j)
theorem shiftR_length (ks : List Rg) (i : Int) : (shiftR ks i).length = 38 := by simp [shiftR]
theorem shiftR_get (ks : List Rg) (i : Int) {j : Nat} (h : j < 38) : (shiftR ks i)[j]? = some (if i < nm j ∧ nm j ≤ 57 then (look ks (nm j - 1)).map (named (nm j)) else look ks (nm j)) := by
  unfold shiftR; rw [List.getElem?_map, List.getElem?_range h]; rfl
theorem shiftR_start (ks : List Rg) : shiftR ks 57 = row ks := by
  apply List.ext_getElem?
  intro j
  rcases Nat.lt_or_ge j 38 with hj | hj
  · rw [shiftR_get _ _ hj, row_get _ hj, if_neg (by omega)]
  · rw [List.getElem?_eq_none (by rw [shiftR_length]; exact hj), List.getElem?_eq_none (by rw [row_length]; exact hj)]
theorem is_num {i : Int} (h : 48 ≤ i ∧ i ≤ 57) : IsName i := .inr (.inr (.inl h))
theorem shiftR_next (ks : List Rg) {i : Int} (h : 50 ≤ i ∧ i ≤ 57) : shiftR ks (i - 1) = (shiftR ks i).set (spot i) ((look ks (i - 1)).map (named i)) := by
  obtain ⟨h1, h2⟩ := nm_spot (is_num (i := i) (by omega))
  apply List.ext_getElem?
  intro j
  rcases Nat.lt_or_ge j 38 with hj | hj
  · rw [shiftR_get _ _ hj, List.getElem?_set]
    by_cases e : spot i = j
    · subst e
      rw [h1, if_pos (by omega), if_pos rfl, if_pos (by rw [shiftR_length]; exact hj)]
    · rw [if_neg e, shiftR_get _ _ hj]
      have hne : nm j ≠ i := fun e2 => e (by rw [← e2, spot_nm hj])
      by_cases c : i < nm j ∧ nm j ≤ 57
      · rw [if_pos c, if_pos (by omega)]
      · rw [if_neg c, if_neg (by omega)]
  · rw [List.getElem?_eq_none (by rw [shiftR_length]; exact hj), List.getElem?_eq_none (by rw [List.length_set, shiftR_length]; exact hj)]
theorem shiftR_read (ks : List Rg) {i : Int} (h : 50 ≤ i ∧ i ≤ 57) : (shiftR ks i)[spot (i - 1)]? = some (look ks (i - 1)) := by
  obtain ⟨h1, h2⟩ := nm_spot (is_num (i := i - 1) (by omega))
  rw [shiftR_get _ _ h2, h1, if_neg (by omega)]
theorem spot_ne {i : Int} (h : 50 ≤ i ∧ i ≤ 57) : spot i ≠ spot (i - 1) := fun e => by
  have h1 := (nm_spot (is_num (i := i) (by omega))).1
  have h2 := (nm_spot (is_num (i := i - 1) (by omega))).1
  rw [e, h2] at h1
  omega
theorem shiftR_end (ks : List Rg) (k : Rg) (h : k.name = 49) : (shiftR ks 49).set (spot 49) (some k) = row (put (age ks) k) := by
  rw [row_put _ (by rw [h]; decide), h]
  obtain ⟨h1, h2⟩ := nm_spot (is_num (i := 49) (by omega))
  apply List.ext_getElem?
  intro j
  rw [List.getElem?_set, List.getElem?_set]
  by_cases e : spot 49 = j
  · rw [if_pos e, if_pos e, shiftR_length, row_length]
  · rw [if_neg e, if_neg e]
    rcases Nat.lt_or_ge j 38 with hj | hj
    · rw [shiftR_get _ _ hj, row_get _ hj, look_age]
      have hne : nm j ≠ 49 := fun e2 => e (by rw [← e2, spot_nm hj])
      by_cases c : 49 < nm j ∧ nm j ≤ 57
      · rw [if_pos c, if_pos (by omega)]; rfl
      · rw [if_neg c, if_neg (by omega), if_neg hne]
    · rw [List.getElem?_eq_none (by rw [shiftR_length]; exact hj), List.getElem?_eq_none (by rw [row_length]; exact hj)]
end Reg
set_option maxHeartbeats 2000000 in
set_option maxRecDepth 100000 in
theorem ref21_flat {g : Nat} {ks : List Rg} {w : World} (h : RowIs w g (row ks)) (hN : Nam ks) :
    Calls Try.prog 34 #[.slice (some ⟨g, 0, none⟩) 38 38] w fun e w' => ∃ (A : Option Addr) (c : Nat), e = .returned (.slice A ks.length c) ∧ Rgs w' A ks ∧ ks.length ≤ c ∧ Below w.heap.size w w' := by
  obtain ⟨i0, hi, hz0, hz1, hz2⟩ := info_parts info_reg
  have h89 := hN.length_le
  have HL : Hid (∀ j, (upto ks j).length ≤ 89) := fun j => Nat.le_trans (upto_length _ _) h89
  have HU : Hid (∀ j, j < 38 → upto ks (j + 1) = upto ks j ++ (Reg.look ks (nm j)).toList) := fun j hj => upto_succ hN hj
  have H0 : Hid (upto ks 0 = []) := upto_zero ks
  have H38 : Hid (upto ks 38 = ks) := upto_all hN
  have RG : Hid (∀ j, j < 38 → (row ks)[j]? = some (Reg.look ks (nm j))) := fun j hj => row_get ks hj
  have own0 : ∀ u : World, u.ownsRow w.heap.size 32 3 (.slice none 0 0) 0 (rrows (upto ks 0)) := fun u => by rw [H0.out]; exact World.ownsRow_nil _ _ _ _
  clear hN h89
  go_enter Try.func34, Try.ntmps34
  go_wp2_with fail
  go_loopw [3, 4] (fun v iv wr => ∃ (k q : Nat) (A' : Option Addr) (c' : Nat), k ≤ 38 ∧ iv = .int .i64 k ∧ v = .slice A' q c' ∧ q ≤ 89 ∧ Hid (q = (upto ks k).length) ∧ wr.ownsRow w.heap.size 32 3 v q (rrows (upto ks k)) ∧ Below w.heap.size w wr) (fun _ iv _ => 38 - (intOf iv).toNat)
  case atStart => exact ⟨0, 0, none, 0, Nat.zero_le _, rfl, rfl, Nat.zero_le _, (by show 0 = _; rw [H0.out]; rfl), own0 _, Below.refl _ _⟩
  case round =>
    obtain ⟨k, q, A', c', hkl, rfl, rfl, hq, HQ, hown, hW⟩ := hrel
    clear own0
    by_cases hlt : k < 38
    · have hk2 : (k : Int) < 38 := by omega
      have hu := HU.out k hlt
      have hlen := HL.out (k + 1)
      obtain ⟨v, hv, he⟩ := (h.below hW).at_ (RG.out k hlt)
      cases hl : Reg.look ks (nm k) with
      | none =>
        rw [hl] at hu he
        have hve : v = .slice none 0 0 := he
        rw [hve] at hv
        have hu2 : Hid (upto ks (k + 1) = upto ks k) := by show _ = _; rw [hu]; exact List.append_nil _
        clear hu he hve hl hlen
        go_wp2_with (at_builtin; refine wpList_append_own_void rfl _ _ 22 rfl w.heap.size 32 i0 3 Try.underlying22 hi _ _ _ rfl hown _ rfl ?_)
        go_roundw
        case rel => exact ⟨k + 1, q, A', c', by omega, by go_num, rfl, hq, (by show q = _; rw [hu2.out]; exact HQ.out), by rw [hu2.out]; exact hown, hW⟩
        case measure => simp [intOf]; omega
      | some x =>
        rw [hl] at hu he
        obtain ⟨b, hve, hbg, hbl, c0, c1, c2⟩ := he
        rw [hve] at hv
        have hu2 : Hid (upto ks (k + 1) = upto ks k ++ [x]) := hu
        rw [hu2.out, List.length_append, ← HQ.out] at hlen
        simp only [List.length_cons, List.length_nil] at hlen
        rw [Nat.zero_add] at c1 c2
        clear hu hve hl
        go_wp2_with (at_builtin; refine wpList_append_own _ rfl _ _ 22 rfl w.heap.size 32 i0 _ 3 32 Try.underlying22 hi hz0 hz1 hz2 rfl (by decide) _ _ _ rfl hown ⟨b, 0, none⟩ 1 1 (rrows [x]) rfl rfl ?c1 rrows_one ?c3 ?c4 hW.size ?_)
        case c1 =>
          intro j u hj
          rw [add_plain, Nat.zero_add]
          match j, hj with
          | 0, hj => simp [rrows, Rg.row] at hj; subst hj; exact c0
          | 1, hj => simp [rrows, Rg.row] at hj; subst hj; exact c1
          | 2, hj => simp [rrows, Rg.row] at hj; subst hj; exact c2
          | j + 3, hj => simp [rrows, Rg.row] at hj
        case c3 => unfold maxLen; omega
        case c4 => omega
        intro v' w3 hown3 hgrow3 _
        obtain ⟨a3, cap3, rfl⟩ := own_shape hown3
        have hW3 : Below w.heap.size w w3 := hW.grown hgrow3 hW.size (fun j hj => (hown.lt j hj).1)
        go_wp2
        go_roundw
        case rel => exact ⟨k + 1, q + 1, a3, cap3, by omega, by go_num, rfl, by omega, (by show q + 1 = _; rw [hu2.out, List.length_append, ← HQ.out]; rfl), by rw [hu2.out, rrows_append]; exact hown3, hW3⟩
        case measure => simp [intOf]; omega
    · obtain rfl : k = 38 := by omega
      rw [H38.out] at HQ hown
      have hq2 := HQ.out
      subst hq2
      clear h
      go_wp2
      go_ret
      obtain ⟨o1, o2⟩ := own_rgs hown rfl
      exact ⟨_, _, rfl, o1, o2, hW⟩
end Go.Proofs.Ytopplkfbnpamdaa
