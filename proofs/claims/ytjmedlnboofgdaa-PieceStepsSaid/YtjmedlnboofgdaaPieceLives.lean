/-
  Whether steps are few; whether the program tells the document's example.
-/
import Derived.Test.YtjmedlnboofgdaaSteps
import Derived.Test.YtjmedlnboofgdaaOps
namespace Go.Proofs.Ytjmedlnboofgdaa
open Go.RowKit
open Pc
/-- How many bytes steps put in, all together. -/
def total (ks : List Step) : Nat := (ks.map fun k => k.s.size).sum
theorem total_snoc {ks : List Step} {j : Nat} {k : Step} (h : ks[j]? = some k) : total (ks.take (j + 1)) = total (ks.take j) + k.s.size := by
  obtain ⟨hj, rfl⟩ := List.getElem?_eq_some_iff.1 h
  unfold total
  rw [List.take_succ_eq_append_getElem hj, List.map_append, List.sum_append]
  simp
theorem total_le {ks : List Step} {m : Nat} (h : ∀ k ∈ ks, k.s.size ≤ m) : total ks ≤ ks.length * m := by
  unfold total
  induction ks with
  | nil => simp
  | cons x r ih =>
    have h1 := h x (by simp)
    have h2 := ih (fun k hk => h k (by simp [hk]))
    simp only [List.map_cons, List.sum_cons, List.length_cons, Nat.add_mul, Nat.one_mul]
    omega
theorem total_take (ks : List Step) (j : Nat) : total (ks.take j) ≤ total ks := by
  have e : total ks = total (ks.take j) + total (ks.drop j) := by
    unfold total
    rw [← List.sum_append, ← List.map_append, List.take_append_drop]
  omega
/-- An answer that says no more than that steps are few, if they are. -/
def FewIs (ks : List Step) (w : World) (e : Ending) (w' : World) : Prop := ∃ b, e = .returned (.bool b) ∧ w = w' ∧ (b = true → ks.length ≤ 200 ∧ total ks ≤ 20000)
set_option maxHeartbeats 1000000 in
set_option maxRecDepth 100000 in
theorem few_ok {A : Option Addr} {c : Nat} {ks : List Step} {w : World} (hx : Steps w A ks) (hs : ∀ k ∈ ks, k.s.size ≤ 140737488351232) (hm : ks.length ≤ maxLen) :
    Calls Try.prog 4 #[.slice A ks.length c] w (FewIs ks w) := by
  have HS := Lib.hid hs
  have hm2 : ks.length ≤ 9223372036854775807 := by unfold maxLen at hm; exact hm
  clear hs hm
  go_enter Try.func4, Try.ntmps4
  go_wp2
  go_loop [3, 4] (fun n i => ∃ k : Nat, k ≤ ks.length ∧ k ≤ 201 ∧ i = .int .i64 k ∧ n = .int .i64 (total (ks.take k) : Nat)) (fun _ i => ks.length - (intOf i).toNat)
  case atStart => exact ⟨0, Nat.zero_le _, by omega, rfl, by simp [total]⟩
  case round =>
    obtain ⟨k, hk, hk2, rfl, rfl⟩ := hrel
    have hb : total (ks.take k) ≤ k * 140737488351232 := by
      have := total_le (ks := ks.take k) (fun x hx => HS.out x (List.mem_of_mem_take hx))
      rw [List.length_take, Nat.min_eq_left hk] at this
      exact this
    by_cases hlt : k < ks.length
    · obtain ⟨x, hkx⟩ : ∃ x, ks[k]? = some x := ⟨_, List.getElem?_eq_getElem hlt⟩
      obtain ⟨b, off, rfl, hbw, _, _, _, h3⟩ := hx.at_ (Below.refl w.heap.size w) (Nat.le_refl _) hkx
      have hsn := Lib.hid (total_snoc hkx)
      have hxs := HS.out x (List.mem_of_getElem? hkx)
      have d1 : decide ((k : Int) < (ks.length : Int)) = true := by simp; omega
      by_cases h201 : k < 201
      · have d2 : decide ((k : Int) < 201) = true := by simp; omega
        have hbb : total (ks.take k) + x.s.size ≤ 9223372036854775807 := by omega
        generalize total (ks.take k) = N at *
        clear hkx
        go_wp2
        go_round
        case rel => exact ⟨k + 1, by omega, by omega, by go_num, by rw [hsn.out]; go_num⟩
        case measure => simp [intOf]; omega
      · have d2 : decide ((k : Int) < 201) = false := by simp; omega
        have d3 : decide ((ks.length : Int) ≤ 200) = false := by simp; omega
        clear hkx hb
        generalize total (ks.take k) = N at *
        go_wp2
        go_ret
        exact ⟨false, rfl, rfl, fun h => by cases h⟩
    · have hkl : k = ks.length := by omega
      have d1 : decide ((k : Int) < (ks.length : Int)) = false := by simp; omega
      by_cases h200 : ks.length ≤ 200
      · have d3 : decide ((ks.length : Int) ≤ 200) = true := by simp; omega
        have HT : Hid (total (ks.take k) = total ks) := by show _ = _; rw [hkl, List.take_length]
        clear hb
        generalize total (ks.take k) = N at *
        go_wp2
        go_ret
        exact ⟨_, rfl, rfl, fun h => ⟨h200, by have := HT.out; have := of_decide_eq_true h; omega⟩⟩
      · have d3 : decide ((ks.length : Int) ≤ 200) = false := by simp; omega
        clear hb
        generalize total (ks.take k) = N at *
        go_wp2
        go_ret
        exact ⟨false, rfl, rfl, fun h => by cases h⟩
set_option maxHeartbeats 1000000 in
set_option maxRecDepth 100000 in
theorem piece_lives (w : World) : Calls Try.prog 5 #[] w fun e w' => e = .returned (.bool true) ∧ Below w.heap.size w w' := by
  have e0 : one (⟨#[97, 99]⟩ : ByteArray).data.toList = [[97, 99]] := by simp [one]
  have P1 := pc_new (B := w.heap.size) ⟨#[97, 99]⟩ (w := w) (Nat.le_refl _)
  rw [e0] at P1
  have C1 := Lib.hid P1
  clear P1
  have C2 : Hid (∀ p u, w.heap.size ≤ u.heap.size → Tab w.heap.size p [[97, 99]] 0 u → Calls Try.prog 11 #[.pointer (some ⟨p, 0, none⟩), .int .i64 1, .string ⟨#[98]⟩] u fun e w' => e = .returned (.int .i64 0) ∧
      ∃ ps' a', Hid (ps'.flatten = [97, 98, 99]) ∧ ps'.length ≤ 3 ∧ Tab w.heap.size p ps' a' w' ∧ Keeps w.heap.size u w') := fun p u hB hT => by
    have hok : okI ([[97, 99]] : List (List UInt8)).flatten 1 := ⟨by omega, by simp⟩
    have := tab_insert hB hT 1 ⟨#[98]⟩ (by decide) (by decide) (by simp)
    simp only [if_pos hok] at this
    refine this.mono ?_
    rintro e w' ⟨rfl, ps', h1, h2, h3, h4⟩
    exact ⟨rfl, ps', _, h1, by simpa using h2, h3, h4⟩
  have C3 : Hid (∀ p ps a u, ps.flatten = [97, 98, 99] → ps.length ≤ 3 → Tab w.heap.size p ps a u → Calls Try.prog 8 #[.pointer (some ⟨p, 0, none⟩)] u fun e w' => e = .returned (.string ⟨#[97, 98, 99]⟩) ∧ Tab w.heap.size p ps a w' ∧ Below u.heap.size u w') := fun p ps a u h1 h2 h3 => by
    refine (tab_string h3.shown (by rw [h1]; decide) (by omega)).mono ?_
    rintro e w' ⟨rfl, hb⟩
    rw [h1]
    exact ⟨rfl, h3.below hb, hb⟩
  have C4 : Hid (∀ p ps a u, ps.length ≤ 3 → Tab w.heap.size p ps a u → Calls Try.prog 12 #[.pointer (some ⟨p, 0, none⟩)] u fun e w' => ∃ m : Nat, e = .returned (.int .i64 m) ∧ m ≤ 3 ∧ u = w') := fun p ps a u h1 h2 => by
    obtain ⟨vp, va, us, xs, h3⟩ := h2
    refine (tab_pieces (tab_looks h3.self) (own_shape h3.rows)).mono ?_
    rintro e w' ⟨rfl, rfl⟩
    exact ⟨_, rfl, h1, rfl⟩
  go_enter Try.func5, Try.ntmps5
  go_wp2_with fail
  refine C1.out.mono ?_
  rintro e w1 ⟨p, rfl, hT, hK, hp⟩
  go_wp2_with fail
  refine (C2.out p w1 hK.size hT).mono ?_
  rintro e w2 ⟨rfl, ps, a, h1, h2, hT2, hK2⟩
  go_wp2_with fail
  refine (C3.out p ps a w2 h1.out h2 hT2).mono ?_
  rintro e w3 ⟨rfl, hT3, hb3⟩
  go_wp2_with fail
  refine (C4.out p ps a w3 h2 hT3).mono ?_
  rintro e w4 ⟨m, rfl, hm, rfl⟩
  have hm3 : decide ((m : Int) ≤ 3) = true := decide_eq_true (by omega)
  clear e0
  go_wp2
  go_ret
  exact ⟨rfl, (hK.trans hK2).below.trans (hb3.mono (Nat.le_trans hK.size hK2.size))⟩
end Go.Proofs.Ytjmedlnboofgdaa
