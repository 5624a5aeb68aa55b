/-
  Whether steps are few; whether the program tells the document's example.
-/
import Derived.Test.YtgjppkkifclanaaDoorSteps7
import Derived.Test.YtgjppkkifclanaaDoorPutIMore
namespace Go.Proofs.YtgjppkkifclanaaDoor
open Go.RowKit
open Pc
/-- An answer that says no more than that steps are few, if they are. -/
def FewIs7 (ks : List Step) (w : World) (e : Ending) (w' : World) : Prop := ∃ b, e = .returned (.bool b) ∧ w = w' ∧ (b = true → ks.length ≤ 100 ∧ total ks ≤ 10000)
set_option maxHeartbeats 1000000 in
set_option maxRecDepth 100000 in
theorem few7_ok {A : Option Addr} {c : Nat} {ks : List Step} {w : World} (hx : Steps w A ks) (hs : ∀ k ∈ ks, k.s.size ≤ 140737488351232) (hm : ks.length ≤ maxLen) :
    Calls Tryd.prog 7 #[.slice A ks.length c] w (FewIs7 ks w) := by
  have HS := Lib.hid hs
  have hm2 : ks.length ≤ 9223372036854775807 := by unfold maxLen at hm; exact hm
  clear hs hm
  go_enter Tryd.func7, Tryd.ntmps7
  go_wp2
  go_loop [3, 4] (fun n i => ∃ k : Nat, k ≤ ks.length ∧ k ≤ 101 ∧ i = .int .i64 k ∧ n = .int .i64 (total (ks.take k) : Nat)) (fun _ i => ks.length - (intOf i).toNat)
  case atStart => exact ⟨0, Nat.zero_le _, by omega, rfl, by simp [total]⟩
  case round =>
    obtain ⟨k, hk, hk2, rfl, rfl⟩ := hrel
    have hb : total (ks.take k) ≤ k * 140737488351232 := by
      have := total_le (ks := ks.take k) (fun x hx => HS.out x (List.mem_of_mem_take hx))
      rw [List.length_take, Nat.min_eq_left hk] at this
      exact this
    by_cases hlt : k < ks.length
    · obtain ⟨x, hkx⟩ : ∃ x, ks[k]? = some x := ⟨_, List.getElem?_eq_getElem hlt⟩
      obtain ⟨b, off, rfl, hbw, _, _, _, h3⟩ := hx.at_ (Below.refl w.heap.size w) (Nat.le_refl _) hkx
      have hsn := Lib.hid (total_snoc hkx)
      have hxs := HS.out x (List.mem_of_getElem? hkx)
      have d1 : decide ((k : Int) < (ks.length : Int)) = true := by simp; omega
      by_cases h101 : k < 101
      · have d2 : decide ((k : Int) < 101) = true := by simp; omega
        have hbb : total (ks.take k) + x.s.size ≤ 9223372036854775807 := by omega
        generalize total (ks.take k) = N at *
        clear hkx
        go_wp2
        go_round
        case rel => exact ⟨k + 1, by omega, by omega, by go_num, by rw [hsn.out]; go_num⟩
        case measure => simp [intOf]; omega
      · have d2 : decide ((k : Int) < 101) = false := by simp; omega
        have d3 : decide ((ks.length : Int) ≤ 100) = false := by simp; omega
        clear hkx hb
        generalize total (ks.take k) = N at *
        go_wp2
        go_ret
        exact ⟨false, rfl, rfl, fun h => by cases h⟩
    · have hkl : k = ks.length := by omega
      have d1 : decide ((k : Int) < (ks.length : Int)) = false := by simp; omega
      by_cases h100 : ks.length ≤ 100
      · have d3 : decide ((ks.length : Int) ≤ 100) = true := by simp; omega
        have HT : Hid (total (ks.take k) = total ks) := by show _ = _; rw [hkl, List.take_length]
        clear hb
        generalize total (ks.take k) = N at *
        go_wp2
        go_ret
        exact ⟨_, rfl, rfl, fun h => ⟨h100, by have := HT.out; have := of_decide_eq_true h; omega⟩⟩
      · have d3 : decide ((ks.length : Int) ≤ 100) = false := by simp; omega
        clear hb
        generalize total (ks.take k) = N at *
        go_wp2
        go_ret
        exact ⟨false, rfl, rfl, fun h => by cases h⟩
set_option maxHeartbeats 1000000 in
set_option maxRecDepth 100000 in
theorem index_lives (w : World) : Calls Tryd.prog 8 #[] w fun e w' => e = .returned (.bool true) ∧ Below w.heap.size w w' := by
  have C1 : Hid (Calls Tryd.prog 9 #[.string ⟨#[97, 10, 98]⟩] w fun e w' => ∃ p, e = .returned (.pointer (some ⟨p, 0, none⟩)) ∧ Idx w.heap.size p [97, 10, 98] w' ∧ KeepsI w.heap.size w w' ∧ w.heap.size ≤ p) :=
    index_New (B := w.heap.size) [97, 10, 98] (w := w) (Nat.le_refl _) (by decide)
  have C2 : Hid (∀ p u, w.heap.size ≤ u.heap.size → Idx w.heap.size p [97, 10, 98] u → Calls Tryd.prog 20 #[.pointer (some ⟨p, 0, none⟩), .int .i64 1, .string ⟨#[10]⟩] u fun e w' => e = .returned (.int .i64 0) ∧
      Idx w.heap.size p [97, 10, 10, 98] w' ∧ KeepsI w.heap.size u w') := fun p u hB hT => by
    have hok : okI ([97, 10, 98] : List UInt8) 1 := ⟨by omega, by decide⟩
    have := idx_insert 1 [10] hB hT (by decide)
    simp only [if_pos hok] at this
    exact this
  have E : Ix.ends ([97, 10, 10, 98] : List UInt8) = [1, 2, 4] := by decide
  have C3 : Hid (∀ p u, Idx w.heap.size p [97, 10, 10, 98] u → Calls Tryd.prog 12 #[.pointer (some ⟨p, 0, none⟩)] u fun e w' => e = .returned (.int .i64 3) ∧ Below u.heap.size u w') := fun p u h => by
    have := index_Lines (idx_sees h (by decide))
    rw [E] at this
    exact this
  have C4 : Hid (∀ p u, Idx w.heap.size p [97, 10, 10, 98] u → Calls Tryd.prog 14 #[.pointer (some ⟨p, 0, none⟩), .int .i64 1] u fun e w' => e = .returned (.int .i64 2) ∧ Below u.heap.size u w') := fun p u h => by
    have := index_Start (idx_sees h (by decide)) 1
    rw [E] at this
    exact this
  have C5 : Hid (∀ p u, Idx w.heap.size p [97, 10, 10, 98] u → Calls Tryd.prog 16 #[.pointer (some ⟨p, 0, none⟩), .int .i64 1] u fun e w' => e = .returned (.int .i64 2) ∧ Below u.heap.size u w') := fun p u h => by
    have := index_End (idx_sees h (by decide)) 1
    rw [E] at this
    exact this
  clear E
  go_enter Tryd.func8, Tryd.ntmps8
  go_wp2_with (first
    | (go_at_call 9; refine C1.out.mono ?_; rintro e w1 ⟨p, rfl, hI, hK, hp⟩)
    | (go_at_call 20; refine (C2.out p w1 hK.size hI).mono ?_; rintro e w2 ⟨rfl, hI2, hK2⟩)
    | (go_at_call 12; refine (C3.out p _ hI2).mono ?_; rintro e w3 ⟨rfl, hb3⟩; have hI3 := hI2.below hb3)
    | (go_at_call 14; refine (C4.out p _ hI3).mono ?_; rintro e w4 ⟨rfl, hb4⟩; have hI4 := hI3.below hb4)
    | (go_at_call 16; refine (C5.out p _ hI4).mono ?_; rintro e w5 ⟨rfl, hb5⟩))
  go_ret
  have s2 := Nat.le_trans hK.size hK2.size
  have s3 := Nat.le_trans s2 hb3.size
  exact ⟨rfl, (((hK.trans hK2).below.trans (hb3.mono s2)).trans (hb4.mono s3)).trans (hb5.mono (Nat.le_trans s3 hb4.size))⟩
end Go.Proofs.YtgjppkkifclanaaDoor
