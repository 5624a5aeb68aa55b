/-
  Whether changes are few and short; whether the program tells the document's example.
-/
import Derived.Test.YtlkkajmmcdigoaaDiffs
import Derived.Test.YtlkkajmmcdigoaaCgs
namespace Go.Proofs.Ytlkkajmmcdigoaa
open Go.RowKit
open Utf Chg
/-- An answer that says no more than that changes are few and short, if they are. -/
def ShortIs (m : Nat) (ks : List Cg) (w : World) (e : Ending) (w' : World) : Prop := ∃ b, e = .returned (.bool b) ∧ Below w.heap.size w w' ∧ (b = true → ks.length ≤ 30 ∧ m + weigh ks ≤ 9000)
set_option maxHeartbeats 1000000 in
set_option maxRecDepth 100000 in
theorem short_ok (t : ByteArray) {A : Option Addr} {c : Nat} {ks : List Cg} {w : World} (hx : Cgs w A ks) (ht : t.size ≤ 140737488351232) (hs : ∀ k ∈ ks, k.old.size ≤ 140737488351232 ∧ k.new.size ≤ 140737488351232) (hm : ks.length ≤ maxLen) :
    Calls Try.prog 7 #[.string t, .slice A ks.length c] w (ShortIs t.size ks w) := by
  have HS := Lib.hid hs
  have hm2 : ks.length ≤ 9223372036854775807 := by unfold maxLen at hm; exact hm
  clear hs hm
  go_enter Try.func7, Try.ntmps7
  go_wp2_with fail
  go_loopw [5, 6] (fun n i wr => ∃ k : Nat, k ≤ ks.length ∧ k ≤ 31 ∧ i = .int .i64 k ∧ n = .int .i64 (t.size + weigh (ks.take k) : Nat) ∧ Below w.heap.size w wr) (fun _ i _ => ks.length - (intOf i).toNat)
  case atStart => exact ⟨0, Nat.zero_le _, by omega, rfl, by simp [weigh], Below.refl _ _⟩
  case round =>
    obtain ⟨k, hk, hk2, rfl, rfl, hW⟩ := hrel
    have hb : weigh (ks.take k) ≤ k * (2 * 140737488351232) := by
      have := weigh_le (ks := ks.take k) (fun x hx => HS.out x (List.mem_of_mem_take hx))
      rw [List.length_take, Nat.min_eq_left hk] at this
      exact this
    have hdr : ∀ q, Below w.heap.size w (wr.drewN q) := fun q => hW.trans ((below_gb (gb_drewN wr q none)).mono hW.size)
    by_cases hlt : k < ks.length
    · obtain ⟨x, hkx⟩ : ∃ x, ks[k]? = some x := ⟨_, List.getElem?_eq_getElem hlt⟩
      obtain ⟨b, off, rfl, hbw, _, h1, h2⟩ := hx.at_ hW (Nat.le_refl _) hkx
      have hsn := Lib.hid (weigh_snoc hkx)
      obtain ⟨hxs, hxt⟩ := HS.out x (List.mem_of_getElem? hkx)
      have d1 : decide ((k : Int) < (ks.length : Int)) = true := by simp; omega
      by_cases h31 : k < 31
      · have d2 : decide ((k : Int) < 31) = true := by simp; omega
        have hbb : t.size + weigh (ks.take k) + x.old.size + x.new.size ≤ 9223372036854775807 := by omega
        obtain ⟨N, hN⟩ : ∃ N, t.size + weigh (ks.take k) = N := ⟨_, rfl⟩
        rw [hN] at hbb
        rw [hN]
        have HN : Hid (t.size + weigh (ks.take (k + 1)) = N + (x.old.size + x.new.size)) := by show _ = _; rw [hsn.out]; omega
        clear hkx hb hN hx
        go_wp2
        go_quiet (fail)
        go_wp2
        go_roundw
        case rel => exact ⟨k + 1, by omega, by omega, by go_num, by rw [HN.out]; go_num, hdr _⟩
        case measure => simp [intOf]; omega
      · have d2 : decide ((k : Int) < 31) = false := by simp; omega
        have d3 : decide ((ks.length : Int) ≤ 30) = false := by simp; omega
        have hbb : t.size + weigh (ks.take k) ≤ 9223372036854775807 := by omega
        clear hkx hb hx
        generalize t.size + weigh (ks.take k) = N at *
        go_wp2
        go_ret
        exact ⟨false, rfl, hW, fun h => by cases h⟩
    · have hkl : k = ks.length := by omega
      have d1 : decide ((k : Int) < (ks.length : Int)) = false := by simp; omega
      clear hx
      by_cases h30 : ks.length ≤ 30
      · have d3 : decide ((ks.length : Int) ≤ 30) = true := by simp; omega
        have HT : Hid (t.size + weigh (ks.take k) = t.size + weigh ks) := by show _ = _; rw [hkl, List.take_length]
        clear hb
        generalize t.size + weigh (ks.take k) = N at *
        go_wp2
        go_ret
        exact ⟨_, rfl, hW, fun h => ⟨h30, by have := HT.out; have := of_decide_eq_true h; omega⟩⟩
      · have d3 : decide ((ks.length : Int) ≤ 30) = false := by simp; omega
        clear hb
        generalize t.size + weigh (ks.take k) = N at *
        go_wp2
        go_ret
        exact ⟨false, rfl, hW, fun h => by cases h⟩
theorem near_ok (n : Int) (w : World) : Calls Try.prog 16 #[.int .i64 n] w fun e w' => e = .returned (.bool (decide (-1099511627776 ≤ n ∧ n ≤ 1099511627776))) ∧ w = w' := by
  by_cases h : -1099511627776 ≤ n
  · have d : decide (-1099511627776 ≤ n) = true := decide_eq_true h
    have H : Hid (decide (-1099511627776 ≤ n ∧ n ≤ 1099511627776) = decide (n ≤ 1099511627776)) := by show _ = _; simp [h]
    go_enter Try.func16, Try.ntmps16
    go_wp2
    go_ret
    exact ⟨by rw [H.out]; rfl, rfl⟩
  · have d : decide (-1099511627776 ≤ n) = false := decide_eq_false h
    rw [show decide (-1099511627776 ≤ n ∧ n ≤ 1099511627776) = false from decide_eq_false fun e => h e.1]
    go_enter Try.func16, Try.ntmps16
    go_wp2
    go_ret
    exact ⟨rfl, rfl⟩
theorem abc_diff : dAt [97, 98, 99] [97, 120, 120, 99] = 1 ∧ dOld [97, 98, 99] [97, 120, 120, 99] = [98] ∧ dOld [97, 120, 120, 99] [97, 98, 99] = [120, 120] := by
  have hx := dec_of (rs := [[97], [98], [99]]) (by decide)
  have hy := dec_of (rs := [[97], [120], [120], [99]]) (by decide)
  have hx' : dec [97, 98, 99] = some [[97], [98], [99]] := hx
  have hy' : dec [97, 120, 120, 99] = some [[97], [120], [120], [99]] := hy
  rw [dAt_some (by decide) hx' hy', dOld_some (by decide) hx' hy', dOld_some (by decide) hy' hx']
  decide
set_option maxHeartbeats 1000000 in
set_option maxRecDepth 100000 in
theorem change_lives (w : World) : Calls Try.prog 8 #[] w fun e w' => e = .returned (.bool true) ∧ Below w.heap.size w w' := by
  have C : Hid (∀ w, Calls Try.prog 14 #[.string ⟨#[97, 98, 99]⟩, .string ⟨#[97, 120, 120, 99]⟩] w fun e w' => e = .returned (.agg #[.int .i64 1, .string ⟨#[98]⟩, .string ⟨#[120, 120]⟩]) ∧ Below w.heap.size w w') := fun w => by
    have := change_Diff ⟨#[97, 98, 99]⟩ ⟨#[97, 120, 120, 99]⟩ (by decide) (by decide) w
    simp only [abc_diff.1, abc_diff.2.1, abc_diff.2.2] at this
    exact this
  go_enter Try.func8, Try.ntmps8
  go_wp2_with (go_at_call 14; refine (C.out _).mono ?_; rintro e w1 ⟨rfl, hb⟩)
  go_ret
  exact ⟨rfl, hb⟩
end Go.Proofs.Ytlkkajmmcdigoaa
