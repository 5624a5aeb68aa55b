/-
  Where a place goes by changes, as package change tells it.
-/
import Derived.Test.YtcpnaanknheekaaShiftPlain
import Derived.Test.YtcpnaanknheekaaCgs
namespace Go.Proofs.Ytcpnaanknheekaa
open Go.RowKit
open Chg
/-- Where a place goes by changes, one made behind the other. -/
def shifts (p : Int) (ks : List Cg) : Int := ks.foldl (fun p k => shift p k.at_ k.old.size k.new.size) p
theorem shifts_snoc {p : Int} {ks : List Cg} {j : Nat} {k : Cg} (h : ks[j]? = some k) : shifts p (ks.take (j + 1)) = shift (shifts p (ks.take j)) k.at_ k.old.size k.new.size := by
  obtain ⟨hj, rfl⟩ := List.getElem?_eq_some_iff.1 h
  rw [List.take_succ_eq_append_getElem hj, shifts, List.foldl_append]
  rfl
set_option maxHeartbeats 1000000 in
set_option maxRecDepth 100000 in
theorem change_Shift_wide (p : Int) {A : Option Addr} {c : Nat} {ks : List Cg} {w : World} (hx : Cgs w A ks) (hp : -1099511627776 ≤ p ∧ p ≤ 1099511627776) (hk : ∀ k ∈ ks, -1099511627776 ≤ k.at_ ∧ k.at_ ≤ 1099511627776) (hs : weigh ks ≤ 1000000) (hm : ks.length ≤ 100000) :
    Calls Try.prog 21 #[.int .i64 p, .slice A ks.length c] w fun e w' => e = .returned (.int .i64 (shifts p ks)) ∧ Below w.heap.size w w' := by
  have HK := Lib.hid hk
  clear hk
  go_enter Try.func21, Try.ntmps21
  go_wp2_with fail
  go_loopw [0, 9] (fun pv iv wr => ∃ (k : Nat) (q : Int), k ≤ ks.length ∧ iv = .int .i64 k ∧ pv = .int .i64 q ∧ Hid (q = shifts p (ks.take k)) ∧ -1099511627776 - (weigh (ks.take k) : Int) ≤ q ∧ q ≤ 1099511627776 + (weigh (ks.take k) : Int) ∧ Below w.heap.size w wr) (fun _ iv _ => ks.length - (intOf iv).toNat)
  case atStart => exact ⟨0, p, Nat.zero_le _, rfl, rfl, rfl, by simp [weigh]; omega, by simp [weigh]; omega, Below.refl _ _⟩
  case round =>
    obtain ⟨k, q, hkl, rfl, rfl, hq, hq1, hq2, hW⟩ := hrel
    by_cases hlt : k < ks.length
    · obtain ⟨x, hkx⟩ : ∃ x, ks[k]? = some x := ⟨_, List.getElem?_eq_getElem hlt⟩
      obtain ⟨b, off, rfl, hbw, c0, c1, c2⟩ := hx.at_ hW (Nat.le_refl _) hkx
      have hsn := weigh_snoc hkx
      have htk := weigh_take ks (k + 1)
      have hsh := shifts_snoc (p := p) hkx
      rw [← hq.out] at hsh
      obtain ⟨x1, x2⟩ := HK.out x (List.mem_of_getElem? hkx)
      have hb2 : b < wr.heap.size := Nat.lt_of_lt_of_le hbw hW.size
      have hW2 : Below w.heap.size w (wr.alloc (.cells #[.int .i64 x.at_, .string x.old, .string x.new] 38)) := hW.alloc hW.size _
      have b0 := Blk.new wr 38 #[.int .i64 x.at_, .string x.old, .string x.new]
      have d0 : (wr.alloc (.cells #[.int .i64 x.at_, .string x.old, .string x.new] 38)).cell? ⟨wr.heap.size, 0, none⟩ = some (.int .i64 x.at_) := b0.cell 0
      have d1 : (wr.alloc (.cells #[.int .i64 x.at_, .string x.old, .string x.new] 38)).cell? ⟨wr.heap.size, 1, none⟩ = some (.string x.old) := b0.cell 1
      have d2 : (wr.alloc (.cells #[.int .i64 x.at_, .string x.old, .string x.new] 38)).cell? ⟨wr.heap.size, 2, none⟩ = some (.string x.new) := b0.cell 2
      clear hkx b0 hx
      go_wp2
      all_goals exact ⟨⟨k + 1, _, by omega, by go_num, rfl, (by show _ = _; rw [hsh]; unfold shift; split <;> (try split) <;> omega), by omega, by omega, hW2⟩, by simp [intOf]; omega⟩
    · have hkl2 : k = ks.length := by omega
      have H : Hid (q = shifts p ks) := by show _ = _; rw [hq.out, hkl2, List.take_length]
      clear hx
      go_wp2
      go_ret
      exact ⟨by rw [H.out]; rfl, hW⟩
set_option maxHeartbeats 1000000 in
set_option maxRecDepth 100000 in
theorem ref8_Shift_wide (p : Int) {A : Option Addr} {c : Nat} {ks : List Cg} {w : World} (hx : Cgs w A ks) (hp : -1099511627776 ≤ p ∧ p ≤ 1099511627776) (hk : ∀ k ∈ ks, -1099511627776 ≤ k.at_ ∧ k.at_ ≤ 1099511627776) (hs : weigh ks ≤ 1000000) (hm : ks.length ≤ 100000) :
    Calls Try.prog 26 #[.int .i64 p, .slice A ks.length c] w fun e w' => e = .returned (.int .i64 (shifts p ks)) ∧ Below w.heap.size w w' := by
  have HK := Lib.hid hk
  clear hk
  go_enter Try.func26, Try.ntmps26
  go_wp2_with fail
  go_loopw [0, 5] (fun pv iv wr => ∃ (k : Nat) (q : Int), k ≤ ks.length ∧ iv = .int .i64 k ∧ pv = .int .i64 q ∧ Hid (q = shifts p (ks.take k)) ∧ -1099511627776 - (weigh (ks.take k) : Int) ≤ q ∧ q ≤ 1099511627776 + (weigh (ks.take k) : Int) ∧ Below w.heap.size w wr) (fun _ iv _ => ks.length - (intOf iv).toNat)
  case atStart => exact ⟨0, p, Nat.zero_le _, rfl, rfl, rfl, by simp [weigh]; omega, by simp [weigh]; omega, Below.refl _ _⟩
  case round =>
    obtain ⟨k, q, hkl, rfl, rfl, hq, hq1, hq2, hW⟩ := hrel
    by_cases hlt : k < ks.length
    · obtain ⟨x, hkx⟩ : ∃ x, ks[k]? = some x := ⟨_, List.getElem?_eq_getElem hlt⟩
      obtain ⟨b, off, rfl, hbw, c0, c1, c2⟩ := hx.at_ hW (Nat.le_refl _) hkx
      have hsn := weigh_snoc hkx
      have htk := weigh_take ks (k + 1)
      have hsh := shifts_snoc (p := p) hkx
      rw [← hq.out] at hsh
      obtain ⟨x1, x2⟩ := HK.out x (List.mem_of_getElem? hkx)
      have hdr : ∀ q, Below w.heap.size w (wr.drewN q) := fun q => hW.trans ((below_gb (gb_drewN wr q none)).mono hW.size)
      clear hkx hx
      by_cases h1 : q < x.at_
      · have g1 : decide (x.at_ ≤ q) = false := decide_eq_false (by omega)
        have g2 : decide (x.at_ + (x.old.size : Int) ≤ q) = false := decide_eq_false (by omega)
        have H : Hid (q = shifts p (ks.take (k + 1))) := by show _ = _; rw [hsh, shift, if_pos h1]
        go_wp2
        go_quiet (fail)
        go_wp2
        go_roundw
        case rel => exact ⟨k + 1, q, by omega, by go_num, rfl, H, by omega, by omega, hdr _⟩
        case measure => simp [intOf]; omega
      · have g1 : decide (x.at_ ≤ q) = true := decide_eq_true (by omega)
        by_cases h2 : q < x.at_ + (x.old.size : Int)
        · have g2 : decide (q < x.at_ + (x.old.size : Int)) = true := decide_eq_true h2
          have H : Hid (x.at_ = shifts p (ks.take (k + 1))) := by show _ = _; rw [hsh, shift, if_neg h1, if_pos h2]
          go_wp2
          go_quiet (fail)
          go_wp2
          go_roundw
          case rel => exact ⟨k + 1, x.at_, by omega, by go_num, rfl, H, by omega, by omega, hdr _⟩
          case measure => simp [intOf]; omega
        · have g2 : decide (q < x.at_ + (x.old.size : Int)) = false := decide_eq_false h2
          have g3 : decide (x.at_ + (x.old.size : Int) ≤ q) = true := decide_eq_true (by omega)
          have H : Hid (q - (x.old.size : Int) + (x.new.size : Int) = shifts p (ks.take (k + 1))) := by show _ = _; rw [hsh, shift, if_neg h1, if_neg h2]; omega
          go_wp2
          go_quiet (fail)
          go_wp2
          go_quiet (fail)
          go_wp2
          go_roundw
          case rel => exact ⟨k + 1, q - (x.old.size : Int) + (x.new.size : Int), by omega, by go_num, rfl, H, by omega, by omega, hdr _⟩
          case measure => simp [intOf]; omega
    · have hkl2 : k = ks.length := by omega
      have H : Hid (q = shifts p ks) := by show _ = _; rw [hq.out, hkl2, List.take_length]
      clear hx
      go_wp2
      go_ret
      exact ⟨by rw [H.out]; rfl, hW⟩
theorem change_Shift (p : Int) {A : Option Addr} {c : Nat} {ks : List Cg} {w : World} (hx : Cgs w A ks) (hp : -1099511627776 ≤ p ∧ p ≤ 1099511627776) (hk : ∀ k ∈ ks, -1099511627776 ≤ k.at_ ∧ k.at_ ≤ 1099511627776) (hs : weigh ks ≤ 100000) (hm : ks.length ≤ 100000) :
    Calls Try.prog 21 #[.int .i64 p, .slice A ks.length c] w fun e w' => e = .returned (.int .i64 (shifts p ks)) ∧ Below w.heap.size w w' := change_Shift_wide p hx hp hk (by omega) hm
theorem ref8_Shift (p : Int) {A : Option Addr} {c : Nat} {ks : List Cg} {w : World} (hx : Cgs w A ks) (hp : -1099511627776 ≤ p ∧ p ≤ 1099511627776) (hk : ∀ k ∈ ks, -1099511627776 ≤ k.at_ ∧ k.at_ ≤ 1099511627776) (hs : weigh ks ≤ 100000) (hm : ks.length ≤ 100000) :
    Calls Try.prog 26 #[.int .i64 p, .slice A ks.length c] w fun e w' => e = .returned (.int .i64 (shifts p ks)) ∧ Below w.heap.size w w' := ref8_Shift_wide p hx hp hk (by omega) hm
end Go.Proofs.Ytcpnaanknheekaa
