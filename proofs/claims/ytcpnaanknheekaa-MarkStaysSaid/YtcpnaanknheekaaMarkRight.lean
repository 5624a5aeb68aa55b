/-
  Whether a number is a name, whether marks may be: as package mark and the document tell it.
-/
import Derived.Test.YtcpnaanknheekaaMark
namespace Go.Proofs.Ytcpnaanknheekaa
open Go.RowKit
open Mrk
theorem mark_Name (n : Int) (w : World) : Calls Try.prog 13 #[.int .i64 n] w fun e w' => e = .returned (.bool (decide (97 ≤ n ∧ n ≤ 122))) ∧ w = w' := by
  by_cases h : 97 ≤ n
  · have d : decide (97 ≤ n) = true := decide_eq_true h
    have H : Hid (decide (97 ≤ n ∧ n ≤ 122) = decide (n ≤ 122)) := by show _ = _; simp [h]
    go_enter Try.func13, Try.ntmps13
    go_wp2
    go_ret
    exact ⟨by rw [H.out]; rfl, rfl⟩
  · have d : decide (97 ≤ n) = false := decide_eq_false h
    rw [show decide (97 ≤ n ∧ n ≤ 122) = false from decide_eq_false fun e => h e.1]
    go_enter Try.func13, Try.ntmps13
    go_wp2
    go_ret
    exact ⟨rfl, rfl⟩
theorem ref10_Name (n : Int) (w : World) : Calls Try.prog 14 #[.int .i64 n] w fun e w' => e = .returned (.bool (decide (97 ≤ n ∧ n ≤ 122))) ∧ w = w' := by
  by_cases h : 97 ≤ n
  · have d : decide (97 ≤ n) = true := decide_eq_true h
    have H : Hid (decide (97 ≤ n ∧ n ≤ 122) = decide (n ≤ 122)) := by show _ = _; simp [h]
    go_enter Try.func14, Try.ntmps14
    go_wp2
    go_ret
    exact ⟨by rw [H.out]; rfl, rfl⟩
  · have d : decide (97 ≤ n) = false := decide_eq_false h
    rw [show decide (97 ≤ n ∧ n ≤ 122) = false from decide_eq_false fun e => h e.1]
    go_enter Try.func14, Try.ntmps14
    go_wp2
    go_ret
    exact ⟨rfl, rfl⟩
theorem mark_within (n : Int) (w : World) : Calls Try.prog 22 #[.int .i64 n] w fun e w' => e = .returned (.bool (decide (0 ≤ n ∧ n ≤ 1099511627776))) ∧ w = w' := by
  by_cases h : 0 ≤ n
  · have d : decide (0 ≤ n) = true := decide_eq_true h
    have H : Hid (decide (0 ≤ n ∧ n ≤ 1099511627776) = decide (n ≤ 1099511627776)) := by show _ = _; simp [h]
    go_enter Try.func22, Try.ntmps22
    go_wp2
    go_ret
    exact ⟨by rw [H.out]; rfl, rfl⟩
  · have d : decide (0 ≤ n) = false := decide_eq_false h
    rw [show decide (0 ≤ n ∧ n ≤ 1099511627776) = false from decide_eq_false fun e => h e.1]
    go_enter Try.func22, Try.ntmps22
    go_wp2
    go_ret
    exact ⟨rfl, rfl⟩
set_option maxHeartbeats 1000000 in
set_option maxRecDepth 100000 in
theorem mark_Right {A : Option Addr} {c : Nat} {ks : List Mk} {w : World} (hx : Mks w A ks) (hm : ks.length ≤ maxLen) :
    Calls Try.prog 11 #[.slice A ks.length c] w fun e w' => e = .returned (.bool (decide (Right ks))) ∧ Below w.heap.size w w' := by
  have hm2 : ks.length ≤ 9223372036854775807 := by unfold maxLen at hm; exact hm
  clear hm
  go_enter Try.func11, Try.ntmps11
  go_wp2_with fail
  go_loopw [7] (fun iv wr => ∃ k : Nat, k ≤ ks.length ∧ iv = .int .i64 k ∧ Hid (Right (ks.take k)) ∧ Below w.heap.size w wr) (fun iv _ => ks.length - (intOf iv).toNat)
  case atStart => exact ⟨0, Nat.zero_le _, rfl, (right_nil : Right (ks.take 0)), Below.refl _ _⟩
  case round =>
    obtain ⟨k, hkl, rfl, HR, hW⟩ := hrel
    by_cases hlt : k < ks.length
    · obtain ⟨x, hkx⟩ : ∃ x, ks[k]? = some x := ⟨_, List.getElem?_eq_getElem hlt⟩
      obtain ⟨b, off, rfl, hbw, c0, c1⟩ := hx.at_ hW (Nat.le_refl _) hkx
      have hs := Lib.hid (right_succ hkx)
      have hW2 : Below w.heap.size w (wr.alloc (.cells #[.int .i64 x.name, .int .i64 x.at_] 44)) := hW.alloc hW.size _
      have hq : ∀ q, Below w.heap.size w ((wr.alloc (.cells #[.int .i64 x.name, .int .i64 x.at_] 44)).drewN q) := fun q => hW2.trans ((below_gb (gb_drewN _ q none)).mono hW2.size)
      have b0 := Blk.new wr 44 #[.int .i64 x.name, .int .i64 x.at_]
      have d0 : (wr.alloc (.cells #[.int .i64 x.name, .int .i64 x.at_] 44)).cell? ⟨wr.heap.size, 0, none⟩ = some (.int .i64 x.name) := b0.cell 0
      have d1 : (wr.alloc (.cells #[.int .i64 x.name, .int .i64 x.at_] 44)).cell? ⟨wr.heap.size, 1, none⟩ = some (.int .i64 x.at_) := b0.cell 1
      have N := Lib.hid (mark_Name x.name)
      have I := Lib.hid (mark_within x.at_)
      have hki : (k : Int) < ks.length := by omega
      have no : ¬ Right (ks.take (k + 1)) → Hid (decide (Right ks) = false) := fun h => decide_eq_false (not_right h)
      clear b0 hW2
      by_cases hn : 97 ≤ x.name ∧ x.name ≤ 122
      · rw [decide_eq_true hn] at N
        by_cases hi : 0 ≤ x.at_ ∧ x.at_ ≤ 1099511627776
        · rw [decide_eq_true hi] at I
          by_cases h0 : 0 < k
          · obtain ⟨j, hj⟩ : ∃ j, k = j + 1 := ⟨k - 1, by omega⟩
            have hjl : j < ks.length := by omega
            obtain ⟨y, hky⟩ : ∃ y, ks[j]? = some y := ⟨_, List.getElem?_eq_getElem hjl⟩
            obtain ⟨b', off', hA', _, e0, _⟩ := hx.at_ hW (Nat.le_refl _) hky
            simp only [Option.some.injEq, Addr.mk.injEq, and_true] at hA'
            obtain ⟨rfl, rfl⟩ := hA'
            have hb2 : b < wr.heap.size := Nat.lt_of_lt_of_le hbw hW.size
            have g0 : decide ((0 : Int) < (k : Int)) = true := decide_eq_true (by omega)
            have g1 : (k : Int) - 1 = j := by omega
            have g2 : (j : Int) < ks.length := by omega
            have hyk : ks[k - 1]? = some y := by rw [hj, Nat.add_sub_cancel]; exact hky
            by_cases hr : y.name < x.name
            · have H : Hid (Right (ks.take (k + 1))) := hs.out.2 ⟨HR.out, ⟨hn, hi⟩, fun z _ hz => by rw [hyk] at hz; injection hz with hz; rw [← hz]; exact hr⟩
              have g3 : decide (x.name ≤ y.name) = false := decide_eq_false (by omega)
              clear hkx hx hky hyk hj no hs
              go_wp2
              go_quiet ((first
                | (go_at_call 13; exact (N.out _).mono fun e w1 h => ⟨h.1, _, h.2.symm⟩)
                | (go_at_call 22; exact (I.out _).mono fun e w1 h => ⟨h.1, _, h.2.symm⟩)))
              go_wp2
              go_roundw
              case rel => exact ⟨k + 1, by omega, by go_num, H, hq _⟩
              case measure => simp [intOf]; omega
            · have H := no fun h => hr ((hs.out.1 h).2.2 y h0 hyk)
              have g3 : decide (x.name ≤ y.name) = true := decide_eq_true (by omega)
              clear hkx hx hky hyk hj no hs
              go_wp2
              go_quiet ((first
                | (go_at_call 13; exact (N.out _).mono fun e w1 h => ⟨h.1, _, h.2.symm⟩)
                | (go_at_call 22; exact (I.out _).mono fun e w1 h => ⟨h.1, _, h.2.symm⟩)))
              go_wp2
              go_ret
              exact ⟨by rw [H.out]; rfl, hq _⟩
          · have H : Hid (Right (ks.take (k + 1))) := hs.out.2 ⟨HR.out, ⟨hn, hi⟩, fun z hz => absurd hz h0⟩
            have g0 : decide ((0 : Int) < (k : Int)) = false := decide_eq_false (by omega)
            clear hkx hx no hs
            go_wp2
            go_quiet ((first
              | (go_at_call 13; exact (N.out _).mono fun e w1 h => ⟨h.1, _, h.2.symm⟩)
              | (go_at_call 22; exact (I.out _).mono fun e w1 h => ⟨h.1, _, h.2.symm⟩)))
            go_wp2
            go_roundw
            case rel => exact ⟨k + 1, by omega, by go_num, H, hq _⟩
            case measure => simp [intOf]; omega
        · have H := no fun h => hi (hs.out.1 h).2.1.2
          rw [decide_eq_false hi] at I
          clear hkx hx no hs
          go_wp2
          go_quiet ((first
            | (go_at_call 13; exact (N.out _).mono fun e w1 h => ⟨h.1, _, h.2.symm⟩)
            | (go_at_call 22; exact (I.out _).mono fun e w1 h => ⟨h.1, _, h.2.symm⟩)))
          go_wp2
          go_ret
          exact ⟨by rw [H.out]; rfl, hq _⟩
      · have H := no fun h => hn (hs.out.1 h).2.1.1
        rw [decide_eq_false hn] at N
        clear hkx hx no hs
        go_wp2
        go_quiet ((first
          | (go_at_call 13; exact (N.out _).mono fun e w1 h => ⟨h.1, _, h.2.symm⟩)
          | (go_at_call 22; exact (I.out _).mono fun e w1 h => ⟨h.1, _, h.2.symm⟩)))
        go_wp2
        go_ret
        exact ⟨by rw [H.out]; rfl, hq _⟩
    · have H : Hid (decide (Right ks) = true) := by
        have := HR.out
        rw [List.take_of_length_le (by omega)] at this
        exact decide_eq_true this
      clear hx
      go_wp2
      go_ret
      exact ⟨by rw [H.out]; rfl, hW⟩
end Go.Proofs.Ytcpnaanknheekaa
