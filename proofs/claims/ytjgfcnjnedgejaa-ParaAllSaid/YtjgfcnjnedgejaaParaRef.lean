/-
  The document's blocks of lines: which lines are empty, the lines around one that are like it, Block.
-/
import Derived.Test.YtjgfcnjnedgejaaParaCalls
import Derived.Test.YtjgfcnjnedgejaaLineRefs2
namespace Go.Proofs.Ytjgfcnjnedgejaa
open Go.RowKit
namespace Para
/-- The block of line k alone, as two numbers. -/
def blkN (s : List UInt8) (k : Nat) : Value := .tuple #[.int .i64 ((blockV (all s) k false).1 : Nat), .int .i64 ((blockV (all s) k false).2 : Nat)]
theorem blkN_of {s : List UInt8} (hv : Utf.valid s = true) {k a b : Nat} (h : IsBl (emp s) (Line.L s).length k a b) : blkN s k = .tuple #[.int .i64 (a : Nat), .int .i64 (b : Nat)] := by
  obtain ⟨h1, h2⟩ := ((all_right hv).block (Nat.lt_of_le_of_lt h.ge h.lt)).unique h
  rw [blkN, h1, h2]
end Para
theorem ref18_empty (s : ByteArray) (k : Nat) (hs : s.size ≤ 1000000000000) (hk : k < (Line.L s.data.toList).length) (w : World) :
    Calls Try.prog 22 #[.string s, .int .i64 (k : Nat)] w fun e w' => e = .returned (.bool (Para.emp s.data.toList k)) ∧ Below w.heap.size w w' := by
  have hg := List.getElem?_eq_getElem hk
  have c1 := Lib.hid (fun w => ref4_Start s k hs w)
  have c2 := Lib.hid (fun w => ref4_End s k hs w)
  have H : Hid (Para.emp s.data.toList k = decide ((Line.L s.data.toList)[k].1 = (Line.L s.data.toList)[k].2)) := Para.emp_at hg
  rw [Line.start_some (by rw [Line.line_nat, hg])] at c1
  rw [Line.stop_some (by rw [Line.line_nat, hg])] at c2
  generalize (Line.L s.data.toList)[k] = x at *
  clear hg hk
  go_enter Try.func22, Try.ntmps22
  go_wp2_with (first
    | (go_at_call 23; refine (c1.out _).mono ?_; rintro e w1 ⟨rfl, hb1⟩)
    | (go_at_call 37; refine (c2.out _).mono ?_; rintro e w2 ⟨rfl, hb2⟩))
  go_ret
  refine ⟨?_, hb1.trans (hb2.mono hb1.size)⟩
  rw [H.out]
  show Ending.returned (Value.bool _) = _
  congr 2
  rw [Bool.eq_iff_iff]
  simp
  omega
set_option maxHeartbeats 1000000 in
set_option maxRecDepth 100000 in
theorem below_run {n : Nat} {w u v : World} (h : Below n w u) (g : Below u.heap.size u v) (hn : n ≤ w.heap.size := by omega) : Below n w v := h.trans (g.mono (Nat.le_trans hn h.size))
set_option maxHeartbeats 1000000 in
set_option maxRecDepth 100000 in
theorem ref18_run (s : ByteArray) (k : Nat) (hs : s.size ≤ 1000000000000) (hk : k < (Line.L s.data.toList).length) (w : World) :
    Calls Try.prog 29 #[.string s, .int .i64 (k : Nat)] w fun e w' => e = .returned (Para.blkN s.data.toList k) ∧ Below w.heap.size w w' := by
  have hv := Line.L_valid (List.getElem?_eq_getElem hk)
  have hlen := Line.L_length s.data.toList
  rw [data_len] at hlen
  obtain ⟨m, hm⟩ : ∃ m, (Line.L s.data.toList).length = m + 1 := ⟨(Line.L s.data.toList).length - 1, by omega⟩
  have ek := Lib.hid (fun w => ref18_empty s k hs hk w)
  have cc := Lib.hid (fun w => ref4_Count s hs w)
  rw [hm] at cc
  have HM := Lib.hid hm
  have hkm : k ≤ m := by omega
  have hm9 : m ≤ 1000000000000 := by omega
  obtain ⟨z, hz⟩ : ∃ z, Para.emp s.data.toList k = z := ⟨_, rfl⟩
  rw [hz] at ek
  have HZ := Lib.hid hz
  have hW := Below.refl w.heap.size w
  have q0 : IntKind.i64.wrap ((m : Nat) : Int) = (m : Nat) := by rw [IntKind.wrap_i64]; omega
  clear hz hm hk hlen
  go_enter Try.func29, Try.ntmps29
  go_wp2
  go_loopw [6] (fun av wr => ∃ a : Nat, av = .int .i64 a ∧ a ≤ k ∧ Below w.heap.size w wr ∧ Hid (∀ j, a ≤ j → j ≤ k → Para.emp s.data.toList j = z)) (fun av _ => (intOf av).toNat)
  case atStart => exact ⟨k, rfl, Nat.le_refl _, hW, fun j h1 h2 => by rw [show j = k by omega]; exact HZ.out⟩
  case round =>
    obtain ⟨a, rfl, hak, hW, HA⟩ := hrel
    rcases a with _ | a
    · rw [show (((0 : Nat) : Int)) = 0 from rfl]
      go_wp2
      go_loopw [7] (fun bv wr => ∃ b : Nat, bv = .int .i64 b ∧ k ≤ b ∧ b ≤ m ∧ Below w.heap.size w wr ∧ Hid (∀ j, k ≤ j → j ≤ b → Para.emp s.data.toList j = z)) (fun bv _ => m - (intOf bv).toNat)
      case atStart => exact ⟨k, rfl, Nat.le_refl _, hkm, hW, fun j h1 h2 => by rw [show j = k by omega]; exact HZ.out⟩
      case round =>
        obtain ⟨b, rfl, hkb, hbm, hW, HB⟩ := hrel
        by_cases hlt : b < m
        · have g1 : decide ((b : Int) < (m : Int)) = true := decide_eq_true (by omega)
          have g1n : decide (b < m) = true := decide_eq_true hlt
          have e1 := Lib.hid (fun w => ref18_empty s (b + 1) hs (by have := HM.out; omega) w)
          rw [show ((b + 1 : Nat) : Int) = (b : Int) + 1 from rfl] at e1
          by_cases hz : Para.emp s.data.toList (b + 1) = z
          · have HB2 : Hid (∀ j, k ≤ j → j ≤ b + 1 → Para.emp s.data.toList j = z) := fun j h1 h2 => by
              rcases Nat.lt_or_ge b j with h | h
              · rw [show j = b + 1 by omega]; exact hz
              · exact HB.out j h1 h
            rw [hz] at e1
            have g2 : (z == z) = true := by cases z <;> rfl
            clear hz HB
            go_wp2_with (first
              | (go_at_call 20; (with_reducible refine (cc.out _).mono ?_); rintro e w2 ⟨rfl, hbn⟩; replace hW := below_run hW hbn; clear hbn)
              | (go_at_call 22; (with_reducible refine (e1.out _).mono ?_); rintro e w3 ⟨rfl, hbn⟩; replace hW := below_run hW hbn; clear hbn)
              | (go_at_call 22; (with_reducible refine (ek.out _).mono ?_); rintro e w4 ⟨rfl, hbn⟩; replace hW := below_run hW hbn; clear hbn))
            go_roundw
            case rel => exact ⟨b + 1, by go_num, by omega, by omega, hW, HB2⟩
            case measure => simp [intOf]; omega
          · have hz2 : Para.emp s.data.toList (b + 1) = !z := by cases h : Para.emp s.data.toList (b + 1) <;> cases z <;> simp_all
            have H : Hid (Para.blkN s.data.toList k = .tuple #[.int .i64 ((0 : Nat) : Int), .int .i64 (b : Nat)]) :=
              Para.blkN_of hv ⟨hak, hkb, by rw [HM.out]; omega, fun j h1 h2 => by rw [HZ.out]; rcases Nat.lt_or_ge j k with h | h; exact HA.out j h1 (by omega); exact HB.out j h h2, by rw [HZ.out]; exact .inl rfl, .inr (by rw [hz2, HZ.out]; cases z <;> simp)⟩
            rw [hz2] at e1
            have g2 : ((!z) == z) = false := by cases z <;> rfl
            clear hz hz2 HB
            go_wp2_with (first
              | (go_at_call 20; (with_reducible refine (cc.out _).mono ?_); rintro e w2 ⟨rfl, hbn⟩; replace hW := below_run hW hbn; clear hbn)
              | (go_at_call 22; (with_reducible refine (e1.out _).mono ?_); rintro e w3 ⟨rfl, hbn⟩; replace hW := below_run hW hbn; clear hbn)
              | (go_at_call 22; (with_reducible refine (ek.out _).mono ?_); rintro e w4 ⟨rfl, hbn⟩; replace hW := below_run hW hbn; clear hbn))
            go_ret2
            exact ⟨by rw [H.out]; rfl, hW⟩
        · obtain rfl : b = m := by omega
          have g1 : decide ((b : Int) < (b : Int)) = false := decide_eq_false (by omega)
          have H : Hid (Para.blkN s.data.toList k = .tuple #[.int .i64 ((0 : Nat) : Int), .int .i64 (b : Nat)]) :=
            Para.blkN_of hv ⟨hak, hkb, by rw [HM.out]; omega, fun j h1 h2 => by rw [HZ.out]; rcases Nat.lt_or_ge j k with h | h; exact HA.out j h1 (by omega); exact HB.out j h h2, by rw [HZ.out]; exact .inl rfl, .inl HM.out.symm⟩
          clear HB
          go_wp2_with (first
            | (go_at_call 20; (with_reducible refine (cc.out _).mono ?_); rintro e w2 ⟨rfl, hbn⟩; replace hW := below_run hW hbn; clear hbn))
          go_ret2
          exact ⟨by rw [H.out]; rfl, hW⟩
    · have e0 := Lib.hid (fun w => ref18_empty s a hs (by have := HM.out; omega) w)
      have q1 : IntKind.i64.wrap ((a : Nat) : Int) = (a : Nat) := by rw [IntKind.wrap_i64]; omega
      have g0 : decide ((0 : Int) < (a : Int) + 1) = true := decide_eq_true (by omega)
      by_cases hz : Para.emp s.data.toList a = z
      · have HA2 : Hid (∀ j, a ≤ j → j ≤ k → Para.emp s.data.toList j = z) := fun j h1 h2 => by
          rcases Nat.lt_or_ge a j with h | h
          · exact HA.out j h h2
          · rw [show j = a by omega]; exact hz
        rw [hz] at e0
        have g2 : (z == z) = true := by cases z <;> rfl
        clear hz HA
        go_wp2_with (first
          | (go_at_call 22; (with_reducible refine (e0.out _).mono ?_); rintro e w1 ⟨rfl, hbn⟩; replace hW := below_run hW hbn; clear hbn)
          | (go_at_call 22; (with_reducible refine (ek.out _).mono ?_); rintro e w5 ⟨rfl, hbn⟩; replace hW := below_run hW hbn; clear hbn))
        go_roundw
        case rel => exact ⟨a, by go_num, by omega, hW, HA2⟩
        case measure => simp [intOf]
      · have hz2 : Para.emp s.data.toList a = !z := by cases h : Para.emp s.data.toList a <;> cases z <;> simp_all
        have HD : Hid (Para.emp s.data.toList a ≠ z) := by show _ ≠ _; rw [hz2]; cases z <;> simp
        rw [hz2] at e0
        have g2 : ((!z) == z) = false := by cases z <;> rfl
        clear hz hz2
        go_wp2_with (first
          | (go_at_call 22; (with_reducible refine (e0.out _).mono ?_); rintro e w1 ⟨rfl, hbn⟩; replace hW := below_run hW hbn; clear hbn)
          | (go_at_call 22; (with_reducible refine (ek.out _).mono ?_); rintro e w5 ⟨rfl, hbn⟩; replace hW := below_run hW hbn; clear hbn))
        go_loopw [7] (fun bv wr => ∃ b : Nat, bv = .int .i64 b ∧ k ≤ b ∧ b ≤ m ∧ Below w.heap.size w wr ∧ Hid (∀ j, k ≤ j → j ≤ b → Para.emp s.data.toList j = z)) (fun bv _ => m - (intOf bv).toNat)
        case atStart => exact ⟨k, rfl, Nat.le_refl _, hkm, hW, fun j h1 h2 => by rw [show j = k by omega]; exact HZ.out⟩
        case round =>
          obtain ⟨b, rfl, hkb, hbm, hW, HB⟩ := hrel
          by_cases hlt : b < m
          · have g1 : decide ((b : Int) < (m : Int)) = true := decide_eq_true (by omega)
            have g1n : decide (b < m) = true := decide_eq_true hlt
            have e1 := Lib.hid (fun w => ref18_empty s (b + 1) hs (by have := HM.out; omega) w)
            rw [show ((b + 1 : Nat) : Int) = (b : Int) + 1 from rfl] at e1
            by_cases hz : Para.emp s.data.toList (b + 1) = z
            · have HB2 : Hid (∀ j, k ≤ j → j ≤ b + 1 → Para.emp s.data.toList j = z) := fun j h1 h2 => by
                rcases Nat.lt_or_ge b j with h | h
                · rw [show j = b + 1 by omega]; exact hz
                · exact HB.out j h1 h
              rw [hz] at e1
              have g2 : (z == z) = true := by cases z <;> rfl
              clear hz HB
              go_wp2_with (first
                | (go_at_call 20; (with_reducible refine (cc.out _).mono ?_); rintro e w2 ⟨rfl, hbn⟩; replace hW := below_run hW hbn; clear hbn)
                | (go_at_call 22; (with_reducible refine (e1.out _).mono ?_); rintro e w3 ⟨rfl, hbn⟩; replace hW := below_run hW hbn; clear hbn)
                | (go_at_call 22; (with_reducible refine (ek.out _).mono ?_); rintro e w4 ⟨rfl, hbn⟩; replace hW := below_run hW hbn; clear hbn))
              go_roundw
              case rel => exact ⟨b + 1, by go_num, by omega, by omega, hW, HB2⟩
              case measure => simp [intOf]; omega
            · have hz2 : Para.emp s.data.toList (b + 1) = !z := by cases h : Para.emp s.data.toList (b + 1) <;> cases z <;> simp_all
              have H : Hid (Para.blkN s.data.toList k = .tuple #[.int .i64 (a + 1 : Nat), .int .i64 (b : Nat)]) :=
                Para.blkN_of hv ⟨hak, hkb, by rw [HM.out]; omega, fun j h1 h2 => by rw [HZ.out]; rcases Nat.lt_or_ge j k with h | h; exact HA.out j h1 (by omega); exact HB.out j h h2, by rw [HZ.out]; exact .inr (by rw [Nat.add_sub_cancel]; exact HD.out), .inr (by rw [hz2, HZ.out]; cases z <;> simp)⟩
              rw [hz2] at e1
              have g2 : ((!z) == z) = false := by cases z <;> rfl
              clear hz hz2 HB
              go_wp2_with (first
                | (go_at_call 20; (with_reducible refine (cc.out _).mono ?_); rintro e w2 ⟨rfl, hbn⟩; replace hW := below_run hW hbn; clear hbn)
                | (go_at_call 22; (with_reducible refine (e1.out _).mono ?_); rintro e w3 ⟨rfl, hbn⟩; replace hW := below_run hW hbn; clear hbn)
                | (go_at_call 22; (with_reducible refine (ek.out _).mono ?_); rintro e w4 ⟨rfl, hbn⟩; replace hW := below_run hW hbn; clear hbn))
              go_ret2
              exact ⟨by rw [H.out]; rfl, hW⟩
          · obtain rfl : b = m := by omega
            have g1 : decide ((b : Int) < (b : Int)) = false := decide_eq_false (by omega)
            have H : Hid (Para.blkN s.data.toList k = .tuple #[.int .i64 (a + 1 : Nat), .int .i64 (b : Nat)]) :=
              Para.blkN_of hv ⟨hak, hkb, by rw [HM.out]; omega, fun j h1 h2 => by rw [HZ.out]; rcases Nat.lt_or_ge j k with h | h; exact HA.out j h1 (by omega); exact HB.out j h h2, by rw [HZ.out]; exact .inr (by rw [Nat.add_sub_cancel]; exact HD.out), .inl HM.out.symm⟩
            clear HB
            go_wp2_with (first
              | (go_at_call 20; (with_reducible refine (cc.out _).mono ?_); rintro e w2 ⟨rfl, hbn⟩; replace hW := below_run hW hbn; clear hbn))
            go_ret2
            exact ⟨by rw [H.out]; rfl, hW⟩
end Go.Proofs.Ytjgfcnjnedgejaa
