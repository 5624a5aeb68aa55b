/-
  The document's answers about lines: columns, places of columns, normal places, first signs.
-/
import Derived.Test.YtlfhfpjffdaomaaDoorLineRefs
namespace Go.Proofs.YtlfhfpjffdaomaaDoor
open Go.RowKit
set_option maxRecDepth 100000 in
theorem ref4_Normal (s : ByteArray) (p : Int) (hs : s.size ≤ 1000000000000) (w : World) :
    Calls Tryd.prog 61 #[.string s, .int .i64 p] w fun e w' => e = .returned (.bool (Line.normal s.data.toList p)) ∧ Below w.heap.size w w' := by
  have hl := data_len s
  have c1 := Lib.hid (fun w => ref_Place s p (by omega) w)
  cases hp : Utf.place s.data.toList p with
  | false =>
    rw [hp] at c1
    have H : Hid (Line.normal s.data.toList p = false) := Line.normal_bad hp
    clear hp
    go_enter Tryd.func61, Tryd.ntmps61
    go_wp2_with (go_at_call 60; refine (c1.out _).mono ?_; rintro e w1 ⟨rfl, hb⟩)
    go_ret
    exact ⟨by rw [H.out]; rfl, hb⟩
  | true =>
    rw [hp] at c1
    obtain ⟨n, k, x, rfl, hk, h1, h2, h3, e1, e2, e3⟩ := Line.place_line hp
    have H := Line.normal_in hk hp h1 h2
    have c2 := Lib.hid (fun w => ref4_Of s n hs w)
    have c3 := Lib.hid (fun w => ref4_Start s (Line.of_ s.data.toList n) hs w)
    have c4 := Lib.hid (fun w => ref4_End s (Line.of_ s.data.toList n) hs w)
    rw [e2, e1] at c3
    rw [e3, e1] at c4
    rw [e1] at c2
    clear hp hk e1 e2 e3 hl
    by_cases hlt : n < x.2
    · have K : Hid (Line.normal s.data.toList n = true) := by show _ = _; rw [H]; simp [hlt]
      clear H
      go_enter Tryd.func61, Tryd.ntmps61
      go_wp2_with fail
      refine (c1.out _).mono ?_
      rintro e w1 ⟨rfl, hb1⟩
      go_wp2_with fail
      refine (c2.out _).mono ?_
      rintro e w2 ⟨rfl, hb2⟩
      go_wp2_with fail
      refine (c4.out _).mono ?_
      rintro e w3 ⟨rfl, hb3⟩
      have k2 := hb1.trans (hb2.mono hb1.size)
      have k3 := k2.trans (hb3.mono k2.size)
      clear hb1 hb2 hb3 k2
      go_wp2
      go_ret
      exact ⟨by rw [K.out]; rfl, k3⟩
    · have K : Hid (Line.normal s.data.toList n = ((x.1 : Int) == (n : Int))) := by
        show _ = _; rw [H]
        rw [decide_eq_false hlt, Bool.false_or]
        apply Bool.eq_iff_iff.2
        simp; omega
      clear H
      have hge : ¬ ((n : Int) < (x.2 : Int)) := by omega
      go_enter Tryd.func61, Tryd.ntmps61
      go_wp2_with fail
      refine (c1.out _).mono ?_
      rintro e w1 ⟨rfl, hb1⟩
      go_wp2_with fail
      refine (c2.out _).mono ?_
      rintro e w2 ⟨rfl, hb2⟩
      go_wp2_with fail
      refine (c4.out _).mono ?_
      rintro e w3 ⟨rfl, hb3⟩
      go_wp2_with fail
      refine (c3.out _).mono ?_
      rintro e w4 ⟨rfl, hb4⟩
      have k2 := hb1.trans (hb2.mono hb1.size)
      have k3 := k2.trans (hb3.mono k2.size)
      have k4 := k3.trans (hb4.mono k3.size)
      clear hb1 hb2 hb3 hb4 k2 k3
      go_wp2
      go_ret
      exact ⟨by rw [K.out]; rfl, k4⟩
set_option maxHeartbeats 1000000 in
set_option maxRecDepth 100000 in
theorem ref4_Clamp (s : ByteArray) (p : Int) (hs : s.size ≤ 1000000000000) (w : World) :
    Calls Tryd.prog 43 #[.string s, .int .i64 p] w fun e w' => e = .returned (.int .i64 (Line.clamp s.data.toList p)) ∧ Below w.heap.size w w' := by
  have hl := data_len s
  have c1 := Lib.hid (fun w => ref_Valid s (by omega) w)
  cases hv : Utf.valid s.data.toList with
  | false =>
    rw [hv] at c1
    have H : Hid (Line.clamp s.data.toList p = 0) := by show _ = _; rw [Line.clamp, if_neg (by simp [hv])]
    clear hv
    go_enter Tryd.func43, Tryd.ntmps43
    go_wp2_with (go_at_call 42; refine (c1.out _).mono ?_; rintro e w1 ⟨rfl, hb⟩)
    go_ret
    exact ⟨by rw [H.out]; rfl, hb⟩
  | true =>
    rw [hv] at c1
    obtain ⟨rs, hd⟩ := Utf.valid_of hv
    have hq := Line.clip_le s.data.toList p
    have hqe : min (max p 0) (s.size : Int) = (Line.clip s.data.toList p : Nat) := by unfold Line.clip; omega
    have H : Hid (Line.clamp s.data.toList p = if Line.normal s.data.toList (Line.back s.data.toList (Line.clip s.data.toList p) : Nat) then (Line.back s.data.toList (Line.clip s.data.toList p) : Int) else Utf.prev s.data.toList (Line.back s.data.toList (Line.clip s.data.toList p) : Nat)) := by
      show _ = _; rw [Line.clamp, if_pos hv]
    have D := Lib.hid hd
    clear hv hd
    generalize Line.clip s.data.toList p = q at *
    have hcase : (p < 0 ∧ q = 0) ∨ ((s.size : Int) < p ∧ q = s.size) ∨ (¬ p < 0 ∧ ¬ (s.size : Int) < p ∧ p = (q : Nat)) := by omega
    clear hqe hl
    rcases hcase with ⟨h0, rfl⟩ | ⟨h0, rfl⟩ | ⟨h0, h1, rfl⟩
    · go_enter Tryd.func43, Tryd.ntmps43
      go_wp2_with fail
      refine (c1.out _).mono ?_
      rintro e w1 ⟨rfl, hb1⟩
      go_wp2_with fail
      go_loopw [1] (fun v wr => ∃ y : Nat, y ≤ 0 ∧ v = .int .i64 y ∧ Hid (Line.back s.data.toList 0 = Line.back s.data.toList y) ∧ Below w.heap.size w wr) (fun v _ => (intOf v).toNat)
      case atStart => exact ⟨0, Nat.le_refl _, rfl, rfl, hb1⟩
      case round =>
        obtain ⟨y, hy, rfl, B, hbw⟩ := hrel
        have cp := Lib.hid (fun w => ref_Place s y (by omega) w)
        cases hp : Utf.place s.data.toList (y : Int) with
        | false =>
          rw [hp] at cp
          have hy0 : 0 < y := by
            rcases Nat.eq_zero_or_pos y with rfl | h
            · rw [Line.place_zero D.out] at hp; cases hp
            · exact h
          have B2 : Hid (Line.back s.data.toList 0 = Line.back s.data.toList (y - 1)) := by
            show _ = _
            rw [B.out]
            obtain ⟨z, rfl⟩ : ∃ z, y = z + 1 := ⟨y - 1, by omega⟩
            exact Line.back_not hp
          clear B hp
          go_wp2_with fail
          refine (cp.out _).mono ?_
          rintro e w2 ⟨rfl, hb2⟩
          have hb3 := hbw.trans (hb2.mono hbw.size)
          clear hb2
          go_wp2_with fail
          go_roundw
          case rel => exact ⟨y - 1, by omega, by go_num, B2, hb3⟩
          case measure => simp [intOf]; omega
        | true =>
          rw [hp] at cp
          have K : Hid (Line.clamp s.data.toList p = if Line.normal s.data.toList (y : Nat) then (y : Int) else Utf.prev s.data.toList (y : Nat)) := by
            show _ = _
            rw [H.out, B.out, Line.back_at hp]
          have cm := Lib.hid (fun w => ref4_Normal s y hs w)
          clear B hp
          cases hn : Line.normal s.data.toList (y : Int) with
          | true =>
            rw [hn] at cm
            have K2 : Hid (Line.clamp s.data.toList p = (y : Int)) := by show _ = _; rw [K.out, hn]; rfl
            clear K hn
            go_wp2_with fail
            refine (cp.out _).mono ?_
            rintro e w2 ⟨rfl, hb2⟩
            go_wp2_with fail
            refine (cm.out _).mono ?_
            rintro e w3 ⟨rfl, hb3⟩
            have k2 := hbw.trans (hb2.mono hbw.size)
            have k3 := k2.trans (hb3.mono k2.size)
            go_wp2
            go_ret
            exact ⟨by rw [K2.out]; rfl, k3⟩
          | false =>
            rw [hn] at cm
            have K2 : Hid (Line.clamp s.data.toList p = Utf.prev s.data.toList (y : Nat)) := by show _ = _; rw [K.out, hn]; rfl
            have cv := Lib.hid (fun w => ref_Prev s (y : Nat) (by omega) w)
            clear K hn
            go_wp2_with fail
            refine (cp.out _).mono ?_
            rintro e w2 ⟨rfl, hb2⟩
            go_wp2_with fail
            refine (cm.out _).mono ?_
            rintro e w3 ⟨rfl, hb3⟩
            go_wp2_with fail
            refine (cv.out _).mono ?_
            rintro e w4 ⟨rfl, hb4⟩
            have k2 := hbw.trans (hb2.mono hbw.size)
            have k3 := k2.trans (hb3.mono k2.size)
            have k4 := k3.trans (hb4.mono k3.size)
            go_wp2
            go_ret
            exact ⟨by rw [K2.out]; rfl, k4⟩
    · have h2 : ¬ p < 0 := by omega
      go_enter Tryd.func43, Tryd.ntmps43
      go_wp2_with fail
      refine (c1.out _).mono ?_
      rintro e w1 ⟨rfl, hb1⟩
      go_wp2_with fail
      go_loopw [1] (fun v wr => ∃ y : Nat, y ≤ s.size ∧ v = .int .i64 y ∧ Hid (Line.back s.data.toList s.size = Line.back s.data.toList y) ∧ Below w.heap.size w wr) (fun v _ => (intOf v).toNat)
      case atStart => exact ⟨s.size, Nat.le_refl _, rfl, rfl, hb1⟩
      case round =>
        obtain ⟨y, hy, rfl, B, hbw⟩ := hrel
        have cp := Lib.hid (fun w => ref_Place s y (by omega) w)
        cases hp : Utf.place s.data.toList (y : Int) with
        | false =>
          rw [hp] at cp
          have hy0 : 0 < y := by
            rcases Nat.eq_zero_or_pos y with rfl | h
            · rw [Line.place_zero D.out] at hp; cases hp
            · exact h
          have B2 : Hid (Line.back s.data.toList s.size = Line.back s.data.toList (y - 1)) := by
            show _ = _
            rw [B.out]
            obtain ⟨z, rfl⟩ : ∃ z, y = z + 1 := ⟨y - 1, by omega⟩
            exact Line.back_not hp
          clear B hp
          go_wp2_with fail
          refine (cp.out _).mono ?_
          rintro e w2 ⟨rfl, hb2⟩
          have hb3 := hbw.trans (hb2.mono hbw.size)
          clear hb2
          go_wp2_with fail
          go_roundw
          case rel => exact ⟨y - 1, by omega, by go_num, B2, hb3⟩
          case measure => simp [intOf]; omega
        | true =>
          rw [hp] at cp
          have K : Hid (Line.clamp s.data.toList p = if Line.normal s.data.toList (y : Nat) then (y : Int) else Utf.prev s.data.toList (y : Nat)) := by
            show _ = _
            rw [H.out, B.out, Line.back_at hp]
          have cm := Lib.hid (fun w => ref4_Normal s y hs w)
          clear B hp
          cases hn : Line.normal s.data.toList (y : Int) with
          | true =>
            rw [hn] at cm
            have K2 : Hid (Line.clamp s.data.toList p = (y : Int)) := by show _ = _; rw [K.out, hn]; rfl
            clear K hn
            go_wp2_with fail
            refine (cp.out _).mono ?_
            rintro e w2 ⟨rfl, hb2⟩
            go_wp2_with fail
            refine (cm.out _).mono ?_
            rintro e w3 ⟨rfl, hb3⟩
            have k2 := hbw.trans (hb2.mono hbw.size)
            have k3 := k2.trans (hb3.mono k2.size)
            go_wp2
            go_ret
            exact ⟨by rw [K2.out]; rfl, k3⟩
          | false =>
            rw [hn] at cm
            have K2 : Hid (Line.clamp s.data.toList p = Utf.prev s.data.toList (y : Nat)) := by show _ = _; rw [K.out, hn]; rfl
            have cv := Lib.hid (fun w => ref_Prev s (y : Nat) (by omega) w)
            clear K hn
            go_wp2_with fail
            refine (cp.out _).mono ?_
            rintro e w2 ⟨rfl, hb2⟩
            go_wp2_with fail
            refine (cm.out _).mono ?_
            rintro e w3 ⟨rfl, hb3⟩
            go_wp2_with fail
            refine (cv.out _).mono ?_
            rintro e w4 ⟨rfl, hb4⟩
            have k2 := hbw.trans (hb2.mono hbw.size)
            have k3 := k2.trans (hb3.mono k2.size)
            have k4 := k3.trans (hb4.mono k3.size)
            go_wp2
            go_ret
            exact ⟨by rw [K2.out]; rfl, k4⟩
    · have h2 : q ≤ s.size := by omega
      have d1 : decide ((q : Int) < 0) = false := decide_eq_false (by omega)
      have d2 : decide (s.size < q) = false := decide_eq_false (by omega)
      go_enter Tryd.func43, Tryd.ntmps43
      go_wp2_with fail
      refine (c1.out _).mono ?_
      rintro e w1 ⟨rfl, hb1⟩
      go_wp2_with fail
      go_loopw [1] (fun v wr => ∃ y : Nat, y ≤ q ∧ v = .int .i64 y ∧ Hid (Line.back s.data.toList q = Line.back s.data.toList y) ∧ Below w.heap.size w wr) (fun v _ => (intOf v).toNat)
      case atStart => exact ⟨q, Nat.le_refl _, rfl, rfl, hb1⟩
      case round =>
        obtain ⟨y, hy, rfl, B, hbw⟩ := hrel
        have cp := Lib.hid (fun w => ref_Place s y (by omega) w)
        cases hp : Utf.place s.data.toList (y : Int) with
        | false =>
          rw [hp] at cp
          have hy0 : 0 < y := by
            rcases Nat.eq_zero_or_pos y with rfl | h
            · rw [Line.place_zero D.out] at hp; cases hp
            · exact h
          have B2 : Hid (Line.back s.data.toList q = Line.back s.data.toList (y - 1)) := by
            show _ = _
            rw [B.out]
            obtain ⟨z, rfl⟩ : ∃ z, y = z + 1 := ⟨y - 1, by omega⟩
            exact Line.back_not hp
          clear B hp
          go_wp2_with fail
          refine (cp.out _).mono ?_
          rintro e w2 ⟨rfl, hb2⟩
          have hb3 := hbw.trans (hb2.mono hbw.size)
          clear hb2
          go_wp2_with fail
          go_roundw
          case rel => exact ⟨y - 1, by omega, by go_num, B2, hb3⟩
          case measure => simp [intOf]; omega
        | true =>
          rw [hp] at cp
          have K : Hid (Line.clamp s.data.toList (q : Nat) = if Line.normal s.data.toList (y : Nat) then (y : Int) else Utf.prev s.data.toList (y : Nat)) := by
            show _ = _
            rw [H.out, B.out, Line.back_at hp]
          have cm := Lib.hid (fun w => ref4_Normal s y hs w)
          clear B hp
          cases hn : Line.normal s.data.toList (y : Int) with
          | true =>
            rw [hn] at cm
            have K2 : Hid (Line.clamp s.data.toList (q : Nat) = (y : Int)) := by show _ = _; rw [K.out, hn]; rfl
            clear K hn
            go_wp2_with fail
            refine (cp.out _).mono ?_
            rintro e w2 ⟨rfl, hb2⟩
            go_wp2_with fail
            refine (cm.out _).mono ?_
            rintro e w3 ⟨rfl, hb3⟩
            have k2 := hbw.trans (hb2.mono hbw.size)
            have k3 := k2.trans (hb3.mono k2.size)
            go_wp2
            go_ret
            exact ⟨by rw [K2.out]; rfl, k3⟩
          | false =>
            rw [hn] at cm
            have K2 : Hid (Line.clamp s.data.toList (q : Nat) = Utf.prev s.data.toList (y : Nat)) := by show _ = _; rw [K.out, hn]; rfl
            have cv := Lib.hid (fun w => ref_Prev s (y : Nat) (by omega) w)
            clear K hn
            go_wp2_with fail
            refine (cp.out _).mono ?_
            rintro e w2 ⟨rfl, hb2⟩
            go_wp2_with fail
            refine (cm.out _).mono ?_
            rintro e w3 ⟨rfl, hb3⟩
            go_wp2_with fail
            refine (cv.out _).mono ?_
            rintro e w4 ⟨rfl, hb4⟩
            have k2 := hbw.trans (hb2.mono hbw.size)
            have k3 := k2.trans (hb3.mono k2.size)
            have k4 := k3.trans (hb4.mono k3.size)
            go_wp2
            go_ret
            exact ⟨by rw [K2.out]; rfl, k4⟩
set_option maxHeartbeats 1000000 in
set_option maxRecDepth 100000 in
theorem ref4_First (s : ByteArray) (k : Int) (hs : s.size ≤ 1000000000000) (w : World) :
    Calls Tryd.prog 28 #[.string s, .int .i64 k] w fun e w' => e = .returned (.int .i64 (Line.first s.data.toList k)) ∧ Below w.heap.size w w' := by
  have hl := data_len s
  have c := Lib.hid (fun w => ref4_Start s k hs w)
  have ce := Lib.hid (fun w => ref4_End s k hs w)
  cases hx : Line.line s.data.toList k with
  | none =>
    rw [Line.start_none hx] at c
    have H : Hid (Line.first s.data.toList k = -1) := by show _ = _; rw [Line.first, hx]
    clear hx
    go_enter Tryd.func28, Tryd.ntmps28
    go_wp2_with (go_at_call 30; refine (c.out _).mono ?_; rintro e w1 ⟨rfl, hb⟩)
    go_ret
    exact ⟨by rw [H.out]; rfl, hb⟩
  | some x =>
    rw [Line.start_some hx] at c
    rw [Line.stop_some hx] at ce
    obtain ⟨n, rfl, hk⟩ := Line.line_some hx
    obtain ⟨h1, h2⟩ := Line.L_each hk
    have H : Hid (Line.first s.data.toList n = if Line.skip s.data.toList x.1 (x.2 - x.1) = x.2 then Line.clamp s.data.toList x.2 else (Line.skip s.data.toList x.1 (x.2 - x.1) : Nat)) := by show _ = _; rw [Line.first, hx]
    have cc := Lib.hid (fun w => ref4_Clamp s x.2 hs w)
    clear hx hk
    go_enter Tryd.func28, Tryd.ntmps28
    go_wp2_with fail
    refine (c.out _).mono ?_
    rintro e w1 ⟨rfl, hb1⟩
    go_wp2_with fail
    refine (c.out _).mono ?_
    rintro e w2 ⟨rfl, hb2⟩
    have hb := hb1.trans (hb2.mono hb1.size)
    clear hb1 hb2
    go_wp2_with fail
    go_loopw [5] (fun v wr => ∃ y : Nat, x.1 ≤ y ∧ y ≤ x.2 ∧ v = .int .i64 y ∧ Hid (Line.skip s.data.toList x.1 (x.2 - x.1) = Line.skip s.data.toList y (x.2 - y)) ∧ Below w.heap.size w wr) (fun v _ => x.2 - (intOf v).toNat)
    case atStart => exact ⟨x.1, Nat.le_refl _, h1, rfl, rfl, hb⟩
    case round =>
      obtain ⟨y, hy1, hy2, rfl, B, hbw⟩ := hrel
      rcases Nat.lt_or_ge y x.2 with hlt | hge
      · have hys : y < s.size := by omega
        have hg := byte_get s hys
        have hb8 := s[y].toNat_lt
        by_cases hbl : s[y].toNat = 32 ∨ s[y].toNat = 9
        · have B2 : Hid (Line.skip s.data.toList x.1 (x.2 - x.1) = Line.skip s.data.toList (y + 1) (x.2 - (y + 1))) := by
            show _ = _
            rw [B.out, show x.2 - y = (x.2 - (y + 1)) + 1 by omega, Line.skip, if_pos]
            rw [hg]
            rcases hbl with h | h
            · exact Or.inl (congrArg some (UInt8.toNat_inj.1 h))
            · exact Or.inr (congrArg some (UInt8.toNat_inj.1 h))
          clear B H hg
          rcases hbl with h | h
          · go_wp2_with fail
            refine (ce.out _).mono ?_
            rintro e w3 ⟨rfl, hb3⟩
            have hb4 := hbw.trans (hb3.mono hbw.size)
            clear hb3
            go_wp2
            go_roundw
            case rel => exact ⟨y + 1, by omega, by omega, by go_num, B2, hb4⟩
            case measure => simp [intOf]; omega
          · go_wp2_with fail
            refine (ce.out _).mono ?_
            rintro e w3 ⟨rfl, hb3⟩
            have hb4 := hbw.trans (hb3.mono hbw.size)
            clear hb3
            go_wp2
            go_roundw
            case rel => exact ⟨y + 1, by omega, by omega, by go_num, B2, hb4⟩
            case measure => simp [intOf]; omega
        · have K : Hid (Line.first s.data.toList n = y) := by
            show _ = _
            have hsk : Line.skip s.data.toList y (x.2 - y) = y := by
              rw [show x.2 - y = (x.2 - (y + 1)) + 1 by omega, Line.skip, if_neg]
              rw [hg]
              rintro (h | h) <;>
              · injection h with h
                rw [h] at hbl
                exact hbl (by decide)
            rw [H.out, B.out, hsk, if_neg (by omega)]
          have n1 : s[y].toNat ≠ 32 := fun h => hbl (Or.inl h)
          have n2 : s[y].toNat ≠ 9 := fun h => hbl (Or.inr h)
          have g1 : ((s[y].toNat : Int) == 32) = false := by simp; omega
          have g2 : ((s[y].toNat : Int) == 9) = false := by simp; omega
          have g3 : ((y : Int) == (x.2 : Int)) = false := by simp; omega
          clear B H hg hbl
          go_wp2_with fail
          refine (ce.out _).mono ?_
          rintro e w3 ⟨rfl, hb3⟩
          have hb4 := hbw.trans (hb3.mono hbw.size)
          clear hb3
          go_wp2_with fail
          refine (ce.out _).mono ?_
          rintro e w4 ⟨rfl, hb5⟩
          have hb6 := hb4.trans (hb5.mono hb4.size)
          go_wp2
          go_ret
          exact ⟨by rw [K.out]; rfl, hb6⟩
      · have K : Hid (Line.first s.data.toList n = Line.clamp s.data.toList x.2) := by
          show _ = _
          rw [H.out, B.out, show x.2 - y = 0 by omega, Line.skip, if_pos (by omega)]
        obtain rfl : y = x.2 := by omega
        clear B H
        go_wp2_with fail
        refine (ce.out _).mono ?_
        rintro e w3 ⟨rfl, hb3⟩
        have hb4 := hbw.trans (hb3.mono hbw.size)
        clear hb3
        go_wp2_with fail
        refine (ce.out _).mono ?_
        rintro e w4 ⟨rfl, hb5⟩
        have hb6 := hb4.trans (hb5.mono hb4.size)
        clear hb5
        go_wp2_with fail
        refine (cc.out _).mono ?_
        rintro e w5 ⟨rfl, hb7⟩
        have hb8 := hb6.trans (hb7.mono hb6.size)
        go_wp2
        go_ret
        exact ⟨by rw [K.out]; rfl, hb8⟩
end Go.Proofs.YtlfhfpjffdaomaaDoor
