/-
  The document's answers about lines: columns, places of columns, normal places, first signs.
-/
import Derived.Test.YtdclopfhffjkfaaDoorLineRefs
namespace Go.Proofs.YtdclopfhffjkfaaDoor
open Go.RowKit
set_option maxRecDepth 100000 in
theorem ref4_Column (s : ByteArray) (p : Int) (hs : s.size ≤ 1000000000000) (w : World) :
    Calls Tryd.prog 40 #[.string s, .int .i64 p] w fun e w' => e = .returned (.int .i64 (Line.column s.data.toList p)) ∧ Below w.heap.size w w' := by
  have hl := data_len s
  have c1 := Lib.hid (fun w => ref_Place s p (by omega) w)
  cases hp : Utf.place s.data.toList p with
  | false =>
    rw [hp] at c1
    have H : Hid (Line.column s.data.toList p = -1) := by show _ = _; rw [Line.column, hp]; rfl
    clear hp
    go_enter Tryd.func40, Tryd.ntmps40
    go_wp2_with (go_at_call 25; refine (c1.out _).mono ?_; rintro e w1 ⟨rfl, hb⟩)
    go_ret
    exact ⟨by rw [H.out]; rfl, hb⟩
  | true =>
    rw [hp] at c1
    obtain ⟨n, k, x, rfl, hk, h1, h2, h3, e1, e2, e3⟩ := Line.place_line hp
    have H : Hid (Line.column s.data.toList n = Utf.count (Line.seg s.data.toList x.1 n)) := by
      show _ = _; rw [Line.column, hp, if_pos rfl, e2]; rfl
    have c2 := Lib.hid (fun w => ref4_Of s n hs w)
    have c3 := Lib.hid (fun w => ref4_Start s (Line.of_ s.data.toList n) hs w)
    rw [e2, e1] at c3
    rw [e1] at c2
    have E := ext_seg s x.1 n
    have cc := fun w => ref_Count (s.extract x.1 n) (by rw [ByteArray.size_extract]; omega) w
    rw [E, bs_toList, ← E] at cc
    have C := Lib.hid cc
    have d1 : (0 : Int) ≤ (x.1 : Int) := by omega
    have d2 : (x.1 : Int) ≤ (n : Int) := by omega
    have d3 : (n : Int) ≤ (s.size : Int) := by omega
    clear hp hk e1 e2 e3 E cc hl
    go_enter Tryd.func40, Tryd.ntmps40
    go_wp2_with fail
    refine (c1.out _).mono ?_
    rintro e w1 ⟨rfl, hb1⟩
    go_wp2_with fail
    refine (c2.out _).mono ?_
    rintro e w2 ⟨rfl, hb2⟩
    go_wp2_with fail
    refine (c3.out _).mono ?_
    rintro e w3 ⟨rfl, hb3⟩
    go_wp2_with fail
    refine (C.out _).mono ?_
    rintro e w4 ⟨rfl, hb4⟩
    have k2 := hb1.trans (hb2.mono hb1.size)
    have k3 := k2.trans (hb3.mono k2.size)
    have k4 := k3.trans (hb4.mono k3.size)
    clear hb1 hb2 hb3 hb4 k2 k3
    go_wp2
    go_ret
    exact ⟨by rw [H.out]; rfl, k4⟩
set_option maxRecDepth 100000 in
theorem ref4_Normal (s : ByteArray) (p : Int) (hs : s.size ≤ 1000000000000) (w : World) :
    Calls Tryd.prog 64 #[.string s, .int .i64 p] w fun e w' => e = .returned (.bool (Line.normal s.data.toList p)) ∧ Below w.heap.size w w' := by
  have hl := data_len s
  have c1 := Lib.hid (fun w => ref_Place s p (by omega) w)
  cases hp : Utf.place s.data.toList p with
  | false =>
    rw [hp] at c1
    have H : Hid (Line.normal s.data.toList p = false) := Line.normal_bad hp
    clear hp
    go_enter Tryd.func64, Tryd.ntmps64
    go_wp2_with (go_at_call 25; refine (c1.out _).mono ?_; rintro e w1 ⟨rfl, hb⟩)
    go_ret
    exact ⟨by rw [H.out]; rfl, hb⟩
  | true =>
    rw [hp] at c1
    obtain ⟨n, k, x, rfl, hk, h1, h2, h3, e1, e2, e3⟩ := Line.place_line hp
    have H := Line.normal_in hk hp h1 h2
    have c2 := Lib.hid (fun w => ref4_Of s n hs w)
    have c3 := Lib.hid (fun w => ref4_Start s (Line.of_ s.data.toList n) hs w)
    have c4 := Lib.hid (fun w => ref4_End s (Line.of_ s.data.toList n) hs w)
    rw [e2, e1] at c3
    rw [e3, e1] at c4
    rw [e1] at c2
    clear hp hk e1 e2 e3 hl
    by_cases hlt : n < x.2
    · have K : Hid (Line.normal s.data.toList n = true) := by show _ = _; rw [H]; simp [hlt]
      clear H
      go_enter Tryd.func64, Tryd.ntmps64
      go_wp2_with fail
      refine (c1.out _).mono ?_
      rintro e w1 ⟨rfl, hb1⟩
      go_wp2_with fail
      refine (c2.out _).mono ?_
      rintro e w2 ⟨rfl, hb2⟩
      go_wp2_with fail
      refine (c4.out _).mono ?_
      rintro e w3 ⟨rfl, hb3⟩
      have k2 := hb1.trans (hb2.mono hb1.size)
      have k3 := k2.trans (hb3.mono k2.size)
      clear hb1 hb2 hb3 k2
      go_wp2
      go_ret
      exact ⟨by rw [K.out]; rfl, k3⟩
    · have K : Hid (Line.normal s.data.toList n = ((x.1 : Int) == (n : Int))) := by
        show _ = _; rw [H]
        rw [decide_eq_false hlt, Bool.false_or]
        apply Bool.eq_iff_iff.2
        simp; omega
      clear H
      have hge : ¬ ((n : Int) < (x.2 : Int)) := by omega
      go_enter Tryd.func64, Tryd.ntmps64
      go_wp2_with fail
      refine (c1.out _).mono ?_
      rintro e w1 ⟨rfl, hb1⟩
      go_wp2_with fail
      refine (c2.out _).mono ?_
      rintro e w2 ⟨rfl, hb2⟩
      go_wp2_with fail
      refine (c4.out _).mono ?_
      rintro e w3 ⟨rfl, hb3⟩
      go_wp2_with fail
      refine (c3.out _).mono ?_
      rintro e w4 ⟨rfl, hb4⟩
      have k2 := hb1.trans (hb2.mono hb1.size)
      have k3 := k2.trans (hb3.mono k2.size)
      have k4 := k3.trans (hb4.mono k3.size)
      clear hb1 hb2 hb3 hb4 k2 k3
      go_wp2
      go_ret
      exact ⟨by rw [K.out]; rfl, k4⟩
set_option maxHeartbeats 1000000 in
set_option maxRecDepth 100000 in
theorem ref4_Clamp (s : ByteArray) (p : Int) (hs : s.size ≤ 1000000000000) (w : World) :
    Calls Tryd.prog 41 #[.string s, .int .i64 p] w fun e w' => e = .returned (.int .i64 (Line.clamp s.data.toList p)) ∧ Below w.heap.size w w' := by
  have hl := data_len s
  have c1 := Lib.hid (fun w => ref_Valid s (by omega) w)
  cases hv : Utf.valid s.data.toList with
  | false =>
    rw [hv] at c1
    have H : Hid (Line.clamp s.data.toList p = 0) := by show _ = _; rw [Line.clamp, if_neg (by simp [hv])]
    clear hv
    go_enter Tryd.func41, Tryd.ntmps41
    go_wp2_with (go_at_call 26; refine (c1.out _).mono ?_; rintro e w1 ⟨rfl, hb⟩)
    go_ret
    exact ⟨by rw [H.out]; rfl, hb⟩
  | true =>
    rw [hv] at c1
    obtain ⟨rs, hd⟩ := Utf.valid_of hv
    have hq := Line.clip_le s.data.toList p
    have hqe : min (max p 0) (s.size : Int) = (Line.clip s.data.toList p : Nat) := by unfold Line.clip; omega
    have H : Hid (Line.clamp s.data.toList p = if Line.normal s.data.toList (Line.back s.data.toList (Line.clip s.data.toList p) : Nat) then (Line.back s.data.toList (Line.clip s.data.toList p) : Int) else Utf.prev s.data.toList (Line.back s.data.toList (Line.clip s.data.toList p) : Nat)) := by
      show _ = _; rw [Line.clamp, if_pos hv]
    have D := Lib.hid hd
    clear hv hd
    generalize Line.clip s.data.toList p = q at *
    have hcase : (p < 0 ∧ q = 0) ∨ ((s.size : Int) < p ∧ q = s.size) ∨ (¬ p < 0 ∧ ¬ (s.size : Int) < p ∧ p = (q : Nat)) := by omega
    clear hqe hl
    rcases hcase with ⟨h0, rfl⟩ | ⟨h0, rfl⟩ | ⟨h0, h1, rfl⟩
    · go_enter Tryd.func41, Tryd.ntmps41
      go_wp2_with fail
      refine (c1.out _).mono ?_
      rintro e w1 ⟨rfl, hb1⟩
      go_wp2_with fail
      go_loopw [1] (fun v wr => ∃ y : Nat, y ≤ 0 ∧ v = .int .i64 y ∧ Hid (Line.back s.data.toList 0 = Line.back s.data.toList y) ∧ Below w.heap.size w wr) (fun v _ => (intOf v).toNat)
      case atStart => exact ⟨0, Nat.le_refl _, rfl, rfl, hb1⟩
      case round =>
        obtain ⟨y, hy, rfl, B, hbw⟩ := hrel
        have cp := Lib.hid (fun w => ref_Place s y (by omega) w)
        cases hp : Utf.place s.data.toList (y : Int) with
        | false =>
          rw [hp] at cp
          have hy0 : 0 < y := by
            rcases Nat.eq_zero_or_pos y with rfl | h
            · rw [Line.place_zero D.out] at hp; cases hp
            · exact h
          have B2 : Hid (Line.back s.data.toList 0 = Line.back s.data.toList (y - 1)) := by
            show _ = _
            rw [B.out]
            obtain ⟨z, rfl⟩ : ∃ z, y = z + 1 := ⟨y - 1, by omega⟩
            exact Line.back_not hp
          clear B hp
          go_wp2_with fail
          refine (cp.out _).mono ?_
          rintro e w2 ⟨rfl, hb2⟩
          have hb3 := hbw.trans (hb2.mono hbw.size)
          clear hb2
          go_wp2_with fail
          go_roundw
          case rel => exact ⟨y - 1, by omega, by go_num, B2, hb3⟩
          case measure => simp [intOf]; omega
        | true =>
          rw [hp] at cp
          have K : Hid (Line.clamp s.data.toList p = if Line.normal s.data.toList (y : Nat) then (y : Int) else Utf.prev s.data.toList (y : Nat)) := by
            show _ = _
            rw [H.out, B.out, Line.back_at hp]
          have cm := Lib.hid (fun w => ref4_Normal s y hs w)
          clear B hp
          cases hn : Line.normal s.data.toList (y : Int) with
          | true =>
            rw [hn] at cm
            have K2 : Hid (Line.clamp s.data.toList p = (y : Int)) := by show _ = _; rw [K.out, hn]; rfl
            clear K hn
            go_wp2_with fail
            refine (cp.out _).mono ?_
            rintro e w2 ⟨rfl, hb2⟩
            go_wp2_with fail
            refine (cm.out _).mono ?_
            rintro e w3 ⟨rfl, hb3⟩
            have k2 := hbw.trans (hb2.mono hbw.size)
            have k3 := k2.trans (hb3.mono k2.size)
            go_wp2
            go_ret
            exact ⟨by rw [K2.out]; rfl, k3⟩
          | false =>
            rw [hn] at cm
            have K2 : Hid (Line.clamp s.data.toList p = Utf.prev s.data.toList (y : Nat)) := by show _ = _; rw [K.out, hn]; rfl
            have cv := Lib.hid (fun w => ref_Prev s (y : Nat) (by omega) w)
            clear K hn
            go_wp2_with fail
            refine (cp.out _).mono ?_
            rintro e w2 ⟨rfl, hb2⟩
            go_wp2_with fail
            refine (cm.out _).mono ?_
            rintro e w3 ⟨rfl, hb3⟩
            go_wp2_with fail
            refine (cv.out _).mono ?_
            rintro e w4 ⟨rfl, hb4⟩
            have k2 := hbw.trans (hb2.mono hbw.size)
            have k3 := k2.trans (hb3.mono k2.size)
            have k4 := k3.trans (hb4.mono k3.size)
            go_wp2
            go_ret
            exact ⟨by rw [K2.out]; rfl, k4⟩
    · have h2 : ¬ p < 0 := by omega
      go_enter Tryd.func41, Tryd.ntmps41
      go_wp2_with fail
      refine (c1.out _).mono ?_
      rintro e w1 ⟨rfl, hb1⟩
      go_wp2_with fail
      go_loopw [1] (fun v wr => ∃ y : Nat, y ≤ s.size ∧ v = .int .i64 y ∧ Hid (Line.back s.data.toList s.size = Line.back s.data.toList y) ∧ Below w.heap.size w wr) (fun v _ => (intOf v).toNat)
      case atStart => exact ⟨s.size, Nat.le_refl _, rfl, rfl, hb1⟩
      case round =>
        obtain ⟨y, hy, rfl, B, hbw⟩ := hrel
        have cp := Lib.hid (fun w => ref_Place s y (by omega) w)
        cases hp : Utf.place s.data.toList (y : Int) with
        | false =>
          rw [hp] at cp
          have hy0 : 0 < y := by
            rcases Nat.eq_zero_or_pos y with rfl | h
            · rw [Line.place_zero D.out] at hp; cases hp
            · exact h
          have B2 : Hid (Line.back s.data.toList s.size = Line.back s.data.toList (y - 1)) := by
            show _ = _
            rw [B.out]
            obtain ⟨z, rfl⟩ : ∃ z, y = z + 1 := ⟨y - 1, by omega⟩
            exact Line.back_not hp
          clear B hp
          go_wp2_with fail
          refine (cp.out _).mono ?_
          rintro e w2 ⟨rfl, hb2⟩
          have hb3 := hbw.trans (hb2.mono hbw.size)
          clear hb2
          go_wp2_with fail
          go_roundw
          case rel => exact ⟨y - 1, by omega, by go_num, B2, hb3⟩
          case measure => simp [intOf]; omega
        | true =>
          rw [hp] at cp
          have K : Hid (Line.clamp s.data.toList p = if Line.normal s.data.toList (y : Nat) then (y : Int) else Utf.prev s.data.toList (y : Nat)) := by
            show _ = _
            rw [H.out, B.out, Line.back_at hp]
          have cm := Lib.hid (fun w => ref4_Normal s y hs w)
          clear B hp
          cases hn : Line.normal s.data.toList (y : Int) with
          | true =>
            rw [hn] at cm
            have K2 : Hid (Line.clamp s.data.toList p = (y : Int)) := by show _ = _; rw [K.out, hn]; rfl
            clear K hn
            go_wp2_with fail
            refine (cp.out _).mono ?_
            rintro e w2 ⟨rfl, hb2⟩
            go_wp2_with fail
            refine (cm.out _).mono ?_
            rintro e w3 ⟨rfl, hb3⟩
            have k2 := hbw.trans (hb2.mono hbw.size)
            have k3 := k2.trans (hb3.mono k2.size)
            go_wp2
            go_ret
            exact ⟨by rw [K2.out]; rfl, k3⟩
          | false =>
            rw [hn] at cm
            have K2 : Hid (Line.clamp s.data.toList p = Utf.prev s.data.toList (y : Nat)) := by show _ = _; rw [K.out, hn]; rfl
            have cv := Lib.hid (fun w => ref_Prev s (y : Nat) (by omega) w)
            clear K hn
            go_wp2_with fail
            refine (cp.out _).mono ?_
            rintro e w2 ⟨rfl, hb2⟩
            go_wp2_with fail
            refine (cm.out _).mono ?_
            rintro e w3 ⟨rfl, hb3⟩
            go_wp2_with fail
            refine (cv.out _).mono ?_
            rintro e w4 ⟨rfl, hb4⟩
            have k2 := hbw.trans (hb2.mono hbw.size)
            have k3 := k2.trans (hb3.mono k2.size)
            have k4 := k3.trans (hb4.mono k3.size)
            go_wp2
            go_ret
            exact ⟨by rw [K2.out]; rfl, k4⟩
    · have h2 : q ≤ s.size := by omega
      have d1 : decide ((q : Int) < 0) = false := decide_eq_false (by omega)
      have d2 : decide (s.size < q) = false := decide_eq_false (by omega)
      go_enter Tryd.func41, Tryd.ntmps41
      go_wp2_with fail
      refine (c1.out _).mono ?_
      rintro e w1 ⟨rfl, hb1⟩
      go_wp2_with fail
      go_loopw [1] (fun v wr => ∃ y : Nat, y ≤ q ∧ v = .int .i64 y ∧ Hid (Line.back s.data.toList q = Line.back s.data.toList y) ∧ Below w.heap.size w wr) (fun v _ => (intOf v).toNat)
      case atStart => exact ⟨q, Nat.le_refl _, rfl, rfl, hb1⟩
      case round =>
        obtain ⟨y, hy, rfl, B, hbw⟩ := hrel
        have cp := Lib.hid (fun w => ref_Place s y (by omega) w)
        cases hp : Utf.place s.data.toList (y : Int) with
        | false =>
          rw [hp] at cp
          have hy0 : 0 < y := by
            rcases Nat.eq_zero_or_pos y with rfl | h
            · rw [Line.place_zero D.out] at hp; cases hp
            · exact h
          have B2 : Hid (Line.back s.data.toList q = Line.back s.data.toList (y - 1)) := by
            show _ = _
            rw [B.out]
            obtain ⟨z, rfl⟩ : ∃ z, y = z + 1 := ⟨y - 1, by omega⟩
            exact Line.back_not hp
          clear B hp
          go_wp2_with fail
          refine (cp.out _).mono ?_
          rintro e w2 ⟨rfl, hb2⟩
          have hb3 := hbw.trans (hb2.mono hbw.size)
          clear hb2
          go_wp2_with fail
          go_roundw
          case rel => exact ⟨y - 1, by omega, by go_num, B2, hb3⟩
          case measure => simp [intOf]; omega
        | true =>
          rw [hp] at cp
          have K : Hid (Line.clamp s.data.toList (q : Nat) = if Line.normal s.data.toList (y : Nat) then (y : Int) else Utf.prev s.data.toList (y : Nat)) := by
            show _ = _
            rw [H.out, B.out, Line.back_at hp]
          have cm := Lib.hid (fun w => ref4_Normal s y hs w)
          clear B hp
          cases hn : Line.normal s.data.toList (y : Int) with
          | true =>
            rw [hn] at cm
            have K2 : Hid (Line.clamp s.data.toList (q : Nat) = (y : Int)) := by show _ = _; rw [K.out, hn]; rfl
            clear K hn
            go_wp2_with fail
            refine (cp.out _).mono ?_
            rintro e w2 ⟨rfl, hb2⟩
            go_wp2_with fail
            refine (cm.out _).mono ?_
            rintro e w3 ⟨rfl, hb3⟩
            have k2 := hbw.trans (hb2.mono hbw.size)
            have k3 := k2.trans (hb3.mono k2.size)
            go_wp2
            go_ret
            exact ⟨by rw [K2.out]; rfl, k3⟩
          | false =>
            rw [hn] at cm
            have K2 : Hid (Line.clamp s.data.toList (q : Nat) = Utf.prev s.data.toList (y : Nat)) := by show _ = _; rw [K.out, hn]; rfl
            have cv := Lib.hid (fun w => ref_Prev s (y : Nat) (by omega) w)
            clear K hn
            go_wp2_with fail
            refine (cp.out _).mono ?_
            rintro e w2 ⟨rfl, hb2⟩
            go_wp2_with fail
            refine (cm.out _).mono ?_
            rintro e w3 ⟨rfl, hb3⟩
            go_wp2_with fail
            refine (cv.out _).mono ?_
            rintro e w4 ⟨rfl, hb4⟩
            have k2 := hbw.trans (hb2.mono hbw.size)
            have k3 := k2.trans (hb3.mono k2.size)
            have k4 := k3.trans (hb4.mono k3.size)
            go_wp2
            go_ret
            exact ⟨by rw [K2.out]; rfl, k4⟩
end Go.Proofs.YtdclopfhffjkfaaDoor
