/-
  What package line tells: the normal place of an offset, the first sign of a line; and the document's example.
-/
import Derived.Test.YtlfhfpjffdaomaaDoorLineCalls
namespace Go.Proofs.YtlfhfpjffdaomaaDoor
open Go.RowKit
set_option maxHeartbeats 1000000 in
set_option maxRecDepth 100000 in
theorem line_Clamp (s : ByteArray) (p : Int) (hs : s.size ≤ 1000000000000) (w : World) :
    Calls Tryd.prog 41 #[.string s, .int .i64 p] w fun e w' => e = .returned (.int .i64 (Line.clamp s.data.toList p)) ∧ Below w.heap.size w w' := by
  have hl := data_len s
  have hq := Line.clip_le s.data.toList p
  have hqe : min (max p 0) (s.size : Int) = (Line.clip s.data.toList p : Nat) := by unfold Line.clip; omega
  have ca := line_around s (Line.clip s.data.toList p : Nat) hs
  dsimp only [Line.aroundT] at ca
  rw [← hqe] at ca
  cases hv : Utf.valid s.data.toList with
  | false =>
    have hn := Line.of_not (Line.idx_none (s := s.data.toList) (p := (min (max p 0) (s.size : Int))) (Or.inr (Or.inr hv)))
    rw [hn.2.1, hn.2.2, hn.1] at ca
    have H : Hid (Line.clamp s.data.toList p = 0) := by show _ = _; rw [Line.clamp, if_neg (by simp [hv])]
    have C := Lib.hid ca
    clear hv hn ca hqe hq
    go_enter Tryd.func41, Tryd.ntmps41
    go_wp2_with (go_at_call 35; refine (C.out _).mono ?_; rintro e w1 ⟨rfl, hb⟩)
    go_ret
    exact ⟨by rw [H.out]; rfl, hb⟩
  | true =>
    obtain ⟨rs, hd⟩ := Utf.valid_of hv
    obtain ⟨k, x, _, hk, h1, h2⟩ := Line.idx_find hv hq
    have hx := Line.L_each hk
    have hln : Line.line s.data.toList ((k : Nat) : Int) = some x := by rw [Line.line_nat, hk]
    rw [hqe, Line.of_at hk h1 h2, Line.start_some hln, Line.stop_some hln, ← hqe] at ca
    obtain ⟨hb1, hb2, hc⟩ := Line.clamp_in hk h1 h2
    have H := Lib.hid hc
    have Q := Lib.hid hqe
    have D := Lib.hid hd
    have ST := Lib.hid (Line.start_ok hk)
    have C := Lib.hid ca
    have hpr : Hid (x.1 < x.2 → ∃ u : Nat, Utf.prev s.data.toList (x.2 : Int) = u) := fun h => by
      obtain ⟨u, hu, _⟩ := Line.prev_in hk h
      exact ⟨u, hu⟩
    clear hv hd hk hln ca hc hqe hb1 hb2
    generalize Line.clip s.data.toList p = q at *
    go_enter Tryd.func41, Tryd.ntmps41
    go_wp2_with fail
    refine (C.out _).mono ?_
    rintro e w1 ⟨rfl, hb⟩
    go_wp2_with fail
    go_loop [1] (fun v => ∃ y : Nat, y ≤ q ∧ x.1 ≤ y ∧ v = .int .i64 y ∧ Hid (Line.back s.data.toList q = Line.back s.data.toList y)) (fun v => (intOf v).toNat)
    case atStart => exact ⟨q, Nat.le_refl _, h1, by rw [Q.out], rfl⟩
    case round =>
      obtain ⟨y, hy, hxy, rfl, B⟩ := hrel
      have cp := Lib.hid (fun w => utf_Place s y (by omega) w)
      cases hp : Utf.place s.data.toList (y : Int) with
      | false =>
        rw [hp] at cp
        have h0 : 0 < y := by
          rcases Nat.eq_zero_or_pos y with rfl | h
          · rw [Line.place_zero D.out] at hp; cases hp
          · exact h
        have hne : y ≠ x.1 := by rintro rfl; rw [ST.out] at hp; cases hp
        have B2 : Hid (Line.back s.data.toList q = Line.back s.data.toList (y - 1)) := by
          show _ = _
          rw [B.out]
          obtain ⟨z, rfl⟩ : ∃ z, y = z + 1 := ⟨y - 1, by omega⟩
          exact Line.back_not hp
        clear B hp
        go_wp2_with (go_at_call 34; refine (cp.out _).mono ?_; rintro e w2 ⟨rfl, rfl⟩)
        go_round
        case rel => exact ⟨y - 1, by omega, by omega, by go_num, B2⟩
        case measure => simp [intOf]; omega
      | true =>
        rw [hp] at cp
        have K : Hid (Line.clamp s.data.toList p = if y = x.2 ∧ x.1 < x.2 then Utf.prev s.data.toList (y : Int) else (y : Int)) := by
          show _ = _
          rw [H.out, B.out, Line.back_at hp]
        clear H B hp
        by_cases he : y = x.2
        · subst he
          by_cases hlt : x.1 < x.2
          · have K2 : Hid (Line.clamp s.data.toList p = Utf.prev s.data.toList (x.2 : Int)) := by show _ = _; rw [K.out, if_pos ⟨rfl, hlt⟩]
            have cv := Lib.hid (fun w => utf_Prev s (x.2 : Nat) (by omega) w)
            clear K
            go_wp2_with (first | (go_at_call 34; refine (cp.out _).mono ?_; rintro e w2 ⟨rfl, rfl⟩) | (go_at_call 58; refine (cv.out _).mono ?_; rintro e w2 ⟨rfl, rfl⟩))
            go_ret
            exact ⟨by rw [K2.out]; rfl, hb⟩
          · have K2 : Hid (Line.clamp s.data.toList p = (x.2 : Int)) := by show _ = _; rw [K.out, if_neg (by omega)]
            clear K
            go_wp2_with (go_at_call 34; refine (cp.out _).mono ?_; rintro e w2 ⟨rfl, rfl⟩)
            go_ret
            exact ⟨by rw [K2.out]; rfl, hb⟩
        · have K2 : Hid (Line.clamp s.data.toList p = (y : Int)) := by show _ = _; rw [K.out, if_neg (by omega)]
          have g : ((y : Int) == (x.2 : Int)) = false := by simp; omega
          clear K
          go_wp2_with (go_at_call 34; refine (cp.out _).mono ?_; rintro e w2 ⟨rfl, rfl⟩)
          go_ret
          exact ⟨by rw [K2.out]; rfl, hb⟩
set_option maxHeartbeats 1000000 in
set_option maxRecDepth 100000 in
theorem line_First (s : ByteArray) (k : Int) (hs : s.size ≤ 1000000000000) (w : World) :
    Calls Tryd.prog 23 #[.string s, .int .i64 k] w fun e w' => e = .returned (.int .i64 (Line.first s.data.toList k)) ∧ Below w.heap.size w w' := by
  have hl := data_len s
  have c := Lib.hid (fun w => line_ends s k hs w)
  cases hx : Line.line s.data.toList k with
  | none =>
    rw [Line.start_none hx, Line.stop_none hx] at c
    have H : Hid (Line.first s.data.toList k = -1) := by show _ = _; rw [Line.first, hx]
    clear hx
    go_enter Tryd.func23, Tryd.ntmps23
    go_wp2_with (go_at_call 36; refine (c.out _).mono ?_; rintro e w1 ⟨rfl, hb⟩)
    go_ret
    exact ⟨by rw [H.out]; rfl, hb⟩
  | some x =>
    rw [Line.start_some hx, Line.stop_some hx] at c
    obtain ⟨n, rfl, hk⟩ := Line.line_some hx
    obtain ⟨h1, h2⟩ := Line.L_each hk
    have H : Hid (Line.first s.data.toList n = if Line.skip s.data.toList x.1 (x.2 - x.1) = x.2 then Line.clamp s.data.toList x.2 else (Line.skip s.data.toList x.1 (x.2 - x.1) : Nat)) := by show _ = _; rw [Line.first, hx]
    have cc := Lib.hid (fun w => line_Clamp s x.2 hs w)
    clear hx hk
    go_enter Tryd.func23, Tryd.ntmps23
    go_wp2_with (go_at_call 36; refine (c.out _).mono ?_; rintro e w1 ⟨rfl, hb⟩)
    go_loop [7] (fun v => ∃ y : Nat, x.1 ≤ y ∧ y ≤ x.2 ∧ v = .int .i64 y ∧ Hid (Line.skip s.data.toList x.1 (x.2 - x.1) = Line.skip s.data.toList y (x.2 - y))) (fun v => x.2 - (intOf v).toNat)
    case atStart => exact ⟨x.1, Nat.le_refl _, h1, rfl, rfl⟩
    case round =>
      obtain ⟨y, hy1, hy2, rfl, B⟩ := hrel
      rcases Nat.lt_or_ge y x.2 with hlt | hge
      · have hys : y < s.size := by omega
        have hg := byte_get s hys
        have hb8 := s[y].toNat_lt
        by_cases hbl : s[y].toNat = 32 ∨ s[y].toNat = 9
        · have B2 : Hid (Line.skip s.data.toList x.1 (x.2 - x.1) = Line.skip s.data.toList (y + 1) (x.2 - (y + 1))) := by
            show _ = _
            rw [B.out, show x.2 - y = (x.2 - (y + 1)) + 1 by omega, Line.skip, if_pos]
            rw [hg]
            rcases hbl with h | h
            · exact Or.inl (congrArg some (UInt8.toNat_inj.1 h))
            · exact Or.inr (congrArg some (UInt8.toNat_inj.1 h))
          clear B H hg
          rcases hbl with h | h
          · go_wp2
            go_round
            case rel => exact ⟨y + 1, by omega, by omega, by go_num, B2⟩
            case measure => simp [intOf]; omega
          · go_wp2
            go_round
            case rel => exact ⟨y + 1, by omega, by omega, by go_num, B2⟩
            case measure => simp [intOf]; omega
        · have K : Hid (Line.first s.data.toList n = y) := by
            show _ = _
            have hsk : Line.skip s.data.toList y (x.2 - y) = y := by
              rw [show x.2 - y = (x.2 - (y + 1)) + 1 by omega, Line.skip, if_neg]
              rw [hg]
              rintro (h | h) <;>
              · injection h with h
                rw [h] at hbl
                exact hbl (by decide)
            rw [H.out, B.out, hsk, if_neg (by omega)]
          have n1 : s[y].toNat ≠ 32 := fun h => hbl (Or.inl h)
          have n2 : s[y].toNat ≠ 9 := fun h => hbl (Or.inr h)
          have g1 : ((s[y].toNat : Int) != 32) = true := by simp; omega
          have g2 : ((s[y].toNat : Int) != 9) = true := by simp; omega
          clear B H hg hbl
          go_wp2
          go_ret
          exact ⟨by rw [K.out]; rfl, hb⟩
      · have K : Hid (Line.first s.data.toList n = Line.clamp s.data.toList x.2) := by
          show _ = _
          rw [H.out, B.out, show x.2 - y = 0 by omega, Line.skip, if_pos (by omega)]
        clear B H
        go_wp2_with (go_at_call 41; refine (cc.out _).mono ?_; rintro e w2 ⟨rfl, hb2⟩)
        go_ret
        exact ⟨by rw [K.out]; rfl, hb.trans (hb2.mono hb.size)⟩
end Go.Proofs.YtlfhfpjffdaomaaDoor
