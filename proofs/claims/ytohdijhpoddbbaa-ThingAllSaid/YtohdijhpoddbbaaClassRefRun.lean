/-
  The document's answer of runs of one class: from where to where.
-/
import Derived.Test.YtohdijhpoddbbaaClassRefs
import Derived.Test.YtohdijhpoddbbaaClassSteps
import Derived.Test.YtohdijhpoddbbaaLineRefs
namespace Go.Proofs.Ytohdijhpoddbbaa
open Go.RowKit
set_option maxHeartbeats 1600000 in
set_option maxRecDepth 100000 in
theorem ref5_Run (s : ByteArray) (x : Int) (big : Bool) (hs : s.size ≤ 1000000000000) (w : World) :
    Calls Try.prog 31 #[.string s, .int .i64 x, .bool big] w fun e w' => e = .returned (.tuple #[.int .i64 (Class.low_ s.data.toList x big), .int .i64 (Class.high_ s.data.toList x big)]) ∧ Below w.heap.size w w' := by
  have hl : s.data.toList.length = s.size := by simp
  have c0 := Lib.hid (fun w => ref5_Of s x big (by omega) w)
  by_cases h0 : Class.kind s.data.toList x big = 0 ∨ Class.kind s.data.toList x big = 4
  · have H1 := Lib.hid (Class.low_none h0)
    have H2 := Lib.hid (Class.high_none h0)
    generalize Class.kind s.data.toList x big = c at *
    rcases h0 with h0 | h0
    all_goals
      subst h0
      go_enter Try.func31, Try.ntmps31
      go_wp2_with (go_at_call 33; refine (c0.out _).mono ?_; rintro e w1 ⟨rfl, hb⟩)
      go_ret2
      exact ⟨by rw [H1.out, H2.out]; rfl, hb⟩
  · obtain ⟨rs, i, hd, hi, rfl, hk⟩ := Class.kind_nat h0
    have H1 := Lib.hid (Class.low_some h0)
    have H2 := Lib.hid (Class.high_some h0)
    have hlt : Utf.off rs i < s.size := by have := Class.off_below hd hi; omega
    have hyl : Utf.off rs i < s.data.toList.length := by omega
    have hp : Utf.place s.data.toList (Utf.off rs i : Int) = true := Utf.place_at hd (Nat.le_of_lt hi)
    have hv := Utf.valid_ok hd
    generalize hc : Class.kind s.data.toList (Utf.off rs i : Int) big = c at *
    generalize Utf.off rs i = y at *
    have HC := Lib.hid hc
    have c4 : Hid (c ≠ 4) := fun h => h0 (Or.inr h)
    have g1 : ((c : Int) == 0) = false := by simp; omega
    have g2 : ((c : Int) == 4) = false := by simp; omega
    clear h0 hk hc
    obtain ⟨k, xx, -, hL, hx1, hx2⟩ := Line.idx_find hv (p := y) (by omega)
    have d1 := Lib.hid (fun w => ref4_Of s y hs w)
    have d2 := Lib.hid (fun w => ref4_Start s k hs w)
    have d3 := Lib.hid (fun w => ref4_End s k hs w)
    rw [Line.of_at hL hx1 hx2] at d1
    rw [Line.start_some (by rw [Line.line_nat, hL])] at d2
    rw [Line.stop_some (by rw [Line.line_nat, hL])] at d3
    have P1 := Lib.hid (Line.start_ok hL)
    have P2 := Lib.hid (Line.stop_ok hL)
    have P3 := Lib.hid (Class.feed_ahead hL)
    have P4 := Lib.hid (Class.feed_behind hL)
    have hx3 := (Line.L_each hL).2
    have D := Lib.hid hd
    have HP := Lib.hid hp
    have HL := Lib.hid hl
    clear hL hv hd hp hl
    generalize xx.1 = a at *
    generalize xx.2 = b at *
    go_enter Try.func31, Try.ntmps31
    go_wp2_with fail
    refine (c0.out _).mono ?_
    rintro e w1 ⟨rfl, hb1⟩
    go_wp2_with fail
    refine (d1.out _).mono ?_
    rintro e w2 ⟨rfl, hb2⟩
    have k2 := hb1.trans (hb2.mono hb1.size)
    clear hb1 hb2 c0 d1 g1 g2
    go_wp2_with fail
    go_loopw [10, 12] (fun v u wr => ∃ (F : Nat) (m : Nat), v = .int .i64 F ∧ u = .int .i64 ((m : Int) - 1) ∧ m ≤ s.size ∧ Hid (Class.GoL s.data.toList big c y a m F) ∧ Below w.heap.size w wr) (fun _ u _ => (intOf u + 1).toNat)
    case atStart => exact ⟨y, y + 1, rfl, by go_num, by omega, Class.GoL.start HP.out hx1, k2⟩
    case round =>
      obtain ⟨F, m, rfl, rfl, hm, G, hbw⟩ := hrel
      clear k2
      by_cases ham : a < m
      · obtain ⟨n, rfl⟩ : ∃ n, m = n + 1 := ⟨m - 1, by omega⟩
        rw [show (((n + 1 : Nat) : Int) - 1) = (n : Int) by omega]
        have e1 := Lib.hid (fun w => ref_Place s n (by omega) w)
        have e2 := Lib.hid (fun w => ref5_Of s n big (by omega) w)
        cases hpn : Utf.place s.data.toList (n : Int) with
        | false =>
          rw [hpn] at e1
          have G2 := Lib.hid (G.out.skip hpn (by omega) HP.out)
          clear G hpn e2
          go_wp2_with fail
          refine (d2.out _).mono ?_
          rintro e w4 ⟨rfl, hb4⟩
          have k4 := hbw.trans (hb4.mono hbw.size)
          clear hb4 hbw
          go_wp2_with fail
          refine (e1.out _).mono ?_
          rintro e w5 ⟨rfl, hb5⟩
          have k5 := k4.trans (hb5.mono k4.size)
          clear hb5 k4
          go_wp2_with fail
          go_roundw
          case rel => exact ⟨F, n, rfl, by go_num, by omega, G2, k5⟩
          case measure => simp [intOf]
        | true =>
          rw [hpn] at e1
          by_cases hk2 : Class.kind s.data.toList (n : Int) big = c
          · have G2 := Lib.hid (G.out.take D.out hpn (by omega) hyl hk2)
            rw [hk2] at e2
            clear G hpn hk2
            go_wp2_with fail
            refine (d2.out _).mono ?_
            rintro e w4 ⟨rfl, hb4⟩
            have k4 := hbw.trans (hb4.mono hbw.size)
            clear hb4 hbw
            go_wp2_with fail
            refine (e1.out _).mono ?_
            rintro e w5 ⟨rfl, hb5⟩
            have k5 := k4.trans (hb5.mono k4.size)
            clear hb5 k4
            go_wp2_with fail
            refine (e2.out _).mono ?_
            rintro e w6 ⟨rfl, hb6⟩
            have k6 := k5.trans (hb6.mono k5.size)
            clear hb6 k5
            go_wp2_with fail
            go_roundw
            case rel => exact ⟨n, n, rfl, by go_num, by omega, G2, k6⟩
            case measure => simp [intOf]
          · have K2 := Lib.hid (G.out.stop D.out hpn hyl HC.out hk2)
            have g : ((Class.kind s.data.toList (n : Int) big : Int) != (c : Int)) = true := by simp; omega
            clear G hpn hk2
            generalize Class.kind s.data.toList (n : Int) big = z at *
            go_wp2_with fail
            refine (d2.out _).mono ?_
            rintro e w4 ⟨rfl, hb4⟩
            have k4 := hbw.trans (hb4.mono hbw.size)
            clear hb4 hbw
            go_wp2_with fail
            refine (e1.out _).mono ?_
            rintro e w5 ⟨rfl, hb5⟩
            have k5 := k4.trans (hb5.mono k4.size)
            clear hb5 k4
            go_wp2_with fail
            refine (e2.out _).mono ?_
            rintro e w6 ⟨rfl, hb6⟩
            have k6 := k5.trans (hb6.mono k5.size)
            clear hb6 k5
            go_wp2_with fail
            clear g e1 e2
            go_loopw [11, 13] (fun v u wr => ∃ (T m : Nat), v = .int .i64 T ∧ u = .int .i64 m ∧ m ≤ s.size ∧ Hid (Class.GoR s.data.toList big c y b m T) ∧ Below w.heap.size w wr) (fun _ u _ => s.size - (intOf u).toNat)
            case atStart => exact ⟨y, y, rfl, rfl, by omega, Class.GoR.start HP.out hx2 hx3, k6⟩
            case round =>
              obtain ⟨T, m, rfl, rfl, hm, G, hbw⟩ := hrel
              have hx4 : b ≤ s.size := by rw [← HL.out]; exact hx3
              by_cases hmb : m < b
              · have e1 := Lib.hid (fun w => ref_Place s m (by omega) w)
                have e2 := Lib.hid (fun w => ref5_Of s m big (by omega) w)
                cases hpn : Utf.place s.data.toList (m : Int) with
                | false =>
                  rw [hpn] at e1
                  have G2 := Lib.hid (G.out.skip hpn)
                  clear G hpn e2
                  go_wp2_with fail
                  refine (d3.out _).mono ?_
                  rintro e w7 ⟨rfl, hb7⟩
                  have k7 := hbw.trans (hb7.mono hbw.size)
                  clear hb7 hbw
                  go_wp2_with fail
                  refine (e1.out _).mono ?_
                  rintro e w8 ⟨rfl, hb8⟩
                  have k8 := k7.trans (hb8.mono k7.size)
                  clear hb8 k7
                  go_wp2_with fail
                  go_roundw
                  case rel => exact ⟨T, m + 1, rfl, by go_num, by omega, G2, k8⟩
                  case measure => simp [intOf]; omega
                | true =>
                  rw [hpn] at e1
                  by_cases hk2 : Class.kind s.data.toList (m : Int) big = c
                  · have e3 := Lib.hid (fun w => ref_Next s m (by omega) w)
                    obtain ⟨n, hn1, hn2, G2'⟩ := G.out.take D.out hpn P2.out hmb hk2
                    have G2 := Lib.hid G2'
                    rw [hn1] at e3
                    rw [hk2] at e2
                    clear G hpn hk2 G2' hn1
                    go_wp2_with fail
                    refine (d3.out _).mono ?_
                    rintro e w7 ⟨rfl, hb7⟩
                    have k7 := hbw.trans (hb7.mono hbw.size)
                    clear hb7 hbw
                    go_wp2_with fail
                    refine (e1.out _).mono ?_
                    rintro e w8 ⟨rfl, hb8⟩
                    have k8 := k7.trans (hb8.mono k7.size)
                    clear hb8 k7
                    go_wp2_with fail
                    refine (e2.out _).mono ?_
                    rintro e w9 ⟨rfl, hb9⟩
                    have k9 := k8.trans (hb9.mono k8.size)
                    clear hb9 k8
                    go_wp2_with fail
                    refine (e3.out _).mono ?_
                    rintro e w10 ⟨rfl, hb10⟩
                    have k10 := k9.trans (hb10.mono k9.size)
                    clear hb10 k9
                    go_wp2_with fail
                    go_roundw
                    case rel => exact ⟨n, m + 1, rfl, by go_num, by omega, G2, k10⟩
                    case measure => simp [intOf]; omega
                  · have R2 := Lib.hid (G.out.stop D.out hpn hmb hk2)
                    have g : ((Class.kind s.data.toList (m : Int) big : Int) != (c : Int)) = true := by simp; omega
                    clear G hpn hk2
                    generalize Class.kind s.data.toList (m : Int) big = z at *
                    go_wp2_with fail
                    refine (d3.out _).mono ?_
                    rintro e w7 ⟨rfl, hb7⟩
                    have k7 := hbw.trans (hb7.mono hbw.size)
                    clear hb7 hbw
                    go_wp2_with fail
                    refine (e1.out _).mono ?_
                    rintro e w8 ⟨rfl, hb8⟩
                    have k8 := k7.trans (hb8.mono k7.size)
                    clear hb8 k7
                    go_wp2_with fail
                    refine (e2.out _).mono ?_
                    rintro e w9 ⟨rfl, hb9⟩
                    have k9 := k8.trans (hb9.mono k8.size)
                    clear hb9 k8
                    go_wp2
                    go_ret2
                    exact ⟨by rw [H1.out, H2.out, K2.out, R2.out]; try rfl, k9⟩
              · obtain rfl : m = b := by have := G.out; unfold Class.GoR at this; omega
                have R2 := Lib.hid (G.out.done c4.out P4.out)
                clear G
                go_wp2_with fail
                refine (d3.out _).mono ?_
                rintro e w7 ⟨rfl, hb7⟩
                have k7 := hbw.trans (hb7.mono hbw.size)
                clear hb7 hbw
                go_wp2
                go_ret2
                exact ⟨by rw [H1.out, H2.out, K2.out, R2.out]; try rfl, k7⟩
      · obtain rfl : m = a := by have := G.out; unfold Class.GoL at this; omega
        have K2 := Lib.hid (G.out.done P1.out hx1 c4.out P3.out)
        clear G
        go_wp2_with fail
        refine (d2.out _).mono ?_
        rintro e w4 ⟨rfl, hb4⟩
        have k4 := hbw.trans (hb4.mono hbw.size)
        clear hb4 hbw
        go_wp2_with fail
        go_loopw [11, 13] (fun v u wr => ∃ (T m : Nat), v = .int .i64 T ∧ u = .int .i64 m ∧ m ≤ s.size ∧ Hid (Class.GoR s.data.toList big c y b m T) ∧ Below w.heap.size w wr) (fun _ u _ => s.size - (intOf u).toNat)
        case atStart => exact ⟨y, y, rfl, rfl, by omega, Class.GoR.start HP.out hx2 hx3, k4⟩
        case round =>
          obtain ⟨T, m, rfl, rfl, hm, G, hbw⟩ := hrel
          have hx4 : b ≤ s.size := by rw [← HL.out]; exact hx3
          by_cases hmb : m < b
          · have e1 := Lib.hid (fun w => ref_Place s m (by omega) w)
            have e2 := Lib.hid (fun w => ref5_Of s m big (by omega) w)
            cases hpn : Utf.place s.data.toList (m : Int) with
            | false =>
              rw [hpn] at e1
              have G2 := Lib.hid (G.out.skip hpn)
              clear G hpn e2
              go_wp2_with fail
              refine (d3.out _).mono ?_
              rintro e w7 ⟨rfl, hb7⟩
              have k7 := hbw.trans (hb7.mono hbw.size)
              clear hb7 hbw
              go_wp2_with fail
              refine (e1.out _).mono ?_
              rintro e w8 ⟨rfl, hb8⟩
              have k8 := k7.trans (hb8.mono k7.size)
              clear hb8 k7
              go_wp2_with fail
              go_roundw
              case rel => exact ⟨T, m + 1, rfl, by go_num, by omega, G2, k8⟩
              case measure => simp [intOf]; omega
            | true =>
              rw [hpn] at e1
              by_cases hk2 : Class.kind s.data.toList (m : Int) big = c
              · have e3 := Lib.hid (fun w => ref_Next s m (by omega) w)
                obtain ⟨n, hn1, hn2, G2'⟩ := G.out.take D.out hpn P2.out hmb hk2
                have G2 := Lib.hid G2'
                rw [hn1] at e3
                rw [hk2] at e2
                clear G hpn hk2 G2' hn1
                go_wp2_with fail
                refine (d3.out _).mono ?_
                rintro e w7 ⟨rfl, hb7⟩
                have k7 := hbw.trans (hb7.mono hbw.size)
                clear hb7 hbw
                go_wp2_with fail
                refine (e1.out _).mono ?_
                rintro e w8 ⟨rfl, hb8⟩
                have k8 := k7.trans (hb8.mono k7.size)
                clear hb8 k7
                go_wp2_with fail
                refine (e2.out _).mono ?_
                rintro e w9 ⟨rfl, hb9⟩
                have k9 := k8.trans (hb9.mono k8.size)
                clear hb9 k8
                go_wp2_with fail
                refine (e3.out _).mono ?_
                rintro e w10 ⟨rfl, hb10⟩
                have k10 := k9.trans (hb10.mono k9.size)
                clear hb10 k9
                go_wp2_with fail
                go_roundw
                case rel => exact ⟨n, m + 1, rfl, by go_num, by omega, G2, k10⟩
                case measure => simp [intOf]; omega
              · have R2 := Lib.hid (G.out.stop D.out hpn hmb hk2)
                have g : ((Class.kind s.data.toList (m : Int) big : Int) != (c : Int)) = true := by simp; omega
                clear G hpn hk2
                generalize Class.kind s.data.toList (m : Int) big = z at *
                go_wp2_with fail
                refine (d3.out _).mono ?_
                rintro e w7 ⟨rfl, hb7⟩
                have k7 := hbw.trans (hb7.mono hbw.size)
                clear hb7 hbw
                go_wp2_with fail
                refine (e1.out _).mono ?_
                rintro e w8 ⟨rfl, hb8⟩
                have k8 := k7.trans (hb8.mono k7.size)
                clear hb8 k7
                go_wp2_with fail
                refine (e2.out _).mono ?_
                rintro e w9 ⟨rfl, hb9⟩
                have k9 := k8.trans (hb9.mono k8.size)
                clear hb9 k8
                go_wp2
                go_ret2
                exact ⟨by rw [H1.out, H2.out, K2.out, R2.out]; try rfl, k9⟩
          · obtain rfl : m = b := by have := G.out; unfold Class.GoR at this; omega
            have R2 := Lib.hid (G.out.done c4.out P4.out)
            clear G
            go_wp2_with fail
            refine (d3.out _).mono ?_
            rintro e w7 ⟨rfl, hb7⟩
            have k7 := hbw.trans (hb7.mono hbw.size)
            clear hb7 hbw
            go_wp2
            go_ret2
            exact ⟨by rw [H1.out, H2.out, K2.out, R2.out]; try rfl, k7⟩
end Go.Proofs.Ytohdijhpoddbbaa
