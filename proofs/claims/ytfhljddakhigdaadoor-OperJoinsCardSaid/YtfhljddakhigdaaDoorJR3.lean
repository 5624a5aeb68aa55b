/-
  Lines joined by the document: as many as are asked for.
-/
import Derived.Test.YtfhljddakhigdaaDoorJR2
import Derived.BigQuiet
namespace Go.Proofs.YtfhljddakhigdaaDoor
open Go.RowKit
open Opr Gl
set_option maxHeartbeats 4000000 in
set_option maxRecDepth 100000 in
theorem ref23_Join_some (s : ByteArray) (k : Nat) (n : Int) (m : Nat) (hs : s.size ≤ 100000) (hv : Utf.valid s.data.toList = true) (h : k + 1 < (Line.L s.data.toList).length) (hc : 2 ≤ n ∧ n ≤ ((Line.L s.data.toList).length : Int) - (k : Int)) (hm2 : 2 ≤ m) (hkm : k + m ≤ (Line.L s.data.toList).length) (hmn : min (max n 2) (((Line.L s.data.toList).length : Int) - (k : Int)) = (m : Int)) (w : World) :
    Calls Tryd.prog 13 #[.string s, .int .i64 k, .int .i64 n] w fun e w' => e = .returned (.tuple #[.string (bs (joinT s.data.toList k m)), .int .i64 (Line.clamp (joinT s.data.toList k m) (joinP s.data.toList k m : Nat)), .int .i64 0]) ∧ Below w.heap.size w w' := by
  have hB := Below.refl w.heap.size w
  have V0 := fun w => ref_Valid s (by omega) w
  rw [hv] at V0
  have V1 := Lib.hid V0
  have A1 := Lib.hid (fun w => ref4_Count s (by omega) w)
  have R1 := fun w => ref23_Rows s hv hs w
  have hl := Line.L_length s.data.toList
  rw [data_len] at hl
  have hL := Gl.L_len hv
  rw [← hL] at R1
  have hfr : (fore (Ix.parts s.data.toList)).length = s.size + 1 := by rw [fore_glue (parts_ne _), glue_parts, data_len]
  have hpt := joinT_place hv (k := k) (m := m) (by omega) (by omega)
  have G0 : Hid (∀ (A : Option Addr) (c j : Nat) (u : World), Strs u A ((joinR (Ix.parts s.data.toList) k m).map bs) → j + m = (Line.L s.data.toList).length + 1 → Calls Tryd.prog 42 #[.slice A j c] u fun e w' => e = .returned (.string (bs (joinT s.data.toList k m))) ∧ u = w') := fun A c j u hS hj => by
    have hjl := joinR_len (R := Ix.parts s.data.toList) (k := k) (i := m) (by omega) (by omega)
    exact ref23_Glue hS (by have := joinT_small hv (k := k) (m := m) (by omega) (by omega); rw [data_len] at this; show (joinT s.data.toList k m).length ≤ _; omega) (by omega) (by omega)
  have hTs := joinT_small hv (k := k) (m := m) (by omega) (by omega)
  rw [data_len] at hTs
  have S0 := fun w => ref4_Start (bs (joinT s.data.toList k m)) k (by rw [bs_size]; omega) w
  rw [bs_toList, hpt.1] at S0
  have C0 := fun w => ref4_Clamp (bs (joinT s.data.toList k m)) (joinP s.data.toList k m : Nat) (by rw [bs_size]; omega) w
  rw [bs_toList] at C0
  have hjp := hpt.2
  rw [data_len] at hjp
  generalize joinT s.data.toList k m = TT at *
  have hJP : Hid (((fore ((Ix.parts s.data.toList).take k)).length : Int) + (joinAt ((Ix.parts s.data.toList).getD k []) (((Ix.parts s.data.toList).drop (k + 1)).take (m - 1)) : Nat) = (joinP s.data.toList k m : Nat)) := by show _ = _; rw [joinP]; omega
  generalize joinP s.data.toList k m = pp at *
  generalize Line.clamp TT pp = zz at *
  generalize (fore ((Ix.parts s.data.toList).take k)).length = aa at *
  generalize (Line.L s.data.toList).length = N at *
  generalize Ix.parts s.data.toList = R at *
  obtain ⟨i0, hi, hz0, hz1, hz2⟩ := info_parts info_string
  have g0 : decide ((k : Int) < 0) = false := decide_eq_false (by omega)
  have g1 : decide ((N : Int) ≤ (k : Int)) = false := decide_eq_false (by omega)
  have g2 : IntKind.i64.wrap ((N : Int) - 1) = (N : Int) - 1 := by rw [IntKind.wrap_i64]; omega
  have g3 : ((k : Int) == (N : Int) - 1) = false := by rw [beq_eq_false_iff_ne]; omega
  have g4 : IntKind.i64.wrap ((N : Int) - (k : Int)) = (N : Int) - (k : Int) := by rw [IntKind.wrap_i64]; omega
  have q0 : decide (n < (2 : Int)) = false := decide_eq_false (by omega)
  have q1 : decide (n > (N : Int) - (k : Int)) = false := decide_eq_false (by omega)
  have q2 : decide ((N : Int) - (k : Int) < n) = false := decide_eq_false (by omega)
  obtain rfl : n = (m : Int) := by omega
  have R2 := Lib.hid R1
  have S1 := Lib.hid S0
  have C1 := Lib.hid C0
  have HL := Lib.hid hL
  have HF := Lib.hid hfr
  clear V0 hv R1 S0 C0 hL hfr hpt
  go_enter Tryd.func13, Tryd.ntmps13
  go_wp2_with (first
    | (go_at_call 39; (with_reducible refine (V1.out _).mono ?_); rintro e u ⟨rfl, hbn⟩; replace hB := hB.trans (hbn.mono hB.size); clear hbn)
    | (go_at_call 35; (with_reducible refine (A1.out _).mono ?_); rintro e u ⟨rfl, hbn⟩; replace hB := hB.trans (hbn.mono hB.size); clear hbn)
    | (go_at_call 40; (with_reducible refine (R2.out _).mono ?_); rintro e u ⟨⟨A, c, rfl, hO⟩, hbn⟩; replace hO := ownsRow_low hO hB.size; replace hB := hB.trans (hbn.mono hB.size); clear hbn))
  go_loopw [9, 10, 11] (fun lv av iv wr => ∃ (i t g c j : Nat), lv = .slice (some ⟨g, 0, none⟩) j c ∧ av = .int .i64 t ∧ iv = .int .i64 i ∧ 1 ≤ i ∧ i ≤ m ∧ j + i = N + 1 ∧ Hid (2 ≤ i → t = joinAt (R.getD k []) ((R.drop (k + 1)).take (i - 1))) ∧ Hid (wr.ownsRow w.heap.size 9 1 (.slice (some ⟨g, 0, none⟩) j c) j (lrow (joinR R k i))) ∧ Below w.heap.size w wr) (fun _ _ iv _ => m - (intOf iv).toNat)
  case atStart =>
    obtain ⟨g, rfl⟩ := own_some hO (by omega)
    exact ⟨1, 0, g, c, N, rfl, rfl, rfl, Nat.le_refl _, by omega, rfl, fun h => absurd h (by omega), by show World.ownsRow _ _ _ _ _ _ _; rw [joinR_one (by have := HL.out; omega)]; exact hO, hB⟩
  case round =>
    clear hB hO
    obtain ⟨i, t, g, c, j, rfl, rfl, rfl, hi1, him, hji, HT, HO, hB⟩ := hrel
    by_cases hlt : i < m
    · have r0 : decide ((i : Int) < (m : Int)) = true := decide_eq_true (by omega)
      obtain ⟨x, hx⟩ : ∃ x, R[k + i]? = some x := ⟨_, List.getElem?_eq_getElem (by have := HL.out; omega)⟩
      obtain ⟨ha0, hs0⟩ := joinR_step hi1 hx
      have hp0 := joinR_put hi1 hx
      have hk0 := joinR_at (i := i) (show k + 1 ≤ R.length by have := HL.out; omega)
      have hk1 := joinR_next hx
      have hO := HO.out
      have c1 := hO.cellAt k (by omega)
      have c2 := hO.cellAt (k + 1) (by omega)
      rw [lrow_get hk0] at c1
      rw [lrow_get hk1] at c2
      have fz := hO.frozenAt k
      have sm0 := joinR_small (R := R) (k := k) (i := i) (by have := HL.out; omega)
      have sm1 := joinR_small (R := R) (k := k) (i := i + 1) (by have := HL.out; omega)
      rw [Nat.add_sub_cancel, hs0] at sm1
      have xl : x.length ≤ s.size + 1 := by have h1 := fore_next hx; have h2 := fore_most (R := R) (k + i + 1); rw [HF.out] at h2; omega
      rw [HF.out] at sm0 sm1
      have HA := Lib.hid ha0
      have hg0 := two_gap (joined (R.getD k []) ((R.drop (k + 1)).take (i - 1))) x
      clear ha0 hs0 hk0 hk1 HT HO
      generalize joined (R.getD k []) ((R.drop (k + 1)).take (i - 1)) = X at *
      have L0 := fun w => ref5_Lead (bs x) (by rw [bs_size]; omega) w
      rw [bs_toList] at L0
      have L1 := Lib.hid L0
      have e1 := extract_from (bs x) (Class.lead x)
      rw [bs_toList] at e1
      have hlead := lead_le x
      have i1 : (Class.lead x : Int) ≤ ((bs x).size : Int) := by rw [bs_size]; omega
      change (bs x).extract (Class.lead x) (bs x).size = bs (trim x) at e1
      have hTl : (trim x).length ≤ x.length := by rw [trim, List.length_drop]; omega
      have g7 := bs_isEmpty (trim x)
      have g8 := bs_isEmpty X
      have hY := bs_size X
      have hZ := bs_size (trim x)
      have hkj : (k : Int) < (j : Int) := by omega
      have hkj1 : (k : Int) + 1 < (j : Int) := by omega
      have hjc : j ≤ c := own_cap hO
      have hJl0 := joinR_len (R := R) (k := k) hi1 (by have := HL.out; omega)
      have HP := Lib.hid hp0
      clear hp0 L0 hlead hx
      go_wp2
      go_quiet (fail)
      have hO2 : (wr.drewN nq).ownsRow w.heap.size 9 1 (.slice (some ⟨g, 0, none⟩) j c) j (lrow (joinR R k i)) := hO
      have hB2 : Below w.heap.size w (wr.drewN nq) := hB.trans ((below_gb (gb_drewN wr nq none)).mono hB.size)
      have c3 : (wr.drewN nq).cell? ⟨g, k, none⟩ = some (.string (bs X)) := c1
      have fz3 : (wr.drewN nq).frozen? ⟨g, k, none⟩ = false := fz
      clear c1 c2 fz hO hB
      generalize wr.drewN nq = wd at *
      obtain ⟨hO1, hgr1⟩ := hO2.stored k (.string (bs (two X x)))
      rw [lrow_set] at hO1
      have hB1 := hB2.grown hgr1 hB2.size (fun q hq => (hO2.lt q hq).1)
      have hJl : ((joinR R k i).set k (two X x)).length = j := by rw [List.length_set]; have := HL.out; omega
      clear hgr1 hJl0
      generalize (joinR R k i).set k (two X x) = J1 at *
      have ha : ∀ o q : Nat, (⟨g, o, none⟩ : Addr).add q = ⟨g, o + q, none⟩ := fun o q => by unfold Addr.add; split <;> simp_all
      have HT1 : Hid (∀ q y, (lrow (J1.take (k + 1)))[q]? = some y → (wd.setCell ⟨g, k, none⟩ (.string (bs (two X x)))).cell? ⟨g, q, none⟩ = some y) := fun q y hy => by
        rw [← lrow_take, List.getElem?_take] at hy
        split at hy
        · have := hO1.cells (g := g) rfl q y hy
          rwa [ha, Nat.zero_add] at this
        · cases hy
      clear hO2
      by_cases h1 : X = []
      ·
        have hnx : bs X ++ bs (trim x) = bs (two X x) := by rw [bs_append, hg0, gap_none (.inr (.inl h1)), List.append_nil]
        have g9 : (bs X).toList.isEmpty = true := by rw [g8, h1]; rfl
        have zb : ¬ 9223372036854775807 < (bs X).size + (bs (trim x)).size := by omega
        clear g8 g7 hg0 h1
        generalize bs (two X x) = Q at *
        generalize bs X = Y at *
        generalize bs (trim x) = Z at *
        go_wp2_with (first
          | (go_at_call 41; (with_reducible refine (L1.out _).mono ?_); rintro e u ⟨rfl, rfl⟩)
          | (at_builtin; refine wpList_append_own _ rfl _ _ 49 rfl w.heap.size 9 i0 (.string ⟨#[]⟩) 1 16 Tryd.underlying49 hi hz0 hz1 hz2 rfl (by decide) _ _ _ rfl (World.ownsRow_nil _ _ _ _) ⟨g, 0, none⟩ (k + 1) c (lrow (J1.take (k + 1))) rfl ?c0_1 ?c1_1 ?c2_1 ?c3_1 ?c4_1 ?c5_1 ?_))
        case c0_1 => rw [lrow_length, List.length_take]; omega
        case c1_1 =>
          intro q y hy
          rw [ha, Nat.zero_add]
          exact HT1.out q y hy
        case c2_1 => exact lrow_one _
        case c3_1 => unfold maxLen; omega
        case c4_1 => omega
        case c5_1 => exact hB1.size
        intro v6 w6 hown6 hgrow6 _
        obtain ⟨a6, cap6, rfl⟩ := own_shape hown6
        have hO6 := hO1.kept hgrow6 (by simp [Value.ownBlock])
        have W6 := hB1.grown hgrow6 hB1.size (fun q hq => by cases hq)
        have b2 : (k : Int) + 2 ≤ (j : Int) := by omega
        by_cases hcap : c = k + 2
        · subst hcap
          go_wp2_with (at_builtin; refine wpList_append_own _ rfl _ _ 49 rfl w.heap.size 9 i0 (.string ⟨#[]⟩) 1 16 Tryd.underlying49 hi hz0 hz1 hz2 rfl (by decide) _ _ _ rfl hown6 ⟨g, 0, none⟩ (j - (k + 2)) 0 (lrow (J1.drop (k + 2))) ?e0_2 ?e1_2 ?e2_2 ?e3_2 ?e4_2 ?e5_2 ?e6_2 ?_)
          case e0_2 => first | rfl | go_simp | simp [Act.eval]
          case e1_2 => rw [lrow_length, List.length_drop, Nat.mul_one, hJl]
          case e2_2 =>
            intro q y hy
            have hq := (List.getElem?_eq_some_iff.1 hy).1
            rw [lrow_length, List.length_drop] at hq
            omega
          case e3_2 => exact lrow_one _
          case e4_2 => unfold maxLen; omega
          case e5_2 => omega
          case e6_2 => exact W6.size
          intro v7 w7 hown7 hgrow7 _
          obtain ⟨a7, cap7, rfl⟩ := own_shape hown7
          have W7 := W6.grown hgrow7 W6.size (fun q hq => (hown6.lt q hq).1)
          rw [← lrow_append, HP.out] at hown7
          obtain ⟨g7, rfl⟩ := own_some hown7 (by omega)
          have HO7 := Lib.hid hown7
          clear hown7 hgrow7 hO6 hown6 hgrow6 HT1 hO1
          go_wp2
          go_roundw
          case rel => first | exact ⟨i + 1, X.length, g7, cap7, k + 1 + (j - (k + 2)), rfl, by go_num, by go_num, by omega, by omega, by omega, fun _ => HA.out.symm, HO7, W7⟩ | exact ⟨i + 1, X.length, g7, cap7, k + 1, rfl, by go_num, by go_num, by omega, by omega, by omega, fun _ => HA.out.symm, HO7, W7⟩
          case measure => simp [intOf]; omega
        · go_wp2_with (at_builtin; refine wpList_append_own _ rfl _ _ 49 rfl w.heap.size 9 i0 (.string ⟨#[]⟩) 1 16 Tryd.underlying49 hi hz0 hz1 hz2 rfl (by decide) _ _ _ rfl hown6 ⟨g, k + 2, none⟩ (j - (k + 2)) (c - (k + 2)) (lrow (J1.drop (k + 2))) ?e0_3 ?e1_3 ?e2_3 ?e3_3 ?e4_3 ?e5_3 ?e6_3 ?_)
          case e0_3 => first | rfl | go_simp | simp [Act.eval]
          case e1_3 => rw [lrow_length, List.length_drop, Nat.mul_one, hJl]
          case e2_3 =>
            intro q y hy
            rw [← lrow_drop, List.getElem?_drop] at hy
            have := hO6.cells (g := g) rfl _ y hy
            rw [ha, Nat.zero_add] at this
            rw [ha]
            exact this
          case e3_3 => exact lrow_one _
          case e4_3 => unfold maxLen; omega
          case e5_3 => omega
          case e6_3 => exact W6.size
          intro v7 w7 hown7 hgrow7 _
          obtain ⟨a7, cap7, rfl⟩ := own_shape hown7
          have W7 := W6.grown hgrow7 W6.size (fun q hq => (hown6.lt q hq).1)
          rw [← lrow_append, HP.out] at hown7
          obtain ⟨g7, rfl⟩ := own_some hown7 (by omega)
          have HO7 := Lib.hid hown7
          clear hown7 hgrow7 hO6 hown6 hgrow6 HT1 hO1
          go_wp2
          go_roundw
          case rel => first | exact ⟨i + 1, X.length, g7, cap7, k + 1 + (j - (k + 2)), rfl, by go_num, by go_num, by omega, by omega, by omega, fun _ => HA.out.symm, HO7, W7⟩ | exact ⟨i + 1, X.length, g7, cap7, k + 1, rfl, by go_num, by go_num, by omega, by omega, by omega, fun _ => HA.out.symm, HO7, W7⟩
          case measure => simp [intOf]; omega
      · by_cases h2 : trim x = []
        ·
          have hnx : bs X ++ bs (trim x) = bs (two X x) := by rw [bs_append, hg0, gap_none (.inl h2), List.append_nil]
          have g9 : (bs X).toList.isEmpty = false := by rw [g8]; cases X with | nil => exact absurd rfl h1 | cons _ _ => rfl
          have g10 : (bs (trim x)).toList.isEmpty = true := by rw [g7, h2]; rfl
          have zb : ¬ 9223372036854775807 < (bs X).size + (bs (trim x)).size := by omega
          clear g8 g7 hg0 h1 h2
          generalize bs (two X x) = Q at *
          generalize bs X = Y at *
          generalize bs (trim x) = Z at *
          go_wp2_with (first
            | (go_at_call 41; (with_reducible refine (L1.out _).mono ?_); rintro e u ⟨rfl, rfl⟩)
            | (at_builtin; refine wpList_append_own _ rfl _ _ 49 rfl w.heap.size 9 i0 (.string ⟨#[]⟩) 1 16 Tryd.underlying49 hi hz0 hz1 hz2 rfl (by decide) _ _ _ rfl (World.ownsRow_nil _ _ _ _) ⟨g, 0, none⟩ (k + 1) c (lrow (J1.take (k + 1))) rfl ?c0_4 ?c1_4 ?c2_4 ?c3_4 ?c4_4 ?c5_4 ?_))
          case c0_4 => rw [lrow_length, List.length_take]; omega
          case c1_4 =>
            intro q y hy
            rw [ha, Nat.zero_add]
            exact HT1.out q y hy
          case c2_4 => exact lrow_one _
          case c3_4 => unfold maxLen; omega
          case c4_4 => omega
          case c5_4 => exact hB1.size
          intro v6 w6 hown6 hgrow6 _
          obtain ⟨a6, cap6, rfl⟩ := own_shape hown6
          have hO6 := hO1.kept hgrow6 (by simp [Value.ownBlock])
          have W6 := hB1.grown hgrow6 hB1.size (fun q hq => by cases hq)
          have b2 : (k : Int) + 2 ≤ (j : Int) := by omega
          by_cases hcap : c = k + 2
          · subst hcap
            go_wp2_with (at_builtin; refine wpList_append_own _ rfl _ _ 49 rfl w.heap.size 9 i0 (.string ⟨#[]⟩) 1 16 Tryd.underlying49 hi hz0 hz1 hz2 rfl (by decide) _ _ _ rfl hown6 ⟨g, 0, none⟩ (j - (k + 2)) 0 (lrow (J1.drop (k + 2))) ?e0_5 ?e1_5 ?e2_5 ?e3_5 ?e4_5 ?e5_5 ?e6_5 ?_)
            case e0_5 => first | rfl | go_simp | simp [Act.eval]
            case e1_5 => rw [lrow_length, List.length_drop, Nat.mul_one, hJl]
            case e2_5 =>
              intro q y hy
              have hq := (List.getElem?_eq_some_iff.1 hy).1
              rw [lrow_length, List.length_drop] at hq
              omega
            case e3_5 => exact lrow_one _
            case e4_5 => unfold maxLen; omega
            case e5_5 => omega
            case e6_5 => exact W6.size
            intro v7 w7 hown7 hgrow7 _
            obtain ⟨a7, cap7, rfl⟩ := own_shape hown7
            have W7 := W6.grown hgrow7 W6.size (fun q hq => (hown6.lt q hq).1)
            rw [← lrow_append, HP.out] at hown7
            obtain ⟨g7, rfl⟩ := own_some hown7 (by omega)
            have HO7 := Lib.hid hown7
            clear hown7 hgrow7 hO6 hown6 hgrow6 HT1 hO1
            go_wp2
            go_roundw
            case rel => first | exact ⟨i + 1, X.length, g7, cap7, k + 1 + (j - (k + 2)), rfl, by go_num, by go_num, by omega, by omega, by omega, fun _ => HA.out.symm, HO7, W7⟩ | exact ⟨i + 1, X.length, g7, cap7, k + 1, rfl, by go_num, by go_num, by omega, by omega, by omega, fun _ => HA.out.symm, HO7, W7⟩
            case measure => simp [intOf]; omega
          · go_wp2_with (at_builtin; refine wpList_append_own _ rfl _ _ 49 rfl w.heap.size 9 i0 (.string ⟨#[]⟩) 1 16 Tryd.underlying49 hi hz0 hz1 hz2 rfl (by decide) _ _ _ rfl hown6 ⟨g, k + 2, none⟩ (j - (k + 2)) (c - (k + 2)) (lrow (J1.drop (k + 2))) ?e0_6 ?e1_6 ?e2_6 ?e3_6 ?e4_6 ?e5_6 ?e6_6 ?_)
            case e0_6 => first | rfl | go_simp | simp [Act.eval]
            case e1_6 => rw [lrow_length, List.length_drop, Nat.mul_one, hJl]
            case e2_6 =>
              intro q y hy
              rw [← lrow_drop, List.getElem?_drop] at hy
              have := hO6.cells (g := g) rfl _ y hy
              rw [ha, Nat.zero_add] at this
              rw [ha]
              exact this
            case e3_6 => exact lrow_one _
            case e4_6 => unfold maxLen; omega
            case e5_6 => omega
            case e6_6 => exact W6.size
            intro v7 w7 hown7 hgrow7 _
            obtain ⟨a7, cap7, rfl⟩ := own_shape hown7
            have W7 := W6.grown hgrow7 W6.size (fun q hq => (hown6.lt q hq).1)
            rw [← lrow_append, HP.out] at hown7
            obtain ⟨g7, rfl⟩ := own_some hown7 (by omega)
            have HO7 := Lib.hid hown7
            clear hown7 hgrow7 hO6 hown6 hgrow6 HT1 hO1
            go_wp2
            go_roundw
            case rel => first | exact ⟨i + 1, X.length, g7, cap7, k + 1 + (j - (k + 2)), rfl, by go_num, by go_num, by omega, by omega, by omega, fun _ => HA.out.symm, HO7, W7⟩ | exact ⟨i + 1, X.length, g7, cap7, k + 1, rfl, by go_num, by go_num, by omega, by omega, by omega, fun _ => HA.out.symm, HO7, W7⟩
            case measure => simp [intOf]; omega
        ·
          have g9 : (bs X).toList.isEmpty = false := by rw [g8]; cases X with | nil => exact absurd rfl h1 | cons _ _ => rfl
          have g10 : (bs (trim x)).toList.isEmpty = false := by rw [g7]; cases h : trim x with | nil => exact absurd h h2 | cons _ _ => rfl
          obtain ⟨m0, hm0⟩ : ∃ m0, X.length = m0 + 1 := ⟨X.length - 1, by have := List.length_pos_iff.2 h1; omega⟩
          have hb0 : m0 < (bs X).size := by omega
          have im : IntKind.i64.wrap ((X.length : Int) - 1) = (m0 : Int) := by rw [IntKind.wrap_i64]; omega
          have hb1 : m0 < X.length := by omega
          obtain ⟨z, hgl, hz⟩ : ∃ z : UInt8, X.getLast? = some z ∧ ∀ h : m0 < (bs X).size, (bs X)[m0]'h = z := ⟨(bs X)[m0], by
            have := byte_get (bs X) hb0
            rw [bs_toList] at this
            rw [List.getLast?_eq_getElem?, hm0, Nat.add_sub_cancel]
            exact this, fun _ => rfl⟩
          have k1 : ∀ h : m0 < (bs X).size, ((((bs X)[m0]'h).toNat : Int) != 32) = !decide (z = 32) := fun h => by rw [hz h, ← blank_test z]; rfl
          have k2 : ∀ h : m0 < (bs X).size, ((((bs X)[m0]'h).toNat : Int) != 9) = !decide (z = 9) := fun h => by rw [hz h, ← tab_byte z]; rfl
          have k3 : ∀ h : m0 < (bs X).size, ((((bs X)[m0]'h).toNat : Int) = 32) = (z = 32) := fun h => by rw [hz h]; have := blank_test z; rw [Bool.eq_iff_iff, beq_iff_eq, decide_eq_true_iff] at this; exact propext this
          have k4 : ∀ h : m0 < (bs X).size, ((((bs X)[m0]'h).toNat : Int) = 9) = (z = 9) := fun h => by rw [hz h]; have := tab_byte z; rw [Bool.eq_iff_iff, beq_iff_eq, decide_eq_true_iff] at this; exact propext this
          clear g8 g7 h1 hm0 hz
          by_cases h3 : z = 32
          ·
            have hnx : bs X ++ bs (trim x) = bs (two X x) := by rw [bs_append, hg0, gap_none (.inr (.inr ⟨z, hgl, by rw [h3]; rfl⟩)), List.append_nil]
            have zb : ¬ 9223372036854775807 < (bs X).size + (bs (trim x)).size := by omega
            simp only [decide_eq_true h3, Bool.not_true] at k1
            simp only [eq_true h3] at k3
            have h4 : ¬ z = 9 := by rw [h3]; decide
            simp only [decide_eq_false h4, Bool.not_false] at k2
            simp only [eq_false h4] at k4
            clear hg0 hgl h2 h3 h4
            generalize bs (two X x) = Q at *
            generalize bs X = Y at *
            generalize bs (trim x) = Z at *
            go_wp2_with (first
              | (go_at_call 41; (with_reducible refine (L1.out _).mono ?_); rintro e u ⟨rfl, rfl⟩)
              | (at_builtin; refine wpList_append_own _ rfl _ _ 49 rfl w.heap.size 9 i0 (.string ⟨#[]⟩) 1 16 Tryd.underlying49 hi hz0 hz1 hz2 rfl (by decide) _ _ _ rfl (World.ownsRow_nil _ _ _ _) ⟨g, 0, none⟩ (k + 1) c (lrow (J1.take (k + 1))) rfl ?c0_7 ?c1_7 ?c2_7 ?c3_7 ?c4_7 ?c5_7 ?_))
            case c0_7 => rw [lrow_length, List.length_take]; omega
            case c1_7 =>
              intro q y hy
              rw [ha, Nat.zero_add]
              exact HT1.out q y hy
            case c2_7 => exact lrow_one _
            case c3_7 => unfold maxLen; omega
            case c4_7 => omega
            case c5_7 => exact hB1.size
            intro v6 w6 hown6 hgrow6 _
            obtain ⟨a6, cap6, rfl⟩ := own_shape hown6
            have hO6 := hO1.kept hgrow6 (by simp [Value.ownBlock])
            have W6 := hB1.grown hgrow6 hB1.size (fun q hq => by cases hq)
            have b2 : (k : Int) + 2 ≤ (j : Int) := by omega
            by_cases hcap : c = k + 2
            · subst hcap
              go_wp2_with (at_builtin; refine wpList_append_own _ rfl _ _ 49 rfl w.heap.size 9 i0 (.string ⟨#[]⟩) 1 16 Tryd.underlying49 hi hz0 hz1 hz2 rfl (by decide) _ _ _ rfl hown6 ⟨g, 0, none⟩ (j - (k + 2)) 0 (lrow (J1.drop (k + 2))) ?e0_8 ?e1_8 ?e2_8 ?e3_8 ?e4_8 ?e5_8 ?e6_8 ?_)
              case e0_8 => first | rfl | go_simp | simp [Act.eval]
              case e1_8 => rw [lrow_length, List.length_drop, Nat.mul_one, hJl]
              case e2_8 =>
                intro q y hy
                have hq := (List.getElem?_eq_some_iff.1 hy).1
                rw [lrow_length, List.length_drop] at hq
                omega
              case e3_8 => exact lrow_one _
              case e4_8 => unfold maxLen; omega
              case e5_8 => omega
              case e6_8 => exact W6.size
              intro v7 w7 hown7 hgrow7 _
              obtain ⟨a7, cap7, rfl⟩ := own_shape hown7
              have W7 := W6.grown hgrow7 W6.size (fun q hq => (hown6.lt q hq).1)
              rw [← lrow_append, HP.out] at hown7
              obtain ⟨g7, rfl⟩ := own_some hown7 (by omega)
              have HO7 := Lib.hid hown7
              clear hown7 hgrow7 hO6 hown6 hgrow6 HT1 hO1
              go_wp2
              go_roundw
              case rel => first | exact ⟨i + 1, X.length, g7, cap7, k + 1 + (j - (k + 2)), rfl, by go_num, by go_num, by omega, by omega, by omega, fun _ => HA.out.symm, HO7, W7⟩ | exact ⟨i + 1, X.length, g7, cap7, k + 1, rfl, by go_num, by go_num, by omega, by omega, by omega, fun _ => HA.out.symm, HO7, W7⟩
              case measure => simp [intOf]; omega
            · go_wp2_with (at_builtin; refine wpList_append_own _ rfl _ _ 49 rfl w.heap.size 9 i0 (.string ⟨#[]⟩) 1 16 Tryd.underlying49 hi hz0 hz1 hz2 rfl (by decide) _ _ _ rfl hown6 ⟨g, k + 2, none⟩ (j - (k + 2)) (c - (k + 2)) (lrow (J1.drop (k + 2))) ?e0_9 ?e1_9 ?e2_9 ?e3_9 ?e4_9 ?e5_9 ?e6_9 ?_)
              case e0_9 => first | rfl | go_simp | simp [Act.eval]
              case e1_9 => rw [lrow_length, List.length_drop, Nat.mul_one, hJl]
              case e2_9 =>
                intro q y hy
                rw [← lrow_drop, List.getElem?_drop] at hy
                have := hO6.cells (g := g) rfl _ y hy
                rw [ha, Nat.zero_add] at this
                rw [ha]
                exact this
              case e3_9 => exact lrow_one _
              case e4_9 => unfold maxLen; omega
              case e5_9 => omega
              case e6_9 => exact W6.size
              intro v7 w7 hown7 hgrow7 _
              obtain ⟨a7, cap7, rfl⟩ := own_shape hown7
              have W7 := W6.grown hgrow7 W6.size (fun q hq => (hown6.lt q hq).1)
              rw [← lrow_append, HP.out] at hown7
              obtain ⟨g7, rfl⟩ := own_some hown7 (by omega)
              have HO7 := Lib.hid hown7
              clear hown7 hgrow7 hO6 hown6 hgrow6 HT1 hO1
              go_wp2
              go_roundw
              case rel => first | exact ⟨i + 1, X.length, g7, cap7, k + 1 + (j - (k + 2)), rfl, by go_num, by go_num, by omega, by omega, by omega, fun _ => HA.out.symm, HO7, W7⟩ | exact ⟨i + 1, X.length, g7, cap7, k + 1, rfl, by go_num, by go_num, by omega, by omega, by omega, fun _ => HA.out.symm, HO7, W7⟩
              case measure => simp [intOf]; omega
          · by_cases h4 : z = 9
            ·
              have hnx : bs X ++ bs (trim x) = bs (two X x) := by rw [bs_append, hg0, gap_none (.inr (.inr ⟨z, hgl, by rw [h4]; rfl⟩)), List.append_nil]
              have zb : ¬ 9223372036854775807 < (bs X).size + (bs (trim x)).size := by omega
              simp only [decide_eq_false h3, Bool.not_false] at k1
              simp only [eq_false h3] at k3
              simp only [decide_eq_true h4, Bool.not_true] at k2
              simp only [eq_true h4] at k4
              clear hg0 hgl h2 h3 h4
              generalize bs (two X x) = Q at *
              generalize bs X = Y at *
              generalize bs (trim x) = Z at *
              go_wp2_with (first
                | (go_at_call 41; (with_reducible refine (L1.out _).mono ?_); rintro e u ⟨rfl, rfl⟩)
                | (at_builtin; refine wpList_append_own _ rfl _ _ 49 rfl w.heap.size 9 i0 (.string ⟨#[]⟩) 1 16 Tryd.underlying49 hi hz0 hz1 hz2 rfl (by decide) _ _ _ rfl (World.ownsRow_nil _ _ _ _) ⟨g, 0, none⟩ (k + 1) c (lrow (J1.take (k + 1))) rfl ?c0_10 ?c1_10 ?c2_10 ?c3_10 ?c4_10 ?c5_10 ?_))
              case c0_10 => rw [lrow_length, List.length_take]; omega
              case c1_10 =>
                intro q y hy
                rw [ha, Nat.zero_add]
                exact HT1.out q y hy
              case c2_10 => exact lrow_one _
              case c3_10 => unfold maxLen; omega
              case c4_10 => omega
              case c5_10 => exact hB1.size
              intro v6 w6 hown6 hgrow6 _
              obtain ⟨a6, cap6, rfl⟩ := own_shape hown6
              have hO6 := hO1.kept hgrow6 (by simp [Value.ownBlock])
              have W6 := hB1.grown hgrow6 hB1.size (fun q hq => by cases hq)
              have b2 : (k : Int) + 2 ≤ (j : Int) := by omega
              by_cases hcap : c = k + 2
              · subst hcap
                go_wp2_with (at_builtin; refine wpList_append_own _ rfl _ _ 49 rfl w.heap.size 9 i0 (.string ⟨#[]⟩) 1 16 Tryd.underlying49 hi hz0 hz1 hz2 rfl (by decide) _ _ _ rfl hown6 ⟨g, 0, none⟩ (j - (k + 2)) 0 (lrow (J1.drop (k + 2))) ?e0_11 ?e1_11 ?e2_11 ?e3_11 ?e4_11 ?e5_11 ?e6_11 ?_)
                case e0_11 => first | rfl | go_simp | simp [Act.eval]
                case e1_11 => rw [lrow_length, List.length_drop, Nat.mul_one, hJl]
                case e2_11 =>
                  intro q y hy
                  have hq := (List.getElem?_eq_some_iff.1 hy).1
                  rw [lrow_length, List.length_drop] at hq
                  omega
                case e3_11 => exact lrow_one _
                case e4_11 => unfold maxLen; omega
                case e5_11 => omega
                case e6_11 => exact W6.size
                intro v7 w7 hown7 hgrow7 _
                obtain ⟨a7, cap7, rfl⟩ := own_shape hown7
                have W7 := W6.grown hgrow7 W6.size (fun q hq => (hown6.lt q hq).1)
                rw [← lrow_append, HP.out] at hown7
                obtain ⟨g7, rfl⟩ := own_some hown7 (by omega)
                have HO7 := Lib.hid hown7
                clear hown7 hgrow7 hO6 hown6 hgrow6 HT1 hO1
                go_wp2
                go_roundw
                case rel => first | exact ⟨i + 1, X.length, g7, cap7, k + 1 + (j - (k + 2)), rfl, by go_num, by go_num, by omega, by omega, by omega, fun _ => HA.out.symm, HO7, W7⟩ | exact ⟨i + 1, X.length, g7, cap7, k + 1, rfl, by go_num, by go_num, by omega, by omega, by omega, fun _ => HA.out.symm, HO7, W7⟩
                case measure => simp [intOf]; omega
              · go_wp2_with (at_builtin; refine wpList_append_own _ rfl _ _ 49 rfl w.heap.size 9 i0 (.string ⟨#[]⟩) 1 16 Tryd.underlying49 hi hz0 hz1 hz2 rfl (by decide) _ _ _ rfl hown6 ⟨g, k + 2, none⟩ (j - (k + 2)) (c - (k + 2)) (lrow (J1.drop (k + 2))) ?e0_12 ?e1_12 ?e2_12 ?e3_12 ?e4_12 ?e5_12 ?e6_12 ?_)
                case e0_12 => first | rfl | go_simp | simp [Act.eval]
                case e1_12 => rw [lrow_length, List.length_drop, Nat.mul_one, hJl]
                case e2_12 =>
                  intro q y hy
                  rw [← lrow_drop, List.getElem?_drop] at hy
                  have := hO6.cells (g := g) rfl _ y hy
                  rw [ha, Nat.zero_add] at this
                  rw [ha]
                  exact this
                case e3_12 => exact lrow_one _
                case e4_12 => unfold maxLen; omega
                case e5_12 => omega
                case e6_12 => exact W6.size
                intro v7 w7 hown7 hgrow7 _
                obtain ⟨a7, cap7, rfl⟩ := own_shape hown7
                have W7 := W6.grown hgrow7 W6.size (fun q hq => (hown6.lt q hq).1)
                rw [← lrow_append, HP.out] at hown7
                obtain ⟨g7, rfl⟩ := own_some hown7 (by omega)
                have HO7 := Lib.hid hown7
                clear hown7 hgrow7 hO6 hown6 hgrow6 HT1 hO1
                go_wp2
                go_roundw
                case rel => first | exact ⟨i + 1, X.length, g7, cap7, k + 1 + (j - (k + 2)), rfl, by go_num, by go_num, by omega, by omega, by omega, fun _ => HA.out.symm, HO7, W7⟩ | exact ⟨i + 1, X.length, g7, cap7, k + 1, rfl, by go_num, by go_num, by omega, by omega, by omega, fun _ => HA.out.symm, HO7, W7⟩
                case measure => simp [intOf]; omega
            ·
              have hnx1 : bs X ++ ⟨#[32]⟩ = bs (X ++ [32]) := bs_append X [32]
              have hnx : bs (X ++ [32]) ++ bs (trim x) = bs (two X x) := by rw [bs_append, hg0, gap_some h2 hgl (by rw [Opr.blank, decide_eq_false h3, decide_eq_false h4]; rfl)]
              have zb : ¬ 9223372036854775807 < (bs X).size + 1 := by omega
              have zc : ¬ 9223372036854775807 < (bs (X ++ [32])).size + (bs (trim x)).size := by rw [bs_size (X ++ [32]), List.length_append, List.length_singleton]; omega
              simp only [decide_eq_false h3, Bool.not_false] at k1
              simp only [eq_false h3] at k3
              simp only [decide_eq_false h4, Bool.not_false] at k2
              simp only [eq_false h4] at k4
              clear hg0 hgl h2 h3 h4
              generalize bs (two X x) = Q at *
              generalize bs (X ++ [32]) = G at *
              generalize bs X = Y at *
              generalize bs (trim x) = Z at *
              go_wp2_with (first
                | (go_at_call 41; (with_reducible refine (L1.out _).mono ?_); rintro e u ⟨rfl, rfl⟩)
                | (at_builtin; refine wpList_append_own _ rfl _ _ 49 rfl w.heap.size 9 i0 (.string ⟨#[]⟩) 1 16 Tryd.underlying49 hi hz0 hz1 hz2 rfl (by decide) _ _ _ rfl (World.ownsRow_nil _ _ _ _) ⟨g, 0, none⟩ (k + 1) c (lrow (J1.take (k + 1))) rfl ?c0_13 ?c1_13 ?c2_13 ?c3_13 ?c4_13 ?c5_13 ?_))
              case c0_13 => rw [lrow_length, List.length_take]; omega
              case c1_13 =>
                intro q y hy
                rw [ha, Nat.zero_add]
                exact HT1.out q y hy
              case c2_13 => exact lrow_one _
              case c3_13 => unfold maxLen; omega
              case c4_13 => omega
              case c5_13 => exact hB1.size
              intro v6 w6 hown6 hgrow6 _
              obtain ⟨a6, cap6, rfl⟩ := own_shape hown6
              have hO6 := hO1.kept hgrow6 (by simp [Value.ownBlock])
              have W6 := hB1.grown hgrow6 hB1.size (fun q hq => by cases hq)
              have b2 : (k : Int) + 2 ≤ (j : Int) := by omega
              by_cases hcap : c = k + 2
              · subst hcap
                go_wp2_with (at_builtin; refine wpList_append_own _ rfl _ _ 49 rfl w.heap.size 9 i0 (.string ⟨#[]⟩) 1 16 Tryd.underlying49 hi hz0 hz1 hz2 rfl (by decide) _ _ _ rfl hown6 ⟨g, 0, none⟩ (j - (k + 2)) 0 (lrow (J1.drop (k + 2))) ?e0_14 ?e1_14 ?e2_14 ?e3_14 ?e4_14 ?e5_14 ?e6_14 ?_)
                case e0_14 => first | rfl | go_simp | simp [Act.eval]
                case e1_14 => rw [lrow_length, List.length_drop, Nat.mul_one, hJl]
                case e2_14 =>
                  intro q y hy
                  have hq := (List.getElem?_eq_some_iff.1 hy).1
                  rw [lrow_length, List.length_drop] at hq
                  omega
                case e3_14 => exact lrow_one _
                case e4_14 => unfold maxLen; omega
                case e5_14 => omega
                case e6_14 => exact W6.size
                intro v7 w7 hown7 hgrow7 _
                obtain ⟨a7, cap7, rfl⟩ := own_shape hown7
                have W7 := W6.grown hgrow7 W6.size (fun q hq => (hown6.lt q hq).1)
                rw [← lrow_append, HP.out] at hown7
                obtain ⟨g7, rfl⟩ := own_some hown7 (by omega)
                have HO7 := Lib.hid hown7
                clear hown7 hgrow7 hO6 hown6 hgrow6 HT1 hO1
                go_wp2
                go_roundw
                case rel => first | exact ⟨i + 1, X.length, g7, cap7, k + 1 + (j - (k + 2)), rfl, by go_num, by go_num, by omega, by omega, by omega, fun _ => HA.out.symm, HO7, W7⟩ | exact ⟨i + 1, X.length, g7, cap7, k + 1, rfl, by go_num, by go_num, by omega, by omega, by omega, fun _ => HA.out.symm, HO7, W7⟩
                case measure => simp [intOf]; omega
              · go_wp2_with (at_builtin; refine wpList_append_own _ rfl _ _ 49 rfl w.heap.size 9 i0 (.string ⟨#[]⟩) 1 16 Tryd.underlying49 hi hz0 hz1 hz2 rfl (by decide) _ _ _ rfl hown6 ⟨g, k + 2, none⟩ (j - (k + 2)) (c - (k + 2)) (lrow (J1.drop (k + 2))) ?e0_15 ?e1_15 ?e2_15 ?e3_15 ?e4_15 ?e5_15 ?e6_15 ?_)
                case e0_15 => first | rfl | go_simp | simp [Act.eval]
                case e1_15 => rw [lrow_length, List.length_drop, Nat.mul_one, hJl]
                case e2_15 =>
                  intro q y hy
                  rw [← lrow_drop, List.getElem?_drop] at hy
                  have := hO6.cells (g := g) rfl _ y hy
                  rw [ha, Nat.zero_add] at this
                  rw [ha]
                  exact this
                case e3_15 => exact lrow_one _
                case e4_15 => unfold maxLen; omega
                case e5_15 => omega
                case e6_15 => exact W6.size
                intro v7 w7 hown7 hgrow7 _
                obtain ⟨a7, cap7, rfl⟩ := own_shape hown7
                have W7 := W6.grown hgrow7 W6.size (fun q hq => (hown6.lt q hq).1)
                rw [← lrow_append, HP.out] at hown7
                obtain ⟨g7, rfl⟩ := own_some hown7 (by omega)
                have HO7 := Lib.hid hown7
                clear hown7 hgrow7 hO6 hown6 hgrow6 HT1 hO1
                go_wp2
                go_roundw
                case rel => first | exact ⟨i + 1, X.length, g7, cap7, k + 1 + (j - (k + 2)), rfl, by go_num, by go_num, by omega, by omega, by omega, fun _ => HA.out.symm, HO7, W7⟩ | exact ⟨i + 1, X.length, g7, cap7, k + 1, rfl, by go_num, by go_num, by omega, by omega, by omega, fun _ => HA.out.symm, HO7, W7⟩
                case measure => simp [intOf]; omega
    · have hie : i = m := by omega
      have r0 : decide ((i : Int) < (m : Int)) = false := decide_eq_false (by omega)
      have hO := HO.out
      have ht := HT.out (by omega)
      rw [hie] at hO ht
      have hjl := joinR_len (R := R) (k := k) (i := m) (by omega) (by have := HL.out; omega)
      have hS : Strs wr (some ⟨g, 0, none⟩) ((joinR R k m).map bs) := Strs.of_own (n := j) (c := c) (by rw [List.length_map, show (joinR R k m).length = j by have := HL.out; omega]; exact hO) rfl
      have G1 := G0.out _ c j wr hS (by omega)
      have hJ : (aa : Int) + (t : Int) = (pp : Int) := by rw [ht]; exact hJP.out
      have hJw : IntKind.i64.wrap ((aa : Int) + (t : Int)) = (pp : Int) := by rw [IntKind.wrap_i64]; omega
      have G2 := Lib.hid G1
      clear G1 hS hO ht hjl HO HT
      go_wp2_with (first
        | (go_at_call 42; (with_reducible refine (G2.out).mono ?_); rintro e u ⟨rfl, rfl⟩)
        | (go_at_call 43; (with_reducible refine (S1.out _).mono ?_); rintro e u ⟨rfl, hbn⟩; replace hB := hB.trans (hbn.mono hB.size); clear hbn)
        | (go_at_call 33; (with_reducible refine (C1.out _).mono ?_); rintro e u ⟨rfl, hbn⟩; replace hB := hB.trans (hbn.mono hB.size); clear hbn))
      go_ret3
      exact ⟨rfl, hB⟩

theorem ref23_Join (s : ByteArray) (k n : Int) (hs : s.size ≤ 100000) (w : World) :
    Calls Tryd.prog 13 #[.string s, .int .i64 k, .int .i64 n] w fun e w' => e = .returned (Opr.val (Opr.join s.data.toList k n)) ∧ Below w.heap.size w w' := by
  rw [Opr.join]
  cases hv : Utf.valid s.data.toList with
  | false =>
    have hL : (Line.L s.data.toList).length = 0 := by
      rcases Nat.eq_zero_or_pos (Line.L s.data.toList).length with h | h
      · exact h
      · have := Line.L_valid (List.getElem?_eq_getElem h)
        rw [hv] at this
        cases this
    rw [if_pos (by omega), Opr.val_no]
    exact ref23_Join_text s k n hs hv w
  | true =>
    by_cases h : k < 0 ∨ ((Line.L s.data.toList).length : Int) ≤ k
    · rw [if_pos h, Opr.val_no]
      rcases h with h | h
      · exact ref23_Join_low s k n hs hv h w
      · obtain ⟨j, rfl⟩ : ∃ j : Nat, k = j := ⟨k.toNat, by omega⟩
        exact ref23_Join_past s j n hs hv (by omega) w
    · rw [if_neg h]
      obtain ⟨j, rfl⟩ : ∃ j : Nat, k = j := ⟨k.toNat, by omega⟩
      by_cases h1 : (j : Int) = (Line.L s.data.toList).length - 1
      · rw [if_pos h1, Opr.val_no]; exact ref23_Join_move s j n hs hv (by omega) w
      · rw [if_neg h1, Opr.val_mk, Int.toNat_natCast]
        obtain ⟨m, hme, hm2, hkm, gmm⟩ := many_at (k := j) (n := n) (show j + 1 < (Line.L s.data.toList).length by omega)
        rw [hme]
        by_cases h2 : n < 2
        · exact ref23_Join_two s j n m hs hv (by omega) h2 hm2 hkm gmm w
        · by_cases h3 : ((Line.L s.data.toList).length : Int) - (j : Int) < n
          · exact ref23_Join_all s j n m hs hv (by omega) ⟨by omega, h3⟩ hm2 hkm gmm w
          · exact ref23_Join_some s j n m hs hv (by omega) ⟨by omega, by omega⟩ hm2 hkm gmm w
end Go.Proofs.YtfhljddakhigdaaDoor
