/-
  'calamuslaw21.RegShifts' answers true for all registers and every list of texts: lines that are taken out go from 1 to 9, one further each time, and the last is lost.
-/
import Derived.Test.YtopplkfbnpamdaaRegLives
import Derived.Test.YtopplkfbnpamdaaRegHold
import Derived.Test.YtopplkfbnpamdaaTexts
namespace Go.Proofs.Ytopplkfbnpamdaa
open Go.RowKit
open Reg
set_option maxHeartbeats 4000000 in
set_option maxRecDepth 100000 in
theorem regShifts_walk {A B : Option Addr} {c d : Nat} {ks : List Rg} {xs : List ByteArray} {w : World} (hx : Rgs w A ks) (hc : ks.length ≤ c) (hm : c ≤ maxLen) (hy : Strs w B xs) :
    Calls Try.prog 6 #[.slice A ks.length c, .slice B xs.length d] w fun e w' => e = .returned (.bool true) ∧ Below w.heap.size w w' := by
  have hm' : ks.length ≤ maxLen := Nat.le_trans hc hm
  have LV := Lib.hid reg_lives
  have R1 := reg_Right (c := c) hx hm'
  by_cases hR : Right ks
  · rw [decide_eq_true hR] at R1
    have RC := Lib.hid R1
    by_cases h15 : 15 < xs.length
    · have g0 : decide ((15 : Int) < (xs.length : Int)) = true := decide_eq_true (by omega)
      clear hx hm hm' hc hy hR h15 R1
      go_enter Try.func6, Try.ntmps6
      go_wp2_with (first
        | (go_at_call 15; (with_reducible refine RC.out.mono ?_); rintro e w1 ⟨rfl, hb1⟩)
        | (go_at_call 7; (with_reducible refine (LV.out _).mono ?_); rintro e w12 ⟨rfl, hb12⟩))
      go_ret
      exact ⟨rfl, reg_below hb1 hb12 hb1.size⟩
    · have g0 : decide ((15 : Int) < (xs.length : Int)) = false := decide_eq_false (by omega)
      have HR := Lib.hid hR
      have HX : Hid (∀ u, Below w.heap.size w u → Rgs u A ks) := fun u hu => hx.below hu
      have TX : Hid (∀ u, Below w.heap.size w u → ∀ k, (h : k < xs.length) → ∃ ad, B = some ad ∧ u.cell? (ad.add k) = some (.string xs[k])) := fun u hu k h => (hy.below hu).at_ h
      clear hx hm hc hy hR R1
      go_enter Try.func6, Try.ntmps6
      go_wp2_with (go_at_call 15; (with_reducible refine RC.out.mono ?_); rintro e w1 ⟨rfl, hb1⟩)
      go_loopw [0, 5] (fun lv iv wr => ∃ (k : Nat) (A2 : Option Addr) (c2 : Nat) (ks2 : List Rg), k ≤ xs.length ∧ iv = .int .i64 k ∧ lv = .slice A2 ks2.length c2 ∧ Hid (Right ks2) ∧ Rgs wr A2 ks2 ∧ Below w.heap.size w wr) (fun _ iv _ => xs.length - (intOf iv).toNat)
      case atStart => exact ⟨0, A, c, ks, Nat.zero_le _, rfl, rfl, HR, HX.out _ hb1, hb1⟩
      case round =>
        clear HR HX hb1 RC hm'
        obtain ⟨k, A2, c2, ks2, hk, rfl, rfl, HR, m2, hW⟩ := hrel
        by_cases hlt : k < xs.length
        · have hki : (k : Int) < xs.length := by omega
          obtain ⟨ad, rfl, hcell⟩ := TX.out _ hW k hlt
          have h89 := HR.out.1.length_le
          have TX2 : Hid (∀ u, Below w.heap.size w u → u.cell? (ad.add k) = some (.string xs[k])) := fun u hu => by
            obtain ⟨ad', e, hc⟩ := TX.out u hu k hlt
            injection e with e
            rw [e]; exact hc
          generalize xs[k] = t at *
          by_cases hsz : 4000 < t.size
          · have g1 : decide ((4000 : Int) < (t.size : Int)) = true := decide_eq_true (by omega)
            go_wp2_with (go_at_call 7; (with_reducible refine (LV.out _).mono ?_); rintro e w12 ⟨rfl, hb12⟩)
            go_ret
            exact ⟨rfl, reg_below hW hb12 hW.size⟩
          · have g1 : decide ((4000 : Int) < (t.size : Int)) = false := decide_eq_false (by omega)
            have D1 : ∀ u, Rgs u A2 ks2 → Calls Try.prog 10 #[.slice A2 ks2.length c2, .int .i64 0, .string t, .bool true] u (KeepIs (kept ks2 0 t true true) u) := fun u hu => reg_Delete 0 t true (c := c2) hu (by omega) (by omega)
            rcases kept_way ks2 0 t true true with ⟨z1, z2⟩ | ⟨_, hv, _, _, hkk⟩
            · have DC : Hid (∀ u, Rgs u A2 ks2 → Calls Try.prog 10 #[.slice A2 ks2.length c2, .int .i64 0, .string t, .bool true] u fun e u' => ∃ A c, e = .returned (.tuple #[.slice A 0 c, .int .i64 (kept ks2 0 t true true).2]) ∧ Below u.heap.size u u') := fun u hu => (D1 u hu).mono fun e u' h => by
                obtain ⟨A, c, h1, _, _, h3⟩ := h
                rw [z1] at h1
                exact ⟨A, c, h1, h3⟩
              generalize (kept ks2 0 t true true).2 = z at *
              have g2 : (z != 0) = true := by simpa using z2
              have g3 : (z == 0) = false := by simpa using z2
              clear D1 z1 z2 TX TX2 h89
              go_wp2_with (first
                | (go_at_call 10; (with_reducible refine (DC.out _ m2).mono ?_); rintro e w2 ⟨A3, c3, rfl, hb2⟩; replace hW := reg_below hW hb2 hW.size)
                | (go_at_call 7; (with_reducible refine (LV.out _).mono ?_); rintro e w12 ⟨rfl, hb12⟩))
              go_ret
              exact ⟨rfl, reg_below hW hb12 hW.size⟩
            · obtain ⟨f1, f2, f3⟩ := shifts_facts HR.out hv (by omega)
              have hll := into_length (t := t) (lines := true) (taken := true) HR.out.1 (n := 0) (by decide)
              rw [hkk] at D1
              generalize into ks2 0 t true true = L at *
              have DC : Hid (∀ u, Rgs u A2 ks2 → Calls Try.prog 10 #[.slice A2 ks2.length c2, .int .i64 0, .string t, .bool true] u fun e u' => ∃ A c, e = .returned (.tuple #[.slice A L.length c, .int .i64 0]) ∧ Rgs u' A L ∧ Below u.heap.size u u') := fun u hu => (D1 u hu).mono fun e u' h => by
                obtain ⟨A, c, h1, h2, _, h3⟩ := h
                exact ⟨A, c, h1, h2, h3⟩
              have F3 := Lib.hid f3
              have HL := Lib.hid f1
              have G9 : Hid (∀ u A c, Rgs u A L → Calls Try.prog 13 #[.slice A L.length c, .int .i64 49] u fun e u' => e = .returned (.tuple #[.agg #[.int .i64 49, .bool true, .string t], .bool true]) ∧ Below u.heap.size u u') := fun u A c hu => by
                have := reg_Get 49 (c := c) hu (by unfold maxLen; omega)
                rw [f2] at this; exact this
              have RM : Hid (∀ u A c, Rgs u A L → Calls Try.prog 15 #[.slice A L.length c] u fun e u' => e = .returned (.bool true) ∧ Below u.heap.size u u') := fun u A c hu => by
                have := reg_Right (c := c) hu (by unfold maxLen; omega)
                rw [decide_eq_true f1] at this; exact this
              clear D1 f1 f2 f3 hkk hv TX
              go_wp2_with (go_at_call 10; (with_reducible refine (DC.out _ m2).mono ?_); rintro e w2 ⟨A3, c3, rfl, m3, hb2⟩; replace hW := reg_below hW hb2 hW.size; replace m2 := m2.below hb2)
              clear hb2
              go_loopw [8] (fun jv wi => ∃ j : Int, jv = .int .i64 j ∧ 1 ≤ j ∧ j ≤ 9 ∧ Rgs wi A2 ks2 ∧ Rgs wi A3 L ∧ Below w.heap.size w wi) (fun jv _ => (9 - intOf jv).toNat)
              case atStart => exact ⟨1, rfl, by omega, by omega, m2, m3, hW⟩
              case round =>
                clear m2 m3 hW hcell
                obtain ⟨j, rfl, hj1, hj9, m2, m3, hW⟩ := hrel
                by_cases hj : j < 9
                · have hjd : decide (j < 9) = true := decide_eq_true hj
                  have w1' : IntKind.i64.wrap (48 + j) = 48 + j := by rw [IntKind.wrap_i64]; omega
                  have w2' : IntKind.i64.wrap (49 + j) = 49 + j := by rw [IntKind.wrap_i64]; omega
                  rcases F3.out (48 + j) (by omega) (by omega) with ⟨e0, e1, e2⟩ | ⟨y, e1, e2⟩
                  · rw [show 48 + j + 1 = 49 + j by omega] at e2
                    have G1 : Hid (∀ u, Rgs u A2 ks2 → Calls Try.prog 13 #[.slice A2 ks2.length c2, .int .i64 (48 + j)] u fun e u' => e = .returned (.tuple #[.agg #[.int .i64 0, .bool false, .string { data := #[] }], .bool false]) ∧ Below u.heap.size u u') := fun u hu => by
                      have := reg_Get (48 + j) (c := c2) hu (by unfold maxLen; omega)
                      rw [e1] at this; exact this
                    have G2 : Hid (∀ u, Rgs u A3 L → Calls Try.prog 13 #[.slice A3 L.length c3, .int .i64 (49 + j)] u fun e u' => e = .returned (.tuple #[.agg #[.int .i64 0, .bool false, .string { data := #[] }], .bool false]) ∧ Below u.heap.size u u') := fun u hu => by
                      have := reg_Get (49 + j) (c := c3) hu (by unfold maxLen; omega)
                      rw [e2] at this; exact this
                    clear e1 e2 e0
                    go_wp2_with (first
                      | (go_at_call 13; (with_reducible refine (G1.out _ m2).mono ?_); rintro e w5 ⟨rfl, hb⟩; replace hW := reg_below hW hb hW.size; replace m2 := m2.below hb; replace m3 := m3.below hb; clear hb; replace hW := hW.alloc hW.size (.cells #[.int .i64 0, .bool false, .string { data := #[] }] 32); replace m2 := m2.below ((Below.refl _ w5).alloc (Nat.le_refl _) (.cells #[.int .i64 0, .bool false, .string { data := #[] }] 32)); replace m3 := m3.below ((Below.refl _ w5).alloc (Nat.le_refl _) (.cells #[.int .i64 0, .bool false, .string { data := #[] }] 32)); have K1 := Blk.new w5 32 #[.int .i64 0, .bool false, .string { data := #[] }])
                      | (go_at_call 13; (with_reducible refine (G2.out _ m3).mono ?_); rintro e w6 ⟨rfl, hb⟩; replace hW := reg_below hW hb hW.size; replace m2 := m2.below hb; replace m3 := m3.below hb; replace K1 := K1.below hb K1.lt; clear hb; replace hW := hW.alloc hW.size (.cells #[.int .i64 0, .bool false, .string { data := #[] }] 32); replace m2 := m2.below ((Below.refl _ w6).alloc (Nat.le_refl _) (.cells #[.int .i64 0, .bool false, .string { data := #[] }] 32)); replace m3 := m3.below ((Below.refl _ w6).alloc (Nat.le_refl _) (.cells #[.int .i64 0, .bool false, .string { data := #[] }] 32)); have l1 := K1.lt; obtain ⟨p0, p1, p2, _, _, _⟩ := row_three K1; obtain ⟨r0, r1, r2, _, _, _⟩ := row_three (K1.alloc (.cells #[.int .i64 0, .bool false, .string { data := #[] }] 32)); obtain ⟨t0, t1, t2, _, _, _⟩ := row_three (Blk.new w6 32 #[.int .i64 0, .bool false, .string { data := #[] }])))
                    go_roundw
                    case rel => exact ⟨j + 1, by go_num, by omega, by omega, m2, m3, hW⟩
                    case measure => simp [intOf]; omega
                  · rw [show 48 + j + 1 = 49 + j by omega] at e2
                    have G1 : Hid (∀ u, Rgs u A2 ks2 → Calls Try.prog 13 #[.slice A2 ks2.length c2, .int .i64 (48 + j)] u fun e u' => e = .returned (.tuple #[.agg #[.int .i64 y.name, .bool y.lines, .string y.text], .bool true]) ∧ Below u.heap.size u u') := fun u hu => by
                      have := reg_Get (48 + j) (c := c2) hu (by unfold maxLen; omega)
                      rw [e1] at this; exact this
                    have G2 : Hid (∀ u, Rgs u A3 L → Calls Try.prog 13 #[.slice A3 L.length c3, .int .i64 (49 + j)] u fun e u' => e = .returned (.tuple #[.agg #[.int .i64 (49 + j), .bool y.lines, .string y.text], .bool true]) ∧ Below u.heap.size u u') := fun u hu => by
                      have := reg_Get (49 + j) (c := c3) hu (by unfold maxLen; omega)
                      rw [e2] at this; exact this
                    clear e1 e2
                    go_wp2_with (first
                      | (go_at_call 13; (with_reducible refine (G1.out _ m2).mono ?_); rintro e w5 ⟨rfl, hb⟩; replace hW := reg_below hW hb hW.size; replace m2 := m2.below hb; replace m3 := m3.below hb; clear hb; replace hW := hW.alloc hW.size (.cells #[.int .i64 y.name, .bool y.lines, .string y.text] 32); replace m2 := m2.below ((Below.refl _ w5).alloc (Nat.le_refl _) (.cells #[.int .i64 y.name, .bool y.lines, .string y.text] 32)); replace m3 := m3.below ((Below.refl _ w5).alloc (Nat.le_refl _) (.cells #[.int .i64 y.name, .bool y.lines, .string y.text] 32)); have K1 := Blk.new w5 32 #[.int .i64 y.name, .bool y.lines, .string y.text])
                      | (go_at_call 13; (with_reducible refine (G2.out _ m3).mono ?_); rintro e w6 ⟨rfl, hb⟩; replace hW := reg_below hW hb hW.size; replace m2 := m2.below hb; replace m3 := m3.below hb; replace K1 := K1.below hb K1.lt; clear hb; replace hW := hW.alloc hW.size (.cells #[.int .i64 (49 + j), .bool y.lines, .string y.text] 32); replace m2 := m2.below ((Below.refl _ w6).alloc (Nat.le_refl _) (.cells #[.int .i64 (49 + j), .bool y.lines, .string y.text] 32)); replace m3 := m3.below ((Below.refl _ w6).alloc (Nat.le_refl _) (.cells #[.int .i64 (49 + j), .bool y.lines, .string y.text] 32)); have l1 := K1.lt; obtain ⟨p0, p1, p2, _, _, _⟩ := row_three K1; obtain ⟨r0, r1, r2, _, _, _⟩ := row_three (K1.alloc (.cells #[.int .i64 (49 + j), .bool y.lines, .string y.text] 32)); obtain ⟨t0, t1, t2, _, _, _⟩ := row_three (Blk.new w6 32 #[.int .i64 (49 + j), .bool y.lines, .string y.text])))
                    go_roundw
                    case rel => exact ⟨j + 1, by go_num, by omega, by omega, m2, m3, hW⟩
                    case measure => simp [intOf]; omega
                · obtain rfl : j = 9 := by omega
                  go_wp2_with (go_at_call 13; (with_reducible refine (G9.out _ _ _ m3).mono ?_); rintro e w7 ⟨rfl, hb⟩; replace hW := reg_below hW hb hW.size; replace m3 := m3.below hb; clear hb)
                  have K1 := Blk.new w7 32 #[.int .i64 49, .bool true, .string t]
                  obtain ⟨p0, p1, p2, _, _, _⟩ := row_three K1
                  have hW2 := hW.alloc hW.size (.cells #[.int .i64 49, .bool true, .string t] 32)
                  have m4 := m3.below ((Below.refl _ w7).alloc (Nat.le_refl _) (.cells #[.int .i64 49, .bool true, .string t] 32))
                  generalize w7.alloc (.cells #[.int .i64 49, .bool true, .string t] 32) = U at *
                  generalize w7.heap.size = nb at *
                  have d0 := TX2.out _ hW2
                  have m5 : Rgs U.drew A3 L := m4.below (below_gb (gb_drew U none))
                  go_region_held3 (fun u => u.cell? ⟨nb, 0, none⟩ = some (.int .i64 49) ∧ u.cell? ⟨nb, 1, none⟩ = some (.bool true) ∧ u.cell? ⟨nb, 2, none⟩ = some (.string t) ∧ u.cell? (ad.add k) = some (.string t)) (first | (with_reducible exact ⟨by assumption, by assumption, by assumption, by assumption⟩) | go_keep)
                    (first
                      | (go_at_call 15; (with_reducible refine (RM.out _ _ _ m5).mono ?_); rintro e w8 ⟨rfl, hb⟩; replace hb := (below_gb (gb_drew U none)).trans hb; have hW3 := reg_below hW2 hb hW2.size; have m6 := m4.below hb; replace K1 := K1.below hb K1.lt; obtain ⟨p0, p1, p2, _, _, _⟩ := row_three K1; have d0 := TX2.out _ hW3)
                      | (go_at_call 15; (with_reducible refine (RM.out _ _ _ m4).mono ?_); rintro e w8 ⟨rfl, hb⟩; have hW3 := reg_below hW2 hb hW2.size; have m6 := m4.below hb; replace K1 := K1.below hb K1.lt; obtain ⟨p0, p1, p2, _, _, _⟩ := row_three K1; have d0 := TX2.out _ hW3))
                  go_wp2
                  go_roundw
                  case rel => exact ⟨k + 1, A3, c3, L, by omega, by go_num, rfl, HL, m6, hW3⟩
                  case measure => simp [intOf]; omega
        · go_wp2_with (go_at_call 7; (with_reducible refine (LV.out _).mono ?_); rintro e w12 ⟨rfl, hb12⟩)
          go_ret
          exact ⟨rfl, reg_below hW hb12 hW.size⟩
  · rw [decide_eq_false hR] at R1
    have RC := Lib.hid R1
    clear hx hm hm' hc hy hR R1
    go_enter Try.func6, Try.ntmps6
    go_wp2_with (first
      | (go_at_call 15; (with_reducible refine RC.out.mono ?_); rintro e w1 ⟨rfl, hb1⟩)
      | (go_at_call 7; (with_reducible refine (LV.out _).mono ?_); rintro e w12 ⟨rfl, hb12⟩))
    go_ret
    exact ⟨rfl, reg_below hb1 hb12 hb1.size⟩
section
open Go.ChangeShapes Go.WideShapes Go.ChangeAt
open Go.ChangeMaps (open_string)
set_option maxRecDepth 100000 in
theorem regShifts_lifted (os : Os) (started : os.Started) (H : Type) (enc : TypeId × Value → H) :
    ReturnsInHanded {} Try.checked os 6 .any (Rows.regShiftsSpec.pre6 enc Try.prog Try.f6 Rows.regShiftsRow.domain false) (Rows.regShiftsSpec.post enc Try.prog Try.f6 false true false false) := by
  refine returnsInHanded_of_change_sized (C := Try.checked) own_knob started (by kernel_rfl) Try.func6
    (ChangeSpec.witness6 (enc := enc) (C := Try.checked) false ⟨#[], #[.slice none 0 0, .slice none 0 0], []⟩ 8 (by kernel_rfl) (by kernel_rfl) (by kernel_rfl) (by kernel_rfl)) ?_
  intro W base args ds gs before hval0 hW _ hsz0 _
  have hsz : (DataW.weightsEach Try.prog (Try.f6.params.toList ++ Rows.regShiftsSpec.plain.varTypes Try.prog) (ds ++ gs)).all (· ≤ reachBytes) = true := hsz0
  clear hsz0
  have hval : ∀ (j : Nat) t v, Try.f6.params[j]? = some t → args[j]? = some v → Value.okWide Try.prog W .any base t v := hval0
  have hW' := hW
  obtain ⟨p, q, hA0, hV, rfl, hfz, hnd⟩ := hW
  have hA : DataW.TrodAll enc Try.prog W 0 (fun _ => true) true Try.f6.params.toList args.toList ds p := hA0
  rw [Try.params6] at hA hval hsz
  obtain ⟨v0, vs0, d0, ds0, p0, q0, hargs, rfl, rfl, h0, r0⟩ := trodAll_cons hA
  obtain ⟨v1, vs1, d1, ds1, p1, q1, rfl, rfl, rfl, h1, r1⟩ := trodAll_cons r0
  obtain ⟨rfl, rfl, rfl⟩ := trodAll_nil r1
  obtain rfl : args = #[v0, v1] := by cases args; simp_all
  obtain ⟨rfl, rfl⟩ := trodVars_none hV
  have hlt0 : ∀ x ∈ p0, x.block < W.heap.size := fun x hx => by simpa using hW'.lt x (by simp [hx])
  obtain ⟨A0, c0, xs0, rfl, hx0, hc0, hm0⟩ := open_rgs (hval 0 22 v0 rfl rfl) h0 hlt0
  have hlt1 : ∀ x ∈ p1, x.block < W.heap.size := fun x hx => by simpa using hW'.lt x (by simp [hx])
  obtain ⟨A1, c1, xs1, rfl, hx1, hm1, hd1⟩ := open_texts (hval 1 39 v1 rfl rfl) h1 hlt1
  have hl1 : xs1.length ≤ maxLen := hm1.1
  have he1 : ∀ s ∈ xs1, s.size ≤ maxLen := hm1.2
  refine (regShifts_walk hx0 hc0 hm0 hx1).mono fun e W' ⟨he, hb⟩ => ?_
  subst he
  exact ⟨_, rfl, law_post rfl rfl (by rw [Try.params6]; decide +kernel) ⟨rfl, rfl, rfl⟩ hW' hb⟩
theorem regShifts_holds : Rows.RegShiftsSaid :=
  OpenClaim.holds_of_wide 6 Try.f6 rfl rfl rfl rfl rfl rfl rfl ⟨rfl, rfl, rfl, rfl, rfl⟩ rfl rfl rfl rfl rfl (by kernel_rfl) Try.func6 (by kernel_rfl)
    (of_decide_eq_true (by kernel_rfl)) (by unfold Func.isWrapper; first | (rw [if_pos (by decide +kernel)]; kernel_rfl) | (rw [if_neg (by decide +kernel)]; exact ⟨rfl, rfl⟩))
    (fun os started H enc _ => regShifts_lifted os started H enc)
end
end Go.Proofs.Ytopplkfbnpamdaa
