/-
  The law IndexAnew: behind whatever steps an index is as one that is made anew of the bytes.
-/
import Derived.Test.YtgjppkkifclanaaDoorIndexDo
import Derived.Test.YtgjppkkifclanaaDoorIndexRef
import Derived.Test.YtgjppkkifclanaaDoorFrame
import Derived.Test.YtgjppkkifclanaaDoorCards
import Derived.Test.YtgjppkkifclanaaDoorTie
import Derived.Lay
import Derived.Handed
import Derived.LaidLaws
import Derived.SevenTiedAt
import Derived.MakeChecks
import Derived.Deep.RegionHeld3
import Derived.Deep.Cut
import Derived.Deep.CutRange
namespace Go.Proofs.YtgjppkkifclanaaDoor
open Go.RowKit
open Pc
/-- What an index of known bytes tells, and one of the same bytes that is made anew. -/
theorem anew_tells {B : Nat} {T : List UInt8} (hl : T.length ≤ 100000000000) :
    ∃ (m : Nat) (S E : Int → Int), m ≤ 200000000000 ∧ Hid (∀ r u, Idx B r T u → Calls Tryd.prog 12 #[.pointer (some ⟨r, 0, none⟩)] u fun e w' => e = .returned (.int .i64 m) ∧ Below u.heap.size u w') ∧
      Hid (∀ r u, Idx B r T u → Calls Tryd.prog 11 #[.pointer (some ⟨r, 0, none⟩)] u fun e w' => e = .returned (.int .i64 (T.length : Nat)) ∧ Below u.heap.size u w') ∧
      Hid (∀ r (j : Int) u, Idx B r T u → Calls Tryd.prog 14 #[.pointer (some ⟨r, 0, none⟩), .int .i64 j] u fun e w' => e = .returned (.int .i64 (S j)) ∧ Below u.heap.size u w') ∧
      Hid (∀ r (j : Int) u, Idx B r T u → Calls Tryd.prog 16 #[.pointer (some ⟨r, 0, none⟩), .int .i64 j] u fun e w' => e = .returned (.int .i64 (E j)) ∧ Below u.heap.size u w') ∧
      Hid (∀ r (i : Nat) u, i < m → Idx B r T u → Calls Tryd.prog 18 #[.pointer (some ⟨r, 0, none⟩), .int .i64 (E i)] u fun e w' => e = .returned (.int .i64 (i : Nat)) ∧ Below u.heap.size u w') := by
  refine ⟨(Ix.ends T).length, Ix.startOf T, Ix.endOf T, by have := Ix.ends_le T; omega, fun r u h => index_Lines (idx_sees h (by omega)), fun r u h => ?_, fun r j u h => ?_, fun r j u h => ?_, fun r i u hi h => ?_⟩
  · have := index_Len (idx_sees h (by omega))
    rw [Ix.getD_of (Ix.ends_last T)] at this
    exact this
  · have := index_Start (idx_sees h (by omega)) j
    rw [Ix.startL_eq] at this
    exact this
  · have := index_End (idx_sees h (by omega)) j
    rw [Ix.endL_eq] at this
    exact this
  · have hs := Ix.line_stop hi
    have e : Ix.endOf T (i : Nat) = (Ix.stop T i : Nat) := by unfold Ix.endOf; rw [if_neg (by omega), Int.toNat_natCast]
    have := index_Of (idx_sees h (by omega)) (Ix.ends_sorted T) (Ix.endOf T (i : Nat))
    rw [Ix.ofL_eq, e, Ix.lineOf, if_neg (by omega), Int.toNat_natCast, hs.1, ← e] at this
    exact this
set_option maxHeartbeats 4000000 in
set_option maxRecDepth 100000 in
theorem indexAnew_walk (s : ByteArray) {A : Option Addr} {c : Nat} {ks : List Step} {w : World} (hx : Steps w A ks) (hs : ∀ k ∈ ks, k.s.size ≤ 140737488351232) (hm : ks.length ≤ maxLen) :
    Calls Tryd.prog 5 #[.string s, .slice A ks.length c] w fun e w' => e = .returned (.bool true) ∧ Below w.heap.size w w' := by
  have FEW := Lib.hid (few7_ok (c := c) hx hs hm)
  have hm2 : ks.length ≤ 9223372036854775807 := by unfold maxLen at hm; exact hm
  clear hs hm
  go_enter Tryd.func5, Tryd.ntmps5
  go_wp2_with fail
  refine FEW.out.mono ?_
  rintro e w1 ⟨b, rfl, rfl, hb⟩
  cases b with
  | false =>
    clear hb
    go_wp2_with (go_at_call 8; refine (index_lives _).mono ?_; rintro e wl ⟨rfl, hbl⟩)
    go_ret
    exact ⟨rfl, hbl⟩
  | true =>
    obtain ⟨h100, htot⟩ := hb rfl
    clear hb
    by_cases hbig : 3000 < s.size
    · have d1 : decide (3000 < (s.size : Int)) = true := by simp; omega
      go_wp2_with (go_at_call 8; refine (index_lives _).mono ?_; rintro e wl ⟨rfl, hbl⟩)
      go_ret
      exact ⟨rfl, hbl⟩
    · have d1 : decide (3000 < (s.size : Int)) = false := by simp; omega
      have HN : Hid (Calls Tryd.prog 9 #[.string s] w fun e w' => ∃ p, e = .returned (.pointer (some ⟨p, 0, none⟩)) ∧ Idx w.heap.size p s.data.toList w' ∧ KeepsI w.heap.size w w' ∧ w.heap.size ≤ p) :=
        index_New (B := w.heap.size) s.data.toList (w := w) (Nat.le_refl _) (by rw [data_len]; omega)
      go_wp2_with (go_at_call 9; refine HN.out.mono ?_; rintro e w2 ⟨p, rfl, hT, hK, hp⟩)
      have hW := hK.below
      clear hp HN FEW
      have hdl : s.data.toList.length = s.size := data_len s
      have hsz2 : s.size ≤ 3000 := by omega
      have hS0 : s = bs s.data.toList := rfl
      generalize s.data.toList = S0 at hT hdl hS0
      have HB0 := Lib.hid hT
      clear hT
      have HS := Lib.hid hS0
      have hsz3 : S0.length ≤ 3000 := by omega
      clear hdl hS0
      go_loopw [0, 6] (fun y z wr => ∃ (k : Nat) (T : List UInt8), k ≤ ks.length ∧ z = .int .i64 k ∧ y = .string (bs T) ∧ Hid (Idx w.heap.size p T wr) ∧ Below w.heap.size w wr ∧ T.length ≤ S0.length + total (ks.take k)) (fun _ z _ => ks.length - (intOf z).toNat)
      case atStart => exact ⟨0, S0, Nat.zero_le _, rfl, congrArg Value.string HS.out, HB0, hW, by simp [total]⟩
      case round =>
        obtain ⟨k, T, hk, rfl, rfl, hI, hR, hTl⟩ := hrel
        have hsT : (bs T).size = T.length := bs_size T
        by_cases hlt : k < ks.length
        · obtain ⟨x, hkx⟩ : ∃ x, ks[k]? = some x := ⟨_, List.getElem?_eq_getElem hlt⟩
          obtain ⟨b, off, hA, hbw, c0, c1, c2, c3⟩ := hx.at_ hR (Nat.le_refl _) hkx
          subst hA
          have htk := total_snoc hkx
          have htl : total (ks.take (k + 1)) ≤ total ks := total_take ks (k + 1)
          have CELL : Hid (∀ u, Below w.heap.size w u → u.cell? ⟨b, off + k * 4 + 3, none⟩ = some (.string x.s)) := fun u hu => by
            obtain ⟨b', off', hA', _, _, _, _, h3⟩ := hx.at_ hu (Nat.le_refl _) hkx
            injection hA' with hA'
            injection hA' with e1 e2
            subst e1 e2
            exact h3
          have hTx : T.length + x.s.size ≤ 30000 := by omega
          have INS : Hid (∀ u, Below wr.heap.size wr u → Calls Tryd.prog 20 #[.pointer (some ⟨p, 0, none⟩), .int .i64 x.a, .string x.s] u fun e w' => e = .returned (.int .i64 (if okI T x.a then 0 else 6)) ∧ Idx w.heap.size p (if okI T x.a then ins T x.a.toNat x.s.data.toList else T) w' ∧ KeepsI w.heap.size u w') := fun u hu =>
            idx_insert x.a x.s.data.toList (Nat.le_trans hR.size hu.size) (hI.out.below hu) (by rw [data_len]; omega)
          have DEL : Hid (∀ u, Below wr.heap.size wr u → Calls Tryd.prog 21 #[.pointer (some ⟨p, 0, none⟩), .int .i64 x.a, .int .i64 x.b] u fun e w' => e = .returned (.int .i64 (if okD T x.a x.b then 0 else 6)) ∧ Idx w.heap.size p (if okD T x.a x.b then del T x.a.toNat x.b.toNat else T) w' ∧ KeepsI w.heap.size u w') := fun u hu =>
            idx_delete x.a x.b (Nat.le_trans hR.size hu.size) (hI.out.below hu) (by omega)
          have hqN : Hid (∀ n, Below wr.heap.size wr (wr.drewN n)) := fun n => below_gb (gb_drewN _ _ _)
          have hTn : T.length + x.s.size ≤ S0.length + total (ks.take (k + 1)) := by omega
          clear hx hkx htk htl hTl
          obtain ⟨kk, ka, kb, xs⟩ := x
          simp only at c0 c1 c2 c3 CELL INS DEL hTx hTn
          by_cases hkind : kk = 0
          · subst hkind
            clear DEL
            by_cases hok : okI T ka
            · simp only [if_pos hok] at INS
              obtain ⟨n, rfl⟩ := Int.eq_ofNat_of_zero_le hok.1
              have hnT : n ≤ T.length := by have := hok.2; omega
              have d2 : decide ((n : Int) < 0) = false := decide_eq_false (by omega)
              have d3 : decide ((T.length : Int) < (n : Int)) = false := decide_eq_false (by omega)
              have E1 := Ix.extract_take T n
              have E2 := Ix.extract_drop T n
              have E3 : Hid (bs (T.take n) ++ xs ++ bs (T.drop n) = bs (ins T n xs.data.toList)) := by
                show _ = _
                rw [← bs_data xs, bs_append, bs_append, bs_toList, ins, List.append_assoc]
              have g1 : ¬ 9223372036854775807 < (bs (T.take n)).size + xs.size := by rw [bs_size, List.length_take]; omega
              have g2 : ¬ 9223372036854775807 < (bs (T.take n) ++ xs).size + (bs (T.drop n)).size := by
                rw [ByteArray.size_append, bs_size, bs_size, List.length_take, List.length_drop]; omega
              have hil : (ins T n xs.data.toList).length = T.length + xs.size := by rw [ins_length hnT, data_len]
              rw [Int.toNat_natCast] at INS
              clear hok hI
              go_wp2
              go_quiet (fail)
              have hqq := hqN.out nq
              go_upto_region 12 with (go_at_call 20; refine (INS.out _ hqq).mono ?_; rintro e w4 ⟨rfl, hI4, hK4⟩; have hR4 := (hR.trans (hqq.mono hR.size)).trans hK4.below; have k3 := CELL.out _ hR4; clear c0 c1 c2 c3)
              have HI4 := Lib.hid hI4
              clear hI4 INS CELL
              go_region
              all_goals
                have HI5 : Hid (Idx w.heap.size p (ins T n xs.data.toList) w4.drew) := HI4.out.below (Below.refl _ w4).drew
                go_wp2
                go_roundw
                case rel => exact ⟨k + 1, _, by omega, by go_num, congrArg Value.string E3.out, HI5, hR4.drew, by omega⟩
                case measure => simp [intOf]; omega
            · simp only [if_neg hok] at INS
              go_wp2
              go_quiet (fail)
              have hqq := hqN.out nq
              go_wp2_with (go_at_call 20; refine (INS.out _ hqq).mono ?_; rintro e w4 ⟨rfl, hI4, hK4⟩; have hR4 := (hR.trans (hqq.mono hR.size)).trans hK4.below; have HI4 := Lib.hid hI4; clear hI4 c0 c1 c2 c3)
              go_roundw
              case rel => exact ⟨k + 1, T, by omega, by go_num, rfl, HI4, hR4, by omega⟩
              case measure => simp [intOf]; omega
          · have d0 : decide (kk = 0) = false := decide_eq_false hkind
            clear INS
            by_cases hok : okD T ka kb
            · simp only [if_pos hok] at DEL
              obtain ⟨n, rfl⟩ := Int.eq_ofNat_of_zero_le hok.1
              obtain ⟨m, rfl⟩ := Int.eq_ofNat_of_zero_le (Int.le_trans hok.1 hok.2.1)
              have hnm : n ≤ m := by have := hok.2.1; omega
              have hmT : m ≤ T.length := by have := hok.2.2; omega
              have hnT : n ≤ T.length := by omega
              have d2 : decide ((n : Int) < 0) = false := decide_eq_false (by omega)
              have d3 : decide ((m : Int) < (n : Int)) = false := decide_eq_false (by omega)
              have d4 : decide ((T.length : Int) < (m : Int)) = false := decide_eq_false (by omega)
              have E1 := Ix.extract_take T n
              have E2 := Ix.extract_drop T m
              have E3 : Hid (bs (T.take n) ++ bs (T.drop m) = bs (del T n m)) := by show _ = _; rw [bs_append, del]
              have g1 : ¬ 9223372036854775807 < (bs (T.take n)).size + (bs (T.drop m)).size := by rw [bs_size, bs_size, List.length_take, List.length_drop]; omega
              have hil : (del T n m).length ≤ T.length := by rw [del_length hnm hmT]; omega
              rw [Int.toNat_natCast, Int.toNat_natCast] at DEL
              clear hok hI CELL
              go_wp2
              go_quiet (fail)
              have hqq := hqN.out nq
              go_upto_region 16 with (go_at_call 21; refine (DEL.out _ hqq).mono ?_; rintro e w4 ⟨rfl, hI4, hK4⟩; have hR4 := (hR.trans (hqq.mono hR.size)).trans hK4.below; clear c0 c1 c2 c3)
              have HI4 := Lib.hid hI4
              clear hI4 DEL
              go_region
              all_goals
                have HI5 : Hid (Idx w.heap.size p (del T n m) w4.drew) := HI4.out.below (Below.refl _ w4).drew
                go_wp2
                go_roundw
                case rel => exact ⟨k + 1, _, by omega, by go_num, congrArg Value.string E3.out, HI5, hR4.drew, by omega⟩
                case measure => simp [intOf]; omega
            · simp only [if_neg hok] at DEL
              go_wp2
              go_quiet (fail)
              have hqq := hqN.out nq
              go_wp2_with (go_at_call 21; refine (DEL.out _ hqq).mono ?_; rintro e w4 ⟨rfl, hI4, hK4⟩; have hR4 := (hR.trans (hqq.mono hR.size)).trans hK4.below; have HI4 := Lib.hid hI4; clear hI4 c0 c1 c2 c3)
              go_roundw
              case rel => exact ⟨k + 1, T, by omega, by go_num, rfl, HI4, hR4, by omega⟩
              case measure => simp [intOf]; omega
        · have htl : total (ks.take k) ≤ total ks := total_take ks k
          have hT5 : T.length ≤ 30000 := by omega
          obtain ⟨m, S, E, hm, LC, NC, SC, EC, OC⟩ := anew_tells (B := w.heap.size) (T := T) (by omega)
          have NW : Hid (Calls Tryd.prog 9 #[.string (bs T)] wr fun e w' => ∃ y, e = .returned (.pointer (some ⟨y, 0, none⟩)) ∧ Idx w.heap.size y T w' ∧ Idx w.heap.size p T w' ∧ Below w.heap.size w w') := by
            refine (index_New (B := wr.heap.size) T (w := wr) (Nat.le_refl _) (by omega)).mono ?_
            rintro e w' ⟨y, rfl, ⟨v, h1, h2, h3⟩, h4, _⟩
            exact ⟨y, rfl, ⟨v, Nat.le_trans hR.size h1, h2, h3.mono hR.size⟩, hI.out.below h4.below, hR.trans (h4.below.mono hR.size)⟩
          clear HS hbig hsz2 hTl htl hR hI HB0 hW hsz3 h100 htot hx
          go_wp2_with (first
            | (go_at_call 9; refine NW.out.mono ?_; rintro e w3 ⟨y, rfl, hY, hP, hB⟩)
            | (go_at_call 12; (first | (with_reducible refine (LC.out _ _ hP).mono ?_) | (with_reducible refine (LC.out _ _ hY).mono ?_)); rintro e u ⟨rfl, hb⟩; replace hY := hY.below hb; replace hP := hP.below hb; replace hB := hB.trans (hb.mono hB.size); clear hb)
            | (go_at_call 11; (first | (with_reducible refine (NC.out _ _ hP).mono ?_) | (with_reducible refine (NC.out _ _ hY).mono ?_)); rintro e u ⟨rfl, hb⟩; replace hY := hY.below hb; replace hP := hP.below hb; replace hB := hB.trans (hb.mono hB.size); clear hb))
          have HY := Lib.hid hY
          have HP := Lib.hid hP
          clear hY hP NW
          go_loopw [10] (fun z u2 => ∃ i : Nat, z = .int .i64 i ∧ i ≤ m ∧ Hid (Idx w.heap.size y T u2) ∧ Hid (Idx w.heap.size p T u2) ∧ Below w.heap.size w u2) (fun z _ => m - (intOf z).toNat)
          case atStart => exact ⟨0, rfl, Nat.zero_le _, HY, HP, hB⟩
          case round =>
            obtain ⟨i, rfl, hi, HY2, HP2, hB2⟩ := hrel
            clear HY HP hB
            have hY := HY2.out
            have hP := HP2.out
            have hB := hB2
            clear HY2 HP2 hB2
            rcases Nat.lt_or_ge i m with hlt | hge
            · have d9 : decide ((i : Int) < (m : Int)) = true := by simp; omega
              go_wp2_with (first
                | (go_at_call 12; refine (LC.out _ _ hY).mono ?_; rintro e u ⟨rfl, hb⟩; replace hY := hY.below hb; replace hP := hP.below hb; replace hB := hB.trans (hb.mono hB.size); clear hb)
                | (go_at_call 14; (first | (with_reducible refine (SC.out _ _ _ hP).mono ?_) | (with_reducible refine (SC.out _ _ _ hY).mono ?_)); rintro e u ⟨rfl, hb⟩; replace hY := hY.below hb; replace hP := hP.below hb; replace hB := hB.trans (hb.mono hB.size); clear hb)
                | (go_at_call 16; (first | (with_reducible refine (EC.out _ _ _ hP).mono ?_) | (with_reducible refine (EC.out _ _ _ hY).mono ?_)); rintro e u ⟨rfl, hb⟩; replace hY := hY.below hb; replace hP := hP.below hb; replace hB := hB.trans (hb.mono hB.size); clear hb)
                | (go_at_call 18; refine (OC.out _ i _ hlt hP).mono ?_; rintro e u ⟨rfl, hb⟩; replace hY := hY.below hb; replace hP := hP.below hb; replace hB := hB.trans (hb.mono hB.size); clear hb))
              go_roundw
              case rel => exact ⟨i + 1, by go_num, hlt, hY, hP, hB⟩
              case measure => simp [intOf]; omega
            · have d9 : decide ((i : Int) < (m : Int)) = false := by simp; omega
              go_wp2_with (first
                | (go_at_call 12; refine (LC.out _ _ hY).mono ?_; rintro e u ⟨rfl, hb⟩; replace hY := hY.below hb; replace hP := hP.below hb; replace hB := hB.trans (hb.mono hB.size); clear hb)
                | (go_at_call 8; refine (index_lives _).mono ?_; rintro e wl ⟨rfl, hbl⟩))
              go_ret
              exact ⟨rfl, hB.trans (hbl.mono hB.size)⟩
section
open Go.ChangeShapes Go.WideShapes Go.ChangeAt
open Go.ChangeMaps (open_string)
set_option maxRecDepth 100000 in
theorem indexAnew_lifted (os : Os) (started : os.Started) (H : Type) (enc : TypeId × Value → H) :
    ReturnsInHanded {} Tryd.checked os 5 .any (fun w args => (Rows.indexAnewSpec.pre enc Tryd.prog Tryd.f5 [] false w args ∧ laidMetH Tryd.prog Rows.indexAnewRow.laid w) ∧ sizedMet enc Tryd.prog Tryd.f5 (OpenSpec.ofChange Rows.indexAnewSpec) false w args) (Rows.indexAnewSpec.post enc Tryd.prog Tryd.f5 false true false false) := by
  refine returnsInHanded_of_change_and (C := Tryd.checked) (X := fun w _ => laidMetH Tryd.prog Rows.indexAnewRow.laid w) (fun _ _ _ hh h => h.of_heap hh) own_knob started (by kernel_rfl) Tryd.func5
    (ChangeSpec.witness_shaped (enc := enc) (C := Tryd.checked) (os := os) (X := fun w _ => laidMetH Tryd.prog Rows.indexAnewRow.laid w) false (World.laidAll Tryd.prog os Rows.indexAnewRow.laid) #[.string .empty, .slice none 0 0] 8 (World.laidAll_os _ _ _)
      (World.shaped_of_ZipB (by kernel_rfl) (by kernel_rfl)) (by kernel_rfl) (by kernel_rfl) (by kernel_rfl)
      (by rw [MakeChecks.laidMetH_plain _ _ _ (by kernel_rfl)]; exact laidMet_laidAll _ (by kernel_rfl) (by kernel_rfl))) ?_
  intro W base args ds gs before hval0 hW _ hsz0 _ _
  have hsz : (DataW.weightsEach Tryd.prog (Tryd.f5.params.toList ++ Rows.indexAnewSpec.plain.varTypes Tryd.prog) (ds ++ gs)).all (· ≤ reachBytes) = true := hsz0
  clear hsz0
  have hval : ∀ (j : Nat) t v, Tryd.f5.params[j]? = some t → args[j]? = some v → Value.okWide Tryd.prog W .any base t v := hval0
  have hW' := hW
  obtain ⟨p, q, hA0, hV, rfl, hfz, hnd⟩ := hW
  have hA : DataW.TrodAll enc Tryd.prog W 0 (fun _ => true) true Tryd.f5.params.toList args.toList ds p := hA0
  rw [Tryd.params5] at hA hval hsz
  obtain ⟨v0, vs0, d0, ds0, p0, q0, hargs, rfl, rfl, h0, r0⟩ := trodAll_cons hA
  obtain ⟨v1, vs1, d1, ds1, p1, q1, rfl, rfl, rfl, h1, r1⟩ := trodAll_cons r0
  obtain ⟨rfl, rfl, rfl⟩ := trodAll_nil r1
  obtain rfl : args = #[v0, v1] := by cases args; simp_all
  obtain ⟨rfl, rfl⟩ := trodVars_none hV
  obtain ⟨s0, rfl, rfl, rfl, hmax0⟩ := open_string Tryd.underlying9 (hval 0 9 v0 rfl rfl) h0
  have hs0 : s0.size ≤ 140737488351232 := by rw [← data_len]; exact sized_string hsz (j := 0) (t := 9) rfl rfl
  have hlt1 : ∀ x ∈ p1, x.block < W.heap.size := fun x hx => by simpa using hW'.lt x (by simp [hx])
  obtain ⟨A1, c1, xs1, rfl, hx1, hm1, hd1⟩ := open_steps (hval 1 22 v1 rfl rfl) h1 hlt1
  have he1 : ∀ k ∈ xs1, k.s.size ≤ 140737488351232 := fun k hk => by
    obtain ⟨e, sp, x, y, z, rfl, hin⟩ := hd1 k hk
    rw [← data_len]
    exact sized_step hsz (j := 1) rfl rfl hin
  refine (indexAnew_walk s0 hx1 he1 hm1).mono fun e W' ⟨he, hb⟩ => ?_
  subst he
  exact ⟨_, rfl, law_post rfl rfl (by rw [Tryd.params5]; decide +kernel) ⟨rfl, rfl, rfl⟩ hW' hb⟩
theorem indexAnew_row : Rows.IndexAnewSaid :=
  OpenClaim.holds_of_wide 5 Tryd.f5 rfl rfl rfl rfl rfl rfl rfl ⟨rfl, rfl, rfl, rfl, rfl⟩ rfl rfl rfl rfl rfl (by kernel_rfl) Tryd.func5 (by kernel_rfl)
    (of_decide_eq_true (by kernel_rfl)) (by unfold Func.isWrapper; first | (rw [if_pos (by decide +kernel)]; kernel_rfl) | (rw [if_neg (by decide +kernel)]; exact ⟨rfl, rfl⟩))
    (fun os started H enc _ => indexAnew_lifted os started H enc)
theorem indexAnew_holds : Rows.IndexAnewCardSaid :=
  Claim7.holds_tied_plain_at .later [] [.data, .pinned] true (true, _) false indexAnew_row (fun _ h => by cases h) (by kernel_rfl) (fun _ h => by cases h) indexAnew_row_tie rfl ⟨rfl, rfl⟩ (by kernel_rfl) rfl
    (fun f fn hf hfn => by
      obtain rfl : f = 5 := Option.some.inj ((show Tryd.prog.funcNamed "calamus/calamuslaw07.IndexAnew" = some 5 by kernel_rfl).symm.trans hf) |>.symm
      obtain rfl : fn = Tryd.f5 := (Option.some.inj (Tryd.func5.symm.trans hfn)).symm
      exact ⟨by kernel_rfl, fun j t ht => by
        rw [Tryd.params5] at ht
        have hm := Array.mem_of_getElem? ht
        have hall : (#[9, 22].toList.all fun u => !Tryd.prog.wantsStandIn u) = true := by kernel_rfl
        exact (show Tryd.prog.wantsStandIn t = false by simpa using List.all_eq_true.1 hall t (by simpa using hm))⟩)
    (by kernel_rfl)
end
end Go.Proofs.YtgjppkkifclanaaDoor
