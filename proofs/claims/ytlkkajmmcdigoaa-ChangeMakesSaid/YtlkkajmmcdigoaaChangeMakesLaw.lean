/-
  The law ChangeMakes: what makes one text of another one fits the first and makes the second; turned it leads back; its ends are not the same, rune by rune.
-/
import Derived.Test.YtlkkajmmcdigoaaChangeDo
import Derived.Test.YtlkkajmmcdigoaaChangeLives
import Derived.Test.YtlkkajmmcdigoaaFrame
import Derived.Deep.RegionHeld3
namespace Go.Proofs.Ytlkkajmmcdigoaa
open Go.RowKit
open Utf Chg
theorem does_one {t : List UInt8} {k : Cg} {u : List UInt8} {i : Nat} (hi : k.at_ = i) (hf : fits t k.at_ k.old.data.toList k.new.data.toList = true) (hm : make t i k.old.data.toList k.new.data.toList = u) (hu : u.length ≤ 4096) : does [k] t = (u, 0) := by
  rw [does, if_pos hf, show k.at_.toNat = i by omega, hm, if_neg (by omega)]
  rfl
theorem texts_of {x y : List UInt8} (h : x ≠ y ∨ (x = [] ∧ y = [])) : ∃ X Y, bs x = X ∧ bs y = Y ∧ ((X.toList == Y.toList) = false ∨ (X = ⟨#[]⟩ ∧ Y = ⟨#[]⟩)) := by
  refine ⟨_, _, rfl, rfl, ?_⟩
  rcases h with h | ⟨rfl, rfl⟩
  · exact Or.inl (by rw [bs_tl, bs_tl]; exact beq_false_of_ne h)
  · exact Or.inr ⟨rfl, rfl⟩
set_option maxHeartbeats 2000000 in
set_option maxRecDepth 100000 in
theorem changeMakes_walk (a b : ByteArray) (w : World) :
    Calls Try.prog 6 #[.string a, .string b] w fun e w' => e = .returned (.bool true) ∧ Below w.heap.size w w' := by
  have L := Lib.hid change_lives
  have hla := data_len a
  have hlb := data_len b
  by_cases h1 : 2000 < a.size
  · have d1 : decide (2000 < (a.size : Int)) = true := decide_eq_true (by omega)
    go_enter Try.func6, Try.ntmps6
    go_wp2_with (go_at_call 8; refine (L.out _).mono ?_; rintro e w2 ⟨rfl, hb2⟩)
    go_ret
    exact ⟨rfl, hb2⟩
  · have d1 : decide (2000 < (a.size : Int)) = false := decide_eq_false (by omega)
    by_cases h2 : 2000 < b.size
    · have d2 : decide (2000 < (b.size : Int)) = true := decide_eq_true (by omega)
      go_enter Try.func6, Try.ntmps6
      go_wp2_with (go_at_call 8; refine (L.out _).mono ?_; rintro e w2 ⟨rfl, hb2⟩)
      go_ret
      exact ⟨rfl, hb2⟩
    · have d2 : decide (2000 < (b.size : Int)) = false := decide_eq_false (by omega)
      have V1 := Lib.hid (fun w => utf_Valid a (by omega) w)
      have V2 := Lib.hid (fun w => utf_Valid b (by omega) w)
      cases hv1 : valid a.data.toList with
      | false =>
        rw [hv1] at V1
        clear hv1
        go_enter Try.func6, Try.ntmps6
        go_wp2_with (first
          | (go_at_call 19; with_reducible refine (V1.out _).mono ?_; rintro e w1 ⟨rfl, rfl⟩)
          | (go_at_call 8; refine (L.out _).mono ?_; rintro e w2 ⟨rfl, hb2⟩))
        go_ret
        exact ⟨rfl, hb2⟩
      | true =>
        rw [hv1] at V1
        cases hv2 : valid b.data.toList with
        | false =>
          rw [hv2] at V2
          clear hv1 hv2
          go_enter Try.func6, Try.ntmps6
          go_wp2_with (first
            | (go_at_call 19; with_reducible refine (V1.out _).mono ?_; rintro e w1 ⟨rfl, rfl⟩)
            | (go_at_call 19; with_reducible refine (V2.out _).mono ?_; rintro e w1 ⟨rfl, rfl⟩)
            | (go_at_call 8; refine (L.out _).mono ?_; rintro e w2 ⟨rfl, hb2⟩))
          go_ret
          exact ⟨rfl, hb2⟩
        | true =>
          rw [hv2] at V2
          obtain ⟨f1, m1⟩ := diff_fits hv1 hv2
          obtain ⟨f2, m2⟩ := diff_fits hv2 hv1
          have hcm := dAt_comm a.data.toList b.data.toList
          rw [← hcm] at f2 m2
          have least := diff_least hv1 hv2
          obtain ⟨r1, r2, r3, r4⟩ : dAt a.data.toList b.data.toList ≤ 2000 ∧ (dOld a.data.toList b.data.toList).length ≤ 2000 ∧ (dOld b.data.toList a.data.toList).length ≤ 2000 ∧ True := by
            obtain ⟨p, q, e1, e2, e3, _⟩ := diff_parts hv1 hv2
            have n1 := congrArg List.length e1
            have n2 := congrArg List.length e2
            simp only [List.length_append] at n1 n2
            exact ⟨by omega, by omega, by omega, trivial⟩
          have D1 := Lib.hid (fun w => change_Diff a b (by omega) (by omega) w)
          have D2 := Lib.hid (fun w => change_Diff b a (by omega) (by omega) w)
          rw [← hcm] at D2
          clear hv1 hv2 hcm
          have TEST : Hid ((a.toList == b.toList) = true ∧ dAt a.data.toList b.data.toList = 0 ∧ bs (dOld a.data.toList b.data.toList) = ⟨#[]⟩ ∧ bs (dOld b.data.toList a.data.toList) = ⟨#[]⟩ ∨ (a.toList == b.toList) = false ∧
              (rune (dOld a.data.toList b.data.toList) 0 ≠ rune (dOld b.data.toList a.data.toList) 0 ∨ (rune (dOld a.data.toList b.data.toList) 0 = [] ∧ rune (dOld b.data.toList a.data.toList) 0 = [])) ∧
              (rune (dOld a.data.toList b.data.toList) (prev (dOld a.data.toList b.data.toList) (dOld a.data.toList b.data.toList).length) ≠ rune (dOld b.data.toList a.data.toList) (prev (dOld b.data.toList a.data.toList) (dOld b.data.toList a.data.toList).length) ∨ (rune (dOld a.data.toList b.data.toList) (prev (dOld a.data.toList b.data.toList) (dOld a.data.toList b.data.toList).length) = [] ∧ rune (dOld b.data.toList a.data.toList) (prev (dOld b.data.toList a.data.toList) (dOld b.data.toList a.data.toList).length) = []))) := by
            by_cases he : a.data.toList = b.data.toList
            · refine Or.inl ⟨?_, dAt_none (Or.inl he), ?_, ?_⟩
              · rw [tl_data, tl_data, he]; exact beq_self_eq_true _
              · rw [dOld_none (Or.inl he)]; rfl
              · rw [dOld_none (Or.inl he.symm)]; rfl
            · refine Or.inr ⟨?_, least he⟩
              rw [tl_data, tl_data]
              exact beq_false_of_ne he
          clear least
          generalize dOld a.data.toList b.data.toList = o at *
          generalize dOld b.data.toList a.data.toList = n at *
          generalize dAt a.data.toList b.data.toList = i at *
          have ho : (bs o).size ≤ 2000 := by rw [bs_size]; exact r2
          have hn : (bs n).size ≤ 2000 := by rw [bs_size]; exact r3
          have DO1 : Hid (∀ u p, Cgs u (some ⟨p, 0, none⟩) [⟨(i : Nat), bs o, bs n⟩] → Calls Try.prog 9 #[.string a, .slice (some ⟨p, 0, none⟩) 1 1] u fun e w' => e = .returned (.tuple #[.string b, .int .i64 0]) ∧ Below u.heap.size u w') := fun u p hc => by
            have := change_Do a (c := 1) hc (by omega) (by simp [weigh]; omega) (by simp)
            rw [does_one (i := i) rfl (by simpa [bs_toList] using f1) (by simpa [bs_toList] using m1) (by omega)] at this
            exact this
          have DO2 : Hid (∀ u p, Cgs u (some ⟨p, 0, none⟩) [⟨(i : Nat), bs n, bs o⟩] → Calls Try.prog 9 #[.string b, .slice (some ⟨p, 0, none⟩) 1 1] u fun e w' => e = .returned (.tuple #[.string a, .int .i64 0]) ∧ Below u.heap.size u w') := fun u p hc => by
            have := change_Do b (c := 1) hc (by omega) (by simp [weigh]; omega) (by simp)
            rw [does_one (i := i) rfl (by simpa [bs_toList] using f2) (by simpa [bs_toList] using m2) (by omega)] at this
            exact this
          have T := Lib.hid (fun w => change_Turn (i : Nat) (bs o) (bs n) (by omega) (by omega) w)
          have F := Lib.hid (fun w => change_Fits a (i : Nat) (bs o) (bs n) (by omega) (by omega) (by omega) w)
          rw [bs_toList, bs_toList, f1] at F
          clear f1 f2 m1 m2
          go_enter Try.func6, Try.ntmps6
          go_wp2_with (first
            | (go_at_call 19; with_reducible refine (V1.out _).mono ?_; rintro e w1 ⟨rfl, rfl⟩)
            | (go_at_call 19; with_reducible refine (V2.out _).mono ?_; rintro e w1 ⟨rfl, rfl⟩)
            | (go_at_call 14; refine (D1.out _).mono ?_; rintro e w2 ⟨rfl, hb2⟩))
          have CELL : Hid (∀ u, Below (w2.alloc (.cells #[.int .i64 (i : Nat), .string (bs o), .string (bs n)] 31)).heap.size (w2.alloc (.cells #[.int .i64 (i : Nat), .string (bs o), .string (bs n)] 31)) u → u.cell? ⟨w2.heap.size, 0, none⟩ = some (.int .i64 (i : Nat)) ∧ u.cell? ⟨w2.heap.size, 1, none⟩ = some (.string (bs o)) ∧ u.cell? ⟨w2.heap.size, 2, none⟩ = some (.string (bs n))) := fun u hu => by
            have b0 := (Blk.new w2 31 #[.int .i64 (i : Nat), .string (bs o), .string (bs n)]).below hu (by simp)
            exact ⟨b0.cell 0, b0.cell 1, b0.cell 2⟩
          have HB : Hid (∀ u, Below (w2.alloc (.cells #[.int .i64 (i : Nat), .string (bs o), .string (bs n)] 31)).heap.size (w2.alloc (.cells #[.int .i64 (i : Nat), .string (bs o), .string (bs n)] 31)) u → Below w.heap.size w u) := fun u hu => (hb2.alloc hb2.size _).trans (hu.mono (by have := hb2.size; simp; omega))
          have hA1 : Below (w2.alloc (.cells #[.int .i64 (i : Nat), .string (bs o), .string (bs n)] 31)).heap.size (w2.alloc (.cells #[.int .i64 (i : Nat), .string (bs o), .string (bs n)] 31)) ((w2.alloc (.cells #[.int .i64 (i : Nat), .string (bs o), .string (bs n)] 31)).alloc (.cells #[.int .i64 (i : Nat), .string (bs o), .string (bs n)] 31)) := (Below.refl _ _).alloc (Nat.le_refl _) _
          have C0 : Cgs ((w2.alloc (.cells #[.int .i64 (i : Nat), .string (bs o), .string (bs n)] 31)).alloc (.cells #[.int .i64 (i : Nat), .string (bs o), .string (bs n)] 31)) (some ⟨(w2.alloc (.cells #[.int .i64 (i : Nat), .string (bs o), .string (bs n)] 31)).heap.size, 0, none⟩) [⟨(i : Nat), bs o, bs n⟩] := cgs_one _ ⟨(i : Nat), bs o, bs n⟩ 31
          have C1 : Cgs ((w2.alloc (.cells #[.int .i64 (i : Nat), .string (bs o), .string (bs n)] 31)).alloc (.cells #[.int .i64 (i : Nat), .string (bs o), .string (bs n)] 31)) (some ⟨w2.heap.size + 1, 0, none⟩) [⟨(i : Nat), bs o, bs n⟩] := by
            rw [show (w2.alloc (.cells #[.int .i64 (i : Nat), .string (bs o), .string (bs n)] 31)).heap.size = w2.heap.size + 1 by simp] at C0
            exact C0
          clear C0
          with_reducible refine (DO1.out _ _ C1).mono ?_
          rintro e w3 ⟨rfl, hb3⟩
          have h3 := hA1.trans (hb3.mono (by simp))
          obtain ⟨c0, c1, c2⟩ := CELL.out _ h3
          clear hA1 hb3 C1
          go_wp2_with (first
            | (go_at_call 13; refine (T.out _).mono ?_; rintro e w4 ⟨rfl, hb4⟩; have h4 := h3.trans (hb4.mono h3.size); obtain ⟨c3, c4, c5⟩ := CELL.out _ h4))
          have C2 : Cgs (w4.alloc (.cells #[.int .i64 (i : Nat), .string (bs n), .string (bs o)] 31)) (some ⟨w4.heap.size, 0, none⟩) [⟨(i : Nat), bs n, bs o⟩] := cgs_one _ ⟨(i : Nat), bs n, bs o⟩ 31
          with_reducible refine (DO2.out _ _ C2).mono ?_
          rintro e w5 ⟨rfl, hb5⟩
          have h5 := (h4.alloc h4.size (.cells #[.int .i64 (i : Nat), .string (bs n), .string (bs o)] 31)).trans (hb5.mono (Nat.le_trans h4.size (by simp)))
          obtain ⟨g0, g1, g2⟩ := CELL.out _ h5
          clear C2 hb4 hb5 h3 h4 c0 c1 c2 c3 c4 c5 DO1 DO2
          go_wp2
          have h5d := h5.drew
          have HL := Lib.hid (show (w2.alloc (.cells #[.int .i64 (i : Nat), .string (bs o), .string (bs n)] 31)).heap.size ≤ w5.drew.heap.size from h5d.size)
          clear h5
          go_region_held3 (fun u => u.cell? ⟨w2.heap.size, 0, none⟩ = some (.int .i64 (i : Nat)) ∧ u.cell? ⟨w2.heap.size, 1, none⟩ = some (.string (bs o)) ∧ u.cell? ⟨w2.heap.size, 2, none⟩ = some (.string (bs n))) (first | exact ⟨by assumption, by assumption, by assumption⟩ | go_keep)
            (first
              | (go_at_call 11; refine (F.out _).mono ?_; rintro e v1 ⟨rfl, vb1⟩; have vc1 := h5d.trans (vb1.mono h5d.size); obtain ⟨e0, e1, e2⟩ := CELL.out _ vc1)
              | (go_at_call 14; refine (D2.out _).mono ?_; rintro e v2 ⟨rfl, vb2⟩; have vc2 := vc1.trans (vb2.mono vc1.size); obtain ⟨f0, f1, f2⟩ := CELL.out _ vc2)
              | (go_at_call 13; refine (T.out _).mono ?_; rintro e v3 ⟨rfl, vb3⟩; have vc3 := vc2.trans (vb3.mono vc2.size); obtain ⟨k0, k1, k2⟩ := CELL.out _ vc3))
          all_goals
            have HV := Lib.hid (HB.out _ vc3)
            have CV : Hid (∀ u, Below v3.heap.size v3 u → u.cell? ⟨w2.heap.size, 0, none⟩ = some (.int .i64 (i : Nat)) ∧ u.cell? ⟨w2.heap.size, 1, none⟩ = some (.string (bs o)) ∧ u.cell? ⟨w2.heap.size, 2, none⟩ = some (.string (bs n))) := fun u hu => CELL.out u (vc3.trans (hu.mono vc3.size))
            clear e0 e1 e2 f0 f1 f2 vc1 vc2 vc3 vb1 vb2 vb3 h5d CELL HB T F D1 D2 V1 V2
            rcases TEST.out with ⟨t1, t2, t3, t4⟩ | ⟨t1, t5, t6⟩
            · rw [t2] at k0
              rw [t3] at k1
              rw [t4] at k2
              clear TEST CV t2 t3 t4
              go_wp2_with (first
                | (go_at_call 8; refine (L.out _).mono ?_; rintro e v4 ⟨rfl, vb4⟩))
              go_ret
              exact ⟨rfl, HV.out.trans (vb4.mono HV.out.size)⟩
            · have RO := Lib.hid (fun w => utf_Rune (bs o) 0 (by omega) w)
              have RN := Lib.hid (fun w => utf_Rune (bs n) 0 (by omega) w)
              have PO := Lib.hid (fun w => utf_Prev (bs o) ((bs o).size : Int) (by omega) w)
              have PN := Lib.hid (fun w => utf_Prev (bs n) ((bs n).size : Int) (by omega) w)
              have QO := Lib.hid (fun w => utf_Rune (bs o) (prev o (o.length : Int)) (by omega) w)
              have QN := Lib.hid (fun w => utf_Rune (bs n) (prev n (n.length : Int)) (by omega) w)
              rw [bs_toList] at RO RN QO QN
              rw [bs_toList, show ((bs o).size : Int) = (o.length : Int) by rw [bs_size]] at PO
              rw [bs_toList, show ((bs n).size : Int) = (n.length : Int) by rw [bs_size]] at PN
              have so : (bs o).size = o.length := bs_size o
              have sn : (bs n).size = n.length := bs_size n
              obtain ⟨X, Y, eX, eY, tX⟩ := texts_of t5
              obtain ⟨P, Q, eP, eQ, tP⟩ := texts_of t6
              rw [eX] at RO
              rw [eY] at RN
              rw [eP] at QO
              rw [eQ] at QN
              generalize prev o (o.length : Int) = po at *
              generalize prev n (n.length : Int) = pn at *
              clear TEST t5 t6 eX eY eP eQ
              have xd : Below v3.heap.size v3 v3.drew := (Below.refl _ _).drew
              go_wp2
              go_region_held3 (fun u => u.cell? ⟨w2.heap.size, 0, none⟩ = some (.int .i64 (i : Nat)) ∧ u.cell? ⟨w2.heap.size, 1, none⟩ = some (.string (bs o)) ∧ u.cell? ⟨w2.heap.size, 2, none⟩ = some (.string (bs n))) (first | exact ⟨by assumption, by assumption, by assumption⟩ | go_keep)
                (first
                  | (go_at_call 20; with_reducible refine (RO.out _).mono ?_; rintro e x1 ⟨rfl, xb1⟩; have xc1 := xd.trans (xb1.mono xd.size); obtain ⟨l0, l1, l2⟩ := CV.out _ xc1)
                  | (go_at_call 20; with_reducible refine (RN.out _).mono ?_; rintro e x2 ⟨rfl, xb2⟩; have xc2 := xc1.trans (xb2.mono xc1.size); obtain ⟨m0, m1, m2⟩ := CV.out _ xc2))
              all_goals
                have yd := xc2.drew
                clear k0 k1 k2 l0 l1 l2 xb1 xb2 xc1 xd RO RN
                go_wp2
                go_region_held3 (fun u => u.cell? ⟨w2.heap.size, 0, none⟩ = some (.int .i64 (i : Nat)) ∧ u.cell? ⟨w2.heap.size, 1, none⟩ = some (.string (bs o)) ∧ u.cell? ⟨w2.heap.size, 2, none⟩ = some (.string (bs n))) (first | exact ⟨by assumption, by assumption, by assumption⟩ | go_keep)
                  (first
                    | (go_at_call 21; with_reducible refine (PO.out _).mono ?_; rintro e y1 ⟨rfl, rfl⟩)
                    | (go_at_call 21; with_reducible refine (PN.out _).mono ?_; rintro e y2 ⟨rfl, rfl⟩)
                    | (go_at_call 20; with_reducible refine (QO.out _).mono ?_; rintro e y3 ⟨rfl, yb⟩; replace yd := yd.trans (yb.mono yd.size); obtain ⟨m0, m1, m2⟩ := CV.out _ yd; clear yb)
                    | (go_at_call 20; with_reducible refine (QN.out _).mono ?_; rintro e y4 ⟨rfl, yb⟩; replace yd := yd.trans (yb.mono yd.size); obtain ⟨m0, m1, m2⟩ := CV.out _ yd; clear yb))
                all_goals
                  have HY := Lib.hid (HV.out.trans (yd.mono HV.out.size))
                  clear PO PN QO QN CV yd m0 m1 m2
                  rcases tX with tX | ⟨rfl, rfl⟩
                  all_goals
                    rcases tP with tP | ⟨rfl, rfl⟩
                    all_goals
                      go_wp2_with (go_at_call 8; refine (L.out _).mono ?_; rintro e v4 ⟨rfl, vb4⟩)
                      go_ret
                      exact ⟨rfl, HY.out.trans (vb4.mono HY.out.size)⟩
section
open Go.ChangeShapes Go.WideShapes Go.ChangeAt
open Go.ChangeMaps (open_string)
set_option maxRecDepth 100000 in
theorem changeMakes_lifted (os : Os) (started : os.Started) (H : Type) (enc : TypeId × Value → H) :
    ReturnsInHanded {} Try.checked os 6 .any (Rows.changeMakesSpec.pre6 enc Try.prog Try.f6 Rows.changeMakesRow.domain false) (Rows.changeMakesSpec.post enc Try.prog Try.f6 false true false false) := by
  refine returnsInHanded_of_change_sized (C := Try.checked) own_knob started (by kernel_rfl) Try.func6
    (ChangeSpec.witness6 (enc := enc) (C := Try.checked) false ⟨#[], #[.string .empty, .string .empty], []⟩ 8 (by kernel_rfl) (by kernel_rfl) (by kernel_rfl) (by kernel_rfl)) ?_
  intro W base args ds gs before hval0 hW _ hsz0 _
  have hsz : (DataW.weightsEach Try.prog (Try.f6.params.toList ++ Rows.changeMakesSpec.plain.varTypes Try.prog) (ds ++ gs)).all (· ≤ reachBytes) = true := hsz0
  clear hsz0
  have hval : ∀ (j : Nat) t v, Try.f6.params[j]? = some t → args[j]? = some v → Value.okWide Try.prog W .any base t v := hval0
  have hW' := hW
  obtain ⟨p, q, hA0, hV, rfl, hfz, hnd⟩ := hW
  have hA : DataW.TrodAll enc Try.prog W 0 (fun _ => true) true Try.f6.params.toList args.toList ds p := hA0
  rw [Try.params6] at hA hval hsz
  obtain ⟨v0, vs0, d0, ds0, p0, q0, hargs, rfl, rfl, h0, r0⟩ := trodAll_cons hA
  obtain ⟨v1, vs1, d1, ds1, p1, q1, rfl, rfl, rfl, h1, r1⟩ := trodAll_cons r0
  obtain ⟨rfl, rfl, rfl⟩ := trodAll_nil r1
  obtain rfl : args = #[v0, v1] := by cases args; simp_all
  obtain ⟨rfl, rfl⟩ := trodVars_none hV
  obtain ⟨s0, rfl, rfl, rfl, hmax0⟩ := open_string Try.underlying9 (hval 0 9 v0 rfl rfl) h0
  have hs0 : s0.size ≤ 140737488351232 := by rw [← data_len]; exact sized_string hsz (j := 0) (t := 9) rfl rfl
  obtain ⟨s1, rfl, rfl, rfl, hmax1⟩ := open_string Try.underlying9 (hval 1 9 v1 rfl rfl) h1
  have hs1 : s1.size ≤ 140737488351232 := by rw [← data_len]; exact sized_string hsz (j := 1) (t := 9) rfl rfl
  refine (changeMakes_walk s0 s1 W).mono fun e W' ⟨he, hb⟩ => ?_
  subst he
  exact ⟨_, rfl, law_post rfl rfl (by rw [Try.params6]; decide +kernel) ⟨rfl, rfl, rfl⟩ hW' hb⟩
theorem changeMakes_holds : Rows.ChangeMakesSaid :=
  OpenClaim.holds_of_wide 6 Try.f6 rfl rfl rfl rfl rfl rfl rfl ⟨rfl, rfl, rfl, rfl, rfl⟩ rfl rfl rfl rfl rfl (by kernel_rfl) Try.func6 (by kernel_rfl)
    (of_decide_eq_true (by kernel_rfl)) (by unfold Func.isWrapper; first | (rw [if_pos (by decide +kernel)]; kernel_rfl) | (rw [if_neg (by decide +kernel)]; exact ⟨rfl, rfl⟩))
    (fun os started H enc _ => changeMakes_lifted os started H enc)
end
end Go.Proofs.Ytlkkajmmcdigoaa
