/-
  'calamuslaw25.EntryKeeps' answers true for every text, place and beginning: nothing ahead of the beginning, and nothing behind, is taken out; a Wipe takes no less than a Chop, this no less than a Back; where the cursor goes is normal. Conditions: none.
-/
import Derived.Test.YtdclopfhffjkfaaDoorJR
import Derived.Test.YtdclopfhffjkfaaDoorJQ
import Derived.Test.YtdclopfhffjkfaaDoorLineCalls
import Derived.Test.YtdclopfhffjkfaaDoorCards
import Derived.Test.YtdclopfhffjkfaaDoorTie
import Derived.Lay
import Derived.SevenTiedAt
import Derived.MakeChecks
namespace Go.Proofs.YtdclopfhffjkfaaDoor
open Go.RowKit
namespace Ent
theorem leave_normal {s : List UInt8} {p : Int} (h : Utf.place s p = true) : Line.normal s (leave s p) = true := by
  rw [leave, if_pos h]
  exact ((Opr.clamp_good (Line.place_ok h) _).2 rfl).2 rfl
end Ent
set_option maxHeartbeats 4000000 in
set_option maxRecDepth 100000 in
theorem entryKeeps_err1_true (s : ByteArray) (p b : Int) (hs : s.size ≤ 500) (h : Ent.wrong s.data.toList p b = 1) (hp : Utf.place s.data.toList p = true) (w : World) (hT : Tabs w) :
    Calls Tryd.prog 6 #[.string s, .int .i64 p, .int .i64 b] w fun e w' => e = .returned (.bool true) ∧ Below w.heap.size w w' := by
  have LV : Hid (∀ u, Below w.heap.size w u → Calls Tryd.prog 7 #[] u fun e w' => e = .returned (.bool true) ∧ Below u.heap.size u w') := fun u hu => entry_lives u (tabs_below hT hu)
  have hB := Below.refl w.heap.size w
  have A0 := fun u (hu : Below w.heap.size w u) => entry_Back s p b (by omega) u
  rw [(Ent.wrong_cut Ent.backQ (by rw [h]; decide)).1, h, Pst.val_no] at A0
  have C0 := Lib.hid A0
  clear A0
  have A1 := fun u (hu : Below w.heap.size w u) => entry_Chop s p b (by omega) u (tabs_below hT hu)
  rw [(Ent.wrong_cut Ent.chopQ (by rw [h]; decide)).1, h, Pst.val_no] at A1
  have C1 := Lib.hid A1
  clear A1
  have A2 := fun u (hu : Below w.heap.size w u) => entry_Wipe s p b (by omega) u (tabs_below hT hu)
  rw [(Ent.wrong_cut Ent.wipeQ (by rw [h]; decide)).1, h, Pst.val_no] at A2
  have C2 := Lib.hid A2
  clear A2
  have P0 := fun u => utf_Place s p (by omega) u
  rw [hp] at P0
  have P1 := Lib.hid P0
  have E1 := Lib.hid (fun u => entry_Leave s p (by omega) u)
  have N0 := fun u => line_Normal s (Ent.leave s.data.toList p) (by omega) u
  rw [Ent.leave_normal hp] at N0
  have N1 := Lib.hid N0
  clear N0
  generalize Ent.leave s.data.toList p = z at *
  have g0 : decide ((500 : Int) < (s.size : Int)) = false := decide_eq_false (by omega)
  have g3 : (⟨#[]⟩ : ByteArray).toList.isEmpty = true := by rw [show (⟨#[]⟩ : ByteArray) = bs [] from rfl, bs_isEmpty]; rfl
  clear P0 h hp hs hT
  go_enter Tryd.func6, Tryd.ntmps6
  go_wp2_with (first
    | (go_at_call 12; (with_reducible refine (C0.out _ hB).mono ?_); rintro e u ⟨rfl, hbn⟩; replace hB := hB.trans (hbn.mono hB.size); clear hbn)
    | (go_at_call 14; (with_reducible refine (C1.out _ hB).mono ?_); rintro e u ⟨rfl, hbn⟩; replace hB := hB.trans (hbn.mono hB.size); clear hbn)
    | (go_at_call 16; (with_reducible refine (C2.out _ hB).mono ?_); rintro e u ⟨rfl, hbn⟩; replace hB := hB.trans (hbn.mono hB.size); clear hbn)
    | (go_at_call 21; (with_reducible refine (P1.out _).mono ?_); rintro e u ⟨rfl, rfl⟩)
    | (go_at_call 18; (with_reducible refine (E1.out _).mono ?_); rintro e u ⟨rfl, hbn⟩; replace hB := hB.trans (hbn.mono hB.size); clear hbn)
    | (go_at_call 22; (with_reducible refine (N1.out _).mono ?_); rintro e u ⟨rfl, hbn⟩; replace hB := hB.trans (hbn.mono hB.size); clear hbn)
    | (go_at_call 7; (with_reducible refine (LV.out _ hB).mono ?_); rintro e u ⟨rfl, hbn⟩; replace hB := hB.trans (hbn.mono hB.size); clear hbn))
  go_ret
  exact ⟨rfl, hB⟩
set_option maxHeartbeats 4000000 in
set_option maxRecDepth 100000 in
theorem entryKeeps_err1_false (s : ByteArray) (p b : Int) (hs : s.size ≤ 500) (h : Ent.wrong s.data.toList p b = 1) (hp : Utf.place s.data.toList p = false) (w : World) (hT : Tabs w) :
    Calls Tryd.prog 6 #[.string s, .int .i64 p, .int .i64 b] w fun e w' => e = .returned (.bool true) ∧ Below w.heap.size w w' := by
  have LV : Hid (∀ u, Below w.heap.size w u → Calls Tryd.prog 7 #[] u fun e w' => e = .returned (.bool true) ∧ Below u.heap.size u w') := fun u hu => entry_lives u (tabs_below hT hu)
  have hB := Below.refl w.heap.size w
  have A0 := fun u (hu : Below w.heap.size w u) => entry_Back s p b (by omega) u
  rw [(Ent.wrong_cut Ent.backQ (by rw [h]; decide)).1, h, Pst.val_no] at A0
  have C0 := Lib.hid A0
  clear A0
  have A1 := fun u (hu : Below w.heap.size w u) => entry_Chop s p b (by omega) u (tabs_below hT hu)
  rw [(Ent.wrong_cut Ent.chopQ (by rw [h]; decide)).1, h, Pst.val_no] at A1
  have C1 := Lib.hid A1
  clear A1
  have A2 := fun u (hu : Below w.heap.size w u) => entry_Wipe s p b (by omega) u (tabs_below hT hu)
  rw [(Ent.wrong_cut Ent.wipeQ (by rw [h]; decide)).1, h, Pst.val_no] at A2
  have C2 := Lib.hid A2
  clear A2
  have P0 := fun u => utf_Place s p (by omega) u
  rw [hp] at P0
  have P1 := Lib.hid P0
  have g0 : decide ((500 : Int) < (s.size : Int)) = false := decide_eq_false (by omega)
  have g3 : (⟨#[]⟩ : ByteArray).toList.isEmpty = true := by rw [show (⟨#[]⟩ : ByteArray) = bs [] from rfl, bs_isEmpty]; rfl
  clear P0 h hp hs hT
  go_enter Tryd.func6, Tryd.ntmps6
  go_wp2_with (first
    | (go_at_call 12; (with_reducible refine (C0.out _ hB).mono ?_); rintro e u ⟨rfl, hbn⟩; replace hB := hB.trans (hbn.mono hB.size); clear hbn)
    | (go_at_call 14; (with_reducible refine (C1.out _ hB).mono ?_); rintro e u ⟨rfl, hbn⟩; replace hB := hB.trans (hbn.mono hB.size); clear hbn)
    | (go_at_call 16; (with_reducible refine (C2.out _ hB).mono ?_); rintro e u ⟨rfl, hbn⟩; replace hB := hB.trans (hbn.mono hB.size); clear hbn)
    | (go_at_call 21; (with_reducible refine (P1.out _).mono ?_); rintro e u ⟨rfl, rfl⟩)
    | (go_at_call 7; (with_reducible refine (LV.out _ hB).mono ?_); rintro e u ⟨rfl, hbn⟩; replace hB := hB.trans (hbn.mono hB.size); clear hbn))
  go_ret
  exact ⟨rfl, hB⟩
set_option maxHeartbeats 4000000 in
set_option maxRecDepth 100000 in
theorem entryKeeps_err10_true (s : ByteArray) (p b : Int) (hs : s.size ≤ 500) (h : Ent.wrong s.data.toList p b = 10) (hp : Utf.place s.data.toList p = true) (w : World) (hT : Tabs w) :
    Calls Tryd.prog 6 #[.string s, .int .i64 p, .int .i64 b] w fun e w' => e = .returned (.bool true) ∧ Below w.heap.size w w' := by
  have LV : Hid (∀ u, Below w.heap.size w u → Calls Tryd.prog 7 #[] u fun e w' => e = .returned (.bool true) ∧ Below u.heap.size u w') := fun u hu => entry_lives u (tabs_below hT hu)
  have hB := Below.refl w.heap.size w
  have A0 := fun u (hu : Below w.heap.size w u) => entry_Back s p b (by omega) u
  rw [(Ent.wrong_cut Ent.backQ (by rw [h]; decide)).1, h, Pst.val_no] at A0
  have C0 := Lib.hid A0
  clear A0
  have A1 := fun u (hu : Below w.heap.size w u) => entry_Chop s p b (by omega) u (tabs_below hT hu)
  rw [(Ent.wrong_cut Ent.chopQ (by rw [h]; decide)).1, h, Pst.val_no] at A1
  have C1 := Lib.hid A1
  clear A1
  have A2 := fun u (hu : Below w.heap.size w u) => entry_Wipe s p b (by omega) u (tabs_below hT hu)
  rw [(Ent.wrong_cut Ent.wipeQ (by rw [h]; decide)).1, h, Pst.val_no] at A2
  have C2 := Lib.hid A2
  clear A2
  have P0 := fun u => utf_Place s p (by omega) u
  rw [hp] at P0
  have P1 := Lib.hid P0
  have E1 := Lib.hid (fun u => entry_Leave s p (by omega) u)
  have N0 := fun u => line_Normal s (Ent.leave s.data.toList p) (by omega) u
  rw [Ent.leave_normal hp] at N0
  have N1 := Lib.hid N0
  clear N0
  generalize Ent.leave s.data.toList p = z at *
  have g0 : decide ((500 : Int) < (s.size : Int)) = false := decide_eq_false (by omega)
  have g3 : (⟨#[]⟩ : ByteArray).toList.isEmpty = true := by rw [show (⟨#[]⟩ : ByteArray) = bs [] from rfl, bs_isEmpty]; rfl
  clear P0 h hp hs hT
  go_enter Tryd.func6, Tryd.ntmps6
  go_wp2_with (first
    | (go_at_call 12; (with_reducible refine (C0.out _ hB).mono ?_); rintro e u ⟨rfl, hbn⟩; replace hB := hB.trans (hbn.mono hB.size); clear hbn)
    | (go_at_call 14; (with_reducible refine (C1.out _ hB).mono ?_); rintro e u ⟨rfl, hbn⟩; replace hB := hB.trans (hbn.mono hB.size); clear hbn)
    | (go_at_call 16; (with_reducible refine (C2.out _ hB).mono ?_); rintro e u ⟨rfl, hbn⟩; replace hB := hB.trans (hbn.mono hB.size); clear hbn)
    | (go_at_call 21; (with_reducible refine (P1.out _).mono ?_); rintro e u ⟨rfl, rfl⟩)
    | (go_at_call 18; (with_reducible refine (E1.out _).mono ?_); rintro e u ⟨rfl, hbn⟩; replace hB := hB.trans (hbn.mono hB.size); clear hbn)
    | (go_at_call 22; (with_reducible refine (N1.out _).mono ?_); rintro e u ⟨rfl, hbn⟩; replace hB := hB.trans (hbn.mono hB.size); clear hbn)
    | (go_at_call 7; (with_reducible refine (LV.out _ hB).mono ?_); rintro e u ⟨rfl, hbn⟩; replace hB := hB.trans (hbn.mono hB.size); clear hbn))
  go_ret
  exact ⟨rfl, hB⟩
set_option maxHeartbeats 4000000 in
set_option maxRecDepth 100000 in
theorem entryKeeps_err10_false (s : ByteArray) (p b : Int) (hs : s.size ≤ 500) (h : Ent.wrong s.data.toList p b = 10) (hp : Utf.place s.data.toList p = false) (w : World) (hT : Tabs w) :
    Calls Tryd.prog 6 #[.string s, .int .i64 p, .int .i64 b] w fun e w' => e = .returned (.bool true) ∧ Below w.heap.size w w' := by
  have LV : Hid (∀ u, Below w.heap.size w u → Calls Tryd.prog 7 #[] u fun e w' => e = .returned (.bool true) ∧ Below u.heap.size u w') := fun u hu => entry_lives u (tabs_below hT hu)
  have hB := Below.refl w.heap.size w
  have A0 := fun u (hu : Below w.heap.size w u) => entry_Back s p b (by omega) u
  rw [(Ent.wrong_cut Ent.backQ (by rw [h]; decide)).1, h, Pst.val_no] at A0
  have C0 := Lib.hid A0
  clear A0
  have A1 := fun u (hu : Below w.heap.size w u) => entry_Chop s p b (by omega) u (tabs_below hT hu)
  rw [(Ent.wrong_cut Ent.chopQ (by rw [h]; decide)).1, h, Pst.val_no] at A1
  have C1 := Lib.hid A1
  clear A1
  have A2 := fun u (hu : Below w.heap.size w u) => entry_Wipe s p b (by omega) u (tabs_below hT hu)
  rw [(Ent.wrong_cut Ent.wipeQ (by rw [h]; decide)).1, h, Pst.val_no] at A2
  have C2 := Lib.hid A2
  clear A2
  have P0 := fun u => utf_Place s p (by omega) u
  rw [hp] at P0
  have P1 := Lib.hid P0
  have g0 : decide ((500 : Int) < (s.size : Int)) = false := decide_eq_false (by omega)
  have g3 : (⟨#[]⟩ : ByteArray).toList.isEmpty = true := by rw [show (⟨#[]⟩ : ByteArray) = bs [] from rfl, bs_isEmpty]; rfl
  clear P0 h hp hs hT
  go_enter Tryd.func6, Tryd.ntmps6
  go_wp2_with (first
    | (go_at_call 12; (with_reducible refine (C0.out _ hB).mono ?_); rintro e u ⟨rfl, hbn⟩; replace hB := hB.trans (hbn.mono hB.size); clear hbn)
    | (go_at_call 14; (with_reducible refine (C1.out _ hB).mono ?_); rintro e u ⟨rfl, hbn⟩; replace hB := hB.trans (hbn.mono hB.size); clear hbn)
    | (go_at_call 16; (with_reducible refine (C2.out _ hB).mono ?_); rintro e u ⟨rfl, hbn⟩; replace hB := hB.trans (hbn.mono hB.size); clear hbn)
    | (go_at_call 21; (with_reducible refine (P1.out _).mono ?_); rintro e u ⟨rfl, rfl⟩)
    | (go_at_call 7; (with_reducible refine (LV.out _ hB).mono ?_); rintro e u ⟨rfl, hbn⟩; replace hB := hB.trans (hbn.mono hB.size); clear hbn))
  go_ret
  exact ⟨rfl, hB⟩
set_option maxHeartbeats 4000000 in
set_option maxRecDepth 100000 in
theorem entryKeeps_ok (s : ByteArray) (p b : Int) (hs : s.size ≤ 500) (h : Ent.wrong s.data.toList p b = 0) (w : World) (hT : Tabs w) :
    Calls Tryd.prog 6 #[.string s, .int .i64 p, .int .i64 b] w fun e w' => e = .returned (.bool true) ∧ Below w.heap.size w w' := by
  have LV : Hid (∀ u, Below w.heap.size w u → Calls Tryd.prog 7 #[] u fun e w' => e = .returned (.bool true) ∧ Below u.heap.size u w') := fun u hu => entry_lives u (tabs_below hT hu)
  have hB := Below.refl w.heap.size w
  obtain ⟨rs, i, a, hd, hi, ha, hpx, hbx, _⟩ := Ent.right_cut Ent.backQ h
  have hp : Utf.place s.data.toList p = true := by rw [hpx]; exact Utf.place_at hd hi
  have hl := data_len s
  have hcut := fun Q => Ent.cut_at Q hd hi (show a ≤ rs.length by omega)
  obtain ⟨o1, o2, o3⟩ := Ent.cut_order (s := s.data.toList) (rs := rs) ha
  have ob : Ent.backQ s.data.toList rs a i = i - 1 := rfl
  have OM := fun {j k : Nat} (h : j ≤ k) => Utf.off_mono (rs := rs) h
  have A0 := fun u (hu : Below w.heap.size w u) => entry_Back s p b (by omega) u
  have hc0 := hcut Ent.backQ
  rw [if_neg (by omega), ← hpx, ← hbx] at hc0
  rw [hc0, Pst.val_mk] at A0
  have A1 := fun u (hu : Below w.heap.size w u) => entry_Chop s p b (by omega) u (tabs_below hT hu)
  have hc1 := hcut Ent.chopQ
  rw [if_neg (by omega), ← hpx, ← hbx] at hc1
  rw [hc1, Pst.val_mk] at A1
  have A2 := fun u (hu : Below w.heap.size w u) => entry_Wipe s p b (by omega) u (tabs_below hT hu)
  have hc2 := hcut Ent.wipeQ
  rw [if_neg (by omega), ← hpx, ← hbx] at hc2
  rw [hc2, Pst.val_mk] at A2
  rw [ob] at A0
  generalize Ent.chopQ s.data.toList rs a i = j1 at *
  generalize Ent.wipeQ s.data.toList rs a i = j2 at *
  have hx0 := Utf.off_lt (Utf.dec_some hd).1 (show i - 1 < i by omega) hi
  have hil := Utf.off_in hd i
  have m1 := OM (show j1 ≤ i - 1 by omega)
  have m2 := OM (show j2 ≤ j1 by omega)
  have m3 := OM (show a ≤ j2 by omega)
  have P0 := fun u => utf_Place s (Utf.off rs (i - 1) : Int) (by omega) u
  rw [Utf.place_at hd (by omega)] at P0
  have e0a := Ent.ext_to s (Utf.off rs (i - 1))
  have e0b : bs (s.data.toList.take (Utf.off rs (i - 1))) ++ bs (s.data.toList.drop (Utf.off rs i)) = bs (Pst.mid s.data.toList (Utf.off rs (i - 1)) (Utf.off rs i) []) := by rw [bs_append, Pst.mid, List.nil_append]
  have z0 : (bs (s.data.toList.take (Utf.off rs (i - 1)))).size ≤ 500 := by rw [bs_size, List.length_take]; omega
  have P1 := fun u => utf_Place s (Utf.off rs j1 : Int) (by omega) u
  rw [Utf.place_at hd (by omega)] at P1
  have e1a := Ent.ext_to s (Utf.off rs j1)
  have e1b : bs (s.data.toList.take (Utf.off rs j1)) ++ bs (s.data.toList.drop (Utf.off rs i)) = bs (Pst.mid s.data.toList (Utf.off rs j1) (Utf.off rs i) []) := by rw [bs_append, Pst.mid, List.nil_append]
  have z1 : (bs (s.data.toList.take (Utf.off rs j1))).size ≤ 500 := by rw [bs_size, List.length_take]; omega
  have P2 := fun u => utf_Place s (Utf.off rs j2 : Int) (by omega) u
  rw [Utf.place_at hd (by omega)] at P2
  have e2a := Ent.ext_to s (Utf.off rs j2)
  have e2b : bs (s.data.toList.take (Utf.off rs j2)) ++ bs (s.data.toList.drop (Utf.off rs i)) = bs (Pst.mid s.data.toList (Utf.off rs j2) (Utf.off rs i) []) := by rw [bs_append, Pst.mid, List.nil_append]
  have z2 : (bs (s.data.toList.take (Utf.off rs j2))).size ≤ 500 := by rw [bs_size, List.length_take]; omega
  have e3 := Ent.ext_from s (Utf.off rs i)
  have z3 : (bs (s.data.toList.drop (Utf.off rs i))).size ≤ 500 := by rw [bs_size, List.length_drop]; omega
  have P9 := fun u => utf_Place s p (by omega) u
  rw [hp] at P9
  have E1 := Lib.hid (fun u => entry_Leave s p (by omega) u)
  have N0 := fun u => line_Normal s (Ent.leave s.data.toList p) (by omega) u
  rw [Ent.leave_normal hp] at N0
  have N1 := Lib.hid N0
  clear N0
  generalize Ent.leave s.data.toList p = z at *
  generalize bs (Pst.mid s.data.toList (Utf.off rs (i - 1)) (Utf.off rs i) []) = R0 at *
  generalize bs (Pst.mid s.data.toList (Utf.off rs j1) (Utf.off rs i) []) = R1 at *
  generalize bs (Pst.mid s.data.toList (Utf.off rs j2) (Utf.off rs i) []) = R2 at *
  generalize bs (s.data.toList.take (Utf.off rs (i - 1))) = Y0 at *
  generalize bs (s.data.toList.take (Utf.off rs j1)) = Y1 at *
  generalize bs (s.data.toList.take (Utf.off rs j2)) = Y2 at *
  generalize bs (s.data.toList.drop (Utf.off rs i)) = Y3 at *
  rw [hpx, hbx] at A0 A1 A2
  rw [hpx] at P9 E1
  rw [hpx, hbx]
  generalize Utf.off rs (i - 1) = X0 at *
  generalize Utf.off rs j1 = X1 at *
  generalize Utf.off rs j2 = X2 at *
  generalize Utf.off rs i = I at *
  generalize Utf.off rs a = B at *
  have C0 := Lib.hid A0
  have C1 := Lib.hid A1
  have C2 := Lib.hid A2
  have Q0 := Lib.hid P0
  have Q1 := Lib.hid P1
  have Q2 := Lib.hid P2
  have Q9 := Lib.hid P9
  have k0 : ¬ 9223372036854775807 < Y0.size + Y3.size := by omega
  have k1 : ¬ 9223372036854775807 < Y1.size + Y3.size := by omega
  have k2 : ¬ 9223372036854775807 < Y2.size + Y3.size := by omega
  have c0 : (X0 : Int) ≤ (s.size : Int) := by omega
  have c1 : (X1 : Int) ≤ (s.size : Int) := by omega
  have c2 : (X2 : Int) ≤ (s.size : Int) := by omega
  have c3 : (I : Int) ≤ (s.size : Int) := by omega
  have f0 : ¬ (X0 : Int) < (B : Int) := by omega
  have f1 : ¬ (X1 : Int) < (B : Int) := by omega
  have f2 : ¬ (X2 : Int) < (B : Int) := by omega
  have f3 : ¬ (I : Int) ≤ (X0 : Int) := by omega
  have f4 : ¬ (I : Int) ≤ (X1 : Int) := by omega
  have f5 : ¬ (I : Int) ≤ (X2 : Int) := by omega
  have f6 : (X1 : Int) ≤ (X0 : Int) := by omega
  have f7 : (X2 : Int) ≤ (X1 : Int) := by omega
  have s0 : (R0.toList == R0.toList) = true := by simp
  have s1 : (R1.toList == R1.toList) = true := by simp
  have s2 : (R2.toList == R2.toList) = true := by simp
  have g0 : decide ((500 : Int) < (s.size : Int)) = false := decide_eq_false (by omega)
  clear A0 A1 A2 P0 P1 P2 P9 h hpx hbx hcut hc0 hc1 hc2 OM o1 o2 o3 ob hp hd hi ha hx0 hil m1 m2 m3 z0 z1 z2 z3 hl hT
  have C9 : Hid (∀ (u : World), (u.alloc (.cells #[.int .i64 (X0 : Nat), .int .i64 (X1 : Nat), .int .i64 (X2 : Nat)] 3)).heap.size = u.heap.size + 1) := fun u => by show _ = _; simp
  clear C9
  go_enter Tryd.func6, Tryd.ntmps6
  go_wp2_with (first
    | (go_at_call 12; (with_reducible refine (C0.out _ hB).mono ?_); rintro e u ⟨rfl, hbn⟩; replace hB := hB.trans (hbn.mono hB.size); clear hbn)
    | (go_at_call 14; (with_reducible refine (C1.out _ hB).mono ?_); rintro e u ⟨rfl, hbn⟩; replace hB := hB.trans (hbn.mono hB.size); clear hbn)
    | (go_at_call 16; (with_reducible refine (C2.out _ hB).mono ?_); rintro e u ⟨rfl, hbn⟩; replace hB := hB.trans (hbn.mono hB.size); clear hbn)
    | (go_at_call 21; (with_reducible refine (Q9.out _).mono ?_); rintro e u ⟨rfl, rfl⟩)
    | (go_at_call 18; (with_reducible refine (E1.out _).mono ?_); rintro e u ⟨rfl, hbn⟩; replace hB := hB.trans (hbn.mono hB.size); clear hbn)
    | (go_at_call 22; (with_reducible refine (N1.out _).mono ?_); rintro e u ⟨rfl, hbn⟩; replace hB := hB.trans (hbn.mono hB.size); clear hbn))
  have K := Blk.new u 3 #[.int .i64 (X0 : Nat), .int .i64 (X1 : Nat), .int .i64 (X2 : Nat)]
  have hB1 := hB.alloc hB.size (.cells #[.int .i64 (X0 : Nat), .int .i64 (X1 : Nat), .int .i64 (X2 : Nat)] 3)
  clear hB C0 C1 C2 E1 N1 Q9
  generalize u.alloc (.cells #[.int .i64 (X0 : Nat), .int .i64 (X1 : Nat), .int .i64 (X2 : Nat)] 3) = W1 at *
  generalize u.heap.size = G at *
  have q0 : W1.cell? ⟨G, 0, none⟩ = some (.int .i64 (X0 : Nat)) := K.cell 0
  have q1 : W1.cell? ⟨G, 1, none⟩ = some (.int .i64 (X1 : Nat)) := K.cell 1
  have q2 : W1.cell? ⟨G, 2, none⟩ = some (.int .i64 (X2 : Nat)) := K.cell 2
  clear K
  go_loopw [97] (fun iv wr => W1 = wr ∧ (iv = .int .i64 0 ∨ iv = .int .i64 1 ∨ iv = .int .i64 2 ∨ iv = .int .i64 3)) (fun iv _ => 4 - (intOf iv).toNat)
  case atStart => exact ⟨rfl, .inl rfl⟩
  case round =>
    obtain ⟨hw, hi⟩ := hrel
    subst hw
    rcases hi with rfl | rfl | rfl | rfl
    · clear Q1 Q2 LV k0 k1 k2 e0a e0b e1a e1b e2a e2b e3
      go_wp2_with (first
        | (go_at_call 21; (with_reducible refine (Q0.out _).mono ?_); rintro e u ⟨rfl, rfl⟩))
      go_roundw
      case rel => exact ⟨by trivial, .inr (.inl rfl)⟩
      case measure => simp [intOf]
    · clear Q0 Q2 LV k0 k1 k2 e0a e0b e1a e1b e2a e2b e3
      go_wp2_with (first
        | (go_at_call 21; (with_reducible refine (Q1.out _).mono ?_); rintro e u ⟨rfl, rfl⟩))
      go_roundw
      case rel => exact ⟨by trivial, .inr (.inr (.inl rfl))⟩
      case measure => simp [intOf]
    · clear Q0 Q1 LV k0 k1 k2 e0a e0b e1a e1b e2a e2b e3
      go_wp2_with (first
        | (go_at_call 21; (with_reducible refine (Q2.out _).mono ?_); rintro e u ⟨rfl, rfl⟩))
      go_roundw
      case rel => exact ⟨by trivial, .inr (.inr (.inr rfl))⟩
      case measure => simp [intOf]
    · clear Q0 Q1 Q2 q0 q1 q2
      go_wp2
      go_region_held3 (fun _ => True) (exact trivial)
        ((go_at_call 7; (first | with_reducible refine (LV.out _ hB1).mono ?_ | with_reducible refine (LV.out _ hB1.drew).mono ?_); rintro e u ⟨rfl, hbn⟩; (first | replace hB1 := hB1.trans (hbn.mono hB1.size) | replace hB1 := hB1.drew.trans (hbn.mono hB1.drew.size)); clear hbn))
      all_goals go_wp2
      all_goals go_ret
      all_goals exact ⟨rfl, hB1⟩
set_option maxHeartbeats 4000000 in
set_option maxRecDepth 100000 in
theorem entryKeeps_big (s : ByteArray) (p b : Int) (h0 : 500 < s.size) (w : World) (hT : Tabs w) :
    Calls Tryd.prog 6 #[.string s, .int .i64 p, .int .i64 b] w fun e w' => e = .returned (.bool true) ∧ Below w.heap.size w w' := by
  have LV : Hid (∀ u, Below w.heap.size w u → Calls Tryd.prog 7 #[] u fun e w' => e = .returned (.bool true) ∧ Below u.heap.size u w') := fun u hu => entry_lives u (tabs_below hT hu)
  have hB := Below.refl w.heap.size w
  have g0 : decide ((500 : Int) < (s.size : Int)) = true := decide_eq_true (by omega)
  go_enter Tryd.func6, Tryd.ntmps6
  go_wp2_with (first
    | (go_at_call 7; (with_reducible refine (LV.out _ hB).mono ?_); rintro e u ⟨rfl, hbn⟩; replace hB := hB.trans (hbn.mono hB.size); clear hbn))
  go_ret
  exact ⟨rfl, hB⟩
theorem entryKeeps_walk (s : ByteArray) (p b : Int) (w : World) (hT : Tabs w) :
    Calls Tryd.prog 6 #[.string s, .int .i64 p, .int .i64 b] w fun e w' => e = .returned (.bool true) ∧ Below w.heap.size w w' := by
  by_cases h0 : 500 < s.size
  · exact entryKeeps_big s p b h0 w hT
  · by_cases h : Ent.wrong s.data.toList p b = 0
    · exact entryKeeps_ok s p b (by omega) h w hT
    · obtain ⟨_, h2⟩ := Ent.wrong_cut Ent.backQ h
      cases hp : Utf.place s.data.toList p with
      | true =>
        rcases h2 with h2 | h2
        · exact entryKeeps_err1_true s p b (by omega) h2 hp w hT
        · exact entryKeeps_err10_true s p b (by omega) h2 hp w hT
      | false =>
        rcases h2 with h2 | h2
        · exact entryKeeps_err1_false s p b (by omega) h2 hp w hT
        · exact entryKeeps_err10_false s p b (by omega) h2 hp w hT
section
open Go.ChangeShapes Go.WideShapes Go.ChangeAt
open Go.ChangeMaps (open_string)
set_option maxRecDepth 100000 in
theorem entryKeeps_lifted (os : Os) (started : os.Started) (H : Type) (enc : TypeId × Value → H) :
    ReturnsInHanded {} Tryd.checked os 6 .any (fun w args => (Rows.entryKeepsSpec.pre enc Tryd.prog Tryd.f6 [] false w args ∧ laidMetH Tryd.prog Rows.entryKeepsRow.laid w) ∧ sizedMet enc Tryd.prog Tryd.f6 (OpenSpec.ofChange Rows.entryKeepsSpec) false w args) (Rows.entryKeepsSpec.post enc Tryd.prog Tryd.f6 false true false false) := by
  refine returnsInHanded_of_change_and (C := Tryd.checked) (X := fun w _ => laidMetH Tryd.prog Rows.entryKeepsRow.laid w) (fun _ _ _ hh h => h.of_heap hh) own_knob started (by kernel_rfl) Tryd.func6
    (ChangeSpec.witness_shaped (enc := enc) (C := Tryd.checked) (os := os) (X := fun w _ => laidMetH Tryd.prog Rows.entryKeepsRow.laid w) false (World.laidAll Tryd.prog os Rows.entryKeepsRow.laid) #[.string .empty, .int .i64 0, .int .i64 0] 8 (World.laidAll_os _ _ _)
      (World.shaped_of_ZipB (by kernel_rfl) (by kernel_rfl)) (by kernel_rfl) (by kernel_rfl) (by kernel_rfl)
      (by rw [MakeChecks.laidMetH_plain _ _ _ (by kernel_rfl)]; exact laidMet_laidAll _ (by kernel_rfl) (by kernel_rfl))) ?_
  intro W base args ds gs before hval0 hW _ hsz0 hL0 _
  have hL : laidMetH Tryd.prog Rows.entryKeepsRow.laid W := hL0
  rw [MakeChecks.laidMetH_plain _ _ _ (by kernel_rfl)] at hL
  have hsz : (DataW.weightsEach Tryd.prog (Tryd.f6.params.toList ++ Rows.entryKeepsSpec.plain.varTypes Tryd.prog) (ds ++ gs)).all (· ≤ reachBytes) = true := hsz0
  clear hsz0
  have hval : ∀ (j : Nat) t v, Tryd.f6.params[j]? = some t → args[j]? = some v → Value.okWide Tryd.prog W .any base t v := hval0
  have hW' := hW
  obtain ⟨p, q, hA0, hV, rfl, hfz, hnd⟩ := hW
  have hA : DataW.TrodAll enc Tryd.prog W 0 (fun _ => true) true Tryd.f6.params.toList args.toList ds p := hA0
  rw [Tryd.params6] at hA hval hsz
  obtain ⟨v0, vs0, d0, ds0, p0, q0, hargs, rfl, rfl, h0, r0⟩ := trodAll_cons hA
  obtain ⟨v1, vs1, d1, ds1, p1, q1, rfl, rfl, rfl, h1, r1⟩ := trodAll_cons r0
  obtain ⟨v2, vs2, d2, ds2, p2, q2, rfl, rfl, rfl, h2, r2⟩ := trodAll_cons r1
  obtain ⟨rfl, rfl, rfl⟩ := trodAll_nil r2
  obtain rfl : args = #[v0, v1, v2] := by cases args; simp_all
  obtain ⟨rfl, rfl⟩ := trodVars_none hV
  obtain ⟨s0, rfl, rfl, rfl, hmax0⟩ := open_string Tryd.underlying9 (hval 0 9 v0 rfl rfl) h0
  have hs0 : s0.size ≤ 140737488351232 := by rw [← data_len]; exact sized_string hsz (j := 0) (t := 9) rfl rfl
  obtain ⟨n1, rfl, rfl, rfl, wn1⟩ := open_int Tryd.underlying3 (hval 1 3 v1 rfl rfl) h1
  obtain ⟨n2, rfl, rfl, rfl, wn2⟩ := open_int Tryd.underlying3 (hval 2 3 v2 rfl rfl) h2
  refine (entryKeeps_walk s0 n1 n2 _ (tabs_of_laid hL)).mono fun e W' ⟨he, hb⟩ => ?_
  subst he
  exact ⟨_, rfl, law_post rfl rfl (by rw [Tryd.params6]; decide +kernel) ⟨rfl, rfl, rfl⟩ hW' hb⟩
theorem entryKeeps_row : Rows.EntryKeepsSaid :=
  OpenClaim.holds_of_wide 6 Tryd.f6 rfl rfl rfl rfl rfl rfl rfl ⟨rfl, rfl, rfl, rfl, rfl⟩ rfl rfl rfl rfl rfl (by kernel_rfl) Tryd.func6 (by kernel_rfl)
    (of_decide_eq_true (by kernel_rfl)) (by unfold Func.isWrapper; first | (rw [if_pos (by decide +kernel)]; kernel_rfl) | (rw [if_neg (by decide +kernel)]; exact ⟨rfl, rfl⟩))
    (fun os started H enc _ => entryKeeps_lifted os started H enc)
theorem entryKeeps_holds : Rows.EntryKeepsCardSaid :=
  Claim7.holds_tied_plain_at .later [] [.data, .pinned] true (true, _) false entryKeeps_row (fun _ h => by cases h) (by kernel_rfl) (fun _ h => by cases h) entryKeeps_row_tie rfl ⟨rfl, rfl⟩ (by kernel_rfl) rfl
    (fun f fn hf hfn => by
      obtain rfl : f = 6 := Option.some.inj ((show Tryd.prog.funcNamed "calamus/calamuslaw25.EntryKeeps" = some 6 by kernel_rfl).symm.trans hf) |>.symm
      obtain rfl : fn = Tryd.f6 := (Option.some.inj (Tryd.func6.symm.trans hfn)).symm
      exact ⟨by kernel_rfl, fun j t ht => by
        rw [Tryd.params6] at ht
        have hm := Array.mem_of_getElem? ht
        have hall : (#[9, 3, 3].toList.all fun u => !Tryd.prog.wantsStandIn u) = true := by kernel_rfl
        exact (show Tryd.prog.wantsStandIn t = false by simpa using List.all_eq_true.1 hall t (by simpa using hm))⟩)
    (by kernel_rfl)
end
end Go.Proofs.YtdclopfhffjkfaaDoor
