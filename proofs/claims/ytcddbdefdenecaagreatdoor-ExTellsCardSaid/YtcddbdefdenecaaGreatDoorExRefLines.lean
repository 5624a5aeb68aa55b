/-
  The document's Lines of package ex: which lines are meant.
-/
import Derived.Test.YtcddbdefdenecaaGreatDoorExBox
import Derived.Test.YtcddbdefdenecaaGreatDoorExRef2
import Derived.BigQuiet
namespace Go.Proofs.YtcddbdefdenecaaGreatDoor
open Go.RowKit Go.Shelf
open Ex (Ln)
set_option maxHeartbeats 4000000 in
set_option maxRecDepth 100000 in
theorem ref27_Lines_low (l : Ln) (here count : Int) (h : here < 0) (w : World) :
    Calls Tryz.prog 13 #[.agg #[.int .i64 l.frm, .int .i64 l.to, .string (bs l.name), .string (bs l.arg), .string (bs l.pat), .string (bs l.rep), .bool l.all], .int .i64 here, .int .i64 count] w fun e w' => e = .returned (.tuple #[.int .i64 0, .int .i64 0, .int .i64 1]) ∧ Below w.heap.size w w' := by
  have g0 : decide (here < 0) = true := decide_eq_true (by omega)
  have W0 := (Below.refl w.heap.size w).alloc (Nat.le_refl _) (.cells #[.int .i64 l.frm, .int .i64 l.to, .string (bs l.name), .string (bs l.arg), .string (bs l.pat), .string (bs l.rep), .bool l.all] 28)
  obtain ⟨c0, c1, c2, c3, c4, c5, c6⟩ := Ex.cells7 (Blk.new w 28 #[.int .i64 l.frm, .int .i64 l.to, .string (bs l.name), .string (bs l.arg), .string (bs l.pat), .string (bs l.rep), .bool l.all])
  clear c2 c3 c4 c5 c6
  go_enter Tryz.func13, Tryz.ntmps13
  go_wp2
  go_ret3
  exact ⟨rfl, W0⟩
set_option maxHeartbeats 4000000 in
set_option maxRecDepth 100000 in
theorem ref27_Lines_high (l : Ln) (here count : Int) (h : ¬ here < 0) (h1 : count ≤ here) (w : World) :
    Calls Tryz.prog 13 #[.agg #[.int .i64 l.frm, .int .i64 l.to, .string (bs l.name), .string (bs l.arg), .string (bs l.pat), .string (bs l.rep), .bool l.all], .int .i64 here, .int .i64 count] w fun e w' => e = .returned (.tuple #[.int .i64 0, .int .i64 0, .int .i64 1]) ∧ Below w.heap.size w w' := by
  have g0 : decide (here < 0) = false := decide_eq_false (by omega)
  have g1 : decide (count ≤ here) = true := decide_eq_true (by omega)
  have W0 := (Below.refl w.heap.size w).alloc (Nat.le_refl _) (.cells #[.int .i64 l.frm, .int .i64 l.to, .string (bs l.name), .string (bs l.arg), .string (bs l.pat), .string (bs l.rep), .bool l.all] 28)
  obtain ⟨c0, c1, c2, c3, c4, c5, c6⟩ := Ex.cells7 (Blk.new w 28 #[.int .i64 l.frm, .int .i64 l.to, .string (bs l.name), .string (bs l.arg), .string (bs l.pat), .string (bs l.rep), .bool l.all])
  clear c2 c3 c4 c5 c6 h h1
  go_enter Tryz.func13, Tryz.ntmps13
  go_wp2
  go_ret3
  exact ⟨rfl, W0⟩
set_option maxHeartbeats 4000000 in
set_option maxRecDepth 100000 in
theorem ref27_Lines_none (l : Ln) (here count : Int) (h : ¬ here < 0) (h1 : ¬ count ≤ here) (h3 : l.frm = 0) (h4 : l.to ≠ 0) (w : World) :
    Calls Tryz.prog 13 #[.agg #[.int .i64 l.frm, .int .i64 l.to, .string (bs l.name), .string (bs l.arg), .string (bs l.pat), .string (bs l.rep), .bool l.all], .int .i64 here, .int .i64 count] w fun e w' => e = .returned (.tuple #[.int .i64 0, .int .i64 0, .int .i64 1]) ∧ Below w.heap.size w w' := by
  have g0 : decide (here < 0) = false := decide_eq_false (by omega)
  have g1 : decide (count ≤ here) = false := decide_eq_false (by omega)
  have f0 : (l.frm == 0) = true := by rw [beq_iff_eq]; exact h3
  have t0 : (l.to != 0) = true := by rw [bne_iff_ne]; exact h4
  have W0 := (Below.refl w.heap.size w).alloc (Nat.le_refl _) (.cells #[.int .i64 l.frm, .int .i64 l.to, .string (bs l.name), .string (bs l.arg), .string (bs l.pat), .string (bs l.rep), .bool l.all] 28)
  obtain ⟨c0, c1, c2, c3, c4, c5, c6⟩ := Ex.cells7 (Blk.new w 28 #[.int .i64 l.frm, .int .i64 l.to, .string (bs l.name), .string (bs l.arg), .string (bs l.pat), .string (bs l.rep), .bool l.all])
  clear c2 c3 c4 c5 c6 h h1 h3 h4
  go_enter Tryz.func13, Tryz.ntmps13
  go_wp2
  go_ret3
  exact ⟨rfl, W0⟩
theorem Ex.lineOf_other {n z here count : Int} (h1 : n ≠ -1) (h2 : n ≠ -2) (h0 : n ≠ 0) : Ex.lineOf n z here count = n - 1 := by
  unfold Ex.lineOf
  rw [if_neg h1, if_neg h2, if_neg h0]
set_option maxHeartbeats 4000000 in
set_option maxRecDepth 100000 in
theorem ref27_Lines_zero (l : Ln) (here count : Int) (h : ¬ here < 0) (h1 : ¬ count ≤ here) (hc : count ≤ 9223372036854775807) (h3 : l.frm = 0) (h4 : l.to = 0) {x y er : Int} (hx : Ex.lines l.frm l.to here count = (x, y, er)) (w : World) :
    Calls Tryz.prog 13 #[.agg #[.int .i64 l.frm, .int .i64 l.to, .string (bs l.name), .string (bs l.arg), .string (bs l.pat), .string (bs l.rep), .bool l.all], .int .i64 here, .int .i64 count] w fun e w' => e = .returned (.tuple #[.int .i64 x, .int .i64 y, .int .i64 er]) ∧ Below w.heap.size w w' := by
  have g0 : decide (here < 0) = false := decide_eq_false (by omega)
  have g1 : decide (count ≤ here) = false := decide_eq_false (by omega)
  have f0 : (l.frm == 0) = true := by rw [beq_iff_eq]; exact h3
  have t0 : (l.to != 0) = false := by simp [h4]
  have hz : ∀ w, (zeroValue 66).run Tryz.prog w = .ok (.agg #[.int .i64 0, .int .i64 0]) w := fun w => by kernel_rfl
  have NZ : Hid (¬ (l.frm = 0 ∧ l.to ≠ 0)) := Lib.hid (by simp [h3, h4])
  have W0 := (Below.refl w.heap.size w).alloc (Nat.le_refl _) (.cells #[.int .i64 l.frm, .int .i64 l.to, .string (bs l.name), .string (bs l.arg), .string (bs l.pat), .string (bs l.rep), .bool l.all] 28)
  obtain ⟨i0, i1, i2, i3, i4, i5, i6⟩ := Ex.cells7 (Blk.new w 28 #[.int .i64 l.frm, .int .i64 l.to, .string (bs l.name), .string (bs l.arg), .string (bs l.pat), .string (bs l.rep), .bool l.all])
  have HX := Lib.hid hx
  clear i2 i3 i4 i5 i6 hx h3 h4
  generalize l.frm = a at *
  generalize l.to = b at *
  have B1 := Blk.new (w.alloc (.cells #[.int .i64 a, .int .i64 b, .string (bs l.name), .string (bs l.arg), .string (bs l.pat), .string (bs l.rep), .bool l.all] 28)) 66 #[.int .i64 0, .int .i64 0]
  have W1 := W0.alloc W0.size (.cells #[.int .i64 0, .int .i64 0] 66)
  have B2 := Blk.new ((w.alloc (.cells #[.int .i64 a, .int .i64 b, .string (bs l.name), .string (bs l.arg), .string (bs l.pat), .string (bs l.rep), .bool l.all] 28)).alloc (.cells #[.int .i64 0, .int .i64 0] 66)) 3 #[.int .i64 a, .int .i64 b]
  have W2 := W1.alloc W1.size (.cells #[.int .i64 a, .int .i64 b] 3)
  have B3 := B1.alloc (.cells #[.int .i64 a, .int .i64 b] 3)
  rw [World.size_alloc] at B3 B2
  rw [World.size_alloc] at B2
  obtain ⟨n, hn⟩ : ∃ n, n = w.heap.size := ⟨_, rfl⟩
  have HN := Lib.hid hn
  rw [← hn] at B2 B3
  clear hn B1 W0 W1
  have HB := Lib.hid (show _ ∧ _ ∧ _ from ⟨B3, B2, W2⟩)
  clear B3 B2 W2
  go_enter Tryz.func13, Tryz.ntmps13
  go_wp2_with fail
  rw [← HN.out]
  go_loopw [35] (fun iv wr => ∃ (j : Nat) (c0 c1 : Int), iv = .int .i64 j ∧ j ≤ 2 ∧ Blk wr (n + 1) 66 #[.int .i64 c0, .int .i64 c1] ∧ Blk wr (n + 1 + 1) 3 #[.int .i64 a, .int .i64 b] ∧ Hid ((1 ≤ j → Ex.Adr a ∧ c0 = Ex.lineOf a here here count) ∧ (2 ≤ j → Ex.Adr b ∧ c1 = Ex.lineOf b (Ex.lineOf a here here count) here count)) ∧ Below w.heap.size w wr) (fun iv _ => 2 - (intOf iv).toNat)
  case atStart => exact ⟨0, 0, 0, rfl, by omega, HB.out.1, HB.out.2.1, ⟨fun h => absurd h (by omega), fun h => absurd h (by omega)⟩, HB.out.2.2⟩
  case round =>
    obtain ⟨j, c0, c1, rfl, hj, BX, BS, hR, hW⟩ := hrel
    have x0 : wr.cell? ⟨n + 1, 0, none⟩ = some (.int .i64 c0) := BX.cell 0
    have x1 : wr.cell? ⟨n + 1, 1, none⟩ = some (.int .i64 c1) := BX.cell 1
    have xf0 := BX.frozen 0
    have xf1 := BX.frozen 1
    have s0 : wr.cell? ⟨n + 1 + 1, 0, none⟩ = some (.int .i64 a) := BS.cell 0
    have s1 : wr.cell? ⟨n + 1 + 1, 1, none⟩ = some (.int .i64 b) := BS.cell 1
    clear HB
    obtain rfl | rfl | rfl : j = 0 ∨ j = 1 ∨ j = 2 := by omega
    · clear hj
      by_cases hb1 : a < -2
      · have k1 : decide (a < -2) = true := decide_eq_true hb1
        have HW : Hid ((x, y, er) = ((0, 0, 1) : Int × Int × Int)) := Lib.hid (by rw [← HX.out]; unfold Ex.lines; rw [if_pos (by omega)])
        clear HX NZ hR
        go_wp2
        go_ret3
        obtain ⟨rfl, h2⟩ := Prod.mk.inj HW.out
        obtain ⟨rfl, rfl⟩ := Prod.mk.inj h2
        exact ⟨rfl, hW⟩
      have k1 : decide (a < -2) = false := decide_eq_false hb1
      by_cases hb2 : 999999 < a
      · have k2 : decide (999999 < a) = true := decide_eq_true hb2
        have HW : Hid ((x, y, er) = ((0, 0, 1) : Int × Int × Int)) := Lib.hid (by rw [← HX.out]; unfold Ex.lines; rw [if_pos (by omega)])
        clear HX NZ hR
        go_wp2
        go_ret3
        obtain ⟨rfl, h2⟩ := Prod.mk.inj HW.out
        obtain ⟨rfl, rfl⟩ := Prod.mk.inj h2
        exact ⟨rfl, hW⟩
      have k2 : decide (999999 < a) = false := decide_eq_false hb2
      have hA : Ex.Adr a := by unfold Ex.Adr; omega
      by_cases m1 : a = -1
      · have e1 : (a == -1) = true := by rw [m1]; rfl
        have HV : Hid (Ex.Adr a ∧ here = Ex.lineOf a here here count) := Lib.hid ⟨hA, by rw [m1]; rfl⟩
        clear hb1 hb2 m1 hA
        have S1 : Blk (wr.setCell ⟨n + 1, 0, none⟩ (.int .i64 (here))) (n + 1) 66 #[.int .i64 (here), .int .i64 c1] := BX.set_ 0 (.int .i64 (here))
        have S2 := BS.far (p := ⟨n + 1, 0, none⟩) (Nat.ne_of_gt (Nat.lt_succ_self (n + 1))) (.int .i64 (here))
        have S3 := hW.setCell (p := ⟨n + 1, 0, none⟩) (by have hn := HN.out; show w.heap.size ≤ n + 1; omega) (.int .i64 (here))
        have E9 := Lib.hid (show _ ∧ _ ∧ _ from ⟨S1, S2, S3⟩)
        clear S1 S2 S3 BX BS hW HX NZ
        go_wp2
        go_roundw
        case rel => exact ⟨1, here, c1, by go_num, by omega, E9.out.1, E9.out.2.1, ⟨fun _ => HV.out, fun h => absurd h (by omega)⟩, E9.out.2.2⟩
        case measure => simp [intOf]
      have e1 : (a == -1) = false := by rw [beq_eq_false_iff_ne]; exact m1
      by_cases m2 : a = -2
      · have e2 : (a == -2) = true := by rw [m2]; rfl
        have wc : IntKind.i64.wrap (count - 1) = count - 1 := by rw [IntKind.wrap_i64]; omega
        have HV : Hid (Ex.Adr a ∧ count - 1 = Ex.lineOf a here here count) := Lib.hid ⟨hA, by rw [m2]; rfl⟩
        clear hb1 hb2 m1 m2 hA
        have S1 : Blk (wr.setCell ⟨n + 1, 0, none⟩ (.int .i64 (count - 1))) (n + 1) 66 #[.int .i64 (count - 1), .int .i64 c1] := BX.set_ 0 (.int .i64 (count - 1))
        have S2 := BS.far (p := ⟨n + 1, 0, none⟩) (Nat.ne_of_gt (Nat.lt_succ_self (n + 1))) (.int .i64 (count - 1))
        have S3 := hW.setCell (p := ⟨n + 1, 0, none⟩) (by have hn := HN.out; show w.heap.size ≤ n + 1; omega) (.int .i64 (count - 1))
        have E9 := Lib.hid (show _ ∧ _ ∧ _ from ⟨S1, S2, S3⟩)
        clear S1 S2 S3 BX BS hW HX NZ
        go_wp2
        go_roundw
        case rel => exact ⟨1, count - 1, c1, by go_num, by omega, E9.out.1, E9.out.2.1, ⟨fun _ => HV.out, fun h => absurd h (by omega)⟩, E9.out.2.2⟩
        case measure => simp [intOf]
      have e2 : (a == -2) = false := by rw [beq_eq_false_iff_ne]; exact m2
      have m0 : a = 0 := by rw [beq_iff_eq] at f0; exact f0
      have HV : Hid (Ex.Adr a ∧ here = Ex.lineOf a here here count) := Lib.hid ⟨hA, by rw [m0]; rfl⟩
      clear hb1 hb2 m1 m2 m0 hA
      have S1 : Blk (wr.setCell ⟨n + 1, 0, none⟩ (.int .i64 (here))) (n + 1) 66 #[.int .i64 (here), .int .i64 c1] := BX.set_ 0 (.int .i64 (here))
      have S2 := BS.far (p := ⟨n + 1, 0, none⟩) (Nat.ne_of_gt (Nat.lt_succ_self (n + 1))) (.int .i64 (here))
      have S3 := hW.setCell (p := ⟨n + 1, 0, none⟩) (by have hn := HN.out; show w.heap.size ≤ n + 1; omega) (.int .i64 (here))
      have E9 := Lib.hid (show _ ∧ _ ∧ _ from ⟨S1, S2, S3⟩)
      clear S1 S2 S3 BX BS hW HX NZ
      go_wp2
      go_roundw
      case rel => exact ⟨1, here, c1, by go_num, by omega, E9.out.1, E9.out.2.1, ⟨fun _ => HV.out, fun h => absurd h (by omega)⟩, E9.out.2.2⟩
      case measure => simp [intOf]
    · clear hj
      by_cases hb1 : b < -2
      · have k1 : decide (b < -2) = true := decide_eq_true hb1
        have HW : Hid ((x, y, er) = ((0, 0, 1) : Int × Int × Int)) := Lib.hid (by rw [← HX.out]; unfold Ex.lines; rw [if_pos (by omega)])
        clear HX NZ hR
        go_wp2
        go_ret3
        obtain ⟨rfl, h2⟩ := Prod.mk.inj HW.out
        obtain ⟨rfl, rfl⟩ := Prod.mk.inj h2
        exact ⟨rfl, hW⟩
      have k1 : decide (b < -2) = false := decide_eq_false hb1
      by_cases hb2 : 999999 < b
      · have k2 : decide (999999 < b) = true := decide_eq_true hb2
        have HW : Hid ((x, y, er) = ((0, 0, 1) : Int × Int × Int)) := Lib.hid (by rw [← HX.out]; unfold Ex.lines; rw [if_pos (by omega)])
        clear HX NZ hR
        go_wp2
        go_ret3
        obtain ⟨rfl, h2⟩ := Prod.mk.inj HW.out
        obtain ⟨rfl, rfl⟩ := Prod.mk.inj h2
        exact ⟨rfl, hW⟩
      have k2 : decide (999999 < b) = false := decide_eq_false hb2
      have hA : Ex.Adr b := by unfold Ex.Adr; omega
      by_cases m1 : b = -1
      · have e1 : (b == -1) = true := by rw [m1]; rfl
        have HV : Hid (Ex.Adr b ∧ here = Ex.lineOf b (Ex.lineOf a here here count) here count) := Lib.hid ⟨hA, by rw [m1]; rfl⟩
        clear hb1 hb2 m1 hA
        have S1 : Blk (wr.setCell ⟨n + 1, 1, none⟩ (.int .i64 (here))) (n + 1) 66 #[.int .i64 c0, .int .i64 (here)] := BX.set_ 1 (.int .i64 (here))
        have S2 := BS.far (p := ⟨n + 1, 1, none⟩) (Nat.ne_of_gt (Nat.lt_succ_self (n + 1))) (.int .i64 (here))
        have S3 := hW.setCell (p := ⟨n + 1, 1, none⟩) (by have hn := HN.out; show w.heap.size ≤ n + 1; omega) (.int .i64 (here))
        have E9 := Lib.hid (show _ ∧ _ ∧ _ from ⟨S1, S2, S3⟩)
        clear S1 S2 S3 BX BS hW HX NZ
        go_wp2
        go_roundw
        case rel => exact ⟨2, c0, here, by go_num, by omega, E9.out.1, E9.out.2.1, ⟨fun _ => hR.out.1 (by omega), fun _ => HV.out⟩, E9.out.2.2⟩
        case measure => simp [intOf]
      have e1 : (b == -1) = false := by rw [beq_eq_false_iff_ne]; exact m1
      by_cases m2 : b = -2
      · have e2 : (b == -2) = true := by rw [m2]; rfl
        have wc : IntKind.i64.wrap (count - 1) = count - 1 := by rw [IntKind.wrap_i64]; omega
        have HV : Hid (Ex.Adr b ∧ count - 1 = Ex.lineOf b (Ex.lineOf a here here count) here count) := Lib.hid ⟨hA, by rw [m2]; rfl⟩
        clear hb1 hb2 m1 m2 hA
        have S1 : Blk (wr.setCell ⟨n + 1, 1, none⟩ (.int .i64 (count - 1))) (n + 1) 66 #[.int .i64 c0, .int .i64 (count - 1)] := BX.set_ 1 (.int .i64 (count - 1))
        have S2 := BS.far (p := ⟨n + 1, 1, none⟩) (Nat.ne_of_gt (Nat.lt_succ_self (n + 1))) (.int .i64 (count - 1))
        have S3 := hW.setCell (p := ⟨n + 1, 1, none⟩) (by have hn := HN.out; show w.heap.size ≤ n + 1; omega) (.int .i64 (count - 1))
        have E9 := Lib.hid (show _ ∧ _ ∧ _ from ⟨S1, S2, S3⟩)
        clear S1 S2 S3 BX BS hW HX NZ
        go_wp2
        go_roundw
        case rel => exact ⟨2, c0, count - 1, by go_num, by omega, E9.out.1, E9.out.2.1, ⟨fun _ => hR.out.1 (by omega), fun _ => HV.out⟩, E9.out.2.2⟩
        case measure => simp [intOf]
      have e2 : (b == -2) = false := by rw [beq_eq_false_iff_ne]; exact m2
      by_cases m0 : b = 0
      · have e0 : (b == 0) = true := by rw [m0]; rfl
        have HV : Hid (Ex.Adr b ∧ c0 = Ex.lineOf b (Ex.lineOf a here here count) here count) := Lib.hid ⟨hA, by rw [m0]; exact (hR.out.1 (by omega)).2⟩
        clear hb1 hb2 m1 m2 m0 hA
        have P1 : Blk (wr.setCell ⟨n + 1, 1, none⟩ (.int .i64 here)) (n + 1) 66 #[.int .i64 c0, .int .i64 here] := BX.set_ 1 (.int .i64 here)
        have P2 := BS.far (p := ⟨n + 1, 1, none⟩) (Nat.ne_of_gt (Nat.lt_succ_self (n + 1))) (.int .i64 here)
        have P3 := hW.setCell (p := ⟨n + 1, 1, none⟩) (by have hn := HN.out; show w.heap.size ≤ n + 1; omega) (.int .i64 here)
        generalize hv1 : wr.setCell ⟨n + 1, 1, none⟩ (.int .i64 here) = z1 at *
        have S1 : Blk (z1.setCell ⟨n + 1, 1, none⟩ (.int .i64 c0)) (n + 1) 66 #[.int .i64 c0, .int .i64 c0] := P1.set_ 1 (.int .i64 c0)
        have S2 := P2.far (p := ⟨n + 1, 1, none⟩) (Nat.ne_of_gt (Nat.lt_succ_self (n + 1))) (.int .i64 c0)
        have S3 := P3.setCell (p := ⟨n + 1, 1, none⟩) (by have hn := HN.out; show w.heap.size ≤ n + 1; omega) (.int .i64 c0)
        have y0 : z1.cell? ⟨n + 1, 0, none⟩ = some (.int .i64 c0) := P1.cell 0
        have y1 : z1.cell? ⟨n + 1, 1, none⟩ = some (.int .i64 here) := P1.cell 1
        have y2 := P1.frozen 1
        have E9 := Lib.hid (show _ ∧ _ ∧ _ from ⟨S1, S2, S3⟩)
        clear S1 S2 S3 BX BS hW HX NZ P1 P2 P3
        go_wp2
        go_roundw
        case rel => exact ⟨2, c0, c0, by go_num, by omega, E9.out.1, E9.out.2.1, ⟨fun _ => hR.out.1 (by omega), fun _ => HV.out⟩, E9.out.2.2⟩
        case measure => simp [intOf]
      have e0 : (b == 0) = false := by rw [beq_eq_false_iff_ne]; exact m0
      have wc : IntKind.i64.wrap (b - 1) = b - 1 := by rw [IntKind.wrap_i64]; omega
      have HV : Hid (Ex.Adr b ∧ b - 1 = Ex.lineOf b (Ex.lineOf a here here count) here count) := Lib.hid ⟨hA, by exact (Ex.lineOf_other m1 m2 m0).symm⟩
      clear hb1 hb2 m1 m2 m0 hA
      have S1 : Blk (wr.setCell ⟨n + 1, 1, none⟩ (.int .i64 (b - 1))) (n + 1) 66 #[.int .i64 c0, .int .i64 (b - 1)] := BX.set_ 1 (.int .i64 (b - 1))
      have S2 := BS.far (p := ⟨n + 1, 1, none⟩) (Nat.ne_of_gt (Nat.lt_succ_self (n + 1))) (.int .i64 (b - 1))
      have S3 := hW.setCell (p := ⟨n + 1, 1, none⟩) (by have hn := HN.out; show w.heap.size ≤ n + 1; omega) (.int .i64 (b - 1))
      have E9 := Lib.hid (show _ ∧ _ ∧ _ from ⟨S1, S2, S3⟩)
      clear S1 S2 S3 BX BS hW HX NZ
      go_wp2
      go_roundw
      case rel => exact ⟨2, c0, b - 1, by go_num, by omega, E9.out.1, E9.out.2.1, ⟨fun _ => hR.out.1 (by omega), fun _ => HV.out⟩, E9.out.2.2⟩
      case measure => simp [intOf]
    · obtain ⟨hA, e0⟩ := hR.out.1 (by omega)
      obtain ⟨hB, e1⟩ := hR.out.2 (by omega)
      have HL : Hid ((x, y, er) = if count ≤ c0 ∨ count ≤ c1 ∨ c1 < c0 then ((0, 0, 6) : Int × Int × Int) else (c0, c1, 0)) := Lib.hid (by
        rw [← HX.out]
        unfold Ex.lines
        unfold Ex.Adr at hA hB
        have nz := NZ.out
        rw [if_neg (by omega), ← e1, ← e0])
      clear e0 e1 hA hB hR HX NZ hj
      by_cases q1 : count ≤ c0
      · have k1 : decide (count ≤ c0) = true := decide_eq_true q1
        have HW : Hid ((x, y, er) = ((0, 0, 6) : Int × Int × Int)) := Lib.hid (by rw [HL.out, if_pos (.inl q1)])
        clear HL q1
        go_wp2
        go_ret3
        obtain ⟨rfl, h2⟩ := Prod.mk.inj HW.out
        obtain ⟨rfl, rfl⟩ := Prod.mk.inj h2
        exact ⟨rfl, hW⟩
      have k1 : decide (count ≤ c0) = false := decide_eq_false q1
      by_cases q2 : count ≤ c1
      · have k2 : decide (count ≤ c1) = true := decide_eq_true q2
        have HW : Hid ((x, y, er) = ((0, 0, 6) : Int × Int × Int)) := Lib.hid (by rw [HL.out, if_pos (.inr (.inl q2))])
        clear HL q1 q2
        go_wp2
        go_ret3
        obtain ⟨rfl, h2⟩ := Prod.mk.inj HW.out
        obtain ⟨rfl, rfl⟩ := Prod.mk.inj h2
        exact ⟨rfl, hW⟩
      have k2 : decide (count ≤ c1) = false := decide_eq_false q2
      by_cases q3 : c1 < c0
      · have k3 : decide (c1 < c0) = true := decide_eq_true q3
        have HW : Hid ((x, y, er) = ((0, 0, 6) : Int × Int × Int)) := Lib.hid (by rw [HL.out, if_pos (.inr (.inr q3))])
        clear HL q1 q2 q3
        go_wp2
        go_ret3
        obtain ⟨rfl, h2⟩ := Prod.mk.inj HW.out
        obtain ⟨rfl, rfl⟩ := Prod.mk.inj h2
        exact ⟨rfl, hW⟩
      have k3 : decide (c1 < c0) = false := decide_eq_false q3
      have HW : Hid ((x, y, er) = (c0, c1, (0 : Int))) := Lib.hid (by rw [HL.out, if_neg (by omega)])
      clear HL q1 q2 q3
      go_wp2
      go_region
      all_goals go_wp2
      all_goals go_ret3
      all_goals (obtain ⟨rfl, h2⟩ := Prod.mk.inj HW.out; obtain ⟨rfl, rfl⟩ := Prod.mk.inj h2; exact ⟨rfl, by first | exact hW.trans ((below_gb (gb_drew _ none)).mono hW.size) | exact hW⟩)
set_option maxHeartbeats 4000000 in
set_option maxRecDepth 100000 in
theorem ref27_Lines_some (l : Ln) (here count : Int) (h : ¬ here < 0) (h1 : ¬ count ≤ here) (hc : count ≤ 9223372036854775807) (h3 : l.frm ≠ 0) {x y er : Int} (hx : Ex.lines l.frm l.to here count = (x, y, er)) (w : World) :
    Calls Tryz.prog 13 #[.agg #[.int .i64 l.frm, .int .i64 l.to, .string (bs l.name), .string (bs l.arg), .string (bs l.pat), .string (bs l.rep), .bool l.all], .int .i64 here, .int .i64 count] w fun e w' => e = .returned (.tuple #[.int .i64 x, .int .i64 y, .int .i64 er]) ∧ Below w.heap.size w w' := by
  have g0 : decide (here < 0) = false := decide_eq_false (by omega)
  have g1 : decide (count ≤ here) = false := decide_eq_false (by omega)
  have f0 : (l.frm == 0) = false := by rw [beq_eq_false_iff_ne]; exact h3
  have hz : ∀ w, (zeroValue 66).run Tryz.prog w = .ok (.agg #[.int .i64 0, .int .i64 0]) w := fun w => by kernel_rfl
  have NZ : Hid (¬ (l.frm = 0 ∧ l.to ≠ 0)) := Lib.hid (by simp [h3])
  have W0 := (Below.refl w.heap.size w).alloc (Nat.le_refl _) (.cells #[.int .i64 l.frm, .int .i64 l.to, .string (bs l.name), .string (bs l.arg), .string (bs l.pat), .string (bs l.rep), .bool l.all] 28)
  obtain ⟨i0, i1, i2, i3, i4, i5, i6⟩ := Ex.cells7 (Blk.new w 28 #[.int .i64 l.frm, .int .i64 l.to, .string (bs l.name), .string (bs l.arg), .string (bs l.pat), .string (bs l.rep), .bool l.all])
  have HX := Lib.hid hx
  clear i2 i3 i4 i5 i6 hx h3
  generalize l.frm = a at *
  generalize l.to = b at *
  have B1 := Blk.new (w.alloc (.cells #[.int .i64 a, .int .i64 b, .string (bs l.name), .string (bs l.arg), .string (bs l.pat), .string (bs l.rep), .bool l.all] 28)) 66 #[.int .i64 0, .int .i64 0]
  have W1 := W0.alloc W0.size (.cells #[.int .i64 0, .int .i64 0] 66)
  have B2 := Blk.new ((w.alloc (.cells #[.int .i64 a, .int .i64 b, .string (bs l.name), .string (bs l.arg), .string (bs l.pat), .string (bs l.rep), .bool l.all] 28)).alloc (.cells #[.int .i64 0, .int .i64 0] 66)) 3 #[.int .i64 a, .int .i64 b]
  have W2 := W1.alloc W1.size (.cells #[.int .i64 a, .int .i64 b] 3)
  have B3 := B1.alloc (.cells #[.int .i64 a, .int .i64 b] 3)
  rw [World.size_alloc] at B3 B2
  rw [World.size_alloc] at B2
  obtain ⟨n, hn⟩ : ∃ n, n = w.heap.size := ⟨_, rfl⟩
  have HN := Lib.hid hn
  rw [← hn] at B2 B3
  clear hn B1 W0 W1
  have HB := Lib.hid (show _ ∧ _ ∧ _ from ⟨B3, B2, W2⟩)
  clear B3 B2 W2
  go_enter Tryz.func13, Tryz.ntmps13
  go_wp2_with fail
  rw [← HN.out]
  go_loopw [35] (fun iv wr => ∃ (j : Nat) (c0 c1 : Int), iv = .int .i64 j ∧ j ≤ 2 ∧ Blk wr (n + 1) 66 #[.int .i64 c0, .int .i64 c1] ∧ Blk wr (n + 1 + 1) 3 #[.int .i64 a, .int .i64 b] ∧ Hid ((1 ≤ j → Ex.Adr a ∧ c0 = Ex.lineOf a here here count) ∧ (2 ≤ j → Ex.Adr b ∧ c1 = Ex.lineOf b (Ex.lineOf a here here count) here count)) ∧ Below w.heap.size w wr) (fun iv _ => 2 - (intOf iv).toNat)
  case atStart => exact ⟨0, 0, 0, rfl, by omega, HB.out.1, HB.out.2.1, ⟨fun h => absurd h (by omega), fun h => absurd h (by omega)⟩, HB.out.2.2⟩
  case round =>
    obtain ⟨j, c0, c1, rfl, hj, BX, BS, hR, hW⟩ := hrel
    have x0 : wr.cell? ⟨n + 1, 0, none⟩ = some (.int .i64 c0) := BX.cell 0
    have x1 : wr.cell? ⟨n + 1, 1, none⟩ = some (.int .i64 c1) := BX.cell 1
    have xf0 := BX.frozen 0
    have xf1 := BX.frozen 1
    have s0 : wr.cell? ⟨n + 1 + 1, 0, none⟩ = some (.int .i64 a) := BS.cell 0
    have s1 : wr.cell? ⟨n + 1 + 1, 1, none⟩ = some (.int .i64 b) := BS.cell 1
    clear HB
    obtain rfl | rfl | rfl : j = 0 ∨ j = 1 ∨ j = 2 := by omega
    · clear hj
      by_cases hb1 : a < -2
      · have k1 : decide (a < -2) = true := decide_eq_true hb1
        have HW : Hid ((x, y, er) = ((0, 0, 1) : Int × Int × Int)) := Lib.hid (by rw [← HX.out]; unfold Ex.lines; rw [if_pos (by omega)])
        clear HX NZ hR
        go_wp2
        go_ret3
        obtain ⟨rfl, h2⟩ := Prod.mk.inj HW.out
        obtain ⟨rfl, rfl⟩ := Prod.mk.inj h2
        exact ⟨rfl, hW⟩
      have k1 : decide (a < -2) = false := decide_eq_false hb1
      by_cases hb2 : 999999 < a
      · have k2 : decide (999999 < a) = true := decide_eq_true hb2
        have HW : Hid ((x, y, er) = ((0, 0, 1) : Int × Int × Int)) := Lib.hid (by rw [← HX.out]; unfold Ex.lines; rw [if_pos (by omega)])
        clear HX NZ hR
        go_wp2
        go_ret3
        obtain ⟨rfl, h2⟩ := Prod.mk.inj HW.out
        obtain ⟨rfl, rfl⟩ := Prod.mk.inj h2
        exact ⟨rfl, hW⟩
      have k2 : decide (999999 < a) = false := decide_eq_false hb2
      have hA : Ex.Adr a := by unfold Ex.Adr; omega
      by_cases m1 : a = -1
      · have e1 : (a == -1) = true := by rw [m1]; rfl
        have HV : Hid (Ex.Adr a ∧ here = Ex.lineOf a here here count) := Lib.hid ⟨hA, by rw [m1]; rfl⟩
        clear hb1 hb2 m1 hA
        have S1 : Blk (wr.setCell ⟨n + 1, 0, none⟩ (.int .i64 (here))) (n + 1) 66 #[.int .i64 (here), .int .i64 c1] := BX.set_ 0 (.int .i64 (here))
        have S2 := BS.far (p := ⟨n + 1, 0, none⟩) (Nat.ne_of_gt (Nat.lt_succ_self (n + 1))) (.int .i64 (here))
        have S3 := hW.setCell (p := ⟨n + 1, 0, none⟩) (by have hn := HN.out; show w.heap.size ≤ n + 1; omega) (.int .i64 (here))
        have E9 := Lib.hid (show _ ∧ _ ∧ _ from ⟨S1, S2, S3⟩)
        clear S1 S2 S3 BX BS hW HX NZ
        go_wp2
        go_roundw
        case rel => exact ⟨1, here, c1, by go_num, by omega, E9.out.1, E9.out.2.1, ⟨fun _ => HV.out, fun h => absurd h (by omega)⟩, E9.out.2.2⟩
        case measure => simp [intOf]
      have e1 : (a == -1) = false := by rw [beq_eq_false_iff_ne]; exact m1
      by_cases m2 : a = -2
      · have e2 : (a == -2) = true := by rw [m2]; rfl
        have wc : IntKind.i64.wrap (count - 1) = count - 1 := by rw [IntKind.wrap_i64]; omega
        have HV : Hid (Ex.Adr a ∧ count - 1 = Ex.lineOf a here here count) := Lib.hid ⟨hA, by rw [m2]; rfl⟩
        clear hb1 hb2 m1 m2 hA
        have S1 : Blk (wr.setCell ⟨n + 1, 0, none⟩ (.int .i64 (count - 1))) (n + 1) 66 #[.int .i64 (count - 1), .int .i64 c1] := BX.set_ 0 (.int .i64 (count - 1))
        have S2 := BS.far (p := ⟨n + 1, 0, none⟩) (Nat.ne_of_gt (Nat.lt_succ_self (n + 1))) (.int .i64 (count - 1))
        have S3 := hW.setCell (p := ⟨n + 1, 0, none⟩) (by have hn := HN.out; show w.heap.size ≤ n + 1; omega) (.int .i64 (count - 1))
        have E9 := Lib.hid (show _ ∧ _ ∧ _ from ⟨S1, S2, S3⟩)
        clear S1 S2 S3 BX BS hW HX NZ
        go_wp2
        go_roundw
        case rel => exact ⟨1, count - 1, c1, by go_num, by omega, E9.out.1, E9.out.2.1, ⟨fun _ => HV.out, fun h => absurd h (by omega)⟩, E9.out.2.2⟩
        case measure => simp [intOf]
      have e2 : (a == -2) = false := by rw [beq_eq_false_iff_ne]; exact m2
      have m0 : a ≠ 0 := by rw [beq_eq_false_iff_ne] at f0; exact f0
      have wc : IntKind.i64.wrap (a - 1) = a - 1 := by rw [IntKind.wrap_i64]; omega
      have HV : Hid (Ex.Adr a ∧ a - 1 = Ex.lineOf a here here count) := Lib.hid ⟨hA, by exact (Ex.lineOf_other m1 m2 m0).symm⟩
      clear hb1 hb2 m1 m2 m0 hA
      have S1 : Blk (wr.setCell ⟨n + 1, 0, none⟩ (.int .i64 (a - 1))) (n + 1) 66 #[.int .i64 (a - 1), .int .i64 c1] := BX.set_ 0 (.int .i64 (a - 1))
      have S2 := BS.far (p := ⟨n + 1, 0, none⟩) (Nat.ne_of_gt (Nat.lt_succ_self (n + 1))) (.int .i64 (a - 1))
      have S3 := hW.setCell (p := ⟨n + 1, 0, none⟩) (by have hn := HN.out; show w.heap.size ≤ n + 1; omega) (.int .i64 (a - 1))
      have E9 := Lib.hid (show _ ∧ _ ∧ _ from ⟨S1, S2, S3⟩)
      clear S1 S2 S3 BX BS hW HX NZ
      go_wp2
      go_roundw
      case rel => exact ⟨1, a - 1, c1, by go_num, by omega, E9.out.1, E9.out.2.1, ⟨fun _ => HV.out, fun h => absurd h (by omega)⟩, E9.out.2.2⟩
      case measure => simp [intOf]
    · clear hj
      by_cases hb1 : b < -2
      · have k1 : decide (b < -2) = true := decide_eq_true hb1
        have HW : Hid ((x, y, er) = ((0, 0, 1) : Int × Int × Int)) := Lib.hid (by rw [← HX.out]; unfold Ex.lines; rw [if_pos (by omega)])
        clear HX NZ hR
        go_wp2
        go_ret3
        obtain ⟨rfl, h2⟩ := Prod.mk.inj HW.out
        obtain ⟨rfl, rfl⟩ := Prod.mk.inj h2
        exact ⟨rfl, hW⟩
      have k1 : decide (b < -2) = false := decide_eq_false hb1
      by_cases hb2 : 999999 < b
      · have k2 : decide (999999 < b) = true := decide_eq_true hb2
        have HW : Hid ((x, y, er) = ((0, 0, 1) : Int × Int × Int)) := Lib.hid (by rw [← HX.out]; unfold Ex.lines; rw [if_pos (by omega)])
        clear HX NZ hR
        go_wp2
        go_ret3
        obtain ⟨rfl, h2⟩ := Prod.mk.inj HW.out
        obtain ⟨rfl, rfl⟩ := Prod.mk.inj h2
        exact ⟨rfl, hW⟩
      have k2 : decide (999999 < b) = false := decide_eq_false hb2
      have hA : Ex.Adr b := by unfold Ex.Adr; omega
      by_cases m1 : b = -1
      · have e1 : (b == -1) = true := by rw [m1]; rfl
        have HV : Hid (Ex.Adr b ∧ here = Ex.lineOf b (Ex.lineOf a here here count) here count) := Lib.hid ⟨hA, by rw [m1]; rfl⟩
        clear hb1 hb2 m1 hA
        have S1 : Blk (wr.setCell ⟨n + 1, 1, none⟩ (.int .i64 (here))) (n + 1) 66 #[.int .i64 c0, .int .i64 (here)] := BX.set_ 1 (.int .i64 (here))
        have S2 := BS.far (p := ⟨n + 1, 1, none⟩) (Nat.ne_of_gt (Nat.lt_succ_self (n + 1))) (.int .i64 (here))
        have S3 := hW.setCell (p := ⟨n + 1, 1, none⟩) (by have hn := HN.out; show w.heap.size ≤ n + 1; omega) (.int .i64 (here))
        have E9 := Lib.hid (show _ ∧ _ ∧ _ from ⟨S1, S2, S3⟩)
        clear S1 S2 S3 BX BS hW HX NZ
        go_wp2
        go_roundw
        case rel => exact ⟨2, c0, here, by go_num, by omega, E9.out.1, E9.out.2.1, ⟨fun _ => hR.out.1 (by omega), fun _ => HV.out⟩, E9.out.2.2⟩
        case measure => simp [intOf]
      have e1 : (b == -1) = false := by rw [beq_eq_false_iff_ne]; exact m1
      by_cases m2 : b = -2
      · have e2 : (b == -2) = true := by rw [m2]; rfl
        have wc : IntKind.i64.wrap (count - 1) = count - 1 := by rw [IntKind.wrap_i64]; omega
        have HV : Hid (Ex.Adr b ∧ count - 1 = Ex.lineOf b (Ex.lineOf a here here count) here count) := Lib.hid ⟨hA, by rw [m2]; rfl⟩
        clear hb1 hb2 m1 m2 hA
        have S1 : Blk (wr.setCell ⟨n + 1, 1, none⟩ (.int .i64 (count - 1))) (n + 1) 66 #[.int .i64 c0, .int .i64 (count - 1)] := BX.set_ 1 (.int .i64 (count - 1))
        have S2 := BS.far (p := ⟨n + 1, 1, none⟩) (Nat.ne_of_gt (Nat.lt_succ_self (n + 1))) (.int .i64 (count - 1))
        have S3 := hW.setCell (p := ⟨n + 1, 1, none⟩) (by have hn := HN.out; show w.heap.size ≤ n + 1; omega) (.int .i64 (count - 1))
        have E9 := Lib.hid (show _ ∧ _ ∧ _ from ⟨S1, S2, S3⟩)
        clear S1 S2 S3 BX BS hW HX NZ
        go_wp2
        go_roundw
        case rel => exact ⟨2, c0, count - 1, by go_num, by omega, E9.out.1, E9.out.2.1, ⟨fun _ => hR.out.1 (by omega), fun _ => HV.out⟩, E9.out.2.2⟩
        case measure => simp [intOf]
      have e2 : (b == -2) = false := by rw [beq_eq_false_iff_ne]; exact m2
      by_cases m0 : b = 0
      · have e0 : (b == 0) = true := by rw [m0]; rfl
        have HV : Hid (Ex.Adr b ∧ c0 = Ex.lineOf b (Ex.lineOf a here here count) here count) := Lib.hid ⟨hA, by rw [m0]; exact (hR.out.1 (by omega)).2⟩
        clear hb1 hb2 m1 m2 m0 hA
        have P1 : Blk (wr.setCell ⟨n + 1, 1, none⟩ (.int .i64 here)) (n + 1) 66 #[.int .i64 c0, .int .i64 here] := BX.set_ 1 (.int .i64 here)
        have P2 := BS.far (p := ⟨n + 1, 1, none⟩) (Nat.ne_of_gt (Nat.lt_succ_self (n + 1))) (.int .i64 here)
        have P3 := hW.setCell (p := ⟨n + 1, 1, none⟩) (by have hn := HN.out; show w.heap.size ≤ n + 1; omega) (.int .i64 here)
        generalize hv1 : wr.setCell ⟨n + 1, 1, none⟩ (.int .i64 here) = z1 at *
        have S1 : Blk (z1.setCell ⟨n + 1, 1, none⟩ (.int .i64 c0)) (n + 1) 66 #[.int .i64 c0, .int .i64 c0] := P1.set_ 1 (.int .i64 c0)
        have S2 := P2.far (p := ⟨n + 1, 1, none⟩) (Nat.ne_of_gt (Nat.lt_succ_self (n + 1))) (.int .i64 c0)
        have S3 := P3.setCell (p := ⟨n + 1, 1, none⟩) (by have hn := HN.out; show w.heap.size ≤ n + 1; omega) (.int .i64 c0)
        have y0 : z1.cell? ⟨n + 1, 0, none⟩ = some (.int .i64 c0) := P1.cell 0
        have y1 : z1.cell? ⟨n + 1, 1, none⟩ = some (.int .i64 here) := P1.cell 1
        have y2 := P1.frozen 1
        have E9 := Lib.hid (show _ ∧ _ ∧ _ from ⟨S1, S2, S3⟩)
        clear S1 S2 S3 BX BS hW HX NZ P1 P2 P3
        go_wp2
        go_roundw
        case rel => exact ⟨2, c0, c0, by go_num, by omega, E9.out.1, E9.out.2.1, ⟨fun _ => hR.out.1 (by omega), fun _ => HV.out⟩, E9.out.2.2⟩
        case measure => simp [intOf]
      have e0 : (b == 0) = false := by rw [beq_eq_false_iff_ne]; exact m0
      have wc : IntKind.i64.wrap (b - 1) = b - 1 := by rw [IntKind.wrap_i64]; omega
      have HV : Hid (Ex.Adr b ∧ b - 1 = Ex.lineOf b (Ex.lineOf a here here count) here count) := Lib.hid ⟨hA, by exact (Ex.lineOf_other m1 m2 m0).symm⟩
      clear hb1 hb2 m1 m2 m0 hA
      have S1 : Blk (wr.setCell ⟨n + 1, 1, none⟩ (.int .i64 (b - 1))) (n + 1) 66 #[.int .i64 c0, .int .i64 (b - 1)] := BX.set_ 1 (.int .i64 (b - 1))
      have S2 := BS.far (p := ⟨n + 1, 1, none⟩) (Nat.ne_of_gt (Nat.lt_succ_self (n + 1))) (.int .i64 (b - 1))
      have S3 := hW.setCell (p := ⟨n + 1, 1, none⟩) (by have hn := HN.out; show w.heap.size ≤ n + 1; omega) (.int .i64 (b - 1))
      have E9 := Lib.hid (show _ ∧ _ ∧ _ from ⟨S1, S2, S3⟩)
      clear S1 S2 S3 BX BS hW HX NZ
      go_wp2
      go_roundw
      case rel => exact ⟨2, c0, b - 1, by go_num, by omega, E9.out.1, E9.out.2.1, ⟨fun _ => hR.out.1 (by omega), fun _ => HV.out⟩, E9.out.2.2⟩
      case measure => simp [intOf]
    · obtain ⟨hA, e0⟩ := hR.out.1 (by omega)
      obtain ⟨hB, e1⟩ := hR.out.2 (by omega)
      have HL : Hid ((x, y, er) = if count ≤ c0 ∨ count ≤ c1 ∨ c1 < c0 then ((0, 0, 6) : Int × Int × Int) else (c0, c1, 0)) := Lib.hid (by
        rw [← HX.out]
        unfold Ex.lines
        unfold Ex.Adr at hA hB
        have nz := NZ.out
        rw [if_neg (by omega), ← e1, ← e0])
      clear e0 e1 hA hB hR HX NZ hj
      by_cases q1 : count ≤ c0
      · have k1 : decide (count ≤ c0) = true := decide_eq_true q1
        have HW : Hid ((x, y, er) = ((0, 0, 6) : Int × Int × Int)) := Lib.hid (by rw [HL.out, if_pos (.inl q1)])
        clear HL q1
        go_wp2
        go_ret3
        obtain ⟨rfl, h2⟩ := Prod.mk.inj HW.out
        obtain ⟨rfl, rfl⟩ := Prod.mk.inj h2
        exact ⟨rfl, hW⟩
      have k1 : decide (count ≤ c0) = false := decide_eq_false q1
      by_cases q2 : count ≤ c1
      · have k2 : decide (count ≤ c1) = true := decide_eq_true q2
        have HW : Hid ((x, y, er) = ((0, 0, 6) : Int × Int × Int)) := Lib.hid (by rw [HL.out, if_pos (.inr (.inl q2))])
        clear HL q1 q2
        go_wp2
        go_ret3
        obtain ⟨rfl, h2⟩ := Prod.mk.inj HW.out
        obtain ⟨rfl, rfl⟩ := Prod.mk.inj h2
        exact ⟨rfl, hW⟩
      have k2 : decide (count ≤ c1) = false := decide_eq_false q2
      by_cases q3 : c1 < c0
      · have k3 : decide (c1 < c0) = true := decide_eq_true q3
        have HW : Hid ((x, y, er) = ((0, 0, 6) : Int × Int × Int)) := Lib.hid (by rw [HL.out, if_pos (.inr (.inr q3))])
        clear HL q1 q2 q3
        go_wp2
        go_ret3
        obtain ⟨rfl, h2⟩ := Prod.mk.inj HW.out
        obtain ⟨rfl, rfl⟩ := Prod.mk.inj h2
        exact ⟨rfl, hW⟩
      have k3 : decide (c1 < c0) = false := decide_eq_false q3
      have HW : Hid ((x, y, er) = (c0, c1, (0 : Int))) := Lib.hid (by rw [HL.out, if_neg (by omega)])
      clear HL q1 q2 q3
      go_wp2
      go_region
      all_goals go_wp2
      all_goals go_ret3
      all_goals (obtain ⟨rfl, h2⟩ := Prod.mk.inj HW.out; obtain ⟨rfl, rfl⟩ := Prod.mk.inj h2; exact ⟨rfl, by first | exact hW.trans ((below_gb (gb_drew _ none)).mono hW.size) | exact hW⟩)
/-- Which lines are meant, as the document tells them. -/
theorem ref27_Lines (l : Ln) (here count : Int) (hc : count ≤ 9223372036854775807) {x y er : Int} (hx : Ex.lines l.frm l.to here count = (x, y, er)) (w : World) :
    Calls Tryz.prog 13 #[.agg #[.int .i64 l.frm, .int .i64 l.to, .string (bs l.name), .string (bs l.arg), .string (bs l.pat), .string (bs l.rep), .bool l.all], .int .i64 here, .int .i64 count] w fun e w' => e = .returned (.tuple #[.int .i64 x, .int .i64 y, .int .i64 er]) ∧ Below w.heap.size w w' := by
  by_cases h : here < 0
  · have hx' := hx
    unfold Ex.lines at hx'
    rw [if_pos (.inl h)] at hx'; injection hx' with e1 hx'; injection hx' with e2 e3; subst e1 e2 e3; exact ref27_Lines_low l here count h w
  by_cases h1 : count ≤ here
  · have hx' := hx
    unfold Ex.lines at hx'
    rw [if_pos (.inr (.inl h1))] at hx'; injection hx' with e1 hx'; injection hx' with e2 e3; subst e1 e2 e3; exact ref27_Lines_high l here count h h1 w
  by_cases h3 : l.frm = 0
  · by_cases h4 : l.to = 0
    · exact ref27_Lines_zero l here count h h1 hc h3 h4 hx w
    · have hx' := hx
      unfold Ex.lines at hx'
      rw [if_pos (by omega)] at hx'; injection hx' with e1 hx'; injection hx' with e2 e3; subst e1 e2 e3; exact ref27_Lines_none l here count h h1 h3 h4 w
  · exact ref27_Lines_some l here count h h1 hc h3 hx w
end Go.Proofs.YtcddbdefdenecaaGreatDoor
