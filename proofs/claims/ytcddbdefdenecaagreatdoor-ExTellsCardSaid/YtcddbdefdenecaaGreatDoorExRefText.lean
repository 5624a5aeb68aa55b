/-
  The document's Text of package ex: what might be a line's text is put together, and parsed again.
-/
import Derived.Test.YtcddbdefdenecaaGreatDoorExRefSubst
import Derived.Test.YtcddbdefdenecaaGreatDoorExRefSame
import Derived.Test.YtcddbdefdenecaaGreatDoorExTell
namespace Go.Proofs.YtcddbdefdenecaaGreatDoor
open Go.RowKit Go.Shelf
open Ex (Ln)
theorem Ex.head_len (a b : Int) : (Ex.head a b).length ≤ 43 := by
  have h1 := Ex.told_len a
  have h2 := Ex.told_len b
  unfold Ex.head
  split
  · simp
  split
  · rw [List.length_append]
    split
    · rw [List.length_cons]; omega
    · simp; omega
  · simp
theorem Ex.tell_len (l : Ln) : (Ex.tell l).length ≤ 47 + l.name.length + l.arg.length + l.pat.length + l.rep.length := by
  have h1 := Ex.head_len l.frm l.to
  unfold Ex.tell Ex.tail
  rw [List.length_append, List.length_append]
  split
  · simp only [List.length_append, List.length_cons]
    split <;> simp <;> omega
  split
  · rw [List.length_cons]; omega
  · simp; omega
theorem ref27_read {s : ByteArray} {l : Ln} {er : Int} (hs : s.size ≤ 1000000000) (h : Ex.parse s.data.toList = (l, er)) (w : World) :
    Calls Tryz.prog 7 #[.string s] w fun e w' => e = .returned (.tuple #[.agg #[.int .i64 l.frm, .int .i64 l.to, .string (bs l.name), .string (bs l.arg), .string (bs l.pat), .string (bs l.rep), .bool l.all], .int .i64 er]) ∧ Below w.heap.size w w' := by
  have := ref27_Parse s hs w
  rw [h] at this
  exact this
set_option maxHeartbeats 2000000 in
set_option maxRecDepth 100000 in
theorem ref27_Text_fail (l : Ln) (hz : l.name.length + l.arg.length + l.pat.length + l.rep.length ≤ 1000000) {m : Ln} {er : Int} (hpr : Ex.parse (Ex.tell l) = (m, er)) (her : er ≠ 0) (w : World) :
    Calls Tryz.prog 11 #[.agg #[.int .i64 l.frm, .int .i64 l.to, .string (bs l.name), .string (bs l.arg), .string (bs l.pat), .string (bs l.rep), .bool l.all]] w fun e w' => e = .returned (.tuple #[.string ⟨#[]⟩, .int .i64 3]) ∧ Below w.heap.size w w' := by
  have hlen := Ex.tell_len l
  have T1 := Lib.hid (fun u => ref27_told l.frm u)
  have T2 := Lib.hid (fun u => ref27_told l.to u)
  have PP := Lib.hid (fun u => ref27_read (s := bs (Ex.tell l)) (by rw [bs_size]; omega) hpr u)
  have B0 := Blk.new w 28 #[.int .i64 l.frm, .int .i64 l.to, .string (bs l.name), .string (bs l.arg), .string (bs l.pat), .string (bs l.rep), .bool l.all]
  have W0 := (Below.refl w.heap.size w).alloc (Nat.le_refl _) (.cells #[.int .i64 l.frm, .int .i64 l.to, .string (bs l.name), .string (bs l.arg), .string (bs l.pat), .string (bs l.rep), .bool l.all] 28)
  have CELL := Lib.hid (fun (u : World) (h : Below (w.alloc (.cells #[.int .i64 l.frm, .int .i64 l.to, .string (bs l.name), .string (bs l.arg), .string (bs l.pat), .string (bs l.rep), .bool l.all] 28)).heap.size (w.alloc (.cells #[.int .i64 l.frm, .int .i64 l.to, .string (bs l.name), .string (bs l.arg), .string (bs l.pat), .string (bs l.rep), .bool l.all] 28)) u) => Ex.cells7 (B0.below h B0.lt))
  obtain ⟨c0, c1, c2, c3, c4, c5, c6⟩ := Ex.cells7 B0
  have hX := Below.refl (w.alloc (.cells #[.int .i64 l.frm, .int .i64 l.to, .string (bs l.name), .string (bs l.arg), .string (bs l.pat), .string (bs l.rep), .bool l.all] 28)).heap.size (w.alloc (.cells #[.int .i64 l.frm, .int .i64 l.to, .string (bs l.name), .string (bs l.arg), .string (bs l.pat), .string (bs l.rep), .bool l.all] 28))
  obtain ⟨qh, HQ⟩ : ∃ qh : Bool, Hid (qh = decide (l.frm = 1 ∧ l.to = -2)) := ⟨_, rfl⟩
  have Z : Hid ((bs (Ex.told l.frm)).size ≤ 21 ∧ (bs (Ex.told l.to)).size ≤ 21 ∧ (bs (Ex.head l.frm l.to)).size ≤ 43 ∧ (bs l.name).size ≤ 1000000 ∧ (bs l.arg).size ≤ 1000000 ∧ (bs l.pat).size ≤ 1000000 ∧ (bs l.rep).size ≤ 1000000) := Lib.hid (by
    simp only [bs_size]
    exact ⟨Ex.told_len _, Ex.told_len _, Ex.head_len _ _, by omega, by omega, by omega, by omega⟩)
  have G1 : Hid ((qh = true → bs (Ex.head l.frm l.to) = ⟨#[37]⟩) ∧ (qh = false → l.frm = 0 → bs (Ex.head l.frm l.to) = ⟨#[]⟩) ∧ (qh = false → l.frm ≠ 0 → l.to = 0 → bs (Ex.head l.frm l.to) = bs (Ex.told l.frm)) ∧ (qh = false → l.frm ≠ 0 → l.to ≠ 0 → bs (Ex.head l.frm l.to) = (bs (Ex.told l.frm) ++ ⟨#[44]⟩) ++ bs (Ex.told l.to))) := Lib.hid (by
    rw [HQ.out]
    unfold Ex.head
    refine ⟨fun h => ?_, fun h h1 => ?_, fun h h1 h2 => ?_, fun h h1 h2 => ?_⟩
    · rw [if_pos (of_decide_eq_true h)]; rfl
    · rw [if_neg (of_decide_eq_false h), if_neg (fun e => e h1)]; rfl
    · rw [if_neg (of_decide_eq_false h), if_pos h1, if_neg (fun e => e h2), List.append_nil]
    · rw [if_neg (of_decide_eq_false h), if_pos h1, if_pos h2, show (⟨#[44]⟩ : ByteArray) = bs [44] from rfl, bs_append, bs_append, List.append_assoc]; rfl)
  have G2 : Hid (((bs l.name).toList == [115]) = true → bs (Ex.tell l) = (((((((bs (Ex.head l.frm l.to) ++ bs l.name) ++ ⟨#[47]⟩) ++ bs l.pat) ++ ⟨#[47]⟩) ++ bs l.rep) ++ ⟨#[47]⟩) ++ bs (if l.all then [103] else []))) := Lib.hid (fun h => by
    rw [bs_tl, beq_iff_eq] at h
    unfold Ex.tell Ex.tail
    rw [if_pos h, show (⟨#[47]⟩ : ByteArray) = bs [47] from rfl]
    simp only [bs_append]
    simp)
  have G3 : Hid (((bs l.name).toList == [115]) = false → ((bs l.arg).toList.isEmpty = true → bs (Ex.tell l) = bs (Ex.head l.frm l.to) ++ bs l.name) ∧ ((bs l.arg).toList.isEmpty = false → bs (Ex.tell l) = ((bs (Ex.head l.frm l.to) ++ bs l.name) ++ ⟨#[32]⟩) ++ bs l.arg)) := Lib.hid (fun h => by
    rw [bs_tl, beq_eq_false_iff_ne] at h
    rw [bs_tl]
    unfold Ex.tell Ex.tail
    rw [if_neg h]
    refine ⟨fun h2 => ?_, fun h2 => ?_⟩
    · rw [if_neg (fun e => e (List.isEmpty_iff.1 h2)), List.append_nil, bs_append]
    · rw [if_pos (List.isEmpty_eq_false_iff.1 h2), show (⟨#[32]⟩ : ByteArray) = bs [32] from rfl]
      simp only [bs_append]
      simp)
  have ge : (er != 0) = true := by rw [bne_iff_ne]; exact her
  clear her
  clear B0 hlen hz hpr
  generalize bs (Ex.tell l) = tt at *
  generalize bs (Ex.head l.frm l.to) = hd at *
  generalize bs (Ex.told l.frm) = ta at *
  generalize bs (Ex.told l.to) = tb at *
  generalize bs l.name = nm at *
  generalize bs l.arg = ag at *
  generalize bs l.pat = pt at *
  generalize bs l.rep = rp at *
  generalize l.all = al at *
  obtain ⟨z1, z2, z3, z4, z5, z6, z7⟩ := Z.out
  clear Z
  go_enter Tryz.func11, Tryz.ntmps11
  go_upto_region 2 with fail
  go_cut [14] from 7 to 14 (fun v wx => v = .bool qh ∧ wx = w.alloc (.cells #[.int .i64 l.frm, .int .i64 l.to, .string nm, .string ag, .string pt, .string rp, .bool al] 28))
  case first =>
    by_cases h1 : l.frm = 1
    · have e1 : (l.frm == 1) = true := by rw [beq_iff_eq]; exact h1
      have e2 : (l.to == -2) = qh := by rw [HQ.out, Bool.eq_iff_iff, beq_iff_eq, decide_eq_true_iff]; exact ⟨fun h => ⟨h1, h⟩, fun h => h.2⟩
      clear G1 G2 G3 HQ h1
      go_wp2
      go_meet
      exact ⟨rfl, rfl⟩
    · have e1 : (l.frm == 1) = false := by rw [beq_eq_false_iff_ne]; exact h1
      have e2 : qh = false := by rw [HQ.out]; exact decide_eq_false (fun e => h1 e.1)
      clear G1 G2 G3 HQ h1
      go_wp2
      go_meet
      exact ⟨by rw [e2], rfl⟩
  case rest =>
  obtain ⟨rfl, hw⟩ := hcut
  subst hw
  clear HQ
  go_upto_if 14 with fail
  go_cut [4] from 14 to 29 (fun v wx => v = .string hd ∧ Below (w.alloc (.cells #[.int .i64 l.frm, .int .i64 l.to, .string nm, .string ag, .string pt, .string rp, .bool al] 28)).heap.size (w.alloc (.cells #[.int .i64 l.frm, .int .i64 l.to, .string nm, .string ag, .string pt, .string rp, .bool al] 28)) wx)
  case first =>
    clear G2 G3
    have k1 : ¬ 9223372036854775807 < ta.size + 1 := by omega
    have k2 : ¬ 9223372036854775807 < ta.size + 1 + tb.size := by omega
    cases qh
    · by_cases h1 : l.frm = 0
      · have f0 : (l.frm != 0) = false := by rw [h1]; rfl
        have g := G1.out.2.1 rfl h1
        clear G1 h1
        go_wp2
        go_meet
        exact ⟨by rw [g], hX⟩
      · have f0 : (l.frm != 0) = true := by rw [bne_iff_ne]; exact h1
        by_cases h2 : l.to = 0
        · have t0 : (l.to != 0) = false := by rw [h2]; rfl
          have g := Lib.hid (G1.out.2.2.1 rfl h1 h2)
          clear G1 h1 h2
          go_wp2_with (first
            | (go_at_call 31; (with_reducible refine (T1.out _).mono ?_); rintro e u ⟨rfl, hb1⟩; replace hX := hX.trans (hb1.mono hX.size); clear hb1; obtain ⟨d0, d1, d2, d3, d4, d5, d6⟩ := CELL.out _ hX))
          go_meet
          exact ⟨by rw [g.out], hX⟩
        · have t0 : (l.to != 0) = true := by rw [bne_iff_ne]; exact h2
          have g := Lib.hid (G1.out.2.2.2 rfl h1 h2)
          clear G1 h1 h2
          go_wp2_with (first
            | (go_at_call 31; (with_reducible refine (T1.out _).mono ?_); rintro e u ⟨rfl, hb1⟩; replace hX := hX.trans (hb1.mono hX.size); clear hb1; obtain ⟨d0, d1, d2, d3, d4, d5, d6⟩ := CELL.out _ hX)
            | (go_at_call 31; (with_reducible refine (T2.out _).mono ?_); rintro e v ⟨rfl, hb1⟩; replace hX := hX.trans (hb1.mono hX.size); clear hb1))
          go_meet
          exact ⟨by rw [g.out], hX⟩
    · have g := G1.out.1 rfl
      clear G1
      go_wp2
      go_meet
      exact ⟨by rw [g], hX⟩
  case rest =>
  clear hX
  obtain ⟨rfl, hX⟩ := hcut
  clear G1 T1 T2 c0 c1 c2 c3 c4 c5 c6 z1 z2
  obtain ⟨d0, d1, d2, d3, d4, d5, d6⟩ := CELL.out _ hX
  generalize wc = U at *
  have k0 : ¬ 9223372036854775807 < hd.size + nm.size := by omega
  go_upto_if 36 with fail
  go_cut [0, 4] from 36 to 58 (fun _ v wx => v = .string tt ∧ wx = U)
  case first =>
    have k1 : ¬ 9223372036854775807 < hd.size + nm.size + 1 := by omega
    cases he : (nm.toList == [115])
    · have k2 : ¬ 9223372036854775807 < hd.size + nm.size + 1 + ag.size := by omega
      have g := G3.out he
      cases ha : ag.toList.isEmpty
      · have g2 := Lib.hid (g.2 ha)
        clear g G2 G3
        go_wp2
        go_meet
        exact ⟨by rw [g2.out], rfl⟩
      · have g2 := Lib.hid (g.1 ha)
        clear g G2 G3
        go_wp2
        go_meet
        exact ⟨by rw [g2.out], rfl⟩
    · have k2 : ¬ 9223372036854775807 < hd.size + nm.size + 1 + pt.size := by omega
      have k3 : ¬ 9223372036854775807 < hd.size + nm.size + 1 + pt.size + 1 := by omega
      have k4 : ¬ 9223372036854775807 < hd.size + nm.size + 1 + pt.size + 1 + rp.size := by omega
      have k5 : ¬ 9223372036854775807 < hd.size + nm.size + 1 + pt.size + 1 + rp.size + 1 := by omega
      have k6 : ¬ 9223372036854775807 < hd.size + nm.size + 1 + pt.size + 1 + rp.size + 1 + 1 := by omega
      have g := Lib.hid (G2.out he)
      clear G2 G3
      rcases Bool.eq_false_or_eq_true al with hal | hal
      · have g2 : Hid (bs (if al = true then [103] else []) = ⟨#[103]⟩) := by show _ = _; rw [hal]; rfl
        go_wp2
        go_meet
        exact ⟨by rw [g.out, g2.out], rfl⟩
      · have g2 : Hid (bs (if al = true then [103] else []) = bs []) := by show _ = _; rw [hal]; rfl
        have g3 : Hid (∀ x : ByteArray, x ++ bs [] = x) := Lib.hid (fun x => by
          conv => lhs; rw [← bs_data x]
          rw [bs_append, List.append_nil]; rfl)
        go_wp2
        go_meet
        exact ⟨by rw [g.out, g2.out, g3.out], rfl⟩
  case rest =>
  obtain ⟨rfl, hw⟩ := hcut
  subst hw
  clear G2 G3 z3 z4 z5 z6 z7 k0
  go_wp2_with (first | (go_at_call 7; refine (PP.out _).mono ?_; rintro e w1 ⟨rfl, hb2⟩; replace hX := hX.trans (hb2.mono hX.size); clear hb2 d0 d1 d2 d3 d4 d5 d6; obtain ⟨d0, d1, d2, d3, d4, d5, d6⟩ := CELL.out _ (hX.alloc hX.size (.cells #[.int .i64 m.frm, .int .i64 m.to, .string (bs m.name), .string (bs m.arg), .string (bs m.pat), .string (bs m.rep), .bool m.all] 28))))
  go_ret2
  exact ⟨rfl, W0.trans ((hX.alloc hX.size _).mono W0.size)⟩
set_option maxHeartbeats 2000000 in
set_option maxRecDepth 100000 in
theorem ref27_Text_other (l : Ln) (hz : l.name.length + l.arg.length + l.pat.length + l.rep.length ≤ 1000000) {m : Ln} (hpr : Ex.parse (Ex.tell l) = (m, 0)) (hml : m ≠ l) (w : World) :
    Calls Tryz.prog 11 #[.agg #[.int .i64 l.frm, .int .i64 l.to, .string (bs l.name), .string (bs l.arg), .string (bs l.pat), .string (bs l.rep), .bool l.all]] w fun e w' => e = .returned (.tuple #[.string ⟨#[]⟩, .int .i64 3]) ∧ Below w.heap.size w w' := by
  have hlen := Ex.tell_len l
  have T1 := Lib.hid (fun u => ref27_told l.frm u)
  have T2 := Lib.hid (fun u => ref27_told l.to u)
  have PP := Lib.hid (fun u => ref27_read (s := bs (Ex.tell l)) (by rw [bs_size]; omega) hpr u)
  have B0 := Blk.new w 28 #[.int .i64 l.frm, .int .i64 l.to, .string (bs l.name), .string (bs l.arg), .string (bs l.pat), .string (bs l.rep), .bool l.all]
  have W0 := (Below.refl w.heap.size w).alloc (Nat.le_refl _) (.cells #[.int .i64 l.frm, .int .i64 l.to, .string (bs l.name), .string (bs l.arg), .string (bs l.pat), .string (bs l.rep), .bool l.all] 28)
  have CELL := Lib.hid (fun (u : World) (h : Below (w.alloc (.cells #[.int .i64 l.frm, .int .i64 l.to, .string (bs l.name), .string (bs l.arg), .string (bs l.pat), .string (bs l.rep), .bool l.all] 28)).heap.size (w.alloc (.cells #[.int .i64 l.frm, .int .i64 l.to, .string (bs l.name), .string (bs l.arg), .string (bs l.pat), .string (bs l.rep), .bool l.all] 28)) u) => Ex.cells7 (B0.below h B0.lt))
  obtain ⟨c0, c1, c2, c3, c4, c5, c6⟩ := Ex.cells7 B0
  have hX := Below.refl (w.alloc (.cells #[.int .i64 l.frm, .int .i64 l.to, .string (bs l.name), .string (bs l.arg), .string (bs l.pat), .string (bs l.rep), .bool l.all] 28)).heap.size (w.alloc (.cells #[.int .i64 l.frm, .int .i64 l.to, .string (bs l.name), .string (bs l.arg), .string (bs l.pat), .string (bs l.rep), .bool l.all] 28))
  obtain ⟨qh, HQ⟩ : ∃ qh : Bool, Hid (qh = decide (l.frm = 1 ∧ l.to = -2)) := ⟨_, rfl⟩
  have Z : Hid ((bs (Ex.told l.frm)).size ≤ 21 ∧ (bs (Ex.told l.to)).size ≤ 21 ∧ (bs (Ex.head l.frm l.to)).size ≤ 43 ∧ (bs l.name).size ≤ 1000000 ∧ (bs l.arg).size ≤ 1000000 ∧ (bs l.pat).size ≤ 1000000 ∧ (bs l.rep).size ≤ 1000000) := Lib.hid (by
    simp only [bs_size]
    exact ⟨Ex.told_len _, Ex.told_len _, Ex.head_len _ _, by omega, by omega, by omega, by omega⟩)
  have G1 : Hid ((qh = true → bs (Ex.head l.frm l.to) = ⟨#[37]⟩) ∧ (qh = false → l.frm = 0 → bs (Ex.head l.frm l.to) = ⟨#[]⟩) ∧ (qh = false → l.frm ≠ 0 → l.to = 0 → bs (Ex.head l.frm l.to) = bs (Ex.told l.frm)) ∧ (qh = false → l.frm ≠ 0 → l.to ≠ 0 → bs (Ex.head l.frm l.to) = (bs (Ex.told l.frm) ++ ⟨#[44]⟩) ++ bs (Ex.told l.to))) := Lib.hid (by
    rw [HQ.out]
    unfold Ex.head
    refine ⟨fun h => ?_, fun h h1 => ?_, fun h h1 h2 => ?_, fun h h1 h2 => ?_⟩
    · rw [if_pos (of_decide_eq_true h)]; rfl
    · rw [if_neg (of_decide_eq_false h), if_neg (fun e => e h1)]; rfl
    · rw [if_neg (of_decide_eq_false h), if_pos h1, if_neg (fun e => e h2), List.append_nil]
    · rw [if_neg (of_decide_eq_false h), if_pos h1, if_pos h2, show (⟨#[44]⟩ : ByteArray) = bs [44] from rfl, bs_append, bs_append, List.append_assoc]; rfl)
  have G2 : Hid (((bs l.name).toList == [115]) = true → bs (Ex.tell l) = (((((((bs (Ex.head l.frm l.to) ++ bs l.name) ++ ⟨#[47]⟩) ++ bs l.pat) ++ ⟨#[47]⟩) ++ bs l.rep) ++ ⟨#[47]⟩) ++ bs (if l.all then [103] else []))) := Lib.hid (fun h => by
    rw [bs_tl, beq_iff_eq] at h
    unfold Ex.tell Ex.tail
    rw [if_pos h, show (⟨#[47]⟩ : ByteArray) = bs [47] from rfl]
    simp only [bs_append]
    simp)
  have G3 : Hid (((bs l.name).toList == [115]) = false → ((bs l.arg).toList.isEmpty = true → bs (Ex.tell l) = bs (Ex.head l.frm l.to) ++ bs l.name) ∧ ((bs l.arg).toList.isEmpty = false → bs (Ex.tell l) = ((bs (Ex.head l.frm l.to) ++ bs l.name) ++ ⟨#[32]⟩) ++ bs l.arg)) := Lib.hid (fun h => by
    rw [bs_tl, beq_eq_false_iff_ne] at h
    rw [bs_tl]
    unfold Ex.tell Ex.tail
    rw [if_neg h]
    refine ⟨fun h2 => ?_, fun h2 => ?_⟩
    · rw [if_neg (fun e => e (List.isEmpty_iff.1 h2)), List.append_nil, bs_append]
    · rw [if_pos (List.isEmpty_eq_false_iff.1 h2), show (⟨#[32]⟩ : ByteArray) = bs [32] from rfl]
      simp only [bs_append]
      simp)
  have EN : ∀ w, (binOp .neq 28 (.agg #[.int .i64 m.frm, .int .i64 m.to, .string (bs m.name), .string (bs m.arg), .string (bs m.pat), .string (bs m.rep), .bool m.all]) (.agg #[.int .i64 l.frm, .int .i64 l.to, .string (bs l.name), .string (bs l.arg), .string (bs l.pat), .string (bs l.rep), .bool l.all])).run Tryz.prog w = .ok (.bool true) w := fun w => by rw [ref27_neq_ln]; simp [hml]
  clear hml
  clear B0 hlen hz hpr
  generalize bs (Ex.tell l) = tt at *
  generalize bs (Ex.head l.frm l.to) = hd at *
  generalize bs (Ex.told l.frm) = ta at *
  generalize bs (Ex.told l.to) = tb at *
  generalize bs l.name = nm at *
  generalize bs l.arg = ag at *
  generalize bs l.pat = pt at *
  generalize bs l.rep = rp at *
  generalize l.all = al at *
  obtain ⟨z1, z2, z3, z4, z5, z6, z7⟩ := Z.out
  clear Z
  go_enter Tryz.func11, Tryz.ntmps11
  go_upto_region 2 with fail
  go_cut [14] from 7 to 14 (fun v wx => v = .bool qh ∧ wx = w.alloc (.cells #[.int .i64 l.frm, .int .i64 l.to, .string nm, .string ag, .string pt, .string rp, .bool al] 28))
  case first =>
    by_cases h1 : l.frm = 1
    · have e1 : (l.frm == 1) = true := by rw [beq_iff_eq]; exact h1
      have e2 : (l.to == -2) = qh := by rw [HQ.out, Bool.eq_iff_iff, beq_iff_eq, decide_eq_true_iff]; exact ⟨fun h => ⟨h1, h⟩, fun h => h.2⟩
      clear G1 G2 G3 HQ h1
      go_wp2
      go_meet
      exact ⟨rfl, rfl⟩
    · have e1 : (l.frm == 1) = false := by rw [beq_eq_false_iff_ne]; exact h1
      have e2 : qh = false := by rw [HQ.out]; exact decide_eq_false (fun e => h1 e.1)
      clear G1 G2 G3 HQ h1
      go_wp2
      go_meet
      exact ⟨by rw [e2], rfl⟩
  case rest =>
  obtain ⟨rfl, hw⟩ := hcut
  subst hw
  clear HQ
  go_upto_if 14 with fail
  go_cut [4] from 14 to 29 (fun v wx => v = .string hd ∧ Below (w.alloc (.cells #[.int .i64 l.frm, .int .i64 l.to, .string nm, .string ag, .string pt, .string rp, .bool al] 28)).heap.size (w.alloc (.cells #[.int .i64 l.frm, .int .i64 l.to, .string nm, .string ag, .string pt, .string rp, .bool al] 28)) wx)
  case first =>
    clear G2 G3
    have k1 : ¬ 9223372036854775807 < ta.size + 1 := by omega
    have k2 : ¬ 9223372036854775807 < ta.size + 1 + tb.size := by omega
    cases qh
    · by_cases h1 : l.frm = 0
      · have f0 : (l.frm != 0) = false := by rw [h1]; rfl
        have g := G1.out.2.1 rfl h1
        clear G1 h1
        go_wp2
        go_meet
        exact ⟨by rw [g], hX⟩
      · have f0 : (l.frm != 0) = true := by rw [bne_iff_ne]; exact h1
        by_cases h2 : l.to = 0
        · have t0 : (l.to != 0) = false := by rw [h2]; rfl
          have g := Lib.hid (G1.out.2.2.1 rfl h1 h2)
          clear G1 h1 h2
          go_wp2_with (first
            | (go_at_call 31; (with_reducible refine (T1.out _).mono ?_); rintro e u ⟨rfl, hb1⟩; replace hX := hX.trans (hb1.mono hX.size); clear hb1; obtain ⟨d0, d1, d2, d3, d4, d5, d6⟩ := CELL.out _ hX))
          go_meet
          exact ⟨by rw [g.out], hX⟩
        · have t0 : (l.to != 0) = true := by rw [bne_iff_ne]; exact h2
          have g := Lib.hid (G1.out.2.2.2 rfl h1 h2)
          clear G1 h1 h2
          go_wp2_with (first
            | (go_at_call 31; (with_reducible refine (T1.out _).mono ?_); rintro e u ⟨rfl, hb1⟩; replace hX := hX.trans (hb1.mono hX.size); clear hb1; obtain ⟨d0, d1, d2, d3, d4, d5, d6⟩ := CELL.out _ hX)
            | (go_at_call 31; (with_reducible refine (T2.out _).mono ?_); rintro e v ⟨rfl, hb1⟩; replace hX := hX.trans (hb1.mono hX.size); clear hb1))
          go_meet
          exact ⟨by rw [g.out], hX⟩
    · have g := G1.out.1 rfl
      clear G1
      go_wp2
      go_meet
      exact ⟨by rw [g], hX⟩
  case rest =>
  clear hX
  obtain ⟨rfl, hX⟩ := hcut
  clear G1 T1 T2 c0 c1 c2 c3 c4 c5 c6 z1 z2
  obtain ⟨d0, d1, d2, d3, d4, d5, d6⟩ := CELL.out _ hX
  generalize wc = U at *
  have k0 : ¬ 9223372036854775807 < hd.size + nm.size := by omega
  go_upto_if 36 with fail
  go_cut [0, 4] from 36 to 58 (fun _ v wx => v = .string tt ∧ wx = U)
  case first =>
    have k1 : ¬ 9223372036854775807 < hd.size + nm.size + 1 := by omega
    cases he : (nm.toList == [115])
    · have k2 : ¬ 9223372036854775807 < hd.size + nm.size + 1 + ag.size := by omega
      have g := G3.out he
      cases ha : ag.toList.isEmpty
      · have g2 := Lib.hid (g.2 ha)
        clear g G2 G3
        go_wp2
        go_meet
        exact ⟨by rw [g2.out], rfl⟩
      · have g2 := Lib.hid (g.1 ha)
        clear g G2 G3
        go_wp2
        go_meet
        exact ⟨by rw [g2.out], rfl⟩
    · have k2 : ¬ 9223372036854775807 < hd.size + nm.size + 1 + pt.size := by omega
      have k3 : ¬ 9223372036854775807 < hd.size + nm.size + 1 + pt.size + 1 := by omega
      have k4 : ¬ 9223372036854775807 < hd.size + nm.size + 1 + pt.size + 1 + rp.size := by omega
      have k5 : ¬ 9223372036854775807 < hd.size + nm.size + 1 + pt.size + 1 + rp.size + 1 := by omega
      have k6 : ¬ 9223372036854775807 < hd.size + nm.size + 1 + pt.size + 1 + rp.size + 1 + 1 := by omega
      have g := Lib.hid (G2.out he)
      clear G2 G3
      rcases Bool.eq_false_or_eq_true al with hal | hal
      · have g2 : Hid (bs (if al = true then [103] else []) = ⟨#[103]⟩) := by show _ = _; rw [hal]; rfl
        go_wp2
        go_meet
        exact ⟨by rw [g.out, g2.out], rfl⟩
      · have g2 : Hid (bs (if al = true then [103] else []) = bs []) := by show _ = _; rw [hal]; rfl
        have g3 : Hid (∀ x : ByteArray, x ++ bs [] = x) := Lib.hid (fun x => by
          conv => lhs; rw [← bs_data x]
          rw [bs_append, List.append_nil]; rfl)
        go_wp2
        go_meet
        exact ⟨by rw [g.out, g2.out, g3.out], rfl⟩
  case rest =>
  obtain ⟨rfl, hw⟩ := hcut
  subst hw
  clear G2 G3 z3 z4 z5 z6 z7 k0
  go_wp2_with (first | (go_at_call 7; refine (PP.out _).mono ?_; rintro e w1 ⟨rfl, hb2⟩; replace hX := hX.trans (hb2.mono hX.size); clear hb2 d0 d1 d2 d3 d4 d5 d6; obtain ⟨d0, d1, d2, d3, d4, d5, d6⟩ := CELL.out _ (hX.alloc hX.size (.cells #[.int .i64 m.frm, .int .i64 m.to, .string (bs m.name), .string (bs m.arg), .string (bs m.pat), .string (bs m.rep), .bool m.all] 28))))
  go_ret2
  exact ⟨rfl, W0.trans ((hX.alloc hX.size _).mono W0.size)⟩
set_option maxHeartbeats 2000000 in
set_option maxRecDepth 100000 in
theorem ref27_Text_same (l : Ln) (hz : l.name.length + l.arg.length + l.pat.length + l.rep.length ≤ 1000000) (hpr : Ex.parse (Ex.tell l) = (l, 0)) (w : World) :
    Calls Tryz.prog 11 #[.agg #[.int .i64 l.frm, .int .i64 l.to, .string (bs l.name), .string (bs l.arg), .string (bs l.pat), .string (bs l.rep), .bool l.all]] w fun e w' => e = .returned (.tuple #[.string (bs (Ex.tell l)), .int .i64 0]) ∧ Below w.heap.size w w' := by
  have hlen := Ex.tell_len l
  have T1 := Lib.hid (fun u => ref27_told l.frm u)
  have T2 := Lib.hid (fun u => ref27_told l.to u)
  have PP := Lib.hid (fun u => ref27_read (s := bs (Ex.tell l)) (by rw [bs_size]; omega) hpr u)
  have B0 := Blk.new w 28 #[.int .i64 l.frm, .int .i64 l.to, .string (bs l.name), .string (bs l.arg), .string (bs l.pat), .string (bs l.rep), .bool l.all]
  have W0 := (Below.refl w.heap.size w).alloc (Nat.le_refl _) (.cells #[.int .i64 l.frm, .int .i64 l.to, .string (bs l.name), .string (bs l.arg), .string (bs l.pat), .string (bs l.rep), .bool l.all] 28)
  have CELL := Lib.hid (fun (u : World) (h : Below (w.alloc (.cells #[.int .i64 l.frm, .int .i64 l.to, .string (bs l.name), .string (bs l.arg), .string (bs l.pat), .string (bs l.rep), .bool l.all] 28)).heap.size (w.alloc (.cells #[.int .i64 l.frm, .int .i64 l.to, .string (bs l.name), .string (bs l.arg), .string (bs l.pat), .string (bs l.rep), .bool l.all] 28)) u) => Ex.cells7 (B0.below h B0.lt))
  obtain ⟨c0, c1, c2, c3, c4, c5, c6⟩ := Ex.cells7 B0
  have hX := Below.refl (w.alloc (.cells #[.int .i64 l.frm, .int .i64 l.to, .string (bs l.name), .string (bs l.arg), .string (bs l.pat), .string (bs l.rep), .bool l.all] 28)).heap.size (w.alloc (.cells #[.int .i64 l.frm, .int .i64 l.to, .string (bs l.name), .string (bs l.arg), .string (bs l.pat), .string (bs l.rep), .bool l.all] 28))
  obtain ⟨qh, HQ⟩ : ∃ qh : Bool, Hid (qh = decide (l.frm = 1 ∧ l.to = -2)) := ⟨_, rfl⟩
  have Z : Hid ((bs (Ex.told l.frm)).size ≤ 21 ∧ (bs (Ex.told l.to)).size ≤ 21 ∧ (bs (Ex.head l.frm l.to)).size ≤ 43 ∧ (bs l.name).size ≤ 1000000 ∧ (bs l.arg).size ≤ 1000000 ∧ (bs l.pat).size ≤ 1000000 ∧ (bs l.rep).size ≤ 1000000) := Lib.hid (by
    simp only [bs_size]
    exact ⟨Ex.told_len _, Ex.told_len _, Ex.head_len _ _, by omega, by omega, by omega, by omega⟩)
  have G1 : Hid ((qh = true → bs (Ex.head l.frm l.to) = ⟨#[37]⟩) ∧ (qh = false → l.frm = 0 → bs (Ex.head l.frm l.to) = ⟨#[]⟩) ∧ (qh = false → l.frm ≠ 0 → l.to = 0 → bs (Ex.head l.frm l.to) = bs (Ex.told l.frm)) ∧ (qh = false → l.frm ≠ 0 → l.to ≠ 0 → bs (Ex.head l.frm l.to) = (bs (Ex.told l.frm) ++ ⟨#[44]⟩) ++ bs (Ex.told l.to))) := Lib.hid (by
    rw [HQ.out]
    unfold Ex.head
    refine ⟨fun h => ?_, fun h h1 => ?_, fun h h1 h2 => ?_, fun h h1 h2 => ?_⟩
    · rw [if_pos (of_decide_eq_true h)]; rfl
    · rw [if_neg (of_decide_eq_false h), if_neg (fun e => e h1)]; rfl
    · rw [if_neg (of_decide_eq_false h), if_pos h1, if_neg (fun e => e h2), List.append_nil]
    · rw [if_neg (of_decide_eq_false h), if_pos h1, if_pos h2, show (⟨#[44]⟩ : ByteArray) = bs [44] from rfl, bs_append, bs_append, List.append_assoc]; rfl)
  have G2 : Hid (((bs l.name).toList == [115]) = true → bs (Ex.tell l) = (((((((bs (Ex.head l.frm l.to) ++ bs l.name) ++ ⟨#[47]⟩) ++ bs l.pat) ++ ⟨#[47]⟩) ++ bs l.rep) ++ ⟨#[47]⟩) ++ bs (if l.all then [103] else []))) := Lib.hid (fun h => by
    rw [bs_tl, beq_iff_eq] at h
    unfold Ex.tell Ex.tail
    rw [if_pos h, show (⟨#[47]⟩ : ByteArray) = bs [47] from rfl]
    simp only [bs_append]
    simp)
  have G3 : Hid (((bs l.name).toList == [115]) = false → ((bs l.arg).toList.isEmpty = true → bs (Ex.tell l) = bs (Ex.head l.frm l.to) ++ bs l.name) ∧ ((bs l.arg).toList.isEmpty = false → bs (Ex.tell l) = ((bs (Ex.head l.frm l.to) ++ bs l.name) ++ ⟨#[32]⟩) ++ bs l.arg)) := Lib.hid (fun h => by
    rw [bs_tl, beq_eq_false_iff_ne] at h
    rw [bs_tl]
    unfold Ex.tell Ex.tail
    rw [if_neg h]
    refine ⟨fun h2 => ?_, fun h2 => ?_⟩
    · rw [if_neg (fun e => e (List.isEmpty_iff.1 h2)), List.append_nil, bs_append]
    · rw [if_pos (List.isEmpty_eq_false_iff.1 h2), show (⟨#[32]⟩ : ByteArray) = bs [32] from rfl]
      simp only [bs_append]
      simp)
  have EN : ∀ w, (binOp .neq 28 (.agg #[.int .i64 l.frm, .int .i64 l.to, .string (bs l.name), .string (bs l.arg), .string (bs l.pat), .string (bs l.rep), .bool l.all]) (.agg #[.int .i64 l.frm, .int .i64 l.to, .string (bs l.name), .string (bs l.arg), .string (bs l.pat), .string (bs l.rep), .bool l.all])).run Tryz.prog w = .ok (.bool false) w := fun w => by rw [ref27_neq_ln]; simp
  clear B0 hlen hz hpr
  generalize bs (Ex.tell l) = tt at *
  generalize bs (Ex.head l.frm l.to) = hd at *
  generalize bs (Ex.told l.frm) = ta at *
  generalize bs (Ex.told l.to) = tb at *
  generalize bs l.name = nm at *
  generalize bs l.arg = ag at *
  generalize bs l.pat = pt at *
  generalize bs l.rep = rp at *
  generalize l.all = al at *
  obtain ⟨z1, z2, z3, z4, z5, z6, z7⟩ := Z.out
  clear Z
  go_enter Tryz.func11, Tryz.ntmps11
  go_upto_region 2 with fail
  go_cut [14] from 7 to 14 (fun v wx => v = .bool qh ∧ wx = w.alloc (.cells #[.int .i64 l.frm, .int .i64 l.to, .string nm, .string ag, .string pt, .string rp, .bool al] 28))
  case first =>
    by_cases h1 : l.frm = 1
    · have e1 : (l.frm == 1) = true := by rw [beq_iff_eq]; exact h1
      have e2 : (l.to == -2) = qh := by rw [HQ.out, Bool.eq_iff_iff, beq_iff_eq, decide_eq_true_iff]; exact ⟨fun h => ⟨h1, h⟩, fun h => h.2⟩
      clear G1 G2 G3 HQ h1
      go_wp2
      go_meet
      exact ⟨rfl, rfl⟩
    · have e1 : (l.frm == 1) = false := by rw [beq_eq_false_iff_ne]; exact h1
      have e2 : qh = false := by rw [HQ.out]; exact decide_eq_false (fun e => h1 e.1)
      clear G1 G2 G3 HQ h1
      go_wp2
      go_meet
      exact ⟨by rw [e2], rfl⟩
  case rest =>
  obtain ⟨rfl, hw⟩ := hcut
  subst hw
  clear HQ
  go_upto_if 14 with fail
  go_cut [4] from 14 to 29 (fun v wx => v = .string hd ∧ Below (w.alloc (.cells #[.int .i64 l.frm, .int .i64 l.to, .string nm, .string ag, .string pt, .string rp, .bool al] 28)).heap.size (w.alloc (.cells #[.int .i64 l.frm, .int .i64 l.to, .string nm, .string ag, .string pt, .string rp, .bool al] 28)) wx)
  case first =>
    clear G2 G3
    have k1 : ¬ 9223372036854775807 < ta.size + 1 := by omega
    have k2 : ¬ 9223372036854775807 < ta.size + 1 + tb.size := by omega
    cases qh
    · by_cases h1 : l.frm = 0
      · have f0 : (l.frm != 0) = false := by rw [h1]; rfl
        have g := G1.out.2.1 rfl h1
        clear G1 h1
        go_wp2
        go_meet
        exact ⟨by rw [g], hX⟩
      · have f0 : (l.frm != 0) = true := by rw [bne_iff_ne]; exact h1
        by_cases h2 : l.to = 0
        · have t0 : (l.to != 0) = false := by rw [h2]; rfl
          have g := Lib.hid (G1.out.2.2.1 rfl h1 h2)
          clear G1 h1 h2
          go_wp2_with (first
            | (go_at_call 31; (with_reducible refine (T1.out _).mono ?_); rintro e u ⟨rfl, hb1⟩; replace hX := hX.trans (hb1.mono hX.size); clear hb1; obtain ⟨d0, d1, d2, d3, d4, d5, d6⟩ := CELL.out _ hX))
          go_meet
          exact ⟨by rw [g.out], hX⟩
        · have t0 : (l.to != 0) = true := by rw [bne_iff_ne]; exact h2
          have g := Lib.hid (G1.out.2.2.2 rfl h1 h2)
          clear G1 h1 h2
          go_wp2_with (first
            | (go_at_call 31; (with_reducible refine (T1.out _).mono ?_); rintro e u ⟨rfl, hb1⟩; replace hX := hX.trans (hb1.mono hX.size); clear hb1; obtain ⟨d0, d1, d2, d3, d4, d5, d6⟩ := CELL.out _ hX)
            | (go_at_call 31; (with_reducible refine (T2.out _).mono ?_); rintro e v ⟨rfl, hb1⟩; replace hX := hX.trans (hb1.mono hX.size); clear hb1))
          go_meet
          exact ⟨by rw [g.out], hX⟩
    · have g := G1.out.1 rfl
      clear G1
      go_wp2
      go_meet
      exact ⟨by rw [g], hX⟩
  case rest =>
  clear hX
  obtain ⟨rfl, hX⟩ := hcut
  clear G1 T1 T2 c0 c1 c2 c3 c4 c5 c6 z1 z2
  obtain ⟨d0, d1, d2, d3, d4, d5, d6⟩ := CELL.out _ hX
  generalize wc = U at *
  have k0 : ¬ 9223372036854775807 < hd.size + nm.size := by omega
  go_upto_if 36 with fail
  go_cut [0, 4] from 36 to 58 (fun _ v wx => v = .string tt ∧ wx = U)
  case first =>
    have k1 : ¬ 9223372036854775807 < hd.size + nm.size + 1 := by omega
    cases he : (nm.toList == [115])
    · have k2 : ¬ 9223372036854775807 < hd.size + nm.size + 1 + ag.size := by omega
      have g := G3.out he
      cases ha : ag.toList.isEmpty
      · have g2 := Lib.hid (g.2 ha)
        clear g G2 G3
        go_wp2
        go_meet
        exact ⟨by rw [g2.out], rfl⟩
      · have g2 := Lib.hid (g.1 ha)
        clear g G2 G3
        go_wp2
        go_meet
        exact ⟨by rw [g2.out], rfl⟩
    · have k2 : ¬ 9223372036854775807 < hd.size + nm.size + 1 + pt.size := by omega
      have k3 : ¬ 9223372036854775807 < hd.size + nm.size + 1 + pt.size + 1 := by omega
      have k4 : ¬ 9223372036854775807 < hd.size + nm.size + 1 + pt.size + 1 + rp.size := by omega
      have k5 : ¬ 9223372036854775807 < hd.size + nm.size + 1 + pt.size + 1 + rp.size + 1 := by omega
      have k6 : ¬ 9223372036854775807 < hd.size + nm.size + 1 + pt.size + 1 + rp.size + 1 + 1 := by omega
      have g := Lib.hid (G2.out he)
      clear G2 G3
      rcases Bool.eq_false_or_eq_true al with hal | hal
      · have g2 : Hid (bs (if al = true then [103] else []) = ⟨#[103]⟩) := by show _ = _; rw [hal]; rfl
        go_wp2
        go_meet
        exact ⟨by rw [g.out, g2.out], rfl⟩
      · have g2 : Hid (bs (if al = true then [103] else []) = bs []) := by show _ = _; rw [hal]; rfl
        have g3 : Hid (∀ x : ByteArray, x ++ bs [] = x) := Lib.hid (fun x => by
          conv => lhs; rw [← bs_data x]
          rw [bs_append, List.append_nil]; rfl)
        go_wp2
        go_meet
        exact ⟨by rw [g.out, g2.out, g3.out], rfl⟩
  case rest =>
  obtain ⟨rfl, hw⟩ := hcut
  subst hw
  clear G2 G3 z3 z4 z5 z6 z7 k0
  go_wp2_with (first | (go_at_call 7; refine (PP.out _).mono ?_; rintro e w1 ⟨rfl, hb2⟩; replace hX := hX.trans (hb2.mono hX.size); clear hb2 d0 d1 d2 d3 d4 d5 d6; obtain ⟨d0, d1, d2, d3, d4, d5, d6⟩ := CELL.out _ (hX.alloc hX.size (.cells #[.int .i64 l.frm, .int .i64 l.to, .string nm, .string ag, .string pt, .string rp, .bool al] 28))))
  go_ret2
  exact ⟨rfl, W0.trans ((hX.alloc hX.size _).mono W0.size)⟩
/-- The text of a line, as the document tells it. -/
theorem ref27_Text (l : Ln) (hz : l.name.length + l.arg.length + l.pat.length + l.rep.length ≤ 1000000) (w : World) :
    Calls Tryz.prog 11 #[.agg #[.int .i64 l.frm, .int .i64 l.to, .string (bs l.name), .string (bs l.arg), .string (bs l.pat), .string (bs l.rep), .bool l.all]] w fun e w' => e = .returned (.tuple #[.string (bs (Ex.text l).1), .int .i64 (Ex.text l).2]) ∧ Below w.heap.size w w' := by
  unfold Ex.text
  obtain ⟨m, er, hpr⟩ : ∃ m er, Ex.parse (Ex.tell l) = (m, er) := ⟨_, _, rfl⟩
  rw [hpr]
  by_cases her : er = 0
  · subst her
    by_cases hml : m = l
    · subst hml
      rw [if_pos rfl]
      exact ref27_Text_same m hz hpr w
    · rw [if_neg (fun e => hml (by injection e))]
      exact ref27_Text_other l hz hpr hml w
  · rw [if_neg (fun e => her (by injection e))]
    exact ref27_Text_fail l hz hpr her w
end Go.Proofs.YtcddbdefdenecaaGreatDoor
