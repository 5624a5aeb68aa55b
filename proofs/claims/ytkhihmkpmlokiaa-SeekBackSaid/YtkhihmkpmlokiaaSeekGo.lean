/-
  Finds as the program has them: which may be, the other way, and where one leads.
-/
import Derived.Test.YtkhihmkpmlokiaaSeekFar
import Derived.Test.YtkhihmkpmlokiaaClone
import Derived.Laws.Rows
namespace Go.Proofs.Ytkhihmkpmlokiaa
open Go.RowKit
open Line (L of_)
/-- A find. -/
abbrev findV (k : Int) (r : ByteArray) : Value := .agg #[.int .i64 k, .string r]
abbrev findO (k : Int) (r : ByteArray) : Obj := .cells #[.int .i64 k, .string r] 23
theorem find_new (w : World) (k : Int) (r : ByteArray) : Below w.heap.size w (w.alloc (findO k r)) := (Below.refl _ w).alloc (Nat.le_refl _) _
theorem find_cells (w : World) (k : Int) (r : ByteArray) : (w.alloc (findO k r)).cell? ⟨w.heap.size, 0, none⟩ = some (.int .i64 k) ∧ (w.alloc (findO k r)).cell? ⟨w.heap.size, 1, none⟩ = some (.string r) := by
  have b0 := Blk.new w 23 #[.int .i64 k, .string r]
  exact ⟨b0.cell 0, b0.cell 1⟩
theorem find_after {w u : World} {k : Int} {r : ByteArray} (h : Below (w.alloc (findO k r)).heap.size (w.alloc (findO k r)) u) : u.cell? ⟨w.heap.size, 0, none⟩ = some (.int .i64 k) ∧ u.cell? ⟨w.heap.size, 1, none⟩ = some (.string r) := by
  have b0 := Blk.new w 23 #[.int .i64 k, .string r]
  have b1 := b0.below h b0.lt
  exact ⟨b1.cell 0, b1.cell 1⟩
theorem find_lt {w u : World} {k : Int} {r : ByteArray} (h : Below (w.alloc (findO k r)).heap.size (w.alloc (findO k r)) u) : w.heap.size < u.heap.size ∧ ¬ w.heap.size = u.heap.size ∧ ¬ u.heap.size = w.heap.size := by
  have := h.size
  have h2 : (w.alloc (findO k r)).heap.size = w.heap.size + 1 := by simp
  omega
theorem seek_other (k : Int) (w : World) : Calls Try.prog 29 #[.int .i64 k] w fun e w' => e = .returned (.int .i64 (Seek.other k)) ∧ w = w' := by
  by_cases h1 : k = 102
  · subst h1
    go_enter Try.func29, Try.ntmps29
    go_wp2
    go_ret
    exact ⟨rfl, rfl⟩
  · by_cases h2 : k = 70
    · subst h2
      go_enter Try.func29, Try.ntmps29
      go_wp2
      go_ret
      exact ⟨rfl, rfl⟩
    · by_cases h3 : k = 116
      · subst h3
        go_enter Try.func29, Try.ntmps29
        go_wp2
        go_ret
        exact ⟨rfl, rfl⟩
      · by_cases h4 : k = 84
        · subst h4
          go_enter Try.func29, Try.ntmps29
          go_wp2
          go_ret
          exact ⟨rfl, rfl⟩
        · have H : Hid (Seek.other k = 0) := by show _ = _; unfold Seek.other; rw [if_neg h1, if_neg h2, if_neg h3, if_neg h4]
          have g1 : (k == 102) = false := by simpa using h1
          have g2 : (k == 70) = false := by simpa using h2
          have g3 : (k == 116) = false := by simpa using h3
          have g4 : (k == 84) = false := by simpa using h4
          clear h1 h2 h3 h4
          go_enter Try.func29, Try.ntmps29
          go_wp2
          go_ret
          exact ⟨by rw [H.out]; rfl, rfl⟩
theorem find_ten (r : ByteArray) : (r.toList == [10]) = decide (r.data.toList = [10]) := by
  rw [show r.toList = r.data.toList by have := bs_tl r.data.toList; rwa [bs_data] at this]
  by_cases h : r.data.toList = [10] <;> simp [h]
set_option maxHeartbeats 1000000 in
set_option maxRecDepth 100000 in
theorem seek_Right (k : Int) (r : ByteArray) (hr : r.size ≤ 9223372036854775807) (w : World) :
    Calls Try.prog 10 #[findV k r] w fun e w' => e = .returned (.bool (Seek.right k r.data.toList)) ∧ Below w.heap.size w w' := by
  obtain ⟨c0, c1⟩ := find_cells w k r
  have h0 := find_new w k r
  have C := Lib.hid (fun w => seek_other k w)
  have CN := Lib.hid (fun w => utf_Next r 0 hr w)
  have E := Lib.hid (Seek.one_next r.data.toList)
  rw [data_len] at E
  have T := find_ten r
  have H : Hid (Seek.right k r.data.toList = (decide (Seek.other k ≠ 0) && Utf.one r.data.toList && decide (r.data.toList ≠ [10]))) := rfl
  generalize Seek.right k r.data.toList = V at *
  generalize Seek.other k = o at *
  generalize Utf.next r.data.toList 0 = x at *
  generalize Utf.one r.data.toList = oo at *
  by_cases ho : o = 0
  · have g1 : (o != 0) = false := by simpa using ho
    have HV : Hid (V = false) := by show _ = _; rw [H.out]; simp [ho]
    clear ho H E T CN
    go_enter Try.func10, Try.ntmps10
    go_wp2_with fail
    go_big_quiet ((go_at_call 29; exact (C.out _).mono fun e w1 h => ⟨h.1, _, h.2.symm⟩))
    go_wp2
    go_ret
    exact ⟨by rw [HV.out]; rfl, below_ond2 h0 _⟩
  · have g1 : (o != 0) = true := by simpa using ho
    by_cases h10 : r.data.toList = [10]
    · have g2 : (r.toList == [10]) = true := by rw [T]; simp [h10]
      have HV : Hid (V = false) := by show _ = _; rw [H.out]; simp [h10]
      clear ho H E T CN h10
      go_enter Try.func10, Try.ntmps10
      go_wp2_with fail
      go_big_quiet ((go_at_call 29; exact (C.out _).mono fun e w1 h => ⟨h.1, _, h.2.symm⟩))
      go_wp2
      go_ret
      exact ⟨by rw [HV.out]; rfl, below_ond2 h0 _⟩
    · have g2 : (r.toList == [10]) = false := by rw [T]; simp [h10]
      have HV : Hid (V = (x == (r.size : Int))) := by
        show _ = _
        rw [H.out, ← E.out]
        simp [ho, h10]
        by_cases hx : x = (r.size : Int) <;> simp [hx]
      clear ho H E T h10
      go_enter Try.func10, Try.ntmps10
      go_wp2_with fail
      go_big_quiet ((first | (go_at_call 29; exact (C.out _).mono fun e w1 h => ⟨h.1, _, h.2.symm⟩) | (go_at_call 16; exact (CN.out _).mono fun e w1 h => ⟨h.1, _, h.2.symm⟩)))
      go_wp2
      go_ret
      exact ⟨by rw [HV.out]; rfl, below_ond2 h0 _⟩
theorem seek_low {w w' : World} {B n : Nat} (h : w.grownBy w' (some n)) (hb : B ≤ w.heap.size) (hn : B ≤ n) : Below B w w' := ⟨h.os, h.tape, h.output, h.size, fun i hi => h.block i (by omega) (fun e => by injection e with e; omega)⟩
theorem below_onB {n : Nat} {w u v : World} (h : Below n w u) (g : Below u.heap.size u v) (hn : n ≤ w.heap.size := by omega) : Below n w v := h.trans (g.mono (Nat.le_trans hn h.size))
theorem below_onBd {n : Nat} {w u v : World} (h : Below n w u) (g : Below u.drew.heap.size u.drew v) (hn : n ≤ w.heap.size := by omega) : Below n w v := h.trans (((below_gb (gb_drew u none)).trans g).mono (Nat.le_trans hn h.size))
/-- The find of the other way, as a value. -/
def Seek.turnV (k : Int) (r : ByteArray) : Value := if Seek.right k r.data.toList then findV (Seek.other k) r else findV 0 ⟨#[]⟩
theorem Seek.turnV_no {k : Int} {r : ByteArray} (h : Seek.right k r.data.toList = false) : Seek.turnV k r = findV 0 ⟨#[]⟩ := if_neg (by simp [h])
theorem Seek.turnV_yes {k : Int} {r : ByteArray} (h : Seek.right k r.data.toList = true) : Seek.turnV k r = findV (Seek.other k) r := if_pos h
theorem Seek.right_size {k : Int} {r : ByteArray} (h : Seek.right k r.data.toList = true) : r.size ≤ 4 := by
  rw [← data_len]
  exact Utf.one_le (Seek.right_iff.1 h).2.1
set_option maxHeartbeats 1000000 in
set_option maxRecDepth 100000 in
theorem seek_Turn (k : Int) (r : ByteArray) (hr : r.size ≤ 9223372036854775807) (w : World) :
    Calls Try.prog 12 #[findV k r] w fun e w' => e = .returned (Seek.turnV k r) ∧ Below w.heap.size w w' := by
  have CR := Lib.hid (fun w => seek_Right k r hr w)
  have CO := Lib.hid (fun w => seek_other k w)
  obtain ⟨W, hWe⟩ : ∃ W, (w.alloc (findO k r)).alloc (findO 0 ⟨#[]⟩) = W := ⟨_, rfl⟩
  have b1 : Blk W w.heap.size 23 #[.int .i64 k, .string r] := by rw [← hWe]; exact (Blk.new w _ _).alloc _
  have b2 : Blk W (w.heap.size + 1) 23 #[.int .i64 0, .string ⟨#[]⟩] := by
    rw [← hWe]
    have := Blk.new (w.alloc (findO k r)) 23 #[.int .i64 0, .string ⟨#[]⟩]
    simpa using this
  have hW : Below w.heap.size w W := by rw [← hWe]; exact ((Below.refl _ w).alloc (Nat.le_refl _) _).alloc (by simp) _
  have CELL : Hid (∀ u, Below W.heap.size W u → (u.cell? ⟨w.heap.size, 0, none⟩ = some (.int .i64 k) ∧ u.cell? ⟨w.heap.size, 1, none⟩ = some (.string r)) ∧
      (u.cell? ⟨w.heap.size + 1, 0, none⟩ = some (.int .i64 0) ∧ u.cell? ⟨w.heap.size + 1, 1, none⟩ = some (.string ⟨#[]⟩) ∧ u.frozen? ⟨w.heap.size + 1, 0, none⟩ = false ∧ u.frozen? ⟨w.heap.size + 1, 1, none⟩ = false)) := fun u hu => by
    have k := b1.below hu b1.lt
    have k' := b2.below hu b2.lt
    exact ⟨⟨k.cell 0, k.cell 1⟩, k'.cell 0, k'.cell 1, k'.frozen 0, k'.frozen 1⟩
  have B2 := Lib.hid b2
  have HW := Lib.hid hW
  clear b1 b2 hW
  obtain ⟨⟨a0, a1⟩, _⟩ := CELL.out W (Below.refl _ _)
  cases hR : Seek.right k r.data.toList with
  | false =>
    rw [hR] at CR
    rw [Seek.turnV_no hR]
    clear hR CO
    go_enter Try.func12, Try.ntmps12
    go_wp2_with fail
    refine (CR.out _).mono ?_
    rintro e w1 ⟨rfl, hb1⟩
    have B1 := B2.out.below hb1 B2.out.lt
    obtain ⟨_, k0, k1, z0, z1⟩ := CELL.out _ hb1
    go_wp2
    have hs := gb_own (gb_below (some (w.heap.size + 1)) (HW.out.trans (hb1.mono HW.out.size))) (gb_trans (gb_set w1 (w.heap.size + 1) 0 (.int .i64 0)) (gb_set _ (w.heap.size + 1) 1 (.string ⟨#[]⟩))) (fun i hi => by injection hi with hi; omega)
    exact bodyPost_ret (v := findV 0 ⟨#[]⟩) (results_cell_row rfl _ _ (w.heap.size + 1) 23 #[.int .i64 0, .string ⟨#[]⟩] (0, 0) _ rfl (show Blk _ _ _ _ by simpa using (B1.set_ 0 (.int .i64 0)).set_ 1 (.string ⟨#[]⟩)) Try.underlying23 rfl rfl) rfl
      ⟨rfl, seek_low hs (Nat.le_refl _) (by omega)⟩
  | true =>
    have K := Lib.hid (fun w => str_clone r w (by have := Seek.right_size hR; omega))
    rw [hR] at CR
    rw [Seek.turnV_yes hR]
    clear hR
    generalize Seek.other k = o at *
    go_enter Try.func12, Try.ntmps12
    go_wp2_with fail
    refine (CR.out _).mono ?_
    rintro e w1 ⟨rfl, hb1⟩
    obtain ⟨⟨a0, a1⟩, k0, k1, z0, z1⟩ := CELL.out _ hb1
    have hd := hb1
    go_wp2_with fail
    go_region_held3 (fun u => u.cell? ⟨w.heap.size, 0, none⟩ = some (.int .i64 k) ∧ u.cell? ⟨w.heap.size, 1, none⟩ = some (.string r)) (first | exact ⟨by assumption, by assumption⟩ | go_keep)
      (first
        | (go_at_call 29; with_reducible refine (CO.out _).mono ?_; rintro e w3 ⟨rfl, rfl⟩)
        | (go_at_call 31; with_reducible refine (K.out _).mono ?_; rintro e w4 ⟨rfl, hb4⟩; (first | replace hd := below_onB hd hb4 | replace hd := below_onBd hd hb4); obtain ⟨⟨f0, f1⟩, k0, k1, z0, z1⟩ := CELL.out _ hd))
    all_goals
      go_wp2
      have B4 := B2.out.below hd B2.out.lt
      have hs := gb_own (gb_below (some (w.heap.size + 1)) (HW.out.trans (hd.mono HW.out.size))) (gb_trans (gb_set w4 (w.heap.size + 1) 0 (.int .i64 o)) (gb_set _ (w.heap.size + 1) 1 (.string r))) (fun i hi => by injection hi with hi; omega)
      exact bodyPost_ret (v := findV o r) (results_cell_row rfl _ _ (w.heap.size + 1) 23 #[.int .i64 o, .string r] (0, 0) _ rfl (show Blk _ _ _ _ by simpa using (B4.set_ 0 (.int .i64 o)).set_ 1 (.string r)) Try.underlying23 rfl rfl) rfl
        ⟨rfl, seek_low hs (Nat.le_refl _) (by omega)⟩
theorem seek_lead (s r : ByteArray) {rs : List (List UInt8)} (hd : Utf.dec s.data.toList = some rs) (h1 : Utf.one r.data.toList = true) {a b p j k0 : Nat} (ha : a ≤ p) (hp : p ≤ b) (hb : b ≤ s.size) (hs : s.size < 4294967281) (hj : Utf.off rs j = b) (hk : Utf.off rs k0 = p) (n : Int) (hn : n ≤ 9223372036854775807) {k : Int} (hkd : k = 102 ∨ k = 70 ∨ k = 116 ∨ k = 84) (w : World) (hm : MaxAt w) :
    Calls Try.prog 21 #[rowV s r a b, .int .i64 p, .int .i64 k, .int .i64 n] w fun e w' => e = .returned (.int .i64 (Seek.beside s.data.toList k (Seek.nth (Seek.ons k) (Seek.hits s.data.toList r.data.toList a b) p (Seek.times n)))) ∧ Below w.heap.size w w' := by
  rcases hkd with rfl | rfl | rfl | rfl
  · exact seek_lead_f s r hd h1 ha hp hb hs hj hk n hn w hm
  · exact seek_lead_bigF s r hd h1 ha hp hb hs hk n hn w hm
  · exact seek_lead_t s r hd h1 ha hp hb hs hj hk n hn w hm
  · exact seek_lead_bigT s r hd h1 ha hp hb hs hk n hn w hm
/-- The answer that leads to v. -/
def Seek.res (v : Int) : Value := if v < 0 then .tuple #[.int .i64 0, .bool false] else .tuple #[.int .i64 v, .bool true]
theorem Seek.res_no {v : Int} (h : v < 0) : Seek.res v = .tuple #[.int .i64 0, .bool false] := if_pos h
theorem Seek.res_at {v : Int} (h : 0 ≤ v) : Seek.res v = .tuple #[.int .i64 v, .bool true] := if_neg (by omega)
set_option maxHeartbeats 1000000 in
set_option maxRecDepth 100000 in
theorem seek_Go_wrong (s : ByteArray) (p k : Int) (r : ByteArray) (n : Int) (hs : s.size < 4294967281) (hr : r.size ≤ 9223372036854775807) (h : Seek.right k r.data.toList = false ∨ Utf.place s.data.toList p = false) (w : World) :
    Calls Try.prog 8 #[.string s, .int .i64 p, findV k r, .int .i64 n] w fun e w' => e = .returned (.tuple #[.int .i64 0, .bool false]) ∧ Below w.heap.size w w' := by
  have h0 := find_new w k r
  obtain ⟨c0, c1⟩ := find_cells w k r
  have CR := Lib.hid (fun w => seek_Right k r hr w)
  have CP := Lib.hid (fun w => utf_Place s p (by omega) w)
  cases hR : Seek.right k r.data.toList with
  | false =>
    rw [hR] at CR
    clear hR h CP
    go_enter Try.func8, Try.ntmps8
    go_wp2_with (go_at_call 10; refine (CR.out _).mono ?_; rintro e w1 ⟨rfl, hb1⟩)
    go_ret2
    exact ⟨rfl, h0.trans (hb1.mono h0.size)⟩
  | true =>
    have hP : Utf.place s.data.toList p = false := by
      rcases h with h | h
      · rw [hR] at h; cases h
      · exact h
    rw [hR] at CR
    rw [hP] at CP
    clear hR h hP
    go_enter Try.func8, Try.ntmps8
    go_wp2_with (first | (go_at_call 10; refine (CR.out _).mono ?_; rintro e w1 ⟨rfl, hb1⟩) | (go_at_call 15; refine (CP.out _).mono ?_; rintro e w2 ⟨rfl, rfl⟩))
    go_ret2
    exact ⟨rfl, h0.trans (hb1.mono h0.size)⟩
theorem below_onBa {w u v : World} {o : Obj} (h : Below w.heap.size w u) (g : Below (u.alloc o).heap.size (u.alloc o) v) : Below w.heap.size w v := (h.alloc h.size o).trans (g.mono (h.alloc h.size o).size)
theorem below_onBad {w u v : World} {o : Obj} (h : Below w.heap.size w u) (g : Below (u.drew.alloc o).heap.size (u.drew.alloc o) v) : Below w.heap.size w v := below_onBa (u := u.drew) h.drew g
abbrev row0 : Array Value := #[.string ⟨#[]⟩, .int .i64 0, .int .i64 0, .string ⟨#[]⟩]
theorem row_blk {u v : World} (g : Below (u.alloc (.cells #[.string ⟨#[]⟩, .int .i64 0, .int .i64 0, .string ⟨#[]⟩] 34)).heap.size (u.alloc (.cells #[.string ⟨#[]⟩, .int .i64 0, .int .i64 0, .string ⟨#[]⟩] 34)) v) : Blk v u.heap.size 34 row0 := by
  have b := Blk.new u 34 row0
  exact b.below g b.lt
theorem row_blkd {u v : World} (g : Below (u.drew.alloc (.cells #[.string ⟨#[]⟩, .int .i64 0, .int .i64 0, .string ⟨#[]⟩] 34)).heap.size (u.drew.alloc (.cells #[.string ⟨#[]⟩, .int .i64 0, .int .i64 0, .string ⟨#[]⟩] 34)) v) : Blk v u.heap.size 34 row0 := row_blk (u := u.drew) g
theorem row_blkx {u v : World} (g : Below (u.alloc (.cells #[.string ⟨#[]⟩, .int .i64 0, .int .i64 0, .string ⟨#[]⟩] 34)).drew.heap.size (u.alloc (.cells #[.string ⟨#[]⟩, .int .i64 0, .int .i64 0, .string ⟨#[]⟩] 34)).drew v) : Blk v u.heap.size 34 row0 := row_blkd (u := u) g
theorem below_onBx {w u v : World} {o : Obj} (h : Below w.heap.size w u) (g : Below (u.alloc o).drew.heap.size (u.alloc o).drew v) : Below w.heap.size w v := below_onBad h g
theorem row_four {u : World} {G : Nat} (h : Blk u G 34 row0) : u.cell? ⟨G, 0, none⟩ = some (.string ⟨#[]⟩) ∧ u.cell? ⟨G, 1, none⟩ = some (.int .i64 0) ∧ u.cell? ⟨G, 2, none⟩ = some (.int .i64 0) ∧ u.cell? ⟨G, 3, none⟩ = some (.string ⟨#[]⟩) ∧ u.frozen? ⟨G, 0, none⟩ = false ∧ u.frozen? ⟨G, 1, none⟩ = false ∧ u.frozen? ⟨G, 2, none⟩ = false ∧ u.frozen? ⟨G, 3, none⟩ = false :=
  ⟨h.cell 0, h.cell 1, h.cell 2, h.cell 3, h.frozen 0, h.frozen 1, h.frozen 2, h.frozen 3⟩
/-- The row lies in block G. -/
def RowIn (U : World) (G : Nat) (s r : ByteArray) (y z : Nat) : Prop := U.cell? ⟨G, 0, none⟩ = some (.string s) ∧ U.cell? ⟨G, 1, none⟩ = some (.int .i64 y) ∧ U.cell? ⟨G, 2, none⟩ = some (.int .i64 z) ∧ U.cell? ⟨G, 3, none⟩ = some (.string r)
theorem row_in1 (u : World) (s r : ByteArray) (y z : Nat) : RowIn (u.alloc (.cells #[.string s, .int .i64 y, .int .i64 z, .string r] 34)) u.heap.size s r y z := row_cells u s r y z
theorem row_in2 {u : World} {G : Nat} (h : Blk u G 34 row0) (s r : ByteArray) (y z : Nat) : RowIn ((((u.setCell ⟨G, 0, none⟩ (.string s)).setCell ⟨G, 1, none⟩ (.int .i64 y)).setCell ⟨G, 2, none⟩ (.int .i64 z)).setCell ⟨G, 3, none⟩ (.string r)) G s r y z := by
  have b := (((h.set_ 0 (.string s)).set_ 1 (.int .i64 y)).set_ 2 (.int .i64 z)).set_ 3 (.string r)
  exact ⟨b.cell 0, b.cell 1, b.cell 2, b.cell 3⟩
theorem row_in3 {n : Nat} {w u : World} {G : Nat} (h : Below n w u) (hn : n ≤ G) (s r : ByteArray) (y z : Nat) : Below n w ((((u.setCell ⟨G, 0, none⟩ (.string s)).setCell ⟨G, 1, none⟩ (.int .i64 y)).setCell ⟨G, 2, none⟩ (.int .i64 z)).setCell ⟨G, 3, none⟩ (.string r)) :=
  (((h.setCell (p := ⟨G, 0, none⟩) hn _).setCell (p := ⟨G, 1, none⟩) hn _).setCell (p := ⟨G, 2, none⟩) hn _).setCell (p := ⟨G, 3, none⟩) hn _
set_option maxHeartbeats 1000000 in
set_option maxRecDepth 100000 in
theorem seek_Go_right (s : ByteArray) (p k : Int) (r : ByteArray) (n : Int) (hs : s.size < 4294967281) (hn : n ≤ 9223372036854775807) (hR : Seek.right k r.data.toList = true) (hP : Utf.place s.data.toList p = true) (w : World) (hm : MaxAt w) :
    Calls Try.prog 8 #[.string s, .int .i64 p, findV k r, .int .i64 n] w fun e w' => e = .returned (Seek.res (Seek.goV s.data.toList p k r.data.toList n)) ∧ Below w.heap.size w w' := by
  have h0 := find_new w k r
  have hr4 := Seek.right_size hR
  have CR := Lib.hid (fun w => seek_Right k r (by omega) w)
  have CP := Lib.hid (fun w => utf_Place s p (by omega) w)
  have CO := Lib.hid (fun w => line_Of s p (by omega) w)
  have CS := Lib.hid (fun w => line_Start s (of_ s.data.toList p) (by omega) w)
  have CE := Lib.hid (fun w => line_End s (of_ s.data.toList p) (by omega) w)
  have hV := Seek.goV_at n hR hP
  have hl := data_len s
  obtain ⟨hk, h1, h10⟩ := Seek.right_iff.1 hR
  obtain ⟨rs, c, k', i, m, j, x, I⟩ := Seek.in_of hP r.data.toList (Utf.one_ne h1)
  have a3 := Utf.off_mono (rs := rs) I.im
  have a4 := Utf.off_mono (rs := rs) I.mj
  have b1 := I.oi
  have b2 := I.oj
  have b3 := I.om
  have b4 := I.le
  have CL := Lib.hid (fun (w : World) (hm : MaxAt w) => seek_lead s r I.dec h1 (a := x.1) (b := x.2) (p := c) (by omega) (by omega) (by omega) hs I.oj I.om n hn hk w hm)
  rw [← I.lh, ← I.place, ← hV] at CL
  have hMw := Lib.hid hm
  rw [hR] at CR
  rw [hP] at CP
  rw [I.start] at CS
  rw [I.stop] at CE
  clear hR hP hV hk h1 h10 I a3 a4 b1 b2 b3 b4 hr4 hs hn hl hm
  generalize of_ s.data.toList p = q at *
  generalize Seek.goV s.data.toList p k r.data.toList n = V at *
  obtain ⟨y, z⟩ := x
  have CELL : Hid (∀ u, Below (w.alloc (findO k r)).heap.size (w.alloc (findO k r)) u → u.cell? ⟨w.heap.size, 0, none⟩ = some (.int .i64 k) ∧ u.cell? ⟨w.heap.size, 1, none⟩ = some (.string r)) := fun u h => find_after h
  obtain ⟨c0, c1⟩ := CELL.out _ (Below.refl _ _)
  have hX := Below.refl (w.alloc (findO k r)).heap.size (w.alloc (findO k r))
  go_enter Try.func8, Try.ntmps8
  go_wp2_with fail
  refine (CR.out _).mono ?_
  rintro e w1 ⟨rfl, hb1⟩
  replace hX := below_onB hX hb1
  obtain ⟨c0, c1⟩ := CELL.out _ hX
  clear hb1
  go_wp2_with fail
  refine (CP.out _).mono ?_
  rintro e w2 ⟨rfl, rfl⟩
  go_wp2_with fail
  refine (CO.out _).mono ?_
  rintro e w3 ⟨rfl, hb3⟩
  replace hX := below_onB hX hb3
  obtain ⟨c0, c1⟩ := CELL.out _ hX
  obtain ⟨n0, n1, n2⟩ := find_lt hX
  clear hb3
  go_wp2_with fail
  go_region_held3 (fun u => u.cell? ⟨w.heap.size, 0, none⟩ = some (.int .i64 k) ∧ u.cell? ⟨w.heap.size, 1, none⟩ = some (.string r)) (first | (with_reducible exact ⟨by assumption, by assumption⟩) | go_keep)
    (first
      | (go_at_call 19; with_reducible refine (CS.out _).mono ?_; rintro e w4 ⟨rfl, hb4⟩; (first | (replace hG := hG.below hb4 hG.lt; obtain ⟨e0, e1, e2, e3, z0, z1, z2, z3⟩ := row_four hG) | (with_reducible have hG := row_blk hb4; have hN := hX.size; obtain ⟨e0, e1, e2, e3, z0, z1, z2, z3⟩ := row_four hG) | (with_reducible have hG := row_blkd hb4; have hN := hX.size; obtain ⟨e0, e1, e2, e3, z0, z1, z2, z3⟩ := row_four hG) | (with_reducible have hG := row_blkx hb4; have hN := hX.size; obtain ⟨e0, e1, e2, e3, z0, z1, z2, z3⟩ := row_four hG) | skip); (first | (with_reducible replace hX := below_onr hX hb4) | (with_reducible replace hX := below_onrd hX hb4) | (with_reducible replace hX := below_onBa hX hb4) | (with_reducible replace hX := below_onBad hX hb4) | (with_reducible replace hX := below_onBx hX hb4)); obtain ⟨c0, c1⟩ := CELL.out _ hX; obtain ⟨n0, n1, n2⟩ := find_lt hX)
      | (go_at_call 20; with_reducible refine (CE.out _).mono ?_; rintro e w4 ⟨rfl, hb4⟩; (first | (replace hG := hG.below hb4 hG.lt; obtain ⟨e0, e1, e2, e3, z0, z1, z2, z3⟩ := row_four hG) | (with_reducible have hG := row_blk hb4; have hN := hX.size; obtain ⟨e0, e1, e2, e3, z0, z1, z2, z3⟩ := row_four hG) | (with_reducible have hG := row_blkd hb4; have hN := hX.size; obtain ⟨e0, e1, e2, e3, z0, z1, z2, z3⟩ := row_four hG) | (with_reducible have hG := row_blkx hb4; have hN := hX.size; obtain ⟨e0, e1, e2, e3, z0, z1, z2, z3⟩ := row_four hG) | skip); (first | (with_reducible replace hX := below_onr hX hb4) | (with_reducible replace hX := below_onrd hX hb4) | (with_reducible replace hX := below_onBa hX hb4) | (with_reducible replace hX := below_onBad hX hb4) | (with_reducible replace hX := below_onBx hX hb4)); obtain ⟨c0, c1⟩ := CELL.out _ hX; obtain ⟨n0, n1, n2⟩ := find_lt hX))
  all_goals
    obtain ⟨U, hU, hGU, hXU⟩ : ∃ U, U = _ ∧ RowIn U _ s r y z ∧ Below (w.alloc (findO k r)).heap.size (w.alloc (findO k r)) U := (by
      first
      | exact ⟨_, rfl, row_in2 hG s r y z, row_in3 hX hN s r y z⟩
      | exact ⟨_, rfl, row_in1 _ s r y z, (hX.alloc hX.size _)⟩)
    rw [← hU]
    clear hU
    obtain ⟨d0, d1, d2, d3⟩ := hGU
    obtain ⟨c0, c1⟩ := CELL.out _ hXU
    have hMU := hMw.out.below (h0.trans (hXU.mono h0.size))
    have hT := h0.trans (hXU.mono h0.size)
    by_cases hv : V < 0
    · go_wp2_with fail
      refine (CL.out _ hMU).mono ?_
      rintro e w8 ⟨rfl, hb8⟩
      go_wp2
      go_ret2
      exact ⟨by rw [Seek.res_no hv]; rfl, hT.trans (hb8.mono hT.size)⟩
    · go_wp2_with fail
      refine (CL.out _ hMU).mono ?_
      rintro e w8 ⟨rfl, hb8⟩
      go_wp2
      go_ret2
      exact ⟨by rw [Seek.res_at (show 0 ≤ V by omega)]; rfl, hT.trans (hb8.mono hT.size)⟩
theorem seek_Go (s : ByteArray) (p k : Int) (r : ByteArray) (n : Int) (hs : s.size < 4294967281) (hr : r.size ≤ 9223372036854775807) (hn : n ≤ 9223372036854775807) (w : World) (hm : MaxAt w) :
    Calls Try.prog 8 #[.string s, .int .i64 p, findV k r, .int .i64 n] w fun e w' => e = .returned (Seek.res (Seek.goV s.data.toList p k r.data.toList n)) ∧ Below w.heap.size w w' := by
  by_cases h : Seek.right k r.data.toList = false ∨ Utf.place s.data.toList p = false
  · rw [Seek.goV_off h]
    exact seek_Go_wrong s p k r n hs hr h w
  · have hR : Seek.right k r.data.toList = true := by
      cases hR : Seek.right k r.data.toList with
      | true => rfl
      | false => exact absurd (.inl hR) h
    have hP : Utf.place s.data.toList p = true := by
      cases hP : Utf.place s.data.toList p with
      | true => rfl
      | false => exact absurd (.inr hP) h
    exact seek_Go_right s p k r n hs hn hR hP w hm
end Go.Proofs.Ytkhihmkpmlokiaa
