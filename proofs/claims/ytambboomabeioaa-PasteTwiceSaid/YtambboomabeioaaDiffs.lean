/-
  What makes one text of another one, as package change tells it.
-/
import Derived.Test.YtambboomabeioaaDiff
import Derived.Test.YtambboomabeioaaInts
import Derived.Deep.RegionHeld3
namespace Go.Proofs.Ytambboomabeioaa
open Go.RowKit
open Utf Chg
theorem tl_data (s : ByteArray) : s.toList = s.data.toList := bs_tl s.data.toList
theorem extract_from (s : ByteArray) (i : Nat) : s.extract i s.size = bs (s.data.toList.drop i) := by
  rw [Lib.extract_eq, List.take_of_length_le (by rw [List.length_drop, data_len]; exact Nat.le_refl _)]
  rfl
theorem extract_to (s : ByteArray) (k : Nat) : s.extract 0 k = bs (s.data.toList.take k) := by
  rw [Lib.extract_eq, List.drop_zero, Nat.sub_zero]
  rfl
theorem gb_low {w w' : World} {r : Nat} (h : w.grownBy w' (some r)) (hr : w.heap.size ≤ r) : Below w.heap.size w w' :=
  ⟨h.os, h.tape, h.output, h.size, fun i hi => h.block i hi (fun e => by injection e with e; omega)⟩
theorem dec_drop {s : List UInt8} {rs : List (List UInt8)} (h : dec s = some rs) (i : Nat) : dec (s.drop (off rs i)) = some (rs.drop i) := by
  obtain ⟨h1, rfl⟩ := dec_some h
  rw [off_drop]
  exact dec_of fun r hr => h1 r (List.mem_of_mem_drop hr)
set_option maxHeartbeats 1000000 in
set_option maxRecDepth 100000 in
theorem change_Diff (a b : ByteArray) (ha : a.size ≤ 281474976710656) (hb : b.size ≤ 281474976710656) (w : World) :
    Calls Try.prog 14 #[.string a, .string b] w fun e w' => e = .returned (.agg #[.int .i64 (dAt a.data.toList b.data.toList : Nat), .string (bs (dOld a.data.toList b.data.toList)), .string (bs (dOld b.data.toList a.data.toList))]) ∧ Below w.heap.size w w' := by
  have hla := data_len a
  have hlb := data_len b
  have V1 := Lib.hid (fun w => utf_Valid a (by omega) w)
  have V2 := Lib.hid (fun w => utf_Valid b (by omega) w)
  by_cases hab : a.data.toList = b.data.toList
  · have H : Hid (dAt a.data.toList b.data.toList = 0 ∧ dOld a.data.toList b.data.toList = [] ∧ dOld b.data.toList a.data.toList = []) := ⟨dAt_none (Or.inl hab), dOld_none (Or.inl hab), dOld_none (Or.inl hab.symm)⟩
    have g : (a.toList == b.toList) = true := by
      rw [show b = a by rw [← bs_data a, ← bs_data b, hab]]
      exact beq_self_eq_true _
    clear hab
    go_enter Try.func14, Try.ntmps14
    go_wp2
    exact bodyPost_ret (v := .agg #[.int .i64 0, .string ⟨#[]⟩, .string ⟨#[]⟩]) (results_cell_row rfl _ _ w.heap.size 37 #[.int .i64 0, .string ⟨#[]⟩, .string ⟨#[]⟩] (0, 0) _ rfl (Blk.new _ _ _) Try.underlying37 rfl rfl) rfl
      ⟨by rw [H.out.1, H.out.2.1, H.out.2.2]; rfl, (Below.refl _ w).alloc (Nat.le_refl _) _⟩
  · have g : (a.toList == b.toList) = false := by
      refine beq_false_of_ne fun e => hab ?_
      rw [tl_data, tl_data] at e
      exact e
    cases hx : dec a.data.toList with
    | none =>
      have H : Hid (dAt a.data.toList b.data.toList = 0 ∧ dOld a.data.toList b.data.toList = [] ∧ dOld b.data.toList a.data.toList = []) := ⟨dAt_none (Or.inr (Or.inl hx)), dOld_none (Or.inr (Or.inl hx)), dOld_none (Or.inr (Or.inr hx))⟩
      rw [valid_bad hx] at V1
      clear hab hx
      go_enter Try.func14, Try.ntmps14
      go_wp2_with (first | (go_at_call 20; with_reducible refine (V1.out _).mono ?_; rintro e w1 ⟨rfl, rfl⟩))
      exact bodyPost_ret (v := .agg #[.int .i64 0, .string ⟨#[]⟩, .string ⟨#[]⟩]) (results_cell_row rfl _ _ w.heap.size 37 #[.int .i64 0, .string ⟨#[]⟩, .string ⟨#[]⟩] (0, 0) _ rfl (Blk.new _ _ _) Try.underlying37 rfl rfl) rfl
        ⟨by rw [H.out.1, H.out.2.1, H.out.2.2]; rfl, (Below.refl _ w).alloc (Nat.le_refl _) _⟩
    | some x =>
      cases hy : dec b.data.toList with
      | none =>
        have H : Hid (dAt a.data.toList b.data.toList = 0 ∧ dOld a.data.toList b.data.toList = [] ∧ dOld b.data.toList a.data.toList = []) := ⟨dAt_none (Or.inr (Or.inr hy)), dOld_none (Or.inr (Or.inr hy)), dOld_none (Or.inr (Or.inl hy))⟩
        rw [valid_ok hx] at V1
        rw [valid_bad hy] at V2
        clear hab hx hy
        go_enter Try.func14, Try.ntmps14
        go_wp2_with (first | (go_at_call 20; with_reducible refine (V1.out _).mono ?_; rintro e w1 ⟨rfl, rfl⟩) | (go_at_call 20; with_reducible refine (V2.out _).mono ?_; rintro e w1 ⟨rfl, rfl⟩))
        exact bodyPost_ret (v := .agg #[.int .i64 0, .string ⟨#[]⟩, .string ⟨#[]⟩]) (results_cell_row rfl _ _ w.heap.size 37 #[.int .i64 0, .string ⟨#[]⟩, .string ⟨#[]⟩] (0, 0) _ rfl (Blk.new _ _ _) Try.underlying37 rfl rfl) rfl
          ⟨by rw [H.out.1, H.out.2.1, H.out.2.2]; rfl, (Below.refl _ w).alloc (Nat.le_refl _) _⟩
      | some y =>
        have hab' : b.data.toList ≠ a.data.toList := fun e => hab e.symm
        have ho := off_in hx (cp x y)
        have e1 := extract_from a (off x (cp x y))
        have e2 := extract_from b (off x (cp x y))
        have d1 := dec_drop hx (cp x y)
        have d2 := dec_drop hy (cp x y)
        have hoy : off x (cp x y) = off y (cp x y) := off_same (cp_take (Nat.le_refl _))
        have ho2 := off_in hy (cp x y)
        rw [← hoy] at d2 ho2
        rw [dAt_some hab hx hy, dOld_some hab hx hy, dOld_some hab' hy hx]
        have hl1 := tl_off (x.drop (cp x y)) (y.drop (cp x y))
        have hl2 := tl_off (y.drop (cp x y)) (x.drop (cp x y))
        rw [tl_comm (y.drop (cp x y))] at hl2
        have hm1 : mid x y = (x.drop (cp x y)).take ((x.drop (cp x y)).length - cs (x.drop (cp x y)) (y.drop (cp x y))) := rfl
        have hm2 : mid y x = (y.drop (cp x y)).take ((y.drop (cp x y)).length - cs (y.drop (cp x y)) (x.drop (cp x y))) := by rw [cp_comm x y]; rfl
        rw [valid_ok hx] at V1
        rw [valid_ok hy] at V2
        have C1 := Lib.hid (fun w => change_head a b hx hy ha w)
        have C2 := change_tail (bs (a.data.toList.drop (off x (cp x y)))) (bs (b.data.toList.drop (off x (cp x y)))) d1 d2 (by rw [bs_size, List.length_drop]; omega) (by rw [bs_size, List.length_drop]; omega)
        obtain ⟨k1, hk1⟩ : ∃ k, off (x.drop (cp x y)) ((x.drop (cp x y)).length - cs (x.drop (cp x y)) (y.drop (cp x y))) = k := ⟨_, rfl⟩
        obtain ⟨k2, hk2⟩ : ∃ k, off (y.drop (cp x y)) ((y.drop (cp x y)).length - cs (y.drop (cp x y)) (x.drop (cp x y))) = k := ⟨_, rfl⟩
        have t1 : (a.data.toList.drop (off x (cp x y))).take k1 = (mid x y).flatten := by
          rw [hm1, ← off_take, hk1, (dec_some d1).2]
        have t2 : (b.data.toList.drop (off x (cp x y))).take k2 = (mid y x).flatten := by
          rw [hm2, ← off_take, hk2, (dec_some d2).2]
        have s1 : (bs (a.data.toList.drop (off x (cp x y)))).size = k1 + tl (x.drop (cp x y)) (y.drop (cp x y)) := by
          rw [bs_size, (dec_some d1).2, ← hl1, hk1]
        have s2 : (bs (b.data.toList.drop (off x (cp x y)))).size = k2 + tl (x.drop (cp x y)) (y.drop (cp x y)) := by
          rw [bs_size, (dec_some d2).2, ← hl2, hk2]
        have x1 : (bs (a.data.toList.drop (off x (cp x y)))).extract 0 k1 = bs (mid x y).flatten := by rw [extract_to, bs_toList, t1]
        have x2 : (bs (b.data.toList.drop (off x (cp x y)))).extract 0 k2 = bs (mid y x).flatten := by rw [extract_to, bs_toList, t2]
        have z1 : (bs (mid x y).flatten).size ≤ 281474976710656 := by rw [← x1, ByteArray.size_extract, bs_size, List.length_drop]; omega
        have z2 : (bs (mid y x).flatten).size ≤ 281474976710656 := by rw [← x2, ByteArray.size_extract, bs_size, List.length_drop]; omega
        have q1 : (bs (a.data.toList.drop (off x (cp x y)))).size ≤ 281474976710656 := by rw [bs_size, List.length_drop]; omega
        have q2 : (bs (b.data.toList.drop (off x (cp x y)))).size ≤ 281474976710656 := by rw [bs_size, List.length_drop]; omega
        rw [hla] at ho
        rw [hlb] at ho2
        have HC2 := Lib.hid C2
        have K1 := Lib.hid (fun w => str_clone (bs (mid x y).flatten) w z1)
        have K2 := Lib.hid (fun w => str_clone (bs (mid y x).flatten) w z2)
        clear hab hab' hx hy d1 d2 hoy hl1 hl2 hm1 hm2 hk1 hk2 t1 t2 z1 z2 C2
        generalize bs (a.data.toList.drop (off x (cp x y))) = a1 at *
        generalize bs (b.data.toList.drop (off x (cp x y))) = b1 at *
        generalize bs (mid x y).flatten = A at *
        generalize bs (mid y x).flatten = B at *
        generalize tl (x.drop (cp x y)) (y.drop (cp x y)) = L at *
        generalize off x (cp x y) = O at *
        have r1 : IntKind.i64.wrap ((a1.size : Int) - (L : Int)) = (a1.size : Int) - (L : Int) := by rw [IntKind.wrap_i64]; omega
        have r2 : IntKind.i64.wrap ((b1.size : Int) - (L : Int)) = (b1.size : Int) - (L : Int) := by rw [IntKind.wrap_i64]; omega
        have j1 : (0 : Int) ≤ (a1.size : Int) - (L : Int) := by omega
        have j2 : (0 : Int) ≤ (b1.size : Int) - (L : Int) := by omega
        have j3 : (a1.size : Int) - (L : Int) ≤ (a1.size : Int) := by omega
        have j4 : (b1.size : Int) - (L : Int) ≤ (b1.size : Int) := by omega
        have j5 : L ≤ a1.size := by omega
        have j6 : L ≤ b1.size := by omega
        rw [show k1 = a1.size - L by omega] at x1
        rw [show k2 = b1.size - L by omega] at x2
        clear s1 s2
        go_enter Try.func14, Try.ntmps14
        go_wp2_with (first
          | (go_at_call 20; with_reducible refine (V1.out _).mono ?_; rintro e w1 ⟨rfl, rfl⟩)
          | (go_at_call 20; with_reducible refine (V2.out _).mono ?_; rintro e w1 ⟨rfl, rfl⟩)
          | (go_at_call 47; refine (C1.out _).mono ?_; rintro e w1 ⟨rfl, hb1⟩))
        go_quiet (fail)
        go_wp2_with (go_at_call 48; refine (HC2.out _).mono ?_; rintro e w2 ⟨rfl, hb2⟩)
        have h0 : Below (w.alloc (.cells #[.int .i64 0, .string ⟨#[]⟩, .string ⟨#[]⟩] 37)).heap.size (w.alloc (.cells #[.int .i64 0, .string ⟨#[]⟩, .string ⟨#[]⟩] 37)) w2 := (hb1.trans ((below_gb (gb_drewN w1 nq none)).mono hb1.size)).trans (hb2.mono hb1.size)
        have BK := (Blk.new w 37 #[.int .i64 0, .string ⟨#[]⟩, .string ⟨#[]⟩]).below h0 (by simp)
        have HW : Below w.heap.size w w2 := ((Below.refl _ w).alloc (Nat.le_refl _) _).trans (h0.mono (by simp))
        have hlt : w.heap.size < w2.heap.size := BK.lt
        have CELL : Hid (∀ u, Below w2.heap.size w2 u → (u.cell? ⟨w.heap.size, 0, none⟩ = some (.int .i64 0) ∧ u.cell? ⟨w.heap.size, 1, none⟩ = some (.string ⟨#[]⟩) ∧ u.cell? ⟨w.heap.size, 2, none⟩ = some (.string ⟨#[]⟩) ∧ u.frozen? ⟨w.heap.size, 0, none⟩ = false ∧ u.frozen? ⟨w.heap.size, 1, none⟩ = false ∧ u.frozen? ⟨w.heap.size, 2, none⟩ = false)) := fun u hu => by
          have k := BK.below hu hlt
          exact ⟨k.cell 0, k.cell 1, k.cell 2, k.frozen 0, k.frozen 1, k.frozen 2⟩
        have HBK := Lib.hid BK
        clear BK h0 hb1 hb2
        go_region_held3 (fun _ => True) (exact trivial) (first
          | (go_at_call 49; with_reducible refine (K1.out _).mono ?_; rintro e w3 ⟨rfl, hb3⟩)
          | (go_at_call 49; with_reducible refine (K2.out _).mono ?_; rintro e w4 ⟨rfl, hb4⟩; have hb5 := ((below_gb (gb_drew w2 none)).trans (hb3.mono (Nat.le_refl _))).trans (hb4.mono (Nat.le_trans (gb_drew w2 none).size hb3.size)); obtain ⟨k0, k1', k2', z0, z1, z2⟩ := CELL.out _ hb5))
        all_goals
          go_wp2
          have B4 := HBK.out.below hb5 hlt
          have B5 := ((B4.set_ 0 (.int .i64 (O : Nat))).set_ 1 (.string A)).set_ 2 (.string B)
          have hset := gb_own (gb_below (some w.heap.size) (HW.trans (hb5.mono HW.size))) (gb_trans (gb_trans (gb_set w4 w.heap.size 0 (.int .i64 (O : Nat))) (gb_set _ w.heap.size 1 (.string A))) (gb_set _ w.heap.size 2 (.string B))) (fun i hi => by injection hi with hi; omega)
          exact bodyPost_ret (v := .agg #[.int .i64 (O : Nat), .string A, .string B]) (results_cell_row rfl _ _ w.heap.size 37 #[.int .i64 (O : Nat), .string A, .string B] (0, 0) _ rfl (show Blk _ _ _ _ by simpa using B5) Try.underlying37 rfl rfl) rfl
            ⟨rfl, gb_low hset (Nat.le_refl _)⟩
end Go.Proofs.Ytambboomabeioaa
