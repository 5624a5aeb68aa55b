/-
  Bytes are put in where a table was not given by New; bytes are taken out.
-/
import Derived.Test.YtjmedlnboofgdaaPut
namespace Go.Proofs.Ytjmedlnboofgdaa
open Go.RowKit
open Pc
set_option maxHeartbeats 2000000 in
set_option maxRecDepth 100000 in
theorem put_ins_zero {B p : Nat} {w : World} (hB : B ≤ w.heap.size) (hZ : Zero B p w) (x : Nat) (s : ByteArray) (hx : x ≤ ([] : List (List UInt8)).flatten.length) (hs : 0 < s.size) (ha : 0 + s.size ≤ 140737488355328) :
    Calls Try.prog 21 #[.pointer (some ⟨p, 0, none⟩), .int .i64 x, .int .i64 x, .string s] w fun e w' => e = .returned (.int .i64 0) ∧ ∃ ps', Hid (ps'.flatten = ins ([] : List (List UInt8)).flatten x s.data.toList) ∧ ps'.length ≤ 0 + 2 ∧ Tab B p ps' (0 + s.size) w' ∧ Keeps B w w' := by
  have hx0 : x = 0 := by simpa using hx
  have G := tab_fits (zero_looks hZ) (x : Nat) (x : Nat)
  rw [decide_eq_true (show 0 ≤ ((x : Nat) : Int) ∧ ((x : Nat) : Int) ≤ ((x : Nat) : Int) ∧ ((x : Nat) : Int) ≤ ((0 : Nat) : Int) by omega)] at G
  clear hx0
  have G1 := Lib.hid G
  have G2 := Lib.hid (zero_given hZ.2)
  have G3 := Lib.hid (pc_begin ⟨#[]⟩ hB hZ.1 hZ.2)
  have E0 : one (⟨#[]⟩ : ByteArray).data.toList = [] := rfl
  rw [E0] at G3
  clear G E0
  have g1 : s.toList.isEmpty = false := by rw [toList_data]; have := data_len s; cases h : s.data.toList with | nil => rw [h] at this; simp at this; omega | cons b r => rfl
  go_enter Try.func21, Try.ntmps21
  go_wp2_with (first
    | (go_at_call 25; refine G1.out.mono ?_; rintro e w2 ⟨rfl, rfl⟩)
    | (go_at_call 20; refine G2.out.mono ?_; rintro e w2 ⟨rfl, rfl⟩)
    | (go_at_call 13; refine G3.out.mono ?_; rintro e w0 ⟨rfl, hT, hK0⟩))
  have hBW : B ≤ w0.heap.size := Nat.le_trans hB hK0.size
  have hK := hK0
  clear G1 G2
  have hNl : ([] : List (List UInt8)).flatten.length ≤ 140737488355328 := (by simp)
  refine (tab_split hBW hT x hx hNl (by simp)).mono ?_
  rintro e w1 ⟨k, ps1, rfl, hP1, hT1, hK1⟩
  have hB1 := Nat.le_trans hBW hK1.size
  have S2 := tab_split hB1 hT1 x (by rw [hP1.out.flat]; omega) (by rw [hP1.out.flat]; exact hNl) (by have := hP1.out.few; simp at this; omega)
  have hKa := hK.trans hK1
  clear hT1 hT hK hK1
  go_wp2_with fail
  refine S2.mono ?_
  rintro e w2 ⟨k2, ps2, rfl, hP2, hT2, hK2⟩
  have hB2 := Nat.le_trans hB1 hK2.size
  have hKb := hKa.trans hK2
  have hfew : ps2.length ≤ ([] : List (List UInt8)).length + 2 := by have := hP1.out.few; have := hP2.out.few; omega
  have hflat : ps2.flatten = ([] : List (List UInt8)).flatten := by rw [hP2.out.flat, hP1.out.flat]
  obtain ⟨vp, va, us, xs, h2⟩ := hT2
  obtain ⟨N, hN⟩ : ∃ N, N = ([] : List (List UInt8)).flatten.length := ⟨_, rfl⟩
  have hNb : N ≤ 140737488355328 := by rw [hN]; exact hNl
  have hus : us.length = ps2.length := by have := h2.rows.1; omega
  have hkk := parted_twice h2.full hP1.out.le hP1.out.at_ hP2.out
  subst hkk
  have hfew1 : ps2.length ≤ ([] : List (List UInt8)).length + 1 := by rw [hP2.out.same k2 hP1.out.le hP1.out.at_]; exact hP1.out.few
  have hat := hP2.out.at_
  have hkl := hP2.out.le
  clear S2 hKa hK2 hP1 hP2 hNl
  have H2 := Lib.hid h2
  have HA := Lib.hid (tab_add hB2 h2 s hs ha)
  have HF := Lib.hid hflat
  have HW := Lib.hid hfew1
  have HX := Lib.hid hat
  have HKL := Lib.hid hkl
  have HU := Lib.hid hus
  have HN := Lib.hid hN
  clear h2 hflat hfew hfew1 hat hus hN
  go_wp2_with fail
  refine HA.out.mono ?_
  rintro e w4 ⟨u, va', xs', rfl, h4, hu, hK4⟩
  have hB4 := Nat.le_trans hB2 hK4.size
  obtain ⟨A0, c0, rfl⟩ := own_shape h4.rows
  obtain ⟨i0, hi, hz0, hz1, hz2⟩ := info_parts info_piece
  have hu1 : u.oneCell' = true := by obtain ⟨g, off, rfl, _⟩ := hu; rfl
  have hnews : Hid (∀ j v, [u][j]? = some v → (w4.alloc (.cells #[u] 50)).cell? ((⟨w4.heap.size, 0, none⟩ : Addr).add j) = some v) := fun j v hj => by
    rw [add_at, Nat.zero_add]
    exact row_cell (cur := [u]) (n := 1) (by simpa using heap_alloc_new w4 (.cells #[u] 50)) rfl hj
  have hone : Hid (∀ v ∈ [u], v.oneCell' = true) := by intro v hv; simp at hv; subst hv; exact hu1
  have PACK : Hid (∀ v6 w6, w6.ownsRow w4.heap.size 50 1 v6 (0 + 1) ([] ++ [u]) → (w4.alloc (.cells #[u] 50)).grownBy w6 (Value.slice none 0 0).ownBlock → ∃ vb cap, v6 = .slice (some ⟨vb, 0, none⟩) 1 cap ∧ w6.cell? ⟨p, 1, none⟩ = some (.slice A0 ps2.length c0) ∧
      Hid (Calls Try.prog 33 #[.slice A0 ps2.length c0, .int .i64 k2, .int .i64 k2, .slice (some ⟨vb, 0, none⟩) 1 cap] w6 fun e w' => ∃ v', e = .returned v' ∧ (∃ a7 c7, v' = .slice a7 (ps2.length + 1) c7) ∧ w'.cell? ⟨p, 1, none⟩ = some (.slice A0 ps2.length c0) ∧ w'.frozen? ⟨p, 1, none⟩ = false ∧ w'.cell? ⟨p, 2, none⟩ = some (.int .i64 N) ∧ w'.frozen? ⟨p, 2, none⟩ = false ∧
        Hid (∃ ps', Hid (ps'.flatten = ins ([] : List (List UInt8)).flatten x s.data.toList) ∧ ps'.length ≤ 0 + 2 ∧ Tab B p ps' (0 + s.size) ((w'.setCell ⟨p, 1, none⟩ v').setCell ⟨p, 2, none⟩ (.int .i64 ((N : Int) + (s.size : Int)))) ∧ Keeps B w ((w'.setCell ⟨p, 1, none⟩ v').setCell ⟨p, 2, none⟩ (.int .i64 ((N : Int) + (s.size : Int))))))) := fun v6 w6 ho6 hg6 => by
    have hb46 : Below w4.heap.size w4 w6 := below_gb (gb_trans (World.grownBy_alloc w4 _ none) hg6)
    have h6 := h4.below hb46
    have hu6 : PieceAt w6 va' (0 + s.size) u s.data.toList := hu.grown (gb_below none hb46) (by simp)
    rcases ho6.2 with ⟨_, e⟩ | ⟨vb, cap, cur, rfl, hbv, hvb, hvc, hvm, hvs, hvt⟩
    · omega
    · have hcell6 := h6.self.cell 1
      simp at hcell6
      have hnl : ps2.length ≤ 900003 := by have := HW.out; simp at this; omega
      have R := sl_replace k2 k2 vb 1 cap cur.toList [u] w6 (by have := hb46.size; omega) h6.rows (Nat.le_refl _) HKL.out (by omega) (by omega) (fun e => by have := (h4.rows.lt _ e).2; omega) (by simpa using hvb) (by have := congrArg List.length hvt; simp at this; rw [Array.length_toList]; omega) (by simpa using hvt) h6.one_cell (by intro v hv; simp at hv; subst hv; exact hu1)
      refine ⟨vb, cap, rfl, hcell6, R.mono ?_⟩
      rintro e w7 ⟨v', rfl, ho7, hg7⟩
      have hkl := HKL.out
      rw [show k2 + 1 + (ps2.length - k2) = ps2.length + 1 by omega] at ho7
      obtain ⟨k1, _, k3⟩ := h6.loose hg7
      have d1 := k1.cell 1
      have d2 := k1.cell 2
      simp only [List.getElem?_toArray] at d1 d2
      have hlen' : (ps2.take k2 ++ ([s.data.toList] ++ ps2.drop k2)).length = ps2.length + 1 := by simp; omega
      have hfl := ins_flat HX.out s.data.toList
      have hfll : (ps2.take k2 ++ ([s.data.toList] ++ ps2.drop k2)).flatten.length = N + s.size := by
        rw [hfl, ins_length (by have := pre_le ps2 k2; rw [HX.out] at this; exact this), data_len, HF.out, HN.out]
      have T := h6.put2 (ps' := ps2.take k2 ++ ([s.data.toList] ++ ps2.drop k2)) hg7 (by rw [hlen']; exact ho7) (fun l hl => ?_) (get3 HU.out rfl hkl k3 fun q l hq => ?_)
      · rw [hfll, show ((N + s.size : Nat) : Int) = (N : Int) + (s.size : Int) by omega] at T
        have K7 := (((hKb.trans hK4).trans (Keeps.of_below hB4 hb46)).trans (Keeps.of_own (by have := hb46.size; omega) h6.rows (Or.inr (Or.inl rfl)) hg7)).trans
          (Keeps.of_row (by have := hb46.size; have := hg7.size; omega) h6.low k1 (Or.inl rfl) rfl (gb_trans (gb_set w7 p 1 v') (gb_set _ p 2 (.int .i64 ((N : Int) + (s.size : Int))))))
        rw [HF.out, ← HN.out] at d2
        refine ⟨v', rfl, own_shape ho7, d1, k1.frozen 1, d2, k1.frozen 2, ⟨_, by show _ = _; rw [hfl, HF.out], by have := HW.out; rw [hlen']; simp at this; omega, ⟨_, _, _, _, T⟩, K7⟩⟩
      · rw [List.mem_append, List.mem_append] at hl
        rcases hl with hl | hl | hl
        · exact h6.full l (List.mem_of_mem_take hl)
        · simp at hl; subst hl; exact fun e => by have := congrArg List.length e; rw [data_len, List.length_nil] at this; omega
        · exact h6.full l (List.mem_of_mem_drop hl)
      · match q, hq with
        | 0, hq =>
          simp at hq; subst hq
          exact ⟨u, rfl, hu6.grown hg7 fun g cs fr hgg => h6.rows_ne hgg (by decide)⟩
  have g1 : s.toList.isEmpty = false := by rw [toList_data]; have := data_len s; cases h : s.data.toList with | nil => rw [h] at this; simp at this; omega | cons b r => rfl
  clear h4 hu hK4 hKb H2 HA hkl
  have hs63 : s.size ≤ 140737488355328 := by omega
  have hB4' : w4.heap.size ≤ (w4.alloc (.cells #[u] 50)).heap.size := by simp
  go_wp2_with (first
    | (at_builtin; refine wpList_append_own _ rfl _ _ 38 rfl w4.heap.size 50 i0 (.agg #[.slice none 0 0]) 1 24 Try.underlying38 hi hz0 hz1 hz2 rfl (by decide) _ _ _ rfl (World.ownsRow_nil _ _ _ _) ⟨w4.heap.size, 0, none⟩ 1 1 [u] rfl rfl hnews.out hone.out (by unfold maxLen; omega) (by omega) hB4' ?_; intro v6 w6 ho6 hg6 _; obtain ⟨vb, cap, rfl, cP6, hR6⟩ := PACK.out v6 w6 ho6 hg6)
    | (go_at_call 33; refine hR6.out.mono ?_; rintro e w7 ⟨v', rfl, ⟨a7, c7, rfl⟩, d1, z1, d2, z2, hF⟩))
  go_ret
  obtain ⟨ps', e1, e2, e3, e4⟩ := hF.out
  exact ⟨rfl, ps', e1, e2, e3, e4⟩
set_option maxHeartbeats 2000000 in
set_option maxRecDepth 100000 in
theorem put_cut {B p a : Nat} {ps : List (List UInt8)} {w : World} (hB : B ≤ w.heap.size) (hT : Tab B p ps a w) (i j : Nat) (hij : i < j) (hj : j ≤ ps.flatten.length) (hl : ps.flatten.length ≤ 140737488355328) (hn : ps.length ≤ 900000) :
    Calls Try.prog 21 #[.pointer (some ⟨p, 0, none⟩), .int .i64 i, .int .i64 j, .string ⟨#[]⟩] w fun e w' => e = .returned (.int .i64 0) ∧ ∃ ps', Hid (ps'.flatten = del ps.flatten i j) ∧ ps'.length ≤ ps.length + 2 ∧ Tab B p ps' a w' ∧ Keeps B w w' := by
  have hTT := hT
  obtain ⟨vp0, va0, us0, xs0, h0⟩ := hTT
  have G := tab_fits (tab_looks h0.self) (i : Nat) (j : Nat)
  rw [decide_eq_true (show 0 ≤ ((i : Nat) : Int) ∧ ((i : Nat) : Int) ≤ ((j : Nat) : Int) ∧ ((j : Nat) : Int) ≤ (ps.flatten.length : Nat) by omega)] at G
  have G1 := Lib.hid G
  have G2 := Lib.hid (tab_given h0.self)
  clear G h0
  have hnij : ¬ ((i : Int) = (j : Int)) := by omega
  go_enter Try.func21, Try.ntmps21
  go_wp2_with (first
    | (go_at_call 25; refine G1.out.mono ?_; rintro e w2 ⟨rfl, rfl⟩)
    | (go_at_call 20; refine G2.out.mono ?_; rintro e w2 ⟨rfl, rfl⟩))
  have hBW := hB
  have hK := Keeps.refl B w
  clear G1 G2
  have hNl : ps.flatten.length ≤ 140737488355328 := (by omega)
  refine (tab_split hBW hT i (by omega) hNl (by omega)).mono ?_
  rintro e w1 ⟨k, ps1, rfl, hP1, hT1, hK1⟩
  have hB1 := Nat.le_trans hBW hK1.size
  have S2 := tab_split hB1 hT1 j (by rw [hP1.out.flat]; omega) (by rw [hP1.out.flat]; exact hNl) (by have := hP1.out.few; omega)
  have hKa := hK.trans hK1
  clear hT1 hT hK hK1
  go_wp2_with fail
  refine S2.mono ?_
  rintro e w2 ⟨k2, ps2, rfl, hP2, hT2, hK2⟩
  have hB2 := Nat.le_trans hB1 hK2.size
  have hKb := hKa.trans hK2
  have hfew : ps2.length ≤ ps.length + 2 := by have := hP1.out.few; have := hP2.out.few; omega
  have hflat : ps2.flatten = ps.flatten := by rw [hP2.out.flat, hP1.out.flat]
  obtain ⟨vp, va, us, xs, h2⟩ := hT2
  obtain ⟨N, hN⟩ : ∃ N, N = ps.flatten.length := ⟨_, rfl⟩
  have hNb : N ≤ 140737488355328 := by rw [hN]; exact hNl
  have hus : us.length = ps2.length := by have := h2.rows.1; omega
  obtain ⟨hk12, hat, _⟩ := hP2.out.ahead k hP1.out.le (by rw [hP1.out.at_]; omega)
  rw [hP1.out.at_] at hat
  have hat2 := hP2.out.at_
  have hlt : k < k2 := by
    rcases Nat.lt_or_ge k k2 with h | h
    · exact h
    · rw [show k2 = k by omega] at hat2; omega
  have hkl := hP2.out.le
  have hmore : ps2.length ≤ ps.length + 2 := hfew
  clear S2 hKa hK2 hP1 hP2 hNl
  obtain ⟨A0, c0, rfl⟩ := own_shape h2.rows
  have hcell := h2.self.cell 1
  simp at hcell
  have hNj : j ≤ N := by rw [hN]; exact hj
  have R : Hid (Calls Try.prog 33 #[.slice A0 ps2.length c0, .int .i64 k, .int .i64 k2, .slice none 0 0] w2 fun e w' => ∃ v', e = .returned v' ∧ (∃ a7 c7, v' = .slice a7 (k + (ps2.length - k2)) c7) ∧ w'.cell? ⟨p, 1, none⟩ = some (.slice A0 ps2.length c0) ∧ w'.frozen? ⟨p, 1, none⟩ = false ∧ w'.cell? ⟨p, 2, none⟩ = some (.int .i64 N) ∧ w'.frozen? ⟨p, 2, none⟩ = false ∧
        Hid (∃ ps', Hid (ps'.flatten = del ps.flatten i j) ∧ ps'.length ≤ ps.length + 2 ∧ Tab B p ps' a ((w'.setCell ⟨p, 1, none⟩ v').setCell ⟨p, 2, none⟩ (.int .i64 ((N : Int) + -((j : Int) - (i : Int))))) ∧ Keeps B w ((w'.setCell ⟨p, 1, none⟩ v').setCell ⟨p, 2, none⟩ (.int .i64 ((N : Int) + -((j : Int) - (i : Int))))))) := by
    refine (sl_cut k k2 w2 h2.rows hlt hkl h2.one_cell).mono ?_
    rintro e w7 ⟨v', rfl, ho7, hg7⟩
    obtain ⟨k1, _, k3⟩ := h2.loose hg7
    have d1 := k1.cell 1
    have d2 := k1.cell 2
    simp only [List.getElem?_toArray] at d1 d2
    have hlen' : (ps2.take k ++ ([] ++ ps2.drop k2)).length = k + (ps2.length - k2) := by simp; omega
    have hfl : (ps2.take k ++ ([] ++ ps2.drop k2)).flatten = del ps2.flatten i j := del_flat hat hat2
    have hfll : (((ps2.take k ++ ([] ++ ps2.drop k2)).flatten.length : Nat) : Int) = ((N : Int) + -((j : Int) - (i : Int))) := by
      rw [hfl, hflat, del_length (by omega) hj, ← hN]; omega
    have T := h2.put2 (us' := us.take k ++ ([] ++ us.drop k2)) (ps' := ps2.take k ++ ([] ++ ps2.drop k2)) hg7 (by rw [hlen']; exact ho7) (fun l hl => ?_) (get3 hus rfl (by omega) k3 fun q l hq => by simp at hq)
    · rw [hfll] at T
      have K7 := (hKb.trans (Keeps.of_own hB2 h2.rows (Or.inr (Or.inl rfl)) hg7)).trans
        (Keeps.of_row (by have := hg7.size; omega) h2.low k1 (Or.inl rfl) rfl (gb_trans (gb_set w7 p 1 v') (gb_set _ p 2 (.int .i64 ((N : Int) + -((j : Int) - (i : Int)))))))
      rw [hflat, ← hN] at d2
      exact ⟨v', rfl, own_shape ho7, d1, k1.frozen 1, d2, k1.frozen 2, ⟨_, by show _ = _; rw [hfl, hflat], by rw [hlen']; omega, ⟨_, _, _, _, T⟩, K7⟩⟩
    · rw [List.mem_append, List.mem_append] at hl
      rcases hl with hl | hl | hl
      · exact h2.full l (List.mem_of_mem_take hl)
      · cases hl
      · exact h2.full l (List.mem_of_mem_drop hl)
  clear h2 hflat hfew hat hat2 hus hN hKb hmore
  go_wp2_with (go_at_call 33; refine R.out.mono ?_; rintro e w7 ⟨v', rfl, ⟨a7, c7, rfl⟩, d1, z1, d2, z2, hF⟩)
  go_ret
  obtain ⟨ps', e1, e2, e3, e4⟩ := hF.out
  exact ⟨rfl, ps', e1, e2, e3, e4⟩
end Go.Proofs.Ytjmedlnboofgdaa
