/-
  Bytes are put in, and taken out: put.
-/
import Derived.Test.YtjmedlnboofgdaaSplit
import Derived.Test.YtjmedlnboofgdaaAdd
namespace Go.Proofs.Ytjmedlnboofgdaa
open Go.RowKit
open Pc
namespace Pc
theorem flat_take (ps : List (List UInt8)) (k : Nat) : (ps.take k).flatten = ps.flatten.take (pre ps k) := by
  have e : ps.flatten = (ps.take k).flatten ++ (ps.drop k).flatten := by rw [← List.flatten_append, List.take_append_drop]
  conv => rhs; rw [e]
  rw [pre, List.take_left]
theorem flat_drop (ps : List (List UInt8)) (k : Nat) : (ps.drop k).flatten = ps.flatten.drop (pre ps k) := by
  have e : ps.flatten = (ps.take k).flatten ++ (ps.drop k).flatten := by rw [← List.flatten_append, List.take_append_drop]
  conv => rhs; rw [e]
  rw [pre, List.drop_left]
/-- Bytes with other ones put in. -/
def ins (t : List UInt8) (x : Nat) (s : List UInt8) : List UInt8 := t.take x ++ (s ++ t.drop x)
/-- Bytes with some taken out. -/
def del (t : List UInt8) (i j : Nat) : List UInt8 := t.take i ++ t.drop j
theorem ins_flat {ps : List (List UInt8)} {k x : Nat} (h : pre ps k = x) (s : List UInt8) : (ps.take k ++ ([s] ++ ps.drop k)).flatten = ins ps.flatten x s := by
  rw [List.flatten_append, List.flatten_append, flat_take, flat_drop, h, ins]
  simp
theorem del_flat {ps : List (List UInt8)} {k q i j : Nat} (h : pre ps k = i) (h2 : pre ps q = j) : (ps.take k ++ ps.drop q).flatten = del ps.flatten i j := by
  rw [List.flatten_append, flat_take, flat_drop, h, h2, del]
theorem ins_length {t : List UInt8} {x : Nat} (h : x ≤ t.length) (s : List UInt8) : (ins t x s).length = t.length + s.length := by
  rw [ins, List.length_append, List.length_append, List.length_take, List.length_drop]; omega
theorem del_length {t : List UInt8} {i j : Nat} (h : i ≤ j) (h2 : j ≤ t.length) : (del t i j).length = t.length - (j - i) := by
  rw [del, List.length_append, List.length_take, List.length_drop]; omega
/-- Cut twice at one offset. -/
theorem parted_twice {ps1 ps2 : List (List UInt8)} (hf : ∀ l ∈ ps2, l ≠ []) {x k k2 : Nat} (hk : k ≤ ps1.length) (h1 : pre ps1 k = x) (h2 : Parted ps1 x ps2 k2) : k2 = k := by
  obtain ⟨h3, h4, _⟩ := h2.ahead k hk (by omega)
  rcases Nat.lt_or_ge k k2 with h | h
  · have := pre_mono hf h h2.le
    have := h2.at_
    omega
  · omega
end Pc
set_option maxHeartbeats 400000 in
theorem put_none (i j : Int) (s : ByteArray) (w : World) :
    Calls Try.prog 21 #[.pointer none, .int .i64 i, .int .i64 j, .string s] w fun e w' => e = .returned (.int .i64 7) ∧ w = w' := by
  go_enter Try.func21, Try.ntmps21
  go_wp2
  go_ret
  exact ⟨rfl, rfl⟩
set_option maxHeartbeats 400000 in
theorem put_no {p n : Nat} {vp : Value} {w : World} (h : Looks (.pointer (some ⟨p, 0, none⟩)) vp n w) (i j : Int) (s : ByteArray) (hn : ¬ (0 ≤ i ∧ i ≤ j ∧ j ≤ n)) :
    Calls Try.prog 21 #[.pointer (some ⟨p, 0, none⟩), .int .i64 i, .int .i64 j, .string s] w fun e w' => e = .returned (.int .i64 6) ∧ w = w' := by
  have G := tab_fits h i j
  rw [decide_eq_false hn] at G
  have G1 := Lib.hid G
  clear G h hn
  go_enter Try.func21, Try.ntmps21
  go_wp2_with (go_at_call 25; refine G1.out.mono ?_; rintro e w2 ⟨rfl, rfl⟩)
  go_ret
  exact ⟨rfl, rfl⟩
set_option maxHeartbeats 2000000 in
set_option maxRecDepth 100000 in
theorem put_same {B p a : Nat} {ps : List (List UInt8)} {w : World} (hT : Tab B p ps a w) (x : Nat) (hx : x ≤ ps.flatten.length) :
    Calls Try.prog 21 #[.pointer (some ⟨p, 0, none⟩), .int .i64 x, .int .i64 x, .string ⟨#[]⟩] w fun e w' => e = .returned (.int .i64 0) ∧ w = w' := by
  have hTT := hT
  obtain ⟨vp0, va0, us0, xs0, h0⟩ := hTT
  have G := tab_fits (tab_looks h0.self) (x : Nat) (x : Nat)
  rw [decide_eq_true (show 0 ≤ ((x : Nat) : Int) ∧ ((x : Nat) : Int) ≤ ((x : Nat) : Int) ∧ ((x : Nat) : Int) ≤ (ps.flatten.length : Nat) by omega)] at G
  have G1 := Lib.hid G
  have G2 := Lib.hid (tab_given h0.self)
  clear G h0
  clear hT hx
  go_enter Try.func21, Try.ntmps21
  go_wp2_with (first
    | (go_at_call 25; refine G1.out.mono ?_; rintro e w2 ⟨rfl, rfl⟩)
    | (go_at_call 20; refine G2.out.mono ?_; rintro e w2 ⟨rfl, rfl⟩))
  go_ret
  exact ⟨rfl, rfl⟩
set_option maxHeartbeats 2000000 in
set_option maxRecDepth 100000 in
theorem put_same_zero {B p : Nat} {w : World} (hB : B ≤ w.heap.size) (hZ : Zero B p w)  :
    Calls Try.prog 21 #[.pointer (some ⟨p, 0, none⟩), .int .i64 0, .int .i64 0, .string ⟨#[]⟩] w fun e w' => e = .returned (.int .i64 0) ∧ Tab B p [] 0 w' ∧ Keeps B w w' := by
  have G := tab_fits (zero_looks hZ) 0 0
  rw [decide_eq_true (show (0 : Int) ≤ 0 ∧ (0 : Int) ≤ 0 ∧ (0 : Int) ≤ ((0 : Nat) : Int) by omega)] at G
  have G1 := Lib.hid G
  have G2 := Lib.hid (zero_given hZ.2)
  have G3 := Lib.hid (pc_begin ⟨#[]⟩ hB hZ.1 hZ.2)
  have E0 : one (⟨#[]⟩ : ByteArray).data.toList = [] := rfl
  rw [E0] at G3
  clear G E0
  go_enter Try.func21, Try.ntmps21
  go_wp2_with (first
    | (go_at_call 25; refine G1.out.mono ?_; rintro e w2 ⟨rfl, rfl⟩)
    | (go_at_call 20; refine G2.out.mono ?_; rintro e w2 ⟨rfl, rfl⟩)
    | (go_at_call 13; refine G3.out.mono ?_; rintro e w0 ⟨rfl, hT, hK0⟩))
  go_ret
  exact ⟨rfl, hT, hK0⟩
set_option maxHeartbeats 2000000 in
set_option maxRecDepth 100000 in
theorem put_ins {B p a : Nat} {ps : List (List UInt8)} {w : World} (hB : B ≤ w.heap.size) (hT : Tab B p ps a w) (x : Nat) (s : ByteArray) (hx : x ≤ ps.flatten.length) (hs : 0 < s.size) (hl : ps.flatten.length + s.size ≤ 140737488355328) (ha : a + s.size ≤ 140737488355328) (hn : ps.length ≤ 900000) :
    Calls Try.prog 21 #[.pointer (some ⟨p, 0, none⟩), .int .i64 x, .int .i64 x, .string s] w fun e w' => e = .returned (.int .i64 0) ∧ ∃ ps', Hid (ps'.flatten = ins ps.flatten x s.data.toList) ∧ ps'.length ≤ ps.length + 2 ∧ Tab B p ps' (a + s.size) w' ∧ Keeps B w w' := by
  have hTT := hT
  obtain ⟨vp0, va0, us0, xs0, h0⟩ := hTT
  have G := tab_fits (tab_looks h0.self) (x : Nat) (x : Nat)
  rw [decide_eq_true (show 0 ≤ ((x : Nat) : Int) ∧ ((x : Nat) : Int) ≤ ((x : Nat) : Int) ∧ ((x : Nat) : Int) ≤ (ps.flatten.length : Nat) by omega)] at G
  have G1 := Lib.hid G
  have G2 := Lib.hid (tab_given h0.self)
  clear G h0
  have g1 : s.toList.isEmpty = false := by rw [toList_data]; have := data_len s; cases h : s.data.toList with | nil => rw [h] at this; simp at this; omega | cons b r => rfl
  go_enter Try.func21, Try.ntmps21
  go_wp2_with (first
    | (go_at_call 25; refine G1.out.mono ?_; rintro e w2 ⟨rfl, rfl⟩)
    | (go_at_call 20; refine G2.out.mono ?_; rintro e w2 ⟨rfl, rfl⟩))
  have hBW := hB
  have hK := Keeps.refl B w
  clear G1 G2
  have hNl : ps.flatten.length ≤ 140737488355328 := (by omega)
  refine (tab_split hBW hT x hx hNl (by omega)).mono ?_
  rintro e w1 ⟨k, ps1, rfl, hP1, hT1, hK1⟩
  have hB1 := Nat.le_trans hBW hK1.size
  have S2 := tab_split hB1 hT1 x (by rw [hP1.out.flat]; omega) (by rw [hP1.out.flat]; exact hNl) (by have := hP1.out.few; omega)
  have hKa := hK.trans hK1
  clear hT1 hT hK hK1
  go_wp2_with fail
  refine S2.mono ?_
  rintro e w2 ⟨k2, ps2, rfl, hP2, hT2, hK2⟩
  have hB2 := Nat.le_trans hB1 hK2.size
  have hKb := hKa.trans hK2
  have hfew : ps2.length ≤ ps.length + 2 := by have := hP1.out.few; have := hP2.out.few; omega
  have hflat : ps2.flatten = ps.flatten := by rw [hP2.out.flat, hP1.out.flat]
  obtain ⟨vp, va, us, xs, h2⟩ := hT2
  obtain ⟨N, hN⟩ : ∃ N, N = ps.flatten.length := ⟨_, rfl⟩
  have hNb : N ≤ 140737488355328 := by rw [hN]; exact hNl
  have hus : us.length = ps2.length := by have := h2.rows.1; omega
  have hkk := parted_twice h2.full hP1.out.le hP1.out.at_ hP2.out
  subst hkk
  have hfew1 : ps2.length ≤ ps.length + 1 := by rw [hP2.out.same k2 hP1.out.le hP1.out.at_]; exact hP1.out.few
  have hat := hP2.out.at_
  have hkl := hP2.out.le
  clear S2 hKa hK2 hP1 hP2 hNl
  have H2 := Lib.hid h2
  have HA := Lib.hid (tab_add hB2 h2 s hs ha)
  have HF := Lib.hid hflat
  have HW := Lib.hid hfew1
  have HX := Lib.hid hat
  have HKL := Lib.hid hkl
  have HU := Lib.hid hus
  have HN := Lib.hid hN
  clear h2 hflat hfew hfew1 hat hus hN
  go_wp2_with fail
  refine HA.out.mono ?_
  rintro e w4 ⟨u, va', xs', rfl, h4, hu, hK4⟩
  have hB4 := Nat.le_trans hB2 hK4.size
  obtain ⟨A0, c0, rfl⟩ := own_shape h4.rows
  obtain ⟨i0, hi, hz0, hz1, hz2⟩ := info_parts info_piece
  have hu1 : u.oneCell' = true := by obtain ⟨g, off, rfl, _⟩ := hu; rfl
  have hnews : Hid (∀ j v, [u][j]? = some v → (w4.alloc (.cells #[u] 50)).cell? ((⟨w4.heap.size, 0, none⟩ : Addr).add j) = some v) := fun j v hj => by
    rw [add_at, Nat.zero_add]
    exact row_cell (cur := [u]) (n := 1) (by simpa using heap_alloc_new w4 (.cells #[u] 50)) rfl hj
  have hone : Hid (∀ v ∈ [u], v.oneCell' = true) := by intro v hv; simp at hv; subst hv; exact hu1
  have PACK : Hid (∀ v6 w6, w6.ownsRow w4.heap.size 50 1 v6 (0 + 1) ([] ++ [u]) → (w4.alloc (.cells #[u] 50)).grownBy w6 (Value.slice none 0 0).ownBlock → ∃ vb cap, v6 = .slice (some ⟨vb, 0, none⟩) 1 cap ∧ w6.cell? ⟨p, 1, none⟩ = some (.slice A0 ps2.length c0) ∧
      Hid (Calls Try.prog 33 #[.slice A0 ps2.length c0, .int .i64 k2, .int .i64 k2, .slice (some ⟨vb, 0, none⟩) 1 cap] w6 fun e w' => ∃ v', e = .returned v' ∧ (∃ a7 c7, v' = .slice a7 (ps2.length + 1) c7) ∧ w'.cell? ⟨p, 1, none⟩ = some (.slice A0 ps2.length c0) ∧ w'.frozen? ⟨p, 1, none⟩ = false ∧ w'.cell? ⟨p, 2, none⟩ = some (.int .i64 N) ∧ w'.frozen? ⟨p, 2, none⟩ = false ∧
        Hid (∃ ps', Hid (ps'.flatten = ins ps.flatten x s.data.toList) ∧ ps'.length ≤ ps.length + 2 ∧ Tab B p ps' (a + s.size) ((w'.setCell ⟨p, 1, none⟩ v').setCell ⟨p, 2, none⟩ (.int .i64 ((N : Int) + (s.size : Int)))) ∧ Keeps B w ((w'.setCell ⟨p, 1, none⟩ v').setCell ⟨p, 2, none⟩ (.int .i64 ((N : Int) + (s.size : Int))))))) := fun v6 w6 ho6 hg6 => by
    have hb46 : Below w4.heap.size w4 w6 := below_gb (gb_trans (World.grownBy_alloc w4 _ none) hg6)
    have h6 := h4.below hb46
    have hu6 : PieceAt w6 va' (a + s.size) u s.data.toList := hu.grown (gb_below none hb46) (by simp)
    rcases ho6.2 with ⟨_, e⟩ | ⟨vb, cap, cur, rfl, hbv, hvb, hvc, hvm, hvs, hvt⟩
    · omega
    · have hcell6 := h6.self.cell 1
      simp at hcell6
      have hnl : ps2.length ≤ 900003 := by have := HW.out; omega
      have R := sl_replace k2 k2 vb 1 cap cur.toList [u] w6 (by have := hb46.size; omega) h6.rows (Nat.le_refl _) HKL.out (by omega) (by omega) (fun e => by have := (h4.rows.lt _ e).2; omega) (by simpa using hvb) (by have := congrArg List.length hvt; simp at this; rw [Array.length_toList]; omega) (by simpa using hvt) h6.one_cell (by intro v hv; simp at hv; subst hv; exact hu1)
      refine ⟨vb, cap, rfl, hcell6, R.mono ?_⟩
      rintro e w7 ⟨v', rfl, ho7, hg7⟩
      have hkl := HKL.out
      rw [show k2 + 1 + (ps2.length - k2) = ps2.length + 1 by omega] at ho7
      obtain ⟨k1, _, k3⟩ := h6.loose hg7
      have d1 := k1.cell 1
      have d2 := k1.cell 2
      simp only [List.getElem?_toArray] at d1 d2
      have hlen' : (ps2.take k2 ++ ([s.data.toList] ++ ps2.drop k2)).length = ps2.length + 1 := by simp; omega
      have hfl := ins_flat HX.out s.data.toList
      have hfll : (ps2.take k2 ++ ([s.data.toList] ++ ps2.drop k2)).flatten.length = N + s.size := by
        rw [hfl, ins_length (by have := pre_le ps2 k2; rw [HX.out] at this; exact this), data_len, HF.out, HN.out]
      have T := h6.put2 (ps' := ps2.take k2 ++ ([s.data.toList] ++ ps2.drop k2)) hg7 (by rw [hlen']; exact ho7) (fun l hl => ?_) (get3 HU.out rfl hkl k3 fun q l hq => ?_)
      · rw [hfll, show ((N + s.size : Nat) : Int) = (N : Int) + (s.size : Int) by omega] at T
        have K7 := (((hKb.trans hK4).trans (Keeps.of_below hB4 hb46)).trans (Keeps.of_own (by have := hb46.size; omega) h6.rows (Or.inr (Or.inl rfl)) hg7)).trans
          (Keeps.of_row (by have := hb46.size; have := hg7.size; omega) h6.low k1 (Or.inl rfl) rfl (gb_trans (gb_set w7 p 1 v') (gb_set _ p 2 (.int .i64 ((N : Int) + (s.size : Int))))))
        rw [HF.out, ← HN.out] at d2
        refine ⟨v', rfl, own_shape ho7, d1, k1.frozen 1, d2, k1.frozen 2, ⟨_, by show _ = _; rw [hfl, HF.out], by have := HW.out; rw [hlen']; omega, ⟨_, _, _, _, T⟩, K7⟩⟩
      · rw [List.mem_append, List.mem_append] at hl
        rcases hl with hl | hl | hl
        · exact h6.full l (List.mem_of_mem_take hl)
        · simp at hl; subst hl; exact fun e => by have := congrArg List.length e; rw [data_len, List.length_nil] at this; omega
        · exact h6.full l (List.mem_of_mem_drop hl)
      · match q, hq with
        | 0, hq =>
          simp at hq; subst hq
          exact ⟨u, rfl, hu6.grown hg7 fun g cs fr hgg => h6.rows_ne hgg (by decide)⟩
  have g1 : s.toList.isEmpty = false := by rw [toList_data]; have := data_len s; cases h : s.data.toList with | nil => rw [h] at this; simp at this; omega | cons b r => rfl
  clear h4 hu hK4 hKb H2 HA hkl
  have hs63 : s.size ≤ 140737488355328 := by omega
  have hB4' : w4.heap.size ≤ (w4.alloc (.cells #[u] 50)).heap.size := by simp
  go_wp2_with (first
    | (at_builtin; refine wpList_append_own _ rfl _ _ 38 rfl w4.heap.size 50 i0 (.agg #[.slice none 0 0]) 1 24 Try.underlying38 hi hz0 hz1 hz2 rfl (by decide) _ _ _ rfl (World.ownsRow_nil _ _ _ _) ⟨w4.heap.size, 0, none⟩ 1 1 [u] rfl rfl hnews.out hone.out (by unfold maxLen; omega) (by omega) hB4' ?_; intro v6 w6 ho6 hg6 _; obtain ⟨vb, cap, rfl, cP6, hR6⟩ := PACK.out v6 w6 ho6 hg6)
    | (go_at_call 33; refine hR6.out.mono ?_; rintro e w7 ⟨v', rfl, ⟨a7, c7, rfl⟩, d1, z1, d2, z2, hF⟩))
  go_ret
  obtain ⟨ps', e1, e2, e3, e4⟩ := hF.out
  exact ⟨rfl, ps', e1, e2, e3, e4⟩
end Go.Proofs.Ytjmedlnboofgdaa
