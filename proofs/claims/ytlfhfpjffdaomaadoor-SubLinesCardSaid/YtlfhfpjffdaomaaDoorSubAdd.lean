/-
  Package sub: a change put behind others; what is taken out one behind the other is one.
-/
import Derived.Test.YtlfhfpjffdaomaaDoorSubCalls
import Derived.Test.YtlfhfpjffdaomaaDoorBatchTurn
import Derived.Laws.OwnMore
namespace Go.Proofs.YtlfhfpjffdaomaaDoor
open Go.RowKit
open Gl Btc
/-- A list of changes of the call's own, behind what may write into its row. -/
def SubAddIs (B : Nat) (l : List Cg) (v : Value) (w : World) (e : Ending) (w' : World) : Prop :=
  ∃ (A : Option Addr) (c : Nat), e = .returned (.slice A l.length c) ∧ w'.ownsRow B 48 3 (.slice A l.length c) l.length (rows l) ∧ w.grownBy w' v.ownBlock
theorem own_addr {w : World} {B : Nat} {e : TypeId} {size n : Nat} {v : Value} {xs : List Value} (h : w.ownsRow B e size v n xs) (hn : 0 < n) : ∃ g c, v = .slice (some ⟨g, 0, none⟩) n c ∧ g < w.heap.size ∧ B ≤ g ∧ (∀ i, w.frozen? ⟨g, i, none⟩ = false) := by
  rcases h.2 with ⟨_, h1⟩ | ⟨g, cap, cur, hv, hB, hh, _⟩
  · omega
  · exact ⟨g, cap, hv, Blk.lt (w := w) hh, hB, fun i => Blk.frozen (w := w) hh i⟩
theorem rows_length (l : List Cg) : (rows l).length = l.length * 3 := by
  induction l with
  | nil => rfl
  | cons y r ih => show (_ :: _ :: _ :: rows r).length = _; simp only [List.length_cons, ih]; omega
theorem rows_old {l : List Cg} {k : Cg} (x : ByteArray) : (rows (l ++ [k])).set (l.length * 3 + 1) (.string x) = rows (l ++ [⟨k.at_, x, k.new⟩]) := by
  rw [rows_append, rows_append, List.set_append_right _ _ (by rw [rows_length]; omega), rows_length]
  congr 1
  rw [show l.length * 3 + 1 - l.length * 3 = 1 by omega]
  rfl
theorem sub_wrap {x : Int} (h1 : -9223372036854775808 ≤ x) (h2 : x ≤ 9223372036854775807) : IntKind.i64.wrap x = x := by rw [IntKind.wrap_i64]; omega
theorem sub_wrap64 {x : Int} (h1 : -9223372036854775808 ≤ x) (h2 : x ≤ 9223372036854775807) : wrap64 x = x := by unfold wrap64; omega
theorem sub_sum {x y : Nat} (h : x + y ≤ 1000000000000) : IntKind.i64.wrap ((x : Int) + (y : Int)) = (x : Int) + (y : Int) := sub_wrap (by omega) (by omega)
theorem sub_sum64 {x y : Nat} (h : x + y ≤ 1000000000000) : wrap64 ((x : Int) + (y : Int)) = (x : Int) + (y : Int) := sub_wrap64 (by omega) (by omega)
theorem sub_ond {w u : World} (h : Below w.heap.size w u) (n : Nat) : Below w.heap.size w (u.drewN n) := h.trans ((below_gb (gb_drewN u n none)).mono h.size)
set_option maxHeartbeats 2000000 in
set_option maxRecDepth 100000 in
theorem sub_add_nil (s p r : ByteArray) {A : Option Addr} {c B f n : Nat} {w : World} (hn : n = 0) (hown : w.ownsRow B 48 3 (.slice A n c) n []) (hB : B ≤ w.heap.size) :
    Calls Tryd.prog 39 #[.slice A n c, .string s, .agg #[.int .i64 f, .string p, .string r]] w (SubAddIs B [⟨f, p, r⟩] (.slice A n c) w) := by
  obtain ⟨i0, hi, hz0, hz1, hz2⟩ := info_parts info_cg
  have b0 := Blk.new w 48 #[.int .i64 f, .string p, .string r]
  have q0 : (w.alloc (.cells #[.int .i64 f, .string p, .string r] 48)).cell? ⟨w.heap.size, 0, none⟩ = some (.int .i64 f) := b0.cell 0
  have q1 : (w.alloc (.cells #[.int .i64 f, .string p, .string r] 48)).cell? ⟨w.heap.size, 1, none⟩ = some (.string p) := b0.cell 1
  have q2 : (w.alloc (.cells #[.int .i64 f, .string p, .string r] 48)).cell? ⟨w.heap.size, 2, none⟩ = some (.string r) := b0.cell 2
  subst hn
  go_enter Tryd.func39, Tryd.ntmps39
  go_wp2_with fail
  go_big_quiet (fail)
  have h5 : Below w.heap.size w (((w.alloc (.cells #[.int .i64 f, .string p, .string r] 48)).drewN nq).alloc (.cells #[.int .i64 f, .string p, .string r] 48)) := (sub_ond ((Below.refl _ w).alloc (Nat.le_refl _) (.cells #[.int .i64 f, .string p, .string r] 48)) _).alloc (by simp) _
  have b7 : Blk (((w.alloc (.cells #[.int .i64 f, .string p, .string r] 48)).drewN nq).alloc (.cells #[.int .i64 f, .string p, .string r] 48)) (w.heap.size + 1) 48 #[.int .i64 f, .string p, .string r] := by
    have := Blk.new ((w.alloc (.cells #[.int .i64 f, .string p, .string r] 48)).drewN nq) 48 #[.int .i64 f, .string p, .string r]
    simpa using this
  have ho5 := hown.kept (gb_below none h5) (by cases hv : (Value.slice A 0 c).ownBlock <;> simp)
  go_wp2_with (first
    | (at_builtin; refine wpList_append_own _ rfl _ _ 43 rfl B 48 i0 _ 3 40 Tryd.underlying43 hi hz0 hz1 hz2 rfl (by decide) _ _ _ rfl ho5 ⟨w.heap.size + 1, 0, none⟩ 1 1 [.int .i64 f, .string p, .string r] rfl rfl ?c1 ?c2 ?c3 ?c4 ?c5 ?_))
  case c1 =>
    intro j u hj
    rw [add_plain, Nat.zero_add]
    exact (b7.cell j).trans (by simpa using hj)
  case c2 =>
    intro u hu
    simp only [List.mem_cons, List.not_mem_nil, or_false] at hu
    rcases hu with rfl | rfl | rfl <;> rfl
  case c3 => unfold maxLen; omega
  case c4 => omega
  case c5 => exact Nat.le_trans hB h5.size
  intro v' w6 hown6 hgrow6 _
  obtain ⟨a6, cap6, rfl⟩ := own_shape hown6
  go_wp2
  go_ret
  refine ⟨a6, cap6, rfl, hown6, gb_trans (gb_below _ h5) hgrow6⟩
set_option maxHeartbeats 2000000 in
set_option maxRecDepth 100000 in
theorem sub_add_put (s p r : ByteArray) {A : Option Addr} {c B f n m : Nat} {ks : List Cg} {k : Cg} {w : World} (hm : ks.length = m) (hn : n = m + 1) (hmx : m ≤ 1000000) (hown : w.ownsRow B 48 3 (.slice A n c) n (rows (ks ++ [k]))) (hB : B ≤ w.heap.size) (h : r.toList.isEmpty = false) :
    Calls Tryd.prog 39 #[.slice A n c, .string s, .agg #[.int .i64 f, .string p, .string r]] w (SubAddIs B (ks ++ [k] ++ [⟨f, p, r⟩]) (.slice A n c) w) := by
  obtain ⟨i0, hi, hz0, hz1, hz2⟩ := info_parts info_cg
  have b0 := Blk.new w 48 #[.int .i64 f, .string p, .string r]
  have q0 : (w.alloc (.cells #[.int .i64 f, .string p, .string r] 48)).cell? ⟨w.heap.size, 0, none⟩ = some (.int .i64 f) := b0.cell 0
  have q1 : (w.alloc (.cells #[.int .i64 f, .string p, .string r] 48)).cell? ⟨w.heap.size, 1, none⟩ = some (.string p) := b0.cell 1
  have q2 : (w.alloc (.cells #[.int .i64 f, .string p, .string r] 48)).cell? ⟨w.heap.size, 2, none⟩ = some (.string r) := b0.cell 2
  subst hn
  obtain ⟨g, cc, hv, hgw, hBg, hfz⟩ := own_addr hown (by omega)
  injection hv with hv hl hcc
  subst hv hcc
  clear hl
  have hC := own_cgs hown (by rw [List.length_append, List.length_singleton]; omega)
  have CC : Hid (∀ u, Below w.heap.size w u → u.cell? ⟨g, m * 3, none⟩ = some (.int .i64 k.at_) ∧ u.cell? ⟨g, m * 3 + 1, none⟩ = some (.string k.old)) := fun u hu => by
    obtain ⟨b', off', e2, _, hc⟩ := (hC.below hu) (by simp)
    injection e2 with e2
    injection e2 with e2 e3 _
    subst e2 e3
    obtain ⟨a0, a1, _⟩ := hc m k (by rw [List.getElem?_append_right (by omega), hm, Nat.sub_self]; rfl)
    rw [Nat.zero_add] at a0 a1
    exact ⟨a0, a1⟩
  obtain ⟨c0, c1⟩ := CC.out (w.alloc (.cells #[.int .i64 f, .string p, .string r] 48)) ((Below.refl _ w).alloc (Nat.le_refl _) _)
  have w1 : IntKind.i64.wrap (m : Int) = (m : Int) := sub_wrap (by omega) (by omega)
  have g0 : decide ((0 : Int) ≤ (m : Int)) = true := by simp
  go_enter Tryd.func39, Tryd.ntmps39
  go_wp2_with fail
  go_big_quiet (fail)
  have h5 : Below w.heap.size w (((w.alloc (.cells #[.int .i64 f, .string p, .string r] 48)).drewN nq).alloc (.cells #[.int .i64 f, .string p, .string r] 48)) := (sub_ond ((Below.refl _ w).alloc (Nat.le_refl _) (.cells #[.int .i64 f, .string p, .string r] 48)) _).alloc (by simp) _
  have b7 : Blk (((w.alloc (.cells #[.int .i64 f, .string p, .string r] 48)).drewN nq).alloc (.cells #[.int .i64 f, .string p, .string r] 48)) (w.heap.size + 1) 48 #[.int .i64 f, .string p, .string r] := by
    have := Blk.new ((w.alloc (.cells #[.int .i64 f, .string p, .string r] 48)).drewN nq) 48 #[.int .i64 f, .string p, .string r]
    simpa using this
  have ho5 := hown.kept (gb_below none h5) (by cases hv : (Value.slice (some ⟨g, 0, none⟩) (m + 1) c).ownBlock <;> simp)
  go_wp2_with (first
    | (at_builtin; refine wpList_append_own _ rfl _ _ 43 rfl B 48 i0 _ 3 40 Tryd.underlying43 hi hz0 hz1 hz2 rfl (by decide) _ _ _ rfl ho5 ⟨w.heap.size + 1, 0, none⟩ 1 1 [.int .i64 f, .string p, .string r] rfl rfl ?c1 ?c2 ?c3 ?c4 ?c5 ?_))
  case c1 =>
    intro j u hj
    rw [add_plain, Nat.zero_add]
    exact (b7.cell j).trans (by simpa using hj)
  case c2 =>
    intro u hu
    simp only [List.mem_cons, List.not_mem_nil, or_false] at hu
    rcases hu with rfl | rfl | rfl <;> rfl
  case c3 => unfold maxLen; omega
  case c4 => omega
  case c5 => exact Nat.le_trans hB h5.size
  intro v' w6 hown6 hgrow6 _
  obtain ⟨a6, cap6, rfl⟩ := own_shape hown6
  go_wp2
  go_ret
  have HL : (ks ++ [k] ++ [(⟨f, p, r⟩ : Cg)]).length = m + 1 + 1 := by subst hm; simp
  have HR : rows (ks ++ [k] ++ [⟨f, p, r⟩]) = rows (ks ++ [k]) ++ [.int .i64 f, .string p, .string r] := rows_append _ _
  refine ⟨a6, cap6, by rw [HL]; rfl, by rw [HL, HR]; exact hown6, gb_trans (gb_below _ h5) hgrow6⟩
set_option maxHeartbeats 2000000 in
set_option maxRecDepth 100000 in
theorem sub_add_far (s p r : ByteArray) {A : Option Addr} {c B f n m : Nat} {ks : List Cg} {k : Cg} {w : World} (hm : ks.length = m) (hn : n = m + 1) (hmx : m ≤ 1000000) (hown : w.ownsRow B 48 3 (.slice A n c) n (rows (ks ++ [k]))) (hB : B ≤ w.heap.size) (h : r.toList.isEmpty = true) {b : Nat} (hb : k.at_ = b) (hbf : b + k.old.size ≤ 1000000000000) (hne : b + k.old.size ≠ f) :
    Calls Tryd.prog 39 #[.slice A n c, .string s, .agg #[.int .i64 f, .string p, .string r]] w (SubAddIs B (ks ++ [k] ++ [⟨f, p, r⟩]) (.slice A n c) w) := by
  obtain ⟨i0, hi, hz0, hz1, hz2⟩ := info_parts info_cg
  have b0 := Blk.new w 48 #[.int .i64 f, .string p, .string r]
  have q0 : (w.alloc (.cells #[.int .i64 f, .string p, .string r] 48)).cell? ⟨w.heap.size, 0, none⟩ = some (.int .i64 f) := b0.cell 0
  have q1 : (w.alloc (.cells #[.int .i64 f, .string p, .string r] 48)).cell? ⟨w.heap.size, 1, none⟩ = some (.string p) := b0.cell 1
  have q2 : (w.alloc (.cells #[.int .i64 f, .string p, .string r] 48)).cell? ⟨w.heap.size, 2, none⟩ = some (.string r) := b0.cell 2
  subst hn
  obtain ⟨g, cc, hv, hgw, hBg, hfz⟩ := own_addr hown (by omega)
  injection hv with hv hl hcc
  subst hv hcc
  clear hl
  have hC := own_cgs hown (by rw [List.length_append, List.length_singleton]; omega)
  have CC : Hid (∀ u, Below w.heap.size w u → u.cell? ⟨g, m * 3, none⟩ = some (.int .i64 k.at_) ∧ u.cell? ⟨g, m * 3 + 1, none⟩ = some (.string k.old)) := fun u hu => by
    obtain ⟨b', off', e2, _, hc⟩ := (hC.below hu) (by simp)
    injection e2 with e2
    injection e2 with e2 e3 _
    subst e2 e3
    obtain ⟨a0, a1, _⟩ := hc m k (by rw [List.getElem?_append_right (by omega), hm, Nat.sub_self]; rfl)
    rw [Nat.zero_add] at a0 a1
    exact ⟨a0, a1⟩
  obtain ⟨c0, c1⟩ := CC.out (w.alloc (.cells #[.int .i64 f, .string p, .string r] 48)) ((Below.refl _ w).alloc (Nat.le_refl _) _)
  have w1 : IntKind.i64.wrap (m : Int) = (m : Int) := sub_wrap (by omega) (by omega)
  have g0 : decide ((0 : Int) ≤ (m : Int)) = true := by simp
  rw [hb] at c0
  have g1 : ((b : Int) + (k.old.size : Int) == (f : Int)) = false := by rw [beq_eq_false_iff_ne]; omega
  have g2 : (b + k.old.size == f) = false := by rw [beq_eq_false_iff_ne]; omega
  have g3 : decide ((m : Int) < (m : Int) + 1) = true := decide_eq_true (by omega)
  have g4 : (m : Int) < (m : Int) + 1 := by omega
  have w3 : IntKind.i64.wrap ((b : Int) + (k.old.size : Int)) = (b : Int) + (k.old.size : Int) := sub_sum hbf
  have HL : (ks ++ [k] ++ [(⟨f, p, r⟩ : Cg)]).length = m + 1 + 1 := by subst hm; simp
  have HR : rows (ks ++ [k] ++ [⟨f, p, r⟩]) = rows (ks ++ [k]) ++ [.int .i64 f, .string p, .string r] := rows_append _ _
  clear hb hne hC CC hm b0 hbf
  go_enter Tryd.func39, Tryd.ntmps39
  go_wp2_with fail
  go_big_quiet (fail)
  have h5 : Below w.heap.size w (((w.alloc (.cells #[.int .i64 f, .string p, .string r] 48)).drewN nq).alloc (.cells #[.int .i64 f, .string p, .string r] 48)) := (sub_ond ((Below.refl _ w).alloc (Nat.le_refl _) (.cells #[.int .i64 f, .string p, .string r] 48)) _).alloc (by simp) _
  have b7 : Blk (((w.alloc (.cells #[.int .i64 f, .string p, .string r] 48)).drewN nq).alloc (.cells #[.int .i64 f, .string p, .string r] 48)) (w.heap.size + 1) 48 #[.int .i64 f, .string p, .string r] := by
    have := Blk.new ((w.alloc (.cells #[.int .i64 f, .string p, .string r] 48)).drewN nq) 48 #[.int .i64 f, .string p, .string r]
    simpa using this
  have ho5 := hown.kept (gb_below none h5) (by cases hv : (Value.slice (some ⟨g, 0, none⟩) (m + 1) c).ownBlock <;> simp)
  go_wp2_with (first
    | (at_builtin; refine wpList_append_own _ rfl _ _ 43 rfl B 48 i0 _ 3 40 Tryd.underlying43 hi hz0 hz1 hz2 rfl (by decide) _ _ _ rfl ho5 ⟨w.heap.size + 1, 0, none⟩ 1 1 [.int .i64 f, .string p, .string r] rfl rfl ?c1 ?c2 ?c3 ?c4 ?c5 ?_))
  case c1 =>
    intro j u hj
    rw [add_plain, Nat.zero_add]
    exact (b7.cell j).trans (by simpa using hj)
  case c2 =>
    intro u hu
    simp only [List.mem_cons, List.not_mem_nil, or_false] at hu
    rcases hu with rfl | rfl | rfl <;> rfl
  case c3 => unfold maxLen; omega
  case c4 => omega
  case c5 => exact Nat.le_trans hB h5.size
  intro v' w6 hown6 hgrow6 _
  obtain ⟨a6, cap6, rfl⟩ := own_shape hown6
  go_wp2
  go_ret
  refine ⟨a6, cap6, by rw [HL]; rfl, by rw [HL, HR]; exact hown6, gb_trans (gb_below _ h5) hgrow6⟩
set_option maxHeartbeats 2000000 in
set_option maxRecDepth 100000 in
theorem sub_add_join (s p r : ByteArray) {A : Option Addr} {c B f n m : Nat} {ks : List Cg} {k : Cg} {w : World} (hm : ks.length = m) (hn : n = m + 1) (hmx : m ≤ 1000000) (hown : w.ownsRow B 48 3 (.slice A n c) n (rows (ks ++ [k]))) (h : r.toList.isEmpty = true) {b : Nat} (hb : k.at_ = b) (hbf : b + k.old.size = f) (hfs : f + p.size ≤ s.size) (hs : s.size ≤ 1000000000000) :
    Calls Tryd.prog 39 #[.slice A n c, .string s, .agg #[.int .i64 f, .string p, .string r]] w (SubAddIs B (ks ++ [⟨k.at_, s.extract b (f + p.size), k.new⟩]) (.slice A n c) w) := by
  obtain ⟨i0, hi, hz0, hz1, hz2⟩ := info_parts info_cg
  have b0 := Blk.new w 48 #[.int .i64 f, .string p, .string r]
  have q0 : (w.alloc (.cells #[.int .i64 f, .string p, .string r] 48)).cell? ⟨w.heap.size, 0, none⟩ = some (.int .i64 f) := b0.cell 0
  have q1 : (w.alloc (.cells #[.int .i64 f, .string p, .string r] 48)).cell? ⟨w.heap.size, 1, none⟩ = some (.string p) := b0.cell 1
  have q2 : (w.alloc (.cells #[.int .i64 f, .string p, .string r] 48)).cell? ⟨w.heap.size, 2, none⟩ = some (.string r) := b0.cell 2
  subst hn
  obtain ⟨g, cc, hv, hgw, hBg, hfz⟩ := own_addr hown (by omega)
  injection hv with hv hl hcc
  subst hv hcc
  clear hl
  have hC := own_cgs hown (by rw [List.length_append, List.length_singleton]; omega)
  have CC : Hid (∀ u, Below w.heap.size w u → u.cell? ⟨g, m * 3, none⟩ = some (.int .i64 k.at_) ∧ u.cell? ⟨g, m * 3 + 1, none⟩ = some (.string k.old)) := fun u hu => by
    obtain ⟨b', off', e2, _, hc⟩ := (hC.below hu) (by simp)
    injection e2 with e2
    injection e2 with e2 e3 _
    subst e2 e3
    obtain ⟨a0, a1, _⟩ := hc m k (by rw [List.getElem?_append_right (by omega), hm, Nat.sub_self]; rfl)
    rw [Nat.zero_add] at a0 a1
    exact ⟨a0, a1⟩
  obtain ⟨c0, c1⟩ := CC.out (w.alloc (.cells #[.int .i64 f, .string p, .string r] 48)) ((Below.refl _ w).alloc (Nat.le_refl _) _)
  have w1 : IntKind.i64.wrap (m : Int) = (m : Int) := sub_wrap (by omega) (by omega)
  have g0 : decide ((0 : Int) ≤ (m : Int)) = true := by simp
  rw [hb] at c0
  have g1 : ((b : Int) + (k.old.size : Int) == (f : Int)) = true := by rw [beq_iff_eq]; omega
  have g2 : (b + k.old.size == f) = true := by rw [beq_iff_eq]; omega
  have g3 : decide ((m : Int) < (m : Int) + 1) = true := decide_eq_true (by omega)
  have g4 : (m : Int) < (m : Int) + 1 := by omega
  have w3 : IntKind.i64.wrap ((b : Int) + (k.old.size : Int)) = (b : Int) + (k.old.size : Int) := sub_sum (by rw [hbf]; exact Nat.le_trans (Nat.le_add_right _ _) (Nat.le_trans hfs hs))
  have w5 : IntKind.i64.wrap ((f : Int) + (p.size : Int)) = (f : Int) + (p.size : Int) := sub_sum (Nat.le_trans hfs hs)
  have i1 : (b : Int) ≤ (f : Int) + (p.size : Int) := by omega
  have i2 : (f : Int) + (p.size : Int) ≤ (s.size : Int) := by omega
  have f1 : (w.alloc (.cells #[.int .i64 f, .string p, .string r] 48)).frozen? ⟨g, m * 3 + 1, none⟩ = false := by
    have := own_addr (hown.alloc (.cells #[.int .i64 f, .string p, .string r] 48)) (by omega)
    obtain ⟨g', c', hv', _, _, hfz'⟩ := this
    injection hv' with hv' _ _
    injection hv' with hv'
    injection hv' with hv' _ _
    subst hv'
    exact hfz' _
  have HL : (ks ++ [(⟨k.at_, s.extract b (f + p.size), k.new⟩ : Cg)]).length = m + 1 := by subst hm; simp
  have HR : (rows (ks ++ [k])).set (m * 3 + 1) (.string (s.extract b (f + p.size))) = rows (ks ++ [⟨k.at_, s.extract b (f + p.size), k.new⟩]) := by subst hm; exact rows_old _
  clear hb hC CC hm b0 hbf
  go_enter Tryd.func39, Tryd.ntmps39
  go_wp2_with fail
  go_big_quiet (fail)
  go_wp2_with fail
  go_region
  go_wp2
  go_ret
  have hY : Below w.heap.size w ((w.alloc (.cells #[.int .i64 f, .string p, .string r] 48)).drewN (nq + 1)) := sub_ond ((Below.refl _ w).alloc (Nat.le_refl _) _) _
  have ho := hown.kept (gb_below none hY) (by simp [Value.ownBlock])
  obtain ⟨ho2, hg2⟩ := ho.stored (m * 3 + 1) (.string (s.extract b (f + p.size)))
  rw [HR] at ho2
  exact ⟨some ⟨g, 0, none⟩, c, by rw [HL]; rfl, by rw [HL]; exact ho2, gb_trans (gb_below _ hY) hg2⟩
theorem Sb.addC_is {s p r : ByteArray} {ks : List Cg} {k : Cg} {f b : Nat} (hb : k.at_ = b) (h : r.size = 0 ∧ k.at_ + k.old.size = f) : Sb.addC s.data.toList (ks ++ [k]) f p r = ks ++ [⟨k.at_, s.extract b (f + p.size), k.new⟩] := by
  rw [Sb.addC_join h, ext_seg, hb, Int.toNat_natCast]
theorem sub_add (s p r : ByteArray) {A : Option Addr} {c B f n : Nat} {ks : List Cg} {w : World} (hn : ks.length = n) (hmx : n ≤ 1000000) (hown : w.ownsRow B 48 3 (.slice A n c) n (rows ks)) (hB : B ≤ w.heap.size) (hin : Btc.In f 0 ks) (hfs : f + p.size ≤ s.size) (hs : s.size ≤ 1000000000000) :
    Calls Tryd.prog 39 #[.slice A n c, .string s, .agg #[.int .i64 f, .string p, .string r]] w (SubAddIs B (Sb.addC s.data.toList ks f p r) (.slice A n c) w) := by
  rcases List.eq_nil_or_concat ks with rfl | ⟨q, k, rfl⟩
  · rw [Sb.addC_nil]
    exact sub_add_nil s p r (by simpa using hn.symm) hown hB
  · rw [List.concat_eq_append] at *
    rw [List.length_append, List.length_singleton] at hn
    obtain ⟨b, hb, _, hbf⟩ := Sb.In_init hin
    cases hr : r.toList.isEmpty with
    | false =>
      have h0 : ¬ (r.size = 0 ∧ k.at_ + k.old.size = f) := fun h => by
        have : r.data.toList = [] := List.length_eq_zero_iff.1 (by rw [data_len]; exact h.1)
        rw [Lib.toList_data, this] at hr
        cases hr
      rw [Sb.addC_not h0]
      exact sub_add_put s p r (m := q.length) rfl hn.symm (by omega) hown hB hr
    | true =>
      have hr0 : r.size = 0 := by
        rw [Lib.toList_data, List.isEmpty_iff] at hr
        rw [← data_len, hr]; rfl
      by_cases he : b + k.old.size = f
      · rw [Sb.addC_is hb ⟨hr0, by rw [hb]; omega⟩]
        exact sub_add_join s p r (m := q.length) rfl hn.symm (by omega) hown hr hb he hfs hs
      · rw [Sb.addC_not (fun h => he (by have := h.2; rw [hb] at this; omega))]
        exact sub_add_far s p r (m := q.length) rfl hn.symm (by omega) hown hB hr hb (by omega) he
end Go.Proofs.YtlfhfpjffdaomaaDoor
