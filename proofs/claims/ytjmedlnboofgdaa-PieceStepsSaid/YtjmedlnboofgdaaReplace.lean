/-
  slices.Replace at pieces: the library's own text, walked, way by way.
-/
import Derived.Test.YtjmedlnboofgdaaInsert
import Derived.Laws.AppendOwnNone
namespace Go.Proofs.Ytjmedlnboofgdaa
open Go.RowKit
theorem sl_insert {B : Nat} {v : Value} {n : Nat} {xs : List Value} (i vb m vc : Nat) (vcur vs : List Value) (w : World) (hB : B ≤ w.heap.size) (hown : w.ownsRow B 50 1 v n xs) (hi : i ≤ n) (hm : 0 < m) (hn : n + m ≤ 1000000000000) (hne : v.ownBlock ≠ some vb)
    (hv : w.heap[vb]? = some (.cells vcur.toArray 50 (0, 0))) (hvm : m ≤ vcur.length) (hvx : vcur.take m = vs) (h1x : ∀ v ∈ xs, v.oneCell' = true) (h1v : ∀ v ∈ vs, v.oneCell' = true) :
    Calls Try.prog 36 #[v, .int .i64 i, .slice (some ⟨vb, 0, none⟩) m vc] w fun e w' => ∃ v', e = .returned v' ∧ w'.ownsRow B 50 1 v' (n + m) (xs.take i ++ (vs ++ xs.drop i)) ∧ w.grownBy w' v.ownBlock := by
  have hxl : xs.length = n := by have := hown.1; omega
  have hvl : vs.length = m := by rw [← hvx, List.length_take]; omega
  rcases Nat.lt_or_ge i n with hlt | hge
  · obtain ⟨a, c, rfl⟩ := own_shape hown
    rcases hown.2 with ⟨_, rfl⟩ | ⟨g, cap, cur, he, _⟩
    · omega
    · injection he with e1 e2 e3
      subst e1 e3
      obtain ⟨hbg, hnc, hcm, _, cur, hg, hcl, hct⟩ := row_of_own hown
      have hgv : vb ≠ g := fun e => hne (by simp [Value.ownBlock, e])
      rcases Nat.lt_or_ge c (n + m) with hroom | hroom
      · refine (ins_grow g n c i vb m vc cur vcur xs vs w hlt hm hnc hroom hn hg hcl hct hv hvm hvx h1x h1v).mono ?_
        rintro e w' ⟨G, R, rfl, k1, k2, k3, k4, k5, k6⟩
        exact ⟨_, rfl, own_of_row (cur := R.toList) hB (by simpa using k3) (by simpa using k4) k1 k2 k5, gb_none _ k6⟩
      · refine (ins_shift g n c i vb m vc cur vcur xs vs w hlt hm hroom (by unfold maxLen at hcm; omega) hgv hg hcl hct hv hvm hvx h1x h1v).mono ?_
        rintro e w' ⟨rfl, k1, k2⟩
        have hdl : (xs.drop i).length = n - i := by rw [List.length_drop, hxl]
        have ht : cur.take i = xs.take i := by rw [← hct, List.take_take, Nat.min_eq_left (by omega)]
        have hl1 := length_splice cur (i + m) (xs.drop i) (by omega)
        refine ⟨_, rfl, own_of_row hbg k1 (by rw [length_splice _ _ _ (by omega), hl1, hcl]) hroom hcm ?_, k2⟩
        have := splice_right cur i vs (xs.drop i) (by omega)
        rw [hvl, hdl, show i + m + (n - i) = n + m by omega, ht] at this
        exact this
  · obtain rfl : i = n := by omega
    have e1 : xs.take i ++ (vs ++ xs.drop i) = xs ++ vs := by
      rw [List.take_of_length_le (by omega), List.drop_eq_nil_of_le (by omega), List.append_nil]
    rw [e1]
    exact ins_end vb m vc vcur vs w hB hown hm hn hv hvm hvx h1v
set_option maxHeartbeats 1000000 in
set_option maxRecDepth 100000 in
theorem rep_ins {B : Nat} {v : Value} {n : Nat} {xs : List Value} (i vb m vc : Nat) (vcur vs : List Value) (w : World) (hB : B ≤ w.heap.size) (hown : w.ownsRow B 50 1 v n xs) (hi : i ≤ n) (hm : 0 < m) (hn : n + m ≤ 1000000000000) (hne : v.ownBlock ≠ some vb)
    (hv : w.heap[vb]? = some (.cells vcur.toArray 50 (0, 0))) (hvm : m ≤ vcur.length) (hvx : vcur.take m = vs) (h1x : ∀ v ∈ xs, v.oneCell' = true) (h1v : ∀ v ∈ vs, v.oneCell' = true) :
    Calls Try.prog 33 #[v, .int .i64 i, .int .i64 i, .slice (some ⟨vb, 0, none⟩) m vc] w fun e w' => ∃ v', e = .returned v' ∧ w'.ownsRow B 50 1 v' (n + m) (xs.take i ++ (vs ++ xs.drop i)) ∧ w.grownBy w' v.ownBlock := by
  have C := Lib.hid (sl_insert i vb m vc vcur vs w hB hown hi hm hn hne hv hvm hvx h1x h1v)
  rcases hown.2 with ⟨rfl, rfl⟩ | ⟨g, c, cur, rfl, hbg, hg, hnc, hcm, hcs, htake⟩
  · obtain rfl : i = 0 := by omega
    clear hown hv h1x h1v hne hvx
    have C0 := C.out
    rw [show ((0 : Nat) : Int) = 0 from rfl] at C0
    have C1 := Lib.hid C0
    clear C C0
    go_enter Try.func33, Try.ntmps33
    go_wp2_with (go_at_call 36; refine C1.out.mono ?_; rintro e w1 ⟨v', rfl, ho, hgr⟩)
    go_ret
    exact ⟨_, rfl, ho, hgr⟩
  · have hcap : c ≤ 9223372036854775807 := by unfold maxLen at hcm; omega
    clear hown hv h1x h1v hne hvx hg hcs htake
    go_enter Try.func33, Try.ntmps33
    go_wp2_with (go_at_call 36; refine C.out.mono ?_; rintro e w1 ⟨v', rfl, ho, hgr⟩)
    all_goals
      go_ret
      exact ⟨_, rfl, ho, hgr⟩
theorem append_at (w : World) (g i c m vc : Nat) (ad : Addr) (cur vs : List Value) (hg : w.heap[g]? = some (.cells cur.toArray 50 (0, 0))) (hcur : cur.length = c) (hroom : i + m ≤ c) (hl : vs.length = m)
    (hs : ∀ j v, vs[j]? = some v → w.cell? (ad.add j) = some v) (h1 : ∀ v ∈ vs, v.oneCell' = true) :
    ∃ w', (∀ ty, (Builtin.append_ #[38, 38] ty #[.slice (some ⟨g, 0, none⟩) i c, .slice (some ad) m vc]).run Try.prog w = .ok (.slice (some ⟨g, 0, none⟩) (i + m) c) w') ∧ w'.heap[g]? = some (.cells (splice cur i vs).toArray 50 (0, 0)) ∧ w.grownBy w' (some g) := by
  obtain ⟨i0, hi0, hz0, hzs, hzb⟩ := info_parts info_piece
  refine ⟨_, fun ty => run_append_room w 38 ty 50 i0 Try.underlying38 hi0 g i c cur.toArray hg ad m vc vs (by rw [hzs]; omega) hs h1 hroom (by rw [hzs]; simp only [List.size_toArray]; omega), ?_, gb_setRow _ _ _⟩
  rw [setRow_heap w g _ _ _ _ hg, hzs]
  simp [splice]
set_option maxHeartbeats 1000000 in
set_option maxRecDepth 100000 in
theorem rep_end_room (g n c i vb m vc : Nat) (cur vcur xs vs : List Value) (w : World) (hi : i < n) (hm : 0 < m) (hnc : n ≤ c) (hroom : i + m ≤ c) (hcm : c ≤ maxLen)
    (hg : w.heap[g]? = some (.cells cur.toArray 50 (0, 0))) (hcur : cur.length = c) (hx : cur.take n = xs)
    (hv : w.heap[vb]? = some (.cells vcur.toArray 50 (0, 0))) (hvm : m ≤ vcur.length) (hvx : vcur.take m = vs) (h1v : ∀ v ∈ vs, v.oneCell' = true) :
    Calls Try.prog 33 #[.slice (some ⟨g, 0, none⟩) n c, .int .i64 i, .int .i64 n, .slice (some ⟨vb, 0, none⟩) m vc] w fun e w' =>
      e = .returned (.slice (some ⟨g, 0, none⟩) (i + m) c) ∧ ∃ R : List Value, w'.heap[g]? = some (.cells R.toArray 50 (0, 0)) ∧ R.length = c ∧ R.take (i + m) = xs.take i ++ vs ∧ w.grownBy w' (some g) := by
  have hvl : vs.length = m := by rw [← hvx, List.length_take]; omega
  obtain ⟨W1, hr, hW, hG⟩ := append_at w g i c m vc ⟨vb, 0, none⟩ cur vs hg hcur hroom hvl (fun j v hj => by rw [add_at, Nat.zero_add]; exact row_cell hv hvx hj) h1v
  have hl1 : (splice cur i vs).length = c := by rw [length_splice _ _ _ (by omega), hcur]
  have ht : cur.take i = xs.take i := by rw [← hx, List.take_take, Nat.min_eq_left (by omega)]
  have hres : Hid ((splice cur i vs).take (i + m) = xs.take i ++ vs) := by
    have := splice_left cur i vs [] (by simp; omega)
    rw [hvl, ht] at this
    show _ = _
    simpa [splice] using this
  have HW := Lib.hid hW
  have hcap : c ≤ 9223372036854775807 := by unfold maxLen at hcm; omega
  have b1 : ¬ (i : Int) = (n : Int) := by omega
  have zv := Try.zeroValue50
  clear hv hvx h1v hx hg hW ht
  rcases Nat.lt_or_ge (i + m) n with hlt | hge
  · have hz1 : ¬ (c = i + m) := by omega
    have hf : i + m + (n - (i + m)) ≤ (splice cur i vs).length := by omega
    go_enter Try.func33, Try.ntmps33
    go_wp2_with (first
      | (at_builtin; refine Lib.wpList_append_run _ rfl _ _ _ _ rfl _ _ rfl rfl _ _ (hr _) ?_)
      | (with_reducible refine wpList_clear_g rfl _ 38 rfl 50 (.agg #[.slice none 0 0]) Try.underlying38 zv rfl zero_one _ _ _ rfl g (i + m) _ 50 HW.out (fun _ => rfl) hf ?_; intro w2 hg2 hgr2))
    go_ret
    have hzl := toList_zeroCells1 (.agg #[.slice none 0 0]) (n - (i + m)) rfl
    refine ⟨rfl, _, hg2.out, ?_, ?_, gb_trans hG hgr2⟩
    · rw [length_splice _ _ _ (by omega), hl1]
    · rw [splice_take _ _ _ (by omega)]; exact hres.out
  · have b2 : ¬ ((i : Int) + (m : Int) < (n : Int)) := by omega
    go_enter Try.func33, Try.ntmps33
    go_wp2_with (at_builtin; refine Lib.wpList_append_run _ rfl _ _ _ _ rfl _ _ rfl rfl _ _ (hr _) ?_)
    go_ret
    exact ⟨rfl, _, HW.out, hl1, hres.out, hG⟩
set_option maxHeartbeats 1000000 in
set_option maxRecDepth 100000 in
theorem rep_end_grow {B : Nat} (g n c i vb m vc : Nat) (vcur xs vs : List Value) (w : World) (hB : B ≤ w.heap.size) (hown : w.ownsRow B 50 1 (.slice (some ⟨g, 0, none⟩) n c) n xs) (hi : i < n) (hroom : c < i + m) (hn : i + m ≤ 1000000000000)
    (hv : w.heap[vb]? = some (.cells vcur.toArray 50 (0, 0))) (hvm : m ≤ vcur.length) (hvx : vcur.take m = vs) (h1v : ∀ v ∈ vs, v.oneCell' = true) :
    Calls Try.prog 33 #[.slice (some ⟨g, 0, none⟩) n c, .int .i64 i, .int .i64 n, .slice (some ⟨vb, 0, none⟩) m vc] w fun e w' => ∃ v', e = .returned v' ∧ w'.ownsRow B 50 1 v' (i + m) (xs.take i ++ vs) ∧ w.grownBy w' (some g) := by
  obtain ⟨i0, hi0, hz0, hzs, hzb⟩ := info_parts info_piece
  obtain ⟨hbg, hnc, hcm, hxl, cur, hg, hcl, hct⟩ := row_of_own hown
  have hvl : vs.length = m := by rw [← hvx, List.length_take]; omega
  have hcap : c ≤ 9223372036854775807 := by unfold maxLen at hcm; omega
  have b1 : ¬ (i : Int) = (n : Int) := by omega
  have b2 : ¬ ((i : Int) + (m : Int) < (n : Int)) := by omega
  have ho1 : w.ownsRow B 50 1 (.slice (some ⟨g, 0, none⟩) i c) i (xs.take i) := own_of_row hbg hg hcl (by omega) hcm (by rw [← hct, List.take_take, Nat.min_eq_left (by omega)])
  have hnews : Hid (∀ j u, vs[j]? = some u → w.cell? ((⟨vb, 0, none⟩ : Addr).add j) = some u) := fun j u hj => by rw [add_at, Nat.zero_add]; exact row_cell hv hvx hj
  have Hv := Lib.hid h1v
  clear hv h1v hvx hg hct hown
  go_enter Try.func33, Try.ntmps33
  go_wp2_with (at_builtin; refine wpList_append_own _ rfl _ _ 38 rfl B 50 i0 (.agg #[.slice none 0 0]) 1 24 Try.underlying38 hi0 hz0 hzs hzb rfl (by decide) _ _ _ rfl ho1 ⟨vb, 0, none⟩ m vc vs rfl (by omega) hnews.out Hv.out (by unfold maxLen; omega) (by omega) hB ?_; intro v' w1 ho hgr _; obtain ⟨ao, cap, rfl⟩ := own_shape ho)
  go_ret
  exact ⟨_, rfl, ho, hgr⟩
set_option maxHeartbeats 1000000 in
set_option maxRecDepth 100000 in
theorem rep_end_nil (g n c i : Nat) (cur xs : List Value) (w : World) (hi : i < n) (hnc : n ≤ c) (hcm : c ≤ maxLen)
    (hg : w.heap[g]? = some (.cells cur.toArray 50 (0, 0))) (hcur : cur.length = c) (hx : cur.take n = xs) :
    Calls Try.prog 33 #[.slice (some ⟨g, 0, none⟩) n c, .int .i64 i, .int .i64 n, .slice none 0 0] w fun e w' =>
      e = .returned (.slice (some ⟨g, 0, none⟩) i c) ∧ ∃ R : List Value, w'.heap[g]? = some (.cells R.toArray 50 (0, 0)) ∧ R.length = c ∧ R.take i = xs.take i ∧ w.grownBy w' (some g) := by
  obtain ⟨i0, hi0, hz0, hzs, hzb⟩ := info_parts info_piece
  have hcap : c ≤ 9223372036854775807 := by unfold maxLen at hcm; omega
  have b1 : ¬ (i : Int) = (n : Int) := by omega
  have ht : cur.take i = xs.take i := by rw [← hx, List.take_take, Nat.min_eq_left (by omega)]
  have ho1 : w.ownsRow g 50 1 (.slice (some ⟨g, 0, none⟩) i c) i (xs.take i) := own_of_row (Nat.le_refl _) hg hcur (by omega) hcm ht
  have hz1 : ¬ (c = i) := by omega
  have hf : i + (n - i) ≤ cur.length := by omega
  have zv := Try.zeroValue50
  have Hg := Lib.hid hg
  clear hg hx
  go_enter Try.func33, Try.ntmps33
  go_wp2_with (first
    | (at_builtin; refine wpList_append_own_none rfl _ _ 38 rfl g 50 i0 1 Try.underlying38 hi0 _ _ _ rfl ho1 rfl ?_)
    | (with_reducible refine wpList_clear_g rfl _ 38 rfl 50 (.agg #[.slice none 0 0]) Try.underlying38 zv rfl zero_one _ _ _ rfl g i cur 50 Hg.out (fun _ => rfl) hf ?_; intro w2 hg2 hgr2))
  go_ret
  have hzl := toList_zeroCells1 (.agg #[.slice none 0 0]) (n - i) rfl
  refine ⟨rfl, _, hg2.out, ?_, ?_, hgr2⟩
  · rw [length_splice _ _ _ (by omega), hcur]
  · rw [splice_take _ _ _ (by omega)]; exact ht
end Go.Proofs.Ytjmedlnboofgdaa
