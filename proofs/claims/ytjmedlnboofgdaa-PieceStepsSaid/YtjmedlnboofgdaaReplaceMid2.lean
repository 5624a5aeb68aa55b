/-
  slices.Replace at pieces, in the midst of a list: nothing is put in; a new array.
-/
import Derived.Test.YtjmedlnboofgdaaReplace
namespace Go.Proofs.Ytjmedlnboofgdaa
open Go.RowKit
set_option maxHeartbeats 1000000 in
set_option maxRecDepth 100000 in
theorem rep_mid_nil (g j k c i : Nat) (cur xs : List Value) (w : World) (hij : i < j) (hk : 0 < k) (hnc : j + k ≤ c) (hcm : c ≤ maxLen)
    (hg : w.heap[g]? = some (.cells cur.toArray 50 (0, 0))) (hcur : cur.length = c) (hx : cur.take (j + k) = xs) (h1x : ∀ v ∈ xs, v.oneCell' = true) :
    Calls Try.prog 33 #[.slice (some ⟨g, 0, none⟩) (j + k) c, .int .i64 i, .int .i64 j, .slice none 0 0] w fun e w' =>
      e = .returned (.slice (some ⟨g, 0, none⟩) (i + k) c) ∧ ∃ R : List Value, w'.heap[g]? = some (.cells R.toArray 50 (0, 0)) ∧ R.length = c ∧ R.take (i + k) = xs.take i ++ xs.drop j ∧ w.grownBy w' (some g) := by
  have hxl : xs.length = j + k := by rw [← hx, List.length_take]; omega
  have hdl : (xs.drop j).length = k := by rw [List.length_drop, hxl]; omega
  have ht : cur.take i = xs.take i := by rw [← hx, List.take_take, Nat.min_eq_left (by omega)]
  have h1d : Hid (∀ v ∈ xs.drop j, v.oneCell' = true) := fun v hv => h1x v (List.mem_of_mem_drop hv)
  have hw2 : IntKind.i64.wrap ((i : Int) + (k : Int)) = (i : Int) + (k : Int) := by unfold maxLen at hcm; rw [IntKind.wrap_i64]; omega
  have hw3 : IntKind.i64.wrap (i : Int) = (i : Int) := by unfold maxLen at hcm; rw [IntKind.wrap_i64]; omega
  have hb2 : (0 : Int) ≤ (i : Int) + (k : Int) := by omega
  have ht2 : ((i : Int) + (k : Int)).toNat = i + k := by omega
  have c1 : ¬ (i : Int) = (j : Int) := by omega
  have c2 : ¬ (j : Int) = (j : Int) + (k : Int) := by omega
  have c3 : ¬ c = j := by omega
  have c4 : ¬ c = i := by omega
  have c8 : i ≤ j := by omega
  have c9 : i ≤ j + k := by omega
  have hjk : j + k - j = k := by omega
  have c12 : (j : Int) ≤ (j : Int) + (k : Int) := by omega
  have c13 : (i : Int) ≤ (i : Int) + (k : Int) := by omega
  have c14 : ¬ c = i + k := by omega
  have hcap : c ≤ 9223372036854775807 := by unfold maxLen at hcm; omega
  have c5 : ¬ (c : Int) < (i : Int) + (k : Int) := by omega
  have c10 : (i : Int) + (k : Int) ≤ (j : Int) + (k : Int) := by omega
  have zv := Try.zeroValue50
  have hl1 : (splice cur i ([] : List Value)).length = cur.length := length_splice _ _ _ (by simp; omega)
  have hl2 : (splice (splice cur i []) i (xs.drop j)).length = c := by rw [length_splice _ _ _ (by omega), hl1, hcur]
  have hres : Hid ((splice (splice cur i []) i (xs.drop j)).take (i + k) = xs.take i ++ xs.drop j) := by
    have := splice_left cur i [] (xs.drop j) (by simp; omega)
    rw [hdl, ht] at this
    exact this
  have hn2 : (xs.drop j).length = Nat.min k k := by rw [hdl]; exact (Nat.min_self k).symm
  have hn1 : ∀ q, ([] : List Value).length = Nat.min 0 q := fun q => (Nat.zero_min q).symm
  have hs2 : Hid (∀ w' : World, w'.heap[g]? = some (.cells (splice cur i []).toArray 50 (0, 0)) → ∀ q v, (xs.drop j)[q]? = some v → w'.cell? ((⟨g, j, none⟩ : Addr).add q) = some v) := fun w' hw' q v hq => by
    rw [add_at]
    have hlt : j + q < j + k := by
      have := (List.getElem?_eq_some_iff.1 hq).1
      omega
    rw [cell_of_row w' g _ _ 50 (0, 0) hw']
    have e1 : (splice cur i [])[j + q]? = some v := by
      rw [splice_get? _ _ _ (by simp; omega), if_neg (by simp)]
      rw [List.getElem?_drop, ← hx, List.getElem?_take, if_pos hlt] at hq
      exact hq
    simpa using e1
  have hf1 : i + ([] : List Value).length ≤ cur.length := by simp; omega
  have hf2 : i + (xs.drop j).length ≤ (splice cur i []).length := by omega
  have hf3 : i + k + (j + k - (i + k)) ≤ (splice (splice cur i []) i (xs.drop j)).length := by omega
  have hnov : ∀ v ∈ ([] : List Value), v.oneCell' = true := by simp
  have hp0 : ∀ P : Prop, 0 < ([] : List Value).length → P := fun P h => absurd h (by simp)
  have Hg : Hid (∀ q : Nat, (w.drewN q).heap[g]? = some (.cells cur.toArray 50 (0, 0))) := fun _ => hg
  clear hg h1x hx ht hdl hxl
  go_enter Try.func33, Try.ntmps33
  go_wp2
  go_quiet (fail)
  go_wp2_with (with_reducible refine wpList_copy_g rfl _ _ 38 38 rfl 50 Try.underlying38 size_piece _ _ _ _ _ _ rfl rfl g i _ 50 (Hg.out _) [] (hn1 _) (hp0 _) hf1 hnov ?_; intro w1 hg1 hgr1)
  go_region_law (refine step_copy_g rfl _ _ 38 38 rfl 50 Try.underlying38 size_piece (some ⟨g, i, none⟩) (some ⟨g, j, none⟩) k (c - i) k (c - j) (by simp [Act.eval, Act.put]) (by simp [Act.eval, Act.put]) g i _ 50 hg1.out (xs.drop j) hn2 (fun _ => ⟨rfl, _, rfl, hs2.out _ hg1.out⟩) hf2 h1d.out ?_; intro w2 hg2 hgr2)
  have hw0 := gb_trans (gb_trans (gb_drewN w _ _) hgr1) (gb_trans (gb_drew _ _) hgr2)
  go_wp2_with (with_reducible refine wpList_clear_g rfl _ 38 rfl 50 (.agg #[.slice none 0 0]) Try.underlying38 zv rfl zero_one _ _ _ rfl g (i + k) _ 50 hg2.out (fun _ => rfl) hf3 ?_; intro w3 hg3 hgr3)
  go_ret
  have hzl := toList_zeroCells1 (.agg #[.slice none 0 0]) (j + k - (i + k)) rfl
  refine ⟨rfl, _, hg3.out, ?_, ?_, gb_trans hw0 hgr3⟩
  · rw [length_splice _ _ _ (by omega), hl2]
  · rw [splice_take _ _ _ (by omega)]; exact hres.out
set_option maxHeartbeats 1000000 in
set_option maxRecDepth 100000 in
theorem rep_mid_grow (g j k c i vb m vc : Nat) (cur vcur xs vs : List Value) (w : World) (hij : i < j) (hk : 0 < k) (hm : 0 < m) (hnc : j + k ≤ c) (hroom : c < i + m + k) (hmore : j < i + m) (hsm : j + k + m ≤ 1000000000000)
    (hg : w.heap[g]? = some (.cells cur.toArray 50 (0, 0))) (hcur : cur.length = c) (hx : cur.take (j + k) = xs)
    (hv : w.heap[vb]? = some (.cells vcur.toArray 50 (0, 0))) (hvm : m ≤ vcur.length) (hvx : vcur.take m = vs) (h1x : ∀ v ∈ xs, v.oneCell' = true) (h1v : ∀ v ∈ vs, v.oneCell' = true) :
    Calls Try.prog 33 #[.slice (some ⟨g, 0, none⟩) (j + k) c, .int .i64 i, .int .i64 j, .slice (some ⟨vb, 0, none⟩) m vc] w fun e w' =>
      ∃ G R, e = .returned (.slice (some ⟨w.heap.size, 0, none⟩) (i + m + k) G) ∧ i + m + k ≤ G ∧ G ≤ maxLen ∧ w'.heap[w.heap.size]? = some (.cells R 50 (0, 0)) ∧ R.size = G ∧ R.toList.take (i + m + k) = xs.take i ++ (vs ++ xs.drop j) ∧ w.grownBy w' none := by
  have hcm : c ≤ maxLen := by unfold maxLen; omega
  have hxl : xs.length = j + k := by rw [← hx, List.length_take]; omega
  have hvl : vs.length = m := by rw [← hvx, List.length_take]; omega
  have hdl : (xs.drop j).length = k := by rw [List.length_drop, hxl]; omega
  have ht : cur.take i = xs.take i := by rw [← hx, List.take_take, Nat.min_eq_left (by omega)]
  have h1d : Hid (∀ v ∈ xs.drop j, v.oneCell' = true) := fun v hv => h1x v (List.mem_of_mem_drop hv)
  have Hv := Lib.hid h1v
  have hw1 : IntKind.i64.wrap ((i : Int) + (m : Int)) = (i : Int) + (m : Int) := by rw [IntKind.wrap_i64]; omega
  have hw2 : IntKind.i64.wrap ((i : Int) + (m : Int) + (k : Int)) = (i : Int) + (m : Int) + (k : Int) := by rw [IntKind.wrap_i64]; omega
  have hb1 : (0 : Int) ≤ (i : Int) + (m : Int) := by omega
  have hb2 : (0 : Int) ≤ (i : Int) + (m : Int) + (k : Int) := by omega
  have ht1 : ((i : Int) + (m : Int)).toNat = i + m := by omega
  have ht2 : ((i : Int) + (m : Int) + (k : Int)).toNat = i + m + k := by omega
  have c1 : ¬ (i : Int) = (j : Int) := by omega
  have c2 : ¬ (j : Int) = (j : Int) + (k : Int) := by omega
  have c3 : ¬ c = j := by omega
  have c4 : ¬ c = i := by omega
  have c8 : i ≤ j := by omega
  have c11 : (i : Int) + (m : Int) ≤ (i : Int) + (m : Int) + (k : Int) := by omega
  have c12 : (j : Int) ≤ (j : Int) + (k : Int) := by omega
  have c13 : (i : Int) ≤ (i : Int) + (m : Int) + (k : Int) := by omega
  have q1 : m ≤ i + m + k - i := by omega
  have q2 : m ≤ m + k := by omega
  have c9 : i ≤ j + k := by omega
  have hjk : j + k - j = k := by omega
  have hcap : c ≤ 9223372036854775807 := by unfold maxLen at hcm; omega
  have c5 : (c : Int) < (i : Int) + (m : Int) + (k : Int) := by omega
  have hkk : (i : Int) + (m : Int) + (k : Int) - (i : Int) = ((m + k : Nat) : Int) := by omega
  have hgw : g < w.heap.size := Blk.lt (w := w) hg
  have hvw : vb < w.heap.size := Blk.lt (w := w) hv
  have pack : Hid (∀ u : World, w.grownBy u none → u.heap = w.heap → ∃ (G : Nat) (ROW : List Value) (W1 : World), (∀ ty, (Builtin.append_ #[38, 3] ty #[.slice (some ⟨g, 0, none⟩) i c, .int .i64 ((i : Int) + (m : Int) + (k : Int) - (i : Int))]).run Try.prog u = .ok (.slice (some ⟨w.heap.size, 0, none⟩) (i + m + k) G) W1) ∧
      i + m + k ≤ G ∧ G ≤ maxLen ∧ Hid (ROW.length = G) ∧ Hid (ROW.take i = xs.take i) ∧ w.grownBy W1 none ∧ Hid (W1.heap[w.heap.size]? = some (.cells ROW.toArray 50 (0, 0)))) := fun u hu he => by
    obtain ⟨G, ROW, hrz, hGn, hGm, hRl, hRt⟩ := grow_zeros u g i c (m + k) (i + m + k) cur xs (by rw [he]; exact hg) (by rw [hxl]; exact hx) (by omega) (by omega) (by omega) hroom (by omega)
    rw [← hkk, he] at hrz
    refine ⟨G, ROW, _, hrz, hGn, hGm, hRl, hRt, gb_trans hu (gb_trans (gb_drew u _) (World.grownBy_alloc _ _ _)), ?_⟩
    have := Blk.new u.drew 50 ROW.toArray
    rw [show u.drew.heap.size = w.heap.size by rw [← he]; rfl] at this
    exact this
  have hn1 : ∀ q, m ≤ q → vs.length = Nat.min m q := by intro q hq; rw [hvl]; simp only [Nat.min_def]; split <;> omega
  have hn2 : (xs.drop j).length = Nat.min k k := by rw [hdl]; exact (Nat.min_self k).symm
  have hs1 : Hid (∀ w' : World, w.grownBy w' none → ∀ q v, vs[q]? = some v → w'.cell? ((⟨vb, 0, none⟩ : Addr).add q) = some v) := fun w' hw' q v hq => by
    rw [add_at, Nat.zero_add]; exact hw'.cell (row_cell hv hvx hq) (by simp)
  have hs2 : Hid (∀ w' : World, w.grownBy w' none → ∀ q v, (xs.drop j)[q]? = some v → w'.cell? ((⟨g, j, none⟩ : Addr).add q) = some v) := fun w' hw' q v hq => by
    rw [add_at]
    exact hw'.cell (row_cell hg hx (by rwa [List.getElem?_drop] at hq)) (by simp)
  have hfit : Hid (∀ (ROW : List Value) (G : Nat), ROW.length = G → i + m + k ≤ G → i + vs.length ≤ ROW.length ∧ i + m + (xs.drop j).length ≤ (splice ROW i vs).length ∧ (splice (splice ROW i vs) (i + m) (xs.drop j)).length = G) := fun ROW G h1 h2 => by
    have e1 : (splice ROW i vs).length = ROW.length := length_splice _ _ _ (by omega)
    exact ⟨by omega, by omega, by rw [length_splice _ _ _ (by omega), e1, h1]⟩
  have hfin : Hid (∀ (ROW : List Value) (G : Nat), ROW.length = G → i + m + k ≤ G → ROW.take i = xs.take i → (splice (splice ROW i vs) (i + m) (xs.drop j)).take (i + m + k) = xs.take i ++ (vs ++ xs.drop j)) := fun ROW G h1 h2 h3 => by
    have := splice_left ROW i vs (xs.drop j) (by omega)
    rw [hvl, hdl, h3] at this
    exact this
  have hlow : ∀ q, some w.heap.size = some q → w.heap.size ≤ q := fun q hq => by injection hq with hq; omega
  clear hkk hg hv h1x h1v hx hvx ht hdl hxl hgw hvw
  go_enter Try.func33, Try.ntmps33
  go_wp2
  go_quiet (fail)
  obtain ⟨G, ROW, W1, hrz, hGn, hGm, hRl, hRt, hWg, hWr⟩ := pack.out (w.drewN nq) (gb_drewN w nq _) rfl
  have hG63 : G ≤ 9223372036854775807 := by unfold maxLen at hGm; omega
  have hGi : ¬ (G = i) := by omega
  have hGim : ¬ (G = i + m) := by omega
  have hf := Lib.hid (hfit.out ROW G hRl.out hGn)
  have hsa := Lib.hid (hs1.out W1 hWg)
  go_wp2_with (first
    | (at_builtin; refine Lib.wpList_append_run _ rfl _ _ _ _ rfl _ _ rfl rfl _ _ (hrz _) ?_)
    | (with_reducible refine wpList_copy_g rfl _ _ 38 38 rfl 50 Try.underlying38 size_piece _ _ _ _ _ _ rfl rfl w.heap.size i ROW 50 hWr.out vs (hn1 _ (by first | exact q1 | exact q2)) (fun _ => ⟨rfl, _, rfl, hsa.out⟩) hf.out.1 Hv.out ?_; intro w1 hg1 hgr1))
  have e0 := gb_own (row := some w.heap.size) hWg hgr1 hlow
  go_region_law (refine step_copy_g rfl _ _ 38 38 rfl 50 Try.underlying38 size_piece (some ⟨w.heap.size, i + m, none⟩) (some ⟨g, j, none⟩) k (G - (i + m)) k (c - j) (by simp [Act.eval, Act.put]) (by simp [Act.eval, Act.put]) w.heap.size (i + m) (splice ROW i vs) 50 hg1.out (xs.drop j) hn2 (fun _ => ⟨rfl, _, rfl, hs2.out _ (gb_trans e0 (gb_drew _ _))⟩) hf.out.2.1 h1d.out ?_; intro w2 hg2 hgr2)
  go_wp2
  go_ret
  have e1 := gb_own (row := some w.heap.size) e0 (gb_trans (gb_drew w1 _) hgr2) hlow
  exact ⟨G, _, rfl, hGn, hGm, hg2.out, by simpa using hf.out.2.2, by simpa using hfin.out ROW G hRl.out hGn hRt.out, e1⟩
end Go.Proofs.Ytjmedlnboofgdaa
