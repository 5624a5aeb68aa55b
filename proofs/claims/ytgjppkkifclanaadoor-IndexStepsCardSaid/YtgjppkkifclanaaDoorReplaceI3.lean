/-
  slices.Replace at lists of numbers: in the midst; a new array.
-/
import Derived.Test.YtgjppkkifclanaaDoorReplaceI
namespace Go.Proofs.YtgjppkkifclanaaDoor
open Go.RowKit
set_option maxHeartbeats 1000000 in
set_option maxRecDepth 100000 in
theorem rep_mid_growI (g j k c i vb m vc : Nat) (cur vcur xs vs : List Value) (w : World) (hij : i < j) (hk : 0 < k) (hm : 0 < m) (hnc : j + k ≤ c) (hroom : c < i + m + k) (hmore : j < i + m) (hsm : j + k + m ≤ 1000000000000)
    (hg : w.heap[g]? = some (.cells cur.toArray 3 (0, 0))) (hcur : cur.length = c) (hx : cur.take (j + k) = xs)
    (hv : w.heap[vb]? = some (.cells vcur.toArray 3 (0, 0))) (hvm : m ≤ vcur.length) (hvx : vcur.take m = vs) (h1x : ∀ v ∈ xs, v.oneCell' = true) (h1v : ∀ v ∈ vs, v.oneCell' = true) :
    Calls Tryd.prog 36 #[.slice (some ⟨g, 0, none⟩) (j + k) c, .int .i64 i, .int .i64 j, .slice (some ⟨vb, 0, none⟩) m vc] w fun e w' =>
      ∃ G R, e = .returned (.slice (some ⟨w.heap.size, 0, none⟩) (i + m + k) G) ∧ i + m + k ≤ G ∧ G ≤ maxLen ∧ w'.heap[w.heap.size]? = some (.cells R 3 (0, 0)) ∧ R.size = G ∧ R.toList.take (i + m + k) = xs.take i ++ (vs ++ xs.drop j) ∧ w.grownBy w' none := by
  have hcm : c ≤ maxLen := by unfold maxLen; omega
  have hxl : xs.length = j + k := by rw [← hx, List.length_take]; omega
  have hvl : vs.length = m := by rw [← hvx, List.length_take]; omega
  have hdl : (xs.drop j).length = k := by rw [List.length_drop, hxl]; omega
  have ht : cur.take i = xs.take i := by rw [← hx, List.take_take, Nat.min_eq_left (by omega)]
  have h1d : Hid (∀ v ∈ xs.drop j, v.oneCell' = true) := fun v hv => h1x v (List.mem_of_mem_drop hv)
  have Hv := Lib.hid h1v
  have hw1 : IntKind.i64.wrap ((i : Int) + (m : Int)) = (i : Int) + (m : Int) := by rw [IntKind.wrap_i64]; omega
  have hw2 : IntKind.i64.wrap ((i : Int) + (m : Int) + (k : Int)) = (i : Int) + (m : Int) + (k : Int) := by rw [IntKind.wrap_i64]; omega
  have hb1 : (0 : Int) ≤ (i : Int) + (m : Int) := by omega
  have hb2 : (0 : Int) ≤ (i : Int) + (m : Int) + (k : Int) := by omega
  have ht1 : ((i : Int) + (m : Int)).toNat = i + m := by omega
  have ht2 : ((i : Int) + (m : Int) + (k : Int)).toNat = i + m + k := by omega
  have c1 : ¬ (i : Int) = (j : Int) := by omega
  have c2 : ¬ (j : Int) = (j : Int) + (k : Int) := by omega
  have c3 : ¬ c = j := by omega
  have c4 : ¬ c = i := by omega
  have c8 : i ≤ j := by omega
  have c11 : (i : Int) + (m : Int) ≤ (i : Int) + (m : Int) + (k : Int) := by omega
  have c12 : (j : Int) ≤ (j : Int) + (k : Int) := by omega
  have c13 : (i : Int) ≤ (i : Int) + (m : Int) + (k : Int) := by omega
  have q1 : m ≤ i + m + k - i := by omega
  have q2 : m ≤ m + k := by omega
  have c9 : i ≤ j + k := by omega
  have hjk : j + k - j = k := by omega
  have hcap : c ≤ 9223372036854775807 := by unfold maxLen at hcm; omega
  have c5 : (c : Int) < (i : Int) + (m : Int) + (k : Int) := by omega
  have hkk : (i : Int) + (m : Int) + (k : Int) - (i : Int) = ((m + k : Nat) : Int) := by omega
  have hgw : g < w.heap.size := Blk.lt (w := w) hg
  have hvw : vb < w.heap.size := Blk.lt (w := w) hv
  have pack : Hid (∀ u : World, w.grownBy u none → u.heap = w.heap → ∃ (G : Nat) (ROW : List Value) (W1 : World), (∀ ty, (Builtin.append_ #[42, 3] ty #[.slice (some ⟨g, 0, none⟩) i c, .int .i64 ((i : Int) + (m : Int) + (k : Int) - (i : Int))]).run Tryd.prog u = .ok (.slice (some ⟨w.heap.size, 0, none⟩) (i + m + k) G) W1) ∧
      i + m + k ≤ G ∧ G ≤ maxLen ∧ Hid (ROW.length = G) ∧ Hid (ROW.take i = xs.take i) ∧ w.grownBy W1 none ∧ Hid (W1.heap[w.heap.size]? = some (.cells ROW.toArray 3 (0, 0)))) := fun u hu he => by
    obtain ⟨G, ROW, hrz, hGn, hGm, hRl, hRt⟩ := grow_zerosI u g i c (m + k) (i + m + k) cur xs (by rw [he]; exact hg) (by rw [hxl]; exact hx) (by omega) (by omega) (by omega) hroom (by omega)
    rw [← hkk, he] at hrz
    refine ⟨G, ROW, _, hrz, hGn, hGm, hRl, hRt, gb_trans hu (gb_trans (gb_drew u _) (World.grownBy_alloc _ _ _)), ?_⟩
    have := Blk.new u.drew 3 ROW.toArray
    rw [show u.drew.heap.size = w.heap.size by rw [← he]; rfl] at this
    exact this
  have hn1 : ∀ q, m ≤ q → vs.length = Nat.min m q := by intro q hq; rw [hvl]; simp only [Nat.min_def]; split <;> omega
  have hn2 : (xs.drop j).length = Nat.min k k := by rw [hdl]; exact (Nat.min_self k).symm
  have hs1 : Hid (∀ w' : World, w.grownBy w' none → ∀ q v, vs[q]? = some v → w'.cell? ((⟨vb, 0, none⟩ : Addr).add q) = some v) := fun w' hw' q v hq => by
    rw [add_atI, Nat.zero_add]; exact hw'.cell (row_cellI hv hvx hq) (by simp)
  have hs2 : Hid (∀ w' : World, w.grownBy w' none → ∀ q v, (xs.drop j)[q]? = some v → w'.cell? ((⟨g, j, none⟩ : Addr).add q) = some v) := fun w' hw' q v hq => by
    rw [add_atI]
    exact hw'.cell (row_cellI hg hx (by rwa [List.getElem?_drop] at hq)) (by simp)
  have hfit : Hid (∀ (ROW : List Value) (G : Nat), ROW.length = G → i + m + k ≤ G → i + vs.length ≤ ROW.length ∧ i + m + (xs.drop j).length ≤ (splice ROW i vs).length ∧ (splice (splice ROW i vs) (i + m) (xs.drop j)).length = G) := fun ROW G h1 h2 => by
    have e1 : (splice ROW i vs).length = ROW.length := length_splice _ _ _ (by omega)
    exact ⟨by omega, by omega, by rw [length_splice _ _ _ (by omega), e1, h1]⟩
  have hfin : Hid (∀ (ROW : List Value) (G : Nat), ROW.length = G → i + m + k ≤ G → ROW.take i = xs.take i → (splice (splice ROW i vs) (i + m) (xs.drop j)).take (i + m + k) = xs.take i ++ (vs ++ xs.drop j)) := fun ROW G h1 h2 h3 => by
    have := splice_left ROW i vs (xs.drop j) (by omega)
    rw [hvl, hdl, h3] at this
    exact this
  have hlow : ∀ q, some w.heap.size = some q → w.heap.size ≤ q := fun q hq => by injection hq with hq; omega
  clear hkk hg hv h1x h1v hx hvx ht hdl hxl hgw hvw
  go_enter Tryd.func36, Tryd.ntmps36
  go_wp2
  go_quiet (fail)
  obtain ⟨G, ROW, W1, hrz, hGn, hGm, hRl, hRt, hWg, hWr⟩ := pack.out (w.drewN nq) (gb_drewN w nq _) rfl
  have hG63 : G ≤ 9223372036854775807 := by unfold maxLen at hGm; omega
  have hGi : ¬ (G = i) := by omega
  have hGim : ¬ (G = i + m) := by omega
  have hf := Lib.hid (hfit.out ROW G hRl.out hGn)
  have hsa := Lib.hid (hs1.out W1 hWg)
  go_wp2_with (first
    | (at_builtin; refine Lib.wpList_append_run _ rfl _ _ _ _ rfl _ _ rfl rfl _ _ (hrz _) ?_)
    | (with_reducible refine wpList_copy_g rfl _ _ 42 42 rfl 3 Tryd.underlying42 size_pieceI _ _ _ _ _ _ rfl rfl w.heap.size i ROW 3 hWr.out vs (hn1 _ (by first | exact q1 | exact q2)) (fun _ => ⟨rfl, _, rfl, hsa.out⟩) hf.out.1 Hv.out ?_; intro w1 hg1 hgr1))
  have e0 := gb_own (row := some w.heap.size) hWg hgr1 hlow
  go_region_law (refine step_copy_g rfl _ _ 42 42 rfl 3 Tryd.underlying42 size_pieceI (some ⟨w.heap.size, i + m, none⟩) (some ⟨g, j, none⟩) k (G - (i + m)) k (c - j) (by simp [Act.eval, Act.put]) (by simp [Act.eval, Act.put]) w.heap.size (i + m) (splice ROW i vs) 3 hg1.out (xs.drop j) hn2 (fun _ => ⟨rfl, _, rfl, hs2.out _ (gb_trans e0 (gb_drew _ _))⟩) hf.out.2.1 h1d.out ?_; intro w2 hg2 hgr2)
  go_wp2
  go_ret
  have e1 := gb_own (row := some w.heap.size) e0 (gb_trans (gb_drew w1 _) hgr2) hlow
  exact ⟨G, _, rfl, hGn, hGm, hg2.out, by simpa using hf.out.2.2, by simpa using hfin.out ROW G hRl.out hGn hRt.out, e1⟩
end Go.Proofs.YtgjppkkifclanaaDoor
