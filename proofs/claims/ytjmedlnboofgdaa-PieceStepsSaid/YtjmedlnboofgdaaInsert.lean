/-
  slices.Insert and slices.Replace at pieces: the library's own text, walked.
-/
import Derived.Test.YtjmedlnboofgdaaCells
import Derived.Deep.RegionLaw
namespace Go.Proofs.Ytjmedlnboofgdaa
open Go.RowKit
theorem info_piece : (Try.prog.info? 50).map (fun i => (i.zero, i.size, i.bytes)) = some (some (.agg #[.slice none 0 0]), 1, 24) := by kernel_rfl
theorem size_piece : (Try.prog.info? 50).map (·.size) = some 1 := by kernel_rfl
theorem zero_one (n : Nat) : ∀ v ∈ (Builtin.zeroCells (Value.agg #[.slice none 0 0]).cells n).toList, v.oneCell' = true := by
  intro v hv
  have : v = .slice none 0 0 := by
    simp [Builtin.zeroCells, Value.cells] at hv
    obtain ⟨k, _, hk⟩ := hv
    rw [Nat.mod_one] at hk
    exact hk.symm
  subst this; rfl
theorem row_cell {w : World} {g n : Nat} {e : TypeId} {cur xs : List Value} (hg : w.heap[g]? = some (.cells cur.toArray e (0, 0))) (hx : cur.take n = xs) {j : Nat} {v : Value} (hj : xs[j]? = some v) : w.cell? ⟨g, j, none⟩ = some v := by
  rw [cell_of_row w g j _ e (0, 0) hg]
  rw [← hx, List.getElem?_take] at hj
  split at hj
  · simpa using hj
  · cases hj
theorem add_at (g i j : Nat) : (⟨g, i, none⟩ : Addr).add j = ⟨g, i + j, none⟩ := by unfold Addr.add; split <;> simp_all
set_option maxHeartbeats 1000000 in
set_option maxRecDepth 100000 in
theorem ins_shift (g n c i vb m vc : Nat) (cur vcur xs vs : List Value) (w : World) (hi : i < n) (hm : 0 < m) (hroom : n + m ≤ c) (hc63 : c ≤ 9223372036854775807) (hvb : vb ≠ g)
    (hg : w.heap[g]? = some (.cells cur.toArray 50 (0, 0))) (hcur : cur.length = c) (hx : cur.take n = xs)
    (hv : w.heap[vb]? = some (.cells vcur.toArray 50 (0, 0))) (hvm : m ≤ vcur.length) (hvx : vcur.take m = vs) (h1x : ∀ v ∈ xs, v.oneCell' = true) (h1v : ∀ v ∈ vs, v.oneCell' = true) :
    Calls Try.prog 36 #[.slice (some ⟨g, 0, none⟩) n c, .int .i64 i, .slice (some ⟨vb, 0, none⟩) m vc] w fun e w' =>
      e = .returned (.slice (some ⟨g, 0, none⟩) (n + m) c) ∧ w'.heap[g]? = some (.cells (splice (splice cur (i + m) (xs.drop i)) i vs).toArray 50 (0, 0)) ∧ w.grownBy w' (some g) := by
  have hxl : xs.length = n := by rw [← hx, List.length_take]; omega
  have hvl : vs.length = m := by rw [← hvx, List.length_take]; omega
  have hdl : (xs.drop i).length = n - i := by rw [List.length_drop, hxl]
  have hz1 : ¬ ((m : Int) = 0) := by omega
  have hz2 : ¬ ((i : Int) = (n : Int)) := by omega
  have hov : ∀ lb cb, (callFunc 37 #[.slice (some ⟨vb, 0, none⟩) m vc, .slice (some ⟨g, i + m, none⟩) lb cb]).run Try.prog w = .ok (.value (.bool false)) w := fun lb cb => by
    rw [run_callFunc_extern Try.func37 (by kernel_rfl) (by kernel_rfl) (by kernel_rfl) (e := Extern.SlicesOverlaps.overlaps #[38, 38] #[4]) (by kernel_rfl),
      Lib.run_overlaps_apart w 38 4 50 Try.underlying38 1 Try.sizeOf50 ⟨vb, 0, none⟩ ⟨g, i + m, none⟩ m vc lb cb hvb 50 50 vcur.length cur.length (by simp [World.shape?, hv]) (by simp [World.shape?, hg]) (by omega) (by simp [World.frozen?, hv]) (by simp [World.frozen?, hv])]
    rfl
  have hw1 : IntKind.i64.wrap ((i : Int) + (m : Int)) = (i : Int) + (m : Int) := by rw [IntKind.wrap_i64]; omega
  have hb1 : (0 : Int) ≤ (i : Int) + (m : Int) := by omega
  have hin : i ≤ n := by omega
  have htn : ((i : Int) + (m : Int)).toNat = i + m := by omega
  have hb2 : ¬ (c = i + m) := by omega
  have hb3 : (i : Int) ≤ (n : Int) + (m : Int) := by omega
  have hb4 : ¬ (c = i) := by omega
  have hn1 : (xs.drop i).length = Nat.min (n + m - i) (n + m - (i + m)) := by rw [hdl]; simp only [Nat.min_def]; split <;> omega
  have hsrc1 : Hid (∀ j v, (xs.drop i)[j]? = some v → w.cell? ((⟨g, i, none⟩ : Addr).add j) = some v) := fun j v hj => by
    rw [add_at]; exact row_cell hg hx (by rwa [List.getElem?_drop] at hj)
  have hfit1 : i + m + (xs.drop i).length ≤ cur.length := by omega
  have h1d : Hid (∀ v ∈ xs.drop i, v.oneCell' = true) := fun v hv => h1x v (List.mem_of_mem_drop hv)
  have hn2 : ∀ k, k = n + m - i → vs.length = Nat.min m k := by intro k hk; rw [hvl]; simp only [Nat.min_def]; split <;> omega
  have hsrc2 : Hid (∀ w' : World, w.grownBy w' (some g) → ∀ j v, vs[j]? = some v → w'.cell? ((⟨vb, 0, none⟩ : Addr).add j) = some v) := fun w' hw' j v hj => by
    rw [add_at, Nat.zero_add]
    exact hw'.cell (row_cell hv hvx hj) (by simp; omega)
  have hlen2 : (splice cur (i + m) (xs.drop i)).length = cur.length := length_splice _ _ _ hfit1
  have hfit2 : i + vs.length ≤ (splice cur (i + m) (xs.drop i)).length := by omega
  have Hg := Lib.hid hg
  have H1v := Lib.hid h1v
  have hd : w.grownBy w.drew (some g) := gb_drew w _
  clear hg hv h1x h1v hx hvx hxl hdl hlen2
  go_enter Try.func36, Try.ntmps36
  go_wp2_with (simp only [hov])
  go_region_law (refine step_copy_g rfl _ _ 38 38 rfl 50 Try.underlying38 size_piece (some ⟨g, i + m, none⟩) (some ⟨g, i, none⟩) (n + m - (i + m)) (c - (i + m)) (n + m - i) (c - i) (by simp [Act.eval, Act.put]) (by simp [Act.eval, Act.put]) g (i + m) cur 50 Hg.out (xs.drop i) hn1 (fun _ => ⟨rfl, _, rfl, hsrc1.out⟩) hfit1 h1d.out ?_; intro w1 hg1 hgr1)
  have hw2 := gb_trans hd hgr1
  go_wp2_with (with_reducible refine wpList_copy_g rfl _ _ 38 38 rfl 50 Try.underlying38 size_piece _ _ _ _ _ _ rfl rfl g i _ 50 hg1.out vs (hn2 _ rfl) (fun _ => ⟨rfl, _, rfl, hsrc2.out _ hw2⟩) hfit2 H1v.out ?_; intro w2 hg2 hgr2)
  go_ret
  exact ⟨rfl, hg2.out, gb_trans hw2 hgr2⟩
-- GENERATED
set_option maxHeartbeats 1000000 in
set_option maxRecDepth 100000 in
theorem ins_end {B : Nat} {v : Value} {n : Nat} {xs : List Value} (vb m vc : Nat) (vcur vs : List Value) (w : World) (hB : B ≤ w.heap.size) (hown : w.ownsRow B 50 1 v n xs) (hm : 0 < m) (hn : n + m ≤ 1000000000000)
    (hv : w.heap[vb]? = some (.cells vcur.toArray 50 (0, 0))) (hvm : m ≤ vcur.length) (hvx : vcur.take m = vs) (h1v : ∀ v ∈ vs, v.oneCell' = true) :
    Calls Try.prog 36 #[v, .int .i64 n, .slice (some ⟨vb, 0, none⟩) m vc] w fun e w' => ∃ v', e = .returned v' ∧ w'.ownsRow B 50 1 v' (n + m) (xs ++ vs) ∧ w.grownBy w' v.ownBlock := by
  obtain ⟨i0, hi, hz0, hz1, hz2⟩ := info_parts info_piece
  have hvl : vs.length = m := by rw [← hvx, List.length_take]; omega
  have y1 : ¬ ((m : Int) = 0) := by omega
  have hnews : Hid (∀ j u, vs[j]? = some u → w.cell? ((⟨vb, 0, none⟩ : Addr).add j) = some u) := fun j u hj => by rw [add_at, Nat.zero_add]; exact row_cell hv hvx hj
  have Hv := Lib.hid h1v
  rcases hown.2 with ⟨rfl, rfl⟩ | ⟨g, cap, cur, rfl, hbg, hg, hnc, hcm, hcs, htake⟩
  · clear hv h1v hvx
    go_enter Try.func36, Try.ntmps36
    go_wp2_with (at_builtin; refine wpList_append_own _ rfl _ _ 38 rfl B 50 i0 (.agg #[.slice none 0 0]) 1 24 Try.underlying38 hi hz0 hz1 hz2 rfl (by decide) _ _ _ rfl hown ⟨vb, 0, none⟩ m vc vs rfl (by omega) hnews.out Hv.out (by unfold maxLen; omega) (by omega) hB ?_; intro v' w1 ho hgr _)
    go_ret
    exact ⟨_, rfl, ho, hgr⟩
  · have hcap : cap ≤ 9223372036854775807 := by unfold maxLen at hcm; omega
    clear hv h1v hvx hg hcs htake
    go_enter Try.func36, Try.ntmps36
    go_wp2_with (at_builtin; refine wpList_append_own _ rfl _ _ 38 rfl B 50 i0 (.agg #[.slice none 0 0]) 1 24 Try.underlying38 hi hz0 hz1 hz2 rfl (by decide) _ _ _ rfl hown ⟨vb, 0, none⟩ m vc vs rfl (by omega) hnews.out Hv.out (by unfold maxLen; omega) (by omega) hB ?_; intro v' w1 ho hgr _)
    all_goals
      go_ret
      exact ⟨_, rfl, ho, hgr⟩
theorem grow_zeros (w : World) (g i c k N : Nat) (cur xs : List Value) (hg : w.heap[g]? = some (.cells cur.toArray 50 (0, 0))) (hx : cur.take xs.length = xs) (hi : i ≤ xs.length) (hk : i + k = N) (hk0 : 0 < k) (hroom : c < N) (hsm : N ≤ 1000000000000) :
    ∃ (G : Nat) (ROW : List Value), (∀ ty, (Builtin.append_ #[38, 3] ty #[.slice (some ⟨g, 0, none⟩) i c, .int .i64 (k : Int)]).run Try.prog w = .ok (.slice (some ⟨w.heap.size, 0, none⟩) N G) (w.drew.alloc (.cells ROW.toArray 50))) ∧
      N ≤ G ∧ G ≤ maxLen ∧ ROW.length = G ∧ ROW.take i = xs.take i := by
  obtain ⟨i0, hi0, hz0, hzs, hzb⟩ := info_parts info_piece
  have hold : (Builtin.firstCells i0.size i (.slice (some ⟨g, 0, none⟩) i c)).run Try.prog w.drew = .ok (xs.take i).toArray w.drew := by
    rw [hzs]
    exact run_firstCells_some w.drew 1 i ⟨g, 0, none⟩ i c (xs.take i) (by rw [List.length_take]; omega) (fun j v hj => by
      rw [add_at, Nat.zero_add]
      have hji : j < i := by have := (List.getElem?_eq_some_iff.1 hj).1; rw [List.length_take] at this; omega
      rw [List.getElem?_take, if_pos hji] at hj
      exact row_cell (w := w) hg hx hj)
  obtain ⟨G, hG⟩ : ∃ G, G = grownCap w N c 50 := ⟨_, rfl⟩
  refine ⟨G, xs.take i ++ ((Builtin.zeroCells (Value.agg #[.slice none 0 0]).cells k).toList ++ (Builtin.zeroCells (Value.agg #[.slice none 0 0]).cells (G - N)).toList), fun ty => ?_, ?_, ?_, ?_, ?_⟩
  · have h := Lib.run_append_grow_zeros w 38 3 ty 50 i0 _ .i64 .i64 Try.underlying38 Try.underlying3 hi0 hz0 (some ⟨g, 0, none⟩) i c (xs.take i) hold k hk0 (by omega) (by omega) (by omega) (by rw [hzb]; omega) (by rw [hzb, hk]; exact growslice_fits hroom (by omega))
    rw [hk, ← hG] at h
    rw [h]
    congr 4
    apply Array.ext'; simp
  · rw [hG]; exact grownCap_ge w _ _ _
  · rw [hG]; exact grownCap_le_maxLen w N c 50 (by unfold maxLen; omega)
  · have hGn : N ≤ G := by rw [hG]; exact grownCap_ge w _ _ _
    simp only [List.length_append, List.length_take, toList_zeroCells1 _ _ (show (Value.agg #[.slice none 0 0]).cells.size = 1 from rfl)]
    omega
  · rw [List.take_append_of_le_length (by rw [List.length_take]; omega)]; exact List.take_of_length_le (by rw [List.length_take]; omega)
set_option maxHeartbeats 1000000 in
set_option maxRecDepth 100000 in
theorem ins_grow (g n c i vb m vc : Nat) (cur vcur xs vs : List Value) (w : World) (hi : i < n) (hm : 0 < m) (hnc : n ≤ c) (hroom : c < n + m) (hsm : n + m ≤ 1000000000000)
    (hg : w.heap[g]? = some (.cells cur.toArray 50 (0, 0))) (hcur : cur.length = c) (hx : cur.take n = xs)
    (hv : w.heap[vb]? = some (.cells vcur.toArray 50 (0, 0))) (hvm : m ≤ vcur.length) (hvx : vcur.take m = vs) (h1x : ∀ v ∈ xs, v.oneCell' = true) (h1v : ∀ v ∈ vs, v.oneCell' = true) :
    Calls Try.prog 36 #[.slice (some ⟨g, 0, none⟩) n c, .int .i64 i, .slice (some ⟨vb, 0, none⟩) m vc] w fun e w' =>
      ∃ G R, e = .returned (.slice (some ⟨w.heap.size, 0, none⟩) (n + m) G) ∧ n + m ≤ G ∧ G ≤ maxLen ∧ w'.heap[w.heap.size]? = some (.cells R 50 (0, 0)) ∧ R.size = G ∧ R.toList.take (n + m) = xs.take i ++ (vs ++ xs.drop i) ∧ w.grownBy w' none := by
  have hxl : xs.length = n := by rw [← hx, List.length_take]; omega
  have hvl : vs.length = m := by rw [← hvx, List.length_take]; omega
  have hdl : (xs.drop i).length = n - i := by rw [List.length_drop, hxl]
  have hz1 : ¬ ((m : Int) = 0) := by omega
  have hz2 : ¬ ((i : Int) = (n : Int)) := by omega
  have hz3 : (c : Int) < (n : Int) + (m : Int) := by omega
  have hkk : (n : Int) + (m : Int) - (i : Int) = ((n + m - i : Nat) : Int) := by omega
  obtain ⟨G, ROW, hrz, hGn, hGm, hRl, hRt⟩ := grow_zeros w g i c (n + m - i) (n + m) cur xs hg (by rw [hxl]; exact hx) (by omega) (by omega) (by omega) hroom hsm
  have hG63 : G ≤ 9223372036854775807 := by unfold maxLen at hGm; omega
  rw [← hkk] at hrz
  have hlt : g < w.heap.size := Blk.lt (w := w) hg
  have hltv : vb < w.heap.size := Blk.lt (w := w) hv
  have hl1 : (splice ROW i vs).length = ROW.length := length_splice _ _ _ (by omega)
  have hres : Hid ((splice (splice ROW i vs) (i + m) (xs.drop i)).take (n + m) = xs.take i ++ (vs ++ xs.drop i)) := by
    have := splice_left ROW i vs (xs.drop i) (by omega)
    rw [hRt, hvl, hdl, show i + m + (n - i) = n + m by omega] at this
    exact this
  have hl2 : (splice (splice ROW i vs) (i + m) (xs.drop i)).length = G := by rw [length_splice _ _ _ (by omega), hl1, hRl]
  obtain ⟨W1, hW1⟩ : ∃ W1, W1 = w.drew.alloc (.cells ROW.toArray 50) := ⟨_, rfl⟩
  rw [← hW1] at hrz
  have hWg : w.grownBy W1 none := by rw [hW1]; exact gb_trans (gb_drew w _) (World.grownBy_alloc _ _ _)
  have hWr : Hid (W1.heap[w.heap.size]? = some (.cells ROW.toArray 50 (0, 0))) := by rw [hW1]; exact Blk.new w.drew _ _
  have hn1 : ∀ k, k = n + m - i → vs.length = Nat.min m k := by intro k hk; rw [hvl]; simp only [Nat.min_def]; split <;> omega
  have hs1 : Hid (∀ j v, vs[j]? = some v → W1.cell? ((⟨vb, 0, none⟩ : Addr).add j) = some v) := fun j v hj => by
    rw [add_at, Nat.zero_add]; exact hWg.cell (row_cell hv hvx hj) (by simp)
  have hn2 : (xs.drop i).length = Nat.min (n - i) (n + m - (i + m)) := by rw [hdl]; simp only [Nat.min_def]; split <;> omega
  have hs2 : Hid (∀ w' : World, W1.grownBy w' (some w.heap.size) → ∀ j v, (xs.drop i)[j]? = some v → w'.cell? ((⟨g, i, none⟩ : Addr).add j) = some v) := fun w' hw' j v hj => by
    rw [add_at]
    exact hw'.cell (hWg.cell (row_cell hg hx (by rwa [List.getElem?_drop] at hj)) (by simp)) (by simp; omega)
  have h1d : Hid (∀ v ∈ xs.drop i, v.oneCell' = true) := fun v hv => h1x v (List.mem_of_mem_drop hv)
  have H1v := Lib.hid h1v
  have hGi : ¬ (G = i) := by omega
  have hGim : ¬ (G = i + m) := by omega
  have hci : ¬ (c = i) := by omega
  have hw1 : IntKind.i64.wrap ((i : Int) + (m : Int)) = (i : Int) + (m : Int) := by rw [IntKind.wrap_i64]; omega
  have hb1 : (0 : Int) ≤ (i : Int) + (m : Int) := by omega
  have hin : i ≤ n := by omega
  have htn : ((i : Int) + (m : Int)).toNat = i + m := by omega
  have hb3 : (i : Int) ≤ (n : Int) := by omega
  have hf1 : i + vs.length ≤ ROW.length := by omega
  have hf2 : i + m + (xs.drop i).length ≤ (splice ROW i vs).length := by omega
  clear hW1 hkk hRt hg hv hx hvx h1x h1v hxl
  go_enter Try.func36, Try.ntmps36
  go_wp2_with (first
    | (at_builtin; refine Lib.wpList_append_run _ rfl _ _ _ _ rfl _ _ rfl rfl _ _ (hrz _) ?_)
    | (with_reducible refine wpList_copy_g rfl _ _ 38 38 rfl 50 Try.underlying38 size_piece _ _ _ _ _ _ rfl rfl w.heap.size i ROW 50 hWr.out vs (hn1 _ rfl) (fun _ => ⟨rfl, _, rfl, hs1.out⟩) hf1 H1v.out ?_; intro w1 hg1 hgr1))
  go_region_law (refine step_copy_g rfl _ _ 38 38 rfl 50 Try.underlying38 size_piece (some ⟨w.heap.size, i + m, none⟩) (some ⟨g, i, none⟩) (n + m - (i + m)) (G - (i + m)) (n - i) (c - i) (by simp [Act.eval, Act.put]) (by simp [Act.eval, Act.put]) w.heap.size (i + m) (splice ROW i vs) 50 hg1.out (xs.drop i) hn2 (fun _ => ⟨rfl, _, rfl, hs2.out _ (gb_trans hgr1 (gb_drew _ _))⟩) hf2 h1d.out ?_; intro w2 hg2 hgr2)
  go_wp2
  go_ret
  have e0 := gb_own (row := some w.heap.size) hWg hgr1 (fun k hk => by injection hk with hk; omega)
  have e1 := gb_own (row := some w.heap.size) e0 (gb_trans (gb_drew w1 _) hgr2) (fun k hk => by injection hk with hk; omega)
  exact ⟨G, _, rfl, hGn, hGm, hg2.out, by simpa using hl2, by simpa using hres.out, e1⟩
end Go.Proofs.Ytjmedlnboofgdaa
