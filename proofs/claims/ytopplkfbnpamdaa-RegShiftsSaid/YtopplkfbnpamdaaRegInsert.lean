/-
  slices.Insert at one register: the library's own text, walked.
-/
import Derived.Test.YtopplkfbnpamdaaRegCells
import Derived.Test.YtopplkfbnpamdaaRgs
import Derived.Deep.RegionLaw
namespace Go.Proofs.Ytopplkfbnpamdaa
open Go.RowKit
set_option maxHeartbeats 1000000 in
set_option maxRecDepth 100000 in
theorem rg_shift (g n c i vb : Nat) (cur xs vs : List Value) (w : World) (hi : i < n) (hroom : n + 1 ≤ c) (hc63 : c ≤ 9223372036854775807) (hvb : vb ≠ g)
    (hg : w.heap[g]? = some (.cells cur.toArray 32 (0, 0))) (hcur : cur.length = c * 3) (hx : cur.take (n * 3) = xs)
    (hv : w.heap[vb]? = some (.cells vs.toArray 32 (0, 0))) (hvl : vs.length = 3) (h1x : ∀ v ∈ xs, v.oneCell' = true) (h1v : ∀ v ∈ vs, v.oneCell' = true) :
    Calls Try.prog 42 #[.slice (some ⟨g, 0, none⟩) n c, .int .i64 i, .slice (some ⟨vb, 0, none⟩) 1 1] w fun e w' =>
      e = .returned (.slice (some ⟨g, 0, none⟩) (n + 1) c) ∧ w'.heap[g]? = some (.cells (splice (splice cur (i * 3 + 3) (xs.drop (i * 3))) (i * 3) vs).toArray 32 (0, 0)) ∧ w.grownBy w' (some g) := by
  have hxl : xs.length = n * 3 := by rw [← hx, List.length_take]; omega
  have hdl : (xs.drop (i * 3)).length = (n - i) * 3 := by rw [List.length_drop, hxl]; omega
  have hz2 : ¬ ((i : Int) = (n : Int)) := by omega
  have hov : ∀ lb cb, (callFunc 48 #[.slice (some ⟨vb, 0, none⟩) 1 1, .slice (some ⟨g, (i + 1) * 3, none⟩) lb cb]).run Try.prog w = .ok (.value (.bool false)) w := fun lb cb => by
    rw [run_callFunc_extern Try.func48 (by kernel_rfl) (by kernel_rfl) (by kernel_rfl) (e := Extern.SlicesOverlaps.overlaps #[22, 22] #[4]) (by kernel_rfl),
      Lib.run_overlaps_apart w 22 4 32 Try.underlying22 3 Try.sizeOf32 ⟨vb, 0, none⟩ ⟨g, (i + 1) * 3, none⟩ 1 1 lb cb hvb 32 32 vs.length cur.length (by simp [World.shape?, hv]) (by simp [World.shape?, hg]) (by omega) (by simp [World.frozen?, hv]) (by simp [World.frozen?, hv])]
    rfl
  have hw1 : IntKind.i64.wrap ((i : Int) + 1) = (i : Int) + 1 := by rw [IntKind.wrap_i64]; omega
  have hb1 : (0 : Int) ≤ (i : Int) + 1 := by omega
  have hin : i ≤ n := by omega
  have htn : ((i : Int) + 1).toNat = i + 1 := by omega
  have hb2 : ¬ (c = i + 1) := by omega
  have hb3 : (i : Int) ≤ (n : Int) + 1 := by omega
  have hb4 : ¬ (c = i) := by omega
  have hn1 : Hid (n - i = Nat.min (n + 1 - i) (n + 1 - (i + 1))) := by show _ = _; simp only [Nat.min_def]; split <;> omega
  have hsrc1 : Hid (∀ j v, (xs.drop (i * 3))[j]? = some v → w.cell? ((⟨g, i * 3, none⟩ : Addr).add j) = some v) := fun j v hj => by
    rw [add_at3]; exact row_cell3 hg hx (by rwa [List.getElem?_drop] at hj)
  have hfit1 : i * 3 + 3 + (xs.drop (i * 3)).length ≤ cur.length := by omega
  have h1d : Hid (∀ v ∈ xs.drop (i * 3), v.oneCell' = true) := fun v hv => h1x v (List.mem_of_mem_drop hv)
  have hn2 : Hid (∀ k, k = n + 1 - i → 1 = Nat.min 1 k) := by intro k hk; simp only [Nat.min_def]; split <;> omega
  have hsrc2 : Hid (∀ w' : World, w.grownBy w' (some g) → ∀ j v, vs[j]? = some v → w'.cell? ((⟨vb, 0, none⟩ : Addr).add j) = some v) := fun w' hw' j v hj => by
    rw [add_at3, Nat.zero_add]
    exact hw'.cell (row_cell3 (n := 3) hv (by rw [List.take_of_length_le (by omega)]) hj) (by simp; omega)
  have hlen2 : (splice cur (i * 3 + 3) (xs.drop (i * 3))).length = cur.length := length_splice _ _ _ hfit1
  have hfit2 : i * 3 + vs.length ≤ (splice cur (i * 3 + 3) (xs.drop (i * 3))).length := by omega
  have Hg := Lib.hid hg
  have H1v := Lib.hid h1v
  have hd : w.grownBy w.drew (some g) := gb_drew w _
  clear hg hv h1x h1v hx hxl hlen2
  go_enter Try.func42, Try.ntmps42
  go_wp2_with (simp only [hov])
  go_region_law (refine step_copy_z rfl _ _ 22 22 rfl 32 3 Try.underlying22 size_reg ⟨g, i * 3, none⟩ (n + 1 - (i + 1)) (c - (i + 1)) (n + 1 - i) (c - i) g (i * 3 + 3) (by simp [Act.eval, Act.put]) (by simp [Act.eval, Act.put]) cur 32 Hg.out (n - i) hn1.out (xs.drop (i * 3)) hdl hsrc1.out hfit1 h1d.out ?_; intro w1 hg1 hgr1)
  have hw2 := gb_trans hd hgr1
  go_wp2_with (with_reducible refine wpList_copy_z rfl _ _ 22 22 rfl 32 3 Try.underlying22 size_reg _ _ _ _ _ g (i * 3) rfl rfl _ 32 hg1.out 1 (hn2.out _ rfl) vs hvl (hsrc2.out _ hw2) hfit2 H1v.out ?_; intro w2 hg2 hgr2)
  go_ret
  exact ⟨rfl, hg2.out, gb_trans hw2 hgr2⟩
set_option maxHeartbeats 1000000 in
set_option maxRecDepth 100000 in
theorem rg_end {B : Nat} {v : Value} {n : Nat} {xs : List Value} (vb : Nat) (vs : List Value) (w : World) (hB : B ≤ w.heap.size) (hown : w.ownsRow B 32 3 v n xs) (hn : n ≤ 1000)
    (hv : w.heap[vb]? = some (.cells vs.toArray 32 (0, 0))) (hvl : vs.length = 3) (h1v : ∀ v ∈ vs, v.oneCell' = true) :
    Calls Try.prog 42 #[v, .int .i64 n, .slice (some ⟨vb, 0, none⟩) 1 1] w fun e w' => ∃ v', e = .returned v' ∧ w'.ownsRow B 32 3 v' (n + 1) (xs ++ vs) ∧ w.grownBy w' v.ownBlock := by
  obtain ⟨i0, hi, hz0, hz1, hz2⟩ := info_parts info_reg
  have hnews : Hid (∀ j u, vs[j]? = some u → w.cell? ((⟨vb, 0, none⟩ : Addr).add j) = some u) := fun j u hj => by rw [add_at3, Nat.zero_add]; exact row_cell3 (n := 3) hv (by rw [List.take_of_length_le (by omega)]) hj
  have Hv := Lib.hid h1v
  rcases hown.2 with ⟨rfl, rfl⟩ | ⟨g, cap, cur, rfl, hbg, hg, hnc, hcm, hcs, htake⟩
  · clear hv h1v
    go_enter Try.func42, Try.ntmps42
    go_wp2_with (at_builtin; refine wpList_append_own _ rfl _ _ 22 rfl B 32 i0 _ 3 32 Try.underlying22 hi hz0 hz1 hz2 rfl (by decide) _ _ _ rfl hown ⟨vb, 0, none⟩ 1 1 vs rfl (by omega) hnews.out Hv.out (by unfold maxLen; omega) (by omega) hB ?_; intro v' w1 ho hgr _)
    go_ret
    exact ⟨_, rfl, ho, hgr⟩
  · have hcap : cap ≤ 9223372036854775807 := by unfold maxLen at hcm; omega
    clear hv h1v hg hcs htake
    go_enter Try.func42, Try.ntmps42
    go_wp2_with (at_builtin; refine wpList_append_own _ rfl _ _ 22 rfl B 32 i0 _ 3 32 Try.underlying22 hi hz0 hz1 hz2 rfl (by decide) _ _ _ rfl hown ⟨vb, 0, none⟩ 1 1 vs rfl (by omega) hnews.out Hv.out (by unfold maxLen; omega) (by omega) hB ?_; intro v' w1 ho hgr _)
    all_goals
      go_ret
      exact ⟨_, rfl, ho, hgr⟩
theorem rg_zeros (w : World) (g i c k N : Nat) (cur xs : List Value) (hg : w.heap[g]? = some (.cells cur.toArray 32 (0, 0))) (hx : cur.take xs.length = xs) (hi : i * 3 ≤ xs.length) (hk : i + k = N) (hk0 : 0 < k) (hroom : c < N) (hsm : N ≤ 1000) :
    ∃ (G : Nat) (ROW : List Value), (∀ ty, (Builtin.append_ #[22, 3] ty #[.slice (some ⟨g, 0, none⟩) i c, .int .i64 (k : Int)]).run Try.prog w = .ok (.slice (some ⟨w.heap.size, 0, none⟩) N G) (w.drew.alloc (.cells ROW.toArray 32))) ∧
      N ≤ G ∧ G ≤ maxLen ∧ ROW.length = G * 3 ∧ ROW.take (i * 3) = xs.take (i * 3) := by
  obtain ⟨i0, hi0, hz0, hzs, hzb⟩ := info_parts info_reg
  have hold : (Builtin.firstCells i0.size i (.slice (some ⟨g, 0, none⟩) i c)).run Try.prog w.drew = .ok (xs.take (i * 3)).toArray w.drew := by
    rw [hzs]
    exact run_firstCells_some w.drew 3 i ⟨g, 0, none⟩ i c (xs.take (i * 3)) (by rw [List.length_take]; omega) (fun j v hj => by
      rw [add_at3, Nat.zero_add]
      have hji : j < i * 3 := by have := (List.getElem?_eq_some_iff.1 hj).1; rw [List.length_take] at this; omega
      rw [List.getElem?_take, if_pos hji] at hj
      exact row_cell3 (w := w) hg hx hj)
  have hzc : ∀ n, (Builtin.zeroCells (Value.agg #[.int .i64 0, .bool false, .string .empty]).cells n).toList.length = n * 3 := fun n => by
    have := size_zeroCells (Value.agg #[.int .i64 0, .bool false, .string .empty]).cells n
    rw [show (Value.agg #[.int .i64 0, .bool false, .string .empty]).cells.size = 3 from rfl] at this
    simpa using this
  obtain ⟨G, hG⟩ : ∃ G, G = grownCap w N c 32 := ⟨_, rfl⟩
  have hGn : N ≤ G := by rw [hG]; exact grownCap_ge w _ _ _
  refine ⟨G, xs.take (i * 3) ++ ((Builtin.zeroCells (Value.agg #[.int .i64 0, .bool false, .string .empty]).cells k).toList ++ (Builtin.zeroCells (Value.agg #[.int .i64 0, .bool false, .string .empty]).cells (G - N)).toList), fun ty => ?_, hGn, ?_, ?_, ?_⟩
  · have h := Lib.run_append_grow_zeros w 22 3 ty 32 i0 _ .i64 .i64 Try.underlying22 Try.underlying3 hi0 hz0 (some ⟨g, 0, none⟩) i c (xs.take (i * 3)) hold k hk0 (by omega) (by omega) (by omega) (by rw [hzb]; omega) (by rw [hzb, hk]; exact growslice_fits hroom (by omega))
    rw [hk, ← hG] at h
    rw [h]
    congr 4
    apply Array.ext'; simp
  · rw [hG]; exact grownCap_le_maxLen w N c 32 (by unfold maxLen; omega)
  · simp only [List.length_append, List.length_take, hzc]
    omega
  · rw [List.take_append_of_le_length (by rw [List.length_take]; omega)]; exact List.take_of_length_le (by rw [List.length_take]; omega)
set_option maxHeartbeats 1000000 in
set_option maxRecDepth 100000 in
theorem rg_grow (g n c i vb : Nat) (cur xs vs : List Value) (w : World) (hi : i < n) (hnc : n ≤ c) (hroom : c < n + 1) (hsm : n ≤ 900)
    (hg : w.heap[g]? = some (.cells cur.toArray 32 (0, 0))) (hcur : cur.length = c * 3) (hx : cur.take (n * 3) = xs)
    (hv : w.heap[vb]? = some (.cells vs.toArray 32 (0, 0))) (hvl : vs.length = 3) (h1x : ∀ v ∈ xs, v.oneCell' = true) (h1v : ∀ v ∈ vs, v.oneCell' = true) :
    Calls Try.prog 42 #[.slice (some ⟨g, 0, none⟩) n c, .int .i64 i, .slice (some ⟨vb, 0, none⟩) 1 1] w fun e w' =>
      ∃ G R, e = .returned (.slice (some ⟨w.heap.size, 0, none⟩) (n + 1) G) ∧ n + 1 ≤ G ∧ G ≤ maxLen ∧ w'.heap[w.heap.size]? = some (.cells R 32 (0, 0)) ∧ R.size = G * 3 ∧ R.toList.take ((n + 1) * 3) = xs.take (i * 3) ++ (vs ++ xs.drop (i * 3)) ∧ w.grownBy w' none := by
  have hxl : xs.length = n * 3 := by rw [← hx, List.length_take]; omega
  have hdl : (xs.drop (i * 3)).length = (n - i) * 3 := by rw [List.length_drop, hxl]; omega
  have hz2 : ¬ ((i : Int) = (n : Int)) := by omega
  have hz3 : (c : Int) < (n : Int) + 1 := by omega
  have hkk : (n : Int) + 1 - (i : Int) = ((n + 1 - i : Nat) : Int) := by omega
  obtain ⟨G, ROW, hrz, hGn, hGm, hRl, hRt⟩ := rg_zeros w g i c (n + 1 - i) (n + 1) cur xs hg (by rw [hxl]; exact hx) (by omega) (by omega) (by omega) hroom (by omega)
  have hG63 : G ≤ 9223372036854775807 := by unfold maxLen at hGm; omega
  rw [← hkk] at hrz
  have hlt : g < w.heap.size := Blk.lt (w := w) hg
  have hltv : vb < w.heap.size := Blk.lt (w := w) hv
  have hl1 : (splice ROW (i * 3) vs).length = ROW.length := length_splice _ _ _ (by omega)
  have hres : Hid ((splice (splice ROW (i * 3) vs) (i * 3 + 3) (xs.drop (i * 3))).take ((n + 1) * 3) = xs.take (i * 3) ++ (vs ++ xs.drop (i * 3))) := by
    have := splice_left ROW (i * 3) vs (xs.drop (i * 3)) (by omega)
    rw [hRt, hvl, hdl, show i * 3 + 3 + (n - i) * 3 = (n + 1) * 3 by omega] at this
    exact this
  have hl2 : (splice (splice ROW (i * 3) vs) (i * 3 + 3) (xs.drop (i * 3))).length = G * 3 := by rw [length_splice _ _ _ (by omega), hl1, hRl]
  obtain ⟨W1, hW1⟩ : ∃ W1, W1 = w.drew.alloc (.cells ROW.toArray 32) := ⟨_, rfl⟩
  rw [← hW1] at hrz
  have hWg : w.grownBy W1 none := by rw [hW1]; exact gb_trans (gb_drew w _) (World.grownBy_alloc _ _ _)
  have hWr : Hid (W1.heap[w.heap.size]? = some (.cells ROW.toArray 32 (0, 0))) := by rw [hW1]; exact Blk.new w.drew _ _
  have hn1 : Hid (∀ k, k = n + 1 - i → 1 = Nat.min 1 k) := by intro k hk; simp only [Nat.min_def]; split <;> omega
  have hs1 : Hid (∀ j v, vs[j]? = some v → W1.cell? ((⟨vb, 0, none⟩ : Addr).add j) = some v) := fun j v hj => by
    rw [add_at3, Nat.zero_add]; exact hWg.cell (row_cell3 (n := 3) hv (by rw [List.take_of_length_le (by omega)]) hj) (by simp)
  have hn2 : Hid (n - i = Nat.min (n - i) (n + 1 - (i + 1))) := by show _ = _; simp only [Nat.min_def]; split <;> omega
  have hs2 : Hid (∀ w' : World, W1.grownBy w' (some w.heap.size) → ∀ j v, (xs.drop (i * 3))[j]? = some v → w'.cell? ((⟨g, i * 3, none⟩ : Addr).add j) = some v) := fun w' hw' j v hj => by
    rw [add_at3]
    exact hw'.cell (hWg.cell (row_cell3 hg hx (by rwa [List.getElem?_drop] at hj)) (by simp)) (by simp; omega)
  have h1d : Hid (∀ v ∈ xs.drop (i * 3), v.oneCell' = true) := fun v hv => h1x v (List.mem_of_mem_drop hv)
  have H1v := Lib.hid h1v
  have hGi : ¬ (G = i) := by omega
  have hGim : ¬ (G = i + 1) := by omega
  have hci : ¬ (c = i) := by omega
  have hw1 : IntKind.i64.wrap ((i : Int) + 1) = (i : Int) + 1 := by rw [IntKind.wrap_i64]; omega
  have hb1 : (0 : Int) ≤ (i : Int) + 1 := by omega
  have hin : i ≤ n := by omega
  have htn : ((i : Int) + 1).toNat = i + 1 := by omega
  have hb3 : (i : Int) ≤ (n : Int) := by omega
  have hf1 : i * 3 + vs.length ≤ ROW.length := by omega
  have hf2 : i * 3 + 3 + (xs.drop (i * 3)).length ≤ (splice ROW (i * 3) vs).length := by omega
  clear hW1 hkk hRt hg hv hx h1x h1v hxl
  go_enter Try.func42, Try.ntmps42
  go_wp2_with (first
    | (at_builtin; refine Lib.wpList_append_run _ rfl _ _ _ _ rfl _ _ rfl rfl _ _ (hrz _) ?_)
    | (with_reducible refine wpList_copy_z rfl _ _ 22 22 rfl 32 3 Try.underlying22 size_reg _ _ _ _ _ w.heap.size (i * 3) rfl rfl ROW 32 hWr.out 1 (hn1.out _ rfl) vs hvl hs1.out hf1 H1v.out ?_; intro w1 hg1 hgr1))
  go_region_law (refine step_copy_z rfl _ _ 22 22 rfl 32 3 Try.underlying22 size_reg ⟨g, i * 3, none⟩ (n + 1 - (i + 1)) (G - (i + 1)) (n - i) (c - i) w.heap.size (i * 3 + 3) (by simp [Act.eval, Act.put]) (by simp [Act.eval, Act.put]) (splice ROW (i * 3) vs) 32 hg1.out (n - i) hn2.out (xs.drop (i * 3)) hdl (hs2.out _ (gb_trans hgr1 (gb_drew _ _))) hf2 h1d.out ?_; intro w2 hg2 hgr2)
  go_wp2
  go_ret
  have e0 := gb_own (row := some w.heap.size) hWg hgr1 (fun k hk => by injection hk with hk; omega)
  have e1 := gb_own (row := some w.heap.size) e0 (gb_trans (gb_drew w1 _) hgr2) (fun k hk => by injection hk with hk; omega)
  exact ⟨G, _, rfl, hGn, hGm, hg2.out, by simpa using hl2, by simpa using hres.out, e1⟩
/-- slices.Insert of one register, at whatever place. -/
theorem sl_insert {B : Nat} {v : Value} {n i vb : Nat} {l : List Rg} {k : Rg} {w : World} (hB : B ≤ w.heap.size) (hown : w.ownsRow B 32 3 v n (rrows l)) (hl : l.length = n) (hi : i ≤ n) (hn : n ≤ 900)
    (hv : Blk w vb 32 k.vals) (hvb : v.ownBlock ≠ some vb) :
    Calls Try.prog 42 #[v, .int .i64 i, .slice (some ⟨vb, 0, none⟩) 1 1] w fun e w' => ∃ v', e = .returned v' ∧ w'.ownsRow B 32 3 v' (n + 1) (rrows (l.take i ++ k :: l.drop i)) ∧ w.grownBy w' v.ownBlock := by
  have hv' : w.heap[vb]? = some (.cells k.row.toArray 32 (0, 0)) := hv
  have hk : k.row.length = 3 := rfl
  have er : rrows (l.take i ++ k :: l.drop i) = (rrows l).take (i * 3) ++ (k.row ++ (rrows l).drop (i * 3)) := by
    rw [rrows_append, rrows_take, rrows_drop]; rfl
  rw [er]
  by_cases he : i = n
  · subst he
    refine (rg_end vb k.row w hB hown (by omega) hv' hk k.row_one).mono ?_
    rintro e w' ⟨v', rfl, ho, hg⟩
    refine ⟨v', rfl, ?_, hg⟩
    have hx : (rrows l).length = i * 3 := by rw [rrows_length, hl]
    rw [List.take_of_length_le (by omega), List.drop_of_length_le (by omega), List.append_nil]
    exact ho
  · rcases hown.2 with ⟨rfl, h0⟩ | ⟨g, cap, cur0, rfl, _⟩
    · omega
    · obtain ⟨hbg, hnc, hcm, hxl, cur, hg, hcl, ht⟩ := row_of_own3 hown
      have hne : vb ≠ g := fun e => hvb (by rw [e]; rfl)
      have h3 : ((rrows l).drop (i * 3)).length = (n - i) * 3 := by rw [List.length_drop]; omega
      by_cases hr : n + 1 ≤ cap
      · refine (rg_shift g n cap i vb cur (rrows l) k.row w (by omega) hr (by unfold maxLen at hcm; omega) hne hg hcl ht hv' hk rrows_one k.row_one).mono ?_
        rintro e w' ⟨rfl, hh, hgr⟩
        refine ⟨_, rfl, ?_, hgr⟩
        refine own_of_row3 hbg hh ?_ hr hcm ?_
        · rw [length_splice _ _ _ (by rw [length_splice _ _ _ (by omega)]; omega), length_splice _ _ _ (by omega)]; exact hcl
        · have := splice_right cur (i * 3) k.row ((rrows l).drop (i * 3)) (by omega)
          rw [h3, hk, show i * 3 + 3 + (n - i) * 3 = (n + 1) * 3 by omega] at this
          rw [this]
          congr 1
          rw [← ht, List.take_take, Nat.min_eq_left (by omega)]
      · refine (rg_grow g n cap i vb cur (rrows l) k.row w (by omega) hnc (by omega) hn hg hcl ht hv' hk rrows_one k.row_one).mono ?_
        rintro e w' ⟨G, R, rfl, hG, hGm, hh, hR, hRt, hgr⟩
        refine ⟨_, rfl, own_of_row3 (cur := R.toList) hB (by simpa using hh) (by simpa using hR) hG hGm hRt, gb_none _ hgr⟩
end Go.Proofs.Ytopplkfbnpamdaa
