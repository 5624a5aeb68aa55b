/-
  slices.Replace at lists of numbers: in the midst, where there is room.
-/
import Derived.Test.YtgjppkkifclanaaDoorReplaceI
namespace Go.Proofs.YtgjppkkifclanaaDoor
open Go.RowKit
set_option maxHeartbeats 1000000 in
set_option maxRecDepth 100000 in
theorem rep_mid_roomI (g j k c i vb m vc : Nat) (cur vcur xs vs : List Value) (w : World) (hij : i < j) (hk : 0 < k) (hm : 0 < m) (hnc : j + k ≤ c) (hroom : i + m + k ≤ c) (hmore : j < i + m) (hsm : j + k + m ≤ 1000000000000) (hcm : c ≤ maxLen) (hvb : vb ≠ g)
    (hg : w.heap[g]? = some (.cells cur.toArray 3 (0, 0))) (hcur : cur.length = c) (hx : cur.take (j + k) = xs)
    (hv : w.heap[vb]? = some (.cells vcur.toArray 3 (0, 0))) (hvm : m ≤ vcur.length) (hvx : vcur.take m = vs) (h1x : ∀ v ∈ xs, v.oneCell' = true) (h1v : ∀ v ∈ vs, v.oneCell' = true) :
    Calls Tryd.prog 36 #[.slice (some ⟨g, 0, none⟩) (j + k) c, .int .i64 i, .int .i64 j, .slice (some ⟨vb, 0, none⟩) m vc] w fun e w' =>
      e = .returned (.slice (some ⟨g, 0, none⟩) (i + m + k) c) ∧ ∃ R : List Value, w'.heap[g]? = some (.cells R.toArray 3 (0, 0)) ∧ R.length = c ∧ R.take (i + m + k) = xs.take i ++ (vs ++ xs.drop j) ∧ w.grownBy w' (some g) := by
  have hxl : xs.length = j + k := by rw [← hx, List.length_take]; omega
  have hvl : vs.length = m := by rw [← hvx, List.length_take]; omega
  have hdl : (xs.drop j).length = k := by rw [List.length_drop, hxl]; omega
  have ht : cur.take i = xs.take i := by rw [← hx, List.take_take, Nat.min_eq_left (by omega)]
  have h1d : Hid (∀ v ∈ xs.drop j, v.oneCell' = true) := fun v hv => h1x v (List.mem_of_mem_drop hv)
  have Hv := Lib.hid h1v
  have hov : ∀ q la ca, (callFunc 43 #[.slice (some ⟨g, i + m, none⟩) la ca, .slice (some ⟨vb, 0, none⟩) m vc]).run Tryd.prog (w.drewN q) = .ok (.value (.bool false)) (w.drewN q) := fun q la ca => by
    rw [run_callFunc_extern Tryd.func43 (by kernel_rfl) (by kernel_rfl) (by kernel_rfl) (e := Extern.SlicesOverlaps.overlaps #[42, 42] #[4]) (by kernel_rfl),
      Lib.run_overlaps_apart (w.drewN q) 42 4 3 Tryd.underlying42 1 Tryd.sizeOf3 ⟨g, i + m, none⟩ ⟨vb, 0, none⟩ la ca m vc (Ne.symm hvb) 3 3 cur.length vcur.length (by simp [World.shape?, hg]) (by simp [World.shape?, hv]) (by omega) (by simp [World.frozen?, hg]) (by simp [World.frozen?, hg])]
    rfl
  have hw1 : IntKind.i64.wrap ((i : Int) + (m : Int)) = (i : Int) + (m : Int) := by rw [IntKind.wrap_i64]; omega
  have hw2 : IntKind.i64.wrap ((i : Int) + (m : Int) + (k : Int)) = (i : Int) + (m : Int) + (k : Int) := by rw [IntKind.wrap_i64]; omega
  have hb1 : (0 : Int) ≤ (i : Int) + (m : Int) := by omega
  have hb2 : (0 : Int) ≤ (i : Int) + (m : Int) + (k : Int) := by omega
  have ht1 : ((i : Int) + (m : Int)).toNat = i + m := by omega
  have ht2 : ((i : Int) + (m : Int) + (k : Int)).toNat = i + m + k := by omega
  have c1 : ¬ (i : Int) = (j : Int) := by omega
  have c2 : ¬ (j : Int) = (j : Int) + (k : Int) := by omega
  have c3 : ¬ c = j := by omega
  have c4 : ¬ c = i := by omega
  have c8 : i ≤ j := by omega
  have c11 : (i : Int) + (m : Int) ≤ (i : Int) + (m : Int) + (k : Int) := by omega
  have c12 : (j : Int) ≤ (j : Int) + (k : Int) := by omega
  have c13 : (i : Int) ≤ (i : Int) + (m : Int) + (k : Int) := by omega
  have q1 : m ≤ i + m + k - i := by omega
  have q2 : m ≤ m + k := by omega
  have c9 : i ≤ j + k := by omega
  have hjk : j + k - j = k := by omega
  have hcap : c ≤ 9223372036854775807 := by unfold maxLen at hcm; omega
  have c5 : ¬ (c : Int) < (i : Int) + (m : Int) + (k : Int) := by omega
  have c6 : ¬ (i : Int) + (m : Int) ≤ (j : Int) := by omega
  have c7 : ¬ c = i + m := by omega
  have hl1 : (splice cur (i + m) (xs.drop j)).length = cur.length := length_splice _ _ _ (by omega)
  have hres : Hid ((splice (splice cur (i + m) (xs.drop j)) i vs).take (i + m + k) = xs.take i ++ (vs ++ xs.drop j)) := by
    have := splice_right cur i vs (xs.drop j) (by omega)
    rw [hvl, hdl, ht] at this
    exact this
  have hl2 : (splice (splice cur (i + m) (xs.drop j)) i vs).length = c := by rw [length_splice _ _ _ (by omega), hl1, hcur]
  have hn1 : (xs.drop j).length = Nat.min k k := by rw [hdl]; exact (Nat.min_self k).symm
  have hn2 : ∀ q, m ≤ q → vs.length = Nat.min m q := by intro q hq; rw [hvl]; simp only [Nat.min_def]; split <;> omega
  have hs1 : Hid (∀ q v, (xs.drop j)[q]? = some v → w.cell? ((⟨g, j, none⟩ : Addr).add q) = some v) := fun q v hq => by
    rw [add_atI]; exact row_cellI hg hx (by rwa [List.getElem?_drop] at hq)
  have hs2 : Hid (∀ w' : World, w.grownBy w' (some g) → ∀ q v, vs[q]? = some v → w'.cell? ((⟨vb, 0, none⟩ : Addr).add q) = some v) := fun w' hw' q v hq => by
    rw [add_atI, Nat.zero_add]
    exact hw'.cell (row_cellI hv hvx hq) (by simp; omega)
  have hf1 : i + m + (xs.drop j).length ≤ cur.length := by omega
  have hf2 : i + vs.length ≤ (splice cur (i + m) (xs.drop j)).length := by omega
  have Hg := Lib.hid hg
  clear hg hv h1x h1v hx hvx ht hdl hxl
  go_enter Tryd.func36, Tryd.ntmps36
  go_wp2
  go_quiet (fail)
  go_wp2_with (simp only [hov])
  go_region_law (refine step_copy_g rfl _ _ 42 42 rfl 3 Tryd.underlying42 size_pieceI (some ⟨g, i + m, none⟩) (some ⟨g, j, none⟩) k (c - (i + m)) k (c - j) (by simp [Act.eval, Act.put]) (by simp [Act.eval, Act.put]) g (i + m) cur 3 Hg.out (xs.drop j) hn1 (fun _ => ⟨rfl, _, rfl, hs1.out⟩) hf1 h1d.out ?_; intro w1 hg1 hgr1)
  have hw0 := gb_trans (gb_drewN w _ _) (gb_trans (gb_drew _ _) hgr1)
  go_wp2_with (with_reducible refine wpList_copy_g rfl _ _ 42 42 rfl 3 Tryd.underlying42 size_pieceI _ _ _ _ _ _ rfl rfl g i _ 3 hg1.out vs (hn2 _ (by first | exact q1 | exact q2)) (fun _ => ⟨rfl, _, rfl, hs2.out _ hw0⟩) hf2 Hv.out ?_; intro w2 hg2 hgr2)
  go_ret
  exact ⟨rfl, _, hg2.out, hl2, hres.out, gb_trans hw0 hgr2⟩
set_option maxHeartbeats 1000000 in
set_option maxRecDepth 100000 in
theorem rep_mid_shrinkI (g j k c i vb m vc : Nat) (cur vcur xs vs : List Value) (w : World) (hij : i < j) (hk : 0 < k) (hm : 0 < m) (hnc : j + k ≤ c) (hless : i + m ≤ j) (hsm : j + k + m ≤ 1000000000000) (hcm : c ≤ maxLen)
    (hg : w.heap[g]? = some (.cells cur.toArray 3 (0, 0))) (hcur : cur.length = c) (hx : cur.take (j + k) = xs)
    (hv : w.heap[vb]? = some (.cells vcur.toArray 3 (0, 0))) (hvm : m ≤ vcur.length) (hvx : vcur.take m = vs) (h1x : ∀ v ∈ xs, v.oneCell' = true) (h1v : ∀ v ∈ vs, v.oneCell' = true) :
    Calls Tryd.prog 36 #[.slice (some ⟨g, 0, none⟩) (j + k) c, .int .i64 i, .int .i64 j, .slice (some ⟨vb, 0, none⟩) m vc] w fun e w' =>
      e = .returned (.slice (some ⟨g, 0, none⟩) (i + m + k) c) ∧ ∃ R : List Value, w'.heap[g]? = some (.cells R.toArray 3 (0, 0)) ∧ R.length = c ∧ R.take (i + m + k) = xs.take i ++ (vs ++ xs.drop j) ∧ w.grownBy w' (some g) := by
  have hxl : xs.length = j + k := by rw [← hx, List.length_take]; omega
  have hvl : vs.length = m := by rw [← hvx, List.length_take]; omega
  have hdl : (xs.drop j).length = k := by rw [List.length_drop, hxl]; omega
  have ht : cur.take i = xs.take i := by rw [← hx, List.take_take, Nat.min_eq_left (by omega)]
  have h1d : Hid (∀ v ∈ xs.drop j, v.oneCell' = true) := fun v hv => h1x v (List.mem_of_mem_drop hv)
  have Hv := Lib.hid h1v
  have hw1 : IntKind.i64.wrap ((i : Int) + (m : Int)) = (i : Int) + (m : Int) := by rw [IntKind.wrap_i64]; omega
  have hw2 : IntKind.i64.wrap ((i : Int) + (m : Int) + (k : Int)) = (i : Int) + (m : Int) + (k : Int) := by rw [IntKind.wrap_i64]; omega
  have hb1 : (0 : Int) ≤ (i : Int) + (m : Int) := by omega
  have hb2 : (0 : Int) ≤ (i : Int) + (m : Int) + (k : Int) := by omega
  have ht1 : ((i : Int) + (m : Int)).toNat = i + m := by omega
  have ht2 : ((i : Int) + (m : Int) + (k : Int)).toNat = i + m + k := by omega
  have c1 : ¬ (i : Int) = (j : Int) := by omega
  have c2 : ¬ (j : Int) = (j : Int) + (k : Int) := by omega
  have c3 : ¬ c = j := by omega
  have c4 : ¬ c = i := by omega
  have c8 : i ≤ j := by omega
  have c11 : (i : Int) + (m : Int) ≤ (i : Int) + (m : Int) + (k : Int) := by omega
  have c12 : (j : Int) ≤ (j : Int) + (k : Int) := by omega
  have c13 : (i : Int) ≤ (i : Int) + (m : Int) + (k : Int) := by omega
  have q1 : m ≤ i + m + k - i := by omega
  have q2 : m ≤ m + k := by omega
  have c9 : i ≤ j + k := by omega
  have hjk : j + k - j = k := by omega
  have hcap : c ≤ 9223372036854775807 := by unfold maxLen at hcm; omega
  have c5 : ¬ (c : Int) < (i : Int) + (m : Int) + (k : Int) := by omega
  have c6 : (i : Int) + (m : Int) ≤ (j : Int) := by omega
  have c7 : ¬ c = i + m := by omega
  have c10 : (i : Int) + (m : Int) + (k : Int) ≤ (j : Int) + (k : Int) := by omega
  have zv := (fun w : World => zero_int w)
  have hl1 : (splice cur i vs).length = cur.length := length_splice _ _ _ (by omega)
  have hl2 : (splice (splice cur i vs) (i + m) (xs.drop j)).length = c := by rw [length_splice _ _ _ (by omega), hl1, hcur]
  have hres : Hid ((splice (splice cur i vs) (i + m) (xs.drop j)).take (i + m + k) = xs.take i ++ (vs ++ xs.drop j)) := by
    have := splice_left cur i vs (xs.drop j) (by omega)
    rw [hvl, hdl, ht] at this
    exact this
  have hn2 : (xs.drop j).length = Nat.min k k := by rw [hdl]; exact (Nat.min_self k).symm
  have hn1 : ∀ q, m ≤ q → vs.length = Nat.min m q := by intro q hq; rw [hvl]; simp only [Nat.min_def]; split <;> omega
  have hs1 : Hid (∀ Q : Nat, ∀ q v, vs[q]? = some v → (w.drewN Q).cell? ((⟨vb, 0, none⟩ : Addr).add q) = some v) := fun Q q v hq => by
    rw [add_atI, Nat.zero_add]
    exact row_cellI (w := w) hv hvx hq
  have hs2 : Hid (∀ w' : World, w'.heap[g]? = some (.cells (splice cur i vs).toArray 3 (0, 0)) → ∀ q v, (xs.drop j)[q]? = some v → w'.cell? ((⟨g, j, none⟩ : Addr).add q) = some v) := fun w' hw' q v hq => by
    rw [add_atI]
    have hlt : j + q < j + k := by
      have := (List.getElem?_eq_some_iff.1 hq).1
      omega
    rw [cell_of_row w' g _ _ 3 (0, 0) hw']
    have e1 : (splice cur i vs)[j + q]? = some v := by
      rw [splice_get? _ _ _ (by omega), if_neg (by omega)]
      rw [List.getElem?_drop, ← hx, List.getElem?_take, if_pos hlt] at hq
      exact hq
    simpa using e1
  have hf1 : i + vs.length ≤ cur.length := by omega
  have hf2 : i + m + (xs.drop j).length ≤ (splice cur i vs).length := by omega
  have hf3 : i + m + k + (j + k - (i + m + k)) ≤ (splice (splice cur i vs) (i + m) (xs.drop j)).length := by omega
  have Hg : Hid (∀ q : Nat, (w.drewN q).heap[g]? = some (.cells cur.toArray 3 (0, 0))) := fun _ => hg
  clear hg hv h1x h1v hx hvx ht hdl hxl
  go_enter Tryd.func36, Tryd.ntmps36
  go_wp2
  go_quiet (fail)
  go_wp2_with (with_reducible refine wpList_copy_g rfl _ _ 42 42 rfl 3 Tryd.underlying42 size_pieceI _ _ _ _ _ _ rfl rfl g i _ 3 (Hg.out _) vs (hn1 _ (by first | exact q1 | exact q2)) (fun _ => ⟨rfl, _, rfl, hs1.out _⟩) hf1 Hv.out ?_; intro w1 hg1 hgr1)
  go_region_law (refine step_copy_g rfl _ _ 42 42 rfl 3 Tryd.underlying42 size_pieceI (some ⟨g, i + m, none⟩) (some ⟨g, j, none⟩) k (c - (i + m)) k (c - j) (by simp [Act.eval, Act.put]) (by simp [Act.eval, Act.put]) g (i + m) _ 3 hg1.out (xs.drop j) hn2 (fun _ => ⟨rfl, _, rfl, hs2.out _ hg1.out⟩) hf2 h1d.out ?_; intro w2 hg2 hgr2)
  have hw0 := gb_trans (gb_trans (gb_drewN w _ _) hgr1) (gb_trans (gb_drew _ _) hgr2)
  have hpos : ∀ a : Option Addr, a = (if c = i + m + k then some ⟨g, 0, none⟩ else some ⟨g, i + m + k, none⟩) → 0 < j + k - (i + m + k) → a = some ⟨g, i + m + k, none⟩ := fun a ha h0 => by rw [ha, if_neg (by omega)]
  by_cases hcn : c = i + m + k
  · go_wp2_with (with_reducible refine wpList_clear_g rfl _ 42 rfl 3 (.int .i64 0) Tryd.underlying42 zv rfl zero_oneI _ _ _ rfl g (i + m + k) _ 3 hg2.out (hpos _ (by rw [if_pos hcn])) hf3 ?_; intro w3 hg3 hgr3)
    go_ret
    have hzl := toList_zeroCells1 (.int .i64 0) (j + k - (i + m + k)) rfl
    refine ⟨congrArg (fun q => Ending.returned (.slice (some ⟨g, 0, none⟩) (i + m + k) q)) hcn.symm, _, hg3.out, ?_, ?_, gb_trans hw0 hgr3⟩
    · rw [length_splice _ _ _ (by omega), hl2]
    · rw [splice_take _ _ _ (by omega)]; exact hres.out
  · go_wp2_with (with_reducible refine wpList_clear_g rfl _ 42 rfl 3 (.int .i64 0) Tryd.underlying42 zv rfl zero_oneI _ _ _ rfl g (i + m + k) _ 3 hg2.out (fun _ => rfl) hf3 ?_; intro w3 hg3 hgr3)
    go_ret
    have hzl := toList_zeroCells1 (.int .i64 0) (j + k - (i + m + k)) rfl
    refine ⟨rfl, _, hg3.out, ?_, ?_, gb_trans hw0 hgr3⟩
    · rw [length_splice _ _ _ (by omega), hl2]
    · rw [splice_take _ _ _ (by omega)]; exact hres.out
end Go.Proofs.YtgjppkkifclanaaDoor
