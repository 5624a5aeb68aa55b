/-
  slices.Replace at lists of numbers: what the ways lean on; the end of a list.
-/
import Derived.Test.YtgjppkkifclanaaDoorCells
import Derived.Test.YtgjppkkifclanaaDoorInts
import Derived.Deep.RegionLaw
import Derived.Laws.AppendOwnNone
namespace Go.Proofs.YtgjppkkifclanaaDoor
open Go.RowKit
theorem zero_int (w : World) : (zeroValue 3).run Tryd.prog w = .ok (.int .i64 0) w := by kernel_rfl
theorem size_pieceI : (Tryd.prog.info? 3).map (·.size) = some 1 := by kernel_rfl
theorem zero_oneI (n : Nat) : ∀ v ∈ (Builtin.zeroCells (Value.int .i64 0).cells n).toList, v.oneCell' = true := by
  intro v hv
  have : v = .int .i64 0 := by
    simp [Builtin.zeroCells, Value.cells] at hv
    obtain ⟨k, _, hk⟩ := hv
    rw [Nat.mod_one] at hk
    exact hk.symm
  subst this; rfl
theorem row_cellI {w : World} {g n : Nat} {e : TypeId} {cur xs : List Value} (hg : w.heap[g]? = some (.cells cur.toArray e (0, 0))) (hx : cur.take n = xs) {j : Nat} {v : Value} (hj : xs[j]? = some v) : w.cell? ⟨g, j, none⟩ = some v := by
  rw [cell_of_row w g j _ e (0, 0) hg]
  rw [← hx, List.getElem?_take] at hj
  split at hj
  · simpa using hj
  · cases hj
theorem add_atI (g i j : Nat) : (⟨g, i, none⟩ : Addr).add j = ⟨g, i + j, none⟩ := by unfold Addr.add; split <;> simp_all
theorem grow_zerosI (w : World) (g i c k N : Nat) (cur xs : List Value) (hg : w.heap[g]? = some (.cells cur.toArray 3 (0, 0))) (hx : cur.take xs.length = xs) (hi : i ≤ xs.length) (hk : i + k = N) (hk0 : 0 < k) (hroom : c < N) (hsm : N ≤ 1000000000000) :
    ∃ (G : Nat) (ROW : List Value), (∀ ty, (Builtin.append_ #[42, 3] ty #[.slice (some ⟨g, 0, none⟩) i c, .int .i64 (k : Int)]).run Tryd.prog w = .ok (.slice (some ⟨w.heap.size, 0, none⟩) N G) (w.drew.alloc (.cells ROW.toArray 3))) ∧
      N ≤ G ∧ G ≤ maxLen ∧ ROW.length = G ∧ ROW.take i = xs.take i := by
  obtain ⟨i0, hi0, hz0, hzs, hzb⟩ := info_parts info_int
  have hold : (Builtin.firstCells i0.size i (.slice (some ⟨g, 0, none⟩) i c)).run Tryd.prog w.drew = .ok (xs.take i).toArray w.drew := by
    rw [hzs]
    exact run_firstCells_some w.drew 1 i ⟨g, 0, none⟩ i c (xs.take i) (by rw [List.length_take]; omega) (fun j v hj => by
      rw [add_atI, Nat.zero_add]
      have hji : j < i := by have := (List.getElem?_eq_some_iff.1 hj).1; rw [List.length_take] at this; omega
      rw [List.getElem?_take, if_pos hji] at hj
      exact row_cellI (w := w) hg hx hj)
  obtain ⟨G, hG⟩ : ∃ G, G = grownCap w N c 3 := ⟨_, rfl⟩
  refine ⟨G, xs.take i ++ ((Builtin.zeroCells (Value.int .i64 0).cells k).toList ++ (Builtin.zeroCells (Value.int .i64 0).cells (G - N)).toList), fun ty => ?_, ?_, ?_, ?_, ?_⟩
  · have h := Lib.run_append_grow_zeros w 42 3 ty 3 i0 _ .i64 .i64 Tryd.underlying42 Tryd.underlying3 hi0 hz0 (some ⟨g, 0, none⟩) i c (xs.take i) hold k hk0 (by omega) (by omega) (by omega) (by rw [hzb]; omega) (by rw [hzb, hk]; exact growslice_fits hroom (by omega))
    rw [hk, ← hG] at h
    rw [h]
    congr 4
    apply Array.ext'; simp
  · rw [hG]; exact grownCap_ge w _ _ _
  · rw [hG]; exact grownCap_le_maxLen w N c 3 (by unfold maxLen; omega)
  · have hGn : N ≤ G := by rw [hG]; exact grownCap_ge w _ _ _
    simp only [List.length_append, List.length_take, toList_zeroCells1 _ _ (show (Value.int .i64 0).cells.size = 1 from rfl)]
    omega
  · rw [List.take_append_of_le_length (by rw [List.length_take]; omega)]; exact List.take_of_length_le (by rw [List.length_take]; omega)
theorem append_atI (w : World) (g i c m vc : Nat) (ad : Addr) (cur vs : List Value) (hg : w.heap[g]? = some (.cells cur.toArray 3 (0, 0))) (hcur : cur.length = c) (hroom : i + m ≤ c) (hl : vs.length = m)
    (hs : ∀ j v, vs[j]? = some v → w.cell? (ad.add j) = some v) (h1 : ∀ v ∈ vs, v.oneCell' = true) :
    ∃ w', (∀ ty, (Builtin.append_ #[42, 42] ty #[.slice (some ⟨g, 0, none⟩) i c, .slice (some ad) m vc]).run Tryd.prog w = .ok (.slice (some ⟨g, 0, none⟩) (i + m) c) w') ∧ w'.heap[g]? = some (.cells (splice cur i vs).toArray 3 (0, 0)) ∧ w.grownBy w' (some g) := by
  obtain ⟨i0, hi0, hz0, hzs, hzb⟩ := info_parts info_int
  refine ⟨_, fun ty => run_append_room w 42 ty 3 i0 Tryd.underlying42 hi0 g i c cur.toArray hg ad m vc vs (by rw [hzs]; omega) hs h1 hroom (by rw [hzs]; simp only [List.size_toArray]; omega), ?_, gb_setRow _ _ _⟩
  rw [setRow_heap w g _ _ _ _ hg, hzs]
  simp [splice]
set_option maxHeartbeats 1000000 in
set_option maxRecDepth 100000 in
theorem rep_end_roomI (g n c i vb m vc : Nat) (cur vcur xs vs : List Value) (w : World) (hi : i < n) (hm : 0 < m) (hnc : n ≤ c) (hroom : i + m ≤ c) (hcm : c ≤ maxLen)
    (hg : w.heap[g]? = some (.cells cur.toArray 3 (0, 0))) (hcur : cur.length = c) (hx : cur.take n = xs)
    (hv : w.heap[vb]? = some (.cells vcur.toArray 3 (0, 0))) (hvm : m ≤ vcur.length) (hvx : vcur.take m = vs) (h1v : ∀ v ∈ vs, v.oneCell' = true) :
    Calls Tryd.prog 36 #[.slice (some ⟨g, 0, none⟩) n c, .int .i64 i, .int .i64 n, .slice (some ⟨vb, 0, none⟩) m vc] w fun e w' =>
      e = .returned (.slice (some ⟨g, 0, none⟩) (i + m) c) ∧ ∃ R : List Value, w'.heap[g]? = some (.cells R.toArray 3 (0, 0)) ∧ R.length = c ∧ R.take (i + m) = xs.take i ++ vs ∧ w.grownBy w' (some g) := by
  have hvl : vs.length = m := by rw [← hvx, List.length_take]; omega
  obtain ⟨W1, hr, hW, hG⟩ := append_atI w g i c m vc ⟨vb, 0, none⟩ cur vs hg hcur hroom hvl (fun j v hj => by rw [add_atI, Nat.zero_add]; exact row_cellI hv hvx hj) h1v
  have hl1 : (splice cur i vs).length = c := by rw [length_splice _ _ _ (by omega), hcur]
  have ht : cur.take i = xs.take i := by rw [← hx, List.take_take, Nat.min_eq_left (by omega)]
  have hres : Hid ((splice cur i vs).take (i + m) = xs.take i ++ vs) := by
    have := splice_left cur i vs [] (by simp; omega)
    rw [hvl, ht] at this
    show _ = _
    simpa [splice] using this
  have HW := Lib.hid hW
  have hcap : c ≤ 9223372036854775807 := by unfold maxLen at hcm; omega
  have b1 : ¬ (i : Int) = (n : Int) := by omega
  have zv := (fun w : World => zero_int w)
  clear hv hvx h1v hx hg hW ht
  rcases Nat.lt_or_ge (i + m) n with hlt | hge
  · have hz1 : ¬ (c = i + m) := by omega
    have hf : i + m + (n - (i + m)) ≤ (splice cur i vs).length := by omega
    go_enter Tryd.func36, Tryd.ntmps36
    go_wp2_with (first
      | (at_builtin; refine Lib.wpList_append_run _ rfl _ _ _ _ rfl _ _ rfl rfl _ _ (hr _) ?_)
      | (with_reducible refine wpList_clear_g rfl _ 42 rfl 3 (.int .i64 0) Tryd.underlying42 zv rfl zero_oneI _ _ _ rfl g (i + m) _ 3 HW.out (fun _ => rfl) hf ?_; intro w2 hg2 hgr2))
    go_ret
    have hzl := toList_zeroCells1 (.int .i64 0) (n - (i + m)) rfl
    refine ⟨rfl, _, hg2.out, ?_, ?_, gb_trans hG hgr2⟩
    · rw [length_splice _ _ _ (by omega), hl1]
    · rw [splice_take _ _ _ (by omega)]; exact hres.out
  · have b2 : ¬ ((i : Int) + (m : Int) < (n : Int)) := by omega
    go_enter Tryd.func36, Tryd.ntmps36
    go_wp2_with (at_builtin; refine Lib.wpList_append_run _ rfl _ _ _ _ rfl _ _ rfl rfl _ _ (hr _) ?_)
    go_ret
    exact ⟨rfl, _, HW.out, hl1, hres.out, hG⟩
set_option maxHeartbeats 1000000 in
set_option maxRecDepth 100000 in
theorem rep_end_growI {B : Nat} (g n c i vb m vc : Nat) (vcur xs vs : List Value) (w : World) (hB : B ≤ w.heap.size) (hown : w.ownsRow B 3 1 (.slice (some ⟨g, 0, none⟩) n c) n xs) (hi : i < n) (hroom : c < i + m) (hn : i + m ≤ 1000000000000)
    (hv : w.heap[vb]? = some (.cells vcur.toArray 3 (0, 0))) (hvm : m ≤ vcur.length) (hvx : vcur.take m = vs) (h1v : ∀ v ∈ vs, v.oneCell' = true) :
    Calls Tryd.prog 36 #[.slice (some ⟨g, 0, none⟩) n c, .int .i64 i, .int .i64 n, .slice (some ⟨vb, 0, none⟩) m vc] w fun e w' => ∃ v', e = .returned v' ∧ w'.ownsRow B 3 1 v' (i + m) (xs.take i ++ vs) ∧ w.grownBy w' (some g) := by
  obtain ⟨i0, hi0, hz0, hzs, hzb⟩ := info_parts info_int
  obtain ⟨hbg, hnc, hcm, hxl, cur, hg, hcl, hct⟩ := row_of_own hown
  have hvl : vs.length = m := by rw [← hvx, List.length_take]; omega
  have hcap : c ≤ 9223372036854775807 := by unfold maxLen at hcm; omega
  have b1 : ¬ (i : Int) = (n : Int) := by omega
  have b2 : ¬ ((i : Int) + (m : Int) < (n : Int)) := by omega
  have ho1 : w.ownsRow B 3 1 (.slice (some ⟨g, 0, none⟩) i c) i (xs.take i) := own_of_row hbg hg hcl (by omega) hcm (by rw [← hct, List.take_take, Nat.min_eq_left (by omega)])
  have hnews : Hid (∀ j u, vs[j]? = some u → w.cell? ((⟨vb, 0, none⟩ : Addr).add j) = some u) := fun j u hj => by rw [add_atI, Nat.zero_add]; exact row_cellI hv hvx hj
  have Hv := Lib.hid h1v
  clear hv h1v hvx hg hct hown
  go_enter Tryd.func36, Tryd.ntmps36
  go_wp2_with (at_builtin; refine wpList_append_own _ rfl _ _ 42 rfl B 3 i0 (.int .i64 0) 1 8 Tryd.underlying42 hi0 hz0 hzs hzb rfl (by decide) _ _ _ rfl ho1 ⟨vb, 0, none⟩ m vc vs rfl (by omega) hnews.out Hv.out (by unfold maxLen; omega) (by omega) hB ?_; intro v' w1 ho hgr _; obtain ⟨ao, cap, rfl⟩ := own_shape ho)
  go_ret
  exact ⟨_, rfl, ho, hgr⟩
end Go.Proofs.YtgjppkkifclanaaDoor
