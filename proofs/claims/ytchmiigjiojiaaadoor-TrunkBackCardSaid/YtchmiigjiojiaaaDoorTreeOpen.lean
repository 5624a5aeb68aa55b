/-
  A tree, a change and a pair of numbers that come in.
-/
import Derived.Test.YtchmiigjiojiaaaDoorNds
import Derived.Test.YtchmiigjiojiaaaDoorFrame
import Derived.Deep.Slices
namespace Go.Proofs.YtchmiigjiojiaaaDoor
open Go.ChangeShapes Go.WideShapes Go.ChangeAt Go.RowKit Go.Deep
set_option maxRecDepth 100000
instance : Inhabited Nd := ⟨⟨0, 0, 0, 0, 0, .empty, .empty⟩⟩
/-- A node's numbers are numbers of 64 bits. -/
def NdWf (k : Nd) : Prop := (Lit.int .i64 k.up).wf = true ∧ (Lit.int .i64 k.next).wf = true ∧ (Lit.int .i64 k.before).wf = true ∧ (Lit.int .i64 k.after).wf = true ∧ (Lit.int .i64 k.at_).wf = true
section
variable {H : Type} {enc : TypeId × Value → H} {W : World}
/-- A change's three cells. -/
theorem trod_change {b : Nat} {sp : Nat → Bool} {hd : Bool} {fuel : Nat} {cs : List Value} {x : DataW H × List MemPlace} (h : DataW.trod enc Tryd.prog W b sp hd fuel 38 cs = some x) :
    ∃ (n : Int) (s t : ByteArray), cs = [.int .i64 n, .string s, .string t] ∧ (∃ y, x.1 = .agg [y, .lit (.string s.data.toList), .lit (.string t.data.toList)]) ∧ (Lit.int .i64 n).wf = true := by
  obtain ⟨xs, n, _, rfl, hl, hlen, hf⟩ := DataW.trod_struct Tryd.underlying38 h
  rw [cells_change] at hl
  match cs, hl with
  | [c0, c1, c2], _ =>
    match xs, hlen with
    | [x0, x1, x2], _ =>
      have f0 := hf 0 _ rfl
      have f1 := hf 1 _ rfl
      have f2 := hf 2 _ rfl
      have hi : Tryd.prog.cellsOf 3 = 1 := by kernel_rfl
      have hs : Tryd.prog.cellsOf 9 = 1 := by kernel_rfl
      simp only [List.getElem_toArray, List.getElem_cons_zero, List.getElem_cons_succ, hi, hs, List.drop_succ_cons, List.drop_zero, List.take_succ_cons, List.take_zero, List.getElem?_cons_zero, List.getElem?_cons_succ] at f0 f1 f2
      obtain ⟨m, e0, _, hw⟩ := DataW.trod_int Tryd.underlying3 f0
      obtain ⟨s, e1, g1, _⟩ := DataW.trod_string Tryd.underlying9 f1
      obtain ⟨t, e2, g2, _⟩ := DataW.trod_string Tryd.underlying9 f2
      simp at e0 e1 e2
      subst e0 e1 e2
      exact ⟨m, s, t, rfl, ⟨x0.1, by simp [g1, g2]⟩, hw⟩
/-- A node's seven cells. -/
theorem trod_node {b : Nat} {sp : Nat → Bool} {hd : Bool} {fuel : Nat} {cs : List Value} {x : DataW H × List MemPlace} (h : DataW.trod enc Tryd.prog W b sp hd fuel 40 cs = some x) :
    ∃ k : Nd, cs = k.row ∧ (∃ y0 y1 y2 y3 y4, x.1 = .agg [y0, y1, y2, y3, .agg [y4, .lit (.string k.old.data.toList), .lit (.string k.new.data.toList)]]) ∧ NdWf k := by
  obtain ⟨xs, n, _, rfl, hl, hlen, hf⟩ := DataW.trod_struct Tryd.underlying40 h
  rw [cells_node] at hl
  match cs, hl with
  | [c0, c1, c2, c3, c4, c5, c6], _ =>
    match xs, hlen with
    | [x0, x1, x2, x3, x4], _ =>
      have f0 := hf 0 _ rfl
      have f1 := hf 1 _ rfl
      have f2 := hf 2 _ rfl
      have f3 := hf 3 _ rfl
      have f4 := hf 4 _ rfl
      have hi : Tryd.prog.cellsOf 3 = 1 := by kernel_rfl
      simp only [List.getElem_toArray, List.getElem_cons_zero, List.getElem_cons_succ, hi, cells_change, List.drop_succ_cons, List.drop_zero, List.take_succ_cons, List.take_zero, List.getElem?_cons_zero, List.getElem?_cons_succ] at f0 f1 f2 f3 f4
      obtain ⟨m0, e0, _, w0⟩ := DataW.trod_int Tryd.underlying3 f0
      obtain ⟨m1, e1, _, w1⟩ := DataW.trod_int Tryd.underlying3 f1
      obtain ⟨m2, e2, _, w2⟩ := DataW.trod_int Tryd.underlying3 f2
      obtain ⟨m3, e3, _, w3⟩ := DataW.trod_int Tryd.underlying3 f3
      obtain ⟨m4, s, t, e4, ⟨y, g4⟩, w4⟩ := trod_change f4
      simp at e0 e1 e2 e3 e4
      obtain ⟨e4, e5, e6⟩ := e4
      subst e0 e1 e2 e3 e4 e5 e6
      exact ⟨⟨m0, m1, m2, m3, m4, s, t⟩, rfl, ⟨x0.1, x1.1, x2.1, x3.1, y, by simp [g4]⟩, w0, w1, w2, w3, w4⟩
/-- A list of nodes. -/
theorem open_nodes {fuel : Nat} {cs : List Value} {x : DataW H × List MemPlace} (h : DataW.trod enc Tryd.prog W 0 (fun _ => true) true fuel 22 cs = some x) (hl : ∀ y ∈ x.2, y.block < W.heap.size) :
    ∃ (A : Option Addr) (c : Nat) (l : List Nd), cs = [.slice A l.length c] ∧ Nds W A l ∧ l.length ≤ c ∧ c ≤ maxLen ∧
      ∀ k ∈ l, (∃ e sp y0 y1 y2 y3 y4, x.1 = .slice e sp ∧ DataW.agg [y0, y1, y2, y3, .agg [y4, .lit (.string k.old.data.toList), .lit (.string k.new.data.toList)]] ∈ e) ∧ NdWf k := by
  rcases open_slice Tryd.underlying22 h with ⟨rfl, rfl⟩ | ⟨a, len, cap, m, n, D, Pl, rfl, _, hlc, hcm, hm, rfl, hx⟩
  · exact ⟨none, 0, [], rfl, Nds.nil _ _, Nat.le_refl _, by decide, by simp⟩
  · simp only [if_true] at hm
    subst hm
    rw [cells_node] at hx hl
    obtain ⟨f, hf⟩ := choose_lt (α := Nd) (n := m) (p := fun i k => (∀ j v, k.row[j]? = some v → W.cell? ((a.add (i * 7)).add j) = some v) ∧ (∃ y0 y1 y2 y3 y4, D i = .agg [y0, y1, y2, y3, .agg [y4, .lit (.string k.old.data.toList), .lit (.string k.new.data.toList)]]) ∧ NdWf k) (fun i hi => by
      obtain ⟨cs', h1, h2⟩ := hx i hi
      obtain ⟨k, rfl, hD, hwf⟩ := trod_node h2
      obtain ⟨_, _, hc⟩ := World.cells?_some h1
      refine ⟨k, fun j v hj => ?_, hD, hwf⟩
      have hj7 : j < 7 := (List.getElem?_eq_some_iff.1 hj).1
      rw [hc j hj7]; exact hj)
    refine ⟨some a, m, (List.range len).map f, by simp, fun h0 => ?_, by simp; exact hlc, hcm, fun k hk => ?_⟩
    · simp only [List.length_map, List.length_range] at h0
      have c0 := (hf 0 (by omega)).1 0 _ rfl
      have hspot : a.spot = none := by
        have := World.cell?_spot c0
        simpa [Addr.add] using this
      obtain ⟨b, off, spot⟩ := a
      simp only at hspot
      subst hspot
      have hb : b < W.heap.size := by
        have hm0 : MemPlace.cell b off ∈ MemPlace.row ⟨b, off, none⟩ (m * 7) ++ (List.range m).flatMap Pl := List.mem_append_left _ (MemPlace.mem_row.2 ⟨0, by omega, by simp⟩)
        exact hl _ hm0
      refine ⟨b, off, rfl, hb, fun j k hj => ?_⟩
      have hjl : j < len := by
        rcases Nat.lt_or_ge j len with h' | h'
        · exact h'
        · rw [List.getElem?_eq_none (by simpa using h')] at hj; cases hj
      rw [List.getElem?_map, List.getElem?_range hjl] at hj
      simp only [Option.map_some, Option.some.injEq] at hj
      subst hj
      have g := (hf j (by omega)).1
      rw [add_plain] at g
      have one : ∀ i v, (f j).row[i]? = some v → W.cell? ⟨b, off + j * 7 + i, none⟩ = some v := fun i v hv => by rw [← add_plain]; exact g i v hv
      exact ⟨one 0 _ rfl, one 1 _ rfl, one 2 _ rfl, one 3 _ rfl, one 4 _ rfl, one 5 _ rfl, one 6 _ rfl⟩
    · obtain ⟨j, hj, rfl⟩ := List.mem_map.1 hk
      have hj' : j < len := List.mem_range.1 hj
      obtain ⟨y0, y1, y2, y3, y4, e⟩ := (hf j (by omega)).2.1
      exact ⟨⟨_, _, y0, y1, y2, y3, y4, rfl, by rw [← e]; exact List.mem_map.2 ⟨j, hj, rfl⟩⟩, (hf j (by omega)).2.2⟩
/-- An argument that is a tree. -/
theorem open_tree_wf {base : Nat} {v : Value} {d : DataW H} {p : List MemPlace} (ho : Value.okWide Tryd.prog W .any base 24 v)
    (h : DataW.Trod enc Tryd.prog W 0 (fun _ => true) true 24 v d p) (hl : ∀ x ∈ p, x.block < W.heap.size) :
    ∃ (A : Option Addr) (c : Nat) (l : List Nd) (cur : Int), v = .agg #[.slice A l.length c, .int .i64 cur] ∧ Nds W A l ∧ l.length ≤ c ∧ c ≤ maxLen ∧ (Lit.int .i64 cur).wf = true ∧
      ∀ k ∈ l, (∃ e sp z y0 y1 y2 y3 y4, d = .agg [.slice e sp, z] ∧ DataW.agg [y0, y1, y2, y3, .agg [y4, .lit (.string k.old.data.toList), .lit (.string k.new.data.toList)]] ∈ e) ∧ NdWf k := by
  simp only [Value.okWide, Tryd.underlying24] at ho
  obtain ⟨cs, rfl, _, _⟩ := ho
  obtain ⟨fuel, hf⟩ := h
  obtain ⟨xs, n, _, hx, hlen0, hlen, hf⟩ := DataW.trod_struct Tryd.underlying24 hf
  rw [cells_tree] at hlen0
  simp only [Value.cells] at hlen0 hf
  obtain ⟨L⟩ := cs
  match L, hlen0 with
  | [c0, c1], _ =>
    match xs, hlen with
    | [x0, x1], _ =>
      have f0 := hf 0 _ rfl
      have f1 := hf 1 _ rfl
      have hi : Tryd.prog.cellsOf 3 = 1 := by kernel_rfl
      have hs : Tryd.prog.cellsOf 22 = 1 := by kernel_rfl
      simp only [List.getElem_toArray, List.getElem_cons_zero, List.getElem_cons_succ, hi, hs, List.drop_succ_cons, List.drop_zero, List.take_succ_cons, List.take_zero, List.getElem?_cons_zero, List.getElem?_cons_succ] at f0 f1
      simp only [List.map_cons, List.map_nil, List.flatMap_cons, List.flatMap_nil, Prod.mk.injEq] at hx
      obtain ⟨rfl, rfl⟩ := hx
      obtain ⟨m, e1, _, hw⟩ := DataW.trod_int Tryd.underlying3 f1
      obtain ⟨A, c, l, e0, hN, hc, hm, hd⟩ := open_nodes f0 (fun y hy => hl y (by simp [hy]))
      simp at e0 e1
      subst e0 e1
      refine ⟨A, c, l, m, rfl, hN, hc, hm, hw, fun k hk => ?_⟩
      obtain ⟨⟨e, sp, y0, y1, y2, y3, y4, h1, h2⟩, h3⟩ := hd k hk
      exact ⟨⟨e, sp, x1.1, y0, y1, y2, y3, y4, by rw [h1], h2⟩, h3⟩
theorem open_tree {base : Nat} {v : Value} {d : DataW H} {p : List MemPlace} (ho : Value.okWide Tryd.prog W .any base 24 v)
    (h : DataW.Trod enc Tryd.prog W 0 (fun _ => true) true 24 v d p) (hl : ∀ x ∈ p, x.block < W.heap.size) :
    ∃ (A : Option Addr) (c : Nat) (l : List Nd) (cur : Int), v = .agg #[.slice A l.length c, .int .i64 cur] ∧ Nds W A l ∧ l.length ≤ c ∧ c ≤ maxLen ∧ (Lit.int .i64 cur).wf = true ∧
      ∀ k ∈ l, ∃ e sp z y0 y1 y2 y3 y4, d = .agg [.slice e sp, z] ∧ DataW.agg [y0, y1, y2, y3, .agg [y4, .lit (.string k.old.data.toList), .lit (.string k.new.data.toList)]] ∈ e := by
  obtain ⟨A, c, l, cur, h1, h2, h3, h4, h5, h6⟩ := open_tree_wf ho h hl
  exact ⟨A, c, l, cur, h1, h2, h3, h4, h5, fun k hk => (h6 k hk).1⟩
theorem sized_tree {ts : List TypeId} {ds : List (DataW H)} (h : (DataW.weightsEach Tryd.prog ts ds).all (· ≤ reachBytes) = true) {j : Nat} {e sp : List (DataW H)} {z y0 y1 y2 y3 y4 : DataW H} {u v : List UInt8}
    (ht : ts[j]? = some 24) (hd : ds[j]? = some (.agg [.slice e sp, z])) (hx : DataW.agg [y0, y1, y2, y3, .agg [y4, .lit (.string u), .lit (.string v)]] ∈ e) : u.length ≤ reachBytes ∧ v.length ≤ reachBytes := by
  refine ⟨of_decide_eq_true (List.all_eq_true.1 h _ (DataW.weights_mem_each ht hd _ ?_)), of_decide_eq_true (List.all_eq_true.1 h _ (DataW.weights_mem_each ht hd _ ?_))⟩
  all_goals
    simp only [DataW.weights, Tryd.underlying24, DataW.weightsEach, Tryd.underlying22, List.map_cons, List.map_nil, List.mem_cons, List.mem_append]
    refine Or.inl (Or.inr (Or.inl (weightsAll_mem hx _ ?_)))
    simp [DataW.weights, Tryd.underlying40, Tryd.underlying38, DataW.weightsEach]
/-- An argument that is a change. -/
theorem open_change {base : Nat} {v : Value} {d : DataW H} {p : List MemPlace} (ho : Value.okWide Tryd.prog W .any base 38 v)
    (h : DataW.Trod enc Tryd.prog W 0 (fun _ => true) true 38 v d p) :
    ∃ (n : Int) (s t : ByteArray), v = .agg #[.int .i64 n, .string s, .string t] ∧ (∃ y, d = .agg [y, .lit (.string s.data.toList), .lit (.string t.data.toList)]) ∧ (Lit.int .i64 n).wf = true := by
  simp only [Value.okWide, Tryd.underlying38] at ho
  obtain ⟨cs, rfl, _, _⟩ := ho
  obtain ⟨fuel, hf⟩ := h
  obtain ⟨n, s, t, e, hd, hw⟩ := trod_change hf
  obtain ⟨L⟩ := cs
  simp only [Value.cells] at e
  subst e
  exact ⟨n, s, t, rfl, hd, hw⟩
theorem sized_change {ts : List TypeId} {ds : List (DataW H)} (h : (DataW.weightsEach Tryd.prog ts ds).all (· ≤ reachBytes) = true) {j : Nat} {y : DataW H} {u v : List UInt8}
    (ht : ts[j]? = some 38) (hd : ds[j]? = some (.agg [y, .lit (.string u), .lit (.string v)])) : u.length ≤ reachBytes ∧ v.length ≤ reachBytes := by
  refine ⟨of_decide_eq_true (List.all_eq_true.1 h _ (DataW.weights_mem_each ht hd _ ?_)), of_decide_eq_true (List.all_eq_true.1 h _ (DataW.weights_mem_each ht hd _ ?_))⟩
  all_goals simp [DataW.weights, Tryd.underlying38, DataW.weightsEach]
end
end Go.Proofs.YtchmiigjiojiaaaDoor
