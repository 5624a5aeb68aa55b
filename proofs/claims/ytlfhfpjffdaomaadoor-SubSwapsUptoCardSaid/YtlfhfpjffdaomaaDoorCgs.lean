/-
  A list of changes that comes in, cell by cell.
-/
import Derived.Test.YtlfhfpjffdaomaaDoorWants
import Derived.SizedLaws
namespace Go.Proofs.YtlfhfpjffdaomaaDoor
open Go.RowKit
set_option maxRecDepth 100000
/-- A change: where, what goes, what comes. -/
structure Cg where
  at_ : Int
  old : ByteArray
  new : ByteArray
def Cg.vals (k : Cg) : Array Value := #[.int .i64 k.at_, .string k.old, .string k.new]
/-- A slice at A holds these changes, three cells each. -/
def Cgs (w : World) (A : Option Addr) (ks : List Cg) : Prop := 0 < ks.length → ∃ b off, A = some ⟨b, off, none⟩ ∧ b < w.heap.size ∧
  ∀ (j : Nat) (k : Cg), ks[j]? = some k → w.cell? ⟨b, off + j * 3, none⟩ = some (.int .i64 k.at_) ∧ w.cell? ⟨b, off + j * 3 + 1, none⟩ = some (.string k.old) ∧ w.cell? ⟨b, off + j * 3 + 2, none⟩ = some (.string k.new)
theorem Cgs.at_ {w w' : World} {A : Option Addr} {ks : List Cg} (h : Cgs w A ks) {B : Nat} (hb : Below B w w') (hB : w.heap.size ≤ B) {j : Nat} {k : Cg} (hj : ks[j]? = some k) :
    ∃ b off, A = some ⟨b, off, none⟩ ∧ b < w.heap.size ∧ w'.cell? ⟨b, off + j * 3, none⟩ = some (.int .i64 k.at_) ∧ w'.cell? ⟨b, off + j * 3 + 1, none⟩ = some (.string k.old) ∧ w'.cell? ⟨b, off + j * 3 + 2, none⟩ = some (.string k.new) := by
  obtain ⟨b, off, e, hlt, hc⟩ := h (by have := (List.getElem?_eq_some_iff.1 hj).1; omega)
  obtain ⟨h0, h1, h2⟩ := hc j _ hj
  have hl : b < B := by omega
  exact ⟨b, off, e, hlt, (hb.cell (p := ⟨b, off + j * 3, none⟩) hl).trans h0, (hb.cell (p := ⟨b, off + j * 3 + 1, none⟩) hl).trans h1, (hb.cell (p := ⟨b, off + j * 3 + 2, none⟩) hl).trans h2⟩
theorem Cgs.below {w w' : World} {A : Option Addr} {ks : List Cg} (h : Cgs w A ks) (hb : Below w.heap.size w w') : Cgs w' A ks := fun h0 => by
  obtain ⟨b, off, e, hlt, hc⟩ := h h0
  refine ⟨b, off, e, Nat.lt_of_lt_of_le hlt hb.size, fun j k hj => ?_⟩
  obtain ⟨h1, h2, h3⟩ := hc j k hj
  exact ⟨(hb.cell (p := ⟨b, off + j * 3, none⟩) hlt).trans h1, (hb.cell (p := ⟨b, off + j * 3 + 1, none⟩) hlt).trans h2, (hb.cell (p := ⟨b, off + j * 3 + 2, none⟩) hlt).trans h3⟩
/-- One change, as a block that has just been laid holds it. -/
theorem cgs_one (w : World) (k : Cg) (t : TypeId) : Cgs (w.alloc (.cells k.vals t)) (some ⟨w.heap.size, 0, none⟩) [k] := fun _ => by
  refine ⟨_, _, rfl, by simp, fun j x hx => ?_⟩
  have hb := Blk.new w t k.vals
  match j, hx with
  | 0, hx =>
    simp only [List.getElem?_cons_zero, Option.some.injEq] at hx
    subst hx
    exact ⟨hb.cell 0, hb.cell 1, hb.cell 2⟩
/-- How many bytes changes bear, all together. -/
def weigh (ks : List Cg) : Nat := (ks.map fun k => k.old.size + k.new.size).sum
theorem weigh_snoc {ks : List Cg} {j : Nat} {k : Cg} (h : ks[j]? = some k) : weigh (ks.take (j + 1)) = weigh (ks.take j) + k.old.size + k.new.size := by
  obtain ⟨hj, rfl⟩ := List.getElem?_eq_some_iff.1 h
  unfold weigh
  rw [List.take_succ_eq_append_getElem hj, List.map_append, List.sum_append]
  simp; omega
theorem weigh_le {ks : List Cg} {m : Nat} (h : ∀ k ∈ ks, k.old.size ≤ m ∧ k.new.size ≤ m) : weigh ks ≤ ks.length * (2 * m) := by
  unfold weigh
  induction ks with
  | nil => simp
  | cons x r ih =>
    have h1 := h x (by simp)
    have h2 := ih (fun k hk => h k (by simp [hk]))
    simp only [List.map_cons, List.sum_cons, List.length_cons, Nat.add_mul, Nat.one_mul]
    omega
theorem weigh_take (ks : List Cg) (j : Nat) : weigh (ks.take j) ≤ weigh ks := by
  have e : weigh ks = weigh (ks.take j) + weigh (ks.drop j) := by
    unfold weigh
    rw [← List.sum_append, ← List.map_append, List.take_append_drop]
  omega
theorem weightsAll_mem {H : Type} {P : Program} {e : TypeId} : ∀ {l : List (DataW H)} {d : DataW H}, d ∈ l → ∀ n ∈ d.weights P e, n ∈ DataW.weightsAll P e l
  | x :: r, d, hd, n, hn => by
    simp only [DataW.weightsAll, List.mem_append]
    rcases List.mem_cons.1 hd with rfl | h
    · exact Or.inl hn
    · exact Or.inr (weightsAll_mem h n hn)
theorem add_plain (b off i : Nat) : (⟨b, off, none⟩ : Addr).add i = ⟨b, off + i, none⟩ := by unfold Addr.add; split <;> simp_all
section
open Go.ChangeShapes Go.WideShapes Go.ChangeAt Go.Deep
theorem cells_cg : Tryd.prog.cellsOf 48 = 3 := by kernel_rfl
def cgOf (a b c : Option Value) : Cg := ⟨match a with | some (.int _ n) => n | _ => 0, match b with | some (.string s) => s | _ => .empty, match c with | some (.string s) => s | _ => .empty⟩
theorem open_cgs {H : Type} {enc : TypeId × Value → H} {W : World} {base : Nat} {v : Value} {d : DataW H} {p : List MemPlace} (ho : Value.okWide Tryd.prog W .any base 43 v)
    (h : DataW.Trod enc Tryd.prog W 0 (fun _ => true) true 43 v d p) (hl : ∀ x ∈ p, x.block < W.heap.size) :
    ∃ (A : Option Addr) (c : Nat) (ks : List Cg), v = .slice A ks.length c ∧ Cgs W A ks ∧ ks.length ≤ maxLen ∧ ∀ k ∈ ks, ∃ e sp x, d = .slice e sp ∧ DataW.agg [x, .lit (.string k.old.data.toList), .lit (.string k.new.data.toList)] ∈ e := by
  obtain ⟨a0, len, cap, rfl⟩ := okWide_slice Tryd.underlying43 ho
  obtain ⟨fuel, hf⟩ := h
  rcases open_slice_fields Tryd.underlying43 (Tryd.underlying48) (by kernel_rfl) cells_cg hf with ⟨hcs, hx⟩ | ⟨a, len', cap', m, D, Pl, hcs, _, hl', hm, hmm, hx, hi⟩
  · simp [Value.cells] at hcs
    obtain ⟨rfl, rfl, rfl⟩ := hcs
    exact ⟨none, 0, [], rfl, fun h0 => absurd h0 (by simp), by simp, by simp⟩
  · simp [Value.cells] at hcs
    obtain ⟨rfl, rfl, rfl⟩ := hcs
    simp only [Prod.mk.injEq] at hx
    obtain ⟨rfl, rfl⟩ := hx
    simp only [if_true] at hmm
    subst hmm
    have each : ∀ i, i < len → ∃ (k : Int) (s t : ByteArray), (W.cell? (a.add (i * 3)) = some (.int .i64 k) ∧ W.cell? (a.add (i * 3 + 1)) = some (.string s) ∧ W.cell? (a.add (i * 3 + 2)) = some (.string t)) ∧ ∃ x, D i = .agg [x, .lit (.string s.data.toList), .lit (.string t.data.toList)] := fun i hlt => by
      obtain ⟨ys, n, hD, _, hlen, hf⟩ := hi i (by omega)
      obtain ⟨v0, y0, hc0, hy0, ht0⟩ := hf 0 _ rfl
      obtain ⟨v1, y1, hc1, hy1, ht1⟩ := hf 1 _ rfl
      obtain ⟨v2, y2, hc2, hy2, ht2⟩ := hf 2 _ rfl
      obtain ⟨x0, e0, _, _⟩ := DataW.trod_int Tryd.underlying3 ht0
      obtain ⟨s, e1, f1, _⟩ := DataW.trod_string Tryd.underlying9 ht1
      obtain ⟨t, e2, f2, _⟩ := DataW.trod_string Tryd.underlying9 ht2
      simp at e0 e1 e2
      subst e0 e1 e2
      refine ⟨x0, s, t, ⟨hc0, hc1, hc2⟩, y0.1, ?_⟩
      rw [hD]
      match ys, hlen with
      | [z0, z1, z2], _ =>
        simp at hy0 hy1 hy2
        subst hy0 hy1 hy2
        simp [f1, f2]
    have get : ∀ j, j < len → ∃ k, ((List.range len).map fun i => cgOf (W.cell? (a.add (i * 3))) (W.cell? (a.add (i * 3 + 1))) (W.cell? (a.add (i * 3 + 2))))[j]? = some k ∧
        (W.cell? (a.add (j * 3)) = some (.int .i64 k.at_) ∧ W.cell? (a.add (j * 3 + 1)) = some (.string k.old) ∧ W.cell? (a.add (j * 3 + 2)) = some (.string k.new)) ∧ ∃ x, D j = .agg [x, .lit (.string k.old.data.toList), .lit (.string k.new.data.toList)] := fun j hj => by
      obtain ⟨k, s, t, ⟨h0, h1, h2⟩, hd⟩ := each j hj
      refine ⟨⟨k, s, t⟩, ?_, ⟨h0, h1, h2⟩, hd⟩
      rw [List.getElem?_map, List.getElem?_range hj]
      simp only [Option.map_some, h0, h1, h2, cgOf]
    refine ⟨some a, m, (List.range len).map fun i => cgOf (W.cell? (a.add (i * 3))) (W.cell? (a.add (i * 3 + 1))) (W.cell? (a.add (i * 3 + 2))), by simp, fun h0 => ?_, by simp; omega, fun k hk => ?_⟩
    · simp only [List.length_map, List.length_range] at h0
      obtain ⟨k0, s0, t0, ⟨hk0, _⟩, _⟩ := each 0 h0
      have hspot : a.spot = none := by
        have := World.cell?_spot hk0
        simpa [Addr.add] using this
      obtain ⟨b, off, spot⟩ := a
      simp only at hspot
      subst hspot
      have hb : b < W.heap.size := by
        have hm0 : MemPlace.cell b off ∈ MemPlace.row ⟨b, off, none⟩ (m * #[1, 2, 3].size) ++ (List.range m).flatMap Pl := List.mem_append_left _ (MemPlace.mem_row.2 ⟨0, by simp; omega, by simp⟩)
        exact hl _ hm0
      refine ⟨b, off, rfl, hb, fun j k hj => ?_⟩
      have hjl : j < len := by
        rcases Nat.lt_or_ge j len with h' | h'
        · exact h'
        · rw [List.getElem?_eq_none (by simpa using h')] at hj; cases hj
      obtain ⟨k', e1, ⟨e2, e3, e4⟩, _⟩ := get j hjl
      rw [e1] at hj
      injection hj with hj
      subst hj
      rw [add_plain] at e2 e3 e4
      exact ⟨e2, by rw [← Nat.add_assoc] at e3; exact e3, by rw [← Nat.add_assoc] at e4; exact e4⟩
    · obtain ⟨j, hj, rfl⟩ := List.getElem_of_mem hk
      simp only [List.length_map, List.length_range] at hj
      obtain ⟨k', e1, _, x, e2⟩ := get j hj
      rw [List.getElem?_eq_getElem (by simpa using hj)] at e1
      injection e1 with e1
      rw [e1]
      exact ⟨_, _, x, rfl, by rw [← e2]; exact List.mem_map.2 ⟨j, List.mem_range.2 hj, rfl⟩⟩
theorem sized_cg {H : Type} {ts : List TypeId} {ds : List (DataW H)} (h : (DataW.weightsEach Tryd.prog ts ds).all (· ≤ reachBytes) = true) {j : Nat} {elems spare : List (DataW H)} {x : DataW H} {u v : List UInt8}
    (ht : ts[j]? = some 43) (hd : ds[j]? = some (.slice elems spare)) (hx : DataW.agg [x, .lit (.string u), .lit (.string v)] ∈ elems) : u.length ≤ reachBytes ∧ v.length ≤ reachBytes := by
  refine ⟨of_decide_eq_true (List.all_eq_true.1 h _ (DataW.weights_mem_each ht hd _ ?_)), of_decide_eq_true (List.all_eq_true.1 h _ (DataW.weights_mem_each ht hd _ ?_))⟩
  all_goals
    simp only [DataW.weights, Tryd.underlying43, List.mem_cons, List.mem_append]
    refine Or.inr (Or.inl (weightsAll_mem hx _ ?_))
    simp [DataW.weights, Tryd.underlying48, DataW.weightsEach]
end
end Go.Proofs.YtlfhfpjffdaomaaDoor
