/-
  A list of steps that comes in, cell by cell; whether they are few.
-/
import Derived.Test.YtgjppkkifclanaaDoorWants
import Derived.SizedLaws
namespace Go.Proofs.YtgjppkkifclanaaDoor
open Go.RowKit
/-- A step: what is done, two numbers, a text. -/
structure Step where
  kind : Int
  a : Int
  b : Int
  s : ByteArray
def Step.vals (k : Step) : Array Value := #[.int .i64 k.kind, .int .i64 k.a, .int .i64 k.b, .string k.s]
/-- A slice at A holds these steps, four cells each. -/
def Steps (w : World) (A : Option Addr) (ks : List Step) : Prop := 0 < ks.length → ∃ b off, A = some ⟨b, off, none⟩ ∧ b < w.heap.size ∧
  ∀ (j : Nat) (k : Step), ks[j]? = some k → w.cell? ⟨b, off + j * 4, none⟩ = some (.int .i64 k.kind) ∧ w.cell? ⟨b, off + j * 4 + 1, none⟩ = some (.int .i64 k.a) ∧ w.cell? ⟨b, off + j * 4 + 2, none⟩ = some (.int .i64 k.b) ∧ w.cell? ⟨b, off + j * 4 + 3, none⟩ = some (.string k.s)
theorem Steps.at_ {w w' : World} {A : Option Addr} {ks : List Step} (h : Steps w A ks) {B : Nat} (hb : Below B w w') (hB : w.heap.size ≤ B) {j : Nat} {k : Step} (hj : ks[j]? = some k) :
    ∃ b off, A = some ⟨b, off, none⟩ ∧ b < w.heap.size ∧ w'.cell? ⟨b, off + j * 4, none⟩ = some (.int .i64 k.kind) ∧ w'.cell? ⟨b, off + j * 4 + 1, none⟩ = some (.int .i64 k.a) ∧ w'.cell? ⟨b, off + j * 4 + 2, none⟩ = some (.int .i64 k.b) ∧ w'.cell? ⟨b, off + j * 4 + 3, none⟩ = some (.string k.s) := by
  obtain ⟨b, off, e, hlt, hc⟩ := h (by have := (List.getElem?_eq_some_iff.1 hj).1; omega)
  obtain ⟨h0, h1, h2, h3⟩ := hc j _ hj
  have hl : b < B := by omega
  exact ⟨b, off, e, hlt, (hb.cell (p := ⟨b, off + j * 4, none⟩) hl).trans h0, (hb.cell (p := ⟨b, off + j * 4 + 1, none⟩) hl).trans h1, (hb.cell (p := ⟨b, off + j * 4 + 2, none⟩) hl).trans h2, (hb.cell (p := ⟨b, off + j * 4 + 3, none⟩) hl).trans h3⟩
/-- How many bytes steps put in, all together. -/
def total (ks : List Step) : Nat := (ks.map fun k => k.s.size).sum
theorem total_snoc {ks : List Step} {j : Nat} {k : Step} (h : ks[j]? = some k) : total (ks.take (j + 1)) = total (ks.take j) + k.s.size := by
  obtain ⟨hj, rfl⟩ := List.getElem?_eq_some_iff.1 h
  unfold total
  rw [List.take_succ_eq_append_getElem hj, List.map_append, List.sum_append]
  simp
theorem total_le {ks : List Step} {m : Nat} (h : ∀ k ∈ ks, k.s.size ≤ m) : total ks ≤ ks.length * m := by
  unfold total
  induction ks with
  | nil => simp
  | cons x r ih =>
    have h1 := h x (by simp)
    have h2 := ih (fun k hk => h k (by simp [hk]))
    simp only [List.map_cons, List.sum_cons, List.length_cons, Nat.add_mul, Nat.one_mul]
    omega
theorem total_take (ks : List Step) (j : Nat) : total (ks.take j) ≤ total ks := by
  have e : total ks = total (ks.take j) + total (ks.drop j) := by
    unfold total
    rw [← List.sum_append, ← List.map_append, List.take_append_drop]
  omega
theorem weightsAll_mem {H : Type} {P : Program} {e : TypeId} : ∀ {l : List (DataW H)} {d : DataW H}, d ∈ l → ∀ n ∈ d.weights P e, n ∈ DataW.weightsAll P e l
  | x :: r, d, hd, n, hn => by
    simp only [DataW.weightsAll, List.mem_append]
    rcases List.mem_cons.1 hd with rfl | h
    · exact Or.inl hn
    · exact Or.inr (weightsAll_mem h n hn)
theorem add_plain (b off i : Nat) : (⟨b, off, none⟩ : Addr).add i = ⟨b, off + i, none⟩ := by unfold Addr.add; split <;> simp_all
section
open Go.ChangeShapes Go.WideShapes Go.ChangeAt Go.Deep
theorem cells_step : Tryd.prog.cellsOf 32 = 4 := by kernel_rfl
def stepOf (a b c d : Option Value) : Step := ⟨match a with | some (.int _ n) => n | _ => 0, match b with | some (.int _ n) => n | _ => 0, match c with | some (.int _ n) => n | _ => 0, match d with | some (.string s) => s | _ => .empty⟩
theorem open_steps {H : Type} {enc : TypeId × Value → H} {W : World} {base : Nat} {v : Value} {d : DataW H} {p : List MemPlace} (ho : Value.okWide Tryd.prog W .any base 22 v)
    (h : DataW.Trod enc Tryd.prog W 0 (fun _ => true) true 22 v d p) (hl : ∀ x ∈ p, x.block < W.heap.size) :
    ∃ (A : Option Addr) (c : Nat) (ks : List Step), v = .slice A ks.length c ∧ Steps W A ks ∧ ks.length ≤ maxLen ∧ ∀ k ∈ ks, ∃ e sp x y z, d = .slice e sp ∧ DataW.agg [x, y, z, .lit (.string k.s.data.toList)] ∈ e := by
  obtain ⟨a0, len, cap, rfl⟩ := okWide_slice Tryd.underlying22 ho
  obtain ⟨fuel, hf⟩ := h
  rcases open_slice_fields Tryd.underlying22 (Tryd.underlying32) (by kernel_rfl) cells_step hf with ⟨hcs, hx⟩ | ⟨a, len', cap', m, D, Pl, hcs, _, hl', hm, hmm, hx, hi⟩
  · simp [Value.cells] at hcs
    obtain ⟨rfl, rfl, rfl⟩ := hcs
    exact ⟨none, 0, [], rfl, fun h0 => absurd h0 (by simp), by simp, by simp⟩
  · simp [Value.cells] at hcs
    obtain ⟨rfl, rfl, rfl⟩ := hcs
    simp only [Prod.mk.injEq] at hx
    obtain ⟨rfl, rfl⟩ := hx
    simp only [if_true] at hmm
    subst hmm
    have each : ∀ i, i < len → ∃ (k n q : Int) (s : ByteArray), (W.cell? (a.add (i * 4)) = some (.int .i64 k) ∧ W.cell? (a.add (i * 4 + 1)) = some (.int .i64 n) ∧ W.cell? (a.add (i * 4 + 2)) = some (.int .i64 q) ∧ W.cell? (a.add (i * 4 + 3)) = some (.string s)) ∧ ∃ x y z, D i = .agg [x, y, z, .lit (.string s.data.toList)] := fun i hlt => by
      obtain ⟨ys, n, hD, _, hlen, hf⟩ := hi i (by omega)
      obtain ⟨v0, y0, hc0, hy0, ht0⟩ := hf 0 _ rfl
      obtain ⟨v1, y1, hc1, hy1, ht1⟩ := hf 1 _ rfl
      obtain ⟨v2, y2, hc2, hy2, ht2⟩ := hf 2 _ rfl
      obtain ⟨v3, y3, hc3, hy3, ht3⟩ := hf 3 _ rfl
      obtain ⟨x0, e0, _, _⟩ := DataW.trod_int Tryd.underlying3 ht0
      obtain ⟨x1, e1, _, _⟩ := DataW.trod_int Tryd.underlying3 ht1
      obtain ⟨x2, e2, _, _⟩ := DataW.trod_int Tryd.underlying3 ht2
      obtain ⟨s, e3, f3, _⟩ := DataW.trod_string Tryd.underlying9 ht3
      simp at e0 e1 e2 e3
      subst e0 e1 e2 e3
      refine ⟨x0, x1, x2, s, ⟨hc0, hc1, hc2, hc3⟩, y0.1, y1.1, y2.1, ?_⟩
      rw [hD]
      match ys, hlen with
      | [z0, z1, z2, z3], _ =>
        simp at hy0 hy1 hy2 hy3
        subst hy0 hy1 hy2 hy3
        simp [f3]
    have get : ∀ j, j < len → ∃ k, ((List.range len).map fun i => stepOf (W.cell? (a.add (i * 4))) (W.cell? (a.add (i * 4 + 1))) (W.cell? (a.add (i * 4 + 2))) (W.cell? (a.add (i * 4 + 3))))[j]? = some k ∧
        (W.cell? (a.add (j * 4)) = some (.int .i64 k.kind) ∧ W.cell? (a.add (j * 4 + 1)) = some (.int .i64 k.a) ∧ W.cell? (a.add (j * 4 + 2)) = some (.int .i64 k.b) ∧ W.cell? (a.add (j * 4 + 3)) = some (.string k.s)) ∧ ∃ x y z, D j = .agg [x, y, z, .lit (.string k.s.data.toList)] := fun j hj => by
      obtain ⟨k, n, q, s, ⟨h0, h1, h2, h3⟩, hd⟩ := each j hj
      refine ⟨⟨k, n, q, s⟩, ?_, ⟨h0, h1, h2, h3⟩, hd⟩
      rw [List.getElem?_map, List.getElem?_range hj]
      simp only [Option.map_some, h0, h1, h2, h3, stepOf]
    refine ⟨some a, m, (List.range len).map fun i => stepOf (W.cell? (a.add (i * 4))) (W.cell? (a.add (i * 4 + 1))) (W.cell? (a.add (i * 4 + 2))) (W.cell? (a.add (i * 4 + 3))), by simp, fun h0 => ?_, by simp; omega, fun k hk => ?_⟩
    · simp only [List.length_map, List.length_range] at h0
      obtain ⟨k0, n0, q0, s0, ⟨hk0, _⟩, _⟩ := each 0 h0
      have hspot : a.spot = none := by
        have := World.cell?_spot hk0
        simpa [Addr.add] using this
      obtain ⟨b, off, spot⟩ := a
      simp only at hspot
      subst hspot
      have hb : b < W.heap.size := by
        have hm0 : MemPlace.cell b off ∈ MemPlace.row ⟨b, off, none⟩ (m * #[1, 2, 3, 4].size) ++ (List.range m).flatMap Pl := List.mem_append_left _ (MemPlace.mem_row.2 ⟨0, by simp; omega, by simp⟩)
        exact hl _ hm0
      refine ⟨b, off, rfl, hb, fun j k hj => ?_⟩
      have hjl : j < len := by
        rcases Nat.lt_or_ge j len with h' | h'
        · exact h'
        · rw [List.getElem?_eq_none (by simpa using h')] at hj; cases hj
      obtain ⟨k', e1, ⟨e2, e3, e4, e5⟩, _⟩ := get j hjl
      rw [e1] at hj
      injection hj with hj
      subst hj
      rw [add_plain] at e2 e3 e4 e5
      exact ⟨e2, by rw [← Nat.add_assoc] at e3; exact e3, by rw [← Nat.add_assoc] at e4; exact e4, by rw [← Nat.add_assoc] at e5; exact e5⟩
    · obtain ⟨j, hj, rfl⟩ := List.getElem_of_mem hk
      simp only [List.length_map, List.length_range] at hj
      obtain ⟨k', e1, _, x, y, z, e2⟩ := get j hj
      rw [List.getElem?_eq_getElem (by simpa using hj)] at e1
      injection e1 with e1
      rw [e1]
      exact ⟨_, _, x, y, z, rfl, by rw [← e2]; exact List.mem_map.2 ⟨j, List.mem_range.2 hj, rfl⟩⟩
theorem sized_step {H : Type} {ts : List TypeId} {ds : List (DataW H)} (h : (DataW.weightsEach Tryd.prog ts ds).all (· ≤ reachBytes) = true) {j : Nat} {elems spare : List (DataW H)} {x y z : DataW H} {bytes : List UInt8}
    (ht : ts[j]? = some 22) (hd : ds[j]? = some (.slice elems spare)) (hx : DataW.agg [x, y, z, .lit (.string bytes)] ∈ elems) : bytes.length ≤ reachBytes := by
  refine of_decide_eq_true (List.all_eq_true.1 h _ (DataW.weights_mem_each ht hd _ ?_))
  simp only [DataW.weights, Tryd.underlying22, List.mem_cons, List.mem_append]
  refine Or.inr (Or.inl (weightsAll_mem hx _ ?_))
  simp [DataW.weights, Tryd.underlying32, DataW.weightsEach]
end
end Go.Proofs.YtgjppkkifclanaaDoor
