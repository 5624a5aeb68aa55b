/-
  A tree, cell by cell: its nodes as they come in, and as a call lays them.
-/
import Derived.Test.YtchmiigjiojiaaaDoorCgs
import Derived.Deep.Slices
namespace Go.Proofs.YtchmiigjiojiaaaDoor
open Go.RowKit
/-- A node: the one ahead of it, the next one, where the cursor was, and its change. -/
structure Nd where
  up : Int
  next : Int
  before : Int
  after : Int
  at_ : Int
  old : ByteArray
  new : ByteArray
  deriving DecidableEq
def Nd.row (k : Nd) : List Value := [.int .i64 k.up, .int .i64 k.next, .int .i64 k.before, .int .i64 k.after, .int .i64 k.at_, .string k.old, .string k.new]
def Nd.vals (k : Nd) : Array Value := #[.int .i64 k.up, .int .i64 k.next, .int .i64 k.before, .int .i64 k.after, .int .i64 k.at_, .string k.old, .string k.new]
/-- The seven cells of a node. -/
def NdAt (w : World) (b o : Nat) (k : Nd) : Prop :=
  w.cell? ⟨b, o, none⟩ = some (.int .i64 k.up) ∧ w.cell? ⟨b, o + 1, none⟩ = some (.int .i64 k.next) ∧ w.cell? ⟨b, o + 2, none⟩ = some (.int .i64 k.before) ∧ w.cell? ⟨b, o + 3, none⟩ = some (.int .i64 k.after) ∧
  w.cell? ⟨b, o + 4, none⟩ = some (.int .i64 k.at_) ∧ w.cell? ⟨b, o + 5, none⟩ = some (.string k.old) ∧ w.cell? ⟨b, o + 6, none⟩ = some (.string k.new)
theorem NdAt.of_block {w w' : World} {b o : Nat} {k : Nd} (h : NdAt w b o k) (e : w'.heap[b]? = w.heap[b]?) : NdAt w' b o k := by
  obtain ⟨h0, h1, h2, h3, h4, h5, h6⟩ := h
  have c : ∀ i, w'.cell? ⟨b, i, none⟩ = w.cell? ⟨b, i, none⟩ := fun i => World.cell?_of_block (a := ⟨b, i, none⟩) e
  exact ⟨(c _).trans h0, (c _).trans h1, (c _).trans h2, (c _).trans h3, (c _).trans h4, (c _).trans h5, (c _).trans h6⟩
/-- A slice at A holds these nodes, seven cells each. -/
def Nds (w : World) (A : Option Addr) (l : List Nd) : Prop := 0 < l.length → ∃ b off, A = some ⟨b, off, none⟩ ∧ b < w.heap.size ∧ ∀ (j : Nat) (k : Nd), l[j]? = some k → NdAt w b (off + j * 7) k
theorem Nds.nil (w : World) (A : Option Addr) : Nds w A [] := fun h => absurd h (by simp)
theorem Nds.at_ {w w' : World} {A : Option Addr} {l : List Nd} (h : Nds w A l) {B : Nat} (hb : Below B w w') (hB : w.heap.size ≤ B) {j : Nat} {k : Nd} (hj : l[j]? = some k) :
    ∃ b off, A = some ⟨b, off, none⟩ ∧ b < w.heap.size ∧ NdAt w' b (off + j * 7) k := by
  obtain ⟨b, off, e, hlt, hc⟩ := h (by have := (List.getElem?_eq_some_iff.1 hj).1; omega)
  exact ⟨b, off, e, hlt, (hc j _ hj).of_block (hb.block b (by omega))⟩
theorem Nds.addr {w : World} {A : Option Addr} {l : List Nd} (h : Nds w A l) (h0 : 0 < l.length) : ∃ b off, A = some ⟨b, off, none⟩ ∧ b < w.heap.size ∧ ∀ w' B, Below B w w' → w.heap.size ≤ B → ∀ (j : Nat) (k : Nd), l[j]? = some k → NdAt w' b (off + j * 7) k := by
  obtain ⟨b, off, e, hlt, hc⟩ := h h0
  exact ⟨b, off, e, hlt, fun w' B hb hB j k hj => (hc j k hj).of_block (hb.block b (by omega))⟩
theorem Nds.grown {w w' : World} {A : Option Addr} {l : List Nd} {r : Option Nat} (h : Nds w A l) (g : w.grownBy w' r) (hr : ∀ ad, A = some ad → some ad.block ≠ r) : Nds w' A l := fun h0 => by
  obtain ⟨b, off, e, hlt, hc⟩ := h h0
  exact ⟨b, off, e, Nat.lt_of_lt_of_le hlt g.size, fun j k hj => (hc j k hj).of_block (g.block b hlt (hr _ e))⟩
theorem Nds.below {w w' : World} {A : Option Addr} {l : List Nd} (h : Nds w A l) (hb : Below w.heap.size w w') : Nds w' A l := h.grown (gb_below none hb) (by simp)
/-- The cells of nodes, one behind the other. -/
def nrows (l : List Nd) : List Value := l.flatMap Nd.row
theorem nrows_append (a b : List Nd) : nrows (a ++ b) = nrows a ++ nrows b := by simp [nrows]
theorem nrows_length (l : List Nd) : (nrows l).length = l.length * 7 := by
  induction l with
  | nil => rfl
  | cons x r ih =>
    show (nrows r).length + 1 + 1 + 1 + 1 + 1 + 1 + 1 = _
    rw [ih, List.length_cons]; omega
theorem nrows_get : ∀ {l : List Nd} {j : Nat} {k : Nd}, l[j]? = some k → ∀ i v, k.row[i]? = some v → (nrows l)[j * 7 + i]? = some v
  | [], _, _, h => by simp at h
  | x :: r, 0, k, h => by
    simp only [List.getElem?_cons_zero, Option.some.injEq] at h
    subst h
    intro i v hv
    have hi : i < x.row.length := (List.getElem?_eq_some_iff.1 hv).1
    show (x.row ++ nrows r)[0 * 7 + i]? = _
    rw [Nat.zero_mul, Nat.zero_add, List.getElem?_append_left hi]
    exact hv
  | x :: r, j + 1, k, h => by
    intro i v hv
    have ih := nrows_get (l := r) (j := j) (by simpa using h) i v hv
    show (x.row ++ nrows r)[(j + 1) * 7 + i]? = _
    rw [List.getElem?_append_right (by show x.row.length ≤ _; show 7 ≤ _; omega)]
    rw [show (j + 1) * 7 + i - x.row.length = j * 7 + i by show _ - 7 = _; omega]
    exact ih
theorem Nd.row_one (k : Nd) : ∀ v ∈ k.row, v.oneCell' = true := by
  intro v hv
  simp only [Nd.row, List.mem_cons, List.not_mem_nil, or_false] at hv
  rcases hv with rfl | rfl | rfl | rfl | rfl | rfl | rfl <;> rfl
theorem nrows_one {l : List Nd} : ∀ v ∈ nrows l, v.oneCell' = true := by
  intro v hv
  obtain ⟨k, _, hk⟩ := List.mem_flatMap.1 hv
  exact k.row_one v hk
/-- What a slice's cells hold, by their number. -/
theorem Nds.rows {w : World} {b off : Nat} {l : List Nd} (h : Nds w (some ⟨b, off, none⟩) l) : ∀ (j : Nat) (v : Value), (nrows l)[j]? = some v → w.cell? ((⟨b, off, none⟩ : Addr).add j) = some v := fun j v hj => by
  have hlt : j < l.length * 7 := by have := (List.getElem?_eq_some_iff.1 hj).1; rwa [nrows_length] at this
  obtain ⟨k, hk⟩ : ∃ k, l[j / 7]? = some k := ⟨_, List.getElem?_eq_getElem (by omega)⟩
  obtain ⟨b', off', e, hb, hc⟩ := h (by omega)
  injection e with e
  injection e with e1 e2 _
  subst e1 e2
  obtain ⟨h0, h1, h2, h3, h4, h5, h6⟩ := hc _ _ hk
  have g := nrows_get hk
  rw [add_plain]
  have hm : j % 7 < 7 := Nat.mod_lt _ (by omega)
  have hj' : j = j / 7 * 7 + j % 7 := by omega
  rw [hj'] at hj ⊢
  rw [← Nat.add_assoc]
  generalize j % 7 = i at hm hj ⊢
  have fin : ∀ u, w.cell? ⟨b, off + j / 7 * 7 + i, none⟩ = some u → k.row[i]? = some u → w.cell? ⟨b, off + j / 7 * 7 + i, none⟩ = some v := fun u h h' => by
    rw [g i u h'] at hj
    rw [h, hj]
  match i, hm with
  | 0, _ => exact fin _ h0 rfl
  | 1, _ => exact fin _ h1 rfl
  | 2, _ => exact fin _ h2 rfl
  | 3, _ => exact fin _ h3 rfl
  | 4, _ => exact fin _ h4 rfl
  | 5, _ => exact fin _ h5 rfl
  | 6, _ => exact fin _ h6 rfl
theorem info_node : (Tryd.prog.info? 40).map (fun i => (i.zero, i.size, i.bytes)) = some (some (.agg #[.int .i64 0, .int .i64 0, .int .i64 0, .int .i64 0, .int .i64 0, .string .empty, .string .empty]), 7, 72) := by kernel_rfl
/-- Nodes that the call has laid. -/
theorem own_nds {w : World} {B : Nat} {e : TypeId} {A : Option Addr} {n c : Nat} {l : List Nd} (h : w.ownsRow B e 7 (.slice A n c) n (nrows l)) (hn : l.length = n) : Nds w A l ∧ n ≤ c := by
  rcases h.2 with ⟨hv, h1⟩ | ⟨g, cap, cur, hv, _, hh, hnc, _⟩
  · injection hv with e1 e2 e3
    exact ⟨fun h0 => by omega, by omega⟩
  · injection hv with e1 e2 e3
    subst e1 e3
    refine ⟨fun h0 => ?_, hnc⟩
    have hc := h.cells (g := g) rfl
    have hp : ∀ j, (⟨g, 0, none⟩ : Addr).add j = ⟨g, 0 + j, none⟩ := fun j => add_plain g 0 j
    refine ⟨g, 0, rfl, Blk.lt (w := w) hh, fun j k hj => ?_⟩
    have r := nrows_get hj
    have one : ∀ i v, k.row[i]? = some v → w.cell? ⟨g, 0 + j * 7 + i, none⟩ = some v := fun i v hv => by rw [Nat.add_assoc, ← hp]; exact hc _ _ (r i v hv)
    exact ⟨one 0 _ rfl, one 1 _ rfl, one 2 _ rfl, one 3 _ rfl, one 4 _ rfl, one 5 _ rfl, one 6 _ rfl⟩
/-- The nodes with another Next at one of them. -/
def setNext (l : List Nd) (i : Nat) (n : Int) : List Nd := match l[i]? with
  | some x => l.set i { x with next := n }
  | none => l
theorem setNext_length (l : List Nd) (i : Nat) (n : Int) : (setNext l i n).length = l.length := by
  unfold setNext; split <;> simp
theorem nrows_set {n : Int} : ∀ {l : List Nd} {i : Nat} {x : Nd}, l[i]? = some x → nrows (l.set i { x with next := n }) = (nrows l).set (i * 7 + 1) (.int .i64 n)
  | [], _, _, h => by simp at h
  | y :: r, 0, x, h => by
    simp only [List.getElem?_cons_zero, Option.some.injEq] at h
    subst h
    rfl
  | y :: r, i + 1, x, h => by
    have ih := nrows_set (n := n) (l := r) (i := i) (x := x) (by simpa using h)
    show y.row ++ nrows (r.set i { x with next := n }) = (y.row ++ nrows r).set ((i + 1) * 7 + 1) _
    rw [ih, List.set_append_right _ _ (by show 7 ≤ _; omega)]
    congr 2
    show _ = (i + 1) * 7 + 1 - 7
    omega
/-- A row of the call's own, behind a store to a node's Next. -/
theorem own_next {w : World} {B : Nat} {e : TypeId} {g n c : Nat} {l : List Nd} (h : w.ownsRow B e 7 (.slice (some ⟨g, 0, none⟩) n c) n (nrows l)) (hn : l.length = n) {i : Nat} (hi : i < n) (m : Int) :
    (w.setCell ⟨g, 0 + i * 7 + 1, none⟩ (.int .i64 m)).ownsRow B e 7 (.slice (some ⟨g, 0, none⟩) n c) n (nrows (setNext l i m)) := by
  refine ⟨by rw [nrows_length, setNext_length, hn], ?_⟩
  rcases h.2 with ⟨hv, h1⟩ | ⟨g', cap, cur, hv, hB, hh, hnc, hcm, hsz, htk⟩
  · cases hv
  · injection hv with e1 e2 e3
    injection e1 with e1
    injection e1 with e1
    subst e1 e3
    refine .inr ⟨g, c, cur.setIfInBounds (0 + i * 7 + 1) (.int .i64 m), rfl, hB, (Blk.set_ (w := w) hh (0 + i * 7 + 1) _), hnc, hcm, by simpa using hsz, ?_⟩
    obtain ⟨x, hx⟩ : ∃ x, l[i]? = some x := ⟨_, List.getElem?_eq_getElem (by omega)⟩
    rw [show setNext l i m = l.set i { x with next := m } by unfold setNext; rw [hx], nrows_set hx, ← htk]
    rw [Array.toList_setIfInBounds, List.take_set, Nat.zero_add]
theorem own_addr {w : World} {B : Nat} {e : TypeId} {size n : Nat} {v : Value} {xs : List Value} (h : w.ownsRow B e size v n xs) (hn : 0 < n) : ∃ g c, v = .slice (some ⟨g, 0, none⟩) n c ∧ g < w.heap.size ∧ B ≤ g ∧ (∀ i, w.frozen? ⟨g, i, none⟩ = false) := by
  rcases h.2 with ⟨_, h1⟩ | ⟨g, cap, cur, hv, hB, hh, _⟩
  · omega
  · exact ⟨g, cap, hv, Blk.lt (w := w) hh, hB, fun i => Blk.frozen (w := w) hh i⟩
/-- An answer of a tree: nodes in a row of the call's own. -/
def TreeIs (l : List Nd) (cur : Int) (w : World) (v : Value) (w' : World) : Prop := ∃ (A : Option Addr) (c : Nat), v = .agg #[.slice A l.length c, .int .i64 cur] ∧ Nds w' A l ∧ l.length ≤ c ∧ Below w.heap.size w w'
section
open Go.ChangeShapes Go.WideShapes Go.ChangeAt Go.Deep
theorem cells_node : Tryd.prog.cellsOf 40 = 7 := by kernel_rfl
theorem cells_change : Tryd.prog.cellsOf 38 = 3 := by kernel_rfl
theorem cells_tree : Tryd.prog.cellsOf 24 = 2 := by kernel_rfl
end
end Go.Proofs.YtchmiigjiojiaaaDoor
