/-
  A list of marks, cell by cell: as it comes in, parts of it, as a call lays it.
-/
import Derived.Test.YtcpnaanknheekaaCgs
import Derived.Deep.Slices
namespace Go.Proofs.Ytcpnaanknheekaa
open Go.RowKit
/-- A mark: its name, and where it is. -/
structure Mk where
  name : Int
  at_ : Int
def Mk.vals (k : Mk) : Array Value := #[.int .i64 k.name, .int .i64 k.at_]
/-- A slice at A holds these marks, two cells each. -/
def Mks (w : World) (A : Option Addr) (ks : List Mk) : Prop := 0 < ks.length → ∃ b off, A = some ⟨b, off, none⟩ ∧ b < w.heap.size ∧
  ∀ (j : Nat) (k : Mk), ks[j]? = some k → w.cell? ⟨b, off + j * 2, none⟩ = some (.int .i64 k.name) ∧ w.cell? ⟨b, off + j * 2 + 1, none⟩ = some (.int .i64 k.at_)
theorem Mks.nil (w : World) (A : Option Addr) : Mks w A [] := fun h => absurd h (by simp)
theorem Mks.at_ {w w' : World} {A : Option Addr} {ks : List Mk} (h : Mks w A ks) {B : Nat} (hb : Below B w w') (hB : w.heap.size ≤ B) {j : Nat} {k : Mk} (hj : ks[j]? = some k) :
    ∃ b off, A = some ⟨b, off, none⟩ ∧ b < w.heap.size ∧ w'.cell? ⟨b, off + j * 2, none⟩ = some (.int .i64 k.name) ∧ w'.cell? ⟨b, off + j * 2 + 1, none⟩ = some (.int .i64 k.at_) := by
  obtain ⟨b, off, e, hlt, hc⟩ := h (by have := (List.getElem?_eq_some_iff.1 hj).1; omega)
  obtain ⟨h0, h1⟩ := hc j _ hj
  have hl : b < B := by omega
  exact ⟨b, off, e, hlt, (hb.cell (p := ⟨b, off + j * 2, none⟩) hl).trans h0, (hb.cell (p := ⟨b, off + j * 2 + 1, none⟩) hl).trans h1⟩
theorem Mks.grown {w w' : World} {A : Option Addr} {ks : List Mk} {r : Option Nat} (h : Mks w A ks) (g : w.grownBy w' r) (hr : ∀ ad, A = some ad → some ad.block ≠ r) : Mks w' A ks := fun h0 => by
  obtain ⟨b, off, e, hlt, hc⟩ := h h0
  refine ⟨b, off, e, Nat.lt_of_lt_of_le hlt g.size, fun j k hj => ?_⟩
  obtain ⟨h1, h2⟩ := hc j k hj
  have hb := hr _ e
  rw [World.cell?_of_block (a := ⟨b, off + j * 2, none⟩) (g.block b hlt hb), World.cell?_of_block (a := ⟨b, off + j * 2 + 1, none⟩) (g.block b hlt hb)]
  exact ⟨h1, h2⟩
theorem Mks.below {w w' : World} {A : Option Addr} {ks : List Mk} (h : Mks w A ks) (hb : Below w.heap.size w w') : Mks w' A ks := h.grown (gb_below none hb) (by simp)
/-- The first marks of a slice. -/
theorem Mks.take {w : World} {A : Option Addr} {ks : List Mk} (h : Mks w A ks) (n : Nat) : Mks w A (ks.take n) := fun h0 => by
  rw [List.length_take] at h0
  obtain ⟨b, off, e, hb, hc⟩ := h (by omega)
  refine ⟨b, off, e, hb, fun j k hj => hc j k ?_⟩
  rw [List.getElem?_take] at hj
  split at hj
  · exact hj
  · cases hj
/-- The marks of a slice from n on. -/
theorem Mks.drop {w : World} {A : Option Addr} {ks : List Mk} (h : Mks w A ks) (n : Nat) {c : Nat} (hc : ks.length ≤ c) : Mks w (if c = n then A else A.map (·.add (n * 2))) (ks.drop n) := fun h0 => by
  rw [List.length_drop] at h0
  obtain ⟨b, off, e, hb, hcell⟩ := h (by omega)
  rw [if_neg (by omega), e]
  refine ⟨b, off + n * 2, by rw [Option.map_some, add_plain], hb, fun j k hj => ?_⟩
  rw [List.getElem?_drop] at hj
  have := hcell _ _ hj
  rw [show off + n * 2 + j * 2 = off + (n + j) * 2 by omega]
  exact this
/-- The cells of marks, one behind the other. -/
def mrows (l : List Mk) : List Value := l.flatMap fun k => [.int .i64 k.name, .int .i64 k.at_]
theorem mrows_append (a b : List Mk) : mrows (a ++ b) = mrows a ++ mrows b := by simp [mrows]
theorem mrows_length (l : List Mk) : (mrows l).length = l.length * 2 := by
  induction l with
  | nil => rfl
  | cons x r ih =>
    show (mrows r).length + 1 + 1 = _
    rw [ih, List.length_cons]; omega
theorem mrows_get : ∀ {l : List Mk} {j : Nat} {k : Mk}, l[j]? = some k → (mrows l)[j * 2]? = some (.int .i64 k.name) ∧ (mrows l)[j * 2 + 1]? = some (.int .i64 k.at_)
  | [], _, _, h => by simp at h
  | x :: r, 0, k, h => by
    simp only [List.getElem?_cons_zero, Option.some.injEq] at h
    subst h
    exact ⟨rfl, rfl⟩
  | x :: r, j + 1, k, h => by
    have ih := mrows_get (l := r) (j := j) (by simpa using h)
    have e : mrows (x :: r) = .int .i64 x.name :: .int .i64 x.at_ :: mrows r := rfl
    rw [e, show (j + 1) * 2 = j * 2 + 1 + 1 by omega]
    exact ih
theorem mrows_one {l : List Mk} : ∀ v ∈ mrows l, v.oneCell' = true := by
  intro v hv
  simp only [mrows, List.mem_flatMap, List.mem_cons, List.not_mem_nil, or_false] at hv
  obtain ⟨k, _, rfl | rfl⟩ := hv <;> rfl
/-- What a slice's cells hold, by their number. -/
theorem Mks.rows {w : World} {b off : Nat} {ks : List Mk} (h : Mks w (some ⟨b, off, none⟩) ks) : ∀ (j : Nat) (v : Value), (mrows ks)[j]? = some v → w.cell? ((⟨b, off, none⟩ : Addr).add j) = some v := fun j v hj => by
  have hlt : j < ks.length * 2 := by have := (List.getElem?_eq_some_iff.1 hj).1; rwa [mrows_length] at this
  obtain ⟨k, hk⟩ : ∃ k, ks[j / 2]? = some k := ⟨_, List.getElem?_eq_getElem (by omega)⟩
  obtain ⟨b', off', e, hb, hc⟩ := h (by omega)
  injection e with e
  injection e with e1 e2 _
  subst e1 e2
  obtain ⟨h1, h2⟩ := hc _ _ hk
  obtain ⟨r1, r2⟩ := mrows_get hk
  rw [add_plain]
  rcases Nat.mod_two_eq_zero_or_one j with hm | hm
  · rw [show j / 2 * 2 = j by omega] at h1 r1
    rw [r1] at hj
    injection hj with hj
    rw [← hj]; exact h1
  · rw [show off + j / 2 * 2 + 1 = off + j by omega] at h2
    rw [show j / 2 * 2 + 1 = j by omega] at r2
    rw [r2] at hj
    injection hj with hj
    rw [← hj]; exact h2
theorem info_mark : (Try.prog.info? 44).map (fun i => (i.zero, i.size, i.bytes)) = some (some (.agg #[.int .i64 0, .int .i64 0]), 2, 16) := by kernel_rfl
/-- Marks that the call has laid. -/
theorem own_mks {w : World} {B : Nat} {e : TypeId} {A : Option Addr} {n c : Nat} {l : List Mk} (h : w.ownsRow B e 2 (.slice A n c) n (mrows l)) (hn : l.length = n) : Mks w A l ∧ n ≤ c := by
  rcases h.2 with ⟨hv, h1⟩ | ⟨g, cap, cur, hv, _, hh, hnc, _⟩
  · injection hv with e1 e2 e3
    exact ⟨fun h0 => by omega, by omega⟩
  · injection hv with e1 e2 e3
    subst e1 e3
    refine ⟨fun h0 => ?_, hnc⟩
    have hc := h.cells (g := g) rfl
    have hp : ∀ j, (⟨g, 0, none⟩ : Addr).add j = ⟨g, 0 + j, none⟩ := fun j => add_plain g 0 j
    refine ⟨g, 0, rfl, Blk.lt (w := w) hh, fun j k hj => ?_⟩
    obtain ⟨h1, h2⟩ := mrows_get hj
    exact ⟨by rw [← hp]; exact hc _ _ h1, by rw [Nat.add_assoc, ← hp]; exact hc _ _ h2⟩
/-- One mark, as a block that has just been laid holds it. -/
theorem mks_one (w : World) (k : Mk) (t : TypeId) : Mks (w.alloc (.cells k.vals t)) (some ⟨w.heap.size, 0, none⟩) [k] := fun _ => by
  refine ⟨_, _, rfl, by simp, fun j x hx => ?_⟩
  have hb := Blk.new w t k.vals
  match j, hx with
  | 0, hx =>
    simp only [List.getElem?_cons_zero, Option.some.injEq] at hx
    subst hx
    exact ⟨hb.cell 0, hb.cell 1⟩
/-- Two marks, as a block that has just been laid holds them. -/
theorem mks_two (w : World) (k l : Mk) (t : TypeId) : Mks (w.alloc (.cells #[.int .i64 k.name, .int .i64 k.at_, .int .i64 l.name, .int .i64 l.at_] t)) (some ⟨w.heap.size, 0, none⟩) [k, l] := fun _ => by
  refine ⟨_, _, rfl, by simp, fun j x hx => ?_⟩
  have hb := Blk.new w t #[.int .i64 k.name, .int .i64 k.at_, .int .i64 l.name, .int .i64 l.at_]
  match j, hx with
  | 0, hx =>
    simp only [List.getElem?_cons_zero, Option.some.injEq] at hx
    subst hx
    exact ⟨hb.cell 0, hb.cell 1⟩
  | 1, hx =>
    simp only [List.getElem?_cons_succ, List.getElem?_cons_zero, Option.some.injEq] at hx
    subst hx
    exact ⟨hb.cell 2, hb.cell 3⟩
/-- An answer of marks. -/
def MksIs (l : List Mk) (w : World) (e : Ending) (w' : World) : Prop := ∃ (A : Option Addr) (c : Nat), e = .returned (.slice A l.length c) ∧ Mks w' A l ∧ l.length ≤ c ∧ Below w.heap.size w w'
section
open Go.ChangeShapes Go.WideShapes Go.ChangeAt Go.Deep
theorem cells_mark : Try.prog.cellsOf 44 = 2 := by kernel_rfl
def mkOf (a b : Option Value) : Mk := ⟨match a with | some (.int _ n) => n | _ => 0, match b with | some (.int _ n) => n | _ => 0⟩
theorem open_mks {H : Type} {enc : TypeId × Value → H} {W : World} {base : Nat} {v : Value} {d : DataW H} {p : List MemPlace} (ho : Value.okWide Try.prog W .any base 22 v)
    (h : DataW.Trod enc Try.prog W 0 (fun _ => true) true 22 v d p) (hl : ∀ x ∈ p, x.block < W.heap.size) :
    ∃ (A : Option Addr) (c : Nat) (ks : List Mk), v = .slice A ks.length c ∧ Mks W A ks ∧ ks.length ≤ c ∧ c ≤ maxLen := by
  obtain ⟨a0, len, cap, rfl⟩ := okWide_slice Try.underlying22 ho
  obtain ⟨fuel, hf⟩ := h
  rcases open_slice_fields Try.underlying22 (Try.underlying44) (by kernel_rfl) cells_mark hf with ⟨hcs, hx⟩ | ⟨a, len', cap', m, D, Pl, hcs, _, hl', hm, hmm, hx, hi⟩
  · simp [Value.cells] at hcs
    obtain ⟨rfl, rfl, rfl⟩ := hcs
    exact ⟨none, 0, [], rfl, fun h0 => absurd h0 (by simp), by simp, by simp⟩
  · simp [Value.cells] at hcs
    obtain ⟨rfl, rfl, rfl⟩ := hcs
    simp only [Prod.mk.injEq] at hx
    obtain ⟨rfl, rfl⟩ := hx
    simp only [if_true] at hmm
    subst hmm
    have each : ∀ i, i < len → ∃ (k l : Int), W.cell? (a.add (i * 2)) = some (.int .i64 k) ∧ W.cell? (a.add (i * 2 + 1)) = some (.int .i64 l) := fun i hlt => by
      obtain ⟨ys, n, hD, _, hlen, hf⟩ := hi i (by omega)
      obtain ⟨v0, y0, hc0, hy0, ht0⟩ := hf 0 _ rfl
      obtain ⟨v1, y1, hc1, hy1, ht1⟩ := hf 1 _ rfl
      obtain ⟨x0, e0, _, _⟩ := DataW.trod_int Try.underlying3 ht0
      obtain ⟨x1, e1, _, _⟩ := DataW.trod_int Try.underlying3 ht1
      simp at e0 e1
      subst e0 e1
      exact ⟨x0, x1, hc0, hc1⟩
    have get : ∀ j, j < len → ∃ k, ((List.range len).map fun i => mkOf (W.cell? (a.add (i * 2))) (W.cell? (a.add (i * 2 + 1))))[j]? = some k ∧
        (W.cell? (a.add (j * 2)) = some (.int .i64 k.name) ∧ W.cell? (a.add (j * 2 + 1)) = some (.int .i64 k.at_)) := fun j hj => by
      obtain ⟨k, l, h0, h1⟩ := each j hj
      refine ⟨⟨k, l⟩, ?_, h0, h1⟩
      rw [List.getElem?_map, List.getElem?_range hj]
      simp only [Option.map_some, h0, h1, mkOf]
    refine ⟨some a, m, (List.range len).map fun i => mkOf (W.cell? (a.add (i * 2))) (W.cell? (a.add (i * 2 + 1))), by simp, fun h0 => ?_, by simp; omega, hm⟩
    simp only [List.length_map, List.length_range] at h0
    obtain ⟨k0, l0, hk0, _⟩ := each 0 h0
    have hspot : a.spot = none := by
      have := World.cell?_spot hk0
      simpa [Addr.add] using this
    obtain ⟨b, off, spot⟩ := a
    simp only at hspot
    subst hspot
    have hb : b < W.heap.size := by
      have hm0 : MemPlace.cell b off ∈ MemPlace.row ⟨b, off, none⟩ (m * #[1, 2].size) ++ (List.range m).flatMap Pl := List.mem_append_left _ (MemPlace.mem_row.2 ⟨0, by simp; omega, by simp⟩)
      exact hl _ hm0
    refine ⟨b, off, rfl, hb, fun j k hj => ?_⟩
    have hjl : j < len := by
      rcases Nat.lt_or_ge j len with h' | h'
      · exact h'
      · rw [List.getElem?_eq_none (by simpa using h')] at hj; cases hj
    obtain ⟨k', e1, e2, e3⟩ := get j hjl
    rw [e1] at hj
    injection hj with hj
    subst hj
    rw [add_plain] at e2 e3
    exact ⟨e2, by rw [← Nat.add_assoc] at e3; exact e3⟩
end
end Go.Proofs.Ytcpnaanknheekaa
