/-
  A list of registers, cell by cell: as it comes in, parts of it, as a call lays it.
-/
import Derived.Test.YtchpkeelnfmlbaaGreatCgs
import Derived.Deep.Slices
namespace Go.Proofs.YtchpkeelnfmlbaaGreat
open Go.RowKit
/-- A register: its name, whether its text is whole lines, and its text. -/
structure Rg where
  name : Int
  lines : Bool
  text : ByteArray
  deriving DecidableEq
def Rg.row (k : Rg) : List Value := [.int .i64 k.name, .bool k.lines, .string k.text]
def Rg.vals (k : Rg) : Array Value := #[.int .i64 k.name, .bool k.lines, .string k.text]
/-- The three cells of a register. -/
def RgAt (w : World) (b o : Nat) (k : Rg) : Prop :=
  w.cell? ⟨b, o, none⟩ = some (.int .i64 k.name) ∧ w.cell? ⟨b, o + 1, none⟩ = some (.bool k.lines) ∧ w.cell? ⟨b, o + 2, none⟩ = some (.string k.text)
theorem RgAt.of_block {w w' : World} {b o : Nat} {k : Rg} (h : RgAt w b o k) (e : w'.heap[b]? = w.heap[b]?) : RgAt w' b o k := by
  obtain ⟨h0, h1, h2⟩ := h
  have c : ∀ i, w'.cell? ⟨b, i, none⟩ = w.cell? ⟨b, i, none⟩ := fun i => World.cell?_of_block (a := ⟨b, i, none⟩) e
  exact ⟨(c _).trans h0, (c _).trans h1, (c _).trans h2⟩
/-- A slice at A holds these registers, three cells each. -/
def Rgs (w : World) (A : Option Addr) (l : List Rg) : Prop := 0 < l.length → ∃ b off, A = some ⟨b, off, none⟩ ∧ b < w.heap.size ∧ ∀ (j : Nat) (k : Rg), l[j]? = some k → RgAt w b (off + j * 3) k
theorem Rgs.nil (w : World) (A : Option Addr) : Rgs w A [] := fun h => absurd h (by simp)
theorem Rgs.at_ {w w' : World} {A : Option Addr} {l : List Rg} (h : Rgs w A l) {B : Nat} (hb : Below B w w') (hB : w.heap.size ≤ B) {j : Nat} {k : Rg} (hj : l[j]? = some k) :
    ∃ b off, A = some ⟨b, off, none⟩ ∧ b < w.heap.size ∧ w'.cell? ⟨b, off + j * 3, none⟩ = some (.int .i64 k.name) ∧ w'.cell? ⟨b, off + j * 3 + 1, none⟩ = some (.bool k.lines) ∧ w'.cell? ⟨b, off + j * 3 + 2, none⟩ = some (.string k.text) := by
  obtain ⟨b, off, e, hlt, hc⟩ := h (by have := (List.getElem?_eq_some_iff.1 hj).1; omega)
  exact ⟨b, off, e, hlt, (hc j _ hj).of_block (hb.block b (by omega))⟩
theorem Rgs.addr {w : World} {A : Option Addr} {l : List Rg} (h : Rgs w A l) (h0 : 0 < l.length) : ∃ b off, A = some ⟨b, off, none⟩ ∧ b < w.heap.size ∧ ∀ w' B, Below B w w' → w.heap.size ≤ B → ∀ (j : Nat) (k : Rg), l[j]? = some k → RgAt w' b (off + j * 3) k := by
  obtain ⟨b, off, e, hlt, hc⟩ := h h0
  exact ⟨b, off, e, hlt, fun w' B hb hB j k hj => (hc j k hj).of_block (hb.block b (by omega))⟩
theorem Rgs.grown {w w' : World} {A : Option Addr} {l : List Rg} {r : Option Nat} (h : Rgs w A l) (g : w.grownBy w' r) (hr : ∀ ad, A = some ad → some ad.block ≠ r) : Rgs w' A l := fun h0 => by
  obtain ⟨b, off, e, hlt, hc⟩ := h h0
  exact ⟨b, off, e, Nat.lt_of_lt_of_le hlt g.size, fun j k hj => (hc j k hj).of_block (g.block b hlt (hr _ e))⟩
theorem Rgs.below {w w' : World} {A : Option Addr} {l : List Rg} (h : Rgs w A l) (hb : Below w.heap.size w w') : Rgs w' A l := h.grown (gb_below none hb) (by simp)
/-- The cells of registers, one behind the other. -/
def rrows (l : List Rg) : List Value := l.flatMap Rg.row
theorem rrows_append (a b : List Rg) : rrows (a ++ b) = rrows a ++ rrows b := by simp [rrows]
theorem rrows_length (l : List Rg) : (rrows l).length = l.length * 3 := by
  induction l with
  | nil => rfl
  | cons x r ih =>
    show (rrows r).length + 1 + 1 + 1 = _
    rw [ih, List.length_cons]; omega
theorem rrows_get : ∀ {l : List Rg} {j : Nat} {k : Rg}, l[j]? = some k → ∀ i v, k.row[i]? = some v → (rrows l)[j * 3 + i]? = some v
  | [], _, _, h => by simp at h
  | x :: r, 0, k, h => by
    simp only [List.getElem?_cons_zero, Option.some.injEq] at h
    subst h
    intro i v hv
    have hi : i < x.row.length := (List.getElem?_eq_some_iff.1 hv).1
    show (x.row ++ rrows r)[0 * 3 + i]? = _
    rw [Nat.zero_mul, Nat.zero_add, List.getElem?_append_left hi]
    exact hv
  | x :: r, j + 1, k, h => by
    intro i v hv
    have ih := rrows_get (l := r) (j := j) (by simpa using h) i v hv
    show (x.row ++ rrows r)[(j + 1) * 3 + i]? = _
    rw [List.getElem?_append_right (by show x.row.length ≤ _; show 3 ≤ _; omega)]
    rw [show (j + 1) * 3 + i - x.row.length = j * 3 + i by show _ - 3 = _; omega]
    exact ih
theorem Rg.row_one (k : Rg) : ∀ v ∈ k.row, v.oneCell' = true := by
  intro v hv
  simp only [Rg.row, List.mem_cons, List.not_mem_nil, or_false] at hv
  rcases hv with rfl | rfl | rfl <;> rfl
theorem rrows_one {l : List Rg} : ∀ v ∈ rrows l, v.oneCell' = true := by
  intro v hv
  obtain ⟨k, _, hk⟩ := List.mem_flatMap.1 hv
  exact k.row_one v hk
theorem rrows_take (l : List Rg) (i : Nat) : (rrows l).take (i * 3) = rrows (l.take i) := by
  induction l generalizing i with
  | nil => simp [rrows]
  | cons x r ih =>
    cases i with
    | zero => simp [rrows]
    | succ i =>
      show (x.row ++ rrows r).take ((i + 1) * 3) = x.row ++ rrows (r.take i)
      rw [List.take_append, List.take_of_length_le (by show 3 ≤ _; omega), ← ih]
      congr 2
      show (i + 1) * 3 - 3 = _
      omega
theorem rrows_drop (l : List Rg) (i : Nat) : (rrows l).drop (i * 3) = rrows (l.drop i) := by
  induction l generalizing i with
  | nil => simp [rrows]
  | cons x r ih =>
    cases i with
    | zero => simp [rrows]
    | succ i =>
      show (x.row ++ rrows r).drop ((i + 1) * 3) = rrows (r.drop i)
      rw [List.drop_append, List.drop_of_length_le (by show 3 ≤ _; omega), ← ih, List.nil_append]
      congr 1
      show (i + 1) * 3 - 3 = _
      omega
/-- What a slice's cells hold, by their number. -/
theorem Rgs.rows {w : World} {b off : Nat} {l : List Rg} (h : Rgs w (some ⟨b, off, none⟩) l) : ∀ (j : Nat) (v : Value), (rrows l)[j]? = some v → w.cell? ((⟨b, off, none⟩ : Addr).add j) = some v := fun j v hj => by
  have hlt : j < l.length * 3 := by have := (List.getElem?_eq_some_iff.1 hj).1; rwa [rrows_length] at this
  obtain ⟨k, hk⟩ : ∃ k, l[j / 3]? = some k := ⟨_, List.getElem?_eq_getElem (by omega)⟩
  obtain ⟨b', off', e, hb, hc⟩ := h (by omega)
  injection e with e
  injection e with e1 e2 _
  subst e1 e2
  obtain ⟨h0, h1, h2⟩ := hc _ _ hk
  have g := rrows_get hk
  rw [add_plain]
  have hm : j % 3 < 3 := Nat.mod_lt _ (by omega)
  have hj' : j = j / 3 * 3 + j % 3 := by omega
  rw [hj'] at hj ⊢
  rw [← Nat.add_assoc]
  generalize j % 3 = i at hm hj ⊢
  have fin : ∀ u, w.cell? ⟨b, off + j / 3 * 3 + i, none⟩ = some u → k.row[i]? = some u → w.cell? ⟨b, off + j / 3 * 3 + i, none⟩ = some v := fun u h h' => by
    rw [g i u h'] at hj
    rw [h, hj]
  match i, hm with
  | 0, _ => exact fin _ h0 rfl
  | 1, _ => exact fin _ h1 rfl
  | 2, _ => exact fin _ h2 rfl
theorem Rgs.rows_any {w : World} {ad : Addr} {l : List Rg} (h : Rgs w (some ad) l) : ∀ (j : Nat) (v : Value), (rrows l)[j]? = some v → w.cell? (ad.add j) = some v := fun j v hj => by
  by_cases h0 : 0 < l.length
  · obtain ⟨b, off, e, _⟩ := h h0
    injection e with e
    subst e
    exact h.rows j v hj
  · have : l = [] := List.eq_nil_of_length_eq_zero (by omega)
    subst this
    simp [rrows] at hj
/-- Registers that the call has laid. -/
theorem own_rgs {w : World} {B : Nat} {e : TypeId} {A : Option Addr} {n c : Nat} {l : List Rg} (h : w.ownsRow B e 3 (.slice A n c) n (rrows l)) (hn : l.length = n) : Rgs w A l ∧ n ≤ c := by
  rcases h.2 with ⟨hv, h1⟩ | ⟨g, cap, cur, hv, _, hh, hnc, _⟩
  · injection hv with e1 e2 e3
    exact ⟨fun h0 => by omega, by omega⟩
  · injection hv with e1 e2 e3
    subst e1 e3
    refine ⟨fun h0 => ?_, hnc⟩
    have hc := h.cells (g := g) rfl
    have hp : ∀ j, (⟨g, 0, none⟩ : Addr).add j = ⟨g, 0 + j, none⟩ := fun j => add_plain g 0 j
    refine ⟨g, 0, rfl, Blk.lt (w := w) hh, fun j k hj => ?_⟩
    have r := rrows_get hj
    have one : ∀ i v, k.row[i]? = some v → w.cell? ⟨g, 0 + j * 3 + i, none⟩ = some v := fun i v hv => by rw [Nat.add_assoc, ← hp]; exact hc _ _ (r i v hv)
    exact ⟨one 0 _ rfl, one 1 _ rfl, one 2 _ rfl⟩
/-- One register, as a block that has just been laid holds it. -/
theorem rgs_one (w : World) (k : Rg) (t : TypeId) : Rgs (w.alloc (.cells k.vals t)) (some ⟨w.heap.size, 0, none⟩) [k] := fun _ => by
  refine ⟨_, _, rfl, by simp, fun j x hx => ?_⟩
  have hb := Blk.new w t k.vals
  match j, hx with
  | 0, hx =>
    simp only [List.getElem?_cons_zero, Option.some.injEq] at hx
    subst hx
    exact ⟨hb.cell 0, hb.cell 1, hb.cell 2⟩
/-- Two registers, as a block that has just been laid holds them. -/
theorem rgs_two (w : World) (k l : Rg) (t : TypeId) : Rgs (w.alloc (.cells #[.int .i64 k.name, .bool k.lines, .string k.text, .int .i64 l.name, .bool l.lines, .string l.text] t)) (some ⟨w.heap.size, 0, none⟩) [k, l] := fun _ => by
  refine ⟨_, _, rfl, by simp, fun j x hx => ?_⟩
  have hb := Blk.new w t #[.int .i64 k.name, .bool k.lines, .string k.text, .int .i64 l.name, .bool l.lines, .string l.text]
  match j, hx with
  | 0, hx =>
    simp only [List.getElem?_cons_zero, Option.some.injEq] at hx
    subst hx
    exact ⟨hb.cell 0, hb.cell 1, hb.cell 2⟩
  | 1, hx =>
    simp only [List.getElem?_cons_succ, List.getElem?_cons_zero, Option.some.injEq] at hx
    subst hx
    exact ⟨hb.cell 3, hb.cell 4, hb.cell 5⟩
section
open Go.ChangeShapes Go.WideShapes Go.ChangeAt Go.Deep
def rgOf (a b c : Option Value) : Rg := ⟨match a with | some (.int _ n) => n | _ => 0, match b with | some (.bool s) => s | _ => false, match c with | some (.string s) => s | _ => .empty⟩
end
end Go.Proofs.YtchpkeelnfmlbaaGreat
