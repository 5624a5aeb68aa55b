/-
  A list of changes that comes in, cell by cell.
-/
import Derived.Test.YtchpkeelnfmlbaaGreatWants
import Derived.SizedLaws
namespace Go.Proofs.YtchpkeelnfmlbaaGreat
open Go.RowKit
set_option maxRecDepth 100000
/-- A change: where, what goes, what comes. -/
structure Cg where
  at_ : Int
  old : ByteArray
  new : ByteArray
def Cg.vals (k : Cg) : Array Value := #[.int .i64 k.at_, .string k.old, .string k.new]
/-- A slice at A holds these changes, three cells each. -/
def Cgs (w : World) (A : Option Addr) (ks : List Cg) : Prop := 0 < ks.length → ∃ b off, A = some ⟨b, off, none⟩ ∧ b < w.heap.size ∧
  ∀ (j : Nat) (k : Cg), ks[j]? = some k → w.cell? ⟨b, off + j * 3, none⟩ = some (.int .i64 k.at_) ∧ w.cell? ⟨b, off + j * 3 + 1, none⟩ = some (.string k.old) ∧ w.cell? ⟨b, off + j * 3 + 2, none⟩ = some (.string k.new)
theorem Cgs.at_ {w w' : World} {A : Option Addr} {ks : List Cg} (h : Cgs w A ks) {B : Nat} (hb : Below B w w') (hB : w.heap.size ≤ B) {j : Nat} {k : Cg} (hj : ks[j]? = some k) :
    ∃ b off, A = some ⟨b, off, none⟩ ∧ b < w.heap.size ∧ w'.cell? ⟨b, off + j * 3, none⟩ = some (.int .i64 k.at_) ∧ w'.cell? ⟨b, off + j * 3 + 1, none⟩ = some (.string k.old) ∧ w'.cell? ⟨b, off + j * 3 + 2, none⟩ = some (.string k.new) := by
  obtain ⟨b, off, e, hlt, hc⟩ := h (by have := (List.getElem?_eq_some_iff.1 hj).1; omega)
  obtain ⟨h0, h1, h2⟩ := hc j _ hj
  have hl : b < B := by omega
  exact ⟨b, off, e, hlt, (hb.cell (p := ⟨b, off + j * 3, none⟩) hl).trans h0, (hb.cell (p := ⟨b, off + j * 3 + 1, none⟩) hl).trans h1, (hb.cell (p := ⟨b, off + j * 3 + 2, none⟩) hl).trans h2⟩
theorem Cgs.below {w w' : World} {A : Option Addr} {ks : List Cg} (h : Cgs w A ks) (hb : Below w.heap.size w w') : Cgs w' A ks := fun h0 => by
  obtain ⟨b, off, e, hlt, hc⟩ := h h0
  refine ⟨b, off, e, Nat.lt_of_lt_of_le hlt hb.size, fun j k hj => ?_⟩
  obtain ⟨h1, h2, h3⟩ := hc j k hj
  exact ⟨(hb.cell (p := ⟨b, off + j * 3, none⟩) hlt).trans h1, (hb.cell (p := ⟨b, off + j * 3 + 1, none⟩) hlt).trans h2, (hb.cell (p := ⟨b, off + j * 3 + 2, none⟩) hlt).trans h3⟩
/-- One change, as a block that has just been laid holds it. -/
theorem cgs_one (w : World) (k : Cg) (t : TypeId) : Cgs (w.alloc (.cells k.vals t)) (some ⟨w.heap.size, 0, none⟩) [k] := fun _ => by
  refine ⟨_, _, rfl, by simp, fun j x hx => ?_⟩
  have hb := Blk.new w t k.vals
  match j, hx with
  | 0, hx =>
    simp only [List.getElem?_cons_zero, Option.some.injEq] at hx
    subst hx
    exact ⟨hb.cell 0, hb.cell 1, hb.cell 2⟩
/-- How many bytes changes bear, all together. -/
def weigh (ks : List Cg) : Nat := (ks.map fun k => k.old.size + k.new.size).sum
theorem weigh_snoc {ks : List Cg} {j : Nat} {k : Cg} (h : ks[j]? = some k) : weigh (ks.take (j + 1)) = weigh (ks.take j) + k.old.size + k.new.size := by
  obtain ⟨hj, rfl⟩ := List.getElem?_eq_some_iff.1 h
  unfold weigh
  rw [List.take_succ_eq_append_getElem hj, List.map_append, List.sum_append]
  simp; omega
theorem weigh_le {ks : List Cg} {m : Nat} (h : ∀ k ∈ ks, k.old.size ≤ m ∧ k.new.size ≤ m) : weigh ks ≤ ks.length * (2 * m) := by
  unfold weigh
  induction ks with
  | nil => simp
  | cons x r ih =>
    have h1 := h x (by simp)
    have h2 := ih (fun k hk => h k (by simp [hk]))
    simp only [List.map_cons, List.sum_cons, List.length_cons, Nat.add_mul, Nat.one_mul]
    omega
theorem weigh_take (ks : List Cg) (j : Nat) : weigh (ks.take j) ≤ weigh ks := by
  have e : weigh ks = weigh (ks.take j) + weigh (ks.drop j) := by
    unfold weigh
    rw [← List.sum_append, ← List.map_append, List.take_append_drop]
  omega
theorem weightsAll_mem {H : Type} {P : Program} {e : TypeId} : ∀ {l : List (DataW H)} {d : DataW H}, d ∈ l → ∀ n ∈ d.weights P e, n ∈ DataW.weightsAll P e l
  | x :: r, d, hd, n, hn => by
    simp only [DataW.weightsAll, List.mem_append]
    rcases List.mem_cons.1 hd with rfl | h
    · exact Or.inl hn
    · exact Or.inr (weightsAll_mem h n hn)
theorem add_plain (b off i : Nat) : (⟨b, off, none⟩ : Addr).add i = ⟨b, off + i, none⟩ := by unfold Addr.add; split <;> simp_all
section
open Go.ChangeShapes Go.WideShapes Go.ChangeAt Go.Deep
def cgOf (a b c : Option Value) : Cg := ⟨match a with | some (.int _ n) => n | _ => 0, match b with | some (.string s) => s | _ => .empty, match c with | some (.string s) => s | _ => .empty⟩
end
end Go.Proofs.YtchpkeelnfmlbaaGreat
