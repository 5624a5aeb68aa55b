/-
  Cells of a row that is known whole: copied over, cleared, appended to; of no program.
-/
import Derived.Test.YtopplkfbnpamdaaBase
import Derived.Laws.CopyOwn
import Derived.Lib.AppendZeros
import Derived.Lib.AppendZerosOnto
import Derived.Lib.Overlaps
import Derived.Laws.OwnMore
import Derived.OwnWalk
namespace Go.Proofs.Ytopplkfbnpamdaa
open Go.RowKit
theorem splice_get? {α : Type} (L : List α) (off : Nat) (cs : List α) (h : off + cs.length ≤ L.length) (t : Nat) :
    (splice L off cs)[t]? = if off ≤ t ∧ t < off + cs.length then cs[t - off]? else L[t]? := by
  unfold splice
  have l1 : (L.take off).length = off := by rw [List.length_take]; omega
  by_cases c1 : t < off
  · rw [if_neg (by omega), List.getElem?_append_left (by omega), List.getElem?_take, if_pos c1]
  · rw [List.getElem?_append_right (by omega), l1]
    by_cases c2 : t < off + cs.length
    · rw [if_pos ⟨by omega, c2⟩, List.getElem?_append_left (by omega)]
    · rw [if_neg (by omega), List.getElem?_append_right (by omega), List.getElem?_drop]
      congr 1
      omega
/-- Filled from the left: what stands at i, then what stands behind that. -/
theorem splice_left {α : Type} (L : List α) (i : Nat) (vs ys : List α) (h : i + vs.length + ys.length ≤ L.length) :
    (splice (splice L i vs) (i + vs.length) ys).take (i + vs.length + ys.length) = L.take i ++ (vs ++ ys) := by
  have hl := length_splice L i vs (by omega)
  apply List.ext_getElem?
  intro t
  rw [List.getElem?_take]
  have l1 : (L.take i).length = i := by rw [List.length_take]; omega
  by_cases c1 : t < i
  · rw [if_pos (by omega), splice_get? _ _ _ (by omega), if_neg (by omega), splice_get? _ _ _ (by omega), if_neg (by omega), List.getElem?_append_left (by omega), List.getElem?_take, if_pos c1]
  · rw [List.getElem?_append_right (by omega), l1]
    by_cases c2 : t < i + vs.length
    · rw [if_pos (by omega), splice_get? _ _ _ (by omega), if_neg (by omega), splice_get? _ _ _ (by omega), if_pos (by omega), List.getElem?_append_left (by omega)]
    · rw [List.getElem?_append_right (by omega)]
      by_cases c3 : t < i + vs.length + ys.length
      · rw [if_pos c3, splice_get? _ _ _ (by omega), if_pos (by omega)]
        congr 1; omega
      · rw [if_neg c3, List.getElem?_eq_none (by omega)]
/-- Filled from the right: what stands behind it first. -/
theorem splice_right {α : Type} (L : List α) (i : Nat) (vs ys : List α) (h : i + vs.length + ys.length ≤ L.length) :
    (splice (splice L (i + vs.length) ys) i vs).take (i + vs.length + ys.length) = L.take i ++ (vs ++ ys) := by
  have hl := length_splice L (i + vs.length) ys (by omega)
  apply List.ext_getElem?
  intro t
  rw [List.getElem?_take]
  have l1 : (L.take i).length = i := by rw [List.length_take]; omega
  by_cases c1 : t < i
  · rw [if_pos (by omega), splice_get? _ _ _ (by omega), if_neg (by omega), splice_get? _ _ _ (by omega), if_neg (by omega), List.getElem?_append_left (by omega), List.getElem?_take, if_pos c1]
  · rw [List.getElem?_append_right (by omega), l1]
    by_cases c2 : t < i + vs.length
    · rw [if_pos (by omega), splice_get? _ _ _ (by omega), if_pos (by omega), List.getElem?_append_left (by omega)]
    · rw [List.getElem?_append_right (by omega)]
      by_cases c3 : t < i + vs.length + ys.length
      · rw [if_pos c3, splice_get? _ _ _ (by omega), if_neg (by omega), splice_get? _ _ _ (by omega), if_pos (by omega)]
        congr 1; omega
      · rw [if_neg c3, List.getElem?_eq_none (by omega)]
theorem splice_take {α : Type} (L : List α) (k : Nat) (zs : List α) (h : k + zs.length ≤ L.length) : (splice L k zs).take k = L.take k := by
  apply List.ext_getElem?
  intro t
  rw [List.getElem?_take, List.getElem?_take]
  split
  · rw [splice_get? _ _ _ h, if_neg (by omega)]
  · rfl
theorem gb_setRow (w : World) (g : Nat) (cs : Array Value) : w.grownBy (w.setRow g cs) (some g) :=
  ⟨rfl, rfl, rfl, by simp [World.setRow], fun k _ hk => setRow_other w g k cs (fun e => hk (by rw [e]))⟩
theorem run_copy_splice {P : Program} (w : World) (dT sT ty elem : TypeId) (hu : P.underlying dT = some (.slice elem)) (hsz : (P.info? elem).map (·.size) = some 1)
    (dp sp : Option Addr) (dLen dCap sLen sCap : Nat) (g off : Nat) (cur : List Value) (t : TypeId) (hg : w.heap[g]? = some (.cells cur.toArray t (0, 0))) (cs : List Value) (hn : cs.length = Nat.min sLen dLen)
    (hpos : 0 < cs.length → dp = some ⟨g, off, none⟩ ∧ ∃ ad, sp = some ad ∧ ∀ j v, cs[j]? = some v → w.cell? (ad.add j) = some v)
    (hfit : off + cs.length ≤ cur.length) (h1 : ∀ v ∈ cs, v.oneCell' = true) :
    ∃ w', (Builtin.copy_ #[dT, sT] ty #[.slice dp dLen dCap, .slice sp sLen sCap]).run P w = .ok (goInt cs.length) w' ∧ w'.heap[g]? = some (.cells (splice cur off cs).toArray t (0, 0)) ∧ w.grownBy w' (some g) := by
  by_cases h0 : cs.length = 0
  · obtain rfl : cs = [] := List.eq_nil_of_length_eq_zero h0
    exact ⟨w, run_copy_none (P := P) w dT sT ty elem dp sp dLen dCap sLen sCap hu hsz (by simpa using hn.symm), by simpa [splice] using hg, ⟨rfl, rfl, rfl, Nat.le_refl _, fun _ _ _ => rfl⟩⟩
  · obtain ⟨rfl, ad, rfl, hsrc⟩ := hpos (by omega)
    refine ⟨_, run_copy_row (P := P) w dT sT ty elem g off dLen dCap ad sLen sCap cur.toArray t cs hu hsz hg hn hsrc (by simpa using hfit) h1, ?_, gb_setRow _ _ _⟩
    simpa [splice] using setRow_heap w g _ _ t _ hg
theorem wpList_copy_g {P : Program} {w : World} {ops : Array Oper} {rest : List Oper} {o : Oper} {a : Act} {Q : Exit → Act → World → Prop} (hgd : o.guard = none) (d s : Operand) (dT sT : TypeId)
    (ho : o.op = .call { callee := .builtin .copy, args := #[d, s], argTypes := #[dT, sT] }) (elem : TypeId) (hu : P.underlying dT = some (.slice elem)) (hsz : (P.info? elem).map (·.size) = some 1)
    (dp sp : Option Addr) (dLen dCap sLen sCap : Nat) (hd : a.eval d = .slice dp dLen dCap) (hs : a.eval s = .slice sp sLen sCap)
    (g off : Nat) (cur : List Value) (t : TypeId) (hg : w.heap[g]? = some (.cells cur.toArray t (0, 0))) (cs : List Value) (hn : cs.length = Nat.min sLen dLen)
    (hpos : 0 < cs.length → dp = some ⟨g, off, none⟩ ∧ ∃ ad, sp = some ad ∧ ∀ j v, cs[j]? = some v → w.cell? (ad.add j) = some v)
    (hfit : off + cs.length ≤ cur.length) (h1 : ∀ v ∈ cs, v.oneCell' = true)
    (h : ∀ w', Hid (w'.heap[g]? = some (.cells (splice cur off cs).toArray t (0, 0))) → w.grownBy w' (some g) → wpList P ops Q rest (a.put o.dst (goInt cs.length)) w') :
    wpList P ops Q (o :: rest) a w := by
  obtain ⟨w', hrun, hb, hgr⟩ := run_copy_splice (P := P) w dT sT o.type elem hu hsz dp sp dLen dCap sLen sCap g off cur t hg cs hn hpos hfit h1
  refine wpList_plain hgd fun K hK => ?_
  unfold Oper.wp
  simp [execOp, ho, resolve, invoke, builtin, hd, hs, hrun, Result.andThen]
  exact hK _ _ (h w' hb hgr)
theorem step_copy_g {P : Program} {ops : Array Oper} {o : Oper} {a : Act} {w : World} {K : Act → World → Prop} {Q : Exit → Act → World → Prop} {E : Prop} (hgd : o.guard = none) (d s : Operand) (dT sT : TypeId)
    (ho : o.op = .call { callee := .builtin .copy, args := #[d, s], argTypes := #[dT, sT] }) (elem : TypeId) (hu : P.underlying dT = some (.slice elem)) (hsz : (P.info? elem).map (·.size) = some 1)
    (dp sp : Option Addr) (dLen dCap sLen sCap : Nat) (hd : a.eval d = .slice dp dLen dCap) (hs : a.eval s = .slice sp sLen sCap)
    (g off : Nat) (cur : List Value) (t : TypeId) (hg : w.heap[g]? = some (.cells cur.toArray t (0, 0))) (cs : List Value) (hn : cs.length = Nat.min sLen dLen)
    (hpos : 0 < cs.length → dp = some ⟨g, off, none⟩ ∧ ∃ ad, sp = some ad ∧ ∀ j v, cs[j]? = some v → w.cell? (ad.add j) = some v)
    (hfit : off + cs.length ≤ cur.length) (h1 : ∀ v ∈ cs, v.oneCell' = true)
    (h : ∀ w', RowKit.Hid (w'.heap[g]? = some (.cells (splice cur off cs).toArray t (0, 0))) → w.grownBy w' (some g) → K (a.put o.dst (goInt cs.length)) w') :
    if Region.wanted o (yielded ops a.tmps) = true then Oper.wp P o a w K Q else E := by
  have hw : Region.wanted o (yielded ops a.tmps) = true := by simp [Region.wanted, hgd]
  rw [if_pos hw]
  obtain ⟨w', hrun, hb, hgr⟩ := run_copy_splice (P := P) w dT sT o.type elem hu hsz dp sp dLen dCap sLen sCap g off cur t hg cs hn hpos hfit h1
  unfold Oper.wp
  simp [execOp, ho, resolve, invoke, builtin, hd, hs, hrun, Result.andThen]
  exact h w' hb hgr
theorem toList_zeroCells1 (z : Value) (n : Nat) (hz : z.cells.size = 1) : (Builtin.zeroCells z.cells n).toList.length = n := by
  have := size_zeroCells z.cells n
  rw [hz] at this
  simpa using this
/-- clear, at the cells from off on of a row. -/
theorem run_clear_g {P : Program} (w : World) (T ty elem : TypeId) (z : Value) (hu : P.underlying T = some (.slice elem)) (hz : (zeroValue elem).run P w = .ok z w) (hz1 : z.cells.size = 1) (hzo : ∀ n, ∀ v ∈ (Builtin.zeroCells z.cells n).toList, v.oneCell' = true)
    (dp : Option Addr) (n c : Nat) (g off : Nat) (cur : List Value) (t : TypeId) (hg : w.heap[g]? = some (.cells cur.toArray t (0, 0))) (hpos : 0 < n → dp = some ⟨g, off, none⟩) (hfit : off + n ≤ cur.length) :
    ∃ w', (Builtin.clear_ #[T] ty #[.slice dp n c]).run P w = .ok (.tuple #[]) w' ∧ w'.heap[g]? = some (.cells (splice cur off (Builtin.zeroCells z.cells n).toList).toArray t (0, 0)) ∧ w.grownBy w' (some g) := by
  cases n with
  | zero =>
    have hnil : (Builtin.zeroCells z.cells 0).toList = [] := List.eq_nil_of_length_eq_zero (toList_zeroCells1 z 0 hz1)
    refine ⟨w, ?_, by rw [hnil]; simpa [splice] using hg, ⟨rfl, rfl, rfl, Nat.le_refl _, fun _ _ _ => rfl⟩⟩
    cases dp <;> simp [Builtin.clear_, run_underlying hu]
  | succ n =>
    obtain rfl := hpos (by omega)
    have hl := toList_zeroCells1 z (n + 1) hz1
    have hst := run_storeCells_at P g off t (Builtin.zeroCells z.cells (n + 1)).toList 0 cur.toArray w hg (by simp only [List.size_toArray]; omega) (hzo _)
    simp only [Nat.add_zero] at hst
    have hst' : (storeCells ⟨g, off, none⟩ (Builtin.zeroCells z.cells (n + 1)).toList).run P w = .ok () (w.setRow g (splice cur off (Builtin.zeroCells z.cells (n + 1)).toList).toArray) := by
      rw [hst]; simp [splice]
    refine ⟨w.setRow g (splice cur off (Builtin.zeroCells z.cells (n + 1)).toList).toArray, ?_, setRow_heap w g _ _ t _ hg, gb_setRow _ _ _⟩
    simp [Builtin.clear_, run_underlying hu, hz, hst']
theorem wpList_clear_g {P : Program} {w : World} {ops : Array Oper} {rest : List Oper} {o : Oper} {a : Act} {Q : Exit → Act → World → Prop} (hgd : o.guard = none) (d : Operand) (T : TypeId)
    (ho : o.op = .call { callee := .builtin .clear, args := #[d], argTypes := #[T] }) (elem : TypeId) (z : Value) (hu : P.underlying T = some (.slice elem)) (hz : ∀ w : World, (zeroValue elem).run P w = .ok z w) (hz1 : z.cells.size = 1) (hzo : ∀ n, ∀ v ∈ (Builtin.zeroCells z.cells n).toList, v.oneCell' = true)
    (dp : Option Addr) (n c : Nat) (hd : a.eval d = .slice dp n c)
    (g off : Nat) (cur : List Value) (t : TypeId) (hg : w.heap[g]? = some (.cells cur.toArray t (0, 0))) (hpos : 0 < n → dp = some ⟨g, off, none⟩) (hfit : off + n ≤ cur.length)
    (h : ∀ w', Hid (w'.heap[g]? = some (.cells (splice cur off (Builtin.zeroCells z.cells n).toList).toArray t (0, 0))) → w.grownBy w' (some g) → wpList P ops Q rest (a.put o.dst (.tuple #[])) w') :
    wpList P ops Q (o :: rest) a w := by
  obtain ⟨w', hrun, hb, hgr⟩ := run_clear_g (P := P) w T o.type elem z hu (hz w) hz1 hzo dp n c g off cur t hg hpos hfit
  refine wpList_plain hgd fun K hK => ?_
  unfold Oper.wp
  simp [execOp, ho, resolve, invoke, builtin, hd, hrun, Result.andThen]
  exact hK _ _ (h w' hb hgr)
/-- A row that is known whole owns its first cells. -/
theorem own_of_row {w : World} {B g n cap : Nat} {e : TypeId} {cur xs : List Value} (hB : B ≤ g) (hg : w.heap[g]? = some (.cells cur.toArray e (0, 0))) (hc : cur.length = cap) (hn : n ≤ cap) (hm : cap ≤ maxLen) (hx : cur.take n = xs) :
    w.ownsRow B e 1 (.slice (some ⟨g, 0, none⟩) n cap) n xs :=
  ⟨by rw [← hx, List.length_take]; omega, .inr ⟨g, cap, cur.toArray, rfl, hB, hg, hn, hm, by simp [hc], by simpa using hx⟩⟩
theorem row_of_own {w : World} {B n cap g : Nat} {e : TypeId} {xs : List Value} (h : w.ownsRow B e 1 (.slice (some ⟨g, 0, none⟩) n cap) n xs) :
    B ≤ g ∧ n ≤ cap ∧ cap ≤ maxLen ∧ xs.length = n ∧ ∃ cur : List Value, w.heap[g]? = some (.cells cur.toArray e (0, 0)) ∧ cur.length = cap ∧ cur.take n = xs := by
  obtain ⟨h1, h2 | ⟨g', cap', cur, he, hb, hg, hn, hm, hs, ht⟩⟩ := h
  · cases h2.1
  · injection he with e1 e2 e3
    injection e1 with e1
    injection e1 with e1
    subst e1 e3
    refine ⟨hb, hn, hm, by simpa using h1, cur.toList, by simpa using hg, by simpa using hs, by simpa using ht⟩
end Go.Proofs.Ytopplkfbnpamdaa
