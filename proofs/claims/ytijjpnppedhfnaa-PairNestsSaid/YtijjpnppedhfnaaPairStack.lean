/-
  The list and the stack that the program's All makes, in memory: what put, take, an append, a store and the next rune leave of them.
-/
import Derived.Test.YtijjpnppedhfnaaPair
import Derived.Test.YtijjpnppedhfnaaPairs
import Derived.WalkSmall
import Derived.OneCell
import Derived.Deep.AppendLies
namespace Go.Proofs.Ytijjpnppedhfnaa
open Go.RowKit
namespace Pair
/-- The cells of pairs, of which some are not closed. -/
def flatZ (xs : List (Nat × Int)) : List Value := xs.flatMap fun x => [.int .i64 (x.1 : Nat), .int .i64 x.2]
theorem flatZ_cons (x : Nat × Int) (xs : List (Nat × Int)) : flatZ (x :: xs) = [.int .i64 (x.1 : Nat), .int .i64 x.2] ++ flatZ xs := by simp [flatZ]
theorem flatZ_append (xs ys : List (Nat × Int)) : flatZ (xs ++ ys) = flatZ xs ++ flatZ ys := by simp [flatZ]
theorem flatZ_length (xs : List (Nat × Int)) : (flatZ xs).length = xs.length * 2 := by
  induction xs with
  | nil => rfl
  | cons x xs ih => rw [flatZ_cons, List.length_append, ih]; simp; omega
theorem flatZ_get (xs : List (Nat × Int)) {j : Nat} {x : Nat × Int} (h : xs[j]? = some x) : (flatZ xs)[j * 2]? = some (.int .i64 (x.1 : Nat)) ∧ (flatZ xs)[j * 2 + 1]? = some (.int .i64 x.2) := by
  induction xs generalizing j with
  | nil => simp at h
  | cons y xs ih =>
    cases j with
    | zero => simp at h; subst h; simp [flatZ]
    | succ j =>
      have := ih (j := j) (by simpa using h)
      rw [flatZ_cons, List.getElem?_append_right (by simp; omega), List.getElem?_append_right (by simp; omega)]
      simpa [show (j + 1) * 2 - 2 = j * 2 by omega, show (j + 1) * 2 + 1 - 2 = j * 2 + 1 by omega] using this
theorem flatZ_put (xs : List (Nat × Int)) (k : Nat) (q : Int) : (flatZ xs).set (k * 2 + 1) (.int .i64 q) = flatZ (xs.modify k fun x => (x.1, q)) := by
  induction xs generalizing k with
  | nil => simp [flatZ]
  | cons x xs ih =>
    cases k with
    | zero => simp [flatZ]
    | succ k =>
      rw [List.modify_succ_cons, flatZ_cons, flatZ_cons, ← ih k, show (k + 1) * 2 + 1 = k * 2 + 1 + 2 by omega]
      simp
/-- The cells of the stack: what was put first comes first. -/
def cellsS (st : List Nat) : List Value := st.reverse.map fun k => .int .i64 (k : Nat)
theorem cellsS_length (st : List Nat) : (cellsS st).length = st.length := by simp [cellsS]
theorem cellsS_cons (k : Nat) (st : List Nat) : cellsS (k :: st) = cellsS st ++ [.int .i64 (k : Nat)] := by simp [cellsS]
/-- Two rows of different kinds lie apart. -/
theorem rows_apart {w : World} {b1 b2 : Nat} {e1 e2 : TypeId} {s1 s2 n1 n2 : Nat} {v1 v2 : Value} {x1 x2 : List Value} (h1 : w.ownsRow b1 e1 s1 v1 n1 x1) (h2 : w.ownsRow b2 e2 s2 v2 n2 x2) (hne : e1 ≠ e2) {g : Nat} (hg : v1.ownBlock = some g) : v2.ownBlock ≠ some g := by
  intro hg2
  rcases h1.2 with ⟨rfl, _⟩ | ⟨g1, c1, u1, rfl, _, hh1, _⟩
  · cases hg
  · rcases h2.2 with ⟨rfl, _⟩ | ⟨g2, c2, u2, rfl, _, hh2, _⟩
    · cases hg2
    · simp only [Value.ownBlock, Option.some.injEq] at hg hg2
      subst hg; subst hg2
      rw [hh1] at hh2
      injection hh2 with hh2
      injection hh2 with _ hh2 _
      exact hne hh2
/-- All that All has made when it comes to a rune: w is where it began to. -/
structure St (w W : World) (t : ByteArray) (pos : Nat) (lv ov : Value) (l : List (Nat × Int)) (st : List Nat) : Prop where
  box : Blk W w.heap.size 38 #[ov]
  iter : W.heap[w.heap.size + 1]? = some (.stringIter t pos)
  orow : W.ownsRow (w.heap.size + 2) 3 1 ov st.length (cellsS st)
  lrow : W.ownsRow (w.heap.size + 2) 33 2 lv l.length (flatZ l)
  below : Below w.heap.size w W
section
variable {w W W' : World} {t : ByteArray} {pos : Nat} {lv ov : Value} {l : List (Nat × Int)} {st : List Nat}
theorem St.size (h : St w W t pos lv ov l st) : w.heap.size + 2 ≤ W.heap.size := by
  have := (Array.getElem?_eq_some_iff.1 h.iter).1; omega
theorem St.alloc (h : St w W t pos lv ov l st) (o : Obj) : St w (W.alloc o) t pos lv ov l st :=
  ⟨h.box.alloc o, (Below.heap_alloc _ _ _ (by have := h.size; omega)).trans h.iter, h.orow.alloc o, h.lrow.alloc o, h.below.alloc (by have := h.size; omega) o⟩
theorem St.drewN (h : St w W t pos lv ov l st) (n : Nat) : St w (W.drewN n) t pos lv ov l st :=
  ⟨h.box.drewN n, h.iter, h.orow, h.lrow, below_drewN h.below n⟩
/-- The next rune. -/
theorem St.next (h : St w W t pos lv ov l st) (p : Nat) : St w (W.iterAt (w.heap.size + 1) t p) t p lv ov l st :=
  ⟨(Lib.iterAt_other _ _ _ _ _ (by omega)).trans h.box, Lib.iterAt_heap W (w.heap.size + 1) t pos p h.iter, ownsRow_iterAt h.orow (by omega) t p, ownsRow_iterAt h.lrow (by omega) t p, Lib.below_iterAt h.below (by omega) t p⟩
/-- A row that grew: the list's. -/
theorem St.grownL {lv' : Value} {x : Nat × Int} (h : St w W t pos lv ov l st) (hg : W.grownBy W' lv.ownBlock) (hr : W'.ownsRow (w.heap.size + 2) 33 2 lv' (l.length + 1) (flatZ l ++ [.int .i64 (x.1 : Nat), .int .i64 x.2])) : St w W' t pos lv' ov (l ++ [x]) st := by
  have hs := h.size
  have hlt := h.lrow.lt
  refine ⟨h.box.grown hg (fun e => by have := (hlt _ e.symm).1; omega), (hg.block _ (by omega) (fun e => by have := (hlt _ e.symm).1; omega)).trans h.iter, h.orow.kept hg ?_, ?_, h.below.grown hg (by omega) (fun j e => by have := (hlt j e).1; omega)⟩
  · cases ho : ov.ownBlock with
    | none => exact .inl rfl
    | some g => exact .inr (fun e => rows_apart h.orow h.lrow (by decide) ho e.symm)
  · rw [List.length_append, flatZ_append]; exact hr
/-- A row that grew: the stack's; its new slice lies in its box. -/
theorem St.grownO {A : Option Addr} {n c m cap : Nat} {g : Nat} {k : Nat} (h : St w W t pos lv (.slice A n c) l st) (hg : W.grownBy W' (Value.slice A n c).ownBlock) (hr : W'.ownsRow (w.heap.size + 2) 3 1 (.slice (some ⟨g, 0, none⟩) m cap) m (cellsS st ++ [.int .i64 (k : Nat)])) (hm : m = st.length + 1) :
    Blk W' w.heap.size 38 #[.slice A n c] ∧ St w (W'.setCell ⟨w.heap.size, 0, none⟩ (.slice (some ⟨g, 0, none⟩) m cap)) t pos lv (.slice (some ⟨g, 0, none⟩) m cap) l (k :: st) := by
  have hs := h.size
  have hlt := h.orow.lt
  have hb : Blk W' w.heap.size 38 #[.slice A n c] := h.box.grown hg (fun e => by have := (hlt _ e.symm).1; omega)
  subst hm
  refine ⟨hb, hb.set_ 0 _, ?_, ?_, ?_, ?_⟩
  · exact (Below.heap_setCell _ _ _ _ (by show _ ≠ w.heap.size; omega)).trans ((hg.block _ (by omega) (fun e => by have := (hlt _ e.symm).1; omega)).trans h.iter)
  · rw [List.length_cons, cellsS_cons]
    exact ownsRow_setCell_below hr (by show w.heap.size < _; omega) _
  · refine ownsRow_setCell_below (h.lrow.kept hg ?_) (by show w.heap.size < _; omega) _
    cases ho : lv.ownBlock with
    | none => exact .inl rfl
    | some g => exact .inr (fun e => rows_apart h.lrow h.orow (by decide) ho e.symm)
  · exact (h.below.grown hg (by omega) (fun j e => by have := (hlt j e).1; omega)).setCell (p := ⟨w.heap.size, 0, none⟩) (Nat.le_refl _) _
/-- The stack with its last one taken. -/
theorem St.popped {g n c : Nat} {k : Nat} (h : St w W t pos lv (.slice (some ⟨g, 0, none⟩) n c) l (k :: st)) (hn : n = st.length + 1) : St w (W.setCell ⟨w.heap.size, 0, none⟩ (.slice (some ⟨g, 0, none⟩) st.length c)) t pos lv (.slice (some ⟨g, 0, none⟩) st.length c) l st := by
  have hs := h.size
  subst hn
  have ho := h.orow
  rw [List.length_cons, cellsS_cons] at ho
  refine ⟨h.box.set_ 0 _, ?_, ?_, ?_, ?_⟩
  · exact (Below.heap_setCell _ _ _ _ (by show _ ≠ w.heap.size; omega)).trans h.iter
  · exact ownsRow_setCell_below (ownsRow_pop (by rw [cellsS_length]; omega) ho) (by show w.heap.size < _; omega) _
  · exact ownsRow_setCell_below h.lrow (by show w.heap.size < _; omega) _
  · exact h.below.setCell (p := ⟨w.heap.size, 0, none⟩) (Nat.le_refl _) _
/-- What is closed. -/
theorem St.shut {g c n k : Nat} (h : St w W t pos (.slice (some ⟨g, 0, none⟩) n c) ov l st) (hn : n = l.length) (q : Int) : St w (W.setCell ⟨g, k * 2 + 1, none⟩ (.int .i64 q)) t pos (.slice (some ⟨g, 0, none⟩) n c) ov (l.modify k fun x => (x.1, q)) st := by
  have hs := h.size
  have hlt := (h.lrow.lt g rfl).1
  subst hn
  refine ⟨h.box.far (by show _ ≠ g; omega) _, (Below.heap_setCell _ _ _ _ (by show _ ≠ g; omega)).trans h.iter, ownsRow_setCell_other (a := ⟨g, k * 2 + 1, none⟩) h.orow (fun e => rows_apart h.orow h.lrow (by decide) e rfl) _, ?_, h.below.setCell (p := ⟨g, k * 2 + 1, none⟩) (by show _ ≤ g; omega) _⟩
  rw [List.length_modify, ← flatZ_put]
  exact (h.lrow.stored (k * 2 + 1) (.int .i64 q)).1
end
end Pair
open Pair
set_option maxHeartbeats 1000000 in
set_option maxRecDepth 100000 in
theorem pair_put {w W : World} {t : ByteArray} {pos : Nat} {lv ov : Value} {l : List (Nat × Int)} {st : List Nat} (k : Nat) (h : St w W t pos lv ov l st) (hst : st.length ≤ 1000000) :
    Calls Try.prog 18 #[.pointer (some ⟨w.heap.size, 0, none⟩), .int .i64 (k : Nat)] W fun e w' => e = .returned (.tuple #[]) ∧ ∃ ov', St w w' t pos lv ov' l (k :: st) := by
  obtain ⟨i0, hi, hz0, hz1, hz2⟩ := info_parts info_int
  obtain ⟨A, c, rfl⟩ := own_long h.orow
  have hc := h.box.cell 0
  have hs := h.size
  have HS := Lib.hid h
  have hown := h.orow
  clear h
  go_enter Try.func18, Try.ntmps18
  go_wp2_with (at_builtin; refine wpList_append_lies _ rfl _ _ 36 rfl (w.heap.size + 2) 3 i0 (.int .i64 0) 1 8 Try.underlying36 hi hz0 hz1 hz2 rfl (by decide) (.slice A st.length c) st.length _ rfl (hown.alloc _) ⟨W.heap.size, 0, none⟩ 1 1 [.int .i64 (k : Nat)] rfl rfl ?c1 ?c2 (by decide) ?c3 ?c4 ?c5 _ rfl ?_)
  case c1 =>
    intro j v hj
    have hb := Blk.new W 3 #[.int .i64 (k : Int)]
    rw [Addr.add_lit, Nat.zero_add, hb.cell]
    simpa using hj
  case c2 => simp [Value.oneCell']
  case c3 => unfold maxLen; omega
  case c4 => omega
  case c5 => rw [World.size_alloc]; omega
  intro g cap w1 hown1 hgrow1 hat1 hlt1
  obtain ⟨hb1, hS1⟩ := (HS.out.alloc (.cells #[.int .i64 (k : Int)] 3)).grownO hgrow1 hown1 rfl
  have f1 := hb1.frozen 0
  have c1 := hb1.cell 0
  have H1 := Lib.hid hS1
  clear hb1 hS1 hown1 hgrow1 hat1 hc hown
  go_wp2
  go_end0
  exact ⟨rfl, _, H1.out⟩
set_option maxHeartbeats 1000000 in
set_option maxRecDepth 100000 in
theorem pair_take_none {w W : World} {t : ByteArray} {pos : Nat} {lv ov : Value} {l : List (Nat × Int)} (h : St w W t pos lv ov l []) :
    Calls Try.prog 19 #[.pointer (some ⟨w.heap.size, 0, none⟩)] W fun e w' => e = .returned (.tuple #[.int .i64 0, .bool false]) ∧ St w w' t pos lv ov l [] := by
  obtain ⟨A, c, rfl⟩ := own_long h.orow
  have hc := h.box.cell 0
  have HS := Lib.hid h
  clear h
  go_enter Try.func19, Try.ntmps19
  go_wp2
  go_ret2
  exact ⟨rfl, HS.out⟩
set_option maxHeartbeats 1000000 in
set_option maxRecDepth 100000 in
theorem pair_take_some {w W : World} {t : ByteArray} {pos : Nat} {lv ov : Value} {l : List (Nat × Int)} {k : Nat} {r : List Nat} (h : St w W t pos lv ov l (k :: r)) (hst : r.length ≤ 1000000) :
    Calls Try.prog 19 #[.pointer (some ⟨w.heap.size, 0, none⟩)] W fun e w' => e = .returned (.tuple #[.int .i64 (k : Nat), .bool true]) ∧ ∃ ov', St w w' t pos lv ov' l r := by
  obtain ⟨A, c, rfl⟩ := own_long h.orow
  have hc := h.box.cell 0
  have hf := h.box.frozen 0
  have HS := Lib.hid h
  obtain ⟨g, cap, e, _, hlt⟩ := h.orow.form (by simp)
  injection e with e1 _ e3
  subst e1; subst e3
  have ho := h.orow
  rw [cellsS_cons] at ho
  have hk := ho.cellAt r.length (by simp)
  rw [List.getElem?_append_right (by rw [cellsS_length]; exact Nat.le_refl _), cellsS_length, Nat.sub_self] at hk
  simp only [List.getElem?_cons_zero] at hk
  have hl : (k :: r).length = r.length + 1 := rfl
  rw [hl] at HS hc
  clear hl
  have hcap : r.length + 1 ≤ c := by
    rcases h.orow.2 with ⟨h1, _⟩ | ⟨g', cap', cur, h1, _, _, h2, _⟩
    · cases h1
    · injection h1 with _ _ h3; subst h3; exact h2
  have g0 : (((r.length : Int) + 1) == 0) = false := by simp; omega
  have H1 := Lib.hid (HS.out.popped rfl)
  clear h ho
  generalize r.length = m at *
  go_enter Try.func19, Try.ntmps19
  go_wp2
  go_ret2
  exact ⟨rfl, _, H1.out⟩
end Go.Proofs.Ytijjpnppedhfnaa
