/-
  The library's slices.Backward over changes: for every loop body that keeps what lay below a bound, and the slice's own box.
-/
import Derived.RangeFuncNested
import Derived.RangeFuncBound
import Derived.RangeFuncCalls
import Derived.RangeFuncLeaves
import Derived.Shelf.Abstract
import Derived.Shelf.RegionOpen
import Derived.WalkKit
import Derived.OwnWalkIn
import Derived.TacticsInMore
import Derived.LoopNIn
import Derived.LoopIn
import Derived.RangeFuncBox
import Derived.Test.YtdnphdkiedkemaaCgs
namespace Go.Proofs.Ytdnphdkiedkemaa
open Go.RowKit Go.Shelf
attribute [local go_sem] Oper.semAt_some
namespace Btc
/-- What a round that goes on keeps: what lay below n₀, and the box of the slice. -/
def Held (n₀ B : Nat) (W W' : World) : Prop := Below n₀ W W' ∧ W'.heap[B]? = W.heap[B]?
theorem Held.t {n₀ B : Nat} {X Y Z : World} (h : Held n₀ B X Y) (k : Held n₀ B Y Z) : Held n₀ B X Z := ⟨h.1.trans k.1, k.2.trans h.2⟩
theorem Held.b {n₀ B : Nat} {w : World} (hn : n₀ ≤ w.heap.size) (hB : B < w.heap.size) (W : World) (l : Nat) (o o' : Obj) (hl : w.heap.size ≤ l) (h : W.heap[l]? = some o) (hc : o.isCells = false) (hw : o.isWalk = false) : Held n₀ B W (W.putObj l o') :=
  ⟨belowK_b hn W l o o' hl h hc hw, World.putObj_heap_other (by omega)⟩
theorem Held.boxed {n₀ B : Nat} {W W' : World} {t : TypeId} {v : Value} (h : Held n₀ B W W') (k : Boxed W B t v) : Boxed W' B t v := Eq.trans h.2 k
/-- What a round is handed: an index, and one of the changes. -/
abbrev Ct (ks : List Cg) := Nat × {k : Cg // k ∈ ks}
abbrev encs {ks : List Cg} (x : Ct ks) : Array Value := #[.int .i64 (x.1 : Nat), .agg #[.int .i64 x.2.1.at_, .string x.2.1.old, .string x.2.1.new]]
/-- The changes of what has come. -/
def got {ks : List Cg} (l : List (Ct ks)) : List Cg := l.map fun x => x.2.1
theorem got_snoc {ks : List Cg} (l : List (Ct ks)) (x : Ct ks) : got (l ++ [x]) = got l ++ [x.2.1] := by simp [got]
theorem got_in {ks : List Cg} (l : List (Ct ks)) : ∀ k ∈ got l, k ∈ ks := fun k hk => by
  obtain ⟨x, _, rfl⟩ := List.mem_map.1 hk
  exact x.2.2
end Btc
theorem slices_Backward (A : Option Addr) (n c : Nat) (w : World) :
    Calls Try.prog 15 #[.slice A n c] w fun e w' => e = .returned (.func (.func 22) #[] #[.pointer (some ⟨w.heap.size, 0, none⟩)]) ∧ w' = w.alloc (.cells #[.slice A n c] 22) := by
  go_enter Try.func15, Try.ntmps15
  go_wp2
  go_ret
  exact ⟨rfl, rfl⟩
open Btc in
set_option maxRecDepth 100000 in
set_option maxHeartbeats 2000000 in
theorem backward_seq (n : Nat) (hn : 1 ≤ n) (l Bs : Nat) {A : Option Addr} {c : Nat} {ks : List Cg} {w0 : World} (hx : Cgs w0 A ks) (hm : ks.length ≤ 100000) (J Jx : List (Ct ks) → World → Prop)
    (hY : ∀ pre x W, J pre W → pre.length < ks.length → YieldAt Fence.wide (n - 1) Try.prog l (encs x) W fun e W' =>
      (e = .returned (.bool true) ∧ J (pre ++ [x]) W' ∧ Held w0.heap.size Bs W W') ∨ (e = .returned (.bool false) ∧ Jx (pre ++ [x]) W'))
    (W : World) (hW : Below w0.heap.size w0 W) (hBs : Boxed W Bs 22 (.slice A ks.length c)) (h0 : J [] W) :
    CallsIn Fence.wide n Try.prog 22 #[.func (.yield l) #[] #[], .pointer (some ⟨Bs, 0, none⟩)] W fun e W' => (∃ v, e = .returned v) ∧
      ((∃ ys, got ys = ks.reverse ∧ J ys W') ∨ (∃ pre, True ∧ Jx pre W')) := by
  refine callsIn_of_wp Try.func22 rfl trivial ?_ rfl
  simp only [Try.ntmps22, List.size_toArray, List.length_cons, List.length_nil, Nat.reduceAdd, Nat.reduceSub, Array.replicate_succ, Array.replicate_zero, List.push_toArray, List.append_toArray, List.nil_append, List.cons_append]
  have hBc := hBs.cell
  gi_wp2
  clear hBc
  gi_loopw [3] (fun i wr => ∃ (pre : List (Ct ks)) (q : Int) (m : Nat), i = .int .i64 q ∧ q = (m : Int) - 1 ∧ m ≤ ks.length ∧ pre.length + m = ks.length ∧ Hid (got pre = (ks.drop m).reverse) ∧ J pre wr ∧ Below w0.heap.size w0 wr ∧ Boxed wr Bs 22 (.slice A ks.length c))
    (fun i _ => (intOf i + 1).toNat)
  case atStart => exact ⟨[], _, ks.length, by go_num, rfl, Nat.le_refl _, by simp, by show _ = _; simp [got], h0, hW, hBs⟩
  case round =>
    obtain ⟨pre, q, m, rfl, hq, hml, hpl, hg, hJs, hWr, hbx⟩ := hrel
    have hbc := hbx.cell
    cases m with
    | zero =>
      obtain rfl : q = -1 := by omega
      clear hq
      have hfin : got pre = ks.reverse := by rw [hg.out]; rfl
      clear hg hx hY
      gi_wp2
      go_end0
      exact ⟨⟨_, rfl⟩, .inl ⟨pre, hfin, hJs⟩⟩
    | succ m =>
      obtain rfl : q = (m : Int) := by omega
      clear hq
      have hlt : m < ks.length := by omega
      obtain ⟨x, hkx⟩ : ∃ x, ks[m]? = some x := ⟨_, List.getElem?_eq_getElem hlt⟩
      obtain ⟨b, off, rfl, hbw, c0, c1, c2⟩ := hx.at_ hWr (Nat.le_refl _) hkx
      obtain ⟨y, hy0⟩ : ∃ y : Ct ks, y = (m, ⟨x, List.mem_of_getElem? hkx⟩) := ⟨_, rfl⟩
      obtain ⟨fn, tmps, assign, body, hy, hR⟩ := hY pre y wr hJs (by omega)
      have hg2 : Hid (got (pre ++ [y]) = (ks.drop m).reverse) := by
        show _ = _
        obtain ⟨hj, rfl⟩ := List.getElem?_eq_some_iff.1 hkx
        rw [got_snoc, hg.out, hy0, List.drop_eq_getElem_cons hj, List.reverse_cons]
      have e1 : encs y = #[.int .i64 (m : Nat), .agg #[.int .i64 x.at_, .string x.old, .string x.new]] := by rw [hy0]
      rw [e1] at hy
      clear hg hx hY hkx hy0 e1
      gi_wp2
      refine hR.mono ?_
      rintro e W3 (⟨rfl, hJ3, hk3⟩ | ⟨rfl, hJx3⟩)
      · have hb3 := hk3.boxed hbx
        gi_wp2
        go_roundw
        case rel => exact ⟨pre ++ [y], _, m, rfl, by go_num, by omega, by rw [List.length_append]; simp; omega, hg2, hJ3, hWr.trans hk3.1, hb3⟩
        case measure => simp [intOf]
      · gi_wp2
        refine bodyPost_ret (results_none rfl _ _ _) rfl ?_
        exact ⟨⟨_, rfl⟩, .inr ⟨pre ++ [y], trivial, hJx3⟩⟩
open Btc in
theorem backward_stops (n : Nat) (hn : 1 ≤ n) (Bs : Nat) {A : Option Addr} {c : Nat} {ks : List Cg} {w0 : World} (hx : Cgs w0 A ks) (hm : ks.length ≤ 100000) (w : World) (hw : Below w0.heap.size w0 w) (hc : Boxed w Bs 22 (.slice A ks.length c)) :
    SeqStopsK Fence.wide n Try.prog 22 #[.pointer (some ⟨Bs, 0, none⟩)] encs (Held w0.heap.size Bs) (fun ys => got ys = ks.reverse) (fun _ : List (Ct ks) => True) ks.length w :=
  fun l J Jx W hW _ _ hY h0 => backward_seq n hn l Bs hx hm J Jx hY W (hw.trans (hW.mono hw.size)) ((hW.block Bs hc.lt).trans hc) h0
end Go.Proofs.Ytdnphdkiedkemaa
