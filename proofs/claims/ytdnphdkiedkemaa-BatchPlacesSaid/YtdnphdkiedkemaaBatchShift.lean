/-
  Where a place goes by changes made at once, as package batch tells it.
-/
import Derived.Test.YtdnphdkiedkemaaBackward
import Derived.Test.YtdnphdkiedkemaaBatch
import Derived.Test.YtdnphdkiedkemaaShift
namespace Go.Proofs.Ytdnphdkiedkemaa
open Go.RowKit Go.Shelf
open Utf Chg Btc
attribute [local go_sem] Oper.semAt_some
theorem blk_own {β : Type} (B : Nat) (t : TypeId) (cs : Array Value) : Own (fun (_ : β) W => Blk W B t cs) := fun _ X Y row hs hg hrow =>
  hs.grown hg (fun e => by obtain ⟨o, ho, hc⟩ := hrow B e.symm; rw [show X.heap[B]? = _ from hs] at ho; cases ho; cases hc)
theorem weigh_mem : ∀ {ks : List Cg} {k : Cg}, k ∈ ks → k.old.size + k.new.size ≤ weigh ks
  | x :: r, k, h => by
    unfold weigh
    simp only [List.map_cons, List.sum_cons]
    rcases List.mem_cons.1 h with rfl | h
    · omega
    · have := weigh_mem h
      unfold weigh at this
      omega
theorem back_bound {p P : Int} (h1 : -P ≤ p) (h2 : p ≤ P) : ∀ r : List Cg, -(P + weigh r) ≤ back p r ∧ back p r ≤ P + weigh r
  | [] => by simp [back, weigh]; omega
  | k :: r => by
    have ih := back_bound h1 h2 r
    have e : back p (k :: r) = shift (back p r) k.at_ k.old.size k.new.size := rfl
    have e2 : weigh (k :: r) = k.old.size + k.new.size + weigh r := by simp [weigh]
    rw [e, e2]
    unfold shift
    split <;> (try split) <;> omega
set_option maxRecDepth 100000 in
set_option maxHeartbeats 2000000 in
theorem batch_Shift (p : Int) {A : Option Addr} {c : Nat} {ks : List Cg} {w : World} (hx : Cgs w A ks) (hp : -1000000000000 ≤ p ∧ p ≤ 1000000000000) (hk : ∀ k ∈ ks, -1099511627776 ≤ k.at_ ∧ k.at_ ≤ 1099511627776) (hs : weigh ks ≤ 10000) (hm : ks.length ≤ 1000) :
    Calls Try.prog 7 #[.int .i64 p, .slice A ks.length c] w fun e w' => e = .returned (.int .i64 (back p ks)) ∧ Below w.heap.size w w' := by
  refine (callsIn_wide (n := 5)).1 ?_
  refine callsIn_of_wp_marks Try.func7 rfl trivial ?_ rfl
  simp only [Try.ntmps7, List.size_toArray, List.length_cons, List.length_nil, Nat.reduceAdd, Nat.reduceSub, Array.replicate_succ, Array.replicate_zero, List.push_toArray, List.append_toArray, List.nil_append, List.cons_append]
  gi_wp2_with (refine ⟨trivial, ?_⟩; gi_at_call 15; refine (callsIn_wide.2 (slices_Backward _ _ _ _)).mono ?_; rintro e w' ⟨rfl, rfl⟩)
  have bP := (Boxed.new w 3 (.int .i64 p)).alloc (.cells #[.slice A ks.length c] 22)
  have bS := Boxed.new (w.alloc (.cells #[.int .i64 p] 3)) 22 (.slice A ks.length c)
  rw [World.size_alloc] at bS
  have hB0 : Below w.heap.size w ((w.alloc (.cells #[.int .i64 p] 3)).alloc (.cells #[.slice A ks.length c] 22)) := ((Below.refl _ w).alloc (Nat.le_refl _) _).alloc (by simp) _
  have hsz : ((w.alloc (.cells #[.int .i64 p] 3)).alloc (.cells #[.slice A ks.length c] 22)).heap.size = w.heap.size + 2 := by simp
  obtain ⟨W0, hW0⟩ : ∃ W0, (w.alloc (.cells #[.int .i64 p] 3)).alloc (.cells #[.slice A ks.length c] 22) = W0 := ⟨_, rfl⟩
  rw [hW0] at bP bS hB0 hsz ⊢
  clear hW0
  refine wpIn_rangeFunc_ownH rfl (by decide) (gf := 22) (lb := #[.pointer (some ⟨w.heap.size + 1, 0, none⟩)]) rfl trivial (enters_of Try.func22 (by kernel_rfl) rfl)
    (backward_stops _ (by decide) (w.heap.size + 1) hx (by omega) W0 hB0 bS) Held.t (Held.b (by omega) (by omega)) (Below.refl _ _) (fun _ => rfl)
    (fun pre W => (Boxed W w.heap.size 3 (.int .i64 (back p (got pre).reverse)) ∧ Boxed W (w.heap.size + 1) 22 (.slice A ks.length c)) ∧ Below w.heap.size w W)
    (fun _ _ _ => False)
    (OwnFrom.and (OwnFrom.and (Own.from (boxed_own _ _ _) _) (Own.from (boxed_own _ _ _) _)) (ownFrom_below (Nat.le_refl _) (by omega)))
    (fun _ _ _ _ _ hs _ _ => hs)
    ⟨⟨bP, bS⟩, hB0⟩
    (fun x a' W => ∃ Bx, w.heap.size + 1 < Bx ∧ Blk W Bx 30 #[.int .i64 x.2.1.at_, .string x.2.1.old, .string x.2.1.new] ∧ a' = { tmps := #[.int .i64 p, .slice A ks.length c, .pointer (some ⟨w.heap.size, 0, none⟩), undef, .int .i64 0, undef, .pointer (some ⟨Bx, 0, none⟩), .slice A ks.length c, .func (.func 22) #[] #[.pointer (some ⟨w.heap.size + 1, 0, none⟩)], .int .i64 (x.1 : Nat), .agg #[.int .i64 x.2.1.at_, .string x.2.1.old, .string x.2.1.new], undef, undef, undef, undef, undef], defers := [] })
    (fun x a' _ X Y row hs hg hr => by obtain ⟨Bx, h1, h2, h3⟩ := hs; exact ⟨Bx, h1, blk_own Bx _ _ () X Y row h2 hg (fun r e => (hr r e).2), h3⟩)
    ?assign ?body ?done ?stop
  case assign =>
    rintro l pre x W K ⟨⟨bP1, bS1⟩, hB1⟩ hK
    gi_wp2
    exact hK _ _ ((KeepsOthers.alloc _ _).from _) ⟨(Below.refl _ W).alloc hB1.size _, Below.heap_alloc _ _ _ bS1.lt⟩ ⟨⟨bP1.alloc _, bS1.alloc _⟩, hB1.alloc hB1.size _⟩ ⟨W.heap.size, bS1.lt, Blk.new W _ _, rfl⟩
  case body =>
    rintro l pre x a' W hl ⟨r, hr⟩ ⟨⟨bP1, bS1⟩, hB1⟩ ⟨Bx, hBx, bX, rfl⟩ hlt
    have cP := bP1.cell
    have x0 : W.cell? ⟨Bx, 0, none⟩ = some (.int .i64 x.2.1.at_) := bX.cell 0
    have x1 : W.cell? ⟨Bx, 1, none⟩ = some (.string x.2.1.old) := bX.cell 1
    have x2 : W.cell? ⟨Bx, 2, none⟩ = some (.string x.2.1.new) := bX.cell 2
    have hwx := weigh_mem x.2.2
    have hbd := back_bound hp.1 hp.2 (got pre).reverse
    have hwb : weigh (got pre).reverse ≤ (got pre).reverse.length * (2 * 10000) := weigh_le (fun k hk => by
      have := weigh_mem (got_in pre k (List.mem_reverse.1 hk))
      omega)
    have hgl : (got pre).reverse.length = pre.length := by simp [got]
    have C := Lib.hid (change_Shift (back p (got pre).reverse) (c := 1) (cgs_one W x.2.1 30) (by omega) (fun k hk' => by
      rw [List.mem_singleton] at hk'
      rw [hk']
      exact hk _ x.2.2) (by simp [weigh]; omega) (by simp))
    have e1 : shifts (back p (got pre).reverse) [x.2.1] = back p (got (pre ++ [x])).reverse := by
      rw [got_snoc, List.reverse_append]
      rfl
    rw [e1] at C
    have hsW := hB1.size
    gi_wp2_with (refine ⟨trivial, ?_⟩; gi_at_call 16; refine (CallsIn.inRound l (callsIn_wide.2 C.out)).mono ?_; rintro e w2 ⟨rfl, hb2⟩; have hb3 : Below W.heap.size W w2 := ((Below.refl _ W).alloc (Nat.le_refl _) _).trans (hb2.mono (by simp)); have bP2 : Boxed w2 w.heap.size 3 (.int .i64 (back p (got pre).reverse)) := (hb3.block _ bP1.lt).trans bP1; have cP2 := bP2.cell; have fP2 := bP2.frozen)
    have bS2 : Boxed w2 (w.heap.size + 1) 22 (.slice A ks.length c) := (hb3.block _ bS1.lt).trans bS1
    exact ⟨(KeepsFrom.of_grownBy (gb_below none hb3) (fun j e => by cases e)).trans ((KeepsOthers.setCell _ _ _).from _),
      ⟨(hb3.mono hsW).setCell (p := ⟨w.heap.size, 0, none⟩) (Nat.le_refl _) _, (Below.heap_setCell _ _ _ _ (by simp)).trans (hb3.block _ bS1.lt)⟩,
      ⟨⟨bP2.set _, bS2.other (by omega) _⟩, (hB1.trans (hb3.mono hsW)).setCell (p := ⟨w.heap.size, 0, none⟩) (Nat.le_refl _) _⟩⟩
  case done =>
    rintro D ys W hD hS ⟨⟨bP1, bS1⟩, hB1⟩ hK
    rw [show got ys = ks.reverse from hS, List.reverse_reverse] at bP1
    have cP := bP1.cell
    gi_wp2
    refine ⟨by simp, .inl ⟨_, _, rfl, run_takeDeferred hK, ?_⟩⟩
    exact ⟨_, results_tmp rfl _ _ _, rfl, hB1.trans (belowK_b (w := w) (Nat.le_refl _) W D _ _ (by omega) hK rfl rfl)⟩
  case stop =>
    rintro D c pre W _ _ h _
    exact h.elim
end Go.Proofs.Ytdnphdkiedkemaa
