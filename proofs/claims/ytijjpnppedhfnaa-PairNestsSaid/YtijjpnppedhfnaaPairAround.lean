/-
  The pair around a place: the program's, over the pairs from the last one on.
-/
import Derived.RangeFuncNested
import Derived.RangeFuncBound
import Derived.RangeFuncCalls
import Derived.RangeFuncLeaves
import Derived.RangeFuncBox
import Derived.Shelf.Abstract
import Derived.Shelf.RegionOpen
import Derived.WalkKit
import Derived.OwnWalkIn
import Derived.TacticsInMore
import Derived.LoopNIn
import Derived.LoopIn
import Derived.BigRegionIn
import Derived.Test.YtijjpnppedhfnaaPairWays
import Derived.Test.YtijjpnppedhfnaaPairAll
import Derived.Test.YtijjpnppedhfnaaUtfPlaces
namespace Go.Proofs.Ytijjpnppedhfnaa
open Go.RowKit Go.Shelf
attribute [local go_sem] Oper.semAt_some
theorem blk_abide {B : Nat} {t : TypeId} {cs : Array Value} {X Y : World} {row : Option Nat} (h : Blk X B t cs) (hg : X.grownBy Y row) (hr : ∀ r, row = some r → ∃ o : Obj, X.heap[r]? = some o ∧ o.isCells = false) : Blk Y B t cs :=
  h.grown hg (fun e => by
    obtain ⟨o, ho, hc⟩ := hr B e.symm
    rw [show X.heap[B]? = _ from h] at ho
    cases ho; cases hc)
namespace Pair
theorem arnd_append (u v : List (Nat × Nat)) (p : Int) : arnd (u ++ v) p = match arnd v p with | some y => some y | none => arnd u p := by
  induction u with
  | nil => rw [List.nil_append, arnd]; cases arnd v p <;> rfl
  | cons x u ih =>
    rw [List.cons_append, arnd, ih, arnd]
    cases arnd v p <;> rfl
/-- Is a pair around a place? -/
def Abt (x : Nat × Nat) (p : Int) : Prop := (x.1 : Int) ≤ p ∧ p ≤ x.2
theorem arnd_none {l : List (Nat × Nat)} {p : Int} (h : ∀ x ∈ l, ¬ Abt x p) : arnd l p = none := by
  cases hz : arnd l p with
  | none => rfl
  | some z =>
    obtain ⟨h1, h2⟩ := arnd_mem hz
    exact absurd h2 (h z h1)
theorem arnd_rev {l a b : List (Nat × Nat)} {x : Nat × Nat} {p : Int} (hl : l.reverse = a ++ x :: b) (ha : ∀ y ∈ a, ¬ Abt y p) (hx : Abt x p) : arnd l p = some x := by
  have e : l = b.reverse ++ x :: a.reverse := by
    have := congrArg List.reverse hl
    rw [List.reverse_reverse] at this
    rw [this]; simp
  rw [e, arnd_append, arnd, arnd_none (l := a.reverse) (fun y hy => ha y (by simpa using hy))]
  simp only []
  rw [if_pos (show (x.1 : Int) ≤ p ∧ p ≤ x.2 from hx)]
/-- None of these is around the place. -/
def Off (l : List (Nat × Nat × Nat)) (p : Int) : Prop := ∀ y ∈ l, ¬ Abt y.2 p
/-- What a round that goes on keeps: the slice's box, and its pairs. -/
def Keep (B : Nat) (A : Option Addr) (W W' : World) : Prop := W'.heap[B]? = W.heap[B]? ∧ ∀ a, A = some a → W'.heap[a.block]? = W.heap[a.block]?
theorem Keep.t {B : Nat} {A : Option Addr} {X Y Z : World} (h : Keep B A X Y) (k : Keep B A Y Z) : Keep B A X Z := ⟨k.1.trans h.1, fun a e => (k.2 a e).trans (h.2 a e)⟩
theorem Keep.b {B m : Nat} {A : Option Addr} (h : B < m) (hA : ∀ a, A = some a → a.block < m) (W : World) (l : Nat) (o o' : Obj) (hl : m ≤ l) (_ : W.heap[l]? = some o) (_ : o.isCells = false) (_ : o.isWalk = false) : Keep B A W (W.putObj l o') :=
  ⟨World.putObj_heap_other (by omega), fun a e => World.putObj_heap_other (by have := hA a e; omega)⟩
theorem Keep.pairs {B : Nat} {A : Option Addr} {W W' : World} {L : List (Nat × Nat)} (h : Keep B A W W') (k : Pairs W A L) : Pairs W' A L := fun h0 => by
  obtain ⟨g, rfl, hg, hc⟩ := k h0
  have hb : W'.heap[g]? = W.heap[g]? := h.2 _ rfl
  have h1 : W.heap[g]? = some W.heap[g] := Array.getElem?_eq_getElem hg
  refine ⟨g, rfl, (Array.getElem?_eq_some_iff.1 (hb.trans h1)).1, fun j x hx => ?_⟩
  have c0 : W'.cell? ⟨g, j * 2, none⟩ = W.cell? ⟨g, j * 2, none⟩ := World.cell?_of_block hb
  have c1 : W'.cell? ⟨g, j * 2 + 1, none⟩ = W.cell? ⟨g, j * 2 + 1, none⟩ := World.cell?_of_block hb
  rw [c0, c1]
  exact hc j x hx
/-- What is handed on of a pair. -/
abbrev encP (x : Nat × Nat × Nat) : Array Value := #[.int .i64 (x.1 : Nat), .agg #[.int .i64 (x.2.1 : Nat), .int .i64 (x.2.2 : Nat)]]
theorem take_rev {L : List (Nat × Nat)} {k : Nat} {x : Nat × Nat} (h : L[k]? = some x) : (L.take (k + 1)).reverse = x :: (L.take k).reverse := by
  rw [List.take_add_one, h]; simp
end Pair
open Pair
theorem sl_back (A : Option Addr) (m c : Nat) (w : World) :
    Calls Try.prog 32 #[.slice A m c] w fun e w' => e = .returned (.func (.func 45) #[] #[.pointer (some ⟨w.heap.size, 0, none⟩)]) ∧ w' = w.alloc (.cells #[.slice A m c] 24) := by
  go_enter Try.func32, Try.ntmps32
  go_wp2
  go_ret
  exact ⟨rfl, rfl⟩
set_option maxRecDepth 100000 in
set_option maxHeartbeats 1000000 in
theorem back_seq (n : Nat) (hn : 1 ≤ n) (l Bn : Nat) (A : Option Addr) (cp : Nat) (L : List (Nat × Nat)) (hL : L.length ≤ 500000) (J Jx : List (Nat × Nat × Nat) → World → Prop)
    (hY : ∀ pre x W, J pre W → pre.length < L.length → YieldAt Fence.wide (n - 1) Try.prog l (encP x) W fun e W' =>
      (e = .returned (.bool true) ∧ J (pre ++ [x]) W' ∧ Keep Bn A W W') ∨ (e = .returned (.bool false) ∧ Jx (pre ++ [x]) W'))
    (W : World) (hBn : Boxed W Bn 24 (.slice A L.length cp)) (hP : Pairs W A L) (h0 : J [] W) :
    CallsIn Fence.wide n Try.prog 45 #[.func (.yield l) #[] #[], .pointer (some ⟨Bn, 0, none⟩)] W fun e W' => (∃ v, e = .returned v) ∧
      ((∃ ys, ys.map Prod.snd = L.reverse ∧ J ys W') ∨ (∃ pre, pre.map Prod.snd <+: L.reverse ∧ Jx pre W')) := by
  refine callsIn_of_wp Try.func45 rfl trivial ?_ rfl
  simp only [Try.ntmps45, List.size_toArray, List.length_cons, List.length_nil, Nat.reduceAdd, Nat.reduceSub, Array.replicate_succ, Array.replicate_zero, List.push_toArray, List.append_toArray, List.nil_append, List.cons_append]
  have hBc := hBn.cell
  have H0 := Lib.hid (And.intro h0 (And.intro hBn hP))
  clear h0 hBn hP
  gi_wp2
  gi_loopw [3] (fun iv wr => ∃ (pre : List (Nat × Nat × Nat)) (m : Nat), iv = .int .i64 ((m : Int) - 1) ∧ m ≤ L.length ∧ Hid (pre.map Prod.snd ++ (L.take m).reverse = L.reverse) ∧ J pre wr ∧ Boxed wr Bn 24 (.slice A L.length cp) ∧ Hid (Pairs wr A L)) (fun iv _ => (intOf iv + 1).toNat)
  case atStart => exact ⟨[], L.length, rfl, Nat.le_refl _, by show _ = _; simp, H0.out.1, H0.out.2.1, H0.out.2.2⟩
  case round =>
    obtain ⟨pre, m, rfl, hm, K, hJ, hbx, HP⟩ := hrel
    have hc := hbx.cell
    clear hBc H0
    cases m with
    | zero =>
      have hfull : Hid (pre.map Prod.snd = L.reverse) := by
        have := K.out
        rwa [List.take_zero, List.reverse_nil, List.append_nil] at this
      clear hY
      rw [show (((0 : Nat) : Int) - 1) = -1 from rfl]
      gi_wp2
      go_end0
      exact ⟨⟨_, rfl⟩, .inl ⟨_, hfull.out, hJ⟩⟩
    | succ m =>
      rw [show (((m + 1 : Nat) : Int) - 1) = (m : Int) by omega]
      obtain ⟨⟨a, b⟩, hx⟩ : ∃ x, L[m]? = some x := ⟨_, List.getElem?_eq_getElem (by omega)⟩
      obtain ⟨g, rfl, a0, a1⟩ := HP.out.at_ hx
      dsimp only at a0 a1
      have K2 : Hid ((pre ++ [(m, a, b)]).map Prod.snd ++ (L.take m).reverse = L.reverse) := by
        show _ = _
        rw [← K.out, take_rev hx]
        simp
      have hpre : pre.length < L.length := by
        have := congrArg List.length K.out
        simp at this
        omega
      obtain ⟨fn, tmps, assign, body, hy, hR⟩ := hY pre (m, a, b) wr hJ hpre
      dsimp only [encP] at hy
      clear hY hJ hx K hpre
      gi_wp2
      refine hR.mono ?_
      rintro e W3 (⟨rfl, hJ3, hk3⟩ | ⟨rfl, hJx3⟩)
      · have hc3 : Boxed W3 Bn 24 (.slice (some ⟨g, 0, none⟩) L.length cp) := hk3.1.trans hbx
        have HP3 := Lib.hid (hk3.pairs HP.out)
        gi_wp2
        go_roundw
        case rel => exact ⟨pre ++ [(m, a, b)], m, by go_num, by omega, K2, hJ3, hc3, HP3⟩
        case measure => simp [intOf]
      · gi_wp2
        refine bodyPost_ret (results_none rfl _ _ _) rfl ?_
        exact ⟨⟨_, rfl⟩, .inr ⟨pre ++ [(m, a, b)], ⟨_, K2.out⟩, hJx3⟩⟩
theorem back_stops (n : Nat) (hn : 1 ≤ n) (Bn : Nat) (A : Option Addr) (cp : Nat) (L : List (Nat × Nat)) (hL : L.length ≤ 500000) (w : World) (hBn : Boxed w Bn 24 (.slice A L.length cp)) (hP : Pairs w A L) :
    SeqStopsK Fence.wide n Try.prog 45 #[.pointer (some ⟨Bn, 0, none⟩)] encP (Keep Bn A) (fun ys => ys.map Prod.snd = L.reverse) (fun pre => pre.map Prod.snd <+: L.reverse) L.length w :=
  fun l J Jx W hW _ _ hY h0 => back_seq n hn l Bn A cp L hL J Jx hY W ((hW.block Bn hBn.lt).trans hBn) (hP.below hW) h0
set_option maxRecDepth 100000 in
set_option maxHeartbeats 2000000 in
theorem pair_Around (s : ByteArray) (p : Int) (k : ByteArray) (hs : s.size ≤ 500000) (w : World) :
    Calls Try.prog 13 #[.string s, .int .i64 p, .string k] w fun e w' => e = .returned (resA (ar s.data.toList k.data.toList p)) ∧ Below w.heap.size w w' := by
  have hl := data_len s
  have c1 := Lib.hid (fun w => utf_Place s p (by omega) w)
  refine (callsIn_wide (n := 3)).1 ?_
  refine callsIn_of_wp_marks Try.func13 rfl trivial ?_ rfl
  simp only [Try.ntmps13, List.size_toArray, List.length_cons, List.length_nil, Nat.reduceAdd, Nat.reduceSub, Array.replicate_succ, Array.replicate_zero, List.push_toArray, List.append_toArray, List.nil_append, List.cons_append]
  have b0 := Boxed.new w 3 (.int .i64 p)
  have hB0 := (Below.refl w.heap.size w).alloc (Nat.le_refl _) (.cells #[.int .i64 p] 3)
  have b1 := Boxed.new (w.alloc (.cells #[.int .i64 p] 3)) 3 (.int .i64 0)
  have hB1 := hB0.alloc (by simp) (.cells #[.int .i64 0] 3)
  have b2 := Boxed.new ((w.alloc (.cells #[.int .i64 p] 3)).alloc (.cells #[.int .i64 0] 3)) 3 (.int .i64 0)
  have hB2 := hB1.alloc (by simp; omega) (.cells #[.int .i64 0] 3)
  have b3 := Boxed.new (((w.alloc (.cells #[.int .i64 p] 3)).alloc (.cells #[.int .i64 0] 3)).alloc (.cells #[.int .i64 0] 3)) 4 (.bool false)
  have hB3 := hB2.alloc (by simp; omega) (.cells #[.bool false] 4)
  simp only [World.size_alloc] at b1 b2 b3
  have d0 := ((b0.alloc (.cells #[.int .i64 0] 3)).alloc (.cells #[.int .i64 0] 3)).alloc (.cells #[.bool false] 4)
  have d1 := (b1.alloc (.cells #[.int .i64 0] 3)).alloc (.cells #[.bool false] 4)
  have d2 := b2.alloc (.cells #[.bool false] 4)
  clear b0 b1 b2 hB0 hB1 hB2
  cases hp : Utf.place s.data.toList p with
  | false =>
    rw [hp] at c1
    have H : Hid (ar s.data.toList k.data.toList p = none) := by show _ = _; rw [ar, if_neg (by simp [hp])]
    clear hp
    gi_wp2_with (refine ⟨trivial, ?_⟩; gi_at_call 16; refine (callsIn_wide.2 (c1.out _)).mono ?_; rintro e w' ⟨rfl, rfl⟩)
    have e1 := d1.cell
    have e2 := d2.cell
    have e3 := b3.cell
    refine ⟨.tuple #[.int .i64 0, .int .i64 0, .bool false], ?_, by rw [H.out]; rfl, hB3⟩
    simp only [results, Try.f13]
    simp [go_sem, e1, e2, e3]
  | true =>
    rw [hp] at c1
    have HA : Hid (ar s.data.toList k.data.toList p = arnd (Pair.all s.data.toList k.data.toList) p) := if_pos hp
    have c2 := Lib.hid (fun w => pair_All s k hs w)
    have hlen := all_length s.data.toList k.data.toList
    rw [hl] at hlen
    generalize Pair.all s.data.toList k.data.toList = L at *
    have hz : ((((w.alloc (.cells #[.int .i64 p] 3)).alloc (.cells #[.int .i64 0] 3)).alloc (.cells #[.int .i64 0] 3)).alloc (.cells #[.bool false] 4)).heap.size = w.heap.size + 4 := by simp
    clear hp
    gi_wp2_with (refine ⟨trivial, ?_⟩; (first
      | (gi_at_call 16; refine (callsIn_wide.2 (c1.out _)).mono ?_; rintro e w' ⟨rfl, rfl⟩)
      | (gi_at_call 9; refine (callsIn_wide.2 (c2.out _)).mono ?_; rintro e w5 ⟨⟨v, rfl, hr⟩, hb⟩; obtain ⟨A, cp, rfl⟩ := own_long hr)
      | (gi_at_call 32; refine (callsIn_wide.2 (sl_back _ _ _ _)).mono ?_; rintro e w6 ⟨rfl, rfl⟩)))
    rw [hz] at hb hr
    have hsz := hb.size
    rw [hz] at hsz
    have i0 : Boxed w5 w.heap.size 3 (.int .i64 p) := (hb.block _ (by omega)).trans d0
    have i1 : Boxed w5 (w.heap.size + 1) 3 (.int .i64 0) := (hb.block _ (by omega)).trans d1
    have i2 : Boxed w5 (w.heap.size + 1 + 1) 3 (.int .i64 0) := (hb.block _ (by omega)).trans d2
    have i3 : Boxed w5 (w.heap.size + 1 + 1 + 1) 4 (.bool false) := (hb.block _ (by omega)).trans b3
    have hB5 : Below w.heap.size w w5 := hB3.trans (hb.mono (by omega))
    have hP := Pairs.of_own hr rfl
    have hA : ∀ a, A = some a → a.block < (w5.alloc (.cells #[.slice A L.length cp] 24)).heap.size := fun a e => by
      subst e
      have := (hr.lt a.block rfl).2
      rw [World.size_alloc]; omega
    have bN := Boxed.new w5 24 (.slice A L.length cp)
    have hP6 := hP.below ((Below.refl w5.heap.size w5).alloc (Nat.le_refl _) (.cells #[.slice A L.length cp] 24))
    clear d0 d1 d2 b3 hB3 hb hr hz
    refine wpIn_rangeFunc_ownH rfl (by decide) (gf := 45) (lb := #[.pointer (some ⟨w5.heap.size, 0, none⟩)]) rfl trivial (enters_of Try.func45 (by kernel_rfl) rfl)
      (back_stops _ (by decide) w5.heap.size A cp L (by omega) _ bN hP6) Keep.t (Keep.b (by simp) hA) (Below.refl _ _) (fun _ => rfl)
      (fun pre W => (w5.heap.size + 1 ≤ W.heap.size ∧ Off pre p) ∧ Boxed W w.heap.size 3 (.int .i64 p) ∧ Boxed W (w.heap.size + 1) 3 (.int .i64 0) ∧ Boxed W (w.heap.size + 1 + 1) 3 (.int .i64 0) ∧ Boxed W (w.heap.size + 1 + 1 + 1) 4 (.bool false) ∧ Below w.heap.size w W)
      (fun c pre W => ∃ pre' x, c = .ret ∧ pre = pre' ++ [x] ∧ (Off pre' p ∧ Abt x.2 p) ∧ Boxed W (w.heap.size + 1) 3 (.int .i64 (x.2.1 : Nat)) ∧ Boxed W (w.heap.size + 1 + 1) 3 (.int .i64 (x.2.2 : Nat)) ∧ Boxed W (w.heap.size + 1 + 1 + 1) 4 (.bool true) ∧ Below w.heap.size w W)
      (fun pre X Y row ⟨hn, i0, i1, i2, i3, hi⟩ hg hr => ⟨⟨Nat.le_trans hn.1 hg.size, hn.2⟩, boxed_abide i0 hg (fun r e => (hr r e).2), boxed_abide i1 hg (fun r e => (hr r e).2), boxed_abide i2 hg (fun r e => (hr r e).2), boxed_abide i3 hg (fun r e => (hr r e).2), below_abide hi (Nat.le_refl _) (by rw [World.size_alloc]; omega) hg (fun r e => (hr r e).1)⟩)
      (fun c pre X Y row ⟨pre', x, hc, hp, hk, i1, i2, i3, hi⟩ hg hr => ⟨pre', x, hc, hp, hk, boxed_abide i1 hg (fun r e => (hr r e).2), boxed_abide i2 hg (fun r e => (hr r e).2), boxed_abide i3 hg (fun r e => (hr r e).2), below_abide hi (Nat.le_refl _) (by rw [World.size_alloc]; omega) hg (fun r e => (hr r e).1)⟩)
      ⟨⟨by rw [World.size_alloc]; exact Nat.le_refl _, fun y hy => absurd hy (by simp)⟩, i0.alloc _, i1.alloc _, i2.alloc _, i3.alloc _, hB5.alloc hB5.size _⟩
      (fun x a' W => ∃ Bx, w.heap.size + 4 ≤ Bx ∧ Blk W Bx 33 #[.int .i64 (x.2.1 : Nat), .int .i64 (x.2.2 : Nat)] ∧ a' = { tmps := #[.string s, .int .i64 p, .string k, undef, .pointer (some ⟨w.heap.size, 0, none⟩), undef, .pointer (some ⟨w.heap.size + 1, 0, none⟩), .pointer (some ⟨w.heap.size + 1 + 1, 0, none⟩), .pointer (some ⟨w.heap.size + 1 + 1 + 1, 0, none⟩), undef, .pointer (some ⟨Bx, 0, none⟩), .string s, .int .i64 p, .bool true, .bool false, .string s, .string k, .slice A L.length cp, .func (.func 45) #[] #[.pointer (some ⟨w5.heap.size, 0, none⟩)], .int .i64 (x.1 : Nat), .agg #[.int .i64 (x.2.1 : Nat), .int .i64 (x.2.2 : Nat)], undef, undef, undef, undef, undef, undef, undef, undef, undef, undef, undef, undef, undef, undef], defers := [] })
      (fun x a' _ X Y row hs hg hr => by obtain ⟨Bx, e1, e2, e3⟩ := hs; exact ⟨Bx, e1, blk_abide e2 hg (fun r e => (hr r e).2), e3⟩)
      ?assign ?body ?done ?stop
    case assign =>
      rintro l pre x W K ⟨hn, i0, i1, i2, i3, hB⟩ hK
      have hkeep : Keep w5.heap.size A W (W.alloc (.cells #[.int .i64 (x.2.1 : Nat), .int .i64 (x.2.2 : Nat)] 33)) := ⟨Below.heap_alloc _ _ _ (by omega), fun a e => Below.heap_alloc _ _ _ (by have := hA a e; rw [World.size_alloc] at this; omega)⟩
      have H0 := Lib.hid (hK _ _ ((KeepsOthers.alloc _ _).from _) hkeep ⟨⟨by rw [World.size_alloc]; omega, hn.2⟩, i0.alloc _, i1.alloc _, i2.alloc _, i3.alloc _, hB.alloc hB.size _⟩ ⟨W.heap.size, by omega, Blk.new W 33 #[.int .i64 (x.2.1 : Nat), .int .i64 (x.2.2 : Nat)], rfl⟩)
      clear hkeep i0 i1 i2 i3 hB
      simp only [encP]
      gi_wp2
      exact H0.out
    case body =>
      rintro l pre ⟨m, a, b⟩ a' W hl2 hr2 ⟨hn, i0, i1, i2, i3, hB⟩ ⟨Bx, hBx, hx, rfl⟩ hlt
      have c0 := i0.cell
      have x0 := hx.cell 0
      have x1 := hx.cell 1
      by_cases h1 : (a : Int) ≤ p
      · by_cases h2 : p ≤ (b : Int)
        · have f1 := i1.cell
          have q1 := i1.frozen
          have f2 := i2.cell
          have q2 := i2.frozen
          have f3 := i3.cell
          have q3 := i3.frozen
          gi_wp2
          gi_region
          all_goals
            gi_wp2
            have kk := (((KeepsOthers.setCell W ⟨w.heap.size + 1, 0, none⟩ (.int .i64 (a : Nat))).trans (KeepsOthers.setCell _ ⟨w.heap.size + 1 + 1, 0, none⟩ (.int .i64 (b : Nat)))).trans (KeepsOthers.setCell _ ⟨w.heap.size + 1 + 1 + 1, 0, none⟩ (.bool true))).from (w5.alloc (.cells #[.slice A L.length cp] 24)).heap.size
            have kb := ((hB.setCell (p := ⟨w.heap.size + 1, 0, none⟩) (by simp) (.int .i64 (a : Nat))).setCell (p := ⟨w.heap.size + 1 + 1, 0, none⟩) (by simp; omega) (.int .i64 (b : Nat))).setCell (p := ⟨w.heap.size + 1 + 1 + 1, 0, none⟩) (by simp; omega) (.bool true)
            exact ⟨⟨kk.size, kk.same⟩, pre, (m, a, b), rfl, rfl, ⟨hn.2, h1, h2⟩, boxed_far (boxed_far (i1.set (.int .i64 (a : Nat))) (C := w.heap.size + 1 + 1) (by omega) (.int .i64 (b : Nat))) (C := w.heap.size + 1 + 1 + 1) (by omega) (.bool true), boxed_far ((boxed_far i2 (C := w.heap.size + 1) (by omega) (.int .i64 (a : Nat))).set (.int .i64 (b : Nat))) (C := w.heap.size + 1 + 1 + 1) (by omega) (.bool true), (boxed_far (boxed_far i3 (C := w.heap.size + 1) (by omega) (.int .i64 (a : Nat))) (C := w.heap.size + 1 + 1) (by omega) (.int .i64 (b : Nat))).set (.bool true), kb.drew⟩
        · have HI : Hid ((w5.heap.size + 1 ≤ W.heap.size ∧ Off (pre ++ [(m, a, b)]) p) ∧ Boxed W w.heap.size 3 (.int .i64 p) ∧ Boxed W (w.heap.size + 1) 3 (.int .i64 0) ∧ Boxed W (w.heap.size + 1 + 1) 3 (.int .i64 0) ∧ Boxed W (w.heap.size + 1 + 1 + 1) 4 (.bool false) ∧ Below w.heap.size w W) :=
            ⟨⟨hn.1, fun y hy => by
              rcases List.mem_append.1 hy with h | h
              · exact hn.2 y h
              · rw [List.mem_singleton] at h; subst h; exact fun k => h2 k.2⟩, i0, i1, i2, i3, hB⟩
          clear i0 i1 i2 i3 hB hn hx
          gi_wp2
          exact ⟨KeepsFrom.refl _ _, ⟨rfl, fun _ _ => rfl⟩, HI.out⟩
      · have HI : Hid ((w5.heap.size + 1 ≤ W.heap.size ∧ Off (pre ++ [(m, a, b)]) p) ∧ Boxed W w.heap.size 3 (.int .i64 p) ∧ Boxed W (w.heap.size + 1) 3 (.int .i64 0) ∧ Boxed W (w.heap.size + 1 + 1) 3 (.int .i64 0) ∧ Boxed W (w.heap.size + 1 + 1 + 1) 4 (.bool false) ∧ Below w.heap.size w W) :=
          ⟨⟨hn.1, fun y hy => by
            rcases List.mem_append.1 hy with h | h
            · exact hn.2 y h
            · rw [List.mem_singleton] at h; subst h; exact fun k => h1 k.1⟩, i0, i1, i2, i3, hB⟩
        clear i0 i1 i2 i3 hB hn hx
        gi_wp2
        exact ⟨KeepsFrom.refl _ _, ⟨rfl, fun _ _ => rfl⟩, HI.out⟩
    case done =>
      rintro D ys W hD hys ⟨hn, i0, i1, i2, i3, hB⟩ hK
      have H : Hid (ar s.data.toList k.data.toList p = none) := by
        show _ = _
        rw [HA.out]
        refine arnd_none fun x hx => ?_
        have hx2 : x ∈ ys.map Prod.snd := by rw [hys]; exact List.mem_reverse.2 hx
        obtain ⟨y, hy, rfl⟩ := List.mem_map.1 hx2
        exact hn.2 y hy
      have c1 := i1.cell
      have f1 := i1.frozen
      have c2 := i2.cell
      have f2 := i2.frozen
      have c3 := i3.cell
      have f3 := i3.frozen
      gi_wp2
      have hK' := (((KeepsOthers.setCell W ⟨w.heap.size + 1, 0, none⟩ (.int .i64 0)).trans (KeepsOthers.setCell _ ⟨w.heap.size + 1 + 1, 0, none⟩ (.int .i64 0))).trans (KeepsOthers.setCell _ ⟨w.heap.size + 1 + 1 + 1, 0, none⟩ (.bool false))).same D _ hK rfl
      have j1 := boxed_far (boxed_far (i1.set (.int .i64 0)) (C := w.heap.size + 1 + 1) (by omega) (.int .i64 0)) (C := w.heap.size + 1 + 1 + 1) (by omega) (.bool false)
      have j2 := boxed_far ((boxed_far i2 (C := w.heap.size + 1) (by omega) (.int .i64 0)).set (.int .i64 0)) (C := w.heap.size + 1 + 1 + 1) (by omega) (.bool false)
      have j3 := (boxed_far (boxed_far i3 (C := w.heap.size + 1) (by omega) (.int .i64 0)) (C := w.heap.size + 1 + 1) (by omega) (.int .i64 0)).set (.bool false)
      have d1 := (putObj_boxed (o' := .deferred none) j1 hK' rfl).cell
      have d2 := (putObj_boxed (o' := .deferred none) j2 hK' rfl).cell
      have d3 := (putObj_boxed (o' := .deferred none) j3 hK' rfl).cell
      refine ⟨by simp, .inl ⟨_, _, rfl, run_takeDeferred hK', ?_⟩⟩
      refine ⟨.tuple #[.int .i64 0, .int .i64 0, .bool false], ?_, by rw [H.out]; rfl, (((hB.setCell (p := ⟨w.heap.size + 1, 0, none⟩) (by simp) _).setCell (p := ⟨w.heap.size + 1 + 1, 0, none⟩) (by simp; omega) _).setCell (p := ⟨w.heap.size + 1 + 1 + 1, 0, none⟩) (by simp; omega) _).trans (belowK_b (w := w) (Nat.le_refl _) _ D _ _ (by rw [World.size_alloc] at hD; omega) hK' rfl rfl)⟩
      simp [results, Try.f13, go_sem, d1, d2, d3]
    case stop =>
      rintro D c pre W hD hpre ⟨pre', x, rfl, rfl, ⟨h1, h2⟩, i1, i2, i3, hB⟩ hK
      have H : Hid (ar s.data.toList k.data.toList p = some x.2) := by
        show _ = _
        rw [HA.out]
        obtain ⟨t, ht⟩ := hpre
        rw [List.map_append, List.map_cons, List.map_nil, List.append_assoc, List.singleton_append] at ht
        exact arnd_rev ht.symm (fun y hy => by obtain ⟨z, hz, rfl⟩ := List.mem_map.1 hy; exact h1 z hz) h2
      gi_wp2
      have e1 := (putObj_boxed (o' := .deferred none) i1 hK rfl).cell
      have e2 := (putObj_boxed (o' := .deferred none) i2 hK rfl).cell
      have e3 := (putObj_boxed (o' := .deferred none) i3 hK rfl).cell
      refine ⟨by simp, .inl ⟨_, _, rfl, run_takeDeferred hK, ?_⟩⟩
      refine ⟨.tuple #[.int .i64 (x.2.1 : Nat), .int .i64 (x.2.2 : Nat), .bool true], ?_, by rw [H.out]; rfl, hB.trans (belowK_b (w := w) (Nat.le_refl _) W D _ _ (by rw [World.size_alloc] at hD; omega) hK rfl rfl)⟩
      simp [results, Try.f13, go_sem, e1, e2, e3]
end Go.Proofs.Ytijjpnppedhfnaa
