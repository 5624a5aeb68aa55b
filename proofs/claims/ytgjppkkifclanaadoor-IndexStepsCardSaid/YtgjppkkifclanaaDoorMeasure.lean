/-
  How long the lines of a text are: measure.
-/
import Derived.Test.YtgjppkkifclanaaDoorSplitSeq
import Derived.Test.YtgjppkkifclanaaDoorInts
import Derived.Test.YtgjppkkifclanaaDoorCells
namespace Go.Proofs.YtgjppkkifclanaaDoor
open Go.RowKit Go.Shelf
attribute [local go_sem] Oper.semAt_some
namespace Ix
/-- Cells of numbers. -/
def vals (l : List Nat) : List Value := l.map fun n => .int .i64 (n : Nat)
theorem vals_length (l : List Nat) : (vals l).length = l.length := by simp [vals]
theorem vals_one (l : List Nat) : ∀ v ∈ vals l, v.oneCell' = true := by
  intro v hv
  simp [vals] at hv
  obtain ⟨n, _, rfl⟩ := hv
  rfl
theorem vals_get {l : List Nat} {k n : Nat} (h : l[k]? = some n) : (vals l)[k]? = some (.int .i64 (n : Nat)) := by simp [vals, h]
theorem vals_append (a b : List Nat) : vals (a ++ b) = vals a ++ vals b := by simp [vals]
theorem vals_take (l : List Nat) (k : Nat) : vals (l.take k) = (vals l).take k := by simp [vals, List.map_take]
theorem vals_drop (l : List Nat) (k : Nat) : vals (l.drop k) = (vals l).drop k := by simp [vals, List.map_drop]
/-- A list of numbers that memory holds from block B on. -/
def Row (B : Nat) (v : Value) (l : List Nat) (w : World) : Prop := w.ownsRow B 3 1 v l.length (vals l)
theorem Row.shape {B : Nat} {v : Value} {l : List Nat} {w : World} (h : Row B v l w) : ∃ a c, v = .slice a l.length c := own_shape h
theorem Row.ints {B : Nat} {v : Value} {l : List Nat} {w : World} {A : Option Addr} {n c : Nat} (h : Row B v l w) (hv : v = .slice A n c) : Ints w A (l.map fun n : Nat => (n : Int)) :=
  Ints.of_own (B := B) (by rw [List.length_map, List.map_map]; exact h) hv
end Ix
set_option maxRecDepth 100000 in
set_option maxHeartbeats 2000000 in
theorem index_measure (s : List UInt8) (hs : s.length ≤ 1000000000000) (w : World) :
    Calls Tryd.prog 24 #[.string (bs s)] w fun e w' => (∃ v, e = .returned v ∧ Ix.Row w.heap.size v (Ix.lens s) w') ∧ Below w.heap.size w w' := by
  have ci := fun w => Tryd.strings_Count_one (bs s) 10 w
  rw [bs_toList] at ci
  have C : Hid (∀ w : World, Calls Tryd.prog 31 #[.string (bs s), .string ⟨#[10]⟩] w fun e w' => e = .returned (.int .i64 (Lib.countByte s 10 : Nat)) ∧ w = w') := fun w => (ci w).mono fun e w' h => ⟨h.1, h.2.symm⟩
  have hcl : Lib.countByte s 10 ≤ s.length := List.count_le_length
  have hN : (Ix.parts s).length = Lib.countByte s 10 + 1 := Ix.parts_length s
  generalize Lib.countByte s 10 = m at *
  clear ci
  obtain ⟨i0, hi0, hz0, hz1, hz2⟩ := info_parts info_int
  have hm : ∀ w : World, (Instr.makeSlice 42 (.int .i64 0) (.int .i64 ((m : Int) + 1))).run Tryd.prog w = .ok (.slice (some ⟨w.heap.size, 0, none⟩) 0 (m + 1)) (w.alloc (.cells (madeCells (Value.int .i64 0).cells (m + 1)) 3)) := fun w => by
    have := run_make (P := Tryd.prog) w 42 3 i0 (.int .i64 0) Tryd.underlying42 hi0 hz0 .i64 .i64 0 ((m : Int) + 1) (Int.le_refl _) (by omega) (by rw [hz2]; omega) (by omega)
    rw [hz1, show ((m : Int) + 1).toNat = m + 1 by omega, Nat.mul_one] at this
    exact this
  have hM := fun w : World => World.ownsRow_made (e := 3) (size := 1) (base := w.heap.size) w (madeCells (Value.int .i64 0).cells (m + 1)) (m + 1) (Nat.le_refl _) (by unfold maxLen; omega) (by rw [size_madeCells]; simp)
  generalize madeCells (Value.int .i64 0).cells (m + 1) = M at hm hM
  have hM1 := Lib.hid hM
  clear hM
  refine (callsIn_wide (n := 3)).1 ?_
  refine callsIn_of_wp_marks Tryd.func24 rfl trivial ?_ rfl
  simp only [Tryd.ntmps24, List.size_toArray, List.length_cons, List.length_nil, Nat.reduceAdd, Nat.reduceSub, Array.replicate_succ, Array.replicate_zero, List.push_toArray, List.append_toArray, List.nil_append, List.cons_append]
  gi_wp2_with (first
    | (refine ⟨trivial, ?_⟩; gi_at_call 31; refine (callsIn_wide.2 (C.out _)).mono ?_; rintro e w' ⟨rfl, rfl⟩)
    | (refine ⟨trivial, ?_⟩; gi_at_call 32; refine (callsIn_wide.2 (split_make _ _)).mono ?_; rintro e w' ⟨rfl, rfl⟩))
  have b1 := (((Boxed.new (w.alloc (.cells M 3)) 42 (.slice (some ⟨w.heap.size, 0, none⟩) 0 (m + 1))).alloc (.cells #[.string (bs s)] 9)).alloc (.cells #[.string ⟨#[10]⟩] 9)).alloc (.cells #[.int .i64 0] 3)
  have b2 := ((Boxed.new ((w.alloc (.cells M 3)).alloc (.cells #[.slice (some ⟨w.heap.size, 0, none⟩) 0 (m + 1)] 42)) 9 (.string (bs s))).alloc (.cells #[.string ⟨#[10]⟩] 9)).alloc (.cells #[.int .i64 0] 3)
  have b3 := (Boxed.new (((w.alloc (.cells M 3)).alloc (.cells #[.slice (some ⟨w.heap.size, 0, none⟩) 0 (m + 1)] 42)).alloc (.cells #[.string (bs s)] 9)) 9 (.string ⟨#[10]⟩)).alloc (.cells #[.int .i64 0] 3)
  have b4 := Boxed.new ((((w.alloc (.cells M 3)).alloc (.cells #[.slice (some ⟨w.heap.size, 0, none⟩) 0 (m + 1)] 42)).alloc (.cells #[.string (bs s)] 9)).alloc (.cells #[.string ⟨#[10]⟩] 9)) 3 (.int .i64 0)
  have hr := ((((hM1.out w).alloc (.cells #[.slice (some ⟨w.heap.size, 0, none⟩) 0 (m + 1)] 42)).alloc (.cells #[.string (bs s)] 9)).alloc (.cells #[.string ⟨#[10]⟩] 9)).alloc (.cells #[.int .i64 0] 3)
  have hB : Below w.heap.size w (((((w.alloc (.cells M 3)).alloc (.cells #[.slice (some ⟨w.heap.size, 0, none⟩) 0 (m + 1)] 42)).alloc (.cells #[.string (bs s)] 9)).alloc (.cells #[.string ⟨#[10]⟩] 9)).alloc (.cells #[.int .i64 0] 3)) :=
    (((((Below.refl _ w).alloc (Nat.le_refl _) _).alloc (by simp) _).alloc (by simp; omega) _).alloc (by simp; omega) _).alloc (by simp; omega) _
  have hXs : (((((w.alloc (.cells M 3)).alloc (.cells #[.slice (some ⟨w.heap.size, 0, none⟩) 0 (m + 1)] 42)).alloc (.cells #[.string (bs s)] 9)).alloc (.cells #[.string ⟨#[10]⟩] 9)).alloc (.cells #[.int .i64 0] 3)).heap.size = w.heap.size + 5 := by simp [World.size_alloc]
  simp only [World.size_alloc] at b1 b2 b3 b4
  generalize (((((w.alloc (.cells M 3)).alloc (.cells #[.slice (some ⟨w.heap.size, 0, none⟩) 0 (m + 1)] 42)).alloc (.cells #[.string (bs s)] 9)).alloc (.cells #[.string ⟨#[10]⟩] 9)).alloc (.cells #[.int .i64 0] 3)) = X at b1 b2 b3 b4 hr hB hXs ⊢
  clear hM1 hm
  refine wpIn_seqOwn rfl (by decide) (gf := 47) (lb := #[.pointer (some ⟨w.heap.size + 1 + 1 + 1, 0, none⟩), .pointer (some ⟨w.heap.size + 1 + 1, 0, none⟩), .pointer (some ⟨w.heap.size + 1 + 1 + 2, 0, none⟩)]) rfl trivial (enters_of Tryd.func47 (by kernel_rfl) rfl)
    (split_own _ (by decide) (w.heap.size + 1 + 1) (w.heap.size + 1 + 1 + 1) (w.heap.size + 1 + 1 + 2) s hs (by omega) (by omega) X b2 b3 b4) (fun A B h => h.keeps) Ix.Boxes.t
    (fun W l o o' hl _ _ => ⟨World.putObj_heap_other (by omega), World.putObj_heap_other (by omega), World.putObj_heap_other (by omega)⟩) (Below.refl _ _) (fun _ => rfl)
    (fun pre W => Boxed W (w.heap.size + 1) 42 (.slice (some ⟨w.heap.size, 0, none⟩) pre.length (m + 1)) ∧ W.ownsRow w.heap.size 3 1 (.slice (some ⟨w.heap.size, 0, none⟩) pre.length (m + 1)) pre.length (Ix.vals (pre.map List.length)) ∧ Below w.heap.size w W ∧ w.heap.size + 5 ≤ W.heap.size)
    ?abides ?own ⟨b1, hr, hB, by omega⟩
    (fun x => { tmps := #[.string (bs s), undef, .slice none 0 0, .pointer (some ⟨w.heap.size + 1, 0, none⟩), .string (bs x), .string (bs s), .int .i64 (m : Nat), .int .i64 ((m : Int) + 1), .slice (some ⟨w.heap.size, 0, none⟩) 0 (m + 1), .string (bs s), .func (.func 47) #[] #[.pointer (some ⟨w.heap.size + 1 + 1 + 1, 0, none⟩), .pointer (some ⟨w.heap.size + 1 + 1, 0, none⟩), .pointer (some ⟨w.heap.size + 1 + 1 + 2, 0, none⟩)], .string (bs x), undef, undef, undef, undef, undef, undef], defers := [] }) ?assign ?body ?done
  case abides =>
    rintro pre A B row ⟨h1, h2, h3, h4⟩ hg hrow
    have hne : ∀ b, b < w.heap.size + 5 → row ≠ some b := fun b hb e => by have := (hrow b e).1; omega
    refine ⟨h1.kept hg (fun e => hne _ (by omega) e.symm), h2.kept hg (Or.inr (fun e => hne w.heap.size (by omega) (by rw [← e]; rfl))), ?_, Nat.le_trans h4 hg.size⟩
    exact h3.grown hg (Nat.le_trans (Nat.le_refl _) h3.size) (fun k e => by have := (hrow k e).1; omega)
  case own =>
    rintro pre A B ⟨h1, h2, h3, h4⟩ ⟨v, rfl⟩
    refine ⟨boxed_other h1 (by omega) _, h2.kept (grownBy_setCell' A _ _) (Or.inr (by simp [Value.ownBlock]; omega)), h3.setCell (p := ⟨w.heap.size + 1 + 1, 0, none⟩) (by simp; omega) _, by simpa [World.setCell] using h4⟩
  case assign =>
    intro l x W K hK
    gi_wp2
    exact hK
  case body =>
    rintro l pre x W ⟨hb, hrow, hBw, hsz⟩ hlt
    have hc := hb.cell
    have hx : (bs x).size = x.length := bs_size x
    have hgc : ∃ cs, W.heap[w.heap.size]? = some (.cells cs 3 (0, 0)) := by
      obtain ⟨_, _, _, _, cur, hg, _⟩ := row_of_own hrow
      exact ⟨_, hg⟩
    rw [hN] at hlt
    gi_wp2_with (gi_at_builtin; refine wpListIn_append_fits _ rfl _ _ 42 rfl w.heap.size 3 i0 1 Tryd.underlying42 hi0 hz1 w.heap.size pre.length (m + 1) (Ix.vals (pre.map List.length)) rfl (hrow.alloc _) ⟨W.heap.size, 0, none⟩ 1 1 [.int .i64 (x.length : Nat)] rfl rfl (cell_one_new _ _ _) (by simp [Value.oneCell']) (by omega) ?_; intro w1 hown' hgrow; have hb1 := (hb.alloc (.cells #[.int .i64 (x.length : Nat)] 3)).kept hgrow (by simp); have hc1 := hb1.cell; have hf1 := hb1.frozen)
    have hs1 : W.heap.size ≤ w1.heap.size := Nat.le_trans (by simp [World.size_alloc]) hgrow.size
    have hsame : ∀ b, b < W.heap.size → b ≠ w.heap.size → b ≠ w.heap.size + 1 → (w1.setCell ⟨w.heap.size + 1, 0, none⟩ (.slice (some ⟨w.heap.size, 0, none⟩) (pre.length + 1) (m + 1))).heap[b]? = W.heap[b]? := fun b h1 h2 h3 => by
      rw [Below.heap_setCell _ _ _ _ (by simpa using h3), hgrow.block b (by simp [World.size_alloc]; omega) (by simp; omega)]
      exact Below.heap_alloc _ _ _ h1
    refine ⟨⟨by simpa [World.setCell] using hs1, fun k o hk ho => ?_⟩, ⟨hsame _ (by omega) (by omega) (by omega), hsame _ (by omega) (by omega) (by omega), hsame _ (by omega) (by omega) (by omega)⟩, ?_, ?_, ?_, by simpa [World.setCell] using Nat.le_trans hsz hs1⟩
    · have hlt : k < W.heap.size := (Array.getElem?_eq_some_iff.1 hk).1
      refine (hsame k hlt ?_ ?_).trans hk
      · rintro rfl
        obtain ⟨cs, hcs⟩ := hgc
        rw [hcs] at hk; cases hk; cases ho
      · rintro rfl
        rw [show W.heap[w.heap.size + 1]? = _ from hb] at hk; cases hk; cases ho
    · rw [List.length_append]; exact hb1.set _
    · rw [List.length_append, List.map_append, Ix.vals_append]
      exact hown'.kept (grownBy_setCell' w1 _ _) (Or.inr (by simp [Value.ownBlock]))
    · exact ((hBw.alloc (by omega) _).grown hgrow (by simp [World.size_alloc]; omega) (fun k e => by injection e with e; omega)).setCell (p := ⟨w.heap.size + 1, 0, none⟩) (by simp) _
  case done =>
    rintro D ys W hD rfl ⟨hb, hrow, hBw, _⟩ hK
    have hc := hb.cell
    gi_wp2
    refine ⟨by simp, .inl ⟨_, _, rfl, run_takeDeferred hK, ?_⟩⟩
    refine ⟨_, results_tmp rfl _ _ _, ⟨_, rfl, ?_⟩, hBw.trans (belowK_b (w := w) (Nat.le_refl _) W D _ _ (by omega) hK rfl rfl)⟩
    unfold Ix.Row
    rw [hN] at hrow
    rw [← Ix.parts_lens, List.length_map, hN]
    exact ownsRow_putObj hrow _ hK rfl
end Go.Proofs.YtgjppkkifclanaaDoor
