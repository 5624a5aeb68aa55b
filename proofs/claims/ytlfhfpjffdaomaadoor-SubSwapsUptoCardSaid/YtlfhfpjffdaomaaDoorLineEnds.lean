/-
  Package line: where line k begins and ends.
-/
import Derived.Test.YtlfhfpjffdaomaaDoorLineCount
namespace Go.Proofs.YtlfhfpjffdaomaaDoor
open Go.RowKit Go.Shelf
attribute [local go_sem] Oper.semAt_some
theorem putObj_boxed {W : World} {B D : Nat} {t : TypeId} {v : Value} {o o' : Obj} (h : Boxed W B t v) (hD : W.heap[D]? = some o) (ho : o.isCells = false) : Boxed (W.putObj D o') B t v :=
  boxed_abide h (grownBy_putObj' W D o') (fun r e => by cases e; exact ⟨o, hD, ho⟩)
theorem Line.line_not {s : List UInt8} {k : Int} (h : ∀ j : Nat, j < (L s).length → (j : Int) ≠ k) : line s k = none := by
  by_cases h0 : k < 0
  · exact line_low h0
  · refine line_past ?_
    by_cases h1 : k < ((L s).length : Int)
    · exact absurd (show ((k.toNat : Nat) : Int) = k by omega) (h k.toNat (by omega))
    · omega
theorem Line.line_pre {s : List UInt8} {k : Int} {pre : List (Nat × Nat)} {x : Nat × Nat} (h : pre ++ [x] <+: L s) (hk : (pre.length : Int) = k) : line s k = some x := by
  obtain ⟨r, hr⟩ := h
  subst hk
  rw [line_nat, ← hr]
  simp
set_option maxRecDepth 100000 in
set_option maxHeartbeats 2000000 in
theorem line_ends (s : ByteArray) (k : Int) (hs : s.size ≤ 1000000000000) (w : World) :
    Calls Tryd.prog 36 #[.string s, .int .i64 k] w fun e w' => e = .returned (.tuple #[.int .i64 (Line.start s.data.toList k), .int .i64 (Line.stop s.data.toList k)]) ∧ Below w.heap.size w w' := by
  have hlen := Line.L_length s.data.toList
  rw [data_len] at hlen
  refine (callsIn_wide (n := 3)).1 ?_
  refine callsIn_of_wp_marks Tryd.func36 rfl trivial ?_ rfl
  simp only [Tryd.ntmps36, List.size_toArray, List.length_cons, List.length_nil, Nat.reduceAdd, Nat.reduceSub, Array.replicate_succ, Array.replicate_zero, List.push_toArray, List.append_toArray, List.nil_append, List.cons_append]
  gi_wp2_with (refine ⟨trivial, ?_⟩; gi_at_call 33; refine (callsIn_wide.2 (line_lines s _)).mono ?_; rintro e w' ⟨rfl, rfl⟩)
  have b0 := Boxed.new w 3 (.int .i64 k)
  have hB0 := (Below.refl w.heap.size w).alloc (Nat.le_refl _) (.cells #[.int .i64 k] 3)
  have b1 := Boxed.new (w.alloc (.cells #[.int .i64 k] 3)) 3 (.int .i64 0)
  have hB1 := hB0.alloc (by simp) (.cells #[.int .i64 0] 3)
  have b2 := Boxed.new ((w.alloc (.cells #[.int .i64 k] 3)).alloc (.cells #[.int .i64 0] 3)) 3 (.int .i64 0)
  have hB2 := hB1.alloc (by simp; omega) (.cells #[.int .i64 0] 3)
  have b3 := Boxed.new (((w.alloc (.cells #[.int .i64 k] 3)).alloc (.cells #[.int .i64 0] 3)).alloc (.cells #[.int .i64 0] 3)) 3 (.int .i64 0)
  have hB3 := hB2.alloc (by simp; omega) (.cells #[.int .i64 0] 3)
  have b4 := Boxed.new ((((w.alloc (.cells #[.int .i64 k] 3)).alloc (.cells #[.int .i64 0] 3)).alloc (.cells #[.int .i64 0] 3)).alloc (.cells #[.int .i64 0] 3)) 9 (.string s)
  have hB4 := hB3.alloc (by simp; omega) (.cells #[.string s] 9)
  simp only [World.size_alloc] at b1 b2 b3 b4
  refine wpIn_rangeFunc_ownF rfl (by decide) (gf := 48) (lb := #[.pointer (some ⟨w.heap.size + 1 + 1 + 1 + 1, 0, none⟩)]) rfl trivial (enters_of Tryd.func48 (by kernel_rfl) rfl)
    (line_stops _ (by decide) (w.heap.size + 1 + 1 + 1 + 1) s hs _ b4) Line.Same.t (Line.Same.b (by simp)) (Below.refl _ _) (fun _ => rfl)
    (fun pre W => (∀ j : Nat, j < pre.length → (j : Int) ≠ k) ∧ Boxed W w.heap.size 3 (.int .i64 k) ∧ Boxed W (w.heap.size + 1) 3 (.int .i64 0) ∧ Boxed W (w.heap.size + 1 + 1) 3 (.int .i64 0) ∧ Boxed W (w.heap.size + 1 + 1 + 1) 3 (.int .i64 (pre.length : Nat)) ∧ Below w.heap.size w W)
    (fun c pre W => ∃ pre' x, c = .ret ∧ pre = pre' ++ [x] ∧ (pre'.length : Int) = k ∧ Boxed W (w.heap.size + 1) 3 (.int .i64 (x.1 : Nat)) ∧ Boxed W (w.heap.size + 1 + 1) 3 (.int .i64 (x.2 : Nat)) ∧ Below w.heap.size w W)
    (fun pre X Y row ⟨hn, i0, i1, i2, i3, hi⟩ hg hr => ⟨hn, boxed_abide i0 hg (fun r e => (hr r e).2), boxed_abide i1 hg (fun r e => (hr r e).2), boxed_abide i2 hg (fun r e => (hr r e).2), boxed_abide i3 hg (fun r e => (hr r e).2), below_abide hi (Nat.le_refl _) (by simp; omega) hg (fun r e => (hr r e).1)⟩)
    (fun c pre X Y row ⟨pre', x, hc, hp, hk, i1, i2, hi⟩ hg hr => ⟨pre', x, hc, hp, hk, boxed_abide i1 hg (fun r e => (hr r e).2), boxed_abide i2 hg (fun r e => (hr r e).2), below_abide hi (Nat.le_refl _) (by simp; omega) hg (fun r e => (hr r e).1)⟩)
    ⟨fun j hj => absurd hj (Nat.not_lt_zero j), (((b0.alloc _).alloc _).alloc _).alloc _, ((b1.alloc _).alloc _).alloc _, (b2.alloc _).alloc _, b3.alloc _, hB4⟩
    (fun x => { tmps := #[.string s, .int .i64 k, undef, .pointer (some ⟨w.heap.size, 0, none⟩), .pointer (some ⟨w.heap.size + 1, 0, none⟩), .pointer (some ⟨w.heap.size + 1 + 1, 0, none⟩), .pointer (some ⟨w.heap.size + 1 + 1 + 1, 0, none⟩), .int .i64 (x.1 : Nat), .int .i64 (x.2 : Nat), .string s, .func (.func 48) #[] #[.pointer (some ⟨w.heap.size + 1 + 1 + 1 + 1, 0, none⟩)], .int .i64 (x.1 : Nat), .int .i64 (x.2 : Nat), undef, undef, undef, undef, undef, undef, undef], defers := [] }) ?assign ?body ?done ?stop
  case assign =>
    intro l x W K hK
    simp only [Line.encs]
    gi_wp2
    exact hK
  case body =>
    rintro l pre x W ⟨hn, i0, i1, i2, i3, hB⟩ hlt
    have c0 := i0.cell
    have c1 := i1.cell
    have f1 := i1.frozen
    have c2 := i2.cell
    have f2 := i2.frozen
    have c3 := i3.cell
    have f3 := i3.frozen
    by_cases he : (pre.length : Int) = k
    · have g : ((pre.length : Int) == k) = true := by simp [he]
      gi_wp2
      exact ⟨(KeepsOthers.setCell _ _ _).trans (KeepsOthers.setCell _ _ _), pre, x, rfl, rfl, he, boxed_far (i1.set _) (by omega) _, (boxed_far i2 (by omega) _).set _, (hB.setCell (p := ⟨w.heap.size + 1, 0, none⟩) (by simp) _).setCell (p := ⟨w.heap.size + 1 + 1, 0, none⟩) (by simp; omega) _⟩
    · have g : ((pre.length : Int) == k) = false := by simp [he]
      gi_wp2
      refine ⟨KeepsOthers.setCell _ _ _, Below.heap_setCell _ _ _ _ (by simp), fun j hj => ?_, boxed_far i0 (by omega) _, boxed_far i1 (by omega) _, boxed_far i2 (by omega) _, by rw [List.length_append]; exact i3.set _, hB.setCell (p := ⟨w.heap.size + 1 + 1 + 1, 0, none⟩) (by simp; omega) _⟩
      rw [List.length_append] at hj
      rcases Nat.lt_or_ge j pre.length with h | h
      · exact hn j h
      · rw [show j = pre.length by simp at hj; omega]; exact he
  case done =>
    rintro D ys W hD rfl ⟨hn, i0, i1, i2, i3, hB⟩ hK
    have hno := Line.line_not hn
    have c1 := i1.cell
    have f1 := i1.frozen
    have c2 := i2.cell
    have f2 := i2.frozen
    gi_wp2
    have hK' := ((KeepsOthers.setCell W ⟨w.heap.size + 1, 0, none⟩ (.int .i64 (-1))).trans (KeepsOthers.setCell _ ⟨w.heap.size + 1 + 1, 0, none⟩ (.int .i64 (-1)))).same D _ hK rfl
    have j1 : Boxed ((W.setCell ⟨w.heap.size + 1, 0, none⟩ (.int .i64 (-1))).setCell ⟨w.heap.size + 1 + 1, 0, none⟩ (.int .i64 (-1))) (w.heap.size + 1) 3 (.int .i64 (-1)) := boxed_far (i1.set _) (by omega) _
    have j2 : Boxed ((W.setCell ⟨w.heap.size + 1, 0, none⟩ (.int .i64 (-1))).setCell ⟨w.heap.size + 1 + 1, 0, none⟩ (.int .i64 (-1))) (w.heap.size + 1 + 1) 3 (.int .i64 (-1)) := (boxed_far i2 (by omega) _).set _
    have d1 := (putObj_boxed (o' := .deferred none) j1 hK' rfl).cell
    have d2 := (putObj_boxed (o' := .deferred none) j2 hK' rfl).cell
    refine ⟨by simp, .inl ⟨_, _, rfl, run_takeDeferred hK', ?_⟩⟩
    refine ⟨_, ?_, by rw [Line.start_none hno, Line.stop_none hno], (((hB.setCell (p := ⟨w.heap.size + 1, 0, none⟩) (by simp) _).setCell (p := ⟨w.heap.size + 1 + 1, 0, none⟩) (by simp; omega) _)).trans (belowK_b (w := w) (Nat.le_refl _) _ D _ _ (by simp at hD; omega) hK' rfl rfl)⟩
    simp [results, Tryd.f36, go_sem, d1, d2]
  case stop =>
    rintro D c pre W hD hpre ⟨pre', x, rfl, rfl, hk, i1, i2, hB⟩ hK
    have hx := Line.line_pre hpre hk
    gi_wp2
    have d1 := (putObj_boxed (o' := .deferred none) i1 hK rfl).cell
    have d2 := (putObj_boxed (o' := .deferred none) i2 hK rfl).cell
    refine ⟨by simp, .inl ⟨_, _, rfl, run_takeDeferred hK, ?_⟩⟩
    refine ⟨_, ?_, by rw [Line.start_some hx, Line.stop_some hx], hB.trans (belowK_b (w := w) (Nat.le_refl _) W D _ _ (by simp at hD; omega) hK rfl rfl)⟩
    simp [results, Tryd.f36, go_sem, d1, d2]
end Go.Proofs.YtlfhfpjffdaomaaDoor
