/-
  Package line: the line around an offset, and where that begins and ends.
-/
import Derived.Test.YtlfhfpjffdaomaaDoorLineEnds
namespace Go.Proofs.YtlfhfpjffdaomaaDoor
open Go.RowKit Go.Shelf
attribute [local go_sem] Oper.semAt_some
theorem Line.idx_not {s : List UInt8} {p : Int} (h : ∀ x ∈ L s, (x.2 : Int) < p) : idx s p = none := by
  rw [idx]
  split
  · rfl
  · rw [List.findIdx?_eq_none_iff]
    intro x hx
    have := h x hx
    simp; omega
theorem Line.idx_pre {s : List UInt8} {p : Int} {pre : List (Nat × Nat)} {x : Nat × Nat} (h : pre ++ [x] <+: L s) (h0 : 0 ≤ p) (h1 : ∀ y ∈ pre, (y.2 : Int) < p) (h2 : p ≤ x.2) : idx s p = some pre.length := by
  obtain ⟨r, hr⟩ := h
  rw [idx, if_neg (by omega), ← hr, List.findIdx?_eq_some_iff_getElem]
  refine ⟨by simp, by simp [h2], fun j hj => ?_⟩
  have h3 : ((pre ++ [x]) ++ r)[j]'(by simp; omega) = pre[j] := (List.getElem_append_left (by simp; omega)).trans (List.getElem_append_left hj)
  rw [h3]
  have := h1 pre[j] (List.getElem_mem hj)
  simp; omega
theorem Line.of_idx {s : List UInt8} {p : Int} {k : Nat} (h : idx s p = some k) : of_ s p = k := by rw [of_, h]
theorem Line.of_not {s : List UInt8} {p : Int} (h : idx s p = none) : of_ s p = -1 ∧ start s (of_ s p) = -1 ∧ stop s (of_ s p) = -1 := by
  have : of_ s p = -1 := by rw [of_, h]
  rw [this]
  exact ⟨rfl, start_none (line_low (by decide)), stop_none (line_low (by decide))⟩
/-- All of these lines end ahead of p. -/
def Line.ahead (l : List (Nat × Nat)) (p : Int) : Prop := ∀ y ∈ l, (y.2 : Int) < p
/-- What the three results of 'around' are. -/
abbrev Line.aroundT (s : List UInt8) (p : Int) : Value := .tuple #[.int .i64 (of_ s p), .int .i64 (start s (of_ s p)), .int .i64 (stop s (of_ s p))]
set_option maxRecDepth 100000 in
set_option maxHeartbeats 2000000 in
theorem line_around (s : ByteArray) (p : Int) (hs : s.size ≤ 1000000000000) (w : World) :
    Calls Tryd.prog 35 #[.string s, .int .i64 p] w fun e w' => e = .returned (Line.aroundT s.data.toList p) ∧ Below w.heap.size w w' := by
  have hlen := Line.L_length s.data.toList
  rw [data_len] at hlen
  refine (callsIn_wide (n := 3)).1 ?_
  refine callsIn_of_wp_marks Tryd.func35 rfl trivial ?_ rfl
  simp only [Tryd.ntmps35, List.size_toArray, List.length_cons, List.length_nil, Nat.reduceAdd, Nat.reduceSub, Array.replicate_succ, Array.replicate_zero, List.push_toArray, List.append_toArray, List.nil_append, List.cons_append]
  have b0 := Boxed.new w 3 (.int .i64 p)
  have hB0 := (Below.refl w.heap.size w).alloc (Nat.le_refl _) (.cells #[.int .i64 p] 3)
  have b1 := Boxed.new (w.alloc (.cells #[.int .i64 p] 3)) 3 (.int .i64 0)
  have hB1 := hB0.alloc (by simp) (.cells #[.int .i64 0] 3)
  have b2 := Boxed.new ((w.alloc (.cells #[.int .i64 p] 3)).alloc (.cells #[.int .i64 0] 3)) 3 (.int .i64 0)
  have hB2 := hB1.alloc (by simp; omega) (.cells #[.int .i64 0] 3)
  have b3 := Boxed.new (((w.alloc (.cells #[.int .i64 p] 3)).alloc (.cells #[.int .i64 0] 3)).alloc (.cells #[.int .i64 0] 3)) 3 (.int .i64 0)
  have hB3 := hB2.alloc (by simp; omega) (.cells #[.int .i64 0] 3)
  simp only [World.size_alloc] at b1 b2 b3
  by_cases h0 : p < 0
  · obtain ⟨n1, n2, n3⟩ := Line.of_not (Line.idx_none (s := s.data.toList) (p := p) (Or.inl h0))
    gi_wp2
    have a1 := Boxed.new (w.alloc (.cells #[.int .i64 p] 3)) 3 (.int .i64 (-1))
    have a2 := Boxed.new ((w.alloc (.cells #[.int .i64 p] 3)).alloc (.cells #[.int .i64 (-1)] 3)) 3 (.int .i64 (-1))
    have a3 := Boxed.new (((w.alloc (.cells #[.int .i64 p] 3)).alloc (.cells #[.int .i64 (-1)] 3)).alloc (.cells #[.int .i64 (-1)] 3)) 3 (.int .i64 (-1))
    simp only [World.size_alloc] at a1 a2 a3
    have d1 := ((a1.alloc (.cells #[.int .i64 (-1)] 3)).alloc (.cells #[.int .i64 (-1)] 3)).cell
    have d2 := (a2.alloc (.cells #[.int .i64 (-1)] 3)).cell
    have d3 := a3.cell
    refine ⟨_, ?_, by rw [Line.aroundT, n2, n3, n1], ((hB0.alloc (by simp) _).alloc (by simp; omega) _).alloc (by simp; omega) _⟩
    simp only [results, Tryd.f35]
    simp [go_sem, d1, d2, d3]
  · gi_wp2_with (refine ⟨trivial, ?_⟩; gi_at_call 33; refine (callsIn_wide.2 (line_lines s _)).mono ?_; rintro e w' ⟨rfl, rfl⟩)
    have b4 := Boxed.new ((((w.alloc (.cells #[.int .i64 p] 3)).alloc (.cells #[.int .i64 0] 3)).alloc (.cells #[.int .i64 0] 3)).alloc (.cells #[.int .i64 0] 3)) 3 (.int .i64 0)
    have hB4 := hB3.alloc (by simp; omega) (.cells #[.int .i64 0] 3)
    have b5 := Boxed.new (((((w.alloc (.cells #[.int .i64 p] 3)).alloc (.cells #[.int .i64 0] 3)).alloc (.cells #[.int .i64 0] 3)).alloc (.cells #[.int .i64 0] 3)).alloc (.cells #[.int .i64 0] 3)) 9 (.string s)
    have hB5 := hB4.alloc (by simp; omega) (.cells #[.string s] 9)
    simp only [World.size_alloc] at b4 b5
    refine wpIn_rangeFunc_ownF rfl (by decide) (gf := 48) (lb := #[.pointer (some ⟨w.heap.size + 1 + 1 + 1 + 1 + 1, 0, none⟩)]) rfl trivial (enters_of Tryd.func48 (by kernel_rfl) rfl)
      (line_stops _ (by decide) (w.heap.size + 1 + 1 + 1 + 1 + 1) s hs _ b5) Line.Same.t (Line.Same.b (by simp)) (Below.refl _ _) (fun _ => rfl)
      (fun pre W => Line.ahead pre p ∧ Boxed W w.heap.size 3 (.int .i64 p) ∧ Boxed W (w.heap.size + 1) 3 (.int .i64 0) ∧ Boxed W (w.heap.size + 1 + 1) 3 (.int .i64 0) ∧ Boxed W (w.heap.size + 1 + 1 + 1) 3 (.int .i64 0) ∧ Boxed W (w.heap.size + 1 + 1 + 1 + 1) 3 (.int .i64 (pre.length : Nat)) ∧ Below w.heap.size w W)
      (fun c pre W => ∃ pre' x, c = .ret ∧ pre = pre' ++ [x] ∧ (Line.ahead pre' p ∧ p ≤ x.2) ∧ Boxed W (w.heap.size + 1) 3 (.int .i64 (pre'.length : Nat)) ∧ Boxed W (w.heap.size + 1 + 1) 3 (.int .i64 (x.1 : Nat)) ∧ Boxed W (w.heap.size + 1 + 1 + 1) 3 (.int .i64 (x.2 : Nat)) ∧ Below w.heap.size w W)
      (fun pre X Y row ⟨hn, i0, i1, i2, i3, i4, hi⟩ hg hr => ⟨hn, boxed_abide i0 hg (fun r e => (hr r e).2), boxed_abide i1 hg (fun r e => (hr r e).2), boxed_abide i2 hg (fun r e => (hr r e).2), boxed_abide i3 hg (fun r e => (hr r e).2), boxed_abide i4 hg (fun r e => (hr r e).2), below_abide hi (Nat.le_refl _) (by simp; omega) hg (fun r e => (hr r e).1)⟩)
      (fun c pre X Y row ⟨pre', x, hc, hp, hk, i1, i2, i3, hi⟩ hg hr => ⟨pre', x, hc, hp, hk, boxed_abide i1 hg (fun r e => (hr r e).2), boxed_abide i2 hg (fun r e => (hr r e).2), boxed_abide i3 hg (fun r e => (hr r e).2), below_abide hi (Nat.le_refl _) (by simp; omega) hg (fun r e => (hr r e).1)⟩)
      ⟨fun y hy => absurd hy (by simp), ((((b0.alloc _).alloc _).alloc _).alloc _).alloc _, (((b1.alloc _).alloc _).alloc _).alloc _, ((b2.alloc _).alloc _).alloc _, (b3.alloc _).alloc _, b4.alloc _, hB5⟩
      (fun x => { tmps := #[.string s, .int .i64 p, undef, .pointer (some ⟨w.heap.size, 0, none⟩), .pointer (some ⟨w.heap.size + 1, 0, none⟩), .pointer (some ⟨w.heap.size + 1 + 1, 0, none⟩), .pointer (some ⟨w.heap.size + 1 + 1 + 1, 0, none⟩), .pointer (some ⟨w.heap.size + 1 + 1 + 1 + 1, 0, none⟩), .int .i64 (x.1 : Nat), .int .i64 (x.2 : Nat), .int .i64 p, .bool false, .string s, .func (.func 48) #[] #[.pointer (some ⟨w.heap.size + 1 + 1 + 1 + 1 + 1, 0, none⟩)], .int .i64 (x.1 : Nat), .int .i64 (x.2 : Nat), undef, undef, undef, undef, undef, undef, undef, undef], defers := [] }) ?assign ?body ?done ?stop
    case assign =>
      intro l x W K hK
      simp only [Line.encs]
      gi_wp2
      exact hK
    case body =>
      rintro l pre x W ⟨hn, i0, i1, i2, i3, i4, hB⟩ hlt
      have c0 := i0.cell
      have c1 := i1.cell
      have f1 := i1.frozen
      have c2 := i2.cell
      have f2 := i2.frozen
      have c3 := i3.cell
      have f3 := i3.frozen
      have c4 := i4.cell
      have f4 := i4.frozen
      by_cases he : p ≤ (x.2 : Int)
      · gi_wp2
        exact ⟨((KeepsOthers.setCell _ _ _).trans (KeepsOthers.setCell _ _ _)).trans (KeepsOthers.setCell _ _ _), pre, x, rfl, rfl, ⟨hn, he⟩, boxed_far (boxed_far (i1.set _) (by omega) _) (by omega) _, boxed_far ((boxed_far i2 (by omega) _).set _) (by omega) _, (boxed_far (boxed_far i3 (by omega) _) (by omega) _).set _,
          ((hB.setCell (p := ⟨w.heap.size + 1, 0, none⟩) (by simp) _).setCell (p := ⟨w.heap.size + 1 + 1, 0, none⟩) (by simp; omega) _).setCell (p := ⟨w.heap.size + 1 + 1 + 1, 0, none⟩) (by simp; omega) _⟩
      · gi_wp2
        refine ⟨KeepsOthers.setCell _ _ _, Below.heap_setCell _ _ _ _ (by simp), fun y hy => ?_, boxed_far i0 (by omega) _, boxed_far i1 (by omega) _, boxed_far i2 (by omega) _, boxed_far i3 (by omega) _, by rw [List.length_append]; exact i4.set _, hB.setCell (p := ⟨w.heap.size + 1 + 1 + 1 + 1, 0, none⟩) (by simp; omega) _⟩
        rcases List.mem_append.1 hy with h | h
        · exact hn y h
        · rw [List.mem_singleton] at h
          subst h
          omega
    case done =>
      rintro D ys W hD rfl ⟨hn, i0, i1, i2, i3, i4, hB⟩ hK
      obtain ⟨n1, n2, n3⟩ := Line.of_not (Line.idx_not hn)
      have c1 := i1.cell
      have f1 := i1.frozen
      have c2 := i2.cell
      have f2 := i2.frozen
      have c3 := i3.cell
      have f3 := i3.frozen
      gi_wp2
      have hK' := (((KeepsOthers.setCell W ⟨w.heap.size + 1, 0, none⟩ (.int .i64 (-1))).trans (KeepsOthers.setCell _ ⟨w.heap.size + 1 + 1, 0, none⟩ (.int .i64 (-1)))).trans (KeepsOthers.setCell _ ⟨w.heap.size + 1 + 1 + 1, 0, none⟩ (.int .i64 (-1)))).same D _ hK rfl
      have j1 := boxed_far (boxed_far (i1.set (.int .i64 (-1))) (C := w.heap.size + 1 + 1) (by omega) (.int .i64 (-1))) (C := w.heap.size + 1 + 1 + 1) (by omega) (.int .i64 (-1))
      have j2 := boxed_far ((boxed_far i2 (C := w.heap.size + 1) (by omega) (.int .i64 (-1))).set (.int .i64 (-1))) (C := w.heap.size + 1 + 1 + 1) (by omega) (.int .i64 (-1))
      have j3 := (boxed_far (boxed_far i3 (C := w.heap.size + 1) (by omega) (.int .i64 (-1))) (C := w.heap.size + 1 + 1) (by omega) (.int .i64 (-1))).set (.int .i64 (-1))
      have d1 := (putObj_boxed (o' := .deferred none) j1 hK' rfl).cell
      have d2 := (putObj_boxed (o' := .deferred none) j2 hK' rfl).cell
      have d3 := (putObj_boxed (o' := .deferred none) j3 hK' rfl).cell
      refine ⟨by simp, .inl ⟨_, _, rfl, run_takeDeferred hK', ?_⟩⟩
      refine ⟨_, ?_, by rw [Line.aroundT, n2, n3, n1], (((hB.setCell (p := ⟨w.heap.size + 1, 0, none⟩) (by simp) _).setCell (p := ⟨w.heap.size + 1 + 1, 0, none⟩) (by simp; omega) _).setCell (p := ⟨w.heap.size + 1 + 1 + 1, 0, none⟩) (by simp; omega) _).trans (belowK_b (w := w) (Nat.le_refl _) _ D _ _ (by simp at hD; omega) hK' rfl rfl)⟩
      simp [results, Tryd.f35, go_sem, d1, d2, d3]
    case stop =>
      rintro D c pre W hD hpre ⟨pre', x, rfl, rfl, ⟨h1, h2⟩, i1, i2, i3, hB⟩ hK
      have hx := Line.idx_pre hpre (by omega) h1 h2
      have ho := Line.of_idx hx
      have hl := Line.line_pre hpre rfl
      gi_wp2
      have d1 := (putObj_boxed (o' := .deferred none) i1 hK rfl).cell
      have d2 := (putObj_boxed (o' := .deferred none) i2 hK rfl).cell
      have d3 := (putObj_boxed (o' := .deferred none) i3 hK rfl).cell
      refine ⟨by simp, .inl ⟨_, _, rfl, run_takeDeferred hK, ?_⟩⟩
      refine ⟨_, ?_, by rw [Line.aroundT, ho, Line.start_some hl, Line.stop_some hl], hB.trans (belowK_b (w := w) (Nat.le_refl _) W D _ _ (by simp at hD; omega) hK rfl rfl)⟩
      simp [results, Tryd.f35, go_sem, d1, d2, d3]
end Go.Proofs.YtlfhfpjffdaomaaDoor
