/-
  Package look: where a pattern stands, as a list.
-/
import Derived.Test.YtpgonbibekffhaaLookSeq
import Derived.Test.YtpgonbibekffhaaLst
import Derived.Test.YtpgonbibekffhaaInts
import Derived.Test.YtpgonbibekffhaaFrame
namespace Go.Proofs.Ytpgonbibekffhaa
open Go.RowKit Go.Shelf
attribute [local go_sem] Oper.semAt_some
set_option maxHeartbeats 1000000 in
set_option maxRecDepth 100000 in
theorem look_All (s p : ByteArray) (hs : s.size ≤ 1000000000000) (hp : p.size ≤ 140737488355328) (w : World) :
    Calls Try.prog 8 #[.string s, .string p] w fun e w' => GotInts w.heap.size (Look.all s.data.toList p.data.toList) e w' ∧ Below w.heap.size w w' := by
  have hl := data_len s
  obtain ⟨i0, hi0, hz0, hz1, hz2⟩ := info_parts info_int
  have CC := Lib.hid (fun w => look_offsets s p w)
  refine (callsIn_wide (n := 6)).1 ?_
  refine callsIn_of_wp_marks Try.func8 rfl trivial ?_ rfl
  simp only [Try.ntmps8, List.size_toArray, List.length_cons, List.length_nil, Nat.reduceAdd, Nat.reduceSub, Array.replicate_succ, Array.replicate_zero, List.push_toArray, List.append_toArray, List.nil_append, List.cons_append]
  gi_wp2_with (refine ⟨trivial, ?_⟩; gi_at_call 13; refine (callsIn_wide.2 (CC.out _)).mono ?_; rintro e X ⟨rfl, rfl⟩)
  have bT := (Boxed.new (w.alloc (.cells #[.slice none 0 0] 24)) 9 (.string s)).alloc (.cells #[.string p] 9)
  have bP := Boxed.new ((w.alloc (.cells #[.slice none 0 0] 24)).alloc (.cells #[.string s] 9)) 9 (.string p)
  have bL := ((Boxed.new w 24 (.slice none 0 0)).alloc (.cells #[.string s] 9)).alloc (.cells #[.string p] 9)
  have hB := (((Below.refl w.heap.size w).alloc (Nat.le_refl _) (.cells #[.slice none 0 0] 24)).alloc (by simp) (.cells #[.string s] 9)).alloc (by simp; omega) (.cells #[.string p] 9)
  have hz : (((w.alloc (.cells #[.slice none 0 0] 24)).alloc (.cells #[.string s] 9)).alloc (.cells #[.string p] 9)).heap.size = w.heap.size + 3 := by simp
  simp only [World.size_alloc] at bT bP bL
  clear CC
  have hal := Look.all_length s.data.toList p.data.toList
  generalize ((w.alloc (.cells #[.slice none 0 0] 24)).alloc (.cells #[.string s] 9)).alloc (.cells #[.string p] 9) = X at *
  have hA0 : Para.Lst 24 3 1 w.heap.size w.heap.size (w.heap.size + 5) w 0 [] X :=
    ⟨⟨.slice none 0 0, bL, World.ownsRow_nil _ _ _ _, fun g e => by cases e⟩, hB⟩
  clear bL hB
  refine wpIn_seqList rfl (by decide) (gf := 19) (lb := #[.pointer (some ⟨w.heap.size + 1 + 1, 0, none⟩), .pointer (some ⟨w.heap.size + 1, 0, none⟩)]) rfl trivial (enters_of Try.func19 (by kernel_rfl) rfl)
    (look_offset_seq _ (by decide) (w.heap.size + 1) (w.heap.size + 1 + 1) s p hs hp X bT bP) (fun _ _ _ h k o hk ho _ => h.block k o hk ho) (fun h k => h.trans k)
    (fun W2 l2 o h1 h2 => Stays.putObj (n := X.heap.size) (by intro k hk; simp at hk; omega) W2 l2 o h1 h2) (Below.refl _ _) (fun _ => rfl)
    (fun pre Wr => Para.Lst 24 3 1 w.heap.size w.heap.size (w.heap.size + 5) w pre.length (pre.map (Value.int .i64)) Wr)
    (steps_own (q := 0) (m := X.heap.size) (fun _ _ _ h hs => h.steps hs (Nat.le_refl _) (by omega) (by omega) (Nat.le_refl _)) (Nat.le_refl _)) (fun _ _ _ h hs => h.steps hs (Nat.le_refl _) (by omega) (by omega) (Nat.le_refl _)) hA0
    (fun x => { tmps := #[.string s, .string p, undef, undef, .slice none 0 0, .pointer (some ⟨w.heap.size, 0, none⟩), .int .i64 x, .string s, .string p, .func (.func 19) #[] #[.pointer (some ⟨w.heap.size + 1 + 1, 0, none⟩), .pointer (some ⟨w.heap.size + 1, 0, none⟩)], .int .i64 x, undef, undef, undef, undef, undef], defers := [] }) ?assign ?body ?done
  case assign =>
    intro l2 x W2 K hK
    gi_wp2
    exact hK
  case body =>
    rintro l2 pre x Wr ⟨⟨v, hbx, hrow, hv⟩, hB⟩ hpre hsz
    have hlen := hpre.length_le
    rw [List.length_append, List.length_singleton] at hlen
    have hc := hbx.cell
    have hxn : Hid ((pre ++ [x]).map (Value.int .i64) = pre.map (Value.int .i64) ++ [.int .i64 x]) := by show _ = _; simp
    have hxm : Hid ((pre ++ [x]).length = pre.length + 1) := by show _ = _; simp
    generalize pre.map (Value.int .i64) = xs at *
    generalize hk : pre.length = k at *
    gi_wp2_with (gi_at_builtin; refine wpListIn_append_own_at _ rfl _ _ 24 rfl w.heap.size 3 i0 (.int .i64 0) 1 8 Try.underlying24 hi0 hz0 hz1 hz2 rfl (by decide) v k _ rfl (hrow.alloc _) ⟨Wr.heap.size, 0, none⟩ 1 1 [.int .i64 x] rfl rfl (cell_one_new _ _ _) (by simp [Value.oneCell']) (by unfold maxLen; omega) (by omega) (by simp; omega) ?_; intro v' w1 hown' hgrow _ hat; obtain ⟨a', c', rfl⟩ := own_shape hown'; have hap := Boxed.appended hbx (by decide) hrow (by omega) (by omega) hown' hgrow; have hc1 := hap.1.cell; have hf1 := hap.1.frozen)
    have hst : Stays 0 [w.heap.size + 1, w.heap.size + 1 + 1] (X.heap.size + 2) Wr (w1.setCell ⟨w.heap.size, 0, none⟩ (.slice a' (k + 1) c')) :=
      ((Stays.alloc _ _ _ _ _).trans (Stays.grown hgrow (fun r e => Para.row_cells (hrow.alloc _) hv e (by omega) (by intro k hk; simp at hk; omega)))).trans (Stays.setCell _ _ _ (by simp; omega) (by simp; omega))
    refine ⟨hap.2.2.2.1.from _, hst, ?_⟩
    show Para.Lst _ _ _ _ _ _ _ (pre ++ [x]).length ((pre ++ [x]).map _) _
    rw [hxn.out, hxm.out]
    refine ⟨⟨_, hap.2.1, hap.2.2.1, fun g e => ?_⟩, hB.trans hap.2.2.2.2⟩
    rcases hat with h | h
    · exact hv g (h ▸ e)
    · rw [h] at e; injection e with e; simp at e; omega
  case done =>
    rintro D W2 hD ⟨⟨v, hbx, hrow, hv⟩, hB⟩ hK
    have hc := hbx.cell
    gi_wp2
    refine ⟨by simp, .inl ⟨_, _, rfl, run_takeDeferred hK, ?_⟩⟩
    refine ⟨_, results_tmp rfl _ _ _, ⟨_, rfl, ?_⟩, hB.trans (belowK_b (w := w) (Nat.le_refl _) W2 D _ _ (by omega) hK rfl rfl)⟩
    exact ownsRow_putObj hrow _ hK rfl
end Go.Proofs.Ytpgonbibekffhaa
