/-
  Where words begin and end, as lists: Starts, Ends.
-/
import Derived.Test.YtjkcdmlbnfibgaaHopWords
import Derived.Test.YtjkcdmlbnfibgaaInts
import Derived.Test.YtjkcdmlbnfibgaaUtfRef
import Derived.Maps.OwnIn
namespace Go.Proofs.Ytjkcdmlbnfibgaa
open Go.RowKit Go.Shelf
attribute [local go_sem] Oper.semAt_some
namespace Hop
theorem words_len (s : List UInt8) (big : Bool) : (words s big).length ≤ s.length + 1 := by
  cases h : Utf.dec s with
  | none => simp [words_bad h]
  | some rs =>
    have h1 := run_le (R s big)
    have h2 := Utf.places_size s
    rw [Utf.places_length h] at h2
    rw [R_ok h, rows_length] at h1
    rw [words, R_ok h]
    omega
theorem ownsRow_steps {q m : Nat} {A B : World} (h : Steps q m A B) {n₀ : Nat} {e : TypeId} {size : Nat} {v : Value} {k : Nat} {xs : List Value} (hr : A.ownsRow n₀ e size v k xs) (hv : ∀ g, v.ownBlock = some g → m + q ≤ g) : B.ownsRow n₀ e size v k xs := by
  refine ⟨hr.1, ?_⟩
  rcases hr.2 with h1 | ⟨g, cap, cur, rfl, h2, h3, h4⟩
  · exact .inl h1
  · exact .inr ⟨g, cap, cur, rfl, h2, h.same g _ h3 (.inr ⟨hv g rfl, rfl⟩), h4⟩
/-- A list that is made: its variable's box is block n, its row lies from block b on. -/
structure Lst (n b : Nat) (w : World) (l : List Int) (W : World) : Prop where
  row : ∃ v, Boxed W n 24 v ∧ W.ownsRow n 3 1 v l.length (l.map (Value.int .i64)) ∧ ∀ g, v.ownBlock = some g → b ≤ g
  below : Below n w W
theorem Lst.steps {n b : Nat} {w : World} {l : List Int} {A B : World} {q m : Nat} (h : Lst n b w l A) (hs : Steps q m A B) (h1 : n < m) (h2 : m + q ≤ b) (h3 : n ≤ w.heap.size) : Lst n b w l B := by
  obtain ⟨⟨v, hb, hr, hv⟩, hB⟩ := h
  exact ⟨⟨v, hs.boxed (.inl h1) hb, ownsRow_steps hs hr (fun g e => Nat.le_trans h2 (hv g e)), hv⟩, hs.below hB (by omega) h3⟩
/-- The row that an append may write. -/
theorem row_cells {A : World} {n b m : Nat} {v : Value} {k : Nat} {xs : List Value} (hr : A.ownsRow n 3 1 v k xs) (hv : ∀ g, v.ownBlock = some g → m + 8 ≤ g) {r : Nat} (e : v.ownBlock = some r) (hb : b = m + 2 := by rfl) :
    (r < b ∨ b + 6 ≤ r) ∧ r ∉ ([] : List Nat) ∧ ∀ o, A.heap[r]? = some o → o.isCells = true := by
  refine ⟨.inr (by have := hv r e; omega), by simp, fun o ho => ?_⟩
  rcases hr.2 with ⟨rfl, _⟩ | ⟨g, cap, cur, rfl, h2, h3, _⟩
  · cases e
  · obtain rfl : g = r := by simpa [Value.ownBlock] using e
    rw [h3] at ho; cases ho; rfl
end Hop
set_option maxHeartbeats 1000000 in
set_option maxRecDepth 100000 in
theorem hop_Starts (s : ByteArray) (big : Bool) (hs : s.size ≤ 1000000000000) (w : World) :
    Calls Try.prog 9 #[.string s, .bool big] w fun e w' => GotInts w.heap.size (Hop.starts s.data.toList big) e w' ∧ Below w.heap.size w w' := by
  have hl := data_len s
  obtain ⟨i0, hi0, hz0, hz1, hz2⟩ := info_parts info_int
  have CC := Lib.hid (fun w => hop_words s big w)
  refine (callsIn_wide (n := 6)).1 ?_
  refine callsIn_of_wp_marks Try.func9 rfl trivial ?_ rfl
  simp only [Try.ntmps9, List.size_toArray, List.length_cons, List.length_nil, Nat.reduceAdd, Nat.reduceSub, Array.replicate_succ, Array.replicate_zero, List.push_toArray, List.append_toArray, List.nil_append, List.cons_append]
  gi_wp2_with (refine ⟨trivial, ?_⟩; gi_at_call 19; refine (callsIn_wide.2 (CC.out _)).mono ?_; rintro e X ⟨rfl, hz, bt, bg, hb⟩)
  simp only [World.size_alloc] at hz bt bg hb
  have hA0 : Hop.Lst w.heap.size (X.heap.size + 8) w [] X := by
    refine ⟨⟨.slice none 0 0, (hb.block w.heap.size (by omega)).trans (Boxed.new w 24 (.slice none 0 0)), World.ownsRow_nil _ _ _ _, fun g e => by cases e⟩, ?_⟩
    exact ((Below.refl w.heap.size w).alloc (Nat.le_refl _) _).trans (hb.mono (by omega))
  clear hb CC
  have hwl := Hop.words_len s.data.toList big
  refine wpIn_seqList rfl (by decide) (gf := 28) (lb := #[.pointer (some ⟨w.heap.size + 1, 0, none⟩), .pointer (some ⟨w.heap.size + 1 + 1, 0, none⟩)]) rfl trivial (enters_of Try.func28 (by kernel_rfl) rfl)
    (hop_word_seq _ (w.heap.size + 1) (w.heap.size + 1 + 1) s big hs X bt bg) (fun _ _ _ h k o hk ho _ => h.block k o hk ho) (fun h k => h.trans k)
    (fun W2 l2 o h1 h2 => Stays.putObj (n := X.heap.size) (by intro k hk; cases hk) W2 l2 o h1 h2) (Below.refl _ _) (fun _ => rfl)
    (fun pre Wr => Hop.Lst w.heap.size (X.heap.size + 8) w (pre.map fun x : Nat × Int => (x.1 : Int)) Wr)
    (steps_own (q := 8) (m := X.heap.size) (fun _ _ _ h hs => h.steps hs (by omega) (Nat.le_refl _) (Nat.le_refl _)) (Nat.le_refl _)) (fun _ _ _ h hs => h.steps hs (by omega) (by omega) (Nat.le_refl _)) hA0
    (fun x => { tmps := #[.string s, .bool big, undef, undef, .slice none 0 0, .pointer (some ⟨w.heap.size, 0, none⟩), .int .i64 (x.1 : Nat), .string s, .bool big, .func (.func 28) #[] #[.pointer (some ⟨w.heap.size + 1, 0, none⟩), .pointer (some ⟨w.heap.size + 1 + 1, 0, none⟩)], .int .i64 (x.1 : Nat), .int .i64 x.2, undef, undef, undef, undef, undef], defers := [] }) ?assign ?body ?done
  case assign =>
    intro l2 x W2 K hK
    gi_wp2
    exact hK
  case body =>
    rintro l2 pre ⟨p, q⟩ Wr ⟨⟨v, hbx, hrow, hv⟩, hB⟩ hpre hsz
    have hlen := hpre.length_le
    rw [List.length_append, List.length_singleton] at hlen
    have hc := hbx.cell
    dsimp only
    have hxl : (pre.map fun x : Nat × Int => (x.1 : Int)).length = pre.length := List.length_map ..
    have hxn : Hid (((pre ++ [(p, q)]).map fun x : Nat × Int => (x.1 : Int)) = (pre.map fun x : Nat × Int => (x.1 : Int)) ++ [(p : Int)]) := by show _ = _; simp
    obtain ⟨xs, hxs⟩ : ∃ xs, (pre.map fun x : Nat × Int => (x.1 : Int)) = xs := ⟨_, rfl⟩
    rw [hxs] at hrow hxl hxn
    rw [← hxl] at hlen
    clear hxs hxl
    gi_wp2_with (gi_at_builtin; refine wpListIn_append_own_at _ rfl _ _ 24 rfl w.heap.size 3 i0 (.int .i64 0) 1 8 Try.underlying24 hi0 hz0 hz1 hz2 rfl (by decide) v xs.length _ rfl (hrow.alloc _) ⟨Wr.heap.size, 0, none⟩ 1 1 [.int .i64 (p : Nat)] rfl rfl (cell_one_new _ _ _) (by simp [Value.oneCell']) (by unfold maxLen; omega) (by omega) (by simp; omega) ?_; intro v' w1 hown' hgrow _ hat; obtain ⟨a', c', rfl⟩ := own_shape hown'; have hap := Boxed.appended hbx (by decide) hrow (by omega) (Nat.le_refl _) hown' hgrow; have hc1 := hap.1.cell; have hf1 := hap.1.frozen)
    have hst : Stays 6 [] (X.heap.size + 2) Wr (w1.setCell ⟨w.heap.size, 0, none⟩ (.slice a' (xs.length + 1) c')) :=
      ((Stays.alloc _ _ _ _ _).trans (Stays.grown hgrow (fun r e => Hop.row_cells (hrow.alloc _) hv e))).trans (Stays.setCell _ _ _ (by simp; omega) (by simp))
    refine ⟨hap.2.2.2.1.from _, hst, ?_⟩
    show Hop.Lst _ _ _ ((pre ++ [(p, q)]).map fun x : Nat × Int => (x.1 : Int)) _
    rw [hxn.out]
    refine ⟨⟨_, hap.2.1, ?_, ?_⟩, hB.trans hap.2.2.2.2⟩
    · rw [List.map_append, List.length_append]; exact hap.2.2.1
    · intro g e
      rcases hat with h | h
      · exact hv g (h ▸ e)
      · rw [h] at e; injection e with e; simp at e; omega
  case done =>
    rintro D W2 hD ⟨⟨v, hbx, hrow, hv⟩, hB⟩ hK
    have hc := hbx.cell
    gi_wp2
    refine ⟨by simp, .inl ⟨_, _, rfl, run_takeDeferred hK, ?_⟩⟩
    refine ⟨_, results_tmp rfl _ _ _, ⟨_, rfl, ?_⟩, hB.trans (belowK_b (w := w) (Nat.le_refl _) W2 D _ _ (by omega) hK rfl rfl)⟩
    exact ownsRow_putObj hrow _ hK rfl
set_option maxHeartbeats 1000000 in
set_option maxRecDepth 100000 in
theorem hop_Ends (s : ByteArray) (big : Bool) (hs : s.size ≤ 1000000000000) (w : World) :
    Calls Try.prog 11 #[.string s, .bool big] w fun e w' => GotInts w.heap.size (Hop.ends s.data.toList big) e w' ∧ Below w.heap.size w w' := by
  have hl := data_len s
  obtain ⟨i0, hi0, hz0, hz1, hz2⟩ := info_parts info_int
  have CC := Lib.hid (fun w => hop_words s big w)
  refine (callsIn_wide (n := 6)).1 ?_
  refine callsIn_of_wp_marks Try.func11 rfl trivial ?_ rfl
  simp only [Try.ntmps11, List.size_toArray, List.length_cons, List.length_nil, Nat.reduceAdd, Nat.reduceSub, Array.replicate_succ, Array.replicate_zero, List.push_toArray, List.append_toArray, List.nil_append, List.cons_append]
  gi_wp2_with (refine ⟨trivial, ?_⟩; gi_at_call 19; refine (callsIn_wide.2 (CC.out _)).mono ?_; rintro e X ⟨rfl, hz, bt, bg, hb⟩)
  simp only [World.size_alloc] at hz bt bg hb
  have hA0 : Hop.Lst w.heap.size (X.heap.size + 8) w [] X := by
    refine ⟨⟨.slice none 0 0, (hb.block w.heap.size (by omega)).trans (Boxed.new w 24 (.slice none 0 0)), World.ownsRow_nil _ _ _ _, fun g e => by cases e⟩, ?_⟩
    exact ((Below.refl w.heap.size w).alloc (Nat.le_refl _) _).trans (hb.mono (by omega))
  clear hb CC
  have hwl := Hop.words_len s.data.toList big
  refine wpIn_seqList rfl (by decide) (gf := 28) (lb := #[.pointer (some ⟨w.heap.size + 1, 0, none⟩), .pointer (some ⟨w.heap.size + 1 + 1, 0, none⟩)]) rfl trivial (enters_of Try.func28 (by kernel_rfl) rfl)
    (hop_word_seq _ (w.heap.size + 1) (w.heap.size + 1 + 1) s big hs X bt bg) (fun _ _ _ h k o hk ho _ => h.block k o hk ho) (fun h k => h.trans k)
    (fun W2 l2 o h1 h2 => Stays.putObj (n := X.heap.size) (by intro k hk; cases hk) W2 l2 o h1 h2) (Below.refl _ _) (fun _ => rfl)
    (fun pre Wr => Hop.Lst w.heap.size (X.heap.size + 8) w ((pre.map fun x : Nat × Int => x.2).filter fun b => decide (0 ≤ b)) Wr)
    (steps_own (q := 8) (m := X.heap.size) (fun _ _ _ h hs => h.steps hs (by omega) (Nat.le_refl _) (Nat.le_refl _)) (Nat.le_refl _)) (fun _ _ _ h hs => h.steps hs (by omega) (by omega) (Nat.le_refl _)) hA0
    (fun x => { tmps := #[.string s, .bool big, undef, undef, .slice none 0 0, .pointer (some ⟨w.heap.size, 0, none⟩), undef, .int .i64 x.2, .string s, .bool big, .func (.func 28) #[] #[.pointer (some ⟨w.heap.size + 1, 0, none⟩), .pointer (some ⟨w.heap.size + 1 + 1, 0, none⟩)], .int .i64 (x.1 : Nat), .int .i64 x.2, undef, undef, undef, undef, undef, undef, undef], defers := [] }) ?assign ?body ?done
  case assign =>
    intro l2 x W2 K hK
    gi_wp2
    exact hK
  case body =>
    rintro l2 pre ⟨p, q⟩ Wr ⟨⟨v, hbx, hrow, hv⟩, hB⟩ hpre hsz
    have hlen := hpre.length_le
    rw [List.length_append, List.length_singleton] at hlen
    have hc := hbx.cell
    dsimp only
    have hxl : ((pre.map fun x : Nat × Int => x.2).filter fun b => decide (0 ≤ b)).length ≤ pre.length := Nat.le_trans (List.length_filter_le ..) (by rw [List.length_map]; exact Nat.le_refl _)
    have hxn : Hid ((((pre ++ [(p, q)]).map fun x : Nat × Int => x.2).filter fun b => decide (0 ≤ b)) = ((pre.map fun x : Nat × Int => x.2).filter fun b => decide (0 ≤ b)) ++ (if 0 ≤ q then [q] else [])) := by
      show _ = _
      rw [List.map_append, List.filter_append]
      by_cases h : 0 ≤ q <;> simp [h]
    obtain ⟨xs, hxs⟩ : ∃ xs, ((pre.map fun x : Nat × Int => x.2).filter fun b => decide (0 ≤ b)) = xs := ⟨_, rfl⟩
    rw [hxs] at hrow hxl hxn
    clear hxs
    by_cases hq : 0 ≤ q
    · have gq : decide ((0 : Int) ≤ q) = true := by simp [hq]
      rw [if_pos hq] at hxn
      gi_wp2_with (gi_at_builtin; refine wpListIn_append_own_at _ rfl _ _ 24 rfl w.heap.size 3 i0 (.int .i64 0) 1 8 Try.underlying24 hi0 hz0 hz1 hz2 rfl (by decide) v xs.length _ rfl (hrow.alloc _) ⟨Wr.heap.size, 0, none⟩ 1 1 [.int .i64 q] rfl rfl (cell_one_new _ _ _) (by simp [Value.oneCell']) (by unfold maxLen; omega) (by omega) (by simp; omega) ?_; intro v' w1 hown' hgrow _ hat; obtain ⟨a', c', rfl⟩ := own_shape hown'; have hap := Boxed.appended hbx (by decide) hrow (by omega) (Nat.le_refl _) hown' hgrow; have hc1 := hap.1.cell; have hf1 := hap.1.frozen)
      have hst : Stays 6 [] (X.heap.size + 2) Wr (w1.setCell ⟨w.heap.size, 0, none⟩ (.slice a' (xs.length + 1) c')) :=
        ((Stays.alloc _ _ _ _ _).trans (Stays.grown hgrow (fun r e => Hop.row_cells (hrow.alloc _) hv e))).trans (Stays.setCell _ _ _ (by simp; omega) (by simp))
      refine ⟨hap.2.2.2.1.from _, hst, ?_⟩
      show Hop.Lst _ _ _ (((pre ++ [(p, q)]).map fun x : Nat × Int => x.2).filter fun b => decide (0 ≤ b)) _
      rw [hxn.out]
      refine ⟨⟨_, hap.2.1, ?_, ?_⟩, hB.trans hap.2.2.2.2⟩
      · rw [List.map_append, List.length_append]; exact hap.2.2.1
      · intro g e
        rcases hat with h | h
        · exact hv g (h ▸ e)
        · rw [h] at e; injection e with e; simp at e; omega
    · have gq : decide ((0 : Int) ≤ q) = false := by simp [hq]
      rw [if_neg hq, List.append_nil] at hxn
      gi_wp2
      refine ⟨KeepsFrom.refl _ _, Stays.refl _ _ _ _, ?_⟩
      show Hop.Lst _ _ _ (((pre ++ [(p, q)]).map fun x : Nat × Int => x.2).filter fun b => decide (0 ≤ b)) _
      rw [hxn.out]
      exact ⟨⟨v, hbx, hrow, fun g e => by have := hv g e; omega⟩, hB⟩
  case done =>
    rintro D W2 hD ⟨⟨v, hbx, hrow, hv⟩, hB⟩ hK
    have hc := hbx.cell
    gi_wp2
    refine ⟨by simp, .inl ⟨_, _, rfl, run_takeDeferred hK, ?_⟩⟩
    refine ⟨_, results_tmp rfl _ _ _, ⟨_, rfl, ?_⟩, hB.trans (belowK_b (w := w) (Nat.le_refl _) W2 D _ _ (by omega) hK rfl rfl)⟩
    exact ownsRow_putObj hrow _ hK rfl
end Go.Proofs.Ytjkcdmlbnfibgaa
