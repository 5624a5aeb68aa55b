/-
  Package para: where a motion back leads (a loop over the blocks that gathers a list).
-/
import Derived.Test.YtjgfcnjnedgejaaParaOn
import Derived.Test.YtjgfcnjnedgejaaPairs
import Derived.Test.YtjgfcnjnedgejaaFrame
import Derived.Maps.OwnIn
namespace Go.Proofs.Ytjgfcnjnedgejaa
open Go.RowKit Go.Shelf
attribute [local go_sem] Oper.semAt_some
namespace Para
theorem ownsRow_steps {q m : Nat} {A B : World} (h : Steps q m A B) {n₀ : Nat} {e : TypeId} {size : Nat} {v : Value} {k : Nat} {xs : List Value} (hr : A.ownsRow n₀ e size v k xs) (hv : ∀ g, v.ownBlock = some g → m + q ≤ g) : B.ownsRow n₀ e size v k xs := by
  refine ⟨hr.1, ?_⟩
  rcases hr.2 with h1 | ⟨g, cap, cur, rfl, h2, h3, h4⟩
  · exact .inl h1
  · exact .inr ⟨g, cap, cur, rfl, h2, h.same g _ h3 (.inr ⟨hv g rfl, rfl⟩), h4⟩
/-- A list that is made: its variable's box is block B, its row lies from block b on; what lay below block n is as in w. -/
structure Lst (T e : TypeId) (size n B b : Nat) (w : World) (k : Nat) (l : List Value) (W : World) : Prop where
  row : ∃ v, Boxed W B T v ∧ W.ownsRow n e size v k l ∧ ∀ g, v.ownBlock = some g → b ≤ g
  below : Below n w W
theorem Lst.steps {T e : TypeId} {size n B b : Nat} {w : World} {k : Nat} {l : List Value} {X Y : World} {q m : Nat} (h : Lst T e size n B b w k l X) (hs : Steps q m X Y) (h0 : n ≤ B) (h1 : B < m) (h2 : m + q ≤ b) (h3 : n ≤ w.heap.size) : Lst T e size n B b w k l Y := by
  obtain ⟨⟨v, hb, hr, hv⟩, hB⟩ := h
  exact ⟨⟨v, hs.boxed (.inl h1) hb, ownsRow_steps hs hr (fun g e => Nat.le_trans h2 (hv g e)), hv⟩, hs.below hB (by omega) h3⟩
theorem Lst.alloc {T e : TypeId} {size n B b : Nat} {w : World} {k : Nat} {l : List Value} {X : World} (h : Lst T e size n B b w k l X) (h3 : n ≤ w.heap.size) (o : Obj) : Lst T e size n B b w k l (X.alloc o) := by
  obtain ⟨⟨v, hb, hr, hv⟩, hB⟩ := h
  exact ⟨⟨v, hb.alloc _, hr.alloc _, hv⟩, hB.alloc (Nat.le_trans h3 hB.size) _⟩
/-- The row that an append may write. -/
theorem row_cells {A : World} {n b m q : Nat} {T : List Nat} {e : TypeId} {size : Nat} {v : Value} {k : Nat} {xs : List Value} (hr : A.ownsRow n e size v k xs) (hv : ∀ g, v.ownBlock = some g → b ≤ g) {r : Nat} (e : v.ownBlock = some r) (hb : m + q ≤ b) (hT : ∀ k ∈ T, k < b) :
    (r < m ∨ m + q ≤ r) ∧ r ∉ T ∧ ∀ o, A.heap[r]? = some o → o.isCells = true := by
  have hbr := hv r e
  refine ⟨.inr (by omega), fun h => by have := hT r h; omega, fun o ho => ?_⟩
  rcases hr.2 with ⟨rfl, _⟩ | ⟨g, cap, cur, rfl, h2, h3, _⟩
  · cases e
  · obtain rfl : g = r := by simpa [Value.ownBlock] using e
    rw [h3] at ho; cases ho; rfl
end Para
set_option maxRecDepth 100000 in
set_option maxHeartbeats 2000000 in
theorem para_back (s : ByteArray) (p n : Nat) (hs : s.size ≤ 1000000000000) (hv : Utf.valid s.data.toList = true) (hn : 1 ≤ n) (hn2 : n ≤ 1000000) (w : World) :
    Calls Try.prog 18 #[.string s, .int .i64 (p : Nat), .int .i64 (n : Nat)] w fun e w' => e = .returned (Para.resN true s.data.toList p n) ∧ Below w.heap.size w w' := by
  have hl := data_len s
  obtain ⟨i0, hi0, hz0, hz1, hz2⟩ := info_parts info_int
  refine (callsIn_wide (n := 6)).1 ?_
  refine callsIn_of_wp_marks Try.func18 rfl trivial ?_ rfl
  simp only [Try.ntmps18, List.size_toArray, List.length_cons, List.length_nil, Nat.reduceAdd, Nat.reduceSub, Array.replicate_succ, Array.replicate_zero, List.push_toArray, List.append_toArray, List.nil_append, List.cons_append]
  have b0 := Boxed.new w 3 (.int .i64 (p : Nat))
  have hB0 := (Below.refl w.heap.size w).alloc (Nat.le_refl _) (.cells #[.int .i64 (p : Nat)] 3)
  have c2 := Lib.hid (fun w => para_blocks s w)
  by_cases he : p = 0
  · have H : Hid (Para.resN true s.data.toList p n = .tuple #[.int .i64 0, .bool false]) := by show _ = _; rw [Para.resN, if_pos (by rw [he]; rfl)]
    have g1 : ((p : Int) == 0) = true := by simp [he]
    have HB := Lib.hid hB0
    clear he hl hB0
    gi_wp2
    refine ⟨.tuple #[.int .i64 0, .bool false], ?_, by rw [H.out], HB.out⟩
    simp only [results, Try.f18]
    simp [go_sem]
  · have H : Hid (Para.resN true s.data.toList p n = .tuple #[.int .i64 (Para.backN s.data.toList p n : Nat), .bool true]) := by
      show _ = _
      rw [Para.resN, if_neg (by intro h; exact he h)]
      rfl
    have g1 : ((p : Int) == 0) = false := by simp; omega
    have bL := Boxed.new (w.alloc (.cells #[.int .i64 (p : Nat)] 3)) 47 (.slice none 0 0)
    have bT := Boxed.new ((w.alloc (.cells #[.int .i64 (p : Nat)] 3)).alloc (.cells #[.slice none 0 0] 47)) 9 (.string s)
    have b02 := (b0.alloc (.cells #[.slice none 0 0] 47)).alloc (.cells #[.string s] 9)
    have bL2 := bL.alloc (.cells #[.string s] 9)
    have hB2 := (hB0.alloc (by simp) (.cells #[.slice none 0 0] 47)).alloc (by simp; omega) (.cells #[.string s] 9)
    have hB1 : Below (w.heap.size + 1) (w.alloc (.cells #[.int .i64 (p : Nat)] 3)) (((w.alloc (.cells #[.int .i64 (p : Nat)] 3)).alloc (.cells #[.slice none 0 0] 47)).alloc (.cells #[.string s] 9)) := ((Below.refl _ _).alloc (by simp) _).alloc (by simp) _
    have hz : (((w.alloc (.cells #[.int .i64 (p : Nat)] 3)).alloc (.cells #[.slice none 0 0] 47)).alloc (.cells #[.string s] 9)).heap.size = w.heap.size + 3 := by simp
    simp only [World.size_alloc] at bT bL2
    clear he
    gi_wp2_with (refine ⟨trivial, ?_⟩; gi_at_call 26; refine (callsIn_wide.2 (c2.out _)).mono ?_; rintro e w' ⟨rfl, rfl⟩)
    clear c2 g1 bL b0
    have hL0 : Para.Lst 47 3 1 w.heap.size (w.heap.size + 1) (w.heap.size + 9) w 0 [] (((w.alloc (.cells #[.int .i64 (p : Nat)] 3)).alloc (.cells #[.slice none 0 0] 47)).alloc (.cells #[.string s] 9)) :=
      ⟨⟨.slice none 0 0, bL2, World.ownsRow_nil _ _ _ _, fun g e => by cases e⟩, hB2⟩
    have hal := Para.all_length s.data.toList
    generalize ((w.alloc (.cells #[.int .i64 (p : Nat)] 3)).alloc (.cells #[.slice none 0 0] 47)).alloc (.cells #[.string s] 9) = X at *
    clear bL2 hB1 hB2 hB0
    refine wpIn_seqUpto rfl (by decide) (gf := 40) (lb := #[.pointer (some ⟨w.heap.size + 1 + 1, 0, none⟩)]) rfl trivial (enters_of Try.func40 (by kernel_rfl) rfl)
      (para_block_seq _ (w.heap.size + 2) s hs hv X bT) (fun _ _ _ h k o hk ho _ => h.block k o hk ho) (fun h k => h.trans k)
      (fun W2 l2 o h1 h2 => Stays.putObj (n := X.heap.size) (by intro k hk; simp at hk; omega) W2 l2 o h1 h2) (fun _ _ h => h.size) (Below.refl _ _) (fun _ => rfl)
      (fun pre Wr => Boxed Wr w.heap.size 3 (.int .i64 (p : Nat)) ∧ Para.Lst 47 3 1 w.heap.size (w.heap.size + 1) (w.heap.size + 9) w (Para.hitsBack p pre).length ((Para.hitsBack p pre).map fun x : Nat => Value.int .i64 (x : Nat)) Wr)
      (fun _ => False)
      (steps_own (q := 4) (m := X.heap.size) (fun _ _ _ h hs => ⟨hs.boxed (.inl (by omega)) h.1, h.2.steps hs (by omega) (by omega) (by omega) (Nat.le_refl _)⟩) (Nat.le_refl _))
      (fun _ _ _ _ h _ _ => h)
      (fun _ _ _ h hs => ⟨hs.boxed (.inl (by omega)) h.1, h.2.steps hs (by omega) (by omega) (by omega) (Nat.le_refl _)⟩) (fun _ _ h _ => h) ⟨b02, hL0⟩
      (fun x a' W => ∃ Bx, X.heap.size ≤ Bx ∧ Blk W Bx 37 (Para.cellsB x) ∧ a' = { tmps := #[.string s, .int .i64 (p : Nat), .int .i64 (n : Nat), undef, .pointer (some ⟨w.heap.size, 0, none⟩), undef, .int .i64 0, .bool false, .pointer (some ⟨w.heap.size + 1, 0, none⟩), .pointer (some ⟨Bx, 0, none⟩), .int .i64 (p : Nat), .bool false, .string s, .func (.func 40) #[] #[.pointer (some ⟨w.heap.size + 1 + 1, 0, none⟩)], .agg (Para.cellsB x), undef, undef, undef, undef, undef, undef, undef, undef, undef, undef, undef, undef, undef, undef, undef, undef, undef, undef, undef, undef, undef, undef, undef, undef], defers := [] })
      (fun x a' _ X Y row hs hg hr => by obtain ⟨Bx, e1, e2, e3⟩ := hs; exact ⟨Bx, e1, Para.blk_abide e2 hg (fun r e => (hr r e).2), e3⟩)
      ?assign ?body ?done ?stop
    case assign =>
      rintro l pre x W K ⟨hb, hL⟩ _ hsz hK
      have H0 := Lib.hid (hK _ _ ((KeepsOthers.alloc W (.cells (Para.cellsB x) 37)).from _) (Stays.alloc _ _ _ _ _) ⟨hb.alloc _, hL.alloc (Nat.le_refl _) _⟩ ⟨W.heap.size, by omega, Blk.new W 37 (Para.cellsB x), rfl⟩)
      clear hb hL hK
      gi_wp2
      exact H0.out
    case body =>
      rintro l pre x a' W ⟨hb, hL⟩ ⟨Bx, hBx, hx, rfl⟩ hpre hsz
      have HS := Para.hitsBack_snoc p pre x
      have hk0 : KeepsFrom X.heap.size W W ∧ Stays 4 [w.heap.size + 2] (X.heap.size + 2) W W := ⟨KeepsFrom.refl _ _, Stays.refl _ _ _ _⟩
      have x0 : W.cell? ⟨Bx, 0, none⟩ = some (.bool x.e) := hx.cell 0
      have x4 : W.cell? ⟨Bx, 4, none⟩ = some (.int .i64 (x.la : Nat)) := hx.cell 4
      have cp := hb.cell
      have hlen := hpre.length_le
      rw [List.length_append, List.length_singleton] at hlen
      have hle := Para.hitsBack_le p pre
      by_cases hxe : x.e = true ∧ x.la < p
      · rw [hxe.1] at x0
        rw [if_pos hxe] at HS
        have g2 : decide (x.la < p) = true := by simp [hxe.2]
        obtain ⟨⟨v, hbx, hrow, hv⟩, hB⟩ := hL
        have hc := hbx.cell
        have hxl : ((Para.hitsBack p pre).map fun x : Nat => Value.int .i64 (x : Nat)).length = (Para.hitsBack p pre).length := List.length_map ..
        have hxn : Hid (((Para.hitsBack p (pre ++ [x])).map fun x : Nat => Value.int .i64 (x : Nat)) = ((Para.hitsBack p pre).map fun x : Nat => Value.int .i64 (x : Nat)) ++ [.int .i64 (x.la : Nat)]) := by show _ = _; rw [HS]; simp
        have hxm : Hid ((Para.hitsBack p (pre ++ [x])).length = (Para.hitsBack p pre).length + 1) := by show _ = _; rw [HS]; simp
        generalize ((Para.hitsBack p pre).map fun x : Nat => Value.int .i64 (x : Nat)) = xs at *
        generalize (Para.hitsBack p pre).length = k at *
        clear HS hx hpre hxl hxe
        gi_wp2_with (gi_at_builtin; refine wpListIn_append_own_at _ rfl _ _ 47 rfl w.heap.size 3 i0 (.int .i64 0) 1 8 Try.underlying47 hi0 hz0 hz1 hz2 rfl (by decide) v k _ rfl (hrow.alloc _) ⟨W.heap.size, 0, none⟩ 1 1 [.int .i64 (x.la : Nat)] rfl rfl (cell_one_new _ _ _) (by simp [Value.oneCell']) (by unfold maxLen; omega) (by omega) (by simp; omega) ?_; intro v' w1 hown' hgrow _ hat; obtain ⟨a', c', rfl⟩ := own_shape hown'; have hap := Boxed.appended hbx (by decide) hrow (by omega) (by omega) hown' hgrow; have hc1 := hap.1.cell; have hf1 := hap.1.frozen)
        have hst : Stays 4 [w.heap.size + 2] (X.heap.size + 2) W (w1.setCell ⟨w.heap.size + 1, 0, none⟩ (.slice a' (k + 1) c')) :=
          ((Stays.alloc _ _ _ _ _).trans (Stays.grown hgrow (fun r e => Para.row_cells (hrow.alloc _) hv e (by omega) (by intro k hk; simp at hk; omega)))).trans (Stays.setCell _ _ _ (by simp; omega) (by simp))
        refine ⟨hap.2.2.2.1.from _, hst, ?_, ?_⟩
        · exact ((hb.alloc _).kept hgrow (fun e => by have := hv _ e.symm; omega)).other (by omega) _
        · show Para.Lst _ _ _ _ _ _ _ (Para.hitsBack p (pre ++ [x])).length ((Para.hitsBack p (pre ++ [x])).map _) _
          rw [hxn.out, hxm.out]
          refine ⟨⟨_, hap.2.1, hap.2.2.1, fun g e => ?_⟩, hB.trans hap.2.2.2.2⟩
          rcases hat with h | h
          · exact hv g (h ▸ e)
          · rw [h] at e; injection e with e; simp at e; omega
      · have HI : Hid (Boxed W w.heap.size 3 (.int .i64 (p : Nat)) ∧ Para.Lst 47 3 1 w.heap.size (w.heap.size + 1) (w.heap.size + 9) w (Para.hitsBack p (pre ++ [x])).length ((Para.hitsBack p (pre ++ [x])).map fun x : Nat => Value.int .i64 (x : Nat)) W) := by
          rw [HS, if_neg hxe, List.append_nil]; exact ⟨hb, hL⟩
        have HK := Lib.hid hk0
        clear hk0 HS hb hL hx hpre
        cases he : x.e with
        | false =>
          rw [he] at x0
          clear hxe he
          gi_wp2
          exact ⟨HK.out.1, HK.out.2, HI.out⟩
        | true =>
          have g2 : decide (x.la < p) = false := decide_eq_false fun h => hxe ⟨he, h⟩
          rw [he] at x0
          clear hxe he
          gi_wp2
          exact ⟨HK.out.1, HK.out.2, HI.out⟩
    case done =>
      rintro D W hD ⟨_, ⟨v, hbx, hrow, hv⟩, hB⟩ hK
      obtain ⟨a, c, rfl⟩ := own_long hrow
      have hc := hbx.cell
      have HB := Lib.hid (hB.trans (belowK_b (w := w) (Nat.le_refl _) W D _ (.deferred none) (by omega) hK rfl rfl))
      by_cases hk : (Para.hitsBack p (Para.all s.data.toList)).length < n
      · have HF : Hid (Para.backN s.data.toList p n = 0) := Para.backN_end hk
        generalize (Para.hitsBack p (Para.all s.data.toList)).length = k at *
        have g2 : decide (k < n) = true := by simp [hk]
        clear hrow hv hB
        gi_wp2
        refine ⟨by simp, .inl ⟨_, _, rfl, run_takeDeferred hK, ?_⟩⟩
        refine ⟨.tuple #[.int .i64 0, .bool true], ?_, by rw [H.out, HF.out]; rfl, HB.out⟩
        simp [results, Try.f18, go_sem]
      · have hF := Para.backN_found hn (by omega : n ≤ (Para.hitsBack p (Para.all s.data.toList)).length)
        generalize Para.backN s.data.toList p n = z at *
        have hlz : ((Para.hitsBack p (Para.all s.data.toList)).map fun x : Nat => Value.int .i64 (x : Nat))[(Para.hitsBack p (Para.all s.data.toList)).length - n]? = some (.int .i64 (z : Nat)) := by rw [List.getElem?_map, hF]; rfl
        have hk9 := Para.hitsBack_le p (Para.all s.data.toList)
        obtain ⟨d, hd⟩ : ∃ d, (Para.hitsBack p (Para.all s.data.toList)).length = d + n := ⟨(Para.hitsBack p (Para.all s.data.toList)).length - n, by omega⟩
        rw [hd] at hrow hc hlz hk9
        rw [Nat.add_sub_cancel] at hlz
        obtain ⟨g, rfl⟩ : ∃ g, a = some ⟨g, 0, none⟩ := by
          rcases hrow.2 with ⟨_, h2⟩ | ⟨g, cap, cur, hv, _⟩
          · omega
          · injection hv with hA; exact ⟨g, hA⟩
        have hgc := (hrow.cellAt d (by omega)).trans hlz
        have g2 : decide ((d : Int) + (n : Int) < (n : Int)) = false := decide_eq_false (by omega)
        have g5 : IntKind.i64.wrap ((d : Nat) : Int) = (d : Nat) := by rw [IntKind.wrap_i64]; omega
        have g6 : (d : Int) < (d : Int) + (n : Int) := by omega
        have g3 : (0 : Int) ≤ (d : Nat) := by omega
        have g4 : d < d + n := by omega
        clear hrow hv hB hF hlz hd hk hal
        gi_wp2
        refine ⟨by simp, .inl ⟨_, _, rfl, run_takeDeferred hK, ?_⟩⟩
        refine ⟨.tuple #[.int .i64 (z : Nat), .bool true], ?_, by rw [H.out], HB.out⟩
        simp [results, Try.f18, go_sem]
    case stop => exact fun _ _ _ h _ => h.elim
end Go.Proofs.Ytjgfcnjnedgejaa
