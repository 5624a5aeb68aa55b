/-
  The blocks of a text as a list: slices.Collect over their iterator; which one is the first that a line is not behind (slices.IndexFunc).
-/
import Derived.Test.YtjgfcnjnedgejaaParaBack
namespace Go.Proofs.Ytjgfcnjnedgejaa
open Go.RowKit Go.Shelf
attribute [local go_sem] Oper.semAt_some
namespace Para
/-- The cells of blocks. -/
def rowB (l : List Bl) : List Value := l.flatMap fun b => (cellsB b).toList
theorem rowB_length (l : List Bl) : (rowB l).length = l.length * 5 := by
  induction l with
  | nil => rfl
  | cons x l ih => simp only [rowB, List.flatMap_cons] at ih ⊢; simp at ih ⊢; omega
theorem rowB_snoc (l : List Bl) (x : Bl) : rowB (l ++ [x]) = rowB l ++ (cellsB x).toList := by simp [rowB]
theorem rowB_get (l : List Bl) {j i : Nat} {x : Bl} {u : Value} (h : l[j]? = some x) (hu : (cellsB x)[i]? = some u) : (rowB l)[j * 5 + i]? = some u := by
  have hi : i < 5 := by have := (Array.getElem?_eq_some_iff.1 hu).1; simpa using this
  induction l generalizing j with
  | nil => simp at h
  | cons y l ih =>
    rw [show rowB (y :: l) = (cellsB y).toList ++ rowB l by simp [rowB]]
    cases j with
    | zero =>
      simp at h; subst h
      rw [List.getElem?_append_left (by simpa using hi), Nat.zero_mul, Nat.zero_add, Array.getElem?_toList]
      exact hu
    | succ j =>
      rw [List.getElem?_append_right (by simp; omega)]
      have := ih (j := j) (by simpa using h)
      rwa [show (j + 1) * 5 + i - (cellsB y).toList.length = j * 5 + i by simp; omega]
theorem cells_new (w : World) (t : TypeId) (l : List Value) (j : Nat) (u : Value) (h : l[j]? = some u) : (w.alloc (.cells l.toArray t)).cell? ((⟨w.heap.size, 0, none⟩ : Addr).add j) = some u := by
  have hb := Blk.new w t l.toArray
  have e : (⟨w.heap.size, 0, none⟩ : Addr).add j = ⟨w.heap.size, j, none⟩ := by unfold Addr.add; split <;> simp_all
  rw [e, hb.cell]
  simpa using h
/-- A slice at A holds these blocks. -/
def Bls (w : World) (A : Option Addr) (l : List Bl) : Prop := 0 < l.length → ∃ g : Nat, A = some ⟨g, 0, none⟩ ∧ g < w.heap.size ∧ ∀ (j : Nat) (x : Bl), l[j]? = some x → ∀ (i : Nat) (u : Value), (cellsB x)[i]? = some u → w.cell? ⟨g, j * 5 + i, none⟩ = some u
theorem Bls.of_own {w : World} {B : Nat} {A : Option Addr} {c : Nat} {t : TypeId} {l : List Bl} (h : w.ownsRow B t 5 (.slice A l.length c) l.length (rowB l)) : Bls w A l := fun h0 => by
  rcases h.2 with ⟨_, h2⟩ | ⟨g, cap, cur, hv, hb, hh, _⟩
  · omega
  · injection hv with hA
    subst hA
    refine ⟨g, rfl, (Array.getElem?_eq_some_iff.1 hh).1, fun j x hx i u hu => ?_⟩
    have hi : i < 5 := by have := (Array.getElem?_eq_some_iff.1 hu).1; simpa using this
    have hj := (List.getElem?_eq_some_iff.1 hx).1
    exact (h.cellAt (j * 5 + i) (by omega)).trans (rowB_get l hx hu)
theorem Bls.below {w w' : World} {A : Option Addr} {l : List Bl} (h : Bls w A l) (hb : Below w.heap.size w w') : Bls w' A l := fun h0 => by
  obtain ⟨g, e, hg, hc⟩ := h h0
  refine ⟨g, e, Nat.lt_of_lt_of_le hg hb.size, fun j x hx i u hu => ?_⟩
  rw [World.cell?_of_block (hb.block _ hg)]
  exact hc j x hx i u hu
theorem info_bl : (Try.prog.info? 37).map (fun i => (i.zero, i.size, i.bytes)) = some (some (.agg #[.bool false, .int .i64 0, .int .i64 0, .int .i64 0, .int .i64 0]), 5, 40) := by kernel_rfl
end Para
set_option maxRecDepth 100000 in
set_option maxHeartbeats 2000000 in
theorem sl_append_seq (tB : Nat) (s : ByteArray) (hs : s.size ≤ 1000000000000) (hv : Utf.valid s.data.toList = true) (w : World) (hT : Boxed w tB 9 (.string s)) :
    Calls Try.prog 39 #[.slice none 0 0, .func (.func 40) #[] #[.pointer (some ⟨tB, 0, none⟩)]] w fun e w' =>
      (∃ v, e = .returned v ∧ w'.ownsRow w.heap.size 37 5 v (Para.all s.data.toList).length (Para.rowB (Para.all s.data.toList))) ∧ Below w.heap.size w w' := by
  have hl := data_len s
  obtain ⟨i0, hi0, hz0, hz1, hz2⟩ := info_parts Para.info_bl
  have hlt := hT.lt
  refine (callsIn_wide (n := 6)).1 ?_
  refine callsIn_of_wp_marks Try.func39 rfl trivial ?_ rfl
  simp only [Try.ntmps39, List.size_toArray, List.length_cons, List.length_nil, Nat.reduceAdd, Nat.reduceSub, Array.replicate_succ, Array.replicate_zero, List.push_toArray, List.append_toArray, List.nil_append, List.cons_append]
  have hL0 : Para.Lst 34 37 5 w.heap.size w.heap.size (w.heap.size + 7) w (([] : List Para.Bl).length) (Para.rowB []) (w.alloc (.cells #[.slice none 0 0] 34)) :=
    ⟨⟨.slice none 0 0, Boxed.new w 34 (.slice none 0 0), World.ownsRow_nil _ _ _ _, fun g e => by cases e⟩, (Below.refl _ _).alloc (Nat.le_refl _) _⟩
  have hT1 := hT.alloc (.cells #[.slice none 0 0] 34)
  have hz : (w.alloc (.cells #[.slice none 0 0] 34)).heap.size = w.heap.size + 1 := by simp
  have hal := Para.all_length s.data.toList
  gi_wp2
  generalize w.alloc (.cells #[.slice none 0 0] 34) = X at *
  clear hT
  refine wpIn_seqUpto rfl (by decide) (gf := 40) (lb := #[.pointer (some ⟨tB, 0, none⟩)]) rfl trivial (enters_of Try.func40 (by kernel_rfl) rfl)
    (para_block_seq _ tB s hs hv X hT1) (fun _ _ _ h k o hk ho _ => h.block k o hk ho) (fun h k => h.trans k)
    (fun W2 l2 o h1 h2 => Stays.putObj (n := X.heap.size) (by intro k hk; simp at hk; omega) W2 l2 o h1 h2) (fun _ _ h => h.size) (Below.refl _ _) (fun _ => rfl)
    (fun pre Wr => Para.Lst 34 37 5 w.heap.size w.heap.size (w.heap.size + 7) w pre.length (Para.rowB pre) Wr)
    (fun _ => False)
    (steps_own (q := 4) (m := X.heap.size) (fun _ _ _ h hs => h.steps hs (Nat.le_refl _) (by omega) (by omega) (Nat.le_refl _)) (Nat.le_refl _))
    (fun _ _ _ _ h _ _ => h)
    (fun _ _ _ h hs => h.steps hs (Nat.le_refl _) (by omega) (by omega) (Nat.le_refl _)) (fun _ _ h _ => h) hL0
    (fun x a' W => ∃ Bx, X.heap.size ≤ Bx ∧ Blk W Bx 37 (Para.cellsB x) ∧ a' = { tmps := #[.slice none 0 0, .func (.func 40) #[] #[.pointer (some ⟨tB, 0, none⟩)], .pointer (some ⟨w.heap.size, 0, none⟩), undef, .slice none 0 0, .pointer (some ⟨Bx, 0, none⟩), .func (.func 40) #[] #[.pointer (some ⟨tB, 0, none⟩)], .agg (Para.cellsB x), undef, undef, undef, undef, undef], defers := [] })
    (fun x a' _ X Y row hs hg hr => by obtain ⟨Bx, e1, e2, e3⟩ := hs; exact ⟨Bx, e1, Para.blk_abide e2 hg (fun r e => (hr r e).2), e3⟩)
    ?assign ?body ?done ?stop
  case assign =>
    rintro l pre x W K hL _ hsz hK
    have H0 := Lib.hid (hK _ _ ((KeepsOthers.alloc W (.cells (Para.cellsB x) 37)).from _) (Stays.alloc _ _ _ _ _) (hL.alloc (Nat.le_refl _) _) ⟨W.heap.size, by omega, Blk.new W 37 (Para.cellsB x), rfl⟩)
    clear hL hK
    gi_wp2
    exact H0.out
  case body =>
    rintro l pre x a' W ⟨⟨v, hbx, hrow, hv⟩, hB⟩ ⟨Bx, hBx, hx, rfl⟩ hpre hsz
    have x0 : W.cell? ⟨Bx, 0, none⟩ = some (.bool x.e) := hx.cell 0
    have x1 : W.cell? ⟨Bx, 1, none⟩ = some (.int .i64 (x.f : Nat)) := hx.cell 1
    have x2 : W.cell? ⟨Bx, 2, none⟩ = some (.int .i64 (x.l : Nat)) := hx.cell 2
    have x3 : W.cell? ⟨Bx, 3, none⟩ = some (.int .i64 (x.fa : Nat)) := hx.cell 3
    have x4 : W.cell? ⟨Bx, 4, none⟩ = some (.int .i64 (x.la : Nat)) := hx.cell 4
    have hlen := hpre.length_le
    rw [List.length_append, List.length_singleton] at hlen
    have hc := hbx.cell
    have hxn : Hid (Para.rowB (pre ++ [x]) = Para.rowB pre ++ (Para.cellsB x).toList) := Para.rowB_snoc pre x
    have hxm : Hid ((pre ++ [x]).length = pre.length + 1) := List.length_append
    generalize Para.rowB pre = xs at *
    generalize pre.length = k at *
    clear hx hpre
    gi_wp2_with (gi_at_builtin; refine wpListIn_append_own_at _ rfl _ _ 34 rfl w.heap.size 37 i0 (.agg #[.bool false, .int .i64 0, .int .i64 0, .int .i64 0, .int .i64 0]) 5 40 Try.underlying34 hi0 hz0 hz1 hz2 rfl (by decide) v k _ rfl (hrow.alloc _) ⟨W.heap.size, 0, none⟩ 1 1 [.bool x.e, .int .i64 (x.f : Nat), .int .i64 (x.l : Nat), .int .i64 (x.fa : Nat), .int .i64 (x.la : Nat)] rfl rfl (Para.cells_new _ _ _) (by simp [Value.oneCell']) (by unfold maxLen; omega) (by omega) (by simp; omega) ?_; intro v' w1 hown' hgrow _ hat; obtain ⟨a', c', rfl⟩ := own_long hown'; have hap := Boxed.appended hbx (by decide) hrow (by omega) (by omega) hown' hgrow; have hc1 := hap.1.cell; have hf1 := hap.1.frozen)
    have hst : Stays 4 [tB] (X.heap.size + 2) W (w1.setCell ⟨w.heap.size, 0, none⟩ (.slice a' (k + 1) c')) :=
      ((Stays.alloc _ _ _ _ _).trans (Stays.grown hgrow (fun r e => Para.row_cells (hrow.alloc _) hv e (by omega) (by intro k hk; simp at hk; omega)))).trans (Stays.setCell _ _ _ (by simp; omega) (by simp; omega))
    rw [hz] at hst
    refine ⟨hap.2.2.2.1.from _, hst, ?_⟩
    show Para.Lst _ _ _ _ _ _ _ (pre ++ [x]).length (Para.rowB (pre ++ [x])) _
    rw [hxn.out, hxm.out]
    refine ⟨⟨_, hap.2.1, hap.2.2.1, fun g e => ?_⟩, hB.trans hap.2.2.2.2⟩
    rcases hat with h | h
    · exact hv g (h ▸ e)
    · rw [h] at e; injection e with e; simp at e; omega
  case done =>
    rintro D W hD ⟨⟨v, hbx, hrow, hv⟩, hB⟩ hK
    obtain rfl : D = w.heap.size + 1 := by omega
    have hc := hbx.cell
    have HB := Lib.hid (hB.trans (belowK_b (w := w) (Nat.le_refl _) W (w.heap.size + 1) _ (.deferred none) (by omega) hK rfl rfl))
    have HR := Lib.hid (ownsRow_putObj hrow (.deferred none) hK rfl)
    clear hrow hB hv hal
    gi_wp2
    refine ⟨by simp, .inl ⟨_, _, rfl, run_takeDeferred hK, ?_⟩⟩
    refine ⟨_, results_tmp rfl _ _ _, ⟨_, rfl, ?_⟩, HB.out⟩
    exact HR.out
  case stop => exact fun _ _ _ h _ => h.elim
theorem sl_collect (tB : Nat) (s : ByteArray) (hs : s.size ≤ 1000000000000) (hv : Utf.valid s.data.toList = true) (w : World) (hT : Boxed w tB 9 (.string s)) :
    Calls Try.prog 25 #[.func (.func 40) #[] #[.pointer (some ⟨tB, 0, none⟩)]] w fun e w' =>
      (∃ v, e = .returned v ∧ w'.ownsRow w.heap.size 37 5 v (Para.all s.data.toList).length (Para.rowB (Para.all s.data.toList))) ∧ Below w.heap.size w w' := by
  have C := Lib.hid (sl_append_seq tB s hs hv w hT)
  clear hT
  go_enter Try.func25, Try.ntmps25
  go_wp2_with (go_at_call 39; refine C.out.mono ?_; rintro e w1 ⟨⟨v, rfl, hr⟩, hb⟩)
  go_ret
  exact ⟨⟨_, rfl, hr⟩, hb⟩
theorem para_behind (x : Para.Bl) (k kB : Nat) (W : World) (hK : Boxed W kB 3 (.int .i64 (k : Nat))) :
    Calls Try.prog 28 #[.agg (Para.cellsB x), .pointer (some ⟨kB, 0, none⟩)] W fun e w' => e = .returned (.bool (decide (k ≤ x.l))) ∧ Below W.heap.size W w' := by
  have hc := (hK.alloc (.cells (Para.cellsB x) 37)).cell
  clear hK
  go_enter Try.func28, Try.ntmps28
  go_wp2
  go_ret
  exact ⟨by simp, (Below.refl _ _).alloc (Nat.le_refl _) _⟩
set_option maxHeartbeats 1000000 in
set_option maxRecDepth 100000 in
theorem sl_index {W : World} {A : Option Addr} {c k kB i : Nat} {B : List Para.Bl} (hx : Para.Bls W A B) (hK : Boxed W kB 3 (.int .i64 (k : Nat))) (hl : B.length ≤ 1000000000002) (hi : (B.findIdx? fun b => decide (k ≤ b.l)) = some i) :
    Calls Try.prog 27 #[.slice A B.length c, .func (.func 28) #[] #[.pointer (some ⟨kB, 0, none⟩)]] W fun e w' => e = .returned (.int .i64 (i : Nat)) ∧ Below W.heap.size W w' := by
  have HX := Lib.hid hx
  obtain ⟨hib, hi1, hi2⟩ := List.findIdx?_eq_some_iff_getElem.1 hi
  have HI := Lib.hid (And.intro hi1 hi2)
  have HK := Lib.hid hK
  clear hx hi hi1 hi2 hK
  go_enter Try.func27, Try.ntmps27
  go_wp2
  go_loopw [5, 8] (fun _ kv wr => ∃ j, j ≤ i ∧ kv = .int .i64 j ∧ Below W.heap.size W wr) (fun _ kv _ => B.length - (intOf kv).toNat)
  case atStart => exact ⟨0, Nat.zero_le _, rfl, Below.refl _ _⟩
  case round =>
    obtain ⟨j, hj, rfl, hb⟩ := hrel
    have hlt : j < B.length := by omega
    have hy : B[j]? = some B[j] := List.getElem?_eq_getElem hlt
    obtain ⟨g, rfl, hg, hc⟩ := HX.out (by omega)
    have cc := fun i u hu => (hb.cell (p := ⟨g, j * 5 + i, none⟩) hg).trans (hc j _ hy i u hu)
    have c0 : wr.cell? ⟨g, j * 5, none⟩ = some (.bool B[j].e) := cc 0 _ rfl
    have c1 : wr.cell? ⟨g, j * 5 + 1, none⟩ = some (.int .i64 (B[j].f : Nat)) := cc 1 _ rfl
    have c2 : wr.cell? ⟨g, j * 5 + 2, none⟩ = some (.int .i64 (B[j].l : Nat)) := cc 2 _ rfl
    have c3 : wr.cell? ⟨g, j * 5 + 3, none⟩ = some (.int .i64 (B[j].fa : Nat)) := cc 3 _ rfl
    have c4 : wr.cell? ⟨g, j * 5 + 4, none⟩ = some (.int .i64 (B[j].la : Nat)) := cc 4 _ rfl
    have hkb : Boxed wr kB 3 (.int .i64 (k : Nat)) := (hb.block kB HK.out.lt).trans HK.out
    have C := Lib.hid (para_behind B[j] k kB wr hkb)
    clear cc hc hkb HX hg
    by_cases he : j = i
    · subst he
      have hd : decide (k ≤ B[j].l) = true := HI.out.1
      rw [hd] at C
      clear hd
      generalize B[j] = x at *
      go_wp2_with (go_at_call 28; refine C.out.mono ?_; rintro e w1 ⟨rfl, hb1⟩)
      go_ret
      exact ⟨rfl, hb.trans (hb1.mono hb.size)⟩
    · have hd : decide (k ≤ B[j].l) = false := by simpa using HI.out.2 j (by omega)
      rw [hd] at C
      clear hd
      generalize B[j] = x at *
      go_wp2_with (go_at_call 28; refine C.out.mono ?_; rintro e w1 ⟨rfl, hb1⟩)
      go_roundw
      case rel => exact ⟨j + 1, by omega, by go_num, hb.trans (hb1.mono hb.size)⟩
      case measure => simp [intOf]; omega
end Go.Proofs.Ytjgfcnjnedgejaa
