/-
  The blocks of lines of a text, one by one: the iterator over them, which goes through where lines start.
-/
import Derived.Test.YtjgfcnjnedgejaaParaStarts
import Derived.Stop.RegionWithIn
namespace Go.Proofs.Ytjgfcnjnedgejaa
open Go.RowKit Go.Shelf
attribute [local go_sem] Oper.semAt_some
namespace Para
/-- A block's cells. -/
abbrev cellsB (b : Bl) : Array Value := #[.bool b.e, .int .i64 (b.f : Nat), .int .i64 (b.l : Nat), .int .i64 (b.fa : Nat), .int .i64 (b.la : Nat)]
/-- What is handed on of a block. -/
abbrev encB (b : Bl) : Array Value := #[.agg (cellsB b)]
/-- What the iterator keeps in its boxes, from block m on, and the text in block tB; and what has been handed on. -/
structure At (J : List Bl → World → Prop) (l m tB : Nat) (s : ByteArray) (r : List Bl × Bl × Nat) (W : World) : Prop where
  y : Boxed W m 42 (.func (.yield l) #[] #[])
  b : Blk W (m + 1) 37 (cellsB r.2.1)
  k : Boxed W (m + 1 + 1) 3 (.int .i64 (r.2.2 : Nat))
  t : Boxed W tB 9 (.string s)
  j : J r.1 W
theorem steps_blk {q m : Nat} {A B : World} {b : Nat} {t : TypeId} {cs : Array Value} (h : Steps q m A B) (hb : b < m ∨ m + q ≤ b) (hx : Blk A b t cs) : Blk B b t cs := h.same b _ hx (hb.elim .inl fun h => .inr ⟨h, rfl⟩)
theorem stays_blk {q : Nat} {T : List Nat} {m : Nat} {A B : World} (h : Stays q T m A B) {b : Nat} {t : TypeId} {cs : Array Value} (hb : (m ≤ b ∧ b < m + q) ∨ b ∈ T) (hx : Blk A b t cs) : Blk B b t cs := h.same b _ hx (.inr hb)
theorem stays_boxed {q : Nat} {T : List Nat} {m : Nat} {A B : World} (h : Stays q T m A B) {b : Nat} {t : TypeId} {v : Value} (hb : (m ≤ b ∧ b < m + q) ∨ b ∈ T) (hx : Boxed A b t v) : Boxed B b t v := h.boxed hb hx
theorem Steps.drew' (q m : Nat) (A : World) : Steps q m A A.drew := ⟨rfl, rfl, rfl, Nat.le_refl _, fun _ _ h _ => h⟩
theorem Stays.drew' (q : Nat) (T : List Nat) (m : Nat) (A : World) : Stays q T m A A.drew := ⟨Nat.le_refl _, fun _ _ h _ => h⟩
theorem box_far {W : World} {b : Nat} {t : TypeId} {v : Value} (h : Boxed W b t v) {a : Addr} (hb : b ≠ a.block) (u : Value) : Boxed (W.setCell a u) b t v := (Below.heap_setCell W a u b hb).trans h
theorem far3 {W : World} {b : Nat} {t : TypeId} {v : Value} (h : Boxed W b t v) {a1 a2 a3 : Addr} (h1 : b ≠ a1.block) (h2 : b ≠ a2.block) (h3 : b ≠ a3.block) (u1 u2 u3 : Value) : Boxed (((W.setCell a1 u1).setCell a2 u2).setCell a3 u3) b t v :=
  box_far (box_far (box_far h h1 u1) h2 u2) h3 u3
section
variable {J : List Bl → World → Prop} {l m tB : Nat} {s : ByteArray} {r : List Bl × Bl × Nat} {W W' : World}
theorem At.inner (hJ : ∀ s A B, J s A → Steps 4 m A B → J s B) {m' : Nat} (hm : m + 4 ≤ m') (ht : tB < m) (h : At J l m tB s r W) (hs : Steps 0 m' W W') : At J l m tB s r W' :=
  ⟨hs.boxed (.inl (by omega)) h.y, steps_blk hs (.inl (by omega)) h.b, hs.boxed (.inl (by omega)) h.k, hs.boxed (.inl (by omega)) h.t, hJ _ _ _ h.j (hs.wide (by omega) (.inl rfl))⟩
theorem At.told (h : At J l m tB s r W) (hs : Stays 4 [tB] m W W') {o : List Bl} (hj : J o W') : At J l m tB s (o, r.2) W' :=
  ⟨hs.boxed (.inl (by omega)) h.y, stays_blk hs (.inl (by omega)) h.b, hs.boxed (.inl (by omega)) h.k, hs.boxed (.inr (by simp)) h.t, hj⟩
theorem At.drew (hJ : ∀ s A B, J s A → Steps 4 m A B → J s B) (h : At J l m tB s r W) : At J l m tB s r W.drew := ⟨h.y, h.b, h.k, h.t, hJ _ _ _ h.j (Steps.drew' _ _ _)⟩
/-- The next line is of the block. -/
theorem At.more (hJ : ∀ s A B, J s A → Steps 4 m A B → J s B) (ht : tB < m) {o : List Bl} {b : Bl} {k : Nat} (h : At J l m tB s (o, b, k) W) (x : Nat) :
    At J l m tB s (o, { b with l := k, la := x }, k + 1) (((W.setCell ⟨m + 1, 2, none⟩ (.int .i64 (k : Nat))).setCell ⟨m + 1, 4, none⟩ (.int .i64 (x : Nat))).setCell ⟨m + 1 + 1, 0, none⟩ (.int .i64 ((k : Int) + 1))) :=
  ⟨far3 h.y (by simp) (by simp) (by simp; omega) _ _ _, (((h.b.set_ 2 (.int .i64 (k : Nat))).set_ 4 (.int .i64 (x : Nat))).far (p := ⟨m + 1 + 1, 0, none⟩) (by simp) _ : _),
    ((box_far (box_far h.k (by simp) _) (by simp) _).set (.int .i64 ((k : Int) + 1)) : _), far3 h.t (by simp; omega) (by simp; omega) (by simp; omega) _ _ _,
    hJ _ _ _ (hJ _ _ _ (hJ _ _ _ h.j (Steps.setCell _ (by simp) (by simp))) (Steps.setCell _ (by simp) (by simp))) (Steps.setCell _ (by simp; omega) (by simp))⟩
/-- The next line is of another block. -/
theorem At.anew (hJ : ∀ s A B, J s A → Steps 4 m A B → J s B) (ht : tB < m) {o : List Bl} {b : Bl} {k : Nat} (h : At J l m tB s (o, b, k) W) (x : Nat) :
    At J l m tB s (o, ⟨!b.e, k, k, x, x⟩, k + 1) ((((((((W.setCell ⟨m + 1, 0, none⟩ (.bool !b.e)).setCell ⟨m + 1, 1, none⟩ (.int .i64 (k : Nat))).setCell ⟨m + 1, 2, none⟩ (.int .i64 0)).setCell ⟨m + 1, 3, none⟩ (.int .i64 (x : Nat))).setCell ⟨m + 1, 4, none⟩ (.int .i64 0)).setCell ⟨m + 1, 2, none⟩ (.int .i64 (k : Nat))).setCell ⟨m + 1, 4, none⟩ (.int .i64 (x : Nat))).setCell ⟨m + 1 + 1, 0, none⟩ (.int .i64 ((k : Int) + 1))) :=
  ⟨box_far (box_far (box_far (box_far (box_far (box_far (box_far (box_far h.y (by simp) _) (by simp) _) (by simp) _) (by simp) _) (by simp) _) (by simp) _) (by simp) _) (by simp; omega) _, ((((((((h.b.set_ 0 (.bool !b.e)).set_ 1 (.int .i64 (k : Nat))).set_ 2 (.int .i64 0)).set_ 3 (.int .i64 (x : Nat))).set_ 4 (.int .i64 0)).set_ 2 (.int .i64 (k : Nat))).set_ 4 (.int .i64 (x : Nat))).far (p := ⟨m + 1 + 1, 0, none⟩) (by simp) _ : _),
    ((box_far (box_far (box_far (box_far (box_far (box_far (box_far h.k (by simp) _) (by simp) _) (by simp) _) (by simp) _) (by simp) _) (by simp) _) (by simp) _).set (.int .i64 ((k : Int) + 1)) : _), box_far (box_far (box_far (box_far (box_far (box_far (box_far (box_far h.t (by simp; omega) _) (by simp; omega) _) (by simp; omega) _) (by simp; omega) _) (by simp; omega) _) (by simp; omega) _) (by simp; omega) _) (by simp; omega) _,
    hJ _ _ _ (hJ _ _ _ (hJ _ _ _ (hJ _ _ _ (hJ _ _ _ (hJ _ _ _ (hJ _ _ _ (hJ _ _ _ h.j (Steps.setCell _ (by simp) (by simp))) (Steps.setCell _ (by simp) (by simp))) (Steps.setCell _ (by simp) (by simp))) (Steps.setCell _ (by simp) (by simp))) (Steps.setCell _ (by simp) (by simp))) (Steps.setCell _ (by simp) (by simp))) (Steps.setCell _ (by simp) (by simp))) (Steps.setCell _ (by simp; omega) (by simp))⟩
end
/-- What a round of the inner loop keeps. -/
def Kept (m n : Nat) (W W' : World) : Prop := KeepsFrom n W W' ∧ Stays 0 [m + 1 + 1 + 1] (n + 2) W W'
theorem Kept.of {m n tB : Nat} {W W' : World} (h : Stays 4 [tB] m W W') (hn : n = m + 4) : Kept m n W W' :=
  ⟨h.from (by omega), h.inner (by omega) rfl (by intro k hk; simp at hk; omega)⟩
theorem Kept.refl (m n : Nat) (W : World) : Kept m n W W := ⟨KeepsFrom.refl _ _, Stays.refl _ _ _ _⟩
theorem Kept.drew {m n : Nat} {W W' : World} (h : Kept m n W W') : Kept m n W W'.drew := ⟨h.1.trans ⟨Nat.le_refl _, fun _ _ _ k _ => k⟩, h.2.trans (Stays.drew' _ _ _ _)⟩
theorem Kept.set {m n : Nat} {W W' : World} (h : Kept m n W W') (a : Addr) (h1 : a.block < m + 3) (hn : n = m + 4) (v : Value) : Kept m n W (W'.setCell a v) :=
  ⟨h.1.trans ((KeepsOthers.setCell W' a v).from n), h.2.trans (Stays.setCell W' a v (by omega) (by simp; omega))⟩
theorem Kept.trans {m n : Nat} {A B C : World} (h : Kept m n A B) (k : Kept m n B C) : Kept m n A C := ⟨h.1.trans k.1, h.2.trans k.2⟩
end Para
set_option maxHeartbeats 1000000 in
set_option maxRecDepth 100000 in
theorem para_block_seq (n : Nat) (tB : Nat) (s : ByteArray) (hs : s.size ≤ 1000000000000) (hv : Utf.valid s.data.toList = true) (w : World) (hT : Boxed w tB 9 (.string s)) :
    SeqUpto Fence.wide n Try.prog 40 #[.pointer (some ⟨tB, 0, none⟩)] Para.encB 4 (Stays 4 [tB]) (Steps 4) (Para.all s.data.toList) w := by
  intro l J X W hW hJ hX hY h0
  have hlt := Nat.lt_of_lt_of_le hT.lt hW.size
  have bT : Boxed W tB 9 (.string s) := (hW.block tB hT.lt).trans hT
  have c1 := Lib.hid (fun w => para_bare s 0 (Nat.zero_le _) w)
  have c2 := Lib.hid (fun w => para_starts s w)
  refine callsIn_wide.2 (callsIn_wide.1 (?_ : CallsIn Fence.wide 6 _ _ _ _ _))
  refine callsIn_of_wp_marks Try.func40 rfl trivial ?_ rfl
  simp only [Try.ntmps40, List.size_toArray, List.length_cons, List.length_nil, Nat.reduceAdd, Nat.reduceSub, Array.replicate_succ, Array.replicate_zero, List.push_toArray, List.append_toArray, List.nil_append, List.cons_append]
  obtain ⟨e0, he0⟩ : ∃ e, Para.bare s.data.toList 0 = e := ⟨_, rfl⟩
  rw [he0] at c1
  have H0 := Lib.hid he0
  clear he0
  have b0 := ((Boxed.new W 42 (.func (.yield l) #[] #[])).alloc (.cells #[.bool e0, .int .i64 0, .int .i64 0, .int .i64 0, .int .i64 0] 37)).alloc (.cells #[.int .i64 0] 3)
  have b1 := (Blk.new (W.alloc (.cells #[.func (.yield l) #[] #[]] 42)) 37 #[.bool e0, .int .i64 0, .int .i64 0, .int .i64 0, .int .i64 0]).alloc (.cells #[.int .i64 0] 3)
  have b2 := Boxed.new ((W.alloc (.cells #[.func (.yield l) #[] #[]] 42)).alloc (.cells #[.bool e0, .int .i64 0, .int .i64 0, .int .i64 0, .int .i64 0] 37)) 3 (.int .i64 0)
  have hB := (((Below.refl W.heap.size W).alloc (Nat.le_refl _) (.cells #[.func (.yield l) #[] #[]] 42)).alloc (by simp) (.cells #[.bool e0, .int .i64 0, .int .i64 0, .int .i64 0, .int .i64 0] 37)).alloc (by simp; omega) (.cells #[.int .i64 0] 3)
  have bT3 := ((bT.alloc (.cells #[.func (.yield l) #[] #[]] 42)).alloc (.cells #[.bool e0, .int .i64 0, .int .i64 0, .int .i64 0, .int .i64 0] 37)).alloc (.cells #[.int .i64 0] 3)
  simp only [World.size_alloc] at b1 b2
  have cT1 := (bT.alloc (.cells #[.func (.yield l) #[] #[]] 42)).cell
  have cT3 := bT3.cell
  have HA := Lib.hid (And.intro hB (And.intro b0 (And.intro b1 (And.intro b2 bT3))))
  clear hB b0 b1 b2 bT3 bT hT
  gi_wp2_with (refine ⟨trivial, ?_⟩; (first
    | (gi_at_call 41; refine (callsIn_wide.2 (c1.out _)).mono ?_; rintro e w' ⟨rfl, rfl⟩)
    | (gi_at_call 42; refine (callsIn_wide.2 (c2.out _)).mono ?_; rintro e w' ⟨rfl, rfl⟩)))
  obtain ⟨hB, b0, b1, b2, bT3⟩ := HA.out
  clear HA cT1 cT3 c1 c2
  have bS := Boxed.new (((W.alloc (.cells #[.func (.yield l) #[] #[]] 42)).alloc (.cells #[.bool e0, .int .i64 0, .int .i64 0, .int .i64 0, .int .i64 0] 37)).alloc (.cells #[.int .i64 0] 3)) 9 (.string s)
  have hB4 := hB.alloc (by simp; omega) (.cells #[.string s] 9)
  have hA0 : Para.At J l W.heap.size tB s (Para.run s.data.toList []) ((((W.alloc (.cells #[.func (.yield l) #[] #[]] 42)).alloc (.cells #[.bool e0, .int .i64 0, .int .i64 0, .int .i64 0, .int .i64 0] 37)).alloc (.cells #[.int .i64 0] 3)).alloc (.cells #[.string s] 9)) := by
    rw [Para.run_nil, H0.out]
    exact ⟨b0.alloc _, b1.alloc _, b2.alloc _, bT3.alloc _, hJ _ _ _ h0 (Steps.of_below 4 hB4 (Nat.le_refl _))⟩
  have hz : ((((W.alloc (.cells #[.func (.yield l) #[] #[]] 42)).alloc (.cells #[.bool e0, .int .i64 0, .int .i64 0, .int .i64 0, .int .i64 0] 37)).alloc (.cells #[.int .i64 0] 3)).alloc (.cells #[.string s] 9)).heap.size = W.heap.size + 4 := by simp
  clear hB hB4 b0 b1 b2 bT3 h0
  simp only [World.size_alloc] at bS
  generalize (((W.alloc (.cells #[.func (.yield l) #[] #[]] 42)).alloc (.cells #[.bool e0, .int .i64 0, .int .i64 0, .int .i64 0, .int .i64 0] 37)).alloc (.cells #[.int .i64 0] 3)).alloc (.cells #[.string s] 9) = w4 at *
  have hxs := Lib.hid (fun x (hx : x ≤ s.size) w => para_bare s x hx w)
  refine wpIn_seqUpto rfl (by decide) (gf := 49) (lb := #[.pointer (some ⟨W.heap.size + 1 + 1 + 1, 0, none⟩)]) rfl trivial (enters_of Try.func49 (by kernel_rfl) rfl)
    (para_start_seq _ (by decide) (W.heap.size + 1 + 1 + 1) s hs hv w4 bS) (fun _ _ _ h k o hk ho _ => h.block k o hk ho) (fun h k => h.trans k)
    (fun W2 l2 o h1 h2 => Stays.putObj (n := w4.heap.size) (by intro k hk; simp at hk; omega) W2 l2 o h1 h2) (fun _ _ h => h.size) (Below.refl _ _) (fun _ => rfl)
    (fun pre Wr => Para.At J l W.heap.size tB s (Para.run s.data.toList pre) Wr) X
    (steps_own (q := 0) (m := w4.heap.size) (fun _ _ _ h hs => h.inner hJ (by omega) hlt hs) (Nat.le_refl _)) (steps_own (q := 0) (m := w4.heap.size) (fun _ A B h hs => hX A B h (hs.wide (by omega) (.inl rfl))) (Nat.le_refl _))
    (fun _ _ _ h hs => h.inner hJ (by omega) hlt hs) (fun A B h hs => hX A B h (hs.wide (by omega) (.inl rfl))) hA0
    (fun x a' _ => a' = { tmps := #[.func (.yield l) #[] #[], .pointer (some ⟨tB, 0, none⟩), .pointer (some ⟨W.heap.size, 0, none⟩), .pointer (some ⟨W.heap.size + 1, 0, none⟩), .pointer (some ⟨W.heap.size + 1 + 1, 0, none⟩), .int .i64 (x : Nat), .string s, .bool e0, .agg #[.bool e0, .int .i64 0, .int .i64 0, .int .i64 0, .int .i64 0], .string s, .func (.func 49) #[] #[.pointer (some ⟨W.heap.size + 1 + 1 + 1, 0, none⟩)], .int .i64 (x : Nat), undef, undef, undef, undef, undef, undef, undef, undef, undef, undef, undef, undef, undef, undef, undef, undef, undef, undef, undef, undef, undef, undef, undef, undef, undef], defers := [] })
    (fun _ _ _ _ _ _ hs _ _ => hs) ?assign ?body ?done ?stop
  case assign =>
    intro l2 pre x W2 K hi _ _ hK
    have hK2 := hK _ _ (KeepsFrom.refl _ _) (Stays.refl _ _ _ _) hi rfl
    gi_wp2
    exact hK2
  case body =>
    rintro l2 pre x a' Wr hAt rfl hpre hsz
    have hrun := Para.run_snoc s.data.toList pre x
    have hxle : x ≤ s.size := by
      have h1 : x ∈ Para.S s.data.toList := hpre.subset (List.mem_append_right _ (List.mem_singleton.2 rfl))
      obtain ⟨y, hy, rfl⟩ := List.mem_map.1 h1
      obtain ⟨j, hj, rfl⟩ := List.mem_iff_getElem.1 hy
      have := Line.L_each (List.getElem?_eq_getElem hj)
      have := data_len s
      omega
    have hk9 : (Para.run s.data.toList pre).2.2 + 1 ≤ 1000000000002 := by
      rw [Para.run_count]
      have h1 := hpre.length_le
      have h2 := Line.L_length s.data.toList
      rw [List.length_append, List.length_singleton, Para.S, List.length_map] at h1
      rw [data_len] at h2
      omega
    have hpre2 : (Para.run s.data.toList (pre ++ [x])).1 <+: (Para.run s.data.toList (Para.S s.data.toList)).1 := Para.run_prefix hpre
    have c := hxs.out x hxle
    clear hxs
    have HJ := Lib.hid hJ
    clear hJ
    generalize Para.run s.data.toList pre = r at *
    obtain ⟨o, b, k⟩ := r
    dsimp only at hk9
    have cy := hAt.y.cell
    have ct := hAt.t.cell
    have ck := hAt.k.cell
    have fk := hAt.k.frozen
    have ce : Wr.cell? ⟨W.heap.size + 1, 0, none⟩ = some (.bool b.e) := hAt.b.cell 0
    have c1 : Wr.cell? ⟨W.heap.size + 1, 1, none⟩ = some (.int .i64 (b.f : Nat)) := hAt.b.cell 1
    have c2 : Wr.cell? ⟨W.heap.size + 1, 2, none⟩ = some (.int .i64 (b.l : Nat)) := hAt.b.cell 2
    have c3 : Wr.cell? ⟨W.heap.size + 1, 3, none⟩ = some (.int .i64 (b.fa : Nat)) := hAt.b.cell 3
    have c4 : Wr.cell? ⟨W.heap.size + 1, 4, none⟩ = some (.int .i64 (b.la : Nat)) := hAt.b.cell 4
    have f0 := hAt.b.frozen 0
    have f1 := hAt.b.frozen 1
    have f2 := hAt.b.frozen 2
    have f3 := hAt.b.frozen 3
    have f4 := hAt.b.frozen 4
    dsimp only at ck
    obtain ⟨e, hbe⟩ : ∃ e, b.e = e := ⟨_, rfl⟩
    obtain ⟨z, hbz⟩ : ∃ z, Para.bare s.data.toList x = z := ⟨_, rfl⟩
    rw [hbz] at c
    have C := Lib.hid c
    clear c
    cases e with
    | true =>
      rw [hbe] at ce
      cases z with
      | true =>
        have hX : Para.run s.data.toList (pre ++ [x]) = (o, { b with l := k, la := x }, k + 1) := by rw [hrun, Para.step]; simp [hbe, hbz]
        have bk := Para.box_far (Para.box_far hAt.k (a := ⟨W.heap.size + 1, 2, none⟩) (by simp) (.int .i64 (k : Nat))) (a := ⟨W.heap.size + 1, 4, none⟩) (by simp) (.int .i64 (x : Nat))
        have ck2 := bk.cell
        have fk2 := bk.frozen
        dsimp only at ck2
        have HP := Lib.hid (And.intro hAt hX)
        clear hAt hX hrun hpre hpre2 hY hbe hbz bk
        gi_wp2
        refine wpIn_mono (Q := fun e a' w' => e = .normal ∧ a' = { tmps := #[.func (.yield l) #[] #[], .pointer (some ⟨tB, 0, none⟩), .pointer (some ⟨W.heap.size, 0, none⟩), .pointer (some ⟨W.heap.size + 1, 0, none⟩), .pointer (some ⟨W.heap.size + 1 + 1, 0, none⟩), .int .i64 (x : Nat), .string s, .bool e0, .agg #[.bool e0, .int .i64 0, .int .i64 0, .int .i64 0, .int .i64 0], .string s, .func (.func 49) #[] #[.pointer (some ⟨W.heap.size + 1 + 1 + 1, 0, none⟩)], .int .i64 (x : Nat), .string s, .int .i64 (x : Nat), .bool true, .pointer (some ⟨W.heap.size + 1, 0, none⟩), .bool true, .bool false, undef, undef, undef, undef, undef, undef, undef, undef, undef, undef, undef, undef, undef, undef, undef, undef, undef, undef, undef], defers := [] } ∧ w' = Wr.drew) ?_ ?_
        · gi_region_with (refine ⟨trivial, ?_⟩; gi_at_call 41; refine (callsIn_wide.2 (C.out _)).mono ?_; rintro e w' ⟨rfl, rfl⟩)
          all_goals exact ⟨rfl, rfl, rfl⟩
        rintro e' a' w' ⟨rfl, rfl, rfl⟩
        gi_wp2
        have hK := ((((Para.Kept.refl W.heap.size w4.heap.size Wr).set ⟨W.heap.size + 1, 2, none⟩ (by simp) hz (.int .i64 (k : Nat))).set ⟨W.heap.size + 1, 4, none⟩ (by simp) hz (.int .i64 (x : Nat))).set ⟨W.heap.size + 1 + 1, 0, none⟩ (by simp) hz (.int .i64 ((k : Int) + 1))).drew
        refine ⟨hK.1, hK.2, ?_⟩
        show Para.At J l W.heap.size tB s (Para.run s.data.toList (pre ++ [x])) _
        rw [HP.out.2]
        exact (HP.out.1.more HJ.out hlt x).drew HJ.out
      | false =>
        have hX : Para.run s.data.toList (pre ++ [x]) = (o ++ [b], ⟨!b.e, k, k, x, x⟩, k + 1) := by rw [hrun, Para.step]; simp [hbe, hbz]
        rw [hX] at hpre2
        have hAd := hAt.drew HJ.out
        obtain ⟨fn, tmps, assign, body, hy, hR⟩ := yield_deep (m := 3) (hY _ b _ hAd.j (hpre2.trans (List.prefix_append _ _)) (by show _ ≤ Wr.heap.size; omega))
        dsimp only [Para.encB, Para.cellsB] at hy
        rw [hbe] at hy
        have HP := Lib.hid (And.intro hAd hX)
        clear hAt hAd hX hrun hpre hpre2 hY hbe hbz
        gi_wp2
        refine wpIn_mono (Q := fun e a' w' => e = .normal ∧ a' = { tmps := #[.func (.yield l) #[] #[], .pointer (some ⟨tB, 0, none⟩), .pointer (some ⟨W.heap.size, 0, none⟩), .pointer (some ⟨W.heap.size + 1, 0, none⟩), .pointer (some ⟨W.heap.size + 1 + 1, 0, none⟩), .int .i64 (x : Nat), .string s, .bool e0, .agg #[.bool e0, .int .i64 0, .int .i64 0, .int .i64 0, .int .i64 0], .string s, .func (.func 49) #[] #[.pointer (some ⟨W.heap.size + 1 + 1 + 1, 0, none⟩)], .int .i64 (x : Nat), .string s, .int .i64 (x : Nat), .bool false, .pointer (some ⟨W.heap.size + 1, 0, none⟩), .bool true, .bool true, undef, undef, undef, undef, undef, undef, undef, undef, undef, undef, undef, undef, undef, undef, undef, undef, undef, undef, undef], defers := [] } ∧ w' = Wr.drew) ?_ ?_
        · gi_region_with (refine ⟨trivial, ?_⟩; gi_at_call 41; refine (callsIn_wide.2 (C.out _)).mono ?_; rintro e w' ⟨rfl, rfl⟩)
          all_goals exact ⟨rfl, rfl, rfl⟩
        rintro e' a' w' ⟨rfl, rfl, rfl⟩
        gi_wp2
        refine (show RoundIn (Fence.wide.inRound l2) 3 _ _ _ _ _ _ _ _ from hR).mono ?_
        rintro e W4 ⟨hk4, ⟨rfl, hj4⟩ | ⟨rfl, hx4⟩⟩
        · have hA4 := HP.out.1.told hk4 hj4
          have HQ := Lib.hid (And.intro hA4 hk4)
          have ck := hA4.k.cell
          have fk := hA4.k.frozen
          dsimp only at ck
          have c0 : W4.cell? ⟨W.heap.size + 1, 0, none⟩ = some (.bool b.e) := hA4.b.cell 0
          have c1 : W4.cell? ⟨W.heap.size + 1, 1, none⟩ = some (.int .i64 (b.f : Nat)) := hA4.b.cell 1
          have c2 : W4.cell? ⟨W.heap.size + 1, 2, none⟩ = some (.int .i64 (b.l : Nat)) := hA4.b.cell 2
          have c3 : W4.cell? ⟨W.heap.size + 1, 3, none⟩ = some (.int .i64 (b.fa : Nat)) := hA4.b.cell 3
          have c4 : W4.cell? ⟨W.heap.size + 1, 4, none⟩ = some (.int .i64 (b.la : Nat)) := hA4.b.cell 4
          have f0 := hA4.b.frozen 0
          have f1 := hA4.b.frozen 1
          have f2 := hA4.b.frozen 2
          have f3 := hA4.b.frozen 3
          have f4 := hA4.b.frozen 4
          obtain ⟨e9, he9⟩ : ∃ e, b.e = e := ⟨_, rfl⟩
          clear hA4 hk4 hj4 hR hy ce
          gi_wp2
          have hK0 := ((Para.Kept.refl W.heap.size w4.heap.size Wr).drew).trans (Para.Kept.of HQ.out.2 hz)
          have hK := ((((((((hK0.set ⟨W.heap.size + 1, 0, none⟩ (by simp) hz (.bool !e9)).set ⟨W.heap.size + 1, 1, none⟩ (by simp) hz (.int .i64 (k : Nat))).set ⟨W.heap.size + 1, 2, none⟩ (by simp) hz (.int .i64 0)).set ⟨W.heap.size + 1, 3, none⟩ (by simp) hz (.int .i64 (x : Nat))).set ⟨W.heap.size + 1, 4, none⟩ (by simp) hz (.int .i64 0)).set ⟨W.heap.size + 1, 2, none⟩ (by simp) hz (.int .i64 (k : Nat))).set ⟨W.heap.size + 1, 4, none⟩ (by simp) hz (.int .i64 (x : Nat))).set ⟨W.heap.size + 1 + 1, 0, none⟩ (by simp) hz (.int .i64 ((k : Int) + 1)))
          refine ⟨hK.1, hK.2, ?_⟩
          show Para.At J l W.heap.size tB s (Para.run s.data.toList (pre ++ [x])) _
          rw [HP.out.2]
          subst he9
          exact HQ.out.1.anew HJ.out hlt x
        · have hK := ((Para.Kept.refl W.heap.size w4.heap.size Wr).drew).trans (Para.Kept.of hk4 hz)
          gi_wp2
          exact ⟨hK.1, hK.2, hx4⟩
    | false =>
      rw [hbe] at ce
      cases z with
      | true =>
        have hX : Para.run s.data.toList (pre ++ [x]) = (o ++ [b], ⟨!b.e, k, k, x, x⟩, k + 1) := by rw [hrun, Para.step]; simp [hbe, hbz]
        rw [hX] at hpre2
        have hAd := hAt.drew HJ.out
        obtain ⟨fn, tmps, assign, body, hy, hR⟩ := yield_deep (m := 3) (hY _ b _ hAd.j (hpre2.trans (List.prefix_append _ _)) (by show _ ≤ Wr.heap.size; omega))
        dsimp only [Para.encB, Para.cellsB] at hy
        rw [hbe] at hy
        have HP := Lib.hid (And.intro hAd hX)
        clear hAt hAd hX hrun hpre hpre2 hY hbe hbz
        gi_wp2
        refine wpIn_mono (Q := fun e a' w' => e = .normal ∧ a' = { tmps := #[.func (.yield l) #[] #[], .pointer (some ⟨tB, 0, none⟩), .pointer (some ⟨W.heap.size, 0, none⟩), .pointer (some ⟨W.heap.size + 1, 0, none⟩), .pointer (some ⟨W.heap.size + 1 + 1, 0, none⟩), .int .i64 (x : Nat), .string s, .bool e0, .agg #[.bool e0, .int .i64 0, .int .i64 0, .int .i64 0, .int .i64 0], .string s, .func (.func 49) #[] #[.pointer (some ⟨W.heap.size + 1 + 1 + 1, 0, none⟩)], .int .i64 (x : Nat), .string s, .int .i64 (x : Nat), .bool true, .pointer (some ⟨W.heap.size + 1, 0, none⟩), .bool false, .bool true, undef, undef, undef, undef, undef, undef, undef, undef, undef, undef, undef, undef, undef, undef, undef, undef, undef, undef, undef], defers := [] } ∧ w' = Wr.drew) ?_ ?_
        · gi_region_with (refine ⟨trivial, ?_⟩; gi_at_call 41; refine (callsIn_wide.2 (C.out _)).mono ?_; rintro e w' ⟨rfl, rfl⟩)
          all_goals exact ⟨rfl, rfl, rfl⟩
        rintro e' a' w' ⟨rfl, rfl, rfl⟩
        gi_wp2
        refine (show RoundIn (Fence.wide.inRound l2) 3 _ _ _ _ _ _ _ _ from hR).mono ?_
        rintro e W4 ⟨hk4, ⟨rfl, hj4⟩ | ⟨rfl, hx4⟩⟩
        · have hA4 := HP.out.1.told hk4 hj4
          have HQ := Lib.hid (And.intro hA4 hk4)
          have ck := hA4.k.cell
          have fk := hA4.k.frozen
          dsimp only at ck
          have c0 : W4.cell? ⟨W.heap.size + 1, 0, none⟩ = some (.bool b.e) := hA4.b.cell 0
          have c1 : W4.cell? ⟨W.heap.size + 1, 1, none⟩ = some (.int .i64 (b.f : Nat)) := hA4.b.cell 1
          have c2 : W4.cell? ⟨W.heap.size + 1, 2, none⟩ = some (.int .i64 (b.l : Nat)) := hA4.b.cell 2
          have c3 : W4.cell? ⟨W.heap.size + 1, 3, none⟩ = some (.int .i64 (b.fa : Nat)) := hA4.b.cell 3
          have c4 : W4.cell? ⟨W.heap.size + 1, 4, none⟩ = some (.int .i64 (b.la : Nat)) := hA4.b.cell 4
          have f0 := hA4.b.frozen 0
          have f1 := hA4.b.frozen 1
          have f2 := hA4.b.frozen 2
          have f3 := hA4.b.frozen 3
          have f4 := hA4.b.frozen 4
          obtain ⟨e9, he9⟩ : ∃ e, b.e = e := ⟨_, rfl⟩
          clear hA4 hk4 hj4 hR hy ce
          gi_wp2
          have hK0 := ((Para.Kept.refl W.heap.size w4.heap.size Wr).drew).trans (Para.Kept.of HQ.out.2 hz)
          have hK := ((((((((hK0.set ⟨W.heap.size + 1, 0, none⟩ (by simp) hz (.bool !e9)).set ⟨W.heap.size + 1, 1, none⟩ (by simp) hz (.int .i64 (k : Nat))).set ⟨W.heap.size + 1, 2, none⟩ (by simp) hz (.int .i64 0)).set ⟨W.heap.size + 1, 3, none⟩ (by simp) hz (.int .i64 (x : Nat))).set ⟨W.heap.size + 1, 4, none⟩ (by simp) hz (.int .i64 0)).set ⟨W.heap.size + 1, 2, none⟩ (by simp) hz (.int .i64 (k : Nat))).set ⟨W.heap.size + 1, 4, none⟩ (by simp) hz (.int .i64 (x : Nat))).set ⟨W.heap.size + 1 + 1, 0, none⟩ (by simp) hz (.int .i64 ((k : Int) + 1)))
          refine ⟨hK.1, hK.2, ?_⟩
          show Para.At J l W.heap.size tB s (Para.run s.data.toList (pre ++ [x])) _
          rw [HP.out.2]
          subst he9
          exact HQ.out.1.anew HJ.out hlt x
        · have hK := ((Para.Kept.refl W.heap.size w4.heap.size Wr).drew).trans (Para.Kept.of hk4 hz)
          gi_wp2
          exact ⟨hK.1, hK.2, hx4⟩
      | false =>
        have hX : Para.run s.data.toList (pre ++ [x]) = (o, { b with l := k, la := x }, k + 1) := by rw [hrun, Para.step]; simp [hbe, hbz]
        have bk := Para.box_far (Para.box_far hAt.k (a := ⟨W.heap.size + 1, 2, none⟩) (by simp) (.int .i64 (k : Nat))) (a := ⟨W.heap.size + 1, 4, none⟩) (by simp) (.int .i64 (x : Nat))
        have ck2 := bk.cell
        have fk2 := bk.frozen
        dsimp only at ck2
        have HP := Lib.hid (And.intro hAt hX)
        clear hAt hX hrun hpre hpre2 hY hbe hbz bk
        gi_wp2
        refine wpIn_mono (Q := fun e a' w' => e = .normal ∧ a' = { tmps := #[.func (.yield l) #[] #[], .pointer (some ⟨tB, 0, none⟩), .pointer (some ⟨W.heap.size, 0, none⟩), .pointer (some ⟨W.heap.size + 1, 0, none⟩), .pointer (some ⟨W.heap.size + 1 + 1, 0, none⟩), .int .i64 (x : Nat), .string s, .bool e0, .agg #[.bool e0, .int .i64 0, .int .i64 0, .int .i64 0, .int .i64 0], .string s, .func (.func 49) #[] #[.pointer (some ⟨W.heap.size + 1 + 1 + 1, 0, none⟩)], .int .i64 (x : Nat), .string s, .int .i64 (x : Nat), .bool false, .pointer (some ⟨W.heap.size + 1, 0, none⟩), .bool false, .bool false, undef, undef, undef, undef, undef, undef, undef, undef, undef, undef, undef, undef, undef, undef, undef, undef, undef, undef, undef], defers := [] } ∧ w' = Wr.drew) ?_ ?_
        · gi_region_with (refine ⟨trivial, ?_⟩; gi_at_call 41; refine (callsIn_wide.2 (C.out _)).mono ?_; rintro e w' ⟨rfl, rfl⟩)
          all_goals exact ⟨rfl, rfl, rfl⟩
        rintro e' a' w' ⟨rfl, rfl, rfl⟩
        gi_wp2
        have hK := ((((Para.Kept.refl W.heap.size w4.heap.size Wr).set ⟨W.heap.size + 1, 2, none⟩ (by simp) hz (.int .i64 (k : Nat))).set ⟨W.heap.size + 1, 4, none⟩ (by simp) hz (.int .i64 (x : Nat))).set ⟨W.heap.size + 1 + 1, 0, none⟩ (by simp) hz (.int .i64 ((k : Int) + 1))).drew
        refine ⟨hK.1, hK.2, ?_⟩
        show Para.At J l W.heap.size tB s (Para.run s.data.toList (pre ++ [x])) _
        rw [HP.out.2]
        exact (HP.out.1.more HJ.out hlt x).drew HJ.out
  case done =>
    rintro D W2 hD hAt hK
    have HJ := Lib.hid hJ
    generalize hr : Para.run s.data.toList (Para.S s.data.toList) = r at hAt
    have hall : Hid (Para.all s.data.toList = r.1 ++ [r.2.1]) := by show _ = _; rw [Para.all, hr]
    obtain ⟨o, b, k⟩ := r
    obtain rfl : D = W.heap.size + 4 := by omega
    have hlD := (Array.getElem?_eq_some_iff.1 hK).1
    obtain ⟨fn, tmps, assign, body, hy, hR⟩ := yield_deep (m := 5) (hY o b W2 hAt.j (by rw [hall.out]; exact List.prefix_refl _) (by omega))
    dsimp only [Para.encB, Para.cellsB] at hy
    have cy := hAt.y.cell
    have c0 : W2.cell? ⟨W.heap.size + 1, 0, none⟩ = some (.bool b.e) := hAt.b.cell 0
    have c1 : W2.cell? ⟨W.heap.size + 1, 1, none⟩ = some (.int .i64 (b.f : Nat)) := hAt.b.cell 1
    have c2 : W2.cell? ⟨W.heap.size + 1, 2, none⟩ = some (.int .i64 (b.l : Nat)) := hAt.b.cell 2
    have c3 : W2.cell? ⟨W.heap.size + 1, 3, none⟩ = some (.int .i64 (b.fa : Nat)) := hAt.b.cell 3
    have c4 : W2.cell? ⟨W.heap.size + 1, 4, none⟩ = some (.int .i64 (b.la : Nat)) := hAt.b.cell 4
    have hxX := Lib.hid hX
    clear hY hX hJ hr hAt
    gi_wp2
    refine (show RoundIn Fence.wide 5 _ _ _ _ _ _ _ _ from hR).mono ?_
    rintro e W4 ⟨hk4, h4⟩
    have hK4 : W4.heap[W.heap.size + 4]? = some (.deferred (some [])) := hk4.same _ _ hK (.inl ⟨by omega, rfl⟩)
    have hst : Steps 4 W.heap.size W4 (W4.putObj (W.heap.size + 4) (.deferred none)) := Steps.of_own (grownBy_putObj' W4 (W.heap.size + 4) _) (fun r e => by cases e; exact ⟨by omega, _, hK4, rfl⟩)
    have hend : J (Para.all s.data.toList) (W4.putObj (W.heap.size + 4) (.deferred none)) ∨ X (W4.putObj (W.heap.size + 4) (.deferred none)) := by
      rcases h4 with ⟨_, h⟩ | ⟨_, h⟩
      · rw [hall.out]; exact .inl (HJ.out _ _ _ h hst)
      · exact .inr (hxX.out _ _ h hst)
    have HE := Lib.hid hend
    clear hend hst
    rcases h4 with ⟨rfl, _⟩ | ⟨rfl, _⟩
    · gi_wp2
      refine ⟨by simp, .inl ⟨_, _, rfl, run_takeDeferred hK4, ?_⟩⟩
      exact ⟨_, results_none rfl _ _ _, ⟨_, rfl⟩, HE.out⟩
    · gi_wp2
      refine ⟨by simp, .inl ⟨_, _, rfl, run_takeDeferred hK4, ?_⟩⟩
      exact ⟨_, results_none rfl _ _ _, ⟨_, rfl⟩, HE.out⟩
  case stop =>
    rintro D W2 hD hx hK
    gi_wp2
    refine ⟨by simp, .inl ⟨_, _, rfl, run_takeDeferred hK, ?_⟩⟩
    refine ⟨_, results_none rfl _ _ _, ⟨_, rfl⟩, .inr ?_⟩
    exact hX _ _ hx (Steps.of_own (grownBy_putObj' W2 D _) (fun r e => by cases e; exact ⟨by omega, _, hK, rfl⟩))
end Go.Proofs.Ytjgfcnjnedgejaa
