/-
  The words of a text, one by one: the iterator over them, which goes through the classes.
-/
import Derived.Test.YtjkcdmlbnfibgaaHopClasses
namespace Go.Proofs.Ytjkcdmlbnfibgaa
open Go.RowKit Go.Shelf
attribute [local go_sem] Oper.semAt_some
namespace Hop
/-- What is handed on of a word. -/
abbrev encW (x : Nat × Int) : Array Value := #[.int .i64 (x.1 : Nat), .int .i64 x.2]
/-- What the iterator keeps in its boxes, from block m on; and what has been handed on. -/
structure At (J : List (Nat × Int) → World → Prop) (l m : Nat) (o : List (Nat × Int)) (st : St) (W : World) : Prop where
  y : Boxed W m 41 (.func (.yield l) #[] #[])
  a : Boxed W (m + 1) 3 (.int .i64 (st.1 : Nat))
  e : Boxed W (m + 1 + 1) 3 (.int .i64 st.2.1)
  c : Boxed W (m + 1 + 1 + 1) 3 (.int .i64 (st.2.2 : Nat))
  j : J o W
section
variable {J : List (Nat × Int) → World → Prop} {l m : Nat} {o : List (Nat × Int)} {st : St} {W W' : World}
theorem At.steps (hJ : ∀ s A B, J s A → Steps 6 m A B → J s B) (h : At J l m o st W) (hs : Steps 6 m W W') (h1 : W'.heap[m]? = W.heap[m]?) (h2 : W'.heap[m + 1]? = W.heap[m + 1]?) (h3 : W'.heap[m + 1 + 1]? = W.heap[m + 1 + 1]?) (h4 : W'.heap[m + 1 + 1 + 1]? = W.heap[m + 1 + 1 + 1]?) : At J l m o st W' :=
  ⟨h1.trans h.y, h2.trans h.a, h3.trans h.e, h4.trans h.c, hJ _ _ _ h.j hs⟩
theorem At.inner (hJ : ∀ s A B, J s A → Steps 6 m A B → J s B) {m' : Nat} (hm : m + 6 ≤ m') (h : At J l m o st W) (hs : Steps 0 m' W W') : At J l m o st W' :=
  ⟨hs.boxed (.inl (by omega)) h.y, hs.boxed (.inl (by omega)) h.a, hs.boxed (.inl (by omega)) h.e, hs.boxed (.inl (by omega)) h.c, hJ _ _ _ h.j (hs.wide (by omega) (.inl rfl))⟩
theorem At.own (hJ : ∀ s A B, J s A → Steps 6 m A B → J s B) {m' : Nat} (hm : m + 6 ≤ m') {β : Type} (f : β → List (Nat × Int)) (g : β → St) : OwnFrom m' (fun (b : β) W => At J l m (f b) (g b) W) :=
  steps_own (q := 0) (m := m') (fun _ _ _ h hs => h.inner hJ hm hs) (Nat.le_refl _)
theorem At.told (h : At J l m o st W) (hs : Stays 6 [] m W W') {o' : List (Nat × Int)} (hj : J o' W') : At J l m o' st W' :=
  ⟨hs.boxed (.inl (by omega)) h.y, hs.boxed (.inl (by omega)) h.a, hs.boxed (.inl (by omega)) h.e, hs.boxed (.inl (by omega)) h.c, hj⟩
theorem At.starts (hJ : ∀ s A B, J s A → Steps 6 m A B → J s B) {a : Nat} {e : Int} {c : Nat} (h : At J l m o (a, e, c) W) (p : Nat) : At J l m o (p, e, c) (W.setCell ⟨m + 1, 0, none⟩ (.int .i64 (p : Nat))) :=
  ⟨h.y.other (by omega) _, h.a.set _, h.e.other (by omega) _, h.c.other (by omega) _, hJ _ _ _ h.j (Steps.setCell _ (by simp) (by simp))⟩
theorem At.goes (hJ : ∀ s A B, J s A → Steps 6 m A B → J s B) {a : Nat} {e : Int} {c : Nat} (h : At J l m o (a, e, c) W) (p q : Nat) : At J l m o (a, (p : Int), q) ((W.setCell ⟨m + 1 + 1, 0, none⟩ (.int .i64 (p : Nat))).setCell ⟨m + 1 + 1 + 1, 0, none⟩ (.int .i64 (q : Nat))) :=
  ⟨(h.y.other (by omega) _).other (by omega) _, (h.a.other (by omega) _).other (by omega) _, (h.e.set _).other (by omega) _, (h.c.other (by omega) _).set _,
    hJ _ _ _ (hJ _ _ _ h.j (Steps.setCell _ (by simp; omega) (by simp))) (Steps.setCell _ (by simp; omega) (by simp))⟩
end
/-- What a round of the inner loop keeps. -/
theorem keeps_told {m n : Nat} {W W' : World} (h : Stays 6 [] m W W') (hn : n = m + 6) : KeepsFrom n W W' ∧ Stays 0 [m + 1 + 1 + 1 + 1, m + 1 + 1 + 1 + 1 + 1] (n + 2) W W' :=
  ⟨h.from (by omega), h.inner (by omega) rfl (by intro k hk; simp at hk; omega)⟩
theorem keeps_refl (m n : Nat) (W : World) : KeepsFrom n W W ∧ Stays 0 [m + 1 + 1 + 1 + 1, m + 1 + 1 + 1 + 1 + 1] (n + 2) W W := ⟨KeepsFrom.refl _ _, Stays.refl _ _ _ _⟩
theorem keeps_set {m n : Nat} {W W' : World} (h : KeepsFrom n W W' ∧ Stays 0 [m + 1 + 1 + 1 + 1, m + 1 + 1 + 1 + 1 + 1] (n + 2) W W') (k : Nat) (h1 : k < m + 4) (hn : n = m + 6) (v : Value) :
    KeepsFrom n W (W'.setCell ⟨k, 0, none⟩ v) ∧ Stays 0 [m + 1 + 1 + 1 + 1, m + 1 + 1 + 1 + 1 + 1] (n + 2) W (W'.setCell ⟨k, 0, none⟩ v) :=
  ⟨h.1.trans ((KeepsOthers.setCell W' ⟨k, 0, none⟩ v).from n), h.2.trans (Stays.setCell W' ⟨k, 0, none⟩ v (by simp; omega) (by simp; omega))⟩
end Hop
theorem hop_words (s : ByteArray) (big : Bool) (w : World) :
    Calls Try.prog 19 #[.string s, .bool big] w fun e w' => e = .returned (.func (.func 28) #[] #[.pointer (some ⟨w.heap.size, 0, none⟩), .pointer (some ⟨w.heap.size + 1, 0, none⟩)]) ∧
      w'.heap.size = w.heap.size + 2 ∧ Boxed w' w.heap.size 9 (.string s) ∧ Boxed w' (w.heap.size + 1) 4 (.bool big) ∧ Below w.heap.size w w' := by
  have hb := ((Below.refl w.heap.size w).alloc (Nat.le_refl _) (.cells #[.string s] 9)).alloc (by simp) (.cells #[.bool big] 4)
  have b1 := (Boxed.new w 9 (.string s)).alloc (.cells #[.bool big] 4)
  have b2 := Boxed.new (w.alloc (.cells #[.string s] 9)) 4 (.bool big)
  simp only [World.size_alloc] at b2
  have H := Lib.hid (And.intro hb (And.intro b1 b2))
  clear hb b1 b2
  go_enter Try.func19, Try.ntmps19
  go_wp2
  go_ret
  exact ⟨rfl, by simp, H.out.2.1, H.out.2.2, H.out.1⟩
set_option maxHeartbeats 1000000 in
set_option maxRecDepth 100000 in
theorem hop_word_seq (n : Nat) (tB bB : Nat) (s : ByteArray) (big : Bool) (hs : s.size ≤ 1000000000000) (w : World) (hT : Boxed w tB 9 (.string s)) (hG : Boxed w bB 4 (.bool big)) :
    SeqList Fence.wide n Try.prog 28 #[.pointer (some ⟨tB, 0, none⟩), .pointer (some ⟨bB, 0, none⟩)] Hop.encW 6 (Stays 6 []) (Steps 6) (Hop.words s.data.toList big) w := by
  intro l J W hW hJ hY h0
  have hlt := hT.lt
  have hlo := hG.lt
  have bT : Boxed W tB 9 (.string s) := (hW.block tB hT.lt).trans hT
  have bG : Boxed W bB 4 (.bool big) := (hW.block bB hG.lt).trans hG
  have hsz := hW.size
  refine callsIn_wide.2 (callsIn_wide.1 (?_ : CallsIn Fence.wide 6 _ _ _ _ _))
  refine callsIn_of_wp_marks Try.func28 rfl trivial ?_ rfl
  simp only [Try.ntmps28, List.size_toArray, List.length_cons, List.length_nil, Nat.reduceAdd, Nat.reduceSub, Array.replicate_succ, Array.replicate_zero, List.push_toArray, List.append_toArray, List.nil_append, List.cons_append]
  have cT := ((((bT.alloc (.cells #[.func (.yield l) #[] #[]] 41)).alloc (.cells #[.int .i64 0] 3)).alloc (.cells #[.int .i64 (-1)] 3)).alloc (.cells #[.int .i64 4] 3)).cell
  have cG := ((((bG.alloc (.cells #[.func (.yield l) #[] #[]] 41)).alloc (.cells #[.int .i64 0] 3)).alloc (.cells #[.int .i64 (-1)] 3)).alloc (.cells #[.int .i64 4] 3)).cell
  have CC := Lib.hid (fun w => hop_classes s big w)
  have hB0 := ((((Below.refl W.heap.size W).alloc (Nat.le_refl _) (.cells #[.func (.yield l) #[] #[]] 41)).alloc (by simp) (.cells #[.int .i64 0] 3)).alloc (by simp; omega) (.cells #[.int .i64 (-1)] 3)).alloc (by simp; omega) (.cells #[.int .i64 4] 3)
  have b0 := (((Boxed.new W 41 (.func (.yield l) #[] #[])).alloc (.cells #[.int .i64 0] 3)).alloc (.cells #[.int .i64 (-1)] 3)).alloc (.cells #[.int .i64 4] 3)
  have b1 := ((Boxed.new (W.alloc (.cells #[.func (.yield l) #[] #[]] 41)) 3 (.int .i64 0)).alloc (.cells #[.int .i64 (-1)] 3)).alloc (.cells #[.int .i64 4] 3)
  have b2 := (Boxed.new ((W.alloc (.cells #[.func (.yield l) #[] #[]] 41)).alloc (.cells #[.int .i64 0] 3)) 3 (.int .i64 (-1))).alloc (.cells #[.int .i64 4] 3)
  have b3 := Boxed.new (((W.alloc (.cells #[.func (.yield l) #[] #[]] 41)).alloc (.cells #[.int .i64 0] 3)).alloc (.cells #[.int .i64 (-1)] 3)) 3 (.int .i64 4)
  simp only [World.size_alloc] at b1 b2 b3
  have HA := Lib.hid (And.intro hB0 (And.intro b0 (And.intro b1 (And.intro b2 b3))))
  clear hB0 b0 b1 b2 b3 bT bG hlt hlo hsz hT hG
  gi_wp2_with (refine ⟨trivial, ?_⟩; gi_at_call 29; refine (callsIn_wide.2 (CC.out _)).mono ?_; rintro e w' ⟨rfl, hz, bt, bo, hb⟩)
  obtain ⟨hB0, b0, b1, b2, b3⟩ := HA.out
  simp only [World.size_alloc] at hz bt bo hb
  have hB : Below W.heap.size W w' := hB0.trans (hb.mono (by omega))
  have hA0 : Hop.At J l W.heap.size [] (0, -1, 4) w' := by
    refine ⟨?_, ?_, ?_, ?_, hJ _ _ _ h0 (Steps.of_below 6 hB (Nat.le_refl _))⟩
    · exact (hb.block W.heap.size (by omega)).trans b0
    · exact (hb.block (W.heap.size + 1) (by omega)).trans b1
    · exact (hb.block (W.heap.size + 1 + 1) (by omega)).trans b2
    · exact (hb.block (W.heap.size + 1 + 1 + 1) (by omega)).trans b3
  clear hB0 b0 b1 b2 b3 HA cT cG CC hb hB h0
  have hz6 : w'.heap.size = W.heap.size + 6 := by omega
  refine wpIn_seqList rfl (by decide) (gf := 41) (lb := #[.pointer (some ⟨W.heap.size + 1 + 1 + 1 + 1, 0, none⟩), .pointer (some ⟨W.heap.size + 1 + 1 + 1 + 1 + 1, 0, none⟩)]) rfl trivial (enters_of Try.func41 (by kernel_rfl) rfl)
    (hop_class_seq _ (by decide) (W.heap.size + 1 + 1 + 1 + 1) (W.heap.size + 1 + 1 + 1 + 1 + 1) s big hs w' bt bo) (fun _ _ _ h k o hk ho _ => h.block k o hk ho) (fun h k => h.trans k)
    (fun W2 l2 o h1 h2 => Stays.putObj (n := w'.heap.size) (by intro k hk; simp at hk; omega) W2 l2 o h1 h2) (Below.refl _ _) (fun _ => rfl)
    (fun pre Wr => Hop.At J l W.heap.size (Hop.run pre).1 (Hop.run pre).2 Wr)
    (Hop.At.own hJ (by omega) _ _) (fun _ _ _ h hs => h.inner hJ (by omega) hs) hA0
    (fun x => { tmps := #[.func (.yield l) #[] #[], .pointer (some ⟨tB, 0, none⟩), .pointer (some ⟨bB, 0, none⟩), .pointer (some ⟨W.heap.size, 0, none⟩), .pointer (some ⟨W.heap.size + 1, 0, none⟩), .pointer (some ⟨W.heap.size + 1 + 1, 0, none⟩), .pointer (some ⟨W.heap.size + 1 + 1 + 1, 0, none⟩), .int .i64 (x.1 : Nat), .int .i64 (x.2 : Nat), undef, undef, .string s, .bool big, .func (.func 41) #[] #[.pointer (some ⟨W.heap.size + 1 + 1 + 1 + 1, 0, none⟩), .pointer (some ⟨W.heap.size + 1 + 1 + 1 + 1 + 1, 0, none⟩)], .int .i64 (x.1 : Nat), .int .i64 (x.2 : Nat), undef, undef, undef, undef, undef, undef, undef, undef, undef, undef, undef, undef, undef, undef, undef, undef, undef, undef, undef, undef, undef, undef, undef, undef, undef, undef, undef, undef, undef, undef, undef, undef, undef, undef, undef, undef, undef, undef], defers := [] }) ?assign ?body ?done
  case assign =>
    intro l2 x W2 K hK
    gi_wp2
    exact hK
  case body =>
    rintro l2 pre ⟨p, c⟩ Wr hAt hpre hsz
    have HJ := Lib.hid hJ
    have hrun := Hop.run_snoc pre (p, c)
    have hpre2 : (Hop.run (pre ++ [(p, c)])).1 <+: Hop.words s.data.toList big := Hop.run_prefix hpre
    dsimp only at hAt ⊢
    generalize Hop.run pre = ri at hAt hrun
    obtain ⟨o, a, e, la⟩ := ri
    dsimp only at hAt hrun
    have c0 := hAt.y.cell
    have c1 := hAt.a.cell
    have c2 := hAt.e.cell
    have c3 := hAt.c.cell
    have f1 := hAt.a.frozen
    have f2 := hAt.e.frozen
    have f3 := hAt.c.frozen
    dsimp only at c1 c2 c3
    by_cases h4 : la = 4
    · subst h4
      by_cases hc : c = 4
      · subst hc
        simp only [show ((4 : Nat) : Int) = 4 from rfl] at c3
        have hX : Hop.run (pre ++ [(p, 4)]) = (o ++ [(p, -1)], (a, (p : Int), 4)) := by rw [hrun]; simp [Hop.out, Hop.step, *]
        rw [hX] at hpre2
        obtain ⟨fn, tmps, assign, body, hy, hR⟩ := yield_deep (m := 3) (hY _ _ _ hAt.j hpre2 (by omega))
        dsimp only [Hop.encW] at hy
        have HP := Lib.hid (And.intro hAt hX)
        clear hAt hX hrun hpre hpre2 hY hJ
        gi_wp2
        refine (show RoundIn (Fence.wide.inRound l2) 3 _ _ _ _ _ _ _ _ from hR).mono ?_
        rintro e W4 ⟨rfl, hj4, hk4⟩
        have hA4 := HP.out.1.told hk4 hj4
        have d0 := hA4.y.cell
        have d1 := hA4.a.cell
        have d2 := hA4.e.cell
        have d3 := hA4.c.cell
        have k1 := hA4.a.frozen
        have k2 := hA4.e.frozen
        have k3 := hA4.c.frozen
        have HQ := Lib.hid (And.intro hA4 hk4)
        clear hA4 hk4 hj4 hR hy c0 c1 c2 c3 f1 f2 f3
        gi_wp2
        refine ⟨(fun _ h => by cases h), ?_⟩
        gi_wp2
        refine ⟨(Hop.keeps_set (Hop.keeps_set (Hop.keeps_told HQ.out.2 hz6) (W.heap.size + 1 + 1) (by omega) hz6 _) (W.heap.size + 1 + 1 + 1) (by omega) hz6 _).1, (Hop.keeps_set (Hop.keeps_set (Hop.keeps_told HQ.out.2 hz6) (W.heap.size + 1 + 1) (by omega) hz6 _) (W.heap.size + 1 + 1 + 1) (by omega) hz6 _).2, ?_⟩
        show Hop.At J l W.heap.size (Hop.run (pre ++ [(p, 4)])).1 (Hop.run (pre ++ [(p, 4)])).2 _
        rw [HP.out.2]
        exact HQ.out.1.goes HJ.out p 4
      · simp only [show ((4 : Nat) : Int) = 4 from rfl] at c3
        have hc5 : ¬ (4 : Nat) = c := fun h => hc h.symm
        have hX : Hop.run (pre ++ [(p, c)]) = (o, (p, (p : Int), c)) := by rw [hrun]; simp [Hop.out, Hop.step, *]
        rw [hX] at hpre2
        have g0 : (((c : Nat) : Int) == 4) = false := by simp; omega
        have g1 : (((c : Nat) : Int) != 4) = true := by simp; omega
        have HP := Lib.hid (And.intro hAt hX)
        clear hAt hX hrun hpre hpre2 hY hJ
        gi_wp2
        refine ⟨(fun _ h => by cases h), ?_⟩
        gi_wp2
        refine ⟨(fun _ h => by cases h), ?_⟩
        gi_wp2
        refine ⟨(Hop.keeps_set (Hop.keeps_set (Hop.keeps_set (Hop.keeps_refl W.heap.size w'.heap.size Wr) (W.heap.size + 1) (by omega) hz6 _) (W.heap.size + 1 + 1) (by omega) hz6 _) (W.heap.size + 1 + 1 + 1) (by omega) hz6 _).1, (Hop.keeps_set (Hop.keeps_set (Hop.keeps_set (Hop.keeps_refl W.heap.size w'.heap.size Wr) (W.heap.size + 1) (by omega) hz6 _) (W.heap.size + 1 + 1) (by omega) hz6 _) (W.heap.size + 1 + 1 + 1) (by omega) hz6 _).2, ?_⟩
        show Hop.At J l W.heap.size (Hop.run (pre ++ [(p, c)])).1 (Hop.run (pre ++ [(p, c)])).2 _
        rw [HP.out.2]
        exact (HP.out.1.starts HJ.out p).goes HJ.out p c
    · by_cases hcl : c = la
      · subst hcl
        have hX : Hop.run (pre ++ [(p, c)]) = (o, (a, (p : Int), c)) := by rw [hrun]; simp [Hop.out, Hop.step, *]
        rw [hX] at hpre2
        have g0 : (((c : Nat) : Int) == 4) = false := by simp; omega
        have g1 : (((c : Nat) : Int) != (c : Nat)) = false := by simp
        have HP := Lib.hid (And.intro hAt hX)
        clear hAt hX hrun hpre hpre2 hY hJ
        gi_wp2
        refine ⟨(fun _ h => by cases h), ?_⟩
        gi_wp2
        refine ⟨(fun _ h => by cases h), ?_⟩
        gi_wp2
        refine ⟨(Hop.keeps_set (Hop.keeps_set (Hop.keeps_refl W.heap.size w'.heap.size Wr) (W.heap.size + 1 + 1) (by omega) hz6 _) (W.heap.size + 1 + 1 + 1) (by omega) hz6 _).1, (Hop.keeps_set (Hop.keeps_set (Hop.keeps_refl W.heap.size w'.heap.size Wr) (W.heap.size + 1 + 1) (by omega) hz6 _) (W.heap.size + 1 + 1 + 1) (by omega) hz6 _).2, ?_⟩
        show Hop.At J l W.heap.size (Hop.run (pre ++ [(p, c)])).1 (Hop.run (pre ++ [(p, c)])).2 _
        rw [HP.out.2]
        exact HP.out.1.goes HJ.out p c
      · by_cases h1 : la = 1
        · subst h1
          simp only [show ((1 : Nat) : Int) = 1 from rfl] at c3
          by_cases hc : c = 4
          · subst hc
            have hX : Hop.run (pre ++ [(p, 4)]) = (o, (p, (p : Int), 4)) := by rw [hrun]; simp [Hop.out, Hop.step, *]
            rw [hX] at hpre2
            have HP := Lib.hid (And.intro hAt hX)
            clear hAt hX hrun hpre hpre2 hY hJ
            gi_wp2
            refine ⟨(fun _ h => by cases h), ?_⟩
            gi_wp2
            refine ⟨(fun _ h => by cases h), ?_⟩
            gi_wp2
            refine ⟨(Hop.keeps_set (Hop.keeps_set (Hop.keeps_set (Hop.keeps_refl W.heap.size w'.heap.size Wr) (W.heap.size + 1) (by omega) hz6 _) (W.heap.size + 1 + 1) (by omega) hz6 _) (W.heap.size + 1 + 1 + 1) (by omega) hz6 _).1, (Hop.keeps_set (Hop.keeps_set (Hop.keeps_set (Hop.keeps_refl W.heap.size w'.heap.size Wr) (W.heap.size + 1) (by omega) hz6 _) (W.heap.size + 1 + 1) (by omega) hz6 _) (W.heap.size + 1 + 1 + 1) (by omega) hz6 _).2, ?_⟩
            show Hop.At J l W.heap.size (Hop.run (pre ++ [(p, 4)])).1 (Hop.run (pre ++ [(p, 4)])).2 _
            rw [HP.out.2]
            exact (HP.out.1.starts HJ.out p).goes HJ.out p 4
          · have hd := hc
            have hX : Hop.run (pre ++ [(p, c)]) = (o, (p, (p : Int), c)) := by rw [hrun]; simp [Hop.out, Hop.step, *]
            rw [hX] at hpre2
            have g0 : (((c : Nat) : Int) == 4) = false := by simp; omega
            have g1 : (((c : Nat) : Int) != 1) = true := by simp; omega
            have HP := Lib.hid (And.intro hAt hX)
            clear hAt hX hrun hpre hpre2 hY hJ
            gi_wp2
            refine ⟨(fun _ h => by cases h), ?_⟩
            gi_wp2
            refine ⟨(fun _ h => by cases h), ?_⟩
            gi_wp2
            refine ⟨(Hop.keeps_set (Hop.keeps_set (Hop.keeps_set (Hop.keeps_refl W.heap.size w'.heap.size Wr) (W.heap.size + 1) (by omega) hz6 _) (W.heap.size + 1 + 1) (by omega) hz6 _) (W.heap.size + 1 + 1 + 1) (by omega) hz6 _).1, (Hop.keeps_set (Hop.keeps_set (Hop.keeps_set (Hop.keeps_refl W.heap.size w'.heap.size Wr) (W.heap.size + 1) (by omega) hz6 _) (W.heap.size + 1 + 1) (by omega) hz6 _) (W.heap.size + 1 + 1 + 1) (by omega) hz6 _).2, ?_⟩
            show Hop.At J l W.heap.size (Hop.run (pre ++ [(p, c)])).1 (Hop.run (pre ++ [(p, c)])).2 _
            rw [HP.out.2]
            exact (HP.out.1.starts HJ.out p).goes HJ.out p c
        · by_cases hc : c = 4
          · subst hc
            have hX : Hop.run (pre ++ [(p, 4)]) = (o ++ [(a, e)], (p, (p : Int), 4)) := by rw [hrun]; simp [Hop.out, Hop.step, *]
            rw [hX] at hpre2
            have g0 : (((la : Nat) : Int) == 4) = false := by simp; omega
            have g1 : ((4 : Int) != (la : Nat)) = true := by simp; omega
            have g2 : (((la : Nat) : Int) != 1) = true := by simp; omega
            have g3 : (((la : Nat) : Int) != 4) = true := by simp; omega
            obtain ⟨fn, tmps, assign, body, hy, hR⟩ := yield_deep (m := 3) (hY _ _ _ hAt.j hpre2 (by omega))
            dsimp only [Hop.encW] at hy
            have HP := Lib.hid (And.intro hAt hX)
            clear hAt hX hrun hpre hpre2 hY hJ
            gi_wp2
            refine ⟨(fun _ h => by cases h), ?_⟩
            gi_wp2
            refine (show RoundIn (Fence.wide.inRound l2) 3 _ _ _ _ _ _ _ _ from hR).mono ?_
            rintro e W4 ⟨rfl, hj4, hk4⟩
            have hA4 := HP.out.1.told hk4 hj4
            have d0 := hA4.y.cell
            have d1 := hA4.a.cell
            have d2 := hA4.e.cell
            have d3 := hA4.c.cell
            have k1 := hA4.a.frozen
            have k2 := hA4.e.frozen
            have k3 := hA4.c.frozen
            have HQ := Lib.hid (And.intro hA4 hk4)
            clear hA4 hk4 hj4 hR hy c0 c1 c2 c3 f1 f2 f3
            gi_wp2
            refine ⟨(Hop.keeps_set (Hop.keeps_set (Hop.keeps_set (Hop.keeps_told HQ.out.2 hz6) (W.heap.size + 1) (by omega) hz6 _) (W.heap.size + 1 + 1) (by omega) hz6 _) (W.heap.size + 1 + 1 + 1) (by omega) hz6 _).1, (Hop.keeps_set (Hop.keeps_set (Hop.keeps_set (Hop.keeps_told HQ.out.2 hz6) (W.heap.size + 1) (by omega) hz6 _) (W.heap.size + 1 + 1) (by omega) hz6 _) (W.heap.size + 1 + 1 + 1) (by omega) hz6 _).2, ?_⟩
            show Hop.At J l W.heap.size (Hop.run (pre ++ [(p, 4)])).1 (Hop.run (pre ++ [(p, 4)])).2 _
            rw [HP.out.2]
            exact (HQ.out.1.starts HJ.out p).goes HJ.out p 4
          · have hd := hc
            have hX : Hop.run (pre ++ [(p, c)]) = (o ++ [(a, e)], (p, (p : Int), c)) := by rw [hrun]; simp [Hop.out, Hop.step, *]
            rw [hX] at hpre2
            have g0 : (((c : Nat) : Int) == 4) = false := by simp; omega
            have g1 : (((c : Nat) : Int) != (la : Nat)) = true := by simp; omega
            have g2 : (((la : Nat) : Int) != 1) = true := by simp; omega
            have g3 : (((la : Nat) : Int) != 4) = true := by simp; omega
            obtain ⟨fn, tmps, assign, body, hy, hR⟩ := yield_deep (m := 3) (hY _ _ _ hAt.j hpre2 (by omega))
            dsimp only [Hop.encW] at hy
            have HP := Lib.hid (And.intro hAt hX)
            clear hAt hX hrun hpre hpre2 hY hJ
            gi_wp2
            refine ⟨(fun _ h => by cases h), ?_⟩
            gi_wp2
            refine (show RoundIn (Fence.wide.inRound l2) 3 _ _ _ _ _ _ _ _ from hR).mono ?_
            rintro e W4 ⟨rfl, hj4, hk4⟩
            have hA4 := HP.out.1.told hk4 hj4
            have d0 := hA4.y.cell
            have d1 := hA4.a.cell
            have d2 := hA4.e.cell
            have d3 := hA4.c.cell
            have k1 := hA4.a.frozen
            have k2 := hA4.e.frozen
            have k3 := hA4.c.frozen
            have HQ := Lib.hid (And.intro hA4 hk4)
            clear hA4 hk4 hj4 hR hy c0 c1 c2 c3 f1 f2 f3
            gi_wp2
            refine ⟨(Hop.keeps_set (Hop.keeps_set (Hop.keeps_set (Hop.keeps_told HQ.out.2 hz6) (W.heap.size + 1) (by omega) hz6 _) (W.heap.size + 1 + 1) (by omega) hz6 _) (W.heap.size + 1 + 1 + 1) (by omega) hz6 _).1, (Hop.keeps_set (Hop.keeps_set (Hop.keeps_set (Hop.keeps_told HQ.out.2 hz6) (W.heap.size + 1) (by omega) hz6 _) (W.heap.size + 1 + 1) (by omega) hz6 _) (W.heap.size + 1 + 1 + 1) (by omega) hz6 _).2, ?_⟩
            show Hop.At J l W.heap.size (Hop.run (pre ++ [(p, c)])).1 (Hop.run (pre ++ [(p, c)])).2 _
            rw [HP.out.2]
            exact (HQ.out.1.starts HJ.out p).goes HJ.out p c
  case done =>
    rintro D W2 hD hAt hK
    gi_wp2
    refine ⟨by simp, .inl ⟨_, _, rfl, run_takeDeferred hK, ?_⟩⟩
    refine ⟨_, results_none rfl _ _ _, ⟨_, rfl⟩, ?_⟩
    exact hJ _ _ _ hAt.j (Steps.of_own (grownBy_putObj' W2 D _) (fun r e => by cases e; exact ⟨by omega, _, hK, rfl⟩))
end Go.Proofs.Ytjkcdmlbnfibgaa
