/-
  A range over an iterator whose elements are a known list, where every round goes on. The iterator may write boxes of its own, laid since it began: its contract says which steps are its own ('Tk') and what a round must keep ('Kp'), both by how big the heap was when it began; a round is told that its element is the next one of the list. So an iterator may itself range over another one.
-/
import Derived.RangeFuncNested
import Derived.RangeFuncBound
import Derived.RangeFuncCalls
import Derived.RangeFuncLeaves
import Derived.RangeFuncBox
import Derived.Shelf.Abstract
import Derived.Shelf.RegionOpen
import Derived.WalkKit
import Derived.OwnWalkIn
import Derived.TacticsInMore
import Derived.LoopNIn
import Derived.LoopIn
import Derived.Test.YtpgonbibekffhaaBase
namespace Go.Proofs.Ytpgonbibekffhaa
open Go.RowKit
/-- An iterator's contract. 'q': how many blocks it has laid at least when a round begins. -/
def SeqList {α : Type} (F : Fence) (n : Nat) (P : Program) (g : Nat) (lb : Array Value) (encs : α → Array Value) (q : Nat) (Kp Tk : Nat → World → World → Prop) (L : List α) (w : World) : Prop :=
  ∀ (l : Nat) (J : List α → World → Prop) (W : World), Below w.heap.size w W → (∀ s A B, J s A → Tk W.heap.size A B → J s B) →
    (∀ pre x W1, J pre W1 → pre ++ [x] <+: L → W.heap.size + q ≤ W1.heap.size → YieldAt F (n - 1) P l (encs x) W1 fun e W' => e = .returned (.bool true) ∧ J (pre ++ [x]) W' ∧ Kp W.heap.size W1 W') →
    J [] W → CallsIn F n P g (#[.func (.yield l) #[] #[]] ++ lb) W fun e W' => (∃ v, e = .returned v) ∧ J L W'
/-- A round's body goes on. -/
def goesFrom {α : Type} (B : Nat) (Kp : World → World → Prop) (I : List α → World → Prop) (xs : List α) (W : World) : Exit → Act → World → Prop
  | .normal, _, W' => KeepsFrom B W W' ∧ Kp W W' ∧ I xs W'
  | _, _, _ => False
theorem wpIn_seqList {α : Type} {F : Fence} {n : Nat} {P : Program} {g : Operand} {ps : Array Tmp} {assign body : Code} {Q : Exit → Act → World → Prop} {a : Act} {w : World}
    (hro : F.round = none) (h1 : 1 ≤ n) {gf : Nat} {lb : Array Value} (hg : a.eval g = .func (.func gf) #[] lb) (hFg : F.fn gf) (eg : ∀ args w, (callFunc gf args).run P w = .ok (.enter gf args) w)
    {encs : α → Array Value} {q : Nat} {Kp Tk : Nat → World → World → Prop} {L : List α} {w0 : World} (hseq : SeqList F (n - 1) P gf lb encs q Kp Tk L w0)
    (hTk : ∀ m A B, Tk m A B → ∀ k o, k < m → A.heap[k]? = some o → o.isCells = false → B.heap[k]? = some o)
    (hKt : ∀ {m : Nat} {A B C : World}, Kp m A B → Kp m B C → Kp m A C) (hKb : ∀ (W : World) (l : Nat) (o : Obj), w.heap.size ≤ l → l < w.heap.size + 2 → Kp (w.heap.size + 2) W (W.putObj l o))
    (hb0 : Below w0.heap.size w0 w) (hps : ∀ x, (encs x).size = ps.size)
    (I : List α → World → Prop) (hI : OwnFrom w.heap.size I) (hIT : ∀ s A B, I s A → Tk (w.heap.size + 2) A B → I s B) (h0 : I [] w) (a₁ : α → Act)
    (hassign : ∀ (l : Nat) (x : α) (W : World) (K : Act → World → Prop), K (a₁ x) W →
      assign.wpIn (F.inRound l) (n - 1 - 1) P (Exit.then K (fun _ _ _ => False)) { tmps := (ps.zip (encs x)).foldl (fun t (p, v) => t.setIfInBounds p v) a.tmps, defers := [] } W)
    (hbody : ∀ (l : Nat) (pre : List α) (x : α) (W : World), I pre W → pre ++ [x] <+: L → w.heap.size + 2 + q ≤ W.heap.size → body.wpIn (F.inRound l) (n - 1 - 1) P (goesFrom w.heap.size (Kp (w.heap.size + 2)) I (pre ++ [x]) W) (a₁ x) W)
    (hdone : ∀ (D : Nat) (W : World), D = w.heap.size → I L W → W.heap[D]? = some (.deferred (some [])) → Q .normal { a with defers := { target := .collected D, args := #[] } :: a.defers } W) :
    (Code.rangeFunc g ps assign body).wpIn F n P Q a w := by
  refine wpIn_rangeFunc fun fn hfn => ?_
  rw [hro]
  obtain ⟨rec, hrec⟩ : ∃ rec : LoopState → Loop, rec = fun st => { state := st, pending := none, fn, tmps := a.tmps, params := ps, assign, body, defers := w.heap.size } := ⟨_, rfl⟩
  obtain ⟨V, hV⟩ : ∃ V, (w.alloc (.deferred (some []))).alloc (.loop (rec .ready)) = V := ⟨_, rfl⟩
  have vS : V.heap.size = w.heap.size + 2 := by rw [← hV]; simp
  have vL : V.heap[w.heap.size + 1]? = some (.loop (rec .ready)) := by
    rw [← hV]
    have := World.alloc_heap_new (w.alloc (.deferred (some []))) (.loop (rec .ready))
    rwa [World.size_alloc] at this
  have vD : V.heap[w.heap.size]? = some (.deferred (some [])) := by
    rw [← hV]
    exact (Below.heap_alloc _ _ _ (by simp)).trans (World.alloc_heap_new w _)
  have vI : I [] V := by rw [← hV]; exact hI.alloc _ (hI.alloc _ h0)
  have vB : Below w0.heap.size w0 V := by
    rw [← hV]
    exact hb0.trans ((((Below.refl _ w).alloc (Nat.le_refl _) _).alloc (by simp) _).mono hb0.size)
  refine ⟨w.heap.size + 1, [{ target := .collected w.heap.size, args := #[] }], V, { target := .fn (.func gf) lb, args := #[.func (.yield (w.heap.size + 1)) #[] #[]] }, V, gf,
    #[.func (.yield (w.heap.size + 1)) #[] #[]] ++ lb, V, ?enter, ?resolve, ?leads, ?invoke, fun _ => h1, ?iter⟩
  case enter => rw [← hV, hrec]; exact run_enterLoop_outer _ _ _ _ _
  case resolve => simp only [resolve, hg]; simp [go_sem]
  case leads => intro f' hf'; simp [Target.leads] at hf'; subst hf'; exact hFg
  case invoke => simp [invoke, go_sem, eg]
  case iter =>
    refine (hseq (w.heap.size + 1) (fun pre W => I pre W ∧ W.heap[w.heap.size + 1]? = some (.loop (rec .ready)) ∧ W.heap[w.heap.size]? = some (.deferred (some []))) V vB ?own ?round ⟨vI, vL, vD⟩).mono ?behind
    case own =>
      rw [vS]
      rintro s A B ⟨h1, h2, h3⟩ ht
      exact ⟨hIT s A B h1 ht, hTk _ A B ht _ _ (by omega) h2 rfl, hTk _ A B ht _ _ (by omega) h3 rfl⟩
    case round =>
      rw [vS]
      rintro pre x W ⟨hi, hl, hk⟩ hpre hsz
      have hlt : w.heap.size + 1 < W.heap.size := (Array.getElem?_eq_some_iff.1 hl).1
      have hy := run_yield (P := P) (args := encs x) hl (by rw [hrec]; exact hps x)
      rw [hrec] at hy
      refine ⟨fn, _, assign, body, hy, roundIn_of_wpIn hfn (hassign _ x W _ ⟨_, run_beginRound hl (by rw [hrec]), ?_⟩)⟩
      have hl2 : (W.putObj (w.heap.size + 1) (.loop { rec .ready with state := .busy })).heap[w.heap.size + 1]? = some (.loop { rec .ready with state := .busy }) := World.putObj_heap_same hlt
      have hk2 : (W.putObj (w.heap.size + 1) (.loop { rec .ready with state := .busy })).heap[w.heap.size]? = some (.deferred (some [])) := (World.putObj_heap_other (by omega)).trans hk
      have hw2 : Kp (w.heap.size + 2) W (W.putObj (w.heap.size + 1) (.loop { rec .ready with state := .busy })) := hKb _ _ _ (by omega) (by omega)
      refine wpIn_mono (hbody _ pre x _ (hI.putObj _ hi (by omega) hl rfl) hpre (by show _ ≤ (W.heap.setIfInBounds _ _).size; rw [Array.size_setIfInBounds]; exact hsz)) ?_
      rintro e a3 W3 hp
      cases e with
      | normal =>
        obtain ⟨hk3, hkp3, hi3⟩ := hp
        have hl3 := hk3.same _ _ (by omega) hl2 rfl
        have hr := run_endRound (P := P) (none : Option Code) hl3
        have hl3' := hl3
        rw [hrec] at hr hl3'
        refine ⟨_, _, hr, rfl, ⟨hI.putObj _ hi3 (by omega) hl3 rfl, ?_, (World.putObj_heap_other (by omega)).trans (hk3.same _ _ (Nat.le_refl _) hk2 rfl)⟩, hKt (hKt hw2 hkp3) (hKb _ _ _ (by omega) (by omega))⟩
        rw [hrec]
        exact World.putObj_heap_same (Array.getElem?_eq_some_iff.1 hl3).1
      | ret => exact hp.elim
      | exit id => exact hp.elim
      | goto t => exact hp.elim
      | panic ch => exact hp.elim
      | outgrown => exact hp.elim
    case behind =>
      rintro e W2 ⟨⟨v, rfl⟩, hi, hl, hk⟩
      have hend := run_endLoop (P := P) hl (by rw [hrec]; simp)
      rw [hrec] at hend
      exact ⟨none, _, hend, hdone _ _ rfl (hI.putObj _ hi (by omega) hl rfl) ((World.putObj_heap_other (by omega)).trans hk)⟩
/-- A round's contract under the wide fence is one within a round, too, at whatever depth. -/
theorem yield_deep {n m : Nat} {P : Program} {l : Nat} {args : Array Value} {W : World} {R : Ending → World → Prop} (h : YieldAt Fence.wide n P l args W R) : YieldAt Fence.wide m P l args W R := by
  obtain ⟨fn, tmps, assign, body, hy, hf, hR⟩ := h
  exact ⟨fn, tmps, assign, body, hy, hf, fun c cs hr => hR c cs (fun d hd => by cases hd)⟩
/-- AN ITERATOR's OWN STEPS: new blocks; those of its own that it began with (q of them, from m on); whatever is no cells, from m on. -/
structure Steps (q m : Nat) (A B : World) : Prop where
  os : B.os = A.os
  tape : B.tape = A.tape
  output : B.output = A.output
  size : A.heap.size ≤ B.heap.size
  same : ∀ (k : Nat) (o : Obj), A.heap[k]? = some o → (k < m ∨ (m + q ≤ k ∧ o.isCells = true)) → B.heap[k]? = some o
theorem Steps.wide {q q' m m' : Nat} {A B : World} (h : Steps q m A B) (hm : m' ≤ m) (hq : q = 0 ∨ m + q ≤ m' + q') : Steps q' m' A B :=
  ⟨h.os, h.tape, h.output, h.size, fun k o hk ho => h.same k o hk (by
    by_cases h1 : k < m
    · exact .inl h1
    · rcases ho with ho | ho
      · omega
      · exact .inr ⟨by omega, ho.2⟩)⟩
theorem Steps.of_own {q m : Nat} {A B : World} {row : Option Nat} (hg : A.grownBy B row) (hr : ∀ r, row = some r → m ≤ r ∧ ∃ o : Obj, A.heap[r]? = some o ∧ o.isCells = false) : Steps q m A B :=
  ⟨hg.os, hg.tape, hg.output, hg.size, fun k o hk ho => (hg.block k (Array.getElem?_eq_some_iff.1 hk).1 fun e => by
    obtain ⟨h1, o2, h2, h3⟩ := hr k e.symm
    rw [h2] at hk; cases hk
    rcases ho with ho | ho
    · omega
    · rw [h3] at ho; cases ho.2).trans hk⟩
theorem Steps.of_below {m : Nat} {A B : World} (q : Nat) (h : Below m A B) (hm : A.heap.size ≤ m) : Steps q m A B :=
  ⟨h.os, h.tape, h.output, h.size, fun k _ hk _ => (h.block k (Nat.lt_of_lt_of_le (Array.getElem?_eq_some_iff.1 hk).1 hm)).trans hk⟩
theorem Steps.alloc (q m : Nat) (A : World) (o : Obj) : Steps q m A (A.alloc o) := Steps.of_own (World.grownBy_alloc A o none) (fun r e => by cases e)
theorem Steps.iterAt {q m : Nat} {A : World} {k : Nat} {s : ByteArray} {p : Nat} (n : Nat) (hm : m ≤ k) (hk : A.heap[k]? = some (.stringIter s p)) : Steps q m A (A.iterAt k s n) :=
  ⟨rfl, rfl, rfl, by show A.heap.size ≤ (A.heap.setIfInBounds _ _).size; rw [Array.size_setIfInBounds]; exact Nat.le_refl _, fun j o hj ho => by
    by_cases e : j = k
    · subst e
      rw [hk] at hj; cases hj
      rcases ho with ho | ho
      · omega
      · cases ho.2
    · exact (World.putObj_heap_other e).trans hj⟩
theorem Steps.setCell {q m : Nat} {A : World} {a : Addr} (v : Value) (h1 : m ≤ a.block) (h2 : a.block < m + q) : Steps q m A (A.setCell a v) :=
  ⟨rfl, rfl, rfl, (KeepsOthers.setCell A a v).size, fun k o hk ho => (Below.heap_setCell A a v k (by omega)).trans hk⟩
theorem Steps.block {q m : Nat} {A B : World} (h : Steps q m A B) (k : Nat) (o : Obj) (hk : k < m) (ho : A.heap[k]? = some o) : B.heap[k]? = some o := h.same k o ho (.inl hk)
theorem Steps.boxed {q m : Nat} {A B : World} {b : Nat} {t : TypeId} {v : Value} (h : Steps q m A B) (hb : b < m ∨ m + q ≤ b) (hx : Boxed A b t v) : Boxed B b t v := h.same b _ hx (hb.elim .inl fun h => .inr ⟨h, rfl⟩)
theorem Steps.below {q m n : Nat} {w A B : World} (h : Steps q m A B) (hb : Below n w A) (hn : n ≤ m) (hw : n ≤ w.heap.size) : Below n w B :=
  ⟨h.os.trans hb.os, h.tape.trans hb.tape, h.output.trans hb.output, Nat.le_trans hb.size h.size, fun k hk => by
    have h1 := hb.block k hk
    have h2 : k < A.heap.size := by have := hb.size; omega
    rw [h.same k _ (Array.getElem?_eq_getElem h2) (.inl (by omega)), ← h1]
    exact (Array.getElem?_eq_getElem h2).symm⟩
theorem steps_own {β : Type} {q m n : Nat} {I : β → World → Prop} (h : ∀ s A B, I s A → Steps q m A B → I s B) (hm : m ≤ n) : OwnFrom n I :=
  fun s A B _ hs hg hr => h s A B hs (Steps.of_own hg fun r e => ⟨Nat.le_trans hm (hr r e).1, (hr r e).2⟩)
/-- WHAT A ROUND KEEPS FOR AN ITERATOR: whatever is no cells, from m on; the q blocks from m on; those of T. -/
structure Stays (q : Nat) (T : List Nat) (m : Nat) (A B : World) : Prop where
  size : A.heap.size ≤ B.heap.size
  same : ∀ (k : Nat) (o : Obj), A.heap[k]? = some o → ((m ≤ k ∧ o.isCells = false) ∨ (m ≤ k ∧ k < m + q) ∨ k ∈ T) → B.heap[k]? = some o
theorem Stays.refl (q : Nat) (T : List Nat) (m : Nat) (A : World) : Stays q T m A A := ⟨Nat.le_refl _, fun _ _ h _ => h⟩
theorem Stays.trans {q : Nat} {T : List Nat} {m : Nat} {A B C : World} (h : Stays q T m A B) (k : Stays q T m B C) : Stays q T m A C :=
  ⟨Nat.le_trans h.size k.size, fun j o hj ho => k.same j o (h.same j o hj ho) ho⟩
theorem Stays.putObj {q : Nat} {T : List Nat} {m n : Nat} (hT : ∀ k ∈ T, k < n) (W : World) (l : Nat) (o : Obj) (h1 : n ≤ l) (h2 : l < m) : Stays q T m W (W.putObj l o) :=
  ⟨by simp, fun k o' hk ho => (World.putObj_heap_other (by rcases ho with ho | ho | ho <;> first | omega | (have := hT k ho; omega))).trans hk⟩
theorem Stays.from {q : Nat} {T : List Nat} {m : Nat} {A B : World} (h : Stays q T m A B) {n : Nat} (hn : m ≤ n) : KeepsFrom n A B := ⟨h.size, fun k o hB hk ho => h.same k o hk (.inl ⟨by omega, ho⟩)⟩
theorem Stays.boxed {q : Nat} {T : List Nat} {m : Nat} {A B : World} {b : Nat} {t : TypeId} {v : Value} (h : Stays q T m A B) (hb : (m ≤ b ∧ b < m + q) ∨ b ∈ T) (hx : Boxed A b t v) : Boxed B b t v := h.same b _ hx (.inr hb)
/-- A round within a round: what the outer one keeps serves the inner one. -/
theorem Stays.inner {q q' : Nat} {T T' : List Nat} {m m' : Nat} {A B : World} (h : Stays q T m A B) (hm : m ≤ m') (hq : q' = 0) (hT : ∀ k ∈ T', m ≤ k ∧ k < m + q) : Stays q' T' m' A B :=
  ⟨h.size, fun k o hk ho => h.same k o hk (by
    rcases ho with ho | ho | ho
    · exact .inl ⟨by omega, ho.2⟩
    · omega
    · exact .inr (.inl (hT k ho)))⟩
theorem Stays.alloc (q : Nat) (T : List Nat) (m : Nat) (A : World) (o : Obj) : Stays q T m A (A.alloc o) :=
  ⟨by simp, fun k o' hk _ => (Below.heap_alloc A o k (Array.getElem?_eq_some_iff.1 hk).1).trans hk⟩
theorem Stays.setCell {q : Nat} {T : List Nat} {m : Nat} (A : World) (a : Addr) (v : Value) (h1 : a.block < m ∨ m + q ≤ a.block) (h2 : a.block ∉ T) : Stays q T m A (A.setCell a v) :=
  ⟨(KeepsOthers.setCell A a v).size, fun k o hk ho => by
    by_cases e : k = a.block
    · rcases ho with ho | ho | ho
      · exact (KeepsOthers.setCell A a v).same k o hk ho.2
      · omega
      · exact absurd (e ▸ ho) h2
    · exact (Below.heap_setCell A a v k e).trans hk⟩
/-- A step that writes at most one row of cells, which is none of those. -/
theorem Stays.grown {q : Nat} {T : List Nat} {m : Nat} {A B : World} {row : Option Nat} (hg : A.grownBy B row) (hr : ∀ r, row = some r → (r < m ∨ m + q ≤ r) ∧ r ∉ T ∧ ∀ o, A.heap[r]? = some o → o.isCells = true) : Stays q T m A B :=
  ⟨hg.size, fun k o hk ho => (hg.block k (Array.getElem?_eq_some_iff.1 hk).1 fun e => by
    obtain ⟨h1, h2, h3⟩ := hr k e.symm
    have h4 := h3 o hk
    rcases ho with ho | ho | ho
    · rw [h4] at ho; cases ho.2
    · omega
    · exact h2 ho).trans hk⟩
end Go.Proofs.Ytpgonbibekffhaa
