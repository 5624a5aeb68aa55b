/-
  A range over an iterator whose elements are a known list, where every round goes on. The iterator may write boxes of its own, laid since it began: its contract says which steps are its own ('Tk') and what a round must keep ('Kp'), both by how big the heap was when it began; a round is told that its element is the next one of the list. So an iterator may itself range over another one.
-/
import Derived.RangeFuncNested
import Derived.RangeFuncBound
import Derived.RangeFuncCalls
import Derived.RangeFuncLeaves
import Derived.RangeFuncBox
import Derived.Shelf.Abstract
import Derived.Shelf.RegionOpen
import Derived.WalkKit
import Derived.OwnWalkIn
import Derived.TacticsInMore
import Derived.LoopNIn
import Derived.LoopIn
import Derived.Test.YtohdijhpoddbbaaBase
import Derived.Test.YtohdijhpoddbbaaLine
import Derived.Test.YtohdijhpoddbbaaLineCalls
import Derived.Test.YtohdijhpoddbbaaLineSeq
import Derived.BigCall
import Derived.Lib.OthersKept
import Derived.Stop.RegionWithIn
import Derived.Test.YtohdijhpoddbbaaPairs
import Derived.Test.YtohdijhpoddbbaaFrame
import Derived.Maps.OwnIn
import Derived.Test.YtohdijhpoddbbaaLineRefs2
namespace Go.Proofs.Ytohdijhpoddbbaa
open Go.RowKit
/-- An iterator's contract. 'q': how many blocks it has laid at least when a round begins. -/
def SeqList {α : Type} (F : Fence) (n : Nat) (P : Program) (g : Nat) (lb : Array Value) (encs : α → Array Value) (q : Nat) (Kp Tk : Nat → World → World → Prop) (L : List α) (w : World) : Prop :=
  ∀ (l : Nat) (J : List α → World → Prop) (W : World), Below w.heap.size w W → (∀ s A B, J s A → Tk W.heap.size A B → J s B) →
    (∀ pre x W1, J pre W1 → pre ++ [x] <+: L → W.heap.size + q ≤ W1.heap.size → YieldAt F (n - 1) P l (encs x) W1 fun e W' => e = .returned (.bool true) ∧ J (pre ++ [x]) W' ∧ Kp W.heap.size W1 W') →
    J [] W → CallsIn F n P g (#[.func (.yield l) #[] #[]] ++ lb) W fun e W' => (∃ v, e = .returned v) ∧ J L W'
/-- A round's body goes on. -/
def goesFrom {α : Type} (B : Nat) (Kp : World → World → Prop) (I : List α → World → Prop) (xs : List α) (W : World) : Exit → Act → World → Prop
  | .normal, _, W' => KeepsFrom B W W' ∧ Kp W W' ∧ I xs W'
  | _, _, _ => False
theorem wpIn_seqList {α : Type} {F : Fence} {n : Nat} {P : Program} {g : Operand} {ps : Array Tmp} {assign body : Code} {Q : Exit → Act → World → Prop} {a : Act} {w : World}
    (hro : F.round = none) (h1 : 1 ≤ n) {gf : Nat} {lb : Array Value} (hg : a.eval g = .func (.func gf) #[] lb) (hFg : F.fn gf) (eg : ∀ args w, (callFunc gf args).run P w = .ok (.enter gf args) w)
    {encs : α → Array Value} {q : Nat} {Kp Tk : Nat → World → World → Prop} {L : List α} {w0 : World} (hseq : SeqList F (n - 1) P gf lb encs q Kp Tk L w0)
    (hTk : ∀ m A B, Tk m A B → ∀ k o, k < m → A.heap[k]? = some o → o.isCells = false → B.heap[k]? = some o)
    (hKt : ∀ {m : Nat} {A B C : World}, Kp m A B → Kp m B C → Kp m A C) (hKb : ∀ (W : World) (l : Nat) (o : Obj), w.heap.size ≤ l → l < w.heap.size + 2 → Kp (w.heap.size + 2) W (W.putObj l o))
    (hb0 : Below w0.heap.size w0 w) (hps : ∀ x, (encs x).size = ps.size)
    (I : List α → World → Prop) (hI : OwnFrom w.heap.size I) (hIT : ∀ s A B, I s A → Tk (w.heap.size + 2) A B → I s B) (h0 : I [] w) (a₁ : α → Act)
    (hassign : ∀ (l : Nat) (x : α) (W : World) (K : Act → World → Prop), K (a₁ x) W →
      assign.wpIn (F.inRound l) (n - 1 - 1) P (Exit.then K (fun _ _ _ => False)) { tmps := (ps.zip (encs x)).foldl (fun t (p, v) => t.setIfInBounds p v) a.tmps, defers := [] } W)
    (hbody : ∀ (l : Nat) (pre : List α) (x : α) (W : World), I pre W → pre ++ [x] <+: L → w.heap.size + 2 + q ≤ W.heap.size → body.wpIn (F.inRound l) (n - 1 - 1) P (goesFrom w.heap.size (Kp (w.heap.size + 2)) I (pre ++ [x]) W) (a₁ x) W)
    (hdone : ∀ (D : Nat) (W : World), D = w.heap.size → I L W → W.heap[D]? = some (.deferred (some [])) → Q .normal { a with defers := { target := .collected D, args := #[] } :: a.defers } W) :
    (Code.rangeFunc g ps assign body).wpIn F n P Q a w := by
  refine wpIn_rangeFunc fun fn hfn => ?_
  rw [hro]
  obtain ⟨rec, hrec⟩ : ∃ rec : LoopState → Loop, rec = fun st => { state := st, pending := none, fn, tmps := a.tmps, params := ps, assign, body, defers := w.heap.size } := ⟨_, rfl⟩
  obtain ⟨V, hV⟩ : ∃ V, (w.alloc (.deferred (some []))).alloc (.loop (rec .ready)) = V := ⟨_, rfl⟩
  have vS : V.heap.size = w.heap.size + 2 := by rw [← hV]; simp
  have vL : V.heap[w.heap.size + 1]? = some (.loop (rec .ready)) := by
    rw [← hV]
    have := World.alloc_heap_new (w.alloc (.deferred (some []))) (.loop (rec .ready))
    rwa [World.size_alloc] at this
  have vD : V.heap[w.heap.size]? = some (.deferred (some [])) := by
    rw [← hV]
    exact (Below.heap_alloc _ _ _ (by simp)).trans (World.alloc_heap_new w _)
  have vI : I [] V := by rw [← hV]; exact hI.alloc _ (hI.alloc _ h0)
  have vB : Below w0.heap.size w0 V := by
    rw [← hV]
    exact hb0.trans ((((Below.refl _ w).alloc (Nat.le_refl _) _).alloc (by simp) _).mono hb0.size)
  refine ⟨w.heap.size + 1, [{ target := .collected w.heap.size, args := #[] }], V, { target := .fn (.func gf) lb, args := #[.func (.yield (w.heap.size + 1)) #[] #[]] }, V, gf,
    #[.func (.yield (w.heap.size + 1)) #[] #[]] ++ lb, V, ?enter, ?resolve, ?leads, ?invoke, fun _ => h1, ?iter⟩
  case enter => rw [← hV, hrec]; exact run_enterLoop_outer _ _ _ _ _
  case resolve => simp only [resolve, hg]; simp [go_sem]
  case leads => intro f' hf'; simp [Target.leads] at hf'; subst hf'; exact hFg
  case invoke => simp [invoke, go_sem, eg]
  case iter =>
    refine (hseq (w.heap.size + 1) (fun pre W => I pre W ∧ W.heap[w.heap.size + 1]? = some (.loop (rec .ready)) ∧ W.heap[w.heap.size]? = some (.deferred (some []))) V vB ?own ?round ⟨vI, vL, vD⟩).mono ?behind
    case own =>
      rw [vS]
      rintro s A B ⟨h1, h2, h3⟩ ht
      exact ⟨hIT s A B h1 ht, hTk _ A B ht _ _ (by omega) h2 rfl, hTk _ A B ht _ _ (by omega) h3 rfl⟩
    case round =>
      rw [vS]
      rintro pre x W ⟨hi, hl, hk⟩ hpre hsz
      have hlt : w.heap.size + 1 < W.heap.size := (Array.getElem?_eq_some_iff.1 hl).1
      have hy := run_yield (P := P) (args := encs x) hl (by rw [hrec]; exact hps x)
      rw [hrec] at hy
      refine ⟨fn, _, assign, body, hy, roundIn_of_wpIn hfn (hassign _ x W _ ⟨_, run_beginRound hl (by rw [hrec]), ?_⟩)⟩
      have hl2 : (W.putObj (w.heap.size + 1) (.loop { rec .ready with state := .busy })).heap[w.heap.size + 1]? = some (.loop { rec .ready with state := .busy }) := World.putObj_heap_same hlt
      have hk2 : (W.putObj (w.heap.size + 1) (.loop { rec .ready with state := .busy })).heap[w.heap.size]? = some (.deferred (some [])) := (World.putObj_heap_other (by omega)).trans hk
      have hw2 : Kp (w.heap.size + 2) W (W.putObj (w.heap.size + 1) (.loop { rec .ready with state := .busy })) := hKb _ _ _ (by omega) (by omega)
      refine wpIn_mono (hbody _ pre x _ (hI.putObj _ hi (by omega) hl rfl) hpre (by show _ ≤ (W.heap.setIfInBounds _ _).size; rw [Array.size_setIfInBounds]; exact hsz)) ?_
      rintro e a3 W3 hp
      cases e with
      | normal =>
        obtain ⟨hk3, hkp3, hi3⟩ := hp
        have hl3 := hk3.same _ _ (by omega) hl2 rfl
        have hr := run_endRound (P := P) (none : Option Code) hl3
        have hl3' := hl3
        rw [hrec] at hr hl3'
        refine ⟨_, _, hr, rfl, ⟨hI.putObj _ hi3 (by omega) hl3 rfl, ?_, (World.putObj_heap_other (by omega)).trans (hk3.same _ _ (Nat.le_refl _) hk2 rfl)⟩, hKt (hKt hw2 hkp3) (hKb _ _ _ (by omega) (by omega))⟩
        rw [hrec]
        exact World.putObj_heap_same (Array.getElem?_eq_some_iff.1 hl3).1
      | ret => exact hp.elim
      | exit id => exact hp.elim
      | goto t => exact hp.elim
      | panic ch => exact hp.elim
      | outgrown => exact hp.elim
    case behind =>
      rintro e W2 ⟨⟨v, rfl⟩, hi, hl, hk⟩
      have hend := run_endLoop (P := P) hl (by rw [hrec]; simp)
      rw [hrec] at hend
      exact ⟨none, _, hend, hdone _ _ rfl (hI.putObj _ hi (by omega) hl rfl) ((World.putObj_heap_other (by omega)).trans hk)⟩
/-- A round's contract under the wide fence is one within a round, too, at whatever depth. -/
theorem yield_deep {n m : Nat} {P : Program} {l : Nat} {args : Array Value} {W : World} {R : Ending → World → Prop} (h : YieldAt Fence.wide n P l args W R) : YieldAt Fence.wide m P l args W R := by
  obtain ⟨fn, tmps, assign, body, hy, hf, hR⟩ := h
  exact ⟨fn, tmps, assign, body, hy, hf, fun c cs hr => hR c cs (fun d hd => by cases hd)⟩
/-- AN ITERATOR's OWN STEPS: new blocks; those of its own that it began with (q of them, from m on); whatever is no cells, from m on. -/
structure Steps (q m : Nat) (A B : World) : Prop where
  os : B.os = A.os
  tape : B.tape = A.tape
  output : B.output = A.output
  size : A.heap.size ≤ B.heap.size
  same : ∀ (k : Nat) (o : Obj), A.heap[k]? = some o → (k < m ∨ (m + q ≤ k ∧ o.isCells = true)) → B.heap[k]? = some o
theorem Steps.wide {q q' m m' : Nat} {A B : World} (h : Steps q m A B) (hm : m' ≤ m) (hq : q = 0 ∨ m + q ≤ m' + q') : Steps q' m' A B :=
  ⟨h.os, h.tape, h.output, h.size, fun k o hk ho => h.same k o hk (by
    by_cases h1 : k < m
    · exact .inl h1
    · rcases ho with ho | ho
      · omega
      · exact .inr ⟨by omega, ho.2⟩)⟩
theorem Steps.of_own {q m : Nat} {A B : World} {row : Option Nat} (hg : A.grownBy B row) (hr : ∀ r, row = some r → m ≤ r ∧ ∃ o : Obj, A.heap[r]? = some o ∧ o.isCells = false) : Steps q m A B :=
  ⟨hg.os, hg.tape, hg.output, hg.size, fun k o hk ho => (hg.block k (Array.getElem?_eq_some_iff.1 hk).1 fun e => by
    obtain ⟨h1, o2, h2, h3⟩ := hr k e.symm
    rw [h2] at hk; cases hk
    rcases ho with ho | ho
    · omega
    · rw [h3] at ho; cases ho.2).trans hk⟩
theorem Steps.of_below {m : Nat} {A B : World} (q : Nat) (h : Below m A B) (hm : A.heap.size ≤ m) : Steps q m A B :=
  ⟨h.os, h.tape, h.output, h.size, fun k _ hk _ => (h.block k (Nat.lt_of_lt_of_le (Array.getElem?_eq_some_iff.1 hk).1 hm)).trans hk⟩
theorem Steps.alloc (q m : Nat) (A : World) (o : Obj) : Steps q m A (A.alloc o) := Steps.of_own (World.grownBy_alloc A o none) (fun r e => by cases e)
theorem Steps.iterAt {q m : Nat} {A : World} {k : Nat} {s : ByteArray} {p : Nat} (n : Nat) (hm : m ≤ k) (hk : A.heap[k]? = some (.stringIter s p)) : Steps q m A (A.iterAt k s n) :=
  ⟨rfl, rfl, rfl, by show A.heap.size ≤ (A.heap.setIfInBounds _ _).size; rw [Array.size_setIfInBounds]; exact Nat.le_refl _, fun j o hj ho => by
    by_cases e : j = k
    · subst e
      rw [hk] at hj; cases hj
      rcases ho with ho | ho
      · omega
      · cases ho.2
    · exact (World.putObj_heap_other e).trans hj⟩
theorem Steps.setCell {q m : Nat} {A : World} {a : Addr} (v : Value) (h1 : m ≤ a.block) (h2 : a.block < m + q) : Steps q m A (A.setCell a v) :=
  ⟨rfl, rfl, rfl, (KeepsOthers.setCell A a v).size, fun k o hk ho => (Below.heap_setCell A a v k (by omega)).trans hk⟩
theorem Steps.block {q m : Nat} {A B : World} (h : Steps q m A B) (k : Nat) (o : Obj) (hk : k < m) (ho : A.heap[k]? = some o) : B.heap[k]? = some o := h.same k o ho (.inl hk)
theorem Steps.boxed {q m : Nat} {A B : World} {b : Nat} {t : TypeId} {v : Value} (h : Steps q m A B) (hb : b < m ∨ m + q ≤ b) (hx : Boxed A b t v) : Boxed B b t v := h.same b _ hx (hb.elim .inl fun h => .inr ⟨h, rfl⟩)
theorem Steps.below {q m n : Nat} {w A B : World} (h : Steps q m A B) (hb : Below n w A) (hn : n ≤ m) (hw : n ≤ w.heap.size) : Below n w B :=
  ⟨h.os.trans hb.os, h.tape.trans hb.tape, h.output.trans hb.output, Nat.le_trans hb.size h.size, fun k hk => by
    have h1 := hb.block k hk
    have h2 : k < A.heap.size := by have := hb.size; omega
    rw [h.same k _ (Array.getElem?_eq_getElem h2) (.inl (by omega)), ← h1]
    exact (Array.getElem?_eq_getElem h2).symm⟩
theorem steps_own {β : Type} {q m n : Nat} {I : β → World → Prop} (h : ∀ s A B, I s A → Steps q m A B → I s B) (hm : m ≤ n) : OwnFrom n I :=
  fun s A B _ hs hg hr => h s A B hs (Steps.of_own hg fun r e => ⟨Nat.le_trans hm (hr r e).1, (hr r e).2⟩)
/-- WHAT A ROUND KEEPS FOR AN ITERATOR: whatever is no cells, from m on; the q blocks from m on; those of T. -/
structure Stays (q : Nat) (T : List Nat) (m : Nat) (A B : World) : Prop where
  size : A.heap.size ≤ B.heap.size
  same : ∀ (k : Nat) (o : Obj), A.heap[k]? = some o → ((m ≤ k ∧ o.isCells = false) ∨ (m ≤ k ∧ k < m + q) ∨ k ∈ T) → B.heap[k]? = some o
theorem Stays.refl (q : Nat) (T : List Nat) (m : Nat) (A : World) : Stays q T m A A := ⟨Nat.le_refl _, fun _ _ h _ => h⟩
theorem Stays.trans {q : Nat} {T : List Nat} {m : Nat} {A B C : World} (h : Stays q T m A B) (k : Stays q T m B C) : Stays q T m A C :=
  ⟨Nat.le_trans h.size k.size, fun j o hj ho => k.same j o (h.same j o hj ho) ho⟩
theorem Stays.putObj {q : Nat} {T : List Nat} {m n : Nat} (hT : ∀ k ∈ T, k < n) (W : World) (l : Nat) (o : Obj) (h1 : n ≤ l) (h2 : l < m) : Stays q T m W (W.putObj l o) :=
  ⟨by simp, fun k o' hk ho => (World.putObj_heap_other (by rcases ho with ho | ho | ho <;> first | omega | (have := hT k ho; omega))).trans hk⟩
theorem Stays.from {q : Nat} {T : List Nat} {m : Nat} {A B : World} (h : Stays q T m A B) {n : Nat} (hn : m ≤ n) : KeepsFrom n A B := ⟨h.size, fun k o hB hk ho => h.same k o hk (.inl ⟨by omega, ho⟩)⟩
theorem Stays.boxed {q : Nat} {T : List Nat} {m : Nat} {A B : World} {b : Nat} {t : TypeId} {v : Value} (h : Stays q T m A B) (hb : (m ≤ b ∧ b < m + q) ∨ b ∈ T) (hx : Boxed A b t v) : Boxed B b t v := h.same b _ hx (.inr hb)
/-- A round within a round: what the outer one keeps serves the inner one. -/
theorem Stays.inner {q q' : Nat} {T T' : List Nat} {m m' : Nat} {A B : World} (h : Stays q T m A B) (hm : m ≤ m') (hq : q' = 0) (hT : ∀ k ∈ T', m ≤ k ∧ k < m + q) : Stays q' T' m' A B :=
  ⟨h.size, fun k o hk ho => h.same k o hk (by
    rcases ho with ho | ho | ho
    · exact .inl ⟨by omega, ho.2⟩
    · omega
    · exact .inr (.inl (hT k ho)))⟩
theorem Stays.alloc (q : Nat) (T : List Nat) (m : Nat) (A : World) (o : Obj) : Stays q T m A (A.alloc o) :=
  ⟨by simp, fun k o' hk _ => (Below.heap_alloc A o k (Array.getElem?_eq_some_iff.1 hk).1).trans hk⟩
theorem Stays.setCell {q : Nat} {T : List Nat} {m : Nat} (A : World) (a : Addr) (v : Value) (h1 : a.block < m ∨ m + q ≤ a.block) (h2 : a.block ∉ T) : Stays q T m A (A.setCell a v) :=
  ⟨(KeepsOthers.setCell A a v).size, fun k o hk ho => by
    by_cases e : k = a.block
    · rcases ho with ho | ho | ho
      · exact (KeepsOthers.setCell A a v).same k o hk ho.2
      · omega
      · exact absurd (e ▸ ho) h2
    · exact (Below.heap_setCell A a v k e).trans hk⟩
/-- A step that writes at most one row of cells, which is none of those. -/
theorem Stays.grown {q : Nat} {T : List Nat} {m : Nat} {A B : World} {row : Option Nat} (hg : A.grownBy B row) (hr : ∀ r, row = some r → (r < m ∨ m + q ≤ r) ∧ r ∉ T ∧ ∀ o, A.heap[r]? = some o → o.isCells = true) : Stays q T m A B :=
  ⟨hg.size, fun k o hk ho => (hg.block k (Array.getElem?_eq_some_iff.1 hk).1 fun e => by
    obtain ⟨h1, h2, h3⟩ := hr k e.symm
    have h4 := h3 o hk
    rcases ho with ho | ho | ho
    · rw [h4] at ho; cases ho.2
    · omega
    · exact h2 ho).trans hk⟩
end Go.Proofs.Ytohdijhpoddbbaa
/-
  A range over an iterator whose elements are a known list, where a round may go on or return. As SeqList, but that a round may answer 'no more': the iterator then leaves. The loop's variable may lie in a block of its own, laid anew in each round.
-/
namespace Go.Proofs.Ytohdijhpoddbbaa
open Go.RowKit
/-- An iterator's contract, where a round may end it. -/
def SeqUpto {α : Type} (F : Fence) (n : Nat) (P : Program) (g : Nat) (lb : Array Value) (encs : α → Array Value) (q : Nat) (Kp Tk : Nat → World → World → Prop) (L : List α) (w : World) : Prop :=
  ∀ (l : Nat) (J : List α → World → Prop) (X : World → Prop) (W : World), Below w.heap.size w W → (∀ s A B, J s A → Tk W.heap.size A B → J s B) → (∀ A B, X A → Tk W.heap.size A B → X B) →
    (∀ pre x W1, J pre W1 → pre ++ [x] <+: L → W.heap.size + q ≤ W1.heap.size → YieldAt F (n - 1) P l (encs x) W1 fun e W' => Kp W.heap.size W1 W' ∧ ((e = .returned (.bool true) ∧ J (pre ++ [x]) W') ∨ (e = .returned (.bool false) ∧ X W'))) →
    J [] W → CallsIn F n P g (#[.func (.yield l) #[] #[]] ++ lb) W fun e W' => (∃ v, e = .returned v) ∧ (J L W' ∨ X W')
/-- A round's body goes on, or returns. -/
def uptoFrom {α : Type} (B : Nat) (Kp : World → World → Prop) (I : List α → World → Prop) (X : World → Prop) (xs : List α) (W : World) : Exit → Act → World → Prop
  | .normal, _, W' => KeepsFrom B W W' ∧ Kp W W' ∧ I xs W'
  | .ret, _, W' => KeepsFrom B W W' ∧ Kp W W' ∧ X W'
  | _, _, _ => False
theorem wpIn_seqUpto {α : Type} {F : Fence} {n : Nat} {P : Program} {g : Operand} {ps : Array Tmp} {assign body : Code} {Q : Exit → Act → World → Prop} {a : Act} {w : World}
    (hro : F.round = none) (h1 : 1 ≤ n) {gf : Nat} {lb : Array Value} (hg : a.eval g = .func (.func gf) #[] lb) (hFg : F.fn gf) (eg : ∀ args w, (callFunc gf args).run P w = .ok (.enter gf args) w)
    {encs : α → Array Value} {q : Nat} {Kp Tk : Nat → World → World → Prop} {L : List α} {w0 : World} (hseq : SeqUpto F (n - 1) P gf lb encs q Kp Tk L w0)
    (hTk : ∀ m A B, Tk m A B → ∀ k o, k < m → A.heap[k]? = some o → o.isCells = false → B.heap[k]? = some o)
    (hKt : ∀ {m : Nat} {A B C : World}, Kp m A B → Kp m B C → Kp m A C) (hKb : ∀ (W : World) (l : Nat) (o : Obj), w.heap.size ≤ l → l < w.heap.size + 2 → Kp (w.heap.size + 2) W (W.putObj l o))
    (hKs : ∀ A B, Kp (w.heap.size + 2) A B → A.heap.size ≤ B.heap.size)
    (hb0 : Below w0.heap.size w0 w) (hps : ∀ x, (encs x).size = ps.size)
    (I : List α → World → Prop) (X : World → Prop) (hI : OwnFrom w.heap.size I) (hX : OwnFrom w.heap.size (fun (_ : Unit) W => X W)) (hIT : ∀ s A B, I s A → Tk (w.heap.size + 2) A B → I s B) (hXT : ∀ A B, X A → Tk (w.heap.size + 2) A B → X B) (h0 : I [] w)
    (Ax : α → Act → World → Prop) (hAx : ∀ x a', OwnFrom w.heap.size (fun (_ : Unit) W => Ax x a' W))
    (hassign : ∀ (l : Nat) (pre : List α) (x : α) (W : World) (K : Act → World → Prop), I pre W → pre ++ [x] <+: L → w.heap.size + 2 + q ≤ W.heap.size → (∀ a' W', KeepsFrom w.heap.size W W' → Kp (w.heap.size + 2) W W' → I pre W' → Ax x a' W' → K a' W') →
      assign.wpIn (F.inRound l) (n - 1 - 1) P (Exit.then K (fun _ _ _ => False)) { tmps := (ps.zip (encs x)).foldl (fun t (p, v) => t.setIfInBounds p v) a.tmps, defers := [] } W)
    (hbody : ∀ (l : Nat) (pre : List α) (x : α) (a' : Act) (W : World), I pre W → Ax x a' W → pre ++ [x] <+: L → w.heap.size + 2 + q ≤ W.heap.size → body.wpIn (F.inRound l) (n - 1 - 1) P (uptoFrom w.heap.size (Kp (w.heap.size + 2)) I X (pre ++ [x]) W) a' W)
    (hdone : ∀ (D : Nat) (W : World), D = w.heap.size → I L W → W.heap[D]? = some (.deferred (some [])) → Q .normal { a with defers := { target := .collected D, args := #[] } :: a.defers } W)
    (hstop : ∀ (D : Nat) (W : World), D = w.heap.size → X W → W.heap[D]? = some (.deferred (some [])) → Code.ret.wpIn F n P Q { a with defers := { target := .collected D, args := #[] } :: a.defers } W) :
    (Code.rangeFunc g ps assign body).wpIn F n P Q a w := by
  refine wpIn_rangeFunc fun fn hfn => ?_
  rw [hro]
  obtain ⟨rec, hrec⟩ : ∃ rec : LoopState → Option Code → Loop, rec = fun st pe => { state := st, pending := pe, fn, tmps := a.tmps, params := ps, assign, body, defers := w.heap.size } := ⟨_, rfl⟩
  obtain ⟨V, hV⟩ : ∃ V, (w.alloc (.deferred (some []))).alloc (.loop (rec .ready none)) = V := ⟨_, rfl⟩
  have vS : V.heap.size = w.heap.size + 2 := by rw [← hV]; simp
  have vL : V.heap[w.heap.size + 1]? = some (.loop (rec .ready none)) := by
    rw [← hV]
    have := World.alloc_heap_new (w.alloc (.deferred (some []))) (.loop (rec .ready none))
    rwa [World.size_alloc] at this
  have vD : V.heap[w.heap.size]? = some (.deferred (some [])) := by
    rw [← hV]
    exact (Below.heap_alloc _ _ _ (by simp)).trans (World.alloc_heap_new w _)
  have vI : I [] V := by rw [← hV]; exact hI.alloc _ (hI.alloc _ h0)
  have vB : Below w0.heap.size w0 V := by
    rw [← hV]
    exact hb0.trans ((((Below.refl _ w).alloc (Nat.le_refl _) _).alloc (by simp) _).mono hb0.size)
  refine ⟨w.heap.size + 1, [{ target := .collected w.heap.size, args := #[] }], V, { target := .fn (.func gf) lb, args := #[.func (.yield (w.heap.size + 1)) #[] #[]] }, V, gf,
    #[.func (.yield (w.heap.size + 1)) #[] #[]] ++ lb, V, ?enter, ?resolve, ?leads, ?invoke, fun _ => h1, ?iter⟩
  case enter => rw [← hV, hrec]; exact run_enterLoop_outer _ _ _ _ _
  case resolve => simp only [resolve, hg]; simp [go_sem]
  case leads => intro f' hf'; simp [Target.leads] at hf'; subst hf'; exact hFg
  case invoke => simp [invoke, go_sem, eg]
  case iter =>
    refine (hseq (w.heap.size + 1) (fun pre W => I pre W ∧ W.heap[w.heap.size + 1]? = some (.loop (rec .ready none)) ∧ W.heap[w.heap.size]? = some (.deferred (some [])))
      (fun W => X W ∧ W.heap[w.heap.size + 1]? = some (.loop (rec .done (some .ret))) ∧ W.heap[w.heap.size]? = some (.deferred (some []))) V vB ?own ?ownx ?round ⟨vI, vL, vD⟩).mono ?behind
    case own =>
      rw [vS]
      rintro s A B ⟨h1, h2, h3⟩ ht
      exact ⟨hIT s A B h1 ht, hTk _ A B ht _ _ (by omega) h2 rfl, hTk _ A B ht _ _ (by omega) h3 rfl⟩
    case ownx =>
      rw [vS]
      rintro A B ⟨h1, h2, h3⟩ ht
      exact ⟨hXT A B h1 ht, hTk _ A B ht _ _ (by omega) h2 rfl, hTk _ A B ht _ _ (by omega) h3 rfl⟩
    case round =>
      rw [vS]
      rintro pre x W ⟨hi, hl, hk⟩ hpre hsz
      have hy := run_yield (P := P) (args := encs x) hl (by rw [hrec]; exact hps x)
      rw [hrec] at hy
      refine ⟨fn, _, assign, body, hy, roundIn_of_wpIn hfn (hassign _ pre x W _ hi hpre hsz ?_)⟩
      clear hy
      intro a' Wa hkfa hkpa hia hax
      have hla := hkfa.same _ _ (by omega) hl rfl
      have hka := hkfa.same _ _ (Nat.le_refl _) hk rfl
      have hlt : w.heap.size + 1 < Wa.heap.size := (Array.getElem?_eq_some_iff.1 hla).1
      refine ⟨_, run_beginRound hla (by rw [hrec]), ?_⟩
      have hl2 : (Wa.putObj (w.heap.size + 1) (.loop { rec .ready none with state := .busy })).heap[w.heap.size + 1]? = some (.loop { rec .ready none with state := .busy }) := World.putObj_heap_same hlt
      have hk2 : (Wa.putObj (w.heap.size + 1) (.loop { rec .ready none with state := .busy })).heap[w.heap.size]? = some (.deferred (some [])) := (World.putObj_heap_other (by omega)).trans hka
      have hw2 : Kp (w.heap.size + 2) Wa (Wa.putObj (w.heap.size + 1) (.loop { rec .ready none with state := .busy })) := hKb _ _ _ (by omega) (by omega)
      refine wpIn_mono (hbody _ pre x a' _ (hI.putObj _ hia (by omega) hla rfl) ((hAx x a').putObj (s := ()) _ hax (by omega) hla rfl) hpre (by show _ ≤ (Wa.heap.setIfInBounds _ _).size; rw [Array.size_setIfInBounds]; exact Nat.le_trans hsz (hKs _ _ hkpa))) ?_
      rintro e a3 W3 hp
      cases e with
      | normal =>
        obtain ⟨hk3, hkp3, hi3⟩ := hp
        have hl3 := hk3.same _ _ (by omega) hl2 rfl
        have hr := run_endRound (P := P) (none : Option Code) hl3
        have hl3' := hl3
        rw [hrec] at hr hl3'
        refine ⟨_, _, hr, hKt hkpa (hKt (hKt hw2 hkp3) (hKb _ _ _ (by omega) (by omega))), .inl ⟨rfl, hI.putObj _ hi3 (by omega) hl3 rfl, ?_, (World.putObj_heap_other (by omega)).trans (hk3.same _ _ (Nat.le_refl _) hk2 rfl)⟩⟩
        rw [hrec]
        exact World.putObj_heap_same (Array.getElem?_eq_some_iff.1 hl3).1
      | ret =>
        obtain ⟨hk3, hkp3, hi3⟩ := hp
        have hl3 := hk3.same _ _ (by omega) hl2 rfl
        have hr := run_endRound (P := P) (some Code.ret) hl3
        have hl3' := hl3
        rw [hrec] at hr hl3'
        refine ⟨_, _, hr, hKt hkpa (hKt (hKt hw2 hkp3) (hKb _ _ _ (by omega) (by omega))), .inr ⟨rfl, hX.putObj (s := ()) _ hi3 (by omega) hl3 rfl, ?_, (World.putObj_heap_other (by omega)).trans (hk3.same _ _ (Nat.le_refl _) hk2 rfl)⟩⟩
        rw [hrec]
        exact World.putObj_heap_same (Array.getElem?_eq_some_iff.1 hl3).1
      | exit id => exact hp.elim
      | goto t => exact hp.elim
      | panic ch => exact hp.elim
      | outgrown => exact hp.elim
    case behind =>
      rintro e W2 ⟨⟨v, rfl⟩, ⟨hi, hl, hk⟩ | ⟨hi, hl, hk⟩⟩
      · have hend := run_endLoop (P := P) hl (by rw [hrec]; simp)
        rw [hrec] at hend
        exact ⟨none, _, hend, hdone _ _ rfl (hI.putObj _ hi (by omega) hl rfl) ((World.putObj_heap_other (by omega)).trans hk)⟩
      · have hend := run_endLoop (P := P) hl (by rw [hrec]; simp)
        rw [hrec] at hend
        exact ⟨some .ret, _, hend, hstop _ _ rfl (hX.putObj (s := ()) _ hi (by omega) hl rfl) ((World.putObj_heap_other (by omega)).trans hk)⟩
end Go.Proofs.Ytohdijhpoddbbaa
/-
  Blocks of lines, without a program: which lines are empty, the blocks as one goes through where lines start, the block of a line, and where motions by paragraphs lead.
-/
namespace Go.Proofs.Ytohdijhpoddbbaa
namespace Para
/-- Is line j empty; where does it start? -/
def emp (s : List UInt8) (j : Nat) : Bool := match (Line.L s)[j]? with | some x => decide (x.1 = x.2) | none => false
def at_ (s : List UInt8) (j : Nat) : Nat := match (Line.L s)[j]? with | some x => x.1 | none => 0
/-- Is the line that starts at x empty? -/
def bare (s : List UInt8) (x : Nat) : Bool := decide (x = s.length ∨ s[x]? = some 10)
theorem emp_at {s : List UInt8} {j : Nat} {x : Nat × Nat} (h : (Line.L s)[j]? = some x) : emp s j = decide (x.1 = x.2) := by rw [emp, h]
theorem at_at {s : List UInt8} {j : Nat} {x : Nat × Nat} (h : (Line.L s)[j]? = some x) : at_ s j = x.1 := by rw [at_, h]
theorem bare_emp {s : List UInt8} {j : Nat} {x : Nat × Nat} (h : (Line.L s)[j]? = some x) : bare s x.1 = emp s j := by
  rw [emp_at h, bare]
  have W := Line.L_whole (Line.L_valid h)
  obtain ⟨_, h1, h2, h3⟩ := W.each j x h
  by_cases he : x.1 = x.2
  · have : x.1 = s.length ∨ s[x.1]? = some 10 := by
      cases hy : (Line.L s)[j + 1]? with
      | none => exact .inl (he.trans (W.last j x h hy))
      | some y => exact .inr (he ▸ (W.more j x y h hy).2)
    rw [decide_eq_true this, decide_eq_true he]
  · have : ¬ (x.1 = s.length ∨ s[x.1]? = some 10) := by
      rintro (h4 | h4)
      · omega
      · exact h3 x.1 (Nat.le_refl _) (by omega) h4
    rw [decide_eq_false this, decide_eq_false he]
/-- A block: is it empty, its first and last line, and where these start. -/
structure Bl where
  e : Bool
  f : Nat
  l : Nat
  fa : Nat
  la : Nat
/-- One line more. -/
def step (s : List UInt8) (r : List Bl × Bl × Nat) (x : Nat) : List Bl × Bl × Nat :=
  if bare s x = r.2.1.e then (r.1, { r.2.1 with l := r.2.2, la := x }, r.2.2 + 1) else (r.1 ++ [r.2.1], ⟨!r.2.1.e, r.2.2, r.2.2, x, x⟩, r.2.2 + 1)
def run (s : List UInt8) (pre : List Nat) : List Bl × Bl × Nat := pre.foldl (step s) ([], ⟨bare s 0, 0, 0, 0, 0⟩, 0)
theorem run_nil (s : List UInt8) : run s [] = ([], ⟨bare s 0, 0, 0, 0, 0⟩, 0) := rfl
theorem run_snoc (s : List UInt8) (pre : List Nat) (x : Nat) : run s (pre ++ [x]) = step s (run s pre) x := by rw [run, run, List.foldl_append]; rfl
theorem run_count (s : List UInt8) (pre : List Nat) : (run s pre).2.2 = pre.length := by
  obtain ⟨n, hn⟩ : ∃ n, pre.length = n := ⟨_, rfl⟩
  induction n generalizing pre with
  | zero => rw [List.length_eq_zero_iff.1 hn]; rfl
  | succ n ih =>
    rcases List.eq_nil_or_concat pre with rfl | ⟨q, x, rfl⟩
    · cases hn
    · rw [List.concat_eq_append] at hn ⊢
      rw [List.length_append, List.length_singleton] at hn
      have := ih q (by omega)
      rw [run_snoc, step]
      split <;> · simp [this]
theorem run_le (s : List UInt8) (pre : List Nat) : (run s pre).1.length ≤ pre.length := by
  obtain ⟨n, hn⟩ : ∃ n, pre.length = n := ⟨_, rfl⟩
  induction n generalizing pre with
  | zero => rw [List.length_eq_zero_iff.1 hn]; simp [run]
  | succ n ih =>
    rcases List.eq_nil_or_concat pre with rfl | ⟨q, x, rfl⟩
    · cases hn
    · rw [List.concat_eq_append] at hn ⊢
      rw [List.length_append, List.length_singleton] at hn
      have := ih q (by omega)
      rw [run_snoc, step, List.length_append]
      split <;> simp <;> omega
theorem step_prefix (s : List UInt8) (r : List Bl × Bl × Nat) (x : Nat) : r.1 <+: (step s r x).1 := by
  rw [step]; split
  · exact List.prefix_refl _
  · exact List.prefix_append _ _
theorem fold_prefix (s : List UInt8) (t : List Nat) (r : List Bl × Bl × Nat) : r.1 <+: (t.foldl (step s) r).1 := by
  induction t generalizing r with
  | nil => exact List.prefix_refl _
  | cons x t ih => exact (step_prefix s r x).trans (ih _)
theorem run_prefix {s : List UInt8} {pre L : List Nat} (h : pre <+: L) : (run s pre).1 <+: (run s L).1 := by
  obtain ⟨t, rfl⟩ := h
  rw [run, run, List.foldl_append]
  exact fold_prefix s t _
/-- Where lines start. -/
def S (s : List UInt8) : List Nat := (Line.L s).map fun x => x.1
/-- All blocks. -/
def all (s : List UInt8) : List Bl := (run s (S s)).1 ++ [(run s (S s)).2.1]
theorem all_length (s : List UInt8) : (all s).length ≤ s.length + 2 := by
  have h1 := run_le s (S s)
  have h2 := Line.L_length s
  rw [S, List.length_map] at h1
  rw [all, List.length_append, List.length_singleton, S]
  omega

/-- What a block is, of lines that are empty as E tells and start as A tells. -/
structure Good (E : Nat → Bool) (A : Nat → Nat) (b : Bl) : Prop where
  le : b.f ≤ b.l
  same : ∀ j, b.f ≤ j → j ≤ b.l → E j = b.e
  fa : b.fa = A b.f
  la : b.la = A b.l
  ahead : b.f = 0 ∨ E (b.f - 1) = !b.e
structure Inv (E : Nat → Bool) (A : Nat → Nat) (r : List Bl × Bl × Nat) : Prop where
  good : Good E A r.2.1
  last : r.2.1.l + 1 = r.2.2
  each : ∀ x ∈ r.1, Good E A x ∧ E (x.l + 1) = !x.e ∧ x.l < r.2.1.f
  cover : ∀ j, j < r.2.1.f → ∃ x ∈ r.1, x.f ≤ j ∧ j ≤ x.l
  sorted : r.1.Pairwise fun x y => x.l < y.f
theorem Inv.step {s : List UInt8} {E : Nat → Bool} {A : Nat → Nat} {r : List Bl × Bl × Nat} (h : Inv E A r) {x : Nat} (hx : x = A r.2.2) (he : bare s x = E r.2.2) : Inv E A (step s r x) := by
  obtain ⟨out, b, k⟩ := r
  obtain ⟨hg, hl, hc, hv, hs⟩ := h
  dsimp only at *
  rw [Para.step]
  dsimp only
  by_cases hb : bare s x = b.e
  · rw [if_pos hb]
    refine ⟨⟨by show b.f ≤ k; have := hg.le; omega, fun j h1 h2 => ?_, hg.fa, hx, hg.ahead⟩, rfl, hc, hv, hs⟩
    rcases Nat.lt_or_ge b.l j with h3 | h3
    · have : j = k := by simp only at h2; omega
      rw [this, ← he, hb]
    · exact hg.same j h1 h3
  · rw [if_neg hb]
    have hne : bare s x = !b.e := by cases h1 : bare s x <;> cases h2 : b.e <;> simp_all
    refine ⟨⟨Nat.le_refl _, fun j h1 h2 => ?_, hx, hx, ?_⟩, rfl, fun y hy => ?_, fun j hj => ?_, ?_⟩
    · have : j = k := by simp only at h1 h2; omega
      rw [this, ← he, hne]
    · refine .inr ?_
      show E (k - 1) = !!b.e
      rw [show k - 1 = b.l by omega, hg.same b.l hg.le (Nat.le_refl _), Bool.not_not]
    · rcases List.mem_append.1 hy with h1 | h1
      · obtain ⟨q1, q2, q3⟩ := hc y h1
        exact ⟨q1, q2, by show y.l < k; have := hg.le; omega⟩
      · rw [List.mem_singleton] at h1
        subst h1
        refine ⟨hg, ?_, by show y.l < k; omega⟩
        rw [hl, ← he, hne]
    · simp only at hj
      rcases Nat.lt_or_ge j b.f with h1 | h1
      · obtain ⟨y, hy, h2⟩ := hv j h1
        exact ⟨y, List.mem_append_left _ hy, h2⟩
      · exact ⟨b, List.mem_append_right _ (List.mem_singleton.2 rfl), h1, by omega⟩
    · rw [List.pairwise_append]
      refine ⟨hs, List.pairwise_singleton _ _, fun y hy z hz => ?_⟩
      rw [List.mem_singleton] at hz
      subst hz
      exact (hc y hy).2.2
theorem run_inv {s : List UInt8} (hv : Utf.valid s = true) (k : Nat) (hk : k < (Line.L s).length) : Inv (emp s) (at_ s) (run s ((S s).take (k + 1))) := by
  have hx : ∀ j, j < (Line.L s).length → ∃ x, (Line.L s)[j]? = some x ∧ (S s).take (j + 1) = (S s).take j ++ [x.1] := fun j hj => by
    refine ⟨(Line.L s)[j], List.getElem?_eq_getElem hj, ?_⟩
    rw [List.take_add_one]
    simp [S, List.getElem?_map, List.getElem?_eq_getElem hj]
  induction k with
  | zero =>
    obtain ⟨x, h1, h2⟩ := hx 0 hk
    obtain ⟨z, hz, h0⟩ := (Line.L_whole hv).head
    rw [hz] at h1; cases h1
    rw [h2, List.take_zero, run_snoc, run_nil, step, h0, if_pos rfl]
    have e0 := bare_emp hz
    have a0 := at_at hz
    rw [h0] at e0 a0
    refine ⟨⟨Nat.le_refl _, fun j h3 h4 => ?_, a0.symm, a0.symm, .inl rfl⟩, rfl, fun y hy => (by cases hy), fun j hj => absurd hj (Nat.not_lt_zero _), List.Pairwise.nil⟩
    have : j = 0 := by simp only at h4; omega
    rw [this]; exact e0.symm
  | succ k ih =>
    obtain ⟨x, h1, h2⟩ := hx (k + 1) hk
    rw [h2, run_snoc]
    have hc : (run s ((S s).take (k + 1))).2.2 = k + 1 := by rw [run_count, List.length_take, S, List.length_map]; omega
    refine (ih (by omega)).step ?_ ?_
    · rw [hc, at_at h1]
    · rw [hc, bare_emp h1]
/-- What all blocks are. -/
structure Right (E : Nat → Bool) (A : Nat → Nat) (B : List Bl) (m : Nat) : Prop where
  each : ∀ x ∈ B, Good E A x ∧ x.l < m ∧ (x.l + 1 = m ∨ E (x.l + 1) = !x.e)
  cover : ∀ j, j < m → ∃ x ∈ B, x.f ≤ j ∧ j ≤ x.l
  sorted : B.Pairwise fun x y => x.l < y.f
theorem all_right {s : List UInt8} (hv : Utf.valid s = true) : Right (emp s) (at_ s) (all s) (Line.L s).length := by
  have hp := (Line.L_whole hv).pos
  have I := run_inv hv ((Line.L s).length - 1) (by omega)
  rw [show (Line.L s).length - 1 + 1 = (Line.L s).length by omega, List.take_of_length_le (by rw [S, List.length_map]; exact Nat.le_refl _)] at I
  have hc : (run s (S s)).2.2 = (Line.L s).length := by rw [run_count, S, List.length_map]
  have hl := I.last
  rw [hc] at hl
  have hg := I.good.le
  refine ⟨fun x hx => ?_, fun j hj => ?_, ?_⟩
  · rcases List.mem_append.1 hx with h | h
    · obtain ⟨q1, q2, q3⟩ := I.each x h
      exact ⟨q1, by omega, .inr q2⟩
    · rw [List.mem_singleton] at h
      subst h
      exact ⟨I.good, by omega, .inl hl⟩
  · rcases Nat.lt_or_ge j (run s (S s)).2.1.f with h | h
    · obtain ⟨x, hx, h1⟩ := I.cover j h
      exact ⟨x, List.mem_append_left _ hx, h1⟩
    · exact ⟨_, List.mem_append_right _ (List.mem_singleton.2 rfl), h, by omega⟩
  · rw [all, List.pairwise_append]
    refine ⟨I.sorted, List.pairwise_singleton _ _, fun y hy z hz => ?_⟩
    rw [List.mem_singleton] at hz
    subst hz
    exact (I.each y hy).2.2

/-- The block of line k goes from a to b. -/
structure IsBl (E : Nat → Bool) (m k a b : Nat) : Prop where
  le : a ≤ k
  ge : k ≤ b
  lt : b < m
  same : ∀ j, a ≤ j → j ≤ b → E j = E k
  ahead : a = 0 ∨ E (a - 1) ≠ E k
  behind : b + 1 = m ∨ E (b + 1) ≠ E k
theorem IsBl.unique {E : Nat → Bool} {m k a b c d : Nat} (h : IsBl E m k a b) (g : IsBl E m k c d) : a = c ∧ b = d := by
  have h1 : ¬ a < c := fun hlt => by
    rcases g.ahead with e | e
    · omega
    · exact e (h.same (c - 1) (by omega) (by have := g.le; have := h.ge; omega))
  have h2 : ¬ c < a := fun hlt => by
    rcases h.ahead with e | e
    · omega
    · exact e (g.same (a - 1) (by omega) (by have := h.le; have := g.ge; omega))
  have h3 : ¬ b < d := fun hlt => by
    rcases h.behind with e | e
    · have := g.lt; omega
    · exact e (g.same (b + 1) (by have := g.le; have := h.ge; omega) (by omega))
  have h4 : ¬ d < b := fun hlt => by
    rcases g.behind with e | e
    · have := h.lt; omega
    · exact e (h.same (d + 1) (by have := h.le; have := g.ge; omega) (by omega))
  exact ⟨by omega, by omega⟩
/-- The block of each of its lines. -/
theorem IsBl.of_ {E : Nat → Bool} {m k a b j : Nat} (h : IsBl E m k a b) (h1 : a ≤ j) (h2 : j ≤ b) : IsBl E m j a b := by
  have hj := h.same j h1 h2
  exact ⟨h1, h2, h.lt, fun i h3 h4 => (h.same i h3 h4).trans hj.symm, by rw [hj]; exact h.ahead, by rw [hj]; exact h.behind⟩
theorem mem_at {B : List Bl} {i : Nat} {b : Bl} (hi : B[i]? = some b) : b ∈ B := by
  obtain ⟨h1, rfl⟩ := List.getElem?_eq_some_iff.1 hi
  exact List.getElem_mem h1
section
variable {E : Nat → Bool} {A : Nat → Nat} {B : List Bl} {m : Nat} (R : Right E A B m)
include R
theorem Right.is {b : Bl} (hb : b ∈ B) {k : Nat} (h1 : b.f ≤ k) (h2 : k ≤ b.l) : IsBl E m k b.f b.l := by
  obtain ⟨g, hl, hn⟩ := R.each b hb
  have hk := g.same k h1 h2
  refine ⟨h1, h2, hl, fun j h3 h4 => (g.same j h3 h4).trans hk.symm, ?_, ?_⟩
  · rcases g.ahead with e | e
    · exact .inl e
    · exact .inr (by rw [e, hk]; cases b.e <;> simp)
  · rcases hn with e | e
    · exact .inl e
    · exact .inr (by rw [e, hk]; cases b.e <;> simp)
theorem Right.less {i j : Nat} {b c : Bl} (hi : B[i]? = some b) (hj : B[j]? = some c) (h : i < j) : b.l < c.f := by
  obtain ⟨h1, rfl⟩ := List.getElem?_eq_some_iff.1 hi
  obtain ⟨h2, rfl⟩ := List.getElem?_eq_some_iff.1 hj
  exact List.pairwise_iff_getElem.1 R.sorted i j h1 h2 h
theorem Right.find {k : Nat} (hk : k < m) : ∃ (i : Nat) (b : Bl), B[i]? = some b ∧ b.f ≤ k ∧ k ≤ b.l ∧ ∀ (j : Nat) (c : Bl), j < i → B[j]? = some c → c.l < k := by
  obtain ⟨b, hb, h1, h2⟩ := R.cover k hk
  obtain ⟨i, hi, rfl⟩ := List.mem_iff_getElem.1 hb
  exact ⟨i, _, List.getElem?_eq_getElem hi, h1, h2, fun j c hj hc => by have := R.less hc (List.getElem?_eq_getElem hi) hj; omega⟩
theorem Right.next {i : Nat} {b c : Bl} (hi : B[i]? = some b) (hc : B[i + 1]? = some c) : b.l + 1 < m ∧ c.f ≤ b.l + 1 ∧ b.l + 1 ≤ c.l := by
  have h1 := R.less hi hc (by omega)
  have h2 := (R.each c (mem_at hc)).1.le
  have h3 := (R.each c (mem_at hc)).2.1
  obtain ⟨d, hd, h4, h5⟩ := R.cover (b.l + 1) (by omega)
  obtain ⟨j, hj, rfl⟩ := List.mem_iff_getElem.1 hd
  have hjg := List.getElem?_eq_getElem hj
  have hb := (R.each b (mem_at hi)).1.le
  rcases Nat.lt_trichotomy j (i + 1) with h | h | h
  · rcases Nat.lt_or_ge j i with h6 | h6
    · have := R.less hjg hi h6; omega
    · have : j = i := by omega
      subst this
      rw [hjg] at hi; cases hi; omega
  · subst h
    rw [hjg] at hc; cases hc
    exact ⟨by omega, h4, h5⟩
  · have := R.less hc hjg h; omega
theorem Right.end_ {i : Nat} {b : Bl} (hi : B[i]? = some b) (hc : B[i + 1]? = none) : b.l + 1 = m := by
  have h3 := (R.each b (mem_at hi)).2.1
  have hb := (R.each b (mem_at hi)).1.le
  rcases Nat.lt_or_ge (b.l + 1) m with h | h
  · obtain ⟨d, hd, h4, h5⟩ := R.cover (b.l + 1) h
    obtain ⟨j, hj, rfl⟩ := List.mem_iff_getElem.1 hd
    have hjg := List.getElem?_eq_getElem hj
    have hlen := List.getElem?_eq_none_iff.1 hc
    rcases Nat.lt_or_ge j i with h6 | h6
    · have := R.less hjg hi h6; omega
    · have : j = i := by omega
      subst this
      rw [hjg] at hi; cases hi; omega
  · omega
theorem Right.prev {i : Nat} {b c : Bl} (hi : B[i + 1]? = some b) (hc : B[i]? = some c) : 0 < b.f ∧ c.f ≤ b.f - 1 ∧ b.f - 1 ≤ c.l := by
  have h1 := R.less hc hi (by omega)
  obtain ⟨h2, h3, h4⟩ := R.next hc hi
  have := (R.each c (mem_at hc)).1.le
  exact ⟨by omega, by omega, by omega⟩
theorem Right.first {b : Bl} (hi : B[0]? = some b) : b.f = 0 := by
  rcases Nat.eq_zero_or_pos b.f with h | h
  · exact h
  · have h3 := (R.each b (mem_at hi)).2.1
    have hb := (R.each b (mem_at hi)).1.le
    obtain ⟨d, hd, h4, h5⟩ := R.cover (b.f - 1) (by omega)
    obtain ⟨j, hj, rfl⟩ := List.mem_iff_getElem.1 hd
    have hjg := List.getElem?_eq_getElem hj
    rcases Nat.eq_zero_or_pos j with h6 | h6
    · subst h6
      rw [hjg] at hi; cases hi; omega
    · have := R.less hi hjg h6; omega
end
/-- The block of line k, alone and with another one, out of all blocks. -/
def blockV (B : List Bl) (k : Nat) (two : Bool) : Nat × Nat :=
  match B.findIdx? fun b => decide (k ≤ b.l) with
  | none => (0, 0)
  | some i => match B[i]? with
    | none => (0, 0)
    | some b => if two then (match B[i + 1]? with
        | some c => (b.f, c.l)
        | none => if i = 0 then (b.f, b.l) else match B[i - 1]? with | some c => (c.f, b.l) | none => (0, 0)) else (b.f, b.l)
theorem Right.idx {E : Nat → Bool} {A : Nat → Nat} {B : List Bl} {m : Nat} (R : Right E A B m) {k : Nat} (hk : k < m) : ∃ (i : Nat) (b : Bl), B[i]? = some b ∧ b.f ≤ k ∧ k ≤ b.l ∧ (∀ (j : Nat) (c : Bl), j < i → B[j]? = some c → c.l < k) ∧ (B.findIdx? fun b => decide (k ≤ b.l)) = some i := by
  obtain ⟨i, b, hi, h1, h2, h3⟩ := R.find hk
  refine ⟨i, b, hi, h1, h2, h3, ?_⟩
  obtain ⟨h4, h5⟩ := List.getElem?_eq_some_iff.1 hi
  rw [List.findIdx?_eq_some_iff_getElem]
  refine ⟨h4, by rw [h5]; simp [h2], fun j hj => ?_⟩
  have := h3 j _ hj (List.getElem?_eq_getElem (by omega))
  simp; omega
theorem Right.block {E : Nat → Bool} {A : Nat → Nat} {B : List Bl} {m : Nat} (R : Right E A B m) {k : Nat} (hk : k < m) : IsBl E m k (blockV B k false).1 (blockV B k false).2 := by
  obtain ⟨i, b, hi, h1, h2, _, h4⟩ := R.idx hk
  rw [blockV, h4]
  simp only [hi, Bool.false_eq_true, if_false]
  exact R.is (mem_at hi) h1 h2
theorem Right.block_two {E : Nat → Bool} {A : Nat → Nat} {B : List Bl} {m : Nat} (R : Right E A B m) {k a b : Nat} (h : IsBl E m k a b) :
    (∀ c d, b + 1 < m → IsBl E m (b + 1) c d → blockV B k true = (a, d)) ∧ (∀ c d, b + 1 = m → 0 < a → IsBl E m (a - 1) c d → blockV B k true = (c, b)) ∧ (b + 1 = m → a = 0 → blockV B k true = (a, b)) := by
  obtain ⟨i, x, hi, h1, h2, _, h4⟩ := R.idx (Nat.lt_of_le_of_lt h.ge h.lt)
  obtain ⟨rfl, rfl⟩ := h.unique (R.is (mem_at hi) h1 h2)
  rw [blockV, h4]
  simp only [hi, if_true]
  cases hn : B[i + 1]? with
  | some y =>
    obtain ⟨q1, q2, q3⟩ := R.next hi hn
    refine ⟨fun c d _ hd => ?_, fun c d e => by omega, fun e => by omega⟩
    obtain ⟨rfl, rfl⟩ := hd.unique (R.is (mem_at hn) q2 q3)
    rfl
  | none =>
    have he := R.end_ hi hn
    refine ⟨fun c d e => by omega, fun c d _ e hd => ?_, fun _ e => ?_⟩
    · cases i with
      | zero => have := R.first hi; omega
      | succ i =>
        have hlt := (List.getElem?_eq_some_iff.1 hi).1
        have hz : B[i]? = some B[i] := List.getElem?_eq_getElem (by omega)
        obtain ⟨q1, q2, q3⟩ := R.prev hi hz
        obtain ⟨rfl, rfl⟩ := hd.unique (R.is (mem_at hz) q2 q3)
        simp only [Nat.add_sub_cancel, hz]
        simp
    · cases i with
      | zero => simp
      | succ i =>
        have hlt := (List.getElem?_eq_some_iff.1 hi).1
        have hz : B[i]? = some B[i] := List.getElem?_eq_getElem (by omega)
        have := (R.prev hi hz).1
        omega
end Para
end Go.Proofs.Ytohdijhpoddbbaa
/-
  Motions by paragraphs, without a program: the nth block of empty lines behind a place, or ahead of it; once is the least one; n times is once, n times.
-/
namespace Go.Proofs.Ytohdijhpoddbbaa
namespace Para
/-- The nth of those of P that r tells of p; M: there are not so many. -/
def nth (r : Nat → Nat → Bool) (P : List Nat) (M p n : Nat) : Nat := ((P.filter (r p))[n - 1]?).getD M
structure Ord (r : Nat → Nat → Bool) (P : List Nat) (M : Nat) : Prop where
  irr : ∀ x, r x x = false
  trans : ∀ x y z, r x y = true → r y z = true → r x z = true
  sorted : P.Pairwise fun x y => r x y = true
  top : ∀ x ∈ P, r M x = false
section
variable {r : Nat → Nat → Bool} {P : List Nat} {M : Nat} (O : Ord r P M)
include O
theorem Ord.rest {p a : Nat} {t : List Nat} (h : P.filter (r p) = a :: t) : P.filter (r a) = t := by
  have ha : r p a = true := (List.mem_filter.1 (h ▸ List.mem_cons_self : a ∈ P.filter (r p))).2
  have h1 : P.filter (r a) = (P.filter (r p)).filter (r a) := by
    rw [List.filter_filter]
    refine List.filter_congr fun x _ => ?_
    cases hx : r a x with
    | false => simp
    | true => simp [O.trans _ _ _ ha hx]
  have h2 : (a :: t).Pairwise fun x y => r x y = true := h ▸ List.Pairwise.filter _ O.sorted
  rw [h1, h, List.filter_cons, O.irr, List.filter_eq_self.2 fun x hx => (List.pairwise_cons.1 h2).1 x hx]
  simp
theorem Ord.none_top : P.filter (r M) = [] := List.filter_eq_nil_iff.2 fun x hx => by rw [O.top x hx]; simp
theorem Ord.top_nth (n : Nat) : nth r P M M n = M := by rw [nth, O.none_top]; simp
theorem Ord.nth_succ (p n : Nat) (hn : 1 ≤ n) : nth r P M p (n + 1) = nth r P M (nth r P M p 1) n := by
  cases h : P.filter (r p) with
  | nil =>
    have h1 : ∀ k, nth r P M p k = M := fun k => by rw [nth, h]; simp
    rw [h1, h1, O.top_nth]
  | cons a t =>
    have h1 : nth r P M p 1 = a := by rw [nth, h]; simp
    have h2 : nth r P M p (n + 1) = ((a :: t)[n]?).getD M := by rw [nth, h]; simp
    obtain ⟨k, rfl⟩ : ∃ k, n = k + 1 := ⟨n - 1, by omega⟩
    rw [h1, h2, nth, O.rest h]
    simp
/-- n times, and once more. -/
theorem Ord.nth_more (p n : Nat) (hn : 1 ≤ n) : nth r P M p (n + 1) = nth r P M (nth r P M p n) 1 := by
  induction n generalizing p with
  | zero => omega
  | succ n ih =>
    rcases Nat.eq_zero_or_pos n with rfl | h
    · exact O.nth_succ p 1 (Nat.le_refl _)
    · rw [O.nth_succ p (n + 1) (by omega), ih _ h, ← O.nth_succ p n h]
end
theorem nth_mem (r : Nat → Nat → Bool) (P : List Nat) (M p n : Nat) : (nth r P M p n ∈ P ∧ r p (nth r P M p n) = true) ∨ nth r P M p n = M := by
  rw [nth]
  cases h : (P.filter (r p))[n - 1]? with
  | none => exact .inr rfl
  | some x =>
    obtain ⟨h1, h2⟩ := List.getElem?_eq_some_iff.1 h
    have h3 : x ∈ P.filter (r p) := h2 ▸ List.getElem_mem h1
    exact .inl ⟨(List.mem_filter.1 h3).1, (List.mem_filter.1 h3).2⟩
theorem nth_one {r : Nat → Nat → Bool} {P : List Nat} {M p v : Nat} (h : (v ∈ P ∧ r p v = true ∧ ∀ x ∈ P, r p x = true → r x v = false) ∨ ((∀ x ∈ P, r p x = false) ∧ v = M)) (O : Ord r P M) : nth r P M p 1 = v := by
  rw [nth]
  rcases h with ⟨h1, h2, h3⟩ | ⟨h1, rfl⟩
  · have hm : v ∈ P.filter (r p) := List.mem_filter.2 ⟨h1, h2⟩
    cases h : P.filter (r p) with
    | nil => rw [h] at hm; cases hm
    | cons a t =>
      have ha : a ∈ P.filter (r p) := by rw [h]; exact List.mem_cons_self
      obtain ⟨ha1, ha2⟩ := List.mem_filter.1 ha
      have hp : (a :: t).Pairwise fun x y => r x y = true := h ▸ List.Pairwise.filter _ O.sorted
      rw [h] at hm
      rcases List.mem_cons.1 hm with rfl | hm
      · rfl
      · have := (List.pairwise_cons.1 hp).1 v hm
        rw [h3 a ha1 ha2] at this; cases this
  · rw [List.filter_eq_nil_iff.2 fun x hx => by rw [h1 x hx]; simp]
    rfl

/-- Where blocks of empty lines start; and where their last lines do, the last one first. -/
def ups (s : List UInt8) : List Nat := ((all s).filter fun b => b.e).map Bl.fa
def downs (s : List UInt8) : List Nat := (((all s).filter fun b => b.e).map Bl.la).reverse
def lt_ (x y : Nat) : Bool := decide (x < y)
def gt_ (x y : Nat) : Bool := decide (y < x)
def onN (s : List UInt8) (p n : Nat) : Nat := nth lt_ (ups s) s.length p n
def backN (s : List UInt8) (p n : Nat) : Nat := nth gt_ (downs s) 0 p n
/-- As the program gathers them. -/
def hitsOn (p : Nat) (l : List Bl) : List Nat := (l.filter fun b => b.e && decide (p < b.fa)).map Bl.fa
def hitsBack (p : Nat) (l : List Bl) : List Nat := (l.filter fun b => b.e && decide (b.la < p)).map Bl.la
theorem hitsOn_all (s : List UInt8) (p n : Nat) : onN s p n = ((hitsOn p (all s))[n - 1]?).getD s.length := by
  have h : (ups s).filter (lt_ p) = hitsOn p (all s) := by
    rw [ups, hitsOn, List.filter_map, List.filter_filter]
    congr 1
    exact List.filter_congr fun b _ => by simp [Function.comp, lt_, Bool.and_comm]
  rw [onN, nth, h]
theorem hitsBack_all (s : List UInt8) (p n : Nat) : backN s p n = (((hitsBack p (all s)).reverse)[n - 1]?).getD 0 := by
  have h : (downs s).filter (gt_ p) = (hitsBack p (all s)).reverse := by
    rw [downs, hitsBack, List.filter_reverse, List.filter_map, List.filter_filter]
    congr 2
    exact List.filter_congr fun b _ => by simp [Function.comp, gt_, Bool.and_comm]
  rw [backN, nth, h]
theorem hitsOn_snoc (p : Nat) (l : List Bl) (b : Bl) : hitsOn p (l ++ [b]) = hitsOn p l ++ (if b.e = true ∧ p < b.fa then [b.fa] else []) := by
  rw [hitsOn, List.filter_append, List.map_append, ← hitsOn]
  congr 1
  by_cases h1 : b.e = true
  · by_cases h2 : p < b.fa <;> simp [h1, h2]
  · simp [h1]
theorem hitsBack_snoc (p : Nat) (l : List Bl) (b : Bl) : hitsBack p (l ++ [b]) = hitsBack p l ++ (if b.e = true ∧ b.la < p then [b.la] else []) := by
  rw [hitsBack, List.filter_append, List.map_append, ← hitsBack]
  congr 1
  by_cases h1 : b.e = true
  · by_cases h2 : b.la < p <;> simp [h1, h2]
  · simp [h1]
theorem hitsBack_le (p : Nat) (l : List Bl) : (hitsBack p l).length ≤ l.length := by
  rw [hitsBack, List.length_map]; exact List.length_filter_le _ _
theorem hitsOn_le (p : Nat) (l : List Bl) : (hitsOn p l).length ≤ l.length := by
  rw [hitsOn, List.length_map]; exact List.length_filter_le _ _
/-- What the nth is, as it is found on the way. -/
theorem onN_found {s : List UInt8} {p n : Nat} {pre : List Bl} {b : Bl} (h : pre ++ [b] <+: all s) (hb : b.e = true ∧ p < b.fa) (hn : n = (hitsOn p pre).length + 1) : onN s p n = b.fa := by
  obtain ⟨t, ht⟩ := h
  have h1 : hitsOn p (all s) = hitsOn p pre ++ [b.fa] ++ hitsOn p t := by
    rw [← ht, hitsOn, List.filter_append, List.map_append, ← hitsOn, ← hitsOn, hitsOn_snoc, if_pos hb]
  rw [hitsOn_all, h1, hn, Nat.add_sub_cancel, List.append_assoc, List.getElem?_append_right (Nat.le_refl _)]
  simp
theorem onN_end {s : List UInt8} {p n : Nat} (h : (hitsOn p (all s)).length < n) : onN s p n = s.length := by
  rw [hitsOn_all, List.getElem?_eq_none (by omega)]; rfl
theorem backN_end {s : List UInt8} {p n : Nat} (h : (hitsBack p (all s)).length < n) : backN s p n = 0 := by
  rw [hitsBack_all, List.getElem?_eq_none (by rw [List.length_reverse]; omega)]; rfl
theorem backN_found {s : List UInt8} {p n : Nat} (h1 : 1 ≤ n) (h : n ≤ (hitsBack p (all s)).length) : (hitsBack p (all s))[(hitsBack p (all s)).length - n]? = some (backN s p n) := by
  rw [hitsBack_all, List.getElem?_reverse (by omega)]
  have h2 : (hitsBack p (all s)).length - n < (hitsBack p (all s)).length := by omega
  rw [show (hitsBack p (all s)).length - 1 - (n - 1) = (hitsBack p (all s)).length - n by omega, List.getElem?_eq_getElem h2]
  rfl

/-- Lines start one behind the other. -/
theorem at_lt {s : List UInt8} {j k : Nat} (h : j < k) (hk : k < (Line.L s).length) : at_ s j < at_ s k := by
  have h1 := List.getElem?_eq_getElem (show j < (Line.L s).length by omega)
  have h2 := List.getElem?_eq_getElem hk
  rw [at_at h1, at_at h2]
  have W := Line.L_whole (Line.L_valid h2)
  have := W.mono h1 h2 h
  have := (W.each j _ h1).2.1
  omega
theorem at_zero {s : List UInt8} : at_ s 0 = 0 := by
  cases h : (Line.L s)[0]? with
  | none => rw [at_, h]
  | some x =>
    obtain ⟨z, hz, h0⟩ := (Line.L_whole (Line.L_valid h)).head
    rw [h] at hz; cases hz
    rw [at_at h, h0]
theorem at_le (s : List UInt8) (j : Nat) : at_ s j ≤ s.length := by
  cases h : (Line.L s)[j]? with
  | none => rw [at_, h]; exact Nat.zero_le _
  | some x => rw [at_at h]; have := Line.L_each h; omega
theorem bl_at {s : List UInt8} (hv : Utf.valid s = true) {b : Bl} (h : b ∈ all s) : b.fa = at_ s b.f ∧ b.la = at_ s b.l ∧ b.f ≤ b.l ∧ b.l < (Line.L s).length :=
  let ⟨g, h1, _⟩ := (all_right hv).each b h
  ⟨g.fa, g.la, g.le, h1⟩
theorem ups_ord {s : List UInt8} (hv : Utf.valid s = true) : Ord lt_ (ups s) s.length := by
  refine ⟨fun x => by simp [lt_], fun x y z h1 h2 => by simp [lt_] at *; omega, ?_, fun x hx => ?_⟩
  · rw [ups, List.pairwise_map]
    refine (List.Pairwise.filter _ (all_right hv).sorted).imp_of_mem fun {a b} ha hb h => ?_
    obtain ⟨a1, a2, a3, a4⟩ := bl_at hv (List.mem_filter.1 ha).1
    obtain ⟨b1, b2, b3, b4⟩ := bl_at hv (List.mem_filter.1 hb).1
    rw [lt_, a1, b1]
    exact decide_eq_true (at_lt (by omega) (by omega))
  · rw [ups, List.mem_map] at hx
    obtain ⟨b, hb, rfl⟩ := hx
    rw [lt_, (bl_at hv (List.mem_filter.1 hb).1).1]
    have := at_le s b.f
    exact decide_eq_false (by omega)
theorem downs_ord {s : List UInt8} (hv : Utf.valid s = true) : Ord gt_ (downs s) 0 := by
  refine ⟨fun x => by simp [gt_], fun x y z h1 h2 => by simp [gt_] at *; omega, ?_, fun x _ => by simp [gt_]⟩
  rw [downs, List.pairwise_reverse, List.pairwise_map]
  refine (List.Pairwise.filter _ (all_right hv).sorted).imp_of_mem fun {a b} ha hb h => ?_
  obtain ⟨a1, a2, a3, a4⟩ := bl_at hv (List.mem_filter.1 ha).1
  obtain ⟨b1, b2, b3, b4⟩ := bl_at hv (List.mem_filter.1 hb).1
  rw [gt_, a2, b2]
  exact decide_eq_true (at_lt (by omega) (by omega))
/-- Does an empty line stand behind one that is not; ahead of one that is not? -/
def Hd (s : List UInt8) (j : Nat) : Prop := emp s j = true ∧ emp s (j - 1) = false
def Tl (s : List UInt8) (j : Nat) : Prop := emp s j = true ∧ emp s (j + 1) = false
theorem mem_ups {s : List UInt8} (hv : Utf.valid s = true) {z : Nat} : z ∈ ups s ↔ ∃ j, j < (Line.L s).length ∧ emp s j = true ∧ (j = 0 ∨ emp s (j - 1) = false) ∧ z = at_ s j := by
  have R := all_right hv
  rw [ups, List.mem_map]
  constructor
  · rintro ⟨b, hb, rfl⟩
    obtain ⟨h1, h2⟩ := List.mem_filter.1 hb
    obtain ⟨g, hl, _⟩ := R.each b h1
    have he : b.e = true := h2
    refine ⟨b.f, by have := g.le; omega, by rw [g.same b.f (Nat.le_refl _) g.le, he], ?_, g.fa⟩
    rcases g.ahead with e | e
    · exact .inl e
    · exact .inr (by rw [e, he]; rfl)
  · rintro ⟨j, hj, h1, h2, rfl⟩
    obtain ⟨b, hb, h3, h4⟩ := R.cover j hj
    obtain ⟨g, hl, _⟩ := R.each b hb
    have he : b.e = true := by rw [← g.same j h3 h4, h1]
    have hf : b.f = j := by
      rcases Nat.lt_or_ge b.f j with h | h
      · rcases h2 with h2 | h2
        · omega
        · rw [g.same (j - 1) (by omega) (by omega), he] at h2; cases h2
      · omega
    exact ⟨b, List.mem_filter.2 ⟨hb, he⟩, by rw [g.fa, hf]⟩
theorem mem_downs {s : List UInt8} (hv : Utf.valid s = true) {z : Nat} : z ∈ downs s ↔ ∃ j, j < (Line.L s).length ∧ emp s j = true ∧ (j + 1 = (Line.L s).length ∨ emp s (j + 1) = false) ∧ z = at_ s j := by
  have R := all_right hv
  rw [downs, List.mem_reverse, List.mem_map]
  constructor
  · rintro ⟨b, hb, rfl⟩
    obtain ⟨h1, h2⟩ := List.mem_filter.1 hb
    obtain ⟨g, hl, hn⟩ := R.each b h1
    have he : b.e = true := h2
    refine ⟨b.l, hl, by rw [g.same b.l g.le (Nat.le_refl _), he], ?_, g.la⟩
    rcases hn with e | e
    · exact .inl e
    · exact .inr (by rw [e, he]; rfl)
  · rintro ⟨j, hj, h1, h2, rfl⟩
    obtain ⟨b, hb, h3, h4⟩ := R.cover j hj
    obtain ⟨g, hl, _⟩ := R.each b hb
    have he : b.e = true := by rw [← g.same j h3 h4, h1]
    have hf : b.l = j := by
      rcases Nat.lt_or_ge j b.l with h | h
      · rcases h2 with h2 | h2
        · omega
        · rw [g.same (j + 1) (by omega) (by omega), he] at h2; cases h2
      · omega
    exact ⟨b, List.mem_filter.2 ⟨hb, he⟩, by rw [g.la, hf]⟩
section
variable {s : List UInt8} {k p : Nat} {x : Nat × Nat} (hx : (Line.L s)[k]? = some x) (h1 : x.1 ≤ p) (h2 : p ≤ x.2)
include hx h1 h2
theorem behind_iff {j : Nat} (hj : j < (Line.L s).length) : p < at_ s j ↔ k < j := by
  have hg := List.getElem?_eq_getElem hj
  have W := Line.L_whole (Line.L_valid hx)
  constructor
  · intro h
    rcases Nat.lt_or_ge k j with h3 | h3
    · exact h3
    · have hk := (List.getElem?_eq_some_iff.1 hx).1
      rcases Nat.lt_or_ge j k with h4 | h4
      · have := at_lt h4 hk
        rw [at_at hx] at this; omega
      · obtain rfl : j = k := by omega
        rw [at_at hx] at h; omega
  · intro h
    have := W.mono hx hg h
    rw [at_at hg]; omega
theorem ahead_iff {j : Nat} (hj : j < (Line.L s).length) (he : emp s j = true) : at_ s j < p ↔ j < k := by
  have hg := List.getElem?_eq_getElem hj
  have W := Line.L_whole (Line.L_valid hx)
  have he2 : (Line.L s)[j].1 = (Line.L s)[j].2 := by rw [emp_at hg] at he; exact of_decide_eq_true he
  constructor
  · intro h
    rcases Nat.lt_or_ge j k with h3 | h3
    · exact h3
    · rcases Nat.lt_or_ge k j with h4 | h4
      · have := W.mono hx hg h4
        rw [at_at hg] at h; omega
      · obtain rfl : j = k := by omega
        rw [hx] at hg
        injection hg with hg
        rw [at_at hx] at h
        rw [← hg] at he2
        omega
  · intro h
    have := W.mono hg hx h
    rw [at_at hg]; omega
/-- Once: the least empty line behind that one is not ahead of; the greatest one. -/
theorem onN_one {v : Nat} (h : (∃ j, k < j ∧ j < (Line.L s).length ∧ Hd s j ∧ v = at_ s j ∧ ∀ i, k < i → i < j → ¬ Hd s i) ∨ ((∀ i, k < i → i < (Line.L s).length → ¬ Hd s i) ∧ v = s.length)) : onN s p 1 = v := by
  have hv := Line.L_valid hx
  have B := fun {j : Nat} (hj : j < (Line.L s).length) => behind_iff hx h1 h2 hj
  refine nth_one ?_ (ups_ord hv)
  rcases h with ⟨j, q1, q2, q3, rfl, q4⟩ | ⟨q1, q2⟩
  · refine .inl ⟨(mem_ups hv).2 ⟨j, q2, q3.1, .inr q3.2, rfl⟩, decide_eq_true ((B q2).2 q1), fun z hz hr => ?_⟩
    obtain ⟨i, i1, i2, i3, rfl⟩ := (mem_ups hv).1 hz
    have hki := (B i1).1 (of_decide_eq_true hr)
    have hge : j ≤ i := by
      rcases Nat.lt_or_ge i j with h | h
      · exact absurd ⟨i2, i3.resolve_left (by omega)⟩ (q4 i hki h)
      · exact h
    refine decide_eq_false ?_
    rcases Nat.lt_or_ge j i with h | h
    · have := at_lt h i1; omega
    · obtain rfl : i = j := by omega
      omega
  · refine .inr ⟨fun z hz => decide_eq_false fun hr => ?_, q2⟩
    obtain ⟨i, i1, i2, i3, rfl⟩ := (mem_ups hv).1 hz
    have hki := (B i1).1 hr
    exact q1 i hki i1 ⟨i2, i3.resolve_left (by omega)⟩
theorem backN_one {v : Nat} (h : (∃ j, j < k ∧ Tl s j ∧ v = at_ s j ∧ ∀ i, j < i → i < k → ¬ Tl s i) ∨ ((∀ i, i < k → ¬ Tl s i) ∧ v = 0)) : backN s p 1 = v := by
  have hv := Line.L_valid hx
  have hk := (List.getElem?_eq_some_iff.1 hx).1
  have B := fun {j : Nat} (hj : j < (Line.L s).length) (he : emp s j = true) => ahead_iff hx h1 h2 hj he
  refine nth_one ?_ (downs_ord hv)
  rcases h with ⟨j, q1, q3, rfl, q4⟩ | ⟨q1, q2⟩
  · refine .inl ⟨(mem_downs hv).2 ⟨j, by omega, q3.1, .inr q3.2, rfl⟩, decide_eq_true ((B (by omega) q3.1).2 q1), fun z hz hr => ?_⟩
    obtain ⟨i, i1, i2, i3, rfl⟩ := (mem_downs hv).1 hz
    have hki := (B i1 i2).1 (of_decide_eq_true hr)
    have hge : i ≤ j := by
      rcases Nat.lt_or_ge j i with h | h
      · exact absurd ⟨i2, i3.resolve_left (by omega)⟩ (q4 i h hki)
      · exact h
    refine decide_eq_false ?_
    rcases Nat.lt_or_ge i j with h | h
    · have := at_lt h (by omega : j < (Line.L s).length); omega
    · obtain rfl : i = j := by omega
      omega
  · refine .inr ⟨fun z hz => decide_eq_false fun hr => ?_, q2⟩
    obtain ⟨i, i1, i2, i3, rfl⟩ := (mem_downs hv).1 hz
    have hki := (B i1 i2).1 hr
    exact q1 i hki ⟨i2, i3.resolve_left (by omega)⟩
end
/-- Where a motion leads; on or back. -/
def goN (back : Bool) (s : List UInt8) (p n : Nat) : Nat := match back with | true => backN s p n | false => onN s p n
/-- Where none leads from. -/
def edge (back : Bool) (s : List UInt8) : Nat := match back with | true => 0 | false => s.length
theorem goN_more {s : List UInt8} (hv : Utf.valid s = true) (back : Bool) (p n : Nat) (hn : 1 ≤ n) : goN back s p (n + 1) = goN back s (goN back s p n) 1 := by
  cases back with
  | true => exact (downs_ord hv).nth_more p n hn
  | false => exact (ups_ord hv).nth_more p n hn
theorem goN_edge {s : List UInt8} (hv : Utf.valid s = true) (back : Bool) (n : Nat) : goN back s (edge back s) n = edge back s := by
  cases back with
  | true => exact (downs_ord hv).top_nth n
  | false => exact (ups_ord hv).top_nth n
theorem at_place {s : List UInt8} (hv : Utf.valid s = true) (j : Nat) : Utf.place s (at_ s j : Int) = true := by
  obtain ⟨rs, hd⟩ := Utf.valid_of hv
  cases h : (Line.L s)[j]? with
  | none => rw [at_, h]; exact Line.place_zero hd
  | some x => rw [at_at h]; exact Line.start_ok h
theorem edge_place {s : List UInt8} (hv : Utf.valid s = true) (back : Bool) : Utf.place s (edge back s : Int) = true := by
  obtain ⟨rs, hd⟩ := Utf.valid_of hv
  cases back with
  | true => exact Line.place_zero hd
  | false => exact (Utf.place_iff hd).2 ⟨rs.length, Nat.le_refl _, by rw [Utf.off_top hd (Nat.le_refl _)]; rfl⟩
/-- A target is a place, and lies on, or back. -/
theorem goN_ok {s : List UInt8} (hv : Utf.valid s = true) (back : Bool) (p n : Nat) :
    Utf.place s (goN back s p n : Int) = true ∧ (goN back s p n = edge back s ∨ (if back then goN back s p n < p else p < goN back s p n)) := by
  cases back with
  | true =>
    rcases nth_mem gt_ (downs s) 0 p n with ⟨h1, h2⟩ | h
    · obtain ⟨j, _, _, _, h3⟩ := (mem_downs hv).1 h1
      refine ⟨?_, .inr ?_⟩
      · show Utf.place s ((nth gt_ (downs s) 0 p n : Nat) : Int) = true
        rw [h3]; exact at_place hv j
      · rw [if_pos rfl]; exact of_decide_eq_true h2
    · refine ⟨?_, .inl h⟩
      show Utf.place s ((nth gt_ (downs s) 0 p n : Nat) : Int) = true
      rw [h]; exact edge_place hv true
  | false =>
    rcases nth_mem lt_ (ups s) s.length p n with ⟨h1, h2⟩ | h
    · obtain ⟨j, _, _, _, h3⟩ := (mem_ups hv).1 h1
      refine ⟨?_, .inr ?_⟩
      · show Utf.place s ((nth lt_ (ups s) s.length p n : Nat) : Int) = true
        rw [h3]; exact at_place hv j
      · rw [if_neg (by decide)]; exact of_decide_eq_true h2
    · refine ⟨?_, .inl h⟩
      show Utf.place s ((nth lt_ (ups s) s.length p n : Nat) : Int) = true
      rw [h]; exact edge_place hv false
/-- Which way a key leads. -/
def way (key : List UInt8) : Option Bool := if key = [125] then some false else if key = [123] then some true else none
/-- What a motion answers: -1: none. -/
def goV (s : List UInt8) (p : Int) (key : List UInt8) (n : Int) : Int :=
  if Utf.place s p = true then (match way key with | none => -1 | some back => if p = (edge back s : Nat) then -1 else (goN back s p.toNat (max n 1).toNat : Nat)) else -1
end Para
end Go.Proofs.Ytohdijhpoddbbaa
/-
  Where the lines of a text start, one by one: the iterator; is the line that starts there empty.
-/
namespace Go.Proofs.Ytohdijhpoddbbaa
open Go.RowKit Go.Shelf
attribute [local go_sem] Oper.semAt_some
namespace Para
/-- What is handed on of a line. -/
abbrev encS (x : Nat) : Array Value := #[.int .i64 (x : Nat)]
theorem bare_end {s : List UInt8} : bare s s.length = true := by simp [bare]
theorem bare_in {s : List UInt8} {x : Nat} {b : UInt8} (h : s[x]? = some b) : bare s x = decide (b = 10) := by
  have hl := (List.getElem?_eq_some_iff.1 h).1
  rw [bare, h]
  by_cases hb : b = 10
  · simp [hb]
  · have h1 : ¬ x = s.length := by omega
    simp [hb, h1]
end Para
theorem para_bare (s : ByteArray) (x : Nat) (hx : x ≤ s.size) (w : World) :
    Calls Try.prog 91 #[.string s, .int .i64 (x : Nat)] w fun e w' => e = .returned (.bool (Para.bare s.data.toList x)) ∧ w = w' := by
  have hl := data_len s
  by_cases he : x = s.size
  · have H : Hid (Para.bare s.data.toList x = true) := by show _ = _; rw [he, ← hl]; exact Para.bare_end
    have g1 : ((x : Int) == (s.size : Int)) = true := by simp [he]
    clear he hl
    go_enter Try.func91, Try.ntmps91
    go_wp2
    go_ret
    exact ⟨by rw [H.out]; rfl, rfl⟩
  · have hlt : x < s.size := by omega
    have hg := byte_get s hlt
    have g1 : ((x : Int) == (s.size : Int)) = false := by simp; omega
    have hb := Para.bare_in hg
    by_cases h10 : s[x].toNat = 10
    · have H : Hid (Para.bare s.data.toList x = true) := by
        show _ = _; rw [hb]; exact decide_eq_true (UInt8.toNat_inj.1 h10)
      have g2 : ((s[x].toNat : Int) == 10) = true := by simp [h10]
      clear he hl hb hg h10
      go_enter Try.func91, Try.ntmps91
      go_wp2
      go_ret
      exact ⟨by rw [H.out]; rfl, rfl⟩
    · have H : Hid (Para.bare s.data.toList x = false) := by
        show _ = _; rw [hb]; exact decide_eq_false (fun h => h10 (by rw [h]; rfl))
      have g2 : ((s[x].toNat : Int) == 10) = false := by simp; omega
      clear he hl hb hg h10
      go_enter Try.func91, Try.ntmps91
      go_wp2
      go_ret
      exact ⟨by rw [H.out]; rfl, rfl⟩
theorem para_starts (s : ByteArray) (w : World) :
    Calls Try.prog 92 #[.string s] w fun e w' => e = .returned (.func (.func 97) #[] #[.pointer (some ⟨w.heap.size, 0, none⟩)]) ∧ w' = w.alloc (.cells #[.string s] 9) := by
  go_enter Try.func92, Try.ntmps92
  go_wp2
  go_ret
  exact ⟨rfl, rfl⟩
theorem para_blocks (s : ByteArray) (w : World) :
    Calls Try.prog 72 #[.string s] w fun e w' => e = .returned (.func (.func 90) #[] #[.pointer (some ⟨w.heap.size, 0, none⟩)]) ∧ w' = w.alloc (.cells #[.string s] 9) := by
  go_enter Try.func72, Try.ntmps72
  go_wp2
  go_ret
  exact ⟨rfl, rfl⟩
set_option maxHeartbeats 1000000 in
set_option maxRecDepth 100000 in
theorem para_start_seq (n : Nat) (hn : 1 ≤ n) (tB : Nat) (s : ByteArray) (hs : s.size ≤ 1000000000000) (hv : Utf.valid s.data.toList = true) (w : World) (hT : Boxed w tB 9 (.string s)) :
    SeqUpto Fence.wide n Try.prog 97 #[.pointer (some ⟨tB, 0, none⟩)] Para.encS 0 (Stays 0 [tB]) (Steps 0) (Para.S s.data.toList) w := by
  intro l J X W hW hJ hX hY h0
  have hl := data_len s
  have bT : Boxed W tB 9 (.string s) := (hW.block tB hT.lt).trans hT
  have H0 : Hid (Para.S s.data.toList = [] ++ (Line.lns 0 0 (s.data.toList.drop 0)).map fun x => x.1) := by show _ = _; rw [Para.S, Line.L_ok hv]; rfl
  clear hv hJ hX
  refine callsIn_of_wp Try.func97 rfl trivial ?_ rfl
  simp only [Try.ntmps97, List.size_toArray, List.length_cons, List.length_nil, Nat.reduceAdd, Nat.reduceSub, Array.replicate_succ, Array.replicate_zero, List.push_toArray, List.append_toArray, List.nil_append, List.cons_append]
  gi_wp2
  gi_loopw [3] (fun p wr => ∃ (pre : List Nat) (a : Nat), p = .int .i64 a ∧ a ≤ s.size ∧ Hid (Para.S s.data.toList = pre ++ (Line.lns a a (s.data.toList.drop a)).map fun x => x.1) ∧ J pre wr ∧ W.heap.size ≤ wr.heap.size ∧ Boxed wr tB 9 (.string s))
    (fun p _ => s.size - (intOf p).toNat)
  case atStart => exact ⟨[], 0, rfl, Nat.zero_le _, H0, h0, Nat.le_refl _, bT⟩
  case round =>
    obtain ⟨pre, a, rfl, ha, K, hj, hsz, hbx⟩ := hrel
    clear H0 h0 bT
    have e1 : s.extract a s.size = bs (s.data.toList.drop a) := by
      rw [Lib.extract_eq, List.take_of_length_le (by rw [List.length_drop]; omega)]; rfl
    have ci := Try.strings_IndexByte (s.extract a s.size) 10
    rw [e1, bs_toList, ← e1, show ((10 : Int).toNat.toUInt8) = 10 from rfl] at ci
    clear e1
    have hge := Lib.indexByte_ge (s.data.toList.drop a) 10
    by_cases hi : Lib.indexByte (s.data.toList.drop a) 10 = -1
    · have hL := Line.seq_none (by omega) hi
      have hfull : Hid (Para.S s.data.toList = pre ++ [a]) := by show _ = _; rw [K.out, hL]; rfl
      obtain ⟨fn, tmps, assign, body, hy, hR⟩ := hY pre a wr hj (by rw [hfull.out]; exact List.prefix_refl _) (by omega)
      rw [hi] at ci
      have C := Lib.hid ci
      dsimp only [Para.encS] at hy
      clear ci hi hge hL K hY hj
      gi_wp2
      refine hR.mono ?_
      rintro e W3 ⟨hk3, ⟨rfl, hJ3⟩ | ⟨rfl, hX3⟩⟩
      · have hc3 := (hk3.boxed (.inr (by simp)) hbx).cell
        gi_wp2_with (refine ⟨trivial, ?_⟩; gi_at_call 62; refine (callsIn_wide.2 (C.out _)).mono ?_; rintro e w' ⟨rfl, rfl⟩)
        refine bodyPost_ret (results_none rfl _ _ _) rfl ?_
        exact ⟨⟨_, rfl⟩, .inl (by rw [hfull.out]; exact hJ3)⟩
      · gi_wp2
        go_end0
        exact ⟨⟨_, rfl⟩, .inr hX3⟩
    · obtain ⟨o, ho⟩ : ∃ o : Nat, Lib.indexByte (s.data.toList.drop a) 10 = o := ⟨(Lib.indexByte (s.data.toList.drop a) 10).toNat, by omega⟩
      obtain ⟨hlt, hL⟩ := Line.seq_some ho
      have K2 : Hid (Para.S s.data.toList = (pre ++ [a]) ++ (Line.lns (a + o + 1) (a + o + 1) (s.data.toList.drop (a + o + 1))).map fun x => x.1) := by show _ = _; rw [K.out, hL]; simp
      obtain ⟨fn, tmps, assign, body, hy, hR⟩ := hY pre a wr hj (by rw [K2.out]; exact List.prefix_append _ _) (by omega)
      rw [ho] at ci
      have C := Lib.hid ci
      dsimp only [Para.encS] at hy
      clear ci hi hge hL K hY hj ho
      gi_wp2
      refine hR.mono ?_
      rintro e W3 ⟨hk3, ⟨rfl, hJ3⟩ | ⟨rfl, hX3⟩⟩
      · have hb3 := hk3.boxed (.inr (by simp)) hbx
        have hc3 := hb3.cell
        have hs3 := hk3.size
        gi_wp2_with (refine ⟨trivial, ?_⟩; gi_at_call 62; refine (callsIn_wide.2 (C.out _)).mono ?_; rintro e w' ⟨rfl, rfl⟩)
        go_roundw
        case rel => exact ⟨pre ++ [a], a + o + 1, by go_num, by omega, K2, hJ3, by omega, hb3⟩
        case measure => simp [intOf]; omega
      · gi_wp2
        go_end0
        exact ⟨⟨_, rfl⟩, .inr hX3⟩
end Go.Proofs.Ytohdijhpoddbbaa
/-
  The blocks of lines of a text, one by one: the iterator over them, which goes through where lines start.
-/
namespace Go.Proofs.Ytohdijhpoddbbaa
open Go.RowKit Go.Shelf
attribute [local go_sem] Oper.semAt_some
namespace Para
/-- A block's cells. -/
abbrev cellsB (b : Bl) : Array Value := #[.bool b.e, .int .i64 (b.f : Nat), .int .i64 (b.l : Nat), .int .i64 (b.fa : Nat), .int .i64 (b.la : Nat)]
/-- What is handed on of a block. -/
abbrev encB (b : Bl) : Array Value := #[.agg (cellsB b)]
/-- What the iterator keeps in its boxes, from block m on, and the text in block tB; and what has been handed on. -/
structure At (J : List Bl → World → Prop) (l m tB : Nat) (s : ByteArray) (r : List Bl × Bl × Nat) (W : World) : Prop where
  y : Boxed W m 87 (.func (.yield l) #[] #[])
  b : Blk W (m + 1) 82 (cellsB r.2.1)
  k : Boxed W (m + 1 + 1) 3 (.int .i64 (r.2.2 : Nat))
  t : Boxed W tB 9 (.string s)
  j : J r.1 W
theorem steps_blk {q m : Nat} {A B : World} {b : Nat} {t : TypeId} {cs : Array Value} (h : Steps q m A B) (hb : b < m ∨ m + q ≤ b) (hx : Blk A b t cs) : Blk B b t cs := h.same b _ hx (hb.elim .inl fun h => .inr ⟨h, rfl⟩)
theorem stays_blk {q : Nat} {T : List Nat} {m : Nat} {A B : World} (h : Stays q T m A B) {b : Nat} {t : TypeId} {cs : Array Value} (hb : (m ≤ b ∧ b < m + q) ∨ b ∈ T) (hx : Blk A b t cs) : Blk B b t cs := h.same b _ hx (.inr hb)
theorem stays_boxed {q : Nat} {T : List Nat} {m : Nat} {A B : World} (h : Stays q T m A B) {b : Nat} {t : TypeId} {v : Value} (hb : (m ≤ b ∧ b < m + q) ∨ b ∈ T) (hx : Boxed A b t v) : Boxed B b t v := h.boxed hb hx
theorem Steps.drew' (q m : Nat) (A : World) : Steps q m A A.drew := ⟨rfl, rfl, rfl, Nat.le_refl _, fun _ _ h _ => h⟩
theorem Stays.drew' (q : Nat) (T : List Nat) (m : Nat) (A : World) : Stays q T m A A.drew := ⟨Nat.le_refl _, fun _ _ h _ => h⟩
theorem box_far {W : World} {b : Nat} {t : TypeId} {v : Value} (h : Boxed W b t v) {a : Addr} (hb : b ≠ a.block) (u : Value) : Boxed (W.setCell a u) b t v := (Below.heap_setCell W a u b hb).trans h
theorem far3 {W : World} {b : Nat} {t : TypeId} {v : Value} (h : Boxed W b t v) {a1 a2 a3 : Addr} (h1 : b ≠ a1.block) (h2 : b ≠ a2.block) (h3 : b ≠ a3.block) (u1 u2 u3 : Value) : Boxed (((W.setCell a1 u1).setCell a2 u2).setCell a3 u3) b t v :=
  box_far (box_far (box_far h h1 u1) h2 u2) h3 u3
section
variable {J : List Bl → World → Prop} {l m tB : Nat} {s : ByteArray} {r : List Bl × Bl × Nat} {W W' : World}
theorem At.inner (hJ : ∀ s A B, J s A → Steps 4 m A B → J s B) {m' : Nat} (hm : m + 4 ≤ m') (ht : tB < m) (h : At J l m tB s r W) (hs : Steps 0 m' W W') : At J l m tB s r W' :=
  ⟨hs.boxed (.inl (by omega)) h.y, steps_blk hs (.inl (by omega)) h.b, hs.boxed (.inl (by omega)) h.k, hs.boxed (.inl (by omega)) h.t, hJ _ _ _ h.j (hs.wide (by omega) (.inl rfl))⟩
theorem At.told (h : At J l m tB s r W) (hs : Stays 4 [tB] m W W') {o : List Bl} (hj : J o W') : At J l m tB s (o, r.2) W' :=
  ⟨hs.boxed (.inl (by omega)) h.y, stays_blk hs (.inl (by omega)) h.b, hs.boxed (.inl (by omega)) h.k, hs.boxed (.inr (by simp)) h.t, hj⟩
theorem At.drew (hJ : ∀ s A B, J s A → Steps 4 m A B → J s B) (h : At J l m tB s r W) : At J l m tB s r W.drew := ⟨h.y, h.b, h.k, h.t, hJ _ _ _ h.j (Steps.drew' _ _ _)⟩
/-- The next line is of the block. -/
theorem At.more (hJ : ∀ s A B, J s A → Steps 4 m A B → J s B) (ht : tB < m) {o : List Bl} {b : Bl} {k : Nat} (h : At J l m tB s (o, b, k) W) (x : Nat) :
    At J l m tB s (o, { b with l := k, la := x }, k + 1) (((W.setCell ⟨m + 1, 2, none⟩ (.int .i64 (k : Nat))).setCell ⟨m + 1, 4, none⟩ (.int .i64 (x : Nat))).setCell ⟨m + 1 + 1, 0, none⟩ (.int .i64 ((k : Int) + 1))) :=
  ⟨far3 h.y (by simp) (by simp) (by simp; omega) _ _ _, (((h.b.set_ 2 (.int .i64 (k : Nat))).set_ 4 (.int .i64 (x : Nat))).far (p := ⟨m + 1 + 1, 0, none⟩) (by simp) _ : _),
    ((box_far (box_far h.k (by simp) _) (by simp) _).set (.int .i64 ((k : Int) + 1)) : _), far3 h.t (by simp; omega) (by simp; omega) (by simp; omega) _ _ _,
    hJ _ _ _ (hJ _ _ _ (hJ _ _ _ h.j (Steps.setCell _ (by simp) (by simp))) (Steps.setCell _ (by simp) (by simp))) (Steps.setCell _ (by simp; omega) (by simp))⟩
/-- The next line is of another block. -/
theorem At.anew (hJ : ∀ s A B, J s A → Steps 4 m A B → J s B) (ht : tB < m) {o : List Bl} {b : Bl} {k : Nat} (h : At J l m tB s (o, b, k) W) (x : Nat) :
    At J l m tB s (o, ⟨!b.e, k, k, x, x⟩, k + 1) ((((((((W.setCell ⟨m + 1, 0, none⟩ (.bool !b.e)).setCell ⟨m + 1, 1, none⟩ (.int .i64 (k : Nat))).setCell ⟨m + 1, 2, none⟩ (.int .i64 0)).setCell ⟨m + 1, 3, none⟩ (.int .i64 (x : Nat))).setCell ⟨m + 1, 4, none⟩ (.int .i64 0)).setCell ⟨m + 1, 2, none⟩ (.int .i64 (k : Nat))).setCell ⟨m + 1, 4, none⟩ (.int .i64 (x : Nat))).setCell ⟨m + 1 + 1, 0, none⟩ (.int .i64 ((k : Int) + 1))) :=
  ⟨box_far (box_far (box_far (box_far (box_far (box_far (box_far (box_far h.y (by simp) _) (by simp) _) (by simp) _) (by simp) _) (by simp) _) (by simp) _) (by simp) _) (by simp; omega) _, ((((((((h.b.set_ 0 (.bool !b.e)).set_ 1 (.int .i64 (k : Nat))).set_ 2 (.int .i64 0)).set_ 3 (.int .i64 (x : Nat))).set_ 4 (.int .i64 0)).set_ 2 (.int .i64 (k : Nat))).set_ 4 (.int .i64 (x : Nat))).far (p := ⟨m + 1 + 1, 0, none⟩) (by simp) _ : _),
    ((box_far (box_far (box_far (box_far (box_far (box_far (box_far h.k (by simp) _) (by simp) _) (by simp) _) (by simp) _) (by simp) _) (by simp) _) (by simp) _).set (.int .i64 ((k : Int) + 1)) : _), box_far (box_far (box_far (box_far (box_far (box_far (box_far (box_far h.t (by simp; omega) _) (by simp; omega) _) (by simp; omega) _) (by simp; omega) _) (by simp; omega) _) (by simp; omega) _) (by simp; omega) _) (by simp; omega) _,
    hJ _ _ _ (hJ _ _ _ (hJ _ _ _ (hJ _ _ _ (hJ _ _ _ (hJ _ _ _ (hJ _ _ _ (hJ _ _ _ h.j (Steps.setCell _ (by simp) (by simp))) (Steps.setCell _ (by simp) (by simp))) (Steps.setCell _ (by simp) (by simp))) (Steps.setCell _ (by simp) (by simp))) (Steps.setCell _ (by simp) (by simp))) (Steps.setCell _ (by simp) (by simp))) (Steps.setCell _ (by simp) (by simp))) (Steps.setCell _ (by simp; omega) (by simp))⟩
end
/-- What a round of the inner loop keeps. -/
def Kept (m n : Nat) (W W' : World) : Prop := KeepsFrom n W W' ∧ Stays 0 [m + 1 + 1 + 1] (n + 2) W W'
theorem Kept.of {m n tB : Nat} {W W' : World} (h : Stays 4 [tB] m W W') (hn : n = m + 4) : Kept m n W W' :=
  ⟨h.from (by omega), h.inner (by omega) rfl (by intro k hk; simp at hk; omega)⟩
theorem Kept.refl (m n : Nat) (W : World) : Kept m n W W := ⟨KeepsFrom.refl _ _, Stays.refl _ _ _ _⟩
theorem Kept.drew {m n : Nat} {W W' : World} (h : Kept m n W W') : Kept m n W W'.drew := ⟨h.1.trans ⟨Nat.le_refl _, fun _ _ _ k _ => k⟩, h.2.trans (Stays.drew' _ _ _ _)⟩
theorem Kept.set {m n : Nat} {W W' : World} (h : Kept m n W W') (a : Addr) (h1 : a.block < m + 3) (hn : n = m + 4) (v : Value) : Kept m n W (W'.setCell a v) :=
  ⟨h.1.trans ((KeepsOthers.setCell W' a v).from n), h.2.trans (Stays.setCell W' a v (by omega) (by simp; omega))⟩
theorem Kept.trans {m n : Nat} {A B C : World} (h : Kept m n A B) (k : Kept m n B C) : Kept m n A C := ⟨h.1.trans k.1, h.2.trans k.2⟩
end Para
set_option maxHeartbeats 1000000 in
set_option maxRecDepth 100000 in
theorem para_block_seq (n : Nat) (tB : Nat) (s : ByteArray) (hs : s.size ≤ 1000000000000) (hv : Utf.valid s.data.toList = true) (w : World) (hT : Boxed w tB 9 (.string s)) :
    SeqUpto Fence.wide n Try.prog 90 #[.pointer (some ⟨tB, 0, none⟩)] Para.encB 4 (Stays 4 [tB]) (Steps 4) (Para.all s.data.toList) w := by
  intro l J X W hW hJ hX hY h0
  have hlt := Nat.lt_of_lt_of_le hT.lt hW.size
  have bT : Boxed W tB 9 (.string s) := (hW.block tB hT.lt).trans hT
  have c1 := Lib.hid (fun w => para_bare s 0 (Nat.zero_le _) w)
  have c2 := Lib.hid (fun w => para_starts s w)
  refine callsIn_wide.2 (callsIn_wide.1 (?_ : CallsIn Fence.wide 6 _ _ _ _ _))
  refine callsIn_of_wp_marks Try.func90 rfl trivial ?_ rfl
  simp only [Try.ntmps90, List.size_toArray, List.length_cons, List.length_nil, Nat.reduceAdd, Nat.reduceSub, Array.replicate_succ, Array.replicate_zero, List.push_toArray, List.append_toArray, List.nil_append, List.cons_append]
  obtain ⟨e0, he0⟩ : ∃ e, Para.bare s.data.toList 0 = e := ⟨_, rfl⟩
  rw [he0] at c1
  have H0 := Lib.hid he0
  clear he0
  have b0 := ((Boxed.new W 87 (.func (.yield l) #[] #[])).alloc (.cells #[.bool e0, .int .i64 0, .int .i64 0, .int .i64 0, .int .i64 0] 82)).alloc (.cells #[.int .i64 0] 3)
  have b1 := (Blk.new (W.alloc (.cells #[.func (.yield l) #[] #[]] 87)) 82 #[.bool e0, .int .i64 0, .int .i64 0, .int .i64 0, .int .i64 0]).alloc (.cells #[.int .i64 0] 3)
  have b2 := Boxed.new ((W.alloc (.cells #[.func (.yield l) #[] #[]] 87)).alloc (.cells #[.bool e0, .int .i64 0, .int .i64 0, .int .i64 0, .int .i64 0] 82)) 3 (.int .i64 0)
  have hB := (((Below.refl W.heap.size W).alloc (Nat.le_refl _) (.cells #[.func (.yield l) #[] #[]] 87)).alloc (by simp) (.cells #[.bool e0, .int .i64 0, .int .i64 0, .int .i64 0, .int .i64 0] 82)).alloc (by simp; omega) (.cells #[.int .i64 0] 3)
  have bT3 := ((bT.alloc (.cells #[.func (.yield l) #[] #[]] 87)).alloc (.cells #[.bool e0, .int .i64 0, .int .i64 0, .int .i64 0, .int .i64 0] 82)).alloc (.cells #[.int .i64 0] 3)
  simp only [World.size_alloc] at b1 b2
  have cT1 := (bT.alloc (.cells #[.func (.yield l) #[] #[]] 87)).cell
  have cT3 := bT3.cell
  have HA := Lib.hid (And.intro hB (And.intro b0 (And.intro b1 (And.intro b2 bT3))))
  clear hB b0 b1 b2 bT3 bT hT
  gi_wp2_with (refine ⟨trivial, ?_⟩; (first
    | (gi_at_call 91; refine (callsIn_wide.2 (c1.out _)).mono ?_; rintro e w' ⟨rfl, rfl⟩)
    | (gi_at_call 92; refine (callsIn_wide.2 (c2.out _)).mono ?_; rintro e w' ⟨rfl, rfl⟩)))
  obtain ⟨hB, b0, b1, b2, bT3⟩ := HA.out
  clear HA cT1 cT3 c1 c2
  have bS := Boxed.new (((W.alloc (.cells #[.func (.yield l) #[] #[]] 87)).alloc (.cells #[.bool e0, .int .i64 0, .int .i64 0, .int .i64 0, .int .i64 0] 82)).alloc (.cells #[.int .i64 0] 3)) 9 (.string s)
  have hB4 := hB.alloc (by simp; omega) (.cells #[.string s] 9)
  have hA0 : Para.At J l W.heap.size tB s (Para.run s.data.toList []) ((((W.alloc (.cells #[.func (.yield l) #[] #[]] 87)).alloc (.cells #[.bool e0, .int .i64 0, .int .i64 0, .int .i64 0, .int .i64 0] 82)).alloc (.cells #[.int .i64 0] 3)).alloc (.cells #[.string s] 9)) := by
    rw [Para.run_nil, H0.out]
    exact ⟨b0.alloc _, b1.alloc _, b2.alloc _, bT3.alloc _, hJ _ _ _ h0 (Steps.of_below 4 hB4 (Nat.le_refl _))⟩
  have hz : ((((W.alloc (.cells #[.func (.yield l) #[] #[]] 87)).alloc (.cells #[.bool e0, .int .i64 0, .int .i64 0, .int .i64 0, .int .i64 0] 82)).alloc (.cells #[.int .i64 0] 3)).alloc (.cells #[.string s] 9)).heap.size = W.heap.size + 4 := by simp
  clear hB hB4 b0 b1 b2 bT3 h0
  simp only [World.size_alloc] at bS
  generalize (((W.alloc (.cells #[.func (.yield l) #[] #[]] 87)).alloc (.cells #[.bool e0, .int .i64 0, .int .i64 0, .int .i64 0, .int .i64 0] 82)).alloc (.cells #[.int .i64 0] 3)).alloc (.cells #[.string s] 9) = w4 at *
  have hxs := Lib.hid (fun x (hx : x ≤ s.size) w => para_bare s x hx w)
  refine wpIn_seqUpto rfl (by decide) (gf := 97) (lb := #[.pointer (some ⟨W.heap.size + 1 + 1 + 1, 0, none⟩)]) rfl trivial (enters_of Try.func97 (by kernel_rfl) rfl)
    (para_start_seq _ (by decide) (W.heap.size + 1 + 1 + 1) s hs hv w4 bS) (fun _ _ _ h k o hk ho _ => h.block k o hk ho) (fun h k => h.trans k)
    (fun W2 l2 o h1 h2 => Stays.putObj (n := w4.heap.size) (by intro k hk; simp at hk; omega) W2 l2 o h1 h2) (fun _ _ h => h.size) (Below.refl _ _) (fun _ => rfl)
    (fun pre Wr => Para.At J l W.heap.size tB s (Para.run s.data.toList pre) Wr) X
    (steps_own (q := 0) (m := w4.heap.size) (fun _ _ _ h hs => h.inner hJ (by omega) hlt hs) (Nat.le_refl _)) (steps_own (q := 0) (m := w4.heap.size) (fun _ A B h hs => hX A B h (hs.wide (by omega) (.inl rfl))) (Nat.le_refl _))
    (fun _ _ _ h hs => h.inner hJ (by omega) hlt hs) (fun A B h hs => hX A B h (hs.wide (by omega) (.inl rfl))) hA0
    (fun x a' _ => a' = { tmps := #[.func (.yield l) #[] #[], .pointer (some ⟨tB, 0, none⟩), .pointer (some ⟨W.heap.size, 0, none⟩), .pointer (some ⟨W.heap.size + 1, 0, none⟩), .pointer (some ⟨W.heap.size + 1 + 1, 0, none⟩), .int .i64 (x : Nat), .string s, .bool e0, .agg #[.bool e0, .int .i64 0, .int .i64 0, .int .i64 0, .int .i64 0], .string s, .func (.func 97) #[] #[.pointer (some ⟨W.heap.size + 1 + 1 + 1, 0, none⟩)], .int .i64 (x : Nat), undef, undef, undef, undef, undef, undef, undef, undef, undef, undef, undef, undef, undef, undef, undef, undef, undef, undef, undef, undef, undef, undef, undef, undef, undef], defers := [] })
    (fun _ _ _ _ _ _ hs _ _ => hs) ?assign ?body ?done ?stop
  case assign =>
    intro l2 pre x W2 K hi _ _ hK
    have hK2 := hK _ _ (KeepsFrom.refl _ _) (Stays.refl _ _ _ _) hi rfl
    gi_wp2
    exact hK2
  case body =>
    rintro l2 pre x a' Wr hAt rfl hpre hsz
    have hrun := Para.run_snoc s.data.toList pre x
    have hxle : x ≤ s.size := by
      have h1 : x ∈ Para.S s.data.toList := hpre.subset (List.mem_append_right _ (List.mem_singleton.2 rfl))
      obtain ⟨y, hy, rfl⟩ := List.mem_map.1 h1
      obtain ⟨j, hj, rfl⟩ := List.mem_iff_getElem.1 hy
      have := Line.L_each (List.getElem?_eq_getElem hj)
      have := data_len s
      omega
    have hk9 : (Para.run s.data.toList pre).2.2 + 1 ≤ 1000000000002 := by
      rw [Para.run_count]
      have h1 := hpre.length_le
      have h2 := Line.L_length s.data.toList
      rw [List.length_append, List.length_singleton, Para.S, List.length_map] at h1
      rw [data_len] at h2
      omega
    have hpre2 : (Para.run s.data.toList (pre ++ [x])).1 <+: (Para.run s.data.toList (Para.S s.data.toList)).1 := Para.run_prefix hpre
    have c := hxs.out x hxle
    clear hxs
    have HJ := Lib.hid hJ
    clear hJ
    generalize Para.run s.data.toList pre = r at *
    obtain ⟨o, b, k⟩ := r
    dsimp only at hk9
    have cy := hAt.y.cell
    have ct := hAt.t.cell
    have ck := hAt.k.cell
    have fk := hAt.k.frozen
    have ce : Wr.cell? ⟨W.heap.size + 1, 0, none⟩ = some (.bool b.e) := hAt.b.cell 0
    have c1 : Wr.cell? ⟨W.heap.size + 1, 1, none⟩ = some (.int .i64 (b.f : Nat)) := hAt.b.cell 1
    have c2 : Wr.cell? ⟨W.heap.size + 1, 2, none⟩ = some (.int .i64 (b.l : Nat)) := hAt.b.cell 2
    have c3 : Wr.cell? ⟨W.heap.size + 1, 3, none⟩ = some (.int .i64 (b.fa : Nat)) := hAt.b.cell 3
    have c4 : Wr.cell? ⟨W.heap.size + 1, 4, none⟩ = some (.int .i64 (b.la : Nat)) := hAt.b.cell 4
    have f0 := hAt.b.frozen 0
    have f1 := hAt.b.frozen 1
    have f2 := hAt.b.frozen 2
    have f3 := hAt.b.frozen 3
    have f4 := hAt.b.frozen 4
    dsimp only at ck
    obtain ⟨e, hbe⟩ : ∃ e, b.e = e := ⟨_, rfl⟩
    obtain ⟨z, hbz⟩ : ∃ z, Para.bare s.data.toList x = z := ⟨_, rfl⟩
    rw [hbz] at c
    have C := Lib.hid c
    clear c
    cases e with
    | true =>
      rw [hbe] at ce
      cases z with
      | true =>
        have hX : Para.run s.data.toList (pre ++ [x]) = (o, { b with l := k, la := x }, k + 1) := by rw [hrun, Para.step]; simp [hbe, hbz]
        have bk := Para.box_far (Para.box_far hAt.k (a := ⟨W.heap.size + 1, 2, none⟩) (by simp) (.int .i64 (k : Nat))) (a := ⟨W.heap.size + 1, 4, none⟩) (by simp) (.int .i64 (x : Nat))
        have ck2 := bk.cell
        have fk2 := bk.frozen
        dsimp only at ck2
        have HP := Lib.hid (And.intro hAt hX)
        clear hAt hX hrun hpre hpre2 hY hbe hbz bk
        gi_wp2
        refine wpIn_mono (Q := fun e a' w' => e = .normal ∧ a' = { tmps := #[.func (.yield l) #[] #[], .pointer (some ⟨tB, 0, none⟩), .pointer (some ⟨W.heap.size, 0, none⟩), .pointer (some ⟨W.heap.size + 1, 0, none⟩), .pointer (some ⟨W.heap.size + 1 + 1, 0, none⟩), .int .i64 (x : Nat), .string s, .bool e0, .agg #[.bool e0, .int .i64 0, .int .i64 0, .int .i64 0, .int .i64 0], .string s, .func (.func 97) #[] #[.pointer (some ⟨W.heap.size + 1 + 1 + 1, 0, none⟩)], .int .i64 (x : Nat), .string s, .int .i64 (x : Nat), .bool true, .pointer (some ⟨W.heap.size + 1, 0, none⟩), .bool true, .bool false, undef, undef, undef, undef, undef, undef, undef, undef, undef, undef, undef, undef, undef, undef, undef, undef, undef, undef, undef], defers := [] } ∧ w' = Wr.drew) ?_ ?_
        · gi_region_with (refine ⟨trivial, ?_⟩; gi_at_call 91; refine (callsIn_wide.2 (C.out _)).mono ?_; rintro e w' ⟨rfl, rfl⟩)
          all_goals exact ⟨rfl, rfl, rfl⟩
        rintro e' a' w' ⟨rfl, rfl, rfl⟩
        gi_wp2
        have hK := ((((Para.Kept.refl W.heap.size w4.heap.size Wr).set ⟨W.heap.size + 1, 2, none⟩ (by simp) hz (.int .i64 (k : Nat))).set ⟨W.heap.size + 1, 4, none⟩ (by simp) hz (.int .i64 (x : Nat))).set ⟨W.heap.size + 1 + 1, 0, none⟩ (by simp) hz (.int .i64 ((k : Int) + 1))).drew
        refine ⟨hK.1, hK.2, ?_⟩
        show Para.At J l W.heap.size tB s (Para.run s.data.toList (pre ++ [x])) _
        rw [HP.out.2]
        exact (HP.out.1.more HJ.out hlt x).drew HJ.out
      | false =>
        have hX : Para.run s.data.toList (pre ++ [x]) = (o ++ [b], ⟨!b.e, k, k, x, x⟩, k + 1) := by rw [hrun, Para.step]; simp [hbe, hbz]
        rw [hX] at hpre2
        have hAd := hAt.drew HJ.out
        obtain ⟨fn, tmps, assign, body, hy, hR⟩ := yield_deep (m := 3) (hY _ b _ hAd.j (hpre2.trans (List.prefix_append _ _)) (by show _ ≤ Wr.heap.size; omega))
        dsimp only [Para.encB, Para.cellsB] at hy
        rw [hbe] at hy
        have HP := Lib.hid (And.intro hAd hX)
        clear hAt hAd hX hrun hpre hpre2 hY hbe hbz
        gi_wp2
        refine wpIn_mono (Q := fun e a' w' => e = .normal ∧ a' = { tmps := #[.func (.yield l) #[] #[], .pointer (some ⟨tB, 0, none⟩), .pointer (some ⟨W.heap.size, 0, none⟩), .pointer (some ⟨W.heap.size + 1, 0, none⟩), .pointer (some ⟨W.heap.size + 1 + 1, 0, none⟩), .int .i64 (x : Nat), .string s, .bool e0, .agg #[.bool e0, .int .i64 0, .int .i64 0, .int .i64 0, .int .i64 0], .string s, .func (.func 97) #[] #[.pointer (some ⟨W.heap.size + 1 + 1 + 1, 0, none⟩)], .int .i64 (x : Nat), .string s, .int .i64 (x : Nat), .bool false, .pointer (some ⟨W.heap.size + 1, 0, none⟩), .bool true, .bool true, undef, undef, undef, undef, undef, undef, undef, undef, undef, undef, undef, undef, undef, undef, undef, undef, undef, undef, undef], defers := [] } ∧ w' = Wr.drew) ?_ ?_
        · gi_region_with (refine ⟨trivial, ?_⟩; gi_at_call 91; refine (callsIn_wide.2 (C.out _)).mono ?_; rintro e w' ⟨rfl, rfl⟩)
          all_goals exact ⟨rfl, rfl, rfl⟩
        rintro e' a' w' ⟨rfl, rfl, rfl⟩
        gi_wp2
        refine (show RoundIn (Fence.wide.inRound l2) 3 _ _ _ _ _ _ _ _ from hR).mono ?_
        rintro e W4 ⟨hk4, ⟨rfl, hj4⟩ | ⟨rfl, hx4⟩⟩
        · have hA4 := HP.out.1.told hk4 hj4
          have HQ := Lib.hid (And.intro hA4 hk4)
          have ck := hA4.k.cell
          have fk := hA4.k.frozen
          dsimp only at ck
          have c0 : W4.cell? ⟨W.heap.size + 1, 0, none⟩ = some (.bool b.e) := hA4.b.cell 0
          have c1 : W4.cell? ⟨W.heap.size + 1, 1, none⟩ = some (.int .i64 (b.f : Nat)) := hA4.b.cell 1
          have c2 : W4.cell? ⟨W.heap.size + 1, 2, none⟩ = some (.int .i64 (b.l : Nat)) := hA4.b.cell 2
          have c3 : W4.cell? ⟨W.heap.size + 1, 3, none⟩ = some (.int .i64 (b.fa : Nat)) := hA4.b.cell 3
          have c4 : W4.cell? ⟨W.heap.size + 1, 4, none⟩ = some (.int .i64 (b.la : Nat)) := hA4.b.cell 4
          have f0 := hA4.b.frozen 0
          have f1 := hA4.b.frozen 1
          have f2 := hA4.b.frozen 2
          have f3 := hA4.b.frozen 3
          have f4 := hA4.b.frozen 4
          obtain ⟨e9, he9⟩ : ∃ e, b.e = e := ⟨_, rfl⟩
          clear hA4 hk4 hj4 hR hy ce
          gi_wp2
          have hK0 := ((Para.Kept.refl W.heap.size w4.heap.size Wr).drew).trans (Para.Kept.of HQ.out.2 hz)
          have hK := ((((((((hK0.set ⟨W.heap.size + 1, 0, none⟩ (by simp) hz (.bool !e9)).set ⟨W.heap.size + 1, 1, none⟩ (by simp) hz (.int .i64 (k : Nat))).set ⟨W.heap.size + 1, 2, none⟩ (by simp) hz (.int .i64 0)).set ⟨W.heap.size + 1, 3, none⟩ (by simp) hz (.int .i64 (x : Nat))).set ⟨W.heap.size + 1, 4, none⟩ (by simp) hz (.int .i64 0)).set ⟨W.heap.size + 1, 2, none⟩ (by simp) hz (.int .i64 (k : Nat))).set ⟨W.heap.size + 1, 4, none⟩ (by simp) hz (.int .i64 (x : Nat))).set ⟨W.heap.size + 1 + 1, 0, none⟩ (by simp) hz (.int .i64 ((k : Int) + 1)))
          refine ⟨hK.1, hK.2, ?_⟩
          show Para.At J l W.heap.size tB s (Para.run s.data.toList (pre ++ [x])) _
          rw [HP.out.2]
          subst he9
          exact HQ.out.1.anew HJ.out hlt x
        · have hK := ((Para.Kept.refl W.heap.size w4.heap.size Wr).drew).trans (Para.Kept.of hk4 hz)
          gi_wp2
          exact ⟨hK.1, hK.2, hx4⟩
    | false =>
      rw [hbe] at ce
      cases z with
      | true =>
        have hX : Para.run s.data.toList (pre ++ [x]) = (o ++ [b], ⟨!b.e, k, k, x, x⟩, k + 1) := by rw [hrun, Para.step]; simp [hbe, hbz]
        rw [hX] at hpre2
        have hAd := hAt.drew HJ.out
        obtain ⟨fn, tmps, assign, body, hy, hR⟩ := yield_deep (m := 3) (hY _ b _ hAd.j (hpre2.trans (List.prefix_append _ _)) (by show _ ≤ Wr.heap.size; omega))
        dsimp only [Para.encB, Para.cellsB] at hy
        rw [hbe] at hy
        have HP := Lib.hid (And.intro hAd hX)
        clear hAt hAd hX hrun hpre hpre2 hY hbe hbz
        gi_wp2
        refine wpIn_mono (Q := fun e a' w' => e = .normal ∧ a' = { tmps := #[.func (.yield l) #[] #[], .pointer (some ⟨tB, 0, none⟩), .pointer (some ⟨W.heap.size, 0, none⟩), .pointer (some ⟨W.heap.size + 1, 0, none⟩), .pointer (some ⟨W.heap.size + 1 + 1, 0, none⟩), .int .i64 (x : Nat), .string s, .bool e0, .agg #[.bool e0, .int .i64 0, .int .i64 0, .int .i64 0, .int .i64 0], .string s, .func (.func 97) #[] #[.pointer (some ⟨W.heap.size + 1 + 1 + 1, 0, none⟩)], .int .i64 (x : Nat), .string s, .int .i64 (x : Nat), .bool true, .pointer (some ⟨W.heap.size + 1, 0, none⟩), .bool false, .bool true, undef, undef, undef, undef, undef, undef, undef, undef, undef, undef, undef, undef, undef, undef, undef, undef, undef, undef, undef], defers := [] } ∧ w' = Wr.drew) ?_ ?_
        · gi_region_with (refine ⟨trivial, ?_⟩; gi_at_call 91; refine (callsIn_wide.2 (C.out _)).mono ?_; rintro e w' ⟨rfl, rfl⟩)
          all_goals exact ⟨rfl, rfl, rfl⟩
        rintro e' a' w' ⟨rfl, rfl, rfl⟩
        gi_wp2
        refine (show RoundIn (Fence.wide.inRound l2) 3 _ _ _ _ _ _ _ _ from hR).mono ?_
        rintro e W4 ⟨hk4, ⟨rfl, hj4⟩ | ⟨rfl, hx4⟩⟩
        · have hA4 := HP.out.1.told hk4 hj4
          have HQ := Lib.hid (And.intro hA4 hk4)
          have ck := hA4.k.cell
          have fk := hA4.k.frozen
          dsimp only at ck
          have c0 : W4.cell? ⟨W.heap.size + 1, 0, none⟩ = some (.bool b.e) := hA4.b.cell 0
          have c1 : W4.cell? ⟨W.heap.size + 1, 1, none⟩ = some (.int .i64 (b.f : Nat)) := hA4.b.cell 1
          have c2 : W4.cell? ⟨W.heap.size + 1, 2, none⟩ = some (.int .i64 (b.l : Nat)) := hA4.b.cell 2
          have c3 : W4.cell? ⟨W.heap.size + 1, 3, none⟩ = some (.int .i64 (b.fa : Nat)) := hA4.b.cell 3
          have c4 : W4.cell? ⟨W.heap.size + 1, 4, none⟩ = some (.int .i64 (b.la : Nat)) := hA4.b.cell 4
          have f0 := hA4.b.frozen 0
          have f1 := hA4.b.frozen 1
          have f2 := hA4.b.frozen 2
          have f3 := hA4.b.frozen 3
          have f4 := hA4.b.frozen 4
          obtain ⟨e9, he9⟩ : ∃ e, b.e = e := ⟨_, rfl⟩
          clear hA4 hk4 hj4 hR hy ce
          gi_wp2
          have hK0 := ((Para.Kept.refl W.heap.size w4.heap.size Wr).drew).trans (Para.Kept.of HQ.out.2 hz)
          have hK := ((((((((hK0.set ⟨W.heap.size + 1, 0, none⟩ (by simp) hz (.bool !e9)).set ⟨W.heap.size + 1, 1, none⟩ (by simp) hz (.int .i64 (k : Nat))).set ⟨W.heap.size + 1, 2, none⟩ (by simp) hz (.int .i64 0)).set ⟨W.heap.size + 1, 3, none⟩ (by simp) hz (.int .i64 (x : Nat))).set ⟨W.heap.size + 1, 4, none⟩ (by simp) hz (.int .i64 0)).set ⟨W.heap.size + 1, 2, none⟩ (by simp) hz (.int .i64 (k : Nat))).set ⟨W.heap.size + 1, 4, none⟩ (by simp) hz (.int .i64 (x : Nat))).set ⟨W.heap.size + 1 + 1, 0, none⟩ (by simp) hz (.int .i64 ((k : Int) + 1)))
          refine ⟨hK.1, hK.2, ?_⟩
          show Para.At J l W.heap.size tB s (Para.run s.data.toList (pre ++ [x])) _
          rw [HP.out.2]
          subst he9
          exact HQ.out.1.anew HJ.out hlt x
        · have hK := ((Para.Kept.refl W.heap.size w4.heap.size Wr).drew).trans (Para.Kept.of hk4 hz)
          gi_wp2
          exact ⟨hK.1, hK.2, hx4⟩
      | false =>
        have hX : Para.run s.data.toList (pre ++ [x]) = (o, { b with l := k, la := x }, k + 1) := by rw [hrun, Para.step]; simp [hbe, hbz]
        have bk := Para.box_far (Para.box_far hAt.k (a := ⟨W.heap.size + 1, 2, none⟩) (by simp) (.int .i64 (k : Nat))) (a := ⟨W.heap.size + 1, 4, none⟩) (by simp) (.int .i64 (x : Nat))
        have ck2 := bk.cell
        have fk2 := bk.frozen
        dsimp only at ck2
        have HP := Lib.hid (And.intro hAt hX)
        clear hAt hX hrun hpre hpre2 hY hbe hbz bk
        gi_wp2
        refine wpIn_mono (Q := fun e a' w' => e = .normal ∧ a' = { tmps := #[.func (.yield l) #[] #[], .pointer (some ⟨tB, 0, none⟩), .pointer (some ⟨W.heap.size, 0, none⟩), .pointer (some ⟨W.heap.size + 1, 0, none⟩), .pointer (some ⟨W.heap.size + 1 + 1, 0, none⟩), .int .i64 (x : Nat), .string s, .bool e0, .agg #[.bool e0, .int .i64 0, .int .i64 0, .int .i64 0, .int .i64 0], .string s, .func (.func 97) #[] #[.pointer (some ⟨W.heap.size + 1 + 1 + 1, 0, none⟩)], .int .i64 (x : Nat), .string s, .int .i64 (x : Nat), .bool false, .pointer (some ⟨W.heap.size + 1, 0, none⟩), .bool false, .bool false, undef, undef, undef, undef, undef, undef, undef, undef, undef, undef, undef, undef, undef, undef, undef, undef, undef, undef, undef], defers := [] } ∧ w' = Wr.drew) ?_ ?_
        · gi_region_with (refine ⟨trivial, ?_⟩; gi_at_call 91; refine (callsIn_wide.2 (C.out _)).mono ?_; rintro e w' ⟨rfl, rfl⟩)
          all_goals exact ⟨rfl, rfl, rfl⟩
        rintro e' a' w' ⟨rfl, rfl, rfl⟩
        gi_wp2
        have hK := ((((Para.Kept.refl W.heap.size w4.heap.size Wr).set ⟨W.heap.size + 1, 2, none⟩ (by simp) hz (.int .i64 (k : Nat))).set ⟨W.heap.size + 1, 4, none⟩ (by simp) hz (.int .i64 (x : Nat))).set ⟨W.heap.size + 1 + 1, 0, none⟩ (by simp) hz (.int .i64 ((k : Int) + 1))).drew
        refine ⟨hK.1, hK.2, ?_⟩
        show Para.At J l W.heap.size tB s (Para.run s.data.toList (pre ++ [x])) _
        rw [HP.out.2]
        exact (HP.out.1.more HJ.out hlt x).drew HJ.out
  case done =>
    rintro D W2 hD hAt hK
    have HJ := Lib.hid hJ
    generalize hr : Para.run s.data.toList (Para.S s.data.toList) = r at hAt
    have hall : Hid (Para.all s.data.toList = r.1 ++ [r.2.1]) := by show _ = _; rw [Para.all, hr]
    obtain ⟨o, b, k⟩ := r
    obtain rfl : D = W.heap.size + 4 := by omega
    have hlD := (Array.getElem?_eq_some_iff.1 hK).1
    obtain ⟨fn, tmps, assign, body, hy, hR⟩ := yield_deep (m := 5) (hY o b W2 hAt.j (by rw [hall.out]; exact List.prefix_refl _) (by omega))
    dsimp only [Para.encB, Para.cellsB] at hy
    have cy := hAt.y.cell
    have c0 : W2.cell? ⟨W.heap.size + 1, 0, none⟩ = some (.bool b.e) := hAt.b.cell 0
    have c1 : W2.cell? ⟨W.heap.size + 1, 1, none⟩ = some (.int .i64 (b.f : Nat)) := hAt.b.cell 1
    have c2 : W2.cell? ⟨W.heap.size + 1, 2, none⟩ = some (.int .i64 (b.l : Nat)) := hAt.b.cell 2
    have c3 : W2.cell? ⟨W.heap.size + 1, 3, none⟩ = some (.int .i64 (b.fa : Nat)) := hAt.b.cell 3
    have c4 : W2.cell? ⟨W.heap.size + 1, 4, none⟩ = some (.int .i64 (b.la : Nat)) := hAt.b.cell 4
    have hxX := Lib.hid hX
    clear hY hX hJ hr hAt
    gi_wp2
    refine (show RoundIn Fence.wide 5 _ _ _ _ _ _ _ _ from hR).mono ?_
    rintro e W4 ⟨hk4, h4⟩
    have hK4 : W4.heap[W.heap.size + 4]? = some (.deferred (some [])) := hk4.same _ _ hK (.inl ⟨by omega, rfl⟩)
    have hst : Steps 4 W.heap.size W4 (W4.putObj (W.heap.size + 4) (.deferred none)) := Steps.of_own (grownBy_putObj' W4 (W.heap.size + 4) _) (fun r e => by cases e; exact ⟨by omega, _, hK4, rfl⟩)
    have hend : J (Para.all s.data.toList) (W4.putObj (W.heap.size + 4) (.deferred none)) ∨ X (W4.putObj (W.heap.size + 4) (.deferred none)) := by
      rcases h4 with ⟨_, h⟩ | ⟨_, h⟩
      · rw [hall.out]; exact .inl (HJ.out _ _ _ h hst)
      · exact .inr (hxX.out _ _ h hst)
    have HE := Lib.hid hend
    clear hend hst
    rcases h4 with ⟨rfl, _⟩ | ⟨rfl, _⟩
    · gi_wp2
      refine ⟨by simp, .inl ⟨_, _, rfl, run_takeDeferred hK4, ?_⟩⟩
      exact ⟨_, results_none rfl _ _ _, ⟨_, rfl⟩, HE.out⟩
    · gi_wp2
      refine ⟨by simp, .inl ⟨_, _, rfl, run_takeDeferred hK4, ?_⟩⟩
      exact ⟨_, results_none rfl _ _ _, ⟨_, rfl⟩, HE.out⟩
  case stop =>
    rintro D W2 hD hx hK
    gi_wp2
    refine ⟨by simp, .inl ⟨_, _, rfl, run_takeDeferred hK, ?_⟩⟩
    refine ⟨_, results_none rfl _ _ _, ⟨_, rfl⟩, .inr ?_⟩
    exact hX _ _ hx (Steps.of_own (grownBy_putObj' W2 D _) (fun r e => by cases e; exact ⟨by omega, _, hK, rfl⟩))
end Go.Proofs.Ytohdijhpoddbbaa
/-
  Package para: where a motion on leads (a loop over the blocks that returns out of a round).
-/
namespace Go.Proofs.Ytohdijhpoddbbaa
open Go.RowKit Go.Shelf
attribute [local go_sem] Oper.semAt_some
namespace Para
theorem blk_abide {B : Nat} {t : TypeId} {cs : Array Value} {X Y : World} {row : Option Nat} (h : Blk X B t cs) (hg : X.grownBy Y row) (hr : ∀ r, row = some r → ∃ o : Obj, X.heap[r]? = some o ∧ o.isCells = false) : Blk Y B t cs :=
  h.grown hg fun e => by
    obtain ⟨o, ho, hc⟩ := hr B e.symm
    rw [show X.heap[B]? = _ from h] at ho; cases ho; cases hc
/-- What on and back answer. -/
def resN (back : Bool) (s : List UInt8) (p n : Nat) : Value := if p = edge back s then .tuple #[.int .i64 0, .bool false] else .tuple #[.int .i64 (goN back s p n : Nat), .bool true]
/-- What on's loop keeps: where it stands, how many are left to come, what it answers. -/
structure On (b : Nat) (w : World) (p c r : Nat) (ok : Bool) (W : World) : Prop where
  p : Boxed W b 3 (.int .i64 (p : Nat))
  n : Boxed W (b + 1) 3 (.int .i64 (c : Nat))
  r : Boxed W (b + 1 + 1) 3 (.int .i64 (r : Nat))
  ok : Boxed W (b + 1 + 1 + 1) 4 (.bool ok)
  below : Below b w W
section
variable {b : Nat} {w : World} {p c r : Nat} {ok : Bool} {A B : World}
theorem On.steps (h : On b w p c r ok A) {q m : Nat} (hs : Steps q m A B) (h1 : b + 3 < m) (h2 : b ≤ w.heap.size) : On b w p c r ok B :=
  ⟨hs.boxed (.inl (by omega)) h.p, hs.boxed (.inl (by omega)) h.n, hs.boxed (.inl (by omega)) h.r, hs.boxed (.inl (by omega)) h.ok, hs.below h.below (by omega) h2⟩
theorem On.alloc (h : On b w p c r ok A) (hb : b = w.heap.size) (o : Obj) : On b w p c r ok (A.alloc o) :=
  ⟨h.p.alloc _, h.n.alloc _, h.r.alloc _, h.ok.alloc _, h.below.alloc (by rw [hb]; exact h.below.size) _⟩
theorem On.less (h : On b w p c r ok A) (d : Nat) : On b w p d r ok (A.setCell ⟨b + 1, 0, none⟩ (.int .i64 (d : Nat))) :=
  ⟨h.p.other (by omega) _, h.n.set _, h.r.other (by omega) _, h.ok.other (by omega) _, h.below.setCell (by simp) _⟩
theorem On.told (h : On b w p c r ok A) (d : Nat) (k : Bool) : On b w p c d k ((A.setCell ⟨b + 1 + 1, 0, none⟩ (.int .i64 (d : Nat))).setCell ⟨b + 1 + 1 + 1, 0, none⟩ (.bool k)) :=
  ⟨(h.p.other (by omega) _).other (by omega) _, (h.n.other (by omega) _).other (by omega) _, (h.r.set _).other (by omega) _, (h.ok.other (by omega) _).set _, (h.below.setCell (by simp; omega) _).setCell (by simp; omega) _⟩
end
theorem on_keeps {b m : Nat} {W : World} {n tB : Nat} (h1 : b + 1 + 1 + 1 < tB) (h2 : tB < m) (k : Nat) (hk : b ≤ k ∧ k ≤ b + 1 + 1 + 1) {W' : World} (h : KeepsFrom n W W' ∧ Stays 4 [tB] m W W') (v : Value) : KeepsFrom n W (W'.setCell ⟨k, 0, none⟩ v) ∧ Stays 4 [tB] m W (W'.setCell ⟨k, 0, none⟩ v) :=
  ⟨h.1.trans ((KeepsOthers.setCell W' ⟨k, 0, none⟩ v).from n), h.2.trans (Stays.setCell W' ⟨k, 0, none⟩ v (by simp; omega) (by simp; omega))⟩
end Para
end Go.Proofs.Ytohdijhpoddbbaa
/-
  Package para: where a motion back leads (a loop over the blocks that gathers a list).
-/
namespace Go.Proofs.Ytohdijhpoddbbaa
open Go.RowKit Go.Shelf
attribute [local go_sem] Oper.semAt_some
namespace Para
theorem ownsRow_steps {q m : Nat} {A B : World} (h : Steps q m A B) {n₀ : Nat} {e : TypeId} {size : Nat} {v : Value} {k : Nat} {xs : List Value} (hr : A.ownsRow n₀ e size v k xs) (hv : ∀ g, v.ownBlock = some g → m + q ≤ g) : B.ownsRow n₀ e size v k xs := by
  refine ⟨hr.1, ?_⟩
  rcases hr.2 with h1 | ⟨g, cap, cur, rfl, h2, h3, h4⟩
  · exact .inl h1
  · exact .inr ⟨g, cap, cur, rfl, h2, h.same g _ h3 (.inr ⟨hv g rfl, rfl⟩), h4⟩
/-- A list that is made: its variable's box is block B, its row lies from block b on; what lay below block n is as in w. -/
structure Lst (T e : TypeId) (size n B b : Nat) (w : World) (k : Nat) (l : List Value) (W : World) : Prop where
  row : ∃ v, Boxed W B T v ∧ W.ownsRow n e size v k l ∧ ∀ g, v.ownBlock = some g → b ≤ g
  below : Below n w W
theorem Lst.steps {T e : TypeId} {size n B b : Nat} {w : World} {k : Nat} {l : List Value} {X Y : World} {q m : Nat} (h : Lst T e size n B b w k l X) (hs : Steps q m X Y) (h0 : n ≤ B) (h1 : B < m) (h2 : m + q ≤ b) (h3 : n ≤ w.heap.size) : Lst T e size n B b w k l Y := by
  obtain ⟨⟨v, hb, hr, hv⟩, hB⟩ := h
  exact ⟨⟨v, hs.boxed (.inl h1) hb, ownsRow_steps hs hr (fun g e => Nat.le_trans h2 (hv g e)), hv⟩, hs.below hB (by omega) h3⟩
theorem Lst.alloc {T e : TypeId} {size n B b : Nat} {w : World} {k : Nat} {l : List Value} {X : World} (h : Lst T e size n B b w k l X) (h3 : n ≤ w.heap.size) (o : Obj) : Lst T e size n B b w k l (X.alloc o) := by
  obtain ⟨⟨v, hb, hr, hv⟩, hB⟩ := h
  exact ⟨⟨v, hb.alloc _, hr.alloc _, hv⟩, hB.alloc (Nat.le_trans h3 hB.size) _⟩
/-- The row that an append may write. -/
theorem row_cells {A : World} {n b m q : Nat} {T : List Nat} {e : TypeId} {size : Nat} {v : Value} {k : Nat} {xs : List Value} (hr : A.ownsRow n e size v k xs) (hv : ∀ g, v.ownBlock = some g → b ≤ g) {r : Nat} (e : v.ownBlock = some r) (hb : m + q ≤ b) (hT : ∀ k ∈ T, k < b) :
    (r < m ∨ m + q ≤ r) ∧ r ∉ T ∧ ∀ o, A.heap[r]? = some o → o.isCells = true := by
  have hbr := hv r e
  refine ⟨.inr (by omega), fun h => by have := hT r h; omega, fun o ho => ?_⟩
  rcases hr.2 with ⟨rfl, _⟩ | ⟨g, cap, cur, rfl, h2, h3, _⟩
  · cases e
  · obtain rfl : g = r := by simpa [Value.ownBlock] using e
    rw [h3] at ho; cases ho; rfl
end Para
end Go.Proofs.Ytohdijhpoddbbaa
/-
  The blocks of a text as a list: slices.Collect over their iterator; which one is the first that a line is not behind (slices.IndexFunc).
-/
namespace Go.Proofs.Ytohdijhpoddbbaa
open Go.RowKit Go.Shelf
attribute [local go_sem] Oper.semAt_some
namespace Para
/-- The cells of blocks. -/
def rowB (l : List Bl) : List Value := l.flatMap fun b => (cellsB b).toList
theorem rowB_length (l : List Bl) : (rowB l).length = l.length * 5 := by
  induction l with
  | nil => rfl
  | cons x l ih => simp only [rowB, List.flatMap_cons] at ih ⊢; simp at ih ⊢; omega
theorem rowB_snoc (l : List Bl) (x : Bl) : rowB (l ++ [x]) = rowB l ++ (cellsB x).toList := by simp [rowB]
theorem rowB_get (l : List Bl) {j i : Nat} {x : Bl} {u : Value} (h : l[j]? = some x) (hu : (cellsB x)[i]? = some u) : (rowB l)[j * 5 + i]? = some u := by
  have hi : i < 5 := by have := (Array.getElem?_eq_some_iff.1 hu).1; simpa using this
  induction l generalizing j with
  | nil => simp at h
  | cons y l ih =>
    rw [show rowB (y :: l) = (cellsB y).toList ++ rowB l by simp [rowB]]
    cases j with
    | zero =>
      simp at h; subst h
      rw [List.getElem?_append_left (by simpa using hi), Nat.zero_mul, Nat.zero_add, Array.getElem?_toList]
      exact hu
    | succ j =>
      rw [List.getElem?_append_right (by simp; omega)]
      have := ih (j := j) (by simpa using h)
      rwa [show (j + 1) * 5 + i - (cellsB y).toList.length = j * 5 + i by simp; omega]
theorem cells_new (w : World) (t : TypeId) (l : List Value) (j : Nat) (u : Value) (h : l[j]? = some u) : (w.alloc (.cells l.toArray t)).cell? ((⟨w.heap.size, 0, none⟩ : Addr).add j) = some u := by
  have hb := Blk.new w t l.toArray
  have e : (⟨w.heap.size, 0, none⟩ : Addr).add j = ⟨w.heap.size, j, none⟩ := by unfold Addr.add; split <;> simp_all
  rw [e, hb.cell]
  simpa using h
/-- A slice at A holds these blocks. -/
def Bls (w : World) (A : Option Addr) (l : List Bl) : Prop := 0 < l.length → ∃ g : Nat, A = some ⟨g, 0, none⟩ ∧ g < w.heap.size ∧ ∀ (j : Nat) (x : Bl), l[j]? = some x → ∀ (i : Nat) (u : Value), (cellsB x)[i]? = some u → w.cell? ⟨g, j * 5 + i, none⟩ = some u
theorem Bls.of_own {w : World} {B : Nat} {A : Option Addr} {c : Nat} {t : TypeId} {l : List Bl} (h : w.ownsRow B t 5 (.slice A l.length c) l.length (rowB l)) : Bls w A l := fun h0 => by
  rcases h.2 with ⟨_, h2⟩ | ⟨g, cap, cur, hv, hb, hh, _⟩
  · omega
  · injection hv with hA
    subst hA
    refine ⟨g, rfl, (Array.getElem?_eq_some_iff.1 hh).1, fun j x hx i u hu => ?_⟩
    have hi : i < 5 := by have := (Array.getElem?_eq_some_iff.1 hu).1; simpa using this
    have hj := (List.getElem?_eq_some_iff.1 hx).1
    exact (h.cellAt (j * 5 + i) (by omega)).trans (rowB_get l hx hu)
theorem Bls.below {w w' : World} {A : Option Addr} {l : List Bl} (h : Bls w A l) (hb : Below w.heap.size w w') : Bls w' A l := fun h0 => by
  obtain ⟨g, e, hg, hc⟩ := h h0
  refine ⟨g, e, Nat.lt_of_lt_of_le hg hb.size, fun j x hx i u hu => ?_⟩
  rw [World.cell?_of_block (hb.block _ hg)]
  exact hc j x hx i u hu
theorem info_bl : (Try.prog.info? 82).map (fun i => (i.zero, i.size, i.bytes)) = some (some (.agg #[.bool false, .int .i64 0, .int .i64 0, .int .i64 0, .int .i64 0]), 5, 40) := by kernel_rfl
end Para
set_option maxRecDepth 100000 in
set_option maxHeartbeats 2000000 in
theorem sl_append_seq (tB : Nat) (s : ByteArray) (hs : s.size ≤ 1000000000000) (hv : Utf.valid s.data.toList = true) (w : World) (hT : Boxed w tB 9 (.string s)) :
    Calls Try.prog 89 #[.slice none 0 0, .func (.func 90) #[] #[.pointer (some ⟨tB, 0, none⟩)]] w fun e w' =>
      (∃ v, e = .returned v ∧ w'.ownsRow w.heap.size 82 5 v (Para.all s.data.toList).length (Para.rowB (Para.all s.data.toList))) ∧ Below w.heap.size w w' := by
  have hl := data_len s
  obtain ⟨i0, hi0, hz0, hz1, hz2⟩ := info_parts Para.info_bl
  have hlt := hT.lt
  refine (callsIn_wide (n := 6)).1 ?_
  refine callsIn_of_wp_marks Try.func89 rfl trivial ?_ rfl
  simp only [Try.ntmps89, List.size_toArray, List.length_cons, List.length_nil, Nat.reduceAdd, Nat.reduceSub, Array.replicate_succ, Array.replicate_zero, List.push_toArray, List.append_toArray, List.nil_append, List.cons_append]
  have hL0 : Para.Lst 79 82 5 w.heap.size w.heap.size (w.heap.size + 7) w (([] : List Para.Bl).length) (Para.rowB []) (w.alloc (.cells #[.slice none 0 0] 79)) :=
    ⟨⟨.slice none 0 0, Boxed.new w 79 (.slice none 0 0), World.ownsRow_nil _ _ _ _, fun g e => by cases e⟩, (Below.refl _ _).alloc (Nat.le_refl _) _⟩
  have hT1 := hT.alloc (.cells #[.slice none 0 0] 79)
  have hz : (w.alloc (.cells #[.slice none 0 0] 79)).heap.size = w.heap.size + 1 := by simp
  have hal := Para.all_length s.data.toList
  gi_wp2
  generalize w.alloc (.cells #[.slice none 0 0] 79) = X at *
  clear hT
  refine wpIn_seqUpto rfl (by decide) (gf := 90) (lb := #[.pointer (some ⟨tB, 0, none⟩)]) rfl trivial (enters_of Try.func90 (by kernel_rfl) rfl)
    (para_block_seq _ tB s hs hv X hT1) (fun _ _ _ h k o hk ho _ => h.block k o hk ho) (fun h k => h.trans k)
    (fun W2 l2 o h1 h2 => Stays.putObj (n := X.heap.size) (by intro k hk; simp at hk; omega) W2 l2 o h1 h2) (fun _ _ h => h.size) (Below.refl _ _) (fun _ => rfl)
    (fun pre Wr => Para.Lst 79 82 5 w.heap.size w.heap.size (w.heap.size + 7) w pre.length (Para.rowB pre) Wr)
    (fun _ => False)
    (steps_own (q := 4) (m := X.heap.size) (fun _ _ _ h hs => h.steps hs (Nat.le_refl _) (by omega) (by omega) (Nat.le_refl _)) (Nat.le_refl _))
    (fun _ _ _ _ h _ _ => h)
    (fun _ _ _ h hs => h.steps hs (Nat.le_refl _) (by omega) (by omega) (Nat.le_refl _)) (fun _ _ h _ => h) hL0
    (fun x a' W => ∃ Bx, X.heap.size ≤ Bx ∧ Blk W Bx 82 (Para.cellsB x) ∧ a' = { tmps := #[.slice none 0 0, .func (.func 90) #[] #[.pointer (some ⟨tB, 0, none⟩)], .pointer (some ⟨w.heap.size, 0, none⟩), undef, .slice none 0 0, .pointer (some ⟨Bx, 0, none⟩), .func (.func 90) #[] #[.pointer (some ⟨tB, 0, none⟩)], .agg (Para.cellsB x), undef, undef, undef, undef, undef], defers := [] })
    (fun x a' _ X Y row hs hg hr => by obtain ⟨Bx, e1, e2, e3⟩ := hs; exact ⟨Bx, e1, Para.blk_abide e2 hg (fun r e => (hr r e).2), e3⟩)
    ?assign ?body ?done ?stop
  case assign =>
    rintro l pre x W K hL _ hsz hK
    have H0 := Lib.hid (hK _ _ ((KeepsOthers.alloc W (.cells (Para.cellsB x) 82)).from _) (Stays.alloc _ _ _ _ _) (hL.alloc (Nat.le_refl _) _) ⟨W.heap.size, by omega, Blk.new W 82 (Para.cellsB x), rfl⟩)
    clear hL hK
    gi_wp2
    exact H0.out
  case body =>
    rintro l pre x a' W ⟨⟨v, hbx, hrow, hv⟩, hB⟩ ⟨Bx, hBx, hx, rfl⟩ hpre hsz
    have x0 : W.cell? ⟨Bx, 0, none⟩ = some (.bool x.e) := hx.cell 0
    have x1 : W.cell? ⟨Bx, 1, none⟩ = some (.int .i64 (x.f : Nat)) := hx.cell 1
    have x2 : W.cell? ⟨Bx, 2, none⟩ = some (.int .i64 (x.l : Nat)) := hx.cell 2
    have x3 : W.cell? ⟨Bx, 3, none⟩ = some (.int .i64 (x.fa : Nat)) := hx.cell 3
    have x4 : W.cell? ⟨Bx, 4, none⟩ = some (.int .i64 (x.la : Nat)) := hx.cell 4
    have hlen := hpre.length_le
    rw [List.length_append, List.length_singleton] at hlen
    have hc := hbx.cell
    have hxn : Hid (Para.rowB (pre ++ [x]) = Para.rowB pre ++ (Para.cellsB x).toList) := Para.rowB_snoc pre x
    have hxm : Hid ((pre ++ [x]).length = pre.length + 1) := List.length_append
    generalize Para.rowB pre = xs at *
    generalize pre.length = k at *
    clear hx hpre
    gi_wp2_with (gi_at_builtin; refine wpListIn_append_own_at _ rfl _ _ 79 rfl w.heap.size 82 i0 (.agg #[.bool false, .int .i64 0, .int .i64 0, .int .i64 0, .int .i64 0]) 5 40 Try.underlying79 hi0 hz0 hz1 hz2 rfl (by decide) v k _ rfl (hrow.alloc _) ⟨W.heap.size, 0, none⟩ 1 1 [.bool x.e, .int .i64 (x.f : Nat), .int .i64 (x.l : Nat), .int .i64 (x.fa : Nat), .int .i64 (x.la : Nat)] rfl rfl (Para.cells_new _ _ _) (by simp [Value.oneCell']) (by unfold maxLen; omega) (by omega) (by simp; omega) ?_; intro v' w1 hown' hgrow _ hat; obtain ⟨a', c', rfl⟩ := own_long hown'; have hap := Boxed.appended hbx (by decide) hrow (by omega) (by omega) hown' hgrow; have hc1 := hap.1.cell; have hf1 := hap.1.frozen)
    have hst : Stays 4 [tB] (X.heap.size + 2) W (w1.setCell ⟨w.heap.size, 0, none⟩ (.slice a' (k + 1) c')) :=
      ((Stays.alloc _ _ _ _ _).trans (Stays.grown hgrow (fun r e => Para.row_cells (hrow.alloc _) hv e (by omega) (by intro k hk; simp at hk; omega)))).trans (Stays.setCell _ _ _ (by simp; omega) (by simp; omega))
    rw [hz] at hst
    refine ⟨hap.2.2.2.1.from _, hst, ?_⟩
    show Para.Lst _ _ _ _ _ _ _ (pre ++ [x]).length (Para.rowB (pre ++ [x])) _
    rw [hxn.out, hxm.out]
    refine ⟨⟨_, hap.2.1, hap.2.2.1, fun g e => ?_⟩, hB.trans hap.2.2.2.2⟩
    rcases hat with h | h
    · exact hv g (h ▸ e)
    · rw [h] at e; injection e with e; simp at e; omega
  case done =>
    rintro D W hD ⟨⟨v, hbx, hrow, hv⟩, hB⟩ hK
    obtain rfl : D = w.heap.size + 1 := by omega
    have hc := hbx.cell
    have HB := Lib.hid (hB.trans (belowK_b (w := w) (Nat.le_refl _) W (w.heap.size + 1) _ (.deferred none) (by omega) hK rfl rfl))
    have HR := Lib.hid (ownsRow_putObj hrow (.deferred none) hK rfl)
    clear hrow hB hv hal
    gi_wp2
    refine ⟨by simp, .inl ⟨_, _, rfl, run_takeDeferred hK, ?_⟩⟩
    refine ⟨_, results_tmp rfl _ _ _, ⟨_, rfl, ?_⟩, HB.out⟩
    exact HR.out
  case stop => exact fun _ _ _ h _ => h.elim
theorem sl_collect (tB : Nat) (s : ByteArray) (hs : s.size ≤ 1000000000000) (hv : Utf.valid s.data.toList = true) (w : World) (hT : Boxed w tB 9 (.string s)) :
    Calls Try.prog 71 #[.func (.func 90) #[] #[.pointer (some ⟨tB, 0, none⟩)]] w fun e w' =>
      (∃ v, e = .returned v ∧ w'.ownsRow w.heap.size 82 5 v (Para.all s.data.toList).length (Para.rowB (Para.all s.data.toList))) ∧ Below w.heap.size w w' := by
  have C := Lib.hid (sl_append_seq tB s hs hv w hT)
  clear hT
  go_enter Try.func71, Try.ntmps71
  go_wp2_with (go_at_call 89; refine C.out.mono ?_; rintro e w1 ⟨⟨v, rfl, hr⟩, hb⟩)
  go_ret
  exact ⟨⟨_, rfl, hr⟩, hb⟩
theorem para_behind (x : Para.Bl) (k kB : Nat) (W : World) (hK : Boxed W kB 3 (.int .i64 (k : Nat))) :
    Calls Try.prog 74 #[.agg (Para.cellsB x), .pointer (some ⟨kB, 0, none⟩)] W fun e w' => e = .returned (.bool (decide (k ≤ x.l))) ∧ Below W.heap.size W w' := by
  have hc := (hK.alloc (.cells (Para.cellsB x) 82)).cell
  clear hK
  go_enter Try.func74, Try.ntmps74
  go_wp2
  go_ret
  exact ⟨by simp, (Below.refl _ _).alloc (Nat.le_refl _) _⟩
set_option maxHeartbeats 1000000 in
set_option maxRecDepth 100000 in
theorem sl_index_bl {W : World} {A : Option Addr} {c k kB i : Nat} {B : List Para.Bl} (hx : Para.Bls W A B) (hK : Boxed W kB 3 (.int .i64 (k : Nat))) (hl : B.length ≤ 1000000000002) (hi : (B.findIdx? fun b => decide (k ≤ b.l)) = some i) :
    Calls Try.prog 73 #[.slice A B.length c, .func (.func 74) #[] #[.pointer (some ⟨kB, 0, none⟩)]] W fun e w' => e = .returned (.int .i64 (i : Nat)) ∧ Below W.heap.size W w' := by
  have HX := Lib.hid hx
  obtain ⟨hib, hi1, hi2⟩ := List.findIdx?_eq_some_iff_getElem.1 hi
  have HI := Lib.hid (And.intro hi1 hi2)
  have HK := Lib.hid hK
  clear hx hi hi1 hi2 hK
  go_enter Try.func73, Try.ntmps73
  go_wp2
  go_loopw [5, 8] (fun _ kv wr => ∃ j, j ≤ i ∧ kv = .int .i64 j ∧ Below W.heap.size W wr) (fun _ kv _ => B.length - (intOf kv).toNat)
  case atStart => exact ⟨0, Nat.zero_le _, rfl, Below.refl _ _⟩
  case round =>
    obtain ⟨j, hj, rfl, hb⟩ := hrel
    have hlt : j < B.length := by omega
    have hy : B[j]? = some B[j] := List.getElem?_eq_getElem hlt
    obtain ⟨g, rfl, hg, hc⟩ := HX.out (by omega)
    have cc := fun i u hu => (hb.cell (p := ⟨g, j * 5 + i, none⟩) hg).trans (hc j _ hy i u hu)
    have c0 : wr.cell? ⟨g, j * 5, none⟩ = some (.bool B[j].e) := cc 0 _ rfl
    have c1 : wr.cell? ⟨g, j * 5 + 1, none⟩ = some (.int .i64 (B[j].f : Nat)) := cc 1 _ rfl
    have c2 : wr.cell? ⟨g, j * 5 + 2, none⟩ = some (.int .i64 (B[j].l : Nat)) := cc 2 _ rfl
    have c3 : wr.cell? ⟨g, j * 5 + 3, none⟩ = some (.int .i64 (B[j].fa : Nat)) := cc 3 _ rfl
    have c4 : wr.cell? ⟨g, j * 5 + 4, none⟩ = some (.int .i64 (B[j].la : Nat)) := cc 4 _ rfl
    have hkb : Boxed wr kB 3 (.int .i64 (k : Nat)) := (hb.block kB HK.out.lt).trans HK.out
    have C := Lib.hid (para_behind B[j] k kB wr hkb)
    clear cc hc hkb HX hg
    by_cases he : j = i
    · subst he
      have hd : decide (k ≤ B[j].l) = true := HI.out.1
      rw [hd] at C
      clear hd
      generalize B[j] = x at *
      go_wp2_with (go_at_call 74; refine C.out.mono ?_; rintro e w1 ⟨rfl, hb1⟩)
      go_ret
      exact ⟨rfl, hb.trans (hb1.mono hb.size)⟩
    · have hd : decide (k ≤ B[j].l) = false := by simpa using HI.out.2 j (by omega)
      rw [hd] at C
      clear hd
      generalize B[j] = x at *
      go_wp2_with (go_at_call 74; refine C.out.mono ?_; rintro e w1 ⟨rfl, hb1⟩)
      go_roundw
      case rel => exact ⟨j + 1, by omega, by go_num, hb.trans (hb1.mono hb.size)⟩
      case measure => simp [intOf]; omega
end Go.Proofs.Ytohdijhpoddbbaa
/-
  What package para tells: Go, key by key; Block.
-/
namespace Go.Proofs.Ytohdijhpoddbbaa
open Go.RowKit Go.Shelf
namespace Para
theorem key_test (k : ByteArray) (m : UInt8) : (k.toList == [m]) = decide (k.data.toList = [m]) := by
  have e : k.toList = k.data.toList := bs_tl k.data.toList
  rw [e, Bool.eq_iff_iff]
  simp
/-- The answer that leads to v. -/
def res (v : Int) : Value := if v < 0 then .tuple #[.int .i64 0, .bool false] else .tuple #[.int .i64 v, .bool true]
theorem res_no {v : Int} (h : v < 0) : res v = .tuple #[.int .i64 0, .bool false] := if_pos h
theorem res_at {v : Int} (h : 0 ≤ v) : res v = .tuple #[.int .i64 v, .bool true] := if_neg (by omega)
theorem goV_out {s : List UInt8} {p : Int} {key : List UInt8} {n : Int} (h : Utf.place s p = false) : goV s p key n = -1 := by rw [goV, h]; rfl
theorem goV_none {s : List UInt8} {p : Int} {key : List UInt8} {n : Int} (h : way key = none) : goV s p key n = -1 := by
  rw [goV]; split
  · rw [h]
  · rfl
theorem goV_edge {s : List UInt8} {p : Nat} {key : List UInt8} {n : Int} {back : Bool} (hk : way key = some back) (h : p = edge back s) : goV s p key n = -1 := by
  rw [goV]; split
  · rw [hk]; simp [h]
  · rfl
theorem goV_at {s : List UInt8} {p : Nat} {key : List UInt8} {n : Int} {back : Bool} (hp : Utf.place s p = true) (hk : way key = some back) (h : p ≠ edge back s) : goV s p key n = (goN back s p (max n 1).toNat : Nat) := by
  rw [goV, if_pos hp, hk]
  have : ¬ (p : Int) = (edge back s : Nat) := by omega
  simp [this]
theorem res_goV {s : List UInt8} {p : Nat} {key : List UInt8} {n : Int} {back : Bool} (hp : Utf.place s p = true) (hk : way key = some back) : res (goV s p key n) = resN back s p (max n 1).toNat := by
  rw [resN]
  by_cases h : p = edge back s
  · rw [if_pos h, goV_edge hk h]; rfl
  · rw [if_neg h, goV_at hp hk h]; exact res_at (by omega)
/-- What Block answers. -/
def blkT (s : List UInt8) (p : Int) (two : Bool) : Value :=
  if Utf.place s p = true then .tuple #[.int .i64 ((blockV (all s) (Line.of_ s p).toNat two).1 : Nat), .int .i64 ((blockV (all s) (Line.of_ s p).toNat two).2 : Nat)] else .tuple #[.int .i64 (-1), .int .i64 (-1)]
/-- The ways of Block: the blocks from the ath to the zth. -/
theorem blockV_one {B : List Bl} {k i : Nat} {b : Bl} (hi : (B.findIdx? fun b => decide (k ≤ b.l)) = some i) (hb : B[i]? = some b) : blockV B k false = (b.f, b.l) := by
  rw [blockV, hi]; simp only [hb]; rfl
theorem blockV_next {B : List Bl} {k i : Nat} {b c : Bl} (hi : (B.findIdx? fun b => decide (k ≤ b.l)) = some i) (hb : B[i]? = some b) (hc : B[i + 1]? = some c) : blockV B k true = (b.f, c.l) := by
  rw [blockV, hi]; simp only [hb, hc]; rfl
theorem blockV_prev {B : List Bl} {k i : Nat} {b c : Bl} (hi : (B.findIdx? fun b => decide (k ≤ b.l)) = some (i + 1)) (hb : B[i + 1]? = some b) (hn : B[i + 1 + 1]? = none) (hc : B[i]? = some c) : blockV B k true = (c.f, b.l) := by
  rw [blockV, hi]; simp only [hb, hn, Nat.add_sub_cancel, hc]; rfl
theorem blockV_only {B : List Bl} {k : Nat} {b : Bl} (hi : (B.findIdx? fun b => decide (k ≤ b.l)) = some 0) (hb : B[0]? = some b) (hn : B[0 + 1]? = none) : blockV B k true = (b.f, b.l) := by
  rw [blockV, hi]; simp only [hb, hn]; rfl
end Para
/-- How all of the list lies: the ath block's first line, the zth's last one. -/
theorem Para.Bls.two {w : World} {A : Option Addr} {l : List Bl} (h : Bls w A l) {a z : Nat} {b c : Bl} (ha : l[a]? = some b) (hz : l[z]? = some c) : ∃ g, A = some ⟨g, 0, none⟩ ∧ w.cell? ⟨g, a * 5 + 1, none⟩ = some (.int .i64 (b.f : Nat)) ∧ w.cell? ⟨g, z * 5 + 2, none⟩ = some (.int .i64 (c.l : Nat)) := by
  obtain ⟨g, e, _, hc⟩ := h (by have := (List.getElem?_eq_some_iff.1 ha).1; omega)
  exact ⟨g, e, hc a b ha 1 _ rfl, hc z c hz 2 _ rfl⟩
set_option maxHeartbeats 2000000 in
set_option maxRecDepth 100000 in
theorem para_Block_one (s : ByteArray) (p : Int) (hs : s.size ≤ 1000000000000) (hp : Utf.place s.data.toList p = true) {k i : Nat} {b : Para.Bl} {B : List Para.Bl} (hk : Line.of_ s.data.toList p = k) (hB : Para.all s.data.toList = B)
    (hix : (B.findIdx? fun b => decide (k ≤ b.l)) = some i) (hb : B[i]? = some b) (w : World) :
    Calls Try.prog 50 #[.string s, .int .i64 p, .bool false] w fun e w' => e = .returned (Para.blkT s.data.toList p false) ∧ Below w.heap.size w w' := by
  have hl := data_len s
  have hv := Line.place_ok hp
  have c1 := Lib.hid (fun w => utf_Place s p (by omega) w)
  rw [hp] at c1
  have c2 := Lib.hid (fun w => line_Of s p hs w)
  rw [hk] at c2
  have c3 := Lib.hid (fun w => para_blocks s w)
  have c4 := Lib.hid (fun tB w hT => sl_collect tB s hs hv w hT)
  have hBl := Para.all_length s.data.toList
  have H : Hid (Para.blkT s.data.toList p false = .tuple #[.int .i64 (b.f : Nat), .int .i64 (b.l : Nat)]) := by show _ = _; rw [Para.blkT, if_pos hp, hk, Int.toNat_natCast, hB, Para.blockV_one hix hb]
  rw [hB] at c4 hBl
  replace hBl : B.length ≤ 1000000000002 := by omega
  have hA : B[i]? = some b := by assumption
  have hZ : B[i]? = some b := by assumption
  have hib : i < B.length := (List.getElem?_eq_some_iff.1 hb).1
  clear hl hv hp hk hB hs
  go_enter Try.func50, Try.ntmps50
  go_wp2_with (first
      | (go_at_call 11; refine (c1.out _).mono ?_; rintro e w1 ⟨rfl, rfl⟩)
      | (go_at_call 12; refine (c2.out _).mono ?_; rintro e w1 ⟨rfl, hb1⟩; have hkb := Boxed.new w1 3 (.int .i64 (k : Nat)); have hB2 := hb1.alloc hb1.size (.cells #[.int .i64 (k : Nat)] 3))
      | (go_at_call 72; refine (c3.out _).mono ?_; rintro e w2 ⟨rfl, rfl⟩; have hT := Boxed.new (w1.alloc (.cells #[.int .i64 (k : Nat)] 3)) 9 (.string s); have hkb2 := hkb.alloc (.cells #[.string s] 9); have hB3 := hB2.alloc hB2.size (.cells #[.string s] 9); simp only [World.size_alloc] at hT)
      | (go_at_call 71; refine (c4.out _ _ hT).mono ?_; rintro e w3 ⟨⟨v, rfl, hr⟩, hb3⟩; obtain ⟨A, cp, rfl⟩ := own_long hr; have hL := Para.Bls.of_own hr; have hkb3 := (hb3.block _ hkb2.lt).trans hkb2; have hB4 := hB3.trans (hb3.mono hB3.size); clear hr)
      | (go_at_call 73; refine (sl_index_bl hL hkb3 hBl hix).mono ?_; rintro e w4 ⟨rfl, hb4⟩; obtain ⟨g, rfl, q1, q2⟩ := (hL.below hb4).two hA hZ; have hB5 := hB4.trans (hb4.mono hB4.size); clear hL hkb3))
  go_region
  all_goals
    go_wp2
    go_ret2
    exact ⟨by rw [H.out]; rfl, by first | exact hB5 | exact hB5.drew⟩
set_option maxHeartbeats 2000000 in
set_option maxRecDepth 100000 in
theorem para_Block_next (s : ByteArray) (p : Int) (hs : s.size ≤ 1000000000000) (hp : Utf.place s.data.toList p = true) {k i : Nat} {b c : Para.Bl} {B : List Para.Bl} (hk : Line.of_ s.data.toList p = k) (hB : Para.all s.data.toList = B)
    (hix : (B.findIdx? fun b => decide (k ≤ b.l)) = some i) (hb : B[i]? = some b) (hc : B[i + 1]? = some c) (w : World) :
    Calls Try.prog 50 #[.string s, .int .i64 p, .bool true] w fun e w' => e = .returned (Para.blkT s.data.toList p true) ∧ Below w.heap.size w w' := by
  have hl := data_len s
  have hv := Line.place_ok hp
  have c1 := Lib.hid (fun w => utf_Place s p (by omega) w)
  rw [hp] at c1
  have c2 := Lib.hid (fun w => line_Of s p hs w)
  rw [hk] at c2
  have c3 := Lib.hid (fun w => para_blocks s w)
  have c4 := Lib.hid (fun tB w hT => sl_collect tB s hs hv w hT)
  have hBl := Para.all_length s.data.toList
  have H : Hid (Para.blkT s.data.toList p true = .tuple #[.int .i64 (b.f : Nat), .int .i64 (c.l : Nat)]) := by show _ = _; rw [Para.blkT, if_pos hp, hk, Int.toNat_natCast, hB, Para.blockV_next hix hb hc]
  rw [hB] at c4 hBl
  replace hBl : B.length ≤ 1000000000002 := by omega
  have hA : B[i]? = some b := by assumption
  have hZ : B[(i + 1)]? = some c := by assumption
  have hib : i < B.length := (List.getElem?_eq_some_iff.1 hb).1
  have g0 := (List.getElem?_eq_some_iff.1 hc).1
  have g1 : decide ((i : Int) + 1 < (B.length : Int)) = true := decide_eq_true (by omega)
  have g3 : (i : Int) + 1 < (B.length : Int) := by omega
  have g4 : (0 : Int) ≤ (i : Int) + 1 := by omega
  have g5 : ((i : Int) + 1).toNat = i + 1 := by omega
  clear hl hv hp hk hB hs
  go_enter Try.func50, Try.ntmps50
  go_wp2_with (first
      | (go_at_call 11; refine (c1.out _).mono ?_; rintro e w1 ⟨rfl, rfl⟩)
      | (go_at_call 12; refine (c2.out _).mono ?_; rintro e w1 ⟨rfl, hb1⟩; have hkb := Boxed.new w1 3 (.int .i64 (k : Nat)); have hB2 := hb1.alloc hb1.size (.cells #[.int .i64 (k : Nat)] 3))
      | (go_at_call 72; refine (c3.out _).mono ?_; rintro e w2 ⟨rfl, rfl⟩; have hT := Boxed.new (w1.alloc (.cells #[.int .i64 (k : Nat)] 3)) 9 (.string s); have hkb2 := hkb.alloc (.cells #[.string s] 9); have hB3 := hB2.alloc hB2.size (.cells #[.string s] 9); simp only [World.size_alloc] at hT)
      | (go_at_call 71; refine (c4.out _ _ hT).mono ?_; rintro e w3 ⟨⟨v, rfl, hr⟩, hb3⟩; obtain ⟨A, cp, rfl⟩ := own_long hr; have hL := Para.Bls.of_own hr; have hkb3 := (hb3.block _ hkb2.lt).trans hkb2; have hB4 := hB3.trans (hb3.mono hB3.size); clear hr)
      | (go_at_call 73; refine (sl_index_bl hL hkb3 hBl hix).mono ?_; rintro e w4 ⟨rfl, hb4⟩; obtain ⟨g, rfl, q1, q2⟩ := (hL.below hb4).two hA hZ; have hB5 := hB4.trans (hb4.mono hB4.size); clear hL hkb3))
  go_region
  all_goals
    go_wp2
    go_ret2
    exact ⟨by rw [H.out]; rfl, by first | exact hB5 | exact hB5.drew⟩
set_option maxHeartbeats 2000000 in
set_option maxRecDepth 100000 in
theorem para_Block_prev (s : ByteArray) (p : Int) (hs : s.size ≤ 1000000000000) (hp : Utf.place s.data.toList p = true) {k i : Nat} {b c : Para.Bl} {B : List Para.Bl} (hk : Line.of_ s.data.toList p = k) (hB : Para.all s.data.toList = B)
    (hix : (B.findIdx? fun b => decide (k ≤ b.l)) = some (i + 1)) (hb : B[(i + 1)]? = some b) (hn : B[i + 1 + 1]? = none) (hc : B[i]? = some c) (w : World) :
    Calls Try.prog 50 #[.string s, .int .i64 p, .bool true] w fun e w' => e = .returned (Para.blkT s.data.toList p true) ∧ Below w.heap.size w w' := by
  have hl := data_len s
  have hv := Line.place_ok hp
  have c1 := Lib.hid (fun w => utf_Place s p (by omega) w)
  rw [hp] at c1
  have c2 := Lib.hid (fun w => line_Of s p hs w)
  rw [hk] at c2
  have c3 := Lib.hid (fun w => para_blocks s w)
  have c4 := Lib.hid (fun tB w hT => sl_collect tB s hs hv w hT)
  have hBl := Para.all_length s.data.toList
  have H : Hid (Para.blkT s.data.toList p true = .tuple #[.int .i64 (c.f : Nat), .int .i64 (b.l : Nat)]) := by show _ = _; rw [Para.blkT, if_pos hp, hk, Int.toNat_natCast, hB, Para.blockV_prev hix hb hn hc]
  rw [hB] at c4 hBl
  replace hBl : B.length ≤ 1000000000002 := by omega
  have hA : B[i]? = some c := by assumption
  have hZ : B[(i + 1)]? = some b := by assumption
  have hib : (i + 1) < B.length := (List.getElem?_eq_some_iff.1 hb).1
  have g1 : decide ((i : Int) + 1 + 1 < (B.length : Int)) = false := decide_eq_false (by have := List.getElem?_eq_none_iff.1 hn; omega)
  have g2 : decide ((0 : Int) < (i : Int) + 1) = true := decide_eq_true (by omega)
  clear hl hv hp hk hB hs
  go_enter Try.func50, Try.ntmps50
  go_wp2_with (first
      | (go_at_call 11; refine (c1.out _).mono ?_; rintro e w1 ⟨rfl, rfl⟩)
      | (go_at_call 12; refine (c2.out _).mono ?_; rintro e w1 ⟨rfl, hb1⟩; have hkb := Boxed.new w1 3 (.int .i64 (k : Nat)); have hB2 := hb1.alloc hb1.size (.cells #[.int .i64 (k : Nat)] 3))
      | (go_at_call 72; refine (c3.out _).mono ?_; rintro e w2 ⟨rfl, rfl⟩; have hT := Boxed.new (w1.alloc (.cells #[.int .i64 (k : Nat)] 3)) 9 (.string s); have hkb2 := hkb.alloc (.cells #[.string s] 9); have hB3 := hB2.alloc hB2.size (.cells #[.string s] 9); simp only [World.size_alloc] at hT)
      | (go_at_call 71; refine (c4.out _ _ hT).mono ?_; rintro e w3 ⟨⟨v, rfl, hr⟩, hb3⟩; obtain ⟨A, cp, rfl⟩ := own_long hr; have hL := Para.Bls.of_own hr; have hkb3 := (hb3.block _ hkb2.lt).trans hkb2; have hB4 := hB3.trans (hb3.mono hB3.size); clear hr)
      | (go_at_call 73; refine (sl_index_bl hL hkb3 hBl hix).mono ?_; rintro e w4 ⟨rfl, hb4⟩; obtain ⟨g, rfl, q1, q2⟩ := (hL.below hb4).two hA hZ; have hB5 := hB4.trans (hb4.mono hB4.size); clear hL hkb3))
  go_region
  all_goals
    go_wp2
    go_ret2
    exact ⟨by rw [H.out]; rfl, by first | exact hB5 | exact hB5.drew⟩
set_option maxHeartbeats 2000000 in
set_option maxRecDepth 100000 in
theorem para_Block_only (s : ByteArray) (p : Int) (hs : s.size ≤ 1000000000000) (hp : Utf.place s.data.toList p = true) {k : Nat} {b : Para.Bl} {B : List Para.Bl} (hk : Line.of_ s.data.toList p = k) (hB : Para.all s.data.toList = B)
    (hix : (B.findIdx? fun b => decide (k ≤ b.l)) = some 0) (hb : B[0]? = some b) (hn : B[0 + 1]? = none) (w : World) :
    Calls Try.prog 50 #[.string s, .int .i64 p, .bool true] w fun e w' => e = .returned (Para.blkT s.data.toList p true) ∧ Below w.heap.size w w' := by
  have hl := data_len s
  have hv := Line.place_ok hp
  have c1 := Lib.hid (fun w => utf_Place s p (by omega) w)
  rw [hp] at c1
  have c2 := Lib.hid (fun w => line_Of s p hs w)
  rw [hk] at c2
  have c3 := Lib.hid (fun w => para_blocks s w)
  have c4 := Lib.hid (fun tB w hT => sl_collect tB s hs hv w hT)
  have hBl := Para.all_length s.data.toList
  have H : Hid (Para.blkT s.data.toList p true = .tuple #[.int .i64 (b.f : Nat), .int .i64 (b.l : Nat)]) := by show _ = _; rw [Para.blkT, if_pos hp, hk, Int.toNat_natCast, hB, Para.blockV_only hix hb hn]
  rw [hB] at c4 hBl
  replace hBl : B.length ≤ 1000000000002 := by omega
  have hA : B[0]? = some b := by assumption
  have hZ : B[0]? = some b := by assumption
  have hib : 0 < B.length := (List.getElem?_eq_some_iff.1 hb).1
  have g1 : decide ((1 : Int) < (B.length : Int)) = false := decide_eq_false (by have := List.getElem?_eq_none_iff.1 hn; omega)
  clear hl hv hp hk hB hs
  go_enter Try.func50, Try.ntmps50
  go_wp2_with (first
      | (go_at_call 11; refine (c1.out _).mono ?_; rintro e w1 ⟨rfl, rfl⟩)
      | (go_at_call 12; refine (c2.out _).mono ?_; rintro e w1 ⟨rfl, hb1⟩; have hkb := Boxed.new w1 3 (.int .i64 (k : Nat)); have hB2 := hb1.alloc hb1.size (.cells #[.int .i64 (k : Nat)] 3))
      | (go_at_call 72; refine (c3.out _).mono ?_; rintro e w2 ⟨rfl, rfl⟩; have hT := Boxed.new (w1.alloc (.cells #[.int .i64 (k : Nat)] 3)) 9 (.string s); have hkb2 := hkb.alloc (.cells #[.string s] 9); have hB3 := hB2.alloc hB2.size (.cells #[.string s] 9); simp only [World.size_alloc] at hT)
      | (go_at_call 71; refine (c4.out _ _ hT).mono ?_; rintro e w3 ⟨⟨v, rfl, hr⟩, hb3⟩; obtain ⟨A, cp, rfl⟩ := own_long hr; have hL := Para.Bls.of_own hr; have hkb3 := (hb3.block _ hkb2.lt).trans hkb2; have hB4 := hB3.trans (hb3.mono hB3.size); clear hr)
      | (go_at_call 73; refine (sl_index_bl hL hkb3 hBl hix).mono ?_; rintro e w4 ⟨rfl, hb4⟩; obtain ⟨g, rfl, q1, q2⟩ := (hL.below hb4).two hA hZ; have hB5 := hB4.trans (hb4.mono hB4.size); clear hL hkb3))
  go_region
  all_goals
    go_wp2
    go_ret2
    exact ⟨by rw [H.out]; rfl, by first | exact hB5 | exact hB5.drew⟩
end Go.Proofs.Ytohdijhpoddbbaa
/-
  The document's blocks of lines: which lines are empty, the lines around one that are like it, Block.
-/
namespace Go.Proofs.Ytohdijhpoddbbaa
open Go.RowKit
namespace Para
/-- The block of line k alone, as two numbers. -/
def blkN (s : List UInt8) (k : Nat) : Value := .tuple #[.int .i64 ((blockV (all s) k false).1 : Nat), .int .i64 ((blockV (all s) k false).2 : Nat)]
theorem blkN_of {s : List UInt8} (hv : Utf.valid s = true) {k a b : Nat} (h : IsBl (emp s) (Line.L s).length k a b) : blkN s k = .tuple #[.int .i64 (a : Nat), .int .i64 (b : Nat)] := by
  obtain ⟨h1, h2⟩ := ((all_right hv).block (Nat.lt_of_le_of_lt h.ge h.lt)).unique h
  rw [blkN, h1, h2]
end Para
theorem ref18_empty (s : ByteArray) (k : Nat) (hs : s.size ≤ 1000000000000) (hk : k < (Line.L s.data.toList).length) (w : World) :
    Calls Try.prog 55 #[.string s, .int .i64 (k : Nat)] w fun e w' => e = .returned (.bool (Para.emp s.data.toList k)) ∧ Below w.heap.size w w' := by
  have hg := List.getElem?_eq_getElem hk
  have c1 := Lib.hid (fun w => ref4_Start s k hs w)
  have c2 := Lib.hid (fun w => ref4_End s k hs w)
  have H : Hid (Para.emp s.data.toList k = decide ((Line.L s.data.toList)[k].1 = (Line.L s.data.toList)[k].2)) := Para.emp_at hg
  rw [Line.start_some (by rw [Line.line_nat, hg])] at c1
  rw [Line.stop_some (by rw [Line.line_nat, hg])] at c2
  generalize (Line.L s.data.toList)[k] = x at *
  clear hg hk
  go_enter Try.func55, Try.ntmps55
  go_wp2_with (first
    | (go_at_call 17; refine (c1.out _).mono ?_; rintro e w1 ⟨rfl, hb1⟩)
    | (go_at_call 18; refine (c2.out _).mono ?_; rintro e w2 ⟨rfl, hb2⟩))
  go_ret
  refine ⟨?_, hb1.trans (hb2.mono hb1.size)⟩
  rw [H.out]
  show Ending.returned (Value.bool _) = _
  congr 2
  rw [Bool.eq_iff_iff]
  simp
  omega
set_option maxHeartbeats 1000000 in
set_option maxRecDepth 100000 in
theorem below_run {n : Nat} {w u v : World} (h : Below n w u) (g : Below u.heap.size u v) (hn : n ≤ w.heap.size := by omega) : Below n w v := h.trans (g.mono (Nat.le_trans hn h.size))
set_option maxHeartbeats 1000000 in
set_option maxRecDepth 100000 in
theorem ref18_run (s : ByteArray) (k : Nat) (hs : s.size ≤ 1000000000000) (hk : k < (Line.L s.data.toList).length) (w : World) :
    Calls Try.prog 35 #[.string s, .int .i64 (k : Nat)] w fun e w' => e = .returned (Para.blkN s.data.toList k) ∧ Below w.heap.size w w' := by
  have hv := Line.L_valid (List.getElem?_eq_getElem hk)
  have hlen := Line.L_length s.data.toList
  rw [data_len] at hlen
  obtain ⟨m, hm⟩ : ∃ m, (Line.L s.data.toList).length = m + 1 := ⟨(Line.L s.data.toList).length - 1, by omega⟩
  have ek := Lib.hid (fun w => ref18_empty s k hs hk w)
  have cc := Lib.hid (fun w => ref4_Count s hs w)
  rw [hm] at cc
  have HM := Lib.hid hm
  have hkm : k ≤ m := by omega
  have hm9 : m ≤ 1000000000000 := by omega
  obtain ⟨z, hz⟩ : ∃ z, Para.emp s.data.toList k = z := ⟨_, rfl⟩
  rw [hz] at ek
  have HZ := Lib.hid hz
  have hW := Below.refl w.heap.size w
  have q0 : IntKind.i64.wrap ((m : Nat) : Int) = (m : Nat) := by rw [IntKind.wrap_i64]; omega
  clear hz hm hk hlen
  go_enter Try.func35, Try.ntmps35
  go_wp2
  go_loopw [6] (fun av wr => ∃ a : Nat, av = .int .i64 a ∧ a ≤ k ∧ Below w.heap.size w wr ∧ Hid (∀ j, a ≤ j → j ≤ k → Para.emp s.data.toList j = z)) (fun av _ => (intOf av).toNat)
  case atStart => exact ⟨k, rfl, Nat.le_refl _, hW, fun j h1 h2 => by rw [show j = k by omega]; exact HZ.out⟩
  case round =>
    obtain ⟨a, rfl, hak, hW, HA⟩ := hrel
    rcases a with _ | a
    · rw [show (((0 : Nat) : Int)) = 0 from rfl]
      go_wp2
      go_loopw [7] (fun bv wr => ∃ b : Nat, bv = .int .i64 b ∧ k ≤ b ∧ b ≤ m ∧ Below w.heap.size w wr ∧ Hid (∀ j, k ≤ j → j ≤ b → Para.emp s.data.toList j = z)) (fun bv _ => m - (intOf bv).toNat)
      case atStart => exact ⟨k, rfl, Nat.le_refl _, hkm, hW, fun j h1 h2 => by rw [show j = k by omega]; exact HZ.out⟩
      case round =>
        obtain ⟨b, rfl, hkb, hbm, hW, HB⟩ := hrel
        by_cases hlt : b < m
        · have g1 : decide ((b : Int) < (m : Int)) = true := decide_eq_true (by omega)
          have g1n : decide (b < m) = true := decide_eq_true hlt
          have e1 := Lib.hid (fun w => ref18_empty s (b + 1) hs (by have := HM.out; omega) w)
          rw [show ((b + 1 : Nat) : Int) = (b : Int) + 1 from rfl] at e1
          by_cases hz : Para.emp s.data.toList (b + 1) = z
          · have HB2 : Hid (∀ j, k ≤ j → j ≤ b + 1 → Para.emp s.data.toList j = z) := fun j h1 h2 => by
              rcases Nat.lt_or_ge b j with h | h
              · rw [show j = b + 1 by omega]; exact hz
              · exact HB.out j h1 h
            rw [hz] at e1
            have g2 : (z == z) = true := by cases z <;> rfl
            clear hz HB
            go_wp2_with (first
              | (go_at_call 36; (with_reducible refine (cc.out _).mono ?_); rintro e w2 ⟨rfl, hbn⟩; replace hW := below_run hW hbn; clear hbn)
              | (go_at_call 55; (with_reducible refine (e1.out _).mono ?_); rintro e w3 ⟨rfl, hbn⟩; replace hW := below_run hW hbn; clear hbn)
              | (go_at_call 55; (with_reducible refine (ek.out _).mono ?_); rintro e w4 ⟨rfl, hbn⟩; replace hW := below_run hW hbn; clear hbn))
            go_roundw
            case rel => exact ⟨b + 1, by go_num, by omega, by omega, hW, HB2⟩
            case measure => simp [intOf]; omega
          · have hz2 : Para.emp s.data.toList (b + 1) = !z := by cases h : Para.emp s.data.toList (b + 1) <;> cases z <;> simp_all
            have H : Hid (Para.blkN s.data.toList k = .tuple #[.int .i64 ((0 : Nat) : Int), .int .i64 (b : Nat)]) :=
              Para.blkN_of hv ⟨hak, hkb, by rw [HM.out]; omega, fun j h1 h2 => by rw [HZ.out]; rcases Nat.lt_or_ge j k with h | h; exact HA.out j h1 (by omega); exact HB.out j h h2, by rw [HZ.out]; exact .inl rfl, .inr (by rw [hz2, HZ.out]; cases z <;> simp)⟩
            rw [hz2] at e1
            have g2 : ((!z) == z) = false := by cases z <;> rfl
            clear hz hz2 HB
            go_wp2_with (first
              | (go_at_call 36; (with_reducible refine (cc.out _).mono ?_); rintro e w2 ⟨rfl, hbn⟩; replace hW := below_run hW hbn; clear hbn)
              | (go_at_call 55; (with_reducible refine (e1.out _).mono ?_); rintro e w3 ⟨rfl, hbn⟩; replace hW := below_run hW hbn; clear hbn)
              | (go_at_call 55; (with_reducible refine (ek.out _).mono ?_); rintro e w4 ⟨rfl, hbn⟩; replace hW := below_run hW hbn; clear hbn))
            go_ret2
            exact ⟨by rw [H.out]; rfl, hW⟩
        · obtain rfl : b = m := by omega
          have g1 : decide ((b : Int) < (b : Int)) = false := decide_eq_false (by omega)
          have H : Hid (Para.blkN s.data.toList k = .tuple #[.int .i64 ((0 : Nat) : Int), .int .i64 (b : Nat)]) :=
            Para.blkN_of hv ⟨hak, hkb, by rw [HM.out]; omega, fun j h1 h2 => by rw [HZ.out]; rcases Nat.lt_or_ge j k with h | h; exact HA.out j h1 (by omega); exact HB.out j h h2, by rw [HZ.out]; exact .inl rfl, .inl HM.out.symm⟩
          clear HB
          go_wp2_with (first
            | (go_at_call 36; (with_reducible refine (cc.out _).mono ?_); rintro e w2 ⟨rfl, hbn⟩; replace hW := below_run hW hbn; clear hbn))
          go_ret2
          exact ⟨by rw [H.out]; rfl, hW⟩
    · have e0 := Lib.hid (fun w => ref18_empty s a hs (by have := HM.out; omega) w)
      have q1 : IntKind.i64.wrap ((a : Nat) : Int) = (a : Nat) := by rw [IntKind.wrap_i64]; omega
      have g0 : decide ((0 : Int) < (a : Int) + 1) = true := decide_eq_true (by omega)
      by_cases hz : Para.emp s.data.toList a = z
      · have HA2 : Hid (∀ j, a ≤ j → j ≤ k → Para.emp s.data.toList j = z) := fun j h1 h2 => by
          rcases Nat.lt_or_ge a j with h | h
          · exact HA.out j h h2
          · rw [show j = a by omega]; exact hz
        rw [hz] at e0
        have g2 : (z == z) = true := by cases z <;> rfl
        clear hz HA
        go_wp2_with (first
          | (go_at_call 55; (with_reducible refine (e0.out _).mono ?_); rintro e w1 ⟨rfl, hbn⟩; replace hW := below_run hW hbn; clear hbn)
          | (go_at_call 55; (with_reducible refine (ek.out _).mono ?_); rintro e w5 ⟨rfl, hbn⟩; replace hW := below_run hW hbn; clear hbn))
        go_roundw
        case rel => exact ⟨a, by go_num, by omega, hW, HA2⟩
        case measure => simp [intOf]
      · have hz2 : Para.emp s.data.toList a = !z := by cases h : Para.emp s.data.toList a <;> cases z <;> simp_all
        have HD : Hid (Para.emp s.data.toList a ≠ z) := by show _ ≠ _; rw [hz2]; cases z <;> simp
        rw [hz2] at e0
        have g2 : ((!z) == z) = false := by cases z <;> rfl
        clear hz hz2
        go_wp2_with (first
          | (go_at_call 55; (with_reducible refine (e0.out _).mono ?_); rintro e w1 ⟨rfl, hbn⟩; replace hW := below_run hW hbn; clear hbn)
          | (go_at_call 55; (with_reducible refine (ek.out _).mono ?_); rintro e w5 ⟨rfl, hbn⟩; replace hW := below_run hW hbn; clear hbn))
        go_loopw [7] (fun bv wr => ∃ b : Nat, bv = .int .i64 b ∧ k ≤ b ∧ b ≤ m ∧ Below w.heap.size w wr ∧ Hid (∀ j, k ≤ j → j ≤ b → Para.emp s.data.toList j = z)) (fun bv _ => m - (intOf bv).toNat)
        case atStart => exact ⟨k, rfl, Nat.le_refl _, hkm, hW, fun j h1 h2 => by rw [show j = k by omega]; exact HZ.out⟩
        case round =>
          obtain ⟨b, rfl, hkb, hbm, hW, HB⟩ := hrel
          by_cases hlt : b < m
          · have g1 : decide ((b : Int) < (m : Int)) = true := decide_eq_true (by omega)
            have g1n : decide (b < m) = true := decide_eq_true hlt
            have e1 := Lib.hid (fun w => ref18_empty s (b + 1) hs (by have := HM.out; omega) w)
            rw [show ((b + 1 : Nat) : Int) = (b : Int) + 1 from rfl] at e1
            by_cases hz : Para.emp s.data.toList (b + 1) = z
            · have HB2 : Hid (∀ j, k ≤ j → j ≤ b + 1 → Para.emp s.data.toList j = z) := fun j h1 h2 => by
                rcases Nat.lt_or_ge b j with h | h
                · rw [show j = b + 1 by omega]; exact hz
                · exact HB.out j h1 h
              rw [hz] at e1
              have g2 : (z == z) = true := by cases z <;> rfl
              clear hz HB
              go_wp2_with (first
                | (go_at_call 36; (with_reducible refine (cc.out _).mono ?_); rintro e w2 ⟨rfl, hbn⟩; replace hW := below_run hW hbn; clear hbn)
                | (go_at_call 55; (with_reducible refine (e1.out _).mono ?_); rintro e w3 ⟨rfl, hbn⟩; replace hW := below_run hW hbn; clear hbn)
                | (go_at_call 55; (with_reducible refine (ek.out _).mono ?_); rintro e w4 ⟨rfl, hbn⟩; replace hW := below_run hW hbn; clear hbn))
              go_roundw
              case rel => exact ⟨b + 1, by go_num, by omega, by omega, hW, HB2⟩
              case measure => simp [intOf]; omega
            · have hz2 : Para.emp s.data.toList (b + 1) = !z := by cases h : Para.emp s.data.toList (b + 1) <;> cases z <;> simp_all
              have H : Hid (Para.blkN s.data.toList k = .tuple #[.int .i64 (a + 1 : Nat), .int .i64 (b : Nat)]) :=
                Para.blkN_of hv ⟨hak, hkb, by rw [HM.out]; omega, fun j h1 h2 => by rw [HZ.out]; rcases Nat.lt_or_ge j k with h | h; exact HA.out j h1 (by omega); exact HB.out j h h2, by rw [HZ.out]; exact .inr (by rw [Nat.add_sub_cancel]; exact HD.out), .inr (by rw [hz2, HZ.out]; cases z <;> simp)⟩
              rw [hz2] at e1
              have g2 : ((!z) == z) = false := by cases z <;> rfl
              clear hz hz2 HB
              go_wp2_with (first
                | (go_at_call 36; (with_reducible refine (cc.out _).mono ?_); rintro e w2 ⟨rfl, hbn⟩; replace hW := below_run hW hbn; clear hbn)
                | (go_at_call 55; (with_reducible refine (e1.out _).mono ?_); rintro e w3 ⟨rfl, hbn⟩; replace hW := below_run hW hbn; clear hbn)
                | (go_at_call 55; (with_reducible refine (ek.out _).mono ?_); rintro e w4 ⟨rfl, hbn⟩; replace hW := below_run hW hbn; clear hbn))
              go_ret2
              exact ⟨by rw [H.out]; rfl, hW⟩
          · obtain rfl : b = m := by omega
            have g1 : decide ((b : Int) < (b : Int)) = false := decide_eq_false (by omega)
            have H : Hid (Para.blkN s.data.toList k = .tuple #[.int .i64 (a + 1 : Nat), .int .i64 (b : Nat)]) :=
              Para.blkN_of hv ⟨hak, hkb, by rw [HM.out]; omega, fun j h1 h2 => by rw [HZ.out]; rcases Nat.lt_or_ge j k with h | h; exact HA.out j h1 (by omega); exact HB.out j h h2, by rw [HZ.out]; exact .inr (by rw [Nat.add_sub_cancel]; exact HD.out), .inl HM.out.symm⟩
            clear HB
            go_wp2_with (first
              | (go_at_call 36; (with_reducible refine (cc.out _).mono ?_); rintro e w2 ⟨rfl, hbn⟩; replace hW := below_run hW hbn; clear hbn))
            go_ret2
            exact ⟨by rw [H.out]; rfl, hW⟩
end Go.Proofs.Ytohdijhpoddbbaa
/-
  Block, on both sides: the block of a place's line, alone and with another one.
-/
namespace Go.Proofs.Ytohdijhpoddbbaa
open Go.RowKit
theorem Para.blkT_out {s : List UInt8} {p : Int} {two : Bool} (h : Utf.place s p = false) : Para.blkT s p two = .tuple #[.int .i64 (-1), .int .i64 (-1)] := if_neg (by simp [h])
theorem para_Block (s : ByteArray) (p : Int) (two : Bool) (hs : s.size ≤ 1000000000000) (w : World) :
    Calls Try.prog 50 #[.string s, .int .i64 p, .bool two] w fun e w' => e = .returned (Para.blkT s.data.toList p two) ∧ Below w.heap.size w w' := by
  cases hp : Utf.place s.data.toList p with
  | false =>
    have hl := data_len s
    have c1 := Lib.hid (fun w => utf_Place s p (by omega) w)
    rw [hp] at c1
    have H : Hid (Para.blkT s.data.toList p two = .tuple #[.int .i64 (-1), .int .i64 (-1)]) := Para.blkT_out hp
    clear hp hl
    go_enter Try.func50, Try.ntmps50
    go_wp2_with (go_at_call 11; refine (c1.out _).mono ?_; rintro e w1 ⟨rfl, rfl⟩)
    go_ret2
    exact ⟨by rw [H.out]; rfl, Below.refl _ _⟩
  | true =>
    obtain ⟨n, k, x, rfl, hk, h1, h2, h3, e1, e2, e3⟩ := Line.place_line hp
    have hkl := (List.getElem?_eq_some_iff.1 hk).1
    obtain ⟨i, b, hi, _, _, _, hix⟩ := (Para.all_right (Line.place_ok hp)).idx hkl
    cases two with
    | false => exact para_Block_one s n hs hp e1 rfl hix hi w
    | true =>
      cases hn : (Para.all s.data.toList)[i + 1]? with
      | some c => exact para_Block_next s n hs hp e1 rfl hix hi hn w
      | none =>
        cases i with
        | zero => exact para_Block_only s n hs hp e1 rfl hix hi hn w
        | succ i =>
          have hil : i < (Para.all s.data.toList).length := by have := (List.getElem?_eq_some_iff.1 hi).1; omega
          have hc : (Para.all s.data.toList)[i]? = some (Para.all s.data.toList)[i] := List.getElem?_eq_getElem hil
          exact para_Block_prev s n hs hp e1 rfl hix hi hn hc w
set_option maxHeartbeats 1000000 in
set_option maxRecDepth 100000 in
theorem ref18_Block (s : ByteArray) (p : Int) (two : Bool) (hs : s.size ≤ 1000000000000) (w : World) :
    Calls Try.prog 16 #[.string s, .int .i64 p, .bool two] w fun e w' => e = .returned (Para.blkT s.data.toList p two) ∧ Below w.heap.size w w' := by
  have c1 := Lib.hid (fun w => ref_Place s p (by omega) w)
  have hW := Below.refl w.heap.size w
  cases hp : Utf.place s.data.toList p with
  | false =>
    rw [hp] at c1
    have H : Hid (Para.blkT s.data.toList p two = .tuple #[.int .i64 (-1), .int .i64 (-1)]) := Para.blkT_out hp
    clear hp
    go_enter Try.func16, Try.ntmps16
    go_wp2_with (go_at_call 14; refine (c1.out _).mono ?_; rintro e w1 ⟨rfl, hbn⟩; replace hW := below_run hW hbn; clear hbn)
    go_ret2
    exact ⟨by rw [H.out]; rfl, hW⟩
  | true =>
    rw [hp] at c1
    obtain ⟨n, k, x, rfl, hk, h1, h2, h3, e1, e2, e3⟩ := Line.place_line hp
    have hkl := (List.getElem?_eq_some_iff.1 hk).1
    have hv := Line.place_ok hp
    have R := Para.all_right hv
    have hI := R.block hkl
    have T2 := R.block_two hI
    have c2 := Lib.hid (fun w => ref4_Of s n hs w)
    rw [e1] at c2
    have c3 := Lib.hid (fun w => ref18_run s k hs hkl w)
    rw [Para.blkN] at c3
    have HT : ∀ two, Para.blkT s.data.toList n two = .tuple #[.int .i64 ((Para.blockV (Para.all s.data.toList) k two).1 : Nat), .int .i64 ((Para.blockV (Para.all s.data.toList) k two).2 : Nat)] := fun two => by rw [Para.blkT, if_pos hp, e1, Int.toNat_natCast]
    generalize hab : Para.blockV (Para.all s.data.toList) k false = ab at *
    obtain ⟨a, b⟩ := ab
    dsimp only at hI T2 c3
    cases two with
    | false =>
      have H : Hid (Para.blkT s.data.toList n false = .tuple #[.int .i64 (a : Nat), .int .i64 (b : Nat)]) := by show _ = _; rw [HT, hab]
      clear hp hk h1 h2 h3 e1 e2 e3 R hI T2 HT hab
      go_enter Try.func16, Try.ntmps16
      go_wp2_with (first
        | (go_at_call 14; refine (c1.out _).mono ?_; rintro e w1 ⟨rfl, hbn⟩; replace hW := below_run hW hbn; clear hbn)
        | (go_at_call 32; refine (c2.out _).mono ?_; rintro e w2 ⟨rfl, hbn⟩; replace hW := below_run hW hbn; clear hbn)
        | (go_at_call 35; refine (c3.out _).mono ?_; rintro e w3 ⟨rfl, hbn⟩; replace hW := below_run hW hbn; clear hbn))
      go_ret2
      exact ⟨by rw [H.out]; rfl, hW⟩
    | true =>
      have hlen := Line.L_length s.data.toList
      rw [data_len] at hlen
      obtain ⟨m, hm⟩ : ∃ m, (Line.L s.data.toList).length = m + 1 := ⟨(Line.L s.data.toList).length - 1, by omega⟩
      have cc := Lib.hid (fun w => ref4_Count s hs w)
      rw [hm] at cc hI T2
      have q0 : IntKind.i64.wrap ((m : Nat) : Int) = (m : Nat) := by rw [IntKind.wrap_i64]; omega
      have hbm := hI.lt
      have hak := hI.le
      have hbk := hI.ge
      by_cases hb : b < m
      · have hI2 := R.block (k := b + 1) (by omega)
        have c4 := Lib.hid (fun w => ref18_run s (b + 1) hs (by omega) w)
        rw [Para.blkN] at c4
        rw [hm] at hI2
        have hT := T2.1 _ _ (by omega) hI2
        generalize hcd : Para.blockV (Para.all s.data.toList) (b + 1) false = cd at *
        obtain ⟨c, d⟩ := cd
        dsimp only at hT c4
        rw [show ((b + 1 : Nat) : Int) = (b : Int) + 1 from rfl] at c4
        have H : Hid (Para.blkT s.data.toList n true = .tuple #[.int .i64 (a : Nat), .int .i64 (d : Nat)]) := by show _ = _; rw [HT, hT]
        have g1 : decide (b < m) = true := decide_eq_true hb
        clear hp hk h1 h2 h3 e1 e2 e3 R hI T2 HT hab hI2 hcd hT
        go_enter Try.func16, Try.ntmps16
        go_wp2_with (first
          | (go_at_call 14; refine (c1.out _).mono ?_; rintro e w1 ⟨rfl, hbn⟩; replace hW := below_run hW hbn; clear hbn)
          | (go_at_call 32; refine (c2.out _).mono ?_; rintro e w2 ⟨rfl, hbn⟩; replace hW := below_run hW hbn; clear hbn)
          | (go_at_call 36; refine (cc.out _).mono ?_; rintro e w2 ⟨rfl, hbn⟩; replace hW := below_run hW hbn; clear hbn)
          | (go_at_call 35; (with_reducible refine (c3.out _).mono ?_); rintro e w3 ⟨rfl, hbn⟩; replace hW := below_run hW hbn; clear hbn)
          | (go_at_call 35; (with_reducible refine (c4.out _).mono ?_); rintro e w3 ⟨rfl, hbn⟩; replace hW := below_run hW hbn; clear hbn))
        go_ret2
        exact ⟨by rw [H.out]; rfl, hW⟩
      · have g1 : decide (b < m) = false := decide_eq_false hb
        rcases a with _ | a
        · have hT := T2.2.2 (by omega) rfl
          have H : Hid (Para.blkT s.data.toList n true = .tuple #[.int .i64 0, .int .i64 (b : Nat)]) := by show _ = _; rw [HT, hT]; rfl
          rw [show ((0 : Nat) : Int) = 0 from rfl] at c3
          clear hp hk h1 h2 h3 e1 e2 e3 R hI T2 HT hab hT
          go_enter Try.func16, Try.ntmps16
          go_wp2_with (first
            | (go_at_call 14; refine (c1.out _).mono ?_; rintro e w1 ⟨rfl, hbn⟩; replace hW := below_run hW hbn; clear hbn)
            | (go_at_call 32; refine (c2.out _).mono ?_; rintro e w2 ⟨rfl, hbn⟩; replace hW := below_run hW hbn; clear hbn)
            | (go_at_call 36; refine (cc.out _).mono ?_; rintro e w2 ⟨rfl, hbn⟩; replace hW := below_run hW hbn; clear hbn)
            | (go_at_call 35; (with_reducible refine (c3.out _).mono ?_); rintro e w3 ⟨rfl, hbn⟩; replace hW := below_run hW hbn; clear hbn))
          go_ret2
          exact ⟨by rw [H.out]; rfl, hW⟩
        · have hI2 := R.block (k := a) (by omega)
          have c4 := Lib.hid (fun w => ref18_run s a hs (by omega) w)
          rw [Para.blkN] at c4
          rw [hm] at hI2
          have hT := T2.2.1 _ _ (by omega) (by omega) (by rw [Nat.add_sub_cancel]; exact hI2)
          generalize hcd : Para.blockV (Para.all s.data.toList) a false = cd at *
          obtain ⟨c, d⟩ := cd
          dsimp only at hT c4
          have H : Hid (Para.blkT s.data.toList n true = .tuple #[.int .i64 (c : Nat), .int .i64 (b : Nat)]) := by show _ = _; rw [HT, hT]
          rw [show ((a + 1 : Nat) : Int) = (a : Int) + 1 from rfl] at c3
          have g2 : decide ((0 : Int) < (a : Int) + 1) = true := decide_eq_true (by omega)
          have q1 : IntKind.i64.wrap ((a : Nat) : Int) = (a : Nat) := by rw [IntKind.wrap_i64]; omega
          clear hp hk h1 h2 h3 e1 e2 e3 R hI T2 HT hab hI2 hcd hT
          go_enter Try.func16, Try.ntmps16
          go_wp2_with (first
            | (go_at_call 14; refine (c1.out _).mono ?_; rintro e w1 ⟨rfl, hbn⟩; replace hW := below_run hW hbn; clear hbn)
            | (go_at_call 32; refine (c2.out _).mono ?_; rintro e w2 ⟨rfl, hbn⟩; replace hW := below_run hW hbn; clear hbn)
            | (go_at_call 36; refine (cc.out _).mono ?_; rintro e w2 ⟨rfl, hbn⟩; replace hW := below_run hW hbn; clear hbn)
            | (go_at_call 35; (with_reducible refine (c3.out _).mono ?_); rintro e w3 ⟨rfl, hbn⟩; replace hW := below_run hW hbn; clear hbn)
            | (go_at_call 35; (with_reducible refine (c4.out _).mono ?_); rintro e w3 ⟨rfl, hbn⟩; replace hW := below_run hW hbn; clear hbn))
          go_ret2
          exact ⟨by rw [H.out]; rfl, hW⟩
end Go.Proofs.Ytohdijhpoddbbaa
