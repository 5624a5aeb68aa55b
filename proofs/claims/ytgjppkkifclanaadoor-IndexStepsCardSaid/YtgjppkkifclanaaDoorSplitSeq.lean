/-
  strings.SplitSeq at a text of one byte, the line feed: the parts come one by one.
-/
import Derived.Test.YtgjppkkifclanaaDoorSeqOwn
import Derived.Test.YtgjppkkifclanaaDoorParts
import Derived.Test.YtgjppkkifclanaaDoorShelf
namespace Go.Proofs.YtgjppkkifclanaaDoor
open Go.RowKit Go.Shelf
attribute [local go_sem] Oper.semAt_some
namespace Ix
/-- The iterator's own step: it writes its text's box. -/
def Own (b : Nat) (A B : World) : Prop := ∃ v, B = A.setCell ⟨b, 0, none⟩ v
/-- What a round keeps: the iterator's three boxes. -/
def Boxes (b p k : Nat) (A B : World) : Prop := B.heap[b]? = A.heap[b]? ∧ B.heap[p]? = A.heap[p]? ∧ B.heap[k]? = A.heap[k]?
/-- How long the text in a box is. -/
def rest (b : Nat) (W : World) : Nat := match W.cell? ⟨b, 0, none⟩ with | some (.string s) => s.size | _ => 0
theorem Own.keeps {b : Nat} {A B : World} (h : Own b A B) : KeepsOthers A B := by
  obtain ⟨v, rfl⟩ := h
  exact KeepsOthers.setCell _ _ _
theorem Boxes.t {b p k : Nat} {A B C : World} (h : Boxes b p k A B) (q : Boxes b p k B C) : Boxes b p k A C := ⟨q.1.trans h.1, q.2.1.trans h.2.1, q.2.2.trans h.2.2⟩
theorem extract_take (r : List UInt8) (o : Nat) : (bs r).extract 0 o = bs (r.take o) := by rw [Lib.extract_eq]; simp [bs]
theorem extract_drop (r : List UInt8) (o : Nat) : (bs r).extract o r.length = bs (r.drop o) := by
  rw [Lib.extract_eq, List.take_of_length_le (by simp [bs])]; rfl
end Ix
theorem boxed_other {W : World} {B : Nat} {t : TypeId} {v : Value} (h : Boxed W B t v) {C : Nat} (hne : B ≠ C) (u : Value) : Boxed (W.setCell ⟨C, 0, none⟩ u) B t v := h.kept (grownBy_setCell' W C u) (by simpa using hne)
theorem split_make (s : ByteArray) (w : World) :
    Calls Tryd.prog 32 #[.string s, .string ⟨#[10]⟩] w fun e w' => e = .returned (.func (.func 47) #[] #[.pointer (some ⟨w.heap.size + 1, 0, none⟩), .pointer (some ⟨w.heap.size, 0, none⟩), .pointer (some ⟨w.heap.size + 2, 0, none⟩)]) ∧
      w' = ((w.alloc (.cells #[.string s] 9)).alloc (.cells #[.string ⟨#[10]⟩] 9)).alloc (.cells #[.int .i64 0] 3) := by
  have C : Calls Tryd.prog 40 #[.string s, .string ⟨#[10]⟩, .int .i64 0] w fun e w' => e = .returned (.func (.func 47) #[] #[.pointer (some ⟨w.heap.size + 1, 0, none⟩), .pointer (some ⟨w.heap.size, 0, none⟩), .pointer (some ⟨w.heap.size + 2, 0, none⟩)]) ∧
      w' = ((w.alloc (.cells #[.string s] 9)).alloc (.cells #[.string ⟨#[10]⟩] 9)).alloc (.cells #[.int .i64 0] 3) := by
    go_enter Tryd.func40, Tryd.ntmps40
    go_wp2
    go_ret
    exact ⟨rfl, rfl⟩
  have C1 := Lib.hid C
  clear C
  go_enter Tryd.func32, Tryd.ntmps32
  go_wp2_with (go_at_call 40; refine C1.out.mono ?_; rintro e w' ⟨rfl, rfl⟩)
  go_ret
  exact ⟨rfl, rfl⟩
set_option maxRecDepth 100000 in
set_option maxHeartbeats 1000000 in
theorem split_seq (n : Nat) (hn : 1 ≤ n) (l sB pB kB : Nat) (s : List UInt8) (hs : s.length ≤ 1000000000000) (hsp : pB ≠ sB) (hsk : kB ≠ sB) (J : List (List UInt8) → World → Prop)
    (hJ : ∀ xs A B, J xs A → Ix.Own sB A B → J xs B)
    (hY : ∀ pre x W, J pre W → pre.length < (Ix.parts s).length → YieldAt Fence.wide (n - 1) Tryd.prog l #[.string (bs x)] W fun e W' => e = .returned (.bool true) ∧ J (pre ++ [x]) W' ∧ Ix.Boxes sB pB kB W W')
    (W : World) (h1 : Boxed W sB 9 (.string (bs s))) (h2 : Boxed W pB 9 (.string ⟨#[10]⟩)) (h3 : Boxed W kB 3 (.int .i64 0)) (h0 : J [] W) :
    CallsIn Fence.wide n Tryd.prog 47 #[.func (.yield l) #[] #[], .pointer (some ⟨pB, 0, none⟩), .pointer (some ⟨sB, 0, none⟩), .pointer (some ⟨kB, 0, none⟩)] W fun e W' => (∃ v, e = .returned v) ∧ ∃ ys, ys = Ix.parts s ∧ J ys W' := by
  refine callsIn_of_wp Tryd.func47 rfl trivial ?_ rfl
  simp only [Tryd.ntmps47, List.size_toArray, List.length_cons, List.length_nil, Nat.reduceAdd, Nat.reduceSub, Array.replicate_succ, Array.replicate_zero, List.push_toArray, List.append_toArray, List.nil_append, List.cons_append]
  have q2 := h2.cell
  have HW := Lib.hid h1
  gi_wp2
  clear q2
  gi_loopw [] (fun wr => ∃ (pre : List (List UInt8)) (r : List UInt8), Hid (Ix.parts s = pre ++ Ix.parts r) ∧ r.length ≤ s.length ∧ J pre wr ∧ Boxed wr sB 9 (.string (bs r)) ∧ Boxed wr pB 9 (.string ⟨#[10]⟩) ∧ Boxed wr kB 3 (.int .i64 0))
    (fun wr => Ix.rest sB wr)
  case atStart => exact ⟨[], s, Lib.hid rfl, Nat.le_refl _, h0, h1, h2, h3⟩
  case round =>
    obtain ⟨pre, r, K, hr, hj, b1, b2, b3⟩ := hrel
    have c1 := b1.cell
    have c2 := b2.cell
    have c3 := b3.cell
    have f1 := b1.frozen
    have hsz : (bs r).size = r.length := bs_size r
    have ci := fun w => Tryd.strings_Index_one (bs r) 10 w
    rw [bs_toList] at ci
    have hpre : pre.length < (Ix.parts s).length := by
      have := Ix.parts_pos r
      rw [K.out, List.length_append]; omega
    have hge := Lib.indexByte_ge r 10
    by_cases hi : Lib.indexByte r 10 = -1
    · obtain ⟨fn, tmps, assign, body, hy, hR⟩ := hY pre r wr hj hpre
      rw [hi] at ci
      have C := Lib.hid ci
      have hfull : Hid (Ix.parts s = pre ++ [r]) := by show _ = _; rw [K.out, Ix.parts_none hi]
      clear ci hi hge K hY hj
      gi_wp2_with (refine ⟨trivial, ?_⟩; gi_at_call 39; refine (callsIn_wide.2 (C.out _)).mono ?_; rintro e w' ⟨rfl, rfl⟩)
      refine hR.mono ?_
      rintro e W3 ⟨rfl, hJ3, hk3⟩
      gi_wp2
      go_end0
      exact ⟨⟨_, rfl⟩, _, hfull.out.symm, hJ3⟩
    · obtain ⟨o, ho⟩ : ∃ o : Nat, Lib.indexByte r 10 = o := ⟨(Lib.indexByte r 10).toNat, by omega⟩
      obtain ⟨hlt, hL⟩ := Ix.parts_some ho
      obtain ⟨fn, tmps, assign, body, hy, hR⟩ := hY pre (r.take o) wr hj hpre
      rw [ho] at ci
      have C := Lib.hid ci
      have K2 : Hid (Ix.parts s = (pre ++ [r.take o]) ++ Ix.parts (r.drop (o + 1))) := by show _ = _; rw [K.out, hL]; simp
      have E1 := Ix.extract_take r o
      have E2 := Ix.extract_drop r (o + 1)
      have hdl : (r.drop (o + 1)).length ≤ s.length := by simp; omega
      have hms : (r.drop (o + 1)).length < r.length := by simp; omega
      clear ci hi hge hL K hY hj ho
      gi_wp2_with (refine ⟨trivial, ?_⟩; gi_at_call 39; refine (callsIn_wide.2 (C.out _)).mono ?_; rintro e w' ⟨rfl, rfl⟩)
      refine hR.mono ?_
      rintro e W3 ⟨rfl, hJ3, hk3⟩
      have d1 : Boxed W3 sB 9 (.string (bs r)) := hk3.1.trans b1
      have d2 : Boxed W3 pB 9 (.string ⟨#[10]⟩) := hk3.2.1.trans b2
      have d3 : Boxed W3 kB 3 (.int .i64 0) := hk3.2.2.trans b3
      have g1 := d1.cell
      have g2 := d2.cell
      have g3 := d3.frozen
      have g4 := d1.frozen
      gi_wp2
      go_roundw
      case rel => exact ⟨pre ++ [r.take o], r.drop (o + 1), K2, hdl, hJ _ _ _ hJ3 ⟨_, rfl⟩, d1.set _, boxed_other d2 hsp _, boxed_other d3 hsk _⟩
      case measure =>
        have e1 := (d1.set (.string (bs (r.drop (o + 1))))).cell
        simp only [Ix.rest, e1, c1, bs_size]
        exact hms
theorem split_own (n : Nat) (hn : 1 ≤ n) (sB pB kB : Nat) (s : List UInt8) (hs : s.length ≤ 1000000000000) (hsp : pB ≠ sB) (hsk : kB ≠ sB) (w : World)
    (h1 : Boxed w sB 9 (.string (bs s))) (h2 : Boxed w pB 9 (.string ⟨#[10]⟩)) (h3 : Boxed w kB 3 (.int .i64 0)) :
    SeqOwn Fence.wide n Tryd.prog 47 #[.pointer (some ⟨pB, 0, none⟩), .pointer (some ⟨sB, 0, none⟩), .pointer (some ⟨kB, 0, none⟩)] (fun x : List UInt8 => #[.string (bs x)]) (Ix.Boxes sB pB kB) (Ix.Own sB) (fun ys => ys = Ix.parts s) (Ix.parts s).length w :=
  fun l J W hW hJ hY h0 => split_seq n hn l sB pB kB s hs hsp hsk J hJ hY W ((hW.block sB h1.lt).trans h1) ((hW.block pB h2.lt).trans h2) ((hW.block kB h3.lt).trans h3) h0
end Go.Proofs.YtgjppkkifclanaaDoor
