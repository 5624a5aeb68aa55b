/-
  The iterator of package line over the lines of a text: for every loop body that keeps what lay below a bound.
-/
import Derived.RangeFuncNested
import Derived.RangeFuncBound
import Derived.RangeFuncCalls
import Derived.RangeFuncLeaves
import Derived.Shelf.Abstract
import Derived.Shelf.RegionOpen
import Derived.WalkKit
import Derived.OwnWalkIn
import Derived.TacticsInMore
import Derived.LoopNIn
import Derived.LoopIn
import Derived.RangeFuncBox
import Derived.Test.YtlfhfpjffdaomaaDoorLine
import Derived.Test.YtlfhfpjffdaomaaDoorShelf
namespace Go.Proofs.YtlfhfpjffdaomaaDoor
open Go.RowKit Go.Shelf
attribute [local go_sem] Oper.semAt_some
namespace Line
theorem seq_none {s : List UInt8} {a : Nat} (ha : a ≤ s.length) (h : Lib.indexByte (s.drop a) 10 = -1) : lns a a (s.drop a) = [(a, s.length)] := by
  have h1 := Lib.indexByte_none h
  rw [lns_skip (n := s.length - a) (fun p h2 h3 h4 => h1 (p - a) (by rw [List.getElem?_drop, show a + (p - a) = p by omega]; exact h4)) (by omega), show a + (s.length - a) = s.length by omega, lns_end (Nat.le_refl _)]
theorem seq_some {s : List UInt8} {a o : Nat} (h : Lib.indexByte (s.drop a) 10 = o) : a + o < s.length ∧ lns a a (s.drop a) = (a, a + o) :: lns (a + o + 1) (a + o + 1) (s.drop (a + o + 1)) := by
  obtain ⟨h1, h2⟩ := Lib.indexByte_some h
  rw [List.getElem?_drop] at h1
  have h3 := (List.getElem?_eq_some_iff.1 h1).1
  refine ⟨h3, ?_⟩
  rw [lns_skip (n := o) (fun p h4 h5 h6 => h2 (p - a) (by omega) (by rw [List.getElem?_drop, show a + (p - a) = p by omega]; exact h6)) (by omega), lns_step h1, if_pos rfl]
/-- What a round that goes on keeps: the box of the text. -/
def Same (B : Nat) (W W' : World) : Prop := W'.heap[B]? = W.heap[B]?
theorem Same.t {B : Nat} {X Y Z : World} (h : Same B X Y) (k : Same B Y Z) : Same B X Z := Eq.trans k h
theorem Same.b {B m : Nat} (h : B < m) (W : World) (l : Nat) (o o' : Obj) (hl : m ≤ l) (_ : W.heap[l]? = some o) (_ : o.isCells = false) (_ : o.isWalk = false) : Same B W (W.putObj l o') := World.putObj_heap_other (by omega)
theorem Same.boxed {B : Nat} {W W' : World} {t : TypeId} {v : Value} (h : Same B W W') (k : Boxed W B t v) : Boxed W' B t v := Eq.trans h k
/-- What the iterator hands on of a line. -/
abbrev encs (x : Nat × Nat) : Array Value := #[.int .i64 (x.1 : Nat), .int .i64 (x.2 : Nat)]
end Line
theorem line_lines (s : ByteArray) (w : World) :
    Calls Tryd.prog 33 #[.string s] w fun e w' => e = .returned (.func (.func 48) #[] #[.pointer (some ⟨w.heap.size, 0, none⟩)]) ∧ w' = w.alloc (.cells #[.string s] 9) := by
  go_enter Tryd.func33, Tryd.ntmps33
  go_wp2
  go_ret
  exact ⟨rfl, rfl⟩
set_option maxRecDepth 100000 in
set_option maxHeartbeats 1000000 in
theorem line_seq (n : Nat) (hn : 1 ≤ n) (l Bn : Nat) (s : ByteArray) (hs : s.size ≤ 281474976710656) (J Jx : List (Nat × Nat) → World → Prop)
    (hY : ∀ pre x W, J pre W → pre.length < (Line.L s.data.toList).length → YieldAt Fence.wide (n - 1) Tryd.prog l (Line.encs x) W fun e W' =>
      (e = .returned (.bool true) ∧ J (pre ++ [x]) W' ∧ Line.Same Bn W W') ∨ (e = .returned (.bool false) ∧ Jx (pre ++ [x]) W'))
    (W : World) (hBn : Boxed W Bn 9 (.string s)) (h0 : J [] W) :
    CallsIn Fence.wide n Tryd.prog 48 #[.func (.yield l) #[] #[], .pointer (some ⟨Bn, 0, none⟩)] W fun e W' => (∃ v, e = .returned v) ∧
      ((∃ ys, ys = Line.L s.data.toList ∧ J ys W') ∨ (∃ pre, pre <+: Line.L s.data.toList ∧ Jx pre W')) := by
  have hl := data_len s
  refine callsIn_of_wp Tryd.func48 rfl trivial ?_ rfl
  simp only [Tryd.ntmps48, List.size_toArray, List.length_cons, List.length_nil, Nat.reduceAdd, Nat.reduceSub, Array.replicate_succ, Array.replicate_zero, List.push_toArray, List.append_toArray, List.nil_append, List.cons_append]
  have cv := Lib.hid (fun w => utf_Valid s (by omega) w)
  cases hv : Utf.valid s.data.toList with
  | false =>
    rw [hv] at cv
    have hBc := hBn.cell
    have e0 : Line.L s.data.toList = [] := Line.L_bad hv
    rw [e0]
    clear hY e0 hv
    gi_wp2_with (refine ⟨trivial, ?_⟩; gi_at_call 49; refine (callsIn_wide.2 (cv.out _)).mono ?_; rintro e w' ⟨rfl, rfl⟩)
    refine bodyPost_ret (results_none rfl _ _ _) rfl ?_
    exact ⟨⟨_, rfl⟩, .inl ⟨_, rfl, h0⟩⟩
  | true =>
    rw [hv] at cv
    have hBc := hBn.cell
    have H0 : Hid (Line.L s.data.toList = [] ++ Line.lns 0 0 (s.data.toList.drop 0)) := by show _ = _; rw [Line.L_ok hv]; rfl
    clear hv
    gi_wp2_with (refine ⟨trivial, ?_⟩; gi_at_call 49; refine (callsIn_wide.2 (cv.out _)).mono ?_; rintro e w' ⟨rfl, rfl⟩)
    gi_loopw [3] (fun p wr => ∃ (pre : List (Nat × Nat)) (a : Nat), p = .int .i64 a ∧ a ≤ s.size ∧ Hid (Line.L s.data.toList = pre ++ Line.lns a a (s.data.toList.drop a)) ∧ J pre wr ∧ Boxed wr Bn 9 (.string s))
      (fun p _ => s.size - (intOf p).toNat)
    case atStart => exact ⟨[], 0, rfl, Nat.zero_le _, H0, h0, hBn⟩
    case round =>
      obtain ⟨pre, a, rfl, ha, K, hJ, hbx⟩ := hrel
      have hc := hbx.cell
      clear H0 h0 hBn hBc
      have e1 : s.extract a s.size = bs (s.data.toList.drop a) := by
        rw [Lib.extract_eq, List.take_of_length_le (by rw [List.length_drop]; omega)]; rfl
      have ci := Tryd.strings_IndexByte (s.extract a s.size) 10
      rw [e1, bs_toList, ← e1, show ((10 : Int).toNat.toUInt8) = 10 from rfl] at ci
      clear e1
      have hpre : pre.length < (Line.L s.data.toList).length := by
        have := Line.lns_ne a a (s.data.toList.drop a)
        rw [K.out, List.length_append]; omega
      have hge := Lib.indexByte_ge (s.data.toList.drop a) 10
      by_cases hi : Lib.indexByte (s.data.toList.drop a) 10 = -1
      · have hL := Line.seq_none (by omega) hi
        obtain ⟨fn, tmps, assign, body, hy, hR⟩ := hY pre (a, s.data.toList.length) wr hJ hpre
        rw [hi] at ci
        have C := Lib.hid ci
        have hfull : Hid (Line.L s.data.toList = pre ++ [(a, s.data.toList.length)]) := by show _ = _; rw [K.out, hL]
        rw [hl] at hy hR hfull
        dsimp only [Line.encs] at hy
        clear ci hi hge hL K hY cv hJ
        gi_wp2_with (refine ⟨trivial, ?_⟩; gi_at_call 50; refine (callsIn_wide.2 (C.out _)).mono ?_; rintro e w' ⟨rfl, rfl⟩)
        refine hR.mono ?_
        rintro e W3 (⟨rfl, hJ3, hk3⟩ | ⟨rfl, hJx3⟩)
        · gi_wp2
          refine bodyPost_ret (results_none rfl _ _ _) rfl ?_
          exact ⟨⟨_, rfl⟩, .inl ⟨_, hfull.out.symm, hJ3⟩⟩
        · gi_wp2
          refine bodyPost_ret (results_none rfl _ _ _) rfl ?_
          exact ⟨⟨_, rfl⟩, .inr ⟨_, by rw [hfull.out]; exact ⟨[], by simp⟩, hJx3⟩⟩
      · obtain ⟨o, ho⟩ : ∃ o : Nat, Lib.indexByte (s.data.toList.drop a) 10 = o := ⟨(Lib.indexByte (s.data.toList.drop a) 10).toNat, by omega⟩
        obtain ⟨hlt, hL⟩ := Line.seq_some ho
        obtain ⟨fn, tmps, assign, body, hy, hR⟩ := hY pre (a, a + o) wr hJ hpre
        rw [ho] at ci
        have C := Lib.hid ci
        have K2 : Hid (Line.L s.data.toList = (pre ++ [(a, a + o)]) ++ Line.lns (a + o + 1) (a + o + 1) (s.data.toList.drop (a + o + 1))) := by show _ = _; rw [K.out, hL]; simp
        dsimp only [Line.encs] at hy
        rw [Int.natCast_add] at hy
        clear ci hi hge hL K hY cv hJ ho
        gi_wp2_with (refine ⟨trivial, ?_⟩; gi_at_call 50; refine (callsIn_wide.2 (C.out _)).mono ?_; rintro e w' ⟨rfl, rfl⟩)
        refine hR.mono ?_
        rintro e W3 (⟨rfl, hJ3, hk3⟩ | ⟨rfl, hJx3⟩)
        · have hc3 := hk3.boxed hbx
          gi_wp2
          go_roundw
          case rel => exact ⟨pre ++ [(a, a + o)], a + o + 1, by go_num, by omega, K2, hJ3, hc3⟩
          case measure => simp [intOf]; omega
        · gi_wp2
          refine bodyPost_ret (results_none rfl _ _ _) rfl ?_
          exact ⟨⟨_, rfl⟩, .inr ⟨pre ++ [(a, a + o)], ⟨_, K2.out.symm⟩, hJx3⟩⟩
theorem line_stops_wide (n : Nat) (hn : 1 ≤ n) (Bn : Nat) (s : ByteArray) (hs : s.size ≤ 281474976710656) (w : World) (hc : Boxed w Bn 9 (.string s)) :
    SeqStopsK Fence.wide n Tryd.prog 48 #[.pointer (some ⟨Bn, 0, none⟩)] Line.encs (Line.Same Bn) (fun ys => ys = Line.L s.data.toList) (fun pre => pre <+: Line.L s.data.toList) (Line.L s.data.toList).length w :=
  fun l J Jx W hW _ _ hY h0 => line_seq n hn l Bn s hs J Jx hY W ((hW.block Bn hc.lt).trans hc) h0
theorem line_stops (n : Nat) (hn : 1 ≤ n) (Bn : Nat) (s : ByteArray) (hs : s.size ≤ 1000000000000) (w : World) (hc : Boxed w Bn 9 (.string s)) :
    SeqStopsK Fence.wide n Tryd.prog 48 #[.pointer (some ⟨Bn, 0, none⟩)] Line.encs (Line.Same Bn) (fun ys => ys = Line.L s.data.toList) (fun pre => pre <+: Line.L s.data.toList) (Line.L s.data.toList).length w := line_stops_wide n hn Bn s (by omega) w hc
end Go.Proofs.YtlfhfpjffdaomaaDoor
