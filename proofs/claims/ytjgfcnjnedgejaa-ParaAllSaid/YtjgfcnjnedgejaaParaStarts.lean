/-
  Where the lines of a text start, one by one: the iterator; is the line that starts there empty.
-/
import Derived.Test.YtjgfcnjnedgejaaPara
import Derived.Test.YtjgfcnjnedgejaaSeqUpto
import Derived.Test.YtjgfcnjnedgejaaLineSeq
import Derived.BigCall
import Derived.Lib.OthersKept
namespace Go.Proofs.Ytjgfcnjnedgejaa
open Go.RowKit Go.Shelf
attribute [local go_sem] Oper.semAt_some
namespace Para
/-- What is handed on of a line. -/
abbrev encS (x : Nat) : Array Value := #[.int .i64 (x : Nat)]
theorem bare_end {s : List UInt8} : bare s s.length = true := by simp [bare]
theorem bare_in {s : List UInt8} {x : Nat} {b : UInt8} (h : s[x]? = some b) : bare s x = decide (b = 10) := by
  have hl := (List.getElem?_eq_some_iff.1 h).1
  rw [bare, h]
  by_cases hb : b = 10
  · simp [hb]
  · have h1 : ¬ x = s.length := by omega
    simp [hb, h1]
end Para
theorem para_bare (s : ByteArray) (x : Nat) (hx : x ≤ s.size) (w : World) :
    Calls Try.prog 41 #[.string s, .int .i64 (x : Nat)] w fun e w' => e = .returned (.bool (Para.bare s.data.toList x)) ∧ w = w' := by
  have hl := data_len s
  by_cases he : x = s.size
  · have H : Hid (Para.bare s.data.toList x = true) := by show _ = _; rw [he, ← hl]; exact Para.bare_end
    have g1 : ((x : Int) == (s.size : Int)) = true := by simp [he]
    clear he hl
    go_enter Try.func41, Try.ntmps41
    go_wp2
    go_ret
    exact ⟨by rw [H.out]; rfl, rfl⟩
  · have hlt : x < s.size := by omega
    have hg := byte_get s hlt
    have g1 : ((x : Int) == (s.size : Int)) = false := by simp; omega
    have hb := Para.bare_in hg
    by_cases h10 : s[x].toNat = 10
    · have H : Hid (Para.bare s.data.toList x = true) := by
        show _ = _; rw [hb]; exact decide_eq_true (UInt8.toNat_inj.1 h10)
      have g2 : ((s[x].toNat : Int) == 10) = true := by simp [h10]
      clear he hl hb hg h10
      go_enter Try.func41, Try.ntmps41
      go_wp2
      go_ret
      exact ⟨by rw [H.out]; rfl, rfl⟩
    · have H : Hid (Para.bare s.data.toList x = false) := by
        show _ = _; rw [hb]; exact decide_eq_false (fun h => h10 (by rw [h]; rfl))
      have g2 : ((s[x].toNat : Int) == 10) = false := by simp; omega
      clear he hl hb hg h10
      go_enter Try.func41, Try.ntmps41
      go_wp2
      go_ret
      exact ⟨by rw [H.out]; rfl, rfl⟩
theorem para_starts (s : ByteArray) (w : World) :
    Calls Try.prog 42 #[.string s] w fun e w' => e = .returned (.func (.func 49) #[] #[.pointer (some ⟨w.heap.size, 0, none⟩)]) ∧ w' = w.alloc (.cells #[.string s] 9) := by
  go_enter Try.func42, Try.ntmps42
  go_wp2
  go_ret
  exact ⟨rfl, rfl⟩
theorem para_blocks (s : ByteArray) (w : World) :
    Calls Try.prog 26 #[.string s] w fun e w' => e = .returned (.func (.func 40) #[] #[.pointer (some ⟨w.heap.size, 0, none⟩)]) ∧ w' = w.alloc (.cells #[.string s] 9) := by
  go_enter Try.func26, Try.ntmps26
  go_wp2
  go_ret
  exact ⟨rfl, rfl⟩
set_option maxHeartbeats 1000000 in
set_option maxRecDepth 100000 in
theorem para_start_seq (n : Nat) (hn : 1 ≤ n) (tB : Nat) (s : ByteArray) (hs : s.size ≤ 1000000000000) (hv : Utf.valid s.data.toList = true) (w : World) (hT : Boxed w tB 9 (.string s)) :
    SeqUpto Fence.wide n Try.prog 49 #[.pointer (some ⟨tB, 0, none⟩)] Para.encS 0 (Stays 0 [tB]) (Steps 0) (Para.S s.data.toList) w := by
  intro l J X W hW hJ hX hY h0
  have hl := data_len s
  have bT : Boxed W tB 9 (.string s) := (hW.block tB hT.lt).trans hT
  have H0 : Hid (Para.S s.data.toList = [] ++ (Line.lns 0 0 (s.data.toList.drop 0)).map fun x => x.1) := by show _ = _; rw [Para.S, Line.L_ok hv]; rfl
  clear hv hJ hX
  refine callsIn_of_wp Try.func49 rfl trivial ?_ rfl
  simp only [Try.ntmps49, List.size_toArray, List.length_cons, List.length_nil, Nat.reduceAdd, Nat.reduceSub, Array.replicate_succ, Array.replicate_zero, List.push_toArray, List.append_toArray, List.nil_append, List.cons_append]
  gi_wp2
  gi_loopw [3] (fun p wr => ∃ (pre : List Nat) (a : Nat), p = .int .i64 a ∧ a ≤ s.size ∧ Hid (Para.S s.data.toList = pre ++ (Line.lns a a (s.data.toList.drop a)).map fun x => x.1) ∧ J pre wr ∧ W.heap.size ≤ wr.heap.size ∧ Boxed wr tB 9 (.string s))
    (fun p _ => s.size - (intOf p).toNat)
  case atStart => exact ⟨[], 0, rfl, Nat.zero_le _, H0, h0, Nat.le_refl _, bT⟩
  case round =>
    obtain ⟨pre, a, rfl, ha, K, hj, hsz, hbx⟩ := hrel
    clear H0 h0 bT
    have e1 : s.extract a s.size = bs (s.data.toList.drop a) := by
      rw [Lib.extract_eq, List.take_of_length_le (by rw [List.length_drop]; omega)]; rfl
    have ci := Try.strings_IndexByte (s.extract a s.size) 10
    rw [e1, bs_toList, ← e1, show ((10 : Int).toNat.toUInt8) = 10 from rfl] at ci
    clear e1
    have hge := Lib.indexByte_ge (s.data.toList.drop a) 10
    by_cases hi : Lib.indexByte (s.data.toList.drop a) 10 = -1
    · have hL := Line.seq_none (by omega) hi
      have hfull : Hid (Para.S s.data.toList = pre ++ [a]) := by show _ = _; rw [K.out, hL]; rfl
      obtain ⟨fn, tmps, assign, body, hy, hR⟩ := hY pre a wr hj (by rw [hfull.out]; exact List.prefix_refl _) (by omega)
      rw [hi] at ci
      have C := Lib.hid ci
      dsimp only [Para.encS] at hy
      clear ci hi hge hL K hY hj
      gi_wp2
      refine hR.mono ?_
      rintro e W3 ⟨hk3, ⟨rfl, hJ3⟩ | ⟨rfl, hX3⟩⟩
      · have hc3 := (hk3.boxed (.inr (by simp)) hbx).cell
        gi_wp2_with (refine ⟨trivial, ?_⟩; gi_at_call 46; refine (callsIn_wide.2 (C.out _)).mono ?_; rintro e w' ⟨rfl, rfl⟩)
        refine bodyPost_ret (results_none rfl _ _ _) rfl ?_
        exact ⟨⟨_, rfl⟩, .inl (by rw [hfull.out]; exact hJ3)⟩
      · gi_wp2
        go_end0
        exact ⟨⟨_, rfl⟩, .inr hX3⟩
    · obtain ⟨o, ho⟩ : ∃ o : Nat, Lib.indexByte (s.data.toList.drop a) 10 = o := ⟨(Lib.indexByte (s.data.toList.drop a) 10).toNat, by omega⟩
      obtain ⟨hlt, hL⟩ := Line.seq_some ho
      have K2 : Hid (Para.S s.data.toList = (pre ++ [a]) ++ (Line.lns (a + o + 1) (a + o + 1) (s.data.toList.drop (a + o + 1))).map fun x => x.1) := by show _ = _; rw [K.out, hL]; simp
      obtain ⟨fn, tmps, assign, body, hy, hR⟩ := hY pre a wr hj (by rw [K2.out]; exact List.prefix_append _ _) (by omega)
      rw [ho] at ci
      have C := Lib.hid ci
      dsimp only [Para.encS] at hy
      clear ci hi hge hL K hY hj ho
      gi_wp2
      refine hR.mono ?_
      rintro e W3 ⟨hk3, ⟨rfl, hJ3⟩ | ⟨rfl, hX3⟩⟩
      · have hb3 := hk3.boxed (.inr (by simp)) hbx
        have hc3 := hb3.cell
        have hs3 := hk3.size
        gi_wp2_with (refine ⟨trivial, ?_⟩; gi_at_call 46; refine (callsIn_wide.2 (C.out _)).mono ?_; rintro e w' ⟨rfl, rfl⟩)
        go_roundw
        case rel => exact ⟨pre ++ [a], a + o + 1, by go_num, by omega, K2, hJ3, by omega, hb3⟩
        case measure => simp [intOf]; omega
      · gi_wp2
        go_end0
        exact ⟨⟨_, rfl⟩, .inr hX3⟩
end Go.Proofs.Ytjgfcnjnedgejaa
