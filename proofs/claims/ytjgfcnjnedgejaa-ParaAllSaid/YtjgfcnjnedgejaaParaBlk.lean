/-
  Block, on both sides: the block of a place's line, alone and with another one.
-/
import Derived.Test.YtjgfcnjnedgejaaParaRef
namespace Go.Proofs.Ytjgfcnjnedgejaa
open Go.RowKit
theorem Para.blkT_out {s : List UInt8} {p : Int} {two : Bool} (h : Utf.place s p = false) : Para.blkT s p two = .tuple #[.int .i64 (-1), .int .i64 (-1)] := if_neg (by simp [h])
theorem para_Block (s : ByteArray) (p : Int) (two : Bool) (hs : s.size ≤ 1000000000000) (w : World) :
    Calls Try.prog 10 #[.string s, .int .i64 p, .bool two] w fun e w' => e = .returned (Para.blkT s.data.toList p two) ∧ Below w.heap.size w w' := by
  cases hp : Utf.place s.data.toList p with
  | false =>
    have hl := data_len s
    have c1 := Lib.hid (fun w => utf_Place s p (by omega) w)
    rw [hp] at c1
    have H : Hid (Para.blkT s.data.toList p two = .tuple #[.int .i64 (-1), .int .i64 (-1)]) := Para.blkT_out hp
    clear hp hl
    go_enter Try.func10, Try.ntmps10
    go_wp2_with (go_at_call 12; refine (c1.out _).mono ?_; rintro e w1 ⟨rfl, rfl⟩)
    go_ret2
    exact ⟨by rw [H.out]; rfl, Below.refl _ _⟩
  | true =>
    obtain ⟨n, k, x, rfl, hk, h1, h2, h3, e1, e2, e3⟩ := Line.place_line hp
    have hkl := (List.getElem?_eq_some_iff.1 hk).1
    obtain ⟨i, b, hi, _, _, _, hix⟩ := (Para.all_right (Line.place_ok hp)).idx hkl
    cases two with
    | false => exact para_Block_one s n hs hp e1 rfl hix hi w
    | true =>
      cases hn : (Para.all s.data.toList)[i + 1]? with
      | some c => exact para_Block_next s n hs hp e1 rfl hix hi hn w
      | none =>
        cases i with
        | zero => exact para_Block_only s n hs hp e1 rfl hix hi hn w
        | succ i =>
          have hil : i < (Para.all s.data.toList).length := by have := (List.getElem?_eq_some_iff.1 hi).1; omega
          have hc : (Para.all s.data.toList)[i]? = some (Para.all s.data.toList)[i] := List.getElem?_eq_getElem hil
          exact para_Block_prev s n hs hp e1 rfl hix hi hn hc w
set_option maxHeartbeats 1000000 in
set_option maxRecDepth 100000 in
theorem ref18_Block (s : ByteArray) (p : Int) (two : Bool) (hs : s.size ≤ 1000000000000) (w : World) :
    Calls Try.prog 11 #[.string s, .int .i64 p, .bool two] w fun e w' => e = .returned (Para.blkT s.data.toList p two) ∧ Below w.heap.size w w' := by
  have c1 := Lib.hid (fun w => ref_Place s p (by omega) w)
  have hW := Below.refl w.heap.size w
  cases hp : Utf.place s.data.toList p with
  | false =>
    rw [hp] at c1
    have H : Hid (Para.blkT s.data.toList p two = .tuple #[.int .i64 (-1), .int .i64 (-1)]) := Para.blkT_out hp
    clear hp
    go_enter Try.func11, Try.ntmps11
    go_wp2_with (go_at_call 19; refine (c1.out _).mono ?_; rintro e w1 ⟨rfl, hbn⟩; replace hW := below_run hW hbn; clear hbn)
    go_ret2
    exact ⟨by rw [H.out]; rfl, hW⟩
  | true =>
    rw [hp] at c1
    obtain ⟨n, k, x, rfl, hk, h1, h2, h3, e1, e2, e3⟩ := Line.place_line hp
    have hkl := (List.getElem?_eq_some_iff.1 hk).1
    have hv := Line.place_ok hp
    have R := Para.all_right hv
    have hI := R.block hkl
    have T2 := R.block_two hI
    have c2 := Lib.hid (fun w => ref4_Of s n hs w)
    rw [e1] at c2
    have c3 := Lib.hid (fun w => ref18_run s k hs hkl w)
    rw [Para.blkN] at c3
    have HT : ∀ two, Para.blkT s.data.toList n two = .tuple #[.int .i64 ((Para.blockV (Para.all s.data.toList) k two).1 : Nat), .int .i64 ((Para.blockV (Para.all s.data.toList) k two).2 : Nat)] := fun two => by rw [Para.blkT, if_pos hp, e1, Int.toNat_natCast]
    generalize hab : Para.blockV (Para.all s.data.toList) k false = ab at *
    obtain ⟨a, b⟩ := ab
    dsimp only at hI T2 c3
    cases two with
    | false =>
      have H : Hid (Para.blkT s.data.toList n false = .tuple #[.int .i64 (a : Nat), .int .i64 (b : Nat)]) := by show _ = _; rw [HT, hab]
      clear hp hk h1 h2 h3 e1 e2 e3 R hI T2 HT hab
      go_enter Try.func11, Try.ntmps11
      go_wp2_with (first
        | (go_at_call 19; refine (c1.out _).mono ?_; rintro e w1 ⟨rfl, hbn⟩; replace hW := below_run hW hbn; clear hbn)
        | (go_at_call 21; refine (c2.out _).mono ?_; rintro e w2 ⟨rfl, hbn⟩; replace hW := below_run hW hbn; clear hbn)
        | (go_at_call 29; refine (c3.out _).mono ?_; rintro e w3 ⟨rfl, hbn⟩; replace hW := below_run hW hbn; clear hbn))
      go_ret2
      exact ⟨by rw [H.out]; rfl, hW⟩
    | true =>
      have hlen := Line.L_length s.data.toList
      rw [data_len] at hlen
      obtain ⟨m, hm⟩ : ∃ m, (Line.L s.data.toList).length = m + 1 := ⟨(Line.L s.data.toList).length - 1, by omega⟩
      have cc := Lib.hid (fun w => ref4_Count s hs w)
      rw [hm] at cc hI T2
      have q0 : IntKind.i64.wrap ((m : Nat) : Int) = (m : Nat) := by rw [IntKind.wrap_i64]; omega
      have hbm := hI.lt
      have hak := hI.le
      have hbk := hI.ge
      by_cases hb : b < m
      · have hI2 := R.block (k := b + 1) (by omega)
        have c4 := Lib.hid (fun w => ref18_run s (b + 1) hs (by omega) w)
        rw [Para.blkN] at c4
        rw [hm] at hI2
        have hT := T2.1 _ _ (by omega) hI2
        generalize hcd : Para.blockV (Para.all s.data.toList) (b + 1) false = cd at *
        obtain ⟨c, d⟩ := cd
        dsimp only at hT c4
        rw [show ((b + 1 : Nat) : Int) = (b : Int) + 1 from rfl] at c4
        have H : Hid (Para.blkT s.data.toList n true = .tuple #[.int .i64 (a : Nat), .int .i64 (d : Nat)]) := by show _ = _; rw [HT, hT]
        have g1 : decide (b < m) = true := decide_eq_true hb
        clear hp hk h1 h2 h3 e1 e2 e3 R hI T2 HT hab hI2 hcd hT
        go_enter Try.func11, Try.ntmps11
        go_wp2_with (first
          | (go_at_call 19; refine (c1.out _).mono ?_; rintro e w1 ⟨rfl, hbn⟩; replace hW := below_run hW hbn; clear hbn)
          | (go_at_call 21; refine (c2.out _).mono ?_; rintro e w2 ⟨rfl, hbn⟩; replace hW := below_run hW hbn; clear hbn)
          | (go_at_call 20; refine (cc.out _).mono ?_; rintro e w2 ⟨rfl, hbn⟩; replace hW := below_run hW hbn; clear hbn)
          | (go_at_call 29; (with_reducible refine (c3.out _).mono ?_); rintro e w3 ⟨rfl, hbn⟩; replace hW := below_run hW hbn; clear hbn)
          | (go_at_call 29; (with_reducible refine (c4.out _).mono ?_); rintro e w3 ⟨rfl, hbn⟩; replace hW := below_run hW hbn; clear hbn))
        go_ret2
        exact ⟨by rw [H.out]; rfl, hW⟩
      · have g1 : decide (b < m) = false := decide_eq_false hb
        rcases a with _ | a
        · have hT := T2.2.2 (by omega) rfl
          have H : Hid (Para.blkT s.data.toList n true = .tuple #[.int .i64 0, .int .i64 (b : Nat)]) := by show _ = _; rw [HT, hT]; rfl
          rw [show ((0 : Nat) : Int) = 0 from rfl] at c3
          clear hp hk h1 h2 h3 e1 e2 e3 R hI T2 HT hab hT
          go_enter Try.func11, Try.ntmps11
          go_wp2_with (first
            | (go_at_call 19; refine (c1.out _).mono ?_; rintro e w1 ⟨rfl, hbn⟩; replace hW := below_run hW hbn; clear hbn)
            | (go_at_call 21; refine (c2.out _).mono ?_; rintro e w2 ⟨rfl, hbn⟩; replace hW := below_run hW hbn; clear hbn)
            | (go_at_call 20; refine (cc.out _).mono ?_; rintro e w2 ⟨rfl, hbn⟩; replace hW := below_run hW hbn; clear hbn)
            | (go_at_call 29; (with_reducible refine (c3.out _).mono ?_); rintro e w3 ⟨rfl, hbn⟩; replace hW := below_run hW hbn; clear hbn))
          go_ret2
          exact ⟨by rw [H.out]; rfl, hW⟩
        · have hI2 := R.block (k := a) (by omega)
          have c4 := Lib.hid (fun w => ref18_run s a hs (by omega) w)
          rw [Para.blkN] at c4
          rw [hm] at hI2
          have hT := T2.2.1 _ _ (by omega) (by omega) (by rw [Nat.add_sub_cancel]; exact hI2)
          generalize hcd : Para.blockV (Para.all s.data.toList) a false = cd at *
          obtain ⟨c, d⟩ := cd
          dsimp only at hT c4
          have H : Hid (Para.blkT s.data.toList n true = .tuple #[.int .i64 (c : Nat), .int .i64 (b : Nat)]) := by show _ = _; rw [HT, hT]
          rw [show ((a + 1 : Nat) : Int) = (a : Int) + 1 from rfl] at c3
          have g2 : decide ((0 : Int) < (a : Int) + 1) = true := decide_eq_true (by omega)
          have q1 : IntKind.i64.wrap ((a : Nat) : Int) = (a : Nat) := by rw [IntKind.wrap_i64]; omega
          clear hp hk h1 h2 h3 e1 e2 e3 R hI T2 HT hab hI2 hcd hT
          go_enter Try.func11, Try.ntmps11
          go_wp2_with (first
            | (go_at_call 19; refine (c1.out _).mono ?_; rintro e w1 ⟨rfl, hbn⟩; replace hW := below_run hW hbn; clear hbn)
            | (go_at_call 21; refine (c2.out _).mono ?_; rintro e w2 ⟨rfl, hbn⟩; replace hW := below_run hW hbn; clear hbn)
            | (go_at_call 20; refine (cc.out _).mono ?_; rintro e w2 ⟨rfl, hbn⟩; replace hW := below_run hW hbn; clear hbn)
            | (go_at_call 29; (with_reducible refine (c3.out _).mono ?_); rintro e w3 ⟨rfl, hbn⟩; replace hW := below_run hW hbn; clear hbn)
            | (go_at_call 29; (with_reducible refine (c4.out _).mono ?_); rintro e w3 ⟨rfl, hbn⟩; replace hW := below_run hW hbn; clear hbn))
          go_ret2
          exact ⟨by rw [H.out]; rfl, hW⟩
end Go.Proofs.Ytjgfcnjnedgejaa
