/-
  The document's things: which kinds there are, with two signs, words (a theorem a way).
-/
import Derived.Test.YtohdijhpoddbbaaJT
import Derived.Test.YtohdijhpoddbbaaClassRefRun
import Derived.Test.YtohdijhpoddbbaaLineRefs2
import Derived.Test.YtohdijhpoddbbaaUtfSplit
import Derived.Test.YtohdijhpoddbbaaInts
import Derived.Test.YtohdijhpoddbbaaJP
import Derived.Test.YtohdijhpoddbbaaUtfRef
namespace Go.Proofs.Ytohdijhpoddbbaa
open Go.RowKit
open Thing (num wrd wid btw)
namespace Thing
def keyL : List UInt8 := [119, 87, 112, 40, 41, 98, 91, 93, 123, 125, 66, 60, 62, 34, 39, 96]
def keyCells : Array Value := #[.string ⟨#[119]⟩, .string ⟨#[87]⟩, .string ⟨#[112]⟩, .string ⟨#[40]⟩, .string ⟨#[41]⟩, .string ⟨#[98]⟩, .string ⟨#[91]⟩, .string ⟨#[93]⟩, .string ⟨#[123]⟩, .string ⟨#[125]⟩, .string ⟨#[66]⟩, .string ⟨#[60]⟩, .string ⟨#[62]⟩, .string ⟨#[34]⟩, .string ⟨#[39]⟩, .string ⟨#[96]⟩]
theorem keyCells_at {j : Nat} {b : UInt8} (h : keyL[j]? = some b) : keyCells[j]? = some (.string (bs [b])) := by
  rcases j with _ | _ | _ | _ | _ | _ | _ | _ | _ | _ | _ | _ | _ | _ | _ | _ | j <;> first | (injection h with h; subst h; rfl) | (exact absurd h (by simp [keyL]))
theorem num_some {l : List UInt8} {i : Nat} {b : UInt8} (h : keyL[i]? = some b) (hb : [b] = l) : (num l).isSome = true := by
  subst hb
  rcases i with _ | _ | _ | _ | _ | _ | _ | _ | _ | _ | _ | _ | _ | _ | _ | _ | i <;> first | (injection h with h; subst h; rfl) | (exact absurd h (by simp [keyL]))
theorem num_none {l : List UInt8} (h : ∀ (i : Nat) b, i < 16 → keyL[i]? = some b → [b] ≠ l) : num l = none := by
  cases hn : num l with
  | none => rfl
  | some m =>
    have ht := num_tab.1 hn
    unfold tab at ht
    simp only [List.mem_cons, Prod.mk.injEq, List.not_mem_nil, or_false] at ht
    rcases ht with ⟨rfl, _⟩ | ⟨rfl, _⟩ | ⟨rfl, _⟩ | ⟨rfl, _⟩ | ⟨rfl, _⟩ | ⟨rfl, _⟩ | ⟨rfl, _⟩ | ⟨rfl, _⟩ | ⟨rfl, _⟩ | ⟨rfl, _⟩ | ⟨rfl, _⟩ | ⟨rfl, _⟩ | ⟨rfl, _⟩ | ⟨rfl, _⟩ | ⟨rfl, _⟩ | ⟨rfl, _⟩ <;> first | exact absurd rfl (h 0 _ (by omega) rfl) | exact absurd rfl (h 1 _ (by omega) rfl) | exact absurd rfl (h 2 _ (by omega) rfl) | exact absurd rfl (h 3 _ (by omega) rfl) | exact absurd rfl (h 4 _ (by omega) rfl) | exact absurd rfl (h 5 _ (by omega) rfl) | exact absurd rfl (h 6 _ (by omega) rfl) | exact absurd rfl (h 7 _ (by omega) rfl) | exact absurd rfl (h 8 _ (by omega) rfl) | exact absurd rfl (h 9 _ (by omega) rfl) | exact absurd rfl (h 10 _ (by omega) rfl) | exact absurd rfl (h 11 _ (by omega) rfl) | exact absurd rfl (h 12 _ (by omega) rfl) | exact absurd rfl (h 13 _ (by omega) rfl) | exact absurd rfl (h 14 _ (by omega) rfl) | exact absurd rfl (h 15 _ (by omega) rfl)
end Thing
set_option maxHeartbeats 1000000 in
set_option maxRecDepth 100000 in
theorem ref19_Has (key : ByteArray) (w : World) :
    Calls Try.prog 10 #[.string key] w fun e w' => e = .returned (.bool (num key.data.toList).isSome) ∧ Below w.heap.size w w' := by
  obtain ⟨W0, hW0⟩ : ∃ W0, w.alloc (.cells Thing.keyCells 9) = W0 := ⟨_, rfl⟩
  have hB : Blk W0 w.heap.size 9 Thing.keyCells := by rw [← hW0]; exact Blk.new w 9 _
  have hWb : Below w.heap.size w W0 := by rw [← hW0]; exact (Below.refl _ w).alloc (Nat.le_refl _) _
  have P4 : Hid (∀ j b, Thing.keyL[j]? = some b → W0.cell? ⟨w.heap.size, j, none⟩ = some (.string (bs [b]))) := fun j x hp => by rw [hB.cell, Thing.keyCells_at hp]
  unfold Thing.keyCells at hW0
  generalize hM : (num key.data.toList).isSome = M
  have HM := Lib.hid hM
  clear hM hB
  generalize hBB : w.heap.size = BB at P4
  go_enter Try.func10, Try.ntmps10
  go_wp2_with fail
  go_loop [7] (fun iv => ∃ j : Nat, j ≤ 16 ∧ iv = .int .i64 j ∧ Hid (∀ (i : Nat) b, i < j → Thing.keyL[i]? = some b → [b] ≠ key.data.toList)) (fun iv => 16 - (intOf iv).toNat)
  case atStart => exact ⟨0, by omega, rfl, Lib.hid (fun i x h => by omega)⟩
  case round =>
    obtain ⟨j, hj, rfl, HN⟩ := hrel
    by_cases hj8 : j < 16
    · obtain ⟨x, hp⟩ : ∃ x, Thing.keyL[j]? = some x := ⟨_, List.getElem?_eq_getElem (show j < Thing.keyL.length by show j < 16; omega)⟩
      have X1 := P4.out j x hp
      have a1 : (j : Int) < 16 := by omega
      by_cases hx : [x] = key.data.toList
      · have hE : ((bs [x]).toList == key.toList) = true := by rw [bs_tl, hx, beq_iff_eq]; exact (bs_tl key.data.toList).symm
        have H : Hid (true = M) := by show _ = _; rw [← HM.out, Thing.num_some hp hx]
        clear hp hx P4 hW0
        generalize bs [x] = LL at *
        go_wp2
        go_ret
        exact ⟨by rw [← H.out]; rfl, by rw [← hBB]; exact hWb⟩
      · have hE : ((bs [x]).toList == key.toList) = false := by rw [bs_tl, beq_eq_false_iff_ne]; intro h; exact hx (h.trans (bs_tl key.data.toList))
        have HN2 : Hid (∀ (i : Nat) b, i < j + 1 → Thing.keyL[i]? = some b → [b] ≠ key.data.toList) := fun i y hi hy => by
          rcases Nat.lt_or_ge i j with h | h
          · exact HN.out i y h hy
          · obtain rfl : i = j := by omega
            rw [hp] at hy; injection hy with hy; rw [← hy]; exact hx
        clear hp hx P4 hW0 HN
        generalize bs [x] = LL at *
        go_wp2
        go_round
        case rel => exact ⟨j + 1, by omega, by go_num, HN2⟩
        case measure => simp [intOf]; omega
    · obtain rfl : j = 16 := by omega
      have H : Hid (false = M) := by show _ = _; rw [← HM.out, Thing.num_none HN.out]; rfl
      clear P4 hW0
      go_wp2
      go_ret
      exact ⟨by rw [← H.out]; rfl, by rw [← hBB]; exact hWb⟩
set_option maxRecDepth 100000 in
theorem ref19_marked (x y : Nat) (all : Bool) (hx : x ≤ 1000000000000) (hy : y ≤ 1000000000000) (w : World) :
    Calls Try.prog 21 #[.int .i64 (x : Nat), .int .i64 (y : Nat), .bool all] w fun e w' => e = .returned (.tuple #[.agg #[.int .i64 (btw (x, y) all).1, .int .i64 (btw (x, y) all).2, .bool false], .bool true]) ∧ Below w.heap.size w w' := by
  have r1 : IntKind.i64.wrap ((y : Int) + 1) = (y : Int) + 1 := by rw [IntKind.wrap_i64]; omega
  have r2 : IntKind.i64.wrap ((x : Int) + 1) = (x : Int) + 1 := by rw [IntKind.wrap_i64]; omega
  clear hx hy
  cases all with
  | false =>
    go_enter Try.func21, Try.ntmps21
    go_wp2
    exact ret_three1 rfl rfl (Blk.new _ _ _) rfl Try.underlying24 rfl ⟨rfl, (Below.refl w.heap.size w).alloc (Nat.le_refl _) _⟩
  | true =>
    go_enter Try.func21, Try.ntmps21
    go_wp2
    exact ret_three1 rfl rfl (Blk.new _ _ _) rfl Try.underlying24 rfl ⟨rfl, (Below.refl w.heap.size w).alloc (Nat.le_refl _) _⟩
set_option maxHeartbeats 2000000 in
set_option maxRecDepth 100000 in
theorem ref19_word (s : ByteArray) (p : Int) (all big : Bool) (hs : s.size ≤ 1000000000000) (w : World) :
    Calls Try.prog 15 #[.string s, .int .i64 p, .bool all, .bool big] w fun e w' => e = .returned (Thing.plain (wrd s.data.toList p big all)) ∧ Below w.heap.size w w' := by
  have c1 := Lib.hid (fun w => ref5_Run s p big hs w)
  have hB := Blk.new w 24 #[.int .i64 0, .int .i64 0, .bool false]
  have hW := (Below.refl w.heap.size w).alloc (Nat.le_refl _) (.cells #[.int .i64 0, .int .i64 0, .bool false] 24)
  obtain ⟨q0, q1, q2, f0, f1, f2⟩ := row_three hB
  by_cases hl : Class.low_ s.data.toList p big < 0
  · have H : Hid (wrd s.data.toList p big all = none) := by show _ = _; rw [wrd, if_pos hl]
    have g1 : decide (Class.low_ s.data.toList p big < 0) = true := decide_eq_true hl
    generalize Class.low_ s.data.toList p big = l at *
    generalize Class.high_ s.data.toList p big = h at *
    go_enter Try.func15, Try.ntmps15
    go_wp2_with (first
      | (go_at_call 31; (with_reducible refine (c1.out _).mono ?_); rintro e wn ⟨rfl, hbn⟩; replace hW := hW.trans (hbn.mono hW.size); replace hB := hB.below hbn hB.lt; clear q0 q1 q2 f0 f1 f2 hbn; obtain ⟨q0, q1, q2, f0, f1, f2⟩ := row_three hB))
    exact ret_three1 rfl rfl (three_row hB) rfl Try.underlying24 rfl ⟨by rw [H.out]; rfl, below_three hW (Nat.le_refl _)⟩
  have c2 := Lib.hid (fun w => ref4_Of s p hs w)
  have c3 := Lib.hid (fun w => ref5_Of s p big (by omega) w)
  have c4 := Lib.hid (fun w => ref4_End s (Line.of_ s.data.toList p) hs w)
  have c5 := Lib.hid (fun w => ref4_Start s (Line.of_ s.data.toList p) hs w)
  have c6 := Lib.hid (fun w => ref5_Of s (Class.high_ s.data.toList p big) big (by omega) w)
  have c7 := Lib.hid (fun w => ref_Prev s (Class.low_ s.data.toList p big) (by omega) w)
  have c8 := Lib.hid (fun w => ref5_Of s (Utf.prev s.data.toList (Class.low_ s.data.toList p big)) big (by omega) w)
  have c9 := Lib.hid (fun w => ref5_Run s (Class.high_ s.data.toList p big) big hs w)
  have c10 := Lib.hid (fun w => ref5_Run s (Utf.prev s.data.toList (Class.low_ s.data.toList p big)) big hs w)
  have g1 : decide (Class.low_ s.data.toList p big < 0) = false := decide_eq_false hl
  have HR := Lib.hid (Thing.wid_ref hl)
  have HB : Hid ((Thing.beside s.data.toList p big).1 = if Class.high_ s.data.toList p big < Line.stop s.data.toList (Line.of_ s.data.toList p) then Class.kind s.data.toList (Class.high_ s.data.toList p big) big else 0) := rfl
  have HP : Hid ((Thing.beside s.data.toList p big).2 = if Line.start s.data.toList (Line.of_ s.data.toList p) < Class.low_ s.data.toList p big then Class.kind s.data.toList (Utf.prev s.data.toList (Class.low_ s.data.toList p big)) big else 0) := rfl
  have HA : Hid (wrd s.data.toList p big all = some (if all then wid s.data.toList (Class.low_ s.data.toList p big) (Class.high_ s.data.toList p big) big else (Class.low_ s.data.toList p big, Class.high_ s.data.toList p big))) := by show _ = _; rw [wrd, if_neg hl]
  clear hl
  generalize wrd s.data.toList p big all = Z at *
  generalize wid s.data.toList (Class.low_ s.data.toList p big) (Class.high_ s.data.toList p big) big = Wd at *
  generalize Thing.beside s.data.toList p big = Bs at *
  generalize Class.low_ s.data.toList (Utf.prev s.data.toList (Class.low_ s.data.toList p big)) big = l3 at *
  generalize Class.high_ s.data.toList (Utf.prev s.data.toList (Class.low_ s.data.toList p big)) big = h3 at *
  generalize Class.low_ s.data.toList (Class.high_ s.data.toList p big) big = l2 at *
  generalize Class.high_ s.data.toList (Class.high_ s.data.toList p big) big = h2 at *
  generalize Class.kind s.data.toList (Utf.prev s.data.toList (Class.low_ s.data.toList p big)) big = P at *
  generalize Class.kind s.data.toList (Class.high_ s.data.toList p big) big = B at *
  generalize Class.kind s.data.toList p big = N at *
  generalize Utf.prev s.data.toList (Class.low_ s.data.toList p big) = pv at *
  generalize Class.low_ s.data.toList p big = l at *
  generalize Class.high_ s.data.toList p big = h at *
  generalize Line.stop s.data.toList (Line.of_ s.data.toList p) = en at *
  generalize Line.start s.data.toList (Line.of_ s.data.toList p) = st at *
  generalize Line.of_ s.data.toList p = k at *
  obtain ⟨b1, b2⟩ := Bs
  dsimp only at HR HB HP
  by_cases hbx : h < en
  · rw [if_pos hbx] at HB
    obtain rfl := HB.out
    have g2 : decide (h < en) = true := decide_eq_true hbx
    by_cases hax : st < l
    · rw [if_pos hax] at HP
      obtain rfl := HP.out
      have g3 : decide (st < l) = true := decide_eq_true hax
      cases all with
      | false =>
        have H : Hid (Z = some (l, h)) := by
          show _ = _
          rw [HA.out]
          rfl
        clear HA HR HB HP
        go_enter Try.func15, Try.ntmps15
        go_wp2_with (first
          | (go_at_call 31; (with_reducible refine (c1.out _).mono ?_); rintro e wn ⟨rfl, hbn⟩; replace hW := hW.trans (hbn.mono hW.size); replace hB := hB.below hbn hB.lt; clear q0 q1 q2 f0 f1 f2 hbn; obtain ⟨q0, q1, q2, f0, f1, f2⟩ := row_three hB)
          | (go_at_call 32; (with_reducible refine (c2.out _).mono ?_); rintro e wn ⟨rfl, hbn⟩; replace hW := hW.trans (hbn.mono hW.size); replace hB := hB.below hbn hB.lt; clear q0 q1 q2 f0 f1 f2 hbn; obtain ⟨q0, q1, q2, f0, f1, f2⟩ := row_three hB)
          | (go_at_call 33; (with_reducible refine (c3.out _).mono ?_); rintro e wn ⟨rfl, hbn⟩; replace hW := hW.trans (hbn.mono hW.size); replace hB := hB.below hbn hB.lt; clear q0 q1 q2 f0 f1 f2 hbn; obtain ⟨q0, q1, q2, f0, f1, f2⟩ := row_three hB)
          | (go_at_call 18; (with_reducible refine (c4.out _).mono ?_); rintro e wn ⟨rfl, hbn⟩; replace hW := hW.trans (hbn.mono hW.size); replace hB := hB.below hbn hB.lt; clear q0 q1 q2 f0 f1 f2 hbn; obtain ⟨q0, q1, q2, f0, f1, f2⟩ := row_three hB)
          | (go_at_call 17; (with_reducible refine (c5.out _).mono ?_); rintro e wn ⟨rfl, hbn⟩; replace hW := hW.trans (hbn.mono hW.size); replace hB := hB.below hbn hB.lt; clear q0 q1 q2 f0 f1 f2 hbn; obtain ⟨q0, q1, q2, f0, f1, f2⟩ := row_three hB)
          | (go_at_call 33; (with_reducible refine (c6.out _).mono ?_); rintro e wn ⟨rfl, hbn⟩; replace hW := hW.trans (hbn.mono hW.size); replace hB := hB.below hbn hB.lt; clear q0 q1 q2 f0 f1 f2 hbn; obtain ⟨q0, q1, q2, f0, f1, f2⟩ := row_three hB)
          | (go_at_call 34; (with_reducible refine (c7.out _).mono ?_); rintro e wn ⟨rfl, hbn⟩; replace hW := hW.trans (hbn.mono hW.size); replace hB := hB.below hbn hB.lt; clear q0 q1 q2 f0 f1 f2 hbn; obtain ⟨q0, q1, q2, f0, f1, f2⟩ := row_three hB)
          | (go_at_call 33; (with_reducible refine (c8.out _).mono ?_); rintro e wn ⟨rfl, hbn⟩; replace hW := hW.trans (hbn.mono hW.size); replace hB := hB.below hbn hB.lt; clear q0 q1 q2 f0 f1 f2 hbn; obtain ⟨q0, q1, q2, f0, f1, f2⟩ := row_three hB))
        exact ret_three1 rfl rfl (three_row hB) rfl Try.underlying24 rfl ⟨by rw [H.out]; rfl, below_three hW (Nat.le_refl _)⟩
      | true =>
        by_cases hN : N = 1
        · have g4 : ((N : Int) == 1) = true := by simp; omega
          by_cases hn : 0 < b1
          · have g5 : decide ((0 : Int) < (b1 : Int)) = true := decide_eq_true (by omega)
            have g6 : decide (0 < b1) = true := decide_eq_true hn
            have H : Hid (Z = some (l, h2)) := by
              show _ = _
              rw [HA.out]
              rw [if_pos rfl, HR.out, if_pos (.inl ⟨hN, hn⟩)]
            clear HA HR HB HP
            go_enter Try.func15, Try.ntmps15
            go_wp2_with (first
              | (go_at_call 31; (with_reducible refine (c1.out _).mono ?_); rintro e wn ⟨rfl, hbn⟩; replace hW := hW.trans (hbn.mono hW.size); replace hB := hB.below hbn hB.lt; clear q0 q1 q2 f0 f1 f2 hbn; obtain ⟨q0, q1, q2, f0, f1, f2⟩ := row_three hB)
              | (go_at_call 32; (with_reducible refine (c2.out _).mono ?_); rintro e wn ⟨rfl, hbn⟩; replace hW := hW.trans (hbn.mono hW.size); replace hB := hB.below hbn hB.lt; clear q0 q1 q2 f0 f1 f2 hbn; obtain ⟨q0, q1, q2, f0, f1, f2⟩ := row_three hB)
              | (go_at_call 33; (with_reducible refine (c3.out _).mono ?_); rintro e wn ⟨rfl, hbn⟩; replace hW := hW.trans (hbn.mono hW.size); replace hB := hB.below hbn hB.lt; clear q0 q1 q2 f0 f1 f2 hbn; obtain ⟨q0, q1, q2, f0, f1, f2⟩ := row_three hB)
              | (go_at_call 18; (with_reducible refine (c4.out _).mono ?_); rintro e wn ⟨rfl, hbn⟩; replace hW := hW.trans (hbn.mono hW.size); replace hB := hB.below hbn hB.lt; clear q0 q1 q2 f0 f1 f2 hbn; obtain ⟨q0, q1, q2, f0, f1, f2⟩ := row_three hB)
              | (go_at_call 17; (with_reducible refine (c5.out _).mono ?_); rintro e wn ⟨rfl, hbn⟩; replace hW := hW.trans (hbn.mono hW.size); replace hB := hB.below hbn hB.lt; clear q0 q1 q2 f0 f1 f2 hbn; obtain ⟨q0, q1, q2, f0, f1, f2⟩ := row_three hB)
              | (go_at_call 33; (with_reducible refine (c6.out _).mono ?_); rintro e wn ⟨rfl, hbn⟩; replace hW := hW.trans (hbn.mono hW.size); replace hB := hB.below hbn hB.lt; clear q0 q1 q2 f0 f1 f2 hbn; obtain ⟨q0, q1, q2, f0, f1, f2⟩ := row_three hB)
              | (go_at_call 34; (with_reducible refine (c7.out _).mono ?_); rintro e wn ⟨rfl, hbn⟩; replace hW := hW.trans (hbn.mono hW.size); replace hB := hB.below hbn hB.lt; clear q0 q1 q2 f0 f1 f2 hbn; obtain ⟨q0, q1, q2, f0, f1, f2⟩ := row_three hB)
              | (go_at_call 33; (with_reducible refine (c8.out _).mono ?_); rintro e wn ⟨rfl, hbn⟩; replace hW := hW.trans (hbn.mono hW.size); replace hB := hB.below hbn hB.lt; clear q0 q1 q2 f0 f1 f2 hbn; obtain ⟨q0, q1, q2, f0, f1, f2⟩ := row_three hB)
              | (go_at_call 31; (with_reducible refine (c9.out _).mono ?_); rintro e wn ⟨rfl, hbn⟩; replace hW := hW.trans (hbn.mono hW.size); replace hB := hB.below hbn hB.lt; clear q0 q1 q2 f0 f1 f2 hbn; obtain ⟨q0, q1, q2, f0, f1, f2⟩ := row_three hB))
            exact ret_three1 rfl rfl (three_row hB) rfl Try.underlying24 rfl ⟨by rw [H.out]; rfl, below_three hW (Nat.le_refl _)⟩
          · have g5 : decide ((0 : Int) < (b1 : Int)) = false := decide_eq_false (by omega)
            have g6 : decide (0 < b1) = false := decide_eq_false hn
            have H : Hid (Z = some (l, h)) := by
              show _ = _
              rw [HA.out]
              rw [if_pos rfl, HR.out, if_neg (by omega), if_neg (by omega)]
            clear HA HR HB HP
            go_enter Try.func15, Try.ntmps15
            go_wp2_with (first
              | (go_at_call 31; (with_reducible refine (c1.out _).mono ?_); rintro e wn ⟨rfl, hbn⟩; replace hW := hW.trans (hbn.mono hW.size); replace hB := hB.below hbn hB.lt; clear q0 q1 q2 f0 f1 f2 hbn; obtain ⟨q0, q1, q2, f0, f1, f2⟩ := row_three hB)
              | (go_at_call 32; (with_reducible refine (c2.out _).mono ?_); rintro e wn ⟨rfl, hbn⟩; replace hW := hW.trans (hbn.mono hW.size); replace hB := hB.below hbn hB.lt; clear q0 q1 q2 f0 f1 f2 hbn; obtain ⟨q0, q1, q2, f0, f1, f2⟩ := row_three hB)
              | (go_at_call 33; (with_reducible refine (c3.out _).mono ?_); rintro e wn ⟨rfl, hbn⟩; replace hW := hW.trans (hbn.mono hW.size); replace hB := hB.below hbn hB.lt; clear q0 q1 q2 f0 f1 f2 hbn; obtain ⟨q0, q1, q2, f0, f1, f2⟩ := row_three hB)
              | (go_at_call 18; (with_reducible refine (c4.out _).mono ?_); rintro e wn ⟨rfl, hbn⟩; replace hW := hW.trans (hbn.mono hW.size); replace hB := hB.below hbn hB.lt; clear q0 q1 q2 f0 f1 f2 hbn; obtain ⟨q0, q1, q2, f0, f1, f2⟩ := row_three hB)
              | (go_at_call 17; (with_reducible refine (c5.out _).mono ?_); rintro e wn ⟨rfl, hbn⟩; replace hW := hW.trans (hbn.mono hW.size); replace hB := hB.below hbn hB.lt; clear q0 q1 q2 f0 f1 f2 hbn; obtain ⟨q0, q1, q2, f0, f1, f2⟩ := row_three hB)
              | (go_at_call 33; (with_reducible refine (c6.out _).mono ?_); rintro e wn ⟨rfl, hbn⟩; replace hW := hW.trans (hbn.mono hW.size); replace hB := hB.below hbn hB.lt; clear q0 q1 q2 f0 f1 f2 hbn; obtain ⟨q0, q1, q2, f0, f1, f2⟩ := row_three hB)
              | (go_at_call 34; (with_reducible refine (c7.out _).mono ?_); rintro e wn ⟨rfl, hbn⟩; replace hW := hW.trans (hbn.mono hW.size); replace hB := hB.below hbn hB.lt; clear q0 q1 q2 f0 f1 f2 hbn; obtain ⟨q0, q1, q2, f0, f1, f2⟩ := row_three hB)
              | (go_at_call 33; (with_reducible refine (c8.out _).mono ?_); rintro e wn ⟨rfl, hbn⟩; replace hW := hW.trans (hbn.mono hW.size); replace hB := hB.below hbn hB.lt; clear q0 q1 q2 f0 f1 f2 hbn; obtain ⟨q0, q1, q2, f0, f1, f2⟩ := row_three hB))
            exact ret_three1 rfl rfl (three_row hB) rfl Try.underlying24 rfl ⟨by rw [H.out]; rfl, below_three hW (Nat.le_refl _)⟩
        · have g4 : ((N : Int) == 1) = false := by simp; omega
          by_cases hn : b1 = 1
          · have g5 : ((b1 : Int) == 1) = true := by simp; omega
            have H : Hid (Z = some (l, h2)) := by
              show _ = _
              rw [HA.out]
              rw [if_pos rfl, HR.out, if_pos (.inr ⟨hN, hn⟩)]
            clear HA HR HB HP
            go_enter Try.func15, Try.ntmps15
            go_wp2_with (first
              | (go_at_call 31; (with_reducible refine (c1.out _).mono ?_); rintro e wn ⟨rfl, hbn⟩; replace hW := hW.trans (hbn.mono hW.size); replace hB := hB.below hbn hB.lt; clear q0 q1 q2 f0 f1 f2 hbn; obtain ⟨q0, q1, q2, f0, f1, f2⟩ := row_three hB)
              | (go_at_call 32; (with_reducible refine (c2.out _).mono ?_); rintro e wn ⟨rfl, hbn⟩; replace hW := hW.trans (hbn.mono hW.size); replace hB := hB.below hbn hB.lt; clear q0 q1 q2 f0 f1 f2 hbn; obtain ⟨q0, q1, q2, f0, f1, f2⟩ := row_three hB)
              | (go_at_call 33; (with_reducible refine (c3.out _).mono ?_); rintro e wn ⟨rfl, hbn⟩; replace hW := hW.trans (hbn.mono hW.size); replace hB := hB.below hbn hB.lt; clear q0 q1 q2 f0 f1 f2 hbn; obtain ⟨q0, q1, q2, f0, f1, f2⟩ := row_three hB)
              | (go_at_call 18; (with_reducible refine (c4.out _).mono ?_); rintro e wn ⟨rfl, hbn⟩; replace hW := hW.trans (hbn.mono hW.size); replace hB := hB.below hbn hB.lt; clear q0 q1 q2 f0 f1 f2 hbn; obtain ⟨q0, q1, q2, f0, f1, f2⟩ := row_three hB)
              | (go_at_call 17; (with_reducible refine (c5.out _).mono ?_); rintro e wn ⟨rfl, hbn⟩; replace hW := hW.trans (hbn.mono hW.size); replace hB := hB.below hbn hB.lt; clear q0 q1 q2 f0 f1 f2 hbn; obtain ⟨q0, q1, q2, f0, f1, f2⟩ := row_three hB)
              | (go_at_call 33; (with_reducible refine (c6.out _).mono ?_); rintro e wn ⟨rfl, hbn⟩; replace hW := hW.trans (hbn.mono hW.size); replace hB := hB.below hbn hB.lt; clear q0 q1 q2 f0 f1 f2 hbn; obtain ⟨q0, q1, q2, f0, f1, f2⟩ := row_three hB)
              | (go_at_call 34; (with_reducible refine (c7.out _).mono ?_); rintro e wn ⟨rfl, hbn⟩; replace hW := hW.trans (hbn.mono hW.size); replace hB := hB.below hbn hB.lt; clear q0 q1 q2 f0 f1 f2 hbn; obtain ⟨q0, q1, q2, f0, f1, f2⟩ := row_three hB)
              | (go_at_call 33; (with_reducible refine (c8.out _).mono ?_); rintro e wn ⟨rfl, hbn⟩; replace hW := hW.trans (hbn.mono hW.size); replace hB := hB.below hbn hB.lt; clear q0 q1 q2 f0 f1 f2 hbn; obtain ⟨q0, q1, q2, f0, f1, f2⟩ := row_three hB)
              | (go_at_call 31; (with_reducible refine (c9.out _).mono ?_); rintro e wn ⟨rfl, hbn⟩; replace hW := hW.trans (hbn.mono hW.size); replace hB := hB.below hbn hB.lt; clear q0 q1 q2 f0 f1 f2 hbn; obtain ⟨q0, q1, q2, f0, f1, f2⟩ := row_three hB))
            exact ret_three1 rfl rfl (three_row hB) rfl Try.underlying24 rfl ⟨by rw [H.out]; rfl, below_three hW (Nat.le_refl _)⟩
          · have g5 : ((b1 : Int) == 1) = false := by simp; omega
            by_cases hq : b2 = 1
            · have g7 : ((b2 : Int) == 1) = true := by simp; omega
              have H : Hid (Z = some (l3, h)) := by
                show _ = _
                rw [HA.out]
                rw [if_pos rfl, HR.out, if_neg (by omega), if_pos ⟨hN, hq⟩]
              clear HA HR HB HP
              go_enter Try.func15, Try.ntmps15
              go_wp2_with (first
                | (go_at_call 31; (with_reducible refine (c1.out _).mono ?_); rintro e wn ⟨rfl, hbn⟩; replace hW := hW.trans (hbn.mono hW.size); replace hB := hB.below hbn hB.lt; clear q0 q1 q2 f0 f1 f2 hbn; obtain ⟨q0, q1, q2, f0, f1, f2⟩ := row_three hB)
                | (go_at_call 32; (with_reducible refine (c2.out _).mono ?_); rintro e wn ⟨rfl, hbn⟩; replace hW := hW.trans (hbn.mono hW.size); replace hB := hB.below hbn hB.lt; clear q0 q1 q2 f0 f1 f2 hbn; obtain ⟨q0, q1, q2, f0, f1, f2⟩ := row_three hB)
                | (go_at_call 33; (with_reducible refine (c3.out _).mono ?_); rintro e wn ⟨rfl, hbn⟩; replace hW := hW.trans (hbn.mono hW.size); replace hB := hB.below hbn hB.lt; clear q0 q1 q2 f0 f1 f2 hbn; obtain ⟨q0, q1, q2, f0, f1, f2⟩ := row_three hB)
                | (go_at_call 18; (with_reducible refine (c4.out _).mono ?_); rintro e wn ⟨rfl, hbn⟩; replace hW := hW.trans (hbn.mono hW.size); replace hB := hB.below hbn hB.lt; clear q0 q1 q2 f0 f1 f2 hbn; obtain ⟨q0, q1, q2, f0, f1, f2⟩ := row_three hB)
                | (go_at_call 17; (with_reducible refine (c5.out _).mono ?_); rintro e wn ⟨rfl, hbn⟩; replace hW := hW.trans (hbn.mono hW.size); replace hB := hB.below hbn hB.lt; clear q0 q1 q2 f0 f1 f2 hbn; obtain ⟨q0, q1, q2, f0, f1, f2⟩ := row_three hB)
                | (go_at_call 33; (with_reducible refine (c6.out _).mono ?_); rintro e wn ⟨rfl, hbn⟩; replace hW := hW.trans (hbn.mono hW.size); replace hB := hB.below hbn hB.lt; clear q0 q1 q2 f0 f1 f2 hbn; obtain ⟨q0, q1, q2, f0, f1, f2⟩ := row_three hB)
                | (go_at_call 34; (with_reducible refine (c7.out _).mono ?_); rintro e wn ⟨rfl, hbn⟩; replace hW := hW.trans (hbn.mono hW.size); replace hB := hB.below hbn hB.lt; clear q0 q1 q2 f0 f1 f2 hbn; obtain ⟨q0, q1, q2, f0, f1, f2⟩ := row_three hB)
                | (go_at_call 33; (with_reducible refine (c8.out _).mono ?_); rintro e wn ⟨rfl, hbn⟩; replace hW := hW.trans (hbn.mono hW.size); replace hB := hB.below hbn hB.lt; clear q0 q1 q2 f0 f1 f2 hbn; obtain ⟨q0, q1, q2, f0, f1, f2⟩ := row_three hB)
                | (go_at_call 31; (with_reducible refine (c10.out _).mono ?_); rintro e wn ⟨rfl, hbn⟩; replace hW := hW.trans (hbn.mono hW.size); replace hB := hB.below hbn hB.lt; clear q0 q1 q2 f0 f1 f2 hbn; obtain ⟨q0, q1, q2, f0, f1, f2⟩ := row_three hB))
              exact ret_three1 rfl rfl (three_row hB) rfl Try.underlying24 rfl ⟨by rw [H.out]; rfl, below_three hW (Nat.le_refl _)⟩
            · have g7 : ((b2 : Int) == 1) = false := by simp; omega
              have H : Hid (Z = some (l, h)) := by
                show _ = _
                rw [HA.out]
                rw [if_pos rfl, HR.out, if_neg (by omega), if_neg (by omega)]
              clear HA HR HB HP
              go_enter Try.func15, Try.ntmps15
              go_wp2_with (first
                | (go_at_call 31; (with_reducible refine (c1.out _).mono ?_); rintro e wn ⟨rfl, hbn⟩; replace hW := hW.trans (hbn.mono hW.size); replace hB := hB.below hbn hB.lt; clear q0 q1 q2 f0 f1 f2 hbn; obtain ⟨q0, q1, q2, f0, f1, f2⟩ := row_three hB)
                | (go_at_call 32; (with_reducible refine (c2.out _).mono ?_); rintro e wn ⟨rfl, hbn⟩; replace hW := hW.trans (hbn.mono hW.size); replace hB := hB.below hbn hB.lt; clear q0 q1 q2 f0 f1 f2 hbn; obtain ⟨q0, q1, q2, f0, f1, f2⟩ := row_three hB)
                | (go_at_call 33; (with_reducible refine (c3.out _).mono ?_); rintro e wn ⟨rfl, hbn⟩; replace hW := hW.trans (hbn.mono hW.size); replace hB := hB.below hbn hB.lt; clear q0 q1 q2 f0 f1 f2 hbn; obtain ⟨q0, q1, q2, f0, f1, f2⟩ := row_three hB)
                | (go_at_call 18; (with_reducible refine (c4.out _).mono ?_); rintro e wn ⟨rfl, hbn⟩; replace hW := hW.trans (hbn.mono hW.size); replace hB := hB.below hbn hB.lt; clear q0 q1 q2 f0 f1 f2 hbn; obtain ⟨q0, q1, q2, f0, f1, f2⟩ := row_three hB)
                | (go_at_call 17; (with_reducible refine (c5.out _).mono ?_); rintro e wn ⟨rfl, hbn⟩; replace hW := hW.trans (hbn.mono hW.size); replace hB := hB.below hbn hB.lt; clear q0 q1 q2 f0 f1 f2 hbn; obtain ⟨q0, q1, q2, f0, f1, f2⟩ := row_three hB)
                | (go_at_call 33; (with_reducible refine (c6.out _).mono ?_); rintro e wn ⟨rfl, hbn⟩; replace hW := hW.trans (hbn.mono hW.size); replace hB := hB.below hbn hB.lt; clear q0 q1 q2 f0 f1 f2 hbn; obtain ⟨q0, q1, q2, f0, f1, f2⟩ := row_three hB)
                | (go_at_call 34; (with_reducible refine (c7.out _).mono ?_); rintro e wn ⟨rfl, hbn⟩; replace hW := hW.trans (hbn.mono hW.size); replace hB := hB.below hbn hB.lt; clear q0 q1 q2 f0 f1 f2 hbn; obtain ⟨q0, q1, q2, f0, f1, f2⟩ := row_three hB)
                | (go_at_call 33; (with_reducible refine (c8.out _).mono ?_); rintro e wn ⟨rfl, hbn⟩; replace hW := hW.trans (hbn.mono hW.size); replace hB := hB.below hbn hB.lt; clear q0 q1 q2 f0 f1 f2 hbn; obtain ⟨q0, q1, q2, f0, f1, f2⟩ := row_three hB))
              exact ret_three1 rfl rfl (three_row hB) rfl Try.underlying24 rfl ⟨by rw [H.out]; rfl, below_three hW (Nat.le_refl _)⟩
    · rw [if_neg hax] at HP
      obtain rfl := HP.out
      have g3 : decide (st < l) = false := decide_eq_false hax
      cases all with
      | false =>
        have H : Hid (Z = some (l, h)) := by
          show _ = _
          rw [HA.out]
          rfl
        clear HA HR HB HP
        go_enter Try.func15, Try.ntmps15
        go_wp2_with (first
          | (go_at_call 31; (with_reducible refine (c1.out _).mono ?_); rintro e wn ⟨rfl, hbn⟩; replace hW := hW.trans (hbn.mono hW.size); replace hB := hB.below hbn hB.lt; clear q0 q1 q2 f0 f1 f2 hbn; obtain ⟨q0, q1, q2, f0, f1, f2⟩ := row_three hB)
          | (go_at_call 32; (with_reducible refine (c2.out _).mono ?_); rintro e wn ⟨rfl, hbn⟩; replace hW := hW.trans (hbn.mono hW.size); replace hB := hB.below hbn hB.lt; clear q0 q1 q2 f0 f1 f2 hbn; obtain ⟨q0, q1, q2, f0, f1, f2⟩ := row_three hB)
          | (go_at_call 33; (with_reducible refine (c3.out _).mono ?_); rintro e wn ⟨rfl, hbn⟩; replace hW := hW.trans (hbn.mono hW.size); replace hB := hB.below hbn hB.lt; clear q0 q1 q2 f0 f1 f2 hbn; obtain ⟨q0, q1, q2, f0, f1, f2⟩ := row_three hB)
          | (go_at_call 18; (with_reducible refine (c4.out _).mono ?_); rintro e wn ⟨rfl, hbn⟩; replace hW := hW.trans (hbn.mono hW.size); replace hB := hB.below hbn hB.lt; clear q0 q1 q2 f0 f1 f2 hbn; obtain ⟨q0, q1, q2, f0, f1, f2⟩ := row_three hB)
          | (go_at_call 17; (with_reducible refine (c5.out _).mono ?_); rintro e wn ⟨rfl, hbn⟩; replace hW := hW.trans (hbn.mono hW.size); replace hB := hB.below hbn hB.lt; clear q0 q1 q2 f0 f1 f2 hbn; obtain ⟨q0, q1, q2, f0, f1, f2⟩ := row_three hB)
          | (go_at_call 33; (with_reducible refine (c6.out _).mono ?_); rintro e wn ⟨rfl, hbn⟩; replace hW := hW.trans (hbn.mono hW.size); replace hB := hB.below hbn hB.lt; clear q0 q1 q2 f0 f1 f2 hbn; obtain ⟨q0, q1, q2, f0, f1, f2⟩ := row_three hB))
        exact ret_three1 rfl rfl (three_row hB) rfl Try.underlying24 rfl ⟨by rw [H.out]; rfl, below_three hW (Nat.le_refl _)⟩
      | true =>
        by_cases hN : N = 1
        · have g4 : ((N : Int) == 1) = true := by simp; omega
          by_cases hn : 0 < b1
          · have g5 : decide ((0 : Int) < (b1 : Int)) = true := decide_eq_true (by omega)
            have g6 : decide (0 < b1) = true := decide_eq_true hn
            have H : Hid (Z = some (l, h2)) := by
              show _ = _
              rw [HA.out]
              rw [if_pos rfl, HR.out, if_pos (.inl ⟨hN, hn⟩)]
            clear HA HR HB HP
            go_enter Try.func15, Try.ntmps15
            go_wp2_with (first
              | (go_at_call 31; (with_reducible refine (c1.out _).mono ?_); rintro e wn ⟨rfl, hbn⟩; replace hW := hW.trans (hbn.mono hW.size); replace hB := hB.below hbn hB.lt; clear q0 q1 q2 f0 f1 f2 hbn; obtain ⟨q0, q1, q2, f0, f1, f2⟩ := row_three hB)
              | (go_at_call 32; (with_reducible refine (c2.out _).mono ?_); rintro e wn ⟨rfl, hbn⟩; replace hW := hW.trans (hbn.mono hW.size); replace hB := hB.below hbn hB.lt; clear q0 q1 q2 f0 f1 f2 hbn; obtain ⟨q0, q1, q2, f0, f1, f2⟩ := row_three hB)
              | (go_at_call 33; (with_reducible refine (c3.out _).mono ?_); rintro e wn ⟨rfl, hbn⟩; replace hW := hW.trans (hbn.mono hW.size); replace hB := hB.below hbn hB.lt; clear q0 q1 q2 f0 f1 f2 hbn; obtain ⟨q0, q1, q2, f0, f1, f2⟩ := row_three hB)
              | (go_at_call 18; (with_reducible refine (c4.out _).mono ?_); rintro e wn ⟨rfl, hbn⟩; replace hW := hW.trans (hbn.mono hW.size); replace hB := hB.below hbn hB.lt; clear q0 q1 q2 f0 f1 f2 hbn; obtain ⟨q0, q1, q2, f0, f1, f2⟩ := row_three hB)
              | (go_at_call 17; (with_reducible refine (c5.out _).mono ?_); rintro e wn ⟨rfl, hbn⟩; replace hW := hW.trans (hbn.mono hW.size); replace hB := hB.below hbn hB.lt; clear q0 q1 q2 f0 f1 f2 hbn; obtain ⟨q0, q1, q2, f0, f1, f2⟩ := row_three hB)
              | (go_at_call 33; (with_reducible refine (c6.out _).mono ?_); rintro e wn ⟨rfl, hbn⟩; replace hW := hW.trans (hbn.mono hW.size); replace hB := hB.below hbn hB.lt; clear q0 q1 q2 f0 f1 f2 hbn; obtain ⟨q0, q1, q2, f0, f1, f2⟩ := row_three hB)
              | (go_at_call 31; (with_reducible refine (c9.out _).mono ?_); rintro e wn ⟨rfl, hbn⟩; replace hW := hW.trans (hbn.mono hW.size); replace hB := hB.below hbn hB.lt; clear q0 q1 q2 f0 f1 f2 hbn; obtain ⟨q0, q1, q2, f0, f1, f2⟩ := row_three hB))
            exact ret_three1 rfl rfl (three_row hB) rfl Try.underlying24 rfl ⟨by rw [H.out]; rfl, below_three hW (Nat.le_refl _)⟩
          · have g5 : decide ((0 : Int) < (b1 : Int)) = false := decide_eq_false (by omega)
            have g6 : decide (0 < b1) = false := decide_eq_false hn
            have H : Hid (Z = some (l, h)) := by
              show _ = _
              rw [HA.out]
              rw [if_pos rfl, HR.out, if_neg (by omega), if_neg (by omega)]
            clear HA HR HB HP
            go_enter Try.func15, Try.ntmps15
            go_wp2_with (first
              | (go_at_call 31; (with_reducible refine (c1.out _).mono ?_); rintro e wn ⟨rfl, hbn⟩; replace hW := hW.trans (hbn.mono hW.size); replace hB := hB.below hbn hB.lt; clear q0 q1 q2 f0 f1 f2 hbn; obtain ⟨q0, q1, q2, f0, f1, f2⟩ := row_three hB)
              | (go_at_call 32; (with_reducible refine (c2.out _).mono ?_); rintro e wn ⟨rfl, hbn⟩; replace hW := hW.trans (hbn.mono hW.size); replace hB := hB.below hbn hB.lt; clear q0 q1 q2 f0 f1 f2 hbn; obtain ⟨q0, q1, q2, f0, f1, f2⟩ := row_three hB)
              | (go_at_call 33; (with_reducible refine (c3.out _).mono ?_); rintro e wn ⟨rfl, hbn⟩; replace hW := hW.trans (hbn.mono hW.size); replace hB := hB.below hbn hB.lt; clear q0 q1 q2 f0 f1 f2 hbn; obtain ⟨q0, q1, q2, f0, f1, f2⟩ := row_three hB)
              | (go_at_call 18; (with_reducible refine (c4.out _).mono ?_); rintro e wn ⟨rfl, hbn⟩; replace hW := hW.trans (hbn.mono hW.size); replace hB := hB.below hbn hB.lt; clear q0 q1 q2 f0 f1 f2 hbn; obtain ⟨q0, q1, q2, f0, f1, f2⟩ := row_three hB)
              | (go_at_call 17; (with_reducible refine (c5.out _).mono ?_); rintro e wn ⟨rfl, hbn⟩; replace hW := hW.trans (hbn.mono hW.size); replace hB := hB.below hbn hB.lt; clear q0 q1 q2 f0 f1 f2 hbn; obtain ⟨q0, q1, q2, f0, f1, f2⟩ := row_three hB)
              | (go_at_call 33; (with_reducible refine (c6.out _).mono ?_); rintro e wn ⟨rfl, hbn⟩; replace hW := hW.trans (hbn.mono hW.size); replace hB := hB.below hbn hB.lt; clear q0 q1 q2 f0 f1 f2 hbn; obtain ⟨q0, q1, q2, f0, f1, f2⟩ := row_three hB))
            exact ret_three1 rfl rfl (three_row hB) rfl Try.underlying24 rfl ⟨by rw [H.out]; rfl, below_three hW (Nat.le_refl _)⟩
        · have g4 : ((N : Int) == 1) = false := by simp; omega
          by_cases hn : b1 = 1
          · have g5 : ((b1 : Int) == 1) = true := by simp; omega
            have H : Hid (Z = some (l, h2)) := by
              show _ = _
              rw [HA.out]
              rw [if_pos rfl, HR.out, if_pos (.inr ⟨hN, hn⟩)]
            clear HA HR HB HP
            go_enter Try.func15, Try.ntmps15
            go_wp2_with (first
              | (go_at_call 31; (with_reducible refine (c1.out _).mono ?_); rintro e wn ⟨rfl, hbn⟩; replace hW := hW.trans (hbn.mono hW.size); replace hB := hB.below hbn hB.lt; clear q0 q1 q2 f0 f1 f2 hbn; obtain ⟨q0, q1, q2, f0, f1, f2⟩ := row_three hB)
              | (go_at_call 32; (with_reducible refine (c2.out _).mono ?_); rintro e wn ⟨rfl, hbn⟩; replace hW := hW.trans (hbn.mono hW.size); replace hB := hB.below hbn hB.lt; clear q0 q1 q2 f0 f1 f2 hbn; obtain ⟨q0, q1, q2, f0, f1, f2⟩ := row_three hB)
              | (go_at_call 33; (with_reducible refine (c3.out _).mono ?_); rintro e wn ⟨rfl, hbn⟩; replace hW := hW.trans (hbn.mono hW.size); replace hB := hB.below hbn hB.lt; clear q0 q1 q2 f0 f1 f2 hbn; obtain ⟨q0, q1, q2, f0, f1, f2⟩ := row_three hB)
              | (go_at_call 18; (with_reducible refine (c4.out _).mono ?_); rintro e wn ⟨rfl, hbn⟩; replace hW := hW.trans (hbn.mono hW.size); replace hB := hB.below hbn hB.lt; clear q0 q1 q2 f0 f1 f2 hbn; obtain ⟨q0, q1, q2, f0, f1, f2⟩ := row_three hB)
              | (go_at_call 17; (with_reducible refine (c5.out _).mono ?_); rintro e wn ⟨rfl, hbn⟩; replace hW := hW.trans (hbn.mono hW.size); replace hB := hB.below hbn hB.lt; clear q0 q1 q2 f0 f1 f2 hbn; obtain ⟨q0, q1, q2, f0, f1, f2⟩ := row_three hB)
              | (go_at_call 33; (with_reducible refine (c6.out _).mono ?_); rintro e wn ⟨rfl, hbn⟩; replace hW := hW.trans (hbn.mono hW.size); replace hB := hB.below hbn hB.lt; clear q0 q1 q2 f0 f1 f2 hbn; obtain ⟨q0, q1, q2, f0, f1, f2⟩ := row_three hB)
              | (go_at_call 31; (with_reducible refine (c9.out _).mono ?_); rintro e wn ⟨rfl, hbn⟩; replace hW := hW.trans (hbn.mono hW.size); replace hB := hB.below hbn hB.lt; clear q0 q1 q2 f0 f1 f2 hbn; obtain ⟨q0, q1, q2, f0, f1, f2⟩ := row_three hB))
            exact ret_three1 rfl rfl (three_row hB) rfl Try.underlying24 rfl ⟨by rw [H.out]; rfl, below_three hW (Nat.le_refl _)⟩
          · have g5 : ((b1 : Int) == 1) = false := by simp; omega
            have H : Hid (Z = some (l, h)) := by
              show _ = _
              rw [HA.out]
              rw [if_pos rfl, HR.out, if_neg (by omega), if_neg (by omega)]
            clear HA HR HB HP
            go_enter Try.func15, Try.ntmps15
            go_wp2_with (first
              | (go_at_call 31; (with_reducible refine (c1.out _).mono ?_); rintro e wn ⟨rfl, hbn⟩; replace hW := hW.trans (hbn.mono hW.size); replace hB := hB.below hbn hB.lt; clear q0 q1 q2 f0 f1 f2 hbn; obtain ⟨q0, q1, q2, f0, f1, f2⟩ := row_three hB)
              | (go_at_call 32; (with_reducible refine (c2.out _).mono ?_); rintro e wn ⟨rfl, hbn⟩; replace hW := hW.trans (hbn.mono hW.size); replace hB := hB.below hbn hB.lt; clear q0 q1 q2 f0 f1 f2 hbn; obtain ⟨q0, q1, q2, f0, f1, f2⟩ := row_three hB)
              | (go_at_call 33; (with_reducible refine (c3.out _).mono ?_); rintro e wn ⟨rfl, hbn⟩; replace hW := hW.trans (hbn.mono hW.size); replace hB := hB.below hbn hB.lt; clear q0 q1 q2 f0 f1 f2 hbn; obtain ⟨q0, q1, q2, f0, f1, f2⟩ := row_three hB)
              | (go_at_call 18; (with_reducible refine (c4.out _).mono ?_); rintro e wn ⟨rfl, hbn⟩; replace hW := hW.trans (hbn.mono hW.size); replace hB := hB.below hbn hB.lt; clear q0 q1 q2 f0 f1 f2 hbn; obtain ⟨q0, q1, q2, f0, f1, f2⟩ := row_three hB)
              | (go_at_call 17; (with_reducible refine (c5.out _).mono ?_); rintro e wn ⟨rfl, hbn⟩; replace hW := hW.trans (hbn.mono hW.size); replace hB := hB.below hbn hB.lt; clear q0 q1 q2 f0 f1 f2 hbn; obtain ⟨q0, q1, q2, f0, f1, f2⟩ := row_three hB)
              | (go_at_call 33; (with_reducible refine (c6.out _).mono ?_); rintro e wn ⟨rfl, hbn⟩; replace hW := hW.trans (hbn.mono hW.size); replace hB := hB.below hbn hB.lt; clear q0 q1 q2 f0 f1 f2 hbn; obtain ⟨q0, q1, q2, f0, f1, f2⟩ := row_three hB))
            exact ret_three1 rfl rfl (three_row hB) rfl Try.underlying24 rfl ⟨by rw [H.out]; rfl, below_three hW (Nat.le_refl _)⟩
  · rw [if_neg hbx] at HB
    obtain rfl := HB.out
    have g2 : decide (h < en) = false := decide_eq_false hbx
    by_cases hax : st < l
    · rw [if_pos hax] at HP
      obtain rfl := HP.out
      have g3 : decide (st < l) = true := decide_eq_true hax
      cases all with
      | false =>
        have H : Hid (Z = some (l, h)) := by
          show _ = _
          rw [HA.out]
          rfl
        clear HA HR HB HP
        go_enter Try.func15, Try.ntmps15
        go_wp2_with (first
          | (go_at_call 31; (with_reducible refine (c1.out _).mono ?_); rintro e wn ⟨rfl, hbn⟩; replace hW := hW.trans (hbn.mono hW.size); replace hB := hB.below hbn hB.lt; clear q0 q1 q2 f0 f1 f2 hbn; obtain ⟨q0, q1, q2, f0, f1, f2⟩ := row_three hB)
          | (go_at_call 32; (with_reducible refine (c2.out _).mono ?_); rintro e wn ⟨rfl, hbn⟩; replace hW := hW.trans (hbn.mono hW.size); replace hB := hB.below hbn hB.lt; clear q0 q1 q2 f0 f1 f2 hbn; obtain ⟨q0, q1, q2, f0, f1, f2⟩ := row_three hB)
          | (go_at_call 33; (with_reducible refine (c3.out _).mono ?_); rintro e wn ⟨rfl, hbn⟩; replace hW := hW.trans (hbn.mono hW.size); replace hB := hB.below hbn hB.lt; clear q0 q1 q2 f0 f1 f2 hbn; obtain ⟨q0, q1, q2, f0, f1, f2⟩ := row_three hB)
          | (go_at_call 18; (with_reducible refine (c4.out _).mono ?_); rintro e wn ⟨rfl, hbn⟩; replace hW := hW.trans (hbn.mono hW.size); replace hB := hB.below hbn hB.lt; clear q0 q1 q2 f0 f1 f2 hbn; obtain ⟨q0, q1, q2, f0, f1, f2⟩ := row_three hB)
          | (go_at_call 17; (with_reducible refine (c5.out _).mono ?_); rintro e wn ⟨rfl, hbn⟩; replace hW := hW.trans (hbn.mono hW.size); replace hB := hB.below hbn hB.lt; clear q0 q1 q2 f0 f1 f2 hbn; obtain ⟨q0, q1, q2, f0, f1, f2⟩ := row_three hB)
          | (go_at_call 34; (with_reducible refine (c7.out _).mono ?_); rintro e wn ⟨rfl, hbn⟩; replace hW := hW.trans (hbn.mono hW.size); replace hB := hB.below hbn hB.lt; clear q0 q1 q2 f0 f1 f2 hbn; obtain ⟨q0, q1, q2, f0, f1, f2⟩ := row_three hB)
          | (go_at_call 33; (with_reducible refine (c8.out _).mono ?_); rintro e wn ⟨rfl, hbn⟩; replace hW := hW.trans (hbn.mono hW.size); replace hB := hB.below hbn hB.lt; clear q0 q1 q2 f0 f1 f2 hbn; obtain ⟨q0, q1, q2, f0, f1, f2⟩ := row_three hB))
        exact ret_three1 rfl rfl (three_row hB) rfl Try.underlying24 rfl ⟨by rw [H.out]; rfl, below_three hW (Nat.le_refl _)⟩
      | true =>
        by_cases hN : N = 1
        · have g4 : ((N : Int) == 1) = true := by simp; omega
          have H : Hid (Z = some (l, h)) := by
            show _ = _
            rw [HA.out]
            rw [if_pos rfl, HR.out, if_neg (by omega), if_neg (by omega)]
          clear HA HR HB HP
          go_enter Try.func15, Try.ntmps15
          go_wp2_with (first
            | (go_at_call 31; (with_reducible refine (c1.out _).mono ?_); rintro e wn ⟨rfl, hbn⟩; replace hW := hW.trans (hbn.mono hW.size); replace hB := hB.below hbn hB.lt; clear q0 q1 q2 f0 f1 f2 hbn; obtain ⟨q0, q1, q2, f0, f1, f2⟩ := row_three hB)
            | (go_at_call 32; (with_reducible refine (c2.out _).mono ?_); rintro e wn ⟨rfl, hbn⟩; replace hW := hW.trans (hbn.mono hW.size); replace hB := hB.below hbn hB.lt; clear q0 q1 q2 f0 f1 f2 hbn; obtain ⟨q0, q1, q2, f0, f1, f2⟩ := row_three hB)
            | (go_at_call 33; (with_reducible refine (c3.out _).mono ?_); rintro e wn ⟨rfl, hbn⟩; replace hW := hW.trans (hbn.mono hW.size); replace hB := hB.below hbn hB.lt; clear q0 q1 q2 f0 f1 f2 hbn; obtain ⟨q0, q1, q2, f0, f1, f2⟩ := row_three hB)
            | (go_at_call 18; (with_reducible refine (c4.out _).mono ?_); rintro e wn ⟨rfl, hbn⟩; replace hW := hW.trans (hbn.mono hW.size); replace hB := hB.below hbn hB.lt; clear q0 q1 q2 f0 f1 f2 hbn; obtain ⟨q0, q1, q2, f0, f1, f2⟩ := row_three hB)
            | (go_at_call 17; (with_reducible refine (c5.out _).mono ?_); rintro e wn ⟨rfl, hbn⟩; replace hW := hW.trans (hbn.mono hW.size); replace hB := hB.below hbn hB.lt; clear q0 q1 q2 f0 f1 f2 hbn; obtain ⟨q0, q1, q2, f0, f1, f2⟩ := row_three hB)
            | (go_at_call 34; (with_reducible refine (c7.out _).mono ?_); rintro e wn ⟨rfl, hbn⟩; replace hW := hW.trans (hbn.mono hW.size); replace hB := hB.below hbn hB.lt; clear q0 q1 q2 f0 f1 f2 hbn; obtain ⟨q0, q1, q2, f0, f1, f2⟩ := row_three hB)
            | (go_at_call 33; (with_reducible refine (c8.out _).mono ?_); rintro e wn ⟨rfl, hbn⟩; replace hW := hW.trans (hbn.mono hW.size); replace hB := hB.below hbn hB.lt; clear q0 q1 q2 f0 f1 f2 hbn; obtain ⟨q0, q1, q2, f0, f1, f2⟩ := row_three hB))
          exact ret_three1 rfl rfl (three_row hB) rfl Try.underlying24 rfl ⟨by rw [H.out]; rfl, below_three hW (Nat.le_refl _)⟩
        · have g4 : ((N : Int) == 1) = false := by simp; omega
          by_cases hq : b2 = 1
          · have g7 : ((b2 : Int) == 1) = true := by simp; omega
            have H : Hid (Z = some (l3, h)) := by
              show _ = _
              rw [HA.out]
              rw [if_pos rfl, HR.out, if_neg (by omega), if_pos ⟨hN, hq⟩]
            clear HA HR HB HP
            go_enter Try.func15, Try.ntmps15
            go_wp2_with (first
              | (go_at_call 31; (with_reducible refine (c1.out _).mono ?_); rintro e wn ⟨rfl, hbn⟩; replace hW := hW.trans (hbn.mono hW.size); replace hB := hB.below hbn hB.lt; clear q0 q1 q2 f0 f1 f2 hbn; obtain ⟨q0, q1, q2, f0, f1, f2⟩ := row_three hB)
              | (go_at_call 32; (with_reducible refine (c2.out _).mono ?_); rintro e wn ⟨rfl, hbn⟩; replace hW := hW.trans (hbn.mono hW.size); replace hB := hB.below hbn hB.lt; clear q0 q1 q2 f0 f1 f2 hbn; obtain ⟨q0, q1, q2, f0, f1, f2⟩ := row_three hB)
              | (go_at_call 33; (with_reducible refine (c3.out _).mono ?_); rintro e wn ⟨rfl, hbn⟩; replace hW := hW.trans (hbn.mono hW.size); replace hB := hB.below hbn hB.lt; clear q0 q1 q2 f0 f1 f2 hbn; obtain ⟨q0, q1, q2, f0, f1, f2⟩ := row_three hB)
              | (go_at_call 18; (with_reducible refine (c4.out _).mono ?_); rintro e wn ⟨rfl, hbn⟩; replace hW := hW.trans (hbn.mono hW.size); replace hB := hB.below hbn hB.lt; clear q0 q1 q2 f0 f1 f2 hbn; obtain ⟨q0, q1, q2, f0, f1, f2⟩ := row_three hB)
              | (go_at_call 17; (with_reducible refine (c5.out _).mono ?_); rintro e wn ⟨rfl, hbn⟩; replace hW := hW.trans (hbn.mono hW.size); replace hB := hB.below hbn hB.lt; clear q0 q1 q2 f0 f1 f2 hbn; obtain ⟨q0, q1, q2, f0, f1, f2⟩ := row_three hB)
              | (go_at_call 34; (with_reducible refine (c7.out _).mono ?_); rintro e wn ⟨rfl, hbn⟩; replace hW := hW.trans (hbn.mono hW.size); replace hB := hB.below hbn hB.lt; clear q0 q1 q2 f0 f1 f2 hbn; obtain ⟨q0, q1, q2, f0, f1, f2⟩ := row_three hB)
              | (go_at_call 33; (with_reducible refine (c8.out _).mono ?_); rintro e wn ⟨rfl, hbn⟩; replace hW := hW.trans (hbn.mono hW.size); replace hB := hB.below hbn hB.lt; clear q0 q1 q2 f0 f1 f2 hbn; obtain ⟨q0, q1, q2, f0, f1, f2⟩ := row_three hB)
              | (go_at_call 31; (with_reducible refine (c10.out _).mono ?_); rintro e wn ⟨rfl, hbn⟩; replace hW := hW.trans (hbn.mono hW.size); replace hB := hB.below hbn hB.lt; clear q0 q1 q2 f0 f1 f2 hbn; obtain ⟨q0, q1, q2, f0, f1, f2⟩ := row_three hB))
            exact ret_three1 rfl rfl (three_row hB) rfl Try.underlying24 rfl ⟨by rw [H.out]; rfl, below_three hW (Nat.le_refl _)⟩
          · have g7 : ((b2 : Int) == 1) = false := by simp; omega
            have H : Hid (Z = some (l, h)) := by
              show _ = _
              rw [HA.out]
              rw [if_pos rfl, HR.out, if_neg (by omega), if_neg (by omega)]
            clear HA HR HB HP
            go_enter Try.func15, Try.ntmps15
            go_wp2_with (first
              | (go_at_call 31; (with_reducible refine (c1.out _).mono ?_); rintro e wn ⟨rfl, hbn⟩; replace hW := hW.trans (hbn.mono hW.size); replace hB := hB.below hbn hB.lt; clear q0 q1 q2 f0 f1 f2 hbn; obtain ⟨q0, q1, q2, f0, f1, f2⟩ := row_three hB)
              | (go_at_call 32; (with_reducible refine (c2.out _).mono ?_); rintro e wn ⟨rfl, hbn⟩; replace hW := hW.trans (hbn.mono hW.size); replace hB := hB.below hbn hB.lt; clear q0 q1 q2 f0 f1 f2 hbn; obtain ⟨q0, q1, q2, f0, f1, f2⟩ := row_three hB)
              | (go_at_call 33; (with_reducible refine (c3.out _).mono ?_); rintro e wn ⟨rfl, hbn⟩; replace hW := hW.trans (hbn.mono hW.size); replace hB := hB.below hbn hB.lt; clear q0 q1 q2 f0 f1 f2 hbn; obtain ⟨q0, q1, q2, f0, f1, f2⟩ := row_three hB)
              | (go_at_call 18; (with_reducible refine (c4.out _).mono ?_); rintro e wn ⟨rfl, hbn⟩; replace hW := hW.trans (hbn.mono hW.size); replace hB := hB.below hbn hB.lt; clear q0 q1 q2 f0 f1 f2 hbn; obtain ⟨q0, q1, q2, f0, f1, f2⟩ := row_three hB)
              | (go_at_call 17; (with_reducible refine (c5.out _).mono ?_); rintro e wn ⟨rfl, hbn⟩; replace hW := hW.trans (hbn.mono hW.size); replace hB := hB.below hbn hB.lt; clear q0 q1 q2 f0 f1 f2 hbn; obtain ⟨q0, q1, q2, f0, f1, f2⟩ := row_three hB)
              | (go_at_call 34; (with_reducible refine (c7.out _).mono ?_); rintro e wn ⟨rfl, hbn⟩; replace hW := hW.trans (hbn.mono hW.size); replace hB := hB.below hbn hB.lt; clear q0 q1 q2 f0 f1 f2 hbn; obtain ⟨q0, q1, q2, f0, f1, f2⟩ := row_three hB)
              | (go_at_call 33; (with_reducible refine (c8.out _).mono ?_); rintro e wn ⟨rfl, hbn⟩; replace hW := hW.trans (hbn.mono hW.size); replace hB := hB.below hbn hB.lt; clear q0 q1 q2 f0 f1 f2 hbn; obtain ⟨q0, q1, q2, f0, f1, f2⟩ := row_three hB))
            exact ret_three1 rfl rfl (three_row hB) rfl Try.underlying24 rfl ⟨by rw [H.out]; rfl, below_three hW (Nat.le_refl _)⟩
    · rw [if_neg hax] at HP
      obtain rfl := HP.out
      have g3 : decide (st < l) = false := decide_eq_false hax
      cases all with
      | false =>
        have H : Hid (Z = some (l, h)) := by
          show _ = _
          rw [HA.out]
          rfl
        clear HA HR HB HP
        go_enter Try.func15, Try.ntmps15
        go_wp2_with (first
          | (go_at_call 31; (with_reducible refine (c1.out _).mono ?_); rintro e wn ⟨rfl, hbn⟩; replace hW := hW.trans (hbn.mono hW.size); replace hB := hB.below hbn hB.lt; clear q0 q1 q2 f0 f1 f2 hbn; obtain ⟨q0, q1, q2, f0, f1, f2⟩ := row_three hB)
          | (go_at_call 32; (with_reducible refine (c2.out _).mono ?_); rintro e wn ⟨rfl, hbn⟩; replace hW := hW.trans (hbn.mono hW.size); replace hB := hB.below hbn hB.lt; clear q0 q1 q2 f0 f1 f2 hbn; obtain ⟨q0, q1, q2, f0, f1, f2⟩ := row_three hB)
          | (go_at_call 33; (with_reducible refine (c3.out _).mono ?_); rintro e wn ⟨rfl, hbn⟩; replace hW := hW.trans (hbn.mono hW.size); replace hB := hB.below hbn hB.lt; clear q0 q1 q2 f0 f1 f2 hbn; obtain ⟨q0, q1, q2, f0, f1, f2⟩ := row_three hB)
          | (go_at_call 18; (with_reducible refine (c4.out _).mono ?_); rintro e wn ⟨rfl, hbn⟩; replace hW := hW.trans (hbn.mono hW.size); replace hB := hB.below hbn hB.lt; clear q0 q1 q2 f0 f1 f2 hbn; obtain ⟨q0, q1, q2, f0, f1, f2⟩ := row_three hB)
          | (go_at_call 17; (with_reducible refine (c5.out _).mono ?_); rintro e wn ⟨rfl, hbn⟩; replace hW := hW.trans (hbn.mono hW.size); replace hB := hB.below hbn hB.lt; clear q0 q1 q2 f0 f1 f2 hbn; obtain ⟨q0, q1, q2, f0, f1, f2⟩ := row_three hB))
        exact ret_three1 rfl rfl (three_row hB) rfl Try.underlying24 rfl ⟨by rw [H.out]; rfl, below_three hW (Nat.le_refl _)⟩
      | true =>
        by_cases hN : N = 1
        · have g4 : ((N : Int) == 1) = true := by simp; omega
          have H : Hid (Z = some (l, h)) := by
            show _ = _
            rw [HA.out]
            rw [if_pos rfl, HR.out, if_neg (by omega), if_neg (by omega)]
          clear HA HR HB HP
          go_enter Try.func15, Try.ntmps15
          go_wp2_with (first
            | (go_at_call 31; (with_reducible refine (c1.out _).mono ?_); rintro e wn ⟨rfl, hbn⟩; replace hW := hW.trans (hbn.mono hW.size); replace hB := hB.below hbn hB.lt; clear q0 q1 q2 f0 f1 f2 hbn; obtain ⟨q0, q1, q2, f0, f1, f2⟩ := row_three hB)
            | (go_at_call 32; (with_reducible refine (c2.out _).mono ?_); rintro e wn ⟨rfl, hbn⟩; replace hW := hW.trans (hbn.mono hW.size); replace hB := hB.below hbn hB.lt; clear q0 q1 q2 f0 f1 f2 hbn; obtain ⟨q0, q1, q2, f0, f1, f2⟩ := row_three hB)
            | (go_at_call 33; (with_reducible refine (c3.out _).mono ?_); rintro e wn ⟨rfl, hbn⟩; replace hW := hW.trans (hbn.mono hW.size); replace hB := hB.below hbn hB.lt; clear q0 q1 q2 f0 f1 f2 hbn; obtain ⟨q0, q1, q2, f0, f1, f2⟩ := row_three hB)
            | (go_at_call 18; (with_reducible refine (c4.out _).mono ?_); rintro e wn ⟨rfl, hbn⟩; replace hW := hW.trans (hbn.mono hW.size); replace hB := hB.below hbn hB.lt; clear q0 q1 q2 f0 f1 f2 hbn; obtain ⟨q0, q1, q2, f0, f1, f2⟩ := row_three hB)
            | (go_at_call 17; (with_reducible refine (c5.out _).mono ?_); rintro e wn ⟨rfl, hbn⟩; replace hW := hW.trans (hbn.mono hW.size); replace hB := hB.below hbn hB.lt; clear q0 q1 q2 f0 f1 f2 hbn; obtain ⟨q0, q1, q2, f0, f1, f2⟩ := row_three hB))
          exact ret_three1 rfl rfl (three_row hB) rfl Try.underlying24 rfl ⟨by rw [H.out]; rfl, below_three hW (Nat.le_refl _)⟩
        · have g4 : ((N : Int) == 1) = false := by simp; omega
          have H : Hid (Z = some (l, h)) := by
            show _ = _
            rw [HA.out]
            rw [if_pos rfl, HR.out, if_neg (by omega), if_neg (by omega)]
          clear HA HR HB HP
          go_enter Try.func15, Try.ntmps15
          go_wp2_with (first
            | (go_at_call 31; (with_reducible refine (c1.out _).mono ?_); rintro e wn ⟨rfl, hbn⟩; replace hW := hW.trans (hbn.mono hW.size); replace hB := hB.below hbn hB.lt; clear q0 q1 q2 f0 f1 f2 hbn; obtain ⟨q0, q1, q2, f0, f1, f2⟩ := row_three hB)
            | (go_at_call 32; (with_reducible refine (c2.out _).mono ?_); rintro e wn ⟨rfl, hbn⟩; replace hW := hW.trans (hbn.mono hW.size); replace hB := hB.below hbn hB.lt; clear q0 q1 q2 f0 f1 f2 hbn; obtain ⟨q0, q1, q2, f0, f1, f2⟩ := row_three hB)
            | (go_at_call 33; (with_reducible refine (c3.out _).mono ?_); rintro e wn ⟨rfl, hbn⟩; replace hW := hW.trans (hbn.mono hW.size); replace hB := hB.below hbn hB.lt; clear q0 q1 q2 f0 f1 f2 hbn; obtain ⟨q0, q1, q2, f0, f1, f2⟩ := row_three hB)
            | (go_at_call 18; (with_reducible refine (c4.out _).mono ?_); rintro e wn ⟨rfl, hbn⟩; replace hW := hW.trans (hbn.mono hW.size); replace hB := hB.below hbn hB.lt; clear q0 q1 q2 f0 f1 f2 hbn; obtain ⟨q0, q1, q2, f0, f1, f2⟩ := row_three hB)
            | (go_at_call 17; (with_reducible refine (c5.out _).mono ?_); rintro e wn ⟨rfl, hbn⟩; replace hW := hW.trans (hbn.mono hW.size); replace hB := hB.below hbn hB.lt; clear q0 q1 q2 f0 f1 f2 hbn; obtain ⟨q0, q1, q2, f0, f1, f2⟩ := row_three hB))
          exact ret_three1 rfl rfl (three_row hB) rfl Try.underlying24 rfl ⟨by rw [H.out]; rfl, below_three hW (Nat.le_refl _)⟩
end Go.Proofs.Ytohdijhpoddbbaa
/-
  The document's things: two signs of a line that belong together (a list of the signs, then two by two).
-/
namespace Go.Proofs.Ytohdijhpoddbbaa
open Go.RowKit
open Thing (btw pos two quo)
namespace Thing
/-- Places as numbers. -/
def znum (l : List Nat) : List Int := l.map fun (x : Nat) => (x : Int)
theorem znum_at {l : List Nat} {i v : Nat} (h : l[i]? = some v) : (znum l)[i]? = some (v : Int) := by rw [znum, List.getElem?_map, h]; rfl
theorem znum_length (l : List Nat) : (znum l).length = l.length := by rw [znum, List.length_map]
theorem two_drop {p : Int} {l : List Nat} {j x y : Nat} (hx : l[j]? = some x) (hy : l[j + 1]? = some y) : two p (l.drop j) = if p ≤ (y : Int) then some (x, y) else two p (l.drop (j + 2)) := by
  obtain ⟨h1, e1⟩ := List.getElem?_eq_some_iff.1 hx
  obtain ⟨h2, e2⟩ := List.getElem?_eq_some_iff.1 hy
  rw [List.drop_eq_getElem_cons h1, List.drop_eq_getElem_cons h2, e1, e2, two]
theorem two_few {p : Int} {l : List Nat} {j : Nat} (h : l.length ≤ j + 1) : two p (l.drop j) = none := by
  rcases Nat.lt_or_ge j l.length with h1 | h1
  · rw [List.drop_eq_getElem_cons h1, List.drop_eq_nil_of_le (by omega)]; rfl
  · rw [List.drop_eq_nil_of_le h1]; rfl
theorem quo_pos {s : List UInt8} {p : Int} {q : UInt8} {x : Nat × Nat} (h1 : Line.start s (Line.of_ s p) = x.1) (h2 : Line.stop s (Line.of_ s p) = x.2) : quo s p q = two p (pos s q x.1 (x.2 - x.1)) := by
  rw [quo, sgs, h1, h2, Int.toNat_natCast, Int.toNat_natCast]
end Thing
set_option maxHeartbeats 4000000 in
set_option maxRecDepth 100000 in
theorem ref19_quoted (s : ByteArray) (p : Int) (all : Bool) (q : UInt8) (hs : s.size ≤ 1000000000000) (hp : Utf.place s.data.toList p = true) (w : World) :
    Calls Try.prog 19 #[.string s, .int .i64 p, .bool all, .int .u8 (q.toNat : Int)] w fun e w' => e = .returned (Thing.plain ((quo s.data.toList p q).map (btw · all))) ∧ Below w.heap.size w w' := by
  have hl := data_len s
  obtain ⟨i0, hi, hz0, hz1, hz2⟩ := info_parts info_int
  have c1 := Lib.hid (fun w => ref4_Of s p hs w)
  have c2 := Lib.hid (fun w => ref4_Start s (Line.of_ s.data.toList p) hs w)
  have c3 := Lib.hid (fun w => ref4_End s (Line.of_ s.data.toList p) hs w)
  obtain ⟨n, k, x, rfl, hk, h1, h2, h3, e1, e2, e3⟩ := Line.place_line hp
  have HQ : Hid (quo s.data.toList n q = two n (pos s.data.toList q x.1 (x.2 - x.1))) := Thing.quo_pos e2 e3
  rw [e2] at c2
  rw [e3] at c3
  rw [e1] at c1 c2 c3
  obtain ⟨u, v⟩ := x
  dsimp only at *
  replace h3 : v ≤ s.size := by omega
  have huv : u ≤ v := by omega
  have hB := Blk.new w 24 #[.int .i64 0, .int .i64 0, .bool false]
  have hW := (Below.refl w.heap.size w).alloc (Nat.le_refl _) (.cells #[.int .i64 0, .int .i64 0, .bool false] 24)
  have hgl := hB.lt
  clear hk e1 e2 e3 hp h1 h2 hl
  generalize quo s.data.toList n q = z at *
  go_enter Try.func19, Try.ntmps19
  go_wp2_with (first
    | (go_at_call 32; (with_reducible refine (c1.out _).mono ?_); rintro e w1 ⟨rfl, hbn⟩; replace hW := hW.trans (hbn.mono hW.size); replace hB := hB.below hbn hB.lt; clear hbn)
    | (go_at_call 17; (with_reducible refine (c2.out _).mono ?_); rintro e w2 ⟨rfl, hbn⟩; replace hW := hW.trans (hbn.mono hW.size); replace hB := hB.below hbn hB.lt; clear hbn))
  have hgl2 := hB.lt
  have HB := Lib.hid hB
  have HW := Lib.hid hW
  clear hB hW c1 c2 hgl
  go_loopw [11, 12] (fun lv iv wr => ∃ (i : Nat) (xs : List Nat) (a : Option Addr) (cc : Nat), u ≤ i ∧ i ≤ v ∧ xs.length ≤ i ∧ iv = .int .i64 i ∧ lv = .slice a xs.length cc ∧ Hid (∀ y ∈ xs, y < v) ∧ Hid (z = two n (xs ++ pos s.data.toList q i (v - i))) ∧ wr.ownsRow w2.heap.size 3 1 (.slice a xs.length cc) xs.length ((Thing.znum xs).map (Value.int .i64)) ∧ Below w2.heap.size w2 wr) (fun _ iv _ => v - (intOf iv).toNat)
  case atStart => exact ⟨u, [], none, 0, Nat.le_refl _, huv, Nat.zero_le _, rfl, rfl, Lib.hid (fun y h => by cases h), HQ, (World.ownsRow_nil _ _ _ _ : w2.ownsRow w2.heap.size 3 1 (.slice none 0 0) 0 []), Below.refl _ _⟩
  case round =>
    obtain ⟨i, xs, a, cc, hi1, hi2, hxl, rfl, rfl, HY, HZ, hown, hb⟩ := hrel
    have hwr : w2.heap.size ≤ wr.heap.size := hb.size
    have r1 : IntKind.i64.wrap ((i : Int) + 1) = (i : Int) + 1 := by rw [IntKind.wrap_i64]; omega
    by_cases hiv : i < v
    · have hlt : i < s.size := by omega
      have hy : s.data.toList[i]? = some s[i] := byte_get s hlt
      obtain ⟨m, hm⟩ : ∃ m, v - i = m + 1 := ⟨v - i - 1, by omega⟩
      have hm2 : v - (i + 1) = m := by omega
      have g0 : decide (i < v) = true := decide_eq_true hiv
      by_cases hq : s[i] = q
      · have g1 : ((s[i].toNat : Int) == (q.toNat : Int)) = true := by rw [hq]; simp
        have H2 : Hid (z = two n ((xs ++ [i]) ++ pos s.data.toList q (i + 1) (v - (i + 1)))) := by
          show _ = _
          rw [HZ.out, hm, hm2, Thing.pos_yes (by rw [hy, hq])]
          simp
        have HY2 : Hid (∀ y ∈ xs ++ [i], y < v) := Lib.hid (fun y h => by
          rcases List.mem_append.1 h with h | h
          · exact HY.out y h
          · rw [List.mem_singleton.1 h]; exact hiv)
        clear HZ hm hm2 hy hq HY
        go_wp2_with (first
          | (go_at_call 18; (with_reducible refine (c3.out _).mono ?_); rintro e w3 ⟨rfl, hbn⟩; have hb3 := hb.trans (hbn.mono hb.size); have hown3 := own_below hown hbn; have hwr3 : w2.heap.size ≤ w3.heap.size := hb3.size; clear hbn hown hb)
          | (at_builtin; refine wpList_append_own _ rfl _ _ 52 rfl w2.heap.size 3 i0 (.int .i64 0) 1 8 Try.underlying52 hi hz0 hz1 hz2 rfl (by decide) _ _ _ rfl (hown3.alloc _) ⟨w3.heap.size, 0, none⟩ 1 1 [.int .i64 (i : Nat)] rfl rfl (append_one_cell _ _ _) (by intro u hu; simp at hu; subst hu; rfl) (by unfold maxLen; omega) (by omega) (by simp; omega) ?_))
        intro v' w4 hown' hgrow _
        have hb4 : Below w2.heap.size w2 w4 := (hb3.alloc hwr3 _).grown hgrow (by simp; omega) (fun g hg => (hown3.lt g hg).1)
        obtain ⟨a', c', rfl⟩ := own_shape hown'
        have hown4 : w4.ownsRow w2.heap.size 3 1 (.slice a' (xs.length + 1) c') (xs.length + 1) ((Thing.znum (xs ++ [i])).map (Value.int .i64)) := by rw [Thing.znum, List.map_append, List.map_append]; exact hown'
        obtain ⟨ys, hys⟩ : ∃ ys, Hid (xs ++ [i] = ys) := ⟨_, rfl⟩
        rw [hys.out] at hown4 H2 HY2
        have hyl : Hid (xs.length + 1 = ys.length) := by show _ = _; rw [← hys.out, List.length_append]; rfl
        rw [hyl.out] at hown4
        clear hown' hgrow hown3 hb3 hys
        go_wp2
        go_roundw
        case rel => exact ⟨i + 1, ys, a', c', by omega, by omega, by have := hyl.out; omega, by go_num, by rw [hyl.out], HY2, H2, hown4, hb4⟩
        case measure => simp [intOf] <;> omega
      · have g1 : ((s[i].toNat : Int) == (q.toNat : Int)) = false := by
          rw [beq_eq_false_iff_ne]; intro h; exact hq (UInt8.toNat_inj.1 (by omega))
        have H2 : Hid (z = two n (xs ++ pos s.data.toList q (i + 1) (v - (i + 1)))) := by
          show _ = _
          rw [HZ.out, hm, hm2, Thing.pos_no (by rw [hy]; intro h; injection h with h; exact hq h)]
        clear HZ hm hm2 hy hq
        go_wp2_with (first
          | (go_at_call 18; (with_reducible refine (c3.out _).mono ?_); rintro e w3 ⟨rfl, hbn⟩; have hb3 := hb.trans (hbn.mono hb.size); have hown3 := own_below hown hbn; have hwr3 : w2.heap.size ≤ w3.heap.size := hb3.size; clear hbn hown hb))
        go_roundw
        case rel => exact ⟨i + 1, xs, a, cc, by omega, by omega, by omega, by go_num, rfl, HY, H2, hown3, hb3⟩
        case measure => simp [intOf] <;> omega
    · have H2 : Hid (z = two n (xs.drop 0)) := by
        show _ = _
        rw [HZ.out, show v - i = 0 by omega, pos, List.append_nil, List.drop_zero]
      have g0 : decide (i < v) = false := decide_eq_false hiv
      have hxv : xs.length ≤ v := by omega
      clear HZ r1
      go_wp2_with (first
          | (go_at_call 18; (with_reducible refine (c3.out _).mono ?_); rintro e w3 ⟨rfl, hbn⟩; have hb3 := hb.trans (hbn.mono hb.size); have hown3 := own_below hown hbn; have hwr3 : w2.heap.size ≤ w3.heap.size := hb3.size; clear hbn hown hb))
      have hI : Ints w3 a (Thing.znum xs) := Ints.of_own (by rw [Thing.znum_length]; exact hown3) rfl
      have hag : ∀ ad, a = some ad → w2.heap.size ≤ ad.block := fun ad he => (hown3.lt ad.block (by rw [he]; rfl)).1
      have hB3 := HB.out.below hb3 hgl2
      have hW3 := HW.out.trans (hb3.mono HW.out.size)
      have HI := Lib.hid hI
      have HG := Lib.hid hag
      have HB3 := Lib.hid hB3
      have HW3 := Lib.hid hW3
      clear hI hag hB3 hW3 hown3 hb3 HB HW c3
      go_loop [13] (fun jv => ∃ j : Nat, j ≤ xs.length + 1 ∧ jv = .int .i64 j ∧ Hid (z = two n (xs.drop j))) (fun jv => xs.length + 1 - (intOf jv).toNat)
      case atStart => exact ⟨0, by omega, rfl, H2⟩
      case round =>
        obtain ⟨j, hj, rfl, HZ⟩ := hrel
        have r2 : IntKind.i64.wrap ((j : Int) + 1) = (j : Int) + 1 := by rw [IntKind.wrap_i64]; omega
        have r3 : IntKind.i64.wrap ((j : Int) + 2) = (j : Int) + 2 := by rw [IntKind.wrap_i64]; omega
        by_cases hlt : j + 1 < xs.length
        · obtain ⟨ad, rfl, hab, hcells⟩ := HI.out (by rw [Thing.znum_length]; omega)
          obtain ⟨x, hx⟩ : ∃ x, xs[j]? = some x := ⟨_, List.getElem?_eq_getElem (by omega)⟩
          obtain ⟨y, hy⟩ : ∃ y, xs[j + 1]? = some y := ⟨_, List.getElem?_eq_getElem hlt⟩
          have L1 : w3.cell? (ad.add j) = some (.int .i64 (x : Nat)) := hcells j _ (Thing.znum_at hx)
          have L2 : w3.cell? { block := ad.block, off := ad.off + (j + 1) } = some (.int .i64 (y : Nat)) := hcells (j + 1) _ (Thing.znum_at hy)
          have b1 : (j : Int) + 1 < (xs.length : Int) := by omega
          have b2 : (j : Int) < (xs.length : Int) := by omega
          have b3 : j < xs.length := by omega
          have b4 : (0 : Int) ≤ (j : Int) + 1 := by omega
          have b5 : ((j : Int) + 1).toNat = j + 1 := by omega
          have hxv := HY.out x (List.mem_of_getElem? hx)
          have hyv := HY.out y (List.mem_of_getElem? hy)
          have HD := Thing.two_drop (p := (n : Int)) hx hy
          clear hcells hx hy
          by_cases hny : n ≤ y
          · have H : Hid (z = some (x, y)) := by show _ = _; rw [HZ.out, HD, if_pos (by omega)]
            have g2 : decide (n ≤ y) = true := decide_eq_true hny
            have c4 := Lib.hid (fun w => ref19_marked x y all (by omega) (by omega) w)
            have HH : Hid (Thing.plain ((some (x, y)).map (btw · all)) = .tuple #[.agg #[.int .i64 (btw (x, y) all).1, .int .i64 (btw (x, y) all).2, .bool false], .bool true]) := rfl
            generalize btw (x, y) all = bt at *
            obtain ⟨bt1, bt2⟩ := bt
            dsimp only at c4
            clear HZ HD r3
            have hBz := HB3.out
            have hWz := HW3.out
            go_wp2_with fail
            go_region_with (go_at_call 21; (with_reducible refine (c4.out _).mono ?_); rintro e w4 ⟨rfl, hb4⟩; have hB4 := hBz.drew.below hb4 hBz.drew.lt; have hW4 := hWz.drew.trans (hb4.mono hWz.drew.size); obtain ⟨q0, q1, q2, f0, f1, f2⟩ := row_three hB4; clear hb4)
            all_goals
              go_wp2_with fail
              exact ret_three1 rfl rfl (three_row hB4) rfl Try.underlying24 rfl ⟨by rw [H.out, HH.out]; rfl, below_three hW4 (Nat.le_refl _)⟩
          · have H : Hid (z = two n (xs.drop (j + 2))) := by show _ = _; rw [HZ.out, HD, if_neg (by omega)]
            have g2 : decide (n ≤ y) = false := decide_eq_false hny
            clear HZ HD
            go_wp2_with fail
            go_round
            case rel => exact ⟨j + 2, by omega, by go_num, H⟩
            case measure => simp [intOf]; omega
        · have H : Hid (z = none) := by show _ = _; rw [HZ.out, Thing.two_few (by omega)]
          have b1 : ¬ (j : Int) + 1 < (xs.length : Int) := by omega
          have b2 : decide ((j : Int) + 1 < (xs.length : Int)) = false := decide_eq_false b1
          have hBz := HB3.out
          obtain ⟨q0, q1, q2, f0, f1, f2⟩ := row_three hBz
          clear HZ
          go_wp2_with fail
          exact ret_three1 rfl rfl (three_row hBz) rfl Try.underlying24 rfl ⟨by rw [H.out]; rfl, below_three HW3.out (Nat.le_refl _)⟩
end Go.Proofs.Ytohdijhpoddbbaa
/-
  All pairs of a kind: the document's, by counting; and whether two lists are the same.
-/
namespace Go.Proofs.Ytohdijhpoddbbaa
open Go.RowKit
open Pair
theorem Pair.prs_step {s : List UInt8} {p : Nat} {b : UInt8} (h : s[p]? = some b) (o c : UInt8) : prs o c (s.drop p) p = if b = o then (match oth o c (s.drop (p + 1)) 1 (p + 1) with | some q => (p, q) :: prs o c (s.drop (p + 1)) (p + 1) | none => prs o c (s.drop (p + 1)) (p + 1)) else prs o c (s.drop (p + 1)) (p + 1) := by
  obtain ⟨hp, he⟩ := List.getElem?_eq_some_iff.1 h
  rw [List.drop_eq_getElem_cons hp, he, prs]
  rfl
set_option maxHeartbeats 2000000 in
set_option maxRecDepth 100000 in
theorem ref17_All (s k : ByteArray) (hs : s.size ≤ 500000) (w : World) :
    Calls Try.prog 38 #[.string s, .string k] w fun e w' => Own2 w (Pair.all s.data.toList k.data.toList) e w' := by
  have hl := data_len s
  have c1 := Lib.hid (fun w => ref17_closer k w)
  have c2 := Lib.hid (fun w => ref_Valid s (by omega) w)
  cases hk : clo k.data.toList with
  | none =>
    have H := Lib.hid (all_no (s := s.data.toList) (k := k.data.toList) (.inl hk))
    have e0 : cloB k.data.toList = 0 := by rw [cloB, hk]; rfl
    rw [e0] at c1
    clear hk e0
    go_enter Try.func38, Try.ntmps38
    go_wp2_with (go_at_call 57; refine (c1.out _).mono ?_; rintro e w1 ⟨rfl, rfl⟩)
    go_ret
    rw [H.out]
    exact own2_nil (Below.refl _ _)
  | some c =>
    obtain ⟨o, hko, hoc, ho, hc⟩ := clo_facts hk
    have e0 : cloB k.data.toList = c := by rw [cloB, hk]; rfl
    rw [e0] at c1
    have hc0 : ((c.toNat : Int) == 0) = false := by
      obtain ⟨_, _, h⟩ := clo_some hk
      rcases h with ⟨_, rfl⟩ | ⟨_, rfl⟩ | ⟨_, rfl⟩ | ⟨_, rfl⟩ <;> rfl
    cases hv : Utf.valid s.data.toList with
    | false =>
      rw [hv] at c2
      have H := Lib.hid (all_no (s := s.data.toList) (k := k.data.toList) (.inr hv))
      clear hk hko hv e0
      go_enter Try.func38, Try.ntmps38
      go_wp2_with (first
        | (go_at_call 57; refine (c1.out _).mono ?_; rintro e w1 ⟨rfl, rfl⟩)
        | (go_at_call 56; refine (c2.out _).mono ?_; rintro e w1 ⟨rfl, hb1⟩))
      go_ret
      rw [H.out]
      exact own2_nil hb1
    | true =>
      rw [hv] at c2
      have hkl := data_len k
      rw [hko] at hkl
      have hk0 : 0 < k.size := by simp at hkl; omega
      have hkb : k[0] = o := by
        have := byte_get k hk0
        rw [hko] at this
        simpa using this.symm
      have HA : Hid (Pair.all s.data.toList k.data.toList = [] ++ prs o c (s.data.toList.drop 0) 0) := by
        show _ = _
        rw [Pair.all, hk]
        simp only []
        rw [if_pos hv, hko]; rfl
      generalize Pair.all s.data.toList k.data.toList = R at *
      have C3 := Lib.hid (fun p (h : s.data.toList[p]? = some o) w => ref17_other s p o c hoc h (by omega) w)
      obtain ⟨i0, hi, hz0, hz1, hz2⟩ := info_parts info_pair
      clear hk hko hv e0 hkl hoc ho hc
      subst hkb
      go_enter Try.func38, Try.ntmps38
      go_wp2_with (first
        | (go_at_call 57; refine (c1.out _).mono ?_; rintro e w1 ⟨rfl, rfl⟩)
        | (go_at_call 56; refine (c2.out _).mono ?_; rintro e w1 ⟨rfl, hb1⟩))
      go_loopw [6, 7] (fun v pv wr => ∃ (A : Option Addr) (n cp : Nat) (done : List (Nat × Nat)) (p : Nat), v = .slice A n cp ∧ pv = .int .i64 p ∧ n = done.length ∧ p ≤ s.size ∧ done.length ≤ p ∧ wr.ownsRow w.heap.size 59 2 v n (flat2 done) ∧ Below w.heap.size w wr ∧ Hid (R = done ++ prs (k[0]'hk0) c (s.data.toList.drop p) p)) (fun _ pv _ => s.size - (intOf pv).toNat)
      case atStart => exact ⟨none, 0, 0, [], 0, rfl, rfl, rfl, Nat.zero_le _, Nat.le_refl _, World.ownsRow_nil _ _ _ _, hb1, HA.out⟩
      case round =>
        obtain ⟨A, n, cp, done, p, rfl, rfl, rfl, hp, hdp, hr, hbw, HR⟩ := hrel
        clear HA hb1
        by_cases hlt : p < s.size
        · have hg := byte_get s hlt
          have HR2 := HR.out
          rw [prs_step hg] at HR2
          by_cases hb : s[p] = k[0]
          · have C := Lib.hid (C3.out p (by rw [hg, hb]))
            rw [if_pos hb] at HR2
            have g1 : ((s[p].toNat : Int) == (k[0].toNat : Int)) = true := by rw [hb]; simp
            have HB := Lib.hid hbw
            have HO := Lib.hid hr
            cases ho : oth (k[0]'hk0) c (s.data.toList.drop (p + 1)) 1 (p + 1) with
            | none =>
              rw [ho] at C HR2
              have HR3 : Hid (R = done ++ prs (k[0]'hk0) c (s.data.toList.drop (p + 1)) (p + 1)) := HR2
              dsimp only [num] at C
              clear ho HR2 HR hg hbw hr hb C3
              go_wp2_with fail
              go_quiet ((first | (go_at_call 58; exact (C.out _).mono fun e w1 h => ⟨h.1, _, h.2.symm⟩)))
              go_wp2
              go_roundw
              case rel => exact ⟨A, _, cp, done, p + 1, rfl, by go_num, rfl, by omega, by omega, HO.out, below_drewN HB.out _, HR3⟩
              case measure => simp [intOf]; omega
            | some q =>
              rw [ho] at C HR2
              dsimp only [num] at C
              have HR3 : Hid (R = (done ++ [(p, q)]) ++ prs (k[0]'hk0) c (s.data.toList.drop (p + 1)) (p + 1)) := by
                show _ = _
                rw [HR2, List.append_assoc]
                rfl
              have hsn := Lib.hid (flat2_snoc done (p, q))
              clear ho HR2 HR hg hbw hr hb C3
              go_wp2_with fail
              go_quiet ((first | (go_at_call 58; exact (C.out _).mono fun e w1 h => ⟨h.1, _, h.2.symm⟩)))
              have hr2 : (wr.drewN nq).ownsRow w.heap.size 59 2 (.slice A done.length cp) done.length (flat2 done) := HO.out
              have hb2 := below_drewN HB.out nq
              have hs2 := hb2.size
              generalize wr.drewN nq = wd at *
              go_wp2_with (first
                | (go_at_call 58; refine (C.out _).mono ?_; rintro e w1 ⟨rfl, rfl⟩)
                | (at_builtin; refine wpList_append_own _ rfl _ _ 57 rfl w.heap.size 59 i0 (.agg #[.int .i64 0, .int .i64 0]) 2 16 Try.underlying57 hi hz0 hz1 hz2 rfl (by decide) _ _ _ rfl (hr2.alloc _) ⟨wd.heap.size, 0, none⟩ 1 1 [.int .i64 (p : Nat), .int .i64 (q : Nat)] rfl rfl ?e1 ?e2 ?e3 ?e4 ?e5 ?_))
              case e1 => exact pair_cells _ _ _ _
              case e2 => simp [Value.oneCell']
              case e3 => unfold maxLen; omega
              case e4 => omega
              case e5 => rw [World.size_alloc]; omega
              intro v' w4 hown' hgrow _
              have hR4 : Below w.heap.size w w4 := (hb2.alloc hs2 _).grown hgrow (by rw [World.size_alloc]; omega) (fun g hg => (hr2.lt g hg).1)
              have hown4 : w4.ownsRow w.heap.size 59 2 v' (done ++ [(p, q)]).length (flat2 (done ++ [(p, q)])) := by
                rw [hsn.out, List.length_append]; exact hown'
              obtain ⟨a', c', hv'⟩ := own_long hown4
              clear hown' hgrow hr2 hb2 hs2 hsn
              subst hv'
              go_wp2
              go_roundw
              case rel => exact ⟨a', _, c', done ++ [(p, q)], p + 1, rfl, by go_num, rfl, by omega, by simp; omega, hown4, hR4, HR3⟩
              case measure => simp [intOf]; omega
          · have g1 : ((s[p].toNat : Int) == (k[0].toNat : Int)) = false := beq_eq_false_iff_ne.2 (fun e => hb (UInt8.toNat_inj.1 (by omega)))
            rw [if_neg hb] at HR2
            have HR3 := Lib.hid HR2
            have HB := Lib.hid hbw
            have HO := Lib.hid hr
            clear HR2 HR hg hbw hr hb C3
            go_wp2_with fail
            go_quiet (fail)
            go_wp2
            go_roundw
            case rel => exact ⟨A, _, cp, done, p + 1, rfl, by go_num, rfl, by omega, by omega, HO.out, below_drewN HB.out _, HR3⟩
            case measure => simp [intOf]; omega
        · obtain rfl : p = s.size := by omega
          have H : Hid (R = done) := by show _ = _; rw [HR.out, List.drop_eq_nil_of_le (by rw [hl]; exact Nat.le_refl _), prs, List.append_nil]
          clear HR C3
          go_wp2
          go_ret
          rw [H.out]
          exact ⟨⟨_, rfl, hr⟩, hbw⟩
end Go.Proofs.Ytohdijhpoddbbaa
/-
  The pair around a place: the document's.
-/
namespace Go.Proofs.Ytohdijhpoddbbaa
open Go.RowKit
open Pair
theorem Pair.arnd_next {L : List (Nat × Nat)} {i : Nat} {x : Nat × Nat} (h : L[i]? = some x) (p : Int) : (Abt x p → arnd (L.take (i + 1)) p = some x) ∧ (¬ Abt x p → arnd (L.take (i + 1)) p = arnd (L.take i) p) := by
  have e : L.take (i + 1) = L.take i ++ [x] := by rw [List.take_add_one, h]; rfl
  rw [e, arnd_append]
  constructor
  · intro hx
    have : arnd [x] p = some x := by rw [arnd, arnd]; exact if_pos hx
    rw [this]
  · intro hx
    have : arnd [x] p = none := by rw [arnd, arnd]; exact if_neg hx
    rw [this]
set_option maxHeartbeats 2000000 in
set_option maxRecDepth 100000 in
theorem ref17_Around (s : ByteArray) (p : Int) (k : ByteArray) (hs : s.size ≤ 500000) (w : World) :
    Calls Try.prog 20 #[.string s, .int .i64 p, .string k] w fun e w' => e = .returned (resA (ar s.data.toList k.data.toList p)) ∧ Below w.heap.size w w' := by
  have hl := data_len s
  have c1 := Lib.hid (fun w => ref_Place s p (by omega) w)
  have c2 := Lib.hid (fun w => ref17_All s k hs w)
  have hlen := all_length s.data.toList k.data.toList
  rw [hl] at hlen
  cases hp : Utf.place s.data.toList p with
  | false =>
    rw [hp] at c1
    have H : Hid (ar s.data.toList k.data.toList p = none) := by show _ = _; rw [ar, if_neg (by simp [hp])]
    clear hp
    generalize Pair.all s.data.toList k.data.toList = L at *
    go_enter Try.func20, Try.ntmps20
    go_wp2_with (go_at_call 38; refine (c2.out _).mono ?_; rintro e w5 ⟨⟨v, rfl, hr⟩, hb5⟩; obtain ⟨A, cp, rfl⟩ := own_long hr)
    clear hr
    go_loopw [9, 10, 11, 13] (fun av bv ov iv wr => av = .int .i64 0 ∧ bv = .int .i64 0 ∧ ov = .bool false ∧ iv = .int .i64 0 ∧ Below w.heap.size w wr) (fun _ _ _ _ _ => 0)
    case atStart => exact ⟨rfl, rfl, rfl, rfl, hb5⟩
    case round =>
      obtain ⟨rfl, rfl, rfl, rfl, hb⟩ := hrel
      cases L with
      | nil =>
        have g0 : decide ((0 : Int) < (([] : List (Nat × Nat)).length : Int)) = false := by decide
        go_wp2
        go_ret3
        exact ⟨by rw [H.out]; rfl, hb⟩
      | cons x L =>
        have g0 : (0 : Int) < ((x :: L).length : Int) := by rw [List.length_cons]; omega
        generalize (x :: L).length = m at *
        go_wp2_with (go_at_call 14; refine (c1.out _).mono ?_; rintro e w6 ⟨rfl, hb6⟩)
        go_ret3
        exact ⟨by rw [H.out]; rfl, hb.trans (hb6.mono hb.size)⟩
  | true =>
    rw [hp] at c1
    have HA : Hid (ar s.data.toList k.data.toList p = arnd (Pair.all s.data.toList k.data.toList) p) := if_pos hp
    clear hp
    generalize Pair.all s.data.toList k.data.toList = L at *
    go_enter Try.func20, Try.ntmps20
    go_wp2_with (go_at_call 38; refine (c2.out _).mono ?_; rintro e w5 ⟨⟨v, rfl, hr⟩, hb5⟩; obtain ⟨A, cp, rfl⟩ := own_long hr)
    have HP := Lib.hid (Pairs.of_own hr rfl)
    have HB5 := Lib.hid hb5
    clear hr hb5
    go_loopw [9, 10, 11, 13] (fun av bv ov iv wr => ∃ (a b : Int) (o : Bool) (i : Nat), av = .int .i64 a ∧ bv = .int .i64 b ∧ ov = .bool o ∧ iv = .int .i64 i ∧ i ≤ L.length ∧ Below w5.heap.size w5 wr ∧ Hid (resA (arnd (L.take i) p) = .tuple #[.int .i64 a, .int .i64 b, .bool o])) (fun _ _ _ iv _ => L.length - (intOf iv).toNat)
    case atStart => exact ⟨0, 0, false, 0, rfl, rfl, rfl, rfl, Nat.zero_le _, Below.refl _ _, by show _ = _; rw [List.take_zero]; rfl⟩
    case round =>
      obtain ⟨a, b, o, i, rfl, rfl, rfl, rfl, hi, hb, HR⟩ := hrel
      by_cases hlt : i < L.length
      · obtain ⟨⟨x, y⟩, hx⟩ : ∃ x, L[i]? = some x := ⟨_, List.getElem?_eq_getElem hlt⟩
        obtain ⟨n1, n2⟩ := arnd_next hx p
        have HX := Lib.hid hx
        have HPB : Hid (∀ u, Below wr.heap.size wr u → Pairs u A L ∧ Below w5.heap.size w5 u) := fun u h => ⟨(HP.out.below hb).below h, hb.trans (h.mono hb.size)⟩
        obtain ⟨g, hgA, _, _⟩ := (HP.out.below hb).at_ hx
        subst hgA
        have CE : Hid (∀ u, Below wr.heap.size wr u → u.cell? ⟨g, i * 2, none⟩ = some (.int .i64 (x : Nat)) ∧ u.cell? ⟨g, i * 2 + 1, none⟩ = some (.int .i64 (y : Nat))) := fun u h => by
          obtain ⟨g', e, q0, q1⟩ := ((HPB.out u h).1).at_ HX.out
          cases e
          exact ⟨q0, q1⟩
        clear hx hb HP
        by_cases h1 : (x : Int) ≤ p
        · by_cases h2 : p ≤ (y : Int)
          · have N := Lib.hid (n1 ⟨h1, h2⟩)
            clear n1 n2
            go_wp2_with (go_at_call 14; refine (c1.out _).mono ?_; rintro e w6 ⟨rfl, hb6⟩; obtain ⟨q0, q1⟩ := CE.out _ hb6; have B6 := Lib.hid (HPB.out _ hb6).2; clear hb6)
            go_quiet (fail)
            go_wp2
            go_roundw
            case rel => exact ⟨x, y, true, i + 1, rfl, rfl, rfl, by go_num, hlt, below_drewN B6.out _, by show _ = _; rw [N.out]; rfl⟩
            case measure => simp [intOf]; omega
          · have N := Lib.hid (n2 (fun k => h2 k.2))
            clear n1 n2
            go_wp2_with (go_at_call 14; refine (c1.out _).mono ?_; rintro e w6 ⟨rfl, hb6⟩; obtain ⟨q0, q1⟩ := CE.out _ hb6; have B6 := Lib.hid (HPB.out _ hb6).2; clear hb6)
            go_roundw
            case rel => exact ⟨a, b, o, i + 1, rfl, rfl, rfl, by go_num, hlt, B6.out, by show _ = _; rw [N.out]; exact HR.out⟩
            case measure => simp [intOf]; omega
        · have N := Lib.hid (n2 (fun k => h1 k.1))
          clear n1 n2
          go_wp2_with (go_at_call 14; refine (c1.out _).mono ?_; rintro e w6 ⟨rfl, hb6⟩; obtain ⟨q0, q1⟩ := CE.out _ hb6; have B6 := Lib.hid (HPB.out _ hb6).2; clear hb6)
          go_roundw
          case rel => exact ⟨a, b, o, i + 1, rfl, rfl, rfl, by go_num, hlt, B6.out, by show _ = _; rw [N.out]; exact HR.out⟩
          case measure => simp [intOf]; omega
      · obtain rfl : i = L.length := by omega
        have H : Hid (resA (ar s.data.toList k.data.toList p) = .tuple #[.int .i64 a, .int .i64 b, .bool o]) := by
          show _ = _
          rw [HA.out, ← HR.out, List.take_of_length_le (Nat.le_refl _)]
        clear HP HR
        go_wp2
        go_ret3
        exact ⟨by rw [H.out]; rfl, HB5.out.trans (hb.mono HB5.out.size)⟩
end Go.Proofs.Ytohdijhpoddbbaa
/-
  The document's Of: a thing of any kind, a theorem a kind.
-/
namespace Go.Proofs.Ytohdijhpoddbbaa
open Go.RowKit
open Thing (res thg num cls btw quo wrd blk lns)
set_option maxHeartbeats 1000000 in
set_option maxRecDepth 100000 in
theorem ref19_Of_none (s : ByteArray) (p : Int) (all : Bool) (key : ByteArray) (hm : num key.data.toList = none) (w : World) :
    Calls Try.prog 8 #[.string s, .int .i64 p, .bool all, .string key] w fun e w' => e = .returned (res (thg s.data.toList p all key.data.toList)) ∧ Below w.heap.size w w' := by
  have hB := Blk.new w 24 #[.int .i64 0, .int .i64 0, .bool false]
  have hW := (Below.refl w.heap.size w).alloc (Nat.le_refl _) (.cells #[.int .i64 0, .int .i64 0, .bool false] 24)
  obtain ⟨q0, q1, q2, f0, f1, f2⟩ := row_three hB
  have C1 := Lib.hid (fun w => ref19_Has key w)
  have H : Hid (thg s.data.toList p all key.data.toList = none) := Thing.thg_none hm
  rw [hm, show (none : Option Nat).isSome = false from rfl] at C1
  clear hm
  go_enter Try.func8, Try.ntmps8
  go_wp2_with (go_at_call 10; (with_reducible refine (C1.out _).mono ?_); rintro e wn ⟨rfl, hbn⟩; replace hW := hW.trans (hbn.mono hW.size); replace hB := hB.below hbn hB.lt; clear q0 q1 q2 f0 f1 f2 hbn; obtain ⟨q0, q1, q2, f0, f1, f2⟩ := row_three hB)
  exact ret_three1 rfl rfl (three_row hB) rfl Try.underlying24 rfl ⟨by rw [H.out]; rfl, below_three hW (Nat.le_refl _)⟩
set_option maxHeartbeats 1000000 in
set_option maxRecDepth 100000 in
theorem ref19_Of_bad (s : ByteArray) (p : Int) (all : Bool) (key : ByteArray) (hs : s.size ≤ 500000) {j : Nat} (hm : num key.data.toList = some j) (hp : Utf.place s.data.toList p = false) (w : World) :
    Calls Try.prog 8 #[.string s, .int .i64 p, .bool all, .string key] w fun e w' => e = .returned (res (thg s.data.toList p all key.data.toList)) ∧ Below w.heap.size w w' := by
  have hB := Blk.new w 24 #[.int .i64 0, .int .i64 0, .bool false]
  have hW := (Below.refl w.heap.size w).alloc (Nat.le_refl _) (.cells #[.int .i64 0, .int .i64 0, .bool false] 24)
  obtain ⟨q0, q1, q2, f0, f1, f2⟩ := row_three hB
  have C1 := Lib.hid (fun w => ref19_Has key w)
  have CP := Lib.hid (fun w => ref_Place s p (by omega) w)
  have H : Hid (thg s.data.toList p all key.data.toList = none) := Thing.thg_bad hp
  rw [hm, show (some j).isSome = true from rfl] at C1
  rw [hp] at CP
  clear hm hp
  go_enter Try.func8, Try.ntmps8
  go_wp2_with (first
    | (go_at_call 10; (with_reducible refine (C1.out _).mono ?_); rintro e wn ⟨rfl, hbn⟩; replace hW := hW.trans (hbn.mono hW.size); replace hB := hB.below hbn hB.lt; clear q0 q1 q2 f0 f1 f2 hbn; obtain ⟨q0, q1, q2, f0, f1, f2⟩ := row_three hB)
    | (go_at_call 14; (with_reducible refine (CP.out _).mono ?_); rintro e wn ⟨rfl, hbn⟩; replace hW := hW.trans (hbn.mono hW.size); replace hB := hB.below hbn hB.lt; clear q0 q1 q2 f0 f1 f2 hbn; obtain ⟨q0, q1, q2, f0, f1, f2⟩ := row_three hB))
  exact ret_three1 rfl rfl (three_row hB) rfl Try.underlying24 rfl ⟨by rw [H.out]; rfl, below_three hW (Nat.le_refl _)⟩
set_option maxHeartbeats 1000000 in
set_option maxRecDepth 100000 in
theorem ref19_Of_k0 (s : ByteArray) (p : Int) (all : Bool) (hs : s.size ≤ 500000) (hp : Utf.place s.data.toList p = true) (w : World) :
    Calls Try.prog 8 #[.string s, .int .i64 p, .bool all, .string ⟨#[119]⟩] w fun e w' => e = .returned (res (thg s.data.toList p all [119])) ∧ Below w.heap.size w w' := by
  have hB := Blk.new w 24 #[.int .i64 0, .int .i64 0, .bool false]
  have hW := (Below.refl w.heap.size w).alloc (Nat.le_refl _) (.cells #[.int .i64 0, .int .i64 0, .bool false] 24)
  obtain ⟨q0, q1, q2, f0, f1, f2⟩ := row_three hB
  have C1 : Hid (∀ w, Calls Try.prog 10 #[.string ⟨#[119]⟩] w fun e w' => e = .returned (.bool true) ∧ Below w.heap.size w w') := Lib.hid (fun w => ref19_Has ⟨#[119]⟩ w)
  have CP := Lib.hid (fun w => ref_Place s p (by omega) w)
  rw [hp] at CP
  have H : Hid (res (thg s.data.toList p all [119]) = Thing.plain (wrd s.data.toList p false all)) := by
    show _ = _
    rw [Thing.thg_at (j := 0) rfl hp]; rfl
  have CF := Lib.hid (fun w => ref19_word s p all false (by omega) w)
  obtain ⟨a, c, d, hd⟩ := Thing.plain_form (wrd s.data.toList p false all)
  rw [hd] at CF H
  clear hp hd hs
  go_enter Try.func8, Try.ntmps8
  go_wp2_with (first
    | (go_at_call 10; (with_reducible refine (C1.out _).mono ?_); rintro e wn ⟨rfl, hbn⟩; replace hW := hW.trans (hbn.mono hW.size); replace hB := hB.below hbn hB.lt; clear q0 q1 q2 f0 f1 f2 hbn; obtain ⟨q0, q1, q2, f0, f1, f2⟩ := row_three hB)
    | (go_at_call 14; (with_reducible refine (CP.out _).mono ?_); rintro e wn ⟨rfl, hbn⟩; replace hW := hW.trans (hbn.mono hW.size); replace hB := hB.below hbn hB.lt; clear q0 q1 q2 f0 f1 f2 hbn; obtain ⟨q0, q1, q2, f0, f1, f2⟩ := row_three hB)
    | (go_at_call 15; (with_reducible refine (CF.out _).mono ?_); rintro e wn ⟨rfl, hbn⟩; replace hW := hW.trans (hbn.mono hW.size); replace hB := hB.below hbn hB.lt; clear q0 q1 q2 f0 f1 f2 hbn; obtain ⟨q0, q1, q2, f0, f1, f2⟩ := row_three hB))
  exact ret_three1 rfl rfl (three_row hB) rfl Try.underlying24 rfl ⟨by rw [H.out]; rfl, below_three hW (Nat.le_refl _)⟩
set_option maxHeartbeats 1000000 in
set_option maxRecDepth 100000 in
theorem ref19_Of_k1 (s : ByteArray) (p : Int) (all : Bool) (hs : s.size ≤ 500000) (hp : Utf.place s.data.toList p = true) (w : World) :
    Calls Try.prog 8 #[.string s, .int .i64 p, .bool all, .string ⟨#[87]⟩] w fun e w' => e = .returned (res (thg s.data.toList p all [87])) ∧ Below w.heap.size w w' := by
  have hB := Blk.new w 24 #[.int .i64 0, .int .i64 0, .bool false]
  have hW := (Below.refl w.heap.size w).alloc (Nat.le_refl _) (.cells #[.int .i64 0, .int .i64 0, .bool false] 24)
  obtain ⟨q0, q1, q2, f0, f1, f2⟩ := row_three hB
  have C1 : Hid (∀ w, Calls Try.prog 10 #[.string ⟨#[87]⟩] w fun e w' => e = .returned (.bool true) ∧ Below w.heap.size w w') := Lib.hid (fun w => ref19_Has ⟨#[87]⟩ w)
  have CP := Lib.hid (fun w => ref_Place s p (by omega) w)
  rw [hp] at CP
  have H : Hid (res (thg s.data.toList p all [87]) = Thing.plain (wrd s.data.toList p true all)) := by
    show _ = _
    rw [Thing.thg_at (j := 1) rfl hp]; rfl
  have CF := Lib.hid (fun w => ref19_word s p all true (by omega) w)
  obtain ⟨a, c, d, hd⟩ := Thing.plain_form (wrd s.data.toList p true all)
  rw [hd] at CF H
  clear hp hd hs
  go_enter Try.func8, Try.ntmps8
  go_wp2_with (first
    | (go_at_call 10; (with_reducible refine (C1.out _).mono ?_); rintro e wn ⟨rfl, hbn⟩; replace hW := hW.trans (hbn.mono hW.size); replace hB := hB.below hbn hB.lt; clear q0 q1 q2 f0 f1 f2 hbn; obtain ⟨q0, q1, q2, f0, f1, f2⟩ := row_three hB)
    | (go_at_call 14; (with_reducible refine (CP.out _).mono ?_); rintro e wn ⟨rfl, hbn⟩; replace hW := hW.trans (hbn.mono hW.size); replace hB := hB.below hbn hB.lt; clear q0 q1 q2 f0 f1 f2 hbn; obtain ⟨q0, q1, q2, f0, f1, f2⟩ := row_three hB)
    | (go_at_call 15; (with_reducible refine (CF.out _).mono ?_); rintro e wn ⟨rfl, hbn⟩; replace hW := hW.trans (hbn.mono hW.size); replace hB := hB.below hbn hB.lt; clear q0 q1 q2 f0 f1 f2 hbn; obtain ⟨q0, q1, q2, f0, f1, f2⟩ := row_three hB))
  exact ret_three1 rfl rfl (three_row hB) rfl Try.underlying24 rfl ⟨by rw [H.out]; rfl, below_three hW (Nat.le_refl _)⟩
set_option maxHeartbeats 1000000 in
set_option maxRecDepth 100000 in
theorem ref19_Of_k2 (s : ByteArray) (p : Int) (all : Bool) (hs : s.size ≤ 500000) (hp : Utf.place s.data.toList p = true) (w : World) :
    Calls Try.prog 8 #[.string s, .int .i64 p, .bool all, .string ⟨#[40]⟩] w fun e w' => e = .returned (res (thg s.data.toList p all [40])) ∧ Below w.heap.size w w' := by
  have hB := Blk.new w 24 #[.int .i64 0, .int .i64 0, .bool false]
  have hW := (Below.refl w.heap.size w).alloc (Nat.le_refl _) (.cells #[.int .i64 0, .int .i64 0, .bool false] 24)
  obtain ⟨q0, q1, q2, f0, f1, f2⟩ := row_three hB
  have C1 : Hid (∀ w, Calls Try.prog 10 #[.string ⟨#[40]⟩] w fun e w' => e = .returned (.bool true) ∧ Below w.heap.size w w') := Lib.hid (fun w => ref19_Has ⟨#[40]⟩ w)
  have CP := Lib.hid (fun w => ref_Place s p (by omega) w)
  rw [hp] at CP
  have hl := data_len s
  have H : Hid (res (thg s.data.toList p all [40]) = Thing.plain ((Pair.ar s.data.toList [40] p).map (btw · all))) := by
    show _ = _
    rw [Thing.thg_at (j := 2) rfl hp]; rfl
  have c1 : Hid (∀ w, Calls Try.prog 20 #[.string s, .int .i64 p, .string ⟨#[40]⟩] w fun e w' => e = .returned (Pair.resA (Pair.ar s.data.toList [40] p)) ∧ Below w.heap.size w w') := Lib.hid (fun w => ref17_Around s p ⟨#[40]⟩ hs w)
  generalize thg s.data.toList p all [40] = Z at *
  cases ha : Pair.ar s.data.toList [40] p with
  | none =>
    rw [ha] at H
    rw [ha, show Pair.resA none = .tuple #[.int .i64 0, .int .i64 0, .bool false] from rfl] at c1
    clear hp hs ha hl
    go_enter Try.func8, Try.ntmps8
    go_wp2_with (first
      | (go_at_call 10; (with_reducible refine (C1.out _).mono ?_); rintro e wn ⟨rfl, hbn⟩; replace hW := hW.trans (hbn.mono hW.size); replace hB := hB.below hbn hB.lt; clear q0 q1 q2 f0 f1 f2 hbn; obtain ⟨q0, q1, q2, f0, f1, f2⟩ := row_three hB)
      | (go_at_call 14; (with_reducible refine (CP.out _).mono ?_); rintro e wn ⟨rfl, hbn⟩; replace hW := hW.trans (hbn.mono hW.size); replace hB := hB.below hbn hB.lt; clear q0 q1 q2 f0 f1 f2 hbn; obtain ⟨q0, q1, q2, f0, f1, f2⟩ := row_three hB)
      | (go_at_call 20; (with_reducible refine (c1.out _).mono ?_); rintro e wn ⟨rfl, hbn⟩; replace hW := hW.trans (hbn.mono hW.size); replace hB := hB.below hbn hB.lt; clear q0 q1 q2 f0 f1 f2 hbn; obtain ⟨q0, q1, q2, f0, f1, f2⟩ := row_three hB))
    exact ret_three1 rfl rfl (three_row hB) rfl Try.underlying24 rfl ⟨by rw [H.out]; rfl, below_three hW (Nat.le_refl _)⟩
  | some x =>
    have hx := Thing.ar_lt ha
    obtain ⟨x, y⟩ := x
    dsimp only at hx
    rw [ha, show Pair.resA (some (x, y)) = .tuple #[.int .i64 (x : Nat), .int .i64 (y : Nat), .bool true] from rfl] at c1
    have c2 := Lib.hid (fun w => ref19_marked x y all (by omega) (by omega) w)
    rw [ha, show Thing.plain ((some (x, y)).map (btw · all)) = .tuple #[.agg #[.int .i64 (btw (x, y) all).1, .int .i64 (btw (x, y) all).2, .bool false], .bool true] from rfl] at H
    generalize btw (x, y) all = bt at *
    obtain ⟨bt1, bt2⟩ := bt
    dsimp only at c2 H
    clear hp hs ha hl hx
    go_enter Try.func8, Try.ntmps8
    go_wp2_with (first
      | (go_at_call 10; (with_reducible refine (C1.out _).mono ?_); rintro e wn ⟨rfl, hbn⟩; replace hW := hW.trans (hbn.mono hW.size); replace hB := hB.below hbn hB.lt; clear q0 q1 q2 f0 f1 f2 hbn; obtain ⟨q0, q1, q2, f0, f1, f2⟩ := row_three hB)
      | (go_at_call 14; (with_reducible refine (CP.out _).mono ?_); rintro e wn ⟨rfl, hbn⟩; replace hW := hW.trans (hbn.mono hW.size); replace hB := hB.below hbn hB.lt; clear q0 q1 q2 f0 f1 f2 hbn; obtain ⟨q0, q1, q2, f0, f1, f2⟩ := row_three hB)
      | (go_at_call 20; (with_reducible refine (c1.out _).mono ?_); rintro e wn ⟨rfl, hbn⟩; replace hW := hW.trans (hbn.mono hW.size); replace hB := hB.below hbn hB.lt; clear q0 q1 q2 f0 f1 f2 hbn; obtain ⟨q0, q1, q2, f0, f1, f2⟩ := row_three hB)
      | (go_at_call 21; (with_reducible refine (c2.out _).mono ?_); rintro e wn ⟨rfl, hbn⟩; replace hW := hW.trans (hbn.mono hW.size); replace hB := hB.below hbn hB.lt; clear q0 q1 q2 f0 f1 f2 hbn; obtain ⟨q0, q1, q2, f0, f1, f2⟩ := row_three hB))
    exact ret_three1 rfl rfl (three_row hB) rfl Try.underlying24 rfl ⟨by rw [H.out]; rfl, below_three hW (Nat.le_refl _)⟩
set_option maxHeartbeats 1000000 in
set_option maxRecDepth 100000 in
theorem ref19_Of_k3 (s : ByteArray) (p : Int) (all : Bool) (hs : s.size ≤ 500000) (hp : Utf.place s.data.toList p = true) (w : World) :
    Calls Try.prog 8 #[.string s, .int .i64 p, .bool all, .string ⟨#[41]⟩] w fun e w' => e = .returned (res (thg s.data.toList p all [41])) ∧ Below w.heap.size w w' := by
  have hB := Blk.new w 24 #[.int .i64 0, .int .i64 0, .bool false]
  have hW := (Below.refl w.heap.size w).alloc (Nat.le_refl _) (.cells #[.int .i64 0, .int .i64 0, .bool false] 24)
  obtain ⟨q0, q1, q2, f0, f1, f2⟩ := row_three hB
  have C1 : Hid (∀ w, Calls Try.prog 10 #[.string ⟨#[41]⟩] w fun e w' => e = .returned (.bool true) ∧ Below w.heap.size w w') := Lib.hid (fun w => ref19_Has ⟨#[41]⟩ w)
  have CP := Lib.hid (fun w => ref_Place s p (by omega) w)
  rw [hp] at CP
  have hl := data_len s
  have H : Hid (res (thg s.data.toList p all [41]) = Thing.plain ((Pair.ar s.data.toList [40] p).map (btw · all))) := by
    show _ = _
    rw [Thing.thg_at (j := 3) rfl hp]; rfl
  have c1 : Hid (∀ w, Calls Try.prog 20 #[.string s, .int .i64 p, .string ⟨#[40]⟩] w fun e w' => e = .returned (Pair.resA (Pair.ar s.data.toList [40] p)) ∧ Below w.heap.size w w') := Lib.hid (fun w => ref17_Around s p ⟨#[40]⟩ hs w)
  generalize thg s.data.toList p all [41] = Z at *
  cases ha : Pair.ar s.data.toList [40] p with
  | none =>
    rw [ha] at H
    rw [ha, show Pair.resA none = .tuple #[.int .i64 0, .int .i64 0, .bool false] from rfl] at c1
    clear hp hs ha hl
    go_enter Try.func8, Try.ntmps8
    go_wp2_with (first
      | (go_at_call 10; (with_reducible refine (C1.out _).mono ?_); rintro e wn ⟨rfl, hbn⟩; replace hW := hW.trans (hbn.mono hW.size); replace hB := hB.below hbn hB.lt; clear q0 q1 q2 f0 f1 f2 hbn; obtain ⟨q0, q1, q2, f0, f1, f2⟩ := row_three hB)
      | (go_at_call 14; (with_reducible refine (CP.out _).mono ?_); rintro e wn ⟨rfl, hbn⟩; replace hW := hW.trans (hbn.mono hW.size); replace hB := hB.below hbn hB.lt; clear q0 q1 q2 f0 f1 f2 hbn; obtain ⟨q0, q1, q2, f0, f1, f2⟩ := row_three hB)
      | (go_at_call 20; (with_reducible refine (c1.out _).mono ?_); rintro e wn ⟨rfl, hbn⟩; replace hW := hW.trans (hbn.mono hW.size); replace hB := hB.below hbn hB.lt; clear q0 q1 q2 f0 f1 f2 hbn; obtain ⟨q0, q1, q2, f0, f1, f2⟩ := row_three hB))
    exact ret_three1 rfl rfl (three_row hB) rfl Try.underlying24 rfl ⟨by rw [H.out]; rfl, below_three hW (Nat.le_refl _)⟩
  | some x =>
    have hx := Thing.ar_lt ha
    obtain ⟨x, y⟩ := x
    dsimp only at hx
    rw [ha, show Pair.resA (some (x, y)) = .tuple #[.int .i64 (x : Nat), .int .i64 (y : Nat), .bool true] from rfl] at c1
    have c2 := Lib.hid (fun w => ref19_marked x y all (by omega) (by omega) w)
    rw [ha, show Thing.plain ((some (x, y)).map (btw · all)) = .tuple #[.agg #[.int .i64 (btw (x, y) all).1, .int .i64 (btw (x, y) all).2, .bool false], .bool true] from rfl] at H
    generalize btw (x, y) all = bt at *
    obtain ⟨bt1, bt2⟩ := bt
    dsimp only at c2 H
    clear hp hs ha hl hx
    go_enter Try.func8, Try.ntmps8
    go_wp2_with (first
      | (go_at_call 10; (with_reducible refine (C1.out _).mono ?_); rintro e wn ⟨rfl, hbn⟩; replace hW := hW.trans (hbn.mono hW.size); replace hB := hB.below hbn hB.lt; clear q0 q1 q2 f0 f1 f2 hbn; obtain ⟨q0, q1, q2, f0, f1, f2⟩ := row_three hB)
      | (go_at_call 14; (with_reducible refine (CP.out _).mono ?_); rintro e wn ⟨rfl, hbn⟩; replace hW := hW.trans (hbn.mono hW.size); replace hB := hB.below hbn hB.lt; clear q0 q1 q2 f0 f1 f2 hbn; obtain ⟨q0, q1, q2, f0, f1, f2⟩ := row_three hB)
      | (go_at_call 20; (with_reducible refine (c1.out _).mono ?_); rintro e wn ⟨rfl, hbn⟩; replace hW := hW.trans (hbn.mono hW.size); replace hB := hB.below hbn hB.lt; clear q0 q1 q2 f0 f1 f2 hbn; obtain ⟨q0, q1, q2, f0, f1, f2⟩ := row_three hB)
      | (go_at_call 21; (with_reducible refine (c2.out _).mono ?_); rintro e wn ⟨rfl, hbn⟩; replace hW := hW.trans (hbn.mono hW.size); replace hB := hB.below hbn hB.lt; clear q0 q1 q2 f0 f1 f2 hbn; obtain ⟨q0, q1, q2, f0, f1, f2⟩ := row_three hB))
    exact ret_three1 rfl rfl (three_row hB) rfl Try.underlying24 rfl ⟨by rw [H.out]; rfl, below_three hW (Nat.le_refl _)⟩
set_option maxHeartbeats 1000000 in
set_option maxRecDepth 100000 in
theorem ref19_Of_k4 (s : ByteArray) (p : Int) (all : Bool) (hs : s.size ≤ 500000) (hp : Utf.place s.data.toList p = true) (w : World) :
    Calls Try.prog 8 #[.string s, .int .i64 p, .bool all, .string ⟨#[98]⟩] w fun e w' => e = .returned (res (thg s.data.toList p all [98])) ∧ Below w.heap.size w w' := by
  have hB := Blk.new w 24 #[.int .i64 0, .int .i64 0, .bool false]
  have hW := (Below.refl w.heap.size w).alloc (Nat.le_refl _) (.cells #[.int .i64 0, .int .i64 0, .bool false] 24)
  obtain ⟨q0, q1, q2, f0, f1, f2⟩ := row_three hB
  have C1 : Hid (∀ w, Calls Try.prog 10 #[.string ⟨#[98]⟩] w fun e w' => e = .returned (.bool true) ∧ Below w.heap.size w w') := Lib.hid (fun w => ref19_Has ⟨#[98]⟩ w)
  have CP := Lib.hid (fun w => ref_Place s p (by omega) w)
  rw [hp] at CP
  have hl := data_len s
  have H : Hid (res (thg s.data.toList p all [98]) = Thing.plain ((Pair.ar s.data.toList [40] p).map (btw · all))) := by
    show _ = _
    rw [Thing.thg_at (j := 4) rfl hp]; rfl
  have c1 : Hid (∀ w, Calls Try.prog 20 #[.string s, .int .i64 p, .string ⟨#[40]⟩] w fun e w' => e = .returned (Pair.resA (Pair.ar s.data.toList [40] p)) ∧ Below w.heap.size w w') := Lib.hid (fun w => ref17_Around s p ⟨#[40]⟩ hs w)
  generalize thg s.data.toList p all [98] = Z at *
  cases ha : Pair.ar s.data.toList [40] p with
  | none =>
    rw [ha] at H
    rw [ha, show Pair.resA none = .tuple #[.int .i64 0, .int .i64 0, .bool false] from rfl] at c1
    clear hp hs ha hl
    go_enter Try.func8, Try.ntmps8
    go_wp2_with (first
      | (go_at_call 10; (with_reducible refine (C1.out _).mono ?_); rintro e wn ⟨rfl, hbn⟩; replace hW := hW.trans (hbn.mono hW.size); replace hB := hB.below hbn hB.lt; clear q0 q1 q2 f0 f1 f2 hbn; obtain ⟨q0, q1, q2, f0, f1, f2⟩ := row_three hB)
      | (go_at_call 14; (with_reducible refine (CP.out _).mono ?_); rintro e wn ⟨rfl, hbn⟩; replace hW := hW.trans (hbn.mono hW.size); replace hB := hB.below hbn hB.lt; clear q0 q1 q2 f0 f1 f2 hbn; obtain ⟨q0, q1, q2, f0, f1, f2⟩ := row_three hB)
      | (go_at_call 20; (with_reducible refine (c1.out _).mono ?_); rintro e wn ⟨rfl, hbn⟩; replace hW := hW.trans (hbn.mono hW.size); replace hB := hB.below hbn hB.lt; clear q0 q1 q2 f0 f1 f2 hbn; obtain ⟨q0, q1, q2, f0, f1, f2⟩ := row_three hB))
    exact ret_three1 rfl rfl (three_row hB) rfl Try.underlying24 rfl ⟨by rw [H.out]; rfl, below_three hW (Nat.le_refl _)⟩
  | some x =>
    have hx := Thing.ar_lt ha
    obtain ⟨x, y⟩ := x
    dsimp only at hx
    rw [ha, show Pair.resA (some (x, y)) = .tuple #[.int .i64 (x : Nat), .int .i64 (y : Nat), .bool true] from rfl] at c1
    have c2 := Lib.hid (fun w => ref19_marked x y all (by omega) (by omega) w)
    rw [ha, show Thing.plain ((some (x, y)).map (btw · all)) = .tuple #[.agg #[.int .i64 (btw (x, y) all).1, .int .i64 (btw (x, y) all).2, .bool false], .bool true] from rfl] at H
    generalize btw (x, y) all = bt at *
    obtain ⟨bt1, bt2⟩ := bt
    dsimp only at c2 H
    clear hp hs ha hl hx
    go_enter Try.func8, Try.ntmps8
    go_wp2_with (first
      | (go_at_call 10; (with_reducible refine (C1.out _).mono ?_); rintro e wn ⟨rfl, hbn⟩; replace hW := hW.trans (hbn.mono hW.size); replace hB := hB.below hbn hB.lt; clear q0 q1 q2 f0 f1 f2 hbn; obtain ⟨q0, q1, q2, f0, f1, f2⟩ := row_three hB)
      | (go_at_call 14; (with_reducible refine (CP.out _).mono ?_); rintro e wn ⟨rfl, hbn⟩; replace hW := hW.trans (hbn.mono hW.size); replace hB := hB.below hbn hB.lt; clear q0 q1 q2 f0 f1 f2 hbn; obtain ⟨q0, q1, q2, f0, f1, f2⟩ := row_three hB)
      | (go_at_call 20; (with_reducible refine (c1.out _).mono ?_); rintro e wn ⟨rfl, hbn⟩; replace hW := hW.trans (hbn.mono hW.size); replace hB := hB.below hbn hB.lt; clear q0 q1 q2 f0 f1 f2 hbn; obtain ⟨q0, q1, q2, f0, f1, f2⟩ := row_three hB)
      | (go_at_call 21; (with_reducible refine (c2.out _).mono ?_); rintro e wn ⟨rfl, hbn⟩; replace hW := hW.trans (hbn.mono hW.size); replace hB := hB.below hbn hB.lt; clear q0 q1 q2 f0 f1 f2 hbn; obtain ⟨q0, q1, q2, f0, f1, f2⟩ := row_three hB))
    exact ret_three1 rfl rfl (three_row hB) rfl Try.underlying24 rfl ⟨by rw [H.out]; rfl, below_three hW (Nat.le_refl _)⟩
set_option maxHeartbeats 1000000 in
set_option maxRecDepth 100000 in
theorem ref19_Of_k5 (s : ByteArray) (p : Int) (all : Bool) (hs : s.size ≤ 500000) (hp : Utf.place s.data.toList p = true) (w : World) :
    Calls Try.prog 8 #[.string s, .int .i64 p, .bool all, .string ⟨#[91]⟩] w fun e w' => e = .returned (res (thg s.data.toList p all [91])) ∧ Below w.heap.size w w' := by
  have hB := Blk.new w 24 #[.int .i64 0, .int .i64 0, .bool false]
  have hW := (Below.refl w.heap.size w).alloc (Nat.le_refl _) (.cells #[.int .i64 0, .int .i64 0, .bool false] 24)
  obtain ⟨q0, q1, q2, f0, f1, f2⟩ := row_three hB
  have C1 : Hid (∀ w, Calls Try.prog 10 #[.string ⟨#[91]⟩] w fun e w' => e = .returned (.bool true) ∧ Below w.heap.size w w') := Lib.hid (fun w => ref19_Has ⟨#[91]⟩ w)
  have CP := Lib.hid (fun w => ref_Place s p (by omega) w)
  rw [hp] at CP
  have hl := data_len s
  have H : Hid (res (thg s.data.toList p all [91]) = Thing.plain ((Pair.ar s.data.toList [91] p).map (btw · all))) := by
    show _ = _
    rw [Thing.thg_at (j := 5) rfl hp]; rfl
  have c1 : Hid (∀ w, Calls Try.prog 20 #[.string s, .int .i64 p, .string ⟨#[91]⟩] w fun e w' => e = .returned (Pair.resA (Pair.ar s.data.toList [91] p)) ∧ Below w.heap.size w w') := Lib.hid (fun w => ref17_Around s p ⟨#[91]⟩ hs w)
  generalize thg s.data.toList p all [91] = Z at *
  cases ha : Pair.ar s.data.toList [91] p with
  | none =>
    rw [ha] at H
    rw [ha, show Pair.resA none = .tuple #[.int .i64 0, .int .i64 0, .bool false] from rfl] at c1
    clear hp hs ha hl
    go_enter Try.func8, Try.ntmps8
    go_wp2_with (first
      | (go_at_call 10; (with_reducible refine (C1.out _).mono ?_); rintro e wn ⟨rfl, hbn⟩; replace hW := hW.trans (hbn.mono hW.size); replace hB := hB.below hbn hB.lt; clear q0 q1 q2 f0 f1 f2 hbn; obtain ⟨q0, q1, q2, f0, f1, f2⟩ := row_three hB)
      | (go_at_call 14; (with_reducible refine (CP.out _).mono ?_); rintro e wn ⟨rfl, hbn⟩; replace hW := hW.trans (hbn.mono hW.size); replace hB := hB.below hbn hB.lt; clear q0 q1 q2 f0 f1 f2 hbn; obtain ⟨q0, q1, q2, f0, f1, f2⟩ := row_three hB)
      | (go_at_call 20; (with_reducible refine (c1.out _).mono ?_); rintro e wn ⟨rfl, hbn⟩; replace hW := hW.trans (hbn.mono hW.size); replace hB := hB.below hbn hB.lt; clear q0 q1 q2 f0 f1 f2 hbn; obtain ⟨q0, q1, q2, f0, f1, f2⟩ := row_three hB))
    exact ret_three1 rfl rfl (three_row hB) rfl Try.underlying24 rfl ⟨by rw [H.out]; rfl, below_three hW (Nat.le_refl _)⟩
  | some x =>
    have hx := Thing.ar_lt ha
    obtain ⟨x, y⟩ := x
    dsimp only at hx
    rw [ha, show Pair.resA (some (x, y)) = .tuple #[.int .i64 (x : Nat), .int .i64 (y : Nat), .bool true] from rfl] at c1
    have c2 := Lib.hid (fun w => ref19_marked x y all (by omega) (by omega) w)
    rw [ha, show Thing.plain ((some (x, y)).map (btw · all)) = .tuple #[.agg #[.int .i64 (btw (x, y) all).1, .int .i64 (btw (x, y) all).2, .bool false], .bool true] from rfl] at H
    generalize btw (x, y) all = bt at *
    obtain ⟨bt1, bt2⟩ := bt
    dsimp only at c2 H
    clear hp hs ha hl hx
    go_enter Try.func8, Try.ntmps8
    go_wp2_with (first
      | (go_at_call 10; (with_reducible refine (C1.out _).mono ?_); rintro e wn ⟨rfl, hbn⟩; replace hW := hW.trans (hbn.mono hW.size); replace hB := hB.below hbn hB.lt; clear q0 q1 q2 f0 f1 f2 hbn; obtain ⟨q0, q1, q2, f0, f1, f2⟩ := row_three hB)
      | (go_at_call 14; (with_reducible refine (CP.out _).mono ?_); rintro e wn ⟨rfl, hbn⟩; replace hW := hW.trans (hbn.mono hW.size); replace hB := hB.below hbn hB.lt; clear q0 q1 q2 f0 f1 f2 hbn; obtain ⟨q0, q1, q2, f0, f1, f2⟩ := row_three hB)
      | (go_at_call 20; (with_reducible refine (c1.out _).mono ?_); rintro e wn ⟨rfl, hbn⟩; replace hW := hW.trans (hbn.mono hW.size); replace hB := hB.below hbn hB.lt; clear q0 q1 q2 f0 f1 f2 hbn; obtain ⟨q0, q1, q2, f0, f1, f2⟩ := row_three hB)
      | (go_at_call 21; (with_reducible refine (c2.out _).mono ?_); rintro e wn ⟨rfl, hbn⟩; replace hW := hW.trans (hbn.mono hW.size); replace hB := hB.below hbn hB.lt; clear q0 q1 q2 f0 f1 f2 hbn; obtain ⟨q0, q1, q2, f0, f1, f2⟩ := row_three hB))
    exact ret_three1 rfl rfl (three_row hB) rfl Try.underlying24 rfl ⟨by rw [H.out]; rfl, below_three hW (Nat.le_refl _)⟩
set_option maxHeartbeats 1000000 in
set_option maxRecDepth 100000 in
theorem ref19_Of_k6 (s : ByteArray) (p : Int) (all : Bool) (hs : s.size ≤ 500000) (hp : Utf.place s.data.toList p = true) (w : World) :
    Calls Try.prog 8 #[.string s, .int .i64 p, .bool all, .string ⟨#[93]⟩] w fun e w' => e = .returned (res (thg s.data.toList p all [93])) ∧ Below w.heap.size w w' := by
  have hB := Blk.new w 24 #[.int .i64 0, .int .i64 0, .bool false]
  have hW := (Below.refl w.heap.size w).alloc (Nat.le_refl _) (.cells #[.int .i64 0, .int .i64 0, .bool false] 24)
  obtain ⟨q0, q1, q2, f0, f1, f2⟩ := row_three hB
  have C1 : Hid (∀ w, Calls Try.prog 10 #[.string ⟨#[93]⟩] w fun e w' => e = .returned (.bool true) ∧ Below w.heap.size w w') := Lib.hid (fun w => ref19_Has ⟨#[93]⟩ w)
  have CP := Lib.hid (fun w => ref_Place s p (by omega) w)
  rw [hp] at CP
  have hl := data_len s
  have H : Hid (res (thg s.data.toList p all [93]) = Thing.plain ((Pair.ar s.data.toList [91] p).map (btw · all))) := by
    show _ = _
    rw [Thing.thg_at (j := 6) rfl hp]; rfl
  have c1 : Hid (∀ w, Calls Try.prog 20 #[.string s, .int .i64 p, .string ⟨#[91]⟩] w fun e w' => e = .returned (Pair.resA (Pair.ar s.data.toList [91] p)) ∧ Below w.heap.size w w') := Lib.hid (fun w => ref17_Around s p ⟨#[91]⟩ hs w)
  generalize thg s.data.toList p all [93] = Z at *
  cases ha : Pair.ar s.data.toList [91] p with
  | none =>
    rw [ha] at H
    rw [ha, show Pair.resA none = .tuple #[.int .i64 0, .int .i64 0, .bool false] from rfl] at c1
    clear hp hs ha hl
    go_enter Try.func8, Try.ntmps8
    go_wp2_with (first
      | (go_at_call 10; (with_reducible refine (C1.out _).mono ?_); rintro e wn ⟨rfl, hbn⟩; replace hW := hW.trans (hbn.mono hW.size); replace hB := hB.below hbn hB.lt; clear q0 q1 q2 f0 f1 f2 hbn; obtain ⟨q0, q1, q2, f0, f1, f2⟩ := row_three hB)
      | (go_at_call 14; (with_reducible refine (CP.out _).mono ?_); rintro e wn ⟨rfl, hbn⟩; replace hW := hW.trans (hbn.mono hW.size); replace hB := hB.below hbn hB.lt; clear q0 q1 q2 f0 f1 f2 hbn; obtain ⟨q0, q1, q2, f0, f1, f2⟩ := row_three hB)
      | (go_at_call 20; (with_reducible refine (c1.out _).mono ?_); rintro e wn ⟨rfl, hbn⟩; replace hW := hW.trans (hbn.mono hW.size); replace hB := hB.below hbn hB.lt; clear q0 q1 q2 f0 f1 f2 hbn; obtain ⟨q0, q1, q2, f0, f1, f2⟩ := row_three hB))
    exact ret_three1 rfl rfl (three_row hB) rfl Try.underlying24 rfl ⟨by rw [H.out]; rfl, below_three hW (Nat.le_refl _)⟩
  | some x =>
    have hx := Thing.ar_lt ha
    obtain ⟨x, y⟩ := x
    dsimp only at hx
    rw [ha, show Pair.resA (some (x, y)) = .tuple #[.int .i64 (x : Nat), .int .i64 (y : Nat), .bool true] from rfl] at c1
    have c2 := Lib.hid (fun w => ref19_marked x y all (by omega) (by omega) w)
    rw [ha, show Thing.plain ((some (x, y)).map (btw · all)) = .tuple #[.agg #[.int .i64 (btw (x, y) all).1, .int .i64 (btw (x, y) all).2, .bool false], .bool true] from rfl] at H
    generalize btw (x, y) all = bt at *
    obtain ⟨bt1, bt2⟩ := bt
    dsimp only at c2 H
    clear hp hs ha hl hx
    go_enter Try.func8, Try.ntmps8
    go_wp2_with (first
      | (go_at_call 10; (with_reducible refine (C1.out _).mono ?_); rintro e wn ⟨rfl, hbn⟩; replace hW := hW.trans (hbn.mono hW.size); replace hB := hB.below hbn hB.lt; clear q0 q1 q2 f0 f1 f2 hbn; obtain ⟨q0, q1, q2, f0, f1, f2⟩ := row_three hB)
      | (go_at_call 14; (with_reducible refine (CP.out _).mono ?_); rintro e wn ⟨rfl, hbn⟩; replace hW := hW.trans (hbn.mono hW.size); replace hB := hB.below hbn hB.lt; clear q0 q1 q2 f0 f1 f2 hbn; obtain ⟨q0, q1, q2, f0, f1, f2⟩ := row_three hB)
      | (go_at_call 20; (with_reducible refine (c1.out _).mono ?_); rintro e wn ⟨rfl, hbn⟩; replace hW := hW.trans (hbn.mono hW.size); replace hB := hB.below hbn hB.lt; clear q0 q1 q2 f0 f1 f2 hbn; obtain ⟨q0, q1, q2, f0, f1, f2⟩ := row_three hB)
      | (go_at_call 21; (with_reducible refine (c2.out _).mono ?_); rintro e wn ⟨rfl, hbn⟩; replace hW := hW.trans (hbn.mono hW.size); replace hB := hB.below hbn hB.lt; clear q0 q1 q2 f0 f1 f2 hbn; obtain ⟨q0, q1, q2, f0, f1, f2⟩ := row_three hB))
    exact ret_three1 rfl rfl (three_row hB) rfl Try.underlying24 rfl ⟨by rw [H.out]; rfl, below_three hW (Nat.le_refl _)⟩
set_option maxHeartbeats 1000000 in
set_option maxRecDepth 100000 in
theorem ref19_Of_k7 (s : ByteArray) (p : Int) (all : Bool) (hs : s.size ≤ 500000) (hp : Utf.place s.data.toList p = true) (w : World) :
    Calls Try.prog 8 #[.string s, .int .i64 p, .bool all, .string ⟨#[123]⟩] w fun e w' => e = .returned (res (thg s.data.toList p all [123])) ∧ Below w.heap.size w w' := by
  have hB := Blk.new w 24 #[.int .i64 0, .int .i64 0, .bool false]
  have hW := (Below.refl w.heap.size w).alloc (Nat.le_refl _) (.cells #[.int .i64 0, .int .i64 0, .bool false] 24)
  obtain ⟨q0, q1, q2, f0, f1, f2⟩ := row_three hB
  have C1 : Hid (∀ w, Calls Try.prog 10 #[.string ⟨#[123]⟩] w fun e w' => e = .returned (.bool true) ∧ Below w.heap.size w w') := Lib.hid (fun w => ref19_Has ⟨#[123]⟩ w)
  have CP := Lib.hid (fun w => ref_Place s p (by omega) w)
  rw [hp] at CP
  have hl := data_len s
  have H : Hid (res (thg s.data.toList p all [123]) = Thing.plain ((Pair.ar s.data.toList [123] p).map (btw · all))) := by
    show _ = _
    rw [Thing.thg_at (j := 7) rfl hp]; rfl
  have c1 : Hid (∀ w, Calls Try.prog 20 #[.string s, .int .i64 p, .string ⟨#[123]⟩] w fun e w' => e = .returned (Pair.resA (Pair.ar s.data.toList [123] p)) ∧ Below w.heap.size w w') := Lib.hid (fun w => ref17_Around s p ⟨#[123]⟩ hs w)
  generalize thg s.data.toList p all [123] = Z at *
  cases ha : Pair.ar s.data.toList [123] p with
  | none =>
    rw [ha] at H
    rw [ha, show Pair.resA none = .tuple #[.int .i64 0, .int .i64 0, .bool false] from rfl] at c1
    clear hp hs ha hl
    go_enter Try.func8, Try.ntmps8
    go_wp2_with (first
      | (go_at_call 10; (with_reducible refine (C1.out _).mono ?_); rintro e wn ⟨rfl, hbn⟩; replace hW := hW.trans (hbn.mono hW.size); replace hB := hB.below hbn hB.lt; clear q0 q1 q2 f0 f1 f2 hbn; obtain ⟨q0, q1, q2, f0, f1, f2⟩ := row_three hB)
      | (go_at_call 14; (with_reducible refine (CP.out _).mono ?_); rintro e wn ⟨rfl, hbn⟩; replace hW := hW.trans (hbn.mono hW.size); replace hB := hB.below hbn hB.lt; clear q0 q1 q2 f0 f1 f2 hbn; obtain ⟨q0, q1, q2, f0, f1, f2⟩ := row_three hB)
      | (go_at_call 20; (with_reducible refine (c1.out _).mono ?_); rintro e wn ⟨rfl, hbn⟩; replace hW := hW.trans (hbn.mono hW.size); replace hB := hB.below hbn hB.lt; clear q0 q1 q2 f0 f1 f2 hbn; obtain ⟨q0, q1, q2, f0, f1, f2⟩ := row_three hB))
    exact ret_three1 rfl rfl (three_row hB) rfl Try.underlying24 rfl ⟨by rw [H.out]; rfl, below_three hW (Nat.le_refl _)⟩
  | some x =>
    have hx := Thing.ar_lt ha
    obtain ⟨x, y⟩ := x
    dsimp only at hx
    rw [ha, show Pair.resA (some (x, y)) = .tuple #[.int .i64 (x : Nat), .int .i64 (y : Nat), .bool true] from rfl] at c1
    have c2 := Lib.hid (fun w => ref19_marked x y all (by omega) (by omega) w)
    rw [ha, show Thing.plain ((some (x, y)).map (btw · all)) = .tuple #[.agg #[.int .i64 (btw (x, y) all).1, .int .i64 (btw (x, y) all).2, .bool false], .bool true] from rfl] at H
    generalize btw (x, y) all = bt at *
    obtain ⟨bt1, bt2⟩ := bt
    dsimp only at c2 H
    clear hp hs ha hl hx
    go_enter Try.func8, Try.ntmps8
    go_wp2_with (first
      | (go_at_call 10; (with_reducible refine (C1.out _).mono ?_); rintro e wn ⟨rfl, hbn⟩; replace hW := hW.trans (hbn.mono hW.size); replace hB := hB.below hbn hB.lt; clear q0 q1 q2 f0 f1 f2 hbn; obtain ⟨q0, q1, q2, f0, f1, f2⟩ := row_three hB)
      | (go_at_call 14; (with_reducible refine (CP.out _).mono ?_); rintro e wn ⟨rfl, hbn⟩; replace hW := hW.trans (hbn.mono hW.size); replace hB := hB.below hbn hB.lt; clear q0 q1 q2 f0 f1 f2 hbn; obtain ⟨q0, q1, q2, f0, f1, f2⟩ := row_three hB)
      | (go_at_call 20; (with_reducible refine (c1.out _).mono ?_); rintro e wn ⟨rfl, hbn⟩; replace hW := hW.trans (hbn.mono hW.size); replace hB := hB.below hbn hB.lt; clear q0 q1 q2 f0 f1 f2 hbn; obtain ⟨q0, q1, q2, f0, f1, f2⟩ := row_three hB)
      | (go_at_call 21; (with_reducible refine (c2.out _).mono ?_); rintro e wn ⟨rfl, hbn⟩; replace hW := hW.trans (hbn.mono hW.size); replace hB := hB.below hbn hB.lt; clear q0 q1 q2 f0 f1 f2 hbn; obtain ⟨q0, q1, q2, f0, f1, f2⟩ := row_three hB))
    exact ret_three1 rfl rfl (three_row hB) rfl Try.underlying24 rfl ⟨by rw [H.out]; rfl, below_three hW (Nat.le_refl _)⟩
set_option maxHeartbeats 1000000 in
set_option maxRecDepth 100000 in
theorem ref19_Of_k8 (s : ByteArray) (p : Int) (all : Bool) (hs : s.size ≤ 500000) (hp : Utf.place s.data.toList p = true) (w : World) :
    Calls Try.prog 8 #[.string s, .int .i64 p, .bool all, .string ⟨#[125]⟩] w fun e w' => e = .returned (res (thg s.data.toList p all [125])) ∧ Below w.heap.size w w' := by
  have hB := Blk.new w 24 #[.int .i64 0, .int .i64 0, .bool false]
  have hW := (Below.refl w.heap.size w).alloc (Nat.le_refl _) (.cells #[.int .i64 0, .int .i64 0, .bool false] 24)
  obtain ⟨q0, q1, q2, f0, f1, f2⟩ := row_three hB
  have C1 : Hid (∀ w, Calls Try.prog 10 #[.string ⟨#[125]⟩] w fun e w' => e = .returned (.bool true) ∧ Below w.heap.size w w') := Lib.hid (fun w => ref19_Has ⟨#[125]⟩ w)
  have CP := Lib.hid (fun w => ref_Place s p (by omega) w)
  rw [hp] at CP
  have hl := data_len s
  have H : Hid (res (thg s.data.toList p all [125]) = Thing.plain ((Pair.ar s.data.toList [123] p).map (btw · all))) := by
    show _ = _
    rw [Thing.thg_at (j := 8) rfl hp]; rfl
  have c1 : Hid (∀ w, Calls Try.prog 20 #[.string s, .int .i64 p, .string ⟨#[123]⟩] w fun e w' => e = .returned (Pair.resA (Pair.ar s.data.toList [123] p)) ∧ Below w.heap.size w w') := Lib.hid (fun w => ref17_Around s p ⟨#[123]⟩ hs w)
  generalize thg s.data.toList p all [125] = Z at *
  cases ha : Pair.ar s.data.toList [123] p with
  | none =>
    rw [ha] at H
    rw [ha, show Pair.resA none = .tuple #[.int .i64 0, .int .i64 0, .bool false] from rfl] at c1
    clear hp hs ha hl
    go_enter Try.func8, Try.ntmps8
    go_wp2_with (first
      | (go_at_call 10; (with_reducible refine (C1.out _).mono ?_); rintro e wn ⟨rfl, hbn⟩; replace hW := hW.trans (hbn.mono hW.size); replace hB := hB.below hbn hB.lt; clear q0 q1 q2 f0 f1 f2 hbn; obtain ⟨q0, q1, q2, f0, f1, f2⟩ := row_three hB)
      | (go_at_call 14; (with_reducible refine (CP.out _).mono ?_); rintro e wn ⟨rfl, hbn⟩; replace hW := hW.trans (hbn.mono hW.size); replace hB := hB.below hbn hB.lt; clear q0 q1 q2 f0 f1 f2 hbn; obtain ⟨q0, q1, q2, f0, f1, f2⟩ := row_three hB)
      | (go_at_call 20; (with_reducible refine (c1.out _).mono ?_); rintro e wn ⟨rfl, hbn⟩; replace hW := hW.trans (hbn.mono hW.size); replace hB := hB.below hbn hB.lt; clear q0 q1 q2 f0 f1 f2 hbn; obtain ⟨q0, q1, q2, f0, f1, f2⟩ := row_three hB))
    exact ret_three1 rfl rfl (three_row hB) rfl Try.underlying24 rfl ⟨by rw [H.out]; rfl, below_three hW (Nat.le_refl _)⟩
  | some x =>
    have hx := Thing.ar_lt ha
    obtain ⟨x, y⟩ := x
    dsimp only at hx
    rw [ha, show Pair.resA (some (x, y)) = .tuple #[.int .i64 (x : Nat), .int .i64 (y : Nat), .bool true] from rfl] at c1
    have c2 := Lib.hid (fun w => ref19_marked x y all (by omega) (by omega) w)
    rw [ha, show Thing.plain ((some (x, y)).map (btw · all)) = .tuple #[.agg #[.int .i64 (btw (x, y) all).1, .int .i64 (btw (x, y) all).2, .bool false], .bool true] from rfl] at H
    generalize btw (x, y) all = bt at *
    obtain ⟨bt1, bt2⟩ := bt
    dsimp only at c2 H
    clear hp hs ha hl hx
    go_enter Try.func8, Try.ntmps8
    go_wp2_with (first
      | (go_at_call 10; (with_reducible refine (C1.out _).mono ?_); rintro e wn ⟨rfl, hbn⟩; replace hW := hW.trans (hbn.mono hW.size); replace hB := hB.below hbn hB.lt; clear q0 q1 q2 f0 f1 f2 hbn; obtain ⟨q0, q1, q2, f0, f1, f2⟩ := row_three hB)
      | (go_at_call 14; (with_reducible refine (CP.out _).mono ?_); rintro e wn ⟨rfl, hbn⟩; replace hW := hW.trans (hbn.mono hW.size); replace hB := hB.below hbn hB.lt; clear q0 q1 q2 f0 f1 f2 hbn; obtain ⟨q0, q1, q2, f0, f1, f2⟩ := row_three hB)
      | (go_at_call 20; (with_reducible refine (c1.out _).mono ?_); rintro e wn ⟨rfl, hbn⟩; replace hW := hW.trans (hbn.mono hW.size); replace hB := hB.below hbn hB.lt; clear q0 q1 q2 f0 f1 f2 hbn; obtain ⟨q0, q1, q2, f0, f1, f2⟩ := row_three hB)
      | (go_at_call 21; (with_reducible refine (c2.out _).mono ?_); rintro e wn ⟨rfl, hbn⟩; replace hW := hW.trans (hbn.mono hW.size); replace hB := hB.below hbn hB.lt; clear q0 q1 q2 f0 f1 f2 hbn; obtain ⟨q0, q1, q2, f0, f1, f2⟩ := row_three hB))
    exact ret_three1 rfl rfl (three_row hB) rfl Try.underlying24 rfl ⟨by rw [H.out]; rfl, below_three hW (Nat.le_refl _)⟩
set_option maxHeartbeats 1000000 in
set_option maxRecDepth 100000 in
theorem ref19_Of_k9 (s : ByteArray) (p : Int) (all : Bool) (hs : s.size ≤ 500000) (hp : Utf.place s.data.toList p = true) (w : World) :
    Calls Try.prog 8 #[.string s, .int .i64 p, .bool all, .string ⟨#[66]⟩] w fun e w' => e = .returned (res (thg s.data.toList p all [66])) ∧ Below w.heap.size w w' := by
  have hB := Blk.new w 24 #[.int .i64 0, .int .i64 0, .bool false]
  have hW := (Below.refl w.heap.size w).alloc (Nat.le_refl _) (.cells #[.int .i64 0, .int .i64 0, .bool false] 24)
  obtain ⟨q0, q1, q2, f0, f1, f2⟩ := row_three hB
  have C1 : Hid (∀ w, Calls Try.prog 10 #[.string ⟨#[66]⟩] w fun e w' => e = .returned (.bool true) ∧ Below w.heap.size w w') := Lib.hid (fun w => ref19_Has ⟨#[66]⟩ w)
  have CP := Lib.hid (fun w => ref_Place s p (by omega) w)
  rw [hp] at CP
  have hl := data_len s
  have H : Hid (res (thg s.data.toList p all [66]) = Thing.plain ((Pair.ar s.data.toList [123] p).map (btw · all))) := by
    show _ = _
    rw [Thing.thg_at (j := 9) rfl hp]; rfl
  have c1 : Hid (∀ w, Calls Try.prog 20 #[.string s, .int .i64 p, .string ⟨#[123]⟩] w fun e w' => e = .returned (Pair.resA (Pair.ar s.data.toList [123] p)) ∧ Below w.heap.size w w') := Lib.hid (fun w => ref17_Around s p ⟨#[123]⟩ hs w)
  generalize thg s.data.toList p all [66] = Z at *
  cases ha : Pair.ar s.data.toList [123] p with
  | none =>
    rw [ha] at H
    rw [ha, show Pair.resA none = .tuple #[.int .i64 0, .int .i64 0, .bool false] from rfl] at c1
    clear hp hs ha hl
    go_enter Try.func8, Try.ntmps8
    go_wp2_with (first
      | (go_at_call 10; (with_reducible refine (C1.out _).mono ?_); rintro e wn ⟨rfl, hbn⟩; replace hW := hW.trans (hbn.mono hW.size); replace hB := hB.below hbn hB.lt; clear q0 q1 q2 f0 f1 f2 hbn; obtain ⟨q0, q1, q2, f0, f1, f2⟩ := row_three hB)
      | (go_at_call 14; (with_reducible refine (CP.out _).mono ?_); rintro e wn ⟨rfl, hbn⟩; replace hW := hW.trans (hbn.mono hW.size); replace hB := hB.below hbn hB.lt; clear q0 q1 q2 f0 f1 f2 hbn; obtain ⟨q0, q1, q2, f0, f1, f2⟩ := row_three hB)
      | (go_at_call 20; (with_reducible refine (c1.out _).mono ?_); rintro e wn ⟨rfl, hbn⟩; replace hW := hW.trans (hbn.mono hW.size); replace hB := hB.below hbn hB.lt; clear q0 q1 q2 f0 f1 f2 hbn; obtain ⟨q0, q1, q2, f0, f1, f2⟩ := row_three hB))
    exact ret_three1 rfl rfl (three_row hB) rfl Try.underlying24 rfl ⟨by rw [H.out]; rfl, below_three hW (Nat.le_refl _)⟩
  | some x =>
    have hx := Thing.ar_lt ha
    obtain ⟨x, y⟩ := x
    dsimp only at hx
    rw [ha, show Pair.resA (some (x, y)) = .tuple #[.int .i64 (x : Nat), .int .i64 (y : Nat), .bool true] from rfl] at c1
    have c2 := Lib.hid (fun w => ref19_marked x y all (by omega) (by omega) w)
    rw [ha, show Thing.plain ((some (x, y)).map (btw · all)) = .tuple #[.agg #[.int .i64 (btw (x, y) all).1, .int .i64 (btw (x, y) all).2, .bool false], .bool true] from rfl] at H
    generalize btw (x, y) all = bt at *
    obtain ⟨bt1, bt2⟩ := bt
    dsimp only at c2 H
    clear hp hs ha hl hx
    go_enter Try.func8, Try.ntmps8
    go_wp2_with (first
      | (go_at_call 10; (with_reducible refine (C1.out _).mono ?_); rintro e wn ⟨rfl, hbn⟩; replace hW := hW.trans (hbn.mono hW.size); replace hB := hB.below hbn hB.lt; clear q0 q1 q2 f0 f1 f2 hbn; obtain ⟨q0, q1, q2, f0, f1, f2⟩ := row_three hB)
      | (go_at_call 14; (with_reducible refine (CP.out _).mono ?_); rintro e wn ⟨rfl, hbn⟩; replace hW := hW.trans (hbn.mono hW.size); replace hB := hB.below hbn hB.lt; clear q0 q1 q2 f0 f1 f2 hbn; obtain ⟨q0, q1, q2, f0, f1, f2⟩ := row_three hB)
      | (go_at_call 20; (with_reducible refine (c1.out _).mono ?_); rintro e wn ⟨rfl, hbn⟩; replace hW := hW.trans (hbn.mono hW.size); replace hB := hB.below hbn hB.lt; clear q0 q1 q2 f0 f1 f2 hbn; obtain ⟨q0, q1, q2, f0, f1, f2⟩ := row_three hB)
      | (go_at_call 21; (with_reducible refine (c2.out _).mono ?_); rintro e wn ⟨rfl, hbn⟩; replace hW := hW.trans (hbn.mono hW.size); replace hB := hB.below hbn hB.lt; clear q0 q1 q2 f0 f1 f2 hbn; obtain ⟨q0, q1, q2, f0, f1, f2⟩ := row_three hB))
    exact ret_three1 rfl rfl (three_row hB) rfl Try.underlying24 rfl ⟨by rw [H.out]; rfl, below_three hW (Nat.le_refl _)⟩
set_option maxHeartbeats 1000000 in
set_option maxRecDepth 100000 in
theorem ref19_Of_k10 (s : ByteArray) (p : Int) (all : Bool) (hs : s.size ≤ 500000) (hp : Utf.place s.data.toList p = true) (w : World) :
    Calls Try.prog 8 #[.string s, .int .i64 p, .bool all, .string ⟨#[60]⟩] w fun e w' => e = .returned (res (thg s.data.toList p all [60])) ∧ Below w.heap.size w w' := by
  have hB := Blk.new w 24 #[.int .i64 0, .int .i64 0, .bool false]
  have hW := (Below.refl w.heap.size w).alloc (Nat.le_refl _) (.cells #[.int .i64 0, .int .i64 0, .bool false] 24)
  obtain ⟨q0, q1, q2, f0, f1, f2⟩ := row_three hB
  have C1 : Hid (∀ w, Calls Try.prog 10 #[.string ⟨#[60]⟩] w fun e w' => e = .returned (.bool true) ∧ Below w.heap.size w w') := Lib.hid (fun w => ref19_Has ⟨#[60]⟩ w)
  have CP := Lib.hid (fun w => ref_Place s p (by omega) w)
  rw [hp] at CP
  have hl := data_len s
  have H : Hid (res (thg s.data.toList p all [60]) = Thing.plain ((Pair.ar s.data.toList [60] p).map (btw · all))) := by
    show _ = _
    rw [Thing.thg_at (j := 10) rfl hp]; rfl
  have c1 : Hid (∀ w, Calls Try.prog 20 #[.string s, .int .i64 p, .string ⟨#[60]⟩] w fun e w' => e = .returned (Pair.resA (Pair.ar s.data.toList [60] p)) ∧ Below w.heap.size w w') := Lib.hid (fun w => ref17_Around s p ⟨#[60]⟩ hs w)
  generalize thg s.data.toList p all [60] = Z at *
  cases ha : Pair.ar s.data.toList [60] p with
  | none =>
    rw [ha] at H
    rw [ha, show Pair.resA none = .tuple #[.int .i64 0, .int .i64 0, .bool false] from rfl] at c1
    clear hp hs ha hl
    go_enter Try.func8, Try.ntmps8
    go_wp2_with (first
      | (go_at_call 10; (with_reducible refine (C1.out _).mono ?_); rintro e wn ⟨rfl, hbn⟩; replace hW := hW.trans (hbn.mono hW.size); replace hB := hB.below hbn hB.lt; clear q0 q1 q2 f0 f1 f2 hbn; obtain ⟨q0, q1, q2, f0, f1, f2⟩ := row_three hB)
      | (go_at_call 14; (with_reducible refine (CP.out _).mono ?_); rintro e wn ⟨rfl, hbn⟩; replace hW := hW.trans (hbn.mono hW.size); replace hB := hB.below hbn hB.lt; clear q0 q1 q2 f0 f1 f2 hbn; obtain ⟨q0, q1, q2, f0, f1, f2⟩ := row_three hB)
      | (go_at_call 20; (with_reducible refine (c1.out _).mono ?_); rintro e wn ⟨rfl, hbn⟩; replace hW := hW.trans (hbn.mono hW.size); replace hB := hB.below hbn hB.lt; clear q0 q1 q2 f0 f1 f2 hbn; obtain ⟨q0, q1, q2, f0, f1, f2⟩ := row_three hB))
    exact ret_three1 rfl rfl (three_row hB) rfl Try.underlying24 rfl ⟨by rw [H.out]; rfl, below_three hW (Nat.le_refl _)⟩
  | some x =>
    have hx := Thing.ar_lt ha
    obtain ⟨x, y⟩ := x
    dsimp only at hx
    rw [ha, show Pair.resA (some (x, y)) = .tuple #[.int .i64 (x : Nat), .int .i64 (y : Nat), .bool true] from rfl] at c1
    have c2 := Lib.hid (fun w => ref19_marked x y all (by omega) (by omega) w)
    rw [ha, show Thing.plain ((some (x, y)).map (btw · all)) = .tuple #[.agg #[.int .i64 (btw (x, y) all).1, .int .i64 (btw (x, y) all).2, .bool false], .bool true] from rfl] at H
    generalize btw (x, y) all = bt at *
    obtain ⟨bt1, bt2⟩ := bt
    dsimp only at c2 H
    clear hp hs ha hl hx
    go_enter Try.func8, Try.ntmps8
    go_wp2_with (first
      | (go_at_call 10; (with_reducible refine (C1.out _).mono ?_); rintro e wn ⟨rfl, hbn⟩; replace hW := hW.trans (hbn.mono hW.size); replace hB := hB.below hbn hB.lt; clear q0 q1 q2 f0 f1 f2 hbn; obtain ⟨q0, q1, q2, f0, f1, f2⟩ := row_three hB)
      | (go_at_call 14; (with_reducible refine (CP.out _).mono ?_); rintro e wn ⟨rfl, hbn⟩; replace hW := hW.trans (hbn.mono hW.size); replace hB := hB.below hbn hB.lt; clear q0 q1 q2 f0 f1 f2 hbn; obtain ⟨q0, q1, q2, f0, f1, f2⟩ := row_three hB)
      | (go_at_call 20; (with_reducible refine (c1.out _).mono ?_); rintro e wn ⟨rfl, hbn⟩; replace hW := hW.trans (hbn.mono hW.size); replace hB := hB.below hbn hB.lt; clear q0 q1 q2 f0 f1 f2 hbn; obtain ⟨q0, q1, q2, f0, f1, f2⟩ := row_three hB)
      | (go_at_call 21; (with_reducible refine (c2.out _).mono ?_); rintro e wn ⟨rfl, hbn⟩; replace hW := hW.trans (hbn.mono hW.size); replace hB := hB.below hbn hB.lt; clear q0 q1 q2 f0 f1 f2 hbn; obtain ⟨q0, q1, q2, f0, f1, f2⟩ := row_three hB))
    exact ret_three1 rfl rfl (three_row hB) rfl Try.underlying24 rfl ⟨by rw [H.out]; rfl, below_three hW (Nat.le_refl _)⟩
set_option maxHeartbeats 1000000 in
set_option maxRecDepth 100000 in
theorem ref19_Of_k11 (s : ByteArray) (p : Int) (all : Bool) (hs : s.size ≤ 500000) (hp : Utf.place s.data.toList p = true) (w : World) :
    Calls Try.prog 8 #[.string s, .int .i64 p, .bool all, .string ⟨#[62]⟩] w fun e w' => e = .returned (res (thg s.data.toList p all [62])) ∧ Below w.heap.size w w' := by
  have hB := Blk.new w 24 #[.int .i64 0, .int .i64 0, .bool false]
  have hW := (Below.refl w.heap.size w).alloc (Nat.le_refl _) (.cells #[.int .i64 0, .int .i64 0, .bool false] 24)
  obtain ⟨q0, q1, q2, f0, f1, f2⟩ := row_three hB
  have C1 : Hid (∀ w, Calls Try.prog 10 #[.string ⟨#[62]⟩] w fun e w' => e = .returned (.bool true) ∧ Below w.heap.size w w') := Lib.hid (fun w => ref19_Has ⟨#[62]⟩ w)
  have CP := Lib.hid (fun w => ref_Place s p (by omega) w)
  rw [hp] at CP
  have hl := data_len s
  have H : Hid (res (thg s.data.toList p all [62]) = Thing.plain ((Pair.ar s.data.toList [60] p).map (btw · all))) := by
    show _ = _
    rw [Thing.thg_at (j := 11) rfl hp]; rfl
  have c1 : Hid (∀ w, Calls Try.prog 20 #[.string s, .int .i64 p, .string ⟨#[60]⟩] w fun e w' => e = .returned (Pair.resA (Pair.ar s.data.toList [60] p)) ∧ Below w.heap.size w w') := Lib.hid (fun w => ref17_Around s p ⟨#[60]⟩ hs w)
  generalize thg s.data.toList p all [62] = Z at *
  cases ha : Pair.ar s.data.toList [60] p with
  | none =>
    rw [ha] at H
    rw [ha, show Pair.resA none = .tuple #[.int .i64 0, .int .i64 0, .bool false] from rfl] at c1
    clear hp hs ha hl
    go_enter Try.func8, Try.ntmps8
    go_wp2_with (first
      | (go_at_call 10; (with_reducible refine (C1.out _).mono ?_); rintro e wn ⟨rfl, hbn⟩; replace hW := hW.trans (hbn.mono hW.size); replace hB := hB.below hbn hB.lt; clear q0 q1 q2 f0 f1 f2 hbn; obtain ⟨q0, q1, q2, f0, f1, f2⟩ := row_three hB)
      | (go_at_call 14; (with_reducible refine (CP.out _).mono ?_); rintro e wn ⟨rfl, hbn⟩; replace hW := hW.trans (hbn.mono hW.size); replace hB := hB.below hbn hB.lt; clear q0 q1 q2 f0 f1 f2 hbn; obtain ⟨q0, q1, q2, f0, f1, f2⟩ := row_three hB)
      | (go_at_call 20; (with_reducible refine (c1.out _).mono ?_); rintro e wn ⟨rfl, hbn⟩; replace hW := hW.trans (hbn.mono hW.size); replace hB := hB.below hbn hB.lt; clear q0 q1 q2 f0 f1 f2 hbn; obtain ⟨q0, q1, q2, f0, f1, f2⟩ := row_three hB))
    exact ret_three1 rfl rfl (three_row hB) rfl Try.underlying24 rfl ⟨by rw [H.out]; rfl, below_three hW (Nat.le_refl _)⟩
  | some x =>
    have hx := Thing.ar_lt ha
    obtain ⟨x, y⟩ := x
    dsimp only at hx
    rw [ha, show Pair.resA (some (x, y)) = .tuple #[.int .i64 (x : Nat), .int .i64 (y : Nat), .bool true] from rfl] at c1
    have c2 := Lib.hid (fun w => ref19_marked x y all (by omega) (by omega) w)
    rw [ha, show Thing.plain ((some (x, y)).map (btw · all)) = .tuple #[.agg #[.int .i64 (btw (x, y) all).1, .int .i64 (btw (x, y) all).2, .bool false], .bool true] from rfl] at H
    generalize btw (x, y) all = bt at *
    obtain ⟨bt1, bt2⟩ := bt
    dsimp only at c2 H
    clear hp hs ha hl hx
    go_enter Try.func8, Try.ntmps8
    go_wp2_with (first
      | (go_at_call 10; (with_reducible refine (C1.out _).mono ?_); rintro e wn ⟨rfl, hbn⟩; replace hW := hW.trans (hbn.mono hW.size); replace hB := hB.below hbn hB.lt; clear q0 q1 q2 f0 f1 f2 hbn; obtain ⟨q0, q1, q2, f0, f1, f2⟩ := row_three hB)
      | (go_at_call 14; (with_reducible refine (CP.out _).mono ?_); rintro e wn ⟨rfl, hbn⟩; replace hW := hW.trans (hbn.mono hW.size); replace hB := hB.below hbn hB.lt; clear q0 q1 q2 f0 f1 f2 hbn; obtain ⟨q0, q1, q2, f0, f1, f2⟩ := row_three hB)
      | (go_at_call 20; (with_reducible refine (c1.out _).mono ?_); rintro e wn ⟨rfl, hbn⟩; replace hW := hW.trans (hbn.mono hW.size); replace hB := hB.below hbn hB.lt; clear q0 q1 q2 f0 f1 f2 hbn; obtain ⟨q0, q1, q2, f0, f1, f2⟩ := row_three hB)
      | (go_at_call 21; (with_reducible refine (c2.out _).mono ?_); rintro e wn ⟨rfl, hbn⟩; replace hW := hW.trans (hbn.mono hW.size); replace hB := hB.below hbn hB.lt; clear q0 q1 q2 f0 f1 f2 hbn; obtain ⟨q0, q1, q2, f0, f1, f2⟩ := row_three hB))
    exact ret_three1 rfl rfl (three_row hB) rfl Try.underlying24 rfl ⟨by rw [H.out]; rfl, below_three hW (Nat.le_refl _)⟩
set_option maxHeartbeats 1000000 in
set_option maxRecDepth 100000 in
theorem ref19_Of_k12 (s : ByteArray) (p : Int) (all : Bool) (hs : s.size ≤ 500000) (hp : Utf.place s.data.toList p = true) (w : World) :
    Calls Try.prog 8 #[.string s, .int .i64 p, .bool all, .string ⟨#[34]⟩] w fun e w' => e = .returned (res (thg s.data.toList p all [34])) ∧ Below w.heap.size w w' := by
  have hB := Blk.new w 24 #[.int .i64 0, .int .i64 0, .bool false]
  have hW := (Below.refl w.heap.size w).alloc (Nat.le_refl _) (.cells #[.int .i64 0, .int .i64 0, .bool false] 24)
  obtain ⟨q0, q1, q2, f0, f1, f2⟩ := row_three hB
  have C1 : Hid (∀ w, Calls Try.prog 10 #[.string ⟨#[34]⟩] w fun e w' => e = .returned (.bool true) ∧ Below w.heap.size w w') := Lib.hid (fun w => ref19_Has ⟨#[34]⟩ w)
  have CP := Lib.hid (fun w => ref_Place s p (by omega) w)
  rw [hp] at CP
  have H : Hid (res (thg s.data.toList p all [34]) = Thing.plain ((quo s.data.toList p 34).map (btw · all))) := by
    show _ = _
    rw [Thing.thg_at (j := 12) rfl hp]; rfl
  have CF : Hid (∀ w, Calls Try.prog 19 #[.string s, .int .i64 p, .bool all, .int .u8 (((⟨#[34]⟩ : ByteArray)[0]'(by decide)).toNat : Int)] w fun e w' => e = .returned (Thing.plain ((quo s.data.toList p 34).map (btw · all))) ∧ Below w.heap.size w w') := Lib.hid (fun w => ref19_quoted s p all 34 (by omega) hp w)
  obtain ⟨a, c, d, hd⟩ := Thing.plain_form ((quo s.data.toList p 34).map (btw · all))
  rw [hd] at CF H
  clear hp hd hs
  go_enter Try.func8, Try.ntmps8
  go_wp2_with (first
    | (go_at_call 10; (with_reducible refine (C1.out _).mono ?_); rintro e wn ⟨rfl, hbn⟩; replace hW := hW.trans (hbn.mono hW.size); replace hB := hB.below hbn hB.lt; clear q0 q1 q2 f0 f1 f2 hbn; obtain ⟨q0, q1, q2, f0, f1, f2⟩ := row_three hB)
    | (go_at_call 14; (with_reducible refine (CP.out _).mono ?_); rintro e wn ⟨rfl, hbn⟩; replace hW := hW.trans (hbn.mono hW.size); replace hB := hB.below hbn hB.lt; clear q0 q1 q2 f0 f1 f2 hbn; obtain ⟨q0, q1, q2, f0, f1, f2⟩ := row_three hB)
    | (go_at_call 19; (with_reducible refine (CF.out _).mono ?_); rintro e wn ⟨rfl, hbn⟩; replace hW := hW.trans (hbn.mono hW.size); replace hB := hB.below hbn hB.lt; clear q0 q1 q2 f0 f1 f2 hbn; obtain ⟨q0, q1, q2, f0, f1, f2⟩ := row_three hB))
  exact ret_three1 rfl rfl (three_row hB) rfl Try.underlying24 rfl ⟨by rw [H.out]; rfl, below_three hW (Nat.le_refl _)⟩
set_option maxHeartbeats 1000000 in
set_option maxRecDepth 100000 in
theorem ref19_Of_k13 (s : ByteArray) (p : Int) (all : Bool) (hs : s.size ≤ 500000) (hp : Utf.place s.data.toList p = true) (w : World) :
    Calls Try.prog 8 #[.string s, .int .i64 p, .bool all, .string ⟨#[39]⟩] w fun e w' => e = .returned (res (thg s.data.toList p all [39])) ∧ Below w.heap.size w w' := by
  have hB := Blk.new w 24 #[.int .i64 0, .int .i64 0, .bool false]
  have hW := (Below.refl w.heap.size w).alloc (Nat.le_refl _) (.cells #[.int .i64 0, .int .i64 0, .bool false] 24)
  obtain ⟨q0, q1, q2, f0, f1, f2⟩ := row_three hB
  have C1 : Hid (∀ w, Calls Try.prog 10 #[.string ⟨#[39]⟩] w fun e w' => e = .returned (.bool true) ∧ Below w.heap.size w w') := Lib.hid (fun w => ref19_Has ⟨#[39]⟩ w)
  have CP := Lib.hid (fun w => ref_Place s p (by omega) w)
  rw [hp] at CP
  have H : Hid (res (thg s.data.toList p all [39]) = Thing.plain ((quo s.data.toList p 39).map (btw · all))) := by
    show _ = _
    rw [Thing.thg_at (j := 13) rfl hp]; rfl
  have CF : Hid (∀ w, Calls Try.prog 19 #[.string s, .int .i64 p, .bool all, .int .u8 (((⟨#[39]⟩ : ByteArray)[0]'(by decide)).toNat : Int)] w fun e w' => e = .returned (Thing.plain ((quo s.data.toList p 39).map (btw · all))) ∧ Below w.heap.size w w') := Lib.hid (fun w => ref19_quoted s p all 39 (by omega) hp w)
  obtain ⟨a, c, d, hd⟩ := Thing.plain_form ((quo s.data.toList p 39).map (btw · all))
  rw [hd] at CF H
  clear hp hd hs
  go_enter Try.func8, Try.ntmps8
  go_wp2_with (first
    | (go_at_call 10; (with_reducible refine (C1.out _).mono ?_); rintro e wn ⟨rfl, hbn⟩; replace hW := hW.trans (hbn.mono hW.size); replace hB := hB.below hbn hB.lt; clear q0 q1 q2 f0 f1 f2 hbn; obtain ⟨q0, q1, q2, f0, f1, f2⟩ := row_three hB)
    | (go_at_call 14; (with_reducible refine (CP.out _).mono ?_); rintro e wn ⟨rfl, hbn⟩; replace hW := hW.trans (hbn.mono hW.size); replace hB := hB.below hbn hB.lt; clear q0 q1 q2 f0 f1 f2 hbn; obtain ⟨q0, q1, q2, f0, f1, f2⟩ := row_three hB)
    | (go_at_call 19; (with_reducible refine (CF.out _).mono ?_); rintro e wn ⟨rfl, hbn⟩; replace hW := hW.trans (hbn.mono hW.size); replace hB := hB.below hbn hB.lt; clear q0 q1 q2 f0 f1 f2 hbn; obtain ⟨q0, q1, q2, f0, f1, f2⟩ := row_three hB))
  exact ret_three1 rfl rfl (three_row hB) rfl Try.underlying24 rfl ⟨by rw [H.out]; rfl, below_three hW (Nat.le_refl _)⟩
set_option maxHeartbeats 1000000 in
set_option maxRecDepth 100000 in
theorem ref19_Of_k14 (s : ByteArray) (p : Int) (all : Bool) (hs : s.size ≤ 500000) (hp : Utf.place s.data.toList p = true) (w : World) :
    Calls Try.prog 8 #[.string s, .int .i64 p, .bool all, .string ⟨#[96]⟩] w fun e w' => e = .returned (res (thg s.data.toList p all [96])) ∧ Below w.heap.size w w' := by
  have hB := Blk.new w 24 #[.int .i64 0, .int .i64 0, .bool false]
  have hW := (Below.refl w.heap.size w).alloc (Nat.le_refl _) (.cells #[.int .i64 0, .int .i64 0, .bool false] 24)
  obtain ⟨q0, q1, q2, f0, f1, f2⟩ := row_three hB
  have C1 : Hid (∀ w, Calls Try.prog 10 #[.string ⟨#[96]⟩] w fun e w' => e = .returned (.bool true) ∧ Below w.heap.size w w') := Lib.hid (fun w => ref19_Has ⟨#[96]⟩ w)
  have CP := Lib.hid (fun w => ref_Place s p (by omega) w)
  rw [hp] at CP
  have H : Hid (res (thg s.data.toList p all [96]) = Thing.plain ((quo s.data.toList p 96).map (btw · all))) := by
    show _ = _
    rw [Thing.thg_at (j := 14) rfl hp]; rfl
  have CF : Hid (∀ w, Calls Try.prog 19 #[.string s, .int .i64 p, .bool all, .int .u8 (((⟨#[96]⟩ : ByteArray)[0]'(by decide)).toNat : Int)] w fun e w' => e = .returned (Thing.plain ((quo s.data.toList p 96).map (btw · all))) ∧ Below w.heap.size w w') := Lib.hid (fun w => ref19_quoted s p all 96 (by omega) hp w)
  obtain ⟨a, c, d, hd⟩ := Thing.plain_form ((quo s.data.toList p 96).map (btw · all))
  rw [hd] at CF H
  clear hp hd hs
  go_enter Try.func8, Try.ntmps8
  go_wp2_with (first
    | (go_at_call 10; (with_reducible refine (C1.out _).mono ?_); rintro e wn ⟨rfl, hbn⟩; replace hW := hW.trans (hbn.mono hW.size); replace hB := hB.below hbn hB.lt; clear q0 q1 q2 f0 f1 f2 hbn; obtain ⟨q0, q1, q2, f0, f1, f2⟩ := row_three hB)
    | (go_at_call 14; (with_reducible refine (CP.out _).mono ?_); rintro e wn ⟨rfl, hbn⟩; replace hW := hW.trans (hbn.mono hW.size); replace hB := hB.below hbn hB.lt; clear q0 q1 q2 f0 f1 f2 hbn; obtain ⟨q0, q1, q2, f0, f1, f2⟩ := row_three hB)
    | (go_at_call 19; (with_reducible refine (CF.out _).mono ?_); rintro e wn ⟨rfl, hbn⟩; replace hW := hW.trans (hbn.mono hW.size); replace hB := hB.below hbn hB.lt; clear q0 q1 q2 f0 f1 f2 hbn; obtain ⟨q0, q1, q2, f0, f1, f2⟩ := row_three hB))
  exact ret_three1 rfl rfl (three_row hB) rfl Try.underlying24 rfl ⟨by rw [H.out]; rfl, below_three hW (Nat.le_refl _)⟩
set_option maxHeartbeats 1000000 in
set_option maxRecDepth 100000 in
theorem ref19_Of_k15 (s : ByteArray) (p : Int) (all : Bool) (hs : s.size ≤ 500000) (hp : Utf.place s.data.toList p = true) (w : World) :
    Calls Try.prog 8 #[.string s, .int .i64 p, .bool all, .string ⟨#[112]⟩] w fun e w' => e = .returned (res (thg s.data.toList p all [112])) ∧ Below w.heap.size w w' := by
  have hB := Blk.new w 24 #[.int .i64 0, .int .i64 0, .bool false]
  have hW := (Below.refl w.heap.size w).alloc (Nat.le_refl _) (.cells #[.int .i64 0, .int .i64 0, .bool false] 24)
  obtain ⟨q0, q1, q2, f0, f1, f2⟩ := row_three hB
  have C1 : Hid (∀ w, Calls Try.prog 10 #[.string ⟨#[112]⟩] w fun e w' => e = .returned (.bool true) ∧ Below w.heap.size w w') := Lib.hid (fun w => ref19_Has ⟨#[112]⟩ w)
  have CP := Lib.hid (fun w => ref_Place s p (by omega) w)
  rw [hp] at CP
  have H : Hid (res (thg s.data.toList p all [112]) = res (some ((blk s.data.toList p all).1, (blk s.data.toList p all).2, true))) := by
    show _ = _
    rw [Thing.thg_at (j := 15) rfl hp]; rfl
  have c1 := Lib.hid (fun w => ref18_Block s p all (by omega) w)
  rw [Thing.lns_val all hp] at c1
  rw [Thing.res_some, show blk s.data.toList p all = (Line.start s.data.toList (lns s.data.toList p all).1, Line.stop s.data.toList (lns s.data.toList p all).2) from rfl] at H
  generalize lns s.data.toList p all = l at *
  obtain ⟨a, b⟩ := l
  dsimp only at c1 H
  have c2 := Lib.hid (fun w => ref4_Start s (a : Nat) (by omega) w)
  have c3 := Lib.hid (fun w => ref4_End s (b : Nat) (by omega) w)
  generalize Line.start s.data.toList (a : Nat) = u at *
  generalize Line.stop s.data.toList (b : Nat) = v at *
  clear hp hs
  go_enter Try.func8, Try.ntmps8
  go_wp2_with (first
    | (go_at_call 10; (with_reducible refine (C1.out _).mono ?_); rintro e wn ⟨rfl, hbn⟩; replace hW := hW.trans (hbn.mono hW.size); replace hB := hB.below hbn hB.lt; clear q0 q1 q2 f0 f1 f2 hbn; obtain ⟨q0, q1, q2, f0, f1, f2⟩ := row_three hB)
    | (go_at_call 14; (with_reducible refine (CP.out _).mono ?_); rintro e wn ⟨rfl, hbn⟩; replace hW := hW.trans (hbn.mono hW.size); replace hB := hB.below hbn hB.lt; clear q0 q1 q2 f0 f1 f2 hbn; obtain ⟨q0, q1, q2, f0, f1, f2⟩ := row_three hB)
    | (go_at_call 16; (with_reducible refine (c1.out _).mono ?_); rintro e wn ⟨rfl, hbn⟩; replace hW := hW.trans (hbn.mono hW.size); replace hB := hB.below hbn hB.lt; clear q0 q1 q2 f0 f1 f2 hbn; obtain ⟨q0, q1, q2, f0, f1, f2⟩ := row_three hB)
    | (go_at_call 17; (with_reducible refine (c2.out _).mono ?_); rintro e wn ⟨rfl, hbn⟩; replace hW := hW.trans (hbn.mono hW.size); replace hB := hB.below hbn hB.lt; clear q0 q1 q2 f0 f1 f2 hbn; obtain ⟨q0, q1, q2, f0, f1, f2⟩ := row_three hB)
    | (go_at_call 18; (with_reducible refine (c3.out _).mono ?_); rintro e wn ⟨rfl, hbn⟩; replace hW := hW.trans (hbn.mono hW.size); replace hB := hB.below hbn hB.lt; clear q0 q1 q2 f0 f1 f2 hbn; obtain ⟨q0, q1, q2, f0, f1, f2⟩ := row_three hB))
  exact ret_three1 rfl rfl (three_row hB) rfl Try.underlying24 rfl ⟨by rw [H.out]; rfl, below_three hW (Nat.le_refl _)⟩
theorem ref19_Of (s : ByteArray) (p : Int) (all : Bool) (key : ByteArray) (hs : s.size ≤ 500000) (w : World) :
    Calls Try.prog 8 #[.string s, .int .i64 p, .bool all, .string key] w fun e w' => e = .returned (res (thg s.data.toList p all key.data.toList)) ∧ Below w.heap.size w w' := by
  cases hm : num key.data.toList with
  | none => exact ref19_Of_none s p all key hm w
  | some j =>
    cases hp : Utf.place s.data.toList p with
    | false => exact ref19_Of_bad s p all key hs hm hp w
    | true =>
      have h := Thing.num_tab.1 hm
      clear hm
      rw [← bs_data key]
      generalize key.data.toList = l at *
      rw [bs_toList]
      unfold Thing.tab at h
      simp only [List.mem_cons, Prod.mk.injEq, List.not_mem_nil, or_false] at h
      rcases h with ⟨rfl, rfl⟩ | ⟨rfl, rfl⟩ | ⟨rfl, rfl⟩ | ⟨rfl, rfl⟩ | ⟨rfl, rfl⟩ | ⟨rfl, rfl⟩ | ⟨rfl, rfl⟩ | ⟨rfl, rfl⟩ | ⟨rfl, rfl⟩ | ⟨rfl, rfl⟩ | ⟨rfl, rfl⟩ | ⟨rfl, rfl⟩ | ⟨rfl, rfl⟩ | ⟨rfl, rfl⟩ | ⟨rfl, rfl⟩ | ⟨rfl, rfl⟩
      · exact ref19_Of_k0 s p all hs hp w
      · exact ref19_Of_k1 s p all hs hp w
      · exact ref19_Of_k2 s p all hs hp w
      · exact ref19_Of_k3 s p all hs hp w
      · exact ref19_Of_k4 s p all hs hp w
      · exact ref19_Of_k5 s p all hs hp w
      · exact ref19_Of_k6 s p all hs hp w
      · exact ref19_Of_k7 s p all hs hp w
      · exact ref19_Of_k8 s p all hs hp w
      · exact ref19_Of_k9 s p all hs hp w
      · exact ref19_Of_k10 s p all hs hp w
      · exact ref19_Of_k11 s p all hs hp w
      · exact ref19_Of_k12 s p all hs hp w
      · exact ref19_Of_k13 s p all hs hp w
      · exact ref19_Of_k14 s p all hs hp w
      · exact ref19_Of_k15 s p all hs hp w
end Go.Proofs.Ytohdijhpoddbbaa
