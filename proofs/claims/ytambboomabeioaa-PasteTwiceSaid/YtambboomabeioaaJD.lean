/-
  Package paste: how many bytes texts have, texts so many times.
-/
import Derived.Test.YtambboomabeioaaJP
import Derived.Test.YtambboomabeioaaStrs
import Derived.Test.YtambboomabeioaaDiffs
import Derived.Test.YtambboomabeioaaBuilderWrite
import Derived.Test.YtambboomabeioaaShelf
import Derived.Deep.RegionHeld3
import Derived.OwnWalk
import Derived.Test.YtambboomabeioaaLineClamp
import Derived.Test.YtambboomabeioaaUtfCounts
import Derived.Test.YtambboomabeioaaClassTurn
import Derived.Test.YtambboomabeioaaKeySign
import Derived.Test.YtambboomabeioaaStrFeed
import Derived.Test.YtambboomabeioaaFrame
namespace Go.Proofs.Ytambboomabeioaa
open Go.RowKit
namespace Pst
theorem flat_upto (xs : List ByteArray) (k : Nat) : (flat (xs.take k)).length ≤ (flat xs).length := by
  have e : flat xs = flat (xs.take k) ++ flat (xs.drop k) := by
    unfold flat
    rw [← List.flatMap_append, List.take_append_drop]
  rw [e, List.length_append]; omega
theorem flat_size (xs : List ByteArray) (k : Nat) (h : k < xs.length) : (flat (xs.take (k + 1))).length = (flat (xs.take k)).length + xs[k].size := by
  rw [flat_snoc xs k h, List.length_append, data_len]
end Pst
set_option maxHeartbeats 1000000 in
set_option maxRecDepth 100000 in
theorem paste_size {A : Option Addr} {c : Nat} {xs : List ByteArray} {w : World} (hx : Strs w A xs) (hl : (flat xs).length ≤ 100000000000) (hm : xs.length ≤ 1000) :
    Calls Try.prog 69 #[.slice A xs.length c] w fun e w' => e = .returned (.int .i64 (flat xs).length) ∧ w = w' := by
  have HU := Lib.hid (Pst.flat_upto xs)
  have HS := Lib.hid (Pst.flat_size xs)
  have h0 : (flat (xs.take 0)).length = 0 := rfl
  have hall : (flat (xs.take xs.length)).length = (flat xs).length := by rw [List.take_length]
  have HA := Lib.hid hall
  clear hall
  generalize (flat xs).length = L at *
  go_enter Try.func69, Try.ntmps69
  go_wp2
  go_loopw [3, 8] (fun nv iv wr => ∃ k m : Nat, k ≤ xs.length ∧ iv = .int .i64 k ∧ nv = .int .i64 m ∧ Hid ((flat (xs.take k)).length = m) ∧ w = wr) (fun _ iv _ => xs.length - (intOf iv).toNat)
  case atStart => exact ⟨0, 0, Nat.zero_le _, rfl, rfl, Lib.hid h0, rfl⟩
  case round =>
    obtain ⟨k, m, hk, rfl, rfl, hM, hw⟩ := hrel
    subst hw
    by_cases hlt : k < xs.length
    · obtain ⟨ad, rfl, h1⟩ := hx.at_ hlt
      have hF := HS.out k hlt
      have hle := HU.out (k + 1)
      rw [hM.out] at hF
      generalize xs[k] = s at h1 hF
      have HF := Lib.hid hF
      have hb : m + s.size ≤ 100000000000 := by omega
      clear hF hle
      go_wp2
      go_roundw
      case rel => exact ⟨k + 1, m + s.size, by omega, by go_num, by go_num, HF, by trivial⟩
      case measure => simp [intOf]; omega
    · obtain rfl : k = xs.length := by omega
      have e : m = L := by rw [← hM.out, HA.out]
      subst e
      go_wp2
      go_ret
      exact ⟨rfl, rfl⟩
set_option maxHeartbeats 2000000 in
set_option maxRecDepth 100000 in
theorem paste_times (n : Nat) {A : Option Addr} {c : Nat} {xs : List ByteArray} {w : World} (hx : Strs w A xs) (hl : n * (flat xs).length ≤ 100000000000) (hf : (flat xs).length ≤ 100000000000) (hm : xs.length ≤ 1000) (hn : n ≤ 1000000000) :
    Calls Try.prog 39 #[.int .i64 n, .slice A xs.length c] w fun e w' => e = .returned (.string (bs (Pst.reps n (flat xs)))) ∧ Below w.heap.size w w' := by
  have HS := Lib.hid (Pst.flat_size xs)
  have HN := Lib.hid (fun k h => flat_snoc xs k h)
  have HU := Lib.hid (Pst.flat_upto xs)
  have HT : Hid (flat (xs.take xs.length) = flat xs) := by show _ = _; rw [List.take_length]
  have HR : Hid (∀ r, r < n → (Pst.reps r (flat xs)).length + (flat xs).length ≤ 100000000000) := fun r hr => by
    rw [Pst.reps_length, ← Nat.succ_mul]
    exact Nat.le_trans (Nat.mul_le_mul_right _ hr) hl
  have C0 := fun u (hu : Below w.heap.size w u) => paste_size (c := c) (hx.below hu) hf hm
  have C1 := Lib.hid C0
  obtain ⟨M, hM⟩ : ∃ M, n * (flat xs).length = M := ⟨_, rfl⟩
  have hMl : M ≤ 281474976710656 := by omega
  have g1 : IntKind.i64.wrap ((n : Int) * ((flat xs).length : Int)) = (M : Int) := by rw [← hM, IntKind.wrap_i64, Int.natCast_mul]; rw [← Int.natCast_mul]; omega
  generalize hL : (flat xs).length = L at *
  clear C0 hM hL
  have hW0 := (Below.refl w.heap.size w).alloc (Nat.le_refl _) (.cells #[.pointer none, .slice none 0 0] 72)
  have G1 := Lib.hid (bd_grow w.heap.size w.heap.size M (w.alloc (.cells #[.pointer none, .slice none 0 0] 72)) (Nat.le_refl _) (Blk.new w _ _) (by simp) hMl)
  go_enter Try.func39, Try.ntmps39
  go_wp2_with (first
    | (go_at_call 69; (with_reducible refine (C1.out _ hW0).mono ?_); rintro e w1 ⟨rfl, rfl⟩)
    | (go_at_call 68; (with_reducible refine G1.out.mono ?_); rintro e w1 ⟨rfl, hbd, hb1⟩))
  have hW1 : Below w.heap.size w w1 := hW0.trans hb1
  clear C1 G1 hb1 hW0 g1 hMl
  go_loopw [14] (fun iv wr => ∃ r : Nat, r ≤ n ∧ iv = .int .i64 r ∧ Lib.BuilderAt 72 5 w.heap.size w.heap.size (.pointer (some ⟨w.heap.size, 0, none⟩)) (Lib.byteCells (Pst.reps r (flat xs))) wr ∧ Below w.heap.size w wr) (fun iv _ => n - (intOf iv).toNat)
  case atStart => exact ⟨0, Nat.zero_le _, rfl, hbd, hW1⟩
  case round =>
    obtain ⟨r, hr, rfl, hbr, hW⟩ := hrel
    clear hbd hW1
    by_cases hlt : r < n
    · have hroom := HR.out r hlt
      have HX : Hid (Pst.reps r (flat xs) ++ flat xs = Pst.reps (r + 1) (flat xs)) := (Pst.reps_snoc r (flat xs)).symm
      generalize Pst.reps r (flat xs) = P at *
      have hb0 : Lib.BuilderAt 72 5 w.heap.size w.heap.size (.pointer (some ⟨w.heap.size, 0, none⟩)) (Lib.byteCells (P ++ flat (xs.take 0))) wr := by
        rw [show flat (xs.take 0) = [] from rfl, List.append_nil]; exact hbr
      clear hbr
      go_wp2
      go_loopw [18] (fun kv wq => ∃ k : Nat, k ≤ xs.length ∧ kv = .int .i64 k ∧ Lib.BuilderAt 72 5 w.heap.size w.heap.size (.pointer (some ⟨w.heap.size, 0, none⟩)) (Lib.byteCells (P ++ flat (xs.take k))) wq ∧ Below w.heap.size w wq) (fun kv _ => xs.length - (intOf kv).toNat)
      case atStart => exact ⟨0, Nat.zero_le _, rfl, hb0, hW⟩
      case round =>
        obtain ⟨k, hk, rfl, hbq, hWq⟩ := hrel
        clear hb0 hW
        by_cases hkl : k < xs.length
        · obtain ⟨ad, rfl, h1⟩ := (hx.below hWq).at_ hkl
          have hF := HN.out k hkl
          have hZ := HS.out k hkl
          have hU := HU.out (k + 1)
          generalize xs[k] = s at h1 hF hZ
          have HC : Hid (Lib.byteCells (P ++ flat (xs.take k)) ++ Lib.strCells s = Lib.byteCells (P ++ flat (xs.take (k + 1)))) := by
            show _ = _
            rw [hF, ← List.append_assoc, byteCells_append (P ++ flat (xs.take k))]
            rfl
          have W1 := Lib.hid (bd_write_keeps w.heap.size w.heap.size (Lib.byteCells (P ++ flat (xs.take k))) s wr hbq (by rw [Lib.byteCells_length, List.length_append]; omega) hWq.size)
          clear hF hZ hU hbq
          go_wp2_with (go_at_call 70; (with_reducible refine W1.out.mono ?_); rintro e w4 ⟨rfl, hbd4, hb4, _⟩)
          go_roundw
          case rel => exact ⟨k + 1, by omega, by go_num, by rw [← HC.out]; exact hbd4, hWq.trans hb4⟩
          case measure => simp [intOf]; omega
        · obtain rfl : k = xs.length := by omega
          rw [HT.out, HX.out] at hbq
          go_wp2
          go_roundw
          case rel => exact ⟨r + 1, by omega, by go_num, hbq, hWq⟩
          case measure => simp [intOf]; omega
    · obtain rfl : r = n := by omega
      go_wp2_with (go_at_call 71; refine (Try.Builder_String_any w.heap.size w.heap.size (Pst.reps r (flat xs)) wr (Or.inr hbr) hW.size).mono ?_; rintro e w5 ⟨rfl, hb5⟩)
      go_ret
      exact ⟨rfl, hW.trans hb5⟩
end Go.Proofs.Ytambboomabeioaa
/-
  Package paste: texts in the place of others, if there is room.
-/
namespace Go.Proofs.Ytambboomabeioaa
open Go.RowKit
theorem strs_three (w : World) (x y z : ByteArray) : Strs (w.alloc (.cells #[.string x, .string y, .string z] 9)) (some ⟨w.heap.size, 0, none⟩) [x, y, z] := fun _ => by
  refine ⟨_, rfl, by simp, fun j v hv => ?_⟩
  have hb := Blk.new w 9 #[.string x, .string y, .string z]
  have e : (⟨w.heap.size, 0, none⟩ : Addr).add j = ⟨w.heap.size, j, none⟩ := by unfold Addr.add; split <;> simp_all
  rw [e, hb.cell]
  match j, hv with
  | 0, hv => simpa using hv
  | 1, hv => simpa using hv
  | 2, hv => simpa using hv
theorem flat_three (x y z : List UInt8) : flat [bs x, bs y, bs z] = x ++ (y ++ z) := by simp [flat, bs_toList]
theorem below_new {v w' : World} {o : Obj} (h : Below (v.alloc o).heap.size (v.alloc o) w') : Below v.heap.size v w' := ((Below.refl _ v).alloc (Nat.le_refl _) _).trans (h.mono (by simp))
theorem paste_times_three (x y z : List UInt8) (h : x.length + y.length + z.length ≤ 100000000000) (v : World) :
    Calls Try.prog 39 #[.int .i64 1, .slice (some ⟨v.heap.size, 0, none⟩) 3 3] (v.alloc (.cells #[.string (bs x), .string (bs y), .string (bs z)] 9)) fun e w' => e = .returned (.string (bs (x ++ (y ++ z)))) ∧ Below v.heap.size v w' := by
  have := paste_times 1 (c := 3) (strs_three v (bs x) (bs y) (bs z)) (by rw [flat_three]; simp only [List.length_append]; omega) (by rw [flat_three]; simp only [List.length_append]; omega) (by simp) (by decide)
  rw [flat_three, Pst.reps_one] at this
  refine this.mono ?_
  rintro e u ⟨rfl, hb⟩
  exact ⟨rfl, below_new hb⟩
set_option maxHeartbeats 1000000 in
set_option maxRecDepth 100000 in
theorem paste_replace_no (t : ByteArray) (a b n : Nat) {A : Option Addr} {c : Nat} {xs : List ByteArray} {w : World} (hx : Strs w A xs) (hab : a ≤ b) (hb : b ≤ t.size) (ht : t.size ≤ 100000000) (hm : xs.length ≤ 1000) (hn : 1 ≤ n) (h0 : 1 ≤ (flat xs).length) (hf : (flat xs).length ≤ 100000000) (h : 4096 + (b - a) < t.size + n * (flat xs).length) :
    Calls Try.prog 45 #[.string t, .int .i64 a, .int .i64 b, .int .i64 n, .slice A xs.length c] w fun e w' => e = .returned (.tuple #[.string ⟨#[]⟩, .int .i64 8]) ∧ w = w' := by
  have S1 := Lib.hid (paste_size (c := c) hx (by omega) hm)
  generalize (flat xs).length = L at *
  have hr := Pst.room (n := (n : Int)) (f := 4096 - ((t.size : Int) - ((b : Int) - (a : Int)))) (z := (L : Int)) (by omega) (by omega)
  have g0 : (4096 - ((t.size : Int) - ((b : Int) - (a : Int)))).tdiv (L : Int) < (n : Int) := hr.2 (by rw [← Int.natCast_mul]; omega)
  clear hr h
  go_enter Try.func45, Try.ntmps45
  go_wp2_with (go_at_call 69; (with_reducible refine S1.out.mono ?_); rintro e w1 ⟨rfl, rfl⟩)
  go_ret2
  exact ⟨rfl, rfl⟩
set_option maxHeartbeats 2000000 in
set_option maxRecDepth 100000 in
theorem paste_replace_ok (t : ByteArray) (a b n : Nat) {A : Option Addr} {c : Nat} {xs : List ByteArray} {w : World} (hx : Strs w A xs) (hab : a ≤ b) (hb : b ≤ t.size) (ht : t.size ≤ 100000000) (hm : xs.length ≤ 1000) (hn : 1 ≤ n) (h0 : 1 ≤ (flat xs).length) (h : t.size + n * (flat xs).length ≤ 4096 + (b - a)) :
    Calls Try.prog 45 #[.string t, .int .i64 a, .int .i64 b, .int .i64 n, .slice A xs.length c] w fun e w' => e = .returned (.tuple #[.string (bs (Pst.mid t.data.toList a b (Pst.reps n (flat xs)))), .int .i64 0]) ∧ Below w.heap.size w w' := by
  have hnn : n ≤ n * (flat xs).length := Nat.le_mul_of_pos_right n h0
  have hff : (flat xs).length ≤ n * (flat xs).length := Nat.le_mul_of_pos_left _ hn
  have S1 := Lib.hid (paste_size (c := c) hx (by omega) hm)
  have T1 : Hid (∀ u, Below w.heap.size w u → Calls Try.prog 39 #[.int .i64 n, .slice A xs.length c] u fun e w' => e = .returned (.string (bs (Pst.reps n (flat xs)))) ∧ Below u.heap.size u w') := fun u hu => paste_times n (hx.below hu) (by omega) (by omega) hm (by omega)
  have hl := data_len t
  have hml := Pst.mid_length (s := t.data.toList) (Pst.reps n (flat xs)) hab (by omega)
  rw [Pst.reps_length] at hml
  have hel := congrArg List.length (show Pst.mid t.data.toList a b (Pst.reps n (flat xs)) = t.data.toList.take a ++ (Pst.reps n (flat xs) ++ t.data.toList.drop b) from rfl)
  rw [List.length_append, List.length_append] at hel
  have T0 := paste_times_three (t.data.toList.take a) (Pst.reps n (flat xs)) (t.data.toList.drop b) (by omega)
  rw [show t.data.toList.take a ++ (Pst.reps n (flat xs) ++ t.data.toList.drop b) = Pst.mid t.data.toList a b (Pst.reps n (flat xs)) from rfl] at T0
  have T2 := Lib.hid T0
  clear hel T0
  have hr := Pst.room (n := (n : Int)) (f := 4096 - ((t.size : Int) - ((b : Int) - (a : Int)))) (z := ((flat xs).length : Int)) (by omega) (by omega)
  have g0 : ¬ (4096 - ((t.size : Int) - ((b : Int) - (a : Int)))).tdiv ((flat xs).length : Int) < (n : Int) := fun e => by have := hr.1 e; rw [← Int.natCast_mul] at this; omega
  have e1 := extract_to t a
  have e2 := extract_from t b
  have c1 : (a : Int) ≤ (t.size : Int) := by omega
  have c2 : (b : Int) ≤ (t.size : Int) := by omega
  have hL1 : (1 : Int) ≤ ((flat xs).length : Int) := by omega
  have hB := Below.refl w.heap.size w
  generalize (flat xs).length = L at *
  generalize bs (t.data.toList.take a) = X at *
  generalize bs (t.data.toList.drop b) = Z at *
  generalize bs (Pst.reps n (flat xs)) = Y at *
  generalize bs (Pst.mid t.data.toList a b (Pst.reps n (flat xs))) = R at *
  clear hr h hml hl hx
  go_enter Try.func45, Try.ntmps45
  go_wp2_with (go_at_call 69; (with_reducible refine S1.out.mono ?_); rintro e w1 ⟨rfl, rfl⟩)
  go_region_held3 (fun _ => True) (exact trivial)
    (first
      | (go_at_call 39; (with_reducible refine (T2.out _).mono ?_); rintro e u ⟨rfl, hbn⟩; replace hB := hB.trans (hbn.mono hB.size))
      | (go_at_call 39; (with_reducible refine (T1.out _ hB).mono ?_); rintro e u ⟨rfl, hbn⟩; replace hB := hB.trans (hbn.mono hB.size))
      | (go_at_call 39; (with_reducible refine (T1.out _ hB.drew).mono ?_); rintro e u ⟨rfl, hbn⟩; replace hB := hB.drew.trans (hbn.mono hB.drew.size)))
  all_goals go_wp2
  all_goals go_ret2
  all_goals exact ⟨rfl, hB⟩
end Go.Proofs.Ytambboomabeioaa
/-
  Package paste: letters flipped, runes put over others, registers put in.
-/
namespace Go.Proofs.Ytambboomabeioaa
open Go.RowKit
theorem Pst.feed_test (b : UInt8) : ((b.toNat : Int) == 10) = decide (b = 10) := by
  rw [Bool.eq_iff_iff, beq_iff_eq, decide_eq_true_iff]
  constructor
  · intro h
    have : b.toNat = (10 : UInt8).toNat := by show b.toNat = 10; omega
    exact UInt8.toNat_inj.1 this
  · rintro rfl; rfl
theorem Pst.offset_le (s : List UInt8) (k : Int) : Utf.offset s k ≤ s.length := by
  cases hd : Utf.dec s with
  | none => rw [Utf.offset_bad hd]; omega
  | some rs =>
    by_cases h : k < 0 ∨ (rs.length : Int) < k
    · rw [Utf.offset_past hd h]; omega
    · obtain ⟨n, rfl⟩ : ∃ n : Nat, k = n := ⟨k.toNat, by omega⟩
      rw [Utf.offset_at hd (by omega)]
      have := Utf.off_in hd n
      omega
theorem paste_ends (s : ByteArray) {x : Nat} (hx : x ≤ s.size) (w : World) :
    Calls Try.prog 35 #[.string s, .int .i64 x] w fun e w' => e = .returned (.bool (Span.ends s.data.toList x)) ∧ w = w' := by
  rcases Nat.lt_or_ge x s.size with h | h
  · have H : Hid (Span.ends s.data.toList x = decide (s[x] = 10)) := by
      show _ = _
      rw [Span.ends, byte_get s h, data_len, decide_eq_false (by omega)]
      simp
    have g0 := Pst.feed_test s[x]
    have g1 : ((x : Int) == (s.size : Int)) = false := by simp; omega
    generalize decide (s[x] = 10) = z at *
    go_enter Try.func35, Try.ntmps35
    go_wp2
    go_ret
    exact ⟨by rw [H.out]; rfl, rfl⟩
  · have H : Hid (Span.ends s.data.toList x = true) := by
      show _ = _
      rw [Span.ends, data_len, decide_eq_true (by omega)]; rfl
    have g1 : ((x : Int) == (s.size : Int)) = true := by simp; omega
    go_enter Try.func35, Try.ntmps35
    go_wp2
    go_ret
    exact ⟨by rw [H.out]; rfl, rfl⟩
set_option maxHeartbeats 2000000 in
set_option maxRecDepth 100000 in
theorem paste_behind (s : ByteArray) (p n : Int) (hp : Utf.place s.data.toList p = true) (hs : s.size ≤ 1000000000000) (w : World) :
    Calls Try.prog 36 #[.string s, .int .i64 p, .int .i64 n] w fun e w' => e = .returned (.int .i64 (Pst.behind s.data.toList p n)) ∧ Below w.heap.size w w' := by
  obtain ⟨a, k, x, rfl, hx, h1, h2, h3, he, hst, hsp⟩ := Line.place_line hp
  rw [data_len] at h3
  have O0 := fun w => line_Of s (a : Int) hs w
  rw [he] at O0
  have O1 := Lib.hid O0
  have E0 := fun w => line_End s (k : Int) hs w
  rw [← he, hsp, he] at E0
  have E1 := Lib.hid E0
  have hX := ext_seg s a x.2
  have F0 := fun w => utf_Offset (s.extract a x.2) n (by rw [ByteArray.size_extract]; omega) w
  rw [hX, bs_toList, ← hX] at F0
  have F1 := Lib.hid F0
  have hol := Pst.offset_le (Line.seg s.data.toList a x.2) n
  have hsl : (Line.seg s.data.toList a x.2).length ≤ s.size := by rw [Line.seg, List.length_drop, List.length_take, data_len]; omega
  have HV : Hid (Pst.behind s.data.toList a n = if Utf.offset (Line.seg s.data.toList a x.2) n < 0 then -1 else (a : Int) + Utf.offset (Line.seg s.data.toList a x.2) n) := by
    show _ = _
    rw [Pst.behind, hsp]; rfl
  generalize Utf.offset (Line.seg s.data.toList a x.2) n = z at *
  generalize x.2 = b at *
  have d1 : (0 : Int) ≤ (a : Int) := by omega
  have d2 : (a : Int) ≤ (b : Int) := by omega
  have d3 : (b : Int) ≤ (s.size : Int) := by omega
  have hB := Below.refl w.heap.size w
  clear hp hx he hst hsp O0 E0 F0 hX h1
  by_cases hz : z < 0
  · have HR : Hid (Pst.behind s.data.toList a n = -1) := by show _ = _; rw [HV.out, if_pos hz]
    go_enter Try.func36, Try.ntmps36
    go_wp2_with (first
      | (go_at_call 38; (with_reducible refine (O1.out _).mono ?_); rintro e u ⟨rfl, hbn⟩; replace hB := hB.trans (hbn.mono hB.size); clear hbn)
      | (go_at_call 37; (with_reducible refine (E1.out _).mono ?_); rintro e u ⟨rfl, hbn⟩; replace hB := hB.trans (hbn.mono hB.size); clear hbn)
      | (go_at_call 66; (with_reducible refine (F1.out _).mono ?_); rintro e u ⟨rfl, rfl⟩))
    go_ret
    exact ⟨by rw [HR.out]; rfl, hB⟩
  · have HR : Hid (Pst.behind s.data.toList a n = (a : Int) + z) := by show _ = _; rw [HV.out, if_neg hz]
    have g1 : IntKind.i64.wrap ((a : Int) + z) = (a : Int) + z := by rw [IntKind.wrap_i64]; omega
    go_enter Try.func36, Try.ntmps36
    go_wp2_with (first
      | (go_at_call 38; (with_reducible refine (O1.out _).mono ?_); rintro e u ⟨rfl, hbn⟩; replace hB := hB.trans (hbn.mono hB.size); clear hbn)
      | (go_at_call 37; (with_reducible refine (E1.out _).mono ?_); rintro e u ⟨rfl, hbn⟩; replace hB := hB.trans (hbn.mono hB.size); clear hbn)
      | (go_at_call 66; (with_reducible refine (F1.out _).mono ?_); rintro e u ⟨rfl, rfl⟩))
    go_ret
    exact ⟨by rw [HR.out]; rfl, hB⟩
set_option maxHeartbeats 2000000 in
set_option maxRecDepth 100000 in
theorem paste_Flip_arg (s : ByteArray) (p n : Int) (hs : s.size ≤ 100000000) (h : Utf.place s.data.toList p = false) (w : World) :
    Calls Try.prog 10 #[.string s, .int .i64 p, .int .i64 n] w fun e w' => e = .returned (Pst.val (Pst.no 1)) ∧ Below w.heap.size w w' := by
  rw [Pst.val_no]
  have P0 := fun w => utf_Place s p (by omega) w
  rw [h] at P0
  have P1 := Lib.hid P0
  have hB := Below.refl w.heap.size w
  clear P0 h
  go_enter Try.func10, Try.ntmps10
  go_wp2_with (first
    | (go_at_call 19; (with_reducible refine (P1.out _).mono ?_); rintro e u ⟨rfl, rfl⟩))
  go_ret3
  exact ⟨rfl, hB⟩
set_option maxHeartbeats 2000000 in
set_option maxRecDepth 100000 in
theorem paste_Flip_move (s : ByteArray) (p n : Int) (hs : s.size ≤ 100000000) (h : Utf.place s.data.toList p = true) (he : Span.ends s.data.toList p.toNat = true) (w : World) :
    Calls Try.prog 10 #[.string s, .int .i64 p, .int .i64 n] w fun e w' => e = .returned (Pst.val (Pst.no 10)) ∧ Below w.heap.size w w' := by
  rw [Pst.val_no]
  have P0 := fun w => utf_Place s p (by omega) w
  rw [h] at P0
  have P1 := Lib.hid P0
  obtain ⟨a, rfl, hal⟩ := Line.place_nat h
  rw [data_len] at hal
  have N0 := fun w => paste_ends s hal w
  rw [Int.toNat_natCast] at he
  rw [he] at N0
  have N1 := Lib.hid N0
  have hB := Below.refl w.heap.size w
  clear P0 N0 h he
  go_enter Try.func10, Try.ntmps10
  go_wp2_with (first
    | (go_at_call 19; (with_reducible refine (P1.out _).mono ?_); rintro e u ⟨rfl, rfl⟩)
    | (go_at_call 35; (with_reducible refine (N1.out _).mono ?_); rintro e u ⟨rfl, rfl⟩))
  go_ret3
  exact ⟨rfl, hB⟩
set_option maxHeartbeats 2000000 in
set_option maxRecDepth 100000 in
theorem paste_Flip_far (s : ByteArray) (p n : Int) (hs : s.size ≤ 100000000) (h : Utf.place s.data.toList p = true) (he : Span.ends s.data.toList p.toNat = false) (hb : Pst.behind s.data.toList p (max n 1) < 0) (w : World) :
    Calls Try.prog 10 #[.string s, .int .i64 p, .int .i64 n] w fun e w' => e = .returned (Pst.val (Pst.flipT s.data.toList p.toNat (Pst.reach s.data.toList p n).toNat, Line.clamp (Pst.flipT s.data.toList p.toNat (Pst.reach s.data.toList p n).toNat) (Pst.reach s.data.toList p n), 0)) ∧ Below w.heap.size w w' := by
  rw [Pst.val_mk]
  have K0 := fun w => paste_behind s p (max n 1) h (by omega) w
  have P0 := fun w => utf_Place s p (by omega) w
  rw [h] at P0
  have P1 := Lib.hid P0
  obtain ⟨a', b, hpa, hrb, hab, hbl, _⟩ := Pst.reach_ok h n
  obtain ⟨_, k, x, hpp, hx, _, _, _, hk, _, hsp⟩ := Line.place_line h
  clear hpp
  have hsb : Line.stop s.data.toList (Line.of_ s.data.toList p) = b := by rw [← hrb, Pst.reach, if_pos hb]
  have O0 := fun w => line_Of s p (by omega) w
  have E0 := fun w => line_End s (Line.of_ s.data.toList p) (by omega) w
  rw [hsb] at E0
  rw [hk] at O0 E0
  have O1 := Lib.hid O0
  have E1 := Lib.hid E0
  obtain ⟨a, rfl, hal⟩ := Line.place_nat h
  rw [data_len] at hal
  have N0 := fun w => paste_ends s hal w
  rw [Int.toNat_natCast] at he
  rw [he] at N0
  have N1 := Lib.hid N0
  obtain rfl : a' = a := by omega
  rw [hrb, Int.toNat_natCast, Int.toNat_natCast]
  rw [data_len] at hbl
  obtain ⟨q, hq⟩ : ∃ q, max n 1 = q := ⟨_, rfl⟩
  rw [hq] at K0
  rw [hq] at hb
  have K1 := Lib.hid K0
  have hX := ext_seg s a' b
  have e1 := extract_to s a'
  have e2 := extract_from s b
  obtain ⟨g1, g2, g3⟩ := Opr.three_parts (s := s.data.toList) hab (by rw [data_len]; exact hbl)
  have g4 := Class.turn_length Class.letter (Line.seg s.data.toList a' b)
  have g5 := congrArg List.length g1
  rw [List.length_append, List.length_append, data_len, g2, g3] at g5
  have F0 := fun w => class_Flip (bs (Line.seg s.data.toList a' b)) (by rw [bs_size]; omega) w
  rw [bs_toList] at F0
  have F1 := Lib.hid F0
  have T0 := paste_times_three (s.data.toList.take a') (Class.turn Class.letter (Line.seg s.data.toList a' b)) (s.data.toList.drop b) (by omega)
  rw [show s.data.toList.take a' ++ (Class.turn Class.letter (Line.seg s.data.toList a' b) ++ s.data.toList.drop b) = Pst.flipT s.data.toList a' b from rfl] at T0
  have T1 := Lib.hid T0
  have hfl := Pst.flip_length hab (by rw [data_len]; exact hbl)
  have C0 := fun w => line_Clamp (bs (Pst.flipT s.data.toList a' b)) (b : Int) (by rw [bs_size, hfl, data_len]; omega) w
  rw [bs_toList] at C0
  have C1 := Lib.hid C0
  generalize Line.clamp (Pst.flipT s.data.toList a' b) (b : Int) = z at *
  generalize bs (Pst.flipT s.data.toList a' b) = R at *
  generalize bs (Class.turn Class.letter (Line.seg s.data.toList a' b)) = Y at *
  generalize bs (Line.seg s.data.toList a' b) = V at *
  generalize bs (s.data.toList.take a') = X at *
  generalize bs (s.data.toList.drop b) = Z at *
  generalize Pst.behind s.data.toList a' q = u at *
  have c1 : (a' : Int) ≤ (b : Int) := by omega
  have c2 : (b : Int) ≤ (s.size : Int) := by omega
  have c3 : (a' : Int) ≤ (s.size : Int) := by omega
  have hB := Below.refl w.heap.size w
  clear P0 N0 K0 F0 T0 C0 h he g1 g2 g3 g4 g5 hfl hrb hpa O0 E0 hsb hk hsp hx
  go_enter Try.func10, Try.ntmps10
  go_wp2_with (first
    | (go_at_call 19; (with_reducible refine (P1.out _).mono ?_); rintro e u ⟨rfl, rfl⟩)
    | (go_at_call 35; (with_reducible refine (N1.out _).mono ?_); rintro e u ⟨rfl, rfl⟩)
    | (go_at_call 36; (with_reducible refine (K1.out _).mono ?_); rintro e u ⟨rfl, hbn⟩; replace hB := hB.trans (hbn.mono hB.size); clear hbn)
    | (go_at_call 38; (with_reducible refine (O1.out _).mono ?_); rintro e u ⟨rfl, hbn⟩; replace hB := hB.trans (hbn.mono hB.size); clear hbn)
    | (go_at_call 37; (with_reducible refine (E1.out _).mono ?_); rintro e u ⟨rfl, hbn⟩; replace hB := hB.trans (hbn.mono hB.size); clear hbn))
  go_region_held3 (fun _ => True) (exact trivial)
    (first
      | (go_at_call 39; (with_reducible refine (T1.out _).mono ?_); rintro e u ⟨rfl, hbn⟩; replace hB := hB.trans (hbn.mono hB.size); clear hbn)
      | (go_at_call 40; (with_reducible refine (F1.out _).mono ?_); rintro e u ⟨rfl, hbn⟩; (first | replace hB := hB.trans (hbn.mono hB.size) | replace hB := hB.drew.trans (hbn.mono hB.drew.size)); clear hbn))
  all_goals (go_wp2_with (go_at_call 41; (with_reducible refine (C1.out _).mono ?_); rintro e u ⟨rfl, hbn⟩; replace hB := hB.trans (hbn.mono hB.size); clear hbn))
  all_goals go_ret3
  all_goals exact ⟨rfl, hB⟩
set_option maxHeartbeats 2000000 in
set_option maxRecDepth 100000 in
theorem paste_Flip_near (s : ByteArray) (p n : Int) (hs : s.size ≤ 100000000) (h : Utf.place s.data.toList p = true) (he : Span.ends s.data.toList p.toNat = false) (hb : ¬ Pst.behind s.data.toList p (max n 1) < 0) (w : World) :
    Calls Try.prog 10 #[.string s, .int .i64 p, .int .i64 n] w fun e w' => e = .returned (Pst.val (Pst.flipT s.data.toList p.toNat (Pst.reach s.data.toList p n).toNat, Line.clamp (Pst.flipT s.data.toList p.toNat (Pst.reach s.data.toList p n).toNat) (Pst.reach s.data.toList p n), 0)) ∧ Below w.heap.size w w' := by
  rw [Pst.val_mk]
  have K0 := fun w => paste_behind s p (max n 1) h (by omega) w
  have P0 := fun w => utf_Place s p (by omega) w
  rw [h] at P0
  have P1 := Lib.hid P0
  obtain ⟨a', b, hpa, hrb, hab, hbl, _⟩ := Pst.reach_ok h n
  have hbb : Pst.behind s.data.toList p (max n 1) = b := by rw [← hrb, Pst.reach, if_neg hb]
  rw [hbb] at K0
  obtain ⟨a, rfl, hal⟩ := Line.place_nat h
  rw [data_len] at hal
  have N0 := fun w => paste_ends s hal w
  rw [Int.toNat_natCast] at he
  rw [he] at N0
  have N1 := Lib.hid N0
  obtain rfl : a' = a := by omega
  rw [hrb, Int.toNat_natCast, Int.toNat_natCast]
  rw [data_len] at hbl
  obtain ⟨q, hq⟩ : ∃ q, max n 1 = q := ⟨_, rfl⟩
  rw [hq] at K0
  have K1 := Lib.hid K0
  have hX := ext_seg s a' b
  have e1 := extract_to s a'
  have e2 := extract_from s b
  obtain ⟨g1, g2, g3⟩ := Opr.three_parts (s := s.data.toList) hab (by rw [data_len]; exact hbl)
  have g4 := Class.turn_length Class.letter (Line.seg s.data.toList a' b)
  have g5 := congrArg List.length g1
  rw [List.length_append, List.length_append, data_len, g2, g3] at g5
  have F0 := fun w => class_Flip (bs (Line.seg s.data.toList a' b)) (by rw [bs_size]; omega) w
  rw [bs_toList] at F0
  have F1 := Lib.hid F0
  have T0 := paste_times_three (s.data.toList.take a') (Class.turn Class.letter (Line.seg s.data.toList a' b)) (s.data.toList.drop b) (by omega)
  rw [show s.data.toList.take a' ++ (Class.turn Class.letter (Line.seg s.data.toList a' b) ++ s.data.toList.drop b) = Pst.flipT s.data.toList a' b from rfl] at T0
  have T1 := Lib.hid T0
  have hfl := Pst.flip_length hab (by rw [data_len]; exact hbl)
  have C0 := fun w => line_Clamp (bs (Pst.flipT s.data.toList a' b)) (b : Int) (by rw [bs_size, hfl, data_len]; omega) w
  rw [bs_toList] at C0
  have C1 := Lib.hid C0
  generalize Line.clamp (Pst.flipT s.data.toList a' b) (b : Int) = z at *
  generalize bs (Pst.flipT s.data.toList a' b) = R at *
  generalize bs (Class.turn Class.letter (Line.seg s.data.toList a' b)) = Y at *
  generalize bs (Line.seg s.data.toList a' b) = V at *
  generalize bs (s.data.toList.take a') = X at *
  generalize bs (s.data.toList.drop b) = Z at *
  have c1 : (a' : Int) ≤ (b : Int) := by omega
  have c2 : (b : Int) ≤ (s.size : Int) := by omega
  have c3 : (a' : Int) ≤ (s.size : Int) := by omega
  have hB := Below.refl w.heap.size w
  clear P0 N0 K0 F0 T0 C0 h he g1 g2 g3 g4 g5 hfl hrb hpa hbb hb
  go_enter Try.func10, Try.ntmps10
  go_wp2_with (first
    | (go_at_call 19; (with_reducible refine (P1.out _).mono ?_); rintro e u ⟨rfl, rfl⟩)
    | (go_at_call 35; (with_reducible refine (N1.out _).mono ?_); rintro e u ⟨rfl, rfl⟩)
    | (go_at_call 36; (with_reducible refine (K1.out _).mono ?_); rintro e u ⟨rfl, hbn⟩; replace hB := hB.trans (hbn.mono hB.size); clear hbn))
  go_region_held3 (fun _ => True) (exact trivial)
    (first
      | (go_at_call 39; (with_reducible refine (T1.out _).mono ?_); rintro e u ⟨rfl, hbn⟩; replace hB := hB.trans (hbn.mono hB.size); clear hbn)
      | (go_at_call 40; (with_reducible refine (F1.out _).mono ?_); rintro e u ⟨rfl, hbn⟩; (first | replace hB := hB.trans (hbn.mono hB.size) | replace hB := hB.drew.trans (hbn.mono hB.drew.size)); clear hbn))
  all_goals (go_wp2_with (go_at_call 41; (with_reducible refine (C1.out _).mono ?_); rintro e u ⟨rfl, hbn⟩; replace hB := hB.trans (hbn.mono hB.size); clear hbn))
  all_goals go_ret3
  all_goals exact ⟨rfl, hB⟩
theorem paste_Flip (s : ByteArray) (p n : Int) (hs : s.size ≤ 100000000) (w : World) :
    Calls Try.prog 10 #[.string s, .int .i64 p, .int .i64 n] w fun e w' => e = .returned (Pst.val (Pst.flip s.data.toList p n)) ∧ Below w.heap.size w w' := by
  rw [Pst.flip]
  cases h : Utf.place s.data.toList p with
  | false => rw [if_neg (by decide)]; exact paste_Flip_arg s p n hs h w
  | true =>
    rw [if_pos rfl]
    cases he : Span.ends s.data.toList p.toNat with
    | true => rw [if_pos rfl]; exact paste_Flip_move s p n hs h he w
    | false =>
      rw [if_neg (by decide)]
      by_cases hb : Pst.behind s.data.toList p (max n 1) < 0
      · exact paste_Flip_far s p n hs h he hb w
      · exact paste_Flip_near s p n hs h he hb w
end Go.Proofs.Ytambboomabeioaa
/-
  Package paste: runes put over others.
-/
namespace Go.Proofs.Ytambboomabeioaa
open Go.RowKit
theorem flat_one_bs (x : ByteArray) : flat [x] = x.data.toList := by simp [flat]
theorem Pst.key_tab {k : ByteArray} (h : k.data.toList = [9]) : (k.toList == [9]) = true ∧ (k.toList != [9]) = false := by
  have e : k.toList = [9] := (tl_data k).trans h
  rw [e]; exact ⟨rfl, rfl⟩
theorem Pst.key_not {k : ByteArray} (h : k.data.toList ≠ [9]) : (k.toList == [9]) = false ∧ (k.toList != [9]) = true := by
  have e : k.toList ≠ [9] := fun e => h ((tl_data k).symm.trans e)
  have g : (k.toList == [9]) = false := beq_eq_false_iff_ne.2 e
  exact ⟨g, by rw [bne, g]; rfl⟩
set_option maxHeartbeats 2000000 in
set_option maxRecDepth 100000 in
theorem paste_Over_arg (s : ByteArray) (p : Int) (k : ByteArray) (n : Int) (hs : s.size ≤ 100000000) (h : Utf.place s.data.toList p = false) (w : World) :
    Calls Try.prog 12 #[.string s, .int .i64 p, .string k, .int .i64 n] w fun e w' => e = .returned (Pst.val (Pst.no 1)) ∧ Below w.heap.size w w' := by
  rw [Pst.val_no]
  have P0 := fun w => utf_Place s p (by omega) w
  rw [h] at P0
  have P1 := Lib.hid P0
  have hB := Below.refl w.heap.size w
  clear P0 h
  go_enter Try.func12, Try.ntmps12
  go_wp2_with (first
    | (go_at_call 19; (with_reducible refine (P1.out _).mono ?_); rintro e u ⟨rfl, rfl⟩))
  go_ret3
  exact ⟨rfl, hB⟩
set_option maxHeartbeats 2000000 in
set_option maxRecDepth 100000 in
theorem paste_Over_key (s : ByteArray) (p : Int) (k : ByteArray) (n : Int) (hs : s.size ≤ 100000000) (hks : k.size ≤ 9223372036854775807) (h : Utf.place s.data.toList p = true) (hk9 : k.data.toList ≠ [9]) (hsg : (Utf.one k.data.toList && Key.sgn k.data.toList) = false) (w : World) :
    Calls Try.prog 12 #[.string s, .int .i64 p, .string k, .int .i64 n] w fun e w' => e = .returned (Pst.val (Pst.no 9)) ∧ Below w.heap.size w w' := by
  rw [Pst.val_no]
  have P0 := fun w => utf_Place s p (by omega) w
  rw [h] at P0
  have P1 := Lib.hid P0
  have S0 := fun w => key_Sign k hks w
  rw [hsg] at S0
  have S1 := Lib.hid S0
  obtain ⟨t1, t2⟩ := Pst.key_not hk9
  clear S0
  have hB := Below.refl w.heap.size w
  clear P0 h hk9 hsg hks
  go_enter Try.func12, Try.ntmps12
  go_wp2_with (first
    | (go_at_call 19; (with_reducible refine (P1.out _).mono ?_); rintro e u ⟨rfl, rfl⟩)
    | (go_at_call 44; (with_reducible refine (S1.out _).mono ?_); rintro e u ⟨rfl, hbn⟩; replace hB := hB.trans (hbn.mono hB.size); clear hbn))
  go_ret3
  exact ⟨rfl, hB⟩
set_option maxHeartbeats 2000000 in
set_option maxRecDepth 100000 in
theorem paste_Over_move_tab (s : ByteArray) (p : Int) (k : ByteArray) (n : Int) (hs : s.size ≤ 100000000) (h : Utf.place s.data.toList p = true) (hk9 : k.data.toList = [9]) (hb : Pst.behind s.data.toList p (max n 1) < 0) (w : World) :
    Calls Try.prog 12 #[.string s, .int .i64 p, .string k, .int .i64 n] w fun e w' => e = .returned (Pst.val (Pst.no 10)) ∧ Below w.heap.size w w' := by
  rw [Pst.val_no]
  have K0 := fun w => paste_behind s p (max n 1) h (by omega) w
  have P0 := fun w => utf_Place s p (by omega) w
  rw [h] at P0
  have P1 := Lib.hid P0
  obtain ⟨t1, t2⟩ := Pst.key_tab hk9
  obtain ⟨q, hq⟩ : ∃ q, max n 1 = q := ⟨_, rfl⟩
  rw [hq] at K0 hb
  have K1 := Lib.hid K0
  generalize Pst.behind s.data.toList p q = u at *
  have hB := Below.refl w.heap.size w
  clear P0 K0 h hk9
  go_enter Try.func12, Try.ntmps12
  go_wp2_with (first
    | (go_at_call 19; (with_reducible refine (P1.out _).mono ?_); rintro e u ⟨rfl, rfl⟩)
    | (go_at_call 36; (with_reducible refine (K1.out _).mono ?_); rintro e u ⟨rfl, hbn⟩; replace hB := hB.trans (hbn.mono hB.size); clear hbn))
  go_ret3
  exact ⟨rfl, hB⟩
set_option maxHeartbeats 2000000 in
set_option maxRecDepth 100000 in
theorem paste_Over_room_tab (s : ByteArray) (p : Int) (k : ByteArray) (n : Int) (hs : s.size ≤ 100000000) (h : Utf.place s.data.toList p = true) (hk9 : k.data.toList = [9]) (hb : ¬ Pst.behind s.data.toList p (max n 1) < 0) (hr : ¬ (Pst.overT s.data.toList p.toNat (Pst.behind s.data.toList p (max n 1)).toNat k.data.toList n).length ≤ 4096) (w : World) :
    Calls Try.prog 12 #[.string s, .int .i64 p, .string k, .int .i64 n] w fun e w' => e = .returned (Pst.val (Pst.no 8)) ∧ Below w.heap.size w w' := by
  rw [Pst.val_no]
  have K0 := fun w => paste_behind s p (max n 1) h (by omega) w
  have hkey : Pst.key k.data.toList = true := by rw [Pst.key, hk9, show ([9] : List UInt8) = [9] from rfl, decide_eq_true rfl, Bool.or_true]
  have P0 := fun w => utf_Place s p (by omega) w
  rw [h] at P0
  have P1 := Lib.hid P0
  obtain ⟨t1, t2⟩ := Pst.key_tab hk9
  have hq := Pst.often_int n
  have hm := Pst.often_pos n
  rw [← hq] at hb
  obtain ⟨a, b, rfl, hbb, hab, hbl, _⟩ := Pst.behind_ok h hb
  rw [← hq, hbb, Int.toNat_natCast, Int.toNat_natCast, Pst.overT] at hr
  rw [← hq, hbb] at K0
  have hml := Pst.mid_length (s := s.data.toList) (Pst.reps (Pst.often n) k.data.toList) hab hbl
  rw [data_len] at hbl
  rw [Pst.reps_length, data_len, data_len] at hml
  obtain ⟨h1, _, hk4⟩ := Pst.key_one hkey
  have hkp := Utf.one_pos h1
  rw [data_len] at hk4 hkp
  generalize Pst.often n = m at *
  have K1 := Lib.hid K0
  have R0 := fun v => paste_replace_no s a b m (c := 1) (strs_one v k) hab hbl hs (by simp) hm (by rw [flat_one_bs, data_len]; omega) (by rw [flat_one_bs, data_len]; omega) (by rw [flat_one_bs, data_len]; omega)
  have R1 : Hid (∀ v, Calls Try.prog 45 #[.string s, .int .i64 a, .int .i64 b, .int .i64 m, .slice (some ⟨v.heap.size, 0, none⟩) 1 1] (v.alloc (.cells #[.string k] 9)) fun e w' => e = .returned (.tuple #[.string ⟨#[]⟩, .int .i64 8]) ∧ Below v.heap.size v w') := fun v => (R0 v).mono (by rintro e u ⟨rfl, rfl⟩; exact ⟨rfl, (Below.refl _ v).alloc (Nat.le_refl _) _⟩)
  have hq2 := hq.symm
  have hB := Below.refl w.heap.size w
  clear P0 K0 R0 h hb hr hml hbb hk4 hkp h1 hkey hq hab hbl hm hs hk9
  go_enter Try.func12, Try.ntmps12
  go_wp2_with (first
    | (go_at_call 19; (with_reducible refine (P1.out _).mono ?_); rintro e u ⟨rfl, rfl⟩)
    | (go_at_call 36; (with_reducible refine (K1.out _).mono ?_); rintro e u ⟨rfl, hbn⟩; replace hB := hB.trans (hbn.mono hB.size); clear hbn)
    | (go_at_call 45; (with_reducible refine (R1.out _).mono ?_); rintro e u ⟨rfl, hbn⟩; replace hB := hB.trans (hbn.mono hB.size); clear hbn))
  go_ret3
  exact ⟨rfl, hB⟩
set_option maxHeartbeats 2000000 in
set_option maxRecDepth 100000 in
theorem paste_Over_ok_tab (s : ByteArray) (p : Int) (k : ByteArray) (n : Int) (hs : s.size ≤ 100000000) (h : Utf.place s.data.toList p = true) (hk9 : k.data.toList = [9]) (hb : ¬ Pst.behind s.data.toList p (max n 1) < 0) (hr : (Pst.overT s.data.toList p.toNat (Pst.behind s.data.toList p (max n 1)).toNat k.data.toList n).length ≤ 4096) (w : World) :
    Calls Try.prog 12 #[.string s, .int .i64 p, .string k, .int .i64 n] w fun e w' => e = .returned (Pst.val (Pst.overT s.data.toList p.toNat (Pst.behind s.data.toList p (max n 1)).toNat k.data.toList n, p + ((Pst.often n - 1) * k.data.toList.length : Nat), 0)) ∧ Below w.heap.size w w' := by
  rw [Pst.val_mk]
  have K0 := fun w => paste_behind s p (max n 1) h (by omega) w
  have hkey : Pst.key k.data.toList = true := by rw [Pst.key, hk9, show ([9] : List UInt8) = [9] from rfl, decide_eq_true rfl, Bool.or_true]
  have P0 := fun w => utf_Place s p (by omega) w
  rw [h] at P0
  have P1 := Lib.hid P0
  obtain ⟨t1, t2⟩ := Pst.key_tab hk9
  have hq := Pst.often_int n
  have hm := Pst.often_pos n
  rw [← hq] at hb
  obtain ⟨a, b, rfl, hbb, hab, hbl, _⟩ := Pst.behind_ok h hb
  rw [← hq, hbb, Int.toNat_natCast, Int.toNat_natCast, Pst.overT] at hr
  rw [← hq, hbb] at K0
  rw [← hq, hbb, Int.toNat_natCast, Int.toNat_natCast, Pst.overT]
  have hml := Pst.mid_length (s := s.data.toList) (Pst.reps (Pst.often n) k.data.toList) hab hbl
  rw [data_len] at hbl
  rw [Pst.reps_length, data_len, data_len] at hml
  obtain ⟨h1, _, hk4⟩ := Pst.key_one hkey
  have hkp := Utf.one_pos h1
  rw [data_len] at hk4 hkp
  rw [data_len]
  generalize Pst.often n = m at *
  have K1 := Lib.hid K0
  have R0 := fun v => paste_replace_ok s a b m (c := 1) (strs_one v k) hab hbl hs (by simp) hm (by rw [flat_one_bs, data_len]; omega) (by rw [flat_one_bs, data_len]; omega)
  rw [flat_one_bs] at R0
  have R1 : Hid (∀ v, Calls Try.prog 45 #[.string s, .int .i64 a, .int .i64 b, .int .i64 m, .slice (some ⟨v.heap.size, 0, none⟩) 1 1] (v.alloc (.cells #[.string k] 9)) fun e w' => e = .returned (.tuple #[.string (bs (Pst.mid s.data.toList a b (Pst.reps m k.data.toList))), .int .i64 0]) ∧ Below v.heap.size v w') := fun v => (R0 v).mono (by rintro e u ⟨rfl, hb⟩; exact ⟨rfl, below_new hb⟩)
  have hkm : m - 1 ≤ m * k.size := Nat.le_trans (Nat.sub_le _ _) (Nat.le_mul_of_pos_right m hkp)
  have hkn : (m - 1) * k.size ≤ m * k.size := Nat.mul_le_mul_right _ (Nat.sub_le _ _)
  have w1 : IntKind.i64.wrap ((m : Int) - 1) = ((m - 1 : Nat) : Int) := by rw [IntKind.wrap_i64]; omega
  have w2 : IntKind.i64.wrap (((m - 1 : Nat) : Int) * (k.size : Int)) = (((m - 1) * k.size : Nat) : Int) := by rw [IntKind.wrap_i64, ← Int.natCast_mul]; omega
  generalize bs (Pst.mid s.data.toList a b (Pst.reps m k.data.toList)) = R at *
  generalize (m - 1) * k.size = M at *
  generalize m - 1 = m' at *
  have w3 : IntKind.i64.wrap ((a : Int) + (M : Int)) = (a : Int) + (M : Int) := by rw [IntKind.wrap_i64]; omega
  have hq2 := hq.symm
  have hB := Below.refl w.heap.size w
  clear P0 K0 R0 h hb hr hml hbb hk4 hkp h1 hkey hq hab hbl hm hs hk9 hkm hkn
  go_enter Try.func12, Try.ntmps12
  go_wp2_with (first
    | (go_at_call 19; (with_reducible refine (P1.out _).mono ?_); rintro e u ⟨rfl, rfl⟩)
    | (go_at_call 36; (with_reducible refine (K1.out _).mono ?_); rintro e u ⟨rfl, hbn⟩; replace hB := hB.trans (hbn.mono hB.size); clear hbn)
    | (go_at_call 45; (with_reducible refine (R1.out _).mono ?_); rintro e u ⟨rfl, hbn⟩; replace hB := hB.trans (hbn.mono hB.size); clear hbn))
  go_ret3
  exact ⟨rfl, hB⟩
set_option maxHeartbeats 2000000 in
set_option maxRecDepth 100000 in
theorem paste_Over_move_sign (s : ByteArray) (p : Int) (k : ByteArray) (n : Int) (hs : s.size ≤ 100000000) (hks : k.size ≤ 9223372036854775807) (h : Utf.place s.data.toList p = true) (hk9 : k.data.toList ≠ [9]) (hsg : (Utf.one k.data.toList && Key.sgn k.data.toList) = true) (hb : Pst.behind s.data.toList p (max n 1) < 0) (w : World) :
    Calls Try.prog 12 #[.string s, .int .i64 p, .string k, .int .i64 n] w fun e w' => e = .returned (Pst.val (Pst.no 10)) ∧ Below w.heap.size w w' := by
  rw [Pst.val_no]
  have K0 := fun w => paste_behind s p (max n 1) h (by omega) w
  have P0 := fun w => utf_Place s p (by omega) w
  rw [h] at P0
  have P1 := Lib.hid P0
  have S0 := fun w => key_Sign k hks w
  rw [hsg] at S0
  have S1 := Lib.hid S0
  obtain ⟨t1, t2⟩ := Pst.key_not hk9
  clear S0
  obtain ⟨q, hq⟩ : ∃ q, max n 1 = q := ⟨_, rfl⟩
  rw [hq] at K0 hb
  have K1 := Lib.hid K0
  generalize Pst.behind s.data.toList p q = u at *
  have hB := Below.refl w.heap.size w
  clear P0 K0 h hk9 hks hsg
  go_enter Try.func12, Try.ntmps12
  go_wp2_with (first
    | (go_at_call 19; (with_reducible refine (P1.out _).mono ?_); rintro e u ⟨rfl, rfl⟩)
    | (go_at_call 44; (with_reducible refine (S1.out _).mono ?_); rintro e u ⟨rfl, hbn⟩; replace hB := hB.trans (hbn.mono hB.size); clear hbn)
    | (go_at_call 36; (with_reducible refine (K1.out _).mono ?_); rintro e u ⟨rfl, hbn⟩; replace hB := hB.trans (hbn.mono hB.size); clear hbn))
  go_ret3
  exact ⟨rfl, hB⟩
set_option maxHeartbeats 2000000 in
set_option maxRecDepth 100000 in
theorem paste_Over_room_sign (s : ByteArray) (p : Int) (k : ByteArray) (n : Int) (hs : s.size ≤ 100000000) (hks : k.size ≤ 9223372036854775807) (h : Utf.place s.data.toList p = true) (hk9 : k.data.toList ≠ [9]) (hsg : (Utf.one k.data.toList && Key.sgn k.data.toList) = true) (hb : ¬ Pst.behind s.data.toList p (max n 1) < 0) (hr : ¬ (Pst.overT s.data.toList p.toNat (Pst.behind s.data.toList p (max n 1)).toNat k.data.toList n).length ≤ 4096) (w : World) :
    Calls Try.prog 12 #[.string s, .int .i64 p, .string k, .int .i64 n] w fun e w' => e = .returned (Pst.val (Pst.no 8)) ∧ Below w.heap.size w w' := by
  rw [Pst.val_no]
  have K0 := fun w => paste_behind s p (max n 1) h (by omega) w
  have hkey : Pst.key k.data.toList = true := by rw [Pst.key, hsg]; rfl
  have P0 := fun w => utf_Place s p (by omega) w
  rw [h] at P0
  have P1 := Lib.hid P0
  have S0 := fun w => key_Sign k hks w
  rw [hsg] at S0
  have S1 := Lib.hid S0
  obtain ⟨t1, t2⟩ := Pst.key_not hk9
  clear S0
  have hq := Pst.often_int n
  have hm := Pst.often_pos n
  rw [← hq] at hb
  obtain ⟨a, b, rfl, hbb, hab, hbl, _⟩ := Pst.behind_ok h hb
  rw [← hq, hbb, Int.toNat_natCast, Int.toNat_natCast, Pst.overT] at hr
  rw [← hq, hbb] at K0
  have hml := Pst.mid_length (s := s.data.toList) (Pst.reps (Pst.often n) k.data.toList) hab hbl
  rw [data_len] at hbl
  rw [Pst.reps_length, data_len, data_len] at hml
  obtain ⟨h1, _, hk4⟩ := Pst.key_one hkey
  have hkp := Utf.one_pos h1
  rw [data_len] at hk4 hkp
  generalize Pst.often n = m at *
  have K1 := Lib.hid K0
  have R0 := fun v => paste_replace_no s a b m (c := 1) (strs_one v k) hab hbl hs (by simp) hm (by rw [flat_one_bs, data_len]; omega) (by rw [flat_one_bs, data_len]; omega) (by rw [flat_one_bs, data_len]; omega)
  have R1 : Hid (∀ v, Calls Try.prog 45 #[.string s, .int .i64 a, .int .i64 b, .int .i64 m, .slice (some ⟨v.heap.size, 0, none⟩) 1 1] (v.alloc (.cells #[.string k] 9)) fun e w' => e = .returned (.tuple #[.string ⟨#[]⟩, .int .i64 8]) ∧ Below v.heap.size v w') := fun v => (R0 v).mono (by rintro e u ⟨rfl, rfl⟩; exact ⟨rfl, (Below.refl _ v).alloc (Nat.le_refl _) _⟩)
  have hq2 := hq.symm
  have hB := Below.refl w.heap.size w
  clear P0 K0 R0 h hb hr hml hbb hk4 hkp h1 hkey hq hab hbl hm hs hk9 hks hsg
  go_enter Try.func12, Try.ntmps12
  go_wp2_with (first
    | (go_at_call 19; (with_reducible refine (P1.out _).mono ?_); rintro e u ⟨rfl, rfl⟩)
    | (go_at_call 44; (with_reducible refine (S1.out _).mono ?_); rintro e u ⟨rfl, hbn⟩; replace hB := hB.trans (hbn.mono hB.size); clear hbn)
    | (go_at_call 36; (with_reducible refine (K1.out _).mono ?_); rintro e u ⟨rfl, hbn⟩; replace hB := hB.trans (hbn.mono hB.size); clear hbn)
    | (go_at_call 45; (with_reducible refine (R1.out _).mono ?_); rintro e u ⟨rfl, hbn⟩; replace hB := hB.trans (hbn.mono hB.size); clear hbn))
  go_ret3
  exact ⟨rfl, hB⟩
set_option maxHeartbeats 2000000 in
set_option maxRecDepth 100000 in
theorem paste_Over_ok_sign (s : ByteArray) (p : Int) (k : ByteArray) (n : Int) (hs : s.size ≤ 100000000) (hks : k.size ≤ 9223372036854775807) (h : Utf.place s.data.toList p = true) (hk9 : k.data.toList ≠ [9]) (hsg : (Utf.one k.data.toList && Key.sgn k.data.toList) = true) (hb : ¬ Pst.behind s.data.toList p (max n 1) < 0) (hr : (Pst.overT s.data.toList p.toNat (Pst.behind s.data.toList p (max n 1)).toNat k.data.toList n).length ≤ 4096) (w : World) :
    Calls Try.prog 12 #[.string s, .int .i64 p, .string k, .int .i64 n] w fun e w' => e = .returned (Pst.val (Pst.overT s.data.toList p.toNat (Pst.behind s.data.toList p (max n 1)).toNat k.data.toList n, p + ((Pst.often n - 1) * k.data.toList.length : Nat), 0)) ∧ Below w.heap.size w w' := by
  rw [Pst.val_mk]
  have K0 := fun w => paste_behind s p (max n 1) h (by omega) w
  have hkey : Pst.key k.data.toList = true := by rw [Pst.key, hsg]; rfl
  have P0 := fun w => utf_Place s p (by omega) w
  rw [h] at P0
  have P1 := Lib.hid P0
  have S0 := fun w => key_Sign k hks w
  rw [hsg] at S0
  have S1 := Lib.hid S0
  obtain ⟨t1, t2⟩ := Pst.key_not hk9
  clear S0
  have hq := Pst.often_int n
  have hm := Pst.often_pos n
  rw [← hq] at hb
  obtain ⟨a, b, rfl, hbb, hab, hbl, _⟩ := Pst.behind_ok h hb
  rw [← hq, hbb, Int.toNat_natCast, Int.toNat_natCast, Pst.overT] at hr
  rw [← hq, hbb] at K0
  rw [← hq, hbb, Int.toNat_natCast, Int.toNat_natCast, Pst.overT]
  have hml := Pst.mid_length (s := s.data.toList) (Pst.reps (Pst.often n) k.data.toList) hab hbl
  rw [data_len] at hbl
  rw [Pst.reps_length, data_len, data_len] at hml
  obtain ⟨h1, _, hk4⟩ := Pst.key_one hkey
  have hkp := Utf.one_pos h1
  rw [data_len] at hk4 hkp
  rw [data_len]
  generalize Pst.often n = m at *
  have K1 := Lib.hid K0
  have R0 := fun v => paste_replace_ok s a b m (c := 1) (strs_one v k) hab hbl hs (by simp) hm (by rw [flat_one_bs, data_len]; omega) (by rw [flat_one_bs, data_len]; omega)
  rw [flat_one_bs] at R0
  have R1 : Hid (∀ v, Calls Try.prog 45 #[.string s, .int .i64 a, .int .i64 b, .int .i64 m, .slice (some ⟨v.heap.size, 0, none⟩) 1 1] (v.alloc (.cells #[.string k] 9)) fun e w' => e = .returned (.tuple #[.string (bs (Pst.mid s.data.toList a b (Pst.reps m k.data.toList))), .int .i64 0]) ∧ Below v.heap.size v w') := fun v => (R0 v).mono (by rintro e u ⟨rfl, hb⟩; exact ⟨rfl, below_new hb⟩)
  have hkm : m - 1 ≤ m * k.size := Nat.le_trans (Nat.sub_le _ _) (Nat.le_mul_of_pos_right m hkp)
  have hkn : (m - 1) * k.size ≤ m * k.size := Nat.mul_le_mul_right _ (Nat.sub_le _ _)
  have w1 : IntKind.i64.wrap ((m : Int) - 1) = ((m - 1 : Nat) : Int) := by rw [IntKind.wrap_i64]; omega
  have w2 : IntKind.i64.wrap (((m - 1 : Nat) : Int) * (k.size : Int)) = (((m - 1) * k.size : Nat) : Int) := by rw [IntKind.wrap_i64, ← Int.natCast_mul]; omega
  generalize bs (Pst.mid s.data.toList a b (Pst.reps m k.data.toList)) = R at *
  generalize (m - 1) * k.size = M at *
  generalize m - 1 = m' at *
  have w3 : IntKind.i64.wrap ((a : Int) + (M : Int)) = (a : Int) + (M : Int) := by rw [IntKind.wrap_i64]; omega
  have hq2 := hq.symm
  have hB := Below.refl w.heap.size w
  clear P0 K0 R0 h hb hr hml hbb hk4 hkp h1 hkey hq hab hbl hm hs hk9 hks hsg hkm hkn
  go_enter Try.func12, Try.ntmps12
  go_wp2_with (first
    | (go_at_call 19; (with_reducible refine (P1.out _).mono ?_); rintro e u ⟨rfl, rfl⟩)
    | (go_at_call 44; (with_reducible refine (S1.out _).mono ?_); rintro e u ⟨rfl, hbn⟩; replace hB := hB.trans (hbn.mono hB.size); clear hbn)
    | (go_at_call 36; (with_reducible refine (K1.out _).mono ?_); rintro e u ⟨rfl, hbn⟩; replace hB := hB.trans (hbn.mono hB.size); clear hbn)
    | (go_at_call 45; (with_reducible refine (R1.out _).mono ?_); rintro e u ⟨rfl, hbn⟩; replace hB := hB.trans (hbn.mono hB.size); clear hbn))
  go_ret3
  exact ⟨rfl, hB⟩
theorem paste_Over (s : ByteArray) (p : Int) (k : ByteArray) (n : Int) (hs : s.size ≤ 100000000) (hks : k.size ≤ 9223372036854775807) (w : World) :
    Calls Try.prog 12 #[.string s, .int .i64 p, .string k, .int .i64 n] w fun e w' => e = .returned (Pst.val (Pst.over s.data.toList p k.data.toList n)) ∧ Below w.heap.size w w' := by
  rw [Pst.over]
  cases h : Utf.place s.data.toList p with
  | false => rw [if_neg (by decide)]; exact paste_Over_arg s p k n hs h w
  | true =>
    rw [if_pos rfl, Pst.key]
    by_cases hk9 : k.data.toList = [9]
    · rw [decide_eq_true hk9, Bool.or_true, if_pos rfl]
      by_cases hb : Pst.behind s.data.toList p (max n 1) < 0
      · rw [if_pos hb]; exact paste_Over_move_tab s p k n hs h hk9 hb w
      · rw [if_neg hb]
        split
        · rename_i hr; exact paste_Over_ok_tab s p k n hs h hk9 hb hr w
        · rename_i hr; exact paste_Over_room_tab s p k n hs h hk9 hb hr w
    · rw [decide_eq_false hk9, Bool.or_false]
      cases hsg : (Utf.one k.data.toList && Key.sgn k.data.toList) with
      | false => rw [if_neg (by decide)]; exact paste_Over_key s p k n hs hks h hk9 hsg w
      | true =>
        rw [if_pos rfl]
        by_cases hb : Pst.behind s.data.toList p (max n 1) < 0
        · rw [if_pos hb]; exact paste_Over_move_sign s p k n hs hks h hk9 hsg hb w
        · rw [if_neg hb]
          split
          · rename_i hr; exact paste_Over_ok_sign s p k n hs hks h hk9 hsg hb hr w
          · rename_i hr; exact paste_Over_room_sign s p k n hs hks h hk9 hsg hb hr w
end Go.Proofs.Ytambboomabeioaa
/-
  Package paste: registers put in.
-/
namespace Go.Proofs.Ytambboomabeioaa
open Go.RowKit
theorem flat_two (x y : ByteArray) : flat [x, y] = x.data.toList ++ y.data.toList := by simp [flat]
theorem Pst.put_size {s : List UInt8} {p : Int} {x : List UInt8} {l ah : Bool} {n : Int} (h : Utf.place s p = true) (hf : Pst.fits s x l ah n) : (bs (Pst.putT s p x l ah n)).size ≤ 4096 := by
  obtain ⟨a, ha, hal, _⟩ := Pst.spot_place h l ah
  have := Pst.mid_length (s := s) (Pst.reps (Pst.often n) (Pst.once x l ah)) (Nat.le_refl a) hal
  rw [bs_size, Pst.putT, ha, Int.toNat_natCast]
  rw [Pst.reps_length] at this
  rw [Pst.fits] at hf
  omega
set_option maxHeartbeats 2000000 in
set_option maxRecDepth 100000 in
theorem paste_putLines_ahead_no (s : ByteArray) (p : Int) (x : ByteArray) (n : Int) (hs : s.size ≤ 100000000) (hxs : x.size ≤ 10000000) (h : Utf.place s.data.toList p = true) (hf : ¬ Pst.fits s.data.toList x.data.toList true true n) (w : World) :
    Calls Try.prog 21 #[.string s, .int .i64 p, .string x, .bool true, .int .i64 (Pst.often n : Nat)] w fun e w' => e = .returned (Pst.val (Pst.no 8)) ∧ Below w.heap.size w w' := by
  rw [Pst.val_no]
  have hm := Pst.often_pos n
  obtain ⟨a0, k, y, hpp, hy, h1, h2, h3, hk, hst, hsp⟩ := Line.place_line h
  have hkl := (List.getElem?_eq_some_iff.1 hy).1
  have hll := Line.L_length s.data.toList
  rw [data_len] at h3 hll
  have O0 := fun w => line_Of s p (by omega) w
  rw [hk] at O0
  have O1 := Lib.hid O0
  have S0 := fun w => line_Start s (k : Int) (by omega) w
  rw [← hk, hst, hk] at S0
  have S1 := Lib.hid S0
  have hfl : flat [x, ⟨#[10]⟩] = Pst.once x.data.toList true true := by rw [flat_two]; rfl
  have hol := Pst.once_length x.data.toList true true
  rw [if_pos rfl, data_len] at hol
  rw [Pst.fits, data_len] at hf
  have R0 := fun v => paste_replace_no s y.1 y.1 (Pst.often n) (c := 2) (strs_two v x ⟨#[10]⟩) (Nat.le_refl _) (by omega) hs (by simp) hm (by rw [hfl]; omega) (by rw [hfl]; omega) (by rw [hfl]; omega)
  have R1 : Hid (∀ v, Calls Try.prog 45 #[.string s, .int .i64 (y.1 : Nat), .int .i64 (y.1 : Nat), .int .i64 (Pst.often n : Nat), .slice (some ⟨v.heap.size, 0, none⟩) 2 2] (v.alloc (.cells #[.string x, .string ⟨#[10]⟩] 9)) fun e w' => e = .returned (.tuple #[.string ⟨#[]⟩, .int .i64 8]) ∧ Below v.heap.size v w') := fun v => (R0 v).mono (by rintro e u ⟨rfl, rfl⟩; exact ⟨rfl, (Below.refl _ v).alloc (Nat.le_refl _) _⟩)
  have w1 : IntKind.i64.wrap ((k : Int) + 1) = (k : Int) + 1 := by rw [IntKind.wrap_i64]; omega
  generalize Pst.often n = m at *
  have hB := Below.refl w.heap.size w
  clear h O0 S0 R0 hf hfl hol hst hsp hk hpp hy h1 h2 h3 hkl hll hm hs hxs
  generalize y.1 = y1 at *
  generalize y.2 = y2 at *
  go_enter Try.func21, Try.ntmps21
  go_wp2_with (first
    | (go_at_call 38; (with_reducible refine (O1.out _).mono ?_); rintro e u ⟨rfl, hbn⟩; (first | replace hB := hB.trans (hbn.mono hB.size) | replace hB := hB.trans ((below_new hbn).mono hB.size)); clear hbn)
    | (go_at_call 56; (with_reducible refine (S1.out _).mono ?_); rintro e u ⟨rfl, hbn⟩; (first | replace hB := hB.trans (hbn.mono hB.size) | replace hB := hB.trans ((below_new hbn).mono hB.size)); clear hbn)
    | (go_at_call 45; (with_reducible refine (R1.out _).mono ?_); rintro e u ⟨rfl, hbn⟩; (first | replace hB := hB.trans (hbn.mono hB.size) | replace hB := hB.trans ((below_new hbn).mono hB.size)); clear hbn))
  go_ret3
  exact ⟨rfl, hB⟩
set_option maxHeartbeats 2000000 in
set_option maxRecDepth 100000 in
theorem paste_putLines_ahead_ok (s : ByteArray) (p : Int) (x : ByteArray) (n : Int) (hs : s.size ≤ 100000000) (hxs : x.size ≤ 10000000) (h : Utf.place s.data.toList p = true) (hf : Pst.fits s.data.toList x.data.toList true true n) (w : World) :
    Calls Try.prog 21 #[.string s, .int .i64 p, .string x, .bool true, .int .i64 (Pst.often n : Nat)] w fun e w' => e = .returned (Pst.val (Pst.putT s.data.toList p x.data.toList true true n, Pst.putP s.data.toList p x.data.toList true true n, 0)) ∧ Below w.heap.size w w' := by
  rw [Pst.val_mk]
  have hm := Pst.often_pos n
  obtain ⟨a0, k, y, hpp, hy, h1, h2, h3, hk, hst, hsp⟩ := Line.place_line h
  have hkl := (List.getElem?_eq_some_iff.1 hy).1
  have hll := Line.L_length s.data.toList
  rw [data_len] at h3 hll
  have O0 := fun w => line_Of s p (by omega) w
  rw [hk] at O0
  have O1 := Lib.hid O0
  have S0 := fun w => line_Start s (k : Int) (by omega) w
  rw [← hk, hst, hk] at S0
  have S1 := Lib.hid S0
  have hfl : flat [x, ⟨#[10]⟩] = Pst.once x.data.toList true true := by rw [flat_two]; rfl
  have hol := Pst.once_length x.data.toList true true
  rw [if_pos rfl, data_len] at hol
  rw [Pst.fits, data_len] at hf
  have hts := Pst.put_size (x := x.data.toList) (l := true) (ah := true) (n := n) h (by rw [Pst.fits, data_len]; exact hf)
  have R0 := fun v => paste_replace_ok s y.1 y.1 (Pst.often n) (c := 2) (strs_two v x ⟨#[10]⟩) (Nat.le_refl _) (by omega) hs (by simp) hm (by rw [hfl]; omega) (by rw [hfl]; omega)
  have hT : Pst.putT s.data.toList p x.data.toList true true n = Pst.mid s.data.toList y.1 y.1 (Pst.reps (Pst.often n) (Pst.once x.data.toList true true)) := by rw [Pst.putT, Pst.spot, if_pos rfl, if_pos rfl, hst, Int.toNat_natCast]
  rw [hfl, ← hT] at R0
  have F0 := fun w => line_First (bs (Pst.putT s.data.toList p x.data.toList true true n)) (k : Int) (by omega) w
  rw [bs_toList] at F0
  have F1 := Lib.hid F0
  have hP : Pst.putP s.data.toList p x.data.toList true true n = Line.first (Pst.putT s.data.toList p x.data.toList true true n) (k : Int) := by rw [Pst.putP, if_pos rfl, if_pos rfl, hk]
  rw [hP]
  generalize Line.first (Pst.putT s.data.toList p x.data.toList true true n) (k : Int) = z at *
  have R1 : Hid (∀ v, Calls Try.prog 45 #[.string s, .int .i64 (y.1 : Nat), .int .i64 (y.1 : Nat), .int .i64 (Pst.often n : Nat), .slice (some ⟨v.heap.size, 0, none⟩) 2 2] (v.alloc (.cells #[.string x, .string ⟨#[10]⟩] 9)) fun e w' => e = .returned (.tuple #[.string (bs (Pst.putT s.data.toList p x.data.toList true true n)), .int .i64 0]) ∧ Below v.heap.size v w') := fun v => (R0 v).mono (by rintro e u ⟨rfl, hb⟩; exact ⟨rfl, below_new hb⟩)
  generalize bs (Pst.putT s.data.toList p x.data.toList true true n) = R at *
  have w1 : IntKind.i64.wrap ((k : Int) + 1) = (k : Int) + 1 := by rw [IntKind.wrap_i64]; omega
  generalize Pst.often n = m at *
  have hB := Below.refl w.heap.size w
  clear h O0 S0 R0 hf hfl hol hst hsp hk hpp hy h1 h2 h3 hkl hll hm hs hxs F0 hT hP hts
  generalize y.1 = y1 at *
  generalize y.2 = y2 at *
  go_enter Try.func21, Try.ntmps21
  go_wp2_with (first
    | (go_at_call 38; (with_reducible refine (O1.out _).mono ?_); rintro e u ⟨rfl, hbn⟩; (first | replace hB := hB.trans (hbn.mono hB.size) | replace hB := hB.trans ((below_new hbn).mono hB.size)); clear hbn)
    | (go_at_call 56; (with_reducible refine (S1.out _).mono ?_); rintro e u ⟨rfl, hbn⟩; (first | replace hB := hB.trans (hbn.mono hB.size) | replace hB := hB.trans ((below_new hbn).mono hB.size)); clear hbn)
    | (go_at_call 45; (with_reducible refine (R1.out _).mono ?_); rintro e u ⟨rfl, hbn⟩; (first | replace hB := hB.trans (hbn.mono hB.size) | replace hB := hB.trans ((below_new hbn).mono hB.size)); clear hbn)
    | (go_at_call 57; (with_reducible refine (F1.out _).mono ?_); rintro e u ⟨rfl, hbn⟩; (first | replace hB := hB.trans (hbn.mono hB.size) | replace hB := hB.trans ((below_new hbn).mono hB.size)); clear hbn))
  go_ret3
  exact ⟨rfl, hB⟩
set_option maxHeartbeats 2000000 in
set_option maxRecDepth 100000 in
theorem paste_putLines_behind_no (s : ByteArray) (p : Int) (x : ByteArray) (n : Int) (hs : s.size ≤ 100000000) (hxs : x.size ≤ 10000000) (h : Utf.place s.data.toList p = true) (hf : ¬ Pst.fits s.data.toList x.data.toList true false n) (w : World) :
    Calls Try.prog 21 #[.string s, .int .i64 p, .string x, .bool false, .int .i64 (Pst.often n : Nat)] w fun e w' => e = .returned (Pst.val (Pst.no 8)) ∧ Below w.heap.size w w' := by
  rw [Pst.val_no]
  have hm := Pst.often_pos n
  obtain ⟨a0, k, y, hpp, hy, h1, h2, h3, hk, hst, hsp⟩ := Line.place_line h
  have hkl := (List.getElem?_eq_some_iff.1 hy).1
  have hll := Line.L_length s.data.toList
  rw [data_len] at h3 hll
  have O0 := fun w => line_Of s p (by omega) w
  rw [hk] at O0
  have O1 := Lib.hid O0
  have S0 := fun w => line_Start s (k : Int) (by omega) w
  rw [← hk, hst, hk] at S0
  have S1 := Lib.hid S0
  have E0 := fun w => line_End s (k : Int) (by omega) w
  rw [← hk, hsp, hk] at E0
  have E1 := Lib.hid E0
  have hfl : flat [⟨#[10]⟩, x] = Pst.once x.data.toList true false := by rw [flat_two]; rfl
  have hol := Pst.once_length x.data.toList true false
  rw [if_pos rfl, data_len] at hol
  rw [Pst.fits, data_len] at hf
  have R0 := fun v => paste_replace_no s y.2 y.2 (Pst.often n) (c := 2) (strs_two v ⟨#[10]⟩ x) (Nat.le_refl _) (by omega) hs (by simp) hm (by rw [hfl]; omega) (by rw [hfl]; omega) (by rw [hfl]; omega)
  have R1 : Hid (∀ v, Calls Try.prog 45 #[.string s, .int .i64 (y.2 : Nat), .int .i64 (y.2 : Nat), .int .i64 (Pst.often n : Nat), .slice (some ⟨v.heap.size, 0, none⟩) 2 2] (v.alloc (.cells #[.string ⟨#[10]⟩, .string x] 9)) fun e w' => e = .returned (.tuple #[.string ⟨#[]⟩, .int .i64 8]) ∧ Below v.heap.size v w') := fun v => (R0 v).mono (by rintro e u ⟨rfl, rfl⟩; exact ⟨rfl, (Below.refl _ v).alloc (Nat.le_refl _) _⟩)
  have w1 : IntKind.i64.wrap ((k : Int) + 1) = (k : Int) + 1 := by rw [IntKind.wrap_i64]; omega
  generalize Pst.often n = m at *
  have hB := Below.refl w.heap.size w
  clear h O0 S0 R0 hf hfl hol hst hsp hk hpp hy h1 h2 h3 hkl hll hm hs hxs E0
  generalize y.1 = y1 at *
  generalize y.2 = y2 at *
  go_enter Try.func21, Try.ntmps21
  go_wp2_with (first
    | (go_at_call 38; (with_reducible refine (O1.out _).mono ?_); rintro e u ⟨rfl, hbn⟩; (first | replace hB := hB.trans (hbn.mono hB.size) | replace hB := hB.trans ((below_new hbn).mono hB.size)); clear hbn)
    | (go_at_call 56; (with_reducible refine (S1.out _).mono ?_); rintro e u ⟨rfl, hbn⟩; (first | replace hB := hB.trans (hbn.mono hB.size) | replace hB := hB.trans ((below_new hbn).mono hB.size)); clear hbn)
    | (go_at_call 37; (with_reducible refine (E1.out _).mono ?_); rintro e u ⟨rfl, hbn⟩; (first | replace hB := hB.trans (hbn.mono hB.size) | replace hB := hB.trans ((below_new hbn).mono hB.size)); clear hbn)
    | (go_at_call 45; (with_reducible refine (R1.out _).mono ?_); rintro e u ⟨rfl, hbn⟩; (first | replace hB := hB.trans (hbn.mono hB.size) | replace hB := hB.trans ((below_new hbn).mono hB.size)); clear hbn))
  go_ret3
  exact ⟨rfl, hB⟩
set_option maxHeartbeats 2000000 in
set_option maxRecDepth 100000 in
theorem paste_putLines_behind_ok (s : ByteArray) (p : Int) (x : ByteArray) (n : Int) (hs : s.size ≤ 100000000) (hxs : x.size ≤ 10000000) (h : Utf.place s.data.toList p = true) (hf : Pst.fits s.data.toList x.data.toList true false n) (w : World) :
    Calls Try.prog 21 #[.string s, .int .i64 p, .string x, .bool false, .int .i64 (Pst.often n : Nat)] w fun e w' => e = .returned (Pst.val (Pst.putT s.data.toList p x.data.toList true false n, Pst.putP s.data.toList p x.data.toList true false n, 0)) ∧ Below w.heap.size w w' := by
  rw [Pst.val_mk]
  have hm := Pst.often_pos n
  obtain ⟨a0, k, y, hpp, hy, h1, h2, h3, hk, hst, hsp⟩ := Line.place_line h
  have hkl := (List.getElem?_eq_some_iff.1 hy).1
  have hll := Line.L_length s.data.toList
  rw [data_len] at h3 hll
  have O0 := fun w => line_Of s p (by omega) w
  rw [hk] at O0
  have O1 := Lib.hid O0
  have S0 := fun w => line_Start s (k : Int) (by omega) w
  rw [← hk, hst, hk] at S0
  have S1 := Lib.hid S0
  have E0 := fun w => line_End s (k : Int) (by omega) w
  rw [← hk, hsp, hk] at E0
  have E1 := Lib.hid E0
  have hfl : flat [⟨#[10]⟩, x] = Pst.once x.data.toList true false := by rw [flat_two]; rfl
  have hol := Pst.once_length x.data.toList true false
  rw [if_pos rfl, data_len] at hol
  rw [Pst.fits, data_len] at hf
  have hts := Pst.put_size (x := x.data.toList) (l := true) (ah := false) (n := n) h (by rw [Pst.fits, data_len]; exact hf)
  have R0 := fun v => paste_replace_ok s y.2 y.2 (Pst.often n) (c := 2) (strs_two v ⟨#[10]⟩ x) (Nat.le_refl _) (by omega) hs (by simp) hm (by rw [hfl]; omega) (by rw [hfl]; omega)
  have hT : Pst.putT s.data.toList p x.data.toList true false n = Pst.mid s.data.toList y.2 y.2 (Pst.reps (Pst.often n) (Pst.once x.data.toList true false)) := by rw [Pst.putT, Pst.spot, if_pos rfl, if_neg (by decide), hsp, Int.toNat_natCast]
  rw [hfl, ← hT] at R0
  have F0 := fun w => line_First (bs (Pst.putT s.data.toList p x.data.toList true false n)) ((k : Int) + 1) (by omega) w
  rw [bs_toList] at F0
  have F1 := Lib.hid F0
  have hP : Pst.putP s.data.toList p x.data.toList true false n = Line.first (Pst.putT s.data.toList p x.data.toList true false n) ((k : Int) + 1) := by rw [Pst.putP, if_pos rfl, if_neg (by decide), hk]
  rw [hP]
  generalize Line.first (Pst.putT s.data.toList p x.data.toList true false n) ((k : Int) + 1) = z at *
  have R1 : Hid (∀ v, Calls Try.prog 45 #[.string s, .int .i64 (y.2 : Nat), .int .i64 (y.2 : Nat), .int .i64 (Pst.often n : Nat), .slice (some ⟨v.heap.size, 0, none⟩) 2 2] (v.alloc (.cells #[.string ⟨#[10]⟩, .string x] 9)) fun e w' => e = .returned (.tuple #[.string (bs (Pst.putT s.data.toList p x.data.toList true false n)), .int .i64 0]) ∧ Below v.heap.size v w') := fun v => (R0 v).mono (by rintro e u ⟨rfl, hb⟩; exact ⟨rfl, below_new hb⟩)
  generalize bs (Pst.putT s.data.toList p x.data.toList true false n) = R at *
  have w1 : IntKind.i64.wrap ((k : Int) + 1) = (k : Int) + 1 := by rw [IntKind.wrap_i64]; omega
  generalize Pst.often n = m at *
  have hB := Below.refl w.heap.size w
  clear h O0 S0 R0 hf hfl hol hst hsp hk hpp hy h1 h2 h3 hkl hll hm hs hxs E0 F0 hT hP hts
  generalize y.1 = y1 at *
  generalize y.2 = y2 at *
  go_enter Try.func21, Try.ntmps21
  go_wp2_with (first
    | (go_at_call 38; (with_reducible refine (O1.out _).mono ?_); rintro e u ⟨rfl, hbn⟩; (first | replace hB := hB.trans (hbn.mono hB.size) | replace hB := hB.trans ((below_new hbn).mono hB.size)); clear hbn)
    | (go_at_call 56; (with_reducible refine (S1.out _).mono ?_); rintro e u ⟨rfl, hbn⟩; (first | replace hB := hB.trans (hbn.mono hB.size) | replace hB := hB.trans ((below_new hbn).mono hB.size)); clear hbn)
    | (go_at_call 37; (with_reducible refine (E1.out _).mono ?_); rintro e u ⟨rfl, hbn⟩; (first | replace hB := hB.trans (hbn.mono hB.size) | replace hB := hB.trans ((below_new hbn).mono hB.size)); clear hbn)
    | (go_at_call 45; (with_reducible refine (R1.out _).mono ?_); rintro e u ⟨rfl, hbn⟩; (first | replace hB := hB.trans (hbn.mono hB.size) | replace hB := hB.trans ((below_new hbn).mono hB.size)); clear hbn)
    | (go_at_call 57; (with_reducible refine (F1.out _).mono ?_); rintro e u ⟨rfl, hbn⟩; (first | replace hB := hB.trans (hbn.mono hB.size) | replace hB := hB.trans ((below_new hbn).mono hB.size)); clear hbn))
  go_ret3
  exact ⟨rfl, hB⟩
theorem paste_putLines (s : ByteArray) (p : Int) (x : ByteArray) (n : Int) (hs : s.size ≤ 100000000) (hxs : x.size ≤ 10000000) (ah : Bool) (h : Utf.place s.data.toList p = true) (w : World) :
    Calls Try.prog 21 #[.string s, .int .i64 p, .string x, .bool ah, .int .i64 (Pst.often n : Nat)] w fun e w' => e = .returned (Pst.val (if Pst.fits s.data.toList x.data.toList true ah n then (Pst.putT s.data.toList p x.data.toList true ah n, Pst.putP s.data.toList p x.data.toList true ah n, 0) else Pst.no 8)) ∧ Below w.heap.size w w' := by
  split
  · rename_i hf
    cases ah with
    | true => exact paste_putLines_ahead_ok s p x n hs hxs h hf w
    | false => exact paste_putLines_behind_ok s p x n hs hxs h hf w
  · rename_i hf
    cases ah with
    | true => exact paste_putLines_ahead_no s p x n hs hxs h hf w
    | false => exact paste_putLines_behind_no s p x n hs hxs h hf w
/-- The box of a register. -/
structure GBox (w u : World) (nm : Int) (l : Bool) (x : ByteArray) : Prop where
  below : Below w.heap.size w u
  blk : Blk u w.heap.size 23 #[.int .i64 nm, .bool l, .string x]
theorem GBox.drew {w u : World} {nm : Int} {l : Bool} {x : ByteArray} (h : GBox w u nm l x) : GBox w u.drew nm l x := ⟨h.below.trans ((below_gb (gb_drew u none)).mono h.below.size), h.blk⟩
theorem GBox.on {w u v : World} {nm : Int} {l : Bool} {x : ByteArray} (h : GBox w u nm l x) (hb : Below u.heap.size u v) : GBox w v nm l x := ⟨h.below.trans (hb.mono h.below.size), h.blk.below hb h.blk.lt⟩
theorem GBox.ond {w u v : World} {nm : Int} {l : Bool} {x : ByteArray} (h : GBox w u nm l x) (hb : Below u.drew.heap.size u.drew v) : GBox w v nm l x := h.drew.on hb
theorem GBox.cells {w u : World} {nm : Int} {l : Bool} {x : ByteArray} (h : GBox w u nm l x) : u.cell? ⟨w.heap.size, 1, none⟩ = some (.bool l) ∧ u.cell? ⟨w.heap.size, 2, none⟩ = some (.string x) := ⟨h.blk.cell 1, h.blk.cell 2⟩
theorem GBox.new (w : World) (nm : Int) (l : Bool) (x : ByteArray) : GBox w (w.alloc (.cells #[.int .i64 nm, .bool l, .string x] 23)) nm l x := ⟨(Below.refl _ w).alloc (Nat.le_refl _) _, Blk.new _ _ _⟩
theorem GBox.all {w u : World} {nm : Int} {l : Bool} {x : ByteArray} (h : GBox w u nm l x) : u.cell? ⟨w.heap.size, 0, none⟩ = some (.int .i64 nm) ∧ u.cell? ⟨w.heap.size, 1, none⟩ = some (.bool l) ∧ u.cell? ⟨w.heap.size, 2, none⟩ = some (.string x) := ⟨h.blk.cell 0, h.blk.cell 1, h.blk.cell 2⟩
theorem GBox.alloc {w u : World} {nm : Int} {l : Bool} {x : ByteArray} (h : GBox w u nm l x) (o : Obj) : GBox w (u.alloc o) nm l x := ⟨h.below.alloc h.below.size o, h.blk.alloc o⟩
set_option maxHeartbeats 2000000 in
set_option maxRecDepth 100000 in
theorem paste_putRunes_ahead_no (s : ByteArray) (p : Int) (x : ByteArray) (n : Int) (hs : s.size ≤ 100000000) (hxs : x.size ≤ 10000000) (h : Utf.place s.data.toList p = true) (h0 : x.data.toList ≠ []) (hf : ¬ Pst.fits s.data.toList x.data.toList false true n) (w : World) :
    Calls Try.prog 22 #[.string s, .int .i64 p, .string x, .bool true, .int .i64 (Pst.often n : Nat)] w fun e w' => e = .returned (Pst.val (Pst.no 8)) ∧ Below w.heap.size w w' := by
  rw [Pst.val_no]
  have hm := Pst.often_pos n
  obtain ⟨a, ha, hal, hap⟩ := Pst.spot_place h false true
  have hsp : Pst.spot s.data.toList p false true = p := by rw [Pst.spot, if_neg (by decide), if_pos (Or.inl rfl)]
  have hol := Pst.once_length x.data.toList false true
  rw [if_neg (by decide), data_len, Nat.add_zero] at hol
  have hfl : flat [x] = Pst.once x.data.toList false true := flat_one_bs x
  have hx1 : 1 ≤ x.size := by rw [← data_len]; exact List.length_pos_iff.2 h0
  rw [data_len] at hal
  rw [Pst.fits, data_len, hol] at hf
  have R0 := fun v => paste_replace_no s a a (Pst.often n) (c := 1) (strs_one v x) (Nat.le_refl _) hal hs (by simp) hm (by rw [hfl]; omega) (by rw [hfl]; omega) (by rw [hfl, hol]; omega)
  rw [← ha, hsp] at R0
  have R1 : Hid (∀ v, Calls Try.prog 45 #[.string s, .int .i64 p, .int .i64 p, .int .i64 (Pst.often n : Nat), .slice (some ⟨v.heap.size, 0, none⟩) 1 1] (v.alloc (.cells #[.string x] 9)) fun e w' => e = .returned (.tuple #[.string ⟨#[]⟩, .int .i64 8]) ∧ Below v.heap.size v w') := fun v => (R0 v).mono (by rintro e u ⟨rfl, rfl⟩; exact ⟨rfl, (Below.refl _ v).alloc (Nat.le_refl _) _⟩)
  generalize Pst.often n = m at *
  have hB := Below.refl w.heap.size w
  clear h h0 hm ha hal hap hsp hol hfl hx1 hf R0 hs hxs
  go_enter Try.func22, Try.ntmps22
  go_wp2_with (first
    | (go_at_call 45; (with_reducible refine (R1.out _).mono ?_); rintro e u ⟨rfl, hbn⟩; (first | replace hB := hB.trans (hbn.mono hB.size) | replace hB := hB.trans ((below_new hbn).mono hB.size)); clear hbn))
  go_ret3
  exact ⟨rfl, hB⟩
set_option maxHeartbeats 2000000 in
set_option maxRecDepth 100000 in
theorem paste_putRunes_ahead_feed (s : ByteArray) (p : Int) (x : ByteArray) (n : Int) (hs : s.size ≤ 100000000) (hxs : x.size ≤ 10000000) (h : Utf.place s.data.toList p = true) (h0 : x.data.toList ≠ []) (hf : Pst.fits s.data.toList x.data.toList false true n) (h10 : (10 : UInt8) ∈ x.data.toList) (w : World) :
    Calls Try.prog 22 #[.string s, .int .i64 p, .string x, .bool true, .int .i64 (Pst.often n : Nat)] w fun e w' => e = .returned (Pst.val (Pst.putT s.data.toList p x.data.toList false true n, Pst.putP s.data.toList p x.data.toList false true n, 0)) ∧ Below w.heap.size w w' := by
  rw [Pst.val_mk]
  have hm := Pst.often_pos n
  obtain ⟨a, ha, hal, hap⟩ := Pst.spot_place h false true
  have hsp : Pst.spot s.data.toList p false true = p := by rw [Pst.spot, if_neg (by decide), if_pos (Or.inl rfl)]
  have hol := Pst.once_length x.data.toList false true
  rw [if_neg (by decide), data_len, Nat.add_zero] at hol
  have hfl : flat [x] = Pst.once x.data.toList false true := flat_one_bs x
  have hx1 : 1 ≤ x.size := by rw [← data_len]; exact List.length_pos_iff.2 h0
  rw [data_len] at hal
  rw [Pst.fits, data_len, hol] at hf
  have hts := Pst.put_size (x := x.data.toList) (l := false) (ah := true) (n := n) h (by rw [Pst.fits, data_len, hol]; exact hf)
  have R0 := fun v => paste_replace_ok s a a (Pst.often n) (c := 1) (strs_one v x) (Nat.le_refl _) hal hs (by simp) hm (by rw [hfl]; omega) (by rw [hfl, hol]; omega)
  have hT : Pst.putT s.data.toList p x.data.toList false true n = Pst.mid s.data.toList a a (Pst.reps (Pst.often n) (Pst.once x.data.toList false true)) := by rw [Pst.putT, ha, Int.toNat_natCast]
  rw [hfl, ← hT] at R0
  rw [← ha, hsp] at R0
  have R1 : Hid (∀ v, Calls Try.prog 45 #[.string s, .int .i64 p, .int .i64 p, .int .i64 (Pst.often n : Nat), .slice (some ⟨v.heap.size, 0, none⟩) 1 1] (v.alloc (.cells #[.string x] 9)) fun e w' => e = .returned (.tuple #[.string (bs (Pst.putT s.data.toList p x.data.toList false true n)), .int .i64 0]) ∧ Below v.heap.size v w') := fun v => (R0 v).mono (by rintro e u ⟨rfl, hb⟩; exact ⟨rfl, below_new hb⟩)
  have G0 := fun w => str_feed x w
  rw [decide_eq_true h10] at G0
  have G1 := Lib.hid G0
  have F0 := fun w => line_Clamp (bs (Pst.putT s.data.toList p x.data.toList false true n)) p (by omega) w
  rw [bs_toList] at F0
  have F1 := Lib.hid F0
  have hP : Pst.putP s.data.toList p x.data.toList false true n = Line.clamp (Pst.putT s.data.toList p x.data.toList false true n) p := by rw [Pst.putP, if_neg (by decide), if_pos h10, hsp]
  rw [hP]
  generalize Line.clamp (Pst.putT s.data.toList p x.data.toList false true n) p = z at *
  generalize bs (Pst.putT s.data.toList p x.data.toList false true n) = R at *
  generalize Pst.often n = m at *
  have hB := Below.refl w.heap.size w
  clear h h0 hm ha hal hap hsp hol hfl hx1 hf R0 hs hxs hts hT G0 F0 hP h10
  go_enter Try.func22, Try.ntmps22
  go_wp2_with (first
    | (go_at_call 45; (with_reducible refine (R1.out _).mono ?_); rintro e u ⟨rfl, hbn⟩; (first | replace hB := hB.trans (hbn.mono hB.size) | replace hB := hB.trans ((below_new hbn).mono hB.size)); clear hbn)
    | (go_at_call 58; (with_reducible refine (G1.out _).mono ?_); rintro e u ⟨rfl, rfl⟩)
    | (go_at_call 41; (with_reducible refine (F1.out _).mono ?_); rintro e u ⟨rfl, hbn⟩; (first | replace hB := hB.trans (hbn.mono hB.size) | replace hB := hB.trans ((below_new hbn).mono hB.size)); clear hbn))
  go_ret3
  exact ⟨rfl, hB⟩
set_option maxHeartbeats 2000000 in
set_option maxRecDepth 100000 in
theorem paste_putRunes_ahead_plain (s : ByteArray) (p : Int) (x : ByteArray) (n : Int) (hs : s.size ≤ 100000000) (hxs : x.size ≤ 10000000) (h : Utf.place s.data.toList p = true) (h0 : x.data.toList ≠ []) (hf : Pst.fits s.data.toList x.data.toList false true n) (h10 : ¬ (10 : UInt8) ∈ x.data.toList) (w : World) :
    Calls Try.prog 22 #[.string s, .int .i64 p, .string x, .bool true, .int .i64 (Pst.often n : Nat)] w fun e w' => e = .returned (Pst.val (Pst.putT s.data.toList p x.data.toList false true n, Pst.putP s.data.toList p x.data.toList false true n, 0)) ∧ Below w.heap.size w w' := by
  rw [Pst.val_mk]
  have hm := Pst.often_pos n
  obtain ⟨a, ha, hal, hap⟩ := Pst.spot_place h false true
  have hsp : Pst.spot s.data.toList p false true = p := by rw [Pst.spot, if_neg (by decide), if_pos (Or.inl rfl)]
  have hol := Pst.once_length x.data.toList false true
  rw [if_neg (by decide), data_len, Nat.add_zero] at hol
  have hfl : flat [x] = Pst.once x.data.toList false true := flat_one_bs x
  have hx1 : 1 ≤ x.size := by rw [← data_len]; exact List.length_pos_iff.2 h0
  rw [data_len] at hal
  rw [Pst.fits, data_len, hol] at hf
  have hts := Pst.put_size (x := x.data.toList) (l := false) (ah := true) (n := n) h (by rw [Pst.fits, data_len, hol]; exact hf)
  have R0 := fun v => paste_replace_ok s a a (Pst.often n) (c := 1) (strs_one v x) (Nat.le_refl _) hal hs (by simp) hm (by rw [hfl]; omega) (by rw [hfl, hol]; omega)
  have hT : Pst.putT s.data.toList p x.data.toList false true n = Pst.mid s.data.toList a a (Pst.reps (Pst.often n) (Pst.once x.data.toList false true)) := by rw [Pst.putT, ha, Int.toNat_natCast]
  rw [hfl, ← hT] at R0
  rw [← ha, hsp] at R0
  have R1 : Hid (∀ v, Calls Try.prog 45 #[.string s, .int .i64 p, .int .i64 p, .int .i64 (Pst.often n : Nat), .slice (some ⟨v.heap.size, 0, none⟩) 1 1] (v.alloc (.cells #[.string x] 9)) fun e w' => e = .returned (.tuple #[.string (bs (Pst.putT s.data.toList p x.data.toList false true n)), .int .i64 0]) ∧ Below v.heap.size v w') := fun v => (R0 v).mono (by rintro e u ⟨rfl, hb⟩; exact ⟨rfl, below_new hb⟩)
  have G0 := fun w => str_feed x w
  rw [decide_eq_false h10] at G0
  have G1 := Lib.hid G0
  obtain ⟨M, hM⟩ : ∃ M, Pst.often n * x.size = M := ⟨_, rfl⟩
  rw [hM] at hf
  have w2 : IntKind.i64.wrap ((Pst.often n : Int) * (x.size : Int)) = (M : Int) := by rw [IntKind.wrap_i64, ← Int.natCast_mul, hM]; omega
  have hpa : p = (a : Int) := by rw [← hsp, ha]
  have w3 : IntKind.i64.wrap (p + (M : Int)) = p + (M : Int) := by rw [IntKind.wrap_i64, hpa]; omega
  have F0 := fun w => utf_Prev (bs (Pst.putT s.data.toList p x.data.toList false true n)) (p + (M : Int)) (by omega) w
  rw [bs_toList] at F0
  have F1 := Lib.hid F0
  have hP : Pst.putP s.data.toList p x.data.toList false true n = Utf.prev (Pst.putT s.data.toList p x.data.toList false true n) (p + (M : Int)) := by rw [Pst.putP, if_neg (by decide), if_neg h10, hsp, data_len, hM]
  rw [hP]
  generalize Utf.prev (Pst.putT s.data.toList p x.data.toList false true n) (p + (M : Int)) = z at *
  generalize bs (Pst.putT s.data.toList p x.data.toList false true n) = R at *
  generalize Pst.often n = m at *
  have hB := Below.refl w.heap.size w
  clear h h0 hm ha hal hap hsp hol hfl hx1 hf R0 hs hxs hts hT G0 F0 hP h10 hM hpa
  go_enter Try.func22, Try.ntmps22
  go_wp2_with (first
    | (go_at_call 45; (with_reducible refine (R1.out _).mono ?_); rintro e u ⟨rfl, hbn⟩; (first | replace hB := hB.trans (hbn.mono hB.size) | replace hB := hB.trans ((below_new hbn).mono hB.size)); clear hbn)
    | (go_at_call 58; (with_reducible refine (G1.out _).mono ?_); rintro e u ⟨rfl, rfl⟩)
    | (go_at_call 59; (with_reducible refine (F1.out _).mono ?_); rintro e u ⟨rfl, rfl⟩))
  go_ret3
  exact ⟨rfl, hB⟩
set_option maxHeartbeats 2000000 in
set_option maxRecDepth 100000 in
theorem paste_putRunes_end_no (s : ByteArray) (p : Int) (x : ByteArray) (n : Int) (hs : s.size ≤ 100000000) (hxs : x.size ≤ 10000000) (h : Utf.place s.data.toList p = true) (h0 : x.data.toList ≠ []) (he : Span.ends s.data.toList p.toNat = true) (hf : ¬ Pst.fits s.data.toList x.data.toList false false n) (w : World) :
    Calls Try.prog 22 #[.string s, .int .i64 p, .string x, .bool false, .int .i64 (Pst.often n : Nat)] w fun e w' => e = .returned (Pst.val (Pst.no 8)) ∧ Below w.heap.size w w' := by
  rw [Pst.val_no]
  have hm := Pst.often_pos n
  obtain ⟨a, ha, hal, hap⟩ := Pst.spot_place h false false
  have hsp : Pst.spot s.data.toList p false false = p := by rw [Pst.spot, if_neg (by decide), if_pos (Or.inr he)]
  have hol := Pst.once_length x.data.toList false false
  rw [if_neg (by decide), data_len, Nat.add_zero] at hol
  have hfl : flat [x] = Pst.once x.data.toList false false := flat_one_bs x
  have hx1 : 1 ≤ x.size := by rw [← data_len]; exact List.length_pos_iff.2 h0
  rw [data_len] at hal
  rw [Pst.fits, data_len, hol] at hf
  obtain ⟨a0, hpp, hal0⟩ := Line.place_nat h
  rw [data_len] at hal0
  have N0 := fun w => paste_ends s hal0 w
  rw [hpp, Int.toNat_natCast] at he
  rw [he, ← hpp] at N0
  have N1 := Lib.hid N0
  have R0 := fun v => paste_replace_no s a a (Pst.often n) (c := 1) (strs_one v x) (Nat.le_refl _) hal hs (by simp) hm (by rw [hfl]; omega) (by rw [hfl]; omega) (by rw [hfl, hol]; omega)
  rw [← ha, hsp] at R0
  have R1 : Hid (∀ v, Calls Try.prog 45 #[.string s, .int .i64 p, .int .i64 p, .int .i64 (Pst.often n : Nat), .slice (some ⟨v.heap.size, 0, none⟩) 1 1] (v.alloc (.cells #[.string x] 9)) fun e w' => e = .returned (.tuple #[.string ⟨#[]⟩, .int .i64 8]) ∧ Below v.heap.size v w') := fun v => (R0 v).mono (by rintro e u ⟨rfl, rfl⟩; exact ⟨rfl, (Below.refl _ v).alloc (Nat.le_refl _) _⟩)
  generalize Pst.often n = m at *
  have hB := Below.refl w.heap.size w
  clear h h0 hm ha hal hap hsp hol hfl hx1 hf R0 hs hxs he hpp hal0 N0
  go_enter Try.func22, Try.ntmps22
  go_wp2_with (first
    | (go_at_call 35; (with_reducible refine (N1.out _).mono ?_); rintro e u ⟨rfl, rfl⟩)
    | (go_at_call 45; (with_reducible refine (R1.out _).mono ?_); rintro e u ⟨rfl, hbn⟩; (first | replace hB := hB.trans (hbn.mono hB.size) | replace hB := hB.trans ((below_new hbn).mono hB.size)); clear hbn))
  go_ret3
  exact ⟨rfl, hB⟩
set_option maxHeartbeats 2000000 in
set_option maxRecDepth 100000 in
theorem paste_putRunes_end_feed (s : ByteArray) (p : Int) (x : ByteArray) (n : Int) (hs : s.size ≤ 100000000) (hxs : x.size ≤ 10000000) (h : Utf.place s.data.toList p = true) (h0 : x.data.toList ≠ []) (he : Span.ends s.data.toList p.toNat = true) (hf : Pst.fits s.data.toList x.data.toList false false n) (h10 : (10 : UInt8) ∈ x.data.toList) (w : World) :
    Calls Try.prog 22 #[.string s, .int .i64 p, .string x, .bool false, .int .i64 (Pst.often n : Nat)] w fun e w' => e = .returned (Pst.val (Pst.putT s.data.toList p x.data.toList false false n, Pst.putP s.data.toList p x.data.toList false false n, 0)) ∧ Below w.heap.size w w' := by
  rw [Pst.val_mk]
  have hm := Pst.often_pos n
  obtain ⟨a, ha, hal, hap⟩ := Pst.spot_place h false false
  have hsp : Pst.spot s.data.toList p false false = p := by rw [Pst.spot, if_neg (by decide), if_pos (Or.inr he)]
  have hol := Pst.once_length x.data.toList false false
  rw [if_neg (by decide), data_len, Nat.add_zero] at hol
  have hfl : flat [x] = Pst.once x.data.toList false false := flat_one_bs x
  have hx1 : 1 ≤ x.size := by rw [← data_len]; exact List.length_pos_iff.2 h0
  rw [data_len] at hal
  rw [Pst.fits, data_len, hol] at hf
  obtain ⟨a0, hpp, hal0⟩ := Line.place_nat h
  rw [data_len] at hal0
  have N0 := fun w => paste_ends s hal0 w
  rw [hpp, Int.toNat_natCast] at he
  rw [he, ← hpp] at N0
  have N1 := Lib.hid N0
  have hts := Pst.put_size (x := x.data.toList) (l := false) (ah := false) (n := n) h (by rw [Pst.fits, data_len, hol]; exact hf)
  have R0 := fun v => paste_replace_ok s a a (Pst.often n) (c := 1) (strs_one v x) (Nat.le_refl _) hal hs (by simp) hm (by rw [hfl]; omega) (by rw [hfl, hol]; omega)
  have hT : Pst.putT s.data.toList p x.data.toList false false n = Pst.mid s.data.toList a a (Pst.reps (Pst.often n) (Pst.once x.data.toList false false)) := by rw [Pst.putT, ha, Int.toNat_natCast]
  rw [hfl, ← hT] at R0
  rw [← ha, hsp] at R0
  have R1 : Hid (∀ v, Calls Try.prog 45 #[.string s, .int .i64 p, .int .i64 p, .int .i64 (Pst.often n : Nat), .slice (some ⟨v.heap.size, 0, none⟩) 1 1] (v.alloc (.cells #[.string x] 9)) fun e w' => e = .returned (.tuple #[.string (bs (Pst.putT s.data.toList p x.data.toList false false n)), .int .i64 0]) ∧ Below v.heap.size v w') := fun v => (R0 v).mono (by rintro e u ⟨rfl, hb⟩; exact ⟨rfl, below_new hb⟩)
  have G0 := fun w => str_feed x w
  rw [decide_eq_true h10] at G0
  have G1 := Lib.hid G0
  have F0 := fun w => line_Clamp (bs (Pst.putT s.data.toList p x.data.toList false false n)) p (by omega) w
  rw [bs_toList] at F0
  have F1 := Lib.hid F0
  have hP : Pst.putP s.data.toList p x.data.toList false false n = Line.clamp (Pst.putT s.data.toList p x.data.toList false false n) p := by rw [Pst.putP, if_neg (by decide), if_pos h10, hsp]
  rw [hP]
  generalize Line.clamp (Pst.putT s.data.toList p x.data.toList false false n) p = z at *
  generalize bs (Pst.putT s.data.toList p x.data.toList false false n) = R at *
  generalize Pst.often n = m at *
  have hB := Below.refl w.heap.size w
  clear h h0 hm ha hal hap hsp hol hfl hx1 hf R0 hs hxs he hpp hal0 N0 hts hT G0 F0 hP h10
  go_enter Try.func22, Try.ntmps22
  go_wp2_with (first
    | (go_at_call 35; (with_reducible refine (N1.out _).mono ?_); rintro e u ⟨rfl, rfl⟩)
    | (go_at_call 45; (with_reducible refine (R1.out _).mono ?_); rintro e u ⟨rfl, hbn⟩; (first | replace hB := hB.trans (hbn.mono hB.size) | replace hB := hB.trans ((below_new hbn).mono hB.size)); clear hbn)
    | (go_at_call 58; (with_reducible refine (G1.out _).mono ?_); rintro e u ⟨rfl, rfl⟩)
    | (go_at_call 41; (with_reducible refine (F1.out _).mono ?_); rintro e u ⟨rfl, hbn⟩; (first | replace hB := hB.trans (hbn.mono hB.size) | replace hB := hB.trans ((below_new hbn).mono hB.size)); clear hbn))
  go_ret3
  exact ⟨rfl, hB⟩
set_option maxHeartbeats 2000000 in
set_option maxRecDepth 100000 in
theorem paste_putRunes_end_plain (s : ByteArray) (p : Int) (x : ByteArray) (n : Int) (hs : s.size ≤ 100000000) (hxs : x.size ≤ 10000000) (h : Utf.place s.data.toList p = true) (h0 : x.data.toList ≠ []) (he : Span.ends s.data.toList p.toNat = true) (hf : Pst.fits s.data.toList x.data.toList false false n) (h10 : ¬ (10 : UInt8) ∈ x.data.toList) (w : World) :
    Calls Try.prog 22 #[.string s, .int .i64 p, .string x, .bool false, .int .i64 (Pst.often n : Nat)] w fun e w' => e = .returned (Pst.val (Pst.putT s.data.toList p x.data.toList false false n, Pst.putP s.data.toList p x.data.toList false false n, 0)) ∧ Below w.heap.size w w' := by
  rw [Pst.val_mk]
  have hm := Pst.often_pos n
  obtain ⟨a, ha, hal, hap⟩ := Pst.spot_place h false false
  have hsp : Pst.spot s.data.toList p false false = p := by rw [Pst.spot, if_neg (by decide), if_pos (Or.inr he)]
  have hol := Pst.once_length x.data.toList false false
  rw [if_neg (by decide), data_len, Nat.add_zero] at hol
  have hfl : flat [x] = Pst.once x.data.toList false false := flat_one_bs x
  have hx1 : 1 ≤ x.size := by rw [← data_len]; exact List.length_pos_iff.2 h0
  rw [data_len] at hal
  rw [Pst.fits, data_len, hol] at hf
  obtain ⟨a0, hpp, hal0⟩ := Line.place_nat h
  rw [data_len] at hal0
  have N0 := fun w => paste_ends s hal0 w
  rw [hpp, Int.toNat_natCast] at he
  rw [he, ← hpp] at N0
  have N1 := Lib.hid N0
  have hts := Pst.put_size (x := x.data.toList) (l := false) (ah := false) (n := n) h (by rw [Pst.fits, data_len, hol]; exact hf)
  have R0 := fun v => paste_replace_ok s a a (Pst.often n) (c := 1) (strs_one v x) (Nat.le_refl _) hal hs (by simp) hm (by rw [hfl]; omega) (by rw [hfl, hol]; omega)
  have hT : Pst.putT s.data.toList p x.data.toList false false n = Pst.mid s.data.toList a a (Pst.reps (Pst.often n) (Pst.once x.data.toList false false)) := by rw [Pst.putT, ha, Int.toNat_natCast]
  rw [hfl, ← hT] at R0
  rw [← ha, hsp] at R0
  have R1 : Hid (∀ v, Calls Try.prog 45 #[.string s, .int .i64 p, .int .i64 p, .int .i64 (Pst.often n : Nat), .slice (some ⟨v.heap.size, 0, none⟩) 1 1] (v.alloc (.cells #[.string x] 9)) fun e w' => e = .returned (.tuple #[.string (bs (Pst.putT s.data.toList p x.data.toList false false n)), .int .i64 0]) ∧ Below v.heap.size v w') := fun v => (R0 v).mono (by rintro e u ⟨rfl, hb⟩; exact ⟨rfl, below_new hb⟩)
  have G0 := fun w => str_feed x w
  rw [decide_eq_false h10] at G0
  have G1 := Lib.hid G0
  obtain ⟨M, hM⟩ : ∃ M, Pst.often n * x.size = M := ⟨_, rfl⟩
  rw [hM] at hf
  have w2 : IntKind.i64.wrap ((Pst.often n : Int) * (x.size : Int)) = (M : Int) := by rw [IntKind.wrap_i64, ← Int.natCast_mul, hM]; omega
  have hpa : p = (a : Int) := by rw [← hsp, ha]
  have w3 : IntKind.i64.wrap (p + (M : Int)) = p + (M : Int) := by rw [IntKind.wrap_i64, hpa]; omega
  have F0 := fun w => utf_Prev (bs (Pst.putT s.data.toList p x.data.toList false false n)) (p + (M : Int)) (by omega) w
  rw [bs_toList] at F0
  have F1 := Lib.hid F0
  have hP : Pst.putP s.data.toList p x.data.toList false false n = Utf.prev (Pst.putT s.data.toList p x.data.toList false false n) (p + (M : Int)) := by rw [Pst.putP, if_neg (by decide), if_neg h10, hsp, data_len, hM]
  rw [hP]
  generalize Utf.prev (Pst.putT s.data.toList p x.data.toList false false n) (p + (M : Int)) = z at *
  generalize bs (Pst.putT s.data.toList p x.data.toList false false n) = R at *
  generalize Pst.often n = m at *
  have hB := Below.refl w.heap.size w
  clear h h0 hm ha hal hap hsp hol hfl hx1 hf R0 hs hxs he hpp hal0 N0 hts hT G0 F0 hP h10 hM hpa
  go_enter Try.func22, Try.ntmps22
  go_wp2_with (first
    | (go_at_call 35; (with_reducible refine (N1.out _).mono ?_); rintro e u ⟨rfl, rfl⟩)
    | (go_at_call 45; (with_reducible refine (R1.out _).mono ?_); rintro e u ⟨rfl, hbn⟩; (first | replace hB := hB.trans (hbn.mono hB.size) | replace hB := hB.trans ((below_new hbn).mono hB.size)); clear hbn)
    | (go_at_call 58; (with_reducible refine (G1.out _).mono ?_); rintro e u ⟨rfl, rfl⟩)
    | (go_at_call 59; (with_reducible refine (F1.out _).mono ?_); rintro e u ⟨rfl, rfl⟩))
  go_ret3
  exact ⟨rfl, hB⟩
set_option maxHeartbeats 2000000 in
set_option maxRecDepth 100000 in
theorem paste_putRunes_next_no (s : ByteArray) (p : Int) (x : ByteArray) (n : Int) (hs : s.size ≤ 100000000) (hxs : x.size ≤ 10000000) (h : Utf.place s.data.toList p = true) (h0 : x.data.toList ≠ []) (he : Span.ends s.data.toList p.toNat = false) (hf : ¬ Pst.fits s.data.toList x.data.toList false false n) (w : World) :
    Calls Try.prog 22 #[.string s, .int .i64 p, .string x, .bool false, .int .i64 (Pst.often n : Nat)] w fun e w' => e = .returned (Pst.val (Pst.no 8)) ∧ Below w.heap.size w w' := by
  rw [Pst.val_no]
  have hm := Pst.often_pos n
  obtain ⟨a, ha, hal, hap⟩ := Pst.spot_place h false false
  have hsp : Pst.spot s.data.toList p false false = Utf.next s.data.toList p := by rw [Pst.spot, if_neg (by decide), if_neg (by rw [he]; simp)]
  have hol := Pst.once_length x.data.toList false false
  rw [if_neg (by decide), data_len, Nat.add_zero] at hol
  have hfl : flat [x] = Pst.once x.data.toList false false := flat_one_bs x
  have hx1 : 1 ≤ x.size := by rw [← data_len]; exact List.length_pos_iff.2 h0
  rw [data_len] at hal
  rw [Pst.fits, data_len, hol] at hf
  obtain ⟨a0, hpp, hal0⟩ := Line.place_nat h
  rw [data_len] at hal0
  have N0 := fun w => paste_ends s hal0 w
  rw [hpp, Int.toNat_natCast] at he
  rw [he, ← hpp] at N0
  have N1 := Lib.hid N0
  have X0 := fun w => utf_Next s p (by omega) w
  rw [← hsp, ha] at X0
  have X1 := Lib.hid X0
  have R0 := fun v => paste_replace_no s a a (Pst.often n) (c := 1) (strs_one v x) (Nat.le_refl _) hal hs (by simp) hm (by rw [hfl]; omega) (by rw [hfl]; omega) (by rw [hfl, hol]; omega)
  have R1 : Hid (∀ v, Calls Try.prog 45 #[.string s, .int .i64 (a : Nat), .int .i64 (a : Nat), .int .i64 (Pst.often n : Nat), .slice (some ⟨v.heap.size, 0, none⟩) 1 1] (v.alloc (.cells #[.string x] 9)) fun e w' => e = .returned (.tuple #[.string ⟨#[]⟩, .int .i64 8]) ∧ Below v.heap.size v w') := fun v => (R0 v).mono (by rintro e u ⟨rfl, rfl⟩; exact ⟨rfl, (Below.refl _ v).alloc (Nat.le_refl _) _⟩)
  generalize Pst.often n = m at *
  have hB := Below.refl w.heap.size w
  clear h h0 hm ha hal hap hsp hol hfl hx1 hf R0 hs hxs he hpp hal0 N0 X0
  go_enter Try.func22, Try.ntmps22
  go_wp2_with (first
    | (go_at_call 35; (with_reducible refine (N1.out _).mono ?_); rintro e u ⟨rfl, rfl⟩)
    | (go_at_call 53; (with_reducible refine (X1.out _).mono ?_); rintro e u ⟨rfl, rfl⟩)
    | (go_at_call 45; (with_reducible refine (R1.out _).mono ?_); rintro e u ⟨rfl, hbn⟩; (first | replace hB := hB.trans (hbn.mono hB.size) | replace hB := hB.trans ((below_new hbn).mono hB.size)); clear hbn))
  go_ret3
  exact ⟨rfl, hB⟩
set_option maxHeartbeats 2000000 in
set_option maxRecDepth 100000 in
theorem paste_putRunes_next_feed (s : ByteArray) (p : Int) (x : ByteArray) (n : Int) (hs : s.size ≤ 100000000) (hxs : x.size ≤ 10000000) (h : Utf.place s.data.toList p = true) (h0 : x.data.toList ≠ []) (he : Span.ends s.data.toList p.toNat = false) (hf : Pst.fits s.data.toList x.data.toList false false n) (h10 : (10 : UInt8) ∈ x.data.toList) (w : World) :
    Calls Try.prog 22 #[.string s, .int .i64 p, .string x, .bool false, .int .i64 (Pst.often n : Nat)] w fun e w' => e = .returned (Pst.val (Pst.putT s.data.toList p x.data.toList false false n, Pst.putP s.data.toList p x.data.toList false false n, 0)) ∧ Below w.heap.size w w' := by
  rw [Pst.val_mk]
  have hm := Pst.often_pos n
  obtain ⟨a, ha, hal, hap⟩ := Pst.spot_place h false false
  have hsp : Pst.spot s.data.toList p false false = Utf.next s.data.toList p := by rw [Pst.spot, if_neg (by decide), if_neg (by rw [he]; simp)]
  have hol := Pst.once_length x.data.toList false false
  rw [if_neg (by decide), data_len, Nat.add_zero] at hol
  have hfl : flat [x] = Pst.once x.data.toList false false := flat_one_bs x
  have hx1 : 1 ≤ x.size := by rw [← data_len]; exact List.length_pos_iff.2 h0
  rw [data_len] at hal
  rw [Pst.fits, data_len, hol] at hf
  obtain ⟨a0, hpp, hal0⟩ := Line.place_nat h
  rw [data_len] at hal0
  have N0 := fun w => paste_ends s hal0 w
  rw [hpp, Int.toNat_natCast] at he
  rw [he, ← hpp] at N0
  have N1 := Lib.hid N0
  have X0 := fun w => utf_Next s p (by omega) w
  rw [← hsp, ha] at X0
  have X1 := Lib.hid X0
  have hts := Pst.put_size (x := x.data.toList) (l := false) (ah := false) (n := n) h (by rw [Pst.fits, data_len, hol]; exact hf)
  have R0 := fun v => paste_replace_ok s a a (Pst.often n) (c := 1) (strs_one v x) (Nat.le_refl _) hal hs (by simp) hm (by rw [hfl]; omega) (by rw [hfl, hol]; omega)
  have hT : Pst.putT s.data.toList p x.data.toList false false n = Pst.mid s.data.toList a a (Pst.reps (Pst.often n) (Pst.once x.data.toList false false)) := by rw [Pst.putT, ha, Int.toNat_natCast]
  rw [hfl, ← hT] at R0
  have R1 : Hid (∀ v, Calls Try.prog 45 #[.string s, .int .i64 (a : Nat), .int .i64 (a : Nat), .int .i64 (Pst.often n : Nat), .slice (some ⟨v.heap.size, 0, none⟩) 1 1] (v.alloc (.cells #[.string x] 9)) fun e w' => e = .returned (.tuple #[.string (bs (Pst.putT s.data.toList p x.data.toList false false n)), .int .i64 0]) ∧ Below v.heap.size v w') := fun v => (R0 v).mono (by rintro e u ⟨rfl, hb⟩; exact ⟨rfl, below_new hb⟩)
  have G0 := fun w => str_feed x w
  rw [decide_eq_true h10] at G0
  have G1 := Lib.hid G0
  have F0 := fun w => line_Clamp (bs (Pst.putT s.data.toList p x.data.toList false false n)) (a : Int) (by omega) w
  rw [bs_toList] at F0
  have F1 := Lib.hid F0
  have hP : Pst.putP s.data.toList p x.data.toList false false n = Line.clamp (Pst.putT s.data.toList p x.data.toList false false n) (a : Int) := by rw [Pst.putP, if_neg (by decide), if_pos h10, ha]
  rw [hP]
  generalize Line.clamp (Pst.putT s.data.toList p x.data.toList false false n) (a : Int) = z at *
  generalize bs (Pst.putT s.data.toList p x.data.toList false false n) = R at *
  generalize Pst.often n = m at *
  have hB := Below.refl w.heap.size w
  clear h h0 hm ha hal hap hsp hol hfl hx1 hf R0 hs hxs he hpp hal0 N0 X0 hts hT G0 F0 hP h10
  go_enter Try.func22, Try.ntmps22
  go_wp2_with (first
    | (go_at_call 35; (with_reducible refine (N1.out _).mono ?_); rintro e u ⟨rfl, rfl⟩)
    | (go_at_call 53; (with_reducible refine (X1.out _).mono ?_); rintro e u ⟨rfl, rfl⟩)
    | (go_at_call 45; (with_reducible refine (R1.out _).mono ?_); rintro e u ⟨rfl, hbn⟩; (first | replace hB := hB.trans (hbn.mono hB.size) | replace hB := hB.trans ((below_new hbn).mono hB.size)); clear hbn)
    | (go_at_call 58; (with_reducible refine (G1.out _).mono ?_); rintro e u ⟨rfl, rfl⟩)
    | (go_at_call 41; (with_reducible refine (F1.out _).mono ?_); rintro e u ⟨rfl, hbn⟩; (first | replace hB := hB.trans (hbn.mono hB.size) | replace hB := hB.trans ((below_new hbn).mono hB.size)); clear hbn))
  go_ret3
  exact ⟨rfl, hB⟩
set_option maxHeartbeats 2000000 in
set_option maxRecDepth 100000 in
theorem paste_putRunes_next_plain (s : ByteArray) (p : Int) (x : ByteArray) (n : Int) (hs : s.size ≤ 100000000) (hxs : x.size ≤ 10000000) (h : Utf.place s.data.toList p = true) (h0 : x.data.toList ≠ []) (he : Span.ends s.data.toList p.toNat = false) (hf : Pst.fits s.data.toList x.data.toList false false n) (h10 : ¬ (10 : UInt8) ∈ x.data.toList) (w : World) :
    Calls Try.prog 22 #[.string s, .int .i64 p, .string x, .bool false, .int .i64 (Pst.often n : Nat)] w fun e w' => e = .returned (Pst.val (Pst.putT s.data.toList p x.data.toList false false n, Pst.putP s.data.toList p x.data.toList false false n, 0)) ∧ Below w.heap.size w w' := by
  rw [Pst.val_mk]
  have hm := Pst.often_pos n
  obtain ⟨a, ha, hal, hap⟩ := Pst.spot_place h false false
  have hsp : Pst.spot s.data.toList p false false = Utf.next s.data.toList p := by rw [Pst.spot, if_neg (by decide), if_neg (by rw [he]; simp)]
  have hol := Pst.once_length x.data.toList false false
  rw [if_neg (by decide), data_len, Nat.add_zero] at hol
  have hfl : flat [x] = Pst.once x.data.toList false false := flat_one_bs x
  have hx1 : 1 ≤ x.size := by rw [← data_len]; exact List.length_pos_iff.2 h0
  rw [data_len] at hal
  rw [Pst.fits, data_len, hol] at hf
  obtain ⟨a0, hpp, hal0⟩ := Line.place_nat h
  rw [data_len] at hal0
  have N0 := fun w => paste_ends s hal0 w
  rw [hpp, Int.toNat_natCast] at he
  rw [he, ← hpp] at N0
  have N1 := Lib.hid N0
  have X0 := fun w => utf_Next s p (by omega) w
  rw [← hsp, ha] at X0
  have X1 := Lib.hid X0
  have hts := Pst.put_size (x := x.data.toList) (l := false) (ah := false) (n := n) h (by rw [Pst.fits, data_len, hol]; exact hf)
  have R0 := fun v => paste_replace_ok s a a (Pst.often n) (c := 1) (strs_one v x) (Nat.le_refl _) hal hs (by simp) hm (by rw [hfl]; omega) (by rw [hfl, hol]; omega)
  have hT : Pst.putT s.data.toList p x.data.toList false false n = Pst.mid s.data.toList a a (Pst.reps (Pst.often n) (Pst.once x.data.toList false false)) := by rw [Pst.putT, ha, Int.toNat_natCast]
  rw [hfl, ← hT] at R0
  have R1 : Hid (∀ v, Calls Try.prog 45 #[.string s, .int .i64 (a : Nat), .int .i64 (a : Nat), .int .i64 (Pst.often n : Nat), .slice (some ⟨v.heap.size, 0, none⟩) 1 1] (v.alloc (.cells #[.string x] 9)) fun e w' => e = .returned (.tuple #[.string (bs (Pst.putT s.data.toList p x.data.toList false false n)), .int .i64 0]) ∧ Below v.heap.size v w') := fun v => (R0 v).mono (by rintro e u ⟨rfl, hb⟩; exact ⟨rfl, below_new hb⟩)
  have G0 := fun w => str_feed x w
  rw [decide_eq_false h10] at G0
  have G1 := Lib.hid G0
  obtain ⟨M, hM⟩ : ∃ M, Pst.often n * x.size = M := ⟨_, rfl⟩
  rw [hM] at hf
  have w2 : IntKind.i64.wrap ((Pst.often n : Int) * (x.size : Int)) = (M : Int) := by rw [IntKind.wrap_i64, ← Int.natCast_mul, hM]; omega
  have hpa : (a : Int) = (a : Int) := rfl
  have w3 : IntKind.i64.wrap ((a : Int) + (M : Int)) = (a : Int) + (M : Int) := by rw [IntKind.wrap_i64, hpa]; omega
  have F0 := fun w => utf_Prev (bs (Pst.putT s.data.toList p x.data.toList false false n)) ((a : Int) + (M : Int)) (by omega) w
  rw [bs_toList] at F0
  have F1 := Lib.hid F0
  have hP : Pst.putP s.data.toList p x.data.toList false false n = Utf.prev (Pst.putT s.data.toList p x.data.toList false false n) ((a : Int) + (M : Int)) := by rw [Pst.putP, if_neg (by decide), if_neg h10, ha, data_len, hM]
  rw [hP]
  generalize Utf.prev (Pst.putT s.data.toList p x.data.toList false false n) ((a : Int) + (M : Int)) = z at *
  generalize bs (Pst.putT s.data.toList p x.data.toList false false n) = R at *
  generalize Pst.often n = m at *
  have hB := Below.refl w.heap.size w
  clear h h0 hm ha hal hap hsp hol hfl hx1 hf R0 hs hxs he hpp hal0 N0 X0 hts hT G0 F0 hP h10 hM hpa
  go_enter Try.func22, Try.ntmps22
  go_wp2_with (first
    | (go_at_call 35; (with_reducible refine (N1.out _).mono ?_); rintro e u ⟨rfl, rfl⟩)
    | (go_at_call 53; (with_reducible refine (X1.out _).mono ?_); rintro e u ⟨rfl, rfl⟩)
    | (go_at_call 45; (with_reducible refine (R1.out _).mono ?_); rintro e u ⟨rfl, hbn⟩; (first | replace hB := hB.trans (hbn.mono hB.size) | replace hB := hB.trans ((below_new hbn).mono hB.size)); clear hbn)
    | (go_at_call 58; (with_reducible refine (G1.out _).mono ?_); rintro e u ⟨rfl, rfl⟩)
    | (go_at_call 59; (with_reducible refine (F1.out _).mono ?_); rintro e u ⟨rfl, rfl⟩))
  go_ret3
  exact ⟨rfl, hB⟩
theorem paste_putRunes (s : ByteArray) (p : Int) (x : ByteArray) (n : Int) (hs : s.size ≤ 100000000) (hxs : x.size ≤ 10000000) (ah : Bool) (h : Utf.place s.data.toList p = true) (h0 : x.data.toList ≠ []) (w : World) :
    Calls Try.prog 22 #[.string s, .int .i64 p, .string x, .bool ah, .int .i64 (Pst.often n : Nat)] w fun e w' => e = .returned (Pst.val (if Pst.fits s.data.toList x.data.toList false ah n then (Pst.putT s.data.toList p x.data.toList false ah n, Pst.putP s.data.toList p x.data.toList false ah n, 0) else Pst.no 8)) ∧ Below w.heap.size w w' := by
  split
  · rename_i hf
    by_cases h10 : (10 : UInt8) ∈ x.data.toList
    · cases ah with
      | true => exact paste_putRunes_ahead_feed s p x n hs hxs h h0 hf h10 w
      | false =>
        cases he : Span.ends s.data.toList p.toNat with
        | true => exact paste_putRunes_end_feed s p x n hs hxs h h0 he hf h10 w
        | false => exact paste_putRunes_next_feed s p x n hs hxs h h0 he hf h10 w
    · cases ah with
      | true => exact paste_putRunes_ahead_plain s p x n hs hxs h h0 hf h10 w
      | false =>
        cases he : Span.ends s.data.toList p.toNat with
        | true => exact paste_putRunes_end_plain s p x n hs hxs h h0 he hf h10 w
        | false => exact paste_putRunes_next_plain s p x n hs hxs h h0 he hf h10 w
  · rename_i hf
    cases ah with
    | true => exact paste_putRunes_ahead_no s p x n hs hxs h h0 hf w
    | false =>
      cases he : Span.ends s.data.toList p.toNat with
      | true => exact paste_putRunes_end_no s p x n hs hxs h h0 he hf w
      | false => exact paste_putRunes_next_no s p x n hs hxs h h0 he hf w
set_option maxHeartbeats 2000000 in
set_option maxRecDepth 100000 in
theorem paste_Put_arg (s : ByteArray) (p nm : Int) (x : ByteArray) (l : Bool) (ah : Bool) (n : Int) (hs : s.size ≤ 100000000) (h : Utf.place s.data.toList p = false) (w : World) :
    Calls Try.prog 8 #[.string s, .int .i64 p, .agg #[.int .i64 nm, .bool l, .string x], .bool ah, .int .i64 n] w fun e w' => e = .returned (Pst.val (Pst.no 1)) ∧ Below w.heap.size w w' := by
  rw [Pst.val_no]
  have P0 := fun w => utf_Place s p (by omega) w
  rw [h] at P0
  have P1 := Lib.hid P0
  have b0 := Blk.new w 23 #[.int .i64 nm, .bool l, .string x]
  have c1 : (w.alloc (.cells #[.int .i64 nm, .bool l, .string x] 23)).cell? ⟨w.heap.size, 1, none⟩ = some (.bool l) := b0.cell 1
  have c2 : (w.alloc (.cells #[.int .i64 nm, .bool l, .string x] 23)).cell? ⟨w.heap.size, 2, none⟩ = some (.string x) := b0.cell 2
  have hB := (Below.refl w.heap.size w).alloc (Nat.le_refl _) (.cells #[.int .i64 nm, .bool l, .string x] 23)
  clear P0 h b0
  go_enter Try.func8, Try.ntmps8
  go_wp2_with (first
    | (go_at_call 19; (with_reducible refine (P1.out _).mono ?_); rintro e u ⟨rfl, rfl⟩))
  go_ret3
  exact ⟨rfl, hB⟩
set_option maxHeartbeats 2000000 in
set_option maxRecDepth 100000 in
theorem paste_Put_text (s : ByteArray) (p nm : Int) (x : ByteArray) (l : Bool) (ah : Bool) (n : Int) (hs : s.size ≤ 100000000) (hxs : x.size ≤ 10000000) (h : Utf.place s.data.toList p = true) (hv : Utf.valid x.data.toList = false) (w : World) :
    Calls Try.prog 8 #[.string s, .int .i64 p, .agg #[.int .i64 nm, .bool l, .string x], .bool ah, .int .i64 n] w fun e w' => e = .returned (Pst.val (Pst.no 1)) ∧ Below w.heap.size w w' := by
  rw [Pst.val_no]
  have P0 := fun w => utf_Place s p (by omega) w
  rw [h] at P0
  have P1 := Lib.hid P0
  have V0 := fun w => utf_Valid x (by omega) w
  rw [hv] at V0
  have V1 := Lib.hid V0
  have b0 := Blk.new w 23 #[.int .i64 nm, .bool l, .string x]
  have c1 : (w.alloc (.cells #[.int .i64 nm, .bool l, .string x] 23)).cell? ⟨w.heap.size, 1, none⟩ = some (.bool l) := b0.cell 1
  have c2 : (w.alloc (.cells #[.int .i64 nm, .bool l, .string x] 23)).cell? ⟨w.heap.size, 2, none⟩ = some (.string x) := b0.cell 2
  have hB := (Below.refl w.heap.size w).alloc (Nat.le_refl _) (.cells #[.int .i64 nm, .bool l, .string x] 23)
  clear P0 V0 h hv b0 hxs
  go_enter Try.func8, Try.ntmps8
  go_wp2_with (first
    | (go_at_call 19; (with_reducible refine (P1.out _).mono ?_); rintro e u ⟨rfl, rfl⟩)
    | (go_at_call 20; (with_reducible refine (V1.out _).mono ?_); rintro e u ⟨rfl, rfl⟩))
  go_ret3
  exact ⟨rfl, hB⟩
set_option maxHeartbeats 2000000 in
set_option maxRecDepth 100000 in
theorem paste_Put_none (s : ByteArray) (p nm : Int) (x : ByteArray) (ah : Bool) (n : Int) (hs : s.size ≤ 100000000) (hxs : x.size ≤ 10000000) (h : Utf.place s.data.toList p = true) (hv : Utf.valid x.data.toList = true) (h0 : x.data.toList = []) (w : World) :
    Calls Try.prog 8 #[.string s, .int .i64 p, .agg #[.int .i64 nm, .bool false, .string x], .bool ah, .int .i64 n] w fun e w' => e = .returned (Pst.val (Pst.no 7)) ∧ Below w.heap.size w w' := by
  rw [Pst.val_no]
  have P0 := fun w => utf_Place s p (by omega) w
  rw [h] at P0
  have P1 := Lib.hid P0
  have V0 := fun w => utf_Valid x (by omega) w
  rw [hv] at V0
  have V1 := Lib.hid V0
  have b0 := Blk.new w 23 #[.int .i64 nm, .bool false, .string x]
  have c1 : (w.alloc (.cells #[.int .i64 nm, .bool false, .string x] 23)).cell? ⟨w.heap.size, 1, none⟩ = some (.bool false) := b0.cell 1
  have c2 : (w.alloc (.cells #[.int .i64 nm, .bool false, .string x] 23)).cell? ⟨w.heap.size, 2, none⟩ = some (.string x) := b0.cell 2
  have hB := (Below.refl w.heap.size w).alloc (Nat.le_refl _) (.cells #[.int .i64 nm, .bool false, .string x] 23)
  have e0 : x.toList.isEmpty = true := by rw [tl_data, h0]; rfl
  clear P0 V0 h hv b0 h0 hxs
  go_enter Try.func8, Try.ntmps8
  go_wp2_with (first
    | (go_at_call 19; (with_reducible refine (P1.out _).mono ?_); rintro e u ⟨rfl, rfl⟩)
    | (go_at_call 20; (with_reducible refine (V1.out _).mono ?_); rintro e u ⟨rfl, rfl⟩))
  go_ret3
  exact ⟨rfl, hB⟩
set_option maxHeartbeats 2000000 in
set_option maxRecDepth 100000 in
theorem paste_Put_lines (s : ByteArray) (p nm : Int) (x : ByteArray) (ah : Bool) (n : Int) (hs : s.size ≤ 100000000) (hxs : x.size ≤ 10000000) (h : Utf.place s.data.toList p = true) (hv : Utf.valid x.data.toList = true) (w : World) :
    Calls Try.prog 8 #[.string s, .int .i64 p, .agg #[.int .i64 nm, .bool true, .string x], .bool ah, .int .i64 n] w fun e w' => e = .returned (Pst.val (if Pst.fits s.data.toList x.data.toList true ah n then (Pst.putT s.data.toList p x.data.toList true ah n, Pst.putP s.data.toList p x.data.toList true ah n, 0) else Pst.no 8)) ∧ Below w.heap.size w w' := by
  have P0 := fun w => utf_Place s p (by omega) w
  rw [h] at P0
  have P1 := Lib.hid P0
  have V0 := fun w => utf_Valid x (by omega) w
  rw [hv] at V0
  have V1 := Lib.hid V0
  have K0 := fun w => paste_putLines s p x n hs hxs ah h w
  generalize (if Pst.fits s.data.toList x.data.toList true ah n then (Pst.putT s.data.toList p x.data.toList true ah n, Pst.putP s.data.toList p x.data.toList true ah n, 0) else Pst.no 8) = r at *
  obtain ⟨y, q, er⟩ := r
  rw [Pst.val_mk]
  rw [Pst.val_mk] at K0
  have K1 := Lib.hid K0
  have hq := (Pst.often_int n).symm
  generalize Pst.often n = m at *
  have b0 := Blk.new w 23 #[.int .i64 nm, .bool true, .string x]
  have c1 : (w.alloc (.cells #[.int .i64 nm, .bool true, .string x] 23)).cell? ⟨w.heap.size, 1, none⟩ = some (.bool true) := b0.cell 1
  have c2 : (w.alloc (.cells #[.int .i64 nm, .bool true, .string x] 23)).cell? ⟨w.heap.size, 2, none⟩ = some (.string x) := b0.cell 2
  have hB := (Below.refl w.heap.size w).alloc (Nat.le_refl _) (.cells #[.int .i64 nm, .bool true, .string x] 23)
  clear P0 V0 K0 h hv b0
  go_enter Try.func8, Try.ntmps8
  go_wp2_with (first
    | (go_at_call 19; (with_reducible refine (P1.out _).mono ?_); rintro e u ⟨rfl, rfl⟩)
    | (go_at_call 20; (with_reducible refine (V1.out _).mono ?_); rintro e u ⟨rfl, rfl⟩)
    | (go_at_call 21; (with_reducible refine (K1.out _).mono ?_); rintro e u ⟨rfl, hbn⟩; (first | replace hB := hB.trans (hbn.mono hB.size) | replace hB := hB.trans hbn | replace hB := below_new hbn); clear hbn))
  go_ret3
  exact ⟨rfl, hB⟩
set_option maxHeartbeats 2000000 in
set_option maxRecDepth 100000 in
theorem paste_Put_runes (s : ByteArray) (p nm : Int) (x : ByteArray) (ah : Bool) (n : Int) (hs : s.size ≤ 100000000) (hxs : x.size ≤ 10000000) (h : Utf.place s.data.toList p = true) (hv : Utf.valid x.data.toList = true) (h0 : x.data.toList ≠ []) (w : World) :
    Calls Try.prog 8 #[.string s, .int .i64 p, .agg #[.int .i64 nm, .bool false, .string x], .bool ah, .int .i64 n] w fun e w' => e = .returned (Pst.val (if Pst.fits s.data.toList x.data.toList false ah n then (Pst.putT s.data.toList p x.data.toList false ah n, Pst.putP s.data.toList p x.data.toList false ah n, 0) else Pst.no 8)) ∧ Below w.heap.size w w' := by
  have P0 := fun w => utf_Place s p (by omega) w
  rw [h] at P0
  have P1 := Lib.hid P0
  have V0 := fun w => utf_Valid x (by omega) w
  rw [hv] at V0
  have V1 := Lib.hid V0
  have K0 := fun w => paste_putRunes s p x n hs hxs ah h h0 w
  generalize (if Pst.fits s.data.toList x.data.toList false ah n then (Pst.putT s.data.toList p x.data.toList false ah n, Pst.putP s.data.toList p x.data.toList false ah n, 0) else Pst.no 8) = r at *
  obtain ⟨y, q, er⟩ := r
  rw [Pst.val_mk]
  rw [Pst.val_mk] at K0
  have K1 := Lib.hid K0
  have hq := (Pst.often_int n).symm
  generalize Pst.often n = m at *
  have b0 := Blk.new w 23 #[.int .i64 nm, .bool false, .string x]
  have c1 : (w.alloc (.cells #[.int .i64 nm, .bool false, .string x] 23)).cell? ⟨w.heap.size, 1, none⟩ = some (.bool false) := b0.cell 1
  have c2 : (w.alloc (.cells #[.int .i64 nm, .bool false, .string x] 23)).cell? ⟨w.heap.size, 2, none⟩ = some (.string x) := b0.cell 2
  have hB := (Below.refl w.heap.size w).alloc (Nat.le_refl _) (.cells #[.int .i64 nm, .bool false, .string x] 23)
  have e0 : x.toList.isEmpty = false := by rw [tl_data]; simpa using h0
  clear P0 V0 K0 h hv b0 h0
  go_enter Try.func8, Try.ntmps8
  go_wp2_with (first
    | (go_at_call 19; (with_reducible refine (P1.out _).mono ?_); rintro e u ⟨rfl, rfl⟩)
    | (go_at_call 20; (with_reducible refine (V1.out _).mono ?_); rintro e u ⟨rfl, rfl⟩)
    | (go_at_call 22; (with_reducible refine (K1.out _).mono ?_); rintro e u ⟨rfl, hbn⟩; (first | replace hB := hB.trans (hbn.mono hB.size) | replace hB := hB.trans hbn | replace hB := below_new hbn); clear hbn))
  go_ret3
  exact ⟨rfl, hB⟩
theorem paste_Put (s : ByteArray) (p nm : Int) (x : ByteArray) (l ah : Bool) (n : Int) (hs : s.size ≤ 100000000) (hxs : x.size ≤ 10000000) (w : World) :
    Calls Try.prog 8 #[.string s, .int .i64 p, .agg #[.int .i64 nm, .bool l, .string x], .bool ah, .int .i64 n] w fun e w' => e = .returned (Pst.val (Pst.put s.data.toList p x.data.toList l ah n)) ∧ Below w.heap.size w w' := by
  rw [Pst.put]
  cases h : Utf.place s.data.toList p with
  | false => rw [if_neg (by simp)]; exact paste_Put_arg s p nm x l ah n hs h w
  | true =>
    cases hv : Utf.valid x.data.toList with
    | false => rw [if_neg (by simp)]; exact paste_Put_text s p nm x l ah n hs hxs h hv w
    | true =>
      rw [if_pos ⟨rfl, rfl⟩]
      cases l with
      | true => rw [if_neg (by simp)]; exact paste_Put_lines s p nm x ah n hs hxs h hv w
      | false =>
        by_cases h0 : x.data.toList = []
        · rw [if_pos ⟨h0, rfl⟩]; exact paste_Put_none s p nm x ah n hs hxs h hv h0 w
        · rw [if_neg (fun e => h0 e.1)]; exact paste_Put_runes s p nm x ah n hs hxs h hv h0 w
end Go.Proofs.Ytambboomabeioaa
/-
  The document's example, as layer 24's statements ask for it; a register that comes in.
-/
namespace Go.Proofs.Ytambboomabeioaa
open Go.RowKit
set_option maxRecDepth 100000
namespace Pst
def exT : List UInt8 := [97, 98]
def exX : List UInt8 := [120, 121]
def exU : List UInt8 := [97, 120, 121, 98]
theorem ex_put : put exT 0 exX false false 1 = (exU, 2, 0) := by
  have d1 : Utf.dec exT = some [[97], [98]] := Utf.dec_of (rs := [[97], [98]]) (by decide)
  have d2 : Utf.dec exX = some [[120], [121]] := Utf.dec_of (rs := [[120], [121]]) (by decide)
  have d3 : Utf.dec exU = some [[97], [120], [121], [98]] := Utf.dec_of (rs := [[97], [120], [121], [98]]) (by decide)
  have hp : Utf.place exT 0 = true := Utf.place_at d1 (i := 0) (by decide)
  have hv : Utf.valid exX = true := by rw [Utf.valid, d2]; rfl
  have hn : Utf.next exT 0 = 1 := Utf.next_at d1 (i := 0) (by decide)
  have hs : spot exT 0 false false = 1 := by rw [spot, if_neg (by decide), if_neg (by decide), hn]
  have hT : putT exT 0 exX false false 1 = exU := by rw [putT, hs]; decide
  have hf : fits exT exX false false 1 := by show _ ≤ _; decide
  have h3 : Utf.prev exU 3 = 2 := Utf.prev_at d3 (i := 2) (by decide)
  rw [put, if_pos ⟨hp, hv⟩, if_neg (by decide), if_pos hf, putP, if_neg (by decide), if_neg (by decide), hT, hs]
  rw [show (1 : Int) + ((often 1 * exX.length : Nat) : Int) = 3 by decide, h3]
end Pst
set_option maxHeartbeats 1000000 in
theorem paste_lives (w : World) : Calls Try.prog 7 #[] w fun e w' => e = .returned (.bool true) ∧ Below w.heap.size w w' := by
  have C0 : Hid (∀ w, Calls Try.prog 8 #[.string ⟨#[97, 98]⟩, .int .i64 0, .agg #[.int .i64 0, .bool false, .string ⟨#[120, 121]⟩], .bool false, .int .i64 1] w fun e w' => e = .returned (.tuple #[.string ⟨#[97, 120, 121, 98]⟩, .int .i64 2, .int .i64 0]) ∧ Below w.heap.size w w') := Lib.hid (fun w => by
    have := paste_Put ⟨#[97, 98]⟩ 0 0 ⟨#[120, 121]⟩ false false 1 (by decide) (by decide) w
    rw [show Pst.put (⟨#[97, 98]⟩ : ByteArray).data.toList 0 (⟨#[120, 121]⟩ : ByteArray).data.toList false false 1 = (Pst.exU, 2, 0) from Pst.ex_put] at this
    exact this)
  have hX := Below.refl w.heap.size w
  have g0 : ((⟨#[97, 120, 121, 98]⟩ : ByteArray).toList == (⟨#[97, 120, 121, 98]⟩ : ByteArray).toList) = true := by simp
  go_enter Try.func7, Try.ntmps7
  go_wp2_with (go_at_call 8; (with_reducible refine (C0.out _).mono ?_); rintro e u ⟨rfl, hbn⟩; replace hX := hX.trans (hbn.mono hX.size); clear hbn)
  go_ret
  exact ⟨rfl, hX⟩
section
open Go.ChangeShapes Go.WideShapes Go.ChangeAt
variable {H : Type} {enc : TypeId × Value → H} {W : World}
theorem cells_reg1 : Try.prog.cellsOf 23 = 3 := by kernel_rfl
/-- An argument that is a register. -/
theorem open_reg {base : Nat} {v : Value} {d : DataW H} {p : List MemPlace} (ho : Value.okWide Try.prog W .any base 23 v)
    (h : DataW.Trod enc Try.prog W 0 (fun _ => true) true 23 v d p) :
    ∃ (nm : Int) (l : Bool) (x : ByteArray), v = .agg #[.int .i64 nm, .bool l, .string x] := by
  simp only [Value.okWide, Try.underlying23] at ho
  obtain ⟨cs, rfl, _, _⟩ := ho
  obtain ⟨fuel, hf⟩ := h
  obtain ⟨xs, n, _, hx, hlen0, hlen, hf⟩ := DataW.trod_struct Try.underlying23 hf
  rw [cells_reg1] at hlen0
  simp only [Value.cells] at hlen0 hf
  obtain ⟨L⟩ := cs
  match L, hlen0 with
  | [c0, c1, c2], _ =>
    match xs, hlen with
    | [x0, x1, x2], _ =>
      have f0 := hf 0 _ rfl
      have f1 := hf 1 _ rfl
      have f2 := hf 2 _ rfl
      have hi : Try.prog.cellsOf 3 = 1 := by kernel_rfl
      have hb : Try.prog.cellsOf 4 = 1 := by kernel_rfl
      have hs : Try.prog.cellsOf 9 = 1 := by kernel_rfl
      simp only [List.getElem_toArray, List.getElem_cons_zero, List.getElem_cons_succ, hi, hb, hs, List.drop_succ_cons, List.drop_zero, List.take_succ_cons, List.take_zero, List.getElem?_cons_zero, List.getElem?_cons_succ] at f0 f1 f2
      obtain ⟨m, e0, _, _⟩ := DataW.trod_int Try.underlying3 f0
      obtain ⟨b, e1, _⟩ := DataW.trod_bool Try.underlying4 f1
      obtain ⟨s, e2, _, _⟩ := DataW.trod_string Try.underlying9 f2
      simp at e0 e1 e2
      subst e0 e1 e2
      exact ⟨m, b, s, rfl⟩
end
end Go.Proofs.Ytambboomabeioaa
