/-
  The sums that the program and the document tell, of any pieces.
-/
import Derived.Test.YtjhdgbdnbfieiaaCrcTable
import Derived.Test.YtjhdgbdnbfieiaaStrs
namespace Go.Proofs.Ytjhdgbdnbfieiaa
open Go.RowKit
open Crc
theorem xor_low (X b : Nat) (hb : b < 256) : (X ^^^ b) % 256 = (X % 256) ^^^ b := by
  have := Nat.xor_mod_two_pow (a := X) (b := b) (n := 8)
  rw [show (2 ^ 8 : Nat) = 256 from rfl] at this
  rw [this, Nat.mod_eq_of_lt hb]
theorem xor_high (X b : Nat) (hb : b < 256) : (X ^^^ b) / 256 = X / 256 := by
  apply Nat.eq_of_testBit_eq
  intro i
  have h1 := Nat.testBit_div_two_pow (x := X ^^^ b) (i := i) (n := 8)
  have h2 := Nat.testBit_div_two_pow (x := X) (i := i) (n := 8)
  rw [show (2 ^ 8 : Nat) = 256 from rfl] at h1 h2
  rw [h1, h2, Nat.testBit_xor]
  have : b.testBit (i + 8) = false := Nat.testBit_lt_two_pow (Nat.lt_of_lt_of_le (show b < 2 ^ 8 from hb) (Nat.pow_le_pow_right (by omega) (by omega)))
  rw [this]
  simp
theorem low_lt (X b : Nat) (hb : b < 256) : (X % 256) ^^^ b < 256 := by
  have := Nat.xor_lt_two_pow (n := 8) (x := X % 256) (y := b) (by omega) (by omega)
  simpa using this
theorem low_u8 (X b : Nat) (hb : b < 256) : bits .xor .u8 ((X : Int) % 256) (b : Int) = (((X % 256) ^^^ b : Nat) : Int) := by
  rw [show ((X : Int) % 256) = ((X % 256 : Nat) : Int) by omega]
  exact u8_xor_nat _ _ (by omega) hb
theorem over_u32 (X b : Nat) (hX : X < 4294967296) (hb : b < 256) : bits .xor .u32 ((X : Int) / 256) ((step8 ((X % 256) ^^^ b) : Nat) : Int) = ((step8 (X ^^^ b) : Nat) : Int) := by
  rw [show ((X : Int) / 256) = ((X / 256 : Nat) : Int) by omega]
  have h1 := low_lt X b hb
  rw [u32_xor_nat _ _ (by omega) (step8_lt (by omega)), step8_table (X ^^^ b), xor_low X b hb, xor_high X b hb, Nat.xor_comm]
theorem byte_snoc (s : ByteArray) (k : Nat) (h : k < s.size) : s.data.toList.take (k + 1) = s.data.toList.take k ++ [s[k]] := by
  rw [List.take_succ_eq_append_getElem (by simpa using h)]; rfl
theorem over_snoc (r : Nat) (l : List UInt8) (b : UInt8) : over r (l ++ [b]) = step8 (over r l ^^^ b.toNat) := by rw [over_append]; rfl
set_option maxHeartbeats 400000 in
theorem crc_pass (r : Nat) (hr : r < 4294967296) {A : Option Addr} {c : Nat} {xs : List ByteArray} {w : World} (hx : Strs w A xs) (hl : xs.length ≤ 9223372036854775807) (hs : ∀ s ∈ xs, s.size ≤ 9223372036854775807) :
    Calls Try.prog 19 #[.int .u32 r, .slice A xs.length c] w fun e w' => e = .returned (.int .u32 (over r (flat xs) : Nat)) ∧ Below w.heap.size w w' := by
  have hal := zeros_regs
  have hi : (Try.prog.info? 44).map (·.size) = some (regs step8).size := by rw [regs_size]; kernel_rfl
  have hHi := Lib.hid hi
  clear hi
  have hS := Lib.hid hs
  clear hs
  go_enter Try.func19, Try.ntmps19
  go_wp2_with (first
    | (go_at_call 21; refine (crc_table _).mono ?_; rintro e w1 ⟨rfl, hb⟩)
    | (refine wpList_store_row rfl 44 _ _ rfl w1.heap.size (regs step8) rfl rfl 44 _ (heap_alloc_new w1 _) hHi.out (by rw [regs_size, regs_size]) (regs_one _) ?_))
  have hb1 : Blk ((w1.alloc (.cells (regs (tabAt 0)) 44)).setRow w1.heap.size (regs step8)) w1.heap.size 44 (regs step8) := setRow_heap _ _ _ _ _ _ (heap_alloc_new w1 _)
  have hW : Below w.heap.size w ((w1.alloc (.cells (regs (tabAt 0)) 44)).setRow w1.heap.size (regs step8)) := below_setRow (hb.alloc hb.size _) hb.size _
  generalize (w1.alloc (.cells (regs (tabAt 0)) 44)).setRow w1.heap.size (regs step8) = wo at hb1 hW ⊢
  clear hb hal
  generalize w1.heap.size = B at hb1 ⊢
  have hxo := hx.below hW
  go_loop [0, 12] (fun x i => ∃ k : Nat, k ≤ xs.length ∧ i = .int .i64 k ∧ x = .int .u32 (over r (flat (xs.take k)) : Nat)) (fun _ i => xs.length - (intOf i).toNat)
  case atStart => exact ⟨0, Nat.zero_le _, rfl, rfl⟩
  case round =>
    obtain ⟨k, hk, rfl, rfl⟩ := hrel
    by_cases hlt : k < xs.length
    · obtain ⟨ad, rfl, h1⟩ := hxo.at_ hlt
      have hsz := hS.out xs[k] (List.getElem_mem hlt)
      have hF := Lib.hid (flat_snoc xs k hlt)
      generalize xs[k] = s at h1 hsz hF
      go_wp2
      go_loop [0, 18] (fun x i => ∃ j : Nat, j ≤ s.size ∧ i = .int .i64 j ∧ x = .int .u32 (over r (flat (xs.take k) ++ s.data.toList.take j) : Nat)) (fun _ i => s.size - (intOf i).toNat)
      case atStart => exact ⟨0, Nat.zero_le _, rfl, by simp⟩
      case round =>
        obtain ⟨j, hj, rfl, rfl⟩ := hrel
        by_cases hjl : j < s.size
        · have hX : over r (flat (xs.take k) ++ s.data.toList.take j) < 4294967296 := over_lt _ hr
          have hn : Hid (over r (flat (xs.take k) ++ s.data.toList.take (j + 1)) = step8 (over r (flat (xs.take k) ++ s.data.toList.take j) ^^^ s[j].toNat)) := by
            show _ = _
            rw [byte_snoc s j hjl, ← List.append_assoc, over_snoc]
          have e1 := low_u8 (over r (flat (xs.take k) ++ s.data.toList.take j)) s[j].toNat s[j].toNat_lt
          have e2 := over_u32 (over r (flat (xs.take k) ++ s.data.toList.take j)) s[j].toNat hX s[j].toNat_lt
          have l1 := low_lt (over r (flat (xs.take k) ++ s.data.toList.take j)) s[j].toNat s[j].toNat_lt
          have c1 := hb1.cell (over r (flat (xs.take k) ++ s.data.toList.take j) % 256 ^^^ s[j].toNat)
          rw [regs_get _ l1] at c1
          go_wp2
          go_round
          case rel => exact ⟨j + 1, by omega, by go_num, by rw [hn.out]⟩
          case measure => simp [intOf]; omega
        · have hjs : Hid (flat (xs.take (k + 1)) = flat (xs.take k) ++ s.data.toList.take j) := by
            show _ = _
            rw [hF.out, show s.data.toList.take j = s.data.toList from List.take_of_length_le (by simp; omega)]
          go_wp2
          go_round
          case rel => exact ⟨k + 1, by omega, by go_num, by rw [hjs.out]⟩
          case measure => simp [intOf]; omega
    · have hkx : Hid (xs.take k = xs) := List.take_of_length_le (by omega)
      go_wp2
      go_ret
      exact ⟨by rw [hkx.out]; rfl, hW⟩
theorem xor_full {r : Nat} (h : r < 4294967296) : bits .xor .u32 (r : Int) 4294967295 = ((r ^^^ full : Nat) : Int) := u32_xor_nat r 4294967295 h (by omega)
theorem full_u32 : (4294967295 : Int) = ((full : Nat) : Int) := rfl
set_option maxHeartbeats 400000 in
theorem crc_sum {A : Option Addr} {c : Nat} {xs : List ByteArray} {w : World} (hx : Strs w A xs) (hl : xs.length ≤ 9223372036854775807) (hs : ∀ s ∈ xs, s.size ≤ 9223372036854775807) :
    Calls Try.prog 7 #[.slice A xs.length c] w fun e w' => e = .returned (.int .i64 (Crc.sum (flat xs) : Nat)) ∧ Below w.heap.size w w' := by
  have h1 := crc_pass full full_lt hx hl hs (c := c)
  have hv : over full (flat xs) < 4294967296 := over_lt _ full_lt
  have hxf := xor_full hv
  have H : Hid (Crc.sum (flat xs) = over full (flat xs) ^^^ full) := by
    show _ = _
    unfold Crc.sum more
    rw [Nat.zero_xor]
  have hv2 : over full (flat xs) ^^^ full < 4294967296 := Nat.xor_lt_two_pow hv full_lt
  go_enter Try.func7, Try.ntmps7
  go_wp2_with (go_at_call 19; refine h1.mono ?_; rintro e w1 ⟨rfl, hb⟩)
  go_ret
  exact ⟨by rw [H.out]; rfl, hb⟩
set_option maxHeartbeats 400000 in
theorem crc_more_ok {n : Nat} (s : ByteArray) (hn : n < 4294967296) (hs : s.size ≤ 9223372036854775807) (w : World) :
    Calls Try.prog 9 #[.int .i64 n, .string s] w fun e w' => e = .returned (.int .i64 (more n s.data.toList : Nat)) ∧ Below w.heap.size w w' := by
  have hnf : n ^^^ full < 4294967296 := Nat.xor_lt_two_pow hn full_lt
  have h1 := crc_pass (n ^^^ full) hnf (strs_one w s) (by simp) (by simpa using hs) (c := 1)
  rw [flat_one] at h1
  have hv : over (n ^^^ full) s.data.toList < 4294967296 := over_lt _ hnf
  have hxf := xor_full hn
  have hxg := xor_full hv
  have hv2 : over (n ^^^ full) s.data.toList ^^^ full < 4294967296 := Nat.xor_lt_two_pow hv full_lt
  have H : Hid (more n s.data.toList = over (n ^^^ full) s.data.toList ^^^ full) := by
    show _ = _
    rfl
  go_enter Try.func9, Try.ntmps9
  go_wp2_with (go_at_call 19; refine h1.mono ?_; rintro e w1 ⟨rfl, hb⟩)
  go_ret
  exact ⟨by rw [H.out]; rfl, ((Below.refl _ _).alloc (Nat.le_refl _) _).trans (hb.mono (by simp))⟩
set_option maxHeartbeats 400000 in
theorem crc_more_no {n : Int} (s : ByteArray) (hn : n < 0 ∨ 4294967295 < n) (w : World) :
    Calls Try.prog 9 #[.int .i64 n, .string s] w fun e w' => e = .returned (.int .i64 0) ∧ w = w' := by
  by_cases h : n < 0
  · have g1 : decide (n < 0) = true := by simpa using h
    go_enter Try.func9, Try.ntmps9
    go_wp2
    go_ret
    exact ⟨rfl, rfl⟩
  · have g1 : decide (n < 0) = false := by simpa using h
    have g2 : 4294967295 < n := by omega
    go_enter Try.func9, Try.ntmps9
    go_wp2
    go_ret
    exact ⟨rfl, rfl⟩
end Go.Proofs.Ytjhdgbdnbfieiaa
