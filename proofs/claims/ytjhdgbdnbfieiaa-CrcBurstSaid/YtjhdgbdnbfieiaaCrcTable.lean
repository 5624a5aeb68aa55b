/-
  The table that the program makes anew by each call holds eight steps of each number of one byte.
-/
import Derived.Test.YtjhdgbdnbfieiaaCrcEight
import Derived.Laws.Rows
import Derived.Laws.Tables
import Derived.Laws.CopyOwn
namespace Go.Proofs.Ytjhdgbdnbfieiaa
open Go.RowKit
open Crc
/-- The cells of 256 registers. -/
def regs (f : Nat → Nat) : Array Value := ((List.range 256).map fun i => Value.int .u32 ((f i : Nat) : Int)).toArray
theorem regs_size (f : Nat → Nat) : (regs f).size = 256 := by simp [regs]
theorem regs_get (f : Nat → Nat) {i : Nat} (h : i < 256) : (regs f)[i]? = some (.int .u32 ((f i : Nat) : Int)) := by
  simp [regs, List.getElem?_range h]
theorem regs_one (f : Nat → Nat) : (regs f).all (·.oneCell') = true := by
  rw [Array.all_eq_true_iff_forall_mem]
  intro x hx
  simp only [regs, List.mem_toArray, List.mem_map] at hx
  obtain ⟨i, _, rfl⟩ := hx
  rfl
theorem regs_ext {f g : Nat → Nat} (h : ∀ i, i < 256 → f i = g i) : regs f = regs g := by
  unfold regs
  congr 1
  apply List.map_congr_left
  intro i hi
  rw [h i (List.mem_range.1 hi)]
theorem regs_set (f : Nat → Nat) (i v : Nat) : (regs f).setIfInBounds i (.int .u32 (v : Int)) = regs fun j => if j = i then v else f j := by
  apply Array.ext_getElem?
  intro j
  rw [Array.getElem?_setIfInBounds]
  by_cases hj : j < 256
  · rw [regs_get _ hj, regs_get _ hj, regs_size]
    by_cases e : i = j
    · subst e; simp [hj]
    · rw [if_neg e, if_neg (fun h => e h.symm)]
  · rw [Array.getElem?_eq_none (by rw [regs_size]; omega), Array.getElem?_eq_none (by rw [regs_size]; omega), regs_size]
    split <;> simp_all
/-- What the table holds when single bits below k are done. -/
def tabAt (n i : Nat) : Nat := if i < n then step8 i else 0
theorem step8_two {k j : Nat} (h : j < 2 ^ k) : step8 (2 ^ k + j) = step8 (2 ^ k) ^^^ step8 j := by
  have h2 := Nat.two_pow_add_eq_or_of_lt (i := k) h 1
  have h3 : 2 ^ k * 1 ||| j = 2 ^ k ^^^ j := by
    rw [Nat.mul_one]
    apply Nat.eq_of_testBit_eq
    intro i
    rw [Nat.testBit_xor, Nat.testBit_or]
    by_cases hi : i < k
    · have : (2 ^ k).testBit i = false := by
        have := Nat.testBit_two_pow_of_ne (n := k) (m := i) (by omega)
        exact this
      simp [this]
    · have : j.testBit i = false := Nat.testBit_lt_two_pow (Nat.lt_of_lt_of_le h (Nat.pow_le_pow_right (by omega) (by omega)))
      simp [this]
  rw [h3, Nat.mul_one] at h2
  rw [h2]
  exact steps_xor 8 _ _
theorem zeros_regs (w : World) : (zeroValue 44).run Try.prog w = .ok (.agg (regs (tabAt 0))) w := by kernel_rfl
theorem tab_inner (M j : Nat) : (regs (tabAt (M + max j 1))).setIfInBounds (M + j) (.int .u32 ((step8 (M + j) : Nat) : Int)) = regs (tabAt (M + max (j + 1) 1)) := by
  rw [regs_set]
  apply regs_ext
  intro i _
  unfold tabAt
  by_cases e : i = M + j
  · subst e; rw [if_pos rfl, if_pos (by omega)]
  · rw [if_neg e]
    by_cases h : i < M + max j 1
    · rw [if_pos h, if_pos (by omega)]
    · rw [if_neg h, if_neg (by omega)]
theorem tab_start (M : Nat) : (regs (tabAt M)).setIfInBounds M (.int .u32 ((step8 M : Nat) : Int)) = regs (tabAt (M + max 0 1)) := by
  rw [regs_set]
  apply regs_ext
  intro i _
  unfold tabAt
  by_cases e : i = M
  · subst e; rw [if_pos rfl, if_pos (by omega)]
  · rw [if_neg e]
    by_cases h : i < M
    · rw [if_pos h, if_pos (by omega)]
    · rw [if_neg h, if_neg (by omega)]
theorem tab_zero : regs (tabAt 0) = regs (tabAt (2 ^ 0)) := by
  apply regs_ext
  intro i _
  unfold tabAt
  by_cases e : i < 2 ^ 0
  · rw [if_pos e]
    have : i = 0 := by simpa using e
    subst this
    decide
  · rw [if_neg e, if_neg (by omega)]
theorem tab_xor {M j : Nat} (hm : Hid (∃ k, M = 2 ^ k)) (hj : j < M) (h8 : M ≤ 128) : bits .xor .u32 ((step8 M : Nat) : Int) ((step8 j : Nat) : Int) = ((step8 (M + j) : Nat) : Int) := by
  obtain ⟨k, rfl⟩ := hm.out
  have h1 : step8 (2 ^ k) < 4294967296 := step8_lt (by omega)
  have h2 : step8 j < 4294967296 := step8_lt (by omega)
  rw [u32_xor_nat _ _ h1 h2, step8_two hj]
set_option maxHeartbeats 400000 in
theorem crc_table (w : World) :
    Calls Try.prog 21 #[] w fun e w' => e = .returned (.agg (regs step8)) ∧ Below w.heap.size w w' := by
  have hal := zeros_regs
  go_enter Try.func21, Try.ntmps21
  go_wp2
  clear hal
  go_loopw [5] (fun i wr => ∃ k : Nat, k ≤ 8 ∧ i = .int .i64 k ∧ Blk wr w.heap.size 44 (regs (tabAt 0)) ∧ Blk wr (w.heap.size + 1) 44 (regs (tabAt (2 ^ k))) ∧ Below w.heap.size w wr) (fun i _ => 8 - (intOf i).toNat)
  case atStart =>
    refine ⟨0, Nat.zero_le _, rfl, (Blk.new w _ _).alloc _, ?_, ((Below.refl _ _).alloc (Nat.le_refl _) _).alloc (by simp) _⟩
    rw [← tab_zero]
    have := Blk.new (w.alloc (.cells (regs (tabAt 0)) 44)) 44 (regs (tabAt 0))
    simpa using this
  case round =>
    obtain ⟨k, hk, rfl, h0, h1, hW⟩ := hrel
    by_cases hlt : k < 8
    · obtain ⟨M, hM⟩ : ∃ M, M = 2 ^ k := ⟨_, rfl⟩
      have hM1 : 1 ≤ M ∧ M ≤ 128 := by
        subst hM
        exact ⟨Nat.one_le_two_pow, Nat.pow_le_pow_right (n := 2) (j := 7) (by omega) (by omega)⟩
      obtain ⟨m1, m2⟩ := hM1
      have hw : wrap64 (2 ^ k) = (M : Int) := by
        have : ((2 : Int) ^ k) = ((M : Nat) : Int) := by rw [hM]; simp
        rw [this]
        exact IntWalk.wrap64_in (M : Int) (by omega)
      have hE : Hid (∃ k, M = 2 ^ k) := ⟨k, hM⟩
      have hM2 := Lib.hid hM
      rw [← hM] at h1
      clear hM
      have c1 := h1.cell M
      rw [regs_get _ (by omega)] at c1
      have z1 := h1.frozen M
      go_wp2_with (go_at_call 25; refine (crc_eight M (by omega) _).mono ?_; rintro e w1 ⟨rfl, rfl⟩)
      have h0' : Blk (wr.setCell ⟨w.heap.size + 1, M, none⟩ (.int .u32 (step8 M : Nat))) w.heap.size 44 (regs (tabAt 0)) := h0.far (by simp) _
      have h1' := h1.set_ M (.int .u32 (step8 M : Nat))
      rw [tab_start] at h1'
      have hW' : Below w.heap.size w (wr.setCell ⟨w.heap.size + 1, M, none⟩ (.int .u32 (step8 M : Nat))) := hW.setCell (by simp) _
      generalize wr.setCell ⟨w.heap.size + 1, M, none⟩ (.int .u32 (step8 M : Nat)) = wo at h0' h1' hW' ⊢
      clear c1 z1 h1 h0 hW hw
      go_loopw [16] (fun i wi => ∃ j : Nat, j ≤ M ∧ i = .int .i64 j ∧ Blk wi w.heap.size 44 (regs (tabAt 0)) ∧ Blk wi (w.heap.size + 1) 44 (regs (tabAt (M + max j 1))) ∧ Below w.heap.size w wi) (fun i _ => M - (intOf i).toNat)
      case atStart => exact ⟨0, Nat.zero_le _, rfl, h0', h1', hW'⟩
      case round =>
        obtain ⟨j, hj, rfl, g0, g1, gW⟩ := hrel
        clear h0' h1' hW'
        by_cases hjl : j < M
        · have cM := g1.cell M
          rw [regs_get _ (by omega)] at cM
          have cj := g1.cell j
          rw [regs_get _ (by omega)] at cj
          have cs := g1.cell (M + j)
          rw [regs_get _ (by omega)] at cs
          have zs := g1.frozen (M + j)
          have eM : tabAt (M + max j 1) M = step8 M := if_pos (by omega)
          have ej : tabAt (M + max j 1) j = step8 j := if_pos (by omega)
          rw [eM] at cM
          rw [ej] at cj
          have hx := tab_xor hE hjl m2
          have hN := Lib.hid (tab_inner M j)
          clear eM ej
          have g0' : Blk (wr.setCell ⟨w.heap.size + 1, M + j, none⟩ (.int .u32 (step8 (M + j) : Nat))).drew w.heap.size 44 (regs (tabAt 0)) := g0.far (by simp) _
          have g1' : Blk (wr.setCell ⟨w.heap.size + 1, M + j, none⟩ (.int .u32 (step8 (M + j) : Nat))).drew (w.heap.size + 1) 44 (regs (tabAt (M + max (j + 1) 1))) := by
            have := g1.set_ (M + j) (.int .u32 (step8 (M + j) : Nat))
            rw [hN.out] at this
            exact this
          have gW' : Below w.heap.size w (wr.setCell ⟨w.heap.size + 1, M + j, none⟩ (.int .u32 (step8 (M + j) : Nat))).drew := (gW.setCell (by simp) _).drew
          clear g0 g1 gW hN
          go_wp2
          go_region
          go_wp2
          exact ⟨⟨j + 1, by omega, by go_num, g0', g1', gW'⟩, by simp [intOf]; omega⟩
        · have hjM : j = M := by omega
          have g1' : Blk wr (w.heap.size + 1) 44 (regs (tabAt (2 ^ (k + 1)))) := by
            have : M + max j 1 = 2 ^ (k + 1) := by rw [Nat.pow_succ, ← hM2.out]; omega
            rw [this] at g1
            exact g1
          clear hjM
          go_wp2
          exact ⟨⟨k + 1, by omega, by go_num, g0, g1', gW⟩, by simp [intOf]; omega⟩
    · have hk8 : regs (tabAt (2 ^ k)) = regs step8 := by
        have : k = 8 := by omega
        subst this
        apply regs_ext
        intro i hi
        exact if_pos hi
      rw [hk8] at h1
      clear hk8
      have hi : (Try.prog.info? 44).map (·.size) = some (regs step8).size := by rw [regs_size]; kernel_rfl
      have hHi := Lib.hid hi
      clear hi
      go_wp2_with (first
        | (refine wpList_load_row rfl 44 _ rfl (w.heap.size + 1) rfl 44 _ (0, 0) _ h1 Try.underlying44 rfl hHi.out ?_)
        | (refine wpList_store_row rfl 44 _ _ rfl w.heap.size (regs step8) rfl rfl 44 _ h0 hHi.out (by rw [regs_size, regs_size]) (regs_one _) ?_))
      have hs := setRow_heap wr w.heap.size (regs (tabAt 0)) (regs step8) 44 (0, 0) h0
      exact bodyPost_ret (v := .agg (regs step8)) (results_cell_row rfl _ _ w.heap.size 44 (regs step8) (0, 0) _ rfl hs Try.underlying44 rfl hHi.out) rfl ⟨rfl, below_setRow hW (Nat.le_refl _) _⟩
end Go.Proofs.Ytjhdgbdnbfieiaa
