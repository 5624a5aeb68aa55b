/-
  The tables that the program and the document tell are the same.
-/
import Derived.Test.YtjhdgbdnbfieiaaCrcRef
import Derived.Test.YtjhdgbdnbfieiaaSame
namespace Go.Proofs.Ytjhdgbdnbfieiaa
open Go.RowKit
open Crc
/-- The cells of 256 numbers. -/
def nums (f : Nat → Nat) : Array Value := ((List.range 256).map fun i => Value.int .i64 ((f i : Nat) : Int)).toArray
theorem nums_size (f : Nat → Nat) : (nums f).size = 256 := by simp [nums]
theorem nums_get (f : Nat → Nat) {i : Nat} (h : i < 256) : (nums f)[i]? = some (.int .i64 ((f i : Nat) : Int)) := by
  simp [nums, List.getElem?_range h]
theorem nums_set (f : Nat → Nat) (i v : Nat) : (nums f).setIfInBounds i (.int .i64 (v : Int)) = nums fun j => if j = i then v else f j := by
  apply Array.ext_getElem?
  intro j
  rw [Array.getElem?_setIfInBounds]
  by_cases hj : j < 256
  · rw [nums_get _ hj, nums_get _ hj, nums_size]
    by_cases e : i = j
    · subst e; simp [hj]
    · rw [if_neg e, if_neg (fun h => e h.symm)]
  · rw [Array.getElem?_eq_none (by rw [nums_size]; omega), Array.getElem?_eq_none (by rw [nums_size]; omega), nums_size]
    split <;> simp_all
theorem nums_tab (j : Nat) : (nums (tabAt j)).setIfInBounds j (.int .i64 ((step8 j : Nat) : Int)) = nums (tabAt (j + 1)) := by
  rw [nums_set]
  congr 1
  funext i
  unfold tabAt
  by_cases e : i = j
  · subst e; rw [if_pos rfl, if_pos (by omega)]
  · rw [if_neg e]
    by_cases h : i < j
    · rw [if_pos h, if_pos (by omega)]
    · rw [if_neg h, if_neg (by omega)]
/-- The list of what eight steps make of each number of one byte. -/
def tabList : List Int := (List.range 256).map fun i => ((step8 i : Nat) : Int)
theorem tabList_length : tabList.length = 256 := by simp [tabList]
theorem nums_make (w : World) : (Instr.makeSlice 26 (.int .i64 256) (.int .i64 256)).run Try.prog w = .ok (.slice (some ⟨w.heap.size, 0, none⟩) 256 256) (w.alloc (.cells (nums (tabAt 0)) 3)) := by kernel_rfl
theorem ints_of_blk {w : World} {g : Nat} (h : Blk w g 3 (nums (tabAt 256))) : Ints w (some ⟨g, 0, none⟩) tabList := fun _ => by
  refine ⟨_, rfl, h.lt, fun j x hx => ?_⟩
  have hj : j < 256 := by
    rcases Nat.lt_or_ge j 256 with h' | h'
    · exact h'
    · rw [List.getElem?_eq_none (by rw [tabList_length]; exact h')] at hx; cases hx
  have e : (⟨g, 0, none⟩ : Addr).add j = ⟨g, j, none⟩ := by unfold Addr.add; split <;> simp_all
  rw [e, h.cell, nums_get _ hj]
  simp only [tabList, List.getElem?_map, List.getElem?_range hj, Option.map_some, Option.some.injEq] at hx
  rw [← hx]
  unfold tabAt
  rw [if_pos hj]
set_option maxHeartbeats 800000 in
set_option maxRecDepth 100000 in
theorem crc_Table (w : World) :
    Calls Try.prog 12 #[] w fun e w' => (∃ A, e = .returned (.slice A 256 256) ∧ Ints w' A tabList) ∧ Below w.heap.size w w' := by
  have hal := zeros_regs
  have hmk := nums_make
  have hi : (Try.prog.info? 44).map (·.size) = some (regs step8).size := by rw [regs_size]; kernel_rfl
  have hHi := Lib.hid hi
  clear hi
  go_enter Try.func12, Try.ntmps12
  go_wp2_with (first
    | (go_at_call 21; refine (crc_table _).mono ?_; rintro e w1 ⟨rfl, hb⟩)
    | (refine wpList_store_row rfl 44 _ _ rfl w1.heap.size (regs step8) rfl rfl 44 _ (heap_alloc_new w1 _) hHi.out (by rw [regs_size, regs_size]) (regs_one _) ?_))
  have hb1 : Blk (((w1.alloc (.cells (regs (tabAt 0)) 44)).setRow w1.heap.size (regs step8)).alloc (.cells (nums (tabAt 0)) 3)) w1.heap.size 44 (regs step8) := Blk.alloc (setRow_heap _ _ _ _ _ _ (heap_alloc_new w1 _)) _
  have hb2 : Blk (((w1.alloc (.cells (regs (tabAt 0)) 44)).setRow w1.heap.size (regs step8)).alloc (.cells (nums (tabAt 0)) 3)) (w1.heap.size + 1) 3 (nums (tabAt 0)) := by
    have := Blk.new ((w1.alloc (.cells (regs (tabAt 0)) 44)).setRow w1.heap.size (regs step8)) 3 (nums (tabAt 0))
    simpa using this
  have hW : Below w.heap.size w (((w1.alloc (.cells (regs (tabAt 0)) 44)).setRow w1.heap.size (regs step8)).alloc (.cells (nums (tabAt 0)) 3)) := Below.alloc (below_setRow (hb.alloc hb.size _) hb.size _) (by have := hb.size; simp; omega) _
  have hB := hb.size
  generalize ((w1.alloc (.cells (regs (tabAt 0)) 44)).setRow w1.heap.size (regs step8)).alloc (.cells (nums (tabAt 0)) 3) = wo at hb1 hb2 hW ⊢
  clear hb hal hmk
  generalize w1.heap.size = B at hb1 hb2 hB ⊢
  go_loopw [6] (fun i wr => ∃ j : Nat, j ≤ 256 ∧ i = .int .i64 j ∧ Blk wr B 44 (regs step8) ∧ Blk wr (B + 1) 3 (nums (tabAt j)) ∧ Below w.heap.size w wr) (fun i _ => 256 - (intOf i).toNat)
  case atStart => exact ⟨0, Nat.zero_le _, rfl, hb1, hb2, hW⟩
  case round =>
    obtain ⟨j, hj, rfl, h1, h2, hR⟩ := hrel
    clear hb1 hb2 hW
    by_cases hjl : j < 256
    · have c1 := h1.cell j
      rw [regs_get _ hjl] at c1
      have c2 := h2.cell j
      rw [nums_get _ hjl] at c2
      have z2 := h2.frozen j
      have l8 : step8 j < 4294967296 := step8_lt (by omega)
      have k1 : Blk (wr.setCell ⟨B + 1, j, none⟩ (.int .i64 ((step8 j : Nat) : Int))) B 44 (regs step8) := h1.far (by simp) _
      have k2 := h2.set_ j (.int .i64 ((step8 j : Nat) : Int))
      rw [nums_tab] at k2
      have kR : Below w.heap.size w (wr.setCell ⟨B + 1, j, none⟩ (.int .i64 ((step8 j : Nat) : Int))) := hR.setCell (by simp; omega) _
      clear h1 h2 hR
      go_wp2
      go_roundw
      case rel => exact ⟨j + 1, by omega, by go_num, k1, k2, kR⟩
      case measure => simp [intOf]; omega
    · have e : j = 256 := by omega
      subst e
      have hI := ints_of_blk h2
      go_wp2
      go_ret
      exact ⟨⟨_, rfl, hI⟩, hR⟩
theorem tab_snoc {k : Nat} (h : k < 256) : tabList.take (k + 1) = tabList.take k ++ [((step8 k : Nat) : Int)] := by
  rw [List.take_succ_eq_append_getElem (by rw [tabList_length]; exact h)]
  simp [tabList]
theorem append_one_cell (w : World) (t : TypeId) (v : Value) (j : Nat) (u : Value) (h : [v][j]? = some u) : (w.alloc (.cells #[v] t)).cell? ((⟨w.heap.size, 0, none⟩ : Addr).add j) = some u := by
  have hb := Blk.new w t #[v]
  have e : (⟨w.heap.size, 0, none⟩ : Addr).add j = ⟨w.heap.size, j, none⟩ := by unfold Addr.add; split <;> simp_all
  rw [e, hb.cell]
  match j, h with
  | 0, h => simpa using h
set_option maxHeartbeats 800000 in
set_option maxRecDepth 100000 in
theorem ref_Table (w : World) :
    Calls Try.prog 13 #[] w fun e w' => GotInts w.heap.size tabList e w' ∧ Below w.heap.size w w' := by
  obtain ⟨i0, hi, hz0, hz1, hz2⟩ := info_parts info_int
  go_enter Try.func13, Try.ntmps13
  go_wp2
  go_loopw [1, 2] (fun v i wr => ∃ k : Nat, k ≤ 256 ∧ i = .int .i64 k ∧ wr.ownsRow w.heap.size 3 1 v k ((tabList.take k).map (Value.int .i64)) ∧ Below w.heap.size w wr) (fun _ i _ => 256 - (intOf i).toNat)
  case atStart => exact ⟨0, Nat.zero_le _, rfl, World.ownsRow_nil _ _ _ _, Below.refl _ _⟩
  case round =>
    obtain ⟨k, hk, rfl, hown, hR⟩ := hrel
    by_cases hlt : k < 256
    · have hS := Lib.hid (tab_snoc hlt)
      go_wp2_with (first
        | (go_at_call 20; refine (ref_step k (by omega) _).mono ?_; rintro e w2 ⟨rfl, rfl⟩)
        | (at_builtin; refine wpList_append_own _ rfl _ _ 26 rfl w.heap.size 3 i0 (.int .i64 0) 1 8 Try.underlying26 hi hz0 hz1 hz2 rfl (by decide) _ _ _ rfl (hown.alloc _) ⟨wr.heap.size, 0, none⟩ 1 1 [.int .i64 ((step8 k : Nat) : Int)] rfl rfl ?c1 ?c2 ?c3 ?c4 ?c5 ?_))
      case c1 => exact append_one_cell _ _ _
      case c2 => intro u hu; simp at hu; subst hu; rfl
      case c3 => unfold maxLen; omega
      case c4 => omega
      case c5 => have := hR.size; simp; omega
      intro v' w3 hown' hgrow _
      have hR3 : Below w.heap.size w w3 := (hR.alloc hR.size _).grown hgrow (by have := hR.size; simp; omega) (fun g hg => (hown.lt g hg).1)
      have hown3 : w3.ownsRow w.heap.size 3 1 v' (k + 1) ((tabList.take (k + 1)).map (Value.int .i64)) := by rw [hS.out]; simpa using hown'
      clear hown' hgrow hown hR hS
      go_wp2
      go_roundw
      case rel => exact ⟨k + 1, by omega, by go_num, hown3, hR3⟩
      case measure => simp [intOf]; omega
    · have hkl : Hid (tabList.take k = tabList) := List.take_of_length_le (by rw [tabList_length]; omega)
      have hk2 : Hid (k = tabList.length) := by show _ = _; rw [tabList_length]; omega
      go_wp2
      go_ret
      exact ⟨⟨_, rfl, by rw [hkl.out, hk2.out] at hown; exact hown⟩, hR⟩
end Go.Proofs.Ytjhdgbdnbfieiaa
