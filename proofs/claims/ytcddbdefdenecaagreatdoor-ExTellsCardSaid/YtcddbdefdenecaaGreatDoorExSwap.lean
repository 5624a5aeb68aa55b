/-
  A pattern and what it is put for, as package ex reads them: strings.SplitN at three slashes.
-/
import Derived.Test.YtcddbdefdenecaaGreatDoorExRead
import Derived.Shelf.Strings.SplitCore
namespace Go.Proofs.YtcddbdefdenecaaGreatDoor
open Go.RowKit Go.Shelf
open Ex (Ln)
namespace Ex
theorem cutK_length : ∀ (k : Nat) (s : List UInt8), (cutK k s).length ≤ s.length + 1 ∧ (cutK k s).length ≤ k + 1 := by
  intro k
  induction k with
  | zero => intro s; simp [cutK]
  | succ k ih =>
    intro s
    unfold cutK
    by_cases h : Lib.indexByte s 47 = -1
    · rw [if_pos h]; simp
    · rw [if_neg h]
      obtain ⟨o, ho⟩ : ∃ o : Nat, Lib.indexByte s 47 = o := ⟨(Lib.indexByte s 47).toNat, by have := Lib.indexByte_ge s 47; omega⟩
      have h1 := (Lib.indexByte_some ho).1
      have hlt : o < s.length := by
        by_cases hlt : o < s.length
        · exact hlt
        · rw [List.getElem?_eq_none (by omega)] at h1; cases h1
      have := ih (s.drop ((Lib.indexByte s 47).toNat + 1))
      rw [ho, Int.toNat_natCast] at this ⊢
      rw [List.length_drop] at this
      rw [List.length_cons]
      omega
theorem substP_few {l : Ln} {p : List (List UInt8)} (h : p.length ≠ 4) : substP l p = (zero, 3) := by
  unfold substP
  split
  · simp at h
  · rfl
/-- The parts that the program has: all, where there are four of them. -/
def prts (s : List UInt8) : List (List UInt8) := cutK (min 4 (s.length + 1) - 1) s
theorem subst_prts (l : Ln) (s : List UInt8) : subst l s = substP l (prts s) := by
  rw [subst_cut]
  unfold prts
  by_cases h : 3 ≤ s.length
  · rw [show min 4 (s.length + 1) - 1 = 3 by omega]
  · have h1 := (cutK_length 3 s).1
    have h2 := (cutK_length (min 4 (s.length + 1) - 1) s).1
    rw [substP_few (by omega), substP_few (by omega)]
theorem rest_five (l : Ln) (s : List UInt8) : rest l 5 s = substP l (prts s) := by
  rw [← subst_prts]; rfl
end Ex
set_option maxHeartbeats 1000000 in
theorem str_split4 (s : ByteArray) (hs : s.size < 4294967281) (w : World) :
    Calls Tryz.prog 77 #[.string s, .string ⟨#[47]⟩, .int .i64 4] w fun e w' =>
      e = .returned (.slice (some ⟨w.heap.size, 0, none⟩) (Ex.prts s.data.toList).length (min 4 (s.size + 1))) ∧ w' = w.alloc (.cells (Lib.cellsOf ((Ex.prts s.data.toList).map bs) (min 4 (s.size + 1))) 9) := by
  have C := Any.strings_genSplit_core { Tryz.lays147 with } (by kernel_rfl) s ⟨#[47]⟩ 0 4 (min 4 (s.size + 1)) w hs (by decide) (Nat.zero_le _)
    (fun x c _ => by
      have := Tryz.strings_Index_one x 47 (w.alloc (.cells c 9))
      refine this.mono fun e w' h => ⟨?_, h.2⟩
      rw [h.1]
      show _ = Ending.returned (Value.int .i64 (Lib.index x.data.toList [47]))
      rw [Lib.index_one])
    (by
      have := Tryz.strings_Count_one s 47 w
      refine this.mono fun e w' h => ⟨?_, h.2⟩
      rw [h.1]
      show _ = Ending.returned (Value.int .i64 ((Lib.count s.data.toList [47] : Nat) : Int))
      rw [Lib.count_one]; rfl)
    (by decide) (by decide) (by rw [if_neg (by decide)]; omega)
  rw [Ex.split_cut] at C
  have hp : Ex.cutK (min 4 (s.size + 1) - 1) s.data.toList = Ex.prts s.data.toList := by unfold Ex.prts; rw [data_len]
  rw [hp, List.length_map] at C
  have C1 := Lib.hid C
  clear C hp
  go_enter Tryz.func77, Tryz.ntmps77
  go_wp2_with (go_at_call 90; refine C1.out.mono ?_; rintro e w1 ⟨rfl, rfl⟩)
  go_ret
  exact ⟨rfl, rfl⟩
set_option maxHeartbeats 1000000 in
set_option maxRecDepth 100000 in
theorem ex_swap_few {s : ByteArray} (p : Nat) (hs : s.size ≤ 1000000000) (h : (Ex.prts s.data.toList).length ≠ 4) (w : World) :
    Calls Tryz.prog 65 #[.string s, .pointer (some ⟨p, 0, none⟩)] w (Ex.ReadIs p (Ex.zero, 3) w) := by
  have C := Lib.hid (fun w => str_split4 s (by omega) w)
  generalize (Ex.prts s.data.toList).length = n at *
  have g1 : ((n : Int) != 4) = true := by rw [bne_iff_ne]; omega
  go_enter Tryz.func65, Tryz.ntmps65
  go_wp2_with (go_at_call 77; refine (C.out _).mono ?_; rintro e w1 ⟨rfl, rfl⟩)
  go_ret
  exact ⟨rfl, (fun h => by cases h), gb_below _ ((Below.refl _ _).alloc (Nat.le_refl _) _)⟩
theorem str_split_four {s : ByteArray} {a b c d : List UInt8} (hs : s.size < 4294967281) (h : Ex.prts s.data.toList = [a, b, c, d]) (w : World) :
    Calls Tryz.prog 77 #[.string s, .string ⟨#[47]⟩, .int .i64 4] w fun e w' =>
      e = .returned (.slice (some ⟨w.heap.size, 0, none⟩) 4 4) ∧ w' = w.alloc (.cells #[.string (bs a), .string (bs b), .string (bs c), .string (bs d)] 9) := by
  have hm : min 4 (s.size + 1) = 4 := by
    have h1 := (Ex.cutK_length (min 4 (s.data.toList.length + 1) - 1) s.data.toList).2
    unfold Ex.prts at h
    rw [h, data_len] at h1
    simp only [List.length_cons, List.length_nil] at h1
    omega
  have C := str_split4 s hs w
  rw [hm, h] at C
  exact C
set_option maxHeartbeats 1000000 in
set_option maxRecDepth 100000 in
theorem ex_swap_head {s : ByteArray} (p : Nat) {a b c d : List UInt8} (hs : s.size ≤ 1000000000) (h : Ex.prts s.data.toList = [a, b, c, d]) (ha : a ≠ []) (w : World) :
    Calls Tryz.prog 65 #[.string s, .pointer (some ⟨p, 0, none⟩)] w (Ex.ReadIs p (Ex.zero, 3) w) := by
  have C := Lib.hid (fun w => str_split_four (by omega) h w)
  have e0 : (bs a).toList.isEmpty = false := by rw [bs_tl]; simpa using ha
  have B := Blk.new w 9 #[.string (bs a), .string (bs b), .string (bs c), .string (bs d)]
  have W1 := gb_below (some p) ((Below.refl w.heap.size w).alloc (Nat.le_refl _) (.cells #[.string (bs a), .string (bs b), .string (bs c), .string (bs d)] 9))
  have c0 := B.cell 0
  have c1 := B.cell 1
  have c3 := B.cell 3
  simp only [List.getElem?_toArray, List.getElem?_cons_zero, List.getElem?_cons_succ] at c0 c1 c3
  generalize bs a = A at *
  generalize bs b = B' at *
  generalize bs c = C' at *
  generalize bs d = D at *
  clear h B
  go_enter Tryz.func65, Tryz.ntmps65
  go_wp2_with (go_at_call 77; refine (C.out _).mono ?_; rintro e w1 ⟨rfl, hw⟩; rw [← hw] at c0 c1 c3 W1; clear hw)
  go_ret
  exact ⟨rfl, (fun h => by cases h), W1⟩
set_option maxHeartbeats 1000000 in
set_option maxRecDepth 100000 in
theorem ex_swap_empty {s : ByteArray} (p : Nat) {a b c d : List UInt8} (hs : s.size ≤ 1000000000) (h : Ex.prts s.data.toList = [a, b, c, d]) (ha : a = []) (hb : b = []) (w : World) :
    Calls Tryz.prog 65 #[.string s, .pointer (some ⟨p, 0, none⟩)] w (Ex.ReadIs p (Ex.zero, 3) w) := by
  have C := Lib.hid (fun w => str_split_four (by omega) h w)
  have e0 : (bs a).toList.isEmpty = true := by rw [bs_tl]; simpa using ha
  have e1 : (bs b).toList.isEmpty = true := by rw [bs_tl]; simpa using hb
  have B := Blk.new w 9 #[.string (bs a), .string (bs b), .string (bs c), .string (bs d)]
  have W1 := gb_below (some p) ((Below.refl w.heap.size w).alloc (Nat.le_refl _) (.cells #[.string (bs a), .string (bs b), .string (bs c), .string (bs d)] 9))
  have c0 := B.cell 0
  have c1 := B.cell 1
  have c3 := B.cell 3
  simp only [List.getElem?_toArray, List.getElem?_cons_zero, List.getElem?_cons_succ] at c0 c1 c3
  generalize bs a = A at *
  generalize bs b = B' at *
  generalize bs c = C' at *
  generalize bs d = D at *
  clear h B
  go_enter Tryz.func65, Tryz.ntmps65
  go_wp2_with (go_at_call 77; refine (C.out _).mono ?_; rintro e w1 ⟨rfl, hw⟩; rw [← hw] at c0 c1 c3 W1; clear hw)
  go_ret
  exact ⟨rfl, (fun h => by cases h), W1⟩
set_option maxHeartbeats 1000000 in
set_option maxRecDepth 100000 in
theorem ex_swap_tail {s : ByteArray} (p : Nat) {a b c d : List UInt8} (hs : s.size ≤ 1000000000) (h : Ex.prts s.data.toList = [a, b, c, d]) (ha : a = []) (hb : b ≠ []) (hd : d ≠ []) (hg : d ≠ [103]) (w : World) :
    Calls Tryz.prog 65 #[.string s, .pointer (some ⟨p, 0, none⟩)] w (Ex.ReadIs p (Ex.zero, 3) w) := by
  have C := Lib.hid (fun w => str_split_four (by omega) h w)
  have e0 : (bs a).toList.isEmpty = true := by rw [bs_tl]; simpa using ha
  have e1 : (bs b).toList.isEmpty = false := by rw [bs_tl]; simpa using hb
  have e2 : (bs d).toList.isEmpty = false := by rw [bs_tl]; simpa using hd
  have e3 : ((bs d).toList == [103]) = false := by rw [bs_tl, beq_eq_false_iff_ne]; exact hg
  have B := Blk.new w 9 #[.string (bs a), .string (bs b), .string (bs c), .string (bs d)]
  have W1 := gb_below (some p) ((Below.refl w.heap.size w).alloc (Nat.le_refl _) (.cells #[.string (bs a), .string (bs b), .string (bs c), .string (bs d)] 9))
  have c0 := B.cell 0
  have c1 := B.cell 1
  have c3 := B.cell 3
  simp only [List.getElem?_toArray, List.getElem?_cons_zero, List.getElem?_cons_succ] at c0 c1 c3
  generalize bs a = A at *
  generalize bs b = B' at *
  generalize bs c = C' at *
  generalize bs d = D at *
  clear h B
  go_enter Tryz.func65, Tryz.ntmps65
  go_wp2_with (go_at_call 77; refine (C.out _).mono ?_; rintro e w1 ⟨rfl, hw⟩; rw [← hw] at c0 c1 c3 W1; clear hw)
  go_ret
  exact ⟨rfl, (fun h => by cases h), W1⟩
end Go.Proofs.YtcddbdefdenecaaGreatDoor
