/-
  strings.Split at a line feed: a text's lines, one by one.
-/
import Derived.Test.YtlfhfpjffdaomaaDoorParts
import Derived.Test.YtlfhfpjffdaomaaDoorStrs
import Derived.Test.YtlfhfpjffdaomaaDoorShelf
import Derived.Shelf.Strings.SplitCore
import Derived.Lib.SplitLaws
import Derived.Lib.IndexBytes
namespace Go.Proofs.YtlfhfpjffdaomaaDoor
open Go.RowKit Go.Shelf
namespace Gl
theorem split_parts : ∀ (n : Nat) (s : ByteArray), s.size ≤ n → ∀ k, s.data.toList.count 10 ≤ k → Lib.splitB ⟨#[10]⟩ 0 k s = (Ix.parts s.data.toList).map bs := by
  intro n
  induction n with
  | zero =>
    intro s hs k _
    have h0 : s.data.toList = [] := List.length_eq_zero_iff.1 (by rw [data_len]; omega)
    have h : Lib.indexB s ⟨#[10]⟩ = -1 := by
      show Lib.index s.data.toList [10] = -1
      rw [h0]; rfl
    rw [Lib.splitB_miss _ _ _ _ h, h0]
    show [s] = [bs []]
    rw [← h0]; rfl
  | succ n ih =>
    intro s hs k hk
    have hl := data_len s
    have e : Lib.indexB s ⟨#[10]⟩ = Lib.indexByte s.data.toList 10 := Lib.index_one s.data.toList 10
    have hge := Lib.indexByte_ge s.data.toList 10
    by_cases hi : Lib.indexByte s.data.toList 10 = -1
    · rw [Lib.splitB_miss _ _ _ _ (e.trans hi), Ix.parts_none hi]
      rfl
    · obtain ⟨o, ho⟩ : ∃ o : Nat, Lib.indexByte s.data.toList 10 = o := ⟨(Lib.indexByte s.data.toList 10).toNat, by omega⟩
      obtain ⟨hlt, hp⟩ := Ix.parts_some ho
      obtain ⟨h10, _⟩ := Lib.indexByte_some ho
      have hc : s.data.toList.count 10 = (s.data.toList.take (o + 1)).count 10 + (s.data.toList.drop (o + 1)).count 10 := by rw [← List.count_append, List.take_append_drop]
      have hc1 : 1 ≤ (s.data.toList.take (o + 1)).count 10 := by
        rw [List.take_add_one, h10, List.count_append]
        simp
      obtain ⟨k, rfl⟩ : ∃ j, k = j + 1 := ⟨k - 1, by omega⟩
      rw [Lib.splitB_hit _ _ _ _ _ (e.trans ho), hp, List.map_cons]
      have e1 : s.extract 0 (o + 0) = bs (s.data.toList.take o) := by rw [Lib.extract_eq]; simp [bs]
      have e2 : s.extract (o + (⟨#[10]⟩ : ByteArray).size) s.size = bs (s.data.toList.drop (o + 1)) := by
        rw [Lib.extract_eq, List.take_of_length_le (by rw [List.length_drop]; omega)]; rfl
      rw [e1, e2, ih _ (by rw [bs_size, List.length_drop]; omega) k (by rw [bs_toList]; omega), bs_toList]
end Gl
set_option maxHeartbeats 1000000 in
theorem str_split (s : ByteArray) (hs : s.size < 4294967281) (w : World) :
    Calls Tryd.prog 37 #[.string s, .string ⟨#[10]⟩] w fun e w' =>
      e = .returned (.slice (some ⟨w.heap.size, 0, none⟩) (Ix.parts s.data.toList).length (Ix.parts s.data.toList).length) ∧ w' = w.alloc (.cells (((Ix.parts s.data.toList).map bs).map Value.string).toArray 9) := by
  have hn := Ix.parts_length s.data.toList
  have hcb : Lib.countB s ⟨#[10]⟩ = s.data.toList.count 10 := Lib.count_one 10 _
  have C := Any.strings_genSplit_core { Tryd.lays146 with } (by kernel_rfl) s ⟨#[10]⟩ 0 (-1) (Ix.parts s.data.toList).length w hs (by decide) (Nat.zero_le _)
    (fun x c _ => by
      have := Tryd.strings_Index_one x 10 (w.alloc (.cells c 9))
      refine this.mono fun e w' h => ⟨?_, h.2⟩
      rw [h.1]
      show _ = Ending.returned (Value.int .i64 (Lib.index x.data.toList [10]))
      rw [Lib.index_one])
    (by
      refine (Tryd.strings_Count_one s 10 w).mono fun e w' h => ⟨?_, h.2⟩
      rw [h.1, hcb]
      first | rfl | skip)
    (by decide) (by decide) (by rw [if_pos (by decide), hcb, hn]; have := List.count_le_length (a := (10 : UInt8)) (l := s.data.toList); rw [data_len] at this; omega)
  have hsp := Gl.split_parts s.size s (Nat.le_refl _) ((Ix.parts s.data.toList).length - 1) (by omega)
  rw [hsp] at C
  have hl : ((Ix.parts s.data.toList).map bs).length = (Ix.parts s.data.toList).length := List.length_map _
  have hcells : Lib.cellsOf ((Ix.parts s.data.toList).map bs) (Ix.parts s.data.toList).length = (((Ix.parts s.data.toList).map bs).map Value.string).toArray := by
    have := Lib.cellsOf_full ((Ix.parts s.data.toList).map bs)
    rwa [hl] at this
  rw [hcells, hl] at C
  have C1 := Lib.hid C
  clear C hsp hcells hn hcb hl
  generalize (Ix.parts s.data.toList).length = m at *
  go_enter Tryd.func37, Tryd.ntmps37
  go_wp2_with (go_at_call 52; refine C1.out.mono ?_; rintro e w' ⟨rfl, rfl⟩)
  go_ret
  exact ⟨rfl, by rw [List.map_map]; rfl⟩
/-- Lists that a call has just laid. -/
theorem strs_new (w : World) (xs : List ByteArray) : Strs (w.alloc (.cells (xs.map Value.string).toArray 9)) (some ⟨w.heap.size, 0, none⟩) xs := fun _ => by
  refine ⟨_, rfl, by simp, fun j x hx => ?_⟩
  have hb := Blk.new w 9 (xs.map Value.string).toArray
  have e : (⟨w.heap.size, 0, none⟩ : Addr).add j = ⟨w.heap.size, j, none⟩ := by unfold Addr.add; split <;> simp_all
  rw [e, hb.cell]
  simp [hx]
end Go.Proofs.YtlfhfpjffdaomaaDoor
