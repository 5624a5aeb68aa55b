/-
  Keys one by one, as the program lays them.
-/
import Derived.Test.YtchpkeelnfmlbaaKeyCheck
import Derived.Test.YtchpkeelnfmlbaaStrsOwn
import Derived.OwnWalk
import Derived.Laws.Runes
namespace Go.Proofs.Ytchpkeelnfmlbaa
open Go.RowKit
theorem own_iterAt {w : World} {B : Nat} {e : TypeId} {size n : Nat} {v : Value} {xs : List Value} (h : w.ownsRow B e size v n xs) {k : Nat} {s : ByteArray} {pos : Nat} (hk : w.heap[k]? = some (.stringIter s pos)) (pos' : Nat) : (w.iterAt k s pos').ownsRow B e size v n xs := by
  refine ⟨h.1, ?_⟩
  rcases h.2 with hn | ⟨g, cap, cur, hv, hbg, hg, rest⟩
  · exact .inl hn
  · have hkg : g ≠ k := by
      intro e1
      rw [e1, hk] at hg
      cases hg
    exact .inr ⟨g, cap, cur, hv, hbg, (Lib.iterAt_other w k g s pos' hkg).trans hg, rest⟩
theorem own_ne_iter {w : World} {B : Nat} {e : TypeId} {size n : Nat} {v : Value} {xs : List Value} (h : w.ownsRow B e size v n xs) {k : Nat} {s : ByteArray} {pos : Nat} (hk : w.heap[k]? = some (.stringIter s pos)) : some k ≠ v.ownBlock := by
  rcases h.2 with ⟨rfl, _⟩ | ⟨g, cap, cur, rfl, _, hg, _⟩
  · simp [Value.ownBlock]
  · intro he
    have : k = g := by simpa [Value.ownBlock] using he
    subst this
    rw [hk] at hg
    cases hg
/-- The first i runes as a row of texts. -/
def keyRow (rs : List (List UInt8)) (i : Nat) : List Value := ((rs.take i).map bs).map Value.string
theorem word_next {rs : List (List UInt8)} {i : Nat} {r : List UInt8} (h : rs[i]? = some r) : keyRow rs (i + 1) = keyRow rs i ++ [Value.string (bs r)] := by
  unfold keyRow
  rw [List.take_add_one, h]
  simp
theorem keyRow_zero (rs : List (List UInt8)) : keyRow rs 0 = [] := rfl
theorem keyRow_all (rs : List (List UInt8)) : keyRow rs rs.length = (rs.map bs).map Value.string := by unfold keyRow; rw [List.take_length]
theorem own_cap {w : World} {B : Nat} {e : TypeId} {size n m c : Nat} {A : Option Addr} {xs : List Value} (h : w.ownsRow B e size (.slice A m c) n xs) : m ≤ c := by
  rcases h.2 with ⟨h1, _⟩ | ⟨g, cap, cur, h1, _, _, h2, _⟩
  · injection h1 with _ e1 e2; omega
  · injection h1 with _ e1 e2; omega
theorem Strs.none (w : World) : Strs w none [] := fun h => by simp at h
set_option maxHeartbeats 1000000 in
set_option maxRecDepth 100000 in
theorem key_Split_cap (s : ByteArray) (hs : s.size ≤ 1000000000000) (w : World) :
    Calls Try.prog 6 #[.string s] w fun e w' => ∃ A c, e = .returned (.tuple #[.slice A (Key.split s.data.toList).length c, .int .i64 (Key.err s.data.toList)]) ∧ (Key.split s.data.toList).length ≤ c ∧ Strs w' A ((Key.split s.data.toList).map bs) ∧ Below w.heap.size w w' := by
  obtain ⟨i0, hi, hz0, hz1, hz2⟩ := info_parts info_string
  have hl : s.data.toList.length = s.size := by simp
  have c1 := Lib.hid (key_check s (by omega) w)
  have c2 := Lib.hid (utf_Count s (by omega))
  by_cases h0 : Key.err s.data.toList = 0
  · obtain ⟨rs, hd, hall⟩ := Key.err_zero h0
    rw [h0] at c1
    have H := Lib.hid (Key.split_ok hd hall)
    have H0 := Lib.hid h0
    have HD := Lib.hid hd
    have hrl : rs.length ≤ s.size := by
      have h3 := off_ge hd (i := rs.length) (Nat.le_refl _)
      rw [Utf.off_top hd (Nat.le_refl _), hl] at h3
      exact h3
    rw [Utf.count_ok hd] at c2
    clear h0 hd hall hl
    go_enter Try.func6, Try.ntmps6
    go_wp2_with (first
      | (go_at_call 9; refine c1.out.mono ?_; rintro e w1 ⟨rfl, hb1⟩)
      | (go_at_call 10; refine (c2.out _).mono ?_; rintro e w1' ⟨rfl, rfl⟩)
      | (at_make; refine wpList_make_own _ rfl _ _ 27 rfl w.heap.size 9 i0 (.string ⟨#[]⟩) 1 Try.underlying27 hi hz0 hz1 .i64 .i64 _ rs.length rfl rfl rfl (by rw [hz2]; omega) (by unfold maxLen; omega) hb1.size ?_; intro w2 hown hgrow))
    have hW2 : Below w.heap.size w w2 := hb1.trans (below_gb hgrow |>.mono hb1.size)
    clear hgrow
    go_wp2
    go_loopw [5] (fun v wr => ∃ (i : Nat) (A : Option Addr) (c : Nat), v = .slice A i c ∧ i ≤ rs.length ∧ wr.ownsRow w.heap.size 9 1 v i (keyRow rs i) ∧ wr.heap[w2.heap.size]? = some (.stringIter s (Utf.off rs i)) ∧ Below w.heap.size w wr) (fun _ wr => s.size - wr.iterPos w2.heap.size)
    case atStart =>
      refine ⟨0, _, _, rfl, Nat.zero_le _, hown.alloc _, ?_, hW2.alloc hW2.size _⟩
      rw [Utf.off_zero]
      exact World.iter_heap w2 s 0
    case round =>
      obtain ⟨i, A, c, rfl, hile, hown2, hit, hbr⟩ := hrel
      have hsz : w2.heap.size < wr.heap.size := (Array.getElem?_eq_some_iff.1 hit).1
      have hbw := hW2.size
      rcases rune_or_end (rs := rs) i with ⟨r, hr⟩ | hend
      · obtain ⟨hdc, hp, hoff, hle, ho⟩ := Key.decode_rune s HD.out hr
        have hcp := Key.cp_le ho
        have hpos := Utf.one_pos ho
        have hnx : ∀ ty, (Instr.next (.pointer (some ⟨w2.heap.size, 0, none⟩)) true ty).run Try.prog wr = _ := fun ty => Lib.run_next_any_at wr w2.heap.size s _ ty hit hp
        rw [hdc] at hnx
        simp only [] at hnx
        rw [← hoff] at hnx
        have hit2 := Lib.iterAt_heap wr w2.heap.size s _ (Utf.off rs (i + 1)) hit
        have hbr2 := Lib.below_iterAt hbr (k := w2.heap.size) hbw s (Utf.off rs (i + 1))
        have hown3 := own_iterAt hown2 hit (Utf.off rs (i + 1))
        have hsz2 := Lib.iterAt_size wr w2.heap.size s (Utf.off rs (i + 1))
        have Hoff := Lib.hid hoff
        have hi1 : i + 1 ≤ rs.length := (List.getElem?_eq_some_iff.1 hr).1
        have Hnext := Lib.hid (word_next hr)
        generalize hw2 : wr.iterAt w2.heap.size s (Utf.off rs (i + 1)) = wi at *
        have hlt2 : w2.heap.size < wi.heap.size := by omega
        clear hsz2
        have hcv : (convert 21 9 (.int .i32 (Key.cp r : Int))).run Try.prog wi = .ok (.string (bs r)) wi := by
          rw [run_convert_int_string _ _ _ _ _ (by kernel_rfl) Try.underlying9, Key.utf8_cp ho]
        have hown4 := hown3.alloc (.cells #[.string (bs r)] 9)
        have hbr3 := hbr2.alloc (by omega) (.cells #[.string (bs r)] 9)
        have hal := Below.heap_alloc wi (.cells #[.string (bs r)] 9) w2.heap.size (by omega)
        rw [hit2] at hal
        have hne := own_ne_iter hown4 hal
        clear hr hdc hoff c1 c2 hw2 ho hown2 hown hW2
        go_wp2_with (at_builtin; refine wpList_append_own _ rfl _ _ 27 rfl w.heap.size 9 i0 (.string ⟨#[]⟩) 1 16 Try.underlying27 hi hz0 hz1 hz2 rfl (by decide) _ _ _ rfl hown4 ⟨wi.heap.size, 0, none⟩ 1 1 [.string (bs r)] rfl rfl ?c1 ?c2 ?c3 ?c4 ?c5 ?_)
        case c1 =>
          intro j u hu
          have hb := Blk.new wi 9 #[.string (bs r)]
          have e : (⟨wi.heap.size, 0, none⟩ : Addr).add j = ⟨wi.heap.size, j, none⟩ := by unfold Addr.add; split <;> simp_all
          rw [e, hb.cell]
          simpa using hu
        case c2 => intro u hu; simp at hu; subst hu; rfl
        case c3 => unfold maxLen; omega
        case c4 => omega
        case c5 => exact hbr3.size
        intro v' w6 hown6 hgrow6 _
        obtain ⟨a6, cap6, rfl⟩ := own_shape hown6
        rw [← Hnext.out] at hown6
        have W6 := hbr3.grown hgrow6 hbr3.size (fun j hj => (hown4.lt j hj).1)
        have hit6 : w6.heap[w2.heap.size]? = some (.stringIter s (Utf.off rs (i + 1))) := (hgrow6.block _ (by simp; omega) hne).trans hal
        clear hgrow6 hown4 hown3 hne hal hbr2 hbr3
        go_wp2
        go_roundw
        case rel => exact ⟨i + 1, a6, cap6, rfl, hi1, hown6, hit6, W6⟩
        case measure =>
          simp only [World.iterPos, hit6, hit]
          have := Hoff.out
          omega
      · have hnx : ∀ ty, (Instr.next (.pointer (some ⟨w2.heap.size, 0, none⟩)) true ty).run Try.prog wr = _ := fun ty => Lib.run_next_end_at wr w2.heap.size s _ ty hit (by rw [off_len HD.out hend]; omega)
        obtain rfl : i = rs.length := by omega
        rw [keyRow_all] at hown2
        have hS := Strs.of_own (n := rs.length) (c := c) (A := A) (xs := rs.map bs) (by rw [List.length_map]; exact hown2) rfl
        have hC := own_cap hown2
        clear c1 c2 hown2 hown hW2
        go_wp2
        go_ret2
        exact ⟨A, c, by rw [H0.out, H.out]; rfl, by rw [H.out]; exact hC, by rw [H.out]; exact hS, hbr⟩
  · have g : (Key.err s.data.toList != 0) = true := by rw [bne_iff_ne]; exact h0
    have H := Lib.hid (Key.split_no h0)
    generalize Key.err s.data.toList = n at *
    clear h0
    go_enter Try.func6, Try.ntmps6
    go_wp2_with (go_at_call 9; refine c1.out.mono ?_; rintro e w1 ⟨rfl, hb1⟩)
    go_ret2
    exact ⟨none, 0, by rw [H.out]; rfl, by rw [H.out]; exact Nat.le_refl _, by rw [H.out]; exact Strs.none _, hb1⟩
theorem key_Split (s : ByteArray) (hs : s.size ≤ 1000000000000) (w : World) :
    Calls Try.prog 6 #[.string s] w fun e w' => ∃ A c, e = .returned (.tuple #[.slice A (Key.split s.data.toList).length c, .int .i64 (Key.err s.data.toList)]) ∧ Strs w' A ((Key.split s.data.toList).map bs) ∧ Below w.heap.size w w' := by
  refine (key_Split_cap s hs w).mono ?_
  rintro e w' ⟨A, c, h1, _, h2, h3⟩
  exact ⟨A, c, h1, h2, h3⟩
end Go.Proofs.Ytchpkeelnfmlbaa
