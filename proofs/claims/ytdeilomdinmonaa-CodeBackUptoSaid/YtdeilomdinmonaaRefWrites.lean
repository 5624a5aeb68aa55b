/-
  The bytes of any list of at most 2147483647 numbers, as the document writes them.
-/
import Derived.Test.YtdeilomdinmonaaNums
namespace Go.Proofs.Ytdeilomdinmonaa
open Go.RowKit
set_option maxHeartbeats 800000 in
set_option maxRecDepth 100000 in
theorem ref_nums {A : Option Addr} {c : Nat} {xs : List Int} {w : World} (hx : Ints w A xs) (hl : xs.length ≤ 2147483647) :
    Calls Try.prog 12 #[.slice A xs.length c] w fun x w' => x = .returned (.string (bs (numsB xs))) ∧ Below w.heap.size w w' := by
  go_enter Try.func12, Try.ntmps12
  go_wp2_with (go_at_call 8; refine (ref_num _ _).mono ?_; rintro e w1 ⟨rfl, hb⟩)
  go_loopw [3, 4] (fun s i wr => ∃ k : Nat, k ≤ xs.length ∧ i = .int .i64 k ∧ s = .string (bs (numB xs.length ++ catB (xs.take k))) ∧ Hid ((xs.take k).all isNum = true) ∧ Below w.heap.size w wr) (fun _ i _ => xs.length - (intOf i).toNat)
  case atStart => exact ⟨0, Nat.zero_le _, rfl, by simp [catB], rfl, hb⟩
  case round =>
    obtain ⟨k, hk, rfl, rfl, hall, hW⟩ := hrel
    clear hb
    by_cases hlt : k < xs.length
    · obtain ⟨ad, rfl, h1⟩ := (hx.grown (gb_below none (hW.mono (Nat.le_refl _))) (by simp)).at_ hlt
      have hin : ∃ ad', some ad = some ad' ∧ (ad'.add k).block < w.heap.size := by
        obtain ⟨ad', e, hb, _⟩ := hx (by omega)
        exact ⟨ad', e, by rw [block_of_add]; exact hb⟩
      obtain ⟨_, he, hin⟩ := hin
      injection he with he
      subst he
      by_cases hn : isNum xs[k] = true
      · have hr : 0 ≤ xs[k] ∧ xs[k] ≤ 2147483647 := by simpa [isNum] using hn
        have g2 : (bs (numB xs[k])).toList.isEmpty = false := numB_empty hr.1 hr.2
        have hall2 : Hid ((xs.take (k + 1)).all isNum = true) := by
          have := hall.out
          show List.all _ _ = true
          rw [take_snoc xs k hlt, List.all_append, this]
          simp [hn]
        have hcat : Hid (bs (numB xs.length ++ catB (xs.take (k + 1))) = bs (numB xs.length ++ catB (xs.take k)) ++ bs (numB xs[k])) := by
          show _ = _
          rw [take_snoc xs k hlt, catB_append, bs_append]
          simp [catB]
        have hlen : ¬ 9223372036854775807 < (bs (numB (xs.length : Int) ++ catB (xs.take k))).size + (bs (numB xs[k])).size := by
          have a1 := numB_length (xs.length : Int)
          have a2 := catB_length (xs.take k)
          have a3 := numB_size xs[k]
          rw [bs_size, List.length_append]
          have a4 : (xs.take k).length ≤ k := List.length_take_le _ _
          omega
        clear hn hr hall
        go_wp2_with fail
        refine (ref_num _ _).mono ?_
        rintro e w3 ⟨rfl, hb3⟩
        have h3 := (World.cell?_of_block (w := wr) (a := ad.add k) (hb3.block _ (Nat.lt_of_lt_of_le hin hW.size))).trans h1
        go_wp2_with fail
        refine (ref_num _ _).mono ?_
        rintro e w4 ⟨rfl, hb4⟩
        have hW4 : Below w.heap.size w w4 := (hW.trans (hb3.mono hW.size)).trans (hb4.mono (Nat.le_trans hW.size hb3.size))
        clear hb3 hb4 hW h1 h3
        go_wp2
        go_roundw
        case rel => exact ⟨k + 1, by omega, by go_num, by rw [hcat.out], hall2, hW4⟩
        case measure => simp [intOf]; omega
      · have hn' : isNum xs[k] = false := by simpa using hn
        have hr : xs[k] < 0 ∨ 2147483647 < xs[k] := by
          have : ¬ (0 ≤ xs[k] ∧ xs[k] ≤ 2147483647) := by simpa [isNum] using hn'
          omega
        have g2 : (bs (numB xs[k])).toList.isEmpty = true := numB_not hr
        have H := Lib.hid (numsB_no hlt hn')
        clear hn hn' hr hall
        go_wp2_with fail
        refine (ref_num _ _).mono ?_
        rintro e w3 ⟨rfl, hb3⟩
        go_wp2
        go_ret
        exact ⟨by rw [H.out]; rfl, hW.trans (hb3.mono hW.size)⟩
    · have hkl : k = xs.length := by omega
      have H : Hid (numsB xs = numB xs.length ++ catB (xs.take k)) := by
        have := hall.out
        show _ = _
        rw [hkl, List.take_of_length_le (Nat.le_refl _)] at this ⊢
        exact numsB_ok this
      clear hall hkl
      go_wp2
      go_ret
      exact ⟨by rw [H.out]; rfl, hW⟩
end Go.Proofs.Ytdeilomdinmonaa
