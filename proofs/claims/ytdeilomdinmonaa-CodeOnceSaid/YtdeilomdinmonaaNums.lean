/-
  The bytes of any list of at most 2147483647 numbers, as the program writes them.
-/
import Derived.Test.YtdeilomdinmonaaBuild
namespace Go.Proofs.Ytdeilomdinmonaa
open Go.RowKit
/-- The bytes of numbers, one behind the other. -/
def catB : List Int → List UInt8
  | [] => []
  | x :: r => numB x ++ catB r
theorem catB_append (a b : List Int) : catB (a ++ b) = catB a ++ catB b := by
  induction a with
  | nil => rfl
  | cons x a ih => simp [catB, ih]
theorem catB_length (a : List Int) : (catB a).length ≤ 4 * a.length := by
  induction a with
  | nil => simp [catB]
  | cons x a ih => have := numB_length x; simp only [catB, List.length_append, List.length_cons]; omega
theorem byteCells_append (a b : List UInt8) : Lib.byteCells (a ++ b) = Lib.byteCells a ++ Lib.byteCells b := by simp [Lib.byteCells]
def isNum (x : Int) : Bool := decide (0 ≤ x ∧ x ≤ 2147483647)
/-- The bytes of a list; none, if a number is none. -/
def numsB (xs : List Int) : List UInt8 := if xs.all isNum then numB xs.length ++ catB xs else []
theorem numsB_ok {xs : List Int} (h : xs.all isNum = true) : numsB xs = numB xs.length ++ catB xs := by unfold numsB; rw [if_pos h]
theorem numsB_no {xs : List Int} {k : Nat} (hk : k < xs.length) (h : isNum xs[k] = false) : numsB xs = [] := by
  unfold numsB
  rw [if_neg]
  intro ha
  have := List.all_eq_true.1 ha xs[k] (List.getElem_mem hk)
  rw [h] at this
  cases this
theorem take_snoc (xs : List Int) (k : Nat) (h : k < xs.length) : xs.take (k + 1) = xs.take k ++ [xs[k]] := by
  rw [List.take_succ_eq_append_getElem h]
set_option maxHeartbeats 800000 in
set_option maxRecDepth 100000 in
theorem code_nums {A : Option Addr} {c : Nat} {xs : List Int} {w : World} (hx : Ints w A xs) (hl : xs.length ≤ 2147483647) :
    Calls Try.prog 11 #[.slice A xs.length c] w fun x w' => x = .returned (.string (bs (numsB xs))) ∧ Below w.heap.size w w' := by
  have g1 : (bs (numB (xs.length : Int))).toList.isEmpty = false := numB_empty (by omega) (by omega)
  have hsz := numB_size (xs.length : Int)
  go_enter Try.func11, Try.ntmps11
  go_wp2_with (go_at_call 7; refine (code_num _ _).mono ?_; rintro e w1 ⟨rfl, hb⟩)
  have hf : Lib.IsBuilder 52 5 w.heap.size w.heap.size [] w1 := Or.imp (fun h => bd_keep h hb) (fun h => bd_keep h hb) (Lib.fresh_isBuilder 52 5 w)
  have hW1 : Below w.heap.size w w1 := ((Below.refl _ w).alloc (Nat.le_refl _) _).trans (hb.mono (by simp))
  refine (bd_write w.heap.size w.heap.size [] (bs (numB (xs.length : Int))) w1 hf (by simp; omega) hW1.size).mono ?_
  rintro e w2 ⟨rfl, hbd, hb2⟩
  rw [List.nil_append, strCells_bs] at hbd
  have hW2 := hW1.trans hb2
  clear hf hb hb2 hW1
  go_wp2
  go_loopw [6, 7, 17] (fun _ _ i wr => ∃ k : Nat, k ≤ xs.length ∧ i = .int .i64 k ∧ Hid ((xs.take k).all isNum = true) ∧ Lib.BuilderAt 52 5 w.heap.size w.heap.size (.pointer (some ⟨w.heap.size, 0, none⟩)) (Lib.byteCells (numB xs.length ++ catB (xs.take k))) wr ∧ Below w.heap.size w wr) (fun _ _ i _ => xs.length - (intOf i).toNat)
  case atStart => exact ⟨0, Nat.zero_le _, rfl, rfl, by simpa [catB] using hbd, hW2⟩
  case round =>
    obtain ⟨k, hk, rfl, hall, hB, hW⟩ := hrel
    clear hbd hW2
    by_cases hlt : k < xs.length
    · obtain ⟨ad, rfl, h1⟩ := (hx.grown (gb_below none (hW.mono (Nat.le_refl _))) (by simp)).at_ hlt
      by_cases hn : isNum xs[k] = true
      · have hr : 0 ≤ xs[k] ∧ xs[k] ≤ 2147483647 := by simpa [isNum] using hn
        have g2 : (bs (numB xs[k])).toList.isEmpty = false := numB_empty hr.1 hr.2
        have hall2 : Hid ((xs.take (k + 1)).all isNum = true) := by
          have := hall.out
          show List.all _ _ = true
          rw [take_snoc xs k hlt, List.all_append, this]
          simp [hn]
        have hcat : Hid (numB xs.length ++ catB (xs.take (k + 1)) = numB xs.length ++ catB (xs.take k) ++ numB xs[k]) := by
          show _ = _
          rw [take_snoc xs k hlt, catB_append]
          simp [catB]
        have hlen : (Lib.byteCells (numB (xs.length : Int) ++ catB (xs.take k))).length + (bs (numB xs[k])).size ≤ 140737488355328 := by
          have a1 := numB_length (xs.length : Int)
          have a2 := catB_length (xs.take k)
          have a3 := numB_size xs[k]
          rw [Lib.byteCells_length, List.length_append]
          have a4 : (xs.take k).length ≤ k := List.length_take_le _ _
          omega
        clear hn hr hall
        go_wp2_with (first
          | (go_at_call 7; refine (code_num _ _).mono ?_; rintro e w3 ⟨rfl, hb3⟩; have hB3 := bd_keep hB hb3)
          | (go_at_call 24; refine (bd_write w.heap.size w.heap.size _ _ _ (Or.inr hB3) hlen ?_).mono ?_))
        · have := hW.size; have := hb3.size; omega
        rintro e w4 ⟨rfl, hB4, hb4⟩
        have hB5 : Lib.BuilderAt 52 5 w.heap.size w.heap.size (.pointer (some ⟨w.heap.size, 0, none⟩)) (Lib.byteCells (numB xs.length ++ catB (xs.take (k + 1)))) w4 := by
          rw [hcat.out, byteCells_append]
          exact hB4
        have hW4 : Below w.heap.size w w4 := (hW.trans (hb3.mono hW.size)).trans hb4
        clear hB4 hB3 hb3 hb4 hB hW hlen h1
        go_wp2
        go_roundw
        case rel => exact ⟨k + 1, by omega, by go_num, hall2, hB5, hW4⟩
        case measure => simp [intOf]; omega
      · have hn' : isNum xs[k] = false := by simpa using hn
        have hr : xs[k] < 0 ∨ 2147483647 < xs[k] := by
          have : ¬ (0 ≤ xs[k] ∧ xs[k] ≤ 2147483647) := by simpa [isNum] using hn'
          omega
        have g2 : (bs (numB xs[k])).toList.isEmpty = true := numB_not hr
        have H := Lib.hid (numsB_no hlt hn')
        clear hn hn' hr hall
        go_wp2_with (go_at_call 7; refine (code_num _ _).mono ?_; rintro e w3 ⟨rfl, hb3⟩)
        go_ret
        exact ⟨by rw [H.out]; rfl, hW.trans (hb3.mono hW.size)⟩
    · have hkl : k = xs.length := by omega
      have H : Hid (numsB xs = numB xs.length ++ catB (xs.take k)) := by
        have := hall.out
        show _ = _
        rw [hkl, List.take_of_length_le (Nat.le_refl _)] at this ⊢
        exact numsB_ok this
      clear hall hkl
      go_wp2_with (go_at_call 25; refine (Try.Builder_String_any w.heap.size w.heap.size _ _ (Or.inr hB) hW.size).mono ?_; rintro e w3 ⟨rfl, hb3⟩)
      go_ret
      exact ⟨by rw [H.out]; rfl, hW.trans hb3⟩
end Go.Proofs.Ytdeilomdinmonaa
