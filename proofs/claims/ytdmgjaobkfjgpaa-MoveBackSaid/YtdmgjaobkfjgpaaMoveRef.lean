/-
  The document's answer on motions: the lesser of two numbers, and whether a key is one.
-/
import Derived.Test.YtdmgjaobkfjgpaaMoveRes
import Derived.Test.YtdmgjaobkfjgpaaLineRefs2
namespace Go.Proofs.Ytdmgjaobkfjgpaa
open Go.RowKit
open Line (L of_ column)
open Utf (place)
theorem ref14_least (a b : Int) (w : World) :
    Calls Try.prog 24 #[.int .i64 a, .int .i64 b] w fun e w' => e = .returned (.int .i64 (min a b)) ∧ w = w' := by
  by_cases h : a < b
  · have e : min a b = a := by omega
    rw [e]
    go_enter Try.func24, Try.ntmps24
    go_wp2
    go_ret
    exact ⟨rfl, rfl⟩
  · have e : min a b = b := by omega
    rw [e]
    go_enter Try.func24, Try.ntmps24
    go_wp2
    go_ret
    exact ⟨rfl, rfl⟩
namespace Move
def keyCells : Array Value := #[.string ⟨#[104]⟩, .string ⟨#[108]⟩, .string ⟨#[48]⟩, .string ⟨#[94]⟩, .string ⟨#[36]⟩, .string ⟨#[124]⟩, .string ⟨#[106]⟩, .string ⟨#[107]⟩, .string ⟨#[103, 103]⟩, .string ⟨#[71]⟩]
theorem keyCells_at {j : Nat} {x : List UInt8 × Nat} (h : tab[j]? = some x) : keyCells[j]? = some (.string (bs x.1)) := by
  rcases j with _ | _ | _ | _ | _ | _ | _ | _ | _ | _ | j <;> first | (simp only [tab, List.getElem?_cons_zero, List.getElem?_cons_succ, Option.some.injEq] at h; subst h; rfl) | (simp [tab] at h)
theorem mot_none {l : List UInt8} (h : ∀ (i : Nat) x, i < 10 → tab[i]? = some x → x.1 ≠ l) : mot l = none := by
  cases hm : mot l with
  | none => rfl
  | some m =>
    obtain ⟨i, hi, hx⟩ := List.mem_iff_getElem.1 (mot_tab.1 hm)
    exact absurd rfl (h i (l, m) hi (by rw [List.getElem?_eq_getElem hi, hx]))
theorem mot_some {l : List UInt8} {i : Nat} {x : List UInt8 × Nat} (h : tab[i]? = some x) (hx : x.1 = l) : (mot l).isSome = true := by
  have : mot l = some x.2 := mot_tab.2 (by rw [← hx]; exact List.mem_of_getElem? h)
  rw [this]; rfl
end Move
namespace Move
theorem ref_facts (s : ByteArray) {p : Int} (hp : place s.data.toList p = true) : (0 ≤ of_ s.data.toList p ∧ of_ s.data.toList p ≤ ((L s.data.toList).length : Int) - 1) ∧ ((L s.data.toList).length : Int) ≤ s.size + 1 ∧ (0 ≤ column s.data.toList p ∧ column s.data.toList p ≤ s.size) := by
  have hl := data_len s
  obtain ⟨c, k, x, hpc, hk, h1, h2, h3, e1, e2, e3⟩ := Line.place_line hp
  obtain ⟨rs, i, q, j, hd, hi, hq, hj, f1, f2, f3, hc, ha⟩ := Line.place_runes hk (by rw [← hpc]; exact hp) h1 h2
  rw [← hpc] at hc
  have hL := Line.L_length s.data.toList
  have hkl := (List.getElem?_eq_some_iff.1 hk).1
  have hjl := Line.off_ge' hd hj
  omega
theorem raw_res {m : Nat} (hm : m < 10) {s : List UInt8} {p : Int} (hp : place s p = true) {n want V : Int} (h : raw m s p n want = V) (h0 : V ≠ -1) : res (raw m s p n want) = .tuple #[.int .i64 V, .bool true] := by
  have h1 := raw_low hm hp n want
  rw [h] at h1 ⊢
  exact res_at (by omega)
end Move
namespace Line
theorem at_ge {s : List UInt8} {p : Int} (hp : place s p = true) (col : Int) : at_ s (of_ s p) col ≠ -1 := by
  obtain ⟨c, k, x, rfl, hk, h1, h2, h3, e1, e2, e3⟩ := place_line hp
  obtain ⟨c', g1, _⟩ := at_ok hk col
  rw [e1, g1]; omega
theorem at_ge2 {s : List UInt8} {k : Int} (h0 : 0 ≤ k) (h1 : k ≤ ((L s).length : Int) - 1) (col : Int) : at_ s k col ≠ -1 := by
  obtain ⟨n, rfl⟩ : ∃ n : Nat, k = n := ⟨k.toNat, by omega⟩
  obtain ⟨c', g1, _⟩ := at_ok (List.getElem?_eq_getElem (show n < (L s).length by omega)) col
  rw [g1]; omega
theorem first_ge2 {s : List UInt8} {k : Int} (h0 : 0 ≤ k) (h1 : k ≤ ((L s).length : Int) - 1) : first s k ≠ -1 := by
  obtain ⟨n, rfl⟩ : ∃ n : Nat, k = n := ⟨k.toNat, by omega⟩
  obtain ⟨c', g1, _⟩ := first_ok (List.getElem?_eq_getElem (show n < (L s).length by omega))
  rw [g1]; omega
theorem stop_ge {s : List UInt8} {k : Int} (h0 : 0 ≤ k) (h1 : k ≤ ((L s).length : Int) - 1) : stop s k ≠ -1 := by
  obtain ⟨n, rfl⟩ : ∃ n : Nat, k = n := ⟨k.toNat, by omega⟩
  rw [stop_some (by rw [line_nat]; exact List.getElem?_eq_getElem (show n < (L s).length by omega))]; omega
theorem start_ge {s : List UInt8} {p : Int} (hp : place s p = true) : start s (of_ s p) ≠ -1 := by
  obtain ⟨c, k, x, rfl, hk, h1, h2, h3, e1, e2, e3⟩ := place_line hp
  rw [e2]; omega
theorem first_ge {s : List UInt8} {p : Int} (hp : place s p = true) : first s (of_ s p) ≠ -1 := by
  obtain ⟨c, k, x, rfl, hk, h1, h2, h3, e1, e2, e3⟩ := place_line hp
  obtain ⟨c', g1, _⟩ := first_ok hk
  rw [e1, g1]; omega
end Line
set_option maxHeartbeats 1000000 in
set_option maxRecDepth 100000 in
theorem ref14_Has (key : ByteArray) (w : World) :
    Calls Try.prog 11 #[.string key] w fun e w' => e = .returned (.bool (Move.mot key.data.toList).isSome) ∧ Below w.heap.size w w' := by
  obtain ⟨W0, hW0⟩ : ∃ W0, w.alloc (.cells Move.keyCells 9) = W0 := ⟨_, rfl⟩
  have hB : Blk W0 w.heap.size 9 Move.keyCells := by rw [← hW0]; exact Blk.new w 9 _
  have hWb : Below w.heap.size w W0 := by rw [← hW0]; exact (Below.refl _ w).alloc (Nat.le_refl _) _
  have P4 : Hid (∀ j x, Move.tab[j]? = some x → W0.cell? ⟨w.heap.size, j, none⟩ = some (.string (bs x.1))) := fun j x hp => by rw [hB.cell, Move.keyCells_at hp]
  unfold Move.keyCells at hW0
  generalize hM : (Move.mot key.data.toList).isSome = M
  have HM := Lib.hid hM
  clear hM hB
  generalize hBB : w.heap.size = BB at P4
  go_enter Try.func11, Try.ntmps11
  go_wp2_with fail
  go_loop [7] (fun iv => ∃ j : Nat, j ≤ 10 ∧ iv = .int .i64 j ∧ Hid (∀ (i : Nat) x, i < j → Move.tab[i]? = some x → x.1 ≠ key.data.toList)) (fun iv => 10 - (intOf iv).toNat)
  case atStart => exact ⟨0, by omega, rfl, Lib.hid (fun i x h => by omega)⟩
  case round =>
    obtain ⟨j, hj, rfl, HN⟩ := hrel
    by_cases hj8 : j < 10
    · obtain ⟨x, hp⟩ : ∃ x, Move.tab[j]? = some x := ⟨_, List.getElem?_eq_getElem (show j < Move.tab.length by show j < 10; omega)⟩
      have X1 := P4.out j x hp
      have a1 : (j : Int) < 10 := by omega
      by_cases hx : x.1 = key.data.toList
      · have hE : ((bs x.1).toList == key.toList) = true := by rw [bs_tl, hx, beq_iff_eq]; exact (Move.tl_data key).symm
        have H : Hid (true = M) := by show _ = _; rw [← HM.out, Move.mot_some hp hx]
        clear hp hx P4 hW0
        generalize bs x.1 = LL at *
        go_wp2
        go_ret
        exact ⟨by rw [← H.out]; rfl, by rw [← hBB]; exact hWb⟩
      · have hE : ((bs x.1).toList == key.toList) = false := by rw [bs_tl, beq_eq_false_iff_ne, Move.tl_data]; exact hx
        have HN2 : Hid (∀ (i : Nat) x, i < j + 1 → Move.tab[i]? = some x → x.1 ≠ key.data.toList) := fun i y hi hy => by
          rcases Nat.lt_or_ge i j with h | h
          · exact HN.out i y h hy
          · obtain rfl : i = j := by omega
            rw [hp] at hy; injection hy with hy; rw [← hy]; exact hx
        clear hp hx P4 hW0 HN
        generalize bs x.1 = LL at *
        go_wp2
        go_round
        case rel => exact ⟨j + 1, by omega, by go_num, HN2⟩
        case measure => simp [intOf]; omega
    · obtain rfl : j = 10 := by omega
      have H : Hid (false = M) := by show _ = _; rw [← HM.out, Move.mot_none HN.out]; rfl
      clear P4 hW0
      go_wp2
      go_ret
      exact ⟨by rw [← H.out]; rfl, by rw [← hBB]; exact hWb⟩
end Go.Proofs.Ytdmgjaobkfjgpaa
