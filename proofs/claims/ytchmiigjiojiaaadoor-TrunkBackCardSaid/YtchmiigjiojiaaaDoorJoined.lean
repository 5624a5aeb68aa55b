/-
  Things, one behind the other; nothing, if one has no bytes.
-/
import Derived.Test.YtchmiigjiojiaaaDoorTrunk
import Derived.Test.YtchmiigjiojiaaaDoorShelf
namespace Go.Proofs.YtchmiigjiojiaaaDoor
open Go.RowKit
open Trk
theorem join_flat : ∀ ts : List (List UInt8), Lib.join ts [] = ts.flatten
  | [] => rfl
  | x :: r => by
    rw [Lib.join_cons, Lib.joinTail, List.flatten_cons]
    congr 2
    conv => rhs; rw [← List.map_id r]
    apply List.map_congr_left
    intro y _
    rfl
theorem texts_data (ts : List (List UInt8)) : (ts.map bs).map (·.data.toList) = ts := by
  rw [List.map_map]
  conv => rhs; rw [← List.map_id ts]
  apply List.map_congr_left
  intro t _
  exact bs_toList t
set_option maxHeartbeats 1000000 in
theorem trunk_joined {g c : Nat} {ts : List (List UInt8)} {w : World} (hx : ∀ (j : Nat) t, ts[j]? = some t → w.cell? ⟨g, 0 + j, none⟩ = some (.string (bs t))) (hg : g < w.heap.size) (hc : ts.length ≤ c) (hn : ts.length ≤ 100000) (hl : ts.flatten.length ≤ 140737488355328) :
    Calls Tryd.prog 21 #[.slice (some ⟨g, 0, none⟩) ts.length c] w fun e w' => e = .returned (.string (bs (joinB ts))) ∧ Below w.heap.size w w' := by
  have J := Tryd.strings_Join g 0 c (ts.map bs) ⟨#[]⟩ w (fun j x hj => by
    rw [List.getElem?_map] at hj
    cases ht : ts[j]? with
    | none => rw [ht] at hj; cases hj
    | some t => rw [ht] at hj; injection hj with hj; rw [← hj]; exact hx j t ht) hg (by rw [List.length_map]; omega) (by rw [List.length_map]; exact hc) (by rw [texts_data]; rw [show (⟨#[]⟩ : ByteArray).data.toList = [] from rfl, join_flat]; exact hl)
  rw [texts_data, show (⟨#[]⟩ : ByteArray).data.toList = [] from rfl, join_flat, List.length_map] at J
  have HJ := Lib.hid J
  have HX := Lib.hid hx
  clear J hx hl
  go_enter Tryd.func21, Tryd.ntmps21
  go_wp2
  go_loop [7] (fun i => ∃ k : Nat, k ≤ ts.length ∧ i = .int .i64 k ∧ Hid (full (ts.take k))) (fun i => ts.length - (intOf i).toNat)
  case atStart => exact ⟨0, Nat.zero_le _, rfl, by show full _; rw [List.take_zero]; exact full_nil⟩
  case round =>
    obtain ⟨k, hk, rfl, HF⟩ := hrel
    by_cases hlt : k < ts.length
    · obtain ⟨t, ht⟩ : ∃ t, ts[k]? = some t := ⟨_, List.getElem?_eq_getElem hlt⟩
      have c0 := HX.out k t ht
      rw [Nat.zero_add] at c0
      by_cases h0 : t = []
      · have g0 : (bs t).toList.isEmpty = true := by rw [bs_tl, h0]; rfl
        have H : Hid (joinB ts = []) := by
          show _ = _
          unfold joinB
          rw [if_neg (fun h => h t (List.mem_of_getElem? ht) h0)]
        clear ht h0 HX HF
        go_wp2
        go_ret
        exact ⟨by rw [H.out]; rfl, Below.refl _ _⟩
      · have g0 : (bs t).toList.isEmpty = false := by rw [bs_tl]; cases t with | nil => exact absurd rfl h0 | cons _ _ => rfl
        have HF2 : Hid (full (ts.take (k + 1))) := by
          show full _
          obtain ⟨hm, rfl⟩ := List.getElem?_eq_some_iff.1 ht
          rw [List.take_succ_eq_append_getElem hm]
          exact full_append.2 ⟨HF.out, full_cons.2 ⟨h0, full_nil⟩⟩
        clear ht h0 HX HF
        go_wp2
        go_round
        case rel => exact ⟨k + 1, by omega, by go_num, HF2⟩
        case measure => simp [intOf]; omega
    · have H : Hid (joinB ts = ts.flatten) := by
        show _ = _
        unfold joinB
        have := HF.out
        rw [List.take_of_length_le (by omega)] at this
        rw [if_pos this]
      clear HX HF
      go_wp2_with (go_at_call 45; ((with_reducible refine HJ.out.mono ?_); rintro e w1 ⟨rfl, hb1⟩))
      go_ret
      exact ⟨by rw [H.out]; rfl, hb1⟩
end Go.Proofs.YtchmiigjiojiaaaDoor
