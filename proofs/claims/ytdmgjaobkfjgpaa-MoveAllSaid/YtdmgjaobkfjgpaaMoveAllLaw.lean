/-
  'calamuslaw14.MoveAll' answers true for every text, place, count and column: where each of the keys leads is what the document tells.
-/
import Derived.Test.YtdmgjaobkfjgpaaMoveGo
import Derived.Test.YtdmgjaobkfjgpaaMoveRefGo
import Derived.Test.YtdmgjaobkfjgpaaFrame
namespace Go.Proofs.Ytdmgjaobkfjgpaa
open Go.RowKit
open Line (L of_ column)
open Utf (place)
def Move.tryCells : Array Value := #[.string ⟨#[104]⟩, .string ⟨#[108]⟩, .string ⟨#[48]⟩, .string ⟨#[94]⟩, .string ⟨#[36]⟩, .string ⟨#[124]⟩, .string ⟨#[106]⟩, .string ⟨#[107]⟩, .string ⟨#[103, 103]⟩, .string ⟨#[71]⟩, .string ⟨#[103]⟩, .string ⟨#[]⟩]
theorem Move.tryCells_at {j : Nat} (h : j < 12) : ∃ x : ByteArray, Move.tryCells[j]? = some (.string x) ∧ x.size ≤ 2 := by
  rcases j with _ | _ | _ | _ | _ | _ | _ | _ | _ | _ | _ | _ | j <;> first | exact ⟨_, rfl, by decide⟩ | omega
set_option maxHeartbeats 1000000 in
set_option maxRecDepth 100000 in
theorem moveAll_walk (s : ByteArray) (p n want : Int) (hn : n ≤ 9223372036854775807) (hw : want ≤ 9223372036854775807) (w : World) :
    Calls Try.prog 4 #[.string s, .int .i64 p, .int .i64 n, .int .i64 want] w fun e w' => e = .returned (.bool true) ∧ Below w.heap.size w w' := by
  by_cases h3 : 200 < s.size
  · go_enter Try.func4, Try.ntmps4
    go_wp2_with fail
    refine (move_lives _).mono ?_
    rintro e w1 ⟨rfl, hb⟩
    go_wp2
    go_ret
    exact ⟨rfl, hb⟩
  have g0 : decide ((200 : Int) < (s.size : Int)) = false := by simp; omega
  have hsz : s.size ≤ 200 := by omega
  have A := Lib.hid (fun (key : ByteArray) (hk : key.size ≤ 2) w => move_Go s p key n want (by omega) (by omega) w)
  have B := Lib.hid (fun (key : ByteArray) w => ref14_Go s p key n want (by omega) hn hw w)
  have C := Lib.hid (fun (key : ByteArray) (hk : key.size ≤ 2) w => move_Has key (by omega) w)
  have D := Lib.hid (fun (key : ByteArray) w => ref14_Has key w)
  obtain ⟨W0, hW0⟩ : ∃ W0, w.alloc (.cells Move.tryCells 9) = W0 := ⟨_, rfl⟩
  have hB : Blk W0 w.heap.size 9 Move.tryCells := by rw [← hW0]; exact Blk.new w 9 _
  have hWb : Below w.heap.size w W0 := by rw [← hW0]; exact (Below.refl _ w).alloc (Nat.le_refl _) _
  have P4 : Hid (∀ u, Below W0.heap.size W0 u → ∀ (j : Nat) (x : ByteArray), Move.tryCells[j]? = some (.string x) → u.cell? ⟨w.heap.size, j, none⟩ = some (.string x)) := fun u hu j x hp => by rw [(hB.below hu hB.lt).cell, hp]
  unfold Move.tryCells at hW0
  clear hn hw h3 hB
  go_enter Try.func4, Try.ntmps4
  go_wp2_with fail
  generalize hBB : w.heap.size = BB at P4
  go_loopw [21] (fun iv wr => ∃ j : Nat, j ≤ 12 ∧ iv = .int .i64 j ∧ Below W0.heap.size W0 wr) (fun iv _ => 12 - (intOf iv).toNat)
  case atStart => exact ⟨0, by omega, rfl, Below.refl _ _⟩
  case round =>
    obtain ⟨j, hj, rfl, kk⟩ := hrel
    by_cases hlt : j < 12
    · obtain ⟨x, hx, hx2⟩ := Move.tryCells_at hlt
      have X1 := P4.out _ kk j x hx
      have a1 : (j : Int) < 12 := by omega
      have A1 := fun w => A.out x hx2 w
      have B1 := fun w => B.out x w
      have C1 := Lib.hid (fun w => C.out x hx2 w)
      have D1 := Lib.hid (fun w => D.out x w)
      clear A B C D P4 hW0 hx hx2
      generalize (Move.mot x.data.toList).isSome = b at *
      generalize Move.lead s.data.toList p x.data.toList n want = v at *
      by_cases hv : v < 0
      · simp only [Move.res_no hv] at A1 B1
        have A2 := Lib.hid A1
        have B2 := Lib.hid B1
        clear hv A1 B1
        go_wp2_with fail
        refine (A2.out _).mono ?_
        rintro e w0 ⟨rfl, hb0⟩
        replace kk := below_on kk hb0
        clear hb0
        go_wp2_with fail
        refine (B2.out _).mono ?_
        rintro e w1 ⟨rfl, hb1⟩
        replace kk := below_on kk hb1
        clear hb1
        go_wp2_with fail
        refine (C1.out _).mono ?_
        rintro e w2 ⟨rfl, hb2⟩
        replace kk := below_on kk hb2
        clear hb2
        go_wp2_with fail
        refine (D1.out _).mono ?_
        rintro e w3 ⟨rfl, hb3⟩
        replace kk := below_on kk hb3
        clear hb3
        go_wp2
        go_roundw
        case rel => exact ⟨j + 1, by omega, by go_num, kk⟩
        case measure => simp [intOf]; omega
      · simp only [Move.res_at (Int.not_lt.1 hv)] at A1 B1
        have A2 := Lib.hid A1
        have B2 := Lib.hid B1
        clear hv A1 B1
        go_wp2_with fail
        refine (A2.out _).mono ?_
        rintro e w0 ⟨rfl, hb0⟩
        replace kk := below_on kk hb0
        clear hb0
        go_wp2_with fail
        refine (B2.out _).mono ?_
        rintro e w1 ⟨rfl, hb1⟩
        replace kk := below_on kk hb1
        clear hb1
        go_wp2_with fail
        refine (C1.out _).mono ?_
        rintro e w2 ⟨rfl, hb2⟩
        replace kk := below_on kk hb2
        clear hb2
        go_wp2_with fail
        refine (D1.out _).mono ?_
        rintro e w3 ⟨rfl, hb3⟩
        replace kk := below_on kk hb3
        clear hb3
        go_wp2
        go_roundw
        case rel => exact ⟨j + 1, by omega, by go_num, kk⟩
        case measure => simp [intOf]; omega
    · obtain rfl : j = 12 := by omega
      clear A B C D P4 hW0
      go_wp2_with fail
      refine (move_lives _).mono ?_
      rintro e w9 ⟨rfl, hb9⟩
      have kk2 := hWb.trans ((below_on kk hb9).mono hWb.size)
      go_wp2
      go_ret
      exact ⟨rfl, kk2⟩
section
open Go.ChangeShapes Go.WideShapes Go.ChangeAt
open Go.ChangeMaps (open_string)
set_option maxRecDepth 100000 in
theorem moveAll_lifted (os : Os) (started : os.Started) (H : Type) (enc : TypeId × Value → H) :
    ReturnsInHanded {} Try.checked os 4 .any (Rows.moveAllSpec.pre6 enc Try.prog Try.f4 Rows.moveAllRow.domain false) (Rows.moveAllSpec.post enc Try.prog Try.f4 false true false false) := by
  refine returnsInHanded_of_change_sized (C := Try.checked) own_knob started (by kernel_rfl) Try.func4
    (ChangeSpec.witness6 (enc := enc) (C := Try.checked) false ⟨#[], #[.string .empty, .int .i64 0, .int .i64 0, .int .i64 0], []⟩ 8 (by kernel_rfl) (by kernel_rfl) (by kernel_rfl) (by kernel_rfl)) ?_
  intro W base args ds gs before hval0 hW _ hsz0 _
  have hsz : (DataW.weightsEach Try.prog (Try.f4.params.toList ++ Rows.moveAllSpec.plain.varTypes Try.prog) (ds ++ gs)).all (· ≤ reachBytes) = true := hsz0
  clear hsz0
  have hval : ∀ (j : Nat) t v, Try.f4.params[j]? = some t → args[j]? = some v → Value.okWide Try.prog W .any base t v := hval0
  have hW' := hW
  obtain ⟨p, q, hA0, hV, rfl, hfz, hnd⟩ := hW
  have hA : DataW.TrodAll enc Try.prog W 0 (fun _ => true) true Try.f4.params.toList args.toList ds p := hA0
  rw [Try.params4] at hA hval hsz
  obtain ⟨v0, vs0, d0, ds0, p0, q0, hargs, rfl, rfl, h0, r0⟩ := trodAll_cons hA
  obtain ⟨v1, vs1, d1, ds1, p1, q1, rfl, rfl, rfl, h1, r1⟩ := trodAll_cons r0
  obtain ⟨v2, vs2, d2, ds2, p2, q2, rfl, rfl, rfl, h2, r2⟩ := trodAll_cons r1
  obtain ⟨v3, vs3, d3, ds3, p3, q3, rfl, rfl, rfl, h3, r3⟩ := trodAll_cons r2
  obtain ⟨rfl, rfl, rfl⟩ := trodAll_nil r3
  obtain rfl : args = #[v0, v1, v2, v3] := by cases args; simp_all
  obtain ⟨rfl, rfl⟩ := trodVars_none hV
  obtain ⟨s0, rfl, rfl, rfl, hmax0⟩ := open_string Try.underlying9 (hval 0 9 v0 rfl rfl) h0
  have hs0 : s0.size ≤ 140737488351232 := by rw [← data_len]; exact sized_string hsz (j := 0) (t := 9) rfl rfl
  obtain ⟨n1, rfl, rfl, rfl, wn1⟩ := open_int Try.underlying3 (hval 1 3 v1 rfl rfl) h1
  obtain ⟨n2, rfl, rfl, rfl, wn2⟩ := open_int Try.underlying3 (hval 2 3 v2 rfl rfl) h2
  obtain ⟨n3, rfl, rfl, rfl, wn3⟩ := open_int Try.underlying3 (hval 3 3 v3 rfl rfl) h3
  refine (moveAll_walk s0 n1 n2 n3 (move_int_le wn2) (move_int_le wn3) _).mono fun e W' ⟨he, hb⟩ => ?_
  subst he
  exact ⟨_, rfl, law_post rfl rfl (by rw [Try.params4]; decide +kernel) ⟨rfl, rfl, rfl⟩ hW' hb⟩
theorem moveAll_holds : Rows.MoveAllSaid :=
  OpenClaim.holds_of_wide 4 Try.f4 rfl rfl rfl rfl rfl rfl rfl ⟨rfl, rfl, rfl, rfl, rfl⟩ rfl rfl rfl rfl rfl (by kernel_rfl) Try.func4 (by kernel_rfl)
    (of_decide_eq_true (by kernel_rfl)) (by unfold Func.isWrapper; first | (rw [if_pos (by decide +kernel)]; kernel_rfl) | (rw [if_neg (by decide +kernel)]; exact ⟨rfl, rfl⟩))
    (fun os started H enc _ => moveAll_lifted os started H enc)
end
end Go.Proofs.Ytdmgjaobkfjgpaa
