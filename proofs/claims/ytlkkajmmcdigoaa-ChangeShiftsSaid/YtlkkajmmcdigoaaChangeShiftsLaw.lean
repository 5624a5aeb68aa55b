/-
  The law ChangeShifts: where any place goes by any changes is what the document tells.
-/
import Derived.Test.YtlkkajmmcdigoaaShift
import Derived.Test.YtlkkajmmcdigoaaChangeLives
import Derived.Test.YtlkkajmmcdigoaaFrame
import Derived.Deep.RegionHeld3
namespace Go.Proofs.Ytlkkajmmcdigoaa
open Go.RowKit
open Utf Chg
set_option maxHeartbeats 1000000 in
set_option maxRecDepth 100000 in
theorem changeShifts_walk (p : Int) {A : Option Addr} {c : Nat} {ks : List Cg} {w : World} (hx : Cgs w A ks) (hs : ∀ k ∈ ks, k.old.size ≤ 140737488351232 ∧ k.new.size ≤ 140737488351232) (hm : ks.length ≤ maxLen) :
    Calls Try.prog 5 #[.int .i64 p, .slice A ks.length c] w fun e w' => e = .returned (.bool true) ∧ Below w.heap.size w w' := by
  have S := Lib.hid (short_ok (c := c) ⟨#[]⟩ hx (by decide) hs hm)
  have NP := Lib.hid (fun w => near_ok p w)
  have L := Lib.hid change_lives
  have hm2 : ks.length ≤ 9223372036854775807 := by unfold maxLen at hm; exact hm
  clear hs hm
  go_enter Try.func5, Try.ntmps5
  go_wp2_with fail
  refine S.out.mono ?_
  rintro e w1 ⟨b, rfl, hb1, hb⟩
  cases b with
  | false =>
    clear hb
    go_wp2_with (go_at_call 8; refine (L.out _).mono ?_; rintro e w2 ⟨rfl, hb2⟩)
    go_ret
    exact ⟨rfl, hb1.trans (hb2.mono hb1.size)⟩
  | true =>
    obtain ⟨h30, hwt⟩ := hb rfl
    have hwt2 : weigh ks ≤ 100000 := by omega
    clear hb
    by_cases hp : -1099511627776 ≤ p ∧ p ≤ 1099511627776
    · have NP1 : Hid (∀ w, Calls Try.prog 16 #[.int .i64 p] w fun e w' => e = .returned (.bool true) ∧ w = w') := fun w => by
        have := NP.out w
        rw [decide_eq_true hp] at this
        exact this
      clear NP
      go_wp2_with (go_at_call 16; refine (NP1.out _).mono ?_; rintro e w2 ⟨rfl, rfl⟩)
      go_loopw [5] (fun i wr => ∃ k : Nat, k ≤ ks.length ∧ i = .int .i64 k ∧ Hid (∀ x ∈ ks.take k, -1099511627776 ≤ x.at_ ∧ x.at_ ≤ 1099511627776) ∧ Below w.heap.size w wr) (fun i _ => ks.length - (intOf i).toNat)
      case atStart => exact ⟨0, Nat.zero_le _, rfl, fun x hx => by simp at hx, hb1⟩
      case round =>
        obtain ⟨k, hk, rfl, HN, hW⟩ := hrel
        by_cases hlt : k < ks.length
        · obtain ⟨x, hkx⟩ : ∃ x, ks[k]? = some x := ⟨_, List.getElem?_eq_getElem hlt⟩
          obtain ⟨bb, off, rfl, hbw, c0, _, _⟩ := hx.at_ hW (Nat.le_refl _) hkx
          have d1 : decide ((k : Int) < (ks.length : Int)) = true := by simp; omega
          by_cases hn : -1099511627776 ≤ x.at_ ∧ x.at_ ≤ 1099511627776
          · have NX : Hid (∀ w, Calls Try.prog 16 #[.int .i64 x.at_] w fun e w' => e = .returned (.bool true) ∧ w = w') := fun w => by
              have := near_ok x.at_ w
              rw [decide_eq_true hn] at this
              exact this
            have HN2 : Hid (∀ y ∈ ks.take (k + 1), -1099511627776 ≤ y.at_ ∧ y.at_ ≤ 1099511627776) := fun y hy => by
              rw [List.take_add_one, hkx] at hy
              rcases List.mem_append.1 hy with hy | hy
              · exact HN.out y hy
              · obtain rfl : y = x := by simpa using hy
                exact hn
            clear hkx hn HN hx
            go_wp2_with (go_at_call 16; refine (NX.out _).mono ?_; rintro e w3 ⟨rfl, rfl⟩)
            go_roundw
            case rel => exact ⟨k + 1, by omega, by go_num, HN2, hW⟩
            case measure => simp [intOf]; omega
          · have NX : Hid (∀ w, Calls Try.prog 16 #[.int .i64 x.at_] w fun e w' => e = .returned (.bool false) ∧ w = w') := fun w => by
              have := near_ok x.at_ w
              rw [decide_eq_false hn] at this
              exact this
            clear hkx hn HN hx
            go_wp2_with (first
              | (go_at_call 16; refine (NX.out _).mono ?_; rintro e w3 ⟨rfl, rfl⟩)
              | (go_at_call 8; refine (L.out _).mono ?_; rintro e w4 ⟨rfl, hb4⟩))
            go_ret
            exact ⟨rfl, hW.trans (hb4.mono hW.size)⟩
        · have hkl : k = ks.length := by omega
          have d1 : decide ((k : Int) < (ks.length : Int)) = false := by simp; omega
          subst hkl
          have hn := HN.out
          rw [List.take_length] at hn
          have C1 : Hid (∀ u, Below w.heap.size w u → Calls Try.prog 17 #[.int .i64 p, .slice A ks.length c] u fun e w' => e = .returned (.int .i64 (shifts p ks)) ∧ Below u.heap.size u w') := fun u hu => change_Shift p (hx.below hu) hp hn hwt2 (by omega)
          have C2 : Hid (∀ u, Below w.heap.size w u → Calls Try.prog 18 #[.int .i64 p, .slice A ks.length c] u fun e w' => e = .returned (.int .i64 (shifts p ks)) ∧ Below u.heap.size u w') := fun u hu => ref8_Shift p (hx.below hu) hp hn hwt2 (by omega)
          clear hn HN hx hp
          generalize shifts p ks = R at *
          go_wp2_with (first
            | (go_at_call 17; refine (C1.out _ hW).mono ?_; rintro e w3 ⟨rfl, hb3⟩; have h3 := hW.trans (hb3.mono hW.size))
            | (go_at_call 18; refine (C2.out _ h3).mono ?_; rintro e w4 ⟨rfl, hb4⟩; have h4 := h3.trans (hb4.mono h3.size))
            | (go_at_call 8; refine (L.out _).mono ?_; rintro e w5 ⟨rfl, hb5⟩))
          trace_state
          go_ret
          exact ⟨rfl, h4.trans (hb5.mono h4.size)⟩
    · have NP1 : Hid (∀ w, Calls Try.prog 16 #[.int .i64 p] w fun e w' => e = .returned (.bool false) ∧ w = w') := fun w => by
        have := NP.out w
        rw [decide_eq_false hp] at this
        exact this
      clear NP hp
      go_wp2_with (first
        | (go_at_call 16; refine (NP1.out _).mono ?_; rintro e w2 ⟨rfl, rfl⟩)
        | (go_at_call 8; refine (L.out _).mono ?_; rintro e w2 ⟨rfl, hb2⟩))
      go_ret
      exact ⟨rfl, hb1.trans (hb2.mono hb1.size)⟩
section
open Go.ChangeShapes Go.WideShapes Go.ChangeAt
open Go.ChangeMaps (open_string)
set_option maxRecDepth 100000 in
theorem changeShifts_lifted (os : Os) (started : os.Started) (H : Type) (enc : TypeId × Value → H) :
    ReturnsInHanded {} Try.checked os 5 .any (Rows.changeShiftsSpec.pre6 enc Try.prog Try.f5 Rows.changeShiftsRow.domain false) (Rows.changeShiftsSpec.post enc Try.prog Try.f5 false true false false) := by
  refine returnsInHanded_of_change_sized (C := Try.checked) own_knob started (by kernel_rfl) Try.func5
    (ChangeSpec.witness6 (enc := enc) (C := Try.checked) false ⟨#[], #[.int .i64 0, .slice none 0 0], []⟩ 8 (by kernel_rfl) (by kernel_rfl) (by kernel_rfl) (by kernel_rfl)) ?_
  intro W base args ds gs before hval0 hW _ hsz0 _
  have hsz : (DataW.weightsEach Try.prog (Try.f5.params.toList ++ Rows.changeShiftsSpec.plain.varTypes Try.prog) (ds ++ gs)).all (· ≤ reachBytes) = true := hsz0
  clear hsz0
  have hval : ∀ (j : Nat) t v, Try.f5.params[j]? = some t → args[j]? = some v → Value.okWide Try.prog W .any base t v := hval0
  have hW' := hW
  obtain ⟨p, q, hA0, hV, rfl, hfz, hnd⟩ := hW
  have hA : DataW.TrodAll enc Try.prog W 0 (fun _ => true) true Try.f5.params.toList args.toList ds p := hA0
  rw [Try.params5] at hA hval hsz
  obtain ⟨v0, vs0, d0, ds0, p0, q0, hargs, rfl, rfl, h0, r0⟩ := trodAll_cons hA
  obtain ⟨v1, vs1, d1, ds1, p1, q1, rfl, rfl, rfl, h1, r1⟩ := trodAll_cons r0
  obtain ⟨rfl, rfl, rfl⟩ := trodAll_nil r1
  obtain rfl : args = #[v0, v1] := by cases args; simp_all
  obtain ⟨rfl, rfl⟩ := trodVars_none hV
  obtain ⟨n0, rfl, rfl, rfl, wn0⟩ := open_int Try.underlying3 (hval 0 3 v0 rfl rfl) h0
  have hlt1 : ∀ x ∈ p1, x.block < W.heap.size := fun x hx => by simpa using hW'.lt x (by simp [hx])
  obtain ⟨A1, c1, xs1, rfl, hx1, hm1, hd1⟩ := open_cgs (hval 1 22 v1 rfl rfl) h1 hlt1
  have he1 : ∀ k ∈ xs1, k.old.size ≤ 140737488351232 ∧ k.new.size ≤ 140737488351232 := fun k hk => by
    obtain ⟨e, sp, x, rfl, hin⟩ := hd1 k hk
    rw [← data_len, ← data_len]
    exact sized_cg hsz (j := 1) rfl rfl hin
  refine (changeShifts_walk n0 hx1 he1 hm1).mono fun e W' ⟨he, hb⟩ => ?_
  subst he
  exact ⟨_, rfl, law_post rfl rfl (by rw [Try.params5]; decide +kernel) ⟨rfl, rfl, rfl⟩ hW' hb⟩
theorem changeShifts_holds : Rows.ChangeShiftsSaid :=
  OpenClaim.holds_of_wide 5 Try.f5 rfl rfl rfl rfl rfl rfl rfl ⟨rfl, rfl, rfl, rfl, rfl⟩ rfl rfl rfl rfl rfl (by kernel_rfl) Try.func5 (by kernel_rfl)
    (of_decide_eq_true (by kernel_rfl)) (by unfold Func.isWrapper; first | (rw [if_pos (by decide +kernel)]; kernel_rfl) | (rw [if_neg (by decide +kernel)]; exact ⟨rfl, rfl⟩))
    (fun os started H enc _ => changeShifts_lifted os started H enc)
end
end Go.Proofs.Ytlkkajmmcdigoaa
