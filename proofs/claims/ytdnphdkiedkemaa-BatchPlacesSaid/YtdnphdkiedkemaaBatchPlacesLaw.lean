/-
  The law BatchPlaces: what stands at a place that no change takes stands, behind them, where the place goes; order is kept.
-/
import Derived.Test.YtdnphdkiedkemaaBatchLives
import Derived.Test.YtdnphdkiedkemaaBatchShift
import Derived.Test.YtdnphdkiedkemaaFrame
namespace Go.Proofs.Ytdnphdkiedkemaa
open Go.RowKit
open Utf Chg Btc
theorem taken_snoc {ks : List Cg} {j : Nat} {x : Cg} {p : Int} (h : ks[j]? = some x) (hx : ¬ (x.at_ ≤ p ∧ p < x.at_ + x.old.size)) (ih : ∀ k ∈ ks.take j, ¬ (k.at_ ≤ p ∧ p < k.at_ + k.old.size)) : ∀ k ∈ ks.take (j + 1), ¬ (k.at_ ≤ p ∧ p < k.at_ + k.old.size) := by
  obtain ⟨hj, rfl⟩ := List.getElem?_eq_some_iff.1 h
  intro k hk
  rw [List.take_succ_eq_append_getElem hj, List.mem_append, List.mem_singleton] at hk
  rcases hk with hk | rfl
  · exact ih k hk
  · exact hx
set_option maxHeartbeats 2000000 in
set_option maxRecDepth 100000 in
theorem batchPlaces_walk (t : ByteArray) {A : Option Addr} {c : Nat} {ks : List Cg} (p q : Int) {w : World} (ht : t.size ≤ 140737488351232) (hx : Cgs w A ks) (hs : ∀ k ∈ ks, k.old.size ≤ 140737488351232 ∧ k.new.size ≤ 140737488351232) (hm : ks.length ≤ maxLen) :
    Calls Try.prog 3 #[.string t, .slice A ks.length c, .int .i64 p, .int .i64 q] w fun e w' => e = .returned (.bool true) ∧ Below w.heap.size w w' := by
  have S := Lib.hid (few_ok (c := c) t hx ht hs hm)
  have L := Lib.hid batch_lives
  clear hs hm
  go_enter Try.func3, Try.ntmps3
  go_wp2_with fail
  refine S.out.mono ?_
  rintro e w1 ⟨b, rfl, hb1, hb⟩
  cases b with
  | false =>
    clear hb
    go_wp2_with (go_at_call 5; refine (L.out _).mono ?_; rintro e w2 ⟨rfl, hb2⟩)
    go_ret
    exact ⟨rfl, hb1.trans (hb2.mono hb1.size)⟩
  | true =>
    obtain ⟨h30, hwt, hnear⟩ := hb rfl
    clear hb
    by_cases h1 : 2000 < t.size
    · have d1 : decide ((2000 : Int) < (t.size : Int)) = true := decide_eq_true (by omega)
      clear hx
      go_wp2_with (go_at_call 5; refine (L.out _).mono ?_; rintro e w2 ⟨rfl, hb2⟩)
      go_ret
      exact ⟨rfl, hb1.trans (hb2.mono hb1.size)⟩
    have d1 : decide ((2000 : Int) < (t.size : Int)) = false := decide_eq_false (by omega)
    by_cases h2 : p < 0
    · have d2 : decide (p < 0) = true := decide_eq_true h2
      clear hx
      go_wp2_with (go_at_call 5; refine (L.out _).mono ?_; rintro e w2 ⟨rfl, hb2⟩)
      go_ret
      exact ⟨rfl, hb1.trans (hb2.mono hb1.size)⟩
    have d2 : decide (p < 0) = false := decide_eq_false h2
    by_cases h3 : (t.size : Int) ≤ p
    · have d3 : decide ((t.size : Int) ≤ p) = true := decide_eq_true h3
      clear hx
      go_wp2_with (go_at_call 5; refine (L.out _).mono ?_; rintro e w2 ⟨rfl, hb2⟩)
      go_ret
      exact ⟨rfl, hb1.trans (hb2.mono hb1.size)⟩
    have d3 : decide ((t.size : Int) ≤ p) = false := decide_eq_false h3
    by_cases h4 : q < p
    · have d4 : decide (q < p) = true := decide_eq_true h4
      clear hx
      go_wp2_with (go_at_call 5; refine (L.out _).mono ?_; rintro e w2 ⟨rfl, hb2⟩)
      go_ret
      exact ⟨rfl, hb1.trans (hb2.mono hb1.size)⟩
    have d4 : decide (q < p) = false := decide_eq_false h4
    by_cases h5 : (t.size : Int) ≤ q
    · have d5 : decide ((t.size : Int) ≤ q) = true := decide_eq_true h5
      clear hx
      go_wp2_with (go_at_call 5; refine (L.out _).mono ?_; rintro e w2 ⟨rfl, hb2⟩)
      go_ret
      exact ⟨rfl, hb1.trans (hb2.mono hb1.size)⟩
    have d5 : decide ((t.size : Int) ≤ q) = false := decide_eq_false h5
    have D1 : Hid (∀ u, Below w.heap.size w u → Calls Try.prog 6 #[.string t, .slice A ks.length c] u fun e w' => e = .returned (.tuple #[.string (bs (done t.data.toList ks).1), .int .i64 (done t.data.toList ks).2]) ∧ Below u.heap.size u w') := fun u hu => batch_Do t (hx.below hu) (by omega) hnear (by omega) (by omega)
    cases hr : right t.data.toList ks with
    | false =>
      rw [done_no hr] at D1
      clear hx hr
      go_wp2_with (first
        | (go_at_call 6; refine (D1.out _ hb1).mono ?_; rintro e w2 ⟨rfl, hb2⟩; have h2 := hb1.trans (hb2.mono hb1.size))
        | (go_at_call 5; refine (L.out _).mono ?_; rintro e w3 ⟨rfl, hb3⟩))
      go_ret
      exact ⟨rfl, h2.trans (hb3.mono h2.size)⟩
    | true =>
      by_cases hbig : 4096 < (made t.data.toList ks).length
      · rw [done_big hr hbig] at D1
        clear hx hr hbig
        go_wp2_with (first
          | (go_at_call 6; refine (D1.out _ hb1).mono ?_; rintro e w2 ⟨rfl, hb2⟩; have h2 := hb1.trans (hb2.mono hb1.size))
          | (go_at_call 5; refine (L.out _).mono ?_; rintro e w3 ⟨rfl, hb3⟩))
        go_ret
        exact ⟨rfl, h2.trans (hb3.mono h2.size)⟩
      · rw [done_ok hr hbig] at D1
        have hin := right_in0 hr
        obtain ⟨P, rfl⟩ := Int.eq_ofNat_of_zero_le (show 0 ≤ p by omega)
        have hPl : P < t.data.toList.length := by rw [data_len]; omega
        have S1 : Hid (∀ u, Below w.heap.size w u → Calls Try.prog 7 #[.int .i64 P, .slice A ks.length c] u fun e w' => e = .returned (.int .i64 (back P ks)) ∧ Below u.heap.size u w') := fun u hu => batch_Shift P (hx.below hu) (by omega) hnear (by omega) (by omega)
        have S2 : Hid (∀ u, Below w.heap.size w u → Calls Try.prog 7 #[.int .i64 q, .slice A ks.length c] u fun e w' => e = .returned (.int .i64 (back q ks)) ∧ Below u.heap.size u w') := fun u hu => batch_Shift q (hx.below hu) (by omega) hnear (by omega) (by omega)
        have k0 : 0 ≤ back P ks := back_ge (p := (P : Int)) hin (Int.natCast_nonneg P)
        have k1 : back P ks ≤ ((made t.data.toList ks).length : Nat) := back_le (p := (P : Int)) (by omega) hin
        have k2 : back P ks ≤ back q ks := back_mono (by omega) ks
        have HB := Lib.hid (back_byte hPl hin)
        obtain ⟨Z, hZ⟩ : ∃ Z, bs (made t.data.toList ks) = Z := ⟨_, rfl⟩
        have hZd : made t.data.toList ks = Z.data.toList := by rw [← hZ, bs_toList]
        rw [show bs ((made t.data.toList ks, (0 : Int))).1 = Z from hZ] at D1
        rw [hZd] at HB k1 hbig
        rw [data_len] at k1 hbig
        clear hZ hZd hr
        obtain ⟨X, hX⟩ : ∃ X : Nat, back P ks = X := ⟨(back P ks).toNat, by omega⟩
        rw [hX] at S1 HB k0 k1 k2
        generalize back q ks = Y at *
        clear hX hin
        have m1 : decide ((X : Int) < 0) = false := decide_eq_false (by omega)
        have m2 : decide (Z.size < X) = false := decide_eq_false (by omega)
        have m3 : decide (Y < (X : Int)) = false := decide_eq_false (by omega)
        go_wp2_with (first
          | (go_at_call 6; refine (D1.out _ hb1).mono ?_; rintro e w2 ⟨rfl, hb2⟩; have hW2 := hb1.trans (hb2.mono hb1.size))
          | (go_at_call 7; (with_reducible refine (S1.out _ hW2).mono ?_); rintro e w3 ⟨rfl, hb3⟩; have hW3 := hW2.trans (hb3.mono hW2.size))
          | (go_at_call 7; (with_reducible refine (S2.out _ hW3).mono ?_); rintro e w4 ⟨rfl, hb4⟩; have hW4 := hW3.trans (hb4.mono hW3.size)))
        go_loopw [13] (fun iv wr => ∃ k : Nat, k ≤ ks.length ∧ iv = .int .i64 k ∧ Hid (∀ x ∈ ks.take k, ¬ (x.at_ ≤ (P : Int) ∧ (P : Int) < x.at_ + x.old.size)) ∧ Below w.heap.size w wr) (fun iv _ => ks.length - (intOf iv).toNat)
        case atStart => exact ⟨0, Nat.zero_le _, rfl, fun x hx => by simp at hx, hW4⟩
        case round =>
          obtain ⟨k, hkl, rfl, HT, hW⟩ := hrel
          clear hb1 hb2 hb3 hb4 hW2 hW3 hW4 D1 S1 S2
          by_cases hlt : k < ks.length
          · obtain ⟨x, hkx⟩ : ∃ x, ks[k]? = some x := ⟨_, List.getElem?_eq_getElem hlt⟩
            obtain ⟨b, off, rfl, hbw, c0, c1, c2⟩ := hx.at_ hW (Nat.le_refl _) hkx
            have e1 : decide ((k : Int) < (ks.length : Int)) = true := by simp; omega
            have hsn := weigh_snoc hkx
            have htk := weigh_take ks (k + 1)
            obtain ⟨x1, x2⟩ := hnear x (List.mem_of_getElem? hkx)
            have hdr : ∀ q, Below w.heap.size w (wr.drewN q) := fun q => hW.trans ((below_gb (gb_drewN wr q none)).mono hW.size)
            have ht1 : ¬ (x.at_ ≤ (P : Int) ∧ (P : Int) < x.at_ + x.old.size) → Hid (∀ x ∈ ks.take (k + 1), ¬ (x.at_ ≤ (P : Int) ∧ (P : Int) < x.at_ + x.old.size)) := fun h => taken_snoc hkx h HT.out
            by_cases g1 : x.at_ ≤ (P : Int)
            · have e2 : decide (x.at_ ≤ (P : Int)) = true := decide_eq_true g1
              by_cases g2 : (P : Int) < x.at_ + x.old.size
              · have e3 : decide ((P : Int) < x.at_ + (x.old.size : Int)) = true := decide_eq_true g2
                clear hkx hx ht1 HT
                go_wp2
                go_quiet (fail)
                go_wp2_with (go_at_call 5; refine (L.out _).mono ?_; rintro e w5 ⟨rfl, hb5⟩)
                go_ret
                exact ⟨rfl, (hdr nq).trans (hb5.mono (hdr nq).size)⟩
              · have e3 : decide ((P : Int) < x.at_ + (x.old.size : Int)) = false := decide_eq_false g2
                have HT2 := ht1 (fun h => g2 h.2)
                clear hkx hx ht1 HT
                go_wp2
                go_quiet (fail)
                go_wp2
                go_roundw
                case rel => exact ⟨k + 1, by omega, by go_num, HT2, hdr _⟩
                case measure => simp [intOf]; omega
            · have e2 : decide (x.at_ ≤ (P : Int)) = false := decide_eq_false g1
              have HT2 := ht1 (fun h => g1 h.1)
              clear hkx hx ht1 HT
              go_wp2
              go_quiet (fail)
              go_wp2
              go_roundw
              case rel => exact ⟨k + 1, by omega, by go_num, HT2, hdr _⟩
              case measure => simp [intOf]; omega
          · have e1 : decide ((k : Int) < (ks.length : Int)) = false := by simp; omega
            obtain ⟨x, hxX, hbx⟩ := HB.out (fun k' hk' => HT.out k' (by rw [List.take_of_length_le (by omega)]; exact hk'))
            obtain rfl : X = x := by omega
            have hPs : P < t.size := by omega
            have hXs : X < Z.size := by
              rcases Nat.lt_or_ge X Z.size with h' | h'
              · exact h'
              · rw [List.getElem?_eq_none (by rw [data_len]; exact h'), byte_get t hPs] at hbx
                cases hbx
            rw [byte_get Z hXs, byte_get t hPs] at hbx
            injection hbx with hbx
            have e2 : decide (X < Z.size) = true := decide_eq_true hXs
            have hd : Below w.heap.size w wr.drew := hW.drew
            clear hx HT HB hxX
            go_wp2
            go_region_held3 (fun _ => True) (exact trivial) (first | (go_at_call 5; refine (L.out _).mono ?_; rintro e w5 ⟨rfl, hb5⟩))
            all_goals
              go_wp2
              go_ret
              exact ⟨rfl, hd.trans (hb5.mono hd.size)⟩
section
open Go.ChangeShapes Go.WideShapes Go.ChangeAt
open Go.ChangeMaps (open_string)
set_option maxRecDepth 100000 in
theorem batchPlaces_lifted (os : Os) (started : os.Started) (H : Type) (enc : TypeId × Value → H) :
    ReturnsInHanded {} Try.checked os 3 .any (Rows.batchPlacesSpec.pre6 enc Try.prog Try.f3 Rows.batchPlacesRow.domain false) (Rows.batchPlacesSpec.post enc Try.prog Try.f3 false true false false) := by
  refine returnsInHanded_of_change_sized (C := Try.checked) own_knob started (by kernel_rfl) Try.func3
    (ChangeSpec.witness6 (enc := enc) (C := Try.checked) false ⟨#[], #[.string .empty, .slice none 0 0, .int .i64 0, .int .i64 0], []⟩ 8 (by kernel_rfl) (by kernel_rfl) (by kernel_rfl) (by kernel_rfl)) ?_
  intro W base args ds gs before hval0 hW _ hsz0 _
  have hsz : (DataW.weightsEach Try.prog (Try.f3.params.toList ++ Rows.batchPlacesSpec.plain.varTypes Try.prog) (ds ++ gs)).all (· ≤ reachBytes) = true := hsz0
  clear hsz0
  have hval : ∀ (j : Nat) t v, Try.f3.params[j]? = some t → args[j]? = some v → Value.okWide Try.prog W .any base t v := hval0
  have hW' := hW
  obtain ⟨p, q, hA0, hV, rfl, hfz, hnd⟩ := hW
  have hA : DataW.TrodAll enc Try.prog W 0 (fun _ => true) true Try.f3.params.toList args.toList ds p := hA0
  rw [Try.params3] at hA hval hsz
  obtain ⟨v0, vs0, d0, ds0, p0, q0, hargs, rfl, rfl, h0, r0⟩ := trodAll_cons hA
  obtain ⟨v1, vs1, d1, ds1, p1, q1, rfl, rfl, rfl, h1, r1⟩ := trodAll_cons r0
  obtain ⟨v2, vs2, d2, ds2, p2, q2, rfl, rfl, rfl, h2, r2⟩ := trodAll_cons r1
  obtain ⟨v3, vs3, d3, ds3, p3, q3, rfl, rfl, rfl, h3, r3⟩ := trodAll_cons r2
  obtain ⟨rfl, rfl, rfl⟩ := trodAll_nil r3
  obtain rfl : args = #[v0, v1, v2, v3] := by cases args; simp_all
  obtain ⟨rfl, rfl⟩ := trodVars_none hV
  obtain ⟨s0, rfl, rfl, rfl, hmax0⟩ := open_string Try.underlying9 (hval 0 9 v0 rfl rfl) h0
  have hs0 : s0.size ≤ 140737488351232 := by rw [← data_len]; exact sized_string hsz (j := 0) (t := 9) rfl rfl
  have hlt1 : ∀ x ∈ p1, x.block < W.heap.size := fun x hx => by simpa using hW'.lt x (by simp [hx])
  obtain ⟨A1, c1, xs1, rfl, hx1, hm1, hd1⟩ := open_cgs (hval 1 22 v1 rfl rfl) h1 hlt1
  have he1 : ∀ k ∈ xs1, k.old.size ≤ 140737488351232 ∧ k.new.size ≤ 140737488351232 := fun k hk => by
    obtain ⟨e, sp, x, rfl, hin⟩ := hd1 k hk
    rw [← data_len, ← data_len]
    exact sized_cg hsz (j := 1) rfl rfl hin
  obtain ⟨n2, rfl, rfl, rfl, wn2⟩ := open_int Try.underlying3 (hval 2 3 v2 rfl rfl) h2
  obtain ⟨n3, rfl, rfl, rfl, wn3⟩ := open_int Try.underlying3 (hval 3 3 v3 rfl rfl) h3
  refine (batchPlaces_walk s0 n2 n3 hs0 hx1 he1 hm1).mono fun e W' ⟨he, hb⟩ => ?_
  subst he
  exact ⟨_, rfl, law_post rfl rfl (by rw [Try.params3]; decide +kernel) ⟨rfl, rfl, rfl⟩ hW' hb⟩
theorem batchPlaces_holds : Rows.BatchPlacesSaid :=
  OpenClaim.holds_of_wide 3 Try.f3 rfl rfl rfl rfl rfl rfl rfl ⟨rfl, rfl, rfl, rfl, rfl⟩ rfl rfl rfl rfl rfl (by kernel_rfl) Try.func3 (by kernel_rfl)
    (of_decide_eq_true (by kernel_rfl)) (by unfold Func.isWrapper; first | (rw [if_pos (by decide +kernel)]; kernel_rfl) | (rw [if_neg (by decide +kernel)]; exact ⟨rfl, rfl⟩))
    (fun os started H enc _ => batchPlaces_lifted os started H enc)
end
end Go.Proofs.Ytdnphdkiedkemaa
