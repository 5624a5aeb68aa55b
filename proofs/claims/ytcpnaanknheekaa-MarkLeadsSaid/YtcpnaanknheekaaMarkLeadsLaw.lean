/-
  The law MarkLeads: what is set is got, and others stay; what is dropped is not there; all answers may be.
-/
import Derived.Test.YtcpnaanknheekaaMarkLives
import Derived.Test.YtcpnaanknheekaaFrame
namespace Go.Proofs.Ytcpnaanknheekaa
open Go.RowKit
open Mrk
namespace Mrk
/-- Where Set answers an error, it answers no marks. -/
theorem setted_err {ks : List Mk} {n a : Int} (h : ¬ (Right ks ∧ (97 ≤ n ∧ n ≤ 122) ∧ 0 ≤ a ∧ a ≤ 1099511627776)) : ∃ e, setted ks n a = ([], e) ∧ ¬ e = 0 := by
  unfold setted
  split
  · rename_i h1
    split
    · rename_i h2; exact absurd ⟨h1.1, h2, h1.2⟩ h
    · exact ⟨11, rfl, by omega⟩
  · exact ⟨1, rfl, by omega⟩
end Mrk
set_option maxHeartbeats 4000000 in
set_option maxRecDepth 100000 in
theorem markLeads_err (n a x : Int) {A : Option Addr} {c : Nat} {ks : List Mk} {w : World} (hx : Mks w A ks) (hc : ks.length ≤ c) (hm : c ≤ maxLen) (hg : ¬ (Right ks ∧ (97 ≤ n ∧ n ≤ 122) ∧ 0 ≤ a ∧ a ≤ 1099511627776)) :
    Calls Try.prog 5 #[.slice A ks.length c, .int .i64 n, .int .i64 a, .int .i64 x] w fun e w' => e = .returned (.bool true) ∧ Below w.heap.size w w' := by
  have hm' : ks.length ≤ maxLen := Nat.le_trans hc hm
  obtain ⟨e2, he2, hne⟩ := setted_err hg
  have S1 : Hid (∀ u, Below w.heap.size w u → Calls Try.prog 7 #[.slice A ks.length c, .int .i64 n, .int .i64 a] u (SetIs ([], e2) u)) := fun u hu => he2 ▸ mark_Set n a (hx.below hu) hm' hc
  have R1 : Hid (∀ u, Below w.heap.size w u → Calls Try.prog 11 #[.slice A ks.length c] u fun e w' => e = .returned (.bool (decide (Right ks))) ∧ Below u.heap.size u w') := fun u hu => mark_Right (hx.below hu) hm'
  have N1 := Lib.hid (mark_Name n)
  have LV := Lib.hid mark_lives
  have hW : Below w.heap.size w w := Below.refl _ _
  have t2 : (e2 == 0) = false := by simpa using hne
  by_cases hR : Right ks
  · rw [decide_eq_true hR] at R1
    by_cases hn : 97 ≤ n ∧ n ≤ 122
    · rw [decide_eq_true hn] at N1
      by_cases h0 : a < 0
      · have d0 : decide (a < 0) = true := decide_eq_true h0
        clear hx hm hm' hc he2 hg hR hn h0
        go_enter Try.func5, Try.ntmps5
        go_wp2_with (first
          | (go_at_call 7; (with_reducible refine (S1.out _ hW).mono ?_); rintro e w1 ⟨A1, c1, rfl, _, _, hb1⟩; replace hW := hW.trans (hb1.mono hW.size))
          | (go_at_call 11; (with_reducible refine (R1.out _ hW).mono ?_); rintro e w2 ⟨rfl, hb2⟩; replace hW := hW.trans (hb2.mono hW.size))
          | (go_at_call 13; (with_reducible refine (N1.out _).mono ?_); rintro e w3 ⟨rfl, rfl⟩)
          | (go_at_call 18; (with_reducible refine (LV.out _).mono ?_); rintro e w4 ⟨rfl, hb4⟩; replace hW := hW.trans (hb4.mono hW.size)))
        go_ret
        exact ⟨rfl, hW⟩
      · have d0 : decide (a < 0) = false := decide_eq_false h0
        have d1 : decide (1099511627776 < a) = true := decide_eq_true (by
          rcases Int.lt_or_le 1099511627776 a with h | h
          · exact h
          · exact absurd ⟨hR, hn, by omega, h⟩ hg)
        clear hx hm hm' hc he2 hg hR hn h0
        go_enter Try.func5, Try.ntmps5
        go_wp2_with (first
          | (go_at_call 7; (with_reducible refine (S1.out _ hW).mono ?_); rintro e w1 ⟨A1, c1, rfl, _, _, hb1⟩; replace hW := hW.trans (hb1.mono hW.size))
          | (go_at_call 11; (with_reducible refine (R1.out _ hW).mono ?_); rintro e w2 ⟨rfl, hb2⟩; replace hW := hW.trans (hb2.mono hW.size))
          | (go_at_call 13; (with_reducible refine (N1.out _).mono ?_); rintro e w3 ⟨rfl, rfl⟩)
          | (go_at_call 18; (with_reducible refine (LV.out _).mono ?_); rintro e w4 ⟨rfl, hb4⟩; replace hW := hW.trans (hb4.mono hW.size)))
        go_ret
        exact ⟨rfl, hW⟩
    · rw [decide_eq_false hn] at N1
      clear hx hm hm' hc he2 hg hR hn
      go_enter Try.func5, Try.ntmps5
      go_wp2_with (first
        | (go_at_call 7; (with_reducible refine (S1.out _ hW).mono ?_); rintro e w1 ⟨A1, c1, rfl, _, _, hb1⟩; replace hW := hW.trans (hb1.mono hW.size))
        | (go_at_call 11; (with_reducible refine (R1.out _ hW).mono ?_); rintro e w2 ⟨rfl, hb2⟩; replace hW := hW.trans (hb2.mono hW.size))
        | (go_at_call 13; (with_reducible refine (N1.out _).mono ?_); rintro e w3 ⟨rfl, rfl⟩)
        | (go_at_call 18; (with_reducible refine (LV.out _).mono ?_); rintro e w4 ⟨rfl, hb4⟩; replace hW := hW.trans (hb4.mono hW.size)))
      go_ret
      exact ⟨rfl, hW⟩
  · rw [decide_eq_false hR] at R1
    clear hx hm hm' hc he2 hg hR
    go_enter Try.func5, Try.ntmps5
    go_wp2_with (first
      | (go_at_call 7; (with_reducible refine (S1.out _ hW).mono ?_); rintro e w1 ⟨A1, c1, rfl, _, _, hb1⟩; replace hW := hW.trans (hb1.mono hW.size))
      | (go_at_call 11; (with_reducible refine (R1.out _ hW).mono ?_); rintro e w2 ⟨rfl, hb2⟩; replace hW := hW.trans (hb2.mono hW.size))
      | (go_at_call 13; (with_reducible refine (N1.out _).mono ?_); rintro e w3 ⟨rfl, rfl⟩)
      | (go_at_call 18; (with_reducible refine (LV.out _).mono ?_); rintro e w4 ⟨rfl, hb4⟩; replace hW := hW.trans (hb4.mono hW.size)))
    go_ret
    exact ⟨rfl, hW⟩
set_option maxHeartbeats 4000000 in
set_option maxRecDepth 100000 in
theorem markLeads_ok (n a x : Int) {A : Option Addr} {c : Nat} {ks : List Mk} {w : World} (hx : Mks w A ks) (hc : ks.length ≤ c) (hm : c ≤ maxLen) (hR : Right ks) (hn : 97 ≤ n ∧ n ≤ 122) (ha : 0 ≤ a ∧ a ≤ 1099511627776) :
    Calls Try.prog 5 #[.slice A ks.length c, .int .i64 n, .int .i64 a, .int .i64 x] w fun e w' => e = .returned (.bool true) ∧ Below w.heap.size w w' := by
  have hm' : ks.length ≤ maxLen := Nat.le_trans hc hm
  have he : setted ks n a = (Mrk.set ks n a, 0) := by rw [setted, if_pos ⟨hR, ha⟩, if_pos hn]
  have S1 : Hid (∀ u, Below w.heap.size w u → Calls Try.prog 7 #[.slice A ks.length c, .int .i64 n, .int .i64 a] u (SetIs (Mrk.set ks n a, 0) u)) := fun u hu => he ▸ mark_Set n a (hx.below hu) hm' hc
  have G3 : Hid (∀ u, Below w.heap.size w u → Calls Try.prog 9 #[.slice A ks.length c, .int .i64 x] u fun e w' => e = .returned (.tuple #[.int .i64 (Mrk.get ks x).1, .bool (Mrk.get ks x).2]) ∧ Below u.heap.size u w') := fun u hu => mark_Get x (hx.below hu) hm'
  have hSR := set_right hR hn ha
  have hDR := drop_right hSR n
  have hlen := set_length hR hn ha
  have hS60 := set_len hR n a
  have hg1 : Mrk.get (Mrk.set ks n a) n = (a, true) := get_some hSR (look_set ks n a)
  have hg2 : x ≠ n → Mrk.get (Mrk.set ks n a) x = Mrk.get ks x := fun h => by unfold Mrk.get; rw [if_pos hSR, if_pos hR, look_set_other ks n a h]
  have hg4 : Mrk.get (drop (Mrk.set ks n a) n) n = (0, false) := get_none (look_drop _ n)
  have hd : dropped (Mrk.set ks n a) n = drop (Mrk.set ks n a) n := by rw [dropped, if_pos hSR]
  obtain ⟨S, hS⟩ : ∃ S, Mrk.set ks n a = S := ⟨_, rfl⟩
  rw [hS] at S1 hSR hDR hlen hS60 hg1 hg2 hg4 hd
  obtain ⟨D, hD⟩ : ∃ D, drop S n = D := ⟨_, rfl⟩
  rw [hD] at hDR hlen hg4 hd
  have mS : S.length ≤ maxLen := by unfold maxLen; omega
  have mD : D.length ≤ maxLen := by unfold maxLen; omega
  have G1 : Hid (∀ (u : World) (A : Option Addr) (c : Nat), Mks u A S → Calls Try.prog 9 #[.slice A S.length c, .int .i64 n] u fun e w' => e = .returned (.tuple #[.int .i64 a, .bool true]) ∧ Below u.heap.size u w') := fun u A c h => by
    have := mark_Get n (c := c) h mS
    rw [hg1] at this; exact this
  have G4 : Hid (∀ (u : World) (A : Option Addr) (c : Nat), Mks u A D → Calls Try.prog 9 #[.slice A D.length c, .int .i64 n] u fun e w' => e = .returned (.tuple #[.int .i64 0, .bool false]) ∧ Below u.heap.size u w') := fun u A c h => by
    have := mark_Get n (c := c) h mD
    rw [hg4] at this; exact this
  have D1 : Hid (∀ (u : World) (A : Option Addr) (c : Nat), Mks u A S → S.length ≤ c → Calls Try.prog 16 #[.slice A S.length c, .int .i64 n] u (MksIs D u)) := fun u A c h hc => by
    have := mark_Drop n h mS hc
    rw [hd] at this; exact this
  have R1 : Hid (∀ (u : World) (A : Option Addr) (c : Nat), Mks u A S → Calls Try.prog 11 #[.slice A S.length c] u fun e w' => e = .returned (.bool true) ∧ Below u.heap.size u w') := fun u A c h => by
    have := mark_Right (c := c) h mS
    rw [decide_eq_true hSR] at this; exact this
  have R2 : Hid (∀ (u : World) (A : Option Addr) (c : Nat), Mks u A D → Calls Try.prog 11 #[.slice A D.length c] u fun e w' => e = .returned (.bool true) ∧ Below u.heap.size u w') := fun u A c h => by
    have := mark_Right (c := c) h mD
    rw [decide_eq_true hDR] at this; exact this
  have LV := Lib.hid mark_lives
  have hW : Below w.heap.size w w := Below.refl _ _
  have hl1 : (S.length : Int) - 1 = (D.length : Int) := by omega
  have G2 : x ≠ n → Hid (∀ (u : World) (A : Option Addr) (c : Nat), Mks u A S → Calls Try.prog 9 #[.slice A S.length c, .int .i64 x] u fun e w' => e = .returned (.tuple #[.int .i64 (Mrk.get ks x).1, .bool (Mrk.get ks x).2]) ∧ Below u.heap.size u w') := fun hxn u A c h => by
    have := mark_Get x (c := c) h mS
    rw [hg2 hxn] at this; exact this
  have lS : S.length ≤ 1000 := by omega
  have lD : D.length ≤ 1000 := by omega
  generalize Mrk.get ks x = g at *
  obtain ⟨g1, g2⟩ := g
  clear hx hm hm' hc hR hn ha he hSR hDR hlen hS60 hg1 hg2 hg4 hd hS hD mS mD
  by_cases hxn : x = n
  · subst hxn
    clear G2
    go_enter Try.func5, Try.ntmps5
    go_wp2_with (first
      | (go_at_call 7; (with_reducible refine (S1.out _ hW).mono ?_); rintro e w1 ⟨A1, c1, rfl, hm1, hl1', hb1⟩; replace hW := hW.trans (hb1.mono hW.size))
      | (go_at_call 9; (with_reducible refine (G1.out _ _ _ hm1).mono ?_); rintro e w2 ⟨rfl, hb2⟩; replace hW := hW.trans (hb2.mono hW.size); replace hm1 := hm1.below hb2)
      | (go_at_call 9; (with_reducible refine (G2.out _ _ _ hm1).mono ?_); rintro e w3 ⟨rfl, hb3⟩; replace hW := hW.trans (hb3.mono hW.size); replace hm1 := hm1.below hb3)
      | (go_at_call 9; (with_reducible refine (G3.out _ hW).mono ?_); rintro e w4 ⟨rfl, hb4⟩; replace hW := hW.trans (hb4.mono hW.size); replace hm1 := hm1.below hb4)
      | (go_at_call 16; (with_reducible refine (D1.out _ _ _ hm1 hl1').mono ?_); rintro e w5 ⟨A2, c2, rfl, hm2, hl2, hb5⟩; replace hW := hW.trans (hb5.mono hW.size); replace hm1 := hm1.below hb5)
      | (go_at_call 9; (with_reducible refine (G4.out _ _ _ hm2).mono ?_); rintro e w6 ⟨rfl, hb6⟩; replace hW := hW.trans (hb6.mono hW.size); replace hm1 := hm1.below hb6; replace hm2 := hm2.below hb6)
      | (go_at_call 11; (with_reducible refine (R1.out _ _ _ hm1).mono ?_); rintro e w7 ⟨rfl, hb7⟩; replace hW := hW.trans (hb7.mono hW.size); replace hm2 := hm2.below hb7)
      | (go_at_call 11; (with_reducible refine (R2.out _ _ _ hm2).mono ?_); rintro e w8 ⟨rfl, hb8⟩; replace hW := hW.trans (hb8.mono hW.size))
      | (go_at_call 18; (with_reducible refine (LV.out _).mono ?_); rintro e w9 ⟨rfl, hb9⟩; replace hW := hW.trans (hb9.mono hW.size)))
    go_ret
    exact ⟨rfl, hW⟩
  · have G2 := G2 hxn
    go_enter Try.func5, Try.ntmps5
    go_wp2_with (first
      | (go_at_call 7; (with_reducible refine (S1.out _ hW).mono ?_); rintro e w1 ⟨A1, c1, rfl, hm1, hl1', hb1⟩; replace hW := hW.trans (hb1.mono hW.size))
      | (go_at_call 9; (with_reducible refine (G1.out _ _ _ hm1).mono ?_); rintro e w2 ⟨rfl, hb2⟩; replace hW := hW.trans (hb2.mono hW.size); replace hm1 := hm1.below hb2)
      | (go_at_call 9; (with_reducible refine (G2.out _ _ _ hm1).mono ?_); rintro e w3 ⟨rfl, hb3⟩; replace hW := hW.trans (hb3.mono hW.size); replace hm1 := hm1.below hb3)
      | (go_at_call 9; (with_reducible refine (G3.out _ hW).mono ?_); rintro e w4 ⟨rfl, hb4⟩; replace hW := hW.trans (hb4.mono hW.size); replace hm1 := hm1.below hb4)
      | (go_at_call 16; (with_reducible refine (D1.out _ _ _ hm1 hl1').mono ?_); rintro e w5 ⟨A2, c2, rfl, hm2, hl2, hb5⟩; replace hW := hW.trans (hb5.mono hW.size); replace hm1 := hm1.below hb5)
      | (go_at_call 9; (with_reducible refine (G4.out _ _ _ hm2).mono ?_); rintro e w6 ⟨rfl, hb6⟩; replace hW := hW.trans (hb6.mono hW.size); replace hm1 := hm1.below hb6; replace hm2 := hm2.below hb6)
      | (go_at_call 11; (with_reducible refine (R1.out _ _ _ hm1).mono ?_); rintro e w7 ⟨rfl, hb7⟩; replace hW := hW.trans (hb7.mono hW.size); replace hm2 := hm2.below hb7)
      | (go_at_call 11; (with_reducible refine (R2.out _ _ _ hm2).mono ?_); rintro e w8 ⟨rfl, hb8⟩; replace hW := hW.trans (hb8.mono hW.size))
      | (go_at_call 18; (with_reducible refine (LV.out _).mono ?_); rintro e w9 ⟨rfl, hb9⟩; replace hW := hW.trans (hb9.mono hW.size)))
    go_ret
    exact ⟨rfl, hW⟩
theorem markLeads_walk (n a x : Int) {A : Option Addr} {c : Nat} {ks : List Mk} {w : World} (hx : Mks w A ks) (hc : ks.length ≤ c) (hm : c ≤ maxLen) :
    Calls Try.prog 5 #[.slice A ks.length c, .int .i64 n, .int .i64 a, .int .i64 x] w fun e w' => e = .returned (.bool true) ∧ Below w.heap.size w w' := by
  by_cases hg : Right ks ∧ (97 ≤ n ∧ n ≤ 122) ∧ 0 ≤ a ∧ a ≤ 1099511627776
  · exact markLeads_ok n a x hx hc hm hg.1 hg.2.1 hg.2.2
  · exact markLeads_err n a x hx hc hm hg
section
open Go.ChangeShapes Go.WideShapes Go.ChangeAt
open Go.ChangeMaps (open_string)
set_option maxRecDepth 100000 in
theorem markLeads_lifted (os : Os) (started : os.Started) (H : Type) (enc : TypeId × Value → H) :
    ReturnsInHanded {} Try.checked os 5 .any (Rows.markLeadsSpec.pre6 enc Try.prog Try.f5 Rows.markLeadsRow.domain false) (Rows.markLeadsSpec.post enc Try.prog Try.f5 false true false false) := by
  refine returnsInHanded_of_change_sized (C := Try.checked) own_knob started (by kernel_rfl) Try.func5
    (ChangeSpec.witness6 (enc := enc) (C := Try.checked) false ⟨#[], #[.slice none 0 0, .int .i64 0, .int .i64 0, .int .i64 0], []⟩ 8 (by kernel_rfl) (by kernel_rfl) (by kernel_rfl) (by kernel_rfl)) ?_
  intro W base args ds gs before hval0 hW _ hsz0 _
  have hsz : (DataW.weightsEach Try.prog (Try.f5.params.toList ++ Rows.markLeadsSpec.plain.varTypes Try.prog) (ds ++ gs)).all (· ≤ reachBytes) = true := hsz0
  clear hsz0
  have hval : ∀ (j : Nat) t v, Try.f5.params[j]? = some t → args[j]? = some v → Value.okWide Try.prog W .any base t v := hval0
  have hW' := hW
  obtain ⟨p, q, hA0, hV, rfl, hfz, hnd⟩ := hW
  have hA : DataW.TrodAll enc Try.prog W 0 (fun _ => true) true Try.f5.params.toList args.toList ds p := hA0
  rw [Try.params5] at hA hval hsz
  obtain ⟨v0, vs0, d0, ds0, p0, q0, hargs, rfl, rfl, h0, r0⟩ := trodAll_cons hA
  obtain ⟨v1, vs1, d1, ds1, p1, q1, rfl, rfl, rfl, h1, r1⟩ := trodAll_cons r0
  obtain ⟨v2, vs2, d2, ds2, p2, q2, rfl, rfl, rfl, h2, r2⟩ := trodAll_cons r1
  obtain ⟨v3, vs3, d3, ds3, p3, q3, rfl, rfl, rfl, h3, r3⟩ := trodAll_cons r2
  obtain ⟨rfl, rfl, rfl⟩ := trodAll_nil r3
  obtain rfl : args = #[v0, v1, v2, v3] := by cases args; simp_all
  obtain ⟨rfl, rfl⟩ := trodVars_none hV
  have hlt0 : ∀ x ∈ p0, x.block < W.heap.size := fun x hx => by simpa using hW'.lt x (by simp [hx])
  obtain ⟨A0, c0, xs0, rfl, hx0, hc0, hm0⟩ := open_mks (hval 0 22 v0 rfl rfl) h0 hlt0
  obtain ⟨n1, rfl, rfl, rfl, wn1⟩ := open_int Try.underlying3 (hval 1 3 v1 rfl rfl) h1
  obtain ⟨n2, rfl, rfl, rfl, wn2⟩ := open_int Try.underlying3 (hval 2 3 v2 rfl rfl) h2
  obtain ⟨n3, rfl, rfl, rfl, wn3⟩ := open_int Try.underlying3 (hval 3 3 v3 rfl rfl) h3
  refine (markLeads_walk n1 n2 n3 hx0 hc0 hm0).mono fun e W' ⟨he, hb⟩ => ?_
  subst he
  exact ⟨_, rfl, law_post rfl rfl (by rw [Try.params5]; decide +kernel) ⟨rfl, rfl, rfl⟩ hW' hb⟩
theorem markLeads_holds : Rows.MarkLeadsSaid :=
  OpenClaim.holds_of_wide 5 Try.f5 rfl rfl rfl rfl rfl rfl rfl ⟨rfl, rfl, rfl, rfl, rfl⟩ rfl rfl rfl rfl rfl (by kernel_rfl) Try.func5 (by kernel_rfl)
    (of_decide_eq_true (by kernel_rfl)) (by unfold Func.isWrapper; first | (rw [if_pos (by decide +kernel)]; kernel_rfl) | (rw [if_neg (by decide +kernel)]; exact ⟨rfl, rfl⟩))
    (fun os started H enc _ => markLeads_lifted os started H enc)
end
end Go.Proofs.Ytcpnaanknheekaa
