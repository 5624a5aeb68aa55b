/-
  The law MarkSets: whether any marks may be, and what they are with one more, without one, and where any is, is as the document tells it.
-/
import Derived.Test.YtcpnaanknheekaaMarkLives
import Derived.Test.YtcpnaanknheekaaFrame
namespace Go.Proofs.Ytcpnaanknheekaa
open Go.RowKit
open Mrk
set_option maxHeartbeats 4000000 in
set_option maxRecDepth 100000 in
theorem markSets_walk (n a : Int) {A : Option Addr} {c : Nat} {ks : List Mk} {w : World} (hx : Mks w A ks) (hc : ks.length ≤ c) (hm : c ≤ maxLen) :
    Calls Try.prog 3 #[.slice A ks.length c, .int .i64 n, .int .i64 a] w fun e w' => e = .returned (.bool true) ∧ Below w.heap.size w w' := by
  have hm' : ks.length ≤ maxLen := Nat.le_trans hc hm
  have S1 : Hid (∀ u, Below w.heap.size w u → Calls Try.prog 7 #[.slice A ks.length c, .int .i64 n, .int .i64 a] u (SetIs (setted ks n a) u)) := fun u hu => mark_Set n a (hx.below hu) hm' hc
  have S2 : Hid (∀ u, Below w.heap.size w u → Calls Try.prog 8 #[.slice A ks.length c, .int .i64 n, .int .i64 a] u (SetIs (setted ks n a) u)) := fun u hu => ref10_Set n a (hx.below hu) hm'
  have G1 : Hid (∀ u, Below w.heap.size w u → Calls Try.prog 9 #[.slice A ks.length c, .int .i64 n] u fun e w' => e = .returned (.tuple #[.int .i64 (Mrk.get ks n).1, .bool (Mrk.get ks n).2]) ∧ Below u.heap.size u w') := fun u hu => mark_Get n (hx.below hu) hm'
  have G2 : Hid (∀ u, Below w.heap.size w u → Calls Try.prog 10 #[.slice A ks.length c, .int .i64 n] u fun e w' => e = .returned (.tuple #[.int .i64 (Mrk.get ks n).1, .bool (Mrk.get ks n).2]) ∧ Below u.heap.size u w') := fun u hu => ref10_Get n (hx.below hu) hm'
  have R1 : Hid (∀ u, Below w.heap.size w u → Calls Try.prog 11 #[.slice A ks.length c] u fun e w' => e = .returned (.bool (decide (Right ks))) ∧ Below u.heap.size u w') := fun u hu => mark_Right (hx.below hu) hm'
  have R2 : Hid (∀ u, Below w.heap.size w u → Calls Try.prog 12 #[.slice A ks.length c] u fun e w' => e = .returned (.bool (decide (Right ks))) ∧ Below u.heap.size u w') := fun u hu => ref10_Right (hx.below hu) hm'
  have N1 := Lib.hid (mark_Name n)
  have N2 := Lib.hid (ref10_Name n)
  have D1 : Hid (∀ u, Below w.heap.size w u → Calls Try.prog 16 #[.slice A ks.length c, .int .i64 n] u (MksIs (dropped ks n) u)) := fun u hu => mark_Drop n (hx.below hu) hm' hc
  have D2 : Hid (∀ u, Below w.heap.size w u → Calls Try.prog 17 #[.slice A ks.length c, .int .i64 n] u (MksIs (dropped ks n) u)) := fun u hu => ref10_Drop n (hx.below hu) hm'
  have l1 : (setted ks n a).1.length ≤ 1000 := by
    unfold setted
    split
    · rename_i h
      split
      · exact Nat.le_trans (set_len h.1 n a) (by omega)
      · simp
    · simp
  have l2 : (dropped ks n).length ≤ 1000 := by
    unfold dropped
    split
    · rename_i h
      exact Nat.le_trans (drop_length _ _) (by have := h.length_le; omega)
    · simp
  generalize setted ks n a = r at *
  generalize dropped ks n = dl at *
  generalize Mrk.get ks n = g at *
  generalize decide (Right ks) = rt at *
  generalize decide (97 ≤ n ∧ n ≤ 122) = nm at *
  obtain ⟨r1, r2⟩ := r
  obtain ⟨g1, g2⟩ := g
  have SM : Hid (∀ (u : World) (A B : Option Addr) (c d : Nat), Mks u A r1 → Mks u B r1 → Calls Try.prog 15 #[.slice A r1.length c, .slice B r1.length d] u fun e w' => e = .returned (.bool true) ∧ Below u.heap.size u w') := fun u A B c d h1 h2 => same10_ok h1 h2 l1
  have SD : Hid (∀ (u : World) (A B : Option Addr) (c d : Nat), Mks u A dl → Mks u B dl → Calls Try.prog 15 #[.slice A dl.length c, .slice B dl.length d] u fun e w' => e = .returned (.bool true) ∧ Below u.heap.size u w') := fun u A B c d h1 h2 => same10_ok h1 h2 l2
  have LV := Lib.hid mark_lives
  have hW : Below w.heap.size w w := Below.refl _ _
  clear hx hm hm' hc l1 l2
  go_enter Try.func3, Try.ntmps3
  go_wp2_with (first
    | (go_at_call 7; (with_reducible refine (S1.out _ hW).mono ?_); rintro e w1 ⟨A1, c1, rfl, hm1, hl1, hb1⟩; replace hW := hW.trans (hb1.mono hW.size))
    | (go_at_call 8; (with_reducible refine (S2.out _ hW).mono ?_); rintro e w2 ⟨A2, c2, rfl, hm2, hl2, hb2⟩; replace hW := hW.trans (hb2.mono hW.size); replace hm1 := hm1.below hb2)
    | (go_at_call 9; (with_reducible refine (G1.out _ hW).mono ?_); rintro e w3 ⟨rfl, hb3⟩; replace hW := hW.trans (hb3.mono hW.size); replace hm1 := hm1.below hb3; replace hm2 := hm2.below hb3)
    | (go_at_call 10; (with_reducible refine (G2.out _ hW).mono ?_); rintro e w4 ⟨rfl, hb4⟩; replace hW := hW.trans (hb4.mono hW.size); replace hm1 := hm1.below hb4; replace hm2 := hm2.below hb4)
    | (go_at_call 11; (with_reducible refine (R1.out _ hW).mono ?_); rintro e w5 ⟨rfl, hb5⟩; replace hW := hW.trans (hb5.mono hW.size); replace hm1 := hm1.below hb5; replace hm2 := hm2.below hb5)
    | (go_at_call 12; (with_reducible refine (R2.out _ hW).mono ?_); rintro e w6 ⟨rfl, hb6⟩; replace hW := hW.trans (hb6.mono hW.size); replace hm1 := hm1.below hb6; replace hm2 := hm2.below hb6)
    | (go_at_call 13; (with_reducible refine (N1.out _).mono ?_); rintro e w7 ⟨rfl, rfl⟩)
    | (go_at_call 14; (with_reducible refine (N2.out _).mono ?_); rintro e w7 ⟨rfl, rfl⟩)
    | (go_at_call 15; (with_reducible refine (SM.out _ _ _ _ _ hm1 hm2).mono ?_); rintro e w8 ⟨rfl, hb8⟩; replace hW := hW.trans (hb8.mono hW.size))
    | (go_at_call 16; (with_reducible refine (D1.out _ hW).mono ?_); rintro e w9 ⟨A3, c3, rfl, hd1, hl3, hb9⟩; replace hW := hW.trans (hb9.mono hW.size))
    | (go_at_call 17; (with_reducible refine (D2.out _ hW).mono ?_); rintro e w10 ⟨A4, c4, rfl, hd2, hl4, hb10⟩; replace hW := hW.trans (hb10.mono hW.size); replace hd1 := hd1.below hb10)
    | (go_at_call 15; (with_reducible refine (SD.out _ _ _ _ _ hd1 hd2).mono ?_); rintro e w11 ⟨rfl, hb11⟩; replace hW := hW.trans (hb11.mono hW.size))
    | (go_at_call 18; (with_reducible refine (LV.out _).mono ?_); rintro e w12 ⟨rfl, hb12⟩; replace hW := hW.trans (hb12.mono hW.size)))
  go_ret
  exact ⟨rfl, hW⟩
section
open Go.ChangeShapes Go.WideShapes Go.ChangeAt
open Go.ChangeMaps (open_string)
set_option maxRecDepth 100000 in
theorem markSets_lifted (os : Os) (started : os.Started) (H : Type) (enc : TypeId × Value → H) :
    ReturnsInHanded {} Try.checked os 3 .any (Rows.markSetsSpec.pre6 enc Try.prog Try.f3 Rows.markSetsRow.domain false) (Rows.markSetsSpec.post enc Try.prog Try.f3 false true false false) := by
  refine returnsInHanded_of_change_sized (C := Try.checked) own_knob started (by kernel_rfl) Try.func3
    (ChangeSpec.witness6 (enc := enc) (C := Try.checked) false ⟨#[], #[.slice none 0 0, .int .i64 0, .int .i64 0], []⟩ 8 (by kernel_rfl) (by kernel_rfl) (by kernel_rfl) (by kernel_rfl)) ?_
  intro W base args ds gs before hval0 hW _ hsz0 _
  have hsz : (DataW.weightsEach Try.prog (Try.f3.params.toList ++ Rows.markSetsSpec.plain.varTypes Try.prog) (ds ++ gs)).all (· ≤ reachBytes) = true := hsz0
  clear hsz0
  have hval : ∀ (j : Nat) t v, Try.f3.params[j]? = some t → args[j]? = some v → Value.okWide Try.prog W .any base t v := hval0
  have hW' := hW
  obtain ⟨p, q, hA0, hV, rfl, hfz, hnd⟩ := hW
  have hA : DataW.TrodAll enc Try.prog W 0 (fun _ => true) true Try.f3.params.toList args.toList ds p := hA0
  rw [Try.params3] at hA hval hsz
  obtain ⟨v0, vs0, d0, ds0, p0, q0, hargs, rfl, rfl, h0, r0⟩ := trodAll_cons hA
  obtain ⟨v1, vs1, d1, ds1, p1, q1, rfl, rfl, rfl, h1, r1⟩ := trodAll_cons r0
  obtain ⟨v2, vs2, d2, ds2, p2, q2, rfl, rfl, rfl, h2, r2⟩ := trodAll_cons r1
  obtain ⟨rfl, rfl, rfl⟩ := trodAll_nil r2
  obtain rfl : args = #[v0, v1, v2] := by cases args; simp_all
  obtain ⟨rfl, rfl⟩ := trodVars_none hV
  have hlt0 : ∀ x ∈ p0, x.block < W.heap.size := fun x hx => by simpa using hW'.lt x (by simp [hx])
  obtain ⟨A0, c0, xs0, rfl, hx0, hc0, hm0⟩ := open_mks (hval 0 22 v0 rfl rfl) h0 hlt0
  obtain ⟨n1, rfl, rfl, rfl, wn1⟩ := open_int Try.underlying3 (hval 1 3 v1 rfl rfl) h1
  obtain ⟨n2, rfl, rfl, rfl, wn2⟩ := open_int Try.underlying3 (hval 2 3 v2 rfl rfl) h2
  refine (markSets_walk n1 n2 hx0 hc0 hm0).mono fun e W' ⟨he, hb⟩ => ?_
  subst he
  exact ⟨_, rfl, law_post rfl rfl (by rw [Try.params3]; decide +kernel) ⟨rfl, rfl, rfl⟩ hW' hb⟩
theorem markSets_holds : Rows.MarkSetsSaid :=
  OpenClaim.holds_of_wide 3 Try.f3 rfl rfl rfl rfl rfl rfl rfl ⟨rfl, rfl, rfl, rfl, rfl⟩ rfl rfl rfl rfl rfl (by kernel_rfl) Try.func3 (by kernel_rfl)
    (of_decide_eq_true (by kernel_rfl)) (by unfold Func.isWrapper; first | (rw [if_pos (by decide +kernel)]; kernel_rfl) | (rw [if_neg (by decide +kernel)]; exact ⟨rfl, rfl⟩))
    (fun os started H enc _ => markSets_lifted os started H enc)
end
end Go.Proofs.Ytcpnaanknheekaa
