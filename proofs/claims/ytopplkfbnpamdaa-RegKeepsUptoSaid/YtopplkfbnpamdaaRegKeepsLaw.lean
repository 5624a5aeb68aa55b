/-
  'calamuslaw21.RegKeeps' answers true for all registers, every number, text and bool, what it reads being of bulk at most 1048576: what the registers are when the text is kept, yanked or taken out, is what the document tells.
-/
import Derived.Test.YtopplkfbnpamdaaRegLives
import Derived.Test.YtopplkfbnpamdaaRegRefKeep
import Derived.Test.YtopplkfbnpamdaaBulk
namespace Go.Proofs.Ytopplkfbnpamdaa
open Go.RowKit
open Reg
theorem Reg.kept_length (ks : List Rg) (n : Int) (t : ByteArray) (lines taken : Bool) : (kept ks n t lines taken).1.length ≤ 89 := by
  unfold kept
  split
  · rename_i h
    split
    · simp
    · rename_i h0
      split
      · exact into_length h.1.1 h0 _ _ _
      · simp
  · simp
set_option maxHeartbeats 2000000 in
set_option maxRecDepth 100000 in
theorem regKeeps_walk (n : Int) (t : ByteArray) (lines : Bool) {A : Option Addr} {c : Nat} {ks : List Rg} {w : World} (hx : Rgs w A ks) (hc : ks.length ≤ c) (hm : c ≤ maxLen) (ht : t.size ≤ 1048576) :
    Calls Try.prog 3 #[.slice A ks.length c, .int .i64 n, .string t, .bool lines] w fun e w' => e = .returned (.bool true) ∧ Below w.heap.size w w' := by
  by_cases h60 : 60 < ks.length
  · have g0 : decide ((60 : Int) < (ks.length : Int)) = true := decide_eq_true (by omega)
    have LV := Lib.hid reg_lives
    clear hx hc hm
    go_enter Try.func3, Try.ntmps3
    go_wp2_with (go_at_call 7; (with_reducible refine (LV.out _).mono ?_); rintro e w12 ⟨rfl, hb12⟩)
    go_ret
    exact ⟨rfl, hb12⟩
  have g0 : decide ((60 : Int) < (ks.length : Int)) = false := decide_eq_false (by omega)
  have hm' : ks.length ≤ maxLen := Nat.le_trans hc hm
  have LV := Lib.hid reg_lives
  have l1 := Reg.kept_length ks n t lines false
  have l2 := Reg.kept_length ks n t lines true
  have Y1 : Hid (∀ u, Below w.heap.size w u → Calls Try.prog 8 #[.slice A ks.length c, .int .i64 n, .string t, .bool lines] u (KeepIs (kept ks n t lines false) u)) := fun u hu => reg_Yank n t lines (hx.below hu) (by omega) (by omega)
  have Y2 : Hid (∀ u, Below w.heap.size w u → Calls Try.prog 9 #[.slice A ks.length c, .int .i64 n, .string t, .bool lines] u (KeepIs (kept ks n t lines false) u)) := fun u hu => ref21_Yank n t lines (hx.below hu) (by omega) ht
  have D1 : Hid (∀ u, Below w.heap.size w u → Calls Try.prog 10 #[.slice A ks.length c, .int .i64 n, .string t, .bool lines] u (KeepIs (kept ks n t lines true) u)) := fun u hu => reg_Delete n t lines (hx.below hu) (by omega) (by omega)
  have D2 : Hid (∀ u, Below w.heap.size w u → Calls Try.prog 11 #[.slice A ks.length c, .int .i64 n, .string t, .bool lines] u (KeepIs (kept ks n t lines true) u)) := fun u hu => ref21_Delete n t lines (hx.below hu) (by omega) ht
  generalize kept ks n t lines false = r at *
  generalize kept ks n t lines true = d at *
  obtain ⟨r1, r2⟩ := r
  obtain ⟨d1, d2⟩ := d
  simp only at l1 l2
  have SM : Hid (∀ (u : World) (A B : Option Addr) (c d : Nat), Rgs u A r1 → Rgs u B r1 → Calls Try.prog 12 #[.slice A r1.length c, .slice B r1.length d] u fun e w' => e = .returned (.bool true) ∧ Below u.heap.size u w') := fun u A B c d h1 h2 => same21_ok h1 h2 (by omega)
  have SD : Hid (∀ (u : World) (A B : Option Addr) (c d : Nat), Rgs u A d1 → Rgs u B d1 → Calls Try.prog 12 #[.slice A d1.length c, .slice B d1.length d] u fun e w' => e = .returned (.bool true) ∧ Below u.heap.size u w') := fun u A B c d h1 h2 => same21_ok h1 h2 (by omega)
  have hW : Below w.heap.size w w := Below.refl _ _
  clear hx hm hm' hc l1 l2 ht h60
  go_enter Try.func3, Try.ntmps3
  go_wp2_with (first
    | (go_at_call 8; (with_reducible refine (Y1.out _ hW).mono ?_); rintro e w1 ⟨A1, c1, rfl, hm1, hl1, hb1⟩; replace hW := hW.trans (hb1.mono hW.size))
    | (go_at_call 9; (with_reducible refine (Y2.out _ hW).mono ?_); rintro e w2 ⟨A2, c2, rfl, hm2, hl2, hb2⟩; replace hW := hW.trans (hb2.mono hW.size); replace hm1 := hm1.below hb2)
    | (go_at_call 10; (with_reducible refine (D1.out _ hW).mono ?_); rintro e w3 ⟨A3, c3, rfl, hm3, hl3, hb3⟩; replace hW := hW.trans (hb3.mono hW.size); replace hm1 := hm1.below hb3; replace hm2 := hm2.below hb3)
    | (go_at_call 11; (with_reducible refine (D2.out _ hW).mono ?_); rintro e w4 ⟨A4, c4, rfl, hm4, hl4, hb4⟩; replace hW := hW.trans (hb4.mono hW.size); replace hm1 := hm1.below hb4; replace hm2 := hm2.below hb4; replace hm3 := hm3.below hb4)
    | (go_at_call 12; (with_reducible refine (SM.out _ _ _ _ _ hm1 hm2).mono ?_); rintro e w8 ⟨rfl, hb8⟩; replace hW := hW.trans (hb8.mono hW.size); replace hm3 := hm3.below hb8; replace hm4 := hm4.below hb8)
    | (go_at_call 12; (with_reducible refine (SD.out _ _ _ _ _ hm3 hm4).mono ?_); rintro e w11 ⟨rfl, hb11⟩; replace hW := hW.trans (hb11.mono hW.size))
    | (go_at_call 7; (with_reducible refine (LV.out _).mono ?_); rintro e w12 ⟨rfl, hb12⟩; replace hW := hW.trans (hb12.mono hW.size)))
  go_ret
  exact ⟨rfl, hW⟩
section
open Go.ChangeShapes Go.WideShapes Go.ChangeAt
open Go.ChangeMaps (open_string)
set_option maxRecDepth 100000 in
theorem regKeeps_contract (H : Type) (enc : TypeId × Value → H) (W : World) (base : Nat) (args : Array Value) (ds gs : List (DataW H)) (before : List MemPlace)
    (hval : ∀ (j : Nat) t v, Try.f3.params[j]? = some t → args[j]? = some v → Value.okWide Try.prog W .any base t v)
    (hW : DataW.Whole enc Try.prog Try.f3.params.toList Rows.regKeepsSpec.vars false W args.toList ds gs before) (hk : Rows.uptoSmall H (ds ++ gs) = true) :
    Calls Try.prog 3 args W fun e W' => ∃ v, e = .returned v ∧ Rows.regKeepsSpec.post enc Try.prog Try.f3 false true false false W args v W' := by
  have hW' := hW
  obtain ⟨p, q, hA0, hV, rfl, hfz, hnd⟩ := hW
  have hA : DataW.TrodAll enc Try.prog W 0 (fun _ => true) true Try.f3.params.toList args.toList ds p := hA0
  rw [Try.params3] at hA hval
  obtain ⟨v0, vs0, d0, ds0, p0, q0, hargs, rfl, rfl, h0, r0⟩ := trodAll_cons hA
  obtain ⟨v1, vs1, d1, ds1, p1, q1, rfl, rfl, rfl, h1, r1⟩ := trodAll_cons r0
  obtain ⟨v2, vs2, d2, ds2, p2, q2, rfl, rfl, rfl, h2, r2⟩ := trodAll_cons r1
  obtain ⟨v3, vs3, d3, ds3, p3, q3, rfl, rfl, rfl, h3, r3⟩ := trodAll_cons r2
  obtain ⟨rfl, rfl, rfl⟩ := trodAll_nil r3
  obtain rfl : args = #[v0, v1, v2, v3] := by cases args; simp_all
  obtain ⟨rfl, rfl⟩ := trodVars_none hV
  have hlt0 : ∀ x ∈ p0, x.block < W.heap.size := fun x hx => by simpa using hW'.lt x (by simp [hx])
  obtain ⟨A0, c0, xs0, rfl, hx0, hc0, hm0⟩ := open_rgs (hval 0 22 v0 rfl rfl) h0 hlt0
  obtain ⟨n1, rfl, rfl, rfl, wn1⟩ := open_int Try.underlying3 (hval 1 3 v1 rfl rfl) h1
  obtain ⟨s2, rfl, rfl, rfl, hmax2⟩ := open_string Try.underlying9 (hval 2 9 v2 rfl rfl) h2
  have hs2 : s2.size ≤ 1048576 := by rw [← data_len]; exact small_string hk (by simp)
  obtain ⟨b3, rfl, rfl, rfl⟩ := open_bool Try.underlying4 (hval 3 4 v3 rfl rfl) h3
  refine (regKeeps_walk n1 s2 b3 hx0 hc0 hm0 hs2).mono fun e W' ⟨he, hb⟩ => ?_
  subst he
  exact ⟨_, rfl, law_post rfl rfl (by rw [Try.params3]; decide +kernel) ⟨rfl, rfl, rfl⟩ hW' hb⟩
set_option maxRecDepth 100000 in
theorem regKeeps_lifted (os : Os) (started : os.Started) (H : Type) (enc : TypeId × Value → H) (F : Stop.Interp) :
    ReturnsInHanded {} Try.checked os 3 .any ((Rows.OpenSpec.upto Rows.regKeepsSpec).pre6 enc Try.prog Try.f3 Rows.regKeepsUptoRow.domain false) (((Rows.OpenSpec.upto Rows.regKeepsSpec).at F).post enc Try.prog Try.f3 false true false false) := by
  refine returnsInHanded_of_cond (C := Try.checked) (s := Rows.OpenSpec.upto Rows.regKeepsSpec) (k := Rows.uptoSmall) rfl own_knob started (by kernel_rfl) Try.func3
    (OpenSpec.witness (enc := enc) (C := Try.checked) (s := Rows.OpenSpec.upto Rows.regKeepsSpec) (k := Rows.uptoSmall) rfl false ⟨#[], #[.slice none 0 0, .int .i64 0, .string .empty, .bool false], []⟩ 8 (by kernel_rfl) (by kernel_rfl) (by kernel_rfl)
      (x := ([.nil, .lit (.int .i64 0), .lit (.string []), .lit (.bool false)], [], [])) (by kernel_rfl) rfl (by kernel_rfl)) ?_
  intro W base args ds gs before hval hW _ hk _
  exact regKeeps_contract H enc W base args ds gs before hval hW hk
theorem regKeeps_holds : Rows.RegKeepsUptoSaid :=
  OpenClaim.holds_of_cond 3 Try.f3 rfl rfl rfl rfl rfl rfl rfl ⟨rfl, rfl, rfl, rfl, rfl⟩ rfl rfl rfl rfl rfl (by kernel_rfl) Try.func3 (by kernel_rfl)
    (of_decide_eq_true (by kernel_rfl)) (by unfold Func.isWrapper; first | (rw [if_pos (by decide +kernel)]; kernel_rfl) | (rw [if_neg (by decide +kernel)]; exact ⟨rfl, rfl⟩))
    (fun os started H enc _ F => regKeeps_lifted os started H enc F)
end
end Go.Proofs.Ytopplkfbnpamdaa
