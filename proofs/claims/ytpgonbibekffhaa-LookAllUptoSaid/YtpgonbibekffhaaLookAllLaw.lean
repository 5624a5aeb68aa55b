/-
  'calamuslaw20.LookAll' answers true for every text and every pattern, what it reads being of bulk at most 1048576: the offsets that the program tells are those that the document tells.
-/
import Derived.Test.YtpgonbibekffhaaLookLives
import Derived.Test.YtpgonbibekffhaaLookRef
import Derived.Test.YtpgonbibekffhaaBulk
namespace Go.Proofs.Ytpgonbibekffhaa
open Go.RowKit
set_option maxHeartbeats 1000000 in
set_option maxRecDepth 100000 in
theorem lookAll_walk (s p : ByteArray) (hs : s.size ≤ 1048576) (hp : p.size ≤ 1048576) (w : World) :
    Calls Try.prog 3 #[.string s, .string p] w fun e w' => e = .returned (.bool true) ∧ Below w.heap.size w w' := by
  by_cases h3 : 2000 < s.size
  · have g0 : decide ((2000 : Int) < (s.size : Int)) = true := by simp; omega
    go_enter Try.func3, Try.ntmps3
    go_wp2_with fail
    refine (look_lives _).mono ?_
    rintro e w1 ⟨rfl, hb⟩
    go_wp2
    go_ret
    exact ⟨rfl, hb⟩
  have g0 : decide ((2000 : Int) < (s.size : Int)) = false := by simp; omega
  have hl := data_len s
  have hal := Look.all_length s.data.toList p.data.toList
  have A := Lib.hid (look_All s p (by omega) (by omega))
  have B := Lib.hid (ref20_All s p (by omega) (by omega))
  have HL := Lib.hid (show (Look.all s.data.toList p.data.toList).length ≤ 9223372036854775807 by omega)
  generalize Look.all s.data.toList p.data.toList = xs at *
  clear hal hl h3
  go_enter Try.func3, Try.ntmps3
  go_wp2_with fail
  refine (A.out _).mono ?_
  rintro e u0 ⟨⟨v, rfl, hr0⟩, hb0⟩
  obtain ⟨a0, c0, rfl⟩ := own_shape hr0
  go_wp2_with fail
  refine (B.out _).mono ?_
  rintro e v0 ⟨⟨v, rfl, hs0⟩, hd0⟩
  obtain ⟨b0, d0, rfl⟩ := own_shape hs0
  have I0 := Ints.of_own hs0 rfl
  have J0 := (Ints.of_own hr0 rfl).grown (gb_below none hd0) (fun _ _ h => by cases h)
  have m0 := Look.on hb0 hd0
  clear hr0 hs0 hb0 hd0
  go_wp2_with fail
  refine (ref_same J0 I0 HL.out).mono ?_
  rintro e z0 ⟨rfl, hz0⟩
  have n0 := Look.on m0 (below_gb hz0)
  clear I0 J0 hz0 m0
  go_wp2_with fail
  refine (look_lives _).mono ?_
  rintro e z2 ⟨rfl, hz2⟩
  have n2 := Look.on n0 hz2
  go_wp2
  go_ret
  exact ⟨rfl, n2⟩
section
open Go.ChangeShapes Go.WideShapes Go.ChangeAt
open Go.ChangeMaps (open_string)
set_option maxRecDepth 100000 in
theorem lookAll_contract (H : Type) (enc : TypeId × Value → H) (W : World) (base : Nat) (args : Array Value) (ds gs : List (DataW H)) (before : List MemPlace)
    (hval : ∀ (j : Nat) t v, Try.f3.params[j]? = some t → args[j]? = some v → Value.okWide Try.prog W .any base t v)
    (hW : DataW.Whole enc Try.prog Try.f3.params.toList Rows.lookAllSpec.vars false W args.toList ds gs before) (hk : Rows.uptoSmall H (ds ++ gs) = true) :
    Calls Try.prog 3 args W fun e W' => ∃ v, e = .returned v ∧ Rows.lookAllSpec.post enc Try.prog Try.f3 false true false false W args v W' := by
  have hW' := hW
  obtain ⟨p, q, hA0, hV, rfl, hfz, hnd⟩ := hW
  have hA : DataW.TrodAll enc Try.prog W 0 (fun _ => true) true Try.f3.params.toList args.toList ds p := hA0
  rw [Try.params3] at hA hval
  obtain ⟨v0, vs0, d0, ds0, p0, q0, hargs, rfl, rfl, h0, r0⟩ := trodAll_cons hA
  obtain ⟨v1, vs1, d1, ds1, p1, q1, rfl, rfl, rfl, h1, r1⟩ := trodAll_cons r0
  obtain ⟨rfl, rfl, rfl⟩ := trodAll_nil r1
  obtain rfl : args = #[v0, v1] := by cases args; simp_all
  obtain ⟨rfl, rfl⟩ := trodVars_none hV
  obtain ⟨s0, rfl, rfl, rfl, hmax0⟩ := open_string Try.underlying9 (hval 0 9 v0 rfl rfl) h0
  have hs0 : s0.size ≤ 1048576 := by rw [← data_len]; exact small_string hk (by simp)
  obtain ⟨s1, rfl, rfl, rfl, hmax1⟩ := open_string Try.underlying9 (hval 1 9 v1 rfl rfl) h1
  have hs1 : s1.size ≤ 1048576 := by rw [← data_len]; exact small_string hk (by simp)
  refine (lookAll_walk s0 s1 hs0 hs1 _).mono fun e W' ⟨he, hb⟩ => ?_
  subst he
  exact ⟨_, rfl, law_post rfl rfl (by rw [Try.params3]; decide +kernel) ⟨rfl, rfl, rfl⟩ hW' hb⟩
set_option maxRecDepth 100000 in
theorem lookAll_lifted (os : Os) (started : os.Started) (H : Type) (enc : TypeId × Value → H) (F : Stop.Interp) :
    ReturnsInHanded {} Try.checked os 3 .any ((Rows.OpenSpec.upto Rows.lookAllSpec).pre6 enc Try.prog Try.f3 Rows.lookAllUptoRow.domain false) (((Rows.OpenSpec.upto Rows.lookAllSpec).at F).post enc Try.prog Try.f3 false true false false) := by
  refine returnsInHanded_of_cond (C := Try.checked) (s := Rows.OpenSpec.upto Rows.lookAllSpec) (k := Rows.uptoSmall) rfl own_knob started (by kernel_rfl) Try.func3
    (OpenSpec.witness (enc := enc) (C := Try.checked) (s := Rows.OpenSpec.upto Rows.lookAllSpec) (k := Rows.uptoSmall) rfl false ⟨#[], #[.string .empty, .string .empty], []⟩ 8 (by kernel_rfl) (by kernel_rfl) (by kernel_rfl)
      (x := ([.lit (.string []), .lit (.string [])], [], [])) (by kernel_rfl) rfl (by kernel_rfl)) ?_
  intro W base args ds gs before hval hW _ hk _
  exact lookAll_contract H enc W base args ds gs before hval hW hk
theorem lookAll_holds : Rows.LookAllUptoSaid :=
  OpenClaim.holds_of_cond 3 Try.f3 rfl rfl rfl rfl rfl rfl rfl ⟨rfl, rfl, rfl, rfl, rfl⟩ rfl rfl rfl rfl rfl (by kernel_rfl) Try.func3 (by kernel_rfl)
    (of_decide_eq_true (by kernel_rfl)) (by unfold Func.isWrapper; first | (rw [if_pos (by decide +kernel)]; kernel_rfl) | (rw [if_neg (by decide +kernel)]; exact ⟨rfl, rfl⟩))
    (fun os started H enc _ F => lookAll_lifted os started H enc F)
end
end Go.Proofs.Ytpgonbibekffhaa
