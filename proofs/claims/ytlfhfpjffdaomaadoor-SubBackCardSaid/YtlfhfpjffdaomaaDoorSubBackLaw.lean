/-
  'calamuslaw28.SubBack' answers true for every text, lines and choice: what is put in the place of a sign, where it stood nowhere, is put back. The row lists two tables of utf8 that the walk never reads.
-/
import Derived.Test.YtlfhfpjffdaomaaDoorSubLives
import Derived.Test.YtlfhfpjffdaomaaDoorCardWitness
import Derived.SevenTiedAt
namespace Go.Proofs.YtlfhfpjffdaomaaDoor
open Go.RowKit
set_option maxHeartbeats 4000000 in
set_option maxRecDepth 100000 in
theorem subBack_big (s : ByteArray) (a b : Int) (all : Bool) (h : 500 < s.size) {w : World} (hm : MaxAt w) :
    Calls Tryd.prog 6 #[.string s, .agg #[.int .i64 a, .int .i64 b], .bool all] w fun e w' => e = .returned (.bool true) ∧ Below w.heap.size w w' := by
  have LV : Hid (∀ u, MaxAt u → Calls Tryd.prog 7 #[] u fun e w' => e = .returned (.bool true) ∧ Below u.heap.size u w') := fun u hu => sub_lives hu
  have K := LBox.new w a b
  obtain ⟨q0, q1⟩ := K.cells
  replace hm := hm.below K.below
  have g0 : decide ((500 : Int) < (s.size : Int)) = true := decide_eq_true (by omega)
  go_enter Tryd.func6, Tryd.ntmps6
  go_wp2_with (first
    | (go_at_call 7; (with_reducible refine (LV.out _ hm).mono ?_); rintro e u ⟨rfl, hb⟩; replace K := K.on hb; replace hm := hm.below hb; clear hb q0 q1; obtain ⟨q0, q1⟩ := K.cells))
  go_ret
  exact ⟨rfl, K.below⟩
set_option maxHeartbeats 4000000 in
set_option maxRecDepth 100000 in
theorem subBack_there (s : ByteArray) (a b : Int) (all : Bool) (h : s.size ≤ 500) (hc : 0 < Sb.count s.data.toList a b [35]) {w : World} (hm : MaxAt w) :
    Calls Tryd.prog 6 #[.string s, .agg #[.int .i64 a, .int .i64 b], .bool all] w fun e w' => e = .returned (.bool true) ∧ Below w.heap.size w w' := by
  have LV : Hid (∀ u, MaxAt u → Calls Tryd.prog 7 #[] u fun e w' => e = .returned (.bool true) ∧ Below u.heap.size u w') := fun u hu => sub_lives hu
  have K := LBox.new w a b
  obtain ⟨q0, q1⟩ := K.cells
  replace hm := hm.below K.below
  have g0 : decide ((500 : Int) < (s.size : Int)) = false := decide_eq_false (by omega)
  have C : Hid (∀ u, MaxAt u → Calls Tryd.prog 12 #[.string s, .int .i64 a, .int .i64 b, .string ⟨#[35]⟩] u fun e w' => e = .returned (.int .i64 (Sb.count s.data.toList a b [35] : Nat)) ∧ Below u.heap.size u w') := fun u hu => sub_Count s a b ⟨#[35]⟩ (by omega) (by decide) hu
  generalize Sb.count s.data.toList a b [35] = n at *
  have g1 : decide ((0 : Int) < (n : Int)) = true := decide_eq_true (by omega)
  go_enter Tryd.func6, Tryd.ntmps6
  go_wp2_with (first
    | (go_at_call 12; (with_reducible refine (C.out _ hm).mono ?_); rintro e u ⟨rfl, hb⟩; replace K := K.on hb; replace hm := hm.below hb; clear hb q0 q1; obtain ⟨q0, q1⟩ := K.cells)
    | (go_at_call 7; (with_reducible refine (LV.out _ hm).mono ?_); rintro e u ⟨rfl, hb⟩; replace K := K.on hb; replace hm := hm.below hb; clear hb q0 q1; obtain ⟨q0, q1⟩ := K.cells))
  go_ret
  exact ⟨rfl, K.below⟩
set_option maxHeartbeats 4000000 in
set_option maxRecDepth 100000 in
theorem subBack_err (s : ByteArray) (a b : Int) (all : Bool) (h : s.size ≤ 500) (hc : Sb.count s.data.toList a b [35] = 0) {T : List UInt8} {f x : Int} (hs : Sb.swap s.data.toList a b [97] [35] all = (T, f, x)) (hx : x ≠ 0) {w : World} (hm : MaxAt w) :
    Calls Tryd.prog 6 #[.string s, .agg #[.int .i64 a, .int .i64 b], .bool all] w fun e w' => e = .returned (.bool true) ∧ Below w.heap.size w w' := by
  have LV : Hid (∀ u, MaxAt u → Calls Tryd.prog 7 #[] u fun e w' => e = .returned (.bool true) ∧ Below u.heap.size u w') := fun u hu => sub_lives hu
  have K := LBox.new w a b
  obtain ⟨q0, q1⟩ := K.cells
  replace hm := hm.below K.below
  have g0 : decide ((500 : Int) < (s.size : Int)) = false := decide_eq_false (by omega)
  have C : Hid (∀ u, MaxAt u → Calls Tryd.prog 12 #[.string s, .int .i64 a, .int .i64 b, .string ⟨#[35]⟩] u fun e w' => e = .returned (.int .i64 (Sb.count s.data.toList a b [35] : Nat)) ∧ Below u.heap.size u w') := fun u hu => sub_Count s a b ⟨#[35]⟩ (by omega) (by decide) hu
  have S : Hid (∀ u, MaxAt u → Calls Tryd.prog 8 #[.string s, .int .i64 a, .int .i64 b, .string ⟨#[97]⟩, .string ⟨#[35]⟩, .bool all] u fun e w' => e = .returned (.tuple #[.string (bs T), .int .i64 f, .int .i64 x]) ∧ Below u.heap.size u w') := fun u hu => by
    have := sub_Swap s ⟨#[97]⟩ ⟨#[35]⟩ a b all (by omega) (by decide) (by decide) hu
    rwa [show Sb.swap s.data.toList a b (⟨#[97]⟩ : ByteArray).data.toList (⟨#[35]⟩ : ByteArray).data.toList all = (T, f, x) from hs] at this
  have hx1 := Sb.swap_sign hs (by rw [data_len]; omega)
  rw [hc] at C
  clear hs hc h
  rcases hx1 with rfl | rfl | rfl
  · exact absurd rfl hx
  · go_enter Tryd.func6, Tryd.ntmps6
    go_wp2_with (first
      | (go_at_call 12; (with_reducible refine (C.out _ hm).mono ?_); rintro e u ⟨rfl, hb⟩; replace K := K.on hb; replace hm := hm.below hb; clear hb q0 q1; obtain ⟨q0, q1⟩ := K.cells)
      | (go_at_call 8; (with_reducible refine (S.out _ hm).mono ?_); rintro e u ⟨rfl, hb⟩; replace K := K.on hb; replace hm := hm.below hb; clear hb q0 q1; obtain ⟨q0, q1⟩ := K.cells)
      | (go_at_call 7; (with_reducible refine (LV.out _ hm).mono ?_); rintro e u ⟨rfl, hb⟩; replace K := K.on hb; replace hm := hm.below hb; clear hb q0 q1; obtain ⟨q0, q1⟩ := K.cells))
    go_ret
    exact ⟨rfl, K.below⟩
  · go_enter Tryd.func6, Tryd.ntmps6
    go_wp2_with (first
      | (go_at_call 12; (with_reducible refine (C.out _ hm).mono ?_); rintro e u ⟨rfl, hb⟩; replace K := K.on hb; replace hm := hm.below hb; clear hb q0 q1; obtain ⟨q0, q1⟩ := K.cells)
      | (go_at_call 8; (with_reducible refine (S.out _ hm).mono ?_); rintro e u ⟨rfl, hb⟩; replace K := K.on hb; replace hm := hm.below hb; clear hb q0 q1; obtain ⟨q0, q1⟩ := K.cells)
      | (go_at_call 7; (with_reducible refine (LV.out _ hm).mono ?_); rintro e u ⟨rfl, hb⟩; replace K := K.on hb; replace hm := hm.below hb; clear hb q0 q1; obtain ⟨q0, q1⟩ := K.cells))
    go_ret
    exact ⟨rfl, K.below⟩
set_option maxHeartbeats 4000000 in
set_option maxRecDepth 100000 in
theorem subBack_ok (s : ByteArray) (a b : Int) (all : Bool) (h : s.size ≤ 500) (hc : Sb.count s.data.toList a b [35] = 0) {T : List UInt8} {f g : Int} (hs : Sb.swap s.data.toList a b [97] [35] all = (T, f, 0)) (hT : T.length ≤ 500) (hu : Sb.swap T a b [35] [97] true = (s.data.toList, g, 0)) {w : World} (hm : MaxAt w) :
    Calls Tryd.prog 6 #[.string s, .agg #[.int .i64 a, .int .i64 b], .bool all] w fun e w' => e = .returned (.bool true) ∧ Below w.heap.size w w' := by
  have LV : Hid (∀ u, MaxAt u → Calls Tryd.prog 7 #[] u fun e w' => e = .returned (.bool true) ∧ Below u.heap.size u w') := fun u hu => sub_lives hu
  have K := LBox.new w a b
  obtain ⟨q0, q1⟩ := K.cells
  replace hm := hm.below K.below
  have g0 : decide ((500 : Int) < (s.size : Int)) = false := decide_eq_false (by omega)
  have C : Hid (∀ u, MaxAt u → Calls Tryd.prog 12 #[.string s, .int .i64 a, .int .i64 b, .string ⟨#[35]⟩] u fun e w' => e = .returned (.int .i64 (Sb.count s.data.toList a b [35] : Nat)) ∧ Below u.heap.size u w') := fun u hu => sub_Count s a b ⟨#[35]⟩ (by omega) (by decide) hu
  have S : Hid (∀ u, MaxAt u → Calls Tryd.prog 8 #[.string s, .int .i64 a, .int .i64 b, .string ⟨#[97]⟩, .string ⟨#[35]⟩, .bool all] u fun e w' => e = .returned (.tuple #[.string (bs T), .int .i64 f, .int .i64 0]) ∧ Below u.heap.size u w') := fun u hu => by
    have := sub_Swap s ⟨#[97]⟩ ⟨#[35]⟩ a b all (by omega) (by decide) (by decide) hu
    rwa [show Sb.swap s.data.toList a b (⟨#[97]⟩ : ByteArray).data.toList (⟨#[35]⟩ : ByteArray).data.toList all = (T, f, 0) from hs] at this
  have U : Hid (∀ u, MaxAt u → Calls Tryd.prog 8 #[.string (bs T), .int .i64 a, .int .i64 b, .string ⟨#[35]⟩, .string ⟨#[97]⟩, .bool true] u fun e w' => e = .returned (.tuple #[.string s, .int .i64 g, .int .i64 0]) ∧ Below u.heap.size u w') := fun u hm' => by
    have := sub_Swap (bs T) ⟨#[35]⟩ ⟨#[97]⟩ a b true (by rw [bs_size]; omega) (by decide) (by decide) hm'
    rw [bs_toList, show Sb.swap T a b (⟨#[35]⟩ : ByteArray).data.toList (⟨#[97]⟩ : ByteArray).data.toList true = (s.data.toList, g, 0) from hu, Sb.swapV, bs_data] at this
    exact this
  have e0 : (s.toList == s.toList) = true := by simp
  rw [hc] at C
  clear hs hc h hT hu
  generalize bs T = X at *
  go_enter Tryd.func6, Tryd.ntmps6
  go_wp2_with (first
    | (go_at_call 12; (with_reducible refine (C.out _ hm).mono ?_); rintro e u ⟨rfl, hb⟩; replace K := K.on hb; replace hm := hm.below hb; clear hb q0 q1; obtain ⟨q0, q1⟩ := K.cells)
    | (go_at_call 8; (with_reducible refine (S.out _ hm).mono ?_); rintro e u ⟨rfl, hb⟩; replace K := K.on hb; replace hm := hm.below hb; clear hb q0 q1; obtain ⟨q0, q1⟩ := K.cells)
    | (go_at_call 8; (with_reducible refine (U.out _ hm).mono ?_); rintro e u ⟨rfl, hb⟩; replace K := K.on hb; replace hm := hm.below hb; clear hb q0 q1; obtain ⟨q0, q1⟩ := K.cells)
    | (go_at_call 7; (with_reducible refine (LV.out _ hm).mono ?_); rintro e u ⟨rfl, hb⟩; replace K := K.on hb; replace hm := hm.below hb; clear hb q0 q1; obtain ⟨q0, q1⟩ := K.cells))
  go_ret
  exact ⟨rfl, K.below⟩
theorem subBack_walk (s : ByteArray) (a b : Int) (all : Bool) {w : World} (hm : MaxAt w) :
    Calls Tryd.prog 6 #[.string s, .agg #[.int .i64 a, .int .i64 b], .bool all] w fun e w' => e = .returned (.bool true) ∧ Below w.heap.size w w' := by
  by_cases h : 500 < s.size
  · exact subBack_big s a b all h hm
  by_cases hc : 0 < Sb.count s.data.toList a b [35]
  · exact subBack_there s a b all (by omega) hc hm
  obtain ⟨T, f, x, hs⟩ : ∃ T f x, Sb.swap s.data.toList a b [97] [35] all = (T, f, x) := ⟨_, _, _, rfl⟩
  by_cases hx : x = 0
  · subst hx
    obtain ⟨g, hu⟩ := Sb.swap_back hs (by omega) (by rw [data_len]; omega)
    obtain ⟨i, j, rfl, rfl, F⟩ := Sb.swap_fine hs
    have hl := F.len
    simp only [List.length_cons, List.length_nil] at hl
    rw [data_len] at hl
    exact subBack_ok s i j all (by omega) (by omega) hs (by omega) hu hm
  · exact subBack_err s a b all (by omega) (by omega) hs hx hm
section
open Go.ChangeShapes Go.WideShapes Go.ChangeAt
open Go.ChangeMaps (open_string)
set_option maxRecDepth 100000 in
theorem subBack_contract (H : Type) (enc : TypeId × Value → H) (W : World) (base : Nat) (args : Array Value) (ds gs : List (DataW H)) (before : List MemPlace)
    (hval : ∀ (j : Nat) t v, Tryd.f6.params[j]? = some t → args[j]? = some v → Value.okWide Tryd.prog W .any base t v)
    (hW : DataW.Whole enc Tryd.prog Tryd.f6.params.toList Rows.subBackSpec.vars false W args.toList ds gs before)
    (hsz : (DataW.weightsEach Tryd.prog (Tryd.f6.params.toList ++ Rows.subBackSpec.plain.varTypes Tryd.prog) (ds ++ gs)).all (· ≤ reachBytes) = true)
    (hsh : W.ShapedOpen Tryd.prog) :
    Calls Tryd.prog 6 args W fun e W' => ∃ v, e = .returned v ∧ Rows.subBackSpec.post enc Tryd.prog Tryd.f6 false true false false W args v W' := by
  have hW' := hW
  obtain ⟨p, q, hA0, hV, rfl, hfz, hnd⟩ := hW
  have hA : DataW.TrodAll enc Tryd.prog W 0 (fun _ => true) true Tryd.f6.params.toList args.toList ds p := hA0
  rw [Tryd.params6] at hA hval hsz
  obtain ⟨v0, vs0, d0, ds0, p0, q0, hargs, rfl, rfl, h0, r0⟩ := trodAll_cons hA
  obtain ⟨v1, vs1, d1, ds1, p1, q1, rfl, rfl, rfl, h1, r1⟩ := trodAll_cons r0
  obtain ⟨v2, vs2, d2, ds2, p2, q2, rfl, rfl, rfl, h2, r2⟩ := trodAll_cons r1
  obtain ⟨rfl, rfl, rfl⟩ := trodAll_nil r2
  obtain rfl : args = #[v0, v1, v2] := by cases args; simp_all
  obtain ⟨rfl, rfl⟩ := trodVars_none hV
  obtain ⟨s0, rfl, rfl, rfl, hmax0⟩ := open_string Tryd.underlying9 (hval 0 9 v0 rfl rfl) h0
  have hs0 : s0.size ≤ 140737488351232 := by rw [← data_len]; exact sized_string hsz (j := 0) (t := 9) rfl rfl
  obtain ⟨la1, lb1, rfl⟩ := open_lines28 (hval 1 23 v1 rfl rfl) h1
  obtain ⟨b2, rfl, rfl, rfl⟩ := open_bool Tryd.underlying4 (hval 2 4 v2 rfl rfl) h2
  refine (subBack_walk s0 la1 lb1 b2 (Tryd.laysM143.s1_3 W hsh)).mono fun e W' ⟨he, hb⟩ => ?_
  subst he
  exact ⟨_, rfl, law_post rfl rfl (by rw [Tryd.params6]; decide +kernel) ⟨rfl, rfl, rfl⟩ hW' hb⟩
theorem subBack_reads (os : Os) {H : Type} (enc : TypeId × Value → H) : ∃ places, DataW.whole enc Tryd.prog ((World.laidAll Tryd.prog os Rows.subBackRow.laid).forCall (fun _ _ => 0) ⟨#[], #[.string .empty, .agg #[.int .i64 0, .int .i64 0], .bool false], []⟩).memory Tryd.f6.params.toList Rows.subBackSpec.vars false #[.string .empty, .agg #[.int .i64 0, .int .i64 0], .bool false].toList 8 = some ([.lit (.string []), .agg [.lit (.int .i64 0), .lit (.int .i64 0)], .lit (.bool false)], [], places) :=
  ⟨[], by kernel_rfl⟩
set_option maxRecDepth 100000 in
theorem subBack_lifted (os : Os) (started : os.Started) (H : Type) (enc : TypeId × Value → H) (F : Stop.Interp) :
    ReturnsInHanded {} Tryd.checked os 6 .any ((OpenSpec.ofChange Rows.subBackSpec).preRow enc Tryd.prog Tryd.f6 Rows.subBackRow.domain false Rows.subBackRow.laid) (((OpenSpec.ofChange Rows.subBackSpec).at F).post enc Tryd.prog Tryd.f6 false true false false) := by
  obtain ⟨places, hx⟩ := subBack_reads os enc
  refine returnsInHanded_of_row (C := Tryd.checked) (s := OpenSpec.ofChange Rows.subBackSpec) own_knob started (by kernel_rfl) Tryd.func6
    (witness_row_laid (enc := enc) (C := Tryd.checked) false (World.laidAll Tryd.prog os Rows.subBackRow.laid) #[.string .empty, .agg #[.int .i64 0, .int .i64 0], .bool false] (World.laidAll_os _ _ _) (World.shaped_of_ZipB (by kernel_rfl) (by kernel_rfl)) (by kernel_rfl)
      (OpenSpec.preRow_of_cond 8 hx (by kernel_rfl) (fun k hk => by cases hk) (by kernel_rfl) (by rw [MakeChecks.laidMetH_plain _ _ _ (by kernel_rfl)]; exact laidMet_laidAll _ (by kernel_rfl) (by kernel_rfl)))) ?_
  intro W base args ds gs before hval hW _ _ hsz _ hsh _
  exact subBack_contract H enc W base args ds gs before hval hW hsz hsh
theorem subBack_row : Rows.SubBackSaid :=
  OpenClaim.holds_of_cond 6 Tryd.f6 rfl rfl rfl rfl rfl rfl rfl ⟨rfl, rfl, rfl, rfl, rfl⟩ rfl rfl rfl rfl rfl (by kernel_rfl) Tryd.func6 (by kernel_rfl)
    (of_decide_eq_true (by kernel_rfl)) (by unfold Func.isWrapper; first | (rw [if_pos (by decide +kernel)]; kernel_rfl) | (rw [if_neg (by decide +kernel)]; exact ⟨rfl, rfl⟩))
    (fun os started H enc _ F => by rw [OpenClaim.pre_eq_preRow]; exact subBack_lifted os started H enc F)
theorem subBack_holds : Rows.SubBackCardSaid :=
  Claim7.holds_tied_plain_at .later [] _ _ _ _ subBack_row (fun _ h => by cases h) (by kernel_rfl) (fun _ h => by cases h) subBack_row_tie rfl ⟨rfl, rfl⟩ (by kernel_rfl) rfl
    (fun f fn hf hfn => by
      obtain rfl : f = 6 := Option.some.inj ((show Tryd.prog.funcNamed "calamus/calamuslaw28.SubBack" = some 6 by kernel_rfl).symm.trans hf) |>.symm
      obtain rfl : fn = Tryd.f6 := (Option.some.inj (Tryd.func6.symm.trans hfn)).symm
      exact ⟨by kernel_rfl, fun j t ht => by
        rw [Tryd.params6] at ht
        have hm := Array.mem_of_getElem? ht
        have hall : (#[9, 23, 4].toList.all fun u => !Tryd.prog.wantsStandIn u) = true := by kernel_rfl
        exact (show Tryd.prog.wantsStandIn t = false by simpa using List.all_eq_true.1 hall t (by simpa using hm))⟩)
    (by kernel_rfl)
end
end Go.Proofs.YtlfhfpjffdaomaaDoor
