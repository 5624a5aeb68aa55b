/-
  'calamuslaw28.SubSwaps' answers true for every text, lines, pattern, text to be put in its place, and choice, what it reads being of bulk at most 1048576: what the text is then is what the document tells, or there is its error. The row lists two tables of utf8 that the walk never reads.
-/
import Derived.Test.YtlfhfpjffdaomaaDoorJS
import Derived.Test.YtlfhfpjffdaomaaDoorJR
import Derived.Test.YtlfhfpjffdaomaaDoorBulk
import Derived.Test.YtlfhfpjffdaomaaDoorCardWitness
import Derived.SevenTiedAt
namespace Go.Proofs.YtlfhfpjffdaomaaDoor
open Go.RowKit
set_option maxHeartbeats 4000000 in
set_option maxRecDepth 100000 in
theorem subSwaps_big (s : ByteArray) (a b : Int) (p r : ByteArray) (all : Bool) (h : 500 < s.size) {w : World} (hm : MaxAt w) :
    Calls Tryd.prog 3 #[.string s, .agg #[.int .i64 a, .int .i64 b], .string p, .string r, .bool all] w fun e w' => e = .returned (.bool true) ∧ Below w.heap.size w w' := by
  have LV : Hid (∀ u, MaxAt u → Calls Tryd.prog 7 #[] u fun e w' => e = .returned (.bool true) ∧ Below u.heap.size u w') := fun u hu => sub_lives hu
  have K := LBox.new w a b
  obtain ⟨q0, q1⟩ := K.cells
  replace hm := hm.below K.below
  have g0 : decide ((500 : Int) < (s.size : Int)) = true := decide_eq_true (by omega)
  go_enter Tryd.func3, Tryd.ntmps3
  go_wp2_with (first
    | (go_at_call 7; (with_reducible refine (LV.out _ hm).mono ?_); rintro e u ⟨rfl, hb⟩; replace K := K.on hb; replace hm := hm.below hb; clear hb q0 q1; obtain ⟨q0, q1⟩ := K.cells))
  go_ret
  exact ⟨rfl, K.below⟩
set_option maxHeartbeats 4000000 in
set_option maxRecDepth 100000 in
theorem subSwaps_long (s : ByteArray) (a b : Int) (p r : ByteArray) (all : Bool) (h : s.size ≤ 500) (h2 : 2000 < r.size) {w : World} (hm : MaxAt w) :
    Calls Tryd.prog 3 #[.string s, .agg #[.int .i64 a, .int .i64 b], .string p, .string r, .bool all] w fun e w' => e = .returned (.bool true) ∧ Below w.heap.size w w' := by
  have LV : Hid (∀ u, MaxAt u → Calls Tryd.prog 7 #[] u fun e w' => e = .returned (.bool true) ∧ Below u.heap.size u w') := fun u hu => sub_lives hu
  have K := LBox.new w a b
  obtain ⟨q0, q1⟩ := K.cells
  replace hm := hm.below K.below
  have g0 : decide ((500 : Int) < (s.size : Int)) = false := decide_eq_false (by omega)
  have g1 : decide ((2000 : Int) < (r.size : Int)) = true := decide_eq_true (by omega)
  go_enter Tryd.func3, Tryd.ntmps3
  go_wp2_with (first
    | (go_at_call 7; (with_reducible refine (LV.out _ hm).mono ?_); rintro e u ⟨rfl, hb⟩; replace K := K.on hb; replace hm := hm.below hb; clear hb q0 q1; obtain ⟨q0, q1⟩ := K.cells))
  go_ret
  exact ⟨rfl, K.below⟩
set_option maxHeartbeats 4000000 in
set_option maxRecDepth 100000 in
theorem subSwaps_ok (s : ByteArray) (a b : Int) (p r : ByteArray) (all : Bool) (h : s.size ≤ 500) (h2 : r.size ≤ 2000) (hp : p.size ≤ 1048576) {w : World} (hm : MaxAt w) :
    Calls Tryd.prog 3 #[.string s, .agg #[.int .i64 a, .int .i64 b], .string p, .string r, .bool all] w fun e w' => e = .returned (.bool true) ∧ Below w.heap.size w w' := by
  have LV : Hid (∀ u, MaxAt u → Calls Tryd.prog 7 #[] u fun e w' => e = .returned (.bool true) ∧ Below u.heap.size u w') := fun u hu => sub_lives hu
  have K := LBox.new w a b
  obtain ⟨q0, q1⟩ := K.cells
  replace hm := hm.below K.below
  have g0 : decide ((500 : Int) < (s.size : Int)) = false := decide_eq_false (by omega)
  have g1 : decide ((2000 : Int) < (r.size : Int)) = false := decide_eq_false (by omega)
  obtain ⟨T, f, x, hs⟩ : ∃ T f x, Sb.swap s.data.toList a b p.data.toList r.data.toList all = (T, f, x) := ⟨_, _, _, rfl⟩
  have S : Hid (∀ u, MaxAt u → Calls Tryd.prog 8 #[.string s, .int .i64 a, .int .i64 b, .string p, .string r, .bool all] u fun e w' => e = .returned (.tuple #[.string (bs T), .int .i64 f, .int .i64 x]) ∧ Below u.heap.size u w') := fun u hu => by
    have := sub_Swap s p r a b all (by omega) (by omega) (by omega) hu
    rwa [hs] at this
  have c1 := fun w => ref28_Swap s p r a b all (by omega) (by omega) (by omega) w
  rw [hs, Sb.swapV] at c1
  have C1 := Lib.hid c1
  have e0 : ((bs T).toList == (bs T).toList) = true := by simp
  have e1 : (f == f) = true := by simp
  have e2 : (x == x) = true := by simp
  clear hs c1 h h2 hp
  dsimp only at C1
  generalize bs T = X at *
  go_enter Tryd.func3, Tryd.ntmps3
  go_wp2_with (first
    | (go_at_call 8; (with_reducible refine (S.out _ hm).mono ?_); rintro e u ⟨rfl, hb⟩; replace K := K.on hb; replace hm := hm.below hb; clear hb q0 q1; obtain ⟨q0, q1⟩ := K.cells)
    | (go_at_call 9; (with_reducible refine (C1.out _).mono ?_); rintro e u ⟨rfl, hb⟩; replace K := K.on hb; replace hm := hm.below hb; clear hb q0 q1; obtain ⟨q0, q1⟩ := K.cells)
    | (go_at_call 7; (with_reducible refine (LV.out _ hm).mono ?_); rintro e u ⟨rfl, hb⟩; replace K := K.on hb; replace hm := hm.below hb; clear hb q0 q1; obtain ⟨q0, q1⟩ := K.cells))
  go_ret
  exact ⟨rfl, K.below⟩
theorem subSwaps_walk (s : ByteArray) (a b : Int) (p r : ByteArray) (all : Bool) (hp : p.size ≤ 1048576) {w : World} (hm : MaxAt w) :
    Calls Tryd.prog 3 #[.string s, .agg #[.int .i64 a, .int .i64 b], .string p, .string r, .bool all] w fun e w' => e = .returned (.bool true) ∧ Below w.heap.size w w' := by
  by_cases h : 500 < s.size
  · exact subSwaps_big s a b p r all h hm
  · by_cases h2 : 2000 < r.size
    · exact subSwaps_long s a b p r all (by omega) h2 hm
    · exact subSwaps_ok s a b p r all (by omega) (by omega) hp hm
section
open Go.ChangeShapes Go.WideShapes Go.ChangeAt
open Go.ChangeMaps (open_string)
set_option maxRecDepth 100000 in
theorem subSwaps_contract (H : Type) (enc : TypeId × Value → H) (W : World) (base : Nat) (args : Array Value) (ds gs : List (DataW H)) (before : List MemPlace)
    (hval : ∀ (j : Nat) t v, Tryd.f3.params[j]? = some t → args[j]? = some v → Value.okWide Tryd.prog W .any base t v)
    (hW : DataW.Whole enc Tryd.prog Tryd.f3.params.toList Rows.subSwapsSpec.vars false W args.toList ds gs before)
    (hk : Rows.uptoSmall H (ds ++ gs) = true)
    (hsh : W.ShapedOpen Tryd.prog) :
    Calls Tryd.prog 3 args W fun e W' => ∃ v, e = .returned v ∧ Rows.subSwapsSpec.post enc Tryd.prog Tryd.f3 false true false false W args v W' := by
  have hW' := hW
  obtain ⟨p, q, hA0, hV, rfl, hfz, hnd⟩ := hW
  have hA : DataW.TrodAll enc Tryd.prog W 0 (fun _ => true) true Tryd.f3.params.toList args.toList ds p := hA0
  rw [Tryd.params3] at hA hval
  obtain ⟨v0, vs0, d0, ds0, p0, q0, hargs, rfl, rfl, h0, r0⟩ := trodAll_cons hA
  obtain ⟨v1, vs1, d1, ds1, p1, q1, rfl, rfl, rfl, h1, r1⟩ := trodAll_cons r0
  obtain ⟨v2, vs2, d2, ds2, p2, q2, rfl, rfl, rfl, h2, r2⟩ := trodAll_cons r1
  obtain ⟨v3, vs3, d3, ds3, p3, q3, rfl, rfl, rfl, h3, r3⟩ := trodAll_cons r2
  obtain ⟨v4, vs4, d4, ds4, p4, q4, rfl, rfl, rfl, h4, r4⟩ := trodAll_cons r3
  obtain ⟨rfl, rfl, rfl⟩ := trodAll_nil r4
  obtain rfl : args = #[v0, v1, v2, v3, v4] := by cases args; simp_all
  obtain ⟨rfl, rfl⟩ := trodVars_none hV
  obtain ⟨s0, rfl, rfl, rfl, hmax0⟩ := open_string Tryd.underlying9 (hval 0 9 v0 rfl rfl) h0
  have hs0 : s0.size ≤ 1048576 := by rw [← data_len]; exact small_string hk (by simp)
  obtain ⟨la1, lb1, rfl⟩ := open_lines28 (hval 1 23 v1 rfl rfl) h1
  obtain ⟨s2, rfl, rfl, rfl, hmax2⟩ := open_string Tryd.underlying9 (hval 2 9 v2 rfl rfl) h2
  have hs2 : s2.size ≤ 1048576 := by rw [← data_len]; exact small_string hk (by simp)
  obtain ⟨s3, rfl, rfl, rfl, hmax3⟩ := open_string Tryd.underlying9 (hval 3 9 v3 rfl rfl) h3
  have hs3 : s3.size ≤ 1048576 := by rw [← data_len]; exact small_string hk (by simp)
  obtain ⟨b4, rfl, rfl, rfl⟩ := open_bool Tryd.underlying4 (hval 4 4 v4 rfl rfl) h4
  refine (subSwaps_walk s0 la1 lb1 s2 s3 b4 hs2 (Tryd.laysM143.s1_3 W hsh)).mono fun e W' ⟨he, hb⟩ => ?_
  subst he
  exact ⟨_, rfl, law_post rfl rfl (by rw [Tryd.params3]; decide +kernel) ⟨rfl, rfl, rfl⟩ hW' hb⟩
theorem subSwaps_reads (os : Os) {H : Type} (enc : TypeId × Value → H) : ∃ places, DataW.whole enc Tryd.prog ((World.laidAll Tryd.prog os Rows.subSwapsUptoRow.laid).forCall (fun _ _ => 0) ⟨#[], #[.string .empty, .agg #[.int .i64 0, .int .i64 0], .string .empty, .string .empty, .bool false], []⟩).memory Tryd.f3.params.toList Rows.subSwapsSpec.vars false #[.string .empty, .agg #[.int .i64 0, .int .i64 0], .string .empty, .string .empty, .bool false].toList 8 = some ([.lit (.string []), .agg [.lit (.int .i64 0), .lit (.int .i64 0)], .lit (.string []), .lit (.string []), .lit (.bool false)], [], places) :=
  ⟨[], by kernel_rfl⟩
set_option maxRecDepth 100000 in
theorem subSwaps_lifted (os : Os) (started : os.Started) (H : Type) (enc : TypeId × Value → H) (F : Stop.Interp) :
    ReturnsInHanded {} Tryd.checked os 3 .any ((Rows.OpenSpec.upto Rows.subSwapsSpec).preRow enc Tryd.prog Tryd.f3 Rows.subSwapsUptoRow.domain false Rows.subSwapsUptoRow.laid) (((Rows.OpenSpec.upto Rows.subSwapsSpec).at F).post enc Tryd.prog Tryd.f3 false true false false) := by
  obtain ⟨places, hx⟩ := subSwaps_reads os enc
  refine returnsInHanded_of_row (C := Tryd.checked) (s := Rows.OpenSpec.upto Rows.subSwapsSpec) own_knob started (by kernel_rfl) Tryd.func3
    (witness_row_laid (enc := enc) (C := Tryd.checked) false (World.laidAll Tryd.prog os Rows.subSwapsUptoRow.laid) #[.string .empty, .agg #[.int .i64 0, .int .i64 0], .string .empty, .string .empty, .bool false] (World.laidAll_os _ _ _) (World.shaped_of_ZipB (by kernel_rfl) (by kernel_rfl)) (by kernel_rfl)
      (OpenSpec.preRow_of_cond 8 hx (by kernel_rfl) (fun k hk => by cases hk; kernel_rfl) (by kernel_rfl) (by rw [MakeChecks.laidMetH_plain _ _ _ (by kernel_rfl)]; exact laidMet_laidAll _ (by kernel_rfl) (by kernel_rfl)))) ?_
  intro W base args ds gs before hval hW _ hcond _ _ hsh _
  exact subSwaps_contract H enc W base args ds gs before hval hW (hcond _ rfl) hsh
theorem subSwaps_row : Rows.SubSwapsUptoSaid :=
  OpenClaim.holds_of_cond 3 Tryd.f3 rfl rfl rfl rfl rfl rfl rfl ⟨rfl, rfl, rfl, rfl, rfl⟩ rfl rfl rfl rfl rfl (by kernel_rfl) Tryd.func3 (by kernel_rfl)
    (of_decide_eq_true (by kernel_rfl)) (by unfold Func.isWrapper; first | (rw [if_pos (by decide +kernel)]; kernel_rfl) | (rw [if_neg (by decide +kernel)]; exact ⟨rfl, rfl⟩))
    (fun os started H enc _ F => by rw [OpenClaim.pre_eq_preRow]; exact subSwaps_lifted os started H enc F)
theorem subSwaps_holds : Rows.SubSwapsUptoCardSaid :=
  Claim7.holds_tied_plain_at .later [] _ _ _ _ subSwaps_row (fun _ h => by cases h) (by kernel_rfl) (fun _ h => by cases h) subSwapsUpto_row_tie rfl ⟨rfl, rfl⟩ (by kernel_rfl) rfl
    (fun f fn hf hfn => by
      obtain rfl : f = 3 := Option.some.inj ((show Tryd.prog.funcNamed "calamus/calamuslaw28.SubSwaps" = some 3 by kernel_rfl).symm.trans hf) |>.symm
      obtain rfl : fn = Tryd.f3 := (Option.some.inj (Tryd.func3.symm.trans hfn)).symm
      exact ⟨by kernel_rfl, fun j t ht => by
        rw [Tryd.params3] at ht
        have hm := Array.mem_of_getElem? ht
        have hall : (#[9, 23, 9, 9, 4].toList.all fun u => !Tryd.prog.wantsStandIn u) = true := by kernel_rfl
        exact (show Tryd.prog.wantsStandIn t = false by simpa using List.all_eq_true.1 hall t (by simpa using hm))⟩)
    (by kernel_rfl)
end
end Go.Proofs.YtlfhfpjffdaomaaDoor
