/-
  'calamuslaw28.SubCounts' answers true for every text, lines and pattern, what it reads being of bulk at most 1048576: the range of lines, and how often a text stands in them, is what the document tells. The row lists two tables of utf8 that the walk never reads.
-/
import Derived.Test.YtlfhfpjffdaomaaDoorJS
import Derived.Test.YtlfhfpjffdaomaaDoorJR
import Derived.Test.YtlfhfpjffdaomaaDoorThingSame
import Derived.Test.YtlfhfpjffdaomaaDoorBulk
import Derived.Test.YtlfhfpjffdaomaaDoorCardWitness
import Derived.SevenTiedAt
import Derived.Deep.RegionHeld3
namespace Go.Proofs.YtlfhfpjffdaomaaDoor
open Go.RowKit
theorem LBox.alloc {w u : World} {a b : Int} (h : LBox w u a b) (o : Obj) : LBox w (u.alloc o) a b := ⟨h.below.alloc h.below.size o, h.blk.alloc o⟩
theorem cnt_on {w u v : World} (h : Below w.heap.size w u) (g : Below u.heap.size u v) : Below w.heap.size w v := h.trans (g.mono h.size)
theorem cnt_dr {w u : World} (h : Below w.heap.size w u) : Below w.heap.size w u.drew := cnt_on h (below_gb (gb_drew u none))
theorem cnt_ond {w u v : World} (h : Below w.heap.size w u) (g : Below u.drew.heap.size u.drew v) : Below w.heap.size w v := cnt_on (cnt_on h (below_gb (gb_drew u none))) g
set_option maxHeartbeats 4000000 in
set_option maxRecDepth 100000 in
theorem subCounts_big (s : ByteArray) (a b : Int) (p : ByteArray) (h : 500 < s.size) {w : World} (hm : MaxAt w) :
    Calls Tryd.prog 4 #[.string s, .agg #[.int .i64 a, .int .i64 b], .string p] w fun e w' => e = .returned (.bool true) ∧ Below w.heap.size w w' := by
  have LV : Hid (∀ u, MaxAt u → Calls Tryd.prog 7 #[] u fun e w' => e = .returned (.bool true) ∧ Below u.heap.size u w') := fun u hu => sub_lives hu
  have K := LBox.new w a b
  obtain ⟨q0, q1⟩ := K.cells
  replace hm := hm.below K.below
  have g0 : decide ((500 : Int) < (s.size : Int)) = true := decide_eq_true (by omega)
  go_enter Tryd.func4, Tryd.ntmps4
  go_wp2_with (first
    | (go_at_call 7; (with_reducible refine (LV.out _ hm).mono ?_); rintro e u ⟨rfl, hb⟩; replace K := K.on hb; replace hm := hm.below hb; clear hb q0 q1; obtain ⟨q0, q1⟩ := K.cells))
  go_ret
  exact ⟨rfl, K.below⟩
set_option maxHeartbeats 4000000 in
set_option maxRecDepth 100000 in
theorem subCounts_ok (s : ByteArray) (a b : Int) (p : ByteArray) (h : s.size ≤ 500) (hp : p.size ≤ 1048576) {w : World} (hm : MaxAt w) :
    Calls Tryd.prog 4 #[.string s, .agg #[.int .i64 a, .int .i64 b], .string p] w fun e w' => e = .returned (.bool true) ∧ Below w.heap.size w w' := by
  have hm0 := hm
  have LV : Hid (∀ u, MaxAt u → Calls Tryd.prog 7 #[] u fun e w' => e = .returned (.bool true) ∧ Below u.heap.size u w') := fun u hu => sub_lives hu
  have K := LBox.new w a b
  obtain ⟨q0, q1⟩ := K.cells
  replace hm := hm.below K.below
  have g0 : decide ((500 : Int) < (s.size : Int)) = false := decide_eq_false (by omega)
  have c0 := fun w => sub_Range s a b (by omega) w
  have c1 := fun w => ref28_Range s a b (by omega) w
  have C2 : Hid (∀ u, MaxAt u → Calls Tryd.prog 12 #[.string s, .int .i64 a, .int .i64 b, .string p] u fun e w' => e = .returned (.int .i64 (Sb.count s.data.toList a b p.data.toList : Nat)) ∧ Below u.heap.size u w') := fun u hu => sub_Count s a b p (by omega) (by omega) hu
  have C3 := Lib.hid (fun w => ref28_Count s p a b (by omega) (by omega) w)
  obtain ⟨x, y, o, hr⟩ : ∃ x y o, Sb.range s.data.toList a b = (x, y, o) := ⟨_, _, _, rfl⟩
  rw [hr, Sb.rangeV] at c0 c1
  have C0 := Lib.hid c0
  have C1 := Lib.hid c1
  generalize Sb.count s.data.toList a b p.data.toList = n at *
  have t2 : (o == o) = true := by simp
  have t3 : ((n : Int) == (n : Int)) = true := by simp
  have ES := @eql_same
  clear c0 c1 hr h hp
  go_enter Tryd.func4, Tryd.ntmps4
  go_wp2_with fail
  with_reducible refine (C0.out _).mono ?_
  rintro e w1 ⟨rfl, hb1⟩
  replace K := (K.on hb1).alloc (.cells #[.int .i64 x, .int .i64 y, .bool o] 32)
  have A1 := Blk.new w1 32 #[.int .i64 x, .int .i64 y, .bool o]
  clear hb1 q0 q1
  obtain ⟨q0, q1⟩ := K.cells
  go_wp2_with fail
  with_reducible refine (C1.out _).mono ?_
  rintro e w2 ⟨rfl, hb2⟩
  replace K := (K.on hb2).alloc (.cells #[.int .i64 x, .int .i64 y, .bool o] 32)
  replace A1 := (A1.below hb2 A1.lt).alloc (.cells #[.int .i64 x, .int .i64 y, .bool o] 32)
  have B1 := Blk.new w2 32 #[.int .i64 x, .int .i64 y, .bool o]
  clear hb2 q0 q1
  have HM : Hid (∀ u, Below (w2.alloc (.cells #[.int .i64 x, .int .i64 y, .bool o] 32)).heap.size (w2.alloc (.cells #[.int .i64 x, .int .i64 y, .bool o] 32)) u → MaxAt u) := fun u hu => hm0.below (K.on hu).below
  have CC : Hid (∀ u, Below (w2.alloc (.cells #[.int .i64 x, .int .i64 y, .bool o] 32)).heap.size (w2.alloc (.cells #[.int .i64 x, .int .i64 y, .bool o] 32)) u → u.cell? ⟨w.heap.size, 0, none⟩ = some (.int .i64 a) ∧ u.cell? ⟨w.heap.size, 1, none⟩ = some (.int .i64 b) ∧ u.cell? ⟨w1.heap.size, 0, none⟩ = some (.int .i64 x) ∧ u.cell? ⟨w1.heap.size, 1, none⟩ = some (.int .i64 y) ∧ u.cell? ⟨w1.heap.size, 2, none⟩ = some (.bool o) ∧ u.cell? ⟨w2.heap.size, 0, none⟩ = some (.int .i64 x) ∧ u.cell? ⟨w2.heap.size, 1, none⟩ = some (.int .i64 y) ∧ u.cell? ⟨w2.heap.size, 2, none⟩ = some (.bool o)) := fun u hu => by
    have k := (K.on hu).cells
    have l := row_three (A1.below hu A1.lt)
    have m := row_three (B1.below hu B1.lt)
    exact ⟨k.1, k.2, l.1, l.2.1, l.2.2.1, m.1, m.2.1, m.2.2.1⟩
  have hY := Below.refl (w2.alloc (.cells #[.int .i64 x, .int .i64 y, .bool o] 32)).heap.size (w2.alloc (.cells #[.int .i64 x, .int .i64 y, .bool o] 32))
  obtain ⟨q0, q1, a0, a1, a2, b0, b1, b2⟩ := CC.out _ hY
  have HK : Hid (∀ u, Below (w2.alloc (.cells #[.int .i64 x, .int .i64 y, .bool o] 32)).heap.size (w2.alloc (.cells #[.int .i64 x, .int .i64 y, .bool o] 32)) u → Below w.heap.size w u) := fun u hu => (K.on hu).below
  clear K A1 B1 hm
  go_wp2_with fail
  go_region_held3 (fun u => u.cell? ⟨w.heap.size, 0, none⟩ = some (.int .i64 a) ∧ u.cell? ⟨w.heap.size, 1, none⟩ = some (.int .i64 b) ∧ u.cell? ⟨w1.heap.size, 0, none⟩ = some (.int .i64 x) ∧ u.cell? ⟨w1.heap.size, 1, none⟩ = some (.int .i64 y) ∧ u.cell? ⟨w1.heap.size, 2, none⟩ = some (.bool o) ∧ u.cell? ⟨w2.heap.size, 0, none⟩ = some (.int .i64 x) ∧ u.cell? ⟨w2.heap.size, 1, none⟩ = some (.int .i64 y) ∧ u.cell? ⟨w2.heap.size, 2, none⟩ = some (.bool o)) (first | (with_reducible exact ⟨by assumption, by assumption, by assumption, by assumption, by assumption, by assumption, by assumption, by assumption⟩) | go_keep)
    (first
      | (go_at_call 12; (refine (C2.out _ (by first | exact HM.out _ hY | exact HM.out _ (cnt_dr hY))).mono ?_); rintro e w6 ⟨rfl, hb6⟩; (first | (with_reducible replace hY := cnt_on hY hb6) | (with_reducible replace hY := cnt_ond hY hb6)); clear hb6; obtain ⟨q0, q1, a0, a1, a2, b0, b1, b2⟩ := CC.out _ hY)
      | (go_at_call 13; (refine (C3.out _).mono ?_); rintro e w6 ⟨rfl, hb6⟩; (first | (with_reducible replace hY := cnt_on hY hb6) | (with_reducible replace hY := cnt_ond hY hb6)); clear hb6; obtain ⟨q0, q1, a0, a1, a2, b0, b1, b2⟩ := CC.out _ hY)
      | (go_at_call 7; (refine (LV.out _ (by first | exact HM.out _ hY | exact HM.out _ (cnt_dr hY))).mono ?_); rintro e w6 ⟨rfl, hb6⟩; (first | (with_reducible replace hY := cnt_on hY hb6) | (with_reducible replace hY := cnt_ond hY hb6)); clear hb6; obtain ⟨q0, q1, a0, a1, a2, b0, b1, b2⟩ := CC.out _ hY))
  go_wp2
  go_ret
  exact ⟨rfl, HK.out _ hY⟩
theorem subCounts_walk (s : ByteArray) (a b : Int) (p : ByteArray) (hp : p.size ≤ 1048576) {w : World} (hm : MaxAt w) :
    Calls Tryd.prog 4 #[.string s, .agg #[.int .i64 a, .int .i64 b], .string p] w fun e w' => e = .returned (.bool true) ∧ Below w.heap.size w w' := by
  by_cases h : 500 < s.size
  · exact subCounts_big s a b p h hm
  · exact subCounts_ok s a b p (by omega) hp hm
section
open Go.ChangeShapes Go.WideShapes Go.ChangeAt
open Go.ChangeMaps (open_string)
set_option maxRecDepth 100000 in
theorem subCounts_contract (H : Type) (enc : TypeId × Value → H) (W : World) (base : Nat) (args : Array Value) (ds gs : List (DataW H)) (before : List MemPlace)
    (hval : ∀ (j : Nat) t v, Tryd.f4.params[j]? = some t → args[j]? = some v → Value.okWide Tryd.prog W .any base t v)
    (hW : DataW.Whole enc Tryd.prog Tryd.f4.params.toList Rows.subCountsSpec.vars false W args.toList ds gs before)
    (hk : Rows.uptoSmall H (ds ++ gs) = true)
    (hsh : W.ShapedOpen Tryd.prog) :
    Calls Tryd.prog 4 args W fun e W' => ∃ v, e = .returned v ∧ Rows.subCountsSpec.post enc Tryd.prog Tryd.f4 false true false false W args v W' := by
  have hW' := hW
  obtain ⟨p, q, hA0, hV, rfl, hfz, hnd⟩ := hW
  have hA : DataW.TrodAll enc Tryd.prog W 0 (fun _ => true) true Tryd.f4.params.toList args.toList ds p := hA0
  rw [Tryd.params4] at hA hval
  obtain ⟨v0, vs0, d0, ds0, p0, q0, hargs, rfl, rfl, h0, r0⟩ := trodAll_cons hA
  obtain ⟨v1, vs1, d1, ds1, p1, q1, rfl, rfl, rfl, h1, r1⟩ := trodAll_cons r0
  obtain ⟨v2, vs2, d2, ds2, p2, q2, rfl, rfl, rfl, h2, r2⟩ := trodAll_cons r1
  obtain ⟨rfl, rfl, rfl⟩ := trodAll_nil r2
  obtain rfl : args = #[v0, v1, v2] := by cases args; simp_all
  obtain ⟨rfl, rfl⟩ := trodVars_none hV
  obtain ⟨s0, rfl, rfl, rfl, hmax0⟩ := open_string Tryd.underlying9 (hval 0 9 v0 rfl rfl) h0
  have hs0 : s0.size ≤ 1048576 := by rw [← data_len]; exact small_string hk (by simp)
  obtain ⟨la1, lb1, rfl⟩ := open_lines28 (hval 1 23 v1 rfl rfl) h1
  obtain ⟨s2, rfl, rfl, rfl, hmax2⟩ := open_string Tryd.underlying9 (hval 2 9 v2 rfl rfl) h2
  have hs2 : s2.size ≤ 1048576 := by rw [← data_len]; exact small_string hk (by simp)
  refine (subCounts_walk s0 la1 lb1 s2 hs2 (Tryd.laysM143.s1_3 W hsh)).mono fun e W' ⟨he, hb⟩ => ?_
  subst he
  exact ⟨_, rfl, law_post rfl rfl (by rw [Tryd.params4]; decide +kernel) ⟨rfl, rfl, rfl⟩ hW' hb⟩
theorem subCounts_reads (os : Os) {H : Type} (enc : TypeId × Value → H) : ∃ places, DataW.whole enc Tryd.prog ((World.laidAll Tryd.prog os Rows.subCountsUptoRow.laid).forCall (fun _ _ => 0) ⟨#[], #[.string .empty, .agg #[.int .i64 0, .int .i64 0], .string .empty], []⟩).memory Tryd.f4.params.toList Rows.subCountsSpec.vars false #[.string .empty, .agg #[.int .i64 0, .int .i64 0], .string .empty].toList 8 = some ([.lit (.string []), .agg [.lit (.int .i64 0), .lit (.int .i64 0)], .lit (.string [])], [], places) :=
  ⟨[], by kernel_rfl⟩
set_option maxRecDepth 100000 in
theorem subCounts_lifted (os : Os) (started : os.Started) (H : Type) (enc : TypeId × Value → H) (F : Stop.Interp) :
    ReturnsInHanded {} Tryd.checked os 4 .any ((Rows.OpenSpec.upto Rows.subCountsSpec).preRow enc Tryd.prog Tryd.f4 Rows.subCountsUptoRow.domain false Rows.subCountsUptoRow.laid) (((Rows.OpenSpec.upto Rows.subCountsSpec).at F).post enc Tryd.prog Tryd.f4 false true false false) := by
  obtain ⟨places, hx⟩ := subCounts_reads os enc
  refine returnsInHanded_of_row (C := Tryd.checked) (s := Rows.OpenSpec.upto Rows.subCountsSpec) own_knob started (by kernel_rfl) Tryd.func4
    (witness_row_laid (enc := enc) (C := Tryd.checked) false (World.laidAll Tryd.prog os Rows.subCountsUptoRow.laid) #[.string .empty, .agg #[.int .i64 0, .int .i64 0], .string .empty] (World.laidAll_os _ _ _) (World.shaped_of_ZipB (by kernel_rfl) (by kernel_rfl)) (by kernel_rfl)
      (OpenSpec.preRow_of_cond 8 hx (by kernel_rfl) (fun k hk => by cases hk; kernel_rfl) (by kernel_rfl) (by rw [MakeChecks.laidMetH_plain _ _ _ (by kernel_rfl)]; exact laidMet_laidAll _ (by kernel_rfl) (by kernel_rfl)))) ?_
  intro W base args ds gs before hval hW _ hcond _ _ hsh _
  exact subCounts_contract H enc W base args ds gs before hval hW (hcond _ rfl) hsh
theorem subCounts_row : Rows.SubCountsUptoSaid :=
  OpenClaim.holds_of_cond 4 Tryd.f4 rfl rfl rfl rfl rfl rfl rfl ⟨rfl, rfl, rfl, rfl, rfl⟩ rfl rfl rfl rfl rfl (by kernel_rfl) Tryd.func4 (by kernel_rfl)
    (of_decide_eq_true (by kernel_rfl)) (by unfold Func.isWrapper; first | (rw [if_pos (by decide +kernel)]; kernel_rfl) | (rw [if_neg (by decide +kernel)]; exact ⟨rfl, rfl⟩))
    (fun os started H enc _ F => by rw [OpenClaim.pre_eq_preRow]; exact subCounts_lifted os started H enc F)
theorem subCounts_holds : Rows.SubCountsUptoCardSaid :=
  Claim7.holds_tied_plain_at .later [] _ _ _ _ subCounts_row (fun _ h => by cases h) (by kernel_rfl) (fun _ h => by cases h) subCountsUpto_row_tie rfl ⟨rfl, rfl⟩ (by kernel_rfl) rfl
    (fun f fn hf hfn => by
      obtain rfl : f = 4 := Option.some.inj ((show Tryd.prog.funcNamed "calamus/calamuslaw28.SubCounts" = some 4 by kernel_rfl).symm.trans hf) |>.symm
      obtain rfl : fn = Tryd.f4 := (Option.some.inj (Tryd.func4.symm.trans hfn)).symm
      exact ⟨by kernel_rfl, fun j t ht => by
        rw [Tryd.params4] at ht
        have hm := Array.mem_of_getElem? ht
        have hall : (#[9, 23, 9].toList.all fun u => !Tryd.prog.wantsStandIn u) = true := by kernel_rfl
        exact (show Tryd.prog.wantsStandIn t = false by simpa using List.all_eq_true.1 hall t (by simpa using hm))⟩)
    (by kernel_rfl)
end
end Go.Proofs.YtlfhfpjffdaomaaDoor
