/-
  'calamuslaw26.PhraseParses' answers true for every text, in both modes: which command any keys are is as the document says.
-/
import Derived.Test.YtchpkeelnfmlbaaGreatJP
import Derived.Test.YtchpkeelnfmlbaaGreatJQ
import Derived.Test.YtchpkeelnfmlbaaGreatFrame
namespace Go.Proofs.YtchpkeelnfmlbaaGreat
open Go.RowKit
open Phr (Cmd Ans Ls RefIs)
theorem ref26_ans {s : ByteArray} {v : Bool} {c : Cmd} {n : Int} (hs : s.size ≤ 900) (h : Phr.ans v s.data.toList = (c, n)) (w : World) :
    Calls Tryz.prog 6 #[.string s, .bool v] w fun e w' => e = .returned (.tuple #[.agg #[.int .i64 c.reg, .int .i64 c.count, .string (bs c.op), .string (bs c.key), .string (bs c.arg)], .int .i64 n]) ∧ Below w.heap.size w w' := by
  have := ref26_Parse s v hs w
  rw [h] at this
  exact this
set_option maxHeartbeats 2000000 in
set_option maxRecDepth 100000 in
theorem phr_parses_long {s : ByteArray} (v : Bool) (h : 300 < s.size) (w : World) :
    Calls Tryz.prog 3 #[.string s, .bool v] w fun e w' => e = .returned (.bool true) ∧ Below w.heap.size w w' := by
  have LV := Lib.hid (fun w => phr_lives w)
  go_enter Tryz.func3, Tryz.ntmps3
  go_wp2_with (go_at_call 4; refine (LV.out _).mono ?_; rintro e3 w7 ⟨rfl, hb7⟩)
  go_ret
  exact ⟨rfl, hb7⟩
set_option maxHeartbeats 2000000 in
set_option maxRecDepth 100000 in
theorem phr_parses_in {s : ByteArray} {v : Bool} {c : Cmd} {n : Int} (hs : s.size ≤ 300) (hX : Phr.ans v s.data.toList = (c, n)) (w : World) :
    Calls Tryz.prog 3 #[.string s, .bool v] w fun e w' => e = .returned (.bool true) ∧ Below w.heap.size w w' := by
  have P1 := Lib.hid (fun w => phr_ans (visual := v) (by omega : s.size ≤ 1000000000000) hX w)
  have P2 := Lib.hid (fun w => ref26_ans (v := v) (by omega : s.size ≤ 900) hX w)
  have LV := Lib.hid (fun w => phr_lives w)
  have E1 : ∀ w, (binOp .eql 24 (.agg #[.int .i64 c.reg, .int .i64 c.count, .string (bs c.op), .string (bs c.key), .string (bs c.arg)]) (.agg #[.int .i64 c.reg, .int .i64 c.count, .string (bs c.op), .string (bs c.key), .string (bs c.arg)])).run Tryz.prog w = .ok (.bool true) w := fun w => by rw [eql_cmd]; simp
  clear hX
  go_enter Tryz.func3, Tryz.ntmps3
  go_wp2_with (first
    | (go_at_call 5; refine (P1.out _).mono ?_; rintro e w1 ⟨rfl, hb1⟩; clear P1; generalize hu : w1.alloc (.cells #[.int .i64 0, .int .i64 0, .string ⟨#[]⟩, .string ⟨#[]⟩, .string ⟨#[]⟩] 24) = u0 at *; obtain ⟨⟨ux0, uy0⟩, ⟨ux1, uy1⟩, ⟨ux2, uy2⟩, ⟨ux3, uy3⟩, ⟨ux4, uy4⟩, uB, uW⟩ := Phr.box5 c hu; generalize hu1 : u0.setCell ⟨w1.heap.size, 0, none⟩ (.int .i64 c.reg) = u1 at *; generalize hu2 : u1.setCell ⟨w1.heap.size, 1, none⟩ (.int .i64 c.count) = u2 at *; generalize hu3 : u2.setCell ⟨w1.heap.size, 2, none⟩ (.string (bs c.op)) = u3 at *; generalize hu4 : u3.setCell ⟨w1.heap.size, 3, none⟩ (.string (bs c.key)) = u4 at *; generalize hu5 : u4.setCell ⟨w1.heap.size, 4, none⟩ (.string (bs c.arg)) = u5 at *; have UW := hb1.trans (uW.mono hb1.size); clear hb1 uW)
    | (go_at_call 6; refine (P2.out _).mono ?_; rintro e w2 ⟨rfl, hb2⟩; clear P2; generalize hv : w2.alloc (.cells #[.int .i64 0, .int .i64 0, .string ⟨#[]⟩, .string ⟨#[]⟩, .string ⟨#[]⟩] 27) = v0 at *; obtain ⟨⟨vx0, vy0⟩, ⟨vx1, vy1⟩, ⟨vx2, vy2⟩, ⟨vx3, vy3⟩, ⟨vx4, vy4⟩, vB, vW⟩ := Phr.rbox c hv; generalize hv1 : v0.setCell ⟨w2.heap.size, 0, none⟩ (.int .i64 c.reg) = v1 at *; generalize hv2 : v1.setCell ⟨w2.heap.size, 1, none⟩ (.int .i64 c.count) = v2 at *; generalize hv3 : v2.setCell ⟨w2.heap.size, 2, none⟩ (.string (bs c.op)) = v3 at *; generalize hv4 : v3.setCell ⟨w2.heap.size, 3, none⟩ (.string (bs c.key)) = v4 at *; generalize hv5 : v4.setCell ⟨w2.heap.size, 4, none⟩ (.string (bs c.arg)) = v5 at *; have UB := (uB.below hb2 uB.lt).below vW (Nat.lt_of_lt_of_le uB.lt hb2.size); have i0 := UB.cell 0; have i1 := UB.cell 1; have i2 := UB.cell 2; have i3 := UB.cell 3; have i4 := UB.cell 4; have j0 := vB.cell 0; have j1 := vB.cell 1; have j2 := vB.cell 2; have j3 := vB.cell 3; have j4 := vB.cell 4; have VW := (UW.trans (hb2.mono UW.size)).trans (vW.mono (Nat.le_trans UW.size hb2.size)); simp at i0 i1 i2 i3 i4 j0 j1 j2 j3 j4; clear UB vB uB hb2 vW)
    | (go_at_call 4; refine (LV.out _).mono ?_; rintro e3 w7 ⟨rfl, hb7⟩))
  go_ret
  exact ⟨rfl, VW.trans (hb7.mono VW.size)⟩
theorem phr_parses (s : ByteArray) (v : Bool) (w : World) :
    Calls Tryz.prog 3 #[.string s, .bool v] w fun e w' => e = .returned (.bool true) ∧ Below w.heap.size w w' := by
  by_cases hs : s.size ≤ 300
  · obtain ⟨c, x, hX⟩ : ∃ c x, Phr.ans v s.data.toList = (c, x) := ⟨_, _, rfl⟩
    exact phr_parses_in hs hX w
  · exact phr_parses_long v (by omega) w
section
open Go.ChangeShapes Go.WideShapes Go.ChangeAt
open Go.ChangeMaps (open_string)
set_option maxRecDepth 100000 in
theorem phraseParses_lifted (os : Os) (started : os.Started) (H : Type) (enc : TypeId × Value → H) :
    ReturnsInHanded {} Tryz.checked os 3 .any (Rows.phraseParsesSpec.pre6 enc Tryz.prog Tryz.f3 Rows.phraseParsesRow.domain false) (Rows.phraseParsesSpec.post enc Tryz.prog Tryz.f3 false true false false) := by
  refine returnsInHanded_of_change_sized (C := Tryz.checked) own_knob started (by kernel_rfl) Tryz.func3
    (ChangeSpec.witness6 (enc := enc) (C := Tryz.checked) false ⟨#[], #[.string .empty, .bool false], []⟩ 8 (by kernel_rfl) (by kernel_rfl) (by kernel_rfl) (by kernel_rfl)) ?_
  intro W base args ds gs before hval0 hW _ hsz0 _
  have hsz : (DataW.weightsEach Tryz.prog (Tryz.f3.params.toList ++ Rows.phraseParsesSpec.plain.varTypes Tryz.prog) (ds ++ gs)).all (· ≤ reachBytes) = true := hsz0
  clear hsz0
  have hval : ∀ (j : Nat) t v, Tryz.f3.params[j]? = some t → args[j]? = some v → Value.okWide Tryz.prog W .any base t v := hval0
  have hW' := hW
  obtain ⟨p, q, hA0, hV, rfl, hfz, hnd⟩ := hW
  have hA : DataW.TrodAll enc Tryz.prog W 0 (fun _ => true) true Tryz.f3.params.toList args.toList ds p := hA0
  rw [Tryz.params3] at hA hval hsz
  obtain ⟨v0, vs0, d0, ds0, p0, q0, hargs, rfl, rfl, h0, r0⟩ := trodAll_cons hA
  obtain ⟨v1, vs1, d1, ds1, p1, q1, rfl, rfl, rfl, h1, r1⟩ := trodAll_cons r0
  obtain ⟨rfl, rfl, rfl⟩ := trodAll_nil r1
  obtain rfl : args = #[v0, v1] := by cases args; simp_all
  obtain ⟨rfl, rfl⟩ := trodVars_none hV
  obtain ⟨s0, rfl, rfl, rfl, hmax0⟩ := open_string Tryz.underlying9 (hval 0 9 v0 rfl rfl) h0
  have hs0 : s0.size ≤ 140737488351232 := by rw [← data_len]; exact sized_string hsz (j := 0) (t := 9) rfl rfl
  obtain ⟨b1, rfl, rfl, rfl⟩ := open_bool Tryz.underlying4 (hval 1 4 v1 rfl rfl) h1
  refine (phr_parses s0 b1 W).mono fun e W' ⟨he, hb⟩ => ?_
  subst he
  exact ⟨_, rfl, law_post rfl rfl (by rw [Tryz.params3]; decide +kernel) ⟨rfl, rfl, rfl⟩ hW' hb⟩
theorem phraseParses_holds : Rows.PhraseParsesSaid :=
  OpenClaim.holds_of_wide 3 Tryz.f3 rfl rfl rfl rfl rfl rfl rfl ⟨rfl, rfl, rfl, rfl, rfl⟩ rfl rfl rfl rfl rfl (by kernel_rfl) Tryz.func3 (by kernel_rfl)
    (of_decide_eq_true (by kernel_rfl)) (by unfold Func.isWrapper; first | (rw [if_pos (by decide +kernel)]; kernel_rfl) | (rw [if_neg (by decide +kernel)]; exact ⟨rfl, rfl⟩))
    (fun os started H enc _ => phraseParses_lifted os started H enc)
end
end Go.Proofs.YtchpkeelnfmlbaaGreat
