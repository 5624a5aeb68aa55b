/-
  The law TrunkWrites: the bytes of any tree, how many they are, and it as lines, are as the document tells them. The bytes of all that comes in are at most 1048576 (the second form's bound); the library's table of powers reads as its text lays it.
-/
import Derived.Test.YtchmiigjiojiaaaDoorCardRow
import Derived.Test.YtchmiigjiojiaaaDoorTrunkRefBytes
import Derived.Test.YtchmiigjiojiaaaDoorTrunkRefDraw
import Derived.Test.YtchmiigjiojiaaaDoorTrunkPlain
import Derived.Test.YtchmiigjiojiaaaDoorTrunkLives
import Derived.Test.YtchmiigjiojiaaaDoorAlike
import Derived.SizedLaws
import Derived.Deep.RegionHeld3
namespace Go.Proofs.YtchmiigjiojiaaaDoor
open Go.RowKit
open Tre Trk
theorem drawB_few (l : List Nd) (cur : Int) : (drawB l cur).length ≤ 1024 := by
  unfold drawB
  split
  · rename_i h; rw [linesB_length]; exact h.few
  · simp
set_option maxHeartbeats 8000000 in
set_option maxRecDepth 100000 in
theorem writes_few {A : Option Addr} {c : Nat} {l : List Nd} {cur : Int} {w : World} (hp : Pow w.heap.size w) (hx : Nds w A l) (hc : l.length ≤ c) (hwf : ∀ x ∈ l, NdWf x) (hs : ∀ x ∈ l, x.old.size ≤ 1048576 ∧ x.new.size ≤ 1048576) (hlen : l.length ≤ 1100) :
    Calls Tryd.prog 3 #[.agg #[.slice A l.length c, .int .i64 cur]] w fun e w' => e = .returned (.bool true) ∧ Below w.heap.size w w' := by
  have W1 := al (Below.refl w.heap.size w) (.cells #[.slice A l.length c, .int .i64 cur] 24)
  have Y1 := Blk.new w 24 #[.slice A l.length c, .int .i64 cur]
  have hs2 : ∀ x ∈ l, x.old.size ≤ 2147483647 ∧ x.new.size ≤ 2147483647 := fun x hx => by have := hs x hx; omega
  have hI : ∀ x ∈ l, NdI x := fun x hx => ndI_of_wf (hwf x hx) (by have := hs x hx; omega)
  have hfit : ∀ x ∈ l, Fit x := fun x hx => fit_of_wf (hwf x hx)
  have R1 : Hid (∀ u, Below w.heap.size w u → Calls Tryd.prog 7 #[.agg #[.slice A l.length c, .int .i64 cur]] u fun e w' => e = .returned (.string (bs (treeB l cur))) ∧ Below u.heap.size u w') := fun u hu => trunk_Bytes (hx.below hu) hc hfit
  have R2 : Hid (∀ u, Below w.heap.size w u → Calls Tryd.prog 8 #[.agg #[.slice A l.length c, .int .i64 cur]] u fun e w' => e = .returned (.string (bs (treeB l cur))) ∧ Below u.heap.size u w') := fun u hu => ref12_Bytes (hx.below hu) (by omega) hs2
  have R3 : Hid (∀ u, Below w.heap.size w u → Calls Tryd.prog 9 #[.agg #[.slice A l.length c, .int .i64 cur]] u fun e w' => e = .returned (.int .i64 (bs (treeB l cur)).size) ∧ Below u.heap.size u w') := fun u hu => by
    rw [bs_size]
    exact trunk_Size (hx.below hu) hc hfit
  have R4 : Hid (∀ u, Below w.heap.size w u → Calls Tryd.prog 11 #[.agg #[.slice A l.length c, .int .i64 cur]] u (TextsIs (drawB l cur) u)) := fun u hu => trunk_Draw (hp.from hu.size hu) (hx.below hu) hc hI
  have R5 : Hid (∀ u, Below w.heap.size w u → Calls Tryd.prog 12 #[.agg #[.slice A l.length c, .int .i64 cur]] u (TextsIs (drawB l cur) u)) := fun u hu => ref12_Draw (hx.below hu) (by omega) hI
  have hdf := drawB_few l cur
  have R6 : Hid (∀ (u : World) (B C : Option Addr) (d e : Nat), Strs u B ((drawB l cur).map bs) → Strs u C ((drawB l cur).map bs) → Calls Tryd.prog 10 #[.slice B (drawB l cur).length d, .slice C (drawB l cur).length e] u fun x w' => x = .returned (.bool true) ∧ Below u.heap.size u w') := fun u B C d e h1 h2 => by
    have := ref11_Alike (c := d) (d := e) h1 h2 (by rw [List.length_map]; omega)
    rw [List.length_map] at this
    exact this
  have LV := Lib.hid trunk_lives
  have PL := Lib.hid (law12_plain (c := c) (cur := cur) (hx.below W1) (by omega))
  have d0 : decide ((1100 : Int) < (l.length : Int)) = false := decide_eq_false (by omega)
  clear hs hs2 hI hfit hwf hdf hp hx
  generalize bs (treeB l cur) = Bt at *
  generalize drawB l cur = ts at *
  have t0 := Y1.cell 0
  have t1 := Y1.cell 1
  go_enter Tryd.func3, Tryd.ntmps3
  go_wp2_with fail
  refine PL.out.mono ?_
  rintro e w2 ⟨bp, rfl, hb2⟩
  have W2 := W1.trans (hb2.mono W1.size)
  have Y2 := Y1.below hb2 Y1.lt
  clear W1 Y1 hb2 t0 t1 PL
  cases bp with
  | false =>
    clear Y2 R1 R2 R3 R4 R5 R6
    go_wp2_with (go_at_call 6; ((with_reducible refine (LV.out _).mono ?_); rintro e w8 ⟨rfl, hb8⟩))
    go_ret
    exact ⟨rfl, W2.trans (hb8.mono W2.size)⟩
  | true =>
    have P : Hid (∀ u, Below w2.heap.size w2 u → u.cell? ⟨w.heap.size, 0, none⟩ = some (.slice A l.length c) ∧ u.cell? ⟨w.heap.size, 1, none⟩ = some (.int .i64 cur) ∧ Below w.heap.size w u) := fun u hu => by
      have y := Y2.below hu Y2.lt
      exact ⟨y.cell 0, y.cell 1, W2.trans (hu.mono W2.size)⟩
    clear Y2 W2
    obtain ⟨x0, x1, _⟩ := P.out w2 (Below.refl _ _)
    have V : Below w2.heap.size w2 w2.drew := (Below.refl _ _).drew
    go_wp2_with fail
    go_region_held3 (fun u => u.cell? ⟨w.heap.size, 0, none⟩ = some (.slice A l.length c) ∧ u.cell? ⟨w.heap.size, 1, none⟩ = some (.int .i64 cur))
      (first | exact ⟨by assumption, by assumption⟩ | go_keep)
      (first
        | (go_at_call 7; ((with_reducible refine (R1.out _ (P.out _ V).2.2).mono ?_); rintro e u ⟨rfl, hb3⟩; replace V := V.trans (hb3.mono V.size); obtain ⟨x0, x1, _⟩ := P.out _ V))
        | (go_at_call 8; ((with_reducible refine (R2.out _ (P.out _ V).2.2).mono ?_); rintro e u ⟨rfl, hb3⟩; replace V := V.trans (hb3.mono V.size); obtain ⟨x0, x1, _⟩ := P.out _ V))
        | (go_at_call 9; ((with_reducible refine (R3.out _ (P.out _ V).2.2).mono ?_); rintro e u ⟨rfl, hb3⟩; replace V := V.trans (hb3.mono V.size); obtain ⟨x0, x1, _⟩ := P.out _ V))
        | (go_at_call 11; ((with_reducible refine (R4.out _ (P.out _ V).2.2).mono ?_); rintro e u ⟨B1, c1, rfl, hd1, _, hb3⟩; replace V := V.trans (hb3.mono V.size); obtain ⟨x0, x1, _⟩ := P.out _ V))
        | (go_at_call 12; ((with_reducible refine (R5.out _ (P.out _ V).2.2).mono ?_); rintro e u ⟨B2, c2, rfl, hd2, _, hb3⟩; replace hd1 := hd1.below hb3; replace V := V.trans (hb3.mono V.size); obtain ⟨x0, x1, _⟩ := P.out _ V))
        | (go_at_call 10; ((with_reducible refine (R6.out _ _ _ _ _ hd1 hd2).mono ?_); rintro e u ⟨rfl, hb3⟩; replace V := V.trans (hb3.mono V.size); obtain ⟨x0, x1, _⟩ := P.out _ V))
        | (go_at_call 6; ((with_reducible refine (LV.out _).mono ?_); rintro e u ⟨rfl, hb3⟩; replace V := V.trans (hb3.mono V.size); obtain ⟨x0, x1, _⟩ := P.out _ V)))
    all_goals
      go_wp2
      go_ret
      exact ⟨rfl, (P.out _ V).2.2⟩
set_option maxHeartbeats 1000000 in
set_option maxRecDepth 100000 in
theorem writes_many {A : Option Addr} {n c : Nat} {cur : Int} {w : World} (hlen : 1100 < n) (hm : n ≤ 9223372036854775807) :
    Calls Tryd.prog 3 #[.agg #[.slice A n c, .int .i64 cur]] w fun e w' => e = .returned (.bool true) ∧ Below w.heap.size w w' := by
  have W1 := al (Below.refl w.heap.size w) (.cells #[.slice A n c, .int .i64 cur] 24)
  have Y1 := Blk.new w 24 #[.slice A n c, .int .i64 cur]
  have d0 : decide ((1100 : Int) < (n : Int)) = true := decide_eq_true (by omega)
  have t0 := Y1.cell 0
  have t1 := Y1.cell 1
  go_enter Tryd.func3, Tryd.ntmps3
  go_wp2_with (go_at_call 6; ((with_reducible refine (trunk_lives _).mono ?_); rintro e w8 ⟨rfl, hb8⟩))
  go_ret
  exact ⟨rfl, W1.trans (hb8.mono W1.size)⟩
section
open Go.ChangeShapes Go.WideShapes Go.ChangeAt
open Go.ChangeMaps (open_string)
set_option maxRecDepth 100000 in
theorem trunkWrites_contract (H : Type) (enc : TypeId × Value → H) (W : World) (base : Nat) (args : Array Value) (ds gs : List (DataW H)) (before : List MemPlace)
    (hval : ∀ (j : Nat) t v, Tryd.f3.params[j]? = some t → args[j]? = some v → Value.okWide Tryd.prog W .any base t v)
    (hW : DataW.Whole enc Tryd.prog Tryd.f3.params.toList Rows.trunkWritesSpec.vars false W args.toList ds gs before)
    (hk : Rows.uptoSmall H (ds ++ gs) = true)
    (hsz : (DataW.weightsEach Tryd.prog (Tryd.f3.params.toList ++ Rows.trunkWritesSpec.plain.varTypes Tryd.prog) (ds ++ gs)).all (· ≤ reachBytes) = true)
    (hp : Pow W.heap.size W) :
    Calls Tryd.prog 3 args W fun e W' => ∃ v, e = .returned v ∧ Rows.trunkWritesSpec.post enc Tryd.prog Tryd.f3 false true false false W args v W' := by
  have hW' := hW
  obtain ⟨p, q, hA0, hV, rfl, hfz, hnd⟩ := hW
  have hA : DataW.TrodAll enc Tryd.prog W 0 (fun _ => true) true Tryd.f3.params.toList args.toList ds p := hA0
  rw [Tryd.params3] at hA hval hsz
  obtain ⟨v0, vs0, d0, ds0, p0, q0, hargs, rfl, rfl, h0, r0⟩ := trodAll_cons hA
  obtain ⟨rfl, rfl, rfl⟩ := trodAll_nil r0
  obtain rfl : args = #[v0] := by cases args; simp_all
  obtain ⟨rfl, rfl⟩ := trodVars_none hV
  have hlt0 : ∀ x ∈ p0, x.block < W.heap.size := fun x hx => by simpa using hW'.lt x (by simp [hx])
  obtain ⟨A0, c0, xs0, cur0, rfl, hx0, hc0, hm0, wc0, hd0⟩ := open_tree_wf (hval 0 24 v0 rfl rfl) h0 hlt0
  have hwf0 : ∀ k ∈ xs0, NdWf k := fun k hk => (hd0 k hk).2
  have he0 : ∀ k ∈ xs0, k.old.size ≤ 1048576 ∧ k.new.size ≤ 1048576 := fun k hk2 => by
    obtain ⟨e, sp, z, y0, y1, y2, y3, y4, rfl, hin⟩ := (hd0 k hk2).1
    rw [← data_len, ← data_len]
    exact small_tree (e := e) (sp := sp) (z := z) hk (by simp) hin
  have walk : Calls Tryd.prog 3 #[.agg #[.slice A0 xs0.length c0, .int .i64 cur0]] W fun e w' => e = .returned (.bool true) ∧ Below W.heap.size W w' := by
    by_cases h : xs0.length ≤ 1100
    · exact writes_few hp hx0 hc0 hwf0 he0 h
    · exact writes_many (by omega) (by unfold maxLen at hm0; omega)
  refine walk.mono fun e W' ⟨he, hb⟩ => ?_
  subst he
  exact ⟨_, rfl, law_post rfl rfl (by rw [Tryd.params3]; decide +kernel) ⟨rfl, rfl, rfl⟩ hW' hb⟩
theorem trunkWrites_reads (os : Os) {H : Type} (enc : TypeId × Value → H) : ∃ places, DataW.whole enc Tryd.prog ((World.laidAll Tryd.prog os Rows.trunkWritesUptoRow.laid).forCall (fun _ _ => 0) ⟨#[], #[.agg #[.slice none 0 0, .int .i64 0]], []⟩).memory Tryd.f3.params.toList Rows.trunkWritesSpec.vars false #[.agg #[.slice none 0 0, .int .i64 0]].toList 8 = some ([.agg [.nil, .lit (.int .i64 0)]], [], places) :=
  ⟨[], by kernel_rfl⟩
set_option maxRecDepth 100000 in
theorem trunkWrites_lifted (os : Os) (started : os.Started) (H : Type) (enc : TypeId × Value → H) (F : Stop.Interp) :
    ReturnsInHanded {} Tryd.checked os 3 .any ((Rows.OpenSpec.upto Rows.trunkWritesSpec).preRow enc Tryd.prog Tryd.f3 Rows.trunkWritesUptoRow.domain false Rows.trunkWritesUptoRow.laid) (((Rows.OpenSpec.upto Rows.trunkWritesSpec).at F).post enc Tryd.prog Tryd.f3 false true false false) := by
  obtain ⟨places, hx⟩ := trunkWrites_reads os enc
  refine returnsInHanded_of_row (C := Tryd.checked) (s := Rows.OpenSpec.upto Rows.trunkWritesSpec) own_knob started (by kernel_rfl) Tryd.func3
    (witness_row_laid (enc := enc) (C := Tryd.checked) false (World.laidAll Tryd.prog os Rows.trunkWritesUptoRow.laid) #[.agg #[.slice none 0 0, .int .i64 0]] (World.laidAll_os _ _ _) (World.shaped_of_ZipB (by kernel_rfl) (by kernel_rfl)) (by kernel_rfl)
      (OpenSpec.preRow_of_cond 8 hx (by kernel_rfl) (fun k hk => by cases hk; kernel_rfl) (by kernel_rfl) (by rw [MakeChecks.laidMetH_plain _ _ _ (by kernel_rfl)]; exact laidMet_laidAll _ (by kernel_rfl) (by kernel_rfl)))) ?_
  intro W base args ds gs before hval hW _ hcond hsz hL _ _
  rw [MakeChecks.laidMetH_plain _ _ _ (by kernel_rfl)] at hL
  exact trunkWrites_contract H enc W base args ds gs before hval hW (hcond _ rfl) hsz (pow_of_laid hL)
theorem trunkWrites_row : Rows.TrunkWritesUptoSaid :=
  OpenClaim.holds_of_cond 3 Tryd.f3 rfl rfl rfl rfl rfl rfl rfl ⟨rfl, rfl, rfl, rfl, rfl⟩ rfl rfl rfl rfl rfl (by kernel_rfl) Tryd.func3 (by kernel_rfl)
    (of_decide_eq_true (by kernel_rfl)) (by unfold Func.isWrapper; first | (rw [if_pos (by decide +kernel)]; kernel_rfl) | (rw [if_neg (by decide +kernel)]; exact ⟨rfl, rfl⟩))
    (fun os started H enc _ F => by rw [OpenClaim.pre_eq_preRow]; exact trunkWrites_lifted os started H enc F)
theorem trunkWrites_holds : Rows.TrunkWritesUptoCardSaid :=
  Claim7.holds_tied_plain_at .later [] _ _ _ _ trunkWrites_row (fun _ h => by cases h) (by kernel_rfl) (fun _ h => by cases h) trunkWritesUpto_row_tie rfl ⟨rfl, rfl⟩ (by kernel_rfl) rfl
    (fun f fn hf hfn => by
      obtain rfl : f = 3 := Option.some.inj ((show Tryd.prog.funcNamed "calamus/calamuslaw12.TrunkWrites" = some 3 by kernel_rfl).symm.trans hf) |>.symm
      obtain rfl : fn = Tryd.f3 := (Option.some.inj (Tryd.func3.symm.trans hfn)).symm
      exact ⟨by kernel_rfl, fun j t ht => by
        rw [Tryd.params3] at ht
        have hm := Array.mem_of_getElem? ht
        have hall : (#[24].toList.all fun u => !Tryd.prog.wantsStandIn u) = true := by kernel_rfl
        exact (show Tryd.prog.wantsStandIn t = false by simpa using List.all_eq_true.1 hall t (by simpa using hm))⟩)
    (by kernel_rfl)
end
end Go.Proofs.YtchmiigjiojiaaaDoor
