/-
  'calamuslaw27.ExTells' answers true for every command: its text and the lines that it means are as the document says. And an argument that is a command.
-/
import Derived.Test.YtcddbdefdenecaaGreatDoorExText
import Derived.Test.YtcddbdefdenecaaGreatDoorExLines
import Derived.Test.YtcddbdefdenecaaGreatDoorExLives
import Derived.Test.YtcddbdefdenecaaGreatDoorExTabs
import Derived.Test.YtcddbdefdenecaaGreatDoorExRefText
import Derived.Test.YtcddbdefdenecaaGreatDoorExRefLines
import Derived.Test.YtcddbdefdenecaaGreatDoorFrame
import Derived.Test.YtcddbdefdenecaaGreatDoorCards
import Derived.Test.YtcddbdefdenecaaGreatDoorTie
import Derived.Lay
import Derived.SevenTiedAt
import Derived.MakeChecks
namespace Go.Proofs.YtcddbdefdenecaaGreatDoor
open Go.RowKit Go.Shelf
open Ex (Ln)
theorem Ex.tellP_len {l : Ln} (hF : I64 l.frm) (hT : I64 l.to) : (Ex.tellP l).length ≤ 48 + l.name.length + l.arg.length + l.pat.length + l.rep.length := by
  have h1 := Ex.span_size hF hT
  rw [bs_size] at h1
  unfold Ex.tellP
  simp only [List.length_append]
  split <;> split <;> split <;> simp <;> omega
theorem Ex.int_le1 {n : Int} (h : (Lit.int .i64 n).wf = true) : n ≤ 9223372036854775807 := by
  simp only [Lit.wf, Bool.and_eq_true, decide_eq_true_eq] at h
  exact h.2
theorem Ex.int_in {n : Int} (h : (Lit.int .i64 n).wf = true) : I64 n := by
  simp only [Lit.wf, Bool.and_eq_true, decide_eq_true_eq] at h
  exact h
section
open Go.ChangeShapes Go.WideShapes Go.ChangeAt
variable {H : Type} {enc : TypeId × Value → H} {W : World}
set_option maxRecDepth 100000
theorem cells_line27 : Tryz.prog.cellsOf 28 = 7 := by kernel_rfl
/-- An argument that is a command. -/
theorem open_line27 {base : Nat} {v : Value} {d : DataW H} {p : List MemPlace} (ho : Value.okWide Tryz.prog W .any base 28 v)
    (h : DataW.Trod enc Tryz.prog W 0 (fun _ => true) true 28 v d p) :
    ∃ l : Ln, v = .agg #[.int .i64 l.frm, .int .i64 l.to, .string (bs l.name), .string (bs l.arg), .string (bs l.pat), .string (bs l.rep), .bool l.all] ∧ I64 l.frm ∧ I64 l.to ∧ ∃ y0 y1 y2, d = .agg [y0, y1, .lit (.string l.name), .lit (.string l.arg), .lit (.string l.pat), .lit (.string l.rep), y2] := by
  simp only [Value.okWide, Tryz.underlying28] at ho
  obtain ⟨cs, rfl, _, _⟩ := ho
  obtain ⟨fuel, hf⟩ := h
  obtain ⟨xs, n, _, hx, hlen0, hlen, hf⟩ := DataW.trod_struct Tryz.underlying28 hf
  rw [cells_line27] at hlen0
  simp only [Value.cells] at hlen0 hf
  obtain ⟨L⟩ := cs
  match L, hlen0 with
  | [c0, c1, c2, c3, c4, c5, c6], _ =>
    match xs, hlen with
    | [x0, x1, x2, x3, x4, x5, x6], _ =>
      have f0 := hf 0 _ rfl
      have f1 := hf 1 _ rfl
      have f2 := hf 2 _ rfl
      have f3 := hf 3 _ rfl
      have f4 := hf 4 _ rfl
      have f5 := hf 5 _ rfl
      have f6 := hf 6 _ rfl
      have hi : Tryz.prog.cellsOf 3 = 1 := by kernel_rfl
      have hb : Tryz.prog.cellsOf 4 = 1 := by kernel_rfl
      have hs : Tryz.prog.cellsOf 9 = 1 := by kernel_rfl
      simp only [List.getElem_toArray, List.getElem_cons_zero, List.getElem_cons_succ, hi, hb, hs, List.drop_succ_cons, List.drop_zero, List.take_succ_cons, List.take_zero, List.getElem?_cons_zero, List.getElem?_cons_succ] at f0 f1 f2 f3 f4 f5 f6
      obtain ⟨m, e0, _, w0⟩ := DataW.trod_int Tryz.underlying3 f0
      obtain ⟨k, e1, _, w1⟩ := DataW.trod_int Tryz.underlying3 f1
      obtain ⟨s2, e2, g2, _⟩ := DataW.trod_string Tryz.underlying9 f2
      obtain ⟨s3, e3, g3, _⟩ := DataW.trod_string Tryz.underlying9 f3
      obtain ⟨s4, e4, g4, _⟩ := DataW.trod_string Tryz.underlying9 f4
      obtain ⟨s5, e5, g5, _⟩ := DataW.trod_string Tryz.underlying9 f5
      obtain ⟨b, e6, _⟩ := DataW.trod_bool Tryz.underlying4 f6
      simp at e0 e1 e2 e3 e4 e5 e6
      subst e0 e1 e2 e3 e4 e5 e6
      refine ⟨⟨m, k, s2.data.toList, s3.data.toList, s4.data.toList, s5.data.toList, b⟩, rfl, Ex.int_in w0, Ex.int_in w1, x0.1, x1.1, x6.1, ?_⟩
      have hd : d = _ := congrArg Prod.fst hx
      simp [hd, g2, g3, g4, g5]
theorem sized_line27 {ts : List TypeId} {ds : List (DataW H)} (h : (DataW.weightsEach Tryz.prog ts ds).all (· ≤ reachBytes) = true) {j : Nat} {y0 y1 y2 : DataW H} {a b c e : List UInt8}
    (ht : ts[j]? = some 28) (hd : ds[j]? = some (.agg [y0, y1, .lit (.string a), .lit (.string b), .lit (.string c), .lit (.string e), y2])) :
    a.length ≤ reachBytes ∧ b.length ≤ reachBytes ∧ c.length ≤ reachBytes ∧ e.length ≤ reachBytes := by
  refine ⟨?_, ?_, ?_, ?_⟩ <;> (refine of_decide_eq_true (List.all_eq_true.1 h _ (DataW.weights_mem_each ht hd _ ?_)); simp [DataW.weights, Tryz.underlying28, DataW.weightsEach])
end
set_option maxHeartbeats 2000000 in
set_option maxRecDepth 100000 in
theorem ex_tells_long {l : Ln} {here count : Int} (hz : 500 < l.name.length + l.arg.length + l.pat.length + l.rep.length)
    (h2 : l.name.length ≤ 140737488351232) (h3 : l.arg.length ≤ 140737488351232) (h4 : l.pat.length ≤ 140737488351232) (h5 : l.rep.length ≤ 140737488351232) {w : World} :
    Calls Tryz.prog 4 #[.agg #[.int .i64 l.frm, .int .i64 l.to, .string (bs l.name), .string (bs l.arg), .string (bs l.pat), .string (bs l.rep), .bool l.all], .int .i64 here, .int .i64 count] w fun e w' => e = .returned (.bool true) ∧ Below w.heap.size w w' := by
  have LV := Lib.hid (fun w => ex_lives w)
  have z2 : (bs l.name).size = l.name.length := bs_size _
  have z3 : (bs l.arg).size = l.arg.length := bs_size _
  have z4 : (bs l.pat).size = l.pat.length := bs_size _
  have z5 : (bs l.rep).size = l.rep.length := bs_size _
  have a1 : IntKind.i64.wrap (((bs l.name).size : Int) + (bs l.arg).size) = ((bs l.name).size : Int) + (bs l.arg).size := by rw [IntKind.wrap_i64]; omega
  have a2 : IntKind.i64.wrap (((bs l.name).size : Int) + (bs l.arg).size + (bs l.pat).size) = ((bs l.name).size : Int) + (bs l.arg).size + (bs l.pat).size := by rw [IntKind.wrap_i64]; omega
  have a3 : IntKind.i64.wrap (((bs l.name).size : Int) + (bs l.arg).size + (bs l.pat).size + (bs l.rep).size) = ((bs l.name).size : Int) + (bs l.arg).size + (bs l.pat).size + (bs l.rep).size := by rw [IntKind.wrap_i64]; omega
  have a4 : decide ((500 : Int) < ((bs l.name).size : Int) + (bs l.arg).size + (bs l.pat).size + (bs l.rep).size) = true := decide_eq_true (by omega)
  clear h2 h3 h4 h5 hz z2 z3 z4 z5
  have BL := Blk.new w 28 #[.int .i64 l.frm, .int .i64 l.to, .string (bs l.name), .string (bs l.arg), .string (bs l.pat), .string (bs l.rep), .bool l.all]
  have W0 := (Below.refl w.heap.size w).alloc (Nat.le_refl _) (.cells #[.int .i64 l.frm, .int .i64 l.to, .string (bs l.name), .string (bs l.arg), .string (bs l.pat), .string (bs l.rep), .bool l.all] 28)
  obtain ⟨d0, d1, d2, d3, d4, d5, d6⟩ := Ex.cells7 BL
  clear BL
  go_enter Tryz.func4, Tryz.ntmps4
  go_wp2_with (go_at_call 5; refine (LV.out _).mono ?_; rintro e w5 ⟨rfl, hb5⟩)
  go_ret
  exact ⟨rfl, Ex.below_on W0 hb5⟩
set_option maxHeartbeats 2000000 in
set_option maxRecDepth 100000 in
theorem ex_tells_in {l : Ln} {here count : Int} (hc : count ≤ 9223372036854775807) (hF : I64 l.frm) (hT : I64 l.to) (hz : l.name.length + l.arg.length + l.pat.length + l.rep.length ≤ 500)
    {t : List UInt8} {er : Int} (hX1 : Ex.text l = (t, er)) {x y el : Int} (hL : Ex.lines l.frm l.to here count = (x, y, el)) {w : World} (hp : Pow w.heap.size w) :
    Calls Tryz.prog 4 #[.agg #[.int .i64 l.frm, .int .i64 l.to, .string (bs l.name), .string (bs l.arg), .string (bs l.pat), .string (bs l.rep), .bool l.all], .int .i64 here, .int .i64 count] w fun e w' => e = .returned (.bool true) ∧ Below w.heap.size w w' := by
  have LV := Lib.hid (fun w => ex_lives w)
  have TX : Hid (∀ u : World, Below w.heap.size w u → Calls Tryz.prog 10 #[.agg #[.int .i64 l.frm, .int .i64 l.to, .string (bs l.name), .string (bs l.arg), .string (bs l.pat), .string (bs l.rep), .bool l.all]] u fun e w' => e = .returned (.tuple #[.string (bs t), .int .i64 er]) ∧ Below u.heap.size u w') := Lib.hid (fun u hu => by
    have := ex_Text l hF hT (by have := Ex.tellP_len hF hT; omega) (hp.on hu) hu.size
    rw [Ex.text_is, hX1] at this
    exact this)
  have TR : Hid (∀ u : World, Calls Tryz.prog 11 #[.agg #[.int .i64 l.frm, .int .i64 l.to, .string (bs l.name), .string (bs l.arg), .string (bs l.pat), .string (bs l.rep), .bool l.all]] u fun e w' => e = .returned (.tuple #[.string (bs t), .int .i64 er]) ∧ Below u.heap.size u w') := Lib.hid (fun u => by
    have := ref27_Text l (by omega) u
    rw [hX1] at this
    exact this)
  have LN := Lib.hid (fun w => ex_Lines l here count hc hL w)
  have LR := Lib.hid (fun w => ref27_Lines l here count hc hL w)
  have z2 : (bs l.name).size = l.name.length := bs_size _
  have z3 : (bs l.arg).size = l.arg.length := bs_size _
  have z4 : (bs l.pat).size = l.pat.length := bs_size _
  have z5 : (bs l.rep).size = l.rep.length := bs_size _
  have a1 : IntKind.i64.wrap (((bs l.name).size : Int) + (bs l.arg).size) = ((bs l.name).size : Int) + (bs l.arg).size := by rw [IntKind.wrap_i64]; omega
  have a2 : IntKind.i64.wrap (((bs l.name).size : Int) + (bs l.arg).size + (bs l.pat).size) = ((bs l.name).size : Int) + (bs l.arg).size + (bs l.pat).size := by rw [IntKind.wrap_i64]; omega
  have a3 : IntKind.i64.wrap (((bs l.name).size : Int) + (bs l.arg).size + (bs l.pat).size + (bs l.rep).size) = ((bs l.name).size : Int) + (bs l.arg).size + (bs l.pat).size + (bs l.rep).size := by rw [IntKind.wrap_i64]; omega
  have a4 : decide ((500 : Int) < ((bs l.name).size : Int) + (bs l.arg).size + (bs l.pat).size + (bs l.rep).size) = false := decide_eq_false (by omega)
  clear hz z2 z3 z4 z5 hX1 hL hp hF hT hc
  have BL := Blk.new w 28 #[.int .i64 l.frm, .int .i64 l.to, .string (bs l.name), .string (bs l.arg), .string (bs l.pat), .string (bs l.rep), .bool l.all]
  have W0 := (Below.refl w.heap.size w).alloc (Nat.le_refl _) (.cells #[.int .i64 l.frm, .int .i64 l.to, .string (bs l.name), .string (bs l.arg), .string (bs l.pat), .string (bs l.rep), .bool l.all] 28)
  obtain ⟨d0, d1, d2, d3, d4, d5, d6⟩ := Ex.cells7 BL
  have CELL := Lib.hid (fun (u : World) (h : Below (w.alloc (.cells #[.int .i64 l.frm, .int .i64 l.to, .string (bs l.name), .string (bs l.arg), .string (bs l.pat), .string (bs l.rep), .bool l.all] 28)).heap.size (w.alloc (.cells #[.int .i64 l.frm, .int .i64 l.to, .string (bs l.name), .string (bs l.arg), .string (bs l.pat), .string (bs l.rep), .bool l.all] 28)) u) => Ex.cells7 (BL.below h BL.lt))
  have hX := Below.refl (w.alloc (.cells #[.int .i64 l.frm, .int .i64 l.to, .string (bs l.name), .string (bs l.arg), .string (bs l.pat), .string (bs l.rep), .bool l.all] 28)).heap.size (w.alloc (.cells #[.int .i64 l.frm, .int .i64 l.to, .string (bs l.name), .string (bs l.arg), .string (bs l.pat), .string (bs l.rep), .bool l.all] 28))
  clear BL
  go_enter Tryz.func4, Tryz.ntmps4
  go_wp2_with (first
    | (go_at_call 10; (with_reducible refine (TX.out _ W0).mono ?_); rintro e w1 ⟨rfl, hb1⟩; replace hX := Ex.below_on hX hb1; clear hb1; clear d0 d1 d2 d3 d4 d5 d6; obtain ⟨d0, d1, d2, d3, d4, d5, d6⟩ := CELL.out _ hX)
    | (go_at_call 11; (with_reducible refine (TR.out _).mono ?_); rintro e w2 ⟨rfl, hb2⟩; replace hX := Ex.below_on hX hb2; clear hb2; clear d0 d1 d2 d3 d4 d5 d6; obtain ⟨d0, d1, d2, d3, d4, d5, d6⟩ := CELL.out _ hX)
    | (go_at_call 12; (with_reducible refine (LN.out _).mono ?_); rintro e w3 ⟨rfl, hb3⟩; replace hX := Ex.below_on hX hb3; clear hb3; clear d0 d1 d2 d3 d4 d5 d6; obtain ⟨d0, d1, d2, d3, d4, d5, d6⟩ := CELL.out _ hX)
    | (go_at_call 13; (with_reducible refine (LR.out _).mono ?_); rintro e w4 ⟨rfl, hb4⟩; replace hX := Ex.below_on hX hb4; clear hb4; clear d0 d1 d2 d3 d4 d5 d6; obtain ⟨d0, d1, d2, d3, d4, d5, d6⟩ := CELL.out _ hX)
    | (go_at_call 5; refine (LV.out _).mono ?_; rintro e w5 ⟨rfl, hb5⟩; replace hX := Ex.below_on hX hb5; clear hb5))
  go_ret
  exact ⟨rfl, W0.trans (hX.mono W0.size)⟩
theorem exTells_walk (l : Ln) (here count : Int) (hF : I64 l.frm) (hT : I64 l.to) (h : l.name.length ≤ 140737488351232 ∧ l.arg.length ≤ 140737488351232 ∧ l.pat.length ≤ 140737488351232 ∧ l.rep.length ≤ 140737488351232)
    (hc : count ≤ 9223372036854775807) {w : World} (hp : Pow w.heap.size w) :
    Calls Tryz.prog 4 #[.agg #[.int .i64 l.frm, .int .i64 l.to, .string (bs l.name), .string (bs l.arg), .string (bs l.pat), .string (bs l.rep), .bool l.all], .int .i64 here, .int .i64 count] w fun e w' => e = .returned (.bool true) ∧ Below w.heap.size w w' := by
  by_cases hz : l.name.length + l.arg.length + l.pat.length + l.rep.length ≤ 500
  · obtain ⟨t, er, hX⟩ : ∃ t er, Ex.text l = (t, er) := ⟨_, _, rfl⟩
    obtain ⟨x, y, el, hL⟩ : ∃ x y e, Ex.lines l.frm l.to here count = (x, y, e) := ⟨_, _, _, rfl⟩
    exact ex_tells_in hc hF hT hz hX hL hp
  · exact ex_tells_long (by omega) h.1 h.2.1 h.2.2.1 h.2.2.2
section
open Go.ChangeShapes Go.WideShapes Go.ChangeAt
open Go.ChangeMaps (open_string)
set_option maxRecDepth 100000 in
theorem exTells_lifted (os : Os) (started : os.Started) (H : Type) (enc : TypeId × Value → H) :
    ReturnsInHanded {} Tryz.checked os 4 .any (fun w args => (Rows.exTellsSpec.pre enc Tryz.prog Tryz.f4 [] false w args ∧ laidMetH Tryz.prog Rows.exTellsRow.laid w) ∧ sizedMet enc Tryz.prog Tryz.f4 (OpenSpec.ofChange Rows.exTellsSpec) false w args) (Rows.exTellsSpec.post enc Tryz.prog Tryz.f4 false true false false) := by
  refine returnsInHanded_of_change_and (C := Tryz.checked) (X := fun w _ => laidMetH Tryz.prog Rows.exTellsRow.laid w) (fun _ _ _ hh h => h.of_heap hh) own_knob started (by kernel_rfl) Tryz.func4
    (ChangeSpec.witness_shaped (enc := enc) (C := Tryz.checked) (os := os) (X := fun w _ => laidMetH Tryz.prog Rows.exTellsRow.laid w) false (World.laidAll Tryz.prog os Rows.exTellsRow.laid) #[.agg #[.int .i64 0, .int .i64 0, .string .empty, .string .empty, .string .empty, .string .empty, .bool false], .int .i64 0, .int .i64 0] 8 (World.laidAll_os _ _ _)
      (World.shaped_of_ZipB (by kernel_rfl) (by kernel_rfl)) (by kernel_rfl) (by kernel_rfl) (by kernel_rfl)
      (by rw [MakeChecks.laidMetH_plain _ _ _ (by kernel_rfl)]; exact laidMet_laidAll _ (by kernel_rfl) (by kernel_rfl))) ?_
  intro W base args ds gs before hval0 hW _ hsz0 hL0 _
  have hL : laidMetH Tryz.prog Rows.exTellsRow.laid W := hL0
  rw [MakeChecks.laidMetH_plain _ _ _ (by kernel_rfl)] at hL
  have hsz : (DataW.weightsEach Tryz.prog (Tryz.f4.params.toList ++ Rows.exTellsSpec.plain.varTypes Tryz.prog) (ds ++ gs)).all (· ≤ reachBytes) = true := hsz0
  clear hsz0
  have hval : ∀ (j : Nat) t v, Tryz.f4.params[j]? = some t → args[j]? = some v → Value.okWide Tryz.prog W .any base t v := hval0
  have hW' := hW
  obtain ⟨p, q, hA0, hV, rfl, hfz, hnd⟩ := hW
  have hA : DataW.TrodAll enc Tryz.prog W 0 (fun _ => true) true Tryz.f4.params.toList args.toList ds p := hA0
  rw [Tryz.params4] at hA hval hsz
  obtain ⟨v0, vs0, d0, ds0, p0, q0, hargs, rfl, rfl, h0, r0⟩ := trodAll_cons hA
  obtain ⟨v1, vs1, d1, ds1, p1, q1, rfl, rfl, rfl, h1, r1⟩ := trodAll_cons r0
  obtain ⟨v2, vs2, d2, ds2, p2, q2, rfl, rfl, rfl, h2, r2⟩ := trodAll_cons r1
  obtain ⟨rfl, rfl, rfl⟩ := trodAll_nil r2
  obtain rfl : args = #[v0, v1, v2] := by cases args; simp_all
  obtain ⟨rfl, rfl⟩ := trodVars_none hV
  obtain ⟨l0, rfl, hF0, hT0, yl0, ym0, yr0, rfl⟩ := open_line27 (hval 0 28 v0 rfl rfl) h0
  have hl0 : l0.name.length ≤ 140737488351232 ∧ l0.arg.length ≤ 140737488351232 ∧ l0.pat.length ≤ 140737488351232 ∧ l0.rep.length ≤ 140737488351232 :=
    sized_line27 hsz (j := 0) rfl rfl
  obtain ⟨n1, rfl, rfl, rfl, wn1⟩ := open_int Tryz.underlying3 (hval 1 3 v1 rfl rfl) h1
  obtain ⟨n2, rfl, rfl, rfl, wn2⟩ := open_int Tryz.underlying3 (hval 2 3 v2 rfl rfl) h2
  refine (exTells_walk l0 n1 n2 hF0 hT0 hl0 (Ex.int_le1 wn2) (pow_of_laid hL)).mono fun e W' ⟨he, hb⟩ => ?_
  subst he
  exact ⟨_, rfl, law_post rfl rfl (by rw [Tryz.params4]; decide +kernel) ⟨rfl, rfl, rfl⟩ hW' hb⟩
theorem exTells_row : Rows.ExTellsSaid :=
  OpenClaim.holds_of_wide 4 Tryz.f4 rfl rfl rfl rfl rfl rfl rfl ⟨rfl, rfl, rfl, rfl, rfl⟩ rfl rfl rfl rfl rfl (by kernel_rfl) Tryz.func4 (by kernel_rfl)
    (of_decide_eq_true (by kernel_rfl)) (by unfold Func.isWrapper; first | (rw [if_pos (by decide +kernel)]; kernel_rfl) | (rw [if_neg (by decide +kernel)]; exact ⟨rfl, rfl⟩))
    (fun os started H enc _ => exTells_lifted os started H enc)
theorem exTells_holds : Rows.ExTellsCardSaid :=
  Claim7.holds_tied_plain_at .later [] [.data, .data, .data, .data, .sentinel, .sentinel, .pinned] true (true, _) true exTells_row (fun _ h => by cases h) (by kernel_rfl) (fun _ h => by cases h) exTells_row_tie rfl ⟨rfl, rfl⟩ (by kernel_rfl) rfl
    (fun f fn hf hfn => by
      obtain rfl : f = 4 := Option.some.inj ((show Tryz.prog.funcNamed "calamus/calamuslaw27.ExTells" = some 4 by kernel_rfl).symm.trans hf) |>.symm
      obtain rfl : fn = Tryz.f4 := (Option.some.inj (Tryz.func4.symm.trans hfn)).symm
      exact ⟨by kernel_rfl, fun j t ht => by
        rw [Tryz.params4] at ht
        have hm := Array.mem_of_getElem? ht
        have hall : (#[28, 3, 3].toList.all fun u => !Tryz.prog.wantsStandIn u) = true := by kernel_rfl
        exact (show Tryz.prog.wantsStandIn t = false by simpa using List.all_eq_true.1 hall t (by simpa using hm))⟩)
    (by kernel_rfl)
end
end Go.Proofs.YtcddbdefdenecaaGreatDoor
