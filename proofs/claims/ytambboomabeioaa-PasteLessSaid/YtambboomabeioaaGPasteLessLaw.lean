/-
  'calamuslaw24.PasteLess' answers true for every text, place, register, side and number: without what was put in the text is as before, it is longer by so many times the register's, and the cursor's place is normal. Conditions: none.
-/
import Derived.Test.YtambboomabeioaaJD
import Derived.Test.YtambboomabeioaaDiffs
import Derived.Test.YtambboomabeioaaLineCalls
namespace Go.Proofs.Ytambboomabeioaa
open Go.RowKit
set_option maxHeartbeats 4000000 in
set_option maxRecDepth 100000 in
theorem pasteLess_err (s : ByteArray) (p nm : Int) (l : Bool) (x : ByteArray) (ah : Bool) (n : Int) (hs : s.size ≤ 500) (hx : x.size ≤ 5000) {er : Int} (he : er ≠ 0) (hr : Pst.put s.data.toList p x.data.toList l ah n = Pst.no er) (w : World) :
    Calls Try.prog 5 #[.string s, .int .i64 p, .agg #[.int .i64 nm, .bool l, .string x], .bool ah, .int .i64 n] w fun e w' => e = .returned (.bool true) ∧ Below w.heap.size w w' := by
  have LV := Lib.hid paste_lives
  have A0 := fun w => paste_Put s p nm x l ah n (by omega) (by omega) w
  rw [hr, Pst.val_no] at A0
  have A1 := Lib.hid A0
  have g0 : decide ((500 : Int) < (s.size : Int)) = false := decide_eq_false (by omega)
  have g1 : decide ((5000 : Int) < (x.size : Int)) = false := decide_eq_false (by omega)
  have g2 : (er != 0) = true := by simpa using he
  have g3 : (⟨#[]⟩ : ByteArray).toList.isEmpty = true := by rw [show (⟨#[]⟩ : ByteArray) = bs [] from rfl, bs_isEmpty]; rfl
  have K := GBox.new w nm l x
  obtain ⟨c0, c1, c2⟩ := K.all
  clear A0 hr he hs hx
  go_enter Try.func5, Try.ntmps5
  go_wp2_with (first
    | (go_at_call 8; (with_reducible refine (A1.out _).mono ?_); rintro e u ⟨rfl, hbn⟩; replace K := K.on hbn; clear hbn; clear c0 c1 c2; obtain ⟨c0, c1, c2⟩ := K.all)
    | (go_at_call 7; (with_reducible refine (LV.out _).mono ?_); rintro e u ⟨rfl, hbn⟩; replace K := K.on hbn; clear hbn; clear c0 c1 c2; obtain ⟨c0, c1, c2⟩ := K.all))
  go_ret
  exact ⟨rfl, K.below⟩
set_option maxHeartbeats 4000000 in
set_option maxRecDepth 100000 in
theorem pasteLess_true (s : ByteArray) (p nm : Int) (x : ByteArray) (ah : Bool) (n : Int) (hs : s.size ≤ 500) (hx : x.size ≤ 5000) (hp : Utf.place s.data.toList p = true) (hv : Utf.valid x.data.toList = true) (h0 : ¬ (x.data.toList = [] ∧ true = false)) (hf : Pst.fits s.data.toList x.data.toList true ah n) (hr : Pst.put s.data.toList p x.data.toList true ah n = (Pst.putT s.data.toList p x.data.toList true ah n, Pst.putP s.data.toList p x.data.toList true ah n, 0)) (w : World) :
    Calls Try.prog 5 #[.string s, .int .i64 p, .agg #[.int .i64 nm, .bool true, .string x], .bool ah, .int .i64 n] w fun e w' => e = .returned (.bool true) ∧ Below w.heap.size w w' := by
  have LV := Lib.hid paste_lives
  have A0 := fun w => paste_Put s p nm x true ah n (by omega) (by omega) w
  rw [hr, Pst.val_mk] at A0
  have A1 := Lib.hid A0
  obtain ⟨z1, z2, z3, z4⟩ := Pst.put_less (l := true) (ah := ah) (n := n) hp hv h0
  have hol := Pst.once_length x.data.toList true ah
  have hm := Pst.often_pos n
  have hq := (Pst.often_int n).symm
  rw [Pst.fits, data_len] at hf
  rw [data_len] at z1 hol
  have D0 := fun w => change_Diff s (bs (Pst.putT s.data.toList p x.data.toList true ah n)) (by omega) (by rw [bs_size]; omega) w
  rw [bs_toList] at D0
  have D1 := Lib.hid D0
  have N0 := fun w => line_Normal (bs (Pst.putT s.data.toList p x.data.toList true ah n)) (Pst.putP s.data.toList p x.data.toList true ah n) (by rw [bs_size]; omega) w
  rw [bs_toList, z4] at N0
  have N1 := Lib.hid N0
  have o1 : (bs (Chg.dOld s.data.toList (Pst.putT s.data.toList p x.data.toList true ah n))).toList.isEmpty = true := by rw [z2, bs_isEmpty]; rfl
  have o2 : (bs (Chg.dOld (Pst.putT s.data.toList p x.data.toList true ah n) s.data.toList)).size = Pst.often n * (Pst.once x.data.toList true ah).length := by rw [bs_size, z3]
  have o3 : (bs (Pst.putT s.data.toList p x.data.toList true ah n)).size = s.size + Pst.often n * (Pst.once x.data.toList true ah).length := by rw [bs_size, z1]
  generalize Chg.dAt s.data.toList (Pst.putT s.data.toList p x.data.toList true ah n) = da at *
  generalize bs (Chg.dOld s.data.toList (Pst.putT s.data.toList p x.data.toList true ah n)) = O at *
  generalize bs (Chg.dOld (Pst.putT s.data.toList p x.data.toList true ah n) s.data.toList) = NW at *
  generalize bs (Pst.putT s.data.toList p x.data.toList true ah n) = U at *
  generalize Pst.putP s.data.toList p x.data.toList true ah n = z at *
  rw [hol] at o2 o3 hf
  rw [if_pos rfl, Nat.mul_add, Nat.mul_one] at o2 o3 hf
  generalize Pst.often n = m at *
  obtain ⟨M, hM⟩ : ∃ M, m * x.size = M := ⟨_, rfl⟩
  rw [hM] at o2 o3 hf
  have w1 : IntKind.i64.wrap ((m : Int) * (x.size : Int)) = (M : Int) := by rw [IntKind.wrap_i64, ← Int.natCast_mul, hM]; omega
  obtain ⟨M2, hM2⟩ : ∃ M2, M + m = M2 := ⟨_, rfl⟩
  rw [hM2] at o2 o3 hf
  have w2 : IntKind.i64.wrap ((M : Int) + (m : Int)) = (M2 : Int) := by rw [IntKind.wrap_i64, ← Int.natCast_add, hM2]; omega
  have w3 : IntKind.i64.wrap ((s.size : Int) + (M2 : Int)) = (s.size : Int) + (M2 : Int) := by rw [IntKind.wrap_i64]; omega
  have e1 : ((U.size : Int) == (s.size : Int) + (M2 : Int)) = true := by rw [beq_iff_eq]; omega
  have e2 : ((NW.size : Int) == (M2 : Int)) = true := by rw [beq_iff_eq]; omega
  have g0 : decide ((500 : Int) < (s.size : Int)) = false := decide_eq_false (by omega)
  have g1 : decide ((5000 : Int) < (x.size : Int)) = false := decide_eq_false (by omega)
  have K := GBox.new w nm true x
  obtain ⟨c0, c1, c2⟩ := K.all
  clear A0 D0 N0 hr hs hx hp hv h0 hf z1 z2 z3 z4 hol hm hM hM2 o2 o3
  go_enter Try.func5, Try.ntmps5
  go_wp2_with (first
    | (go_at_call 8; (with_reducible refine (A1.out _).mono ?_); rintro e u ⟨rfl, hbn⟩; replace K := K.on hbn; clear hbn; clear c0 c1 c2; obtain ⟨c0, c1, c2⟩ := K.all)
    | (go_at_call 14; (with_reducible refine (D1.out _).mono ?_); rintro e u ⟨rfl, hbn⟩; replace K := (K.on hbn).alloc (.cells #[.int .i64 (da : Nat), .string O, .string NW] 37); have f1 : (u.alloc (.cells #[.int .i64 (da : Nat), .string O, .string NW] 37)).cell? ⟨u.heap.size, 1, none⟩ = some (.string O) := (Blk.new u 37 #[.int .i64 (da : Nat), .string O, .string NW]).cell 1; have f2 : (u.alloc (.cells #[.int .i64 (da : Nat), .string O, .string NW] 37)).cell? ⟨u.heap.size, 2, none⟩ = some (.string NW) := (Blk.new u 37 #[.int .i64 (da : Nat), .string O, .string NW]).cell 2; clear hbn; clear c0 c1 c2; obtain ⟨c0, c1, c2⟩ := K.all)
    | (go_at_call 15; (with_reducible refine (N1.out _).mono ?_); rintro e u ⟨rfl, hbn⟩; replace K := K.on hbn; clear hbn; clear c0 c1 c2; obtain ⟨c0, c1, c2⟩ := K.all)
    | (go_at_call 7; (with_reducible refine (LV.out _).mono ?_); rintro e u ⟨rfl, hbn⟩; replace K := K.on hbn; clear hbn; clear c0 c1 c2; obtain ⟨c0, c1, c2⟩ := K.all))
  go_ret
  exact ⟨rfl, K.below⟩
set_option maxHeartbeats 4000000 in
set_option maxRecDepth 100000 in
theorem pasteLess_false (s : ByteArray) (p nm : Int) (x : ByteArray) (ah : Bool) (n : Int) (hs : s.size ≤ 500) (hx : x.size ≤ 5000) (hp : Utf.place s.data.toList p = true) (hv : Utf.valid x.data.toList = true) (h0 : ¬ (x.data.toList = [] ∧ false = false)) (hf : Pst.fits s.data.toList x.data.toList false ah n) (hr : Pst.put s.data.toList p x.data.toList false ah n = (Pst.putT s.data.toList p x.data.toList false ah n, Pst.putP s.data.toList p x.data.toList false ah n, 0)) (w : World) :
    Calls Try.prog 5 #[.string s, .int .i64 p, .agg #[.int .i64 nm, .bool false, .string x], .bool ah, .int .i64 n] w fun e w' => e = .returned (.bool true) ∧ Below w.heap.size w w' := by
  have LV := Lib.hid paste_lives
  have A0 := fun w => paste_Put s p nm x false ah n (by omega) (by omega) w
  rw [hr, Pst.val_mk] at A0
  have A1 := Lib.hid A0
  obtain ⟨z1, z2, z3, z4⟩ := Pst.put_less (l := false) (ah := ah) (n := n) hp hv h0
  have hol := Pst.once_length x.data.toList false ah
  have hm := Pst.often_pos n
  have hq := (Pst.often_int n).symm
  rw [Pst.fits, data_len] at hf
  rw [data_len] at z1 hol
  have D0 := fun w => change_Diff s (bs (Pst.putT s.data.toList p x.data.toList false ah n)) (by omega) (by rw [bs_size]; omega) w
  rw [bs_toList] at D0
  have D1 := Lib.hid D0
  have N0 := fun w => line_Normal (bs (Pst.putT s.data.toList p x.data.toList false ah n)) (Pst.putP s.data.toList p x.data.toList false ah n) (by rw [bs_size]; omega) w
  rw [bs_toList, z4] at N0
  have N1 := Lib.hid N0
  have o1 : (bs (Chg.dOld s.data.toList (Pst.putT s.data.toList p x.data.toList false ah n))).toList.isEmpty = true := by rw [z2, bs_isEmpty]; rfl
  have o2 : (bs (Chg.dOld (Pst.putT s.data.toList p x.data.toList false ah n) s.data.toList)).size = Pst.often n * (Pst.once x.data.toList false ah).length := by rw [bs_size, z3]
  have o3 : (bs (Pst.putT s.data.toList p x.data.toList false ah n)).size = s.size + Pst.often n * (Pst.once x.data.toList false ah).length := by rw [bs_size, z1]
  generalize Chg.dAt s.data.toList (Pst.putT s.data.toList p x.data.toList false ah n) = da at *
  generalize bs (Chg.dOld s.data.toList (Pst.putT s.data.toList p x.data.toList false ah n)) = O at *
  generalize bs (Chg.dOld (Pst.putT s.data.toList p x.data.toList false ah n) s.data.toList) = NW at *
  generalize bs (Pst.putT s.data.toList p x.data.toList false ah n) = U at *
  generalize Pst.putP s.data.toList p x.data.toList false ah n = z at *
  rw [hol] at o2 o3 hf
  rw [if_neg (by decide), Nat.add_zero] at o2 o3 hf
  generalize Pst.often n = m at *
  obtain ⟨M, hM⟩ : ∃ M, m * x.size = M := ⟨_, rfl⟩
  rw [hM] at o2 o3 hf
  have w1 : IntKind.i64.wrap ((m : Int) * (x.size : Int)) = (M : Int) := by rw [IntKind.wrap_i64, ← Int.natCast_mul, hM]; omega
  obtain ⟨M2, hM2⟩ : ∃ M2, M = M2 := ⟨_, rfl⟩
  subst hM2
  have w3 : IntKind.i64.wrap ((s.size : Int) + (M : Int)) = (s.size : Int) + (M : Int) := by rw [IntKind.wrap_i64]; omega
  have e1 : ((U.size : Int) == (s.size : Int) + (M : Int)) = true := by rw [beq_iff_eq]; omega
  have e2 : ((NW.size : Int) == (M : Int)) = true := by rw [beq_iff_eq]; omega
  have g0 : decide ((500 : Int) < (s.size : Int)) = false := decide_eq_false (by omega)
  have g1 : decide ((5000 : Int) < (x.size : Int)) = false := decide_eq_false (by omega)
  have K := GBox.new w nm false x
  obtain ⟨c0, c1, c2⟩ := K.all
  clear A0 D0 N0 hr hs hx hp hv h0 hf z1 z2 z3 z4 hol hm hM o2 o3
  go_enter Try.func5, Try.ntmps5
  go_wp2_with (first
    | (go_at_call 8; (with_reducible refine (A1.out _).mono ?_); rintro e u ⟨rfl, hbn⟩; replace K := K.on hbn; clear hbn; clear c0 c1 c2; obtain ⟨c0, c1, c2⟩ := K.all)
    | (go_at_call 14; (with_reducible refine (D1.out _).mono ?_); rintro e u ⟨rfl, hbn⟩; replace K := (K.on hbn).alloc (.cells #[.int .i64 (da : Nat), .string O, .string NW] 37); have f1 : (u.alloc (.cells #[.int .i64 (da : Nat), .string O, .string NW] 37)).cell? ⟨u.heap.size, 1, none⟩ = some (.string O) := (Blk.new u 37 #[.int .i64 (da : Nat), .string O, .string NW]).cell 1; have f2 : (u.alloc (.cells #[.int .i64 (da : Nat), .string O, .string NW] 37)).cell? ⟨u.heap.size, 2, none⟩ = some (.string NW) := (Blk.new u 37 #[.int .i64 (da : Nat), .string O, .string NW]).cell 2; clear hbn; clear c0 c1 c2; obtain ⟨c0, c1, c2⟩ := K.all)
    | (go_at_call 15; (with_reducible refine (N1.out _).mono ?_); rintro e u ⟨rfl, hbn⟩; replace K := K.on hbn; clear hbn; clear c0 c1 c2; obtain ⟨c0, c1, c2⟩ := K.all)
    | (go_at_call 7; (with_reducible refine (LV.out _).mono ?_); rintro e u ⟨rfl, hbn⟩; replace K := K.on hbn; clear hbn; clear c0 c1 c2; obtain ⟨c0, c1, c2⟩ := K.all))
  go_ret
  exact ⟨rfl, K.below⟩
set_option maxHeartbeats 4000000 in
set_option maxRecDepth 100000 in
theorem pasteLess_walk (s : ByteArray) (p nm : Int) (l : Bool) (x : ByteArray) (ah : Bool) (n : Int) (w : World) :
    Calls Try.prog 5 #[.string s, .int .i64 p, .agg #[.int .i64 nm, .bool l, .string x], .bool ah, .int .i64 n] w fun e w' => e = .returned (.bool true) ∧ Below w.heap.size w w' := by
  have LV := Lib.hid paste_lives
  have K := GBox.new w nm l x
  obtain ⟨c0, c1, c2⟩ := K.all
  by_cases h0 : 500 < s.size
  · have g0 : decide ((500 : Int) < (s.size : Int)) = true := decide_eq_true (by omega)
    go_enter Try.func5, Try.ntmps5
    go_wp2_with (first
      | (go_at_call 7; (with_reducible refine (LV.out _).mono ?_); rintro e u ⟨rfl, hbn⟩; replace K := K.on hbn; clear hbn; clear c0 c1 c2; obtain ⟨c0, c1, c2⟩ := K.all))
    go_ret
    exact ⟨rfl, K.below⟩
  have g0 : decide ((500 : Int) < (s.size : Int)) = false := decide_eq_false (by omega)
  by_cases hx0 : 5000 < x.size
  · have g1 : decide ((5000 : Int) < (x.size : Int)) = true := decide_eq_true (by omega)
    go_enter Try.func5, Try.ntmps5
    go_wp2_with (first
      | (go_at_call 7; (with_reducible refine (LV.out _).mono ?_); rintro e u ⟨rfl, hbn⟩; replace K := K.on hbn; clear hbn; clear c0 c1 c2; obtain ⟨c0, c1, c2⟩ := K.all))
    go_ret
    exact ⟨rfl, K.below⟩
  have g1 : decide ((5000 : Int) < (x.size : Int)) = false := decide_eq_false (by omega)
  clear LV
  rcases Pst.put_cases s.data.toList p x.data.toList l ah n with ⟨er, he, hr⟩ | ⟨hp, hv, hne, hf, hr⟩
  · exact pasteLess_err s p nm l x ah n (by omega) (by omega) he hr w
  · cases l with
    | true => exact pasteLess_true s p nm x ah n (by omega) (by omega) hp hv hne hf hr w
    | false => exact pasteLess_false s p nm x ah n (by omega) (by omega) hp hv hne hf hr w
section
open Go.ChangeShapes Go.WideShapes Go.ChangeAt
open Go.ChangeMaps (open_string)
set_option maxRecDepth 100000 in
theorem pasteLess_lifted (os : Os) (started : os.Started) (H : Type) (enc : TypeId × Value → H) :
    ReturnsInHanded {} Try.checked os 5 .any (Rows.pasteLessSpec.pre6 enc Try.prog Try.f5 Rows.pasteLessRow.domain false) (Rows.pasteLessSpec.post enc Try.prog Try.f5 false true false false) := by
  refine returnsInHanded_of_change_sized (C := Try.checked) own_knob started (by kernel_rfl) Try.func5
    (ChangeSpec.witness6 (enc := enc) (C := Try.checked) false ⟨#[], #[.string .empty, .int .i64 0, .agg #[.int .i64 0, .bool false, .string .empty], .bool false, .int .i64 0], []⟩ 8 (by kernel_rfl) (by kernel_rfl) (by kernel_rfl) (by kernel_rfl)) ?_
  intro W base args ds gs before hval0 hW _ hsz0 _
  have hsz : (DataW.weightsEach Try.prog (Try.f5.params.toList ++ Rows.pasteLessSpec.plain.varTypes Try.prog) (ds ++ gs)).all (· ≤ reachBytes) = true := hsz0
  clear hsz0
  have hval : ∀ (j : Nat) t v, Try.f5.params[j]? = some t → args[j]? = some v → Value.okWide Try.prog W .any base t v := hval0
  have hW' := hW
  obtain ⟨p, q, hA0, hV, rfl, hfz, hnd⟩ := hW
  have hA : DataW.TrodAll enc Try.prog W 0 (fun _ => true) true Try.f5.params.toList args.toList ds p := hA0
  rw [Try.params5] at hA hval hsz
  obtain ⟨v0, vs0, d0, ds0, p0, q0, hargs, rfl, rfl, h0, r0⟩ := trodAll_cons hA
  obtain ⟨v1, vs1, d1, ds1, p1, q1, rfl, rfl, rfl, h1, r1⟩ := trodAll_cons r0
  obtain ⟨v2, vs2, d2, ds2, p2, q2, rfl, rfl, rfl, h2, r2⟩ := trodAll_cons r1
  obtain ⟨v3, vs3, d3, ds3, p3, q3, rfl, rfl, rfl, h3, r3⟩ := trodAll_cons r2
  obtain ⟨v4, vs4, d4, ds4, p4, q4, rfl, rfl, rfl, h4, r4⟩ := trodAll_cons r3
  obtain ⟨rfl, rfl, rfl⟩ := trodAll_nil r4
  obtain rfl : args = #[v0, v1, v2, v3, v4] := by cases args; simp_all
  obtain ⟨rfl, rfl⟩ := trodVars_none hV
  obtain ⟨s0, rfl, rfl, rfl, hmax0⟩ := open_string Try.underlying9 (hval 0 9 v0 rfl rfl) h0
  have hs0 : s0.size ≤ 140737488351232 := by rw [← data_len]; exact sized_string hsz (j := 0) (t := 9) rfl rfl
  obtain ⟨n1, rfl, rfl, rfl, wn1⟩ := open_int Try.underlying3 (hval 1 3 v1 rfl rfl) h1
  obtain ⟨gn2, gl2, gx2, rfl⟩ := open_reg (hval 2 23 v2 rfl rfl) h2
  obtain ⟨b3, rfl, rfl, rfl⟩ := open_bool Try.underlying4 (hval 3 4 v3 rfl rfl) h3
  obtain ⟨n4, rfl, rfl, rfl, wn4⟩ := open_int Try.underlying3 (hval 4 3 v4 rfl rfl) h4
  refine (pasteLess_walk s0 n1 gn2 gl2 gx2 b3 n4 _).mono fun e W' ⟨he, hb⟩ => ?_
  subst he
  exact ⟨_, rfl, law_post rfl rfl (by rw [Try.params5]; decide +kernel) ⟨rfl, rfl, rfl⟩ hW' hb⟩
theorem pasteLess_holds : Rows.PasteLessSaid :=
  OpenClaim.holds_of_wide 5 Try.f5 rfl rfl rfl rfl rfl rfl rfl ⟨rfl, rfl, rfl, rfl, rfl⟩ rfl rfl rfl rfl rfl (by kernel_rfl) Try.func5 (by kernel_rfl)
    (of_decide_eq_true (by kernel_rfl)) (by unfold Func.isWrapper; first | (rw [if_pos (by decide +kernel)]; kernel_rfl) | (rw [if_neg (by decide +kernel)]; exact ⟨rfl, rfl⟩))
    (fun os started H enc _ => pasteLess_lifted os started H enc)
end
end Go.Proofs.Ytambboomabeioaa
