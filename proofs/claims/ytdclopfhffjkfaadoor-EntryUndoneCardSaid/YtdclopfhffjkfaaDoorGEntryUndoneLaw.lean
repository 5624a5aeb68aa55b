/-
  'calamuslaw25.EntryUndone' answers true for every text, place and text typed: what was typed is taken out by as many Backs as it has runes, and no more. Conditions: none.
-/
import Derived.Test.YtdclopfhffjkfaaDoorJQ
import Derived.Test.YtdclopfhffjkfaaDoorUtfCounts
import Derived.Test.YtdclopfhffjkfaaDoorCards
import Derived.Test.YtdclopfhffjkfaaDoorTie
import Derived.Lay
import Derived.SevenTiedAt
import Derived.MakeChecks
namespace Go.Proofs.YtdclopfhffjkfaaDoor
open Go.RowKit
namespace Ent
open Utf (dec off)
theorem typ_err {s : List UInt8} {p : Int} {y : List UInt8} (h : ¬ (Utf.place s p = true ∧ Utf.valid y = true)) : typ s p y = Pst.no 1 := by rw [typ, if_neg h]
end Ent
set_option maxHeartbeats 4000000 in
set_option maxRecDepth 100000 in
theorem entryUndone_err (s : ByteArray) (p : Int) (y : ByteArray) (hs : s.size ≤ 500) (hy : y.size ≤ 200) (h : ¬ (Utf.place s.data.toList p = true ∧ Utf.valid y.data.toList = true)) (w : World) (hT : Tabs w) :
    Calls Tryd.prog 5 #[.string s, .int .i64 p, .string y] w fun e w' => e = .returned (.bool true) ∧ Below w.heap.size w w' := by
  have LV : Hid (∀ u, Below w.heap.size w u → Calls Tryd.prog 7 #[] u fun e w' => e = .returned (.bool true) ∧ Below u.heap.size u w') := fun u hu => entry_lives u (tabs_below hT hu)
  have hB := Below.refl w.heap.size w
  have A0 := fun w => entry_Type s p y (by omega) (by omega) w
  rw [Ent.typ_err h, Pst.val_no] at A0
  have A1 := Lib.hid A0
  have g0 : decide ((500 : Int) < (s.size : Int)) = false := decide_eq_false (by omega)
  have g1 : decide ((200 : Int) < (y.size : Int)) = false := decide_eq_false (by omega)
  have g3 : (⟨#[]⟩ : ByteArray).toList.isEmpty = true := by rw [show (⟨#[]⟩ : ByteArray) = bs [] from rfl, bs_isEmpty]; rfl
  clear A0 h hT hs hy
  go_enter Tryd.func5, Tryd.ntmps5
  go_wp2_with (first
    | (go_at_call 8; (with_reducible refine (A1.out _).mono ?_); rintro e u ⟨rfl, hbn⟩; replace hB := hB.trans (hbn.mono hB.size); clear hbn)
    | (go_at_call 7; (with_reducible refine (LV.out _ hB).mono ?_); rintro e u ⟨rfl, hbn⟩; replace hB := hB.trans (hbn.mono hB.size); clear hbn))
  go_ret
  exact ⟨rfl, hB⟩
set_option maxHeartbeats 4000000 in
set_option maxRecDepth 100000 in
theorem entryUndone_ok (s : ByteArray) (p : Int) (y : ByteArray) (hs : s.size ≤ 500) (hy : y.size ≤ 200) (hp : Utf.place s.data.toList p = true) (hv : Utf.valid y.data.toList = true) (w : World) (hT : Tabs w) :
    Calls Tryd.prog 5 #[.string s, .int .i64 p, .string y] w fun e w' => e = .returned (.bool true) ∧ Below w.heap.size w w' := by
  have LV : Hid (∀ u, Below w.heap.size w u → Calls Tryd.prog 7 #[] u fun e w' => e = .returned (.bool true) ∧ Below u.heap.size u w') := fun u hu => entry_lives u (tabs_below hT hu)
  have hB := Below.refl w.heap.size w
  have hl := data_len s
  have hl2 := data_len y
  obtain ⟨rs, hd⟩ := Utf.valid_of (Line.place_ok hp)
  obtain ⟨ys, hdy⟩ := Utf.valid_of hv
  obtain ⟨i, hi, rfl⟩ := (Utf.place_iff hd).1 hp
  obtain ⟨hyo, hyf⟩ := Utf.dec_some hdy
  have A0 := fun w => entry_Type s (Utf.off rs i : Int) y (by omega) (by omega) w
  have hil := Utf.off_in hd i
  have hyl : y.data.toList = (ys.take ys.length).flatten := by rw [List.take_length]; exact hyf
  have hyz : y.data.toList.length = Utf.off ys ys.length := by rw [Utf.off_all (Nat.le_refl _), ← hyf]
  rw [Ent.typ_yes hp hv, if_pos (by omega), Pst.val_mk, Int.toNat_natCast, hyz, hyl] at A0
  obtain ⟨T, hT2⟩ : ∃ T : Nat → ByteArray, ∀ m, bs (Pst.mid s.data.toList (Utf.off rs i) (Utf.off rs i) (ys.take m).flatten) = T m := ⟨fun m => bs (Pst.mid s.data.toList (Utf.off rs i) (Utf.off rs i) (ys.take m).flatten), fun _ => rfl⟩
  obtain ⟨P, hP⟩ : ∃ P : Nat → Nat, ∀ m, Utf.off rs i + Utf.off ys m = P m := ⟨fun m => Utf.off rs i + Utf.off ys m, fun _ => rfl⟩
  have hT0 : T 0 = s := by rw [← hT2]; simp only [List.take_zero, List.flatten_nil]; rw [Ent.mid_none]; exact bs_data s
  have hP0 : P 0 = Utf.off rs i := by rw [← hP, Utf.off_zero, Nat.add_zero]
  have hTz : ∀ m, m ≤ ys.length → (T m).size ≤ 1000 := fun m hm => by
    have h1 := Pst.mid_length (s := s.data.toList) (ys.take m).flatten (Nat.le_refl (Utf.off rs i)) hil
    have h2 := Utf.off_le ys m
    rw [← hyf, hl2] at h2
    rw [← hT2, bs_size]
    have h3 : (ys.take m).flatten.length = Utf.off ys m := rfl
    omega
  have BK : Hid (∀ m, m < ys.length → ∀ u, Calls Tryd.prog 12 #[.string (T (m + 1)), .int .i64 (P (m + 1) : Nat), .int .i64 (Utf.off rs i : Nat)] u fun e w' => e = .returned (.tuple #[.string (T m), .int .i64 (P m : Nat), .int .i64 0]) ∧ Below u.heap.size u w') := fun m hm u => by
    have := entry_Back (T (m + 1)) (P (m + 1) : Nat) (Utf.off rs i : Nat) (by have := hTz (m + 1) hm; omega) u
    rw [← hT2, bs_toList, ← hP, Ent.typ_back hd hyo hi hm, Pst.val_mk, hT2, hT2, hP, hP] at this
    exact this
  have BE : Hid (∀ u, Calls Tryd.prog 12 #[.string (T 0), .int .i64 (P 0 : Nat), .int .i64 (Utf.off rs i : Nat)] u fun e w' => e = .returned (.tuple #[.string ⟨#[]⟩, .int .i64 0, .int .i64 10]) ∧ Below u.heap.size u w') := fun u => by
    have := entry_Back s (Utf.off rs i : Nat) (Utf.off rs i : Nat) (by omega) u
    rw [Ent.typ_end hd hi, Pst.val_no] at this
    rw [hT0, hP0]; exact this
  have CT0 := fun w => utf_Count y (by omega) w
  rw [Utf.count_ok hdy] at CT0
  have CT := Lib.hid CT0
  have OL : Hid (∀ m, m < ys.length → ¬ ((P (m + 1) : Int) ≤ (P m : Int))) := fun m hm => by
    have := Utf.off_lt hyo (Nat.lt_succ_self m) hm
    have e : Utf.off ys m.succ = Utf.off ys (m + 1) := rfl
    rw [← hP, ← hP]; omega
  have hPl : (P ys.length : Int) = (Utf.off rs i : Int) + ((Utf.off ys ys.length : Nat) : Int) := by rw [← hP]; omega
  rw [hT2, ← hPl] at A0
  have A1 := Lib.hid A0
  have g0 : decide ((500 : Int) < (s.size : Int)) = false := decide_eq_false (by omega)
  have g1 : decide ((200 : Int) < (y.size : Int)) = false := decide_eq_false (by omega)
  have g4 : ((T 0).toList == s.toList) = true := by rw [hT0]; simp
  have g5 : ((P 0 : Int) == (Utf.off rs i : Int)) = true := by rw [hP0]; simp
  have hyn : ys.length ≤ 200 := by have := Line.off_ge' hdy (Nat.le_refl _); omega
  clear A0 CT0 hT hTz hT2 hP hp hv hdy hyo hyf hyl hyz hPl hil hT0 hP0 hi hd hl hl2
  generalize Utf.off rs i = I at *
  generalize ys.length = L at *
  clear hs hy
  go_enter Tryd.func5, Tryd.ntmps5
  go_wp2_with (first
    | (go_at_call 8; (with_reducible refine (A1.out _).mono ?_); rintro e u ⟨rfl, hbn⟩; replace hB := hB.trans (hbn.mono hB.size); clear hbn)
    | (go_at_call 20; (with_reducible refine (CT.out _).mono ?_); rintro e u ⟨rfl, rfl⟩))
  have hB0 := hB
  clear hB A1 CT
  go_loopw [7, 8, 10] (fun uv pv nv wr => ∃ m : Nat, m ≤ L ∧ uv = .string (T m) ∧ pv = .int .i64 (P m : Nat) ∧ nv = .int .i64 (m : Nat) ∧ Below w.heap.size w wr) (fun _ _ nv _ => (intOf nv).toNat)
  case atStart => exact ⟨L, Nat.le_refl _, rfl, rfl, rfl, hB0⟩
  case round =>
    obtain ⟨m, hm, rfl, rfl, rfl, hB⟩ := hrel
    clear hB0
    rcases Nat.eq_zero_or_pos m with h0 | h0
    · subst h0
      clear BK OL
      go_wp2_with (first
        | (go_at_call 12; (with_reducible refine (BE.out _).mono ?_); rintro e u ⟨rfl, hbn⟩; replace hB := hB.trans (hbn.mono hB.size); clear hbn)
        | (go_at_call 7; (with_reducible refine (LV.out _ hB).mono ?_); rintro e u ⟨rfl, hbn⟩; replace hB := hB.trans (hbn.mono hB.size); clear hbn))
      go_ret
      exact ⟨rfl, hB⟩
    · obtain ⟨k, rfl⟩ : ∃ k, m = k + 1 := ⟨m - 1, by omega⟩
      have B1 := Lib.hid (BK.out k (by omega))
      have o1 := OL.out k (by omega)
      clear BK OL BE g4 g5 LV
      go_wp2_with (first
        | (go_at_call 12; (with_reducible refine (B1.out _).mono ?_); rintro e u ⟨rfl, hbn⟩; replace hB := hB.trans (hbn.mono hB.size); clear hbn))
      go_roundw
      case rel => exact ⟨k, by omega, rfl, rfl, by go_num, hB⟩
      case measure => simp [intOf]
set_option maxHeartbeats 4000000 in
set_option maxRecDepth 100000 in
theorem entryUndone_big (s : ByteArray) (p : Int) (y : ByteArray) (h : 500 < s.size ∨ 200 < y.size) (w : World) (hT : Tabs w) :
    Calls Tryd.prog 5 #[.string s, .int .i64 p, .string y] w fun e w' => e = .returned (.bool true) ∧ Below w.heap.size w w' := by
  have LV : Hid (∀ u, Below w.heap.size w u → Calls Tryd.prog 7 #[] u fun e w' => e = .returned (.bool true) ∧ Below u.heap.size u w') := fun u hu => entry_lives u (tabs_below hT hu)
  have hB := Below.refl w.heap.size w
  by_cases h0 : 500 < s.size
  · have g0 : decide ((500 : Int) < (s.size : Int)) = true := decide_eq_true (by omega)
    go_enter Tryd.func5, Tryd.ntmps5
    go_wp2_with (first
      | (go_at_call 7; (with_reducible refine (LV.out _ hB).mono ?_); rintro e u ⟨rfl, hbn⟩; replace hB := hB.trans (hbn.mono hB.size); clear hbn))
    go_ret
    exact ⟨rfl, hB⟩
  have g0 : decide ((500 : Int) < (s.size : Int)) = false := decide_eq_false (by omega)
  have g1 : decide ((200 : Int) < (y.size : Int)) = true := decide_eq_true (by omega)
  go_enter Tryd.func5, Tryd.ntmps5
  go_wp2_with (first
    | (go_at_call 7; (with_reducible refine (LV.out _ hB).mono ?_); rintro e u ⟨rfl, hbn⟩; replace hB := hB.trans (hbn.mono hB.size); clear hbn))
  go_ret
  exact ⟨rfl, hB⟩
theorem entryUndone_walk (s : ByteArray) (p : Int) (y : ByteArray) (w : World) (hT : Tabs w) :
    Calls Tryd.prog 5 #[.string s, .int .i64 p, .string y] w fun e w' => e = .returned (.bool true) ∧ Below w.heap.size w w' := by
  by_cases h0 : 500 < s.size ∨ 200 < y.size
  · exact entryUndone_big s p y h0 w hT
  · by_cases h : Utf.place s.data.toList p = true ∧ Utf.valid y.data.toList = true
    · exact entryUndone_ok s p y (by omega) (by omega) h.1 h.2 w hT
    · exact entryUndone_err s p y (by omega) (by omega) h w hT
section
open Go.ChangeShapes Go.WideShapes Go.ChangeAt
open Go.ChangeMaps (open_string)
set_option maxRecDepth 100000 in
theorem entryUndone_lifted (os : Os) (started : os.Started) (H : Type) (enc : TypeId × Value → H) :
    ReturnsInHanded {} Tryd.checked os 5 .any (fun w args => (Rows.entryUndoneSpec.pre enc Tryd.prog Tryd.f5 [] false w args ∧ laidMetH Tryd.prog Rows.entryUndoneRow.laid w) ∧ sizedMet enc Tryd.prog Tryd.f5 (OpenSpec.ofChange Rows.entryUndoneSpec) false w args) (Rows.entryUndoneSpec.post enc Tryd.prog Tryd.f5 false true false false) := by
  refine returnsInHanded_of_change_and (C := Tryd.checked) (X := fun w _ => laidMetH Tryd.prog Rows.entryUndoneRow.laid w) (fun _ _ _ hh h => h.of_heap hh) own_knob started (by kernel_rfl) Tryd.func5
    (ChangeSpec.witness_shaped (enc := enc) (C := Tryd.checked) (os := os) (X := fun w _ => laidMetH Tryd.prog Rows.entryUndoneRow.laid w) false (World.laidAll Tryd.prog os Rows.entryUndoneRow.laid) #[.string .empty, .int .i64 0, .string .empty] 8 (World.laidAll_os _ _ _)
      (World.shaped_of_ZipB (by kernel_rfl) (by kernel_rfl)) (by kernel_rfl) (by kernel_rfl) (by kernel_rfl)
      (by rw [MakeChecks.laidMetH_plain _ _ _ (by kernel_rfl)]; exact laidMet_laidAll _ (by kernel_rfl) (by kernel_rfl))) ?_
  intro W base args ds gs before hval0 hW _ hsz0 hL0 _
  have hL : laidMetH Tryd.prog Rows.entryUndoneRow.laid W := hL0
  rw [MakeChecks.laidMetH_plain _ _ _ (by kernel_rfl)] at hL
  have hsz : (DataW.weightsEach Tryd.prog (Tryd.f5.params.toList ++ Rows.entryUndoneSpec.plain.varTypes Tryd.prog) (ds ++ gs)).all (· ≤ reachBytes) = true := hsz0
  clear hsz0
  have hval : ∀ (j : Nat) t v, Tryd.f5.params[j]? = some t → args[j]? = some v → Value.okWide Tryd.prog W .any base t v := hval0
  have hW' := hW
  obtain ⟨p, q, hA0, hV, rfl, hfz, hnd⟩ := hW
  have hA : DataW.TrodAll enc Tryd.prog W 0 (fun _ => true) true Tryd.f5.params.toList args.toList ds p := hA0
  rw [Tryd.params5] at hA hval hsz
  obtain ⟨v0, vs0, d0, ds0, p0, q0, hargs, rfl, rfl, h0, r0⟩ := trodAll_cons hA
  obtain ⟨v1, vs1, d1, ds1, p1, q1, rfl, rfl, rfl, h1, r1⟩ := trodAll_cons r0
  obtain ⟨v2, vs2, d2, ds2, p2, q2, rfl, rfl, rfl, h2, r2⟩ := trodAll_cons r1
  obtain ⟨rfl, rfl, rfl⟩ := trodAll_nil r2
  obtain rfl : args = #[v0, v1, v2] := by cases args; simp_all
  obtain ⟨rfl, rfl⟩ := trodVars_none hV
  obtain ⟨s0, rfl, rfl, rfl, hmax0⟩ := open_string Tryd.underlying9 (hval 0 9 v0 rfl rfl) h0
  have hs0 : s0.size ≤ 140737488351232 := by rw [← data_len]; exact sized_string hsz (j := 0) (t := 9) rfl rfl
  obtain ⟨n1, rfl, rfl, rfl, wn1⟩ := open_int Tryd.underlying3 (hval 1 3 v1 rfl rfl) h1
  obtain ⟨s2, rfl, rfl, rfl, hmax2⟩ := open_string Tryd.underlying9 (hval 2 9 v2 rfl rfl) h2
  have hs2 : s2.size ≤ 140737488351232 := by rw [← data_len]; exact sized_string hsz (j := 2) (t := 9) rfl rfl
  refine (entryUndone_walk s0 n1 s2 _ (tabs_of_laid hL)).mono fun e W' ⟨he, hb⟩ => ?_
  subst he
  exact ⟨_, rfl, law_post rfl rfl (by rw [Tryd.params5]; decide +kernel) ⟨rfl, rfl, rfl⟩ hW' hb⟩
theorem entryUndone_row : Rows.EntryUndoneSaid :=
  OpenClaim.holds_of_wide 5 Tryd.f5 rfl rfl rfl rfl rfl rfl rfl ⟨rfl, rfl, rfl, rfl, rfl⟩ rfl rfl rfl rfl rfl (by kernel_rfl) Tryd.func5 (by kernel_rfl)
    (of_decide_eq_true (by kernel_rfl)) (by unfold Func.isWrapper; first | (rw [if_pos (by decide +kernel)]; kernel_rfl) | (rw [if_neg (by decide +kernel)]; exact ⟨rfl, rfl⟩))
    (fun os started H enc _ => entryUndone_lifted os started H enc)
theorem entryUndone_holds : Rows.EntryUndoneCardSaid :=
  Claim7.holds_tied_plain_at .later [] [.data, .pinned] true (true, _) false entryUndone_row (fun _ h => by cases h) (by kernel_rfl) (fun _ h => by cases h) entryUndone_row_tie rfl ⟨rfl, rfl⟩ (by kernel_rfl) rfl
    (fun f fn hf hfn => by
      obtain rfl : f = 5 := Option.some.inj ((show Tryd.prog.funcNamed "calamus/calamuslaw25.EntryUndone" = some 5 by kernel_rfl).symm.trans hf) |>.symm
      obtain rfl : fn = Tryd.f5 := (Option.some.inj (Tryd.func5.symm.trans hfn)).symm
      exact ⟨by kernel_rfl, fun j t ht => by
        rw [Tryd.params5] at ht
        have hm := Array.mem_of_getElem? ht
        have hall : (#[9, 3, 9].toList.all fun u => !Tryd.prog.wantsStandIn u) = true := by kernel_rfl
        exact (show Tryd.prog.wantsStandIn t = false by simpa using List.all_eq_true.1 hall t (by simpa using hm))⟩)
    (by kernel_rfl)
end
end Go.Proofs.YtdclopfhffjkfaaDoor
