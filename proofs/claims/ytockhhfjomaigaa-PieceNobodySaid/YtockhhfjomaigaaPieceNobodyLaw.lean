/-
  'calamuslaw06.PieceNobody' answers true for every number and every text: nobody has nothing, and a table that New did not give is as good as one of no bytes.
-/
import Derived.Test.YtockhhfjomaigaaPieceLives
import Derived.Test.YtockhhfjomaigaaFrame
namespace Go.Proofs.Ytockhhfjomaigaa
open Go.RowKit
open Pc
/-- What is asked of a table that has the bytes of s, at the end. -/
theorem nobody_string {B p a : Nat} {ps : List (List UInt8)} {u : World} (hu : B ≤ u.heap.size) (hT : Tab B p ps a u) (s : ByteArray) (hp : ps.flatten = s.data.toList) (hl : s.size ≤ 140737488351232) (hn : ps.length ≤ 900000) :
    Calls Try.prog 11 #[.pointer (some ⟨p, 0, none⟩)] u fun e w' => e = .returned (.string s) ∧ Tab B p ps a w' ∧ Below B u w' ∧ B ≤ w'.heap.size := by
  refine (tab_string hT.shown (by rw [hp, data_len]; omega) (by omega)).mono ?_
  rintro e w' ⟨rfl, hb⟩
  exact ⟨by rw [hp]; rfl, hT.below hb, hb.mono hu, Nat.le_trans hu hb.size⟩
theorem nobody_len {B p a : Nat} {ps : List (List UInt8)} {u : World} (hT : Tab B p ps a u) (n : Nat) (hp : ps.flatten.length = n) :
    Calls Try.prog 12 #[.pointer (some ⟨p, 0, none⟩)] u fun e w' => e = .returned (.int .i64 n) ∧ u = w' := by
  subst hp
  obtain ⟨_, _, _, _, hT⟩ := hT
  exact (tab_looks hT.self).len u (Below.refl _ _)
theorem nobody_delete {B p a : Nat} {ps : List (List UInt8)} {u : World} (hu : B ≤ u.heap.size) (hT : Tab B p ps a u) (n : Nat) (hp : ps.flatten.length = n) (hl : n ≤ 140737488351232) (hn : ps.length ≤ 900000) :
    Calls Try.prog 18 #[.pointer (some ⟨p, 0, none⟩), .int .i64 0, .int .i64 n] u fun e w' => e = .returned (.int .i64 0) ∧ (∃ ps', ps'.flatten.length = 0 ∧ Tab B p ps' a w') ∧ Below B u w' ∧ B ≤ w'.heap.size := by
  have hok : okD ps.flatten 0 (n : Int) := ⟨by omega, by omega, by omega⟩
  have D := tab_delete hu hT 0 (n : Int) (by omega) hn
  simp only [if_pos hok] at D
  refine D.mono ?_
  rintro e w' ⟨rfl, ps', h1, _, h3, h4⟩
  refine ⟨rfl, ⟨ps', ?_, h3⟩, h4.below, Nat.le_trans hu h4.size⟩
  rw [h1]
  simp only [Int.toNat_natCast, Int.toNat_zero]
  rw [del_length (Nat.zero_le _) (by omega)]; omega
theorem nobody_len0 {B p a : Nat} {ps : List (List UInt8)} {u : World} (hT : Tab B p ps a u) (hp : ps.flatten.length = 0) :
    Calls Try.prog 12 #[.pointer (some ⟨p, 0, none⟩)] u fun e w' => e = .returned (.int .i64 0) ∧ u = w' := nobody_len hT 0 hp
theorem nobody_delete0 {B p a : Nat} {ps : List (List UInt8)} {u : World} (hu : B ≤ u.heap.size) (hT : Tab B p ps a u) (hp : ps.flatten.length = 0) (hn : ps.length ≤ 900000) :
    Calls Try.prog 18 #[.pointer (some ⟨p, 0, none⟩), .int .i64 0, .int .i64 0] u fun e w' => e = .returned (.int .i64 0) ∧ (∃ ps', ps'.flatten.length = 0 ∧ Tab B p ps' a w') ∧ Below B u w' ∧ B ≤ w'.heap.size := nobody_delete hu hT 0 hp (by omega) hn
theorem none_string (u : World) : Calls Try.prog 11 #[.pointer none] u fun e w' => e = .returned (.string ⟨#[]⟩) ∧ Below u.heap.size u w' := tab_string (none_shown u) (by simp) (by simp)
theorem none_slice (i j : Int) (u : World) : Calls Try.prog 14 #[.pointer none, .int .i64 i, .int .i64 j] u fun e w' => e = .returned (.string ⟨#[]⟩) ∧ Below u.heap.size u w' := by
  refine (tab_slice (none_shown u) i j (by simp) (by simp)).mono ?_
  rintro e w' ⟨rfl, hb⟩
  have : cut [] i j = [] := by unfold cut; simp
  rw [this]
  exact ⟨rfl, hb⟩
theorem none_len (u : World) : Calls Try.prog 12 #[.pointer none] u fun e w' => e = .returned (.int .i64 0) ∧ u = w' := (none_looks u).len u (Below.refl _ _)
theorem none_pieces (u : World) : Calls Try.prog 16 #[.pointer none] u fun e w' => e = .returned (.int .i64 0) ∧ u = w' := tab_pieces (m := 0) (none_looks u) ⟨_, _, rfl⟩
set_option maxHeartbeats 4000000 in
set_option maxRecDepth 100000 in
theorem pieceNobody_walk (n : Int) (s : ByteArray) {w : World} (hsz : s.size ≤ 140737488351232) :
    Calls Try.prog 6 #[.int .i64 n, .string s] w fun e w' => e = .returned (.bool true) ∧ Below w.heap.size w w' := by
  have hZ0 : Zero w.heap.size w.heap.size (w.alloc (.cells #[.pointer none, .slice none 0 0, .int .i64 0, .slice none 0 0] 41)) := ⟨Nat.le_refl _, Blk.new w _ _⟩
  have hW0 : Below w.heap.size w (w.alloc (.cells #[.pointer none, .slice none 0 0, .int .i64 0, .slice none 0 0] 41)) := (Below.refl _ w).alloc (Nat.le_refl _) _
  have HZ0 := Lib.hid hZ0
  have HW0 := Lib.hid hW0
  clear hZ0 hW0
  go_enter Try.func6, Try.ntmps6
  go_wp2_with (first
    | (go_at_call 17; with_reducible refine (none_insert _ _ _).mono ?_; rintro e w1 ⟨rfl, rfl⟩)
    | (go_at_call 18; with_reducible refine (none_delete _ _ _).mono ?_; rintro e w1 ⟨rfl, rfl⟩)
    | (go_at_call 12; with_reducible refine (none_len _).mono ?_; rintro e w1 ⟨rfl, rfl⟩)
    | (go_at_call 11; with_reducible refine (none_string _).mono ?_; rintro e w1 ⟨rfl, hb1⟩)
    | (go_at_call 14; with_reducible refine (none_slice _ _ _).mono ?_; rintro e w2 ⟨rfl, hb2⟩)
    | (go_at_call 16; with_reducible refine (none_pieces _).mono ?_; rintro e w3 ⟨rfl, rfl⟩)
    | (go_at_call 13; with_reducible refine (none_added _).mono ?_; rintro e w3 ⟨rfl, rfl⟩)
    | (go_at_call 19; with_reducible refine (none_compact _).mono ?_; rintro e w3 ⟨rfl, rfl⟩))
  have hZ2 : Zero w.heap.size w.heap.size w2 := (HZ0.out.below hb1).below hb2
  have hW2 : Below w.heap.size w w2 := (HW0.out.trans (hb1.mono HW0.out.size)).trans (hb2.mono (Nat.le_trans HW0.out.size hb1.size))
  have hB2 := hW2.size
  have HZ := Lib.hid hZ2
  clear HZ0 HW0 hb1 hb2 hZ2
  by_cases hn : n = 0
  · subst hn
    refine (zero_insert hB2 HZ.out s (by omega)).mono ?_
    rintro e w3 ⟨rfl, ps', h1, h2, hT, hK⟩
    have C0 := tab_compact (Nat.le_trans hB2 hK.size) hT (by rw [h1, data_len]; omega) (by omega)
    rw [h1] at C0
    have hPF : Hid ((one s.data.toList).flatten = s.data.toList) := one_flat _
    have hPL := one_le s.data.toList
    generalize one s.data.toList = P at *
    have C := Lib.hid C0
    have HPF := hPF
    have hW3 := hW2.trans hK.below
    clear C0 h1 h2 hT hK HZ hPF
    go_wp2_with (first
      | (go_at_call 19; refine C.out.mono ?_; rintro e w4 ⟨rfl, hT4, hK4⟩; have hB4 := Nat.le_trans hW3.size hK4.size; have S5 := Lib.hid (nobody_string hB4 hT4 s HPF.out hsz (by omega)))
      | (go_at_call 11; refine S5.out.mono ?_; rintro e w5 ⟨rfl, hT5, hb5, hB5⟩; have L5 := Lib.hid (nobody_len hT5 s.size (by rw [HPF.out, data_len])); have D5 := Lib.hid (nobody_delete hB5 hT5 s.size (by rw [HPF.out, data_len]) hsz (by omega)))
      | (go_at_call 12; have _t := L6; refine L6.out.mono ?_; rintro e w7 ⟨rfl, rfl⟩)
      | (go_at_call 12; refine L5.out.mono ?_; rintro e w7 ⟨rfl, rfl⟩)
      | (go_at_call 18; refine D5.out.mono ?_; rintro e w6 ⟨rfl, ⟨ps6, h6, hT6⟩, hb6, hB6⟩; have L6 := Lib.hid (nobody_len0 hT6 h6); clear h6)
      | (go_at_call 8; refine (piece_lives _).mono ?_; rintro e w8 ⟨rfl, hb8⟩))
    go_ret
    exact ⟨rfl, (((hW3.trans hK4.below).trans hb5).trans hb6).trans (hb8.mono hB6)⟩
  · have hn0 : (n == 0) = false := by simp [hn]
    refine (zero_insert_no HZ.out n hn s).mono ?_
    rintro e w3 ⟨rfl, rfl⟩
    have C := Lib.hid (zero_compact hB2 HZ.out)
    clear HZ
    go_wp2_with (first
      | (go_at_call 19; refine C.out.mono ?_; rintro e w4 ⟨rfl, hT4, hK4⟩; have hB4 := Nat.le_trans hB2 hK4.size; have S5 := Lib.hid (nobody_string hB4 hT4 ⟨#[]⟩ rfl (by decide) (by simp)))
      | (go_at_call 11; refine S5.out.mono ?_; rintro e w5 ⟨rfl, hT5, hb5, hB5⟩; have L5 := Lib.hid (nobody_len0 hT5 rfl); have D5 := Lib.hid (nobody_delete0 hB5 hT5 rfl (by simp)))
      | (go_at_call 12; have _t := L6; refine L6.out.mono ?_; rintro e w7 ⟨rfl, rfl⟩)
      | (go_at_call 12; refine L5.out.mono ?_; rintro e w7 ⟨rfl, rfl⟩)
      | (go_at_call 18; refine D5.out.mono ?_; rintro e w6 ⟨rfl, ⟨ps6, h6, hT6⟩, hb6, hB6⟩; have L6 := Lib.hid (nobody_len0 hT6 h6); clear h6)
      | (go_at_call 8; refine (piece_lives _).mono ?_; rintro e w8 ⟨rfl, hb8⟩))
    go_ret
    exact ⟨rfl, (((hW2.trans hK4.below).trans hb5).trans hb6).trans (hb8.mono hB6)⟩
section
open Go.ChangeShapes Go.WideShapes Go.ChangeAt
open Go.ChangeMaps (open_string)
set_option maxRecDepth 100000 in
theorem pieceNobody_lifted (os : Os) (started : os.Started) (H : Type) (enc : TypeId × Value → H) :
    ReturnsInHanded {} Try.checked os 6 .any (Rows.pieceNobodySpec.pre6 enc Try.prog Try.f6 Rows.pieceNobodyRow.domain false) (Rows.pieceNobodySpec.post enc Try.prog Try.f6 false true false false) := by
  refine returnsInHanded_of_change_sized (C := Try.checked) own_knob started (by kernel_rfl) Try.func6
    (ChangeSpec.witness6 (enc := enc) (C := Try.checked) false ⟨#[], #[.int .i64 0, .string .empty], []⟩ 8 (by kernel_rfl) (by kernel_rfl) (by kernel_rfl) (by kernel_rfl)) ?_
  intro W base args ds gs before hval0 hW _ hsz0 _
  have hsz : (DataW.weightsEach Try.prog (Try.f6.params.toList ++ Rows.pieceNobodySpec.plain.varTypes Try.prog) (ds ++ gs)).all (· ≤ reachBytes) = true := hsz0
  clear hsz0
  have hval : ∀ (j : Nat) t v, Try.f6.params[j]? = some t → args[j]? = some v → Value.okWide Try.prog W .any base t v := hval0
  have hW' := hW
  obtain ⟨p, q, hA0, hV, rfl, hfz, hnd⟩ := hW
  have hA : DataW.TrodAll enc Try.prog W 0 (fun _ => true) true Try.f6.params.toList args.toList ds p := hA0
  rw [Try.params6] at hA hval hsz
  obtain ⟨v0, vs0, d0, ds0, p0, q0, hargs, rfl, rfl, h0, r0⟩ := trodAll_cons hA
  obtain ⟨v1, vs1, d1, ds1, p1, q1, rfl, rfl, rfl, h1, r1⟩ := trodAll_cons r0
  obtain ⟨rfl, rfl, rfl⟩ := trodAll_nil r1
  obtain rfl : args = #[v0, v1] := by cases args; simp_all
  obtain ⟨rfl, rfl⟩ := trodVars_none hV
  obtain ⟨n0, rfl, rfl, rfl, wn0⟩ := open_int Try.underlying3 (hval 0 3 v0 rfl rfl) h0
  obtain ⟨s1, rfl, rfl, rfl, hmax1⟩ := open_string Try.underlying9 (hval 1 9 v1 rfl rfl) h1
  have hs1 : s1.size ≤ 140737488351232 := by rw [← data_len]; exact sized_string hsz (j := 1) (t := 9) rfl rfl
  refine (pieceNobody_walk n0 s1 hs1).mono fun e W' ⟨he, hb⟩ => ?_
  subst he
  exact ⟨_, rfl, law_post rfl rfl (by rw [Try.params6]; decide +kernel) ⟨rfl, rfl, rfl⟩ hW' hb⟩
theorem pieceNobody_holds : Rows.PieceNobodySaid :=
  OpenClaim.holds_of_wide 6 Try.f6 rfl rfl rfl rfl rfl rfl rfl ⟨rfl, rfl, rfl, rfl, rfl⟩ rfl rfl rfl rfl rfl (by kernel_rfl) Try.func6 (by kernel_rfl)
    (of_decide_eq_true (by kernel_rfl)) (by unfold Func.isWrapper; first | (rw [if_pos (by decide +kernel)]; kernel_rfl) | (rw [if_neg (by decide +kernel)]; exact ⟨rfl, rfl⟩))
    (fun os started H enc _ => pieceNobody_lifted os started H enc)
end
end Go.Proofs.Ytockhhfjomaigaa
