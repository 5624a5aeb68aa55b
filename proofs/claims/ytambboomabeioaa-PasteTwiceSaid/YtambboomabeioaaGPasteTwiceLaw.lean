/-
  'calamuslaw24.PasteTwice' answers true for every text, place, rune and number: what is flipped twice is the same, what is put over is as many runes, and as many lines, as before, and stands where it is told. Conditions: none.
-/
import Derived.Test.YtambboomabeioaaJD
import Derived.Test.YtambboomabeioaaLineCalls
import Derived.Test.YtambboomabeioaaLineCount
import Derived.Test.YtambboomabeioaaUtfCounts
namespace Go.Proofs.Ytambboomabeioaa
open Go.RowKit
namespace Pst
open Utf (place)
theorem flip_cases (s : List UInt8) (p n : Int) : (∃ e : Int, e ≠ 0 ∧ flip s p n = no e) ∨ (place s p = true ∧ Span.ends s p.toNat = false ∧ flip s p n = (flipT s p.toNat (reach s p n).toNat, Line.clamp (flipT s p.toNat (reach s p n).toNat) (reach s p n), 0)) := by
  rw [flip]
  cases h : place s p with
  | false => exact .inl ⟨1, by decide, by rw [if_neg (by decide)]⟩
  | true =>
    rw [if_pos rfl]
    cases he : Span.ends s p.toNat with
    | true => exact .inl ⟨10, by decide, by rw [if_pos rfl]⟩
    | false => exact .inr ⟨rfl, rfl, by rw [if_neg (by decide)]⟩
theorem over_cases (s : List UInt8) (p : Int) (k : List UInt8) (n : Int) : (∃ e : Int, e ≠ 0 ∧ over s p k n = no e) ∨
    (place s p = true ∧ key k = true ∧ ¬ behind s p (max n 1) < 0 ∧ (overT s p.toNat (behind s p (max n 1)).toNat k n).length ≤ 4096 ∧ over s p k n = (overT s p.toNat (behind s p (max n 1)).toNat k n, p + ((often n - 1) * k.length : Nat), 0)) := by
  rw [over]
  cases h : place s p with
  | false => exact .inl ⟨1, by decide, by rw [if_neg (by decide)]⟩
  | true =>
    rw [if_pos rfl]
    cases hk : key k with
    | false => exact .inl ⟨9, by decide, by rw [if_neg (by decide)]⟩
    | true =>
      rw [if_pos rfl]
      by_cases hb : behind s p (max n 1) < 0
      · exact .inl ⟨10, by decide, by rw [if_pos hb]⟩
      · rw [if_neg hb]
        split
        · rename_i hr; exact .inr ⟨rfl, rfl, hb, hr, rfl⟩
        · exact .inl ⟨8, by decide, rfl⟩
/-- Flipped once more. -/
theorem flip_again {s : List UInt8} {p n : Int} (hp : place s p = true) (he : Span.ends s p.toNat = false) : ∃ z : Int, flip (flipT s p.toNat (reach s p n).toNat) p n = (s, z, 0) ∧ (flipT s p.toNat (reach s p n).toNat).length = s.length ∧ Line.normal (flipT s p.toNat (reach s p n).toNat) (Line.clamp (flipT s p.toNat (reach s p n).toNat) (reach s p n)) = true := by
  obtain ⟨a, q, ha, hq, haq, hql, _⟩ := reach_ok hp n
  obtain ⟨hv, h1, h2, h3⟩ := flip_twice hp n ha hq
  rw [ha, Int.toNat_natCast] at he
  rw [hq, ha, Int.toNat_natCast, Int.toNat_natCast]
  rw [ha] at h1 h3
  refine ⟨Line.clamp s q, ?_, flip_length haq hql, (Opr.clamp_good hv _).2 rfl |>.2 rfl⟩
  rw [flip, if_pos h1, Int.toNat_natCast, h2, he, if_neg (by decide), h3, Int.toNat_natCast, flip_back haq hql]
theorem flip_over {s : List UInt8} {p n : Int} (hp : place s p = true) (hb : ¬ behind s p (max n 1) < 0) : Span.ends s p.toNat = false := by
  rw [← often_int] at hb
  obtain ⟨a, b, ha, _, _, _, _, h⟩ := behind_ok hp hb
  rw [ha, Int.toNat_natCast]
  exact h (often_pos n)
end Pst
set_option maxHeartbeats 4000000 in
set_option maxRecDepth 100000 in
theorem pasteTwice_no (s : ByteArray) (p : Int) (k : ByteArray) (n : Int) (hs : s.size ≤ 500) (hk : k.size ≤ 140737488351232) {er : Int} (he : er ≠ 0) (hf : Pst.flip s.data.toList p n = Pst.no er) {eo : Int} (heo : eo ≠ 0) (ho : Pst.over s.data.toList p k.data.toList n = Pst.no eo) (w : World) :
    Calls Try.prog 6 #[.string s, .int .i64 p, .string k, .int .i64 n] w fun e w' => e = .returned (.bool true) ∧ Below w.heap.size w w' := by
  have LV := Lib.hid paste_lives
  have F0 := fun w => paste_Flip s p n (by omega) w
  rw [hf, Pst.val_no] at F0
  have F1 := Lib.hid F0
  have g1 : (er == 0) = false := beq_eq_false_iff_ne.2 he
  have O0 := fun w => paste_Over s p k n (by omega) (by omega) w
  rw [ho, Pst.val_no] at O0
  have O1 := Lib.hid O0
  have g2 : (eo != 0) = true := by simpa using heo
  have g0 : decide ((500 : Int) < (s.size : Int)) = false := decide_eq_false (by omega)
  have g3 : (⟨#[]⟩ : ByteArray).toList.isEmpty = true := by rw [show (⟨#[]⟩ : ByteArray) = bs [] from rfl, bs_isEmpty]; rfl
  have hB := Below.refl w.heap.size w
  clear F0 O0 hf ho he heo hs hk
  go_enter Try.func6, Try.ntmps6
  go_wp2_with (first
    | (go_at_call 10; (with_reducible refine (F1.out _).mono ?_); rintro e u ⟨rfl, hbn⟩; replace hB := hB.trans (hbn.mono hB.size); clear hbn)
    | (go_at_call 12; (with_reducible refine (O1.out _).mono ?_); rintro e u ⟨rfl, hbn⟩; replace hB := hB.trans (hbn.mono hB.size); clear hbn)
    | (go_at_call 7; (with_reducible refine (LV.out _).mono ?_); rintro e u ⟨rfl, hbn⟩; replace hB := hB.trans (hbn.mono hB.size); clear hbn))
  go_ret
  exact ⟨rfl, hB⟩
set_option maxHeartbeats 4000000 in
set_option maxRecDepth 100000 in
theorem pasteTwice_flip (s : ByteArray) (p : Int) (k : ByteArray) (n : Int) (hs : s.size ≤ 500) (hk : k.size ≤ 140737488351232) (hp : Utf.place s.data.toList p = true) (hen : Span.ends s.data.toList p.toNat = false) (hf : Pst.flip s.data.toList p n = (Pst.flipT s.data.toList p.toNat (Pst.reach s.data.toList p n).toNat, Line.clamp (Pst.flipT s.data.toList p.toNat (Pst.reach s.data.toList p n).toNat) (Pst.reach s.data.toList p n), 0)) {eo : Int} (heo : eo ≠ 0) (ho : Pst.over s.data.toList p k.data.toList n = Pst.no eo) (w : World) :
    Calls Try.prog 6 #[.string s, .int .i64 p, .string k, .int .i64 n] w fun e w' => e = .returned (.bool true) ∧ Below w.heap.size w w' := by
  have LV := Lib.hid paste_lives
  obtain ⟨z2, hf2, hfl, hfn⟩ := Pst.flip_again (n := n) hp hen
  have F0 := fun w => paste_Flip s p n (by omega) w
  rw [hf, Pst.val_mk] at F0
  have F1 := Lib.hid F0
  rw [data_len] at hfl
  have E0 := fun w => paste_Flip (bs (Pst.flipT s.data.toList p.toNat (Pst.reach s.data.toList p n).toNat)) p n (by rw [bs_size]; omega) w
  rw [bs_toList, hf2, Pst.val_mk, bs_data] at E0
  have E1 := Lib.hid E0
  have N0 := fun w => line_Normal (bs (Pst.flipT s.data.toList p.toNat (Pst.reach s.data.toList p n).toNat)) (Line.clamp (Pst.flipT s.data.toList p.toNat (Pst.reach s.data.toList p n).toNat) (Pst.reach s.data.toList p n)) (by rw [bs_size]; omega) w
  rw [bs_toList, hfn] at N0
  have N1 := Lib.hid N0
  have hfz : (bs (Pst.flipT s.data.toList p.toNat (Pst.reach s.data.toList p n).toNat)).size = s.size := by rw [bs_size, hfl]
  generalize Line.clamp (Pst.flipT s.data.toList p.toNat (Pst.reach s.data.toList p n).toNat) (Pst.reach s.data.toList p n) = z1 at *
  generalize bs (Pst.flipT s.data.toList p.toNat (Pst.reach s.data.toList p n).toNat) = U at *
  have t1 : (s.toList != s.toList) = false := by simp
  have t2 : (s.toList == s.toList) = true := by simp
  have t3 : ((U.size : Int) != (s.size : Int)) = false := by rw [hfz]; simp
  have O0 := fun w => paste_Over s p k n (by omega) (by omega) w
  rw [ho, Pst.val_no] at O0
  have O1 := Lib.hid O0
  have g2 : (eo != 0) = true := by simpa using heo
  have g0 : decide ((500 : Int) < (s.size : Int)) = false := decide_eq_false (by omega)
  have g3 : (⟨#[]⟩ : ByteArray).toList.isEmpty = true := by rw [show (⟨#[]⟩ : ByteArray) = bs [] from rfl, bs_isEmpty]; rfl
  have hB := Below.refl w.heap.size w
  clear F0 E0 N0 O0 hf ho heo hs hk hp hen hf2 hfl hfn hfz
  go_enter Try.func6, Try.ntmps6
  go_wp2_with (first
    | (go_at_call 10; (with_reducible refine (F1.out _).mono ?_); rintro e u ⟨rfl, hbn⟩; replace hB := hB.trans (hbn.mono hB.size); clear hbn)
    | (go_at_call 10; (with_reducible refine (E1.out _).mono ?_); rintro e u ⟨rfl, hbn⟩; replace hB := hB.trans (hbn.mono hB.size); clear hbn)
    | (go_at_call 15; (with_reducible refine (N1.out _).mono ?_); rintro e u ⟨rfl, hbn⟩; replace hB := hB.trans (hbn.mono hB.size); clear hbn)
    | (go_at_call 12; (with_reducible refine (O1.out _).mono ?_); rintro e u ⟨rfl, hbn⟩; replace hB := hB.trans (hbn.mono hB.size); clear hbn)
    | (go_at_call 7; (with_reducible refine (LV.out _).mono ?_); rintro e u ⟨rfl, hbn⟩; replace hB := hB.trans (hbn.mono hB.size); clear hbn))
  go_ret
  exact ⟨rfl, hB⟩
set_option maxHeartbeats 4000000 in
set_option maxRecDepth 100000 in
theorem pasteTwice_both (s : ByteArray) (p : Int) (k : ByteArray) (n : Int) (hs : s.size ≤ 500) (hk : k.size ≤ 140737488351232) (hp : Utf.place s.data.toList p = true) (hen : Span.ends s.data.toList p.toNat = false) (hf : Pst.flip s.data.toList p n = (Pst.flipT s.data.toList p.toNat (Pst.reach s.data.toList p n).toNat, Line.clamp (Pst.flipT s.data.toList p.toNat (Pst.reach s.data.toList p n).toNat) (Pst.reach s.data.toList p n), 0)) (hky : Pst.key k.data.toList = true) (hb : ¬ Pst.behind s.data.toList p (max n 1) < 0) (hor : (Pst.overT s.data.toList p.toNat (Pst.behind s.data.toList p (max n 1)).toNat k.data.toList n).length ≤ 4096) (ho : Pst.over s.data.toList p k.data.toList n = (Pst.overT s.data.toList p.toNat (Pst.behind s.data.toList p (max n 1)).toNat k.data.toList n, p + ((Pst.often n - 1) * k.data.toList.length : Nat), 0)) (w : World) :
    Calls Try.prog 6 #[.string s, .int .i64 p, .string k, .int .i64 n] w fun e w' => e = .returned (.bool true) ∧ Below w.heap.size w w' := by
  have LV := Lib.hid paste_lives
  obtain ⟨z2, hf2, hfl, hfn⟩ := Pst.flip_again (n := n) hp hen
  have F0 := fun w => paste_Flip s p n (by omega) w
  rw [hf, Pst.val_mk] at F0
  have F1 := Lib.hid F0
  rw [data_len] at hfl
  have E0 := fun w => paste_Flip (bs (Pst.flipT s.data.toList p.toNat (Pst.reach s.data.toList p n).toNat)) p n (by rw [bs_size]; omega) w
  rw [bs_toList, hf2, Pst.val_mk, bs_data] at E0
  have E1 := Lib.hid E0
  have N0 := fun w => line_Normal (bs (Pst.flipT s.data.toList p.toNat (Pst.reach s.data.toList p n).toNat)) (Line.clamp (Pst.flipT s.data.toList p.toNat (Pst.reach s.data.toList p n).toNat) (Pst.reach s.data.toList p n)) (by rw [bs_size]; omega) w
  rw [bs_toList, hfn] at N0
  have N1 := Lib.hid N0
  have hfz : (bs (Pst.flipT s.data.toList p.toNat (Pst.reach s.data.toList p n).toNat)).size = s.size := by rw [bs_size, hfl]
  generalize Line.clamp (Pst.flipT s.data.toList p.toNat (Pst.reach s.data.toList p n).toNat) (Pst.reach s.data.toList p n) = z1 at *
  generalize bs (Pst.flipT s.data.toList p.toNat (Pst.reach s.data.toList p n).toNat) = U at *
  have t1 : (s.toList != s.toList) = false := by simp
  have t2 : (s.toList == s.toList) = true := by simp
  have t3 : ((U.size : Int) != (s.size : Int)) = false := by rw [hfz]; simp
  obtain ⟨a, b, hpa, hbb, hab, hbl, _⟩ := Pst.behind_ok hp (m := Pst.often n) (by rw [Pst.often_int]; exact hb)
  rw [Pst.often_int] at hbb
  obtain ⟨r1, r2, r3, r4⟩ := Pst.over_runes (n := n) hp hky hpa hbb
  have hpt : p.toNat = a := by rw [hpa]; rfl
  rw [hbb, hpt, Int.toNat_natCast] at hor ho
  have O0 := fun w => paste_Over s p k n (by omega) (by omega) w
  rw [ho, Pst.val_mk] at O0
  have O1 := Lib.hid O0
  have hoz : (bs (Pst.overT s.data.toList a b k.data.toList n)).size ≤ 4096 := by rw [bs_size]; exact hor
  have C0 := fun w => utf_Count (bs (Pst.overT s.data.toList a b k.data.toList n)) (by omega) w
  rw [bs_toList, r1] at C0
  have C1 := Lib.hid C0
  have C2 := Lib.hid (fun w => utf_Count s (by omega) w)
  have L0 := fun w => line_Count (bs (Pst.overT s.data.toList a b k.data.toList n)) (by omega) w
  rw [bs_toList, r2] at L0
  have L1 := Lib.hid L0
  have L2 := Lib.hid (fun w => line_Count s (by omega) w)
  have R0 := fun w => utf_Rune (bs (Pst.overT s.data.toList a b k.data.toList n)) (p + ((Pst.often n - 1) * k.data.toList.length : Nat)) (by omega) w
  rw [bs_toList, r3, bs_data] at R0
  have R1 := Lib.hid R0
  have S0 := fun w => utf_Rune (bs (Pst.overT s.data.toList a b k.data.toList n)) p (by omega) w
  rw [bs_toList, r4, bs_data] at S0
  have S1 := Lib.hid S0
  generalize Utf.count s.data.toList = cn at *
  generalize (Line.L s.data.toList).length = ln at *
  generalize p + (((Pst.often n - 1) * k.data.toList.length : Nat) : Int) = z3 at *
  generalize bs (Pst.overT s.data.toList a b k.data.toList n) = O at *
  have t4 : (cn == cn) = true := by simp
  have t5 : (k.toList == k.toList) = true := by simp
  have t6 : ((ln : Int) == (ln : Int)) = true := by simp
  have g0 : decide ((500 : Int) < (s.size : Int)) = false := decide_eq_false (by omega)
  have g3 : (⟨#[]⟩ : ByteArray).toList.isEmpty = true := by rw [show (⟨#[]⟩ : ByteArray) = bs [] from rfl, bs_isEmpty]; rfl
  have hB := Below.refl w.heap.size w
  clear F0 E0 N0 O0 C0 L0 R0 S0 hf ho hs hk hp hen hf2 hfl hfn hfz hky hb hor hpa hbb hab hbl r1 r2 r3 r4 hoz hpt
  go_enter Try.func6, Try.ntmps6
  go_wp2_with (first
    | (go_at_call 10; (with_reducible refine (F1.out _).mono ?_); rintro e u ⟨rfl, hbn⟩; replace hB := hB.trans (hbn.mono hB.size); clear hbn)
    | (go_at_call 10; (with_reducible refine (E1.out _).mono ?_); rintro e u ⟨rfl, hbn⟩; replace hB := hB.trans (hbn.mono hB.size); clear hbn)
    | (go_at_call 15; (with_reducible refine (N1.out _).mono ?_); rintro e u ⟨rfl, hbn⟩; replace hB := hB.trans (hbn.mono hB.size); clear hbn)
    | (go_at_call 12; (with_reducible refine (O1.out _).mono ?_); rintro e u ⟨rfl, hbn⟩; replace hB := hB.trans (hbn.mono hB.size); clear hbn)
    | (go_at_call 16; (with_reducible refine (C1.out _).mono ?_); rintro e u ⟨rfl, rfl⟩)
    | (go_at_call 16; (with_reducible refine (C2.out _).mono ?_); rintro e u ⟨rfl, rfl⟩)
    | (go_at_call 17; (with_reducible refine (L1.out _).mono ?_); rintro e u ⟨rfl, hbn⟩; replace hB := hB.trans (hbn.mono hB.size); clear hbn)
    | (go_at_call 17; (with_reducible refine (L2.out _).mono ?_); rintro e u ⟨rfl, hbn⟩; replace hB := hB.trans (hbn.mono hB.size); clear hbn)
    | (go_at_call 18; (with_reducible refine (R1.out _).mono ?_); rintro e u ⟨rfl, hbn⟩; replace hB := hB.trans (hbn.mono hB.size); clear hbn)
    | (go_at_call 18; (with_reducible refine (S1.out _).mono ?_); rintro e u ⟨rfl, hbn⟩; replace hB := hB.trans (hbn.mono hB.size); clear hbn)
    | (go_at_call 7; (with_reducible refine (LV.out _).mono ?_); rintro e u ⟨rfl, hbn⟩; replace hB := hB.trans (hbn.mono hB.size); clear hbn))
  go_ret
  exact ⟨rfl, hB⟩
set_option maxHeartbeats 4000000 in
set_option maxRecDepth 100000 in
theorem pasteTwice_walk (s : ByteArray) (p : Int) (k : ByteArray) (n : Int) (hk : k.size ≤ 140737488351232) (w : World) :
    Calls Try.prog 6 #[.string s, .int .i64 p, .string k, .int .i64 n] w fun e w' => e = .returned (.bool true) ∧ Below w.heap.size w w' := by
  have LV := Lib.hid paste_lives
  have hB := Below.refl w.heap.size w
  by_cases h0 : 500 < s.size
  · have g0 : decide ((500 : Int) < (s.size : Int)) = true := decide_eq_true (by omega)
    go_enter Try.func6, Try.ntmps6
    go_wp2_with (first
      | (go_at_call 7; (with_reducible refine (LV.out _).mono ?_); rintro e u ⟨rfl, hbn⟩; replace hB := hB.trans (hbn.mono hB.size); clear hbn))
    go_ret
    exact ⟨rfl, hB⟩
  have g0 : decide ((500 : Int) < (s.size : Int)) = false := decide_eq_false (by omega)
  clear LV hB g0
  rcases Pst.over_cases s.data.toList p k.data.toList n with ⟨eo, heo, ho⟩ | ⟨hp, hky, hb, hor, ho⟩
  · rcases Pst.flip_cases s.data.toList p n with ⟨er, he, hf⟩ | ⟨hp, hen, hf⟩
    · exact pasteTwice_no s p k n (by omega) hk he hf heo ho w
    · exact pasteTwice_flip s p k n (by omega) hk hp hen hf heo ho w
  · have hen := Pst.flip_over hp hb
    rcases Pst.flip_cases s.data.toList p n with ⟨er, he, hf⟩ | ⟨_, _, hf⟩
    · rw [Pst.flip, if_pos hp, hen, if_neg (by decide)] at hf
      have := congrArg (fun r => r.2.2) hf
      exact absurd this.symm he
    · exact pasteTwice_both s p k n (by omega) hk hp hen hf hky hb hor ho w
section
open Go.ChangeShapes Go.WideShapes Go.ChangeAt
open Go.ChangeMaps (open_string)
set_option maxRecDepth 100000 in
theorem pasteTwice_lifted (os : Os) (started : os.Started) (H : Type) (enc : TypeId × Value → H) :
    ReturnsInHanded {} Try.checked os 6 .any (Rows.pasteTwiceSpec.pre6 enc Try.prog Try.f6 Rows.pasteTwiceRow.domain false) (Rows.pasteTwiceSpec.post enc Try.prog Try.f6 false true false false) := by
  refine returnsInHanded_of_change_sized (C := Try.checked) own_knob started (by kernel_rfl) Try.func6
    (ChangeSpec.witness6 (enc := enc) (C := Try.checked) false ⟨#[], #[.string .empty, .int .i64 0, .string .empty, .int .i64 0], []⟩ 8 (by kernel_rfl) (by kernel_rfl) (by kernel_rfl) (by kernel_rfl)) ?_
  intro W base args ds gs before hval0 hW _ hsz0 _
  have hsz : (DataW.weightsEach Try.prog (Try.f6.params.toList ++ Rows.pasteTwiceSpec.plain.varTypes Try.prog) (ds ++ gs)).all (· ≤ reachBytes) = true := hsz0
  clear hsz0
  have hval : ∀ (j : Nat) t v, Try.f6.params[j]? = some t → args[j]? = some v → Value.okWide Try.prog W .any base t v := hval0
  have hW' := hW
  obtain ⟨p, q, hA0, hV, rfl, hfz, hnd⟩ := hW
  have hA : DataW.TrodAll enc Try.prog W 0 (fun _ => true) true Try.f6.params.toList args.toList ds p := hA0
  rw [Try.params6] at hA hval hsz
  obtain ⟨v0, vs0, d0, ds0, p0, q0, hargs, rfl, rfl, h0, r0⟩ := trodAll_cons hA
  obtain ⟨v1, vs1, d1, ds1, p1, q1, rfl, rfl, rfl, h1, r1⟩ := trodAll_cons r0
  obtain ⟨v2, vs2, d2, ds2, p2, q2, rfl, rfl, rfl, h2, r2⟩ := trodAll_cons r1
  obtain ⟨v3, vs3, d3, ds3, p3, q3, rfl, rfl, rfl, h3, r3⟩ := trodAll_cons r2
  obtain ⟨rfl, rfl, rfl⟩ := trodAll_nil r3
  obtain rfl : args = #[v0, v1, v2, v3] := by cases args; simp_all
  obtain ⟨rfl, rfl⟩ := trodVars_none hV
  obtain ⟨s0, rfl, rfl, rfl, hmax0⟩ := open_string Try.underlying9 (hval 0 9 v0 rfl rfl) h0
  have hs0 : s0.size ≤ 140737488351232 := by rw [← data_len]; exact sized_string hsz (j := 0) (t := 9) rfl rfl
  obtain ⟨n1, rfl, rfl, rfl, wn1⟩ := open_int Try.underlying3 (hval 1 3 v1 rfl rfl) h1
  obtain ⟨s2, rfl, rfl, rfl, hmax2⟩ := open_string Try.underlying9 (hval 2 9 v2 rfl rfl) h2
  have hs2 : s2.size ≤ 140737488351232 := by rw [← data_len]; exact sized_string hsz (j := 2) (t := 9) rfl rfl
  obtain ⟨n3, rfl, rfl, rfl, wn3⟩ := open_int Try.underlying3 (hval 3 3 v3 rfl rfl) h3
  refine (pasteTwice_walk s0 n1 s2 n3 hs2 _).mono fun e W' ⟨he, hb⟩ => ?_
  subst he
  exact ⟨_, rfl, law_post rfl rfl (by rw [Try.params6]; decide +kernel) ⟨rfl, rfl, rfl⟩ hW' hb⟩
theorem pasteTwice_holds : Rows.PasteTwiceSaid :=
  OpenClaim.holds_of_wide 6 Try.f6 rfl rfl rfl rfl rfl rfl rfl ⟨rfl, rfl, rfl, rfl, rfl⟩ rfl rfl rfl rfl rfl (by kernel_rfl) Try.func6 (by kernel_rfl)
    (of_decide_eq_true (by kernel_rfl)) (by unfold Func.isWrapper; first | (rw [if_pos (by decide +kernel)]; kernel_rfl) | (rw [if_neg (by decide +kernel)]; exact ⟨rfl, rfl⟩))
    (fun os started H enc _ => pasteTwice_lifted os started H enc)
end
end Go.Proofs.Ytambboomabeioaa
