/-
  Whether a change fits a text, as the document tells it.
-/
import Derived.Test.YtffihchkmcddeaaDiffs
import Derived.Test.YtffihchkmcddeaaCgs
import Derived.Test.YtffihchkmcddeaaUtfRef
import Derived.Deep.RegionHeld3
namespace Go.Proofs.Ytffihchkmcddeaa
open Go.RowKit
open Utf Chg
theorem prefix_at {t o : ByteArray} {k : Nat} (h : k + o.size ≤ t.size) : ((t.extract k (k + o.size)).toList == o.toList) = Lib.hasPrefix (t.data.toList.drop k) o.data.toList := by
  rw [Lib.extract_eq, tl_data, tl_data, ← Lib.hasPrefix_of_take, Nat.add_sub_cancel_left, data_len, List.length_drop, data_len, decide_eq_true (by omega), Bool.true_and]
theorem place_valid_of {s : List UInt8} {x : Int} (h : valid s = false) : place s x = false := by
  cases hd : dec s with
  | none => exact place_bad hd x
  | some rs => rw [valid_ok hd] at h; cases h
set_option maxHeartbeats 1000000 in
set_option maxRecDepth 100000 in
theorem ref8_Fits (t : ByteArray) (i : Int) (o n : ByteArray) (ht : t.size ≤ 10000000000000) (ho : o.size ≤ 10000000000000) (hn : n.size ≤ 10000000000000) (w : World) :
    Calls Try.prog 56 #[.string t, .agg #[.int .i64 i, .string o, .string n]] w fun e w' => e = .returned (.bool (fits t.data.toList i o.data.toList n.data.toList)) ∧ Below w.heap.size w w' := by
  have hl := data_len t
  have P := Lib.hid (fun w => ref_Place t i (by omega) w)
  have V0 := Lib.hid (fun w => ref_Valid t (by omega) w)
  have V1 := Lib.hid (fun w => ref_Valid o (by omega) w)
  have V2 := Lib.hid (fun w => ref_Valid n (by omega) w)
  have CELL : Hid (∀ u, Below (w.alloc (.cells #[.int .i64 i, .string o, .string n] 26)).heap.size (w.alloc (.cells #[.int .i64 i, .string o, .string n] 26)) u → u.cell? ⟨w.heap.size, 0, none⟩ = some (.int .i64 i) ∧ u.cell? ⟨w.heap.size, 1, none⟩ = some (.string o) ∧ u.cell? ⟨w.heap.size, 2, none⟩ = some (.string n)) := fun u hu => by
    have b0 := (Blk.new w 26 #[.int .i64 i, .string o, .string n]).below hu (by simp)
    exact ⟨b0.cell 0, b0.cell 1, b0.cell 2⟩
  have HB : Hid (∀ u, Below (w.alloc (.cells #[.int .i64 i, .string o, .string n] 26)).heap.size (w.alloc (.cells #[.int .i64 i, .string o, .string n] 26)) u → Below w.heap.size w u) := fun u hu => ((Below.refl _ w).alloc (Nat.le_refl _) _).trans (hu.mono (by simp))
  obtain ⟨c0, c1, c2⟩ := CELL.out _ (Below.refl _ _)
  cases hv0 : valid t.data.toList with
  | false =>
    have H : Hid (fits t.data.toList i o.data.toList n.data.toList = false) := by show _ = _; rw [fits, place_valid_of hv0]; rfl
    rw [hv0] at V0
    clear hv0
    go_enter Try.func56, Try.ntmps56
    go_wp2_with (first
      | (go_at_call 61; with_reducible refine (V0.out _).mono ?_; rintro e w1 ⟨rfl, hb1⟩; obtain ⟨e0, e1, e2⟩ := CELL.out _ hb1)
      | (go_at_call 61; with_reducible refine (V1.out _).mono ?_; rintro e w2 ⟨rfl, hb2⟩; have h2 := hb1.trans (hb2.mono hb1.size); obtain ⟨f0, f1, f2⟩ := CELL.out _ h2)
      | (go_at_call 61; with_reducible refine (V2.out _).mono ?_; rintro e w3 ⟨rfl, hb3⟩; have h3 := h2.trans (hb3.mono h2.size); obtain ⟨g0, g1, g2⟩ := CELL.out _ h3)
      | (go_at_call 62; refine (P.out _).mono ?_; rintro e w4 ⟨rfl, hb4⟩; have h4 := h3.trans (hb4.mono h3.size); obtain ⟨k0, k1, k2⟩ := CELL.out _ h4))
    go_ret
    exact ⟨by rw [H.out]; rfl, HB.out _ hb1⟩
  | true =>
    rw [hv0] at V0
    cases hv1 : valid o.data.toList with
    | false =>
      have H : Hid (fits t.data.toList i o.data.toList n.data.toList = false) := by show _ = _; rw [fits, hv1]; simp
      rw [hv1] at V1
      clear hv0 hv1
      go_enter Try.func56, Try.ntmps56
      go_wp2_with (first
        | (go_at_call 61; with_reducible refine (V0.out _).mono ?_; rintro e w1 ⟨rfl, hb1⟩; obtain ⟨e0, e1, e2⟩ := CELL.out _ hb1)
        | (go_at_call 61; with_reducible refine (V1.out _).mono ?_; rintro e w2 ⟨rfl, hb2⟩; have h2 := hb1.trans (hb2.mono hb1.size); obtain ⟨f0, f1, f2⟩ := CELL.out _ h2)
        | (go_at_call 61; with_reducible refine (V2.out _).mono ?_; rintro e w3 ⟨rfl, hb3⟩; have h3 := h2.trans (hb3.mono h2.size); obtain ⟨g0, g1, g2⟩ := CELL.out _ h3)
        | (go_at_call 62; refine (P.out _).mono ?_; rintro e w4 ⟨rfl, hb4⟩; have h4 := h3.trans (hb4.mono h3.size); obtain ⟨k0, k1, k2⟩ := CELL.out _ h4))
      go_ret
      exact ⟨by rw [H.out]; rfl, HB.out _ h2⟩
    | true =>
      rw [hv1] at V1
      cases hv2 : valid n.data.toList with
      | false =>
        have H : Hid (fits t.data.toList i o.data.toList n.data.toList = false) := by show _ = _; rw [fits, hv2]; simp
        rw [hv2] at V2
        clear hv0 hv1 hv2
        go_enter Try.func56, Try.ntmps56
        go_wp2_with (first
          | (go_at_call 61; with_reducible refine (V0.out _).mono ?_; rintro e w1 ⟨rfl, hb1⟩; obtain ⟨e0, e1, e2⟩ := CELL.out _ hb1)
          | (go_at_call 61; with_reducible refine (V1.out _).mono ?_; rintro e w2 ⟨rfl, hb2⟩; have h2 := hb1.trans (hb2.mono hb1.size); obtain ⟨f0, f1, f2⟩ := CELL.out _ h2)
          | (go_at_call 61; with_reducible refine (V2.out _).mono ?_; rintro e w3 ⟨rfl, hb3⟩; have h3 := h2.trans (hb3.mono h2.size); obtain ⟨g0, g1, g2⟩ := CELL.out _ h3)
          | (go_at_call 62; refine (P.out _).mono ?_; rintro e w4 ⟨rfl, hb4⟩; have h4 := h3.trans (hb4.mono h3.size); obtain ⟨k0, k1, k2⟩ := CELL.out _ h4))
        go_ret
        exact ⟨by rw [H.out]; rfl, HB.out _ h3⟩
      | true =>
        rw [hv2] at V2
        cases hp : place t.data.toList i with
        | false =>
          have H : Hid (fits t.data.toList i o.data.toList n.data.toList = false) := by show _ = _; rw [fits, hp]; rfl
          rw [hp] at P
          clear hv0 hv1 hv2 hp
          go_enter Try.func56, Try.ntmps56
          go_wp2_with (first
            | (go_at_call 61; with_reducible refine (V0.out _).mono ?_; rintro e w1 ⟨rfl, hb1⟩; obtain ⟨e0, e1, e2⟩ := CELL.out _ hb1)
            | (go_at_call 61; with_reducible refine (V1.out _).mono ?_; rintro e w2 ⟨rfl, hb2⟩; have h2 := hb1.trans (hb2.mono hb1.size); obtain ⟨f0, f1, f2⟩ := CELL.out _ h2)
            | (go_at_call 61; with_reducible refine (V2.out _).mono ?_; rintro e w3 ⟨rfl, hb3⟩; have h3 := h2.trans (hb3.mono h2.size); obtain ⟨g0, g1, g2⟩ := CELL.out _ h3)
            | (go_at_call 62; refine (P.out _).mono ?_; rintro e w4 ⟨rfl, hb4⟩; have h4 := h3.trans (hb4.mono h3.size); obtain ⟨k0, k1, k2⟩ := CELL.out _ h4))
          go_ret
          exact ⟨by rw [H.out]; rfl, HB.out _ h4⟩
        | true =>
          rw [hp] at P
          obtain ⟨rs, j, hd, hj, he⟩ := place_of hp
          subst he
          have hin := off_in hd j
          rw [hl] at hin
          have H : Hid (fits t.data.toList (off rs j : Int) o.data.toList n.data.toList = Lib.hasPrefix (t.data.toList.drop (off rs j)) o.data.toList) := by
            show _ = _
            rw [fits, hp, hv1, hv2, Int.toNat_natCast]
            simp
          have E := @prefix_at t o (off rs j)
          have E2 : t.size < off rs j + o.size → Lib.hasPrefix (t.data.toList.drop (off rs j)) o.data.toList = false := fun h => by
            rw [← Lib.hasPrefix_of_take, List.length_drop, data_len, data_len, decide_eq_false (by omega)]
            rfl
          clear hv0 hv1 hv2 hp hd hj
          generalize Lib.hasPrefix (t.data.toList.drop (off rs j)) o.data.toList = r at *
          generalize off rs j = k at *
          by_cases hko : k + o.size ≤ t.size
          · have E1 := E hko
            have d1 : decide ((o.size : Int) ≤ (t.size : Int) - (k : Int)) = true := decide_eq_true (by omega)
            clear E E2
            go_enter Try.func56, Try.ntmps56
            go_wp2_with (first
              | (go_at_call 61; with_reducible refine (V0.out _).mono ?_; rintro e w1 ⟨rfl, hb1⟩; obtain ⟨e0, e1, e2⟩ := CELL.out _ hb1)
              | (go_at_call 61; with_reducible refine (V1.out _).mono ?_; rintro e w2 ⟨rfl, hb2⟩; have h2 := hb1.trans (hb2.mono hb1.size); obtain ⟨f0, f1, f2⟩ := CELL.out _ h2)
              | (go_at_call 61; with_reducible refine (V2.out _).mono ?_; rintro e w3 ⟨rfl, hb3⟩; have h3 := h2.trans (hb3.mono h2.size); obtain ⟨g0, g1, g2⟩ := CELL.out _ h3)
              | (go_at_call 62; refine (P.out _).mono ?_; rintro e w4 ⟨rfl, hb4⟩; have h4 := h3.trans (hb4.mono h3.size); obtain ⟨k0, k1, k2⟩ := CELL.out _ h4))
            go_quiet (fail)
            go_wp2
            go_ret
            exact ⟨by rw [H.out]; rfl, HB.out _ (h4.trans ((below_gb (gb_drewN w4 nq none)).mono h4.size))⟩
          · have E1 := E2 (by omega)
            have d1 : decide ((o.size : Int) ≤ (t.size : Int) - (k : Int)) = false := decide_eq_false (by omega)
            clear E E2
            go_enter Try.func56, Try.ntmps56
            go_wp2_with (first
              | (go_at_call 61; with_reducible refine (V0.out _).mono ?_; rintro e w1 ⟨rfl, hb1⟩; obtain ⟨e0, e1, e2⟩ := CELL.out _ hb1)
              | (go_at_call 61; with_reducible refine (V1.out _).mono ?_; rintro e w2 ⟨rfl, hb2⟩; have h2 := hb1.trans (hb2.mono hb1.size); obtain ⟨f0, f1, f2⟩ := CELL.out _ h2)
              | (go_at_call 61; with_reducible refine (V2.out _).mono ?_; rintro e w3 ⟨rfl, hb3⟩; have h3 := h2.trans (hb3.mono h2.size); obtain ⟨g0, g1, g2⟩ := CELL.out _ h3)
              | (go_at_call 62; refine (P.out _).mono ?_; rintro e w4 ⟨rfl, hb4⟩; have h4 := h3.trans (hb4.mono h3.size); obtain ⟨k0, k1, k2⟩ := CELL.out _ h4))
            go_quiet (fail)
            go_wp2
            go_ret
            exact ⟨by rw [H.out, E1]; rfl, HB.out _ (h4.trans ((below_gb (gb_drewN w4 nq none)).mono h4.size))⟩
end Go.Proofs.Ytffihchkmcddeaa
