/-
  Whether a change fits a text, as package change tells it, and what undoes it.
-/
import Derived.Test.YtffihchkmcddeaaDiffs
import Derived.Test.YtffihchkmcddeaaCgs
namespace Go.Proofs.Ytffihchkmcddeaa
open Go.RowKit
open Utf Chg
set_option maxHeartbeats 1000000 in
set_option maxRecDepth 100000 in
theorem change_Fits (t : ByteArray) (i : Int) (o n : ByteArray) (ht : t.size ≤ 281474976710656) (ho : o.size ≤ 281474976710656) (hn : n.size ≤ 281474976710656) (w : World) :
    Calls Try.prog 54 #[.string t, .agg #[.int .i64 i, .string o, .string n]] w fun e w' => e = .returned (.bool (fits t.data.toList i o.data.toList n.data.toList)) ∧ Below w.heap.size w w' := by
  have hl := data_len t
  have P := Lib.hid (fun w => utf_Place t i (by omega) w)
  have V1 := Lib.hid (fun w => utf_Valid o (by omega) w)
  have V2 := Lib.hid (fun w => utf_Valid n (by omega) w)
  have b0 := Blk.new w 26 #[.int .i64 i, .string o, .string n]
  have c0 : (w.alloc (.cells #[.int .i64 i, .string o, .string n] 26)).cell? ⟨w.heap.size, 0, none⟩ = some (.int .i64 i) := b0.cell 0
  have c1 : (w.alloc (.cells #[.int .i64 i, .string o, .string n] 26)).cell? ⟨w.heap.size, 1, none⟩ = some (.string o) := b0.cell 1
  have c2 : (w.alloc (.cells #[.int .i64 i, .string o, .string n] 26)).cell? ⟨w.heap.size, 2, none⟩ = some (.string n) := b0.cell 2
  have h0 : Below w.heap.size w (w.alloc (.cells #[.int .i64 i, .string o, .string n] 26)) := (Below.refl _ w).alloc (Nat.le_refl _) _
  have hq : ∀ q, Below w.heap.size w ((w.alloc (.cells #[.int .i64 i, .string o, .string n] 26)).drewN q) := fun q => h0.trans ((below_gb (gb_drewN _ q none)).mono h0.size)
  clear b0 h0
  cases hp : place t.data.toList i with
  | false =>
    have H : Hid (fits t.data.toList i o.data.toList n.data.toList = false) := by show _ = _; rw [fits, hp]; rfl
    rw [hp] at P
    clear hp
    go_enter Try.func54, Try.ntmps54
    go_wp2
    go_quiet ((first
        | (go_at_call 59; exact (P.out _).mono fun e w1 h => ⟨h.1, _, h.2.symm⟩)
        | (go_at_call 51; with_reducible exact (V1.out _).mono fun e w1 h => ⟨h.1, _, h.2.symm⟩)
        | (go_at_call 51; with_reducible exact (V2.out _).mono fun e w1 h => ⟨h.1, _, h.2.symm⟩)
        | (go_at_call 60; exact (HP.out _).mono fun e w1 h => ⟨h.1, _, h.2⟩)))
    go_wp2
    go_ret
    exact ⟨by rw [H.out]; rfl, hq _⟩
  | true =>
    cases hv1 : valid o.data.toList with
    | false =>
      have H : Hid (fits t.data.toList i o.data.toList n.data.toList = false) := by show _ = _; rw [fits, hp, hv1]; rfl
      rw [hp] at P
      rw [hv1] at V1
      clear hp hv1
      go_enter Try.func54, Try.ntmps54
      go_wp2
      go_quiet ((first
          | (go_at_call 59; exact (P.out _).mono fun e w1 h => ⟨h.1, _, h.2.symm⟩)
          | (go_at_call 51; with_reducible exact (V1.out _).mono fun e w1 h => ⟨h.1, _, h.2.symm⟩)
          | (go_at_call 51; with_reducible exact (V2.out _).mono fun e w1 h => ⟨h.1, _, h.2.symm⟩)
          | (go_at_call 60; exact (HP.out _).mono fun e w1 h => ⟨h.1, _, h.2⟩)))
      go_wp2
      go_ret
      exact ⟨by rw [H.out]; rfl, hq _⟩
    | true =>
      cases hv2 : valid n.data.toList with
      | false =>
        have H : Hid (fits t.data.toList i o.data.toList n.data.toList = false) := by show _ = _; rw [fits, hp, hv1, hv2]; rfl
        rw [hp] at P
        rw [hv1] at V1
        rw [hv2] at V2
        clear hp hv1 hv2
        go_enter Try.func54, Try.ntmps54
        go_wp2
        go_quiet ((first
            | (go_at_call 59; exact (P.out _).mono fun e w1 h => ⟨h.1, _, h.2.symm⟩)
            | (go_at_call 51; with_reducible exact (V1.out _).mono fun e w1 h => ⟨h.1, _, h.2.symm⟩)
            | (go_at_call 51; with_reducible exact (V2.out _).mono fun e w1 h => ⟨h.1, _, h.2.symm⟩)
            | (go_at_call 60; exact (HP.out _).mono fun e w1 h => ⟨h.1, _, h.2⟩)))
        go_wp2
        go_ret
        exact ⟨by rw [H.out]; rfl, hq _⟩
      | true =>
        obtain ⟨rs, j, hd, hj, he⟩ := place_of hp
        subst he
        have hin := off_in hd j
        rw [hl] at hin
        have H : Hid (fits t.data.toList (off rs j : Int) o.data.toList n.data.toList = Lib.hasPrefix (t.data.toList.drop (off rs j)) o.data.toList) := by
          show _ = _
          rw [fits, hp, hv1, hv2, Int.toNat_natCast]
          simp
        have HP := Lib.hid (fun w => Try.strings_HasPrefix (bs (t.data.toList.drop (off rs j))) o w)
        rw [bs_toList] at HP
        have e1 := extract_from t (off rs j)
        rw [hp] at P
        rw [hv1] at V1
        rw [hv2] at V2
        clear hp hv1 hv2 hd hj
        generalize bs (t.data.toList.drop (off rs j)) = t1 at *
        generalize Lib.hasPrefix (t.data.toList.drop (off rs j)) o.data.toList = r at *
        generalize off rs j = k at *
        go_enter Try.func54, Try.ntmps54
        go_wp2
        go_quiet ((first
            | (go_at_call 59; exact (P.out _).mono fun e w1 h => ⟨h.1, _, h.2.symm⟩)
            | (go_at_call 51; with_reducible exact (V1.out _).mono fun e w1 h => ⟨h.1, _, h.2.symm⟩)
            | (go_at_call 51; with_reducible exact (V2.out _).mono fun e w1 h => ⟨h.1, _, h.2.symm⟩)
            | (go_at_call 60; exact (HP.out _).mono fun e w1 h => ⟨h.1, _, h.2⟩)))
        go_wp2
        go_ret
        exact ⟨by rw [H.out]; rfl, hq _⟩
set_option maxHeartbeats 1000000 in
set_option maxRecDepth 100000 in
theorem change_Turn (i : Int) (o n : ByteArray) (ho : o.size ≤ 281474976710656) (hn : n.size ≤ 281474976710656) (w : World) :
    Calls Try.prog 49 #[.agg #[.int .i64 i, .string o, .string n]] w fun e w' => e = .returned (.agg #[.int .i64 i, .string n, .string o]) ∧ Below w.heap.size w w' := by
  have K1 := Lib.hid (fun w => str_clone n w hn)
  have K2 := Lib.hid (fun w => str_clone o w ho)
  go_enter Try.func49, Try.ntmps49
  go_wp2
  obtain ⟨W, hWe⟩ : ∃ W, (w.alloc (.cells #[.int .i64 i, .string o, .string n] 26)).alloc (.cells #[.int .i64 0, .string ⟨#[]⟩, .string ⟨#[]⟩] 26) = W := ⟨_, rfl⟩
  have b1 : Blk W w.heap.size 26 #[.int .i64 i, .string o, .string n] := by rw [← hWe]; exact (Blk.new w _ _).alloc _
  have b2 : Blk W (w.heap.size + 1) 26 #[.int .i64 0, .string ⟨#[]⟩, .string ⟨#[]⟩] := by
    rw [← hWe]
    have := Blk.new (w.alloc (.cells #[.int .i64 i, .string o, .string n] 26)) 26 #[.int .i64 0, .string ⟨#[]⟩, .string ⟨#[]⟩]
    simpa using this
  have hW : Below w.heap.size w W := by rw [← hWe]; exact ((Below.refl _ w).alloc (Nat.le_refl _) _).alloc (by simp) _
  have CELL : Hid (∀ u, Below W.heap.size W u → (u.cell? ⟨w.heap.size, 0, none⟩ = some (.int .i64 i) ∧ u.cell? ⟨w.heap.size, 1, none⟩ = some (.string o) ∧ u.cell? ⟨w.heap.size, 2, none⟩ = some (.string n)) ∧
      (u.cell? ⟨w.heap.size + 1, 0, none⟩ = some (.int .i64 0) ∧ u.cell? ⟨w.heap.size + 1, 1, none⟩ = some (.string ⟨#[]⟩) ∧ u.cell? ⟨w.heap.size + 1, 2, none⟩ = some (.string ⟨#[]⟩) ∧ u.frozen? ⟨w.heap.size + 1, 0, none⟩ = false ∧ u.frozen? ⟨w.heap.size + 1, 1, none⟩ = false ∧ u.frozen? ⟨w.heap.size + 1, 2, none⟩ = false)) := fun u hu => by
    have k := b1.below hu b1.lt
    have k' := b2.below hu b2.lt
    exact ⟨⟨k.cell 0, k.cell 1, k.cell 2⟩, k'.cell 0, k'.cell 1, k'.cell 2, k'.frozen 0, k'.frozen 1, k'.frozen 2⟩
  have B2 := Lib.hid b2
  have HW := Lib.hid hW
  clear b1 b2 hW
  rw [hWe]
  clear hWe
  obtain ⟨⟨a0, a1, a2⟩, _⟩ := CELL.out W (Below.refl _ _)
  have hd : Below W.heap.size W W.drew := (Below.refl _ _).drew
  go_region_held3 (fun u => u.cell? ⟨w.heap.size, 0, none⟩ = some (.int .i64 i) ∧ u.cell? ⟨w.heap.size, 1, none⟩ = some (.string o) ∧ u.cell? ⟨w.heap.size, 2, none⟩ = some (.string n)) (first | exact ⟨by assumption, by assumption, by assumption⟩ | go_keep)
    (first
      | (go_at_call 48; with_reducible refine (K1.out _).mono ?_; rintro e w3 ⟨rfl, hb3⟩; have h3 := hd.trans (hb3.mono hd.size); obtain ⟨⟨e0, e1, e2⟩, _⟩ := CELL.out _ h3)
      | (go_at_call 48; with_reducible refine (K2.out _).mono ?_; rintro e w4 ⟨rfl, hb4⟩; have h4 := h3.trans (hb4.mono h3.size); obtain ⟨⟨f0, f1, f2⟩, k0, k1, k2, z0, z1, z2⟩ := CELL.out _ h4))
  all_goals
    go_wp2
    have B4 := B2.out.below h4 B2.out.lt
    have B5 := ((B4.set_ 0 (.int .i64 i)).set_ 1 (.string n)).set_ 2 (.string o)
    have hs := gb_own (gb_below (some (w.heap.size + 1)) (HW.out.trans (h4.mono HW.out.size))) (gb_trans (gb_trans (gb_set w4 (w.heap.size + 1) 0 (.int .i64 i)) (gb_set _ (w.heap.size + 1) 1 (.string n))) (gb_set _ (w.heap.size + 1) 2 (.string o))) (fun i hi => by injection hi with hi; omega)
    exact bodyPost_ret (v := .agg #[.int .i64 i, .string n, .string o]) (results_cell_row rfl _ _ (w.heap.size + 1) 26 #[.int .i64 i, .string n, .string o] (0, 0) _ rfl (show Blk _ _ _ _ by simpa using B5) Try.underlying26 rfl rfl) rfl
      ⟨rfl, gb_low hs (by omega)⟩
end Go.Proofs.Ytffihchkmcddeaa
