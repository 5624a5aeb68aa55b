/-
  Whether a change fits a text, as package change tells it, and what undoes it.
-/
import Derived.Test.YtlfhfpjffdaomaaDoorDiffs
import Derived.Test.YtlfhfpjffdaomaaDoorCgs
namespace Go.Proofs.YtlfhfpjffdaomaaDoor
open Go.RowKit
open Utf Chg
set_option maxHeartbeats 1000000 in
set_option maxRecDepth 100000 in
theorem change_Fits (t : ByteArray) (i : Int) (o n : ByteArray) (ht : t.size ≤ 281474976710656) (ho : o.size ≤ 281474976710656) (hn : n.size ≤ 281474976710656) (w : World) :
    Calls Tryd.prog 68 #[.string t, .agg #[.int .i64 i, .string o, .string n]] w fun e w' => e = .returned (.bool (fits t.data.toList i o.data.toList n.data.toList)) ∧ Below w.heap.size w w' := by
  have hl := data_len t
  have P := Lib.hid (fun w => utf_Place t i (by omega) w)
  have V1 := Lib.hid (fun w => utf_Valid o (by omega) w)
  have V2 := Lib.hid (fun w => utf_Valid n (by omega) w)
  have b0 := Blk.new w 48 #[.int .i64 i, .string o, .string n]
  have c0 : (w.alloc (.cells #[.int .i64 i, .string o, .string n] 48)).cell? ⟨w.heap.size, 0, none⟩ = some (.int .i64 i) := b0.cell 0
  have c1 : (w.alloc (.cells #[.int .i64 i, .string o, .string n] 48)).cell? ⟨w.heap.size, 1, none⟩ = some (.string o) := b0.cell 1
  have c2 : (w.alloc (.cells #[.int .i64 i, .string o, .string n] 48)).cell? ⟨w.heap.size, 2, none⟩ = some (.string n) := b0.cell 2
  have h0 : Below w.heap.size w (w.alloc (.cells #[.int .i64 i, .string o, .string n] 48)) := (Below.refl _ w).alloc (Nat.le_refl _) _
  have hq : ∀ q, Below w.heap.size w ((w.alloc (.cells #[.int .i64 i, .string o, .string n] 48)).drewN q) := fun q => h0.trans ((below_gb (gb_drewN _ q none)).mono h0.size)
  clear b0 h0
  cases hp : place t.data.toList i with
  | false =>
    have H : Hid (fits t.data.toList i o.data.toList n.data.toList = false) := by show _ = _; rw [fits, hp]; rfl
    rw [hp] at P
    clear hp
    go_enter Tryd.func68, Tryd.ntmps68
    go_wp2
    go_quiet ((first
        | (go_at_call 34; exact (P.out _).mono fun e w1 h => ⟨h.1, _, h.2.symm⟩)
        | (go_at_call 49; with_reducible exact (V1.out _).mono fun e w1 h => ⟨h.1, _, h.2.symm⟩)
        | (go_at_call 49; with_reducible exact (V2.out _).mono fun e w1 h => ⟨h.1, _, h.2.symm⟩)
        | (go_at_call 82; exact (HP.out _).mono fun e w1 h => ⟨h.1, _, h.2⟩)))
    go_wp2
    go_ret
    exact ⟨by rw [H.out]; rfl, hq _⟩
  | true =>
    cases hv1 : valid o.data.toList with
    | false =>
      have H : Hid (fits t.data.toList i o.data.toList n.data.toList = false) := by show _ = _; rw [fits, hp, hv1]; rfl
      rw [hp] at P
      rw [hv1] at V1
      clear hp hv1
      go_enter Tryd.func68, Tryd.ntmps68
      go_wp2
      go_quiet ((first
          | (go_at_call 34; exact (P.out _).mono fun e w1 h => ⟨h.1, _, h.2.symm⟩)
          | (go_at_call 49; with_reducible exact (V1.out _).mono fun e w1 h => ⟨h.1, _, h.2.symm⟩)
          | (go_at_call 49; with_reducible exact (V2.out _).mono fun e w1 h => ⟨h.1, _, h.2.symm⟩)
          | (go_at_call 82; exact (HP.out _).mono fun e w1 h => ⟨h.1, _, h.2⟩)))
      go_wp2
      go_ret
      exact ⟨by rw [H.out]; rfl, hq _⟩
    | true =>
      cases hv2 : valid n.data.toList with
      | false =>
        have H : Hid (fits t.data.toList i o.data.toList n.data.toList = false) := by show _ = _; rw [fits, hp, hv1, hv2]; rfl
        rw [hp] at P
        rw [hv1] at V1
        rw [hv2] at V2
        clear hp hv1 hv2
        go_enter Tryd.func68, Tryd.ntmps68
        go_wp2
        go_quiet ((first
            | (go_at_call 34; exact (P.out _).mono fun e w1 h => ⟨h.1, _, h.2.symm⟩)
            | (go_at_call 49; with_reducible exact (V1.out _).mono fun e w1 h => ⟨h.1, _, h.2.symm⟩)
            | (go_at_call 49; with_reducible exact (V2.out _).mono fun e w1 h => ⟨h.1, _, h.2.symm⟩)
            | (go_at_call 82; exact (HP.out _).mono fun e w1 h => ⟨h.1, _, h.2⟩)))
        go_wp2
        go_ret
        exact ⟨by rw [H.out]; rfl, hq _⟩
      | true =>
        obtain ⟨rs, j, hd, hj, he⟩ := place_of hp
        subst he
        have hin := off_in hd j
        rw [hl] at hin
        have H : Hid (fits t.data.toList (off rs j : Int) o.data.toList n.data.toList = Lib.hasPrefix (t.data.toList.drop (off rs j)) o.data.toList) := by
          show _ = _
          rw [fits, hp, hv1, hv2, Int.toNat_natCast]
          simp
        have HP := Lib.hid (fun w => Tryd.strings_HasPrefix (bs (t.data.toList.drop (off rs j))) o w)
        rw [bs_toList] at HP
        have e1 := extract_from t (off rs j)
        rw [hp] at P
        rw [hv1] at V1
        rw [hv2] at V2
        clear hp hv1 hv2 hd hj
        generalize bs (t.data.toList.drop (off rs j)) = t1 at *
        generalize Lib.hasPrefix (t.data.toList.drop (off rs j)) o.data.toList = r at *
        generalize off rs j = k at *
        go_enter Tryd.func68, Tryd.ntmps68
        go_wp2
        go_quiet ((first
            | (go_at_call 34; exact (P.out _).mono fun e w1 h => ⟨h.1, _, h.2.symm⟩)
            | (go_at_call 49; with_reducible exact (V1.out _).mono fun e w1 h => ⟨h.1, _, h.2.symm⟩)
            | (go_at_call 49; with_reducible exact (V2.out _).mono fun e w1 h => ⟨h.1, _, h.2.symm⟩)
            | (go_at_call 82; exact (HP.out _).mono fun e w1 h => ⟨h.1, _, h.2⟩)))
        go_wp2
        go_ret
        exact ⟨by rw [H.out]; rfl, hq _⟩
end Go.Proofs.YtlfhfpjffdaomaaDoor
