/-
  The law ChangeDoes: whether any change fits any text, and what any make of it, is what the document tells.
-/
import Derived.Test.YtlkkajmmcdigoaaChangeDo
import Derived.Test.YtlkkajmmcdigoaaChangeLives
import Derived.Test.YtlkkajmmcdigoaaFrame
namespace Go.Proofs.Ytlkkajmmcdigoaa
open Go.RowKit
open Utf Chg
set_option maxHeartbeats 2000000 in
set_option maxRecDepth 100000 in
theorem changeDoes_walk (t : ByteArray) {A : Option Addr} {c : Nat} {ks : List Cg} {w : World} (ht : t.size ≤ 140737488351232) (hx : Cgs w A ks) (hs : ∀ k ∈ ks, k.old.size ≤ 140737488351232 ∧ k.new.size ≤ 140737488351232) (hm : ks.length ≤ maxLen) :
    Calls Try.prog 3 #[.string t, .slice A ks.length c] w fun e w' => e = .returned (.bool true) ∧ Below w.heap.size w w' := by
  have S := Lib.hid (short_ok (c := c) t hx ht hs hm)
  have L := Lib.hid change_lives
  clear hs hm
  go_enter Try.func3, Try.ntmps3
  go_wp2_with fail
  refine S.out.mono ?_
  rintro e w1 ⟨b, rfl, hb1, hb⟩
  cases b with
  | false =>
    clear hb
    go_wp2_with (go_at_call 8; refine (L.out _).mono ?_; rintro e w2 ⟨rfl, hb2⟩)
    go_ret
    exact ⟨rfl, hb1.trans (hb2.mono hb1.size)⟩
  | true =>
    obtain ⟨h30, hwt⟩ := hb rfl
    clear hb
    have D1 : Hid (∀ u, Below w.heap.size w u → Calls Try.prog 9 #[.string t, .slice A ks.length c] u fun e w' => e = .returned (.tuple #[.string (bs (does ks t.data.toList).1), .int .i64 (does ks t.data.toList).2]) ∧ Below u.heap.size u w') := fun u hu => change_Do t (hx.below hu) (by omega) (by omega) (by omega)
    have D2 : Hid (∀ u, Below w.heap.size w u → Calls Try.prog 10 #[.string t, .slice A ks.length c] u fun e w' => e = .returned (.tuple #[.string (bs (does ks t.data.toList).1), .int .i64 (does ks t.data.toList).2]) ∧ Below u.heap.size u w') := fun u hu => ref8_Do t (hx.below hu) (by omega) (by omega) (by omega)
    generalize bs (does ks t.data.toList).1 = R1 at *
    obtain ⟨R2, HR2⟩ : ∃ R2, (does ks t.data.toList).2 = R2 := ⟨_, rfl⟩
    rw [HR2] at D1 D2
    clear HR2
    go_wp2_with (first
      | (go_at_call 9; refine (D1.out _ hb1).mono ?_; rintro e w2 ⟨rfl, hb2⟩; have h2 := hb1.trans (hb2.mono hb1.size))
      | (go_at_call 10; refine (D2.out _ h2).mono ?_; rintro e w3 ⟨rfl, hb3⟩; have h3 := h2.trans (hb3.mono h2.size)))
    go_loopw [9] (fun iv wr => ∃ k : Nat, k ≤ ks.length ∧ iv = .int .i64 k ∧ Below w.heap.size w wr) (fun iv _ => ks.length - (intOf iv).toNat)
    case atStart => exact ⟨0, Nat.zero_le _, rfl, h3⟩
    case round =>
      obtain ⟨k, hkl, rfl, hW⟩ := hrel
      by_cases hlt : k < ks.length
      · obtain ⟨x, hkx⟩ : ∃ x, ks[k]? = some x := ⟨_, List.getElem?_eq_getElem hlt⟩
        obtain ⟨b, off, rfl, hbw, c0, c1, c2⟩ := hx.at_ hW (Nat.le_refl _) hkx
        have dlt : decide ((k : Int) < (ks.length : Int)) = true := by simp; omega
        have hsn := weigh_snoc hkx
        have htk := weigh_take ks (k + 1)
        have ho : x.old.size ≤ 10000 := by omega
        have hn : x.new.size ≤ 10000 := by omega
        have hb2 : b < wr.heap.size := Nat.lt_of_lt_of_le hbw hW.size
        have hW2 : Below w.heap.size w (wr.alloc (.cells #[.int .i64 x.at_, .string x.old, .string x.new] 31)) := hW.alloc hW.size _
        have b0 := Blk.new wr 31 #[.int .i64 x.at_, .string x.old, .string x.new]
        have CELL : Hid (∀ u, Below (wr.alloc (.cells #[.int .i64 x.at_, .string x.old, .string x.new] 31)).heap.size (wr.alloc (.cells #[.int .i64 x.at_, .string x.old, .string x.new] 31)) u → u.cell? ⟨wr.heap.size, 0, none⟩ = some (.int .i64 x.at_) ∧ u.cell? ⟨wr.heap.size, 1, none⟩ = some (.string x.old) ∧ u.cell? ⟨wr.heap.size, 2, none⟩ = some (.string x.new)) := fun u hu => by
          have b1 := b0.below hu b0.lt
          exact ⟨b1.cell 0, b1.cell 1, b1.cell 2⟩
        obtain ⟨d0, d1, d2⟩ := CELL.out _ (Below.refl _ _)
        have F1 := Lib.hid (fun w => change_Fits t x.at_ x.old x.new (by omega) (by omega) (by omega) w)
        have F2 := Lib.hid (fun w => ref8_Fits t x.at_ x.old x.new (by omega) (by omega) (by omega) w)
        have T1 := Lib.hid (fun w => change_Turn x.at_ x.old x.new (by omega) (by omega) w)
        generalize fits t.data.toList x.at_ x.old.data.toList x.new.data.toList = r at *
        have hWd := Lib.hid hW2
        clear hkx b0 hx hsn htk D1 D2 hW2
        go_wp2
        have hd : Below (wr.alloc (.cells #[.int .i64 x.at_, .string x.old, .string x.new] 31)).heap.size (wr.alloc (.cells #[.int .i64 x.at_, .string x.old, .string x.new] 31)) (wr.alloc (.cells #[.int .i64 x.at_, .string x.old, .string x.new] 31)).drew := (Below.refl _ _).drew
        go_region_held3 (fun u => u.cell? ⟨wr.heap.size, 0, none⟩ = some (.int .i64 x.at_) ∧ u.cell? ⟨wr.heap.size, 1, none⟩ = some (.string x.old) ∧ u.cell? ⟨wr.heap.size, 2, none⟩ = some (.string x.new)) (first | exact ⟨by assumption, by assumption, by assumption⟩ | go_keep)
          (first
            | (go_at_call 11; refine (F1.out _).mono ?_; rintro e v1 ⟨rfl, vb1⟩; have vc1 := hd.trans (vb1.mono hd.size); obtain ⟨e0, e1, e2⟩ := CELL.out _ vc1)
            | (go_at_call 12; refine (F2.out _).mono ?_; rintro e v2 ⟨rfl, vb2⟩; have vc2 := vc1.trans (vb2.mono vc1.size); obtain ⟨f0, f1, f2⟩ := CELL.out _ vc2)
            | (go_at_call 13; refine (T1.out _).mono ?_; rintro e v3 ⟨rfl, vb3⟩; have vc3 := vc2.trans (vb3.mono vc2.size); obtain ⟨g0, g1, g2⟩ := CELL.out _ vc3))
        all_goals
          go_wp2
          go_roundw
          case rel => exact ⟨k + 1, by omega, by go_num, hWd.out.trans (vc3.mono hWd.out.size)⟩
          case measure => simp [intOf]; omega
      · have d1 : decide ((k : Int) < (ks.length : Int)) = false := by simp; omega
        clear hx D1 D2
        go_wp2_with (go_at_call 8; refine (L.out _).mono ?_; rintro e w5 ⟨rfl, hb5⟩)
        go_ret
        exact ⟨rfl, hW.trans (hb5.mono hW.size)⟩
section
open Go.ChangeShapes Go.WideShapes Go.ChangeAt
open Go.ChangeMaps (open_string)
set_option maxRecDepth 100000 in
theorem changeDoes_lifted (os : Os) (started : os.Started) (H : Type) (enc : TypeId × Value → H) :
    ReturnsInHanded {} Try.checked os 3 .any (Rows.changeDoesSpec.pre6 enc Try.prog Try.f3 Rows.changeDoesRow.domain false) (Rows.changeDoesSpec.post enc Try.prog Try.f3 false true false false) := by
  refine returnsInHanded_of_change_sized (C := Try.checked) own_knob started (by kernel_rfl) Try.func3
    (ChangeSpec.witness6 (enc := enc) (C := Try.checked) false ⟨#[], #[.string .empty, .slice none 0 0], []⟩ 8 (by kernel_rfl) (by kernel_rfl) (by kernel_rfl) (by kernel_rfl)) ?_
  intro W base args ds gs before hval0 hW _ hsz0 _
  have hsz : (DataW.weightsEach Try.prog (Try.f3.params.toList ++ Rows.changeDoesSpec.plain.varTypes Try.prog) (ds ++ gs)).all (· ≤ reachBytes) = true := hsz0
  clear hsz0
  have hval : ∀ (j : Nat) t v, Try.f3.params[j]? = some t → args[j]? = some v → Value.okWide Try.prog W .any base t v := hval0
  have hW' := hW
  obtain ⟨p, q, hA0, hV, rfl, hfz, hnd⟩ := hW
  have hA : DataW.TrodAll enc Try.prog W 0 (fun _ => true) true Try.f3.params.toList args.toList ds p := hA0
  rw [Try.params3] at hA hval hsz
  obtain ⟨v0, vs0, d0, ds0, p0, q0, hargs, rfl, rfl, h0, r0⟩ := trodAll_cons hA
  obtain ⟨v1, vs1, d1, ds1, p1, q1, rfl, rfl, rfl, h1, r1⟩ := trodAll_cons r0
  obtain ⟨rfl, rfl, rfl⟩ := trodAll_nil r1
  obtain rfl : args = #[v0, v1] := by cases args; simp_all
  obtain ⟨rfl, rfl⟩ := trodVars_none hV
  obtain ⟨s0, rfl, rfl, rfl, hmax0⟩ := open_string Try.underlying9 (hval 0 9 v0 rfl rfl) h0
  have hs0 : s0.size ≤ 140737488351232 := by rw [← data_len]; exact sized_string hsz (j := 0) (t := 9) rfl rfl
  have hlt1 : ∀ x ∈ p1, x.block < W.heap.size := fun x hx => by simpa using hW'.lt x (by simp [hx])
  obtain ⟨A1, c1, xs1, rfl, hx1, hm1, hd1⟩ := open_cgs (hval 1 22 v1 rfl rfl) h1 hlt1
  have he1 : ∀ k ∈ xs1, k.old.size ≤ 140737488351232 ∧ k.new.size ≤ 140737488351232 := fun k hk => by
    obtain ⟨e, sp, x, rfl, hin⟩ := hd1 k hk
    rw [← data_len, ← data_len]
    exact sized_cg hsz (j := 1) rfl rfl hin
  refine (changeDoes_walk s0 hs0 hx1 he1 hm1).mono fun e W' ⟨he, hb⟩ => ?_
  subst he
  exact ⟨_, rfl, law_post rfl rfl (by rw [Try.params3]; decide +kernel) ⟨rfl, rfl, rfl⟩ hW' hb⟩
theorem changeDoes_holds : Rows.ChangeDoesSaid :=
  OpenClaim.holds_of_wide 3 Try.f3 rfl rfl rfl rfl rfl rfl rfl ⟨rfl, rfl, rfl, rfl, rfl⟩ rfl rfl rfl rfl rfl (by kernel_rfl) Try.func3 (by kernel_rfl)
    (of_decide_eq_true (by kernel_rfl)) (by unfold Func.isWrapper; first | (rw [if_pos (by decide +kernel)]; kernel_rfl) | (rw [if_neg (by decide +kernel)]; exact ⟨rfl, rfl⟩))
    (fun os started H enc _ => changeDoes_lifted os started H enc)
end
end Go.Proofs.Ytlkkajmmcdigoaa
