/-
  Where what comes in is of bulk at most 1048576, 'calamuslaw02.CrcPieces' answers true, and what came in reads as it did: it does not matter in which pieces bytes come; what is sealed is opened.
-/
import Derived.Test.YtjhdgbdnbfieiaaCrcSeal
import Derived.Test.YtjhdgbdnbfieiaaTexts
namespace Go.Proofs.Ytjhdgbdnbfieiaa
open Go.RowKit
open Crc
theorem openB_sealed (l : List UInt8) : openB (l ++ tailB l) = (l, 0) := by
  have hl : (l ++ tailB l).length - 4 = l.length := by rw [List.length_append, tailB_length]; omega
  rw [openB_ok (by rw [List.length_append, tailB_length]; omega) (by rw [hl]; simp), hl]
  simp
theorem sum_none (xs : List ByteArray) : ((Crc.sum (flat (xs.take 0)) : Nat) : Int) = 0 := by rw [List.take_zero]; decide
theorem str_cat (l : List UInt8) (s : ByteArray) : bs l ++ s = bs (l ++ s.data.toList) := by rw [← bs_append]; rfl
theorem sum_snoc (xs : List ByteArray) (k : Nat) (h : k < xs.length) : more (Crc.sum (flat (xs.take k))) xs[k].data.toList = Crc.sum (flat (xs.take (k + 1))) := by
  rw [more_sum, flat_snoc xs k h]
set_option maxHeartbeats 800000 in
set_option maxRecDepth 100000 in
theorem pieces_walk {A : Option Addr} {c : Nat} {xs : List ByteArray} {w : World} (hx : Strs w A xs) (hl : (flat xs).length + xs.length ≤ 1048576) :
    Calls Try.prog 5 #[.slice A xs.length c] w fun e w' => e = .returned (.bool true) ∧ Below w.heap.size w w' := by
  have hm : Hid (∀ s ∈ xs, s.size ≤ 1048576) := fun s hs => by have := flat_mem hs; omega
  go_enter Try.func5, Try.ntmps5
  go_wp2
  go_loopw [3, 4, 5] (fun s x i wr => ∃ k : Nat, k ≤ xs.length ∧ i = .int .i64 k ∧ s = .string (bs (flat (xs.take k))) ∧ x = .int .i64 (Crc.sum (flat (xs.take k)) : Nat) ∧ Below w.heap.size w wr) (fun _ _ i _ => xs.length - (intOf i).toNat)
  case atStart => exact ⟨0, Nat.zero_le _, rfl, rfl, by rw [sum_none], Below.refl _ _⟩
  case round =>
    obtain ⟨k, hk, rfl, rfl, rfl, hR⟩ := hrel
    by_cases hlt : k < xs.length
    · obtain ⟨ad, rfl, h1⟩ := (hx.below hR).at_ hlt
      have hsz := hm.out xs[k] (List.getElem_mem hlt)
      have hF := Lib.hid (flat_snoc xs k hlt)
      have hS := Lib.hid (sum_snoc xs k hlt)
      generalize xs[k] = s at h1 hsz hF hS
      have hC := Lib.hid (str_cat (flat (xs.take k)) s)
      have hfl : (flat (xs.take k)).length ≤ 1048576 := by
        have e : flat xs = flat (xs.take k) ++ flat (xs.drop k) := by
          unfold flat
          rw [← List.flatMap_append, List.take_append_drop]
        rw [e, List.length_append] at hl
        omega
      have g2 : ¬ 9223372036854775807 < (bs (flat (xs.take k))).size + s.size := by rw [bs_size]; omega
      have hsum := sum_lt (flat (xs.take k))
      go_wp2_with (go_at_call 9; refine (crc_more_ok s hsum (by omega) _).mono ?_; rintro e w2 ⟨rfl, hb2⟩)
      go_roundw
      case rel => exact ⟨k + 1, by omega, by go_num, by rw [hF.out, ← hC.out], by rw [hS.out], hR.trans (hb2.mono hR.size)⟩
      case measure => simp [intOf]; omega
    · have hkx : xs.take k = xs := List.take_of_length_le (by omega)
      rw [hkx]
      clear hkx
      have hxr := hx.below hR
      have hsz : (bs (flat xs)).size ≤ 1048576 := by rw [bs_size]; omega
      have hsz2 : (bs (flat xs ++ tailB (flat xs))).size ≤ 1048580 := by rw [bs_size, List.length_append, tailB_length]; omega
      have o1 := fun w => crc_seal (bs (flat xs)) (by omega) w
      have o2 := fun w => crc_open (bs (flat xs ++ tailB (flat xs))) (by omega) w
      rw [bs_toList] at o1 o2
      rw [openB_sealed] at o2
      have O1 := Lib.hid o1
      have O2 := Lib.hid o2
      clear o1 o2
      have t1 : ((bs (flat xs)).toList == (bs (flat xs)).toList) = true := by simp
      go_wp2_with fail
      refine (O1.out _).mono ?_
      rintro e w1 ⟨rfl, hb1⟩
      have hW1 := hR.trans (hb1.mono hR.size)
      have hx1 := hxr.below hb1
      clear hb1 hxr hR
      go_wp2_with fail
      refine (O2.out _).mono ?_
      rintro e w2 ⟨rfl, hb2⟩
      have hW2 := hW1.trans (hb2.mono hW1.size)
      have hx2 := hx1.below hb2
      clear hb2 hx1 hW1
      go_wp2_with fail
      refine (crc_sum hx2 (by omega) (fun s hs => by have := hm.out s hs; omega)).mono ?_
      rintro e w3 ⟨rfl, hb3⟩
      have hW3 := hW2.trans (hb3.mono hW2.size)
      clear hb3 hx2 hW2
      have O3 : Hid (∀ w : World, Calls Try.prog 7 #[.slice (some ⟨w.heap.size, 0, none⟩) 1 1] (w.alloc (.cells #[.string (bs (flat xs))] 9)) fun e w' => e = .returned (.int .i64 (Crc.sum (flat xs) : Nat)) ∧ Below w.heap.size w w') := fun w => by
        refine (crc_sum_one (bs (flat xs)) (by omega) (strs_one w _)).mono ?_
        rintro e w' ⟨rfl, hb⟩
        exact ⟨rfl, ((Below.refl _ _).alloc (Nat.le_refl _) _).trans (hb.mono (by simp))⟩
      go_wp2_with fail
      refine (O3.out _).mono ?_
      rintro e w4 ⟨rfl, hb4⟩
      have hW4 := hW3.trans (hb4.mono hW3.size)
      clear hb4 hW3
      go_wp2_with fail
      refine (O3.out _).mono ?_
      rintro e w5 ⟨rfl, hb5⟩
      have hW5 := hW4.trans (hb5.mono hW4.size)
      clear hb5 hW4
      go_wp2_with fail
      refine (crc_lives _).mono ?_
      rintro e w6 ⟨rfl, hb6⟩
      go_wp2
      go_ret
      exact ⟨rfl, hW5.trans (hb6.mono hW5.size)⟩
section
open Go.ChangeShapes Go.WideShapes Go.ChangeAt
open Go.ChangeMaps (open_string)
set_option maxRecDepth 100000 in
theorem crcPieces_contract (H : Type) (enc : TypeId × Value → H) (W : World) (base : Nat) (args : Array Value) (ds gs : List (DataW H)) (before : List MemPlace)
    (hval : ∀ (j : Nat) t v, Try.f5.params[j]? = some t → args[j]? = some v → Value.okWide Try.prog W .any base t v)
    (hW : DataW.Whole enc Try.prog Try.f5.params.toList Rows.crcPiecesSpec.vars false W args.toList ds gs before) (hk : Rows.uptoSmall H (ds ++ gs) = true) :
    Calls Try.prog 5 args W fun e W' => ∃ v, e = .returned v ∧ Rows.crcPiecesSpec.post enc Try.prog Try.f5 false true false false W args v W' := by
  have hW' := hW
  obtain ⟨p, q, hA0, hV, rfl, hfz, hnd⟩ := hW
  have hA : DataW.TrodAll enc Try.prog W 0 (fun _ => true) true Try.f5.params.toList args.toList ds p := hA0
  rw [Try.params5] at hA hval
  obtain ⟨v0, vs0, d0, ds0, p0, q0, hargs, rfl, rfl, h0, r0⟩ := trodAll_cons hA
  obtain ⟨rfl, rfl, rfl⟩ := trodAll_nil r0
  obtain rfl : args = #[v0] := by cases args; simp_all
  obtain ⟨rfl, rfl⟩ := trodVars_none hV
  have hlt0 : ∀ x ∈ p0, x.block < W.heap.size := fun x hx => by simpa using hW'.lt x (by simp [hx])
  obtain ⟨A0, c0, xs0, rfl, hx0, hm0, hd0⟩ := open_texts (hval 0 37 v0 rfl rfl) h0 hlt0
  have hl0 : (flat xs0).length + xs0.length ≤ 1048576 := small_texts hk hd0 (by simp)
  refine (pieces_walk hx0 hl0).mono fun e W' ⟨he, hb⟩ => ?_
  subst he
  exact ⟨_, rfl, law_post rfl rfl (by rw [Try.params5]; decide +kernel) ⟨rfl, rfl, rfl⟩ hW' hb⟩
set_option maxRecDepth 100000 in
theorem crcPieces_lifted (os : Os) (started : os.Started) (H : Type) (enc : TypeId × Value → H) (F : Stop.Interp) :
    ReturnsInHanded {} Try.checked os 5 .any ((Rows.OpenSpec.upto Rows.crcPiecesSpec).pre6 enc Try.prog Try.f5 Rows.crcPiecesUptoRow.domain false) (((Rows.OpenSpec.upto Rows.crcPiecesSpec).at F).post enc Try.prog Try.f5 false true false false) := by
  refine returnsInHanded_of_cond (C := Try.checked) (s := Rows.OpenSpec.upto Rows.crcPiecesSpec) (k := Rows.uptoSmall) rfl own_knob started (by kernel_rfl) Try.func5
    (OpenSpec.witness (enc := enc) (C := Try.checked) (s := Rows.OpenSpec.upto Rows.crcPiecesSpec) (k := Rows.uptoSmall) rfl false ⟨#[], #[.slice none 0 0], []⟩ 8 (by kernel_rfl) (by kernel_rfl) (by kernel_rfl)
      (x := ([.nil], [], [])) (by kernel_rfl) rfl (by kernel_rfl)) ?_
  intro W base args ds gs before hval hW _ hk _
  exact crcPieces_contract H enc W base args ds gs before hval hW hk
theorem crcPieces_holds : Rows.CrcPiecesUptoSaid :=
  OpenClaim.holds_of_cond 5 Try.f5 rfl rfl rfl rfl rfl rfl rfl ⟨rfl, rfl, rfl, rfl, rfl⟩ rfl rfl rfl rfl rfl (by kernel_rfl) Try.func5 (by kernel_rfl)
    (of_decide_eq_true (by kernel_rfl)) (by unfold Func.isWrapper; first | (rw [if_pos (by decide +kernel)]; kernel_rfl) | (rw [if_neg (by decide +kernel)]; exact ⟨rfl, rfl⟩))
    (fun os started H enc _ F => crcPieces_lifted os started H enc F)
end
end Go.Proofs.Ytjhdgbdnbfieiaa
