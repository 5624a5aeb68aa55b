/-
  The law IndexNobody: nobody has nothing; what New did not give is one of no bytes.
-/
import Derived.Test.YtgjppkkifclanaaDoorIndexLives
import Derived.Test.YtgjppkkifclanaaDoorFrame
import Derived.Test.YtgjppkkifclanaaDoorCards
import Derived.Test.YtgjppkkifclanaaDoorTie
import Derived.Lay
import Derived.Handed
import Derived.LaidLaws
import Derived.SevenTiedAt
import Derived.MakeChecks
namespace Go.Proofs.YtgjppkkifclanaaDoor
open Go.RowKit
open Pc
set_option maxHeartbeats 2000000 in
set_option maxRecDepth 100000 in
theorem indexNobody_walk (n : Int) (s : ByteArray) (w : World) : Calls Tryd.prog 6 #[.int .i64 n, .string s] w fun e w' => e = .returned (.bool true) ∧ Below w.heap.size w w' := by
  obtain ⟨t, rfl⟩ : ∃ t, s = bs t := ⟨s.data.toList, rfl⟩
  have hsz : (bs t).size = t.length := bs_size t
  by_cases hbig : 3000 < t.length
  · have d1 : decide (3000 < (t.length : Int)) = true := by simp; omega
    have d2 : decide (3000 < t.length) = true := by simp; omega
    go_enter Tryd.func6, Tryd.ntmps6
    go_wp2_with (go_at_call 8; refine (index_lives _).mono ?_; rintro e wl ⟨rfl, hbl⟩)
    go_ret
    exact ⟨rfl, hbl⟩
  · have d1 : decide (3000 < (t.length : Int)) = false := by simp; omega
    have d2 : decide (3000 < t.length) = false := by simp; omega
    have Z0 : ZeroI w.heap.size w.heap.size (w.alloc (.cells #[.pointer none, .slice none 0 0] 44)) := ⟨Nat.le_refl _, Blk.new w _ _⟩
    have W0 : Below w.heap.size w (w.alloc (.cells #[.pointer none, .slice none 0 0] 44)) := (Below.refl _ w).alloc (Nat.le_refl _) _
    -- one of no bytes
    have ZL : Hid (∀ u, w.heap.size ≤ u.heap.size → ZeroI w.heap.size w.heap.size u → Calls Tryd.prog 12 #[.pointer (some ⟨w.heap.size, 0, none⟩)] u fun e w' => e = .returned (.int .i64 1) ∧ Below u.heap.size u w') := fun u hB h => index_Lines (zero_sees hB h)
    have ZN : Hid (∀ u, w.heap.size ≤ u.heap.size → ZeroI w.heap.size w.heap.size u → Calls Tryd.prog 11 #[.pointer (some ⟨w.heap.size, 0, none⟩)] u fun e w' => e = .returned (.int .i64 0) ∧ Below u.heap.size u w') := fun u hB h => index_Len (zero_sees hB h)
    have ZS : Hid (∀ u, w.heap.size ≤ u.heap.size → ZeroI w.heap.size w.heap.size u → Calls Tryd.prog 14 #[.pointer (some ⟨w.heap.size, 0, none⟩), .int .i64 0] u fun e w' => e = .returned (.int .i64 0) ∧ Below u.heap.size u w') := fun u hB h => index_Start (zero_sees hB h) 0
    have ZI : Hid (∀ u, w.heap.size ≤ u.heap.size → ZeroI w.heap.size w.heap.size u → Calls Tryd.prog 20 #[.pointer (some ⟨w.heap.size, 0, none⟩), .int .i64 0, .string (bs t)] u fun e w' => e = .returned (.int .i64 0) ∧ Idx w.heap.size w.heap.size t w' ∧ KeepsI w.heap.size u w') := fun u hB h => zero_insert t hB h (by omega)
    -- two of the same bytes
    have NW : Hid (∀ u, w.heap.size ≤ u.heap.size → Calls Tryd.prog 9 #[.string (bs t)] u fun e w' => ∃ p, e = .returned (.pointer (some ⟨p, 0, none⟩)) ∧ (Idx u.heap.size p t w' ∧ KeepsI u.heap.size u w')) := fun u hB => by
      refine (index_New (B := u.heap.size) t (Nat.le_refl _) (by omega)).mono ?_
      rintro e w' ⟨p, rfl, h1, h2, _⟩
      exact ⟨p, rfl, h1, h2⟩
    have L1 : Hid (∀ B q u, Idx B q t u → Calls Tryd.prog 11 #[.pointer (some ⟨q, 0, none⟩)] u fun e w' => e = .returned (.int .i64 ((Ix.ends t).getD ((Ix.ends t).length - 1) 0 : Nat)) ∧ Below u.heap.size u w') := fun B q u h => index_Len (idx_sees h (by omega))
    have L2 : Hid (∀ B q u, Idx B q t u → Calls Tryd.prog 12 #[.pointer (some ⟨q, 0, none⟩)] u fun e w' => e = .returned (.int .i64 ((Ix.ends t).length : Nat)) ∧ Below u.heap.size u w') := fun B q u h => index_Lines (idx_sees h (by omega))
    have L3 : Hid (∀ B q u, Idx B q t u → Calls Tryd.prog 18 #[.pointer (some ⟨q, 0, none⟩), .int .i64 n] u fun e w' => e = .returned (.int .i64 (Ix.ofL (Ix.ends t) n)) ∧ Below u.heap.size u w') := fun B q u h => index_Of (idx_sees h (by omega)) (Ix.ends_sorted t) n
    generalize (Ix.ends t).getD ((Ix.ends t).length - 1) 0 = m1 at *
    generalize (Ix.ends t).length = m2 at *
    generalize Ix.ofL (Ix.ends t) n = m3 at *
    have hZ := Z0
    have hW := W0
    clear Z0 W0
    have hS := hW.size
    go_enter Tryd.func6, Tryd.ntmps6
    go_wp2_with (first
      | (go_at_call 20; with_reducible refine (none_insertI _ _ _).mono ?_; rintro e u ⟨rfl, rfl⟩)
      | (go_at_call 21; with_reducible refine (none_deleteI _ _ _).mono ?_; rintro e u ⟨rfl, rfl⟩)
      | (go_at_call 11; with_reducible refine (none_Len _).mono ?_; rintro e u ⟨rfl, rfl⟩)
      | (go_at_call 12; with_reducible refine (none_Lines _).mono ?_; rintro e u ⟨rfl, rfl⟩)
      | (go_at_call 14; with_reducible refine (none_Start _ _).mono ?_; rintro e u ⟨rfl, rfl⟩)
      | (go_at_call 16; with_reducible refine (none_End _ _).mono ?_; rintro e u ⟨rfl, rfl⟩)
      | (go_at_call 18; with_reducible refine (none_Of _ _).mono ?_; rintro e u ⟨rfl, hb⟩; replace hZ := hZ.below hb; replace hW := hW.trans (hb.mono hS); replace hS := hW.size; clear hb)
      | (go_at_call 12; with_reducible refine (ZL.out _ hS hZ).mono ?_; rintro e u ⟨rfl, hb⟩; replace hZ := hZ.below hb; replace hW := hW.trans (hb.mono hS); replace hS := hW.size; clear hb)
      | (go_at_call 11; with_reducible refine (ZN.out _ hS hZ).mono ?_; rintro e u ⟨rfl, hb⟩; replace hZ := hZ.below hb; replace hW := hW.trans (hb.mono hS); replace hS := hW.size; clear hb)
      | (go_at_call 14; with_reducible refine (ZS.out _ hS hZ).mono ?_; rintro e u ⟨rfl, hb⟩; replace hZ := hZ.below hb; replace hW := hW.trans (hb.mono hS); replace hS := hW.size; clear hb)
      | (go_at_call 20; with_reducible refine (ZI.out _ hS hZ).mono ?_; rintro e u ⟨rfl, hI, hK⟩; clear hZ; replace hW := hW.trans hK.below; replace hS := hW.size; clear hK)
      | (go_at_call 9; with_reducible refine (NW.out _ hS).mono ?_; rintro e u ⟨x, rfl, hX, hK⟩; replace hI := hI.below hK.below; replace hW := hW.trans (hK.below.mono hS); replace hS := hW.size; clear hK)
      | (go_at_call 11; (first | (with_reducible refine (L1.out _ _ _ hI).mono ?_) | (with_reducible refine (L1.out _ _ _ hX).mono ?_)); rintro e u ⟨rfl, hb⟩; replace hI := hI.below hb; replace hX := hX.below hb; replace hW := hW.trans (hb.mono hS); replace hS := hW.size; clear hb)
      | (go_at_call 12; (first | (with_reducible refine (L2.out _ _ _ hI).mono ?_) | (with_reducible refine (L2.out _ _ _ hX).mono ?_)); rintro e u ⟨rfl, hb⟩; replace hI := hI.below hb; replace hX := hX.below hb; replace hW := hW.trans (hb.mono hS); replace hS := hW.size; clear hb)
      | (go_at_call 18; (first | (with_reducible refine (L3.out _ _ _ hI).mono ?_) | (with_reducible refine (L3.out _ _ _ hX).mono ?_)); rintro e u ⟨rfl, hb⟩; replace hI := hI.below hb; replace hX := hX.below hb; replace hW := hW.trans (hb.mono hS); replace hS := hW.size; clear hb)
      | (go_at_call 8; refine (index_lives _).mono ?_; rintro e wl ⟨rfl, hbl⟩))
    go_ret
    exact ⟨rfl, hW.trans (hbl.mono hS)⟩
section
open Go.ChangeShapes Go.WideShapes Go.ChangeAt
open Go.ChangeMaps (open_string)
set_option maxRecDepth 100000 in
theorem indexNobody_lifted (os : Os) (started : os.Started) (H : Type) (enc : TypeId × Value → H) :
    ReturnsInHanded {} Tryd.checked os 6 .any (fun w args => (Rows.indexNobodySpec.pre enc Tryd.prog Tryd.f6 [] false w args ∧ laidMetH Tryd.prog Rows.indexNobodyRow.laid w) ∧ sizedMet enc Tryd.prog Tryd.f6 (OpenSpec.ofChange Rows.indexNobodySpec) false w args) (Rows.indexNobodySpec.post enc Tryd.prog Tryd.f6 false true false false) := by
  refine returnsInHanded_of_change_and (C := Tryd.checked) (X := fun w _ => laidMetH Tryd.prog Rows.indexNobodyRow.laid w) (fun _ _ _ hh h => h.of_heap hh) own_knob started (by kernel_rfl) Tryd.func6
    (ChangeSpec.witness_shaped (enc := enc) (C := Tryd.checked) (os := os) (X := fun w _ => laidMetH Tryd.prog Rows.indexNobodyRow.laid w) false (World.laidAll Tryd.prog os Rows.indexNobodyRow.laid) #[.int .i64 0, .string .empty] 8 (World.laidAll_os _ _ _)
      (World.shaped_of_ZipB (by kernel_rfl) (by kernel_rfl)) (by kernel_rfl) (by kernel_rfl) (by kernel_rfl)
      (by rw [MakeChecks.laidMetH_plain _ _ _ (by kernel_rfl)]; exact laidMet_laidAll _ (by kernel_rfl) (by kernel_rfl))) ?_
  intro W base args ds gs before hval0 hW _ hsz0 _ _
  have hsz : (DataW.weightsEach Tryd.prog (Tryd.f6.params.toList ++ Rows.indexNobodySpec.plain.varTypes Tryd.prog) (ds ++ gs)).all (· ≤ reachBytes) = true := hsz0
  clear hsz0
  have hval : ∀ (j : Nat) t v, Tryd.f6.params[j]? = some t → args[j]? = some v → Value.okWide Tryd.prog W .any base t v := hval0
  have hW' := hW
  obtain ⟨p, q, hA0, hV, rfl, hfz, hnd⟩ := hW
  have hA : DataW.TrodAll enc Tryd.prog W 0 (fun _ => true) true Tryd.f6.params.toList args.toList ds p := hA0
  rw [Tryd.params6] at hA hval hsz
  obtain ⟨v0, vs0, d0, ds0, p0, q0, hargs, rfl, rfl, h0, r0⟩ := trodAll_cons hA
  obtain ⟨v1, vs1, d1, ds1, p1, q1, rfl, rfl, rfl, h1, r1⟩ := trodAll_cons r0
  obtain ⟨rfl, rfl, rfl⟩ := trodAll_nil r1
  obtain rfl : args = #[v0, v1] := by cases args; simp_all
  obtain ⟨rfl, rfl⟩ := trodVars_none hV
  obtain ⟨n0, rfl, rfl, rfl, wn0⟩ := open_int Tryd.underlying3 (hval 0 3 v0 rfl rfl) h0
  obtain ⟨s1, rfl, rfl, rfl, hmax1⟩ := open_string Tryd.underlying9 (hval 1 9 v1 rfl rfl) h1
  have hs1 : s1.size ≤ 140737488351232 := by rw [← data_len]; exact sized_string hsz (j := 1) (t := 9) rfl rfl
  refine (indexNobody_walk n0 s1 W).mono fun e W' ⟨he, hb⟩ => ?_
  subst he
  exact ⟨_, rfl, law_post rfl rfl (by rw [Tryd.params6]; decide +kernel) ⟨rfl, rfl, rfl⟩ hW' hb⟩
theorem indexNobody_row : Rows.IndexNobodySaid :=
  OpenClaim.holds_of_wide 6 Tryd.f6 rfl rfl rfl rfl rfl rfl rfl ⟨rfl, rfl, rfl, rfl, rfl⟩ rfl rfl rfl rfl rfl (by kernel_rfl) Tryd.func6 (by kernel_rfl)
    (of_decide_eq_true (by kernel_rfl)) (by unfold Func.isWrapper; first | (rw [if_pos (by decide +kernel)]; kernel_rfl) | (rw [if_neg (by decide +kernel)]; exact ⟨rfl, rfl⟩))
    (fun os started H enc _ => indexNobody_lifted os started H enc)
theorem indexNobody_holds : Rows.IndexNobodyCardSaid :=
  Claim7.holds_tied_plain_at .later [] [.data, .pinned] true (true, _) false indexNobody_row (fun _ h => by cases h) (by kernel_rfl) (fun _ h => by cases h) indexNobody_row_tie rfl ⟨rfl, rfl⟩ (by kernel_rfl) rfl
    (fun f fn hf hfn => by
      obtain rfl : f = 6 := Option.some.inj ((show Tryd.prog.funcNamed "calamus/calamuslaw07.IndexNobody" = some 6 by kernel_rfl).symm.trans hf) |>.symm
      obtain rfl : fn = Tryd.f6 := (Option.some.inj (Tryd.func6.symm.trans hfn)).symm
      exact ⟨by kernel_rfl, fun j t ht => by
        rw [Tryd.params6] at ht
        have hm := Array.mem_of_getElem? ht
        have hall : (#[3, 9].toList.all fun u => !Tryd.prog.wantsStandIn u) = true := by kernel_rfl
        exact (show Tryd.prog.wantsStandIn t = false by simpa using List.all_eq_true.1 hall t (by simpa using hm))⟩)
    (by kernel_rfl)
end
end Go.Proofs.YtgjppkkifclanaaDoor
