/-
  The law IndexOf: behind any steps the line of any offset is what the document tells.
-/
import Derived.Test.YtgjppkkifclanaaDoorIndexDo
import Derived.Test.YtgjppkkifclanaaDoorIndexRef
import Derived.Test.YtgjppkkifclanaaDoorFrame
import Derived.Test.YtgjppkkifclanaaDoorCards
import Derived.Test.YtgjppkkifclanaaDoorTie
import Derived.Lay
import Derived.Handed
import Derived.LaidLaws
import Derived.SevenTiedAt
import Derived.MakeChecks
import Derived.Deep.RegionHeld3
namespace Go.Proofs.YtgjppkkifclanaaDoor
open Go.RowKit
open Pc
set_option maxHeartbeats 2000000 in
set_option maxRecDepth 100000 in
theorem indexOf_walk (s : ByteArray) {A : Option Addr} {c : Nat} {ks : List Step} (n : Int) {w : World} (hx : Steps w A ks) (hs : ∀ k ∈ ks, k.s.size ≤ 140737488351232) (hm : ks.length ≤ maxLen) :
    Calls Tryd.prog 4 #[.string s, .slice A ks.length c, .int .i64 n] w fun e w' => e = .returned (.bool true) ∧ Below w.heap.size w w' := by
  have FEW := Lib.hid (few7_ok (c := c) hx hs hm)
  have hm2 : ks.length ≤ 9223372036854775807 := by unfold maxLen at hm; exact hm
  clear hs hm
  go_enter Tryd.func4, Tryd.ntmps4
  go_wp2_with fail
  refine FEW.out.mono ?_
  rintro e w1 ⟨b, rfl, rfl, hb⟩
  cases b with
  | false =>
    clear hb
    go_wp2_with (go_at_call 8; refine (index_lives _).mono ?_; rintro e wl ⟨rfl, hbl⟩)
    go_ret
    exact ⟨rfl, hbl⟩
  | true =>
    obtain ⟨h100, htot⟩ := hb rfl
    clear hb
    by_cases hbig : 3000 < s.size
    · have d1 : decide (3000 < (s.size : Int)) = true := by simp; omega
      go_wp2_with (go_at_call 8; refine (index_lives _).mono ?_; rintro e wl ⟨rfl, hbl⟩)
      go_ret
      exact ⟨rfl, hbl⟩
    · have d1 : decide (3000 < (s.size : Int)) = false := by simp; omega
      have HN : Hid (Calls Tryd.prog 9 #[.string s] w fun e w' => ∃ p, e = .returned (.pointer (some ⟨p, 0, none⟩)) ∧ Idx w.heap.size p s.data.toList w' ∧ KeepsI w.heap.size w w' ∧ w.heap.size ≤ p) :=
        index_New (B := w.heap.size) s.data.toList (w := w) (Nat.le_refl _) (by rw [data_len]; omega)
      go_wp2_with (go_at_call 9; refine HN.out.mono ?_; rintro e w2 ⟨p, rfl, hT, hK, hp⟩)
      have hBoth : Both7 w.heap.size p w2.heap.size s.data.toList 0 0 (w2.alloc (.cells #[.string s, .int .i64 0, .int .i64 0] 29)) :=
        ⟨hK.size, hT.below ((Below.refl _ w2).alloc (Nat.le_refl _) _), Blk.new w2 _ _⟩
      have hW : Below w.heap.size w (w2.alloc (.cells #[.string s, .int .i64 0, .int .i64 0] 29)) := hK.below.alloc hK.size _
      clear hT hp HN hK FEW
      generalize (w2.alloc (.cells #[.string s, .int .i64 0, .int .i64 0] 29)) = wo at hBoth hW ⊢
      generalize w2.heap.size = q at hBoth ⊢
      have hdl : s.data.toList.length = s.size := data_len s
      have hsz2 : s.size ≤ 3000 := by omega
      generalize s.data.toList = S0 at hBoth hdl
      have HB0 := Lib.hid hBoth
      clear hBoth
      go_loopw [9] (fun z wr => ∃ (k a st : Nat) (T : List UInt8), k ≤ ks.length ∧ z = .int .i64 k ∧ (Hid (Both7 w.heap.size p q T a st wr)) ∧ Below w.heap.size w wr ∧ T.length ≤ s.size + total (ks.take k) ∧ a ≤ total (ks.take k) ∧ st ≤ k) (fun z _ => ks.length - (intOf z).toNat)
      case atStart => exact ⟨0, 0, 0, S0, Nat.zero_le _, rfl, HB0, hW, by simp [total]; omega, by simp [total], Nat.le_refl _⟩
      case round =>
        obtain ⟨k, a, st, T, hk, rfl, hB, hR, hTl, hal, hst⟩ := hrel
        by_cases hlt : k < ks.length
        · obtain ⟨x, hkx⟩ : ∃ x, ks[k]? = some x := ⟨_, List.getElem?_eq_getElem hlt⟩
          obtain ⟨b, off, rfl, hbw, c0, c1, c2, c3⟩ := hx.at_ hR (Nat.le_refl _) hkx
          have htk := total_snoc hkx
          have htl : total (ks.take (k + 1)) ≤ total ks := total_take ks (k + 1)
          have D := Lib.hid (do7_ok hR.size hB.out x (by omega) (by omega) (by omega))
          clear hkx
          go_wp2_with (go_at_call 10; refine D.out.mono ?_; rintro e w3 ⟨T', a', st', rfl, hB', hb', l1, l2, l3⟩)
          go_roundw
          case rel => exact ⟨k + 1, a', st', T', by omega, by go_num, hB', hR.trans hb', by omega, by omega, by omega⟩
          case measure => simp [intOf]; omega
        · have htl : total (ks.take k) ≤ total ks := total_take ks k
          obtain ⟨X, hX⟩ : ∃ X, X = bs T := ⟨_, rfl⟩
          obtain ⟨_, hI, hRf⟩ := hB.out
          have S1 : Hid (∀ u, Below wr.heap.size wr u → Calls Tryd.prog 18 #[.pointer (some ⟨p, 0, none⟩), .int .i64 n] u fun e w' => e = .returned (.int .i64 (Ix.lineOf T n)) ∧ Below u.heap.size u w') := fun u hu => by
            have := index_Of (idx_sees (hI.below hu) (by omega)) (Ix.ends_sorted T) n
            rw [Ix.ofL_eq] at this
            exact this
          have S2 : Hid (∀ u, Calls Tryd.prog 19 #[.string X, .int .i64 n] u fun e w' => e = .returned (.int .i64 (Ix.lineOf T n)) ∧ Below u.heap.size u w') := fun u => by
            rw [hX]
            exact ref7_Of (bs T) n (by rw [bs_size]; omega) u
          have k9 := hRf.cell 0
          simp only [List.getElem?_toArray] at k9
          rw [← hX] at k9
          have k0 : wr.cell? ⟨q, 0, none⟩ = some (.string X) := k9
          clear k9
          have hql := Blk.lt hRf
          clear hX hTl hal hst htl hI hRf
          generalize Ix.lineOf T n = r at *
          go_wp2
          go_region_held3 (fun u => u.cell? ⟨q, 0, none⟩ = some (.string X)) (first | assumption | go_keep)
            (first
              | (go_at_call 18; refine (S1.out _ (by first | exact Below.refl _ _ | exact (Below.refl _ wr).drew)).mono ?_; rintro e w3 ⟨rfl, hb3⟩; have g3 : w3.cell? ⟨q, 0, none⟩ = some (.string X) := (hb3.cell (p := ⟨q, 0, none⟩) hql).trans k0; have hq3 : q < w3.heap.size := Nat.lt_of_lt_of_le hql hb3.size)
              | (go_at_call 19; refine (S2.out _).mono ?_; rintro e w4 ⟨rfl, hb4⟩; have g4 : w4.cell? ⟨q, 0, none⟩ = some (.string X) := (hb4.cell (p := ⟨q, 0, none⟩) hq3).trans g3; have hq4 : q < w4.heap.size := Nat.lt_of_lt_of_le hq3 hb4.size)
              | (go_at_call 8; refine (index_lives _).mono ?_; rintro e wl ⟨rfl, hbl⟩; have g5 : wl.cell? ⟨q, 0, none⟩ = some (.string X) := (hbl.cell (p := ⟨q, 0, none⟩) hq4).trans g4))
          all_goals
            go_wp2
            go_ret
            have s1 := hR.drew
            exact ⟨rfl, ((s1.trans (hb3.mono s1.size)).trans (hb4.mono (Nat.le_trans s1.size hb3.size))).trans (hbl.mono (Nat.le_trans (Nat.le_trans s1.size hb3.size) hb4.size))⟩
section
open Go.ChangeShapes Go.WideShapes Go.ChangeAt
open Go.ChangeMaps (open_string)
set_option maxRecDepth 100000 in
theorem indexOf_lifted (os : Os) (started : os.Started) (H : Type) (enc : TypeId × Value → H) :
    ReturnsInHanded {} Tryd.checked os 4 .any (fun w args => (Rows.indexOfSpec.pre enc Tryd.prog Tryd.f4 [] false w args ∧ laidMetH Tryd.prog Rows.indexOfRow.laid w) ∧ sizedMet enc Tryd.prog Tryd.f4 (OpenSpec.ofChange Rows.indexOfSpec) false w args) (Rows.indexOfSpec.post enc Tryd.prog Tryd.f4 false true false false) := by
  refine returnsInHanded_of_change_and (C := Tryd.checked) (X := fun w _ => laidMetH Tryd.prog Rows.indexOfRow.laid w) (fun _ _ _ hh h => h.of_heap hh) own_knob started (by kernel_rfl) Tryd.func4
    (ChangeSpec.witness_shaped (enc := enc) (C := Tryd.checked) (os := os) (X := fun w _ => laidMetH Tryd.prog Rows.indexOfRow.laid w) false (World.laidAll Tryd.prog os Rows.indexOfRow.laid) #[.string .empty, .slice none 0 0, .int .i64 0] 8 (World.laidAll_os _ _ _)
      (World.shaped_of_ZipB (by kernel_rfl) (by kernel_rfl)) (by kernel_rfl) (by kernel_rfl) (by kernel_rfl)
      (by rw [MakeChecks.laidMetH_plain _ _ _ (by kernel_rfl)]; exact laidMet_laidAll _ (by kernel_rfl) (by kernel_rfl))) ?_
  intro W base args ds gs before hval0 hW _ hsz0 _ _
  have hsz : (DataW.weightsEach Tryd.prog (Tryd.f4.params.toList ++ Rows.indexOfSpec.plain.varTypes Tryd.prog) (ds ++ gs)).all (· ≤ reachBytes) = true := hsz0
  clear hsz0
  have hval : ∀ (j : Nat) t v, Tryd.f4.params[j]? = some t → args[j]? = some v → Value.okWide Tryd.prog W .any base t v := hval0
  have hW' := hW
  obtain ⟨p, q, hA0, hV, rfl, hfz, hnd⟩ := hW
  have hA : DataW.TrodAll enc Tryd.prog W 0 (fun _ => true) true Tryd.f4.params.toList args.toList ds p := hA0
  rw [Tryd.params4] at hA hval hsz
  obtain ⟨v0, vs0, d0, ds0, p0, q0, hargs, rfl, rfl, h0, r0⟩ := trodAll_cons hA
  obtain ⟨v1, vs1, d1, ds1, p1, q1, rfl, rfl, rfl, h1, r1⟩ := trodAll_cons r0
  obtain ⟨v2, vs2, d2, ds2, p2, q2, rfl, rfl, rfl, h2, r2⟩ := trodAll_cons r1
  obtain ⟨rfl, rfl, rfl⟩ := trodAll_nil r2
  obtain rfl : args = #[v0, v1, v2] := by cases args; simp_all
  obtain ⟨rfl, rfl⟩ := trodVars_none hV
  obtain ⟨s0, rfl, rfl, rfl, hmax0⟩ := open_string Tryd.underlying9 (hval 0 9 v0 rfl rfl) h0
  have hs0 : s0.size ≤ 140737488351232 := by rw [← data_len]; exact sized_string hsz (j := 0) (t := 9) rfl rfl
  have hlt1 : ∀ x ∈ p1, x.block < W.heap.size := fun x hx => by simpa using hW'.lt x (by simp [hx])
  obtain ⟨A1, c1, xs1, rfl, hx1, hm1, hd1⟩ := open_steps (hval 1 22 v1 rfl rfl) h1 hlt1
  have he1 : ∀ k ∈ xs1, k.s.size ≤ 140737488351232 := fun k hk => by
    obtain ⟨e, sp, x, y, z, rfl, hin⟩ := hd1 k hk
    rw [← data_len]
    exact sized_step hsz (j := 1) rfl rfl hin
  obtain ⟨n2, rfl, rfl, rfl, wn2⟩ := open_int Tryd.underlying3 (hval 2 3 v2 rfl rfl) h2
  refine (indexOf_walk s0 n2 hx1 he1 hm1).mono fun e W' ⟨he, hb⟩ => ?_
  subst he
  exact ⟨_, rfl, law_post rfl rfl (by rw [Tryd.params4]; decide +kernel) ⟨rfl, rfl, rfl⟩ hW' hb⟩
theorem indexOf_row : Rows.IndexOfSaid :=
  OpenClaim.holds_of_wide 4 Tryd.f4 rfl rfl rfl rfl rfl rfl rfl ⟨rfl, rfl, rfl, rfl, rfl⟩ rfl rfl rfl rfl rfl (by kernel_rfl) Tryd.func4 (by kernel_rfl)
    (of_decide_eq_true (by kernel_rfl)) (by unfold Func.isWrapper; first | (rw [if_pos (by decide +kernel)]; kernel_rfl) | (rw [if_neg (by decide +kernel)]; exact ⟨rfl, rfl⟩))
    (fun os started H enc _ => indexOf_lifted os started H enc)
theorem indexOf_holds : Rows.IndexOfCardSaid :=
  Claim7.holds_tied_plain_at .later [] [.data, .pinned] true (true, _) false indexOf_row (fun _ h => by cases h) (by kernel_rfl) (fun _ h => by cases h) indexOf_row_tie rfl ⟨rfl, rfl⟩ (by kernel_rfl) rfl
    (fun f fn hf hfn => by
      obtain rfl : f = 4 := Option.some.inj ((show Tryd.prog.funcNamed "calamus/calamuslaw07.IndexOf" = some 4 by kernel_rfl).symm.trans hf) |>.symm
      obtain rfl : fn = Tryd.f4 := (Option.some.inj (Tryd.func4.symm.trans hfn)).symm
      exact ⟨by kernel_rfl, fun j t ht => by
        rw [Tryd.params4] at ht
        have hm := Array.mem_of_getElem? ht
        have hall : (#[9, 22, 3].toList.all fun u => !Tryd.prog.wantsStandIn u) = true := by kernel_rfl
        exact (show Tryd.prog.wantsStandIn t = false by simpa using List.all_eq_true.1 hall t (by simpa using hm))⟩)
    (by kernel_rfl)
end
end Go.Proofs.YtgjppkkifclanaaDoor
