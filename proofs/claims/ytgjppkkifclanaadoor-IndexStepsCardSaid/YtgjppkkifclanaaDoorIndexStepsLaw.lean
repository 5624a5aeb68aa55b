/-
  The law IndexSteps: behind any steps all lines, where each begins and ends, how many bytes there are, and the errors, are what the document tells.
-/
import Derived.Test.YtgjppkkifclanaaDoorIndexDo
import Derived.Test.YtgjppkkifclanaaDoorIndexRef
import Derived.Test.YtgjppkkifclanaaDoorFrame
import Derived.Test.YtgjppkkifclanaaDoorCards
import Derived.Test.YtgjppkkifclanaaDoorTie
import Derived.Lay
import Derived.Handed
import Derived.LaidLaws
import Derived.SevenTiedAt
import Derived.MakeChecks
import Derived.Deep.RegionHeld3
import Derived.Deep.RegionWith
import Derived.Deep.LoopGhost
import Derived.Deep.Cut
import Derived.Deep.CutRange
namespace Go.Proofs.YtgjppkkifclanaaDoor
open Go.RowKit
open Pc
/-- What both tell of all bytes. -/
theorem both7_tells {B p q : Nat} {T : List UInt8} {a st : Nat} {w : World} (h : Both7 B p q T a st w) (hl : T.length ≤ 100000000000) :
    ∃ (X : ByteArray) (m : Nat), Hid (∀ u, Below w.heap.size w u → Calls Tryd.prog 11 #[.pointer (some ⟨p, 0, none⟩)] u fun e w' => e = .returned (.int .i64 X.size) ∧ Below u.heap.size u w') ∧
      Hid (∀ u, Below w.heap.size w u → Calls Tryd.prog 12 #[.pointer (some ⟨p, 0, none⟩)] u fun e w' => e = .returned (.int .i64 m) ∧ Below u.heap.size u w') ∧
      Hid (∀ u, Calls Tryd.prog 13 #[.string X] u fun e w' => e = .returned (.int .i64 m) ∧ Below u.heap.size u w') ∧
      Hid (∀ u, Below w.heap.size w u → u.cell? ⟨q, 0, none⟩ = some (.string X)) := by
  obtain ⟨_, hI, hR⟩ := h
  refine ⟨bs T, (Ix.ends T).length, fun u hu => ?_, fun u hu => index_Lines (idx_sees (hI.below hu) (by omega)), fun u => ref7_Lines (bs T) (by rw [bs_size]; omega) u, fun u hu => ?_⟩
  · have := index_Len (idx_sees (hI.below hu) (by omega))
    rw [Ix.getD_of (Ix.ends_last T)] at this
    rw [bs_size]
    exact this
  · have k0 := (Blk.below hR hu (Blk.lt hR)).cell 0
    simp only [List.getElem?_toArray] at k0
    exact k0
/-- What both tell of each line. -/
theorem both7_lines {B p q : Nat} {T : List UInt8} {a st : Nat} {w : World} (h : Both7 B p q T a st w) (hl : T.length ≤ 100000000000) :
    ∃ (X : ByteArray) (m : Nat) (S E : Int → Int), m ≤ 200000000000 ∧ Hid (∀ (j : Int) u, Below w.heap.size w u → Calls Tryd.prog 14 #[.pointer (some ⟨p, 0, none⟩), .int .i64 j] u fun e w' => e = .returned (.int .i64 (S j)) ∧ Below u.heap.size u w') ∧
      Hid (∀ (j : Int) u, Below w.heap.size w u → Calls Tryd.prog 16 #[.pointer (some ⟨p, 0, none⟩), .int .i64 j] u fun e w' => e = .returned (.int .i64 (E j)) ∧ Below u.heap.size u w') ∧
      Hid (∀ u, Calls Tryd.prog 13 #[.string X] u fun e w' => e = .returned (.int .i64 m) ∧ Below u.heap.size u w') ∧
      Hid (∀ (j : Int) u, Calls Tryd.prog 15 #[.string X, .int .i64 j] u fun e w' => e = .returned (.int .i64 (S j)) ∧ Below u.heap.size u w') ∧
      Hid (∀ (j : Int) u, Calls Tryd.prog 17 #[.string X, .int .i64 j] u fun e w' => e = .returned (.int .i64 (E j)) ∧ Below u.heap.size u w') ∧
      Hid (∀ u, Below w.heap.size w u → u.cell? ⟨q, 0, none⟩ = some (.string X)) := by
  obtain ⟨_, hI, hR⟩ := h
  have hb : (bs T).size ≤ 1000000000000 := by rw [bs_size]; omega
  refine ⟨bs T, (Ix.ends T).length, Ix.startOf T, Ix.endOf T, by have := Ix.ends_le T; omega, fun j u hu => ?_, fun j u hu => ?_, fun u => ref7_Lines (bs T) hb u, fun j u => ref7_Start (bs T) j hb u, fun j u => ref7_End (bs T) j hb u, fun u hu => ?_⟩
  · have := index_Start (idx_sees (hI.below hu) (by omega)) j
    rw [Ix.startL_eq] at this
    exact this
  · have := index_End (idx_sees (hI.below hu) (by omega)) j
    rw [Ix.endL_eq] at this
    exact this
  · have k0 := (Blk.below hR hu (Blk.lt hR)).cell 0
    simp only [List.getElem?_toArray] at k0
    exact k0
set_option maxHeartbeats 20000000 in
set_option maxRecDepth 100000 in
theorem indexSteps_walk (s : ByteArray) {A : Option Addr} {c : Nat} {ks : List Step} (n : Int) {w : World} (hx : Steps w A ks) (hs : ∀ k ∈ ks, k.s.size ≤ 140737488351232) (hm : ks.length ≤ maxLen) :
    Calls Tryd.prog 3 #[.string s, .slice A ks.length c, .int .i64 n] w fun e w' => e = .returned (.bool true) ∧ Below w.heap.size w w' := by
  have FEW := Lib.hid (few7_ok (c := c) hx hs hm)
  have hm2 : ks.length ≤ 9223372036854775807 := by unfold maxLen at hm; exact hm
  clear hs hm
  go_enter Tryd.func3, Tryd.ntmps3
  go_wp2_with fail
  refine FEW.out.mono ?_
  rintro e w1 ⟨b, rfl, rfl, hb⟩
  cases b with
  | false =>
    clear hb
    go_wp2_with (go_at_call 8; refine (index_lives _).mono ?_; rintro e wl ⟨rfl, hbl⟩)
    go_ret
    exact ⟨rfl, hbl⟩
  | true =>
    obtain ⟨h100, htot⟩ := hb rfl
    clear hb
    by_cases hbig : 3000 < s.size
    · have d1 : decide (3000 < (s.size : Int)) = true := by simp; omega
      go_wp2_with (go_at_call 8; refine (index_lives _).mono ?_; rintro e wl ⟨rfl, hbl⟩)
      go_ret
      exact ⟨rfl, hbl⟩
    · have d1 : decide (3000 < (s.size : Int)) = false := by simp; omega
      have HN : Hid (Calls Tryd.prog 9 #[.string s] w fun e w' => ∃ p, e = .returned (.pointer (some ⟨p, 0, none⟩)) ∧ Idx w.heap.size p s.data.toList w' ∧ KeepsI w.heap.size w w' ∧ w.heap.size ≤ p) :=
        index_New (B := w.heap.size) s.data.toList (w := w) (Nat.le_refl _) (by rw [data_len]; omega)
      go_wp2_with (go_at_call 9; refine HN.out.mono ?_; rintro e w2 ⟨p, rfl, hT, hK, hp⟩)
      have hBoth : Both7 w.heap.size p w2.heap.size s.data.toList 0 0 (w2.alloc (.cells #[.string s, .int .i64 0, .int .i64 0] 29)) :=
        ⟨hK.size, hT.below ((Below.refl _ w2).alloc (Nat.le_refl _) _), Blk.new w2 _ _⟩
      have hW : Below w.heap.size w (w2.alloc (.cells #[.string s, .int .i64 0, .int .i64 0] 29)) := hK.below.alloc hK.size _
      clear hT hp HN hK FEW
      generalize (w2.alloc (.cells #[.string s, .int .i64 0, .int .i64 0] 29)) = wo at hBoth hW ⊢
      generalize w2.heap.size = q at hBoth ⊢
      have hdl : s.data.toList.length = s.size := data_len s
      have hsz2 : s.size ≤ 3000 := by omega
      generalize s.data.toList = S0 at hBoth hdl
      have HB0 := Lib.hid hBoth
      clear hBoth
      go_loopg [9] ks.length (fun g z wr => ∃ (k a st : Nat) (T : List UInt8), g + k = ks.length ∧ z = .int .i64 k ∧ (Hid (Both7 w.heap.size p q T a st wr)) ∧ Below w.heap.size w wr ∧ T.length ≤ s.size + total (ks.take k) ∧ a ≤ total (ks.take k) ∧ st ≤ k)
      case atStart => exact ⟨0, 0, 0, S0, rfl, rfl, HB0, hW, by simp [total]; omega, by simp [total], Nat.le_refl _⟩
      case round =>
        obtain ⟨k, a, st, T, hk, rfl, hB, hR, hTl, hal, hst⟩ := hrel
        by_cases hlt : k < ks.length
        · have d2 : decide ((k : Int) < (ks.length : Int)) = true := by simp; omega
          obtain ⟨x, hkx⟩ : ∃ x, ks[k]? = some x := ⟨_, List.getElem?_eq_getElem hlt⟩
          obtain ⟨b, off, rfl, hbw, c0, c1, c2, c3⟩ := hx.at_ hR (Nat.le_refl _) hkx
          have htk := total_snoc hkx
          have htl : total (ks.take (k + 1)) ≤ total ks := total_take ks (k + 1)
          have D := Lib.hid (do7_ok (w := wr.drew) hR.size (hB.out.below (Below.refl _ _).drew) x (by omega) (by omega) (by omega))
          have TELL : Hid (∀ T' a' st' u, Hid (Both7 w.heap.size p q T' a' st' u) → T'.length ≤ T.length + x.s.size → _) := fun T' a' st' u h1 h2 => both7_tells h1.out (by omega)
          have HL : Hid (T.length ≤ s.size + total (ks.take k) ∧ a ≤ total (ks.take k) ∧ st ≤ k ∧ total (ks.take (k + 1)) = total (ks.take k) + x.s.size) := ⟨hTl, hal, hst, htk⟩
          have HR := Lib.hid hR
          clear hkx hTl hal hst htk htl hB hR HB0 hW hbig hsz2 h100 htot hdl
          go_upto_region 10 with fail
          go_cut [60] from 27 to 60 (fun v u => v = .bool false ∧ ∃ T' a' st', Hid (Both7 w.heap.size p q T' a' st' u) ∧ Below w.heap.size wr u ∧ T'.length ≤ T.length + x.s.size ∧ a' ≤ a + x.s.size ∧ st' ≤ st + 1)
          case first =>
            clear HL hx
            go_region_with (first
              | (go_at_call 10; refine D.out.mono ?_; rintro e w3 ⟨T', a', st', rfl, hB', hb', l1, l2, l3⟩; obtain ⟨X, m, LC, NC, RC, CC⟩ := TELL.out T' a' st' w3 hB' l1; have k0 := CC.out w3 (Below.refl _ _); clear c0 c1 c2 c3 D TELL)
              | (go_at_call 11; refine (LC.out _ (Below.refl _ _)).mono ?_; rintro e w4 ⟨rfl, hb4⟩; have k04 := CC.out w4 hb4; clear LC k0)
              | (go_at_call 12; refine (NC.out _ hb4).mono ?_; rintro e w5 ⟨rfl, hb5⟩; have hc5 := hb4.trans (hb5.mono hb4.size); have k05 := CC.out w5 hc5; clear NC k04)
              | (go_at_call 13; refine (RC.out _).mono ?_; rintro e w6 ⟨rfl, hb6⟩; have hc6 := hc5.trans (hb6.mono hc5.size); clear RC))
            all_goals (try go_wp2_with fail)
            all_goals go_meet
            all_goals exact ⟨rfl, T', a', st', hB'.out.below hc6, ((Below.refl _ wr).drew.trans hb').trans (hc6.mono (Nat.le_trans HR.out.size hb'.size)), l1, l2, l3⟩
          case rest =>
            obtain ⟨rfl, T', a', st', hB', hb', l1, l2, l3⟩ := hcut
            go_wp2
            go_roundg (ks.length - (k + 1))
            case measure => omega
            case rel =>
              obtain ⟨m1, m2, m3, m4⟩ := HL.out
              exact ⟨k + 1, a', st', T', by omega, by go_num, hB', HR.out.trans hb', by omega, by omega, by omega⟩
        · have d2 : decide ((k : Int) < (ks.length : Int)) = false := by simp; omega
          have htl : total (ks.take k) ≤ total ks := total_take ks k
          obtain ⟨X, m, S, E, hm, SC, EC, RL, RS, RE, CC⟩ := both7_lines hB.out (by omega)
          have HR := Lib.hid hR
          clear hTl hal hst htl hB HB0 hW hbig hsz2 h100 htot hdl hx hR
          go_wp2
          go_loopg [10] m (fun g z wr2 => ∃ i : Nat, g + i = m ∧ z = .int .i64 i ∧ Below wr.heap.size wr wr2)
          case atStart => exact ⟨0, rfl, rfl, Below.refl _ _⟩
          case round =>
            obtain ⟨i, hi, rfl, hb2⟩ := hrel
            have k2 := CC.out _ hb2
            rcases Nat.lt_or_ge i m with hlt | hge
            · have d3 : decide ((i : Int) < (m : Int)) = true := by simp; omega
              go_upto_region 15 with (go_at_call 13; refine (RL.out _).mono ?_; rintro e w3 ⟨rfl, hb3⟩; have hc3 := hb2.trans (hb3.mono hb2.size); have k3 := CC.out _ hc3)
              go_region_held3 (fun u => u.cell? ⟨q, 0, none⟩ = some (.string X)) (first | assumption | go_keep)
                (first
                  | (go_at_call 14; refine (SC.out _ _ (by (first | exact hc3 | exact hc3.drew))).mono ?_; rintro e v1 ⟨rfl, vb1⟩; have vc1 := hc3.drew.trans (vb1.mono hc3.size); have vg1 := CC.out _ vc1)
                  | (go_at_call 15; refine (RS.out _ _).mono ?_; rintro e v2 ⟨rfl, vb2⟩; have vc2 := vc1.trans (vb2.mono vc1.size); have vg2 := CC.out _ vc2)
                  | (go_at_call 16; refine (EC.out _ _ vc2).mono ?_; rintro e v3 ⟨rfl, vb3⟩; have vc3 := vc2.trans (vb3.mono vc2.size); have vg3 := CC.out _ vc3)
                  | (go_at_call 17; refine (RE.out _ _).mono ?_; rintro e v4 ⟨rfl, vb4⟩; have vc4 := vc3.trans (vb4.mono vc3.size); have vg4 := CC.out _ vc4))
              all_goals
                go_wp2
                go_roundg (m - (i + 1))
                case measure => omega
                case rel => exact ⟨i + 1, by omega, by go_num, vc4⟩
            · have d3 : decide ((i : Int) < (m : Int)) = false := by simp; omega
              go_upto_region 17 with (go_at_call 13; refine (RL.out _).mono ?_; rintro e w3 ⟨rfl, hb3⟩; have hc3 := hb2.trans (hb3.mono hb2.size); have k3 := CC.out _ hc3)
              go_region_held3 (fun u => u.cell? ⟨q, 0, none⟩ = some (.string X)) (first | assumption | go_keep)
                (first
                  | (go_at_call 14; refine (SC.out _ _ (by (first | exact hc3 | exact hc3.drew))).mono ?_; rintro e y1 ⟨rfl, yb1⟩; have yc1 := hc3.drew.trans (yb1.mono hc3.size); have yg1 := CC.out _ yc1)
                  | (go_at_call 15; refine (RS.out _ _).mono ?_; rintro e y2 ⟨rfl, yb2⟩; have yc2 := yc1.trans (yb2.mono yc1.size); have yg2 := CC.out _ yc2)
                  | (go_at_call 16; refine (EC.out _ _ yc2).mono ?_; rintro e y3 ⟨rfl, yb3⟩; have yc3 := yc2.trans (yb3.mono yc2.size); have yg3 := CC.out _ yc3)
                  | (go_at_call 17; refine (RE.out _ _).mono ?_; rintro e y4 ⟨rfl, yb4⟩; have yc4 := yc3.trans (yb4.mono yc3.size); have yg4 := CC.out _ yc4)
                  | (go_at_call 8; refine (index_lives _).mono ?_; rintro e wl ⟨rfl, hbl⟩; have hcl := yc4.trans (hbl.mono yc4.size); have gl := CC.out _ hcl))
              all_goals
                go_wp2
                go_ret
                exact ⟨rfl, HR.out.trans (hcl.mono HR.out.size)⟩
section
open Go.ChangeShapes Go.WideShapes Go.ChangeAt
open Go.ChangeMaps (open_string)
set_option maxRecDepth 100000 in
theorem indexSteps_lifted (os : Os) (started : os.Started) (H : Type) (enc : TypeId × Value → H) :
    ReturnsInHanded {} Tryd.checked os 3 .any (fun w args => (Rows.indexStepsSpec.pre enc Tryd.prog Tryd.f3 [] false w args ∧ laidMetH Tryd.prog Rows.indexStepsRow.laid w) ∧ sizedMet enc Tryd.prog Tryd.f3 (OpenSpec.ofChange Rows.indexStepsSpec) false w args) (Rows.indexStepsSpec.post enc Tryd.prog Tryd.f3 false true false false) := by
  refine returnsInHanded_of_change_and (C := Tryd.checked) (X := fun w _ => laidMetH Tryd.prog Rows.indexStepsRow.laid w) (fun _ _ _ hh h => h.of_heap hh) own_knob started (by kernel_rfl) Tryd.func3
    (ChangeSpec.witness_shaped (enc := enc) (C := Tryd.checked) (os := os) (X := fun w _ => laidMetH Tryd.prog Rows.indexStepsRow.laid w) false (World.laidAll Tryd.prog os Rows.indexStepsRow.laid) #[.string .empty, .slice none 0 0, .int .i64 0] 8 (World.laidAll_os _ _ _)
      (World.shaped_of_ZipB (by kernel_rfl) (by kernel_rfl)) (by kernel_rfl) (by kernel_rfl) (by kernel_rfl)
      (by rw [MakeChecks.laidMetH_plain _ _ _ (by kernel_rfl)]; exact laidMet_laidAll _ (by kernel_rfl) (by kernel_rfl))) ?_
  intro W base args ds gs before hval0 hW _ hsz0 _ _
  have hsz : (DataW.weightsEach Tryd.prog (Tryd.f3.params.toList ++ Rows.indexStepsSpec.plain.varTypes Tryd.prog) (ds ++ gs)).all (· ≤ reachBytes) = true := hsz0
  clear hsz0
  have hval : ∀ (j : Nat) t v, Tryd.f3.params[j]? = some t → args[j]? = some v → Value.okWide Tryd.prog W .any base t v := hval0
  have hW' := hW
  obtain ⟨p, q, hA0, hV, rfl, hfz, hnd⟩ := hW
  have hA : DataW.TrodAll enc Tryd.prog W 0 (fun _ => true) true Tryd.f3.params.toList args.toList ds p := hA0
  rw [Tryd.params3] at hA hval hsz
  obtain ⟨v0, vs0, d0, ds0, p0, q0, hargs, rfl, rfl, h0, r0⟩ := trodAll_cons hA
  obtain ⟨v1, vs1, d1, ds1, p1, q1, rfl, rfl, rfl, h1, r1⟩ := trodAll_cons r0
  obtain ⟨v2, vs2, d2, ds2, p2, q2, rfl, rfl, rfl, h2, r2⟩ := trodAll_cons r1
  obtain ⟨rfl, rfl, rfl⟩ := trodAll_nil r2
  obtain rfl : args = #[v0, v1, v2] := by cases args; simp_all
  obtain ⟨rfl, rfl⟩ := trodVars_none hV
  obtain ⟨s0, rfl, rfl, rfl, hmax0⟩ := open_string Tryd.underlying9 (hval 0 9 v0 rfl rfl) h0
  have hs0 : s0.size ≤ 140737488351232 := by rw [← data_len]; exact sized_string hsz (j := 0) (t := 9) rfl rfl
  have hlt1 : ∀ x ∈ p1, x.block < W.heap.size := fun x hx => by simpa using hW'.lt x (by simp [hx])
  obtain ⟨A1, c1, xs1, rfl, hx1, hm1, hd1⟩ := open_steps (hval 1 22 v1 rfl rfl) h1 hlt1
  have he1 : ∀ k ∈ xs1, k.s.size ≤ 140737488351232 := fun k hk => by
    obtain ⟨e, sp, x, y, z, rfl, hin⟩ := hd1 k hk
    rw [← data_len]
    exact sized_step hsz (j := 1) rfl rfl hin
  obtain ⟨n2, rfl, rfl, rfl, wn2⟩ := open_int Tryd.underlying3 (hval 2 3 v2 rfl rfl) h2
  refine (indexSteps_walk s0 n2 hx1 he1 hm1).mono fun e W' ⟨he, hb⟩ => ?_
  subst he
  exact ⟨_, rfl, law_post rfl rfl (by rw [Tryd.params3]; decide +kernel) ⟨rfl, rfl, rfl⟩ hW' hb⟩
theorem indexSteps_row : Rows.IndexStepsSaid :=
  OpenClaim.holds_of_wide 3 Tryd.f3 rfl rfl rfl rfl rfl rfl rfl ⟨rfl, rfl, rfl, rfl, rfl⟩ rfl rfl rfl rfl rfl (by kernel_rfl) Tryd.func3 (by kernel_rfl)
    (of_decide_eq_true (by kernel_rfl)) (by unfold Func.isWrapper; first | (rw [if_pos (by decide +kernel)]; kernel_rfl) | (rw [if_neg (by decide +kernel)]; exact ⟨rfl, rfl⟩))
    (fun os started H enc _ => indexSteps_lifted os started H enc)
theorem indexSteps_holds : Rows.IndexStepsCardSaid :=
  Claim7.holds_tied_plain_at .later [] [.data, .pinned] true (true, _) false indexSteps_row (fun _ h => by cases h) (by kernel_rfl) (fun _ h => by cases h) indexSteps_row_tie rfl ⟨rfl, rfl⟩ (by kernel_rfl) rfl
    (fun f fn hf hfn => by
      obtain rfl : f = 3 := Option.some.inj ((show Tryd.prog.funcNamed "calamus/calamuslaw07.IndexSteps" = some 3 by kernel_rfl).symm.trans hf) |>.symm
      obtain rfl : fn = Tryd.f3 := (Option.some.inj (Tryd.func3.symm.trans hfn)).symm
      exact ⟨by kernel_rfl, fun j t ht => by
        rw [Tryd.params3] at ht
        have hm := Array.mem_of_getElem? ht
        have hall : (#[9, 22, 3].toList.all fun u => !Tryd.prog.wantsStandIn u) = true := by kernel_rfl
        exact (show Tryd.prog.wantsStandIn t = false by simpa using List.all_eq_true.1 hall t (by simpa using hm))⟩)
    (by kernel_rfl)
end
end Go.Proofs.YtgjppkkifclanaaDoor
