/-
  'calamuslaw06.PieceSteps' answers true for every text and every list of steps: behind any steps all bytes, how many there are, how many were put in, and the errors, are what the document tells.
-/
import Derived.Test.YtjmedlnboofgdaaDo
import Derived.Test.YtjmedlnboofgdaaFrame
import Derived.Deep.RegionWith
import Derived.Deep.LoopGhost
import Derived.Deep.Cut
import Derived.Deep.CutRange
namespace Go.Proofs.Ytjmedlnboofgdaa
open Go.RowKit
open Pc
/-- What both tables tell. -/
theorem both_tells {B p q : Nat} {T : List UInt8} {a st : Nat} {w : World} (h : Both B p q T a st w) (hl : T.length ≤ 140737488355328) (hst : st ≤ 1000) :
    ∃ X : ByteArray, Hid (∀ u, Below w.heap.size w u → Calls Try.prog 8 #[.pointer (some ⟨p, 0, none⟩)] u fun e w' => e = .returned (.string X) ∧ Below u.heap.size u w') ∧
      Hid (∀ u, Below w.heap.size w u → Calls Try.prog 9 #[.pointer (some ⟨p, 0, none⟩)] u fun e w' => e = .returned (.int .i64 X.size) ∧ u = w') ∧
      Hid (∀ u, Below w.heap.size w u → Calls Try.prog 10 #[.pointer (some ⟨p, 0, none⟩)] u fun e w' => e = .returned (.int .i64 a) ∧ u = w') ∧
      Hid (∀ u, Below w.heap.size w u → u.cell? ⟨q, 0, none⟩ = some (.string X) ∧ u.cell? ⟨q, 1, none⟩ = some (.int .i64 a)) := by
  obtain ⟨_, ⟨ps, rfl, hpl, hT⟩, hR⟩ := h
  refine ⟨bs ps.flatten, fun u hu => tab_string (hT.below hu).shown hl (by omega), fun u hu => ?_, fun u hu => tab_added (hT.below hu), fun u hu => ?_⟩
  · obtain ⟨_, _, _, _, hT1⟩ := hT.below hu
    rw [bs_size]
    exact (tab_looks hT1.self).len u (Below.refl _ _)
  · have hR1 : Ref q ps.flatten a st u := Blk.below hR hu (Blk.lt hR)
    have k0 := hR1.cell 0
    have k1 := hR1.cell 1
    simp only [List.getElem?_toArray] at k0 k1
    exact ⟨k0, k1⟩
set_option maxHeartbeats 20000000 in
set_option maxRecDepth 100000 in
theorem pieceSteps_walk (s : ByteArray) {A : Option Addr} {c : Nat} {ks : List Step} {w : World} (hx : Steps w A ks) (hs : ∀ k ∈ ks, k.s.size ≤ 140737488351232) (hm : ks.length ≤ maxLen) (hsz : s.size ≤ 140737488351232) :
    Calls Try.prog 3 #[.string s, .slice A ks.length c] w fun e w' => e = .returned (.bool true) ∧ Below w.heap.size w w' := by
  have FEW := Lib.hid (few_ok (c := c) hx hs hm)
  have hm2 : ks.length ≤ 9223372036854775807 := by unfold maxLen at hm; exact hm
  clear hs hm
  go_enter Try.func3, Try.ntmps3
  go_wp2_with fail
  refine FEW.out.mono ?_
  rintro e w1 ⟨b, rfl, rfl, hb⟩
  cases b with
  | false =>
    clear hb
    go_wp2_with (go_at_call 5; refine (piece_lives _).mono ?_; rintro e w2 ⟨rfl, hb2⟩)
    go_ret
    exact ⟨rfl, hb2⟩
  | true =>
    obtain ⟨h200, htot⟩ := hb rfl
    clear hb
    by_cases hbig : 20000 < s.size
    · have d1 : decide (20000 < (s.size : Int)) = true := by simp; omega
      go_wp2_with (go_at_call 5; refine (piece_lives _).mono ?_; rintro e w2 ⟨rfl, hb2⟩)
      go_ret
      exact ⟨rfl, hb2⟩
    · have d1 : decide (20000 < (s.size : Int)) = false := by simp; omega
      have HN := Lib.hid (pc_new (B := w.heap.size) s (w := w) (Nat.le_refl _))
      go_wp2_with (go_at_call 6; refine HN.out.mono ?_; rintro e w2 ⟨p, rfl, hT, hK, hp⟩)
      have hBoth : Both w.heap.size p w2.heap.size s.data.toList 0 0 (w2.alloc (.cells #[.string s, .int .i64 0, .int .i64 0] 29)) :=
        ⟨hK.size, ⟨_, one_flat _, one_le _, hT.below ((Below.refl _ w2).alloc (Nat.le_refl _) _)⟩, Blk.new w2 _ _⟩
      have hW : Below w.heap.size w (w2.alloc (.cells #[.string s, .int .i64 0, .int .i64 0] 29)) := hK.below.alloc hK.size _
      clear hT hp HN hK FEW
      generalize (w2.alloc (.cells #[.string s, .int .i64 0, .int .i64 0] 29)) = wo at hBoth hW ⊢
      generalize w2.heap.size = q at hBoth ⊢
      have hdl : s.data.toList.length = s.size := data_len s
      have hsz2 : s.size ≤ 20000 := by omega
      generalize s.data.toList = S0 at hBoth hdl
      have HB0 := Lib.hid hBoth
      clear hBoth
      go_loopg [7] ks.length (fun g z wr => ∃ (k a st : Nat) (T : List UInt8), g + k = ks.length ∧ z = .int .i64 k ∧ (Hid (Both w.heap.size p q T a st wr)) ∧ Below w.heap.size w wr ∧ T.length ≤ s.size + total (ks.take k) ∧ a ≤ total (ks.take k) ∧ st ≤ k)
      case atStart => exact ⟨0, 0, 0, S0, rfl, rfl, HB0, hW, by simp [total]; omega, by simp [total], Nat.le_refl _⟩
      case round =>
        obtain ⟨k, a, st, T, hk, rfl, hB, hR, hTl, hal, hst⟩ := hrel
        by_cases hlt : k < ks.length
        · have d2 : decide ((k : Int) < (ks.length : Int)) = true := by simp; omega
          obtain ⟨x, hkx⟩ : ∃ x, ks[k]? = some x := ⟨_, List.getElem?_eq_getElem hlt⟩
          obtain ⟨b, off, rfl, hbw, c0, c1, c2, c3⟩ := hx.at_ hR (Nat.le_refl _) hkx
          have htk := total_snoc hkx
          have htl : total (ks.take (k + 1)) ≤ total ks := total_take ks (k + 1)
          have D := Lib.hid (do_ok (w := wr.drew) hR.size (hB.out.below (Below.refl _ _).drew) x (by omega) (by omega) (by omega))
          have TELL : Hid (∀ T' a' st' u, Hid (Both w.heap.size p q T' a' st' u) → T'.length ≤ T.length + x.s.size → st' ≤ st + 1 → _) := fun T' a' st' u h1 h2 h3 => both_tells h1.out (by omega) (by omega)
          have HL : Hid (T.length ≤ s.size + total (ks.take k) ∧ a ≤ total (ks.take k) ∧ st ≤ k ∧ total (ks.take (k + 1)) = total (ks.take k) + x.s.size) := ⟨hTl, hal, hst, htk⟩
          have HR := Lib.hid hR
          clear hkx hTl hal hst htk htl hB hR HB0 hW hbig hsz2 hsz h200 htot hdl
          go_upto_region 10 with fail
          go_cut [65] from 24 to 65 (fun v u => v = .bool false ∧ ∃ T' a' st', Hid (Both w.heap.size p q T' a' st' u) ∧ Below w.heap.size wr u ∧ T'.length ≤ T.length + x.s.size ∧ a' ≤ a + x.s.size ∧ st' ≤ st + 1)
          case first =>
            clear HL hx
            rename_i z1 z2 z3 z4 z5 z6 z7 z8 z9 z10 z11 z12 z13 z14 z15
            clear z3 z6 z7 z9 z11
            go_region_with (first
              | (go_at_call 7; refine D.out.mono ?_; rintro e w3 ⟨T', a', st', rfl, hB', hb', l1, l2, l3⟩; obtain ⟨X, SC, LC, AC, CC⟩ := TELL.out T' a' st' w3 hB' l1 l3; obtain ⟨k0, k1⟩ := CC.out w3 (Below.refl _ _); clear c0 c1 c2 c3 D TELL)
              | (go_at_call 8; refine (SC.out _ (Below.refl _ _)).mono ?_; rintro e w4 ⟨rfl, hb4⟩; obtain ⟨k04, k14⟩ := CC.out w4 hb4; clear SC k0 k1)
              | (go_at_call 9; refine (LC.out _ hb4).mono ?_; rintro e w5 ⟨rfl, rfl⟩)
              | (go_at_call 10; refine (AC.out _ hb4).mono ?_; rintro e w5 ⟨rfl, rfl⟩))
            all_goals (try go_wp2_with fail)
            all_goals go_meet
            all_goals exact ⟨rfl, T', a', st', hB'.out.below hb4, ((Below.refl _ wr).drew.trans hb').trans (hb4.mono (Nat.le_trans HR.out.size hb'.size)), l1, l2, l3⟩
          case rest =>
            obtain ⟨rfl, T', a', st', hB', hb', l1, l2, l3⟩ := hcut
            go_wp2
            go_roundg (ks.length - (k + 1))
            case measure => omega
            case rel =>
              obtain ⟨m1, m2, m3, m4⟩ := HL.out
              exact ⟨k + 1, a', st', T', by omega, by go_num, hB', HR.out.trans hb', by omega, by omega, by omega⟩
        · have d2 : decide ((k : Int) < (ks.length : Int)) = false := by simp; omega
          go_wp2_with (go_at_call 5; refine (piece_lives _).mono ?_; rintro e w3 ⟨rfl, hb3⟩)
          go_ret
          exact ⟨rfl, hR.trans (hb3.mono hR.size)⟩
section
open Go.ChangeShapes Go.WideShapes Go.ChangeAt
open Go.ChangeMaps (open_string)
set_option maxRecDepth 100000 in
theorem pieceSteps_lifted (os : Os) (started : os.Started) (H : Type) (enc : TypeId × Value → H) :
    ReturnsInHanded {} Try.checked os 3 .any (Rows.pieceStepsSpec.pre6 enc Try.prog Try.f3 Rows.pieceStepsRow.domain false) (Rows.pieceStepsSpec.post enc Try.prog Try.f3 false true false false) := by
  refine returnsInHanded_of_change_sized (C := Try.checked) own_knob started (by kernel_rfl) Try.func3
    (ChangeSpec.witness6 (enc := enc) (C := Try.checked) false ⟨#[], #[.string .empty, .slice none 0 0], []⟩ 8 (by kernel_rfl) (by kernel_rfl) (by kernel_rfl) (by kernel_rfl)) ?_
  intro W base args ds gs before hval0 hW _ hsz0 _
  have hsz : (DataW.weightsEach Try.prog (Try.f3.params.toList ++ Rows.pieceStepsSpec.plain.varTypes Try.prog) (ds ++ gs)).all (· ≤ reachBytes) = true := hsz0
  clear hsz0
  have hval : ∀ (j : Nat) t v, Try.f3.params[j]? = some t → args[j]? = some v → Value.okWide Try.prog W .any base t v := hval0
  have hW' := hW
  obtain ⟨p, q, hA0, hV, rfl, hfz, hnd⟩ := hW
  have hA : DataW.TrodAll enc Try.prog W 0 (fun _ => true) true Try.f3.params.toList args.toList ds p := hA0
  rw [Try.params3] at hA hval hsz
  obtain ⟨v0, vs0, d0, ds0, p0, q0, hargs, rfl, rfl, h0, r0⟩ := trodAll_cons hA
  obtain ⟨v1, vs1, d1, ds1, p1, q1, rfl, rfl, rfl, h1, r1⟩ := trodAll_cons r0
  obtain ⟨rfl, rfl, rfl⟩ := trodAll_nil r1
  obtain rfl : args = #[v0, v1] := by cases args; simp_all
  obtain ⟨rfl, rfl⟩ := trodVars_none hV
  obtain ⟨s0, rfl, rfl, rfl, hmax0⟩ := open_string Try.underlying9 (hval 0 9 v0 rfl rfl) h0
  have hs0 : s0.size ≤ 140737488351232 := by rw [← data_len]; exact sized_string hsz (j := 0) (t := 9) rfl rfl
  have hlt1 : ∀ x ∈ p1, x.block < W.heap.size := fun x hx => by simpa using hW'.lt x (by simp [hx])
  obtain ⟨A1, c1, xs1, rfl, hx1, hm1, hd1⟩ := open_steps (hval 1 22 v1 rfl rfl) h1 hlt1
  have he1 : ∀ k ∈ xs1, k.s.size ≤ 140737488351232 := fun k hk => by
    obtain ⟨e, sp, x, y, z, rfl, hin⟩ := hd1 k hk
    rw [← data_len]
    exact sized_step hsz (j := 1) rfl rfl hin
  refine (pieceSteps_walk s0 hx1 he1 hm1 hs0).mono fun e W' ⟨he, hb⟩ => ?_
  subst he
  exact ⟨_, rfl, law_post rfl rfl (by rw [Try.params3]; decide +kernel) ⟨rfl, rfl, rfl⟩ hW' hb⟩
theorem pieceSteps_holds : Rows.PieceStepsSaid :=
  OpenClaim.holds_of_wide 3 Try.f3 rfl rfl rfl rfl rfl rfl rfl ⟨rfl, rfl, rfl, rfl, rfl⟩ rfl rfl rfl rfl rfl (by kernel_rfl) Try.func3 (by kernel_rfl)
    (of_decide_eq_true (by kernel_rfl)) (by unfold Func.isWrapper; first | (rw [if_pos (by decide +kernel)]; kernel_rfl) | (rw [if_neg (by decide +kernel)]; exact ⟨rfl, rfl⟩))
    (fun os started H enc _ => pieceSteps_lifted os started H enc)
end
end Go.Proofs.Ytjmedlnboofgdaa
