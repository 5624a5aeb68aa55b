/-
  'calamuslaw06.PieceCounts' answers true for every text and every list of steps: pieces are as few as the document tells, behind any steps.
-/
import Derived.Test.YtockhhfjomaigaaDo
import Derived.Test.YtockhhfjomaigaaFrame
namespace Go.Proofs.Ytockhhfjomaigaa
open Go.RowKit
open Pc
theorem both_pieces {B p q : Nat} {T : List UInt8} {a st : Nat} {w : World} (h : Both B p q T a st w) :
    ∃ m : Nat, Hid (Calls Try.prog 16 #[.pointer (some ⟨p, 0, none⟩)] w fun e w' => e = .returned (.int .i64 m) ∧ w = w') ∧ m ≤ 1 + 2 * st ∧ (m = 0 ∧ T = [] ∨ 0 < m ∧ T ≠ []) := by
  obtain ⟨_, ⟨ps, rfl, hpl, hT⟩, _⟩ := h
  obtain ⟨vp, va, us, xs, hT⟩ := hT
  refine ⟨ps.length, tab_pieces (tab_looks hT.self) (own_shape hT.rows), hpl, ?_⟩
  cases ps with
  | nil => exact Or.inl ⟨rfl, rfl⟩
  | cons l r =>
    refine Or.inr ⟨by simp, fun e => ?_⟩
    have := hT.full l (by simp)
    rw [List.flatten_cons] at e
    exact this (List.append_eq_nil_iff.1 e).1
set_option maxHeartbeats 2000000 in
set_option maxRecDepth 100000 in
theorem pieceCounts_walk (s : ByteArray) {A : Option Addr} {c : Nat} {ks : List Step} {w : World} (hx : Steps w A ks) (hs : ∀ k ∈ ks, k.s.size ≤ 140737488351232) (hm : ks.length ≤ maxLen) (hsz : s.size ≤ 140737488351232) :
    Calls Try.prog 5 #[.string s, .slice A ks.length c] w fun e w' => e = .returned (.bool true) ∧ Below w.heap.size w w' := by
  have FEW := Lib.hid (few_ok (c := c) hx hs hm)
  have hm2 : ks.length ≤ 9223372036854775807 := by unfold maxLen at hm; exact hm
  clear hs hm
  go_enter Try.func5, Try.ntmps5
  go_wp2_with fail
  refine FEW.out.mono ?_
  rintro e w1 ⟨b, rfl, rfl, hb⟩
  cases b with
  | false =>
    clear hb
    go_wp2_with (go_at_call 8; refine (piece_lives _).mono ?_; rintro e w2 ⟨rfl, hb2⟩)
    go_ret
    exact ⟨rfl, hb2⟩
  | true =>
    obtain ⟨h200, htot⟩ := hb rfl
    clear hb
    by_cases hbig : 20000 < s.size
    · have d1 : decide (20000 < (s.size : Int)) = true := by simp; omega
      go_wp2_with (go_at_call 8; refine (piece_lives _).mono ?_; rintro e w2 ⟨rfl, hb2⟩)
      go_ret
      exact ⟨rfl, hb2⟩
    · have d1 : decide (20000 < (s.size : Int)) = false := by simp; omega
      have HN := Lib.hid (pc_new (B := w.heap.size) s (w := w) (Nat.le_refl _))
      go_wp2_with (go_at_call 9; refine HN.out.mono ?_; rintro e w2 ⟨p, rfl, hT, hK, hp⟩)
      have hBoth : Both w.heap.size p w2.heap.size s.data.toList 0 0 (w2.alloc (.cells #[.string s, .int .i64 0, .int .i64 0] 29)) :=
        ⟨hK.size, ⟨_, one_flat _, one_le _, hT.below ((Below.refl _ w2).alloc (Nat.le_refl _) _)⟩, Blk.new w2 _ _⟩
      have hW : Below w.heap.size w (w2.alloc (.cells #[.string s, .int .i64 0, .int .i64 0] 29)) := hK.below.alloc hK.size _
      clear hT hp HN hK FEW
      generalize (w2.alloc (.cells #[.string s, .int .i64 0, .int .i64 0] 29)) = wo at hBoth hW ⊢
      generalize w2.heap.size = q at hBoth ⊢
      have hdl : s.data.toList.length = s.size := data_len s
      have hsz2 : s.size ≤ 20000 := by omega
      generalize s.data.toList = S0 at hBoth hdl
      have HB0 := Lib.hid hBoth
      clear hBoth
      go_loopw [7, 8] (fun z _ wr => ∃ (k a st : Nat) (T : List UInt8), k ≤ ks.length + 1 ∧ z = .int .i64 k ∧ (Hid (Both w.heap.size p q T a st wr)) ∧ Below w.heap.size w wr ∧ T.length ≤ s.size + total (ks.take k) ∧ a ≤ total (ks.take k) ∧ st ≤ k) (fun z _ _ => ks.length + 1 - (intOf z).toNat)
      case atStart => exact ⟨0, 0, 0, S0, Nat.zero_le _, rfl, HB0, hW, by simp [total]; omega, by simp [total], Nat.le_refl _⟩
      case round =>
        obtain ⟨k, a, st, T, hk, rfl, hB, hR, hTl, hal, hst⟩ := hrel
        by_cases hle : k ≤ ks.length
        · have d3 : decide ((k : Int) ≤ (ks.length : Int)) = true := by simp; omega
          obtain ⟨m, hPC, hm1, hz⟩ := both_pieces hB.out
          have k0 := hB.out.2.2.cell 0
          have k2 := hB.out.2.2.cell 2
          simp at k0 k2
          rcases hz with hz | hz
          ·
            have hm0 : m = 0 := hz.1
            have g1 : (bs T).toList.isEmpty = true := by rw [bs_tl]; rw [hz.2]; rfl
            subst hm0
            rw [show ((0 : Nat) : Int) = 0 from rfl] at hPC
            have HPC := Lib.hid hPC
            clear hPC
            by_cases hlt : k < ks.length
            · have d2 : decide ((k : Int) < (ks.length : Int)) = true := by simp; omega
              obtain ⟨x, hkx⟩ : ∃ x, ks[k]? = some x := ⟨_, List.getElem?_eq_getElem hlt⟩
              obtain ⟨b, off, rfl, hbw, c0, c1, c2, c3⟩ := hx.at_ hR (Nat.le_refl _) hkx
              have htk := total_snoc hkx
              have htl : total (ks.take (k + 1)) ≤ total ks := total_take ks (k + 1)
              have D := Lib.hid (do_ok hR.size hB.out x (by omega) (by omega) (by omega))
              clear hkx hz
              go_wp2_with (first
                | (go_at_call 16; refine HPC.out.mono ?_; rintro e w3 ⟨rfl, rfl⟩)
                | (go_at_call 10; refine D.out.mono ?_; rintro e w3 ⟨T', a', st', rfl, hB', hb', l1, l2, l3⟩))
              go_roundw
              case rel => exact ⟨k + 1, a', st', T', by omega, by go_num, hB', hR.trans hb', by omega, by omega, by omega⟩
              case measure => simp [intOf]; omega
            · have d2 : decide ((k : Int) < (ks.length : Int)) = false := by simp; omega
              have htk : total (ks.take (k + 1)) = total (ks.take k) := by rw [List.take_of_length_le (by omega), List.take_of_length_le (by omega)]
              clear hz
              go_wp2_with (go_at_call 16; refine HPC.out.mono ?_; rintro e w3 ⟨rfl, rfl⟩)
              go_roundw
              case rel => exact ⟨k + 1, a, st, T, by omega, by go_num, hB, hR, by omega, by omega, by omega⟩
              case measure => simp [intOf]; omega
          ·
            have hm0 : 0 < m := hz.1
            have g1 : (bs T).toList.isEmpty = false := by rw [bs_tl]; simpa using hz.2
            have d4 : ((m : Int) == 0) = false := by simp; omega
            have d6 : decide ((m : Int) < 0) = false := by simp
            have d5 : decide (1 + 2 * (st : Int) < (m : Int)) = false := by simp; omega
            have HPC := Lib.hid hPC
            clear hPC
            by_cases hlt : k < ks.length
            · have d2 : decide ((k : Int) < (ks.length : Int)) = true := by simp; omega
              obtain ⟨x, hkx⟩ : ∃ x, ks[k]? = some x := ⟨_, List.getElem?_eq_getElem hlt⟩
              obtain ⟨b, off, rfl, hbw, c0, c1, c2, c3⟩ := hx.at_ hR (Nat.le_refl _) hkx
              have htk := total_snoc hkx
              have htl : total (ks.take (k + 1)) ≤ total ks := total_take ks (k + 1)
              have D := Lib.hid (do_ok hR.size hB.out x (by omega) (by omega) (by omega))
              clear hkx hz
              go_wp2_with (first
                | (go_at_call 16; refine HPC.out.mono ?_; rintro e w3 ⟨rfl, rfl⟩)
                | (go_at_call 10; refine D.out.mono ?_; rintro e w3 ⟨T', a', st', rfl, hB', hb', l1, l2, l3⟩))
              go_roundw
              case rel => exact ⟨k + 1, a', st', T', by omega, by go_num, hB', hR.trans hb', by omega, by omega, by omega⟩
              case measure => simp [intOf]; omega
            · have d2 : decide ((k : Int) < (ks.length : Int)) = false := by simp; omega
              have htk : total (ks.take (k + 1)) = total (ks.take k) := by rw [List.take_of_length_le (by omega), List.take_of_length_le (by omega)]
              clear hz
              go_wp2_with (go_at_call 16; refine HPC.out.mono ?_; rintro e w3 ⟨rfl, rfl⟩)
              go_roundw
              case rel => exact ⟨k + 1, a, st, T, by omega, by go_num, hB, hR, by omega, by omega, by omega⟩
              case measure => simp [intOf]; omega
        · have d3 : decide ((k : Int) ≤ (ks.length : Int)) = false := by simp; omega
          go_wp2_with (go_at_call 8; refine (piece_lives _).mono ?_; rintro e w3 ⟨rfl, hb3⟩)
          go_ret
          exact ⟨rfl, hR.trans (hb3.mono hR.size)⟩
section
open Go.ChangeShapes Go.WideShapes Go.ChangeAt
open Go.ChangeMaps (open_string)
set_option maxRecDepth 100000 in
theorem pieceCounts_lifted (os : Os) (started : os.Started) (H : Type) (enc : TypeId × Value → H) :
    ReturnsInHanded {} Try.checked os 5 .any (Rows.pieceCountsSpec.pre6 enc Try.prog Try.f5 Rows.pieceCountsRow.domain false) (Rows.pieceCountsSpec.post enc Try.prog Try.f5 false true false false) := by
  refine returnsInHanded_of_change_sized (C := Try.checked) own_knob started (by kernel_rfl) Try.func5
    (ChangeSpec.witness6 (enc := enc) (C := Try.checked) false ⟨#[], #[.string .empty, .slice none 0 0], []⟩ 8 (by kernel_rfl) (by kernel_rfl) (by kernel_rfl) (by kernel_rfl)) ?_
  intro W base args ds gs before hval0 hW _ hsz0 _
  have hsz : (DataW.weightsEach Try.prog (Try.f5.params.toList ++ Rows.pieceCountsSpec.plain.varTypes Try.prog) (ds ++ gs)).all (· ≤ reachBytes) = true := hsz0
  clear hsz0
  have hval : ∀ (j : Nat) t v, Try.f5.params[j]? = some t → args[j]? = some v → Value.okWide Try.prog W .any base t v := hval0
  have hW' := hW
  obtain ⟨p, q, hA0, hV, rfl, hfz, hnd⟩ := hW
  have hA : DataW.TrodAll enc Try.prog W 0 (fun _ => true) true Try.f5.params.toList args.toList ds p := hA0
  rw [Try.params5] at hA hval hsz
  obtain ⟨v0, vs0, d0, ds0, p0, q0, hargs, rfl, rfl, h0, r0⟩ := trodAll_cons hA
  obtain ⟨v1, vs1, d1, ds1, p1, q1, rfl, rfl, rfl, h1, r1⟩ := trodAll_cons r0
  obtain ⟨rfl, rfl, rfl⟩ := trodAll_nil r1
  obtain rfl : args = #[v0, v1] := by cases args; simp_all
  obtain ⟨rfl, rfl⟩ := trodVars_none hV
  obtain ⟨s0, rfl, rfl, rfl, hmax0⟩ := open_string Try.underlying9 (hval 0 9 v0 rfl rfl) h0
  have hs0 : s0.size ≤ 140737488351232 := by rw [← data_len]; exact sized_string hsz (j := 0) (t := 9) rfl rfl
  have hlt1 : ∀ x ∈ p1, x.block < W.heap.size := fun x hx => by simpa using hW'.lt x (by simp [hx])
  obtain ⟨A1, c1, xs1, rfl, hx1, hm1, hd1⟩ := open_steps (hval 1 22 v1 rfl rfl) h1 hlt1
  have he1 : ∀ k ∈ xs1, k.s.size ≤ 140737488351232 := fun k hk => by
    obtain ⟨e, sp, x, y, z, rfl, hin⟩ := hd1 k hk
    rw [← data_len]
    exact sized_step hsz (j := 1) rfl rfl hin
  refine (pieceCounts_walk s0 hx1 he1 hm1 hs0).mono fun e W' ⟨he, hb⟩ => ?_
  subst he
  exact ⟨_, rfl, law_post rfl rfl (by rw [Try.params5]; decide +kernel) ⟨rfl, rfl, rfl⟩ hW' hb⟩
theorem pieceCounts_holds : Rows.PieceCountsSaid :=
  OpenClaim.holds_of_wide 5 Try.f5 rfl rfl rfl rfl rfl rfl rfl ⟨rfl, rfl, rfl, rfl, rfl⟩ rfl rfl rfl rfl rfl (by kernel_rfl) Try.func5 (by kernel_rfl)
    (of_decide_eq_true (by kernel_rfl)) (by unfold Func.isWrapper; first | (rw [if_pos (by decide +kernel)]; kernel_rfl) | (rw [if_neg (by decide +kernel)]; exact ⟨rfl, rfl⟩))
    (fun os started H enc _ => pieceCounts_lifted os started H enc)
end
end Go.Proofs.Ytockhhfjomaigaa
