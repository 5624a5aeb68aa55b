/-
  'calamuslaw17.PairNests' answers true for every text and place: pairs lie within one another, or apart, and the one around a place is the least.
-/
import Derived.Test.YtijjpnppedhfnaaPairLives
import Derived.Test.YtijjpnppedhfnaaPairAround
namespace Go.Proofs.Ytijjpnppedhfnaa
open Go.RowKit
open Pair
namespace Pair
/-- Is a pair around a place? -/
def abt (p : Int) (x : Nat × Nat) : Bool := decide ((x.1 : Int) ≤ p) && decide (p ≤ x.2)
theorem abt_iff {p : Int} {x : Nat × Nat} : abt p x = true ↔ Abt x p := by simp [abt, Abt]
theorem arnd_any (l : List (Nat × Nat)) (p : Int) : (arnd l p).isSome = l.any (abt p) := by
  induction l with
  | nil => rfl
  | cons x l ih =>
    rw [arnd, List.any_cons, ← ih]
    cases arnd l p with
    | some y => simp
    | none =>
      by_cases h : (x.1 : Int) ≤ p ∧ p ≤ x.2
      · simp [h, abt]
      · rw [if_neg h]
        have : abt p x = false := by
          cases hc : abt p x with
          | false => rfl
          | true => exact absurd (abt_iff.1 hc) h
        simp [this]
/-- What Around answers: the least, if there is one. -/
theorem ar_form (s k : List UInt8) (p : Int) : ∃ (a b : Int) (o : Bool), resA (ar s k p) = .tuple #[.int .i64 a, .int .i64 b, .bool o] ∧ o = (Utf.place s p && (all s k).any (abt p)) ∧
    ∀ x ∈ all s k, Utf.place s p = true → Abt x p → o = true ∧ (x.1 : Int) ≤ a ∧ b ≤ x.2 := by
  cases hp : Utf.place s p with
  | false => exact ⟨0, 0, false, by rw [ar, if_neg (by simp [hp])]; rfl, rfl, fun x _ h => by cases h⟩
  | true =>
    have hA : ar s k p = arnd (all s k) p := if_pos hp
    have ha := arnd_any (all s k) p
    rw [hA]
    cases hz : arnd (all s k) p with
    | none =>
      rw [hz] at ha
      refine ⟨0, 0, false, rfl, by rw [← ha]; rfl, fun x hx _ h => ?_⟩
      obtain ⟨z, hz2, _⟩ := arnd_least (all_lie s k) hx h.1 h.2
      rw [hz] at hz2; cases hz2
    | some z =>
      rw [hz] at ha
      refine ⟨z.1, z.2, true, rfl, by rw [← ha]; rfl, fun x hx _ h => ?_⟩
      obtain ⟨z', hz2, h1, h2⟩ := arnd_least (all_lie s k) hx h.1 h.2
      rw [hz] at hz2; cases hz2
      exact ⟨rfl, by omega, by omega⟩
theorem any_next {L : List (Nat × Nat)} {i : Nat} {x : Nat × Nat} (h : L[i]? = some x) (f : Nat × Nat → Bool) : (L.take (i + 1)).any f = ((L.take i).any f || f x) := by
  rw [List.take_add_one, h, List.any_append]
  simp
end Pair
set_option maxHeartbeats 4000000 in
set_option maxRecDepth 100000 in
theorem pairNests_walk (s : ByteArray) (p : Int) (w : World) :
    Calls Try.prog 5 #[.string s, .int .i64 p] w fun e w' => e = .returned (.bool true) ∧ Below w.heap.size w w' := by
  have LV := Lib.hid pair_lives
  have hl := data_len s
  have hX := Below.refl w.heap.size w
  by_cases hs : 300 < s.size
  · go_enter Try.func5, Try.ntmps5
    go_wp2_with ((go_at_call 7; (with_reducible refine (LV.out _).mono ?_); rintro e w4 ⟨rfl, hb⟩; replace hX := on hX hb; clear hb))
    go_ret
    exact ⟨rfl, hX⟩
  · have cv := Lib.hid (fun w => utf_Valid s (by omega) w)
    cases hv : Utf.valid s.data.toList with
    | false =>
      rw [hv] at cv
      clear hv
      go_enter Try.func5, Try.ntmps5
      go_wp2_with (first
        | (go_at_call 15; (with_reducible refine (cv.out _).mono ?_); rintro e w1 ⟨rfl, rfl⟩)
        | (go_at_call 7; (with_reducible refine (LV.out _).mono ?_); rintro e w4 ⟨rfl, hb⟩; replace hX := on hX hb; clear hb))
      go_ret
      exact ⟨rfl, hX⟩
    | true =>
      rw [hv] at cv
      have c0 := fun w => pair_All s { data := #[40] } (by omega) w
      have c1 := fun w => pair_Around s p { data := #[40] } (by omega) w
      have cp := Lib.hid (fun w => utf_Place s p (by omega) w)
      obtain ⟨a, b, o, ha, ho, hmin⟩ := ar_form s.data.toList ({ data := #[40] } : ByteArray).data.toList p
      rw [ha] at c1
      have C0 := Lib.hid c0
      have C1 := Lib.hid c1
      have HF : Hid (∀ x ∈ Pair.all s.data.toList ({ data := #[40] } : ByteArray).data.toList, x.1 < x.2 ∧ x.2 < s.size ∧ s.data.toList[x.1]? = some 40 ∧ s.data.toList[x.2]? = some 41) := fun x hx => by
        obtain ⟨o', c, e, hc, _, h1, h2, h3, h4⟩ := all_mem hx
        have e1 : o' = 40 := by
          have : ([40] : List UInt8) = [o'] := e
          injection this with this; exact this.symm
        have e2 : c = 41 := by
          have : (some 41 : Option UInt8) = some c := hc
          injection this with this; exact this.symm
        rw [hl] at h2
        exact ⟨h1, h2, by rw [h3, e1], by rw [h4, e2]⟩
      have HLie := Lib.hid (all_lie s.data.toList ({ data := #[40] } : ByteArray).data.toList)
      have HMin := Lib.hid hmin
      have HO := Lib.hid ho
      have hlen := all_length s.data.toList ({ data := #[40] } : ByteArray).data.toList
      clear c0 c1 ha ho hmin hv
      generalize Pair.all s.data.toList ({ data := #[40] } : ByteArray).data.toList = L at *
      generalize hpb : Utf.place s.data.toList p = pb at *
      clear hpb
      go_enter Try.func5, Try.ntmps5
      go_wp2_with (first
        | (go_at_call 15; (with_reducible refine (cv.out _).mono ?_); rintro e w1 ⟨rfl, rfl⟩)
        | (go_at_call 9; (with_reducible refine (C0.out _).mono ?_); rintro e w2 ⟨⟨v, rfl, hr⟩, hb⟩; obtain ⟨A, ca, rfl⟩ := own_long hr; have hP := Lib.hid (Pairs.of_own hr rfl); replace hX := on hX hb; clear hr hb)
        | (go_at_call 13; (with_reducible refine (C1.out _).mono ?_); rintro e wc ⟨rfl, hb⟩; replace hX := on hX hb; replace hP := Lib.hid (hP.out.below hb); clear hb))
      have HX := Lib.hid hX
      clear hX
      go_loopw [9, 10] (fun gv iv wr => ∃ (g : Bool) (i : Nat), gv = .bool g ∧ iv = .int .i64 i ∧ i ≤ L.length ∧ Below wc.heap.size wc wr ∧ Hid (g = (pb && (L.take i).any (abt p)))) (fun _ iv _ => L.length - (intOf iv).toNat)
      case atStart => exact ⟨false, 0, rfl, rfl, Nat.zero_le _, Below.refl _ _, by show _ = _; simp⟩
      case round =>
        obtain ⟨g, i, rfl, rfl, hi, hb, HG⟩ := hrel
        by_cases hlt : i < L.length
        · obtain ⟨⟨x0, x1⟩, hx⟩ : ∃ x, L[i]? = some x := ⟨_, List.getElem?_eq_getElem hlt⟩
          obtain ⟨h1, h2, h3, h4⟩ := HF.out _ (List.mem_of_getElem? hx)
          obtain ⟨m, hmA, a0, a1⟩ := (hP.out.below hb).at_ hx
          subst hmA
          dsimp only at h1 h2 h3 h4 a0 a1
          have hx0 : x0 < s.size := by omega
          have hb0 : s[x0] = 40 := by
            have := byte_get s hx0
            rw [h3] at this
            injection this with this; exact this.symm
          have hb1 : s[x1] = 41 := by
            have := byte_get s h2
            rw [h4] at this
            injection this with this; exact this.symm
          have g40 : ((s[x0].toNat : Int) != 40) = false := by rw [hb0]; rfl
          have g41 : ((s[x1].toNat : Int) != 41) = false := by rw [hb1]; rfl
          have q1 : ¬ ((x1 : Int) ≤ (x0 : Int)) := by omega
          have q2 : ¬ ((s.size : Int) ≤ (x1 : Int)) := by omega
          have HX0 := Lib.hid hx
          have HPW : Hid (Pairs wr (some ⟨m, 0, none⟩) L) := hP.out.below hb
          have hbk := Blk.new wr 33 #[.int .i64 (x0 : Nat), .int .i64 (x1 : Nat)]
          have hwa := (Below.refl wr.heap.size wr).alloc (Nat.le_refl _) (.cells #[.int .i64 (x0 : Nat), .int .i64 (x1 : Nat)] 33)
          have hsa := World.size_alloc wr (.cells #[.int .i64 (x0 : Nat), .int .i64 (x1 : Nat)] 33)
          have HB := Lib.hid hb
          have HBK := Lib.hid hbk
          have HWA := Lib.hid hwa
          have HSA := Lib.hid hsa
          have H12 := Lib.hid h1
          clear hx hbk hwa hsa hb h1 h3 h4 hb0 hb1
          go_wp2
          generalize hwn : wr.alloc (.cells #[.int .i64 (x0 : Nat), .int .i64 (x1 : Nat)] 33) = wa at *
          generalize hbn : wr.heap.size = bx at *
          clear hwn a0 a1 g40 g41 q1 q2
          go_loopw [12] (fun kv wr => ∃ k : Nat, kv = .int .i64 k ∧ k ≤ i ∧ Below wa.heap.size wa wr) (fun kv _ => i - (intOf kv).toNat)
          case atStart => exact ⟨0, rfl, Nat.zero_le _, Below.refl _ _⟩
          case round =>
            obtain ⟨k, rfl, hk, hq⟩ := hrel
            have hxb := HBK.out.below hq (by rw [HSA.out]; omega)
            have xc0 := hxb.cell 0
            have xc1 := hxb.cell 1
            clear hxb
            by_cases hki : k < i
            · obtain ⟨⟨y0, y1⟩, hy⟩ : ∃ y, L[k]? = some y := ⟨_, List.getElem?_eq_getElem (by omega)⟩
              have hly : Lie (y0, y1) (x0, x1) := by
                have := List.pairwise_iff_getElem.1 HLie.out k i (by omega) hlt hki
                rwa [(List.getElem?_eq_some_iff.1 hy).2, (List.getElem?_eq_some_iff.1 HX0.out).2] at this
              obtain ⟨m', e, b0, b1⟩ := ((HPW.out.below (HWA.out.mono (Nat.le_of_eq hbn))).below hq).at_ hy
              cases e
              obtain ⟨l1, l2⟩ := hly
              dsimp only at l1 l2 b0 b1
              have HQ2 : Hid (Below wa.heap.size wa (wr.alloc (.cells #[.int .i64 (y0 : Nat), .int .i64 (y1 : Nat)] 33))) := hq.alloc hq.size _
              have r0 : ¬ ((x0 : Int) ≤ (y0 : Int)) := by omega
              have r1 : ((y1 : Int) == (x1 : Int)) = false := beq_eq_false_iff_ne.2 (by have := H12.out; omega)
              have hne : bx ≠ wr.heap.size := by have := hq.size; rw [HSA.out] at this; omega
              have xd0 : (wr.alloc (.cells #[.int .i64 (y0 : Nat), .int .i64 (y1 : Nat)] 33)).cell? ⟨bx, 0, none⟩ = some (.int .i64 (x0 : Nat)) := Lib.cell?_alloc_some _ xc0
              have xd1 : (wr.alloc (.cells #[.int .i64 (y0 : Nat), .int .i64 (y1 : Nat)] 33)).cell? ⟨bx, 1, none⟩ = some (.int .i64 (x1 : Nat)) := Lib.cell?_alloc_some _ xc1
              rcases l2 with l2 | l2
              · have r2 : (x0 : Int) < (y1 : Int) := by have := H12.out; omega
                have r3 : ¬ ((y1 : Int) < (x1 : Int)) := by omega
                clear hy hq l1 l2
                go_wp2
                go_roundw
                case rel => exact ⟨k + 1, by go_num, by omega, HQ2.out⟩
                case measure => simp [intOf]; omega
              · have r2 : ¬ ((x0 : Int) < (y1 : Int)) := by omega
                clear hy hq l1 l2
                go_wp2
                go_roundw
                case rel => exact ⟨k + 1, by go_num, by omega, HQ2.out⟩
                case measure => simp [intOf]; omega
            · obtain rfl : k = i := by omega
              have hsz2 := HB.out.size
              have HBW : Hid (Below wc.heap.size wc wr) := (HB.out.trans (HWA.out.mono (by omega))).trans (hq.mono (by rw [HSA.out]; omega))
              have HN := Lib.hid (any_next HX0.out (abt p))
              clear hq
              cases hpc : pb with
              | false =>
                rw [hpc] at cp
                have HG2 : Hid (g = (pb && (L.take (k + 1)).any (abt p))) := by
                  show _ = _; rw [HG.out, hpc]; rfl
                clear hpc
                go_wp2_with (go_at_call 16; (with_reducible refine (cp.out _).mono ?_); rintro e w6 ⟨rfl, rfl⟩)
                go_roundw
                case rel => exact ⟨g, k + 1, rfl, by go_num, by omega, HBW.out, HG2⟩
                case measure => simp [intOf]; omega
              | true =>
                rw [hpc] at cp
                by_cases t1 : (x0 : Int) ≤ p
                · by_cases t2 : p ≤ (x1 : Int)
                  · have hAbt : Abt (x0, x1) p := ⟨t1, t2⟩
                    obtain ⟨m1, m2, m3⟩ := HMin.out _ (List.mem_of_getElem? HX0.out) hpc hAbt
                    have HG2 : Hid (true = (pb && (L.take (k + 1)).any (abt p))) := by
                      show _ = _; rw [HN.out, abt_iff.2 hAbt, hpc]; simp
                    dsimp only at m2 m3
                    have u1 : ¬ (a < (x0 : Int)) := by omega
                    have u2 : ¬ ((x1 : Int) < b) := by omega
                    clear hpc hAbt m2 m3
                    subst m1
                    go_wp2_with (go_at_call 16; (with_reducible refine (cp.out _).mono ?_); rintro e w6 ⟨rfl, rfl⟩)
                    go_roundw
                    case rel => exact ⟨true, k + 1, rfl, by go_num, by omega, HBW.out, HG2⟩
                    case measure => simp [intOf]; omega
                  · have HG2 : Hid (g = (pb && (L.take (k + 1)).any (abt p))) := by
                      show _ = _
                      have : abt p (x0, x1) = false := by
                        cases hc : abt p (x0, x1) with
                        | false => rfl
                        | true => exact absurd (abt_iff.1 hc).2 t2
                      rw [HN.out, this, HG.out]; simp
                    clear hpc
                    go_wp2_with (go_at_call 16; (with_reducible refine (cp.out _).mono ?_); rintro e w6 ⟨rfl, rfl⟩)
                    go_roundw
                    case rel => exact ⟨g, k + 1, rfl, by go_num, by omega, HBW.out, HG2⟩
                    case measure => simp [intOf]; omega
                · have HG2 : Hid (g = (pb && (L.take (k + 1)).any (abt p))) := by
                    show _ = _
                    have : abt p (x0, x1) = false := by
                      cases hc : abt p (x0, x1) with
                      | false => rfl
                      | true => exact absurd (abt_iff.1 hc).1 t1
                    rw [HN.out, this, HG.out]; simp
                  clear hpc
                  go_wp2_with (go_at_call 16; (with_reducible refine (cp.out _).mono ?_); rintro e w6 ⟨rfl, rfl⟩)
                  go_roundw
                  case rel => exact ⟨g, k + 1, rfl, by go_num, by omega, HBW.out, HG2⟩
                  case measure => simp [intOf]; omega
        · obtain rfl : i = L.length := by omega
          have hog : o = g := by rw [HO.out, HG.out, List.take_of_length_le (Nat.le_refl _)]
          subst hog
          have hX := HX.out.trans (hb.mono HX.out.size)
          clear hb HG
          go_wp2_with ((go_at_call 7; (with_reducible refine (LV.out _).mono ?_); rintro e w4 ⟨rfl, hb⟩; replace hX := on hX hb; clear hb))
          go_ret
          exact ⟨rfl, hX⟩
section
open Go.ChangeShapes Go.WideShapes Go.ChangeAt
open Go.ChangeMaps (open_string)
set_option maxRecDepth 100000 in
theorem pairNests_lifted (os : Os) (started : os.Started) (H : Type) (enc : TypeId × Value → H) :
    ReturnsInHanded {} Try.checked os 5 .any (Rows.pairNestsSpec.pre6 enc Try.prog Try.f5 Rows.pairNestsRow.domain false) (Rows.pairNestsSpec.post enc Try.prog Try.f5 false true false false) := by
  refine returnsInHanded_of_change_sized (C := Try.checked) own_knob started (by kernel_rfl) Try.func5
    (ChangeSpec.witness6 (enc := enc) (C := Try.checked) false ⟨#[], #[.string .empty, .int .i64 0], []⟩ 8 (by kernel_rfl) (by kernel_rfl) (by kernel_rfl) (by kernel_rfl)) ?_
  intro W base args ds gs before hval0 hW _ hsz0 _
  have hsz : (DataW.weightsEach Try.prog (Try.f5.params.toList ++ Rows.pairNestsSpec.plain.varTypes Try.prog) (ds ++ gs)).all (· ≤ reachBytes) = true := hsz0
  clear hsz0
  have hval : ∀ (j : Nat) t v, Try.f5.params[j]? = some t → args[j]? = some v → Value.okWide Try.prog W .any base t v := hval0
  have hW' := hW
  obtain ⟨p, q, hA0, hV, rfl, hfz, hnd⟩ := hW
  have hA : DataW.TrodAll enc Try.prog W 0 (fun _ => true) true Try.f5.params.toList args.toList ds p := hA0
  rw [Try.params5] at hA hval hsz
  obtain ⟨v0, vs0, d0, ds0, p0, q0, hargs, rfl, rfl, h0, r0⟩ := trodAll_cons hA
  obtain ⟨v1, vs1, d1, ds1, p1, q1, rfl, rfl, rfl, h1, r1⟩ := trodAll_cons r0
  obtain ⟨rfl, rfl, rfl⟩ := trodAll_nil r1
  obtain rfl : args = #[v0, v1] := by cases args; simp_all
  obtain ⟨rfl, rfl⟩ := trodVars_none hV
  obtain ⟨s0, rfl, rfl, rfl, hmax0⟩ := open_string Try.underlying9 (hval 0 9 v0 rfl rfl) h0
  have hs0 : s0.size ≤ 140737488351232 := by rw [← data_len]; exact sized_string hsz (j := 0) (t := 9) rfl rfl
  obtain ⟨n1, rfl, rfl, rfl, wn1⟩ := open_int Try.underlying3 (hval 1 3 v1 rfl rfl) h1
  refine (pairNests_walk s0 n1 _).mono fun e W' ⟨he, hb⟩ => ?_
  subst he
  exact ⟨_, rfl, law_post rfl rfl (by rw [Try.params5]; decide +kernel) ⟨rfl, rfl, rfl⟩ hW' hb⟩
theorem pairNests_holds : Rows.PairNestsSaid :=
  OpenClaim.holds_of_wide 5 Try.f5 rfl rfl rfl rfl rfl rfl rfl ⟨rfl, rfl, rfl, rfl, rfl⟩ rfl rfl rfl rfl rfl (by kernel_rfl) Try.func5 (by kernel_rfl)
    (of_decide_eq_true (by kernel_rfl)) (by unfold Func.isWrapper; first | (rw [if_pos (by decide +kernel)]; kernel_rfl) | (rw [if_neg (by decide +kernel)]; exact ⟨rfl, rfl⟩))
    (fun os started H enc _ => pairNests_lifted os started H enc)
end
end Go.Proofs.Ytijjpnppedhfnaa
