/-
  'calamuslaw18.ParaAll' answers true for every text: blocks, one behind the other, are all lines; those of one are all empty, or none of them.
-/
import Derived.Test.YtjgfcnjnedgejaaParaLives
namespace Go.Proofs.Ytjgfcnjnedgejaa
open Go.RowKit
namespace Para
theorem blkT_at {s : List UInt8} {k p a b : Nat} {x : Nat × Nat} (hx : (Line.L s)[k]? = some x) (h1 : x.1 ≤ p) (h2 : p ≤ x.2) (hp : Utf.place s (p : Int) = true) (h : IsBl (emp s) (Line.L s).length k a b) : blkT s (p : Nat) false = .tuple #[.int .i64 (a : Nat), .int .i64 (b : Nat)] := by
  obtain ⟨q1, q2⟩ := ((all_right (Line.L_valid hx)).block (List.getElem?_eq_some_iff.1 hx).1).unique h
  rw [blkT, if_pos hp, Line.of_at hx h1 h2, Int.toNat_natCast, q1, q2]
/-- Where line k ends. -/
def end_ (s : List UInt8) (k : Nat) : Nat := match (Line.L s)[k]? with | some x => x.2 | none => 0
theorem stop_at {s : List UInt8} {k : Nat} (h : k < (Line.L s).length) : Line.stop s (k : Nat) = (end_ s k : Nat) := by
  have hg := List.getElem?_eq_getElem h
  rw [Line.stop_some (by rw [Line.line_nat, hg]), end_, hg]
theorem emp_test {s : List UInt8} {k : Nat} (h : k < (Line.L s).length) : ((at_ s k : Int) == (end_ s k : Int)) = emp s k := by
  have hg := List.getElem?_eq_getElem h
  rw [emp_at hg, at_at hg, end_, hg, Bool.eq_iff_iff]
  simp
  omega
theorem blk_start {s : List UInt8} {k a b : Nat} (hk : k < (Line.L s).length) (h : IsBl (emp s) (Line.L s).length k a b) : blkT s (at_ s k : Nat) false = .tuple #[.int .i64 (a : Nat), .int .i64 (b : Nat)] := by
  have hg := List.getElem?_eq_getElem hk
  have he := Line.L_each hg
  rw [at_at hg]
  exact blkT_at hg (Nat.le_refl _) he.1 (Line.start_ok hg) h
theorem blk_end {s : List UInt8} {k a b : Nat} (hk : k < (Line.L s).length) (h : IsBl (emp s) (Line.L s).length k a b) : blkT s (end_ s k : Nat) false = .tuple #[.int .i64 (a : Nat), .int .i64 (b : Nat)] := by
  have hg := List.getElem?_eq_getElem hk
  have he := Line.L_each hg
  rw [end_, hg]
  exact blkT_at hg he.1 (Nat.le_refl _) (Line.stop_ok hg) h
/-- What is known where the ith block begins: it begins at line x; the lines ahead are like b, x isn't. -/
def Edge (s : List UInt8) (i x : Nat) (b : Bool) : Prop := (i = 0 ∧ x = 0) ∨ (0 < i ∧ 0 < x ∧ emp s (x - 1) = b ∧ (x < (Line.L s).length → emp s x = !b))
theorem Edge.next {s : List UInt8} {i x : Nat} {b : Bool} (h : Edge s i x b) (hv : Utf.valid s = true) (hx : x < (Line.L s).length) :
    ∃ z, IsBl (emp s) (Line.L s).length x x z ∧ Edge s (i + 1) (z + 1) (emp s x) ∧ (0 < i → emp s x = !b) := by
  have hI := (all_right hv).block hx
  generalize (blockV (all s) x false).1 = a at hI
  generalize (blockV (all s) x false).2 = z at hI
  have ha : a = x := by
    rcases Nat.lt_or_ge a x with hlt | hge
    · rcases h with ⟨_, h2⟩ | ⟨_, h2, h3, h4⟩
      · omega
      · have h5 := hI.same (x - 1) (by omega) (by have := hI.ge; omega)
        rw [h3, h4 hx] at h5
        cases b <;> cases h5
    · have := hI.le; omega
  subst ha
  refine ⟨z, hI, .inr ⟨by omega, by omega, ?_, fun hz => ?_⟩, fun hi => ?_⟩
  · rw [Nat.add_sub_cancel]; exact hI.same z hI.ge (Nat.le_refl _)
  · rcases hI.behind with e | e
    · omega
    · cases h1 : emp s (z + 1) <;> cases h2 : emp s a <;> simp_all
  · rcases h with ⟨h1, _⟩ | ⟨_, _, _, h4⟩
    · omega
    · exact h4 hx
end Para
set_option maxHeartbeats 2000000 in
set_option maxRecDepth 100000 in
theorem paraAll_walk (s : ByteArray) (w : World) :
    Calls Try.prog 6 #[.string s] w fun e w' => e = .returned (.bool true) ∧ Below w.heap.size w w' := by
  have LV := Lib.hid para_lives
  have hX := Below.refl w.heap.size w
  by_cases h0 : 300 < s.size
  · have g0 : decide ((300 : Int) < (s.size : Int)) = true := decide_eq_true (by omega)
    go_enter Try.func6, Try.ntmps6
    go_wp2_with (first
      | (go_at_call 7; (with_reducible refine (LV.out _).mono ?_); rintro e w8 ⟨rfl, hb⟩; replace hX := para_run hX hb; clear hb))
    go_ret
    exact ⟨rfl, hX⟩
  have g0 : decide ((300 : Int) < (s.size : Int)) = false := decide_eq_false (by omega)
  cases hv : Utf.valid s.data.toList with
  | false =>
    have CV := Lib.hid (fun w => utf_Valid s (by omega) w)
    rw [hv] at CV
    clear hv
    go_enter Try.func6, Try.ntmps6
    go_wp2_with (first
      | (go_at_call 13; (with_reducible refine (CV.out _).mono ?_); rintro e w9 ⟨rfl, rfl⟩)
      | (go_at_call 7; (with_reducible refine (LV.out _).mono ?_); rintro e w8 ⟨rfl, hb⟩; replace hX := para_run hX hb; clear hb))
    go_ret
    exact ⟨rfl, hX⟩
  | true =>
    have CV := Lib.hid (fun w => utf_Valid s (by omega) w)
    rw [hv] at CV
    have hs9 : s.size ≤ 1000000000000 := by omega
    have CC := Lib.hid (fun w => line_Count s hs9 w)
    have hlen := Line.L_length s.data.toList
    rw [data_len] at hlen
    have HV := Lib.hid hv
    have HL : Hid (∀ k, k < (Line.L s.data.toList).length → k < (Line.L s.data.toList).length) := fun _ h => h
    obtain ⟨M, hM⟩ : ∃ M, (Line.L s.data.toList).length = M := ⟨_, rfl⟩
    rw [hM] at CC
    have HM := Lib.hid hM
    have hM9 : M ≤ 1000 := by omega
    clear hv hlen hM HL h0
    go_enter Try.func6, Try.ntmps6
    go_wp2_with (first
      | (go_at_call 13; (with_reducible refine (CV.out _).mono ?_); rintro e w9 ⟨rfl, rfl⟩))
    go_loopw [3, 4, 5] (fun xv bv iv wr => ∃ (x i : Nat) (b : Bool), xv = .int .i64 x ∧ bv = .bool b ∧ iv = .int .i64 i ∧ x ≤ M ∧ i ≤ x ∧ Below w.heap.size w wr ∧ Hid (Para.Edge s.data.toList i x b)) (fun xv _ _ _ => M - (intOf xv).toNat)
    case atStart => exact ⟨0, 0, false, rfl, rfl, rfl, Nat.zero_le _, Nat.le_refl _, hX, .inl ⟨rfl, rfl⟩⟩
    case round =>
      obtain ⟨x, i, b, rfl, rfl, rfl, hxM, hix, hX, HE⟩ := hrel
      by_cases hx : x < M
      · have g1 : decide ((x : Int) < (M : Int)) = true := decide_eq_true (by omega)
        obtain ⟨z, hI, hE2, hne⟩ := HE.out.next HV.out (by rw [HM.out]; exact hx)
        have S0 := Lib.hid (fun w => line_Start s (x : Nat) hs9 w)
        rw [Para.start_at (by rw [HM.out]; exact hx)] at S0
        have E0 := Lib.hid (fun w => line_End s (x : Nat) hs9 w)
        rw [Para.stop_at (by rw [HM.out]; exact hx)] at E0
        have B0 := Lib.hid (fun w => para_Block s (Para.at_ s.data.toList x : Nat) false hs9 w)
        rw [Para.blk_start (by rw [HM.out]; exact hx) hI] at B0
        have ht := Para.emp_test (s := s.data.toList) (k := x) (by rw [HM.out]; exact hx)
        have hxz := hI.ge
        have hzM := hI.lt
        rw [HM.out] at hzM
        have HI := Lib.hid hI
        have HE2 := Lib.hid hE2
        have HN := Lib.hid hne
        have HS := Lib.hid hs9
        obtain ⟨e, he⟩ : ∃ e, Para.emp s.data.toList x = e := ⟨_, rfl⟩
        rw [he] at ht HE2 HN
        have HX := Lib.hid he
        generalize Para.at_ s.data.toList x = p0 at *
        generalize Para.end_ s.data.toList x = p1 at *
        have g2 : ((x : Int) != (x : Int)) = false := by simp
        have g3 : decide ((z : Int) < (x : Int)) = false := decide_eq_false (by omega)
        have g3n : decide (z < x) = false := decide_eq_false (by omega)
        have g4 : decide ((M : Int) ≤ (z : Int)) = false := decide_eq_false (by omega)
        have g4n : decide (M ≤ z) = false := decide_eq_false (by omega)
        clear hI hE2 hne he hs9 HE
        go_wp2_with (first
          | (go_at_call 14; (with_reducible refine (CC.out _).mono ?_); rintro e w1 ⟨rfl, hb⟩; replace hX := para_run hX hb; clear hb)
          | (go_at_call 15; (with_reducible refine (S0.out _).mono ?_); rintro e w2 ⟨rfl, hb⟩; replace hX := para_run hX hb; clear hb)
          | (go_at_call 10; (with_reducible refine (B0.out _).mono ?_); rintro e w3 ⟨rfl, hb⟩; replace hX := para_run hX hb; clear hb)
          | (go_at_call 16; (with_reducible refine (E0.out _).mono ?_); rintro e w4 ⟨rfl, hb⟩; replace hX := para_run hX hb; clear hb))
        go_loopw [9] (fun kv wr => ∃ k : Nat, kv = .int .i64 k ∧ x ≤ k ∧ k ≤ z + 1 ∧ Below w.heap.size w wr) (fun kv _ => z + 1 - (intOf kv).toNat)
        case atStart => exact ⟨x, rfl, Nat.le_refl _, by omega, hX⟩
        case round =>
          obtain ⟨k, rfl, hxk, hkz, hX⟩ := hrel
          by_cases hk : k ≤ z
          · have g5 : decide ((k : Int) ≤ (z : Int)) = true := decide_eq_true (by omega)
            have S1 := Lib.hid (fun w => line_Start s (k : Nat) HS.out w)
            rw [Para.start_at (by rw [HM.out]; omega)] at S1
            have E1 := Lib.hid (fun w => line_End s (k : Nat) HS.out w)
            rw [Para.stop_at (by rw [HM.out]; omega)] at E1
            have B1 := Lib.hid (fun w => para_Block s (Para.end_ s.data.toList k : Nat) false HS.out w)
            rw [Para.blk_end (by rw [HM.out]; omega) (HI.out.of_ hxk hk)] at B1
            have ht1 := Para.emp_test (s := s.data.toList) (k := k) (by rw [HM.out]; omega)
            rw [HI.out.same k hxk hk, HX.out] at ht1
            have g6 : (e != e) = false := by cases e <;> rfl
            have g7 : ((z : Int) != (z : Int)) = false := by simp
            generalize Para.at_ s.data.toList k = p2 at *
            generalize Para.end_ s.data.toList k = p3 at *
            go_wp2_with (first
              | (go_at_call 15; (with_reducible refine (S1.out _).mono ?_); rintro e w2 ⟨rfl, hb⟩; replace hX := para_run hX hb; clear hb)
              | (go_at_call 16; (with_reducible refine (E1.out _).mono ?_); rintro e w4 ⟨rfl, hb⟩; replace hX := para_run hX hb; clear hb)
              | (go_at_call 10; (with_reducible refine (B1.out _).mono ?_); rintro e w3 ⟨rfl, hb⟩; replace hX := para_run hX hb; clear hb))
            go_roundw
            case rel => exact ⟨k + 1, by go_num, by omega, by omega, hX⟩
            case measure => simp [intOf]; omega
          · obtain rfl : k = z + 1 := by omega
            have g5 : decide ((z : Int) + 1 ≤ (z : Int)) = false := decide_eq_false (by omega)
            rcases Nat.eq_zero_or_pos i with hi | hi
            · have g8 : decide ((0 : Int) < (i : Int)) = false := decide_eq_false (by omega)
              have g8n : decide (0 < i) = false := decide_eq_false (by omega)
              go_wp2
              go_roundw
              case rel => exact ⟨z + 1, i + 1, e, by go_num, rfl, by go_num, by omega, by omega, hX, HE2⟩
              case measure => simp [intOf]; omega
            · have g8 : decide ((0 : Int) < (i : Int)) = true := decide_eq_true (by omega)
              have g8n : decide (0 < i) = true := decide_eq_true (by omega)
              have g9 : (e == b) = false := by rw [HN.out hi]; cases b <;> rfl
              go_wp2
              go_roundw
              case rel => exact ⟨z + 1, i + 1, e, by go_num, rfl, by go_num, by omega, by omega, hX, HE2⟩
              case measure => simp [intOf]; omega
      · obtain rfl : x = M := by omega
        have g1 : decide ((x : Int) < (x : Int)) = false := decide_eq_false (by omega)
        go_wp2_with (first
          | (go_at_call 14; (with_reducible refine (CC.out _).mono ?_); rintro e w1 ⟨rfl, hb⟩; replace hX := para_run hX hb; clear hb)
          | (go_at_call 7; (with_reducible refine (LV.out _).mono ?_); rintro e w8 ⟨rfl, hb⟩; replace hX := para_run hX hb; clear hb))
        go_ret
        exact ⟨rfl, hX⟩
section
open Go.ChangeShapes Go.WideShapes Go.ChangeAt
open Go.ChangeMaps (open_string)
set_option maxRecDepth 100000 in
theorem paraAll_lifted (os : Os) (started : os.Started) (H : Type) (enc : TypeId × Value → H) :
    ReturnsInHanded {} Try.checked os 6 .any (Rows.paraAllSpec.pre6 enc Try.prog Try.f6 Rows.paraAllRow.domain false) (Rows.paraAllSpec.post enc Try.prog Try.f6 false true false false) := by
  refine returnsInHanded_of_change_sized (C := Try.checked) own_knob started (by kernel_rfl) Try.func6
    (ChangeSpec.witness6 (enc := enc) (C := Try.checked) false ⟨#[], #[.string .empty], []⟩ 8 (by kernel_rfl) (by kernel_rfl) (by kernel_rfl) (by kernel_rfl)) ?_
  intro W base args ds gs before hval0 hW _ hsz0 _
  have hsz : (DataW.weightsEach Try.prog (Try.f6.params.toList ++ Rows.paraAllSpec.plain.varTypes Try.prog) (ds ++ gs)).all (· ≤ reachBytes) = true := hsz0
  clear hsz0
  have hval : ∀ (j : Nat) t v, Try.f6.params[j]? = some t → args[j]? = some v → Value.okWide Try.prog W .any base t v := hval0
  have hW' := hW
  obtain ⟨p, q, hA0, hV, rfl, hfz, hnd⟩ := hW
  have hA : DataW.TrodAll enc Try.prog W 0 (fun _ => true) true Try.f6.params.toList args.toList ds p := hA0
  rw [Try.params6] at hA hval hsz
  obtain ⟨v0, vs0, d0, ds0, p0, q0, hargs, rfl, rfl, h0, r0⟩ := trodAll_cons hA
  obtain ⟨rfl, rfl, rfl⟩ := trodAll_nil r0
  obtain rfl : args = #[v0] := by cases args; simp_all
  obtain ⟨rfl, rfl⟩ := trodVars_none hV
  obtain ⟨s0, rfl, rfl, rfl, hmax0⟩ := open_string Try.underlying9 (hval 0 9 v0 rfl rfl) h0
  have hs0 : s0.size ≤ 140737488351232 := by rw [← data_len]; exact sized_string hsz (j := 0) (t := 9) rfl rfl
  refine (paraAll_walk s0 _).mono fun e W' ⟨he, hb⟩ => ?_
  subst he
  exact ⟨_, rfl, law_post rfl rfl (by rw [Try.params6]; decide +kernel) ⟨rfl, rfl, rfl⟩ hW' hb⟩
theorem paraAll_holds : Rows.ParaAllSaid :=
  OpenClaim.holds_of_wide 6 Try.f6 rfl rfl rfl rfl rfl rfl rfl ⟨rfl, rfl, rfl, rfl, rfl⟩ rfl rfl rfl rfl rfl (by kernel_rfl) Try.func6 (by kernel_rfl)
    (of_decide_eq_true (by kernel_rfl)) (by unfold Func.isWrapper; first | (rw [if_pos (by decide +kernel)]; kernel_rfl) | (rw [if_neg (by decide +kernel)]; exact ⟨rfl, rfl⟩))
    (fun os started H enc _ => paraAll_lifted os started H enc)
end
end Go.Proofs.Ytjgfcnjnedgejaa
