/-
  'calamuslaw18.ParaTimes' answers true for every text, place, count and way: n times is once, n times; each step leads on, or back.
-/
import Derived.Test.YtjgfcnjnedgejaaParaLives
namespace Go.Proofs.Ytjgfcnjnedgejaa
open Go.RowKit
theorem para_u8 {n : Int} (h : (Lit.int .u8 n).wf = true) : 0 ≤ n ∧ n ≤ 255 := by
  simp only [Lit.wf, Bool.and_eq_true, decide_eq_true_eq] at h
  exact h
namespace Para
/-- Each step leads on, or back. -/
theorem goN_leads {s : List UInt8} {back : Bool} {q : Nat} (hq : Utf.place s (q : Int) = true) (he : q ≠ edge back s) : if back then goN back s q 1 < q else q < goN back s q 1 := by
  have hv := Line.place_ok hq
  have hle : q ≤ s.length := by
    obtain ⟨n, e, hn⟩ := Line.place_nat hq
    omega
  rcases (goN_ok hv back q 1).2 with h | h
  · rw [h]
    cases back with
    | true => simp only [edge] at he ⊢; simp; omega
    | false => simp only [edge] at he ⊢; simp; omega
  · exact h
end Para
set_option maxHeartbeats 2000000 in
set_option maxRecDepth 100000 in
theorem paraTimes_walk (s : ByteArray) (p : Int) (n : Int) (back : Bool) (hn : 0 ≤ n ∧ n ≤ 255) (w : World) :
    Calls Try.prog 5 #[.string s, .int .i64 p, .int .u8 n, .bool back] w fun e w' => e = .returned (.bool true) ∧ Below w.heap.size w w' := by
  have LV := Lib.hid para_lives
  have hX := Below.refl w.heap.size w
  by_cases h0 : 300 < s.size
  · have g0 : decide ((300 : Int) < (s.size : Int)) = true := decide_eq_true (by omega)
    go_enter Try.func5, Try.ntmps5
    go_wp2_with (first
      | (go_at_call 7; (with_reducible refine (LV.out _).mono ?_); rintro e w8 ⟨rfl, hb⟩; replace hX := para_run hX hb; clear hb))
    go_ret
    exact ⟨rfl, hX⟩
  have g0 : decide ((300 : Int) < (s.size : Int)) = false := decide_eq_false (by omega)
  by_cases h1 : n < 1
  · have g1 : decide (n < 1) = true := decide_eq_true h1
    go_enter Try.func5, Try.ntmps5
    go_wp2_with (first
      | (go_at_call 7; (with_reducible refine (LV.out _).mono ?_); rintro e w8 ⟨rfl, hb⟩; replace hX := para_run hX hb; clear hb))
    go_ret
    exact ⟨rfl, hX⟩
  have g1 : decide (n < 1) = false := decide_eq_false h1
  by_cases h2 : 20 < n
  · have g2 : decide ((20 : Int) < n) = true := decide_eq_true h2
    go_enter Try.func5, Try.ntmps5
    go_wp2_with (first
      | (go_at_call 7; (with_reducible refine (LV.out _).mono ?_); rintro e w8 ⟨rfl, hb⟩; replace hX := para_run hX hb; clear hb))
    go_ret
    exact ⟨rfl, hX⟩
  have g2 : decide ((20 : Int) < n) = false := decide_eq_false h2
  have cP := fun w => utf_Place s p (by omega) w
  cases hp : Utf.place s.data.toList p with
  | false =>
    rw [hp] at cP
    have CP := Lib.hid cP
    clear cP hp
    go_enter Try.func5, Try.ntmps5
    go_wp2_with (first
      | (go_at_call 12; (with_reducible refine (CP.out _).mono ?_); rintro e w9 ⟨rfl, rfl⟩)
      | (go_at_call 7; (with_reducible refine (LV.out _).mono ?_); rintro e w8 ⟨rfl, hb⟩; replace hX := para_run hX hb; clear hb))
    go_ret
    exact ⟨rfl, hX⟩
  | true =>
    rw [hp] at cP
    have CP := Lib.hid cP
    obtain ⟨pn, rfl, _⟩ := Line.place_nat hp
    obtain ⟨N, rfl⟩ : ∃ N : Nat, n = N := ⟨n.toNat, by omega⟩
    have hv := Line.place_ok hp
    have hs9 : s.size ≤ 1000000000000 := by omega
    have hN1 : 1 ≤ N := by omega
    have hN20 : N ≤ 20 := by omega
    have g3 : IntKind.i64.wrap ((N : Nat) : Int) = (N : Nat) := by rw [IntKind.wrap_i64]; omega
    have g4 : decide (N < 1) = false := decide_eq_false (by omega)
    have g5 : decide (20 < N) = false := decide_eq_false (by omega)
    have g6 : (N : Int) ≠ 0 := by omega
    have g7 : ¬ N = 0 := by omega
    clear cP h1 h2 hn
    cases back with
    | true =>
      have ck := fun (q : Nat) (m : Int) (hm : m ≤ 1000000) w => para_Go s (q : Nat) ⟨#[123]⟩ m hs9 hm w
      rw [show (⟨#[123]⟩ : ByteArray).data.toList = [123] from rfl] at ck
      by_cases he : pn = Para.edge true s.data.toList
      · have C0 := Lib.hid (ck pn (N : Int) (by omega))
        have C1 := Lib.hid (ck pn 1 (by omega))
        rw [Para.goV_edge (back := true) rfl he, show Para.res (-1) = .tuple #[.int .i64 0, .bool false] from rfl] at C0 C1
        have t1 : ((pn : Int) != (pn : Int)) = false := by simp
        have t2 : ((pn : Int) == (pn : Int)) = true := by simp
        clear ck he hp hv hs9 h0
        go_enter Try.func5, Try.ntmps5
        go_wp2_with (first
          | (go_at_call 12; (with_reducible refine (CP.out _).mono ?_); rintro e w9 ⟨rfl, rfl⟩)
          | (go_at_call 8; (with_reducible refine (C0.out _).mono ?_); rintro e w1 ⟨rfl, hb⟩; replace hX := para_run hX hb; clear hb))
        go_loopw [12, 13] (fun pv iv wr => pv = .int .i64 (pn : Nat) ∧ iv = .int .i64 0 ∧ Below w.heap.size w wr) (fun _ _ _ => 0)
        case atStart => exact ⟨rfl, rfl, hX⟩
        case round =>
          obtain ⟨rfl, rfl, hX⟩ := hrel
          have g9 : decide ((0 : Int) < (N : Int)) = true := decide_eq_true (by omega)
          have g9n : decide (0 < N) = true := decide_eq_true (by omega)
          go_wp2_with (first
            | (go_at_call 8; (with_reducible refine (C1.out _).mono ?_); rintro e w2 ⟨rfl, hb⟩; replace hX := para_run hX hb; clear hb)
            | (go_at_call 7; (with_reducible refine (LV.out _).mono ?_); rintro e w8 ⟨rfl, hb⟩; replace hX := para_run hX hb; clear hb))
          go_ret
          exact ⟨rfl, hX⟩
      · obtain ⟨F, hF⟩ : ∃ F, Para.itN true s.data.toList pn = F := ⟨_, rfl⟩
        have F0 : F 0 = pn := by rw [← hF]; rfl
        have FN : Para.goN true s.data.toList pn N = F N := by rw [← hF]; exact (Para.itN_pos (by omega)).symm
        have FS : Hid (∀ i, Para.goN true s.data.toList (F i) 1 = F (i + 1)) := by rw [← hF]; exact fun i => (Para.itN_succ hv true pn i).symm
        have FP : Hid (∀ i, Utf.place s.data.toList (F i : Int) = true) := by rw [← hF]; exact fun i => Para.itN_place hp i
        have FE : Hid (∀ i d, F i = Para.edge true s.data.toList → F (i + d) = Para.edge true s.data.toList) := by rw [← hF]; exact fun i d h => Para.itN_edge hv h d
        have C0 := Lib.hid (ck pn (N : Int) (by omega))
        rw [Para.goV_at (back := true) hp rfl he, show (max (N : Int) 1).toNat = N by omega, FN, Para.res_at (by omega)] at C0
        have CK := Lib.hid ck
        have HE := Lib.hid he
        have HS := Lib.hid hs9
        generalize hz : F N = z at *
        have HZ := Lib.hid hz
        clear ck he hp hv hF FN hz h0 hs9
        go_enter Try.func5, Try.ntmps5
        go_wp2_with (first
          | (go_at_call 12; (with_reducible refine (CP.out _).mono ?_); rintro e w9 ⟨rfl, rfl⟩)
          | (go_at_call 8; (with_reducible refine (C0.out _).mono ?_); rintro e w1 ⟨rfl, hb⟩; replace hX := para_run hX hb; clear hb))
        go_loopw [12, 13] (fun pv iv wr => ∃ i : Nat, iv = .int .i64 i ∧ pv = .int .i64 (F i : Nat) ∧ i ≤ N ∧ Below w.heap.size w wr ∧ Hid (0 < i → F i < pn)) (fun _ iv _ => N - (intOf iv).toNat)
        case atStart => exact ⟨0, rfl, by rw [F0], Nat.zero_le _, hX, fun h => absurd h (Nat.lt_irrefl 0)⟩
        case round =>
          obtain ⟨i, rfl, rfl, hiN, hX, HF⟩ := hrel
          by_cases hlt : i < N
          · have g9 : decide ((i : Int) < (N : Int)) = true := decide_eq_true (by omega)
            by_cases hq : F i = Para.edge true s.data.toList
            · have C1 := Lib.hid (CK.out (F i) 1 (by omega))
              rw [Para.goV_edge (back := true) rfl hq, show Para.res (-1) = .tuple #[.int .i64 0, .bool false] from rfl] at C1
              have hpos : 0 < i := by
                rcases Nat.eq_zero_or_pos i with h | h
                · exact absurd (by rw [← hq, h, F0]) HE.out
                · exact h
              have hfar := HF.out hpos
              have hzq : z = F i := by
                have := FE.out i (N - i) hq
                rw [show i + (N - i) = N by omega, HZ.out] at this
                rw [this, hq]
              have t1 : ((F i : Int) != (pn : Int)) = true := by rw [bne_iff_ne]; omega
              have t2 : ((z : Int) == (F i : Int)) = true := by rw [hzq]; simp
              clear hq hpos hfar hzq F0
              generalize F i = q at *
              go_wp2_with (first
                | (go_at_call 8; (with_reducible refine (C1.out _).mono ?_); rintro e w2 ⟨rfl, hb⟩; replace hX := para_run hX hb; clear hb)
                | (go_at_call 7; (with_reducible refine (LV.out _).mono ?_); rintro e w8 ⟨rfl, hb⟩; replace hX := para_run hX hb; clear hb))
              go_ret
              exact ⟨rfl, hX⟩
            · have hl := Para.goN_leads (back := true) (FP.out i) hq
              rw [FS.out] at hl
              have C1 := Lib.hid (CK.out (F i) 1 (by omega))
              rw [Para.goV_at (back := true) (FP.out i) rfl hq, show (max (1 : Int) 1).toNat = 1 from rfl, FS.out, Para.res_at (by omega)] at C1
              have cp := Lib.hid (fun w => utf_Place s (F (i + 1) : Nat) (by have := HS.out; omega) w)
              rw [FP.out] at cp
              have HF2 : Hid (0 < i + 1 → F (i + 1) < pn) := fun _ => by
                simp at hl
                rcases Nat.eq_zero_or_pos i with h | h
                · rw [h, F0] at hl; rw [h]; exact hl
                · have := HF.out h; omega
              have hl2 : F (i + 1) < F i := by simpa using hl
              have t3 : decide ((F i : Int) ≤ (F (i + 1) : Int)) = false := decide_eq_false (by omega)
              have t4 : decide (F i ≤ F (i + 1)) = false := decide_eq_false (by omega)
              clear hq hl F0
              generalize hqi : F i = q at *
              generalize hoi : F (i + 1) = o at *
              go_wp2_with (first
                | (go_at_call 8; (with_reducible refine (C1.out _).mono ?_); rintro e w2 ⟨rfl, hb⟩; replace hX := para_run hX hb; clear hb)
                | (go_at_call 12; (with_reducible refine (cp.out _).mono ?_); rintro e w9 ⟨rfl, rfl⟩))
              go_roundw
              case rel => exact ⟨i + 1, by go_num, by rw [hoi], by omega, hX, by rw [hoi]; exact HF2⟩
              case measure => simp [intOf]; omega
          · obtain rfl : i = N := by omega
            have hfar := HF.out (by omega)
            have hfi := HZ.out
            rw [hfi] at hfar
            have t1 : ((z : Int) != (pn : Int)) = true := by rw [bne_iff_ne]; omega
            have t2 : ((z : Int) == (z : Int)) = true := by simp
            have g9 : decide ((i : Int) < (i : Int)) = false := decide_eq_false (by omega)
            rw [hfi]
            clear hfar hfi F0 HF
            go_wp2_with (first
              | (go_at_call 7; (with_reducible refine (LV.out _).mono ?_); rintro e w8 ⟨rfl, hb⟩; replace hX := para_run hX hb; clear hb))
            go_ret
            exact ⟨rfl, hX⟩
    | false =>
      have ck := fun (q : Nat) (m : Int) (hm : m ≤ 1000000) w => para_Go s (q : Nat) ⟨#[125]⟩ m hs9 hm w
      rw [show (⟨#[125]⟩ : ByteArray).data.toList = [125] from rfl] at ck
      by_cases he : pn = Para.edge false s.data.toList
      · have C0 := Lib.hid (ck pn (N : Int) (by omega))
        have C1 := Lib.hid (ck pn 1 (by omega))
        rw [Para.goV_edge (back := false) rfl he, show Para.res (-1) = .tuple #[.int .i64 0, .bool false] from rfl] at C0 C1
        have t1 : ((pn : Int) != (pn : Int)) = false := by simp
        have t2 : ((pn : Int) == (pn : Int)) = true := by simp
        clear ck he hp hv hs9 h0
        go_enter Try.func5, Try.ntmps5
        go_wp2_with (first
          | (go_at_call 12; (with_reducible refine (CP.out _).mono ?_); rintro e w9 ⟨rfl, rfl⟩)
          | (go_at_call 8; (with_reducible refine (C0.out _).mono ?_); rintro e w1 ⟨rfl, hb⟩; replace hX := para_run hX hb; clear hb))
        go_loopw [12, 13] (fun pv iv wr => pv = .int .i64 (pn : Nat) ∧ iv = .int .i64 0 ∧ Below w.heap.size w wr) (fun _ _ _ => 0)
        case atStart => exact ⟨rfl, rfl, hX⟩
        case round =>
          obtain ⟨rfl, rfl, hX⟩ := hrel
          have g9 : decide ((0 : Int) < (N : Int)) = true := decide_eq_true (by omega)
          have g9n : decide (0 < N) = true := decide_eq_true (by omega)
          go_wp2_with (first
            | (go_at_call 8; (with_reducible refine (C1.out _).mono ?_); rintro e w2 ⟨rfl, hb⟩; replace hX := para_run hX hb; clear hb)
            | (go_at_call 7; (with_reducible refine (LV.out _).mono ?_); rintro e w8 ⟨rfl, hb⟩; replace hX := para_run hX hb; clear hb))
          go_ret
          exact ⟨rfl, hX⟩
      · obtain ⟨F, hF⟩ : ∃ F, Para.itN false s.data.toList pn = F := ⟨_, rfl⟩
        have F0 : F 0 = pn := by rw [← hF]; rfl
        have FN : Para.goN false s.data.toList pn N = F N := by rw [← hF]; exact (Para.itN_pos (by omega)).symm
        have FS : Hid (∀ i, Para.goN false s.data.toList (F i) 1 = F (i + 1)) := by rw [← hF]; exact fun i => (Para.itN_succ hv false pn i).symm
        have FP : Hid (∀ i, Utf.place s.data.toList (F i : Int) = true) := by rw [← hF]; exact fun i => Para.itN_place hp i
        have FE : Hid (∀ i d, F i = Para.edge false s.data.toList → F (i + d) = Para.edge false s.data.toList) := by rw [← hF]; exact fun i d h => Para.itN_edge hv h d
        have C0 := Lib.hid (ck pn (N : Int) (by omega))
        rw [Para.goV_at (back := false) hp rfl he, show (max (N : Int) 1).toNat = N by omega, FN, Para.res_at (by omega)] at C0
        have CK := Lib.hid ck
        have HE := Lib.hid he
        have HS := Lib.hid hs9
        generalize hz : F N = z at *
        have HZ := Lib.hid hz
        clear ck he hp hv hF FN hz h0 hs9
        go_enter Try.func5, Try.ntmps5
        go_wp2_with (first
          | (go_at_call 12; (with_reducible refine (CP.out _).mono ?_); rintro e w9 ⟨rfl, rfl⟩)
          | (go_at_call 8; (with_reducible refine (C0.out _).mono ?_); rintro e w1 ⟨rfl, hb⟩; replace hX := para_run hX hb; clear hb))
        go_loopw [12, 13] (fun pv iv wr => ∃ i : Nat, iv = .int .i64 i ∧ pv = .int .i64 (F i : Nat) ∧ i ≤ N ∧ Below w.heap.size w wr ∧ Hid (0 < i → pn < F i)) (fun _ iv _ => N - (intOf iv).toNat)
        case atStart => exact ⟨0, rfl, by rw [F0], Nat.zero_le _, hX, fun h => absurd h (Nat.lt_irrefl 0)⟩
        case round =>
          obtain ⟨i, rfl, rfl, hiN, hX, HF⟩ := hrel
          by_cases hlt : i < N
          · have g9 : decide ((i : Int) < (N : Int)) = true := decide_eq_true (by omega)
            by_cases hq : F i = Para.edge false s.data.toList
            · have C1 := Lib.hid (CK.out (F i) 1 (by omega))
              rw [Para.goV_edge (back := false) rfl hq, show Para.res (-1) = .tuple #[.int .i64 0, .bool false] from rfl] at C1
              have hpos : 0 < i := by
                rcases Nat.eq_zero_or_pos i with h | h
                · exact absurd (by rw [← hq, h, F0]) HE.out
                · exact h
              have hfar := HF.out hpos
              have hzq : z = F i := by
                have := FE.out i (N - i) hq
                rw [show i + (N - i) = N by omega, HZ.out] at this
                rw [this, hq]
              have t1 : ((F i : Int) != (pn : Int)) = true := by rw [bne_iff_ne]; omega
              have t2 : ((z : Int) == (F i : Int)) = true := by rw [hzq]; simp
              clear hq hpos hfar hzq F0
              generalize F i = q at *
              go_wp2_with (first
                | (go_at_call 8; (with_reducible refine (C1.out _).mono ?_); rintro e w2 ⟨rfl, hb⟩; replace hX := para_run hX hb; clear hb)
                | (go_at_call 7; (with_reducible refine (LV.out _).mono ?_); rintro e w8 ⟨rfl, hb⟩; replace hX := para_run hX hb; clear hb))
              go_ret
              exact ⟨rfl, hX⟩
            · have hl := Para.goN_leads (back := false) (FP.out i) hq
              rw [FS.out] at hl
              have C1 := Lib.hid (CK.out (F i) 1 (by omega))
              rw [Para.goV_at (back := false) (FP.out i) rfl hq, show (max (1 : Int) 1).toNat = 1 from rfl, FS.out, Para.res_at (by omega)] at C1
              have cp := Lib.hid (fun w => utf_Place s (F (i + 1) : Nat) (by have := HS.out; omega) w)
              rw [FP.out] at cp
              have HF2 : Hid (0 < i + 1 → pn < F (i + 1)) := fun _ => by
                simp at hl
                rcases Nat.eq_zero_or_pos i with h | h
                · rw [h, F0] at hl; rw [h]; exact hl
                · have := HF.out h; omega
              have hl2 : F i < F (i + 1) := by simpa using hl
              have t3 : decide ((F (i + 1) : Int) ≤ (F i : Int)) = false := decide_eq_false (by omega)
              have t4 : decide (F (i + 1) ≤ F i) = false := decide_eq_false (by omega)
              clear hq hl F0
              generalize hqi : F i = q at *
              generalize hoi : F (i + 1) = o at *
              go_wp2_with (first
                | (go_at_call 8; (with_reducible refine (C1.out _).mono ?_); rintro e w2 ⟨rfl, hb⟩; replace hX := para_run hX hb; clear hb)
                | (go_at_call 12; (with_reducible refine (cp.out _).mono ?_); rintro e w9 ⟨rfl, rfl⟩))
              go_roundw
              case rel => exact ⟨i + 1, by go_num, by rw [hoi], by omega, hX, by rw [hoi]; exact HF2⟩
              case measure => simp [intOf]; omega
          · obtain rfl : i = N := by omega
            have hfar := HF.out (by omega)
            have hfi := HZ.out
            rw [hfi] at hfar
            have t1 : ((z : Int) != (pn : Int)) = true := by rw [bne_iff_ne]; omega
            have t2 : ((z : Int) == (z : Int)) = true := by simp
            have g9 : decide ((i : Int) < (i : Int)) = false := decide_eq_false (by omega)
            rw [hfi]
            clear hfar hfi F0 HF
            go_wp2_with (first
              | (go_at_call 7; (with_reducible refine (LV.out _).mono ?_); rintro e w8 ⟨rfl, hb⟩; replace hX := para_run hX hb; clear hb))
            go_ret
            exact ⟨rfl, hX⟩
section
open Go.ChangeShapes Go.WideShapes Go.ChangeAt
open Go.ChangeMaps (open_string)
set_option maxRecDepth 100000 in
theorem paraTimes_lifted (os : Os) (started : os.Started) (H : Type) (enc : TypeId × Value → H) :
    ReturnsInHanded {} Try.checked os 5 .any (Rows.paraTimesSpec.pre6 enc Try.prog Try.f5 Rows.paraTimesRow.domain false) (Rows.paraTimesSpec.post enc Try.prog Try.f5 false true false false) := by
  refine returnsInHanded_of_change_sized (C := Try.checked) own_knob started (by kernel_rfl) Try.func5
    (ChangeSpec.witness6 (enc := enc) (C := Try.checked) false ⟨#[], #[.string .empty, .int .i64 0, .int .u8 0, .bool false], []⟩ 8 (by kernel_rfl) (by kernel_rfl) (by kernel_rfl) (by kernel_rfl)) ?_
  intro W base args ds gs before hval0 hW _ hsz0 _
  have hsz : (DataW.weightsEach Try.prog (Try.f5.params.toList ++ Rows.paraTimesSpec.plain.varTypes Try.prog) (ds ++ gs)).all (· ≤ reachBytes) = true := hsz0
  clear hsz0
  have hval : ∀ (j : Nat) t v, Try.f5.params[j]? = some t → args[j]? = some v → Value.okWide Try.prog W .any base t v := hval0
  have hW' := hW
  obtain ⟨p, q, hA0, hV, rfl, hfz, hnd⟩ := hW
  have hA : DataW.TrodAll enc Try.prog W 0 (fun _ => true) true Try.f5.params.toList args.toList ds p := hA0
  rw [Try.params5] at hA hval hsz
  obtain ⟨v0, vs0, d0, ds0, p0, q0, hargs, rfl, rfl, h0, r0⟩ := trodAll_cons hA
  obtain ⟨v1, vs1, d1, ds1, p1, q1, rfl, rfl, rfl, h1, r1⟩ := trodAll_cons r0
  obtain ⟨v2, vs2, d2, ds2, p2, q2, rfl, rfl, rfl, h2, r2⟩ := trodAll_cons r1
  obtain ⟨v3, vs3, d3, ds3, p3, q3, rfl, rfl, rfl, h3, r3⟩ := trodAll_cons r2
  obtain ⟨rfl, rfl, rfl⟩ := trodAll_nil r3
  obtain rfl : args = #[v0, v1, v2, v3] := by cases args; simp_all
  obtain ⟨rfl, rfl⟩ := trodVars_none hV
  obtain ⟨s0, rfl, rfl, rfl, hmax0⟩ := open_string Try.underlying9 (hval 0 9 v0 rfl rfl) h0
  have hs0 : s0.size ≤ 140737488351232 := by rw [← data_len]; exact sized_string hsz (j := 0) (t := 9) rfl rfl
  obtain ⟨n1, rfl, rfl, rfl, wn1⟩ := open_int Try.underlying3 (hval 1 3 v1 rfl rfl) h1
  obtain ⟨n2, rfl, rfl, rfl, wn2⟩ := open_int Try.underlying5 (hval 2 5 v2 rfl rfl) h2
  obtain ⟨b3, rfl, rfl, rfl⟩ := open_bool Try.underlying4 (hval 3 4 v3 rfl rfl) h3
  refine (paraTimes_walk s0 n1 n2 b3 (para_u8 wn2) _).mono fun e W' ⟨he, hb⟩ => ?_
  subst he
  exact ⟨_, rfl, law_post rfl rfl (by rw [Try.params5]; decide +kernel) ⟨rfl, rfl, rfl⟩ hW' hb⟩
theorem paraTimes_holds : Rows.ParaTimesSaid :=
  OpenClaim.holds_of_wide 5 Try.f5 rfl rfl rfl rfl rfl rfl rfl ⟨rfl, rfl, rfl, rfl, rfl⟩ rfl rfl rfl rfl rfl (by kernel_rfl) Try.func5 (by kernel_rfl)
    (of_decide_eq_true (by kernel_rfl)) (by unfold Func.isWrapper; first | (rw [if_pos (by decide +kernel)]; kernel_rfl) | (rw [if_neg (by decide +kernel)]; exact ⟨rfl, rfl⟩))
    (fun os started H enc _ => paraTimes_lifted os started H enc)
end
end Go.Proofs.Ytjgfcnjnedgejaa
