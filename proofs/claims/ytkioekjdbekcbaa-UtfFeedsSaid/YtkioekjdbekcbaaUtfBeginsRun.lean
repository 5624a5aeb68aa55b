/-
  The document's answer whether bytes begin a rune that they do not end.
-/
import Derived.Test.YtkioekjdbekcbaaUtfBegins
namespace Go.Proofs.Ytkioekjdbekcbaa
open Go.RowKit
open Utf
/-- The document's fills lie in memory, their list in block g. -/
def Fills (w : World) (g : Nat) : Prop := ∃ cs : Array Value, Blk w g 39 cs ∧ ∀ k, k < 6 → ∃ b, cs[k]? = some (.slice (some ⟨b, 0, none⟩) 3 3) ∧ Blk w b 5 ((fill k).map (Value.int .u8)).toArray
theorem Fills.below {w w' : World} {g : Nat} (h : Fills w g) (hb : Below w.heap.size w w') : Fills w' g := by
  obtain ⟨cs, h1, h2⟩ := h
  refine ⟨cs, h1.below hb h1.lt, fun k hk => ?_⟩
  obtain ⟨b, h3, h4⟩ := h2 k hk
  exact ⟨b, h3, h4.below hb h4.lt⟩
theorem blk_at {w : World} {g : Nat} {t : TypeId} {cs : Array Value} (h : w.heap.size = g) : Blk (w.alloc (.cells cs t)) g t cs := h ▸ Blk.new w t cs
theorem fills_made (w : World) : Fills (((((((w.alloc (.cells #[.int .u8 128, .int .u8 128, .int .u8 128] 5)).alloc (.cells #[.int .u8 191, .int .u8 191, .int .u8 191] 5)).alloc (.cells #[.int .u8 160, .int .u8 128, .int .u8 128] 5)).alloc
      (.cells #[.int .u8 144, .int .u8 128, .int .u8 128] 5)).alloc (.cells #[.int .u8 159, .int .u8 128, .int .u8 128] 5)).alloc (.cells #[.int .u8 143, .int .u8 128, .int .u8 128] 5)).alloc
      (.cells #[.slice (some ⟨w.heap.size, 0, none⟩) 3 3, .slice (some ⟨w.heap.size + 1, 0, none⟩) 3 3, .slice (some ⟨w.heap.size + 1 + 1, 0, none⟩) 3 3, .slice (some ⟨w.heap.size + 1 + 1 + 1, 0, none⟩) 3 3, .slice (some ⟨w.heap.size + 1 + 1 + 1 + 1, 0, none⟩) 3 3, .slice (some ⟨w.heap.size + 1 + 1 + 1 + 1 + 1, 0, none⟩) 3 3] 39))
      (w.heap.size + 1 + 1 + 1 + 1 + 1 + 1) := by
  refine ⟨_, blk_at (by simp), fun k hk => ?_⟩
  match k, hk with
  | 0, _ => exact ⟨_, rfl, ((((((blk_at (by simp)).alloc _).alloc _).alloc _).alloc _).alloc _).alloc _⟩
  | 1, _ => exact ⟨_, rfl, (((((blk_at (by simp)).alloc _).alloc _).alloc _).alloc _).alloc _⟩
  | 2, _ => exact ⟨_, rfl, ((((blk_at (by simp)).alloc _).alloc _).alloc _).alloc _⟩
  | 3, _ => exact ⟨_, rfl, (((blk_at (by simp)).alloc _).alloc _).alloc _⟩
  | 4, _ => exact ⟨_, rfl, ((blk_at (by simp)).alloc _).alloc _⟩
  | 5, _ => exact ⟨_, rfl, (blk_at (by simp)).alloc _⟩
set_option maxHeartbeats 1000000 in
set_option maxRecDepth 100000 in
theorem ref_Begins (s : ByteArray) (w : World) :
    Calls Try.prog 34 #[.string s] w fun e w' => e = .returned (.bool (Utf.half s.data.toList)) ∧ Below w.heap.size w w' := by
  have hl := data_len s
  by_cases h1 : s.size < 1
  · have H : Hid (Utf.half s.data.toList = false) := by
      show _ = _
      cases hh : Utf.half s.data.toList with
      | false => rfl
      | true => exact absurd (List.eq_nil_of_length_eq_zero (by omega)) (half_iff.1 hh).2
    go_enter Try.func34, Try.ntmps34
    go_wp2
    go_ret
    exact ⟨by rw [H.out]; rfl, Below.refl _ _⟩
  by_cases h3 : 3 < s.size
  · have H : Hid (Utf.half s.data.toList = false) := by
      show _ = _
      cases hh : Utf.half s.data.toList with
      | false => rfl
      | true => have := (half_iff.1 hh).1; have := siz_le s.data.toList; omega
    go_enter Try.func34, Try.ntmps34
    go_wp2
    go_ret
    exact ⟨by rw [H.out]; rfl, Below.refl _ _⟩
  have hne : s.data.toList ≠ [] := by intro h; rw [h] at hl; simp at hl; omega
  have cI := Lib.hid (fun w => ref_Is s w)
  cases ho : one s.data.toList with
  | true =>
    rw [ho] at cI
    have H : Hid (Utf.half s.data.toList = false) := by
      show _ = _
      cases hh : Utf.half s.data.toList with
      | false => rfl
      | true => have := (half_iff.1 hh).1; have := one_iff.1 ho; omega
    clear ho hne
    go_enter Try.func34, Try.ntmps34
    go_wp2_with fail
    refine (cI.out _).mono ?_
    rintro e w1 ⟨rfl, hb⟩
    go_wp2
    go_ret
    exact ⟨by rw [H.out]; rfl, hb⟩
  | false =>
    rw [ho] at cI
    clear ho
    have d1 : decide ((s.size : Int) < 1) = false := decide_eq_false (by omega)
    have d2 : decide (3 < (s.size : Int)) = false := decide_eq_false (by omega)
    go_enter Try.func34, Try.ntmps34
    go_wp2_with fail
    refine (cI.out _).mono ?_
    rintro e w1 ⟨rfl, hb⟩
    go_wp2_with fail
    go_loopw [3, 5] (fun N _ wr => ∃ m : Nat, s.size < m ∧ m ≤ 5 ∧ N = .int .i64 m ∧ Hid (∀ m' k, s.size < m' → m' < m → k < 6 → one (s.data.toList ++ (fillB k).take (m' - s.size)) = false) ∧ Below w.heap.size w wr) (fun N _ _ => 5 - (intOf N).toNat)
    case atStart => exact ⟨s.size + 1, by omega, by omega, by go_num, fun m' k h1 h2 => absurd h1 (by omega), hb⟩
    case round =>
      obtain ⟨m, hm1, hm2, rfl, T, hb2⟩ := hrel
      clear hb
      rcases Nat.lt_or_ge 4 m with h4 | h4
      · have H : Hid (Utf.half s.data.toList = false) := half_no (fun m' k k1 k2 k3 => by rw [hl] at k1 ⊢; exact T.out m' k k1 (by omega) k3)
        clear T
        go_wp2
        go_ret
        exact ⟨by rw [H.out]; rfl, hb2⟩
      · obtain ⟨wo, hwo⟩ : ∃ wo, wo = wr := ⟨_, rfl⟩
        subst hwo
        have d3 : decide ((m : Int) ≤ 4) = true := decide_eq_true (by omega)
        go_wp2_with fail
        have F0 := fills_made wo
        have hb3 := ((((((hb2.alloc hb2.size (.cells #[.int .u8 128, .int .u8 128, .int .u8 128] 5)).alloc (Nat.le_trans hb2.size (by simp)) (.cells #[.int .u8 191, .int .u8 191, .int .u8 191] 5)).alloc (Nat.le_trans hb2.size (by simp <;> omega)) (.cells #[.int .u8 160, .int .u8 128, .int .u8 128] 5)).alloc (Nat.le_trans hb2.size (by simp <;> omega)) (.cells #[.int .u8 144, .int .u8 128, .int .u8 128] 5)).alloc (Nat.le_trans hb2.size (by simp <;> omega)) (.cells #[.int .u8 159, .int .u8 128, .int .u8 128] 5)).alloc (Nat.le_trans hb2.size (by simp <;> omega)) (.cells #[.int .u8 143, .int .u8 128, .int .u8 128] 5)).alloc (Nat.le_trans hb2.size (by simp <;> omega)) (.cells #[.slice (some ⟨wo.heap.size, 0, none⟩) 3 3, .slice (some ⟨wo.heap.size + 1, 0, none⟩) 3 3, .slice (some ⟨wo.heap.size + 1 + 1, 0, none⟩) 3 3, .slice (some ⟨wo.heap.size + 1 + 1 + 1, 0, none⟩) 3 3, .slice (some ⟨wo.heap.size + 1 + 1 + 1 + 1, 0, none⟩) 3 3, .slice (some ⟨wo.heap.size + 1 + 1 + 1 + 1 + 1, 0, none⟩) 3 3] 39)
        clear hb2
        go_loopw [5, 33] (fun _ K w2 => ∃ k : Nat, k ≤ 6 ∧ K = .int .i64 k ∧ Hid (∀ k', k' < k → one (s.data.toList ++ (fillB k').take (m - s.size)) = false) ∧ Hid (Fills w2 (wo.heap.size + 1 + 1 + 1 + 1 + 1 + 1)) ∧ Below w.heap.size w w2) (fun _ K _ => 6 - (intOf K).toNat)
        case atStart => exact ⟨0, by omega, rfl, fun k' h => absurd h (by omega), F0, hb3⟩
        case round =>
          obtain ⟨k, hk, rfl, T2, F, hb4⟩ := hrel
          clear hb3 F0
          rcases Nat.lt_or_ge k 6 with h6 | h6
          · obtain ⟨cs, f1, f2⟩ := F.out
            obtain ⟨b, f3, f4⟩ := f2 k h6
            have hc : wr.cell? ⟨wo.heap.size + 1 + 1 + 1 + 1 + 1 + 1, k, none⟩ = some (.slice (some ⟨b, 0, none⟩) 3 3) := by rw [f1.cell, f3]
            have hcv := run_bytes_of (P := Try.prog) (ts := 39) (td := 9) f4 (j := m - s.size) (by rw [fill_length]; omega) 3 Try.underlying39 Try.underlying5 Try.underlying9
            rw [show ((fill k).map fun x => UInt8.ofNat x.toNat) = fillB k from rfl] at hcv
            have hqn : (fillB k).take (m - s.size) ≠ [] := by intro h; have := congrArg List.length h; rw [List.length_take, fillB_length] at this; simp at this; omega
            have hzb : ¬ 9223372036854775807 < s.size + (bs ((fillB k).take (m - s.size))).size := by rw [bs_size, List.length_take, fillB_length]; omega
            have cJ := fun w => ref_Is (s ++ bs ((fillB k).take (m - s.size))) w
            have hj : (s ++ bs ((fillB k).take (m - s.size))).data.toList = s.data.toList ++ (fillB k).take (m - s.size) := by
              rw [← bs_data s, bs_append]; rfl
            rw [hj] at cJ
            have C := Lib.hid cJ
            clear f1 f2 f3 f4 cJ hj
            cases ho : one (s.data.toList ++ (fillB k).take (m - s.size)) with
            | true =>
              have H : Hid (Utf.half s.data.toList = true) := one_fill hne hqn ho
              rw [ho] at C
              clear ho hqn T2 T
              generalize (fillB k).take (m - s.size) = q at *
              go_wp2_with fail
              refine (C.out _).mono ?_
              rintro e w3 ⟨rfl, hb5⟩
              go_wp2
              go_ret
              exact ⟨by rw [H.out]; rfl, hb4.trans (hb5.mono hb4.size)⟩
            | false =>
              have T3 : Hid (∀ k', k' < k + 1 → one (s.data.toList ++ (fillB k').take (m - s.size)) = false) := fun k' hk' => by
                rcases Nat.lt_or_ge k' k with h | h
                · exact T2.out k' h
                · rw [show k' = k by omega]; exact ho
              rw [ho] at C
              clear ho hqn T2
              generalize (fillB k).take (m - s.size) = q at *
              go_wp2_with fail
              refine (C.out _).mono ?_
              rintro e w3 ⟨rfl, hb5⟩
              have F2 : Hid (Fills w3 (wo.heap.size + 1 + 1 + 1 + 1 + 1 + 1)) := F.out.below hb5
              have hb6 := hb4.trans (hb5.mono hb4.size)
              clear F hb4 hb5 hc hcv
              go_wp2
              go_roundw
              case rel => exact ⟨k + 1, by omega, by go_num, T3, F2, hb6⟩
              case measure => simp [intOf]; omega
          · have T3 : Hid (∀ m' k, s.size < m' → m' < m + 1 → k < 6 → one (s.data.toList ++ (fillB k).take (m' - s.size)) = false) := fun m' k' g1 g2 g3 => by
              rcases Nat.lt_or_ge m' m with h | h
              · exact T.out m' k' g1 h g3
              · rw [show m' = m by omega]; exact T2.out k' (by omega)
            clear T T2 F
            have hk6 : k = 6 := by omega
            subst hk6
            go_wp2
            go_roundw
            case rel => exact ⟨m + 1, by omega, by omega, by go_num, T3, hb4⟩
            case measure => simp [intOf]; omega
end Go.Proofs.Ytkioekjdbekcbaa
