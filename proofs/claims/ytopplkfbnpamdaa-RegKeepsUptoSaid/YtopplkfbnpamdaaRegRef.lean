/-
  Names of registers, and where they stand in the row, as the document tells them.
-/
import Derived.Test.YtopplkfbnpamdaaRegName
namespace Go.Proofs.Ytopplkfbnpamdaa
open Go.RowKit
open Reg
theorem names_byte {k : Nat} (h : k < 38) : wrap64 ((namesT[k]'h).toNat : Int) = nm k := by
  have h1 := names_get k h
  have e : ((namesT[k]'h).toNat : Int) = nm k := h1
  rw [e]
  have := isName_pos (nm_is h)
  unfold wrap64
  omega
set_option maxHeartbeats 1000000 in
set_option maxRecDepth 100000 in
theorem ref21_spot {n : Int} (hn : IsName n) (w : World) : Calls Try.prog 26 #[.int .i64 n] w fun e w' => e = .returned (.int .i64 (spot n : Nat)) ∧ w = w' := by
  have H38 : Hid ((∀ j, j < 38 → nm j = n → spot n = j) ∧ ∃ j, j < 38 ∧ nm j = n) := ⟨fun j hj e => by rw [← e, spot_nm hj], spot n, (nm_spot hn).2, (nm_spot hn).1⟩
  clear hn
  go_enter Try.func26, Try.ntmps26
  go_wp2_with fail
  go_loopw [3] (fun iv wr => ∃ k : Nat, k ≤ 38 ∧ iv = .int .i64 k ∧ Hid (∀ j, j < k → nm j ≠ n) ∧ w = wr) (fun iv _ => 38 - (intOf iv).toNat)
  case atStart => exact ⟨0, Nat.zero_le _, rfl, (fun j hj => by omega), rfl⟩
  case round =>
    obtain ⟨k, hk, rfl, HN, rfl⟩ := hrel
    by_cases hlt : k < 38
    · have hb := names_byte hlt
      have hk2 : (k : Int) < 38 := by omega
      have hsz : k < namesT.size := hlt
      by_cases he : nm k = n
      · have hq : (wrap64 ((namesT[k]'hlt).toNat : Int) == n) = true := by rw [hb]; simpa using he
        have H : Hid (spot n = k) := H38.out.1 k hlt he
        dsimp only [namesT] at hq hsz
        clear hb he H38
        go_wp2
        go_ret
        exact ⟨by rw [H.out]; rfl, rfl⟩
      · have hq : (wrap64 ((namesT[k]'hlt).toNat : Int) == n) = false := by rw [hb]; simpa using he
        have HN2 : Hid (∀ j, j < k + 1 → nm j ≠ n) := fun j hj => by
          rcases Nat.lt_or_eq_of_le (Nat.lt_succ_iff.1 hj) with h | rfl
          · exact HN.out j h
          · exact he
        dsimp only [namesT] at hq hsz
        clear hb he HN
        go_wp2
        go_roundw
        case rel => exact ⟨k + 1, by omega, by go_num, HN2, trivial⟩
        case measure => simp [intOf]; omega
    · exfalso
      obtain ⟨j, hj, e⟩ := H38.out.2
      exact HN.out j (by omega) e
set_option maxHeartbeats 1000000 in
set_option maxRecDepth 100000 in
theorem ref21_Name (n : Int) (w : World) : Calls Try.prog 18 #[.int .i64 n] w fun e w' => e = .returned (.int .i64 (nameN n)) ∧ w = w' := by
  by_cases h0 : n = 0
  · subst h0
    have H : Hid (nameN 0 = 34) := rfl
    go_enter Try.func18, Try.ntmps18
    go_wp2
    go_ret
    exact ⟨by rw [H.out]; rfl, rfl⟩
  · have b0 : (n == 0) = false := by simpa using h0
    by_cases h1 : 65 ≤ n ∧ n ≤ 90
    · have H : Hid (nameN n = n + 32) := nameN_add h1
      have d0 : decide (65 ≤ n) = true := decide_eq_true h1.1
      have d1 : decide (n ≤ 90) = true := decide_eq_true h1.2
      have z : IntKind.i64.wrap (n + 32) = n + 32 := by rw [IntKind.wrap_i64]; omega
      clear h0
      go_enter Try.func18, Try.ntmps18
      go_wp2
      go_ret
      exact ⟨by rw [H.out]; rfl, rfl⟩
    · have fin : ∀ (b : Bool), decide (65 ≤ n) = b → (b = true → decide (n ≤ 90) = false) → Calls Try.prog 18 #[.int .i64 n] w fun e w' => e = .returned (.int .i64 (nameN n)) ∧ w = w' := fun b d0 d1 => by
        have H : Hid ((∀ j, j < 38 → nm j = n → nameN n = n) ∧ ((∀ j, j < 38 → nm j ≠ n) → nameN n = 0)) := ⟨fun j hj e => nameN_name (e ▸ nm_is hj), fun h => by
          unfold nameN
          rw [if_neg h0, if_neg h1, if_neg]
          intro hI
          exact h (spot n) (nm_spot hI).2 (nm_spot hI).1⟩
        clear h0 h1
        have walk : ∀ k : Nat, True := fun _ => trivial
        clear walk
        cases b with
        | true =>
          have d1 := d1 rfl
          go_enter Try.func18, Try.ntmps18
          go_wp2_with fail
          go_loopw [3] (fun iv wr => ∃ k : Nat, k ≤ 38 ∧ iv = .int .i64 k ∧ Hid (∀ j, j < k → nm j ≠ n) ∧ w = wr) (fun iv _ => 38 - (intOf iv).toNat)
          case atStart => exact ⟨0, Nat.zero_le _, rfl, (fun j hj => by omega), rfl⟩
          case round =>
            obtain ⟨k, hk, rfl, HN, rfl⟩ := hrel
            by_cases hlt : k < 38
            · have hb := names_byte hlt
              have hk2 : (k : Int) < 38 := by omega
              have hsz : k < namesT.size := hlt
              by_cases he : nm k = n
              · have hq : (wrap64 ((namesT[k]'hlt).toNat : Int) == n) = true := by rw [hb]; simpa using he
                have H2 : Hid (nameN n = n) := H.out.1 k hlt he
                dsimp only [namesT] at hq hsz
                clear hb he H
                go_wp2
                go_ret
                exact ⟨by rw [H2.out]; rfl, rfl⟩
              · have hq : (wrap64 ((namesT[k]'hlt).toNat : Int) == n) = false := by rw [hb]; simpa using he
                have HN2 : Hid (∀ j, j < k + 1 → nm j ≠ n) := fun j hj => by
                  rcases Nat.lt_or_eq_of_le (Nat.lt_succ_iff.1 hj) with h | rfl
                  · exact HN.out j h
                  · exact he
                dsimp only [namesT] at hq hsz
                clear hb he HN
                go_wp2
                go_roundw
                case rel => exact ⟨k + 1, by omega, by go_num, HN2, trivial⟩
                case measure => simp [intOf]; omega
            · have H2 : Hid (nameN n = 0) := H.out.2 fun j hj => HN.out j (by omega)
              have hk2 : ¬ (k : Int) < 38 := by omega
              clear H HN
              go_wp2
              go_ret
              exact ⟨by rw [H2.out]; rfl, rfl⟩
        | false =>
          go_enter Try.func18, Try.ntmps18
          go_wp2_with fail
          go_loopw [3] (fun iv wr => ∃ k : Nat, k ≤ 38 ∧ iv = .int .i64 k ∧ Hid (∀ j, j < k → nm j ≠ n) ∧ w = wr) (fun iv _ => 38 - (intOf iv).toNat)
          case atStart => exact ⟨0, Nat.zero_le _, rfl, (fun j hj => by omega), rfl⟩
          case round =>
            obtain ⟨k, hk, rfl, HN, rfl⟩ := hrel
            by_cases hlt : k < 38
            · have hb := names_byte hlt
              have hk2 : (k : Int) < 38 := by omega
              have hsz : k < namesT.size := hlt
              by_cases he : nm k = n
              · have hq : (wrap64 ((namesT[k]'hlt).toNat : Int) == n) = true := by rw [hb]; simpa using he
                have H2 : Hid (nameN n = n) := H.out.1 k hlt he
                dsimp only [namesT] at hq hsz
                clear hb he H
                go_wp2
                go_ret
                exact ⟨by rw [H2.out]; rfl, rfl⟩
              · have hq : (wrap64 ((namesT[k]'hlt).toNat : Int) == n) = false := by rw [hb]; simpa using he
                have HN2 : Hid (∀ j, j < k + 1 → nm j ≠ n) := fun j hj => by
                  rcases Nat.lt_or_eq_of_le (Nat.lt_succ_iff.1 hj) with h | rfl
                  · exact HN.out j h
                  · exact he
                dsimp only [namesT] at hq hsz
                clear hb he HN
                go_wp2
                go_roundw
                case rel => exact ⟨k + 1, by omega, by go_num, HN2, trivial⟩
                case measure => simp [intOf]; omega
            · have H2 : Hid (nameN n = 0) := H.out.2 fun j hj => HN.out j (by omega)
              have hk2 : ¬ (k : Int) < 38 := by omega
              clear H HN
              go_wp2
              go_ret
              exact ⟨by rw [H2.out]; rfl, rfl⟩
      exact fin _ rfl (fun hb => by
        have := of_decide_eq_true hb
        exact decide_eq_false (by omega))
end Go.Proofs.Ytopplkfbnpamdaa
