/-
  What package change tells of the beginnings and ends of two texts, and what makes one of the other.
-/
import Derived.Test.YtambboomabeioaaChange
import Derived.Test.YtambboomabeioaaUtfCounts
namespace Go.Proofs.Ytambboomabeioaa
open Go.RowKit
open Utf Chg
theorem byte_eq {a b : ByteArray} {i j : Nat} (hi : i < a.size) (hj : j < b.size) : ((a[i].toNat : Int) == (b[j].toNat : Int)) = (a[i] == b[j]) := by
  apply Bool.eq_iff_iff.2
  simp only [beq_iff_eq]
  constructor
  · intro h
    exact UInt8.toNat_inj.1 (by omega)
  · intro h
    rw [h]
set_option maxHeartbeats 400000 in
set_option maxRecDepth 100000 in
theorem change_head (a b : ByteArray) {x y : List (List UInt8)} (hx : dec a.data.toList = some x) (hy : dec b.data.toList = some y) (ha : a.size ≤ 281474976710656) (w : World) :
    Calls Try.prog 47 #[.string a, .string b] w fun e w' => e = .returned (.int .i64 (off x (cp x y) : Nat)) ∧ Below w.heap.size w w' := by
  have hla := data_len a
  have hlb := data_len b
  obtain ⟨M, HM⟩ : ∃ M, Hid (cp a.data.toList b.data.toList = M) := ⟨_, rfl⟩
  have hMa : M ≤ a.size := by rw [← HM.out, ← hla]; exact cp_le _ _
  have hMb : M ≤ b.size := by rw [← HM.out, ← hlb]; exact cp_le' _ _
  have K : Hid ((bs (Utf.cut a.data.toList M)).size = off x (cp x y)) := by
    show _ = _
    have hu := head_under (dec_some hx).1 (dec_some hy).1
    rw [← (dec_some hx).2, ← (dec_some hy).2, HM.out] at hu
    rw [under_cut hx hu, bs_size, List.length_take]
    have := off_in hx (cp x y)
    omega
  have c1 := Lib.hid (fun w => utf_Cut a M ha w)
  clear hx hy
  go_enter Try.func47, Try.ntmps47
  go_wp2_with fail
  go_loopw [5] (fun v wr => ∃ n : Nat, n ≤ M ∧ v = .int .i64 n ∧ Below w.heap.size w wr) (fun v _ => M - (intOf v).toNat)
  case atStart => exact ⟨0, Nat.zero_le _, rfl, Below.refl _ _⟩
  case round =>
    obtain ⟨n, hn, rfl, hW⟩ := hrel
    have hq : ∀ q, Below w.heap.size w (wr.drewN q) := fun q => hW.trans ((below_gb (gb_drewN wr q none)).mono hW.size)
    by_cases hna : n < a.size
    · by_cases hnb : n < b.size
      · have hi := cp_lt (x := a.data.toList) (y := b.data.toList) (n := n) (by rw [HM.out]; exact hn) (by omega) (by omega)
        rw [HM.out] at hi
        have g0 := byte_eq hna hnb
        have g2 : decide ((n : Int) < min (a.size : Int) (b.size : Int)) = true := decide_eq_true (by omega)
        by_cases hlt : n < M
        · have g : ((a[n].toNat : Int) == (b[n].toNat : Int)) = true := by rw [g0]; exact beq_iff_eq.2 (hi.2 hlt)
          clear hi g0
          go_wp2
          go_quiet (fail)
          go_wp2
          go_roundw
          case rel => exact ⟨n + 1, hlt, by go_num, hq _⟩
          case measure => simp [intOf]; omega
        · have g : ((a[n].toNat : Int) == (b[n].toNat : Int)) = false := by rw [g0]; exact beq_false_of_ne fun e => hlt (hi.1 e)
          obtain rfl : n = M := by omega
          clear hi g0
          go_wp2
          go_quiet (fail)
          go_wp2_with (go_at_call 79; refine (c1.out _).mono ?_; rintro e w1 ⟨rfl, hb1⟩)
          go_ret
          exact ⟨by rw [K.out]; rfl, (hq _).trans (hb1.mono (hq _).size)⟩
      · obtain rfl : n = M := by omega
        have g2 : decide ((n : Int) < min (a.size : Int) (b.size : Int)) = false := decide_eq_false (by omega)
        go_wp2
        go_quiet (fail)
        go_wp2_with (go_at_call 79; refine (c1.out _).mono ?_; rintro e w1 ⟨rfl, hb1⟩)
        go_ret
        exact ⟨by rw [K.out]; rfl, (hq _).trans (hb1.mono (hq _).size)⟩
    · obtain rfl : n = M := by omega
      have g2 : decide ((n : Int) < min (a.size : Int) (b.size : Int)) = false := decide_eq_false (by omega)
      go_wp2
      go_quiet (fail)
      go_wp2_with (go_at_call 79; refine (c1.out _).mono ?_; rintro e w1 ⟨rfl, hb1⟩)
      go_ret
      exact ⟨by rw [K.out]; rfl, (hq _).trans (hb1.mono (hq _).size)⟩
set_option maxHeartbeats 400000 in
set_option maxRecDepth 100000 in
theorem change_tail (a b : ByteArray) {x y : List (List UInt8)} (hx : dec a.data.toList = some x) (hy : dec b.data.toList = some y) (ha : a.size ≤ 281474976710656) (hb : b.size ≤ 281474976710656) (w : World) :
    Calls Try.prog 48 #[.string a, .string b] w fun e w' => e = .returned (.int .i64 (tl x y : Nat)) ∧ Below w.heap.size w w' := by
  have hla := data_len a
  have hlb := data_len b
  obtain ⟨M, HM⟩ : ∃ M, Hid (cs a.data.toList b.data.toList = M) := ⟨_, rfl⟩
  have hMa : M ≤ a.size := by rw [← HM.out, ← hla]; exact cs_le _ _
  have hMb : M ≤ b.size := by rw [← HM.out, ← hlb]; exact cs_le' _ _
  have ex := (dec_some hx).2
  have ey := (dec_some hy).2
  have hT : tl x y ≤ M := by
    have := tl_le x y
    rw [← ex, ← ey, HM.out] at this
    exact this
  have K : Hid (∀ n : Nat, tl x y ≤ n → n ≤ M → place a.data.toList ((a.size : Int) - n) = decide (n = tl x y)) := fun n h1 h2 => by
    rw [show (a.size : Int) - (n : Int) = ((a.size - n : Nat) : Int) by omega]
    rcases Nat.eq_or_lt_of_le h1 with h3 | h3
    · rw [decide_eq_true h3.symm]
      have := tl_off x y
      rw [← ex, hla] at this
      have hp := place_at hx (i := x.length - cs x y) (by omega)
      rw [show a.size - n = off x (x.length - cs x y) by omega]
      exact hp
    · have := tl_far (dec_some hx).1 (dec_some hy).1 h3 (by rw [← ex, ← ey, HM.out]; exact h2)
      rw [← ex, hla, apart_place hx (by omega)] at this
      rw [this, decide_eq_false (by omega)]
  have c1 := Lib.hid (fun x w => utf_Place a x (by omega) w)
  generalize tl x y = L at *
  clear hx hy ex ey
  go_enter Try.func48, Try.ntmps48
  go_wp2_with fail
  go_loopw [5] (fun v wr => ∃ n : Nat, n ≤ M ∧ v = .int .i64 n ∧ Below w.heap.size w wr) (fun v _ => M - (intOf v).toNat)
  case atStart => exact ⟨0, Nat.zero_le _, rfl, Below.refl _ _⟩
  case round =>
    obtain ⟨n, hn, rfl, hW⟩ := hrel
    have hq : ∀ q, Below w.heap.size w (wr.drewN q) := fun q => hW.trans ((below_gb (gb_drewN wr q none)).mono hW.size)
    have goes : n < a.size → n < b.size → n < M → ∃ (i j : Nat) (hi : i < a.size) (hj : j < b.size), (a.size : Int) - 1 - n = i ∧ (b.size : Int) - 1 - n = j ∧ ((a[i].toNat : Int) == (b[j].toNat : Int)) = true := fun h1 h2 h3 => by
      have hc := (cs_lt (x := a.data.toList) (y := b.data.toList) (n := n) (by rw [HM.out]; exact hn) (by omega) (by omega)).2 (by rw [HM.out]; exact h3)
      refine ⟨a.size - 1 - n, b.size - 1 - n, by omega, by omega, by omega, by omega, ?_⟩
      rw [byte_eq]
      simp only [hla, hlb] at hc
      exact beq_iff_eq.2 hc
    have stops : n < a.size → n < b.size → n = M → ∃ (i j : Nat) (hi : i < a.size) (hj : j < b.size), (a.size : Int) - 1 - n = i ∧ (b.size : Int) - 1 - n = j ∧ ((a[i].toNat : Int) == (b[j].toNat : Int)) = false := fun h1 h2 h3 => by
      have hc := cs_lt (x := a.data.toList) (y := b.data.toList) (n := n) (by rw [HM.out]; exact hn) (by omega) (by omega)
      refine ⟨a.size - 1 - n, b.size - 1 - n, by omega, by omega, by omega, by omega, ?_⟩
      rw [byte_eq]
      simp only [hla, hlb] at hc
      exact beq_false_of_ne fun e => by have := hc.1 e; rw [HM.out] at this; omega
    by_cases hlt : n < M
    · obtain ⟨i, j, hi, hj, ei, ej, g⟩ := goes (by omega) (by omega) hlt
      have g2 : decide ((n : Int) < min (a.size : Int) (b.size : Int)) = true := decide_eq_true (by omega)
      clear goes stops
      go_wp2
      go_quiet (fail)
      go_wp2
      go_roundw
      case rel => exact ⟨n + 1, hlt, by go_num, hq _⟩
      case measure => simp [intOf]; omega
    · obtain rfl : n = M := by omega
      have two : (∃ (i j : Nat) (hi : i < a.size) (hj : j < b.size), (a.size : Int) - 1 - n = i ∧ (b.size : Int) - 1 - n = j ∧ ((a[i].toNat : Int) == (b[j].toNat : Int)) = false ∧ decide ((n : Int) < min (a.size : Int) (b.size : Int)) = true) ∨ decide ((n : Int) < min (a.size : Int) (b.size : Int)) = false := by
        by_cases h1 : n < a.size ∧ n < b.size
        · obtain ⟨i, j, hi, hj, ei, ej, g⟩ := stops h1.1 h1.2 rfl
          exact Or.inl ⟨i, j, hi, hj, ei, ej, g, decide_eq_true (by omega)⟩
        · exact Or.inr (decide_eq_false (by omega))
      clear goes stops
      rcases two with ⟨i, j, hi, hj, ei, ej, g, g2⟩ | g2
      all_goals
        go_wp2
        go_quiet (fail)
        have hQ := Lib.hid (hq nq)
        clear hq hW
        go_wp2
        go_loop [5] (fun v => ∃ m : Nat, L ≤ m ∧ m ≤ n ∧ v = .int .i64 m) (fun v => (intOf v).toNat)
        case atStart => exact ⟨n, hT, Nat.le_refl _, rfl⟩
        case round =>
          obtain ⟨m, hm1, hm2, rfl⟩ := hrel
          have hp := K.out m hm1 hm2
          by_cases hmL : m = L
          · subst hmL
            rw [decide_eq_true rfl] at hp
            have C := c1.out ((a.size : Int) - m)
            rw [hp] at C
            have C1 := Lib.hid C
            clear hp C
            go_wp2_with (go_at_call 19; refine (C1.out _).mono ?_; rintro e w1 ⟨rfl, rfl⟩)
            go_ret
            exact ⟨rfl, hQ.out⟩
          · rw [decide_eq_false hmL] at hp
            have C := c1.out ((a.size : Int) - m)
            rw [hp] at C
            have C1 := Lib.hid C
            clear hp C
            go_wp2_with (go_at_call 19; refine (C1.out _).mono ?_; rintro e w1 ⟨rfl, rfl⟩)
            go_round
            case rel => exact ⟨m - 1, by omega, by omega, by go_num⟩
            case measure => simp [intOf]; omega
end Go.Proofs.Ytambboomabeioaa
