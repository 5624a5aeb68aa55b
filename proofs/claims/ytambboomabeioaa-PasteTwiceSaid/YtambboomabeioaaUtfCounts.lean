/-
  How many runes package utf counts, where it says that one begins, and what it cuts.
-/
import Derived.Test.YtambboomabeioaaUtfPlaces
namespace Go.Proofs.Ytambboomabeioaa
open Go.RowKit
/-- What the loops over the runes of a text need of the rune i. -/
theorem rune_step (s : ByteArray) {rs : List (List UInt8)} (hd : Utf.dec s.data.toList = some rs) {i : Nat} (hi : i < rs.length) :
    ∃ h : Utf.off rs i < s.size, Utf.off rs (i + 1) = Utf.off rs i + Utf.len s[Utf.off rs i].toNat ∧ Utf.off rs (i + 1) ≤ s.size := by
  have hl : s.data.toList.length = s.size := by simp
  obtain ⟨a, ha, hn⟩ := Utf.first_at hd hi
  have hin := Utf.off_in hd (i + 1)
  have hlt : Utf.off rs i < s.size := by have := Utf.off_lt (Utf.dec_some hd).1 (show i < i + 1 by omega) hi; omega
  rw [byte_get s hlt] at ha
  injection ha with ha
  subst ha
  exact ⟨hlt, hn, by omega⟩
theorem off_ge {s : List UInt8} {rs : List (List UInt8)} (hd : Utf.dec s = some rs) {i : Nat} (hi : i ≤ rs.length) : i ≤ Utf.off rs i := by
  induction i with
  | zero => omega
  | succ i ih =>
    have := ih (by omega)
    have := Utf.off_lt (Utf.dec_some hd).1 (show i < i + 1 by omega) hi
    omega
set_option maxHeartbeats 400000 in
set_option maxRecDepth 100000 in
theorem utf_Count (s : ByteArray) (hs : s.size ≤ 9223372036854775807) (w : World) :
    Calls Try.prog 16 #[.string s] w fun e w' => e = .returned (.int .i64 (Utf.count s.data.toList)) ∧ w = w' := by
  have hl : s.data.toList.length = s.size := by simp
  have c1 := Lib.hid (utf_Valid s hs)
  cases hd : Utf.dec s.data.toList with
  | none =>
    rw [Utf.valid_bad hd] at c1
    have H : Hid (Utf.count s.data.toList = 0) := Utf.count_bad hd
    clear hd
    go_enter Try.func16, Try.ntmps16
    go_wp2_with (go_at_call 20; refine (c1.out _).mono ?_; rintro e w1 ⟨rfl, rfl⟩)
    go_ret
    exact ⟨by rw [H.out]; rfl, rfl⟩
  | some rs =>
    rw [Utf.valid_ok hd] at c1
    have H : Hid (Utf.count s.data.toList = rs.length) := Utf.count_ok hd
    have htop : Utf.off rs rs.length = s.size := by rw [Utf.off_top hd (Nat.le_refl _)]; exact hl
    have D := Lib.hid hd
    clear hd
    go_enter Try.func16, Try.ntmps16
    go_wp2_with (go_at_call 20; refine (c1.out _).mono ?_; rintro e w1 ⟨rfl, rfl⟩)
    go_loop [3, 4] (fun n x => ∃ i : Nat, i ≤ rs.length ∧ n = .int .i64 i ∧ x = .int .i64 (Utf.off rs i : Nat)) (fun n _ => rs.length - (intOf n).toNat)
    case atStart => exact ⟨0, Nat.zero_le _, rfl, by rw [Utf.off_zero]; rfl⟩
    case round =>
      obtain ⟨i, hi, rfl, rfl⟩ := hrel
      rcases Nat.lt_or_ge i rs.length with h | h
      · obtain ⟨hlt, hn, hin⟩ := rune_step s D.out h
        have c2 := Lib.hid (utf_length s[Utf.off rs i].toNat)
        have hb := s[Utf.off rs i].toNat_lt
        have hio := off_ge D.out hi
        have HN := Lib.hid hn
        rw [hn] at hin
        clear hn htop
        generalize Utf.len s[Utf.off rs i].toNat = k at *
        generalize Utf.off rs i = y at *
        go_wp2_with (go_at_call 51; refine (c2.out _).mono ?_; rintro e w1 ⟨rfl, rfl⟩)
        go_round
        case rel => exact ⟨i + 1, h, by go_num, by rw [HN.out]; go_num⟩
        case measure => simp [intOf]; omega
      · obtain rfl : i = rs.length := by omega
        rw [htop]
        go_wp2
        go_ret
        exact ⟨by rw [H.out]; rfl, rfl⟩
set_option maxHeartbeats 400000 in
set_option maxRecDepth 100000 in
theorem utf_Offset (s : ByteArray) (k : Int) (hs : s.size ≤ 9223372036854775807) (w : World) :
    Calls Try.prog 66 #[.string s, .int .i64 k] w fun e w' => e = .returned (.int .i64 (Utf.offset s.data.toList k)) ∧ w = w' := by
  have hl : s.data.toList.length = s.size := by simp
  have c1 := Lib.hid (utf_Valid s hs)
  by_cases h0 : k < 0
  · have H : Hid (Utf.offset s.data.toList k = -1) := by show _ = _; rw [Utf.offset, if_pos h0]
    go_enter Try.func66, Try.ntmps66
    go_wp2
    go_ret
    exact ⟨by rw [H.out]; rfl, rfl⟩
  · cases hd : Utf.dec s.data.toList with
    | none =>
      rw [Utf.valid_bad hd] at c1
      have H : Hid (Utf.offset s.data.toList k = -1) := Utf.offset_bad hd k
      clear hd
      go_enter Try.func66, Try.ntmps66
      go_wp2_with (go_at_call 20; refine (c1.out _).mono ?_; rintro e w1 ⟨rfl, rfl⟩)
      go_ret
      exact ⟨by rw [H.out]; rfl, rfl⟩
    | some rs =>
      rw [Utf.valid_ok hd] at c1
      obtain ⟨m, rfl⟩ : ∃ m : Nat, k = m := ⟨k.toNat, by omega⟩
      have htop : Utf.off rs rs.length = s.size := by rw [Utf.off_top hd (Nat.le_refl _)]; exact hl
      have D := Lib.hid hd
      clear hd h0
      go_enter Try.func66, Try.ntmps66
      go_wp2_with (go_at_call 20; refine (c1.out _).mono ?_; rintro e w1 ⟨rfl, rfl⟩)
      go_loop [5, 14] (fun x n => ∃ i : Nat, i ≤ rs.length ∧ i ≤ m ∧ n = .int .i64 i ∧ x = .int .i64 (Utf.off rs i : Nat)) (fun _ n => m - (intOf n).toNat)
      case atStart => exact ⟨0, Nat.zero_le _, Nat.zero_le _, rfl, by rw [Utf.off_zero]; rfl⟩
      case round =>
        obtain ⟨i, hi, him, rfl, rfl⟩ := hrel
        rcases Nat.lt_or_ge i m with hm | hm
        · rcases Nat.lt_or_ge i rs.length with h | h
          · obtain ⟨hlt, hn, hin⟩ := rune_step s D.out h
            have c2 := Lib.hid (utf_length s[Utf.off rs i].toNat)
            have hb := s[Utf.off rs i].toNat_lt
            have hio := off_ge D.out hi
            have HN := Lib.hid hn
            rw [hn] at hin
            have g : ((Utf.off rs i : Int) == (s.size : Int)) = false := by simp; omega
            clear hn htop
            generalize Utf.len s[Utf.off rs i].toNat = k at *
            generalize Utf.off rs i = y at *
            go_wp2_with (go_at_call 51; refine (c2.out _).mono ?_; rintro e w1 ⟨rfl, rfl⟩)
            go_round
            case rel => exact ⟨i + 1, h, hm, by go_num, by rw [HN.out]; go_num⟩
            case measure => simp [intOf]; omega
          · obtain rfl : i = rs.length := by omega
            have H : Hid (Utf.offset s.data.toList m = -1) := Utf.offset_past D.out (Or.inr (by omega))
            have g : ((Utf.off rs rs.length : Int) == (s.size : Int)) = true := by rw [htop]; simp
            go_wp2
            go_ret
            exact ⟨by rw [H.out]; rfl, rfl⟩
        · obtain rfl : i = m := by omega
          have H : Hid (Utf.offset s.data.toList i = (Utf.off rs i : Nat)) := Utf.offset_at D.out hi
          go_wp2
          go_ret
          exact ⟨by rw [H.out]; rfl, rfl⟩
set_option maxHeartbeats 400000 in
set_option maxRecDepth 100000 in
theorem utf_Cut (s : ByteArray) (n : Int) (hs : s.size ≤ 281474976710656) (w : World) :
    Calls Try.prog 79 #[.string s, .int .i64 n] w fun e w' => e = .returned (.string (bs (Utf.cut s.data.toList n))) ∧ Below w.heap.size w w' := by
  have hl : s.data.toList.length = s.size := by simp
  have c1 := Lib.hid (utf_Valid s (by omega))
  by_cases h0 : n < 0
  · have H : Hid (Utf.cut s.data.toList n = []) := Utf.cut_low h0
    go_enter Try.func79, Try.ntmps79
    go_wp2
    go_ret
    exact ⟨by rw [H.out]; rfl, Below.refl _ _⟩
  · cases hd : Utf.dec s.data.toList with
    | none =>
      rw [Utf.valid_bad hd] at c1
      have H : Hid (Utf.cut s.data.toList n = []) := Utf.cut_bad hd n
      clear hd
      go_enter Try.func79, Try.ntmps79
      go_wp2_with (go_at_call 20; refine (c1.out _).mono ?_; rintro e w1 ⟨rfl, rfl⟩)
      go_ret
      exact ⟨by rw [H.out]; rfl, Below.refl _ _⟩
    | some rs =>
      rw [Utf.valid_ok hd] at c1
      obtain ⟨x, hx, hxs⟩ : ∃ x : Nat, (x : Int) = min n (s.size : Int) ∧ x ≤ s.size := ⟨(min n (s.size : Int)).toNat, by omega, by omega⟩
      have hcut : ∀ i, Utf.Under rs i x → s.extract 0 (Utf.off rs i) = bs (Utf.cut s.data.toList n) := fun i hu => by
        rw [Utf.cut_at hd (i := i) hu.top (by have := hu.here; omega) (fun hlt => by have := hu.far hlt; have := Utf.off_in hd (i + 1); omega), Lib.extract_eq]
        simp [bs]
      have hoff : Hid (∀ i, Utf.off rs i ≤ s.size) := fun i => by have := Utf.off_in hd i; omega
      have c2 := Lib.hid (utf_back s hd hxs (by omega))
      rw [hx] at c2
      have K := Lib.hid hcut
      clear hcut hd hx hxs
      go_enter Try.func79, Try.ntmps79
      go_wp2_with (first | (go_at_call 20; refine (c1.out _).mono ?_; rintro e w1 ⟨rfl, rfl⟩) | (go_at_call 85; refine (c2.out _).mono ?_; rintro e w1 ⟨⟨i, hu, rfl⟩, rfl⟩; have ho := hoff.out i; have E := Lib.hid (K.out i hu); have c3 := Lib.hid (fun w => str_clone (s.extract 0 (Utf.off rs i)) w (by rw [ByteArray.size_extract]; omega))) | (go_at_call 49; refine (c3.out _).mono ?_; rintro e w1 ⟨rfl, hb⟩))
      go_ret
      exact ⟨by rw [← E.out]; rfl, hb⟩
end Go.Proofs.Ytambboomabeioaa
