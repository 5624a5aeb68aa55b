/-
  How many runes package utf counts, where it says that one begins, and what it cuts.
-/
import Derived.Test.YtchpkeelnfmlbaaGreatUtfPlaces
namespace Go.Proofs.YtchpkeelnfmlbaaGreat
open Go.RowKit
/-- What the loops over the runes of a text need of the rune i. -/
theorem rune_step (s : ByteArray) {rs : List (List UInt8)} (hd : Utf.dec s.data.toList = some rs) {i : Nat} (hi : i < rs.length) :
    ∃ h : Utf.off rs i < s.size, Utf.off rs (i + 1) = Utf.off rs i + Utf.len s[Utf.off rs i].toNat ∧ Utf.off rs (i + 1) ≤ s.size := by
  have hl : s.data.toList.length = s.size := by simp
  obtain ⟨a, ha, hn⟩ := Utf.first_at hd hi
  have hin := Utf.off_in hd (i + 1)
  have hlt : Utf.off rs i < s.size := by have := Utf.off_lt (Utf.dec_some hd).1 (show i < i + 1 by omega) hi; omega
  rw [byte_get s hlt] at ha
  injection ha with ha
  subst ha
  exact ⟨hlt, hn, by omega⟩
theorem off_ge {s : List UInt8} {rs : List (List UInt8)} (hd : Utf.dec s = some rs) {i : Nat} (hi : i ≤ rs.length) : i ≤ Utf.off rs i := by
  induction i with
  | zero => omega
  | succ i ih =>
    have := ih (by omega)
    have := Utf.off_lt (Utf.dec_some hd).1 (show i < i + 1 by omega) hi
    omega
set_option maxHeartbeats 400000 in
set_option maxRecDepth 100000 in
theorem utf_Count (s : ByteArray) (hs : s.size ≤ 9223372036854775807) (w : World) :
    Calls Tryz.prog 17 #[.string s] w fun e w' => e = .returned (.int .i64 (Utf.count s.data.toList)) ∧ w = w' := by
  have hl : s.data.toList.length = s.size := by simp
  have c1 := Lib.hid (utf_Valid s hs)
  cases hd : Utf.dec s.data.toList with
  | none =>
    rw [Utf.valid_bad hd] at c1
    have H : Hid (Utf.count s.data.toList = 0) := Utf.count_bad hd
    clear hd
    go_enter Tryz.func17, Tryz.ntmps17
    go_wp2_with (go_at_call 36; refine (c1.out _).mono ?_; rintro e w1 ⟨rfl, rfl⟩)
    go_ret
    exact ⟨by rw [H.out]; rfl, rfl⟩
  | some rs =>
    rw [Utf.valid_ok hd] at c1
    have H : Hid (Utf.count s.data.toList = rs.length) := Utf.count_ok hd
    have htop : Utf.off rs rs.length = s.size := by rw [Utf.off_top hd (Nat.le_refl _)]; exact hl
    have D := Lib.hid hd
    clear hd
    go_enter Tryz.func17, Tryz.ntmps17
    go_wp2_with (go_at_call 36; refine (c1.out _).mono ?_; rintro e w1 ⟨rfl, rfl⟩)
    go_loop [3, 4] (fun n x => ∃ i : Nat, i ≤ rs.length ∧ n = .int .i64 i ∧ x = .int .i64 (Utf.off rs i : Nat)) (fun n _ => rs.length - (intOf n).toNat)
    case atStart => exact ⟨0, Nat.zero_le _, rfl, by rw [Utf.off_zero]; rfl⟩
    case round =>
      obtain ⟨i, hi, rfl, rfl⟩ := hrel
      rcases Nat.lt_or_ge i rs.length with h | h
      · obtain ⟨hlt, hn, hin⟩ := rune_step s D.out h
        have c2 := Lib.hid (utf_length s[Utf.off rs i].toNat)
        have hb := s[Utf.off rs i].toNat_lt
        have hio := off_ge D.out hi
        have HN := Lib.hid hn
        rw [hn] at hin
        clear hn htop
        generalize Utf.len s[Utf.off rs i].toNat = k at *
        generalize Utf.off rs i = y at *
        go_wp2_with (go_at_call 39; refine (c2.out _).mono ?_; rintro e w1 ⟨rfl, rfl⟩)
        go_round
        case rel => exact ⟨i + 1, h, by go_num, by rw [HN.out]; go_num⟩
        case measure => simp [intOf]; omega
      · obtain rfl : i = rs.length := by omega
        rw [htop]
        go_wp2
        go_ret
        exact ⟨by rw [H.out]; rfl, rfl⟩
end Go.Proofs.YtchpkeelnfmlbaaGreat
