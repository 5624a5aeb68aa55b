/-
  What package utf tells of bytes: whether they are a text, and whether a rune goes on somewhere.
-/
import Derived.Test.YtlfhfpjffdaomaaDoorUtfSize
namespace Go.Proofs.YtlfhfpjffdaomaaDoor
open Go.RowKit
theorem and_heads : ∀ b : Fin 256, (bits .and .u8 (b.val : Int) 192 != 128) = Utf.heads b.val := by decide +kernel
theorem and_heads8 (b : UInt8) : (bits .and .u8 (b.toNat : Int) 192 != 128) = Utf.heads b.toNat := and_heads ⟨b.toNat, b.toNat_lt⟩
theorem utf_apart (s : ByteArray) {x : Nat} (hx : x ≤ s.size) (w : World) :
    Calls Tryd.prog 51 #[.string s, .int .i64 x] w fun e w' => e = .returned (.bool (Utf.apart s.data.toList x)) ∧ w = w' := by
  rcases Nat.lt_or_ge x s.size with h | h
  · have H : Hid (Utf.apart s.data.toList x = Utf.heads s[x].toNat) := by
      show _ = _
      rw [Utf.apart, byte_get s h]
    have g := and_heads8 s[x]
    have g1 : ((x : Int) == (s.size : Int)) = false := by simp; omega
    generalize Utf.heads s[x].toNat = z at *
    go_enter Tryd.func51, Tryd.ntmps51
    go_wp2
    go_ret
    exact ⟨by rw [H.out]; rfl, rfl⟩
  · have H : Hid (Utf.apart s.data.toList x = true) := by
      show _ = _
      rw [Utf.apart, List.getElem?_eq_none (by simpa using h)]
    have g1 : ((x : Int) == (s.size : Int)) = true := by simp; omega
    go_enter Tryd.func51, Tryd.ntmps51
    go_wp2
    go_ret
    exact ⟨by rw [H.out]; rfl, rfl⟩
namespace Utf
/-- The rune i of a text begins at x or ahead of it, and the one behind it does not. -/
structure Under (rs : List (List UInt8)) (i : Nat) (x : Nat) : Prop where
  top : i ≤ rs.length
  here : off rs i ≤ x
  far : i < rs.length → x < off rs (i + 1)
theorem under_of {s : List UInt8} {rs : List (List UInt8)} (h : dec s = some rs) {y x : Nat} (hy : y ≤ x) (hx : x ≤ s.length) (ha : apart s y = true) (hn : ∀ z, y < z → z ≤ x → apart s z = false) : ∃ i, off rs i = y ∧ Under rs i x := by
  obtain ⟨i, hi, rfl⟩ := (apart_iff h (by omega)).1 ha
  refine ⟨i, rfl, hi, hy, fun hlt => ?_⟩
  rcases Nat.lt_or_ge x (off rs (i + 1)) with h1 | h1
  · exact h1
  · have h2 := hn (off rs (i + 1)) (off_lt (dec_some h).1 (by omega) hlt) h1
    rw [(apart_iff h (by omega)).2 ⟨i + 1, hlt, rfl⟩] at h2
    cases h2
theorem under_unique {rs : List (List UInt8)} {i j x : Nat} (hi : Under rs i x) (hj : Under rs j x) : i = j := by
  have a := hi.top
  have b := hj.top
  rcases Nat.lt_trichotomy i j with h1 | h1 | h1
  · have := hi.far (by omega)
    have := off_mono (rs := rs) (i := i + 1) (j := j) h1
    have := hj.here
    omega
  · exact h1
  · have := hj.far (by omega)
    have := off_mono (rs := rs) (i := j + 1) (j := i) h1
    have := hi.here
    omega
theorem under_cut {s : List UInt8} {rs : List (List UInt8)} (h : dec s = some rs) {i x : Nat} (hi : Under rs i x) : cut s x = s.take (off rs i) :=
  cut_at h hi.top (by have := hi.here; omega) (fun hl => by have := hi.far hl; omega)
theorem apart_zero {s : List UInt8} {rs : List (List UInt8)} (h : dec s = some rs) : apart s 0 = true := (apart_iff h (by omega)).2 ⟨0, by omega, off_zero _⟩
end Utf
set_option maxHeartbeats 400000 in
theorem utf_back (s : ByteArray) {rs : List (List UInt8)} (hd : Utf.dec s.data.toList = some rs) {x : Nat} (hx : x ≤ s.size) (hs : s.size ≤ 9223372036854775807) (w : World) :
    Calls Tryd.prog 71 #[.string s, .int .i64 x] w fun e w' => (∃ i, Utf.Under rs i x ∧ e = .returned (.int .i64 (Utf.off rs i : Nat))) ∧ w = w' := by
  have D := Lib.hid hd
  have hl : s.data.toList.length = s.size := by simp
  clear hd
  go_enter Tryd.func71, Tryd.ntmps71
  go_wp2_with fail
  go_loop [1] (fun i => ∃ y : Nat, y ≤ x ∧ i = .int .i64 y ∧ Hid (∀ z, y < z → z ≤ x → Utf.apart s.data.toList z = false)) (fun i => (intOf i).toNat)
  case atStart => exact ⟨x, Nat.le_refl _, rfl, fun z h1 h2 => absurd h1 (by omega)⟩
  case round =>
    obtain ⟨y, hy, rfl, hn⟩ := hrel
    have c := Lib.hid (utf_apart s (x := y) (by omega))
    cases ha : Utf.apart s.data.toList y with
    | false =>
      rw [ha] at c
      have h0 : 0 < y := by
        rcases Nat.eq_zero_or_pos y with rfl | h
        · rw [Utf.apart_zero D.out] at ha; cases ha
        · exact h
      have K : Hid (∀ z, y - 1 < z → z ≤ x → Utf.apart s.data.toList z = false) := fun z h1 h2 => by
        rcases Nat.lt_or_ge y z with h3 | h3
        · exact hn.out z h3 h2
        · rw [show z = y by omega]; exact ha
      clear hn ha
      go_wp2_with (go_at_call 51; refine (c.out _).mono ?_; rintro e w1 ⟨rfl, rfl⟩)
      go_round
      case rel => exact ⟨y - 1, by omega, by go_num, K⟩
      case measure => simp [intOf]; omega
    | true =>
      rw [ha] at c
      obtain ⟨i, hi, hu⟩ := Utf.under_of D.out hy (by omega) ha hn.out
      clear hn ha
      go_wp2_with (go_at_call 51; refine (c.out _).mono ?_; rintro e w1 ⟨rfl, rfl⟩)
      go_ret
      exact ⟨⟨i, hu, by rw [hi]; rfl⟩, rfl⟩
theorem valid_step {s : List UInt8} {j n : Nat} (h0 : 0 < n) (hn : n = Utf.siz (s.drop j)) (h : n ≤ s.length - j) : Utf.valid (s.drop j) = Utf.valid (s.drop (j + n)) := by
  have h1 := Utf.one_take (s := s.drop j) (by omega) (by rw [List.length_drop]; omega)
  have h2 := Utf.dec_one ((s.drop j).drop (Utf.siz (s.drop j))) h1
  rw [List.take_append_drop, List.drop_drop, ← hn] at h2
  rw [Utf.valid, Utf.valid, h2]
  cases Utf.dec (s.drop (j + n)) <;> rfl
theorem valid_stop {s : List UInt8} {j : Nat} (h0 : j < s.length) (h : Utf.siz (s.drop j) = 0 ∨ s.length - j < Utf.siz (s.drop j)) : Utf.valid (s.drop j) = false := by
  rw [Utf.valid, Utf.dec_bad (by intro h1; have := congrArg List.length h1; simp at this; omega) (by rw [List.length_drop]; exact h)]
  rfl
theorem siz_low {b : UInt8} (t : List UInt8) (h : b.toNat < 128) : Utf.siz (b :: t) = 1 := by
  have : Utf.len b.toNat = 1 := by
    unfold Utf.len
    rw [if_neg (by omega), if_neg (by omega), if_neg (by omega), if_neg (by omega), if_neg (by omega)]
  rw [Utf.siz_cons, this]
  rfl
set_option maxHeartbeats 400000 in
set_option maxRecDepth 100000 in
theorem utf_Valid (s : ByteArray) (hs : s.size ≤ 9223372036854775807) (w : World) :
    Calls Tryd.prog 49 #[.string s] w fun e w' => e = .returned (.bool (Utf.valid s.data.toList)) ∧ w = w' := by
  have hl : s.data.toList.length = s.size := by simp
  go_enter Tryd.func49, Tryd.ntmps49
  go_wp2_with fail
  go_loop [3, 4] (fun i _ => ∃ j : Nat, j ≤ s.size ∧ i = .int .i64 j ∧ Hid (Utf.valid s.data.toList = Utf.valid (s.data.toList.drop j))) (fun i _ => s.size - (intOf i).toNat)
  case atStart => exact ⟨0, Nat.zero_le _, rfl, by rw [List.drop_zero]; rfl⟩
  case round =>
    obtain ⟨j, hj, rfl, K⟩ := hrel
    by_cases hjl : j < s.size
    · have hd := byte_drop s j hjl
      have hb := s[j].toNat_lt
      by_cases h8 : s[j].toNat < 128
      · have K2 : Hid (Utf.valid s.data.toList = Utf.valid (s.data.toList.drop (j + 1))) := by
          show _ = _
          rw [K.out, valid_step (n := 1) (by omega) (by rw [hd, siz_low _ h8]) (by omega)]
        clear K hd
        go_wp2
        go_round
        case rel => exact ⟨j + 1, by omega, by go_num, K2⟩
        case measure => simp [intOf]; omega
      · have e1 : s.extract j s.size = bs (s.data.toList.drop j) := by
          rw [Lib.extract_eq, List.take_of_length_le (by rw [List.length_drop]; omega)]
          rfl
        have c := utf_size (s.extract j s.size) (by rw [e1, bs_size, List.length_drop]; omega)
        rw [e1, bs_toList, ← e1] at c
        have C := Lib.hid c
        clear c hd
        obtain ⟨n, hn⟩ : ∃ n, n = Utf.siz (s.data.toList.drop j) := ⟨_, rfl⟩
        have hn4 : n ≤ 4 := by rw [hn]; exact Utf.siz_le _
        rw [← hn] at C
        by_cases hc : n = 0 ∨ s.size - j < n
        · have K2 : Hid (Utf.valid s.data.toList = false) := by
            show _ = _
            rw [K.out, valid_stop (by omega) (by omega)]
          clear K e1 hn
          have g : ((n : Int) == 0) = true ∨ ((n : Int) == 0) = false ∧ (s.size : Int) - j < n := by
            rcases Nat.eq_zero_or_pos n with h | h
            · exact Or.inl (by simp; omega)
            · exact Or.inr ⟨by simp; omega, by omega⟩
          rcases g with g | ⟨g, g'⟩
          · go_wp2_with (go_at_call 64; refine (C.out _).mono ?_; rintro e w1 ⟨rfl, rfl⟩)
            go_ret
            exact ⟨by rw [K2.out]; rfl, rfl⟩
          · go_wp2_with (go_at_call 64; refine (C.out _).mono ?_; rintro e w1 ⟨rfl, rfl⟩)
            go_ret
            exact ⟨by rw [K2.out]; rfl, rfl⟩
        · have K2 : Hid (Utf.valid s.data.toList = Utf.valid (s.data.toList.drop (j + n))) := by
            show _ = _
            rw [K.out, valid_step (n := n) (by omega) hn (by omega)]
          clear K e1 hn
          have g : ((n : Int) == 0) = false := by simp; omega
          have g' : ¬ (s.size : Int) - j < n := by omega
          go_wp2_with (go_at_call 64; refine (C.out _).mono ?_; rintro e w1 ⟨rfl, rfl⟩)
          go_round
          case rel => exact ⟨j + n, by omega, by go_num, K2⟩
          case measure => simp [intOf]; omega
    · have K2 : Hid (Utf.valid s.data.toList = true) := by
        show _ = _
        rw [K.out, List.drop_eq_nil_of_le (by omega), Utf.valid, Utf.dec_nil]
        rfl
      go_wp2
      go_ret
      exact ⟨by rw [K2.out]; rfl, rfl⟩
end Go.Proofs.YtlfhfpjffdaomaaDoor
