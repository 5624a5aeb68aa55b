/-
  Package class: Run.
-/
import Derived.Test.YtohdijhpoddbbaaClassOf
namespace Go.Proofs.Ytohdijhpoddbbaa
open Go.RowKit
attribute [local go_sem] Oper.semAt_some
theorem Class.same_byte (s : ByteArray) (big : Bool) (c : Nat) {j : Nat} (h : j < s.size) : Class.same s.data.toList big c j = decide (Class.of big s[j].toNat = c) := by
  rw [Class.same, Class.at_some (byte_get s h)]
set_option maxHeartbeats 1600000 in
set_option maxRecDepth 100000 in
theorem class_Run_false (s : ByteArray) (x : Int) (hs : s.size ≤ 9223372036854775807) (w : World) :
    Calls Try.prog 42 #[.string s, .int .i64 x, .bool false] w fun e w' => e = .returned (.tuple #[.int .i64 (Class.low_ s.data.toList x false), .int .i64 (Class.high_ s.data.toList x false)]) ∧ w = w' := by
  have hl : s.data.toList.length = s.size := by simp
  have c0' := class_at s x false hs
  rw [telling_false] at c0'
  have c0 := Lib.hid c0'
  clear c0'
  by_cases h0 : Class.kind s.data.toList x false = 0 ∨ Class.kind s.data.toList x false = 4
  · have H1 := Lib.hid (Class.low_none h0)
    have H2 := Lib.hid (Class.high_none h0)
    generalize Class.kind s.data.toList x false = c at *
    rcases h0 with h0 | h0
    all_goals
      subst h0
      go_enter Try.func42, Try.ntmps42
      go_wp2_with (go_at_call 65; refine (c0.out _).mono ?_; rintro e w1 ⟨rfl, rfl⟩)
      go_ret2
      exact ⟨by rw [H1.out, H2.out]; rfl, rfl⟩
  · obtain ⟨rs, i, hd, hi, rfl, hk⟩ := Class.kind_nat h0
    have H1 := Lib.hid (Class.low_some h0)
    have H2 := Lib.hid (Class.high_some h0)
    have hlt : Utf.off rs i < s.size := by have := Class.off_below hd hi; omega
    have F := Lib.hid (fun j (h : j < s.size) => Class.same_byte s false (Class.kind s.data.toList (Utf.off rs i : Int) false) h)
    clear hk hd hi
    generalize Class.kind s.data.toList (Utf.off rs i : Int) false = c at *
    generalize Utf.off rs i = y at *
    generalize Class.same s.data.toList false c = f at *
    have g1 : ((c : Int) == 0) = false := by simp; omega
    have g2 : ((c : Int) == 4) = false := by simp; omega
    clear h0
    rw [hl] at H2
    clear hl
    go_enter Try.func42, Try.ntmps42
    go_wp2_with (go_at_call 65; refine (c0.out _).mono ?_; rintro e w1 ⟨rfl, rfl⟩)
    clear g1 g2 c0
    go_loop [10] (fun v => ∃ k : Nat, k ≤ y ∧ v = .int .i64 k ∧ Hid (Class.lft f y = Class.lft f k)) (fun v => (intOf v).toNat)
    case atStart => exact ⟨y, Nat.le_refl _, rfl, by show _ = _; rfl⟩
    case round =>
      obtain ⟨k, hk, rfl, K⟩ := hrel
      rcases k with _ | j
      · have K2 : Hid (Class.lft f y = 0) := K.out
        clear K hk
        go_wp2
        go_loop [11] (fun v => ∃ q : Nat, y ≤ q ∧ q ≤ s.size ∧ v = .int .i64 q ∧ Hid (Class.rgt f y (s.size - y) = Class.rgt f q (s.size - q))) (fun v => s.size - (intOf v).toNat)
        case atStart => exact ⟨y, Nat.le_refl _, by omega, rfl, by show _ = _; rfl⟩
        case round =>
          obtain ⟨q, hq1, hq2, rfl, R⟩ := hrel
          by_cases hq3 : q < s.size
          · have c2 := Lib.hid (class_plain s[q].toNat)
            have Fq := F.out q (by omega)
            rw [Class.of_false] at Fq
            by_cases he : Class.plain s[q].toNat = c
            · have R2 : Hid (Class.rgt f y (s.size - y) = Class.rgt f (q + 1) (s.size - (q + 1))) := by
                show _ = _
                rw [R.out, show s.size - q = (s.size - (q + 1)) + 1 by omega, Class.rgt_yes (by rw [Fq]; simpa using he)]
              rw [he] at c2
              clear R Fq he
              go_wp2_with (go_at_call 63; refine (c2.out _).mono ?_; rintro e w1 ⟨rfl, rfl⟩)
              go_round
              case rel => exact ⟨q + 1, by omega, by omega, by go_num, R2⟩
              case measure => simp [intOf]; omega
            · have R2 : Hid (Class.rgt f y (s.size - y) = q) := by
                show _ = _
                rw [R.out, Class.rgt_no (by rw [Fq]; simpa using he)]
              have g : ((Class.plain s[q].toNat : Int) == (c : Int)) = false := by simp; omega
              clear R Fq he
              generalize Class.plain s[q].toNat = z at *
              go_wp2_with (go_at_call 63; refine (c2.out _).mono ?_; rintro e w1 ⟨rfl, rfl⟩)
              go_ret2
              exact ⟨by rw [H1.out, H2.out, K2.out, R2.out]; rfl, rfl⟩
          · obtain rfl : q = s.size := by omega
            have R2 : Hid (Class.rgt f y (s.size - y) = s.size) := by
              show _ = _
              rw [R.out, Nat.sub_self, Class.rgt_zero]
            clear R
            go_wp2
            go_ret2
            exact ⟨by rw [H1.out, H2.out, K2.out, R2.out]; try rfl, rfl⟩
      · have c1 := Lib.hid (class_plain s[j].toNat)
        have Fj := F.out j (by omega)
        rw [Class.of_false] at Fj
        by_cases he : Class.plain s[j].toNat = c
        · have K2 : Hid (Class.lft f y = Class.lft f j) := by
            show _ = _
            rw [K.out, Class.lft_yes (by rw [Fj]; simpa using he)]
          rw [he] at c1
          clear K Fj he
          go_wp2_with (go_at_call 63; refine (c1.out _).mono ?_; rintro e w1 ⟨rfl, rfl⟩)
          go_round
          case rel => exact ⟨j, by omega, by go_num, K2⟩
          case measure => simp [intOf]
        · have K2 : Hid (Class.lft f y = j + 1) := by
            show _ = _
            rw [K.out, Class.lft_no (by rw [Fj]; simpa using he)]
          have g : ((Class.plain s[j].toNat : Int) == (c : Int)) = false := by simp; omega
          clear K Fj he
          generalize Class.plain s[j].toNat = z at *
          go_wp2_with (go_at_call 63; refine (c1.out _).mono ?_; rintro e w1 ⟨rfl, rfl⟩)
          clear g c1
          go_loop [11] (fun v => ∃ q : Nat, y ≤ q ∧ q ≤ s.size ∧ v = .int .i64 q ∧ Hid (Class.rgt f y (s.size - y) = Class.rgt f q (s.size - q))) (fun v => s.size - (intOf v).toNat)
          case atStart => exact ⟨y, Nat.le_refl _, by omega, rfl, by show _ = _; rfl⟩
          case round =>
            obtain ⟨q, hq1, hq2, rfl, R⟩ := hrel
            by_cases hq3 : q < s.size
            · have c2 := Lib.hid (class_plain s[q].toNat)
              have Fq := F.out q (by omega)
              rw [Class.of_false] at Fq
              by_cases he : Class.plain s[q].toNat = c
              · have R2 : Hid (Class.rgt f y (s.size - y) = Class.rgt f (q + 1) (s.size - (q + 1))) := by
                  show _ = _
                  rw [R.out, show s.size - q = (s.size - (q + 1)) + 1 by omega, Class.rgt_yes (by rw [Fq]; simpa using he)]
                rw [he] at c2
                clear R Fq he
                go_wp2_with (go_at_call 63; refine (c2.out _).mono ?_; rintro e w1 ⟨rfl, rfl⟩)
                go_round
                case rel => exact ⟨q + 1, by omega, by omega, by go_num, R2⟩
                case measure => simp [intOf]; omega
              · have R2 : Hid (Class.rgt f y (s.size - y) = q) := by
                  show _ = _
                  rw [R.out, Class.rgt_no (by rw [Fq]; simpa using he)]
                have g : ((Class.plain s[q].toNat : Int) == (c : Int)) = false := by simp; omega
                clear R Fq he
                generalize Class.plain s[q].toNat = z at *
                go_wp2_with (go_at_call 63; refine (c2.out _).mono ?_; rintro e w1 ⟨rfl, rfl⟩)
                go_ret2
                exact ⟨by rw [H1.out, H2.out, K2.out, R2.out]; rfl, rfl⟩
            · obtain rfl : q = s.size := by omega
              have R2 : Hid (Class.rgt f y (s.size - y) = s.size) := by
                show _ = _
                rw [R.out, Nat.sub_self, Class.rgt_zero]
              clear R
              go_wp2
              go_ret2
              exact ⟨by rw [H1.out, H2.out, K2.out, R2.out]; try rfl, rfl⟩
set_option maxHeartbeats 1600000 in
set_option maxRecDepth 100000 in
theorem class_Run_true (s : ByteArray) (x : Int) (hs : s.size ≤ 9223372036854775807) (w : World) :
    Calls Try.prog 42 #[.string s, .int .i64 x, .bool true] w fun e w' => e = .returned (.tuple #[.int .i64 (Class.low_ s.data.toList x true), .int .i64 (Class.high_ s.data.toList x true)]) ∧ w = w' := by
  have hl : s.data.toList.length = s.size := by simp
  have c0' := class_at s x true hs
  rw [telling_true] at c0'
  have c0 := Lib.hid c0'
  clear c0'
  by_cases h0 : Class.kind s.data.toList x true = 0 ∨ Class.kind s.data.toList x true = 4
  · have H1 := Lib.hid (Class.low_none h0)
    have H2 := Lib.hid (Class.high_none h0)
    generalize Class.kind s.data.toList x true = c at *
    rcases h0 with h0 | h0
    all_goals
      subst h0
      go_enter Try.func42, Try.ntmps42
      go_wp2_with (go_at_call 65; refine (c0.out _).mono ?_; rintro e w1 ⟨rfl, rfl⟩)
      go_ret2
      exact ⟨by rw [H1.out, H2.out]; rfl, rfl⟩
  · obtain ⟨rs, i, hd, hi, rfl, hk⟩ := Class.kind_nat h0
    have H1 := Lib.hid (Class.low_some h0)
    have H2 := Lib.hid (Class.high_some h0)
    have hlt : Utf.off rs i < s.size := by have := Class.off_below hd hi; omega
    have F := Lib.hid (fun j (h : j < s.size) => Class.same_byte s true (Class.kind s.data.toList (Utf.off rs i : Int) true) h)
    clear hk hd hi
    generalize Class.kind s.data.toList (Utf.off rs i : Int) true = c at *
    generalize Utf.off rs i = y at *
    generalize Class.same s.data.toList true c = f at *
    have g1 : ((c : Int) == 0) = false := by simp; omega
    have g2 : ((c : Int) == 4) = false := by simp; omega
    clear h0
    rw [hl] at H2
    clear hl
    go_enter Try.func42, Try.ntmps42
    go_wp2_with (go_at_call 65; refine (c0.out _).mono ?_; rintro e w1 ⟨rfl, rfl⟩)
    clear g1 g2 c0
    go_loop [10] (fun v => ∃ k : Nat, k ≤ y ∧ v = .int .i64 k ∧ Hid (Class.lft f y = Class.lft f k)) (fun v => (intOf v).toNat)
    case atStart => exact ⟨y, Nat.le_refl _, rfl, by show _ = _; rfl⟩
    case round =>
      obtain ⟨k, hk, rfl, K⟩ := hrel
      rcases k with _ | j
      · have K2 : Hid (Class.lft f y = 0) := K.out
        clear K hk
        go_wp2
        go_loop [11] (fun v => ∃ q : Nat, y ≤ q ∧ q ≤ s.size ∧ v = .int .i64 q ∧ Hid (Class.rgt f y (s.size - y) = Class.rgt f q (s.size - q))) (fun v => s.size - (intOf v).toNat)
        case atStart => exact ⟨y, Nat.le_refl _, by omega, rfl, by show _ = _; rfl⟩
        case round =>
          obtain ⟨q, hq1, hq2, rfl, R⟩ := hrel
          by_cases hq3 : q < s.size
          · have c2 := Lib.hid (class_great s[q].toNat)
            have Fq := F.out q (by omega)
            rw [Class.of_true] at Fq
            by_cases he : Class.great s[q].toNat = c
            · have R2 : Hid (Class.rgt f y (s.size - y) = Class.rgt f (q + 1) (s.size - (q + 1))) := by
                show _ = _
                rw [R.out, show s.size - q = (s.size - (q + 1)) + 1 by omega, Class.rgt_yes (by rw [Fq]; simpa using he)]
              rw [he] at c2
              clear R Fq he
              go_wp2_with (go_at_call 64; refine (c2.out _).mono ?_; rintro e w1 ⟨rfl, rfl⟩)
              go_round
              case rel => exact ⟨q + 1, by omega, by omega, by go_num, R2⟩
              case measure => simp [intOf]; omega
            · have R2 : Hid (Class.rgt f y (s.size - y) = q) := by
                show _ = _
                rw [R.out, Class.rgt_no (by rw [Fq]; simpa using he)]
              have g : ((Class.great s[q].toNat : Int) == (c : Int)) = false := by simp; omega
              clear R Fq he
              generalize Class.great s[q].toNat = z at *
              go_wp2_with (go_at_call 64; refine (c2.out _).mono ?_; rintro e w1 ⟨rfl, rfl⟩)
              go_ret2
              exact ⟨by rw [H1.out, H2.out, K2.out, R2.out]; rfl, rfl⟩
          · obtain rfl : q = s.size := by omega
            have R2 : Hid (Class.rgt f y (s.size - y) = s.size) := by
              show _ = _
              rw [R.out, Nat.sub_self, Class.rgt_zero]
            clear R
            go_wp2
            go_ret2
            exact ⟨by rw [H1.out, H2.out, K2.out, R2.out]; try rfl, rfl⟩
      · have c1 := Lib.hid (class_great s[j].toNat)
        have Fj := F.out j (by omega)
        rw [Class.of_true] at Fj
        by_cases he : Class.great s[j].toNat = c
        · have K2 : Hid (Class.lft f y = Class.lft f j) := by
            show _ = _
            rw [K.out, Class.lft_yes (by rw [Fj]; simpa using he)]
          rw [he] at c1
          clear K Fj he
          go_wp2_with (go_at_call 64; refine (c1.out _).mono ?_; rintro e w1 ⟨rfl, rfl⟩)
          go_round
          case rel => exact ⟨j, by omega, by go_num, K2⟩
          case measure => simp [intOf]
        · have K2 : Hid (Class.lft f y = j + 1) := by
            show _ = _
            rw [K.out, Class.lft_no (by rw [Fj]; simpa using he)]
          have g : ((Class.great s[j].toNat : Int) == (c : Int)) = false := by simp; omega
          clear K Fj he
          generalize Class.great s[j].toNat = z at *
          go_wp2_with (go_at_call 64; refine (c1.out _).mono ?_; rintro e w1 ⟨rfl, rfl⟩)
          clear g c1
          go_loop [11] (fun v => ∃ q : Nat, y ≤ q ∧ q ≤ s.size ∧ v = .int .i64 q ∧ Hid (Class.rgt f y (s.size - y) = Class.rgt f q (s.size - q))) (fun v => s.size - (intOf v).toNat)
          case atStart => exact ⟨y, Nat.le_refl _, by omega, rfl, by show _ = _; rfl⟩
          case round =>
            obtain ⟨q, hq1, hq2, rfl, R⟩ := hrel
            by_cases hq3 : q < s.size
            · have c2 := Lib.hid (class_great s[q].toNat)
              have Fq := F.out q (by omega)
              rw [Class.of_true] at Fq
              by_cases he : Class.great s[q].toNat = c
              · have R2 : Hid (Class.rgt f y (s.size - y) = Class.rgt f (q + 1) (s.size - (q + 1))) := by
                  show _ = _
                  rw [R.out, show s.size - q = (s.size - (q + 1)) + 1 by omega, Class.rgt_yes (by rw [Fq]; simpa using he)]
                rw [he] at c2
                clear R Fq he
                go_wp2_with (go_at_call 64; refine (c2.out _).mono ?_; rintro e w1 ⟨rfl, rfl⟩)
                go_round
                case rel => exact ⟨q + 1, by omega, by omega, by go_num, R2⟩
                case measure => simp [intOf]; omega
              · have R2 : Hid (Class.rgt f y (s.size - y) = q) := by
                  show _ = _
                  rw [R.out, Class.rgt_no (by rw [Fq]; simpa using he)]
                have g : ((Class.great s[q].toNat : Int) == (c : Int)) = false := by simp; omega
                clear R Fq he
                generalize Class.great s[q].toNat = z at *
                go_wp2_with (go_at_call 64; refine (c2.out _).mono ?_; rintro e w1 ⟨rfl, rfl⟩)
                go_ret2
                exact ⟨by rw [H1.out, H2.out, K2.out, R2.out]; rfl, rfl⟩
            · obtain rfl : q = s.size := by omega
              have R2 : Hid (Class.rgt f y (s.size - y) = s.size) := by
                show _ = _
                rw [R.out, Nat.sub_self, Class.rgt_zero]
              clear R
              go_wp2
              go_ret2
              exact ⟨by rw [H1.out, H2.out, K2.out, R2.out]; try rfl, rfl⟩
theorem class_Run (s : ByteArray) (x : Int) (big : Bool) (hs : s.size ≤ 9223372036854775807) (w : World) :
    Calls Try.prog 42 #[.string s, .int .i64 x, .bool big] w fun e w' => e = .returned (.tuple #[.int .i64 (Class.low_ s.data.toList x big), .int .i64 (Class.high_ s.data.toList x big)]) ∧ w = w' := by
  cases big
  · exact class_Run_false s x hs w
  · exact class_Run_true s x hs w
end Go.Proofs.Ytohdijhpoddbbaa
