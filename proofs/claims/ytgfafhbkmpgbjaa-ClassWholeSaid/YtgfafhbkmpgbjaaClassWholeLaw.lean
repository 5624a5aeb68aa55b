/-
  'calamuslaw05.ClassWhole' answers true for every text, every number and both classes: all runes of a run have its class, and lie in its line; those beside it have not.
-/
import Derived.Test.YtgfafhbkmpgbjaaClassLives
import Derived.Test.YtgfafhbkmpgbjaaClassWholes
import Derived.Test.YtgfafhbkmpgbjaaLineCalls
import Derived.Test.YtgfafhbkmpgbjaaFrame
namespace Go.Proofs.Ytgfafhbkmpgbjaa
open Go.RowKit
theorem classWhole_out (s : ByteArray) (p : Int) (big : Bool) {w : World} (hs : s.size ≤ 140737488351232) (h : 500 < s.size ∨ Utf.valid s.data.toList = false) :
    Calls Try.prog 5 #[.string s, .int .i64 p, .bool big] w fun e w' => e = .returned (.bool true) ∧ Below w.heap.size w w' := by
  rcases Nat.lt_or_ge 500 s.size with h1 | h1
  · clear h
    go_enter Try.func5, Try.ntmps5
    go_wp2_with fail
    refine (class_lives _).mono ?_
    rintro e w1 ⟨rfl, rfl⟩
    go_wp2
    go_ret
    exact ⟨rfl, Below.refl _ _⟩
  · have hv : Utf.valid s.data.toList = false := by
      rcases h with h | h
      · omega
      · exact h
    have c1 := utf_Valid s (by omega)
    rw [hv] at c1
    have C1 := Lib.hid c1
    clear c1 hv h
    go_enter Try.func5, Try.ntmps5
    go_wp2_with fail
    refine (C1.out _).mono ?_
    rintro e w1 ⟨rfl, rfl⟩
    go_wp2_with fail
    refine (class_lives _).mono ?_
    rintro e w1 ⟨rfl, rfl⟩
    go_wp2
    go_ret
    exact ⟨rfl, Below.refl _ _⟩
set_option maxHeartbeats 1600000 in
set_option maxRecDepth 100000 in
theorem classWhole_false (s : ByteArray) (p : Int) {w : World} (hs : s.size ≤ 500) (hv : Utf.valid s.data.toList = true) :
    Calls Try.prog 5 #[.string s, .int .i64 p, .bool false] w fun e w' => e = .returned (.bool true) ∧ Below w.heap.size w w' := by
  have hl : s.data.toList.length = s.size := by simp
  have c1 := utf_Valid s (by omega)
  rw [hv] at c1
  have C1 := Lib.hid c1
  clear c1
  have C2 := Lib.hid (class_Run s p false (by omega))
  have C3 := Lib.hid (fun x w => class_Of s x (by omega) w)
  by_cases h0 : Class.kind s.data.toList p false = 0 ∨ Class.kind s.data.toList p false = 4
  · have C4 := Lib.hid (class_Of s p (by omega))
    rw [Class.low_none h0, Class.high_none h0] at C2
    clear C3 hv hl
    generalize Class.kind s.data.toList p false = c at *
    rcases h0 with rfl | rfl
    · rw [show ((0 : Nat) : Int) = 0 from rfl] at C4
      go_enter Try.func5, Try.ntmps5
      go_wp2_with fail
      refine (C1.out _).mono ?_
      rintro e w0 ⟨rfl, rfl⟩
      go_wp2_with fail
      refine (C2.out _).mono ?_
      rintro e w1 ⟨rfl, rfl⟩
      go_wp2_with fail
      refine (C4.out _).mono ?_
      rintro e w2 ⟨rfl, rfl⟩
      go_wp2_with fail
      refine (class_lives _).mono ?_
      rintro e w3 ⟨rfl, rfl⟩
      go_wp2
      go_ret
      exact ⟨rfl, Below.refl _ _⟩
    · rw [show ((4 : Nat) : Int) = 4 from rfl] at C4
      go_enter Try.func5, Try.ntmps5
      go_wp2_with fail
      refine (C1.out _).mono ?_
      rintro e w0 ⟨rfl, rfl⟩
      go_wp2_with fail
      refine (C2.out _).mono ?_
      rintro e w1 ⟨rfl, rfl⟩
      go_wp2_with fail
      refine (C4.out _).mono ?_
      rintro e w2 ⟨rfl, rfl⟩
      go_wp2_with fail
      refine (C4.out _).mono ?_
      rintro e w3 ⟨rfl, rfl⟩
      go_wp2_with fail
      refine (class_lives _).mono ?_
      rintro e w4 ⟨rfl, rfl⟩
      go_wp2
      go_ret
      exact ⟨rfl, Below.refl _ _⟩
  · obtain ⟨rs, i, hd, hi, rfl, hk⟩ := Class.kind_nat h0
    have hlt : Utf.off rs i < s.size := by have := Class.off_below hd hi; omega
    have hp : Utf.place s.data.toList (Utf.off rs i : Int) = true := Utf.place_at hd (Nat.le_of_lt hi)
    rw [Class.low_some h0, Class.high_some h0] at C2
    have C4 := Lib.hid (class_Of s (Utf.off rs i : Int) (by omega))
    generalize Class.kind s.data.toList (Utf.off rs i : Int) false = c at *
    generalize Utf.off rs i = y at *
    have hc := hk.symm
    have h4 : c ≠ 4 := fun h => h0 (Or.inr h)
    have hyl : y < s.data.toList.length := by omega
    have e1 := Class.lft_le (Class.same s.data.toList false c) y
    have e2 := Class.high_gt hyl hc
    have e3 := (Class.rgt_ge (Class.same s.data.toList false c) y (s.data.toList.length - y)).2
    have e4 := Class.low_place hd hyl hc
    have e5 := Class.high_place (big := false) (c := c) hd hp hyl
    obtain ⟨k, e6, e7⟩ := Class.run_line hd hyl hc h4
    have e8 := Class.behind_kind hd hp hyl hc
    have e9 := Class.ahead_kind hd hyl hc
    have e10 := fun q => Class.inside_run (s := s.data.toList) (big := false) (y := y) (c := c) (q := q)
    generalize Class.lft (Class.same s.data.toList false c) y = a at *
    generalize Class.rgt (Class.same s.data.toList false c) y (s.data.toList.length - y) = b at *
    have D1 := line_Of s (a : Int) (by omega)
    rw [e6] at D1
    have D2 := line_Of s (b : Int) (by omega)
    rw [e7] at D2
    have E1 := Lib.hid D1
    have E2 := Lib.hid D2
    have HD := Lib.hid hd
    have E4 := Lib.hid e4
    have E5 := Lib.hid e5
    have E8 := Lib.hid e8
    have E9 := Lib.hid e9
    have E10 := Lib.hid e10
    have hb : b ≤ s.size := by omega
    have HL := Lib.hid hl
    have g1 : decide (500 < (s.size : Int)) = false := by simp; omega
    have g2 : decide ((a : Int) < 0) = false := by simp
    have g3 : decide (y < a) = false := by simp; omega
    have g4 : decide (b ≤ y) = false := by simp; omega
    have g5 : decide (s.size < b) = false := by simp; omega
    clear D1 D2 e3 e4 e5 e6 e7 e8 e9 e10 hd hp hk hc h4 h0 hi hv hl hyl
    go_enter Try.func5, Try.ntmps5
    go_wp2_with fail
    refine (C1.out _).mono ?_
    rintro e w0 ⟨rfl, rfl⟩
    go_wp2_with fail
    refine (C2.out _).mono ?_
    rintro e w1 ⟨rfl, rfl⟩
    go_wp2_with fail
    refine (E1.out _).mono ?_
    rintro e w2 ⟨rfl, hb2⟩
    go_wp2_with fail
    refine (E2.out _).mono ?_
    rintro e w3 ⟨rfl, hb3⟩
    have kk3 := hb2.trans (hb3.mono hb2.size)
    clear hb3 hb2
    go_wp2_with fail
    go_loop [10] (fun v => ∃ m : Nat, a ≤ m ∧ m ≤ b ∧ v = .int .i64 m ∧ Hid (Utf.place s.data.toList (m : Int) = true)) (fun v => b - (intOf v).toNat)
    case atStart => exact ⟨a, Nat.le_refl _, by omega, rfl, E4⟩
    case round =>
      obtain ⟨m, hm1, hm2, rfl, M⟩ := hrel
      rcases Nat.lt_or_ge m b with hlt2 | hge
      · have hml : m < s.data.toList.length := by rw [HL.out]; omega
        obtain ⟨n, hn1, hn2, hn3, hn4, hn5⟩ := Class.next_in HD.out M.out hml
        have hkm : Class.kind s.data.toList (m : Int) false = c := by
          rw [Class.kind_place HD.out M.out hml]; exact E10.out m hm1 hlt2
        have hnb : n ≤ b := by
          rcases Nat.lt_or_ge b n with h | h
          · have h1 := hn5 b hlt2 h; rw [E5.out] at h1; cases h1
          · exact h
        have K1 := C3.out (m : Int)
        rw [hkm] at K1
        have K2 := utf_Next s (m : Int) (by omega)
        rw [hn1] at K2
        have L1 := Lib.hid K1
        have L2 := Lib.hid K2
        have N := Lib.hid hn4
        clear K1 K2 hkm hn1 hn4 hn5 hml M
        go_wp2_with fail
        refine (L1.out _).mono ?_
        rintro e w4 ⟨rfl, rfl⟩
        go_wp2_with fail
        refine (C4.out _).mono ?_
        rintro e w5 ⟨rfl, rfl⟩
        go_wp2_with fail
        refine (L2.out _).mono ?_
        rintro e w6 ⟨rfl, rfl⟩
        go_wp2_with fail
        go_round
        case rel => exact ⟨n, by omega, hnb, rfl, N⟩
        case measure => simp [intOf]; omega
      · obtain rfl : m = b := by omega
        have L1 := Lib.hid (C3.out (m : Int))
        have g : ((Class.kind s.data.toList (m : Int) false : Int) == (c : Int)) = false := by
          have := E8.out; simp; omega
        generalize Class.kind s.data.toList (m : Int) false = z at *
        clear M
        rcases Nat.eq_zero_or_pos a with rfl | h0
        · clear E9
          go_wp2_with fail
          refine (L1.out _).mono ?_
          rintro e w4 ⟨rfl, rfl⟩
          go_wp2_with fail
          refine (C4.out _).mono ?_
          rintro e w5 ⟨rfl, rfl⟩
          go_wp2_with fail
          refine (class_lives _).mono ?_
          rintro e w6 ⟨rfl, rfl⟩
          go_wp2
          go_ret
          exact ⟨rfl, kk3⟩
        · obtain ⟨u, hu, hku⟩ := E9.out h0
          have K2 := utf_Prev s (a : Int) (by omega)
          rw [hu] at K2
          have L2 := Lib.hid K2
          have L3 := Lib.hid (C3.out (u : Int))
          have g2 : ((Class.kind s.data.toList (u : Int) false : Int) == (c : Int)) = false := by simp; omega
          generalize Class.kind s.data.toList (u : Int) false = z2 at *
          clear K2 hu hku E9
          go_wp2_with fail
          refine (L1.out _).mono ?_
          rintro e w4 ⟨rfl, rfl⟩
          go_wp2_with fail
          refine (C4.out _).mono ?_
          rintro e w5 ⟨rfl, rfl⟩
          go_wp2_with fail
          refine (L2.out _).mono ?_
          rintro e w6 ⟨rfl, rfl⟩
          go_wp2_with fail
          refine (L3.out _).mono ?_
          rintro e w7 ⟨rfl, rfl⟩
          go_wp2_with fail
          refine (C4.out _).mono ?_
          rintro e w8 ⟨rfl, rfl⟩
          go_wp2_with fail
          refine (class_lives _).mono ?_
          rintro e w9 ⟨rfl, rfl⟩
          go_wp2
          go_ret
          exact ⟨rfl, kk3⟩
set_option maxHeartbeats 1600000 in
set_option maxRecDepth 100000 in
theorem classWhole_true (s : ByteArray) (p : Int) {w : World} (hs : s.size ≤ 500) (hv : Utf.valid s.data.toList = true) :
    Calls Try.prog 5 #[.string s, .int .i64 p, .bool true] w fun e w' => e = .returned (.bool true) ∧ Below w.heap.size w w' := by
  have hl : s.data.toList.length = s.size := by simp
  have c1 := utf_Valid s (by omega)
  rw [hv] at c1
  have C1 := Lib.hid c1
  clear c1
  have C2 := Lib.hid (class_Run s p true (by omega))
  have C3 := Lib.hid (fun x w => class_Big s x (by omega) w)
  by_cases h0 : Class.kind s.data.toList p true = 0 ∨ Class.kind s.data.toList p true = 4
  · have C4 := Lib.hid (class_Big s p (by omega))
    rw [Class.low_none h0, Class.high_none h0] at C2
    clear C3 hv hl
    generalize Class.kind s.data.toList p true = c at *
    rcases h0 with rfl | rfl
    · rw [show ((0 : Nat) : Int) = 0 from rfl] at C4
      go_enter Try.func5, Try.ntmps5
      go_wp2_with fail
      refine (C1.out _).mono ?_
      rintro e w0 ⟨rfl, rfl⟩
      go_wp2_with fail
      refine (C2.out _).mono ?_
      rintro e w1 ⟨rfl, rfl⟩
      go_wp2_with fail
      refine (C4.out _).mono ?_
      rintro e w2 ⟨rfl, rfl⟩
      go_wp2_with fail
      refine (class_lives _).mono ?_
      rintro e w3 ⟨rfl, rfl⟩
      go_wp2
      go_ret
      exact ⟨rfl, Below.refl _ _⟩
    · rw [show ((4 : Nat) : Int) = 4 from rfl] at C4
      go_enter Try.func5, Try.ntmps5
      go_wp2_with fail
      refine (C1.out _).mono ?_
      rintro e w0 ⟨rfl, rfl⟩
      go_wp2_with fail
      refine (C2.out _).mono ?_
      rintro e w1 ⟨rfl, rfl⟩
      go_wp2_with fail
      refine (C4.out _).mono ?_
      rintro e w2 ⟨rfl, rfl⟩
      go_wp2_with fail
      refine (C4.out _).mono ?_
      rintro e w3 ⟨rfl, rfl⟩
      go_wp2_with fail
      refine (class_lives _).mono ?_
      rintro e w4 ⟨rfl, rfl⟩
      go_wp2
      go_ret
      exact ⟨rfl, Below.refl _ _⟩
  · obtain ⟨rs, i, hd, hi, rfl, hk⟩ := Class.kind_nat h0
    have hlt : Utf.off rs i < s.size := by have := Class.off_below hd hi; omega
    have hp : Utf.place s.data.toList (Utf.off rs i : Int) = true := Utf.place_at hd (Nat.le_of_lt hi)
    rw [Class.low_some h0, Class.high_some h0] at C2
    have C4 := Lib.hid (class_Big s (Utf.off rs i : Int) (by omega))
    generalize Class.kind s.data.toList (Utf.off rs i : Int) true = c at *
    generalize Utf.off rs i = y at *
    have hc := hk.symm
    have h4 : c ≠ 4 := fun h => h0 (Or.inr h)
    have hyl : y < s.data.toList.length := by omega
    have e1 := Class.lft_le (Class.same s.data.toList true c) y
    have e2 := Class.high_gt hyl hc
    have e3 := (Class.rgt_ge (Class.same s.data.toList true c) y (s.data.toList.length - y)).2
    have e4 := Class.low_place hd hyl hc
    have e5 := Class.high_place (big := true) (c := c) hd hp hyl
    obtain ⟨k, e6, e7⟩ := Class.run_line hd hyl hc h4
    have e8 := Class.behind_kind hd hp hyl hc
    have e9 := Class.ahead_kind hd hyl hc
    have e10 := fun q => Class.inside_run (s := s.data.toList) (big := true) (y := y) (c := c) (q := q)
    generalize Class.lft (Class.same s.data.toList true c) y = a at *
    generalize Class.rgt (Class.same s.data.toList true c) y (s.data.toList.length - y) = b at *
    have D1 := line_Of s (a : Int) (by omega)
    rw [e6] at D1
    have D2 := line_Of s (b : Int) (by omega)
    rw [e7] at D2
    have E1 := Lib.hid D1
    have E2 := Lib.hid D2
    have HD := Lib.hid hd
    have E4 := Lib.hid e4
    have E5 := Lib.hid e5
    have E8 := Lib.hid e8
    have E9 := Lib.hid e9
    have E10 := Lib.hid e10
    have hb : b ≤ s.size := by omega
    have HL := Lib.hid hl
    have g1 : decide (500 < (s.size : Int)) = false := by simp; omega
    have g2 : decide ((a : Int) < 0) = false := by simp
    have g3 : decide (y < a) = false := by simp; omega
    have g4 : decide (b ≤ y) = false := by simp; omega
    have g5 : decide (s.size < b) = false := by simp; omega
    clear D1 D2 e3 e4 e5 e6 e7 e8 e9 e10 hd hp hk hc h4 h0 hi hv hl hyl
    go_enter Try.func5, Try.ntmps5
    go_wp2_with fail
    refine (C1.out _).mono ?_
    rintro e w0 ⟨rfl, rfl⟩
    go_wp2_with fail
    refine (C2.out _).mono ?_
    rintro e w1 ⟨rfl, rfl⟩
    go_wp2_with fail
    refine (E1.out _).mono ?_
    rintro e w2 ⟨rfl, hb2⟩
    go_wp2_with fail
    refine (E2.out _).mono ?_
    rintro e w3 ⟨rfl, hb3⟩
    have kk3 := hb2.trans (hb3.mono hb2.size)
    clear hb3 hb2
    go_wp2_with fail
    go_loop [10] (fun v => ∃ m : Nat, a ≤ m ∧ m ≤ b ∧ v = .int .i64 m ∧ Hid (Utf.place s.data.toList (m : Int) = true)) (fun v => b - (intOf v).toNat)
    case atStart => exact ⟨a, Nat.le_refl _, by omega, rfl, E4⟩
    case round =>
      obtain ⟨m, hm1, hm2, rfl, M⟩ := hrel
      rcases Nat.lt_or_ge m b with hlt2 | hge
      · have hml : m < s.data.toList.length := by rw [HL.out]; omega
        obtain ⟨n, hn1, hn2, hn3, hn4, hn5⟩ := Class.next_in HD.out M.out hml
        have hkm : Class.kind s.data.toList (m : Int) true = c := by
          rw [Class.kind_place HD.out M.out hml]; exact E10.out m hm1 hlt2
        have hnb : n ≤ b := by
          rcases Nat.lt_or_ge b n with h | h
          · have h1 := hn5 b hlt2 h; rw [E5.out] at h1; cases h1
          · exact h
        have K1 := C3.out (m : Int)
        rw [hkm] at K1
        have K2 := utf_Next s (m : Int) (by omega)
        rw [hn1] at K2
        have L1 := Lib.hid K1
        have L2 := Lib.hid K2
        have N := Lib.hid hn4
        clear K1 K2 hkm hn1 hn4 hn5 hml M
        go_wp2_with fail
        refine (L1.out _).mono ?_
        rintro e w4 ⟨rfl, rfl⟩
        go_wp2_with fail
        refine (C4.out _).mono ?_
        rintro e w5 ⟨rfl, rfl⟩
        go_wp2_with fail
        refine (L2.out _).mono ?_
        rintro e w6 ⟨rfl, rfl⟩
        go_wp2_with fail
        go_round
        case rel => exact ⟨n, by omega, hnb, rfl, N⟩
        case measure => simp [intOf]; omega
      · obtain rfl : m = b := by omega
        have L1 := Lib.hid (C3.out (m : Int))
        have g : ((Class.kind s.data.toList (m : Int) true : Int) == (c : Int)) = false := by
          have := E8.out; simp; omega
        generalize Class.kind s.data.toList (m : Int) true = z at *
        clear M
        rcases Nat.eq_zero_or_pos a with rfl | h0
        · clear E9
          go_wp2_with fail
          refine (L1.out _).mono ?_
          rintro e w4 ⟨rfl, rfl⟩
          go_wp2_with fail
          refine (C4.out _).mono ?_
          rintro e w5 ⟨rfl, rfl⟩
          go_wp2_with fail
          refine (class_lives _).mono ?_
          rintro e w6 ⟨rfl, rfl⟩
          go_wp2
          go_ret
          exact ⟨rfl, kk3⟩
        · obtain ⟨u, hu, hku⟩ := E9.out h0
          have K2 := utf_Prev s (a : Int) (by omega)
          rw [hu] at K2
          have L2 := Lib.hid K2
          have L3 := Lib.hid (C3.out (u : Int))
          have g2 : ((Class.kind s.data.toList (u : Int) true : Int) == (c : Int)) = false := by simp; omega
          generalize Class.kind s.data.toList (u : Int) true = z2 at *
          clear K2 hu hku E9
          go_wp2_with fail
          refine (L1.out _).mono ?_
          rintro e w4 ⟨rfl, rfl⟩
          go_wp2_with fail
          refine (C4.out _).mono ?_
          rintro e w5 ⟨rfl, rfl⟩
          go_wp2_with fail
          refine (L2.out _).mono ?_
          rintro e w6 ⟨rfl, rfl⟩
          go_wp2_with fail
          refine (L3.out _).mono ?_
          rintro e w7 ⟨rfl, rfl⟩
          go_wp2_with fail
          refine (C4.out _).mono ?_
          rintro e w8 ⟨rfl, rfl⟩
          go_wp2_with fail
          refine (class_lives _).mono ?_
          rintro e w9 ⟨rfl, rfl⟩
          go_wp2
          go_ret
          exact ⟨rfl, kk3⟩
theorem classWhole_walk (s : ByteArray) (p : Int) (big : Bool) {w : World} (hs : s.size ≤ 140737488351232) :
    Calls Try.prog 5 #[.string s, .int .i64 p, .bool big] w fun e w' => e = .returned (.bool true) ∧ Below w.heap.size w w' := by
  by_cases h : 500 < s.size ∨ Utf.valid s.data.toList = false
  · exact classWhole_out s p big hs h
  · have h1 : s.size ≤ 500 := by omega
    have h2 : Utf.valid s.data.toList = true := by
      cases hv : Utf.valid s.data.toList with
      | true => rfl
      | false => exact absurd (Or.inr hv) h
    cases big
    · exact classWhole_false s p h1 h2
    · exact classWhole_true s p h1 h2
section
open Go.ChangeShapes Go.WideShapes Go.ChangeAt
open Go.ChangeMaps (open_string)
set_option maxRecDepth 100000 in
theorem classWhole_lifted (os : Os) (started : os.Started) (H : Type) (enc : TypeId × Value → H) :
    ReturnsInHanded {} Try.checked os 5 .any (Rows.classWholeSpec.pre6 enc Try.prog Try.f5 Rows.classWholeRow.domain false) (Rows.classWholeSpec.post enc Try.prog Try.f5 false true false false) := by
  refine returnsInHanded_of_change_sized (C := Try.checked) own_knob started (by kernel_rfl) Try.func5
    (ChangeSpec.witness6 (enc := enc) (C := Try.checked) false ⟨#[], #[.string .empty, .int .i64 0, .bool false], []⟩ 8 (by kernel_rfl) (by kernel_rfl) (by kernel_rfl) (by kernel_rfl)) ?_
  intro W base args ds gs before hval0 hW _ hsz0 _
  have hsz : (DataW.weightsEach Try.prog (Try.f5.params.toList ++ Rows.classWholeSpec.plain.varTypes Try.prog) (ds ++ gs)).all (· ≤ reachBytes) = true := hsz0
  clear hsz0
  have hval : ∀ (j : Nat) t v, Try.f5.params[j]? = some t → args[j]? = some v → Value.okWide Try.prog W .any base t v := hval0
  have hW' := hW
  obtain ⟨p, q, hA0, hV, rfl, hfz, hnd⟩ := hW
  have hA : DataW.TrodAll enc Try.prog W 0 (fun _ => true) true Try.f5.params.toList args.toList ds p := hA0
  rw [Try.params5] at hA hval hsz
  obtain ⟨v0, vs0, d0, ds0, p0, q0, hargs, rfl, rfl, h0, r0⟩ := trodAll_cons hA
  obtain ⟨v1, vs1, d1, ds1, p1, q1, rfl, rfl, rfl, h1, r1⟩ := trodAll_cons r0
  obtain ⟨v2, vs2, d2, ds2, p2, q2, rfl, rfl, rfl, h2, r2⟩ := trodAll_cons r1
  obtain ⟨rfl, rfl, rfl⟩ := trodAll_nil r2
  obtain rfl : args = #[v0, v1, v2] := by cases args; simp_all
  obtain ⟨rfl, rfl⟩ := trodVars_none hV
  obtain ⟨s0, rfl, rfl, rfl, hmax0⟩ := open_string Try.underlying9 (hval 0 9 v0 rfl rfl) h0
  have hs0 : s0.size ≤ 140737488351232 := by rw [← data_len]; exact sized_string hsz (j := 0) (t := 9) rfl rfl
  obtain ⟨n1, rfl, rfl, rfl, wn1⟩ := open_int Try.underlying3 (hval 1 3 v1 rfl rfl) h1
  obtain ⟨b2, rfl, rfl, rfl⟩ := open_bool Try.underlying4 (hval 2 4 v2 rfl rfl) h2
  refine (classWhole_walk s0 n1 b2 hs0).mono fun e W' ⟨he, hb⟩ => ?_
  subst he
  exact ⟨_, rfl, law_post rfl rfl (by rw [Try.params5]; decide +kernel) ⟨rfl, rfl, rfl⟩ hW' hb⟩
theorem classWhole_holds : Rows.ClassWholeSaid :=
  OpenClaim.holds_of_wide 5 Try.f5 rfl rfl rfl rfl rfl rfl rfl ⟨rfl, rfl, rfl, rfl, rfl⟩ rfl rfl rfl rfl rfl (by kernel_rfl) Try.func5 (by kernel_rfl)
    (of_decide_eq_true (by kernel_rfl)) (by unfold Func.isWrapper; first | (rw [if_pos (by decide +kernel)]; kernel_rfl) | (rw [if_neg (by decide +kernel)]; exact ⟨rfl, rfl⟩))
    (fun os started H enc _ => classWhole_lifted os started H enc)
end
end Go.Proofs.Ytgfafhbkmpgbjaa
