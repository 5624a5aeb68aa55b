/-
  'calamuslaw21.RegHolds' answers true for all registers, every two numbers, every text and bool: what is kept is got, by its name and without one; others stay; all answers may be.
-/
import Derived.Test.YtopplkfbnpamdaaRegLives
import Derived.Test.YtopplkfbnpamdaaRegHold
namespace Go.Proofs.Ytopplkfbnpamdaa
open Go.RowKit
open Reg
set_option maxHeartbeats 2000000 in
set_option maxRecDepth 100000 in
theorem regHolds_err (n : Int) (t : ByteArray) (lines : Bool) (other : Int) {A : Option Addr} {c : Nat} {ks : List Rg} {w : World} (hx : Rgs w A ks) (hc : ks.length ≤ c) (hm : c ≤ maxLen) (ht : t.size ≤ 140737488355327) (h60 : ¬ 60 < ks.length) (h : (kept ks n t lines false).1 = [] ∧ (kept ks n t lines false).2 ≠ 0) :
    Calls Try.prog 5 #[.slice A ks.length c, .int .i64 n, .string t, .bool lines, .int .i64 other] w fun e w' => e = .returned (.bool true) ∧ Below w.heap.size w w' := by
  have g0 : decide ((60 : Int) < (ks.length : Int)) = false := decide_eq_false (by omega)
  have hm' : ks.length ≤ maxLen := Nat.le_trans hc hm
  have LV := Lib.hid reg_lives
  have Y1 := reg_Yank n t lines (c := c) hx (by omega) ht
  obtain ⟨h1, h2⟩ := h
  generalize kept ks n t lines false = r at *
  obtain ⟨r1, r2⟩ := r
  simp only at h1 h2
  subst h1
  have Y : Hid (Calls Try.prog 8 #[.slice A ks.length c, .int .i64 n, .string t, .bool lines] w fun e w' => ∃ A c, e = .returned (.tuple #[.slice A 0 c, .int .i64 r2]) ∧ Below w.heap.size w w') := Y1.mono fun e w' h => by
    obtain ⟨A, c, h1, _, _, h3⟩ := h
    exact ⟨A, c, h1, h3⟩
  have g1 : (r2 != 0) = true := by simpa using h2
  have g2 : (r2 == 0) = false := by simpa using h2
  clear hx hm hm' hc ht h60 Y1 h2
  go_enter Try.func5, Try.ntmps5
  go_wp2_with (first
    | (go_at_call 8; (with_reducible refine Y.out.mono ?_); rintro e w1 ⟨A1, c1, rfl, hb1⟩)
    | (go_at_call 7; (with_reducible refine (LV.out _).mono ?_); rintro e w12 ⟨rfl, hb12⟩))
  go_ret
  exact ⟨rfl, hb1.trans (hb12.mono hb1.size)⟩
set_option maxHeartbeats 2000000 in
set_option maxRecDepth 100000 in
theorem regHolds_lo_o0 (n : Int) (t : ByteArray) (lines : Bool) (other : Int) {A : Option Addr} {c : Nat} {ks : List Rg} {w : World} (hx : Rgs w A ks) (hc : ks.length ≤ c) (hm : c ≤ maxLen) (ht : t.size ≤ 140737488355327) (h60 : ¬ 60 < ks.length) (hR : Right ks) (hv : Utf.valid t.data.toList = true) (h0 : nameN n ≠ 0) (hs : (added ks n t lines).2.size ≤ 4096) (hk : kept ks n t lines false = (into ks n t lines false, 0)) (hn : n < 65) (ho : nameN other = 0) :
    Calls Try.prog 5 #[.slice A ks.length c, .int .i64 n, .string t, .bool lines, .int .i64 other] w fun e w' => e = .returned (.bool true) ∧ Below w.heap.size w w' := by
  have g0 : decide ((60 : Int) < (ks.length : Int)) = false := decide_eq_false (by omega)
  have hm' : ks.length ≤ maxLen := Nat.le_trans hc hm
  have LV := Lib.hid reg_lives
  have Y1 := reg_Yank n t lines (c := c) hx (by omega) ht
  rw [hk] at Y1
  obtain ⟨f1, f2, f3, f4⟩ := holds_facts hR h0 hv hs
  have hll := into_length (t := t) (lines := lines) (taken := false) hR.1 h0
  have hadd : added ks n t lines = (lines, t) := added_not (by omega)
  rw [hadd] at f2 f3
  clear f4 hk hv
  generalize into ks n t lines false = L at *
  have Y : Hid (Calls Try.prog 8 #[.slice A ks.length c, .int .i64 n, .string t, .bool lines] w fun e w' => ∃ A c, e = .returned (.tuple #[.slice A L.length c, .int .i64 0]) ∧ Rgs w' A L ∧ Below w.heap.size w w') := Y1.mono fun e w' h => by
    obtain ⟨A, c, h1, h2, _, h3⟩ := h
    exact ⟨A, c, h1, h2, h3⟩
  have GA : Hid (∀ u A c, Rgs u A L → Calls Try.prog 13 #[.slice A L.length c, .int .i64 n] u fun e u' => e = .returned (.tuple #[.agg #[.int .i64 (nameN n), .bool lines, .string t], .bool true]) ∧ Below u.heap.size u u') := fun u A c hu => by
    have := reg_Get n (c := c) hu (by unfold maxLen; omega)
    rw [f2] at this; exact this
  have GB : Hid (∀ u A c, Rgs u A L → Calls Try.prog 13 #[.slice A L.length c, .int .i64 0] u fun e u' => e = .returned (.tuple #[.agg #[.int .i64 34, .bool lines, .string t], .bool true]) ∧ Below u.heap.size u u') := fun u A c hu => by
    have := reg_Get 0 (c := c) hu (by unfold maxLen; omega)
    rw [f3] at this; exact this
  have RM : Hid (∀ u A c, Rgs u A L → Calls Try.prog 15 #[.slice A L.length c] u fun e u' => e = .returned (.bool true) ∧ Below u.heap.size u u') := fun u A c hu => by
    have := reg_Right (c := c) hu (by unfold maxLen; omega)
    rw [decide_eq_true f1] at this; exact this
  have NO := Lib.hid (reg_Name other)
  have NN := Lib.hid (reg_Name n)
  have GC : Hid (∀ u, Below w.heap.size w u → Calls Try.prog 13 #[.slice A ks.length c, .int .i64 other] u fun e u' => e = .returned (.tuple #[.agg #[.int .i64 (get ks other).1.name, .bool (get ks other).1.lines, .string (get ks other).1.text], .bool (get ks other).2]) ∧ Below u.heap.size u u') := fun u hu => reg_Get other (hx.below hu) hm'
  have GD : Hid (∀ u A c, Rgs u A L → Calls Try.prog 13 #[.slice A L.length c, .int .i64 other] u fun e u' => e = .returned (.tuple #[.agg #[.int .i64 (get L other).1.name, .bool (get L other).1.lines, .string (get L other).1.text], .bool (get L other).2]) ∧ Below u.heap.size u u') := fun u A c hu => reg_Get other hu (by unfold maxLen; omega)
  clear f1 f2 f3 hll Y1
  generalize hzz : nameN n = z at *
  generalize hoo : nameN other = o at *
  generalize (get ks other).1.name = n1 at *
  generalize (get ks other).1.lines = b1 at *
  generalize (get ks other).1.text = s1 at *
  generalize (get ks other).2 = k1 at *
  generalize (get L other).1.name = n2 at *
  generalize (get L other).1.lines = b2 at *
  generalize (get L other).1.text = s2 at *
  generalize (get L other).2 = k2 at *
  have o1 : (o != 0) = false := by simp [ho]
  have n0 : decide (n < 65) = true := decide_eq_true hn
  clear hx hm hm' hc ht h60 hR h0 hs hn ho hzz hoo hadd
  go_enter Try.func5, Try.ntmps5
  go_wp2_with (first
    | (go_at_call 8; (with_reducible refine Y.out.mono ?_); rintro e w1 ⟨A1, c1, rfl, m1, hW⟩)
    | (go_at_call 13; (with_reducible refine (GA.out _ _ _ m1).mono ?_); rintro e w2 ⟨rfl, hb⟩; replace hW := reg_below hW hb hW.size; replace m1 := m1.below hb; clear hb; replace hW := hW.alloc hW.size (.cells #[.int .i64 z, .bool lines, .string t] 32); replace m1 := m1.below ((Below.refl _ w2).alloc (Nat.le_refl _) (.cells #[.int .i64 z, .bool lines, .string t] 32)); have K1 := Blk.new w2 32 #[.int .i64 z, .bool lines, .string t])
    | (go_at_call 13; (with_reducible refine (GB.out _ _ _ m1).mono ?_); rintro e w3 ⟨rfl, hb⟩; replace hW := reg_below hW hb hW.size; replace m1 := m1.below hb; replace K1 := K1.below hb K1.lt; clear hb; replace hW := hW.alloc hW.size (.cells #[.int .i64 34, .bool lines, .string t] 32); replace m1 := m1.below ((Below.refl _ w3).alloc (Nat.le_refl _) (.cells #[.int .i64 34, .bool lines, .string t] 32)); replace K1 := K1.alloc (.cells #[.int .i64 34, .bool lines, .string t] 32); have K2 := Blk.new w3 32 #[.int .i64 34, .bool lines, .string t])
    | (go_at_call 15; (with_reducible refine (RM.out _ _ _ m1).mono ?_); rintro e w4 ⟨rfl, hb⟩; replace hW := reg_below hW hb hW.size; replace m1 := m1.below hb; replace K1 := K1.below hb K1.lt; replace K2 := K2.below hb K2.lt; clear hb; obtain ⟨p0, p1, p2, _, _, _⟩ := row_three K1; obtain ⟨q0, q1, q2, _, _, _⟩ := row_three K2)
    | (go_at_call 17; (with_reducible refine (NO.out _).mono ?_); rintro e w9 ⟨rfl, rfl⟩)
    | (go_at_call 17; (with_reducible refine (NN.out _).mono ?_); rintro e w9 ⟨rfl, rfl⟩)
    | (go_at_call 13; (with_reducible refine (GC.out _ hW).mono ?_); rintro e w5 ⟨rfl, hb⟩; replace hW := reg_below hW hb hW.size; replace m1 := m1.below hb; clear hb p0 p1 p2 q0 q1 q2 K1 K2; replace hW := hW.alloc hW.size (.cells #[.int .i64 n1, .bool b1, .string s1] 32); replace m1 := m1.below ((Below.refl _ w5).alloc (Nat.le_refl _) (.cells #[.int .i64 n1, .bool b1, .string s1] 32)); have K3 := Blk.new w5 32 #[.int .i64 n1, .bool b1, .string s1])
    | (go_at_call 13; (with_reducible refine (GD.out _ _ _ m1).mono ?_); rintro e w6 ⟨rfl, hb⟩; replace hW := reg_below hW hb hW.size; replace K3 := K3.below hb K3.lt; clear hb; replace hW := hW.alloc hW.size (.cells #[.int .i64 n2, .bool b2, .string s2] 32); obtain ⟨p0, p1, p2, _, _, _⟩ := row_three K3; have l3 := K3.lt; obtain ⟨r0, r1, r2, _, _, _⟩ := row_three (K3.alloc (.cells #[.int .i64 n2, .bool b2, .string s2] 32)); obtain ⟨t0, t1, t2, _, _, _⟩ := row_three (Blk.new w6 32 #[.int .i64 n2, .bool b2, .string s2]))
    | (go_at_call 7; (with_reducible refine (LV.out _).mono ?_); rintro e w12 ⟨rfl, hb12⟩; replace hW := reg_below hW hb12 hW.size))
  go_ret
  exact ⟨rfl, hW⟩
set_option maxHeartbeats 2000000 in
set_option maxRecDepth 100000 in
theorem regHolds_lo_oz (n : Int) (t : ByteArray) (lines : Bool) (other : Int) {A : Option Addr} {c : Nat} {ks : List Rg} {w : World} (hx : Rgs w A ks) (hc : ks.length ≤ c) (hm : c ≤ maxLen) (ht : t.size ≤ 140737488355327) (h60 : ¬ 60 < ks.length) (hR : Right ks) (hv : Utf.valid t.data.toList = true) (h0 : nameN n ≠ 0) (hs : (added ks n t lines).2.size ≤ 4096) (hk : kept ks n t lines false = (into ks n t lines false, 0)) (hn : n < 65) (ho : nameN other ≠ 0 ∧ nameN other = nameN n) :
    Calls Try.prog 5 #[.slice A ks.length c, .int .i64 n, .string t, .bool lines, .int .i64 other] w fun e w' => e = .returned (.bool true) ∧ Below w.heap.size w w' := by
  have g0 : decide ((60 : Int) < (ks.length : Int)) = false := decide_eq_false (by omega)
  have hm' : ks.length ≤ maxLen := Nat.le_trans hc hm
  have LV := Lib.hid reg_lives
  have Y1 := reg_Yank n t lines (c := c) hx (by omega) ht
  rw [hk] at Y1
  obtain ⟨f1, f2, f3, f4⟩ := holds_facts hR h0 hv hs
  have hll := into_length (t := t) (lines := lines) (taken := false) hR.1 h0
  have hadd : added ks n t lines = (lines, t) := added_not (by omega)
  rw [hadd] at f2 f3
  clear f4 hk hv
  generalize into ks n t lines false = L at *
  have Y : Hid (Calls Try.prog 8 #[.slice A ks.length c, .int .i64 n, .string t, .bool lines] w fun e w' => ∃ A c, e = .returned (.tuple #[.slice A L.length c, .int .i64 0]) ∧ Rgs w' A L ∧ Below w.heap.size w w') := Y1.mono fun e w' h => by
    obtain ⟨A, c, h1, h2, _, h3⟩ := h
    exact ⟨A, c, h1, h2, h3⟩
  have GA : Hid (∀ u A c, Rgs u A L → Calls Try.prog 13 #[.slice A L.length c, .int .i64 n] u fun e u' => e = .returned (.tuple #[.agg #[.int .i64 (nameN n), .bool lines, .string t], .bool true]) ∧ Below u.heap.size u u') := fun u A c hu => by
    have := reg_Get n (c := c) hu (by unfold maxLen; omega)
    rw [f2] at this; exact this
  have GB : Hid (∀ u A c, Rgs u A L → Calls Try.prog 13 #[.slice A L.length c, .int .i64 0] u fun e u' => e = .returned (.tuple #[.agg #[.int .i64 34, .bool lines, .string t], .bool true]) ∧ Below u.heap.size u u') := fun u A c hu => by
    have := reg_Get 0 (c := c) hu (by unfold maxLen; omega)
    rw [f3] at this; exact this
  have RM : Hid (∀ u A c, Rgs u A L → Calls Try.prog 15 #[.slice A L.length c] u fun e u' => e = .returned (.bool true) ∧ Below u.heap.size u u') := fun u A c hu => by
    have := reg_Right (c := c) hu (by unfold maxLen; omega)
    rw [decide_eq_true f1] at this; exact this
  have NO := Lib.hid (reg_Name other)
  have NN := Lib.hid (reg_Name n)
  have GC : Hid (∀ u, Below w.heap.size w u → Calls Try.prog 13 #[.slice A ks.length c, .int .i64 other] u fun e u' => e = .returned (.tuple #[.agg #[.int .i64 (get ks other).1.name, .bool (get ks other).1.lines, .string (get ks other).1.text], .bool (get ks other).2]) ∧ Below u.heap.size u u') := fun u hu => reg_Get other (hx.below hu) hm'
  have GD : Hid (∀ u A c, Rgs u A L → Calls Try.prog 13 #[.slice A L.length c, .int .i64 other] u fun e u' => e = .returned (.tuple #[.agg #[.int .i64 (get L other).1.name, .bool (get L other).1.lines, .string (get L other).1.text], .bool (get L other).2]) ∧ Below u.heap.size u u') := fun u A c hu => reg_Get other hu (by unfold maxLen; omega)
  clear f1 f2 f3 hll Y1
  generalize hzz : nameN n = z at *
  generalize hoo : nameN other = o at *
  generalize (get ks other).1.name = n1 at *
  generalize (get ks other).1.lines = b1 at *
  generalize (get ks other).1.text = s1 at *
  generalize (get ks other).2 = k1 at *
  generalize (get L other).1.name = n2 at *
  generalize (get L other).1.lines = b2 at *
  generalize (get L other).1.text = s2 at *
  generalize (get L other).2 = k2 at *
  have o1 : (o != 0) = true := by simpa using ho.1
  have o2 : (o != z) = false := by simp [ho.2]
  have n0 : decide (n < 65) = true := decide_eq_true hn
  clear hx hm hm' hc ht h60 hR h0 hs hn ho hzz hoo hadd
  go_enter Try.func5, Try.ntmps5
  go_wp2_with (first
    | (go_at_call 8; (with_reducible refine Y.out.mono ?_); rintro e w1 ⟨A1, c1, rfl, m1, hW⟩)
    | (go_at_call 13; (with_reducible refine (GA.out _ _ _ m1).mono ?_); rintro e w2 ⟨rfl, hb⟩; replace hW := reg_below hW hb hW.size; replace m1 := m1.below hb; clear hb; replace hW := hW.alloc hW.size (.cells #[.int .i64 z, .bool lines, .string t] 32); replace m1 := m1.below ((Below.refl _ w2).alloc (Nat.le_refl _) (.cells #[.int .i64 z, .bool lines, .string t] 32)); have K1 := Blk.new w2 32 #[.int .i64 z, .bool lines, .string t])
    | (go_at_call 13; (with_reducible refine (GB.out _ _ _ m1).mono ?_); rintro e w3 ⟨rfl, hb⟩; replace hW := reg_below hW hb hW.size; replace m1 := m1.below hb; replace K1 := K1.below hb K1.lt; clear hb; replace hW := hW.alloc hW.size (.cells #[.int .i64 34, .bool lines, .string t] 32); replace m1 := m1.below ((Below.refl _ w3).alloc (Nat.le_refl _) (.cells #[.int .i64 34, .bool lines, .string t] 32)); replace K1 := K1.alloc (.cells #[.int .i64 34, .bool lines, .string t] 32); have K2 := Blk.new w3 32 #[.int .i64 34, .bool lines, .string t])
    | (go_at_call 15; (with_reducible refine (RM.out _ _ _ m1).mono ?_); rintro e w4 ⟨rfl, hb⟩; replace hW := reg_below hW hb hW.size; replace m1 := m1.below hb; replace K1 := K1.below hb K1.lt; replace K2 := K2.below hb K2.lt; clear hb; obtain ⟨p0, p1, p2, _, _, _⟩ := row_three K1; obtain ⟨q0, q1, q2, _, _, _⟩ := row_three K2)
    | (go_at_call 17; (with_reducible refine (NO.out _).mono ?_); rintro e w9 ⟨rfl, rfl⟩)
    | (go_at_call 17; (with_reducible refine (NN.out _).mono ?_); rintro e w9 ⟨rfl, rfl⟩)
    | (go_at_call 13; (with_reducible refine (GC.out _ hW).mono ?_); rintro e w5 ⟨rfl, hb⟩; replace hW := reg_below hW hb hW.size; replace m1 := m1.below hb; clear hb p0 p1 p2 q0 q1 q2 K1 K2; replace hW := hW.alloc hW.size (.cells #[.int .i64 n1, .bool b1, .string s1] 32); replace m1 := m1.below ((Below.refl _ w5).alloc (Nat.le_refl _) (.cells #[.int .i64 n1, .bool b1, .string s1] 32)); have K3 := Blk.new w5 32 #[.int .i64 n1, .bool b1, .string s1])
    | (go_at_call 13; (with_reducible refine (GD.out _ _ _ m1).mono ?_); rintro e w6 ⟨rfl, hb⟩; replace hW := reg_below hW hb hW.size; replace K3 := K3.below hb K3.lt; clear hb; replace hW := hW.alloc hW.size (.cells #[.int .i64 n2, .bool b2, .string s2] 32); obtain ⟨p0, p1, p2, _, _, _⟩ := row_three K3; have l3 := K3.lt; obtain ⟨r0, r1, r2, _, _, _⟩ := row_three (K3.alloc (.cells #[.int .i64 n2, .bool b2, .string s2] 32)); obtain ⟨t0, t1, t2, _, _, _⟩ := row_three (Blk.new w6 32 #[.int .i64 n2, .bool b2, .string s2]))
    | (go_at_call 7; (with_reducible refine (LV.out _).mono ?_); rintro e w12 ⟨rfl, hb12⟩; replace hW := reg_below hW hb12 hW.size))
  go_ret
  exact ⟨rfl, hW⟩
set_option maxHeartbeats 2000000 in
set_option maxRecDepth 100000 in
theorem regHolds_lo_o34 (n : Int) (t : ByteArray) (lines : Bool) (other : Int) {A : Option Addr} {c : Nat} {ks : List Rg} {w : World} (hx : Rgs w A ks) (hc : ks.length ≤ c) (hm : c ≤ maxLen) (ht : t.size ≤ 140737488355327) (h60 : ¬ 60 < ks.length) (hR : Right ks) (hv : Utf.valid t.data.toList = true) (h0 : nameN n ≠ 0) (hs : (added ks n t lines).2.size ≤ 4096) (hk : kept ks n t lines false = (into ks n t lines false, 0)) (hn : n < 65) (ho : nameN other ≠ 0 ∧ nameN other ≠ nameN n ∧ nameN other = 34) :
    Calls Try.prog 5 #[.slice A ks.length c, .int .i64 n, .string t, .bool lines, .int .i64 other] w fun e w' => e = .returned (.bool true) ∧ Below w.heap.size w w' := by
  have g0 : decide ((60 : Int) < (ks.length : Int)) = false := decide_eq_false (by omega)
  have hm' : ks.length ≤ maxLen := Nat.le_trans hc hm
  have LV := Lib.hid reg_lives
  have Y1 := reg_Yank n t lines (c := c) hx (by omega) ht
  rw [hk] at Y1
  obtain ⟨f1, f2, f3, f4⟩ := holds_facts hR h0 hv hs
  have hll := into_length (t := t) (lines := lines) (taken := false) hR.1 h0
  have hadd : added ks n t lines = (lines, t) := added_not (by omega)
  rw [hadd] at f2 f3
  clear f4 hk hv
  generalize into ks n t lines false = L at *
  have Y : Hid (Calls Try.prog 8 #[.slice A ks.length c, .int .i64 n, .string t, .bool lines] w fun e w' => ∃ A c, e = .returned (.tuple #[.slice A L.length c, .int .i64 0]) ∧ Rgs w' A L ∧ Below w.heap.size w w') := Y1.mono fun e w' h => by
    obtain ⟨A, c, h1, h2, _, h3⟩ := h
    exact ⟨A, c, h1, h2, h3⟩
  have GA : Hid (∀ u A c, Rgs u A L → Calls Try.prog 13 #[.slice A L.length c, .int .i64 n] u fun e u' => e = .returned (.tuple #[.agg #[.int .i64 (nameN n), .bool lines, .string t], .bool true]) ∧ Below u.heap.size u u') := fun u A c hu => by
    have := reg_Get n (c := c) hu (by unfold maxLen; omega)
    rw [f2] at this; exact this
  have GB : Hid (∀ u A c, Rgs u A L → Calls Try.prog 13 #[.slice A L.length c, .int .i64 0] u fun e u' => e = .returned (.tuple #[.agg #[.int .i64 34, .bool lines, .string t], .bool true]) ∧ Below u.heap.size u u') := fun u A c hu => by
    have := reg_Get 0 (c := c) hu (by unfold maxLen; omega)
    rw [f3] at this; exact this
  have RM : Hid (∀ u A c, Rgs u A L → Calls Try.prog 15 #[.slice A L.length c] u fun e u' => e = .returned (.bool true) ∧ Below u.heap.size u u') := fun u A c hu => by
    have := reg_Right (c := c) hu (by unfold maxLen; omega)
    rw [decide_eq_true f1] at this; exact this
  have NO := Lib.hid (reg_Name other)
  have NN := Lib.hid (reg_Name n)
  have GC : Hid (∀ u, Below w.heap.size w u → Calls Try.prog 13 #[.slice A ks.length c, .int .i64 other] u fun e u' => e = .returned (.tuple #[.agg #[.int .i64 (get ks other).1.name, .bool (get ks other).1.lines, .string (get ks other).1.text], .bool (get ks other).2]) ∧ Below u.heap.size u u') := fun u hu => reg_Get other (hx.below hu) hm'
  have GD : Hid (∀ u A c, Rgs u A L → Calls Try.prog 13 #[.slice A L.length c, .int .i64 other] u fun e u' => e = .returned (.tuple #[.agg #[.int .i64 (get L other).1.name, .bool (get L other).1.lines, .string (get L other).1.text], .bool (get L other).2]) ∧ Below u.heap.size u u') := fun u A c hu => reg_Get other hu (by unfold maxLen; omega)
  clear f1 f2 f3 hll Y1
  generalize hzz : nameN n = z at *
  generalize hoo : nameN other = o at *
  generalize (get ks other).1.name = n1 at *
  generalize (get ks other).1.lines = b1 at *
  generalize (get ks other).1.text = s1 at *
  generalize (get ks other).2 = k1 at *
  generalize (get L other).1.name = n2 at *
  generalize (get L other).1.lines = b2 at *
  generalize (get L other).1.text = s2 at *
  generalize (get L other).2 = k2 at *
  have o1 : (o != 0) = true := by simpa using ho.1
  have o2 : (o != z) = true := by simpa using ho.2.1
  have o3 : (o != 34) = false := by simp [ho.2.2]
  have n0 : decide (n < 65) = true := decide_eq_true hn
  clear hx hm hm' hc ht h60 hR h0 hs hn ho hzz hoo hadd
  go_enter Try.func5, Try.ntmps5
  go_wp2_with (first
    | (go_at_call 8; (with_reducible refine Y.out.mono ?_); rintro e w1 ⟨A1, c1, rfl, m1, hW⟩)
    | (go_at_call 13; (with_reducible refine (GA.out _ _ _ m1).mono ?_); rintro e w2 ⟨rfl, hb⟩; replace hW := reg_below hW hb hW.size; replace m1 := m1.below hb; clear hb; replace hW := hW.alloc hW.size (.cells #[.int .i64 z, .bool lines, .string t] 32); replace m1 := m1.below ((Below.refl _ w2).alloc (Nat.le_refl _) (.cells #[.int .i64 z, .bool lines, .string t] 32)); have K1 := Blk.new w2 32 #[.int .i64 z, .bool lines, .string t])
    | (go_at_call 13; (with_reducible refine (GB.out _ _ _ m1).mono ?_); rintro e w3 ⟨rfl, hb⟩; replace hW := reg_below hW hb hW.size; replace m1 := m1.below hb; replace K1 := K1.below hb K1.lt; clear hb; replace hW := hW.alloc hW.size (.cells #[.int .i64 34, .bool lines, .string t] 32); replace m1 := m1.below ((Below.refl _ w3).alloc (Nat.le_refl _) (.cells #[.int .i64 34, .bool lines, .string t] 32)); replace K1 := K1.alloc (.cells #[.int .i64 34, .bool lines, .string t] 32); have K2 := Blk.new w3 32 #[.int .i64 34, .bool lines, .string t])
    | (go_at_call 15; (with_reducible refine (RM.out _ _ _ m1).mono ?_); rintro e w4 ⟨rfl, hb⟩; replace hW := reg_below hW hb hW.size; replace m1 := m1.below hb; replace K1 := K1.below hb K1.lt; replace K2 := K2.below hb K2.lt; clear hb; obtain ⟨p0, p1, p2, _, _, _⟩ := row_three K1; obtain ⟨q0, q1, q2, _, _, _⟩ := row_three K2)
    | (go_at_call 17; (with_reducible refine (NO.out _).mono ?_); rintro e w9 ⟨rfl, rfl⟩)
    | (go_at_call 17; (with_reducible refine (NN.out _).mono ?_); rintro e w9 ⟨rfl, rfl⟩)
    | (go_at_call 13; (with_reducible refine (GC.out _ hW).mono ?_); rintro e w5 ⟨rfl, hb⟩; replace hW := reg_below hW hb hW.size; replace m1 := m1.below hb; clear hb p0 p1 p2 q0 q1 q2 K1 K2; replace hW := hW.alloc hW.size (.cells #[.int .i64 n1, .bool b1, .string s1] 32); replace m1 := m1.below ((Below.refl _ w5).alloc (Nat.le_refl _) (.cells #[.int .i64 n1, .bool b1, .string s1] 32)); have K3 := Blk.new w5 32 #[.int .i64 n1, .bool b1, .string s1])
    | (go_at_call 13; (with_reducible refine (GD.out _ _ _ m1).mono ?_); rintro e w6 ⟨rfl, hb⟩; replace hW := reg_below hW hb hW.size; replace K3 := K3.below hb K3.lt; clear hb; replace hW := hW.alloc hW.size (.cells #[.int .i64 n2, .bool b2, .string s2] 32); obtain ⟨p0, p1, p2, _, _, _⟩ := row_three K3; have l3 := K3.lt; obtain ⟨r0, r1, r2, _, _, _⟩ := row_three (K3.alloc (.cells #[.int .i64 n2, .bool b2, .string s2] 32)); obtain ⟨t0, t1, t2, _, _, _⟩ := row_three (Blk.new w6 32 #[.int .i64 n2, .bool b2, .string s2]))
    | (go_at_call 7; (with_reducible refine (LV.out _).mono ?_); rintro e w12 ⟨rfl, hb12⟩; replace hW := reg_below hW hb12 hW.size))
  go_ret
  exact ⟨rfl, hW⟩
set_option maxHeartbeats 2000000 in
set_option maxRecDepth 100000 in
theorem regHolds_lo_o48 (n : Int) (t : ByteArray) (lines : Bool) (other : Int) {A : Option Addr} {c : Nat} {ks : List Rg} {w : World} (hx : Rgs w A ks) (hc : ks.length ≤ c) (hm : c ≤ maxLen) (ht : t.size ≤ 140737488355327) (h60 : ¬ 60 < ks.length) (hR : Right ks) (hv : Utf.valid t.data.toList = true) (h0 : nameN n ≠ 0) (hs : (added ks n t lines).2.size ≤ 4096) (hk : kept ks n t lines false = (into ks n t lines false, 0)) (hn : n < 65) (ho : nameN other ≠ 0 ∧ nameN other ≠ nameN n ∧ nameN other ≠ 34 ∧ nameN other = 48) :
    Calls Try.prog 5 #[.slice A ks.length c, .int .i64 n, .string t, .bool lines, .int .i64 other] w fun e w' => e = .returned (.bool true) ∧ Below w.heap.size w w' := by
  have g0 : decide ((60 : Int) < (ks.length : Int)) = false := decide_eq_false (by omega)
  have hm' : ks.length ≤ maxLen := Nat.le_trans hc hm
  have LV := Lib.hid reg_lives
  have Y1 := reg_Yank n t lines (c := c) hx (by omega) ht
  rw [hk] at Y1
  obtain ⟨f1, f2, f3, f4⟩ := holds_facts hR h0 hv hs
  have hll := into_length (t := t) (lines := lines) (taken := false) hR.1 h0
  have hadd : added ks n t lines = (lines, t) := added_not (by omega)
  rw [hadd] at f2 f3
  clear f4 hk hv
  generalize into ks n t lines false = L at *
  have Y : Hid (Calls Try.prog 8 #[.slice A ks.length c, .int .i64 n, .string t, .bool lines] w fun e w' => ∃ A c, e = .returned (.tuple #[.slice A L.length c, .int .i64 0]) ∧ Rgs w' A L ∧ Below w.heap.size w w') := Y1.mono fun e w' h => by
    obtain ⟨A, c, h1, h2, _, h3⟩ := h
    exact ⟨A, c, h1, h2, h3⟩
  have GA : Hid (∀ u A c, Rgs u A L → Calls Try.prog 13 #[.slice A L.length c, .int .i64 n] u fun e u' => e = .returned (.tuple #[.agg #[.int .i64 (nameN n), .bool lines, .string t], .bool true]) ∧ Below u.heap.size u u') := fun u A c hu => by
    have := reg_Get n (c := c) hu (by unfold maxLen; omega)
    rw [f2] at this; exact this
  have GB : Hid (∀ u A c, Rgs u A L → Calls Try.prog 13 #[.slice A L.length c, .int .i64 0] u fun e u' => e = .returned (.tuple #[.agg #[.int .i64 34, .bool lines, .string t], .bool true]) ∧ Below u.heap.size u u') := fun u A c hu => by
    have := reg_Get 0 (c := c) hu (by unfold maxLen; omega)
    rw [f3] at this; exact this
  have RM : Hid (∀ u A c, Rgs u A L → Calls Try.prog 15 #[.slice A L.length c] u fun e u' => e = .returned (.bool true) ∧ Below u.heap.size u u') := fun u A c hu => by
    have := reg_Right (c := c) hu (by unfold maxLen; omega)
    rw [decide_eq_true f1] at this; exact this
  have NO := Lib.hid (reg_Name other)
  have NN := Lib.hid (reg_Name n)
  have GC : Hid (∀ u, Below w.heap.size w u → Calls Try.prog 13 #[.slice A ks.length c, .int .i64 other] u fun e u' => e = .returned (.tuple #[.agg #[.int .i64 (get ks other).1.name, .bool (get ks other).1.lines, .string (get ks other).1.text], .bool (get ks other).2]) ∧ Below u.heap.size u u') := fun u hu => reg_Get other (hx.below hu) hm'
  have GD : Hid (∀ u A c, Rgs u A L → Calls Try.prog 13 #[.slice A L.length c, .int .i64 other] u fun e u' => e = .returned (.tuple #[.agg #[.int .i64 (get L other).1.name, .bool (get L other).1.lines, .string (get L other).1.text], .bool (get L other).2]) ∧ Below u.heap.size u u') := fun u A c hu => reg_Get other hu (by unfold maxLen; omega)
  clear f1 f2 f3 hll Y1
  generalize hzz : nameN n = z at *
  generalize hoo : nameN other = o at *
  generalize (get ks other).1.name = n1 at *
  generalize (get ks other).1.lines = b1 at *
  generalize (get ks other).1.text = s1 at *
  generalize (get ks other).2 = k1 at *
  generalize (get L other).1.name = n2 at *
  generalize (get L other).1.lines = b2 at *
  generalize (get L other).1.text = s2 at *
  generalize (get L other).2 = k2 at *
  have o1 : (o != 0) = true := by simpa using ho.1
  have o2 : (o != z) = true := by simpa using ho.2.1
  have o3 : (o != 34) = true := by simpa using ho.2.2.1
  have o4 : (o != 48) = false := by simp [ho.2.2.2]
  have n0 : decide (n < 65) = true := decide_eq_true hn
  clear hx hm hm' hc ht h60 hR h0 hs hn ho hzz hoo hadd
  go_enter Try.func5, Try.ntmps5
  go_wp2_with (first
    | (go_at_call 8; (with_reducible refine Y.out.mono ?_); rintro e w1 ⟨A1, c1, rfl, m1, hW⟩)
    | (go_at_call 13; (with_reducible refine (GA.out _ _ _ m1).mono ?_); rintro e w2 ⟨rfl, hb⟩; replace hW := reg_below hW hb hW.size; replace m1 := m1.below hb; clear hb; replace hW := hW.alloc hW.size (.cells #[.int .i64 z, .bool lines, .string t] 32); replace m1 := m1.below ((Below.refl _ w2).alloc (Nat.le_refl _) (.cells #[.int .i64 z, .bool lines, .string t] 32)); have K1 := Blk.new w2 32 #[.int .i64 z, .bool lines, .string t])
    | (go_at_call 13; (with_reducible refine (GB.out _ _ _ m1).mono ?_); rintro e w3 ⟨rfl, hb⟩; replace hW := reg_below hW hb hW.size; replace m1 := m1.below hb; replace K1 := K1.below hb K1.lt; clear hb; replace hW := hW.alloc hW.size (.cells #[.int .i64 34, .bool lines, .string t] 32); replace m1 := m1.below ((Below.refl _ w3).alloc (Nat.le_refl _) (.cells #[.int .i64 34, .bool lines, .string t] 32)); replace K1 := K1.alloc (.cells #[.int .i64 34, .bool lines, .string t] 32); have K2 := Blk.new w3 32 #[.int .i64 34, .bool lines, .string t])
    | (go_at_call 15; (with_reducible refine (RM.out _ _ _ m1).mono ?_); rintro e w4 ⟨rfl, hb⟩; replace hW := reg_below hW hb hW.size; replace m1 := m1.below hb; replace K1 := K1.below hb K1.lt; replace K2 := K2.below hb K2.lt; clear hb; obtain ⟨p0, p1, p2, _, _, _⟩ := row_three K1; obtain ⟨q0, q1, q2, _, _, _⟩ := row_three K2)
    | (go_at_call 17; (with_reducible refine (NO.out _).mono ?_); rintro e w9 ⟨rfl, rfl⟩)
    | (go_at_call 17; (with_reducible refine (NN.out _).mono ?_); rintro e w9 ⟨rfl, rfl⟩)
    | (go_at_call 13; (with_reducible refine (GC.out _ hW).mono ?_); rintro e w5 ⟨rfl, hb⟩; replace hW := reg_below hW hb hW.size; replace m1 := m1.below hb; clear hb p0 p1 p2 q0 q1 q2 K1 K2; replace hW := hW.alloc hW.size (.cells #[.int .i64 n1, .bool b1, .string s1] 32); replace m1 := m1.below ((Below.refl _ w5).alloc (Nat.le_refl _) (.cells #[.int .i64 n1, .bool b1, .string s1] 32)); have K3 := Blk.new w5 32 #[.int .i64 n1, .bool b1, .string s1])
    | (go_at_call 13; (with_reducible refine (GD.out _ _ _ m1).mono ?_); rintro e w6 ⟨rfl, hb⟩; replace hW := reg_below hW hb hW.size; replace K3 := K3.below hb K3.lt; clear hb; replace hW := hW.alloc hW.size (.cells #[.int .i64 n2, .bool b2, .string s2] 32); obtain ⟨p0, p1, p2, _, _, _⟩ := row_three K3; have l3 := K3.lt; obtain ⟨r0, r1, r2, _, _, _⟩ := row_three (K3.alloc (.cells #[.int .i64 n2, .bool b2, .string s2] 32)); obtain ⟨t0, t1, t2, _, _, _⟩ := row_three (Blk.new w6 32 #[.int .i64 n2, .bool b2, .string s2]))
    | (go_at_call 7; (with_reducible refine (LV.out _).mono ?_); rintro e w12 ⟨rfl, hb12⟩; replace hW := reg_below hW hb12 hW.size))
  go_ret
  exact ⟨rfl, hW⟩
set_option maxHeartbeats 2000000 in
set_option maxRecDepth 100000 in
theorem regHolds_lo_all (n : Int) (t : ByteArray) (lines : Bool) (other : Int) {A : Option Addr} {c : Nat} {ks : List Rg} {w : World} (hx : Rgs w A ks) (hc : ks.length ≤ c) (hm : c ≤ maxLen) (ht : t.size ≤ 140737488355327) (h60 : ¬ 60 < ks.length) (hR : Right ks) (hv : Utf.valid t.data.toList = true) (h0 : nameN n ≠ 0) (hs : (added ks n t lines).2.size ≤ 4096) (hk : kept ks n t lines false = (into ks n t lines false, 0)) (hn : n < 65) (ho : nameN other ≠ 0 ∧ nameN other ≠ nameN n ∧ nameN other ≠ 34 ∧ nameN other ≠ 48) :
    Calls Try.prog 5 #[.slice A ks.length c, .int .i64 n, .string t, .bool lines, .int .i64 other] w fun e w' => e = .returned (.bool true) ∧ Below w.heap.size w w' := by
  have g0 : decide ((60 : Int) < (ks.length : Int)) = false := decide_eq_false (by omega)
  have hm' : ks.length ≤ maxLen := Nat.le_trans hc hm
  have LV := Lib.hid reg_lives
  have Y1 := reg_Yank n t lines (c := c) hx (by omega) ht
  rw [hk] at Y1
  obtain ⟨f1, f2, f3, f4⟩ := holds_facts hR h0 hv hs
  have hll := into_length (t := t) (lines := lines) (taken := false) hR.1 h0
  have hadd : added ks n t lines = (lines, t) := added_not (by omega)
  rw [hadd] at f2 f3
  have hsame := f4 other ho.1 ho.2.1 ho.2.2.1 ho.2.2.2
  clear f4 hk hv
  generalize into ks n t lines false = L at *
  have Y : Hid (Calls Try.prog 8 #[.slice A ks.length c, .int .i64 n, .string t, .bool lines] w fun e w' => ∃ A c, e = .returned (.tuple #[.slice A L.length c, .int .i64 0]) ∧ Rgs w' A L ∧ Below w.heap.size w w') := Y1.mono fun e w' h => by
    obtain ⟨A, c, h1, h2, _, h3⟩ := h
    exact ⟨A, c, h1, h2, h3⟩
  have GA : Hid (∀ u A c, Rgs u A L → Calls Try.prog 13 #[.slice A L.length c, .int .i64 n] u fun e u' => e = .returned (.tuple #[.agg #[.int .i64 (nameN n), .bool lines, .string t], .bool true]) ∧ Below u.heap.size u u') := fun u A c hu => by
    have := reg_Get n (c := c) hu (by unfold maxLen; omega)
    rw [f2] at this; exact this
  have GB : Hid (∀ u A c, Rgs u A L → Calls Try.prog 13 #[.slice A L.length c, .int .i64 0] u fun e u' => e = .returned (.tuple #[.agg #[.int .i64 34, .bool lines, .string t], .bool true]) ∧ Below u.heap.size u u') := fun u A c hu => by
    have := reg_Get 0 (c := c) hu (by unfold maxLen; omega)
    rw [f3] at this; exact this
  have RM : Hid (∀ u A c, Rgs u A L → Calls Try.prog 15 #[.slice A L.length c] u fun e u' => e = .returned (.bool true) ∧ Below u.heap.size u u') := fun u A c hu => by
    have := reg_Right (c := c) hu (by unfold maxLen; omega)
    rw [decide_eq_true f1] at this; exact this
  have NO := Lib.hid (reg_Name other)
  have NN := Lib.hid (reg_Name n)
  have GC : Hid (∀ u, Below w.heap.size w u → Calls Try.prog 13 #[.slice A ks.length c, .int .i64 other] u fun e u' => e = .returned (.tuple #[.agg #[.int .i64 (get ks other).1.name, .bool (get ks other).1.lines, .string (get ks other).1.text], .bool (get ks other).2]) ∧ Below u.heap.size u u') := fun u hu => reg_Get other (hx.below hu) hm'
  have GD : Hid (∀ u A c, Rgs u A L → Calls Try.prog 13 #[.slice A L.length c, .int .i64 other] u fun e u' => e = .returned (.tuple #[.agg #[.int .i64 (get L other).1.name, .bool (get L other).1.lines, .string (get L other).1.text], .bool (get L other).2]) ∧ Below u.heap.size u u') := fun u A c hu => reg_Get other hu (by unfold maxLen; omega)
  clear f1 f2 f3 hll Y1
  rw [hsame] at GD
  clear hsame
  generalize hzz : nameN n = z at *
  generalize hoo : nameN other = o at *
  generalize (get ks other).1.name = n1 at *
  generalize (get ks other).1.lines = b1 at *
  generalize (get ks other).1.text = s1 at *
  generalize (get ks other).2 = k1 at *
  have o1 : (o != 0) = true := by simpa using ho.1
  have o2 : (o != z) = true := by simpa using ho.2.1
  have o3 : (o != 34) = true := by simpa using ho.2.2.1
  have o4 : (o != 48) = true := by simpa using ho.2.2.2
  have n0 : decide (n < 65) = true := decide_eq_true hn
  have EQ := neq_reg_same
  clear hx hm hm' hc ht h60 hR h0 hs hn ho hzz hoo hadd
  go_enter Try.func5, Try.ntmps5
  go_wp2_with (first
    | (go_at_call 8; (with_reducible refine Y.out.mono ?_); rintro e w1 ⟨A1, c1, rfl, m1, hW⟩)
    | (go_at_call 13; (with_reducible refine (GA.out _ _ _ m1).mono ?_); rintro e w2 ⟨rfl, hb⟩; replace hW := reg_below hW hb hW.size; replace m1 := m1.below hb; clear hb; replace hW := hW.alloc hW.size (.cells #[.int .i64 z, .bool lines, .string t] 32); replace m1 := m1.below ((Below.refl _ w2).alloc (Nat.le_refl _) (.cells #[.int .i64 z, .bool lines, .string t] 32)); have K1 := Blk.new w2 32 #[.int .i64 z, .bool lines, .string t])
    | (go_at_call 13; (with_reducible refine (GB.out _ _ _ m1).mono ?_); rintro e w3 ⟨rfl, hb⟩; replace hW := reg_below hW hb hW.size; replace m1 := m1.below hb; replace K1 := K1.below hb K1.lt; clear hb; replace hW := hW.alloc hW.size (.cells #[.int .i64 34, .bool lines, .string t] 32); replace m1 := m1.below ((Below.refl _ w3).alloc (Nat.le_refl _) (.cells #[.int .i64 34, .bool lines, .string t] 32)); replace K1 := K1.alloc (.cells #[.int .i64 34, .bool lines, .string t] 32); have K2 := Blk.new w3 32 #[.int .i64 34, .bool lines, .string t])
    | (go_at_call 15; (with_reducible refine (RM.out _ _ _ m1).mono ?_); rintro e w4 ⟨rfl, hb⟩; replace hW := reg_below hW hb hW.size; replace m1 := m1.below hb; replace K1 := K1.below hb K1.lt; replace K2 := K2.below hb K2.lt; clear hb; obtain ⟨p0, p1, p2, _, _, _⟩ := row_three K1; obtain ⟨q0, q1, q2, _, _, _⟩ := row_three K2)
    | (go_at_call 17; (with_reducible refine (NO.out _).mono ?_); rintro e w9 ⟨rfl, rfl⟩)
    | (go_at_call 17; (with_reducible refine (NN.out _).mono ?_); rintro e w9 ⟨rfl, rfl⟩)
    | (go_at_call 13; (with_reducible refine (GC.out _ hW).mono ?_); rintro e w5 ⟨rfl, hb⟩; replace hW := reg_below hW hb hW.size; replace m1 := m1.below hb; clear hb p0 p1 p2 q0 q1 q2 K1 K2; replace hW := hW.alloc hW.size (.cells #[.int .i64 n1, .bool b1, .string s1] 32); replace m1 := m1.below ((Below.refl _ w5).alloc (Nat.le_refl _) (.cells #[.int .i64 n1, .bool b1, .string s1] 32)); have K3 := Blk.new w5 32 #[.int .i64 n1, .bool b1, .string s1])
    | (go_at_call 13; (with_reducible refine (GD.out _ _ _ m1).mono ?_); rintro e w6 ⟨rfl, hb⟩; replace hW := reg_below hW hb hW.size; replace K3 := K3.below hb K3.lt; clear hb; replace hW := hW.alloc hW.size (.cells #[.int .i64 n1, .bool b1, .string s1] 32); obtain ⟨p0, p1, p2, _, _, _⟩ := row_three K3; have l3 := K3.lt; obtain ⟨r0, r1, r2, _, _, _⟩ := row_three (K3.alloc (.cells #[.int .i64 n1, .bool b1, .string s1] 32)); obtain ⟨t0, t1, t2, _, _, _⟩ := row_three (Blk.new w6 32 #[.int .i64 n1, .bool b1, .string s1]))
    | (go_at_call 7; (with_reducible refine (LV.out _).mono ?_); rintro e w12 ⟨rfl, hb12⟩; replace hW := reg_below hW hb12 hW.size))
  go_ret
  exact ⟨rfl, hW⟩
set_option maxHeartbeats 2000000 in
set_option maxRecDepth 100000 in
theorem regHolds_hi_o0 (n : Int) (t : ByteArray) (lines : Bool) (other : Int) {A : Option Addr} {c : Nat} {ks : List Rg} {w : World} (hx : Rgs w A ks) (hc : ks.length ≤ c) (hm : c ≤ maxLen) (ht : t.size ≤ 140737488355327) (h60 : ¬ 60 < ks.length) (hR : Right ks) (hv : Utf.valid t.data.toList = true) (h0 : nameN n ≠ 0) (hs : (added ks n t lines).2.size ≤ 4096) (hk : kept ks n t lines false = (into ks n t lines false, 0)) (hn : 90 < n) (ho : nameN other = 0) :
    Calls Try.prog 5 #[.slice A ks.length c, .int .i64 n, .string t, .bool lines, .int .i64 other] w fun e w' => e = .returned (.bool true) ∧ Below w.heap.size w w' := by
  have g0 : decide ((60 : Int) < (ks.length : Int)) = false := decide_eq_false (by omega)
  have hm' : ks.length ≤ maxLen := Nat.le_trans hc hm
  have LV := Lib.hid reg_lives
  have Y1 := reg_Yank n t lines (c := c) hx (by omega) ht
  rw [hk] at Y1
  obtain ⟨f1, f2, f3, f4⟩ := holds_facts hR h0 hv hs
  have hll := into_length (t := t) (lines := lines) (taken := false) hR.1 h0
  have hadd : added ks n t lines = (lines, t) := added_not (by omega)
  rw [hadd] at f2 f3
  clear f4 hk hv
  generalize into ks n t lines false = L at *
  have Y : Hid (Calls Try.prog 8 #[.slice A ks.length c, .int .i64 n, .string t, .bool lines] w fun e w' => ∃ A c, e = .returned (.tuple #[.slice A L.length c, .int .i64 0]) ∧ Rgs w' A L ∧ Below w.heap.size w w') := Y1.mono fun e w' h => by
    obtain ⟨A, c, h1, h2, _, h3⟩ := h
    exact ⟨A, c, h1, h2, h3⟩
  have GA : Hid (∀ u A c, Rgs u A L → Calls Try.prog 13 #[.slice A L.length c, .int .i64 n] u fun e u' => e = .returned (.tuple #[.agg #[.int .i64 (nameN n), .bool lines, .string t], .bool true]) ∧ Below u.heap.size u u') := fun u A c hu => by
    have := reg_Get n (c := c) hu (by unfold maxLen; omega)
    rw [f2] at this; exact this
  have GB : Hid (∀ u A c, Rgs u A L → Calls Try.prog 13 #[.slice A L.length c, .int .i64 0] u fun e u' => e = .returned (.tuple #[.agg #[.int .i64 34, .bool lines, .string t], .bool true]) ∧ Below u.heap.size u u') := fun u A c hu => by
    have := reg_Get 0 (c := c) hu (by unfold maxLen; omega)
    rw [f3] at this; exact this
  have RM : Hid (∀ u A c, Rgs u A L → Calls Try.prog 15 #[.slice A L.length c] u fun e u' => e = .returned (.bool true) ∧ Below u.heap.size u u') := fun u A c hu => by
    have := reg_Right (c := c) hu (by unfold maxLen; omega)
    rw [decide_eq_true f1] at this; exact this
  have NO := Lib.hid (reg_Name other)
  have NN := Lib.hid (reg_Name n)
  have GC : Hid (∀ u, Below w.heap.size w u → Calls Try.prog 13 #[.slice A ks.length c, .int .i64 other] u fun e u' => e = .returned (.tuple #[.agg #[.int .i64 (get ks other).1.name, .bool (get ks other).1.lines, .string (get ks other).1.text], .bool (get ks other).2]) ∧ Below u.heap.size u u') := fun u hu => reg_Get other (hx.below hu) hm'
  have GD : Hid (∀ u A c, Rgs u A L → Calls Try.prog 13 #[.slice A L.length c, .int .i64 other] u fun e u' => e = .returned (.tuple #[.agg #[.int .i64 (get L other).1.name, .bool (get L other).1.lines, .string (get L other).1.text], .bool (get L other).2]) ∧ Below u.heap.size u u') := fun u A c hu => reg_Get other hu (by unfold maxLen; omega)
  clear f1 f2 f3 hll Y1
  generalize hzz : nameN n = z at *
  generalize hoo : nameN other = o at *
  generalize (get ks other).1.name = n1 at *
  generalize (get ks other).1.lines = b1 at *
  generalize (get ks other).1.text = s1 at *
  generalize (get ks other).2 = k1 at *
  generalize (get L other).1.name = n2 at *
  generalize (get L other).1.lines = b2 at *
  generalize (get L other).1.text = s2 at *
  generalize (get L other).2 = k2 at *
  have o1 : (o != 0) = false := by simp [ho]
  have n0 : decide (n < 65) = false := decide_eq_false (by omega)
  have n1' : decide (90 < n) = true := decide_eq_true hn
  clear hx hm hm' hc ht h60 hR h0 hs hn ho hzz hoo hadd
  go_enter Try.func5, Try.ntmps5
  go_wp2_with (first
    | (go_at_call 8; (with_reducible refine Y.out.mono ?_); rintro e w1 ⟨A1, c1, rfl, m1, hW⟩)
    | (go_at_call 13; (with_reducible refine (GA.out _ _ _ m1).mono ?_); rintro e w2 ⟨rfl, hb⟩; replace hW := reg_below hW hb hW.size; replace m1 := m1.below hb; clear hb; replace hW := hW.alloc hW.size (.cells #[.int .i64 z, .bool lines, .string t] 32); replace m1 := m1.below ((Below.refl _ w2).alloc (Nat.le_refl _) (.cells #[.int .i64 z, .bool lines, .string t] 32)); have K1 := Blk.new w2 32 #[.int .i64 z, .bool lines, .string t])
    | (go_at_call 13; (with_reducible refine (GB.out _ _ _ m1).mono ?_); rintro e w3 ⟨rfl, hb⟩; replace hW := reg_below hW hb hW.size; replace m1 := m1.below hb; replace K1 := K1.below hb K1.lt; clear hb; replace hW := hW.alloc hW.size (.cells #[.int .i64 34, .bool lines, .string t] 32); replace m1 := m1.below ((Below.refl _ w3).alloc (Nat.le_refl _) (.cells #[.int .i64 34, .bool lines, .string t] 32)); replace K1 := K1.alloc (.cells #[.int .i64 34, .bool lines, .string t] 32); have K2 := Blk.new w3 32 #[.int .i64 34, .bool lines, .string t])
    | (go_at_call 15; (with_reducible refine (RM.out _ _ _ m1).mono ?_); rintro e w4 ⟨rfl, hb⟩; replace hW := reg_below hW hb hW.size; replace m1 := m1.below hb; replace K1 := K1.below hb K1.lt; replace K2 := K2.below hb K2.lt; clear hb; obtain ⟨p0, p1, p2, _, _, _⟩ := row_three K1; obtain ⟨q0, q1, q2, _, _, _⟩ := row_three K2)
    | (go_at_call 17; (with_reducible refine (NO.out _).mono ?_); rintro e w9 ⟨rfl, rfl⟩)
    | (go_at_call 17; (with_reducible refine (NN.out _).mono ?_); rintro e w9 ⟨rfl, rfl⟩)
    | (go_at_call 13; (with_reducible refine (GC.out _ hW).mono ?_); rintro e w5 ⟨rfl, hb⟩; replace hW := reg_below hW hb hW.size; replace m1 := m1.below hb; clear hb p0 p1 p2 q0 q1 q2 K1 K2; replace hW := hW.alloc hW.size (.cells #[.int .i64 n1, .bool b1, .string s1] 32); replace m1 := m1.below ((Below.refl _ w5).alloc (Nat.le_refl _) (.cells #[.int .i64 n1, .bool b1, .string s1] 32)); have K3 := Blk.new w5 32 #[.int .i64 n1, .bool b1, .string s1])
    | (go_at_call 13; (with_reducible refine (GD.out _ _ _ m1).mono ?_); rintro e w6 ⟨rfl, hb⟩; replace hW := reg_below hW hb hW.size; replace K3 := K3.below hb K3.lt; clear hb; replace hW := hW.alloc hW.size (.cells #[.int .i64 n2, .bool b2, .string s2] 32); obtain ⟨p0, p1, p2, _, _, _⟩ := row_three K3; have l3 := K3.lt; obtain ⟨r0, r1, r2, _, _, _⟩ := row_three (K3.alloc (.cells #[.int .i64 n2, .bool b2, .string s2] 32)); obtain ⟨t0, t1, t2, _, _, _⟩ := row_three (Blk.new w6 32 #[.int .i64 n2, .bool b2, .string s2]))
    | (go_at_call 7; (with_reducible refine (LV.out _).mono ?_); rintro e w12 ⟨rfl, hb12⟩; replace hW := reg_below hW hb12 hW.size))
  go_ret
  exact ⟨rfl, hW⟩
set_option maxHeartbeats 2000000 in
set_option maxRecDepth 100000 in
theorem regHolds_hi_oz (n : Int) (t : ByteArray) (lines : Bool) (other : Int) {A : Option Addr} {c : Nat} {ks : List Rg} {w : World} (hx : Rgs w A ks) (hc : ks.length ≤ c) (hm : c ≤ maxLen) (ht : t.size ≤ 140737488355327) (h60 : ¬ 60 < ks.length) (hR : Right ks) (hv : Utf.valid t.data.toList = true) (h0 : nameN n ≠ 0) (hs : (added ks n t lines).2.size ≤ 4096) (hk : kept ks n t lines false = (into ks n t lines false, 0)) (hn : 90 < n) (ho : nameN other ≠ 0 ∧ nameN other = nameN n) :
    Calls Try.prog 5 #[.slice A ks.length c, .int .i64 n, .string t, .bool lines, .int .i64 other] w fun e w' => e = .returned (.bool true) ∧ Below w.heap.size w w' := by
  have g0 : decide ((60 : Int) < (ks.length : Int)) = false := decide_eq_false (by omega)
  have hm' : ks.length ≤ maxLen := Nat.le_trans hc hm
  have LV := Lib.hid reg_lives
  have Y1 := reg_Yank n t lines (c := c) hx (by omega) ht
  rw [hk] at Y1
  obtain ⟨f1, f2, f3, f4⟩ := holds_facts hR h0 hv hs
  have hll := into_length (t := t) (lines := lines) (taken := false) hR.1 h0
  have hadd : added ks n t lines = (lines, t) := added_not (by omega)
  rw [hadd] at f2 f3
  clear f4 hk hv
  generalize into ks n t lines false = L at *
  have Y : Hid (Calls Try.prog 8 #[.slice A ks.length c, .int .i64 n, .string t, .bool lines] w fun e w' => ∃ A c, e = .returned (.tuple #[.slice A L.length c, .int .i64 0]) ∧ Rgs w' A L ∧ Below w.heap.size w w') := Y1.mono fun e w' h => by
    obtain ⟨A, c, h1, h2, _, h3⟩ := h
    exact ⟨A, c, h1, h2, h3⟩
  have GA : Hid (∀ u A c, Rgs u A L → Calls Try.prog 13 #[.slice A L.length c, .int .i64 n] u fun e u' => e = .returned (.tuple #[.agg #[.int .i64 (nameN n), .bool lines, .string t], .bool true]) ∧ Below u.heap.size u u') := fun u A c hu => by
    have := reg_Get n (c := c) hu (by unfold maxLen; omega)
    rw [f2] at this; exact this
  have GB : Hid (∀ u A c, Rgs u A L → Calls Try.prog 13 #[.slice A L.length c, .int .i64 0] u fun e u' => e = .returned (.tuple #[.agg #[.int .i64 34, .bool lines, .string t], .bool true]) ∧ Below u.heap.size u u') := fun u A c hu => by
    have := reg_Get 0 (c := c) hu (by unfold maxLen; omega)
    rw [f3] at this; exact this
  have RM : Hid (∀ u A c, Rgs u A L → Calls Try.prog 15 #[.slice A L.length c] u fun e u' => e = .returned (.bool true) ∧ Below u.heap.size u u') := fun u A c hu => by
    have := reg_Right (c := c) hu (by unfold maxLen; omega)
    rw [decide_eq_true f1] at this; exact this
  have NO := Lib.hid (reg_Name other)
  have NN := Lib.hid (reg_Name n)
  have GC : Hid (∀ u, Below w.heap.size w u → Calls Try.prog 13 #[.slice A ks.length c, .int .i64 other] u fun e u' => e = .returned (.tuple #[.agg #[.int .i64 (get ks other).1.name, .bool (get ks other).1.lines, .string (get ks other).1.text], .bool (get ks other).2]) ∧ Below u.heap.size u u') := fun u hu => reg_Get other (hx.below hu) hm'
  have GD : Hid (∀ u A c, Rgs u A L → Calls Try.prog 13 #[.slice A L.length c, .int .i64 other] u fun e u' => e = .returned (.tuple #[.agg #[.int .i64 (get L other).1.name, .bool (get L other).1.lines, .string (get L other).1.text], .bool (get L other).2]) ∧ Below u.heap.size u u') := fun u A c hu => reg_Get other hu (by unfold maxLen; omega)
  clear f1 f2 f3 hll Y1
  generalize hzz : nameN n = z at *
  generalize hoo : nameN other = o at *
  generalize (get ks other).1.name = n1 at *
  generalize (get ks other).1.lines = b1 at *
  generalize (get ks other).1.text = s1 at *
  generalize (get ks other).2 = k1 at *
  generalize (get L other).1.name = n2 at *
  generalize (get L other).1.lines = b2 at *
  generalize (get L other).1.text = s2 at *
  generalize (get L other).2 = k2 at *
  have o1 : (o != 0) = true := by simpa using ho.1
  have o2 : (o != z) = false := by simp [ho.2]
  have n0 : decide (n < 65) = false := decide_eq_false (by omega)
  have n1' : decide (90 < n) = true := decide_eq_true hn
  clear hx hm hm' hc ht h60 hR h0 hs hn ho hzz hoo hadd
  go_enter Try.func5, Try.ntmps5
  go_wp2_with (first
    | (go_at_call 8; (with_reducible refine Y.out.mono ?_); rintro e w1 ⟨A1, c1, rfl, m1, hW⟩)
    | (go_at_call 13; (with_reducible refine (GA.out _ _ _ m1).mono ?_); rintro e w2 ⟨rfl, hb⟩; replace hW := reg_below hW hb hW.size; replace m1 := m1.below hb; clear hb; replace hW := hW.alloc hW.size (.cells #[.int .i64 z, .bool lines, .string t] 32); replace m1 := m1.below ((Below.refl _ w2).alloc (Nat.le_refl _) (.cells #[.int .i64 z, .bool lines, .string t] 32)); have K1 := Blk.new w2 32 #[.int .i64 z, .bool lines, .string t])
    | (go_at_call 13; (with_reducible refine (GB.out _ _ _ m1).mono ?_); rintro e w3 ⟨rfl, hb⟩; replace hW := reg_below hW hb hW.size; replace m1 := m1.below hb; replace K1 := K1.below hb K1.lt; clear hb; replace hW := hW.alloc hW.size (.cells #[.int .i64 34, .bool lines, .string t] 32); replace m1 := m1.below ((Below.refl _ w3).alloc (Nat.le_refl _) (.cells #[.int .i64 34, .bool lines, .string t] 32)); replace K1 := K1.alloc (.cells #[.int .i64 34, .bool lines, .string t] 32); have K2 := Blk.new w3 32 #[.int .i64 34, .bool lines, .string t])
    | (go_at_call 15; (with_reducible refine (RM.out _ _ _ m1).mono ?_); rintro e w4 ⟨rfl, hb⟩; replace hW := reg_below hW hb hW.size; replace m1 := m1.below hb; replace K1 := K1.below hb K1.lt; replace K2 := K2.below hb K2.lt; clear hb; obtain ⟨p0, p1, p2, _, _, _⟩ := row_three K1; obtain ⟨q0, q1, q2, _, _, _⟩ := row_three K2)
    | (go_at_call 17; (with_reducible refine (NO.out _).mono ?_); rintro e w9 ⟨rfl, rfl⟩)
    | (go_at_call 17; (with_reducible refine (NN.out _).mono ?_); rintro e w9 ⟨rfl, rfl⟩)
    | (go_at_call 13; (with_reducible refine (GC.out _ hW).mono ?_); rintro e w5 ⟨rfl, hb⟩; replace hW := reg_below hW hb hW.size; replace m1 := m1.below hb; clear hb p0 p1 p2 q0 q1 q2 K1 K2; replace hW := hW.alloc hW.size (.cells #[.int .i64 n1, .bool b1, .string s1] 32); replace m1 := m1.below ((Below.refl _ w5).alloc (Nat.le_refl _) (.cells #[.int .i64 n1, .bool b1, .string s1] 32)); have K3 := Blk.new w5 32 #[.int .i64 n1, .bool b1, .string s1])
    | (go_at_call 13; (with_reducible refine (GD.out _ _ _ m1).mono ?_); rintro e w6 ⟨rfl, hb⟩; replace hW := reg_below hW hb hW.size; replace K3 := K3.below hb K3.lt; clear hb; replace hW := hW.alloc hW.size (.cells #[.int .i64 n2, .bool b2, .string s2] 32); obtain ⟨p0, p1, p2, _, _, _⟩ := row_three K3; have l3 := K3.lt; obtain ⟨r0, r1, r2, _, _, _⟩ := row_three (K3.alloc (.cells #[.int .i64 n2, .bool b2, .string s2] 32)); obtain ⟨t0, t1, t2, _, _, _⟩ := row_three (Blk.new w6 32 #[.int .i64 n2, .bool b2, .string s2]))
    | (go_at_call 7; (with_reducible refine (LV.out _).mono ?_); rintro e w12 ⟨rfl, hb12⟩; replace hW := reg_below hW hb12 hW.size))
  go_ret
  exact ⟨rfl, hW⟩
set_option maxHeartbeats 2000000 in
set_option maxRecDepth 100000 in
theorem regHolds_hi_o34 (n : Int) (t : ByteArray) (lines : Bool) (other : Int) {A : Option Addr} {c : Nat} {ks : List Rg} {w : World} (hx : Rgs w A ks) (hc : ks.length ≤ c) (hm : c ≤ maxLen) (ht : t.size ≤ 140737488355327) (h60 : ¬ 60 < ks.length) (hR : Right ks) (hv : Utf.valid t.data.toList = true) (h0 : nameN n ≠ 0) (hs : (added ks n t lines).2.size ≤ 4096) (hk : kept ks n t lines false = (into ks n t lines false, 0)) (hn : 90 < n) (ho : nameN other ≠ 0 ∧ nameN other ≠ nameN n ∧ nameN other = 34) :
    Calls Try.prog 5 #[.slice A ks.length c, .int .i64 n, .string t, .bool lines, .int .i64 other] w fun e w' => e = .returned (.bool true) ∧ Below w.heap.size w w' := by
  have g0 : decide ((60 : Int) < (ks.length : Int)) = false := decide_eq_false (by omega)
  have hm' : ks.length ≤ maxLen := Nat.le_trans hc hm
  have LV := Lib.hid reg_lives
  have Y1 := reg_Yank n t lines (c := c) hx (by omega) ht
  rw [hk] at Y1
  obtain ⟨f1, f2, f3, f4⟩ := holds_facts hR h0 hv hs
  have hll := into_length (t := t) (lines := lines) (taken := false) hR.1 h0
  have hadd : added ks n t lines = (lines, t) := added_not (by omega)
  rw [hadd] at f2 f3
  clear f4 hk hv
  generalize into ks n t lines false = L at *
  have Y : Hid (Calls Try.prog 8 #[.slice A ks.length c, .int .i64 n, .string t, .bool lines] w fun e w' => ∃ A c, e = .returned (.tuple #[.slice A L.length c, .int .i64 0]) ∧ Rgs w' A L ∧ Below w.heap.size w w') := Y1.mono fun e w' h => by
    obtain ⟨A, c, h1, h2, _, h3⟩ := h
    exact ⟨A, c, h1, h2, h3⟩
  have GA : Hid (∀ u A c, Rgs u A L → Calls Try.prog 13 #[.slice A L.length c, .int .i64 n] u fun e u' => e = .returned (.tuple #[.agg #[.int .i64 (nameN n), .bool lines, .string t], .bool true]) ∧ Below u.heap.size u u') := fun u A c hu => by
    have := reg_Get n (c := c) hu (by unfold maxLen; omega)
    rw [f2] at this; exact this
  have GB : Hid (∀ u A c, Rgs u A L → Calls Try.prog 13 #[.slice A L.length c, .int .i64 0] u fun e u' => e = .returned (.tuple #[.agg #[.int .i64 34, .bool lines, .string t], .bool true]) ∧ Below u.heap.size u u') := fun u A c hu => by
    have := reg_Get 0 (c := c) hu (by unfold maxLen; omega)
    rw [f3] at this; exact this
  have RM : Hid (∀ u A c, Rgs u A L → Calls Try.prog 15 #[.slice A L.length c] u fun e u' => e = .returned (.bool true) ∧ Below u.heap.size u u') := fun u A c hu => by
    have := reg_Right (c := c) hu (by unfold maxLen; omega)
    rw [decide_eq_true f1] at this; exact this
  have NO := Lib.hid (reg_Name other)
  have NN := Lib.hid (reg_Name n)
  have GC : Hid (∀ u, Below w.heap.size w u → Calls Try.prog 13 #[.slice A ks.length c, .int .i64 other] u fun e u' => e = .returned (.tuple #[.agg #[.int .i64 (get ks other).1.name, .bool (get ks other).1.lines, .string (get ks other).1.text], .bool (get ks other).2]) ∧ Below u.heap.size u u') := fun u hu => reg_Get other (hx.below hu) hm'
  have GD : Hid (∀ u A c, Rgs u A L → Calls Try.prog 13 #[.slice A L.length c, .int .i64 other] u fun e u' => e = .returned (.tuple #[.agg #[.int .i64 (get L other).1.name, .bool (get L other).1.lines, .string (get L other).1.text], .bool (get L other).2]) ∧ Below u.heap.size u u') := fun u A c hu => reg_Get other hu (by unfold maxLen; omega)
  clear f1 f2 f3 hll Y1
  generalize hzz : nameN n = z at *
  generalize hoo : nameN other = o at *
  generalize (get ks other).1.name = n1 at *
  generalize (get ks other).1.lines = b1 at *
  generalize (get ks other).1.text = s1 at *
  generalize (get ks other).2 = k1 at *
  generalize (get L other).1.name = n2 at *
  generalize (get L other).1.lines = b2 at *
  generalize (get L other).1.text = s2 at *
  generalize (get L other).2 = k2 at *
  have o1 : (o != 0) = true := by simpa using ho.1
  have o2 : (o != z) = true := by simpa using ho.2.1
  have o3 : (o != 34) = false := by simp [ho.2.2]
  have n0 : decide (n < 65) = false := decide_eq_false (by omega)
  have n1' : decide (90 < n) = true := decide_eq_true hn
  clear hx hm hm' hc ht h60 hR h0 hs hn ho hzz hoo hadd
  go_enter Try.func5, Try.ntmps5
  go_wp2_with (first
    | (go_at_call 8; (with_reducible refine Y.out.mono ?_); rintro e w1 ⟨A1, c1, rfl, m1, hW⟩)
    | (go_at_call 13; (with_reducible refine (GA.out _ _ _ m1).mono ?_); rintro e w2 ⟨rfl, hb⟩; replace hW := reg_below hW hb hW.size; replace m1 := m1.below hb; clear hb; replace hW := hW.alloc hW.size (.cells #[.int .i64 z, .bool lines, .string t] 32); replace m1 := m1.below ((Below.refl _ w2).alloc (Nat.le_refl _) (.cells #[.int .i64 z, .bool lines, .string t] 32)); have K1 := Blk.new w2 32 #[.int .i64 z, .bool lines, .string t])
    | (go_at_call 13; (with_reducible refine (GB.out _ _ _ m1).mono ?_); rintro e w3 ⟨rfl, hb⟩; replace hW := reg_below hW hb hW.size; replace m1 := m1.below hb; replace K1 := K1.below hb K1.lt; clear hb; replace hW := hW.alloc hW.size (.cells #[.int .i64 34, .bool lines, .string t] 32); replace m1 := m1.below ((Below.refl _ w3).alloc (Nat.le_refl _) (.cells #[.int .i64 34, .bool lines, .string t] 32)); replace K1 := K1.alloc (.cells #[.int .i64 34, .bool lines, .string t] 32); have K2 := Blk.new w3 32 #[.int .i64 34, .bool lines, .string t])
    | (go_at_call 15; (with_reducible refine (RM.out _ _ _ m1).mono ?_); rintro e w4 ⟨rfl, hb⟩; replace hW := reg_below hW hb hW.size; replace m1 := m1.below hb; replace K1 := K1.below hb K1.lt; replace K2 := K2.below hb K2.lt; clear hb; obtain ⟨p0, p1, p2, _, _, _⟩ := row_three K1; obtain ⟨q0, q1, q2, _, _, _⟩ := row_three K2)
    | (go_at_call 17; (with_reducible refine (NO.out _).mono ?_); rintro e w9 ⟨rfl, rfl⟩)
    | (go_at_call 17; (with_reducible refine (NN.out _).mono ?_); rintro e w9 ⟨rfl, rfl⟩)
    | (go_at_call 13; (with_reducible refine (GC.out _ hW).mono ?_); rintro e w5 ⟨rfl, hb⟩; replace hW := reg_below hW hb hW.size; replace m1 := m1.below hb; clear hb p0 p1 p2 q0 q1 q2 K1 K2; replace hW := hW.alloc hW.size (.cells #[.int .i64 n1, .bool b1, .string s1] 32); replace m1 := m1.below ((Below.refl _ w5).alloc (Nat.le_refl _) (.cells #[.int .i64 n1, .bool b1, .string s1] 32)); have K3 := Blk.new w5 32 #[.int .i64 n1, .bool b1, .string s1])
    | (go_at_call 13; (with_reducible refine (GD.out _ _ _ m1).mono ?_); rintro e w6 ⟨rfl, hb⟩; replace hW := reg_below hW hb hW.size; replace K3 := K3.below hb K3.lt; clear hb; replace hW := hW.alloc hW.size (.cells #[.int .i64 n2, .bool b2, .string s2] 32); obtain ⟨p0, p1, p2, _, _, _⟩ := row_three K3; have l3 := K3.lt; obtain ⟨r0, r1, r2, _, _, _⟩ := row_three (K3.alloc (.cells #[.int .i64 n2, .bool b2, .string s2] 32)); obtain ⟨t0, t1, t2, _, _, _⟩ := row_three (Blk.new w6 32 #[.int .i64 n2, .bool b2, .string s2]))
    | (go_at_call 7; (with_reducible refine (LV.out _).mono ?_); rintro e w12 ⟨rfl, hb12⟩; replace hW := reg_below hW hb12 hW.size))
  go_ret
  exact ⟨rfl, hW⟩
set_option maxHeartbeats 2000000 in
set_option maxRecDepth 100000 in
theorem regHolds_hi_o48 (n : Int) (t : ByteArray) (lines : Bool) (other : Int) {A : Option Addr} {c : Nat} {ks : List Rg} {w : World} (hx : Rgs w A ks) (hc : ks.length ≤ c) (hm : c ≤ maxLen) (ht : t.size ≤ 140737488355327) (h60 : ¬ 60 < ks.length) (hR : Right ks) (hv : Utf.valid t.data.toList = true) (h0 : nameN n ≠ 0) (hs : (added ks n t lines).2.size ≤ 4096) (hk : kept ks n t lines false = (into ks n t lines false, 0)) (hn : 90 < n) (ho : nameN other ≠ 0 ∧ nameN other ≠ nameN n ∧ nameN other ≠ 34 ∧ nameN other = 48) :
    Calls Try.prog 5 #[.slice A ks.length c, .int .i64 n, .string t, .bool lines, .int .i64 other] w fun e w' => e = .returned (.bool true) ∧ Below w.heap.size w w' := by
  have g0 : decide ((60 : Int) < (ks.length : Int)) = false := decide_eq_false (by omega)
  have hm' : ks.length ≤ maxLen := Nat.le_trans hc hm
  have LV := Lib.hid reg_lives
  have Y1 := reg_Yank n t lines (c := c) hx (by omega) ht
  rw [hk] at Y1
  obtain ⟨f1, f2, f3, f4⟩ := holds_facts hR h0 hv hs
  have hll := into_length (t := t) (lines := lines) (taken := false) hR.1 h0
  have hadd : added ks n t lines = (lines, t) := added_not (by omega)
  rw [hadd] at f2 f3
  clear f4 hk hv
  generalize into ks n t lines false = L at *
  have Y : Hid (Calls Try.prog 8 #[.slice A ks.length c, .int .i64 n, .string t, .bool lines] w fun e w' => ∃ A c, e = .returned (.tuple #[.slice A L.length c, .int .i64 0]) ∧ Rgs w' A L ∧ Below w.heap.size w w') := Y1.mono fun e w' h => by
    obtain ⟨A, c, h1, h2, _, h3⟩ := h
    exact ⟨A, c, h1, h2, h3⟩
  have GA : Hid (∀ u A c, Rgs u A L → Calls Try.prog 13 #[.slice A L.length c, .int .i64 n] u fun e u' => e = .returned (.tuple #[.agg #[.int .i64 (nameN n), .bool lines, .string t], .bool true]) ∧ Below u.heap.size u u') := fun u A c hu => by
    have := reg_Get n (c := c) hu (by unfold maxLen; omega)
    rw [f2] at this; exact this
  have GB : Hid (∀ u A c, Rgs u A L → Calls Try.prog 13 #[.slice A L.length c, .int .i64 0] u fun e u' => e = .returned (.tuple #[.agg #[.int .i64 34, .bool lines, .string t], .bool true]) ∧ Below u.heap.size u u') := fun u A c hu => by
    have := reg_Get 0 (c := c) hu (by unfold maxLen; omega)
    rw [f3] at this; exact this
  have RM : Hid (∀ u A c, Rgs u A L → Calls Try.prog 15 #[.slice A L.length c] u fun e u' => e = .returned (.bool true) ∧ Below u.heap.size u u') := fun u A c hu => by
    have := reg_Right (c := c) hu (by unfold maxLen; omega)
    rw [decide_eq_true f1] at this; exact this
  have NO := Lib.hid (reg_Name other)
  have NN := Lib.hid (reg_Name n)
  have GC : Hid (∀ u, Below w.heap.size w u → Calls Try.prog 13 #[.slice A ks.length c, .int .i64 other] u fun e u' => e = .returned (.tuple #[.agg #[.int .i64 (get ks other).1.name, .bool (get ks other).1.lines, .string (get ks other).1.text], .bool (get ks other).2]) ∧ Below u.heap.size u u') := fun u hu => reg_Get other (hx.below hu) hm'
  have GD : Hid (∀ u A c, Rgs u A L → Calls Try.prog 13 #[.slice A L.length c, .int .i64 other] u fun e u' => e = .returned (.tuple #[.agg #[.int .i64 (get L other).1.name, .bool (get L other).1.lines, .string (get L other).1.text], .bool (get L other).2]) ∧ Below u.heap.size u u') := fun u A c hu => reg_Get other hu (by unfold maxLen; omega)
  clear f1 f2 f3 hll Y1
  generalize hzz : nameN n = z at *
  generalize hoo : nameN other = o at *
  generalize (get ks other).1.name = n1 at *
  generalize (get ks other).1.lines = b1 at *
  generalize (get ks other).1.text = s1 at *
  generalize (get ks other).2 = k1 at *
  generalize (get L other).1.name = n2 at *
  generalize (get L other).1.lines = b2 at *
  generalize (get L other).1.text = s2 at *
  generalize (get L other).2 = k2 at *
  have o1 : (o != 0) = true := by simpa using ho.1
  have o2 : (o != z) = true := by simpa using ho.2.1
  have o3 : (o != 34) = true := by simpa using ho.2.2.1
  have o4 : (o != 48) = false := by simp [ho.2.2.2]
  have n0 : decide (n < 65) = false := decide_eq_false (by omega)
  have n1' : decide (90 < n) = true := decide_eq_true hn
  clear hx hm hm' hc ht h60 hR h0 hs hn ho hzz hoo hadd
  go_enter Try.func5, Try.ntmps5
  go_wp2_with (first
    | (go_at_call 8; (with_reducible refine Y.out.mono ?_); rintro e w1 ⟨A1, c1, rfl, m1, hW⟩)
    | (go_at_call 13; (with_reducible refine (GA.out _ _ _ m1).mono ?_); rintro e w2 ⟨rfl, hb⟩; replace hW := reg_below hW hb hW.size; replace m1 := m1.below hb; clear hb; replace hW := hW.alloc hW.size (.cells #[.int .i64 z, .bool lines, .string t] 32); replace m1 := m1.below ((Below.refl _ w2).alloc (Nat.le_refl _) (.cells #[.int .i64 z, .bool lines, .string t] 32)); have K1 := Blk.new w2 32 #[.int .i64 z, .bool lines, .string t])
    | (go_at_call 13; (with_reducible refine (GB.out _ _ _ m1).mono ?_); rintro e w3 ⟨rfl, hb⟩; replace hW := reg_below hW hb hW.size; replace m1 := m1.below hb; replace K1 := K1.below hb K1.lt; clear hb; replace hW := hW.alloc hW.size (.cells #[.int .i64 34, .bool lines, .string t] 32); replace m1 := m1.below ((Below.refl _ w3).alloc (Nat.le_refl _) (.cells #[.int .i64 34, .bool lines, .string t] 32)); replace K1 := K1.alloc (.cells #[.int .i64 34, .bool lines, .string t] 32); have K2 := Blk.new w3 32 #[.int .i64 34, .bool lines, .string t])
    | (go_at_call 15; (with_reducible refine (RM.out _ _ _ m1).mono ?_); rintro e w4 ⟨rfl, hb⟩; replace hW := reg_below hW hb hW.size; replace m1 := m1.below hb; replace K1 := K1.below hb K1.lt; replace K2 := K2.below hb K2.lt; clear hb; obtain ⟨p0, p1, p2, _, _, _⟩ := row_three K1; obtain ⟨q0, q1, q2, _, _, _⟩ := row_three K2)
    | (go_at_call 17; (with_reducible refine (NO.out _).mono ?_); rintro e w9 ⟨rfl, rfl⟩)
    | (go_at_call 17; (with_reducible refine (NN.out _).mono ?_); rintro e w9 ⟨rfl, rfl⟩)
    | (go_at_call 13; (with_reducible refine (GC.out _ hW).mono ?_); rintro e w5 ⟨rfl, hb⟩; replace hW := reg_below hW hb hW.size; replace m1 := m1.below hb; clear hb p0 p1 p2 q0 q1 q2 K1 K2; replace hW := hW.alloc hW.size (.cells #[.int .i64 n1, .bool b1, .string s1] 32); replace m1 := m1.below ((Below.refl _ w5).alloc (Nat.le_refl _) (.cells #[.int .i64 n1, .bool b1, .string s1] 32)); have K3 := Blk.new w5 32 #[.int .i64 n1, .bool b1, .string s1])
    | (go_at_call 13; (with_reducible refine (GD.out _ _ _ m1).mono ?_); rintro e w6 ⟨rfl, hb⟩; replace hW := reg_below hW hb hW.size; replace K3 := K3.below hb K3.lt; clear hb; replace hW := hW.alloc hW.size (.cells #[.int .i64 n2, .bool b2, .string s2] 32); obtain ⟨p0, p1, p2, _, _, _⟩ := row_three K3; have l3 := K3.lt; obtain ⟨r0, r1, r2, _, _, _⟩ := row_three (K3.alloc (.cells #[.int .i64 n2, .bool b2, .string s2] 32)); obtain ⟨t0, t1, t2, _, _, _⟩ := row_three (Blk.new w6 32 #[.int .i64 n2, .bool b2, .string s2]))
    | (go_at_call 7; (with_reducible refine (LV.out _).mono ?_); rintro e w12 ⟨rfl, hb12⟩; replace hW := reg_below hW hb12 hW.size))
  go_ret
  exact ⟨rfl, hW⟩
set_option maxHeartbeats 2000000 in
set_option maxRecDepth 100000 in
theorem regHolds_hi_all (n : Int) (t : ByteArray) (lines : Bool) (other : Int) {A : Option Addr} {c : Nat} {ks : List Rg} {w : World} (hx : Rgs w A ks) (hc : ks.length ≤ c) (hm : c ≤ maxLen) (ht : t.size ≤ 140737488355327) (h60 : ¬ 60 < ks.length) (hR : Right ks) (hv : Utf.valid t.data.toList = true) (h0 : nameN n ≠ 0) (hs : (added ks n t lines).2.size ≤ 4096) (hk : kept ks n t lines false = (into ks n t lines false, 0)) (hn : 90 < n) (ho : nameN other ≠ 0 ∧ nameN other ≠ nameN n ∧ nameN other ≠ 34 ∧ nameN other ≠ 48) :
    Calls Try.prog 5 #[.slice A ks.length c, .int .i64 n, .string t, .bool lines, .int .i64 other] w fun e w' => e = .returned (.bool true) ∧ Below w.heap.size w w' := by
  have g0 : decide ((60 : Int) < (ks.length : Int)) = false := decide_eq_false (by omega)
  have hm' : ks.length ≤ maxLen := Nat.le_trans hc hm
  have LV := Lib.hid reg_lives
  have Y1 := reg_Yank n t lines (c := c) hx (by omega) ht
  rw [hk] at Y1
  obtain ⟨f1, f2, f3, f4⟩ := holds_facts hR h0 hv hs
  have hll := into_length (t := t) (lines := lines) (taken := false) hR.1 h0
  have hadd : added ks n t lines = (lines, t) := added_not (by omega)
  rw [hadd] at f2 f3
  have hsame := f4 other ho.1 ho.2.1 ho.2.2.1 ho.2.2.2
  clear f4 hk hv
  generalize into ks n t lines false = L at *
  have Y : Hid (Calls Try.prog 8 #[.slice A ks.length c, .int .i64 n, .string t, .bool lines] w fun e w' => ∃ A c, e = .returned (.tuple #[.slice A L.length c, .int .i64 0]) ∧ Rgs w' A L ∧ Below w.heap.size w w') := Y1.mono fun e w' h => by
    obtain ⟨A, c, h1, h2, _, h3⟩ := h
    exact ⟨A, c, h1, h2, h3⟩
  have GA : Hid (∀ u A c, Rgs u A L → Calls Try.prog 13 #[.slice A L.length c, .int .i64 n] u fun e u' => e = .returned (.tuple #[.agg #[.int .i64 (nameN n), .bool lines, .string t], .bool true]) ∧ Below u.heap.size u u') := fun u A c hu => by
    have := reg_Get n (c := c) hu (by unfold maxLen; omega)
    rw [f2] at this; exact this
  have GB : Hid (∀ u A c, Rgs u A L → Calls Try.prog 13 #[.slice A L.length c, .int .i64 0] u fun e u' => e = .returned (.tuple #[.agg #[.int .i64 34, .bool lines, .string t], .bool true]) ∧ Below u.heap.size u u') := fun u A c hu => by
    have := reg_Get 0 (c := c) hu (by unfold maxLen; omega)
    rw [f3] at this; exact this
  have RM : Hid (∀ u A c, Rgs u A L → Calls Try.prog 15 #[.slice A L.length c] u fun e u' => e = .returned (.bool true) ∧ Below u.heap.size u u') := fun u A c hu => by
    have := reg_Right (c := c) hu (by unfold maxLen; omega)
    rw [decide_eq_true f1] at this; exact this
  have NO := Lib.hid (reg_Name other)
  have NN := Lib.hid (reg_Name n)
  have GC : Hid (∀ u, Below w.heap.size w u → Calls Try.prog 13 #[.slice A ks.length c, .int .i64 other] u fun e u' => e = .returned (.tuple #[.agg #[.int .i64 (get ks other).1.name, .bool (get ks other).1.lines, .string (get ks other).1.text], .bool (get ks other).2]) ∧ Below u.heap.size u u') := fun u hu => reg_Get other (hx.below hu) hm'
  have GD : Hid (∀ u A c, Rgs u A L → Calls Try.prog 13 #[.slice A L.length c, .int .i64 other] u fun e u' => e = .returned (.tuple #[.agg #[.int .i64 (get L other).1.name, .bool (get L other).1.lines, .string (get L other).1.text], .bool (get L other).2]) ∧ Below u.heap.size u u') := fun u A c hu => reg_Get other hu (by unfold maxLen; omega)
  clear f1 f2 f3 hll Y1
  rw [hsame] at GD
  clear hsame
  generalize hzz : nameN n = z at *
  generalize hoo : nameN other = o at *
  generalize (get ks other).1.name = n1 at *
  generalize (get ks other).1.lines = b1 at *
  generalize (get ks other).1.text = s1 at *
  generalize (get ks other).2 = k1 at *
  have o1 : (o != 0) = true := by simpa using ho.1
  have o2 : (o != z) = true := by simpa using ho.2.1
  have o3 : (o != 34) = true := by simpa using ho.2.2.1
  have o4 : (o != 48) = true := by simpa using ho.2.2.2
  have n0 : decide (n < 65) = false := decide_eq_false (by omega)
  have n1' : decide (90 < n) = true := decide_eq_true hn
  have EQ := neq_reg_same
  clear hx hm hm' hc ht h60 hR h0 hs hn ho hzz hoo hadd
  go_enter Try.func5, Try.ntmps5
  go_wp2_with (first
    | (go_at_call 8; (with_reducible refine Y.out.mono ?_); rintro e w1 ⟨A1, c1, rfl, m1, hW⟩)
    | (go_at_call 13; (with_reducible refine (GA.out _ _ _ m1).mono ?_); rintro e w2 ⟨rfl, hb⟩; replace hW := reg_below hW hb hW.size; replace m1 := m1.below hb; clear hb; replace hW := hW.alloc hW.size (.cells #[.int .i64 z, .bool lines, .string t] 32); replace m1 := m1.below ((Below.refl _ w2).alloc (Nat.le_refl _) (.cells #[.int .i64 z, .bool lines, .string t] 32)); have K1 := Blk.new w2 32 #[.int .i64 z, .bool lines, .string t])
    | (go_at_call 13; (with_reducible refine (GB.out _ _ _ m1).mono ?_); rintro e w3 ⟨rfl, hb⟩; replace hW := reg_below hW hb hW.size; replace m1 := m1.below hb; replace K1 := K1.below hb K1.lt; clear hb; replace hW := hW.alloc hW.size (.cells #[.int .i64 34, .bool lines, .string t] 32); replace m1 := m1.below ((Below.refl _ w3).alloc (Nat.le_refl _) (.cells #[.int .i64 34, .bool lines, .string t] 32)); replace K1 := K1.alloc (.cells #[.int .i64 34, .bool lines, .string t] 32); have K2 := Blk.new w3 32 #[.int .i64 34, .bool lines, .string t])
    | (go_at_call 15; (with_reducible refine (RM.out _ _ _ m1).mono ?_); rintro e w4 ⟨rfl, hb⟩; replace hW := reg_below hW hb hW.size; replace m1 := m1.below hb; replace K1 := K1.below hb K1.lt; replace K2 := K2.below hb K2.lt; clear hb; obtain ⟨p0, p1, p2, _, _, _⟩ := row_three K1; obtain ⟨q0, q1, q2, _, _, _⟩ := row_three K2)
    | (go_at_call 17; (with_reducible refine (NO.out _).mono ?_); rintro e w9 ⟨rfl, rfl⟩)
    | (go_at_call 17; (with_reducible refine (NN.out _).mono ?_); rintro e w9 ⟨rfl, rfl⟩)
    | (go_at_call 13; (with_reducible refine (GC.out _ hW).mono ?_); rintro e w5 ⟨rfl, hb⟩; replace hW := reg_below hW hb hW.size; replace m1 := m1.below hb; clear hb p0 p1 p2 q0 q1 q2 K1 K2; replace hW := hW.alloc hW.size (.cells #[.int .i64 n1, .bool b1, .string s1] 32); replace m1 := m1.below ((Below.refl _ w5).alloc (Nat.le_refl _) (.cells #[.int .i64 n1, .bool b1, .string s1] 32)); have K3 := Blk.new w5 32 #[.int .i64 n1, .bool b1, .string s1])
    | (go_at_call 13; (with_reducible refine (GD.out _ _ _ m1).mono ?_); rintro e w6 ⟨rfl, hb⟩; replace hW := reg_below hW hb hW.size; replace K3 := K3.below hb K3.lt; clear hb; replace hW := hW.alloc hW.size (.cells #[.int .i64 n1, .bool b1, .string s1] 32); obtain ⟨p0, p1, p2, _, _, _⟩ := row_three K3; have l3 := K3.lt; obtain ⟨r0, r1, r2, _, _, _⟩ := row_three (K3.alloc (.cells #[.int .i64 n1, .bool b1, .string s1] 32)); obtain ⟨t0, t1, t2, _, _, _⟩ := row_three (Blk.new w6 32 #[.int .i64 n1, .bool b1, .string s1]))
    | (go_at_call 7; (with_reducible refine (LV.out _).mono ?_); rintro e w12 ⟨rfl, hb12⟩; replace hW := reg_below hW hb12 hW.size))
  go_ret
  exact ⟨rfl, hW⟩
set_option maxHeartbeats 2000000 in
set_option maxRecDepth 100000 in
theorem regHolds_add_o0 (n : Int) (t : ByteArray) (lines : Bool) (other : Int) {A : Option Addr} {c : Nat} {ks : List Rg} {w : World} (hx : Rgs w A ks) (hc : ks.length ≤ c) (hm : c ≤ maxLen) (ht : t.size ≤ 140737488355327) (h60 : ¬ 60 < ks.length) (hR : Right ks) (hv : Utf.valid t.data.toList = true) (h0 : nameN n ≠ 0) (hs : (added ks n t lines).2.size ≤ 4096) (hk : kept ks n t lines false = (into ks n t lines false, 0)) (hn : 65 ≤ n ∧ n ≤ 90) (ho : nameN other = 0) :
    Calls Try.prog 5 #[.slice A ks.length c, .int .i64 n, .string t, .bool lines, .int .i64 other] w fun e w' => e = .returned (.bool true) ∧ Below w.heap.size w w' := by
  have g0 : decide ((60 : Int) < (ks.length : Int)) = false := decide_eq_false (by omega)
  have hm' : ks.length ≤ maxLen := Nat.le_trans hc hm
  have LV := Lib.hid reg_lives
  have Y1 := reg_Yank n t lines (c := c) hx (by omega) ht
  rw [hk] at Y1
  obtain ⟨f1, f2, f3, f4⟩ := holds_facts hR h0 hv hs
  have hll := into_length (t := t) (lines := lines) (taken := false) hR.1 h0
  generalize (added ks n t lines).1 = b at *
  generalize (added ks n t lines).2 = s at *
  clear f4 hk hv
  generalize into ks n t lines false = L at *
  have Y : Hid (Calls Try.prog 8 #[.slice A ks.length c, .int .i64 n, .string t, .bool lines] w fun e w' => ∃ A c, e = .returned (.tuple #[.slice A L.length c, .int .i64 0]) ∧ Rgs w' A L ∧ Below w.heap.size w w') := Y1.mono fun e w' h => by
    obtain ⟨A, c, h1, h2, _, h3⟩ := h
    exact ⟨A, c, h1, h2, h3⟩
  have GA : Hid (∀ u A c, Rgs u A L → Calls Try.prog 13 #[.slice A L.length c, .int .i64 n] u fun e u' => e = .returned (.tuple #[.agg #[.int .i64 (nameN n), .bool b, .string s], .bool true]) ∧ Below u.heap.size u u') := fun u A c hu => by
    have := reg_Get n (c := c) hu (by unfold maxLen; omega)
    rw [f2] at this; exact this
  have GB : Hid (∀ u A c, Rgs u A L → Calls Try.prog 13 #[.slice A L.length c, .int .i64 0] u fun e u' => e = .returned (.tuple #[.agg #[.int .i64 34, .bool b, .string s], .bool true]) ∧ Below u.heap.size u u') := fun u A c hu => by
    have := reg_Get 0 (c := c) hu (by unfold maxLen; omega)
    rw [f3] at this; exact this
  have RM : Hid (∀ u A c, Rgs u A L → Calls Try.prog 15 #[.slice A L.length c] u fun e u' => e = .returned (.bool true) ∧ Below u.heap.size u u') := fun u A c hu => by
    have := reg_Right (c := c) hu (by unfold maxLen; omega)
    rw [decide_eq_true f1] at this; exact this
  have NO := Lib.hid (reg_Name other)
  have NN := Lib.hid (reg_Name n)
  have GC : Hid (∀ u, Below w.heap.size w u → Calls Try.prog 13 #[.slice A ks.length c, .int .i64 other] u fun e u' => e = .returned (.tuple #[.agg #[.int .i64 (get ks other).1.name, .bool (get ks other).1.lines, .string (get ks other).1.text], .bool (get ks other).2]) ∧ Below u.heap.size u u') := fun u hu => reg_Get other (hx.below hu) hm'
  have GD : Hid (∀ u A c, Rgs u A L → Calls Try.prog 13 #[.slice A L.length c, .int .i64 other] u fun e u' => e = .returned (.tuple #[.agg #[.int .i64 (get L other).1.name, .bool (get L other).1.lines, .string (get L other).1.text], .bool (get L other).2]) ∧ Below u.heap.size u u') := fun u A c hu => reg_Get other hu (by unfold maxLen; omega)
  clear f1 f2 f3 hll Y1
  generalize hzz : nameN n = z at *
  generalize hoo : nameN other = o at *
  generalize (get ks other).1.name = n1 at *
  generalize (get ks other).1.lines = b1 at *
  generalize (get ks other).1.text = s1 at *
  generalize (get ks other).2 = k1 at *
  generalize (get L other).1.name = n2 at *
  generalize (get L other).1.lines = b2 at *
  generalize (get L other).1.text = s2 at *
  generalize (get L other).2 = k2 at *
  have o1 : (o != 0) = false := by simp [ho]
  have n0 : decide (n < 65) = false := decide_eq_false (by omega)
  have n1' : decide (90 < n) = false := decide_eq_false (by omega)
  clear hx hm hm' hc ht h60 hR h0 hs hn ho hzz hoo
  go_enter Try.func5, Try.ntmps5
  go_wp2_with (first
    | (go_at_call 8; (with_reducible refine Y.out.mono ?_); rintro e w1 ⟨A1, c1, rfl, m1, hW⟩)
    | (go_at_call 13; (with_reducible refine (GA.out _ _ _ m1).mono ?_); rintro e w2 ⟨rfl, hb⟩; replace hW := reg_below hW hb hW.size; replace m1 := m1.below hb; clear hb; replace hW := hW.alloc hW.size (.cells #[.int .i64 z, .bool b, .string s] 32); replace m1 := m1.below ((Below.refl _ w2).alloc (Nat.le_refl _) (.cells #[.int .i64 z, .bool b, .string s] 32)); have K1 := Blk.new w2 32 #[.int .i64 z, .bool b, .string s])
    | (go_at_call 13; (with_reducible refine (GB.out _ _ _ m1).mono ?_); rintro e w3 ⟨rfl, hb⟩; replace hW := reg_below hW hb hW.size; replace m1 := m1.below hb; replace K1 := K1.below hb K1.lt; clear hb; replace hW := hW.alloc hW.size (.cells #[.int .i64 34, .bool b, .string s] 32); replace m1 := m1.below ((Below.refl _ w3).alloc (Nat.le_refl _) (.cells #[.int .i64 34, .bool b, .string s] 32)); replace K1 := K1.alloc (.cells #[.int .i64 34, .bool b, .string s] 32); have K2 := Blk.new w3 32 #[.int .i64 34, .bool b, .string s])
    | (go_at_call 15; (with_reducible refine (RM.out _ _ _ m1).mono ?_); rintro e w4 ⟨rfl, hb⟩; replace hW := reg_below hW hb hW.size; replace m1 := m1.below hb; replace K1 := K1.below hb K1.lt; replace K2 := K2.below hb K2.lt; clear hb; obtain ⟨p0, p1, p2, _, _, _⟩ := row_three K1; obtain ⟨q0, q1, q2, _, _, _⟩ := row_three K2)
    | (go_at_call 17; (with_reducible refine (NO.out _).mono ?_); rintro e w9 ⟨rfl, rfl⟩)
    | (go_at_call 17; (with_reducible refine (NN.out _).mono ?_); rintro e w9 ⟨rfl, rfl⟩)
    | (go_at_call 13; (with_reducible refine (GC.out _ hW).mono ?_); rintro e w5 ⟨rfl, hb⟩; replace hW := reg_below hW hb hW.size; replace m1 := m1.below hb; clear hb p0 p1 p2 q0 q1 q2 K1 K2; replace hW := hW.alloc hW.size (.cells #[.int .i64 n1, .bool b1, .string s1] 32); replace m1 := m1.below ((Below.refl _ w5).alloc (Nat.le_refl _) (.cells #[.int .i64 n1, .bool b1, .string s1] 32)); have K3 := Blk.new w5 32 #[.int .i64 n1, .bool b1, .string s1])
    | (go_at_call 13; (with_reducible refine (GD.out _ _ _ m1).mono ?_); rintro e w6 ⟨rfl, hb⟩; replace hW := reg_below hW hb hW.size; replace K3 := K3.below hb K3.lt; clear hb; replace hW := hW.alloc hW.size (.cells #[.int .i64 n2, .bool b2, .string s2] 32); obtain ⟨p0, p1, p2, _, _, _⟩ := row_three K3; have l3 := K3.lt; obtain ⟨r0, r1, r2, _, _, _⟩ := row_three (K3.alloc (.cells #[.int .i64 n2, .bool b2, .string s2] 32)); obtain ⟨t0, t1, t2, _, _, _⟩ := row_three (Blk.new w6 32 #[.int .i64 n2, .bool b2, .string s2]))
    | (go_at_call 7; (with_reducible refine (LV.out _).mono ?_); rintro e w12 ⟨rfl, hb12⟩; replace hW := reg_below hW hb12 hW.size))
  go_ret
  exact ⟨rfl, hW⟩
set_option maxHeartbeats 2000000 in
set_option maxRecDepth 100000 in
theorem regHolds_add_oz (n : Int) (t : ByteArray) (lines : Bool) (other : Int) {A : Option Addr} {c : Nat} {ks : List Rg} {w : World} (hx : Rgs w A ks) (hc : ks.length ≤ c) (hm : c ≤ maxLen) (ht : t.size ≤ 140737488355327) (h60 : ¬ 60 < ks.length) (hR : Right ks) (hv : Utf.valid t.data.toList = true) (h0 : nameN n ≠ 0) (hs : (added ks n t lines).2.size ≤ 4096) (hk : kept ks n t lines false = (into ks n t lines false, 0)) (hn : 65 ≤ n ∧ n ≤ 90) (ho : nameN other ≠ 0 ∧ nameN other = nameN n) :
    Calls Try.prog 5 #[.slice A ks.length c, .int .i64 n, .string t, .bool lines, .int .i64 other] w fun e w' => e = .returned (.bool true) ∧ Below w.heap.size w w' := by
  have g0 : decide ((60 : Int) < (ks.length : Int)) = false := decide_eq_false (by omega)
  have hm' : ks.length ≤ maxLen := Nat.le_trans hc hm
  have LV := Lib.hid reg_lives
  have Y1 := reg_Yank n t lines (c := c) hx (by omega) ht
  rw [hk] at Y1
  obtain ⟨f1, f2, f3, f4⟩ := holds_facts hR h0 hv hs
  have hll := into_length (t := t) (lines := lines) (taken := false) hR.1 h0
  generalize (added ks n t lines).1 = b at *
  generalize (added ks n t lines).2 = s at *
  clear f4 hk hv
  generalize into ks n t lines false = L at *
  have Y : Hid (Calls Try.prog 8 #[.slice A ks.length c, .int .i64 n, .string t, .bool lines] w fun e w' => ∃ A c, e = .returned (.tuple #[.slice A L.length c, .int .i64 0]) ∧ Rgs w' A L ∧ Below w.heap.size w w') := Y1.mono fun e w' h => by
    obtain ⟨A, c, h1, h2, _, h3⟩ := h
    exact ⟨A, c, h1, h2, h3⟩
  have GA : Hid (∀ u A c, Rgs u A L → Calls Try.prog 13 #[.slice A L.length c, .int .i64 n] u fun e u' => e = .returned (.tuple #[.agg #[.int .i64 (nameN n), .bool b, .string s], .bool true]) ∧ Below u.heap.size u u') := fun u A c hu => by
    have := reg_Get n (c := c) hu (by unfold maxLen; omega)
    rw [f2] at this; exact this
  have GB : Hid (∀ u A c, Rgs u A L → Calls Try.prog 13 #[.slice A L.length c, .int .i64 0] u fun e u' => e = .returned (.tuple #[.agg #[.int .i64 34, .bool b, .string s], .bool true]) ∧ Below u.heap.size u u') := fun u A c hu => by
    have := reg_Get 0 (c := c) hu (by unfold maxLen; omega)
    rw [f3] at this; exact this
  have RM : Hid (∀ u A c, Rgs u A L → Calls Try.prog 15 #[.slice A L.length c] u fun e u' => e = .returned (.bool true) ∧ Below u.heap.size u u') := fun u A c hu => by
    have := reg_Right (c := c) hu (by unfold maxLen; omega)
    rw [decide_eq_true f1] at this; exact this
  have NO := Lib.hid (reg_Name other)
  have NN := Lib.hid (reg_Name n)
  have GC : Hid (∀ u, Below w.heap.size w u → Calls Try.prog 13 #[.slice A ks.length c, .int .i64 other] u fun e u' => e = .returned (.tuple #[.agg #[.int .i64 (get ks other).1.name, .bool (get ks other).1.lines, .string (get ks other).1.text], .bool (get ks other).2]) ∧ Below u.heap.size u u') := fun u hu => reg_Get other (hx.below hu) hm'
  have GD : Hid (∀ u A c, Rgs u A L → Calls Try.prog 13 #[.slice A L.length c, .int .i64 other] u fun e u' => e = .returned (.tuple #[.agg #[.int .i64 (get L other).1.name, .bool (get L other).1.lines, .string (get L other).1.text], .bool (get L other).2]) ∧ Below u.heap.size u u') := fun u A c hu => reg_Get other hu (by unfold maxLen; omega)
  clear f1 f2 f3 hll Y1
  generalize hzz : nameN n = z at *
  generalize hoo : nameN other = o at *
  generalize (get ks other).1.name = n1 at *
  generalize (get ks other).1.lines = b1 at *
  generalize (get ks other).1.text = s1 at *
  generalize (get ks other).2 = k1 at *
  generalize (get L other).1.name = n2 at *
  generalize (get L other).1.lines = b2 at *
  generalize (get L other).1.text = s2 at *
  generalize (get L other).2 = k2 at *
  have o1 : (o != 0) = true := by simpa using ho.1
  have o2 : (o != z) = false := by simp [ho.2]
  have n0 : decide (n < 65) = false := decide_eq_false (by omega)
  have n1' : decide (90 < n) = false := decide_eq_false (by omega)
  clear hx hm hm' hc ht h60 hR h0 hs hn ho hzz hoo
  go_enter Try.func5, Try.ntmps5
  go_wp2_with (first
    | (go_at_call 8; (with_reducible refine Y.out.mono ?_); rintro e w1 ⟨A1, c1, rfl, m1, hW⟩)
    | (go_at_call 13; (with_reducible refine (GA.out _ _ _ m1).mono ?_); rintro e w2 ⟨rfl, hb⟩; replace hW := reg_below hW hb hW.size; replace m1 := m1.below hb; clear hb; replace hW := hW.alloc hW.size (.cells #[.int .i64 z, .bool b, .string s] 32); replace m1 := m1.below ((Below.refl _ w2).alloc (Nat.le_refl _) (.cells #[.int .i64 z, .bool b, .string s] 32)); have K1 := Blk.new w2 32 #[.int .i64 z, .bool b, .string s])
    | (go_at_call 13; (with_reducible refine (GB.out _ _ _ m1).mono ?_); rintro e w3 ⟨rfl, hb⟩; replace hW := reg_below hW hb hW.size; replace m1 := m1.below hb; replace K1 := K1.below hb K1.lt; clear hb; replace hW := hW.alloc hW.size (.cells #[.int .i64 34, .bool b, .string s] 32); replace m1 := m1.below ((Below.refl _ w3).alloc (Nat.le_refl _) (.cells #[.int .i64 34, .bool b, .string s] 32)); replace K1 := K1.alloc (.cells #[.int .i64 34, .bool b, .string s] 32); have K2 := Blk.new w3 32 #[.int .i64 34, .bool b, .string s])
    | (go_at_call 15; (with_reducible refine (RM.out _ _ _ m1).mono ?_); rintro e w4 ⟨rfl, hb⟩; replace hW := reg_below hW hb hW.size; replace m1 := m1.below hb; replace K1 := K1.below hb K1.lt; replace K2 := K2.below hb K2.lt; clear hb; obtain ⟨p0, p1, p2, _, _, _⟩ := row_three K1; obtain ⟨q0, q1, q2, _, _, _⟩ := row_three K2)
    | (go_at_call 17; (with_reducible refine (NO.out _).mono ?_); rintro e w9 ⟨rfl, rfl⟩)
    | (go_at_call 17; (with_reducible refine (NN.out _).mono ?_); rintro e w9 ⟨rfl, rfl⟩)
    | (go_at_call 13; (with_reducible refine (GC.out _ hW).mono ?_); rintro e w5 ⟨rfl, hb⟩; replace hW := reg_below hW hb hW.size; replace m1 := m1.below hb; clear hb p0 p1 p2 q0 q1 q2 K1 K2; replace hW := hW.alloc hW.size (.cells #[.int .i64 n1, .bool b1, .string s1] 32); replace m1 := m1.below ((Below.refl _ w5).alloc (Nat.le_refl _) (.cells #[.int .i64 n1, .bool b1, .string s1] 32)); have K3 := Blk.new w5 32 #[.int .i64 n1, .bool b1, .string s1])
    | (go_at_call 13; (with_reducible refine (GD.out _ _ _ m1).mono ?_); rintro e w6 ⟨rfl, hb⟩; replace hW := reg_below hW hb hW.size; replace K3 := K3.below hb K3.lt; clear hb; replace hW := hW.alloc hW.size (.cells #[.int .i64 n2, .bool b2, .string s2] 32); obtain ⟨p0, p1, p2, _, _, _⟩ := row_three K3; have l3 := K3.lt; obtain ⟨r0, r1, r2, _, _, _⟩ := row_three (K3.alloc (.cells #[.int .i64 n2, .bool b2, .string s2] 32)); obtain ⟨t0, t1, t2, _, _, _⟩ := row_three (Blk.new w6 32 #[.int .i64 n2, .bool b2, .string s2]))
    | (go_at_call 7; (with_reducible refine (LV.out _).mono ?_); rintro e w12 ⟨rfl, hb12⟩; replace hW := reg_below hW hb12 hW.size))
  go_ret
  exact ⟨rfl, hW⟩
set_option maxHeartbeats 2000000 in
set_option maxRecDepth 100000 in
theorem regHolds_add_o34 (n : Int) (t : ByteArray) (lines : Bool) (other : Int) {A : Option Addr} {c : Nat} {ks : List Rg} {w : World} (hx : Rgs w A ks) (hc : ks.length ≤ c) (hm : c ≤ maxLen) (ht : t.size ≤ 140737488355327) (h60 : ¬ 60 < ks.length) (hR : Right ks) (hv : Utf.valid t.data.toList = true) (h0 : nameN n ≠ 0) (hs : (added ks n t lines).2.size ≤ 4096) (hk : kept ks n t lines false = (into ks n t lines false, 0)) (hn : 65 ≤ n ∧ n ≤ 90) (ho : nameN other ≠ 0 ∧ nameN other ≠ nameN n ∧ nameN other = 34) :
    Calls Try.prog 5 #[.slice A ks.length c, .int .i64 n, .string t, .bool lines, .int .i64 other] w fun e w' => e = .returned (.bool true) ∧ Below w.heap.size w w' := by
  have g0 : decide ((60 : Int) < (ks.length : Int)) = false := decide_eq_false (by omega)
  have hm' : ks.length ≤ maxLen := Nat.le_trans hc hm
  have LV := Lib.hid reg_lives
  have Y1 := reg_Yank n t lines (c := c) hx (by omega) ht
  rw [hk] at Y1
  obtain ⟨f1, f2, f3, f4⟩ := holds_facts hR h0 hv hs
  have hll := into_length (t := t) (lines := lines) (taken := false) hR.1 h0
  generalize (added ks n t lines).1 = b at *
  generalize (added ks n t lines).2 = s at *
  clear f4 hk hv
  generalize into ks n t lines false = L at *
  have Y : Hid (Calls Try.prog 8 #[.slice A ks.length c, .int .i64 n, .string t, .bool lines] w fun e w' => ∃ A c, e = .returned (.tuple #[.slice A L.length c, .int .i64 0]) ∧ Rgs w' A L ∧ Below w.heap.size w w') := Y1.mono fun e w' h => by
    obtain ⟨A, c, h1, h2, _, h3⟩ := h
    exact ⟨A, c, h1, h2, h3⟩
  have GA : Hid (∀ u A c, Rgs u A L → Calls Try.prog 13 #[.slice A L.length c, .int .i64 n] u fun e u' => e = .returned (.tuple #[.agg #[.int .i64 (nameN n), .bool b, .string s], .bool true]) ∧ Below u.heap.size u u') := fun u A c hu => by
    have := reg_Get n (c := c) hu (by unfold maxLen; omega)
    rw [f2] at this; exact this
  have GB : Hid (∀ u A c, Rgs u A L → Calls Try.prog 13 #[.slice A L.length c, .int .i64 0] u fun e u' => e = .returned (.tuple #[.agg #[.int .i64 34, .bool b, .string s], .bool true]) ∧ Below u.heap.size u u') := fun u A c hu => by
    have := reg_Get 0 (c := c) hu (by unfold maxLen; omega)
    rw [f3] at this; exact this
  have RM : Hid (∀ u A c, Rgs u A L → Calls Try.prog 15 #[.slice A L.length c] u fun e u' => e = .returned (.bool true) ∧ Below u.heap.size u u') := fun u A c hu => by
    have := reg_Right (c := c) hu (by unfold maxLen; omega)
    rw [decide_eq_true f1] at this; exact this
  have NO := Lib.hid (reg_Name other)
  have NN := Lib.hid (reg_Name n)
  have GC : Hid (∀ u, Below w.heap.size w u → Calls Try.prog 13 #[.slice A ks.length c, .int .i64 other] u fun e u' => e = .returned (.tuple #[.agg #[.int .i64 (get ks other).1.name, .bool (get ks other).1.lines, .string (get ks other).1.text], .bool (get ks other).2]) ∧ Below u.heap.size u u') := fun u hu => reg_Get other (hx.below hu) hm'
  have GD : Hid (∀ u A c, Rgs u A L → Calls Try.prog 13 #[.slice A L.length c, .int .i64 other] u fun e u' => e = .returned (.tuple #[.agg #[.int .i64 (get L other).1.name, .bool (get L other).1.lines, .string (get L other).1.text], .bool (get L other).2]) ∧ Below u.heap.size u u') := fun u A c hu => reg_Get other hu (by unfold maxLen; omega)
  clear f1 f2 f3 hll Y1
  generalize hzz : nameN n = z at *
  generalize hoo : nameN other = o at *
  generalize (get ks other).1.name = n1 at *
  generalize (get ks other).1.lines = b1 at *
  generalize (get ks other).1.text = s1 at *
  generalize (get ks other).2 = k1 at *
  generalize (get L other).1.name = n2 at *
  generalize (get L other).1.lines = b2 at *
  generalize (get L other).1.text = s2 at *
  generalize (get L other).2 = k2 at *
  have o1 : (o != 0) = true := by simpa using ho.1
  have o2 : (o != z) = true := by simpa using ho.2.1
  have o3 : (o != 34) = false := by simp [ho.2.2]
  have n0 : decide (n < 65) = false := decide_eq_false (by omega)
  have n1' : decide (90 < n) = false := decide_eq_false (by omega)
  clear hx hm hm' hc ht h60 hR h0 hs hn ho hzz hoo
  go_enter Try.func5, Try.ntmps5
  go_wp2_with (first
    | (go_at_call 8; (with_reducible refine Y.out.mono ?_); rintro e w1 ⟨A1, c1, rfl, m1, hW⟩)
    | (go_at_call 13; (with_reducible refine (GA.out _ _ _ m1).mono ?_); rintro e w2 ⟨rfl, hb⟩; replace hW := reg_below hW hb hW.size; replace m1 := m1.below hb; clear hb; replace hW := hW.alloc hW.size (.cells #[.int .i64 z, .bool b, .string s] 32); replace m1 := m1.below ((Below.refl _ w2).alloc (Nat.le_refl _) (.cells #[.int .i64 z, .bool b, .string s] 32)); have K1 := Blk.new w2 32 #[.int .i64 z, .bool b, .string s])
    | (go_at_call 13; (with_reducible refine (GB.out _ _ _ m1).mono ?_); rintro e w3 ⟨rfl, hb⟩; replace hW := reg_below hW hb hW.size; replace m1 := m1.below hb; replace K1 := K1.below hb K1.lt; clear hb; replace hW := hW.alloc hW.size (.cells #[.int .i64 34, .bool b, .string s] 32); replace m1 := m1.below ((Below.refl _ w3).alloc (Nat.le_refl _) (.cells #[.int .i64 34, .bool b, .string s] 32)); replace K1 := K1.alloc (.cells #[.int .i64 34, .bool b, .string s] 32); have K2 := Blk.new w3 32 #[.int .i64 34, .bool b, .string s])
    | (go_at_call 15; (with_reducible refine (RM.out _ _ _ m1).mono ?_); rintro e w4 ⟨rfl, hb⟩; replace hW := reg_below hW hb hW.size; replace m1 := m1.below hb; replace K1 := K1.below hb K1.lt; replace K2 := K2.below hb K2.lt; clear hb; obtain ⟨p0, p1, p2, _, _, _⟩ := row_three K1; obtain ⟨q0, q1, q2, _, _, _⟩ := row_three K2)
    | (go_at_call 17; (with_reducible refine (NO.out _).mono ?_); rintro e w9 ⟨rfl, rfl⟩)
    | (go_at_call 17; (with_reducible refine (NN.out _).mono ?_); rintro e w9 ⟨rfl, rfl⟩)
    | (go_at_call 13; (with_reducible refine (GC.out _ hW).mono ?_); rintro e w5 ⟨rfl, hb⟩; replace hW := reg_below hW hb hW.size; replace m1 := m1.below hb; clear hb p0 p1 p2 q0 q1 q2 K1 K2; replace hW := hW.alloc hW.size (.cells #[.int .i64 n1, .bool b1, .string s1] 32); replace m1 := m1.below ((Below.refl _ w5).alloc (Nat.le_refl _) (.cells #[.int .i64 n1, .bool b1, .string s1] 32)); have K3 := Blk.new w5 32 #[.int .i64 n1, .bool b1, .string s1])
    | (go_at_call 13; (with_reducible refine (GD.out _ _ _ m1).mono ?_); rintro e w6 ⟨rfl, hb⟩; replace hW := reg_below hW hb hW.size; replace K3 := K3.below hb K3.lt; clear hb; replace hW := hW.alloc hW.size (.cells #[.int .i64 n2, .bool b2, .string s2] 32); obtain ⟨p0, p1, p2, _, _, _⟩ := row_three K3; have l3 := K3.lt; obtain ⟨r0, r1, r2, _, _, _⟩ := row_three (K3.alloc (.cells #[.int .i64 n2, .bool b2, .string s2] 32)); obtain ⟨t0, t1, t2, _, _, _⟩ := row_three (Blk.new w6 32 #[.int .i64 n2, .bool b2, .string s2]))
    | (go_at_call 7; (with_reducible refine (LV.out _).mono ?_); rintro e w12 ⟨rfl, hb12⟩; replace hW := reg_below hW hb12 hW.size))
  go_ret
  exact ⟨rfl, hW⟩
set_option maxHeartbeats 2000000 in
set_option maxRecDepth 100000 in
theorem regHolds_add_o48 (n : Int) (t : ByteArray) (lines : Bool) (other : Int) {A : Option Addr} {c : Nat} {ks : List Rg} {w : World} (hx : Rgs w A ks) (hc : ks.length ≤ c) (hm : c ≤ maxLen) (ht : t.size ≤ 140737488355327) (h60 : ¬ 60 < ks.length) (hR : Right ks) (hv : Utf.valid t.data.toList = true) (h0 : nameN n ≠ 0) (hs : (added ks n t lines).2.size ≤ 4096) (hk : kept ks n t lines false = (into ks n t lines false, 0)) (hn : 65 ≤ n ∧ n ≤ 90) (ho : nameN other ≠ 0 ∧ nameN other ≠ nameN n ∧ nameN other ≠ 34 ∧ nameN other = 48) :
    Calls Try.prog 5 #[.slice A ks.length c, .int .i64 n, .string t, .bool lines, .int .i64 other] w fun e w' => e = .returned (.bool true) ∧ Below w.heap.size w w' := by
  have g0 : decide ((60 : Int) < (ks.length : Int)) = false := decide_eq_false (by omega)
  have hm' : ks.length ≤ maxLen := Nat.le_trans hc hm
  have LV := Lib.hid reg_lives
  have Y1 := reg_Yank n t lines (c := c) hx (by omega) ht
  rw [hk] at Y1
  obtain ⟨f1, f2, f3, f4⟩ := holds_facts hR h0 hv hs
  have hll := into_length (t := t) (lines := lines) (taken := false) hR.1 h0
  generalize (added ks n t lines).1 = b at *
  generalize (added ks n t lines).2 = s at *
  clear f4 hk hv
  generalize into ks n t lines false = L at *
  have Y : Hid (Calls Try.prog 8 #[.slice A ks.length c, .int .i64 n, .string t, .bool lines] w fun e w' => ∃ A c, e = .returned (.tuple #[.slice A L.length c, .int .i64 0]) ∧ Rgs w' A L ∧ Below w.heap.size w w') := Y1.mono fun e w' h => by
    obtain ⟨A, c, h1, h2, _, h3⟩ := h
    exact ⟨A, c, h1, h2, h3⟩
  have GA : Hid (∀ u A c, Rgs u A L → Calls Try.prog 13 #[.slice A L.length c, .int .i64 n] u fun e u' => e = .returned (.tuple #[.agg #[.int .i64 (nameN n), .bool b, .string s], .bool true]) ∧ Below u.heap.size u u') := fun u A c hu => by
    have := reg_Get n (c := c) hu (by unfold maxLen; omega)
    rw [f2] at this; exact this
  have GB : Hid (∀ u A c, Rgs u A L → Calls Try.prog 13 #[.slice A L.length c, .int .i64 0] u fun e u' => e = .returned (.tuple #[.agg #[.int .i64 34, .bool b, .string s], .bool true]) ∧ Below u.heap.size u u') := fun u A c hu => by
    have := reg_Get 0 (c := c) hu (by unfold maxLen; omega)
    rw [f3] at this; exact this
  have RM : Hid (∀ u A c, Rgs u A L → Calls Try.prog 15 #[.slice A L.length c] u fun e u' => e = .returned (.bool true) ∧ Below u.heap.size u u') := fun u A c hu => by
    have := reg_Right (c := c) hu (by unfold maxLen; omega)
    rw [decide_eq_true f1] at this; exact this
  have NO := Lib.hid (reg_Name other)
  have NN := Lib.hid (reg_Name n)
  have GC : Hid (∀ u, Below w.heap.size w u → Calls Try.prog 13 #[.slice A ks.length c, .int .i64 other] u fun e u' => e = .returned (.tuple #[.agg #[.int .i64 (get ks other).1.name, .bool (get ks other).1.lines, .string (get ks other).1.text], .bool (get ks other).2]) ∧ Below u.heap.size u u') := fun u hu => reg_Get other (hx.below hu) hm'
  have GD : Hid (∀ u A c, Rgs u A L → Calls Try.prog 13 #[.slice A L.length c, .int .i64 other] u fun e u' => e = .returned (.tuple #[.agg #[.int .i64 (get L other).1.name, .bool (get L other).1.lines, .string (get L other).1.text], .bool (get L other).2]) ∧ Below u.heap.size u u') := fun u A c hu => reg_Get other hu (by unfold maxLen; omega)
  clear f1 f2 f3 hll Y1
  generalize hzz : nameN n = z at *
  generalize hoo : nameN other = o at *
  generalize (get ks other).1.name = n1 at *
  generalize (get ks other).1.lines = b1 at *
  generalize (get ks other).1.text = s1 at *
  generalize (get ks other).2 = k1 at *
  generalize (get L other).1.name = n2 at *
  generalize (get L other).1.lines = b2 at *
  generalize (get L other).1.text = s2 at *
  generalize (get L other).2 = k2 at *
  have o1 : (o != 0) = true := by simpa using ho.1
  have o2 : (o != z) = true := by simpa using ho.2.1
  have o3 : (o != 34) = true := by simpa using ho.2.2.1
  have o4 : (o != 48) = false := by simp [ho.2.2.2]
  have n0 : decide (n < 65) = false := decide_eq_false (by omega)
  have n1' : decide (90 < n) = false := decide_eq_false (by omega)
  clear hx hm hm' hc ht h60 hR h0 hs hn ho hzz hoo
  go_enter Try.func5, Try.ntmps5
  go_wp2_with (first
    | (go_at_call 8; (with_reducible refine Y.out.mono ?_); rintro e w1 ⟨A1, c1, rfl, m1, hW⟩)
    | (go_at_call 13; (with_reducible refine (GA.out _ _ _ m1).mono ?_); rintro e w2 ⟨rfl, hb⟩; replace hW := reg_below hW hb hW.size; replace m1 := m1.below hb; clear hb; replace hW := hW.alloc hW.size (.cells #[.int .i64 z, .bool b, .string s] 32); replace m1 := m1.below ((Below.refl _ w2).alloc (Nat.le_refl _) (.cells #[.int .i64 z, .bool b, .string s] 32)); have K1 := Blk.new w2 32 #[.int .i64 z, .bool b, .string s])
    | (go_at_call 13; (with_reducible refine (GB.out _ _ _ m1).mono ?_); rintro e w3 ⟨rfl, hb⟩; replace hW := reg_below hW hb hW.size; replace m1 := m1.below hb; replace K1 := K1.below hb K1.lt; clear hb; replace hW := hW.alloc hW.size (.cells #[.int .i64 34, .bool b, .string s] 32); replace m1 := m1.below ((Below.refl _ w3).alloc (Nat.le_refl _) (.cells #[.int .i64 34, .bool b, .string s] 32)); replace K1 := K1.alloc (.cells #[.int .i64 34, .bool b, .string s] 32); have K2 := Blk.new w3 32 #[.int .i64 34, .bool b, .string s])
    | (go_at_call 15; (with_reducible refine (RM.out _ _ _ m1).mono ?_); rintro e w4 ⟨rfl, hb⟩; replace hW := reg_below hW hb hW.size; replace m1 := m1.below hb; replace K1 := K1.below hb K1.lt; replace K2 := K2.below hb K2.lt; clear hb; obtain ⟨p0, p1, p2, _, _, _⟩ := row_three K1; obtain ⟨q0, q1, q2, _, _, _⟩ := row_three K2)
    | (go_at_call 17; (with_reducible refine (NO.out _).mono ?_); rintro e w9 ⟨rfl, rfl⟩)
    | (go_at_call 17; (with_reducible refine (NN.out _).mono ?_); rintro e w9 ⟨rfl, rfl⟩)
    | (go_at_call 13; (with_reducible refine (GC.out _ hW).mono ?_); rintro e w5 ⟨rfl, hb⟩; replace hW := reg_below hW hb hW.size; replace m1 := m1.below hb; clear hb p0 p1 p2 q0 q1 q2 K1 K2; replace hW := hW.alloc hW.size (.cells #[.int .i64 n1, .bool b1, .string s1] 32); replace m1 := m1.below ((Below.refl _ w5).alloc (Nat.le_refl _) (.cells #[.int .i64 n1, .bool b1, .string s1] 32)); have K3 := Blk.new w5 32 #[.int .i64 n1, .bool b1, .string s1])
    | (go_at_call 13; (with_reducible refine (GD.out _ _ _ m1).mono ?_); rintro e w6 ⟨rfl, hb⟩; replace hW := reg_below hW hb hW.size; replace K3 := K3.below hb K3.lt; clear hb; replace hW := hW.alloc hW.size (.cells #[.int .i64 n2, .bool b2, .string s2] 32); obtain ⟨p0, p1, p2, _, _, _⟩ := row_three K3; have l3 := K3.lt; obtain ⟨r0, r1, r2, _, _, _⟩ := row_three (K3.alloc (.cells #[.int .i64 n2, .bool b2, .string s2] 32)); obtain ⟨t0, t1, t2, _, _, _⟩ := row_three (Blk.new w6 32 #[.int .i64 n2, .bool b2, .string s2]))
    | (go_at_call 7; (with_reducible refine (LV.out _).mono ?_); rintro e w12 ⟨rfl, hb12⟩; replace hW := reg_below hW hb12 hW.size))
  go_ret
  exact ⟨rfl, hW⟩
set_option maxHeartbeats 2000000 in
set_option maxRecDepth 100000 in
theorem regHolds_add_all (n : Int) (t : ByteArray) (lines : Bool) (other : Int) {A : Option Addr} {c : Nat} {ks : List Rg} {w : World} (hx : Rgs w A ks) (hc : ks.length ≤ c) (hm : c ≤ maxLen) (ht : t.size ≤ 140737488355327) (h60 : ¬ 60 < ks.length) (hR : Right ks) (hv : Utf.valid t.data.toList = true) (h0 : nameN n ≠ 0) (hs : (added ks n t lines).2.size ≤ 4096) (hk : kept ks n t lines false = (into ks n t lines false, 0)) (hn : 65 ≤ n ∧ n ≤ 90) (ho : nameN other ≠ 0 ∧ nameN other ≠ nameN n ∧ nameN other ≠ 34 ∧ nameN other ≠ 48) :
    Calls Try.prog 5 #[.slice A ks.length c, .int .i64 n, .string t, .bool lines, .int .i64 other] w fun e w' => e = .returned (.bool true) ∧ Below w.heap.size w w' := by
  have g0 : decide ((60 : Int) < (ks.length : Int)) = false := decide_eq_false (by omega)
  have hm' : ks.length ≤ maxLen := Nat.le_trans hc hm
  have LV := Lib.hid reg_lives
  have Y1 := reg_Yank n t lines (c := c) hx (by omega) ht
  rw [hk] at Y1
  obtain ⟨f1, f2, f3, f4⟩ := holds_facts hR h0 hv hs
  have hll := into_length (t := t) (lines := lines) (taken := false) hR.1 h0
  generalize (added ks n t lines).1 = b at *
  generalize (added ks n t lines).2 = s at *
  have hsame := f4 other ho.1 ho.2.1 ho.2.2.1 ho.2.2.2
  clear f4 hk hv
  generalize into ks n t lines false = L at *
  have Y : Hid (Calls Try.prog 8 #[.slice A ks.length c, .int .i64 n, .string t, .bool lines] w fun e w' => ∃ A c, e = .returned (.tuple #[.slice A L.length c, .int .i64 0]) ∧ Rgs w' A L ∧ Below w.heap.size w w') := Y1.mono fun e w' h => by
    obtain ⟨A, c, h1, h2, _, h3⟩ := h
    exact ⟨A, c, h1, h2, h3⟩
  have GA : Hid (∀ u A c, Rgs u A L → Calls Try.prog 13 #[.slice A L.length c, .int .i64 n] u fun e u' => e = .returned (.tuple #[.agg #[.int .i64 (nameN n), .bool b, .string s], .bool true]) ∧ Below u.heap.size u u') := fun u A c hu => by
    have := reg_Get n (c := c) hu (by unfold maxLen; omega)
    rw [f2] at this; exact this
  have GB : Hid (∀ u A c, Rgs u A L → Calls Try.prog 13 #[.slice A L.length c, .int .i64 0] u fun e u' => e = .returned (.tuple #[.agg #[.int .i64 34, .bool b, .string s], .bool true]) ∧ Below u.heap.size u u') := fun u A c hu => by
    have := reg_Get 0 (c := c) hu (by unfold maxLen; omega)
    rw [f3] at this; exact this
  have RM : Hid (∀ u A c, Rgs u A L → Calls Try.prog 15 #[.slice A L.length c] u fun e u' => e = .returned (.bool true) ∧ Below u.heap.size u u') := fun u A c hu => by
    have := reg_Right (c := c) hu (by unfold maxLen; omega)
    rw [decide_eq_true f1] at this; exact this
  have NO := Lib.hid (reg_Name other)
  have NN := Lib.hid (reg_Name n)
  have GC : Hid (∀ u, Below w.heap.size w u → Calls Try.prog 13 #[.slice A ks.length c, .int .i64 other] u fun e u' => e = .returned (.tuple #[.agg #[.int .i64 (get ks other).1.name, .bool (get ks other).1.lines, .string (get ks other).1.text], .bool (get ks other).2]) ∧ Below u.heap.size u u') := fun u hu => reg_Get other (hx.below hu) hm'
  have GD : Hid (∀ u A c, Rgs u A L → Calls Try.prog 13 #[.slice A L.length c, .int .i64 other] u fun e u' => e = .returned (.tuple #[.agg #[.int .i64 (get L other).1.name, .bool (get L other).1.lines, .string (get L other).1.text], .bool (get L other).2]) ∧ Below u.heap.size u u') := fun u A c hu => reg_Get other hu (by unfold maxLen; omega)
  clear f1 f2 f3 hll Y1
  rw [hsame] at GD
  clear hsame
  generalize hzz : nameN n = z at *
  generalize hoo : nameN other = o at *
  generalize (get ks other).1.name = n1 at *
  generalize (get ks other).1.lines = b1 at *
  generalize (get ks other).1.text = s1 at *
  generalize (get ks other).2 = k1 at *
  have o1 : (o != 0) = true := by simpa using ho.1
  have o2 : (o != z) = true := by simpa using ho.2.1
  have o3 : (o != 34) = true := by simpa using ho.2.2.1
  have o4 : (o != 48) = true := by simpa using ho.2.2.2
  have n0 : decide (n < 65) = false := decide_eq_false (by omega)
  have n1' : decide (90 < n) = false := decide_eq_false (by omega)
  have EQ := neq_reg_same
  clear hx hm hm' hc ht h60 hR h0 hs hn ho hzz hoo
  go_enter Try.func5, Try.ntmps5
  go_wp2_with (first
    | (go_at_call 8; (with_reducible refine Y.out.mono ?_); rintro e w1 ⟨A1, c1, rfl, m1, hW⟩)
    | (go_at_call 13; (with_reducible refine (GA.out _ _ _ m1).mono ?_); rintro e w2 ⟨rfl, hb⟩; replace hW := reg_below hW hb hW.size; replace m1 := m1.below hb; clear hb; replace hW := hW.alloc hW.size (.cells #[.int .i64 z, .bool b, .string s] 32); replace m1 := m1.below ((Below.refl _ w2).alloc (Nat.le_refl _) (.cells #[.int .i64 z, .bool b, .string s] 32)); have K1 := Blk.new w2 32 #[.int .i64 z, .bool b, .string s])
    | (go_at_call 13; (with_reducible refine (GB.out _ _ _ m1).mono ?_); rintro e w3 ⟨rfl, hb⟩; replace hW := reg_below hW hb hW.size; replace m1 := m1.below hb; replace K1 := K1.below hb K1.lt; clear hb; replace hW := hW.alloc hW.size (.cells #[.int .i64 34, .bool b, .string s] 32); replace m1 := m1.below ((Below.refl _ w3).alloc (Nat.le_refl _) (.cells #[.int .i64 34, .bool b, .string s] 32)); replace K1 := K1.alloc (.cells #[.int .i64 34, .bool b, .string s] 32); have K2 := Blk.new w3 32 #[.int .i64 34, .bool b, .string s])
    | (go_at_call 15; (with_reducible refine (RM.out _ _ _ m1).mono ?_); rintro e w4 ⟨rfl, hb⟩; replace hW := reg_below hW hb hW.size; replace m1 := m1.below hb; replace K1 := K1.below hb K1.lt; replace K2 := K2.below hb K2.lt; clear hb; obtain ⟨p0, p1, p2, _, _, _⟩ := row_three K1; obtain ⟨q0, q1, q2, _, _, _⟩ := row_three K2)
    | (go_at_call 17; (with_reducible refine (NO.out _).mono ?_); rintro e w9 ⟨rfl, rfl⟩)
    | (go_at_call 17; (with_reducible refine (NN.out _).mono ?_); rintro e w9 ⟨rfl, rfl⟩)
    | (go_at_call 13; (with_reducible refine (GC.out _ hW).mono ?_); rintro e w5 ⟨rfl, hb⟩; replace hW := reg_below hW hb hW.size; replace m1 := m1.below hb; clear hb p0 p1 p2 q0 q1 q2 K1 K2; replace hW := hW.alloc hW.size (.cells #[.int .i64 n1, .bool b1, .string s1] 32); replace m1 := m1.below ((Below.refl _ w5).alloc (Nat.le_refl _) (.cells #[.int .i64 n1, .bool b1, .string s1] 32)); have K3 := Blk.new w5 32 #[.int .i64 n1, .bool b1, .string s1])
    | (go_at_call 13; (with_reducible refine (GD.out _ _ _ m1).mono ?_); rintro e w6 ⟨rfl, hb⟩; replace hW := reg_below hW hb hW.size; replace K3 := K3.below hb K3.lt; clear hb; replace hW := hW.alloc hW.size (.cells #[.int .i64 n1, .bool b1, .string s1] 32); obtain ⟨p0, p1, p2, _, _, _⟩ := row_three K3; have l3 := K3.lt; obtain ⟨r0, r1, r2, _, _, _⟩ := row_three (K3.alloc (.cells #[.int .i64 n1, .bool b1, .string s1] 32)); obtain ⟨t0, t1, t2, _, _, _⟩ := row_three (Blk.new w6 32 #[.int .i64 n1, .bool b1, .string s1]))
    | (go_at_call 7; (with_reducible refine (LV.out _).mono ?_); rintro e w12 ⟨rfl, hb12⟩; replace hW := reg_below hW hb12 hW.size))
  go_ret
  exact ⟨rfl, hW⟩
set_option maxHeartbeats 1000000 in
set_option maxRecDepth 100000 in
theorem regHolds_walk (n : Int) (t : ByteArray) (lines : Bool) (other : Int) {A : Option Addr} {c : Nat} {ks : List Rg} {w : World} (hx : Rgs w A ks) (hc : ks.length ≤ c) (hm : c ≤ maxLen) (ht : t.size ≤ 140737488351232) :
    Calls Try.prog 5 #[.slice A ks.length c, .int .i64 n, .string t, .bool lines, .int .i64 other] w fun e w' => e = .returned (.bool true) ∧ Below w.heap.size w w' := by
  by_cases h60 : 60 < ks.length
  · have g0 : decide ((60 : Int) < (ks.length : Int)) = true := decide_eq_true (by omega)
    have LV := Lib.hid reg_lives
    clear hx hc hm ht
    go_enter Try.func5, Try.ntmps5
    go_wp2_with (go_at_call 7; (with_reducible refine (LV.out _).mono ?_); rintro e w12 ⟨rfl, hb12⟩)
    go_ret
    exact ⟨rfl, hb12⟩
  rcases kept_way ks n t lines false with h | ⟨hR, hv, h0, hs, hk⟩
  · exact regHolds_err n t lines other hx hc hm (by omega) h60 h
  · by_cases n65 : n < 65
    · by_cases o0 : nameN other = 0
      · exact regHolds_lo_o0 n t lines other hx hc hm (by omega) h60 hR hv h0 hs hk n65 o0
      · by_cases oz : nameN other = nameN n
        · exact regHolds_lo_oz n t lines other hx hc hm (by omega) h60 hR hv h0 hs hk n65 ⟨o0, oz⟩
        · by_cases o34 : nameN other = 34
          · exact regHolds_lo_o34 n t lines other hx hc hm (by omega) h60 hR hv h0 hs hk n65 ⟨o0, oz, o34⟩
          · by_cases o48 : nameN other = 48
            · exact regHolds_lo_o48 n t lines other hx hc hm (by omega) h60 hR hv h0 hs hk n65 ⟨o0, oz, o34, o48⟩
            · exact regHolds_lo_all n t lines other hx hc hm (by omega) h60 hR hv h0 hs hk n65 ⟨o0, oz, o34, o48⟩
    · by_cases n90 : 90 < n
      · by_cases o0 : nameN other = 0
        · exact regHolds_hi_o0 n t lines other hx hc hm (by omega) h60 hR hv h0 hs hk n90 o0
        · by_cases oz : nameN other = nameN n
          · exact regHolds_hi_oz n t lines other hx hc hm (by omega) h60 hR hv h0 hs hk n90 ⟨o0, oz⟩
          · by_cases o34 : nameN other = 34
            · exact regHolds_hi_o34 n t lines other hx hc hm (by omega) h60 hR hv h0 hs hk n90 ⟨o0, oz, o34⟩
            · by_cases o48 : nameN other = 48
              · exact regHolds_hi_o48 n t lines other hx hc hm (by omega) h60 hR hv h0 hs hk n90 ⟨o0, oz, o34, o48⟩
              · exact regHolds_hi_all n t lines other hx hc hm (by omega) h60 hR hv h0 hs hk n90 ⟨o0, oz, o34, o48⟩
      · have hn : 65 ≤ n ∧ n ≤ 90 := by omega
        by_cases o0 : nameN other = 0
        · exact regHolds_add_o0 n t lines other hx hc hm (by omega) h60 hR hv h0 hs hk hn o0
        · by_cases oz : nameN other = nameN n
          · exact regHolds_add_oz n t lines other hx hc hm (by omega) h60 hR hv h0 hs hk hn ⟨o0, oz⟩
          · by_cases o34 : nameN other = 34
            · exact regHolds_add_o34 n t lines other hx hc hm (by omega) h60 hR hv h0 hs hk hn ⟨o0, oz, o34⟩
            · by_cases o48 : nameN other = 48
              · exact regHolds_add_o48 n t lines other hx hc hm (by omega) h60 hR hv h0 hs hk hn ⟨o0, oz, o34, o48⟩
              · exact regHolds_add_all n t lines other hx hc hm (by omega) h60 hR hv h0 hs hk hn ⟨o0, oz, o34, o48⟩
section
open Go.ChangeShapes Go.WideShapes Go.ChangeAt
open Go.ChangeMaps (open_string)
set_option maxRecDepth 100000 in
theorem regHolds_lifted (os : Os) (started : os.Started) (H : Type) (enc : TypeId × Value → H) :
    ReturnsInHanded {} Try.checked os 5 .any (Rows.regHoldsSpec.pre6 enc Try.prog Try.f5 Rows.regHoldsRow.domain false) (Rows.regHoldsSpec.post enc Try.prog Try.f5 false true false false) := by
  refine returnsInHanded_of_change_sized (C := Try.checked) own_knob started (by kernel_rfl) Try.func5
    (ChangeSpec.witness6 (enc := enc) (C := Try.checked) false ⟨#[], #[.slice none 0 0, .int .i64 0, .string .empty, .bool false, .int .i64 0], []⟩ 8 (by kernel_rfl) (by kernel_rfl) (by kernel_rfl) (by kernel_rfl)) ?_
  intro W base args ds gs before hval0 hW _ hsz0 _
  have hsz : (DataW.weightsEach Try.prog (Try.f5.params.toList ++ Rows.regHoldsSpec.plain.varTypes Try.prog) (ds ++ gs)).all (· ≤ reachBytes) = true := hsz0
  clear hsz0
  have hval : ∀ (j : Nat) t v, Try.f5.params[j]? = some t → args[j]? = some v → Value.okWide Try.prog W .any base t v := hval0
  have hW' := hW
  obtain ⟨p, q, hA0, hV, rfl, hfz, hnd⟩ := hW
  have hA : DataW.TrodAll enc Try.prog W 0 (fun _ => true) true Try.f5.params.toList args.toList ds p := hA0
  rw [Try.params5] at hA hval hsz
  obtain ⟨v0, vs0, d0, ds0, p0, q0, hargs, rfl, rfl, h0, r0⟩ := trodAll_cons hA
  obtain ⟨v1, vs1, d1, ds1, p1, q1, rfl, rfl, rfl, h1, r1⟩ := trodAll_cons r0
  obtain ⟨v2, vs2, d2, ds2, p2, q2, rfl, rfl, rfl, h2, r2⟩ := trodAll_cons r1
  obtain ⟨v3, vs3, d3, ds3, p3, q3, rfl, rfl, rfl, h3, r3⟩ := trodAll_cons r2
  obtain ⟨v4, vs4, d4, ds4, p4, q4, rfl, rfl, rfl, h4, r4⟩ := trodAll_cons r3
  obtain ⟨rfl, rfl, rfl⟩ := trodAll_nil r4
  obtain rfl : args = #[v0, v1, v2, v3, v4] := by cases args; simp_all
  obtain ⟨rfl, rfl⟩ := trodVars_none hV
  have hlt0 : ∀ x ∈ p0, x.block < W.heap.size := fun x hx => by simpa using hW'.lt x (by simp [hx])
  obtain ⟨A0, c0, xs0, rfl, hx0, hc0, hm0⟩ := open_rgs (hval 0 22 v0 rfl rfl) h0 hlt0
  obtain ⟨n1, rfl, rfl, rfl, wn1⟩ := open_int Try.underlying3 (hval 1 3 v1 rfl rfl) h1
  obtain ⟨s2, rfl, rfl, rfl, hmax2⟩ := open_string Try.underlying9 (hval 2 9 v2 rfl rfl) h2
  have hs2 : s2.size ≤ 140737488351232 := by rw [← data_len]; exact sized_string hsz (j := 2) (t := 9) rfl rfl
  obtain ⟨b3, rfl, rfl, rfl⟩ := open_bool Try.underlying4 (hval 3 4 v3 rfl rfl) h3
  obtain ⟨n4, rfl, rfl, rfl, wn4⟩ := open_int Try.underlying3 (hval 4 3 v4 rfl rfl) h4
  refine (regHolds_walk n1 s2 b3 n4 hx0 hc0 hm0 hs2).mono fun e W' ⟨he, hb⟩ => ?_
  subst he
  exact ⟨_, rfl, law_post rfl rfl (by rw [Try.params5]; decide +kernel) ⟨rfl, rfl, rfl⟩ hW' hb⟩
theorem regHolds_holds : Rows.RegHoldsSaid :=
  OpenClaim.holds_of_wide 5 Try.f5 rfl rfl rfl rfl rfl rfl rfl ⟨rfl, rfl, rfl, rfl, rfl⟩ rfl rfl rfl rfl rfl (by kernel_rfl) Try.func5 (by kernel_rfl)
    (of_decide_eq_true (by kernel_rfl)) (by unfold Func.isWrapper; first | (rw [if_pos (by decide +kernel)]; kernel_rfl) | (rw [if_neg (by decide +kernel)]; exact ⟨rfl, rfl⟩))
    (fun os started H enc _ => regHolds_lifted os started H enc)
end
end Go.Proofs.Ytopplkfbnpamdaa
