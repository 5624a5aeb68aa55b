/-
  Registers as the document tells them: whether they may be, one of them, one put into the row, the row as a list.
-/
import Derived.Test.YtopplkfbnpamdaaRegRow
import Derived.Test.YtopplkfbnpamdaaAppendVoid
import Derived.Test.YtopplkfbnpamdaaRet3
namespace Go.Proofs.Ytopplkfbnpamdaa
open Go.RowKit
open Reg
set_option maxHeartbeats 1000000 in
set_option maxRecDepth 100000 in
theorem ref21_Right {A : Option Addr} {c : Nat} {ks : List Rg} {w : World} (hx : Rgs w A ks) (hm : ks.length ≤ maxLen) :
    Calls Try.prog 16 #[.slice A ks.length c] w fun e w' => e = .returned (.bool (decide (Right ks))) ∧ Below w.heap.size w w' := by
  have C := ref21_row (c := c) hx hm
  by_cases h : Right ks
  · rw [decide_eq_true h]
    have C2 : Hid (Calls Try.prog 25 #[.slice A ks.length c] w fun e w' => ∃ g, e = .returned (.slice (some ⟨g, 0, none⟩) 38 38) ∧ Below w.heap.size w w') := C.mono fun e w' ⟨hb, hc⟩ => by
      rcases hc with ⟨_, g, h1, _, _⟩ | ⟨h1, _⟩
      · exact ⟨g, h1, hb⟩
      · exact absurd h h1
    clear C hx hm h
    go_enter Try.func16, Try.ntmps16
    go_wp2_with (go_at_call 25; (with_reducible refine C2.out.mono ?_); rintro e w1 ⟨g, rfl, hb⟩)
    go_ret
    exact ⟨rfl, hb⟩
  · rw [decide_eq_false h]
    have C2 : Hid (Calls Try.prog 25 #[.slice A ks.length c] w fun e w' => e = .returned (.slice none 0 0) ∧ Below w.heap.size w w') := C.mono fun e w' ⟨hb, hc⟩ => by
      rcases hc with ⟨h1, _⟩ | ⟨_, h1⟩
      · exact absurd h1 h
      · exact ⟨h1, hb⟩
    clear C hx hm h
    go_enter Try.func16, Try.ntmps16
    go_wp2_with (go_at_call 25; (with_reducible refine C2.out.mono ?_); rintro e w1 ⟨rfl, hb⟩)
    go_ret
    exact ⟨rfl, hb⟩
/-- The row of registers that may be. -/
theorem ref21_row_ok {A : Option Addr} {c : Nat} {ks : List Rg} {w : World} (hx : Rgs w A ks) (hm : ks.length ≤ maxLen) (h : Right ks) {u : World} (hu : Below w.heap.size w u) :
    Calls Try.prog 25 #[.slice A ks.length c] u fun e w' => ∃ g, e = .returned (.slice (some ⟨g, 0, none⟩) 38 38) ∧ RowIs w' g (row ks) ∧ u.heap.size ≤ g ∧ Below u.heap.size u w' :=
  (ref21_row (c := c) (hx.below hu) hm).mono fun e w' ⟨hb, hc⟩ => by
    rcases hc with ⟨_, g, h1, h2, h3⟩ | ⟨h1, _⟩
    · exact ⟨g, h1, h2, h3, hb⟩
    · exact absurd h h1
theorem ref21_row_not {A : Option Addr} {c : Nat} {ks : List Rg} {w : World} (hx : Rgs w A ks) (hm : ks.length ≤ maxLen) (h : ¬ Right ks) {u : World} (hu : Below w.heap.size w u) :
    Calls Try.prog 25 #[.slice A ks.length c] u fun e w' => e = .returned (.slice none 0 0) ∧ Below u.heap.size u w' :=
  (ref21_row (c := c) (hx.below hu) hm).mono fun e w' ⟨hb, hc⟩ => by
    rcases hc with ⟨h1, _⟩ | ⟨_, h1⟩
    · exact absurd h1 h
    · exact ⟨h1, hb⟩
theorem ref_below {n : Nat} {w u v : World} (h : Below n w u) (hb : Below u.heap.size u v) (hs : n ≤ u.heap.size) : Below n w v := h.trans (hb.mono hs)
set_option maxHeartbeats 1000000 in
set_option maxRecDepth 100000 in
theorem ref21_Get (n : Int) {A : Option Addr} {c : Nat} {ks : List Rg} {w : World} (hx : Rgs w A ks) (hm : ks.length ≤ maxLen) :
    Calls Try.prog 14 #[.slice A ks.length c, .int .i64 n] w fun e w' => e = .returned (.tuple #[.agg (get ks n).1.vals, .bool (get ks n).2]) ∧ Below w.heap.size w w' := by
  have hB := Blk.new w 32 #[.int .i64 0, .bool false, .string { data := #[] }]
  have hW : Below w.heap.size w (w.alloc (.cells #[.int .i64 0, .bool false, .string { data := #[] }] 32)) := (Below.refl _ w).alloc (Nat.le_refl _) _
  have N := Lib.hid (ref21_Name n)
  by_cases hR : Right ks
  · have RC := Lib.hid (ref21_row_ok (c := c) hx hm hR hW)
    obtain ⟨z, hz⟩ : ∃ z, nameN n = z := ⟨_, rfl⟩
    rw [hz] at N
    by_cases h0 : z = 0
    · have g0 : (z == 0) = true := by simpa using h0
      have H : Hid (get ks n = (zero, false)) := get_none (by rw [hz, h0]; exact look_none fun k hk => by have := isName_pos (hR.1.1 k hk); omega)
      clear hx hm hR hz h0
      go_enter Try.func14, Try.ntmps14
      go_wp2_with (first
        | (go_at_call 25; (with_reducible refine RC.out.mono ?_); rintro e w1 ⟨g, rfl, hrow, hg, hb1⟩; have hB1 := hB.below hb1 hB.lt; have hW1 := ref_below hW hb1 hW.size; clear hb1; obtain ⟨q0, q1, q2, f0, f1, f2⟩ := row_three hB1)
        | (go_at_call 18; (with_reducible refine (N.out _).mono ?_); rintro e w9 ⟨rfl, rfl⟩))
      exact ret_three1 rfl rfl (three_row hB1) rfl Try.underlying32 rfl ⟨by rw [H.out]; rfl, below_three hW1 (Nat.le_refl _)⟩
    · have g0 : (z == 0) = false := by simpa using h0
      have hI : IsName z := hz ▸ nameN_is (by rw [hz]; exact h0)
      have S := Lib.hid (ref21_spot hI)
      have hsp := (nm_spot hI).2
      have hrg := row_get ks hsp
      rw [(nm_spot hI).1] at hrg
      cases hl : Reg.look ks z with
      | none =>
        have H : Hid (get ks n = (zero, false)) := get_none (by rw [hz]; exact hl)
        rw [hl] at hrg
        have HG := Lib.hid hrg
        generalize spot z = j at *
        have hj : (j : Int) < 38 := by omega
        clear hx hm hR hz h0 hI hl hrg
        go_enter Try.func14, Try.ntmps14
        go_wp2_with (first
          | (go_at_call 25; (with_reducible refine RC.out.mono ?_); rintro e w1 ⟨g, rfl, hrow, hg, hb1⟩; have hB1 := hB.below hb1 hB.lt; have hW1 := ref_below hW hb1 hW.size; clear hb1; obtain ⟨q0, q1, q2, f0, f1, f2⟩ := row_three hB1; obtain ⟨v, hv, he⟩ := hrow.at_ HG.out; have hve : v = .slice none 0 0 := he; rw [hve] at hv; clear he hve)
          | (go_at_call 18; (with_reducible refine (N.out _).mono ?_); rintro e w9 ⟨rfl, rfl⟩)
          | (go_at_call 26; (with_reducible refine (S.out _).mono ?_); rintro e w9 ⟨rfl, rfl⟩))
        exact ret_three1 rfl rfl (three_row hB1) rfl Try.underlying32 rfl ⟨by rw [H.out]; rfl, below_three hW1 (Nat.le_refl _)⟩
      | some x =>
        have H : Hid (get ks n = (x, true)) := get_some hR (by rw [hz]; exact hl)
        rw [hl] at hrg
        have HG := Lib.hid hrg
        generalize spot z = j at *
        have hj : (j : Int) < 38 := by omega
        clear hx hm hR hz h0 hI hl hrg
        go_enter Try.func14, Try.ntmps14
        go_wp2_with (first
          | (go_at_call 25; (with_reducible refine RC.out.mono ?_); rintro e w1 ⟨g, rfl, hrow, hg, hb1⟩; have hB1 := hB.below hb1 hB.lt; have hW1 := ref_below hW hb1 hW.size; clear hb1; obtain ⟨q0, q1, q2, f0, f1, f2⟩ := row_three hB1; obtain ⟨v, hv, b, hve, hbg, hbl, c0, c1, c2⟩ := hrow.at_ HG.out; rw [hve] at hv; rw [Nat.zero_add] at c1 c2; clear hve)
          | (go_at_call 18; (with_reducible refine (N.out _).mono ?_); rintro e w9 ⟨rfl, rfl⟩)
          | (go_at_call 26; (with_reducible refine (S.out _).mono ?_); rintro e w9 ⟨rfl, rfl⟩))
        exact ret_three1 rfl rfl (three_row hB1) rfl Try.underlying32 rfl ⟨by rw [H.out]; rfl, below_three hW1 (Nat.le_refl _)⟩
  · have RC := Lib.hid (ref21_row_not (c := c) hx hm hR hW)
    have H := Lib.hid (get_not (n := n) hR)
    clear hx hm hR
    go_enter Try.func14, Try.ntmps14
    go_wp2_with (go_at_call 25; (with_reducible refine RC.out.mono ?_); rintro e w1 ⟨rfl, hb1⟩; have hB1 := hB.below hb1 hB.lt; have hW1 := ref_below hW hb1 hW.size; clear hb1; obtain ⟨q0, q1, q2, f0, f1, f2⟩ := row_three hB1)
    exact ret_three1 rfl rfl (three_row hB1) rfl Try.underlying32 rfl ⟨by rw [H.out]; rfl, below_three hW1 (Nat.le_refl _)⟩
set_option maxHeartbeats 1000000 in
set_option maxRecDepth 100000 in
theorem ref21_put {g : Nat} {R : List (Option Rg)} {n : Int} (b : Bool) (s : ByteArray) {w : World} (h : RowIs w g R) (hn : IsName n) :
    Calls Try.prog 33 #[.slice (some ⟨g, 0, none⟩) 38 38, .int .i64 n, .bool b, .string s] w fun e w' => e = .returned (.tuple #[]) ∧ RowIs w' g (R.set (spot n) (some ⟨n, b, s⟩)) ∧ w.grownBy w' (some g) := by
  have S := Lib.hid (ref21_spot hn)
  have hsp := (nm_spot hn).2
  obtain ⟨v0, hv0⟩ := h.some_ hsp
  have fz := h.frozen (spot n)
  have hlt := h.lt
  have hrow := (h.below ((Below.refl _ w).alloc (Nat.le_refl _) (.cells (Rg.vals ⟨n, b, s⟩) 32))).set (spot n) (Ent.new ⟨n, b, s⟩ 32 hlt)
  rw [World.setCell_alloc_past _ _ _ _ hlt] at hrow
  have HR := Lib.hid hrow
  generalize spot n = j at *
  have hj : (j : Int) < 38 := by omega
  clear h hn hrow
  go_enter Try.func33, Try.ntmps33
  go_wp2_with (go_at_call 26; (with_reducible refine (S.out _).mono ?_); rintro e w9 ⟨rfl, rfl⟩)
  go_end0
  exact ⟨rfl, HR.out, gb_trans (gb_set w g j _) (World.grownBy_alloc _ _ _)⟩
end Go.Proofs.Ytopplkfbnpamdaa
