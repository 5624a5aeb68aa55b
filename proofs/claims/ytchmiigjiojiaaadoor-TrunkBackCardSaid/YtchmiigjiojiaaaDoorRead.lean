/-
  What the reader of the program answers when it is asked for a number, what is left, and its error, for all bytes.
-/
import Derived.Test.YtchmiigjiojiaaaDoorReader
namespace Go.Proofs.YtchmiigjiojiaaaDoor
open Go.RowKit
theorem first_zero (n : Int) : first 0 n = n := rfl
theorem first_not {err : Int} (n : Int) (h : err ≠ 0) : first err n = err := by unfold first; rw [if_neg h]
theorem rd_set_err {p c1 c2 : Nat} {s : ByteArray} {err : Int} {w : World} (h : RdAt p c1 c2 s [] err w) (n : Int) : Rd p [] n (w.setCell ⟨p, 3, none⟩ (.int .i64 n)) := by
  refine ⟨c1, c2, s, ⟨?_, h.b1.far (p := ⟨p, 3, none⟩) (h.b1.ne_ h.self (by decide)) _, h.b2.far (p := ⟨p, 3, none⟩) (h.b2.ne_ h.self (by decide)) _, h.le, h.last, h.max, by simp⟩⟩
  have := h.self.set_ 3 (.int .i64 n)
  simpa using this
set_option maxHeartbeats 400000 in
theorem rd_fail {p : Nat} {l : List UInt8} {err : Int} {w : World} (h : Rd p l err w) (n : Int) :
    Calls Tryd.prog 49 #[.pointer (some ⟨p, 0, none⟩), .int .i64 n] w fun e w' => e = .returned (.tuple #[]) ∧ Rd p [] (first err n) w' ∧ w.grownBy w' (some p) := by
  obtain ⟨c1, c2, s, h⟩ := h
  have k3 := h.self.cell 3
  simp at k3
  by_cases h0 : err = 0
  · have H : Hid (first err n = n) := by rw [h0]; exact first_zero n
    have g1 : (err != 0) = false := by simp [h0]
    have hs := Lib.hid h.self
    clear h0 h
    go_enter Tryd.func49, Tryd.ntmps49
    go_wp2_with (go_at_call 27; refine (rd_begin p _ _ _ _ _ _ (by decide) hs.out).mono ?_; rintro e w1 ⟨rfl, ⟨d1, d2, s2, h2⟩, hg⟩; have q3 := h2.self.cell 3; have z3 := h2.self.frozen 3; simp at q3)
    go_end0
    exact ⟨rfl, by rw [H.out]; exact rd_set_err h2 n, gb_trans hg (gb_set _ p 3 _)⟩
  · have H : Hid (first err n = err) := first_not n h0
    have g1 : (err != 0) = true := by simp [h0]
    have hs := Lib.hid h.self
    clear h0 h
    go_enter Tryd.func49, Tryd.ntmps49
    go_wp2_with (go_at_call 27; refine (rd_begin p _ _ _ _ _ _ (by decide) hs.out).mono ?_; rintro e w1 ⟨rfl, ⟨d1, d2, s2, h2⟩, hg⟩; have q3 := h2.self.cell 3; have z3 := h2.self.frozen 3; simp at q3)
    go_end0
    exact ⟨rfl, by rw [H.out]; exact rd_set_err h2 err, gb_trans hg (gb_set _ p 3 _)⟩

set_option maxHeartbeats 400000 in
theorem rd_left {p : Nat} {l : List UInt8} {err : Int} {w : World} (h : Rd p l err w) :
    Calls Tryd.prog 16 #[.pointer (some ⟨p, 0, none⟩)] w fun e w' => e = .returned (.int .i64 l.length) ∧ w = w' := by
  have hs := rd_settle h
  obtain ⟨c1, c2, s, h⟩ := h
  have k2 := h.self.cell 2
  simp at k2
  go_enter Tryd.func16, Tryd.ntmps16
  go_wp2_with (go_at_call 32; refine hs.mono ?_; rintro e w1 ⟨rfl, rfl⟩)
  go_ret
  exact ⟨rfl, rfl⟩
set_option maxHeartbeats 400000 in
theorem rd_err {p : Nat} {l : List UInt8} {err : Int} {w : World} (h : Rd p l err w) :
    Calls Tryd.prog 30 #[.pointer (some ⟨p, 0, none⟩)] w fun e w' => e = .returned (.int .i64 err) ∧ w = w' := by
  have hs := rd_settle h
  obtain ⟨c1, c2, s, h⟩ := h
  have k3 := h.self.cell 3
  simp at k3
  go_enter Tryd.func30, Tryd.ntmps30
  go_wp2_with (go_at_call 32; refine hs.mono ?_; rintro e w1 ⟨rfl, rfl⟩)
  go_ret
  exact ⟨rfl, rfl⟩
set_option maxHeartbeats 400000 in
theorem rd_num_short {p : Nat} {l : List UInt8} {err : Int} {w : World} (h : Rd p l err w) (hl : l.length < 4) :
    Calls Tryd.prog 28 #[.pointer (some ⟨p, 0, none⟩)] w fun e w' => e = .returned (.int .i64 0) ∧ Rd p [] (first err 2) w' ∧ w.grownBy w' (some p) := by
  have hs := rd_settle h
  have hf := rd_fail h 2
  obtain ⟨c1, c2, s, h⟩ := h
  have ht := rd_take_no h 4 (by omega)
  have k1 := h.self.cell 1
  simp at k1
  go_enter Tryd.func28, Tryd.ntmps28
  go_wp2_with (first | (go_at_call 32; refine hs.mono ?_; rintro e w1 ⟨rfl, rfl⟩) | (go_at_call 48; refine ht.mono ?_; rintro e w1 ⟨rfl, rfl⟩) | (go_at_call 49; refine hf.mono ?_; rintro e w1 ⟨rfl, hr, hg⟩))
  go_ret
  exact ⟨rfl, hr, hg⟩
set_option maxHeartbeats 400000 in
theorem rd_num_ok {p : Nat} {a b c d : UInt8} {r : List UInt8} {err : Int} {w : World} (h : Rd p (a :: b :: c :: d :: r) err w) (hv : val4 a b c d ≤ 2147483647) :
    Calls Tryd.prog 28 #[.pointer (some ⟨p, 0, none⟩)] w fun e w' => e = .returned (.int .i64 (val4 a b c d)) ∧ Rd p r err w' ∧ w.grownBy w' (some p) := by
  have hs := rd_settle h
  obtain ⟨c1, c2, s, h⟩ := h
  have ht := rd_take_ok h 4 (by omega) (by simp only [List.length_cons]; omega)
  have hn := fun w => code_number a b c d w hv
  have k1 := h.self.cell 1
  simp at k1
  simp only [show (4 : Int).toNat = 4 from rfl, List.take_succ_cons, List.take_zero, List.drop_succ_cons, List.drop_zero] at ht
  go_enter Tryd.func28, Tryd.ntmps28
  go_wp2_with (first | (go_at_call 32; refine hs.mono ?_; rintro e w1 ⟨rfl, rfl⟩) | (go_at_call 48; refine ht.mono ?_; rintro e w1 ⟨rfl, hr, hg⟩) | (go_at_call 50; refine (hn _).mono ?_; rintro e w2 ⟨rfl, hb⟩))
  go_ret
  exact ⟨rfl, Rd.below ⟨_, _, _, hr⟩ (gb_below _ hb), gb_trans hg (gb_below _ hb)⟩
set_option maxHeartbeats 400000 in
theorem rd_num_high {p : Nat} {a b c d : UInt8} {r : List UInt8} {err : Int} {w : World} (h : Rd p (a :: b :: c :: d :: r) err w) (hv : 2147483647 < val4 a b c d) :
    Calls Tryd.prog 28 #[.pointer (some ⟨p, 0, none⟩)] w fun e w' => e = .returned (.int .i64 0) ∧ Rd p [] (first err 6) w' ∧ w.grownBy w' (some p) := by
  have hs := rd_settle h
  obtain ⟨c1, c2, s, h⟩ := h
  have ht := rd_take_ok h 4 (by omega) (by simp only [List.length_cons]; omega)
  have hn := fun w => code_number_no a b c d w hv
  have k1 := h.self.cell 1
  simp at k1
  simp only [show (4 : Int).toNat = 4 from rfl, List.take_succ_cons, List.take_zero, List.drop_succ_cons, List.drop_zero] at ht
  go_enter Tryd.func28, Tryd.ntmps28
  go_wp2_with (first | (go_at_call 32; refine hs.mono ?_; rintro e w1 ⟨rfl, rfl⟩) | (go_at_call 48; refine ht.mono ?_; rintro e w1 ⟨rfl, hr, hg⟩) | (go_at_call 50; refine (hn _).mono ?_; rintro e w2 ⟨rfl, hb⟩) | (go_at_call 49; refine (rd_fail (Rd.below ⟨_, _, _, hr⟩ (gb_below _ hb)) 6).mono ?_; rintro e w3 ⟨rfl, hr3, hg3⟩))
  go_ret
  exact ⟨rfl, hr3, gb_trans hg (gb_trans (gb_below _ hb) hg3)⟩
/-- A number is read as the words say. -/
theorem rd_num {p : Nat} {l : List UInt8} {err : Int} {w : World} (h : Rd p l err w) :
    Calls Tryd.prog 28 #[.pointer (some ⟨p, 0, none⟩)] w fun e w' => e = .returned (.int .i64 (rdNum l err).1) ∧ Rd p (rdNum l err).2.1 (rdNum l err).2.2 w' ∧ w.grownBy w' (some p) := by
  by_cases hl : l.length < 4
  · rw [rdNum_short err hl]; exact rd_num_short h hl
  · obtain ⟨a, b, c, d, r, rfl⟩ := four_of (l := l) (by omega)
    by_cases hv : val4 a b c d ≤ 2147483647
    · rw [rdNum_ok r err hv]; exact rd_num_ok h hv
    · rw [rdNum_high r err (by omega)]; exact rd_num_high h (by omega)
end Go.Proofs.YtchmiigjiojiaaaDoor
