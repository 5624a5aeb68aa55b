/-
  What the reader of the document answers when it is asked for a number or a text, for all bytes and all bounds.
-/
import Derived.Test.YtchmiigjiojiaaaRdText
namespace Go.Proofs.Ytchmiigjiojiaaa
open Go.RowKit
/-- A reader of the document's at block q that stands ahead of the bytes l, with the error err. -/
structure Rq (q : Nat) (l : List UInt8) (err : Int) (w : World) : Prop where
  self : Blk w q 26 #[.string (bs l), .int .i64 err]
  max : l.length ≤ maxLen
  spent : err ≠ 0 → l = []
theorem Rq.grown {q : Nat} {l : List UInt8} {err : Int} {w w' : World} {r : Option Nat} (h : Rq q l err w) (g : w.grownBy w' r) (n0 : some q ≠ r) : Rq q l err w' := { h with self := h.self.grown g n0 }
set_option maxHeartbeats 400000 in
theorem rq_stop {q : Nat} {l : List UInt8} {err : Int} {w : World} (h : Rq q l err w) (n : Int) :
    Calls Try.prog 38 #[.pointer (some ⟨q, 0, none⟩), .int .i64 n] w fun e w' => e = .returned (.tuple #[]) ∧ Rq q [] (first err n) w' ∧ w.grownBy w' (some q) := by
  have k0 := h.self.cell 0
  have k1 := h.self.cell 1
  have z0 := h.self.frozen 0
  have z1 := h.self.frozen 1
  simp at k0 k1
  have hs := h.self
  by_cases h0 : err = 0
  · have H : Hid (first err n = n) := by rw [h0]; exact first_zero n
    have g1 : (err == 0) = true := by simp [h0]
    clear h0
    go_enter Try.func38, Try.ntmps38
    go_wp2
    go_end0
    refine ⟨rfl, ⟨?_, by simp, by simp⟩, gb_trans (gb_set _ q 0 _) (gb_set _ q 1 _)⟩
    rw [H.out]
    have := (hs.set_ 0 (.string ⟨#[]⟩)).set_ 1 (.int .i64 n)
    show Blk _ q _ #[.string ⟨#[]⟩, .int .i64 n]
    simpa using this
  · have H : Hid (first err n = err) := first_not n h0
    have g1 : (err == 0) = false := by simp [h0]
    clear h0
    go_enter Try.func38, Try.ntmps38
    go_wp2
    go_end0
    refine ⟨rfl, ⟨?_, by simp, by simp⟩, gb_set _ q 0 _⟩
    rw [H.out]
    have := hs.set_ 0 (.string ⟨#[]⟩)
    show Blk _ q _ #[.string ⟨#[]⟩, .int .i64 err]
    simpa using this
set_option maxHeartbeats 400000 in
theorem rq_num_over {q : Nat} {l : List UInt8} {err : Int} {w : World} (h : Rq q l err w) (he : err ≠ 0) :
    Calls Try.prog 16 #[.pointer (some ⟨q, 0, none⟩)] w fun e w' => e = .returned (.int .i64 0) ∧ w = w' := by
  have k1 := h.self.cell 1
  simp at k1
  have g1 : (err != 0) = true := by simp [he]
  clear he
  go_enter Try.func16, Try.ntmps16
  go_wp2
  go_ret
  exact ⟨rfl, rfl⟩
set_option maxHeartbeats 400000 in
theorem rq_num_short {q : Nat} {l : List UInt8} {w : World} (h : Rq q l 0 w) (hl : l.length < 4) :
    Calls Try.prog 16 #[.pointer (some ⟨q, 0, none⟩)] w fun e w' => e = .returned (.int .i64 0) ∧ Rq q [] 2 w' ∧ w.grownBy w' (some q) := by
  have k0 := h.self.cell 0
  have k1 := h.self.cell 1
  simp at k0 k1
  have hf := rq_stop h 2
  rw [first_zero] at hf
  have g1 : (bs l).size < 4 := by rw [bs_size]; exact hl
  go_enter Try.func16, Try.ntmps16
  go_wp2_with (go_at_call 38; refine hf.mono ?_; rintro e w1 ⟨rfl, hr, hg⟩)
  go_ret
  exact ⟨rfl, hr, hg⟩
theorem index_at (l : List UInt8) (i : Nat) (x : UInt8) (h : l[i]? = some x) (w : World) : (Instr.index 9 (.string (bs l)) (.int .i64 i)).run Try.prog w = .ok (.int .u8 x.toNat) w := by
  have hi : i < l.length := by
    rcases Nat.lt_or_ge i l.length with h' | h'
    · exact h'
    · rw [List.getElem?_eq_none h'] at h; cases h
  rw [run_index_string w _ _ _ _ Try.underlying9, dif_pos ⟨by omega, by rw [bs_size]; omega⟩]
  rw [List.getElem?_eq_getElem hi] at h
  injection h with h
  subst h
  rfl
set_option maxHeartbeats 400000 in
theorem rq_num_ok {q : Nat} {a b c d : UInt8} {r : List UInt8} {w : World} (h : Rq q (a :: b :: c :: d :: r) 0 w) (hv : val4 a b c d ≤ 2147483647) :
    Calls Try.prog 16 #[.pointer (some ⟨q, 0, none⟩)] w fun e w' => e = .returned (.int .i64 (val4 a b c d)) ∧ Rq q r 0 w' ∧ w.grownBy w' (some q) := by
  have k0 := h.self.cell 0
  have k1 := h.self.cell 1
  have z0 := h.self.frozen 0
  simp at k0 k1
  have g1 : ¬ (bs (a :: b :: c :: d :: r)).size < 4 := by rw [bs_size]; simp
  have g2 : 4 ≤ (bs (a :: b :: c :: d :: r)).size := by rw [bs_size]; simp
  have g3 : (bs (a :: b :: c :: d :: r)).size ≤ 9223372036854775807 := by rw [bs_size]; have := h.max; unfold maxLen at this; omega
  have i0 := index_at (a :: b :: c :: d :: r) 0 a rfl
  have i1 := index_at (a :: b :: c :: d :: r) 1 b rfl
  have i2 := index_at (a :: b :: c :: d :: r) 2 c rfl
  have i3 := index_at (a :: b :: c :: d :: r) 3 d rfl
  simp only [Int.cast_ofNat_Int] at i0 i1 i2 i3
  have ha := a.toNat_lt
  have hb := b.toNat_lt
  have hc := c.toNat_lt
  have hd := d.toNat_lt
  have hv' : (a.toNat : Int) + 256 * b.toNat + 65536 * c.toNat + 16777216 * d.toNat ≤ 2147483647 := hv
  go_enter Try.func16, Try.ntmps16
  go_wp2
  go_quiet (fail)
  go_wp2
  go_ret
  refine ⟨rfl, ⟨?_, by have := h.max; simp only [List.length_cons] at this; omega, by simp⟩, gb_trans (gb_drewN w nq _) (gb_set _ q 0 _)⟩
  have e : (bs (a :: b :: c :: d :: r)).extract 4 (bs (a :: b :: c :: d :: r)).size = bs r := by
    rw [Lib.extract_eq, bs_toList, bs_size]
    simp [bs]
  rw [e]
  have := (h.self.drewN nq).set_ 0 (.string (bs r))
  simpa using this
set_option maxHeartbeats 400000 in
theorem rq_num_high {q : Nat} {a b c d : UInt8} {r : List UInt8} {w : World} (h : Rq q (a :: b :: c :: d :: r) 0 w) (hv : 2147483647 < val4 a b c d) :
    Calls Try.prog 16 #[.pointer (some ⟨q, 0, none⟩)] w fun e w' => e = .returned (.int .i64 0) ∧ Rq q [] 6 w' ∧ w.grownBy w' (some q) := by
  have k0 := h.self.cell 0
  have k1 := h.self.cell 1
  have z0 := h.self.frozen 0
  simp at k0 k1
  have g1 : ¬ (bs (a :: b :: c :: d :: r)).size < 4 := by rw [bs_size]; simp
  have g2 : 4 ≤ (bs (a :: b :: c :: d :: r)).size := by rw [bs_size]; simp
  have g3 : (bs (a :: b :: c :: d :: r)).size ≤ 9223372036854775807 := by rw [bs_size]; have := h.max; unfold maxLen at this; omega
  have i0 := index_at (a :: b :: c :: d :: r) 0 a rfl
  have i1 := index_at (a :: b :: c :: d :: r) 1 b rfl
  have i2 := index_at (a :: b :: c :: d :: r) 2 c rfl
  have i3 := index_at (a :: b :: c :: d :: r) 3 d rfl
  simp only [Int.cast_ofNat_Int] at i0 i1 i2 i3
  have ha := a.toNat_lt
  have hb := b.toNat_lt
  have hc := c.toNat_lt
  have hd := d.toNat_lt
  have hv' : 2147483647 < (a.toNat : Int) + 256 * b.toNat + 65536 * c.toNat + 16777216 * d.toNat := hv
  go_enter Try.func16, Try.ntmps16
  go_wp2
  go_quiet (fail)
  have hf := rq_stop (w := w.drewN nq) ⟨h.self.drewN nq, h.max, h.spent⟩ 6
  rw [first_zero] at hf
  go_wp2_with (go_at_call 38; refine hf.mono ?_; rintro e w1 ⟨rfl, hr, hg⟩)
  go_ret
  exact ⟨rfl, hr, gb_trans (gb_drewN w nq _) hg⟩
theorem rq_num {q : Nat} {l : List UInt8} {err : Int} {w : World} (h : Rq q l err w) :
    Calls Try.prog 16 #[.pointer (some ⟨q, 0, none⟩)] w fun e w' => e = .returned (.int .i64 (rdNum l err).1) ∧ Rq q (rdNum l err).2.1 (rdNum l err).2.2 w' ∧ w.grownBy w' (some q) := by
  by_cases he : err = 0
  · subst he
    by_cases hl : l.length < 4
    · rw [rdNum_short 0 hl]; exact rq_num_short h hl
    · obtain ⟨a, b, c, d, r, rfl⟩ := four_of (l := l) (by omega)
      by_cases hv : val4 a b c d ≤ 2147483647
      · rw [rdNum_ok r 0 hv]; exact rq_num_ok h hv
      · rw [rdNum_high r 0 (by omega)]; exact rq_num_high h (by omega)
  · have hl := h.spent he
    subst hl
    rw [rdNum_short err (by simp), first_not 2 he]
    refine (rq_num_over h he).mono ?_
    rintro e w' ⟨rfl, rfl⟩
    exact ⟨rfl, h, World.grownBy.refl _ _⟩
theorem rq_num_at {q : Nat} {l : List UInt8} {err n e : Int} {r : List UInt8} {w : World} (h : Rq q l err w) (hq : rdNum l err = (n, r, e)) :
    Calls Try.prog 16 #[.pointer (some ⟨q, 0, none⟩)] w fun x w' => x = .returned (.int .i64 n) ∧ Rq q r e w' ∧ w.grownBy w' (some q) := by
  have := rq_num h
  rw [hq] at this
  exact this
set_option maxHeartbeats 400000 in
theorem rq_text_bad {q : Nat} {l : List UInt8} {err n e most : Int} {r : List UInt8} {w : World} (h : Rq q l err w) (hq : rdNum l err = (n, r, e)) (he : e ≠ 0) :
    Calls Try.prog 17 #[.pointer (some ⟨q, 0, none⟩), .int .i64 most] w fun x w' => x = .returned (.string (bs [])) ∧ Rq q r e w' ∧ w.grownBy w' (some q) := by
  have hN := rq_num_at h hq
  have g1 : (e != 0) = true := by simp [he]
  clear hq h he
  go_enter Try.func17, Try.ntmps17
  go_wp2_with (go_at_call 16; refine hN.mono ?_; rintro x w1 ⟨rfl, hr, hg⟩; have k1 := hr.self.cell 1; simp at k1)
  go_ret
  exact ⟨rfl, hr, hg⟩
set_option maxHeartbeats 400000 in
theorem rq_text_over {q : Nat} {l : List UInt8} {err n most : Int} {r : List UInt8} {w : World} (h : Rq q l err w) (hq : rdNum l err = (n, r, 0)) (hm : most < n) :
    Calls Try.prog 17 #[.pointer (some ⟨q, 0, none⟩), .int .i64 most] w fun x w' => x = .returned (.string (bs [])) ∧ Rq q [] 6 w' ∧ w.grownBy w' (some q) := by
  have hN := rq_num_at h hq
  clear hq h
  go_enter Try.func17, Try.ntmps17
  go_wp2_with (first | (go_at_call 16; refine hN.mono ?_; rintro x w1 ⟨rfl, hr, hg⟩; have k1 := hr.self.cell 1; simp at k1) | (go_at_call 38; refine (rq_stop hr 6).mono ?_; rintro e w3 ⟨rfl, hr3, hg3⟩))
  go_ret
  exact ⟨rfl, hr3, gb_trans hg hg3⟩
set_option maxHeartbeats 400000 in
theorem rq_text_end {q : Nat} {l : List UInt8} {err n most : Int} {r : List UInt8} {w : World} (h : Rq q l err w) (hq : rdNum l err = (n, r, 0)) (hm : n ≤ most) (hl : (r.length : Int) < n) :
    Calls Try.prog 17 #[.pointer (some ⟨q, 0, none⟩), .int .i64 most] w fun x w' => x = .returned (.string (bs [])) ∧ Rq q [] 2 w' ∧ w.grownBy w' (some q) := by
  have hN := rq_num_at h hq
  have g3 : ((bs r).size : Int) < n := by rw [bs_size]; exact hl
  clear hq h hl
  go_enter Try.func17, Try.ntmps17
  go_wp2_with (first | (go_at_call 16; refine hN.mono ?_; rintro x w1 ⟨rfl, hr, hg⟩; have k1 := hr.self.cell 1; have k0 := hr.self.cell 0; simp at k1 k0) | (go_at_call 38; refine (rq_stop hr 2).mono ?_; rintro e w3 ⟨rfl, hr3, hg3⟩))
  go_ret
  exact ⟨rfl, hr3, gb_trans hg hg3⟩
set_option maxHeartbeats 400000 in
theorem rq_text_ok {q : Nat} {l : List UInt8} {err n most : Int} {r : List UInt8} {w : World} (h : Rq q l err w) (hq : rdNum l err = (n, r, 0)) (hm : n ≤ most) (h0 : 0 ≤ n) (hl : n ≤ (r.length : Int)) (hx : r.length ≤ maxLen) :
    Calls Try.prog 17 #[.pointer (some ⟨q, 0, none⟩), .int .i64 most] w fun x w' => x = .returned (.string (bs (r.take n.toNat))) ∧ Rq q (r.drop n.toNat) 0 w' ∧ w.grownBy w' (some q) := by
  have hN := rq_num_at h hq
  have g3 : n ≤ ((bs r).size : Int) := by rw [bs_size]; exact hl
  have g4 : ((bs r).size : Int) ≤ 9223372036854775807 := by rw [bs_size]; unfold maxLen at hx; omega
  clear hq h hl
  go_enter Try.func17, Try.ntmps17
  go_wp2_with (first | (go_at_call 16; refine hN.mono ?_; rintro x w1 ⟨rfl, hr, hg⟩; have k1 := hr.self.cell 1; have k0 := hr.self.cell 0; have z0 := hr.self.frozen 0; simp at k1 k0))
  go_ret
  have e1 : (bs r).extract 0 n.toNat = bs (r.take n.toNat) := by
    rw [Lib.extract_eq, bs_toList]; simp [bs]
  have e2 : (bs r).extract n.toNat (bs r).size = bs (r.drop n.toNat) := by
    rw [Lib.extract_eq, bs_toList, bs_size]
    have : (r.drop n.toNat).take (r.length - n.toNat) = r.drop n.toNat := List.take_of_length_le (by rw [List.length_drop]; exact Nat.le_refl _)
    rw [this]; rfl
  rw [e1, e2]
  refine ⟨rfl, ⟨?_, by rw [List.length_drop]; omega, by simp⟩, gb_trans hg (gb_set _ q 0 _)⟩
  have := hr.self.set_ 0 (.string (bs (r.drop n.toNat)))
  simpa using this
theorem rq_text {q : Nat} {l : List UInt8} {err : Int} {w : World} (most : Int) (h : Rq q l err w) :
    Calls Try.prog 17 #[.pointer (some ⟨q, 0, none⟩), .int .i64 most] w fun x w' => x = .returned (.string (bs (rdText most l err).1)) ∧ Rq q (rdText most l err).2.1 (rdText most l err).2.2 w' ∧ w.grownBy w' (some q) := by
  have hlow := rdNum_low l err
  have hlen := rdNum_len l err
  have hmax := h.max
  obtain ⟨n, r, e, hq⟩ : ∃ n r e, rdNum l err = (n, r, e) := ⟨_, _, _, rfl⟩
  unfold rdText
  rw [hq] at hlow hlen ⊢
  simp only at hlow hlen ⊢
  by_cases he : e = 0
  · subst he
    rw [if_neg (by simp)]
    by_cases hm : most < n
    · rw [if_pos hm]; exact rq_text_over h hq hm
    · rw [if_neg hm]
      by_cases hl : (r.length : Int) < n
      · rw [if_pos hl]; exact rq_text_end h hq (by omega) hl
      · rw [if_neg hl]; exact rq_text_ok h hq (by omega) hlow.1 (by omega) (by omega)
  · rw [if_pos he]; exact rq_text_bad h hq he
end Go.Proofs.Ytchmiigjiojiaaa
