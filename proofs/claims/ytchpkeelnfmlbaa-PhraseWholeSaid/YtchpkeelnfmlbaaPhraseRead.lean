/-
  The reader of keys: what it holds, what is ahead, the next key, a word, a digit, a count.
-/
import Derived.Test.YtchpkeelnfmlbaaPhrase
import Derived.Test.YtchpkeelnfmlbaaStrs
import Derived.Test.YtchpkeelnfmlbaaSpan
import Derived.WalkSmall
namespace Go.Proofs.Ytchpkeelnfmlbaa
open Go.RowKit
open Phr (Cmd)
namespace Phr
/-- A reader's cells. -/
def cells (c : Cmd) (v : Value) (dry : Bool) : Array Value := #[.int .i64 c.reg, .int .i64 c.count, .string (bs c.op), .string (bs c.key), .string (bs c.arg), v, .bool dry]
/-- A reader at block g: what it has read, what keys are left, and whether it wanted one more. -/
def Rdr (g : Nat) (W : World) (c : Cmd) (ks : List (List UInt8)) (dry : Bool) : Prop :=
  ∃ A n, Blk W g 34 (cells c (.slice A ks.length n) dry) ∧ ks.length ≤ n ∧ Strs W A (ks.map bs) ∧ (ks ≠ [] → ∀ ad, A = some ad → ad.block ≠ g) ∧ ∀ k ∈ ks, Utf.one k = true
section
variable {g : Nat} {W W' : World} {c : Cmd} {ks : List (List UInt8)} {dry : Bool}
theorem Rdr.grown (h : Rdr g W c ks dry) (k : W.grownBy W' none) : Rdr g W' c ks dry := by
  obtain ⟨A, n, hb, hn, hs, ha, ho⟩ := h
  exact ⟨A, n, hb.grown k (by simp), hn, hs.grown k (by simp), ha, ho⟩
theorem Rdr.ones (h : Rdr g W c ks dry) : ∀ k ∈ ks, Utf.one k = true := by obtain ⟨A, n, _, _, _, _, h⟩ := h; exact h
theorem Rdr.lt (h : Rdr g W c ks dry) : g < W.heap.size := by obtain ⟨A, n, hb, _⟩ := h; exact hb.lt
theorem Rdr.cell0 (h : Rdr g W c ks dry) : W.cell? ⟨g, 0, none⟩ = some (.int .i64 c.reg) := by obtain ⟨A, n, hb, _⟩ := h; exact hb.cell 0
theorem Rdr.cell1 (h : Rdr g W c ks dry) : W.cell? ⟨g, 1, none⟩ = some (.int .i64 c.count) := by obtain ⟨A, n, hb, _⟩ := h; exact hb.cell 1
theorem Rdr.cell2 (h : Rdr g W c ks dry) : W.cell? ⟨g, 2, none⟩ = some (.string (bs c.op)) := by obtain ⟨A, n, hb, _⟩ := h; exact hb.cell 2
theorem Rdr.cell3 (h : Rdr g W c ks dry) : W.cell? ⟨g, 3, none⟩ = some (.string (bs c.key)) := by obtain ⟨A, n, hb, _⟩ := h; exact hb.cell 3
theorem Rdr.cell4 (h : Rdr g W c ks dry) : W.cell? ⟨g, 4, none⟩ = some (.string (bs c.arg)) := by obtain ⟨A, n, hb, _⟩ := h; exact hb.cell 4
theorem Rdr.frozen (h : Rdr g W c ks dry) (i : Nat) : W.frozen? ⟨g, i, none⟩ = false := by obtain ⟨A, n, hb, _⟩ := h; exact hb.frozen i
/-- A cell of what was read is stored to. -/
theorem Rdr.set_ (h : Rdr g W c ks dry) {i : Nat} {u : Value} {c' : Cmd} {d' : Bool} (hc : ∀ v, (cells c v dry).setIfInBounds i u = cells c' v d') : Rdr g (W.setCell ⟨g, i, none⟩ u) c' ks d' := by
  obtain ⟨A, n, hb, hn, hs, ha, ho⟩ := h
  refine ⟨A, n, ?_, hn, ?_, ha, ho⟩
  · rw [← hc]; exact hb.set_ i u
  · intro h0
    obtain ⟨ad, e, hl, hx⟩ := hs h0
    refine ⟨ad, e, by simpa [World.setCell] using hl, fun j x hj => ?_⟩
    rw [World.cell?_of_block (Below.heap_setCell W ⟨g, i, none⟩ u (ad.add j).block (by rw [block_of_add]; exact ha (by intro e0; subst e0; simp at h0) ad e))]
    exact hx j x hj
theorem Rdr.tail_one {ad : Addr} {t : List (List UInt8)} (hb : Blk W g 34 (cells c (.slice (some ad) (t.length + 1) 1) dry)) (hn : t.length + 1 ≤ 1) : Rdr g (W.setCell ⟨g, 5, none⟩ (.slice (some ad) t.length 0)) c t dry := by
  obtain rfl : t = [] := List.eq_nil_of_length_eq_zero (by omega)
  refine ⟨some ad, 0, ?_, Nat.le_refl _, fun h => by simp at h, (fun h => absurd rfl h), fun k hk => by cases hk⟩
  exact hb.set_ 5 _
theorem Rdr.tail {ad : Addr} {k : List UInt8} {t : List (List UInt8)} {n : Nat} (hb : Blk W g 34 (cells c (.slice (some ad) (t.length + 1) n) dry)) (hn : t.length + 1 ≤ n) (hs : Strs W (some ad) ((k :: t).map bs)) (ha : ad.block ≠ g) (ho : ∀ x ∈ k :: t, Utf.one x = true) : Rdr g (W.setCell ⟨g, 5, none⟩ (.slice (some ⟨ad.block, ad.off + 1, none⟩) t.length (n - 1))) c t dry := by
  refine ⟨some ⟨ad.block, ad.off + 1, none⟩, n - 1, hb.set_ 5 _, by omega, fun h0 => ?_, (fun _ a e => by injection e with e; subst e; exact ha), fun x hx => ho x (List.mem_cons_of_mem _ hx)⟩
  obtain ⟨ad', e, hl, hx⟩ := hs (by simp)
  injection e with e
  subst e
  refine ⟨_, rfl, by simpa [World.setCell] using hl, fun j x hj => ?_⟩
  have e2 : (⟨ad.block, ad.off + 1, none⟩ : Addr).add j = ad.add (j + 1) := by
    unfold Addr.add
    rw [if_neg (by omega : ¬ j + 1 = 0)]
    split
    · subst_vars; rfl
    · simp; omega
  rw [World.cell?_of_block (Below.heap_setCell W ⟨g, 5, none⟩ _ _ (by rw [block_of_add]; exact ha)), e2]
  exact hx (j + 1) x (by simpa using hj)
end
end Phr
open Phr (Rdr)
set_option maxRecDepth 100000 in
theorem phr_ahead_none {g : Nat} {w : World} {c : Cmd} {dry : Bool} (h : Rdr g w c [] dry) :
    Calls Try.prog 25 #[.pointer (some ⟨g, 0, none⟩)] w fun e w' => e = .returned (.string (bs [])) ∧ w = w' := by
  obtain ⟨A, n, hb, hn, hs, ha, ho⟩ := h
  have c5 := hb.cell 5
  simp [Phr.cells] at c5
  clear hb hs ha ho
  go_enter Try.func25, Try.ntmps25
  go_wp2
  go_ret
  exact ⟨rfl, rfl⟩
set_option maxRecDepth 100000 in
theorem phr_ahead {g : Nat} {w : World} {c : Cmd} {k : List UInt8} {t : List (List UInt8)} {dry : Bool} (h : Rdr g w c (k :: t) dry) :
    Calls Try.prog 25 #[.pointer (some ⟨g, 0, none⟩)] w fun e w' => e = .returned (.string (bs k)) ∧ w = w' := by
  obtain ⟨A, n, hb, hn, hs, ha, ho⟩ := h
  obtain ⟨ad, rfl, hlt, hx⟩ := hs (by simp)
  have c5 := hb.cell 5
  have x0 : w.cell? ad = some (.string (bs k)) := hx 0 (bs k) rfl
  rw [List.length_cons] at c5
  simp [Phr.cells] at c5
  have b0 : ((t.length : Int) + 1 == 0) = false := by rw [beq_eq_false_iff_ne]; omega
  have b1 : 0 < t.length + 1 := by omega
  clear hb hs ha hx ho
  go_enter Try.func25, Try.ntmps25
  go_wp2
  go_ret
  exact ⟨rfl, rfl⟩
set_option maxRecDepth 100000 in
theorem phr_next_none {g : Nat} {w : World} {c : Cmd} {dry : Bool} (h : Rdr g w c [] dry) :
    Calls Try.prog 27 #[.pointer (some ⟨g, 0, none⟩)] w fun e w' => e = .returned (.string (bs [])) ∧ Rdr g w' c [] true ∧ w.grownBy w' (some g) := by
  have hr : Hid (Rdr g (w.setCell ⟨g, 6, none⟩ (.bool true)) c [] true) := h.set_ (fun v => rfl)
  obtain ⟨A, n, hb, hn, hs, ha, ho⟩ := h
  have c5 := hb.cell 5
  have c6 := hb.cell 6
  have f6 := hb.frozen 6
  simp [Phr.cells] at c5 c6
  clear hb hs ha ho
  go_enter Try.func27, Try.ntmps27
  go_wp2
  go_ret
  exact ⟨rfl, hr.out, gb_set _ _ _ _⟩
set_option maxRecDepth 100000 in
theorem phr_next {g : Nat} {w : World} {c : Cmd} {k : List UInt8} {t : List (List UInt8)} {dry : Bool} (h : Rdr g w c (k :: t) dry) :
    Calls Try.prog 27 #[.pointer (some ⟨g, 0, none⟩)] w fun e w' => e = .returned (.string (bs k)) ∧ Rdr g w' c t dry ∧ w.grownBy w' (some g) := by
  obtain ⟨A, n, hb, hn, hs, ha, ho⟩ := h
  obtain ⟨ad, e, hlt, hx⟩ := hs (by simp)
  subst e
  have hag := ha (by simp) ad rfl
  have c5 := hb.cell 5
  have f5 := hb.frozen 5
  have x0 : w.cell? ad = some (.string (bs k)) := hx 0 (bs k) rfl
  rw [List.length_cons] at c5
  simp [Phr.cells] at c5
  have b0 : ((t.length : Int) + 1 == 0) = false := by rw [beq_eq_false_iff_ne]; omega
  have b1 : 0 < t.length + 1 := by omega
  rw [List.length_cons] at hn hb
  have T1 : Hid (n = 1 → Rdr g (w.setCell ⟨g, 5, none⟩ (.slice (some ad) t.length 0)) c t dry) := Lib.hid (fun e => by subst e; exact Rdr.tail_one hb hn)
  have T2 : Hid (Rdr g (w.setCell ⟨g, 5, none⟩ (.slice (some ⟨ad.block, ad.off + 1, none⟩) t.length (n - 1))) c t dry) := Lib.hid (Rdr.tail hb hn hs hag ho)
  clear hb hs hx ha hn ho
  go_enter Try.func27, Try.ntmps27
  go_wp2
  · go_ret
    exact ⟨rfl, T1.out (by assumption), gb_set _ _ _ _⟩
  · go_ret
    exact ⟨rfl, T2.out, gb_set _ _ _ _⟩
namespace Phr
open Utf
/-- What a key may be. -/
def Key (k : List UInt8) : Prop := k = [] ∨ one k = true
theorem key_forms {k : List UInt8} (h : Key k) : k = [] ∨ (∃ b, k = [b] ∧ b.toNat < 128) ∨ ∃ b c t, k = b :: c :: t ∧ 128 ≤ b.toNat := by
  rcases h with h | h
  · exact .inl h
  · rcases Key.one_cases h with ⟨a, rfl⟩ | ⟨a, b, rfl⟩ | ⟨a, b, c, rfl⟩ | ⟨a, b, c, d, rfl⟩
    · exact .inr (.inl ⟨a, rfl, (one1 a).1 h⟩)
    · exact .inr (.inr ⟨a, b, [], rfl, by have := (one2 a b).1 h; omega⟩)
    · exact .inr (.inr ⟨a, b, [c], rfl, by have := (one3 a b c).1 h; omega⟩)
    · exact .inr (.inr ⟨a, b, [c, d], rfl, by have := (one4 a b c d).1 h; omega⟩)
/-- A test of a key against two bytes. -/
def within (lo hi : UInt8) (k : List UInt8) : Bool := match k with | [b] => decide (lo.toNat ≤ b.toNat) && decide (b.toNat ≤ hi.toNat) | _ => false
theorem within_test {k : List UInt8} (h : Key k) {lo hi : UInt8} (hh : hi.toNat < 128) : within lo hi k = (!Op.bytesLess (bs k).toList [lo] && (Op.bytesLess (bs k).toList [hi] || (bs k).toList == [hi])) := by
  rw [bs_tl]
  rcases key_forms h with rfl | ⟨b, rfl, hb⟩ | ⟨b, c, t, rfl, hb⟩
  · rfl
  · have e1 : Op.bytesLess [b] [lo] = decide (b.toNat < lo.toNat) := by simp [Op.bytesLess, UInt8.lt_iff_toNat_lt]
    have e2 : (Op.bytesLess [b] [hi] || [b] == [hi]) = decide (b.toNat ≤ hi.toNat) := by
      rw [Bool.eq_iff_iff]
      simp [Op.bytesLess, UInt8.lt_iff_toNat_lt, ← UInt8.toNat_inj]
      omega
    rw [e1, e2]
    show (decide (lo.toNat ≤ b.toNat) && decide (b.toNat ≤ hi.toNat)) = _
    congr 1
    rw [← decide_not]
    congr 1
    simp
  · have e2 : (Op.bytesLess (b :: c :: t) [hi] || b :: c :: t == [hi]) = false := by
      rw [Bool.eq_false_iff]
      simp [Op.bytesLess, UInt8.lt_iff_toNat_lt]
      omega
    rw [e2, Bool.and_false]
    rfl
theorem digit_test {k : List UInt8} (h : Key k) : digit k = (!Op.bytesLess (bs k).toList [48] && (Op.bytesLess (bs k).toList [57] || (bs k).toList == [57])) := within_test h (lo := 48) (hi := 57) (by decide)
theorem letter_test {k : List UInt8} (h : Key k) : letter k = (!Op.bytesLess (bs k).toList [97] && (Op.bytesLess (bs k).toList [122] || (bs k).toList == [122])) := within_test h (lo := 97) (hi := 122) (by decide)
end Phr
set_option maxRecDepth 100000 in
theorem phr_digit {k : List UInt8} (hk : Phr.Key k) (w : World) :
    Calls Try.prog 26 #[.string (bs k)] w fun e w' => e = .returned (.bool (Phr.digit k)) ∧ w = w' := by
  rw [Phr.digit_test hk]
  clear hk
  cases hL : Op.bytesLess (bs k).toList [48]
  · go_enter Try.func26, Try.ntmps26
    go_wp2
    go_ret
    exact ⟨rfl, rfl⟩
  · go_enter Try.func26, Try.ntmps26
    go_wp2
    go_ret
    exact ⟨rfl, rfl⟩
theorem phr_Count (a b : Int) (w : World) :
    Calls Try.prog 28 #[.int .i64 a, .int .i64 b] w fun e w' => e = .returned (.int .i64 (Phr.count a b)) ∧ w = w' := by
  by_cases h : a < 1 ∨ b < 1
  · have H : Hid (Phr.count a b = max (max (min a 99) (min b 99)) 0) := Lib.hid (by rw [Phr.count, if_pos h])
    have h2 : min a 99 < 1 ∨ min b 99 < 1 := by omega
    clear h
    rcases Int.lt_or_le (min a 99) 1 with ha | ha
    · go_enter Try.func28, Try.ntmps28
      go_wp2
      all_goals (go_ret; first | exact ⟨by rw [show Phr.count a b = 0 by rw [H.out]; omega]; rfl, rfl⟩ | exact ⟨by rw [show Phr.count a b = min b 99 by rw [H.out]; omega]; rfl, rfl⟩ | exact ⟨by rw [show Phr.count a b = min a 99 by rw [H.out]; omega]; rfl, rfl⟩)
    · have hb : min b 99 < 1 := by omega
      go_enter Try.func28, Try.ntmps28
      go_wp2
      all_goals (go_ret; first | exact ⟨by rw [show Phr.count a b = 0 by rw [H.out]; omega]; rfl, rfl⟩ | exact ⟨by rw [show Phr.count a b = min b 99 by rw [H.out]; omega]; rfl, rfl⟩ | exact ⟨by rw [show Phr.count a b = min a 99 by rw [H.out]; omega]; rfl, rfl⟩)
  · have H : Hid (Phr.count a b = min (min a 99 * min b 99) 99) := Lib.hid (by rw [Phr.count, if_neg h])
    have ha : ¬ min a 99 < 1 := by omega
    have hb : ¬ min b 99 < 1 := by omega
    have m0 : 0 ≤ min a 99 * min b 99 := Int.mul_nonneg (by omega) (by omega)
    have m1 : min a 99 * min b 99 ≤ 99 * 99 := Int.mul_le_mul (by omega) (by omega) (by omega) (by omega)
    have z : wrap64 (min a 99 * min b 99) = min a 99 * min b 99 := by unfold wrap64; omega
    clear h
    go_enter Try.func28, Try.ntmps28
    go_wp2
    go_ret
    exact ⟨by rw [H.out]; rfl, rfl⟩
set_option maxRecDepth 100000 in
theorem phr_word_nil {g : Nat} {w : World} {c : Cmd} {dry : Bool} (h : Rdr g w c [] dry) :
    Calls Try.prog 14 #[.pointer (some ⟨g, 0, none⟩)] w fun e w' => e = .returned (.string (bs [])) ∧ Rdr g w' c [] true ∧ w.grownBy w' (some g) := by
  have C := Lib.hid (phr_next_none h)
  have q : ((bs []).toList == [103]) = false := by rw [bs_tl]; rfl
  clear h
  go_enter Try.func14, Try.ntmps14
  go_wp2_with (go_at_call 27; refine C.out.mono ?_; rintro e w1 ⟨rfl, h1, g1⟩)
  go_ret
  exact ⟨rfl, h1, g1⟩
set_option maxRecDepth 100000 in
theorem phr_word_g {g : Nat} {w : World} {c : Cmd} {dry : Bool} (h : Rdr g w c [[103]] dry) :
    Calls Try.prog 14 #[.pointer (some ⟨g, 0, none⟩)] w fun e w' => e = .returned (.string (bs [103])) ∧ Rdr g w' c [] true ∧ w.grownBy w' (some g) := by
  have C := Lib.hid (phr_next h)
  have q : ((bs [103]).toList == [103]) = true := by rw [bs_tl]; rfl
  clear h
  go_enter Try.func14, Try.ntmps14
  go_wp2_with (first
    | (go_at_call 27; refine C.out.mono ?_; rintro e w1 ⟨rfl, h1, g1⟩; clear C; have C2 := Lib.hid (phr_next_none h1); clear h1)
    | (go_at_call 27; refine C2.out.mono ?_; rintro e w2 ⟨rfl, h2, g2⟩))
  go_ret
  exact ⟨rfl, h2, gb_trans g1 g2⟩
set_option maxRecDepth 100000 in
theorem phr_word_two {g : Nat} {w : World} {c : Cmd} {dry : Bool} {k : List UInt8} {t : List (List UInt8)} (h : Rdr g w c ([103] :: k :: t) dry) :
    Calls Try.prog 14 #[.pointer (some ⟨g, 0, none⟩)] w fun e w' => e = .returned (.string (bs (103 :: k))) ∧ Rdr g w' c t dry ∧ w.grownBy w' (some g) := by
  have C := Lib.hid (phr_next h)
  have q : ((bs [103]).toList == [103]) = true := by rw [bs_tl]; rfl
  have H : Hid (bs (103 :: k) = bs [103] ++ bs k) := Lib.hid (by rw [bs_append]; rfl)
  have hk : (bs k).size ≤ 4 := by rw [bs_size]; exact Utf.one_le (h.ones k (by simp))
  have h103 : (bs [103]).size = 1 := rfl
  clear h
  go_enter Try.func14, Try.ntmps14
  go_wp2_with (first
    | (go_at_call 27; refine C.out.mono ?_; rintro e w1 ⟨rfl, h1, g1⟩; clear C; have C2 := Lib.hid (phr_next h1); clear h1)
    | (go_at_call 27; refine C2.out.mono ?_; rintro e w2 ⟨rfl, h2, g2⟩))
  go_ret
  exact ⟨by rw [H.out]; rfl, h2, gb_trans g1 g2⟩
set_option maxRecDepth 100000 in
theorem phr_word_one {g : Nat} {w : World} {c : Cmd} {dry : Bool} {k : List UInt8} {t : List (List UInt8)} (h : Rdr g w c (k :: t) dry) (hk : k ≠ [103]) :
    Calls Try.prog 14 #[.pointer (some ⟨g, 0, none⟩)] w fun e w' => e = .returned (.string (bs k)) ∧ Rdr g w' c t dry ∧ w.grownBy w' (some g) := by
  have C := Lib.hid (phr_next h)
  have q : ((bs k).toList == [103]) = false := by rw [bs_tl, beq_eq_false_iff_ne]; exact hk
  clear h
  go_enter Try.func14, Try.ntmps14
  go_wp2_with (go_at_call 27; refine C.out.mono ?_; rintro e w1 ⟨rfl, h1, g1⟩)
  go_ret
  exact ⟨rfl, h1, g1⟩
/-- A word, or too little for one. -/
theorem phr_word {g : Nat} {w : World} {c : Cmd} {dry : Bool} {ks : List (List UInt8)} (h : Rdr g w c ks dry) :
    Calls Try.prog 14 #[.pointer (some ⟨g, 0, none⟩)] w fun e w' => w.grownBy w' (some g) ∧ ((∃ x t, Phr.word ks = some (x, t) ∧ e = .returned (.string (bs x)) ∧ Rdr g w' c t dry) ∨ Phr.word ks = none ∧ ∃ x, (x = [] ∨ x = [103]) ∧ e = .returned (.string (bs x)) ∧ Rdr g w' c [] true) := by
  match ks, h with
  | [], h => exact (phr_word_nil h).mono fun e w' ⟨h1, h2, h3⟩ => ⟨h3, .inr ⟨rfl, _, .inl rfl, h1, h2⟩⟩
  | k :: t, h =>
    by_cases hk : k = [103]
    · subst hk
      match t, h with
      | [], h => exact (phr_word_g h).mono fun e w' ⟨h1, h2, h3⟩ => ⟨h3, .inr ⟨by simp [Phr.word], _, .inr rfl, h1, h2⟩⟩
      | k :: t, h => exact (phr_word_two h).mono fun e w' ⟨h1, h2, h3⟩ => ⟨h3, .inl ⟨_, _, by simp [Phr.word], h1, h2⟩⟩
    · exact (phr_word_one h hk).mono fun e w' ⟨h1, h2, h3⟩ => ⟨h3, .inl ⟨_, _, by simp [Phr.word, hk], h1, h2⟩⟩
namespace Phr
/-- How many keys a reader has left. -/
def left (g : Nat) (w : World) : Nat := match w.cell? ⟨g, 5, none⟩ with | some v => lenOf v | none => 0
theorem Rdr.left {g : Nat} {w : World} {c : Cmd} {ks : List (List UInt8)} {dry : Bool} (h : Rdr g w c ks dry) : Phr.left g w = ks.length := by
  obtain ⟨A, n, hb, _⟩ := h
  have := hb.cell 5
  unfold Phr.left
  rw [this]
  rfl
theorem digit_byte {k : List UInt8} (h : digit k = true) : ∃ b : UInt8, k = [b] ∧ 48 ≤ b.toNat ∧ b.toNat ≤ 57 := by
  unfold digit at h
  split at h
  · rename_i b; simp at h; exact ⟨b, rfl, h.1, h.2⟩
  · cases h
theorem digits_go {n : Int} {k : List UInt8} {t : List (List UInt8)} (h : digit k = true) : digits n (k :: t) = digits (min (n * 10 + val k) 99) t := by rw [digits, if_pos h]
theorem digits_stop {n : Int} {k : List UInt8} {t : List (List UInt8)} (h : digit k = false) : digits n (k :: t) = (n, k :: t) := by rw [digits, if_neg (by rw [h]; decide)]
theorem digits_nil (n : Int) : digits n [] = (n, []) := rfl
theorem count_none {a : Int} (h0 : 0 ≤ a) (h1 : a ≤ 99) : count a 0 = a := by unfold count; rw [if_pos (by omega)]; omega
theorem count_zero {a : Int} (h0 : 0 ≤ a) (h1 : a ≤ 99) : count 0 a = a := by unfold count; rw [if_pos (by omega)]; omega
end Phr
set_option maxHeartbeats 1000000 in
set_option maxRecDepth 100000 in
theorem phr_count_zero {g : Nat} {w : World} {c : Cmd} {t : List (List UInt8)} {dry : Bool} (h : Rdr g w c ([48] :: t) dry) :
    Calls Try.prog 12 #[.pointer (some ⟨g, 0, none⟩)] w fun e w' => e = .returned (.tuple #[]) ∧ w = w' := by
  have C := Lib.hid (phr_ahead h)
  have q : ((bs [48]).toList == [48]) = true := by rw [bs_tl]; rfl
  clear h
  go_enter Try.func12, Try.ntmps12
  go_wp2_with (go_at_call 25; refine C.out.mono ?_; rintro e w1 ⟨rfl, rfl⟩)
  refine bodyPost_ret (results_none rfl _ _ _) rfl ?_
  exact ⟨rfl, rfl⟩
/-- What is ahead. -/
theorem phr_front {g : Nat} {w : World} {c : Cmd} {ks : List (List UInt8)} {dry : Bool} (h : Rdr g w c ks dry) :
    Calls Try.prog 25 #[.pointer (some ⟨g, 0, none⟩)] w fun e w' => e = .returned (.string (bs (ks.headD []))) ∧ w = w' := by
  cases ks with
  | nil => exact phr_ahead_none h
  | cons k t => exact phr_ahead h
set_option maxHeartbeats 1000000 in
set_option maxRecDepth 100000 in
theorem phr_count_some {g : Nat} {w : World} {c : Cmd} {ks : List (List UInt8)} {dry : Bool} (h : Rdr g w c ks dry) (h0 : ks.headD [] ≠ [48]) :
    Calls Try.prog 12 #[.pointer (some ⟨g, 0, none⟩)] w fun e w' => e = .returned (.tuple #[]) ∧ Rdr g w' {c with count := Phr.count c.count (Phr.digits 0 ks).1} (Phr.digits 0 ks).2 dry ∧ w.grownBy w' (some g) := by
  have C := Lib.hid (phr_front h)
  have q : ((bs (ks.headD [])).toList == [48]) = false := by rw [bs_tl, beq_eq_false_iff_ne]; exact h0
  obtain ⟨D, hD⟩ : ∃ D, Phr.digits 0 ks = D := ⟨_, rfl⟩
  have HD := Lib.hid hD
  have H := Lib.hid h
  rw [hD]
  clear hD h h0
  generalize ks.headD [] = k0 at *
  go_enter Try.func12, Try.ntmps12
  go_wp2_with (go_at_call 25; refine C.out.mono ?_; rintro e w1 ⟨rfl, rfl⟩)
  go_loopw [2] (fun nv wr => ∃ (n : Int) (l : List (List UInt8)), nv = .int .i64 n ∧ 0 ≤ n ∧ n ≤ 99 ∧ Hid (Rdr g wr c l dry) ∧ Hid (Phr.digits n l = D) ∧ w.grownBy wr (some g)) (fun _ wr => Phr.left g wr)
  case atStart => exact ⟨0, ks, rfl, by omega, by omega, H, HD, gb_drewN w 0 _⟩
  case round =>
    obtain ⟨n, l, rfl, n0, n1, hr, hd, hg⟩ := hrel
    have F := Lib.hid (phr_front hr.out)
    have hkey : Phr.Key (l.headD []) := by
      cases l with
      | nil => exact .inl rfl
      | cons k t => exact .inr (hr.out.ones k (by simp))
    have G := Lib.hid (fun w => phr_digit hkey w)
    clear hkey
    cases hdg : Phr.digit (l.headD []) with
    | true =>
      rw [hdg] at G
      cases l with
      | nil => cases hdg
      | cons k t =>
        obtain ⟨b, e, hb0, hb1⟩ := Phr.digit_byte (k := k) hdg
        subst e
        have Q0 : 0 < (bs [b]).size := by rw [bs_size]; exact Nat.one_pos
        have Q1 : (((bs [b])[0].toNat : Int) - 48) % 256 = (b.toNat : Int) - 48 := by
          show ((b.toNat : Int) - 48) % 256 = _
          omega
        have N := Lib.hid (phr_next hr.out)
        have hd2 := hd.out
        rw [Phr.digits_go (k := [b]) hdg] at hd2
        have z : wrap64 (n * 10 + ((b.toNat : Int) - 48)) = n * 10 + ((b.toNat : Int) - 48) := by unfold wrap64; omega
        have HD2 := Lib.hid hd2
        have LL := Lib.hid hr.out.left
        clear hr hd hdg hd2 HD H C
        go_wp2_with (first
          | (go_at_call 25; refine F.out.mono ?_; rintro e w2 ⟨rfl, rfl⟩)
          | (go_at_call 26; refine (G.out _).mono ?_; rintro e w3 ⟨rfl, rfl⟩)
          | (go_at_call 27; refine N.out.mono ?_; rintro e w4 ⟨rfl, h4, g4⟩))
        go_roundw
        case rel => exact ⟨_, _, rfl, by omega, by omega, Lib.hid h4, HD2, gb_trans hg g4⟩
        case measure => rw [h4.left, LL.out]; simp
    | false =>
      rw [hdg] at G
      have hd2 := hd.out
      have e2 : Phr.digits n l = (n, l) := by
        cases l with
        | nil => rfl
        | cons k t => exact Phr.digits_stop hdg
      rw [e2] at hd2
      subst hd2
      obtain ⟨A, m, hb, _⟩ := hr.out
      have c1 := hb.cell 1
      have f1 := hb.frozen 1
      simp [Phr.cells] at c1
      have CC := Lib.hid (fun w => phr_Count c.count n w)
      have HR := hr
      have W1 : Hid (Rdr g (wr.setCell ⟨g, 1, none⟩ (.int .i64 (Phr.count c.count n))) {c with count := Phr.count c.count n} l dry) := Lib.hid (hr.out.set_ (fun v => rfl))
      clear hb hd hdg e2 HD hr
      generalize l.headD [] = k1 at *
      go_wp2_with (first
        | (go_at_call 25; refine F.out.mono ?_; rintro e w2 ⟨rfl, rfl⟩)
        | (go_at_call 26; refine (G.out _).mono ?_; rintro e w3 ⟨rfl, rfl⟩)
        | (go_at_call 28; refine (CC.out _).mono ?_; rintro e w3 ⟨rfl, rfl⟩))
      go_end0
      exact ⟨rfl, W1.out, gb_trans hg (gb_set _ _ _ _)⟩
end Go.Proofs.Ytchpkeelnfmlbaa
