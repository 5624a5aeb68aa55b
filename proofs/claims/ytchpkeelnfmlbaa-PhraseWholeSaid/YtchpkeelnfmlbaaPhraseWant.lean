/-
  The reader of keys: counts, a register, what wants a key behind it.
-/
import Derived.Test.YtchpkeelnfmlbaaPhraseRead
import Derived.Test.YtchpkeelnfmlbaaKeySign
import Derived.Test.YtchpkeelnfmlbaaThingMap
import Derived.Test.YtchpkeelnfmlbaaRegName
import Derived.Test.YtchpkeelnfmlbaaSpanKind
namespace Go.Proofs.Ytchpkeelnfmlbaa
open Go.RowKit
open Phr (Cmd Ans Rdr)
theorem phr_count {g : Nat} {w : World} {c : Cmd} {ks : List (List UInt8)} {dry : Bool} (h : Rdr g w c ks dry) (h0 : 0 ≤ c.count) (h1 : c.count ≤ 99) :
    Calls Try.prog 12 #[.pointer (some ⟨g, 0, none⟩)] w fun e w' => e = .returned (.tuple #[]) ∧ Rdr g w' {c with count := Phr.count c.count (Phr.number ks).1} (Phr.number ks).2 dry ∧ w.grownBy w' (some g) := by
  cases ks with
  | nil => exact phr_count_some h (by decide)
  | cons k t =>
    by_cases hk : k = [48]
    · subst hk
      refine (phr_count_zero h).mono ?_
      rintro e w' ⟨rfl, rfl⟩
      refine ⟨rfl, ?_, gb_drewN w 0 _⟩
      have e1 : Phr.number ([48] :: t) = (0, [48] :: t) := by simp [Phr.number]
      rw [e1, Phr.count_none h0 h1]
      exact h
    · have e1 : Phr.number (k :: t) = Phr.digits 0 (k :: t) := by simp [Phr.number, hk]
      rw [e1]
      exact phr_count_some h hk
namespace Phr
/-- What a reader's way ends as. -/
def out (read : Bool) (c : Cmd) (ks : List (List UInt8)) (dry : Bool) : Ans := if dry then more else if read = false ∨ ks ≠ [] then bad else (c, 2)
/-- What it ends as, if it was not dry. -/
def wet (dry : Bool) (x : Ans) : Ans := if dry then more else x
def EndsAs (g : Nat) (w : World) (F : Ans) (e : Ending) (w' : World) : Prop :=
  w.grownBy w' (some g) ∧ ∃ (read dry : Bool) (c : Cmd) (ks : List (List UInt8)), e = .returned (.bool read) ∧ Rdr g w' c ks dry ∧ out read c ks dry = F
theorem out_dry (read : Bool) (c : Cmd) (ks : List (List UInt8)) : out read c ks true = more := rfl
theorem out_bad (c : Cmd) (ks : List (List UInt8)) (dry : Bool) : out false c ks dry = wet dry bad := by cases dry <;> simp [out, wet]
theorem out_last (c : Cmd) (ks : List (List UInt8)) (dry : Bool) : out true c ks dry = wet dry (last c ks) := by
  cases dry
  · simp only [out, wet, last, Bool.false_eq_true, if_false]
    by_cases h : ks = [] <;> simp [h]
  · rfl
theorem wet_more (dry : Bool) : wet dry more = more := by cases dry <;> rfl
theorem out_behind {b : Bool} {c : Cmd} {n : Nat} {k : List UInt8} {t : List (List UInt8)} {dry : Bool} (h : b = fits n k) : out b {c with arg := k} t dry = wet dry (behind c n (k :: t)) := by
  subst h
  cases dry
  · cases t with
    | nil => simp only [out, wet, behind, Bool.false_eq_true, if_false]; cases fits n k <;> simp
    | cons a t => simp [out, wet, behind]
  · rfl
theorem wet_behind_nil (c : Cmd) (n : Nat) (dry : Bool) : wet dry (behind c n []) = more := wet_more dry
end Phr
open Phr (EndsAs wet)
set_option maxHeartbeats 1000000 in
set_option maxRecDepth 100000 in
theorem phr_sign_nil {g : Nat} {w : World} {c : Cmd} {dry : Bool} (h : Rdr g w c [] dry) :
    Calls Try.prog 31 #[.pointer (some ⟨g, 0, none⟩)] w (EndsAs g w (Phr.more)) := by
  have C := Lib.hid (phr_next_none h)
  have K := Lib.hid (fun w => key_Sign (bs []) (by decide) w)
  have q : ((bs []).toList == [9]) = false := by rw [bs_tl]; rfl
  rw [show (Utf.one (bs []).data.toList && Key.sgn (bs []).data.toList) = false from rfl] at K
  clear h
  go_enter Try.func31, Try.ntmps31
  go_wp2_with (first
    | (go_at_call 27; refine C.out.mono ?_; rintro e w1 ⟨rfl, h1, g1⟩; have c4 := h1.cell4; have f4 := h1.frozen 4; have S1 : Hid (Rdr g (w1.setCell ⟨g, 4, none⟩ (.string (bs []))) {c with arg := []} [] true) := Lib.hid (h1.set_ (fun v => rfl)); have x4 : (w1.setCell ⟨g, 4, none⟩ (.string (bs []))).cell? ⟨g, 4, none⟩ = some (.string (bs [])) := S1.out.cell4; clear h1)
    | (go_at_call 35; refine (K.out _).mono ?_; rintro e w2 ⟨rfl, g2⟩; have S2 := Lib.hid (S1.out.grown (gb_below none g2)); have y4 : w2.cell? ⟨g, 4, none⟩ = some (.string (bs [])) := S2.out.cell4; have gg := gb_trans (gb_trans g1 (gb_set w1 g 4 (.string (bs [])))) (gb_below (some g) g2); clear S1 g2))
  go_ret
  exact ⟨gg, _, _, _, _, rfl, S2.out, rfl⟩
set_option maxHeartbeats 1000000 in
set_option maxRecDepth 100000 in
theorem phr_sign_yes {g : Nat} {w : World} {c : Cmd} {dry : Bool} {k : List UInt8} {t : List (List UInt8)} (h : Rdr g w c (k :: t) dry) (hs : (Utf.one k && Key.sgn k) = true) :
    Calls Try.prog 31 #[.pointer (some ⟨g, 0, none⟩)] w (EndsAs g w (wet dry (Phr.behind c 2 (k :: t)))) := by
  have C := Lib.hid (phr_next h)
  have hk9 : (bs k).size ≤ 9223372036854775807 := by rw [bs_size]; have := Utf.one_le (h.ones k (by simp)); omega
  have K := Lib.hid (fun w => key_Sign (bs k) hk9 w)
  rw [show (Utf.one (bs k).data.toList && Key.sgn (bs k).data.toList) = true from hs] at K
  have HF : Hid (true = Phr.fits 2 k) := Lib.hid (by simp [Phr.fits, Phr.sign, hs])
  clear hk9 hs
  clear h
  go_enter Try.func31, Try.ntmps31
  go_wp2_with (first
    | (go_at_call 27; refine C.out.mono ?_; rintro e w1 ⟨rfl, h1, g1⟩; have c4 := h1.cell4; have f4 := h1.frozen 4; have S1 : Hid (Rdr g (w1.setCell ⟨g, 4, none⟩ (.string (bs k))) {c with arg := k} t dry) := Lib.hid (h1.set_ (fun v => rfl)); have x4 : (w1.setCell ⟨g, 4, none⟩ (.string (bs k))).cell? ⟨g, 4, none⟩ = some (.string (bs k)) := S1.out.cell4; clear h1)
    | (go_at_call 35; refine (K.out _).mono ?_; rintro e w2 ⟨rfl, g2⟩; have S2 := Lib.hid (S1.out.grown (gb_below none g2)); have y4 : w2.cell? ⟨g, 4, none⟩ = some (.string (bs k)) := S2.out.cell4; have gg := gb_trans (gb_trans g1 (gb_set w1 g 4 (.string (bs k)))) (gb_below (some g) g2); clear S1 g2))
  go_ret
  exact ⟨gg, _, _, _, _, rfl, S2.out, Phr.out_behind HF.out⟩
set_option maxHeartbeats 1000000 in
set_option maxRecDepth 100000 in
theorem phr_sign_not {g : Nat} {w : World} {c : Cmd} {dry : Bool} {k : List UInt8} {t : List (List UInt8)} (h : Rdr g w c (k :: t) dry) (hs : (Utf.one k && Key.sgn k) = false) :
    Calls Try.prog 31 #[.pointer (some ⟨g, 0, none⟩)] w (EndsAs g w (wet dry (Phr.behind c 2 (k :: t)))) := by
  have C := Lib.hid (phr_next h)
  have hk9 : (bs k).size ≤ 9223372036854775807 := by rw [bs_size]; have := Utf.one_le (h.ones k (by simp)); omega
  have K := Lib.hid (fun w => key_Sign (bs k) hk9 w)
  rw [show (Utf.one (bs k).data.toList && Key.sgn (bs k).data.toList) = false from hs] at K
  have HF : Hid (((bs k).toList == [9]) = Phr.fits 2 k) := Lib.hid (by show _ = Phr.sign k; rw [Phr.sign, hs, Bool.false_or, Bool.eq_iff_iff]; simp [bs_tl])
  clear hk9 hs
  clear h
  go_enter Try.func31, Try.ntmps31
  go_wp2_with (first
    | (go_at_call 27; refine C.out.mono ?_; rintro e w1 ⟨rfl, h1, g1⟩; have c4 := h1.cell4; have f4 := h1.frozen 4; have S1 : Hid (Rdr g (w1.setCell ⟨g, 4, none⟩ (.string (bs k))) {c with arg := k} t dry) := Lib.hid (h1.set_ (fun v => rfl)); have x4 : (w1.setCell ⟨g, 4, none⟩ (.string (bs k))).cell? ⟨g, 4, none⟩ = some (.string (bs k)) := S1.out.cell4; clear h1)
    | (go_at_call 35; refine (K.out _).mono ?_; rintro e w2 ⟨rfl, g2⟩; have S2 := Lib.hid (S1.out.grown (gb_below none g2)); have y4 : w2.cell? ⟨g, 4, none⟩ = some (.string (bs k)) := S2.out.cell4; have gg := gb_trans (gb_trans g1 (gb_set w1 g 4 (.string (bs k)))) (gb_below (some g) g2); clear S1 g2))
  go_ret
  exact ⟨gg, _, _, _, _, rfl, S2.out, Phr.out_behind HF.out⟩
theorem phr_sign {g : Nat} {w : World} {c : Cmd} {dry : Bool} {ks : List (List UInt8)} (h : Rdr g w c ks dry) :
    Calls Try.prog 31 #[.pointer (some ⟨g, 0, none⟩)] w (EndsAs g w (wet dry (Phr.behind c 2 ks))) := by
  cases ks with
  | nil => rw [Phr.wet_behind_nil]; exact phr_sign_nil h
  | cons k t =>
    cases hs : (Utf.one k && Key.sgn k) with
    | true => exact phr_sign_yes h hs
    | false => exact phr_sign_not h hs
set_option maxHeartbeats 1000000 in
set_option maxRecDepth 100000 in
theorem phr_letter_nil {g : Nat} {w : World} {c : Cmd} {dry : Bool} (h : Rdr g w c [] dry) :
    Calls Try.prog 32 #[.pointer (some ⟨g, 0, none⟩)] w (EndsAs g w (Phr.more)) := by
  have C := Lib.hid (phr_next_none h)
  have L : Op.bytesLess (bs []).toList [97] = true := by rw [bs_tl]; rfl
  clear h
  go_enter Try.func32, Try.ntmps32
  go_wp2_with (first
    | (go_at_call 27; refine C.out.mono ?_; rintro e w1 ⟨rfl, h1, g1⟩; have c4 := h1.cell4; have f4 := h1.frozen 4; have S1 : Hid (Rdr g (w1.setCell ⟨g, 4, none⟩ (.string (bs []))) {c with arg := []} [] true) := Lib.hid (h1.set_ (fun v => rfl)); have x4 : (w1.setCell ⟨g, 4, none⟩ (.string (bs []))).cell? ⟨g, 4, none⟩ = some (.string (bs [])) := S1.out.cell4; clear h1))
  go_ret
  exact ⟨gb_trans g1 (gb_set w1 g 4 (.string (bs []))), _, _, _, _, rfl, S1.out, rfl⟩
set_option maxHeartbeats 1000000 in
set_option maxRecDepth 100000 in
theorem phr_letter_low {g : Nat} {w : World} {c : Cmd} {dry : Bool} {k : List UInt8} {t : List (List UInt8)} (h : Rdr g w c (k :: t) dry) (hs : Op.bytesLess (bs k).toList [97] = true) :
    Calls Try.prog 32 #[.pointer (some ⟨g, 0, none⟩)] w (EndsAs g w (wet dry (Phr.behind c 3 (k :: t)))) := by
  have C := Lib.hid (phr_next h)
  have HF : Hid (false = Phr.fits 3 k) := Lib.hid (by show false = Phr.letter k; rw [Phr.letter_test (.inr (h.ones k (by simp))), hs]; rfl)
  clear h
  go_enter Try.func32, Try.ntmps32
  go_wp2_with (first
    | (go_at_call 27; refine C.out.mono ?_; rintro e w1 ⟨rfl, h1, g1⟩; have c4 := h1.cell4; have f4 := h1.frozen 4; have S1 : Hid (Rdr g (w1.setCell ⟨g, 4, none⟩ (.string (bs k))) {c with arg := k} t dry) := Lib.hid (h1.set_ (fun v => rfl)); have x4 : (w1.setCell ⟨g, 4, none⟩ (.string (bs k))).cell? ⟨g, 4, none⟩ = some (.string (bs k)) := S1.out.cell4; clear h1))
  go_ret
  exact ⟨gb_trans g1 (gb_set w1 g 4 (.string (bs k))), _, _, _, _, rfl, S1.out, Phr.out_behind HF.out⟩
set_option maxHeartbeats 1000000 in
set_option maxRecDepth 100000 in
theorem phr_letter_on {g : Nat} {w : World} {c : Cmd} {dry : Bool} {k : List UInt8} {t : List (List UInt8)} (h : Rdr g w c (k :: t) dry) (hs : Op.bytesLess (bs k).toList [97] = false) :
    Calls Try.prog 32 #[.pointer (some ⟨g, 0, none⟩)] w (EndsAs g w (wet dry (Phr.behind c 3 (k :: t)))) := by
  have C := Lib.hid (phr_next h)
  have HF : Hid ((Op.bytesLess (bs k).toList [122] || (bs k).toList == [122]) = Phr.fits 3 k) := Lib.hid (by show _ = Phr.letter k; rw [Phr.letter_test (.inr (h.ones k (by simp))), hs]; rfl)
  clear h
  go_enter Try.func32, Try.ntmps32
  go_wp2_with (first
    | (go_at_call 27; refine C.out.mono ?_; rintro e w1 ⟨rfl, h1, g1⟩; have c4 := h1.cell4; have f4 := h1.frozen 4; have S1 : Hid (Rdr g (w1.setCell ⟨g, 4, none⟩ (.string (bs k))) {c with arg := k} t dry) := Lib.hid (h1.set_ (fun v => rfl)); have x4 : (w1.setCell ⟨g, 4, none⟩ (.string (bs k))).cell? ⟨g, 4, none⟩ = some (.string (bs k)) := S1.out.cell4; clear h1))
  go_ret
  exact ⟨gb_trans g1 (gb_set w1 g 4 (.string (bs k))), _, _, _, _, rfl, S1.out, Phr.out_behind HF.out⟩
theorem phr_letter {g : Nat} {w : World} {c : Cmd} {dry : Bool} {ks : List (List UInt8)} (h : Rdr g w c ks dry) :
    Calls Try.prog 32 #[.pointer (some ⟨g, 0, none⟩)] w (EndsAs g w (wet dry (Phr.behind c 3 ks))) := by
  cases ks with
  | nil => rw [Phr.wet_behind_nil]; exact phr_letter_nil h
  | cons k t =>
    cases hs : Op.bytesLess (bs k).toList [97] with
    | true => exact phr_letter_low h hs
    | false => exact phr_letter_on h hs
set_option maxHeartbeats 1000000 in
set_option maxRecDepth 100000 in
theorem phr_part_nil {g : Nat} {w : World} {c : Cmd} {dry : Bool} (x : List UInt8) (h : Rdr g w c [] dry) :
    Calls Try.prog 33 #[.pointer (some ⟨g, 0, none⟩), .string (bs x)] w (EndsAs g w (Phr.more)) := by
  have C := Lib.hid (phr_next_none h)
  have hk9 : (bs []).size ≤ 9223372036854775807 := by decide
  have K := Lib.hid (fun w => thing_Has (bs []) hk9 w)
  rw [bs_toList] at K

  clear h
  go_enter Try.func33, Try.ntmps33
  go_wp2_with (first
    | (go_at_call 27; refine C.out.mono ?_; rintro e w1 ⟨rfl, h1, g1⟩; have c3 := h1.cell3; have f3 := h1.frozen 3; have S0 : Hid (Rdr g (w1.setCell ⟨g, 3, none⟩ (.string (bs x))) {c with key := x} [] true) := Lib.hid (h1.set_ (fun v => rfl)); have c4 := S0.out.cell4; have f4 := S0.out.frozen 4; have S1 : Hid (Rdr g ((w1.setCell ⟨g, 3, none⟩ (.string (bs x))).setCell ⟨g, 4, none⟩ (.string (bs []))) {c with key := x, arg := []} [] true) := Lib.hid (S0.out.set_ (fun v => rfl)); have x4 : ((w1.setCell ⟨g, 3, none⟩ (.string (bs x))).setCell ⟨g, 4, none⟩ (.string (bs []))).cell? ⟨g, 4, none⟩ = some (.string (bs [])) := S1.out.cell4; simp only at c4; clear h1 S0)
    | (go_at_call 36; refine (K.out _).mono ?_; rintro e w2 ⟨rfl, g2⟩; have S2 := Lib.hid (S1.out.grown (gb_below none g2)); have gg := gb_trans (gb_trans (gb_trans g1 (gb_set w1 g 3 (.string (bs x)))) (gb_set _ g 4 (.string (bs [])))) (gb_below (some g) g2); clear S1 g2))
  go_ret
  exact ⟨gg, _, _, _, _, rfl, S2.out, rfl⟩
set_option maxHeartbeats 1000000 in
set_option maxRecDepth 100000 in
theorem phr_part_key {g : Nat} {w : World} {c : Cmd} {dry : Bool} (x : List UInt8) {k : List UInt8} {t : List (List UInt8)} (h : Rdr g w c (k :: t) dry) :
    Calls Try.prog 33 #[.pointer (some ⟨g, 0, none⟩), .string (bs x)] w (EndsAs g w (wet dry (Phr.behind {c with key := x} 1 (k :: t)))) := by
  have C := Lib.hid (phr_next h)
  have hk9 : (bs k).size ≤ 9223372036854775807 := by rw [bs_size]; have := Utf.one_le (h.ones k (by simp)); omega
  have K := Lib.hid (fun w => thing_Has (bs k) hk9 w)
  rw [bs_toList] at K
  have HF : Hid ((Thing.num k).isSome = Phr.fits 1 k) := Lib.hid rfl
  generalize (Thing.num k).isSome = z at *
  clear h
  go_enter Try.func33, Try.ntmps33
  go_wp2_with (first
    | (go_at_call 27; refine C.out.mono ?_; rintro e w1 ⟨rfl, h1, g1⟩; have c3 := h1.cell3; have f3 := h1.frozen 3; have S0 : Hid (Rdr g (w1.setCell ⟨g, 3, none⟩ (.string (bs x))) {c with key := x} t dry) := Lib.hid (h1.set_ (fun v => rfl)); have c4 := S0.out.cell4; have f4 := S0.out.frozen 4; have S1 : Hid (Rdr g ((w1.setCell ⟨g, 3, none⟩ (.string (bs x))).setCell ⟨g, 4, none⟩ (.string (bs k))) {c with key := x, arg := k} t dry) := Lib.hid (S0.out.set_ (fun v => rfl)); have x4 : ((w1.setCell ⟨g, 3, none⟩ (.string (bs x))).setCell ⟨g, 4, none⟩ (.string (bs k))).cell? ⟨g, 4, none⟩ = some (.string (bs k)) := S1.out.cell4; simp only at c4; clear h1 S0)
    | (go_at_call 36; refine (K.out _).mono ?_; rintro e w2 ⟨rfl, g2⟩; have S2 := Lib.hid (S1.out.grown (gb_below none g2)); have gg := gb_trans (gb_trans (gb_trans g1 (gb_set w1 g 3 (.string (bs x)))) (gb_set _ g 4 (.string (bs k)))) (gb_below (some g) g2); clear S1 g2))
  go_ret
  exact ⟨gg, _, _, _, _, rfl, S2.out, Phr.out_behind (c := {c with key := x}) HF.out⟩
theorem phr_part {g : Nat} {w : World} {c : Cmd} {dry : Bool} {ks : List (List UInt8)} (x : List UInt8) (h : Rdr g w c ks dry) :
    Calls Try.prog 33 #[.pointer (some ⟨g, 0, none⟩), .string (bs x)] w (EndsAs g w (wet dry (Phr.goes {c with key := x} 1 ks))) := by
  cases ks with
  | nil => rw [show wet dry (Phr.goes {c with key := x} 1 []) = Phr.more from Phr.wet_more dry]; exact phr_part_nil x h
  | cons k t => exact phr_part_key x h
set_option maxHeartbeats 1000000 in
set_option maxRecDepth 100000 in
theorem phr_motion_102 {g : Nat} {w : World} {c : Cmd} {dry : Bool} {ks : List (List UInt8)} {x : List UInt8} (h : Rdr g w c ks dry) (q0 : ((bs x).toList == [102]) = true) :
    Calls Try.prog 16 #[.pointer (some ⟨g, 0, none⟩), .string (bs x)] w (EndsAs g w (wet dry (Phr.behind {c with key := x} 2 ks))) := by
  have c3 := h.cell3
  have f3 := h.frozen 3
  have S0 : Hid (Rdr g (w.setCell ⟨g, 3, none⟩ (.string (bs x))) {c with key := x} ks dry) := Lib.hid (h.set_ (fun v => rfl))
  have C := Lib.hid (phr_sign S0.out)
  clear h
  go_enter Try.func16, Try.ntmps16
  go_wp2_with (first
    | (go_at_call 31; refine C.out.mono ?_; rintro e w1 ⟨g1, read, d1, c1, l1, rfl, h1, e1⟩))
  go_ret
  exact ⟨gb_trans (gb_set w g 3 (.string (bs x))) g1, _, _, _, _, rfl, h1, e1⟩
set_option maxHeartbeats 1000000 in
set_option maxRecDepth 100000 in
theorem phr_motion_70 {g : Nat} {w : World} {c : Cmd} {dry : Bool} {ks : List (List UInt8)} {x : List UInt8} (h : Rdr g w c ks dry) (q0 : ((bs x).toList == [102]) = false) (q1 : ((bs x).toList == [70]) = true) :
    Calls Try.prog 16 #[.pointer (some ⟨g, 0, none⟩), .string (bs x)] w (EndsAs g w (wet dry (Phr.behind {c with key := x} 2 ks))) := by
  have c3 := h.cell3
  have f3 := h.frozen 3
  have S0 : Hid (Rdr g (w.setCell ⟨g, 3, none⟩ (.string (bs x))) {c with key := x} ks dry) := Lib.hid (h.set_ (fun v => rfl))
  have C := Lib.hid (phr_sign S0.out)
  clear h
  go_enter Try.func16, Try.ntmps16
  go_wp2_with (first
    | (go_at_call 31; refine C.out.mono ?_; rintro e w1 ⟨g1, read, d1, c1, l1, rfl, h1, e1⟩))
  go_ret
  exact ⟨gb_trans (gb_set w g 3 (.string (bs x))) g1, _, _, _, _, rfl, h1, e1⟩
set_option maxHeartbeats 1000000 in
set_option maxRecDepth 100000 in
theorem phr_motion_116 {g : Nat} {w : World} {c : Cmd} {dry : Bool} {ks : List (List UInt8)} {x : List UInt8} (h : Rdr g w c ks dry) (q0 : ((bs x).toList == [102]) = false) (q1 : ((bs x).toList == [70]) = false) (q2 : ((bs x).toList == [116]) = true) :
    Calls Try.prog 16 #[.pointer (some ⟨g, 0, none⟩), .string (bs x)] w (EndsAs g w (wet dry (Phr.behind {c with key := x} 2 ks))) := by
  have c3 := h.cell3
  have f3 := h.frozen 3
  have S0 : Hid (Rdr g (w.setCell ⟨g, 3, none⟩ (.string (bs x))) {c with key := x} ks dry) := Lib.hid (h.set_ (fun v => rfl))
  have C := Lib.hid (phr_sign S0.out)
  clear h
  go_enter Try.func16, Try.ntmps16
  go_wp2_with (first
    | (go_at_call 31; refine C.out.mono ?_; rintro e w1 ⟨g1, read, d1, c1, l1, rfl, h1, e1⟩))
  go_ret
  exact ⟨gb_trans (gb_set w g 3 (.string (bs x))) g1, _, _, _, _, rfl, h1, e1⟩
set_option maxHeartbeats 1000000 in
set_option maxRecDepth 100000 in
theorem phr_motion_84 {g : Nat} {w : World} {c : Cmd} {dry : Bool} {ks : List (List UInt8)} {x : List UInt8} (h : Rdr g w c ks dry) (q0 : ((bs x).toList == [102]) = false) (q1 : ((bs x).toList == [70]) = false) (q2 : ((bs x).toList == [116]) = false) (q3 : ((bs x).toList == [84]) = true) :
    Calls Try.prog 16 #[.pointer (some ⟨g, 0, none⟩), .string (bs x)] w (EndsAs g w (wet dry (Phr.behind {c with key := x} 2 ks))) := by
  have c3 := h.cell3
  have f3 := h.frozen 3
  have S0 : Hid (Rdr g (w.setCell ⟨g, 3, none⟩ (.string (bs x))) {c with key := x} ks dry) := Lib.hid (h.set_ (fun v => rfl))
  have C := Lib.hid (phr_sign S0.out)
  clear h
  go_enter Try.func16, Try.ntmps16
  go_wp2_with (first
    | (go_at_call 31; refine C.out.mono ?_; rintro e w1 ⟨g1, read, d1, c1, l1, rfl, h1, e1⟩))
  go_ret
  exact ⟨gb_trans (gb_set w g 3 (.string (bs x))) g1, _, _, _, _, rfl, h1, e1⟩
set_option maxHeartbeats 1000000 in
set_option maxRecDepth 100000 in
theorem phr_motion_39 {g : Nat} {w : World} {c : Cmd} {dry : Bool} {ks : List (List UInt8)} {x : List UInt8} (h : Rdr g w c ks dry) (q0 : ((bs x).toList == [102]) = false) (q1 : ((bs x).toList == [70]) = false) (q2 : ((bs x).toList == [116]) = false) (q3 : ((bs x).toList == [84]) = false) (q4 : ((bs x).toList == [39]) = true) :
    Calls Try.prog 16 #[.pointer (some ⟨g, 0, none⟩), .string (bs x)] w (EndsAs g w (wet dry (Phr.behind {c with key := x} 3 ks))) := by
  have c3 := h.cell3
  have f3 := h.frozen 3
  have S0 : Hid (Rdr g (w.setCell ⟨g, 3, none⟩ (.string (bs x))) {c with key := x} ks dry) := Lib.hid (h.set_ (fun v => rfl))
  have C := Lib.hid (phr_letter S0.out)
  clear h
  go_enter Try.func16, Try.ntmps16
  go_wp2_with (first
    | (go_at_call 32; refine C.out.mono ?_; rintro e w1 ⟨g1, read, d1, c1, l1, rfl, h1, e1⟩))
  go_ret
  exact ⟨gb_trans (gb_set w g 3 (.string (bs x))) g1, _, _, _, _, rfl, h1, e1⟩
set_option maxHeartbeats 1000000 in
set_option maxRecDepth 100000 in
theorem phr_motion_96 {g : Nat} {w : World} {c : Cmd} {dry : Bool} {ks : List (List UInt8)} {x : List UInt8} (h : Rdr g w c ks dry) (q0 : ((bs x).toList == [102]) = false) (q1 : ((bs x).toList == [70]) = false) (q2 : ((bs x).toList == [116]) = false) (q3 : ((bs x).toList == [84]) = false) (q4 : ((bs x).toList == [39]) = false) (q5 : ((bs x).toList == [96]) = true) :
    Calls Try.prog 16 #[.pointer (some ⟨g, 0, none⟩), .string (bs x)] w (EndsAs g w (wet dry (Phr.behind {c with key := x} 3 ks))) := by
  have c3 := h.cell3
  have f3 := h.frozen 3
  have S0 : Hid (Rdr g (w.setCell ⟨g, 3, none⟩ (.string (bs x))) {c with key := x} ks dry) := Lib.hid (h.set_ (fun v => rfl))
  have C := Lib.hid (phr_letter S0.out)
  clear h
  go_enter Try.func16, Try.ntmps16
  go_wp2_with (first
    | (go_at_call 32; refine C.out.mono ?_; rintro e w1 ⟨g1, read, d1, c1, l1, rfl, h1, e1⟩))
  go_ret
  exact ⟨gb_trans (gb_set w g 3 (.string (bs x))) g1, _, _, _, _, rfl, h1, e1⟩
set_option maxHeartbeats 1000000 in
set_option maxRecDepth 100000 in
theorem phr_motion_bare {g : Nat} {w : World} {c : Cmd} {dry : Bool} {ks : List (List UInt8)} {x : List UInt8} (h : Rdr g w c ks dry) (q0 : ((bs x).toList == [102]) = false) (q1 : ((bs x).toList == [70]) = false) (q2 : ((bs x).toList == [116]) = false) (q3 : ((bs x).toList == [84]) = false) (q4 : ((bs x).toList == [39]) = false) (q5 : ((bs x).toList == [96]) = false) :
    Calls Try.prog 16 #[.pointer (some ⟨g, 0, none⟩), .string (bs x)] w (EndsAs g w (wet dry (Phr.last {c with key := x} ks))) := by
  have c3 := h.cell3
  have f3 := h.frozen 3
  have S0 : Hid (Rdr g (w.setCell ⟨g, 3, none⟩ (.string (bs x))) {c with key := x} ks dry) := Lib.hid (h.set_ (fun v => rfl))

  clear h
  go_enter Try.func16, Try.ntmps16
  go_wp2
  go_ret
  exact ⟨gb_set w g 3 (.string (bs x)), _, _, _, _, rfl, S0.out, Phr.out_last _ _ _⟩
theorem Phr.bs_test (x l : List UInt8) : ((bs x).toList == l) = decide (x = l) := by rw [Span.key_test, bs_toList]
theorem phr_motion {g : Nat} {w : World} {c : Cmd} {dry : Bool} {ks : List (List UInt8)} {x : List UInt8} {n : Nat} (h : Rdr g w c ks dry) (hm : Phr.mot x = some n) :
    Calls Try.prog 16 #[.pointer (some ⟨g, 0, none⟩), .string (bs x)] w (EndsAs g w (wet dry (Phr.goes {c with key := x} n ks))) := by
  unfold Phr.mot at hm
  by_cases h1 : x ∈ Phr.finds
  · rw [if_pos h1] at hm
    injection hm with hm
    subst hm
    simp only [Phr.finds, List.mem_cons, List.not_mem_nil, or_false] at h1
    rcases h1 with rfl | rfl | rfl | rfl
    · exact phr_motion_102 h (by rw [Phr.bs_test]; rfl)
    · exact phr_motion_70 h (by rw [Phr.bs_test]; rfl) (by rw [Phr.bs_test]; rfl)
    · exact phr_motion_116 h (by rw [Phr.bs_test]; rfl) (by rw [Phr.bs_test]; rfl) (by rw [Phr.bs_test]; rfl)
    · exact phr_motion_84 h (by rw [Phr.bs_test]; rfl) (by rw [Phr.bs_test]; rfl) (by rw [Phr.bs_test]; rfl) (by rw [Phr.bs_test]; rfl)
  rw [if_neg h1] at hm
  by_cases h2 : x ∈ Phr.marks
  · rw [if_pos h2] at hm
    injection hm with hm
    subst hm
    simp only [Phr.marks, List.mem_cons, List.not_mem_nil, or_false] at h2
    rcases h2 with rfl | rfl
    · exact phr_motion_39 h (by rw [Phr.bs_test]; rfl) (by rw [Phr.bs_test]; rfl) (by rw [Phr.bs_test]; rfl) (by rw [Phr.bs_test]; rfl) (by rw [Phr.bs_test]; rfl)
    · exact phr_motion_96 h (by rw [Phr.bs_test]; rfl) (by rw [Phr.bs_test]; rfl) (by rw [Phr.bs_test]; rfl) (by rw [Phr.bs_test]; rfl) (by rw [Phr.bs_test]; rfl) (by rw [Phr.bs_test]; rfl)
  rw [if_neg h2] at hm
  split at hm
  · injection hm with hm
    subst hm
    simp only [Phr.finds, Phr.marks, List.mem_cons, List.not_mem_nil, or_false, not_or] at h1 h2
    refine phr_motion_bare h ?_ ?_ ?_ ?_ ?_ ?_ <;> rw [Phr.bs_test] <;> simp [h1, h2]
  · cases hm
end Go.Proofs.Ytchpkeelnfmlbaa
