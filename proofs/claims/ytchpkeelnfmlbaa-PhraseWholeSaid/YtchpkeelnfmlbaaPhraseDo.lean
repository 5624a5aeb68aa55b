/-
  The reader of keys: a register, what an operator works on, a command; package phrase's Parse.
-/
import Derived.Test.YtchpkeelnfmlbaaPhraseSwitch
import Derived.Test.YtchpkeelnfmlbaaKeySplit
namespace Go.Proofs.Ytchpkeelnfmlbaa
open Go.RowKit
open Phr (Cmd Ans Rdr EndsAs wet)
namespace Phr
/-- What follows a count. -/
def after (visual : Bool) (n : Int) (l : List (List UInt8)) : Ans := if l.head? = some [34] then reg visual n l.tail else run visual ⟨0, n, [], [], []⟩ l
theorem after_quote (visual : Bool) (n : Int) (l : List (List UInt8)) : after visual n ([34] :: l) = reg visual n l := by simp [after]
/-- What a register's end is: none, and that is the end; or one, or nothing, and all goes on. -/
def RegAs (g : Nat) (w : World) (visual : Bool) (F : Ans) (e : Ending) (w' : World) : Prop :=
  w.grownBy w' (some g) ∧ ((e = .returned (.bool false) ∧ ∃ (dry : Bool) (c : Cmd) (ks : List (List UInt8)), Rdr g w' c ks dry ∧ out false c ks dry = F) ∨ (e = .returned (.bool true) ∧ ∃ (r n : Int) (l : List (List UInt8)), Rdr g w' ⟨r, n, [], [], []⟩ l false ∧ 0 ≤ n ∧ n ≤ 99 ∧ run visual ⟨r, n, [], [], []⟩ l = F))
end Phr
open Phr (RegAs)
set_option maxHeartbeats 1000000 in
set_option maxRecDepth 100000 in
theorem phr_register_none {g : Nat} {w : World} {n : Int} {l : List (List UInt8)} (visual : Bool) (h : Rdr g w ⟨0, n, [], [], []⟩ l false) (h0 : 0 ≤ n) (h1 : n ≤ 99) (hq : l.headD [] ≠ [34]) :
    Calls Try.prog 13 #[.pointer (some ⟨g, 0, none⟩)] w (RegAs g w visual (Phr.after visual n l)) := by
  have C := Lib.hid (phr_front h)
  have q : ((bs (l.headD [])).toList == [34]) = false := by rw [bs_tl, beq_eq_false_iff_ne]; exact hq
  have HF : Hid (Phr.run visual ⟨0, n, [], [], []⟩ l = Phr.after visual n l) := Lib.hid (by
    rw [Phr.after, if_neg]
    intro e
    cases l with
    | nil => cases e
    | cons k t => injection e with e; exact hq e)
  have H := Lib.hid h
  clear h hq
  generalize l.headD [] = k0 at *
  go_enter Try.func13, Try.ntmps13
  go_wp2_with (go_at_call 25; refine C.out.mono ?_; rintro e w1 ⟨rfl, rfl⟩)
  go_ret
  exact ⟨gb_drewN w 0 _, .inr ⟨rfl, _, _, _, H.out, h0, h1, HF.out⟩⟩
set_option maxHeartbeats 1000000 in
set_option maxRecDepth 100000 in
theorem phr_register_end {g : Nat} {w : World} {n : Int} (visual : Bool) (h : Rdr g w ⟨0, n, [], [], []⟩ [[34]] false) :
    Calls Try.prog 13 #[.pointer (some ⟨g, 0, none⟩)] w (RegAs g w visual (Phr.after visual n [[34]])) := by
  have C := Lib.hid (phr_ahead h)
  have q : ((bs [34]).toList == [34]) = true := by rw [bs_tl]; rfl
  have N := Lib.hid (phr_next h)
  have HF : Hid (Phr.more = Phr.after visual n [[34]]) := Lib.hid rfl
  have s0 : (bs []).size = 0 := rfl
  clear h
  go_enter Try.func13, Try.ntmps13
  go_wp2_with (first
    | (go_at_call 25; refine C.out.mono ?_; rintro e w1 ⟨rfl, rfl⟩)
    | (go_at_call 27; refine N.out.mono ?_; rintro e w1 ⟨rfl, h1, g1⟩; clear N; have N2 := Lib.hid (phr_next_none h1); clear h1)
    | (go_at_call 27; refine N2.out.mono ?_; rintro e w2 ⟨rfl, h2, g2⟩))
  go_ret
  exact ⟨gb_trans g1 g2, .inl ⟨rfl, _, _, _, h2, HF.out⟩⟩
set_option maxHeartbeats 1000000 in
set_option maxRecDepth 100000 in
theorem phr_register_long {g : Nat} {w : World} {n : Int} {k : List UInt8} {t : List (List UInt8)} (visual : Bool) (h : Rdr g w ⟨0, n, [], [], []⟩ ([34] :: k :: t) false) (hk : k.length ≠ 1) :
    Calls Try.prog 13 #[.pointer (some ⟨g, 0, none⟩)] w (RegAs g w visual (Phr.after visual n ([34] :: k :: t))) := by
  have C := Lib.hid (phr_ahead h)
  have q : ((bs [34]).toList == [34]) = true := by rw [bs_tl]; rfl
  have N := Lib.hid (phr_next h)
  have HF : Hid (∀ (c : Cmd) (ks : List (List UInt8)), Phr.out false c ks false = Phr.after visual n ([34] :: k :: t)) := Lib.hid (fun c ks => by
    have e : Phr.name k = false := by
      unfold Phr.name
      split
      · exact absurd rfl hk
      · rfl
    rw [Phr.out_bad, Phr.after_quote]
    simp [Phr.reg, e, Phr.wet])
  have s0 : ((bs k).size : Int) ≠ 1 := by rw [bs_size]; omega
  clear h hk
  go_enter Try.func13, Try.ntmps13
  go_wp2_with (first
    | (go_at_call 25; refine C.out.mono ?_; rintro e w1 ⟨rfl, rfl⟩)
    | (go_at_call 27; refine N.out.mono ?_; rintro e w1 ⟨rfl, h1, g1⟩; clear N; have N2 := Lib.hid (phr_next h1); clear h1)
    | (go_at_call 27; refine N2.out.mono ?_; rintro e w2 ⟨rfl, h2, g2⟩))
  go_ret
  exact ⟨gb_trans g1 g2, .inl ⟨rfl, _, _, _, h2, HF.out _ _⟩⟩
set_option maxHeartbeats 1000000 in
set_option maxRecDepth 100000 in
theorem phr_register_not {g : Nat} {w : World} {n : Int} {b : UInt8} {t : List (List UInt8)} (visual : Bool) (h : Rdr g w ⟨0, n, [], [], []⟩ ([34] :: [b] :: t) false) (hk : Reg.nameN (b.toNat : Int) = 0) :
    Calls Try.prog 13 #[.pointer (some ⟨g, 0, none⟩)] w (RegAs g w visual (Phr.after visual n ([34] :: [b] :: t))) := by
  have C := Lib.hid (phr_ahead h)
  have q : ((bs [34]).toList == [34]) = true := by rw [bs_tl]; rfl
  have N := Lib.hid (phr_next h)
  have N2' : Hid (∀ (u : World) , Rdr g u ⟨0, n, [], [], []⟩ ([b] :: t) false → Calls Try.prog 27 #[.pointer (some ⟨g, 0, none⟩)] u fun e w' => e = .returned (.string (bs [b])) ∧ Rdr g w' ⟨0, n, [], [], []⟩ t false ∧ u.grownBy w' (some g)) := Lib.hid (fun u hu => phr_next hu)
  have HF : Hid (∀ (c : Cmd) (ks : List (List UInt8)), Phr.out false c ks false = Phr.after visual n ([34] :: [b] :: t)) := Lib.hid (fun c ks => by
    have e : Phr.name [b] = false := by simp [Phr.name, hk]
    rw [Phr.out_bad, Phr.after_quote]
    simp [Phr.reg, e, Phr.wet])
  have M := Lib.hid (fun w => reg_Name (b.toNat : Int) w)
  rw [hk] at M
  obtain ⟨s, hS⟩ : ∃ s, bs [b] = s := ⟨_, rfl⟩
  have Q0 : 0 < s.size := by rw [← hS]; exact Nat.one_pos
  have s0 : (s.size : Int) = 1 := by rw [← hS]; rfl
  have Q1 : (s[0].toNat : Int) = (b.toNat : Int) := by subst hS; rfl
  rw [hS] at N2'
  have z : wrap64 (b.toNat : Int) = (b.toNat : Int) := by have := b.toNat_lt; unfold wrap64; omega
  clear h hk hS
  go_enter Try.func13, Try.ntmps13
  go_wp2_with (first
    | (go_at_call 25; refine C.out.mono ?_; rintro e w1 ⟨rfl, rfl⟩)
    | (go_at_call 27; refine N.out.mono ?_; rintro e w1 ⟨rfl, h1, g1⟩; clear N; have N2 := Lib.hid (N2'.out _ h1); clear h1)
    | (go_at_call 27; refine N2.out.mono ?_; rintro e w2 ⟨rfl, h2, g2⟩)
    | (go_at_call 29; with_reducible refine (M.out _).mono ?_; rintro e w3 ⟨rfl, rfl⟩))
  go_ret
  exact ⟨gb_trans g1 g2, .inl ⟨rfl, _, _, _, h2, HF.out _ _⟩⟩
set_option maxHeartbeats 1000000 in
set_option maxRecDepth 100000 in
theorem phr_register_yes {g : Nat} {w : World} {n : Int} {b : UInt8} {t : List (List UInt8)} (visual : Bool) (h : Rdr g w ⟨0, n, [], [], []⟩ ([34] :: [b] :: t) false) (h0 : 0 ≤ n) (h1 : n ≤ 99) (hk : Reg.nameN (b.toNat : Int) ≠ 0) :
    Calls Try.prog 13 #[.pointer (some ⟨g, 0, none⟩)] w (RegAs g w visual (Phr.after visual n ([34] :: [b] :: t))) := by
  have C := Lib.hid (phr_ahead h)
  have q : ((bs [34]).toList == [34]) = true := by rw [bs_tl]; rfl
  have N := Lib.hid (phr_next h)
  have N2' : Hid (∀ (u : World) , Rdr g u ⟨0, n, [], [], []⟩ ([b] :: t) false → Calls Try.prog 27 #[.pointer (some ⟨g, 0, none⟩)] u fun e w' => e = .returned (.string (bs [b])) ∧ Rdr g w' ⟨0, n, [], [], []⟩ t false ∧ u.grownBy w' (some g)) := Lib.hid (fun u hu => phr_next hu)
  have HF : Hid (Phr.run visual ⟨(b.toNat : Nat), Phr.count n (Phr.number t).1, [], [], []⟩ (Phr.number t).2 = Phr.after visual n ([34] :: [b] :: t)) := Lib.hid (by
    rw [Phr.after_quote, Phr.reg, if_pos (by simp [Phr.name, hk])]
    rfl)
  have CI := Phr.count_in n (Phr.number t).1
  have M := Lib.hid (fun w => reg_Name (b.toNat : Int) w)
  have hnz : (Reg.nameN (b.toNat : Int) == 0) = false := by rw [beq_eq_false_iff_ne]; exact hk
  have G : Hid (∀ u, Rdr g u ⟨0, n, [], [], []⟩ t false → Calls Try.prog 12 #[.pointer (some ⟨g, 0, none⟩)] (u.setCell ⟨g, 0, none⟩ (.int .i64 (b.toNat : Int))) fun e w' => e = .returned (.tuple #[]) ∧ Rdr g w' ⟨(b.toNat : Nat), Phr.count n (Phr.number t).1, [], [], []⟩ (Phr.number t).2 false ∧ (u.setCell ⟨g, 0, none⟩ (.int .i64 (b.toNat : Int))).grownBy w' (some g)) := Lib.hid (fun u hu => phr_count (c := ⟨(b.toNat : Nat), n, [], [], []⟩) (hu.set_ (fun v => rfl)) h0 h1)
  generalize Reg.nameN (b.toNat : Int) = nn at *
  obtain ⟨s, hS⟩ : ∃ s, bs [b] = s := ⟨_, rfl⟩
  have Q0 : 0 < s.size := by rw [← hS]; exact Nat.one_pos
  have s0 : (s.size : Int) = 1 := by rw [← hS]; rfl
  have Q1 : (s[0].toNat : Int) = (b.toNat : Int) := by subst hS; rfl
  rw [hS] at N2'
  have z : wrap64 (b.toNat : Int) = (b.toNat : Int) := by have := b.toNat_lt; unfold wrap64; omega
  clear h hk hS
  go_enter Try.func13, Try.ntmps13
  go_wp2_with (first
    | (go_at_call 25; refine C.out.mono ?_; rintro e w1 ⟨rfl, rfl⟩)
    | (go_at_call 27; refine N.out.mono ?_; rintro e w1 ⟨rfl, h1, g1⟩; clear N; have N2 := Lib.hid (N2'.out _ h1); clear h1)
    | (go_at_call 27; refine N2.out.mono ?_; rintro e w2 ⟨rfl, h2, g2⟩; have c0 := h2.cell0; have f0 := h2.frozen 0; have G2 := Lib.hid (G.out _ h2); clear h2)
    | (go_at_call 29; with_reducible refine (M.out _).mono ?_; rintro e w3 ⟨rfl, rfl⟩)
    | (go_at_call 12; refine G2.out.mono ?_; rintro e w4 ⟨rfl, h4, g4⟩))
  go_ret
  exact ⟨gb_trans (gb_trans (gb_trans g1 g2) (gb_set _ g 0 _)) g4, .inr ⟨rfl, _, _, _, h4, CI.1, CI.2, HF.out⟩⟩
theorem phr_register {g : Nat} {w : World} {n : Int} {l : List (List UInt8)} (visual : Bool) (h : Rdr g w ⟨0, n, [], [], []⟩ l false) (h0 : 0 ≤ n) (h1 : n ≤ 99) :
    Calls Try.prog 13 #[.pointer (some ⟨g, 0, none⟩)] w (RegAs g w visual (Phr.after visual n l)) := by
  by_cases hq : l.headD [] = [34]
  · match l, h, hq with
    | [k0], h, hq => obtain rfl : k0 = [34] := hq; exact phr_register_end visual h
    | k0 :: k :: t, h, hq =>
      obtain rfl : k0 = [34] := hq
      by_cases hk : k.length = 1
      · obtain ⟨b, rfl⟩ := List.length_eq_one_iff.1 hk
        by_cases hn : Reg.nameN (b.toNat : Int) = 0
        · exact phr_register_not visual h hn
        · exact phr_register_yes visual h h0 h1 hn
      · exact phr_register_long visual h hk
  · exact phr_register_none visual h h0 h1 hq
end Go.Proofs.Ytchpkeelnfmlbaa
