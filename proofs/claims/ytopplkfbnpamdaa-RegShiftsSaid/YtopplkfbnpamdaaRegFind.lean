/-
  Where the register of a name stands, or would stand: package reg's way, by the library's search.
-/
import Derived.Test.YtopplkfbnpamdaaRegRight
namespace Go.Proofs.Ytopplkfbnpamdaa
open Go.RowKit
open Reg
namespace Reg
/-- How two numbers compare. -/
def cmpI (a b : Int) : Int := if a < b then -1 else if b < a then 1 else 0
theorem rises {ks : List Rg} (h : ks.Pairwise fun a b => a.name < b.name) {i j : Nat} (hij : i ≤ j) {x y : Rg} (hx : ks[i]? = some x) (hy : ks[j]? = some y) : x.name ≤ y.name := by
  rcases Nat.lt_or_eq_of_le hij with hlt | rfl
  · obtain ⟨a, rfl⟩ := List.getElem?_eq_some_iff.1 hx
    obtain ⟨b, rfl⟩ := List.getElem?_eq_some_iff.1 hy
    have := List.pairwise_iff_getElem.1 h i j a b hlt
    omega
  · rw [hx] at hy; injection hy with hy; rw [hy]; exact Int.le_refl _
theorem cnt_of {n : Int} : ∀ {ks : List Rg} {i : Nat}, i ≤ ks.length → (∀ t x, t < i → ks[t]? = some x → x.name < n) → (∀ t x, i ≤ t → ks[t]? = some x → n ≤ x.name) → cnt ks n = i
  | [], i, h, _, _ => by simp at h; subst h; rfl
  | a :: r, 0, _, _, h2 => by
    unfold cnt
    rw [List.countP_eq_zero]
    intro x hx
    obtain ⟨t, ht, rfl⟩ := List.getElem_of_mem hx
    have := h2 t _ (Nat.zero_le _) (List.getElem?_eq_getElem ht)
    simp; omega
  | a :: r, i + 1, h, h1, h2 => by
    have ha := h1 0 a (by omega) rfl
    have ih := cnt_of (ks := r) (i := i) (by simpa using h) (fun t x ht hx => h1 (t + 1) x (by omega) (by simpa using hx)) (fun t x ht hx => h2 (t + 1) x (by omega) (by simpa using hx))
    unfold cnt at ih ⊢
    rw [List.countP_cons_of_pos (by simpa using ha), ih]
end Reg
theorem cmp_isNaN (a : Int) (w : World) : Calls Try.prog 45 #[.int .i64 a] w fun e w' => e = .returned (.bool false) ∧ w = w' := by
  go_enter Try.func45, Try.ntmps45
  go_wp2
  go_ret
  exact ⟨rfl, rfl⟩
theorem cmp_Compare (a b : Int) (w : World) : Calls Try.prog 39 #[.int .i64 a, .int .i64 b] w fun e w' => e = .returned (.int .i64 (cmpI a b)) ∧ w = w' := by
  have N := Lib.hid cmp_isNaN
  by_cases h1 : a < b
  · have H : Hid (cmpI a b = -1) := by show _ = _; rw [cmpI, if_pos h1]
    go_enter Try.func39, Try.ntmps39
    go_wp2_with (go_at_call 45; refine (N.out _ _).mono ?_; rintro e w1 ⟨rfl, rfl⟩)
    go_ret
    exact ⟨by rw [H.out]; rfl, rfl⟩
  · by_cases h2 : b < a
    · have H : Hid (cmpI a b = 1) := by show _ = _; rw [cmpI, if_neg h1, if_pos h2]
      have d1 : decide (a < b) = false := decide_eq_false h1
      have d2 : decide (b < a) = true := decide_eq_true h2
      clear h1 h2
      go_enter Try.func39, Try.ntmps39
      go_wp2_with (go_at_call 45; refine (N.out _ _).mono ?_; rintro e w1 ⟨rfl, rfl⟩)
      go_ret
      exact ⟨by rw [H.out]; rfl, rfl⟩
    · have H : Hid (cmpI a b = 0) := by show _ = _; rw [cmpI, if_neg h1, if_neg h2]
      have d1 : decide (a < b) = false := decide_eq_false h1
      have d2 : decide (b < a) = false := decide_eq_false h2
      clear h1 h2
      go_enter Try.func39, Try.ntmps39
      go_wp2_with (go_at_call 45; refine (N.out _ _).mono ?_; rintro e w1 ⟨rfl, rfl⟩)
      go_ret
      exact ⟨by rw [H.out]; rfl, rfl⟩
set_option maxHeartbeats 1000000 in
set_option maxRecDepth 100000 in
theorem reg_closure (a : Int) (p : Bool) (t : ByteArray) (n : Int) (w : World) : Calls Try.prog 38 #[.agg #[.int .i64 a, .bool p, .string t], .int .i64 n] w fun e w' => e = .returned (.int .i64 (cmpI a n)) ∧ Below w.heap.size w w' := by
  have C := Lib.hid (cmp_Compare a n)
  have h0 : Below w.heap.size w (w.alloc (.cells #[.int .i64 a, .bool p, .string t] 32)) := (Below.refl _ w).alloc (Nat.le_refl _) _
  have b0 := Blk.new w 32 #[.int .i64 a, .bool p, .string t]
  have d0 : (w.alloc (.cells #[.int .i64 a, .bool p, .string t] 32)).cell? ⟨w.heap.size, 0, none⟩ = some (.int .i64 a) := b0.cell 0
  have d1 : (w.alloc (.cells #[.int .i64 a, .bool p, .string t] 32)).cell? ⟨w.heap.size, 1, none⟩ = some (.bool p) := b0.cell 1
  have d2 : (w.alloc (.cells #[.int .i64 a, .bool p, .string t] 32)).cell? ⟨w.heap.size, 2, none⟩ = some (.string t) := b0.cell 2
  clear b0
  go_enter Try.func38, Try.ntmps38
  go_wp2_with (go_at_call 39; refine (C.out _).mono ?_; rintro e w1 ⟨rfl, rfl⟩)
  go_ret
  exact ⟨rfl, h0⟩
set_option maxHeartbeats 2000000 in
set_option maxRecDepth 100000 in
theorem rg_search (n : Int) {A : Option Addr} {c : Nat} {ks : List Rg} {w : World} (hx : Rgs w A ks) (hp : ks.Pairwise fun a b => a.name < b.name) (hm : ks.length ≤ 1000) :
    Calls Try.prog 37 #[.slice A ks.length c, .int .i64 n, .func (.func 38) #[] #[]] w fun e w' => e = .returned (.tuple #[.int .i64 (cnt ks n : Nat), .bool (has ks n)]) ∧ Below w.heap.size w w' := by
  have HP := Lib.hid hp
  have CL := Lib.hid reg_closure
  have S1 : Hid (∀ t x, t < 0 → ks[t]? = some x → x.name < n) := fun t x ht => absurd ht (Nat.not_lt_zero _)
  have S2 : Hid (∀ t x, ks.length ≤ t → ks[t]? = some x → n ≤ x.name) := fun t x ht hx => by rw [List.getElem?_eq_none ht] at hx; cases hx
  clear hp
  go_enter Try.func37, Try.ntmps37
  go_wp2_with fail
  go_loopw [9, 10] (fun iv jv wr => ∃ lo hi : Nat, iv = .int .i64 lo ∧ jv = .int .i64 hi ∧ lo ≤ hi ∧ hi ≤ ks.length ∧ Hid (∀ t x, t < lo → ks[t]? = some x → x.name < n) ∧ Hid (∀ t x, hi ≤ t → ks[t]? = some x → n ≤ x.name) ∧ Below w.heap.size w wr) (fun iv jv _ => (intOf jv).toNat - (intOf iv).toNat)
  case atStart => exact ⟨0, ks.length, rfl, rfl, Nat.zero_le _, Nat.le_refl _, S1, S2, Below.refl _ _⟩
  case round =>
    obtain ⟨lo, hi, rfl, rfl, hlh, hhl, H1, H2, hW⟩ := hrel
    by_cases hlt : lo < hi
    · have hml : (lo + hi) / 2 < ks.length := by omega
      obtain ⟨x, hkx⟩ : ∃ x, ks[(lo + hi) / 2]? = some x := ⟨_, List.getElem?_eq_getElem hml⟩
      obtain ⟨b, off, rfl, hbw, c0, c1, c2⟩ := hx.at_ hW (Nat.le_refl _) hkx
      have C := Lib.hid (CL.out x.name x.lines x.text n)
      by_cases hc : x.name < n
      · have H1' : Hid (∀ t x, t < (lo + hi) / 2 + 1 → ks[t]? = some x → x.name < n) := fun t y ht hy => by have := rises HP.out (by omega : t ≤ (lo + hi) / 2) hy hkx; omega
        rw [show cmpI x.name n = -1 from by rw [cmpI, if_pos hc]] at C
        clear hkx hx hc
        go_wp2_with (go_at_call 38; refine (C.out _).mono ?_; rintro e w1 ⟨rfl, hb1⟩)
        go_roundw
        case rel => exact ⟨(lo + hi) / 2 + 1, hi, by rw [show ((lo : Int) + (hi : Int)) / 2 + 1 = (((lo + hi) / 2 + 1 : Nat) : Int) by omega], rfl, by omega, hhl, H1', H2, hW.trans (hb1.mono hW.size)⟩
        case measure => simp [intOf]; omega
      · have H2' : Hid (∀ t x, (lo + hi) / 2 ≤ t → ks[t]? = some x → n ≤ x.name) := fun t y ht hy => by have := rises HP.out ht hkx hy; omega
        obtain ⟨r, hr⟩ : ∃ r, cmpI x.name n = r := ⟨_, rfl⟩
        have hr0 : decide (r < 0) = false := by rw [← hr, cmpI, if_neg hc]; split <;> decide
        rw [hr] at C
        clear hkx hx hc hr
        go_wp2_with (go_at_call 38; refine (C.out _).mono ?_; rintro e w1 ⟨rfl, hb1⟩)
        go_roundw
        case rel => exact ⟨lo, (lo + hi) / 2, rfl, by rw [show ((lo : Int) + (hi : Int)) / 2 = (((lo + hi) / 2 : Nat) : Int) by omega], by omega, by omega, H1, H2', hW.trans (hb1.mono hW.size)⟩
        case measure => simp [intOf]; omega
    · obtain rfl : hi = lo := by omega
      have hcn : cnt ks n = hi := cnt_of hhl H1.out H2.out
      have hat := at_cnt HP.out n
      rw [hcn] at hat
      by_cases hlt2 : hi < ks.length
      · obtain ⟨x, hkx⟩ : ∃ x, ks[hi]? = some x := ⟨_, List.getElem?_eq_getElem hlt2⟩
        obtain ⟨b, off, rfl, hbw, c0, c1, c2⟩ := hx.at_ hW (Nat.le_refl _) hkx
        have C := Lib.hid (CL.out x.name x.lines x.text n)
        have hge := H2.out hi x (Nat.le_refl _) hkx
        have f0 : decide ((hi : Int) < (ks.length : Int)) = true := decide_eq_true (by omega)
        by_cases hn : x.name = n
        · have H : Hid (cnt ks n = hi ∧ has ks n = true) := ⟨hcn, by
            rcases hat with ⟨y, h1, h2, h3, _⟩ | ⟨h1, _⟩
            · rw [has, h3]; rfl
            · exact absurd hn (h1 x hkx)⟩
          rw [show cmpI x.name n = 0 from by rw [cmpI, if_neg (by omega), if_neg (by omega)]] at C
          clear hkx hx hn hge hat hcn
          go_wp2_with (go_at_call 38; refine (C.out _).mono ?_; rintro e w1 ⟨rfl, hb1⟩)
          go_ret2
          exact ⟨by rw [H.out.1, H.out.2]; rfl, hW.trans (hb1.mono hW.size)⟩
        · have H : Hid (cnt ks n = hi ∧ has ks n = false) := ⟨hcn, by
            rcases hat with ⟨y, h1, h2, h3, _⟩ | ⟨_, h2, _⟩
            · rw [hkx] at h1; injection h1 with h1; exact absurd (h1 ▸ h2) hn
            · rw [has, h2]; rfl⟩
          rw [show cmpI x.name n = 1 from by rw [cmpI, if_neg (by omega), if_pos (by omega)]] at C
          clear hkx hx hn hge hat hcn
          go_wp2_with (go_at_call 38; refine (C.out _).mono ?_; rintro e w1 ⟨rfl, hb1⟩)
          go_ret2
          exact ⟨by rw [H.out.1, H.out.2]; rfl, hW.trans (hb1.mono hW.size)⟩
      · have f0 : decide ((hi : Int) < (ks.length : Int)) = false := decide_eq_false (by omega)
        have H : Hid (cnt ks n = hi ∧ has ks n = false) := ⟨hcn, by
          rcases hat with ⟨y, h1, _⟩ | ⟨_, h2, _⟩
          · rw [List.getElem?_eq_none (by omega)] at h1; cases h1
          · rw [has, h2]; rfl⟩
        clear hx hat hcn
        go_wp2
        go_ret2
        exact ⟨by rw [H.out.1, H.out.2]; rfl, hW⟩
theorem reg_find (n : Int) {A : Option Addr} {c : Nat} {ks : List Rg} {w : World} (hx : Rgs w A ks) (hp : Nam ks) :
    Calls Try.prog 23 #[.slice A ks.length c, .int .i64 n] w fun e w' => e = .returned (.tuple #[.int .i64 (cnt ks n : Nat), .bool (has ks n)]) ∧ Below w.heap.size w w' := by
  have C := Lib.hid (rg_search n (c := c) hx hp.2 (by have := hp.length_le; omega))
  clear hx hp
  go_enter Try.func23, Try.ntmps23
  go_wp2_with (go_at_call 37; refine C.out.mono ?_; rintro e w1 ⟨rfl, hb1⟩)
  go_ret2
  exact ⟨rfl, hb1⟩
end Go.Proofs.Ytopplkfbnpamdaa
