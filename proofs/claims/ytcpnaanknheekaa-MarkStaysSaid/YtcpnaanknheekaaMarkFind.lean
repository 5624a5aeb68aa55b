/-
  Where the mark of a name stands, or would stand: package mark's way, by the library's search.
-/
import Derived.Test.YtcpnaanknheekaaMarkRight
namespace Go.Proofs.Ytcpnaanknheekaa
open Go.RowKit
open Mrk
namespace Mrk
/-- How two numbers compare. -/
def cmpI (a b : Int) : Int := if a < b then -1 else if b < a then 1 else 0
/-- Whether there is a mark of a name. -/
def has (ks : List Mk) (n : Int) : Bool := (Mrk.look ks n).isSome
theorem rises {ks : List Mk} (h : ks.Pairwise fun a b => a.name < b.name) {i j : Nat} (hij : i ≤ j) {x y : Mk} (hx : ks[i]? = some x) (hy : ks[j]? = some y) : x.name ≤ y.name := by
  rcases Nat.lt_or_eq_of_le hij with hlt | rfl
  · obtain ⟨a, rfl⟩ := List.getElem?_eq_some_iff.1 hx
    obtain ⟨b, rfl⟩ := List.getElem?_eq_some_iff.1 hy
    have := List.pairwise_iff_getElem.1 h i j a b hlt
    omega
  · rw [hx] at hy; injection hy with hy; rw [hy]; exact Int.le_refl _
theorem cnt_of {n : Int} : ∀ {ks : List Mk} {i : Nat}, i ≤ ks.length → (∀ t x, t < i → ks[t]? = some x → x.name < n) → (∀ t x, i ≤ t → ks[t]? = some x → n ≤ x.name) → cnt ks n = i
  | [], i, h, _, _ => by simp at h; subst h; rfl
  | a :: r, 0, _, _, h2 => by
    unfold cnt
    rw [List.countP_eq_zero]
    intro x hx
    obtain ⟨t, ht, rfl⟩ := List.getElem_of_mem hx
    have := h2 t _ (Nat.zero_le _) (List.getElem?_eq_getElem ht)
    simp; omega
  | a :: r, i + 1, h, h1, h2 => by
    have ha := h1 0 a (by omega) rfl
    have ih := cnt_of (ks := r) (i := i) (by simpa using h) (fun t x ht hx => h1 (t + 1) x (by omega) (by simpa using hx)) (fun t x ht hx => h2 (t + 1) x (by omega) (by simpa using hx))
    unfold cnt at ih ⊢
    rw [List.countP_cons_of_pos (by simpa using ha), ih]
end Mrk
theorem cmp_isNaN (a : Int) (w : World) : Calls Try.prog 31 #[.int .i64 a] w fun e w' => e = .returned (.bool false) ∧ w = w' := by
  go_enter Try.func31, Try.ntmps31
  go_wp2
  go_ret
  exact ⟨rfl, rfl⟩
theorem cmp_Compare (a b : Int) (w : World) : Calls Try.prog 30 #[.int .i64 a, .int .i64 b] w fun e w' => e = .returned (.int .i64 (cmpI a b)) ∧ w = w' := by
  have N := Lib.hid cmp_isNaN
  by_cases h1 : a < b
  · have H : Hid (cmpI a b = -1) := by show _ = _; rw [cmpI, if_pos h1]
    go_enter Try.func30, Try.ntmps30
    go_wp2_with (go_at_call 31; refine (N.out _ _).mono ?_; rintro e w1 ⟨rfl, rfl⟩)
    go_ret
    exact ⟨by rw [H.out]; rfl, rfl⟩
  · by_cases h2 : b < a
    · have H : Hid (cmpI a b = 1) := by show _ = _; rw [cmpI, if_neg h1, if_pos h2]
      have d1 : decide (a < b) = false := decide_eq_false h1
      have d2 : decide (b < a) = true := decide_eq_true h2
      clear h1 h2
      go_enter Try.func30, Try.ntmps30
      go_wp2_with (go_at_call 31; refine (N.out _ _).mono ?_; rintro e w1 ⟨rfl, rfl⟩)
      go_ret
      exact ⟨by rw [H.out]; rfl, rfl⟩
    · have H : Hid (cmpI a b = 0) := by show _ = _; rw [cmpI, if_neg h1, if_neg h2]
      have d1 : decide (a < b) = false := decide_eq_false h1
      have d2 : decide (b < a) = false := decide_eq_false h2
      clear h1 h2
      go_enter Try.func30, Try.ntmps30
      go_wp2_with (go_at_call 31; refine (N.out _ _).mono ?_; rintro e w1 ⟨rfl, rfl⟩)
      go_ret
      exact ⟨by rw [H.out]; rfl, rfl⟩
set_option maxHeartbeats 1000000 in
set_option maxRecDepth 100000 in
theorem find_closure (a p n : Int) (w : World) : Calls Try.prog 29 #[.agg #[.int .i64 a, .int .i64 p], .int .i64 n] w fun e w' => e = .returned (.int .i64 (cmpI a n)) ∧ Below w.heap.size w w' := by
  have C := Lib.hid (cmp_Compare a n)
  have h0 : Below w.heap.size w (w.alloc (.cells #[.int .i64 a, .int .i64 p] 44)) := (Below.refl _ w).alloc (Nat.le_refl _) _
  have b0 := Blk.new w 44 #[.int .i64 a, .int .i64 p]
  have d0 : (w.alloc (.cells #[.int .i64 a, .int .i64 p] 44)).cell? ⟨w.heap.size, 0, none⟩ = some (.int .i64 a) := b0.cell 0
  have d1 : (w.alloc (.cells #[.int .i64 a, .int .i64 p] 44)).cell? ⟨w.heap.size, 1, none⟩ = some (.int .i64 p) := b0.cell 1
  clear b0
  go_enter Try.func29, Try.ntmps29
  go_wp2_with (go_at_call 30; refine (C.out _).mono ?_; rintro e w1 ⟨rfl, rfl⟩)
  go_ret
  exact ⟨rfl, h0⟩
set_option maxHeartbeats 2000000 in
set_option maxRecDepth 100000 in
theorem sl_search (n : Int) {A : Option Addr} {c : Nat} {ks : List Mk} {w : World} (hx : Mks w A ks) (hp : ks.Pairwise fun a b => a.name < b.name) (hm : ks.length ≤ 1000) :
    Calls Try.prog 28 #[.slice A ks.length c, .int .i64 n, .func (.func 29) #[] #[]] w fun e w' => e = .returned (.tuple #[.int .i64 (cnt ks n : Nat), .bool (has ks n)]) ∧ Below w.heap.size w w' := by
  have HP := Lib.hid hp
  have CL := Lib.hid find_closure
  have S1 : Hid (∀ t x, t < 0 → ks[t]? = some x → x.name < n) := fun t x ht => absurd ht (Nat.not_lt_zero _)
  have S2 : Hid (∀ t x, ks.length ≤ t → ks[t]? = some x → n ≤ x.name) := fun t x ht hx => by rw [List.getElem?_eq_none ht] at hx; cases hx
  clear hp
  go_enter Try.func28, Try.ntmps28
  go_wp2_with fail
  go_loopw [9, 10] (fun iv jv wr => ∃ lo hi : Nat, iv = .int .i64 lo ∧ jv = .int .i64 hi ∧ lo ≤ hi ∧ hi ≤ ks.length ∧ Hid (∀ t x, t < lo → ks[t]? = some x → x.name < n) ∧ Hid (∀ t x, hi ≤ t → ks[t]? = some x → n ≤ x.name) ∧ Below w.heap.size w wr) (fun iv jv _ => (intOf jv).toNat - (intOf iv).toNat)
  case atStart => exact ⟨0, ks.length, rfl, rfl, Nat.zero_le _, Nat.le_refl _, S1, S2, Below.refl _ _⟩
  case round =>
    obtain ⟨lo, hi, rfl, rfl, hlh, hhl, H1, H2, hW⟩ := hrel
    by_cases hlt : lo < hi
    · have hml : (lo + hi) / 2 < ks.length := by omega
      obtain ⟨x, hkx⟩ : ∃ x, ks[(lo + hi) / 2]? = some x := ⟨_, List.getElem?_eq_getElem hml⟩
      obtain ⟨b, off, rfl, hbw, c0, c1⟩ := hx.at_ hW (Nat.le_refl _) hkx
      have C := Lib.hid (CL.out x.name x.at_ n)
      by_cases hc : x.name < n
      · have H1' : Hid (∀ t x, t < (lo + hi) / 2 + 1 → ks[t]? = some x → x.name < n) := fun t y ht hy => by have := rises HP.out (by omega : t ≤ (lo + hi) / 2) hy hkx; omega
        rw [show cmpI x.name n = -1 from by rw [cmpI, if_pos hc]] at C
        clear hkx hx hc
        go_wp2_with (go_at_call 29; refine (C.out _).mono ?_; rintro e w1 ⟨rfl, hb1⟩)
        go_roundw
        case rel => exact ⟨(lo + hi) / 2 + 1, hi, by rw [show ((lo : Int) + (hi : Int)) / 2 + 1 = (((lo + hi) / 2 + 1 : Nat) : Int) by omega], rfl, by omega, hhl, H1', H2, hW.trans (hb1.mono hW.size)⟩
        case measure => simp [intOf]; omega
      · have H2' : Hid (∀ t x, (lo + hi) / 2 ≤ t → ks[t]? = some x → n ≤ x.name) := fun t y ht hy => by have := rises HP.out ht hkx hy; omega
        obtain ⟨r, hr⟩ : ∃ r, cmpI x.name n = r := ⟨_, rfl⟩
        have hr0 : decide (r < 0) = false := by rw [← hr, cmpI, if_neg hc]; split <;> decide
        rw [hr] at C
        clear hkx hx hc hr
        go_wp2_with (go_at_call 29; refine (C.out _).mono ?_; rintro e w1 ⟨rfl, hb1⟩)
        go_roundw
        case rel => exact ⟨lo, (lo + hi) / 2, rfl, by rw [show ((lo : Int) + (hi : Int)) / 2 = (((lo + hi) / 2 : Nat) : Int) by omega], by omega, by omega, H1, H2', hW.trans (hb1.mono hW.size)⟩
        case measure => simp [intOf]; omega
    · obtain rfl : hi = lo := by omega
      have hcn : cnt ks n = hi := cnt_of hhl H1.out H2.out
      have hat := at_cnt HP.out n
      rw [hcn] at hat
      by_cases hlt2 : hi < ks.length
      · obtain ⟨x, hkx⟩ : ∃ x, ks[hi]? = some x := ⟨_, List.getElem?_eq_getElem hlt2⟩
        obtain ⟨b, off, rfl, hbw, c0, c1⟩ := hx.at_ hW (Nat.le_refl _) hkx
        have C := Lib.hid (CL.out x.name x.at_ n)
        have hge := H2.out hi x (Nat.le_refl _) hkx
        have f0 : decide ((hi : Int) < (ks.length : Int)) = true := decide_eq_true (by omega)
        by_cases hn : x.name = n
        · have H : Hid (cnt ks n = hi ∧ has ks n = true) := ⟨hcn, by
            rcases hat with ⟨y, h1, h2, h3, _⟩ | ⟨h1, _⟩
            · rw [has, h3]; rfl
            · exact absurd hn (h1 x hkx)⟩
          rw [show cmpI x.name n = 0 from by rw [cmpI, if_neg (by omega), if_neg (by omega)]] at C
          clear hkx hx hn hge hat hcn
          go_wp2_with (go_at_call 29; refine (C.out _).mono ?_; rintro e w1 ⟨rfl, hb1⟩)
          go_ret2
          exact ⟨by rw [H.out.1, H.out.2]; rfl, hW.trans (hb1.mono hW.size)⟩
        · have H : Hid (cnt ks n = hi ∧ has ks n = false) := ⟨hcn, by
            rcases hat with ⟨y, h1, h2, h3, _⟩ | ⟨_, h2, _⟩
            · rw [hkx] at h1; injection h1 with h1; exact absurd (h1 ▸ h2) hn
            · rw [has, h2]; rfl⟩
          rw [show cmpI x.name n = 1 from by rw [cmpI, if_neg (by omega), if_pos (by omega)]] at C
          clear hkx hx hn hge hat hcn
          go_wp2_with (go_at_call 29; refine (C.out _).mono ?_; rintro e w1 ⟨rfl, hb1⟩)
          go_ret2
          exact ⟨by rw [H.out.1, H.out.2]; rfl, hW.trans (hb1.mono hW.size)⟩
      · have f0 : decide ((hi : Int) < (ks.length : Int)) = false := decide_eq_false (by omega)
        have H : Hid (cnt ks n = hi ∧ has ks n = false) := ⟨hcn, by
          rcases hat with ⟨y, h1, _⟩ | ⟨_, h2, _⟩
          · rw [List.getElem?_eq_none (by omega)] at h1; cases h1
          · rw [has, h2]; rfl⟩
        clear hx hat hcn
        go_wp2
        go_ret2
        exact ⟨by rw [H.out.1, H.out.2]; rfl, hW⟩
end Go.Proofs.Ytcpnaanknheekaa
