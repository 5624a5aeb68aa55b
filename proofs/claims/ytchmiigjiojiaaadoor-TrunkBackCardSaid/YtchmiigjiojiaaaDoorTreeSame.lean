/-
  Are trees the same: the program's answer, and the document's.
-/
import Derived.Test.YtchmiigjiojiaaaDoorHeld
namespace Go.Proofs.YtchmiigjiojiaaaDoor
open Go.RowKit
open Tre
theorem bdn {w w' : World} (h : Below w.heap.size w w') (q : Nat) : Below w.heap.size w (w'.drewN q) := h.trans ((below_gb (gb_drewN w' q none)).mono h.size)
namespace Tre
theorem txt_ne {a b : ByteArray} (h : a ≠ b) : (a.toList == b.toList) = false := by
  rw [beq_eq_false_iff_ne]
  rw [← bs_data a, ← bs_data b, bs_tl, bs_tl]
  intro e
  exact h (by rw [← bs_data a, ← bs_data b, e])
theorem nd_ext {x y : Nd} (h : x.up = y.up ∧ x.next = y.next ∧ x.before = y.before ∧ x.after = y.after ∧ x.at_ = y.at_ ∧ x.old.toList = y.old.toList ∧ x.new.toList = y.new.toList) : x = y := by
  obtain ⟨h0, h1, h2, h3, h4, h5, h6⟩ := h
  have e : ∀ {a b : ByteArray}, a.toList = b.toList → a = b := fun {a b} h => by
    rw [← bs_data a, ← bs_data b, bs_tl, bs_tl] at h
    rw [← bs_data a, ← bs_data b, h]
  have h7 := e h5
  have h8 := e h6
  cases x; cases y
  simp_all only
theorem nd_ne {x y : Nd} (h : x ≠ y) : ¬ x.up = y.up ∨ (x.up = y.up ∧ ¬ x.next = y.next) ∨ (x.up = y.up ∧ x.next = y.next ∧ ¬ x.before = y.before) ∨ (x.up = y.up ∧ x.next = y.next ∧ x.before = y.before ∧ ¬ x.after = y.after) ∨
    (x.up = y.up ∧ x.next = y.next ∧ x.before = y.before ∧ x.after = y.after ∧ ¬ x.at_ = y.at_) ∨ (x.up = y.up ∧ x.next = y.next ∧ x.before = y.before ∧ x.after = y.after ∧ x.at_ = y.at_ ∧ ¬ x.old.toList = y.old.toList) ∨
    (x.up = y.up ∧ x.next = y.next ∧ x.before = y.before ∧ x.after = y.after ∧ x.at_ = y.at_ ∧ x.old.toList = y.old.toList ∧ ¬ x.new.toList = y.new.toList) := by
  by_cases a0 : x.up = y.up
  · by_cases a1 : x.next = y.next
    · by_cases a2 : x.before = y.before
      · by_cases a3 : x.after = y.after
        · by_cases a4 : x.at_ = y.at_
          · by_cases a5 : x.old.toList = y.old.toList
            · by_cases a6 : x.new.toList = y.new.toList
              · exact absurd (nd_ext ⟨a0, a1, a2, a3, a4, a5, a6⟩) h
              · simp [a0, a1, a2, a3, a4, a5, a6]
            · simp [a0, a1, a2, a3, a4, a5]
          · simp [a0, a1, a2, a3, a4]
        · simp [a0, a1, a2, a3]
      · simp [a0, a1, a2]
    · simp [a0, a1]
  · simp [a0]
theorem lists_ne {l m : List Nd} {k : Nat} {x y : Nd} (hx : l[k]? = some x) (hy : m[k]? = some y) (h : x ≠ y) : l ≠ m := fun e => by
  subst e
  rw [hx] at hy
  injection hy with hy
  exact h hy
theorem lists_eq {l m : List Nd} (hl : l.length = m.length) (h : ∀ k, k < l.length → l[k]? = m[k]?) : l = m := by
  apply List.ext_getElem?
  intro k
  rcases Nat.lt_or_ge k l.length with hk | hk
  · exact h k hk
  · rw [List.getElem?_eq_none hk, List.getElem?_eq_none (by omega)]
end Tre
set_option maxHeartbeats 2000000 in
set_option maxRecDepth 100000 in
theorem sl_equal {A B : Option Addr} {c d : Nat} {l m : List Nd} {w : World} (hx : Nds w A l) (hy : Nds w B m) (hl : l.length ≤ 2000) :
    Calls Tryd.prog 31 #[.slice A l.length c, .slice B m.length d] w fun e w' => e = .returned (.bool (decide (l = m))) ∧ Below w.heap.size w w' := by
  by_cases he : l.length = m.length
  · go_enter Tryd.func31, Tryd.ntmps31
    go_wp2_with fail
    go_loopw [13] (fun iv wr => ∃ (k : Nat), iv = .int .i64 k ∧ k ≤ l.length ∧ Hid (∀ j, j < k → l[j]? = m[j]?) ∧ Below w.heap.size w wr) (fun iv _ => l.length - (intOf iv).toNat)
    case atStart => exact ⟨0, rfl, by omega, fun j hj => absurd hj (by omega), Below.refl _ _⟩
    case round =>
      obtain ⟨k, rfl, hk, HE, hW⟩ := hrel
      by_cases hlt : k < l.length
      · obtain ⟨x, hkx⟩ : ∃ x, l[k]? = some x := ⟨_, List.getElem?_eq_getElem hlt⟩
        obtain ⟨y, hky⟩ : ∃ y, m[k]? = some y := ⟨_, List.getElem?_eq_getElem (by omega)⟩
        obtain ⟨b, off, rfl, hbw, c0, c1, c2, c3, c4, c5, c6⟩ := hx.at_ hW (Nat.le_refl _) hkx
        obtain ⟨b', off', rfl, hbw', d0, d1, d2, d3, d4, d5, d6⟩ := hy.at_ hW (Nat.le_refl _) hky
        have g1 : decide ((k : Int) < (l.length : Int)) = true := by simp; omega
        have hkm : k < m.length := by omega
        by_cases hxy : x = y
        · subst hxy
          have HE2 : Hid (∀ j, j < k + 1 → l[j]? = m[j]?) := fun j hj => by
            rcases Nat.lt_or_ge j k with h | h
            · exact HE.out j h
            · obtain rfl : j = k := by omega
              rw [hkx, hky]
          clear hkx hky HE hx hy
          go_wp2
          go_quiet (fail)
          go_wp2
          go_roundw
          case rel => exact ⟨k + 1, by go_num, by omega, HE2, bdn hW _⟩
          case measure => simp [intOf]; omega
        · have H : Hid (decide (l = m) = false) := decide_eq_false (lists_ne hkx hky hxy)
          have HN := nd_ne hxy
          clear hkx hky HE hx hy hxy
          rcases HN with n0 | ⟨n0, n1⟩ | ⟨n0, n1, n2⟩ | ⟨n0, n1, n2, n3⟩ | ⟨n0, n1, n2, n3, n4⟩ | ⟨n0, n1, n2, n3, n4, n5⟩ | ⟨n0, n1, n2, n3, n4, n5, n6⟩
          all_goals
            go_wp2
            go_quiet (fail)
            go_wp2
            go_ret
            exact ⟨by rw [H.out]; rfl, bdn hW _⟩
      · have H : Hid (decide (l = m) = true) := decide_eq_true (lists_eq he (fun j hj => HE.out j (by omega)))
        have g1 : decide ((k : Int) < (l.length : Int)) = false := by simp; omega
        clear hx hy
        go_wp2
        go_ret
        exact ⟨by rw [H.out]; rfl, hW⟩
  · have H : Hid (decide (l = m) = false) := decide_eq_false (fun e => he (by rw [e]))
    go_enter Tryd.func31, Tryd.ntmps31
    go_wp2_with fail
    go_ret
    exact ⟨by rw [H.out]; rfl, Below.refl _ _⟩
end Go.Proofs.YtchmiigjiojiaaaDoor
