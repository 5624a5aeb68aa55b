/-
  The law MarkStays: marks ahead of all changes stay; moved ones may be, and have the same names.
-/
import Derived.Test.YtcpnaanknheekaaMarkMovesLaw
import Derived.Deep.RegionHeld3
namespace Go.Proofs.Ytcpnaanknheekaa
open Go.RowKit
open Mrk
namespace Mrk
theorem clamp_same {p : Int} (h : 0 ≤ p ∧ p ≤ 1099511627776) : clamp p = p := by unfold clamp; rw [if_neg (by omega), if_neg (by omega)]
/-- A bound from below of where changes stand. -/
def Low (q : Int) (l : List Cg) : Prop := ∀ x ∈ l, q ≤ x.at_
theorem low_one {cs : List Cg} {k : Nat} {x : Cg} {q v : Int} (hk : cs[k]? = some x) (h : Low q (cs.take k)) (h1 : v ≤ q) (h2 : v ≤ x.at_) : Low v (cs.take (k + 1)) := by
  obtain ⟨hlt, rfl⟩ := List.getElem?_eq_some_iff.1 hk
  intro y hy
  rw [List.take_succ_eq_append_getElem hlt] at hy
  rcases List.mem_append.1 hy with hy | hy
  · have := h y hy; omega
  · rw [List.mem_singleton.1 hy]; exact h2
end Mrk
/-- The answer of Move, where the marks may be. -/
def MovedIs (ks : List Mk) (cs : List Cg) (w : World) (e : Ending) (w' : World) : Prop := ∃ (A : Option Addr) (c : Nat), e = .returned (.slice A ks.length c) ∧ Mks w' A (moved ks cs) ∧ Below w.heap.size w w'
set_option maxHeartbeats 4000000 in
set_option maxRecDepth 100000 in
theorem markStays_many {A B : Option Addr} {c d m : Nat} {ks : List Mk} {cs : List Cg} {w : World} (hx : Mks w A ks) (hc : ks.length ≤ c) (hm : c ≤ maxLen) (hy : Cgs w B cs) (hs : ∀ k ∈ cs, k.old.size ≤ 140737488351232 ∧ k.new.size ≤ 140737488351232) (hl : cs.length ≤ maxLen) (hlm : cs.length = m) (hm1 : ¬ m = 1) :
    Calls Try.prog 6 #[.slice A ks.length c, .slice B m d] w fun e w' => e = .returned (.bool true) ∧ Below w.heap.size w w' := by
  have hm' : ks.length ≤ maxLen := Nat.le_trans hc hm
  have HLM := Lib.hid hlm
  have HS := Lib.hid hs
  have R1 : Hid (∀ u, Below w.heap.size w u → Calls Try.prog 11 #[.slice A ks.length c] u fun e w' => e = .returned (.bool (decide (Right ks))) ∧ Below u.heap.size u w') := fun u hu => mark_Right (hx.below hu) hm'
  have LV := Lib.hid mark_lives
  have hW0 : Below w.heap.size w w := Below.refl _ _
  have N0 : Hid (Near (cs.take 0)) := fun x hx => by simp at hx
  have L0 : Hid (Low 1099511627776 (cs.take 0)) := fun x hx => by simp at hx
  have ml : m ≤ 9223372036854775807 := by unfold maxLen at hl; omega
  have e0 : ((m : Int) == 1) = false := by simp; omega
  have e1 : decide ((m : Int) = 1) = false := decide_eq_false (by omega)
  by_cases hR : Right ks
  · rw [decide_eq_true hR] at R1
    have h26 := hR.length_le
    have M1 : Hid (∀ u, Below w.heap.size w u → Near cs → weigh cs ≤ 1000000 → cs.length ≤ 100000 → Calls Try.prog 19 #[.slice A ks.length c, .slice B m d] u (MovedIs ks cs u)) := fun u hu h1 h2 h3 => by
      have := mark_Move (c := c) (d := d) (hx.below hu) hm' (hy.below hu) h1 h2 h3
      rw [gone, if_pos hR, hlm] at this
      refine this.mono ?_
      rintro e w' ⟨A', c', h1, h2, _, h3⟩
      rw [moved_length] at h1
      exact ⟨A', c', h1, h2, h3⟩
    have R2 : Hid (∀ (u : World) (A : Option Addr) (c : Nat), Mks u A (moved ks cs) → Calls Try.prog 11 #[.slice A ks.length c] u fun e w' => e = .returned (.bool true) ∧ Below u.heap.size u w') := fun u A c h => by
      have := mark_Right (c := c) h (by rw [moved_length]; exact hm')
      rw [moved_length, decide_eq_true (moved_right hR cs)] at this
      exact this
    have HA : Hid (∀ (k : Nat) (x : Mk), ks[k]? = some x → 0 ≤ x.at_ ∧ x.at_ ≤ 1099511627776) := fun k x h => (hR.1 x (List.mem_of_getElem? h)).2
    have ST : Hid (∀ (k : Nat) (x : Mk) (q : Int), ks[k]? = some x → Low q cs → x.at_ < q → clamp (shifts x.at_ cs) = x.at_) := fun k x q h hq hlt => by
      rw [shifts_ahead (fun y hy => by have := hq y hy; omega)]
      exact clamp_same (hR.1 x (List.mem_of_getElem? h)).2
    by_cases h30 : 30 < m
    · have d0 : decide ((30 : Int) < (m : Int)) = true := decide_eq_true (by omega)
      clear hx hm hm' hc hs hl hlm hy hR M1 R2 HA ST
      go_enter Try.func6, Try.ntmps6
      go_wp2_with (first
        | (go_at_call 11; (with_reducible refine (R1.out _ hW0).mono ?_); rintro e w1 ⟨rfl, hb1⟩; replace hW0 := hW0.trans (hb1.mono hW0.size))
        | (go_at_call 18; (with_reducible refine (LV.out _).mono ?_); rintro e w4 ⟨rfl, hb4⟩; replace hW0 := hW0.trans (hb4.mono hW0.size)))
      go_ret
      exact ⟨rfl, hW0⟩
    · have d0 : decide ((30 : Int) < (m : Int)) = false := decide_eq_false (by omega)
      clear hm hm' hc hs hl hlm hR
      go_enter Try.func6, Try.ntmps6
      go_wp2_with (go_at_call 11; (with_reducible refine (R1.out _ hW0).mono ?_); rintro e w1 ⟨rfl, hb1⟩; replace hW0 := hW0.trans (hb1.mono hW0.size))
      go_loopw [5, 6] (fun lv iv wr => ∃ (k : Nat) (q : Int), k ≤ m ∧ iv = .int .i64 k ∧ lv = .int .i64 q ∧ Hid (Low q (cs.take k)) ∧ Hid (Near (cs.take k) ∧ weigh (cs.take k) ≤ 5000 * k) ∧ Below w.heap.size w wr) (fun _ iv _ => m - (intOf iv).toNat)
      case atStart => exact ⟨0, _, Nat.zero_le _, rfl, rfl, L0.out, ⟨N0.out, by simp [weigh]⟩, hW0⟩
      case round =>
        clear hW0 hb1
        obtain ⟨k, q, hkl, rfl, rfl, HQ, HN, hW⟩ := hrel
        have hdr : ∀ q, Below w.heap.size w (wr.drewN q) := fun q => hW.trans ((below_gb (gb_drewN wr q none)).mono hW.size)
        by_cases hlt : k < m
        · obtain ⟨x, hkx⟩ : ∃ x, cs[k]? = some x := ⟨_, List.getElem?_eq_getElem (by rw [HLM.out]; exact hlt)⟩
          obtain ⟨b, off, rfl, hbw, c0, c1, c2⟩ := hy.at_ hW (Nat.le_refl _) hkx
          obtain ⟨z1, z2⟩ := HS.out x (List.mem_of_getElem? hkx)
          have hki : (k : Int) < m := by omega
          have e3 : decide ((k : Int) < (m : Int)) = true := decide_eq_true hki
          by_cases h1 : x.at_ < -1099511627776
          · have d1 : decide (x.at_ < -1099511627776) = true := decide_eq_true h1
            clear hkx hy h1
            go_wp2
            go_quiet (fail)
            go_wp2_with (go_at_call 18; (with_reducible refine (LV.out _).mono ?_); rintro e w4 ⟨rfl, hb4⟩)
            go_ret
            exact ⟨rfl, (hdr _).trans (hb4.mono (hdr _).size)⟩
          · have d1 : decide (x.at_ < -1099511627776) = false := decide_eq_false h1
            by_cases h2 : 1099511627776 < x.at_
            · have d2 : decide (1099511627776 < x.at_) = true := decide_eq_true h2
              clear hkx hy h1 h2
              go_wp2
              go_quiet (fail)
              go_wp2_with (go_at_call 18; (with_reducible refine (LV.out _).mono ?_); rintro e w4 ⟨rfl, hb4⟩)
              go_ret
              exact ⟨rfl, (hdr _).trans (hb4.mono (hdr _).size)⟩
            · have d2 : decide (1099511627776 < x.at_) = false := decide_eq_false h2
              by_cases h4 : 5000 < x.old.size + x.new.size
              · have d4 : decide ((5000 : Int) < (x.old.size : Int) + (x.new.size : Int)) = true := decide_eq_true (by omega)
                clear hkx hy h1 h2
                go_wp2
                go_quiet (fail)
                go_wp2_with (go_at_call 18; (with_reducible refine (LV.out _).mono ?_); rintro e w4 ⟨rfl, hb4⟩)
                go_ret
                exact ⟨rfl, (hdr _).trans (hb4.mono (hdr _).size)⟩
              · have d4 : decide ((5000 : Int) < (x.old.size : Int) + (x.new.size : Int)) = false := decide_eq_false (by omega)
                have HN2 : Hid (Near (cs.take (k + 1)) ∧ weigh (cs.take (k + 1)) ≤ 5000 * (k + 1)) := ⟨near_one hkx (by omega) HN.out.1, by rw [weigh_snoc hkx]; have := HN.out.2; omega⟩
                obtain ⟨v, hv⟩ : ∃ v, (if x.at_ < q then x.at_ else q) = v := ⟨_, rfl⟩
                have hv1 : v ≤ q ∧ v ≤ x.at_ := by rw [← hv]; split <;> omega
                have HQ2 : Hid (Low v (cs.take (k + 1))) := low_one hkx HQ.out hv1.1 hv1.2
                clear hkx hy h1 h2 hv1
                go_wp2
                go_quiet (fail)
                go_wp2
                go_roundw
                case rel => exact ⟨k + 1, v, by omega, by go_num, rfl, HQ2, HN2, hdr _⟩
                case measure => simp [intOf]; omega
        · have e3 : decide ((k : Int) < (m : Int)) = false := decide_eq_false (by omega)
          have F : Near cs ∧ weigh cs ≤ 1000000 ∧ cs.length ≤ 100000 := by
            have := HN.out
            rw [List.take_of_length_le (by rw [HLM.out]; omega)] at this
            exact ⟨this.1, by have := this.2; omega, by rw [HLM.out]; omega⟩
          have FH := Lib.hid F
          have HQ2 : Hid (Low q cs) := by
            have := HQ.out
            rwa [List.take_of_length_le (by rw [HLM.out]; omega)] at this
          clear F HQ HN
          go_wp2_with (first
            | (go_at_call 19; (with_reducible refine (M1.out _ hW FH.out.1 FH.out.2.1 FH.out.2.2).mono ?_); rintro e w2 ⟨A2, c2, rfl, hm2, hb2⟩; replace hW := hW.trans (hb2.mono hW.size))
            | (go_at_call 11; (with_reducible refine (R2.out _ _ _ hm2).mono ?_); rintro e w3 ⟨rfl, hb3⟩; replace hW := hW.trans (hb3.mono hW.size); replace hm2 := hm2.below hb3))
          have HW3 := Lib.hid hW
          clear hdr hb2 M1 R1 R2 FH e3
          go_loopw [8] (fun iv wr => ∃ j : Nat, j ≤ ks.length ∧ iv = .int .i64 j ∧ Below w3.heap.size w3 wr) (fun iv _ => ks.length - (intOf iv).toNat)
          case atStart => exact ⟨0, Nat.zero_le _, rfl, Below.refl _ _⟩
          case round =>
            obtain ⟨j, hjl, rfl, hV⟩ := hrel
            clear hW
            have hW := HW3.out.trans (hV.mono HW3.out.size)
            have hdr : ∀ q, Below w3.heap.size w3 (wr.drewN q) := fun q => hV.trans ((below_gb (gb_drewN wr q none)).mono hV.size)
            by_cases hlt2 : j < ks.length
            · obtain ⟨x, hkx⟩ : ∃ x, ks[j]? = some x := ⟨_, List.getElem?_eq_getElem hlt2⟩
              obtain ⟨b, off, rfl, hbw, l0, l1⟩ := hx.at_ hW (Nat.le_refl _) hkx
              obtain ⟨b2, off2, rfl, hbw2, m0, m1⟩ := hm2.at_ hV (Nat.le_refl _) (moved_get cs hkx)
              have hji : (j : Int) < ks.length := by omega
              have e4 : decide ((j : Int) < (ks.length : Int)) = true := decide_eq_true hji
              have hst := ST.out j x q hkx HQ2.out
              have hxa := HA.out j x hkx
              simp only [] at m0 m1
              obtain ⟨v, hv⟩ : ∃ v, clamp (shifts x.at_ cs) = v := ⟨_, rfl⟩
              rw [hv] at hst m1
              clear hkx hx hy hm2 hv hxa
              by_cases hpq : x.at_ < q
              · have d2 : decide (x.at_ < q) = true := decide_eq_true hpq
                obtain rfl : v = x.at_ := hst hpq
                clear hst
                go_wp2
                go_quiet (fail)
                go_wp2
                go_roundw
                case rel => exact ⟨j + 1, by omega, by go_num, hdr _⟩
                case measure => simp [intOf]; omega
              · have d2 : decide (x.at_ < q) = false := decide_eq_false hpq
                clear hst
                go_wp2
                go_quiet (fail)
                go_wp2
                go_roundw
                case rel => exact ⟨j + 1, by omega, by go_num, hdr _⟩
                case measure => simp [intOf]; omega
            · have e4 : decide ((j : Int) < (ks.length : Int)) = false := decide_eq_false (by omega)
              clear hx hy hm2
              go_wp2_with (go_at_call 18; (with_reducible refine (LV.out _).mono ?_); rintro e w4 ⟨rfl, hb4⟩; replace hW := hW.trans (hb4.mono hW.size))
              go_ret
              exact ⟨rfl, hW⟩
  · rw [decide_eq_false hR] at R1
    clear hx hm hm' hc hs hl hlm hy hR
    go_enter Try.func6, Try.ntmps6
    go_wp2_with (first
      | (go_at_call 11; (with_reducible refine (R1.out _ hW0).mono ?_); rintro e w1 ⟨rfl, hb1⟩; replace hW0 := hW0.trans (hb1.mono hW0.size))
      | (go_at_call 18; (with_reducible refine (LV.out _).mono ?_); rintro e w4 ⟨rfl, hb4⟩; replace hW0 := hW0.trans (hb4.mono hW0.size)))
    go_ret
    exact ⟨rfl, hW0⟩
set_option maxHeartbeats 4000000 in
set_option maxRecDepth 100000 in
theorem markStays_one {A B : Option Addr} {c d : Nat} {ks : List Mk} {cs : List Cg} {w : World} (hx : Mks w A ks) (hc : ks.length ≤ c) (hm : c ≤ maxLen) (hy : Cgs w B cs) (hs : ∀ k ∈ cs, k.old.size ≤ 140737488351232 ∧ k.new.size ≤ 140737488351232) (hlm : cs.length = 1) :
    Calls Try.prog 6 #[.slice A ks.length c, .slice B 1 d] w fun e w' => e = .returned (.bool true) ∧ Below w.heap.size w w' := by
  have hm' : ks.length ≤ maxLen := Nat.le_trans hc hm
  have HLM := Lib.hid hlm
  have HS := Lib.hid hs
  have R1 : Hid (∀ u, Below w.heap.size w u → Calls Try.prog 11 #[.slice A ks.length c] u fun e w' => e = .returned (.bool (decide (Right ks))) ∧ Below u.heap.size u w') := fun u hu => mark_Right (hx.below hu) hm'
  have LV := Lib.hid mark_lives
  have hW0 : Below w.heap.size w w := Below.refl _ _
  have N0 : Hid (Near (cs.take 0)) := fun x hx => by simp at hx
  have L0 : Hid (Low 1099511627776 (cs.take 0)) := fun x hx => by simp at hx
  by_cases hR : Right ks
  · rw [decide_eq_true hR] at R1
    have h26 := hR.length_le
    have M1 : Hid (∀ u, Below w.heap.size w u → Near cs → weigh cs ≤ 1000000 → cs.length ≤ 100000 → Calls Try.prog 19 #[.slice A ks.length c, .slice B 1 d] u (MovedIs ks cs u)) := fun u hu h1 h2 h3 => by
      have := mark_Move (c := c) (d := d) (hx.below hu) hm' (hy.below hu) h1 h2 h3
      rw [gone, if_pos hR, hlm] at this
      refine this.mono ?_
      rintro e w' ⟨A', c', h1, h2, _, h3⟩
      rw [moved_length] at h1
      exact ⟨A', c', h1, h2, h3⟩
    have R2 : Hid (∀ (u : World) (A : Option Addr) (c : Nat), Mks u A (moved ks cs) → Calls Try.prog 11 #[.slice A ks.length c] u fun e w' => e = .returned (.bool true) ∧ Below u.heap.size u w') := fun u A c h => by
      have := mark_Right (c := c) h (by rw [moved_length]; exact hm')
      rw [moved_length, decide_eq_true (moved_right hR cs)] at this
      exact this
    have HA : Hid (∀ (k : Nat) (x : Mk), ks[k]? = some x → 0 ≤ x.at_ ∧ x.at_ ≤ 1099511627776) := fun k x h => (hR.1 x (List.mem_of_getElem? h)).2
    have ST : Hid (∀ (k : Nat) (x : Mk) (q : Int), ks[k]? = some x → Low q cs → x.at_ < q → clamp (shifts x.at_ cs) = x.at_) := fun k x q h hq hlt => by
      rw [shifts_ahead (fun y hy => by have := hq y hy; omega)]
      exact clamp_same (hR.1 x (List.mem_of_getElem? h)).2
    clear hm hm' hc hs hlm hR
    go_enter Try.func6, Try.ntmps6
    go_wp2_with (go_at_call 11; (with_reducible refine (R1.out _ hW0).mono ?_); rintro e w1 ⟨rfl, hb1⟩; replace hW0 := hW0.trans (hb1.mono hW0.size))
    go_loopw [5, 6] (fun lv iv wr => ∃ (k : Nat) (q : Int), k ≤ 1 ∧ iv = .int .i64 k ∧ lv = .int .i64 q ∧ Hid (Low q (cs.take k)) ∧ Hid (Near (cs.take k) ∧ weigh (cs.take k) ≤ 5000 * k) ∧ Below w.heap.size w wr) (fun _ iv _ => 1 - (intOf iv).toNat)
    case atStart => exact ⟨0, _, Nat.zero_le _, rfl, rfl, L0.out, ⟨N0.out, by simp [weigh]⟩, hW0⟩
    case round =>
      clear hW0 hb1
      obtain ⟨k, q, hkl, rfl, rfl, HQ, HN, hW⟩ := hrel
      have hdr : ∀ q, Below w.heap.size w (wr.drewN q) := fun q => hW.trans ((below_gb (gb_drewN wr q none)).mono hW.size)
      by_cases hlt : k < 1
      · obtain ⟨x, hkx⟩ : ∃ x, cs[k]? = some x := ⟨_, List.getElem?_eq_getElem (by rw [HLM.out]; exact hlt)⟩
        obtain ⟨b, off, rfl, hbw, c0, c1, c2⟩ := hy.at_ hW (Nat.le_refl _) hkx
        obtain ⟨z1, z2⟩ := HS.out x (List.mem_of_getElem? hkx)
        have hki : (k : Int) < 1 := by omega
        have e3 : decide ((k : Int) < 1) = true := decide_eq_true hki
        by_cases h1 : x.at_ < -1099511627776
        · have d1 : decide (x.at_ < -1099511627776) = true := decide_eq_true h1
          clear hkx hy h1
          go_wp2
          go_quiet (fail)
          go_wp2_with (go_at_call 18; (with_reducible refine (LV.out _).mono ?_); rintro e w4 ⟨rfl, hb4⟩)
          go_ret
          exact ⟨rfl, (hdr _).trans (hb4.mono (hdr _).size)⟩
        · have d1 : decide (x.at_ < -1099511627776) = false := decide_eq_false h1
          by_cases h2 : 1099511627776 < x.at_
          · have d2 : decide (1099511627776 < x.at_) = true := decide_eq_true h2
            clear hkx hy h1 h2
            go_wp2
            go_quiet (fail)
            go_wp2_with (go_at_call 18; (with_reducible refine (LV.out _).mono ?_); rintro e w4 ⟨rfl, hb4⟩)
            go_ret
            exact ⟨rfl, (hdr _).trans (hb4.mono (hdr _).size)⟩
          · have d2 : decide (1099511627776 < x.at_) = false := decide_eq_false h2
            by_cases h4 : 5000 < x.old.size + x.new.size
            · have d4 : decide ((5000 : Int) < (x.old.size : Int) + (x.new.size : Int)) = true := decide_eq_true (by omega)
              clear hkx hy h1 h2
              go_wp2
              go_quiet (fail)
              go_wp2_with (go_at_call 18; (with_reducible refine (LV.out _).mono ?_); rintro e w4 ⟨rfl, hb4⟩)
              go_ret
              exact ⟨rfl, (hdr _).trans (hb4.mono (hdr _).size)⟩
            · have d4 : decide ((5000 : Int) < (x.old.size : Int) + (x.new.size : Int)) = false := decide_eq_false (by omega)
              have HN2 : Hid (Near (cs.take (k + 1)) ∧ weigh (cs.take (k + 1)) ≤ 5000 * (k + 1)) := ⟨near_one hkx (by omega) HN.out.1, by rw [weigh_snoc hkx]; have := HN.out.2; omega⟩
              obtain ⟨v, hv⟩ : ∃ v, (if x.at_ < q then x.at_ else q) = v := ⟨_, rfl⟩
              have hv1 : v ≤ q ∧ v ≤ x.at_ := by rw [← hv]; split <;> omega
              have HQ2 : Hid (Low v (cs.take (k + 1))) := low_one hkx HQ.out hv1.1 hv1.2
              clear hkx hy h1 h2 hv1
              go_wp2
              go_quiet (fail)
              go_wp2
              go_roundw
              case rel => exact ⟨k + 1, v, by omega, by go_num, rfl, HQ2, HN2, hdr _⟩
              case measure => simp [intOf]; omega
      · have e3 : decide ((k : Int) < 1) = false := decide_eq_false (by omega)
        have F : Near cs ∧ weigh cs ≤ 1000000 ∧ cs.length ≤ 100000 := by
          have := HN.out
          rw [List.take_of_length_le (by rw [HLM.out]; omega)] at this
          exact ⟨this.1, by have := this.2; omega, by rw [HLM.out]; omega⟩
        have FH := Lib.hid F
        have HQ2 : Hid (Low q cs) := by
          have := HQ.out
          rwa [List.take_of_length_le (by rw [HLM.out]; omega)] at this
        have NR := Lib.hid F.1
        have WT := Lib.hid F.2.1
        clear F HQ HN
        go_wp2_with (first
          | (go_at_call 19; (with_reducible refine (M1.out _ hW FH.out.1 FH.out.2.1 FH.out.2.2).mono ?_); rintro e w2 ⟨A2, c2, rfl, hm2, hb2⟩; replace hW := hW.trans (hb2.mono hW.size))
          | (go_at_call 11; (with_reducible refine (R2.out _ _ _ hm2).mono ?_); rintro e w3 ⟨rfl, hb3⟩; replace hW := hW.trans (hb3.mono hW.size); replace hm2 := hm2.below hb3))
        have HW3 := Lib.hid hW
        clear hdr hb2 M1 R1 R2 FH e3
        go_loopw [8] (fun iv wr => ∃ j : Nat, j ≤ ks.length ∧ iv = .int .i64 j ∧ Below w3.heap.size w3 wr) (fun iv _ => ks.length - (intOf iv).toNat)
        case atStart => exact ⟨0, Nat.zero_le _, rfl, Below.refl _ _⟩
        case round =>
          obtain ⟨j, hjl, rfl, hV⟩ := hrel
          clear hW
          have hW := HW3.out.trans (hV.mono HW3.out.size)
          have hdr : ∀ q, Below w3.heap.size w3 (wr.drewN q) := fun q => hV.trans ((below_gb (gb_drewN wr q none)).mono hV.size)
          by_cases hlt2 : j < ks.length
          · obtain ⟨x, hkx⟩ : ∃ x, ks[j]? = some x := ⟨_, List.getElem?_eq_getElem hlt2⟩
            obtain ⟨b, off, rfl, hbw, l0, l1⟩ := hx.at_ hW (Nat.le_refl _) hkx
            obtain ⟨b2, off2, rfl, hbw2, m0, m1⟩ := hm2.at_ hV (Nat.le_refl _) (moved_get cs hkx)
            have hji : (j : Int) < ks.length := by omega
            have e4 : decide ((j : Int) < (ks.length : Int)) = true := decide_eq_true hji
            have hst := ST.out j x q hkx HQ2.out
            have hxa := HA.out j x hkx
            simp only [] at m0 m1
            obtain ⟨y, hy1⟩ : ∃ y, cs = [y] := List.length_eq_one_iff.1 HLM.out
            rw [hy1] at hst m1
            have hyc := hy1 ▸ hy
            obtain ⟨b3, off3, hB3, hbw3, k0, k1, k2⟩ := hyc.at_ hW (Nat.le_refl _) (j := 0) (k := y) rfl
            rw [Nat.zero_mul, Nat.add_zero] at k0 k1 k2
            subst hB3
            have hya : -1099511627776 ≤ y.at_ ∧ y.at_ ≤ 1099511627776 := NR.out y (by rw [hy1]; simp)
            have hyw : weigh [y] ≤ 1000000 := by have := WT.out; rwa [hy1] at this
            have T : Hid (∀ u, Cgs u (some ⟨wr.heap.size, 0, none⟩) [y] → Calls Try.prog 21 #[.int .i64 x.at_, .slice (some ⟨wr.heap.size, 0, none⟩) 1 1] u fun e w' => e = .returned (.int .i64 (shifts x.at_ [y])) ∧ Below u.heap.size u w') := fun u hu =>
              change_Shift_wide x.at_ (c := 1) hu (by omega) (fun k hk => by rw [List.mem_singleton.1 hk]; exact hya) hyw (by simp)
            obtain ⟨p, hp⟩ : ∃ p, shifts x.at_ [y] = p := ⟨_, rfl⟩
            rw [hp] at T hst m1
            obtain ⟨u, hu⟩ : ∃ u, (if p < 0 then 0 else p) = u := ⟨_, rfl⟩
            obtain ⟨v, hv⟩ : ∃ v, (if 1099511627776 < u then 1099511627776 else u) = v := ⟨_, rfl⟩
            have hcv : clamp p = v := by rw [← hv, ← hu]; exact (clamp_min p).symm
            rw [hcv] at hst m1
            have hb1 : b < wr.heap.size := Nat.lt_of_lt_of_le hbw hW.size
            have hb2' : b2 < wr.heap.size := Nat.lt_of_lt_of_le hbw2 hV.size
            have hb3' : b3 < wr.heap.size := Nat.lt_of_lt_of_le hbw3 hW.size
            have CELL : Hid (∀ u, Below wr.heap.size wr u → (u.cell? ⟨b2, off2 + j * 2, none⟩ = some (.int .i64 x.name) ∧ u.cell? ⟨b2, off2 + j * 2 + 1, none⟩ = some (.int .i64 v)) ∧ (u.cell? ⟨b, off + j * 2, none⟩ = some (.int .i64 x.name) ∧ u.cell? ⟨b, off + j * 2 + 1, none⟩ = some (.int .i64 x.at_)) ∧ (u.cell? ⟨b3, off3, none⟩ = some (.int .i64 y.at_) ∧ u.cell? ⟨b3, off3 + 1, none⟩ = some (.string y.old) ∧ u.cell? ⟨b3, off3 + 2, none⟩ = some (.string y.new))) := fun u hu =>
              ⟨⟨(hu.cell (p := ⟨b2, off2 + j * 2, none⟩) hb2').trans m0, (hu.cell (p := ⟨b2, off2 + j * 2 + 1, none⟩) hb2').trans m1⟩, ⟨(hu.cell (p := ⟨b, off + j * 2, none⟩) hb1).trans l0, (hu.cell (p := ⟨b, off + j * 2 + 1, none⟩) hb1).trans l1⟩, (hu.cell (p := ⟨b3, off3, none⟩) hb3').trans k0, (hu.cell (p := ⟨b3, off3 + 1, none⟩) hb3').trans k1, (hu.cell (p := ⟨b3, off3 + 2, none⟩) hb3').trans k2⟩
            have hA : Below wr.heap.size wr (wr.alloc (.cells #[.int .i64 y.at_, .string y.old, .string y.new] 38)).drew := ((Below.refl _ wr).alloc (Nat.le_refl _) _).drew
            have C1 : Cgs (wr.alloc (.cells #[.int .i64 y.at_, .string y.old, .string y.new] 38)).drew (some ⟨wr.heap.size, 0, none⟩) [y] := (cgs_one wr y 38).below (Below.refl _ _).drew
            have HVV := Lib.hid hV
            have HHJ := Lib.hid hjl
            clear hkx hx hy hyc hy1 hp hcv hya hyw hxa hW hV hdr hbw hbw2 hbw3 HA ST
            by_cases hpq : x.at_ < q
            · have d2 : decide (x.at_ < q) = true := decide_eq_true hpq
              obtain rfl : v = x.at_ := hst hpq
              clear hst
              go_wp2
              go_region_held3 (fun u => (u.cell? ⟨b2, off2 + j * 2, none⟩ = some (.int .i64 x.name) ∧ u.cell? ⟨b2, off2 + j * 2 + 1, none⟩ = some (.int .i64 x.at_)) ∧ (u.cell? ⟨b, off + j * 2, none⟩ = some (.int .i64 x.name) ∧ u.cell? ⟨b, off + j * 2 + 1, none⟩ = some (.int .i64 x.at_)) ∧ (u.cell? ⟨b3, off3, none⟩ = some (.int .i64 y.at_) ∧ u.cell? ⟨b3, off3 + 1, none⟩ = some (.string y.old) ∧ u.cell? ⟨b3, off3 + 2, none⟩ = some (.string y.new))) (first | exact ⟨⟨by assumption, by assumption⟩, ⟨by assumption, by assumption⟩, by assumption, by assumption, by assumption⟩ | go_keep)
                (first
                  | (go_at_call 21; refine (T.out _ C1).mono ?_; rintro e v1 ⟨rfl, vb1⟩; have vc1 := hA.trans (vb1.mono hA.size); obtain ⟨⟨f0, f1⟩, ⟨f2, f3⟩, f4, f5, f6⟩ := CELL.out _ vc1))
              all_goals
                go_wp2
                go_roundw
                case rel => exact ⟨j + 1, by omega, by go_num, HVV.out.trans (vc1.mono HVV.out.size)⟩
                case measure => simp [intOf]; omega
            · have d2 : decide (x.at_ < q) = false := decide_eq_false hpq
              clear hst
              go_wp2
              refine wp_region_held_drew (S := (fun u => (u.cell? ⟨b2, off2 + j * 2, none⟩ = some (.int .i64 x.name) ∧ u.cell? ⟨b2, off2 + j * 2 + 1, none⟩ = some (.int .i64 v)) ∧ (u.cell? ⟨b, off + j * 2, none⟩ = some (.int .i64 x.name) ∧ u.cell? ⟨b, off + j * 2 + 1, none⟩ = some (.int .i64 x.at_)) ∧ (u.cell? ⟨b3, off3, none⟩ = some (.int .i64 y.at_) ∧ u.cell? ⟨b3, off3 + 1, none⟩ = some (.string y.old) ∧ u.cell? ⟨b3, off3 + 2, none⟩ = some (.string y.new)))) (by kernel_rfl) ?hS0 (fun hHeld => ?rS0)
              case hS0 => (try dsimp only); (first | exact ⟨⟨by assumption, by assumption⟩, ⟨by assumption, by assumption⟩, by assumption, by assumption, by assumption⟩ | go_keep)
              refine wpAnyH_take (i := 0) (v := ?v0) rfl (by kernel_rfl) (by kernel_rfl) (by kernel_rfl) (fun _ _ _ h => h) (Or.inl ⟨by rfl, ?y0⟩) (by assumption) ?r0
              case y0 => (intro w hSw; (try dsimp only at hSw); go_simp <;> with_reducible rfl)
              try simp only [List.getElem_toArray, List.getElem_cons_zero, Act.put, List.setIfInBounds_toArray, List.set_cons_zero, List.set_cons_succ]
              refine wpAnyH_take (i := 1) (v := ?v1) rfl (by kernel_rfl) (by kernel_rfl) (by kernel_rfl) (fun _ _ _ h => h) (Or.inl ⟨by rfl, ?y1⟩) (by assumption) ?r1
              case y1 => (intro w hSw; (try dsimp only at hSw); go_simp <;> with_reducible rfl)
              try simp only [List.getElem_toArray, List.getElem_cons_succ, List.getElem_cons_zero, Act.put, List.setIfInBounds_toArray, List.set_cons_zero, List.set_cons_succ]
              refine wpAnyH_take (i := 2) (v := ?v2) rfl (by kernel_rfl) (by kernel_rfl) (by kernel_rfl) (fun _ _ _ h => h) (Or.inl ⟨by rfl, ?y2⟩) (by assumption) ?r2
              case y2 => (intro w hSw; (try dsimp only at hSw); go_simp <;> with_reducible rfl)
              try simp only [List.getElem_toArray, List.getElem_cons_succ, List.getElem_cons_zero, Act.put, List.setIfInBounds_toArray, List.set_cons_zero, List.set_cons_succ]
              refine wpAnyH_take (i := 3) (v := ?v3) rfl (by kernel_rfl) (by kernel_rfl) (by kernel_rfl) (fun _ _ _ h => h) (Or.inl ⟨by rfl, ?y3⟩) (by assumption) ?r3
              case y3 => (intro w hSw; (try dsimp only at hSw); go_simp <;> with_reducible rfl)
              try simp only [List.getElem_toArray, List.getElem_cons_succ, List.getElem_cons_zero, Act.put, List.setIfInBounds_toArray, List.set_cons_zero, List.set_cons_succ]
              refine wpAnyH_take (i := 4) (v := ?v4) rfl (by kernel_rfl) (by kernel_rfl) (by kernel_rfl) (fun _ _ _ h => h) (Or.inl ⟨by rfl, ?y4⟩) (by assumption) ?r4
              case y4 => (intro w hSw; (try dsimp only at hSw); go_simp <;> with_reducible rfl)
              try simp only [List.getElem_toArray, List.getElem_cons_succ, List.getElem_cons_zero, Act.put, List.setIfInBounds_toArray, List.set_cons_zero, List.set_cons_succ]
              refine wpAnyH_take (i := 5) (v := ?v5) rfl (by kernel_rfl) (by kernel_rfl) (by kernel_rfl) (fun _ _ _ h => h) (Or.inl ⟨by rfl, ?y5⟩) (by assumption) ?r5
              case y5 => (intro w hSw; (try dsimp only at hSw); go_simp <;> with_reducible rfl)
              try simp only [List.getElem_toArray, List.getElem_cons_succ, List.getElem_cons_zero, Act.put, List.setIfInBounds_toArray, List.set_cons_zero, List.set_cons_succ]
              refine wpAnyH_take (i := 6) (v := ?v6) rfl (by kernel_rfl) (by kernel_rfl) (by kernel_rfl) (fun _ _ _ h => h) (Or.inl ⟨by rfl, ?y6⟩) (by assumption) ?r6
              case y6 => (intro w hSw; (try dsimp only at hSw); go_simp <;> with_reducible rfl)
              try simp only [List.getElem_toArray, List.getElem_cons_succ, List.getElem_cons_zero, Act.put, List.setIfInBounds_toArray, List.set_cons_zero, List.set_cons_succ]
              refine wpAnyH_take (i := 7) (v := ?v7) rfl (by kernel_rfl) (by kernel_rfl) (by kernel_rfl) (fun _ _ _ h => h) (Or.inl ⟨by rfl, ?y7⟩) (by assumption) ?r7
              case y7 => (intro w hSw; (try dsimp only at hSw); go_simp <;> with_reducible rfl)
              try simp only [List.getElem_toArray, List.getElem_cons_succ, List.getElem_cons_zero, Act.put, List.setIfInBounds_toArray, List.set_cons_zero, List.set_cons_succ]
              refine wpAnyH_take (i := 8) (v := ?v8) rfl (by kernel_rfl) (by kernel_rfl) (by kernel_rfl) (fun _ _ _ h => h) (Or.inl ⟨by rfl, ?y8⟩) (by assumption) ?r8
              case y8 => (intro w hSw; (try dsimp only at hSw); go_simp <;> with_reducible rfl)
              try simp only [List.getElem_toArray, List.getElem_cons_succ, List.getElem_cons_zero, Act.put, List.setIfInBounds_toArray, List.set_cons_zero, List.set_cons_succ]
              refine wpAnyH_take (i := 9) (v := ?v9) rfl (by kernel_rfl) (by kernel_rfl) (by kernel_rfl) (fun _ _ _ h => h) (Or.inl ⟨by rfl, ?y9⟩) (by assumption) ?r9
              case y9 => (intro w hSw; (try dsimp only at hSw); go_simp <;> with_reducible rfl)
              try simp only [List.getElem_toArray, List.getElem_cons_succ, List.getElem_cons_zero, Act.put, List.setIfInBounds_toArray, List.set_cons_zero, List.set_cons_succ]
              refine wpAnyH_take (i := 10) (v := ?v10) rfl (by kernel_rfl) (by kernel_rfl) (by kernel_rfl) (fun _ _ _ h => h) (Or.inl ⟨by rfl, ?y10⟩) (by assumption) ?r10
              case y10 => (intro w hSw; (try dsimp only at hSw); go_simp <;> with_reducible rfl)
              try simp only [List.getElem_toArray, List.getElem_cons_succ, List.getElem_cons_zero, Act.put, List.setIfInBounds_toArray, List.set_cons_zero, List.set_cons_succ]
              refine wpAnyH_take (i := 11) (v := ?v11) rfl (by kernel_rfl) (by kernel_rfl) (by kernel_rfl) (fun _ _ _ h => h) (Or.inl ⟨by rfl, ?y11⟩) (by assumption) ?r11
              case y11 => (intro w hSw; (try dsimp only at hSw); go_simp <;> with_reducible rfl)
              try simp only [List.getElem_toArray, List.getElem_cons_succ, List.getElem_cons_zero, Act.put, List.setIfInBounds_toArray, List.set_cons_zero, List.set_cons_succ]
              refine wpAnyH_take (i := 12) (v := ?v12) rfl (by kernel_rfl) (by kernel_rfl) (by kernel_rfl) (fun _ _ _ h => h) (Or.inl ⟨by rfl, ?y12⟩) (by assumption) ?r12
              case y12 => (intro w hSw; (try dsimp only at hSw); go_simp <;> with_reducible rfl)
              try simp only [List.getElem_toArray, List.getElem_cons_succ, List.getElem_cons_zero, Act.put, List.setIfInBounds_toArray, List.set_cons_zero, List.set_cons_succ]
              refine wpAnyH_take (i := 13) (v := ?v13) rfl (by kernel_rfl) (by kernel_rfl) (by kernel_rfl) (fun _ _ _ h => h) (Or.inl ⟨by rfl, ?y13⟩) (by assumption) ?r13
              case y13 => (intro w hSw; (try dsimp only at hSw); go_simp <;> with_reducible rfl)
              try simp only [List.getElem_toArray, List.getElem_cons_succ, List.getElem_cons_zero, Act.put, List.setIfInBounds_toArray, List.set_cons_zero, List.set_cons_succ]
              refine wpAnyH_take (i := 14) (v := ?v14) rfl (by kernel_rfl) (by kernel_rfl) (by kernel_rfl) (fun _ _ _ h => h) (Or.inl ⟨by rfl, ?y14⟩) (by assumption) ?r14
              case y14 => (intro w hSw; (try dsimp only at hSw); go_simp <;> with_reducible rfl)
              try simp only [List.getElem_toArray, List.getElem_cons_succ, List.getElem_cons_zero, Act.put, List.setIfInBounds_toArray, List.set_cons_zero, List.set_cons_succ]
              refine wpAnyH_take (i := 15) (v := ?v15) rfl (by kernel_rfl) (by kernel_rfl) (by kernel_rfl) (fun _ _ _ h => h) (Or.inl ⟨by rfl, ?y15⟩) (by assumption) ?r15
              case y15 => (intro w hSw; (try dsimp only at hSw); go_simp <;> with_reducible rfl)
              try simp only [List.getElem_toArray, List.getElem_cons_succ, List.getElem_cons_zero, Act.put, List.setIfInBounds_toArray, List.set_cons_zero, List.set_cons_succ]
              refine wpAnyH_take (i := 16) (v := ?v16) rfl (by kernel_rfl) (by kernel_rfl) (by kernel_rfl) (fun _ _ _ h => h) (Or.inl ⟨by rfl, ?y16⟩) (by assumption) ?r16
              case y16 => (intro w hSw; (try dsimp only at hSw); go_simp <;> with_reducible rfl)
              try simp only [List.getElem_toArray, List.getElem_cons_succ, List.getElem_cons_zero, Act.put, List.setIfInBounds_toArray, List.set_cons_zero, List.set_cons_succ]
              refine wpAnyH_take (i := 17) (v := ?v17) rfl (by kernel_rfl) (by kernel_rfl) (by kernel_rfl) (fun _ _ _ h => h) (Or.inl ⟨by rfl, ?y17⟩) (by assumption) ?r17
              case y17 => (intro w hSw; (try dsimp only at hSw); go_simp <;> with_reducible rfl)
              try simp only [List.getElem_toArray, List.getElem_cons_succ, List.getElem_cons_zero, Act.put, List.setIfInBounds_toArray, List.set_cons_zero, List.set_cons_succ]
              refine wpAnyH_take (i := 18) (v := ?v18) rfl (by kernel_rfl) (by kernel_rfl) (by kernel_rfl) (fun _ _ _ h => h) (Or.inl ⟨by rfl, ?y18⟩) (by assumption) ?r18
              case y18 => (intro w hSw; (try dsimp only at hSw); go_simp <;> with_reducible rfl)
              try simp only [List.getElem_toArray, List.getElem_cons_succ, List.getElem_cons_zero, Act.put, List.setIfInBounds_toArray, List.set_cons_zero, List.set_cons_succ]
              refine wpAnyH_take (i := 19) (v := ?v19) rfl (by kernel_rfl) (by kernel_rfl) (by kernel_rfl) (fun _ _ _ h => h) (Or.inl ⟨by rfl, ?y19⟩) (by assumption) ?r19
              case y19 => (intro w hSw; (try dsimp only at hSw); go_simp <;> with_reducible rfl)
              try simp only [List.getElem_toArray, List.getElem_cons_succ, List.getElem_cons_zero, Act.put, List.setIfInBounds_toArray, List.set_cons_zero, List.set_cons_succ]
              refine wpAnyH_take (i := 20) (v := undef) rfl (by kernel_rfl) (by kernel_rfl) (by kernel_rfl) (fun _ _ _ h => h) (Or.inr ⟨by rfl, rfl⟩) (by assumption) ?r20
              try simp only [List.getElem_toArray, List.getElem_cons_succ, List.getElem_cons_zero, Act.put, List.setIfInBounds_toArray, List.set_cons_zero, List.set_cons_succ]
              refine wpAnyH_take (i := 21) (v := undef) rfl (by kernel_rfl) (by kernel_rfl) (by kernel_rfl) (fun _ _ _ h => h) (Or.inr ⟨by rfl, rfl⟩) (by assumption) ?r21
              try simp only [List.getElem_toArray, List.getElem_cons_succ, List.getElem_cons_zero, Act.put, List.setIfInBounds_toArray, List.set_cons_zero, List.set_cons_succ]
              refine wpAnyH_take (i := 22) (v := undef) rfl (by kernel_rfl) (by kernel_rfl) (by kernel_rfl) (fun _ _ _ h => h) (Or.inr ⟨by rfl, rfl⟩) (by assumption) ?r22
              try simp only [List.getElem_toArray, List.getElem_cons_succ, List.getElem_cons_zero, Act.put, List.setIfInBounds_toArray, List.set_cons_zero, List.set_cons_succ]
              refine wpAnyH_take (i := 23) (v := undef) rfl (by kernel_rfl) (by kernel_rfl) (by kernel_rfl) (fun _ _ _ h => h) (Or.inr ⟨by rfl, rfl⟩) (by assumption) ?r23
              try simp only [List.getElem_toArray, List.getElem_cons_succ, List.getElem_cons_zero, Act.put, List.setIfInBounds_toArray, List.set_cons_zero, List.set_cons_succ]
              refine wpAnyH_take (i := 24) (v := undef) rfl (by kernel_rfl) (by kernel_rfl) (by kernel_rfl) (fun _ _ _ h => h) (Or.inr ⟨by rfl, rfl⟩) (by assumption) ?r24
              try simp only [List.getElem_toArray, List.getElem_cons_succ, List.getElem_cons_zero, Act.put, List.setIfInBounds_toArray, List.set_cons_zero, List.set_cons_succ]
              refine wpAnyH_take (i := 25) (v := undef) rfl (by kernel_rfl) (by kernel_rfl) (by kernel_rfl) (fun _ _ _ h => h) (Or.inr ⟨by rfl, rfl⟩) (by assumption) ?r25
              try simp only [List.getElem_toArray, List.getElem_cons_succ, List.getElem_cons_zero, Act.put, List.setIfInBounds_toArray, List.set_cons_zero, List.set_cons_succ]
              refine wpAnyH_take (i := 26) (v := undef) rfl (by kernel_rfl) (by kernel_rfl) (by kernel_rfl) (fun _ _ _ h => h) (Or.inr ⟨by rfl, rfl⟩) (by assumption) ?r26
              try simp only [List.getElem_toArray, List.getElem_cons_succ, List.getElem_cons_zero, Act.put, List.setIfInBounds_toArray, List.set_cons_zero, List.set_cons_succ]
              refine wpAnyH_take (i := 27) (v := undef) rfl (by kernel_rfl) (by kernel_rfl) (by kernel_rfl) (fun _ _ _ h => h) (Or.inr ⟨by rfl, rfl⟩) (by assumption) ?r27
              try simp only [List.getElem_toArray, List.getElem_cons_succ, List.getElem_cons_zero, Act.put, List.setIfInBounds_toArray, List.set_cons_zero, List.set_cons_succ]
              refine wpAnyH_take (i := 28) (v := undef) rfl (by kernel_rfl) (by kernel_rfl) (by kernel_rfl) (fun _ _ _ h => h) (Or.inr ⟨by rfl, rfl⟩) (by assumption) ?r28
              try simp only [List.getElem_toArray, List.getElem_cons_succ, List.getElem_cons_zero, Act.put, List.setIfInBounds_toArray, List.set_cons_zero, List.set_cons_succ]
              refine wpAnyH_take (i := 29) (v := undef) rfl (by kernel_rfl) (by kernel_rfl) (by kernel_rfl) (fun _ _ _ h => h) (Or.inr ⟨by rfl, rfl⟩) (by assumption) ?r29
              try simp only [List.getElem_toArray, List.getElem_cons_succ, List.getElem_cons_zero, Act.put, List.setIfInBounds_toArray, List.set_cons_zero, List.set_cons_succ]
              refine wpAnyH_take (i := 30) (v := undef) rfl (by kernel_rfl) (by kernel_rfl) (by kernel_rfl) (fun _ _ _ h => h) (Or.inr ⟨by rfl, rfl⟩) (by assumption) ?r30
              try simp only [List.getElem_toArray, List.getElem_cons_succ, List.getElem_cons_zero, Act.put, List.setIfInBounds_toArray, List.set_cons_zero, List.set_cons_succ]
              refine wpAnyH_take (i := 31) (v := ?v31) rfl (by kernel_rfl) (by kernel_rfl) (by kernel_rfl) (fun _ _ _ h => h) (Or.inl ⟨by rfl, ?y31⟩) (by assumption) ?r31
              case y31 => (intro w hSw; (try dsimp only at hSw); go_simp <;> with_reducible rfl)
              try simp only [List.getElem_toArray, List.getElem_cons_succ, List.getElem_cons_zero, Act.put, List.setIfInBounds_toArray, List.set_cons_zero, List.set_cons_succ]
              refine wpAnyH_take (i := 32) (v := ?v32) rfl (by kernel_rfl) (by kernel_rfl) (by kernel_rfl) (fun _ _ _ h => h) (Or.inl ⟨by rfl, ?y32⟩) (by assumption) ?r32
              case y32 => (intro w hSw; (try dsimp only at hSw); go_simp <;> with_reducible rfl)
              try simp only [List.getElem_toArray, List.getElem_cons_succ, List.getElem_cons_zero, Act.put, List.setIfInBounds_toArray, List.set_cons_zero, List.set_cons_succ]
              refine wpAnyH_take (i := 33) (v := ?v33) rfl (by kernel_rfl) (by kernel_rfl) (by kernel_rfl) (fun _ _ _ h => h) (Or.inl ⟨by rfl, ?y33⟩) (by assumption) ?r33
              case y33 => (intro w hSw; (try dsimp only at hSw); go_simp <;> with_reducible rfl)
              try simp only [List.getElem_toArray, List.getElem_cons_succ, List.getElem_cons_zero, Act.put, List.setIfInBounds_toArray, List.set_cons_zero, List.set_cons_succ]
              refine wpAnyH_take (i := 34) (v := ?v34) rfl (by kernel_rfl) (by kernel_rfl) (by kernel_rfl) (fun _ _ _ h => h) (Or.inl ⟨by rfl, ?y34⟩) (by assumption) ?r34
              case y34 => (intro w hSw; (try dsimp only at hSw); go_simp <;> with_reducible rfl)
              try simp only [List.getElem_toArray, List.getElem_cons_succ, List.getElem_cons_zero, Act.put, List.setIfInBounds_toArray, List.set_cons_zero, List.set_cons_succ]
              refine wpAnyH_take (i := 35) (v := ?v35) rfl (by kernel_rfl) (by kernel_rfl) (by kernel_rfl) (fun _ _ _ h => h) (Or.inl ⟨by rfl, ?y35⟩) (by assumption) ?r35
              case y35 => (intro w hSw; (try dsimp only at hSw); go_simp <;> with_reducible rfl)
              try simp only [List.getElem_toArray, List.getElem_cons_succ, List.getElem_cons_zero, Act.put, List.setIfInBounds_toArray, List.set_cons_zero, List.set_cons_succ]
              refine wpAnyH_take (i := 36) (v := ?v36) rfl (by kernel_rfl) (by kernel_rfl) (by kernel_rfl) (fun _ _ _ h => h) (Or.inl ⟨by rfl, ?y36⟩) (by assumption) ?r36
              case y36 => (intro w hSw; (try dsimp only at hSw); go_simp <;> with_reducible rfl)
              try simp only [List.getElem_toArray, List.getElem_cons_succ, List.getElem_cons_zero, Act.put, List.setIfInBounds_toArray, List.set_cons_zero, List.set_cons_succ]
              refine wpAnyH_take (i := 37) (v := ?v37) rfl (by kernel_rfl) (by kernel_rfl) (by kernel_rfl) (fun _ _ _ h => h) (Or.inl ⟨by rfl, ?y37⟩) (by assumption) ?r37
              case y37 => (intro w hSw; (try dsimp only at hSw); go_simp <;> with_reducible rfl)
              try simp only [List.getElem_toArray, List.getElem_cons_succ, List.getElem_cons_zero, Act.put, List.setIfInBounds_toArray, List.set_cons_zero, List.set_cons_succ]
              refine wpAnyH_take (i := 38) (v := ?v38) rfl (by kernel_rfl) (by kernel_rfl) (by kernel_rfl) (fun _ _ _ h => h) (Or.inl ⟨by rfl, ?y38⟩) (by assumption) ?r38
              case y38 => (intro w hSw; (try dsimp only at hSw); go_simp <;> with_reducible rfl)
              try simp only [List.getElem_toArray, List.getElem_cons_succ, List.getElem_cons_zero, Act.put, List.setIfInBounds_toArray, List.set_cons_zero, List.set_cons_succ]
              refine wpAnyH_take (i := 39) (v := ?v39) rfl (by kernel_rfl) (by kernel_rfl) (by kernel_rfl) (fun _ _ _ h => h) (Or.inl ⟨by rfl, ?y39⟩) (by assumption) ?r39
              case y39 => (intro w hSw; (try dsimp only at hSw); go_simp <;> with_reducible rfl)
              try simp only [List.getElem_toArray, List.getElem_cons_succ, List.getElem_cons_zero, Act.put, List.setIfInBounds_toArray, List.set_cons_zero, List.set_cons_succ]
              refine wpAnyH_take (i := 40) (v := ?v40) rfl (by kernel_rfl) (by kernel_rfl) (by kernel_rfl) (fun _ _ _ h => h) (Or.inl ⟨by rfl, ?y40⟩) (by assumption) ?r40
              case y40 => (intro w hSw; (try dsimp only at hSw); go_simp <;> with_reducible rfl)
              try simp only [List.getElem_toArray, List.getElem_cons_succ, List.getElem_cons_zero, Act.put, List.setIfInBounds_toArray, List.set_cons_zero, List.set_cons_succ]
              refine wpAnyH_take (i := 41) (v := ?v41) rfl (by kernel_rfl) (by kernel_rfl) (by kernel_rfl) (fun _ _ _ h => h) (Or.inl ⟨by rfl, ?y41⟩) (by assumption) ?r41
              case y41 => (intro w hSw; (try dsimp only at hSw); go_simp <;> with_reducible rfl)
              try simp only [List.getElem_toArray, List.getElem_cons_succ, List.getElem_cons_zero, Act.put, List.setIfInBounds_toArray, List.set_cons_zero, List.set_cons_succ]
              refine wpAnyH_take (i := 42) (v := ?v42) rfl (by kernel_rfl) (by kernel_rfl) (by kernel_rfl) (fun _ _ _ h => h) (Or.inl ⟨by rfl, ?y42⟩) (by assumption) ?r42
              case y42 => (intro w hSw; (try dsimp only at hSw); go_simp <;> with_reducible rfl)
              try simp only [List.getElem_toArray, List.getElem_cons_succ, List.getElem_cons_zero, Act.put, List.setIfInBounds_toArray, List.set_cons_zero, List.set_cons_succ]
              refine wpAnyH_take (i := 43) (v := ?v43) rfl (by kernel_rfl) (by kernel_rfl) (by kernel_rfl) (fun _ _ _ h => h) (Or.inl ⟨by rfl, ?y43⟩) (by assumption) ?r43
              case y43 => (intro w hSw; (try dsimp only at hSw); go_simp <;> with_reducible rfl)
              try simp only [List.getElem_toArray, List.getElem_cons_succ, List.getElem_cons_zero, Act.put, List.setIfInBounds_toArray, List.set_cons_zero, List.set_cons_succ]
              refine wpAnyH_take (i := 44) (v := ?v44) rfl (by kernel_rfl) (by kernel_rfl) (by kernel_rfl) (fun _ _ _ h => h) (Or.inl ⟨by rfl, ?y44⟩) (by assumption) ?r44
              case y44 => (intro w hSw; (try dsimp only at hSw); go_simp <;> with_reducible rfl)
              try simp only [List.getElem_toArray, List.getElem_cons_succ, List.getElem_cons_zero, Act.put, List.setIfInBounds_toArray, List.set_cons_zero, List.set_cons_succ]
              refine wpAnyH_take (i := 45) (v := ?v45) rfl (by kernel_rfl) (by kernel_rfl) (by kernel_rfl) (fun _ _ _ h => h) (Or.inl ⟨by rfl, ?y45⟩) (by assumption) ?r45
              case y45 => (intro w hSw; (try dsimp only at hSw); go_simp <;> with_reducible rfl)
              try simp only [List.getElem_toArray, List.getElem_cons_succ, List.getElem_cons_zero, Act.put, List.setIfInBounds_toArray, List.set_cons_zero, List.set_cons_succ]
              refine wpAnyH_take (i := 46) (v := ?v46) rfl (by kernel_rfl) (by kernel_rfl) (by kernel_rfl) (fun _ _ _ h => h) (Or.inl ⟨by rfl, ?y46⟩) (by assumption) ?r46
              case y46 => (intro w hSw; (try dsimp only at hSw); go_simp <;> with_reducible rfl)
              try simp only [List.getElem_toArray, List.getElem_cons_succ, List.getElem_cons_zero, Act.put, List.setIfInBounds_toArray, List.set_cons_zero, List.set_cons_succ]
              refine wpAnyH_take (i := 47) (v := ?v47) rfl (by kernel_rfl) (by kernel_rfl) (by kernel_rfl) (fun _ _ _ h => h) (Or.inl ⟨by rfl, ?y47⟩) (by assumption) ?r47
              case y47 => (intro w hSw; (try dsimp only at hSw); go_simp <;> with_reducible rfl)
              try simp only [List.getElem_toArray, List.getElem_cons_succ, List.getElem_cons_zero, Act.put, List.setIfInBounds_toArray, List.set_cons_zero, List.set_cons_succ]
              refine wpAnyH_take (i := 48) (v := ?v48) rfl (by kernel_rfl) (by kernel_rfl) (by kernel_rfl) (fun _ _ _ h => h) (Or.inl ⟨by rfl, ?y48⟩) (by assumption) ?r48
              case y48 => (intro w hSw; (try dsimp only at hSw); go_simp <;> with_reducible rfl)
              try simp only [List.getElem_toArray, List.getElem_cons_succ, List.getElem_cons_zero, Act.put, List.setIfInBounds_toArray, List.set_cons_zero, List.set_cons_succ]
              refine wpAnyH_take (i := 49) (v := ?v49) rfl (by kernel_rfl) (by kernel_rfl) (by kernel_rfl) (fun _ _ _ h => h) (Or.inl ⟨by rfl, ?y49⟩) (by assumption) ?r49
              case y49 => (intro w hSw; (try dsimp only at hSw); go_simp <;> with_reducible rfl)
              try simp only [List.getElem_toArray, List.getElem_cons_succ, List.getElem_cons_zero, Act.put, List.setIfInBounds_toArray, List.set_cons_zero, List.set_cons_succ]
              refine wpAnyH_take (i := 50) (v := ?v50) rfl (by kernel_rfl) (by kernel_rfl) (by kernel_rfl) (fun _ _ _ h => h) (Or.inl ⟨by rfl, ?y50⟩) (by assumption) ?r50
              case y50 => (intro w hSw; (try dsimp only at hSw); go_simp <;> with_reducible rfl)
              try simp only [List.getElem_toArray, List.getElem_cons_succ, List.getElem_cons_zero, Act.put, List.setIfInBounds_toArray, List.set_cons_zero, List.set_cons_succ]
              refine wpAnyH_ready (rs := [51]) (by kernel_rfl) (by simp) ?_
              refine AllReadyH.cons rfl (fun K hK => ?s51) ?m51
              case m51 => exact AllReadyH.nil
              simp only [List.getElem_toArray, List.getElem_cons_succ, List.getElem_cons_zero]
              go_simp
              refine hK.out _ _ ?k51 (fun hHeld => ?n51)
              case k51 => (try dsimp only); (first | exact ⟨⟨by assumption, by assumption⟩, ⟨by assumption, by assumption⟩, by assumption, by assumption, by assumption⟩ | go_keep)
              clear hK K
              try simp only [List.getElem_toArray, List.getElem_cons_succ, List.getElem_cons_zero, Act.put, List.setIfInBounds_toArray, List.set_cons_zero, List.set_cons_succ]
              refine wpAnyH_ready (rs := [52]) (by kernel_rfl) (by simp) ?_
              refine AllReadyH.cons rfl (fun K hK => ?s52) ?m52
              case m52 => exact AllReadyH.nil
              simp only [List.getElem_toArray, List.getElem_cons_succ, List.getElem_cons_zero]
              go_simp
              (go_at_call 21; refine (T.out _ C1).mono ?_; rintro e v1 ⟨rfl, vb1⟩; have vc1 := hA.trans (vb1.mono hA.size); obtain ⟨⟨f0, f1⟩, ⟨f2, f3⟩, f4, f5, f6⟩ := CELL.out _ vc1)
              refine hK.out _ _ ?k52 (fun hHeld => ?n52)
              case k52 => (try dsimp only); (first | exact ⟨⟨by assumption, by assumption⟩, ⟨by assumption, by assumption⟩, by assumption, by assumption, by assumption⟩ | go_keep)
              clear hK K
              try simp only [List.getElem_toArray, List.getElem_cons_succ, List.getElem_cons_zero, Act.put, List.setIfInBounds_toArray, List.set_cons_zero, List.set_cons_succ]
              refine wpAnyH_take (i := 53) (v := ?v53) rfl (by kernel_rfl) (by kernel_rfl) (by kernel_rfl) (fun _ _ _ h => h) (Or.inl ⟨by rfl, ?y53⟩) (by assumption) ?r53
              case y53 => (intro w hSw; (try dsimp only at hSw); go_simp <;> with_reducible rfl)
              try simp only [List.getElem_toArray, List.getElem_cons_succ, List.getElem_cons_zero, Act.put, List.setIfInBounds_toArray, List.set_cons_zero, List.set_cons_succ]
              refine wpAnyH_take (i := 54) (v := ?v54) rfl (by kernel_rfl) (by kernel_rfl) (by kernel_rfl) (fun _ _ _ h => h) (Or.inl ⟨by rfl, ?y54⟩) (by assumption) ?r54
              case y54 => (intro w hSw; (try dsimp only at hSw); go_simp <;> with_reducible rfl)
              try simp only [List.getElem_toArray, List.getElem_cons_succ, List.getElem_cons_zero, Act.put, List.setIfInBounds_toArray, List.set_cons_zero, List.set_cons_succ]
              refine wpAnyH_take (i := 55) (v := ?v55) rfl (by kernel_rfl) (by kernel_rfl) (by kernel_rfl) (fun _ _ _ h => h) (Or.inl ⟨by rfl, ?y55⟩) (by assumption) ?r55
              case y55 => (intro w hSw; (try dsimp only at hSw); go_simp <;> with_reducible rfl)
              try simp only [List.getElem_toArray, List.getElem_cons_succ, List.getElem_cons_zero, Act.put, List.setIfInBounds_toArray, List.set_cons_zero, List.set_cons_succ]
              refine wpAnyH_take (i := 56) (v := ?v56) rfl (by kernel_rfl) (by kernel_rfl) (by kernel_rfl) (fun _ _ _ h => h) (Or.inl ⟨by rfl, ?y56⟩) (by assumption) ?r56
              case y56 => (intro w hSw; (try dsimp only at hSw); go_simp <;> with_reducible rfl)
              try simp only [List.getElem_toArray, List.getElem_cons_succ, List.getElem_cons_zero, Act.put, List.setIfInBounds_toArray, List.set_cons_zero, List.set_cons_succ]
              refine wpAnyH_take (i := 57) (v := ?v57) rfl (by kernel_rfl) (by kernel_rfl) (by kernel_rfl) (fun _ _ _ h => h) (Or.inl ⟨by rfl, ?y57⟩) (by assumption) ?r57
              case y57 => (intro w hSw; (try dsimp only at hSw); go_simp <;> with_reducible rfl)
              try simp only [List.getElem_toArray, List.getElem_cons_succ, List.getElem_cons_zero, Act.put, List.setIfInBounds_toArray, List.set_cons_zero, List.set_cons_succ]
              refine wpAnyH_done (by kernel_rfl) ?_ _
              all_goals
                go_wp2
                go_roundw
                case rel => exact ⟨j + 1, by omega, by go_num, HVV.out.trans (vc1.mono HVV.out.size)⟩
                case measure => simp [intOf]; omega
          · have e4 : decide ((j : Int) < (ks.length : Int)) = false := decide_eq_false (by omega)
            clear hx hy hm2
            go_wp2_with (go_at_call 18; (with_reducible refine (LV.out _).mono ?_); rintro e w4 ⟨rfl, hb4⟩; replace hW := hW.trans (hb4.mono hW.size))
            go_ret
            exact ⟨rfl, hW⟩
  · rw [decide_eq_false hR] at R1
    clear hx hm hm' hc hs hlm hy hR
    go_enter Try.func6, Try.ntmps6
    go_wp2_with (first
      | (go_at_call 11; (with_reducible refine (R1.out _ hW0).mono ?_); rintro e w1 ⟨rfl, hb1⟩; replace hW0 := hW0.trans (hb1.mono hW0.size))
      | (go_at_call 18; (with_reducible refine (LV.out _).mono ?_); rintro e w4 ⟨rfl, hb4⟩; replace hW0 := hW0.trans (hb4.mono hW0.size)))
    go_ret
    exact ⟨rfl, hW0⟩
theorem markStays_walk {A B : Option Addr} {c d : Nat} {ks : List Mk} {cs : List Cg} {w : World} (hx : Mks w A ks) (hc : ks.length ≤ c) (hm : c ≤ maxLen) (hy : Cgs w B cs) (hs : ∀ k ∈ cs, k.old.size ≤ 140737488351232 ∧ k.new.size ≤ 140737488351232) (hl : cs.length ≤ maxLen) :
    Calls Try.prog 6 #[.slice A ks.length c, .slice B cs.length d] w fun e w' => e = .returned (.bool true) ∧ Below w.heap.size w w' := by
  by_cases h : cs.length = 1
  · rw [h]
    exact markStays_one hx hc hm hy hs h
  · exact markStays_many hx hc hm hy hs hl rfl h
section
open Go.ChangeShapes Go.WideShapes Go.ChangeAt
open Go.ChangeMaps (open_string)
set_option maxRecDepth 100000 in
theorem markStays_lifted (os : Os) (started : os.Started) (H : Type) (enc : TypeId × Value → H) :
    ReturnsInHanded {} Try.checked os 6 .any (Rows.markStaysSpec.pre6 enc Try.prog Try.f6 Rows.markStaysRow.domain false) (Rows.markStaysSpec.post enc Try.prog Try.f6 false true false false) := by
  refine returnsInHanded_of_change_sized (C := Try.checked) own_knob started (by kernel_rfl) Try.func6
    (ChangeSpec.witness6 (enc := enc) (C := Try.checked) false ⟨#[], #[.slice none 0 0, .slice none 0 0], []⟩ 8 (by kernel_rfl) (by kernel_rfl) (by kernel_rfl) (by kernel_rfl)) ?_
  intro W base args ds gs before hval0 hW _ hsz0 _
  have hsz : (DataW.weightsEach Try.prog (Try.f6.params.toList ++ Rows.markStaysSpec.plain.varTypes Try.prog) (ds ++ gs)).all (· ≤ reachBytes) = true := hsz0
  clear hsz0
  have hval : ∀ (j : Nat) t v, Try.f6.params[j]? = some t → args[j]? = some v → Value.okWide Try.prog W .any base t v := hval0
  have hW' := hW
  obtain ⟨p, q, hA0, hV, rfl, hfz, hnd⟩ := hW
  have hA : DataW.TrodAll enc Try.prog W 0 (fun _ => true) true Try.f6.params.toList args.toList ds p := hA0
  rw [Try.params6] at hA hval hsz
  obtain ⟨v0, vs0, d0, ds0, p0, q0, hargs, rfl, rfl, h0, r0⟩ := trodAll_cons hA
  obtain ⟨v1, vs1, d1, ds1, p1, q1, rfl, rfl, rfl, h1, r1⟩ := trodAll_cons r0
  obtain ⟨rfl, rfl, rfl⟩ := trodAll_nil r1
  obtain rfl : args = #[v0, v1] := by cases args; simp_all
  obtain ⟨rfl, rfl⟩ := trodVars_none hV
  have hlt0 : ∀ x ∈ p0, x.block < W.heap.size := fun x hx => by simpa using hW'.lt x (by simp [hx])
  obtain ⟨A0, c0, xs0, rfl, hx0, hc0, hm0⟩ := open_mks (hval 0 22 v0 rfl rfl) h0 hlt0
  have hlt1 : ∀ x ∈ p1, x.block < W.heap.size := fun x hx => by simpa using hW'.lt x (by simp [hx])
  obtain ⟨A1, c1, xs1, rfl, hx1, hm1, hd1⟩ := open_cgs (hval 1 36 v1 rfl rfl) h1 hlt1
  have he1 : ∀ k ∈ xs1, k.old.size ≤ 140737488351232 ∧ k.new.size ≤ 140737488351232 := fun k hk => by
    obtain ⟨e, sp, x, rfl, hin⟩ := hd1 k hk
    rw [← data_len, ← data_len]
    exact sized_cg hsz (j := 1) rfl rfl hin
  refine (markStays_walk hx0 hc0 hm0 hx1 he1 hm1).mono fun e W' ⟨he, hb⟩ => ?_
  subst he
  exact ⟨_, rfl, law_post rfl rfl (by rw [Try.params6]; decide +kernel) ⟨rfl, rfl, rfl⟩ hW' hb⟩
theorem markStays_holds : Rows.MarkStaysSaid :=
  OpenClaim.holds_of_wide 6 Try.f6 rfl rfl rfl rfl rfl rfl rfl ⟨rfl, rfl, rfl, rfl, rfl⟩ rfl rfl rfl rfl rfl (by kernel_rfl) Try.func6 (by kernel_rfl)
    (of_decide_eq_true (by kernel_rfl)) (by unfold Func.isWrapper; first | (rw [if_pos (by decide +kernel)]; kernel_rfl) | (rw [if_neg (by decide +kernel)]; exact ⟨rfl, rfl⟩))
    (fun os started H enc _ => markStays_lifted os started H enc)
end
end Go.Proofs.Ytcpnaanknheekaa
