/-
  Whether marks may be, where one is, and the marks without one, as the document tells it.
-/
import Derived.Test.YtcpnaanknheekaaMarkRight
namespace Go.Proofs.Ytcpnaanknheekaa
open Go.RowKit
open Mrk
set_option maxHeartbeats 1000000 in
set_option maxRecDepth 100000 in
theorem ref10_Right {A : Option Addr} {c : Nat} {ks : List Mk} {w : World} (hx : Mks w A ks) (hm : ks.length ≤ maxLen) :
    Calls Try.prog 12 #[.slice A ks.length c] w fun e w' => e = .returned (.bool (decide (Right ks))) ∧ Below w.heap.size w w' := by
  have hm2 : ks.length ≤ 9223372036854775807 := by unfold maxLen at hm; exact hm
  clear hm
  go_enter Try.func12, Try.ntmps12
  go_wp2_with fail
  go_loopw [3] (fun iv wr => ∃ k : Nat, k ≤ ks.length ∧ iv = .int .i64 k ∧ Hid (Right (ks.take k)) ∧ Below w.heap.size w wr) (fun iv _ => ks.length - (intOf iv).toNat)
  case atStart => exact ⟨0, Nat.zero_le _, rfl, (right_nil : Right (ks.take 0)), Below.refl _ _⟩
  case round =>
    obtain ⟨k, hkl, rfl, HR, hW⟩ := hrel
    by_cases hlt : k < ks.length
    · obtain ⟨x, hkx⟩ : ∃ x, ks[k]? = some x := ⟨_, List.getElem?_eq_getElem hlt⟩
      obtain ⟨b, off, rfl, hbw, c0, c1⟩ := hx.at_ hW (Nat.le_refl _) hkx
      have hs := Lib.hid (right_succ hkx)
      have hq : ∀ q, Below w.heap.size w (wr.drewN q) := fun q => hW.trans ((below_gb (gb_drewN _ q none)).mono hW.size)
      have N := Lib.hid (ref10_Name x.name)
      have hki : (k : Int) < ks.length := by omega
      have no : ¬ Right (ks.take (k + 1)) → Hid (decide (Right ks) = false) := fun h => decide_eq_false (not_right h)
      by_cases hn : 97 ≤ x.name ∧ x.name ≤ 122
      · rw [decide_eq_true hn] at N
        by_cases hi : 0 ≤ x.at_ ∧ x.at_ ≤ 1099511627776
        · have f0 : decide (x.at_ < 0) = false := decide_eq_false (by omega)
          have f1 : decide (1099511627776 < x.at_) = false := decide_eq_false (by omega)
          by_cases h0 : 0 < k
          · obtain ⟨j, hj⟩ : ∃ j, k = j + 1 := ⟨k - 1, by omega⟩
            have hjl : j < ks.length := by omega
            obtain ⟨y, hky⟩ : ∃ y, ks[j]? = some y := ⟨_, List.getElem?_eq_getElem hjl⟩
            obtain ⟨b', off', hA', _, e0, _⟩ := hx.at_ hW (Nat.le_refl _) hky
            simp only [Option.some.injEq, Addr.mk.injEq, and_true] at hA'
            obtain ⟨rfl, rfl⟩ := hA'
            have g0 : decide ((0 : Int) < (k : Int)) = true := decide_eq_true (by omega)
            have g1 : (k : Int) - 1 = j := by omega
            have g2 : (j : Int) < ks.length := by omega
            have hyk : ks[k - 1]? = some y := by rw [hj, Nat.add_sub_cancel]; exact hky
            by_cases hr : y.name < x.name
            · have H : Hid (Right (ks.take (k + 1))) := hs.out.2 ⟨HR.out, ⟨hn, hi⟩, fun z _ hz => by rw [hyk] at hz; injection hz with hz; rw [← hz]; exact hr⟩
              have g3 : decide (x.name ≤ y.name) = false := decide_eq_false (by omega)
              clear hkx hx hky hyk hj no hs hn hi
              go_wp2
              go_quiet ((go_at_call 14; exact (N.out _).mono fun e w1 h => ⟨h.1, _, h.2.symm⟩))
              go_wp2
              go_roundw
              case rel => exact ⟨k + 1, by omega, by go_num, H, hq _⟩
              case measure => simp [intOf]; omega
            · have H := no fun h => hr ((hs.out.1 h).2.2 y h0 hyk)
              have g3 : decide (x.name ≤ y.name) = true := decide_eq_true (by omega)
              clear hkx hx hky hyk hj no hs hn hi
              go_wp2
              go_quiet ((go_at_call 14; exact (N.out _).mono fun e w1 h => ⟨h.1, _, h.2.symm⟩))
              go_wp2
              go_ret
              exact ⟨by rw [H.out]; rfl, hq _⟩
          · have H : Hid (Right (ks.take (k + 1))) := hs.out.2 ⟨HR.out, ⟨hn, hi⟩, fun z hz => absurd hz h0⟩
            have g0 : decide ((0 : Int) < (k : Int)) = false := decide_eq_false (by omega)
            clear hkx hx no hs hn hi
            go_wp2
            go_quiet ((go_at_call 14; exact (N.out _).mono fun e w1 h => ⟨h.1, _, h.2.symm⟩))
            go_wp2
            go_roundw
            case rel => exact ⟨k + 1, by omega, by go_num, H, hq _⟩
            case measure => simp [intOf]; omega
        · have H := no fun h => hi (hs.out.1 h).2.1.2
          by_cases hi0 : x.at_ < 0
          · have f0 : decide (x.at_ < 0) = true := decide_eq_true hi0
            clear hkx hx no hs hn hi
            go_wp2
            go_quiet ((go_at_call 14; exact (N.out _).mono fun e w1 h => ⟨h.1, _, h.2.symm⟩))
            go_wp2
            go_ret
            exact ⟨by rw [H.out]; rfl, hq _⟩
          · have f0 : decide (x.at_ < 0) = false := decide_eq_false hi0
            have f1 : decide (1099511627776 < x.at_) = true := decide_eq_true (by omega)
            clear hkx hx no hs hn hi
            go_wp2
            go_quiet ((go_at_call 14; exact (N.out _).mono fun e w1 h => ⟨h.1, _, h.2.symm⟩))
            go_wp2
            go_ret
            exact ⟨by rw [H.out]; rfl, hq _⟩
      · have H := no fun h => hn (hs.out.1 h).2.1.1
        rw [decide_eq_false hn] at N
        clear hkx hx no hs
        go_wp2
        go_quiet ((go_at_call 14; exact (N.out _).mono fun e w1 h => ⟨h.1, _, h.2.symm⟩))
        go_wp2
        go_ret
        exact ⟨by rw [H.out]; rfl, hq _⟩
    · have H : Hid (decide (Right ks) = true) := by
        have := HR.out
        rw [List.take_of_length_le (by omega)] at this
        exact decide_eq_true this
      clear hx
      go_wp2
      go_ret
      exact ⟨by rw [H.out]; rfl, hW⟩
set_option maxHeartbeats 1000000 in
set_option maxRecDepth 100000 in
theorem ref10_Get (n : Int) {A : Option Addr} {c : Nat} {ks : List Mk} {w : World} (hx : Mks w A ks) (hm : ks.length ≤ maxLen) :
    Calls Try.prog 10 #[.slice A ks.length c, .int .i64 n] w fun e w' => e = .returned (.tuple #[.int .i64 (get ks n).1, .bool (get ks n).2]) ∧ Below w.heap.size w w' := by
  have R : Hid (∀ u, Below w.heap.size w u → Calls Try.prog 12 #[.slice A ks.length c] u fun e w' => e = .returned (.bool (decide (Right ks))) ∧ Below u.heap.size u w') := fun u hu => ref10_Right (hx.below hu) hm
  have hm2 : ks.length ≤ 9223372036854775807 := by unfold maxLen at hm; exact hm
  clear hm
  go_enter Try.func10, Try.ntmps10
  go_wp2_with fail
  go_loopw [6] (fun iv wr => ∃ k : Nat, k ≤ ks.length ∧ iv = .int .i64 k ∧ Hid (Mrk.look (ks.take k) n = none) ∧ Below w.heap.size w wr) (fun iv _ => ks.length - (intOf iv).toNat)
  case atStart => exact ⟨0, Nat.zero_le _, rfl, rfl, Below.refl _ _⟩
  case round =>
    obtain ⟨k, hkl, rfl, HL, hW⟩ := hrel
    by_cases hlt : k < ks.length
    · obtain ⟨x, hkx⟩ : ∃ x, ks[k]? = some x := ⟨_, List.getElem?_eq_getElem hlt⟩
      have hki : (k : Int) < ks.length := by omega
      have f0 : decide ((k : Int) < (ks.length : Int)) = true := decide_eq_true hki
      have r := R.out wr hW
      by_cases hR : Right ks
      · rw [decide_eq_true hR] at r
        have CC : Hid (∀ u, Below w.heap.size w u → ∃ b off, A = some ⟨b, off, none⟩ ∧ b < w.heap.size ∧ u.cell? ⟨b, off + k * 2, none⟩ = some (.int .i64 x.name) ∧ u.cell? ⟨b, off + k * 2 + 1, none⟩ = some (.int .i64 x.at_)) := fun u hu => hx.at_ hu (Nat.le_refl _) hkx
        have hst := look_take (n := n) hkx
        rw [HL.out, Option.none_or] at hst
        have hst2 := Lib.hid hst
        have HRr := Lib.hid hR
        clear hkx hx hst hR
        go_wp2_with (go_at_call 12; refine r.mono ?_; rintro e w1 ⟨rfl, hb1⟩)
        have hW1 := hW.trans (hb1.mono hW.size)
        obtain ⟨b, off, rfl, hbw, c0, c1⟩ := CC.out _ hW1
        by_cases hn : x.name = n
        · subst hn
          have H : Hid (get ks x.name = (x.at_, true)) := get_some HRr.out (look_of_take (by rw [hst2.out, if_pos rfl]))
          go_wp2
          go_ret2
          exact ⟨by rw [H.out]; rfl, hW1⟩
        · have H : Hid (Mrk.look (ks.take (k + 1)) n = none) := by show _ = _; rw [hst2.out, if_neg hn]
          go_wp2
          go_simp
          go_wp2
          go_roundw
          case rel => exact ⟨k + 1, by omega, by go_num, H, hW1⟩
          case measure => simp [intOf]; omega
      · rw [decide_eq_false hR] at r
        have H : Hid (get ks n = (0, false)) := get_not hR
        clear hkx hx hR
        go_wp2_with (go_at_call 12; refine r.mono ?_; rintro e w1 ⟨rfl, hb1⟩)
        go_ret2
        exact ⟨by rw [H.out]; rfl, hW.trans (hb1.mono hW.size)⟩
    · have f0 : decide ((k : Int) < (ks.length : Int)) = false := decide_eq_false (by omega)
      have H : Hid (get ks n = (0, false)) := by
        have := HL.out
        rw [List.take_of_length_le (by omega)] at this
        exact get_none this
      clear hx
      go_wp2
      go_ret2
      exact ⟨by rw [H.out]; rfl, hW⟩
set_option maxHeartbeats 1000000 in
set_option maxRecDepth 100000 in
theorem ref10_Drop (n : Int) {A : Option Addr} {c : Nat} {ks : List Mk} {w : World} (hx : Mks w A ks) (hm : ks.length ≤ maxLen) :
    Calls Try.prog 17 #[.slice A ks.length c, .int .i64 n] w (MksIs (dropped ks n) w) := by
  have R : Hid (∀ u, Below w.heap.size w u → Calls Try.prog 12 #[.slice A ks.length c] u fun e w' => e = .returned (.bool (decide (Right ks))) ∧ Below u.heap.size u w') := fun u hu => ref10_Right (hx.below hu) hm
  have hm2 : ks.length ≤ 9223372036854775807 := by unfold maxLen at hm; exact hm
  obtain ⟨i0, hi, hz0, hz1, hz2⟩ := info_parts info_mark
  clear hm
  go_enter Try.func17, Try.ntmps17
  go_wp2_with fail
  go_loopw [5, 6] (fun v iv wr => ∃ (k m : Nat) (A' : Option Addr) (c' : Nat), k ≤ ks.length ∧ iv = .int .i64 k ∧ v = .slice A' m c' ∧ m ≤ k ∧ Hid (m = (drop (ks.take k) n).length) ∧ Hid (k = 0 ∨ Right ks) ∧ wr.ownsRow w.heap.size 44 2 v m (mrows (drop (ks.take k) n)) ∧ Below w.heap.size w wr) (fun _ iv _ => ks.length - (intOf iv).toNat)
  case atStart => exact ⟨0, 0, none, 0, Nat.zero_le _, rfl, rfl, Nat.le_refl _, rfl, .inl rfl, World.ownsRow_nil _ _ _ _, Below.refl _ _⟩
  case round =>
    obtain ⟨k, m, A', c', hkl, rfl, rfl, hmk, HM, H0, hown, hW⟩ := hrel
    by_cases hlt : k < ks.length
    · obtain ⟨x, hkx⟩ : ∃ x, ks[k]? = some x := ⟨_, List.getElem?_eq_getElem hlt⟩
      have hki : (k : Int) < ks.length := by omega
      have f0 : decide ((k : Int) < (ks.length : Int)) = true := decide_eq_true hki
      have r := R.out wr hW
      by_cases hR : Right ks
      · have h26 := hR.length_le
        rw [decide_eq_true hR] at r
        have CC : Hid (∀ u, Below w.heap.size w u → ∃ b off, A = some ⟨b, off, none⟩ ∧ b < w.heap.size ∧ u.cell? ⟨b, off + k * 2, none⟩ = some (.int .i64 x.name) ∧ u.cell? ⟨b, off + k * 2 + 1, none⟩ = some (.int .i64 x.at_)) := fun u hu => hx.at_ hu (Nat.le_refl _) hkx
        have hst := drop_succ (n := n) hkx
        have HRr := Lib.hid hR
        by_cases hn : x.name = n
        · subst hn
          rw [if_pos rfl, List.append_nil] at hst
          have hst2 := Lib.hid hst
          clear hkx hx hst hR
          go_wp2_with (go_at_call 12; refine r.mono ?_; rintro e w1 ⟨rfl, hb1⟩)
          have hW1 := hW.trans (hb1.mono hW.size)
          have hown1 := hown.kept (gb_below none hb1) (by cases hv : (Value.slice A' m c').ownBlock <;> simp)
          obtain ⟨b, off, rfl, hbw, c0, c1⟩ := CC.out _ hW1
          go_wp2
          go_simp
          go_wp2
          go_roundw
          case rel => exact ⟨k + 1, m, A', c', by omega, by go_num, rfl, by omega, (by show m = _; rw [hst2.out, ← HM.out]), .inr HRr.out, by rw [hst2.out]; exact hown1, hW1⟩
          case measure => simp [intOf]; omega
        · rw [if_neg hn] at hst
          have hst2 := Lib.hid hst
          clear hkx hx hst hR
          go_wp2_with (go_at_call 12; refine r.mono ?_; rintro e w1 ⟨rfl, hb1⟩)
          have hW1 := hW.trans (hb1.mono hW.size)
          have hown1 := hown.kept (gb_below none hb1) (by cases hv : (Value.slice A' m c').ownBlock <;> simp)
          obtain ⟨b, off, rfl, hbw, c0, c1⟩ := CC.out _ hW1
          have h2 : Below w1.heap.size w1 (w1.alloc (.cells #[.int .i64 x.name, .int .i64 x.at_] 44)) := (Below.refl _ w1).alloc (Nat.le_refl _) _
          have hown2 := hown1.kept (gb_below none h2) (by cases hv : (Value.slice A' m c').ownBlock <;> simp)
          have b2 := Blk.new w1 44 #[.int .i64 x.name, .int .i64 x.at_]
          go_wp2_with fail
          go_simp
          go_wp2_with (at_builtin; refine wpList_append_own _ rfl _ _ 22 rfl w.heap.size 44 i0 _ 2 16 Try.underlying22 hi hz0 hz1 hz2 rfl (by decide) _ _ _ rfl hown2 ⟨w1.heap.size, 0, none⟩ 1 1 [.int .i64 x.name, .int .i64 x.at_] rfl rfl ?c1 ?c2 ?c3 ?c4 ?c5 ?_)
          case c1 =>
            intro j u hj
            rw [add_plain, Nat.zero_add, b2.cell]
            simpa using hj
          case c2 =>
            intro u hu
            simp only [List.mem_cons, List.not_mem_nil, or_false] at hu
            rcases hu with rfl | rfl <;> rfl
          case c3 => unfold maxLen; omega
          case c4 => omega
          case c5 => exact Nat.le_trans hW1.size h2.size
          intro v' w3 hown3 hgrow3 _
          obtain ⟨a3, cap3, rfl⟩ := own_shape hown3
          have hW3 : Below w.heap.size w w3 := (hW1.trans (h2.mono hW1.size)).grown hgrow3 (Nat.le_trans hW1.size h2.size) (fun j hj => (hown2.lt j hj).1)
          go_wp2
          go_roundw
          case rel => exact ⟨k + 1, m + 1, a3, cap3, by omega, by go_num, rfl, by omega, (by show m + 1 = _; rw [hst2.out, List.length_append, ← HM.out]; rfl), .inr HRr.out, by rw [hst2.out, mrows_append]; exact hown3, hW3⟩
          case measure => simp [intOf]; omega
      · rw [decide_eq_false hR] at r
        have hk0 : k = 0 := H0.out.resolve_right hR
        have H : Hid (dropped ks n = drop (ks.take k) n) := by show _ = _; rw [dropped, if_neg hR, hk0]; rfl
        clear hkx hx hR hk0
        go_wp2_with (go_at_call 12; refine r.mono ?_; rintro e w1 ⟨rfl, hb1⟩)
        have hown1 := hown.kept (gb_below none hb1) (by cases hv : (Value.slice A' m c').ownBlock <;> simp)
        go_ret
        obtain ⟨o1, o2⟩ := own_mks hown1 HM.out.symm
        exact ⟨A', c', by rw [H.out, ← HM.out]; rfl, by rw [H.out]; exact o1, by rw [H.out, ← HM.out]; exact o2, hW.trans (hb1.mono hW.size)⟩
    · have f0 : decide ((k : Int) < (ks.length : Int)) = false := decide_eq_false (by omega)
      have H : Hid (dropped ks n = drop (ks.take k) n) := by
        show _ = _
        rw [List.take_of_length_le (by omega)]
        rcases H0.out with h | h
        · have : ks = [] := List.eq_nil_of_length_eq_zero (by omega)
          subst this
          unfold dropped drop
          split <;> rfl
        · rw [dropped, if_pos h]
      clear hx
      go_wp2
      go_ret
      obtain ⟨o1, o2⟩ := own_mks hown HM.out.symm
      exact ⟨A', c', by rw [H.out, ← HM.out]; rfl, by rw [H.out]; exact o1, by rw [H.out, ← HM.out]; exact o2, hW⟩
end Go.Proofs.Ytcpnaanknheekaa
