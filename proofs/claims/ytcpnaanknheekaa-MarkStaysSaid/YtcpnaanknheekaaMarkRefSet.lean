/-
  The marks with one more, and whether marks are the same, as the document tells it.
-/
import Derived.Test.YtcpnaanknheekaaMarkRef
import Derived.Test.YtcpnaanknheekaaMarkSet
namespace Go.Proofs.Ytcpnaanknheekaa
open Go.RowKit
open Mrk
namespace Mrk
theorem look_name {ks : List Mk} {n : Int} {x : Mk} (h : Mrk.look ks n = some x) : x.name = n := by
  have := List.find?_some h
  simpa using this
end Mrk
set_option maxHeartbeats 2000000 in
set_option maxRecDepth 100000 in
theorem ref10_Set (n a : Int) {A : Option Addr} {c : Nat} {ks : List Mk} {w : World} (hx : Mks w A ks) (hm : ks.length ≤ maxLen) :
    Calls Try.prog 8 #[.slice A ks.length c, .int .i64 n, .int .i64 a] w (SetIs (setted ks n a) w) := by
  have R := Lib.hid (ref10_Right (c := c) hx hm)
  have N := Lib.hid (ref10_Name n)
  by_cases hR : Right ks
  · rw [decide_eq_true hR] at R
    by_cases ha : 0 ≤ a ∧ a ≤ 1099511627776
    · have f0 : decide (a < 0) = false := decide_eq_false (by omega)
      have f1 : decide (1099511627776 < a) = false := decide_eq_false (by omega)
      by_cases hn : 97 ≤ n ∧ n ≤ 122
      · rw [decide_eq_true hn] at N
        have H : Hid (setted ks n a = (Mrk.set ks n a, 0)) := by show _ = _; rw [setted, if_pos ⟨hR, ha⟩, if_pos hn]
        have G : Hid (∀ u m, Below w.heap.size w u → Calls Try.prog 10 #[.slice A ks.length c, .int .i64 m] u fun e w' => e = .returned (.tuple #[.int .i64 (get ks m).1, .bool (get ks m).2]) ∧ Below u.heap.size u w') := fun u m hu => ref10_Get m (hx.below hu) hm
        obtain ⟨S, hS⟩ : ∃ S, Mrk.set ks n a = S := ⟨_, rfl⟩
        rw [hS] at H
        have hSR : Right S := hS ▸ set_right hR hn ha
        have HU : Hid (∀ m, Mrk.ahead S (m + 1) = Mrk.ahead S m ++ (Mrk.look S m).toList) := fun m => upto_succ hSR.2 m
        have HL : Hid (∀ m, (Mrk.ahead S m).length ≤ 60) := fun m => Nat.le_trans (List.length_filter_le _ _) (by have := hSR.length_le; omega)
        have H1 : Hid (Mrk.look S n = some ⟨n, a⟩) := by show _ = _; rw [← hS]; exact look_set ks n a
        have H2 : Hid (∀ m, ¬ m = n → Mrk.look S m = Mrk.look ks m) := fun m h => by rw [← hS]; exact look_set_other ks n a h
        have H3 : Hid (Mrk.ahead S 97 = []) := ahead_first hSR
        have H4 : Hid (Mrk.ahead S 123 = S) := ahead_last hSR
        have HG : Hid (∀ m, (∃ x, Mrk.look ks m = some x ∧ get ks m = (x.at_, true)) ∨ (Mrk.look ks m = none ∧ get ks m = (0, false))) := fun m => by
          cases hl : Mrk.look ks m with
          | none => exact .inr ⟨rfl, get_none hl⟩
          | some x => exact .inl ⟨x, rfl, get_some hR hl⟩
        obtain ⟨i0, hi, hz0, hz1, hz2⟩ := info_parts info_mark
        have own0 : ∀ u : World, u.ownsRow w.heap.size 44 2 (.slice none 0 0) 0 (mrows (Mrk.ahead S 97)) := fun u => by rw [H3.out]; exact World.ownsRow_nil _ _ _ _
        clear hx hR hm ha hS hSR
        go_enter Try.func8, Try.ntmps8
        go_wp2_with (first
          | (go_at_call 12; refine R.out.mono ?_; rintro e w1 ⟨rfl, hb1⟩)
          | (go_at_call 14; refine (N.out _).mono ?_; rintro e w9 ⟨rfl, rfl⟩))
        go_loopw [8, 9] (fun v iv wr => ∃ (m : Int) (q : Nat) (A' : Option Addr) (c' : Nat), iv = .int .i64 m ∧ v = .slice A' q c' ∧ 97 ≤ m ∧ m ≤ 123 ∧ q ≤ 60 ∧ Hid (q = (Mrk.ahead S m).length) ∧ wr.ownsRow w.heap.size 44 2 v q (mrows (Mrk.ahead S m)) ∧ Below w.heap.size w wr) (fun _ iv _ => (123 - intOf iv).toNat)
        case atStart => exact ⟨97, 0, none, 0, rfl, rfl, Int.le_refl _, by omega, by omega, (by show 0 = _; rw [H3.out]; rfl), own0 _, hb1⟩
        case round =>
          obtain ⟨m, q, A', c', rfl, rfl, hm1, hm2, hq, HQ, hown, hW⟩ := hrel
          clear hb1 own0
          by_cases hlt : m ≤ 122
          · have hlen := HL.out (m + 1)
            by_cases hmn : m = n
            · subst hmn
              have hu : Hid (Mrk.ahead S (m + 1) = Mrk.ahead S m ++ [⟨m, a⟩]) := by show _ = _; rw [HU.out, H1.out]; rfl
              rw [hu.out, List.length_append, ← HQ.out] at hlen
              simp only [List.length_cons, List.length_nil] at hlen
              have h2 : Below wr.heap.size wr (wr.alloc (.cells #[.int .i64 m, .int .i64 a] 44)) := (Below.refl _ wr).alloc (Nat.le_refl _) _
              have hown2 := hown.kept (gb_below none h2) (by cases hv : (Value.slice A' q c').ownBlock <;> simp)
              have b2 := Blk.new wr 44 #[.int .i64 m, .int .i64 a]
              go_wp2_with (at_builtin; refine wpList_append_own _ rfl _ _ 22 rfl w.heap.size 44 i0 _ 2 16 Try.underlying22 hi hz0 hz1 hz2 rfl (by decide) _ _ _ rfl hown2 ⟨wr.heap.size, 0, none⟩ 1 1 [.int .i64 m, .int .i64 a] rfl rfl ?c1 ?c2 ?c3 ?c4 ?c5 ?_)
              case c1 =>
                intro j u hj
                rw [add_plain, Nat.zero_add, b2.cell]
                simpa using hj
              case c2 =>
                intro u hu
                simp only [List.mem_cons, List.not_mem_nil, or_false] at hu
                rcases hu with rfl | rfl <;> rfl
              case c3 => unfold maxLen; omega
              case c4 => omega
              case c5 => exact Nat.le_trans hW.size h2.size
              intro v' w3 hown3 hgrow3 _
              obtain ⟨a3, cap3, rfl⟩ := own_shape hown3
              have hW3 : Below w.heap.size w w3 := (hW.trans (h2.mono hW.size)).grown hgrow3 (Nat.le_trans hW.size h2.size) (fun j hj => (hown2.lt j hj).1)
              go_wp2
              go_roundw
              case rel => exact ⟨m + 1, q + 1, a3, cap3, by go_num, rfl, by omega, by omega, by omega, (by show q + 1 = _; rw [hu.out, List.length_append, ← HQ.out]; rfl), by rw [hu.out, mrows_append]; exact hown3, hW3⟩
              case measure => simp [intOf]; omega
            · have hl2 := H2.out m hmn
              have g := G.out wr m hW
              rcases HG.out m with ⟨x, hx1, hx2⟩ | ⟨hx1, hx2⟩
              · have hu : Hid (Mrk.ahead S (m + 1) = Mrk.ahead S m ++ [⟨m, x.at_⟩]) := by
                  show _ = _
                  rw [HU.out, hl2, hx1, ← look_name hx1]; rfl
                rw [hu.out, List.length_append, ← HQ.out] at hlen
                simp only [List.length_cons, List.length_nil] at hlen
                rw [hx2] at g
                have gg := Lib.hid g
                clear hl2 hx1 hx2 g
                go_wp2_with (first
                  | (go_at_call 10; refine gg.out.mono ?_; rintro e w1 ⟨rfl, hb1⟩; have hW1 := hW.trans (hb1.mono hW.size); have h2 : Below w1.heap.size w1 (w1.alloc (.cells #[.int .i64 m, .int .i64 x.at_] 44)) := (Below.refl _ w1).alloc (Nat.le_refl _) _; have hown2 := (hown.kept (gb_below none hb1) (by cases hv : (Value.slice A' q c').ownBlock <;> simp)).kept (gb_below none h2) (by cases hv : (Value.slice A' q c').ownBlock <;> simp); have b2 := Blk.new w1 44 #[.int .i64 m, .int .i64 x.at_])
                  | (at_builtin; refine wpList_append_own _ rfl _ _ 22 rfl w.heap.size 44 i0 _ 2 16 Try.underlying22 hi hz0 hz1 hz2 rfl (by decide) _ _ _ rfl hown2 ⟨w1.heap.size, 0, none⟩ 1 1 [.int .i64 m, .int .i64 x.at_] rfl rfl ?e1 ?e2 ?e3 ?e4 ?e5 ?_))
                case e1 =>
                  intro j u hj
                  rw [add_plain, Nat.zero_add, b2.cell]
                  simpa using hj
                case e2 =>
                  intro u hu
                  simp only [List.mem_cons, List.not_mem_nil, or_false] at hu
                  rcases hu with rfl | rfl <;> rfl
                case e3 => unfold maxLen; omega
                case e4 => omega
                case e5 => exact Nat.le_trans hW1.size h2.size
                intro v' w3 hown3 hgrow3 _
                obtain ⟨a3, cap3, rfl⟩ := own_shape hown3
                have hW3 : Below w.heap.size w w3 := (hW1.trans (h2.mono hW1.size)).grown hgrow3 (Nat.le_trans hW1.size h2.size) (fun j hj => (hown2.lt j hj).1)
                go_wp2
                go_roundw
                case rel => exact ⟨m + 1, q + 1, a3, cap3, by go_num, rfl, by omega, by omega, by omega, (by show q + 1 = _; rw [hu.out, List.length_append, ← HQ.out]; rfl), by rw [hu.out, mrows_append]; exact hown3, hW3⟩
                case measure => simp [intOf]; omega
              · have hu : Hid (Mrk.ahead S (m + 1) = Mrk.ahead S m) := by
                  show _ = _
                  rw [HU.out, hl2, hx1]; exact List.append_nil _
                rw [hx2] at g
                have gg := Lib.hid g
                clear hl2 hx1 hx2 g hlen
                go_wp2_with (go_at_call 10; refine gg.out.mono ?_; rintro e w1 ⟨rfl, hb1⟩)
                have hown1 := hown.kept (gb_below none hb1) (by cases hv : (Value.slice A' q c').ownBlock <;> simp)
                go_roundw
                case rel => exact ⟨m + 1, q, A', c', by go_num, rfl, by omega, by omega, hq, (by show q = _; rw [hu.out]; exact HQ.out), by rw [hu.out]; exact hown1, hW.trans (hb1.mono hW.size)⟩
                case measure => simp [intOf]; omega
          · obtain rfl : m = 123 := by omega
            rw [H4.out] at HQ hown
            go_wp2
            go_ret2
            obtain ⟨o1, o2⟩ := own_mks hown HQ.out.symm
            exact ⟨A', c', by rw [H.out, ← HQ.out]; rfl, by rw [H.out]; exact o1, by rw [H.out, ← HQ.out]; exact o2, hW⟩
      · rw [decide_eq_false hn] at N
        have H : Hid (setted ks n a = ([], 11)) := by show _ = _; rw [setted, if_pos ⟨hR, ha⟩, if_neg hn]
        clear hx hR hm ha hn
        go_enter Try.func8, Try.ntmps8
        go_wp2_with (first
          | (go_at_call 12; refine R.out.mono ?_; rintro e w1 ⟨rfl, hb1⟩)
          | (go_at_call 14; refine (N.out _).mono ?_; rintro e w9 ⟨rfl, rfl⟩))
        go_ret2
        exact ⟨none, 0, by rw [H.out]; rfl, by rw [H.out]; exact Mks.nil _ _, by rw [H.out]; exact Nat.le_refl _, hb1⟩
    · have H : Hid (setted ks n a = ([], 1)) := by show _ = _; rw [setted, if_neg (fun h => ha h.2)]
      by_cases h0 : a < 0
      · have f0 : decide (a < 0) = true := decide_eq_true h0
        clear hx hR hm ha
        go_enter Try.func8, Try.ntmps8
        go_wp2_with (go_at_call 12; refine R.out.mono ?_; rintro e w1 ⟨rfl, hb1⟩)
        go_ret2
        exact ⟨none, 0, by rw [H.out]; rfl, by rw [H.out]; exact Mks.nil _ _, by rw [H.out]; exact Nat.le_refl _, hb1⟩
      · have f0 : decide (a < 0) = false := decide_eq_false h0
        have f1 : decide (1099511627776 < a) = true := decide_eq_true (by omega)
        clear hx hR hm ha
        go_enter Try.func8, Try.ntmps8
        go_wp2_with (go_at_call 12; refine R.out.mono ?_; rintro e w1 ⟨rfl, hb1⟩)
        go_ret2
        exact ⟨none, 0, by rw [H.out]; rfl, by rw [H.out]; exact Mks.nil _ _, by rw [H.out]; exact Nat.le_refl _, hb1⟩
  · rw [decide_eq_false hR] at R
    have H : Hid (setted ks n a = ([], 1)) := by show _ = _; rw [setted, if_neg (fun h => hR h.1)]
    clear hx hR hm
    go_enter Try.func8, Try.ntmps8
    go_wp2_with (go_at_call 12; refine R.out.mono ?_; rintro e w1 ⟨rfl, hb1⟩)
    go_ret2
    exact ⟨none, 0, by rw [H.out]; rfl, by rw [H.out]; exact Mks.nil _ _, by rw [H.out]; exact Nat.le_refl _, hb1⟩
set_option maxHeartbeats 2000000 in
set_option maxRecDepth 100000 in
theorem same10_ok {A B : Option Addr} {c d : Nat} {ks : List Mk} {w : World} (hx : Mks w A ks) (hy : Mks w B ks) (hm : ks.length ≤ 1000) :
    Calls Try.prog 15 #[.slice A ks.length c, .slice B ks.length d] w fun e w' => e = .returned (.bool true) ∧ Below w.heap.size w w' := by
  go_enter Try.func15, Try.ntmps15
  go_wp2_with fail
  go_loopw [5] (fun i wr => ∃ k : Nat, k ≤ ks.length ∧ i = .int .i64 k ∧ Below w.heap.size w wr) (fun i _ => ks.length - (intOf i).toNat)
  case atStart => exact ⟨0, Nat.zero_le _, rfl, Below.refl _ _⟩
  case round =>
    obtain ⟨k, hk, rfl, hW⟩ := hrel
    by_cases hlt : k < ks.length
    · obtain ⟨x, hkx⟩ : ∃ x, ks[k]? = some x := ⟨_, List.getElem?_eq_getElem hlt⟩
      obtain ⟨b, off, rfl, hbw, h0, h1⟩ := hx.at_ hW (Nat.le_refl _) hkx
      obtain ⟨b', off', rfl, hbw', h0', h1'⟩ := hy.at_ hW (Nat.le_refl _) hkx
      have hdr : ∀ q, Below w.heap.size w (wr.drewN q) := fun q => hW.trans ((below_gb (gb_drewN wr q none)).mono hW.size)
      have d1 : decide ((k : Int) < (ks.length : Int)) = true := by simp; omega
      clear hkx hx hy
      go_wp2
      go_quiet (fail)
      go_wp2
      go_roundw
      case rel => exact ⟨k + 1, by omega, by go_num, hdr _⟩
      case measure => simp [intOf]; omega
    · clear hx hy
      go_wp2
      go_ret
      exact ⟨rfl, hW⟩
end Go.Proofs.Ytcpnaanknheekaa
