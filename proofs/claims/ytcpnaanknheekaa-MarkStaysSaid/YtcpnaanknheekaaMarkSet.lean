/-
  The marks with one more, and without one, as package mark tells them.
-/
import Derived.Test.YtcpnaanknheekaaMarkGet
import Derived.Test.YtcpnaanknheekaaMarkConcat
namespace Go.Proofs.Ytcpnaanknheekaa
open Go.RowKit
open Mrk
namespace Mrk
/-- What Set answers: marks, and an error. -/
def setted (ks : List Mk) (n a : Int) : List Mk × Int := if Right ks ∧ (0 ≤ a ∧ a ≤ 1099511627776) then (if 97 ≤ n ∧ n ≤ 122 then (Mrk.set ks n a, 0) else ([], 11)) else ([], 1)
theorem set_len {ks : List Mk} (h : Right ks) (n a : Int) : (Mrk.set ks n a).length ≤ 60 := by
  have h1 := h.length_le
  have h2 : (Mrk.ahead ks n).length ≤ ks.length := List.length_filter_le _ _
  have h3 : (behind ks n).length ≤ ks.length := List.length_filter_le _ _
  unfold Mrk.set
  rw [List.length_append, List.length_cons]
  omega
end Mrk
/-- An answer of marks and an error. -/
def SetIs (r : List Mk × Int) (w : World) (e : Ending) (w' : World) : Prop := ∃ (A : Option Addr) (c : Nat), e = .returned (.tuple #[.slice A r.1.length c, .int .i64 r.2]) ∧ Mks w' A r.1 ∧ r.1.length ≤ c ∧ Below w.heap.size w w'
theorem parts_two (w : World) {B1 B2 : Option Addr} {c1 c2 : Nat} {l1 l2 : List Mk} (h1 : Mks w B1 l1) (h2 : Mks w B2 l2) :
    MkParts (w.alloc (.cells #[.slice B1 l1.length c1, .slice B2 l2.length c2] 22)) w.heap.size [l1, l2] := by
  have hb := Blk.new w 22 #[.slice B1 l1.length c1, .slice B2 l2.length c2]
  have hw : Below w.heap.size w (w.alloc (.cells #[.slice B1 l1.length c1, .slice B2 l2.length c2] 22)) := (Below.refl _ w).alloc (Nat.le_refl _) _
  refine ⟨hb.lt, fun j l hj => ?_⟩
  match j, hj with
  | 0, hj =>
    simp only [List.getElem?_cons_zero, Option.some.injEq] at hj
    subst hj
    exact ⟨B1, c1, hb.cell 0, h1.below hw⟩
  | 1, hj =>
    simp only [List.getElem?_cons_succ, List.getElem?_cons_zero, Option.some.injEq] at hj
    subst hj
    exact ⟨B2, c2, hb.cell 1, h2.below hw⟩
theorem parts_three (w : World) (k : Mk) {B1 B2 : Option Addr} {c1 c2 : Nat} {l1 l2 : List Mk} (h1 : Mks w B1 l1) (h2 : Mks w B2 l2) :
    MkParts ((w.alloc (.cells k.vals 44)).alloc (.cells #[.slice B1 l1.length c1, .slice (some ⟨w.heap.size, 0, none⟩) 1 1, .slice B2 l2.length c2] 22)) (w.heap.size + 1) [l1, [k], l2] := by
  have hb := Blk.new (w.alloc (.cells k.vals 44)) 22 #[.slice B1 l1.length c1, .slice (some ⟨w.heap.size, 0, none⟩) 1 1, .slice B2 l2.length c2]
  rw [World.size_alloc] at hb
  have hw1 : Below w.heap.size w (w.alloc (.cells k.vals 44)) := (Below.refl _ w).alloc (Nat.le_refl _) _
  have hw2 : Below (w.alloc (.cells k.vals 44)).heap.size (w.alloc (.cells k.vals 44)) ((w.alloc (.cells k.vals 44)).alloc (.cells #[.slice B1 l1.length c1, .slice (some ⟨w.heap.size, 0, none⟩) 1 1, .slice B2 l2.length c2] 22)) := (Below.refl _ _).alloc (Nat.le_refl _) _
  have hw := hw1.trans (hw2.mono hw1.size)
  refine ⟨hb.lt, fun j l hj => ?_⟩
  match j, hj with
  | 0, hj =>
    simp only [List.getElem?_cons_zero, Option.some.injEq] at hj
    subst hj
    exact ⟨B1, c1, hb.cell 0, h1.below hw⟩
  | 1, hj =>
    simp only [List.getElem?_cons_succ, List.getElem?_cons_zero, Option.some.injEq] at hj
    subst hj
    exact ⟨_, 1, hb.cell 1, (mks_one w k 44).below hw2⟩
  | 2, hj =>
    simp only [List.getElem?_cons_succ, List.getElem?_cons_zero, Option.some.injEq] at hj
    subst hj
    exact ⟨B2, c2, hb.cell 2, h2.below hw⟩
theorem MksIs.from_ {l : List Mk} {w u : World} {e : Ending} {w' : World} (h : MksIs l u e w') (hu : Below w.heap.size w u) : MksIs l w e w' := by
  obtain ⟨A, c, h1, h2, h3, h4⟩ := h
  exact ⟨A, c, h1, h2, h3, hu.trans (h4.mono hu.size)⟩
set_option maxHeartbeats 1000000 in
set_option maxRecDepth 100000 in
theorem mark_Drop (n : Int) {A : Option Addr} {c : Nat} {ks : List Mk} {w : World} (hx : Mks w A ks) (hm : ks.length ≤ maxLen) (hc : ks.length ≤ c) :
    Calls Try.prog 16 #[.slice A ks.length c, .int .i64 n] w (MksIs (dropped ks n) w) := by
  have R := Lib.hid (mark_Right (c := c) hx hm)
  by_cases hR : Right ks
  · rw [decide_eq_true hR] at R
    have F : Hid (∀ u, Below w.heap.size w u → Calls Try.prog 23 #[.slice A ks.length c, .int .i64 n] u (AroundIs ks n u)) := fun u hu => mark_around n (hx.below hu) hR hc
    have hlen := set_len hR n 0
    have C : Hid (∀ (u : World) (B1 B2 : Option Addr) (c1 c2 : Nat), Below w.heap.size w u → Mks u B1 (Mrk.ahead ks n) → Mks u B2 (behind ks n) →
        Calls Try.prog 24 #[.slice (some ⟨u.heap.size, 0, none⟩) 2 2] (u.alloc (.cells #[.slice B1 (Mrk.ahead ks n).length c1, .slice B2 (behind ks n).length c2] 22)) (MksIs (dropped ks n) w)) := fun u B1 B2 c1 c2 hu h1 h2 => by
      have hw : Below u.heap.size u (u.alloc (.cells #[.slice B1 (Mrk.ahead ks n).length c1, .slice B2 (behind ks n).length c2] 22)) := (Below.refl _ u).alloc (Nat.le_refl _) _
      have e : [Mrk.ahead ks n, behind ks n].flatten = dropped ks n := by rw [dropped, if_pos hR, drop_eq hR.2]; simp
      refine (sl_concat (c := 2) (parts_two u h1 h2) (by rw [mtot, e, dropped, if_pos hR, drop_eq hR.2, List.length_append]; unfold Mrk.set at hlen; rw [List.length_append, List.length_cons] at hlen; omega) (by simp)).mono ?_
      rw [e]
      exact fun e' w' h => h.from_ (hu.trans (hw.mono hu.size))
    clear hx hR hm hlen
    go_enter Try.func16, Try.ntmps16
    go_wp2_with (first
      | (go_at_call 11; refine R.out.mono ?_; rintro e w1 ⟨rfl, hb1⟩)
      | (go_at_call 23; refine (F.out _ hb1).mono ?_; rintro e w2 ⟨B1, c1, B2, c2, rfl, hm1, hm2, hb2⟩)
      | (go_at_call 24; (with_reducible refine (C.out _ _ _ _ _ (hb1.trans (hb2.mono hb1.size)) hm1 hm2).mono ?_); rintro e w3 ⟨A3, c3, rfl, hm3, hl3, hb3⟩))
    go_ret
    exact ⟨A3, c3, rfl, hm3, hl3, hb3⟩
  · rw [decide_eq_false hR] at R
    have H : Hid (dropped ks n = []) := by show _ = _; rw [dropped, if_neg hR]
    clear hx hR hm
    go_enter Try.func16, Try.ntmps16
    go_wp2_with (go_at_call 11; refine R.out.mono ?_; rintro e w1 ⟨rfl, hb1⟩)
    go_ret
    exact ⟨none, 0, by rw [H.out]; rfl, by rw [H.out]; exact Mks.nil _ _, by rw [H.out]; exact Nat.le_refl _, hb1⟩
set_option maxHeartbeats 1000000 in
set_option maxRecDepth 100000 in
theorem mark_Set (n a : Int) {A : Option Addr} {c : Nat} {ks : List Mk} {w : World} (hx : Mks w A ks) (hm : ks.length ≤ maxLen) (hc : ks.length ≤ c) :
    Calls Try.prog 7 #[.slice A ks.length c, .int .i64 n, .int .i64 a] w (SetIs (setted ks n a) w) := by
  have R := Lib.hid (mark_Right (c := c) hx hm)
  have I := Lib.hid (mark_within a)
  have N := Lib.hid (mark_Name n)
  by_cases hR : Right ks
  · rw [decide_eq_true hR] at R
    by_cases ha : 0 ≤ a ∧ a ≤ 1099511627776
    · rw [decide_eq_true ha] at I
      by_cases hn : 97 ≤ n ∧ n ≤ 122
      · rw [decide_eq_true hn] at N
        have H : Hid (setted ks n a = (Mrk.set ks n a, 0)) := by show _ = _; rw [setted, if_pos ⟨hR, ha⟩, if_pos hn]
        have F : Hid (∀ u, Below w.heap.size w u → Calls Try.prog 23 #[.slice A ks.length c, .int .i64 n] u (AroundIs ks n u)) := fun u hu => mark_around n (hx.below hu) hR hc
        have hlen := set_len hR n a
        have C : Hid (∀ (u : World) (B1 B2 : Option Addr) (c1 c2 : Nat), Below w.heap.size w u → Mks u B1 (Mrk.ahead ks n) → Mks u B2 (behind ks n) →
            Calls Try.prog 24 #[.slice (some ⟨u.heap.size + 1, 0, none⟩) 3 3] ((u.alloc (.cells #[.int .i64 n, .int .i64 a] 44)).alloc (.cells #[.slice B1 (Mrk.ahead ks n).length c1, .slice (some ⟨u.heap.size, 0, none⟩) 1 1, .slice B2 (behind ks n).length c2] 22)) (MksIs (Mrk.set ks n a) w)) := fun u B1 B2 c1 c2 hu h1 h2 => by
          have hw1 : Below u.heap.size u (u.alloc (.cells #[.int .i64 n, .int .i64 a] 44)) := (Below.refl _ u).alloc (Nat.le_refl _) _
          have hw : Below u.heap.size u ((u.alloc (.cells #[.int .i64 n, .int .i64 a] 44)).alloc (.cells #[.slice B1 (Mrk.ahead ks n).length c1, .slice (some ⟨u.heap.size, 0, none⟩) 1 1, .slice B2 (behind ks n).length c2] 22)) := hw1.alloc hw1.size _
          have e : [Mrk.ahead ks n, [⟨n, a⟩], behind ks n].flatten = Mrk.set ks n a := by simp [Mrk.set]
          refine (sl_concat (c := 3) (parts_three u ⟨n, a⟩ h1 h2) (by rw [mtot, e]; omega) (by simp)).mono ?_
          rw [e]
          exact fun e' w' h => h.from_ (hu.trans (hw.mono hu.size))
        clear hx hR hm hlen ha hn
        go_enter Try.func7, Try.ntmps7
        go_wp2_with (first
          | (go_at_call 11; refine R.out.mono ?_; rintro e w1 ⟨rfl, hb1⟩)
          | (go_at_call 22; refine (I.out _).mono ?_; rintro e w9 ⟨rfl, rfl⟩)
          | (go_at_call 13; refine (N.out _).mono ?_; rintro e w9 ⟨rfl, rfl⟩)
          | (go_at_call 23; refine (F.out _ hb1).mono ?_; rintro e w2 ⟨B1, c1, B2, c2, rfl, hm1, hm2, hb2⟩)
          | (go_at_call 24; (with_reducible refine (C.out _ _ _ _ _ (hb1.trans (hb2.mono hb1.size)) hm1 hm2).mono ?_); rintro e w3 ⟨A3, c3, rfl, hm3, hl3, hb3⟩))
        go_ret2
        exact ⟨A3, c3, by rw [H.out]; rfl, by rw [H.out]; exact hm3, by rw [H.out]; exact hl3, hb3⟩
      · rw [decide_eq_false hn] at N
        have H : Hid (setted ks n a = ([], 11)) := by show _ = _; rw [setted, if_pos ⟨hR, ha⟩, if_neg hn]
        clear hx hR hm ha hn
        go_enter Try.func7, Try.ntmps7
        go_wp2_with (first
          | (go_at_call 11; refine R.out.mono ?_; rintro e w1 ⟨rfl, hb1⟩)
          | (go_at_call 22; refine (I.out _).mono ?_; rintro e w9 ⟨rfl, rfl⟩)
          | (go_at_call 13; refine (N.out _).mono ?_; rintro e w9 ⟨rfl, rfl⟩))
        go_ret2
        exact ⟨none, 0, by rw [H.out]; rfl, by rw [H.out]; exact Mks.nil _ _, by rw [H.out]; exact Nat.le_refl _, hb1⟩
    · rw [decide_eq_false ha] at I
      have H : Hid (setted ks n a = ([], 1)) := by show _ = _; rw [setted, if_neg (fun h => ha h.2)]
      clear hx hR hm ha
      go_enter Try.func7, Try.ntmps7
      go_wp2_with (first
        | (go_at_call 11; refine R.out.mono ?_; rintro e w1 ⟨rfl, hb1⟩)
        | (go_at_call 22; refine (I.out _).mono ?_; rintro e w9 ⟨rfl, rfl⟩))
      go_ret2
      exact ⟨none, 0, by rw [H.out]; rfl, by rw [H.out]; exact Mks.nil _ _, by rw [H.out]; exact Nat.le_refl _, hb1⟩
  · rw [decide_eq_false hR] at R
    have H : Hid (setted ks n a = ([], 1)) := by show _ = _; rw [setted, if_neg (fun h => hR h.1)]
    clear hx hR hm
    go_enter Try.func7, Try.ntmps7
    go_wp2_with (go_at_call 11; refine R.out.mono ?_; rintro e w1 ⟨rfl, hb1⟩)
    go_ret2
    exact ⟨none, 0, by rw [H.out]; rfl, by rw [H.out]; exact Mks.nil _ _, by rw [H.out]; exact Nat.le_refl _, hb1⟩
end Go.Proofs.Ytcpnaanknheekaa
