/-
  The law TreeSteps: where one comes back and forth in any tree, and by any choice, is as the document tells it.
-/
import Derived.Test.YtffihchkmcddeaaTreeLives
import Derived.Test.YtffihchkmcddeaaTreeRefUndo
import Derived.Test.YtffihchkmcddeaaTreeOpen
import Derived.Deep.RegionHeld3
namespace Go.Proofs.Ytffihchkmcddeaa
open Go.RowKit
open Tre
/-- Nodes do not lie in a block of two cells. -/
theorem nds_store {w : World} {A : Option Addr} {l : List Nd} {g : Nat} {t : TypeId} {c0 c1 v0 v1 : Value} (h : Nds w A l) (hB : Blk w g t #[c0, c1]) : Nds ((w.setCell ⟨g, 0, none⟩ v0).setCell ⟨g, 1, none⟩ v1) A l := by
  rcases Nat.eq_zero_or_pos l.length with h0 | h0
  · exact fun h1 => absurd h1 (by omega)
  · refine nds_two h (fun ad e h1 => ?_)
    obtain ⟨b, off, e2, _, hc⟩ := h h0
    have c6 := (hc 0 _ (List.getElem?_eq_getElem h0)).2.2.2.2.2.2
    rw [e] at e2
    injection e2 with e2
    subst e2
    simp only at h1
    subst h1
    rw [hB.cell] at c6
    rw [Array.getElem?_eq_none (by show 2 ≤ _; omega)] at c6
    cases c6
theorem undo_len (l : List Nd) (cur : Int) : (undo l cur).1.length ≤ l.length := by unfold undo; split <;> (try split) <;> simp
theorem redo_len (l : List Nd) (cur : Int) : (redo l cur).1.length ≤ l.length := by unfold redo; split <;> (try split) <;> simp
theorem chose_len (l : List Nd) (cur k : Int) : (chose l cur k).1.length ≤ l.length := by unfold chose; split <;> (try split) <;> simp [choose_length]
theorem kids_len (l : List Nd) (cur k : Int) : (ints (kids l cur k)).length ≤ l.length := by
  rw [ints_length]; unfold kids; split
  · exact kidsIn_len _ _ _
  · simp
theorem same11_ok {A B : Option Addr} {c d : Nat} {l : List Nd} {p : Int} {w : World} (hx : Nds w A l) (hy : Nds w B l) (hl : l.length ≤ 2000) :
    Calls Try.prog 14 #[.agg #[.slice A l.length c, .int .i64 p], .agg #[.slice B l.length d, .int .i64 p]] w fun e w' => e = .returned (.bool true) ∧ Below w.heap.size w w' := by
  have := ref11_Same (c := c) (d := d) (p := p) (q := p) hx hy hl
  rw [decide_eq_true (And.intro rfl rfl)] at this
  exact this
theorem same_ints {A B : Option Addr} {c d : Nat} {xs : List Int} {w : World} (hx : Ints w A xs) (hy : Ints w B xs) (hl : xs.length ≤ 2000) :
    Calls Try.prog 22 #[.slice A xs.length c, .slice B xs.length d] w fun e w' => e = .returned (.bool true) ∧ Below w.heap.size w w' :=
  (ref_same (c := c) (d := d) hx hy (by omega)).mono fun _ _ h => ⟨h.1, below_gb h.2⟩
set_option maxHeartbeats 4000000 in
set_option maxRecDepth 100000 in
theorem treeSteps_walk (k : Int) {A : Option Addr} {c : Nat} {l : List Nd} {cur : Int} {w : World} (hx : Nds w A l) (hc : l.length ≤ c) (hs : ∀ x ∈ l, x.old.size ≤ 140737488351232 ∧ x.new.size ≤ 140737488351232) :
    Calls Try.prog 4 #[.agg #[.slice A l.length c, .int .i64 cur], .int .i64 k] w fun e w' => e = .returned (.bool true) ∧ Below w.heap.size w w' := by
  have LV := Lib.hid tree_lives
  have hW : Below w.heap.size w (w.alloc (.cells #[.slice A l.length c, .int .i64 cur] 24)) := al (Below.refl _ _) _
  have B2 := Blk.new w 24 #[.slice A l.length c, .int .i64 cur]
  by_cases hl : 1100 < l.length
  · have d0 : decide ((1100 : Int) < (l.length : Int)) = true := decide_eq_true (by omega)
    clear hx hc hs hl
    go_enter Try.func4, Try.ntmps4
    go_wp2_with (go_at_call 9; (with_reducible refine (LV.out _).mono ?_); rintro e w9 ⟨rfl, hb9⟩)
    go_ret
    exact ⟨rfl, hW.trans (hb9.mono hW.size)⟩
  have hl2 : l.length ≤ 2000 := by omega
  have hs2 : ∀ x ∈ l, x.old.size ≤ 140737488355327 ∧ x.new.size ≤ 140737488355327 := fun x hx => by have := hs x hx; omega
  have U1 : Hid (∀ u, Below w.heap.size w u → Calls Try.prog 18 #[.agg #[.slice A l.length c, .int .i64 cur]] u (TreeNum (undo l cur) u)) := fun u hu => tree_Undo (hx.below hu) hc hl2 hs2
  have U2 : Hid (∀ u, Below w.heap.size w u → Calls Try.prog 19 #[.agg #[.slice A l.length c, .int .i64 cur]] u (TreeNum (undo l cur) u)) := fun u hu => ref11_Undo (hx.below hu) hl2
  have D1 : Hid (∀ u, Below w.heap.size w u → Calls Try.prog 20 #[.agg #[.slice A l.length c, .int .i64 cur]] u (TreeNum (redo l cur) u)) := fun u hu => tree_Redo (hx.below hu) hc hl2 hs2
  have D2 : Hid (∀ u, Below w.heap.size w u → Calls Try.prog 21 #[.agg #[.slice A l.length c, .int .i64 cur]] u (TreeNum (redo l cur) u)) := fun u hu => ref11_Redo (hx.below hu) hl2
  have C1 : Hid (∀ u, Below w.heap.size w u → Calls Try.prog 25 #[.agg #[.slice A l.length c, .int .i64 cur], .int .i64 k] u (TreeErr (chose l cur k) u)) := fun u hu => tree_Choose (hx.below hu) hc hl2 hs2
  have C2 : Hid (∀ u, Below w.heap.size w u → Calls Try.prog 26 #[.agg #[.slice A l.length c, .int .i64 cur], .int .i64 k] u (TreeErr (chose l cur k) u)) := fun u hu => ref11_Choose (hx.below hu) hl2
  have K1 : Hid (∀ u, Below w.heap.size w u → Calls Try.prog 23 #[.agg #[.slice A l.length c, .int .i64 cur], .int .i64 k] u (IntsIs (ints (kids l cur k)) u)) := fun u hu => tree_Kids (hx.below hu) hc hl2
  have K2 : Hid (∀ u, Below w.heap.size w u → Calls Try.prog 24 #[.agg #[.slice A l.length c, .int .i64 cur], .int .i64 k] u (IntsIs (ints (kids l cur k)) u)) := fun u hu => ref11_Kids (hx.below hu) hl2
  have ul := Nat.le_trans (undo_len l cur) hl2
  have rl := Nat.le_trans (redo_len l cur) hl2
  have cl := Nat.le_trans (chose_len l cur k) hl2
  have kl := Nat.le_trans (kids_len l cur k) hl2
  generalize undo l cur = r1 at *
  generalize redo l cur = r2 at *
  generalize chose l cur k = r3 at *
  generalize ints (kids l cur k) = ks at *
  obtain ⟨l1, p1, n1, b1⟩ := r1
  obtain ⟨l2, p2, n2, b2⟩ := r2
  obtain ⟨l3, p3, n3⟩ := r3
  have S1 := Lib.hid (fun (u : World) (A B : Option Addr) (c d : Nat) (h1 : Nds u A l1) (h2 : Nds u B l1) => same11_ok (c := c) (d := d) (p := p1) h1 h2 ul)
  have S2 := Lib.hid (fun (u : World) (A B : Option Addr) (c d : Nat) (h1 : Nds u A l2) (h2 : Nds u B l2) => same11_ok (c := c) (d := d) (p := p2) h1 h2 rl)
  have S3 := Lib.hid (fun (u : World) (A B : Option Addr) (c d : Nat) (h1 : Nds u A l3) (h2 : Nds u B l3) => same11_ok (c := c) (d := d) (p := p3) h1 h2 cl)
  have KS := Lib.hid (fun (u : World) (A B : Option Addr) (c d : Nat) (h1 : Ints u A ks) (h2 : Ints u B ks) => same_ints (c := c) (d := d) h1 h2 kl)
  have d0 : decide ((1100 : Int) < (l.length : Int)) = false := decide_eq_false (by omega)
  clear hx hc hs hs2 hl hl2 ul rl cl kl
  go_enter Try.func4, Try.ntmps4
  go_wp2_with (first
    | (go_at_call 18; (with_reducible refine (U1.out _ hW).mono ?_); rintro e w1 ⟨v, rfl, A1, c1, rfl, hm1, hc1, hb1⟩; replace B2 := B2.below hb1 B2.lt; replace hW := hW.trans (hb1.mono hW.size); replace B2 := B2.alloc (.cells #[.slice A1 l1.length c1, .int .i64 p1] 24); replace hm1 := hm1.below (al (Below.refl _ w1) (.cells #[.slice A1 l1.length c1, .int .i64 p1] 24)); have B5 := Blk.new w1 24 #[.slice A1 l1.length c1, .int .i64 p1]; replace hW := al hW (.cells #[.slice A1 l1.length c1, .int .i64 p1] 24); have e01 : w.heap.size < w1.heap.size := (by have := hb1.size; rw [World.size_alloc] at this; omega); have t0 := B2.cell 0; have t1 := B2.cell 1)
    | (go_at_call 19; (with_reducible refine (U2.out _ hW).mono ?_); rintro e w2 ⟨v, rfl, A2, c2, rfl, hm2, hc2, hb2⟩; replace B2 := B2.below hb2 B2.lt; replace B5 := B5.below hb2 B5.lt; replace hm1 := hm1.below hb2; replace hW := hW.trans (hb2.mono hW.size); replace B2 := B2.alloc (.cells #[.slice A2 l1.length c2, .int .i64 p1] 24); replace B5 := B5.alloc (.cells #[.slice A2 l1.length c2, .int .i64 p1] 24); replace hm1 := hm1.below (al (Below.refl _ w2) (.cells #[.slice A2 l1.length c2, .int .i64 p1] 24)); replace hm2 := hm2.below (al (Below.refl _ w2) (.cells #[.slice A2 l1.length c2, .int .i64 p1] 24)); have B8 := Blk.new w2 24 #[.slice A2 l1.length c2, .int .i64 p1]; replace hW := al hW (.cells #[.slice A2 l1.length c2, .int .i64 p1] 24); have e12 : w1.heap.size < w2.heap.size := (by have := hb2.size; rw [World.size_alloc] at this; omega); have a0 := B5.cell 0; have a1 := B5.cell 1)
    | (go_at_call 14; (with_reducible refine (S1.out _ _ _ _ _ hm1 hm2).mono ?_); rintro e w3 ⟨rfl, hb3⟩; replace B2 := B2.below hb3 B2.lt; replace B5 := B5.below hb3 B5.lt; replace B8 := B8.below hb3 B8.lt; replace hW := hW.trans (hb3.mono hW.size); have t0 := B2.cell 0; have t1 := B2.cell 1)
    | (go_at_call 20; (with_reducible refine (D1.out _ hW).mono ?_); rintro e w4 ⟨v, rfl, A3, c3, rfl, hm3, hc3, hb4⟩; replace B2 := B2.below hb4 B2.lt; replace B5 := B5.below hb4 B5.lt; replace B8 := B8.below hb4 B8.lt; replace hW := hW.trans (hb4.mono hW.size); have g5 : w1.heap.size ≠ w2.heap.size := Nat.ne_of_lt e12; have g2 : w.heap.size ≠ w1.heap.size := Nat.ne_of_lt e01; have g3 : w.heap.size ≠ w2.heap.size := Nat.ne_of_lt (Nat.lt_trans e01 e12); have a0 := B5.cell 0; have a1 := B5.cell 1; have af0 := B5.frozen 0; have af1 := B5.frozen 1; replace hm3 := nds_store (v0 := .slice A3 l2.length c3) (v1 := .int .i64 p2) hm3 B5; replace hW := below_two (v0 := .slice A3 l2.length c3) (v1 := .int .i64 p2) hW (Nat.le_of_lt e01); replace B2 := (B2.far (p := ⟨w1.heap.size, 0, none⟩) g2 (.slice A3 l2.length c3)).far (p := ⟨w1.heap.size, 1, none⟩) g2 (.int .i64 p2); replace B8 := (B8.far (p := ⟨w1.heap.size, 0, none⟩) g5.symm (.slice A3 l2.length c3)).far (p := ⟨w1.heap.size, 1, none⟩) g5.symm (.int .i64 p2); replace B5 := two_row (v0 := .slice A3 l2.length c3) (v1 := .int .i64 p2) B5; have t0 := B2.cell 0; have t1 := B2.cell 1)
    | (go_at_call 21; (with_reducible refine (D2.out _ hW).mono ?_); rintro e w5 ⟨v, rfl, A4, c4, rfl, hm4, hc4, hb5⟩; replace B2 := B2.below hb5 B2.lt; replace B5 := B5.below hb5 B5.lt; replace B8 := B8.below hb5 B8.lt; replace hm3 := hm3.below hb5; replace hW := hW.trans (hb5.mono hW.size); have b0 := B8.cell 0; have b1 := B8.cell 1; have bf0 := B8.frozen 0; have bf1 := B8.frozen 1; replace hm3 := nds_store (v0 := .slice A4 l2.length c4) (v1 := .int .i64 p2) hm3 B8; replace hm4 := nds_store (v0 := .slice A4 l2.length c4) (v1 := .int .i64 p2) hm4 B8; replace hW := below_two (v0 := .slice A4 l2.length c4) (v1 := .int .i64 p2) hW (Nat.le_of_lt (Nat.lt_trans e01 e12)); replace B2 := (B2.far (p := ⟨w2.heap.size, 0, none⟩) g3 (.slice A4 l2.length c4)).far (p := ⟨w2.heap.size, 1, none⟩) g3 (.int .i64 p2); replace B5 := (B5.far (p := ⟨w2.heap.size, 0, none⟩) g5 (.slice A4 l2.length c4)).far (p := ⟨w2.heap.size, 1, none⟩) g5 (.int .i64 p2); replace B8 := two_row (v0 := .slice A4 l2.length c4) (v1 := .int .i64 p2) B8; have t0 := B2.cell 0; have t1 := B2.cell 1))
  clear hb1 hb2 hb3 hb4 hb5 hm1 hm2 hc1 hc2 t0 t1 a0 a1 U1 U2 D1 D2 S1 af0 af1 bf0 bf1
  generalize (w5.setCell ⟨w2.heap.size, 0, none⟩ (.slice A4 l2.length c4)).setCell ⟨w2.heap.size, 1, none⟩ (.int .i64 p2) = W9 at *
  generalize w2.heap.size = q8 at *
  generalize w1.heap.size = q5 at *
  have P9 : Hid (∀ u, Below W9.heap.size W9 u → u.cell? ⟨w.heap.size, 0, none⟩ = some (.slice A l.length c) ∧ u.cell? ⟨w.heap.size, 1, none⟩ = some (.int .i64 cur) ∧ u.cell? ⟨q5, 0, none⟩ = some (.slice A3 l2.length c3) ∧ u.cell? ⟨q5, 1, none⟩ = some (.int .i64 p2) ∧ u.cell? ⟨q8, 0, none⟩ = some (.slice A4 l2.length c4) ∧ u.cell? ⟨q8, 1, none⟩ = some (.int .i64 p2) ∧ Blk u w.heap.size 24 #[.slice A l.length c, .int .i64 cur] ∧ Blk u q5 24 #[.slice A3 l2.length c3, .int .i64 p2] ∧ Blk u q8 24 #[.slice A4 l2.length c4, .int .i64 p2] ∧ Nds u A3 l2 ∧ Nds u A4 l2 ∧ Below w.heap.size w u) := fun u hu => by
    have x2 := B2.below hu B2.lt
    have x5 := B5.below hu B5.lt
    have x8 := B8.below hu B8.lt
    exact ⟨x2.cell 0, x2.cell 1, x5.cell 0, x5.cell 1, x8.cell 0, x8.cell 1, x2, x5, x8, hm3.below hu, hm4.below hu, hW.trans (hu.mono hW.size)⟩
  clear B2 B5 B8 hm3 hm4 hW
  obtain ⟨x0, x1, x2, x3, x4, x5, _, _, _, _, _, _⟩ := P9.out W9 (Below.refl _ _)
  have V : Below W9.heap.size W9 W9.drew := (Below.refl _ _).drew
  go_region_held3 (fun u => u.cell? ⟨w.heap.size, 0, none⟩ = some (.slice A l.length c) ∧ u.cell? ⟨w.heap.size, 1, none⟩ = some (.int .i64 cur) ∧ u.cell? ⟨q5, 0, none⟩ = some (.slice A3 l2.length c3) ∧ u.cell? ⟨q5, 1, none⟩ = some (.int .i64 p2) ∧ u.cell? ⟨q8, 0, none⟩ = some (.slice A4 l2.length c4) ∧ u.cell? ⟨q8, 1, none⟩ = some (.int .i64 p2))
    (first | exact ⟨by assumption, by assumption, by assumption, by assumption, by assumption, by assumption⟩ | go_keep)
    (first
      | (go_at_call 14; (with_reducible refine (S2.out _ _ _ _ _ (P9.out _ V).2.2.2.2.2.2.2.2.2.1 (P9.out _ V).2.2.2.2.2.2.2.2.2.2.1).mono ?_); rintro e w6 ⟨rfl, hb6⟩; replace V := V.trans (hb6.mono V.size); obtain ⟨x0, x1, x2, x3, x4, x5, _, _, _, _, _, _⟩ := P9.out _ V)
      | (go_at_call 23; (with_reducible refine (K1.out _ (P9.out _ V).2.2.2.2.2.2.2.2.2.2.2).mono ?_); rintro e w7 ⟨A5, c5, rfl, hI1, _, hb7⟩; replace V := V.trans (hb7.mono V.size); obtain ⟨x0, x1, x2, x3, x4, x5, _, _, _, _, _, _⟩ := P9.out _ V)
      | (go_at_call 24; (with_reducible refine (K2.out _ (P9.out _ V).2.2.2.2.2.2.2.2.2.2.2).mono ?_); rintro e w8 ⟨A6, c6, rfl, hI2, _, hb8⟩; replace hI1 := hI1.grown (gb_below none hb8) (by simp); replace V := V.trans (hb8.mono V.size); obtain ⟨x0, x1, x2, x3, x4, x5, _, _, _, _, _, _⟩ := P9.out _ V)
      | (go_at_call 22; (with_reducible refine (KS.out _ _ _ _ _ hI1 hI2).mono ?_); rintro e w9 ⟨rfl, hb9⟩; replace V := V.trans (hb9.mono V.size); obtain ⟨x0, x1, x2, x3, x4, x5, B2, B5, B8, _, _, hW⟩ := P9.out _ V))
  have t0 := B2.cell 0
  have t1 := B2.cell 1
  clear x0 x1 x2 x3 x4 x5 V P9 K1 K2 KS S2 hI1 hI2
  go_wp2_with (first
    | (go_at_call 25; (with_reducible refine (C1.out _ hW).mono ?_); rintro e w10 ⟨v, rfl, A7, c7, rfl, hm7, hc7, hb10⟩; replace B2 := B2.below hb10 B2.lt; replace B5 := B5.below hb10 B5.lt; replace B8 := B8.below hb10 B8.lt; replace hW := hW.trans (hb10.mono hW.size); have a0 := B5.cell 0; have a1 := B5.cell 1; have B5f0 := B5.frozen 0; have B5f1 := B5.frozen 1; replace hm7 := nds_store (v0 := .slice A7 l3.length c7) (v1 := .int .i64 p3) hm7 B5; replace hW := below_two (v0 := .slice A7 l3.length c7) (v1 := .int .i64 p3) hW (Nat.le_of_lt e01); replace B2 := (B2.far (p := ⟨q5, 0, none⟩) g2 (.slice A7 l3.length c7)).far (p := ⟨q5, 1, none⟩) g2 (.int .i64 p3); replace B8 := (B8.far (p := ⟨q5, 0, none⟩) g5.symm (.slice A7 l3.length c7)).far (p := ⟨q5, 1, none⟩) g5.symm (.int .i64 p3); replace B5 := two_row (v0 := .slice A7 l3.length c7) (v1 := .int .i64 p3) B5; have t0 := B2.cell 0; have t1 := B2.cell 1)
    | (go_at_call 26; (with_reducible refine (C2.out _ hW).mono ?_); rintro e w11 ⟨v, rfl, A8, c8, rfl, hm8, hc8, hb11⟩; replace B2 := B2.below hb11 B2.lt; replace B5 := B5.below hb11 B5.lt; replace B8 := B8.below hb11 B8.lt; replace hm7 := hm7.below hb11; replace hW := hW.trans (hb11.mono hW.size); have b0 := B8.cell 0; have b1 := B8.cell 1; have B8f0 := B8.frozen 0; have B8f1 := B8.frozen 1; replace hm7 := nds_store (v0 := .slice A8 l3.length c8) (v1 := .int .i64 p3) hm7 B8; replace hm8 := nds_store (v0 := .slice A8 l3.length c8) (v1 := .int .i64 p3) hm8 B8; replace hW := below_two (v0 := .slice A8 l3.length c8) (v1 := .int .i64 p3) hW (Nat.le_of_lt (Nat.lt_trans e01 e12)); replace B2 := (B2.far (p := ⟨q8, 0, none⟩) g3 (.slice A8 l3.length c8)).far (p := ⟨q8, 1, none⟩) g3 (.int .i64 p3); replace B5 := (B5.far (p := ⟨q8, 0, none⟩) g5 (.slice A8 l3.length c8)).far (p := ⟨q8, 1, none⟩) g5 (.int .i64 p3); replace B8 := two_row (v0 := .slice A8 l3.length c8) (v1 := .int .i64 p3) B8; have a0 := B5.cell 0; have a1 := B5.cell 1; have b0 := B8.cell 0; have b1 := B8.cell 1)
    | (go_at_call 14; (with_reducible refine (S3.out _ _ _ _ _ hm7 hm8).mono ?_); rintro e w12 ⟨rfl, hb12⟩; replace hW := hW.trans (hb12.mono hW.size))
    | (go_at_call 9; (with_reducible refine (LV.out _).mono ?_); rintro e w13 ⟨rfl, hb13⟩))
  go_ret
  exact ⟨rfl, hW.trans (hb13.mono hW.size)⟩
section
open Go.ChangeShapes Go.WideShapes Go.ChangeAt
open Go.ChangeMaps (open_string)
set_option maxRecDepth 100000 in
theorem treeSteps_lifted (os : Os) (started : os.Started) (H : Type) (enc : TypeId × Value → H) :
    ReturnsInHanded {} Try.checked os 4 .any (Rows.treeStepsSpec.pre6 enc Try.prog Try.f4 Rows.treeStepsRow.domain false) (Rows.treeStepsSpec.post enc Try.prog Try.f4 false true false false) := by
  refine returnsInHanded_of_change_sized (C := Try.checked) own_knob started (by kernel_rfl) Try.func4
    (ChangeSpec.witness6 (enc := enc) (C := Try.checked) false ⟨#[], #[.agg #[.slice none 0 0, .int .i64 0], .int .i64 0], []⟩ 8 (by kernel_rfl) (by kernel_rfl) (by kernel_rfl) (by kernel_rfl)) ?_
  intro W base args ds gs before hval0 hW _ hsz0 _
  have hsz : (DataW.weightsEach Try.prog (Try.f4.params.toList ++ Rows.treeStepsSpec.plain.varTypes Try.prog) (ds ++ gs)).all (· ≤ reachBytes) = true := hsz0
  clear hsz0
  have hval : ∀ (j : Nat) t v, Try.f4.params[j]? = some t → args[j]? = some v → Value.okWide Try.prog W .any base t v := hval0
  have hW' := hW
  obtain ⟨p, q, hA0, hV, rfl, hfz, hnd⟩ := hW
  have hA : DataW.TrodAll enc Try.prog W 0 (fun _ => true) true Try.f4.params.toList args.toList ds p := hA0
  rw [Try.params4] at hA hval hsz
  obtain ⟨v0, vs0, d0, ds0, p0, q0, hargs, rfl, rfl, h0, r0⟩ := trodAll_cons hA
  obtain ⟨v1, vs1, d1, ds1, p1, q1, rfl, rfl, rfl, h1, r1⟩ := trodAll_cons r0
  obtain ⟨rfl, rfl, rfl⟩ := trodAll_nil r1
  obtain rfl : args = #[v0, v1] := by cases args; simp_all
  obtain ⟨rfl, rfl⟩ := trodVars_none hV
  have hlt0 : ∀ x ∈ p0, x.block < W.heap.size := fun x hx => by simpa using hW'.lt x (by simp [hx])
  obtain ⟨A0, c0, xs0, cur0, rfl, hx0, hc0, hm0, wc0, hd0⟩ := open_tree (hval 0 24 v0 rfl rfl) h0 hlt0
  have he0 : ∀ k ∈ xs0, k.old.size ≤ 140737488351232 ∧ k.new.size ≤ 140737488351232 := fun k hk => by
    obtain ⟨e, sp, z, y0, y1, y2, y3, y4, rfl, hin⟩ := hd0 k hk
    rw [← data_len, ← data_len]
    exact sized_tree hsz (j := 0) rfl rfl hin
  obtain ⟨n1, rfl, rfl, rfl, wn1⟩ := open_int Try.underlying3 (hval 1 3 v1 rfl rfl) h1
  refine (treeSteps_walk n1 hx0 hc0 he0).mono fun e W' ⟨he, hb⟩ => ?_
  subst he
  exact ⟨_, rfl, law_post rfl rfl (by rw [Try.params4]; decide +kernel) ⟨rfl, rfl, rfl⟩ hW' hb⟩
theorem treeSteps_holds : Rows.TreeStepsSaid :=
  OpenClaim.holds_of_wide 4 Try.f4 rfl rfl rfl rfl rfl rfl rfl ⟨rfl, rfl, rfl, rfl, rfl⟩ rfl rfl rfl rfl rfl (by kernel_rfl) Try.func4 (by kernel_rfl)
    (of_decide_eq_true (by kernel_rfl)) (by unfold Func.isWrapper; first | (rw [if_pos (by decide +kernel)]; kernel_rfl) | (rw [if_neg (by decide +kernel)]; exact ⟨rfl, rfl⟩))
    (fun os started H enc _ => treeSteps_lifted os started H enc)
end
end Go.Proofs.Ytffihchkmcddeaa
