/-
  A tree with a node more: the document's.
-/
import Derived.Test.YtffihchkmcddeaaTreeHeld
import Derived.Test.YtffihchkmcddeaaTreeRefUndo
import Derived.Deep.RegionHeld3
import Derived.Deep.AppendLies
namespace Go.Proofs.Ytffihchkmcddeaa
open Go.RowKit
open Tre
set_option maxHeartbeats 4000000 in
set_option maxRecDepth 100000 in
theorem ref11_Add {A : Option Addr} {c : Nat} {l : List Nd} {cur at_ before after : Int} {old new : ByteArray} {w : World} (hx : Nds w A l) (hm : l.length ≤ 2000) :
    Calls Try.prog 11 #[.agg #[.slice A l.length c, .int .i64 cur], .agg #[.int .i64 at_, .string old, .string new], .int .i64 before, .int .i64 after] w fun e w' => TreeErr (addTo l cur ⟨cur, -1, before, after, at_, old, new⟩) w e w' := by
  have R := Lib.hid (fun u (h : Nds u A l) => ref11_Right (c := c) (cur := cur) h)
  have h3 := al (al (al (Below.refl w.heap.size w) (.cells #[.slice A l.length c, .int .i64 cur] 24)) (.cells #[.int .i64 at_, .string old, .string new] 26)) (.cells #[.slice none 0 0, .int .i64 0] 24)
  have HX := Lib.hid hx
  have hx3 := Lib.hid (hx.below h3)
  have HB := Lib.hid (fun u => blk3 w #[.slice A l.length c, .int .i64 cur] #[.int .i64 at_, .string old, .string new] #[.slice none 0 0, .int .i64 0] 24 26 24 (u := u))
  by_cases hbad : ¬ Right l cur ∨ before < 0 ∨ after < 0
  · have H : Hid (addTo l cur ⟨cur, -1, before, after, at_, old, new⟩ = ([], 0, 1)) := by show _ = _; rw [addTo, if_pos hbad]
    have rest : ∀ b : Bool, (∀ u, Nds u A l → Calls Try.prog 13 #[.agg #[.slice A l.length c, .int .i64 cur]] u fun e w' => e = .returned (.bool b) ∧ Below u.heap.size u w') → (b = false ∨ before < 0 ∨ after < 0) →
        Calls Try.prog 11 #[.agg #[.slice A l.length c, .int .i64 cur], .agg #[.int .i64 at_, .string old, .string new], .int .i64 before, .int .i64 after] w fun e w' => TreeErr (addTo l cur ⟨cur, -1, before, after, at_, old, new⟩) w e w' := fun b hr hb => by
      have RR := Lib.hid hr
      clear hbad hx hr R
      have hb' : b = false ∨ (b = true ∧ before < 0) ∨ (b = true ∧ ¬ before < 0 ∧ after < 0) := by
        cases b <;> simp at hb ⊢; omega
      rcases hb' with rfl | ⟨rfl, h5⟩ | ⟨rfl, h5, h6⟩
      all_goals
        go_enter Try.func11, Try.ntmps11
        go_wp2_with (go_at_call 13; refine (RR.out _ hx3.out).mono ?_; rintro e w1 ⟨rfl, hb1⟩; obtain ⟨z1, y0, y1, y2, y3⟩ := HB.out _ hb1; have t0 := y0.cell 0; have t1 := y0.cell 1; have q0 := y2.cell 0; have q1 := y2.cell 1; have f0 := y2.frozen 0; have f1 := y2.frozen 1)
        refine ret_two1 rfl rfl y2 rfl Try.underlying24 rfl ?_
        rw [H.out]
        exact treeErr_nil (below_two y3 (by omega))
    refine rest _ R.out ?_
    rcases hbad with h | h
    · exact .inl (decide_eq_false h)
    · exact .inr h
  · have hR : Right l cur := Classical.byContradiction fun h => hbad (.inl h)
    have hb0 : ¬ before < 0 := fun h => hbad (.inr (.inl h))
    have ha0 : ¬ after < 0 := fun h => hbad (.inr (.inr h))
    rw [decide_eq_true hR] at R
    have b1 : decide (before < 0) = false := decide_eq_false hb0
    have a1 : decide (after < 0) = false := decide_eq_false ha0
    by_cases hl : l.length = 1024
    · have H : Hid (addTo l cur ⟨cur, -1, before, after, at_, old, new⟩ = ([], 0, 8)) := by
        show _ = _
        rw [addTo, if_neg hbad, if_pos hl]
      have l1 : ((l.length : Int) == 1024) = true := by rw [beq_iff_eq]; omega
      clear hR hx hl hbad
      go_enter Try.func11, Try.ntmps11
      go_wp2_with (go_at_call 13; refine (R.out _ hx3.out).mono ?_; rintro e w1 ⟨rfl, hb1⟩; obtain ⟨z1, y0, y1, y2, y3⟩ := HB.out _ hb1; have t0 := y0.cell 0; have t1 := y0.cell 1; have q0 := y2.cell 0; have q1 := y2.cell 1; have f0 := y2.frozen 0; have f1 := y2.frozen 1)
      refine ret_two1 rfl rfl y2 rfl Try.underlying24 rfl ?_
      rw [H.out]
      exact treeErr_nil (below_two y3 (by omega))
    · have H : Hid (addTo l cur ⟨cur, -1, before, after, at_, old, new⟩ = (added l ⟨cur, -1, before, after, at_, old, new⟩, (l.length : Int), 0)) := by
        show _ = _
        rw [addTo, if_neg hbad, if_neg hl]
      have l1 : ((l.length : Int) == 1024) = false := by rw [beq_eq_false_iff_ne]; omega
      have h1 := hR.one
      have CP := Lib.hid (fun u k (h : Nds u A l) => ref11_copy (c := c) (cur := cur) (k := k) h h1 hm)
      obtain ⟨m, rfl⟩ : ∃ m : Nat, cur = m := ⟨cur.toNat, by have := hR.low; omega⟩
      have hml : m < l.length := by have := hR.high; omega
      obtain ⟨x, hxe⟩ : ∃ x : Nd, x = ⟨(m : Int), -1, before, after, at_, old, new⟩ := ⟨_, rfl⟩
      have hlen : (l ++ [x]).length = l.length + 1 := by simp
      have hnr : nrows (l ++ [x]) = nrows l ++ x.row := by rw [nrows_append]; simp [nrows]
      have HM : Hid (added l x = chosen (l ++ [x]) [l.length]) := by show _ = _; rfl
      have CW : Hid (∀ (u : World) (A B : Option Addr) (c d : Nat), Nds u A (l ++ [x]) → Ints u B [(l.length : Int)] → Calls Try.prog 39 #[.agg #[.slice A (l.length + 1) c, .int .i64 0], .slice B 1 d, .int .i64 (l.length : Int)] u fun e w' => ∃ v, e = .returned v ∧ TreeOwn (chosen (l ++ [x]) [l.length]) (l.length : Nat) u v w') := fun u A B c d h hI => by
        have := ref11_with (ns := [l.length]) (A := A) (B := B) (d := d) (c := c) (cur := 0) (k := (l.length : Nat)) h (by omega) (by have := hR.few; omega) (by simp) hI (fun n hn => by
          rw [List.mem_singleton.1 hn]
          exact ⟨by omega, m, by rw [List.getElem?_append_right (Nat.le_refl _), Nat.sub_self, hxe]; rfl, by omega⟩)
        rw [hlen] at this
        exact this
      have hlc := chosen_length (l ++ [x]) [l.length]
      rw [hlen] at hlc
      have HLC := Lib.hid hlc
      obtain ⟨i0, hi, hz0, hz1, hz2⟩ := info_parts info_node
      rw [← hxe] at H
      have HNR := Lib.hid hnr
      have hIA : Hid (∀ (u' : World), Ints (u'.alloc (.cells #[.int .i64 (l.length : Int)] 3)) (some ⟨u'.heap.size, 0, none⟩) [(l.length : Int)]) := fun u' _ => ⟨_, rfl, by simp, fun j y hj => by
        match j, hj with
        | 0, hj =>
          simp only [List.getElem?_cons_zero, Option.some.injEq] at hj
          subst hj
          exact (Blk.new u' 3 #[.int .i64 (l.length : Int)]).cell 0⟩
      have HXE := Lib.hid hxe
      clear hR hx hbad hxe hnr hlc
      go_enter Try.func11, Try.ntmps11
      go_wp2_with (first
        | (go_at_call 13; refine (R.out _ hx3.out).mono ?_; rintro e w1 ⟨rfl, hb1⟩; obtain ⟨z1, y0, y1, y2, y3⟩ := HB.out _ hb1; have hx1 := Lib.hid (HX.out.below y3); have t0 := y0.cell 0; have t1 := y0.cell 1)
        | (go_at_call 39; (with_reducible refine (CP.out _ _ hx1.out).mono ?_); rintro e w2 ⟨A2, c2, rfl, hown2, hA2, hn2, hc2, hb2⟩; have S2 := hb1.trans (hb2.mono hb1.size); obtain ⟨z2, x0, x1, x2, x3⟩ := HB.out _ S2; obtain ⟨g, c3, he, hg1, hg2, _⟩ := own_addr hown2 (by omega); injection he with ea _ ec; subst ea ec; have y4 := x0.alloc (.cells #[.slice (some ⟨g, 0, none⟩) l.length c2, .int .i64 0] 24); have y5 := x1.alloc (.cells #[.slice (some ⟨g, 0, none⟩) l.length c2, .int .i64 0] 24); have y6 := x2.alloc (.cells #[.slice (some ⟨g, 0, none⟩) l.length c2, .int .i64 0] 24); have B3 := Blk.new w2 24 #[.slice (some ⟨g, 0, none⟩) l.length c2, .int .i64 0]; have s1 := y4.cell 1; have s2 := y5.cell 0; have s3 := y5.cell 1; have s4 := y5.cell 2)
        | (at_builtin; refine wpList_append_own _ rfl _ _ 22 rfl w1.heap.size 51 i0 _ 7 72 Try.underlying22 hi hz0 hz1 hz2 rfl (by decide) _ _ _ rfl ((hown2.alloc _).alloc _) ⟨w2.heap.size + 1, 0, none⟩ 1 1 x.row rfl rfl ?c1 x.row_one ?c3 ?c4 ?c5 ?_))
      case c1 =>
        intro j u hj
        have hb := Blk.new (w2.alloc (.cells #[.slice (some ⟨g, 0, none⟩) l.length c2, .int .i64 0] 24)) 51 #[.int .i64 (m : Int), .int .i64 (-1), .int .i64 before, .int .i64 after, .int .i64 at_, .string old, .string new]
        rw [World.size_alloc] at hb
        rw [add_plain, Nat.zero_add, hb.cell]
        rw [HXE.out] at hj
        simpa [Nd.row] using hj
      case c3 => unfold maxLen; omega
      case c4 => omega
      case c5 => simp only [World.size_alloc]; have := hb2.size; omega
      intro v' w4 hown4 hgrow4 _
      obtain ⟨g4, cap, rfl, hl4, hg4, _⟩ := own_addr hown4 (by omega)
      have hb4 := (below_gb (gb_below none S2))
      have g_ne : g ≠ w2.heap.size := Nat.ne_of_lt hg1
      have hgr : (Value.slice (some ⟨g, 0, none⟩) l.length c2).ownBlock = some g := rfl
      rw [hgr] at hgrow4
      have k4 := (y4.alloc (.cells #[.int .i64 (m : Int), .int .i64 (-1), .int .i64 before, .int .i64 after, .int .i64 at_, .string old, .string new] 51)).grown hgrow4 (fun e => by have := Option.some.inj e; omega)
      have k6 := (y6.alloc (.cells #[.int .i64 (m : Int), .int .i64 (-1), .int .i64 before, .int .i64 after, .int .i64 at_, .string old, .string new] 51)).grown hgrow4 (fun e => by have := Option.some.inj e; omega)
      have k3 := (B3.alloc (.cells #[.int .i64 (m : Int), .int .i64 (-1), .int .i64 before, .int .i64 after, .int .i64 at_, .string old, .string new] 51)).grown hgrow4 (fun e => by have := Option.some.inj e; omega)
      have n4 : g4 ≠ w2.heap.size := by
        intro e
        obtain ⟨o1, _⟩ := own_nds (l := l ++ [x]) (by rw [HNR.out]; exact hown4) hlen
        obtain ⟨b', off', e2, _, hc⟩ := o1 (by omega)
        injection e2 with e2
        injection e2 with e3 e4 _
        subst e3 e4
        have c6 := (hc 0 _ (List.getElem?_eq_getElem (by omega))).2.2.2.2.2.2
        rw [e, k3.cell, Array.getElem?_eq_none (by show 2 ≤ _; omega)] at c6
        cases c6
      have W4 : Below w.heap.size w w4 := (al (al x3 (.cells #[.slice (some ⟨g, 0, none⟩) l.length c2, .int .i64 0] 24)) (.cells #[.int .i64 (m : Int), .int .i64 (-1), .int .i64 before, .int .i64 after, .int .i64 at_, .string old, .string new] 51)).grown hgrow4 (al (al x3 (.cells #[.slice (some ⟨g, 0, none⟩) l.length c2, .int .i64 0] 24)) (.cells #[.int .i64 (m : Int), .int .i64 (-1), .int .i64 before, .int .i64 after, .int .i64 at_, .string old, .string new] 51)).size (fun j e => by have := Option.some.inj e; omega)
      have d0 := k3.cell 0
      have d1 := k3.frozen 0
      have k3' := k3.set_ 0 (.slice (some ⟨g4, 0, none⟩) (l.length + 1) cap)
      have k4' := k4.far (p := ⟨w2.heap.size, 0, none⟩) (by show w.heap.size ≠ w2.heap.size; omega) (.slice (some ⟨g4, 0, none⟩) (l.length + 1) cap)
      have k6' := k6.far (p := ⟨w2.heap.size, 0, none⟩) (by show w.heap.size + 1 + 1 ≠ w2.heap.size; omega) (.slice (some ⟨g4, 0, none⟩) (l.length + 1) cap)
      have own5 := hown4.kept (gb_set w4 w2.heap.size 0 (.slice (some ⟨g4, 0, none⟩) (l.length + 1) cap)) (.inr (by simp [Value.ownBlock]; exact n4))
      have W5 := W4.setCell (p := ⟨w2.heap.size, 0, none⟩) (show w.heap.size ≤ w2.heap.size by omega) (.slice (some ⟨g4, 0, none⟩) (l.length + 1) cap)
      clear k3 k4 k6 y4 y5 y6 B3 s1 s2 s3 s4 x0 x1 x2 x3 W4 hown4 hgrow4 hown2 hA2 hn2 hc2 hb2 S2 y0 y1 y2 y3 t0 t1 hb4 hgr
      rw [← HNR.out] at own5
      obtain ⟨N5, hcap⟩ := own_nds own5 hlen
      have e0 := k3'.cell 0
      have e1 := k3'.cell 1
      have e2 := k4'.cell 0
      have e3 := (k4'.alloc (.cells #[.int .i64 (l.length : Int)] 3)).cell 0
      have k7 := k6'.alloc (.cells #[.int .i64 (l.length : Int)] 3)
      have W6 := al W5 (.cells #[.int .i64 (l.length : Int)] 3)
      have N6 := Lib.hid (N5.below (al (Below.refl _ _) (.cells #[.int .i64 (l.length : Int)] 3)))
      have I6 := Lib.hid (hIA.out (w4.setCell ⟨w2.heap.size, 0, none⟩ (.slice (some ⟨g4, 0, none⟩) (l.length + 1) cap)))
      rw [show (w4.setCell ⟨w2.heap.size, 0, none⟩ (.slice (some ⟨g4, 0, none⟩) (l.length + 1) cap)).heap.size = w4.heap.size by simp [World.setCell]] at I6
      simp only [List.getElem?_toArray, List.getElem?_cons_zero, List.getElem?_cons_succ, List.setIfInBounds_toArray, List.set_cons_zero] at e0 e1 e2 e3 d0
      clear N5 k3' k4' k6' own5 W5
      go_wp2_with (go_at_call 39; (with_reducible refine (CW.out _ _ _ _ _ N6.out I6.out).mono ?_); rintro e w7 ⟨v, rfl, A7, c7, rfl, own7, hb7⟩; have x7 := k7.below hb7 k7.lt; have q0 := x7.cell 0; have q1 := x7.cell 1; have f0 := x7.frozen 0; have f1 := x7.frozen 1)
      refine ret_two1 rfl rfl x7 rfl Try.underlying24 rfl ?_
      rw [← HXE.out, H.out, HM.out]
      exact ⟨_, rfl, A7, c7, rfl, nds_two (own_nds own7 rfl).1 (fun ad e => by subst e; have := (own7.lt ad.block rfl).1; have := k7.lt; omega), (own_nds own7 rfl).2, below_two (W6.trans (hb7.mono W6.size)) (by omega)⟩
end Go.Proofs.Ytffihchkmcddeaa
