/-
  A tree with a node more: the program's.
-/
import Derived.Test.YtffihchkmcddeaaTreeHeld
import Derived.Deep.RegionHeld3
import Derived.Deep.AppendLies
namespace Go.Proofs.Ytffihchkmcddeaa
open Go.RowKit
open Tre
theorem nd_one (x : Nd) : ∀ v ∈ x.vals.toList, v.oneCell' = true := x.row_one
set_option maxHeartbeats 4000000 in
set_option maxRecDepth 100000 in
theorem tree_Add {A : Option Addr} {c : Nat} {l : List Nd} {cur at_ before after : Int} {old new : ByteArray} {w : World} (hx : Nds w A l) (hc : l.length ≤ c) (hm : l.length ≤ 2000) (hs : ∀ x ∈ l, x.old.size ≤ 140737488355327 ∧ x.new.size ≤ 140737488355327) (ho : old.size ≤ 140737488355327) (hn : new.size ≤ 140737488355327) :
    Calls Try.prog 10 #[.agg #[.slice A l.length c, .int .i64 cur], .agg #[.int .i64 at_, .string old, .string new], .int .i64 before, .int .i64 after] w fun e w' => TreeErr (addTo l cur ⟨cur, -1, before, after, at_, old, new⟩) w e w' := by
  have R := Lib.hid (fun u (h : Nds u A l) => tree_Right (cur := cur) h hc hm)
  have h3 := al (al (al (Below.refl w.heap.size w) (.cells #[.slice A l.length c, .int .i64 cur] 24)) (.cells #[.int .i64 at_, .string old, .string new] 26)) (.cells #[.slice none 0 0, .int .i64 0] 24)
  have HX := Lib.hid hx
  have hx3 := Lib.hid (hx.below h3)
  have HB := Lib.hid (fun u => blk3 w #[.slice A l.length c, .int .i64 cur] #[.int .i64 at_, .string old, .string new] #[.slice none 0 0, .int .i64 0] 24 26 24 (u := u))
  by_cases hbad : ¬ Right l cur ∨ before < 0 ∨ after < 0
  · have H : Hid (addTo l cur ⟨cur, -1, before, after, at_, old, new⟩ = ([], 0, 1)) := by show _ = _; rw [addTo, if_pos hbad]
    have rest : ∀ b : Bool, (∀ u, Nds u A l → Calls Try.prog 12 #[.agg #[.slice A l.length c, .int .i64 cur]] u fun e w' => e = .returned (.bool b) ∧ Below u.heap.size u w') → (b = false ∨ before < 0 ∨ after < 0) →
        Calls Try.prog 10 #[.agg #[.slice A l.length c, .int .i64 cur], .agg #[.int .i64 at_, .string old, .string new], .int .i64 before, .int .i64 after] w fun e w' => TreeErr (addTo l cur ⟨cur, -1, before, after, at_, old, new⟩) w e w' := fun b hr hb => by
      have RR := Lib.hid hr
      clear hbad hx hs hr R
      have hb' : b = false ∨ (b = true ∧ before < 0) ∨ (b = true ∧ ¬ before < 0 ∧ after < 0) := by
        cases b <;> simp at hb ⊢; omega
      rcases hb' with rfl | ⟨rfl, h5⟩ | ⟨rfl, h5, h6⟩
      all_goals
        go_enter Try.func10, Try.ntmps10
        go_wp2_with (go_at_call 12; refine (RR.out _ hx3.out).mono ?_; rintro e w1 ⟨rfl, hb1⟩; obtain ⟨z1, y0, y1, y2, y3⟩ := HB.out _ hb1; have t0 := y0.cell 0; have t1 := y0.cell 1; have q0 := y2.cell 0; have q1 := y2.cell 1; have f0 := y2.frozen 0; have f1 := y2.frozen 1)
        refine ret_two1 rfl rfl y2 rfl Try.underlying24 rfl ?_
        rw [H.out]
        exact treeErr_nil (below_two y3 (by omega))
    refine rest _ R.out ?_
    rcases hbad with h | h
    · exact .inl (decide_eq_false h)
    · exact .inr h
  · have hR : Right l cur := Classical.byContradiction fun h => hbad (.inl h)
    have hb0 : ¬ before < 0 := fun h => hbad (.inr (.inl h))
    have ha0 : ¬ after < 0 := fun h => hbad (.inr (.inr h))
    rw [decide_eq_true hR] at R
    have b1 : decide (before < 0) = false := decide_eq_false hb0
    have a1 : decide (after < 0) = false := decide_eq_false ha0
    by_cases hl : l.length = 1024
    · have H : Hid (addTo l cur ⟨cur, -1, before, after, at_, old, new⟩ = ([], 0, 8)) := by
        show _ = _
        rw [addTo, if_neg hbad, if_pos hl]
      have l1 : ((l.length : Int) == 1024) = true := by rw [beq_iff_eq]; omega
      clear hR hx hs hl hbad
      go_enter Try.func10, Try.ntmps10
      go_wp2_with (go_at_call 12; refine (R.out _ hx3.out).mono ?_; rintro e w1 ⟨rfl, hb1⟩; obtain ⟨z1, y0, y1, y2, y3⟩ := HB.out _ hb1; have t0 := y0.cell 0; have t1 := y0.cell 1; have q0 := y2.cell 0; have q1 := y2.cell 1; have f0 := y2.frozen 0; have f1 := y2.frozen 1)
      refine ret_two1 rfl rfl y2 rfl Try.underlying24 rfl ?_
      rw [H.out]
      exact treeErr_nil (below_two y3 (by omega))
    · have H : Hid (addTo l cur ⟨cur, -1, before, after, at_, old, new⟩ = (added l ⟨cur, -1, before, after, at_, old, new⟩, (l.length : Int), 0)) := by
        show _ = _
        rw [addTo, if_neg hbad, if_neg hl]
      have l1 : ((l.length : Int) == 1024) = false := by rw [beq_eq_false_iff_ne]; omega
      have h1 := hR.one
      have CP := Lib.hid (fun u (h : Nds u A l) => held_copy (c := c) (cur := cur) h h1 hm hs)
      have CN := Lib.hid (fun u => copied_Node ⟨cur, -1, before, after, at_, old, new⟩ u ho hn)
      have HN := Lib.hid (fun (w1 w2 : World) (g c2 : Nat) (hb1 : Below (((w.alloc (.cells #[.slice A l.length c, .int .i64 cur] 24)).alloc (.cells #[.int .i64 at_, .string old, .string new] 26)).alloc (.cells #[.slice none 0 0, .int .i64 0] 24)).heap.size (((w.alloc (.cells #[.slice A l.length c, .int .i64 cur] 24)).alloc (.cells #[.int .i64 at_, .string old, .string new] 26)).alloc (.cells #[.slice none 0 0, .int .i64 0] 24)) w1)
        (hown : w2.ownsRow w1.heap.size 51 7 (.slice (some ⟨g, 0, none⟩) l.length c2) l.length (nrows l)) (hg1 : w1.heap.size ≤ g) (hg2 : g < w2.heap.size) (hb2 : Below w1.heap.size w1 w2) =>
        heldAt_new (cur := cur) (Nat.le_trans (Nat.le_add_right _ 3) (HB.out _ hb1).1) hown hg1 hg2 (HB.out _ (hb1.trans (hb2.mono hb1.size))).2.2.2.1 (Nat.le_add_right _ 2) (Nat.lt_of_lt_of_le (by omega) (HB.out _ hb1).1) (HB.out _ (hb1.trans (hb2.mono hb1.size))).2.2.2.2)
      unfold Nd.vals at CN
      obtain ⟨m, rfl⟩ : ∃ m : Nat, cur = m := ⟨cur.toNat, by have := hR.low; omega⟩
      have hml : m < l.length := by have := hR.high; omega
      have HM : Hid (added l ⟨(m : Int), -1, before, after, at_, old, new⟩ = setNext (l ++ [⟨(m : Int), -1, before, after, at_, old, new⟩]) m (l.length : Nat)) := by
        show _ = _
        rw [added, Tre.choose, abv_of (x := ⟨(m : Int), -1, before, after, at_, old, new⟩) (by rw [List.getElem?_append_right (Nat.le_refl _), Nat.sub_self]; rfl) rfl]
      clear hR hx hs hbad
      go_enter Try.func10, Try.ntmps10
      go_wp2_with (first
        | (go_at_call 12; refine (R.out _ hx3.out).mono ?_; rintro e w1 ⟨rfl, hb1⟩; obtain ⟨z1, y0, y1, y2, y3⟩ := HB.out _ hb1; have hx1 := Lib.hid (HX.out.below y3); have t0 := y0.cell 0; have t1 := y0.cell 1)
        | (go_at_call 36; refine (CP.out _ hx1.out).mono ?_; rintro e w2 ⟨g, c2, rfl, hown2, hg1, hg2, hn2, hc2, hb2⟩; have HD := HN.out _ _ _ _ hb1 hown2 hg1 hg2 hb2; obtain ⟨_, _, x1, _, _⟩ := HB.out _ (hb1.trans (hb2.mono hb1.size)); have x2 := x1.alloc (.cells #[.slice (some ⟨g, 0, none⟩) l.length c2, .int .i64 (m : Int)] 64)))
      have hne : w.heap.size + 1 ≠ g := by omega
      have hne2 : w.heap.size + 1 ≠ w2.heap.size := by have := x1.lt; omega
      clear hb1 hb2 hown2 hg1 hg2 hn2 hc2 y0 y1 y2 y3 t0 t1 x1 z1 hx1 hx3 h3 HN
      generalize w2.alloc (.cells #[.slice (some ⟨g, 0, none⟩) l.length c2, .int .i64 (m : Int)] 64) = W at *
      generalize w2.heap.size = hb at *
      have P1 : Hid (∀ u, Below W.heap.size W u → u.cell? ⟨hb, 0, none⟩ = some (.slice (some ⟨g, 0, none⟩) l.length c2) ∧ u.cell? ⟨hb, 1, none⟩ = some (.int .i64 (m : Int)) ∧ u.cell? ⟨w.heap.size + 1, 0, none⟩ = some (.int .i64 at_) ∧ u.cell? ⟨w.heap.size + 1, 1, none⟩ = some (.string old) ∧ u.cell? ⟨w.heap.size + 1, 2, none⟩ = some (.string new) ∧ HeldAt w u hb (w.heap.size + 1 + 1) g c2 l m ∧ Below W.heap.size W u) := fun u hu => by
        have k := HD.step hu
        have x3 := x2.below hu x2.lt
        exact ⟨k.held.cell 0, k.held.cell 1, x3.cell 0, x3.cell 1, x3.cell 2, k, hu⟩
      obtain ⟨i0, hi, hz0, hz1, hz2⟩ := info_parts info_node
      obtain ⟨s0, s1, s2, s3, s4, _, _⟩ := P1.out _ (Below.refl _ _)
      go_region_law
        (first
          | (go_simp; go_at_call 37; (with_reducible refine (CN.out _).mono ?_); rintro e w3 ⟨rfl, hb3⟩; obtain ⟨r0, r1, r2, r3, r4, HD3, hb4⟩ := P1.out _ ((Below.refl _ _).drew.trans hb3); have HD4 := HD3.step (al (Below.refl _ w3) (.cells #[.int .i64 (m : Int), .int .i64 (-1), .int .i64 before, .int .i64 after, .int .i64 at_, .string old, .string new] 51)); have r5 := HD4.held.cell 0; have x4 := x2.below (hb4.alloc hb4.size (.cells #[.int .i64 (m : Int), .int .i64 (-1), .int .i64 before, .int .i64 after, .int .i64 at_, .string old, .string new] 51)) x2.lt)
          | (refine step_append_lies _ (by rfl) _ _ _ (by rfl) w.heap.size 51 i0 _ 7 72 Try.underlying22 hi hz0 hz1 hz2 rfl (by omega) (.slice (some ⟨g, 0, none⟩) l.length c2) l.length _ (by rfl) HD4.own
              ⟨w3.heap.size, 0, none⟩ 1 1 (Nd.row ⟨(m : Int), -1, before, after, at_, old, new⟩) (by rfl) (by rfl) (World.news_of_block (cs := #[.int .i64 (m : Int), .int .i64 (-1), .int .i64 before, .int .i64 after, .int .i64 at_, .string old, .string new]) (t := 51) (fr := (0, 0)) (heap_alloc_new w3 _)) (Nd.row_one _)
              (by omega) (by unfold maxLen; omega) (by omega) HD4.below.size (w3.heap.size + 1) (by simp) ?_; intro g4 cap w4 hown4 hgrow4 hat hlt4; have u0 := (HD4.held.grown hgrow4 (fun e => HD4.ne1 (Option.some.inj e).symm)); have u1 := (x4.grown hgrow4 (fun e => hne (Option.some.inj e))); have v0 := u0.cell 0; have v1 := u0.cell 1; have v2 := u1.cell 0; have v3 := u1.cell 1; have v4 := u1.cell 2; have f0 := u0.frozen 0))
      all_goals
        have HD5 := HD4.more (x := ⟨(m : Int), -1, before, after, at_, old, new⟩) hgrow4 hown4 (by
          rcases hat with e | e
          · exact .inl (Option.some.inj e).symm
          · right; rw [e]; simp)
        clear hgrow4 hown4 hat hlt4 u0 u1 v0 v1 v2 v3 v4 f0 x4 HD3 HD4 hb3 hb4 r0 r1 r2 r3 r4 r5 s0 s1 s2 s3 s4
        generalize w4.setCell ⟨hb, 0, none⟩ (.slice (some ⟨g4, 0, none⟩) (l.length + 1) cap) = W5 at HD5 ⊢
        have hlen : (l ++ [(⟨(m : Int), -1, before, after, at_, old, new⟩ : Nd)]).length = l.length + 1 := by simp
        have r0 := HD5.held.cell 0
        have r1 := HD5.held.frozen 1
        have r2 := HD5.held.cell 1
        have HD6 := HD5.goto (l.length : Nat)
        have p0 := HD6.held.cell 0
        have p1 := HD6.held.cell 1
        have o6 := Lib.hid HD6.own
        rw [hlen] at r0 p0 o6
        simp only [List.getElem?_toArray, List.getElem?_cons_zero, List.getElem?_cons_succ] at r0 r2 p0 p1
        have CH := Lib.hid (held_choose (cur := (l.length : Nat)) (k := l.length) (u := m) o6.out hlen (by rw [List.getElem?_append_right (Nat.le_refl _), Nat.sub_self]; rfl) rfl (by omega))
        clear o6
        go_wp2_with (go_at_call 38; refine CH.out.mono ?_; rintro e w7 ⟨rfl, own7, gb7⟩; rw [← hlen] at own7; replace HD6 := HD6.write gb7 (setNext_length _ _ _) own7; have l0 := HD6.held.cell 0; have l2 := HD6.held.cell 1; have q0 := HD6.res.cell 0; have q1 := HD6.res.cell 1; have f0 := HD6.res.frozen 0; have f1 := HD6.res.frozen 1)
        refine ret_two1 rfl rfl HD6.res rfl Try.underlying24 rfl ?_
        rw [H.out, HM.out]
        exact ⟨_, rfl, HD6.is⟩
end Go.Proofs.Ytffihchkmcddeaa
