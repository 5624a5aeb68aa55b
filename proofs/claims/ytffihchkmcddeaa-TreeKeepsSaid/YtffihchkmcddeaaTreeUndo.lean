/-
  Undo and Redo of a tree: the program's.
-/
import Derived.Test.YtffihchkmcddeaaTreePlain
import Derived.Test.YtffihchkmcddeaaTreeRight
namespace Go.Proofs.Ytffihchkmcddeaa
open Go.RowKit
open Tre
set_option maxHeartbeats 4000000 in
set_option maxRecDepth 100000 in
theorem tree_Undo {A : Option Addr} {c : Nat} {l : List Nd} {cur : Int} {w : World} (hx : Nds w A l) (hc : l.length ≤ c) (hm : l.length ≤ 2000) (hs : ∀ x ∈ l, x.old.size ≤ 140737488355327 ∧ x.new.size ≤ 140737488355327) :
    Calls Try.prog 18 #[.agg #[.slice A l.length c, .int .i64 cur]] w fun e w' => TreeNum (undo l cur) w e w' := by
  have h2 := al (al (Below.refl w.heap.size w) (.cells #[.slice A l.length c, .int .i64 cur] 24)) (.cells #[.slice none 0 0, .int .i64 0] 24)
  have hx2 := Lib.hid (hx.below h2)
  have R := Lib.hid (fun u (h : Nds u A l) => tree_Right (cur := cur) h hc hm)
  have HB := Lib.hid (fun u => blk2 w #[.slice A l.length c, .int .i64 cur] #[.slice none 0 0, .int .i64 0] 24 24 (u := u))
  by_cases hR : Right l cur
  · rw [decide_eq_true hR] at R
    have h1 := hR.one
    obtain ⟨m, rfl⟩ : ∃ m : Nat, cur = m := ⟨cur.toNat, by have := hR.low; omega⟩
    have hml : m < l.length := by have := hR.high; omega
    obtain ⟨x, hx0⟩ : ∃ x, l[m]? = some x := ⟨_, List.getElem?_eq_getElem hml⟩
    have CP := Lib.hid (fun u (h : Nds u A l) => held_copy (c := c) (cur := (m : Int)) h h1 hm hs)
    have HX := Lib.hid hx
    clear hx hs
    by_cases h0 : m = 0
    · have H : Hid (undo l (m : Int) = (l, 0, 0, false)) := by show _ = _; rw [undo, if_pos hR, if_pos (by omega)]
      subst h0
      clear hR hx0
      go_enter Try.func18, Try.ntmps18
      go_wp2_with (first
        | (go_at_call 12; refine (R.out _ hx2.out).mono ?_; rintro e w1 ⟨rfl, hb1⟩; obtain ⟨z1, y0, y1, y2⟩ := HB.out _ hb1; have t0 := y0.cell 0; have t1 := y0.cell 1; have hx3 := Lib.hid (HX.out.below y2))
        | (go_at_call 36; refine (CP.out _ hx3.out).mono ?_; rintro e w2 ⟨g, c2, rfl, hown2, hg1, hg2, hn2, hc2, hb2⟩; have S2 := hb1.trans (hb2.mono hb1.size); obtain ⟨z2, _, x1, x2⟩ := HB.out _ S2; have x3 := x1.alloc (.cells #[.slice (some ⟨g, 0, none⟩) l.length c2, .int .i64 0] 64); have q0 := x3.cell 0; have q1 := x3.cell 1; have f0 := x3.frozen 0; have f1 := x3.frozen 1))
      refine ret_two2 rfl rfl x3 rfl Try.underlying24 rfl ?_
      rw [H.out]
      exact ⟨_, rfl, _, _, rfl, nds_two (hn2.below (al (Below.refl _ _) _)) (by rintro ad ⟨rfl⟩; show g ≠ _; have := hb1.size; simp only [World.size_alloc] at this; omega), hc2, below_two (al x2 _) (Nat.le_succ _)⟩
    · obtain ⟨u, hu, hum⟩ := hR.ups.up hx0 (by omega)
      have H : Hid (undo l (m : Int) = (l, (u : Int), (m : Int), true)) := by show _ = _; rw [undo, if_pos hR, if_neg (by omega), Int.toNat_natCast, abv_of hx0 hu]
      have hm0 : ((m : Int) == 0) = false := by rw [beq_eq_false_iff_ne]; omega
      have HX0 := Lib.hid hx0
      have HU := Lib.hid hu
      clear hR hx0 hu
      go_enter Try.func18, Try.ntmps18
      go_wp2_with (first
        | (go_at_call 12; refine (R.out _ hx2.out).mono ?_; rintro e w1 ⟨rfl, hb1⟩; obtain ⟨z1, y0, y1, y2⟩ := HB.out _ hb1; have t0 := y0.cell 0; have t1 := y0.cell 1; have hx3 := Lib.hid (HX.out.below y2))
        | (go_at_call 36; refine (CP.out _ hx3.out).mono ?_; rintro e w2 ⟨g, c2, rfl, hown2, hg1, hg2, hn2, hc2, hb2⟩; have S2 := hb1.trans (hb2.mono hb1.size); obtain ⟨z2, _, x1, x2⟩ := HB.out _ S2; have x3 := x1.alloc (.cells #[.slice (some ⟨g, 0, none⟩) l.length c2, .int .i64 (m : Int)] 64); have x4 := x1.alloc (.cells #[.slice (some ⟨g, 0, none⟩) l.length c2, .int .i64 (u : Int)] 64); have q0 := x4.cell 0; have q1 := x4.cell 1; have f0 := x4.frozen 0; have f1 := x4.frozen 1; have n3 := hn2.below (al (Below.refl _ _) (.cells #[.slice (some ⟨g, 0, none⟩) l.length c2, .int .i64 (m : Int)] 64)); have n4 := hn2.below (al (Below.refl _ _) (.cells #[.slice (some ⟨g, 0, none⟩) l.length c2, .int .i64 (u : Int)] 64)); obtain ⟨b4, o4, e4, _, CC⟩ := n3 h1; injection e4 with e4; injection e4 with e4 e5 _; subst e4 e5; have d0 := (CC m x HX0.out).1; rw [Nat.zero_add, HU.out] at d0; clear CC))
      refine ret_two2 rfl rfl x4 rfl Try.underlying24 rfl ?_
      rw [H.out]
      exact ⟨_, rfl, _, _, rfl, nds_two n4 (by rintro ad ⟨rfl⟩; show g ≠ _; have := hb1.size; simp only [World.size_alloc] at this; omega), hc2, below_two (al x2 _) (Nat.le_succ _)⟩
  · have H : Hid (undo l cur = ([], 0, 0, false)) := by show _ = _; rw [undo, if_neg hR]
    rw [decide_eq_false hR] at R
    clear hR hx hs
    go_enter Try.func18, Try.ntmps18
    go_wp2_with (go_at_call 12; refine (R.out _ hx2.out).mono ?_; rintro e w1 ⟨rfl, hb1⟩; obtain ⟨z1, y0, y1, y2⟩ := HB.out _ hb1; have t0 := y0.cell 0; have t1 := y0.cell 1; have q0 := y1.cell 0; have q1 := y1.cell 1; have f0 := y1.frozen 0; have f1 := y1.frozen 1)
    refine ret_two2 rfl rfl y1 rfl Try.underlying24 rfl ?_
    rw [H.out]
    exact treeNum_nil (below_two y2 (Nat.le_succ _))
set_option maxHeartbeats 4000000 in
set_option maxRecDepth 100000 in
theorem tree_Redo {A : Option Addr} {c : Nat} {l : List Nd} {cur : Int} {w : World} (hx : Nds w A l) (hc : l.length ≤ c) (hm : l.length ≤ 2000) (hs : ∀ x ∈ l, x.old.size ≤ 140737488355327 ∧ x.new.size ≤ 140737488355327) :
    Calls Try.prog 20 #[.agg #[.slice A l.length c, .int .i64 cur]] w fun e w' => TreeNum (redo l cur) w e w' := by
  have h2 := al (al (Below.refl w.heap.size w) (.cells #[.slice A l.length c, .int .i64 cur] 24)) (.cells #[.slice none 0 0, .int .i64 0] 24)
  have hx2 := Lib.hid (hx.below h2)
  have R := Lib.hid (fun u (h : Nds u A l) => tree_Right (cur := cur) h hc hm)
  have HB := Lib.hid (fun u => blk2 w #[.slice A l.length c, .int .i64 cur] #[.slice none 0 0, .int .i64 0] 24 24 (u := u))
  by_cases hR : Right l cur
  · rw [decide_eq_true hR] at R
    have h1 := hR.one
    obtain ⟨m, rfl⟩ : ∃ m : Nat, cur = m := ⟨cur.toNat, by have := hR.low; omega⟩
    have hml : m < l.length := by have := hR.high; omega
    obtain ⟨x, hx0⟩ : ∃ x, l[m]? = some x := ⟨_, List.getElem?_eq_getElem hml⟩
    have CP := Lib.hid (fun u (h : Nds u A l) => held_copy (c := c) (cur := (m : Int)) h h1 hm hs)
    have HX := Lib.hid hx
    clear hx hs
    by_cases h0 : x.next = -1
    · have H : Hid (redo l (m : Int) = (l, (m : Int), 0, false)) := by show _ = _; rw [redo, if_pos hR, Int.toNat_natCast, nxt_of hx0, if_pos h0]
      have HX0 := Lib.hid hx0
      have HU := Lib.hid h0
      clear hR hx0 h0
      go_enter Try.func20, Try.ntmps20
      go_wp2_with (first
        | (go_at_call 12; refine (R.out _ hx2.out).mono ?_; rintro e w1 ⟨rfl, hb1⟩; obtain ⟨z1, y0, y1, y2⟩ := HB.out _ hb1; have t0 := y0.cell 0; have t1 := y0.cell 1; have hx3 := Lib.hid (HX.out.below y2))
        | (go_at_call 36; refine (CP.out _ hx3.out).mono ?_; rintro e w2 ⟨g, c2, rfl, hown2, hg1, hg2, hn2, hc2, hb2⟩; have S2 := hb1.trans (hb2.mono hb1.size); obtain ⟨z2, _, x1, x2⟩ := HB.out _ S2; have x4 := x1.alloc (.cells #[.slice (some ⟨g, 0, none⟩) l.length c2, .int .i64 (m : Int)] 64); have q0 := x4.cell 0; have q1 := x4.cell 1; have f0 := x4.frozen 0; have f1 := x4.frozen 1; have n3 := hn2.below (al (Below.refl _ _) (.cells #[.slice (some ⟨g, 0, none⟩) l.length c2, .int .i64 (m : Int)] 64)); have n4 := hn2.below (al (Below.refl _ _) (.cells #[.slice (some ⟨g, 0, none⟩) l.length c2, .int .i64 (m : Int)] 64)); obtain ⟨b4, o4, e4, _, CC⟩ := n3 h1; injection e4 with e4; injection e4 with e4 e5 _; subst e4 e5; have d0 := (CC m x HX0.out).2.1; rw [Nat.zero_add, HU.out] at d0; clear CC))
      refine ret_two2 rfl rfl x4 rfl Try.underlying24 rfl ?_
      rw [H.out]
      exact ⟨_, rfl, _, _, rfl, nds_two n4 (by rintro ad ⟨rfl⟩; show g ≠ _; have := hb1.size; simp only [World.size_alloc] at this; omega), hc2, below_two (al x2 _) (Nat.le_succ _)⟩
    · have H : Hid (redo l (m : Int) = (l, x.next, x.next, true)) := by show _ = _; rw [redo, if_pos hR, Int.toNat_natCast, nxt_of hx0, if_neg h0]
      have hn0 : (x.next == -1) = false := by rw [beq_eq_false_iff_ne]; exact h0
      have HX0 := Lib.hid hx0
      clear hR hx0 h0
      go_enter Try.func20, Try.ntmps20
      go_wp2_with (first
        | (go_at_call 12; refine (R.out _ hx2.out).mono ?_; rintro e w1 ⟨rfl, hb1⟩; obtain ⟨z1, y0, y1, y2⟩ := HB.out _ hb1; have t0 := y0.cell 0; have t1 := y0.cell 1; have hx3 := Lib.hid (HX.out.below y2))
        | (go_at_call 36; refine (CP.out _ hx3.out).mono ?_; rintro e w2 ⟨g, c2, rfl, hown2, hg1, hg2, hn2, hc2, hb2⟩; have S2 := hb1.trans (hb2.mono hb1.size); obtain ⟨z2, _, x1, x2⟩ := HB.out _ S2; have x4 := x1.alloc (.cells #[.slice (some ⟨g, 0, none⟩) l.length c2, .int .i64 x.next] 64); have q0 := x4.cell 0; have q1 := x4.cell 1; have f0 := x4.frozen 0; have f1 := x4.frozen 1; have n3 := hn2.below (al (Below.refl _ _) (.cells #[.slice (some ⟨g, 0, none⟩) l.length c2, .int .i64 (m : Int)] 64)); have n4 := hn2.below (al (Below.refl _ _) (.cells #[.slice (some ⟨g, 0, none⟩) l.length c2, .int .i64 x.next] 64)); obtain ⟨b4, o4, e4, _, CC⟩ := n3 h1; injection e4 with e4; injection e4 with e4 e5 _; subst e4 e5; have d0 := (CC m x HX0.out).2.1; rw [Nat.zero_add] at d0; clear CC))
      refine ret_two2 rfl rfl x4 rfl Try.underlying24 rfl ?_
      rw [H.out]
      exact ⟨_, rfl, _, _, rfl, nds_two n4 (by rintro ad ⟨rfl⟩; show g ≠ _; have := hb1.size; simp only [World.size_alloc] at this; omega), hc2, below_two (al x2 _) (Nat.le_succ _)⟩
  · have H : Hid (redo l cur = ([], 0, 0, false)) := by show _ = _; rw [redo, if_neg hR]
    rw [decide_eq_false hR] at R
    clear hR hx hs
    go_enter Try.func20, Try.ntmps20
    go_wp2_with (go_at_call 12; refine (R.out _ hx2.out).mono ?_; rintro e w1 ⟨rfl, hb1⟩; obtain ⟨z1, y0, y1, y2⟩ := HB.out _ hb1; have t0 := y0.cell 0; have t1 := y0.cell 1; have q0 := y1.cell 0; have q1 := y1.cell 1; have f0 := y1.frozen 0; have f1 := y1.frozen 1)
    refine ret_two2 rfl rfl y1 rfl Try.underlying24 rfl ?_
    rw [H.out]
    exact treeNum_nil (below_two y2 (Nat.le_succ _))
end Go.Proofs.Ytffihchkmcddeaa
