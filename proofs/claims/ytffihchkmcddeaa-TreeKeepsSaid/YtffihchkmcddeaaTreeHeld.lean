/-
  A tree that is held, copied: its nodes in a row of the call's own, the block of the held one, and the block of the answer.
-/
import Derived.Test.YtffihchkmcddeaaTreePlain
import Derived.Test.YtffihchkmcddeaaTreeRight
namespace Go.Proofs.Ytffihchkmcddeaa
open Go.RowKit
open Tre
structure HeldAt (w u : World) (hb rb g c : Nat) (l : List Nd) (cur : Int) : Prop where
  own : u.ownsRow w.heap.size 51 7 (.slice (some ⟨g, 0, none⟩) l.length c) l.length (nrows l)
  held : Blk u hb 64 #[.slice (some ⟨g, 0, none⟩) l.length c, .int .i64 cur]
  res : Blk u rb 24 #[.slice none 0 0, .int .i64 0]
  low : w.heap.size ≤ g
  rlow : w.heap.size ≤ rb
  hlow : w.heap.size ≤ hb
  ne1 : g ≠ hb
  ne2 : g ≠ rb
  ne3 : hb ≠ rb
  below : Below w.heap.size w u
variable {w u u' : World} {hb rb g c : Nat} {l : List Nd} {cur : Int}
theorem HeldAt.step (h : HeldAt w u hb rb g c l cur) (k : Below u.heap.size u u') : HeldAt w u' hb rb g c l cur :=
  ⟨h.own.kept (gb_below none k) (by simp [Value.ownBlock]), h.held.below k h.held.lt, h.res.below k h.res.lt, h.low, h.rlow, h.hlow, h.ne1, h.ne2, h.ne3, h.below.trans (k.mono h.below.size)⟩
theorem HeldAt.lt (h : HeldAt w u hb rb g c l cur) : g < u.heap.size := (h.own.lt g rfl).2
theorem HeldAt.nds (h : HeldAt w u hb rb g c l cur) : Nds u (some ⟨g, 0, none⟩) l := (own_nds h.own rfl).1
theorem HeldAt.cap (h : HeldAt w u hb rb g c l cur) : l.length ≤ c := (own_nds h.own rfl).2
/-- Behind a write to the row. -/
theorem HeldAt.write {m : List Nd} (h : HeldAt w u hb rb g c l cur) (k : u.grownBy u' (some g)) (hm : m.length = l.length) (hown : u'.ownsRow w.heap.size 51 7 (.slice (some ⟨g, 0, none⟩) l.length c) l.length (nrows m)) : HeldAt w u' hb rb g c m cur :=
  ⟨by rw [hm]; exact hown, by rw [hm]; exact h.held.grown k (fun e => h.ne1 (Option.some.inj e).symm), h.res.grown k (fun e => h.ne2 (Option.some.inj e).symm), h.low, h.rlow, h.hlow, h.ne1, h.ne2, h.ne3,
    h.below.grown k h.below.size (fun j e => by have := Option.some.inj e; have := h.low; omega)⟩
/-- Behind a write to Cur. -/
theorem HeldAt.goto (h : HeldAt w u hb rb g c l cur) (k : Int) : HeldAt w (u.setCell ⟨hb, 1, none⟩ (.int .i64 k)) hb rb g c l k :=
  ⟨h.own.kept (gb_set u hb 1 _) (.inr (by simp [Value.ownBlock]; exact h.ne1)), h.held.set_ 1 (.int .i64 k), h.res.far (p := ⟨hb, 1, none⟩) (Ne.symm h.ne3) _, h.low, h.rlow, h.hlow, h.ne1, h.ne2, h.ne3, h.below.setCell (p := ⟨hb, 1, none⟩) h.hlow _⟩
/-- Behind an append to the row, the new slice stored. -/
theorem HeldAt.more {x : Nd} {g4 cap : Nat} (h : HeldAt w u hb rb g c l cur) (k : u.grownBy u' (some g)) (hown : u'.ownsRow w.heap.size 51 7 (.slice (some ⟨g4, 0, none⟩) (l.length + 1) cap) (l.length + 1) (nrows l ++ x.row)) (hat : g4 = g ∨ g4 = u.heap.size) :
    HeldAt w (u'.setCell ⟨hb, 0, none⟩ (.slice (some ⟨g4, 0, none⟩) (l.length + 1) cap)) hb rb g4 cap (l ++ [x]) cur := by
  have e1 : (l ++ [x]).length = l.length + 1 := by simp
  have e2 : nrows (l ++ [x]) = nrows l ++ x.row := by rw [nrows_append]; simp [nrows]
  have b1 := h.held.grown k (fun e => h.ne1 (Option.some.inj e).symm)
  have b2 := h.res.grown k (fun e => h.ne2 (Option.some.inj e).symm)
  have n1 : g4 ≠ hb := by rcases hat with rfl | rfl; exact h.ne1; have := h.held.lt; omega
  have n2 : g4 ≠ rb := by rcases hat with rfl | rfl; exact h.ne2; have := h.res.lt; omega
  refine ⟨?_, ?_, b2.far (p := ⟨hb, 0, none⟩) (Ne.symm h.ne3) _, (hown.lt g4 rfl).1, h.rlow, h.hlow, n1, n2, h.ne3, ?_⟩
  · rw [e1, e2]
    exact hown.kept (gb_set u' hb 0 _) (.inr (by simp [Value.ownBlock]; exact n1))
  · rw [e1]
    exact b1.set_ 0 (.slice (some ⟨g4, 0, none⟩) (l.length + 1) cap)
  · exact (h.below.grown k h.below.size (fun j e => by have := Option.some.inj e; have := h.low; omega)).setCell (p := ⟨hb, 0, none⟩) h.hlow _
/-- The answer, when it has been stored. -/
theorem HeldAt.is (h : HeldAt w u hb rb g c l cur) {v0 v1 : Value} : TreeIs l cur w (.agg #[.slice (some ⟨g, 0, none⟩) l.length c, .int .i64 cur]) ((u.setCell ⟨rb, 0, none⟩ v0).setCell ⟨rb, 1, none⟩ v1) :=
  ⟨_, _, rfl, nds_two h.nds (by rintro ad ⟨rfl⟩; exact h.ne2), h.cap, below_two h.below h.rlow⟩
theorem heldAt_new {w w2 : World} {B g c rb : Nat} {l : List Nd} {cur : Int} (hB : w.heap.size ≤ B) (hown : w2.ownsRow B 51 7 (.slice (some ⟨g, 0, none⟩) l.length c) l.length (nrows l)) (hg : B ≤ g) (hlt : g < w2.heap.size)
    (hr : Blk w2 rb 24 #[.slice none 0 0, .int .i64 0]) (h1 : w.heap.size ≤ rb) (h2 : rb < B) (hw : Below w.heap.size w w2) :
    HeldAt w (w2.alloc (.cells #[.slice (some ⟨g, 0, none⟩) l.length c, .int .i64 cur] 64)) w2.heap.size rb g c l cur :=
  ⟨own_down (hown.kept (gb_below none (al (Below.refl _ w2) _)) (by simp [Value.ownBlock])) hB, Blk.new _ _ _, hr.alloc _, by omega, h1, hw.size, by omega, by omega, by have := hr.lt; omega, al hw _⟩
set_option maxHeartbeats 4000000 in
set_option maxRecDepth 100000 in
theorem tree_Choose {A : Option Addr} {c : Nat} {l : List Nd} {cur k : Int} {w : World} (hx : Nds w A l) (hc : l.length ≤ c) (hm : l.length ≤ 2000) (hs : ∀ x ∈ l, x.old.size ≤ 140737488355327 ∧ x.new.size ≤ 140737488355327) :
    Calls Try.prog 25 #[.agg #[.slice A l.length c, .int .i64 cur], .int .i64 k] w fun e w' => TreeErr (chose l cur k) w e w' := by
  have h2 := al (al (Below.refl w.heap.size w) (.cells #[.slice A l.length c, .int .i64 cur] 24)) (.cells #[.slice none 0 0, .int .i64 0] 24)
  have hx2 := Lib.hid (hx.below h2)
  have R := Lib.hid (fun u (h : Nds u A l) => tree_Right (cur := cur) h hc hm)
  have HB := Lib.hid (fun u => blk2 w #[.slice A l.length c, .int .i64 cur] #[.slice none 0 0, .int .i64 0] 24 24 (u := u))
  have HN := Lib.hid (fun (w1 w2 : World) (g c2 : Nat) (hb1 : Below ((w.alloc (.cells #[.slice A l.length c, .int .i64 cur] 24)).alloc (.cells #[.slice none 0 0, .int .i64 0] 24)).heap.size ((w.alloc (.cells #[.slice A l.length c, .int .i64 cur] 24)).alloc (.cells #[.slice none 0 0, .int .i64 0] 24)) w1)
    (hown : w2.ownsRow w1.heap.size 51 7 (.slice (some ⟨g, 0, none⟩) l.length c2) l.length (nrows l)) (hg1 : w1.heap.size ≤ g) (hg2 : g < w2.heap.size) (hb2 : Below w1.heap.size w1 w2) =>
    heldAt_new (cur := cur) (Nat.le_trans (Nat.le_add_right _ 2) (HB.out _ hb1).1) hown hg1 hg2 (HB.out _ (hb1.trans (hb2.mono hb1.size))).2.2.1 (Nat.le_succ _) (Nat.lt_of_lt_of_le (by omega) (HB.out _ hb1).1) (HB.out _ (hb1.trans (hb2.mono hb1.size))).2.2.2)
  by_cases hR : Right l cur
  · rw [decide_eq_true hR] at R
    have h1 := hR.one
    have CP := Lib.hid (fun u (h : Nds u A l) => held_copy (c := c) (cur := cur) h h1 hm hs)
    have HX := Lib.hid hx
    have HAS := Lib.hid (fun g c2 u => held_has (some ⟨g, 0, none⟩) l.length c2 cur k u)
    clear hx hs
    by_cases hk : 0 ≤ k ∧ k < l.length
    · rw [decide_eq_true hk] at HAS
      by_cases hk0 : k = 0
      · have H : Hid (chose l cur k = ([], 0, 7)) := by show _ = _; rw [chose, if_neg (fun h => h hR), if_pos (.inr hk0)]
        clear hR hk
        subst hk0
        go_enter Try.func25, Try.ntmps25
        go_wp2_with (first
          | (go_at_call 12; refine (R.out _ hx2.out).mono ?_; rintro e w1 ⟨rfl, hb1⟩; obtain ⟨z1, y0, y1, y2⟩ := HB.out _ hb1; have t0 := y0.cell 0; have t1 := y0.cell 1; have hx3 := Lib.hid (HX.out.below y2))
          | (go_at_call 36; refine (CP.out _ hx3.out).mono ?_; rintro e w2 ⟨g, c2, rfl, hown2, hg1, hg2, hn2, hc2, hb2⟩; have HD := HN.out _ _ _ _ hb1 hown2 hg1 hg2 hb2)
          | (go_at_call 40; refine (HAS.out _ _ _).mono ?_; rintro e w3 ⟨rfl, hb3⟩; replace HD := HD.step hb3; have q0 := HD.res.cell 0; have q1 := HD.res.cell 1; have f0 := HD.res.frozen 0; have f1 := HD.res.frozen 1))
        refine ret_two1 rfl rfl HD.res rfl Try.underlying24 rfl ?_
        rw [H.out]
        exact treeErr_nil (below_two HD.below HD.rlow)
      · obtain ⟨m, rfl⟩ : ∃ m : Nat, k = m := ⟨k.toNat, by omega⟩
        have hml : m < l.length := by omega
        obtain ⟨x, hx0⟩ : ∃ x, l[m]? = some x := ⟨_, List.getElem?_eq_getElem hml⟩
        obtain ⟨v, hv, hvm⟩ := hR.ups.up hx0 (by omega)
        have H : Hid (chose l cur (m : Int) = (Tre.choose l m, cur, 0)) := by show _ = _; rw [chose, if_neg (fun h => h hR), if_neg (by omega), Int.toNat_natCast]
        have CH := Lib.hid (fun (u : World) g c2 (h : u.ownsRow w.heap.size 51 7 (.slice (some ⟨g, 0, none⟩) l.length c2) l.length (nrows l)) => held_choose (cur := cur) h rfl hx0 hv (by omega))
        have HL : Hid (Tre.choose l m = setNext l v m) := by show _ = _; rw [Tre.choose, abv_of hx0 hv]
        have hm0 : ((m : Int) == 0) = false := by rw [beq_eq_false_iff_ne]; omega
        clear hR hk hx0 hv
        go_enter Try.func25, Try.ntmps25
        go_wp2_with (first
          | (go_at_call 12; refine (R.out _ hx2.out).mono ?_; rintro e w1 ⟨rfl, hb1⟩; obtain ⟨z1, y0, y1, y2⟩ := HB.out _ hb1; have t0 := y0.cell 0; have t1 := y0.cell 1; have hx3 := Lib.hid (HX.out.below y2))
          | (go_at_call 36; refine (CP.out _ hx3.out).mono ?_; rintro e w2 ⟨g, c2, rfl, hown2, hg1, hg2, hn2, hc2, hb2⟩; have HD := HN.out _ _ _ _ hb1 hown2 hg1 hg2 hb2)
          | (go_at_call 40; refine (HAS.out _ _ _).mono ?_; rintro e w3 ⟨rfl, hb3⟩; replace HD := HD.step hb3; have p0 := HD.held.cell 0; have p1 := HD.held.cell 1)
          | (go_at_call 38; refine (CH.out _ _ _ HD.own).mono ?_; rintro e w4 ⟨rfl, own4, gb4⟩; replace HD := HD.write gb4 (setNext_length _ _ _) own4; have r0 := HD.held.cell 0; have r1 := HD.held.cell 1; have q0 := HD.res.cell 0; have q1 := HD.res.cell 1; have f0 := HD.res.frozen 0; have f1 := HD.res.frozen 1))
        refine ret_two1 rfl rfl HD.res rfl Try.underlying24 rfl ?_
        rw [H.out, HL.out]
        exact ⟨_, rfl, HD.is⟩
    · rw [decide_eq_false hk] at HAS
      have H : Hid (chose l cur k = ([], 0, 7)) := by show _ = _; rw [chose, if_neg (fun h => h hR), if_pos (.inl hk)]
      clear hR hk
      go_enter Try.func25, Try.ntmps25
      go_wp2_with (first
        | (go_at_call 12; refine (R.out _ hx2.out).mono ?_; rintro e w1 ⟨rfl, hb1⟩; obtain ⟨z1, y0, y1, y2⟩ := HB.out _ hb1; have t0 := y0.cell 0; have t1 := y0.cell 1; have hx3 := Lib.hid (HX.out.below y2))
        | (go_at_call 36; refine (CP.out _ hx3.out).mono ?_; rintro e w2 ⟨g, c2, rfl, hown2, hg1, hg2, hn2, hc2, hb2⟩; have HD := HN.out _ _ _ _ hb1 hown2 hg1 hg2 hb2)
        | (go_at_call 40; refine (HAS.out _ _ _).mono ?_; rintro e w3 ⟨rfl, hb3⟩; replace HD := HD.step hb3; have q0 := HD.res.cell 0; have q1 := HD.res.cell 1; have f0 := HD.res.frozen 0; have f1 := HD.res.frozen 1))
      refine ret_two1 rfl rfl HD.res rfl Try.underlying24 rfl ?_
      rw [H.out]
      exact treeErr_nil (below_two HD.below HD.rlow)
  · have H : Hid (chose l cur k = ([], 0, 1)) := by show _ = _; rw [chose, if_pos hR]
    rw [decide_eq_false hR] at R
    clear hR hx hs
    go_enter Try.func25, Try.ntmps25
    go_wp2_with (go_at_call 12; refine (R.out _ hx2.out).mono ?_; rintro e w1 ⟨rfl, hb1⟩; obtain ⟨z1, y0, y1, y2⟩ := HB.out _ hb1; have t0 := y0.cell 0; have t1 := y0.cell 1; have q0 := y1.cell 0; have q1 := y1.cell 1; have f0 := y1.frozen 0; have f1 := y1.frozen 1)
    refine ret_two1 rfl rfl y1 rfl Try.underlying24 rfl ?_
    rw [H.out]
    exact treeErr_nil (below_two y2 (Nat.le_succ _))
end Go.Proofs.Ytffihchkmcddeaa
