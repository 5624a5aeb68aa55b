/-
  Undo, Redo and Choose of a tree: the document's.
-/
import Derived.Test.YtffihchkmcddeaaTreePlain
import Derived.Test.YtffihchkmcddeaaTreeRefRight
import Derived.Deep.RegionHeld3
namespace Go.Proofs.Ytffihchkmcddeaa
open Go.RowKit
open Tre
theorem ref11_copy {A : Option Addr} {c : Nat} {l : List Nd} {cur k : Int} {w : World} (hx : Nds w A l) (h1 : 1 ≤ l.length) (hm : l.length ≤ 2000) :
    Calls Try.prog 39 #[.agg #[.slice A l.length c, .int .i64 cur], .slice none 0 0, .int .i64 k] w fun e w' => ∃ (A' : Option Addr) (c' : Nat), e = .returned (.agg #[.slice A' l.length c', .int .i64 k]) ∧ w'.ownsRow w.heap.size 51 7 (.slice A' l.length c') l.length (nrows l) ∧ (∀ ad, A' = some ad → w.heap.size ≤ ad.block) ∧ Nds w' A' l ∧ l.length ≤ c' ∧ Below w.heap.size w w' := by
  refine (ref11_with (ns := []) (B := none) (d := 0) hx h1 hm (Nat.zero_le _) (fun h => absurd h (by simp)) (fun n h => by simp at h)).mono ?_
  rintro e w' ⟨v, rfl, A', c', rfl, hown, hb⟩
  obtain ⟨o1, o2⟩ := own_nds hown rfl
  exact ⟨A', c', rfl, hown, fun ad e => by subst e; exact (hown.lt ad.block rfl).1, o1, o2, hb⟩

set_option maxHeartbeats 4000000 in
set_option maxRecDepth 100000 in
theorem ref11_Undo {A : Option Addr} {c : Nat} {l : List Nd} {cur : Int} {w : World} (hx : Nds w A l) (hm : l.length ≤ 2000) :
    Calls Try.prog 19 #[.agg #[.slice A l.length c, .int .i64 cur]] w fun e w' => TreeNum (undo l cur) w e w' := by
  have h2 := al (al (Below.refl w.heap.size w) (.cells #[.slice A l.length c, .int .i64 cur] 24)) (.cells #[.slice none 0 0, .int .i64 0] 24)
  have hx2 := Lib.hid (hx.below h2)
  have R := Lib.hid (fun u (h : Nds u A l) => ref11_Right (c := c) (cur := cur) h)
  have HB := Lib.hid (fun u => blk2 w #[.slice A l.length c, .int .i64 cur] #[.slice none 0 0, .int .i64 0] 24 24 (u := u))
  by_cases hR : Right l cur
  · rw [decide_eq_true hR] at R
    have h1 := hR.one
    obtain ⟨m, rfl⟩ : ∃ m : Nat, cur = m := ⟨cur.toNat, by have := hR.low; omega⟩
    have hml : m < l.length := by have := hR.high; omega
    obtain ⟨x, hx0⟩ : ∃ x, l[m]? = some x := ⟨_, List.getElem?_eq_getElem hml⟩
    have HX0 := Lib.hid hx0
    have CP := Lib.hid (fun u k (h : Nds u A l) => ref11_copy (c := c) (cur := (m : Int)) (k := k) h h1 hm)
    have HX := Lib.hid hx
    obtain ⟨b, off, rfl, hbw, CC⟩ := hx.addr (by omega)
    replace CC := Lib.hid CC
    by_cases h0 : m = 0
    · have H : Hid (undo l (m : Int) = (l, 0, 0, false)) := by show _ = _; rw [undo, if_pos hR, if_pos (by omega)]
      subst h0
      clear hR hx0 hx
      go_enter Try.func19, Try.ntmps19
      go_wp2_with (first
        | (go_at_call 13; refine (R.out _ hx2.out).mono ?_; rintro e w1 ⟨rfl, hb1⟩; obtain ⟨z1, y0, y1, y2⟩ := HB.out _ hb1; have t0 := y0.cell 0; have t1 := y0.cell 1; have hx3 := Lib.hid (HX.out.below y2))
        | (go_at_call 39; refine (CP.out _ _ hx3.out).mono ?_; rintro e w2 ⟨A2, c2, rfl, hown2, hA2, hn2, hc2, hb2⟩; have S2 := hb1.trans (hb2.mono hb1.size); obtain ⟨z2, x0, x1, x2⟩ := HB.out _ S2; have q0 := x1.cell 0; have q1 := x1.cell 1; have f0 := x1.frozen 0; have f1 := x1.frozen 1))
      refine ret_two2 rfl rfl x1 rfl Try.underlying24 rfl ?_
      rw [H.out]
      exact ⟨_, rfl, A2, c2, rfl, nds_two hn2 (fun ad e => by have := hA2 ad e; have := hb1.size; simp only [World.size_alloc] at this; omega), hc2, below_two x2 (Nat.le_succ _)⟩
    · obtain ⟨u, hu, hum⟩ := hR.ups.up hx0 (by omega)
      have H : Hid (undo l (m : Int) = (l, (u : Int), (m : Int), true)) := by show _ = _; rw [undo, if_pos hR, if_neg (by omega), Int.toNat_natCast, abv_of hx0 hu]
      have hm0 : ((m : Int) == 0) = false := by rw [beq_eq_false_iff_ne]; omega
      have HU := Lib.hid hu
      clear hR hx0 hu hx
      go_enter Try.func19, Try.ntmps19
      go_wp2_with (go_at_call 13; refine (R.out _ hx2.out).mono ?_; rintro e w1 ⟨rfl, hb1⟩; obtain ⟨z1, y0, y1, y2⟩ := HB.out _ hb1; have t0 := y0.cell 0; have t1 := y0.cell 1; have hx3 := Lib.hid (HX.out.below y2); obtain ⟨c0, cn, _⟩ := CC.out _ _ y2 (Nat.le_refl _) m x HX0.out; have hbl := Nat.lt_of_lt_of_le hbw y2.size)
      rw [HU.out] at c0
      have e1 : (m : Int) < (l.length : Int) := by omega
      have e2 : (0 : Int) ≤ (m : Int) := by omega
      have hd : Below w1.heap.size w1 w1.drew := (Below.refl _ _).drew
      have hx4 := Lib.hid (hx3.out.below hd)
      go_region_held3 (fun u' => u'.cell? ⟨w.heap.size, 0, none⟩ = some (.slice (some ⟨b, off, none⟩) l.length c) ∧ u'.cell? ⟨w.heap.size, 1, none⟩ = some (.int .i64 (m : Int)) ∧ u'.cell? ⟨b, off + m * 7, none⟩ = some (.int .i64 (u : Int)))
        (first | exact ⟨by assumption, by assumption, by assumption⟩ | go_keep | exact ⟨by first | assumption | go_keep, by first | assumption | go_keep, by first | assumption | go_keep⟩)
        (first
          | (go_at_call 39; (with_reducible refine (CP.out _ _ hx4.out).mono ?_); rintro e w2 ⟨A2, c2, rfl, hown2, hA2, hn2, hc2, hb2⟩; have S1 := hb1.trans (hd.mono hb1.size); have S2 := S1.trans (hb2.mono S1.size); obtain ⟨z2, x0, x1, x2⟩ := HB.out _ S2; have t2 := x0.cell 0; have t3 := x0.cell 1; have c3 := (CC.out _ _ x2 (Nat.le_refl _) m x HX0.out).1; rw [HU.out] at c3; have c5 := (CC.out _ _ (below_two (v0 := .slice A2 l.length c2) (v1 := .int .i64 (u : Int)) x2 (Nat.le_succ _)) (Nat.le_refl _) m x HX0.out).1; rw [HU.out] at c5; have q0 := x1.cell 0; have q1 := x1.cell 1; have f0 := x1.frozen 0; have f1 := x1.frozen 1))
      all_goals
        go_wp2
        refine ret_two2 rfl rfl x1 rfl Try.underlying24 rfl ?_
        rw [H.out]
        exact ⟨_, rfl, A2, c2, rfl, nds_two hn2 (fun ad e => by have := hA2 ad e; have := hd.size; have := hb1.size; simp only [World.size_alloc] at this; omega), hc2, below_two x2 (Nat.le_succ _)⟩
  · have H : Hid (undo l cur = ([], 0, 0, false)) := by show _ = _; rw [undo, if_neg hR]
    rw [decide_eq_false hR] at R
    clear hR hx
    go_enter Try.func19, Try.ntmps19
    go_wp2_with (go_at_call 13; refine (R.out _ hx2.out).mono ?_; rintro e w1 ⟨rfl, hb1⟩; obtain ⟨z1, y0, y1, y2⟩ := HB.out _ hb1; have t0 := y0.cell 0; have t1 := y0.cell 1; have q0 := y1.cell 0; have q1 := y1.cell 1; have f0 := y1.frozen 0; have f1 := y1.frozen 1)
    refine ret_two2 rfl rfl y1 rfl Try.underlying24 rfl ?_
    rw [H.out]
    exact treeNum_nil (below_two y2 (Nat.le_succ _))
set_option maxHeartbeats 4000000 in
set_option maxRecDepth 100000 in
theorem ref11_Redo {A : Option Addr} {c : Nat} {l : List Nd} {cur : Int} {w : World} (hx : Nds w A l) (hm : l.length ≤ 2000) :
    Calls Try.prog 21 #[.agg #[.slice A l.length c, .int .i64 cur]] w fun e w' => TreeNum (redo l cur) w e w' := by
  have h2 := al (al (Below.refl w.heap.size w) (.cells #[.slice A l.length c, .int .i64 cur] 24)) (.cells #[.slice none 0 0, .int .i64 0] 24)
  have hx2 := Lib.hid (hx.below h2)
  have R := Lib.hid (fun u (h : Nds u A l) => ref11_Right (c := c) (cur := cur) h)
  have HB := Lib.hid (fun u => blk2 w #[.slice A l.length c, .int .i64 cur] #[.slice none 0 0, .int .i64 0] 24 24 (u := u))
  by_cases hR : Right l cur
  · rw [decide_eq_true hR] at R
    have h1 := hR.one
    obtain ⟨m, rfl⟩ : ∃ m : Nat, cur = m := ⟨cur.toNat, by have := hR.low; omega⟩
    have hml : m < l.length := by have := hR.high; omega
    obtain ⟨x, hx0⟩ : ∃ x, l[m]? = some x := ⟨_, List.getElem?_eq_getElem hml⟩
    have HX0 := Lib.hid hx0
    have CP := Lib.hid (fun u k (h : Nds u A l) => ref11_copy (c := c) (cur := (m : Int)) (k := k) h h1 hm)
    have HX := Lib.hid hx
    obtain ⟨b, off, rfl, hbw, CC⟩ := hx.addr (by omega)
    replace CC := Lib.hid CC
    by_cases h0 : x.next = -1
    · have H : Hid (redo l (m : Int) = (l, (m : Int), 0, false)) := by show _ = _; rw [redo, if_pos hR, Int.toNat_natCast, nxt_of hx0, if_pos h0]
      have HU := Lib.hid h0
      clear hR hx0 h0 hx
      go_enter Try.func21, Try.ntmps21
      go_wp2_with (first
        | (go_at_call 13; refine (R.out _ hx2.out).mono ?_; rintro e w1 ⟨rfl, hb1⟩; obtain ⟨z1, y0, y1, y2⟩ := HB.out _ hb1; have t0 := y0.cell 0; have t1 := y0.cell 1; have hx3 := Lib.hid (HX.out.below y2); obtain ⟨c0, cn, _⟩ := CC.out _ _ y2 (Nat.le_refl _) m x HX0.out; rw [HU.out] at cn; have hbl := Nat.lt_of_lt_of_le hbw y2.size)
        | (go_at_call 39; refine (CP.out _ _ hx3.out).mono ?_; rintro e w2 ⟨A2, c2, rfl, hown2, hA2, hn2, hc2, hb2⟩; have S2 := hb1.trans (hb2.mono hb1.size); obtain ⟨z2, x0, x1, x2⟩ := HB.out _ S2; have q0 := x1.cell 0; have q1 := x1.cell 1; have f0 := x1.frozen 0; have f1 := x1.frozen 1))
      refine ret_two2 rfl rfl x1 rfl Try.underlying24 rfl ?_
      rw [H.out]
      exact ⟨_, rfl, A2, c2, rfl, nds_two hn2 (fun ad e => by have := hA2 ad e; have := hb1.size; simp only [World.size_alloc] at this; omega), hc2, below_two x2 (Nat.le_succ _)⟩
    · have H : Hid (redo l (m : Int) = (l, x.next, x.next, true)) := by show _ = _; rw [redo, if_pos hR, Int.toNat_natCast, nxt_of hx0, if_neg h0]
      have hn0 : (x.next == -1) = false := by rw [beq_eq_false_iff_ne]; exact h0
      clear hR hx0 h0 hx
      go_enter Try.func21, Try.ntmps21
      go_wp2_with (first
        | (go_at_call 13; refine (R.out _ hx2.out).mono ?_; rintro e w1 ⟨rfl, hb1⟩; obtain ⟨z1, y0, y1, y2⟩ := HB.out _ hb1; have t0 := y0.cell 0; have t1 := y0.cell 1; have hx3 := Lib.hid (HX.out.below y2); obtain ⟨c0, cn, _⟩ := CC.out _ _ y2 (Nat.le_refl _) m x HX0.out; have hbl := Nat.lt_of_lt_of_le hbw y2.size)
        | (go_at_call 39; refine (CP.out _ _ hx3.out).mono ?_; rintro e w2 ⟨A2, c2, rfl, hown2, hA2, hn2, hc2, hb2⟩; have S2 := hb1.trans (hb2.mono hb1.size); obtain ⟨z2, x0, x1, x2⟩ := HB.out _ S2; have q0 := x1.cell 0; have q1 := x1.cell 1; have f0 := x1.frozen 0; have f1 := x1.frozen 1))
      refine ret_two2 rfl rfl x1 rfl Try.underlying24 rfl ?_
      rw [H.out]
      exact ⟨_, rfl, A2, c2, rfl, nds_two hn2 (fun ad e => by have := hA2 ad e; have := hb1.size; simp only [World.size_alloc] at this; omega), hc2, below_two x2 (Nat.le_succ _)⟩
  · have H : Hid (redo l cur = ([], 0, 0, false)) := by show _ = _; rw [redo, if_neg hR]
    rw [decide_eq_false hR] at R
    clear hR hx
    go_enter Try.func21, Try.ntmps21
    go_wp2_with (go_at_call 13; refine (R.out _ hx2.out).mono ?_; rintro e w1 ⟨rfl, hb1⟩; obtain ⟨z1, y0, y1, y2⟩ := HB.out _ hb1; have t0 := y0.cell 0; have t1 := y0.cell 1; have q0 := y1.cell 0; have q1 := y1.cell 1; have f0 := y1.frozen 0; have f1 := y1.frozen 1)
    refine ret_two2 rfl rfl y1 rfl Try.underlying24 rfl ?_
    rw [H.out]
    exact treeNum_nil (below_two y2 (Nat.le_succ _))
set_option maxHeartbeats 4000000 in
set_option maxRecDepth 100000 in
theorem ref11_Choose {A : Option Addr} {c : Nat} {l : List Nd} {cur k : Int} {w : World} (hx : Nds w A l) (hm : l.length ≤ 2000) :
    Calls Try.prog 26 #[.agg #[.slice A l.length c, .int .i64 cur], .int .i64 k] w fun e w' => TreeErr (chose l cur k) w e w' := by
  have h2 := al (al (Below.refl w.heap.size w) (.cells #[.slice A l.length c, .int .i64 cur] 24)) (.cells #[.slice none 0 0, .int .i64 0] 24)
  have hx2 := Lib.hid (hx.below h2)
  have R := Lib.hid (fun u (h : Nds u A l) => ref11_Right (c := c) (cur := cur) h)
  have HB := Lib.hid (fun u => blk2 w #[.slice A l.length c, .int .i64 cur] #[.slice none 0 0, .int .i64 0] 24 24 (u := u))
  by_cases hR : Right l cur
  · rw [decide_eq_true hR] at R
    have h1 := hR.one
    obtain ⟨m, rfl⟩ : ∃ m : Nat, cur = m := ⟨cur.toNat, by have := hR.low; omega⟩
    have hml : m < l.length := by have := hR.high; omega
    obtain ⟨x, hx0⟩ : ∃ x, l[m]? = some x := ⟨_, List.getElem?_eq_getElem hml⟩
    have HX0 := Lib.hid hx0
    have CP := Lib.hid (fun u k (h : Nds u A l) => ref11_copy (c := c) (cur := (m : Int)) (k := k) h h1 hm)
    have HX := Lib.hid hx
    obtain ⟨b, off, rfl, hbw, CC⟩ := hx.addr (by omega)
    replace CC := Lib.hid CC
    have HAS := Lib.hid (fun u => ref11_has (some ⟨b, off, none⟩) l.length c (m : Int) k u)
    by_cases hk : ¬ (0 ≤ k ∧ k < l.length)
    · rw [decide_eq_false hk] at HAS
      have H : Hid (chose l (m : Int) k = ([], 0, 7)) := by show _ = _; rw [chose, if_neg (fun h => h hR), if_pos (.inl hk)]
      clear hR hk hx0 hx
      go_enter Try.func26, Try.ntmps26
      go_wp2_with (first
        | (go_at_call 13; refine (R.out _ hx2.out).mono ?_; rintro e w1 ⟨rfl, hb1⟩; obtain ⟨z1, y0, y1, y2⟩ := HB.out _ hb1; have t0 := y0.cell 0; have t1 := y0.cell 1; have hx3 := Lib.hid (HX.out.below y2))
        | (go_at_call 43; refine (HAS.out _).mono ?_; rintro e w3 ⟨rfl, hb3⟩; have S3 := hb1.trans (hb3.mono hb1.size); obtain ⟨z3, v0, v1, v2⟩ := HB.out _ S3; have s0 := v0.cell 0; have s1 := v0.cell 1; have hx5 := Lib.hid (HX.out.below v2); have q0 := v1.cell 0; have q1 := v1.cell 1; have f0 := v1.frozen 0; have f1 := v1.frozen 1))
      refine ret_two1 rfl rfl v1 rfl Try.underlying24 rfl ?_
      rw [H.out]
      exact treeErr_nil (below_two v2 (Nat.le_succ _))
    rw [decide_eq_true (Classical.not_not.1 hk)] at HAS
    by_cases hk0 : k = 0
    · have H : Hid (chose l (m : Int) k = ([], 0, 7)) := by show _ = _; rw [chose, if_neg (fun h => h hR), if_pos (.inr hk0)]
      clear hR hk hx0 hx
      subst hk0
      go_enter Try.func26, Try.ntmps26
      go_wp2_with (first
        | (go_at_call 13; refine (R.out _ hx2.out).mono ?_; rintro e w1 ⟨rfl, hb1⟩; obtain ⟨z1, y0, y1, y2⟩ := HB.out _ hb1; have t0 := y0.cell 0; have t1 := y0.cell 1; have hx3 := Lib.hid (HX.out.below y2))
        | (go_at_call 43; refine (HAS.out _).mono ?_; rintro e w3 ⟨rfl, hb3⟩; have S3 := hb1.trans (hb3.mono hb1.size); obtain ⟨z3, v0, v1, v2⟩ := HB.out _ S3; have s0 := v0.cell 0; have s1 := v0.cell 1; have hx5 := Lib.hid (HX.out.below v2); have q0 := v1.cell 0; have q1 := v1.cell 1; have f0 := v1.frozen 0; have f1 := v1.frozen 1))
      refine ret_two1 rfl rfl v1 rfl Try.underlying24 rfl ?_
      rw [H.out]
      exact treeErr_nil (below_two v2 (Nat.le_succ _))
    · obtain ⟨i, rfl⟩ : ∃ i : Nat, k = i := ⟨k.toNat, by omega⟩
      have hil : i < l.length := by omega
      obtain ⟨y, hy0⟩ : ∃ y, l[i]? = some y := ⟨_, List.getElem?_eq_getElem hil⟩
      obtain ⟨u, hu, hum⟩ := hR.ups.up hy0 (by omega)
      have H : Hid (chose l (m : Int) (i : Int) = (Tre.choose l i, (m : Int), 0)) := by show _ = _; rw [chose, if_neg (fun h => h hR), if_neg (by omega), Int.toNat_natCast]
      have hi0 : ((i : Int) == 0) = false := by rw [beq_eq_false_iff_ne]; omega
      have CW := Lib.hid (fun u' B d (h : Nds u' (some ⟨b, off, none⟩) l) (hI : Ints u' B [(i : Int)]) => ref11_with (ns := [i]) (B := B) (d := d) (c := c) (cur := (m : Int)) (k := (m : Int)) h h1 hm (by simp) hI (fun n hn => by rw [List.mem_singleton.1 hn]; exact ⟨hil, u, by rw [hy0, Option.map_some, hu], by omega⟩))
      have HL : Hid ((chosen l [i]).length = l.length) := chosen_length _ _
      have hIA : Hid (∀ (u' : World), Ints (u'.alloc (.cells #[.int .i64 (i : Int)] 3)) (some ⟨u'.heap.size, 0, none⟩) [(i : Int)]) := fun u' _ => ⟨_, rfl, by simp, fun j x hj => by
        match j, hj with
        | 0, hj =>
          simp only [List.getElem?_cons_zero, Option.some.injEq] at hj
          subst hj
          exact (Blk.new u' 3 #[.int .i64 (i : Int)]).cell 0⟩
      clear hR hk hx0 hx hy0
      go_enter Try.func26, Try.ntmps26
      go_wp2_with (first
        | (go_at_call 13; refine (R.out _ hx2.out).mono ?_; rintro e w1 ⟨rfl, hb1⟩; obtain ⟨z1, y0, y1, y2⟩ := HB.out _ hb1; have t0 := y0.cell 0; have t1 := y0.cell 1; have hx3 := Lib.hid (HX.out.below y2))
        | (go_at_call 43; refine (HAS.out _).mono ?_; rintro e w3 ⟨rfl, hb3⟩; have S3 := hb1.trans (hb3.mono hb1.size); obtain ⟨z3, v0, v1, v2⟩ := HB.out _ S3; have s0 := v0.cell 0; have s1 := v0.cell 1; have hx5 := Lib.hid (HX.out.below v2); have v4 := v0.alloc (.cells #[.int .i64 (i : Int)] 3); have s2 := v4.cell 1; have hx6 := Lib.hid (hx5.out.below (al (Below.refl _ w3) (.cells #[.int .i64 (i : Int)] 3))); have S4 := S3.alloc S3.size (.cells #[.int .i64 (i : Int)] 3))
        | (go_at_call 39; refine (CW.out _ _ _ hx6.out (hIA.out _)).mono ?_; rintro e w4 ⟨v, rfl, A2, c2, rfl, hown2, hb4⟩; have S5 := S4.trans (hb4.mono S4.size); obtain ⟨z5, _, x1, x2⟩ := HB.out _ S5; have q0 := x1.cell 0; have q1 := x1.cell 1; have f0 := x1.frozen 0; have f1 := x1.frozen 1))
      refine ret_two1 rfl rfl x1 rfl Try.underlying24 rfl ?_
      rw [H.out]
      exact ⟨_, rfl, A2, c2, rfl, nds_two (own_nds hown2 rfl).1 (fun ad e => by subst e; have := (hown2.lt ad.block rfl).1; rw [World.size_alloc] at this; omega), (own_nds hown2 rfl).2, below_two x2 (Nat.le_succ _)⟩
  · have H : Hid (chose l cur k = ([], 0, 1)) := by show _ = _; rw [chose, if_pos hR]
    rw [decide_eq_false hR] at R
    clear hR hx
    go_enter Try.func26, Try.ntmps26
    go_wp2_with (go_at_call 13; refine (R.out _ hx2.out).mono ?_; rintro e w1 ⟨rfl, hb1⟩; obtain ⟨z1, y0, y1, y2⟩ := HB.out _ hb1; have t0 := y0.cell 0; have t1 := y0.cell 1; have q0 := y1.cell 0; have q1 := y1.cell 1; have f0 := y1.frozen 0; have f1 := y1.frozen 1)
    refine ret_two1 rfl rfl y1 rfl Try.underlying24 rfl ?_
    rw [H.out]
    exact treeErr_nil (below_two y2 (Nat.le_succ _))
end Go.Proofs.Ytffihchkmcddeaa
