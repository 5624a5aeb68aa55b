/-
  To a node: the program's and the document's.
-/
import Derived.Test.YtffihchkmcddeaaTreeRefPath
import Derived.Test.YtffihchkmcddeaaTreeHeld
namespace Go.Proofs.Ytffihchkmcddeaa
open Go.RowKit
open Tre
/-- Whatever ways, and this error. -/
def ThirdIs (n : Int) (w : World) (e : Ending) (w' : World) : Prop := ∃ v1 v2, e = .returned (.tuple #[v1, v2, .int .i64 n]) ∧ Below w.heap.size w w'
theorem PathIs.third {p : List Nat × List Nat × Int} {w w' : World} {e : Ending} (h : PathIs p w e w') : ThirdIs p.2.2 w e w' := by
  obtain ⟨A, B, c, d, rfl, _, _, hb⟩ := h
  exact ⟨_, _, rfl, hb⟩
namespace Tre
def pathErr (l : List Nd) (cur k : Int) : Prop := (path l cur k).2.2 = 0
theorem path_third (l : List Nd) (cur k : Int) : (path l cur k).2.2 = (goTo l cur k).2.2 := by
  unfold path goTo
  split
  · rfl
  · split <;> rfl
theorem goTo_bad {l : List Nd} {cur k : Int} (h : ¬ (Right l cur ∧ 0 ≤ k ∧ k < l.length)) : ∃ n : Int, n ≠ 0 ∧ goTo l cur k = ([], 0, n) := by
  unfold goTo
  by_cases hR : Right l cur
  · rw [if_neg (fun c => c hR), if_pos (fun c => h ⟨hR, c⟩)]
    exact ⟨7, by decide, rfl⟩
  · rw [if_pos hR]
    exact ⟨1, by decide, rfl⟩
theorem alike_get {l m : List Nd} (h : Tre.Alike l m) {k : Nat} {x : Nd} (hx : l[k]? = some x) : ∃ y, m[k]? = some y ∧ y.up = x.up := by
  obtain ⟨n, h2⟩ := h.2 k x hx
  exact ⟨_, h2, rfl⟩
end Tre
set_option maxHeartbeats 4000000 in
set_option maxRecDepth 100000 in
theorem tree_To {A : Option Addr} {c : Nat} {l : List Nd} {cur k : Int} {w : World} (hx : Nds w A l) (hc : l.length ≤ c) (hm : l.length ≤ 2000) (hs : ∀ x ∈ l, x.old.size ≤ 140737488355327 ∧ x.new.size ≤ 140737488355327) :
    Calls Try.prog 29 #[.agg #[.slice A l.length c, .int .i64 cur], .int .i64 k] w fun e w' => TreeErr (goTo l cur k) w e w' := by
  have h2 := al (al (Below.refl w.heap.size w) (.cells #[.slice A l.length c, .int .i64 cur] 24)) (.cells #[.slice none 0 0, .int .i64 0] 24)
  have hx2 := Lib.hid (hx.below h2)
  have PT : Hid (∀ u, Nds u A l → Calls Try.prog 27 #[.agg #[.slice A l.length c, .int .i64 cur], .int .i64 k] u (ThirdIs (goTo l cur k).2.2 u)) := fun u h => (tree_Path h hc hm).mono fun e w' hp => by rw [← path_third]; exact hp.third
  have HB := Lib.hid (fun u => blk2 w #[.slice A l.length c, .int .i64 cur] #[.slice none 0 0, .int .i64 0] 24 24 (u := u))
  by_cases hR : Right l cur ∧ 0 ≤ k ∧ k < l.length
  · obtain ⟨hR, hk⟩ := hR
    have h1 := hR.one
    obtain ⟨i, rfl⟩ : ∃ i : Nat, k = i := ⟨k.toNat, by omega⟩
    have hil : i < l.length := by omega
    have H : Hid (goTo l cur (i : Int) = (chosen l (way l l.length i), (i : Int), 0)) := by show _ = _; rw [goTo, if_neg (fun c => c hR), if_neg (fun c => c hk), Int.toNat_natCast]
    rw [H.out] at PT
    have HN := Lib.hid (fun (w1 w2 : World) (g c2 : Nat) (hb1 : Below ((w.alloc (.cells #[.slice A l.length c, .int .i64 cur] 24)).alloc (.cells #[.slice none 0 0, .int .i64 0] 24)).heap.size ((w.alloc (.cells #[.slice A l.length c, .int .i64 cur] 24)).alloc (.cells #[.slice none 0 0, .int .i64 0] 24)) w1)
      (hown : w2.ownsRow w1.heap.size 51 7 (.slice (some ⟨g, 0, none⟩) l.length c2) l.length (nrows l)) (hg1 : w1.heap.size ≤ g) (hg2 : g < w2.heap.size) (hb2 : Below w1.heap.size w1 w2) =>
      heldAt_new (cur := (i : Int)) (Nat.le_trans (Nat.le_add_right _ 2) (HB.out _ hb1).1) hown hg1 hg2 (HB.out _ (hb1.trans (hb2.mono hb1.size))).2.2.1 (Nat.le_succ _) (Nat.lt_of_lt_of_le (by omega) (HB.out _ hb1).1) (HB.out _ (hb1.trans (hb2.mono hb1.size))).2.2.2)
    have CP := Lib.hid (fun u (h : Nds u A l) => held_copy (c := c) (cur := cur) h h1 hm hs)
    have HX := Lib.hid hx
    have HU := Lib.hid hR.ups
    have A0 : Hid (Tre.Alike l l) := Tre.Alike.refl l
    clear hR hk hx hs
    go_enter Try.func29, Try.ntmps29
    go_wp2_with (first
      | (go_at_call 27; (with_reducible refine (PT.out _ hx2.out).mono ?_); rintro e w1 ⟨v1, v2, rfl, hb1⟩; obtain ⟨z1, y0, y1, y2⟩ := HB.out _ hb1; have t0 := y0.cell 0; have t1 := y0.cell 1; have hx3 := Lib.hid (HX.out.below y2))
      | (go_at_call 36; (with_reducible refine (CP.out _ hx3.out).mono ?_); rintro e w2 ⟨g, c2, rfl, hown2, hg1, hg2, hn2, hc2, hb2⟩; have HD := HN.out _ _ _ _ hb1 hown2 hg1 hg2 hb2))
    have HD0 := Lib.hid HD
    clear HD hb1 hown2 hg1 hg2 hn2 hc2 hb2 t0 t1 y0 y1 y2 z1 hx3 hx2 h2 HN CP PT HX
    go_loopw [1] (fun kv wr => ∃ (q : Nat) (m : List Nd), kv = .int .i64 q ∧ q < l.length ∧ m.length = l.length ∧ Hid (Tre.Alike l m) ∧ Hid (chosen m (way l l.length q) = chosen l (way l l.length i)) ∧ Hid (HeldAt w wr w2.heap.size (w.heap.size + 1) g c2 m (i : Int))) (fun kv _ => (intOf kv).toNat)
    case atStart => exact ⟨i, l, rfl, hil, rfl, A0, rfl, HD0⟩
    case round =>
      clear HD0 A0 hil
      obtain ⟨q, m, rfl, hql, hml, HA, HC, HH⟩ := hrel
      have p0 := HH.out.held.cell 0
      have p1 := HH.out.held.cell 1
      rw [hml] at p0
      by_cases hq : q = 0
      · subst hq
        have HC2 : Hid (m = chosen l (way l l.length i)) := by have := HC.out; rw [way_zero] at this; exact this
        have q0 := HH.out.res.cell 0
        have q1 := HH.out.res.cell 1
        have f0 := HH.out.res.frozen 0
        have f1 := HH.out.res.frozen 1
        clear HC
        go_wp2
        refine ret_two1 rfl rfl HH.out.res rfl Try.underlying24 rfl ?_
        have HI := HH.out.is (v0 := .slice (some ⟨g, 0, none⟩) l.length c2) (v1 := .int .i64 (i : Int))
        rw [H.out, ← HC2.out]
        rw [hml] at HI
        exact ⟨_, rfl, HI⟩
      · obtain ⟨x, hx0⟩ : ∃ x, l[q]? = some x := ⟨_, List.getElem?_eq_getElem hql⟩
        obtain ⟨y, hy, hyu⟩ := alike_get HA.out hx0
        have ha := HU.out.abv_lt (k := q) (by omega) hql
        have hyv : y.up = (abv l q : Nat) := by rw [hyu]; exact HU.out.abv_up hx0 (by omega)
        have own := HH.out.own
        rw [hml] at own
        have CH := Lib.hid (held_choose (cur := (i : Int)) own hml hy hyv (by omega))
        have hq0 : ((q : Int) == 0) = false := by rw [beq_eq_false_iff_ne]; omega
        have he : setNext m (abv l q) q = Tre.choose m q := by rw [Tre.choose, HA.out.abv]
        have HA2 : Hid (Tre.Alike l (setNext m (abv l q) q)) := HA.out.trans (alike_next _ _ _)
        have HC2 : Hid (chosen (setNext m (abv l q) q) (way l l.length (abv l q)) = chosen l (way l l.length i)) := by
          show _ = _
          rw [he, ← HC.out, way_step hql (by omega) ha]; rfl
        have hyc : Hid (∀ u, Nds u (some ⟨g, 0, none⟩) (setNext m (abv l q) q) → u.cell? ⟨g, q * 7, none⟩ = some (.int .i64 (abv l q : Nat))) := fun u hu => by
          obtain ⟨b', o', e4, _, CC⟩ := hu (by rw [setNext_length]; omega)
          injection e4 with e4
          injection e4 with e4 e5 _
          subst e4 e5
          obtain ⟨z, hz, hzu⟩ := alike_get HA2.out hx0
          have := (CC q z hz).1
          rw [hzu, HU.out.abv_up hx0 (by omega), Nat.zero_add] at this
          exact this
        have hl2 : (setNext m (abv l q) q).length = l.length := by rw [setNext_length, hml]
        clear hx0 hy hyu hyv own HC HA
        generalize abv l q = u at *
        generalize hM : setNext m u q = M at *
        go_wp2_with (go_at_call 38; (with_reducible refine CH.out.mono ?_); rintro e w4 ⟨rfl, own4, gb4⟩; have HH4 := Lib.hid (HH.out.write (m := M) gb4 (by rw [hl2, hml]) (by rw [hml]; exact own4)); have r0 := HH4.out.held.cell 0; have r1 := HH4.out.held.cell 1; rw [hl2] at r0; have d0 := hyc.out _ HH4.out.nds; have hg4 := HH4.out.lt)
        go_roundw
        case rel => exact ⟨u, M, rfl, by omega, hl2, HA2, HC2, HH4⟩
        case measure => simp [intOf]; omega
  · obtain ⟨n, hn, hgo⟩ := goTo_bad hR
    have H : Hid (goTo l cur k = ([], 0, n)) := hgo
    rw [hgo] at PT
    have hn0 : (n == 0) = false := by rw [beq_eq_false_iff_ne]; exact hn
    clear hx hR hgo hn
    go_enter Try.func29, Try.ntmps29
    go_wp2_with (go_at_call 27; (with_reducible refine (PT.out _ hx2.out).mono ?_); rintro e w1 ⟨v1, v2, rfl, hb1⟩; obtain ⟨z1, y0, y1, y2⟩ := HB.out _ hb1; have t0 := y0.cell 0; have t1 := y0.cell 1; have q0 := y1.cell 0; have q1 := y1.cell 1; have f0 := y1.frozen 0; have f1 := y1.frozen 1)
    refine ret_two1 rfl rfl y1 rfl Try.underlying24 rfl ?_
    rw [H.out]
    exact treeErr_nil (below_two y2 (Nat.le_succ _))
end Go.Proofs.Ytffihchkmcddeaa
