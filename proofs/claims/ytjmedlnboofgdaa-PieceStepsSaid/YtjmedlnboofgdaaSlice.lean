/-
  Any part of a table's bytes: Slice; all of them: String.
-/
import Derived.Test.YtjmedlnboofgdaaFind
import Derived.Test.YtjmedlnboofgdaaBuilderMore
namespace Go.Proofs.Ytjmedlnboofgdaa
open Go.RowKit
open Pc
/-- A pointer at whose table these pieces can be looked at. -/
def Shown (x : Value) (ps : List (List UInt8)) (w : World) : Prop :=
  ∃ vp us B, Looks x vp ps.flatten.length w ∧ w.ownsRow B 50 1 vp ps.length us ∧ (∀ l ∈ ps, l ≠ []) ∧
    ∀ (k : Nat) (l : List UInt8), ps[k]? = some l → ∃ g off, us[k]? = some (.slice (some ⟨g, off, none⟩) l.length l.length) ∧ BytesAt w g off l
theorem Shown.below {x : Value} {ps : List (List UInt8)} {w w' : World} (h : Shown x ps w) (hb : Below w.heap.size w w') : Shown x ps w' := by
  obtain ⟨vp, us, B, h1, h2, h3, h4⟩ := h
  refine ⟨vp, us, B, h1.below hb, h2.kept (gb_below none hb) (by cases hv : vp.ownBlock <;> simp), h3, fun k l hk => ?_⟩
  obtain ⟨g, off, h5, h6⟩ := h4 k l hk
  exact ⟨g, off, h5, h6.grown (gb_below none hb) (by simp)⟩
theorem Tab.shown {B p a : Nat} {ps : List (List UInt8)} {w : World} (h : Tab B p ps a w) : Shown (.pointer (some ⟨p, 0, none⟩)) ps w := by
  obtain ⟨vp, va, us, xs, h⟩ := h
  refine ⟨vp, us, B, tab_looks h.self, h.rows, h.full, fun k l hk => ?_⟩
  obtain ⟨u, h1, g, off, rfl, h2, _⟩ := h.each k l hk
  exact ⟨g, off, h1, h2⟩
theorem Zero.shown {B p : Nat} {w : World} (h : Zero B p w) : Shown (.pointer (some ⟨p, 0, none⟩)) [] w :=
  ⟨_, [], 0, zero_looks h, World.ownsRow_nil _ _ _ _, by simp, by simp⟩
theorem none_shown (w : World) : Shown (.pointer none) [] w := ⟨_, [], 0, none_looks w, World.ownsRow_nil _ _ _ _, by simp, by simp⟩
namespace Pc
/-- The bytes from the offset i on, ahead of j. -/
def cut (ps : List (List UInt8)) (i j : Int) : List UInt8 := if 0 ≤ i ∧ i ≤ j ∧ j ≤ ps.flatten.length then (ps.flatten.drop i.toNat).take (j.toNat - i.toNat) else []
theorem flat_at {ps : List (List UInt8)} {k : Nat} {l : List UInt8} (h : ps[k]? = some l) : ∃ r, ps.flatten = (ps.take k).flatten ++ (l ++ r) := by
  obtain ⟨hk, rfl⟩ := List.getElem?_eq_some_iff.1 h
  refine ⟨(ps.drop (k + 1)).flatten, ?_⟩
  conv => lhs; rw [← List.take_append_drop k ps, List.drop_eq_getElem_cons hk]
  rw [List.flatten_append, List.flatten_cons]
/-- What is taken on of a piece. -/
theorem take_more {ps : List (List UInt8)} {k : Nat} {l : List UInt8} (h : ps[k]? = some l) {i m s t : Nat} (he : i + m = pre ps k + s) (ht : s + t ≤ l.length) :
    (ps.flatten.drop i).take (m + t) = (ps.flatten.drop i).take m ++ (l.drop s).take t := by
  rw [List.take_add]
  congr 1
  rw [List.drop_drop, he]
  obtain ⟨r, hr⟩ := flat_at h
  rw [hr, pre]
  rw [← List.drop_drop, List.drop_left, List.drop_append_of_le_length (by omega), List.take_append_of_le_length (by rw [List.length_drop]; omega)]
end Pc
namespace Pc
/-- Where one stands who has taken m bytes from the offset i on, of d: s bytes behind the begin of the piece j. -/
def Pos (ps : List (List UInt8)) (i d j s m : Nat) : Prop := i + m = pre ps j + s ∧ m ≤ d ∧ ∀ l, ps[j]? = some l → s < l.length
end Pc
set_option maxHeartbeats 400000 in
theorem slice_no {x : Value} {ps : List (List UInt8)} {w : World} (h : Shown x ps w) (i j : Int) (hn : ¬ (0 ≤ i ∧ i ≤ j ∧ j ≤ ps.flatten.length)) :
    Calls Try.prog 19 #[x, .int .i64 i, .int .i64 j] w fun e w' => e = .returned (.string (bs [])) ∧ w = w' := by
  obtain ⟨vp, us, B, h1, _⟩ := h
  have G := tab_fits h1 i j
  rw [decide_eq_false hn] at G
  have G1 := Lib.hid G
  clear G h1 hn
  go_enter Try.func19, Try.ntmps19
  go_wp2_with (go_at_call 25; refine G1.out.mono ?_; rintro e w2 ⟨rfl, rfl⟩)
  go_ret
  exact ⟨rfl, rfl⟩
set_option maxHeartbeats 400000 in
set_option maxRecDepth 100000 in
theorem slice_ok {x : Value} {ps : List (List UInt8)} {w : World} (h : Shown x ps w) (i d : Nat) (hij : i + d ≤ ps.flatten.length) (hl : ps.flatten.length ≤ 140737488355328) (hn : ps.length ≤ 140737488355328) :
    Calls Try.prog 19 #[x, .int .i64 i, .int .i64 (i + d : Nat)] w fun e w' => e = .returned (.string (bs ((ps.flatten.drop i).take d))) ∧ Below w.heap.size w w' := by
  have HS := Lib.hid h
  obtain ⟨vp, us, B, h1, h2, h3, h4⟩ := h
  have G := tab_fits h1 i (i + d : Nat)
  rw [decide_eq_true (show 0 ≤ (i : Int) ∧ (i : Int) ≤ ((i + d : Nat) : Int) ∧ ((i + d : Nat) : Int) ≤ (ps.flatten.length : Nat) by omega)] at G
  have G1 := Lib.hid G
  have F : Hid (∀ w1, Below w.heap.size w w1 → Calls Try.prog 27 #[x, .int .i64 i] w1 fun e w' => ∃ k a : Nat, e = .returned (.tuple #[.int .i64 k, .int .i64 a]) ∧ Hid (InPiece ps i k a) ∧ Below w1.heap.size w1 w') := fun w1 hb =>
    tab_find (h1.below hb) (h2.kept (gb_below none hb) (by cases hv : vp.ownBlock <;> simp)) (fun k l hk => by obtain ⟨g, off, h5, _⟩ := h4 k l hk; exact ⟨g, off, h5⟩) i (by omega) (by omega) (by omega)
  have L := Lib.hid h1
  obtain ⟨A, c, rfl⟩ := own_shape h2
  have E : Hid (∀ (k : Nat) (l : List UInt8), ps[k]? = some l → l ≠ [] ∧ ∃ g, A = some ⟨g, 0, none⟩ ∧ ps.length ≤ c ∧ g < w.heap.size ∧ ∃ g' off, w.cell? ⟨g, k, none⟩ = some (.slice (some ⟨g', off, none⟩) l.length l.length) ∧ BytesAt w g' off l) := fun k l hkl => by
    obtain ⟨g', off, hu, hby⟩ := h4 k l hkl
    have hk := (List.getElem?_eq_some_iff.1 hkl).1
    refine ⟨h3 l (List.mem_of_getElem? hkl), ?_⟩
    rcases h2.2 with ⟨_, h0⟩ | ⟨g, cap, cur, he, _, hh, hnc, _⟩
    · omega
    · injection he with e1 e2 e3
      subst e1 e3
      refine ⟨g, rfl, hnc, Blk.lt (w := w) hh, g', off, ?_, hby⟩
      have := h2.cells (g := g) rfl k _ hu
      rwa [show (⟨g, 0, none⟩ : Addr).add k = ⟨g, k, none⟩ from by unfold Addr.add; split <;> simp_all] at this
  have hAc : Hid ((A = none ∧ ps.length = 0 ∧ c = 0) ∨ ∃ g, A = some ⟨g, 0, none⟩ ∧ ps.length ≤ c ∧ c ≤ 9223372036854775807) := by
    rcases h2.2 with ⟨he, h0⟩ | ⟨g, cap, cur, he, _, hh, hnc, hm, _⟩
    · injection he with e1 e2 e3
      exact Or.inl ⟨e1, h0, e3⟩
    · injection he with e1 e2 e3
      subst e1 e3
      exact Or.inr ⟨g, rfl, hnc, by unfold maxLen at hm; omega⟩
  clear h1 h2 h3 h4 G
  have hdi : (i : Int) + (d : Int) - (i : Int) = (d : Int) := by omega
  go_enter Try.func19, Try.ntmps19
  go_wp2_with (go_at_call 25; refine G1.out.mono ?_; rintro e w2 ⟨rfl, rfl⟩)
  refine (bd_grow w.heap.size w.heap.size d (w.alloc (.cells #[.pointer none, .slice none 0 0] 55)) (Nat.le_refl _) (Blk.new w _ _) (by simp) (by omega)).mono ?_
  rintro e w1 ⟨rfl, hbd, hb1⟩
  have hW1 : Below w.heap.size w w1 := ((Below.refl _ w).alloc (Nat.le_refl _) _).trans hb1
  clear hb1
  go_wp2_with fail
  refine (F.out w1 hW1).mono ?_
  rintro e w2 ⟨k, a, rfl, hka, hb2⟩
  have hbd2 := bd_keep hbd hb2
  have hW2 := hW1.trans (hb2.mono hW1.size)
  have hh := L.out.held w2 hW2
  clear hb2 hW1 hbd F G1
  have hkl : k ≤ ps.length := by
    rcases hka.out with ⟨l, h1, _⟩ | ⟨h1, _⟩
    · have := (List.getElem?_eq_some_iff.1 h1).1; omega
    · omega
  rcases Nat.lt_or_ge k ps.length with hlt | hge
  · obtain ⟨l, h1, ha, hip⟩ : ∃ l, ps[k]? = some l ∧ a < l.length ∧ i = pre ps k + a := by
      rcases hka.out with ⟨l, h1, h2⟩ | ⟨h1, _⟩
      · exact ⟨l, h1, h2⟩
      · omega
    obtain ⟨g, hA, hc1, hc2⟩ : ∃ g, A = some ⟨g, 0, none⟩ ∧ ps.length ≤ c ∧ c ≤ 9223372036854775807 := by
      rcases hAc.out with ⟨_, h2, _⟩ | h2
      · omega
      · exact h2
    subst hA
    have hck : ¬ (c = k) := by omega
    have H0 : Hid (ps[k]? = some l ∧ a < l.length ∧ i = pre ps k + a) := ⟨h1, ha, hip⟩
    clear h1 ha hip hka hAc
    go_wp2_with (go_at_call 22; refine hh.mono ?_; rintro e w3 ⟨rfl, rfl⟩)
    have hbd3 := hbd2
    have hW3 := hW2
    have hs := fun (X : List UInt8) (wr : World) hb hW => Try.Builder_String_any w.heap.size w.heap.size X wr (Or.inr hb) hW
    have HS := Lib.hid hs
    clear hs hh hW2 hbd2
    go_loopw [9, 11, 12, 33] (fun ah _ _ z wr => ∃ (q s m : Nat) (X : List UInt8), k + q ≤ ps.length ∧ z = .int .i64 q ∧ ah = .int .i64 s ∧ Hid (Pos ps i d (k + q) s m) ∧ Hid (X = (ps.flatten.drop i).take m) ∧ Lib.BuilderAt 55 5 w.heap.size w.heap.size (.pointer (some ⟨w.heap.size, 0, none⟩)) (Lib.byteCells X) wr ∧ Below w.heap.size w wr) (fun _ _ _ z _ => ps.length - (intOf z).toNat)
    case atStart => exact ⟨0, a, 0, [], by omega, rfl, rfl, ⟨by have := H0.out.2.2; omega, by omega, fun l' hl' => by have := H0.out.1; rw [Nat.add_zero, this] at hl'; injection hl' with hl'; subst hl'; exact H0.out.2.1⟩, by show _ = _; rw [List.take_zero], hbd3, hW3⟩
    case round =>
      obtain ⟨q, s, m, X, hq, rfl, rfl, hP, hX, hB, hR⟩ := hrel
      by_cases hlq : k + q < ps.length
      · obtain ⟨l, hkl⟩ : ∃ l, ps[k + q]? = some l := ⟨_, List.getElem?_eq_getElem hlq⟩
        obtain ⟨hne, g2, hA2, _, hgw, g', off, hc, hby⟩ := E.out (k + q) l hkl
        injection hA2 with hA2
        injection hA2 with hA2
        subst hA2
        have hsl := hP.out.2.2 l hkl
        have hc0 := (hR.cell (p := ⟨g, k + q, none⟩) hgw).trans hc
        have hxl : (Lib.byteCells X).length = m := by
          rw [Lib.byteCells_length, hX.out, List.length_take, List.length_drop]
          have h1 := hP.out.1
          have h2 := hP.out.2.1
          omega
        have hg'w : g' < w.heap.size := hby.lt
        clear hc hne
        obtain ⟨u, hu⟩ : ∃ u, u = min (l.length - s) (d - m) := ⟨_, rfl⟩
        have hmd := hP.out.2.1
        have hu1 : min ((l.length - s : Nat) : Int) ((d : Int) - (m : Int)) = (u : Int) := by rw [hu]; omega
        have hu2 : u ≤ l.length - s := by rw [hu]; omega
        have HU := Lib.hid hu
        have hls : ¬ (l.length = s) := by omega
        clear hu
        go_wp2_with fail
        have hB1 := bd_keep hB (Below.alloc (Below.refl _ wr) (Nat.le_refl _) (.cells #[Value.slice (some ⟨g', off, none⟩) l.length l.length] 50))
        refine (Try.Builder_Len w.heap.size w.heap.size _ _ (Or.inr hB1)).mono ?_
        rintro e w4 ⟨rfl, rfl⟩
        rw [hxl]
        go_wp2_with fail
        have hul : ((l.drop s).take u).length = u := by rw [List.length_take, List.length_drop]; omega
        have hby1 := (hby.part s u).same (w' := wr.alloc (.cells #[Value.slice (some ⟨g', off, none⟩) l.length l.length] 50)) ((Below.heap_alloc wr _ g' (Nat.lt_of_lt_of_le hg'w hR.size)).trans (hR.block g' hg'w))
        have hR1 : Below w.heap.size w (wr.alloc (.cells #[Value.slice (some ⟨g', off, none⟩) l.length l.length] 50)) := hR.alloc (by have := hR.size; omega) _
        refine (bd_put w.heap.size w.heap.size (Lib.byteCells X) g' (off + s) u (l.length - s) ((l.drop s).take u) _ (Or.inr hB1) hby1 hg'w hul (by omega) hR1.size).mono ?_
        rintro e w5 ⟨rfl, hB5, hb5⟩
        have hR5 := hR1.trans hb5
        obtain ⟨Y, hY⟩ : ∃ Y, Y = (ps.flatten.drop i).take (m + u) := ⟨_, rfl⟩
        have hYX : Lib.byteCells Y = Lib.byteCells X ++ Lib.byteCells ((l.drop s).take u) := by
          rw [hY, hX.out, ← byteCells_append, take_more hkl hP.out.1 (by omega)]
        rw [← hYX] at hB5
        have hyl : (Lib.byteCells Y).length = m + u := by rw [hYX, List.length_append, hxl, Lib.byteCells_length, hul]
        have HY := Lib.hid hY
        have HK := Lib.hid hkl
        clear hY hYX hby1 hul hB1 hB hb5 hxl hc0 hR hR1 hX hby hkl
        by_cases hend : m + u = d
        · have hend1 : (m : Int) + (u : Int) = (d : Int) := by omega
          go_wp2_with fail
          refine (Try.Builder_Len w.heap.size w.heap.size _ _ (Or.inr hB5)).mono ?_
          rintro e w6 ⟨rfl, rfl⟩
          rw [hyl]
          have hs6 := Lib.hid (HS.out Y _ hB5 hR5.size)
          have hY2 : Hid (bs ((ps.flatten.drop i).take d) = bs Y) := by show _ = _; rw [HY.out, hend]
          clear hend
          go_wp2_with (go_at_call 30; refine hs6.out.mono ?_; rintro e w7 ⟨rfl, hb7⟩)
          go_ret
          exact ⟨by rw [hY2.out]; rfl, hR5.trans hb7⟩
        · have hend1 : ¬ (m : Int) + (u : Int) = (d : Int) := by omega
          go_wp2_with fail
          refine (Try.Builder_Len w.heap.size w.heap.size _ _ (Or.inr hB5)).mono ?_
          rintro e w6 ⟨rfl, rfl⟩
          rw [hyl]
          go_wp2
          go_roundw
          case rel =>
            refine ⟨q + 1, 0, m + u, Y, by omega, by go_num, rfl, ?_, HY, hB5, hR5⟩
            have e1 := pre_succ HK.out
            have e2 := hP.out.1
            have e3 := HU.out
            refine ⟨?_, by omega, fun l' hl' => List.length_pos_iff.2 (E.out _ l' hl').1⟩
            rw [show k + (q + 1) = k + q + 1 by omega, e1]
            omega
          case measure => simp [intOf]; omega
      · have hmd : m = d := by
          have h1 := hP.out.1
          have h2 := hP.out.2.1
          rw [pre_all (show ps.length ≤ k + q by omega)] at h1
          omega
        subst hmd
        have hs6 := Lib.hid (HS.out X _ hB hR.size)
        have hX2 : Hid (bs ((ps.flatten.drop i).take m) = bs X) := by show _ = _; rw [hX.out]
        go_wp2_with (go_at_call 30; refine hs6.out.mono ?_; rintro e w7 ⟨rfl, hb7⟩)
        go_ret
        exact ⟨by rw [hX2.out]; rfl, hR.trans hb7⟩
  · obtain ⟨h1, h2, h3⟩ : k = ps.length ∧ a = 0 ∧ pre ps k ≤ i := by
      rcases hka.out with ⟨l, h1, _⟩ | h1
      · have := (List.getElem?_eq_some_iff.1 h1).1; omega
      · exact h1
    subst h1 h2
    have hd0 : d = 0 := by rw [pre_all (Nat.le_refl _)] at h3; omega
    subst hd0
    have hr : Hid (bs ((ps.flatten.drop i).take 0) = bs []) := by show _ = _; rw [List.take_zero]
    have hs := Try.Builder_String_any w.heap.size w.heap.size [] w2 (Or.inr hbd2) hW2.size
    clear hka h3
    rcases hAc.out with ⟨h1, h2, h3⟩ | ⟨g, h1, h2, h3⟩
    · subst h1 h3
      rw [h2] at hh ⊢
      clear hAc E
      go_wp2_with (go_at_call 22; refine hh.mono ?_; rintro e w3 ⟨rfl, rfl⟩)
      refine wp_loop_rounds 1 ?_
      rw [rounds_succ]
      go_wp2_with (go_at_call 30; refine hs.mono ?_; rintro e w3 ⟨rfl, hb3⟩)
      go_ret
      exact ⟨by rw [hr.out]; rfl, hW2.trans hb3⟩
    · subst h1
      clear hAc E
      go_wp2_with (go_at_call 22; refine hh.mono ?_; rintro e w3 ⟨rfl, rfl⟩)
      all_goals
        refine wp_loop_rounds 1 ?_
        rw [rounds_succ]
        go_wp2_with (go_at_call 30; refine hs.mono ?_; rintro e w3 ⟨rfl, hb3⟩)
        go_ret
        exact ⟨by rw [hr.out]; rfl, hW2.trans hb3⟩
theorem tab_slice {x : Value} {ps : List (List UInt8)} {w : World} (h : Shown x ps w) (i j : Int) (hl : ps.flatten.length ≤ 140737488355328) (hn : ps.length ≤ 140737488355328) :
    Calls Try.prog 19 #[x, .int .i64 i, .int .i64 j] w fun e w' => e = .returned (.string (bs (cut ps i j))) ∧ Below w.heap.size w w' := by
  by_cases hc : 0 ≤ i ∧ i ≤ j ∧ j ≤ ps.flatten.length
  · obtain ⟨a, rfl⟩ := Int.eq_ofNat_of_zero_le hc.1
    obtain ⟨d, rfl⟩ : ∃ d : Nat, j = ((a + d : Nat) : Int) := ⟨(j - a).toNat, by omega⟩
    have e : cut ps (a : Int) ((a + d : Nat) : Int) = (ps.flatten.drop a).take d := by
      unfold cut
      rw [if_pos hc]
      congr 1
      omega
    rw [e]
    exact slice_ok h a d (by omega) hl hn
  · have e : cut ps i j = [] := by unfold cut; rw [if_neg hc]
    rw [e]
    refine (slice_no h i j hc).mono ?_
    rintro e w' ⟨rfl, rfl⟩
    exact ⟨rfl, Below.refl _ _⟩
set_option maxHeartbeats 400000 in
theorem tab_string {x : Value} {ps : List (List UInt8)} {w : World} (h : Shown x ps w) (hl : ps.flatten.length ≤ 140737488355328) (hn : ps.length ≤ 140737488355328) :
    Calls Try.prog 8 #[x] w fun e w' => e = .returned (.string (bs ps.flatten)) ∧ Below w.heap.size w w' := by
  have S0 := slice_ok h 0 ps.flatten.length (by omega) hl hn
  rw [List.drop_zero, List.take_length, Nat.zero_add, show ((0 : Nat) : Int) = 0 from rfl] at S0
  have S := Lib.hid S0
  obtain ⟨vp, us, B, h1, _⟩ := h
  have G := Lib.hid (h1.len w (Below.refl _ _))
  clear h1 S0 hl hn
  generalize ps.flatten.length = n at *
  go_enter Try.func8, Try.ntmps8
  go_wp2_with (first
    | (go_at_call 9; refine G.out.mono ?_; rintro e w2 ⟨rfl, rfl⟩)
    | (go_at_call 19; refine S.out.mono ?_; rintro e w3 ⟨rfl, hb⟩))
  go_ret
  exact ⟨rfl, hb⟩
end Go.Proofs.Ytjmedlnboofgdaa
