/-
  To a node: the document's.
-/
import Derived.Test.YtffihchkmcddeaaTreeTo
import Derived.Test.YtffihchkmcddeaaTreeRefUndo
namespace Go.Proofs.Ytffihchkmcddeaa
open Go.RowKit
open Tre
set_option maxHeartbeats 4000000 in
set_option maxRecDepth 100000 in
theorem ref11_To {A : Option Addr} {c : Nat} {l : List Nd} {cur k : Int} {w : World} (hx : Nds w A l) (hm : l.length ≤ 2000) :
    Calls Try.prog 30 #[.agg #[.slice A l.length c, .int .i64 cur], .int .i64 k] w fun e w' => TreeErr (goTo l cur k) w e w' := by
  have h2 := al (al (Below.refl w.heap.size w) (.cells #[.slice A l.length c, .int .i64 cur] 24)) (.cells #[.slice none 0 0, .int .i64 0] 24)
  have hx2 := Lib.hid (hx.below h2)
  have PT : Hid (∀ u, Nds u A l → Calls Try.prog 28 #[.agg #[.slice A l.length c, .int .i64 cur], .int .i64 k] u (ThirdIs (goTo l cur k).2.2 u)) := fun u h => (ref11_Path h hm).mono fun e w' hp => by rw [← path_third]; exact hp.third
  have HB := Lib.hid (fun u => blk2 w #[.slice A l.length c, .int .i64 cur] #[.slice none 0 0, .int .i64 0] 24 24 (u := u))
  by_cases hR : Right l cur ∧ 0 ≤ k ∧ k < l.length
  · obtain ⟨hR, hk⟩ := hR
    have h1 := hR.one
    obtain ⟨i, rfl⟩ : ∃ i : Nat, k = i := ⟨k.toNat, by omega⟩
    have hil : i < l.length := by omega
    have H : Hid (goTo l cur (i : Int) = (chosen l (way l l.length i), (i : Int), 0)) := by show _ = _; rw [goTo, if_neg (fun c => c hR), if_neg (fun c => c hk), Int.toNat_natCast]
    rw [H.out] at PT
    obtain ⟨h, hh⟩ : ∃ h : Nat → Bool, h = fun j => decide (0 < j) && on l j i := ⟨_, rfl⟩
    have hway : lower h l.length = (way l l.length i).reverse := by rw [way_rising, lower, hh]
    have HX := Lib.hid (fun u (h : Below w.heap.size w u) => hx.below h)
    have ON := Lib.hid (fun u j (h : Below w.heap.size w u) => ref11_on (c := c) (cur := cur) (a := j) (k := i) (hx.below h) hR.ups hil hm)
    have HH : Hid (∀ j, 0 < j → h j = on l j i) := fun j hj => by rw [hh]; simp [hj]
    have L0 : Hid (lower h 1 = []) := by show _ = _; rw [lower_step, hh]; rfl
    have LL := Lib.hid (fun j => lower_len h j)
    have CW : Hid (∀ (u : World) (B : Option Addr) (n d : Nat), n = (lower h l.length).length → Below w.heap.size w u → Ints u B (ints (lower h l.length)) → Calls Try.prog 39 #[.agg #[.slice A l.length c, .int .i64 cur], .slice B n d, .int .i64 (i : Int)] u fun e w' => ∃ v, e = .returned v ∧ TreeOwn (chosen l (way l l.length i)) (i : Int) u v w') := fun u B n d hn hu hI => by
      have hc := chosen_way (n := l.length) hR.ups hil
      subst hn
      have := ref11_with (ns := lower h l.length) (B := B) (d := d) (c := c) (cur := cur) (k := (i : Int)) (hx.below hu) h1 hm (Nat.le_trans (lower_len _ _) hm) hI (fun n hn => by
        rw [hway, List.mem_reverse] at hn
        obtain ⟨a, b, _⟩ := way_mem hn
        obtain ⟨x, hx0⟩ : ∃ x, l[n]? = some x := ⟨_, List.getElem?_eq_getElem a⟩
        obtain ⟨v, hv, hvn⟩ := hR.ups.up hx0 b
        exact ⟨a, v, by rw [hx0, Option.map_some, hv], by omega⟩)
      rw [hway, hc, ← hway] at this
      exact this
    obtain ⟨i0, hi, hz0, hz1, hz2⟩ := info_parts info_int
    clear hR hk hx hh hway
    go_enter Try.func30, Try.ntmps30
    go_wp2_with (go_at_call 28; (with_reducible refine (PT.out _ hx2.out).mono ?_); rintro e w1 ⟨v1, v2, rfl, hb1⟩; obtain ⟨z1, y0, y1, y2⟩ := HB.out _ hb1; have t0 := y0.cell 0; have t1 := y0.cell 1)
    have S1 := Lib.hid hb1
    clear hb1 t0 t1 y0 y1 y2 z1 hx2 h2 PT
    go_loopw [9, 10] (fun fv iv wr => ∃ (j n1 : Nat) (A1 : Option Addr) (c1 : Nat), fv = .slice A1 n1 c1 ∧ iv = .int .i64 j ∧ 0 < j ∧ j ≤ l.length ∧ Hid (n1 = (lower h j).length) ∧ n1 ≤ l.length ∧ Hid (wr.ownsRow w1.heap.size 3 1 (.slice A1 n1 c1) n1 ((ints (lower h j)).map (Value.int .i64))) ∧ Below w1.heap.size w1 wr) (fun _ iv _ => l.length - (intOf iv).toNat)
    case atStart => exact ⟨1, 0, none, 0, rfl, rfl, by omega, h1, by show _ = _; rw [L0.out]; rfl, Nat.zero_le _, by show World.ownsRow _ _ _ _ _ _ _; rw [L0.out]; exact World.ownsRow_nil _ _ _ _, Below.refl _ _⟩
    case round =>
      obtain ⟨j, n1, A1, c1, rfl, rfl, hj0, hjl, HN, hn1, HO, hV⟩ := hrel
      have hV0 := S1.out.trans (hV.mono S1.out.size)
      obtain ⟨z1, y0, y1, hW⟩ := HB.out _ hV0
      have t0 := y0.cell 0
      have t1 := y0.cell 1
      by_cases hlt : j < l.length
      · have hs := Lib.hid (lower_step h j)
        have hul := LL.out (j + 1)
        have g1 : decide ((j : Int) < (l.length : Int)) = true := decide_eq_true (by omega)
        have ONj := Lib.hid (fun u => ON.out u j)
        have fj := HH.out j hj0
        cases hb : on l j i with
        | false =>
          rw [hb] at fj ONj
          rw [fj, if_neg Bool.false_ne_true, List.append_nil] at hs
          clear fj hb
          go_wp2_with (go_at_call 47; (with_reducible refine (ONj.out _ hW).mono ?_); rintro e w3 ⟨rfl, hb3⟩; have V3 := hV.trans (hb3.mono hV.size); obtain ⟨z3, y3, _, _⟩ := HB.out _ (S1.out.trans (V3.mono S1.out.size)); have t2 := y3.cell 0)
          have HO3 := Lib.hid (HO.out.kept (gb_below none hb3) (by cases hv : (Value.slice A1 n1 c1).ownBlock <;> simp))
          go_roundw
          case rel => exact ⟨j + 1, n1, A1, c1, rfl, by go_num, by omega, by omega, by show _ = _; rw [hs.out]; exact HN.out, hn1, by show World.ownsRow _ _ _ _ _ _ _; rw [hs.out]; exact HO3.out, V3⟩
          case measure => simp [intOf] <;> omega
        | true =>
          rw [hb] at fj ONj
          rw [fj, if_pos rfl] at hs
          clear fj hb
          go_wp2_with (first
            | (go_at_call 47; (with_reducible refine (ONj.out _ hW).mono ?_); rintro e w3 ⟨rfl, hb3⟩; have V3 := hV.trans (hb3.mono hV.size); obtain ⟨z3, y3, _, _⟩ := HB.out _ (S1.out.trans (V3.mono S1.out.size)); have t2 := y3.cell 0)
            | (at_builtin; have HO4 := Lib.hid (HO.out.kept (gb_below none hb3) (by cases hv : (Value.slice A1 n1 c1).ownBlock <;> simp)); refine wpList_append_own _ rfl _ _ 41 rfl w1.heap.size 3 i0 (.int .i64 0) 1 8 Try.underlying41 hi hz0 hz1 hz2 rfl (by decide) _ _ _ rfl (HO4.out.alloc _) ⟨w3.heap.size, 0, none⟩ 1 1 [.int .i64 (j : Int)] rfl rfl ?c1 ?c2 ?c3 ?c4 ?c5 ?_))
          case c1 =>
            intro i' v hj
            have hb := Blk.new w3 3 #[.int .i64 (j : Int)]
            rw [add_plain, Nat.zero_add, hb.cell]
            simpa using hj
          case c2 => simp [Value.oneCell']
          case c3 => unfold maxLen; omega
          case c4 => omega
          case c5 => rw [World.size_alloc]; have := V3.size; omega
          intro v' w5 hown5 hgrow5 _
          obtain ⟨a5, cap5, rfl⟩ := own_shape hown5
          have V5 : Below w1.heap.size w1 w5 := (V3.alloc V3.size (.cells #[.int .i64 (j : Int)] 3)).grown hgrow5 (by rw [World.size_alloc]; have := V3.size; omega) (fun i' e => (HO.out.lt i' e).1)
          have HN2 : Hid (n1 + 1 = (lower h (j + 1)).length) := by show _ = _; rw [hs.out, List.length_append, ← HN.out]; rfl
          have HO5 : Hid (w5.ownsRow w1.heap.size 3 1 (.slice a5 (n1 + 1) cap5) (n1 + 1) ((ints (lower h (j + 1))).map (Value.int .i64))) := by show World.ownsRow _ _ _ _ _ _ _; rw [hs.out, ints_snoc, List.map_append]; exact hown5
          have hn2 : n1 + 1 ≤ l.length := by rw [HN2.out]; omega
          clear hown5 hgrow5
          go_wp2
          go_roundw
          case rel => exact ⟨j + 1, n1 + 1, a5, cap5, rfl, by go_num, by omega, by omega, HN2, hn2, HO5, V5⟩
          case measure => simp [intOf] <;> omega
      · obtain rfl : j = l.length := by omega
        have g1 : decide ((l.length : Int) < (l.length : Int)) = false := decide_eq_false (by omega)
        have HI : Hid (Ints wr A1 (ints (lower h l.length))) := Ints.of_own (v := .slice A1 n1 c1) (n := n1) (c := c1) (by rw [ints_length, ← HN.out]; exact HO.out) rfl
        go_wp2_with (go_at_call 39; (with_reducible refine (CW.out _ _ _ _ HN.out hW HI.out).mono ?_); rintro e w7 ⟨v, rfl, A7, c7, rfl, own7, hb7⟩; have x7 := y1.below hb7 y1.lt; have q0 := x7.cell 0; have q1 := x7.cell 1; have f0 := x7.frozen 0; have f1 := x7.frozen 1)
        refine ret_two1 rfl rfl x7 rfl Try.underlying24 rfl ?_
        rw [H.out]
        exact ⟨_, rfl, A7, c7, rfl, nds_two (own_nds own7 rfl).1 (fun ad e => by subst e; have := (own7.lt ad.block rfl).1; have := y1.lt; omega), (own_nds own7 rfl).2, below_two (hW.trans (hb7.mono hW.size)) (by omega)⟩
  · obtain ⟨n, hn, hgo⟩ := goTo_bad hR
    have H : Hid (goTo l cur k = ([], 0, n)) := hgo
    rw [hgo] at PT
    have hn0 : (n == 0) = false := by rw [beq_eq_false_iff_ne]; exact hn
    clear hx hR hgo hn
    go_enter Try.func30, Try.ntmps30
    go_wp2_with (go_at_call 28; (with_reducible refine (PT.out _ hx2.out).mono ?_); rintro e w1 ⟨v1, v2, rfl, hb1⟩; obtain ⟨z1, y0, y1, y2⟩ := HB.out _ hb1; have t0 := y0.cell 0; have t1 := y0.cell 1; have q0 := y1.cell 0; have q1 := y1.cell 1; have f0 := y1.frozen 0; have f1 := y1.frozen 1)
    refine ret_two1 rfl rfl y1 rfl Try.underlying24 rfl ?_
    rw [H.out]
    exact treeErr_nil (below_two y2 (Nat.le_succ _))
end Go.Proofs.Ytffihchkmcddeaa
