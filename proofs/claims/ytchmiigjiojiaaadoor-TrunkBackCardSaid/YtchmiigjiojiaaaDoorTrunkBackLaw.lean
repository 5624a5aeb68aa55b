/-
  The law TrunkBack: what was written is read, and what stands behind it is left; of what is read the bytes are those that were there. The library's table of powers reads as its text lays it.
-/
import Derived.Test.YtchmiigjiojiaaaDoorCardRow
import Derived.Test.YtchmiigjiojiaaaDoorTrunkDraw
import Derived.Test.YtchmiigjiojiaaaDoorTrunkRead
import Derived.Test.YtchmiigjiojiaaaDoorTrunkLives
import Derived.Test.YtchmiigjiojiaaaDoorNewReader
import Derived.Test.YtchmiigjiojiaaaDoorTreeTop
import Derived.SizedLaws
import Derived.Deep.RegionHeld3
namespace Go.Proofs.YtchmiigjiojiaaaDoor
open Go.RowKit
open Tre Trk
namespace Trk
theorem rdTree_full {l r : List UInt8} {xs : List Nd} {cur e' : Int} (h : rdTree l 0 = ((xs, cur, 0), r, e')) : full (nodesB xs) := by
  unfold rdTree at h
  obtain ⟨n0, l0, e0, q0⟩ : ∃ n r e, rdNum l 0 = (n, r, e) := ⟨_, _, _, rfl⟩
  simp only [q0] at h
  obtain ⟨ns, l1, e1, q1⟩ : ∃ x q e, rdNodes n0.toNat l0 e0 = (x, q, e) := ⟨_, _, _, rfl⟩
  simp only [q1] at h
  obtain ⟨n2, l2, e2, q2⟩ : ∃ n r e, rdNum l1 e1 = (n, r, e) := ⟨_, _, _, rfl⟩
  simp only [q2] at h
  by_cases he : e2 = 0
  · subst he
    rw [if_neg (by simp)] at h
    obtain rfl : e1 = 0 := num_out (l := l1) (by rw [q2])
    obtain rfl : e0 = 0 := Classical.byContradiction fun k => rdNodes_err (n := n0.toNat) (l := l0) k (by rw [q1])
    by_cases hR : Right ns n2
    · rw [if_pos hR] at h
      simp only [Prod.mk.injEq] at h
      obtain ⟨⟨rfl, rfl, _⟩, rfl, _⟩ := h
      exact (rdNodes_once q1).2.2
    · rw [if_neg hR] at h
      simp only [Prod.mk.injEq] at h
      exact absurd h.1.2.2 (by decide)
  · rw [if_pos he] at h
    simp only [Prod.mk.injEq] at h
    exact absurd h.1.2.2 he
theorem full_bounds {xs : List Nd} (h : full (nodesB xs)) : ∀ x ∈ xs, Fit x ∧ NdI x := by
  intro x hx
  have hf : full (fieldsB x) := fun t ht => h t (List.mem_flatMap.2 ⟨x, hx, ht⟩)
  obtain ⟨⟨_, _, h2, h3, h4⟩, h5, h6⟩ := full_fields hf
  replace h2 := numB_num h2
  replace h3 := numB_num h3
  replace h4 := numB_num h4
  replace h5 := textB_text h5
  replace h6 := textB_text h6
  exact ⟨⟨IntWalk.i64_in _ (by omega), IntWalk.i64_in _ (by omega), IntWalk.i64_in _ (by omega)⟩, by unfold I64; omega, by unfold I64; omega, by unfold I64; omega, by unfold I64; omega, by unfold I64; omega⟩
/-- Have the texts of the first k nodes at most 4096 bytes? -/
def smallB (l : List Nd) (k : Nat) : Bool := (l.take k).all fun x => decide (x.old.size ≤ 4096) && decide (x.new.size ≤ 4096)
theorem smallB_succ {l : List Nd} {k : Nat} {x : Nd} (h : l[k]? = some x) : smallB l (k + 1) = (smallB l k && (decide (x.old.size ≤ 4096) && decide (x.new.size ≤ 4096))) := by
  obtain ⟨hm, rfl⟩ := List.getElem?_eq_some_iff.1 h
  unfold smallB
  rw [List.take_succ_eq_append_getElem hm, List.all_append]
  simp
theorem smallB_all {l : List Nd} (h : smallB l l.length = true) : ∀ x ∈ l, x.old.size ≤ 4096 ∧ x.new.size ≤ 4096 := by
  intro x hx
  unfold smallB at h
  rw [List.take_length, List.all_eq_true] at h
  have := h x hx
  simpa using this
set_option maxRecDepth 100000 in
theorem treeB_length (l : List Nd) (cur : Int) : (treeB l cur).length ≤ 7200 * 2147483651 := by
  by_cases hR : Right l cur
  · rw [treeB_yes hR, joinB]
    split
    · have h1 := flatten_le (things_length (l := l) (cur := cur))
      have h2 : (thingsB l cur).length = l.length * 7 + 2 := by
        unfold thingsB
        rw [List.length_cons, List.length_append, nodesB_length]
        rfl
      have := hR.few
      rw [h2] at h1
      exact Nat.le_trans h1 (Nat.mul_le_mul_right _ (by omega))
    · simp
  · rw [treeB_no hR]; simp
end Trk
set_option maxHeartbeats 8000000 in
set_option maxRecDepth 100000 in
theorem trunkBack_walk {A : Option Addr} {c : Nat} {l : List Nd} {cur : Int} (s : ByteArray) {w : World} (hp : Pow w.heap.size w) (hx : Nds w A l) (hc : l.length ≤ c) (hm : c ≤ maxLen) (hwf : ∀ x ∈ l, NdWf x) (hs : s.size ≤ 140737488351232) :
    Calls Tryd.prog 4 #[.agg #[.slice A l.length c, .int .i64 cur], .string s] w fun e w' => e = .returned (.bool true) ∧ Below w.heap.size w w' := by
  have hlm : l.length ≤ 9223372036854775807 := by unfold maxLen at hm; omega
  have W1 := al (Below.refl w.heap.size w) (.cells #[.slice A l.length c, .int .i64 cur] 24)
  have Y1 := Blk.new w 24 #[.slice A l.length c, .int .i64 cur]
  have HX := Lib.hid (fun u (hu : Below w.heap.size w u) => hx.below hu)
  have R1 := Lib.hid (trunk_Bytes (c := c) (cur := cur) (hx.below W1) hc (fun x hx => fit_of_wf (hwf x hx)))
  have hbl := treeB_length l cur
  obtain ⟨ns1, cu1, er1, lf1, e1, hR1⟩ : ∃ a b c d e, rdTree (treeB l cur ++ s.data.toList) 0 = ((a, b, c), d, e) := ⟨_, _, _, _, _, rfl⟩
  have HK : Hid (treeB l cur ≠ [] → smallB l l.length = true → ns1 = l ∧ cu1 = cur ∧ er1 = 0 ∧ lf1 = s.data.toList ∧ l.length ≤ 2000) := fun h1 h2 => by
    have := rdTree_back s.data.toList h1 (smallB_all h2)
    rw [hR1] at this
    simp only [Prod.mk.injEq] at this
    obtain ⟨⟨h3, h4, h5⟩, h6, _⟩ := this
    have hR : Right l cur := Classical.byContradiction fun k => h1 (treeB_no k)
    exact ⟨h3, h4, h5, h6, Nat.le_trans hR.few (by omega)⟩
  have HR1 := Lib.hid (fun (u : World) (p : Nat) (h : Rd p (treeB l cur ++ s.data.toList) 0 u) => trunk_Read h)
  rw [hR1] at HR1
  clear hR1
  have HBE : Hid (treeB l cur = [] ∨ treeB l cur ≠ []) := Classical.em _
  have NR : Hid (∀ u, Calls Tryd.prog 13 #[.string (bs (treeB l cur) ++ s)] u fun e w' => GotRd (treeB l cur ++ s.data.toList) u.heap.size e w' ∧ Below u.heap.size u w') := fun u => by
    have := new_reader (bs (treeB l cur) ++ s) u (by rw [ByteArray.size_append, bs_size]; unfold maxLen; omega)
    rw [text_sum, bs_toList] at this
    rw [text_sum]
    exact this
  have hsum : ¬ 9223372036854775807 < (bs (treeB l cur)).size + s.size := by rw [bs_size]; omega
  clear hbl hwf hx
  generalize treeB l cur = Bt at *
  go_enter Tryd.func4, Tryd.ntmps4
  go_wp2_with fail
  refine R1.out.mono ?_
  rintro e w2 ⟨rfl, hb2⟩
  have W2 := W1.trans (hb2.mono W1.size)
  have Y2 := Y1.below hb2 Y1.lt
  clear W1 Y1 hb2 R1
  go_wp2_with fail
  refine (NR.out _).mono ?_
  rintro e w3 ⟨⟨p, rfl, hp3, hr3⟩, hb3⟩
  have W3 := W2.trans (hb3.mono W2.size)
  have Y3 := Y2.below hb3 Y2.lt
  have hpB : w.heap.size ≤ p := Nat.le_trans W2.size hp3
  clear W2 Y2 hb3 NR hp3
  go_wp2_with fail
  refine (HR1.out _ _ hr3).mono ?_
  rintro e w4 ⟨A1, c1, rfl, hn4, hc4, hr4, hg4⟩
  have W4 := of_row W3 hg4 hpB (Nat.le_refl _)
  have Y4 := Y3.grown hg4 (fun e => by
    obtain ⟨c1, c2, s', h⟩ := hr3
    exact Y3.ne_ h.self (by decide) (Option.some.inj e))
  have U4 := Blk.new w4 24 #[.slice A1 ns1.length c1, .int .i64 cu1]
  replace W4 := W4.alloc W4.size (.cells #[.slice A1 ns1.length c1, .int .i64 cu1] 24)
  replace Y4 := Y4.alloc (.cells #[.slice A1 ns1.length c1, .int .i64 cu1] 24)
  replace hn4 := hn4.below (al (Below.refl _ w4) (.cells #[.slice A1 ns1.length c1, .int .i64 cu1] 24))
  replace hr4 := hr4.below (World.grownBy_alloc w4 (.cells #[.slice A1 ns1.length c1, .int .i64 cu1] 24) none)
  clear W3 Y3 hr3 hg4 HR1 hc4
  go_wp2_with fail
  generalize w4.alloc (.cells #[.slice A1 ns1.length c1, .int .i64 cu1] 24) = W at *
  generalize w4.heap.size = ub at *
  go_loopw [9, 10] (fun v i wr => ∃ (k : Nat) (sm : Bool), v = .bool sm ∧ i = .int .i64 k ∧ k ≤ l.length ∧ Hid (sm = smallB l k) ∧ wr = W) (fun _ i _ => l.length - (intOf i).toNat)
  case atStart => exact ⟨0, true, rfl, rfl, Nat.zero_le _, by show _ = _; unfold smallB; rw [List.take_zero]; rfl, rfl⟩
  case round =>
    obtain ⟨k, sm, rfl, rfl, hk, HSM, rfl⟩ := hrel
    have t0 := Y4.cell 0
    have t1 := Y4.cell 1
    by_cases hlt : k < l.length
    · obtain ⟨x, hx⟩ : ∃ x, l[k]? = some x := ⟨_, List.getElem?_eq_getElem hlt⟩
      obtain ⟨b, off, hA, hbw, e0, e1', e2, e3, e4, e5, e6⟩ := (HX.out _ W4).at_ (Below.refl _ _) (Nat.le_refl _) hx
      subst hA
      have HS := Lib.hid (smallB_succ hx)
      rw [← HSM.out] at HS
      clear hx HSM
      have fin : ∀ (b' : Bool), smallB l (k + 1) = b' → Hid (b' = smallB l (k + 1)) := fun b' h => h.symm
      cases sm with
      | false =>
        have HF := fin false (by rw [HS.out]; rfl)
        clear HS fin
        go_wp2
        go_roundw
        case rel => exact ⟨k + 1, false, rfl, by go_num, by omega, HF, by trivial⟩
        case measure => simp [intOf]; omega
      | true =>
        by_cases ho : x.old.size ≤ 4096
        · by_cases hn : x.new.size ≤ 4096
          · have HF := fin true (by rw [HS.out]; simp [ho, hn])
            have g2 : decide ((x.new.size : Int) ≤ 4096) = true := decide_eq_true (by omega)
            clear HS fin
            go_wp2
            go_roundw
            case rel => exact ⟨k + 1, true, rfl, by go_num, by omega, HF, by trivial⟩
            case measure => simp [intOf]; omega
          · have HF := fin false (by rw [HS.out]; simp [hn])
            have g2 : decide ((x.new.size : Int) ≤ 4096) = false := decide_eq_false (by omega)
            clear HS fin
            go_wp2
            go_roundw
            case rel => exact ⟨k + 1, false, rfl, by go_num, by omega, HF, by trivial⟩
            case measure => simp [intOf]; omega
        · have HF := fin false (by rw [HS.out]; simp [ho])
          clear HS fin
          go_wp2
          go_roundw
          case rel => exact ⟨k + 1, false, rfl, by go_num, by omega, HF, by trivial⟩
          case measure => simp [intOf]; omega
    · obtain rfl : k = l.length := by omega
      have d0 : decide ((l.length : Int) < (l.length : Int)) = false := by simp
      have hcase : (Bt = []) ∨ (Bt ≠ [] ∧ sm = false) ∨ (Bt ≠ [] ∧ sm = true) := by
        rcases HBE.out with h | h
        · exact .inl h
        · cases sm
          · exact .inr (.inl ⟨h, rfl⟩)
          · exact .inr (.inr ⟨h, rfl⟩)
      clear HBE
      have NS := Lib.hid (fun u => new_reader s u (by unfold maxLen; omega))
      obtain ⟨ns2, cu2, er2, lf2, e2, hR2⟩ : ∃ a b c d e, rdTree s.data.toList 0 = ((a, b, c), d, e) := ⟨_, _, _, _, _, rfl⟩
      have HR2 := Lib.hid (fun (u : World) (q : Nat) (h : Rd q s.data.toList 0 u) => trunk_Read h)
      rw [hR2] at HR2
      have LV := Lib.hid trunk_lives
      have HP := Lib.hid hp
      have hHR2 := Lib.hid hR2
      clear hp hR2
      -- the first reading is as it should be, whatever came
      have FIRST : Hid (∀ u, Below w.heap.size w u → True) := fun _ _ => trivial
      rcases hcase with h | ⟨h, h2⟩ | ⟨h, h2⟩
      · have g0 : (bs Bt).toList.isEmpty = true := by rw [bs_tl, h]; rfl
        clear h HSM HK
        go_wp2_with fail
        refine (NS.out _).mono ?_
        rintro e w6 ⟨⟨q, rfl, hq6, hr6⟩, hb6⟩
        have W6 := W4.trans (hb6.mono W4.size)
        have hqB : w.heap.size ≤ q := Nat.le_trans W4.size hq6
        clear hb6 hq6
        go_wp2_with fail
        refine (HR2.out _ _ hr6).mono ?_
        rintro e w7 ⟨A2, c2, rfl, hn7, hc7, hr7, hg7⟩
        have W7 := of_row W6 hg7 hqB (Nat.le_refl _)
        have V7 := Blk.new w7 24 #[.slice A2 ns2.length c2, .int .i64 cu2]
        replace W7 := W7.alloc W7.size (.cells #[.slice A2 ns2.length c2, .int .i64 cu2] 24)
        replace hn7 := hn7.below (al (Below.refl _ w7) (.cells #[.slice A2 ns2.length c2, .int .i64 cu2] 24))
        replace hr7 := hr7.below (World.grownBy_alloc w7 (.cells #[.slice A2 ns2.length c2, .int .i64 cu2] 24) none)
        clear hr6 hg7 W6 HR2 NS
        by_cases he : er2 = 0
        · subst he
          obtain ⟨hone, hRt⟩ := rdTree_once hHR2.out
          have hbd := full_bounds (rdTree_full hHR2.out)
          have hss : s.size = (treeB ns2 cu2).length + lf2.length := by rw [← data_len, hone, List.length_append]
          have hex : s.extract 0 (treeB ns2 cu2).length = bs (treeB ns2 cu2) := by
            rw [Lib.extract_eq, hone, List.drop_zero, Nat.sub_zero, List.take_left]
            rfl
          have R1 := Lib.hid (fun (u : World) (h : Nds u A2 ns2) => trunk_Bytes (cur := cu2) h hc7 (fun x hx => (hbd x hx).1))
          have R2 := Lib.hid (fun (u : World) (h : Nds u A2 ns2) => tree_Right_any (cur := cu2) h hc7)
          rw [decide_eq_true hRt] at R2
          have R3 := Lib.hid (fun (u : World) (h : Nds u A2 ns2) => trunk_Size (cur := cu2) h hc7 (fun x hx => (hbd x hx).1))
          have R4 : Hid (∀ (u : World), Nds u A2 ns2 → Pow u.heap.size u → Calls Tryd.prog 11 #[.agg #[.slice A2 ns2.length c2, .int .i64 cu2]] u fun e w' => ∃ (B : Option Addr) (d : Nat), e = .returned (.slice B ns2.length d) ∧ Below u.heap.size u w') := fun u h hpw => by
            refine (trunk_Draw (cur := cu2) hpw h hc7 (fun x hx => (hbd x hx).2)).mono ?_
            rintro e w' ⟨B, d, rfl, _, _, hb⟩
            refine ⟨B, d, ?_, hb⟩
            have : (drawB ns2 cu2).length = ns2.length := by unfold drawB; rw [if_pos hRt, linesB_length]
            rw [this]
          have LF := Lib.hid (rd_left hr7)
          have hzz : (bs (treeB ns2 cu2)).size = (treeB ns2 cu2).length := bs_size _
          generalize (treeB ns2 cu2).length = m at *
          generalize bs (treeB ns2 cu2) = T2 at *
          have hms : m ≤ s.size := by omega
          have hms2 : (m : Int) ≤ (s.size : Int) := by omega
          have hm0 : (0 : Int) ≤ (m : Int) := by omega
          have hwr : IntKind.i64.wrap ((s.size : Int) - (lf2.length : Int)) = (m : Int) := by
            have : (s.size : Int) - (lf2.length : Int) = (m : Int) := by omega
            rw [this]
            exact IntWalk.i64_in _ (by omega)
          have hsub : (s.size : Int) - (lf2.length : Int) = (m : Int) := by omega
          have HSS := Lib.hid hss
          clear hss hone hbd hzz hRt hr7 hHR2
          have g1 : ((0 : Int) != 0) = false := rfl
          go_wp2_with (go_at_call 16; ((with_reducible refine LF.out.mono ?_); rintro e w8 ⟨rfl, rfl⟩))
          generalize w7.alloc (.cells #[.slice A2 ns2.length c2, .int .i64 cu2] 24) = W8 at *
          generalize w7.heap.size = vb at *
          have P : Hid (∀ u, Below W8.heap.size W8 u → u.cell? ⟨vb, 0, none⟩ = some (.slice A2 ns2.length c2) ∧ u.cell? ⟨vb, 1, none⟩ = some (.int .i64 cu2) ∧ Nds u A2 ns2 ∧ Below w.heap.size w u ∧ Pow u.heap.size u) := fun u hu => by
            have y := V7.below hu V7.lt
            have hb := W7.trans (hu.mono W7.size)
            exact ⟨y.cell 0, y.cell 1, hn7.below hu, hb, HP.out.from hb.size hb⟩
          obtain ⟨x0, x1, _⟩ := P.out W8 (Below.refl _ _)
          have V : Below W8.heap.size W8 W8.drew := (Below.refl _ _).drew
          clear V7 hn7 W7 LF
          go_region_held3 (fun u => u.cell? ⟨vb, 0, none⟩ = some (.slice A2 ns2.length c2) ∧ u.cell? ⟨vb, 1, none⟩ = some (.int .i64 cu2))
            (first | exact ⟨by assumption, by assumption⟩ | go_keep)
            (first
              | (go_at_call 7; ((with_reducible refine (R1.out _ (P.out _ V).2.2.1).mono ?_); rintro e u ⟨rfl, hb9⟩; replace V := V.trans (hb9.mono V.size); obtain ⟨x0, x1, _⟩ := P.out _ V))
              | (go_at_call 17; ((with_reducible refine (R2.out _ (P.out _ V).2.2.1).mono ?_); rintro e u ⟨rfl, hb9⟩; replace V := V.trans (hb9.mono V.size); obtain ⟨x0, x1, _⟩ := P.out _ V))
              | (go_at_call 9; ((with_reducible refine (R3.out _ (P.out _ V).2.2.1).mono ?_); rintro e u ⟨rfl, hb9⟩; replace V := V.trans (hb9.mono V.size); obtain ⟨x0, x1, _⟩ := P.out _ V))
              | (go_at_call 11; ((with_reducible refine (R4.out _ (P.out _ V).2.2.1 (P.out _ V).2.2.2.2).mono ?_); rintro e u ⟨B9, d9, rfl, hb9⟩; replace V := V.trans (hb9.mono V.size); obtain ⟨x0, x1, _⟩ := P.out _ V))
              | (go_at_call 6; ((with_reducible refine (LV.out _).mono ?_); rintro e u ⟨rfl, hb9⟩; replace V := V.trans (hb9.mono V.size); obtain ⟨x0, x1, _⟩ := P.out _ V)))
          all_goals
            go_wp2
            go_ret
            exact ⟨rfl, (P.out _ V).2.2.2.1⟩
        · obtain ⟨hz1, hz2⟩ := rdTree_no hHR2.out he
          have x0 := V7.cell 0
          have x1 := V7.cell 1
          have g1 : (er2 != 0) = true := by simp [he]
          have hz3 : ns2.length = 0 := by rw [hz1]; rfl
          rw [hz3] at x0 x1 W7 ⊢
          simp only [List.getElem?_toArray, List.getElem?_cons_zero, List.getElem?_cons_succ] at x0 x1
          clear hz1 hz2 hz3 hHR2 he V7 hn7 hr7
          go_wp2_with (go_at_call 6; ((with_reducible refine (LV.out _).mono ?_); rintro e w8 ⟨rfl, hb8⟩))
          go_ret
          exact ⟨rfl, W7.trans (hb8.mono W7.size)⟩
      · subst h2
        have g0 : (bs Bt).toList.isEmpty = false := by
          rw [bs_tl]
          cases hq : Bt with
          | nil => exact absurd hq h
          | cons _ _ => rfl
        clear h HSM HK
        go_wp2_with fail
        refine (NS.out _).mono ?_
        rintro e w6 ⟨⟨q, rfl, hq6, hr6⟩, hb6⟩
        have W6 := W4.trans (hb6.mono W4.size)
        have hqB : w.heap.size ≤ q := Nat.le_trans W4.size hq6
        clear hb6 hq6
        go_wp2_with fail
        refine (HR2.out _ _ hr6).mono ?_
        rintro e w7 ⟨A2, c2, rfl, hn7, hc7, hr7, hg7⟩
        have W7 := of_row W6 hg7 hqB (Nat.le_refl _)
        have V7 := Blk.new w7 24 #[.slice A2 ns2.length c2, .int .i64 cu2]
        replace W7 := W7.alloc W7.size (.cells #[.slice A2 ns2.length c2, .int .i64 cu2] 24)
        replace hn7 := hn7.below (al (Below.refl _ w7) (.cells #[.slice A2 ns2.length c2, .int .i64 cu2] 24))
        replace hr7 := hr7.below (World.grownBy_alloc w7 (.cells #[.slice A2 ns2.length c2, .int .i64 cu2] 24) none)
        clear hr6 hg7 W6 HR2 NS
        by_cases he : er2 = 0
        · subst he
          obtain ⟨hone, hRt⟩ := rdTree_once hHR2.out
          have hbd := full_bounds (rdTree_full hHR2.out)
          have hss : s.size = (treeB ns2 cu2).length + lf2.length := by rw [← data_len, hone, List.length_append]
          have hex : s.extract 0 (treeB ns2 cu2).length = bs (treeB ns2 cu2) := by
            rw [Lib.extract_eq, hone, List.drop_zero, Nat.sub_zero, List.take_left]
            rfl
          have R1 := Lib.hid (fun (u : World) (h : Nds u A2 ns2) => trunk_Bytes (cur := cu2) h hc7 (fun x hx => (hbd x hx).1))
          have R2 := Lib.hid (fun (u : World) (h : Nds u A2 ns2) => tree_Right_any (cur := cu2) h hc7)
          rw [decide_eq_true hRt] at R2
          have R3 := Lib.hid (fun (u : World) (h : Nds u A2 ns2) => trunk_Size (cur := cu2) h hc7 (fun x hx => (hbd x hx).1))
          have R4 : Hid (∀ (u : World), Nds u A2 ns2 → Pow u.heap.size u → Calls Tryd.prog 11 #[.agg #[.slice A2 ns2.length c2, .int .i64 cu2]] u fun e w' => ∃ (B : Option Addr) (d : Nat), e = .returned (.slice B ns2.length d) ∧ Below u.heap.size u w') := fun u h hpw => by
            refine (trunk_Draw (cur := cu2) hpw h hc7 (fun x hx => (hbd x hx).2)).mono ?_
            rintro e w' ⟨B, d, rfl, _, _, hb⟩
            refine ⟨B, d, ?_, hb⟩
            have : (drawB ns2 cu2).length = ns2.length := by unfold drawB; rw [if_pos hRt, linesB_length]
            rw [this]
          have LF := Lib.hid (rd_left hr7)
          have hzz : (bs (treeB ns2 cu2)).size = (treeB ns2 cu2).length := bs_size _
          generalize (treeB ns2 cu2).length = m at *
          generalize bs (treeB ns2 cu2) = T2 at *
          have hms : m ≤ s.size := by omega
          have hms2 : (m : Int) ≤ (s.size : Int) := by omega
          have hm0 : (0 : Int) ≤ (m : Int) := by omega
          have hwr : IntKind.i64.wrap ((s.size : Int) - (lf2.length : Int)) = (m : Int) := by
            have : (s.size : Int) - (lf2.length : Int) = (m : Int) := by omega
            rw [this]
            exact IntWalk.i64_in _ (by omega)
          have hsub : (s.size : Int) - (lf2.length : Int) = (m : Int) := by omega
          have HSS := Lib.hid hss
          clear hss hone hbd hzz hRt hr7 hHR2
          have g1 : ((0 : Int) != 0) = false := rfl
          go_wp2_with (go_at_call 16; ((with_reducible refine LF.out.mono ?_); rintro e w8 ⟨rfl, rfl⟩))
          generalize w7.alloc (.cells #[.slice A2 ns2.length c2, .int .i64 cu2] 24) = W8 at *
          generalize w7.heap.size = vb at *
          have P : Hid (∀ u, Below W8.heap.size W8 u → u.cell? ⟨vb, 0, none⟩ = some (.slice A2 ns2.length c2) ∧ u.cell? ⟨vb, 1, none⟩ = some (.int .i64 cu2) ∧ Nds u A2 ns2 ∧ Below w.heap.size w u ∧ Pow u.heap.size u) := fun u hu => by
            have y := V7.below hu V7.lt
            have hb := W7.trans (hu.mono W7.size)
            exact ⟨y.cell 0, y.cell 1, hn7.below hu, hb, HP.out.from hb.size hb⟩
          obtain ⟨x0, x1, _⟩ := P.out W8 (Below.refl _ _)
          have V : Below W8.heap.size W8 W8.drew := (Below.refl _ _).drew
          clear V7 hn7 W7 LF
          go_region_held3 (fun u => u.cell? ⟨vb, 0, none⟩ = some (.slice A2 ns2.length c2) ∧ u.cell? ⟨vb, 1, none⟩ = some (.int .i64 cu2))
            (first | exact ⟨by assumption, by assumption⟩ | go_keep)
            (first
              | (go_at_call 7; ((with_reducible refine (R1.out _ (P.out _ V).2.2.1).mono ?_); rintro e u ⟨rfl, hb9⟩; replace V := V.trans (hb9.mono V.size); obtain ⟨x0, x1, _⟩ := P.out _ V))
              | (go_at_call 17; ((with_reducible refine (R2.out _ (P.out _ V).2.2.1).mono ?_); rintro e u ⟨rfl, hb9⟩; replace V := V.trans (hb9.mono V.size); obtain ⟨x0, x1, _⟩ := P.out _ V))
              | (go_at_call 9; ((with_reducible refine (R3.out _ (P.out _ V).2.2.1).mono ?_); rintro e u ⟨rfl, hb9⟩; replace V := V.trans (hb9.mono V.size); obtain ⟨x0, x1, _⟩ := P.out _ V))
              | (go_at_call 11; ((with_reducible refine (R4.out _ (P.out _ V).2.2.1 (P.out _ V).2.2.2.2).mono ?_); rintro e u ⟨B9, d9, rfl, hb9⟩; replace V := V.trans (hb9.mono V.size); obtain ⟨x0, x1, _⟩ := P.out _ V))
              | (go_at_call 6; ((with_reducible refine (LV.out _).mono ?_); rintro e u ⟨rfl, hb9⟩; replace V := V.trans (hb9.mono V.size); obtain ⟨x0, x1, _⟩ := P.out _ V)))
          all_goals
            go_wp2
            go_ret
            exact ⟨rfl, (P.out _ V).2.2.2.1⟩
        · obtain ⟨hz1, hz2⟩ := rdTree_no hHR2.out he
          have x0 := V7.cell 0
          have x1 := V7.cell 1
          have g1 : (er2 != 0) = true := by simp [he]
          have hz3 : ns2.length = 0 := by rw [hz1]; rfl
          rw [hz3] at x0 x1 W7 ⊢
          simp only [List.getElem?_toArray, List.getElem?_cons_zero, List.getElem?_cons_succ] at x0 x1
          clear hz1 hz2 hz3 hHR2 he V7 hn7 hr7
          go_wp2_with (go_at_call 6; ((with_reducible refine (LV.out _).mono ?_); rintro e w8 ⟨rfl, hb8⟩))
          go_ret
          exact ⟨rfl, W7.trans (hb8.mono W7.size)⟩
      · subst h2
        have g0 : (bs Bt).toList.isEmpty = false := by
          rw [bs_tl]
          cases hq : Bt with
          | nil => exact absurd hq h
          | cons _ _ => rfl
        obtain ⟨k1, k2, k3, k4, k5⟩ := HK.out h HSM.out.symm
        subst k1 k2 k3 k4
        have TS := Lib.hid (by
          have := tree_Same (c := c) (d := c1) (p := cu1) (q := cu1) (HX.out _ W4) hn4 k5
          rw [decide_eq_true (And.intro rfl rfl)] at this
          exact this)
        have HL := Lib.hid (fun u h => rd_left (Rd.below hr4 (w' := u) h))
        rw [data_len] at HL
        have v0 := U4.cell 0
        have v1 := U4.cell 1
        clear h HSM HK
        go_wp2_with (first
          | (go_at_call 15; ((with_reducible refine TS.out.mono ?_); rintro e w5 ⟨rfl, hb5⟩; have W5 := W4.trans (hb5.mono W4.size)))
          | (go_at_call 16; ((with_reducible refine (HL.out _ (gb_below none hb5)).mono ?_); rintro e w5' ⟨rfl, rfl⟩)))
        refine (NS.out _).mono ?_
        rintro e w6 ⟨⟨q, rfl, hq6, hr6⟩, hb6⟩
        have W6 := W5.trans (hb6.mono W5.size)
        have hqB : w.heap.size ≤ q := Nat.le_trans W5.size hq6
        clear hb6 hq6
        go_wp2_with fail
        refine (HR2.out _ _ hr6).mono ?_
        rintro e w7 ⟨A2, c2, rfl, hn7, hc7, hr7, hg7⟩
        have W7 := of_row W6 hg7 hqB (Nat.le_refl _)
        have V7 := Blk.new w7 24 #[.slice A2 ns2.length c2, .int .i64 cu2]
        replace W7 := W7.alloc W7.size (.cells #[.slice A2 ns2.length c2, .int .i64 cu2] 24)
        replace hn7 := hn7.below (al (Below.refl _ w7) (.cells #[.slice A2 ns2.length c2, .int .i64 cu2] 24))
        replace hr7 := hr7.below (World.grownBy_alloc w7 (.cells #[.slice A2 ns2.length c2, .int .i64 cu2] 24) none)
        clear hr6 hg7 W6 HR2 NS
        by_cases he : er2 = 0
        · subst he
          obtain ⟨hone, hRt⟩ := rdTree_once hHR2.out
          have hbd := full_bounds (rdTree_full hHR2.out)
          have hss : s.size = (treeB ns2 cu2).length + lf2.length := by rw [← data_len, hone, List.length_append]
          have hex : s.extract 0 (treeB ns2 cu2).length = bs (treeB ns2 cu2) := by
            rw [Lib.extract_eq, hone, List.drop_zero, Nat.sub_zero, List.take_left]
            rfl
          have R1 := Lib.hid (fun (u : World) (h : Nds u A2 ns2) => trunk_Bytes (cur := cu2) h hc7 (fun x hx => (hbd x hx).1))
          have R2 := Lib.hid (fun (u : World) (h : Nds u A2 ns2) => tree_Right_any (cur := cu2) h hc7)
          rw [decide_eq_true hRt] at R2
          have R3 := Lib.hid (fun (u : World) (h : Nds u A2 ns2) => trunk_Size (cur := cu2) h hc7 (fun x hx => (hbd x hx).1))
          have R4 : Hid (∀ (u : World), Nds u A2 ns2 → Pow u.heap.size u → Calls Tryd.prog 11 #[.agg #[.slice A2 ns2.length c2, .int .i64 cu2]] u fun e w' => ∃ (B : Option Addr) (d : Nat), e = .returned (.slice B ns2.length d) ∧ Below u.heap.size u w') := fun u h hpw => by
            refine (trunk_Draw (cur := cu2) hpw h hc7 (fun x hx => (hbd x hx).2)).mono ?_
            rintro e w' ⟨B, d, rfl, _, _, hb⟩
            refine ⟨B, d, ?_, hb⟩
            have : (drawB ns2 cu2).length = ns2.length := by unfold drawB; rw [if_pos hRt, linesB_length]
            rw [this]
          have LF := Lib.hid (rd_left hr7)
          have hzz : (bs (treeB ns2 cu2)).size = (treeB ns2 cu2).length := bs_size _
          generalize (treeB ns2 cu2).length = m at *
          generalize bs (treeB ns2 cu2) = T2 at *
          have hms : m ≤ s.size := by omega
          have hms2 : (m : Int) ≤ (s.size : Int) := by omega
          have hm0 : (0 : Int) ≤ (m : Int) := by omega
          have hwr : IntKind.i64.wrap ((s.size : Int) - (lf2.length : Int)) = (m : Int) := by
            have : (s.size : Int) - (lf2.length : Int) = (m : Int) := by omega
            rw [this]
            exact IntWalk.i64_in _ (by omega)
          have hsub : (s.size : Int) - (lf2.length : Int) = (m : Int) := by omega
          have HSS := Lib.hid hss
          clear hss hone hbd hzz hRt hr7 hHR2
          have g1 : ((0 : Int) != 0) = false := rfl
          go_wp2_with (go_at_call 16; ((with_reducible refine LF.out.mono ?_); rintro e w8 ⟨rfl, rfl⟩))
          generalize w7.alloc (.cells #[.slice A2 ns2.length c2, .int .i64 cu2] 24) = W8 at *
          generalize w7.heap.size = vb at *
          have P : Hid (∀ u, Below W8.heap.size W8 u → u.cell? ⟨vb, 0, none⟩ = some (.slice A2 ns2.length c2) ∧ u.cell? ⟨vb, 1, none⟩ = some (.int .i64 cu2) ∧ Nds u A2 ns2 ∧ Below w.heap.size w u ∧ Pow u.heap.size u) := fun u hu => by
            have y := V7.below hu V7.lt
            have hb := W7.trans (hu.mono W7.size)
            exact ⟨y.cell 0, y.cell 1, hn7.below hu, hb, HP.out.from hb.size hb⟩
          obtain ⟨x0, x1, _⟩ := P.out W8 (Below.refl _ _)
          have V : Below W8.heap.size W8 W8.drew := (Below.refl _ _).drew
          clear V7 hn7 W7 LF
          go_region_held3 (fun u => u.cell? ⟨vb, 0, none⟩ = some (.slice A2 ns2.length c2) ∧ u.cell? ⟨vb, 1, none⟩ = some (.int .i64 cu2))
            (first | exact ⟨by assumption, by assumption⟩ | go_keep)
            (first
              | (go_at_call 7; ((with_reducible refine (R1.out _ (P.out _ V).2.2.1).mono ?_); rintro e u ⟨rfl, hb9⟩; replace V := V.trans (hb9.mono V.size); obtain ⟨x0, x1, _⟩ := P.out _ V))
              | (go_at_call 17; ((with_reducible refine (R2.out _ (P.out _ V).2.2.1).mono ?_); rintro e u ⟨rfl, hb9⟩; replace V := V.trans (hb9.mono V.size); obtain ⟨x0, x1, _⟩ := P.out _ V))
              | (go_at_call 9; ((with_reducible refine (R3.out _ (P.out _ V).2.2.1).mono ?_); rintro e u ⟨rfl, hb9⟩; replace V := V.trans (hb9.mono V.size); obtain ⟨x0, x1, _⟩ := P.out _ V))
              | (go_at_call 11; ((with_reducible refine (R4.out _ (P.out _ V).2.2.1 (P.out _ V).2.2.2.2).mono ?_); rintro e u ⟨B9, d9, rfl, hb9⟩; replace V := V.trans (hb9.mono V.size); obtain ⟨x0, x1, _⟩ := P.out _ V))
              | (go_at_call 6; ((with_reducible refine (LV.out _).mono ?_); rintro e u ⟨rfl, hb9⟩; replace V := V.trans (hb9.mono V.size); obtain ⟨x0, x1, _⟩ := P.out _ V)))
          all_goals
            go_wp2
            go_ret
            exact ⟨rfl, (P.out _ V).2.2.2.1⟩
        · obtain ⟨hz1, hz2⟩ := rdTree_no hHR2.out he
          have x0 := V7.cell 0
          have x1 := V7.cell 1
          have g1 : (er2 != 0) = true := by simp [he]
          have hz3 : ns2.length = 0 := by rw [hz1]; rfl
          rw [hz3] at x0 x1 W7 ⊢
          simp only [List.getElem?_toArray, List.getElem?_cons_zero, List.getElem?_cons_succ] at x0 x1
          clear hz1 hz2 hz3 hHR2 he V7 hn7 hr7
          go_wp2_with (go_at_call 6; ((with_reducible refine (LV.out _).mono ?_); rintro e w8 ⟨rfl, hb8⟩))
          go_ret
          exact ⟨rfl, W7.trans (hb8.mono W7.size)⟩
section
open Go.ChangeShapes Go.WideShapes Go.ChangeAt
open Go.ChangeMaps (open_string)
set_option maxRecDepth 100000 in
theorem trunkBack_contract (H : Type) (enc : TypeId × Value → H) (W : World) (base : Nat) (args : Array Value) (ds gs : List (DataW H)) (before : List MemPlace)
    (hval : ∀ (j : Nat) t v, Tryd.f4.params[j]? = some t → args[j]? = some v → Value.okWide Tryd.prog W .any base t v)
    (hW : DataW.Whole enc Tryd.prog Tryd.f4.params.toList Rows.trunkBackSpec.vars false W args.toList ds gs before)
    (hsz : (DataW.weightsEach Tryd.prog (Tryd.f4.params.toList ++ Rows.trunkBackSpec.plain.varTypes Tryd.prog) (ds ++ gs)).all (· ≤ reachBytes) = true)
    (hp : Pow W.heap.size W) :
    Calls Tryd.prog 4 args W fun e W' => ∃ v, e = .returned v ∧ Rows.trunkBackSpec.post enc Tryd.prog Tryd.f4 false true false false W args v W' := by
  have hW' := hW
  obtain ⟨p, q, hA0, hV, rfl, hfz, hnd⟩ := hW
  have hA : DataW.TrodAll enc Tryd.prog W 0 (fun _ => true) true Tryd.f4.params.toList args.toList ds p := hA0
  rw [Tryd.params4] at hA hval hsz
  obtain ⟨v0, vs0, d0, ds0, p0, q0, hargs, rfl, rfl, h0, r0⟩ := trodAll_cons hA
  obtain ⟨v1, vs1, d1, ds1, p1, q1, rfl, rfl, rfl, h1, r1⟩ := trodAll_cons r0
  obtain ⟨rfl, rfl, rfl⟩ := trodAll_nil r1
  obtain rfl : args = #[v0, v1] := by cases args; simp_all
  obtain ⟨rfl, rfl⟩ := trodVars_none hV
  have hlt0 : ∀ x ∈ p0, x.block < W.heap.size := fun x hx => by simpa using hW'.lt x (by simp [hx])
  obtain ⟨A0, c0, xs0, cur0, rfl, hx0, hc0, hm0, wc0, hd0⟩ := open_tree_wf (hval 0 24 v0 rfl rfl) h0 hlt0
  have hwf0 : ∀ k ∈ xs0, NdWf k := fun k hk => (hd0 k hk).2
  have he0 : ∀ k ∈ xs0, k.old.size ≤ 140737488351232 ∧ k.new.size ≤ 140737488351232 := fun k hk2 => by
    obtain ⟨e, sp, z, y0, y1, y2, y3, y4, rfl, hin⟩ := (hd0 k hk2).1
    rw [← data_len, ← data_len]
    exact sized_tree hsz (j := 0) rfl rfl hin
  obtain ⟨s1, rfl, rfl, rfl, hmax1⟩ := open_string Tryd.underlying9 (hval 1 9 v1 rfl rfl) h1
  have hs1 : s1.size ≤ 140737488351232 := by rw [← data_len]; exact sized_string hsz (j := 1) (t := 9) rfl rfl
  have walk : Calls Tryd.prog 4 #[.agg #[.slice A0 xs0.length c0, .int .i64 cur0], .string s1] W fun e w' => e = .returned (.bool true) ∧ Below W.heap.size W w' := trunkBack_walk s1 hp hx0 hc0 hm0 hwf0 hs1
  refine walk.mono fun e W' ⟨he, hb⟩ => ?_
  subst he
  exact ⟨_, rfl, law_post rfl rfl (by rw [Tryd.params4]; decide +kernel) ⟨rfl, rfl, rfl⟩ hW' hb⟩
theorem trunkBack_reads (os : Os) {H : Type} (enc : TypeId × Value → H) : ∃ places, DataW.whole enc Tryd.prog ((World.laidAll Tryd.prog os Rows.trunkBackRow.laid).forCall (fun _ _ => 0) ⟨#[], #[.agg #[.slice none 0 0, .int .i64 0], .string .empty], []⟩).memory Tryd.f4.params.toList Rows.trunkBackSpec.vars false #[.agg #[.slice none 0 0, .int .i64 0], .string .empty].toList 8 = some ([.agg [.nil, .lit (.int .i64 0)], .lit (.string [])], [], places) :=
  ⟨[], by kernel_rfl⟩
set_option maxRecDepth 100000 in
theorem trunkBack_lifted (os : Os) (started : os.Started) (H : Type) (enc : TypeId × Value → H) (F : Stop.Interp) :
    ReturnsInHanded {} Tryd.checked os 4 .any ((OpenSpec.ofChange Rows.trunkBackSpec).preRow enc Tryd.prog Tryd.f4 Rows.trunkBackRow.domain false Rows.trunkBackRow.laid) (((OpenSpec.ofChange Rows.trunkBackSpec).at F).post enc Tryd.prog Tryd.f4 false true false false) := by
  obtain ⟨places, hx⟩ := trunkBack_reads os enc
  refine returnsInHanded_of_row (C := Tryd.checked) (s := OpenSpec.ofChange Rows.trunkBackSpec) own_knob started (by kernel_rfl) Tryd.func4
    (witness_row_laid (enc := enc) (C := Tryd.checked) false (World.laidAll Tryd.prog os Rows.trunkBackRow.laid) #[.agg #[.slice none 0 0, .int .i64 0], .string .empty] (World.laidAll_os _ _ _) (World.shaped_of_ZipB (by kernel_rfl) (by kernel_rfl)) (by kernel_rfl)
      (OpenSpec.preRow_of_cond 8 hx (by kernel_rfl) (fun k hk => by cases hk) (by kernel_rfl) (by rw [MakeChecks.laidMetH_plain _ _ _ (by kernel_rfl)]; exact laidMet_laidAll _ (by kernel_rfl) (by kernel_rfl)))) ?_
  intro W base args ds gs before hval hW _ hcond hsz hL _ _
  rw [MakeChecks.laidMetH_plain _ _ _ (by kernel_rfl)] at hL
  exact trunkBack_contract H enc W base args ds gs before hval hW hsz (pow_of_laid hL)
theorem trunkBack_row : Rows.TrunkBackSaid :=
  OpenClaim.holds_of_cond 4 Tryd.f4 rfl rfl rfl rfl rfl rfl rfl ⟨rfl, rfl, rfl, rfl, rfl⟩ rfl rfl rfl rfl rfl (by kernel_rfl) Tryd.func4 (by kernel_rfl)
    (of_decide_eq_true (by kernel_rfl)) (by unfold Func.isWrapper; first | (rw [if_pos (by decide +kernel)]; kernel_rfl) | (rw [if_neg (by decide +kernel)]; exact ⟨rfl, rfl⟩))
    (fun os started H enc _ F => by rw [OpenClaim.pre_eq_preRow]; exact trunkBack_lifted os started H enc F)
theorem trunkBack_holds : Rows.TrunkBackCardSaid :=
  Claim7.holds_tied_plain_at .later [] _ _ _ _ trunkBack_row (fun _ h => by cases h) (by kernel_rfl) (fun _ h => by cases h) trunkBack_row_tie rfl ⟨rfl, rfl⟩ (by kernel_rfl) rfl
    (fun f fn hf hfn => by
      obtain rfl : f = 4 := Option.some.inj ((show Tryd.prog.funcNamed "calamus/calamuslaw12.TrunkBack" = some 4 by kernel_rfl).symm.trans hf) |>.symm
      obtain rfl : fn = Tryd.f4 := (Option.some.inj (Tryd.func4.symm.trans hfn)).symm
      exact ⟨by kernel_rfl, fun j t ht => by
        rw [Tryd.params4] at ht
        have hm := Array.mem_of_getElem? ht
        have hall : (#[24, 9].toList.all fun u => !Tryd.prog.wantsStandIn u) = true := by kernel_rfl
        exact (show Tryd.prog.wantsStandIn t = false by simpa using List.all_eq_true.1 hall t (by simpa using hm))⟩)
    (by kernel_rfl)
end
end Go.Proofs.YtchmiigjiojiaaaDoor
