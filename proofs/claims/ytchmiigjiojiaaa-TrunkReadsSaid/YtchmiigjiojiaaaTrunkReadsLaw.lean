/-
  The law TrunkReads: which tree any bytes are, and what is left, is as the document tells it, or there is its error.
-/
import Derived.Test.YtchmiigjiojiaaaTrunkNil
import Derived.Test.YtchmiigjiojiaaaTrunkRefRead
import Derived.Test.YtchmiigjiojiaaaTrunkLives
import Derived.Test.YtchmiigjiojiaaaNewReader
import Derived.Test.YtchmiigjiojiaaaBesides
import Derived.Test.YtchmiigjiojiaaaTreeOpen
import Derived.SizedLaws
import Derived.Deep.RegionHeld3
namespace Go.Proofs.Ytchmiigjiojiaaa
open Go.RowKit
open Tre Trk
/-- Nodes lie in no block of few cells. -/
theorem nds_apart {w w' : World} {A : Option Addr} {l : List Nd} {g : Nat} {t : TypeId} {cs : Array Value} (h : Nds w A l) (hB : Blk w g t cs) (hs : cs.size ≤ 6) (hg : w.grownBy w' (some g)) : Nds w' A l := by
  rcases Nat.eq_zero_or_pos l.length with h0 | h0
  · exact fun h1 => absurd h1 (by omega)
  · refine h.grown hg (fun ad e h1 => ?_)
    obtain ⟨b, off, e2, _, hc⟩ := h h0
    have c6 := (hc 0 _ (List.getElem?_eq_getElem h0)).2.2.2.2.2.2
    rw [e] at e2
    injection e2 with e2
    subst e2
    injection h1 with h1
    simp only at h1
    subst h1
    rw [hB.cell] at c6
    rw [Array.getElem?_eq_none (by omega)] at c6
    cases c6
theorem same_trees {A B : Option Addr} {c d : Nat} {l : List Nd} {p : Int} {w : World} (hx : Nds w A l) (hy : Nds w B l) (hl : l.length ≤ 2000) :
    Calls Try.prog 7 #[.agg #[.slice A l.length c, .int .i64 p], .agg #[.slice B l.length d, .int .i64 p]] w fun e w' => e = .returned (.bool true) ∧ Below w.heap.size w w' := by
  have := ref11_Same (c := c) (d := d) (p := p) (q := p) hx hy hl
  rw [decide_eq_true (And.intro rfl rfl)] at this
  exact this
set_option maxHeartbeats 4000000 in
set_option maxRecDepth 100000 in
theorem trunkReads_walk (s : ByteArray) {w : World} (hs : s.size ≤ 140737488351232) :
    Calls Try.prog 3 #[.string s] w fun e w' => e = .returned (.bool true) ∧ Below w.heap.size w w' := by
  have hm : s.size ≤ maxLen := by unfold maxLen; omega
  obtain ⟨ns, cur, er, l3, e3, hR⟩ : ∃ ns cur er l3 e3, rdTree s.data.toList 0 = ((ns, cur, er), l3, e3) := ⟨_, _, _, _, _, rfl⟩
  have hfew := rdTree_few hR
  have HR1 := Lib.hid (fun (u : World) (p : Nat) (h : Rd p s.data.toList 0 u) => trunk_Read h)
  have HR2 := Lib.hid (fun (u : World) (q : Nat) (h : Rq q s.data.toList 0 u) => ref12_Read h)
  rw [hR] at HR1 HR2
  clear hR
  go_enter Try.func3, Try.ntmps3
  go_wp2_with fail
  refine (new_reader _ _ hm).mono ?_
  rintro e w1 ⟨⟨p, rfl, hp, hr⟩, hW1⟩
  have hr2 := hr.below (World.grownBy_alloc w1 (.cells #[.string s, .int .i64 0] 26) none)
  have hq2 : Rq w1.heap.size s.data.toList 0 (w1.alloc (.cells #[.string s, .int .i64 0] 26)) := ⟨Blk.new w1 26 #[.string s, .int .i64 0], by rw [data_len]; exact hm, by simp⟩
  have hW2 : Below w.heap.size w (w1.alloc (.cells #[.string s, .int .i64 0] 26)) := hW1.alloc hW1.size _
  have hg : w.heap.size ≤ w1.heap.size := hW1.size
  clear hr hW1 hm
  go_wp2_with fail
  generalize w1.alloc (.cells #[.string s, .int .i64 0] 26) = w2 at *
  generalize w1.heap.size = g at *
  refine (HR1.out _ _ hr2).mono ?_
  rintro e w3 ⟨A1, c1, rfl, hn1, hc1, hr3, hg3⟩
  have hq3 := Rq.other hq2 hr2 hg3
  have hW3 := of_row hW2 hg3 hp (Nat.le_refl _)
  have B1 := Blk.new w3 29 #[.slice A1 ns.length c1, .int .i64 cur]
  have k3 := World.grownBy_alloc w3 (.cells #[.slice A1 ns.length c1, .int .i64 cur] 29) none
  replace hr3 := hr3.below k3
  replace hq3 := hq3.grown k3 (by simp)
  replace hW3 := hW3.alloc hW3.size (.cells #[.slice A1 ns.length c1, .int .i64 cur] 29)
  replace hn1 := hn1.below (al (Below.refl _ w3) (.cells #[.slice A1 ns.length c1, .int .i64 cur] 29))
  clear hr2 hq2 hW2 hg3 k3 HR1 hc1
  go_wp2_with fail
  generalize w3.alloc (.cells #[.slice A1 ns.length c1, .int .i64 cur] 29) = u3 at *
  generalize w3.heap.size = b1 at *
  refine (HR2.out _ _ hq3).mono ?_
  rintro e w4 ⟨A2, c2, rfl, hn2, hc2, hq4, hg4⟩
  have hr4 := Rd.aside hr3 hq3 hg4
  have hn4 := nds_apart hn1 hq3.self (by show 2 ≤ 6; omega) hg4
  have hW4 := of_row hW3 hg4 hg (Nat.le_refl _)
  have B1' := B1.grown hg4 (fun e => B1.ne_ hq3.self (by decide) (Option.some.inj e))
  have B2 := Blk.new w4 29 #[.slice A2 ns.length c2, .int .i64 cur]
  have k4 := World.grownBy_alloc w4 (.cells #[.slice A2 ns.length c2, .int .i64 cur] 29) none
  have a4 := al (Below.refl w4.heap.size w4) (.cells #[.slice A2 ns.length c2, .int .i64 cur] 29)
  replace hr4 := hr4.below k4
  replace hq4 := hq4.grown k4 (by simp)
  replace hW4 := hW4.alloc hW4.size (.cells #[.slice A2 ns.length c2, .int .i64 cur] 29)
  replace hn4 := hn4.below a4
  replace hn2 := hn2.below a4
  replace B1' := B1'.alloc (.cells #[.slice A2 ns.length c2, .int .i64 cur] 29)
  clear hr3 hq3 hW3 hg4 k4 a4 hn1 B1 HR2 hc2
  go_wp2_with fail
  generalize w4.alloc (.cells #[.slice A2 ns.length c2, .int .i64 cur] 29) = u4 at *
  generalize w4.heap.size = b2 at *
  refine (trunk_Read_nil _).mono ?_
  rintro e w5 ⟨rfl, hb5⟩
  have h5 := al hb5 (.cells #[.slice none 0 0, .int .i64 0] 29)
  replace hr4 := hr4.below (gb_below none h5)
  replace hq4 := hq4.grown (gb_below none h5) (by simp)
  replace hW4 := hW4.trans (h5.mono hW4.size)
  replace hn4 := hn4.below h5
  replace hn2 := hn2.below h5
  replace B1' := B1'.below h5 B1'.lt
  replace B2 := B2.below h5 B2.lt
  clear h5 hb5
  go_wp2_with fail
  generalize w5.alloc (.cells #[.slice none 0 0, .int .i64 0] 29) = W at *
  generalize w5.heap.size = b3 at *
  have P : Hid (∀ u, Below W.heap.size W u → u.cell? ⟨b1, 0, none⟩ = some (.slice A1 ns.length c1) ∧ u.cell? ⟨b1, 1, none⟩ = some (.int .i64 cur) ∧ u.cell? ⟨b2, 0, none⟩ = some (.slice A2 ns.length c2) ∧ u.cell? ⟨b2, 1, none⟩ = some (.int .i64 cur) ∧ u.cell? ⟨g, 0, none⟩ = some (.string (bs l3)) ∧ Nds u A1 ns ∧ Nds u A2 ns ∧ Rd p l3 e3 u ∧ Below w.heap.size w u) := fun u hu => by
    have x1 := B1'.below hu B1'.lt
    have x2 := B2.below hu B2.lt
    have x3 := hq4.self.below hu hq4.self.lt
    exact ⟨x1.cell 0, x1.cell 1, x2.cell 0, x2.cell 1, x3.cell 0, hn4.below hu, hn2.below hu, hr4.below (gb_below none hu), hW4.trans (hu.mono hW4.size)⟩
  clear B1' B2 hq4 hn4 hn2 hr4 hW4 hg hp
  have SM := Lib.hid (fun (u : World) (h1 : Nds u A1 ns) (h2 : Nds u A2 ns) => same_trees (c := c1) (d := c2) (p := cur) h1 h2 (by omega))
  have LF := Lib.hid (fun (u : World) (h : Rd p l3 e3 u) => rd_left h)
  have LV := Lib.hid trunk_lives
  have hsz : (bs l3).size = l3.length := bs_size l3
  obtain ⟨x0, x1, x2, x3, x4, _⟩ := P.out W (Below.refl _ _)
  have V : Below W.heap.size W W.drew := (Below.refl _ _).drew
  go_region_held3 (fun u => u.cell? ⟨b1, 0, none⟩ = some (.slice A1 ns.length c1) ∧ u.cell? ⟨b1, 1, none⟩ = some (.int .i64 cur) ∧ u.cell? ⟨b2, 0, none⟩ = some (.slice A2 ns.length c2) ∧ u.cell? ⟨b2, 1, none⟩ = some (.int .i64 cur) ∧ u.cell? ⟨g, 0, none⟩ = some (.string (bs l3)))
    (first | exact ⟨by assumption, by assumption, by assumption, by assumption, by assumption⟩ | go_keep)
    (first
      | (go_at_call 7; ((with_reducible refine (SM.out _ (P.out _ V).2.2.2.2.2.1 (P.out _ V).2.2.2.2.2.2.1).mono ?_); rintro e w6 ⟨rfl, hb6⟩; replace V := V.trans (hb6.mono V.size); obtain ⟨x0, x1, x2, x3, x4, _⟩ := P.out _ V))
      | (go_at_call 8; ((with_reducible refine (LF.out _ (P.out _ V).2.2.2.2.2.2.2.1).mono ?_); rintro e w7 ⟨rfl, rfl⟩))
      | (go_at_call 9; ((with_reducible refine (LV.out _).mono ?_); rintro e w8 ⟨rfl, hb8⟩; replace V := V.trans (hb8.mono V.size); obtain ⟨x0, x1, x2, x3, x4, _⟩ := P.out _ V)))
  all_goals
    go_wp2
    go_ret
    exact ⟨rfl, (P.out _ V).2.2.2.2.2.2.2.2⟩
section
open Go.ChangeShapes Go.WideShapes Go.ChangeAt
open Go.ChangeMaps (open_string)
set_option maxRecDepth 100000 in
theorem trunkReads_lifted (os : Os) (started : os.Started) (H : Type) (enc : TypeId × Value → H) :
    ReturnsInHanded {} Try.checked os 3 .any (Rows.trunkReadsSpec.pre6 enc Try.prog Try.f3 Rows.trunkReadsRow.domain false) (Rows.trunkReadsSpec.post enc Try.prog Try.f3 false true false false) := by
  refine returnsInHanded_of_change_sized (C := Try.checked) own_knob started (by kernel_rfl) Try.func3
    (ChangeSpec.witness6 (enc := enc) (C := Try.checked) false ⟨#[], #[.string .empty], []⟩ 8 (by kernel_rfl) (by kernel_rfl) (by kernel_rfl) (by kernel_rfl)) ?_
  intro W base args ds gs before hval0 hW _ hsz0 _
  have hsz : (DataW.weightsEach Try.prog (Try.f3.params.toList ++ Rows.trunkReadsSpec.plain.varTypes Try.prog) (ds ++ gs)).all (· ≤ reachBytes) = true := hsz0
  clear hsz0
  have hval : ∀ (j : Nat) t v, Try.f3.params[j]? = some t → args[j]? = some v → Value.okWide Try.prog W .any base t v := hval0
  have hW' := hW
  obtain ⟨p, q, hA0, hV, rfl, hfz, hnd⟩ := hW
  have hA : DataW.TrodAll enc Try.prog W 0 (fun _ => true) true Try.f3.params.toList args.toList ds p := hA0
  rw [Try.params3] at hA hval hsz
  obtain ⟨v0, vs0, d0, ds0, p0, q0, hargs, rfl, rfl, h0, r0⟩ := trodAll_cons hA
  obtain ⟨rfl, rfl, rfl⟩ := trodAll_nil r0
  obtain rfl : args = #[v0] := by cases args; simp_all
  obtain ⟨rfl, rfl⟩ := trodVars_none hV
  obtain ⟨s0, rfl, rfl, rfl, hmax0⟩ := open_string Try.underlying9 (hval 0 9 v0 rfl rfl) h0
  have hs0 : s0.size ≤ 140737488351232 := by rw [← data_len]; exact sized_string hsz (j := 0) (t := 9) rfl rfl
  refine (trunkReads_walk s0 hs0).mono fun e W' ⟨he, hb⟩ => ?_
  subst he
  exact ⟨_, rfl, law_post rfl rfl (by rw [Try.params3]; decide +kernel) ⟨rfl, rfl, rfl⟩ hW' hb⟩
theorem trunkReads_holds : Rows.TrunkReadsSaid :=
  OpenClaim.holds_of_wide 3 Try.f3 rfl rfl rfl rfl rfl rfl rfl ⟨rfl, rfl, rfl, rfl, rfl⟩ rfl rfl rfl rfl rfl (by kernel_rfl) Try.func3 (by kernel_rfl)
    (of_decide_eq_true (by kernel_rfl)) (by unfold Func.isWrapper; first | (rw [if_pos (by decide +kernel)]; kernel_rfl) | (rw [if_neg (by decide +kernel)]; exact ⟨rfl, rfl⟩))
    (fun os started H enc _ => trunkReads_lifted os started H enc)
end
end Go.Proofs.Ytchmiigjiojiaaa
