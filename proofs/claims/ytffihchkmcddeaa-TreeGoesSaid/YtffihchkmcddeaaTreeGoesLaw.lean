/-
  The law TreeGoes: the way from where one is to any node, and the tree behind it, is as the document tells it.
-/
import Derived.Test.YtffihchkmcddeaaTreeStepsLaw
import Derived.Test.YtffihchkmcddeaaTreeRefTo
namespace Go.Proofs.Ytffihchkmcddeaa
open Go.RowKit
open Tre
theorem goTo_len (l : List Nd) (cur k : Int) : (goTo l cur k).1.length ≤ l.length := by
  unfold goTo; split
  · simp
  · split
    · simp
    · simp [chosen_length]
theorem path_len (l : List Nd) (cur k : Int) : (ints (path l cur k).1).length ≤ l.length ∧ (ints (path l cur k).2.1).length ≤ l.length := by
  rw [ints_length, ints_length]
  unfold path; split
  · simp
  · split
    · simp
    · simp only [List.length_reverse]; exact ⟨apart_len _ _ _ _, apart_len _ _ _ _⟩
set_option maxHeartbeats 4000000 in
set_option maxRecDepth 100000 in
theorem treeGoes_walk (k : Int) {A : Option Addr} {c : Nat} {l : List Nd} {cur : Int} {w : World} (hx : Nds w A l) (hc : l.length ≤ c) (hs : ∀ x ∈ l, x.old.size ≤ 140737488351232 ∧ x.new.size ≤ 140737488351232) :
    Calls Try.prog 5 #[.agg #[.slice A l.length c, .int .i64 cur], .int .i64 k] w fun e w' => e = .returned (.bool true) ∧ Below w.heap.size w w' := by
  have LV := Lib.hid tree_lives
  have hW : Below w.heap.size w (w.alloc (.cells #[.slice A l.length c, .int .i64 cur] 24)) := al (Below.refl _ _) _
  have B2 := Blk.new w 24 #[.slice A l.length c, .int .i64 cur]
  by_cases hl : 150 < l.length
  · have d0 : decide ((150 : Int) < (l.length : Int)) = true := decide_eq_true (by omega)
    clear hx hc hs hl
    go_enter Try.func5, Try.ntmps5
    go_wp2_with (go_at_call 9; (with_reducible refine (LV.out _).mono ?_); rintro e w9 ⟨rfl, hb9⟩)
    go_ret
    exact ⟨rfl, hW.trans (hb9.mono hW.size)⟩
  have hl2 : l.length ≤ 2000 := by omega
  have hs2 : ∀ x ∈ l, x.old.size ≤ 140737488355327 ∧ x.new.size ≤ 140737488355327 := fun x hx => by have := hs x hx; omega
  have P1 : Hid (∀ u, Below w.heap.size w u → Calls Try.prog 27 #[.agg #[.slice A l.length c, .int .i64 cur], .int .i64 k] u (PathIs (path l cur k) u)) := fun u hu => tree_Path (hx.below hu) hc hl2
  have P2 : Hid (∀ u, Below w.heap.size w u → Calls Try.prog 28 #[.agg #[.slice A l.length c, .int .i64 cur], .int .i64 k] u (PathIs (path l cur k) u)) := fun u hu => ref11_Path (hx.below hu) hl2
  have T1 : Hid (∀ u, Below w.heap.size w u → Calls Try.prog 29 #[.agg #[.slice A l.length c, .int .i64 cur], .int .i64 k] u (TreeErr (goTo l cur k) u)) := fun u hu => tree_To (hx.below hu) hc hl2 hs2
  have T2 : Hid (∀ u, Below w.heap.size w u → Calls Try.prog 30 #[.agg #[.slice A l.length c, .int .i64 cur], .int .i64 k] u (TreeErr (goTo l cur k) u)) := fun u hu => ref11_To (hx.below hu) hl2
  have tl := Nat.le_trans (goTo_len l cur k) hl2
  have pl := path_len l cur k
  unfold PathIs at P1 P2
  generalize goTo l cur k = r1 at *
  generalize ints (path l cur k).1 = xs at *
  generalize ints (path l cur k).2.1 = ys at *
  generalize (path l cur k).2.2 = n2 at *
  obtain ⟨l1, p1, n1⟩ := r1
  have S1 := Lib.hid (fun (u : World) (A B : Option Addr) (c d : Nat) (h1 : Nds u A l1) (h2 : Nds u B l1) => same11_ok (c := c) (d := d) (p := p1) h1 h2 tl)
  have XS := Lib.hid (fun (u : World) (A B : Option Addr) (c d : Nat) (h1 : Ints u A xs) (h2 : Ints u B xs) => same_ints (c := c) (d := d) h1 h2 (by omega))
  have YS := Lib.hid (fun (u : World) (A B : Option Addr) (c d : Nat) (h1 : Ints u A ys) (h2 : Ints u B ys) => same_ints (c := c) (d := d) h1 h2 (by omega))
  have d0 : decide ((150 : Int) < (l.length : Int)) = false := decide_eq_false (by omega)
  clear hx hc hs hs2 hl hl2 tl pl
  go_enter Try.func5, Try.ntmps5
  go_wp2_with (first
    | (go_at_call 27; (with_reducible refine (P1.out _ hW).mono ?_); rintro e w1 ⟨A1, A2, c1, c2, rfl, hx1, hy1, hb1⟩; replace B2 := B2.below hb1 B2.lt; replace hW := hW.trans (hb1.mono hW.size); have t0 := B2.cell 0; have t1 := B2.cell 1)
    | (go_at_call 28; (with_reducible refine (P2.out _ hW).mono ?_); rintro e w2 ⟨A3, A4, c3, c4, rfl, hx2, hy2, hb2⟩; replace B2 := B2.below hb2 B2.lt; replace hW := hW.trans (hb2.mono hW.size); replace hx1 := hx1.grown (gb_below none hb2) (by simp); replace hy1 := hy1.grown (gb_below none hb2) (by simp); have t0 := B2.cell 0; have t1 := B2.cell 1)
    | (go_at_call 29; (with_reducible refine (T1.out _ hW).mono ?_); rintro e w3 ⟨v, rfl, A5, c5, rfl, hm5, _, hb3⟩; have hb3' := al hb3 (.cells #[.slice A5 l1.length c5, .int .i64 p1] 24); replace B2 := B2.below hb3' B2.lt; replace hW := hW.trans (hb3'.mono hW.size); replace hx1 := hx1.grown (gb_below none hb3') (by simp); replace hy1 := hy1.grown (gb_below none hb3') (by simp); replace hx2 := hx2.grown (gb_below none hb3') (by simp); replace hy2 := hy2.grown (gb_below none hb3') (by simp); replace hm5 := hm5.below (al (Below.refl _ w3) (.cells #[.slice A5 l1.length c5, .int .i64 p1] 24)); have B11 := Blk.new w3 24 #[.slice A5 l1.length c5, .int .i64 p1]; have t0 := B2.cell 0; have t1 := B2.cell 1)
    | (go_at_call 30; (with_reducible refine (T2.out _ hW).mono ?_); rintro e w4 ⟨v, rfl, A6, c6, rfl, hm6, _, hb4⟩; have hb4' := al hb4 (.cells #[.slice A6 l1.length c6, .int .i64 p1] 24); replace B11 := B11.below hb4' B11.lt; replace hW := hW.trans (hb4'.mono hW.size); replace hx1 := hx1.grown (gb_below none hb4') (by simp); replace hy1 := hy1.grown (gb_below none hb4') (by simp); replace hx2 := hx2.grown (gb_below none hb4') (by simp); replace hy2 := hy2.grown (gb_below none hb4') (by simp); replace hm5 := hm5.below hb4'; replace hm6 := hm6.below (al (Below.refl _ w4) (.cells #[.slice A6 l1.length c6, .int .i64 p1] 24)); have B13 := Blk.new w4 24 #[.slice A6 l1.length c6, .int .i64 p1])
    | (go_at_call 22; (with_reducible refine (XS.out _ _ _ _ _ hx1 hx2).mono ?_); rintro e w5 ⟨rfl, hb5⟩; replace B11 := B11.below hb5 B11.lt; replace B13 := B13.below hb5 B13.lt; replace hW := hW.trans (hb5.mono hW.size); replace hy1 := hy1.grown (gb_below none hb5) (by simp); replace hy2 := hy2.grown (gb_below none hb5) (by simp); replace hm5 := hm5.below hb5; replace hm6 := hm6.below hb5)
    | (go_at_call 22; (with_reducible refine (YS.out _ _ _ _ _ hy1 hy2).mono ?_); rintro e w6 ⟨rfl, hb6⟩; replace B11 := B11.below hb6 B11.lt; replace B13 := B13.below hb6 B13.lt; replace hW := hW.trans (hb6.mono hW.size); replace hm5 := hm5.below hb6; replace hm6 := hm6.below hb6; have a0 := B11.cell 0; have a1 := B11.cell 1; have b0 := B13.cell 0; have b1 := B13.cell 1)
    | (go_at_call 14; (with_reducible refine (S1.out _ _ _ _ _ hm5 hm6).mono ?_); rintro e w7 ⟨rfl, hb7⟩; replace hW := hW.trans (hb7.mono hW.size))
    | (go_at_call 9; (with_reducible refine (LV.out _).mono ?_); rintro e w8 ⟨rfl, hb8⟩))
  go_ret
  exact ⟨rfl, hW.trans (hb8.mono hW.size)⟩
section
open Go.ChangeShapes Go.WideShapes Go.ChangeAt
open Go.ChangeMaps (open_string)
set_option maxRecDepth 100000 in
theorem treeGoes_lifted (os : Os) (started : os.Started) (H : Type) (enc : TypeId × Value → H) :
    ReturnsInHanded {} Try.checked os 5 .any (Rows.treeGoesSpec.pre6 enc Try.prog Try.f5 Rows.treeGoesRow.domain false) (Rows.treeGoesSpec.post enc Try.prog Try.f5 false true false false) := by
  refine returnsInHanded_of_change_sized (C := Try.checked) own_knob started (by kernel_rfl) Try.func5
    (ChangeSpec.witness6 (enc := enc) (C := Try.checked) false ⟨#[], #[.agg #[.slice none 0 0, .int .i64 0], .int .i64 0], []⟩ 8 (by kernel_rfl) (by kernel_rfl) (by kernel_rfl) (by kernel_rfl)) ?_
  intro W base args ds gs before hval0 hW _ hsz0 _
  have hsz : (DataW.weightsEach Try.prog (Try.f5.params.toList ++ Rows.treeGoesSpec.plain.varTypes Try.prog) (ds ++ gs)).all (· ≤ reachBytes) = true := hsz0
  clear hsz0
  have hval : ∀ (j : Nat) t v, Try.f5.params[j]? = some t → args[j]? = some v → Value.okWide Try.prog W .any base t v := hval0
  have hW' := hW
  obtain ⟨p, q, hA0, hV, rfl, hfz, hnd⟩ := hW
  have hA : DataW.TrodAll enc Try.prog W 0 (fun _ => true) true Try.f5.params.toList args.toList ds p := hA0
  rw [Try.params5] at hA hval hsz
  obtain ⟨v0, vs0, d0, ds0, p0, q0, hargs, rfl, rfl, h0, r0⟩ := trodAll_cons hA
  obtain ⟨v1, vs1, d1, ds1, p1, q1, rfl, rfl, rfl, h1, r1⟩ := trodAll_cons r0
  obtain ⟨rfl, rfl, rfl⟩ := trodAll_nil r1
  obtain rfl : args = #[v0, v1] := by cases args; simp_all
  obtain ⟨rfl, rfl⟩ := trodVars_none hV
  have hlt0 : ∀ x ∈ p0, x.block < W.heap.size := fun x hx => by simpa using hW'.lt x (by simp [hx])
  obtain ⟨A0, c0, xs0, cur0, rfl, hx0, hc0, hm0, wc0, hd0⟩ := open_tree (hval 0 24 v0 rfl rfl) h0 hlt0
  have he0 : ∀ k ∈ xs0, k.old.size ≤ 140737488351232 ∧ k.new.size ≤ 140737488351232 := fun k hk => by
    obtain ⟨e, sp, z, y0, y1, y2, y3, y4, rfl, hin⟩ := hd0 k hk
    rw [← data_len, ← data_len]
    exact sized_tree hsz (j := 0) rfl rfl hin
  obtain ⟨n1, rfl, rfl, rfl, wn1⟩ := open_int Try.underlying3 (hval 1 3 v1 rfl rfl) h1
  refine (treeGoes_walk n1 hx0 hc0 he0).mono fun e W' ⟨he, hb⟩ => ?_
  subst he
  exact ⟨_, rfl, law_post rfl rfl (by rw [Try.params5]; decide +kernel) ⟨rfl, rfl, rfl⟩ hW' hb⟩
theorem treeGoes_holds : Rows.TreeGoesSaid :=
  OpenClaim.holds_of_wide 5 Try.f5 rfl rfl rfl rfl rfl rfl rfl ⟨rfl, rfl, rfl, rfl, rfl⟩ rfl rfl rfl rfl rfl (by kernel_rfl) Try.func5 (by kernel_rfl)
    (of_decide_eq_true (by kernel_rfl)) (by unfold Func.isWrapper; first | (rw [if_pos (by decide +kernel)]; kernel_rfl) | (rw [if_neg (by decide +kernel)]; exact ⟨rfl, rfl⟩))
    (fun os started H enc _ => treeGoes_lifted os started H enc)
end
end Go.Proofs.Ytffihchkmcddeaa
