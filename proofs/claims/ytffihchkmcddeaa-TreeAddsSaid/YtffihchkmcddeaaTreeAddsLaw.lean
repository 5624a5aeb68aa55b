/-
  The law TreeAdds: whether any tree may be, and what it is with any node more, is as the document tells it; two trees are the same just as it says.
-/
import Derived.Test.YtffihchkmcddeaaTreeStepsLaw
import Derived.Test.YtffihchkmcddeaaTreeRefAdd
namespace Go.Proofs.Ytffihchkmcddeaa
open Go.RowKit
open Tre
theorem addTo_len (l : List Nd) (cur : Int) (x : Nd) : (addTo l cur x).1.length ≤ l.length + 1 := by
  unfold addTo; split
  · simp
  · split
    · simp
    · simp [added_length]
def NewIs (w : World) (e : Ending) (w' : World) : Prop := ∃ (A : Option Addr) (c : Nat), e = .returned (.agg #[.slice A 1 c, .int .i64 0]) ∧ Nds w' A [root] ∧ Below w.heap.size w w'
theorem newIs (w : World) (e : Ending) (w' : World) (h : ∃ v, e = .returned v ∧ TreeIs [root] 0 w v w') : NewIs w e w' := by
  obtain ⟨v, rfl, A, c, rfl, h1, _, h3⟩ := h
  exact ⟨A, c, rfl, h1, h3⟩
set_option maxHeartbeats 4000000 in
set_option maxRecDepth 100000 in
theorem treeAdds_walk {A B : Option Addr} {c d : Nat} {l l' : List Nd} {cur cur' at_ p q : Int} {old new : ByteArray} {w : World} (hx : Nds w A l) (hc : l.length ≤ c) (hs : ∀ x ∈ l, x.old.size ≤ 140737488351232 ∧ x.new.size ≤ 140737488351232)
    (ho : old.size ≤ 140737488351232 ∧ new.size ≤ 140737488351232) (hy : Nds w B l') :
    Calls Try.prog 3 #[.agg #[.slice A l.length c, .int .i64 cur], .agg #[.int .i64 at_, .string old, .string new], .agg #[.int .i64 p, .int .i64 q], .agg #[.slice B l'.length d, .int .i64 cur']] w fun e w' => e = .returned (.bool true) ∧ Below w.heap.size w w' := by
  have LV := Lib.hid tree_lives
  have hW : Below w.heap.size w ((((w.alloc (.cells #[.slice A l.length c, .int .i64 cur] 24)).alloc (.cells #[.int .i64 at_, .string old, .string new] 26)).alloc (.cells #[.int .i64 p, .int .i64 q] 27)).alloc (.cells #[.slice B l'.length d, .int .i64 cur'] 24)) := al (al (al (al (Below.refl _ _) _) _) _) _
  by_cases hl : 1100 < l.length ∨ 1100 < l'.length
  · have hl' : decide ((1100 : Int) < (l.length : Int)) = true ∨ (decide ((1100 : Int) < (l.length : Int)) = false ∧ decide ((1100 : Int) < (l'.length : Int)) = true) := by
      by_cases h : 1100 < l.length
      · exact .inl (decide_eq_true (by omega))
      · exact .inr ⟨decide_eq_false (by omega), decide_eq_true (by omega)⟩
    clear hx hc hs ho hy hl
    rcases hl' with d0 | ⟨d0, d1⟩
    all_goals
      go_enter Try.func3, Try.ntmps3
      go_wp2_with (go_at_call 9; (with_reducible refine (LV.out _).mono ?_); rintro e w9 ⟨rfl, hb9⟩)
      go_ret
      exact ⟨rfl, hW.trans (hb9.mono hW.size)⟩
  have hl2 : l.length ≤ 1100 := by omega
  have hl3 : l'.length ≤ 1100 := by omega
  have hs2 : ∀ x ∈ l, x.old.size ≤ 140737488355327 ∧ x.new.size ≤ 140737488355327 := fun x hx => by have := hs x hx; omega
  have A1 : Hid (∀ u, Below w.heap.size w u → Calls Try.prog 10 #[.agg #[.slice A l.length c, .int .i64 cur], .agg #[.int .i64 at_, .string old, .string new], .int .i64 p, .int .i64 q] u (TreeErr (addTo l cur ⟨cur, -1, p, q, at_, old, new⟩) u)) := fun u hu => tree_Add (hx.below hu) hc (by omega) hs2 (by omega) (by omega)
  have A2 : Hid (∀ u, Below w.heap.size w u → Calls Try.prog 11 #[.agg #[.slice A l.length c, .int .i64 cur], .agg #[.int .i64 at_, .string old, .string new], .int .i64 p, .int .i64 q] u (TreeErr (addTo l cur ⟨cur, -1, p, q, at_, old, new⟩) u)) := fun u hu => ref11_Add (hx.below hu) (by omega)
  have R1 : Hid (∀ u, Below w.heap.size w u → Calls Try.prog 12 #[.agg #[.slice A l.length c, .int .i64 cur]] u fun e w' => e = .returned (.bool (decide (Right l cur))) ∧ Below u.heap.size u w') := fun u hu => tree_Right (hx.below hu) hc (by omega)
  have R2 : Hid (∀ u, Below w.heap.size w u → Calls Try.prog 13 #[.agg #[.slice A l.length c, .int .i64 cur]] u fun e w' => e = .returned (.bool (decide (Right l cur))) ∧ Below u.heap.size u w') := fun u hu => ref11_Right (hx.below hu)
  have E1 : Hid (∀ u, Below w.heap.size w u → Calls Try.prog 15 #[.agg #[.slice A l.length c, .int .i64 cur], .agg #[.slice B l'.length d, .int .i64 cur']] u fun e w' => e = .returned (.bool (decide (cur = cur' ∧ l = l'))) ∧ Below u.heap.size u w') := fun u hu => tree_Same (hx.below hu) (hy.below hu) (by omega)
  have E2 : Hid (∀ u, Below w.heap.size w u → Calls Try.prog 14 #[.agg #[.slice A l.length c, .int .i64 cur], .agg #[.slice B l'.length d, .int .i64 cur']] u fun e w' => e = .returned (.bool (decide (cur = cur' ∧ l = l'))) ∧ Below u.heap.size u w') := fun u hu => ref11_Same (hx.below hu) (hy.below hu) (by omega)
  have E3 : Hid (∀ u, Below w.heap.size w u → Calls Try.prog 15 #[.agg #[.slice A l.length c, .int .i64 cur], .agg #[.slice A l.length c, .int .i64 cur]] u fun e w' => e = .returned (.bool true) ∧ Below u.heap.size u w') := fun u hu => by
    have := tree_Same (c := c) (d := c) (p := cur) (q := cur) (hx.below hu) (hx.below hu) (by omega)
    rw [decide_eq_true (And.intro rfl rfl)] at this
    exact this
  have N1 := Lib.hid (fun u => (tree_New u).mono (newIs u))
  have N2 := Lib.hid (fun u => (ref11_New u).mono (newIs u))
  have SN : Hid (∀ (u : World) (A B : Option Addr) (c d : Nat), Nds u A [root] → Nds u B [root] → Calls Try.prog 14 #[.agg #[.slice A 1 c, .int .i64 0], .agg #[.slice B 1 d, .int .i64 0]] u fun e w' => e = .returned (.bool true) ∧ Below u.heap.size u w') := fun u A B c d h1 h2 => same11_ok (l := [root]) h1 h2 (by decide)
  have al' := addTo_len l cur ⟨cur, -1, p, q, at_, old, new⟩
  generalize addTo l cur ⟨cur, -1, p, q, at_, old, new⟩ = r at *
  generalize decide (Right l cur) = rt at *
  generalize decide (cur = cur' ∧ l = l') = st at *
  obtain ⟨l1, p1, n1⟩ := r
  have S1 := Lib.hid (fun (u : World) (A B : Option Addr) (c d : Nat) (h1 : Nds u A l1) (h2 : Nds u B l1) => same11_ok (c := c) (d := d) (p := p1) h1 h2 (show l1.length ≤ 2000 by simp only at al'; omega))
  have d0 : decide ((1100 : Int) < (l.length : Int)) = false := decide_eq_false (by omega)
  have d1 : decide ((1100 : Int) < (l'.length : Int)) = false := decide_eq_false (by omega)
  have HB : Hid (∀ u, Below ((((w.alloc (.cells #[.slice A l.length c, .int .i64 cur] 24)).alloc (.cells #[.int .i64 at_, .string old, .string new] 26)).alloc (.cells #[.int .i64 p, .int .i64 q] 27)).alloc (.cells #[.slice B l'.length d, .int .i64 cur'] 24)).heap.size ((((w.alloc (.cells #[.slice A l.length c, .int .i64 cur] 24)).alloc (.cells #[.int .i64 at_, .string old, .string new] 26)).alloc (.cells #[.int .i64 p, .int .i64 q] 27)).alloc (.cells #[.slice B l'.length d, .int .i64 cur'] 24)) u → Blk u w.heap.size 24 #[.slice A l.length c, .int .i64 cur] ∧ Blk u (w.heap.size + 1) 26 #[.int .i64 at_, .string old, .string new] ∧ Blk u (w.heap.size + 1 + 1) 27 #[.int .i64 p, .int .i64 q] ∧ Blk u (w.heap.size + 1 + 1 + 1) 24 #[.slice B l'.length d, .int .i64 cur'] ∧ Below w.heap.size w u) := fun u hu => by
    have x0 := (((Blk.new w 24 #[.slice A l.length c, .int .i64 cur]).alloc (.cells #[.int .i64 at_, .string old, .string new] 26)).alloc (.cells #[.int .i64 p, .int .i64 q] 27)).alloc (.cells #[.slice B l'.length d, .int .i64 cur'] 24)
    have x1 := ((Blk.new (w.alloc (.cells #[.slice A l.length c, .int .i64 cur] 24)) 26 #[.int .i64 at_, .string old, .string new]).alloc (.cells #[.int .i64 p, .int .i64 q] 27)).alloc (.cells #[.slice B l'.length d, .int .i64 cur'] 24)
    have x2 := (Blk.new ((w.alloc (.cells #[.slice A l.length c, .int .i64 cur] 24)).alloc (.cells #[.int .i64 at_, .string old, .string new] 26)) 27 #[.int .i64 p, .int .i64 q]).alloc (.cells #[.slice B l'.length d, .int .i64 cur'] 24)
    have x3 := Blk.new (((w.alloc (.cells #[.slice A l.length c, .int .i64 cur] 24)).alloc (.cells #[.int .i64 at_, .string old, .string new] 26)).alloc (.cells #[.int .i64 p, .int .i64 q] 27)) 24 #[.slice B l'.length d, .int .i64 cur']
    replace x0 := x0.below hu x0.lt
    replace x1 := x1.below hu x1.lt
    replace x2 := x2.below hu x2.lt
    replace x3 := x3.below hu x3.lt
    simp only [World.size_alloc] at x1 x2 x3
    exact ⟨x0, x1, x2, x3, hW.trans (hu.mono hW.size)⟩
  have HX := Lib.hid (fun u (h : Below w.heap.size w u) => (⟨hx.below h, hy.below h⟩ : Nds u A l ∧ Nds u B l'))
  have V0 := Below.refl (((((w.alloc (.cells #[.slice A l.length c, .int .i64 cur] 24)).alloc (.cells #[.int .i64 at_, .string old, .string new] 26)).alloc (.cells #[.int .i64 p, .int .i64 q] 27)).alloc (.cells #[.slice B l'.length d, .int .i64 cur'] 24))).heap.size ((((w.alloc (.cells #[.slice A l.length c, .int .i64 cur] 24)).alloc (.cells #[.int .i64 at_, .string old, .string new] 26)).alloc (.cells #[.int .i64 p, .int .i64 q] 27)).alloc (.cells #[.slice B l'.length d, .int .i64 cur'] 24))
  clear hx hc hs hs2 ho hy hl hl2 hl3 al'
  go_enter Try.func3, Try.ntmps3
  go_wp2_with (first
    | (go_at_call 10; (with_reducible refine (A1.out _ hW).mono ?_); rintro e w1 ⟨v, rfl, A3, c3, rfl, hm3, _, hb1⟩; have V1 := al (V0.trans hb1) (.cells #[.slice A3 l1.length c3, .int .i64 p1] 24); have B9 := Blk.new w1 24 #[.slice A3 l1.length c3, .int .i64 p1]; replace hm3 := hm3.below (al (Below.refl _ w1) (.cells #[.slice A3 l1.length c3, .int .i64 p1] 24)); obtain ⟨x0, x1, x2, x3, hW1⟩ := HB.out _ V1; have a0 := x0.cell 0; have a1 := x0.cell 1; have b0 := x1.cell 0; have b1 := x1.cell 1; have b2 := x1.cell 2; have e0 := x2.cell 0; have e1 := x2.cell 1)
    | (go_at_call 11; (with_reducible refine (A2.out _ hW1).mono ?_); rintro e w2 ⟨v, rfl, A4, c4, rfl, hm4, _, hb2⟩; replace B9 := (B9.below hb2 B9.lt).alloc (.cells #[.slice A4 l1.length c4, .int .i64 p1] 24); replace hm3 := (hm3.below hb2).below (al (Below.refl _ w2) (.cells #[.slice A4 l1.length c4, .int .i64 p1] 24)); replace hm4 := hm4.below (al (Below.refl _ w2) (.cells #[.slice A4 l1.length c4, .int .i64 p1] 24)); have V2 := al (V1.trans (hb2.mono V1.size)) (.cells #[.slice A4 l1.length c4, .int .i64 p1] 24); have B11 := Blk.new w2 24 #[.slice A4 l1.length c4, .int .i64 p1]))
  clear a0 a1 b0 b1 b2 e0 e1 x0 x1 x2 x3 hW1 hb1 hb2 V1 A1 A2
  generalize w2.alloc (.cells #[.slice A4 l1.length c4, .int .i64 p1] 24) = W2 at *
  generalize w2.heap.size = q11 at *
  generalize w1.heap.size = q9 at *
  have P : Hid (∀ u, Below W2.heap.size W2 u → u.cell? ⟨w.heap.size, 0, none⟩ = some (.slice A l.length c) ∧ u.cell? ⟨w.heap.size, 1, none⟩ = some (.int .i64 cur) ∧ u.cell? ⟨w.heap.size + 1 + 1 + 1, 0, none⟩ = some (.slice B l'.length d) ∧ u.cell? ⟨w.heap.size + 1 + 1 + 1, 1, none⟩ = some (.int .i64 cur') ∧ u.cell? ⟨q9, 0, none⟩ = some (.slice A3 l1.length c3) ∧ u.cell? ⟨q9, 1, none⟩ = some (.int .i64 p1) ∧ u.cell? ⟨q11, 0, none⟩ = some (.slice A4 l1.length c4) ∧ u.cell? ⟨q11, 1, none⟩ = some (.int .i64 p1) ∧ Nds u A3 l1 ∧ Nds u A4 l1 ∧ Below w.heap.size w u) := fun u hu => by
    obtain ⟨x0, _, _, x3, hw⟩ := HB.out _ (V2.trans (hu.mono V2.size))
    have x9 := B9.below hu B9.lt
    have x11 := B11.below hu B11.lt
    exact ⟨x0.cell 0, x0.cell 1, x3.cell 0, x3.cell 1, x9.cell 0, x9.cell 1, x11.cell 0, x11.cell 1, hm3.below hu, hm4.below hu, hw⟩
  clear B9 B11 hm3 hm4 V2 V0 hW
  obtain ⟨x0, x1, x2, x3, x4, x5, x6, x7, _, _, _⟩ := P.out W2 (Below.refl _ _)
  have V : Below W2.heap.size W2 W2.drew := (Below.refl _ _).drew
  go_region_held3 (fun u => u.cell? ⟨w.heap.size, 0, none⟩ = some (.slice A l.length c) ∧ u.cell? ⟨w.heap.size, 1, none⟩ = some (.int .i64 cur) ∧ u.cell? ⟨w.heap.size + 1 + 1 + 1, 0, none⟩ = some (.slice B l'.length d) ∧ u.cell? ⟨w.heap.size + 1 + 1 + 1, 1, none⟩ = some (.int .i64 cur') ∧ u.cell? ⟨q9, 0, none⟩ = some (.slice A3 l1.length c3) ∧ u.cell? ⟨q9, 1, none⟩ = some (.int .i64 p1) ∧ u.cell? ⟨q11, 0, none⟩ = some (.slice A4 l1.length c4) ∧ u.cell? ⟨q11, 1, none⟩ = some (.int .i64 p1))
    (first | exact ⟨by assumption, by assumption, by assumption, by assumption, by assumption, by assumption, by assumption, by assumption⟩ | go_keep)
    (first
      | (go_at_call 12; (with_reducible refine (R1.out _ (P.out _ V).2.2.2.2.2.2.2.2.2.2).mono ?_); rintro e w3 ⟨rfl, hb3⟩; replace V := V.trans (hb3.mono V.size); obtain ⟨x0, x1, x2, x3, x4, x5, x6, x7, _, _, _⟩ := P.out _ V)
      | (go_at_call 13; (with_reducible refine (R2.out _ (P.out _ V).2.2.2.2.2.2.2.2.2.2).mono ?_); rintro e w4 ⟨rfl, hb4⟩; replace V := V.trans (hb4.mono V.size); obtain ⟨x0, x1, x2, x3, x4, x5, x6, x7, _, _, _⟩ := P.out _ V)
      | (go_at_call 14; (with_reducible refine (S1.out _ _ _ _ _ (P.out _ V).2.2.2.2.2.2.2.2.1 (P.out _ V).2.2.2.2.2.2.2.2.2.1).mono ?_); rintro e w5 ⟨rfl, hb5⟩; replace V := V.trans (hb5.mono V.size); obtain ⟨x0, x1, x2, x3, x4, x5, x6, x7, _, _, _⟩ := P.out _ V)
      | (go_at_call 15; (with_reducible refine (E1.out _ (P.out _ V).2.2.2.2.2.2.2.2.2.2).mono ?_); rintro e w6 ⟨rfl, hb6⟩; replace V := V.trans (hb6.mono V.size); obtain ⟨x0, x1, x2, x3, x4, x5, x6, x7, _, _, _⟩ := P.out _ V)
      | (go_at_call 14; (with_reducible refine (E2.out _ (P.out _ V).2.2.2.2.2.2.2.2.2.2).mono ?_); rintro e w7 ⟨rfl, hb7⟩; replace V := V.trans (hb7.mono V.size); obtain ⟨x0, x1, x2, x3, x4, x5, x6, x7, _, _, _⟩ := P.out _ V)
      | (go_at_call 15; (with_reducible refine (E3.out _ (P.out _ V).2.2.2.2.2.2.2.2.2.2).mono ?_); rintro e w8 ⟨rfl, hb8⟩; replace V := V.trans (hb8.mono V.size); obtain ⟨x0, x1, x2, x3, x4, x5, x6, x7, _, _, _⟩ := P.out _ V)
      | (go_at_call 16; (with_reducible refine (N1.out _).mono ?_); rintro e w9 ⟨A5, c5, rfl, hm5, hb9⟩; replace V := V.trans (hb9.mono V.size); obtain ⟨x0, x1, x2, x3, x4, x5, x6, x7, _, _, _⟩ := P.out _ V)
      | (go_at_call 17; (with_reducible refine (N2.out _).mono ?_); rintro e w10 ⟨A6, c6, rfl, hm6, hb10⟩; replace hm5 := hm5.below hb10; replace V := V.trans (hb10.mono V.size); obtain ⟨x0, x1, x2, x3, x4, x5, x6, x7, _, _, _⟩ := P.out _ V)
      | (go_at_call 14; (with_reducible refine (SN.out _ _ _ _ _ hm5 hm6).mono ?_); rintro e w11 ⟨rfl, hb11⟩; replace V := V.trans (hb11.mono V.size); obtain ⟨x0, x1, x2, x3, x4, x5, x6, x7, _, _, _⟩ := P.out _ V)
      | (go_at_call 9; (with_reducible refine (LV.out _).mono ?_); rintro e w12 ⟨rfl, hb12⟩; replace V := V.trans (hb12.mono V.size); obtain ⟨x0, x1, x2, x3, x4, x5, x6, x7, _, _, _⟩ := P.out _ V))
  all_goals
    go_wp2
    go_ret
    exact ⟨rfl, (P.out _ V).2.2.2.2.2.2.2.2.2.2⟩
section
open Go.ChangeShapes Go.WideShapes Go.ChangeAt
open Go.ChangeMaps (open_string)
set_option maxRecDepth 100000 in
theorem treeAdds_lifted (os : Os) (started : os.Started) (H : Type) (enc : TypeId × Value → H) :
    ReturnsInHanded {} Try.checked os 3 .any (Rows.treeAddsSpec.pre6 enc Try.prog Try.f3 Rows.treeAddsRow.domain false) (Rows.treeAddsSpec.post enc Try.prog Try.f3 false true false false) := by
  refine returnsInHanded_of_change_sized (C := Try.checked) own_knob started (by kernel_rfl) Try.func3
    (ChangeSpec.witness6 (enc := enc) (C := Try.checked) false ⟨#[], #[.agg #[.slice none 0 0, .int .i64 0], .agg #[.int .i64 0, .string .empty, .string .empty], .agg #[.int .i64 0, .int .i64 0], .agg #[.slice none 0 0, .int .i64 0]], []⟩ 8 (by kernel_rfl) (by kernel_rfl) (by kernel_rfl) (by kernel_rfl)) ?_
  intro W base args ds gs before hval0 hW _ hsz0 _
  have hsz : (DataW.weightsEach Try.prog (Try.f3.params.toList ++ Rows.treeAddsSpec.plain.varTypes Try.prog) (ds ++ gs)).all (· ≤ reachBytes) = true := hsz0
  clear hsz0
  have hval : ∀ (j : Nat) t v, Try.f3.params[j]? = some t → args[j]? = some v → Value.okWide Try.prog W .any base t v := hval0
  have hW' := hW
  obtain ⟨p, q, hA0, hV, rfl, hfz, hnd⟩ := hW
  have hA : DataW.TrodAll enc Try.prog W 0 (fun _ => true) true Try.f3.params.toList args.toList ds p := hA0
  rw [Try.params3] at hA hval hsz
  obtain ⟨v0, vs0, d0, ds0, p0, q0, hargs, rfl, rfl, h0, r0⟩ := trodAll_cons hA
  obtain ⟨v1, vs1, d1, ds1, p1, q1, rfl, rfl, rfl, h1, r1⟩ := trodAll_cons r0
  obtain ⟨v2, vs2, d2, ds2, p2, q2, rfl, rfl, rfl, h2, r2⟩ := trodAll_cons r1
  obtain ⟨v3, vs3, d3, ds3, p3, q3, rfl, rfl, rfl, h3, r3⟩ := trodAll_cons r2
  obtain ⟨rfl, rfl, rfl⟩ := trodAll_nil r3
  obtain rfl : args = #[v0, v1, v2, v3] := by cases args; simp_all
  obtain ⟨rfl, rfl⟩ := trodVars_none hV
  have hlt0 : ∀ x ∈ p0, x.block < W.heap.size := fun x hx => by simpa using hW'.lt x (by simp [hx])
  obtain ⟨A0, c0, xs0, cur0, rfl, hx0, hc0, hm0, wc0, hd0⟩ := open_tree (hval 0 24 v0 rfl rfl) h0 hlt0
  have he0 : ∀ k ∈ xs0, k.old.size ≤ 140737488351232 ∧ k.new.size ≤ 140737488351232 := fun k hk => by
    obtain ⟨e, sp, z, y0, y1, y2, y3, y4, rfl, hin⟩ := hd0 k hk
    rw [← data_len, ← data_len]
    exact sized_tree hsz (j := 0) rfl rfl hin
  obtain ⟨at1, old1, new1, rfl, ⟨yc1, rfl⟩, wa1⟩ := open_change (hval 1 26 v1 rfl rfl) h1
  have ho1 : old1.size ≤ 140737488351232 ∧ new1.size ≤ 140737488351232 := by
    rw [← data_len, ← data_len]
    exact sized_change hsz (j := 1) rfl rfl
  obtain ⟨m2, n2, rfl⟩ := open_two (hval 2 27 v2 rfl rfl) h2
  have hlt3 : ∀ x ∈ p3, x.block < W.heap.size := fun x hx => by simpa using hW'.lt x (by simp [hx])
  obtain ⟨A3, c3, xs3, cur3, rfl, hx3, hc3, hm3, wc3, hd3⟩ := open_tree (hval 3 24 v3 rfl rfl) h3 hlt3
  have he3 : ∀ k ∈ xs3, k.old.size ≤ 140737488351232 ∧ k.new.size ≤ 140737488351232 := fun k hk => by
    obtain ⟨e, sp, z, y0, y1, y2, y3, y4, rfl, hin⟩ := hd3 k hk
    rw [← data_len, ← data_len]
    exact sized_tree hsz (j := 3) rfl rfl hin
  refine (treeAdds_walk hx0 hc0 he0 ho1 hx3).mono fun e W' ⟨he, hb⟩ => ?_
  subst he
  exact ⟨_, rfl, law_post rfl rfl (by rw [Try.params3]; decide +kernel) ⟨rfl, rfl, rfl⟩ hW' hb⟩
theorem treeAdds_holds : Rows.TreeAddsSaid :=
  OpenClaim.holds_of_wide 3 Try.f3 rfl rfl rfl rfl rfl rfl rfl ⟨rfl, rfl, rfl, rfl, rfl⟩ rfl rfl rfl rfl rfl (by kernel_rfl) Try.func3 (by kernel_rfl)
    (of_decide_eq_true (by kernel_rfl)) (by unfold Func.isWrapper; first | (rw [if_pos (by decide +kernel)]; kernel_rfl) | (rw [if_neg (by decide +kernel)]; exact ⟨rfl, rfl⟩))
    (fun os started H enc _ => treeAdds_lifted os started H enc)
end
end Go.Proofs.Ytffihchkmcddeaa
