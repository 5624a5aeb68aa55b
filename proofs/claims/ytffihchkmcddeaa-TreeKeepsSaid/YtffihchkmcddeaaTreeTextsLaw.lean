/-
  The law TreeTexts: the text at each node of any tree is as the document tells it.
-/
import Derived.Test.YtffihchkmcddeaaTreeLives
import Derived.Test.YtffihchkmcddeaaTreeOpen
import Derived.Test.YtffihchkmcddeaaTreeRefTexts
namespace Go.Proofs.Ytffihchkmcddeaa
open Go.RowKit
open Tre
namespace Tre
/-- How many bytes the changes of the first m nodes bear. -/
def wt (l : List Nd) (m : Nat) : Nat := ((l.take m).map fun x => x.old.size + x.new.size).sum
theorem wt_zero (l : List Nd) : wt l 0 = 0 := rfl
theorem wt_succ {l : List Nd} {m : Nat} {x : Nd} (h : l[m]? = some x) : wt l (m + 1) = wt l m + (x.old.size + x.new.size) := by
  obtain ⟨hm, rfl⟩ := List.getElem?_eq_some_iff.1 h
  unfold wt
  rw [List.take_succ_eq_append_getElem hm, List.map_append, List.sum_append]
  simp
theorem sum_mem : ∀ {l : List Nat} {n : Nat}, n ∈ l → n ≤ l.sum
  | [], _, h => by simp at h
  | x :: r, n, h => by
    rw [List.sum_cons]
    rcases List.mem_cons.1 h with rfl | h
    · omega
    · have := sum_mem h; omega
theorem wt_mem {l : List Nd} {x : Nd} (h : x ∈ l) : x.old.size + x.new.size ≤ wt l l.length := by
  unfold wt
  rw [List.take_of_length_le (Nat.le_refl _)]
  exact sum_mem (List.mem_map.2 ⟨x, h, rfl⟩)
end Tre
set_option maxHeartbeats 2000000 in
set_option maxRecDepth 100000 in
theorem ref11_Alike {A B : Option Addr} {c d : Nat} {xs : List ByteArray} {w : World} (hx : Strs w A xs) (hy : Strs w B xs) (hl : xs.length ≤ 2000) :
    Calls Try.prog 33 #[.slice A xs.length c, .slice B xs.length d] w fun e w' => e = .returned (.bool true) ∧ Below w.heap.size w w' := by
  go_enter Try.func33, Try.ntmps33
  go_wp2
  go_loopw [5] (fun i wr => ∃ k : Nat, k ≤ xs.length ∧ i = .int .i64 k ∧ Below w.heap.size w wr) (fun i _ => xs.length - (intOf i).toNat)
  case atStart => exact ⟨0, Nat.zero_le _, rfl, Below.refl _ _⟩
  case round =>
    obtain ⟨k, hk, rfl, hG⟩ := hrel
    by_cases hlt : k < xs.length
    · obtain ⟨aa, rfl, h1⟩ := (hx.below hG).at_ hlt
      obtain ⟨bb, rfl, h2⟩ := (hy.below hG).at_ hlt
      clear hx hy
      generalize xs[k] = z at *
      go_wp2
      go_quiet (fail)
      go_wp2
      exact ⟨⟨k + 1, by omega, by go_num, hG.trans ((below_gb (gb_drewN _ _ none)).mono hG.size)⟩, by simp [intOf] <;> omega⟩
    · go_wp2
      go_ret
      exact ⟨rfl, hG⟩
set_option maxHeartbeats 4000000 in
set_option maxRecDepth 100000 in
theorem treeTexts_long (s : ByteArray) {A : Option Addr} {c : Nat} {l : List Nd} {cur : Int} {w : World} (hx : Nds w A l) (hs : ∀ x ∈ l, x.old.size ≤ 140737488351232 ∧ x.new.size ≤ 140737488351232) (ht : s.size ≤ 140737488351232) (hl : 60 < l.length) (hl2 : l.length ≤ 9223372036854775807) :
    Calls Try.prog 6 #[.agg #[.slice A l.length c, .int .i64 cur], .string s] w fun e w' => e = .returned (.bool true) ∧ Below w.heap.size w w' := by
  have LV := Lib.hid tree_lives
  have HB := Lib.hid (fun u => blk1 w #[.slice A l.length c, .int .i64 cur] 24 (u := u))
  obtain ⟨b, off, rfl, hbw, CC⟩ := hx.addr (by omega)
  have CE := Lib.hid CC
  have HS := Lib.hid hs
  have d0 : decide ((60 : Int) < (l.length : Int)) = true := decide_eq_true (by omega)
  clear CC hx hs
  go_enter Try.func6, Try.ntmps6
  go_wp2_with fail
  have hS : (w.alloc (.cells #[.slice (some ⟨b, off, none⟩) l.length c, .int .i64 cur] 24)).heap.size = w.heap.size + 1 := World.size_alloc _ _
  generalize w.alloc (.cells #[.slice (some ⟨b, off, none⟩) l.length c, .int .i64 cur] 24) = wz at *
  rw [hS] at HB
  have R0 := Below.refl (w.heap.size + 1) wz
  clear hS
  go_loopw [5, 6] (fun nv iv wr => ∃ (j M : Nat), iv = .int .i64 j ∧ nv = .int .i64 M ∧ j ≤ 61 ∧ M ≤ 140737488351232 + j * 281474976702464 ∧ Below (w.heap.size + 1) wz wr) (fun _ iv _ => 61 - (intOf iv).toNat)
  case atStart => exact ⟨0, s.size, rfl, rfl, by omega, by omega, R0⟩
  case round =>
    clear R0
    obtain ⟨j, M, rfl, rfl, hj, hM, hV⟩ := hrel
    obtain ⟨z1, x0, hW⟩ := HB.out _ hV
    have t0 := x0.cell 0
    by_cases hlt : j < l.length
    · have g1 : decide ((j : Int) < (l.length : Int)) = true := decide_eq_true (by omega)
      by_cases h61 : j < 61
      · have g2 : decide ((j : Int) < 61) = true := decide_eq_true (by omega)
        obtain ⟨y, hy⟩ : ∃ y, l[j]? = some y := ⟨_, List.getElem?_eq_getElem hlt⟩
        obtain ⟨_, _, _, _, _, c5, c6⟩ := CE.out wr _ hW (Nat.le_refl _) _ _ hy
        obtain ⟨z2, z3⟩ := HS.out y (List.mem_of_getElem? hy)
        have hbl := Nat.lt_of_lt_of_le hbw hW.size
        have hji : (j : Int) < (l.length : Int) := by omega
        clear hy x0
        generalize y.old = o at *
        generalize y.new = n at *
        go_wp2
        go_quiet (fail)
        go_wp2
        go_roundw
        case rel => exact ⟨j + 1, M + (o.size + n.size), by go_num, by go_num, by omega, by omega, hV.trans ((below_gb (gb_drewN _ _ none)).mono z1)⟩
        case measure => simp [intOf] <;> omega
      · have g2 : decide ((j : Int) < 61) = false := decide_eq_false (by omega)
        go_wp2_with (go_at_call 9; (with_reducible refine (LV.out _).mono ?_); rintro e w9 ⟨rfl, hb9⟩)
        go_ret
        exact ⟨rfl, hW.trans (hb9.mono hW.size)⟩
    · have g1 : decide ((j : Int) < (l.length : Int)) = false := decide_eq_false (by omega)
      go_wp2_with (go_at_call 9; (with_reducible refine (LV.out _).mono ?_); rintro e w9 ⟨rfl, hb9⟩)
      go_ret
      exact ⟨rfl, hW.trans (hb9.mono hW.size)⟩
set_option maxHeartbeats 4000000 in
set_option maxRecDepth 100000 in
theorem treeTexts_walk (s : ByteArray) {A : Option Addr} {c : Nat} {l : List Nd} {cur : Int} {w : World} (hx : Nds w A l) (hc : l.length ≤ c) (hm : c ≤ maxLen) (hs : ∀ x ∈ l, x.old.size ≤ 140737488351232 ∧ x.new.size ≤ 140737488351232) (ht : s.size ≤ 140737488351232) :
    Calls Try.prog 6 #[.agg #[.slice A l.length c, .int .i64 cur], .string s] w fun e w' => e = .returned (.bool true) ∧ Below w.heap.size w w' := by
  by_cases hl : 60 < l.length
  · exact treeTexts_long s hx hs ht hl (by unfold maxLen at hm; omega)
  clear hm
  have LV := Lib.hid tree_lives
  have HB := Lib.hid (fun u => blk1 w #[.slice A l.length c, .int .i64 cur] 24 (u := u))
  have CE := Lib.hid (fun (u : World) (hu : Below w.heap.size w u) (j : Nat) (y : Nd) (hy : l[j]? = some y) => hx.at_ hu (Nat.le_refl _) hy)
  have HS := Lib.hid hs
  have T1 : Hid (∀ u, wt l l.length ≤ 3000 → s.size ≤ 3000 → Below w.heap.size w u → Calls Try.prog 31 #[.agg #[.slice A l.length c, .int .i64 cur], .string s] u (TextsIs (texts l cur s.data.toList) u)) := fun u h1 h2 hu => tree_Texts s (hx.below hu) hc (by omega) (fun x hx => by have := wt_mem hx; omega) (by omega)
  have T2 : Hid (∀ u, wt l l.length ≤ 3000 → s.size ≤ 3000 → Below w.heap.size w u → Calls Try.prog 32 #[.agg #[.slice A l.length c, .int .i64 cur], .string s] u (TextsIs (texts l cur s.data.toList) u)) := fun u h1 h2 hu => ref11_Texts s (hx.below hu) (by omega) (fun x hx => by have := wt_mem hx; omega) (by omega)
  have tl : (texts l cur s.data.toList).1.length ≤ 60 := by
    unfold texts
    split
    · simp
    · split
      · split
        · simp; omega
        · simp
      · simp
  generalize texts l cur s.data.toList = r at *
  obtain ⟨xs, n⟩ := r
  have AK : Hid (∀ (u : World) (A B : Option Addr) (c d : Nat), Strs u A (xs.map bs) → Strs u B (xs.map bs) → Calls Try.prog 33 #[.slice A xs.length c, .slice B xs.length d] u fun e w' => e = .returned (.bool true) ∧ Below u.heap.size u w') := fun u A B c d h1 h2 => by
    have := ref11_Alike (c := c) (d := d) h1 h2 (by rw [List.length_map]; simp only at tl; omega)
    rw [List.length_map] at this
    exact this
  have d0 : decide ((60 : Int) < (l.length : Int)) = false := decide_eq_false (by omega)
  have W0 : Hid (s.size = s.size + wt l 0) := rfl
  clear hx hs hc tl
  go_enter Try.func6, Try.ntmps6
  go_wp2_with fail
  have hS : (w.alloc (.cells #[.slice A l.length c, .int .i64 cur] 24)).heap.size = w.heap.size + 1 := World.size_alloc _ _
  generalize w.alloc (.cells #[.slice A l.length c, .int .i64 cur] 24) = wz at *
  rw [hS] at HB
  have R0 := Below.refl (w.heap.size + 1) wz
  clear hS
  go_loopw [5, 6] (fun nv iv wr => ∃ (j M : Nat), iv = .int .i64 j ∧ nv = .int .i64 M ∧ j ≤ l.length ∧ M ≤ 140737488351232 + j * 281474976702464 ∧ Hid (M = s.size + wt l j) ∧ Below (w.heap.size + 1) wz wr) (fun _ iv _ => l.length - (intOf iv).toNat)
  case atStart => exact ⟨0, s.size, rfl, rfl, by omega, by omega, W0, R0⟩
  case round =>
    clear R0 W0
    obtain ⟨j, M, rfl, rfl, hj, hM, HM, hV⟩ := hrel
    obtain ⟨z1, x0, hW⟩ := HB.out _ hV
    have t0 := x0.cell 0
    have t1 := x0.cell 1
    by_cases hlt : j < l.length
    · have g1 : decide ((j : Int) < (l.length : Int)) = true := decide_eq_true (by omega)
      have g2 : decide ((j : Int) < 61) = true := decide_eq_true (by omega)
      obtain ⟨y, hy⟩ : ∃ y, l[j]? = some y := ⟨_, List.getElem?_eq_getElem hlt⟩
      obtain ⟨b, off, rfl, hbw, _, _, _, _, _, c5, c6⟩ := CE.out wr hW _ _ hy
      obtain ⟨z2, z3⟩ := HS.out y (List.mem_of_getElem? hy)
      have hbl := Nat.lt_of_lt_of_le hbw hW.size
      have hji : (j : Int) < (l.length : Int) := by omega
      have HM2 : Hid (M + (y.old.size + y.new.size) = s.size + wt l (j + 1)) := by show _ = _; rw [wt_succ hy, HM.out, Nat.add_assoc]
      clear hy x0 t1
      generalize y.old = o at *
      generalize y.new = n' at *
      go_wp2
      go_quiet (fail)
      go_wp2
      go_roundw
      case rel => exact ⟨j + 1, M + (o.size + n'.size), by go_num, by go_num, by omega, by omega, HM2, hV.trans ((below_gb (gb_drewN _ _ none)).mono z1)⟩
      case measure => simp [intOf] <;> omega
    · obtain rfl : j = l.length := by omega
      have g1 : decide ((l.length : Int) < (l.length : Int)) = false := decide_eq_false (by omega)
      by_cases h3 : 3000 < M
      · have g3 : decide ((3000 : Int) < (M : Int)) = true := decide_eq_true (by omega)
        go_wp2_with (go_at_call 9; (with_reducible refine (LV.out _).mono ?_); rintro e w9 ⟨rfl, hb9⟩)
        go_ret
        exact ⟨rfl, hW.trans (hb9.mono hW.size)⟩
      · have g3 : decide ((3000 : Int) < (M : Int)) = false := decide_eq_false (by omega)
        have F1 : wt l l.length ≤ 3000 := by have := HM.out; omega
        have F2 : s.size ≤ 3000 := by have := HM.out; omega
        have T1' := Lib.hid (fun u => T1.out u F1 F2)
        have T2' := Lib.hid (fun u => T2.out u F1 F2)
        clear T1 T2 F1 F2 HM CE HS
        go_wp2_with (first
          | (go_at_call 31; (with_reducible refine (T1'.out _ hW).mono ?_); rintro e w3 ⟨A3, c3, rfl, hx3, hb3⟩; replace hV := hV.trans (hb3.mono z1); obtain ⟨z3, x3, hW3⟩ := HB.out _ hV; have t2 := x3.cell 0; have t3 := x3.cell 1)
          | (go_at_call 32; (with_reducible refine (T2'.out _ hW3).mono ?_); rintro e w4 ⟨A4, c4, rfl, hx4, hb4⟩; replace hx3 := hx3.below hb4; replace hW3 := hW3.trans (hb4.mono hW3.size))
          | (go_at_call 33; (with_reducible refine (AK.out _ _ _ _ _ hx3 hx4).mono ?_); rintro e w5 ⟨rfl, hb5⟩; replace hW3 := hW3.trans (hb5.mono hW3.size))
          | (go_at_call 9; (with_reducible refine (LV.out _).mono ?_); rintro e w9 ⟨rfl, hb9⟩))
        go_ret
        exact ⟨rfl, hW3.trans (hb9.mono hW3.size)⟩
section
open Go.ChangeShapes Go.WideShapes Go.ChangeAt
open Go.ChangeMaps (open_string)
set_option maxRecDepth 100000 in
theorem treeTexts_lifted (os : Os) (started : os.Started) (H : Type) (enc : TypeId × Value → H) :
    ReturnsInHanded {} Try.checked os 6 .any (Rows.treeTextsSpec.pre6 enc Try.prog Try.f6 Rows.treeTextsRow.domain false) (Rows.treeTextsSpec.post enc Try.prog Try.f6 false true false false) := by
  refine returnsInHanded_of_change_sized (C := Try.checked) own_knob started (by kernel_rfl) Try.func6
    (ChangeSpec.witness6 (enc := enc) (C := Try.checked) false ⟨#[], #[.agg #[.slice none 0 0, .int .i64 0], .string .empty], []⟩ 8 (by kernel_rfl) (by kernel_rfl) (by kernel_rfl) (by kernel_rfl)) ?_
  intro W base args ds gs before hval0 hW _ hsz0 _
  have hsz : (DataW.weightsEach Try.prog (Try.f6.params.toList ++ Rows.treeTextsSpec.plain.varTypes Try.prog) (ds ++ gs)).all (· ≤ reachBytes) = true := hsz0
  clear hsz0
  have hval : ∀ (j : Nat) t v, Try.f6.params[j]? = some t → args[j]? = some v → Value.okWide Try.prog W .any base t v := hval0
  have hW' := hW
  obtain ⟨p, q, hA0, hV, rfl, hfz, hnd⟩ := hW
  have hA : DataW.TrodAll enc Try.prog W 0 (fun _ => true) true Try.f6.params.toList args.toList ds p := hA0
  rw [Try.params6] at hA hval hsz
  obtain ⟨v0, vs0, d0, ds0, p0, q0, hargs, rfl, rfl, h0, r0⟩ := trodAll_cons hA
  obtain ⟨v1, vs1, d1, ds1, p1, q1, rfl, rfl, rfl, h1, r1⟩ := trodAll_cons r0
  obtain ⟨rfl, rfl, rfl⟩ := trodAll_nil r1
  obtain rfl : args = #[v0, v1] := by cases args; simp_all
  obtain ⟨rfl, rfl⟩ := trodVars_none hV
  have hlt0 : ∀ x ∈ p0, x.block < W.heap.size := fun x hx => by simpa using hW'.lt x (by simp [hx])
  obtain ⟨A0, c0, xs0, cur0, rfl, hx0, hc0, hm0, wc0, hd0⟩ := open_tree (hval 0 24 v0 rfl rfl) h0 hlt0
  have he0 : ∀ k ∈ xs0, k.old.size ≤ 140737488351232 ∧ k.new.size ≤ 140737488351232 := fun k hk => by
    obtain ⟨e, sp, z, y0, y1, y2, y3, y4, rfl, hin⟩ := hd0 k hk
    rw [← data_len, ← data_len]
    exact sized_tree hsz (j := 0) rfl rfl hin
  obtain ⟨s1, rfl, rfl, rfl, hmax1⟩ := open_string Try.underlying9 (hval 1 9 v1 rfl rfl) h1
  have hs1 : s1.size ≤ 140737488351232 := by rw [← data_len]; exact sized_string hsz (j := 1) (t := 9) rfl rfl
  refine (treeTexts_walk s1 hx0 hc0 hm0 he0 hs1).mono fun e W' ⟨he, hb⟩ => ?_
  subst he
  exact ⟨_, rfl, law_post rfl rfl (by rw [Try.params6]; decide +kernel) ⟨rfl, rfl, rfl⟩ hW' hb⟩
theorem treeTexts_holds : Rows.TreeTextsSaid :=
  OpenClaim.holds_of_wide 6 Try.f6 rfl rfl rfl rfl rfl rfl rfl ⟨rfl, rfl, rfl, rfl, rfl⟩ rfl rfl rfl rfl rfl (by kernel_rfl) Try.func6 (by kernel_rfl)
    (of_decide_eq_true (by kernel_rfl)) (by unfold Func.isWrapper; first | (rw [if_pos (by decide +kernel)]; kernel_rfl) | (rw [if_neg (by decide +kernel)]; exact ⟨rfl, rfl⟩))
    (fun os started H enc _ => treeTexts_lifted os started H enc)
end
end Go.Proofs.Ytffihchkmcddeaa
