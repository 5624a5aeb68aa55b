/-
  A tree's bytes: the document's answer.
-/
import Derived.Test.YtchmiigjiojiaaaDoorTrunkBytes
import Derived.Test.YtchmiigjiojiaaaDoorTreeRefRight
import Derived.Deep.RegionHeld3
namespace Go.Proofs.YtchmiigjiojiaaaDoor
open Go.RowKit
open Tre Trk
namespace Trk
/-- A node's numbers, as they are written. -/
def numsN (x : Nd) : List Int := [x.up + 1, x.next + 1, x.before, x.after, x.at_]
theorem fields_take {x : Nd} {j : Nat} (h : j ≤ 5) : (fieldsB x).take j = ((numsN x).take j).map numB := by
  rcases (by omega : j = 0 ∨ j = 1 ∨ j = 2 ∨ j = 3 ∨ j = 4 ∨ j = 5) with rfl | rfl | rfl | rfl | rfl | rfl <;> rfl
theorem fields_num {x : Nd} {j : Nat} {n : Int} (h : (numsN x)[j]? = some n) : (fieldsB x).take (j + 1) = (fieldsB x).take j ++ [numB n] ∧ numB n ∈ fieldsB x := by
  have hj : j < 5 := (List.getElem?_eq_some_iff.1 h).1
  rcases (by omega : j = 0 ∨ j = 1 ∨ j = 2 ∨ j = 3 ∨ j = 4) with rfl | rfl | rfl | rfl | rfl
  all_goals
    simp only [numsN, List.getElem?_cons_zero, List.getElem?_cons_succ, Option.some.injEq] at h
    subst h
    exact ⟨rfl, by simp [fieldsB]⟩
theorem fields_end (x : Nd) : fieldsB x = (fieldsB x).take 5 ++ [textB x.old, textB x.new] := rfl
theorem full_take {a : List (List UInt8)} (h : full a) (j : Nat) : full (a.take j) := fun t ht => h t (List.mem_of_mem_take ht)
theorem flat_size {T : List (List UInt8)} (h : ∀ t ∈ T, t.length ≤ 2147483651) {n : Nat} (hn : T.length ≤ n) : (bs T.flatten).size ≤ n * 2147483651 := by
  have := flatten_le h
  rw [bs_size]
  exact Nat.le_trans this (Nat.mul_le_mul_right _ hn)
theorem flat_snoc1 (T : List (List UInt8)) (t : List UInt8) : bs T.flatten ++ bs t = bs (T ++ [t]).flatten := by
  rw [bs_append]; simp
theorem part_length {l : List Nd} {k : Nat} {x : Nd} {T U : List (List UInt8)} {n : Int} {j : Nat} (hT : T = numB n :: nodesB (l.take k)) (hU : U = T ++ (fieldsB x).take j) : ∀ t ∈ U, t.length ≤ 2147483651 := by
  intro t ht
  have n1 : ∀ n : Int, (numB n).length ≤ 2147483651 := fun n => by have := numB_length n; omega
  rw [hU, hT] at ht
  rcases List.mem_append.1 ht with ht | ht
  · rcases List.mem_cons.1 ht with rfl | ht
    · exact n1 _
    · obtain ⟨y, _, hy⟩ := List.mem_flatMap.1 ht
      exact fields_length t hy
  · exact fields_length t (List.mem_of_mem_take ht)
end Trk
set_option maxHeartbeats 4000000 in
set_option maxRecDepth 100000 in
theorem ref12_Bytes {A : Option Addr} {c : Nat} {l : List Nd} {cur : Int} {w : World} (hx : Nds w A l) (hlen : l.length ≤ 2000) (hs : ∀ x ∈ l, x.old.size ≤ 2147483647 ∧ x.new.size ≤ 2147483647) :
    Calls Tryd.prog 8 #[.agg #[.slice A l.length c, .int .i64 cur]] w fun e w' => e = .returned (.string (bs (treeB l cur))) ∧ Below w.heap.size w w' := by
  have W1 := al (Below.refl w.heap.size w) (.cells #[.slice A l.length c, .int .i64 cur] 24)
  have Y1 := Blk.new w 24 #[.slice A l.length c, .int .i64 cur]
  have HR := Lib.hid (ref11_Right (c := c) (cur := cur) (hx.below W1))
  by_cases hR : Right l cur
  · have H : Hid (treeB l cur = joinB (thingsB l cur)) := treeB_yes hR
    rw [decide_eq_true hR] at HR
    have HW := Lib.hid (fun (k : Nat) (x : Nd) (h : l[k]? = some x) => right_wrap hR h)
    have HSZ := Lib.hid hs
    have hl := hR.few
    have h0 := hR.one
    have hcur : 0 ≤ cur ∧ cur ≤ 2147483647 := by have := hR.low; have := hR.high; omega
    have HF := Lib.hid hcur
    obtain ⟨b, off, rfl, hbw, CC⟩ := hx.addr (by omega)
    have CE := Lib.hid CC
    clear hR hs CC hx hcur
    go_enter Tryd.func8, Tryd.ntmps8
    go_wp2_with (first
      | (go_at_call 22; ((with_reducible refine HR.out.mono ?_); rintro e w2 ⟨rfl, hb2⟩; have W2 := W1.trans (hb2.mono W1.size); have Y2 := Y1.below hb2 Y1.lt; have t0 := Y2.cell 0; have t1 := Y2.cell 1))
      | (go_at_call 23; ((with_reducible refine (ref_num _ _).mono ?_); rintro e w3 ⟨rfl, hb3⟩; have W3 := W2.trans (hb3.mono W2.size); have Y3 := Y2.below hb3 Y2.lt; have t2 := Y3.cell 0; have t3 := Y3.cell 1)))
    clear HR W1 Y1 W2 Y2 hb2 hb3 t0 t1 t2 t3
    obtain ⟨T0, hT0⟩ : ∃ T0, T0 = [numB (l.length : Int)] := ⟨_, rfl⟩
    have e0 : bs (numB (l.length : Int)) = bs T0.flatten := by rw [hT0]; simp
    have HT0 : Hid (T0 = numB (l.length : Int) :: nodesB (l.take 0)) := by show _ = _; rw [hT0, List.take_zero]; rfl
    have HF0 : Hid (full T0) := by
      show full _
      rw [hT0]
      exact full_cons.2 ⟨numB_full (by omega) (by omega), full_nil⟩
    rw [e0]
    clear e0 hT0
    go_loopw [3, 4] (fun v i wr => ∃ (k : Nat) (T : List (List UInt8)), v = .string (bs T.flatten) ∧ i = .int .i64 k ∧ k ≤ l.length ∧ Hid (T = numB (l.length : Int) :: nodesB (l.take k)) ∧ Hid (full T) ∧ Blk wr w.heap.size 24 #[.slice (some ⟨b, off, none⟩) l.length c, .int .i64 cur] ∧ Below w.heap.size w wr) (fun _ i _ => l.length - (intOf i).toNat)
    case atStart => exact ⟨0, T0, rfl, rfl, Nat.zero_le _, HT0, HF0, Y3, W3⟩
    case round =>
      obtain ⟨k, T, rfl, rfl, hk, HT, HFT, Y, hW⟩ := hrel
      clear HT0 HF0 Y3 W3
      have t0 := Y.cell 0
      have t1 := Y.cell 1
      by_cases hlt : k < l.length
      · obtain ⟨x, hx⟩ : ∃ x, l[k]? = some x := ⟨_, List.getElem?_eq_getElem hlt⟩
        obtain ⟨e0, e1, e2, e3, e4, e5, e6⟩ := CE.out wr _ hW (Nat.le_refl _) _ _ hx
        obtain ⟨hw0, hw1⟩ := HW.out k x hx
        obtain ⟨z5, z6⟩ := HSZ.out x (List.mem_of_getElem? hx)
        have HLX : Hid (l[k]? = some x) := hx
        clear hx
        have N1 := (Blk.new wr 40 #[.int .i64 x.up, .int .i64 x.next, .int .i64 x.before, .int .i64 x.after, .int .i64 x.at_, .string x.old, .string x.new]).alloc (.cells #[.int .i64 (x.up + 1), .int .i64 (x.next + 1), .int .i64 x.before, .int .i64 x.after, .int .i64 x.at_] 3)
        have I1 := Blk.new (wr.alloc (.cells #[.int .i64 x.up, .int .i64 x.next, .int .i64 x.before, .int .i64 x.after, .int .i64 x.at_, .string x.old, .string x.new] 40)) 3 #[.int .i64 (x.up + 1), .int .i64 (x.next + 1), .int .i64 x.before, .int .i64 x.after, .int .i64 x.at_]
        have Y1 := (Y.alloc (.cells #[.int .i64 x.up, .int .i64 x.next, .int .i64 x.before, .int .i64 x.after, .int .i64 x.at_, .string x.old, .string x.new] 40)).alloc (.cells #[.int .i64 (x.up + 1), .int .i64 (x.next + 1), .int .i64 x.before, .int .i64 x.after, .int .i64 x.at_] 3)
        have V1 := (hW.alloc hW.size (.cells #[.int .i64 x.up, .int .i64 x.next, .int .i64 x.before, .int .i64 x.after, .int .i64 x.at_, .string x.old, .string x.new] 40)).alloc (by have := hW.size; rw [World.size_alloc]; omega) (.cells #[.int .i64 (x.up + 1), .int .i64 (x.next + 1), .int .i64 x.before, .int .i64 x.after, .int .i64 x.at_] 3)
        rw [World.size_alloc] at I1
        go_wp2_with fail
        clear Y hW hw0 hw1 e0 e1 e2 e3 e4 e5 e6 t0 t1
        generalize (wr.alloc (.cells #[.int .i64 x.up, .int .i64 x.next, .int .i64 x.before, .int .i64 x.after, .int .i64 x.at_, .string x.old, .string x.new] 40)).alloc (.cells #[.int .i64 (x.up + 1), .int .i64 (x.next + 1), .int .i64 x.before, .int .i64 x.after, .int .i64 x.at_] 3) = wz at *
        generalize wr.heap.size = nb at *
        go_loopw [3, 42] (fun v i wy => ∃ (j : Nat) (U : List (List UInt8)), v = .string (bs U.flatten) ∧ i = .int .i64 j ∧ j ≤ 5 ∧ Hid (U = T ++ (fieldsB x).take j) ∧ Hid (full U) ∧ Blk wy nb 40 #[.int .i64 x.up, .int .i64 x.next, .int .i64 x.before, .int .i64 x.after, .int .i64 x.at_, .string x.old, .string x.new] ∧ Blk wy (nb + 1) 3 #[.int .i64 (x.up + 1), .int .i64 (x.next + 1), .int .i64 x.before, .int .i64 x.after, .int .i64 x.at_] ∧ Blk wy w.heap.size 24 #[.slice (some ⟨b, off, none⟩) l.length c, .int .i64 cur] ∧ Below w.heap.size w wy) (fun _ i _ => 5 - (intOf i).toNat)
        case atStart => exact ⟨0, T, rfl, rfl, by omega, by show _ = _; simp, HFT, N1, I1, Y1, V1⟩
        case round =>
          obtain ⟨j, U, rfl, rfl, hj, HU, HFU, NB, IB, YB, hV⟩ := hrel
          clear N1 I1 Y1 V1
          have hUl : (bs U.flatten).size ≤ 7200 * 2147483651 := flat_size (part_length HT.out HU.out) (by
            rw [HU.out, HT.out, List.length_append, List.length_cons, nodesB_length, List.length_take, List.length_take]
            have : (fieldsB x).length = 7 := rfl
            omega)
          by_cases hlt2 : j < 5
          · obtain ⟨n, hn⟩ : ∃ n, (numsN x)[j]? = some n := ⟨_, List.getElem?_eq_getElem (by show j < 5; exact hlt2)⟩
            have c0 : wr.cell? ⟨nb + 1, j, none⟩ = some (.int .i64 n) := by
              rw [IB.cell]
              have : #[.int .i64 (x.up + 1), .int .i64 (x.next + 1), .int .i64 x.before, .int .i64 x.after, .int .i64 x.at_] = ((numsN x).map (Value.int .i64)).toArray := rfl
              rw [this, List.getElem?_toArray, List.getElem?_map, hn]
              rfl
            obtain ⟨hf1, hf2⟩ := fields_num hn
            have RN := Lib.hid (fun u => ref_num n u)
            have hnl := numB_size n
            by_cases hz : numB n = []
            · have g0 : (bs (numB n)).toList.isEmpty = true := by rw [bs_tl, hz]; rfl
              have H2 : Hid (treeB l cur = []) := by
                show _ = _
                rw [H.out, joinB, if_neg]
                intro h
                refine h (numB n) ?_ hz
                unfold thingsB
                refine List.mem_cons_of_mem _ (List.mem_append_left _ (List.mem_flatMap.2 ⟨x, List.mem_of_getElem? HLX.out, hf2⟩))
              clear hf1 hf2 hn hz
              go_wp2_with (go_at_call 23; ((with_reducible refine (RN.out _).mono ?_); rintro e w5 ⟨rfl, hb5⟩))
              go_ret
              exact ⟨by rw [H2.out]; rfl, hV.trans (hb5.mono hV.size)⟩
            · have g0 : (bs (numB n)).toList.isEmpty = false := by
                rw [bs_tl]
                cases hq : numB n with
                | nil => exact absurd hq hz
                | cons _ _ => rfl
              have HU2 : Hid (U ++ [numB n] = T ++ (fieldsB x).take (j + 1)) := by
                show _ = _
                rw [hf1, HU.out, List.append_assoc]
              have HFU2 : Hid (full (U ++ [numB n])) := by
                show full _
                exact full_append.2 ⟨HFU.out, full_cons.2 ⟨hz, full_nil⟩⟩
              have hlim : ¬ 9223372036854775807 < (bs U.flatten).size + (bs (numB n)).size := by omega
              have HA := Lib.hid (flat_snoc1 U (numB n))
              clear hf1 hf2 hn hz
              go_wp2_with (first
                | (go_at_call 23; ((with_reducible refine (RN.out _).mono ?_); rintro e w5 ⟨rfl, hb5⟩; have V5 := hV.trans (hb5.mono hV.size); have N5 := NB.below hb5 NB.lt; have I5 := IB.below hb5 IB.lt; have Y5 := YB.below hb5 YB.lt; clear hV NB IB YB c0))
                | (go_at_call 23; ((with_reducible refine (RN.out _).mono ?_); rintro e w6 ⟨rfl, hb6⟩; have V6 := V5.trans (hb6.mono V5.size); have N6 := N5.below hb6 N5.lt; have I6 := I5.below hb6 I5.lt; have Y6 := Y5.below hb6 Y5.lt)))
              rw [HA.out]
              go_roundw
              case rel => exact ⟨j + 1, U ++ [numB n], rfl, by go_num, by omega, HU2, HFU2, N6, I6, Y6, V6⟩
              case measure => simp [intOf]; omega
          · obtain rfl : j = 5 := by omega
            have HT2 : Hid (U ++ [textB x.old, textB x.new] = numB (l.length : Int) :: nodesB (l.take (k + 1))) := by
              show _ = _
              obtain ⟨hm, he⟩ := List.getElem?_eq_some_iff.1 HLX.out
              rw [List.take_succ_eq_append_getElem hm, he, nodesB_snoc, fields_end, HU.out, HT.out]
              simp
            have HFT2 : Hid (full (U ++ [textB x.old, textB x.new])) := by
              show full _
              exact full_append.2 ⟨HFU.out, full_cons.2 ⟨textB_full z5, full_cons.2 ⟨textB_full z6, full_nil⟩⟩⟩
            have HQ : bs U.flatten ++ bs (textB x.old) ++ bs (textB x.new) = bs (U ++ [textB x.old, textB x.new]).flatten := by
              rw [flat_snoc1, flat_snoc1, List.append_assoc]
              rfl
            have RT5 := fun u => ref_text x.old u z5
            have RT6 := fun u => ref_text x.new u z6
            rw [← textB_ok z5] at RT5
            rw [← textB_ok z6] at RT6
            have q5 : (bs (textB x.old)).size ≤ 2147483651 := by rw [bs_size]; exact textB_length _
            have q6 : (bs (textB x.new)).size ≤ 2147483651 := by rw [bs_size]; exact textB_length _
            generalize bs (textB x.old) = a5 at HQ RT5 q5
            generalize bs (textB x.new) = a6 at HQ RT6 q6
            have lim1 : ¬ 9223372036854775807 < (bs U.flatten).size + a5.size := by omega
            have lim2 : ¬ 9223372036854775807 < (bs U.flatten).size + a5.size + a6.size := by omega
            have P : Hid (∀ u, Below wr.heap.size wr u → u.cell? ⟨nb, 5, none⟩ = some (.string x.old) ∧ u.cell? ⟨nb, 6, none⟩ = some (.string x.new) ∧ Blk u w.heap.size 24 #[.slice (some ⟨b, off, none⟩) l.length c, .int .i64 cur] ∧ Below w.heap.size w u) := fun u hu => by
              have n4 := NB.below hu NB.lt
              exact ⟨n4.cell 5, n4.cell 6, YB.below hu YB.lt, hV.trans (hu.mono hV.size)⟩
            obtain ⟨x5, x6, _⟩ := P.out wr (Below.refl _ _)
            have V : Below wr.heap.size wr wr.drew := (Below.refl _ _).drew
            clear NB IB YB hV HU HT HFT HFU z5 z6 q5 q6 hUl HLX hlt2 hj
            go_wp2_with fail
            go_region_held3 (fun u => u.cell? ⟨nb, 5, none⟩ = some (.string x.old) ∧ u.cell? ⟨nb, 6, none⟩ = some (.string x.new))
              (first | exact ⟨by assumption, by assumption⟩ | go_keep)
              (first
                | (go_at_call 24; ((with_reducible refine (RT5 _).mono ?_); rintro e u ⟨rfl, hb6⟩; replace V := V.trans (hb6.mono V.size); obtain ⟨x5, x6, _⟩ := P.out _ V))
                | (go_at_call 24; ((with_reducible refine (RT6 _).mono ?_); rintro e u ⟨rfl, hb6⟩; replace V := V.trans (hb6.mono V.size); obtain ⟨x5, x6, _⟩ := P.out _ V)))
            all_goals
              obtain ⟨_, _, Y5, V5⟩ := P.out _ V
              go_wp2
              go_roundw
              case rel => exact ⟨k + 1, U ++ [textB x.old, textB x.new], by simp, by go_num, by omega, HT2, HFT2, Y5, V5⟩
              case measure => simp [intOf]; omega
      · obtain rfl : k = l.length := by omega
        have hTl : (bs T.flatten).size ≤ 7200 * 2147483651 := by
          have := flat_size (T := T) (n := 7200) (fun t ht => by
            rw [HT.out, List.take_length] at ht
            exact things_length (l := l) (cur := cur) t (by
              unfold thingsB
              rcases List.mem_cons.1 ht with rfl | ht
              · exact List.mem_cons_self
              · exact List.mem_cons_of_mem _ (List.mem_append_left _ ht))) (by rw [HT.out, List.length_cons, nodesB_length, List.length_take]; omega)
          exact this
        have hnl := numB_size cur
        have hlim : ¬ 9223372036854775807 < (bs T.flatten).size + (bs (numB cur)).size := by omega
        have HE : Hid (bs T.flatten ++ bs (numB cur) = bs (treeB l cur)) := by
          show _ = _
          have e : T ++ [numB cur] = thingsB l cur := by rw [HT.out, List.take_length]; rfl
          have hf : full (thingsB l cur) := by
            rw [← e]
            exact full_append.2 ⟨HFT.out, full_cons.2 ⟨numB_full HF.out.1 HF.out.2, full_nil⟩⟩
          rw [H.out, joinB, if_pos hf, flat_snoc1, e]
        go_wp2_with (go_at_call 23; ((with_reducible refine (ref_num _ _).mono ?_); rintro e w5 ⟨rfl, hb5⟩))
        go_ret
        exact ⟨by rw [← HE.out]; rfl, hW.trans (hb5.mono hW.size)⟩
  · have H : Hid (treeB l cur = []) := treeB_no hR
    rw [decide_eq_false hR] at HR
    clear hR hs hx
    go_enter Tryd.func8, Tryd.ntmps8
    go_wp2_with (go_at_call 22; ((with_reducible refine HR.out.mono ?_); rintro e w2 ⟨rfl, hb2⟩; have W2 := W1.trans (hb2.mono W1.size)))
    go_ret
    exact ⟨by rw [H.out]; rfl, W2⟩
end Go.Proofs.YtchmiigjiojiaaaDoor
