/-
  The way to a node: the document's.
-/
import Derived.Test.YtffihchkmcddeaaTreePath
import Derived.Test.YtffihchkmcddeaaTreeRefRight
import Derived.Deep.RegionHeld3
namespace Go.Proofs.Ytffihchkmcddeaa
open Go.RowKit
open Tre
namespace Tre
/-- Of a list that falls, what stands from j on, and what stands below. -/
def upper (f : Nat → Bool) (n j : Nat) : List Nat := ((List.range n).reverse).filter fun i => decide (j ≤ i) && f i
theorem upper_top (f : Nat → Bool) (n : Nat) : upper f n n = [] := by
  unfold upper
  rw [List.filter_eq_nil_iff]
  intro i hi
  simp at hi
  rw [decide_eq_false (by omega)]; simp
theorem upper_zero (f : Nat → Bool) (n : Nat) : upper f n 0 = ((List.range n).reverse).filter f := by
  unfold upper
  exact List.filter_congr fun i _ => by simp
theorem upper_step (f : Nat → Bool) {j : Nat} : ∀ {n : Nat}, j < n → upper f n j = upper f n (j + 1) ++ if f j = true then [j] else []
  | n + 1, h => by
    have e : ∀ m, upper f (n + 1) m = (if m ≤ n ∧ f n = true then [n] else []) ++ upper f n m := fun m => by
      unfold upper
      rw [List.range_succ, List.reverse_append]
      show List.filter _ (n :: (List.range n).reverse) = _
      by_cases c : m ≤ n ∧ f n = true
      · rw [if_pos c, List.filter_cons_of_pos (by rw [decide_eq_true c.1, c.2]; rfl)]; rfl
      · rw [if_neg c, List.filter_cons_of_neg (by
          intro h; apply c; simpa using h)]; rfl
    rcases Nat.lt_or_ge j n with hlt | hge
    · rw [e, e, upper_step f hlt]
      have e1 : j ≤ n := by omega
      have e2 : j + 1 ≤ n := by omega
      simp [e1, e2, List.append_assoc]
    · obtain rfl : j = n := by omega
      rw [e, e, upper_top]
      have u1 : upper f j (j + 1) = [] := by
        unfold upper
        rw [List.filter_eq_nil_iff]
        intro i hi
        simp at hi
        rw [decide_eq_false (by omega)]; simp
      rw [u1]
      by_cases c : f j = true
      · rw [if_pos ⟨Nat.le_refl _, c⟩, if_neg (by omega), if_pos c]; rfl
      · rw [if_neg (fun h => c h.2), if_neg (by omega), if_neg c]; rfl
def lower (f : Nat → Bool) (j : Nat) : List Nat := (List.range j).filter f
theorem lower_step (f : Nat → Bool) (j : Nat) : lower f (j + 1) = lower f j ++ if f j = true then [j] else [] := by
  unfold lower
  rw [List.range_succ, List.filter_append]
  by_cases c : f j = true <;> simp [c]
theorem upper_len (f : Nat → Bool) (n j : Nat) : (upper f n j).length ≤ n := Nat.le_trans (List.length_filter_le _ _) (by simp)
theorem lower_len (f : Nat → Bool) (j : Nat) : (lower f j).length ≤ j := Nat.le_trans (List.length_filter_le _ _) (by simp)
end Tre
set_option maxHeartbeats 4000000 in
set_option maxRecDepth 100000 in
theorem ref11_Path {A : Option Addr} {c : Nat} {l : List Nd} {cur k : Int} {w : World} (hx : Nds w A l) (hm : l.length ≤ 2000) :
    Calls Try.prog 28 #[.agg #[.slice A l.length c, .int .i64 cur], .int .i64 k] w fun e w' => PathIs (path l cur k) w e w' := by
  have h0 := al (Below.refl w.heap.size w) (.cells #[.slice A l.length c, .int .i64 cur] 24)
  have hx2 := Lib.hid (hx.below h0)
  have R := Lib.hid (fun u (h : Nds u A l) => ref11_Right (c := c) (cur := cur) h)
  have HAS := Lib.hid (fun u => ref11_has A l.length c cur k u)
  have HB := Lib.hid (fun u => blk1 w #[.slice A l.length c, .int .i64 cur] 24 (u := u))
  by_cases hR : Right l cur
  · rw [decide_eq_true hR] at R
    by_cases hk : 0 ≤ k ∧ k < l.length
    · rw [decide_eq_true hk] at HAS
      obtain ⟨m, rfl⟩ : ∃ m : Nat, cur = m := ⟨cur.toNat, by have := hR.low; omega⟩
      obtain ⟨i, rfl⟩ : ∃ i : Nat, k = i := ⟨k.toNat, by omega⟩
      have hml : m < l.length := by have := hR.high; omega
      have hil : i < l.length := by omega
      obtain ⟨f, hf⟩ : ∃ f : Nat → Bool, f = fun j => on l j m && !on l j i := ⟨_, rfl⟩
      obtain ⟨g, hg⟩ : ∃ g : Nat → Bool, g = fun j => on l j i && !on l j m := ⟨_, rfl⟩
      have H : Hid (path l (m : Int) (i : Int) = (upper f l.length 0, lower g l.length, 0)) := by
        show _ = _
        rw [path, if_neg (fun h => h hR), if_neg (fun h => h hk), Int.toNat_natCast, Int.toNat_natCast, apart_rising, upper_zero, apart, hf, hg]
        rfl
      have OM := Lib.hid (fun u j (h : Below w.heap.size w u) => ref11_on (c := c) (cur := (m : Int)) (a := j) (k := m) (hx.below h) hR.ups hml hm)
      have OI := Lib.hid (fun u j (h : Below w.heap.size w u) => ref11_on (c := c) (cur := (m : Int)) (a := j) (k := i) (hx.below h) hR.ups hil hm)
      have HF : Hid (∀ j, f j = (on l j m && !on l j i)) := fun j => by rw [hf]
      have HG : Hid (∀ j, g j = (on l j i && !on l j m)) := fun j => by rw [hg]
      have U0 : Hid (upper f l.length l.length = []) := upper_top f l.length
      have L0 : Hid (lower g 0 = []) := rfl
      have UL := Lib.hid (fun j => upper_len f l.length j)
      have LL := Lib.hid (fun j => lower_len g j)
      obtain ⟨i0, hi, hz0, hz1, hz2⟩ := info_parts info_int
      clear hx hR hk hf hg hml hil
      go_enter Try.func28, Try.ntmps28
      go_wp2_with (first
        | (go_at_call 13; refine (R.out _ hx2.out).mono ?_; rintro e w1 ⟨rfl, hb1⟩; obtain ⟨z1, y0, y1⟩ := HB.out _ hb1; have t0 := y0.cell 0; have t1 := y0.cell 1)
        | (go_at_call 43; refine (HAS.out _).mono ?_; rintro e w2 ⟨rfl, hb2⟩; have S2 := hb1.trans (hb2.mono hb1.size); obtain ⟨z2, x0, x1⟩ := HB.out _ S2; have s0 := x0.cell 0; have s1 := x0.cell 1))
      have hS : (w.alloc (.cells #[.slice A l.length c, .int .i64 (m : Int)] 24)).heap.size = w.heap.size + 1 := World.size_alloc _ _
      generalize w.alloc (.cells #[.slice A l.length c, .int .i64 (m : Int)] 24) = wz at *
      rw [hS] at HB S2
      have W2 := Lib.hid S2
      have HS := Lib.hid hS
      clear hb1 hb2 y0 y1 t0 t1 x0 s0 s1 S2 hx2 h0 R HAS z1 x1 hS
      go_wp2
      go_loopw [7, 9] (fun bv iv wr => ∃ (j n1 : Nat) (z : Int) (A1 : Option Addr) (c1 : Nat), bv = .slice A1 n1 c1 ∧ iv = .int .i64 z ∧ Hid (z = (j : Int) - 1) ∧ j ≤ l.length ∧ Hid (n1 = (upper f l.length j).length) ∧ n1 ≤ l.length ∧ Hid (wr.ownsRow (w.heap.size + 1) 3 1 (.slice A1 n1 c1) n1 ((ints (upper f l.length j)).map (Value.int .i64))) ∧ Below (w.heap.size + 1) wz wr) (fun _ iv _ => (intOf iv + 1).toNat)
      case atStart => exact ⟨l.length, 0, _, none, 0, rfl, rfl, rfl, Nat.le_refl _, by show _ = _; rw [U0.out]; rfl, Nat.zero_le _, by show World.ownsRow _ _ _ _ _ _ _; rw [U0.out]; exact World.ownsRow_nil _ _ _ _, W2.out⟩
      case round =>
        clear W2 z2
        obtain ⟨j, n1, z, A1, c1, rfl, rfl, HJ, hjl, HN, hn1, HO, hW0⟩ := hrel
        obtain ⟨z1, y0, hW⟩ := HB.out _ hW0
        have t0 := y0.cell 0
        have t1 := y0.cell 1
        by_cases hz : 0 ≤ z
        · obtain ⟨j, rfl⟩ : ∃ j' : Nat, j = j' + 1 := ⟨j - 1, by have := HJ.out; omega⟩
          obtain rfl : z = (j : Int) := by have := HJ.out; omega
          have hs := Lib.hid (upper_step f (n := l.length) (j := j) (by omega))
          have hul := UL.out j
          have g1 : decide ((0 : Int) ≤ (j : Int)) = true := decide_eq_true (by omega)
          have OMj := Lib.hid (fun u => OM.out u j)
          have OIj := Lib.hid (fun u => OI.out u j)
          have fj := HF.out j
          clear HJ
          cases hb1' : on l j m with
          | false =>
            rw [hb1'] at fj OMj
            have fj' : f j = false := fj
            rw [fj', if_neg Bool.false_ne_true, List.append_nil] at hs
            clear fj fj' hb1'
            go_wp2_with (go_at_call 47; (with_reducible refine (OMj.out _ hW).mono ?_); rintro e w3 ⟨rfl, hb3⟩; have S3 := hW0.trans (hb3.mono z1); obtain ⟨z3, y3, hW3⟩ := HB.out _ S3; have t2 := y3.cell 0; have t3 := y3.cell 1)
            have HO3 := Lib.hid (HO.out.kept (gb_below none hb3) (by cases hv : (Value.slice A1 n1 c1).ownBlock <;> simp))
            go_roundw
            case rel => exact ⟨j, n1, _, A1, c1, rfl, rfl, rfl, by omega, by show _ = _; rw [hs.out]; exact HN.out, hn1, by show World.ownsRow _ _ _ _ _ _ _; rw [hs.out]; exact HO3.out, S3⟩
            case measure => simp [intOf] <;> omega
          | true =>
            rw [hb1'] at fj OMj
            cases hb2' : on l j i with
            | true =>
              rw [hb2'] at fj OIj
              have fj' : f j = false := fj
              rw [fj', if_neg Bool.false_ne_true, List.append_nil] at hs
              clear fj fj' hb1' hb2'
              go_wp2_with (first
                | (go_at_call 47; (with_reducible refine (OMj.out _ hW).mono ?_); rintro e w3 ⟨rfl, hb3⟩; have S3 := hW0.trans (hb3.mono z1); obtain ⟨z3, y3, hW3⟩ := HB.out _ S3; have t2 := y3.cell 0; have t3 := y3.cell 1)
                | (go_at_call 47; (with_reducible refine (OIj.out _ hW3).mono ?_); rintro e w4 ⟨rfl, hb4⟩; have S4 := S3.trans (hb4.mono z3); obtain ⟨z4, y4, hW4⟩ := HB.out _ S4; have t4 := y4.cell 0; have t5 := y4.cell 1))
              have HO3 := Lib.hid ((HO.out.kept (gb_below none hb3) (by cases hv : (Value.slice A1 n1 c1).ownBlock <;> simp)).kept (gb_below none hb4) (by cases hv : (Value.slice A1 n1 c1).ownBlock <;> simp))
              go_roundw
              case rel => exact ⟨j, n1, _, A1, c1, rfl, rfl, rfl, by omega, by show _ = _; rw [hs.out]; exact HN.out, hn1, by show World.ownsRow _ _ _ _ _ _ _; rw [hs.out]; exact HO3.out, S4⟩
              case measure => simp [intOf] <;> omega
            | false =>
              rw [hb2'] at fj OIj
              have fj' : f j = true := fj
              rw [fj', if_pos rfl] at hs
              clear fj fj' hb1' hb2'
              go_wp2_with (first
                | (go_at_call 47; (with_reducible refine (OMj.out _ hW).mono ?_); rintro e w3 ⟨rfl, hb3⟩; have S3 := hW0.trans (hb3.mono z1); obtain ⟨z3, y3, hW3⟩ := HB.out _ S3; have t2 := y3.cell 0; have t3 := y3.cell 1)
                | (go_at_call 47; (with_reducible refine (OIj.out _ hW3).mono ?_); rintro e w4 ⟨rfl, hb4⟩; have S4 := S3.trans (hb4.mono z3); obtain ⟨z4, y4, hW4⟩ := HB.out _ S4; have t4 := y4.cell 0; have t5 := y4.cell 1)
                | (at_builtin; have HO4 := Lib.hid ((HO.out.kept (gb_below none hb3) (by cases hv : (Value.slice A1 n1 c1).ownBlock <;> simp)).kept (gb_below none hb4) (by cases hv : (Value.slice A1 n1 c1).ownBlock <;> simp)); refine wpList_append_own _ rfl _ _ 41 rfl (w.heap.size + 1) 3 i0 (.int .i64 0) 1 8 Try.underlying41 hi hz0 hz1 hz2 rfl (by decide) _ _ _ rfl (HO4.out.alloc _) ⟨w4.heap.size, 0, none⟩ 1 1 [.int .i64 (j : Int)] rfl rfl ?c1 ?c2 ?c3 ?c4 ?c5 ?_))
              case c1 =>
                intro i' v hj
                have hb := Blk.new w4 3 #[.int .i64 (j : Int)]
                rw [add_plain, Nat.zero_add, hb.cell]
                simpa using hj
              case c2 => simp [Value.oneCell']
              case c3 => unfold maxLen; omega
              case c4 => omega
              case c5 => rw [World.size_alloc]; omega
              intro v' w5 hown5 hgrow5 _
              obtain ⟨a5, cap5, rfl⟩ := own_shape hown5
              have W5 : Below (w.heap.size + 1) wz w5 := (S4.alloc z4 (.cells #[.int .i64 (j : Int)] 3)).grown hgrow5 (by rw [World.size_alloc]; omega) (fun i' e => (HO.out.lt i' e).1)
              have HN2 : Hid (n1 + 1 = (upper f l.length j).length) := by show _ = _; rw [hs.out, List.length_append, ← HN.out]; rfl
              have HO5 : Hid (w5.ownsRow (w.heap.size + 1) 3 1 (.slice a5 (n1 + 1) cap5) (n1 + 1) ((ints (upper f l.length j)).map (Value.int .i64))) := by show World.ownsRow _ _ _ _ _ _ _; rw [hs.out, ints_snoc, List.map_append]; exact hown5
              have hn2 : n1 + 1 ≤ l.length := by rw [HN2.out]; exact hul
              clear hown5 hgrow5
              go_wp2
              go_roundw
              case rel => exact ⟨j, n1 + 1, _, a5, cap5, rfl, rfl, rfl, by omega, HN2, hn2, HO5, W5⟩
              case measure => simp [intOf] <;> omega
        · obtain rfl : j = 0 := by have := HJ.out; omega
          have g1 : decide ((0 : Int) ≤ z) = false := decide_eq_false hz
          have HNa := HN
          have HOa := HO
          have hna := hn1
          clear HJ
          go_wp2
          rename World => wA
          have SA := Lib.hid hW0
          have ZA := Lib.hid z1
          have HWA := Lib.hid hW
          clear hW0 hW y0 t0 t1 z1 HN HO hn1 hjl g1 hz
          go_loopw [8, 10] (fun fv iv wr => ∃ (j n1 : Nat) (A1 : Option Addr) (c1 : Nat), fv = .slice A1 n1 c1 ∧ iv = .int .i64 j ∧ j ≤ l.length ∧ Hid (n1 = (lower g j).length) ∧ n1 ≤ l.length ∧ Hid (wr.ownsRow wA.heap.size 3 1 (.slice A1 n1 c1) n1 ((ints (lower g j)).map (Value.int .i64))) ∧ Below wA.heap.size wA wr) (fun _ iv _ => l.length - (intOf iv).toNat)
          case atStart => exact ⟨0, 0, none, 0, rfl, rfl, Nat.zero_le _, by show _ = _; rw [L0.out]; rfl, Nat.zero_le _, by show World.ownsRow _ _ _ _ _ _ _; rw [L0.out]; exact World.ownsRow_nil _ _ _ _, Below.refl _ _⟩
          case round =>
            obtain ⟨j, n2, A2, c2, rfl, rfl, hjl, HN, hn2', HO, hV⟩ := hrel
            have hW0 := SA.out.trans (hV.mono ZA.out)
            obtain ⟨z1, y0, hW⟩ := HB.out _ hW0
            have t0 := y0.cell 0
            have t1 := y0.cell 1
            by_cases hlt : j < l.length
            · have hs := Lib.hid (lower_step g j)
              have hul := LL.out (j + 1)
              have g1 : decide ((j : Int) < (l.length : Int)) = true := decide_eq_true (by omega)
              have OMj := Lib.hid (fun u => OM.out u j)
              have OIj := Lib.hid (fun u => OI.out u j)
              have fj := HG.out j
              cases hb1' : on l j i with
              | false =>
                rw [hb1'] at fj OIj
                have fj' : g j = false := fj
                rw [fj', if_neg Bool.false_ne_true, List.append_nil] at hs
                clear fj fj' hb1'
                go_wp2_with (go_at_call 47; (with_reducible refine (OIj.out _ hW).mono ?_); rintro e w3 ⟨rfl, hb3⟩; have S3 := hW0.trans (hb3.mono z1); have V3 := hV.trans (hb3.mono hV.size); obtain ⟨z3, y3, hW3⟩ := HB.out _ S3; have t2 := y3.cell 0; have t3 := y3.cell 1)
                have HO3 := Lib.hid (HO.out.kept (gb_below none hb3) (by cases hv : (Value.slice A2 n2 c2).ownBlock <;> simp))
                go_roundw
                case rel => exact ⟨j + 1, n2, A2, c2, rfl, by go_num, by omega, by show _ = _; rw [hs.out]; exact HN.out, hn2', by show World.ownsRow _ _ _ _ _ _ _; rw [hs.out]; exact HO3.out, V3⟩
                case measure => simp [intOf] <;> omega
              | true =>
                rw [hb1'] at fj OIj
                cases hb2' : on l j m with
                | true =>
                  rw [hb2'] at fj OMj
                  have fj' : g j = false := fj
                  rw [fj', if_neg Bool.false_ne_true, List.append_nil] at hs
                  clear fj fj' hb1' hb2'
                  go_wp2_with (first
                    | (go_at_call 47; (with_reducible refine (OIj.out _ hW).mono ?_); rintro e w3 ⟨rfl, hb3⟩; have S3 := hW0.trans (hb3.mono z1); have V3 := hV.trans (hb3.mono hV.size); obtain ⟨z3, y3, hW3⟩ := HB.out _ S3; have t2 := y3.cell 0; have t3 := y3.cell 1)
                    | (go_at_call 47; (with_reducible refine (OMj.out _ hW3).mono ?_); rintro e w4 ⟨rfl, hb4⟩; have S4 := S3.trans (hb4.mono z3); have V4 := V3.trans (hb4.mono V3.size); obtain ⟨z4, y4, hW4⟩ := HB.out _ S4; have t4 := y4.cell 0; have t5 := y4.cell 1))
                  have HO3 := Lib.hid ((HO.out.kept (gb_below none hb3) (by cases hv : (Value.slice A2 n2 c2).ownBlock <;> simp)).kept (gb_below none hb4) (by cases hv : (Value.slice A2 n2 c2).ownBlock <;> simp))
                  go_roundw
                  case rel => exact ⟨j + 1, n2, A2, c2, rfl, by go_num, by omega, by show _ = _; rw [hs.out]; exact HN.out, hn2', by show World.ownsRow _ _ _ _ _ _ _; rw [hs.out]; exact HO3.out, V4⟩
                  case measure => simp [intOf] <;> omega
                | false =>
                  rw [hb2'] at fj OMj
                  have fj' : g j = true := fj
                  rw [fj', if_pos rfl] at hs
                  clear fj fj' hb1' hb2'
                  go_wp2_with (first
                    | (go_at_call 47; (with_reducible refine (OIj.out _ hW).mono ?_); rintro e w3 ⟨rfl, hb3⟩; have S3 := hW0.trans (hb3.mono z1); have V3 := hV.trans (hb3.mono hV.size); obtain ⟨z3, y3, hW3⟩ := HB.out _ S3; have t2 := y3.cell 0; have t3 := y3.cell 1)
                    | (go_at_call 47; (with_reducible refine (OMj.out _ hW3).mono ?_); rintro e w4 ⟨rfl, hb4⟩; have S4 := S3.trans (hb4.mono z3); have V4 := V3.trans (hb4.mono V3.size); obtain ⟨z4, y4, hW4⟩ := HB.out _ S4; have t4 := y4.cell 0; have t5 := y4.cell 1)
                    | (at_builtin; have HO4 := Lib.hid ((HO.out.kept (gb_below none hb3) (by cases hv : (Value.slice A2 n2 c2).ownBlock <;> simp)).kept (gb_below none hb4) (by cases hv : (Value.slice A2 n2 c2).ownBlock <;> simp)); refine wpList_append_own _ rfl _ _ 41 rfl wA.heap.size 3 i0 (.int .i64 0) 1 8 Try.underlying41 hi hz0 hz1 hz2 rfl (by decide) _ _ _ rfl (HO4.out.alloc _) ⟨w4.heap.size, 0, none⟩ 1 1 [.int .i64 (j : Int)] rfl rfl ?c1 ?c2 ?c3 ?c4 ?c5 ?_))
                  case c1 =>
                    intro i' v hj
                    have hb := Blk.new w4 3 #[.int .i64 (j : Int)]
                    rw [add_plain, Nat.zero_add, hb.cell]
                    simpa using hj
                  case c2 => simp [Value.oneCell']
                  case c3 => unfold maxLen; omega
                  case c4 => omega
                  case c5 => rw [World.size_alloc]; have := V4.size; omega
                  intro v' w5 hown5 hgrow5 _
                  obtain ⟨a5, cap5, rfl⟩ := own_shape hown5
                  have V5 : Below wA.heap.size wA w5 := (V4.alloc V4.size (.cells #[.int .i64 (j : Int)] 3)).grown hgrow5 (by rw [World.size_alloc]; have := V4.size; omega) (fun i' e => (HO.out.lt i' e).1)
                  have HN2 : Hid (n2 + 1 = (lower g (j + 1)).length) := by show _ = _; rw [hs.out, List.length_append, ← HN.out]; rfl
                  have HO5 : Hid (w5.ownsRow wA.heap.size 3 1 (.slice a5 (n2 + 1) cap5) (n2 + 1) ((ints (lower g (j + 1))).map (Value.int .i64))) := by show World.ownsRow _ _ _ _ _ _ _; rw [hs.out, ints_snoc, List.map_append]; exact hown5
                  have hn2 : n2 + 1 ≤ l.length := by rw [HN2.out]; omega
                  clear hown5 hgrow5
                  go_wp2
                  go_roundw
                  case rel => exact ⟨j + 1, n2 + 1, a5, cap5, rfl, by go_num, by omega, HN2, hn2, HO5, V5⟩
                  case measure => simp [intOf] <;> omega
            · obtain rfl : j = l.length := by omega
              have g1 : decide ((l.length : Int) < (l.length : Int)) = false := decide_eq_false (by omega)
              go_wp2
              go_ret3
              rw [H.out]
              have e1 := HNa.out
              have e2 := HN.out
              refine ⟨A1, A2, c1, c2, ?_, (Ints.of_own (v := .slice A1 n1 c1) (n := n1) (c := c1) (by rw [ints_length, ← e1]; exact HOa.out) rfl).grown (gb_below none hV) (by simp), Ints.of_own (v := .slice A2 n2 c2) (n := n2) (c := c2) (by rw [ints_length, ← e2]; exact HO.out) rfl, hW⟩
              simp only [ints_length, ← e1, ← e2]
              rfl
    · rw [decide_eq_false hk] at HAS
      have H : Hid (path l cur k = ([], [], 7)) := by show _ = _; rw [path, if_neg (fun h => h hR), if_pos hk]
      clear hx hR hk
      go_enter Try.func28, Try.ntmps28
      go_wp2_with (first
        | (go_at_call 13; refine (R.out _ hx2.out).mono ?_; rintro e w1 ⟨rfl, hb1⟩; obtain ⟨z1, y0, y1⟩ := HB.out _ hb1; have t0 := y0.cell 0; have t1 := y0.cell 1)
        | (go_at_call 43; refine (HAS.out _).mono ?_; rintro e w2 ⟨rfl, hb2⟩; have S2 := hb1.trans (hb2.mono hb1.size); obtain ⟨z2, x0, x1⟩ := HB.out _ S2))
      go_ret3
      rw [H.out]
      exact pathIs_nil x1
  · rw [decide_eq_false hR] at R
    have H : Hid (path l cur k = ([], [], 1)) := by show _ = _; rw [path, if_pos hR]
    clear hx hR
    go_enter Try.func28, Try.ntmps28
    go_wp2_with (go_at_call 13; refine (R.out _ hx2.out).mono ?_; rintro e w1 ⟨rfl, hb1⟩; obtain ⟨z1, y0, y1⟩ := HB.out _ hb1; have t0 := y0.cell 0; have t1 := y0.cell 1)
    go_ret3
    rw [H.out]
    exact pathIs_nil y1
end Go.Proofs.Ytffihchkmcddeaa
