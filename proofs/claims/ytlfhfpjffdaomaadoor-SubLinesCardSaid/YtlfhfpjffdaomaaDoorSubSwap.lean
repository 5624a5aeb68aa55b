/-
  Package sub: Swap.
-/
import Derived.Test.YtlfhfpjffdaomaaDoorSubSwaps
import Derived.Test.YtlfhfpjffdaomaaDoorSubPut
import Derived.Test.YtlfhfpjffdaomaaDoorLineClamp
namespace Go.Proofs.YtlfhfpjffdaomaaDoor
open Go.RowKit
open Gl Btc
namespace Sb
/-- What Swap answers. -/
def swapV (v : List UInt8 × Int × Int) : Value := .tuple #[.string (bs v.1), .int .i64 v.2.1, .int .i64 v.2.2]
theorem swap_arg {s : List UInt8} {a b : Int} {p r : List UInt8} {all : Bool} (h : ¬ (there s a b ∧ p ≠ [] ∧ plain p ∧ plain r)) : swap s a b p r all = ([], 0, 1) := if_neg h
theorem swap_no {s : List UInt8} {i j : Nat} {p r : List UInt8} {all : Bool} (h : there s (i : Int) (j : Int) ∧ p ≠ [] ∧ plain p ∧ plain r) (hc : cnt p (most s all) (mids i j (Ix.parts s)) = 0) : swap s (i : Int) (j : Int) p r all = ([], 0, 7) := by
  rw [swap, if_pos h, Int.toNat_natCast, Int.toNat_natCast, if_pos hc]
theorem swap_big {s : List UInt8} {i j : Nat} {p r : List UInt8} {all : Bool} (h : there s (i : Int) (j : Int) ∧ p ≠ [] ∧ plain p ∧ plain r) (hc : cnt p (most s all) (mids i j (Ix.parts s)) ≠ 0) (hb : 4096 < (glue (rows p r (most s all) i j (Ix.parts s))).length) : swap s (i : Int) (j : Int) p r all = ([], 0, 8) := by
  rw [swap, if_pos h, Int.toNat_natCast, Int.toNat_natCast, if_neg hc, if_pos hb]
theorem swap_ok {s : List UInt8} {i j : Nat} {p r : List UInt8} {all : Bool} (h : there s (i : Int) (j : Int) ∧ p ≠ [] ∧ plain p ∧ plain r) (hc : cnt p (most s all) (mids i j (Ix.parts s)) ≠ 0) (hb : ¬ 4096 < (glue (rows p r (most s all) i j (Ix.parts s))).length) :
    swap s (i : Int) (j : Int) p r all = (glue (rows p r (most s all) i j (Ix.parts s)), Line.first (glue (rows p r (most s all) i j (Ix.parts s))) (lst p (most s all) (i : Nat) (-1) (mids i j (Ix.parts s))), 0) := by
  rw [swap, if_pos h, Int.toNat_natCast, Int.toNat_natCast, if_neg hc, if_neg hb]
end Sb
set_option maxHeartbeats 1000000 in
set_option maxRecDepth 100000 in
theorem sub_Swap_there (s p r : ByteArray) (a b : Int) (all : Bool) (hs : s.size ≤ 10000) (h : ¬ Sb.there s.data.toList a b) (w : World) :
    Calls Tryd.prog 8 #[.string s, .int .i64 a, .int .i64 b, .string p, .string r, .bool all] w fun e w' => e = .returned (Sb.swapV (Sb.swap s.data.toList a b p.data.toList r.data.toList all)) ∧ Below w.heap.size w w' := by
  have R := Lib.hid (fun w => sub_Range s a b (by omega) w)
  rw [Sb.range_none h, Sb.rangeV] at R
  have H := Lib.hid (Sb.swap_arg (p := p.data.toList) (r := r.data.toList) (all := all) (fun hh : Sb.there s.data.toList a b ∧ _ => h hh.1))
  clear h
  go_enter Tryd.func8, Tryd.ntmps8
  go_wp2_with (first
    | (go_at_call 10; (with_reducible refine (R.out _).mono ?_); rintro e u ⟨rfl, hb⟩; have hX := hb.alloc hb.size (.cells #[.int .i64 0, .int .i64 0, .bool false] 32)))
  go_ret3
  exact ⟨by rw [H.out]; rfl, hX⟩
set_option maxHeartbeats 1000000 in
set_option maxRecDepth 100000 in
theorem sub_Swap_pattern (s p r : ByteArray) (a b : Int) (all : Bool) (hs : s.size ≤ 10000) (hp : p.size ≤ 281474976710656) (h : Sb.there s.data.toList a b) (h2 : ¬ (p.data.toList ≠ [] ∧ Sb.plain p.data.toList)) (w : World) :
    Calls Tryd.prog 8 #[.string s, .int .i64 a, .int .i64 b, .string p, .string r, .bool all] w fun e w' => e = .returned (Sb.swapV (Sb.swap s.data.toList a b p.data.toList r.data.toList all)) ∧ Below w.heap.size w w' := by
  have R := Lib.hid (fun w => sub_Range s a b (by omega) w)
  have P := Lib.hid (fun w => sub_pattern p hp w)
  rw [Sb.range_some h, Sb.rangeV] at R
  rw [decide_eq_false h2] at P
  have H := Lib.hid (Sb.swap_arg (r := r.data.toList) (all := all) (fun hh : Sb.there s.data.toList a b ∧ p.data.toList ≠ [] ∧ Sb.plain p.data.toList ∧ _ => h2 ⟨hh.2.1, hh.2.2.1⟩))
  clear h h2
  generalize Line.start s.data.toList a = x at *
  generalize Line.stop s.data.toList b = y at *
  go_enter Tryd.func8, Tryd.ntmps8
  go_wp2_with (first
    | (go_at_call 10; (with_reducible refine (R.out _).mono ?_); rintro e u ⟨rfl, hb⟩; have hX := hb.alloc hb.size (.cells #[.int .i64 x, .int .i64 y, .bool true] 32))
    | (go_at_call 19; (with_reducible refine (P.out _).mono ?_); rintro e u2 ⟨rfl, hb2⟩; replace hX := hX.trans (hb2.mono hX.size)))
  go_ret3
  exact ⟨by rw [H.out]; rfl, hX⟩
set_option maxHeartbeats 1000000 in
set_option maxRecDepth 100000 in
theorem sub_Swap_plain (s p r : ByteArray) (a b : Int) (all : Bool) (hs : s.size ≤ 10000) (hp : p.size ≤ 281474976710656) (hr : r.size ≤ 1000000000) (h : Sb.there s.data.toList a b) (h2 : p.data.toList ≠ [] ∧ Sb.plain p.data.toList) (h3 : ¬ Sb.plain r.data.toList) (w : World) :
    Calls Tryd.prog 8 #[.string s, .int .i64 a, .int .i64 b, .string p, .string r, .bool all] w fun e w' => e = .returned (Sb.swapV (Sb.swap s.data.toList a b p.data.toList r.data.toList all)) ∧ Below w.heap.size w w' := by
  have R := Lib.hid (fun w => sub_Range s a b (by omega) w)
  have P := Lib.hid (fun w => sub_pattern p hp w)
  rw [Sb.range_some h, Sb.rangeV] at R
  have Q := Lib.hid (fun w => sub_plain r (by omega) w)
  rw [decide_eq_true h2] at P
  rw [decide_eq_false h3] at Q
  have H := Lib.hid (Sb.swap_arg (all := all) (fun hh : Sb.there s.data.toList a b ∧ p.data.toList ≠ [] ∧ Sb.plain p.data.toList ∧ Sb.plain r.data.toList => h3 hh.2.2.2))
  clear h h2 h3
  generalize Line.start s.data.toList a = x at *
  generalize Line.stop s.data.toList b = y at *
  go_enter Tryd.func8, Tryd.ntmps8
  go_wp2_with (first
    | (go_at_call 10; (with_reducible refine (R.out _).mono ?_); rintro e u ⟨rfl, hb⟩; have hX := hb.alloc hb.size (.cells #[.int .i64 x, .int .i64 y, .bool true] 32))
    | (go_at_call 19; (with_reducible refine (P.out _).mono ?_); rintro e u2 ⟨rfl, hb2⟩; replace hX := hX.trans (hb2.mono hX.size))
    | (go_at_call 20; (with_reducible refine (Q.out _).mono ?_); rintro e u3 ⟨rfl, hb3⟩; replace hX := hX.trans (hb3.mono hX.size)))
  go_ret3
  exact ⟨by rw [H.out]; rfl, hX⟩
set_option maxHeartbeats 1000000 in
set_option maxRecDepth 100000 in
theorem sub_Swap_none (s p r : ByteArray) {i j : Nat} {x y : Nat × Nat} (all : Bool) (hs : s.size ≤ 10000) (hp : p.size ≤ 281474976710656) (hr : r.size ≤ 1000000000) (h : Sb.there s.data.toList (i : Int) (j : Int) ∧ p.data.toList ≠ [] ∧ Sb.plain p.data.toList ∧ Sb.plain r.data.toList) (hx : (Line.L s.data.toList)[i]? = some x) (hy : (Line.L s.data.toList)[j]? = some y) (hc : Sb.cnt p.data.toList (Sb.most s.data.toList all) (Sb.mids i j (Ix.parts s.data.toList)) = 0) {w : World} (hm : MaxAt w) :
    Calls Tryd.prog 8 #[.string s, .int .i64 i, .int .i64 j, .string p, .string r, .bool all] w fun e w' => e = .returned (Sb.swapV (Sb.swap s.data.toList (i : Int) (j : Int) p.data.toList r.data.toList all)) ∧ Below w.heap.size w w' := by
  have R := Lib.hid (fun w => sub_Range s (i : Int) (j : Int) (by omega) w)
  have P := Lib.hid (fun w => sub_pattern p hp w)
  have Q := Lib.hid (fun w => sub_plain r (by omega) w)
  have hij : i ≤ j := by have := h.1.2.1; omega
  have ht : Utf.valid s.data.toList = true := Line.L_valid hx
  rw [Sb.range_some h.1, Sb.rangeV, Line.start_some (by rw [Line.line_nat]; exact hx), Line.stop_some (by rw [Line.line_nat]; exact hy)] at R
  rw [decide_eq_true (And.intro h.2.1 h.2.2.1)] at P
  rw [decide_eq_true h.2.2.2] at Q
  have BX : Hid (∀ (u v : World), Below (u.alloc (.cells #[.int .i64 x.1, .int .i64 y.2, .bool true] 32)).heap.size (u.alloc (.cells #[.int .i64 x.1, .int .i64 y.2, .bool true] 32)) v → v.cell? ⟨u.heap.size, 0, none⟩ = some (.int .i64 x.1) ∧ v.cell? ⟨u.heap.size, 1, none⟩ = some (.int .i64 y.2) ∧ v.cell? ⟨u.heap.size, 2, none⟩ = some (.bool true)) := fun u v hv => by
    have b0 := (Blk.new u 32 #[.int .i64 x.1, .int .i64 y.2, .bool true]).below hv (by simp)
    exact ⟨b0.cell 0, b0.cell 1, b0.cell 2⟩
  have SW : Hid (∀ u, MaxAt u → Calls Tryd.prog 21 #[.string s, .agg #[.int .i64 x.1, .int .i64 y.2, .bool true], .string p, .string r, .bool all] u fun e w' => ∃ A c, e = .returned (.slice A 0 c) ∧ Below u.heap.size u w') := fun u hu => (sub_swaps s p r all hij hx hy (by omega) h.2.1 h.2.2.1.1 h.2.2.2.1 hu).mono (by
    rintro e w' ⟨ks, A, c, rfl, _, hb, hG⟩
    obtain rfl := hG.none.2 hc
    exact ⟨A, c, rfl, hb⟩)
  have H := Lib.hid (Sb.swap_no (all := all) h hc)
  clear h hx hy hc ht hij
  generalize x.1 = x at *
  generalize y.2 = y at *
  go_enter Tryd.func8, Tryd.ntmps8
  go_wp2_with (first
    | (go_at_call 10; (with_reducible refine (R.out _).mono ?_); rintro e u ⟨rfl, hb⟩; have hX := hb.alloc hb.size (.cells #[.int .i64 x, .int .i64 y, .bool true] 32); replace hm := hm.below hX)
    | (go_at_call 19; (with_reducible refine (P.out _).mono ?_); rintro e u2 ⟨rfl, hb2⟩; replace hX := hX.trans (hb2.mono hX.size); have hY := hb2; replace hm := hm.below hb2)
    | (go_at_call 20; (with_reducible refine (Q.out _).mono ?_); rintro e u3 ⟨rfl, hb3⟩; replace hX := hX.trans (hb3.mono hX.size); obtain ⟨c0, c1, c2⟩ := BX.out _ _ (hY.trans (hb3.mono hY.size)); replace hm := hm.below hb3)
    | (go_at_call 21; (with_reducible refine (SW.out _ hm).mono ?_); rintro e u4 ⟨A, c, rfl, hb4⟩; replace hX := hX.trans (hb4.mono hX.size)))
  go_ret3
  exact ⟨by rw [H.out]; rfl, hX⟩
set_option maxHeartbeats 1000000 in
set_option maxRecDepth 100000 in
theorem sub_Swap_big (s p r : ByteArray) {i j : Nat} {x y : Nat × Nat} (all : Bool) (hs : s.size ≤ 10000) (hp : p.size ≤ 281474976710656) (hr : r.size ≤ 1000000000) (h : Sb.there s.data.toList (i : Int) (j : Int) ∧ p.data.toList ≠ [] ∧ Sb.plain p.data.toList ∧ Sb.plain r.data.toList) (hx : (Line.L s.data.toList)[i]? = some x) (hy : (Line.L s.data.toList)[j]? = some y) (hc : Sb.cnt p.data.toList (Sb.most s.data.toList all) (Sb.mids i j (Ix.parts s.data.toList)) ≠ 0) (hbg : 4096 < (glue (Sb.rows p.data.toList r.data.toList (Sb.most s.data.toList all) i j (Ix.parts s.data.toList))).length) {w : World} (hm : MaxAt w) :
    Calls Tryd.prog 8 #[.string s, .int .i64 i, .int .i64 j, .string p, .string r, .bool all] w fun e w' => e = .returned (Sb.swapV (Sb.swap s.data.toList (i : Int) (j : Int) p.data.toList r.data.toList all)) ∧ Below w.heap.size w w' := by
  have R := Lib.hid (fun w => sub_Range s (i : Int) (j : Int) (by omega) w)
  have P := Lib.hid (fun w => sub_pattern p hp w)
  have Q := Lib.hid (fun w => sub_plain r (by omega) w)
  have hij : i ≤ j := by have := h.1.2.1; omega
  have ht : Utf.valid s.data.toList = true := Line.L_valid hx
  rw [Sb.range_some h.1, Sb.rangeV, Line.start_some (by rw [Line.line_nat]; exact hx), Line.stop_some (by rw [Line.line_nat]; exact hy)] at R
  rw [decide_eq_true (And.intro h.2.1 h.2.2.1)] at P
  rw [decide_eq_true h.2.2.2] at Q
  have BX : Hid (∀ (u v : World), Below (u.alloc (.cells #[.int .i64 x.1, .int .i64 y.2, .bool true] 32)).heap.size (u.alloc (.cells #[.int .i64 x.1, .int .i64 y.2, .bool true] 32)) v → v.cell? ⟨u.heap.size, 0, none⟩ = some (.int .i64 x.1) ∧ v.cell? ⟨u.heap.size, 1, none⟩ = some (.int .i64 y.2) ∧ v.cell? ⟨u.heap.size, 2, none⟩ = some (.bool true)) := fun u v hv => by
    have b0 := (Blk.new u 32 #[.int .i64 x.1, .int .i64 y.2, .bool true]).below hv (by simp)
    exact ⟨b0.cell 0, b0.cell 1, b0.cell 2⟩
  have SW : Hid (∀ u, MaxAt u → Calls Tryd.prog 21 #[.string s, .agg #[.int .i64 x.1, .int .i64 y.2, .bool true], .string p, .string r, .bool all] u fun e w' => ∃ n b' off c z, n ≤ 10000 ∧ e = .returned (.slice (some ⟨b', off, none⟩) (n + 1) c) ∧ Below u.heap.size u w' ∧
      (∀ v, Below w'.heap.size w' v → Calls Tryd.prog 22 #[.string s, .slice (some ⟨b', off, none⟩) (n + 1) c] v fun e' v' => e' = .returned (.tuple #[.string ⟨#[]⟩, .int .i64 8]) ∧ Below v.heap.size v v') ∧
      (∀ v, Below w'.heap.size w' v → v.cell? ⟨b', off + n * 3, none⟩ = some (.int .i64 z)) ∧ (∀ v, Calls Tryd.prog 18 #[.string s, .int .i64 z] v fun e' v' => e' = .returned (.int .i64 (Sb.lst p.data.toList (Sb.most s.data.toList all) (i : Nat) (-1) (Sb.mids i j (Ix.parts s.data.toList)))) ∧ Below v.heap.size v v')) := fun u hu => (sub_swaps s p r all hij hx hy (by omega) h.2.1 h.2.2.1.1 h.2.2.2.1 hu).mono (by
    rintro e w' ⟨ks, A, c, rfl, hC, hb, hG⟩
    obtain ⟨hm1, hm2, hm3, hm4, hm5, hm6, hm7⟩ := hG.made
    rw [data_len] at hm3 hm4 hm5 hm6
    have hne : ks ≠ [] := fun e => hc (hG.none.1 e)
    obtain ⟨n, hn⟩ : ∃ n, ks.length = n + 1 := ⟨ks.length - 1, by have := List.length_pos_iff.2 hne; omega⟩
    obtain ⟨k, hk, hz⟩ := hG.last_at hn
    obtain ⟨b', off, rfl, _, hcell⟩ := hC (by omega)
    have hwm : ks.length * r.size ≤ 10000 * 1000000000 := Nat.mul_le_mul (by omega) hr
    have PU := fun v (hv : Below w'.heap.size w' v) => sub_put s (V := ⟨#[]⟩) (e := 8) (c := c) (hC.below hv) (by omega) (by omega) (by omega) (fun _ => ⟨rfl, rfl⟩) (fun hh => absurd (by rw [← hm3, hm2]; omega) hh)
    refine ⟨n, b', off, c, k.at_, by omega, by rw [hn], hb, ?_, fun v hv => ?_, fun v => ?_⟩
    · rw [hn] at PU; exact fun v hv => PU v hv
    · obtain ⟨b2, off2, e2, _, hc2⟩ := (hC.below hv) (by omega)
      injection e2 with e2
      injection e2 with e2 e3 _
      subst e2 e3
      exact (hc2 n k hk).1
    · have := line_Of s k.at_ (by omega) v
      rwa [hz] at this)
  have H := Lib.hid (Sb.swap_big (all := all) h hc hbg)
  have hTl : Hid (4096 < (glue (Sb.rows p.data.toList r.data.toList (Sb.most s.data.toList all) i j (Ix.parts s.data.toList))).length ∨ True) := .inr trivial
  clear h hx hy hc ht hij hbg hTl
  generalize Sb.lst p.data.toList (Sb.most s.data.toList all) (i : Nat) (-1) (Sb.mids i j (Ix.parts s.data.toList)) = Z at *
  generalize x.1 = x at *
  generalize y.2 = y at *
  go_enter Tryd.func8, Tryd.ntmps8
  go_wp2_with (first
    | (go_at_call 10; (with_reducible refine (R.out _).mono ?_); rintro e u ⟨rfl, hb⟩; have hX := hb.alloc hb.size (.cells #[.int .i64 x, .int .i64 y, .bool true] 32); replace hm := hm.below hX)
    | (go_at_call 19; (with_reducible refine (P.out _).mono ?_); rintro e u2 ⟨rfl, hb2⟩; replace hX := hX.trans (hb2.mono hX.size); have hY := hb2; replace hm := hm.below hb2)
    | (go_at_call 20; (with_reducible refine (Q.out _).mono ?_); rintro e u3 ⟨rfl, hb3⟩; replace hX := hX.trans (hb3.mono hX.size); obtain ⟨c0, c1, c2⟩ := BX.out _ _ (hY.trans (hb3.mono hY.size)); replace hm := hm.below hb3)
    | (go_at_call 21; (with_reducible refine (SW.out _ hm).mono ?_); rintro e u4 ⟨n, b', off, c, z, hn, rfl, hb4, hPU, hCE, hOF⟩; have w1 : IntKind.i64.wrap (n : Int) = (n : Int) := sub_wrap (by omega) (by omega); have PU := Lib.hid hPU; have CE := Lib.hid hCE; have OF := Lib.hid hOF; clear hPU hCE hOF; replace hX := hX.trans (hb4.mono hX.size); have n1 : ((n : Int) + 1 == 0) = false := (by rw [beq_eq_false_iff_ne]; omega))
    | (go_at_call 22; (with_reducible refine (PU.out _ (Below.refl _ _)).mono ?_); rintro e u5 ⟨rfl, hb5⟩; have c5 := CE.out _ hb5; replace hX := hX.trans (hb5.mono hX.size)))
  go_ret3
  exact ⟨by rw [H.out]; rfl, hX⟩
set_option maxHeartbeats 1000000 in
set_option maxRecDepth 100000 in
theorem sub_Swap_ok (s p r : ByteArray) {i j : Nat} {x y : Nat × Nat} (all : Bool) (hs : s.size ≤ 10000) (hp : p.size ≤ 281474976710656) (hr : r.size ≤ 1000000000) (h : Sb.there s.data.toList (i : Int) (j : Int) ∧ p.data.toList ≠ [] ∧ Sb.plain p.data.toList ∧ Sb.plain r.data.toList) (hx : (Line.L s.data.toList)[i]? = some x) (hy : (Line.L s.data.toList)[j]? = some y) (hc : Sb.cnt p.data.toList (Sb.most s.data.toList all) (Sb.mids i j (Ix.parts s.data.toList)) ≠ 0) (hbg : ¬ 4096 < (glue (Sb.rows p.data.toList r.data.toList (Sb.most s.data.toList all) i j (Ix.parts s.data.toList))).length) {w : World} (hm : MaxAt w) :
    Calls Tryd.prog 8 #[.string s, .int .i64 i, .int .i64 j, .string p, .string r, .bool all] w fun e w' => e = .returned (Sb.swapV (Sb.swap s.data.toList (i : Int) (j : Int) p.data.toList r.data.toList all)) ∧ Below w.heap.size w w' := by
  have R := Lib.hid (fun w => sub_Range s (i : Int) (j : Int) (by omega) w)
  have P := Lib.hid (fun w => sub_pattern p hp w)
  have Q := Lib.hid (fun w => sub_plain r (by omega) w)
  have hij : i ≤ j := by have := h.1.2.1; omega
  have ht : Utf.valid s.data.toList = true := Line.L_valid hx
  rw [Sb.range_some h.1, Sb.rangeV, Line.start_some (by rw [Line.line_nat]; exact hx), Line.stop_some (by rw [Line.line_nat]; exact hy)] at R
  rw [decide_eq_true (And.intro h.2.1 h.2.2.1)] at P
  rw [decide_eq_true h.2.2.2] at Q
  have BX : Hid (∀ (u v : World), Below (u.alloc (.cells #[.int .i64 x.1, .int .i64 y.2, .bool true] 32)).heap.size (u.alloc (.cells #[.int .i64 x.1, .int .i64 y.2, .bool true] 32)) v → v.cell? ⟨u.heap.size, 0, none⟩ = some (.int .i64 x.1) ∧ v.cell? ⟨u.heap.size, 1, none⟩ = some (.int .i64 y.2) ∧ v.cell? ⟨u.heap.size, 2, none⟩ = some (.bool true)) := fun u v hv => by
    have b0 := (Blk.new u 32 #[.int .i64 x.1, .int .i64 y.2, .bool true]).below hv (by simp)
    exact ⟨b0.cell 0, b0.cell 1, b0.cell 2⟩
  have SW : Hid (∀ u, MaxAt u → Calls Tryd.prog 21 #[.string s, .agg #[.int .i64 x.1, .int .i64 y.2, .bool true], .string p, .string r, .bool all] u fun e w' => ∃ n b' off c z, n ≤ 10000 ∧ e = .returned (.slice (some ⟨b', off, none⟩) (n + 1) c) ∧ Below u.heap.size u w' ∧
      (∀ v, Below w'.heap.size w' v → Calls Tryd.prog 22 #[.string s, .slice (some ⟨b', off, none⟩) (n + 1) c] v fun e' v' => e' = .returned (.tuple #[.string (bs (glue (Sb.rows p.data.toList r.data.toList (Sb.most s.data.toList all) i j (Ix.parts s.data.toList)))), .int .i64 0]) ∧ Below v.heap.size v v') ∧
      (∀ v, Below w'.heap.size w' v → v.cell? ⟨b', off + n * 3, none⟩ = some (.int .i64 z)) ∧ (∀ v, Calls Tryd.prog 18 #[.string s, .int .i64 z] v fun e' v' => e' = .returned (.int .i64 (Sb.lst p.data.toList (Sb.most s.data.toList all) (i : Nat) (-1) (Sb.mids i j (Ix.parts s.data.toList)))) ∧ Below v.heap.size v v')) := fun u hu => (sub_swaps s p r all hij hx hy (by omega) h.2.1 h.2.2.1.1 h.2.2.2.1 hu).mono (by
    rintro e w' ⟨ks, A, c, rfl, hC, hb, hG⟩
    obtain ⟨hm1, hm2, hm3, hm4, hm5, hm6, hm7⟩ := hG.made
    rw [data_len] at hm3 hm4 hm5 hm6
    have hne : ks ≠ [] := fun e => hc (hG.none.1 e)
    obtain ⟨n, hn⟩ : ∃ n, ks.length = n + 1 := ⟨ks.length - 1, by have := List.length_pos_iff.2 hne; omega⟩
    obtain ⟨k, hk, hz⟩ := hG.last_at hn
    obtain ⟨b', off, rfl, _, hcell⟩ := hC (by omega)
    have hwm : ks.length * r.size ≤ 10000 * 1000000000 := Nat.mul_le_mul (by omega) hr
    have PU := fun v (hv : Below w'.heap.size w' v) => sub_put s (V := (bs (glue (Sb.rows p.data.toList r.data.toList (Sb.most s.data.toList all) i j (Ix.parts s.data.toList))))) (e := 0) (c := c) (hC.below hv) (by omega) (by omega) (by omega) (fun hh => absurd hh (by rw [← hm3, hm2]; omega)) (fun hh v2 hv2 => by
        have := batch_Do s (c := c) ((hC.below hv).below hv2) (by omega) (fun k hk => by have := hm7 k hk; rw [data_len] at this; omega) (by omega) (by omega)
        rwa [done_ok hm1 (by rw [hm2]; exact hbg), hm2] at this)
    refine ⟨n, b', off, c, k.at_, by omega, by rw [hn], hb, ?_, fun v hv => ?_, fun v => ?_⟩
    · rw [hn] at PU; exact fun v hv => PU v hv
    · obtain ⟨b2, off2, e2, _, hc2⟩ := (hC.below hv) (by omega)
      injection e2 with e2
      injection e2 with e2 e3 _
      subst e2 e3
      exact (hc2 n k hk).1
    · have := line_Of s k.at_ (by omega) v
      rwa [hz] at this)
  have H := Lib.hid (Sb.swap_ok (all := all) h hc hbg)
  have hTl : Hid (4096 < (glue (Sb.rows p.data.toList r.data.toList (Sb.most s.data.toList all) i j (Ix.parts s.data.toList))).length ∨ True) := .inr trivial
  have F := Lib.hid (fun z w => line_First (bs (glue (Sb.rows p.data.toList r.data.toList (Sb.most s.data.toList all) i j (Ix.parts s.data.toList)))) z (by rw [bs_size]; omega) w)
  rw [bs_toList] at F
  clear h hx hy hc ht hij hbg hTl
  generalize glue (Sb.rows p.data.toList r.data.toList (Sb.most s.data.toList all) i j (Ix.parts s.data.toList)) = T at *
  generalize Sb.lst p.data.toList (Sb.most s.data.toList all) (i : Nat) (-1) (Sb.mids i j (Ix.parts s.data.toList)) = Z at *
  generalize x.1 = x at *
  generalize y.2 = y at *
  go_enter Tryd.func8, Tryd.ntmps8
  go_wp2_with (first
    | (go_at_call 10; (with_reducible refine (R.out _).mono ?_); rintro e u ⟨rfl, hb⟩; have hX := hb.alloc hb.size (.cells #[.int .i64 x, .int .i64 y, .bool true] 32); replace hm := hm.below hX)
    | (go_at_call 19; (with_reducible refine (P.out _).mono ?_); rintro e u2 ⟨rfl, hb2⟩; replace hX := hX.trans (hb2.mono hX.size); have hY := hb2; replace hm := hm.below hb2)
    | (go_at_call 20; (with_reducible refine (Q.out _).mono ?_); rintro e u3 ⟨rfl, hb3⟩; replace hX := hX.trans (hb3.mono hX.size); obtain ⟨c0, c1, c2⟩ := BX.out _ _ (hY.trans (hb3.mono hY.size)); replace hm := hm.below hb3)
    | (go_at_call 21; (with_reducible refine (SW.out _ hm).mono ?_); rintro e u4 ⟨n, b', off, c, z, hn, rfl, hb4, hPU, hCE, hOF⟩; have w1 : IntKind.i64.wrap (n : Int) = (n : Int) := sub_wrap (by omega) (by omega); have PU := Lib.hid hPU; have CE := Lib.hid hCE; have OF := Lib.hid hOF; clear hPU hCE hOF; replace hX := hX.trans (hb4.mono hX.size); have n1 : ((n : Int) + 1 == 0) = false := (by rw [beq_eq_false_iff_ne]; omega))
    | (go_at_call 22; (with_reducible refine (PU.out _ (Below.refl _ _)).mono ?_); rintro e u5 ⟨rfl, hb5⟩; have c5 := CE.out _ hb5; replace hX := hX.trans (hb5.mono hX.size))
    | (go_at_call 18; (with_reducible refine (OF.out _).mono ?_); rintro e u6 ⟨rfl, hb6⟩; replace hX := hX.trans (hb6.mono hX.size))
    | (go_at_call 23; (with_reducible refine (F.out _ _).mono ?_); rintro e u7 ⟨rfl, hb7⟩; replace hX := hX.trans (hb7.mono hX.size)))
  go_ret3
  exact ⟨by rw [H.out]; rfl, hX⟩
theorem sub_Swap (s p r : ByteArray) (a b : Int) (all : Bool) (hs : s.size ≤ 10000) (hp : p.size ≤ 281474976710656) (hr : r.size ≤ 1000000000) {w : World} (hm : MaxAt w) :
    Calls Tryd.prog 8 #[.string s, .int .i64 a, .int .i64 b, .string p, .string r, .bool all] w fun e w' => e = .returned (Sb.swapV (Sb.swap s.data.toList a b p.data.toList r.data.toList all)) ∧ Below w.heap.size w w' := by
  by_cases h : Sb.there s.data.toList a b
  · by_cases h2 : p.data.toList ≠ [] ∧ Sb.plain p.data.toList
    · by_cases h3 : Sb.plain r.data.toList
      · obtain ⟨i, j, x, y, rfl, rfl, _, hx, hy, _, _⟩ := Sb.there_at h
        by_cases hc : Sb.cnt p.data.toList (Sb.most s.data.toList all) (Sb.mids i j (Ix.parts s.data.toList)) = 0
        · exact sub_Swap_none s p r all hs hp hr ⟨h, h2.1, h2.2, h3⟩ hx hy hc hm
        · by_cases hbg : 4096 < (glue (Sb.rows p.data.toList r.data.toList (Sb.most s.data.toList all) i j (Ix.parts s.data.toList))).length
          · exact sub_Swap_big s p r all hs hp hr ⟨h, h2.1, h2.2, h3⟩ hx hy hc hbg hm
          · exact sub_Swap_ok s p r all hs hp hr ⟨h, h2.1, h2.2, h3⟩ hx hy hc hbg hm
      · exact sub_Swap_plain s p r a b all hs hp hr h h2 h3 w
    · exact sub_Swap_pattern s p r a b all hs hp h h2 w
  · exact sub_Swap_there s p r a b all hs h w
end Go.Proofs.YtlfhfpjffdaomaaDoor
