/-
  A pattern and what it is put for, as package ex reads them where they may be: three fields of the line are written.
-/
import Derived.Test.YtcddbdefdenecaaGreatDoorExSwap
import Derived.Deep.RegionHeld3
namespace Go.Proofs.YtcddbdefdenecaaGreatDoor
open Go.RowKit Go.Shelf
open Ex (Ln)
namespace Ex
theorem below_on {w u v : World} (h : Below w.heap.size w u) (g : Below u.heap.size u v) : Below w.heap.size w v := h.trans (g.mono h.size)
theorem below_ond {w u v : World} (h : Below w.heap.size w u) (g : Below u.drew.heap.size u.drew v) : Below w.heap.size w v := h.trans (((below_gb (gb_drew u none)).trans g).mono h.size)
theorem blk456 {W : World} {g : Nat} {t : TypeId} {z0 z1 z2 z3 z4 z5 z6 : Value} (h : Blk W g t #[z0, z1, z2, z3, z4, z5, z6]) (v4 v5 v6 : Value) :
    (W.cell? ⟨g, 4, none⟩ = some z4 ∧ W.frozen? ⟨g, 4, none⟩ = false) ∧ ((W.setCell ⟨g, 4, none⟩ v4).cell? ⟨g, 5, none⟩ = some z5 ∧ (W.setCell ⟨g, 4, none⟩ v4).frozen? ⟨g, 5, none⟩ = false) ∧ (((W.setCell ⟨g, 4, none⟩ v4).setCell ⟨g, 5, none⟩ v5).cell? ⟨g, 6, none⟩ = some z6 ∧ ((W.setCell ⟨g, 4, none⟩ v4).setCell ⟨g, 5, none⟩ v5).frozen? ⟨g, 6, none⟩ = false) ∧ Blk (((W.setCell ⟨g, 4, none⟩ v4).setCell ⟨g, 5, none⟩ v5).setCell ⟨g, 6, none⟩ v6) g t #[z0, z1, z2, z3, v4, v5, v6] := by
  have h1 : Blk (W.setCell ⟨g, 4, none⟩ v4) g t #[z0, z1, z2, z3, v4, z5, z6] := h.set_ 4 v4
  have h2 : Blk ((W.setCell ⟨g, 4, none⟩ v4).setCell ⟨g, 5, none⟩ v5) g t #[z0, z1, z2, z3, v4, v5, z6] := h1.set_ 5 v5
  exact ⟨⟨h.cell 4, h.frozen 4⟩, ⟨h1.cell 5, h1.frozen 5⟩, ⟨h2.cell 6, h2.frozen 6⟩, h2.set_ 6 v6⟩
end Ex
set_option maxHeartbeats 1000000 in
set_option maxRecDepth 100000 in
theorem ex_swap_none {s : ByteArray} {l : Ln} {p : Nat} {a b c d : List UInt8} {w : World} (hs : s.size ≤ 1000000000) (hp : Blk w p 24 l.cells) (h : Ex.prts s.data.toList = [a, b, c, d]) (hb : b.length ≤ 1000000000) (hc : c.length ≤ 1000000000) (ha : a = []) (hb0 : b ≠ []) (hd : d = []) :
    Calls Tryz.prog 65 #[.string s, .pointer (some ⟨p, 0, none⟩)] w (Ex.ReadIs p ({l with pat := b, rep := c, all := false}, 0) w) := by
  have C := Lib.hid (fun w => str_split_four (by omega) h w)
  have t0 : (bs a).toList.isEmpty = true := by rw [bs_tl]; simpa using ha
  have t1 : (bs b).toList.isEmpty = false := by rw [bs_tl]; simpa using hb0
  have t2 : (bs d).toList.isEmpty = true := by rw [bs_tl]; simpa using hd
  have t3 : ((bs d).toList == [103]) = false := by rw [bs_tl, hd]; rfl
  have E1 := Lib.hid (fun w => str_clone (bs b) w (by rw [bs_size]; omega))
  have E2 := Lib.hid (fun w => str_clone (bs c) w (by rw [bs_size]; omega))
  have B0 := Blk.new w 9 #[.string (bs a), .string (bs b), .string (bs c), .string (bs d)]
  have W1 := (Below.refl w.heap.size w).alloc (Nat.le_refl _) (.cells #[.string (bs a), .string (bs b), .string (bs c), .string (bs d)] 9)
  have P1 := hp.below W1 hp.lt
  have hpl := hp.lt
  have c0 := B0.cell 0
  have c1 := B0.cell 1
  have c2 := B0.cell 2
  have c3 := B0.cell 3
  simp only [List.getElem?_toArray, List.getElem?_cons_zero, List.getElem?_cons_succ] at c0 c1 c2 c3
  have FIN : Hid (∀ u : World, Blk u p 24 #[.int .i64 l.frm, .int .i64 l.to, .string (bs l.name), .string (bs l.arg), .string (bs b), .string (bs c), .bool false] → Blk u p 24 ({l with pat := b, rep := c, all := false} : Ln).cells) := Lib.hid (fun _ h => h)
  unfold Ln.cells at P1 hp
  generalize bs a = A at *
  generalize bs b = B' at *
  generalize bs c = C' at *
  generalize bs d = D at *
  have KS : Hid (∀ (u : World) (i : Nat) (v : Value), u.cell? ⟨w.heap.size, 1, none⟩ = some (.string B') → u.cell? ⟨w.heap.size, 2, none⟩ = some (.string C') → u.cell? ⟨w.heap.size, 3, none⟩ = some (.string D) → (u.setCell ⟨p, i, none⟩ v).cell? ⟨w.heap.size, 1, none⟩ = some (.string B') ∧ (u.setCell ⟨p, i, none⟩ v).cell? ⟨w.heap.size, 2, none⟩ = some (.string C') ∧ (u.setCell ⟨p, i, none⟩ v).cell? ⟨w.heap.size, 3, none⟩ = some (.string D)) := Lib.hid (fun u i v h1 h2 h3 => by
    have ne : ∀ k : Nat, some (⟨w.heap.size, k, none⟩ : Addr).block ≠ some p := fun k e => by injection e with e; exact absurd e (by show ¬ w.heap.size = p; omega)
    exact ⟨(gb_set u p i v).cell h1 (ne 1), (gb_set u p i v).cell h2 (ne 2), (gb_set u p i v).cell h3 (ne 3)⟩)
  clear h hb hc hp
  go_enter Tryz.func65, Tryz.ntmps65
  go_wp2_with (go_at_call 77; refine (C.out _).mono ?_; rintro e w1 ⟨rfl, hw⟩; rw [← hw] at c0 c1 c2 c3 W1 P1 B0; clear hw; have hX := Below.refl w1.heap.size w1; have CC : Hid (∀ u, Below w1.heap.size w1 u → ((u.cell? ⟨w.heap.size, 1, none⟩ = some (.string B') ∧ u.cell? ⟨w.heap.size, 2, none⟩ = some (.string C') ∧ u.cell? ⟨w.heap.size, 3, none⟩ = some (.string D)) ∧ ((u.setCell ⟨p, 4, none⟩ (.string B')).cell? ⟨w.heap.size, 1, none⟩ = some (.string B') ∧ (u.setCell ⟨p, 4, none⟩ (.string B')).cell? ⟨w.heap.size, 2, none⟩ = some (.string C') ∧ (u.setCell ⟨p, 4, none⟩ (.string B')).cell? ⟨w.heap.size, 3, none⟩ = some (.string D)) ∧ (((u.setCell ⟨p, 4, none⟩ (.string B')).setCell ⟨p, 5, none⟩ (.string C')).cell? ⟨w.heap.size, 1, none⟩ = some (.string B') ∧ ((u.setCell ⟨p, 4, none⟩ (.string B')).setCell ⟨p, 5, none⟩ (.string C')).cell? ⟨w.heap.size, 2, none⟩ = some (.string C') ∧ ((u.setCell ⟨p, 4, none⟩ (.string B')).setCell ⟨p, 5, none⟩ (.string C')).cell? ⟨w.heap.size, 3, none⟩ = some (.string D)) ∧ ((((u.setCell ⟨p, 4, none⟩ (.string B')).setCell ⟨p, 5, none⟩ (.string C')).setCell ⟨p, 6, none⟩ (.bool false)).cell? ⟨w.heap.size, 1, none⟩ = some (.string B') ∧ (((u.setCell ⟨p, 4, none⟩ (.string B')).setCell ⟨p, 5, none⟩ (.string C')).setCell ⟨p, 6, none⟩ (.bool false)).cell? ⟨w.heap.size, 2, none⟩ = some (.string C') ∧ (((u.setCell ⟨p, 4, none⟩ (.string B')).setCell ⟨p, 5, none⟩ (.string C')).setCell ⟨p, 6, none⟩ (.bool false)).cell? ⟨w.heap.size, 3, none⟩ = some (.string D))) ∧ _) := Lib.hid (fun u hu => ⟨(by have BB := B0.below hu B0.lt; have k := (⟨BB.cell 1, BB.cell 2, BB.cell 3⟩ : (u.cell? ⟨w.heap.size, 1, none⟩ = some (.string B') ∧ u.cell? ⟨w.heap.size, 2, none⟩ = some (.string C') ∧ u.cell? ⟨w.heap.size, 3, none⟩ = some (.string D))); have k1 := KS.out u 4 (.string B') k.1 k.2.1 k.2.2; have k2 := KS.out _ 5 (.string C') k1.1 k1.2.1 k1.2.2; exact ⟨k, k1, k2, KS.out _ 6 (.bool false) k2.1 k2.2.1 k2.2.2⟩), Ex.blk456 (P1.below hu P1.lt) (.string B') (.string C') (.bool false)⟩); clear P1 B0 KS)
  go_region_held3 (fun u => u.cell? ⟨w.heap.size, 1, none⟩ = some (.string B') ∧ u.cell? ⟨w.heap.size, 2, none⟩ = some (.string C') ∧ u.cell? ⟨w.heap.size, 3, none⟩ = some (.string D))
    (first | (with_reducible exact ⟨by assumption, by assumption, by assumption⟩) | go_keep)
    (first
      | (go_at_call 30; (with_reducible refine (E1.out _).mono ?_); rintro e u ⟨rfl, hb1⟩; (first | replace hX := Ex.below_on hX hb1 | replace hX := Ex.below_ond hX hb1); clear hb1; obtain ⟨⟨⟨d1, d2, d3⟩, ⟨e1, e2, e3⟩, ⟨f1, f2, f3⟩, ⟨g1, g2, g3⟩⟩, ⟨x4, y4⟩, ⟨x5, y5⟩, ⟨x6, y6⟩, PP⟩ := CC.out u hX; generalize hu1 : u.setCell ⟨p, 4, none⟩ (.string B') = u1 at *; generalize hu2 : u1.setCell ⟨p, 5, none⟩ (.string C') = u2 at *; generalize hu3 : u2.setCell ⟨p, 6, none⟩ (.bool false) = u3 at *; replace PP := Lib.hid PP)
      | (go_at_call 30; (with_reducible refine (E2.out _).mono ?_); rintro e u ⟨rfl, hb1⟩; (first | replace hX := Ex.below_on hX hb1 | replace hX := Ex.below_ond hX hb1); clear hb1; obtain ⟨⟨⟨d1, d2, d3⟩, ⟨e1, e2, e3⟩, ⟨f1, f2, f3⟩, ⟨g1, g2, g3⟩⟩, ⟨x4, y4⟩, ⟨x5, y5⟩, ⟨x6, y6⟩, PP⟩ := CC.out u hX; generalize hu1 : u.setCell ⟨p, 4, none⟩ (.string B') = u1 at *; generalize hu2 : u1.setCell ⟨p, 5, none⟩ (.string C') = u2 at *; generalize hu3 : u2.setCell ⟨p, 6, none⟩ (.bool false) = u3 at *; replace PP := Lib.hid PP))
  go_wp2
  go_ret
  exact ⟨rfl, fun _ => FIN.out _ PP.out, gb_trans (gb_below _ (W1.trans (hX.mono W1.size))) (by rw [← hu3, ← hu2, ← hu1]; exact gb_trans (gb_trans (gb_set _ p 4 _) (gb_set _ p 5 _)) (gb_set _ p 6 _))⟩
set_option maxHeartbeats 1000000 in
set_option maxRecDepth 100000 in
theorem ex_swap_all {s : ByteArray} {l : Ln} {p : Nat} {a b c d : List UInt8} {w : World} (hs : s.size ≤ 1000000000) (hp : Blk w p 24 l.cells) (h : Ex.prts s.data.toList = [a, b, c, d]) (hb : b.length ≤ 1000000000) (hc : c.length ≤ 1000000000) (ha : a = []) (hb0 : b ≠ []) (hd : d = [103]) :
    Calls Tryz.prog 65 #[.string s, .pointer (some ⟨p, 0, none⟩)] w (Ex.ReadIs p ({l with pat := b, rep := c, all := true}, 0) w) := by
  have C := Lib.hid (fun w => str_split_four (by omega) h w)
  have t0 : (bs a).toList.isEmpty = true := by rw [bs_tl]; simpa using ha
  have t1 : (bs b).toList.isEmpty = false := by rw [bs_tl]; simpa using hb0
  have t2 : (bs d).toList.isEmpty = false := by rw [bs_tl, hd]; rfl
  have t3 : ((bs d).toList == [103]) = true := by rw [bs_tl, hd]; rfl
  have E1 := Lib.hid (fun w => str_clone (bs b) w (by rw [bs_size]; omega))
  have E2 := Lib.hid (fun w => str_clone (bs c) w (by rw [bs_size]; omega))
  have B0 := Blk.new w 9 #[.string (bs a), .string (bs b), .string (bs c), .string (bs d)]
  have W1 := (Below.refl w.heap.size w).alloc (Nat.le_refl _) (.cells #[.string (bs a), .string (bs b), .string (bs c), .string (bs d)] 9)
  have P1 := hp.below W1 hp.lt
  have hpl := hp.lt
  have c0 := B0.cell 0
  have c1 := B0.cell 1
  have c2 := B0.cell 2
  have c3 := B0.cell 3
  simp only [List.getElem?_toArray, List.getElem?_cons_zero, List.getElem?_cons_succ] at c0 c1 c2 c3
  have FIN : Hid (∀ u : World, Blk u p 24 #[.int .i64 l.frm, .int .i64 l.to, .string (bs l.name), .string (bs l.arg), .string (bs b), .string (bs c), .bool true] → Blk u p 24 ({l with pat := b, rep := c, all := true} : Ln).cells) := Lib.hid (fun _ h => h)
  unfold Ln.cells at P1 hp
  generalize bs a = A at *
  generalize bs b = B' at *
  generalize bs c = C' at *
  generalize bs d = D at *
  have KS : Hid (∀ (u : World) (i : Nat) (v : Value), u.cell? ⟨w.heap.size, 1, none⟩ = some (.string B') → u.cell? ⟨w.heap.size, 2, none⟩ = some (.string C') → u.cell? ⟨w.heap.size, 3, none⟩ = some (.string D) → (u.setCell ⟨p, i, none⟩ v).cell? ⟨w.heap.size, 1, none⟩ = some (.string B') ∧ (u.setCell ⟨p, i, none⟩ v).cell? ⟨w.heap.size, 2, none⟩ = some (.string C') ∧ (u.setCell ⟨p, i, none⟩ v).cell? ⟨w.heap.size, 3, none⟩ = some (.string D)) := Lib.hid (fun u i v h1 h2 h3 => by
    have ne : ∀ k : Nat, some (⟨w.heap.size, k, none⟩ : Addr).block ≠ some p := fun k e => by injection e with e; exact absurd e (by show ¬ w.heap.size = p; omega)
    exact ⟨(gb_set u p i v).cell h1 (ne 1), (gb_set u p i v).cell h2 (ne 2), (gb_set u p i v).cell h3 (ne 3)⟩)
  clear h hb hc hp
  go_enter Tryz.func65, Tryz.ntmps65
  go_wp2_with (go_at_call 77; refine (C.out _).mono ?_; rintro e w1 ⟨rfl, hw⟩; rw [← hw] at c0 c1 c2 c3 W1 P1 B0; clear hw; have hX := Below.refl w1.heap.size w1; have CC : Hid (∀ u, Below w1.heap.size w1 u → ((u.cell? ⟨w.heap.size, 1, none⟩ = some (.string B') ∧ u.cell? ⟨w.heap.size, 2, none⟩ = some (.string C') ∧ u.cell? ⟨w.heap.size, 3, none⟩ = some (.string D)) ∧ ((u.setCell ⟨p, 4, none⟩ (.string B')).cell? ⟨w.heap.size, 1, none⟩ = some (.string B') ∧ (u.setCell ⟨p, 4, none⟩ (.string B')).cell? ⟨w.heap.size, 2, none⟩ = some (.string C') ∧ (u.setCell ⟨p, 4, none⟩ (.string B')).cell? ⟨w.heap.size, 3, none⟩ = some (.string D)) ∧ (((u.setCell ⟨p, 4, none⟩ (.string B')).setCell ⟨p, 5, none⟩ (.string C')).cell? ⟨w.heap.size, 1, none⟩ = some (.string B') ∧ ((u.setCell ⟨p, 4, none⟩ (.string B')).setCell ⟨p, 5, none⟩ (.string C')).cell? ⟨w.heap.size, 2, none⟩ = some (.string C') ∧ ((u.setCell ⟨p, 4, none⟩ (.string B')).setCell ⟨p, 5, none⟩ (.string C')).cell? ⟨w.heap.size, 3, none⟩ = some (.string D)) ∧ ((((u.setCell ⟨p, 4, none⟩ (.string B')).setCell ⟨p, 5, none⟩ (.string C')).setCell ⟨p, 6, none⟩ (.bool true)).cell? ⟨w.heap.size, 1, none⟩ = some (.string B') ∧ (((u.setCell ⟨p, 4, none⟩ (.string B')).setCell ⟨p, 5, none⟩ (.string C')).setCell ⟨p, 6, none⟩ (.bool true)).cell? ⟨w.heap.size, 2, none⟩ = some (.string C') ∧ (((u.setCell ⟨p, 4, none⟩ (.string B')).setCell ⟨p, 5, none⟩ (.string C')).setCell ⟨p, 6, none⟩ (.bool true)).cell? ⟨w.heap.size, 3, none⟩ = some (.string D))) ∧ _) := Lib.hid (fun u hu => ⟨(by have BB := B0.below hu B0.lt; have k := (⟨BB.cell 1, BB.cell 2, BB.cell 3⟩ : (u.cell? ⟨w.heap.size, 1, none⟩ = some (.string B') ∧ u.cell? ⟨w.heap.size, 2, none⟩ = some (.string C') ∧ u.cell? ⟨w.heap.size, 3, none⟩ = some (.string D))); have k1 := KS.out u 4 (.string B') k.1 k.2.1 k.2.2; have k2 := KS.out _ 5 (.string C') k1.1 k1.2.1 k1.2.2; exact ⟨k, k1, k2, KS.out _ 6 (.bool true) k2.1 k2.2.1 k2.2.2⟩), Ex.blk456 (P1.below hu P1.lt) (.string B') (.string C') (.bool true)⟩); clear P1 B0 KS)
  go_region_held3 (fun u => u.cell? ⟨w.heap.size, 1, none⟩ = some (.string B') ∧ u.cell? ⟨w.heap.size, 2, none⟩ = some (.string C') ∧ u.cell? ⟨w.heap.size, 3, none⟩ = some (.string D))
    (first | (with_reducible exact ⟨by assumption, by assumption, by assumption⟩) | go_keep)
    (first
      | (go_at_call 30; (with_reducible refine (E1.out _).mono ?_); rintro e u ⟨rfl, hb1⟩; (first | replace hX := Ex.below_on hX hb1 | replace hX := Ex.below_ond hX hb1); clear hb1; obtain ⟨⟨⟨d1, d2, d3⟩, ⟨e1, e2, e3⟩, ⟨f1, f2, f3⟩, ⟨g1, g2, g3⟩⟩, ⟨x4, y4⟩, ⟨x5, y5⟩, ⟨x6, y6⟩, PP⟩ := CC.out u hX; generalize hu1 : u.setCell ⟨p, 4, none⟩ (.string B') = u1 at *; generalize hu2 : u1.setCell ⟨p, 5, none⟩ (.string C') = u2 at *; generalize hu3 : u2.setCell ⟨p, 6, none⟩ (.bool true) = u3 at *; replace PP := Lib.hid PP)
      | (go_at_call 30; (with_reducible refine (E2.out _).mono ?_); rintro e u ⟨rfl, hb1⟩; (first | replace hX := Ex.below_on hX hb1 | replace hX := Ex.below_ond hX hb1); clear hb1; obtain ⟨⟨⟨d1, d2, d3⟩, ⟨e1, e2, e3⟩, ⟨f1, f2, f3⟩, ⟨g1, g2, g3⟩⟩, ⟨x4, y4⟩, ⟨x5, y5⟩, ⟨x6, y6⟩, PP⟩ := CC.out u hX; generalize hu1 : u.setCell ⟨p, 4, none⟩ (.string B') = u1 at *; generalize hu2 : u1.setCell ⟨p, 5, none⟩ (.string C') = u2 at *; generalize hu3 : u2.setCell ⟨p, 6, none⟩ (.bool true) = u3 at *; replace PP := Lib.hid PP))
  go_wp2
  go_ret
  exact ⟨rfl, fun _ => FIN.out _ PP.out, gb_trans (gb_below _ (W1.trans (hX.mono W1.size))) (by rw [← hu3, ← hu2, ← hu1]; exact gb_trans (gb_trans (gb_set _ p 4 _) (gb_set _ p 5 _)) (gb_set _ p 6 _))⟩
namespace Ex
theorem cutK_mem : ∀ (k : Nat) (s x : List UInt8), x ∈ cutK k s → x.length ≤ s.length := by
  intro k
  induction k with
  | zero => intro s x h; simp [cutK] at h; rw [h]; exact Nat.le_refl _
  | succ k ih =>
    intro s x h
    unfold cutK at h
    by_cases hi : Lib.indexByte s 47 = -1
    · rw [if_pos hi] at h; simp at h; rw [h]; exact Nat.le_refl _
    · rw [if_neg hi] at h
      rcases List.mem_cons.1 h with h | h
      · rw [h, List.length_take]; omega
      · have := ih _ _ h
        rw [List.length_drop] at this
        omega
end Ex
theorem ex_swap {s : ByteArray} {l : Ln} {p : Nat} {w : World} (hs : s.size ≤ 1000000000) (hp : Blk w p 24 l.cells) :
    Calls Tryz.prog 65 #[.string s, .pointer (some ⟨p, 0, none⟩)] w (Ex.ReadIs p (Ex.rest l 5 s.data.toList) w) := by
  rw [Ex.rest_five]
  by_cases h4 : (Ex.prts s.data.toList).length = 4
  · obtain ⟨a, b, c, d, h⟩ : ∃ a b c d, Ex.prts s.data.toList = [a, b, c, d] := by
      match hl : Ex.prts s.data.toList, h4 with
      | [a, b, c, d], _ => exact ⟨a, b, c, d, rfl⟩
    have hb : b.length ≤ 1000000000 := by
      have := Ex.cutK_mem _ s.data.toList b (by show b ∈ Ex.prts s.data.toList; rw [h]; simp)
      rw [data_len] at this; omega
    have hc : c.length ≤ 1000000000 := by
      have := Ex.cutK_mem _ s.data.toList c (by show c ∈ Ex.prts s.data.toList; rw [h]; simp)
      rw [data_len] at this; omega
    rw [h]
    unfold Ex.substP
    simp only
    by_cases ha : a = []
    · by_cases hb0 : b = []
      · rw [if_pos (.inr (.inl hb0))]; exact ex_swap_empty p hs h ha hb0 w
      · by_cases hd : d = []
        · rw [if_neg (by simp [ha, hb0, hd]), show decide (d = [103]) = false by rw [hd]; rfl]
          exact ex_swap_none hs hp h hb hc ha hb0 hd
        · by_cases hg : d = [103]
          · rw [if_neg (by simp [ha, hb0, hg]), decide_eq_true hg]
            exact ex_swap_all hs hp h hb hc ha hb0 hg
          · rw [if_pos (.inr (.inr ⟨hd, hg⟩))]; exact ex_swap_tail p hs h ha hb0 hd hg w
    · rw [if_pos (.inl ha)]; exact ex_swap_head p hs h ha w
  · rw [Ex.substP_few h4]
    exact ex_swap_few p hs h4 w
end Go.Proofs.YtcddbdefdenecaaGreatDoor
