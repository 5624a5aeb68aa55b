/-
  A tree with all its nodes in new memory, and another Next: the program's and the document's.
-/
import Derived.Test.YtffihchkmcddeaaHeldNexts
import Derived.Test.YtffihchkmcddeaaClone
namespace Go.Proofs.Ytffihchkmcddeaa
open Go.RowKit
open Tre
theorem badr (w : World) (o : Obj) : Below w.heap.size w (w.alloc o).drew := (ba (Below.refl _ w) o).trans ((below_gb (gb_drew (w.alloc o) none)).mono (ba (Below.refl _ w) o).size)
theorem bdr {w u : World} (h : Below w.drew.heap.size w.drew u) : Below w.heap.size w u := (below_gb (gb_drew w none)).trans h
set_option maxHeartbeats 2000000 in
set_option maxRecDepth 100000 in
theorem copied_Node (x : Nd) (w : World) (ho : x.old.size ≤ 140737488355327) (hn : x.new.size ≤ 140737488355327) :
    Calls Try.prog 37 #[.agg x.vals] w fun e w' => e = .returned (.agg x.vals) ∧ Below w.heap.size w w' := by
  have K1 := Lib.hid (fun w => str_clone x.old w (by omega))
  have K2 := Lib.hid (fun w => str_clone x.new w (by omega))
  unfold Nd.vals
  have CELL : Hid (∀ u, Below ((w.alloc (.cells #[.int .i64 x.up, .int .i64 x.next, .int .i64 x.before, .int .i64 x.after, .int .i64 x.at_, .string x.old, .string x.new] 51)).alloc (.cells #[.int .i64 0, .int .i64 0, .int .i64 0, .int .i64 0, .int .i64 0, .string { data := #[] }, .string { data := #[] }] 51)).heap.size ((w.alloc (.cells #[.int .i64 x.up, .int .i64 x.next, .int .i64 x.before, .int .i64 x.after, .int .i64 x.at_, .string x.old, .string x.new] 51)).alloc (.cells #[.int .i64 0, .int .i64 0, .int .i64 0, .int .i64 0, .int .i64 0, .string { data := #[] }, .string { data := #[] }] 51)) u → Blk u w.heap.size 51 #[.int .i64 x.up, .int .i64 x.next, .int .i64 x.before, .int .i64 x.after, .int .i64 x.at_, .string x.old, .string x.new] ∧ Below w.heap.size w u ∧ u.cell? ⟨w.heap.size, 5, none⟩ = some (.string x.old) ∧ u.cell? ⟨w.heap.size, 6, none⟩ = some (.string x.new) ∧ Blk u (w.heap.size + 1) 51 #[.int .i64 0, .int .i64 0, .int .i64 0, .int .i64 0, .int .i64 0, .string { data := #[] }, .string { data := #[] }]) := fun u hu => by
    have b0 := Blk.new w 51 #[.int .i64 x.up, .int .i64 x.next, .int .i64 x.before, .int .i64 x.after, .int .i64 x.at_, .string x.old, .string x.new]
    have b1 := (b0.alloc _).below hu (b0.alloc _).lt
    have b2 := ba (ba (Below.refl w.heap.size w) (.cells #[.int .i64 x.up, .int .i64 x.next, .int .i64 x.before, .int .i64 x.after, .int .i64 x.at_, .string x.old, .string x.new] 51)) (.cells #[.int .i64 0, .int .i64 0, .int .i64 0, .int .i64 0, .int .i64 0, .string { data := #[] }, .string { data := #[] }] 51)
    have b3 := Blk.new (w.alloc (.cells #[.int .i64 x.up, .int .i64 x.next, .int .i64 x.before, .int .i64 x.after, .int .i64 x.at_, .string x.old, .string x.new] 51)) 51 #[.int .i64 0, .int .i64 0, .int .i64 0, .int .i64 0, .int .i64 0, .string { data := #[] }, .string { data := #[] }]
    have b4 := b3.below hu b3.lt
    rw [World.size_alloc] at b4
    exact ⟨b1, b2.trans (hu.mono b2.size), b1.cell 5, b1.cell 6, b4⟩
  go_enter Try.func37, Try.ntmps37
  go_wp2_with fail
  go_region_with (first
    | (go_at_call 48; (with_reducible refine (K1.out _).mono ?_); rintro e u1 ⟨rfl, hb1⟩; have S1 := bdr hb1; obtain ⟨B1, W1, c5, c6, _⟩ := CELL.out _ S1)
    | (go_at_call 48; (with_reducible refine (K2.out _).mono ?_); rintro e u2 ⟨rfl, hb2⟩; have S2 := S1.trans (hb2.mono S1.size); obtain ⟨B2, W2, d5, d6, R2⟩ := CELL.out _ S2; have f5 := B2.frozen 5; have f6 := B2.frozen 6))
  all_goals
    have B3 : Blk ((u2.setCell ⟨w.heap.size, 5, none⟩ (.string x.old)).setCell ⟨w.heap.size, 6, none⟩ (.string x.new)) w.heap.size 51 #[.int .i64 x.up, .int .i64 x.next, .int .i64 x.before, .int .i64 x.after, .int .i64 x.at_, .string x.old, .string x.new] := (B2.set_ 5 (.string x.old)).set_ 6 (.string x.new)
    have R3 := ((R2.far (p := ⟨w.heap.size, 5, none⟩) (Nat.succ_ne_self _) (.string x.old)).far (p := ⟨w.heap.size, 6, none⟩) (Nat.succ_ne_self _) (.string x.new))
    have W3 := (W2.setCell (p := ⟨w.heap.size, 5, none⟩) (Nat.le_refl _) (.string x.old)).setCell (p := ⟨w.heap.size, 6, none⟩) (Nat.le_refl _) (.string x.new)
    generalize (u2.setCell ⟨w.heap.size, 5, none⟩ (.string x.old)).setCell ⟨w.heap.size, 6, none⟩ (.string x.new) = u3 at B3 R3 W3 ⊢
    clear B2 R2 W2 d5 d6 f5 f6 S1 S2 B1 W1 c5 c6
    have e0 := B3.cell 0
    have e1 := B3.cell 1
    have e2 := B3.cell 2
    have e3 := B3.cell 3
    have e4 := B3.cell 4
    have e5 := B3.cell 5
    have e6 := B3.cell 6
    have q0 := R3.cell 0
    have q1 := R3.cell 1
    have q2 := R3.cell 2
    have q3 := R3.cell 3
    have q4 := R3.cell 4
    have q5 := R3.cell 5
    have q6 := R3.cell 6
    simp at e0 e1 e2 e3 e4 e5 e6 q0 q1 q2 q3 q4 q5 q6
    have r0 := R3.frozen 0
    have r1 := R3.frozen 1
    have r2 := R3.frozen 2
    have r3 := R3.frozen 3
    have r4 := R3.frozen 4
    have r5 := R3.frozen 5
    have r6 := R3.frozen 6
    have F3 := Lib.hid (((((((R3.set_ 0 (.int .i64 x.up)).set_ 1 (.int .i64 x.next)).set_ 2 (.int .i64 x.before)).set_ 3 (.int .i64 x.after)).set_ 4 (.int .i64 x.at_)).set_ 5 (.string x.old)).set_ 6 (.string x.new))
    have V3 := Lib.hid (fun (u : World) (h : Below w.heap.size w u) i v => h.setCell (p := ⟨w.heap.size + 1, i, none⟩) (Nat.le_succ _) v)
    go_wp2
    exact bodyPost_ret (v := .agg #[.int .i64 x.up, .int .i64 x.next, .int .i64 x.before, .int .i64 x.after, .int .i64 x.at_, .string x.old, .string x.new]) (results_cell_row rfl _ _ (w.heap.size + 1) 51 #[.int .i64 x.up, .int .i64 x.next, .int .i64 x.before, .int .i64 x.after, .int .i64 x.at_, .string x.old, .string x.new] (0, 0) _ rfl F3.out Try.underlying51 rfl rfl) rfl ⟨rfl, V3.out _ (V3.out _ (V3.out _ (V3.out _ (V3.out _ (V3.out _ (V3.out _ W3 _ _) _ _) _ _) _ _) _ _) _ _) _ _⟩
set_option maxHeartbeats 2000000 in
set_option maxRecDepth 100000 in
theorem held_choose {w : World} {B : Nat} {e : TypeId} {g n c : Nat} {l : List Nd} {cur : Int} {k u : Nat} {x : Nd} (h : w.ownsRow B e 7 (.slice (some ⟨g, 0, none⟩) n c) n (nrows l)) (hn : l.length = n) (hk : l[k]? = some x) (hu : x.up = u) (hul : u < n) :
    Calls Try.prog 38 #[.agg #[.slice (some ⟨g, 0, none⟩) n c, .int .i64 cur], .int .i64 k] w fun e' w' => e' = .returned (.tuple #[]) ∧ w'.ownsRow B e 7 (.slice (some ⟨g, 0, none⟩) n c) n (nrows (setNext l u k)) ∧ w.grownBy w' (some g) := by
  obtain ⟨N, hc⟩ := own_nds h hn
  obtain ⟨g', o', e1, hlt, CC⟩ := N (by omega)
  injection e1 with e1
  injection e1 with e1 e2 _
  subst e1 e2
  have c0 := (CC k x hk).1
  have c1 : ∃ y, l[u]? = some y := ⟨_, List.getElem?_eq_getElem (by omega)⟩
  obtain ⟨y, hy⟩ := c1
  have c1 := (CC u y hy).2.1
  rw [hu, Nat.zero_add] at c0
  have own := Lib.hid (own_next h hn hul (k : Int))
  obtain ⟨_, _, e3, _, _, hfz⟩ := own_addr h (by omega)
  injection e3 with e3 _ _
  injection e3 with e3
  injection e3 with e3 _ _
  subst e3
  have hf := hfz (u * 7 + 1)
  rw [Nat.zero_add] at c1 own
  have hkl : k < n := by rw [← hn]; exact (List.getElem?_eq_some_iff.1 hk).1
  clear CC N h hfz hk hu hy
  go_enter Try.func38, Try.ntmps38
  go_wp2_with fail
  go_region
  go_end0
  have k2 : ∀ o, (w.setCell ⟨g, u * 7 + 1, none⟩ (.int .i64 k)).grownBy ((w.setCell ⟨g, u * 7 + 1, none⟩ (.int .i64 k)).alloc o).drew none := fun o => gb_below none (badr _ o)
  exact ⟨rfl, own.out.kept (k2 _) (by simp [Value.ownBlock]), gb_trans (gb_set w g _ _) (gb_none _ (k2 _))⟩
end Go.Proofs.Ytffihchkmcddeaa
