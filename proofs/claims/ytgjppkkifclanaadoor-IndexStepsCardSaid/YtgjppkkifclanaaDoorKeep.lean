/-
  An index is made: keep, New; one cell of a list of numbers is written.
-/
import Derived.Test.YtgjppkkifclanaaDoorIndex
import Derived.Test.YtgjppkkifclanaaDoorCells
namespace Go.Proofs.YtgjppkkifclanaaDoor
open Go.RowKit
namespace Ix
theorem vals_set (l : List Nat) (k n : Nat) : vals (l.set k n) = (vals l).set k (.int .i64 (n : Nat)) := by simp [vals, List.map_set]
theorem modify_set {l : List Nat} {k n : Nat} (x : Nat) (h : l[k]? = some n) : l.modify k (· + x) = l.set k (n + x) := by
  apply List.ext_getElem?
  intro q
  rw [List.getElem?_modify, List.getElem?_set]
  by_cases e : k = q
  · subst e
    obtain ⟨h1, h2⟩ := List.getElem?_eq_some_iff.1 h
    simp [h1, h2]
  · simp [e]
theorem Row.set {B g c n : Nat} {l : List Nat} {w : World} (h : Row B (.slice (some ⟨g, 0, none⟩) n c) l w) (k x : Nat) :
    Row B (.slice (some ⟨g, 0, none⟩) n c) (l.set k x) (w.setCell ⟨g, k, none⟩ (.int .i64 (x : Nat))) := by
  obtain ⟨a, c', he⟩ := h.shape
  injection he with e1 e2 e3
  subst e2
  obtain ⟨h1, h2, h3, h4, cur, hg, hc, ht⟩ := row_of_own h
  have hb : Blk w g 3 cur.toArray := hg
  have h5 := hb.set_ k (.int .i64 (x : Nat))
  unfold Row
  rw [List.length_set, vals_set]
  refine own_of_row (cur := cur.set k (.int .i64 (x : Nat))) h1 ?_ (by rw [List.length_set]; exact hc) h2 h3 ?_
  · have : (cur.toArray.setIfInBounds k (.int .i64 (x : Nat))) = (cur.set k (.int .i64 (x : Nat))).toArray := by simp
    rw [← this]
    exact h5
  · rw [List.take_set, ht]
theorem Row.at_ {B g n c : Nat} {l : List Nat} {w : World} (h : Row B (.slice (some ⟨g, 0, none⟩) n c) l w) : n = l.length ∧ l.length ≤ c ∧ Nums w g l := by
  obtain ⟨a, c', he⟩ := h.shape
  injection he with e1 e2 e3
  subst e2
  refine ⟨rfl, (row_of_own h).2.1, ((World.ownsRow.lt h) g rfl).2, fun k n hk => ?_⟩
  have := h.cells (g := g) rfl k _ (vals_get hk)
  have e : (⟨g, 0, none⟩ : Addr).add k = ⟨g, k, none⟩ := by unfold Addr.add; split <;> simp_all
  rwa [e] at this
theorem Row.below {B : Nat} {v : Value} {l : List Nat} {w w' : World} (h : Row B v l w) (hb : Below w.heap.size w w') : Row B v l w' := by
  refine h.kept (gb_below none hb) ?_
  cases v.ownBlock with
  | none => exact Or.inl rfl
  | some g => exact Or.inr (by simp)
theorem Row.blk {B g c n : Nat} {l : List Nat} {w : World} (h : Row B (.slice (some ⟨g, 0, none⟩) n c) l w) : ∃ cs, Blk w g 3 cs := own_blk h rfl
end Ix
set_option maxHeartbeats 400000 in
theorem index_keep {p n c : Nat} {A : Option Addr} {a0 a1 : Value} {w : World} (hp : Blk w p 44 #[a0, a1]) :
    Calls Tryd.prog 22 #[.pointer (some ⟨p, 0, none⟩), .slice A n c] w fun e w' => e = .returned (.tuple #[]) ∧ Blk w' p 44 #[.pointer (some ⟨p, 0, none⟩), .slice A n c] ∧ w.grownBy w' (some p) := by
  have c0 := hp.cell 0
  have c1 := hp.cell 1
  have z0 := hp.frozen 0
  have z1 := hp.frozen 1
  have hlt := hp.lt
  simp at c0 c1
  have HP := Lib.hid hp
  clear hp
  go_enter Tryd.func22, Tryd.ntmps22
  go_wp2
  go_end0
  refine ⟨rfl, ?_, gb_trans (gb_set w p 0 _) (gb_set _ p 1 _)⟩
  have := (HP.out.set_ 0 (.pointer (some ⟨p, 0, none⟩))).set_ 1 (.slice A n c)
  simpa using this
set_option maxHeartbeats 400000 in
theorem index_New {B : Nat} (s : List UInt8) {w : World} (hB : B ≤ w.heap.size) (hs : s.length ≤ 500000000000) :
    Calls Tryd.prog 9 #[.string (bs s)] w fun e w' => ∃ p, e = .returned (.pointer (some ⟨p, 0, none⟩)) ∧ Idx B p s w' ∧ KeepsI B w w' ∧ w.heap.size ≤ p := by
  have M := Lib.hid (fun w => index_measure s (by omega) w)
  have hlp := Ix.lens_pos s
  have hls := Ix.lens_sum s
  have L : Hid (∀ (g c : Nat) (w1 : World), Ix.Nums w1 g (Ix.lens s) → Calls Tryd.prog 23 #[.int .i64 0, .slice (some ⟨g, 0, none⟩) (Ix.lens s).length c] w1 fun e w' => (∃ v, e = .returned v ∧ Ix.Row w1.heap.size v (Ix.ends s) w') ∧ Below w1.heap.size w1 w') := fun g c w1 hN => by
    have := index_lay 0 g c (Ix.lens s) w1 hN (by omega) (by omega)
    rw [Ix.lay_lens] at this
    exact this
  have hp := Blk.new w 44 #[.pointer none, .slice none 0 0]
  have hb0 : Below w.heap.size w (w.alloc (.cells #[.pointer none, .slice none 0 0] 44)) := (Below.refl _ w).alloc (Nat.le_refl _) _
  have hsz : (w.alloc (.cells #[.pointer none, .slice none 0 0] 44)).heap.size = w.heap.size + 1 := by simp [World.size_alloc]
  have K : Hid (∀ (A : Option Addr) (n c : Nat) (w1 : World), Blk w1 w.heap.size 44 #[.pointer none, .slice none 0 0] → Calls Tryd.prog 22 #[.pointer (some ⟨w.heap.size, 0, none⟩), .slice A n c] w1 fun e w' => e = .returned (.tuple #[]) ∧ Blk w' w.heap.size 44 #[.pointer (some ⟨w.heap.size, 0, none⟩), .slice A n c] ∧ w1.grownBy w' (some w.heap.size)) :=
    fun A n c w1 h => index_keep h
  have HP := Lib.hid hp
  have HB := Lib.hid hb0
  clear hp hb0 hls
  go_enter Tryd.func9, Tryd.ntmps9
  go_wp2_with (first
    | (go_at_call 24; refine (M.out _).mono ?_; rintro e w1 ⟨⟨v, rfl, hr⟩, hb1⟩; obtain ⟨g, c, rfl, hbg, hcc, hnn⟩ := hr.nums hlp; have hp1 := HP.out.below hb1 HP.out.lt; have hc1 := HB.out.trans (hb1.mono (by rw [hsz]; omega)))
    | (go_at_call 23; refine (L.out _ _ _ hnn).mono ?_; rintro e w2 ⟨⟨v2, rfl, hr2⟩, hb2⟩; obtain ⟨a2, c2, rfl⟩ := hr2.shape; have hp2 := hp1.below hb2 hp1.lt; have hc2 := hc1.trans (hb2.mono hc1.size))
    | (go_at_call 22; refine (K.out _ _ _ _ hp2).mono ?_; rintro e w3 ⟨rfl, hp3, hg3⟩))
  go_ret
  have hs1 : w.heap.size + 1 ≤ w1.heap.size := by have := hb1.size; omega
  refine ⟨w.heap.size, rfl, ⟨_, ⟨hB, hp3, ?_⟩⟩, ?_, Nat.le_refl _⟩
  · have hr3 := Ix.Row.mono (C := B) hr2 (by omega)
    exact hr3.kept hg3 (Or.inr (own_blk_ne hr2 hp2 (by decide)))
  · exact (KeepsI.of_below hB hc2).trans (KeepsI.of_row (by have := hc2.size; omega) hB hp2 (Or.inl rfl) rfl hg3)
end Go.Proofs.YtgjppkkifclanaaDoor
