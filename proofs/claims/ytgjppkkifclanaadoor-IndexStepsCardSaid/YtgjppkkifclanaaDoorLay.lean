/-
  Where lines of given lengths end: lay.
-/
import Derived.Test.YtgjppkkifclanaaDoorMeasure
namespace Go.Proofs.YtgjppkkifclanaaDoor
open Go.RowKit
namespace Ix
/-- The cells of a block begin with these numbers. -/
def Nums (w : World) (g : Nat) (l : List Nat) : Prop := g < w.heap.size ∧ ∀ (k n : Nat), l[k]? = some n → w.cell? ⟨g, k, none⟩ = some (.int .i64 (n : Nat))
theorem Nums.grown {w w' : World} {g : Nat} {l : List Nat} {r : Option Nat} (h : Nums w g l) (hb : w.grownBy w' r) (hr : some g ≠ r) : Nums w' g l :=
  ⟨Nat.lt_of_lt_of_le h.1 hb.size, fun k n hk => by rw [World.cell?_of_block (hb.block _ h.1 hr)]; exact h.2 k n hk⟩
theorem Nums.below {w w' : World} {g : Nat} {l : List Nat} (h : Nums w g l) (hb : Below w.heap.size w w') : Nums w' g l := h.grown (gb_below none hb) (by simp)
theorem Row.nums {B : Nat} {v : Value} {l : List Nat} {w : World} (h : Row B v l w) (hl : 0 < l.length) : ∃ g c, v = .slice (some ⟨g, 0, none⟩) l.length c ∧ B ≤ g ∧ l.length ≤ c ∧ Nums w g l := by
  rcases h.2 with ⟨_, h0⟩ | ⟨g, cap, cur, he, hb, hh, hn, _⟩
  · omega
  · refine ⟨g, cap, he, hb, hn, (Array.getElem?_eq_some_iff.1 hh).1, fun k n hk => ?_⟩
    have := h.cells (g := g) (by rw [he]; rfl) k _ (vals_get hk)
    have e : (⟨g, 0, none⟩ : Addr).add k = ⟨g, k, none⟩ := by unfold Addr.add; split <;> simp_all
    rwa [e] at this
theorem Row.mono {B C : Nat} {v : Value} {l : List Nat} {w : World} (h : Row B v l w) (hb : C ≤ B) : Row C v l w := by
  refine ⟨h.1, ?_⟩
  rcases h.2 with h0 | ⟨g, cap, cur, he, h1, h2⟩
  · exact Or.inl h0
  · exact Or.inr ⟨g, cap, cur, he, Nat.le_trans hb h1, h2⟩
theorem sum_take {l : List Nat} {k n : Nat} (h : l[k]? = some n) : (l.take (k + 1)).sum = (l.take k).sum + n := by
  obtain ⟨hk, rfl⟩ := List.getElem?_eq_some_iff.1 h
  rw [List.take_succ_eq_append_getElem hk, List.sum_append]
  simp
theorem sum_le (l : List Nat) (k : Nat) : (l.take k).sum ≤ l.sum := by
  have : l.sum = (l.take k).sum + (l.drop k).sum := by rw [← List.sum_append, List.take_append_drop]
  omega
theorem lay_step {l : List Nat} {k n : Nat} (o : Nat) (h : l[k]? = some n) : lay o (l.take (k + 1)) = lay o (l.take k) ++ [o + ((l.take k).sum + k) + n] := by
  obtain ⟨hk, rfl⟩ := List.getElem?_eq_some_iff.1 h
  rw [List.take_succ_eq_append_getElem hk, lay_snoc, List.length_take, Nat.min_eq_left (by omega)]
end Ix
set_option maxHeartbeats 1000000 in
set_option maxRecDepth 100000 in
theorem index_lay (st a c : Nat) (L : List Nat) (w : World) (hA : Ix.Nums w a L) (hb : st + L.sum + L.length ≤ 4611686018427387904) (hn : L.length ≤ 1000000000000) :
    Calls Tryd.prog 23 #[.int .i64 (st : Nat), .slice (some ⟨a, 0, none⟩) L.length c] w fun e w' => (∃ v, e = .returned v ∧ Ix.Row w.heap.size v (Ix.lay st L) w') ∧ Below w.heap.size w w' := by
  obtain ⟨i0, hi0, hz0, hz1, hz2⟩ := info_parts info_int
  have HA := Lib.hid hA
  have HB := Lib.hid hb
  clear hA hb
  go_enter Tryd.func23, Tryd.ntmps23
  go_wp2_with (refine wpList_make_own _ rfl _ _ 42 rfl w.heap.size 3 i0 (.int .i64 0) 1 Tryd.underlying42 hi0 hz0 hz1 .i64 .i64 _ L.length rfl rfl rfl (by rw [hz2]; omega) (by unfold maxLen; omega) (Nat.le_refl _) ?_; intro w1 hrow hg1)
  go_loopw [0, 5, 13] (fun s l i wr => ∃ (k S : Nat), s = .int .i64 (S : Nat) ∧ l = .slice (some ⟨w.heap.size, 0, none⟩) k L.length ∧ i = .int .i64 (k : Nat) ∧ k ≤ L.length ∧ Hid (S = st + ((L.take k).sum + k)) ∧
      wr.ownsRow w.heap.size 3 1 (.slice (some ⟨w.heap.size, 0, none⟩) k L.length) k (Ix.vals (Ix.lay st (L.take k))) ∧ Below w.heap.size w wr)
    (fun _ _ i _ => L.length - (intOf i).toNat)
  case atStart => exact ⟨0, st, rfl, rfl, rfl, Nat.zero_le _, Lib.hid (by simp), hrow, below_gb hg1⟩
  case round =>
    obtain ⟨k, S, rfl, rfl, rfl, hk, HS, hown, hbw⟩ := hrel
    clear hrow hg1
    rcases Nat.lt_or_ge k L.length with hlt | hge
    · obtain ⟨n, hkn⟩ : ∃ n, L[k]? = some n := ⟨_, List.getElem?_eq_getElem hlt⟩
      have hcell := (HA.out.below hbw).2 k n hkn
      have hal := (HA.out.below hbw).1
      have hsum := Ix.sum_take hkn
      have hle := Ix.sum_le L (k + 1)
      have HL := Lib.hid (Ix.lay_step st hkn)
      have HS2 : Hid (S + (n + 1) = st + ((L.take (k + 1)).sum + (k + 1))) := by show _ = _; rw [HS.out, hsum]; omega
      have hbound : S + (n + 1) ≤ 4611686018427387904 := by rw [HS2.out]; have := HB.out; omega
      have hsnoc : Hid (Ix.vals (Ix.lay st (L.take k)) ++ [.int .i64 ((S : Int) + (n : Int))] = Ix.vals (Ix.lay st (L.take (k + 1)))) := by
        show _ = _
        rw [HL.out, Ix.vals_append, ← HS.out]
        simp [Ix.vals]
      have hbs := hbw.size
      clear hsum hle HL hkn
      go_wp2_with (at_builtin; refine wpList_append_fits _ rfl _ _ 42 rfl w.heap.size 3 i0 1 Tryd.underlying42 hi0 hz1 w.heap.size k L.length _ rfl (hown.alloc _) ⟨wr.heap.size, 0, none⟩ 1 1 [.int .i64 ((S : Int) + (n : Int))] rfl rfl (cell_one_new _ _ _) (by simp [Value.oneCell']) (by omega) ?_; intro w2 hown2 hg2)
      have hb2 : Below w.heap.size w w2 := (hbw.alloc hbs _).grown hg2 (by simp [World.size_alloc]; omega) (fun j e => by injection e with e; omega)
      rw [hsnoc.out] at hown2
      go_roundw
      case rel => exact ⟨k + 1, S + (n + 1), by go_num, rfl, by go_num, by omega, HS2, hown2, hb2⟩
      case measure => simp [intOf]; omega
    · obtain rfl : k = L.length := by omega
      rw [List.take_length] at hown
      clear HA HB HS
      go_wp2
      go_ret
      refine ⟨⟨_, rfl, ?_⟩, hbw⟩
      unfold Ix.Row
      rw [Ix.lay_length]
      exact hown
end Go.Proofs.YtgjppkkifclanaaDoor
