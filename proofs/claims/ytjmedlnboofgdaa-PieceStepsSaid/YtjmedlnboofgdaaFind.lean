/-
  Of which piece a byte is: find.
-/
import Derived.Test.YtjmedlnboofgdaaTab
namespace Go.Proofs.Ytjmedlnboofgdaa
open Go.RowKit
namespace Pc
/-- How many bytes the pieces ahead of the k-th have. -/
def pre (ps : List (List UInt8)) (k : Nat) : Nat := (ps.take k).flatten.length
theorem pre_zero (ps : List (List UInt8)) : pre ps 0 = 0 := by simp [pre]
theorem pre_succ {ps : List (List UInt8)} {k : Nat} {l : List UInt8} (h : ps[k]? = some l) : pre ps (k + 1) = pre ps k + l.length := by
  obtain ⟨hk, rfl⟩ := List.getElem?_eq_some_iff.1 h
  unfold pre
  rw [List.take_succ_eq_append_getElem hk, List.flatten_append, List.length_append]
  simp
theorem pre_all {ps : List (List UInt8)} {k : Nat} (h : ps.length ≤ k) : pre ps k = ps.flatten.length := by rw [pre, List.take_of_length_le h]
theorem pre_le (ps : List (List UInt8)) (k : Nat) : pre ps k ≤ ps.flatten.length := by
  have : ps.flatten = (ps.take k).flatten ++ (ps.drop k).flatten := by rw [← List.flatten_append, List.take_append_drop]
  rw [this, List.length_append, pre]; omega
/-- The byte at the offset p is of the piece k, a bytes behind its begin; or it is behind all. -/
def InPiece (ps : List (List UInt8)) (p k a : Nat) : Prop :=
  (∃ l, ps[k]? = some l ∧ a < l.length ∧ p = pre ps k + a) ∨ (k = ps.length ∧ a = 0 ∧ pre ps k ≤ p)
end Pc
open Pc
set_option maxHeartbeats 1000000 in
set_option maxRecDepth 100000 in
theorem tab_find {x vp : Value} {n B : Nat} {us : List Value} {ps : List (List UInt8)} {w : World} (h : Looks x vp n w) (rows : w.ownsRow B 50 1 vp ps.length us)
    (each : ∀ (k : Nat) (l : List UInt8), ps[k]? = some l → ∃ g off, us[k]? = some (.slice (some ⟨g, off, none⟩) l.length l.length)) (p : Nat) (hp : p ≤ 4611686018427387904) (hl : ps.flatten.length ≤ 4611686018427387904) (hn : ps.length ≤ 4611686018427387904) :
    Calls Try.prog 27 #[x, .int .i64 p] w fun e w' => ∃ k a : Nat, e = .returned (.tuple #[.int .i64 k, .int .i64 a]) ∧ Hid (InPiece ps p k a) ∧ Below w.heap.size w w' := by
  have H := Lib.hid h
  have R := Lib.hid rows
  obtain ⟨A, c, rfl⟩ := own_shape rows
  have E : Hid (∀ (k : Nat) (l : List UInt8), ps[k]? = some l → ∃ g, A = some ⟨g, 0, none⟩ ∧ k < c ∧ g < w.heap.size ∧ ∃ g' off, w.cell? ⟨g, k, none⟩ = some (.slice (some ⟨g', off, none⟩) l.length l.length)) := fun k l hkl => by
    obtain ⟨g', off, hu⟩ := each k l hkl
    have hk := (List.getElem?_eq_some_iff.1 hkl).1
    rcases rows.2 with ⟨_, h0⟩ | ⟨g, cap, cur, he, _, hh, hnc, _⟩
    · omega
    · injection he with e1 e2 e3
      subst e1 e3
      refine ⟨g, rfl, by omega, Blk.lt (w := w) hh, g', off, ?_⟩
      have := rows.cells (g := g) rfl k _ hu
      rwa [show (⟨g, 0, none⟩ : Addr).add k = ⟨g, k, none⟩ from by unfold Addr.add; split <;> simp_all] at this
  have h0 := h.held w (Below.refl _ _)
  clear h rows each
  go_enter Try.func27, Try.ntmps27
  go_wp2_with (go_at_call 22; refine h0.mono ?_; rintro e w2 ⟨rfl, rfl⟩)
  clear h0
  go_loopw [1, 6, 7, 11] (fun q _ _ i wr => ∃ k r : Nat, k ≤ ps.length ∧ i = .int .i64 k ∧ q = .int .i64 r ∧ Hid (p = pre ps k + r) ∧ Below w.heap.size w wr) (fun _ _ _ i _ => ps.length - (intOf i).toNat)
  case atStart => exact ⟨0, p, Nat.zero_le _, rfl, rfl, by show _ = _; rw [pre_zero, Nat.zero_add], Below.refl _ _⟩
  case round =>
    obtain ⟨k, r, hk, rfl, rfl, hr, hR⟩ := hrel
    by_cases hlt : k < ps.length
    · obtain ⟨l, hkl⟩ : ∃ l, ps[k]? = some l := ⟨_, List.getElem?_eq_getElem hlt⟩
      obtain ⟨g, rfl, hkc, hgw, g', off, hc⟩ := E.out k l hkl
      have hll : l.length ≤ 4611686018427387904 := by
        have h1 := pre_succ hkl
        have h2 := pre_le ps (k + 1)
        omega
      have hrp : r ≤ 4611686018427387904 := by have := hr.out; omega
      have hc1 := (hR.cell (p := ⟨g, k, none⟩) hgw).trans hc
      have HK := Lib.hid hkl
      clear hc hkl
      by_cases hrl : r < l.length
      · go_wp2
        go_ret2
        exact ⟨k, r, rfl, Or.inl ⟨l, HK.out, hrl, hr.out⟩, hR.alloc (by have := hR.size; omega) _⟩
      · go_wp2
        go_roundw
        case rel => exact ⟨k + 1, r - l.length, by omega, by go_num, by go_num, by show _ = _; rw [pre_succ HK.out, hr.out]; omega, hR.alloc (by have := hR.size; omega) _⟩
        case measure => simp [intOf]; omega
    · have L := Lib.hid (tab_pieces (H.out.below hR) ⟨A, c, rfl⟩)
      go_wp2_with (go_at_call 12; refine L.out.mono ?_; rintro e w2 ⟨rfl, rfl⟩)
      go_ret2
      refine ⟨ps.length, 0, rfl, Or.inr ⟨rfl, rfl, ?_⟩, hR⟩
      have := hr.out
      rw [show k = ps.length by omega] at this
      omega
end Go.Proofs.Ytjmedlnboofgdaa
