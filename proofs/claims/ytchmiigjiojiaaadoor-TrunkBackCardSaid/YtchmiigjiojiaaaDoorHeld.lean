/-
  What a tree that is held has: is a number one of a node; and may its Ups be.
-/
import Derived.Test.YtchmiigjiojiaaaDoorTree
import Derived.Test.YtchmiigjiojiaaaDoorFrame
namespace Go.Proofs.YtchmiigjiojiaaaDoor
open Go.RowKit
open Tre
theorem ba {w w' : World} (h : Below w.heap.size w w') (o : Obj) : Below w.heap.size w (w'.alloc o) := h.alloc h.size o
theorem bd {w w' : World} (h : Below w.heap.size w w') (q : Nat) : Below w.heap.size w (w'.drewN q) := h.trans ((below_gb (gb_drewN w' q none)).mono h.size)
set_option maxHeartbeats 2000000 in
set_option maxRecDepth 100000 in
theorem held_has (A : Option Addr) (n c : Nat) (cur k : Int) (w : World) :
    Calls Tryd.prog 33 #[.agg #[.slice A n c, .int .i64 cur], .int .i64 k] w fun e w' => e = .returned (.bool (decide (0 ≤ k ∧ k < n))) ∧ Below w.heap.size w w' := by
  by_cases h0 : 0 ≤ k
  · by_cases h1 : k < n
    · go_enter Tryd.func33, Tryd.ntmps33
      go_wp2_with fail
      go_ret
      exact ⟨by rw [decide_eq_true (by omega)]; rfl, ba (Below.refl _ _) _⟩
    · go_enter Tryd.func33, Tryd.ntmps33
      go_wp2_with fail
      go_ret
      exact ⟨by rw [decide_eq_false (by omega)]; rfl, ba (Below.refl _ _) _⟩
  · go_enter Tryd.func33, Tryd.ntmps33
    go_wp2_with fail
    go_ret
    exact ⟨by rw [decide_eq_false (by omega)]; rfl, ba (Below.refl _ _) _⟩
set_option maxHeartbeats 2000000 in
set_option maxRecDepth 100000 in
theorem ref11_has (A : Option Addr) (n c : Nat) (cur k : Int) (w : World) :
    Calls Tryd.prog 46 #[.agg #[.slice A n c, .int .i64 cur], .int .i64 k] w fun e w' => e = .returned (.bool (decide (0 ≤ k ∧ k < n))) ∧ Below w.heap.size w w' := by
  by_cases h0 : 0 ≤ k
  · by_cases h1 : k < n
    · go_enter Tryd.func46, Tryd.ntmps46
      go_wp2_with fail
      go_ret
      exact ⟨by rw [decide_eq_true (by omega)]; rfl, ba (Below.refl _ _) _⟩
    · go_enter Tryd.func46, Tryd.ntmps46
      go_wp2_with fail
      go_ret
      exact ⟨by rw [decide_eq_false (by omega)]; rfl, ba (Below.refl _ _) _⟩
  · go_enter Tryd.func46, Tryd.ntmps46
    go_wp2_with fail
    go_ret
    exact ⟨by rw [decide_eq_false (by omega)]; rfl, ba (Below.refl _ _) _⟩
theorem tl_nil {s : ByteArray} (h : s.toList = []) : s = .empty := by
  rw [← bs_data s] at h ⊢
  rw [bs_tl] at h
  rw [h]; rfl
set_option maxHeartbeats 2000000 in
set_option maxRecDepth 100000 in
theorem held_upsRight {A : Option Addr} {c : Nat} {l : List Nd} {cur : Int} {w : World} (hx : Nds w A l) (h1 : 1 ≤ l.length) (hc : l.length ≤ c) (hm : l.length ≤ 2000) :
    Calls Tryd.prog 34 #[.agg #[.slice A l.length c, .int .i64 cur]] w fun e w' => e = .returned (.bool (decide (Ups l l.length))) ∧ Below w.heap.size w w' := by
  obtain ⟨x, hx0⟩ : ∃ x, l[0]? = some x := ⟨_, List.getElem?_eq_getElem (by omega)⟩
  obtain ⟨b, off, rfl, hbw, CC⟩ := hx.addr (by omega)
  obtain ⟨c0, c1, c2, c3, c4, c5, c6⟩ := CC w _ (Below.refl _ _) (Nat.le_refl _) _ _ hx0
  rw [Nat.zero_mul, Nat.add_zero] at c0 c1 c2 c3 c4 c5 c6
  have CE := Lib.hid CC
  have LX := Lib.hid (fun k (h : k < l.length) => (⟨_, List.getElem?_eq_getElem h⟩ : ∃ x, l[k]? = some x))
  clear CC hx
  by_cases hz : UpOk 0 x
  · obtain ⟨e0, e2, e3, e4, e5, e6⟩ := hz.zero
    rw [e0] at c0; rw [e2] at c2; rw [e3] at c3; rw [e4] at c4; rw [e5] at c5; rw [e6] at c6
    have U1 : Hid (Ups l 1) := fun j hj y hy => by
      obtain rfl : j = 0 := by omega
      rw [hx0] at hy; injection hy with hy; exact hy ▸ hz
    clear hz hx0 e0 e2 e3 e4 e5 e6
    go_enter Tryd.func34, Tryd.ntmps34
    go_wp2_with fail
    · rename_i hc1
      have hl1 : l.length = 1 := by omega
      go_loopw [20] (fun iv wr => iv = .int .i64 0 ∧ Below w.heap.size w wr) (fun iv _ => l.length - (intOf iv).toNat)
      case atStart => exact ⟨rfl, ba (ba (Below.refl _ _) _) _⟩
      case round =>
        obtain ⟨rfl, hW⟩ := hrel
        have d1 : decide ((0 : Int) < ((l.length - 1 : Nat) : Int)) = false := by simp; omega
        have H : Hid (decide (Ups l l.length) = true) := decide_eq_true (by rw [hl1]; exact U1.out)
        go_wp2
        go_ret
        exact ⟨by rw [H.out]; rfl, hW⟩
    · rename_i hc1
      go_loopw [20] (fun iv wr => ∃ (k : Nat), iv = .int .i64 k ∧ k + 1 ≤ l.length ∧ Hid (Ups l (k + 1)) ∧ Below w.heap.size w wr) (fun iv _ => l.length - (intOf iv).toNat)
      case atStart => exact ⟨0, rfl, by omega, U1, ba (ba (Below.refl _ _) _) _⟩
      case round =>
        obtain ⟨k, rfl, hk, HU, hW⟩ := hrel
        by_cases hlt : k + 1 < l.length
        · obtain ⟨y, hy⟩ := LX.out (k + 1) hlt
          obtain ⟨c0, c1, c2, c3, c4, c5, c6⟩ := CE.out wr _ hW (Nat.le_refl _) _ _ hy
          rw [show off + (k + 1) * 7 = off + 7 + k * 7 by omega] at c0 c1 c2 c3 c4 c5 c6
          have b2 : b < wr.heap.size := Nat.lt_of_lt_of_le hbw hW.size
          have d1 : decide ((k : Int) < ((l.length - 1 : Nat) : Int)) = true := by simp; omega
          by_cases hu : UpOk (k + 1) y
          · obtain ⟨u0, u1, u2, u3⟩ := hu.pos (by omega)
            have HU2 : Hid (Ups l (k + 1 + 1)) := HU.out.succ hy hu
            clear hy hu HU
            have v0 : decide (y.up < 0) = false := decide_eq_false (by omega)
            have v1 : decide ((k : Int) < y.up) = false := decide_eq_false (by omega)
            have v2 : decide (y.before < 0) = false := decide_eq_false (by omega)
            have v3 : decide (y.after < 0) = false := decide_eq_false (by omega)
            go_wp2
            go_roundw
            case rel => exact ⟨k + 1, by go_num, by omega, HU2, ba hW _⟩
            case measure => simp [intOf]; omega
          · have H : Hid (decide (Ups l l.length) = false) := decide_eq_false (Ups.not hlt hy hu)
            have hn : ¬ (0 ≤ y.up ∧ y.up < ((k + 1 : Nat) : Int) ∧ 0 ≤ y.before ∧ 0 ≤ y.after) := fun h => hu ((upOk_pos (by omega)).2 h)
            clear hy hu HU
            go_wp2
            all_goals first
              | (exfalso; omega)
              | (go_ret; exact ⟨by rw [H.out]; rfl, ba hW _⟩)
        · have d1 : decide ((k : Int) < ((l.length - 1 : Nat) : Int)) = false := by simp; omega
          have H : Hid (decide (Ups l l.length) = true) := decide_eq_true (by rw [show l.length = k + 1 by omega]; exact HU.out)
          go_wp2
          go_ret
          exact ⟨by rw [H.out]; rfl, hW⟩
  · have H : Hid (decide (Ups l l.length) = false) := decide_eq_false (Ups.not (by omega) hx0 hz)
    have hn : ¬ (x.up = -1 ∧ x.before = 0 ∧ x.after = 0 ∧ x.at_ = 0 ∧ x.old.toList = [] ∧ x.new.toList = []) := fun h => hz (upOk_zero.2 ⟨h.1, h.2.1, h.2.2.1, h.2.2.2.1, tl_nil h.2.2.2.2.1, tl_nil h.2.2.2.2.2⟩)
    have HN := Lib.hid hn
    clear hz hx0 hn
    go_enter Tryd.func34, Tryd.ntmps34
    go_wp2_with fail
    all_goals first
      | (exact absurd ⟨by assumption, by assumption, by assumption, by assumption, by assumption, by assumption⟩ HN.out)
      | (go_ret; exact ⟨by rw [H.out]; rfl, ba (ba (Below.refl _ _) _) _⟩)
end Go.Proofs.YtchmiigjiojiaaaDoor
