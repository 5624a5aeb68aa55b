/-
  Whether changes stand one behind the other, how many bytes more there are behind them, whether they may be made at once: as package batch tells it.
-/
import Derived.Test.YtlfhfpjffdaomaaDoorBatch
import Derived.Test.YtlfhfpjffdaomaaDoorFits
namespace Go.Proofs.YtlfhfpjffdaomaaDoor
open Go.RowKit
open Utf Chg Btc
theorem grow_end {ks : List Cg} {j : Nat} (h : ks.length ≤ j) : grow (ks.take j) = grow ks := by rw [List.take_of_length_le h]
set_option maxHeartbeats 1000000 in
set_option maxRecDepth 100000 in
theorem batch_growth {A : Option Addr} {c : Nat} {ks : List Cg} {w : World} (hx : Cgs w A ks) (hs : weigh ks ≤ 100000) (hm : ks.length ≤ 100000) :
    Calls Tryd.prog 54 #[.slice A ks.length c] w fun e w' => e = .returned (.int .i64 (grow ks)) ∧ Below w.heap.size w w' := by
  go_enter Tryd.func54, Tryd.ntmps54
  go_wp2_with fail
  go_loopw [3, 8] (fun nv iv wr => ∃ (k : Nat) (q : Int), k ≤ ks.length ∧ iv = .int .i64 k ∧ nv = .int .i64 q ∧ Hid (q = grow (ks.take k)) ∧ Below w.heap.size w wr) (fun _ iv _ => ks.length - (intOf iv).toNat)
  case atStart => exact ⟨0, 0, Nat.zero_le _, rfl, rfl, rfl, Below.refl _ _⟩
  case round =>
    obtain ⟨k, q, hkl, rfl, rfl, hq, hW⟩ := hrel
    by_cases hlt : k < ks.length
    · obtain ⟨x, hkx⟩ : ∃ x, ks[k]? = some x := ⟨_, List.getElem?_eq_getElem hlt⟩
      obtain ⟨b, off, rfl, hbw, c0, c1, c2⟩ := hx.at_ hW (Nat.le_refl _) hkx
      have hsn := weigh_snoc hkx
      have htk := weigh_take ks (k + 1)
      have hgw := grow_weigh (ks.take k)
      rw [← hq.out] at hgw
      have hgs : Hid (q + ((x.new.size : Int) - x.old.size) = grow (ks.take (k + 1))) := by show _ = _; rw [grow_snoc hkx, hq.out]
      have hW2 : Below w.heap.size w (wr.alloc (.cells #[.int .i64 x.at_, .string x.old, .string x.new] 48)) := hW.alloc hW.size _
      have b0 := Blk.new wr 48 #[.int .i64 x.at_, .string x.old, .string x.new]
      have d0 : (wr.alloc (.cells #[.int .i64 x.at_, .string x.old, .string x.new] 48)).cell? ⟨wr.heap.size, 0, none⟩ = some (.int .i64 x.at_) := b0.cell 0
      have d1 : (wr.alloc (.cells #[.int .i64 x.at_, .string x.old, .string x.new] 48)).cell? ⟨wr.heap.size, 1, none⟩ = some (.string x.old) := b0.cell 1
      have d2 : (wr.alloc (.cells #[.int .i64 x.at_, .string x.old, .string x.new] 48)).cell? ⟨wr.heap.size, 2, none⟩ = some (.string x.new) := b0.cell 2
      clear hkx b0 hx hq
      go_wp2
      go_roundw
      case rel => exact ⟨k + 1, _, by omega, by go_num, by go_num, hgs, hW2⟩
      case measure => simp [intOf]; omega
    · have H : Hid (q = grow ks) := by show _ = _; rw [hq.out, grow_end (by omega)]
      clear hx hq
      go_wp2
      go_ret
      exact ⟨by rw [H.out]; rfl, hW⟩
set_option maxHeartbeats 2000000 in
set_option maxRecDepth 100000 in
theorem batch_ordered {A : Option Addr} {c : Nat} {ks : List Cg} {w : World} (hx : Cgs w A ks) (hk : ∀ k ∈ ks, -1099511627776 ≤ k.at_ ∧ k.at_ ≤ 1099511627776) (hs : ∀ k ∈ ks, k.old.size ≤ 281474976710656) (hm : ks.length ≤ 100000) :
    Calls Tryd.prog 67 #[.slice A ks.length c] w fun e w' => e = .returned (.bool (apart ks)) ∧ Below w.heap.size w w' := by
  have HK := Lib.hid hk
  have HS := Lib.hid hs
  clear hk hs
  go_enter Tryd.func67, Tryd.ntmps67
  go_wp2_with fail
  go_loopw [3] (fun iv wr => ∃ k m : Nat, iv = .int .i64 m ∧ Hid (k + 1 = m) ∧ (k : Int) = (m : Int) - 1 ∧ (ks.length = 0 ∨ m ≤ ks.length) ∧ Hid (apart ks = apart (ks.drop k)) ∧ Below w.heap.size w wr) (fun iv _ => ks.length + 1 - (intOf iv).toNat)
  case atStart => exact ⟨0, 1, rfl, rfl, rfl, by omega, rfl, Below.refl _ _⟩
  case round =>
    obtain ⟨k, m, rfl, hkm, hkm2, hml, hap, hW⟩ := hrel
    by_cases hlt : m < ks.length
    · have hkl : k < ks.length := by have := hkm.out; omega
      obtain ⟨x, hkx⟩ : ∃ x, ks[k]? = some x := ⟨_, List.getElem?_eq_getElem hkl⟩
      obtain ⟨y, hky⟩ : ∃ y, ks[m]? = some y := ⟨_, List.getElem?_eq_getElem hlt⟩
      obtain ⟨b, off, hA, hbw, c0, c1, c2⟩ := hx.at_ hW (Nat.le_refl _) hkx
      obtain ⟨b', off', hA', _, e0, e1, e2⟩ := hx.at_ hW (Nat.le_refl _) hky
      subst hA
      simp only [Option.some.injEq, Addr.mk.injEq, and_true] at hA'
      obtain ⟨rfl, rfl⟩ := hA'
      have hst := apart_drop hkx (by rw [hkm.out]; exact hky)
      rw [← hap.out, hkm.out] at hst
      obtain ⟨x1, x2⟩ := HK.out x (List.mem_of_getElem? hkx)
      obtain ⟨y1, y2⟩ := HK.out y (List.mem_of_getElem? hky)
      have xo := HS.out x (List.mem_of_getElem? hkx)
      have i1 : (m : Int) - 1 = k := hkm2.symm
      have i2 : (k : Int) < ks.length := by omega
      have i3 : (m : Int) < ks.length := by omega
      have hst2 := Lib.hid hst
      have hb2 : b < wr.heap.size := Nat.lt_of_lt_of_le hbw hW.size
      clear hkx hky hx hap hkm2 hst hml
      have bx1 : Blk ((wr.alloc (.cells #[.int .i64 x.at_, .string x.old, .string x.new] 48)).alloc (.cells #[.int .i64 y.at_, .string y.old, .string y.new] 48)) wr.heap.size 48 #[.int .i64 x.at_, .string x.old, .string x.new] := (Blk.new wr _ _).alloc _
      have by1 : Blk ((wr.alloc (.cells #[.int .i64 x.at_, .string x.old, .string x.new] 48)).alloc (.cells #[.int .i64 y.at_, .string y.old, .string y.new] 48)) (wr.heap.size + 1) 48 #[.int .i64 y.at_, .string y.old, .string y.new] := by
        have := Blk.new (wr.alloc (.cells #[.int .i64 x.at_, .string x.old, .string x.new] 48)) 48 #[.int .i64 y.at_, .string y.old, .string y.new]
        rwa [World.size_alloc] at this
      have bx2 : Blk ((wr.alloc (.cells #[.int .i64 y.at_, .string y.old, .string y.new] 48)).alloc (.cells #[.int .i64 x.at_, .string x.old, .string x.new] 48)) (wr.heap.size + 1) 48 #[.int .i64 x.at_, .string x.old, .string x.new] := by
        have := Blk.new (wr.alloc (.cells #[.int .i64 y.at_, .string y.old, .string y.new] 48)) 48 #[.int .i64 x.at_, .string x.old, .string x.new]
        rwa [World.size_alloc] at this
      have by2 : Blk ((wr.alloc (.cells #[.int .i64 y.at_, .string y.old, .string y.new] 48)).alloc (.cells #[.int .i64 x.at_, .string x.old, .string x.new] 48)) wr.heap.size 48 #[.int .i64 y.at_, .string y.old, .string y.new] := (Blk.new wr _ _).alloc _
      have p0 : ((wr.alloc (.cells #[.int .i64 x.at_, .string x.old, .string x.new] 48)).alloc (.cells #[.int .i64 y.at_, .string y.old, .string y.new] 48)).cell? ⟨wr.heap.size, 0, none⟩ = some (.int .i64 x.at_) := bx1.cell 0
      have p1 : ((wr.alloc (.cells #[.int .i64 x.at_, .string x.old, .string x.new] 48)).alloc (.cells #[.int .i64 y.at_, .string y.old, .string y.new] 48)).cell? ⟨wr.heap.size, 1, none⟩ = some (.string x.old) := bx1.cell 1
      have p2 : ((wr.alloc (.cells #[.int .i64 x.at_, .string x.old, .string x.new] 48)).alloc (.cells #[.int .i64 y.at_, .string y.old, .string y.new] 48)).cell? ⟨wr.heap.size + 1, 0, none⟩ = some (.int .i64 y.at_) := by1.cell 0
      have p3 : ((wr.alloc (.cells #[.int .i64 y.at_, .string y.old, .string y.new] 48)).alloc (.cells #[.int .i64 x.at_, .string x.old, .string x.new] 48)).cell? ⟨wr.heap.size + 1, 0, none⟩ = some (.int .i64 x.at_) := bx2.cell 0
      have p4 : ((wr.alloc (.cells #[.int .i64 y.at_, .string y.old, .string y.new] 48)).alloc (.cells #[.int .i64 x.at_, .string x.old, .string x.new] 48)).cell? ⟨wr.heap.size + 1, 1, none⟩ = some (.string x.old) := bx2.cell 1
      have p5 : ((wr.alloc (.cells #[.int .i64 y.at_, .string y.old, .string y.new] 48)).alloc (.cells #[.int .i64 x.at_, .string x.old, .string x.new] 48)).cell? ⟨wr.heap.size, 0, none⟩ = some (.int .i64 y.at_) := by2.cell 0
      have hW2 : ∀ o o', Below w.heap.size w ((wr.alloc o).alloc o').drew := fun o o' => ((hW.alloc hW.size _).alloc (by have := hW.size; simp; omega) _).drew
      clear bx1 by1 bx2 by2
      by_cases h1 : y.at_ < x.at_
      · have H : Hid (apart ks = false) := by show _ = _; rw [hst2.out, decide_eq_false (by omega)]; rfl
        go_wp2
        go_region
        all_goals
          go_wp2
          go_ret
          exact ⟨by rw [H.out]; rfl, hW2 _ _⟩
      · obtain ⟨d, hd⟩ : ∃ d : Nat, y.at_ - x.at_ = d := ⟨(y.at_ - x.at_).toNat, by omega⟩
        have hdl : d ≤ 2199023255552 := by omega
        by_cases h2 : d < x.old.size
        · have H : Hid (apart ks = false) := by show _ = _; rw [hst2.out, decide_eq_false (by omega)]; rfl
          go_wp2
          go_region
          all_goals
            go_wp2
            go_ret
            exact ⟨by rw [H.out]; rfl, hW2 _ _⟩
        · have H : Hid (apart ks = apart (ks.drop m)) := by show _ = _; rw [hst2.out, decide_eq_true (by omega)]; rfl
          go_wp2
          go_region
          all_goals
            go_wp2
            go_roundw
            case rel => exact ⟨m, m + 1, by go_num, rfl, by omega, by omega, H, hW2 _ _⟩
            case measure => simp [intOf]; omega
    · have hge : ks.length ≤ k + 1 := by have := hkm.out; omega
      have H : Hid (apart ks = true) := by show _ = _; rw [hap.out, apart_end hge]
      clear hx hap hkm2 hml
      go_wp2
      go_ret
      exact ⟨by rw [H.out]; rfl, hW⟩
end Go.Proofs.YtlfhfpjffdaomaaDoor
