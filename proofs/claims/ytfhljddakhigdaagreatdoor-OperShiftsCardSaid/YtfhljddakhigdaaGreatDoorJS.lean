/-
  Whether changes stand one behind the other, how many bytes more there are behind them, whether they may be made at once: as package batch tells it.
-/
import Derived.Test.YtfhljddakhigdaaGreatDoorBatch
import Derived.Test.YtfhljddakhigdaaGreatDoorFits
import Derived.WalkLawsBesides
import Derived.Test.YtfhljddakhigdaaGreatDoorBuilderWrite
import Derived.Test.YtfhljddakhigdaaGreatDoorJ2
import Derived.Test.YtfhljddakhigdaaGreatDoorLineCalls
import Derived.Test.YtfhljddakhigdaaGreatDoorJ1
namespace Go.Proofs.YtfhljddakhigdaaGreatDoor
open Go.RowKit
open Utf Chg Btc
theorem grow_end {ks : List Cg} {j : Nat} (h : ks.length ≤ j) : grow (ks.take j) = grow ks := by rw [List.take_of_length_le h]
set_option maxHeartbeats 1000000 in
set_option maxRecDepth 100000 in
theorem batch_growth {A : Option Addr} {c : Nat} {ks : List Cg} {w : World} (hx : Cgs w A ks) (hs : weigh ks ≤ 100000) (hm : ks.length ≤ 100000) :
    Calls Tryz.prog 38 #[.slice A ks.length c] w fun e w' => e = .returned (.int .i64 (grow ks)) ∧ Below w.heap.size w w' := by
  go_enter Tryz.func38, Tryz.ntmps38
  go_wp2_with fail
  go_loopw [3, 8] (fun nv iv wr => ∃ (k : Nat) (q : Int), k ≤ ks.length ∧ iv = .int .i64 k ∧ nv = .int .i64 q ∧ Hid (q = grow (ks.take k)) ∧ Below w.heap.size w wr) (fun _ iv _ => ks.length - (intOf iv).toNat)
  case atStart => exact ⟨0, 0, Nat.zero_le _, rfl, rfl, rfl, Below.refl _ _⟩
  case round =>
    obtain ⟨k, q, hkl, rfl, rfl, hq, hW⟩ := hrel
    by_cases hlt : k < ks.length
    · obtain ⟨x, hkx⟩ : ∃ x, ks[k]? = some x := ⟨_, List.getElem?_eq_getElem hlt⟩
      obtain ⟨b, off, rfl, hbw, c0, c1, c2⟩ := hx.at_ hW (Nat.le_refl _) hkx
      have hsn := weigh_snoc hkx
      have htk := weigh_take ks (k + 1)
      have hgw := grow_weigh (ks.take k)
      rw [← hq.out] at hgw
      have hgs : Hid (q + ((x.new.size : Int) - x.old.size) = grow (ks.take (k + 1))) := by show _ = _; rw [grow_snoc hkx, hq.out]
      have hW2 : Below w.heap.size w (wr.alloc (.cells #[.int .i64 x.at_, .string x.old, .string x.new] 56)) := hW.alloc hW.size _
      have b0 := Blk.new wr 56 #[.int .i64 x.at_, .string x.old, .string x.new]
      have d0 : (wr.alloc (.cells #[.int .i64 x.at_, .string x.old, .string x.new] 56)).cell? ⟨wr.heap.size, 0, none⟩ = some (.int .i64 x.at_) := b0.cell 0
      have d1 : (wr.alloc (.cells #[.int .i64 x.at_, .string x.old, .string x.new] 56)).cell? ⟨wr.heap.size, 1, none⟩ = some (.string x.old) := b0.cell 1
      have d2 : (wr.alloc (.cells #[.int .i64 x.at_, .string x.old, .string x.new] 56)).cell? ⟨wr.heap.size, 2, none⟩ = some (.string x.new) := b0.cell 2
      clear hkx b0 hx hq
      go_wp2
      go_roundw
      case rel => exact ⟨k + 1, _, by omega, by go_num, by go_num, hgs, hW2⟩
      case measure => simp [intOf]; omega
    · have H : Hid (q = grow ks) := by show _ = _; rw [hq.out, grow_end (by omega)]
      clear hx hq
      go_wp2
      go_ret
      exact ⟨by rw [H.out]; rfl, hW⟩
set_option maxHeartbeats 2000000 in
set_option maxRecDepth 100000 in
theorem batch_ordered {A : Option Addr} {c : Nat} {ks : List Cg} {w : World} (hx : Cgs w A ks) (hk : ∀ k ∈ ks, -1099511627776 ≤ k.at_ ∧ k.at_ ≤ 1099511627776) (hs : ∀ k ∈ ks, k.old.size ≤ 281474976710656) (hm : ks.length ≤ 100000) :
    Calls Tryz.prog 66 #[.slice A ks.length c] w fun e w' => e = .returned (.bool (apart ks)) ∧ Below w.heap.size w w' := by
  have HK := Lib.hid hk
  have HS := Lib.hid hs
  clear hk hs
  go_enter Tryz.func66, Tryz.ntmps66
  go_wp2_with fail
  go_loopw [3] (fun iv wr => ∃ k m : Nat, iv = .int .i64 m ∧ Hid (k + 1 = m) ∧ (k : Int) = (m : Int) - 1 ∧ (ks.length = 0 ∨ m ≤ ks.length) ∧ Hid (apart ks = apart (ks.drop k)) ∧ Below w.heap.size w wr) (fun iv _ => ks.length + 1 - (intOf iv).toNat)
  case atStart => exact ⟨0, 1, rfl, rfl, rfl, by omega, rfl, Below.refl _ _⟩
  case round =>
    obtain ⟨k, m, rfl, hkm, hkm2, hml, hap, hW⟩ := hrel
    by_cases hlt : m < ks.length
    · have hkl : k < ks.length := by have := hkm.out; omega
      obtain ⟨x, hkx⟩ : ∃ x, ks[k]? = some x := ⟨_, List.getElem?_eq_getElem hkl⟩
      obtain ⟨y, hky⟩ : ∃ y, ks[m]? = some y := ⟨_, List.getElem?_eq_getElem hlt⟩
      obtain ⟨b, off, hA, hbw, c0, c1, c2⟩ := hx.at_ hW (Nat.le_refl _) hkx
      obtain ⟨b', off', hA', _, e0, e1, e2⟩ := hx.at_ hW (Nat.le_refl _) hky
      subst hA
      simp only [Option.some.injEq, Addr.mk.injEq, and_true] at hA'
      obtain ⟨rfl, rfl⟩ := hA'
      have hst := apart_drop hkx (by rw [hkm.out]; exact hky)
      rw [← hap.out, hkm.out] at hst
      obtain ⟨x1, x2⟩ := HK.out x (List.mem_of_getElem? hkx)
      obtain ⟨y1, y2⟩ := HK.out y (List.mem_of_getElem? hky)
      have xo := HS.out x (List.mem_of_getElem? hkx)
      have i1 : (m : Int) - 1 = k := hkm2.symm
      have i2 : (k : Int) < ks.length := by omega
      have i3 : (m : Int) < ks.length := by omega
      have hst2 := Lib.hid hst
      have hb2 : b < wr.heap.size := Nat.lt_of_lt_of_le hbw hW.size
      clear hkx hky hx hap hkm2 hst hml
      have bx1 : Blk ((wr.alloc (.cells #[.int .i64 x.at_, .string x.old, .string x.new] 56)).alloc (.cells #[.int .i64 y.at_, .string y.old, .string y.new] 56)) wr.heap.size 56 #[.int .i64 x.at_, .string x.old, .string x.new] := (Blk.new wr _ _).alloc _
      have by1 : Blk ((wr.alloc (.cells #[.int .i64 x.at_, .string x.old, .string x.new] 56)).alloc (.cells #[.int .i64 y.at_, .string y.old, .string y.new] 56)) (wr.heap.size + 1) 56 #[.int .i64 y.at_, .string y.old, .string y.new] := by
        have := Blk.new (wr.alloc (.cells #[.int .i64 x.at_, .string x.old, .string x.new] 56)) 56 #[.int .i64 y.at_, .string y.old, .string y.new]
        rwa [World.size_alloc] at this
      have bx2 : Blk ((wr.alloc (.cells #[.int .i64 y.at_, .string y.old, .string y.new] 56)).alloc (.cells #[.int .i64 x.at_, .string x.old, .string x.new] 56)) (wr.heap.size + 1) 56 #[.int .i64 x.at_, .string x.old, .string x.new] := by
        have := Blk.new (wr.alloc (.cells #[.int .i64 y.at_, .string y.old, .string y.new] 56)) 56 #[.int .i64 x.at_, .string x.old, .string x.new]
        rwa [World.size_alloc] at this
      have by2 : Blk ((wr.alloc (.cells #[.int .i64 y.at_, .string y.old, .string y.new] 56)).alloc (.cells #[.int .i64 x.at_, .string x.old, .string x.new] 56)) wr.heap.size 56 #[.int .i64 y.at_, .string y.old, .string y.new] := (Blk.new wr _ _).alloc _
      have p0 : ((wr.alloc (.cells #[.int .i64 x.at_, .string x.old, .string x.new] 56)).alloc (.cells #[.int .i64 y.at_, .string y.old, .string y.new] 56)).cell? ⟨wr.heap.size, 0, none⟩ = some (.int .i64 x.at_) := bx1.cell 0
      have p1 : ((wr.alloc (.cells #[.int .i64 x.at_, .string x.old, .string x.new] 56)).alloc (.cells #[.int .i64 y.at_, .string y.old, .string y.new] 56)).cell? ⟨wr.heap.size, 1, none⟩ = some (.string x.old) := bx1.cell 1
      have p2 : ((wr.alloc (.cells #[.int .i64 x.at_, .string x.old, .string x.new] 56)).alloc (.cells #[.int .i64 y.at_, .string y.old, .string y.new] 56)).cell? ⟨wr.heap.size + 1, 0, none⟩ = some (.int .i64 y.at_) := by1.cell 0
      have p3 : ((wr.alloc (.cells #[.int .i64 y.at_, .string y.old, .string y.new] 56)).alloc (.cells #[.int .i64 x.at_, .string x.old, .string x.new] 56)).cell? ⟨wr.heap.size + 1, 0, none⟩ = some (.int .i64 x.at_) := bx2.cell 0
      have p4 : ((wr.alloc (.cells #[.int .i64 y.at_, .string y.old, .string y.new] 56)).alloc (.cells #[.int .i64 x.at_, .string x.old, .string x.new] 56)).cell? ⟨wr.heap.size + 1, 1, none⟩ = some (.string x.old) := bx2.cell 1
      have p5 : ((wr.alloc (.cells #[.int .i64 y.at_, .string y.old, .string y.new] 56)).alloc (.cells #[.int .i64 x.at_, .string x.old, .string x.new] 56)).cell? ⟨wr.heap.size, 0, none⟩ = some (.int .i64 y.at_) := by2.cell 0
      have hW2 : ∀ o o', Below w.heap.size w ((wr.alloc o).alloc o').drew := fun o o' => ((hW.alloc hW.size _).alloc (by have := hW.size; simp; omega) _).drew
      clear bx1 by1 bx2 by2
      by_cases h1 : y.at_ < x.at_
      · have H : Hid (apart ks = false) := by show _ = _; rw [hst2.out, decide_eq_false (by omega)]; rfl
        go_wp2
        go_region
        all_goals
          go_wp2
          go_ret
          exact ⟨by rw [H.out]; rfl, hW2 _ _⟩
      · obtain ⟨d, hd⟩ : ∃ d : Nat, y.at_ - x.at_ = d := ⟨(y.at_ - x.at_).toNat, by omega⟩
        have hdl : d ≤ 2199023255552 := by omega
        by_cases h2 : d < x.old.size
        · have H : Hid (apart ks = false) := by show _ = _; rw [hst2.out, decide_eq_false (by omega)]; rfl
          go_wp2
          go_region
          all_goals
            go_wp2
            go_ret
            exact ⟨by rw [H.out]; rfl, hW2 _ _⟩
        · have H : Hid (apart ks = apart (ks.drop m)) := by show _ = _; rw [hst2.out, decide_eq_true (by omega)]; rfl
          go_wp2
          go_region
          all_goals
            go_wp2
            go_roundw
            case rel => exact ⟨m, m + 1, by go_num, rfl, by omega, by omega, H, hW2 _ _⟩
            case measure => simp [intOf]; omega
    · have hge : ks.length ≤ k + 1 := by have := hkm.out; omega
      have H : Hid (apart ks = true) := by show _ = _; rw [hap.out, apart_end hge]
      clear hx hap hkm2 hml
      go_wp2
      go_ret
      exact ⟨by rw [H.out]; rfl, hW⟩
end Go.Proofs.YtfhljddakhigdaaGreatDoor
/-
  What undoes changes made at once, as package batch tells it.
-/
namespace Go.Proofs.YtfhljddakhigdaaGreatDoor
open Go.RowKit
open Utf Chg Btc
namespace Btc
/-- The cells of changes, one behind the other. -/
def rows (l : List Cg) : List Value := l.flatMap fun k => [.int .i64 k.at_, .string k.old, .string k.new]
theorem rows_append (a b : List Cg) : rows (a ++ b) = rows a ++ rows b := by simp [rows]
theorem rows_get : ∀ {l : List Cg} {j : Nat} {k : Cg}, l[j]? = some k → (rows l)[j * 3]? = some (.int .i64 k.at_) ∧ (rows l)[j * 3 + 1]? = some (.string k.old) ∧ (rows l)[j * 3 + 2]? = some (.string k.new)
  | [], _, _, h => by simp at h
  | x :: r, 0, k, h => by
    simp only [List.getElem?_cons_zero, Option.some.injEq] at h
    subst h
    exact ⟨rfl, rfl, rfl⟩
  | x :: r, j + 1, k, h => by
    have ih := rows_get (l := r) (j := j) (by simpa using h)
    have e : rows (x :: r) = .int .i64 x.at_ :: .string x.old :: .string x.new :: rows r := rfl
    rw [e, show (j + 1) * 3 = j * 3 + 1 + 1 + 1 by omega]
    exact ih
/-- What undoes changes: nothing, if they do not stand in their order. -/
def turns (ks : List Cg) : List Cg := if apart ks = true then turned 0 ks else []
end Btc
theorem info_cg : (Tryz.prog.info? 56).map (fun i => (i.zero, i.size, i.bytes)) = some (some (.agg #[.int .i64 0, .string ⟨#[]⟩, .string ⟨#[]⟩]), 3, 40) := by kernel_rfl
/-- Changes that the call has laid. -/
theorem own_cgs {w : World} {B : Nat} {e : TypeId} {A : Option Addr} {n c : Nat} {l : List Cg} (h : w.ownsRow B e 3 (.slice A n c) n (rows l)) (hn : l.length = n) : Cgs w A l := fun h0 => by
  rcases h.2 with ⟨_, h1⟩ | ⟨g, cap, cur, hv, _, hh, _⟩
  · omega
  · injection hv with e1 e2 e3
    subst e1
    have hc := h.cells (g := g) rfl
    have hp : ∀ j, (⟨g, 0, none⟩ : Addr).add j = ⟨g, 0 + j, none⟩ := fun j => add_plain g 0 j
    refine ⟨g, 0, rfl, Blk.lt (w := w) hh, fun j k hj => ?_⟩
    obtain ⟨h1, h2, h3⟩ := rows_get hj
    refine ⟨?_, ?_, ?_⟩
    · rw [← hp]; exact hc _ _ h1
    · rw [Nat.add_assoc, ← hp]; exact hc _ _ h2
    · rw [Nat.add_assoc, ← hp]; exact hc _ _ h3
/-- An answer of changes that the call has laid. -/
def TurnIs (l : List Cg) (w : World) (e : Ending) (w' : World) : Prop := ∃ (A : Option Addr) (c : Nat), e = .returned (.slice A l.length c) ∧ Cgs w' A l ∧ Below w.heap.size w w'
end Go.Proofs.YtfhljddakhigdaaGreatDoor
/-
  Whether changes may be made at once of a text, as package batch tells it.
-/
namespace Go.Proofs.YtfhljddakhigdaaGreatDoor
open Go.RowKit
open Utf Chg Btc
theorem fit_drop {t : List UInt8} {ks : List Cg} {j : Nat} {k : Cg} (h : ks[j]? = some k) : (ks.drop j).all (fun k => fits t k.at_ k.old.data.toList k.new.data.toList) = (fits t k.at_ k.old.data.toList k.new.data.toList && (ks.drop (j + 1)).all (fun k => fits t k.at_ k.old.data.toList k.new.data.toList)) := by
  obtain ⟨hj, rfl⟩ := List.getElem?_eq_some_iff.1 h
  rw [List.drop_eq_getElem_cons hj]
  rfl
set_option maxHeartbeats 2000000 in
set_option maxRecDepth 100000 in
theorem batch_Right (t : ByteArray) {A : Option Addr} {c : Nat} {ks : List Cg} {w : World} (hx : Cgs w A ks) (ht : t.size ≤ 281474976710656) (hk : ∀ k ∈ ks, -1099511627776 ≤ k.at_ ∧ k.at_ ≤ 1099511627776) (hs : weigh ks ≤ 100000) (hm : ks.length ≤ 100000) :
    Calls Tryz.prog 37 #[.string t, .slice A ks.length c] w fun e w' => e = .returned (.bool (right t.data.toList ks)) ∧ Below w.heap.size w w' := by
  have O := Lib.hid (batch_ordered (c := c) hx hk (fun k hk => by
    have h1 : weigh ks ≤ 100000 := hs
    have : k.old.size ≤ weigh ks := by
      obtain ⟨j, hj, rfl⟩ := List.getElem_of_mem hk
      have h2 := weigh_snoc (List.getElem?_eq_getElem hj)
      have h3 := weigh_take ks (j + 1)
      omega
    omega) hm)
  cases hap : apart ks with
  | false =>
    have H : Hid (right t.data.toList ks = false) := by show _ = _; rw [right, hap]; rfl
    rw [hap] at O
    clear hap hx
    go_enter Tryz.func37, Tryz.ntmps37
    go_wp2_with (go_at_call 66; refine O.out.mono ?_; rintro e w1 ⟨rfl, hb1⟩)
    go_ret
    exact ⟨by rw [H.out]; rfl, hb1⟩
  | true =>
    have H0 : Hid (right t.data.toList ks = (ks.drop 0).all (fun k => fits t.data.toList k.at_ k.old.data.toList k.new.data.toList)) := by show _ = _; rw [right, hap]; rfl
    rw [hap] at O
    clear hap
    go_enter Tryz.func37, Tryz.ntmps37
    go_wp2_with (go_at_call 66; refine O.out.mono ?_; rintro e w1 ⟨rfl, hb1⟩)
    go_loopw [12] (fun iv wr => ∃ k : Nat, k ≤ ks.length ∧ iv = .int .i64 k ∧ Hid (right t.data.toList ks = (ks.drop k).all (fun k => fits t.data.toList k.at_ k.old.data.toList k.new.data.toList)) ∧ Below w.heap.size w wr) (fun iv _ => ks.length - (intOf iv).toNat)
    case atStart => exact ⟨0, Nat.zero_le _, rfl, H0, hb1⟩
    case round =>
      obtain ⟨k, hkl, rfl, HD, hW⟩ := hrel
      clear O H0 hb1
      by_cases hlt : k < ks.length
      · obtain ⟨x, hkx⟩ : ∃ x, ks[k]? = some x := ⟨_, List.getElem?_eq_getElem hlt⟩
        obtain ⟨b, off, rfl, hbw, c0, c1, c2⟩ := hx.at_ hW (Nat.le_refl _) hkx
        have hsn := weigh_snoc hkx
        have htk := weigh_take ks (k + 1)
        have hst := fit_drop (t := t.data.toList) hkx
        rw [← HD.out] at hst
        have hW2 : Below w.heap.size w (wr.alloc (.cells #[.int .i64 x.at_, .string x.old, .string x.new] 56)) := hW.alloc hW.size _
        have b0 := Blk.new wr 56 #[.int .i64 x.at_, .string x.old, .string x.new]
        have d0 : (wr.alloc (.cells #[.int .i64 x.at_, .string x.old, .string x.new] 56)).cell? ⟨wr.heap.size, 0, none⟩ = some (.int .i64 x.at_) := b0.cell 0
        have d1 : (wr.alloc (.cells #[.int .i64 x.at_, .string x.old, .string x.new] 56)).cell? ⟨wr.heap.size, 1, none⟩ = some (.string x.old) := b0.cell 1
        have d2 : (wr.alloc (.cells #[.int .i64 x.at_, .string x.old, .string x.new] 56)).cell? ⟨wr.heap.size, 2, none⟩ = some (.string x.new) := b0.cell 2
        have F := Lib.hid (fun w => change_Fits t x.at_ x.old x.new ht (by omega) (by omega) w)
        cases hf : fits t.data.toList x.at_ x.old.data.toList x.new.data.toList with
        | false =>
          rw [hf] at F hst
          have H := Lib.hid hst
          clear hkx b0 hx hst hf HD
          go_wp2_with (go_at_call 67; refine (F.out _).mono ?_; rintro e w2 ⟨rfl, hb3⟩)
          go_ret
          exact ⟨by rw [H.out]; rfl, hW2.trans (hb3.mono hW2.size)⟩
        | true =>
          rw [hf, Bool.true_and] at hst
          rw [hf] at F
          have H := Lib.hid hst
          clear hkx b0 hx hst hf HD
          go_wp2_with (go_at_call 67; refine (F.out _).mono ?_; rintro e w2 ⟨rfl, hb3⟩)
          go_roundw
          case rel => exact ⟨k + 1, by omega, by go_num, H, hW2.trans (hb3.mono hW2.size)⟩
          case measure => simp [intOf]; omega
      · have H : Hid (right t.data.toList ks = true) := by show _ = _; rw [HD.out, List.drop_eq_nil_of_le (by omega)]; rfl
        clear hx HD
        go_wp2
        go_ret
        exact ⟨by rw [H.out]; rfl, hW⟩
end Go.Proofs.YtfhljddakhigdaaGreatDoor
/-
  What changes made at once make of a text, as package batch tells it.
-/
namespace Go.Proofs.YtfhljddakhigdaaGreatDoor
open Go.RowKit
open Utf Chg Btc
theorem done_no {t : List UInt8} {ks : List Cg} (h : right t ks = false) : done t ks = ([], 1) := by unfold done; rw [if_neg (by rw [h]; exact Bool.false_ne_true)]
theorem done_big {t : List UInt8} {ks : List Cg} (h : right t ks = true) (hb : 4096 < (made t ks).length) : done t ks = ([], 8) := by unfold done; rw [if_pos h, if_pos hb]
theorem done_ok {t : List UInt8} {ks : List Cg} (h : right t ks = true) (hb : ¬ 4096 < (made t ks).length) : done t ks = (made t ks, 0) := by unfold done; rw [if_pos h, if_neg hb]
theorem right_in0 {t : List UInt8} {ks : List Cg} (h : right t ks = true) : In t.length 0 ks := right_in h (Nat.zero_le _) (fun k hk => by
  have h1 : k ∈ ks := List.mem_of_mem_head? (by rw [hk]; rfl)
  simp only [right, Bool.and_eq_true, List.all_eq_true] at h
  obtain ⟨a, ha, _⟩ := fits_off (h.2 k h1)
  omega)
theorem extract_mid (s : ByteArray) (i j : Nat) : s.extract i j = bs ((s.data.toList.drop i).take (j - i)) := by
  rw [Lib.extract_eq]
  rfl
theorem made_all {t : List UInt8} {ks : List Cg} (h : In t.length 0 ks) : made t ks = [] ++ Btc.parts t 0 (ks.drop 0) := by
  rw [made_parts h]
  simp
/-- A round: what stands ahead of a change, and what it puts in. -/
theorem parts_drop {t : List UInt8} {ks : List Cg} {j f : Nat} {k : Cg} (h : ks[j]? = some k) (hi : In t.length f (ks.drop j)) : ∃ a : Nat, k.at_ = a ∧ f ≤ a ∧ a + k.old.size ≤ t.length ∧ In t.length (a + k.old.size) (ks.drop (j + 1)) ∧
    Btc.parts t f (ks.drop j) = (t.drop f).take (a - f) ++ (k.new.data.toList ++ Btc.parts t (a + k.old.size) (ks.drop (j + 1))) := by
  obtain ⟨hj, rfl⟩ := List.getElem?_eq_some_iff.1 h
  rw [List.drop_eq_getElem_cons hj] at hi ⊢
  obtain ⟨a, ha, hf, hr⟩ := hi
  refine ⟨a, ha, hf, hr.le, hr, ?_⟩
  rw [Btc.parts, ha, Int.toNat_natCast]
theorem parts_end {t : List UInt8} {ks : List Cg} {j f : Nat} (h : ks.length ≤ j) : Btc.parts t f (ks.drop j) = t.drop f := by
  rw [List.drop_eq_nil_of_le h]
  rfl
set_option maxHeartbeats 2000000 in
set_option maxRecDepth 100000 in
theorem batch_Do (t : ByteArray) {A : Option Addr} {c : Nat} {ks : List Cg} {w : World} (hx : Cgs w A ks) (ht : t.size ≤ 10000) (hk : ∀ k ∈ ks, -1099511627776 ≤ k.at_ ∧ k.at_ ≤ 1099511627776) (hs : weigh ks ≤ 10000) (hm : ks.length ≤ 1000) :
    Calls Tryz.prog 13 #[.string t, .slice A ks.length c] w fun e w' => e = .returned (.tuple #[.string (bs (done t.data.toList ks).1), .int .i64 (done t.data.toList ks).2]) ∧ Below w.heap.size w w' := by
  have hl := data_len t
  have R : Hid (∀ u, Below w.heap.size w u → Calls Tryz.prog 37 #[.string t, .slice A ks.length c] u fun e w' => e = .returned (.bool (right t.data.toList ks)) ∧ Below u.heap.size u w') := fun u hu => batch_Right t (hx.below hu) (by omega) hk (by omega) (by omega)
  have G : Hid (∀ u, Below w.heap.size w u → Calls Tryz.prog 38 #[.slice A ks.length c] u fun e w' => e = .returned (.int .i64 (grow ks)) ∧ Below u.heap.size u w') := fun u hu => batch_growth (hx.below hu) (by omega) (by omega)
  cases hr : right t.data.toList ks with
  | false =>
    have H := Lib.hid (done_no hr)
    rw [hr] at R
    clear hr hx
    go_enter Tryz.func13, Tryz.ntmps13
    go_wp2_with (go_at_call 37; refine (R.out _ (Below.refl _ _)).mono ?_; rintro e w1 ⟨rfl, hb1⟩)
    go_ret2
    exact ⟨by rw [H.out]; rfl, hb1⟩
  | true =>
    have hin := right_in0 hr
    have hml := (made_length hin).1
    rw [hl] at hml
    have hgw := grow_weigh ks
    rw [hr] at R
    by_cases hbig : 4096 < (made t.data.toList ks).length
    · have H := Lib.hid (done_big hr hbig)
      have g0 : (t.size : Int) + grow ks = (made t.data.toList ks).length := by omega
      have hMb : (made t.data.toList ks).length ≤ 20000 := by omega
      clear hr hx hin hml
      generalize (made t.data.toList ks).length = M at *
      go_enter Tryz.func13, Tryz.ntmps13
      go_wp2_with (first
        | (go_at_call 37; refine (R.out _ (Below.refl _ _)).mono ?_; rintro e w1 ⟨rfl, hb1⟩)
        | (go_at_call 38; refine (G.out _ hb1).mono ?_; rintro e w2 ⟨rfl, hb2⟩))
      go_ret2
      exact ⟨by rw [H.out]; rfl, hb1.trans (hb2.mono hb1.size)⟩
    · have H := Lib.hid (done_ok hr hbig)
      have g0 : (t.size : Int) + grow ks = (made t.data.toList ks).length := by omega
      have hMb : (made t.data.toList ks).length ≤ 4096 := by omega
      have HA := Lib.hid (made_all hin)
      have HI := Lib.hid hin
      obtain ⟨X, hX⟩ : ∃ X, made t.data.toList ks = X := ⟨_, rfl⟩
      rw [hX] at H g0 hMb hbig HA
      have hXn : X.length ≤ 281474976710656 := by omega
      clear hr hin hml hX
      obtain ⟨M, hM⟩ : ∃ M, X.length = M := ⟨_, rfl⟩
      rw [hM] at hMb g0 hbig hXn
      have HM := Lib.hid hM
      clear hM
      go_enter Tryz.func13, Tryz.ntmps13
      go_wp2_with (first
        | (go_at_call 37; refine (R.out _ (Below.refl _ _)).mono ?_; rintro e w1 ⟨rfl, hb1⟩)
        | (go_at_call 38; refine (G.out _ hb1).mono ?_; rintro e w2 ⟨rfl, hb2⟩)
        | (go_at_call 39; refine (bd_grow w.heap.size w2.heap.size M (w2.alloc (.cells #[.pointer none, .slice none 0 0] 61)) (Nat.le_trans hb1.size hb2.size) (Blk.new w2 _ _) (by have := hb1.size; have := hb2.size; simp; omega) hXn).mono ?_; rintro e w3 ⟨rfl, hbd, hb3⟩))
      obtain ⟨g, hg⟩ : ∃ g, w2.heap.size = g := ⟨_, rfl⟩
      have hW3 : Below w.heap.size w w3 := ((hb1.trans (hb2.mono hb1.size)).alloc (Nat.le_trans hb1.size hb2.size) _).trans hb3
      rw [hg] at hbd
      rw [hg]
      clear hb1 hb2 hb3 hg R G
      go_loopw [8, 26] (fun fv iv wr => ∃ (k f : Nat) (acc : List UInt8), fv = .int .i64 f ∧ iv = .int .i64 k ∧ k ≤ ks.length ∧ f ≤ t.size ∧ acc.length ≤ 4096 ∧ Hid (X = acc ++ Btc.parts t.data.toList f (ks.drop k)) ∧ Hid (In t.data.toList.length f (ks.drop k)) ∧
        Lib.BuilderAt 61 5 w.heap.size g (.pointer (some ⟨g, 0, none⟩)) (Lib.byteCells acc) wr ∧ Below w.heap.size w wr) (fun _ iv _ => ks.length - (intOf iv).toNat)
      case atStart => exact ⟨0, 0, [], rfl, rfl, Nat.zero_le _, Nat.zero_le _, Nat.zero_le _, HA, HI, hbd, hW3⟩
      case round =>
        obtain ⟨k, f, acc, rfl, rfl, hkl, hft, hac, HX, HN, hbd, hW⟩ := hrel
        clear HA HI hW3 g0
        by_cases hlt : k < ks.length
        · obtain ⟨x, hkx⟩ : ∃ x, ks[k]? = some x := ⟨_, List.getElem?_eq_getElem hlt⟩
          obtain ⟨b, off, rfl, hbw, c0, c1, c2⟩ := hx.at_ hW (Nat.le_refl _) hkx
          obtain ⟨a, ha, hfa, hat, hnx, hpt⟩ := parts_drop hkx HN.out
          rw [hl] at hat
          have hsn := weigh_snoc hkx
          have htk := weigh_take ks (k + 1)
          have e1 := extract_mid t f a
          obtain ⟨P, hP⟩ : ∃ P, (t.data.toList.drop f).take (a - f) = P := ⟨_, rfl⟩
          rw [hP] at e1 hpt
          have hPl : P.length ≤ 10000 := by rw [← hP, List.length_take]; omega
          have HX2 : Hid (X = (acc ++ (P ++ x.new.data.toList)) ++ Btc.parts t.data.toList (a + x.old.size) (ks.drop (k + 1))) := by
            show _ = _
            rw [HX.out, hpt]
            simp
          have hac2 : (acc ++ (P ++ x.new.data.toList)).length ≤ 4096 := by
            have h1 := congrArg List.length HX2.out
            rw [HM.out, List.length_append] at h1
            omega
          have HC : Hid (Lib.byteCells acc ++ Lib.strCells (bs P) ++ Lib.strCells x.new = Lib.byteCells (acc ++ (P ++ x.new.data.toList))) := by
            show _ = _
            rw [byteCells_append, byteCells_append, List.append_assoc]
            rfl
          have HN2 := Lib.hid hnx
          rw [ha] at c0
          have hgw := hbd.lt
          have b0 := Blk.new wr 56 #[.int .i64 a, .string x.old, .string x.new]
          have d0 : (wr.alloc (.cells #[.int .i64 a, .string x.old, .string x.new] 56)).cell? ⟨wr.heap.size, 0, none⟩ = some (.int .i64 a) := b0.cell 0
          have C1 := Lib.hid (bd_write_keeps w.heap.size g (Lib.byteCells acc) (bs P) (wr.alloc (.cells #[.int .i64 a, .string x.old, .string x.new] 56)) (bd_keep hbd ((Below.refl _ wr).alloc (Nat.le_refl _) _)) (by rw [Lib.byteCells_length, bs_size]; omega) (by have := hW.size; simp; omega))
          have C2 : Hid (∀ w4, Lib.BuilderAt 61 5 w.heap.size g (.pointer (some ⟨g, 0, none⟩)) (Lib.byteCells acc ++ Lib.strCells (bs P)) w4 → w.heap.size ≤ w4.heap.size → Calls Tryz.prog 40 #[.pointer (some ⟨g, 0, none⟩), .string x.new] w4 fun e w' => e = .returned (.tuple #[.int .i64 x.new.size, .nilIface]) ∧ (Lib.BuilderAt 61 5 w.heap.size g (.pointer (some ⟨g, 0, none⟩)) (Lib.byteCells acc ++ Lib.strCells (bs P) ++ Lib.strCells x.new) w' ∧ Below w.heap.size w4 w' ∧
              ∀ (g' : Nat) (t : TypeId) (cs : Array Value), Blk w4 g' t cs → 5 ≠ t → g' ≠ g → Blk w' g' t cs)) := fun w4 h4 h5 =>
            bd_write_keeps w.heap.size g _ x.new w4 h4 (by rw [List.length_append, Lib.byteCells_length, Lib.strCells_length, bs_size]; omega) h5
          have hW2 : Below w.heap.size w (wr.alloc (.cells #[.int .i64 a, .string x.old, .string x.new] 56)) := hW.alloc hW.size _
          clear hkx hx ha hpt hP HX HN hnx hbd
          go_wp2_with (first
            | (go_at_call 40; (with_reducible refine C1.out.mono ?_); rintro e w4 ⟨rfl, hbd4, hb4, hk4⟩; have b4 := hk4 _ _ _ b0 (by decide) (by omega); have f0 : w4.cell? ⟨wr.heap.size, 0, none⟩ = some (.int .i64 a) := b4.cell 0; have f1 : w4.cell? ⟨wr.heap.size, 1, none⟩ = some (.string x.old) := b4.cell 1; have f2 : w4.cell? ⟨wr.heap.size, 2, none⟩ = some (.string x.new) := b4.cell 2; have hW4 := hW2.trans hb4)
            | (go_at_call 40; (with_reducible refine (C2.out _ hbd4 hW4.size).mono ?_); rintro e w5 ⟨rfl, hbd5, hb5, hk5⟩; have b5 := hk5 _ _ _ b4 (by decide) (by omega); have k0 : w5.cell? ⟨wr.heap.size, 0, none⟩ = some (.int .i64 a) := b5.cell 0; have k1 : w5.cell? ⟨wr.heap.size, 1, none⟩ = some (.string x.old) := b5.cell 1))
          go_roundw
          case rel => exact ⟨k + 1, a + x.old.size, acc ++ (P ++ x.new.data.toList), by go_num, by go_num, by omega, hat, hac2, HX2, HN2, by rw [← HC.out]; exact hbd5, hW4.trans hb5⟩
          case measure => simp [intOf]; omega
        · have HE : Hid (Lib.byteCells X = Lib.byteCells acc ++ Lib.strCells (bs (t.data.toList.drop f))) := by
            show _ = _
            rw [HX.out, parts_end (by omega), byteCells_append]
            rfl
          have e1 := extract_from t f
          have hdl : (bs (t.data.toList.drop f)).size ≤ 10000 := by rw [bs_size, List.length_drop]; omega
          have C1 := Lib.hid (bd_write_keeps w.heap.size g (Lib.byteCells acc) (bs (t.data.toList.drop f)) wr hbd (by rw [Lib.byteCells_length]; omega) hW.size)
          clear hx HX HN
          generalize bs (t.data.toList.drop f) = Z at *
          go_wp2_with (first
            | (go_at_call 40; refine C1.out.mono ?_; rintro e w4 ⟨rfl, hbd4, hb4, hk4⟩; have hbd5 : Lib.BuilderAt 61 5 w.heap.size g (.pointer (some ⟨g, 0, none⟩)) (Lib.byteCells X) w4 := (by rw [HE.out]; exact hbd4))
            | (go_at_call 41; refine (Tryz.Builder_String_any w.heap.size g X w4 (Or.inr hbd5) (Nat.le_trans hW.size hb4.size)).mono ?_; rintro e w5 ⟨rfl, hb5⟩))
          go_ret2
          exact ⟨by rw [H.out]; rfl, (hW.trans hb4).trans hb5⟩
end Go.Proofs.YtfhljddakhigdaaGreatDoor
/-
  Package oper: lines shifted.
-/
namespace Go.Proofs.YtfhljddakhigdaaGreatDoor
open Go.RowKit
open Opr Gl Btc
namespace Opr
theorem chgs_append (lf : Bool) (a : Nat) (A B : List (List UInt8)) : chgs lf a (A ++ B) = chgs lf a A ++ chgs lf (a + (fore A).length) B := by
  induction A generalizing a with
  | nil => rfl
  | cons x r ih =>
    rw [List.cons_append, chgs, chgs, ih, fore_cons, List.length_append, List.length_cons, List.cons_append, show a + x.length + 1 + (fore r).length = a + (x.length + ((fore r).length + 1)) by omega]
theorem chgs_next {lf : Bool} {a k : Nat} {R : List (List UInt8)} {x : List UInt8} (h : R[k]? = some x) : chgs lf a (R.take (k + 1)) = chgs lf a (R.take k) ++ [chg lf (a + (fore (R.take k)).length) x] := by
  rw [List.take_add_one, h, chgs_append]
  rfl
end Opr
theorem tab_test (s : ByteArray) : Lib.hasPrefix s.data.toList (⟨#[9]⟩ : ByteArray).data.toList = decide (s.data.toList[0]? = some 9) := by
  show List.isPrefixOf [9] s.data.toList = _
  cases s.data.toList with
  | nil => rfl
  | cons b t =>
    rw [Bool.eq_iff_iff, decide_eq_true_iff, List.getElem?_cons_zero, Option.some.injEq, List.isPrefixOf, List.isPrefixOf, Bool.and_true, beq_iff_eq]
    exact eq_comm
set_option maxHeartbeats 1000000 in
set_option maxRecDepth 100000 in
theorem oper_indent (s : ByteArray) (hs : s.size ≤ 1000000000000) (w : World) :
    Calls Tryz.prog 36 #[.string s] w fun e w' => e = .returned (.int .i64 (ind s.data.toList : Nat)) ∧ w = w' := by
  have P := Tryz.strings_HasPrefix s ⟨#[9]⟩
  rw [tab_test] at P
  by_cases h9 : s.data.toList[0]? = some 9
  · have H : Hid (ind s.data.toList = 1) := by show _ = _; rw [ind, if_pos h9]
    rw [decide_eq_true h9] at P
    have P1 := Lib.hid P
    clear P h9
    go_enter Tryz.func36, Tryz.ntmps36
    go_wp2_with (go_at_call 65; (with_reducible refine (P1.out _).mono ?_); rintro e u ⟨rfl, rfl⟩)
    go_ret
    exact ⟨by rw [H.out]; rfl, rfl⟩
  · have H : Hid (ind s.data.toList = ldn 4 s.data.toList) := by show _ = _; rw [ind, if_neg h9]
    rw [decide_eq_false h9] at P
    have P1 := Lib.hid P
    clear P h9
    go_enter Tryz.func36, Tryz.ntmps36
    go_wp2_with (go_at_call 65; (with_reducible refine (P1.out _).mono ?_); rintro e u ⟨rfl, rfl⟩)
    go_loop [3] (fun nv => ∃ n : Nat, nv = .int .i64 n ∧ n ≤ 4 ∧ n ≤ s.size ∧ Hid (n + ldn (4 - n) (s.data.toList.drop n) = ldn 4 s.data.toList)) (fun nv => 4 - (intOf nv).toNat)
    case atStart => exact ⟨0, rfl, by omega, by omega, by show _ = _; rw [List.drop_zero, Nat.sub_zero, Nat.zero_add]⟩
    case round =>
      obtain ⟨n, rfl, hn4, hns, HL⟩ := hrel
      by_cases hlt : n < 4 ∧ n < s.size
      · obtain ⟨h4, h5⟩ := hlt
        have g0 : decide ((n : Int) < min (s.size : Int) 4) = true := decide_eq_true (by omega)
        have hg : (s.data.toList.drop n)[0]? = some s[n] := by rw [List.getElem?_drop, Nat.add_zero, byte_get s h5]
        by_cases hb : s[n] = 32
        · have g1 := blank_test s[n]
          rw [decide_eq_true hb] at g1
          have HL2 : Hid (n + 1 + ldn (4 - (n + 1)) (s.data.toList.drop (n + 1)) = ldn 4 s.data.toList) := by
            show _ = _
            have := HL.out
            rw [show 4 - n = 4 - (n + 1) + 1 by omega, ldn_go hg hb, List.drop_drop] at this
            omega
          clear hg hb HL
          go_wp2
          go_round
          case rel => exact ⟨n + 1, by go_num, by omega, by omega, HL2⟩
          case measure => simp [intOf]; omega
        · have g1 := blank_test s[n]
          rw [decide_eq_false hb] at g1
          have HN : Hid (ind s.data.toList = n) := by
            show _ = _
            have := HL.out
            rw [ldn_stop hg hb] at this
            rw [H.out]; omega
          clear hg hb HL
          go_wp2
          go_ret
          exact ⟨by rw [HN.out]; rfl, rfl⟩
      · have g0 : decide ((n : Int) < min (s.size : Int) 4) = false := decide_eq_false (by omega)
        have HN : Hid (ind s.data.toList = n) := by
          show _ = _
          have := HL.out
          have hl := data_len s
          rcases Nat.lt_or_ge n 4 with h | h
          · rw [List.drop_eq_nil_of_le (by omega), ldn_nil] at this
            rw [H.out]; omega
          · rw [show 4 - n = 0 by omega] at this
            rw [H.out]
            simpa [ldn] using this.symm
        clear hlt HL
        go_wp2
        go_ret
        exact ⟨by rw [HN.out]; rfl, rfl⟩
set_option maxHeartbeats 1000000 in
set_option maxRecDepth 100000 in
theorem oper_growth {A : Option Addr} {c : Nat} {ks : List Cg} {w : World} (hx : Cgs w A ks) (hs : weigh ks ≤ 100000) (hm : ks.length ≤ 100000) :
    Calls Tryz.prog 12 #[.slice A ks.length c] w fun e w' => e = .returned (.int .i64 (grow ks)) ∧ Below w.heap.size w w' := by
  go_enter Tryz.func12, Tryz.ntmps12
  go_wp2_with fail
  go_loopw [3, 8] (fun nv iv wr => ∃ (k : Nat) (q : Int), k ≤ ks.length ∧ iv = .int .i64 k ∧ nv = .int .i64 q ∧ Hid (q = grow (ks.take k)) ∧ Below w.heap.size w wr) (fun _ iv _ => ks.length - (intOf iv).toNat)
  case atStart => exact ⟨0, 0, Nat.zero_le _, rfl, rfl, rfl, Below.refl _ _⟩
  case round =>
    obtain ⟨k, q, hkl, rfl, rfl, hq, hW⟩ := hrel
    by_cases hlt : k < ks.length
    · obtain ⟨x, hkx⟩ : ∃ x, ks[k]? = some x := ⟨_, List.getElem?_eq_getElem hlt⟩
      obtain ⟨b, off, rfl, hbw, c0, c1, c2⟩ := hx.at_ hW (Nat.le_refl _) hkx
      have hsn := weigh_snoc hkx
      have htk := weigh_take ks (k + 1)
      have hgw := grow_weigh (ks.take k)
      rw [← hq.out] at hgw
      have hgs : Hid (q + ((x.new.size : Int) - x.old.size) = grow (ks.take (k + 1))) := by show _ = _; rw [grow_snoc hkx, hq.out]
      have hW2 : Below w.heap.size w (wr.alloc (.cells #[.int .i64 x.at_, .string x.old, .string x.new] 56)) := hW.alloc hW.size _
      have b0 := Blk.new wr 56 #[.int .i64 x.at_, .string x.old, .string x.new]
      have d0 : (wr.alloc (.cells #[.int .i64 x.at_, .string x.old, .string x.new] 56)).cell? ⟨wr.heap.size, 0, none⟩ = some (.int .i64 x.at_) := b0.cell 0
      have d1 : (wr.alloc (.cells #[.int .i64 x.at_, .string x.old, .string x.new] 56)).cell? ⟨wr.heap.size, 1, none⟩ = some (.string x.old) := b0.cell 1
      have d2 : (wr.alloc (.cells #[.int .i64 x.at_, .string x.old, .string x.new] 56)).cell? ⟨wr.heap.size, 2, none⟩ = some (.string x.new) := b0.cell 2
      clear hkx b0 hx hq
      go_wp2
      go_roundw
      case rel => exact ⟨k + 1, _, by omega, by go_num, by go_num, hgs, hW2⟩
      case measure => simp [intOf]; omega
    · have H : Hid (q = grow ks) := by show _ = _; rw [hq.out, grow_end (by omega)]
      clear hx hq
      go_wp2
      go_ret
      exact ⟨by rw [H.out]; rfl, hW⟩
end Go.Proofs.YtfhljddakhigdaaGreatDoor
/-
  Package oper: what shifts lines, one change a line; Shift.
-/
namespace Go.Proofs.YtfhljddakhigdaaGreatDoor
open Go.RowKit
open Opr Gl Btc
/-- What one round of the loop lays, and what stays: the list so far, the row of lines. -/
structure Laid (w wr : World) (g : Nat) (cs : Array Value) (A' : Option Addr) (c' k : Nat) (done : List Cg) (y : Cg) : Prop where
  below : Below wr.heap.size wr ((wr.alloc (.cells y.vals 56)).alloc (.cells y.vals 56))
  own : ((wr.alloc (.cells y.vals 56)).alloc (.cells y.vals 56)).ownsRow w.heap.size 56 3 (.slice A' k c') k (rows done)
  row : Blk ((wr.alloc (.cells y.vals 56)).alloc (.cells y.vals 56)) g 9 cs
  new : Blk ((wr.alloc (.cells y.vals 56)).alloc (.cells y.vals 56)) (wr.heap.size + 1) 56 y.vals
  ne : (Value.slice A' k c').ownBlock ≠ some g
theorem Laid.make {w wr : World} {g : Nat} {cs : Array Value} {A' : Option Addr} {c' k : Nat} {done : List Cg} (y : Cg) (ho : wr.ownsRow w.heap.size 56 3 (.slice A' k c') k (rows done)) (hb : Blk wr g 9 cs) : Laid w wr g cs A' c' k done y := by
  have h5 : Below wr.heap.size wr ((wr.alloc (.cells y.vals 56)).alloc (.cells y.vals 56)) := (((Below.refl _ wr).alloc (Nat.le_refl _) _)).alloc (by simp) _
  have b7 := Blk.new (wr.alloc (.cells y.vals 56)) 56 y.vals
  rw [World.size_alloc] at b7
  exact ⟨h5, ho.kept (gb_below none h5) (by cases hv : (Value.slice A' k c').ownBlock <;> simp), (hb.alloc _).alloc _, b7, own_blk_ne ho hb (by decide)⟩
section
variable (s : ByteArray) {j k : Nat} {x y : Nat × Nat} (hjk : j ≤ k) (hx : (Line.L s.data.toList)[j]? = some x) (hy : (Line.L s.data.toList)[k]? = some y) (hs : s.size ≤ 1100)
include hjk hx hy hs
set_option maxHeartbeats 4000000 in
set_option maxRecDepth 100000 in
theorem oper_shifts (lf : Bool) (w : World) :
    Calls Tryz.prog 11 #[.string s, .int .i64 j, .int .i64 k, .bool lf] w (TurnIs (chgs lf x.1 (((Ix.parts s.data.toList).drop j).take (k + 1 - j))) w) := by
  obtain ⟨hne, hlen, hfree, hsum⟩ : ((Ix.parts s.data.toList).drop j).take (k + 1 - j) ≠ [] ∧ (((Ix.parts s.data.toList).drop j).take (k + 1 - j)).length = k + 1 - j ∧ (∀ z ∈ ((Ix.parts s.data.toList).drop j).take (k + 1 - j), Free z) ∧ x.1 + (glue (((Ix.parts s.data.toList).drop j).take (k + 1 - j))).length = y.2 := by
    obtain ⟨A, B, C, h1, h2, h3, h4, h5, h6, h7⟩ := three hjk hx hy
    have eB : ((Ix.parts s.data.toList).drop j).take (k + 1 - j) = B := by rw [h1, ← h3, List.drop_left, h3, ← h4, List.take_left]
    rw [eB]
    exact ⟨h2, h4, fun z hz => parts_free s.data.toList z (by rw [h1]; exact List.mem_append_right _ (List.mem_append_left C hz)), by rw [h6, h7]⟩
  have hseg := (shift_made hjk hx hy lf).2.2
  have hys := (Line.L_each hy).2
  rw [data_len] at hys
  have S1 := fun w => line_Start s j (by omega) w
  have E1 := fun w => line_End s k (by omega) w
  rw [Line.start_some (by rw [Line.line_nat]; exact hx)] at S1
  rw [Line.stop_some (by rw [Line.line_nat]; exact hy)] at E1
  have X1 := ext_seg s x.1 y.2
  rw [hseg] at X1
  generalize ((Ix.parts s.data.toList).drop j).take (k + 1 - j) = R at *
  have SP := fun w => str_split (bs (glue R)) (by rw [bs_size]; omega) w
  rw [bs_toList, parts_glue hne hfree] at SP
  obtain ⟨m, hm⟩ : ∃ m, R.length = m + 1 := ⟨R.length - 1, by have := List.length_pos_iff.2 hne; omega⟩
  have hgl : x.1 + (glue R).length ≤ 1100 := by omega
  have hRl := glue_length (R := R)
  have hkm : (k : Int) = (j : Int) + (m : Int) := by omega
  have g1 : IntKind.i64.wrap ((k : Int) - (j : Int)) = (m : Int) := by rw [IntKind.wrap_i64]; omega
  have g2 : wrap64 ((k : Int) - (j : Int)) = (m : Int) := by unfold wrap64; omega
  have g3 : (k : Int) - (j : Int) = (m : Int) := by omega
  have hglue := Lib.hid (fore_glue hne)
  have hall := Lib.hid (fun n => fore_most (R := R) n)
  have hxy : x.1 ≤ y.2 := by omega
  have HM := Lib.hid hm
  have S2 := Lib.hid S1
  have E2 := Lib.hid E1
  have SP2 := Lib.hid SP
  obtain ⟨i0, hi, hz0, hz1, hz2⟩ := info_parts info_cg
  clear hx hy hseg hfree hne hlen hjk S1 E1 SP hkm
  generalize x.1 = a at *
  generalize y.2 = b at *
  rw [hm] at SP2
  have hX := Below.refl w.heap.size w
  go_enter Tryz.func11, Tryz.ntmps11
  go_wp2_with (first
    | (go_at_call 28; (with_reducible refine (S2.out _).mono ?_); rintro e u ⟨rfl, hbn⟩; replace hX := hX.trans (hbn.mono hX.size); clear hbn)
    | (go_at_call 30; (with_reducible refine (E2.out _).mono ?_); rintro e u ⟨rfl, hbn⟩; replace hX := hX.trans (hbn.mono hX.size); clear hbn)
    | (at_make; refine wpList_make_own _ rfl _ _ 36 rfl w.heap.size 56 i0 _ 3 Tryz.underlying36 hi hz0 hz1 .i64 .i64 _ (m + 1) rfl rfl rfl (by rw [hz2]; omega) (by unfold maxLen; omega) hX.size ?_; intro w2 hown hgrow; replace hX := hX.trans ((below_gb hgrow).mono hX.size))
    | (go_at_call 31; (with_reducible refine (SP2.out _).mono ?_); rintro e w3 ⟨rfl, rfl⟩))
  have hB := Blk.new w2 9 (R.map (Value.string ∘ bs)).toArray
  replace hX := hX.alloc hX.size (.cells (R.map (Value.string ∘ bs)).toArray 9)
  replace hown := hown.alloc (.cells (R.map (Value.string ∘ bs)).toArray 9)
  have hCS : Hid (∀ (q : Nat) X, R[q]? = some X → (R.map (Value.string ∘ bs)).toArray[q]? = some (.string (bs X))) := fun q X h => by
    rw [List.getElem?_toArray, List.getElem?_map, h]; rfl
  obtain ⟨g, hg⟩ : ∃ g, w2.heap.size = g := ⟨_, rfl⟩
  rw [hg] at hB
  generalize (R.map (Value.string ∘ bs)).toArray = CS at *
  rw [hg]
  clear hgrow hg S2 E2 SP2
  go_loopw [9, 11, 32] (fun av lv iv wr => ∃ (q n : Nat) (A' : Option Addr) (c' : Nat), av = .int .i64 n ∧ lv = .slice A' q c' ∧ iv = .int .i64 q ∧ q ≤ m + 1 ∧ n ≤ 1101 ∧ Hid (n = a + (fore (R.take q)).length) ∧ wr.ownsRow w.heap.size 56 3 lv q (rows (chgs lf a (R.take q))) ∧ Blk wr g 9 CS ∧ Below w.heap.size w wr) (fun _ _ iv _ => m + 1 - (intOf iv).toNat)
  case atStart => exact ⟨0, a, _, _, rfl, rfl, rfl, Nat.zero_le _, by omega, by show _ = _; simp [fore], hown, hB, hX⟩
  case round =>
    clear hB hX hown
    obtain ⟨q, n, A', c', rfl, rfl, rfl, hqm, hn5, hna, hown, hB, hW⟩ := hrel
    by_cases hlt : q < m + 1
    · obtain ⟨X, hX⟩ : ∃ X, R[q]? = some X := ⟨_, List.getElem?_eq_getElem (by have := HM.out; omega)⟩
      have c0 : wr.cell? ⟨g, q, none⟩ = some (.string (bs X)) := by rw [hB.cell]; exact hCS.out q X hX
      have hfn := fore_next hX
      have hfm := hall.out (q + 1)
      have hgo := hglue.out
      have hna2 := hna.out
      obtain ⟨xl, hxl⟩ : ∃ xl, X.length = xl := ⟨_, rfl⟩
      have hsz : (bs X).size = xl := by rw [bs_size, hxl]
      have hnn : Hid (n + (xl + 1) = a + (fore (R.take (q + 1))).length) := by show _ = _; omega
      have hn6 : n + (xl + 1) ≤ 1101 := by omega
      have hts : Hid (chgs lf a (R.take (q + 1)) = chgs lf a (R.take q) ++ [chg lf n X]) := by show _ = _; rw [chgs_next hX, ← hna2]
      have I1 := Lib.hid (fun w => oper_indent (bs X) (by omega) w)
      rw [bs_toList] at I1
      have hind := ind_le X
      have e1 := extract_to (bs X) (ind X)
      rw [bs_toList] at e1
      have g7 := bs_isEmpty X
      clear hfn hfm hgo hna2 hX hna hall hglue hCS HM
      have hlt2 : (q : Int) < (m : Int) + 1 := by omega
      rcases Bool.eq_false_or_eq_true lf with hlf | hlf
      · subst hlf
        rw [hxl] at hind
        have i1 : (ind X : Int) ≤ ((bs X).size : Int) := by omega
        have hY : Hid (chg true n X = ⟨n, (bs (X.take (ind X))), ⟨#[]⟩⟩) := by show _ = _; rw [chg, old, new_, if_pos rfl, if_pos rfl]; rfl
        obtain ⟨h5, hown5, hrow5, b7, hne⟩ := Laid.make (w := w) (⟨n, (bs (X.take (ind X))), ⟨#[]⟩⟩ : Cg) hown hB
        dsimp only [Cg.vals] at h5 hown5 hrow5 b7
        have hts2 : Hid (rows (chgs true a (R.take (q + 1))) = rows (chgs true a (R.take q)) ++ [.int .i64 n, .string (bs (X.take (ind X))), .string ⟨#[]⟩]) := by
          show _ = _
          rw [hts.out, rows_append, hY.out]
          rfl
        clear hB hown hts hY
        go_wp2_with (first
          | (go_at_call 36; (with_reducible refine (I1.out _).mono ?_); rintro e u ⟨rfl, rfl⟩)
          | (at_builtin; refine wpList_append_own _ rfl _ _ 36 rfl w.heap.size 56 i0 _ 3 40 Tryz.underlying36 hi hz0 hz1 hz2 rfl (by decide) _ _ _ rfl hown5 ⟨wr.heap.size + 1, 0, none⟩ 1 1 [.int .i64 n, .string (bs (X.take (ind X))), .string ⟨#[]⟩] rfl rfl ?c1 ?c2 ?c3 ?c4 ?c5 ?_))
        case c1 =>
          intro j u hj
          rw [add_plain, Nat.zero_add, b7.cell]
          simpa using hj
        case c2 =>
          intro u hu
          simp only [List.mem_cons, List.not_mem_nil, or_false] at hu
          rcases hu with rfl | rfl | rfl <;> rfl
        case c3 => unfold maxLen; omega
        case c4 => omega
        case c5 => exact Nat.le_trans hW.size h5.size
        intro v' w6 hown6 hgrow6 _
        obtain ⟨a6, cap6, rfl⟩ := own_shape hown6
        have hrow6 := hrow5.grown hgrow6 (fun e => hne e.symm)
        have hW6 : Below w.heap.size w w6 := (hW.trans (h5.mono hW.size)).grown hgrow6 (Nat.le_trans hW.size h5.size) (fun j hj => (hown5.lt j hj).1)
        rw [← hts2.out] at hown6
        clear hrow5 hgrow6 hown5 h5 b7
        go_wp2
        go_roundw
        case rel => exact ⟨q + 1, n + (xl + 1), _, _, by go_num, rfl, by go_num, by omega, by omega, hnn, hown6, hrow6, hW6⟩
        case measure => simp [intOf]; omega
      · subst hlf
        by_cases hX0 : X = []
        · have g8 : (bs X).toList.isEmpty = true := by rw [g7, hX0]; rfl
          clear g7 e1 hind
          have hY : Hid (chg false n X = ⟨n, ⟨#[]⟩, ⟨#[]⟩⟩) := by show _ = _; rw [chg, old, new_, if_neg (by decide), if_neg (by decide), if_pos hX0]; rfl
          obtain ⟨h5, hown5, hrow5, b7, hne⟩ := Laid.make (w := w) (⟨n, ⟨#[]⟩, ⟨#[]⟩⟩ : Cg) hown hB
          dsimp only [Cg.vals] at h5 hown5 hrow5 b7
          have hts2 : Hid (rows (chgs false a (R.take (q + 1))) = rows (chgs false a (R.take q)) ++ [.int .i64 n, .string ⟨#[]⟩, .string ⟨#[]⟩]) := by
            show _ = _
            rw [hts.out, rows_append, hY.out]
            rfl
          clear hB hown hts hY hX0
          go_wp2_with (first
            | fail
            | (at_builtin; refine wpList_append_own _ rfl _ _ 36 rfl w.heap.size 56 i0 _ 3 40 Tryz.underlying36 hi hz0 hz1 hz2 rfl (by decide) _ _ _ rfl hown5 ⟨wr.heap.size + 1, 0, none⟩ 1 1 [.int .i64 n, .string ⟨#[]⟩, .string ⟨#[]⟩] rfl rfl ?c1 ?c2 ?c3 ?c4 ?c5 ?_))
          case c1 =>
            intro j u hj
            rw [add_plain, Nat.zero_add, b7.cell]
            simpa using hj
          case c2 =>
            intro u hu
            simp only [List.mem_cons, List.not_mem_nil, or_false] at hu
            rcases hu with rfl | rfl | rfl <;> rfl
          case c3 => unfold maxLen; omega
          case c4 => omega
          case c5 => exact Nat.le_trans hW.size h5.size
          intro v' w6 hown6 hgrow6 _
          obtain ⟨a6, cap6, rfl⟩ := own_shape hown6
          have hrow6 := hrow5.grown hgrow6 (fun e => hne e.symm)
          have hW6 : Below w.heap.size w w6 := (hW.trans (h5.mono hW.size)).grown hgrow6 (Nat.le_trans hW.size h5.size) (fun j hj => (hown5.lt j hj).1)
          rw [← hts2.out] at hown6
          clear hrow5 hgrow6 hown5 h5 b7
          go_wp2
          go_roundw
          case rel => exact ⟨q + 1, n + (xl + 1), _, _, by go_num, rfl, by go_num, by omega, by omega, hnn, hown6, hrow6, hW6⟩
          case measure => simp [intOf]; omega
        · have g8 : (bs X).toList.isEmpty = false := by rw [g7]; cases X with | nil => exact absurd rfl hX0 | cons _ _ => rfl
          clear g7 e1 hind
          have hY : Hid (chg false n X = ⟨n, ⟨#[]⟩, ⟨#[9]⟩⟩) := by show _ = _; rw [chg, old, new_, if_neg (by decide), if_neg (by decide), if_neg hX0]; rfl
          obtain ⟨h5, hown5, hrow5, b7, hne⟩ := Laid.make (w := w) (⟨n, ⟨#[]⟩, ⟨#[9]⟩⟩ : Cg) hown hB
          dsimp only [Cg.vals] at h5 hown5 hrow5 b7
          have hts2 : Hid (rows (chgs false a (R.take (q + 1))) = rows (chgs false a (R.take q)) ++ [.int .i64 n, .string ⟨#[]⟩, .string ⟨#[9]⟩]) := by
            show _ = _
            rw [hts.out, rows_append, hY.out]
            rfl
          clear hB hown hts hY hX0
          go_wp2_with (first
            | fail
            | (at_builtin; refine wpList_append_own _ rfl _ _ 36 rfl w.heap.size 56 i0 _ 3 40 Tryz.underlying36 hi hz0 hz1 hz2 rfl (by decide) _ _ _ rfl hown5 ⟨wr.heap.size + 1, 0, none⟩ 1 1 [.int .i64 n, .string ⟨#[]⟩, .string ⟨#[9]⟩] rfl rfl ?c1 ?c2 ?c3 ?c4 ?c5 ?_))
          case c1 =>
            intro j u hj
            rw [add_plain, Nat.zero_add, b7.cell]
            simpa using hj
          case c2 =>
            intro u hu
            simp only [List.mem_cons, List.not_mem_nil, or_false] at hu
            rcases hu with rfl | rfl | rfl <;> rfl
          case c3 => unfold maxLen; omega
          case c4 => omega
          case c5 => exact Nat.le_trans hW.size h5.size
          intro v' w6 hown6 hgrow6 _
          obtain ⟨a6, cap6, rfl⟩ := own_shape hown6
          have hrow6 := hrow5.grown hgrow6 (fun e => hne e.symm)
          have hW6 : Below w.heap.size w w6 := (hW.trans (h5.mono hW.size)).grown hgrow6 (Nat.le_trans hW.size h5.size) (fun j hj => (hown5.lt j hj).1)
          rw [← hts2.out] at hown6
          clear hrow5 hgrow6 hown5 h5 b7
          go_wp2
          go_roundw
          case rel => exact ⟨q + 1, n + (xl + 1), _, _, by go_num, rfl, by go_num, by omega, by omega, hnn, hown6, hrow6, hW6⟩
          case measure => simp [intOf]; omega
    · obtain rfl : q = m + 1 := by omega
      have HT : Hid (R.take (m + 1) = R) := by show _ = _; rw [List.take_of_length_le]; have := HM.out; omega
      rw [HT.out] at hown
      have HL : Hid ((chgs lf a R).length = m + 1) := by show _ = _; rw [chgs_length]; have := HM.out; omega
      clear hna hall hglue hCS
      go_wp2
      go_ret
      exact ⟨A', c', by rw [HL.out]; rfl, own_cgs hown HL.out, hW⟩
end
end Go.Proofs.YtfhljddakhigdaaGreatDoor
/-
  Package oper: Shift.
-/
namespace Go.Proofs.YtfhljddakhigdaaGreatDoor
open Go.RowKit
open Opr Gl Btc
set_option maxHeartbeats 1000000 in
set_option maxRecDepth 100000 in
theorem oper_Shift_no (s : ByteArray) (a b : Int) (l lf : Bool) (hs : s.size ≤ 1100) (h : Span.right s.data.toList a b l = false) (w : World) :
    Calls Tryz.prog 5 #[.string s, .agg #[.int .i64 a, .int .i64 b, .bool l], .bool lf] w fun e w' => e = .returned (.tuple #[.string ⟨#[]⟩, .int .i64 0, .int .i64 1]) ∧ Below w.heap.size w w' := by
  have K := RBox.new w a b l
  obtain ⟨q0, q1, q2, f0, f1, f2⟩ := K.cells
  have L0 := fun w => span_Lines s a b l (by omega) w
  rw [lines_not h] at L0
  have L1 := Lib.hid L0
  clear hs h L0
  go_enter Tryz.func5, Tryz.ntmps5
  go_wp2_with (go_at_call 10; (with_reducible refine (L1.out _).mono ?_); rintro e u ⟨rfl, hb⟩; replace K := K.on hb; clear hb q0 q1 q2 f0 f1 f2; obtain ⟨q0, q1, q2, f0, f1, f2⟩ := K.cells)
  go_ret3
  exact ⟨rfl, K.below⟩
set_option maxHeartbeats 2000000 in
set_option maxRecDepth 100000 in
theorem oper_Shift_ok (s : ByteArray) (a b : Int) (l lf : Bool) (hs : s.size ≤ 1100) (hN : (Line.L s.data.toList).length ≤ 501) {j k : Nat} {x y : Nat × Nat} (hln : Span.lines s.data.toList a b l = ((j : Int), (k : Int))) (hjk : j ≤ k) (hx : (Line.L s.data.toList)[j]? = some x) (hy : (Line.L s.data.toList)[k]? = some y) (w : World) :
    Calls Tryz.prog 5 #[.string s, .agg #[.int .i64 a, .int .i64 b, .bool l], .bool lf] w fun e w' => e = .returned (.tuple #[.string (bs (shiftT s.data.toList j k lf)), .int .i64 (Line.first (shiftT s.data.toList j k lf) j), .int .i64 0]) ∧ Below w.heap.size w w' := by
  have K := RBox.new w a b l
  obtain ⟨q0, q1, q2, f0, f1, f2⟩ := K.cells
  have L0 := fun w => span_Lines s a b l (by omega) w
  rw [hln] at L0
  have H1 := Lib.hid (fun w => oper_shifts s hjk hx hy hs lf w)
  obtain ⟨hr, hm, _⟩ := shift_made hjk hx hy lf
  have hxl := (Line.L_each hx).1
  have hxm := (Line.L_each hx).2
  have hL := Line.L_length s.data.toList
  have hpl := L_len (Line.L_valid hx)
  rw [data_len] at hL hxm
  have hwe := chgs_weigh lf x.1 (((Ix.parts s.data.toList).drop j).take (k + 1 - j))
  have hlen := chgs_length lf x.1 (((Ix.parts s.data.toList).drop j).take (k + 1 - j))
  have hRl : (((Ix.parts s.data.toList).drop j).take (k + 1 - j)).length ≤ 501 := by rw [List.length_take, List.length_drop]; omega
  have hin := Btc.right_in hr (Nat.zero_le _) (fun c hc => by
    have := (chgs_in c (List.mem_of_mem_head? (by rw [hc]; rfl))).1
    omega)
  have hml := (Btc.made_length hin).1
  have hat : ∀ c ∈ chgs lf x.1 (((Ix.parts s.data.toList).drop j).take (k + 1 - j)), -1099511627776 ≤ c.at_ ∧ c.at_ ≤ 1099511627776 := fun c hc => by
    have h1 := chgs_in c hc
    have h2 : (fore (((Ix.parts s.data.toList).drop j).take (k + 1 - j))).length ≤ 1101 := by
      have h3 : (fore (((Ix.parts s.data.toList).drop j).take (k + 1 - j))).length ≤ (fore (Ix.parts s.data.toList)).length := by
        have e : Ix.parts s.data.toList = (Ix.parts s.data.toList).take j ++ (((Ix.parts s.data.toList).drop j).take (k + 1 - j) ++ ((Ix.parts s.data.toList).drop j).drop (k + 1 - j)) := by rw [List.take_append_drop, List.take_append_drop]
        have := congrArg (fun r => (fore r).length) e
        simp only [fore_append, List.length_append] at this
        omega
      rw [fore_glue (parts_ne _), glue_parts, data_len] at h3
      omega
    omega
  generalize hks : chgs lf x.1 (((Ix.parts s.data.toList).drop j).take (k + 1 - j)) = ks at *
  have hgw := Btc.grow_weigh ks
  rw [data_len] at hml
  have hTl : (shiftT s.data.toList j k lf).length ≤ 4096 := by rw [← hm]; omega
  have hd : Btc.done s.data.toList ks = (shiftT s.data.toList j k lf, 0) := by rw [done_ok hr (by rw [hm]; omega), hm]
  have G1 : Hid (∀ (u : World) (A : Option Addr) (c : Nat), Cgs u A ks → Calls Tryz.prog 12 #[.slice A ks.length c] u fun e w' => e = .returned (.int .i64 (grow ks)) ∧ Below u.heap.size u w') := fun u A c h => oper_growth h (by omega) (by omega)
  have D1 : Hid (∀ (u : World) (A : Option Addr) (c : Nat), Cgs u A ks → Calls Tryz.prog 13 #[.string s, .slice A ks.length c] u fun e w' => e = .returned (.tuple #[.string (bs (shiftT s.data.toList j k lf)), .int .i64 0]) ∧ Below u.heap.size u w') := fun u A c h => by
    have := batch_Do s (c := c) h (by omega) hat (by omega) (by omega)
    rw [hd] at this
    exact this
  have A4 := Lib.hid (fun w => line_First (bs (shiftT s.data.toList j k lf)) j (by rw [bs_size]; omega) w)
  rw [bs_toList] at A4
  have L1 := Lib.hid L0
  obtain ⟨g, hg⟩ : ∃ g, grow ks = g := ⟨_, rfl⟩
  rw [hg] at G1 hgw
  have g0 : decide ((4096 : Int) < (s.size : Int) + g) = false := decide_eq_false (by omega)
  have g1 : IntKind.i64.wrap ((s.size : Int) + g) = (s.size : Int) + g := by rw [IntKind.wrap_i64]; omega
  have g2 : wrap64 ((s.size : Int) + g) = (s.size : Int) + g := by unfold wrap64; omega
  clear hN hln hjk hx hy hr hm hxl hxm hL hpl hwe hlen hRl hin hml hat hks hgw hTl hd L0 hg hs
  generalize shiftT s.data.toList j k lf = X at *
  generalize Line.first X j = z at *
  go_enter Tryz.func5, Tryz.ntmps5
  go_wp2_with (first
    | (go_at_call 10; (with_reducible refine (L1.out _).mono ?_); rintro e u ⟨rfl, hb⟩; replace K := K.on hb; clear hb q0 q1 q2 f0 f1 f2; obtain ⟨q0, q1, q2, f0, f1, f2⟩ := K.cells)
    | (go_at_call 11; (with_reducible refine (H1.out _).mono ?_); rintro e u ⟨A, c, rfl, hC, hb⟩; replace K := K.on hb; clear hb q0 q1 q2 f0 f1 f2; obtain ⟨q0, q1, q2, f0, f1, f2⟩ := K.cells)
    | (go_at_call 12; (with_reducible refine (G1.out _ _ _ hC).mono ?_); rintro e u ⟨rfl, hb⟩; replace K := K.on hb; replace hC := hC.below hb; clear hb q0 q1 q2 f0 f1 f2; obtain ⟨q0, q1, q2, f0, f1, f2⟩ := K.cells)
    | (go_at_call 13; (with_reducible refine (D1.out _ _ _ hC).mono ?_); rintro e u ⟨rfl, hb⟩; replace K := K.on hb; clear hb q0 q1 q2 f0 f1 f2; obtain ⟨q0, q1, q2, f0, f1, f2⟩ := K.cells)
    | (go_at_call 14; (with_reducible refine (A4.out _).mono ?_); rintro e u ⟨rfl, hb⟩; replace K := K.on hb; clear hb q0 q1 q2 f0 f1 f2; obtain ⟨q0, q1, q2, f0, f1, f2⟩ := K.cells))
  go_ret3
  exact ⟨rfl, K.below⟩
theorem oper_Shift (s : ByteArray) (a b : Int) (l lf : Bool) (hs : s.size ≤ 500) (w : World) :
    Calls Tryz.prog 5 #[.string s, .agg #[.int .i64 a, .int .i64 b, .bool l], .bool lf] w fun e w' => e = .returned (Opr.val (Opr.shift s.data.toList a b l lf)) ∧ Below w.heap.size w w' := by
  rw [Opr.shift]
  cases h : Span.right s.data.toList a b l with
  | false => rw [if_neg (by decide), Opr.val_no]; exact oper_Shift_no s a b l lf (by omega) h w
  | true =>
    obtain ⟨j, k, x, y, hln, hjk, hx, hy⟩ := lines_in h
    rw [if_pos rfl, Opr.val_mk, hln]
    have hL := Line.L_length s.data.toList
    rw [data_len] at hL
    exact oper_Shift_ok s a b l lf (by omega) (by omega) hln hjk hx hy w
end Go.Proofs.YtfhljddakhigdaaGreatDoor
