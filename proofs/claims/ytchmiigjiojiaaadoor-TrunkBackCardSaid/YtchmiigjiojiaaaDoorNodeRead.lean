/-
  How the program reads a node: field by field, each by a function that stands in a struct's field.
-/
import Derived.Test.YtchmiigjiojiaaaDoorFieldRead
import Derived.Test.YtchmiigjiojiaaaDoorTrunk
import Derived.Test.YtchmiigjiojiaaaDoorAllocs
namespace Go.Proofs.YtchmiigjiojiaaaDoor
open Go.RowKit
open Tre Trk
namespace Trk
/-- A node of which nothing is read. -/
def none_ : Nd := ⟨0, 0, 0, 0, 0, ⟨#[]⟩, ⟨#[]⟩⟩
/-- One more field is read. -/
def stepN (k : Nat) (s : Nd × List UInt8 × Int) : Nd × List UInt8 × Int :=
  match k with
  | 0 => ({ s.1 with up := (rdNum s.2.1 s.2.2).1 - 1 }, (rdNum s.2.1 s.2.2).2)
  | 1 => ({ s.1 with next := (rdNum s.2.1 s.2.2).1 - 1 }, (rdNum s.2.1 s.2.2).2)
  | 2 => ({ s.1 with before := (rdNum s.2.1 s.2.2).1 }, (rdNum s.2.1 s.2.2).2)
  | 3 => ({ s.1 with after := (rdNum s.2.1 s.2.2).1 }, (rdNum s.2.1 s.2.2).2)
  | 4 => ({ s.1 with at_ := (rdNum s.2.1 s.2.2).1 }, (rdNum s.2.1 s.2.2).2)
  | 5 => ({ s.1 with old := bs (rdText 4096 s.2.1 s.2.2).1 }, (rdText 4096 s.2.1 s.2.2).2)
  | _ => ({ s.1 with new := bs (rdText 4096 s.2.1 s.2.2).1 }, (rdText 4096 s.2.1 s.2.2).2)
def stN : Nat → List UInt8 → Int → Nd × List UInt8 × Int
  | 0, l, e => (none_, l, e)
  | k + 1, l, e => stepN k (stN k l e)
theorem stN_all (l : List UInt8) (e : Int) : stN 7 l e = rdNode l e := rfl
theorem stN_succ (k : Nat) (l : List UInt8) (e : Int) : stN (k + 1) l e = stepN k (stN k l e) := rfl
end Trk
/-- In the middle of a node: the reader, the node's block, the answer's, the fields; and all else as it was. -/
structure NodeAt (p g nb rb : Nat) (f : FB) (w0 w : World) (s : Nd × List UInt8 × Int) : Prop where
  rd : Rd p s.2.1 s.2.2 w
  node : Blk w nb 40 s.1.vals
  res : Blk w rb 40 none_.vals
  fields : FieldsAt w g f
  base : w0.grownBy w (some p)
  own : w0.heap.size ≤ nb
  ne : rb ≠ nb
  ownr : w0.heap.size ≤ rb
section
variable {p g nb rb : Nat} {f : FB} {w0 w w' : World} {s : Nd × List UInt8 × Int}
theorem NodeAt.alloc (h : NodeAt p g nb rb f w0 w s) (o : Obj) : NodeAt p g nb rb f w0 (w.alloc o) s :=
  { h with rd := h.rd.below (World.grownBy_alloc w o none), node := h.node.alloc o, res := h.res.alloc o, fields := h.fields.grown (World.grownBy_alloc w o none), base := gb_trans h.base (World.grownBy_alloc w o _) }
theorem NodeAt.read (h : NodeAt p g nb rb f w0 w s) {x : Nd} {l : List UInt8} {err : Int} {e : Ending} (k : ReadIs p nb l err x.vals w e w') : NodeAt p g nb rb f w0 w' (x, l, err) := by
  obtain ⟨_, hr, hn, w1, h1, h2⟩ := k
  have hself : ∃ cs, Blk w p 58 cs := by
    obtain ⟨c1, c2, s, hh⟩ := h.rd
    exact ⟨_, hh.self⟩
  obtain ⟨cs, hp⟩ := hself
  have n1 : Blk w1 nb 40 s.1.vals := h.node.grown h1 (fun e => h.node.ne_ hp (by decide) (Option.some.inj e))
  have r1 : Blk w1 rb 40 none_.vals := h.res.grown h1 (fun e => h.res.ne_ hp (by decide) (Option.some.inj e))
  exact { rd := hr, node := hn, res := r1.grown h2 (fun e => h.ne (Option.some.inj e)), fields := (h.fields.other hp h1 (by decide) (by decide) (by decide) (by decide)).other n1 h2 (by decide) (by decide) (by decide) (by decide), base := gb_own (gb_trans h.base h1) h2 (fun i hi => by injection hi with hi; rw [← hi]; exact h.own), own := h.own, ne := h.ne, ownr := h.ownr }
end
/-- A node that is stored, cell by cell. -/
def setNd (w : World) (q : Nat) (x : Nd) : World := ((((((w.setCell ⟨q, 0, none⟩ (.int .i64 x.up)).setCell ⟨q, 1, none⟩ (.int .i64 x.next)).setCell ⟨q, 2, none⟩ (.int .i64 x.before)).setCell ⟨q, 3, none⟩ (.int .i64 x.after)).setCell ⟨q, 4, none⟩ (.int .i64 x.at_)).setCell ⟨q, 5, none⟩ (.string x.old)).setCell ⟨q, 6, none⟩ (.string x.new)
theorem nd_stored {w : World} {q : Nat} {x y : Nd} (h : Blk w q 40 y.vals) : Blk (setNd w q x) q 40 x.vals ∧ w.grownBy (setNd w q x) (some q) := by
  refine ⟨?_, ?_⟩
  · unfold Nd.vals at h ⊢
    have := ((((((h.set_ 0 (.int .i64 x.up)).set_ 1 (.int .i64 x.next)).set_ 2 (.int .i64 x.before)).set_ 3 (.int .i64 x.after)).set_ 4 (.int .i64 x.at_)).set_ 5 (.string x.old)).set_ 6 (.string x.new)
    simp only [List.setIfInBounds_toArray, List.set_cons_zero, List.set_cons_succ] at this
    exact this
  · exact gb_trans (gb_trans (gb_trans (gb_trans (gb_trans (gb_trans (gb_set _ q 0 _) (gb_set _ q 1 _)) (gb_set _ q 2 _)) (gb_set _ q 3 _)) (gb_set _ q 4 _)) (gb_set _ q 5 _)) (gb_set _ q 6 _)
/-- What readNode answers. -/
def NodeIs (p : Nat) (s : Nd × List UInt8 × Int) (w : World) (e : Ending) (w' : World) : Prop := e = .returned (.agg s.1.vals) ∧ Rd p s.2.1 s.2.2 w' ∧ w.grownBy w' (some p)
set_option maxHeartbeats 4000000 in
set_option maxRecDepth 100000 in
theorem read_node {p g : Nat} {f : FB} {l : List UInt8} {err : Int} {w : World} (hr : Rd p l err w) (hf : FieldsAt w g f) :
    Calls Tryd.prog 29 #[.pointer (some ⟨p, 0, none⟩), .slice (some ⟨g, 0, none⟩) 7 7] w (NodeIs p (rdNode l err) w) := by
  have H0 : NodeAt p g (w.heap.size + 1) w.heap.size f w ((w.alloc (.cells none_.vals 40)).alloc (.cells none_.vals 40)) (stN 0 l err) := by
    have b1 := Blk.new (w.alloc (.cells none_.vals 40)) 40 none_.vals
    rw [World.size_alloc] at b1
    exact { rd := (hr.below (World.grownBy_alloc w _ none)).below (World.grownBy_alloc _ _ none), node := b1, res := (Blk.new w 40 none_.vals).alloc _, fields := (hf.grown (World.grownBy_alloc w _ none)).grown (World.grownBy_alloc _ _ none), base := gb_trans (World.grownBy_alloc w _ _) (World.grownBy_alloc _ _ _), own := by omega, ne := by omega, ownr := Nat.le_refl _ }
  clear hr hf
  go_enter Tryd.func29, Tryd.ntmps29
  go_wp2_with fail
  generalize w.heap.size = rb at *
  generalize rb + 1 = nb at *
  go_loopw [10] (fun i wr => ∃ k : Nat, k ≤ 7 ∧ i = .int .i64 k ∧ NodeAt p g nb rb f w wr (stN k l err)) (fun i _ => 7 - (intOf i).toNat)
  case atStart => exact ⟨0, by omega, rfl, H0⟩
  case round =>
    obtain ⟨k, hk, rfl, HN⟩ := hrel
    clear H0
    rcases (by omega : k = 0 ∨ k = 1 ∨ k = 2 ∨ k = 3 ∨ k = 4 ∨ k = 5 ∨ k = 6 ∨ k = 7) with rfl | rfl | rfl | rfl | rfl | rfl | rfl | rfl
    · obtain ⟨s, HS⟩ : ∃ s, Hid (stN 0 l err = s) := ⟨_, rfl⟩
      rw [HS.out] at HN
      have A1 := Lib.hid (HN.alloc (.cells #[.func (.func 51) #[] #[.pointer (some ⟨f.o0, 0, none⟩), .pointer (some ⟨f.m0, 0, none⟩)], .func (.func 52) #[] #[.pointer (some ⟨f.m0, 0, none⟩), .pointer (some ⟨f.o0, 0, none⟩)]] 51))
      have c0 := HN.fields.self.cell 0
      have c1 := HN.fields.self.cell 1
      simp only [FB.cells, List.getElem?_toArray, List.getElem?_cons_zero, List.getElem?_cons_succ, wnum, rnum, wtxt, rtxt] at c0 c1
      have CR := Lib.hid (by
        have A1 := A1.out
        have := number_read_0 A1.rd A1.fields.f0 (show Blk _ nb 40 #[.int .i64 s.1.up, .int .i64 s.1.next, .int .i64 s.1.before, .int .i64 s.1.after, .int .i64 s.1.at_, .string s.1.old, .string s.1.new] from A1.node) (by decide)
        simp only [List.setIfInBounds_toArray, List.set_cons_zero] at this
        exact this)
      have HA := Lib.hid (fun (e : Ending) (w' : World) k => (A1.out.read (x := { s.1 with up := (rdNum s.2.1 s.2.2).1 - 1 }) (l := (rdNum s.2.1 s.2.2).2.1) (err := (rdNum s.2.1 s.2.2).2.2) (e := e) (w' := w') k))
      clear HN hk A1
      go_wp2_with (go_at_call 52; ((with_reducible refine CR.out.mono ?_); rintro e w2 hk2; obtain rfl := hk2.1))
      go_roundw
      case rel => exact ⟨0 + 1, by omega, by go_num, by rw [stN_succ, HS.out]; exact HA.out _ _ hk2⟩
      case measure => simp [intOf]
    · obtain ⟨s, HS⟩ : ∃ s, Hid (stN 1 l err = s) := ⟨_, rfl⟩
      rw [HS.out] at HN
      have A1 := Lib.hid (HN.alloc (.cells #[.func (.func 51) #[] #[.pointer (some ⟨f.o1, 0, none⟩), .pointer (some ⟨f.m1, 0, none⟩)], .func (.func 52) #[] #[.pointer (some ⟨f.m1, 0, none⟩), .pointer (some ⟨f.o1, 0, none⟩)]] 51))
      have c0 := HN.fields.self.cell 2
      have c1 := HN.fields.self.cell 3
      simp only [FB.cells, List.getElem?_toArray, List.getElem?_cons_zero, List.getElem?_cons_succ, wnum, rnum, wtxt, rtxt] at c0 c1
      have CR := Lib.hid (by
        have A1 := A1.out
        have := number_read_1 A1.rd A1.fields.f1 (show Blk _ nb 40 #[.int .i64 s.1.up, .int .i64 s.1.next, .int .i64 s.1.before, .int .i64 s.1.after, .int .i64 s.1.at_, .string s.1.old, .string s.1.new] from A1.node) (by decide)
        simp only [List.setIfInBounds_toArray, List.set_cons_zero, List.set_cons_succ] at this
        exact this)
      have HA := Lib.hid (fun (e : Ending) (w' : World) k => (A1.out.read (x := { s.1 with next := (rdNum s.2.1 s.2.2).1 - 1 }) (l := (rdNum s.2.1 s.2.2).2.1) (err := (rdNum s.2.1 s.2.2).2.2) (e := e) (w' := w') k))
      clear HN hk A1
      go_wp2_with (go_at_call 52; ((with_reducible refine CR.out.mono ?_); rintro e w2 hk2; obtain rfl := hk2.1))
      go_roundw
      case rel => exact ⟨1 + 1, by omega, by go_num, by rw [stN_succ, HS.out]; exact HA.out _ _ hk2⟩
      case measure => simp [intOf]
    · obtain ⟨s, HS⟩ : ∃ s, Hid (stN 2 l err = s) := ⟨_, rfl⟩
      rw [HS.out] at HN
      have A1 := Lib.hid (HN.alloc (.cells #[.func (.func 51) #[] #[.pointer (some ⟨f.o2, 0, none⟩), .pointer (some ⟨f.m2, 0, none⟩)], .func (.func 52) #[] #[.pointer (some ⟨f.m2, 0, none⟩), .pointer (some ⟨f.o2, 0, none⟩)]] 51))
      have c0 := HN.fields.self.cell 4
      have c1 := HN.fields.self.cell 5
      simp only [FB.cells, List.getElem?_toArray, List.getElem?_cons_zero, List.getElem?_cons_succ, wnum, rnum, wtxt, rtxt] at c0 c1
      have CR := Lib.hid (by
        have A1 := A1.out
        have := number_read_2 A1.rd A1.fields.f2 (show Blk _ nb 40 #[.int .i64 s.1.up, .int .i64 s.1.next, .int .i64 s.1.before, .int .i64 s.1.after, .int .i64 s.1.at_, .string s.1.old, .string s.1.new] from A1.node) (by decide)
        simp only [List.setIfInBounds_toArray, List.set_cons_zero, List.set_cons_succ, Int.sub_zero] at this
        exact this)
      have HA := Lib.hid (fun (e : Ending) (w' : World) k => (A1.out.read (x := { s.1 with before := (rdNum s.2.1 s.2.2).1 }) (l := (rdNum s.2.1 s.2.2).2.1) (err := (rdNum s.2.1 s.2.2).2.2) (e := e) (w' := w') k))
      clear HN hk A1
      go_wp2_with (go_at_call 52; ((with_reducible refine CR.out.mono ?_); rintro e w2 hk2; obtain rfl := hk2.1))
      go_roundw
      case rel => exact ⟨2 + 1, by omega, by go_num, by rw [stN_succ, HS.out]; exact HA.out _ _ hk2⟩
      case measure => simp [intOf]
    · obtain ⟨s, HS⟩ : ∃ s, Hid (stN 3 l err = s) := ⟨_, rfl⟩
      rw [HS.out] at HN
      have A1 := Lib.hid (HN.alloc (.cells #[.func (.func 51) #[] #[.pointer (some ⟨f.o3, 0, none⟩), .pointer (some ⟨f.m3, 0, none⟩)], .func (.func 52) #[] #[.pointer (some ⟨f.m3, 0, none⟩), .pointer (some ⟨f.o3, 0, none⟩)]] 51))
      have c0 := HN.fields.self.cell 6
      have c1 := HN.fields.self.cell 7
      simp only [FB.cells, List.getElem?_toArray, List.getElem?_cons_zero, List.getElem?_cons_succ, wnum, rnum, wtxt, rtxt] at c0 c1
      have CR := Lib.hid (by
        have A1 := A1.out
        have := number_read_3 A1.rd A1.fields.f3 (show Blk _ nb 40 #[.int .i64 s.1.up, .int .i64 s.1.next, .int .i64 s.1.before, .int .i64 s.1.after, .int .i64 s.1.at_, .string s.1.old, .string s.1.new] from A1.node) (by decide)
        simp only [List.setIfInBounds_toArray, List.set_cons_zero, List.set_cons_succ, Int.sub_zero] at this
        exact this)
      have HA := Lib.hid (fun (e : Ending) (w' : World) k => (A1.out.read (x := { s.1 with after := (rdNum s.2.1 s.2.2).1 }) (l := (rdNum s.2.1 s.2.2).2.1) (err := (rdNum s.2.1 s.2.2).2.2) (e := e) (w' := w') k))
      clear HN hk A1
      go_wp2_with (go_at_call 52; ((with_reducible refine CR.out.mono ?_); rintro e w2 hk2; obtain rfl := hk2.1))
      go_roundw
      case rel => exact ⟨3 + 1, by omega, by go_num, by rw [stN_succ, HS.out]; exact HA.out _ _ hk2⟩
      case measure => simp [intOf]
    · obtain ⟨s, HS⟩ : ∃ s, Hid (stN 4 l err = s) := ⟨_, rfl⟩
      rw [HS.out] at HN
      have A1 := Lib.hid (HN.alloc (.cells #[.func (.func 51) #[] #[.pointer (some ⟨f.o4, 0, none⟩), .pointer (some ⟨f.m4, 0, none⟩)], .func (.func 52) #[] #[.pointer (some ⟨f.m4, 0, none⟩), .pointer (some ⟨f.o4, 0, none⟩)]] 51))
      have c0 := HN.fields.self.cell 8
      have c1 := HN.fields.self.cell 9
      simp only [FB.cells, List.getElem?_toArray, List.getElem?_cons_zero, List.getElem?_cons_succ, wnum, rnum, wtxt, rtxt] at c0 c1
      have CR := Lib.hid (by
        have A1 := A1.out
        have := number_read_4 A1.rd A1.fields.f4 (show Blk _ nb 40 #[.int .i64 s.1.up, .int .i64 s.1.next, .int .i64 s.1.before, .int .i64 s.1.after, .int .i64 s.1.at_, .string s.1.old, .string s.1.new] from A1.node) (by decide)
        simp only [List.setIfInBounds_toArray, List.set_cons_zero, List.set_cons_succ, Int.sub_zero] at this
        exact this)
      have HA := Lib.hid (fun (e : Ending) (w' : World) k => (A1.out.read (x := { s.1 with at_ := (rdNum s.2.1 s.2.2).1 }) (l := (rdNum s.2.1 s.2.2).2.1) (err := (rdNum s.2.1 s.2.2).2.2) (e := e) (w' := w') k))
      clear HN hk A1
      go_wp2_with (go_at_call 52; ((with_reducible refine CR.out.mono ?_); rintro e w2 hk2; obtain rfl := hk2.1))
      go_roundw
      case rel => exact ⟨4 + 1, by omega, by go_num, by rw [stN_succ, HS.out]; exact HA.out _ _ hk2⟩
      case measure => simp [intOf]
    · obtain ⟨s, HS⟩ : ∃ s, Hid (stN 5 l err = s) := ⟨_, rfl⟩
      rw [HS.out] at HN
      have A1 := Lib.hid (HN.alloc (.cells #[.func (.func 53) #[] #[.pointer (some ⟨f.o5, 0, none⟩)], .func (.func 55) #[] #[.pointer (some ⟨f.o5, 0, none⟩)]] 51))
      have c0 := HN.fields.self.cell 10
      have c1 := HN.fields.self.cell 11
      simp only [FB.cells, List.getElem?_toArray, List.getElem?_cons_zero, List.getElem?_cons_succ, wnum, rnum, wtxt, rtxt] at c0 c1
      have CR := Lib.hid (by
        have A1 := A1.out
        have := text_read_5 A1.rd A1.fields.f5 (show Blk _ nb 40 #[.int .i64 s.1.up, .int .i64 s.1.next, .int .i64 s.1.before, .int .i64 s.1.after, .int .i64 s.1.at_, .string s.1.old, .string s.1.new] from A1.node)
        simp only [List.setIfInBounds_toArray, List.set_cons_zero, List.set_cons_succ] at this
        exact this)
      have HA := Lib.hid (fun (e : Ending) (w' : World) k => (A1.out.read (x := { s.1 with old := bs (rdText 4096 s.2.1 s.2.2).1 }) (l := (rdText 4096 s.2.1 s.2.2).2.1) (err := (rdText 4096 s.2.1 s.2.2).2.2) (e := e) (w' := w') k))
      clear HN hk A1
      go_wp2_with (go_at_call 55; ((with_reducible refine CR.out.mono ?_); rintro e w2 hk2; obtain rfl := hk2.1))
      go_roundw
      case rel => exact ⟨5 + 1, by omega, by go_num, by rw [stN_succ, HS.out]; exact HA.out _ _ hk2⟩
      case measure => simp [intOf]
    · obtain ⟨s, HS⟩ : ∃ s, Hid (stN 6 l err = s) := ⟨_, rfl⟩
      rw [HS.out] at HN
      have A1 := Lib.hid (HN.alloc (.cells #[.func (.func 53) #[] #[.pointer (some ⟨f.o6, 0, none⟩)], .func (.func 55) #[] #[.pointer (some ⟨f.o6, 0, none⟩)]] 51))
      have c0 := HN.fields.self.cell 12
      have c1 := HN.fields.self.cell 13
      simp only [FB.cells, List.getElem?_toArray, List.getElem?_cons_zero, List.getElem?_cons_succ, wnum, rnum, wtxt, rtxt] at c0 c1
      have CR := Lib.hid (by
        have A1 := A1.out
        have := text_read_6 A1.rd A1.fields.f6 (show Blk _ nb 40 #[.int .i64 s.1.up, .int .i64 s.1.next, .int .i64 s.1.before, .int .i64 s.1.after, .int .i64 s.1.at_, .string s.1.old, .string s.1.new] from A1.node)
        simp only [List.setIfInBounds_toArray, List.set_cons_zero, List.set_cons_succ] at this
        exact this)
      have HA := Lib.hid (fun (e : Ending) (w' : World) k => (A1.out.read (x := { s.1 with new := bs (rdText 4096 s.2.1 s.2.2).1 }) (l := (rdText 4096 s.2.1 s.2.2).2.1) (err := (rdText 4096 s.2.1 s.2.2).2.2) (e := e) (w' := w') k))
      clear HN hk A1
      go_wp2_with (go_at_call 55; ((with_reducible refine CR.out.mono ?_); rintro e w2 hk2; obtain rfl := hk2.1))
      go_roundw
      case rel => exact ⟨6 + 1, by omega, by go_num, by rw [stN_succ, HS.out]; exact HA.out _ _ hk2⟩
      case measure => simp [intOf]
    · rw [stN_all] at HN
      obtain ⟨s, HS⟩ : ∃ s, Hid (rdNode l err = s) := ⟨_, rfl⟩
      rw [HS.out] at HN ⊢
      have n0 := HN.node.cell 0
      have n1 := HN.node.cell 1
      have n2 := HN.node.cell 2
      have n3 := HN.node.cell 3
      have n4 := HN.node.cell 4
      have n5 := HN.node.cell 5
      have n6 := HN.node.cell 6
      simp only [Nd.vals, List.getElem?_toArray, List.getElem?_cons_zero, List.getElem?_cons_succ] at n0 n1 n2 n3 n4 n5 n6
      have r0 := HN.res.cell 0
      have r1 := HN.res.cell 1
      have r2 := HN.res.cell 2
      have r3 := HN.res.cell 3
      have r4 := HN.res.cell 4
      have r5 := HN.res.cell 5
      have r6 := HN.res.cell 6
      simp only [Nd.vals, none_, List.getElem?_toArray, List.getElem?_cons_zero, List.getElem?_cons_succ] at r0 r1 r2 r3 r4 r5 r6
      have z0 := HN.res.frozen 0
      have z1 := HN.res.frozen 1
      have z2 := HN.res.frozen 2
      have z3 := HN.res.frozen 3
      have z4 := HN.res.frozen 4
      have z5 := HN.res.frozen 5
      have z6 := HN.res.frozen 6
      have HH := Lib.hid HN
      clear HN
      go_wp2
      obtain ⟨k1, k2⟩ := nd_stored (x := s.1) HH.out.res
      exact bodyPost_ret (v := .agg s.1.vals) (results_cell_row rfl _ _ rb 40 s.1.vals (0, 0) _ rfl k1 Tryd.underlying40 rfl rfl) rfl ⟨by rw [HS.out], by rw [HS.out]; exact HH.out.rd.other HH.out.res (by decide) (by decide) (by decide) k2, gb_own HH.out.base k2 (fun i hi => by injection hi with hi; rw [← hi]; exact HH.out.ownr)⟩
end Go.Proofs.YtchmiigjiojiaaaDoor
