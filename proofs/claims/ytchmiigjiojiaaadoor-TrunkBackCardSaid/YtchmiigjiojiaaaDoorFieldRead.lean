/-
  How the program reads one field of a node.
-/
import Derived.Test.YtchmiigjiojiaaaDoorFields
import Derived.Test.YtchmiigjiojiaaaDoorRdText
import Derived.Deep.RegionHeld3
namespace Go.Proofs.YtchmiigjiojiaaaDoor
open Go.RowKit
theorem num_bounds (l : List UInt8) (err more : Int) (h : 0 ≤ more ∧ more ≤ 1) : IntKind.i64.wrap ((rdNum l err).1 - more) = (rdNum l err).1 - more := by
  have := rdNum_low l err
  exact IntWalk.i64_in _ (by omega)
/-- What is behind a field that is read: the reader, the node with the field, all else as it was. -/
def ReadIs (p nb : Nat) (l : List UInt8) (err : Int) (cs : Array Value) (w : World) (e : Ending) (w' : World) : Prop := e = .returned (.tuple #[]) ∧ Rd p l err w' ∧ Blk w' nb 40 cs ∧ ∃ w1, w.grownBy w1 (some p) ∧ w1.grownBy w' (some nb)
theorem readIs_store {p nb j : Nat} {l l0 : List UInt8} {err e0 : Int} {cs : Array Value} {v : Value} {w w1 : World} (hr : Rd p l err w1) (hn : Blk w nb 40 cs) (h0 : Rd p l0 e0 w) (hg : w.grownBy w1 (some p)) : ReadIs p nb l err (cs.setIfInBounds j v) w (.returned (.tuple #[])) (w1.setCell ⟨nb, j, none⟩ v) := by
  have n1 : Blk w1 nb 40 cs := hn.grown hg (by
    obtain ⟨c1, c2, s, h⟩ := h0
    intro e
    exact hn.ne_ h.self (by decide) (Option.some.inj e))
  exact ⟨rfl, hr.other n1 (by decide) (by decide) (by decide) (gb_set _ nb j v), n1.set_ j v, w1, hg, gb_set _ nb j v⟩
set_option maxHeartbeats 1000000 in
set_option maxRecDepth 100000 in
theorem number_read_0 {p nb m o : Nat} {l : List UInt8} {err more : Int} {c0 c1 c2 c3 c4 c5 c6 : Value} {w : World}
    (hr : Rd p l err w) (hf : NumF w m o 37 more) (hn : Blk w nb 40 #[c0, c1, c2, c3, c4, c5, c6]) (hm : 0 ≤ more ∧ more ≤ 1) :
    Calls Tryd.prog 52 #[.pointer (some ⟨p, 0, none⟩), .pointer (some ⟨nb, 0, none⟩), .pointer (some ⟨m, 0, none⟩), .pointer (some ⟨o, 0, none⟩)] w (ReadIs p nb (rdNum l err).2.1 (rdNum l err).2.2 (#[c0, c1, c2, c3, c4, c5, c6].setIfInBounds 0 (.int .i64 ((rdNum l err).1 - more))) w) := by
  have hR := Lib.hid (fun (u : World) (h : Rd p l err u) => rd_num h)
  have hw := num_bounds l err more hm
  have x0 := hf.1.cell 0
  have x1 := hf.2.cell 0
  simp only [List.getElem?_toArray, List.getElem?_cons_zero, fn] at x0 x1
  have hp := hr.lt
  have hp0 : p < w.drew.heap.size := hp
  have HR := Lib.hid hr
  have NP : Hid (m ≠ p ∧ o ≠ p ∧ nb ≠ p) := by
    obtain ⟨c1, c2, s, h⟩ := hr
    exact ⟨hf.1.ne_ h.self (by decide), hf.2.ne_ h.self (by decide), hn.ne_ h.self (by decide)⟩
  have HN := Lib.hid hn
  have KS : Hid (∀ (u : World) (v : Value), u.cell? ⟨m, 0, none⟩ = some (.int .i64 more) → u.cell? ⟨o, 0, none⟩ = some (.func (.func 37) #[] #[]) → (u.setCell ⟨nb, 0, none⟩ v).cell? ⟨m, 0, none⟩ = some (.int .i64 more) ∧ (u.setCell ⟨nb, 0, none⟩ v).cell? ⟨o, 0, none⟩ = some (.func (.func 37) #[] #[])) := fun u v h h' =>
    ⟨(gb_set u nb 0 v).cell (a := ⟨m, 0, none⟩) h (fun e => hf.1.ne_ hn (by decide) (Option.some.inj e)), (gb_set u nb 0 v).cell (a := ⟨o, 0, none⟩) h' (fun e => hf.2.ne_ hn (by decide) (Option.some.inj e))⟩
  have zf := hn.frozen 0
  generalize (rdNum l err).1 = n at hw hR ⊢
  clear hf hm hr hn
  go_enter Tryd.func52, Tryd.ntmps52
  go_wp2_with fail
  go_region_held3 (fun u => u.cell? ⟨m, 0, none⟩ = some (.int .i64 more) ∧ u.cell? ⟨o, 0, none⟩ = some (.func (.func 37) #[] #[]))
    (first | exact ⟨by assumption, by assumption⟩ | exact KS.out _ _ (by assumption) (by assumption) | go_keep)
    (first
      | (go_at_call 37; (with_reducible refine (get_0 _ _).mono ?_); rintro e u ⟨rfl, rfl⟩)
      | (go_at_call 28; ((with_reducible refine (hR.out _ (HR.out.below (gb_drew _ _))).mono ?_); rintro e u ⟨rfl, hr1, hg1⟩; have y0 := hg1.cell (a := ⟨m, 0, none⟩) (v := .int .i64 more) x0 (fun h => NP.out.1 (Option.some.inj h)); have y1 := hg1.cell (a := ⟨o, 0, none⟩) (v := .func (.func 37) #[] #[]) x1 (fun h => NP.out.2.1 (Option.some.inj h)); have n1 := (HN.out.drew).grown hg1 (fun h => NP.out.2.2 (Option.some.inj h)); have z1 := n1.frozen 0; have k1 := n1.cell 0)))
  go_end0
  exact readIs_store (j := 0) (v := .int .i64 (n - more)) hr1 HN.out HR.out (gb_trans (gb_drew _ _) hg1)
set_option maxHeartbeats 1000000 in
set_option maxRecDepth 100000 in
theorem number_read_1 {p nb m o : Nat} {l : List UInt8} {err more : Int} {c0 c1 c2 c3 c4 c5 c6 : Value} {w : World}
    (hr : Rd p l err w) (hf : NumF w m o 38 more) (hn : Blk w nb 40 #[c0, c1, c2, c3, c4, c5, c6]) (hm : 0 ≤ more ∧ more ≤ 1) :
    Calls Tryd.prog 52 #[.pointer (some ⟨p, 0, none⟩), .pointer (some ⟨nb, 0, none⟩), .pointer (some ⟨m, 0, none⟩), .pointer (some ⟨o, 0, none⟩)] w (ReadIs p nb (rdNum l err).2.1 (rdNum l err).2.2 (#[c0, c1, c2, c3, c4, c5, c6].setIfInBounds 1 (.int .i64 ((rdNum l err).1 - more))) w) := by
  have hR := Lib.hid (fun (u : World) (h : Rd p l err u) => rd_num h)
  have hw := num_bounds l err more hm
  have x0 := hf.1.cell 0
  have x1 := hf.2.cell 0
  simp only [List.getElem?_toArray, List.getElem?_cons_zero, fn] at x0 x1
  have hp := hr.lt
  have hp0 : p < w.drew.heap.size := hp
  have HR := Lib.hid hr
  have NP : Hid (m ≠ p ∧ o ≠ p ∧ nb ≠ p) := by
    obtain ⟨c1, c2, s, h⟩ := hr
    exact ⟨hf.1.ne_ h.self (by decide), hf.2.ne_ h.self (by decide), hn.ne_ h.self (by decide)⟩
  have HN := Lib.hid hn
  have KS : Hid (∀ (u : World) (v : Value), u.cell? ⟨m, 0, none⟩ = some (.int .i64 more) → u.cell? ⟨o, 0, none⟩ = some (.func (.func 38) #[] #[]) → (u.setCell ⟨nb, 1, none⟩ v).cell? ⟨m, 0, none⟩ = some (.int .i64 more) ∧ (u.setCell ⟨nb, 1, none⟩ v).cell? ⟨o, 0, none⟩ = some (.func (.func 38) #[] #[])) := fun u v h h' =>
    ⟨(gb_set u nb 1 v).cell (a := ⟨m, 0, none⟩) h (fun e => hf.1.ne_ hn (by decide) (Option.some.inj e)), (gb_set u nb 1 v).cell (a := ⟨o, 0, none⟩) h' (fun e => hf.2.ne_ hn (by decide) (Option.some.inj e))⟩
  have zf := hn.frozen 1
  generalize (rdNum l err).1 = n at hw hR ⊢
  clear hf hm hr hn
  go_enter Tryd.func52, Tryd.ntmps52
  go_wp2_with fail
  go_region_held3 (fun u => u.cell? ⟨m, 0, none⟩ = some (.int .i64 more) ∧ u.cell? ⟨o, 0, none⟩ = some (.func (.func 38) #[] #[]))
    (first | exact ⟨by assumption, by assumption⟩ | exact KS.out _ _ (by assumption) (by assumption) | go_keep)
    (first
      | (go_at_call 38; (with_reducible refine (get_1 _ _).mono ?_); rintro e u ⟨rfl, rfl⟩)
      | (go_at_call 28; ((with_reducible refine (hR.out _ (HR.out.below (gb_drew _ _))).mono ?_); rintro e u ⟨rfl, hr1, hg1⟩; have y0 := hg1.cell (a := ⟨m, 0, none⟩) (v := .int .i64 more) x0 (fun h => NP.out.1 (Option.some.inj h)); have y1 := hg1.cell (a := ⟨o, 0, none⟩) (v := .func (.func 38) #[] #[]) x1 (fun h => NP.out.2.1 (Option.some.inj h)); have n1 := (HN.out.drew).grown hg1 (fun h => NP.out.2.2 (Option.some.inj h)); have z1 := n1.frozen 1; have k1 := n1.cell 1)))
  go_end0
  exact readIs_store (j := 1) (v := .int .i64 (n - more)) hr1 HN.out HR.out (gb_trans (gb_drew _ _) hg1)
set_option maxHeartbeats 1000000 in
set_option maxRecDepth 100000 in
theorem number_read_2 {p nb m o : Nat} {l : List UInt8} {err more : Int} {c0 c1 c2 c3 c4 c5 c6 : Value} {w : World}
    (hr : Rd p l err w) (hf : NumF w m o 39 more) (hn : Blk w nb 40 #[c0, c1, c2, c3, c4, c5, c6]) (hm : 0 ≤ more ∧ more ≤ 1) :
    Calls Tryd.prog 52 #[.pointer (some ⟨p, 0, none⟩), .pointer (some ⟨nb, 0, none⟩), .pointer (some ⟨m, 0, none⟩), .pointer (some ⟨o, 0, none⟩)] w (ReadIs p nb (rdNum l err).2.1 (rdNum l err).2.2 (#[c0, c1, c2, c3, c4, c5, c6].setIfInBounds 2 (.int .i64 ((rdNum l err).1 - more))) w) := by
  have hR := Lib.hid (fun (u : World) (h : Rd p l err u) => rd_num h)
  have hw := num_bounds l err more hm
  have x0 := hf.1.cell 0
  have x1 := hf.2.cell 0
  simp only [List.getElem?_toArray, List.getElem?_cons_zero, fn] at x0 x1
  have hp := hr.lt
  have hp0 : p < w.drew.heap.size := hp
  have HR := Lib.hid hr
  have NP : Hid (m ≠ p ∧ o ≠ p ∧ nb ≠ p) := by
    obtain ⟨c1, c2, s, h⟩ := hr
    exact ⟨hf.1.ne_ h.self (by decide), hf.2.ne_ h.self (by decide), hn.ne_ h.self (by decide)⟩
  have HN := Lib.hid hn
  have KS : Hid (∀ (u : World) (v : Value), u.cell? ⟨m, 0, none⟩ = some (.int .i64 more) → u.cell? ⟨o, 0, none⟩ = some (.func (.func 39) #[] #[]) → (u.setCell ⟨nb, 2, none⟩ v).cell? ⟨m, 0, none⟩ = some (.int .i64 more) ∧ (u.setCell ⟨nb, 2, none⟩ v).cell? ⟨o, 0, none⟩ = some (.func (.func 39) #[] #[])) := fun u v h h' =>
    ⟨(gb_set u nb 2 v).cell (a := ⟨m, 0, none⟩) h (fun e => hf.1.ne_ hn (by decide) (Option.some.inj e)), (gb_set u nb 2 v).cell (a := ⟨o, 0, none⟩) h' (fun e => hf.2.ne_ hn (by decide) (Option.some.inj e))⟩
  have zf := hn.frozen 2
  generalize (rdNum l err).1 = n at hw hR ⊢
  clear hf hm hr hn
  go_enter Tryd.func52, Tryd.ntmps52
  go_wp2_with fail
  go_region_held3 (fun u => u.cell? ⟨m, 0, none⟩ = some (.int .i64 more) ∧ u.cell? ⟨o, 0, none⟩ = some (.func (.func 39) #[] #[]))
    (first | exact ⟨by assumption, by assumption⟩ | exact KS.out _ _ (by assumption) (by assumption) | go_keep)
    (first
      | (go_at_call 39; (with_reducible refine (get_2 _ _).mono ?_); rintro e u ⟨rfl, rfl⟩)
      | (go_at_call 28; ((with_reducible refine (hR.out _ (HR.out.below (gb_drew _ _))).mono ?_); rintro e u ⟨rfl, hr1, hg1⟩; have y0 := hg1.cell (a := ⟨m, 0, none⟩) (v := .int .i64 more) x0 (fun h => NP.out.1 (Option.some.inj h)); have y1 := hg1.cell (a := ⟨o, 0, none⟩) (v := .func (.func 39) #[] #[]) x1 (fun h => NP.out.2.1 (Option.some.inj h)); have n1 := (HN.out.drew).grown hg1 (fun h => NP.out.2.2 (Option.some.inj h)); have z1 := n1.frozen 2; have k1 := n1.cell 2)))
  go_end0
  exact readIs_store (j := 2) (v := .int .i64 (n - more)) hr1 HN.out HR.out (gb_trans (gb_drew _ _) hg1)
set_option maxHeartbeats 1000000 in
set_option maxRecDepth 100000 in
theorem number_read_3 {p nb m o : Nat} {l : List UInt8} {err more : Int} {c0 c1 c2 c3 c4 c5 c6 : Value} {w : World}
    (hr : Rd p l err w) (hf : NumF w m o 40 more) (hn : Blk w nb 40 #[c0, c1, c2, c3, c4, c5, c6]) (hm : 0 ≤ more ∧ more ≤ 1) :
    Calls Tryd.prog 52 #[.pointer (some ⟨p, 0, none⟩), .pointer (some ⟨nb, 0, none⟩), .pointer (some ⟨m, 0, none⟩), .pointer (some ⟨o, 0, none⟩)] w (ReadIs p nb (rdNum l err).2.1 (rdNum l err).2.2 (#[c0, c1, c2, c3, c4, c5, c6].setIfInBounds 3 (.int .i64 ((rdNum l err).1 - more))) w) := by
  have hR := Lib.hid (fun (u : World) (h : Rd p l err u) => rd_num h)
  have hw := num_bounds l err more hm
  have x0 := hf.1.cell 0
  have x1 := hf.2.cell 0
  simp only [List.getElem?_toArray, List.getElem?_cons_zero, fn] at x0 x1
  have hp := hr.lt
  have hp0 : p < w.drew.heap.size := hp
  have HR := Lib.hid hr
  have NP : Hid (m ≠ p ∧ o ≠ p ∧ nb ≠ p) := by
    obtain ⟨c1, c2, s, h⟩ := hr
    exact ⟨hf.1.ne_ h.self (by decide), hf.2.ne_ h.self (by decide), hn.ne_ h.self (by decide)⟩
  have HN := Lib.hid hn
  have KS : Hid (∀ (u : World) (v : Value), u.cell? ⟨m, 0, none⟩ = some (.int .i64 more) → u.cell? ⟨o, 0, none⟩ = some (.func (.func 40) #[] #[]) → (u.setCell ⟨nb, 3, none⟩ v).cell? ⟨m, 0, none⟩ = some (.int .i64 more) ∧ (u.setCell ⟨nb, 3, none⟩ v).cell? ⟨o, 0, none⟩ = some (.func (.func 40) #[] #[])) := fun u v h h' =>
    ⟨(gb_set u nb 3 v).cell (a := ⟨m, 0, none⟩) h (fun e => hf.1.ne_ hn (by decide) (Option.some.inj e)), (gb_set u nb 3 v).cell (a := ⟨o, 0, none⟩) h' (fun e => hf.2.ne_ hn (by decide) (Option.some.inj e))⟩
  have zf := hn.frozen 3
  generalize (rdNum l err).1 = n at hw hR ⊢
  clear hf hm hr hn
  go_enter Tryd.func52, Tryd.ntmps52
  go_wp2_with fail
  go_region_held3 (fun u => u.cell? ⟨m, 0, none⟩ = some (.int .i64 more) ∧ u.cell? ⟨o, 0, none⟩ = some (.func (.func 40) #[] #[]))
    (first | exact ⟨by assumption, by assumption⟩ | exact KS.out _ _ (by assumption) (by assumption) | go_keep)
    (first
      | (go_at_call 40; (with_reducible refine (get_3 _ _).mono ?_); rintro e u ⟨rfl, rfl⟩)
      | (go_at_call 28; ((with_reducible refine (hR.out _ (HR.out.below (gb_drew _ _))).mono ?_); rintro e u ⟨rfl, hr1, hg1⟩; have y0 := hg1.cell (a := ⟨m, 0, none⟩) (v := .int .i64 more) x0 (fun h => NP.out.1 (Option.some.inj h)); have y1 := hg1.cell (a := ⟨o, 0, none⟩) (v := .func (.func 40) #[] #[]) x1 (fun h => NP.out.2.1 (Option.some.inj h)); have n1 := (HN.out.drew).grown hg1 (fun h => NP.out.2.2 (Option.some.inj h)); have z1 := n1.frozen 3; have k1 := n1.cell 3)))
  go_end0
  exact readIs_store (j := 3) (v := .int .i64 (n - more)) hr1 HN.out HR.out (gb_trans (gb_drew _ _) hg1)
set_option maxHeartbeats 1000000 in
set_option maxRecDepth 100000 in
theorem number_read_4 {p nb m o : Nat} {l : List UInt8} {err more : Int} {c0 c1 c2 c3 c4 c5 c6 : Value} {w : World}
    (hr : Rd p l err w) (hf : NumF w m o 41 more) (hn : Blk w nb 40 #[c0, c1, c2, c3, c4, c5, c6]) (hm : 0 ≤ more ∧ more ≤ 1) :
    Calls Tryd.prog 52 #[.pointer (some ⟨p, 0, none⟩), .pointer (some ⟨nb, 0, none⟩), .pointer (some ⟨m, 0, none⟩), .pointer (some ⟨o, 0, none⟩)] w (ReadIs p nb (rdNum l err).2.1 (rdNum l err).2.2 (#[c0, c1, c2, c3, c4, c5, c6].setIfInBounds 4 (.int .i64 ((rdNum l err).1 - more))) w) := by
  have hR := Lib.hid (fun (u : World) (h : Rd p l err u) => rd_num h)
  have hw := num_bounds l err more hm
  have x0 := hf.1.cell 0
  have x1 := hf.2.cell 0
  simp only [List.getElem?_toArray, List.getElem?_cons_zero, fn] at x0 x1
  have hp := hr.lt
  have hp0 : p < w.drew.heap.size := hp
  have HR := Lib.hid hr
  have NP : Hid (m ≠ p ∧ o ≠ p ∧ nb ≠ p) := by
    obtain ⟨c1, c2, s, h⟩ := hr
    exact ⟨hf.1.ne_ h.self (by decide), hf.2.ne_ h.self (by decide), hn.ne_ h.self (by decide)⟩
  have HN := Lib.hid hn
  have KS : Hid (∀ (u : World) (v : Value), u.cell? ⟨m, 0, none⟩ = some (.int .i64 more) → u.cell? ⟨o, 0, none⟩ = some (.func (.func 41) #[] #[]) → (u.setCell ⟨nb, 4, none⟩ v).cell? ⟨m, 0, none⟩ = some (.int .i64 more) ∧ (u.setCell ⟨nb, 4, none⟩ v).cell? ⟨o, 0, none⟩ = some (.func (.func 41) #[] #[])) := fun u v h h' =>
    ⟨(gb_set u nb 4 v).cell (a := ⟨m, 0, none⟩) h (fun e => hf.1.ne_ hn (by decide) (Option.some.inj e)), (gb_set u nb 4 v).cell (a := ⟨o, 0, none⟩) h' (fun e => hf.2.ne_ hn (by decide) (Option.some.inj e))⟩
  have zf := hn.frozen 4
  generalize (rdNum l err).1 = n at hw hR ⊢
  clear hf hm hr hn
  go_enter Tryd.func52, Tryd.ntmps52
  go_wp2_with fail
  go_region_held3 (fun u => u.cell? ⟨m, 0, none⟩ = some (.int .i64 more) ∧ u.cell? ⟨o, 0, none⟩ = some (.func (.func 41) #[] #[]))
    (first | exact ⟨by assumption, by assumption⟩ | exact KS.out _ _ (by assumption) (by assumption) | go_keep)
    (first
      | (go_at_call 41; (with_reducible refine (get_4 _ _).mono ?_); rintro e u ⟨rfl, rfl⟩)
      | (go_at_call 28; ((with_reducible refine (hR.out _ (HR.out.below (gb_drew _ _))).mono ?_); rintro e u ⟨rfl, hr1, hg1⟩; have y0 := hg1.cell (a := ⟨m, 0, none⟩) (v := .int .i64 more) x0 (fun h => NP.out.1 (Option.some.inj h)); have y1 := hg1.cell (a := ⟨o, 0, none⟩) (v := .func (.func 41) #[] #[]) x1 (fun h => NP.out.2.1 (Option.some.inj h)); have n1 := (HN.out.drew).grown hg1 (fun h => NP.out.2.2 (Option.some.inj h)); have z1 := n1.frozen 4; have k1 := n1.cell 4)))
  go_end0
  exact readIs_store (j := 4) (v := .int .i64 (n - more)) hr1 HN.out HR.out (gb_trans (gb_drew _ _) hg1)
set_option maxHeartbeats 1000000 in
set_option maxRecDepth 100000 in
theorem text_read_5 {p nb o : Nat} {l : List UInt8} {err : Int} {c0 c1 c2 c3 c4 c5 c6 : Value} {w : World}
    (hr : Rd p l err w) (hf : TxtF w o 43) (hn : Blk w nb 40 #[c0, c1, c2, c3, c4, c5, c6]) :
    Calls Tryd.prog 55 #[.pointer (some ⟨p, 0, none⟩), .pointer (some ⟨nb, 0, none⟩), .pointer (some ⟨o, 0, none⟩)] w (ReadIs p nb (rdText 4096 l err).2.1 (rdText 4096 l err).2.2 (#[c0, c1, c2, c3, c4, c5, c6].setIfInBounds 5 (.string (bs (rdText 4096 l err).1))) w) := by
  have hR := Lib.hid (rd_text 4096 hr)
  have x1 := Blk.cell hf 0
  simp only [List.getElem?_toArray, List.getElem?_cons_zero, fn] at x1
  have HR := Lib.hid hr
  have NP : Hid (nb ≠ p) := by
    obtain ⟨c1, c2, s, h⟩ := hr
    exact hn.ne_ h.self (by decide)
  have HN := Lib.hid hn
  generalize bs (rdText 4096 l err).1 = n at hR ⊢
  clear hf hr hn
  go_enter Tryd.func55, Tryd.ntmps55
  go_wp2_with (first
    | (go_at_call 43; (with_reducible refine (get_5 _ _).mono ?_); rintro e u ⟨rfl, rfl⟩)
    | (go_at_call 56; ((with_reducible refine hR.out.mono ?_); rintro e u ⟨rfl, hr1, hg1⟩; have n1 := HN.out.grown hg1 (fun h => NP.out (Option.some.inj h)); have z1 := n1.frozen 5; have k1 := n1.cell 5)))
  go_end0
  exact readIs_store (j := 5) (v := .string n) hr1 HN.out HR.out hg1
set_option maxHeartbeats 1000000 in
set_option maxRecDepth 100000 in
theorem text_read_6 {p nb o : Nat} {l : List UInt8} {err : Int} {c0 c1 c2 c3 c4 c5 c6 : Value} {w : World}
    (hr : Rd p l err w) (hf : TxtF w o 44) (hn : Blk w nb 40 #[c0, c1, c2, c3, c4, c5, c6]) :
    Calls Tryd.prog 55 #[.pointer (some ⟨p, 0, none⟩), .pointer (some ⟨nb, 0, none⟩), .pointer (some ⟨o, 0, none⟩)] w (ReadIs p nb (rdText 4096 l err).2.1 (rdText 4096 l err).2.2 (#[c0, c1, c2, c3, c4, c5, c6].setIfInBounds 6 (.string (bs (rdText 4096 l err).1))) w) := by
  have hR := Lib.hid (rd_text 4096 hr)
  have x1 := Blk.cell hf 0
  simp only [List.getElem?_toArray, List.getElem?_cons_zero, fn] at x1
  have HR := Lib.hid hr
  have NP : Hid (nb ≠ p) := by
    obtain ⟨c1, c2, s, h⟩ := hr
    exact hn.ne_ h.self (by decide)
  have HN := Lib.hid hn
  generalize bs (rdText 4096 l err).1 = n at hR ⊢
  clear hf hr hn
  go_enter Tryd.func55, Tryd.ntmps55
  go_wp2_with (first
    | (go_at_call 44; (with_reducible refine (get_6 _ _).mono ?_); rintro e u ⟨rfl, rfl⟩)
    | (go_at_call 56; ((with_reducible refine hR.out.mono ?_); rintro e u ⟨rfl, hr1, hg1⟩; have n1 := HN.out.grown hg1 (fun h => NP.out (Option.some.inj h)); have z1 := n1.frozen 6; have k1 := n1.cell 6)))
  go_end0
  exact readIs_store (j := 6) (v := .string n) hr1 HN.out HR.out hg1
end Go.Proofs.YtchmiigjiojiaaaDoor
