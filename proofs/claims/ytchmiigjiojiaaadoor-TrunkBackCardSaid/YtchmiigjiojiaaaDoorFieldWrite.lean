/-
  How the program writes one field of a node.
-/
import Derived.Test.YtchmiigjiojiaaaDoorFields
import Derived.Test.YtchmiigjiojiaaaDoorTrunk
import Derived.Deep.RegionHeld3
namespace Go.Proofs.YtchmiigjiojiaaaDoor
open Go.RowKit
open Tre Trk
set_option maxHeartbeats 400000 in
/-- A text's bytes; none of one that is too long. -/
theorem code_text_any (s : ByteArray) (w : World) :
    Calls Tryd.prog 54 #[.string s] w fun e w' => e = .returned (.string (bs (textB s))) ∧ Below w.heap.size w w' := by
  by_cases hs : s.size ≤ 2147483647
  · rw [textB_ok hs]
    exact code_text s w hs
  · have H : Hid (textB s = []) := by show _ = _; unfold textB; rw [if_neg hs]
    have g1 : (bs (numB (s.size : Int))).toList.isEmpty = true := numB_not (by omega)
    go_enter Tryd.func54, Tryd.ntmps54
    go_wp2_with (go_at_call 19; refine (code_num _ _).mono ?_; rintro e w1 ⟨rfl, hb⟩)
    go_ret
    exact ⟨by rw [H.out]; rfl, hb⟩
set_option maxHeartbeats 1000000 in
set_option maxRecDepth 100000 in
theorem number_write_0 {m o : Nat} {more : Int} {x : Nd} {w : World} (hf : NumF w m o 37 more) (hw : IntKind.i64.wrap (x.up + more) = x.up + more) :
    Calls Tryd.prog 51 #[.agg #[.int .i64 x.up, .int .i64 x.next, .int .i64 x.before, .int .i64 x.after, .int .i64 x.at_, .string x.old, .string x.new], .pointer (some ⟨o, 0, none⟩), .pointer (some ⟨m, 0, none⟩)] w fun e w' => e = .returned (.string (bs (numB (x.up + more)))) ∧ Below w.heap.size w w' := by
  have W1 := (Below.refl w.heap.size w).alloc (Nat.le_refl _) (.cells #[.int .i64 x.up, .int .i64 x.next, .int .i64 x.before, .int .i64 x.after, .int .i64 x.at_, .string x.old, .string x.new] 40)
  have f1 := numF_below hf W1
  have x0 := f1.1.cell 0
  have x1 := f1.2.cell 0
  have B := Blk.new w 40 #[.int .i64 x.up, .int .i64 x.next, .int .i64 x.before, .int .i64 x.after, .int .i64 x.at_, .string x.old, .string x.new]
  have x2 := B.cell 0
  simp only [List.getElem?_toArray, List.getElem?_cons_zero, fn] at x0 x1 x2
  have hD : Below w.heap.size w (w.alloc (.cells #[.int .i64 x.up, .int .i64 x.next, .int .i64 x.before, .int .i64 x.after, .int .i64 x.at_, .string x.old, .string x.new] 40)).drew := W1.drew
  have hlt1 := f1.1.lt
  have hlt2 := f1.2.lt
  have hlt3 : w.heap.size < (w.alloc (.cells #[.int .i64 x.up, .int .i64 x.next, .int .i64 x.before, .int .i64 x.after, .int .i64 x.at_, .string x.old, .string x.new] 40)).heap.size := B.lt
  clear hf f1 B
  go_enter Tryd.func51, Tryd.ntmps51
  go_wp2_with fail
  generalize w.alloc (.cells #[.int .i64 x.up, .int .i64 x.next, .int .i64 x.before, .int .i64 x.after, .int .i64 x.at_, .string x.old, .string x.new] 40) = u at *
  generalize hnb : w.heap.size = nb at *
  have HNB := Lib.hid hnb
  clear hnb
  go_region_held3 (fun v => v.cell? ⟨m, 0, none⟩ = some (.int .i64 more) ∧ v.cell? ⟨o, 0, none⟩ = some (.func (.func 37) #[] #[]) ∧ v.cell? ⟨nb, 0, none⟩ = some (.int .i64 x.up))
    (first | exact ⟨by assumption, by assumption, by assumption⟩ | go_keep)
    (first
      | (go_at_call 37; (with_reducible refine (get_0 _ _).mono ?_); rintro e v ⟨rfl, rfl⟩)
      | (go_at_call 19; ((with_reducible refine (code_num _ _).mono ?_); rintro e v ⟨rfl, hb1⟩; have y0 := (hb1.cell (p := ⟨m, 0, none⟩) hlt1).trans x0; have y1 := (hb1.cell (p := ⟨o, 0, none⟩) hlt2).trans x1; have y2 := (hb1.cell (p := ⟨nb, 0, none⟩) hlt3).trans x2)))
  all_goals
    go_wp2
    go_ret
    have e := HNB.out
    subst e
    exact ⟨rfl, hD.trans (hb1.mono (Nat.le_of_lt hlt3))⟩
set_option maxHeartbeats 1000000 in
set_option maxRecDepth 100000 in
theorem number_write_1 {m o : Nat} {more : Int} {x : Nd} {w : World} (hf : NumF w m o 38 more) (hw : IntKind.i64.wrap (x.next + more) = x.next + more) :
    Calls Tryd.prog 51 #[.agg #[.int .i64 x.up, .int .i64 x.next, .int .i64 x.before, .int .i64 x.after, .int .i64 x.at_, .string x.old, .string x.new], .pointer (some ⟨o, 0, none⟩), .pointer (some ⟨m, 0, none⟩)] w fun e w' => e = .returned (.string (bs (numB (x.next + more)))) ∧ Below w.heap.size w w' := by
  have W1 := (Below.refl w.heap.size w).alloc (Nat.le_refl _) (.cells #[.int .i64 x.up, .int .i64 x.next, .int .i64 x.before, .int .i64 x.after, .int .i64 x.at_, .string x.old, .string x.new] 40)
  have f1 := numF_below hf W1
  have x0 := f1.1.cell 0
  have x1 := f1.2.cell 0
  have B := Blk.new w 40 #[.int .i64 x.up, .int .i64 x.next, .int .i64 x.before, .int .i64 x.after, .int .i64 x.at_, .string x.old, .string x.new]
  have x2 := B.cell 1
  simp only [List.getElem?_toArray, List.getElem?_cons_zero, List.getElem?_cons_succ, fn] at x0 x1 x2
  have hD : Below w.heap.size w (w.alloc (.cells #[.int .i64 x.up, .int .i64 x.next, .int .i64 x.before, .int .i64 x.after, .int .i64 x.at_, .string x.old, .string x.new] 40)).drew := W1.drew
  have hlt1 := f1.1.lt
  have hlt2 := f1.2.lt
  have hlt3 : w.heap.size < (w.alloc (.cells #[.int .i64 x.up, .int .i64 x.next, .int .i64 x.before, .int .i64 x.after, .int .i64 x.at_, .string x.old, .string x.new] 40)).heap.size := B.lt
  clear hf f1 B
  go_enter Tryd.func51, Tryd.ntmps51
  go_wp2_with fail
  generalize w.alloc (.cells #[.int .i64 x.up, .int .i64 x.next, .int .i64 x.before, .int .i64 x.after, .int .i64 x.at_, .string x.old, .string x.new] 40) = u at *
  generalize hnb : w.heap.size = nb at *
  have HNB := Lib.hid hnb
  clear hnb
  go_region_held3 (fun v => v.cell? ⟨m, 0, none⟩ = some (.int .i64 more) ∧ v.cell? ⟨o, 0, none⟩ = some (.func (.func 38) #[] #[]) ∧ v.cell? ⟨nb, 1, none⟩ = some (.int .i64 x.next))
    (first | exact ⟨by assumption, by assumption, by assumption⟩ | go_keep)
    (first
      | (go_at_call 38; (with_reducible refine (get_1 _ _).mono ?_); rintro e v ⟨rfl, rfl⟩)
      | (go_at_call 19; ((with_reducible refine (code_num _ _).mono ?_); rintro e v ⟨rfl, hb1⟩; have y0 := (hb1.cell (p := ⟨m, 0, none⟩) hlt1).trans x0; have y1 := (hb1.cell (p := ⟨o, 0, none⟩) hlt2).trans x1; have y2 := (hb1.cell (p := ⟨nb, 1, none⟩) hlt3).trans x2)))
  all_goals
    go_wp2
    go_ret
    have e := HNB.out
    subst e
    exact ⟨rfl, hD.trans (hb1.mono (Nat.le_of_lt hlt3))⟩
set_option maxHeartbeats 1000000 in
set_option maxRecDepth 100000 in
theorem number_write_2 {m o : Nat} {more : Int} {x : Nd} {w : World} (hf : NumF w m o 39 more) (hw : IntKind.i64.wrap (x.before + more) = x.before + more) :
    Calls Tryd.prog 51 #[.agg #[.int .i64 x.up, .int .i64 x.next, .int .i64 x.before, .int .i64 x.after, .int .i64 x.at_, .string x.old, .string x.new], .pointer (some ⟨o, 0, none⟩), .pointer (some ⟨m, 0, none⟩)] w fun e w' => e = .returned (.string (bs (numB (x.before + more)))) ∧ Below w.heap.size w w' := by
  have W1 := (Below.refl w.heap.size w).alloc (Nat.le_refl _) (.cells #[.int .i64 x.up, .int .i64 x.next, .int .i64 x.before, .int .i64 x.after, .int .i64 x.at_, .string x.old, .string x.new] 40)
  have f1 := numF_below hf W1
  have x0 := f1.1.cell 0
  have x1 := f1.2.cell 0
  have B := Blk.new w 40 #[.int .i64 x.up, .int .i64 x.next, .int .i64 x.before, .int .i64 x.after, .int .i64 x.at_, .string x.old, .string x.new]
  have x2 := B.cell 2
  simp only [List.getElem?_toArray, List.getElem?_cons_zero, List.getElem?_cons_succ, fn] at x0 x1 x2
  have hD : Below w.heap.size w (w.alloc (.cells #[.int .i64 x.up, .int .i64 x.next, .int .i64 x.before, .int .i64 x.after, .int .i64 x.at_, .string x.old, .string x.new] 40)).drew := W1.drew
  have hlt1 := f1.1.lt
  have hlt2 := f1.2.lt
  have hlt3 : w.heap.size < (w.alloc (.cells #[.int .i64 x.up, .int .i64 x.next, .int .i64 x.before, .int .i64 x.after, .int .i64 x.at_, .string x.old, .string x.new] 40)).heap.size := B.lt
  clear hf f1 B
  go_enter Tryd.func51, Tryd.ntmps51
  go_wp2_with fail
  generalize w.alloc (.cells #[.int .i64 x.up, .int .i64 x.next, .int .i64 x.before, .int .i64 x.after, .int .i64 x.at_, .string x.old, .string x.new] 40) = u at *
  generalize hnb : w.heap.size = nb at *
  have HNB := Lib.hid hnb
  clear hnb
  go_region_held3 (fun v => v.cell? ⟨m, 0, none⟩ = some (.int .i64 more) ∧ v.cell? ⟨o, 0, none⟩ = some (.func (.func 39) #[] #[]) ∧ v.cell? ⟨nb, 2, none⟩ = some (.int .i64 x.before))
    (first | exact ⟨by assumption, by assumption, by assumption⟩ | go_keep)
    (first
      | (go_at_call 39; (with_reducible refine (get_2 _ _).mono ?_); rintro e v ⟨rfl, rfl⟩)
      | (go_at_call 19; ((with_reducible refine (code_num _ _).mono ?_); rintro e v ⟨rfl, hb1⟩; have y0 := (hb1.cell (p := ⟨m, 0, none⟩) hlt1).trans x0; have y1 := (hb1.cell (p := ⟨o, 0, none⟩) hlt2).trans x1; have y2 := (hb1.cell (p := ⟨nb, 2, none⟩) hlt3).trans x2)))
  all_goals
    go_wp2
    go_ret
    have e := HNB.out
    subst e
    exact ⟨rfl, hD.trans (hb1.mono (Nat.le_of_lt hlt3))⟩
set_option maxHeartbeats 1000000 in
set_option maxRecDepth 100000 in
theorem number_write_3 {m o : Nat} {more : Int} {x : Nd} {w : World} (hf : NumF w m o 40 more) (hw : IntKind.i64.wrap (x.after + more) = x.after + more) :
    Calls Tryd.prog 51 #[.agg #[.int .i64 x.up, .int .i64 x.next, .int .i64 x.before, .int .i64 x.after, .int .i64 x.at_, .string x.old, .string x.new], .pointer (some ⟨o, 0, none⟩), .pointer (some ⟨m, 0, none⟩)] w fun e w' => e = .returned (.string (bs (numB (x.after + more)))) ∧ Below w.heap.size w w' := by
  have W1 := (Below.refl w.heap.size w).alloc (Nat.le_refl _) (.cells #[.int .i64 x.up, .int .i64 x.next, .int .i64 x.before, .int .i64 x.after, .int .i64 x.at_, .string x.old, .string x.new] 40)
  have f1 := numF_below hf W1
  have x0 := f1.1.cell 0
  have x1 := f1.2.cell 0
  have B := Blk.new w 40 #[.int .i64 x.up, .int .i64 x.next, .int .i64 x.before, .int .i64 x.after, .int .i64 x.at_, .string x.old, .string x.new]
  have x2 := B.cell 3
  simp only [List.getElem?_toArray, List.getElem?_cons_zero, List.getElem?_cons_succ, fn] at x0 x1 x2
  have hD : Below w.heap.size w (w.alloc (.cells #[.int .i64 x.up, .int .i64 x.next, .int .i64 x.before, .int .i64 x.after, .int .i64 x.at_, .string x.old, .string x.new] 40)).drew := W1.drew
  have hlt1 := f1.1.lt
  have hlt2 := f1.2.lt
  have hlt3 : w.heap.size < (w.alloc (.cells #[.int .i64 x.up, .int .i64 x.next, .int .i64 x.before, .int .i64 x.after, .int .i64 x.at_, .string x.old, .string x.new] 40)).heap.size := B.lt
  clear hf f1 B
  go_enter Tryd.func51, Tryd.ntmps51
  go_wp2_with fail
  generalize w.alloc (.cells #[.int .i64 x.up, .int .i64 x.next, .int .i64 x.before, .int .i64 x.after, .int .i64 x.at_, .string x.old, .string x.new] 40) = u at *
  generalize hnb : w.heap.size = nb at *
  have HNB := Lib.hid hnb
  clear hnb
  go_region_held3 (fun v => v.cell? ⟨m, 0, none⟩ = some (.int .i64 more) ∧ v.cell? ⟨o, 0, none⟩ = some (.func (.func 40) #[] #[]) ∧ v.cell? ⟨nb, 3, none⟩ = some (.int .i64 x.after))
    (first | exact ⟨by assumption, by assumption, by assumption⟩ | go_keep)
    (first
      | (go_at_call 40; (with_reducible refine (get_3 _ _).mono ?_); rintro e v ⟨rfl, rfl⟩)
      | (go_at_call 19; ((with_reducible refine (code_num _ _).mono ?_); rintro e v ⟨rfl, hb1⟩; have y0 := (hb1.cell (p := ⟨m, 0, none⟩) hlt1).trans x0; have y1 := (hb1.cell (p := ⟨o, 0, none⟩) hlt2).trans x1; have y2 := (hb1.cell (p := ⟨nb, 3, none⟩) hlt3).trans x2)))
  all_goals
    go_wp2
    go_ret
    have e := HNB.out
    subst e
    exact ⟨rfl, hD.trans (hb1.mono (Nat.le_of_lt hlt3))⟩
set_option maxHeartbeats 1000000 in
set_option maxRecDepth 100000 in
theorem number_write_4 {m o : Nat} {more : Int} {x : Nd} {w : World} (hf : NumF w m o 41 more) (hw : IntKind.i64.wrap (x.at_ + more) = x.at_ + more) :
    Calls Tryd.prog 51 #[.agg #[.int .i64 x.up, .int .i64 x.next, .int .i64 x.before, .int .i64 x.after, .int .i64 x.at_, .string x.old, .string x.new], .pointer (some ⟨o, 0, none⟩), .pointer (some ⟨m, 0, none⟩)] w fun e w' => e = .returned (.string (bs (numB (x.at_ + more)))) ∧ Below w.heap.size w w' := by
  have W1 := (Below.refl w.heap.size w).alloc (Nat.le_refl _) (.cells #[.int .i64 x.up, .int .i64 x.next, .int .i64 x.before, .int .i64 x.after, .int .i64 x.at_, .string x.old, .string x.new] 40)
  have f1 := numF_below hf W1
  have x0 := f1.1.cell 0
  have x1 := f1.2.cell 0
  have B := Blk.new w 40 #[.int .i64 x.up, .int .i64 x.next, .int .i64 x.before, .int .i64 x.after, .int .i64 x.at_, .string x.old, .string x.new]
  have x2 := B.cell 4
  simp only [List.getElem?_toArray, List.getElem?_cons_zero, List.getElem?_cons_succ, fn] at x0 x1 x2
  have hD : Below w.heap.size w (w.alloc (.cells #[.int .i64 x.up, .int .i64 x.next, .int .i64 x.before, .int .i64 x.after, .int .i64 x.at_, .string x.old, .string x.new] 40)).drew := W1.drew
  have hlt1 := f1.1.lt
  have hlt2 := f1.2.lt
  have hlt3 : w.heap.size < (w.alloc (.cells #[.int .i64 x.up, .int .i64 x.next, .int .i64 x.before, .int .i64 x.after, .int .i64 x.at_, .string x.old, .string x.new] 40)).heap.size := B.lt
  clear hf f1 B
  go_enter Tryd.func51, Tryd.ntmps51
  go_wp2_with fail
  generalize w.alloc (.cells #[.int .i64 x.up, .int .i64 x.next, .int .i64 x.before, .int .i64 x.after, .int .i64 x.at_, .string x.old, .string x.new] 40) = u at *
  generalize hnb : w.heap.size = nb at *
  have HNB := Lib.hid hnb
  clear hnb
  go_region_held3 (fun v => v.cell? ⟨m, 0, none⟩ = some (.int .i64 more) ∧ v.cell? ⟨o, 0, none⟩ = some (.func (.func 41) #[] #[]) ∧ v.cell? ⟨nb, 4, none⟩ = some (.int .i64 x.at_))
    (first | exact ⟨by assumption, by assumption, by assumption⟩ | go_keep)
    (first
      | (go_at_call 41; (with_reducible refine (get_4 _ _).mono ?_); rintro e v ⟨rfl, rfl⟩)
      | (go_at_call 19; ((with_reducible refine (code_num _ _).mono ?_); rintro e v ⟨rfl, hb1⟩; have y0 := (hb1.cell (p := ⟨m, 0, none⟩) hlt1).trans x0; have y1 := (hb1.cell (p := ⟨o, 0, none⟩) hlt2).trans x1; have y2 := (hb1.cell (p := ⟨nb, 4, none⟩) hlt3).trans x2)))
  all_goals
    go_wp2
    go_ret
    have e := HNB.out
    subst e
    exact ⟨rfl, hD.trans (hb1.mono (Nat.le_of_lt hlt3))⟩
set_option maxHeartbeats 1000000 in
set_option maxRecDepth 100000 in
theorem text_write_5 {o : Nat} {x : Nd} {w : World} (hf : TxtF w o 43) :
    Calls Tryd.prog 53 #[.agg #[.int .i64 x.up, .int .i64 x.next, .int .i64 x.before, .int .i64 x.after, .int .i64 x.at_, .string x.old, .string x.new], .pointer (some ⟨o, 0, none⟩)] w fun e w' => e = .returned (.string (bs (textB x.old))) ∧ Below w.heap.size w w' := by
  have W1 := (Below.refl w.heap.size w).alloc (Nat.le_refl _) (.cells #[.int .i64 x.up, .int .i64 x.next, .int .i64 x.before, .int .i64 x.after, .int .i64 x.at_, .string x.old, .string x.new] 40)
  have f1 := txtF_below hf W1
  have x1 := Blk.cell f1 0
  have B := Blk.new w 40 #[.int .i64 x.up, .int .i64 x.next, .int .i64 x.before, .int .i64 x.after, .int .i64 x.at_, .string x.old, .string x.new]
  have x2 := B.cell 5
  simp only [List.getElem?_toArray, List.getElem?_cons_zero, List.getElem?_cons_succ, fn] at x1 x2
  clear hf f1 B
  go_enter Tryd.func53, Tryd.ntmps53
  go_wp2_with (first
    | (go_at_call 43; (with_reducible refine (get_5 _ _).mono ?_); rintro e v ⟨rfl, rfl⟩)
    | (go_at_call 54; ((with_reducible refine (code_text_any _ _).mono ?_); rintro e v ⟨rfl, hb1⟩)))
  go_ret
  exact ⟨rfl, W1.trans (hb1.mono W1.size)⟩
set_option maxHeartbeats 1000000 in
set_option maxRecDepth 100000 in
theorem text_write_6 {o : Nat} {x : Nd} {w : World} (hf : TxtF w o 44) :
    Calls Tryd.prog 53 #[.agg #[.int .i64 x.up, .int .i64 x.next, .int .i64 x.before, .int .i64 x.after, .int .i64 x.at_, .string x.old, .string x.new], .pointer (some ⟨o, 0, none⟩)] w fun e w' => e = .returned (.string (bs (textB x.new))) ∧ Below w.heap.size w w' := by
  have W1 := (Below.refl w.heap.size w).alloc (Nat.le_refl _) (.cells #[.int .i64 x.up, .int .i64 x.next, .int .i64 x.before, .int .i64 x.after, .int .i64 x.at_, .string x.old, .string x.new] 40)
  have f1 := txtF_below hf W1
  have x1 := Blk.cell f1 0
  have B := Blk.new w 40 #[.int .i64 x.up, .int .i64 x.next, .int .i64 x.before, .int .i64 x.after, .int .i64 x.at_, .string x.old, .string x.new]
  have x2 := B.cell 6
  simp only [List.getElem?_toArray, List.getElem?_cons_zero, List.getElem?_cons_succ, fn] at x1 x2
  clear hf f1 B
  go_enter Tryd.func53, Tryd.ntmps53
  go_wp2_with (first
    | (go_at_call 44; (with_reducible refine (get_6 _ _).mono ?_); rintro e v ⟨rfl, rfl⟩)
    | (go_at_call 54; ((with_reducible refine (code_text_any _ _).mono ?_); rintro e v ⟨rfl, hb1⟩)))
  go_ret
  exact ⟨rfl, W1.trans (hb1.mono W1.size)⟩
end Go.Proofs.YtchmiigjiojiaaaDoor
