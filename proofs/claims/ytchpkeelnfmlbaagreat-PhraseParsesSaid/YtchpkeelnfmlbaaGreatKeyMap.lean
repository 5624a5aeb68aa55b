/-
  The map of names: what it holds, and the function that makes it; signs; a map that is written where it is made.
-/
import Derived.Test.YtchpkeelnfmlbaaGreatKey
import Derived.Test.YtchpkeelnfmlbaaGreatKeySign
import Derived.Test.YtchpkeelnfmlbaaGreatStrs
import Derived.Maps.RangeWalk
import Derived.Maps.OwnSet
import Derived.Lib.OthersKept
namespace Go.Proofs.YtchpkeelnfmlbaaGreat
open Go.RowKit
open Go.Maps (Keyed)

/-- How a name lies in the map. -/
def nameElem (v : Value) : Option (DataW Unit × List MemPlace) :=
  match v with
  | .agg a => match a.toList with
    | [.string s] => some (.lit (.string s.data.toList), [])
    | _ => none
  | _ => none
theorem nameElem_mk (s : ByteArray) : nameElem (.agg #[.string s]) = some (.lit (.string s.data.toList), []) := rfl
theorem nameElem_inv {v : Value} {z : DataW Unit × List MemPlace} (h : nameElem v = some z) : ∃ s : ByteArray, v = .agg #[.string s] ∧ z = (.lit (.string s.data.toList), []) := by
  unfold nameElem at h
  split at h
  · rename_i a
    split at h
    · rename_i s hs
      refine ⟨s, ?_, by cases h; rfl⟩
      congr 1
      exact Array.toList_inj.1 hs
    · cases h
  · cases h
theorem keyInt : Keyed Tryz.prog 21 := Maps.int_keyed Tryz.underlying21
theorem keyText : Keyed Tryz.prog 9 := Maps.string_keyed Tryz.underlying9
theorem zeroName (w : World) : (zeroValue 58).run Tryz.prog w = .ok (.agg #[.string (bs [])]) w := by kernel_rfl
theorem wf32 {n : Nat} (h : n ≤ 1114111) : (Lit.int .i32 (n : Int)).wf = true := by
  exact WalkArith.wf_i32 ⟨by omega, by omega⟩
theorem keyRune {n : Nat} (h : n ≤ 1114111) : keyOf Tryz.prog 21 (.int .i32 (n : Int)) = some (.int .i32 (n : Int)) := Maps.keyOf_int_mk Tryz.underlying21 (wf32 h)

/-- What the map holds. -/
def D0 : DataW Unit := .map (Key.tab.map fun p => (.int .i32 (p.1 : Int), .lit (.string p.2)))
theorem D0_has (n : Nat) : Maps.has D0 (.int .i32 (n : Int)) = (Key.nm n).isSome := by
  rw [Bool.eq_iff_iff, Option.isSome_iff_exists]
  simp only [Maps.has, D0, List.any_map, List.any_eq_true, Function.comp, Lit.sameKey, decide_eq_true_eq, true_and, Int.natCast_inj, Prod.exists]
  constructor
  · rintro ⟨a, l, h, rfl⟩; exact ⟨l, Key.nm_tab.2 h⟩
  · rintro ⟨l, h⟩; exact ⟨n, l, Key.nm_tab.1 h, rfl⟩
theorem D0_at (n : Nat) (z : DataW Unit) : D0.atKey (.int .i32 (n : Int)) z = match Key.nm n with | some l => .lit (.string l) | none => z := by
  have e : ∀ m : Nat, decide ((m : Int) = (n : Int)) = decide (n = m) := fun m => by rw [decide_eq_decide]; omega
  simp only [D0, Key.tab, List.map_cons, List.map_nil, DataW.atKey, List.find?_cons, List.find?_nil, Lit.sameKey, true_and, Key.nm, e]
  by_cases h1 : n = 8
  · simp [h1]
  by_cases h2 : n = 9
  · simp [h2]
  by_cases h3 : n = 13
  · simp [h3]
  by_cases h4 : n = 18
  · simp [h4]
  by_cases h5 : n = 21
  · simp [h5]
  by_cases h6 : n = 23
  · simp [h6]
  by_cases h7 : n = 27
  · simp [h7]
  by_cases h8 : n = 60
  · simp [h8]
  simp [h1, h2, h3, h4, h5, h6, h7, h8]
/-- Block b is the map of names. -/
def Tbl (w : World) (b : Nat) : Prop := w.ownsMap Tryz.prog 21 nameElem b 8 D0
theorem Tbl.lt {w : World} {b : Nat} (h : Tbl w b) : b < w.heap.size := World.ownsMap.lt h
theorem Tbl.below {B : Nat} {w w' : World} {b : Nat} (h : Tbl w b) (hb : Below B w w') (k : b < B) : Tbl w' b := by
  obtain ⟨es, clock, hh, r⟩ := h
  exact ⟨es, clock, (hb.block b k).trans hh, r⟩
theorem Tbl.alloc {w : World} {b : Nat} (h : Tbl w b) (o : Obj) : Tbl (w.alloc o) b := World.ownsMap.alloc h o
theorem Tbl.others {w w' : World} {b c : Nat} {e : TypeId} (h : Tbl w b) (hk : Lib.OthersKept e (some c) w w') (hne : b ≠ c) : Tbl w' b := by
  obtain ⟨es, clock, hh, r⟩ := h
  exact ⟨es, clock, hk b _ hh (fun e => hne (Option.some.inj e)) (fun _ _ e => by cases e), r⟩
theorem Tbl.iterAt {w : World} {b k : Nat} (h : Tbl w b) (s : ByteArray) (pos : Nat) (hne : b ≠ k) : Tbl (w.iterAt k s pos) b := by
  obtain ⟨es, clock, hh, r⟩ := h
  exact ⟨es, clock, (Lib.iterAt_other w k b s pos hne).trans hh, r⟩

/-- What is looked up in the map. -/
theorem Tbl.look {w : World} {b : Nat} (h : Tbl w b) {n : Nat} (hn : n ≤ 1114111) :
    (Instr.lookup 55 (.map (some b)) (.int .i32 (n : Int)) true).run Tryz.prog w = .ok (.tuple #[.agg #[.string (bs ((Key.nm n).getD []))], .bool (Key.nm n).isSome]) w := by
  obtain ⟨v, ps, hrun, hv⟩ := World.ownsMap.look_ok (t := 55) h keyInt Tryz.underlying55 (zeroName w) (nameElem_mk (bs [])) (keyRune hn)
  rw [D0_has] at hrun
  obtain ⟨s, rfl, hs⟩ := nameElem_inv hv
  have e : s = bs ((Key.nm n).getD []) := by
    have h1 := congrArg Prod.fst hs
    rw [D0_at] at h1
    cases hn : Key.nm n with
    | none =>
      rw [hn] at h1
      have h2 : (bs []).data.toList = s.data.toList := by simpa using h1
      exact (congrArg bs h2).symm
    | some l =>
      rw [hn] at h1
      have h2 : l = s.data.toList := by simpa using h1
      rw [Option.getD_some, h2]
      rfl
  rw [← e]
  exact hrun

theorem keyRune8 : keyOf Tryz.prog 21 (.int .i32 8) = some (.int .i32 8) := keyRune (n := 8) (by omega)
theorem keyRune9 : keyOf Tryz.prog 21 (.int .i32 9) = some (.int .i32 9) := keyRune (n := 9) (by omega)
theorem keyRune13 : keyOf Tryz.prog 21 (.int .i32 13) = some (.int .i32 13) := keyRune (n := 13) (by omega)
theorem keyRune18 : keyOf Tryz.prog 21 (.int .i32 18) = some (.int .i32 18) := keyRune (n := 18) (by omega)
theorem keyRune21 : keyOf Tryz.prog 21 (.int .i32 21) = some (.int .i32 21) := keyRune (n := 21) (by omega)
theorem keyRune23 : keyOf Tryz.prog 21 (.int .i32 23) = some (.int .i32 23) := keyRune (n := 23) (by omega)
theorem keyRune27 : keyOf Tryz.prog 21 (.int .i32 27) = some (.int .i32 27) := keyRune (n := 27) (by omega)
theorem keyRune60 : keyOf Tryz.prog 21 (.int .i32 60) = some (.int .i32 60) := keyRune (n := 60) (by omega)
theorem D0_put : (DataW.put (DataW.put (DataW.put (DataW.put (DataW.put (DataW.put (DataW.put (DataW.put (DataW.map [] : DataW Unit) (.int .i32 8) (.lit (.string Key.nBack))) (.int .i32 9) (.lit (.string Key.nTab))) (.int .i32 13) (.lit (.string Key.nEnter))) (.int .i32 18) (.lit (.string Key.nRedo))) (.int .i32 21) (.lit (.string Key.nWipe))) (.int .i32 23) (.lit (.string Key.nChop))) (.int .i32 27) (.lit (.string Key.nEsc))) (.int .i32 60) (.lit (.string Key.nLt))) = D0 := by rfl
set_option maxHeartbeats 1000000 in
set_option maxRecDepth 100000 in
theorem key_names (w : World) :
    Calls Tryz.prog 37 #[] w fun e w' => e = .returned (.map (some w.heap.size)) ∧ Tbl w' w.heap.size ∧ Below w.heap.size w w' := by
  have hmm := @run_makeMap Tryz.prog
  have O0 := World.ownsMap_made w Tryz.prog 21 nameElem
  have B0 : Below w.heap.size w (w.alloc (.map #[] 0)) := (Below.refl _ w).alloc (Nat.le_refl _) _
  obtain ⟨w1, R1, O1, G1⟩ := O0.update (t := 55) keyInt Tryz.underlying55 (by unfold maxLen; omega) keyRune8 (nameElem_mk (bs Key.nBack))
  have B1 : Below w.heap.size w w1 := B0.grown G1 B0.size (fun g hg => by cases hg; exact Nat.le_refl _)
  clear O0 G1
  obtain ⟨w2, R2, O2, G2⟩ := O1.update (t := 55) keyInt Tryz.underlying55 (by unfold maxLen; omega) keyRune9 (nameElem_mk (bs Key.nTab))
  have B2 : Below w.heap.size w w2 := B1.grown G2 B1.size (fun g hg => by cases hg; exact Nat.le_refl _)
  clear O1 G2
  obtain ⟨w3, R3, O3, G3⟩ := O2.update (t := 55) keyInt Tryz.underlying55 (by unfold maxLen; omega) keyRune13 (nameElem_mk (bs Key.nEnter))
  have B3 : Below w.heap.size w w3 := B2.grown G3 B2.size (fun g hg => by cases hg; exact Nat.le_refl _)
  clear O2 G3
  obtain ⟨w4, R4, O4, G4⟩ := O3.update (t := 55) keyInt Tryz.underlying55 (by unfold maxLen; omega) keyRune18 (nameElem_mk (bs Key.nRedo))
  have B4 : Below w.heap.size w w4 := B3.grown G4 B3.size (fun g hg => by cases hg; exact Nat.le_refl _)
  clear O3 G4
  obtain ⟨w5, R5, O5, G5⟩ := O4.update (t := 55) keyInt Tryz.underlying55 (by unfold maxLen; omega) keyRune21 (nameElem_mk (bs Key.nWipe))
  have B5 : Below w.heap.size w w5 := B4.grown G5 B4.size (fun g hg => by cases hg; exact Nat.le_refl _)
  clear O4 G5
  obtain ⟨w6, R6, O6, G6⟩ := O5.update (t := 55) keyInt Tryz.underlying55 (by unfold maxLen; omega) keyRune23 (nameElem_mk (bs Key.nChop))
  have B6 : Below w.heap.size w w6 := B5.grown G6 B5.size (fun g hg => by cases hg; exact Nat.le_refl _)
  clear O5 G6
  obtain ⟨w7, R7, O7, G7⟩ := O6.update (t := 55) keyInt Tryz.underlying55 (by unfold maxLen; omega) keyRune27 (nameElem_mk (bs Key.nEsc))
  have B7 : Below w.heap.size w w7 := B6.grown G7 B6.size (fun g hg => by cases hg; exact Nat.le_refl _)
  clear O6 G7
  obtain ⟨w8, R8, O8, G8⟩ := O7.update (t := 55) keyInt Tryz.underlying55 (by unfold maxLen; omega) keyRune60 (nameElem_mk (bs Key.nLt))
  have B8 : Below w.heap.size w w8 := B7.grown G8 B7.size (fun g hg => by cases hg; exact Nat.le_refl _)
  clear O7 G8
  go_enter Tryz.func37, Tryz.ntmps37
  simp only [bs, Key.nBack, Key.nTab, Key.nEnter, Key.nRedo, Key.nWipe, Key.nChop, Key.nEsc, Key.nLt] at R1 R2 R3 R4 R5 R6 R7 R8
  go_wp2
  go_ret
  exact ⟨rfl, by unfold Tbl; rw [← D0_put]; exact O8, B8⟩
end Go.Proofs.YtchpkeelnfmlbaaGreat
