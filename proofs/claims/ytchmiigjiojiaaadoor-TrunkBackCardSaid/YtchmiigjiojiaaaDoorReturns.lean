/-
  Answers that begin with a struct of two cells.
-/
import Derived.Test.YtchmiigjiojiaaaDoorNds
import Derived.Laws.Rows
namespace Go.Proofs.YtchmiigjiojiaaaDoor
open Go.RowKit
theorem results_row1 {P : Program} {fn : Func} {p u : Tmp} {ty : TypeId} (h : fn.results = #[.cell p ty, .tmp u]) (tmps : Array Value) (w : World) (g : Nat) (t : TypeId) (cs : Array Value) (fr : Nat × Nat) (d : TypeDesc)
    (hp : tmps.getD p undef = .pointer (some ⟨g, 0, none⟩)) (hg : w.heap[g]? = some (.cells cs t fr))
    (hu : P.underlying ty = some d) (hd : (match d with | .struct _ | .array _ _ => true | _ => false) = true) (hi : (P.info? ty).map (·.size) = some cs.size) :
    (results fn tmps).run P w = .ok (.tuple #[.agg cs, tmps.getD u undef]) w := by
  have hp' : tmps[p]?.getD undef = .pointer (some ⟨g, 0, none⟩) := by simpa using hp
  simp [results, h, hp', asAddr, run_loadVar_row w g t ty cs fr d hg hu hd hi]
theorem results_row2 {P : Program} {fn : Func} {p u u' : Tmp} {ty : TypeId} (h : fn.results = #[.cell p ty, .tmp u, .tmp u']) (tmps : Array Value) (w : World) (g : Nat) (t : TypeId) (cs : Array Value) (fr : Nat × Nat) (d : TypeDesc)
    (hp : tmps.getD p undef = .pointer (some ⟨g, 0, none⟩)) (hg : w.heap[g]? = some (.cells cs t fr))
    (hu : P.underlying ty = some d) (hd : (match d with | .struct _ | .array _ _ => true | _ => false) = true) (hi : (P.info? ty).map (·.size) = some cs.size) :
    (results fn tmps).run P w = .ok (.tuple #[.agg cs, tmps.getD u undef, tmps.getD u' undef]) w := by
  have hp' : tmps[p]?.getD undef = .pointer (some ⟨g, 0, none⟩) := by simpa using hp
  simp [results, h, hp', asAddr, run_loadVar_row w g t ty cs fr d hg hu hd hi]
section
variable {P : Program} {fn : Func} {R : Ending → World → Prop} {a : Act} {w : World} {g : Nat} {t : TypeId} {v0 v1 c0 c1 : Value} {p u u' : Tmp} {fs : Array Field} {ty : TypeId}
theorem two_row (hB : Blk w g t #[c0, c1]) : Blk ((w.setCell ⟨g, 0, none⟩ v0).setCell ⟨g, 1, none⟩ v1) g t #[v0, v1] := (hB.set_ 0 v0).set_ 1 v1
/-- A return of a struct of two cells that has just been stored. -/
theorem ret_two0 (h : fn.results = #[.cell p ty]) (hp : a.tmps.getD p undef = .pointer (some ⟨g, 0, none⟩)) (hB : Blk w g t #[c0, c1]) (hd : a.defers = []) (hu : P.underlying ty = some (.struct fs)) (hi : (P.info? ty).map (·.size) = some 2)
    (hR : R (.returned (.agg #[v0, v1])) ((w.setCell ⟨g, 0, none⟩ v0).setCell ⟨g, 1, none⟩ v1)) :
    bodyPost P fn R .ret a ((w.setCell ⟨g, 0, none⟩ v0).setCell ⟨g, 1, none⟩ v1) :=
  bodyPost_ret (results_cell_row h _ _ g t #[v0, v1] (0, 0) _ hp (two_row hB) hu rfl hi) hd hR
theorem ret_two1 (h : fn.results = #[.cell p ty, .tmp u]) (hp : a.tmps.getD p undef = .pointer (some ⟨g, 0, none⟩)) (hB : Blk w g t #[c0, c1]) (hd : a.defers = []) (hu : P.underlying ty = some (.struct fs)) (hi : (P.info? ty).map (·.size) = some 2)
    (hR : R (.returned (.tuple #[.agg #[v0, v1], a.tmps.getD u undef])) ((w.setCell ⟨g, 0, none⟩ v0).setCell ⟨g, 1, none⟩ v1)) :
    bodyPost P fn R .ret a ((w.setCell ⟨g, 0, none⟩ v0).setCell ⟨g, 1, none⟩ v1) :=
  bodyPost_ret (results_row1 h _ _ g t #[v0, v1] (0, 0) _ hp (two_row hB) hu rfl hi) hd hR
theorem ret_two2 (h : fn.results = #[.cell p ty, .tmp u, .tmp u']) (hp : a.tmps.getD p undef = .pointer (some ⟨g, 0, none⟩)) (hB : Blk w g t #[c0, c1]) (hd : a.defers = []) (hu : P.underlying ty = some (.struct fs)) (hi : (P.info? ty).map (·.size) = some 2)
    (hR : R (.returned (.tuple #[.agg #[v0, v1], a.tmps.getD u undef, a.tmps.getD u' undef])) ((w.setCell ⟨g, 0, none⟩ v0).setCell ⟨g, 1, none⟩ v1)) :
    bodyPost P fn R .ret a ((w.setCell ⟨g, 0, none⟩ v0).setCell ⟨g, 1, none⟩ v1) :=
  bodyPost_ret (results_row2 h _ _ g t #[v0, v1] (0, 0) _ hp (two_row hB) hu rfl hi) hd hR
end
theorem below_two {n g : Nat} {w u : World} {v0 v1 : Value} (h : Below n w u) (hg : n ≤ g) : Below n w ((u.setCell ⟨g, 0, none⟩ v0).setCell ⟨g, 1, none⟩ v1) := (h.setCell (p := ⟨g, 0, none⟩) hg v0).setCell (p := ⟨g, 1, none⟩) hg v1
theorem nds_two {w : World} {A : Option Addr} {l : List Nd} {g : Nat} {v0 v1 : Value} (h : Nds w A l) (hg : ∀ ad, A = some ad → ad.block ≠ g) : Nds ((w.setCell ⟨g, 0, none⟩ v0).setCell ⟨g, 1, none⟩ v1) A l :=
  (h.grown (gb_set w g 0 v0) (fun ad e h => hg ad e (Option.some.inj h))).grown (gb_set _ g 1 v1) (fun ad e h => hg ad e (Option.some.inj h))
end Go.Proofs.YtchmiigjiojiaaaDoor
