/-
  What becomes of trees, without a program; and answers that begin with a tree.
-/
import Derived.Test.YtffihchkmcddeaaTreeWith
import Derived.Test.YtffihchkmcddeaaAllocs
import Derived.Laws.Rows
namespace Go.Proofs.Ytffihchkmcddeaa
open Go.RowKit
theorem results_row1 {P : Program} {fn : Func} {p u : Tmp} {ty : TypeId} (h : fn.results = #[.cell p ty, .tmp u]) (tmps : Array Value) (w : World) (g : Nat) (t : TypeId) (cs : Array Value) (fr : Nat × Nat) (d : TypeDesc)
    (hp : tmps.getD p undef = .pointer (some ⟨g, 0, none⟩)) (hg : w.heap[g]? = some (.cells cs t fr))
    (hu : P.underlying ty = some d) (hd : (match d with | .struct _ | .array _ _ => true | _ => false) = true) (hi : (P.info? ty).map (·.size) = some cs.size) :
    (results fn tmps).run P w = .ok (.tuple #[.agg cs, tmps.getD u undef]) w := by
  have hp' : tmps[p]?.getD undef = .pointer (some ⟨g, 0, none⟩) := by simpa using hp
  simp [results, h, hp', asAddr, run_loadVar_row w g t ty cs fr d hg hu hd hi]
theorem results_row2 {P : Program} {fn : Func} {p u u' : Tmp} {ty : TypeId} (h : fn.results = #[.cell p ty, .tmp u, .tmp u']) (tmps : Array Value) (w : World) (g : Nat) (t : TypeId) (cs : Array Value) (fr : Nat × Nat) (d : TypeDesc)
    (hp : tmps.getD p undef = .pointer (some ⟨g, 0, none⟩)) (hg : w.heap[g]? = some (.cells cs t fr))
    (hu : P.underlying ty = some d) (hd : (match d with | .struct _ | .array _ _ => true | _ => false) = true) (hi : (P.info? ty).map (·.size) = some cs.size) :
    (results fn tmps).run P w = .ok (.tuple #[.agg cs, tmps.getD u undef, tmps.getD u' undef]) w := by
  have hp' : tmps[p]?.getD undef = .pointer (some ⟨g, 0, none⟩) := by simpa using hp
  simp [results, h, hp', asAddr, run_loadVar_row w g t ty cs fr d hg hu hd hi]
section
variable {P : Program} {fn : Func} {R : Ending → World → Prop} {a : Act} {w : World} {g : Nat} {t : TypeId} {v0 v1 c0 c1 : Value} {p u u' : Tmp} {fs : Array Field} {ty : TypeId}
theorem two_row (hB : Blk w g t #[c0, c1]) : Blk ((w.setCell ⟨g, 0, none⟩ v0).setCell ⟨g, 1, none⟩ v1) g t #[v0, v1] := (hB.set_ 0 v0).set_ 1 v1
/-- A return of a struct of two cells that has just been stored. -/
theorem ret_two0 (h : fn.results = #[.cell p ty]) (hp : a.tmps.getD p undef = .pointer (some ⟨g, 0, none⟩)) (hB : Blk w g t #[c0, c1]) (hd : a.defers = []) (hu : P.underlying ty = some (.struct fs)) (hi : (P.info? ty).map (·.size) = some 2)
    (hR : R (.returned (.agg #[v0, v1])) ((w.setCell ⟨g, 0, none⟩ v0).setCell ⟨g, 1, none⟩ v1)) :
    bodyPost P fn R .ret a ((w.setCell ⟨g, 0, none⟩ v0).setCell ⟨g, 1, none⟩ v1) :=
  bodyPost_ret (results_cell_row h _ _ g t #[v0, v1] (0, 0) _ hp (two_row hB) hu rfl hi) hd hR
theorem ret_two1 (h : fn.results = #[.cell p ty, .tmp u]) (hp : a.tmps.getD p undef = .pointer (some ⟨g, 0, none⟩)) (hB : Blk w g t #[c0, c1]) (hd : a.defers = []) (hu : P.underlying ty = some (.struct fs)) (hi : (P.info? ty).map (·.size) = some 2)
    (hR : R (.returned (.tuple #[.agg #[v0, v1], a.tmps.getD u undef])) ((w.setCell ⟨g, 0, none⟩ v0).setCell ⟨g, 1, none⟩ v1)) :
    bodyPost P fn R .ret a ((w.setCell ⟨g, 0, none⟩ v0).setCell ⟨g, 1, none⟩ v1) :=
  bodyPost_ret (results_row1 h _ _ g t #[v0, v1] (0, 0) _ hp (two_row hB) hu rfl hi) hd hR
theorem ret_two2 (h : fn.results = #[.cell p ty, .tmp u, .tmp u']) (hp : a.tmps.getD p undef = .pointer (some ⟨g, 0, none⟩)) (hB : Blk w g t #[c0, c1]) (hd : a.defers = []) (hu : P.underlying ty = some (.struct fs)) (hi : (P.info? ty).map (·.size) = some 2)
    (hR : R (.returned (.tuple #[.agg #[v0, v1], a.tmps.getD u undef, a.tmps.getD u' undef])) ((w.setCell ⟨g, 0, none⟩ v0).setCell ⟨g, 1, none⟩ v1)) :
    bodyPost P fn R .ret a ((w.setCell ⟨g, 0, none⟩ v0).setCell ⟨g, 1, none⟩ v1) :=
  bodyPost_ret (results_row2 h _ _ g t #[v0, v1] (0, 0) _ hp (two_row hB) hu rfl hi) hd hR
end
theorem below_two {n g : Nat} {w u : World} {v0 v1 : Value} (h : Below n w u) (hg : n ≤ g) : Below n w ((u.setCell ⟨g, 0, none⟩ v0).setCell ⟨g, 1, none⟩ v1) := (h.setCell (p := ⟨g, 0, none⟩) hg v0).setCell (p := ⟨g, 1, none⟩) hg v1
theorem nds_two {w : World} {A : Option Addr} {l : List Nd} {g : Nat} {v0 v1 : Value} (h : Nds w A l) (hg : ∀ ad, A = some ad → ad.block ≠ g) : Nds ((w.setCell ⟨g, 0, none⟩ v0).setCell ⟨g, 1, none⟩ v1) A l :=
  (h.grown (gb_set w g 0 v0) (fun ad e h => hg ad e (Option.some.inj h))).grown (gb_set _ g 1 v1) (fun ad e h => hg ad e (Option.some.inj h))
namespace Tre
/-- The Next of a node. -/
def nxt (l : List Nd) (k : Nat) : Int := match l[k]? with | some x => x.next | none => -1
theorem nxt_of {l : List Nd} {k : Nat} {x : Nd} (h : l[k]? = some x) : nxt l k = x.next := by unfold nxt; rw [h]
/-- The nodes with one more, which is the Next of the one ahead of it. -/
def added (l : List Nd) (x : Nd) : List Nd := choose (l ++ [x]) l.length
theorem added_length (l : List Nd) (x : Nd) : (added l x).length = l.length + 1 := by rw [added, choose_length, List.length_append]; rfl
/-- The nodes, Cur and the error of what is added to. -/
noncomputable def addTo (l : List Nd) (cur : Int) (x : Nd) : List Nd × Int × Int := if ¬ Right l cur ∨ x.before < 0 ∨ x.after < 0 then ([], 0, 1) else if l.length = 1024 then ([], 0, 8) else (added l x, (l.length : Int), 0)
noncomputable def undo (l : List Nd) (cur : Int) : List Nd × Int × Int × Bool := if Right l cur then (if cur = 0 then (l, 0, 0, false) else (l, (abv l cur.toNat : Int), cur, true)) else ([], 0, 0, false)
noncomputable def redo (l : List Nd) (cur : Int) : List Nd × Int × Int × Bool := if Right l cur then (if nxt l cur.toNat = -1 then (l, cur, 0, false) else (l, nxt l cur.toNat, nxt l cur.toNat, true)) else ([], 0, 0, false)
/-- The kids of a node among the first m. -/
def kidsIn (l : List Nd) (m : Nat) (k : Int) : List Nat := (List.range m).filter fun i => l[i]?.map (·.up) == some k
noncomputable def kids (l : List Nd) (cur k : Int) : List Nat := if Right l cur ∧ 0 ≤ k ∧ k < l.length then kidsIn l l.length k else []
noncomputable def chose (l : List Nd) (cur k : Int) : List Nd × Int × Int := if ¬ Right l cur then ([], 0, 1) else if ¬ (0 ≤ k ∧ k < l.length) ∨ k = 0 then ([], 0, 7) else (choose l k.toNat, cur, 0)
end Tre
/-- An answer of a tree and a number. -/
def TreeErr (p : List Nd × Int × Int) (w : World) (e : Ending) (w' : World) : Prop := ∃ v, e = .returned (.tuple #[v, .int .i64 p.2.2]) ∧ TreeIs p.1 p.2.1 w v w'
/-- An answer of a tree, a number, and whether it is so. -/
def TreeNum (p : List Nd × Int × Int × Bool) (w : World) (e : Ending) (w' : World) : Prop := ∃ v, e = .returned (.tuple #[v, .int .i64 p.2.2.1, .bool p.2.2.2]) ∧ TreeIs p.1 p.2.1 w v w'
theorem treeErr_nil {w w' : World} {n : Int} (h : Below w.heap.size w w') : TreeErr ([], 0, n) w (.returned (.tuple #[.agg #[.slice none 0 0, .int .i64 0], .int .i64 n])) w' := ⟨_, rfl, none, 0, rfl, Nds.nil _ _, Nat.le_refl _, h⟩
theorem treeNum_nil {w w' : World} {n : Int} {b : Bool} (h : Below w.heap.size w w') : TreeNum ([], 0, n, b) w (.returned (.tuple #[.agg #[.slice none 0 0, .int .i64 0], .int .i64 n, .bool b])) w' := ⟨_, rfl, none, 0, rfl, Nds.nil _ _, Nat.le_refl _, h⟩
/-- A tree copied, whose nodes are one or more: where they lie. -/
theorem held_copy {A : Option Addr} {c : Nat} {l : List Nd} {cur : Int} {w : World} (hx : Nds w A l) (h1 : 1 ≤ l.length) (hm : l.length ≤ 2000) (hs : ∀ x ∈ l, x.old.size ≤ 140737488355327 ∧ x.new.size ≤ 140737488355327) :
    Calls Try.prog 36 #[.agg #[.slice A l.length c, .int .i64 cur]] w fun e w' => ∃ (g c' : Nat), e = .returned (.agg #[.slice (some ⟨g, 0, none⟩) l.length c', .int .i64 cur]) ∧ w'.ownsRow w.heap.size 51 7 (.slice (some ⟨g, 0, none⟩) l.length c') l.length (nrows l) ∧
      w.heap.size ≤ g ∧ g < w'.heap.size ∧ Nds w' (some ⟨g, 0, none⟩) l ∧ l.length ≤ c' ∧ Below w.heap.size w w' := by
  refine (held_copied hx hm hs).mono ?_
  rintro e w' ⟨A', c', rfl, hown, hb⟩
  obtain ⟨g, c3, he, h2, h3, _⟩ := own_addr hown (by omega)
  injection he with e1 _ e3
  subst e1 e3
  obtain ⟨o1, o2⟩ := own_nds hown rfl
  exact ⟨g, c', rfl, hown, h3, h2, o1, o2, hb⟩
end Go.Proofs.Ytffihchkmcddeaa
