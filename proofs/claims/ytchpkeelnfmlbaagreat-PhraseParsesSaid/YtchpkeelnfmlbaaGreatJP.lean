/-
  Answers that are, or begin with, a struct of three cells.
-/
import Derived.Test.YtchpkeelnfmlbaaGreatBase
import Derived.Laws.Rows
import Derived.Test.YtchpkeelnfmlbaaGreatThing
import Derived.RangeFuncBox
import Derived.Maps.OwnSet
import Derived.Test.YtchpkeelnfmlbaaGreatReg
import Derived.Test.YtchpkeelnfmlbaaGreatSpan
import Derived.Test.YtchpkeelnfmlbaaGreatKeyCheck
import Derived.Test.YtchpkeelnfmlbaaGreatStrsOwn
import Derived.OwnWalk
import Derived.Laws.Runes
import Derived.Test.YtchpkeelnfmlbaaGreatPhrase
import Derived.Test.YtchpkeelnfmlbaaGreatStrs
import Derived.WalkSmall
import Derived.Test.YtchpkeelnfmlbaaGreatKeySign
import Derived.Laws.StructEq
namespace Go.Proofs.YtchpkeelnfmlbaaGreat
open Go.RowKit
theorem results_row_and {P : Program} {fn : Func} {p u : Tmp} {ty : TypeId} (h : fn.results = #[.cell p ty, .tmp u]) (tmps : Array Value) (w : World) (g : Nat) (t : TypeId) (cs : Array Value) (fr : Nat × Nat) (d : TypeDesc)
    (hp : tmps.getD p undef = .pointer (some ⟨g, 0, none⟩)) (hg : w.heap[g]? = some (.cells cs t fr))
    (hu : P.underlying ty = some d) (hd : (match d with | .struct _ | .array _ _ => true | _ => false) = true) (hi : (P.info? ty).map (·.size) = some cs.size) :
    (results fn tmps).run P w = .ok (.tuple #[.agg cs, tmps.getD u undef]) w := by
  have hp' : tmps[p]?.getD undef = .pointer (some ⟨g, 0, none⟩) := by simpa using hp
  simp [results, h, hp', asAddr, run_loadVar_row w g t ty cs fr d hg hu hd hi]
section
variable {P : Program} {fn : Func} {R : Ending → World → Prop} {a : Act} {w : World} {g : Nat} {t : TypeId} {v0 v1 v2 c0 c1 c2 : Value} {p u : Tmp} {fs : Array Field} {ty : TypeId}
theorem three_row (hB : Blk w g t #[c0, c1, c2]) : Blk (((w.setCell ⟨g, 0, none⟩ v0).setCell ⟨g, 1, none⟩ v1).setCell ⟨g, 2, none⟩ v2) g t #[v0, v1, v2] := ((hB.set_ 0 v0).set_ 1 v1).set_ 2 v2
theorem ret_three (h : fn.results = #[.cell p ty]) (hp : a.tmps.getD p undef = .pointer (some ⟨g, 0, none⟩)) (hB : Blk w g t #[v0, v1, v2]) (hd : a.defers = []) (hu : P.underlying ty = some (.struct fs)) (hi : (P.info? ty).map (·.size) = some 3)
    (hR : R (.returned (.agg #[v0, v1, v2])) w) : bodyPost P fn R .ret a w :=
  bodyPost_ret (results_cell_row h _ _ g t #[v0, v1, v2] (0, 0) _ hp hB hu rfl hi) hd hR
theorem ret_three1 (h : fn.results = #[.cell p ty, .tmp u]) (hp : a.tmps.getD p undef = .pointer (some ⟨g, 0, none⟩)) (hB : Blk w g t #[v0, v1, v2]) (hd : a.defers = []) (hu : P.underlying ty = some (.struct fs)) (hi : (P.info? ty).map (·.size) = some 3)
    (hR : R (.returned (.tuple #[.agg #[v0, v1, v2], a.tmps.getD u undef])) w) : bodyPost P fn R .ret a w :=
  bodyPost_ret (results_row_and h _ _ g t #[v0, v1, v2] (0, 0) _ hp hB hu rfl hi) hd hR
end
/-- What a store into the row wants. -/
theorem row_three {w : World} {g : Nat} {t : TypeId} {c0 c1 c2 : Value} (h : Blk w g t #[c0, c1, c2]) : w.cell? ⟨g, 0, none⟩ = some c0 ∧ w.cell? ⟨g, 1, none⟩ = some c1 ∧ w.cell? ⟨g, 2, none⟩ = some c2 ∧ w.frozen? ⟨g, 0, none⟩ = false ∧ w.frozen? ⟨g, 1, none⟩ = false ∧ w.frozen? ⟨g, 2, none⟩ = false :=
  ⟨h.cell 0, h.cell 1, h.cell 2, h.frozen 0, h.frozen 1, h.frozen 2⟩
theorem below_three {n g : Nat} {w u : World} {v0 v1 v2 : Value} (h : Below n w u) (hg : n ≤ g) : Below n w (((u.setCell ⟨g, 0, none⟩ v0).setCell ⟨g, 1, none⟩ v1).setCell ⟨g, 2, none⟩ v2) := ((h.setCell (p := ⟨g, 0, none⟩) hg v0).setCell (p := ⟨g, 1, none⟩) hg v1).setCell (p := ⟨g, 2, none⟩) hg v2
end Go.Proofs.YtchpkeelnfmlbaaGreat
/-
  The map of kinds: what it holds, and the function that makes it; whether a key is there.
-/
namespace Go.Proofs.YtchpkeelnfmlbaaGreat
open Go.RowKit
open Go.Maps (Keyed)
open Go.MapKept Go.ChangeMaps

/-- How a function lies in the map: alone, or with a box that it has captured. -/
def fnElem (v : Value) : Option (DataW Unit × List MemPlace) :=
  match v with
  | .func (.func n) ⟨[]⟩ ⟨[]⟩ => some (.lit (.int .i64 (n : Int)), [])
  | .func (.func n) ⟨[]⟩ ⟨[.pointer (some ⟨g, 0, none⟩)]⟩ => some (.agg [.lit (.int .i64 (n : Int)), .lit (.int .i64 (g : Int))], [])
  | .nilFunc => some (.lit (.bool false), [])
  | _ => none
theorem fnElem_mk (n : Nat) : fnElem (.func (.func n) #[] #[]) = some (.lit (.int .i64 (n : Int)), []) := rfl
theorem fnElem_box (n g : Nat) : fnElem (.func (.func n) #[] #[.pointer (some ⟨g, 0, none⟩)]) = some (.agg [.lit (.int .i64 (n : Int)), .lit (.int .i64 (g : Int))], []) := rfl
theorem fnElem_nil : fnElem .nilFunc = some (.lit (.bool false), []) := rfl
theorem fnElem_fun {v : Value} {n : Nat} {p : List MemPlace} (h : fnElem v = some (.lit (.int .i64 (n : Int)), p)) : v = .func (.func n) #[] #[] := by
  unfold fnElem at h
  split at h
  · simp only [Option.some.injEq, Prod.mk.injEq, DataW.lit.injEq, Lit.int.injEq, Int.natCast_inj, true_and] at h
    rw [h.1]
  · simp at h
  · simp at h
  · cases h
theorem fnElem_boxed {v : Value} {n g : Nat} {p : List MemPlace} (h : fnElem v = some (.agg [.lit (.int .i64 (n : Int)), .lit (.int .i64 (g : Int))], p)) : v = .func (.func n) #[] #[.pointer (some ⟨g, 0, none⟩)] := by
  unfold fnElem at h
  split at h
  · simp at h
  · simp only [Option.some.injEq, Prod.mk.injEq, DataW.agg.injEq, List.cons.injEq, DataW.lit.injEq, Lit.int.injEq, Int.natCast_inj, true_and, and_true] at h
    rw [h.1.1, h.1.2]
  · simp at h
  · cases h
theorem fnElem_none {v : Value} {p : List MemPlace} (h : fnElem v = some (.lit (.bool false), p)) : v = .nilFunc := by
  unfold fnElem at h
  split at h
  · simp at h
  · simp at h
  · rfl
  · cases h
theorem keyText' : Keyed Tryz.prog 9 := Maps.string_keyed Tryz.underlying9
theorem zeroFinder (w : World) : (zeroValue 71).run Tryz.prog w = .ok .nilFunc w := by kernel_rfl

/-- The functions. -/
def tfn (m : Nat) : Nat := match m with | 0 => 72 | 1 => 72 | 2 => 75 | 3 => 75 | 4 => 75 | 5 => 75 | 6 => 78 | 7 => 78 | _ => 78
/-- What each has captured. -/
def tcap (m : Nat) : TypeId × Value := match m with | 0 => (4, .bool false) | 1 => (4, .bool true) | 2 => (9, .string ⟨#[40]⟩) | 3 => (9, .string ⟨#[91]⟩) | 4 => (9, .string ⟨#[123]⟩) | 5 => (9, .string ⟨#[60]⟩) | 6 => (5, .int .u8 34) | 7 => (5, .int .u8 39) | _ => (5, .int .u8 96)
/-- The function of the jth kind, in the map that lies in block b. -/
def tval (b : Nat) (o : Option Nat) : Value := match o with | some j => if j = 15 then .func (.func 70) #[] #[] else .func (.func (tfn (Thing.cls j))) #[] #[.pointer (some ⟨b + 1 + j, 0, none⟩)] | none => .nilFunc
/-- Its datum. -/
def tdat (b j : Nat) : DataW Unit := if j = 15 then .lit (.int .i64 (70 : Nat)) else .agg [.lit (.int .i64 (tfn (Thing.cls j) : Nat)), .lit (.int .i64 ((b + 1 + j : Nat) : Int))]
theorem tdat_val {b j : Nat} {v : Value} {p : List MemPlace} (h : fnElem v = some (tdat b j, p)) : v = tval b (some j) := by
  unfold tdat at h
  unfold tval
  split at h
  · rename_i hj; rw [fnElem_fun h]; exact (if_pos hj).symm
  · rename_i hj; rw [fnElem_boxed h]; exact (if_neg hj).symm
/-- What the map holds. -/
def ThingD (b : Nat) : DataW Unit := .map [(.string [34], tdat b 12), (.string [39], tdat b 13), (.string [40], tdat b 2), (.string [41], tdat b 3), (.string [60], tdat b 10), (.string [62], tdat b 11), (.string [66], tdat b 9), (.string [87], tdat b 1), (.string [91], tdat b 5), (.string [93], tdat b 6), (.string [96], tdat b 14), (.string [98], tdat b 4), (.string [112], tdat b 15), (.string [119], tdat b 0), (.string [123], tdat b 7), (.string [125], tdat b 8)]

theorem ThingD_has (b : Nat) (l : List UInt8) : Maps.has (ThingD b) (.string l) = (Thing.num l).isSome := by
  rw [Bool.eq_iff_iff]
  simp only [Maps.has, ThingD, List.any_cons, List.any_nil, Lit.sameKey, Bool.or_eq_true, beq_iff_eq, Bool.or_false]
  constructor
  · rintro (rfl | rfl | rfl | rfl | rfl | rfl | rfl | rfl | rfl | rfl | rfl | rfl | rfl | rfl | rfl | rfl) <;> rfl
  · intro h
    obtain ⟨m, hm⟩ := Option.isSome_iff_exists.1 h
    have h := Thing.num_tab.1 hm
    unfold Thing.tab at h
    simp only [List.mem_cons, Prod.mk.injEq, List.not_mem_nil, or_false] at h
    rcases h with ⟨rfl, _⟩ | ⟨rfl, _⟩ | ⟨rfl, _⟩ | ⟨rfl, _⟩ | ⟨rfl, _⟩ | ⟨rfl, _⟩ | ⟨rfl, _⟩ | ⟨rfl, _⟩ | ⟨rfl, _⟩ | ⟨rfl, _⟩ | ⟨rfl, _⟩ | ⟨rfl, _⟩ | ⟨rfl, _⟩ | ⟨rfl, _⟩ | ⟨rfl, _⟩ | ⟨rfl, _⟩ <;> simp
theorem ThingD_at (b : Nat) (l : List UInt8) (z : DataW Unit) : (ThingD b).atKey (.string l) z = match Thing.num l with | some j => tdat b j | none => z := by
  cases hm : Thing.num l with
  | some m =>
    have h := Thing.num_tab.1 hm
    unfold Thing.tab at h
    simp only [List.mem_cons, Prod.mk.injEq, List.not_mem_nil, or_false] at h
    rcases h with ⟨rfl, rfl⟩ | ⟨rfl, rfl⟩ | ⟨rfl, rfl⟩ | ⟨rfl, rfl⟩ | ⟨rfl, rfl⟩ | ⟨rfl, rfl⟩ | ⟨rfl, rfl⟩ | ⟨rfl, rfl⟩ | ⟨rfl, rfl⟩ | ⟨rfl, rfl⟩ | ⟨rfl, rfl⟩ | ⟨rfl, rfl⟩ | ⟨rfl, rfl⟩ | ⟨rfl, rfl⟩ | ⟨rfl, rfl⟩ | ⟨rfl, rfl⟩ <;> rfl
  | none =>
    have h := ThingD_has b l
    rw [hm] at h
    simp only [Maps.has, ThingD, Option.isSome_none] at h
    simp only [ThingD, DataW.atKey]
    rw [List.find?_eq_none.2 (fun x hx hk => by rw [List.any_eq_false] at h; exact h x hx hk)]
/-- Block b is the map of kinds, the boxes of its functions behind it. -/
def ThingTbl (w : World) (b : Nat) : Prop := w.ownsMap Tryz.prog 9 fnElem b 16 (ThingD b) ∧ ∀ j, j < 15 → Boxed w (b + 1 + j) (tcap (Thing.cls j)).1 (tcap (Thing.cls j)).2
/-- What is looked up in the map. -/
theorem ThingTbl.look {w : World} {b : Nat} (h : ThingTbl w b) {s : ByteArray} (hs : s.size ≤ 9223372036854775807) :
    (Instr.lookup 73 (.map (some b)) (.string s) true).run Tryz.prog w = .ok (.tuple #[tval b (Thing.num s.data.toList), .bool (Thing.num s.data.toList).isSome]) w := by
  obtain ⟨v, ps, hrun, hv⟩ := World.ownsMap.look_ok (t := 73) h.1 keyText' Tryz.underlying73 (zeroFinder w) fnElem_nil (WideMaps.keyOf_string_mk Tryz.underlying9 (s := s) (by unfold maxLen; omega))
  rw [ThingD_has] at hrun
  rw [ThingD_at] at hv
  have e : v = tval b (Thing.num s.data.toList) := by
    cases hn : Thing.num s.data.toList with
    | none => rw [hn] at hv; exact fnElem_none hv
    | some m => rw [hn] at hv; exact tdat_val hv
  rw [← e]
  exact hrun

theorem thing_word (big : Bool) (w : World) :
    Calls Tryz.prog 67 #[.bool big] w fun e w' => e = .returned (.func (.func 72) #[] #[.pointer (some ⟨w.heap.size, 0, none⟩)]) ∧ w' = w.alloc (.cells #[.bool big] 4) := by
  go_enter Tryz.func67, Tryz.ntmps67
  go_wp2
  go_ret
  exact ⟨rfl, rfl⟩
theorem thing_bracket (s : ByteArray) (w : World) :
    Calls Tryz.prog 68 #[.string s] w fun e w' => e = .returned (.func (.func 75) #[] #[.pointer (some ⟨w.heap.size, 0, none⟩)]) ∧ w' = w.alloc (.cells #[.string s] 9) := by
  go_enter Tryz.func68, Tryz.ntmps68
  go_wp2
  go_ret
  exact ⟨rfl, rfl⟩
theorem thing_quote (q : Int) (w : World) :
    Calls Tryz.prog 69 #[.int .u8 q] w fun e w' => e = .returned (.func (.func 78) #[] #[.pointer (some ⟨w.heap.size, 0, none⟩)]) ∧ w' = w.alloc (.cells #[.int .u8 q] 5) := by
  go_enter Tryz.func69, Tryz.ntmps69
  go_wp2
  go_ret
  exact ⟨rfl, rfl⟩
theorem keyT0 : keyOf Tryz.prog 9 (.string ⟨#[119]⟩) = some (.string [119]) := WideMaps.keyOf_string_mk Tryz.underlying9 (s := ⟨#[119]⟩) (by unfold maxLen; decide)
theorem keyT1 : keyOf Tryz.prog 9 (.string ⟨#[87]⟩) = some (.string [87]) := WideMaps.keyOf_string_mk Tryz.underlying9 (s := ⟨#[87]⟩) (by unfold maxLen; decide)
theorem keyT2 : keyOf Tryz.prog 9 (.string ⟨#[40]⟩) = some (.string [40]) := WideMaps.keyOf_string_mk Tryz.underlying9 (s := ⟨#[40]⟩) (by unfold maxLen; decide)
theorem keyT3 : keyOf Tryz.prog 9 (.string ⟨#[41]⟩) = some (.string [41]) := WideMaps.keyOf_string_mk Tryz.underlying9 (s := ⟨#[41]⟩) (by unfold maxLen; decide)
theorem keyT4 : keyOf Tryz.prog 9 (.string ⟨#[98]⟩) = some (.string [98]) := WideMaps.keyOf_string_mk Tryz.underlying9 (s := ⟨#[98]⟩) (by unfold maxLen; decide)
theorem keyT5 : keyOf Tryz.prog 9 (.string ⟨#[91]⟩) = some (.string [91]) := WideMaps.keyOf_string_mk Tryz.underlying9 (s := ⟨#[91]⟩) (by unfold maxLen; decide)
theorem keyT6 : keyOf Tryz.prog 9 (.string ⟨#[93]⟩) = some (.string [93]) := WideMaps.keyOf_string_mk Tryz.underlying9 (s := ⟨#[93]⟩) (by unfold maxLen; decide)
theorem keyT7 : keyOf Tryz.prog 9 (.string ⟨#[123]⟩) = some (.string [123]) := WideMaps.keyOf_string_mk Tryz.underlying9 (s := ⟨#[123]⟩) (by unfold maxLen; decide)
theorem keyT8 : keyOf Tryz.prog 9 (.string ⟨#[125]⟩) = some (.string [125]) := WideMaps.keyOf_string_mk Tryz.underlying9 (s := ⟨#[125]⟩) (by unfold maxLen; decide)
theorem keyT9 : keyOf Tryz.prog 9 (.string ⟨#[66]⟩) = some (.string [66]) := WideMaps.keyOf_string_mk Tryz.underlying9 (s := ⟨#[66]⟩) (by unfold maxLen; decide)
theorem keyT10 : keyOf Tryz.prog 9 (.string ⟨#[60]⟩) = some (.string [60]) := WideMaps.keyOf_string_mk Tryz.underlying9 (s := ⟨#[60]⟩) (by unfold maxLen; decide)
theorem keyT11 : keyOf Tryz.prog 9 (.string ⟨#[62]⟩) = some (.string [62]) := WideMaps.keyOf_string_mk Tryz.underlying9 (s := ⟨#[62]⟩) (by unfold maxLen; decide)
theorem keyT12 : keyOf Tryz.prog 9 (.string ⟨#[34]⟩) = some (.string [34]) := WideMaps.keyOf_string_mk Tryz.underlying9 (s := ⟨#[34]⟩) (by unfold maxLen; decide)
theorem keyT13 : keyOf Tryz.prog 9 (.string ⟨#[39]⟩) = some (.string [39]) := WideMaps.keyOf_string_mk Tryz.underlying9 (s := ⟨#[39]⟩) (by unfold maxLen; decide)
theorem keyT14 : keyOf Tryz.prog 9 (.string ⟨#[96]⟩) = some (.string [96]) := WideMaps.keyOf_string_mk Tryz.underlying9 (s := ⟨#[96]⟩) (by unfold maxLen; decide)
theorem keyT15 : keyOf Tryz.prog 9 (.string ⟨#[112]⟩) = some (.string [112]) := WideMaps.keyOf_string_mk Tryz.underlying9 (s := ⟨#[112]⟩) (by unfold maxLen; decide)
theorem ThingD_put (b : Nat) : DataW.put (DataW.put (DataW.put (DataW.put (DataW.put (DataW.put (DataW.put (DataW.put (DataW.put (DataW.put (DataW.put (DataW.put (DataW.put (DataW.put (DataW.put (DataW.put ((DataW.map [] : DataW Unit)) (.string [119]) (tdat b 0)) (.string [87]) (tdat b 1)) (.string [40]) (tdat b 2)) (.string [41]) (tdat b 3)) (.string [98]) (tdat b 4)) (.string [91]) (tdat b 5)) (.string [93]) (tdat b 6)) (.string [123]) (tdat b 7)) (.string [125]) (tdat b 8)) (.string [66]) (tdat b 9)) (.string [60]) (tdat b 10)) (.string [62]) (tdat b 11)) (.string [34]) (tdat b 12)) (.string [39]) (tdat b 13)) (.string [96]) (tdat b 14)) (.string [112]) (tdat b 15) = ThingD b := by kernel_rfl
/-- The box of the jth function, and it laid into the map. -/
theorem thing_step {w u : World} {b j n : Nat} {D : DataW Unit} {key : Value} {kl : Lit} {fn : Nat} {t : TypeId} {v : Value} (hj : j < 15) (hb : b = w.heap.size) (hO : u.ownsMap Tryz.prog 9 fnElem b n D) (hn : n ≤ 16) (hB : Below w.heap.size w u) (hs : u.heap.size = b + 1 + j)
    (hX : ∀ i, i < j → Boxed u (b + 1 + i) (tcap (Thing.cls i)).1 (tcap (Thing.cls i)).2) (hk : keyOf Tryz.prog 9 key = some kl) (hf : tfn (Thing.cls j) = fn) (hc : tcap (Thing.cls j) = (t, v)) :
    ∃ u', (Instr.mapUpdate 73 (.map (some b)) key (.func (.func fn) #[] #[.pointer (some ⟨u.heap.size, 0, none⟩)])).run Tryz.prog (u.alloc (.cells #[v] t)) = .ok () u' ∧ u'.ownsMap Tryz.prog 9 fnElem b (n + 1) (D.put kl (tdat b j)) ∧ Below w.heap.size w u' ∧ u'.heap.size = b + 1 + (j + 1)
      ∧ ∀ i, i < j + 1 → Boxed u' (b + 1 + i) (tcap (Thing.cls i)).1 (tcap (Thing.cls i)).2 := by
  have hO1 := hO.alloc (.cells #[v] t)
  have hd : tdat b j = .agg [.lit (.int .i64 (fn : Nat)), .lit (.int .i64 ((u.heap.size : Nat) : Int))] := by rw [tdat, if_neg (by omega), hf, hs]
  obtain ⟨u', hr, hO2, hM⟩ := hO1.store (t := 73) keyText' Tryz.underlying73 (by unfold maxLen; omega) hk (show fnElem (.func (.func fn) #[] #[.pointer (some ⟨u.heap.size, 0, none⟩)]) = some (tdat b j, []) by rw [hd]; exact fnElem_box fn u.heap.size)
  obtain ⟨es, clock, es', clock', hm, rfl⟩ := hM
  have hsz : (setBlock (u.alloc (.cells #[v] t)) b (.map es' clock')).heap.size = b + 1 + (j + 1) := by simp [setBlock]; omega
  refine ⟨_, hr, hO2, ?_, hsz, ?_⟩
  · have hB1 := hB.alloc hB.size (.cells #[v] t)
    exact hB1.grown (row := some b) ⟨rfl, rfl, rfl, by simp [setBlock], fun i _ hi => heap_setBlock_other hm _ (fun e => hi (by rw [e]))⟩ hB1.size (fun g hg => by cases hg; omega)
  · intro i hi
    have hg : (u.alloc (.cells #[v] t)).grownBy (setBlock (u.alloc (.cells #[v] t)) b (.map es' clock')) (some b) := ⟨rfl, rfl, rfl, by simp [setBlock], fun i _ hi => heap_setBlock_other hm _ (fun e => hi (by rw [e]))⟩
    refine Boxed.kept ?_ hg (fun e => by injection e with e; omega)
    rcases Nat.lt_or_ge i j with h | h
    · exact (hX i h).alloc _
    · obtain rfl : i = j := by omega
      rw [hc, ← hs]
      exact Boxed.new u t v
set_option maxHeartbeats 2000000 in
set_option maxRecDepth 100000 in
theorem thing_kinds (w : World) :
    Calls Tryz.prog 64 #[] w fun e w' => e = .returned (.map (some w.heap.size)) ∧ ThingTbl w' w.heap.size ∧ Below w.heap.size w w' := by
  have hmm := @run_makeMap Tryz.prog
  have O0 := World.ownsMap_made w Tryz.prog 9 fnElem
  have B0 : Below w.heap.size w (w.alloc (.map #[] 0)) := (Below.refl _ w).alloc (Nat.le_refl _) _
  have S0 : (w.alloc (.map #[] 0)).heap.size = w.heap.size + 1 + 0 := by simp
  have X0 : ∀ i, i < 0 → Boxed (w.alloc (.map #[] 0)) (w.heap.size + 1 + i) (tcap (Thing.cls i)).1 (tcap (Thing.cls i)).2 := fun i hi => absurd hi (Nat.not_lt_zero _)
  obtain ⟨w1, R1, O1, B1, S1, X1⟩ := thing_step (j := 0) (fn := 72) (t := 4) (v := .bool false) (by omega) rfl O0 (by omega) B0 S0 X0 keyT0 rfl rfl
  simp only [World.size_alloc] at R1
  clear O0 B0 S0 X0
  obtain ⟨w2, R2, O2, B2, S2, X2⟩ := thing_step (j := 1) (fn := 72) (t := 4) (v := .bool true) (by omega) rfl O1 (by omega) B1 S1 X1 keyT1 rfl rfl
  clear O1 B1 S1 X1
  obtain ⟨w3, R3, O3, B3, S3, X3⟩ := thing_step (j := 2) (fn := 75) (t := 9) (v := .string ⟨#[40]⟩) (by omega) rfl O2 (by omega) B2 S2 X2 keyT2 rfl rfl
  clear O2 B2 S2 X2
  obtain ⟨w4, R4, O4, B4, S4, X4⟩ := thing_step (j := 3) (fn := 75) (t := 9) (v := .string ⟨#[40]⟩) (by omega) rfl O3 (by omega) B3 S3 X3 keyT3 rfl rfl
  clear O3 B3 S3 X3
  obtain ⟨w5, R5, O5, B5, S5, X5⟩ := thing_step (j := 4) (fn := 75) (t := 9) (v := .string ⟨#[40]⟩) (by omega) rfl O4 (by omega) B4 S4 X4 keyT4 rfl rfl
  clear O4 B4 S4 X4
  obtain ⟨w6, R6, O6, B6, S6, X6⟩ := thing_step (j := 5) (fn := 75) (t := 9) (v := .string ⟨#[91]⟩) (by omega) rfl O5 (by omega) B5 S5 X5 keyT5 rfl rfl
  clear O5 B5 S5 X5
  obtain ⟨w7, R7, O7, B7, S7, X7⟩ := thing_step (j := 6) (fn := 75) (t := 9) (v := .string ⟨#[91]⟩) (by omega) rfl O6 (by omega) B6 S6 X6 keyT6 rfl rfl
  clear O6 B6 S6 X6
  obtain ⟨w8, R8, O8, B8, S8, X8⟩ := thing_step (j := 7) (fn := 75) (t := 9) (v := .string ⟨#[123]⟩) (by omega) rfl O7 (by omega) B7 S7 X7 keyT7 rfl rfl
  clear O7 B7 S7 X7
  obtain ⟨w9, R9, O9, B9, S9, X9⟩ := thing_step (j := 8) (fn := 75) (t := 9) (v := .string ⟨#[123]⟩) (by omega) rfl O8 (by omega) B8 S8 X8 keyT8 rfl rfl
  clear O8 B8 S8 X8
  obtain ⟨w10, R10, O10, B10, S10, X10⟩ := thing_step (j := 9) (fn := 75) (t := 9) (v := .string ⟨#[123]⟩) (by omega) rfl O9 (by omega) B9 S9 X9 keyT9 rfl rfl
  clear O9 B9 S9 X9
  obtain ⟨w11, R11, O11, B11, S11, X11⟩ := thing_step (j := 10) (fn := 75) (t := 9) (v := .string ⟨#[60]⟩) (by omega) rfl O10 (by omega) B10 S10 X10 keyT10 rfl rfl
  clear O10 B10 S10 X10
  obtain ⟨w12, R12, O12, B12, S12, X12⟩ := thing_step (j := 11) (fn := 75) (t := 9) (v := .string ⟨#[60]⟩) (by omega) rfl O11 (by omega) B11 S11 X11 keyT11 rfl rfl
  clear O11 B11 S11 X11
  obtain ⟨w13, R13, O13, B13, S13, X13⟩ := thing_step (j := 12) (fn := 78) (t := 5) (v := .int .u8 34) (by omega) rfl O12 (by omega) B12 S12 X12 keyT12 rfl rfl
  clear O12 B12 S12 X12
  obtain ⟨w14, R14, O14, B14, S14, X14⟩ := thing_step (j := 13) (fn := 78) (t := 5) (v := .int .u8 39) (by omega) rfl O13 (by omega) B13 S13 X13 keyT13 rfl rfl
  clear O13 B13 S13 X13
  obtain ⟨w15, R15, O15, B15, S15, X15⟩ := thing_step (j := 14) (fn := 78) (t := 5) (v := .int .u8 96) (by omega) rfl O14 (by omega) B14 S14 X14 keyT14 rfl rfl
  clear O14 B14 S14 X14
  obtain ⟨w16, R16, O16, G16⟩ := O15.update (t := 73) keyText' Tryz.underlying73 (by unfold maxLen; omega) keyT15 (show fnElem (.func (.func 70) #[] #[]) = some (tdat w.heap.size 15, []) from rfl)
  have B16 : Below w.heap.size w w16 := B15.grown G16 B15.size (fun g hg => by cases hg; exact Nat.le_refl _)
  have H := Lib.hid (show ThingTbl w16 w.heap.size ∧ Below w.heap.size w w16 from ⟨⟨by rw [← ThingD_put]; exact O16, fun j hj => (X15 j hj).kept G16 (fun e => by injection e with e; omega)⟩, B16⟩)
  clear O15 B15 S15 X15 O16 G16 B16
  have CW := Lib.hid @thing_word
  have CB := Lib.hid @thing_bracket
  have CQ := Lib.hid @thing_quote
  go_enter Tryz.func64, Tryz.ntmps64
  go_wp2_with (first
    | (go_at_call 67; refine (CW.out _ _).mono ?_; rintro e u ⟨rfl, rfl⟩)
    | (go_at_call 68; refine (CB.out _ _).mono ?_; rintro e u ⟨rfl, rfl⟩)
    | (go_at_call 69; refine (CQ.out _ _).mono ?_; rintro e u ⟨rfl, rfl⟩))
  go_ret
  exact ⟨rfl, H.out.1, H.out.2⟩
set_option maxRecDepth 100000 in
theorem thing_Has (key : ByteArray) (hs : key.size ≤ 9223372036854775807) (w : World) :
    Calls Tryz.prog 57 #[.string key] w fun e w' => e = .returned (.bool (Thing.num key.data.toList).isSome) ∧ Below w.heap.size w w' := by
  have LK := Lib.hid (fun (w1 : World) (h : ThingTbl w1 w.heap.size) => h.look hs)
  generalize Thing.num key.data.toList = o at *
  go_enter Tryz.func57, Tryz.ntmps57
  go_wp2_with (go_at_call 64; refine (thing_kinds _).mono ?_; rintro e w1 ⟨rfl, ht, hb⟩; have hlk := LK.out w1 ht)
  go_ret
  exact ⟨rfl, hb⟩
end Go.Proofs.YtchpkeelnfmlbaaGreat
/-
  Names of registers, as package reg and the document tell them.
-/
namespace Go.Proofs.YtchpkeelnfmlbaaGreat
open Go.RowKit
open Reg
theorem reg_adds (n : Int) (w : World) : Calls Tryz.prog 55 #[.int .i64 n] w fun e w' => e = .returned (.bool (decide (65 ≤ n ∧ n ≤ 90))) ∧ w = w' := by
  by_cases h : 65 ≤ n
  · have d : decide (65 ≤ n) = true := decide_eq_true h
    have H : Hid (decide (65 ≤ n ∧ n ≤ 90) = decide (n ≤ 90)) := by show _ = _; simp [h]
    go_enter Tryz.func55, Tryz.ntmps55
    go_wp2
    go_ret
    exact ⟨by rw [H.out]; rfl, rfl⟩
  · have d : decide (65 ≤ n) = false := decide_eq_false h
    rw [show decide (65 ≤ n ∧ n ≤ 90) = false from decide_eq_false fun e => h e.1]
    go_enter Tryz.func55, Tryz.ntmps55
    go_wp2
    go_ret
    exact ⟨rfl, rfl⟩
theorem reg_Name_zero (n : Int) (h : n = 0) (w : World) : Calls Tryz.prog 44 #[.int .i64 n] w fun e w' => e = .returned (.int .i64 (34)) ∧ w = w' := by
  subst h
  go_enter Tryz.func44, Tryz.ntmps44
  go_wp2
  go_ret
  exact ⟨rfl, rfl⟩
theorem reg_Name_big (n : Int) (h : 65 ≤ n ∧ n ≤ 90) (w : World) : Calls Tryz.prog 44 #[.int .i64 n] w fun e w' => e = .returned (.int .i64 (n + 32)) ∧ w = w' := by
  have C := Lib.hid (reg_adds n)
  rw [show decide (65 ≤ n ∧ n ≤ 90) = true from decide_eq_true h] at C
  have b0 : (n == 0) = false := by simp; omega
  have b1 : (n == 34) = false := by simp; omega
  have b2 : (n == 45) = false := by simp; omega
  have z : IntKind.i64.wrap (n - 65) = n - 65 := by rw [IntKind.wrap_i64]; omega
  have z2 : IntKind.i64.wrap (n - 65 + 97) = n - 65 + 97 := by rw [IntKind.wrap_i64]; omega
  rw [show n + 32 = n - 65 + 97 by omega]
  go_enter Tryz.func44, Tryz.ntmps44
  go_wp2_with (go_at_call 55; refine (C.out _).mono ?_; rintro e w1 ⟨rfl, rfl⟩)
  go_ret
  exact ⟨rfl, rfl⟩
theorem reg_Name_a (n : Int) (h : n = 34) (w : World) : Calls Tryz.prog 44 #[.int .i64 n] w fun e w' => e = .returned (.int .i64 (n)) ∧ w = w' := by
  subst h
  have C := Lib.hid (reg_adds 34)
  go_enter Tryz.func44, Tryz.ntmps44
  go_wp2_with (go_at_call 55; refine (C.out _).mono ?_; rintro e w1 ⟨rfl, rfl⟩)
  go_ret
  exact ⟨rfl, rfl⟩
theorem reg_Name_b (n : Int) (h : n = 45) (w : World) : Calls Tryz.prog 44 #[.int .i64 n] w fun e w' => e = .returned (.int .i64 (n)) ∧ w = w' := by
  subst h
  have C := Lib.hid (reg_adds 45)
  go_enter Tryz.func44, Tryz.ntmps44
  go_wp2_with (go_at_call 55; refine (C.out _).mono ?_; rintro e w1 ⟨rfl, rfl⟩)
  go_ret
  exact ⟨rfl, rfl⟩
theorem reg_Name_d (n : Int) (h : 48 ≤ n ∧ n ≤ 57) (w : World) : Calls Tryz.prog 44 #[.int .i64 n] w fun e w' => e = .returned (.int .i64 (n)) ∧ w = w' := by
  have C := Lib.hid (reg_adds n)
  rw [show decide (65 ≤ n ∧ n ≤ 90) = false from decide_eq_false (by omega)] at C
  have b0 : (n == 0) = false := by simp; omega
  have b1 : (n == 34) = false := by simp; omega
  have b2 : (n == 45) = false := by simp; omega
  have d0 : decide (65 ≤ n) = false := decide_eq_false (by omega)
  have d1 : decide (48 ≤ n) = true := decide_eq_true (by omega)
  have d2 : decide (n ≤ 57) = true := decide_eq_true (by omega)
  clear h
  go_enter Tryz.func44, Tryz.ntmps44
  go_wp2_with (go_at_call 55; refine (C.out _).mono ?_; rintro e w1 ⟨rfl, rfl⟩)
  go_ret
  exact ⟨rfl, rfl⟩
theorem reg_Name_l (n : Int) (h : 97 ≤ n ∧ n ≤ 122) (w : World) : Calls Tryz.prog 44 #[.int .i64 n] w fun e w' => e = .returned (.int .i64 (n)) ∧ w = w' := by
  have C := Lib.hid (reg_adds n)
  rw [show decide (65 ≤ n ∧ n ≤ 90) = false from decide_eq_false (by omega)] at C
  have b0 : (n == 0) = false := by simp; omega
  have b1 : (n == 34) = false := by simp; omega
  have b2 : (n == 45) = false := by simp; omega
  have d0 : decide (65 ≤ n) = true := decide_eq_true (by omega)
  have d1 : decide (n ≤ 90) = false := decide_eq_false (by omega)
  have d2 : decide (48 ≤ n) = true := decide_eq_true (by omega)
  have d3 : decide (n ≤ 57) = false := decide_eq_false (by omega)
  have d4 : decide (97 ≤ n) = true := decide_eq_true (by omega)
  have d5 : decide (n ≤ 122) = true := decide_eq_true (by omega)
  clear h
  go_enter Tryz.func44, Tryz.ntmps44
  go_wp2_with (go_at_call 55; refine (C.out _).mono ?_; rintro e w1 ⟨rfl, rfl⟩)
  go_ret
  exact ⟨rfl, rfl⟩
theorem reg_Name_x1 (n : Int) (h : n < 48 ∧ n ≠ 0 ∧ n ≠ 34 ∧ n ≠ 45) (w : World) : Calls Tryz.prog 44 #[.int .i64 n] w fun e w' => e = .returned (.int .i64 (0)) ∧ w = w' := by
  have C := Lib.hid (reg_adds n)
  rw [show decide (65 ≤ n ∧ n ≤ 90) = false from decide_eq_false (by omega)] at C
  have b0 : (n == 0) = false := by simp; omega
  have b1 : (n == 34) = false := by simp; omega
  have b2 : (n == 45) = false := by simp; omega
  have d0 : decide (65 ≤ n) = false := decide_eq_false (by omega)
  have d1 : decide (48 ≤ n) = false := decide_eq_false (by omega)
  have d2 : decide (97 ≤ n) = false := decide_eq_false (by omega)
  clear h
  go_enter Tryz.func44, Tryz.ntmps44
  go_wp2_with (go_at_call 55; refine (C.out _).mono ?_; rintro e w1 ⟨rfl, rfl⟩)
  go_ret
  exact ⟨rfl, rfl⟩
theorem reg_Name_x2 (n : Int) (h : 57 < n ∧ n < 65) (w : World) : Calls Tryz.prog 44 #[.int .i64 n] w fun e w' => e = .returned (.int .i64 (0)) ∧ w = w' := by
  have C := Lib.hid (reg_adds n)
  rw [show decide (65 ≤ n ∧ n ≤ 90) = false from decide_eq_false (by omega)] at C
  have b0 : (n == 0) = false := by simp; omega
  have b1 : (n == 34) = false := by simp; omega
  have b2 : (n == 45) = false := by simp; omega
  have d0 : decide (65 ≤ n) = false := decide_eq_false (by omega)
  have d1 : decide (48 ≤ n) = true := decide_eq_true (by omega)
  have d2 : decide (n ≤ 57) = false := decide_eq_false (by omega)
  have d3 : decide (97 ≤ n) = false := decide_eq_false (by omega)
  clear h
  go_enter Tryz.func44, Tryz.ntmps44
  go_wp2_with (go_at_call 55; refine (C.out _).mono ?_; rintro e w1 ⟨rfl, rfl⟩)
  go_ret
  exact ⟨rfl, rfl⟩
theorem reg_Name_x3 (n : Int) (h : 90 < n ∧ n < 97) (w : World) : Calls Tryz.prog 44 #[.int .i64 n] w fun e w' => e = .returned (.int .i64 (0)) ∧ w = w' := by
  have C := Lib.hid (reg_adds n)
  rw [show decide (65 ≤ n ∧ n ≤ 90) = false from decide_eq_false (by omega)] at C
  have b0 : (n == 0) = false := by simp; omega
  have b1 : (n == 34) = false := by simp; omega
  have b2 : (n == 45) = false := by simp; omega
  have d0 : decide (65 ≤ n) = true := decide_eq_true (by omega)
  have d1 : decide (n ≤ 90) = false := decide_eq_false (by omega)
  have d2 : decide (48 ≤ n) = true := decide_eq_true (by omega)
  have d3 : decide (n ≤ 57) = false := decide_eq_false (by omega)
  have d4 : decide (97 ≤ n) = false := decide_eq_false (by omega)
  clear h
  go_enter Tryz.func44, Tryz.ntmps44
  go_wp2_with (go_at_call 55; refine (C.out _).mono ?_; rintro e w1 ⟨rfl, rfl⟩)
  go_ret
  exact ⟨rfl, rfl⟩
theorem reg_Name_x4 (n : Int) (h : 122 < n) (w : World) : Calls Tryz.prog 44 #[.int .i64 n] w fun e w' => e = .returned (.int .i64 (0)) ∧ w = w' := by
  have C := Lib.hid (reg_adds n)
  rw [show decide (65 ≤ n ∧ n ≤ 90) = false from decide_eq_false (by omega)] at C
  have b0 : (n == 0) = false := by simp; omega
  have b1 : (n == 34) = false := by simp; omega
  have b2 : (n == 45) = false := by simp; omega
  have d0 : decide (65 ≤ n) = true := decide_eq_true (by omega)
  have d1 : decide (n ≤ 90) = false := decide_eq_false (by omega)
  have d2 : decide (48 ≤ n) = true := decide_eq_true (by omega)
  have d3 : decide (n ≤ 57) = false := decide_eq_false (by omega)
  have d4 : decide (97 ≤ n) = true := decide_eq_true (by omega)
  have d5 : decide (n ≤ 122) = false := decide_eq_false (by omega)
  clear h
  go_enter Tryz.func44, Tryz.ntmps44
  go_wp2_with (go_at_call 55; refine (C.out _).mono ?_; rintro e w1 ⟨rfl, rfl⟩)
  go_ret
  exact ⟨rfl, rfl⟩
theorem reg_Name (n : Int) (w : World) : Calls Tryz.prog 44 #[.int .i64 n] w fun e w' => e = .returned (.int .i64 (nameN n)) ∧ w = w' := by
  unfold nameN
  by_cases h0 : n = 0
  · rw [if_pos h0]; exact reg_Name_zero n h0 w
  rw [if_neg h0]
  by_cases h1 : 65 ≤ n ∧ n ≤ 90
  · rw [if_pos h1]; exact reg_Name_big n h1 w
  rw [if_neg h1]
  by_cases h2 : IsName n
  · rw [if_pos h2]
    unfold IsName at h2
    rcases h2 with h2 | h2 | h2 | h2
    · exact reg_Name_a n h2 w
    · exact reg_Name_b n h2 w
    · exact reg_Name_d n h2 w
    · exact reg_Name_l n h2 w
  · rw [if_neg h2]
    unfold IsName at h2
    by_cases c1 : n < 48
    · exact reg_Name_x1 n (by omega) w
    · by_cases c2 : n < 65
      · exact reg_Name_x2 n (by omega) w
      · by_cases c3 : n < 97
        · exact reg_Name_x3 n (by omega) w
        · exact reg_Name_x4 n (by omega) w
/-- The document's row of all names, as a text. -/
def namesT : ByteArray := ⟨#[34, 45, 48, 49, 50, 51, 52, 53, 54, 55, 56, 57, 97, 98, 99, 100, 101, 102, 103, 104, 105, 106, 107, 108, 109, 110, 111, 112, 113, 114, 115, 116, 117, 118, 119, 120, 121, 122]⟩
theorem names_size : namesT.size = 38 := rfl
theorem names_get : ∀ j, (h : j < 38) → ((namesT.data[j]'h).toNat : Int) = nm j := by decide
end Go.Proofs.YtchpkeelnfmlbaaGreat
/-
  A key's kind, on both sides.
-/
namespace Go.Proofs.YtchpkeelnfmlbaaGreat
open Go.RowKit
namespace Span
theorem key_test (k : ByteArray) (l : List UInt8) : (k.toList == l) = decide (k.data.toList = l) := by
  rw [show k.toList = k.data.toList from bs_tl k.data.toList, Bool.eq_iff_iff]; simp
theorem key_is {k : ByteArray} {l : List UInt8} (h : (k.toList == l) = true) : k.data.toList = l := by rw [key_test] at h; exact of_decide_eq_true h
theorem key_not {k : ByteArray} {l : List UInt8} (h : (k.toList == l) = false) : k.data.toList ≠ l := by rw [key_test] at h; exact of_decide_eq_false h
theorem kind_none {k : List UInt8} (h1 : k ∉ short) (h2 : k ∉ long) (h3 : k ∉ whole) : kind k = 0 := by rw [kind, if_neg h1, if_neg h2, if_neg h3]
end Span

set_option maxRecDepth 100000 in
theorem span_Kind_0 (key : ByteArray) (h0 : (key.toList == [104]) = true) (w : World) :
    Calls Tryz.prog 45 #[.string key] w fun e w' => e = .returned (.int .i64 1) ∧ w = w' := by
  go_enter Tryz.func45, Tryz.ntmps45
  go_wp2
  go_ret
  exact ⟨rfl, rfl⟩
set_option maxRecDepth 100000 in
theorem span_Kind_1 (key : ByteArray) (h0 : (key.toList == [104]) = false) (h1 : (key.toList == [108]) = true) (w : World) :
    Calls Tryz.prog 45 #[.string key] w fun e w' => e = .returned (.int .i64 1) ∧ w = w' := by
  go_enter Tryz.func45, Tryz.ntmps45
  go_wp2
  go_ret
  exact ⟨rfl, rfl⟩
set_option maxRecDepth 100000 in
theorem span_Kind_2 (key : ByteArray) (h0 : (key.toList == [104]) = false) (h1 : (key.toList == [108]) = false) (h2 : (key.toList == [48]) = true) (w : World) :
    Calls Tryz.prog 45 #[.string key] w fun e w' => e = .returned (.int .i64 1) ∧ w = w' := by
  go_enter Tryz.func45, Tryz.ntmps45
  go_wp2
  go_ret
  exact ⟨rfl, rfl⟩
set_option maxRecDepth 100000 in
theorem span_Kind_3 (key : ByteArray) (h0 : (key.toList == [104]) = false) (h1 : (key.toList == [108]) = false) (h2 : (key.toList == [48]) = false) (h3 : (key.toList == [94]) = true) (w : World) :
    Calls Tryz.prog 45 #[.string key] w fun e w' => e = .returned (.int .i64 1) ∧ w = w' := by
  go_enter Tryz.func45, Tryz.ntmps45
  go_wp2
  go_ret
  exact ⟨rfl, rfl⟩
set_option maxRecDepth 100000 in
theorem span_Kind_4 (key : ByteArray) (h0 : (key.toList == [104]) = false) (h1 : (key.toList == [108]) = false) (h2 : (key.toList == [48]) = false) (h3 : (key.toList == [94]) = false) (h4 : (key.toList == [36]) = true) (w : World) :
    Calls Tryz.prog 45 #[.string key] w fun e w' => e = .returned (.int .i64 1) ∧ w = w' := by
  go_enter Tryz.func45, Tryz.ntmps45
  go_wp2
  go_ret
  exact ⟨rfl, rfl⟩
set_option maxRecDepth 100000 in
theorem span_Kind_5 (key : ByteArray) (h0 : (key.toList == [104]) = false) (h1 : (key.toList == [108]) = false) (h2 : (key.toList == [48]) = false) (h3 : (key.toList == [94]) = false) (h4 : (key.toList == [36]) = false) (h5 : (key.toList == [124]) = true) (w : World) :
    Calls Tryz.prog 45 #[.string key] w fun e w' => e = .returned (.int .i64 1) ∧ w = w' := by
  go_enter Tryz.func45, Tryz.ntmps45
  go_wp2
  go_ret
  exact ⟨rfl, rfl⟩
set_option maxRecDepth 100000 in
theorem span_Kind_6 (key : ByteArray) (h0 : (key.toList == [104]) = false) (h1 : (key.toList == [108]) = false) (h2 : (key.toList == [48]) = false) (h3 : (key.toList == [94]) = false) (h4 : (key.toList == [36]) = false) (h5 : (key.toList == [124]) = false) (h6 : (key.toList == [119]) = true) (w : World) :
    Calls Tryz.prog 45 #[.string key] w fun e w' => e = .returned (.int .i64 1) ∧ w = w' := by
  go_enter Tryz.func45, Tryz.ntmps45
  go_wp2
  go_ret
  exact ⟨rfl, rfl⟩
set_option maxRecDepth 100000 in
theorem span_Kind_7 (key : ByteArray) (h0 : (key.toList == [104]) = false) (h1 : (key.toList == [108]) = false) (h2 : (key.toList == [48]) = false) (h3 : (key.toList == [94]) = false) (h4 : (key.toList == [36]) = false) (h5 : (key.toList == [124]) = false) (h6 : (key.toList == [119]) = false) (h7 : (key.toList == [98]) = true) (w : World) :
    Calls Tryz.prog 45 #[.string key] w fun e w' => e = .returned (.int .i64 1) ∧ w = w' := by
  go_enter Tryz.func45, Tryz.ntmps45
  go_wp2
  go_ret
  exact ⟨rfl, rfl⟩
set_option maxRecDepth 100000 in
theorem span_Kind_8 (key : ByteArray) (h0 : (key.toList == [104]) = false) (h1 : (key.toList == [108]) = false) (h2 : (key.toList == [48]) = false) (h3 : (key.toList == [94]) = false) (h4 : (key.toList == [36]) = false) (h5 : (key.toList == [124]) = false) (h6 : (key.toList == [119]) = false) (h7 : (key.toList == [98]) = false) (h8 : (key.toList == [87]) = true) (w : World) :
    Calls Tryz.prog 45 #[.string key] w fun e w' => e = .returned (.int .i64 1) ∧ w = w' := by
  go_enter Tryz.func45, Tryz.ntmps45
  go_wp2
  go_ret
  exact ⟨rfl, rfl⟩
set_option maxRecDepth 100000 in
theorem span_Kind_9 (key : ByteArray) (h0 : (key.toList == [104]) = false) (h1 : (key.toList == [108]) = false) (h2 : (key.toList == [48]) = false) (h3 : (key.toList == [94]) = false) (h4 : (key.toList == [36]) = false) (h5 : (key.toList == [124]) = false) (h6 : (key.toList == [119]) = false) (h7 : (key.toList == [98]) = false) (h8 : (key.toList == [87]) = false) (h9 : (key.toList == [66]) = true) (w : World) :
    Calls Tryz.prog 45 #[.string key] w fun e w' => e = .returned (.int .i64 1) ∧ w = w' := by
  go_enter Tryz.func45, Tryz.ntmps45
  go_wp2
  go_ret
  exact ⟨rfl, rfl⟩
set_option maxRecDepth 100000 in
theorem span_Kind_10 (key : ByteArray) (h0 : (key.toList == [104]) = false) (h1 : (key.toList == [108]) = false) (h2 : (key.toList == [48]) = false) (h3 : (key.toList == [94]) = false) (h4 : (key.toList == [36]) = false) (h5 : (key.toList == [124]) = false) (h6 : (key.toList == [119]) = false) (h7 : (key.toList == [98]) = false) (h8 : (key.toList == [87]) = false) (h9 : (key.toList == [66]) = false) (h10 : (key.toList == [123]) = true) (w : World) :
    Calls Tryz.prog 45 #[.string key] w fun e w' => e = .returned (.int .i64 1) ∧ w = w' := by
  go_enter Tryz.func45, Tryz.ntmps45
  go_wp2
  go_ret
  exact ⟨rfl, rfl⟩
set_option maxRecDepth 100000 in
theorem span_Kind_11 (key : ByteArray) (h0 : (key.toList == [104]) = false) (h1 : (key.toList == [108]) = false) (h2 : (key.toList == [48]) = false) (h3 : (key.toList == [94]) = false) (h4 : (key.toList == [36]) = false) (h5 : (key.toList == [124]) = false) (h6 : (key.toList == [119]) = false) (h7 : (key.toList == [98]) = false) (h8 : (key.toList == [87]) = false) (h9 : (key.toList == [66]) = false) (h10 : (key.toList == [123]) = false) (h11 : (key.toList == [125]) = true) (w : World) :
    Calls Tryz.prog 45 #[.string key] w fun e w' => e = .returned (.int .i64 1) ∧ w = w' := by
  go_enter Tryz.func45, Tryz.ntmps45
  go_wp2
  go_ret
  exact ⟨rfl, rfl⟩
set_option maxRecDepth 100000 in
theorem span_Kind_12 (key : ByteArray) (h0 : (key.toList == [104]) = false) (h1 : (key.toList == [108]) = false) (h2 : (key.toList == [48]) = false) (h3 : (key.toList == [94]) = false) (h4 : (key.toList == [36]) = false) (h5 : (key.toList == [124]) = false) (h6 : (key.toList == [119]) = false) (h7 : (key.toList == [98]) = false) (h8 : (key.toList == [87]) = false) (h9 : (key.toList == [66]) = false) (h10 : (key.toList == [123]) = false) (h11 : (key.toList == [125]) = false) (h12 : (key.toList == [70]) = true) (w : World) :
    Calls Tryz.prog 45 #[.string key] w fun e w' => e = .returned (.int .i64 1) ∧ w = w' := by
  go_enter Tryz.func45, Tryz.ntmps45
  go_wp2
  go_ret
  exact ⟨rfl, rfl⟩
set_option maxRecDepth 100000 in
theorem span_Kind_13 (key : ByteArray) (h0 : (key.toList == [104]) = false) (h1 : (key.toList == [108]) = false) (h2 : (key.toList == [48]) = false) (h3 : (key.toList == [94]) = false) (h4 : (key.toList == [36]) = false) (h5 : (key.toList == [124]) = false) (h6 : (key.toList == [119]) = false) (h7 : (key.toList == [98]) = false) (h8 : (key.toList == [87]) = false) (h9 : (key.toList == [66]) = false) (h10 : (key.toList == [123]) = false) (h11 : (key.toList == [125]) = false) (h12 : (key.toList == [70]) = false) (h13 : (key.toList == [84]) = true) (w : World) :
    Calls Tryz.prog 45 #[.string key] w fun e w' => e = .returned (.int .i64 1) ∧ w = w' := by
  go_enter Tryz.func45, Tryz.ntmps45
  go_wp2
  go_ret
  exact ⟨rfl, rfl⟩
set_option maxRecDepth 100000 in
theorem span_Kind_14 (key : ByteArray) (h0 : (key.toList == [104]) = false) (h1 : (key.toList == [108]) = false) (h2 : (key.toList == [48]) = false) (h3 : (key.toList == [94]) = false) (h4 : (key.toList == [36]) = false) (h5 : (key.toList == [124]) = false) (h6 : (key.toList == [119]) = false) (h7 : (key.toList == [98]) = false) (h8 : (key.toList == [87]) = false) (h9 : (key.toList == [66]) = false) (h10 : (key.toList == [123]) = false) (h11 : (key.toList == [125]) = false) (h12 : (key.toList == [70]) = false) (h13 : (key.toList == [84]) = false) (h14 : (key.toList == [110]) = true) (w : World) :
    Calls Tryz.prog 45 #[.string key] w fun e w' => e = .returned (.int .i64 1) ∧ w = w' := by
  go_enter Tryz.func45, Tryz.ntmps45
  go_wp2
  go_ret
  exact ⟨rfl, rfl⟩
set_option maxRecDepth 100000 in
theorem span_Kind_15 (key : ByteArray) (h0 : (key.toList == [104]) = false) (h1 : (key.toList == [108]) = false) (h2 : (key.toList == [48]) = false) (h3 : (key.toList == [94]) = false) (h4 : (key.toList == [36]) = false) (h5 : (key.toList == [124]) = false) (h6 : (key.toList == [119]) = false) (h7 : (key.toList == [98]) = false) (h8 : (key.toList == [87]) = false) (h9 : (key.toList == [66]) = false) (h10 : (key.toList == [123]) = false) (h11 : (key.toList == [125]) = false) (h12 : (key.toList == [70]) = false) (h13 : (key.toList == [84]) = false) (h14 : (key.toList == [110]) = false) (h15 : (key.toList == [78]) = true) (w : World) :
    Calls Tryz.prog 45 #[.string key] w fun e w' => e = .returned (.int .i64 1) ∧ w = w' := by
  go_enter Tryz.func45, Tryz.ntmps45
  go_wp2
  go_ret
  exact ⟨rfl, rfl⟩
set_option maxRecDepth 100000 in
theorem span_Kind_16 (key : ByteArray) (h0 : (key.toList == [104]) = false) (h1 : (key.toList == [108]) = false) (h2 : (key.toList == [48]) = false) (h3 : (key.toList == [94]) = false) (h4 : (key.toList == [36]) = false) (h5 : (key.toList == [124]) = false) (h6 : (key.toList == [119]) = false) (h7 : (key.toList == [98]) = false) (h8 : (key.toList == [87]) = false) (h9 : (key.toList == [66]) = false) (h10 : (key.toList == [123]) = false) (h11 : (key.toList == [125]) = false) (h12 : (key.toList == [70]) = false) (h13 : (key.toList == [84]) = false) (h14 : (key.toList == [110]) = false) (h15 : (key.toList == [78]) = false) (h16 : (key.toList == [96]) = true) (w : World) :
    Calls Tryz.prog 45 #[.string key] w fun e w' => e = .returned (.int .i64 1) ∧ w = w' := by
  go_enter Tryz.func45, Tryz.ntmps45
  go_wp2
  go_ret
  exact ⟨rfl, rfl⟩
set_option maxRecDepth 100000 in
theorem span_Kind_17 (key : ByteArray) (h0 : (key.toList == [104]) = false) (h1 : (key.toList == [108]) = false) (h2 : (key.toList == [48]) = false) (h3 : (key.toList == [94]) = false) (h4 : (key.toList == [36]) = false) (h5 : (key.toList == [124]) = false) (h6 : (key.toList == [119]) = false) (h7 : (key.toList == [98]) = false) (h8 : (key.toList == [87]) = false) (h9 : (key.toList == [66]) = false) (h10 : (key.toList == [123]) = false) (h11 : (key.toList == [125]) = false) (h12 : (key.toList == [70]) = false) (h13 : (key.toList == [84]) = false) (h14 : (key.toList == [110]) = false) (h15 : (key.toList == [78]) = false) (h16 : (key.toList == [96]) = false) (h17 : (key.toList == [101]) = true) (w : World) :
    Calls Tryz.prog 45 #[.string key] w fun e w' => e = .returned (.int .i64 2) ∧ w = w' := by
  go_enter Tryz.func45, Tryz.ntmps45
  go_wp2
  go_ret
  exact ⟨rfl, rfl⟩
set_option maxRecDepth 100000 in
theorem span_Kind_18 (key : ByteArray) (h0 : (key.toList == [104]) = false) (h1 : (key.toList == [108]) = false) (h2 : (key.toList == [48]) = false) (h3 : (key.toList == [94]) = false) (h4 : (key.toList == [36]) = false) (h5 : (key.toList == [124]) = false) (h6 : (key.toList == [119]) = false) (h7 : (key.toList == [98]) = false) (h8 : (key.toList == [87]) = false) (h9 : (key.toList == [66]) = false) (h10 : (key.toList == [123]) = false) (h11 : (key.toList == [125]) = false) (h12 : (key.toList == [70]) = false) (h13 : (key.toList == [84]) = false) (h14 : (key.toList == [110]) = false) (h15 : (key.toList == [78]) = false) (h16 : (key.toList == [96]) = false) (h17 : (key.toList == [101]) = false) (h18 : (key.toList == [69]) = true) (w : World) :
    Calls Tryz.prog 45 #[.string key] w fun e w' => e = .returned (.int .i64 2) ∧ w = w' := by
  go_enter Tryz.func45, Tryz.ntmps45
  go_wp2
  go_ret
  exact ⟨rfl, rfl⟩
set_option maxRecDepth 100000 in
theorem span_Kind_19 (key : ByteArray) (h0 : (key.toList == [104]) = false) (h1 : (key.toList == [108]) = false) (h2 : (key.toList == [48]) = false) (h3 : (key.toList == [94]) = false) (h4 : (key.toList == [36]) = false) (h5 : (key.toList == [124]) = false) (h6 : (key.toList == [119]) = false) (h7 : (key.toList == [98]) = false) (h8 : (key.toList == [87]) = false) (h9 : (key.toList == [66]) = false) (h10 : (key.toList == [123]) = false) (h11 : (key.toList == [125]) = false) (h12 : (key.toList == [70]) = false) (h13 : (key.toList == [84]) = false) (h14 : (key.toList == [110]) = false) (h15 : (key.toList == [78]) = false) (h16 : (key.toList == [96]) = false) (h17 : (key.toList == [101]) = false) (h18 : (key.toList == [69]) = false) (h19 : (key.toList == [102]) = true) (w : World) :
    Calls Tryz.prog 45 #[.string key] w fun e w' => e = .returned (.int .i64 2) ∧ w = w' := by
  go_enter Tryz.func45, Tryz.ntmps45
  go_wp2
  go_ret
  exact ⟨rfl, rfl⟩
set_option maxRecDepth 100000 in
theorem span_Kind_20 (key : ByteArray) (h0 : (key.toList == [104]) = false) (h1 : (key.toList == [108]) = false) (h2 : (key.toList == [48]) = false) (h3 : (key.toList == [94]) = false) (h4 : (key.toList == [36]) = false) (h5 : (key.toList == [124]) = false) (h6 : (key.toList == [119]) = false) (h7 : (key.toList == [98]) = false) (h8 : (key.toList == [87]) = false) (h9 : (key.toList == [66]) = false) (h10 : (key.toList == [123]) = false) (h11 : (key.toList == [125]) = false) (h12 : (key.toList == [70]) = false) (h13 : (key.toList == [84]) = false) (h14 : (key.toList == [110]) = false) (h15 : (key.toList == [78]) = false) (h16 : (key.toList == [96]) = false) (h17 : (key.toList == [101]) = false) (h18 : (key.toList == [69]) = false) (h19 : (key.toList == [102]) = false) (h20 : (key.toList == [116]) = true) (w : World) :
    Calls Tryz.prog 45 #[.string key] w fun e w' => e = .returned (.int .i64 2) ∧ w = w' := by
  go_enter Tryz.func45, Tryz.ntmps45
  go_wp2
  go_ret
  exact ⟨rfl, rfl⟩
set_option maxRecDepth 100000 in
theorem span_Kind_21 (key : ByteArray) (h0 : (key.toList == [104]) = false) (h1 : (key.toList == [108]) = false) (h2 : (key.toList == [48]) = false) (h3 : (key.toList == [94]) = false) (h4 : (key.toList == [36]) = false) (h5 : (key.toList == [124]) = false) (h6 : (key.toList == [119]) = false) (h7 : (key.toList == [98]) = false) (h8 : (key.toList == [87]) = false) (h9 : (key.toList == [66]) = false) (h10 : (key.toList == [123]) = false) (h11 : (key.toList == [125]) = false) (h12 : (key.toList == [70]) = false) (h13 : (key.toList == [84]) = false) (h14 : (key.toList == [110]) = false) (h15 : (key.toList == [78]) = false) (h16 : (key.toList == [96]) = false) (h17 : (key.toList == [101]) = false) (h18 : (key.toList == [69]) = false) (h19 : (key.toList == [102]) = false) (h20 : (key.toList == [116]) = false) (h21 : (key.toList == [37]) = true) (w : World) :
    Calls Tryz.prog 45 #[.string key] w fun e w' => e = .returned (.int .i64 2) ∧ w = w' := by
  go_enter Tryz.func45, Tryz.ntmps45
  go_wp2
  go_ret
  exact ⟨rfl, rfl⟩
set_option maxRecDepth 100000 in
theorem span_Kind_22 (key : ByteArray) (h0 : (key.toList == [104]) = false) (h1 : (key.toList == [108]) = false) (h2 : (key.toList == [48]) = false) (h3 : (key.toList == [94]) = false) (h4 : (key.toList == [36]) = false) (h5 : (key.toList == [124]) = false) (h6 : (key.toList == [119]) = false) (h7 : (key.toList == [98]) = false) (h8 : (key.toList == [87]) = false) (h9 : (key.toList == [66]) = false) (h10 : (key.toList == [123]) = false) (h11 : (key.toList == [125]) = false) (h12 : (key.toList == [70]) = false) (h13 : (key.toList == [84]) = false) (h14 : (key.toList == [110]) = false) (h15 : (key.toList == [78]) = false) (h16 : (key.toList == [96]) = false) (h17 : (key.toList == [101]) = false) (h18 : (key.toList == [69]) = false) (h19 : (key.toList == [102]) = false) (h20 : (key.toList == [116]) = false) (h21 : (key.toList == [37]) = false) (h22 : (key.toList == [106]) = true) (w : World) :
    Calls Tryz.prog 45 #[.string key] w fun e w' => e = .returned (.int .i64 3) ∧ w = w' := by
  go_enter Tryz.func45, Tryz.ntmps45
  go_wp2
  go_ret
  exact ⟨rfl, rfl⟩
set_option maxRecDepth 100000 in
theorem span_Kind_23 (key : ByteArray) (h0 : (key.toList == [104]) = false) (h1 : (key.toList == [108]) = false) (h2 : (key.toList == [48]) = false) (h3 : (key.toList == [94]) = false) (h4 : (key.toList == [36]) = false) (h5 : (key.toList == [124]) = false) (h6 : (key.toList == [119]) = false) (h7 : (key.toList == [98]) = false) (h8 : (key.toList == [87]) = false) (h9 : (key.toList == [66]) = false) (h10 : (key.toList == [123]) = false) (h11 : (key.toList == [125]) = false) (h12 : (key.toList == [70]) = false) (h13 : (key.toList == [84]) = false) (h14 : (key.toList == [110]) = false) (h15 : (key.toList == [78]) = false) (h16 : (key.toList == [96]) = false) (h17 : (key.toList == [101]) = false) (h18 : (key.toList == [69]) = false) (h19 : (key.toList == [102]) = false) (h20 : (key.toList == [116]) = false) (h21 : (key.toList == [37]) = false) (h22 : (key.toList == [106]) = false) (h23 : (key.toList == [107]) = true) (w : World) :
    Calls Tryz.prog 45 #[.string key] w fun e w' => e = .returned (.int .i64 3) ∧ w = w' := by
  go_enter Tryz.func45, Tryz.ntmps45
  go_wp2
  go_ret
  exact ⟨rfl, rfl⟩
set_option maxRecDepth 100000 in
theorem span_Kind_24 (key : ByteArray) (h0 : (key.toList == [104]) = false) (h1 : (key.toList == [108]) = false) (h2 : (key.toList == [48]) = false) (h3 : (key.toList == [94]) = false) (h4 : (key.toList == [36]) = false) (h5 : (key.toList == [124]) = false) (h6 : (key.toList == [119]) = false) (h7 : (key.toList == [98]) = false) (h8 : (key.toList == [87]) = false) (h9 : (key.toList == [66]) = false) (h10 : (key.toList == [123]) = false) (h11 : (key.toList == [125]) = false) (h12 : (key.toList == [70]) = false) (h13 : (key.toList == [84]) = false) (h14 : (key.toList == [110]) = false) (h15 : (key.toList == [78]) = false) (h16 : (key.toList == [96]) = false) (h17 : (key.toList == [101]) = false) (h18 : (key.toList == [69]) = false) (h19 : (key.toList == [102]) = false) (h20 : (key.toList == [116]) = false) (h21 : (key.toList == [37]) = false) (h22 : (key.toList == [106]) = false) (h23 : (key.toList == [107]) = false) (h24 : (key.toList == [103, 103]) = true) (w : World) :
    Calls Tryz.prog 45 #[.string key] w fun e w' => e = .returned (.int .i64 3) ∧ w = w' := by
  go_enter Tryz.func45, Tryz.ntmps45
  go_wp2
  go_ret
  exact ⟨rfl, rfl⟩
set_option maxRecDepth 100000 in
theorem span_Kind_25 (key : ByteArray) (h0 : (key.toList == [104]) = false) (h1 : (key.toList == [108]) = false) (h2 : (key.toList == [48]) = false) (h3 : (key.toList == [94]) = false) (h4 : (key.toList == [36]) = false) (h5 : (key.toList == [124]) = false) (h6 : (key.toList == [119]) = false) (h7 : (key.toList == [98]) = false) (h8 : (key.toList == [87]) = false) (h9 : (key.toList == [66]) = false) (h10 : (key.toList == [123]) = false) (h11 : (key.toList == [125]) = false) (h12 : (key.toList == [70]) = false) (h13 : (key.toList == [84]) = false) (h14 : (key.toList == [110]) = false) (h15 : (key.toList == [78]) = false) (h16 : (key.toList == [96]) = false) (h17 : (key.toList == [101]) = false) (h18 : (key.toList == [69]) = false) (h19 : (key.toList == [102]) = false) (h20 : (key.toList == [116]) = false) (h21 : (key.toList == [37]) = false) (h22 : (key.toList == [106]) = false) (h23 : (key.toList == [107]) = false) (h24 : (key.toList == [103, 103]) = false) (h25 : (key.toList == [71]) = true) (w : World) :
    Calls Tryz.prog 45 #[.string key] w fun e w' => e = .returned (.int .i64 3) ∧ w = w' := by
  go_enter Tryz.func45, Tryz.ntmps45
  go_wp2
  go_ret
  exact ⟨rfl, rfl⟩
set_option maxRecDepth 100000 in
theorem span_Kind_26 (key : ByteArray) (h0 : (key.toList == [104]) = false) (h1 : (key.toList == [108]) = false) (h2 : (key.toList == [48]) = false) (h3 : (key.toList == [94]) = false) (h4 : (key.toList == [36]) = false) (h5 : (key.toList == [124]) = false) (h6 : (key.toList == [119]) = false) (h7 : (key.toList == [98]) = false) (h8 : (key.toList == [87]) = false) (h9 : (key.toList == [66]) = false) (h10 : (key.toList == [123]) = false) (h11 : (key.toList == [125]) = false) (h12 : (key.toList == [70]) = false) (h13 : (key.toList == [84]) = false) (h14 : (key.toList == [110]) = false) (h15 : (key.toList == [78]) = false) (h16 : (key.toList == [96]) = false) (h17 : (key.toList == [101]) = false) (h18 : (key.toList == [69]) = false) (h19 : (key.toList == [102]) = false) (h20 : (key.toList == [116]) = false) (h21 : (key.toList == [37]) = false) (h22 : (key.toList == [106]) = false) (h23 : (key.toList == [107]) = false) (h24 : (key.toList == [103, 103]) = false) (h25 : (key.toList == [71]) = false) (h26 : (key.toList == [39]) = true) (w : World) :
    Calls Tryz.prog 45 #[.string key] w fun e w' => e = .returned (.int .i64 3) ∧ w = w' := by
  go_enter Tryz.func45, Tryz.ntmps45
  go_wp2
  go_ret
  exact ⟨rfl, rfl⟩
set_option maxRecDepth 100000 in
theorem span_Kind_27 (key : ByteArray) (h0 : (key.toList == [104]) = false) (h1 : (key.toList == [108]) = false) (h2 : (key.toList == [48]) = false) (h3 : (key.toList == [94]) = false) (h4 : (key.toList == [36]) = false) (h5 : (key.toList == [124]) = false) (h6 : (key.toList == [119]) = false) (h7 : (key.toList == [98]) = false) (h8 : (key.toList == [87]) = false) (h9 : (key.toList == [66]) = false) (h10 : (key.toList == [123]) = false) (h11 : (key.toList == [125]) = false) (h12 : (key.toList == [70]) = false) (h13 : (key.toList == [84]) = false) (h14 : (key.toList == [110]) = false) (h15 : (key.toList == [78]) = false) (h16 : (key.toList == [96]) = false) (h17 : (key.toList == [101]) = false) (h18 : (key.toList == [69]) = false) (h19 : (key.toList == [102]) = false) (h20 : (key.toList == [116]) = false) (h21 : (key.toList == [37]) = false) (h22 : (key.toList == [106]) = false) (h23 : (key.toList == [107]) = false) (h24 : (key.toList == [103, 103]) = false) (h25 : (key.toList == [71]) = false) (h26 : (key.toList == [39]) = false) (w : World) :
    Calls Tryz.prog 45 #[.string key] w fun e w' => e = .returned (.int .i64 0) ∧ w = w' := by
  go_enter Tryz.func45, Tryz.ntmps45
  go_wp2
  go_ret
  exact ⟨rfl, rfl⟩
theorem span_Kind (key : ByteArray) (w : World) :
    Calls Tryz.prog 45 #[.string key] w fun e w' => e = .returned (.int .i64 (Span.kind key.data.toList : Nat)) ∧ w = w' := by
  rcases Bool.eq_false_or_eq_true (key.toList == [104]) with h0 | h0
  · rw [show Span.kind key.data.toList = 1 by rw [Span.key_is h0]; decide]; exact span_Kind_0 key h0 w
  rcases Bool.eq_false_or_eq_true (key.toList == [108]) with h1 | h1
  · rw [show Span.kind key.data.toList = 1 by rw [Span.key_is h1]; decide]; exact span_Kind_1 key h0 h1 w
  rcases Bool.eq_false_or_eq_true (key.toList == [48]) with h2 | h2
  · rw [show Span.kind key.data.toList = 1 by rw [Span.key_is h2]; decide]; exact span_Kind_2 key h0 h1 h2 w
  rcases Bool.eq_false_or_eq_true (key.toList == [94]) with h3 | h3
  · rw [show Span.kind key.data.toList = 1 by rw [Span.key_is h3]; decide]; exact span_Kind_3 key h0 h1 h2 h3 w
  rcases Bool.eq_false_or_eq_true (key.toList == [36]) with h4 | h4
  · rw [show Span.kind key.data.toList = 1 by rw [Span.key_is h4]; decide]; exact span_Kind_4 key h0 h1 h2 h3 h4 w
  rcases Bool.eq_false_or_eq_true (key.toList == [124]) with h5 | h5
  · rw [show Span.kind key.data.toList = 1 by rw [Span.key_is h5]; decide]; exact span_Kind_5 key h0 h1 h2 h3 h4 h5 w
  rcases Bool.eq_false_or_eq_true (key.toList == [119]) with h6 | h6
  · rw [show Span.kind key.data.toList = 1 by rw [Span.key_is h6]; decide]; exact span_Kind_6 key h0 h1 h2 h3 h4 h5 h6 w
  rcases Bool.eq_false_or_eq_true (key.toList == [98]) with h7 | h7
  · rw [show Span.kind key.data.toList = 1 by rw [Span.key_is h7]; decide]; exact span_Kind_7 key h0 h1 h2 h3 h4 h5 h6 h7 w
  rcases Bool.eq_false_or_eq_true (key.toList == [87]) with h8 | h8
  · rw [show Span.kind key.data.toList = 1 by rw [Span.key_is h8]; decide]; exact span_Kind_8 key h0 h1 h2 h3 h4 h5 h6 h7 h8 w
  rcases Bool.eq_false_or_eq_true (key.toList == [66]) with h9 | h9
  · rw [show Span.kind key.data.toList = 1 by rw [Span.key_is h9]; decide]; exact span_Kind_9 key h0 h1 h2 h3 h4 h5 h6 h7 h8 h9 w
  rcases Bool.eq_false_or_eq_true (key.toList == [123]) with h10 | h10
  · rw [show Span.kind key.data.toList = 1 by rw [Span.key_is h10]; decide]; exact span_Kind_10 key h0 h1 h2 h3 h4 h5 h6 h7 h8 h9 h10 w
  rcases Bool.eq_false_or_eq_true (key.toList == [125]) with h11 | h11
  · rw [show Span.kind key.data.toList = 1 by rw [Span.key_is h11]; decide]; exact span_Kind_11 key h0 h1 h2 h3 h4 h5 h6 h7 h8 h9 h10 h11 w
  rcases Bool.eq_false_or_eq_true (key.toList == [70]) with h12 | h12
  · rw [show Span.kind key.data.toList = 1 by rw [Span.key_is h12]; decide]; exact span_Kind_12 key h0 h1 h2 h3 h4 h5 h6 h7 h8 h9 h10 h11 h12 w
  rcases Bool.eq_false_or_eq_true (key.toList == [84]) with h13 | h13
  · rw [show Span.kind key.data.toList = 1 by rw [Span.key_is h13]; decide]; exact span_Kind_13 key h0 h1 h2 h3 h4 h5 h6 h7 h8 h9 h10 h11 h12 h13 w
  rcases Bool.eq_false_or_eq_true (key.toList == [110]) with h14 | h14
  · rw [show Span.kind key.data.toList = 1 by rw [Span.key_is h14]; decide]; exact span_Kind_14 key h0 h1 h2 h3 h4 h5 h6 h7 h8 h9 h10 h11 h12 h13 h14 w
  rcases Bool.eq_false_or_eq_true (key.toList == [78]) with h15 | h15
  · rw [show Span.kind key.data.toList = 1 by rw [Span.key_is h15]; decide]; exact span_Kind_15 key h0 h1 h2 h3 h4 h5 h6 h7 h8 h9 h10 h11 h12 h13 h14 h15 w
  rcases Bool.eq_false_or_eq_true (key.toList == [96]) with h16 | h16
  · rw [show Span.kind key.data.toList = 1 by rw [Span.key_is h16]; decide]; exact span_Kind_16 key h0 h1 h2 h3 h4 h5 h6 h7 h8 h9 h10 h11 h12 h13 h14 h15 h16 w
  rcases Bool.eq_false_or_eq_true (key.toList == [101]) with h17 | h17
  · rw [show Span.kind key.data.toList = 2 by rw [Span.key_is h17]; decide]; exact span_Kind_17 key h0 h1 h2 h3 h4 h5 h6 h7 h8 h9 h10 h11 h12 h13 h14 h15 h16 h17 w
  rcases Bool.eq_false_or_eq_true (key.toList == [69]) with h18 | h18
  · rw [show Span.kind key.data.toList = 2 by rw [Span.key_is h18]; decide]; exact span_Kind_18 key h0 h1 h2 h3 h4 h5 h6 h7 h8 h9 h10 h11 h12 h13 h14 h15 h16 h17 h18 w
  rcases Bool.eq_false_or_eq_true (key.toList == [102]) with h19 | h19
  · rw [show Span.kind key.data.toList = 2 by rw [Span.key_is h19]; decide]; exact span_Kind_19 key h0 h1 h2 h3 h4 h5 h6 h7 h8 h9 h10 h11 h12 h13 h14 h15 h16 h17 h18 h19 w
  rcases Bool.eq_false_or_eq_true (key.toList == [116]) with h20 | h20
  · rw [show Span.kind key.data.toList = 2 by rw [Span.key_is h20]; decide]; exact span_Kind_20 key h0 h1 h2 h3 h4 h5 h6 h7 h8 h9 h10 h11 h12 h13 h14 h15 h16 h17 h18 h19 h20 w
  rcases Bool.eq_false_or_eq_true (key.toList == [37]) with h21 | h21
  · rw [show Span.kind key.data.toList = 2 by rw [Span.key_is h21]; decide]; exact span_Kind_21 key h0 h1 h2 h3 h4 h5 h6 h7 h8 h9 h10 h11 h12 h13 h14 h15 h16 h17 h18 h19 h20 h21 w
  rcases Bool.eq_false_or_eq_true (key.toList == [106]) with h22 | h22
  · rw [show Span.kind key.data.toList = 3 by rw [Span.key_is h22]; decide]; exact span_Kind_22 key h0 h1 h2 h3 h4 h5 h6 h7 h8 h9 h10 h11 h12 h13 h14 h15 h16 h17 h18 h19 h20 h21 h22 w
  rcases Bool.eq_false_or_eq_true (key.toList == [107]) with h23 | h23
  · rw [show Span.kind key.data.toList = 3 by rw [Span.key_is h23]; decide]; exact span_Kind_23 key h0 h1 h2 h3 h4 h5 h6 h7 h8 h9 h10 h11 h12 h13 h14 h15 h16 h17 h18 h19 h20 h21 h22 h23 w
  rcases Bool.eq_false_or_eq_true (key.toList == [103, 103]) with h24 | h24
  · rw [show Span.kind key.data.toList = 3 by rw [Span.key_is h24]; decide]; exact span_Kind_24 key h0 h1 h2 h3 h4 h5 h6 h7 h8 h9 h10 h11 h12 h13 h14 h15 h16 h17 h18 h19 h20 h21 h22 h23 h24 w
  rcases Bool.eq_false_or_eq_true (key.toList == [71]) with h25 | h25
  · rw [show Span.kind key.data.toList = 3 by rw [Span.key_is h25]; decide]; exact span_Kind_25 key h0 h1 h2 h3 h4 h5 h6 h7 h8 h9 h10 h11 h12 h13 h14 h15 h16 h17 h18 h19 h20 h21 h22 h23 h24 h25 w
  rcases Bool.eq_false_or_eq_true (key.toList == [39]) with h26 | h26
  · rw [show Span.kind key.data.toList = 3 by rw [Span.key_is h26]; decide]; exact span_Kind_26 key h0 h1 h2 h3 h4 h5 h6 h7 h8 h9 h10 h11 h12 h13 h14 h15 h16 h17 h18 h19 h20 h21 h22 h23 h24 h25 h26 w
  rw [Span.kind_none]
  · exact span_Kind_27 key h0 h1 h2 h3 h4 h5 h6 h7 h8 h9 h10 h11 h12 h13 h14 h15 h16 h17 h18 h19 h20 h21 h22 h23 h24 h25 h26 w
  · unfold Span.short; simp only [List.mem_cons, List.not_mem_nil, or_false, not_or]; exact ⟨Span.key_not h0, Span.key_not h1, Span.key_not h2, Span.key_not h3, Span.key_not h4, Span.key_not h5, Span.key_not h6, Span.key_not h7, Span.key_not h8, Span.key_not h9, Span.key_not h10, Span.key_not h11, Span.key_not h12, Span.key_not h13, Span.key_not h14, Span.key_not h15, Span.key_not h16⟩
  · unfold Span.long; simp only [List.mem_cons, List.not_mem_nil, or_false, not_or]; exact ⟨Span.key_not h17, Span.key_not h18, Span.key_not h19, Span.key_not h20, Span.key_not h21⟩
  · unfold Span.whole; simp only [List.mem_cons, List.not_mem_nil, or_false, not_or]; exact ⟨Span.key_not h22, Span.key_not h23, Span.key_not h24, Span.key_not h25, Span.key_not h26⟩
/-- Texts in a row. -/
def Span.cells (l : List (List UInt8)) : Array Value := (l.map fun x => Value.string (bs x)).toArray
theorem Span.cells_at {l : List (List UInt8)} {j : Nat} {x : List UInt8} (h : l[j]? = some x) : (Span.cells l)[j]? = some (.string (bs x)) := by
  rw [Span.cells, List.getElem?_toArray, List.getElem?_map, h]; rfl
theorem Span.row (w : World) (l : List (List UInt8)) : Blk (w.alloc (.cells (Span.cells l) 9)) w.heap.size 9 (Span.cells l) := Blk.new _ _ _
end Go.Proofs.YtchpkeelnfmlbaaGreat
/-
  Keys one by one, as the program lays them.
-/
namespace Go.Proofs.YtchpkeelnfmlbaaGreat
open Go.RowKit
theorem own_iterAt {w : World} {B : Nat} {e : TypeId} {size n : Nat} {v : Value} {xs : List Value} (h : w.ownsRow B e size v n xs) {k : Nat} {s : ByteArray} {pos : Nat} (hk : w.heap[k]? = some (.stringIter s pos)) (pos' : Nat) : (w.iterAt k s pos').ownsRow B e size v n xs := by
  refine ⟨h.1, ?_⟩
  rcases h.2 with hn | ⟨g, cap, cur, hv, hbg, hg, rest⟩
  · exact .inl hn
  · have hkg : g ≠ k := by
      intro e1
      rw [e1, hk] at hg
      cases hg
    exact .inr ⟨g, cap, cur, hv, hbg, (Lib.iterAt_other w k g s pos' hkg).trans hg, rest⟩
theorem own_ne_iter {w : World} {B : Nat} {e : TypeId} {size n : Nat} {v : Value} {xs : List Value} (h : w.ownsRow B e size v n xs) {k : Nat} {s : ByteArray} {pos : Nat} (hk : w.heap[k]? = some (.stringIter s pos)) : some k ≠ v.ownBlock := by
  rcases h.2 with ⟨rfl, _⟩ | ⟨g, cap, cur, rfl, _, hg, _⟩
  · simp [Value.ownBlock]
  · intro he
    have : k = g := by simpa [Value.ownBlock] using he
    subst this
    rw [hk] at hg
    cases hg
/-- The first i runes as a row of texts. -/
def keyRow (rs : List (List UInt8)) (i : Nat) : List Value := ((rs.take i).map bs).map Value.string
theorem word_next {rs : List (List UInt8)} {i : Nat} {r : List UInt8} (h : rs[i]? = some r) : keyRow rs (i + 1) = keyRow rs i ++ [Value.string (bs r)] := by
  unfold keyRow
  rw [List.take_add_one, h]
  simp
theorem keyRow_zero (rs : List (List UInt8)) : keyRow rs 0 = [] := rfl
theorem keyRow_all (rs : List (List UInt8)) : keyRow rs rs.length = (rs.map bs).map Value.string := by unfold keyRow; rw [List.take_length]
theorem own_cap {w : World} {B : Nat} {e : TypeId} {size n m c : Nat} {A : Option Addr} {xs : List Value} (h : w.ownsRow B e size (.slice A m c) n xs) : m ≤ c := by
  rcases h.2 with ⟨h1, _⟩ | ⟨g, cap, cur, h1, _, _, h2, _⟩
  · injection h1 with _ e1 e2; omega
  · injection h1 with _ e1 e2; omega
theorem Strs.none (w : World) : Strs w none [] := fun h => by simp at h
set_option maxHeartbeats 1000000 in
set_option maxRecDepth 100000 in
theorem key_Split_cap (s : ByteArray) (hs : s.size ≤ 1000000000000) (w : World) :
    Calls Tryz.prog 7 #[.string s] w fun e w' => ∃ A c, e = .returned (.tuple #[.slice A (Key.split s.data.toList).length c, .int .i64 (Key.err s.data.toList)]) ∧ (Key.split s.data.toList).length ≤ c ∧ Strs w' A ((Key.split s.data.toList).map bs) ∧ Below w.heap.size w w' := by
  obtain ⟨i0, hi, hz0, hz1, hz2⟩ := info_parts info_string
  have hl : s.data.toList.length = s.size := by simp
  have c1 := Lib.hid (key_check s (by omega) w)
  have c2 := Lib.hid (utf_Count s (by omega))
  by_cases h0 : Key.err s.data.toList = 0
  · obtain ⟨rs, hd, hall⟩ := Key.err_zero h0
    rw [h0] at c1
    have H := Lib.hid (Key.split_ok hd hall)
    have H0 := Lib.hid h0
    have HD := Lib.hid hd
    have hrl : rs.length ≤ s.size := by
      have h3 := off_ge hd (i := rs.length) (Nat.le_refl _)
      rw [Utf.off_top hd (Nat.le_refl _), hl] at h3
      exact h3
    rw [Utf.count_ok hd] at c2
    clear h0 hd hall hl
    go_enter Tryz.func7, Tryz.ntmps7
    go_wp2_with (first
      | (go_at_call 16; refine c1.out.mono ?_; rintro e w1 ⟨rfl, hb1⟩)
      | (go_at_call 17; refine (c2.out _).mono ?_; rintro e w1' ⟨rfl, rfl⟩)
      | (at_make; refine wpList_make_own _ rfl _ _ 31 rfl w.heap.size 9 i0 (.string ⟨#[]⟩) 1 Tryz.underlying31 hi hz0 hz1 .i64 .i64 _ rs.length rfl rfl rfl (by rw [hz2]; omega) (by unfold maxLen; omega) hb1.size ?_; intro w2 hown hgrow))
    have hW2 : Below w.heap.size w w2 := hb1.trans (below_gb hgrow |>.mono hb1.size)
    clear hgrow
    go_wp2
    go_loopw [5] (fun v wr => ∃ (i : Nat) (A : Option Addr) (c : Nat), v = .slice A i c ∧ i ≤ rs.length ∧ wr.ownsRow w.heap.size 9 1 v i (keyRow rs i) ∧ wr.heap[w2.heap.size]? = some (.stringIter s (Utf.off rs i)) ∧ Below w.heap.size w wr) (fun _ wr => s.size - wr.iterPos w2.heap.size)
    case atStart =>
      refine ⟨0, _, _, rfl, Nat.zero_le _, hown.alloc _, ?_, hW2.alloc hW2.size _⟩
      rw [Utf.off_zero]
      exact World.iter_heap w2 s 0
    case round =>
      obtain ⟨i, A, c, rfl, hile, hown2, hit, hbr⟩ := hrel
      have hsz : w2.heap.size < wr.heap.size := (Array.getElem?_eq_some_iff.1 hit).1
      have hbw := hW2.size
      rcases rune_or_end (rs := rs) i with ⟨r, hr⟩ | hend
      · obtain ⟨hdc, hp, hoff, hle, ho⟩ := Key.decode_rune s HD.out hr
        have hcp := Key.cp_le ho
        have hpos := Utf.one_pos ho
        have hnx : ∀ ty, (Instr.next (.pointer (some ⟨w2.heap.size, 0, none⟩)) true ty).run Tryz.prog wr = _ := fun ty => Lib.run_next_any_at wr w2.heap.size s _ ty hit hp
        rw [hdc] at hnx
        simp only [] at hnx
        rw [← hoff] at hnx
        have hit2 := Lib.iterAt_heap wr w2.heap.size s _ (Utf.off rs (i + 1)) hit
        have hbr2 := Lib.below_iterAt hbr (k := w2.heap.size) hbw s (Utf.off rs (i + 1))
        have hown3 := own_iterAt hown2 hit (Utf.off rs (i + 1))
        have hsz2 := Lib.iterAt_size wr w2.heap.size s (Utf.off rs (i + 1))
        have Hoff := Lib.hid hoff
        have hi1 : i + 1 ≤ rs.length := (List.getElem?_eq_some_iff.1 hr).1
        have Hnext := Lib.hid (word_next hr)
        generalize hw2 : wr.iterAt w2.heap.size s (Utf.off rs (i + 1)) = wi at *
        have hlt2 : w2.heap.size < wi.heap.size := by omega
        clear hsz2
        have hcv : (convert 21 9 (.int .i32 (Key.cp r : Int))).run Tryz.prog wi = .ok (.string (bs r)) wi := by
          rw [run_convert_int_string _ _ _ _ _ (by kernel_rfl) Tryz.underlying9, Key.utf8_cp ho]
        have hown4 := hown3.alloc (.cells #[.string (bs r)] 9)
        have hbr3 := hbr2.alloc (by omega) (.cells #[.string (bs r)] 9)
        have hal := Below.heap_alloc wi (.cells #[.string (bs r)] 9) w2.heap.size (by omega)
        rw [hit2] at hal
        have hne := own_ne_iter hown4 hal
        clear hr hdc hoff c1 c2 hw2 ho hown2 hown hW2
        go_wp2_with (at_builtin; refine wpList_append_own _ rfl _ _ 31 rfl w.heap.size 9 i0 (.string ⟨#[]⟩) 1 16 Tryz.underlying31 hi hz0 hz1 hz2 rfl (by decide) _ _ _ rfl hown4 ⟨wi.heap.size, 0, none⟩ 1 1 [.string (bs r)] rfl rfl ?c1 ?c2 ?c3 ?c4 ?c5 ?_)
        case c1 =>
          intro j u hu
          have hb := Blk.new wi 9 #[.string (bs r)]
          have e : (⟨wi.heap.size, 0, none⟩ : Addr).add j = ⟨wi.heap.size, j, none⟩ := by unfold Addr.add; split <;> simp_all
          rw [e, hb.cell]
          simpa using hu
        case c2 => intro u hu; simp at hu; subst hu; rfl
        case c3 => unfold maxLen; omega
        case c4 => omega
        case c5 => exact hbr3.size
        intro v' w6 hown6 hgrow6 _
        obtain ⟨a6, cap6, rfl⟩ := own_shape hown6
        rw [← Hnext.out] at hown6
        have W6 := hbr3.grown hgrow6 hbr3.size (fun j hj => (hown4.lt j hj).1)
        have hit6 : w6.heap[w2.heap.size]? = some (.stringIter s (Utf.off rs (i + 1))) := (hgrow6.block _ (by simp; omega) hne).trans hal
        clear hgrow6 hown4 hown3 hne hal hbr2 hbr3
        go_wp2
        go_roundw
        case rel => exact ⟨i + 1, a6, cap6, rfl, hi1, hown6, hit6, W6⟩
        case measure =>
          simp only [World.iterPos, hit6, hit]
          have := Hoff.out
          omega
      · have hnx : ∀ ty, (Instr.next (.pointer (some ⟨w2.heap.size, 0, none⟩)) true ty).run Tryz.prog wr = _ := fun ty => Lib.run_next_end_at wr w2.heap.size s _ ty hit (by rw [off_len HD.out hend]; omega)
        obtain rfl : i = rs.length := by omega
        rw [keyRow_all] at hown2
        have hS := Strs.of_own (n := rs.length) (c := c) (A := A) (xs := rs.map bs) (by rw [List.length_map]; exact hown2) rfl
        have hC := own_cap hown2
        clear c1 c2 hown2 hown hW2
        go_wp2
        go_ret2
        exact ⟨A, c, by rw [H0.out, H.out]; rfl, by rw [H.out]; exact hC, by rw [H.out]; exact hS, hbr⟩
  · have g : (Key.err s.data.toList != 0) = true := by rw [bne_iff_ne]; exact h0
    have H := Lib.hid (Key.split_no h0)
    generalize Key.err s.data.toList = n at *
    clear h0
    go_enter Tryz.func7, Tryz.ntmps7
    go_wp2_with (go_at_call 16; refine c1.out.mono ?_; rintro e w1 ⟨rfl, hb1⟩)
    go_ret2
    exact ⟨none, 0, by rw [H.out]; rfl, by rw [H.out]; exact Nat.le_refl _, by rw [H.out]; exact Strs.none _, hb1⟩
theorem key_Split (s : ByteArray) (hs : s.size ≤ 1000000000000) (w : World) :
    Calls Tryz.prog 7 #[.string s] w fun e w' => ∃ A c, e = .returned (.tuple #[.slice A (Key.split s.data.toList).length c, .int .i64 (Key.err s.data.toList)]) ∧ Strs w' A ((Key.split s.data.toList).map bs) ∧ Below w.heap.size w w' := by
  refine (key_Split_cap s hs w).mono ?_
  rintro e w' ⟨A, c, h1, _, h2, h3⟩
  exact ⟨A, c, h1, h2, h3⟩
end Go.Proofs.YtchpkeelnfmlbaaGreat
/-
  The reader of keys: what it holds, what is ahead, the next key, a word, a digit, a count.
-/
namespace Go.Proofs.YtchpkeelnfmlbaaGreat
open Go.RowKit
open Phr (Cmd)
namespace Phr
/-- A reader's cells. -/
def cells (c : Cmd) (v : Value) (dry : Bool) : Array Value := #[.int .i64 c.reg, .int .i64 c.count, .string (bs c.op), .string (bs c.key), .string (bs c.arg), v, .bool dry]
/-- A reader at block g: what it has read, what keys are left, and whether it wanted one more. -/
def Rdr (g : Nat) (W : World) (c : Cmd) (ks : List (List UInt8)) (dry : Bool) : Prop :=
  ∃ A n, Blk W g 36 (cells c (.slice A ks.length n) dry) ∧ ks.length ≤ n ∧ Strs W A (ks.map bs) ∧ (ks ≠ [] → ∀ ad, A = some ad → ad.block ≠ g) ∧ ∀ k ∈ ks, Utf.one k = true
section
variable {g : Nat} {W W' : World} {c : Cmd} {ks : List (List UInt8)} {dry : Bool}
theorem Rdr.grown (h : Rdr g W c ks dry) (k : W.grownBy W' none) : Rdr g W' c ks dry := by
  obtain ⟨A, n, hb, hn, hs, ha, ho⟩ := h
  exact ⟨A, n, hb.grown k (by simp), hn, hs.grown k (by simp), ha, ho⟩
theorem Rdr.ones (h : Rdr g W c ks dry) : ∀ k ∈ ks, Utf.one k = true := by obtain ⟨A, n, _, _, _, _, h⟩ := h; exact h
theorem Rdr.lt (h : Rdr g W c ks dry) : g < W.heap.size := by obtain ⟨A, n, hb, _⟩ := h; exact hb.lt
theorem Rdr.cell0 (h : Rdr g W c ks dry) : W.cell? ⟨g, 0, none⟩ = some (.int .i64 c.reg) := by obtain ⟨A, n, hb, _⟩ := h; exact hb.cell 0
theorem Rdr.cell1 (h : Rdr g W c ks dry) : W.cell? ⟨g, 1, none⟩ = some (.int .i64 c.count) := by obtain ⟨A, n, hb, _⟩ := h; exact hb.cell 1
theorem Rdr.cell2 (h : Rdr g W c ks dry) : W.cell? ⟨g, 2, none⟩ = some (.string (bs c.op)) := by obtain ⟨A, n, hb, _⟩ := h; exact hb.cell 2
theorem Rdr.cell3 (h : Rdr g W c ks dry) : W.cell? ⟨g, 3, none⟩ = some (.string (bs c.key)) := by obtain ⟨A, n, hb, _⟩ := h; exact hb.cell 3
theorem Rdr.cell4 (h : Rdr g W c ks dry) : W.cell? ⟨g, 4, none⟩ = some (.string (bs c.arg)) := by obtain ⟨A, n, hb, _⟩ := h; exact hb.cell 4
theorem Rdr.frozen (h : Rdr g W c ks dry) (i : Nat) : W.frozen? ⟨g, i, none⟩ = false := by obtain ⟨A, n, hb, _⟩ := h; exact hb.frozen i
/-- A cell of what was read is stored to. -/
theorem Rdr.set_ (h : Rdr g W c ks dry) {i : Nat} {u : Value} {c' : Cmd} {d' : Bool} (hc : ∀ v, (cells c v dry).setIfInBounds i u = cells c' v d') : Rdr g (W.setCell ⟨g, i, none⟩ u) c' ks d' := by
  obtain ⟨A, n, hb, hn, hs, ha, ho⟩ := h
  refine ⟨A, n, ?_, hn, ?_, ha, ho⟩
  · rw [← hc]; exact hb.set_ i u
  · intro h0
    obtain ⟨ad, e, hl, hx⟩ := hs h0
    refine ⟨ad, e, by simpa [World.setCell] using hl, fun j x hj => ?_⟩
    rw [World.cell?_of_block (Below.heap_setCell W ⟨g, i, none⟩ u (ad.add j).block (by rw [block_of_add]; exact ha (by intro e0; subst e0; simp at h0) ad e))]
    exact hx j x hj
theorem Rdr.tail_one {ad : Addr} {t : List (List UInt8)} (hb : Blk W g 36 (cells c (.slice (some ad) (t.length + 1) 1) dry)) (hn : t.length + 1 ≤ 1) : Rdr g (W.setCell ⟨g, 5, none⟩ (.slice (some ad) t.length 0)) c t dry := by
  obtain rfl : t = [] := List.eq_nil_of_length_eq_zero (by omega)
  refine ⟨some ad, 0, ?_, Nat.le_refl _, fun h => by simp at h, (fun h => absurd rfl h), fun k hk => by cases hk⟩
  exact hb.set_ 5 _
theorem Rdr.tail {ad : Addr} {k : List UInt8} {t : List (List UInt8)} {n : Nat} (hb : Blk W g 36 (cells c (.slice (some ad) (t.length + 1) n) dry)) (hn : t.length + 1 ≤ n) (hs : Strs W (some ad) ((k :: t).map bs)) (ha : ad.block ≠ g) (ho : ∀ x ∈ k :: t, Utf.one x = true) : Rdr g (W.setCell ⟨g, 5, none⟩ (.slice (some ⟨ad.block, ad.off + 1, none⟩) t.length (n - 1))) c t dry := by
  refine ⟨some ⟨ad.block, ad.off + 1, none⟩, n - 1, hb.set_ 5 _, by omega, fun h0 => ?_, (fun _ a e => by injection e with e; subst e; exact ha), fun x hx => ho x (List.mem_cons_of_mem _ hx)⟩
  obtain ⟨ad', e, hl, hx⟩ := hs (by simp)
  injection e with e
  subst e
  refine ⟨_, rfl, by simpa [World.setCell] using hl, fun j x hj => ?_⟩
  have e2 : (⟨ad.block, ad.off + 1, none⟩ : Addr).add j = ad.add (j + 1) := by
    unfold Addr.add
    rw [if_neg (by omega : ¬ j + 1 = 0)]
    split
    · subst_vars; rfl
    · simp; omega
  rw [World.cell?_of_block (Below.heap_setCell W ⟨g, 5, none⟩ _ _ (by rw [block_of_add]; exact ha)), e2]
  exact hx (j + 1) x (by simpa using hj)
end
end Phr
open Phr (Rdr)
set_option maxRecDepth 100000 in
theorem phr_ahead_none {g : Nat} {w : World} {c : Cmd} {dry : Bool} (h : Rdr g w c [] dry) :
    Calls Tryz.prog 40 #[.pointer (some ⟨g, 0, none⟩)] w fun e w' => e = .returned (.string (bs [])) ∧ w = w' := by
  obtain ⟨A, n, hb, hn, hs, ha, ho⟩ := h
  have c5 := hb.cell 5
  simp [Phr.cells] at c5
  clear hb hs ha ho
  go_enter Tryz.func40, Tryz.ntmps40
  go_wp2
  go_ret
  exact ⟨rfl, rfl⟩
set_option maxRecDepth 100000 in
theorem phr_ahead {g : Nat} {w : World} {c : Cmd} {k : List UInt8} {t : List (List UInt8)} {dry : Bool} (h : Rdr g w c (k :: t) dry) :
    Calls Tryz.prog 40 #[.pointer (some ⟨g, 0, none⟩)] w fun e w' => e = .returned (.string (bs k)) ∧ w = w' := by
  obtain ⟨A, n, hb, hn, hs, ha, ho⟩ := h
  obtain ⟨ad, rfl, hlt, hx⟩ := hs (by simp)
  have c5 := hb.cell 5
  have x0 : w.cell? ad = some (.string (bs k)) := hx 0 (bs k) rfl
  rw [List.length_cons] at c5
  simp [Phr.cells] at c5
  have b0 : ((t.length : Int) + 1 == 0) = false := by rw [beq_eq_false_iff_ne]; omega
  have b1 : 0 < t.length + 1 := by omega
  clear hb hs ha hx ho
  go_enter Tryz.func40, Tryz.ntmps40
  go_wp2
  go_ret
  exact ⟨rfl, rfl⟩
set_option maxRecDepth 100000 in
theorem phr_next_none {g : Nat} {w : World} {c : Cmd} {dry : Bool} (h : Rdr g w c [] dry) :
    Calls Tryz.prog 42 #[.pointer (some ⟨g, 0, none⟩)] w fun e w' => e = .returned (.string (bs [])) ∧ Rdr g w' c [] true ∧ w.grownBy w' (some g) := by
  have hr : Hid (Rdr g (w.setCell ⟨g, 6, none⟩ (.bool true)) c [] true) := h.set_ (fun v => rfl)
  obtain ⟨A, n, hb, hn, hs, ha, ho⟩ := h
  have c5 := hb.cell 5
  have c6 := hb.cell 6
  have f6 := hb.frozen 6
  simp [Phr.cells] at c5 c6
  clear hb hs ha ho
  go_enter Tryz.func42, Tryz.ntmps42
  go_wp2
  go_ret
  exact ⟨rfl, hr.out, gb_set _ _ _ _⟩
set_option maxRecDepth 100000 in
theorem phr_next {g : Nat} {w : World} {c : Cmd} {k : List UInt8} {t : List (List UInt8)} {dry : Bool} (h : Rdr g w c (k :: t) dry) :
    Calls Tryz.prog 42 #[.pointer (some ⟨g, 0, none⟩)] w fun e w' => e = .returned (.string (bs k)) ∧ Rdr g w' c t dry ∧ w.grownBy w' (some g) := by
  obtain ⟨A, n, hb, hn, hs, ha, ho⟩ := h
  obtain ⟨ad, e, hlt, hx⟩ := hs (by simp)
  subst e
  have hag := ha (by simp) ad rfl
  have c5 := hb.cell 5
  have f5 := hb.frozen 5
  have x0 : w.cell? ad = some (.string (bs k)) := hx 0 (bs k) rfl
  rw [List.length_cons] at c5
  simp [Phr.cells] at c5
  have b0 : ((t.length : Int) + 1 == 0) = false := by rw [beq_eq_false_iff_ne]; omega
  have b1 : 0 < t.length + 1 := by omega
  rw [List.length_cons] at hn hb
  have T1 : Hid (n = 1 → Rdr g (w.setCell ⟨g, 5, none⟩ (.slice (some ad) t.length 0)) c t dry) := Lib.hid (fun e => by subst e; exact Rdr.tail_one hb hn)
  have T2 : Hid (Rdr g (w.setCell ⟨g, 5, none⟩ (.slice (some ⟨ad.block, ad.off + 1, none⟩) t.length (n - 1))) c t dry) := Lib.hid (Rdr.tail hb hn hs hag ho)
  clear hb hs hx ha hn ho
  go_enter Tryz.func42, Tryz.ntmps42
  go_wp2
  · go_ret
    exact ⟨rfl, T1.out (by assumption), gb_set _ _ _ _⟩
  · go_ret
    exact ⟨rfl, T2.out, gb_set _ _ _ _⟩
namespace Phr
open Utf
/-- What a key may be. -/
def Key (k : List UInt8) : Prop := k = [] ∨ one k = true
theorem key_forms {k : List UInt8} (h : Key k) : k = [] ∨ (∃ b, k = [b] ∧ b.toNat < 128) ∨ ∃ b c t, k = b :: c :: t ∧ 128 ≤ b.toNat := by
  rcases h with h | h
  · exact .inl h
  · rcases Key.one_cases h with ⟨a, rfl⟩ | ⟨a, b, rfl⟩ | ⟨a, b, c, rfl⟩ | ⟨a, b, c, d, rfl⟩
    · exact .inr (.inl ⟨a, rfl, (one1 a).1 h⟩)
    · exact .inr (.inr ⟨a, b, [], rfl, by have := (one2 a b).1 h; omega⟩)
    · exact .inr (.inr ⟨a, b, [c], rfl, by have := (one3 a b c).1 h; omega⟩)
    · exact .inr (.inr ⟨a, b, [c, d], rfl, by have := (one4 a b c d).1 h; omega⟩)
/-- A test of a key against two bytes. -/
def within (lo hi : UInt8) (k : List UInt8) : Bool := match k with | [b] => decide (lo.toNat ≤ b.toNat) && decide (b.toNat ≤ hi.toNat) | _ => false
theorem within_test {k : List UInt8} (h : Key k) {lo hi : UInt8} (hh : hi.toNat < 128) : within lo hi k = (!Op.bytesLess (bs k).toList [lo] && (Op.bytesLess (bs k).toList [hi] || (bs k).toList == [hi])) := by
  rw [bs_tl]
  rcases key_forms h with rfl | ⟨b, rfl, hb⟩ | ⟨b, c, t, rfl, hb⟩
  · rfl
  · have e1 : Op.bytesLess [b] [lo] = decide (b.toNat < lo.toNat) := by simp [Op.bytesLess, UInt8.lt_iff_toNat_lt]
    have e2 : (Op.bytesLess [b] [hi] || [b] == [hi]) = decide (b.toNat ≤ hi.toNat) := by
      rw [Bool.eq_iff_iff]
      simp [Op.bytesLess, UInt8.lt_iff_toNat_lt, ← UInt8.toNat_inj]
      omega
    rw [e1, e2]
    show (decide (lo.toNat ≤ b.toNat) && decide (b.toNat ≤ hi.toNat)) = _
    congr 1
    rw [← decide_not]
    congr 1
    simp
  · have e2 : (Op.bytesLess (b :: c :: t) [hi] || b :: c :: t == [hi]) = false := by
      rw [Bool.eq_false_iff]
      simp [Op.bytesLess, UInt8.lt_iff_toNat_lt]
      omega
    rw [e2, Bool.and_false]
    rfl
theorem digit_test {k : List UInt8} (h : Key k) : digit k = (!Op.bytesLess (bs k).toList [48] && (Op.bytesLess (bs k).toList [57] || (bs k).toList == [57])) := within_test h (lo := 48) (hi := 57) (by decide)
theorem letter_test {k : List UInt8} (h : Key k) : letter k = (!Op.bytesLess (bs k).toList [97] && (Op.bytesLess (bs k).toList [122] || (bs k).toList == [122])) := within_test h (lo := 97) (hi := 122) (by decide)
end Phr
set_option maxRecDepth 100000 in
theorem phr_digit {k : List UInt8} (hk : Phr.Key k) (w : World) :
    Calls Tryz.prog 41 #[.string (bs k)] w fun e w' => e = .returned (.bool (Phr.digit k)) ∧ w = w' := by
  rw [Phr.digit_test hk]
  clear hk
  cases hL : Op.bytesLess (bs k).toList [48]
  · go_enter Tryz.func41, Tryz.ntmps41
    go_wp2
    go_ret
    exact ⟨rfl, rfl⟩
  · go_enter Tryz.func41, Tryz.ntmps41
    go_wp2
    go_ret
    exact ⟨rfl, rfl⟩
theorem phr_Count (a b : Int) (w : World) :
    Calls Tryz.prog 43 #[.int .i64 a, .int .i64 b] w fun e w' => e = .returned (.int .i64 (Phr.count a b)) ∧ w = w' := by
  by_cases h : a < 1 ∨ b < 1
  · have H : Hid (Phr.count a b = max (max (min a 99) (min b 99)) 0) := Lib.hid (by rw [Phr.count, if_pos h])
    have h2 : min a 99 < 1 ∨ min b 99 < 1 := by omega
    clear h
    rcases Int.lt_or_le (min a 99) 1 with ha | ha
    · go_enter Tryz.func43, Tryz.ntmps43
      go_wp2
      all_goals (go_ret; first | exact ⟨by rw [show Phr.count a b = 0 by rw [H.out]; omega]; rfl, rfl⟩ | exact ⟨by rw [show Phr.count a b = min b 99 by rw [H.out]; omega]; rfl, rfl⟩ | exact ⟨by rw [show Phr.count a b = min a 99 by rw [H.out]; omega]; rfl, rfl⟩)
    · have hb : min b 99 < 1 := by omega
      go_enter Tryz.func43, Tryz.ntmps43
      go_wp2
      all_goals (go_ret; first | exact ⟨by rw [show Phr.count a b = 0 by rw [H.out]; omega]; rfl, rfl⟩ | exact ⟨by rw [show Phr.count a b = min b 99 by rw [H.out]; omega]; rfl, rfl⟩ | exact ⟨by rw [show Phr.count a b = min a 99 by rw [H.out]; omega]; rfl, rfl⟩)
  · have H : Hid (Phr.count a b = min (min a 99 * min b 99) 99) := Lib.hid (by rw [Phr.count, if_neg h])
    have ha : ¬ min a 99 < 1 := by omega
    have hb : ¬ min b 99 < 1 := by omega
    have m0 : 0 ≤ min a 99 * min b 99 := Int.mul_nonneg (by omega) (by omega)
    have m1 : min a 99 * min b 99 ≤ 99 * 99 := Int.mul_le_mul (by omega) (by omega) (by omega) (by omega)
    have z : wrap64 (min a 99 * min b 99) = min a 99 * min b 99 := by unfold wrap64; omega
    clear h
    go_enter Tryz.func43, Tryz.ntmps43
    go_wp2
    go_ret
    exact ⟨by rw [H.out]; rfl, rfl⟩
set_option maxRecDepth 100000 in
theorem phr_word_nil {g : Nat} {w : World} {c : Cmd} {dry : Bool} (h : Rdr g w c [] dry) :
    Calls Tryz.prog 20 #[.pointer (some ⟨g, 0, none⟩)] w fun e w' => e = .returned (.string (bs [])) ∧ Rdr g w' c [] true ∧ w.grownBy w' (some g) := by
  have C := Lib.hid (phr_next_none h)
  have q : ((bs []).toList == [103]) = false := by rw [bs_tl]; rfl
  clear h
  go_enter Tryz.func20, Tryz.ntmps20
  go_wp2_with (go_at_call 42; refine C.out.mono ?_; rintro e w1 ⟨rfl, h1, g1⟩)
  go_ret
  exact ⟨rfl, h1, g1⟩
set_option maxRecDepth 100000 in
theorem phr_word_g {g : Nat} {w : World} {c : Cmd} {dry : Bool} (h : Rdr g w c [[103]] dry) :
    Calls Tryz.prog 20 #[.pointer (some ⟨g, 0, none⟩)] w fun e w' => e = .returned (.string (bs [103])) ∧ Rdr g w' c [] true ∧ w.grownBy w' (some g) := by
  have C := Lib.hid (phr_next h)
  have q : ((bs [103]).toList == [103]) = true := by rw [bs_tl]; rfl
  clear h
  go_enter Tryz.func20, Tryz.ntmps20
  go_wp2_with (first
    | (go_at_call 42; refine C.out.mono ?_; rintro e w1 ⟨rfl, h1, g1⟩; clear C; have C2 := Lib.hid (phr_next_none h1); clear h1)
    | (go_at_call 42; refine C2.out.mono ?_; rintro e w2 ⟨rfl, h2, g2⟩))
  go_ret
  exact ⟨rfl, h2, gb_trans g1 g2⟩
set_option maxRecDepth 100000 in
theorem phr_word_two {g : Nat} {w : World} {c : Cmd} {dry : Bool} {k : List UInt8} {t : List (List UInt8)} (h : Rdr g w c ([103] :: k :: t) dry) :
    Calls Tryz.prog 20 #[.pointer (some ⟨g, 0, none⟩)] w fun e w' => e = .returned (.string (bs (103 :: k))) ∧ Rdr g w' c t dry ∧ w.grownBy w' (some g) := by
  have C := Lib.hid (phr_next h)
  have q : ((bs [103]).toList == [103]) = true := by rw [bs_tl]; rfl
  have H : Hid (bs (103 :: k) = bs [103] ++ bs k) := Lib.hid (by rw [bs_append]; rfl)
  have hk : (bs k).size ≤ 4 := by rw [bs_size]; exact Utf.one_le (h.ones k (by simp))
  have h103 : (bs [103]).size = 1 := rfl
  clear h
  go_enter Tryz.func20, Tryz.ntmps20
  go_wp2_with (first
    | (go_at_call 42; refine C.out.mono ?_; rintro e w1 ⟨rfl, h1, g1⟩; clear C; have C2 := Lib.hid (phr_next h1); clear h1)
    | (go_at_call 42; refine C2.out.mono ?_; rintro e w2 ⟨rfl, h2, g2⟩))
  go_ret
  exact ⟨by rw [H.out]; rfl, h2, gb_trans g1 g2⟩
set_option maxRecDepth 100000 in
theorem phr_word_one {g : Nat} {w : World} {c : Cmd} {dry : Bool} {k : List UInt8} {t : List (List UInt8)} (h : Rdr g w c (k :: t) dry) (hk : k ≠ [103]) :
    Calls Tryz.prog 20 #[.pointer (some ⟨g, 0, none⟩)] w fun e w' => e = .returned (.string (bs k)) ∧ Rdr g w' c t dry ∧ w.grownBy w' (some g) := by
  have C := Lib.hid (phr_next h)
  have q : ((bs k).toList == [103]) = false := by rw [bs_tl, beq_eq_false_iff_ne]; exact hk
  clear h
  go_enter Tryz.func20, Tryz.ntmps20
  go_wp2_with (go_at_call 42; refine C.out.mono ?_; rintro e w1 ⟨rfl, h1, g1⟩)
  go_ret
  exact ⟨rfl, h1, g1⟩
/-- A word, or too little for one. -/
theorem phr_word {g : Nat} {w : World} {c : Cmd} {dry : Bool} {ks : List (List UInt8)} (h : Rdr g w c ks dry) :
    Calls Tryz.prog 20 #[.pointer (some ⟨g, 0, none⟩)] w fun e w' => w.grownBy w' (some g) ∧ ((∃ x t, Phr.word ks = some (x, t) ∧ e = .returned (.string (bs x)) ∧ Rdr g w' c t dry) ∨ Phr.word ks = none ∧ ∃ x, (x = [] ∨ x = [103]) ∧ e = .returned (.string (bs x)) ∧ Rdr g w' c [] true) := by
  match ks, h with
  | [], h => exact (phr_word_nil h).mono fun e w' ⟨h1, h2, h3⟩ => ⟨h3, .inr ⟨rfl, _, .inl rfl, h1, h2⟩⟩
  | k :: t, h =>
    by_cases hk : k = [103]
    · subst hk
      match t, h with
      | [], h => exact (phr_word_g h).mono fun e w' ⟨h1, h2, h3⟩ => ⟨h3, .inr ⟨by simp [Phr.word], _, .inr rfl, h1, h2⟩⟩
      | k :: t, h => exact (phr_word_two h).mono fun e w' ⟨h1, h2, h3⟩ => ⟨h3, .inl ⟨_, _, by simp [Phr.word], h1, h2⟩⟩
    · exact (phr_word_one h hk).mono fun e w' ⟨h1, h2, h3⟩ => ⟨h3, .inl ⟨_, _, by simp [Phr.word, hk], h1, h2⟩⟩
namespace Phr
/-- How many keys a reader has left. -/
def left (g : Nat) (w : World) : Nat := match w.cell? ⟨g, 5, none⟩ with | some v => lenOf v | none => 0
theorem Rdr.left {g : Nat} {w : World} {c : Cmd} {ks : List (List UInt8)} {dry : Bool} (h : Rdr g w c ks dry) : Phr.left g w = ks.length := by
  obtain ⟨A, n, hb, _⟩ := h
  have := hb.cell 5
  unfold Phr.left
  rw [this]
  rfl
theorem digit_byte {k : List UInt8} (h : digit k = true) : ∃ b : UInt8, k = [b] ∧ 48 ≤ b.toNat ∧ b.toNat ≤ 57 := by
  unfold digit at h
  split at h
  · rename_i b; simp at h; exact ⟨b, rfl, h.1, h.2⟩
  · cases h
theorem digits_go {n : Int} {k : List UInt8} {t : List (List UInt8)} (h : digit k = true) : digits n (k :: t) = digits (min (n * 10 + val k) 99) t := by rw [digits, if_pos h]
theorem digits_stop {n : Int} {k : List UInt8} {t : List (List UInt8)} (h : digit k = false) : digits n (k :: t) = (n, k :: t) := by rw [digits, if_neg (by rw [h]; decide)]
theorem digits_nil (n : Int) : digits n [] = (n, []) := rfl
theorem count_none {a : Int} (h0 : 0 ≤ a) (h1 : a ≤ 99) : count a 0 = a := by unfold count; rw [if_pos (by omega)]; omega
theorem count_zero {a : Int} (h0 : 0 ≤ a) (h1 : a ≤ 99) : count 0 a = a := by unfold count; rw [if_pos (by omega)]; omega
end Phr
set_option maxHeartbeats 1000000 in
set_option maxRecDepth 100000 in
theorem phr_count_zero {g : Nat} {w : World} {c : Cmd} {t : List (List UInt8)} {dry : Bool} (h : Rdr g w c ([48] :: t) dry) :
    Calls Tryz.prog 18 #[.pointer (some ⟨g, 0, none⟩)] w fun e w' => e = .returned (.tuple #[]) ∧ w = w' := by
  have C := Lib.hid (phr_ahead h)
  have q : ((bs [48]).toList == [48]) = true := by rw [bs_tl]; rfl
  clear h
  go_enter Tryz.func18, Tryz.ntmps18
  go_wp2_with (go_at_call 40; refine C.out.mono ?_; rintro e w1 ⟨rfl, rfl⟩)
  refine bodyPost_ret (results_none rfl _ _ _) rfl ?_
  exact ⟨rfl, rfl⟩
/-- What is ahead. -/
theorem phr_front {g : Nat} {w : World} {c : Cmd} {ks : List (List UInt8)} {dry : Bool} (h : Rdr g w c ks dry) :
    Calls Tryz.prog 40 #[.pointer (some ⟨g, 0, none⟩)] w fun e w' => e = .returned (.string (bs (ks.headD []))) ∧ w = w' := by
  cases ks with
  | nil => exact phr_ahead_none h
  | cons k t => exact phr_ahead h
set_option maxHeartbeats 1000000 in
set_option maxRecDepth 100000 in
theorem phr_count_some {g : Nat} {w : World} {c : Cmd} {ks : List (List UInt8)} {dry : Bool} (h : Rdr g w c ks dry) (h0 : ks.headD [] ≠ [48]) :
    Calls Tryz.prog 18 #[.pointer (some ⟨g, 0, none⟩)] w fun e w' => e = .returned (.tuple #[]) ∧ Rdr g w' {c with count := Phr.count c.count (Phr.digits 0 ks).1} (Phr.digits 0 ks).2 dry ∧ w.grownBy w' (some g) := by
  have C := Lib.hid (phr_front h)
  have q : ((bs (ks.headD [])).toList == [48]) = false := by rw [bs_tl, beq_eq_false_iff_ne]; exact h0
  obtain ⟨D, hD⟩ : ∃ D, Phr.digits 0 ks = D := ⟨_, rfl⟩
  have HD := Lib.hid hD
  have H := Lib.hid h
  rw [hD]
  clear hD h h0
  generalize ks.headD [] = k0 at *
  go_enter Tryz.func18, Tryz.ntmps18
  go_wp2_with (go_at_call 40; refine C.out.mono ?_; rintro e w1 ⟨rfl, rfl⟩)
  go_loopw [2] (fun nv wr => ∃ (n : Int) (l : List (List UInt8)), nv = .int .i64 n ∧ 0 ≤ n ∧ n ≤ 99 ∧ Hid (Rdr g wr c l dry) ∧ Hid (Phr.digits n l = D) ∧ w.grownBy wr (some g)) (fun _ wr => Phr.left g wr)
  case atStart => exact ⟨0, ks, rfl, by omega, by omega, H, HD, gb_drewN w 0 _⟩
  case round =>
    obtain ⟨n, l, rfl, n0, n1, hr, hd, hg⟩ := hrel
    have F := Lib.hid (phr_front hr.out)
    have hkey : Phr.Key (l.headD []) := by
      cases l with
      | nil => exact .inl rfl
      | cons k t => exact .inr (hr.out.ones k (by simp))
    have G := Lib.hid (fun w => phr_digit hkey w)
    clear hkey
    cases hdg : Phr.digit (l.headD []) with
    | true =>
      rw [hdg] at G
      cases l with
      | nil => cases hdg
      | cons k t =>
        obtain ⟨b, e, hb0, hb1⟩ := Phr.digit_byte (k := k) hdg
        subst e
        have Q0 : 0 < (bs [b]).size := by rw [bs_size]; exact Nat.one_pos
        have Q1 : (((bs [b])[0].toNat : Int) - 48) % 256 = (b.toNat : Int) - 48 := by
          show ((b.toNat : Int) - 48) % 256 = _
          omega
        have N := Lib.hid (phr_next hr.out)
        have hd2 := hd.out
        rw [Phr.digits_go (k := [b]) hdg] at hd2
        have z : wrap64 (n * 10 + ((b.toNat : Int) - 48)) = n * 10 + ((b.toNat : Int) - 48) := by unfold wrap64; omega
        have HD2 := Lib.hid hd2
        have LL := Lib.hid hr.out.left
        clear hr hd hdg hd2 HD H C
        go_wp2_with (first
          | (go_at_call 40; refine F.out.mono ?_; rintro e w2 ⟨rfl, rfl⟩)
          | (go_at_call 41; refine (G.out _).mono ?_; rintro e w3 ⟨rfl, rfl⟩)
          | (go_at_call 42; refine N.out.mono ?_; rintro e w4 ⟨rfl, h4, g4⟩))
        go_roundw
        case rel => exact ⟨_, _, rfl, by omega, by omega, Lib.hid h4, HD2, gb_trans hg g4⟩
        case measure => rw [h4.left, LL.out]; simp
    | false =>
      rw [hdg] at G
      have hd2 := hd.out
      have e2 : Phr.digits n l = (n, l) := by
        cases l with
        | nil => rfl
        | cons k t => exact Phr.digits_stop hdg
      rw [e2] at hd2
      subst hd2
      obtain ⟨A, m, hb, _⟩ := hr.out
      have c1 := hb.cell 1
      have f1 := hb.frozen 1
      simp [Phr.cells] at c1
      have CC := Lib.hid (fun w => phr_Count c.count n w)
      have HR := hr
      have W1 : Hid (Rdr g (wr.setCell ⟨g, 1, none⟩ (.int .i64 (Phr.count c.count n))) {c with count := Phr.count c.count n} l dry) := Lib.hid (hr.out.set_ (fun v => rfl))
      clear hb hd hdg e2 HD hr
      generalize l.headD [] = k1 at *
      go_wp2_with (first
        | (go_at_call 40; refine F.out.mono ?_; rintro e w2 ⟨rfl, rfl⟩)
        | (go_at_call 41; refine (G.out _).mono ?_; rintro e w3 ⟨rfl, rfl⟩)
        | (go_at_call 43; refine (CC.out _).mono ?_; rintro e w3 ⟨rfl, rfl⟩))
      go_end0
      exact ⟨rfl, W1.out, gb_trans hg (gb_set _ _ _ _)⟩
end Go.Proofs.YtchpkeelnfmlbaaGreat
/-
  The reader of keys: counts, a register, what wants a key behind it.
-/
namespace Go.Proofs.YtchpkeelnfmlbaaGreat
open Go.RowKit
open Phr (Cmd Ans Rdr)
theorem phr_count {g : Nat} {w : World} {c : Cmd} {ks : List (List UInt8)} {dry : Bool} (h : Rdr g w c ks dry) (h0 : 0 ≤ c.count) (h1 : c.count ≤ 99) :
    Calls Tryz.prog 18 #[.pointer (some ⟨g, 0, none⟩)] w fun e w' => e = .returned (.tuple #[]) ∧ Rdr g w' {c with count := Phr.count c.count (Phr.number ks).1} (Phr.number ks).2 dry ∧ w.grownBy w' (some g) := by
  cases ks with
  | nil => exact phr_count_some h (by decide)
  | cons k t =>
    by_cases hk : k = [48]
    · subst hk
      refine (phr_count_zero h).mono ?_
      rintro e w' ⟨rfl, rfl⟩
      refine ⟨rfl, ?_, gb_drewN w 0 _⟩
      have e1 : Phr.number ([48] :: t) = (0, [48] :: t) := by simp [Phr.number]
      rw [e1, Phr.count_none h0 h1]
      exact h
    · have e1 : Phr.number (k :: t) = Phr.digits 0 (k :: t) := by simp [Phr.number, hk]
      rw [e1]
      exact phr_count_some h hk
namespace Phr
/-- What a reader's way ends as. -/
def out (read : Bool) (c : Cmd) (ks : List (List UInt8)) (dry : Bool) : Ans := if dry then more else if read = false ∨ ks ≠ [] then bad else (c, 2)
/-- What it ends as, if it was not dry. -/
def wet (dry : Bool) (x : Ans) : Ans := if dry then more else x
def EndsAs (g : Nat) (w : World) (F : Ans) (e : Ending) (w' : World) : Prop :=
  w.grownBy w' (some g) ∧ ∃ (read dry : Bool) (c : Cmd) (ks : List (List UInt8)), e = .returned (.bool read) ∧ Rdr g w' c ks dry ∧ out read c ks dry = F
theorem out_dry (read : Bool) (c : Cmd) (ks : List (List UInt8)) : out read c ks true = more := rfl
theorem out_bad (c : Cmd) (ks : List (List UInt8)) (dry : Bool) : out false c ks dry = wet dry bad := by cases dry <;> simp [out, wet]
theorem out_last (c : Cmd) (ks : List (List UInt8)) (dry : Bool) : out true c ks dry = wet dry (last c ks) := by
  cases dry
  · simp only [out, wet, last, Bool.false_eq_true, if_false]
    by_cases h : ks = [] <;> simp [h]
  · rfl
theorem wet_more (dry : Bool) : wet dry more = more := by cases dry <;> rfl
theorem out_behind {b : Bool} {c : Cmd} {n : Nat} {k : List UInt8} {t : List (List UInt8)} {dry : Bool} (h : b = fits n k) : out b {c with arg := k} t dry = wet dry (behind c n (k :: t)) := by
  subst h
  cases dry
  · cases t with
    | nil => simp only [out, wet, behind, Bool.false_eq_true, if_false]; cases fits n k <;> simp
    | cons a t => simp [out, wet, behind]
  · rfl
theorem wet_behind_nil (c : Cmd) (n : Nat) (dry : Bool) : wet dry (behind c n []) = more := wet_more dry
end Phr
open Phr (EndsAs wet)
set_option maxHeartbeats 1000000 in
set_option maxRecDepth 100000 in
theorem phr_sign_nil {g : Nat} {w : World} {c : Cmd} {dry : Bool} (h : Rdr g w c [] dry) :
    Calls Tryz.prog 46 #[.pointer (some ⟨g, 0, none⟩)] w (EndsAs g w (Phr.more)) := by
  have C := Lib.hid (phr_next_none h)
  have K := Lib.hid (fun w => key_Sign (bs []) (by decide) w)
  have q : ((bs []).toList == [9]) = false := by rw [bs_tl]; rfl
  rw [show (Utf.one (bs []).data.toList && Key.sgn (bs []).data.toList) = false from rfl] at K
  clear h
  go_enter Tryz.func46, Tryz.ntmps46
  go_wp2_with (first
    | (go_at_call 42; refine C.out.mono ?_; rintro e w1 ⟨rfl, h1, g1⟩; have c4 := h1.cell4; have f4 := h1.frozen 4; have S1 : Hid (Rdr g (w1.setCell ⟨g, 4, none⟩ (.string (bs []))) {c with arg := []} [] true) := Lib.hid (h1.set_ (fun v => rfl)); have x4 : (w1.setCell ⟨g, 4, none⟩ (.string (bs []))).cell? ⟨g, 4, none⟩ = some (.string (bs [])) := S1.out.cell4; clear h1)
    | (go_at_call 56; refine (K.out _).mono ?_; rintro e w2 ⟨rfl, g2⟩; have S2 := Lib.hid (S1.out.grown (gb_below none g2)); have y4 : w2.cell? ⟨g, 4, none⟩ = some (.string (bs [])) := S2.out.cell4; have gg := gb_trans (gb_trans g1 (gb_set w1 g 4 (.string (bs [])))) (gb_below (some g) g2); clear S1 g2))
  go_ret
  exact ⟨gg, _, _, _, _, rfl, S2.out, rfl⟩
set_option maxHeartbeats 1000000 in
set_option maxRecDepth 100000 in
theorem phr_sign_yes {g : Nat} {w : World} {c : Cmd} {dry : Bool} {k : List UInt8} {t : List (List UInt8)} (h : Rdr g w c (k :: t) dry) (hs : (Utf.one k && Key.sgn k) = true) :
    Calls Tryz.prog 46 #[.pointer (some ⟨g, 0, none⟩)] w (EndsAs g w (wet dry (Phr.behind c 2 (k :: t)))) := by
  have C := Lib.hid (phr_next h)
  have hk9 : (bs k).size ≤ 9223372036854775807 := by rw [bs_size]; have := Utf.one_le (h.ones k (by simp)); omega
  have K := Lib.hid (fun w => key_Sign (bs k) hk9 w)
  rw [show (Utf.one (bs k).data.toList && Key.sgn (bs k).data.toList) = true from hs] at K
  have HF : Hid (true = Phr.fits 2 k) := Lib.hid (by simp [Phr.fits, Phr.sign, hs])
  clear hk9 hs
  clear h
  go_enter Tryz.func46, Tryz.ntmps46
  go_wp2_with (first
    | (go_at_call 42; refine C.out.mono ?_; rintro e w1 ⟨rfl, h1, g1⟩; have c4 := h1.cell4; have f4 := h1.frozen 4; have S1 : Hid (Rdr g (w1.setCell ⟨g, 4, none⟩ (.string (bs k))) {c with arg := k} t dry) := Lib.hid (h1.set_ (fun v => rfl)); have x4 : (w1.setCell ⟨g, 4, none⟩ (.string (bs k))).cell? ⟨g, 4, none⟩ = some (.string (bs k)) := S1.out.cell4; clear h1)
    | (go_at_call 56; refine (K.out _).mono ?_; rintro e w2 ⟨rfl, g2⟩; have S2 := Lib.hid (S1.out.grown (gb_below none g2)); have y4 : w2.cell? ⟨g, 4, none⟩ = some (.string (bs k)) := S2.out.cell4; have gg := gb_trans (gb_trans g1 (gb_set w1 g 4 (.string (bs k)))) (gb_below (some g) g2); clear S1 g2))
  go_ret
  exact ⟨gg, _, _, _, _, rfl, S2.out, Phr.out_behind HF.out⟩
set_option maxHeartbeats 1000000 in
set_option maxRecDepth 100000 in
theorem phr_sign_not {g : Nat} {w : World} {c : Cmd} {dry : Bool} {k : List UInt8} {t : List (List UInt8)} (h : Rdr g w c (k :: t) dry) (hs : (Utf.one k && Key.sgn k) = false) :
    Calls Tryz.prog 46 #[.pointer (some ⟨g, 0, none⟩)] w (EndsAs g w (wet dry (Phr.behind c 2 (k :: t)))) := by
  have C := Lib.hid (phr_next h)
  have hk9 : (bs k).size ≤ 9223372036854775807 := by rw [bs_size]; have := Utf.one_le (h.ones k (by simp)); omega
  have K := Lib.hid (fun w => key_Sign (bs k) hk9 w)
  rw [show (Utf.one (bs k).data.toList && Key.sgn (bs k).data.toList) = false from hs] at K
  have HF : Hid (((bs k).toList == [9]) = Phr.fits 2 k) := Lib.hid (by show _ = Phr.sign k; rw [Phr.sign, hs, Bool.false_or, Bool.eq_iff_iff]; simp [bs_tl])
  clear hk9 hs
  clear h
  go_enter Tryz.func46, Tryz.ntmps46
  go_wp2_with (first
    | (go_at_call 42; refine C.out.mono ?_; rintro e w1 ⟨rfl, h1, g1⟩; have c4 := h1.cell4; have f4 := h1.frozen 4; have S1 : Hid (Rdr g (w1.setCell ⟨g, 4, none⟩ (.string (bs k))) {c with arg := k} t dry) := Lib.hid (h1.set_ (fun v => rfl)); have x4 : (w1.setCell ⟨g, 4, none⟩ (.string (bs k))).cell? ⟨g, 4, none⟩ = some (.string (bs k)) := S1.out.cell4; clear h1)
    | (go_at_call 56; refine (K.out _).mono ?_; rintro e w2 ⟨rfl, g2⟩; have S2 := Lib.hid (S1.out.grown (gb_below none g2)); have y4 : w2.cell? ⟨g, 4, none⟩ = some (.string (bs k)) := S2.out.cell4; have gg := gb_trans (gb_trans g1 (gb_set w1 g 4 (.string (bs k)))) (gb_below (some g) g2); clear S1 g2))
  go_ret
  exact ⟨gg, _, _, _, _, rfl, S2.out, Phr.out_behind HF.out⟩
theorem phr_sign {g : Nat} {w : World} {c : Cmd} {dry : Bool} {ks : List (List UInt8)} (h : Rdr g w c ks dry) :
    Calls Tryz.prog 46 #[.pointer (some ⟨g, 0, none⟩)] w (EndsAs g w (wet dry (Phr.behind c 2 ks))) := by
  cases ks with
  | nil => rw [Phr.wet_behind_nil]; exact phr_sign_nil h
  | cons k t =>
    cases hs : (Utf.one k && Key.sgn k) with
    | true => exact phr_sign_yes h hs
    | false => exact phr_sign_not h hs
set_option maxHeartbeats 1000000 in
set_option maxRecDepth 100000 in
theorem phr_letter_nil {g : Nat} {w : World} {c : Cmd} {dry : Bool} (h : Rdr g w c [] dry) :
    Calls Tryz.prog 47 #[.pointer (some ⟨g, 0, none⟩)] w (EndsAs g w (Phr.more)) := by
  have C := Lib.hid (phr_next_none h)
  have L : Op.bytesLess (bs []).toList [97] = true := by rw [bs_tl]; rfl
  clear h
  go_enter Tryz.func47, Tryz.ntmps47
  go_wp2_with (first
    | (go_at_call 42; refine C.out.mono ?_; rintro e w1 ⟨rfl, h1, g1⟩; have c4 := h1.cell4; have f4 := h1.frozen 4; have S1 : Hid (Rdr g (w1.setCell ⟨g, 4, none⟩ (.string (bs []))) {c with arg := []} [] true) := Lib.hid (h1.set_ (fun v => rfl)); have x4 : (w1.setCell ⟨g, 4, none⟩ (.string (bs []))).cell? ⟨g, 4, none⟩ = some (.string (bs [])) := S1.out.cell4; clear h1))
  go_ret
  exact ⟨gb_trans g1 (gb_set w1 g 4 (.string (bs []))), _, _, _, _, rfl, S1.out, rfl⟩
set_option maxHeartbeats 1000000 in
set_option maxRecDepth 100000 in
theorem phr_letter_low {g : Nat} {w : World} {c : Cmd} {dry : Bool} {k : List UInt8} {t : List (List UInt8)} (h : Rdr g w c (k :: t) dry) (hs : Op.bytesLess (bs k).toList [97] = true) :
    Calls Tryz.prog 47 #[.pointer (some ⟨g, 0, none⟩)] w (EndsAs g w (wet dry (Phr.behind c 3 (k :: t)))) := by
  have C := Lib.hid (phr_next h)
  have HF : Hid (false = Phr.fits 3 k) := Lib.hid (by show false = Phr.letter k; rw [Phr.letter_test (.inr (h.ones k (by simp))), hs]; rfl)
  clear h
  go_enter Tryz.func47, Tryz.ntmps47
  go_wp2_with (first
    | (go_at_call 42; refine C.out.mono ?_; rintro e w1 ⟨rfl, h1, g1⟩; have c4 := h1.cell4; have f4 := h1.frozen 4; have S1 : Hid (Rdr g (w1.setCell ⟨g, 4, none⟩ (.string (bs k))) {c with arg := k} t dry) := Lib.hid (h1.set_ (fun v => rfl)); have x4 : (w1.setCell ⟨g, 4, none⟩ (.string (bs k))).cell? ⟨g, 4, none⟩ = some (.string (bs k)) := S1.out.cell4; clear h1))
  go_ret
  exact ⟨gb_trans g1 (gb_set w1 g 4 (.string (bs k))), _, _, _, _, rfl, S1.out, Phr.out_behind HF.out⟩
set_option maxHeartbeats 1000000 in
set_option maxRecDepth 100000 in
theorem phr_letter_on {g : Nat} {w : World} {c : Cmd} {dry : Bool} {k : List UInt8} {t : List (List UInt8)} (h : Rdr g w c (k :: t) dry) (hs : Op.bytesLess (bs k).toList [97] = false) :
    Calls Tryz.prog 47 #[.pointer (some ⟨g, 0, none⟩)] w (EndsAs g w (wet dry (Phr.behind c 3 (k :: t)))) := by
  have C := Lib.hid (phr_next h)
  have HF : Hid ((Op.bytesLess (bs k).toList [122] || (bs k).toList == [122]) = Phr.fits 3 k) := Lib.hid (by show _ = Phr.letter k; rw [Phr.letter_test (.inr (h.ones k (by simp))), hs]; rfl)
  clear h
  go_enter Tryz.func47, Tryz.ntmps47
  go_wp2_with (first
    | (go_at_call 42; refine C.out.mono ?_; rintro e w1 ⟨rfl, h1, g1⟩; have c4 := h1.cell4; have f4 := h1.frozen 4; have S1 : Hid (Rdr g (w1.setCell ⟨g, 4, none⟩ (.string (bs k))) {c with arg := k} t dry) := Lib.hid (h1.set_ (fun v => rfl)); have x4 : (w1.setCell ⟨g, 4, none⟩ (.string (bs k))).cell? ⟨g, 4, none⟩ = some (.string (bs k)) := S1.out.cell4; clear h1))
  go_ret
  exact ⟨gb_trans g1 (gb_set w1 g 4 (.string (bs k))), _, _, _, _, rfl, S1.out, Phr.out_behind HF.out⟩
theorem phr_letter {g : Nat} {w : World} {c : Cmd} {dry : Bool} {ks : List (List UInt8)} (h : Rdr g w c ks dry) :
    Calls Tryz.prog 47 #[.pointer (some ⟨g, 0, none⟩)] w (EndsAs g w (wet dry (Phr.behind c 3 ks))) := by
  cases ks with
  | nil => rw [Phr.wet_behind_nil]; exact phr_letter_nil h
  | cons k t =>
    cases hs : Op.bytesLess (bs k).toList [97] with
    | true => exact phr_letter_low h hs
    | false => exact phr_letter_on h hs
set_option maxHeartbeats 1000000 in
set_option maxRecDepth 100000 in
theorem phr_part_nil {g : Nat} {w : World} {c : Cmd} {dry : Bool} (x : List UInt8) (h : Rdr g w c [] dry) :
    Calls Tryz.prog 48 #[.pointer (some ⟨g, 0, none⟩), .string (bs x)] w (EndsAs g w (Phr.more)) := by
  have C := Lib.hid (phr_next_none h)
  have hk9 : (bs []).size ≤ 9223372036854775807 := by decide
  have K := Lib.hid (fun w => thing_Has (bs []) hk9 w)
  rw [bs_toList] at K

  clear h
  go_enter Tryz.func48, Tryz.ntmps48
  go_wp2_with (first
    | (go_at_call 42; refine C.out.mono ?_; rintro e w1 ⟨rfl, h1, g1⟩; have c3 := h1.cell3; have f3 := h1.frozen 3; have S0 : Hid (Rdr g (w1.setCell ⟨g, 3, none⟩ (.string (bs x))) {c with key := x} [] true) := Lib.hid (h1.set_ (fun v => rfl)); have c4 := S0.out.cell4; have f4 := S0.out.frozen 4; have S1 : Hid (Rdr g ((w1.setCell ⟨g, 3, none⟩ (.string (bs x))).setCell ⟨g, 4, none⟩ (.string (bs []))) {c with key := x, arg := []} [] true) := Lib.hid (S0.out.set_ (fun v => rfl)); have x4 : ((w1.setCell ⟨g, 3, none⟩ (.string (bs x))).setCell ⟨g, 4, none⟩ (.string (bs []))).cell? ⟨g, 4, none⟩ = some (.string (bs [])) := S1.out.cell4; simp only at c4; clear h1 S0)
    | (go_at_call 57; refine (K.out _).mono ?_; rintro e w2 ⟨rfl, g2⟩; have S2 := Lib.hid (S1.out.grown (gb_below none g2)); have gg := gb_trans (gb_trans (gb_trans g1 (gb_set w1 g 3 (.string (bs x)))) (gb_set _ g 4 (.string (bs [])))) (gb_below (some g) g2); clear S1 g2))
  go_ret
  exact ⟨gg, _, _, _, _, rfl, S2.out, rfl⟩
set_option maxHeartbeats 1000000 in
set_option maxRecDepth 100000 in
theorem phr_part_key {g : Nat} {w : World} {c : Cmd} {dry : Bool} (x : List UInt8) {k : List UInt8} {t : List (List UInt8)} (h : Rdr g w c (k :: t) dry) :
    Calls Tryz.prog 48 #[.pointer (some ⟨g, 0, none⟩), .string (bs x)] w (EndsAs g w (wet dry (Phr.behind {c with key := x} 1 (k :: t)))) := by
  have C := Lib.hid (phr_next h)
  have hk9 : (bs k).size ≤ 9223372036854775807 := by rw [bs_size]; have := Utf.one_le (h.ones k (by simp)); omega
  have K := Lib.hid (fun w => thing_Has (bs k) hk9 w)
  rw [bs_toList] at K
  have HF : Hid ((Thing.num k).isSome = Phr.fits 1 k) := Lib.hid rfl
  generalize (Thing.num k).isSome = z at *
  clear h
  go_enter Tryz.func48, Tryz.ntmps48
  go_wp2_with (first
    | (go_at_call 42; refine C.out.mono ?_; rintro e w1 ⟨rfl, h1, g1⟩; have c3 := h1.cell3; have f3 := h1.frozen 3; have S0 : Hid (Rdr g (w1.setCell ⟨g, 3, none⟩ (.string (bs x))) {c with key := x} t dry) := Lib.hid (h1.set_ (fun v => rfl)); have c4 := S0.out.cell4; have f4 := S0.out.frozen 4; have S1 : Hid (Rdr g ((w1.setCell ⟨g, 3, none⟩ (.string (bs x))).setCell ⟨g, 4, none⟩ (.string (bs k))) {c with key := x, arg := k} t dry) := Lib.hid (S0.out.set_ (fun v => rfl)); have x4 : ((w1.setCell ⟨g, 3, none⟩ (.string (bs x))).setCell ⟨g, 4, none⟩ (.string (bs k))).cell? ⟨g, 4, none⟩ = some (.string (bs k)) := S1.out.cell4; simp only at c4; clear h1 S0)
    | (go_at_call 57; refine (K.out _).mono ?_; rintro e w2 ⟨rfl, g2⟩; have S2 := Lib.hid (S1.out.grown (gb_below none g2)); have gg := gb_trans (gb_trans (gb_trans g1 (gb_set w1 g 3 (.string (bs x)))) (gb_set _ g 4 (.string (bs k)))) (gb_below (some g) g2); clear S1 g2))
  go_ret
  exact ⟨gg, _, _, _, _, rfl, S2.out, Phr.out_behind (c := {c with key := x}) HF.out⟩
theorem phr_part {g : Nat} {w : World} {c : Cmd} {dry : Bool} {ks : List (List UInt8)} (x : List UInt8) (h : Rdr g w c ks dry) :
    Calls Tryz.prog 48 #[.pointer (some ⟨g, 0, none⟩), .string (bs x)] w (EndsAs g w (wet dry (Phr.goes {c with key := x} 1 ks))) := by
  cases ks with
  | nil => rw [show wet dry (Phr.goes {c with key := x} 1 []) = Phr.more from Phr.wet_more dry]; exact phr_part_nil x h
  | cons k t => exact phr_part_key x h
set_option maxHeartbeats 1000000 in
set_option maxRecDepth 100000 in
theorem phr_motion_102 {g : Nat} {w : World} {c : Cmd} {dry : Bool} {ks : List (List UInt8)} {x : List UInt8} (h : Rdr g w c ks dry) (q0 : ((bs x).toList == [102]) = true) :
    Calls Tryz.prog 22 #[.pointer (some ⟨g, 0, none⟩), .string (bs x)] w (EndsAs g w (wet dry (Phr.behind {c with key := x} 2 ks))) := by
  have c3 := h.cell3
  have f3 := h.frozen 3
  have S0 : Hid (Rdr g (w.setCell ⟨g, 3, none⟩ (.string (bs x))) {c with key := x} ks dry) := Lib.hid (h.set_ (fun v => rfl))
  have C := Lib.hid (phr_sign S0.out)
  clear h
  go_enter Tryz.func22, Tryz.ntmps22
  go_wp2_with (first
    | (go_at_call 46; refine C.out.mono ?_; rintro e w1 ⟨g1, read, d1, c1, l1, rfl, h1, e1⟩))
  go_ret
  exact ⟨gb_trans (gb_set w g 3 (.string (bs x))) g1, _, _, _, _, rfl, h1, e1⟩
set_option maxHeartbeats 1000000 in
set_option maxRecDepth 100000 in
theorem phr_motion_70 {g : Nat} {w : World} {c : Cmd} {dry : Bool} {ks : List (List UInt8)} {x : List UInt8} (h : Rdr g w c ks dry) (q0 : ((bs x).toList == [102]) = false) (q1 : ((bs x).toList == [70]) = true) :
    Calls Tryz.prog 22 #[.pointer (some ⟨g, 0, none⟩), .string (bs x)] w (EndsAs g w (wet dry (Phr.behind {c with key := x} 2 ks))) := by
  have c3 := h.cell3
  have f3 := h.frozen 3
  have S0 : Hid (Rdr g (w.setCell ⟨g, 3, none⟩ (.string (bs x))) {c with key := x} ks dry) := Lib.hid (h.set_ (fun v => rfl))
  have C := Lib.hid (phr_sign S0.out)
  clear h
  go_enter Tryz.func22, Tryz.ntmps22
  go_wp2_with (first
    | (go_at_call 46; refine C.out.mono ?_; rintro e w1 ⟨g1, read, d1, c1, l1, rfl, h1, e1⟩))
  go_ret
  exact ⟨gb_trans (gb_set w g 3 (.string (bs x))) g1, _, _, _, _, rfl, h1, e1⟩
set_option maxHeartbeats 1000000 in
set_option maxRecDepth 100000 in
theorem phr_motion_116 {g : Nat} {w : World} {c : Cmd} {dry : Bool} {ks : List (List UInt8)} {x : List UInt8} (h : Rdr g w c ks dry) (q0 : ((bs x).toList == [102]) = false) (q1 : ((bs x).toList == [70]) = false) (q2 : ((bs x).toList == [116]) = true) :
    Calls Tryz.prog 22 #[.pointer (some ⟨g, 0, none⟩), .string (bs x)] w (EndsAs g w (wet dry (Phr.behind {c with key := x} 2 ks))) := by
  have c3 := h.cell3
  have f3 := h.frozen 3
  have S0 : Hid (Rdr g (w.setCell ⟨g, 3, none⟩ (.string (bs x))) {c with key := x} ks dry) := Lib.hid (h.set_ (fun v => rfl))
  have C := Lib.hid (phr_sign S0.out)
  clear h
  go_enter Tryz.func22, Tryz.ntmps22
  go_wp2_with (first
    | (go_at_call 46; refine C.out.mono ?_; rintro e w1 ⟨g1, read, d1, c1, l1, rfl, h1, e1⟩))
  go_ret
  exact ⟨gb_trans (gb_set w g 3 (.string (bs x))) g1, _, _, _, _, rfl, h1, e1⟩
set_option maxHeartbeats 1000000 in
set_option maxRecDepth 100000 in
theorem phr_motion_84 {g : Nat} {w : World} {c : Cmd} {dry : Bool} {ks : List (List UInt8)} {x : List UInt8} (h : Rdr g w c ks dry) (q0 : ((bs x).toList == [102]) = false) (q1 : ((bs x).toList == [70]) = false) (q2 : ((bs x).toList == [116]) = false) (q3 : ((bs x).toList == [84]) = true) :
    Calls Tryz.prog 22 #[.pointer (some ⟨g, 0, none⟩), .string (bs x)] w (EndsAs g w (wet dry (Phr.behind {c with key := x} 2 ks))) := by
  have c3 := h.cell3
  have f3 := h.frozen 3
  have S0 : Hid (Rdr g (w.setCell ⟨g, 3, none⟩ (.string (bs x))) {c with key := x} ks dry) := Lib.hid (h.set_ (fun v => rfl))
  have C := Lib.hid (phr_sign S0.out)
  clear h
  go_enter Tryz.func22, Tryz.ntmps22
  go_wp2_with (first
    | (go_at_call 46; refine C.out.mono ?_; rintro e w1 ⟨g1, read, d1, c1, l1, rfl, h1, e1⟩))
  go_ret
  exact ⟨gb_trans (gb_set w g 3 (.string (bs x))) g1, _, _, _, _, rfl, h1, e1⟩
set_option maxHeartbeats 1000000 in
set_option maxRecDepth 100000 in
theorem phr_motion_39 {g : Nat} {w : World} {c : Cmd} {dry : Bool} {ks : List (List UInt8)} {x : List UInt8} (h : Rdr g w c ks dry) (q0 : ((bs x).toList == [102]) = false) (q1 : ((bs x).toList == [70]) = false) (q2 : ((bs x).toList == [116]) = false) (q3 : ((bs x).toList == [84]) = false) (q4 : ((bs x).toList == [39]) = true) :
    Calls Tryz.prog 22 #[.pointer (some ⟨g, 0, none⟩), .string (bs x)] w (EndsAs g w (wet dry (Phr.behind {c with key := x} 3 ks))) := by
  have c3 := h.cell3
  have f3 := h.frozen 3
  have S0 : Hid (Rdr g (w.setCell ⟨g, 3, none⟩ (.string (bs x))) {c with key := x} ks dry) := Lib.hid (h.set_ (fun v => rfl))
  have C := Lib.hid (phr_letter S0.out)
  clear h
  go_enter Tryz.func22, Tryz.ntmps22
  go_wp2_with (first
    | (go_at_call 47; refine C.out.mono ?_; rintro e w1 ⟨g1, read, d1, c1, l1, rfl, h1, e1⟩))
  go_ret
  exact ⟨gb_trans (gb_set w g 3 (.string (bs x))) g1, _, _, _, _, rfl, h1, e1⟩
set_option maxHeartbeats 1000000 in
set_option maxRecDepth 100000 in
theorem phr_motion_96 {g : Nat} {w : World} {c : Cmd} {dry : Bool} {ks : List (List UInt8)} {x : List UInt8} (h : Rdr g w c ks dry) (q0 : ((bs x).toList == [102]) = false) (q1 : ((bs x).toList == [70]) = false) (q2 : ((bs x).toList == [116]) = false) (q3 : ((bs x).toList == [84]) = false) (q4 : ((bs x).toList == [39]) = false) (q5 : ((bs x).toList == [96]) = true) :
    Calls Tryz.prog 22 #[.pointer (some ⟨g, 0, none⟩), .string (bs x)] w (EndsAs g w (wet dry (Phr.behind {c with key := x} 3 ks))) := by
  have c3 := h.cell3
  have f3 := h.frozen 3
  have S0 : Hid (Rdr g (w.setCell ⟨g, 3, none⟩ (.string (bs x))) {c with key := x} ks dry) := Lib.hid (h.set_ (fun v => rfl))
  have C := Lib.hid (phr_letter S0.out)
  clear h
  go_enter Tryz.func22, Tryz.ntmps22
  go_wp2_with (first
    | (go_at_call 47; refine C.out.mono ?_; rintro e w1 ⟨g1, read, d1, c1, l1, rfl, h1, e1⟩))
  go_ret
  exact ⟨gb_trans (gb_set w g 3 (.string (bs x))) g1, _, _, _, _, rfl, h1, e1⟩
set_option maxHeartbeats 1000000 in
set_option maxRecDepth 100000 in
theorem phr_motion_bare {g : Nat} {w : World} {c : Cmd} {dry : Bool} {ks : List (List UInt8)} {x : List UInt8} (h : Rdr g w c ks dry) (q0 : ((bs x).toList == [102]) = false) (q1 : ((bs x).toList == [70]) = false) (q2 : ((bs x).toList == [116]) = false) (q3 : ((bs x).toList == [84]) = false) (q4 : ((bs x).toList == [39]) = false) (q5 : ((bs x).toList == [96]) = false) :
    Calls Tryz.prog 22 #[.pointer (some ⟨g, 0, none⟩), .string (bs x)] w (EndsAs g w (wet dry (Phr.last {c with key := x} ks))) := by
  have c3 := h.cell3
  have f3 := h.frozen 3
  have S0 : Hid (Rdr g (w.setCell ⟨g, 3, none⟩ (.string (bs x))) {c with key := x} ks dry) := Lib.hid (h.set_ (fun v => rfl))

  clear h
  go_enter Tryz.func22, Tryz.ntmps22
  go_wp2
  go_ret
  exact ⟨gb_set w g 3 (.string (bs x)), _, _, _, _, rfl, S0.out, Phr.out_last _ _ _⟩
theorem Phr.bs_test (x l : List UInt8) : ((bs x).toList == l) = decide (x = l) := by rw [Span.key_test, bs_toList]
theorem phr_motion {g : Nat} {w : World} {c : Cmd} {dry : Bool} {ks : List (List UInt8)} {x : List UInt8} {n : Nat} (h : Rdr g w c ks dry) (hm : Phr.mot x = some n) :
    Calls Tryz.prog 22 #[.pointer (some ⟨g, 0, none⟩), .string (bs x)] w (EndsAs g w (wet dry (Phr.goes {c with key := x} n ks))) := by
  unfold Phr.mot at hm
  by_cases h1 : x ∈ Phr.finds
  · rw [if_pos h1] at hm
    injection hm with hm
    subst hm
    simp only [Phr.finds, List.mem_cons, List.not_mem_nil, or_false] at h1
    rcases h1 with rfl | rfl | rfl | rfl
    · exact phr_motion_102 h (by rw [Phr.bs_test]; rfl)
    · exact phr_motion_70 h (by rw [Phr.bs_test]; rfl) (by rw [Phr.bs_test]; rfl)
    · exact phr_motion_116 h (by rw [Phr.bs_test]; rfl) (by rw [Phr.bs_test]; rfl) (by rw [Phr.bs_test]; rfl)
    · exact phr_motion_84 h (by rw [Phr.bs_test]; rfl) (by rw [Phr.bs_test]; rfl) (by rw [Phr.bs_test]; rfl) (by rw [Phr.bs_test]; rfl)
  rw [if_neg h1] at hm
  by_cases h2 : x ∈ Phr.marks
  · rw [if_pos h2] at hm
    injection hm with hm
    subst hm
    simp only [Phr.marks, List.mem_cons, List.not_mem_nil, or_false] at h2
    rcases h2 with rfl | rfl
    · exact phr_motion_39 h (by rw [Phr.bs_test]; rfl) (by rw [Phr.bs_test]; rfl) (by rw [Phr.bs_test]; rfl) (by rw [Phr.bs_test]; rfl) (by rw [Phr.bs_test]; rfl)
    · exact phr_motion_96 h (by rw [Phr.bs_test]; rfl) (by rw [Phr.bs_test]; rfl) (by rw [Phr.bs_test]; rfl) (by rw [Phr.bs_test]; rfl) (by rw [Phr.bs_test]; rfl) (by rw [Phr.bs_test]; rfl)
  rw [if_neg h2] at hm
  split at hm
  · injection hm with hm
    subst hm
    simp only [Phr.finds, Phr.marks, List.mem_cons, List.not_mem_nil, or_false, not_or] at h1 h2
    refine phr_motion_bare h ?_ ?_ ?_ ?_ ?_ ?_ <;> rw [Phr.bs_test] <;> simp [h1, h2]
  · cases hm
end Go.Proofs.YtchpkeelnfmlbaaGreat
/-
  The reader's tables: which words are motions and operators, what a word does without a motion, and what it does with what is marked.
-/
namespace Go.Proofs.YtchpkeelnfmlbaaGreat
open Go.RowKit
open Phr (Cmd Ans Rdr EndsAs wet)
namespace Phr
theorem yes {x l : List UInt8} (h : ((bs x).toList == l) = true) : x = l := by rw [bs_test] at h; exact of_decide_eq_true h
theorem no {x l : List UInt8} (h : ((bs x).toList == l) = false) : x ≠ l := by rw [bs_test] at h; exact of_decide_eq_false h
theorem mot_some {x : List UInt8} : (mot x).isSome = true ↔ x ∈ finds ∨ x ∈ marks ∨ x ∈ bare := by
  unfold mot
  by_cases h1 : x ∈ finds
  · simp [h1]
  · by_cases h2 : x ∈ marks
    · simp [h1, h2]
    · by_cases h3 : x ∈ bare <;> simp [h1, h2, h3]
theorem mot_kind {x : List UInt8} : (mot x).isSome = true ↔ x = [59] ∨ x = [44] ∨ Span.kind x ≠ 0 := by
  constructor
  · intro h
    have h2 := mot_some.1 h
    simp only [finds, marks, bare, List.mem_cons, List.not_mem_nil, or_false] at h2
    rcases h2 with (rfl | rfl | rfl | rfl) | (rfl | rfl) | h2 <;> try decide
    rcases h2 with rfl | rfl | rfl | rfl | rfl | rfl | rfl | rfl | rfl | rfl | rfl | rfl | rfl | rfl | rfl | rfl | rfl | rfl | rfl | rfl | rfl | rfl | rfl <;> decide
  · rintro (rfl | rfl | h)
    · decide
    · decide
    · by_cases h1 : x ∈ Span.short
      · simp only [Span.short, List.mem_cons, List.not_mem_nil, or_false] at h1
        rcases h1 with rfl | rfl | rfl | rfl | rfl | rfl | rfl | rfl | rfl | rfl | rfl | rfl | rfl | rfl | rfl | rfl | rfl <;> decide
      by_cases h2 : x ∈ Span.long
      · simp only [Span.long, List.mem_cons, List.not_mem_nil, or_false] at h2
        rcases h2 with rfl | rfl | rfl | rfl | rfl <;> decide
      by_cases h3 : x ∈ Span.whole
      · simp only [Span.whole, List.mem_cons, List.not_mem_nil, or_false] at h3
        rcases h3 with rfl | rfl | rfl | rfl | rfl <;> decide
      exact absurd (Span.kind_none h1 h2 h3) h
end Phr
set_option maxHeartbeats 1000000 in
set_option maxRecDepth 100000 in
theorem phr_Motion_0 (x : List UInt8) (q0 : ((bs x).toList == [59]) = true) (w : World) :
    Calls Tryz.prog 21 #[.string (bs x)] w fun e w' => e = .returned (.bool true) ∧ w = w' := by
  go_enter Tryz.func21, Tryz.ntmps21
  go_wp2
  go_ret
  exact ⟨rfl, rfl⟩
set_option maxHeartbeats 1000000 in
set_option maxRecDepth 100000 in
theorem phr_Motion_1 (x : List UInt8) (q0 : ((bs x).toList == [59]) = false) (q1 : ((bs x).toList == [44]) = true) (w : World) :
    Calls Tryz.prog 21 #[.string (bs x)] w fun e w' => e = .returned (.bool true) ∧ w = w' := by
  go_enter Tryz.func21, Tryz.ntmps21
  go_wp2
  go_ret
  exact ⟨rfl, rfl⟩
set_option maxHeartbeats 1000000 in
set_option maxRecDepth 100000 in
theorem phr_Motion_2 (x : List UInt8) (q0 : ((bs x).toList == [59]) = false) (q1 : ((bs x).toList == [44]) = false) (w : World) :
    Calls Tryz.prog 21 #[.string (bs x)] w fun e w' => e = .returned (.bool !decide (Span.kind x = 0)) ∧ w = w' := by
  have K := Lib.hid (fun w => span_Kind (bs x) w)
  rw [bs_toList] at K
  have H : Hid ((((Span.kind x : Nat) : Int) != 0) = (!decide (Span.kind x = 0))) := Lib.hid (by rw [Bool.eq_iff_iff]; simp)
  go_enter Tryz.func21, Tryz.ntmps21
  go_wp2_with ((go_at_call 45; refine (K.out _).mono ?_; rintro e w1 ⟨rfl, rfl⟩))
  go_ret
  exact ⟨by rw [← H.out]; rfl, rfl⟩
theorem phr_Motion (x : List UInt8) (w : World) :
    Calls Tryz.prog 21 #[.string (bs x)] w fun e w' => e = .returned (.bool (Phr.mot x).isSome) ∧ w = w' := by
  rcases Bool.eq_false_or_eq_true ((bs x).toList == [59]) with q0 | q0
  · rw [show (Phr.mot x).isSome = true by rw [Phr.yes q0]; decide]; exact phr_Motion_0 x q0 w
  rcases Bool.eq_false_or_eq_true ((bs x).toList == [44]) with q1 | q1
  · rw [show (Phr.mot x).isSome = true by rw [Phr.yes q1]; decide]; exact phr_Motion_1 x q0 q1 w
  have e : (Phr.mot x).isSome = !decide (Span.kind x = 0) := by
    rw [Bool.eq_iff_iff, Phr.mot_kind]
    simp [Phr.no q0, Phr.no q1]
  rw [e]
  exact phr_Motion_2 x q0 q1 w
set_option maxHeartbeats 1000000 in
set_option maxRecDepth 100000 in
theorem phr_operator_0 (x : List UInt8) (q0 : ((bs x).toList == [100]) = true) (w : World) :
    Calls Tryz.prog 24 #[.string (bs x)] w fun e w' => e = .returned (.bool true) ∧ w = w' := by
  go_enter Tryz.func24, Tryz.ntmps24
  go_wp2
  go_ret
  exact ⟨rfl, rfl⟩
set_option maxHeartbeats 1000000 in
set_option maxRecDepth 100000 in
theorem phr_operator_1 (x : List UInt8) (q0 : ((bs x).toList == [100]) = false) (q1 : ((bs x).toList == [99]) = true) (w : World) :
    Calls Tryz.prog 24 #[.string (bs x)] w fun e w' => e = .returned (.bool true) ∧ w = w' := by
  go_enter Tryz.func24, Tryz.ntmps24
  go_wp2
  go_ret
  exact ⟨rfl, rfl⟩
set_option maxHeartbeats 1000000 in
set_option maxRecDepth 100000 in
theorem phr_operator_2 (x : List UInt8) (q0 : ((bs x).toList == [100]) = false) (q1 : ((bs x).toList == [99]) = false) (q2 : ((bs x).toList == [121]) = true) (w : World) :
    Calls Tryz.prog 24 #[.string (bs x)] w fun e w' => e = .returned (.bool true) ∧ w = w' := by
  go_enter Tryz.func24, Tryz.ntmps24
  go_wp2
  go_ret
  exact ⟨rfl, rfl⟩
set_option maxHeartbeats 1000000 in
set_option maxRecDepth 100000 in
theorem phr_operator_3 (x : List UInt8) (q0 : ((bs x).toList == [100]) = false) (q1 : ((bs x).toList == [99]) = false) (q2 : ((bs x).toList == [121]) = false) (q3 : ((bs x).toList == [62]) = true) (w : World) :
    Calls Tryz.prog 24 #[.string (bs x)] w fun e w' => e = .returned (.bool true) ∧ w = w' := by
  go_enter Tryz.func24, Tryz.ntmps24
  go_wp2
  go_ret
  exact ⟨rfl, rfl⟩
set_option maxHeartbeats 1000000 in
set_option maxRecDepth 100000 in
theorem phr_operator_4 (x : List UInt8) (q0 : ((bs x).toList == [100]) = false) (q1 : ((bs x).toList == [99]) = false) (q2 : ((bs x).toList == [121]) = false) (q3 : ((bs x).toList == [62]) = false) (q4 : ((bs x).toList == [60]) = true) (w : World) :
    Calls Tryz.prog 24 #[.string (bs x)] w fun e w' => e = .returned (.bool true) ∧ w = w' := by
  go_enter Tryz.func24, Tryz.ntmps24
  go_wp2
  go_ret
  exact ⟨rfl, rfl⟩
set_option maxHeartbeats 1000000 in
set_option maxRecDepth 100000 in
theorem phr_operator_5 (x : List UInt8) (q0 : ((bs x).toList == [100]) = false) (q1 : ((bs x).toList == [99]) = false) (q2 : ((bs x).toList == [121]) = false) (q3 : ((bs x).toList == [62]) = false) (q4 : ((bs x).toList == [60]) = false) (q5 : ((bs x).toList == [103, 117]) = true) (w : World) :
    Calls Tryz.prog 24 #[.string (bs x)] w fun e w' => e = .returned (.bool true) ∧ w = w' := by
  go_enter Tryz.func24, Tryz.ntmps24
  go_wp2
  go_ret
  exact ⟨rfl, rfl⟩
set_option maxHeartbeats 1000000 in
set_option maxRecDepth 100000 in
theorem phr_operator_6 (x : List UInt8) (q0 : ((bs x).toList == [100]) = false) (q1 : ((bs x).toList == [99]) = false) (q2 : ((bs x).toList == [121]) = false) (q3 : ((bs x).toList == [62]) = false) (q4 : ((bs x).toList == [60]) = false) (q5 : ((bs x).toList == [103, 117]) = false) (q6 : ((bs x).toList == [103, 85]) = true) (w : World) :
    Calls Tryz.prog 24 #[.string (bs x)] w fun e w' => e = .returned (.bool true) ∧ w = w' := by
  go_enter Tryz.func24, Tryz.ntmps24
  go_wp2
  go_ret
  exact ⟨rfl, rfl⟩
set_option maxHeartbeats 1000000 in
set_option maxRecDepth 100000 in
theorem phr_operator_7 (x : List UInt8) (q0 : ((bs x).toList == [100]) = false) (q1 : ((bs x).toList == [99]) = false) (q2 : ((bs x).toList == [121]) = false) (q3 : ((bs x).toList == [62]) = false) (q4 : ((bs x).toList == [60]) = false) (q5 : ((bs x).toList == [103, 117]) = false) (q6 : ((bs x).toList == [103, 85]) = false) (q7 : ((bs x).toList == [103, 126]) = true) (w : World) :
    Calls Tryz.prog 24 #[.string (bs x)] w fun e w' => e = .returned (.bool true) ∧ w = w' := by
  go_enter Tryz.func24, Tryz.ntmps24
  go_wp2
  go_ret
  exact ⟨rfl, rfl⟩
set_option maxHeartbeats 1000000 in
set_option maxRecDepth 100000 in
theorem phr_operator_8 (x : List UInt8) (q0 : ((bs x).toList == [100]) = false) (q1 : ((bs x).toList == [99]) = false) (q2 : ((bs x).toList == [121]) = false) (q3 : ((bs x).toList == [62]) = false) (q4 : ((bs x).toList == [60]) = false) (q5 : ((bs x).toList == [103, 117]) = false) (q6 : ((bs x).toList == [103, 85]) = false) (q7 : ((bs x).toList == [103, 126]) = false) (w : World) :
    Calls Tryz.prog 24 #[.string (bs x)] w fun e w' => e = .returned (.bool false) ∧ w = w' := by
  go_enter Tryz.func24, Tryz.ntmps24
  go_wp2
  go_ret
  exact ⟨rfl, rfl⟩
theorem phr_operator (x : List UInt8) (w : World) :
    Calls Tryz.prog 24 #[.string (bs x)] w fun e w' => e = .returned (.bool (decide (x ∈ Phr.opers))) ∧ w = w' := by
  rcases Bool.eq_false_or_eq_true ((bs x).toList == [100]) with q0 | q0
  · rw [show decide (x ∈ Phr.opers) = true by rw [Phr.yes q0]; decide]; exact phr_operator_0 x q0 w
  rcases Bool.eq_false_or_eq_true ((bs x).toList == [99]) with q1 | q1
  · rw [show decide (x ∈ Phr.opers) = true by rw [Phr.yes q1]; decide]; exact phr_operator_1 x q0 q1 w
  rcases Bool.eq_false_or_eq_true ((bs x).toList == [121]) with q2 | q2
  · rw [show decide (x ∈ Phr.opers) = true by rw [Phr.yes q2]; decide]; exact phr_operator_2 x q0 q1 q2 w
  rcases Bool.eq_false_or_eq_true ((bs x).toList == [62]) with q3 | q3
  · rw [show decide (x ∈ Phr.opers) = true by rw [Phr.yes q3]; decide]; exact phr_operator_3 x q0 q1 q2 q3 w
  rcases Bool.eq_false_or_eq_true ((bs x).toList == [60]) with q4 | q4
  · rw [show decide (x ∈ Phr.opers) = true by rw [Phr.yes q4]; decide]; exact phr_operator_4 x q0 q1 q2 q3 q4 w
  rcases Bool.eq_false_or_eq_true ((bs x).toList == [103, 117]) with q5 | q5
  · rw [show decide (x ∈ Phr.opers) = true by rw [Phr.yes q5]; decide]; exact phr_operator_5 x q0 q1 q2 q3 q4 q5 w
  rcases Bool.eq_false_or_eq_true ((bs x).toList == [103, 85]) with q6 | q6
  · rw [show decide (x ∈ Phr.opers) = true by rw [Phr.yes q6]; decide]; exact phr_operator_6 x q0 q1 q2 q3 q4 q5 q6 w
  rcases Bool.eq_false_or_eq_true ((bs x).toList == [103, 126]) with q7 | q7
  · rw [show decide (x ∈ Phr.opers) = true by rw [Phr.yes q7]; decide]; exact phr_operator_7 x q0 q1 q2 q3 q4 q5 q6 q7 w
  rw [show decide (x ∈ Phr.opers) = false by simp [Phr.opers, Phr.no q0, Phr.no q1, Phr.no q2, Phr.no q3, Phr.no q4, Phr.no q5, Phr.no q6, Phr.no q7]]
  exact phr_operator_8 x q0 q1 q2 q3 q4 q5 q6 q7 w
set_option maxHeartbeats 1000000 in
set_option maxRecDepth 100000 in
theorem phr_plain_0 {g : Nat} {w : World} {r n : Int} {ks : List (List UInt8)} {dry : Bool} {x : List UInt8} (h : Rdr g w ⟨r, n, [], [], []⟩ ks dry) (q0 : ((bs x).toList == [120]) = true) :
    Calls Tryz.prog 26 #[.pointer (some ⟨g, 0, none⟩), .string (bs x)] w (EndsAs g w (wet dry (Phr.last ⟨r, n, [100], [108], []⟩ ks))) := by
  have c2a := h.cell2
  have f2a := h.frozen 2
  simp only at c2a
  have Sa : Hid (Rdr g (w.setCell ⟨g, 2, none⟩ (.string ⟨#[100]⟩)) ⟨r, n, [100], [], []⟩ ks dry) := Lib.hid (h.set_ (fun v => rfl))
  have c3b := Sa.out.cell3
  have f3b := Sa.out.frozen 3
  simp only at c3b
  have Sb : Hid (Rdr g ((w.setCell ⟨g, 2, none⟩ (.string ⟨#[100]⟩)).setCell ⟨g, 3, none⟩ (.string ⟨#[108]⟩)) ⟨r, n, [100], [108], []⟩ ks dry) := Lib.hid (Sa.out.set_ (fun v => rfl))
  clear h
  go_enter Tryz.func26, Tryz.ntmps26
  go_wp2
  go_ret
  exact ⟨gb_trans (gb_set w g 2 (.string ⟨#[100]⟩)) (gb_set _ g 3 (.string ⟨#[108]⟩)), _, _, _, _, rfl, Sb.out, Phr.out_last _ _ _⟩
set_option maxHeartbeats 1000000 in
set_option maxRecDepth 100000 in
theorem phr_plain_1 {g : Nat} {w : World} {r n : Int} {ks : List (List UInt8)} {dry : Bool} {x : List UInt8} (h : Rdr g w ⟨r, n, [], [], []⟩ ks dry) (q0 : ((bs x).toList == [120]) = false) (q1 : ((bs x).toList == [88]) = true) :
    Calls Tryz.prog 26 #[.pointer (some ⟨g, 0, none⟩), .string (bs x)] w (EndsAs g w (wet dry (Phr.last ⟨r, n, [100], [104], []⟩ ks))) := by
  have c2a := h.cell2
  have f2a := h.frozen 2
  simp only at c2a
  have Sa : Hid (Rdr g (w.setCell ⟨g, 2, none⟩ (.string ⟨#[100]⟩)) ⟨r, n, [100], [], []⟩ ks dry) := Lib.hid (h.set_ (fun v => rfl))
  have c3b := Sa.out.cell3
  have f3b := Sa.out.frozen 3
  simp only at c3b
  have Sb : Hid (Rdr g ((w.setCell ⟨g, 2, none⟩ (.string ⟨#[100]⟩)).setCell ⟨g, 3, none⟩ (.string ⟨#[104]⟩)) ⟨r, n, [100], [104], []⟩ ks dry) := Lib.hid (Sa.out.set_ (fun v => rfl))
  clear h
  go_enter Tryz.func26, Tryz.ntmps26
  go_wp2
  go_ret
  exact ⟨gb_trans (gb_set w g 2 (.string ⟨#[100]⟩)) (gb_set _ g 3 (.string ⟨#[104]⟩)), _, _, _, _, rfl, Sb.out, Phr.out_last _ _ _⟩
set_option maxHeartbeats 1000000 in
set_option maxRecDepth 100000 in
theorem phr_plain_2 {g : Nat} {w : World} {r n : Int} {ks : List (List UInt8)} {dry : Bool} {x : List UInt8} (h : Rdr g w ⟨r, n, [], [], []⟩ ks dry) (q0 : ((bs x).toList == [120]) = false) (q1 : ((bs x).toList == [88]) = false) (q2 : ((bs x).toList == [68]) = true) :
    Calls Tryz.prog 26 #[.pointer (some ⟨g, 0, none⟩), .string (bs x)] w (EndsAs g w (wet dry (Phr.last ⟨r, n, [100], [36], []⟩ ks))) := by
  have c2a := h.cell2
  have f2a := h.frozen 2
  simp only at c2a
  have Sa : Hid (Rdr g (w.setCell ⟨g, 2, none⟩ (.string ⟨#[100]⟩)) ⟨r, n, [100], [], []⟩ ks dry) := Lib.hid (h.set_ (fun v => rfl))
  have c3b := Sa.out.cell3
  have f3b := Sa.out.frozen 3
  simp only at c3b
  have Sb : Hid (Rdr g ((w.setCell ⟨g, 2, none⟩ (.string ⟨#[100]⟩)).setCell ⟨g, 3, none⟩ (.string ⟨#[36]⟩)) ⟨r, n, [100], [36], []⟩ ks dry) := Lib.hid (Sa.out.set_ (fun v => rfl))
  clear h
  go_enter Tryz.func26, Tryz.ntmps26
  go_wp2
  go_ret
  exact ⟨gb_trans (gb_set w g 2 (.string ⟨#[100]⟩)) (gb_set _ g 3 (.string ⟨#[36]⟩)), _, _, _, _, rfl, Sb.out, Phr.out_last _ _ _⟩
set_option maxHeartbeats 1000000 in
set_option maxRecDepth 100000 in
theorem phr_plain_3 {g : Nat} {w : World} {r n : Int} {ks : List (List UInt8)} {dry : Bool} {x : List UInt8} (h : Rdr g w ⟨r, n, [], [], []⟩ ks dry) (q0 : ((bs x).toList == [120]) = false) (q1 : ((bs x).toList == [88]) = false) (q2 : ((bs x).toList == [68]) = false) (q3 : ((bs x).toList == [67]) = true) :
    Calls Tryz.prog 26 #[.pointer (some ⟨g, 0, none⟩), .string (bs x)] w (EndsAs g w (wet dry (Phr.last ⟨r, n, [99], [36], []⟩ ks))) := by
  have c2a := h.cell2
  have f2a := h.frozen 2
  simp only at c2a
  have Sa : Hid (Rdr g (w.setCell ⟨g, 2, none⟩ (.string ⟨#[99]⟩)) ⟨r, n, [99], [], []⟩ ks dry) := Lib.hid (h.set_ (fun v => rfl))
  have c3b := Sa.out.cell3
  have f3b := Sa.out.frozen 3
  simp only at c3b
  have Sb : Hid (Rdr g ((w.setCell ⟨g, 2, none⟩ (.string ⟨#[99]⟩)).setCell ⟨g, 3, none⟩ (.string ⟨#[36]⟩)) ⟨r, n, [99], [36], []⟩ ks dry) := Lib.hid (Sa.out.set_ (fun v => rfl))
  clear h
  go_enter Tryz.func26, Tryz.ntmps26
  go_wp2
  go_ret
  exact ⟨gb_trans (gb_set w g 2 (.string ⟨#[99]⟩)) (gb_set _ g 3 (.string ⟨#[36]⟩)), _, _, _, _, rfl, Sb.out, Phr.out_last _ _ _⟩
set_option maxHeartbeats 1000000 in
set_option maxRecDepth 100000 in
theorem phr_plain_4 {g : Nat} {w : World} {r n : Int} {ks : List (List UInt8)} {dry : Bool} {x : List UInt8} (h : Rdr g w ⟨r, n, [], [], []⟩ ks dry) (q0 : ((bs x).toList == [120]) = false) (q1 : ((bs x).toList == [88]) = false) (q2 : ((bs x).toList == [68]) = false) (q3 : ((bs x).toList == [67]) = false) (q4 : ((bs x).toList == [115]) = true) :
    Calls Tryz.prog 26 #[.pointer (some ⟨g, 0, none⟩), .string (bs x)] w (EndsAs g w (wet dry (Phr.last ⟨r, n, [99], [108], []⟩ ks))) := by
  have c2a := h.cell2
  have f2a := h.frozen 2
  simp only at c2a
  have Sa : Hid (Rdr g (w.setCell ⟨g, 2, none⟩ (.string ⟨#[99]⟩)) ⟨r, n, [99], [], []⟩ ks dry) := Lib.hid (h.set_ (fun v => rfl))
  have c3b := Sa.out.cell3
  have f3b := Sa.out.frozen 3
  simp only at c3b
  have Sb : Hid (Rdr g ((w.setCell ⟨g, 2, none⟩ (.string ⟨#[99]⟩)).setCell ⟨g, 3, none⟩ (.string ⟨#[108]⟩)) ⟨r, n, [99], [108], []⟩ ks dry) := Lib.hid (Sa.out.set_ (fun v => rfl))
  clear h
  go_enter Tryz.func26, Tryz.ntmps26
  go_wp2
  go_ret
  exact ⟨gb_trans (gb_set w g 2 (.string ⟨#[99]⟩)) (gb_set _ g 3 (.string ⟨#[108]⟩)), _, _, _, _, rfl, Sb.out, Phr.out_last _ _ _⟩
set_option maxHeartbeats 1000000 in
set_option maxRecDepth 100000 in
theorem phr_plain_5 {g : Nat} {w : World} {r n : Int} {ks : List (List UInt8)} {dry : Bool} {x : List UInt8} (h : Rdr g w ⟨r, n, [], [], []⟩ ks dry) (q0 : ((bs x).toList == [120]) = false) (q1 : ((bs x).toList == [88]) = false) (q2 : ((bs x).toList == [68]) = false) (q3 : ((bs x).toList == [67]) = false) (q4 : ((bs x).toList == [115]) = false) (q5 : ((bs x).toList == [83]) = true) :
    Calls Tryz.prog 26 #[.pointer (some ⟨g, 0, none⟩), .string (bs x)] w (EndsAs g w (wet dry (Phr.last ⟨r, n, [99], [108, 105, 110, 101], []⟩ ks))) := by
  have c2a := h.cell2
  have f2a := h.frozen 2
  simp only at c2a
  have Sa : Hid (Rdr g (w.setCell ⟨g, 2, none⟩ (.string ⟨#[99]⟩)) ⟨r, n, [99], [], []⟩ ks dry) := Lib.hid (h.set_ (fun v => rfl))
  have c3b := Sa.out.cell3
  have f3b := Sa.out.frozen 3
  simp only at c3b
  have Sb : Hid (Rdr g ((w.setCell ⟨g, 2, none⟩ (.string ⟨#[99]⟩)).setCell ⟨g, 3, none⟩ (.string ⟨#[108, 105, 110, 101]⟩)) ⟨r, n, [99], [108, 105, 110, 101], []⟩ ks dry) := Lib.hid (Sa.out.set_ (fun v => rfl))
  clear h
  go_enter Tryz.func26, Tryz.ntmps26
  go_wp2
  go_ret
  exact ⟨gb_trans (gb_set w g 2 (.string ⟨#[99]⟩)) (gb_set _ g 3 (.string ⟨#[108, 105, 110, 101]⟩)), _, _, _, _, rfl, Sb.out, Phr.out_last _ _ _⟩
set_option maxHeartbeats 1000000 in
set_option maxRecDepth 100000 in
theorem phr_plain_6 {g : Nat} {w : World} {r n : Int} {ks : List (List UInt8)} {dry : Bool} {x : List UInt8} (h : Rdr g w ⟨r, n, [], [], []⟩ ks dry) (q0 : ((bs x).toList == [120]) = false) (q1 : ((bs x).toList == [88]) = false) (q2 : ((bs x).toList == [68]) = false) (q3 : ((bs x).toList == [67]) = false) (q4 : ((bs x).toList == [115]) = false) (q5 : ((bs x).toList == [83]) = false) (q6 : ((bs x).toList == [89]) = true) :
    Calls Tryz.prog 26 #[.pointer (some ⟨g, 0, none⟩), .string (bs x)] w (EndsAs g w (wet dry (Phr.last ⟨r, n, [121], [108, 105, 110, 101], []⟩ ks))) := by
  have c2a := h.cell2
  have f2a := h.frozen 2
  simp only at c2a
  have Sa : Hid (Rdr g (w.setCell ⟨g, 2, none⟩ (.string ⟨#[121]⟩)) ⟨r, n, [121], [], []⟩ ks dry) := Lib.hid (h.set_ (fun v => rfl))
  have c3b := Sa.out.cell3
  have f3b := Sa.out.frozen 3
  simp only at c3b
  have Sb : Hid (Rdr g ((w.setCell ⟨g, 2, none⟩ (.string ⟨#[121]⟩)).setCell ⟨g, 3, none⟩ (.string ⟨#[108, 105, 110, 101]⟩)) ⟨r, n, [121], [108, 105, 110, 101], []⟩ ks dry) := Lib.hid (Sa.out.set_ (fun v => rfl))
  clear h
  go_enter Tryz.func26, Tryz.ntmps26
  go_wp2
  go_ret
  exact ⟨gb_trans (gb_set w g 2 (.string ⟨#[121]⟩)) (gb_set _ g 3 (.string ⟨#[108, 105, 110, 101]⟩)), _, _, _, _, rfl, Sb.out, Phr.out_last _ _ _⟩
set_option maxHeartbeats 1000000 in
set_option maxRecDepth 100000 in
theorem phr_plain_7 {g : Nat} {w : World} {r n : Int} {ks : List (List UInt8)} {dry : Bool} {x : List UInt8} (h : Rdr g w ⟨r, n, [], [], []⟩ ks dry) (q0 : ((bs x).toList == [120]) = false) (q1 : ((bs x).toList == [88]) = false) (q2 : ((bs x).toList == [68]) = false) (q3 : ((bs x).toList == [67]) = false) (q4 : ((bs x).toList == [115]) = false) (q5 : ((bs x).toList == [83]) = false) (q6 : ((bs x).toList == [89]) = false) (q7 : ((bs x).toList == [114]) = true) :
    Calls Tryz.prog 26 #[.pointer (some ⟨g, 0, none⟩), .string (bs x)] w (EndsAs g w (wet dry (Phr.behind ⟨r, n, [], x, []⟩ 2 ks))) := by
  have c3a := h.cell3
  have f3a := h.frozen 3
  simp only at c3a
  have Sa : Hid (Rdr g (w.setCell ⟨g, 3, none⟩ (.string (bs x))) ⟨r, n, [], x, []⟩ ks dry) := Lib.hid (h.set_ (fun v => rfl))
  have C := Lib.hid (phr_sign Sa.out)
  clear h
  go_enter Tryz.func26, Tryz.ntmps26
  go_wp2_with ((go_at_call 46; refine C.out.mono ?_; rintro e w1 ⟨g1, read, d1, c1, l1, rfl, h1, e1⟩))
  go_ret
  exact ⟨gb_trans (gb_set w g 3 (.string (bs x))) g1, _, _, _, _, rfl, h1, e1⟩
set_option maxHeartbeats 1000000 in
set_option maxRecDepth 100000 in
theorem phr_plain_8 {g : Nat} {w : World} {r n : Int} {ks : List (List UInt8)} {dry : Bool} {x : List UInt8} (h : Rdr g w ⟨r, n, [], [], []⟩ ks dry) (q0 : ((bs x).toList == [120]) = false) (q1 : ((bs x).toList == [88]) = false) (q2 : ((bs x).toList == [68]) = false) (q3 : ((bs x).toList == [67]) = false) (q4 : ((bs x).toList == [115]) = false) (q5 : ((bs x).toList == [83]) = false) (q6 : ((bs x).toList == [89]) = false) (q7 : ((bs x).toList == [114]) = false) (q8 : ((bs x).toList == [109]) = true) :
    Calls Tryz.prog 26 #[.pointer (some ⟨g, 0, none⟩), .string (bs x)] w (EndsAs g w (wet dry (Phr.behind ⟨r, n, [], x, []⟩ 3 ks))) := by
  have c3a := h.cell3
  have f3a := h.frozen 3
  simp only at c3a
  have Sa : Hid (Rdr g (w.setCell ⟨g, 3, none⟩ (.string (bs x))) ⟨r, n, [], x, []⟩ ks dry) := Lib.hid (h.set_ (fun v => rfl))
  have C := Lib.hid (phr_letter Sa.out)
  clear h
  go_enter Tryz.func26, Tryz.ntmps26
  go_wp2_with ((go_at_call 47; refine C.out.mono ?_; rintro e w1 ⟨g1, read, d1, c1, l1, rfl, h1, e1⟩))
  go_ret
  exact ⟨gb_trans (gb_set w g 3 (.string (bs x))) g1, _, _, _, _, rfl, h1, e1⟩
set_option maxHeartbeats 1000000 in
set_option maxRecDepth 100000 in
theorem phr_plain_9 {g : Nat} {w : World} {r n : Int} {ks : List (List UInt8)} {dry : Bool} {x : List UInt8} (h : Rdr g w ⟨r, n, [], [], []⟩ ks dry) (q0 : ((bs x).toList == [120]) = false) (q1 : ((bs x).toList == [88]) = false) (q2 : ((bs x).toList == [68]) = false) (q3 : ((bs x).toList == [67]) = false) (q4 : ((bs x).toList == [115]) = false) (q5 : ((bs x).toList == [83]) = false) (q6 : ((bs x).toList == [89]) = false) (q7 : ((bs x).toList == [114]) = false) (q8 : ((bs x).toList == [109]) = false) (q9 : ((bs x).toList == [112]) = true) :
    Calls Tryz.prog 26 #[.pointer (some ⟨g, 0, none⟩), .string (bs x)] w (EndsAs g w (wet dry (Phr.last ⟨r, n, [], x, []⟩ ks))) := by
  have c3a := h.cell3
  have f3a := h.frozen 3
  simp only at c3a
  have Sa : Hid (Rdr g (w.setCell ⟨g, 3, none⟩ (.string (bs x))) ⟨r, n, [], x, []⟩ ks dry) := Lib.hid (h.set_ (fun v => rfl))
  clear h
  go_enter Tryz.func26, Tryz.ntmps26
  go_wp2
  go_ret
  exact ⟨gb_set w g 3 (.string (bs x)), _, _, _, _, rfl, Sa.out, Phr.out_last _ _ _⟩
set_option maxHeartbeats 1000000 in
set_option maxRecDepth 100000 in
theorem phr_plain_10 {g : Nat} {w : World} {r n : Int} {ks : List (List UInt8)} {dry : Bool} {x : List UInt8} (h : Rdr g w ⟨r, n, [], [], []⟩ ks dry) (q0 : ((bs x).toList == [120]) = false) (q1 : ((bs x).toList == [88]) = false) (q2 : ((bs x).toList == [68]) = false) (q3 : ((bs x).toList == [67]) = false) (q4 : ((bs x).toList == [115]) = false) (q5 : ((bs x).toList == [83]) = false) (q6 : ((bs x).toList == [89]) = false) (q7 : ((bs x).toList == [114]) = false) (q8 : ((bs x).toList == [109]) = false) (q9 : ((bs x).toList == [112]) = false) (q10 : ((bs x).toList == [80]) = true) :
    Calls Tryz.prog 26 #[.pointer (some ⟨g, 0, none⟩), .string (bs x)] w (EndsAs g w (wet dry (Phr.last ⟨r, n, [], x, []⟩ ks))) := by
  have c3a := h.cell3
  have f3a := h.frozen 3
  simp only at c3a
  have Sa : Hid (Rdr g (w.setCell ⟨g, 3, none⟩ (.string (bs x))) ⟨r, n, [], x, []⟩ ks dry) := Lib.hid (h.set_ (fun v => rfl))
  clear h
  go_enter Tryz.func26, Tryz.ntmps26
  go_wp2
  go_ret
  exact ⟨gb_set w g 3 (.string (bs x)), _, _, _, _, rfl, Sa.out, Phr.out_last _ _ _⟩
set_option maxHeartbeats 1000000 in
set_option maxRecDepth 100000 in
theorem phr_plain_11 {g : Nat} {w : World} {r n : Int} {ks : List (List UInt8)} {dry : Bool} {x : List UInt8} (h : Rdr g w ⟨r, n, [], [], []⟩ ks dry) (q0 : ((bs x).toList == [120]) = false) (q1 : ((bs x).toList == [88]) = false) (q2 : ((bs x).toList == [68]) = false) (q3 : ((bs x).toList == [67]) = false) (q4 : ((bs x).toList == [115]) = false) (q5 : ((bs x).toList == [83]) = false) (q6 : ((bs x).toList == [89]) = false) (q7 : ((bs x).toList == [114]) = false) (q8 : ((bs x).toList == [109]) = false) (q9 : ((bs x).toList == [112]) = false) (q10 : ((bs x).toList == [80]) = false) (q11 : ((bs x).toList == [74]) = true) :
    Calls Tryz.prog 26 #[.pointer (some ⟨g, 0, none⟩), .string (bs x)] w (EndsAs g w (wet dry (Phr.last ⟨r, n, [], x, []⟩ ks))) := by
  have c3a := h.cell3
  have f3a := h.frozen 3
  simp only at c3a
  have Sa : Hid (Rdr g (w.setCell ⟨g, 3, none⟩ (.string (bs x))) ⟨r, n, [], x, []⟩ ks dry) := Lib.hid (h.set_ (fun v => rfl))
  clear h
  go_enter Tryz.func26, Tryz.ntmps26
  go_wp2
  go_ret
  exact ⟨gb_set w g 3 (.string (bs x)), _, _, _, _, rfl, Sa.out, Phr.out_last _ _ _⟩
set_option maxHeartbeats 1000000 in
set_option maxRecDepth 100000 in
theorem phr_plain_12 {g : Nat} {w : World} {r n : Int} {ks : List (List UInt8)} {dry : Bool} {x : List UInt8} (h : Rdr g w ⟨r, n, [], [], []⟩ ks dry) (q0 : ((bs x).toList == [120]) = false) (q1 : ((bs x).toList == [88]) = false) (q2 : ((bs x).toList == [68]) = false) (q3 : ((bs x).toList == [67]) = false) (q4 : ((bs x).toList == [115]) = false) (q5 : ((bs x).toList == [83]) = false) (q6 : ((bs x).toList == [89]) = false) (q7 : ((bs x).toList == [114]) = false) (q8 : ((bs x).toList == [109]) = false) (q9 : ((bs x).toList == [112]) = false) (q10 : ((bs x).toList == [80]) = false) (q11 : ((bs x).toList == [74]) = false) (q12 : ((bs x).toList == [126]) = true) :
    Calls Tryz.prog 26 #[.pointer (some ⟨g, 0, none⟩), .string (bs x)] w (EndsAs g w (wet dry (Phr.last ⟨r, n, [], x, []⟩ ks))) := by
  have c3a := h.cell3
  have f3a := h.frozen 3
  simp only at c3a
  have Sa : Hid (Rdr g (w.setCell ⟨g, 3, none⟩ (.string (bs x))) ⟨r, n, [], x, []⟩ ks dry) := Lib.hid (h.set_ (fun v => rfl))
  clear h
  go_enter Tryz.func26, Tryz.ntmps26
  go_wp2
  go_ret
  exact ⟨gb_set w g 3 (.string (bs x)), _, _, _, _, rfl, Sa.out, Phr.out_last _ _ _⟩
set_option maxHeartbeats 1000000 in
set_option maxRecDepth 100000 in
theorem phr_plain_13 {g : Nat} {w : World} {r n : Int} {ks : List (List UInt8)} {dry : Bool} {x : List UInt8} (h : Rdr g w ⟨r, n, [], [], []⟩ ks dry) (q0 : ((bs x).toList == [120]) = false) (q1 : ((bs x).toList == [88]) = false) (q2 : ((bs x).toList == [68]) = false) (q3 : ((bs x).toList == [67]) = false) (q4 : ((bs x).toList == [115]) = false) (q5 : ((bs x).toList == [83]) = false) (q6 : ((bs x).toList == [89]) = false) (q7 : ((bs x).toList == [114]) = false) (q8 : ((bs x).toList == [109]) = false) (q9 : ((bs x).toList == [112]) = false) (q10 : ((bs x).toList == [80]) = false) (q11 : ((bs x).toList == [74]) = false) (q12 : ((bs x).toList == [126]) = false) (q13 : ((bs x).toList == [117]) = true) :
    Calls Tryz.prog 26 #[.pointer (some ⟨g, 0, none⟩), .string (bs x)] w (EndsAs g w (wet dry (Phr.last ⟨r, n, [], x, []⟩ ks))) := by
  have c3a := h.cell3
  have f3a := h.frozen 3
  simp only at c3a
  have Sa : Hid (Rdr g (w.setCell ⟨g, 3, none⟩ (.string (bs x))) ⟨r, n, [], x, []⟩ ks dry) := Lib.hid (h.set_ (fun v => rfl))
  clear h
  go_enter Tryz.func26, Tryz.ntmps26
  go_wp2
  go_ret
  exact ⟨gb_set w g 3 (.string (bs x)), _, _, _, _, rfl, Sa.out, Phr.out_last _ _ _⟩
set_option maxHeartbeats 1000000 in
set_option maxRecDepth 100000 in
theorem phr_plain_14 {g : Nat} {w : World} {r n : Int} {ks : List (List UInt8)} {dry : Bool} {x : List UInt8} (h : Rdr g w ⟨r, n, [], [], []⟩ ks dry) (q0 : ((bs x).toList == [120]) = false) (q1 : ((bs x).toList == [88]) = false) (q2 : ((bs x).toList == [68]) = false) (q3 : ((bs x).toList == [67]) = false) (q4 : ((bs x).toList == [115]) = false) (q5 : ((bs x).toList == [83]) = false) (q6 : ((bs x).toList == [89]) = false) (q7 : ((bs x).toList == [114]) = false) (q8 : ((bs x).toList == [109]) = false) (q9 : ((bs x).toList == [112]) = false) (q10 : ((bs x).toList == [80]) = false) (q11 : ((bs x).toList == [74]) = false) (q12 : ((bs x).toList == [126]) = false) (q13 : ((bs x).toList == [117]) = false) (q14 : ((bs x).toList == [46]) = true) :
    Calls Tryz.prog 26 #[.pointer (some ⟨g, 0, none⟩), .string (bs x)] w (EndsAs g w (wet dry (Phr.last ⟨r, n, [], x, []⟩ ks))) := by
  have c3a := h.cell3
  have f3a := h.frozen 3
  simp only at c3a
  have Sa : Hid (Rdr g (w.setCell ⟨g, 3, none⟩ (.string (bs x))) ⟨r, n, [], x, []⟩ ks dry) := Lib.hid (h.set_ (fun v => rfl))
  clear h
  go_enter Tryz.func26, Tryz.ntmps26
  go_wp2
  go_ret
  exact ⟨gb_set w g 3 (.string (bs x)), _, _, _, _, rfl, Sa.out, Phr.out_last _ _ _⟩
set_option maxHeartbeats 1000000 in
set_option maxRecDepth 100000 in
theorem phr_plain_15 {g : Nat} {w : World} {r n : Int} {ks : List (List UInt8)} {dry : Bool} {x : List UInt8} (h : Rdr g w ⟨r, n, [], [], []⟩ ks dry) (q0 : ((bs x).toList == [120]) = false) (q1 : ((bs x).toList == [88]) = false) (q2 : ((bs x).toList == [68]) = false) (q3 : ((bs x).toList == [67]) = false) (q4 : ((bs x).toList == [115]) = false) (q5 : ((bs x).toList == [83]) = false) (q6 : ((bs x).toList == [89]) = false) (q7 : ((bs x).toList == [114]) = false) (q8 : ((bs x).toList == [109]) = false) (q9 : ((bs x).toList == [112]) = false) (q10 : ((bs x).toList == [80]) = false) (q11 : ((bs x).toList == [74]) = false) (q12 : ((bs x).toList == [126]) = false) (q13 : ((bs x).toList == [117]) = false) (q14 : ((bs x).toList == [46]) = false) (q15 : ((bs x).toList == [105]) = true) :
    Calls Tryz.prog 26 #[.pointer (some ⟨g, 0, none⟩), .string (bs x)] w (EndsAs g w (wet dry (Phr.last ⟨r, n, [], x, []⟩ ks))) := by
  have c3a := h.cell3
  have f3a := h.frozen 3
  simp only at c3a
  have Sa : Hid (Rdr g (w.setCell ⟨g, 3, none⟩ (.string (bs x))) ⟨r, n, [], x, []⟩ ks dry) := Lib.hid (h.set_ (fun v => rfl))
  clear h
  go_enter Tryz.func26, Tryz.ntmps26
  go_wp2
  go_ret
  exact ⟨gb_set w g 3 (.string (bs x)), _, _, _, _, rfl, Sa.out, Phr.out_last _ _ _⟩
set_option maxHeartbeats 1000000 in
set_option maxRecDepth 100000 in
theorem phr_plain_16 {g : Nat} {w : World} {r n : Int} {ks : List (List UInt8)} {dry : Bool} {x : List UInt8} (h : Rdr g w ⟨r, n, [], [], []⟩ ks dry) (q0 : ((bs x).toList == [120]) = false) (q1 : ((bs x).toList == [88]) = false) (q2 : ((bs x).toList == [68]) = false) (q3 : ((bs x).toList == [67]) = false) (q4 : ((bs x).toList == [115]) = false) (q5 : ((bs x).toList == [83]) = false) (q6 : ((bs x).toList == [89]) = false) (q7 : ((bs x).toList == [114]) = false) (q8 : ((bs x).toList == [109]) = false) (q9 : ((bs x).toList == [112]) = false) (q10 : ((bs x).toList == [80]) = false) (q11 : ((bs x).toList == [74]) = false) (q12 : ((bs x).toList == [126]) = false) (q13 : ((bs x).toList == [117]) = false) (q14 : ((bs x).toList == [46]) = false) (q15 : ((bs x).toList == [105]) = false) (q16 : ((bs x).toList == [97]) = true) :
    Calls Tryz.prog 26 #[.pointer (some ⟨g, 0, none⟩), .string (bs x)] w (EndsAs g w (wet dry (Phr.last ⟨r, n, [], x, []⟩ ks))) := by
  have c3a := h.cell3
  have f3a := h.frozen 3
  simp only at c3a
  have Sa : Hid (Rdr g (w.setCell ⟨g, 3, none⟩ (.string (bs x))) ⟨r, n, [], x, []⟩ ks dry) := Lib.hid (h.set_ (fun v => rfl))
  clear h
  go_enter Tryz.func26, Tryz.ntmps26
  go_wp2
  go_ret
  exact ⟨gb_set w g 3 (.string (bs x)), _, _, _, _, rfl, Sa.out, Phr.out_last _ _ _⟩
set_option maxHeartbeats 1000000 in
set_option maxRecDepth 100000 in
theorem phr_plain_17 {g : Nat} {w : World} {r n : Int} {ks : List (List UInt8)} {dry : Bool} {x : List UInt8} (h : Rdr g w ⟨r, n, [], [], []⟩ ks dry) (q0 : ((bs x).toList == [120]) = false) (q1 : ((bs x).toList == [88]) = false) (q2 : ((bs x).toList == [68]) = false) (q3 : ((bs x).toList == [67]) = false) (q4 : ((bs x).toList == [115]) = false) (q5 : ((bs x).toList == [83]) = false) (q6 : ((bs x).toList == [89]) = false) (q7 : ((bs x).toList == [114]) = false) (q8 : ((bs x).toList == [109]) = false) (q9 : ((bs x).toList == [112]) = false) (q10 : ((bs x).toList == [80]) = false) (q11 : ((bs x).toList == [74]) = false) (q12 : ((bs x).toList == [126]) = false) (q13 : ((bs x).toList == [117]) = false) (q14 : ((bs x).toList == [46]) = false) (q15 : ((bs x).toList == [105]) = false) (q16 : ((bs x).toList == [97]) = false) (q17 : ((bs x).toList == [73]) = true) :
    Calls Tryz.prog 26 #[.pointer (some ⟨g, 0, none⟩), .string (bs x)] w (EndsAs g w (wet dry (Phr.last ⟨r, n, [], x, []⟩ ks))) := by
  have c3a := h.cell3
  have f3a := h.frozen 3
  simp only at c3a
  have Sa : Hid (Rdr g (w.setCell ⟨g, 3, none⟩ (.string (bs x))) ⟨r, n, [], x, []⟩ ks dry) := Lib.hid (h.set_ (fun v => rfl))
  clear h
  go_enter Tryz.func26, Tryz.ntmps26
  go_wp2
  go_ret
  exact ⟨gb_set w g 3 (.string (bs x)), _, _, _, _, rfl, Sa.out, Phr.out_last _ _ _⟩
set_option maxHeartbeats 1000000 in
set_option maxRecDepth 100000 in
theorem phr_plain_18 {g : Nat} {w : World} {r n : Int} {ks : List (List UInt8)} {dry : Bool} {x : List UInt8} (h : Rdr g w ⟨r, n, [], [], []⟩ ks dry) (q0 : ((bs x).toList == [120]) = false) (q1 : ((bs x).toList == [88]) = false) (q2 : ((bs x).toList == [68]) = false) (q3 : ((bs x).toList == [67]) = false) (q4 : ((bs x).toList == [115]) = false) (q5 : ((bs x).toList == [83]) = false) (q6 : ((bs x).toList == [89]) = false) (q7 : ((bs x).toList == [114]) = false) (q8 : ((bs x).toList == [109]) = false) (q9 : ((bs x).toList == [112]) = false) (q10 : ((bs x).toList == [80]) = false) (q11 : ((bs x).toList == [74]) = false) (q12 : ((bs x).toList == [126]) = false) (q13 : ((bs x).toList == [117]) = false) (q14 : ((bs x).toList == [46]) = false) (q15 : ((bs x).toList == [105]) = false) (q16 : ((bs x).toList == [97]) = false) (q17 : ((bs x).toList == [73]) = false) (q18 : ((bs x).toList == [65]) = true) :
    Calls Tryz.prog 26 #[.pointer (some ⟨g, 0, none⟩), .string (bs x)] w (EndsAs g w (wet dry (Phr.last ⟨r, n, [], x, []⟩ ks))) := by
  have c3a := h.cell3
  have f3a := h.frozen 3
  simp only at c3a
  have Sa : Hid (Rdr g (w.setCell ⟨g, 3, none⟩ (.string (bs x))) ⟨r, n, [], x, []⟩ ks dry) := Lib.hid (h.set_ (fun v => rfl))
  clear h
  go_enter Tryz.func26, Tryz.ntmps26
  go_wp2
  go_ret
  exact ⟨gb_set w g 3 (.string (bs x)), _, _, _, _, rfl, Sa.out, Phr.out_last _ _ _⟩
set_option maxHeartbeats 1000000 in
set_option maxRecDepth 100000 in
theorem phr_plain_19 {g : Nat} {w : World} {r n : Int} {ks : List (List UInt8)} {dry : Bool} {x : List UInt8} (h : Rdr g w ⟨r, n, [], [], []⟩ ks dry) (q0 : ((bs x).toList == [120]) = false) (q1 : ((bs x).toList == [88]) = false) (q2 : ((bs x).toList == [68]) = false) (q3 : ((bs x).toList == [67]) = false) (q4 : ((bs x).toList == [115]) = false) (q5 : ((bs x).toList == [83]) = false) (q6 : ((bs x).toList == [89]) = false) (q7 : ((bs x).toList == [114]) = false) (q8 : ((bs x).toList == [109]) = false) (q9 : ((bs x).toList == [112]) = false) (q10 : ((bs x).toList == [80]) = false) (q11 : ((bs x).toList == [74]) = false) (q12 : ((bs x).toList == [126]) = false) (q13 : ((bs x).toList == [117]) = false) (q14 : ((bs x).toList == [46]) = false) (q15 : ((bs x).toList == [105]) = false) (q16 : ((bs x).toList == [97]) = false) (q17 : ((bs x).toList == [73]) = false) (q18 : ((bs x).toList == [65]) = false) (q19 : ((bs x).toList == [111]) = true) :
    Calls Tryz.prog 26 #[.pointer (some ⟨g, 0, none⟩), .string (bs x)] w (EndsAs g w (wet dry (Phr.last ⟨r, n, [], x, []⟩ ks))) := by
  have c3a := h.cell3
  have f3a := h.frozen 3
  simp only at c3a
  have Sa : Hid (Rdr g (w.setCell ⟨g, 3, none⟩ (.string (bs x))) ⟨r, n, [], x, []⟩ ks dry) := Lib.hid (h.set_ (fun v => rfl))
  clear h
  go_enter Tryz.func26, Tryz.ntmps26
  go_wp2
  go_ret
  exact ⟨gb_set w g 3 (.string (bs x)), _, _, _, _, rfl, Sa.out, Phr.out_last _ _ _⟩
set_option maxHeartbeats 1000000 in
set_option maxRecDepth 100000 in
theorem phr_plain_20 {g : Nat} {w : World} {r n : Int} {ks : List (List UInt8)} {dry : Bool} {x : List UInt8} (h : Rdr g w ⟨r, n, [], [], []⟩ ks dry) (q0 : ((bs x).toList == [120]) = false) (q1 : ((bs x).toList == [88]) = false) (q2 : ((bs x).toList == [68]) = false) (q3 : ((bs x).toList == [67]) = false) (q4 : ((bs x).toList == [115]) = false) (q5 : ((bs x).toList == [83]) = false) (q6 : ((bs x).toList == [89]) = false) (q7 : ((bs x).toList == [114]) = false) (q8 : ((bs x).toList == [109]) = false) (q9 : ((bs x).toList == [112]) = false) (q10 : ((bs x).toList == [80]) = false) (q11 : ((bs x).toList == [74]) = false) (q12 : ((bs x).toList == [126]) = false) (q13 : ((bs x).toList == [117]) = false) (q14 : ((bs x).toList == [46]) = false) (q15 : ((bs x).toList == [105]) = false) (q16 : ((bs x).toList == [97]) = false) (q17 : ((bs x).toList == [73]) = false) (q18 : ((bs x).toList == [65]) = false) (q19 : ((bs x).toList == [111]) = false) (q20 : ((bs x).toList == [79]) = true) :
    Calls Tryz.prog 26 #[.pointer (some ⟨g, 0, none⟩), .string (bs x)] w (EndsAs g w (wet dry (Phr.last ⟨r, n, [], x, []⟩ ks))) := by
  have c3a := h.cell3
  have f3a := h.frozen 3
  simp only at c3a
  have Sa : Hid (Rdr g (w.setCell ⟨g, 3, none⟩ (.string (bs x))) ⟨r, n, [], x, []⟩ ks dry) := Lib.hid (h.set_ (fun v => rfl))
  clear h
  go_enter Tryz.func26, Tryz.ntmps26
  go_wp2
  go_ret
  exact ⟨gb_set w g 3 (.string (bs x)), _, _, _, _, rfl, Sa.out, Phr.out_last _ _ _⟩
set_option maxHeartbeats 1000000 in
set_option maxRecDepth 100000 in
theorem phr_plain_21 {g : Nat} {w : World} {r n : Int} {ks : List (List UInt8)} {dry : Bool} {x : List UInt8} (h : Rdr g w ⟨r, n, [], [], []⟩ ks dry) (q0 : ((bs x).toList == [120]) = false) (q1 : ((bs x).toList == [88]) = false) (q2 : ((bs x).toList == [68]) = false) (q3 : ((bs x).toList == [67]) = false) (q4 : ((bs x).toList == [115]) = false) (q5 : ((bs x).toList == [83]) = false) (q6 : ((bs x).toList == [89]) = false) (q7 : ((bs x).toList == [114]) = false) (q8 : ((bs x).toList == [109]) = false) (q9 : ((bs x).toList == [112]) = false) (q10 : ((bs x).toList == [80]) = false) (q11 : ((bs x).toList == [74]) = false) (q12 : ((bs x).toList == [126]) = false) (q13 : ((bs x).toList == [117]) = false) (q14 : ((bs x).toList == [46]) = false) (q15 : ((bs x).toList == [105]) = false) (q16 : ((bs x).toList == [97]) = false) (q17 : ((bs x).toList == [73]) = false) (q18 : ((bs x).toList == [65]) = false) (q19 : ((bs x).toList == [111]) = false) (q20 : ((bs x).toList == [79]) = false) (q21 : ((bs x).toList == [118]) = true) :
    Calls Tryz.prog 26 #[.pointer (some ⟨g, 0, none⟩), .string (bs x)] w (EndsAs g w (wet dry (Phr.last ⟨r, n, [], x, []⟩ ks))) := by
  have c3a := h.cell3
  have f3a := h.frozen 3
  simp only at c3a
  have Sa : Hid (Rdr g (w.setCell ⟨g, 3, none⟩ (.string (bs x))) ⟨r, n, [], x, []⟩ ks dry) := Lib.hid (h.set_ (fun v => rfl))
  clear h
  go_enter Tryz.func26, Tryz.ntmps26
  go_wp2
  go_ret
  exact ⟨gb_set w g 3 (.string (bs x)), _, _, _, _, rfl, Sa.out, Phr.out_last _ _ _⟩
set_option maxHeartbeats 1000000 in
set_option maxRecDepth 100000 in
theorem phr_plain_22 {g : Nat} {w : World} {r n : Int} {ks : List (List UInt8)} {dry : Bool} {x : List UInt8} (h : Rdr g w ⟨r, n, [], [], []⟩ ks dry) (q0 : ((bs x).toList == [120]) = false) (q1 : ((bs x).toList == [88]) = false) (q2 : ((bs x).toList == [68]) = false) (q3 : ((bs x).toList == [67]) = false) (q4 : ((bs x).toList == [115]) = false) (q5 : ((bs x).toList == [83]) = false) (q6 : ((bs x).toList == [89]) = false) (q7 : ((bs x).toList == [114]) = false) (q8 : ((bs x).toList == [109]) = false) (q9 : ((bs x).toList == [112]) = false) (q10 : ((bs x).toList == [80]) = false) (q11 : ((bs x).toList == [74]) = false) (q12 : ((bs x).toList == [126]) = false) (q13 : ((bs x).toList == [117]) = false) (q14 : ((bs x).toList == [46]) = false) (q15 : ((bs x).toList == [105]) = false) (q16 : ((bs x).toList == [97]) = false) (q17 : ((bs x).toList == [73]) = false) (q18 : ((bs x).toList == [65]) = false) (q19 : ((bs x).toList == [111]) = false) (q20 : ((bs x).toList == [79]) = false) (q21 : ((bs x).toList == [118]) = false) (q22 : ((bs x).toList == [86]) = true) :
    Calls Tryz.prog 26 #[.pointer (some ⟨g, 0, none⟩), .string (bs x)] w (EndsAs g w (wet dry (Phr.last ⟨r, n, [], x, []⟩ ks))) := by
  have c3a := h.cell3
  have f3a := h.frozen 3
  simp only at c3a
  have Sa : Hid (Rdr g (w.setCell ⟨g, 3, none⟩ (.string (bs x))) ⟨r, n, [], x, []⟩ ks dry) := Lib.hid (h.set_ (fun v => rfl))
  clear h
  go_enter Tryz.func26, Tryz.ntmps26
  go_wp2
  go_ret
  exact ⟨gb_set w g 3 (.string (bs x)), _, _, _, _, rfl, Sa.out, Phr.out_last _ _ _⟩
set_option maxHeartbeats 1000000 in
set_option maxRecDepth 100000 in
theorem phr_plain_23 {g : Nat} {w : World} {r n : Int} {ks : List (List UInt8)} {dry : Bool} {x : List UInt8} (h : Rdr g w ⟨r, n, [], [], []⟩ ks dry) (q0 : ((bs x).toList == [120]) = false) (q1 : ((bs x).toList == [88]) = false) (q2 : ((bs x).toList == [68]) = false) (q3 : ((bs x).toList == [67]) = false) (q4 : ((bs x).toList == [115]) = false) (q5 : ((bs x).toList == [83]) = false) (q6 : ((bs x).toList == [89]) = false) (q7 : ((bs x).toList == [114]) = false) (q8 : ((bs x).toList == [109]) = false) (q9 : ((bs x).toList == [112]) = false) (q10 : ((bs x).toList == [80]) = false) (q11 : ((bs x).toList == [74]) = false) (q12 : ((bs x).toList == [126]) = false) (q13 : ((bs x).toList == [117]) = false) (q14 : ((bs x).toList == [46]) = false) (q15 : ((bs x).toList == [105]) = false) (q16 : ((bs x).toList == [97]) = false) (q17 : ((bs x).toList == [73]) = false) (q18 : ((bs x).toList == [65]) = false) (q19 : ((bs x).toList == [111]) = false) (q20 : ((bs x).toList == [79]) = false) (q21 : ((bs x).toList == [118]) = false) (q22 : ((bs x).toList == [86]) = false) (q23 : ((bs x).toList == [58]) = true) :
    Calls Tryz.prog 26 #[.pointer (some ⟨g, 0, none⟩), .string (bs x)] w (EndsAs g w (wet dry (Phr.last ⟨r, n, [], x, []⟩ ks))) := by
  have c3a := h.cell3
  have f3a := h.frozen 3
  simp only at c3a
  have Sa : Hid (Rdr g (w.setCell ⟨g, 3, none⟩ (.string (bs x))) ⟨r, n, [], x, []⟩ ks dry) := Lib.hid (h.set_ (fun v => rfl))
  clear h
  go_enter Tryz.func26, Tryz.ntmps26
  go_wp2
  go_ret
  exact ⟨gb_set w g 3 (.string (bs x)), _, _, _, _, rfl, Sa.out, Phr.out_last _ _ _⟩
set_option maxHeartbeats 1000000 in
set_option maxRecDepth 100000 in
theorem phr_plain_24 {g : Nat} {w : World} {r n : Int} {ks : List (List UInt8)} {dry : Bool} {x : List UInt8} (h : Rdr g w ⟨r, n, [], [], []⟩ ks dry) (q0 : ((bs x).toList == [120]) = false) (q1 : ((bs x).toList == [88]) = false) (q2 : ((bs x).toList == [68]) = false) (q3 : ((bs x).toList == [67]) = false) (q4 : ((bs x).toList == [115]) = false) (q5 : ((bs x).toList == [83]) = false) (q6 : ((bs x).toList == [89]) = false) (q7 : ((bs x).toList == [114]) = false) (q8 : ((bs x).toList == [109]) = false) (q9 : ((bs x).toList == [112]) = false) (q10 : ((bs x).toList == [80]) = false) (q11 : ((bs x).toList == [74]) = false) (q12 : ((bs x).toList == [126]) = false) (q13 : ((bs x).toList == [117]) = false) (q14 : ((bs x).toList == [46]) = false) (q15 : ((bs x).toList == [105]) = false) (q16 : ((bs x).toList == [97]) = false) (q17 : ((bs x).toList == [73]) = false) (q18 : ((bs x).toList == [65]) = false) (q19 : ((bs x).toList == [111]) = false) (q20 : ((bs x).toList == [79]) = false) (q21 : ((bs x).toList == [118]) = false) (q22 : ((bs x).toList == [86]) = false) (q23 : ((bs x).toList == [58]) = false) (q24 : ((bs x).toList == [47]) = true) :
    Calls Tryz.prog 26 #[.pointer (some ⟨g, 0, none⟩), .string (bs x)] w (EndsAs g w (wet dry (Phr.last ⟨r, n, [], x, []⟩ ks))) := by
  have c3a := h.cell3
  have f3a := h.frozen 3
  simp only at c3a
  have Sa : Hid (Rdr g (w.setCell ⟨g, 3, none⟩ (.string (bs x))) ⟨r, n, [], x, []⟩ ks dry) := Lib.hid (h.set_ (fun v => rfl))
  clear h
  go_enter Tryz.func26, Tryz.ntmps26
  go_wp2
  go_ret
  exact ⟨gb_set w g 3 (.string (bs x)), _, _, _, _, rfl, Sa.out, Phr.out_last _ _ _⟩
set_option maxHeartbeats 1000000 in
set_option maxRecDepth 100000 in
theorem phr_plain_25 {g : Nat} {w : World} {r n : Int} {ks : List (List UInt8)} {dry : Bool} {x : List UInt8} (h : Rdr g w ⟨r, n, [], [], []⟩ ks dry) (q0 : ((bs x).toList == [120]) = false) (q1 : ((bs x).toList == [88]) = false) (q2 : ((bs x).toList == [68]) = false) (q3 : ((bs x).toList == [67]) = false) (q4 : ((bs x).toList == [115]) = false) (q5 : ((bs x).toList == [83]) = false) (q6 : ((bs x).toList == [89]) = false) (q7 : ((bs x).toList == [114]) = false) (q8 : ((bs x).toList == [109]) = false) (q9 : ((bs x).toList == [112]) = false) (q10 : ((bs x).toList == [80]) = false) (q11 : ((bs x).toList == [74]) = false) (q12 : ((bs x).toList == [126]) = false) (q13 : ((bs x).toList == [117]) = false) (q14 : ((bs x).toList == [46]) = false) (q15 : ((bs x).toList == [105]) = false) (q16 : ((bs x).toList == [97]) = false) (q17 : ((bs x).toList == [73]) = false) (q18 : ((bs x).toList == [65]) = false) (q19 : ((bs x).toList == [111]) = false) (q20 : ((bs x).toList == [79]) = false) (q21 : ((bs x).toList == [118]) = false) (q22 : ((bs x).toList == [86]) = false) (q23 : ((bs x).toList == [58]) = false) (q24 : ((bs x).toList == [47]) = false) (q25 : ((bs x).toList == [63]) = true) :
    Calls Tryz.prog 26 #[.pointer (some ⟨g, 0, none⟩), .string (bs x)] w (EndsAs g w (wet dry (Phr.last ⟨r, n, [], x, []⟩ ks))) := by
  have c3a := h.cell3
  have f3a := h.frozen 3
  simp only at c3a
  have Sa : Hid (Rdr g (w.setCell ⟨g, 3, none⟩ (.string (bs x))) ⟨r, n, [], x, []⟩ ks dry) := Lib.hid (h.set_ (fun v => rfl))
  clear h
  go_enter Tryz.func26, Tryz.ntmps26
  go_wp2
  go_ret
  exact ⟨gb_set w g 3 (.string (bs x)), _, _, _, _, rfl, Sa.out, Phr.out_last _ _ _⟩
set_option maxHeartbeats 1000000 in
set_option maxRecDepth 100000 in
theorem phr_plain_26 {g : Nat} {w : World} {r n : Int} {ks : List (List UInt8)} {dry : Bool} {x : List UInt8} (h : Rdr g w ⟨r, n, [], [], []⟩ ks dry) (q0 : ((bs x).toList == [120]) = false) (q1 : ((bs x).toList == [88]) = false) (q2 : ((bs x).toList == [68]) = false) (q3 : ((bs x).toList == [67]) = false) (q4 : ((bs x).toList == [115]) = false) (q5 : ((bs x).toList == [83]) = false) (q6 : ((bs x).toList == [89]) = false) (q7 : ((bs x).toList == [114]) = false) (q8 : ((bs x).toList == [109]) = false) (q9 : ((bs x).toList == [112]) = false) (q10 : ((bs x).toList == [80]) = false) (q11 : ((bs x).toList == [74]) = false) (q12 : ((bs x).toList == [126]) = false) (q13 : ((bs x).toList == [117]) = false) (q14 : ((bs x).toList == [46]) = false) (q15 : ((bs x).toList == [105]) = false) (q16 : ((bs x).toList == [97]) = false) (q17 : ((bs x).toList == [73]) = false) (q18 : ((bs x).toList == [65]) = false) (q19 : ((bs x).toList == [111]) = false) (q20 : ((bs x).toList == [79]) = false) (q21 : ((bs x).toList == [118]) = false) (q22 : ((bs x).toList == [86]) = false) (q23 : ((bs x).toList == [58]) = false) (q24 : ((bs x).toList == [47]) = false) (q25 : ((bs x).toList == [63]) = false) (q26 : ((bs x).toList == [18]) = true) :
    Calls Tryz.prog 26 #[.pointer (some ⟨g, 0, none⟩), .string (bs x)] w (EndsAs g w (wet dry (Phr.last ⟨r, n, [], x, []⟩ ks))) := by
  have c3a := h.cell3
  have f3a := h.frozen 3
  simp only at c3a
  have Sa : Hid (Rdr g (w.setCell ⟨g, 3, none⟩ (.string (bs x))) ⟨r, n, [], x, []⟩ ks dry) := Lib.hid (h.set_ (fun v => rfl))
  clear h
  go_enter Tryz.func26, Tryz.ntmps26
  go_wp2
  go_ret
  exact ⟨gb_set w g 3 (.string (bs x)), _, _, _, _, rfl, Sa.out, Phr.out_last _ _ _⟩
set_option maxHeartbeats 1000000 in
set_option maxRecDepth 100000 in
theorem phr_plain_27 {g : Nat} {w : World} {r n : Int} {ks : List (List UInt8)} {dry : Bool} {x : List UInt8} (h : Rdr g w ⟨r, n, [], [], []⟩ ks dry) (q0 : ((bs x).toList == [120]) = false) (q1 : ((bs x).toList == [88]) = false) (q2 : ((bs x).toList == [68]) = false) (q3 : ((bs x).toList == [67]) = false) (q4 : ((bs x).toList == [115]) = false) (q5 : ((bs x).toList == [83]) = false) (q6 : ((bs x).toList == [89]) = false) (q7 : ((bs x).toList == [114]) = false) (q8 : ((bs x).toList == [109]) = false) (q9 : ((bs x).toList == [112]) = false) (q10 : ((bs x).toList == [80]) = false) (q11 : ((bs x).toList == [74]) = false) (q12 : ((bs x).toList == [126]) = false) (q13 : ((bs x).toList == [117]) = false) (q14 : ((bs x).toList == [46]) = false) (q15 : ((bs x).toList == [105]) = false) (q16 : ((bs x).toList == [97]) = false) (q17 : ((bs x).toList == [73]) = false) (q18 : ((bs x).toList == [65]) = false) (q19 : ((bs x).toList == [111]) = false) (q20 : ((bs x).toList == [79]) = false) (q21 : ((bs x).toList == [118]) = false) (q22 : ((bs x).toList == [86]) = false) (q23 : ((bs x).toList == [58]) = false) (q24 : ((bs x).toList == [47]) = false) (q25 : ((bs x).toList == [63]) = false) (q26 : ((bs x).toList == [18]) = false) (q27 : ((bs x).toList == [103, 45]) = true) :
    Calls Tryz.prog 26 #[.pointer (some ⟨g, 0, none⟩), .string (bs x)] w (EndsAs g w (wet dry (Phr.last ⟨r, n, [], x, []⟩ ks))) := by
  have c3a := h.cell3
  have f3a := h.frozen 3
  simp only at c3a
  have Sa : Hid (Rdr g (w.setCell ⟨g, 3, none⟩ (.string (bs x))) ⟨r, n, [], x, []⟩ ks dry) := Lib.hid (h.set_ (fun v => rfl))
  clear h
  go_enter Tryz.func26, Tryz.ntmps26
  go_wp2
  go_ret
  exact ⟨gb_set w g 3 (.string (bs x)), _, _, _, _, rfl, Sa.out, Phr.out_last _ _ _⟩
set_option maxHeartbeats 1000000 in
set_option maxRecDepth 100000 in
theorem phr_plain_28 {g : Nat} {w : World} {r n : Int} {ks : List (List UInt8)} {dry : Bool} {x : List UInt8} (h : Rdr g w ⟨r, n, [], [], []⟩ ks dry) (q0 : ((bs x).toList == [120]) = false) (q1 : ((bs x).toList == [88]) = false) (q2 : ((bs x).toList == [68]) = false) (q3 : ((bs x).toList == [67]) = false) (q4 : ((bs x).toList == [115]) = false) (q5 : ((bs x).toList == [83]) = false) (q6 : ((bs x).toList == [89]) = false) (q7 : ((bs x).toList == [114]) = false) (q8 : ((bs x).toList == [109]) = false) (q9 : ((bs x).toList == [112]) = false) (q10 : ((bs x).toList == [80]) = false) (q11 : ((bs x).toList == [74]) = false) (q12 : ((bs x).toList == [126]) = false) (q13 : ((bs x).toList == [117]) = false) (q14 : ((bs x).toList == [46]) = false) (q15 : ((bs x).toList == [105]) = false) (q16 : ((bs x).toList == [97]) = false) (q17 : ((bs x).toList == [73]) = false) (q18 : ((bs x).toList == [65]) = false) (q19 : ((bs x).toList == [111]) = false) (q20 : ((bs x).toList == [79]) = false) (q21 : ((bs x).toList == [118]) = false) (q22 : ((bs x).toList == [86]) = false) (q23 : ((bs x).toList == [58]) = false) (q24 : ((bs x).toList == [47]) = false) (q25 : ((bs x).toList == [63]) = false) (q26 : ((bs x).toList == [18]) = false) (q27 : ((bs x).toList == [103, 45]) = false) (q28 : ((bs x).toList == [103, 43]) = true) :
    Calls Tryz.prog 26 #[.pointer (some ⟨g, 0, none⟩), .string (bs x)] w (EndsAs g w (wet dry (Phr.last ⟨r, n, [], x, []⟩ ks))) := by
  have c3a := h.cell3
  have f3a := h.frozen 3
  simp only at c3a
  have Sa : Hid (Rdr g (w.setCell ⟨g, 3, none⟩ (.string (bs x))) ⟨r, n, [], x, []⟩ ks dry) := Lib.hid (h.set_ (fun v => rfl))
  clear h
  go_enter Tryz.func26, Tryz.ntmps26
  go_wp2
  go_ret
  exact ⟨gb_set w g 3 (.string (bs x)), _, _, _, _, rfl, Sa.out, Phr.out_last _ _ _⟩
set_option maxHeartbeats 1000000 in
set_option maxRecDepth 100000 in
theorem phr_plain_29 {g : Nat} {w : World} {r n : Int} {ks : List (List UInt8)} {dry : Bool} {x : List UInt8} (h : Rdr g w ⟨r, n, [], [], []⟩ ks dry) (q0 : ((bs x).toList == [120]) = false) (q1 : ((bs x).toList == [88]) = false) (q2 : ((bs x).toList == [68]) = false) (q3 : ((bs x).toList == [67]) = false) (q4 : ((bs x).toList == [115]) = false) (q5 : ((bs x).toList == [83]) = false) (q6 : ((bs x).toList == [89]) = false) (q7 : ((bs x).toList == [114]) = false) (q8 : ((bs x).toList == [109]) = false) (q9 : ((bs x).toList == [112]) = false) (q10 : ((bs x).toList == [80]) = false) (q11 : ((bs x).toList == [74]) = false) (q12 : ((bs x).toList == [126]) = false) (q13 : ((bs x).toList == [117]) = false) (q14 : ((bs x).toList == [46]) = false) (q15 : ((bs x).toList == [105]) = false) (q16 : ((bs x).toList == [97]) = false) (q17 : ((bs x).toList == [73]) = false) (q18 : ((bs x).toList == [65]) = false) (q19 : ((bs x).toList == [111]) = false) (q20 : ((bs x).toList == [79]) = false) (q21 : ((bs x).toList == [118]) = false) (q22 : ((bs x).toList == [86]) = false) (q23 : ((bs x).toList == [58]) = false) (q24 : ((bs x).toList == [47]) = false) (q25 : ((bs x).toList == [63]) = false) (q26 : ((bs x).toList == [18]) = false) (q27 : ((bs x).toList == [103, 45]) = false) (q28 : ((bs x).toList == [103, 43]) = false) :
    Calls Tryz.prog 26 #[.pointer (some ⟨g, 0, none⟩), .string (bs x)] w (EndsAs g w (wet dry (Phr.bad))) := by
  have S := Lib.hid h
  clear h
  go_enter Tryz.func26, Tryz.ntmps26
  go_wp2
  go_ret
  exact ⟨gb_drewN w 0 _, _, _, _, _, rfl, S.out, Phr.out_bad _ _ _⟩
theorem phr_plain {g : Nat} {w : World} {r n : Int} {ks : List (List UInt8)} {dry : Bool} {x : List UInt8} (h : Rdr g w ⟨r, n, [], [], []⟩ ks dry) (hx : x ∉ Phr.opers) :
    Calls Tryz.prog 26 #[.pointer (some ⟨g, 0, none⟩), .string (bs x)] w (EndsAs g w (wet dry (Phr.does ⟨r, n, [], [], []⟩ (Phr.plain x) ks))) := by
  rcases Bool.eq_false_or_eq_true ((bs x).toList == [120]) with q0 | q0
  · obtain rfl := Phr.yes q0; exact phr_plain_0 h q0
  rcases Bool.eq_false_or_eq_true ((bs x).toList == [88]) with q1 | q1
  · obtain rfl := Phr.yes q1; exact phr_plain_1 h q0 q1
  rcases Bool.eq_false_or_eq_true ((bs x).toList == [68]) with q2 | q2
  · obtain rfl := Phr.yes q2; exact phr_plain_2 h q0 q1 q2
  rcases Bool.eq_false_or_eq_true ((bs x).toList == [67]) with q3 | q3
  · obtain rfl := Phr.yes q3; exact phr_plain_3 h q0 q1 q2 q3
  rcases Bool.eq_false_or_eq_true ((bs x).toList == [115]) with q4 | q4
  · obtain rfl := Phr.yes q4; exact phr_plain_4 h q0 q1 q2 q3 q4
  rcases Bool.eq_false_or_eq_true ((bs x).toList == [83]) with q5 | q5
  · obtain rfl := Phr.yes q5; exact phr_plain_5 h q0 q1 q2 q3 q4 q5
  rcases Bool.eq_false_or_eq_true ((bs x).toList == [89]) with q6 | q6
  · obtain rfl := Phr.yes q6; exact phr_plain_6 h q0 q1 q2 q3 q4 q5 q6
  rcases Bool.eq_false_or_eq_true ((bs x).toList == [114]) with q7 | q7
  · obtain rfl := Phr.yes q7; exact phr_plain_7 h q0 q1 q2 q3 q4 q5 q6 q7
  rcases Bool.eq_false_or_eq_true ((bs x).toList == [109]) with q8 | q8
  · obtain rfl := Phr.yes q8; exact phr_plain_8 h q0 q1 q2 q3 q4 q5 q6 q7 q8
  rcases Bool.eq_false_or_eq_true ((bs x).toList == [112]) with q9 | q9
  · obtain rfl := Phr.yes q9; exact phr_plain_9 h q0 q1 q2 q3 q4 q5 q6 q7 q8 q9
  rcases Bool.eq_false_or_eq_true ((bs x).toList == [80]) with q10 | q10
  · obtain rfl := Phr.yes q10; exact phr_plain_10 h q0 q1 q2 q3 q4 q5 q6 q7 q8 q9 q10
  rcases Bool.eq_false_or_eq_true ((bs x).toList == [74]) with q11 | q11
  · obtain rfl := Phr.yes q11; exact phr_plain_11 h q0 q1 q2 q3 q4 q5 q6 q7 q8 q9 q10 q11
  rcases Bool.eq_false_or_eq_true ((bs x).toList == [126]) with q12 | q12
  · obtain rfl := Phr.yes q12; exact phr_plain_12 h q0 q1 q2 q3 q4 q5 q6 q7 q8 q9 q10 q11 q12
  rcases Bool.eq_false_or_eq_true ((bs x).toList == [117]) with q13 | q13
  · obtain rfl := Phr.yes q13; exact phr_plain_13 h q0 q1 q2 q3 q4 q5 q6 q7 q8 q9 q10 q11 q12 q13
  rcases Bool.eq_false_or_eq_true ((bs x).toList == [46]) with q14 | q14
  · obtain rfl := Phr.yes q14; exact phr_plain_14 h q0 q1 q2 q3 q4 q5 q6 q7 q8 q9 q10 q11 q12 q13 q14
  rcases Bool.eq_false_or_eq_true ((bs x).toList == [105]) with q15 | q15
  · obtain rfl := Phr.yes q15; exact phr_plain_15 h q0 q1 q2 q3 q4 q5 q6 q7 q8 q9 q10 q11 q12 q13 q14 q15
  rcases Bool.eq_false_or_eq_true ((bs x).toList == [97]) with q16 | q16
  · obtain rfl := Phr.yes q16; exact phr_plain_16 h q0 q1 q2 q3 q4 q5 q6 q7 q8 q9 q10 q11 q12 q13 q14 q15 q16
  rcases Bool.eq_false_or_eq_true ((bs x).toList == [73]) with q17 | q17
  · obtain rfl := Phr.yes q17; exact phr_plain_17 h q0 q1 q2 q3 q4 q5 q6 q7 q8 q9 q10 q11 q12 q13 q14 q15 q16 q17
  rcases Bool.eq_false_or_eq_true ((bs x).toList == [65]) with q18 | q18
  · obtain rfl := Phr.yes q18; exact phr_plain_18 h q0 q1 q2 q3 q4 q5 q6 q7 q8 q9 q10 q11 q12 q13 q14 q15 q16 q17 q18
  rcases Bool.eq_false_or_eq_true ((bs x).toList == [111]) with q19 | q19
  · obtain rfl := Phr.yes q19; exact phr_plain_19 h q0 q1 q2 q3 q4 q5 q6 q7 q8 q9 q10 q11 q12 q13 q14 q15 q16 q17 q18 q19
  rcases Bool.eq_false_or_eq_true ((bs x).toList == [79]) with q20 | q20
  · obtain rfl := Phr.yes q20; exact phr_plain_20 h q0 q1 q2 q3 q4 q5 q6 q7 q8 q9 q10 q11 q12 q13 q14 q15 q16 q17 q18 q19 q20
  rcases Bool.eq_false_or_eq_true ((bs x).toList == [118]) with q21 | q21
  · obtain rfl := Phr.yes q21; exact phr_plain_21 h q0 q1 q2 q3 q4 q5 q6 q7 q8 q9 q10 q11 q12 q13 q14 q15 q16 q17 q18 q19 q20 q21
  rcases Bool.eq_false_or_eq_true ((bs x).toList == [86]) with q22 | q22
  · obtain rfl := Phr.yes q22; exact phr_plain_22 h q0 q1 q2 q3 q4 q5 q6 q7 q8 q9 q10 q11 q12 q13 q14 q15 q16 q17 q18 q19 q20 q21 q22
  rcases Bool.eq_false_or_eq_true ((bs x).toList == [58]) with q23 | q23
  · obtain rfl := Phr.yes q23; exact phr_plain_23 h q0 q1 q2 q3 q4 q5 q6 q7 q8 q9 q10 q11 q12 q13 q14 q15 q16 q17 q18 q19 q20 q21 q22 q23
  rcases Bool.eq_false_or_eq_true ((bs x).toList == [47]) with q24 | q24
  · obtain rfl := Phr.yes q24; exact phr_plain_24 h q0 q1 q2 q3 q4 q5 q6 q7 q8 q9 q10 q11 q12 q13 q14 q15 q16 q17 q18 q19 q20 q21 q22 q23 q24
  rcases Bool.eq_false_or_eq_true ((bs x).toList == [63]) with q25 | q25
  · obtain rfl := Phr.yes q25; exact phr_plain_25 h q0 q1 q2 q3 q4 q5 q6 q7 q8 q9 q10 q11 q12 q13 q14 q15 q16 q17 q18 q19 q20 q21 q22 q23 q24 q25
  rcases Bool.eq_false_or_eq_true ((bs x).toList == [18]) with q26 | q26
  · obtain rfl := Phr.yes q26; exact phr_plain_26 h q0 q1 q2 q3 q4 q5 q6 q7 q8 q9 q10 q11 q12 q13 q14 q15 q16 q17 q18 q19 q20 q21 q22 q23 q24 q25 q26
  rcases Bool.eq_false_or_eq_true ((bs x).toList == [103, 45]) with q27 | q27
  · obtain rfl := Phr.yes q27; exact phr_plain_27 h q0 q1 q2 q3 q4 q5 q6 q7 q8 q9 q10 q11 q12 q13 q14 q15 q16 q17 q18 q19 q20 q21 q22 q23 q24 q25 q26 q27
  rcases Bool.eq_false_or_eq_true ((bs x).toList == [103, 43]) with q28 | q28
  · obtain rfl := Phr.yes q28; exact phr_plain_28 h q0 q1 q2 q3 q4 q5 q6 q7 q8 q9 q10 q11 q12 q13 q14 q15 q16 q17 q18 q19 q20 q21 q22 q23 q24 q25 q26 q27 q28
  rw [show Phr.plain x = .not by simp [Phr.plain, Phr.alone, hx, Phr.no q0, Phr.no q1, Phr.no q2, Phr.no q3, Phr.no q4, Phr.no q5, Phr.no q6, Phr.no q7, Phr.no q8, Phr.no q9, Phr.no q10, Phr.no q11, Phr.no q12, Phr.no q13, Phr.no q14, Phr.no q15, Phr.no q16, Phr.no q17, Phr.no q18, Phr.no q19, Phr.no q20, Phr.no q21, Phr.no q22, Phr.no q23, Phr.no q24, Phr.no q25, Phr.no q26, Phr.no q27, Phr.no q28]]
  exact phr_plain_29 h q0 q1 q2 q3 q4 q5 q6 q7 q8 q9 q10 q11 q12 q13 q14 q15 q16 q17 q18 q19 q20 q21 q22 q23 q24 q25 q26 q27 q28
set_option maxHeartbeats 1000000 in
set_option maxRecDepth 100000 in
theorem phr_area_0 {g : Nat} {w : World} {r n : Int} {ks : List (List UInt8)} {dry : Bool} {x : List UInt8} (h : Rdr g w ⟨r, n, [], [], []⟩ ks dry) (q0 : ((bs x).toList == [100]) = true) :
    Calls Tryz.prog 23 #[.pointer (some ⟨g, 0, none⟩), .string (bs x)] w (EndsAs g w (wet dry (Phr.last ⟨r, n, [100], [], []⟩ ks))) := by
  have c2a := h.cell2
  have f2a := h.frozen 2
  simp only at c2a
  have Sa : Hid (Rdr g (w.setCell ⟨g, 2, none⟩ (.string ⟨#[100]⟩)) ⟨r, n, [100], [], []⟩ ks dry) := Lib.hid (h.set_ (fun v => rfl))
  clear h
  go_enter Tryz.func23, Tryz.ntmps23
  go_wp2
  go_ret
  exact ⟨gb_set w g 2 (.string (bs [100])), _, _, _, _, rfl, Sa.out, Phr.out_last _ _ _⟩
set_option maxHeartbeats 1000000 in
set_option maxRecDepth 100000 in
theorem phr_area_1 {g : Nat} {w : World} {r n : Int} {ks : List (List UInt8)} {dry : Bool} {x : List UInt8} (h : Rdr g w ⟨r, n, [], [], []⟩ ks dry) (q0 : ((bs x).toList == [100]) = false) (q1 : ((bs x).toList == [120]) = true) :
    Calls Tryz.prog 23 #[.pointer (some ⟨g, 0, none⟩), .string (bs x)] w (EndsAs g w (wet dry (Phr.last ⟨r, n, [100], [], []⟩ ks))) := by
  have c2a := h.cell2
  have f2a := h.frozen 2
  simp only at c2a
  have Sa : Hid (Rdr g (w.setCell ⟨g, 2, none⟩ (.string ⟨#[100]⟩)) ⟨r, n, [100], [], []⟩ ks dry) := Lib.hid (h.set_ (fun v => rfl))
  clear h
  go_enter Tryz.func23, Tryz.ntmps23
  go_wp2
  go_ret
  exact ⟨gb_set w g 2 (.string (bs [100])), _, _, _, _, rfl, Sa.out, Phr.out_last _ _ _⟩
set_option maxHeartbeats 1000000 in
set_option maxRecDepth 100000 in
theorem phr_area_2 {g : Nat} {w : World} {r n : Int} {ks : List (List UInt8)} {dry : Bool} {x : List UInt8} (h : Rdr g w ⟨r, n, [], [], []⟩ ks dry) (q0 : ((bs x).toList == [100]) = false) (q1 : ((bs x).toList == [120]) = false) (q2 : ((bs x).toList == [99]) = true) :
    Calls Tryz.prog 23 #[.pointer (some ⟨g, 0, none⟩), .string (bs x)] w (EndsAs g w (wet dry (Phr.last ⟨r, n, [99], [], []⟩ ks))) := by
  have c2a := h.cell2
  have f2a := h.frozen 2
  simp only at c2a
  have Sa : Hid (Rdr g (w.setCell ⟨g, 2, none⟩ (.string ⟨#[99]⟩)) ⟨r, n, [99], [], []⟩ ks dry) := Lib.hid (h.set_ (fun v => rfl))
  clear h
  go_enter Tryz.func23, Tryz.ntmps23
  go_wp2
  go_ret
  exact ⟨gb_set w g 2 (.string (bs [99])), _, _, _, _, rfl, Sa.out, Phr.out_last _ _ _⟩
set_option maxHeartbeats 1000000 in
set_option maxRecDepth 100000 in
theorem phr_area_3 {g : Nat} {w : World} {r n : Int} {ks : List (List UInt8)} {dry : Bool} {x : List UInt8} (h : Rdr g w ⟨r, n, [], [], []⟩ ks dry) (q0 : ((bs x).toList == [100]) = false) (q1 : ((bs x).toList == [120]) = false) (q2 : ((bs x).toList == [99]) = false) (q3 : ((bs x).toList == [115]) = true) :
    Calls Tryz.prog 23 #[.pointer (some ⟨g, 0, none⟩), .string (bs x)] w (EndsAs g w (wet dry (Phr.last ⟨r, n, [99], [], []⟩ ks))) := by
  have c2a := h.cell2
  have f2a := h.frozen 2
  simp only at c2a
  have Sa : Hid (Rdr g (w.setCell ⟨g, 2, none⟩ (.string ⟨#[99]⟩)) ⟨r, n, [99], [], []⟩ ks dry) := Lib.hid (h.set_ (fun v => rfl))
  clear h
  go_enter Tryz.func23, Tryz.ntmps23
  go_wp2
  go_ret
  exact ⟨gb_set w g 2 (.string (bs [99])), _, _, _, _, rfl, Sa.out, Phr.out_last _ _ _⟩
set_option maxHeartbeats 1000000 in
set_option maxRecDepth 100000 in
theorem phr_area_4 {g : Nat} {w : World} {r n : Int} {ks : List (List UInt8)} {dry : Bool} {x : List UInt8} (h : Rdr g w ⟨r, n, [], [], []⟩ ks dry) (q0 : ((bs x).toList == [100]) = false) (q1 : ((bs x).toList == [120]) = false) (q2 : ((bs x).toList == [99]) = false) (q3 : ((bs x).toList == [115]) = false) (q4 : ((bs x).toList == [126]) = true) :
    Calls Tryz.prog 23 #[.pointer (some ⟨g, 0, none⟩), .string (bs x)] w (EndsAs g w (wet dry (Phr.last ⟨r, n, 103 :: x, [], []⟩ ks))) := by
  have c2a := h.cell2
  have f2a := h.frozen 2
  simp only at c2a
  have Sa : Hid (Rdr g (w.setCell ⟨g, 2, none⟩ (.string (bs (103 :: x)))) ⟨r, n, 103 :: x, [], []⟩ ks dry) := Lib.hid (h.set_ (fun v => rfl))
  have H : Hid (bs (103 :: x) = bs [103] ++ bs x) := Lib.hid (by rw [bs_append]; rfl)
  have hxs : (bs x).size = 1 := by rw [Phr.yes q4]; rfl
  have h103 : (⟨#[103]⟩ : ByteArray).size = 1 := rfl
  rw [H.out] at Sa
  clear h
  go_enter Tryz.func23, Tryz.ntmps23
  go_wp2
  go_ret
  exact ⟨gb_set w g 2 (.string (bs [103] ++ bs x)), _, _, _, _, rfl, Sa.out, Phr.out_last _ _ _⟩
set_option maxHeartbeats 1000000 in
set_option maxRecDepth 100000 in
theorem phr_area_5 {g : Nat} {w : World} {r n : Int} {ks : List (List UInt8)} {dry : Bool} {x : List UInt8} (h : Rdr g w ⟨r, n, [], [], []⟩ ks dry) (q0 : ((bs x).toList == [100]) = false) (q1 : ((bs x).toList == [120]) = false) (q2 : ((bs x).toList == [99]) = false) (q3 : ((bs x).toList == [115]) = false) (q4 : ((bs x).toList == [126]) = false) (q5 : ((bs x).toList == [117]) = true) :
    Calls Tryz.prog 23 #[.pointer (some ⟨g, 0, none⟩), .string (bs x)] w (EndsAs g w (wet dry (Phr.last ⟨r, n, 103 :: x, [], []⟩ ks))) := by
  have c2a := h.cell2
  have f2a := h.frozen 2
  simp only at c2a
  have Sa : Hid (Rdr g (w.setCell ⟨g, 2, none⟩ (.string (bs (103 :: x)))) ⟨r, n, 103 :: x, [], []⟩ ks dry) := Lib.hid (h.set_ (fun v => rfl))
  have H : Hid (bs (103 :: x) = bs [103] ++ bs x) := Lib.hid (by rw [bs_append]; rfl)
  have hxs : (bs x).size = 1 := by rw [Phr.yes q5]; rfl
  have h103 : (⟨#[103]⟩ : ByteArray).size = 1 := rfl
  rw [H.out] at Sa
  clear h
  go_enter Tryz.func23, Tryz.ntmps23
  go_wp2
  go_ret
  exact ⟨gb_set w g 2 (.string (bs [103] ++ bs x)), _, _, _, _, rfl, Sa.out, Phr.out_last _ _ _⟩
set_option maxHeartbeats 1000000 in
set_option maxRecDepth 100000 in
theorem phr_area_6 {g : Nat} {w : World} {r n : Int} {ks : List (List UInt8)} {dry : Bool} {x : List UInt8} (h : Rdr g w ⟨r, n, [], [], []⟩ ks dry) (q0 : ((bs x).toList == [100]) = false) (q1 : ((bs x).toList == [120]) = false) (q2 : ((bs x).toList == [99]) = false) (q3 : ((bs x).toList == [115]) = false) (q4 : ((bs x).toList == [126]) = false) (q5 : ((bs x).toList == [117]) = false) (q6 : ((bs x).toList == [85]) = true) :
    Calls Tryz.prog 23 #[.pointer (some ⟨g, 0, none⟩), .string (bs x)] w (EndsAs g w (wet dry (Phr.last ⟨r, n, 103 :: x, [], []⟩ ks))) := by
  have c2a := h.cell2
  have f2a := h.frozen 2
  simp only at c2a
  have Sa : Hid (Rdr g (w.setCell ⟨g, 2, none⟩ (.string (bs (103 :: x)))) ⟨r, n, 103 :: x, [], []⟩ ks dry) := Lib.hid (h.set_ (fun v => rfl))
  have H : Hid (bs (103 :: x) = bs [103] ++ bs x) := Lib.hid (by rw [bs_append]; rfl)
  have hxs : (bs x).size = 1 := by rw [Phr.yes q6]; rfl
  have h103 : (⟨#[103]⟩ : ByteArray).size = 1 := rfl
  rw [H.out] at Sa
  clear h
  go_enter Tryz.func23, Tryz.ntmps23
  go_wp2
  go_ret
  exact ⟨gb_set w g 2 (.string (bs [103] ++ bs x)), _, _, _, _, rfl, Sa.out, Phr.out_last _ _ _⟩
set_option maxHeartbeats 1000000 in
set_option maxRecDepth 100000 in
theorem phr_area_7 {g : Nat} {w : World} {r n : Int} {ks : List (List UInt8)} {dry : Bool} {x : List UInt8} (h : Rdr g w ⟨r, n, [], [], []⟩ ks dry) (q0 : ((bs x).toList == [100]) = false) (q1 : ((bs x).toList == [120]) = false) (q2 : ((bs x).toList == [99]) = false) (q3 : ((bs x).toList == [115]) = false) (q4 : ((bs x).toList == [126]) = false) (q5 : ((bs x).toList == [117]) = false) (q6 : ((bs x).toList == [85]) = false) (q7 : ((bs x).toList == [74]) = true) :
    Calls Tryz.prog 23 #[.pointer (some ⟨g, 0, none⟩), .string (bs x)] w (EndsAs g w (wet dry (Phr.last ⟨r, n, [], x, []⟩ ks))) := by
  have c3a := h.cell3
  have f3a := h.frozen 3
  simp only at c3a
  have Sa : Hid (Rdr g (w.setCell ⟨g, 3, none⟩ (.string (bs x))) ⟨r, n, [], x, []⟩ ks dry) := Lib.hid (h.set_ (fun v => rfl))
  clear h
  go_enter Tryz.func23, Tryz.ntmps23
  go_wp2
  go_ret
  exact ⟨gb_set w g 3 (.string (bs x)), _, _, _, _, rfl, Sa.out, Phr.out_last _ _ _⟩
set_option maxHeartbeats 1000000 in
set_option maxRecDepth 100000 in
theorem phr_area_8 {g : Nat} {w : World} {r n : Int} {ks : List (List UInt8)} {dry : Bool} {x : List UInt8} (h : Rdr g w ⟨r, n, [], [], []⟩ ks dry) (q0 : ((bs x).toList == [100]) = false) (q1 : ((bs x).toList == [120]) = false) (q2 : ((bs x).toList == [99]) = false) (q3 : ((bs x).toList == [115]) = false) (q4 : ((bs x).toList == [126]) = false) (q5 : ((bs x).toList == [117]) = false) (q6 : ((bs x).toList == [85]) = false) (q7 : ((bs x).toList == [74]) = false) (q8 : ((bs x).toList == [111]) = true) :
    Calls Tryz.prog 23 #[.pointer (some ⟨g, 0, none⟩), .string (bs x)] w (EndsAs g w (wet dry (Phr.last ⟨r, n, [], x, []⟩ ks))) := by
  have c3a := h.cell3
  have f3a := h.frozen 3
  simp only at c3a
  have Sa : Hid (Rdr g (w.setCell ⟨g, 3, none⟩ (.string (bs x))) ⟨r, n, [], x, []⟩ ks dry) := Lib.hid (h.set_ (fun v => rfl))
  clear h
  go_enter Tryz.func23, Tryz.ntmps23
  go_wp2
  go_ret
  exact ⟨gb_set w g 3 (.string (bs x)), _, _, _, _, rfl, Sa.out, Phr.out_last _ _ _⟩
set_option maxHeartbeats 1000000 in
set_option maxRecDepth 100000 in
theorem phr_area_9 {g : Nat} {w : World} {r n : Int} {ks : List (List UInt8)} {dry : Bool} {x : List UInt8} (h : Rdr g w ⟨r, n, [], [], []⟩ ks dry) (q0 : ((bs x).toList == [100]) = false) (q1 : ((bs x).toList == [120]) = false) (q2 : ((bs x).toList == [99]) = false) (q3 : ((bs x).toList == [115]) = false) (q4 : ((bs x).toList == [126]) = false) (q5 : ((bs x).toList == [117]) = false) (q6 : ((bs x).toList == [85]) = false) (q7 : ((bs x).toList == [74]) = false) (q8 : ((bs x).toList == [111]) = false) (q9 : ((bs x).toList == [118]) = true) :
    Calls Tryz.prog 23 #[.pointer (some ⟨g, 0, none⟩), .string (bs x)] w (EndsAs g w (wet dry (Phr.last ⟨r, n, [], x, []⟩ ks))) := by
  have c3a := h.cell3
  have f3a := h.frozen 3
  simp only at c3a
  have Sa : Hid (Rdr g (w.setCell ⟨g, 3, none⟩ (.string (bs x))) ⟨r, n, [], x, []⟩ ks dry) := Lib.hid (h.set_ (fun v => rfl))
  clear h
  go_enter Tryz.func23, Tryz.ntmps23
  go_wp2
  go_ret
  exact ⟨gb_set w g 3 (.string (bs x)), _, _, _, _, rfl, Sa.out, Phr.out_last _ _ _⟩
set_option maxHeartbeats 1000000 in
set_option maxRecDepth 100000 in
theorem phr_area_10 {g : Nat} {w : World} {r n : Int} {ks : List (List UInt8)} {dry : Bool} {x : List UInt8} (h : Rdr g w ⟨r, n, [], [], []⟩ ks dry) (q0 : ((bs x).toList == [100]) = false) (q1 : ((bs x).toList == [120]) = false) (q2 : ((bs x).toList == [99]) = false) (q3 : ((bs x).toList == [115]) = false) (q4 : ((bs x).toList == [126]) = false) (q5 : ((bs x).toList == [117]) = false) (q6 : ((bs x).toList == [85]) = false) (q7 : ((bs x).toList == [74]) = false) (q8 : ((bs x).toList == [111]) = false) (q9 : ((bs x).toList == [118]) = false) (q10 : ((bs x).toList == [86]) = true) :
    Calls Tryz.prog 23 #[.pointer (some ⟨g, 0, none⟩), .string (bs x)] w (EndsAs g w (wet dry (Phr.last ⟨r, n, [], x, []⟩ ks))) := by
  have c3a := h.cell3
  have f3a := h.frozen 3
  simp only at c3a
  have Sa : Hid (Rdr g (w.setCell ⟨g, 3, none⟩ (.string (bs x))) ⟨r, n, [], x, []⟩ ks dry) := Lib.hid (h.set_ (fun v => rfl))
  clear h
  go_enter Tryz.func23, Tryz.ntmps23
  go_wp2
  go_ret
  exact ⟨gb_set w g 3 (.string (bs x)), _, _, _, _, rfl, Sa.out, Phr.out_last _ _ _⟩
set_option maxHeartbeats 1000000 in
set_option maxRecDepth 100000 in
theorem phr_area_11 {g : Nat} {w : World} {r n : Int} {ks : List (List UInt8)} {dry : Bool} {x : List UInt8} (h : Rdr g w ⟨r, n, [], [], []⟩ ks dry) (q0 : ((bs x).toList == [100]) = false) (q1 : ((bs x).toList == [120]) = false) (q2 : ((bs x).toList == [99]) = false) (q3 : ((bs x).toList == [115]) = false) (q4 : ((bs x).toList == [126]) = false) (q5 : ((bs x).toList == [117]) = false) (q6 : ((bs x).toList == [85]) = false) (q7 : ((bs x).toList == [74]) = false) (q8 : ((bs x).toList == [111]) = false) (q9 : ((bs x).toList == [118]) = false) (q10 : ((bs x).toList == [86]) = false) (q11 : ((bs x).toList == [105]) = true) :
    Calls Tryz.prog 23 #[.pointer (some ⟨g, 0, none⟩), .string (bs x)] w (EndsAs g w (wet dry (Phr.goes ⟨r, n, [], x, []⟩ 1 ks))) := by
  have C := Lib.hid (phr_part x h)
  clear h
  go_enter Tryz.func23, Tryz.ntmps23
  go_wp2_with ((go_at_call 48; refine C.out.mono ?_; rintro e w1 ⟨g1, read, d1, c1, l1, rfl, h1, e1⟩))
  go_ret
  exact ⟨g1, _, _, _, _, rfl, h1, e1⟩
set_option maxHeartbeats 1000000 in
set_option maxRecDepth 100000 in
theorem phr_area_12 {g : Nat} {w : World} {r n : Int} {ks : List (List UInt8)} {dry : Bool} {x : List UInt8} (h : Rdr g w ⟨r, n, [], [], []⟩ ks dry) (q0 : ((bs x).toList == [100]) = false) (q1 : ((bs x).toList == [120]) = false) (q2 : ((bs x).toList == [99]) = false) (q3 : ((bs x).toList == [115]) = false) (q4 : ((bs x).toList == [126]) = false) (q5 : ((bs x).toList == [117]) = false) (q6 : ((bs x).toList == [85]) = false) (q7 : ((bs x).toList == [74]) = false) (q8 : ((bs x).toList == [111]) = false) (q9 : ((bs x).toList == [118]) = false) (q10 : ((bs x).toList == [86]) = false) (q11 : ((bs x).toList == [105]) = false) (q12 : ((bs x).toList == [97]) = true) :
    Calls Tryz.prog 23 #[.pointer (some ⟨g, 0, none⟩), .string (bs x)] w (EndsAs g w (wet dry (Phr.goes ⟨r, n, [], x, []⟩ 1 ks))) := by
  have C := Lib.hid (phr_part x h)
  clear h
  go_enter Tryz.func23, Tryz.ntmps23
  go_wp2_with ((go_at_call 48; refine C.out.mono ?_; rintro e w1 ⟨g1, read, d1, c1, l1, rfl, h1, e1⟩))
  go_ret
  exact ⟨g1, _, _, _, _, rfl, h1, e1⟩
set_option maxHeartbeats 1000000 in
set_option maxRecDepth 100000 in
theorem phr_area_op {g : Nat} {w : World} {r n : Int} {ks : List (List UInt8)} {dry : Bool} {x : List UInt8} (h : Rdr g w ⟨r, n, [], [], []⟩ ks dry) (hx : x ∈ Phr.opers) (q0 : ((bs x).toList == [100]) = false) (q1 : ((bs x).toList == [120]) = false) (q2 : ((bs x).toList == [99]) = false) (q3 : ((bs x).toList == [115]) = false) (q4 : ((bs x).toList == [126]) = false) (q5 : ((bs x).toList == [117]) = false) (q6 : ((bs x).toList == [85]) = false) (q7 : ((bs x).toList == [74]) = false) (q8 : ((bs x).toList == [111]) = false) (q9 : ((bs x).toList == [118]) = false) (q10 : ((bs x).toList == [86]) = false) (q11 : ((bs x).toList == [105]) = false) (q12 : ((bs x).toList == [97]) = false) :
    Calls Tryz.prog 23 #[.pointer (some ⟨g, 0, none⟩), .string (bs x)] w (EndsAs g w (wet dry (Phr.last ⟨r, n, x, [], []⟩ ks))) := by
  have c2a := h.cell2
  have f2a := h.frozen 2
  simp only at c2a
  have Sa : Hid (Rdr g (w.setCell ⟨g, 2, none⟩ (.string (bs x))) ⟨r, n, x, [], []⟩ ks dry) := Lib.hid (h.set_ (fun v => rfl))
  have O := Lib.hid (fun w => phr_operator x w)
  rw [show decide (x ∈ Phr.opers) = true from decide_eq_true hx] at O
  clear h
  go_enter Tryz.func23, Tryz.ntmps23
  go_wp2_with ((go_at_call 24; refine (O.out _).mono ?_; rintro e w1 ⟨rfl, rfl⟩))
  go_ret
  exact ⟨gb_set w g 2 (.string (bs x)), _, _, _, _, rfl, Sa.out, Phr.out_last _ _ _⟩
set_option maxHeartbeats 1000000 in
set_option maxRecDepth 100000 in
theorem phr_area_not {g : Nat} {w : World} {r n : Int} {ks : List (List UInt8)} {dry : Bool} {x : List UInt8} (h : Rdr g w ⟨r, n, [], [], []⟩ ks dry) (hx : x ∉ Phr.opers) (q0 : ((bs x).toList == [100]) = false) (q1 : ((bs x).toList == [120]) = false) (q2 : ((bs x).toList == [99]) = false) (q3 : ((bs x).toList == [115]) = false) (q4 : ((bs x).toList == [126]) = false) (q5 : ((bs x).toList == [117]) = false) (q6 : ((bs x).toList == [85]) = false) (q7 : ((bs x).toList == [74]) = false) (q8 : ((bs x).toList == [111]) = false) (q9 : ((bs x).toList == [118]) = false) (q10 : ((bs x).toList == [86]) = false) (q11 : ((bs x).toList == [105]) = false) (q12 : ((bs x).toList == [97]) = false) :
    Calls Tryz.prog 23 #[.pointer (some ⟨g, 0, none⟩), .string (bs x)] w (EndsAs g w (wet dry (Phr.bad))) := by
  have c2a := h.cell2
  have f2a := h.frozen 2
  simp only at c2a
  have Sa : Hid (Rdr g (w.setCell ⟨g, 2, none⟩ (.string (bs x))) ⟨r, n, x, [], []⟩ ks dry) := Lib.hid (h.set_ (fun v => rfl))
  have O := Lib.hid (fun w => phr_operator x w)
  rw [show decide (x ∈ Phr.opers) = false from decide_eq_false hx] at O
  clear h
  go_enter Tryz.func23, Tryz.ntmps23
  go_wp2_with ((go_at_call 24; refine (O.out _).mono ?_; rintro e w1 ⟨rfl, rfl⟩))
  go_ret
  exact ⟨gb_set w g 2 (.string (bs x)), _, _, _, _, rfl, Sa.out, Phr.out_bad _ _ _⟩
theorem phr_area {g : Nat} {w : World} {r n : Int} {ks : List (List UInt8)} {dry : Bool} {x : List UInt8} (h : Rdr g w ⟨r, n, [], [], []⟩ ks dry) :
    Calls Tryz.prog 23 #[.pointer (some ⟨g, 0, none⟩), .string (bs x)] w (EndsAs g w (wet dry (Phr.does ⟨r, n, [], [], []⟩ (Phr.area x) ks))) := by
  rcases Bool.eq_false_or_eq_true ((bs x).toList == [100]) with q0 | q0
  · obtain rfl := Phr.yes q0; exact phr_area_0 h q0
  rcases Bool.eq_false_or_eq_true ((bs x).toList == [120]) with q1 | q1
  · obtain rfl := Phr.yes q1; exact phr_area_1 h q0 q1
  rcases Bool.eq_false_or_eq_true ((bs x).toList == [99]) with q2 | q2
  · obtain rfl := Phr.yes q2; exact phr_area_2 h q0 q1 q2
  rcases Bool.eq_false_or_eq_true ((bs x).toList == [115]) with q3 | q3
  · obtain rfl := Phr.yes q3; exact phr_area_3 h q0 q1 q2 q3
  rcases Bool.eq_false_or_eq_true ((bs x).toList == [126]) with q4 | q4
  · obtain rfl := Phr.yes q4; exact phr_area_4 h q0 q1 q2 q3 q4
  rcases Bool.eq_false_or_eq_true ((bs x).toList == [117]) with q5 | q5
  · obtain rfl := Phr.yes q5; exact phr_area_5 h q0 q1 q2 q3 q4 q5
  rcases Bool.eq_false_or_eq_true ((bs x).toList == [85]) with q6 | q6
  · obtain rfl := Phr.yes q6; exact phr_area_6 h q0 q1 q2 q3 q4 q5 q6
  rcases Bool.eq_false_or_eq_true ((bs x).toList == [74]) with q7 | q7
  · obtain rfl := Phr.yes q7; exact phr_area_7 h q0 q1 q2 q3 q4 q5 q6 q7
  rcases Bool.eq_false_or_eq_true ((bs x).toList == [111]) with q8 | q8
  · obtain rfl := Phr.yes q8; exact phr_area_8 h q0 q1 q2 q3 q4 q5 q6 q7 q8
  rcases Bool.eq_false_or_eq_true ((bs x).toList == [118]) with q9 | q9
  · obtain rfl := Phr.yes q9; exact phr_area_9 h q0 q1 q2 q3 q4 q5 q6 q7 q8 q9
  rcases Bool.eq_false_or_eq_true ((bs x).toList == [86]) with q10 | q10
  · obtain rfl := Phr.yes q10; exact phr_area_10 h q0 q1 q2 q3 q4 q5 q6 q7 q8 q9 q10
  rcases Bool.eq_false_or_eq_true ((bs x).toList == [105]) with q11 | q11
  · obtain rfl := Phr.yes q11; exact phr_area_11 h q0 q1 q2 q3 q4 q5 q6 q7 q8 q9 q10 q11
  rcases Bool.eq_false_or_eq_true ((bs x).toList == [97]) with q12 | q12
  · obtain rfl := Phr.yes q12; exact phr_area_12 h q0 q1 q2 q3 q4 q5 q6 q7 q8 q9 q10 q11 q12
  by_cases hx : x ∈ Phr.opers
  · rw [show Phr.area x = .does x [] 0 by simp [Phr.area, hx, Phr.no q0, Phr.no q1, Phr.no q2, Phr.no q3, Phr.no q4, Phr.no q5, Phr.no q6, Phr.no q7, Phr.no q8, Phr.no q9, Phr.no q10, Phr.no q11, Phr.no q12]]
    exact phr_area_op h hx q0 q1 q2 q3 q4 q5 q6 q7 q8 q9 q10 q11 q12
  · rw [show Phr.area x = .not by simp [Phr.area, hx, Phr.no q0, Phr.no q1, Phr.no q2, Phr.no q3, Phr.no q4, Phr.no q5, Phr.no q6, Phr.no q7, Phr.no q8, Phr.no q9, Phr.no q10, Phr.no q11, Phr.no q12]]
    exact phr_area_not h hx q0 q1 q2 q3 q4 q5 q6 q7 q8 q9 q10 q11 q12
end Go.Proofs.YtchpkeelnfmlbaaGreat
/-
  The reader of keys: a register, what an operator works on, a command; package phrase's Parse.
-/
namespace Go.Proofs.YtchpkeelnfmlbaaGreat
open Go.RowKit
open Phr (Cmd Ans Rdr EndsAs wet)
namespace Phr
/-- What follows a count. -/
def after (visual : Bool) (n : Int) (l : List (List UInt8)) : Ans := if l.head? = some [34] then reg visual n l.tail else run visual ⟨0, n, [], [], []⟩ l
theorem after_quote (visual : Bool) (n : Int) (l : List (List UInt8)) : after visual n ([34] :: l) = reg visual n l := by simp [after]
/-- What a register's end is: none, and that is the end; or one, or nothing, and all goes on. -/
def RegAs (g : Nat) (w : World) (visual : Bool) (F : Ans) (e : Ending) (w' : World) : Prop :=
  w.grownBy w' (some g) ∧ ((e = .returned (.bool false) ∧ ∃ (dry : Bool) (c : Cmd) (ks : List (List UInt8)), Rdr g w' c ks dry ∧ out false c ks dry = F) ∨ (e = .returned (.bool true) ∧ ∃ (r n : Int) (l : List (List UInt8)), Rdr g w' ⟨r, n, [], [], []⟩ l false ∧ 0 ≤ n ∧ n ≤ 99 ∧ run visual ⟨r, n, [], [], []⟩ l = F))
end Phr
open Phr (RegAs)
set_option maxHeartbeats 1000000 in
set_option maxRecDepth 100000 in
theorem phr_register_none {g : Nat} {w : World} {n : Int} {l : List (List UInt8)} (visual : Bool) (h : Rdr g w ⟨0, n, [], [], []⟩ l false) (h0 : 0 ≤ n) (h1 : n ≤ 99) (hq : l.headD [] ≠ [34]) :
    Calls Tryz.prog 19 #[.pointer (some ⟨g, 0, none⟩)] w (RegAs g w visual (Phr.after visual n l)) := by
  have C := Lib.hid (phr_front h)
  have q : ((bs (l.headD [])).toList == [34]) = false := by rw [bs_tl, beq_eq_false_iff_ne]; exact hq
  have HF : Hid (Phr.run visual ⟨0, n, [], [], []⟩ l = Phr.after visual n l) := Lib.hid (by
    rw [Phr.after, if_neg]
    intro e
    cases l with
    | nil => cases e
    | cons k t => injection e with e; exact hq e)
  have H := Lib.hid h
  clear h hq
  generalize l.headD [] = k0 at *
  go_enter Tryz.func19, Tryz.ntmps19
  go_wp2_with (go_at_call 40; refine C.out.mono ?_; rintro e w1 ⟨rfl, rfl⟩)
  go_ret
  exact ⟨gb_drewN w 0 _, .inr ⟨rfl, _, _, _, H.out, h0, h1, HF.out⟩⟩
set_option maxHeartbeats 1000000 in
set_option maxRecDepth 100000 in
theorem phr_register_end {g : Nat} {w : World} {n : Int} (visual : Bool) (h : Rdr g w ⟨0, n, [], [], []⟩ [[34]] false) :
    Calls Tryz.prog 19 #[.pointer (some ⟨g, 0, none⟩)] w (RegAs g w visual (Phr.after visual n [[34]])) := by
  have C := Lib.hid (phr_ahead h)
  have q : ((bs [34]).toList == [34]) = true := by rw [bs_tl]; rfl
  have N := Lib.hid (phr_next h)
  have HF : Hid (Phr.more = Phr.after visual n [[34]]) := Lib.hid rfl
  have s0 : (bs []).size = 0 := rfl
  clear h
  go_enter Tryz.func19, Tryz.ntmps19
  go_wp2_with (first
    | (go_at_call 40; refine C.out.mono ?_; rintro e w1 ⟨rfl, rfl⟩)
    | (go_at_call 42; refine N.out.mono ?_; rintro e w1 ⟨rfl, h1, g1⟩; clear N; have N2 := Lib.hid (phr_next_none h1); clear h1)
    | (go_at_call 42; refine N2.out.mono ?_; rintro e w2 ⟨rfl, h2, g2⟩))
  go_ret
  exact ⟨gb_trans g1 g2, .inl ⟨rfl, _, _, _, h2, HF.out⟩⟩
set_option maxHeartbeats 1000000 in
set_option maxRecDepth 100000 in
theorem phr_register_long {g : Nat} {w : World} {n : Int} {k : List UInt8} {t : List (List UInt8)} (visual : Bool) (h : Rdr g w ⟨0, n, [], [], []⟩ ([34] :: k :: t) false) (hk : k.length ≠ 1) :
    Calls Tryz.prog 19 #[.pointer (some ⟨g, 0, none⟩)] w (RegAs g w visual (Phr.after visual n ([34] :: k :: t))) := by
  have C := Lib.hid (phr_ahead h)
  have q : ((bs [34]).toList == [34]) = true := by rw [bs_tl]; rfl
  have N := Lib.hid (phr_next h)
  have HF : Hid (∀ (c : Cmd) (ks : List (List UInt8)), Phr.out false c ks false = Phr.after visual n ([34] :: k :: t)) := Lib.hid (fun c ks => by
    have e : Phr.name k = false := by
      unfold Phr.name
      split
      · exact absurd rfl hk
      · rfl
    rw [Phr.out_bad, Phr.after_quote]
    simp [Phr.reg, e, Phr.wet])
  have s0 : ((bs k).size : Int) ≠ 1 := by rw [bs_size]; omega
  clear h hk
  go_enter Tryz.func19, Tryz.ntmps19
  go_wp2_with (first
    | (go_at_call 40; refine C.out.mono ?_; rintro e w1 ⟨rfl, rfl⟩)
    | (go_at_call 42; refine N.out.mono ?_; rintro e w1 ⟨rfl, h1, g1⟩; clear N; have N2 := Lib.hid (phr_next h1); clear h1)
    | (go_at_call 42; refine N2.out.mono ?_; rintro e w2 ⟨rfl, h2, g2⟩))
  go_ret
  exact ⟨gb_trans g1 g2, .inl ⟨rfl, _, _, _, h2, HF.out _ _⟩⟩
set_option maxHeartbeats 1000000 in
set_option maxRecDepth 100000 in
theorem phr_register_not {g : Nat} {w : World} {n : Int} {b : UInt8} {t : List (List UInt8)} (visual : Bool) (h : Rdr g w ⟨0, n, [], [], []⟩ ([34] :: [b] :: t) false) (hk : Reg.nameN (b.toNat : Int) = 0) :
    Calls Tryz.prog 19 #[.pointer (some ⟨g, 0, none⟩)] w (RegAs g w visual (Phr.after visual n ([34] :: [b] :: t))) := by
  have C := Lib.hid (phr_ahead h)
  have q : ((bs [34]).toList == [34]) = true := by rw [bs_tl]; rfl
  have N := Lib.hid (phr_next h)
  have N2' : Hid (∀ (u : World) , Rdr g u ⟨0, n, [], [], []⟩ ([b] :: t) false → Calls Tryz.prog 42 #[.pointer (some ⟨g, 0, none⟩)] u fun e w' => e = .returned (.string (bs [b])) ∧ Rdr g w' ⟨0, n, [], [], []⟩ t false ∧ u.grownBy w' (some g)) := Lib.hid (fun u hu => phr_next hu)
  have HF : Hid (∀ (c : Cmd) (ks : List (List UInt8)), Phr.out false c ks false = Phr.after visual n ([34] :: [b] :: t)) := Lib.hid (fun c ks => by
    have e : Phr.name [b] = false := by simp [Phr.name, hk]
    rw [Phr.out_bad, Phr.after_quote]
    simp [Phr.reg, e, Phr.wet])
  have M := Lib.hid (fun w => reg_Name (b.toNat : Int) w)
  rw [hk] at M
  obtain ⟨s, hS⟩ : ∃ s, bs [b] = s := ⟨_, rfl⟩
  have Q0 : 0 < s.size := by rw [← hS]; exact Nat.one_pos
  have s0 : (s.size : Int) = 1 := by rw [← hS]; rfl
  have Q1 : (s[0].toNat : Int) = (b.toNat : Int) := by subst hS; rfl
  rw [hS] at N2'
  have z : wrap64 (b.toNat : Int) = (b.toNat : Int) := by have := b.toNat_lt; unfold wrap64; omega
  clear h hk hS
  go_enter Tryz.func19, Tryz.ntmps19
  go_wp2_with (first
    | (go_at_call 40; refine C.out.mono ?_; rintro e w1 ⟨rfl, rfl⟩)
    | (go_at_call 42; refine N.out.mono ?_; rintro e w1 ⟨rfl, h1, g1⟩; clear N; have N2 := Lib.hid (N2'.out _ h1); clear h1)
    | (go_at_call 42; refine N2.out.mono ?_; rintro e w2 ⟨rfl, h2, g2⟩)
    | (go_at_call 44; with_reducible refine (M.out _).mono ?_; rintro e w3 ⟨rfl, rfl⟩))
  go_ret
  exact ⟨gb_trans g1 g2, .inl ⟨rfl, _, _, _, h2, HF.out _ _⟩⟩
set_option maxHeartbeats 1000000 in
set_option maxRecDepth 100000 in
theorem phr_register_yes {g : Nat} {w : World} {n : Int} {b : UInt8} {t : List (List UInt8)} (visual : Bool) (h : Rdr g w ⟨0, n, [], [], []⟩ ([34] :: [b] :: t) false) (h0 : 0 ≤ n) (h1 : n ≤ 99) (hk : Reg.nameN (b.toNat : Int) ≠ 0) :
    Calls Tryz.prog 19 #[.pointer (some ⟨g, 0, none⟩)] w (RegAs g w visual (Phr.after visual n ([34] :: [b] :: t))) := by
  have C := Lib.hid (phr_ahead h)
  have q : ((bs [34]).toList == [34]) = true := by rw [bs_tl]; rfl
  have N := Lib.hid (phr_next h)
  have N2' : Hid (∀ (u : World) , Rdr g u ⟨0, n, [], [], []⟩ ([b] :: t) false → Calls Tryz.prog 42 #[.pointer (some ⟨g, 0, none⟩)] u fun e w' => e = .returned (.string (bs [b])) ∧ Rdr g w' ⟨0, n, [], [], []⟩ t false ∧ u.grownBy w' (some g)) := Lib.hid (fun u hu => phr_next hu)
  have HF : Hid (Phr.run visual ⟨(b.toNat : Nat), Phr.count n (Phr.number t).1, [], [], []⟩ (Phr.number t).2 = Phr.after visual n ([34] :: [b] :: t)) := Lib.hid (by
    rw [Phr.after_quote, Phr.reg, if_pos (by simp [Phr.name, hk])]
    rfl)
  have CI := Phr.count_in n (Phr.number t).1
  have M := Lib.hid (fun w => reg_Name (b.toNat : Int) w)
  have hnz : (Reg.nameN (b.toNat : Int) == 0) = false := by rw [beq_eq_false_iff_ne]; exact hk
  have G : Hid (∀ u, Rdr g u ⟨0, n, [], [], []⟩ t false → Calls Tryz.prog 18 #[.pointer (some ⟨g, 0, none⟩)] (u.setCell ⟨g, 0, none⟩ (.int .i64 (b.toNat : Int))) fun e w' => e = .returned (.tuple #[]) ∧ Rdr g w' ⟨(b.toNat : Nat), Phr.count n (Phr.number t).1, [], [], []⟩ (Phr.number t).2 false ∧ (u.setCell ⟨g, 0, none⟩ (.int .i64 (b.toNat : Int))).grownBy w' (some g)) := Lib.hid (fun u hu => phr_count (c := ⟨(b.toNat : Nat), n, [], [], []⟩) (hu.set_ (fun v => rfl)) h0 h1)
  generalize Reg.nameN (b.toNat : Int) = nn at *
  obtain ⟨s, hS⟩ : ∃ s, bs [b] = s := ⟨_, rfl⟩
  have Q0 : 0 < s.size := by rw [← hS]; exact Nat.one_pos
  have s0 : (s.size : Int) = 1 := by rw [← hS]; rfl
  have Q1 : (s[0].toNat : Int) = (b.toNat : Int) := by subst hS; rfl
  rw [hS] at N2'
  have z : wrap64 (b.toNat : Int) = (b.toNat : Int) := by have := b.toNat_lt; unfold wrap64; omega
  clear h hk hS
  go_enter Tryz.func19, Tryz.ntmps19
  go_wp2_with (first
    | (go_at_call 40; refine C.out.mono ?_; rintro e w1 ⟨rfl, rfl⟩)
    | (go_at_call 42; refine N.out.mono ?_; rintro e w1 ⟨rfl, h1, g1⟩; clear N; have N2 := Lib.hid (N2'.out _ h1); clear h1)
    | (go_at_call 42; refine N2.out.mono ?_; rintro e w2 ⟨rfl, h2, g2⟩; have c0 := h2.cell0; have f0 := h2.frozen 0; have G2 := Lib.hid (G.out _ h2); clear h2)
    | (go_at_call 44; with_reducible refine (M.out _).mono ?_; rintro e w3 ⟨rfl, rfl⟩)
    | (go_at_call 18; refine G2.out.mono ?_; rintro e w4 ⟨rfl, h4, g4⟩))
  go_ret
  exact ⟨gb_trans (gb_trans (gb_trans g1 g2) (gb_set _ g 0 _)) g4, .inr ⟨rfl, _, _, _, h4, CI.1, CI.2, HF.out⟩⟩
theorem phr_register {g : Nat} {w : World} {n : Int} {l : List (List UInt8)} (visual : Bool) (h : Rdr g w ⟨0, n, [], [], []⟩ l false) (h0 : 0 ≤ n) (h1 : n ≤ 99) :
    Calls Tryz.prog 19 #[.pointer (some ⟨g, 0, none⟩)] w (RegAs g w visual (Phr.after visual n l)) := by
  by_cases hq : l.headD [] = [34]
  · match l, h, hq with
    | [k0], h, hq => obtain rfl : k0 = [34] := hq; exact phr_register_end visual h
    | k0 :: k :: t, h, hq =>
      obtain rfl : k0 = [34] := hq
      by_cases hk : k.length = 1
      · obtain ⟨b, rfl⟩ := List.length_eq_one_iff.1 hk
        by_cases hn : Reg.nameN (b.toNat : Int) = 0
        · exact phr_register_not visual h hn
        · exact phr_register_yes visual h h0 h1 hn
      · exact phr_register_long visual h hk
  · exact phr_register_none visual h h0 h1 hq
end Go.Proofs.YtchpkeelnfmlbaaGreat
/-
  The reader of keys: what an operator works on, a command; package phrase's Parse.
-/
namespace Go.Proofs.YtchpkeelnfmlbaaGreat
open Go.RowKit
open Phr (Cmd Ans Rdr EndsAs wet RegAs)
theorem phr_word_some {g : Nat} {c : Cmd} {dry : Bool} {ks t : List (List UInt8)} {x : List UInt8} (hx : Phr.word ks = some (x, t)) {w : World} (h : Rdr g w c ks dry) :
    Calls Tryz.prog 20 #[.pointer (some ⟨g, 0, none⟩)] w fun e w' => e = .returned (.string (bs x)) ∧ Rdr g w' c t dry ∧ w.grownBy w' (some g) := by
  refine (phr_word h).mono ?_
  rintro e w' ⟨g1, ⟨x', t', h1, rfl, h2⟩ | ⟨h1, _⟩⟩
  · rw [hx] at h1; injection h1 with h1; injection h1 with e1 e2; subst e1 e2; exact ⟨rfl, h2, g1⟩
  · rw [hx] at h1; cases h1
theorem phr_word_dry {ks : List (List UInt8)} (hx : Phr.word ks = none) : ∃ x : List UInt8, (x = [] ∨ x = [103]) ∧ ∀ (g : Nat) (c : Cmd) (dry : Bool) (w : World), Rdr g w c ks dry →
    Calls Tryz.prog 20 #[.pointer (some ⟨g, 0, none⟩)] w fun e w' => e = .returned (.string (bs x)) ∧ Rdr g w' c [] true ∧ w.grownBy w' (some g) := by
  match ks, hx with
  | [], _ => exact ⟨[], .inl rfl, fun g c dry w h => phr_word_nil h⟩
  | k :: t, hx =>
    simp only [Phr.word] at hx
    by_cases hk : k = [103]
    · subst hk
      rw [if_pos rfl] at hx
      cases t with
      | nil => exact ⟨[103], .inr rfl, fun g c dry w h => phr_word_g h⟩
      | cons a u => cases hx
    · rw [if_neg hk] at hx; cases hx
namespace Phr
theorem EndsAs.after {g : Nat} {w u w' : World} {F : Ans} {e : Ending} (g0 : w.grownBy u (some g)) (h : EndsAs g u F e w') : EndsAs g w F e w' := by
  obtain ⟨g1, rest⟩ := h
  exact ⟨gb_trans g0 g1, rest⟩
theorem tail_bs (op : List UInt8) : (bs op).extract (op.length - 1) op.length = bs (tail op) := by
  rw [Lib.extract_eq]
  show bs _ = _
  rw [bs_toList, tail, List.take_of_length_le]
  rw [List.length_drop]; omega
end Phr
set_option maxHeartbeats 1000000 in
set_option maxRecDepth 100000 in
theorem phr_operated_not {g : Nat} {w : World} {r n : Int} {ks : List (List UInt8)} {dry : Bool} {op : List UInt8} (h : Rdr g w ⟨r, n, [], [], []⟩ ks dry) (hop : op ∈ Phr.opers) (h0 : 0 ≤ n) (h1 : n ≤ 99) {x : List UInt8} {t : List (List UInt8)} (hw : Phr.word (Phr.number ks).2 = some (x, t)) (hm : Phr.mot x = none) (q0 : ((bs x).toList == [105]) = false) (q1 : ((bs x).toList == [97]) = false) (q2 : ((bs x).toList == (bs (Phr.tail op)).toList) = false) :
    Calls Tryz.prog 25 #[.pointer (some ⟨g, 0, none⟩), .string (bs op)] w (EndsAs g w (wet dry (Phr.work ⟨r, n, [], [], []⟩ op ks))) := by
  have tn : (x = Phr.tail op) = False := by rw [bs_tl, bs_tl] at q2; simpa using q2
  have c2 := h.cell2
  have f2 := h.frozen 2
  have S1 : Hid (Rdr g (w.setCell ⟨g, 2, none⟩ (.string (bs op))) ⟨r, n, op, [], []⟩ ks dry) := Lib.hid (h.set_ (fun v => rfl))
  have C := Lib.hid (phr_count S1.out h0 h1)
  have M := Lib.hid (fun u => phr_Motion x u)
  rw [show (Phr.mot x).isSome = false by rw [hm]; rfl] at M
  have WD := Lib.hid (fun u (hu : Rdr g u ⟨r, Phr.count n (Phr.number ks).1, op, [], []⟩ (Phr.number ks).2 dry) => phr_word_some hw hu)
  have HF : Hid (wet dry Phr.bad = wet dry (Phr.work ⟨r, n, [], [], []⟩ op ks)) := Lib.hid (by rw [Phr.work, hw]; simp only [Phr.on, hm, Phr.no q0, Phr.no q1, tn, or_self, if_false, Phr.does]; try rfl)
  have hsz : (bs op).size = op.length := bs_size op
  have hT := Phr.tail_bs op
  have hlen : 1 ≤ op.length := List.length_pos_iff.2 (Phr.opers_ne hop)
  have z : wrap64 ((op.length : Int) - 1) = (op.length : Int) - 1 := by
    have : op.length ≤ 2 := by
      simp only [Phr.opers, List.mem_cons, List.not_mem_nil, or_false] at hop
      rcases hop with rfl | rfl | rfl | rfl | rfl | rfl | rfl | rfl <;> decide
    unfold wrap64; omega
  have G1 := gb_set w g 2 (.string (bs op))
  clear h
  go_enter Tryz.func25, Tryz.ntmps25
  go_wp2_with (first
    | (go_at_call 18; refine C.out.mono ?_; rintro e w1 ⟨rfl, k1, g1⟩; have WD2 := Lib.hid (WD.out _ k1); clear k1)
    | (go_at_call 20; refine WD2.out.mono ?_; rintro e w2 ⟨rfl, k2, g2⟩)
    | (go_at_call 21; refine (M.out _).mono ?_; rintro e w3 ⟨rfl, rfl⟩))
  go_ret
  exact ⟨gb_trans (gb_trans G1 g1) g2, _, _, _, _, rfl, k2, (Phr.out_bad _ _ _).trans HF.out⟩
set_option maxHeartbeats 1000000 in
set_option maxRecDepth 100000 in
theorem phr_operated_line {g : Nat} {w : World} {r n : Int} {ks : List (List UInt8)} {dry : Bool} {op : List UInt8} (h : Rdr g w ⟨r, n, [], [], []⟩ ks dry) (hop : op ∈ Phr.opers) (h0 : 0 ≤ n) (h1 : n ≤ 99) {x : List UInt8} {t : List (List UInt8)} (hw : Phr.word (Phr.number ks).2 = some (x, t)) (hm : Phr.mot x = none) (q0 : ((bs x).toList == [105]) = false) (q1 : ((bs x).toList == [97]) = false) (q2 : ((bs x).toList == (bs (Phr.tail op)).toList) = true) :
    Calls Tryz.prog 25 #[.pointer (some ⟨g, 0, none⟩), .string (bs op)] w (EndsAs g w (wet dry (Phr.work ⟨r, n, [], [], []⟩ op ks))) := by
  have tn : (x = Phr.tail op) = True := by rw [bs_tl, bs_tl] at q2; simpa using q2
  have c2 := h.cell2
  have f2 := h.frozen 2
  have S1 : Hid (Rdr g (w.setCell ⟨g, 2, none⟩ (.string (bs op))) ⟨r, n, op, [], []⟩ ks dry) := Lib.hid (h.set_ (fun v => rfl))
  have C := Lib.hid (phr_count S1.out h0 h1)
  have M := Lib.hid (fun u => phr_Motion x u)
  rw [show (Phr.mot x).isSome = false by rw [hm]; rfl] at M
  have WD := Lib.hid (fun u (hu : Rdr g u ⟨r, Phr.count n (Phr.number ks).1, op, [], []⟩ (Phr.number ks).2 dry) => phr_word_some hw hu)
  have HF : Hid (wet dry (Phr.last ⟨r, Phr.count n (Phr.number ks).1, op, Phr.line, []⟩ t) = wet dry (Phr.work ⟨r, n, [], [], []⟩ op ks)) := Lib.hid (by rw [Phr.work, hw]; simp only [Phr.on, hm, Phr.no q0, Phr.no q1, tn, or_self, if_false, if_true, Phr.does]; try rfl)
  have hsz : (bs op).size = op.length := bs_size op
  have hT := Phr.tail_bs op
  have hlen : 1 ≤ op.length := List.length_pos_iff.2 (Phr.opers_ne hop)
  have z : wrap64 ((op.length : Int) - 1) = (op.length : Int) - 1 := by
    have : op.length ≤ 2 := by
      simp only [Phr.opers, List.mem_cons, List.not_mem_nil, or_false] at hop
      rcases hop with rfl | rfl | rfl | rfl | rfl | rfl | rfl | rfl <;> decide
    unfold wrap64; omega
  have G1 := gb_set w g 2 (.string (bs op))
  clear h
  go_enter Tryz.func25, Tryz.ntmps25
  go_wp2_with (first
    | (go_at_call 18; refine C.out.mono ?_; rintro e w1 ⟨rfl, k1, g1⟩; have WD2 := Lib.hid (WD.out _ k1); clear k1)
    | (go_at_call 20; refine WD2.out.mono ?_; rintro e w2 ⟨rfl, k2, g2⟩; have c3 := k2.cell3; have f3 := k2.frozen 3; have S3 : Hid (Rdr g (w2.setCell ⟨g, 3, none⟩ (.string ⟨#[108, 105, 110, 101]⟩)) ⟨r, Phr.count n (Phr.number ks).1, op, Phr.line, []⟩ t dry) := Lib.hid (k2.set_ (fun v => rfl)); clear k2)
    | (go_at_call 21; refine (M.out _).mono ?_; rintro e w3 ⟨rfl, rfl⟩))
  go_ret
  exact ⟨gb_trans (gb_trans (gb_trans G1 g1) g2) (gb_set w2 g 3 _), _, _, _, _, rfl, S3.out, (Phr.out_last _ _ _).trans HF.out⟩
set_option maxHeartbeats 1000000 in
set_option maxRecDepth 100000 in
theorem phr_operated_i {g : Nat} {w : World} {r n : Int} {ks : List (List UInt8)} {dry : Bool} {op : List UInt8} (h : Rdr g w ⟨r, n, [], [], []⟩ ks dry) (hop : op ∈ Phr.opers) (h0 : 0 ≤ n) (h1 : n ≤ 99) {x : List UInt8} {t : List (List UInt8)} (hw : Phr.word (Phr.number ks).2 = some (x, t)) (hm : Phr.mot x = none) (q0 : ((bs x).toList == [105]) = true) :
    Calls Tryz.prog 25 #[.pointer (some ⟨g, 0, none⟩), .string (bs op)] w (EndsAs g w (wet dry (Phr.work ⟨r, n, [], [], []⟩ op ks))) := by
  have tn : (x = [105]) = True := by simpa using Phr.yes q0
  have c2 := h.cell2
  have f2 := h.frozen 2
  have S1 : Hid (Rdr g (w.setCell ⟨g, 2, none⟩ (.string (bs op))) ⟨r, n, op, [], []⟩ ks dry) := Lib.hid (h.set_ (fun v => rfl))
  have C := Lib.hid (phr_count S1.out h0 h1)
  have M := Lib.hid (fun u => phr_Motion x u)
  rw [show (Phr.mot x).isSome = false by rw [hm]; rfl] at M
  have WD := Lib.hid (fun u (hu : Rdr g u ⟨r, Phr.count n (Phr.number ks).1, op, [], []⟩ (Phr.number ks).2 dry) => phr_word_some hw hu)
  have HF : Hid (wet dry (Phr.goes ⟨r, Phr.count n (Phr.number ks).1, op, x, []⟩ 1 t) = wet dry (Phr.work ⟨r, n, [], [], []⟩ op ks)) := Lib.hid (by rw [Phr.work, hw]; simp only [Phr.on, hm, tn, true_or, if_true, Phr.does]; try rfl)
  have hsz : (bs op).size = op.length := bs_size op
  have hT := Phr.tail_bs op
  have hlen : 1 ≤ op.length := List.length_pos_iff.2 (Phr.opers_ne hop)
  have z : wrap64 ((op.length : Int) - 1) = (op.length : Int) - 1 := by
    have : op.length ≤ 2 := by
      simp only [Phr.opers, List.mem_cons, List.not_mem_nil, or_false] at hop
      rcases hop with rfl | rfl | rfl | rfl | rfl | rfl | rfl | rfl <;> decide
    unfold wrap64; omega
  have G1 := gb_set w g 2 (.string (bs op))
  clear h
  go_enter Tryz.func25, Tryz.ntmps25
  go_wp2_with (first
    | (go_at_call 18; refine C.out.mono ?_; rintro e w1 ⟨rfl, k1, g1⟩; have WD2 := Lib.hid (WD.out _ k1); clear k1)
    | (go_at_call 20; refine WD2.out.mono ?_; rintro e w2 ⟨rfl, k2, g2⟩; have C2 := Lib.hid (phr_part x k2); clear k2)
    | (go_at_call 21; refine (M.out _).mono ?_; rintro e w3 ⟨rfl, rfl⟩)
    | (go_at_call 48; refine C2.out.mono ?_; rintro e w4 ⟨g4, read, d4, c4, l4, rfl, k4, o4⟩))
  go_ret
  exact ⟨gb_trans (gb_trans (gb_trans G1 g1) g2) g4, _, _, _, _, rfl, k4, o4.trans HF.out⟩
set_option maxHeartbeats 1000000 in
set_option maxRecDepth 100000 in
theorem phr_operated_a {g : Nat} {w : World} {r n : Int} {ks : List (List UInt8)} {dry : Bool} {op : List UInt8} (h : Rdr g w ⟨r, n, [], [], []⟩ ks dry) (hop : op ∈ Phr.opers) (h0 : 0 ≤ n) (h1 : n ≤ 99) {x : List UInt8} {t : List (List UInt8)} (hw : Phr.word (Phr.number ks).2 = some (x, t)) (hm : Phr.mot x = none) (q0 : ((bs x).toList == [105]) = false) (q1 : ((bs x).toList == [97]) = true) :
    Calls Tryz.prog 25 #[.pointer (some ⟨g, 0, none⟩), .string (bs op)] w (EndsAs g w (wet dry (Phr.work ⟨r, n, [], [], []⟩ op ks))) := by
  have tn : (x = [97]) = True := by simpa using Phr.yes q1
  have c2 := h.cell2
  have f2 := h.frozen 2
  have S1 : Hid (Rdr g (w.setCell ⟨g, 2, none⟩ (.string (bs op))) ⟨r, n, op, [], []⟩ ks dry) := Lib.hid (h.set_ (fun v => rfl))
  have C := Lib.hid (phr_count S1.out h0 h1)
  have M := Lib.hid (fun u => phr_Motion x u)
  rw [show (Phr.mot x).isSome = false by rw [hm]; rfl] at M
  have WD := Lib.hid (fun u (hu : Rdr g u ⟨r, Phr.count n (Phr.number ks).1, op, [], []⟩ (Phr.number ks).2 dry) => phr_word_some hw hu)
  have HF : Hid (wet dry (Phr.goes ⟨r, Phr.count n (Phr.number ks).1, op, x, []⟩ 1 t) = wet dry (Phr.work ⟨r, n, [], [], []⟩ op ks)) := Lib.hid (by rw [Phr.work, hw]; simp only [Phr.on, hm, tn, or_true, if_true, Phr.does]; try rfl)
  have hsz : (bs op).size = op.length := bs_size op
  have hT := Phr.tail_bs op
  have hlen : 1 ≤ op.length := List.length_pos_iff.2 (Phr.opers_ne hop)
  have z : wrap64 ((op.length : Int) - 1) = (op.length : Int) - 1 := by
    have : op.length ≤ 2 := by
      simp only [Phr.opers, List.mem_cons, List.not_mem_nil, or_false] at hop
      rcases hop with rfl | rfl | rfl | rfl | rfl | rfl | rfl | rfl <;> decide
    unfold wrap64; omega
  have G1 := gb_set w g 2 (.string (bs op))
  clear h
  go_enter Tryz.func25, Tryz.ntmps25
  go_wp2_with (first
    | (go_at_call 18; refine C.out.mono ?_; rintro e w1 ⟨rfl, k1, g1⟩; have WD2 := Lib.hid (WD.out _ k1); clear k1)
    | (go_at_call 20; refine WD2.out.mono ?_; rintro e w2 ⟨rfl, k2, g2⟩; have C2 := Lib.hid (phr_part x k2); clear k2)
    | (go_at_call 21; refine (M.out _).mono ?_; rintro e w3 ⟨rfl, rfl⟩)
    | (go_at_call 48; refine C2.out.mono ?_; rintro e w4 ⟨g4, read, d4, c4, l4, rfl, k4, o4⟩))
  go_ret
  exact ⟨gb_trans (gb_trans (gb_trans G1 g1) g2) g4, _, _, _, _, rfl, k4, o4.trans HF.out⟩
set_option maxHeartbeats 1000000 in
set_option maxRecDepth 100000 in
theorem phr_operated_mot {g : Nat} {w : World} {r n : Int} {ks : List (List UInt8)} {dry : Bool} {op : List UInt8} (h : Rdr g w ⟨r, n, [], [], []⟩ ks dry) (hop : op ∈ Phr.opers) (h0 : 0 ≤ n) (h1 : n ≤ 99) {x : List UInt8} {t : List (List UInt8)} {m : Nat} (hw : Phr.word (Phr.number ks).2 = some (x, t)) (hm : Phr.mot x = some m) :
    Calls Tryz.prog 25 #[.pointer (some ⟨g, 0, none⟩), .string (bs op)] w (EndsAs g w (wet dry (Phr.work ⟨r, n, [], [], []⟩ op ks))) := by
  have c2 := h.cell2
  have f2 := h.frozen 2
  have S1 : Hid (Rdr g (w.setCell ⟨g, 2, none⟩ (.string (bs op))) ⟨r, n, op, [], []⟩ ks dry) := Lib.hid (h.set_ (fun v => rfl))
  have C := Lib.hid (phr_count S1.out h0 h1)
  have M := Lib.hid (fun u => phr_Motion x u)
  rw [show (Phr.mot x).isSome = true by rw [hm]; rfl] at M
  have WD := Lib.hid (fun u (hu : Rdr g u ⟨r, Phr.count n (Phr.number ks).1, op, [], []⟩ (Phr.number ks).2 dry) => phr_word_some hw hu)
  have HF : Hid (wet dry (Phr.goes ⟨r, Phr.count n (Phr.number ks).1, op, x, []⟩ m t) = wet dry (Phr.work ⟨r, n, [], [], []⟩ op ks)) := Lib.hid (by rw [Phr.work, hw]; simp only [Phr.on, hm, Phr.does]; try rfl)
  have hsz : (bs op).size = op.length := bs_size op
  have hT := Phr.tail_bs op
  have hlen : 1 ≤ op.length := List.length_pos_iff.2 (Phr.opers_ne hop)
  have z : wrap64 ((op.length : Int) - 1) = (op.length : Int) - 1 := by
    have : op.length ≤ 2 := by
      simp only [Phr.opers, List.mem_cons, List.not_mem_nil, or_false] at hop
      rcases hop with rfl | rfl | rfl | rfl | rfl | rfl | rfl | rfl <;> decide
    unfold wrap64; omega
  have G1 := gb_set w g 2 (.string (bs op))
  clear h
  go_enter Tryz.func25, Tryz.ntmps25
  go_wp2_with (first
    | (go_at_call 18; refine C.out.mono ?_; rintro e w1 ⟨rfl, k1, g1⟩; have WD2 := Lib.hid (WD.out _ k1); clear k1)
    | (go_at_call 20; refine WD2.out.mono ?_; rintro e w2 ⟨rfl, k2, g2⟩; have C2 := Lib.hid (phr_motion k2 hm); clear k2)
    | (go_at_call 21; refine (M.out _).mono ?_; rintro e w3 ⟨rfl, rfl⟩)
    | (go_at_call 22; refine C2.out.mono ?_; rintro e w4 ⟨g4, read, d4, c4, l4, rfl, k4, o4⟩))
  go_ret
  exact ⟨gb_trans (gb_trans (gb_trans G1 g1) g2) g4, _, _, _, _, rfl, k4, o4.trans HF.out⟩
set_option maxHeartbeats 1000000 in
set_option maxRecDepth 100000 in
theorem phr_operated_dry {g : Nat} {w : World} {r n : Int} {ks : List (List UInt8)} {dry : Bool} {op : List UInt8} (h : Rdr g w ⟨r, n, [], [], []⟩ ks dry) (hop : op ∈ Phr.opers) (h0 : 0 ≤ n) (h1 : n ≤ 99) (hw : Phr.word (Phr.number ks).2 = none) :
    Calls Tryz.prog 25 #[.pointer (some ⟨g, 0, none⟩), .string (bs op)] w (EndsAs g w (wet dry (Phr.work ⟨r, n, [], [], []⟩ op ks))) := by
  obtain ⟨x, hx, WD0⟩ := phr_word_dry hw
  have hm : Phr.mot x = none := by rcases hx with rfl | rfl <;> rfl
  have q0 : ((bs x).toList == [105]) = false := by rw [Phr.bs_test]; rcases hx with rfl | rfl <;> rfl
  have q1 : ((bs x).toList == [97]) = false := by rw [Phr.bs_test]; rcases hx with rfl | rfl <;> rfl
  have q2 : ((bs x).toList == (bs (Phr.tail op)).toList) = false := by
    rw [Phr.bs_test, bs_tl]
    simp only [Phr.opers, List.mem_cons, List.not_mem_nil, or_false] at hop
    rcases hx with rfl | rfl <;> rcases hop with rfl | rfl | rfl | rfl | rfl | rfl | rfl | rfl <;> rfl
  have c2 := h.cell2
  have f2 := h.frozen 2
  have S1 : Hid (Rdr g (w.setCell ⟨g, 2, none⟩ (.string (bs op))) ⟨r, n, op, [], []⟩ ks dry) := Lib.hid (h.set_ (fun v => rfl))
  have C := Lib.hid (phr_count S1.out h0 h1)
  have M := Lib.hid (fun u => phr_Motion x u)
  rw [show (Phr.mot x).isSome = false by rw [hm]; rfl] at M
  have HF : Hid (Phr.more = wet dry (Phr.work ⟨r, n, [], [], []⟩ op ks)) := Lib.hid (by rw [Phr.work, hw]; exact (Phr.wet_more dry).symm)
  have WD := Lib.hid (fun u (hu : Rdr g u ⟨r, Phr.count n (Phr.number ks).1, op, [], []⟩ (Phr.number ks).2 dry) => WD0 g _ _ u hu)
  clear WD0
  have hsz : (bs op).size = op.length := bs_size op
  have hT := Phr.tail_bs op
  have hlen : 1 ≤ op.length := List.length_pos_iff.2 (Phr.opers_ne hop)
  have z : wrap64 ((op.length : Int) - 1) = (op.length : Int) - 1 := by
    have : op.length ≤ 2 := by
      simp only [Phr.opers, List.mem_cons, List.not_mem_nil, or_false] at hop
      rcases hop with rfl | rfl | rfl | rfl | rfl | rfl | rfl | rfl <;> decide
    unfold wrap64; omega
  have G1 := gb_set w g 2 (.string (bs op))
  clear h
  go_enter Tryz.func25, Tryz.ntmps25
  go_wp2_with (first
    | (go_at_call 18; refine C.out.mono ?_; rintro e w1 ⟨rfl, k1, g1⟩; have WD2 := Lib.hid (WD.out _ k1); clear k1)
    | (go_at_call 20; refine WD2.out.mono ?_; rintro e w2 ⟨rfl, k2, g2⟩)
    | (go_at_call 21; refine (M.out _).mono ?_; rintro e w3 ⟨rfl, rfl⟩))
  go_ret
  exact ⟨gb_trans (gb_trans G1 g1) g2, _, _, _, _, rfl, k2, HF.out⟩
theorem phr_operated {g : Nat} {w : World} {r n : Int} {ks : List (List UInt8)} {dry : Bool} {op : List UInt8} (h : Rdr g w ⟨r, n, [], [], []⟩ ks dry) (hop : op ∈ Phr.opers) (h0 : 0 ≤ n) (h1 : n ≤ 99) :
    Calls Tryz.prog 25 #[.pointer (some ⟨g, 0, none⟩), .string (bs op)] w (EndsAs g w (wet dry (Phr.work ⟨r, n, [], [], []⟩ op ks))) := by
  cases hw : Phr.word (Phr.number ks).2 with
  | none => exact phr_operated_dry h hop h0 h1 hw
  | some y =>
    obtain ⟨x, t⟩ := y
    cases hm : Phr.mot x with
    | some m => exact phr_operated_mot h hop h0 h1 hw hm
    | none =>
      rcases Bool.eq_false_or_eq_true ((bs x).toList == [105]) with q0 | q0
      · exact phr_operated_i h hop h0 h1 hw hm q0
      rcases Bool.eq_false_or_eq_true ((bs x).toList == [97]) with q1 | q1
      · exact phr_operated_a h hop h0 h1 hw hm q0 q1
      rcases Bool.eq_false_or_eq_true ((bs x).toList == (bs (Phr.tail op)).toList) with q2 | q2
      · exact phr_operated_line h hop h0 h1 hw hm q0 q1 q2
      · exact phr_operated_not h hop h0 h1 hw hm q0 q1 q2
theorem phr_Motion_yes {x : List UInt8} {m : Nat} (hm : Phr.mot x = some m) (w : World) :
    Calls Tryz.prog 21 #[.string (bs x)] w fun e w' => e = .returned (.bool true) ∧ w = w' := by
  have := phr_Motion x w
  rw [hm] at this
  exact this
theorem phr_Motion_no {x : List UInt8} (hm : Phr.mot x = none) (w : World) :
    Calls Tryz.prog 21 #[.string (bs x)] w fun e w' => e = .returned (.bool false) ∧ w = w' := by
  have := phr_Motion x w
  rw [hm] at this
  exact this
theorem phr_operator_yes {x : List UInt8} (hm : x ∈ Phr.opers) (w : World) :
    Calls Tryz.prog 24 #[.string (bs x)] w fun e w' => e = .returned (.bool true) ∧ w = w' := by
  have := phr_operator x w
  rw [decide_eq_true hm] at this
  exact this
theorem phr_operator_no {x : List UInt8} (hm : x ∉ Phr.opers) (w : World) :
    Calls Tryz.prog 24 #[.string (bs x)] w fun e w' => e = .returned (.bool false) ∧ w = w' := by
  have := phr_operator x w
  rw [decide_eq_false hm] at this
  exact this
/-- What may come of a word. -/
theorem phr_word_ways (l : List (List UInt8)) : (∃ x : List UInt8, Phr.word l = none ∧ Phr.mot x = none ∧ x ∉ Phr.opers ∧ ∀ (g : Nat) (c : Cmd) (dry : Bool) (w : World), Rdr g w c l dry →
    Calls Tryz.prog 20 #[.pointer (some ⟨g, 0, none⟩)] w fun e w' => e = .returned (.string (bs x)) ∧ Rdr g w' c [] true ∧ w.grownBy w' (some g)) ∨ (∃ x t m, Phr.word l = some (x, t) ∧ Phr.mot x = some m) ∨ (∃ x t, Phr.word l = some (x, t) ∧ Phr.mot x = none ∧ x ∈ Phr.opers) ∨ (∃ x t, Phr.word l = some (x, t) ∧ Phr.mot x = none ∧ x ∉ Phr.opers) := by
  cases hw : Phr.word l with
  | none =>
    obtain ⟨x, hx, WD⟩ := phr_word_dry hw
    exact .inl ⟨x, rfl, by rcases hx with rfl | rfl <;> rfl, by rcases hx with rfl | rfl <;> decide, WD⟩
  | some y =>
    obtain ⟨x, t⟩ := y
    cases hm : Phr.mot x with
    | some m => exact .inr (.inl ⟨x, t, m, rfl, hm⟩)
    | none =>
      by_cases ho : x ∈ Phr.opers
      · exact .inr (.inr (.inl ⟨x, t, rfl, hm, ho⟩))
      · exact .inr (.inr (.inr ⟨x, t, rfl, hm, ho⟩))
namespace Phr
theorem run_dry {visual : Bool} {c : Cmd} {l : List (List UInt8)} (hw : word l = none) : run visual c l = more := by rw [run, hw]
theorem run_mot {visual : Bool} {r n : Int} {l t : List (List UInt8)} {x : List UInt8} {m : Nat} (hw : word l = some (x, t)) (hm : mot x = some m) : run visual ⟨r, n, [], [], []⟩ l = goes ⟨r, n, [], x, []⟩ m t := by
  rw [run, hw]; simp only [act, hm]; rfl
theorem area_no (w : List UInt8) : ∀ op, area w ≠ .works op := by
  intro op
  unfold area
  repeat' split
  all_goals intro h; cases h
theorem run_area {r n : Int} {l t : List (List UInt8)} {x : List UInt8} (hw : word l = some (x, t)) (hm : mot x = none) : run true ⟨r, n, [], [], []⟩ l = does ⟨r, n, [], [], []⟩ (area x) t := by
  rw [run, hw]
  simp only [act, hm, if_true]
  split
  · rename_i op h; exact absurd h (area_no x op)
  · rfl
theorem run_work {r n : Int} {l t : List (List UInt8)} {x : List UInt8} (hw : word l = some (x, t)) (hm : mot x = none) (ho : x ∈ opers) : run false ⟨r, n, [], [], []⟩ l = work ⟨r, n, [], [], []⟩ x t := by
  rw [run, hw]
  simp only [act, hm, Bool.false_eq_true, if_false, plain, if_pos ho]
theorem plain_no {x : List UInt8} (ho : x ∉ opers) : ∀ op, plain x ≠ .works op := by
  intro op
  unfold plain
  rw [if_neg ho]
  repeat' split
  all_goals intro h; cases h
theorem run_plain {r n : Int} {l t : List (List UInt8)} {x : List UInt8} (hw : word l = some (x, t)) (hm : mot x = none) (ho : x ∉ opers) : run false ⟨r, n, [], [], []⟩ l = does ⟨r, n, [], [], []⟩ (plain x) t := by
  rw [run, hw]
  simp only [act, hm, Bool.false_eq_true, if_false]
  split
  · rename_i op h; exact absurd h (plain_no ho op)
  · rfl
end Phr
set_option maxHeartbeats 1000000 in
set_option maxRecDepth 100000 in
theorem phr_command_true {g : Nat} {w : World} {ks : List (List UInt8)} (h : Rdr g w ⟨0, 0, [], [], []⟩ ks false) :
    Calls Tryz.prog 8 #[.pointer (some ⟨g, 0, none⟩), .bool true] w (EndsAs g w (Phr.parse true ks)) := by
  have NI := Phr.number_in ks
  have C : Hid (Calls Tryz.prog 18 #[.pointer (some ⟨g, 0, none⟩)] w fun e w' => e = .returned (.tuple #[]) ∧ Rdr g w' ⟨0, (Phr.number ks).1, [], [], []⟩ (Phr.number ks).2 false ∧ w.grownBy w' (some g)) := by
    have := phr_count h (by decide) (by decide)
    simp only [Phr.count_zero NI.1 NI.2] at this
    exact Lib.hid this
  have HP : Hid (Phr.parse true ks = Phr.after true (Phr.number ks).1 (Phr.number ks).2) := Lib.hid rfl
  rw [HP.out]
  clear h HP
  generalize (Phr.number ks).1 = n at *
  generalize (Phr.number ks).2 = l0 at *
  go_enter Tryz.func8, Tryz.ntmps8
  go_wp2_with (first
    | (go_at_call 18; refine C.out.mono ?_; rintro e w1 ⟨rfl, k1, g1⟩; have R := Lib.hid (phr_register true k1 NI.1 NI.2); clear k1 C)
    | (go_at_call 19; refine R.out.mono ?_; rintro e w2 ⟨g2, (⟨rfl, d2, c2, l2, k2, o2⟩ | ⟨rfl, r, m, l, k2, m0, m1, o2⟩)⟩; rotate_left; rcases phr_word_ways l with ⟨x, hw, hm, ho, WD⟩ | ⟨x, t, j, hw, hm⟩ | ⟨x, t, hw, hm, ho⟩ | ⟨x, t, hw, hm, ho⟩)
    | (go_at_call 20; (first | (refine (WD _ _ _ _ k2).mono ?_; rintro e w3 ⟨rfl, k3, g3⟩; clear k2 WD) | (refine (phr_word_some hw k2).mono ?_; rintro e w3 ⟨rfl, k3, g3⟩; clear k2)))
    | (go_at_call 21; (first | refine (phr_Motion_yes hm _).mono ?_ | refine (phr_Motion_no hm _).mono ?_); rintro e w4 ⟨rfl, rfl⟩)
    | (go_at_call 22; refine (phr_motion k3 hm).mono ?_; rintro e w5 ⟨g5, read, d5, c5, l5, rfl, k5, o5⟩; replace o5 := o5.trans ((Phr.run_mot hw hm).symm.trans o2))
    | (go_at_call 23; refine (phr_area k3).mono ?_; rintro e w5 ⟨g5, read, d5, c5, l5, rfl, k5, o5⟩; (first | replace o5 := o5.trans ((Phr.run_dry hw).symm.trans o2) | replace o5 := o5.trans ((Phr.run_area hw hm).symm.trans o2))))
  all_goals (go_ret; first | exact ⟨gb_trans g1 g2, _, _, _, _, rfl, k2, o2⟩ | exact ⟨gb_trans (gb_trans (gb_trans g1 g2) g3) g5, _, _, _, _, rfl, k5, o5⟩)
set_option maxHeartbeats 1000000 in
set_option maxRecDepth 100000 in
theorem phr_command_false {g : Nat} {w : World} {ks : List (List UInt8)} (h : Rdr g w ⟨0, 0, [], [], []⟩ ks false) :
    Calls Tryz.prog 8 #[.pointer (some ⟨g, 0, none⟩), .bool false] w (EndsAs g w (Phr.parse false ks)) := by
  have NI := Phr.number_in ks
  have C : Hid (Calls Tryz.prog 18 #[.pointer (some ⟨g, 0, none⟩)] w fun e w' => e = .returned (.tuple #[]) ∧ Rdr g w' ⟨0, (Phr.number ks).1, [], [], []⟩ (Phr.number ks).2 false ∧ w.grownBy w' (some g)) := by
    have := phr_count h (by decide) (by decide)
    simp only [Phr.count_zero NI.1 NI.2] at this
    exact Lib.hid this
  have HP : Hid (Phr.parse false ks = Phr.after false (Phr.number ks).1 (Phr.number ks).2) := Lib.hid rfl
  rw [HP.out]
  clear h HP
  generalize (Phr.number ks).1 = n at *
  generalize (Phr.number ks).2 = l0 at *
  go_enter Tryz.func8, Tryz.ntmps8
  go_wp2_with (first
    | (go_at_call 18; refine C.out.mono ?_; rintro e w1 ⟨rfl, k1, g1⟩; have R := Lib.hid (phr_register false k1 NI.1 NI.2); clear k1 C)
    | (go_at_call 19; refine R.out.mono ?_; rintro e w2 ⟨g2, (⟨rfl, d2, c2, l2, k2, o2⟩ | ⟨rfl, r, m, l, k2, m0, m1, o2⟩)⟩; rotate_left; rcases phr_word_ways l with ⟨x, hw, hm, ho, WD⟩ | ⟨x, t, j, hw, hm⟩ | ⟨x, t, hw, hm, ho⟩ | ⟨x, t, hw, hm, ho⟩)
    | (go_at_call 20; (first | (refine (WD _ _ _ _ k2).mono ?_; rintro e w3 ⟨rfl, k3, g3⟩; clear k2 WD) | (refine (phr_word_some hw k2).mono ?_; rintro e w3 ⟨rfl, k3, g3⟩; clear k2)))
    | (go_at_call 21; (first | refine (phr_Motion_yes hm _).mono ?_ | refine (phr_Motion_no hm _).mono ?_); rintro e w4 ⟨rfl, rfl⟩)
    | (go_at_call 22; refine (phr_motion k3 hm).mono ?_; rintro e w5 ⟨g5, read, d5, c5, l5, rfl, k5, o5⟩; replace o5 := o5.trans ((Phr.run_mot hw hm).symm.trans o2))
    | (go_at_call 24; (first | refine (phr_operator_yes ho _).mono ?_ | refine (phr_operator_no ho _).mono ?_); rintro e w4 ⟨rfl, rfl⟩)
    | (go_at_call 25; refine (phr_operated k3 ho m0 m1).mono ?_; rintro e w5 ⟨g5, read, d5, c5, l5, rfl, k5, o5⟩; replace o5 := o5.trans ((Phr.run_work hw hm ho).symm.trans o2))
    | (go_at_call 26; refine (phr_plain k3 ho).mono ?_; rintro e w5 ⟨g5, read, d5, c5, l5, rfl, k5, o5⟩; (first | replace o5 := o5.trans ((Phr.run_dry hw).symm.trans o2) | replace o5 := o5.trans ((Phr.run_plain hw hm ho).symm.trans o2))))
  all_goals (go_ret; first | exact ⟨gb_trans g1 g2, _, _, _, _, rfl, k2, o2⟩ | exact ⟨gb_trans (gb_trans (gb_trans g1 g2) g3) g5, _, _, _, _, rfl, k5, o5⟩)
theorem phr_command {g : Nat} {w : World} {ks : List (List UInt8)} (visual : Bool) (h : Rdr g w ⟨0, 0, [], [], []⟩ ks false) :
    Calls Tryz.prog 8 #[.pointer (some ⟨g, 0, none⟩), .bool visual] w (EndsAs g w (Phr.parse visual ks)) := by
  cases visual with
  | true => exact phr_command_true h
  | false => exact phr_command_false h
end Go.Proofs.YtchpkeelnfmlbaaGreat
/-
  Package phrase's Parse.
-/
namespace Go.Proofs.YtchpkeelnfmlbaaGreat
open Go.RowKit
open Phr (Cmd Ans Rdr EndsAs)
namespace Phr
/-- A command as a value. -/
def Cmd.val (c : Cmd) : Value := .agg #[.int .i64 c.reg, .int .i64 c.count, .string (bs c.op), .string (bs c.key), .string (bs c.arg)]
def ansV (x : Ans) : Value := .tuple #[x.1.val, .int .i64 x.2]
/-- A world whose block g has been stored to, cell by cell. -/
def put5 (W : World) (g : Nat) (a b c d e : Value) : World := ((((W.setCell ⟨g, 0, none⟩ a).setCell ⟨g, 1, none⟩ b).setCell ⟨g, 2, none⟩ c).setCell ⟨g, 3, none⟩ d).setCell ⟨g, 4, none⟩ e
theorem blk5 {W : World} {g : Nat} {t : TypeId} {z0 z1 z2 z3 z4 : Value} (h : Blk W g t #[z0, z1, z2, z3, z4]) (a b c d e : Value) :
    (W.cell? ⟨g, 0, none⟩ = some z0 ∧ W.frozen? ⟨g, 0, none⟩ = false)
    ∧ ((W.setCell ⟨g, 0, none⟩ a).cell? ⟨g, 1, none⟩ = some z1 ∧ (W.setCell ⟨g, 0, none⟩ a).frozen? ⟨g, 1, none⟩ = false)
    ∧ (((W.setCell ⟨g, 0, none⟩ a).setCell ⟨g, 1, none⟩ b).cell? ⟨g, 2, none⟩ = some z2 ∧ ((W.setCell ⟨g, 0, none⟩ a).setCell ⟨g, 1, none⟩ b).frozen? ⟨g, 2, none⟩ = false)
    ∧ ((((W.setCell ⟨g, 0, none⟩ a).setCell ⟨g, 1, none⟩ b).setCell ⟨g, 2, none⟩ c).cell? ⟨g, 3, none⟩ = some z3 ∧ (((W.setCell ⟨g, 0, none⟩ a).setCell ⟨g, 1, none⟩ b).setCell ⟨g, 2, none⟩ c).frozen? ⟨g, 3, none⟩ = false)
    ∧ (((((W.setCell ⟨g, 0, none⟩ a).setCell ⟨g, 1, none⟩ b).setCell ⟨g, 2, none⟩ c).setCell ⟨g, 3, none⟩ d).cell? ⟨g, 4, none⟩ = some z4 ∧ ((((W.setCell ⟨g, 0, none⟩ a).setCell ⟨g, 1, none⟩ b).setCell ⟨g, 2, none⟩ c).setCell ⟨g, 3, none⟩ d).frozen? ⟨g, 4, none⟩ = false)
    ∧ Blk (put5 W g a b c d e) g t #[a, b, c, d, e] := by
  have h1 := h.set_ 0 a
  have h2 := h1.set_ 1 b
  have h3 := h2.set_ 2 c
  have h4 := h3.set_ 3 d
  have h5 := h4.set_ 4 e
  exact ⟨⟨h.cell 0, h.frozen 0⟩, ⟨h1.cell 1, h1.frozen 1⟩, ⟨h2.cell 2, h2.frozen 2⟩, ⟨h3.cell 3, h3.frozen 3⟩, ⟨h4.cell 4, h4.frozen 4⟩, h5⟩
theorem put5_cells {W : World} {g : Nat} {t : TypeId} {a b c d e : Value} (h : Blk (put5 W g a b c d e) g t #[a, b, c, d, e]) : (put5 W g a b c d e).cell? ⟨g, 0, none⟩ = some a ∧ (put5 W g a b c d e).cell? ⟨g, 1, none⟩ = some b ∧ (put5 W g a b c d e).cell? ⟨g, 2, none⟩ = some c ∧ (put5 W g a b c d e).cell? ⟨g, 3, none⟩ = some d ∧ (put5 W g a b c d e).cell? ⟨g, 4, none⟩ = some e :=
  ⟨h.cell 0, h.cell 1, h.cell 2, h.cell 3, h.cell 4⟩
theorem put5_gb (W : World) (g : Nat) (a b c d e : Value) : W.grownBy (put5 W g a b c d e) (some g) :=
  gb_trans (gb_trans (gb_trans (gb_trans (gb_set W g 0 a) (gb_set _ g 1 b)) (gb_set _ g 2 c)) (gb_set _ g 3 d)) (gb_set _ g 4 e)
end Phr
section
variable {P : Program} {fn : Func} {R : Ending → World → Prop} {a : Act} {w : World} {g : Nat} {t : TypeId} {v0 v1 v2 v3 v4 : Value} {p u : Tmp} {fs : Array Field} {ty : TypeId}
theorem ret_five1 (h : fn.results = #[.cell p ty, .tmp u]) (hp : a.tmps.getD p undef = .pointer (some ⟨g, 0, none⟩)) (hB : Blk w g t #[v0, v1, v2, v3, v4]) (hd : a.defers = []) (hu : P.underlying ty = some (.struct fs)) (hi : (P.info? ty).map (·.size) = some 5)
    (hR : R (.returned (.tuple #[.agg #[v0, v1, v2, v3, v4], a.tmps.getD u undef])) w) : bodyPost P fn R .ret a w :=
  bodyPost_ret (results_row_and h _ _ g t #[v0, v1, v2, v3, v4] (0, 0) _ hp hB hu rfl hi) hd hR
end
set_option maxHeartbeats 1000000 in
set_option maxRecDepth 100000 in
theorem phr_Parse_bad (s : ByteArray) (visual : Bool) (hs : s.size ≤ 1000000000000) (he : Key.err s.data.toList ≠ 0) (w : World) :
    Calls Tryz.prog 5 #[.string s, .bool visual] w fun e w' => e = .returned (Phr.ansV Phr.bad) ∧ Below w.heap.size w w' := by
  have C := Lib.hid (fun w => key_Split_cap s hs w)
  have q : (Key.err s.data.toList == 0) = false := by rw [beq_eq_false_iff_ne]; exact he
  have B0 := Blk.new w 24 #[.int .i64 0, .int .i64 0, .string ⟨#[]⟩, .string ⟨#[]⟩, .string ⟨#[]⟩]
  have W0 := (Below.refl w.heap.size w).alloc (Nat.le_refl _) (.cells #[.int .i64 0, .int .i64 0, .string ⟨#[]⟩, .string ⟨#[]⟩, .string ⟨#[]⟩] 24)
  generalize Key.err s.data.toList = z at *
  generalize Key.split s.data.toList = sp at *
  clear he
  go_enter Tryz.func5, Tryz.ntmps5
  go_wp2_with (first
    | (go_at_call 7; refine (C.out _).mono ?_; rintro e w1 ⟨A, n, rfl, hc, hS, hb1⟩; have B1 := B0.below hb1 B0.lt; have W1 := W0.trans (hb1.mono (by rw [World.size_alloc]; omega)); obtain ⟨⟨x0, y0⟩, ⟨x1, y1⟩, ⟨x2, y2⟩, ⟨x3, y3⟩, ⟨x4, y4⟩, B2⟩ := Phr.blk5 B1 (.int .i64 0) (.int .i64 0) (.string ⟨#[]⟩) (.string ⟨#[]⟩) (.string ⟨#[]⟩); obtain ⟨v0, v1, v2, v3, v4⟩ := Phr.put5_cells B2; have GG := Phr.put5_gb w1 w.heap.size (.int .i64 0) (.int .i64 0) (.string ⟨#[]⟩) (.string ⟨#[]⟩) (.string ⟨#[]⟩); unfold Phr.put5 at v0 v1 v2 v3 v4 GG B2; generalize hu1 : w1.setCell ⟨w.heap.size, 0, none⟩ (.int .i64 0) = u1 at *; generalize hu2 : u1.setCell ⟨w.heap.size, 1, none⟩ (.int .i64 0) = u2 at *; generalize hu3 : u2.setCell ⟨w.heap.size, 2, none⟩ (.string ⟨#[]⟩) = u3 at *; generalize hu4 : u3.setCell ⟨w.heap.size, 3, none⟩ (.string ⟨#[]⟩) = u4 at *; generalize hu5 : u4.setCell ⟨w.heap.size, 4, none⟩ (.string ⟨#[]⟩) = u5 at *; have BB := Lib.hid B2; clear hS hb1 B2 B1 C B0 W0))
  refine ret_five1 rfl rfl BB.out rfl Tryz.underlying24 (by kernel_rfl) ?_
  exact ⟨rfl, W1.grown GG W1.size (fun j e => by injection e with e; omega)⟩
/-- The reader that Parse lays. -/
theorem Phr.fresh7 {w w1 u0 : World} {A : Option Addr} {n : Nat} {sp : List (List UInt8)} (hu : w1.alloc (.cells #[.int .i64 0, .int .i64 0, .string ⟨#[]⟩, .string ⟨#[]⟩, .string ⟨#[]⟩, .slice none 0 0, .bool false] 36) = u0) (ho : ∀ k ∈ sp, Utf.one k = true) (hc : sp.length ≤ n) (hS : Strs w1 A (sp.map bs)) {cs : Array Value} (B1 : Blk w1 w.heap.size 24 cs) (W1 : Below w.heap.size w w1) :
    Blk u0 w1.heap.size 36 #[.int .i64 0, .int .i64 0, .string ⟨#[]⟩, .string ⟨#[]⟩, .string ⟨#[]⟩, .slice none 0 0, .bool false] ∧
    ((u0.cell? ⟨w1.heap.size, 0, none⟩ = some (.int .i64 0) ∧ u0.frozen? ⟨w1.heap.size, 0, none⟩ = false) ∧ ((u0.setCell ⟨w1.heap.size, 0, none⟩ (.int .i64 0)).cell? ⟨w1.heap.size, 1, none⟩ = some (.int .i64 0) ∧ (u0.setCell ⟨w1.heap.size, 0, none⟩ (.int .i64 0)).frozen? ⟨w1.heap.size, 1, none⟩ = false) ∧ (((u0.setCell ⟨w1.heap.size, 0, none⟩ (.int .i64 0)).setCell ⟨w1.heap.size, 1, none⟩ (.int .i64 0)).cell? ⟨w1.heap.size, 2, none⟩ = some (.string ⟨#[]⟩) ∧ ((u0.setCell ⟨w1.heap.size, 0, none⟩ (.int .i64 0)).setCell ⟨w1.heap.size, 1, none⟩ (.int .i64 0)).frozen? ⟨w1.heap.size, 2, none⟩ = false) ∧ ((((u0.setCell ⟨w1.heap.size, 0, none⟩ (.int .i64 0)).setCell ⟨w1.heap.size, 1, none⟩ (.int .i64 0)).setCell ⟨w1.heap.size, 2, none⟩ (.string ⟨#[]⟩)).cell? ⟨w1.heap.size, 3, none⟩ = some (.string ⟨#[]⟩) ∧ (((u0.setCell ⟨w1.heap.size, 0, none⟩ (.int .i64 0)).setCell ⟨w1.heap.size, 1, none⟩ (.int .i64 0)).setCell ⟨w1.heap.size, 2, none⟩ (.string ⟨#[]⟩)).frozen? ⟨w1.heap.size, 3, none⟩ = false) ∧ (((((u0.setCell ⟨w1.heap.size, 0, none⟩ (.int .i64 0)).setCell ⟨w1.heap.size, 1, none⟩ (.int .i64 0)).setCell ⟨w1.heap.size, 2, none⟩ (.string ⟨#[]⟩)).setCell ⟨w1.heap.size, 3, none⟩ (.string ⟨#[]⟩)).cell? ⟨w1.heap.size, 4, none⟩ = some (.string ⟨#[]⟩) ∧ ((((u0.setCell ⟨w1.heap.size, 0, none⟩ (.int .i64 0)).setCell ⟨w1.heap.size, 1, none⟩ (.int .i64 0)).setCell ⟨w1.heap.size, 2, none⟩ (.string ⟨#[]⟩)).setCell ⟨w1.heap.size, 3, none⟩ (.string ⟨#[]⟩)).frozen? ⟨w1.heap.size, 4, none⟩ = false) ∧ ((((((u0.setCell ⟨w1.heap.size, 0, none⟩ (.int .i64 0)).setCell ⟨w1.heap.size, 1, none⟩ (.int .i64 0)).setCell ⟨w1.heap.size, 2, none⟩ (.string ⟨#[]⟩)).setCell ⟨w1.heap.size, 3, none⟩ (.string ⟨#[]⟩)).setCell ⟨w1.heap.size, 4, none⟩ (.string ⟨#[]⟩)).cell? ⟨w1.heap.size, 5, none⟩ = some (.slice none 0 0) ∧ (((((u0.setCell ⟨w1.heap.size, 0, none⟩ (.int .i64 0)).setCell ⟨w1.heap.size, 1, none⟩ (.int .i64 0)).setCell ⟨w1.heap.size, 2, none⟩ (.string ⟨#[]⟩)).setCell ⟨w1.heap.size, 3, none⟩ (.string ⟨#[]⟩)).setCell ⟨w1.heap.size, 4, none⟩ (.string ⟨#[]⟩)).frozen? ⟨w1.heap.size, 5, none⟩ = false) ∧ (((((((u0.setCell ⟨w1.heap.size, 0, none⟩ (.int .i64 0)).setCell ⟨w1.heap.size, 1, none⟩ (.int .i64 0)).setCell ⟨w1.heap.size, 2, none⟩ (.string ⟨#[]⟩)).setCell ⟨w1.heap.size, 3, none⟩ (.string ⟨#[]⟩)).setCell ⟨w1.heap.size, 4, none⟩ (.string ⟨#[]⟩)).setCell ⟨w1.heap.size, 5, none⟩ (.slice A sp.length n)).cell? ⟨w1.heap.size, 6, none⟩ = some (.bool false) ∧ ((((((u0.setCell ⟨w1.heap.size, 0, none⟩ (.int .i64 0)).setCell ⟨w1.heap.size, 1, none⟩ (.int .i64 0)).setCell ⟨w1.heap.size, 2, none⟩ (.string ⟨#[]⟩)).setCell ⟨w1.heap.size, 3, none⟩ (.string ⟨#[]⟩)).setCell ⟨w1.heap.size, 4, none⟩ (.string ⟨#[]⟩)).setCell ⟨w1.heap.size, 5, none⟩ (.slice A sp.length n)).frozen? ⟨w1.heap.size, 6, none⟩ = false)) ∧
    Rdr w1.heap.size (((((((u0.setCell ⟨w1.heap.size, 0, none⟩ (.int .i64 0)).setCell ⟨w1.heap.size, 1, none⟩ (.int .i64 0)).setCell ⟨w1.heap.size, 2, none⟩ (.string ⟨#[]⟩)).setCell ⟨w1.heap.size, 3, none⟩ (.string ⟨#[]⟩)).setCell ⟨w1.heap.size, 4, none⟩ (.string ⟨#[]⟩)).setCell ⟨w1.heap.size, 5, none⟩ (.slice A sp.length n)).setCell ⟨w1.heap.size, 6, none⟩ (.bool false)) ⟨0, 0, [], [], []⟩ sp false ∧ Blk (((((((u0.setCell ⟨w1.heap.size, 0, none⟩ (.int .i64 0)).setCell ⟨w1.heap.size, 1, none⟩ (.int .i64 0)).setCell ⟨w1.heap.size, 2, none⟩ (.string ⟨#[]⟩)).setCell ⟨w1.heap.size, 3, none⟩ (.string ⟨#[]⟩)).setCell ⟨w1.heap.size, 4, none⟩ (.string ⟨#[]⟩)).setCell ⟨w1.heap.size, 5, none⟩ (.slice A sp.length n)).setCell ⟨w1.heap.size, 6, none⟩ (.bool false)) w.heap.size 24 cs ∧ Below w.heap.size w (((((((u0.setCell ⟨w1.heap.size, 0, none⟩ (.int .i64 0)).setCell ⟨w1.heap.size, 1, none⟩ (.int .i64 0)).setCell ⟨w1.heap.size, 2, none⟩ (.string ⟨#[]⟩)).setCell ⟨w1.heap.size, 3, none⟩ (.string ⟨#[]⟩)).setCell ⟨w1.heap.size, 4, none⟩ (.string ⟨#[]⟩)).setCell ⟨w1.heap.size, 5, none⟩ (.slice A sp.length n)).setCell ⟨w1.heap.size, 6, none⟩ (.bool false)) := by
  subst hu
  have b0 := Blk.new w1 36 #[.int .i64 0, .int .i64 0, .string ⟨#[]⟩, .string ⟨#[]⟩, .string ⟨#[]⟩, .slice none 0 0, .bool false]
  have hlt : w.heap.size < w1.heap.size := B1.lt
  have b1 := b0.set_ 0 (.int .i64 0)
  have b2 := b1.set_ 1 (.int .i64 0)
  have b3 := b2.set_ 2 (.string ⟨#[]⟩)
  have b4 := b3.set_ 3 (.string ⟨#[]⟩)
  have b5 := b4.set_ 4 (.string ⟨#[]⟩)
  have b6 := b5.set_ 5 (.slice A sp.length n)
  have b7 := b6.set_ 6 (.bool false)
  refine ⟨b0, ⟨⟨b0.cell 0, b0.frozen 0⟩, ⟨b1.cell 1, b1.frozen 1⟩, ⟨b2.cell 2, b2.frozen 2⟩, ⟨b3.cell 3, b3.frozen 3⟩, ⟨b4.cell 4, b4.frozen 4⟩, ⟨b5.cell 5, b5.frozen 5⟩, ⟨b6.cell 6, b6.frozen 6⟩⟩, ⟨A, n, b7, hc, ?_, ?_, ho⟩, ?_, ?_⟩
  · intro h0
    obtain ⟨ad, e, hl, hx⟩ := hS h0
    refine ⟨ad, e, by simp [World.setCell]; omega, fun j x hj => ?_⟩
    have hne : (ad.add j).block ≠ w1.heap.size := by rw [block_of_add]; omega
    rw [World.cell?_of_block (w := w1) ?_]
    · exact hx j x hj
    · rw [Below.heap_setCell _ _ _ _ hne, Below.heap_setCell _ _ _ _ hne, Below.heap_setCell _ _ _ _ hne, Below.heap_setCell _ _ _ _ hne, Below.heap_setCell _ _ _ _ hne, Below.heap_setCell _ _ _ _ hne, Below.heap_setCell _ _ _ _ hne]
      exact Below.heap_alloc w1 _ _ (by rw [block_of_add]; exact hl)
  · intro h0 ad e
    obtain ⟨ad', e', hl, _⟩ := hS (by rw [List.length_map]; exact List.length_pos_iff.2 h0)
    rw [e] at e'; injection e' with e'; subst e'; omega
  · exact ((((((((B1.alloc _).far (p := ⟨w1.heap.size, 0, none⟩) (by show w.heap.size ≠ w1.heap.size; omega) _).far (p := ⟨w1.heap.size, 1, none⟩) (by show w.heap.size ≠ w1.heap.size; omega) _).far (p := ⟨w1.heap.size, 2, none⟩) (by show w.heap.size ≠ w1.heap.size; omega) _).far (p := ⟨w1.heap.size, 3, none⟩) (by show w.heap.size ≠ w1.heap.size; omega) _).far (p := ⟨w1.heap.size, 4, none⟩) (by show w.heap.size ≠ w1.heap.size; omega) _).far (p := ⟨w1.heap.size, 5, none⟩) (by show w.heap.size ≠ w1.heap.size; omega) _).far (p := ⟨w1.heap.size, 6, none⟩) (by show w.heap.size ≠ w1.heap.size; omega) _)
  · exact ((((((((W1.alloc W1.size _).setCell (p := ⟨w1.heap.size, 0, none⟩) (by show w.heap.size ≤ w1.heap.size; omega) _).setCell (p := ⟨w1.heap.size, 1, none⟩) (by show w.heap.size ≤ w1.heap.size; omega) _).setCell (p := ⟨w1.heap.size, 2, none⟩) (by show w.heap.size ≤ w1.heap.size; omega) _).setCell (p := ⟨w1.heap.size, 3, none⟩) (by show w.heap.size ≤ w1.heap.size; omega) _).setCell (p := ⟨w1.heap.size, 4, none⟩) (by show w.heap.size ≤ w1.heap.size; omega) _).setCell (p := ⟨w1.heap.size, 5, none⟩) (by show w.heap.size ≤ w1.heap.size; omega) _).setCell (p := ⟨w1.heap.size, 6, none⟩) (by show w.heap.size ≤ w1.heap.size; omega) _)
set_option maxHeartbeats 1000000 in
set_option maxRecDepth 100000 in
theorem phr_Parse_ok (s : ByteArray) (visual : Bool) (hs : s.size ≤ 1000000000000) (he : Key.err s.data.toList = 0) (w : World) :
    Calls Tryz.prog 5 #[.string s, .bool visual] w fun e w' => e = .returned (Phr.ansV (Phr.parse visual (Key.split s.data.toList))) ∧ Below w.heap.size w w' := by
  have C := Lib.hid (fun w => key_Split_cap s hs w)
  rw [he] at C
  have HO : Hid (∀ k ∈ Key.split s.data.toList, Utf.one k = true) := Lib.hid (by
    obtain ⟨rs, hd, hk⟩ := Key.err_zero he
    rw [Key.split_ok hd hk]
    exact (Utf.dec_some hd).1)
  have B0 := Blk.new w 24 #[.int .i64 0, .int .i64 0, .string ⟨#[]⟩, .string ⟨#[]⟩, .string ⟨#[]⟩]
  have W0 := (Below.refl w.heap.size w).alloc (Nat.le_refl _) (.cells #[.int .i64 0, .int .i64 0, .string ⟨#[]⟩, .string ⟨#[]⟩, .string ⟨#[]⟩] 24)
  clear he
  generalize Key.split s.data.toList = sp at *
  generalize hF : Phr.parse visual sp = F
  go_enter Tryz.func5, Tryz.ntmps5
  go_wp2_with (first
    | (go_at_call 7; refine (C.out _).mono ?_; rintro e w1 ⟨A, n, rfl, hc, hS, hb1⟩; have B1 := B0.below hb1 B0.lt; have W1 := W0.trans (hb1.mono (by rw [World.size_alloc]; omega)); clear hb1 C B0 W0; generalize hu : w1.alloc (.cells #[.int .i64 0, .int .i64 0, .string ⟨#[]⟩, .string ⟨#[]⟩, .string ⟨#[]⟩, .slice none 0 0, .bool false] 36) = u0 at *; obtain ⟨BR, XR, YR, ZR, WR⟩ := Phr.fresh7 (A := A) (n := n) hu HO.out hc hS B1 W1; obtain ⟨x0, y0⟩ := XR.1; obtain ⟨x1, y1⟩ := XR.2.1; obtain ⟨x2, y2⟩ := XR.2.2.1; obtain ⟨x3, y3⟩ := XR.2.2.2.1; obtain ⟨x4, y4⟩ := XR.2.2.2.2.1; obtain ⟨x5, y5⟩ := XR.2.2.2.2.2.1; obtain ⟨x6, y6⟩ := XR.2.2.2.2.2.2; generalize hu1 : u0.setCell ⟨w1.heap.size, 0, none⟩ (.int .i64 0) = u1 at *; generalize hu2 : u1.setCell ⟨w1.heap.size, 1, none⟩ (.int .i64 0) = u2 at *; generalize hu3 : u2.setCell ⟨w1.heap.size, 2, none⟩ (.string ⟨#[]⟩) = u3 at *; generalize hu4 : u3.setCell ⟨w1.heap.size, 3, none⟩ (.string ⟨#[]⟩) = u4 at *; generalize hu5 : u4.setCell ⟨w1.heap.size, 4, none⟩ (.string ⟨#[]⟩) = u5 at *; generalize hu6 : u5.setCell ⟨w1.heap.size, 5, none⟩ (.slice A sp.length n) = u6 at *; generalize hu7 : u6.setCell ⟨w1.heap.size, 6, none⟩ (.bool false) = u7 at *; have C2 := Lib.hid (phr_command visual YR); have HL := B1.lt; clear XR YR BR B1 W1 hS)
    | (go_at_call 8; rw [hF] at C2; refine C2.out.mono ?_; rintro e w2 ⟨g2, read, dry, c, ks, rfl, k2, o2⟩; have B2 := ZR.grown g2 (by intro e; injection e with e; omega); have W2 := WR.grown g2 WR.size (fun k e => by injection e with e; omega); obtain ⟨A2, n2, hb2, _⟩ := k2; have d0 := hb2.cell 0; have d1 := hb2.cell 1; have d2 := hb2.cell 2; have d3 := hb2.cell 3; have d4 := hb2.cell 4; have d5 := hb2.cell 5; have d6 := hb2.cell 6; simp [Phr.cells] at d0 d1 d2 d3 d4 d5 d6; clear hb2 ZR WR g2 C2; rcases dry with _ | _; all_goals (first | (have o3 : Phr.more = F := o2; obtain ⟨⟨p0, r0⟩, ⟨p1, r1⟩, ⟨p2, r2⟩, ⟨p3, r3⟩, ⟨p4, r4⟩, B3⟩ := Phr.blk5 B2 (.int .i64 0) (.int .i64 0) (.string ⟨#[]⟩) (.string ⟨#[]⟩) (.string ⟨#[]⟩); have GG := Phr.put5_gb w2 w.heap.size (.int .i64 0) (.int .i64 0) (.string ⟨#[]⟩) (.string ⟨#[]⟩) (.string ⟨#[]⟩); unfold Phr.put5 at GG B3; generalize hv1 : w2.setCell ⟨w.heap.size, 0, none⟩ (.int .i64 0) = v1 at *; generalize hv2 : v1.setCell ⟨w.heap.size, 1, none⟩ (.int .i64 0) = v2 at *; generalize hv3 : v2.setCell ⟨w.heap.size, 2, none⟩ (.string ⟨#[]⟩) = v3 at *; generalize hv4 : v3.setCell ⟨w.heap.size, 3, none⟩ (.string ⟨#[]⟩) = v4 at *; generalize hv5 : v4.setCell ⟨w.heap.size, 4, none⟩ (.string ⟨#[]⟩) = v5 at *; have BB := Lib.hid B3; clear B3 B2) | (rcases read with _ | _; all_goals (first | (have o3 : Phr.bad = F := o2; obtain ⟨⟨p0, r0⟩, ⟨p1, r1⟩, ⟨p2, r2⟩, ⟨p3, r3⟩, ⟨p4, r4⟩, B3⟩ := Phr.blk5 B2 (.int .i64 0) (.int .i64 0) (.string ⟨#[]⟩) (.string ⟨#[]⟩) (.string ⟨#[]⟩); have GG := Phr.put5_gb w2 w.heap.size (.int .i64 0) (.int .i64 0) (.string ⟨#[]⟩) (.string ⟨#[]⟩) (.string ⟨#[]⟩); unfold Phr.put5 at GG B3; generalize hv1 : w2.setCell ⟨w.heap.size, 0, none⟩ (.int .i64 0) = v1 at *; generalize hv2 : v1.setCell ⟨w.heap.size, 1, none⟩ (.int .i64 0) = v2 at *; generalize hv3 : v2.setCell ⟨w.heap.size, 2, none⟩ (.string ⟨#[]⟩) = v3 at *; generalize hv4 : v3.setCell ⟨w.heap.size, 3, none⟩ (.string ⟨#[]⟩) = v4 at *; generalize hv5 : v4.setCell ⟨w.heap.size, 4, none⟩ (.string ⟨#[]⟩) = v5 at *; have BB := Lib.hid B3; clear B3 B2) | (rcases ks with _ | ⟨k0, ks⟩; all_goals (first | (have o3 : Phr.bad = F := o2; obtain ⟨⟨p0, r0⟩, ⟨p1, r1⟩, ⟨p2, r2⟩, ⟨p3, r3⟩, ⟨p4, r4⟩, B3⟩ := Phr.blk5 B2 (.int .i64 0) (.int .i64 0) (.string ⟨#[]⟩) (.string ⟨#[]⟩) (.string ⟨#[]⟩); have GG := Phr.put5_gb w2 w.heap.size (.int .i64 0) (.int .i64 0) (.string ⟨#[]⟩) (.string ⟨#[]⟩) (.string ⟨#[]⟩); unfold Phr.put5 at GG B3; generalize hv1 : w2.setCell ⟨w.heap.size, 0, none⟩ (.int .i64 0) = v1 at *; generalize hv2 : v1.setCell ⟨w.heap.size, 1, none⟩ (.int .i64 0) = v2 at *; generalize hv3 : v2.setCell ⟨w.heap.size, 2, none⟩ (.string ⟨#[]⟩) = v3 at *; generalize hv4 : v3.setCell ⟨w.heap.size, 3, none⟩ (.string ⟨#[]⟩) = v4 at *; generalize hv5 : v4.setCell ⟨w.heap.size, 4, none⟩ (.string ⟨#[]⟩) = v5 at *; have BB := Lib.hid B3; clear B3 B2) | (have o3 : ((c, 2) : Ans) = F := o2; obtain ⟨⟨p0, r0⟩, ⟨p1, r1⟩, ⟨p2, r2⟩, ⟨p3, r3⟩, ⟨p4, r4⟩, B3⟩ := Phr.blk5 B2 (.int .i64 c.reg) (.int .i64 c.count) (.string (bs c.op)) (.string (bs c.key)) (.string (bs c.arg)); have GG := Phr.put5_gb w2 w.heap.size (.int .i64 c.reg) (.int .i64 c.count) (.string (bs c.op)) (.string (bs c.key)) (.string (bs c.arg)); unfold Phr.put5 at GG B3; generalize hv1 : w2.setCell ⟨w.heap.size, 0, none⟩ (.int .i64 c.reg) = v1 at *; generalize hv2 : v1.setCell ⟨w.heap.size, 1, none⟩ (.int .i64 c.count) = v2 at *; generalize hv3 : v2.setCell ⟨w.heap.size, 2, none⟩ (.string (bs c.op)) = v3 at *; generalize hv4 : v3.setCell ⟨w.heap.size, 3, none⟩ (.string (bs c.key)) = v4 at *; generalize hv5 : v4.setCell ⟨w.heap.size, 4, none⟩ (.string (bs c.arg)) = v5 at *; have BB := Lib.hid B3; clear B3 B2))))))))
  all_goals (refine ret_five1 rfl rfl BB.out rfl Tryz.underlying24 (by kernel_rfl) ?_; exact ⟨by rw [← o3]; rfl, W2.grown GG W2.size (fun j e => by injection e with e; omega)⟩)
theorem phr_Parse (s : ByteArray) (visual : Bool) (hs : s.size ≤ 1000000000000) (w : World) :
    Calls Tryz.prog 5 #[.string s, .bool visual] w fun e w' => e = .returned (Phr.ansV (Phr.ans visual s.data.toList)) ∧ Below w.heap.size w w' := by
  unfold Phr.ans
  by_cases he : Key.err s.data.toList = 0
  · rw [if_pos he]; exact phr_Parse_ok s visual hs he w
  · rw [if_neg he]; exact phr_Parse_bad s visual hs he w
end Go.Proofs.YtchpkeelnfmlbaaGreat
/-
  '==' of commands; a command in a box of its own; the document's examples.
-/
namespace Go.Proofs.YtchpkeelnfmlbaaGreat
open Go.RowKit
open Phr (Cmd Ans)
theorem same_cmd (c d : Cmd) (w : World) : (Op.equalIn 10000 24 (.agg #[.int .i64 c.reg, .int .i64 c.count, .string (bs c.op), .string (bs c.key), .string (bs c.arg)]) (.agg #[.int .i64 d.reg, .int .i64 d.count, .string (bs d.op), .string (bs d.key), .string (bs d.arg)])).run Tryz.prog w = .ok (decide (c = d)) w := by
  rw [run_equalIn_struct w 9999 _ _ _ (by kernel_rfl) (by kernel_rfl)]
  have hi : ∀ (cs : Array Value) (j : Nat) (v : Value), cs[j]? = some v → ∀ w, (part 3 cs j).run Tryz.prog w = .ok v w := fun cs j v h w => by
    have ha : ∀ w, (isAgg 3).run Tryz.prog w = .ok false w := fun _ => by kernel_rfl
    simp [part, ha, h]
  have hs : ∀ (cs : Array Value) (j : Nat) (v : Value), cs[j]? = some v → ∀ w, (part 9 cs j).run Tryz.prog w = .ok v w := fun cs j v h w => by
    have ha : ∀ w, (isAgg 9).run Tryz.prog w = .ok false w := fun _ => by kernel_rfl
    simp [part, ha, h]
  have ei : ∀ (x y : Int) w, (Op.equalIn 9999 3 (.int .i64 x) (.int .i64 y)).run Tryz.prog w = .ok (x == y) w := fun x y w => run_equalIn_int w 9998 _ .i64 .i64 x y Tryz.underlying3
  have es : ∀ (x y : ByteArray) w, (Op.equalIn 9999 9 (.string x) (.string y)).run Tryz.prog w = .ok (x.toList == y.toList) w := fun x y w => run_equalIn_string w 9998 _ x y Tryz.underlying9
  have p0 : ∀ (a b : Int) (x y z : ByteArray) w, (part 3 #[.int .i64 a, .int .i64 b, .string x, .string y, .string z] 0).run Tryz.prog w = .ok (.int .i64 a) w := fun a b x y z => hi _ _ _ rfl
  have p1 : ∀ (a b : Int) (x y z : ByteArray) w, (part 3 #[.int .i64 a, .int .i64 b, .string x, .string y, .string z] 1).run Tryz.prog w = .ok (.int .i64 b) w := fun a b x y z => hi _ _ _ rfl
  have p2 : ∀ (a b : Int) (x y z : ByteArray) w, (part 9 #[.int .i64 a, .int .i64 b, .string x, .string y, .string z] 2).run Tryz.prog w = .ok (.string x) w := fun a b x y z => hs _ _ _ rfl
  have p3 : ∀ (a b : Int) (x y z : ByteArray) w, (part 9 #[.int .i64 a, .int .i64 b, .string x, .string y, .string z] 3).run Tryz.prog w = .ok (.string y) w := fun a b x y z => hs _ _ _ rfl
  have p4 : ∀ (a b : Int) (x y z : ByteArray) w, (part 9 #[.int .i64 a, .int .i64 b, .string x, .string y, .string z] 4).run Tryz.prog w = .ok (.string z) w := fun a b x y z => hs _ _ _ rfl
  have hd : decide (c = d) = (c.reg == d.reg && (c.count == d.count && ((bs c.op).toList == (bs d.op).toList && ((bs c.key).toList == (bs d.key).toList && (bs c.arg).toList == (bs d.arg).toList)))) := by
    simp only [bs_tl]
    rw [Bool.eq_iff_iff]
    obtain ⟨a, b, x, y, z⟩ := c
    obtain ⟨a', b', x', y', z'⟩ := d
    simp
  rw [hd]
  simp only [Op.eqFields, Program.fieldsOf, Tryz.underlying24, p0, p1, p2, p3, p4, ei, es, Sem.run_bind, Sem.run_ite, Sem.run_pure, Result.andThen_ok]
  cases (c.reg == d.reg) <;> cases (c.count == d.count) <;> cases ((bs c.op).toList == (bs d.op).toList) <;> cases ((bs c.key).toList == (bs d.key).toList) <;> cases ((bs c.arg).toList == (bs d.arg).toList) <;> simp
theorem eql_cmd (c d : Cmd) (w : World) : (binOp .eql 24 (.agg #[.int .i64 c.reg, .int .i64 c.count, .string (bs c.op), .string (bs c.key), .string (bs c.arg)]) (.agg #[.int .i64 d.reg, .int .i64 d.count, .string (bs d.op), .string (bs d.key), .string (bs d.arg)])).run Tryz.prog w = .ok (.bool (decide (c = d))) w := by
  rw [run_eql_struct, same_cmd]; rfl
theorem neq_cmd (c d : Cmd) (w : World) : (binOp .neq 24 (.agg #[.int .i64 c.reg, .int .i64 c.count, .string (bs c.op), .string (bs c.key), .string (bs c.arg)]) (.agg #[.int .i64 d.reg, .int .i64 d.count, .string (bs d.op), .string (bs d.key), .string (bs d.arg)])).run Tryz.prog w = .ok (.bool !(decide (c = d))) w := by
  rw [run_neq_struct, same_cmd]; rfl
/-- A command in a box of its own. -/
theorem Phr.box5 {W u0 : World} (c : Cmd) (hu : W.alloc (.cells #[.int .i64 0, .int .i64 0, .string ⟨#[]⟩, .string ⟨#[]⟩, .string ⟨#[]⟩] 24) = u0) :
    (u0.cell? ⟨W.heap.size, 0, none⟩ = some (.int .i64 0) ∧ u0.frozen? ⟨W.heap.size, 0, none⟩ = false) ∧
    ((u0.setCell ⟨W.heap.size, 0, none⟩ (.int .i64 c.reg)).cell? ⟨W.heap.size, 1, none⟩ = some (.int .i64 0) ∧ (u0.setCell ⟨W.heap.size, 0, none⟩ (.int .i64 c.reg)).frozen? ⟨W.heap.size, 1, none⟩ = false) ∧
    (((u0.setCell ⟨W.heap.size, 0, none⟩ (.int .i64 c.reg)).setCell ⟨W.heap.size, 1, none⟩ (.int .i64 c.count)).cell? ⟨W.heap.size, 2, none⟩ = some (.string ⟨#[]⟩) ∧ ((u0.setCell ⟨W.heap.size, 0, none⟩ (.int .i64 c.reg)).setCell ⟨W.heap.size, 1, none⟩ (.int .i64 c.count)).frozen? ⟨W.heap.size, 2, none⟩ = false) ∧
    ((((u0.setCell ⟨W.heap.size, 0, none⟩ (.int .i64 c.reg)).setCell ⟨W.heap.size, 1, none⟩ (.int .i64 c.count)).setCell ⟨W.heap.size, 2, none⟩ (.string (bs c.op))).cell? ⟨W.heap.size, 3, none⟩ = some (.string ⟨#[]⟩) ∧ (((u0.setCell ⟨W.heap.size, 0, none⟩ (.int .i64 c.reg)).setCell ⟨W.heap.size, 1, none⟩ (.int .i64 c.count)).setCell ⟨W.heap.size, 2, none⟩ (.string (bs c.op))).frozen? ⟨W.heap.size, 3, none⟩ = false) ∧
    (((((u0.setCell ⟨W.heap.size, 0, none⟩ (.int .i64 c.reg)).setCell ⟨W.heap.size, 1, none⟩ (.int .i64 c.count)).setCell ⟨W.heap.size, 2, none⟩ (.string (bs c.op))).setCell ⟨W.heap.size, 3, none⟩ (.string (bs c.key))).cell? ⟨W.heap.size, 4, none⟩ = some (.string ⟨#[]⟩) ∧ ((((u0.setCell ⟨W.heap.size, 0, none⟩ (.int .i64 c.reg)).setCell ⟨W.heap.size, 1, none⟩ (.int .i64 c.count)).setCell ⟨W.heap.size, 2, none⟩ (.string (bs c.op))).setCell ⟨W.heap.size, 3, none⟩ (.string (bs c.key))).frozen? ⟨W.heap.size, 4, none⟩ = false) ∧
    Blk (((((u0.setCell ⟨W.heap.size, 0, none⟩ (.int .i64 c.reg)).setCell ⟨W.heap.size, 1, none⟩ (.int .i64 c.count)).setCell ⟨W.heap.size, 2, none⟩ (.string (bs c.op))).setCell ⟨W.heap.size, 3, none⟩ (.string (bs c.key))).setCell ⟨W.heap.size, 4, none⟩ (.string (bs c.arg))) W.heap.size 24 #[.int .i64 c.reg, .int .i64 c.count, .string (bs c.op), .string (bs c.key), .string (bs c.arg)] ∧ Below W.heap.size W (((((u0.setCell ⟨W.heap.size, 0, none⟩ (.int .i64 c.reg)).setCell ⟨W.heap.size, 1, none⟩ (.int .i64 c.count)).setCell ⟨W.heap.size, 2, none⟩ (.string (bs c.op))).setCell ⟨W.heap.size, 3, none⟩ (.string (bs c.key))).setCell ⟨W.heap.size, 4, none⟩ (.string (bs c.arg))) := by
  subst hu
  have b0 := Blk.new W 24 #[.int .i64 0, .int .i64 0, .string ⟨#[]⟩, .string ⟨#[]⟩, .string ⟨#[]⟩]
  have b1 := b0.set_ 0 (.int .i64 c.reg)
  have b2 := b1.set_ 1 (.int .i64 c.count)
  have b3 := b2.set_ 2 (.string (bs c.op))
  have b4 := b3.set_ 3 (.string (bs c.key))
  have b5 := b4.set_ 4 (.string (bs c.arg))
  exact ⟨⟨b0.cell 0, b0.frozen 0⟩, ⟨b1.cell 1, b1.frozen 1⟩, ⟨b2.cell 2, b2.frozen 2⟩, ⟨b3.cell 3, b3.frozen 3⟩, ⟨b4.cell 4, b4.frozen 4⟩, b5, ((((((Below.refl _ W).alloc (Nat.le_refl _) _).setCell (p := ⟨W.heap.size, 0, none⟩) (Nat.le_refl _) _).setCell (p := ⟨W.heap.size, 1, none⟩) (Nat.le_refl _) _).setCell (p := ⟨W.heap.size, 2, none⟩) (Nat.le_refl _) _).setCell (p := ⟨W.heap.size, 3, none⟩) (Nat.le_refl _) _).setCell (p := ⟨W.heap.size, 4, none⟩) (Nat.le_refl _) _⟩
theorem phr_ans {s : ByteArray} {visual : Bool} {c : Cmd} {n : Int} (hs : s.size ≤ 1000000000000) (h : Phr.ans visual s.data.toList = (c, n)) (w : World) :
    Calls Tryz.prog 5 #[.string s, .bool visual] w fun e w' => e = .returned (.tuple #[.agg #[.int .i64 c.reg, .int .i64 c.count, .string (bs c.op), .string (bs c.key), .string (bs c.arg)], .int .i64 n]) ∧ Below w.heap.size w w' := by
  have := phr_Parse s visual hs w
  rw [h] at this
  exact this
namespace Phr
def ex1 : Cmd := ⟨0, 6, [100], [119], []⟩
def ex2 : Cmd := ⟨97, 0, [121], line, []⟩
theorem ans_ex1 : ans false [50, 100, 51, 119] = (ex1, 2) := by
  have h : Utf.dec [50, 100, 51, 119] = some [[50], [100], [51], [119]] := Utf.dec_of (rs := [[50], [100], [51], [119]]) (by decide)
  rw [ans_ok h (by decide)]
  rfl
theorem ans_ex2 : ans false [34, 97, 121, 121] = (ex2, 2) := by
  have h : Utf.dec [34, 97, 121, 121] = some [[34], [97], [121], [121]] := Utf.dec_of (rs := [[34], [97], [121], [121]]) (by decide)
  rw [ans_ok h (by decide)]
  rfl
end Phr
set_option maxHeartbeats 1000000 in
set_option maxRecDepth 100000 in
theorem phr_lives (w : World) : Calls Tryz.prog 4 #[] w fun e w' => e = .returned (.bool true) ∧ Below w.heap.size w w' := by
  have P1 := Lib.hid (fun w => phr_ans (s := ⟨#[50, 100, 51, 119]⟩) (visual := false) (by decide) Phr.ans_ex1 w)
  have P2 := Lib.hid (fun w => phr_ans (s := ⟨#[34, 97, 121, 121]⟩) (visual := false) (by decide) Phr.ans_ex2 w)
  have E1 : ∀ w, (binOp .eql 24 (.agg #[.int .i64 Phr.ex1.reg, .int .i64 Phr.ex1.count, .string (bs Phr.ex1.op), .string (bs Phr.ex1.key), .string (bs Phr.ex1.arg)]) (.agg #[.int .i64 0, .int .i64 6, .string ⟨#[100]⟩, .string ⟨#[119]⟩, .string ⟨#[]⟩])).run Tryz.prog w = .ok (.bool true) w := fun w => eql_cmd Phr.ex1 Phr.ex1 w
  have E2 : ∀ w, (binOp .eql 24 (.agg #[.int .i64 Phr.ex2.reg, .int .i64 Phr.ex2.count, .string (bs Phr.ex2.op), .string (bs Phr.ex2.key), .string (bs Phr.ex2.arg)]) (.agg #[.int .i64 97, .int .i64 0, .string ⟨#[121]⟩, .string ⟨#[108, 105, 110, 101]⟩, .string ⟨#[]⟩])).run Tryz.prog w = .ok (.bool true) w := fun w => eql_cmd Phr.ex2 Phr.ex2 w
  generalize Phr.ex1 = c at *
  generalize Phr.ex2 = d at *
  go_enter Tryz.func4, Tryz.ntmps4
  go_wp2_with (first
    | (go_at_call 5; refine (P1.out _).mono ?_; rintro e w1 ⟨rfl, hb1⟩; clear P1; generalize hu : w1.alloc (.cells #[.int .i64 0, .int .i64 0, .string ⟨#[]⟩, .string ⟨#[]⟩, .string ⟨#[]⟩] 24) = u0 at *; obtain ⟨⟨ux0, uy0⟩, ⟨ux1, uy1⟩, ⟨ux2, uy2⟩, ⟨ux3, uy3⟩, ⟨ux4, uy4⟩, uB, uW⟩ := Phr.box5 c hu; generalize hu1 : u0.setCell ⟨w1.heap.size, 0, none⟩ (.int .i64 c.reg) = u1 at *; generalize hu2 : u1.setCell ⟨w1.heap.size, 1, none⟩ (.int .i64 c.count) = u2 at *; generalize hu3 : u2.setCell ⟨w1.heap.size, 2, none⟩ (.string (bs c.op)) = u3 at *; generalize hu4 : u3.setCell ⟨w1.heap.size, 3, none⟩ (.string (bs c.key)) = u4 at *; generalize hu5 : u4.setCell ⟨w1.heap.size, 4, none⟩ (.string (bs c.arg)) = u5 at *)
    | (go_at_call 5; refine (P2.out _).mono ?_; rintro e w2 ⟨rfl, hb2⟩; clear P2; generalize hv : w2.alloc (.cells #[.int .i64 0, .int .i64 0, .string ⟨#[]⟩, .string ⟨#[]⟩, .string ⟨#[]⟩] 24) = v0 at *; obtain ⟨⟨vx0, vy0⟩, ⟨vx1, vy1⟩, ⟨vx2, vy2⟩, ⟨vx3, vy3⟩, ⟨vx4, vy4⟩, vB, vW⟩ := Phr.box5 d hv; generalize hv1 : v0.setCell ⟨w2.heap.size, 0, none⟩ (.int .i64 d.reg) = v1 at *; generalize hv2 : v1.setCell ⟨w2.heap.size, 1, none⟩ (.int .i64 d.count) = v2 at *; generalize hv3 : v2.setCell ⟨w2.heap.size, 2, none⟩ (.string (bs d.op)) = v3 at *; generalize hv4 : v3.setCell ⟨w2.heap.size, 3, none⟩ (.string (bs d.key)) = v4 at *; generalize hv5 : v4.setCell ⟨w2.heap.size, 4, none⟩ (.string (bs d.arg)) = v5 at *; have UB := (uB.below hb2 uB.lt).below vW (Nat.lt_of_lt_of_le uB.lt hb2.size); have i0 := UB.cell 0; have i1 := UB.cell 1; have i2 := UB.cell 2; have i3 := UB.cell 3; have i4 := UB.cell 4; have j0 := vB.cell 0; have j1 := vB.cell 1; have j2 := vB.cell 2; have j3 := vB.cell 3; have j4 := vB.cell 4; have WW := ((hb1.trans (uW.mono hb1.size)).trans (hb2.mono (Nat.le_trans hb1.size uW.size))).trans (vW.mono (Nat.le_trans (Nat.le_trans hb1.size uW.size) hb2.size)); simp at i0 i1 i2 i3 i4 j0 j1 j2 j3 j4; clear UB vB uB))
  go_ret
  exact ⟨rfl, WW⟩
end Go.Proofs.YtchpkeelnfmlbaaGreat
