/-
  The map of kinds: what it holds, and the function that makes it; whether a key is there.
-/
import Derived.Test.YtchpkeelnfmlbaaThing
import Derived.RangeFuncBox
import Derived.Maps.OwnSet
namespace Go.Proofs.Ytchpkeelnfmlbaa
open Go.RowKit
open Go.Maps (Keyed)
open Go.MapKept Go.ChangeMaps

/-- How a function lies in the map: alone, or with a box that it has captured. -/
def fnElem (v : Value) : Option (DataW Unit × List MemPlace) :=
  match v with
  | .func (.func n) ⟨[]⟩ ⟨[]⟩ => some (.lit (.int .i64 (n : Int)), [])
  | .func (.func n) ⟨[]⟩ ⟨[.pointer (some ⟨g, 0, none⟩)]⟩ => some (.agg [.lit (.int .i64 (n : Int)), .lit (.int .i64 (g : Int))], [])
  | .nilFunc => some (.lit (.bool false), [])
  | _ => none
theorem fnElem_mk (n : Nat) : fnElem (.func (.func n) #[] #[]) = some (.lit (.int .i64 (n : Int)), []) := rfl
theorem fnElem_box (n g : Nat) : fnElem (.func (.func n) #[] #[.pointer (some ⟨g, 0, none⟩)]) = some (.agg [.lit (.int .i64 (n : Int)), .lit (.int .i64 (g : Int))], []) := rfl
theorem fnElem_nil : fnElem .nilFunc = some (.lit (.bool false), []) := rfl
theorem fnElem_fun {v : Value} {n : Nat} {p : List MemPlace} (h : fnElem v = some (.lit (.int .i64 (n : Int)), p)) : v = .func (.func n) #[] #[] := by
  unfold fnElem at h
  split at h
  · simp only [Option.some.injEq, Prod.mk.injEq, DataW.lit.injEq, Lit.int.injEq, Int.natCast_inj, true_and] at h
    rw [h.1]
  · simp at h
  · simp at h
  · cases h
theorem fnElem_boxed {v : Value} {n g : Nat} {p : List MemPlace} (h : fnElem v = some (.agg [.lit (.int .i64 (n : Int)), .lit (.int .i64 (g : Int))], p)) : v = .func (.func n) #[] #[.pointer (some ⟨g, 0, none⟩)] := by
  unfold fnElem at h
  split at h
  · simp at h
  · simp only [Option.some.injEq, Prod.mk.injEq, DataW.agg.injEq, List.cons.injEq, DataW.lit.injEq, Lit.int.injEq, Int.natCast_inj, true_and, and_true] at h
    rw [h.1.1, h.1.2]
  · simp at h
  · cases h
theorem fnElem_none {v : Value} {p : List MemPlace} (h : fnElem v = some (.lit (.bool false), p)) : v = .nilFunc := by
  unfold fnElem at h
  split at h
  · simp at h
  · simp at h
  · rfl
  · cases h
theorem keyText' : Keyed Try.prog 9 := Maps.string_keyed Try.underlying9
theorem zeroFinder (w : World) : (zeroValue 54).run Try.prog w = .ok .nilFunc w := by kernel_rfl

/-- The functions. -/
def tfn (m : Nat) : Nat := match m with | 0 => 47 | 1 => 47 | 2 => 50 | 3 => 50 | 4 => 50 | 5 => 50 | 6 => 53 | 7 => 53 | _ => 53
/-- What each has captured. -/
def tcap (m : Nat) : TypeId × Value := match m with | 0 => (4, .bool false) | 1 => (4, .bool true) | 2 => (9, .string ⟨#[40]⟩) | 3 => (9, .string ⟨#[91]⟩) | 4 => (9, .string ⟨#[123]⟩) | 5 => (9, .string ⟨#[60]⟩) | 6 => (5, .int .u8 34) | 7 => (5, .int .u8 39) | _ => (5, .int .u8 96)
/-- The function of the jth kind, in the map that lies in block b. -/
def tval (b : Nat) (o : Option Nat) : Value := match o with | some j => if j = 15 then .func (.func 45) #[] #[] else .func (.func (tfn (Thing.cls j))) #[] #[.pointer (some ⟨b + 1 + j, 0, none⟩)] | none => .nilFunc
/-- Its datum. -/
def tdat (b j : Nat) : DataW Unit := if j = 15 then .lit (.int .i64 (45 : Nat)) else .agg [.lit (.int .i64 (tfn (Thing.cls j) : Nat)), .lit (.int .i64 ((b + 1 + j : Nat) : Int))]
theorem tdat_val {b j : Nat} {v : Value} {p : List MemPlace} (h : fnElem v = some (tdat b j, p)) : v = tval b (some j) := by
  unfold tdat at h
  unfold tval
  split at h
  · rename_i hj; rw [fnElem_fun h]; exact (if_pos hj).symm
  · rename_i hj; rw [fnElem_boxed h]; exact (if_neg hj).symm
/-- What the map holds. -/
def ThingD (b : Nat) : DataW Unit := .map [(.string [34], tdat b 12), (.string [39], tdat b 13), (.string [40], tdat b 2), (.string [41], tdat b 3), (.string [60], tdat b 10), (.string [62], tdat b 11), (.string [66], tdat b 9), (.string [87], tdat b 1), (.string [91], tdat b 5), (.string [93], tdat b 6), (.string [96], tdat b 14), (.string [98], tdat b 4), (.string [112], tdat b 15), (.string [119], tdat b 0), (.string [123], tdat b 7), (.string [125], tdat b 8)]

theorem ThingD_has (b : Nat) (l : List UInt8) : Maps.has (ThingD b) (.string l) = (Thing.num l).isSome := by
  rw [Bool.eq_iff_iff]
  simp only [Maps.has, ThingD, List.any_cons, List.any_nil, Lit.sameKey, Bool.or_eq_true, beq_iff_eq, Bool.or_false]
  constructor
  · rintro (rfl | rfl | rfl | rfl | rfl | rfl | rfl | rfl | rfl | rfl | rfl | rfl | rfl | rfl | rfl | rfl) <;> rfl
  · intro h
    obtain ⟨m, hm⟩ := Option.isSome_iff_exists.1 h
    have h := Thing.num_tab.1 hm
    unfold Thing.tab at h
    simp only [List.mem_cons, Prod.mk.injEq, List.not_mem_nil, or_false] at h
    rcases h with ⟨rfl, _⟩ | ⟨rfl, _⟩ | ⟨rfl, _⟩ | ⟨rfl, _⟩ | ⟨rfl, _⟩ | ⟨rfl, _⟩ | ⟨rfl, _⟩ | ⟨rfl, _⟩ | ⟨rfl, _⟩ | ⟨rfl, _⟩ | ⟨rfl, _⟩ | ⟨rfl, _⟩ | ⟨rfl, _⟩ | ⟨rfl, _⟩ | ⟨rfl, _⟩ | ⟨rfl, _⟩ <;> simp
theorem ThingD_at (b : Nat) (l : List UInt8) (z : DataW Unit) : (ThingD b).atKey (.string l) z = match Thing.num l with | some j => tdat b j | none => z := by
  cases hm : Thing.num l with
  | some m =>
    have h := Thing.num_tab.1 hm
    unfold Thing.tab at h
    simp only [List.mem_cons, Prod.mk.injEq, List.not_mem_nil, or_false] at h
    rcases h with ⟨rfl, rfl⟩ | ⟨rfl, rfl⟩ | ⟨rfl, rfl⟩ | ⟨rfl, rfl⟩ | ⟨rfl, rfl⟩ | ⟨rfl, rfl⟩ | ⟨rfl, rfl⟩ | ⟨rfl, rfl⟩ | ⟨rfl, rfl⟩ | ⟨rfl, rfl⟩ | ⟨rfl, rfl⟩ | ⟨rfl, rfl⟩ | ⟨rfl, rfl⟩ | ⟨rfl, rfl⟩ | ⟨rfl, rfl⟩ | ⟨rfl, rfl⟩ <;> rfl
  | none =>
    have h := ThingD_has b l
    rw [hm] at h
    simp only [Maps.has, ThingD, Option.isSome_none] at h
    simp only [ThingD, DataW.atKey]
    rw [List.find?_eq_none.2 (fun x hx hk => by rw [List.any_eq_false] at h; exact h x hx hk)]
/-- Block b is the map of kinds, the boxes of its functions behind it. -/
def ThingTbl (w : World) (b : Nat) : Prop := w.ownsMap Try.prog 9 fnElem b 16 (ThingD b) ∧ ∀ j, j < 15 → Boxed w (b + 1 + j) (tcap (Thing.cls j)).1 (tcap (Thing.cls j)).2
/-- What is looked up in the map. -/
theorem ThingTbl.look {w : World} {b : Nat} (h : ThingTbl w b) {s : ByteArray} (hs : s.size ≤ 9223372036854775807) :
    (Instr.lookup 56 (.map (some b)) (.string s) true).run Try.prog w = .ok (.tuple #[tval b (Thing.num s.data.toList), .bool (Thing.num s.data.toList).isSome]) w := by
  obtain ⟨v, ps, hrun, hv⟩ := World.ownsMap.look_ok (t := 56) h.1 keyText' Try.underlying56 (zeroFinder w) fnElem_nil (WideMaps.keyOf_string_mk Try.underlying9 (s := s) (by unfold maxLen; omega))
  rw [ThingD_has] at hrun
  rw [ThingD_at] at hv
  have e : v = tval b (Thing.num s.data.toList) := by
    cases hn : Thing.num s.data.toList with
    | none => rw [hn] at hv; exact fnElem_none hv
    | some m => rw [hn] at hv; exact tdat_val hv
  rw [← e]
  exact hrun

theorem thing_word (big : Bool) (w : World) :
    Calls Try.prog 42 #[.bool big] w fun e w' => e = .returned (.func (.func 47) #[] #[.pointer (some ⟨w.heap.size, 0, none⟩)]) ∧ w' = w.alloc (.cells #[.bool big] 4) := by
  go_enter Try.func42, Try.ntmps42
  go_wp2
  go_ret
  exact ⟨rfl, rfl⟩
theorem thing_bracket (s : ByteArray) (w : World) :
    Calls Try.prog 43 #[.string s] w fun e w' => e = .returned (.func (.func 50) #[] #[.pointer (some ⟨w.heap.size, 0, none⟩)]) ∧ w' = w.alloc (.cells #[.string s] 9) := by
  go_enter Try.func43, Try.ntmps43
  go_wp2
  go_ret
  exact ⟨rfl, rfl⟩
theorem thing_quote (q : Int) (w : World) :
    Calls Try.prog 44 #[.int .u8 q] w fun e w' => e = .returned (.func (.func 53) #[] #[.pointer (some ⟨w.heap.size, 0, none⟩)]) ∧ w' = w.alloc (.cells #[.int .u8 q] 5) := by
  go_enter Try.func44, Try.ntmps44
  go_wp2
  go_ret
  exact ⟨rfl, rfl⟩
theorem keyT0 : keyOf Try.prog 9 (.string ⟨#[119]⟩) = some (.string [119]) := WideMaps.keyOf_string_mk Try.underlying9 (s := ⟨#[119]⟩) (by unfold maxLen; decide)
theorem keyT1 : keyOf Try.prog 9 (.string ⟨#[87]⟩) = some (.string [87]) := WideMaps.keyOf_string_mk Try.underlying9 (s := ⟨#[87]⟩) (by unfold maxLen; decide)
theorem keyT2 : keyOf Try.prog 9 (.string ⟨#[40]⟩) = some (.string [40]) := WideMaps.keyOf_string_mk Try.underlying9 (s := ⟨#[40]⟩) (by unfold maxLen; decide)
theorem keyT3 : keyOf Try.prog 9 (.string ⟨#[41]⟩) = some (.string [41]) := WideMaps.keyOf_string_mk Try.underlying9 (s := ⟨#[41]⟩) (by unfold maxLen; decide)
theorem keyT4 : keyOf Try.prog 9 (.string ⟨#[98]⟩) = some (.string [98]) := WideMaps.keyOf_string_mk Try.underlying9 (s := ⟨#[98]⟩) (by unfold maxLen; decide)
theorem keyT5 : keyOf Try.prog 9 (.string ⟨#[91]⟩) = some (.string [91]) := WideMaps.keyOf_string_mk Try.underlying9 (s := ⟨#[91]⟩) (by unfold maxLen; decide)
theorem keyT6 : keyOf Try.prog 9 (.string ⟨#[93]⟩) = some (.string [93]) := WideMaps.keyOf_string_mk Try.underlying9 (s := ⟨#[93]⟩) (by unfold maxLen; decide)
theorem keyT7 : keyOf Try.prog 9 (.string ⟨#[123]⟩) = some (.string [123]) := WideMaps.keyOf_string_mk Try.underlying9 (s := ⟨#[123]⟩) (by unfold maxLen; decide)
theorem keyT8 : keyOf Try.prog 9 (.string ⟨#[125]⟩) = some (.string [125]) := WideMaps.keyOf_string_mk Try.underlying9 (s := ⟨#[125]⟩) (by unfold maxLen; decide)
theorem keyT9 : keyOf Try.prog 9 (.string ⟨#[66]⟩) = some (.string [66]) := WideMaps.keyOf_string_mk Try.underlying9 (s := ⟨#[66]⟩) (by unfold maxLen; decide)
theorem keyT10 : keyOf Try.prog 9 (.string ⟨#[60]⟩) = some (.string [60]) := WideMaps.keyOf_string_mk Try.underlying9 (s := ⟨#[60]⟩) (by unfold maxLen; decide)
theorem keyT11 : keyOf Try.prog 9 (.string ⟨#[62]⟩) = some (.string [62]) := WideMaps.keyOf_string_mk Try.underlying9 (s := ⟨#[62]⟩) (by unfold maxLen; decide)
theorem keyT12 : keyOf Try.prog 9 (.string ⟨#[34]⟩) = some (.string [34]) := WideMaps.keyOf_string_mk Try.underlying9 (s := ⟨#[34]⟩) (by unfold maxLen; decide)
theorem keyT13 : keyOf Try.prog 9 (.string ⟨#[39]⟩) = some (.string [39]) := WideMaps.keyOf_string_mk Try.underlying9 (s := ⟨#[39]⟩) (by unfold maxLen; decide)
theorem keyT14 : keyOf Try.prog 9 (.string ⟨#[96]⟩) = some (.string [96]) := WideMaps.keyOf_string_mk Try.underlying9 (s := ⟨#[96]⟩) (by unfold maxLen; decide)
theorem keyT15 : keyOf Try.prog 9 (.string ⟨#[112]⟩) = some (.string [112]) := WideMaps.keyOf_string_mk Try.underlying9 (s := ⟨#[112]⟩) (by unfold maxLen; decide)
theorem ThingD_put (b : Nat) : DataW.put (DataW.put (DataW.put (DataW.put (DataW.put (DataW.put (DataW.put (DataW.put (DataW.put (DataW.put (DataW.put (DataW.put (DataW.put (DataW.put (DataW.put (DataW.put ((DataW.map [] : DataW Unit)) (.string [119]) (tdat b 0)) (.string [87]) (tdat b 1)) (.string [40]) (tdat b 2)) (.string [41]) (tdat b 3)) (.string [98]) (tdat b 4)) (.string [91]) (tdat b 5)) (.string [93]) (tdat b 6)) (.string [123]) (tdat b 7)) (.string [125]) (tdat b 8)) (.string [66]) (tdat b 9)) (.string [60]) (tdat b 10)) (.string [62]) (tdat b 11)) (.string [34]) (tdat b 12)) (.string [39]) (tdat b 13)) (.string [96]) (tdat b 14)) (.string [112]) (tdat b 15) = ThingD b := by kernel_rfl
/-- The box of the jth function, and it laid into the map. -/
theorem thing_step {w u : World} {b j n : Nat} {D : DataW Unit} {key : Value} {kl : Lit} {fn : Nat} {t : TypeId} {v : Value} (hj : j < 15) (hb : b = w.heap.size) (hO : u.ownsMap Try.prog 9 fnElem b n D) (hn : n ≤ 16) (hB : Below w.heap.size w u) (hs : u.heap.size = b + 1 + j)
    (hX : ∀ i, i < j → Boxed u (b + 1 + i) (tcap (Thing.cls i)).1 (tcap (Thing.cls i)).2) (hk : keyOf Try.prog 9 key = some kl) (hf : tfn (Thing.cls j) = fn) (hc : tcap (Thing.cls j) = (t, v)) :
    ∃ u', (Instr.mapUpdate 56 (.map (some b)) key (.func (.func fn) #[] #[.pointer (some ⟨u.heap.size, 0, none⟩)])).run Try.prog (u.alloc (.cells #[v] t)) = .ok () u' ∧ u'.ownsMap Try.prog 9 fnElem b (n + 1) (D.put kl (tdat b j)) ∧ Below w.heap.size w u' ∧ u'.heap.size = b + 1 + (j + 1)
      ∧ ∀ i, i < j + 1 → Boxed u' (b + 1 + i) (tcap (Thing.cls i)).1 (tcap (Thing.cls i)).2 := by
  have hO1 := hO.alloc (.cells #[v] t)
  have hd : tdat b j = .agg [.lit (.int .i64 (fn : Nat)), .lit (.int .i64 ((u.heap.size : Nat) : Int))] := by rw [tdat, if_neg (by omega), hf, hs]
  obtain ⟨u', hr, hO2, hM⟩ := hO1.store (t := 56) keyText' Try.underlying56 (by unfold maxLen; omega) hk (show fnElem (.func (.func fn) #[] #[.pointer (some ⟨u.heap.size, 0, none⟩)]) = some (tdat b j, []) by rw [hd]; exact fnElem_box fn u.heap.size)
  obtain ⟨es, clock, es', clock', hm, rfl⟩ := hM
  have hsz : (setBlock (u.alloc (.cells #[v] t)) b (.map es' clock')).heap.size = b + 1 + (j + 1) := by simp [setBlock]; omega
  refine ⟨_, hr, hO2, ?_, hsz, ?_⟩
  · have hB1 := hB.alloc hB.size (.cells #[v] t)
    exact hB1.grown (row := some b) ⟨rfl, rfl, rfl, by simp [setBlock], fun i _ hi => heap_setBlock_other hm _ (fun e => hi (by rw [e]))⟩ hB1.size (fun g hg => by cases hg; omega)
  · intro i hi
    have hg : (u.alloc (.cells #[v] t)).grownBy (setBlock (u.alloc (.cells #[v] t)) b (.map es' clock')) (some b) := ⟨rfl, rfl, rfl, by simp [setBlock], fun i _ hi => heap_setBlock_other hm _ (fun e => hi (by rw [e]))⟩
    refine Boxed.kept ?_ hg (fun e => by injection e with e; omega)
    rcases Nat.lt_or_ge i j with h | h
    · exact (hX i h).alloc _
    · obtain rfl : i = j := by omega
      rw [hc, ← hs]
      exact Boxed.new u t v
set_option maxHeartbeats 2000000 in
set_option maxRecDepth 100000 in
theorem thing_kinds (w : World) :
    Calls Try.prog 39 #[] w fun e w' => e = .returned (.map (some w.heap.size)) ∧ ThingTbl w' w.heap.size ∧ Below w.heap.size w w' := by
  have hmm := @run_makeMap Try.prog
  have O0 := World.ownsMap_made w Try.prog 9 fnElem
  have B0 : Below w.heap.size w (w.alloc (.map #[] 0)) := (Below.refl _ w).alloc (Nat.le_refl _) _
  have S0 : (w.alloc (.map #[] 0)).heap.size = w.heap.size + 1 + 0 := by simp
  have X0 : ∀ i, i < 0 → Boxed (w.alloc (.map #[] 0)) (w.heap.size + 1 + i) (tcap (Thing.cls i)).1 (tcap (Thing.cls i)).2 := fun i hi => absurd hi (Nat.not_lt_zero _)
  obtain ⟨w1, R1, O1, B1, S1, X1⟩ := thing_step (j := 0) (fn := 47) (t := 4) (v := .bool false) (by omega) rfl O0 (by omega) B0 S0 X0 keyT0 rfl rfl
  simp only [World.size_alloc] at R1
  clear O0 B0 S0 X0
  obtain ⟨w2, R2, O2, B2, S2, X2⟩ := thing_step (j := 1) (fn := 47) (t := 4) (v := .bool true) (by omega) rfl O1 (by omega) B1 S1 X1 keyT1 rfl rfl
  clear O1 B1 S1 X1
  obtain ⟨w3, R3, O3, B3, S3, X3⟩ := thing_step (j := 2) (fn := 50) (t := 9) (v := .string ⟨#[40]⟩) (by omega) rfl O2 (by omega) B2 S2 X2 keyT2 rfl rfl
  clear O2 B2 S2 X2
  obtain ⟨w4, R4, O4, B4, S4, X4⟩ := thing_step (j := 3) (fn := 50) (t := 9) (v := .string ⟨#[40]⟩) (by omega) rfl O3 (by omega) B3 S3 X3 keyT3 rfl rfl
  clear O3 B3 S3 X3
  obtain ⟨w5, R5, O5, B5, S5, X5⟩ := thing_step (j := 4) (fn := 50) (t := 9) (v := .string ⟨#[40]⟩) (by omega) rfl O4 (by omega) B4 S4 X4 keyT4 rfl rfl
  clear O4 B4 S4 X4
  obtain ⟨w6, R6, O6, B6, S6, X6⟩ := thing_step (j := 5) (fn := 50) (t := 9) (v := .string ⟨#[91]⟩) (by omega) rfl O5 (by omega) B5 S5 X5 keyT5 rfl rfl
  clear O5 B5 S5 X5
  obtain ⟨w7, R7, O7, B7, S7, X7⟩ := thing_step (j := 6) (fn := 50) (t := 9) (v := .string ⟨#[91]⟩) (by omega) rfl O6 (by omega) B6 S6 X6 keyT6 rfl rfl
  clear O6 B6 S6 X6
  obtain ⟨w8, R8, O8, B8, S8, X8⟩ := thing_step (j := 7) (fn := 50) (t := 9) (v := .string ⟨#[123]⟩) (by omega) rfl O7 (by omega) B7 S7 X7 keyT7 rfl rfl
  clear O7 B7 S7 X7
  obtain ⟨w9, R9, O9, B9, S9, X9⟩ := thing_step (j := 8) (fn := 50) (t := 9) (v := .string ⟨#[123]⟩) (by omega) rfl O8 (by omega) B8 S8 X8 keyT8 rfl rfl
  clear O8 B8 S8 X8
  obtain ⟨w10, R10, O10, B10, S10, X10⟩ := thing_step (j := 9) (fn := 50) (t := 9) (v := .string ⟨#[123]⟩) (by omega) rfl O9 (by omega) B9 S9 X9 keyT9 rfl rfl
  clear O9 B9 S9 X9
  obtain ⟨w11, R11, O11, B11, S11, X11⟩ := thing_step (j := 10) (fn := 50) (t := 9) (v := .string ⟨#[60]⟩) (by omega) rfl O10 (by omega) B10 S10 X10 keyT10 rfl rfl
  clear O10 B10 S10 X10
  obtain ⟨w12, R12, O12, B12, S12, X12⟩ := thing_step (j := 11) (fn := 50) (t := 9) (v := .string ⟨#[60]⟩) (by omega) rfl O11 (by omega) B11 S11 X11 keyT11 rfl rfl
  clear O11 B11 S11 X11
  obtain ⟨w13, R13, O13, B13, S13, X13⟩ := thing_step (j := 12) (fn := 53) (t := 5) (v := .int .u8 34) (by omega) rfl O12 (by omega) B12 S12 X12 keyT12 rfl rfl
  clear O12 B12 S12 X12
  obtain ⟨w14, R14, O14, B14, S14, X14⟩ := thing_step (j := 13) (fn := 53) (t := 5) (v := .int .u8 39) (by omega) rfl O13 (by omega) B13 S13 X13 keyT13 rfl rfl
  clear O13 B13 S13 X13
  obtain ⟨w15, R15, O15, B15, S15, X15⟩ := thing_step (j := 14) (fn := 53) (t := 5) (v := .int .u8 96) (by omega) rfl O14 (by omega) B14 S14 X14 keyT14 rfl rfl
  clear O14 B14 S14 X14
  obtain ⟨w16, R16, O16, G16⟩ := O15.update (t := 56) keyText' Try.underlying56 (by unfold maxLen; omega) keyT15 (show fnElem (.func (.func 45) #[] #[]) = some (tdat w.heap.size 15, []) from rfl)
  have B16 : Below w.heap.size w w16 := B15.grown G16 B15.size (fun g hg => by cases hg; exact Nat.le_refl _)
  have H := Lib.hid (show ThingTbl w16 w.heap.size ∧ Below w.heap.size w w16 from ⟨⟨by rw [← ThingD_put]; exact O16, fun j hj => (X15 j hj).kept G16 (fun e => by injection e with e; omega)⟩, B16⟩)
  clear O15 B15 S15 X15 O16 G16 B16
  have CW := Lib.hid @thing_word
  have CB := Lib.hid @thing_bracket
  have CQ := Lib.hid @thing_quote
  go_enter Try.func39, Try.ntmps39
  go_wp2_with (first
    | (go_at_call 42; refine (CW.out _ _).mono ?_; rintro e u ⟨rfl, rfl⟩)
    | (go_at_call 43; refine (CB.out _ _).mono ?_; rintro e u ⟨rfl, rfl⟩)
    | (go_at_call 44; refine (CQ.out _ _).mono ?_; rintro e u ⟨rfl, rfl⟩))
  go_ret
  exact ⟨rfl, H.out.1, H.out.2⟩
set_option maxRecDepth 100000 in
theorem thing_Has (key : ByteArray) (hs : key.size ≤ 9223372036854775807) (w : World) :
    Calls Try.prog 36 #[.string key] w fun e w' => e = .returned (.bool (Thing.num key.data.toList).isSome) ∧ Below w.heap.size w w' := by
  have LK := Lib.hid (fun (w1 : World) (h : ThingTbl w1 w.heap.size) => h.look hs)
  generalize Thing.num key.data.toList = o at *
  go_enter Try.func36, Try.ntmps36
  go_wp2_with (go_at_call 39; refine (thing_kinds _).mono ?_; rintro e w1 ⟨rfl, ht, hb⟩; have hlk := LK.out w1 ht)
  go_ret
  exact ⟨rfl, hb⟩
end Go.Proofs.Ytchpkeelnfmlbaa
