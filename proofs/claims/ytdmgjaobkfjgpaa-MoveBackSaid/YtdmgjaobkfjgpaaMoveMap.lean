/-
  The map of motions: what it holds, and the function that makes it; whether a key is there.
-/
import Derived.Test.YtdmgjaobkfjgpaaMove
import Derived.Maps.OwnSet
namespace Go.Proofs.Ytdmgjaobkfjgpaa
open Go.RowKit
open Go.Maps (Keyed)

/-- How a function lies in the map. -/
def funElem (v : Value) : Option (DataW Unit × List MemPlace) :=
  match v with
  | .func (.func n) a b => if a = #[] ∧ b = #[] then some (.lit (.int .i64 (n : Int)), []) else none
  | .nilFunc => some (.lit (.bool false), [])
  | _ => none
theorem funElem_mk (n : Nat) : funElem (.func (.func n) #[] #[]) = some (.lit (.int .i64 (n : Int)), []) := by simp [funElem]
theorem funElem_nil : funElem .nilFunc = some (.lit (.bool false), []) := rfl
theorem funElem_fun {v : Value} {n : Nat} {p : List MemPlace} (h : funElem v = some (.lit (.int .i64 (n : Int)), p)) : v = .func (.func n) #[] #[] := by
  unfold funElem at h
  split at h
  · rename_i m a b
    split at h
    · rename_i hab
      obtain ⟨rfl, rfl⟩ := hab
      simp only [Option.some.injEq, Prod.mk.injEq, DataW.lit.injEq, Lit.int.injEq, Int.natCast_inj, true_and] at h
      rw [h.1]
    · cases h
  · simp at h
  · cases h
theorem funElem_none {v : Value} {p : List MemPlace} (h : funElem v = some (.lit (.bool false), p)) : v = .nilFunc := by
  unfold funElem at h
  split at h
  · split at h
    · simp at h
    · cases h
  · rfl
  · cases h
theorem keyText' : Keyed Try.prog 9 := Maps.string_keyed Try.underlying9
theorem zeroMotion (w : World) : (zeroValue 33).run Try.prog w = .ok .nilFunc w := by kernel_rfl

/-- The functions. -/
def mfn (m : Nat) : Nat := match m with | 0 => 30 | 1 => 31 | 2 => 32 | 3 => 33 | 4 => 34 | 5 => 35 | 6 => 36 | 7 => 37 | 8 => 38 | _ => 39

def mval (o : Option Nat) : Value := match o with | some m => .func (.func (mfn m)) #[] #[] | none => .nilFunc

/-- What the map holds. -/
def MoveD : DataW Unit := .map [(.string [36], .lit (.int .i64 (mfn 4 : Nat))), (.string [48], .lit (.int .i64 (mfn 2 : Nat))), (.string [71], .lit (.int .i64 (mfn 9 : Nat))), (.string [94], .lit (.int .i64 (mfn 3 : Nat))), (.string [103, 103], .lit (.int .i64 (mfn 8 : Nat))), (.string [104], .lit (.int .i64 (mfn 0 : Nat))), (.string [106], .lit (.int .i64 (mfn 6 : Nat))), (.string [107], .lit (.int .i64 (mfn 7 : Nat))), (.string [108], .lit (.int .i64 (mfn 1 : Nat))), (.string [124], .lit (.int .i64 (mfn 5 : Nat)))]

theorem MoveD_has (l : List UInt8) : Maps.has MoveD (.string l) = (Move.mot l).isSome := by
  rw [Bool.eq_iff_iff]
  simp only [Maps.has, MoveD, List.any_cons, List.any_nil, Lit.sameKey, Bool.or_eq_true, beq_iff_eq, Bool.or_false]
  unfold Move.mot
  constructor
  · rintro (rfl | rfl | rfl | rfl | rfl | rfl | rfl | rfl | rfl | rfl) <;> rfl
  · intro h
    repeat' split at h
    all_goals first | (cases h; done) | (subst_vars; simp)
theorem MoveD_at (l : List UInt8) (z : DataW Unit) : MoveD.atKey (.string l) z = match Move.mot l with | some m => .lit (.int .i64 (mfn m : Nat)) | none => z := by
  cases hm : Move.mot l with
  | some m =>
    have h := Move.mot_tab.1 hm
    unfold Move.tab at h
    simp only [List.mem_cons, Prod.mk.injEq, List.not_mem_nil, or_false] at h
    rcases h with ⟨rfl, rfl⟩ | ⟨rfl, rfl⟩ | ⟨rfl, rfl⟩ | ⟨rfl, rfl⟩ | ⟨rfl, rfl⟩ | ⟨rfl, rfl⟩ | ⟨rfl, rfl⟩ | ⟨rfl, rfl⟩ | ⟨rfl, rfl⟩ | ⟨rfl, rfl⟩ <;> rfl
  | none =>
    have h := MoveD_has l
    rw [hm] at h
    simp only [Maps.has, MoveD, Option.isSome_none] at h
    simp only [MoveD, DataW.atKey]
    rw [List.find?_eq_none.2 (fun x hx hk => by rw [List.any_eq_false] at h; exact h x hx hk)]
/-- Block b is the map of motions. -/
def MoveTbl (w : World) (b : Nat) : Prop := w.ownsMap Try.prog 9 funElem b 10 MoveD
/-- What is looked up in the map. -/
theorem MoveTbl.look {w : World} {b : Nat} (h : MoveTbl w b) {s : ByteArray} (hs : s.size ≤ 9223372036854775807) :
    (Instr.lookup 35 (.map (some b)) (.string s) true).run Try.prog w = .ok (.tuple #[mval (Move.mot s.data.toList), .bool (Move.mot s.data.toList).isSome]) w := by
  obtain ⟨v, ps, hrun, hv⟩ := World.ownsMap.look_ok (t := 35) h keyText' Try.underlying35 (zeroMotion w) funElem_nil (WideMaps.keyOf_string_mk Try.underlying9 (s := s) (by unfold maxLen; omega))
  rw [MoveD_has] at hrun
  rw [MoveD_at] at hv
  have e : v = mval (Move.mot s.data.toList) := by
    cases hn : Move.mot s.data.toList with
    | none => rw [hn] at hv; exact funElem_none hv
    | some m => rw [hn] at hv; exact funElem_fun hv
  rw [← e]
  exact hrun

theorem keyM0 : keyOf Try.prog 9 (.string (bs [104])) = some (.string [104]) := WideMaps.keyOf_string_mk Try.underlying9 (s := bs [104]) (by rw [bs_size]; unfold maxLen; simp)
theorem keyM1 : keyOf Try.prog 9 (.string (bs [108])) = some (.string [108]) := WideMaps.keyOf_string_mk Try.underlying9 (s := bs [108]) (by rw [bs_size]; unfold maxLen; simp)
theorem keyM2 : keyOf Try.prog 9 (.string (bs [48])) = some (.string [48]) := WideMaps.keyOf_string_mk Try.underlying9 (s := bs [48]) (by rw [bs_size]; unfold maxLen; simp)
theorem keyM3 : keyOf Try.prog 9 (.string (bs [94])) = some (.string [94]) := WideMaps.keyOf_string_mk Try.underlying9 (s := bs [94]) (by rw [bs_size]; unfold maxLen; simp)
theorem keyM4 : keyOf Try.prog 9 (.string (bs [36])) = some (.string [36]) := WideMaps.keyOf_string_mk Try.underlying9 (s := bs [36]) (by rw [bs_size]; unfold maxLen; simp)
theorem keyM5 : keyOf Try.prog 9 (.string (bs [124])) = some (.string [124]) := WideMaps.keyOf_string_mk Try.underlying9 (s := bs [124]) (by rw [bs_size]; unfold maxLen; simp)
theorem keyM6 : keyOf Try.prog 9 (.string (bs [106])) = some (.string [106]) := WideMaps.keyOf_string_mk Try.underlying9 (s := bs [106]) (by rw [bs_size]; unfold maxLen; simp)
theorem keyM7 : keyOf Try.prog 9 (.string (bs [107])) = some (.string [107]) := WideMaps.keyOf_string_mk Try.underlying9 (s := bs [107]) (by rw [bs_size]; unfold maxLen; simp)
theorem keyM8 : keyOf Try.prog 9 (.string (bs [103, 103])) = some (.string [103, 103]) := WideMaps.keyOf_string_mk Try.underlying9 (s := bs [103, 103]) (by rw [bs_size]; unfold maxLen; simp)
theorem keyM9 : keyOf Try.prog 9 (.string (bs [71])) = some (.string [71]) := WideMaps.keyOf_string_mk Try.underlying9 (s := bs [71]) (by rw [bs_size]; unfold maxLen; simp)
theorem MoveD_put : DataW.put (DataW.put (DataW.put (DataW.put (DataW.put (DataW.put (DataW.put (DataW.put (DataW.put (DataW.put ((DataW.map [] : DataW Unit)) (.string [104]) (.lit (.int .i64 (mfn 0 : Nat)))) (.string [108]) (.lit (.int .i64 (mfn 1 : Nat)))) (.string [48]) (.lit (.int .i64 (mfn 2 : Nat)))) (.string [94]) (.lit (.int .i64 (mfn 3 : Nat)))) (.string [36]) (.lit (.int .i64 (mfn 4 : Nat)))) (.string [124]) (.lit (.int .i64 (mfn 5 : Nat)))) (.string [106]) (.lit (.int .i64 (mfn 6 : Nat)))) (.string [107]) (.lit (.int .i64 (mfn 7 : Nat)))) (.string [103, 103]) (.lit (.int .i64 (mfn 8 : Nat)))) (.string [71]) (.lit (.int .i64 (mfn 9 : Nat))) = MoveD := by rfl
set_option maxHeartbeats 1000000 in
set_option maxRecDepth 100000 in
theorem move_motions (w : World) :
    Calls Try.prog 15 #[] w fun e w' => e = .returned (.map (some w.heap.size)) ∧ MoveTbl w' w.heap.size ∧ Below w.heap.size w w' := by
  have hmm := @run_makeMap Try.prog
  have O0 := World.ownsMap_made w Try.prog 9 funElem
  have B0 : Below w.heap.size w (w.alloc (.map #[] 0)) := (Below.refl _ w).alloc (Nat.le_refl _) _
  obtain ⟨w1, R1, O1, G1⟩ := O0.update (t := 35) keyText' Try.underlying35 (by unfold maxLen; omega) keyM0 (funElem_mk (mfn 0))
  have B1 : Below w.heap.size w w1 := B0.grown G1 B0.size (fun g hg => by cases hg; exact Nat.le_refl _)
  clear O0 G1
  obtain ⟨w2, R2, O2, G2⟩ := O1.update (t := 35) keyText' Try.underlying35 (by unfold maxLen; omega) keyM1 (funElem_mk (mfn 1))
  have B2 : Below w.heap.size w w2 := B1.grown G2 B1.size (fun g hg => by cases hg; exact Nat.le_refl _)
  clear O1 G2
  obtain ⟨w3, R3, O3, G3⟩ := O2.update (t := 35) keyText' Try.underlying35 (by unfold maxLen; omega) keyM2 (funElem_mk (mfn 2))
  have B3 : Below w.heap.size w w3 := B2.grown G3 B2.size (fun g hg => by cases hg; exact Nat.le_refl _)
  clear O2 G3
  obtain ⟨w4, R4, O4, G4⟩ := O3.update (t := 35) keyText' Try.underlying35 (by unfold maxLen; omega) keyM3 (funElem_mk (mfn 3))
  have B4 : Below w.heap.size w w4 := B3.grown G4 B3.size (fun g hg => by cases hg; exact Nat.le_refl _)
  clear O3 G4
  obtain ⟨w5, R5, O5, G5⟩ := O4.update (t := 35) keyText' Try.underlying35 (by unfold maxLen; omega) keyM4 (funElem_mk (mfn 4))
  have B5 : Below w.heap.size w w5 := B4.grown G5 B4.size (fun g hg => by cases hg; exact Nat.le_refl _)
  clear O4 G5
  obtain ⟨w6, R6, O6, G6⟩ := O5.update (t := 35) keyText' Try.underlying35 (by unfold maxLen; omega) keyM5 (funElem_mk (mfn 5))
  have B6 : Below w.heap.size w w6 := B5.grown G6 B5.size (fun g hg => by cases hg; exact Nat.le_refl _)
  clear O5 G6
  obtain ⟨w7, R7, O7, G7⟩ := O6.update (t := 35) keyText' Try.underlying35 (by unfold maxLen; omega) keyM6 (funElem_mk (mfn 6))
  have B7 : Below w.heap.size w w7 := B6.grown G7 B6.size (fun g hg => by cases hg; exact Nat.le_refl _)
  clear O6 G7
  obtain ⟨w8, R8, O8, G8⟩ := O7.update (t := 35) keyText' Try.underlying35 (by unfold maxLen; omega) keyM7 (funElem_mk (mfn 7))
  have B8 : Below w.heap.size w w8 := B7.grown G8 B7.size (fun g hg => by cases hg; exact Nat.le_refl _)
  clear O7 G8
  obtain ⟨w9, R9, O9, G9⟩ := O8.update (t := 35) keyText' Try.underlying35 (by unfold maxLen; omega) keyM8 (funElem_mk (mfn 8))
  have B9 : Below w.heap.size w w9 := B8.grown G9 B8.size (fun g hg => by cases hg; exact Nat.le_refl _)
  clear O8 G9
  obtain ⟨w10, R10, O10, G10⟩ := O9.update (t := 35) keyText' Try.underlying35 (by unfold maxLen; omega) keyM9 (funElem_mk (mfn 9))
  have B10 : Below w.heap.size w w10 := B9.grown G10 B9.size (fun g hg => by cases hg; exact Nat.le_refl _)
  clear O9 G10
  go_enter Try.func15, Try.ntmps15
  simp only [bs, mfn] at R1 R2 R3 R4 R5 R6 R7 R8 R9 R10
  go_wp2
  go_ret
  exact ⟨rfl, by unfold MoveTbl; rw [← MoveD_put]; exact O10, B10⟩
set_option maxRecDepth 100000 in
theorem move_Has (key : ByteArray) (hs : key.size ≤ 9223372036854775807) (w : World) :
    Calls Try.prog 10 #[.string key] w fun e w' => e = .returned (.bool (Move.mot key.data.toList).isSome) ∧ Below w.heap.size w w' := by
  have LK := Lib.hid (fun (w1 : World) (h : MoveTbl w1 w.heap.size) => h.look hs)
  generalize Move.mot key.data.toList = o at *
  go_enter Try.func10, Try.ntmps10
  go_wp2_with (go_at_call 15; refine (move_motions _).mono ?_; rintro e w1 ⟨rfl, ht, hb⟩; have hlk := LK.out w1 ht)
  go_ret
  exact ⟨rfl, hb⟩
end Go.Proofs.Ytdmgjaobkfjgpaa
