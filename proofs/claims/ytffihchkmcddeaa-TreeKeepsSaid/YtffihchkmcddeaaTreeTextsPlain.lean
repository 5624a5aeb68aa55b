/-
  The text at each node, without a program.
-/
import Derived.Test.YtffihchkmcddeaaTreeOn
import Derived.Test.YtffihchkmcddeaaChangeDo
import Derived.Test.YtffihchkmcddeaaStrsOwn
namespace Go.Proofs.Ytffihchkmcddeaa
open Go.RowKit
open Tre
namespace Tre
def made (x : Nd) : Cg := ⟨x.at_, x.old, x.new⟩
def turned (x : Nd) : Cg := ⟨x.at_, x.new, x.old⟩
def upd (T : Nat → List UInt8) (i : Nat) (v : List UInt8) : Nat → List UInt8 := fun j => if j = i then v else T j
/-- The texts on the way up. -/
def upT (l : List Nd) (T : Nat → List UInt8) (k : Nat) : (Nat → List UInt8) × Int :=
  if _h : 0 < k ∧ abv l k < k then
    match l[k]? with
    | some x => if (does [turned x] (T k)).2 = 0 then upT l (upd T (abv l k) (does [turned x] (T k)).1) (abv l k) else (T, (does [turned x] (T k)).2)
    | none => (T, 0)
  else (T, 0)
  termination_by k
  decreasing_by omega
/-- The texts at the other nodes. -/
def dnT (l : List Nd) (c : Nat) : List Nat → (Nat → List UInt8) → (Nat → List UInt8) × Int
  | [], T => (T, 0)
  | k :: r, T => if on l k c = true then dnT l c r T else
    match l[k]? with
    | some x => if (does [made x] (T (abv l k))).2 = 0 then dnT l c r (upd T k (does [made x] (T (abv l k))).1) else (T, (does [made x] (T (abv l k))).2)
    | none => (T, 0)
/-- The text at each node, and the error. -/
noncomputable def texts (l : List Nd) (cur : Int) (s : List UInt8) : List (List UInt8) × Int :=
  if ¬ Right l cur then ([], 1) else
    if (upT l (upd (fun _ => []) cur.toNat s) cur.toNat).2 = 0 then
      if (dnT l cur.toNat (List.range l.length) (upT l (upd (fun _ => []) cur.toNat s) cur.toNat).1).2 = 0 then ((List.range l.length).map (dnT l cur.toNat (List.range l.length) (upT l (upd (fun _ => []) cur.toNat s) cur.toNat).1).1, 0)
      else ([], (dnT l cur.toNat (List.range l.length) (upT l (upd (fun _ => []) cur.toNat s) cur.toNat).1).2)
    else ([], (upT l (upd (fun _ => []) cur.toNat s) cur.toNat).2)
variable {l : List Nd} {T : Nat → List UInt8} {k c : Nat} {x : Nd}
theorem upT_zero (l : List Nd) (T : Nat → List UInt8) : upT l T 0 = (T, 0) := by rw [upT, dif_neg (by omega)]
theorem upT_ok (hx : l[k]? = some x) (h0 : 0 < k) (ha : abv l k < k) (hr : (does [turned x] (T k)).2 = 0) : upT l T k = upT l (upd T (abv l k) (does [turned x] (T k)).1) (abv l k) := by
  rw [upT, dif_pos ⟨h0, ha⟩, hx]
  show (if _ then _ else _) = _
  rw [if_pos hr]
theorem upT_bad (hx : l[k]? = some x) (h0 : 0 < k) (ha : abv l k < k) (hr : ¬ (does [turned x] (T k)).2 = 0) : upT l T k = (T, (does [turned x] (T k)).2) := by
  rw [upT, dif_pos ⟨h0, ha⟩, hx]
  show (if _ then _ else _) = _
  rw [if_neg hr]
theorem range_cut {n k : Nat} (h : k < n) : (List.range n).drop k = k :: (List.range n).drop (k + 1) := by
  rw [List.drop_eq_getElem_cons (by simpa using h), List.getElem_range]
theorem dnT_on (h : k < l.length) (ho : on l k c = true) : dnT l c ((List.range l.length).drop k) T = dnT l c ((List.range l.length).drop (k + 1)) T := by
  rw [range_cut h]
  show (if _ then _ else _) = _
  rw [if_pos ho]
theorem dnT_ok (hx : l[k]? = some x) (ho : on l k c = false) (hr : (does [made x] (T (abv l k))).2 = 0) : dnT l c ((List.range l.length).drop k) T = dnT l c ((List.range l.length).drop (k + 1)) (upd T k (does [made x] (T (abv l k))).1) := by
  rw [range_cut (List.getElem?_eq_some_iff.1 hx).1]
  show (if _ then _ else _) = _
  rw [if_neg (by rw [ho]; exact Bool.false_ne_true), hx]
  show (if _ then _ else _) = _
  rw [if_pos hr]
theorem dnT_bad (hx : l[k]? = some x) (ho : on l k c = false) (hr : ¬ (does [made x] (T (abv l k))).2 = 0) : dnT l c ((List.range l.length).drop k) T = (T, (does [made x] (T (abv l k))).2) := by
  rw [range_cut (List.getElem?_eq_some_iff.1 hx).1]
  show (if _ then _ else _) = _
  rw [if_neg (by rw [ho]; exact Bool.false_ne_true), hx]
  show (if _ then _ else _) = _
  rw [if_neg hr]
theorem dnT_end (h : l.length ≤ k) : dnT l c ((List.range l.length).drop k) T = (T, 0) := by
  rw [List.drop_eq_nil_of_le (by simpa using h)]
  rfl
theorem does_len (y : Cg) (t : List UInt8) : (does [y] t).1.length ≤ 4096 := by
  unfold does
  split
  · split
    · simp
    · rename_i h
      exact Nat.le_of_not_lt h
  · simp
theorem on_above (hU : Ups l l.length) {q : Nat} (hq : 0 < q) : ∀ {c : Nat}, c < l.length → on l q c = true → on l (abv l q) c = true := by
  intro c
  induction c using Nat.strongRecOn with
  | ind c ih =>
    intro hc h
    have hqc := on_le h
    have ha := hU.abv_lt hq (by omega)
    rcases Nat.lt_or_ge q c with hlt | hge
    · have hb := hU.abv_lt (k := c) (by omega) hc
      rw [on_up hlt hb] at h
      rw [on_up (by omega) hb]
      exact ih _ hb (by omega) h
    · obtain rfl : q = c := by omega
      rw [on_up ha ha, on_self]
theorem known_step (hU : Ups l l.length) {q : Nat} (hq : 0 < q) (hc : c < l.length) (ho : on l q c = true) (j : Nat) : (if j = abv l q then true else (on l j c && decide (q ≤ j))) = (on l j c && decide (abv l q ≤ j)) := by
  have hqc := on_le ho
  have ha := hU.abv_lt hq (by omega)
  by_cases e : j = abv l q
  · rw [if_pos e, e, on_above hU hq hc ho]; simp
  · rw [if_neg e]
    by_cases h : q ≤ j
    · rw [decide_eq_true h, decide_eq_true (by omega)]
    · rw [decide_eq_false h, Bool.and_false]
      cases hj : on l j c with
      | false => rfl
      | true =>
        have h2 := on_chain hU hc hj ho (by omega)
        rw [on_up (by omega) ha] at h2
        have := on_le h2
        rw [decide_eq_false (by omega)]; rfl
theorem on_root (hU : Ups l l.length) : ∀ {c : Nat}, c < l.length → on l 0 c = true := by
  intro c
  induction c using Nat.strongRecOn with
  | ind c ih =>
    intro hc
    rcases Nat.eq_zero_or_pos c with h | h
    · rw [h, on_self]
    · have ha := hU.abv_lt h hc
      rw [on_up h ha]
      exact ih _ ha (by omega)
theorem known_zero (l : List Nd) (c j : Nat) : (if j = c then true else false) = (on l j c && decide (c ≤ j)) := by
  by_cases e : j = c
  · rw [if_pos e, e, on_self]; simp
  · rw [if_neg e]
    rcases Nat.lt_or_ge j c with h | h
    · rw [decide_eq_false (by omega), Bool.and_false]
    · rw [on_low (by omega)]; rfl
end Tre
/-- An answer of texts, and an error. -/
def TextsIs (p : List (List UInt8) × Int) (w : World) (e : Ending) (w' : World) : Prop := ∃ (A : Option Addr) (c : Nat), e = .returned (.tuple #[.slice A p.1.length c, .int .i64 p.2]) ∧ Strs w' A (p.1.map bs) ∧ Below w.heap.size w w'
theorem textsIs_nil {w w' : World} {n : Int} (h : Below w.heap.size w w') : TextsIs ([], n) w (.returned (.tuple #[.slice none 0 0, .int .i64 n])) w' := ⟨none, 0, rfl, fun h0 => absurd h0 (by simp), h⟩
theorem textsIs_row {w w' : World} {g n : Nat} {T : Nat → List UInt8} (h : w'.rowIs g 9 n (fun j => .string (bs (T j)))) (hb : Below w.heap.size w w') : TextsIs ((List.range n).map T, 0) w (.returned (.tuple #[.slice (some ⟨g, 0, none⟩) n n, .int .i64 0])) w' :=
  ⟨some ⟨g, 0, none⟩, n, by simp, fun _ => ⟨_, rfl, h.lt, fun j x hx => by
    have hj : j < n := by have := (List.getElem?_eq_some_iff.1 hx).1; simpa using this
    rw [List.map_map, List.getElem?_map, List.getElem?_range hj] at hx
    simp only [Option.map_some, Option.some.injEq, Function.comp] at hx
    rw [add_plain, Nat.zero_add, h.cell hj, hx]⟩, hb⟩
end Go.Proofs.Ytffihchkmcddeaa
