/-
  Trees as bytes, without a program: what is written, what is read, and that they lead to one another.
-/
import Derived.Test.YtchmiigjiojiaaaDoorTree
import Derived.Test.YtchmiigjiojiaaaDoorNumBack
namespace Go.Proofs.YtchmiigjiojiaaaDoor
open Tre
namespace Trk
theorem rdText_most (s r : List UInt8) {most : Int} (h : s.length ≤ 2147483647) (hm : (s.length : Int) ≤ most) : rdText most (numB s.length ++ (s ++ r)) 0 = (s, r, 0) := by
  unfold rdText
  rw [rdNum_numB _ 0 (by omega) (by omega)]
  simp only []
  rw [if_neg (by simp), if_neg (by omega), if_neg (by rw [List.length_append]; omega)]
  simp
theorem rdText_short {l t r : List UInt8} {most : Int} (h : rdText most l 0 = (t, r, 0)) : (t.length : Int) ≤ most := by
  obtain ⟨n, q, e, hq⟩ : ∃ n q e, rdNum l 0 = (n, q, e) := ⟨_, _, _, rfl⟩
  have hl := rdNum_low l 0
  unfold rdText at h
  rw [hq] at h hl
  simp only [] at h hl
  by_cases he : e = 0
  · subst he
    rw [if_neg (by simp)] at h
    by_cases hm : most < n
    · rw [if_pos hm] at h; simp at h
    · rw [if_neg hm] at h
      by_cases hx : (q.length : Int) < n
      · rw [if_pos hx] at h; simp at h
      · rw [if_neg hx] at h
        simp only [Prod.mk.injEq] at h
        obtain ⟨rfl, _⟩ := h
        rw [List.length_take]; omega
  · rw [if_pos he] at h
    simp only [Prod.mk.injEq] at h
    exact absurd h.2.2 he
/-- A text's bytes; none of one that is too long. -/
def textB (s : ByteArray) : List UInt8 := if s.size ≤ 2147483647 then numB s.size ++ s.data.toList else []
theorem textB_ok {s : ByteArray} (h : s.size ≤ 2147483647) : textB s = numB s.size ++ s.data.toList := if_pos h
theorem numB_full {n : Int} (h0 : 0 ≤ n) (h1 : n ≤ 2147483647) : numB n ≠ [] := by rw [numB_ok h0 h1]; unfold num4; simp
theorem numB_num {n : Int} (h : numB n ≠ []) : 0 ≤ n ∧ n ≤ 2147483647 := by
  unfold numB at h
  split at h
  · assumption
  · exact absurd rfl h
theorem textB_full {s : ByteArray} (h : s.size ≤ 2147483647) : textB s ≠ [] := by
  rw [textB_ok h]
  have := numB_full (n := (s.size : Int)) (by omega) (by omega)
  intro e
  exact this (List.append_eq_nil_iff.1 e).1
theorem textB_text {s : ByteArray} (h : textB s ≠ []) : s.size ≤ 2147483647 := by
  unfold textB at h
  split at h
  · assumption
  · exact absurd rfl h
theorem textB_length (s : ByteArray) : (textB s).length ≤ 2147483651 := by
  unfold textB
  split
  · rw [List.length_append, data_len]; have := numB_length (s.size : Int); omega
  · simp
/-- What a node has, as bytes. -/
def fieldsB (x : Nd) : List (List UInt8) := [numB (x.up + 1), numB (x.next + 1), numB x.before, numB x.after, numB x.at_, textB x.old, textB x.new]
/-- All that is written of nodes. -/
def nodesB (l : List Nd) : List (List UInt8) := l.flatMap fieldsB
def thingsB (l : List Nd) (cur : Int) : List (List UInt8) := numB l.length :: (nodesB l ++ [numB cur])
theorem nodesB_snoc (l : List Nd) (x : Nd) : nodesB (l ++ [x]) = nodesB l ++ fieldsB x := by simp [nodesB]
theorem nodesB_length (l : List Nd) : (nodesB l).length = l.length * 7 := by
  induction l with
  | nil => rfl
  | cons x r ih => show (fieldsB x ++ nodesB r).length = _; rw [List.length_append, ih, List.length_cons]; show 7 + _ = _; omega
/-- Have all some bytes? -/
def full (ts : List (List UInt8)) : Prop := ∀ t ∈ ts, t ≠ []
instance (ts : List (List UInt8)) : Decidable (full ts) := by unfold full; infer_instance
/-- Things, one behind the other; nothing, if one has no bytes. -/
def joinB (ts : List (List UInt8)) : List UInt8 := if full ts then ts.flatten else []
/-- A tree's bytes; none of one that may not be, or can't be written. -/
noncomputable def treeB (l : List Nd) (cur : Int) : List UInt8 := if Right l cur then joinB (thingsB l cur) else []
theorem treeB_no {l : List Nd} {cur : Int} (h : ¬ Right l cur) : treeB l cur = [] := if_neg h
theorem treeB_yes {l : List Nd} {cur : Int} (h : Right l cur) : treeB l cur = joinB (thingsB l cur) := if_pos h
theorem full_append {a b : List (List UInt8)} : full (a ++ b) ↔ full a ∧ full b := by
  unfold full
  constructor
  · exact fun h => ⟨fun t ht => h t (List.mem_append_left _ ht), fun t ht => h t (List.mem_append_right _ ht)⟩
  · rintro ⟨h, k⟩ t ht
    rcases List.mem_append.1 ht with ht | ht
    · exact h t ht
    · exact k t ht
theorem full_cons {a : List UInt8} {b : List (List UInt8)} : full (a :: b) ↔ a ≠ [] ∧ full b := by
  unfold full; simp
theorem full_nil : full [] := fun _ h => absurd h (by simp)
theorem full_fields {x : Nd} (h : full (fieldsB x)) : (numB (x.up + 1) ≠ [] ∧ numB (x.next + 1) ≠ [] ∧ numB x.before ≠ [] ∧ numB x.after ≠ [] ∧ numB x.at_ ≠ []) ∧ textB x.old ≠ [] ∧ textB x.new ≠ [] := by
  unfold fieldsB at h
  simp only [full_cons] at h
  obtain ⟨h0, h1, h2, h3, h4, h5, h6, _⟩ := h
  exact ⟨⟨h0, h1, h2, h3, h4⟩, h5, h6⟩
/-- A reader that has an error has it on. -/
theorem rdNum_err {l : List UInt8} {e : Int} (h : e ≠ 0) : (rdNum l e).2.2 ≠ 0 := by
  by_cases hl : l.length < 4
  · rw [rdNum_short e hl]; simp only []; rw [first_not 2 h]; exact h
  · obtain ⟨a, b, c, d, r, rfl⟩ := four_of (l := l) (by omega)
    by_cases hv : val4 a b c d ≤ 2147483647
    · rw [rdNum_ok r e hv]; exact h
    · rw [rdNum_high r e (by omega)]; simp only []; rw [first_not 6 h]; exact h
theorem rdText_err {l : List UInt8} {e most : Int} (h : e ≠ 0) : (rdText most l e).2.2 ≠ 0 := by
  unfold rdText
  rw [if_pos (rdNum_err h)]
  exact rdNum_err h
theorem rdNum_nil {e : Int} (h : e ≠ 0) : rdNum [] e = (0, [], e) := by rw [rdNum_short e (by simp), first_not 2 h]
theorem rdText_nil {e : Int} (most : Int) (h : e ≠ 0) : rdText most [] e = ([], [], e) := by
  unfold rdText
  rw [rdNum_nil h, if_pos h]
/-- A node that is read. -/
def rdNode (l : List UInt8) (err : Int) : Nd × List UInt8 × Int :=
  let a := rdNum l err
  let b := rdNum a.2.1 a.2.2
  let c := rdNum b.2.1 b.2.2
  let d := rdNum c.2.1 c.2.2
  let e := rdNum d.2.1 d.2.2
  let s := rdText 4096 e.2.1 e.2.2
  let t := rdText 4096 s.2.1 s.2.2
  (⟨a.1 - 1, b.1 - 1, c.1, d.1, e.1, bs s.1, bs t.1⟩, t.2.1, t.2.2)
/-- Nodes that are read, one behind the other, till there is an error. -/
def rdNodes : Nat → List UInt8 → Int → List Nd × List UInt8 × Int
  | 0, l, e => ([], l, e)
  | n + 1, l, e => if (rdNode l e).2.2 ≠ 0 then ([], (rdNode l e).2.1, (rdNode l e).2.2) else ((rdNode l e).1 :: (rdNodes n (rdNode l e).2.1 (rdNode l e).2.2).1, (rdNodes n (rdNode l e).2.1 (rdNode l e).2.2).2)
theorem rdNodes_zero (l : List UInt8) (e : Int) : rdNodes 0 l e = ([], l, e) := rfl
theorem rdNodes_bad {n : Nat} {l r : List UInt8} {e e' : Int} {x : Nd} (h : rdNode l e = (x, r, e')) (he : e' ≠ 0) : rdNodes (n + 1) l e = ([], r, e') := by
  rw [rdNodes, h, if_pos he]
theorem rdNodes_ok {n : Nat} {l r : List UInt8} {e : Int} {x : Nd} (h : rdNode l e = (x, r, 0)) : rdNodes (n + 1) l e = (x :: (rdNodes n r 0).1, (rdNodes n r 0).2) := by
  rw [rdNodes, h, if_neg (by simp)]
/-- A tree that is read: its nodes, its Cur, what Read says; and what is left, and the reader's own error. -/
noncomputable def rdTree (l : List UInt8) (err : Int) : (List Nd × Int × Int) × List UInt8 × Int :=
  let c := rdNum l err
  let ns := rdNodes c.1.toNat c.2.1 c.2.2
  let q := rdNum ns.2.1 ns.2.2
  (if q.2.2 ≠ 0 then ([], 0, q.2.2) else if Right ns.1 q.1 then (ns.1, q.1, 0) else ([], 0, 3), q.2.1, q.2.2)
theorem rdNode_err {l : List UInt8} {e : Int} (h : e ≠ 0) : (rdNode l e).2.2 ≠ 0 := by
  unfold rdNode
  exact rdText_err (rdText_err (rdNum_err (rdNum_err (rdNum_err (rdNum_err (rdNum_err h))))))
theorem rdNodes_err : ∀ {n : Nat} {l : List UInt8} {e : Int}, e ≠ 0 → (rdNodes n l e).2.2 ≠ 0
  | 0, _, _, h => h
  | n + 1, l, e, h => by
    have := rdNode_err (l := l) h
    rw [rdNodes, if_pos this]
    exact this
theorem num_out {l : List UInt8} {e : Int} (h : (rdNum l e).2.2 = 0) : e = 0 := Classical.byContradiction fun k => rdNum_err k h
theorem text_out {l : List UInt8} {most e : Int} (h : (rdText most l e).2.2 = 0) : e = 0 := Classical.byContradiction fun k => rdText_err k h
theorem bs_eq (s : ByteArray) : bs s.data.toList = s := bs_data s
/-- What was written is read. -/
theorem rdNode_back {x : Nd} (r : List UInt8) (h : full (fieldsB x)) (ho : x.old.size ≤ 4096) (hn : x.new.size ≤ 4096) : rdNode ((fieldsB x).flatten ++ r) 0 = (x, r, 0) := by
  obtain ⟨⟨h0, h1, h2, h3, h4⟩, h5, h6⟩ := full_fields h
  replace h0 := numB_num h0
  replace h1 := numB_num h1
  replace h2 := numB_num h2
  replace h3 := numB_num h3
  replace h4 := numB_num h4
  have e5 := rdText_most x.old.data.toList (textB x.new ++ r) (most := 4096) (by rw [data_len]; omega) (by rw [data_len]; omega)
  have e6 := rdText_most x.new.data.toList r (most := 4096) (by rw [data_len]; omega) (by rw [data_len]; omega)
  rw [data_len] at e5 e6
  have hl : (fieldsB x).flatten ++ r = numB (x.up + 1) ++ (numB (x.next + 1) ++ (numB x.before ++ (numB x.after ++ (numB x.at_ ++ (numB x.old.size ++ (x.old.data.toList ++ (textB x.new ++ r))))))) := by
    simp [fieldsB, textB_ok (show x.old.size ≤ 2147483647 by omega)]
  rw [hl]
  unfold rdNode
  simp only [rdNum_numB _ 0 h0.1 h0.2, rdNum_numB _ 0 h1.1 h1.2, rdNum_numB _ 0 h2.1 h2.2, rdNum_numB _ 0 h3.1 h3.2, rdNum_numB _ 0 h4.1 h4.2, e5]
  rw [textB_ok (show x.new.size ≤ 2147483647 by omega), List.append_assoc, e6]
  simp only [bs_eq, Int.add_sub_cancel]
theorem rdNodes_back : ∀ {l : List Nd} (r : List UInt8), full (nodesB l) → (∀ x ∈ l, x.old.size ≤ 4096 ∧ x.new.size ≤ 4096) → rdNodes l.length ((nodesB l).flatten ++ r) 0 = (l, r, 0)
  | [], r, _, _ => rfl
  | x :: l, r, h, hs => by
    have hf : full (fieldsB x) ∧ full (nodesB l) := full_append.1 h
    have e := rdNode_back ((nodesB l).flatten ++ r) hf.1 (hs x (by simp)).1 (hs x (by simp)).2
    have ih := rdNodes_back r hf.2 (fun y hy => hs y (by simp [hy]))
    have hl : (nodesB (x :: l)).flatten ++ r = (fieldsB x).flatten ++ ((nodesB l).flatten ++ r) := by simp [nodesB]
    rw [hl, List.length_cons, rdNodes_ok e, ih]
theorem rdTree_back {l : List Nd} {cur : Int} (r : List UInt8) (h : treeB l cur ≠ []) (hs : ∀ x ∈ l, x.old.size ≤ 4096 ∧ x.new.size ≤ 4096) : rdTree (treeB l cur ++ r) 0 = ((l, cur, 0), r, 0) := by
  have hR : Right l cur := Classical.byContradiction fun k => h (treeB_no k)
  rw [treeB_yes hR] at h ⊢
  have hf : full (thingsB l cur) := Classical.byContradiction fun k => h (if_neg k)
  rw [show joinB (thingsB l cur) = (thingsB l cur).flatten from if_pos hf]
  unfold thingsB at hf
  rw [full_cons, full_append, full_cons] at hf
  obtain ⟨h0, h1, h2, _⟩ := hf
  replace h0 := numB_num h0
  replace h2 := numB_num h2
  have hl : (thingsB l cur).flatten ++ r = numB l.length ++ ((nodesB l).flatten ++ (numB cur ++ r)) := by simp [thingsB]
  rw [hl]
  unfold rdTree
  simp only [rdNum_numB _ 0 h0.1 h0.2, Int.toNat_natCast, rdNodes_back _ h1 hs, rdNum_numB _ 0 h2.1 h2.2]
  rw [if_neg (by simp), if_pos hR]
/-- Of what is read the bytes are those that were there. -/
theorem rdNode_once {l r : List UInt8} {x : Nd} (h : rdNode l 0 = (x, r, 0)) : l = (fieldsB x).flatten ++ r ∧ full (fieldsB x) := by
  unfold rdNode at h
  obtain ⟨n0, l0, e0, q0⟩ : ∃ n r e, rdNum l 0 = (n, r, e) := ⟨_, _, _, rfl⟩
  simp only [q0] at h
  obtain ⟨n1, l1, e1, q1⟩ : ∃ n r e, rdNum l0 e0 = (n, r, e) := ⟨_, _, _, rfl⟩
  simp only [q1] at h
  obtain ⟨n2, l2, e2, q2⟩ : ∃ n r e, rdNum l1 e1 = (n, r, e) := ⟨_, _, _, rfl⟩
  simp only [q2] at h
  obtain ⟨n3, l3, e3, q3⟩ : ∃ n r e, rdNum l2 e2 = (n, r, e) := ⟨_, _, _, rfl⟩
  simp only [q3] at h
  obtain ⟨n4, l4, e4, q4⟩ : ∃ n r e, rdNum l3 e3 = (n, r, e) := ⟨_, _, _, rfl⟩
  simp only [q4] at h
  obtain ⟨t5, l5, e5, q5⟩ : ∃ n r e, rdText 4096 l4 e4 = (n, r, e) := ⟨_, _, _, rfl⟩
  simp only [q5] at h
  obtain ⟨t6, l6, e6, q6⟩ : ∃ n r e, rdText 4096 l5 e5 = (n, r, e) := ⟨_, _, _, rfl⟩
  simp only [q6, Prod.mk.injEq] at h
  obtain ⟨rfl, rfl, rfl⟩ := h
  obtain rfl : e5 = 0 := text_out (l := l5) (most := 4096) (by rw [q6])
  obtain rfl : e4 = 0 := text_out (l := l4) (most := 4096) (by rw [q5])
  obtain rfl : e3 = 0 := num_out (l := l3) (by rw [q4])
  obtain rfl : e2 = 0 := num_out (l := l2) (by rw [q3])
  obtain rfl : e1 = 0 := num_out (l := l1) (by rw [q2])
  obtain rfl : e0 = 0 := num_out (l := l0) (by rw [q1])
  obtain ⟨rfl, a0, b0⟩ := once_num q0
  obtain ⟨rfl, a1, b1⟩ := once_num q1
  obtain ⟨rfl, a2, b2⟩ := once_num q2
  obtain ⟨rfl, a3, b3⟩ := once_num q3
  obtain ⟨rfl, a4, b4⟩ := once_num q4
  obtain ⟨rfl, b5⟩ := once_text q5
  obtain ⟨rfl, b6⟩ := once_text q6
  have s5 : (bs t5).size ≤ 2147483647 := by rw [bs_size]; exact b5
  have s6 : (bs t6).size ≤ 2147483647 := by rw [bs_size]; exact b6
  refine ⟨by simp [fieldsB, textB_ok s5, textB_ok s6, bs_size, bs_toList], ?_⟩
  unfold fieldsB
  simp only [full_cons, Int.sub_add_cancel]
  exact ⟨numB_full a0 b0, numB_full a1 b1, numB_full a2 b2, numB_full a3 b3, numB_full a4 b4, textB_full s5, textB_full s6, full_nil⟩
theorem rdNodes_once : ∀ {n : Nat} {l r : List UInt8} {xs : List Nd}, rdNodes n l 0 = (xs, r, 0) → xs.length = n ∧ l = (nodesB xs).flatten ++ r ∧ full (nodesB xs)
  | 0, l, r, xs, h => by
    rw [rdNodes_zero] at h
    simp only [Prod.mk.injEq] at h
    obtain ⟨rfl, rfl, _⟩ := h
    exact ⟨rfl, rfl, full_nil⟩
  | n + 1, l, r, xs, h => by
    obtain ⟨x, q, e, hq⟩ : ∃ x q e, rdNode l 0 = (x, q, e) := ⟨_, _, _, rfl⟩
    by_cases he : e = 0
    · subst he
      obtain ⟨ys, r', e', hq'⟩ : ∃ y z v, rdNodes n q 0 = (y, z, v) := ⟨_, _, _, rfl⟩
      rw [rdNodes_ok hq, hq'] at h
      simp only [Prod.mk.injEq] at h
      obtain ⟨rfl, rfl, rfl⟩ := h
      obtain ⟨h1, h2, h3⟩ := rdNodes_once hq'
      obtain ⟨k1, k2⟩ := rdNode_once hq
      refine ⟨by rw [List.length_cons, h1], ?_, full_append.2 ⟨k2, h3⟩⟩
      rw [k1, h2]
      simp [nodesB]
    · rw [rdNodes_bad hq he] at h
      simp only [Prod.mk.injEq] at h
      exact absurd h.2.2 he
theorem rdTree_once {l r : List UInt8} {xs : List Nd} {cur e' : Int} (h : rdTree l 0 = ((xs, cur, 0), r, e')) : l = treeB xs cur ++ r ∧ Right xs cur := by
  unfold rdTree at h
  obtain ⟨n0, l0, e0, q0⟩ : ∃ n r e, rdNum l 0 = (n, r, e) := ⟨_, _, _, rfl⟩
  simp only [q0] at h
  obtain ⟨ns, l1, e1, q1⟩ : ∃ x q e, rdNodes n0.toNat l0 e0 = (x, q, e) := ⟨_, _, _, rfl⟩
  simp only [q1] at h
  obtain ⟨n2, l2, e2, q2⟩ : ∃ n r e, rdNum l1 e1 = (n, r, e) := ⟨_, _, _, rfl⟩
  simp only [q2] at h
  by_cases he : e2 = 0
  · subst he
    rw [if_neg (by simp)] at h
    obtain rfl : e1 = 0 := num_out (l := l1) (by rw [q2])
    obtain rfl : e0 = 0 := Classical.byContradiction fun k => rdNodes_err (n := n0.toNat) (l := l0) k (by rw [q1])
    by_cases hR : Right ns n2
    · rw [if_pos hR] at h
      simp only [Prod.mk.injEq] at h
      obtain ⟨⟨rfl, rfl, _⟩, rfl, _⟩ := h
      obtain ⟨rfl, a0, b0⟩ := once_num q0
      obtain ⟨rfl, a2, b2⟩ := once_num q2
      obtain ⟨h1, rfl, h3⟩ := rdNodes_once q1
      have hn : (ns.length : Int) = n0 := by omega
      refine ⟨?_, hR⟩
      rw [treeB_yes hR]
      have hf : full (thingsB ns n2) := by
        unfold thingsB
        rw [full_cons, full_append, full_cons, hn]
        exact ⟨numB_full a0 b0, h3, numB_full a2 b2, full_nil⟩
      rw [show joinB (thingsB ns n2) = (thingsB ns n2).flatten from if_pos hf]
      simp [thingsB, hn]
    · rw [if_neg hR] at h
      simp only [Prod.mk.injEq] at h
      exact absurd h.1.2.2 (by decide)
  · rw [if_pos he] at h
    simp only [Prod.mk.injEq] at h
    exact absurd h.1.2.2 he
/-- What Read says beside an error: nothing. -/
theorem rdTree_no {l r : List UInt8} {xs : List Nd} {cur e err e' : Int} (h : rdTree l err = ((xs, cur, e), r, e')) (he : e ≠ 0) : xs = [] ∧ cur = 0 := by
  unfold rdTree at h
  simp only [Prod.mk.injEq] at h
  obtain ⟨h, _⟩ := h
  split at h
  · simp only [Prod.mk.injEq] at h; exact ⟨h.1.symm, h.2.1.symm⟩
  · split at h
    · simp only [Prod.mk.injEq] at h; exact absurd h.2.2.symm he
    · simp only [Prod.mk.injEq] at h; exact ⟨h.1.symm, h.2.1.symm⟩
theorem rdTree_few {l r : List UInt8} {xs : List Nd} {cur e err e' : Int} (h : rdTree l err = ((xs, cur, e), r, e')) : xs.length ≤ 1024 := by
  by_cases he : e = 0
  · subst he
    unfold rdTree at h
    simp only [Prod.mk.injEq] at h
    obtain ⟨h, _⟩ := h
    split at h
    · simp only [Prod.mk.injEq] at h; rw [← h.1]; simp
    · split at h
      · rename_i hR
        simp only [Prod.mk.injEq] at h; rw [← h.1]; exact hR.few
      · simp only [Prod.mk.injEq] at h; rw [← h.1]; simp
  · rw [(rdTree_no h he).1]; simp
end Trk
end Go.Proofs.YtchmiigjiojiaaaDoor
