/-
  Motions by paragraphs, without a program: the nth block of empty lines behind a place, or ahead of it; once is the least one; n times is once, n times.
-/
import Derived.Test.YtjgfcnjnedgejaaPara
import Derived.Test.YtjgfcnjnedgejaaLineCalls
namespace Go.Proofs.Ytjgfcnjnedgejaa
namespace Para
/-- The nth of those of P that r tells of p; M: there are not so many. -/
def nth (r : Nat → Nat → Bool) (P : List Nat) (M p n : Nat) : Nat := ((P.filter (r p))[n - 1]?).getD M
structure Ord (r : Nat → Nat → Bool) (P : List Nat) (M : Nat) : Prop where
  irr : ∀ x, r x x = false
  trans : ∀ x y z, r x y = true → r y z = true → r x z = true
  sorted : P.Pairwise fun x y => r x y = true
  top : ∀ x ∈ P, r M x = false
section
variable {r : Nat → Nat → Bool} {P : List Nat} {M : Nat} (O : Ord r P M)
include O
theorem Ord.rest {p a : Nat} {t : List Nat} (h : P.filter (r p) = a :: t) : P.filter (r a) = t := by
  have ha : r p a = true := (List.mem_filter.1 (h ▸ List.mem_cons_self : a ∈ P.filter (r p))).2
  have h1 : P.filter (r a) = (P.filter (r p)).filter (r a) := by
    rw [List.filter_filter]
    refine List.filter_congr fun x _ => ?_
    cases hx : r a x with
    | false => simp
    | true => simp [O.trans _ _ _ ha hx]
  have h2 : (a :: t).Pairwise fun x y => r x y = true := h ▸ List.Pairwise.filter _ O.sorted
  rw [h1, h, List.filter_cons, O.irr, List.filter_eq_self.2 fun x hx => (List.pairwise_cons.1 h2).1 x hx]
  simp
theorem Ord.none_top : P.filter (r M) = [] := List.filter_eq_nil_iff.2 fun x hx => by rw [O.top x hx]; simp
theorem Ord.top_nth (n : Nat) : nth r P M M n = M := by rw [nth, O.none_top]; simp
theorem Ord.nth_succ (p n : Nat) (hn : 1 ≤ n) : nth r P M p (n + 1) = nth r P M (nth r P M p 1) n := by
  cases h : P.filter (r p) with
  | nil =>
    have h1 : ∀ k, nth r P M p k = M := fun k => by rw [nth, h]; simp
    rw [h1, h1, O.top_nth]
  | cons a t =>
    have h1 : nth r P M p 1 = a := by rw [nth, h]; simp
    have h2 : nth r P M p (n + 1) = ((a :: t)[n]?).getD M := by rw [nth, h]; simp
    obtain ⟨k, rfl⟩ : ∃ k, n = k + 1 := ⟨n - 1, by omega⟩
    rw [h1, h2, nth, O.rest h]
    simp
/-- n times, and once more. -/
theorem Ord.nth_more (p n : Nat) (hn : 1 ≤ n) : nth r P M p (n + 1) = nth r P M (nth r P M p n) 1 := by
  induction n generalizing p with
  | zero => omega
  | succ n ih =>
    rcases Nat.eq_zero_or_pos n with rfl | h
    · exact O.nth_succ p 1 (Nat.le_refl _)
    · rw [O.nth_succ p (n + 1) (by omega), ih _ h, ← O.nth_succ p n h]
end
theorem nth_mem (r : Nat → Nat → Bool) (P : List Nat) (M p n : Nat) : (nth r P M p n ∈ P ∧ r p (nth r P M p n) = true) ∨ nth r P M p n = M := by
  rw [nth]
  cases h : (P.filter (r p))[n - 1]? with
  | none => exact .inr rfl
  | some x =>
    obtain ⟨h1, h2⟩ := List.getElem?_eq_some_iff.1 h
    have h3 : x ∈ P.filter (r p) := h2 ▸ List.getElem_mem h1
    exact .inl ⟨(List.mem_filter.1 h3).1, (List.mem_filter.1 h3).2⟩
theorem nth_one {r : Nat → Nat → Bool} {P : List Nat} {M p v : Nat} (h : (v ∈ P ∧ r p v = true ∧ ∀ x ∈ P, r p x = true → r x v = false) ∨ ((∀ x ∈ P, r p x = false) ∧ v = M)) (O : Ord r P M) : nth r P M p 1 = v := by
  rw [nth]
  rcases h with ⟨h1, h2, h3⟩ | ⟨h1, rfl⟩
  · have hm : v ∈ P.filter (r p) := List.mem_filter.2 ⟨h1, h2⟩
    cases h : P.filter (r p) with
    | nil => rw [h] at hm; cases hm
    | cons a t =>
      have ha : a ∈ P.filter (r p) := by rw [h]; exact List.mem_cons_self
      obtain ⟨ha1, ha2⟩ := List.mem_filter.1 ha
      have hp : (a :: t).Pairwise fun x y => r x y = true := h ▸ List.Pairwise.filter _ O.sorted
      rw [h] at hm
      rcases List.mem_cons.1 hm with rfl | hm
      · rfl
      · have := (List.pairwise_cons.1 hp).1 v hm
        rw [h3 a ha1 ha2] at this; cases this
  · rw [List.filter_eq_nil_iff.2 fun x hx => by rw [h1 x hx]; simp]
    rfl

/-- Where blocks of empty lines start; and where their last lines do, the last one first. -/
def ups (s : List UInt8) : List Nat := ((all s).filter fun b => b.e).map Bl.fa
def downs (s : List UInt8) : List Nat := (((all s).filter fun b => b.e).map Bl.la).reverse
def lt_ (x y : Nat) : Bool := decide (x < y)
def gt_ (x y : Nat) : Bool := decide (y < x)
def onN (s : List UInt8) (p n : Nat) : Nat := nth lt_ (ups s) s.length p n
def backN (s : List UInt8) (p n : Nat) : Nat := nth gt_ (downs s) 0 p n
/-- As the program gathers them. -/
def hitsOn (p : Nat) (l : List Bl) : List Nat := (l.filter fun b => b.e && decide (p < b.fa)).map Bl.fa
def hitsBack (p : Nat) (l : List Bl) : List Nat := (l.filter fun b => b.e && decide (b.la < p)).map Bl.la
theorem hitsOn_all (s : List UInt8) (p n : Nat) : onN s p n = ((hitsOn p (all s))[n - 1]?).getD s.length := by
  have h : (ups s).filter (lt_ p) = hitsOn p (all s) := by
    rw [ups, hitsOn, List.filter_map, List.filter_filter]
    congr 1
    exact List.filter_congr fun b _ => by simp [Function.comp, lt_, Bool.and_comm]
  rw [onN, nth, h]
theorem hitsBack_all (s : List UInt8) (p n : Nat) : backN s p n = (((hitsBack p (all s)).reverse)[n - 1]?).getD 0 := by
  have h : (downs s).filter (gt_ p) = (hitsBack p (all s)).reverse := by
    rw [downs, hitsBack, List.filter_reverse, List.filter_map, List.filter_filter]
    congr 2
    exact List.filter_congr fun b _ => by simp [Function.comp, gt_, Bool.and_comm]
  rw [backN, nth, h]
theorem hitsOn_snoc (p : Nat) (l : List Bl) (b : Bl) : hitsOn p (l ++ [b]) = hitsOn p l ++ (if b.e = true ∧ p < b.fa then [b.fa] else []) := by
  rw [hitsOn, List.filter_append, List.map_append, ← hitsOn]
  congr 1
  by_cases h1 : b.e = true
  · by_cases h2 : p < b.fa <;> simp [h1, h2]
  · simp [h1]
theorem hitsBack_snoc (p : Nat) (l : List Bl) (b : Bl) : hitsBack p (l ++ [b]) = hitsBack p l ++ (if b.e = true ∧ b.la < p then [b.la] else []) := by
  rw [hitsBack, List.filter_append, List.map_append, ← hitsBack]
  congr 1
  by_cases h1 : b.e = true
  · by_cases h2 : b.la < p <;> simp [h1, h2]
  · simp [h1]
theorem hitsBack_le (p : Nat) (l : List Bl) : (hitsBack p l).length ≤ l.length := by
  rw [hitsBack, List.length_map]; exact List.length_filter_le _ _
theorem hitsOn_le (p : Nat) (l : List Bl) : (hitsOn p l).length ≤ l.length := by
  rw [hitsOn, List.length_map]; exact List.length_filter_le _ _
/-- What the nth is, as it is found on the way. -/
theorem onN_found {s : List UInt8} {p n : Nat} {pre : List Bl} {b : Bl} (h : pre ++ [b] <+: all s) (hb : b.e = true ∧ p < b.fa) (hn : n = (hitsOn p pre).length + 1) : onN s p n = b.fa := by
  obtain ⟨t, ht⟩ := h
  have h1 : hitsOn p (all s) = hitsOn p pre ++ [b.fa] ++ hitsOn p t := by
    rw [← ht, hitsOn, List.filter_append, List.map_append, ← hitsOn, ← hitsOn, hitsOn_snoc, if_pos hb]
  rw [hitsOn_all, h1, hn, Nat.add_sub_cancel, List.append_assoc, List.getElem?_append_right (Nat.le_refl _)]
  simp
theorem onN_end {s : List UInt8} {p n : Nat} (h : (hitsOn p (all s)).length < n) : onN s p n = s.length := by
  rw [hitsOn_all, List.getElem?_eq_none (by omega)]; rfl
theorem backN_end {s : List UInt8} {p n : Nat} (h : (hitsBack p (all s)).length < n) : backN s p n = 0 := by
  rw [hitsBack_all, List.getElem?_eq_none (by rw [List.length_reverse]; omega)]; rfl
theorem backN_found {s : List UInt8} {p n : Nat} (h1 : 1 ≤ n) (h : n ≤ (hitsBack p (all s)).length) : (hitsBack p (all s))[(hitsBack p (all s)).length - n]? = some (backN s p n) := by
  rw [hitsBack_all, List.getElem?_reverse (by omega)]
  have h2 : (hitsBack p (all s)).length - n < (hitsBack p (all s)).length := by omega
  rw [show (hitsBack p (all s)).length - 1 - (n - 1) = (hitsBack p (all s)).length - n by omega, List.getElem?_eq_getElem h2]
  rfl

/-- Lines start one behind the other. -/
theorem at_lt {s : List UInt8} {j k : Nat} (h : j < k) (hk : k < (Line.L s).length) : at_ s j < at_ s k := by
  have h1 := List.getElem?_eq_getElem (show j < (Line.L s).length by omega)
  have h2 := List.getElem?_eq_getElem hk
  rw [at_at h1, at_at h2]
  have W := Line.L_whole (Line.L_valid h2)
  have := W.mono h1 h2 h
  have := (W.each j _ h1).2.1
  omega
theorem at_zero {s : List UInt8} : at_ s 0 = 0 := by
  cases h : (Line.L s)[0]? with
  | none => rw [at_, h]
  | some x =>
    obtain ⟨z, hz, h0⟩ := (Line.L_whole (Line.L_valid h)).head
    rw [h] at hz; cases hz
    rw [at_at h, h0]
theorem at_le (s : List UInt8) (j : Nat) : at_ s j ≤ s.length := by
  cases h : (Line.L s)[j]? with
  | none => rw [at_, h]; exact Nat.zero_le _
  | some x => rw [at_at h]; have := Line.L_each h; omega
theorem bl_at {s : List UInt8} (hv : Utf.valid s = true) {b : Bl} (h : b ∈ all s) : b.fa = at_ s b.f ∧ b.la = at_ s b.l ∧ b.f ≤ b.l ∧ b.l < (Line.L s).length :=
  let ⟨g, h1, _⟩ := (all_right hv).each b h
  ⟨g.fa, g.la, g.le, h1⟩
theorem ups_ord {s : List UInt8} (hv : Utf.valid s = true) : Ord lt_ (ups s) s.length := by
  refine ⟨fun x => by simp [lt_], fun x y z h1 h2 => by simp [lt_] at *; omega, ?_, fun x hx => ?_⟩
  · rw [ups, List.pairwise_map]
    refine (List.Pairwise.filter _ (all_right hv).sorted).imp_of_mem fun {a b} ha hb h => ?_
    obtain ⟨a1, a2, a3, a4⟩ := bl_at hv (List.mem_filter.1 ha).1
    obtain ⟨b1, b2, b3, b4⟩ := bl_at hv (List.mem_filter.1 hb).1
    rw [lt_, a1, b1]
    exact decide_eq_true (at_lt (by omega) (by omega))
  · rw [ups, List.mem_map] at hx
    obtain ⟨b, hb, rfl⟩ := hx
    rw [lt_, (bl_at hv (List.mem_filter.1 hb).1).1]
    have := at_le s b.f
    exact decide_eq_false (by omega)
theorem downs_ord {s : List UInt8} (hv : Utf.valid s = true) : Ord gt_ (downs s) 0 := by
  refine ⟨fun x => by simp [gt_], fun x y z h1 h2 => by simp [gt_] at *; omega, ?_, fun x _ => by simp [gt_]⟩
  rw [downs, List.pairwise_reverse, List.pairwise_map]
  refine (List.Pairwise.filter _ (all_right hv).sorted).imp_of_mem fun {a b} ha hb h => ?_
  obtain ⟨a1, a2, a3, a4⟩ := bl_at hv (List.mem_filter.1 ha).1
  obtain ⟨b1, b2, b3, b4⟩ := bl_at hv (List.mem_filter.1 hb).1
  rw [gt_, a2, b2]
  exact decide_eq_true (at_lt (by omega) (by omega))
/-- Does an empty line stand behind one that is not; ahead of one that is not? -/
def Hd (s : List UInt8) (j : Nat) : Prop := emp s j = true ∧ emp s (j - 1) = false
def Tl (s : List UInt8) (j : Nat) : Prop := emp s j = true ∧ emp s (j + 1) = false
theorem mem_ups {s : List UInt8} (hv : Utf.valid s = true) {z : Nat} : z ∈ ups s ↔ ∃ j, j < (Line.L s).length ∧ emp s j = true ∧ (j = 0 ∨ emp s (j - 1) = false) ∧ z = at_ s j := by
  have R := all_right hv
  rw [ups, List.mem_map]
  constructor
  · rintro ⟨b, hb, rfl⟩
    obtain ⟨h1, h2⟩ := List.mem_filter.1 hb
    obtain ⟨g, hl, _⟩ := R.each b h1
    have he : b.e = true := h2
    refine ⟨b.f, by have := g.le; omega, by rw [g.same b.f (Nat.le_refl _) g.le, he], ?_, g.fa⟩
    rcases g.ahead with e | e
    · exact .inl e
    · exact .inr (by rw [e, he]; rfl)
  · rintro ⟨j, hj, h1, h2, rfl⟩
    obtain ⟨b, hb, h3, h4⟩ := R.cover j hj
    obtain ⟨g, hl, _⟩ := R.each b hb
    have he : b.e = true := by rw [← g.same j h3 h4, h1]
    have hf : b.f = j := by
      rcases Nat.lt_or_ge b.f j with h | h
      · rcases h2 with h2 | h2
        · omega
        · rw [g.same (j - 1) (by omega) (by omega), he] at h2; cases h2
      · omega
    exact ⟨b, List.mem_filter.2 ⟨hb, he⟩, by rw [g.fa, hf]⟩
theorem mem_downs {s : List UInt8} (hv : Utf.valid s = true) {z : Nat} : z ∈ downs s ↔ ∃ j, j < (Line.L s).length ∧ emp s j = true ∧ (j + 1 = (Line.L s).length ∨ emp s (j + 1) = false) ∧ z = at_ s j := by
  have R := all_right hv
  rw [downs, List.mem_reverse, List.mem_map]
  constructor
  · rintro ⟨b, hb, rfl⟩
    obtain ⟨h1, h2⟩ := List.mem_filter.1 hb
    obtain ⟨g, hl, hn⟩ := R.each b h1
    have he : b.e = true := h2
    refine ⟨b.l, hl, by rw [g.same b.l g.le (Nat.le_refl _), he], ?_, g.la⟩
    rcases hn with e | e
    · exact .inl e
    · exact .inr (by rw [e, he]; rfl)
  · rintro ⟨j, hj, h1, h2, rfl⟩
    obtain ⟨b, hb, h3, h4⟩ := R.cover j hj
    obtain ⟨g, hl, _⟩ := R.each b hb
    have he : b.e = true := by rw [← g.same j h3 h4, h1]
    have hf : b.l = j := by
      rcases Nat.lt_or_ge j b.l with h | h
      · rcases h2 with h2 | h2
        · omega
        · rw [g.same (j + 1) (by omega) (by omega), he] at h2; cases h2
      · omega
    exact ⟨b, List.mem_filter.2 ⟨hb, he⟩, by rw [g.la, hf]⟩
section
variable {s : List UInt8} {k p : Nat} {x : Nat × Nat} (hx : (Line.L s)[k]? = some x) (h1 : x.1 ≤ p) (h2 : p ≤ x.2)
include hx h1 h2
theorem behind_iff {j : Nat} (hj : j < (Line.L s).length) : p < at_ s j ↔ k < j := by
  have hg := List.getElem?_eq_getElem hj
  have W := Line.L_whole (Line.L_valid hx)
  constructor
  · intro h
    rcases Nat.lt_or_ge k j with h3 | h3
    · exact h3
    · have hk := (List.getElem?_eq_some_iff.1 hx).1
      rcases Nat.lt_or_ge j k with h4 | h4
      · have := at_lt h4 hk
        rw [at_at hx] at this; omega
      · obtain rfl : j = k := by omega
        rw [at_at hx] at h; omega
  · intro h
    have := W.mono hx hg h
    rw [at_at hg]; omega
theorem ahead_iff {j : Nat} (hj : j < (Line.L s).length) (he : emp s j = true) : at_ s j < p ↔ j < k := by
  have hg := List.getElem?_eq_getElem hj
  have W := Line.L_whole (Line.L_valid hx)
  have he2 : (Line.L s)[j].1 = (Line.L s)[j].2 := by rw [emp_at hg] at he; exact of_decide_eq_true he
  constructor
  · intro h
    rcases Nat.lt_or_ge j k with h3 | h3
    · exact h3
    · rcases Nat.lt_or_ge k j with h4 | h4
      · have := W.mono hx hg h4
        rw [at_at hg] at h; omega
      · obtain rfl : j = k := by omega
        rw [hx] at hg
        injection hg with hg
        rw [at_at hx] at h
        rw [← hg] at he2
        omega
  · intro h
    have := W.mono hg hx h
    rw [at_at hg]; omega
/-- Once: the least empty line behind that one is not ahead of; the greatest one. -/
theorem onN_one {v : Nat} (h : (∃ j, k < j ∧ j < (Line.L s).length ∧ Hd s j ∧ v = at_ s j ∧ ∀ i, k < i → i < j → ¬ Hd s i) ∨ ((∀ i, k < i → i < (Line.L s).length → ¬ Hd s i) ∧ v = s.length)) : onN s p 1 = v := by
  have hv := Line.L_valid hx
  have B := fun {j : Nat} (hj : j < (Line.L s).length) => behind_iff hx h1 h2 hj
  refine nth_one ?_ (ups_ord hv)
  rcases h with ⟨j, q1, q2, q3, rfl, q4⟩ | ⟨q1, q2⟩
  · refine .inl ⟨(mem_ups hv).2 ⟨j, q2, q3.1, .inr q3.2, rfl⟩, decide_eq_true ((B q2).2 q1), fun z hz hr => ?_⟩
    obtain ⟨i, i1, i2, i3, rfl⟩ := (mem_ups hv).1 hz
    have hki := (B i1).1 (of_decide_eq_true hr)
    have hge : j ≤ i := by
      rcases Nat.lt_or_ge i j with h | h
      · exact absurd ⟨i2, i3.resolve_left (by omega)⟩ (q4 i hki h)
      · exact h
    refine decide_eq_false ?_
    rcases Nat.lt_or_ge j i with h | h
    · have := at_lt h i1; omega
    · obtain rfl : i = j := by omega
      omega
  · refine .inr ⟨fun z hz => decide_eq_false fun hr => ?_, q2⟩
    obtain ⟨i, i1, i2, i3, rfl⟩ := (mem_ups hv).1 hz
    have hki := (B i1).1 hr
    exact q1 i hki i1 ⟨i2, i3.resolve_left (by omega)⟩
theorem backN_one {v : Nat} (h : (∃ j, j < k ∧ Tl s j ∧ v = at_ s j ∧ ∀ i, j < i → i < k → ¬ Tl s i) ∨ ((∀ i, i < k → ¬ Tl s i) ∧ v = 0)) : backN s p 1 = v := by
  have hv := Line.L_valid hx
  have hk := (List.getElem?_eq_some_iff.1 hx).1
  have B := fun {j : Nat} (hj : j < (Line.L s).length) (he : emp s j = true) => ahead_iff hx h1 h2 hj he
  refine nth_one ?_ (downs_ord hv)
  rcases h with ⟨j, q1, q3, rfl, q4⟩ | ⟨q1, q2⟩
  · refine .inl ⟨(mem_downs hv).2 ⟨j, by omega, q3.1, .inr q3.2, rfl⟩, decide_eq_true ((B (by omega) q3.1).2 q1), fun z hz hr => ?_⟩
    obtain ⟨i, i1, i2, i3, rfl⟩ := (mem_downs hv).1 hz
    have hki := (B i1 i2).1 (of_decide_eq_true hr)
    have hge : i ≤ j := by
      rcases Nat.lt_or_ge j i with h | h
      · exact absurd ⟨i2, i3.resolve_left (by omega)⟩ (q4 i h hki)
      · exact h
    refine decide_eq_false ?_
    rcases Nat.lt_or_ge i j with h | h
    · have := at_lt h (by omega : j < (Line.L s).length); omega
    · obtain rfl : i = j := by omega
      omega
  · refine .inr ⟨fun z hz => decide_eq_false fun hr => ?_, q2⟩
    obtain ⟨i, i1, i2, i3, rfl⟩ := (mem_downs hv).1 hz
    have hki := (B i1 i2).1 hr
    exact q1 i hki ⟨i2, i3.resolve_left (by omega)⟩
end
/-- Where a motion leads; on or back. -/
def goN (back : Bool) (s : List UInt8) (p n : Nat) : Nat := match back with | true => backN s p n | false => onN s p n
/-- Where none leads from. -/
def edge (back : Bool) (s : List UInt8) : Nat := match back with | true => 0 | false => s.length
theorem goN_more {s : List UInt8} (hv : Utf.valid s = true) (back : Bool) (p n : Nat) (hn : 1 ≤ n) : goN back s p (n + 1) = goN back s (goN back s p n) 1 := by
  cases back with
  | true => exact (downs_ord hv).nth_more p n hn
  | false => exact (ups_ord hv).nth_more p n hn
theorem goN_edge {s : List UInt8} (hv : Utf.valid s = true) (back : Bool) (n : Nat) : goN back s (edge back s) n = edge back s := by
  cases back with
  | true => exact (downs_ord hv).top_nth n
  | false => exact (ups_ord hv).top_nth n
theorem at_place {s : List UInt8} (hv : Utf.valid s = true) (j : Nat) : Utf.place s (at_ s j : Int) = true := by
  obtain ⟨rs, hd⟩ := Utf.valid_of hv
  cases h : (Line.L s)[j]? with
  | none => rw [at_, h]; exact Line.place_zero hd
  | some x => rw [at_at h]; exact Line.start_ok h
theorem edge_place {s : List UInt8} (hv : Utf.valid s = true) (back : Bool) : Utf.place s (edge back s : Int) = true := by
  obtain ⟨rs, hd⟩ := Utf.valid_of hv
  cases back with
  | true => exact Line.place_zero hd
  | false => exact (Utf.place_iff hd).2 ⟨rs.length, Nat.le_refl _, by rw [Utf.off_top hd (Nat.le_refl _)]; rfl⟩
/-- A target is a place, and lies on, or back. -/
theorem goN_ok {s : List UInt8} (hv : Utf.valid s = true) (back : Bool) (p n : Nat) :
    Utf.place s (goN back s p n : Int) = true ∧ (goN back s p n = edge back s ∨ (if back then goN back s p n < p else p < goN back s p n)) := by
  cases back with
  | true =>
    rcases nth_mem gt_ (downs s) 0 p n with ⟨h1, h2⟩ | h
    · obtain ⟨j, _, _, _, h3⟩ := (mem_downs hv).1 h1
      refine ⟨?_, .inr ?_⟩
      · show Utf.place s ((nth gt_ (downs s) 0 p n : Nat) : Int) = true
        rw [h3]; exact at_place hv j
      · rw [if_pos rfl]; exact of_decide_eq_true h2
    · refine ⟨?_, .inl h⟩
      show Utf.place s ((nth gt_ (downs s) 0 p n : Nat) : Int) = true
      rw [h]; exact edge_place hv true
  | false =>
    rcases nth_mem lt_ (ups s) s.length p n with ⟨h1, h2⟩ | h
    · obtain ⟨j, _, _, _, h3⟩ := (mem_ups hv).1 h1
      refine ⟨?_, .inr ?_⟩
      · show Utf.place s ((nth lt_ (ups s) s.length p n : Nat) : Int) = true
        rw [h3]; exact at_place hv j
      · rw [if_neg (by decide)]; exact of_decide_eq_true h2
    · refine ⟨?_, .inl h⟩
      show Utf.place s ((nth lt_ (ups s) s.length p n : Nat) : Int) = true
      rw [h]; exact edge_place hv false
/-- Which way a key leads. -/
def way (key : List UInt8) : Option Bool := if key = [125] then some false else if key = [123] then some true else none
/-- What a motion answers: -1: none. -/
def goV (s : List UInt8) (p : Int) (key : List UInt8) (n : Int) : Int :=
  if Utf.place s p = true then (match way key with | none => -1 | some back => if p = (edge back s : Nat) then -1 else (goN back s p.toNat (max n 1).toNat : Nat)) else -1
end Para
end Go.Proofs.Ytjgfcnjnedgejaa
