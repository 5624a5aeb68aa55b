/-
  Pairs without a program: how they lie, the other bracket, the pair around a place.
-/
import Derived.Test.YtchpkeelnfmlbaaGreatPairKinds
import Derived.Test.YtchpkeelnfmlbaaGreatPairAny
namespace Go.Proofs.YtchpkeelnfmlbaaGreat
namespace Pair
open Utf (dec off one place valid)
open Line (L of_)

/-- The other one of a place, in a list of pairs. -/
def lk : List (Nat × Nat) → Nat → Option Nat
  | [], _ => none
  | x :: l, q => if q = x.1 then some x.2 else if q = x.2 then some x.1 else lk l q
/-- The other one of a bracket. -/
def at_ (s : List UInt8) (q : Nat) : Option Nat := lk (all s [opn (s[q]?.getD 0)]) q
/-- What is left of its line, from a place on. -/
def part (s : List UInt8) (p : Nat) : List UInt8 := Line.seg s p (Line.stop s (of_ s (p : Int))).toNat
/-- Where Match leads. -/
def mt (s : List UInt8) (p : Int) : Option Nat := if place s p then (if Lib.indexAny (part s p.toNat) brk < 0 then none else at_ s (p + Lib.indexAny (part s p.toNat) brk).toNat) else none
/-- The last pair around a place. -/
def arnd : List (Nat × Nat) → Int → Option (Nat × Nat)
  | [], _ => none
  | x :: l, p => match arnd l p with | some y => some y | none => if (x.1 : Int) ≤ p ∧ p ≤ x.2 then some x else none
def ar (s k : List UInt8) (p : Int) : Option (Nat × Nat) := if place s p then arnd (all s k) p else none
/-- What is answered. -/
def resM : Option Nat → Value
  | some q => .tuple #[.int .i64 (q : Nat), .bool true]
  | none => .tuple #[.int .i64 0, .bool false]
def resA : Option (Nat × Nat) → Value
  | some x => .tuple #[.int .i64 (x.1 : Nat), .int .i64 (x.2 : Nat), .bool true]
  | none => .tuple #[.int .i64 0, .int .i64 0, .bool false]

/-! How pairs lie. -/
theorem oth_in {o c : UInt8} : ∀ {r : List UInt8} {d i q : Nat}, oth o c r d i = some q → i ≤ q ∧ q < i + r.length ∧ r[q - i]? = some c
  | [], _, _, _, h => by simp [oth] at h
  | b :: r, d, i, q, h => by
    have go : ∀ {e}, oth o c r e (i + 1) = some q → i ≤ q ∧ q < i + (b :: r).length ∧ (b :: r)[q - i]? = some c := fun h1 => by
      obtain ⟨h2, h3, h4⟩ := oth_in h1
      refine ⟨by omega, by simp; omega, ?_⟩
      rw [show q - i = q - (i + 1) + 1 by omega, List.getElem?_cons_succ]
      exact h4
    rw [oth] at h
    split at h
    · exact go h
    · split at h
      · rename_i hb
        split at h
        · cases h
          subst hb
          exact ⟨Nat.le_refl _, by simp, by simp⟩
        · exact go h
      · exact go h
theorem oth_lt {o c : UInt8} : ∀ {r : List UInt8} {d e i p q : Nat}, 1 ≤ d → d < e → oth o c r d i = some p → oth o c r e i = some q → p < q
  | [], _, _, _, _, _, _, _, h, _ => by simp [oth] at h
  | b :: r, d, e, i, p, q, hd, hde, h, h' => by
    rw [oth] at h h'
    split at h
    · rename_i hb
      rw [if_pos hb] at h'
      exact oth_lt (by omega) (by omega) h h'
    · rename_i hb
      rw [if_neg hb] at h'
      split at h
      · rename_i hc
        rw [if_pos hc] at h'
        split at h
        · cases h
          split at h'
          · omega
          · have := (oth_in h').1; omega
        · rw [if_neg (show ¬ e ≤ 1 by omega)] at h'
          exact oth_lt (by omega) (by omega) h h'
      · rename_i hc
        rw [if_neg hc] at h'
        exact oth_lt hd hde h h'
theorem prs_in {o c : UInt8} : ∀ {r : List UInt8} {i : Nat} {x : Nat × Nat}, x ∈ prs o c r i → i ≤ x.1 ∧ x.1 < x.2 ∧ x.2 < i + r.length ∧ r[x.1 - i]? = some o ∧ r[x.2 - i]? = some c
  | [], _, _, h => by simp [prs] at h
  | b :: r, i, x, h => by
    have go : x ∈ prs o c r (i + 1) → i ≤ x.1 ∧ x.1 < x.2 ∧ x.2 < i + (b :: r).length ∧ (b :: r)[x.1 - i]? = some o ∧ (b :: r)[x.2 - i]? = some c := fun h1 => by
      obtain ⟨h2, h3, h4, h5, h6⟩ := prs_in h1
      refine ⟨by omega, h3, by simp; omega, ?_, ?_⟩
      · rw [show x.1 - i = x.1 - (i + 1) + 1 by omega, List.getElem?_cons_succ]; exact h5
      · rw [show x.2 - i = x.2 - (i + 1) + 1 by omega, List.getElem?_cons_succ]; exact h6
    rw [prs] at h
    split at h
    · rename_i hb
      split at h
      · rename_i q hq
        rcases List.mem_cons.1 h with rfl | h
        · obtain ⟨h2, h3, h4⟩ := oth_in hq
          refine ⟨Nat.le_refl _, by show i < q; omega, by simp; omega, by subst hb; simp, ?_⟩
          rw [show q - i = q - (i + 1) + 1 by omega, List.getElem?_cons_succ]
          exact h4
        · exact go h
      · exact go h
    · exact go h
theorem prs_oth {o c : UInt8} : ∀ {r : List UInt8} {d i q : Nat} {x : Nat × Nat}, 1 ≤ d → oth o c r d i = some q → x ∈ prs o c r i → x.2 < q ∨ q < x.1
  | [], _, _, _, _, _, h, _ => by simp [oth] at h
  | b :: r, d, i, q, x, hd, h, hx => by
    rw [oth] at h
    rw [prs] at hx
    split at h
    · rename_i hb
      rw [if_pos hb] at hx
      split at hx
      · rename_i q' hq'
        rcases List.mem_cons.1 hx with rfl | hx
        · exact .inl (oth_lt (Nat.le_refl _) (by omega) hq' h)
        · exact prs_oth (by omega) h hx
      · exact prs_oth (by omega) h hx
    · rename_i hb
      rw [if_neg hb] at hx
      split at h
      · split at h
        · cases h
          have := (prs_in hx).1
          exact .inr (by omega)
        · exact prs_oth (by omega) h hx
      · exact prs_oth hd h hx
/-- One ahead of another: about it, or ahead of all of it. -/
def Lie (y x : Nat × Nat) : Prop := y.1 < x.1 ∧ (x.2 < y.2 ∨ y.2 < x.1)
theorem prs_lie (o c : UInt8) : ∀ (r : List UInt8) (i : Nat), (prs o c r i).Pairwise Lie
  | [], _ => List.Pairwise.nil
  | b :: r, i => by
    rw [prs]
    split
    · split
      · rename_i q hq
        refine List.Pairwise.cons (fun x hx => ⟨?_, prs_oth (Nat.le_refl _) hq hx⟩) (prs_lie o c r (i + 1))
        have := (prs_in hx).1
        show i < x.1; omega
      · exact prs_lie o c r (i + 1)
    · exact prs_lie o c r (i + 1)
theorem all_eq {s : List UInt8} {o c : UInt8} (hk : clo [o] = some c) (hv : valid s = true) : all s [o] = prs o c s 0 := by
  rw [all, hk]
  simp only []
  rw [if_pos hv]
  rfl
theorem all_mem {s k : List UInt8} {x : Nat × Nat} (h : x ∈ all s k) : ∃ o c, k = [o] ∧ clo k = some c ∧ valid s = true ∧ x.1 < x.2 ∧ x.2 < s.length ∧ s[x.1]? = some o ∧ s[x.2]? = some c := by
  cases hk : clo k with
  | none => rw [all_no (.inl hk)] at h; cases h
  | some c =>
    obtain ⟨o, rfl, _⟩ := clo_facts hk
    cases hv : valid s with
    | false => rw [all_no (.inr hv)] at h; cases h
    | true =>
      rw [all_eq hk hv] at h
      obtain ⟨_, h2, h3, h4, h5⟩ := prs_in h
      exact ⟨o, c, rfl, rfl, rfl, h2, by omega, by simpa using h4, by simpa using h5⟩
theorem all_lie (s k : List UInt8) : (all s k).Pairwise Lie := by
  rw [all]
  split
  · split
    · exact prs_lie _ _ _ _
    · exact List.Pairwise.nil
  · exact List.Pairwise.nil
theorem arnd_mem : ∀ {l : List (Nat × Nat)} {p : Int} {x : Nat × Nat}, arnd l p = some x → x ∈ l ∧ (x.1 : Int) ≤ p ∧ p ≤ x.2
  | [], _, _, h => by cases h
  | y :: l, p, x, h => by
    rw [arnd] at h
    split at h
    · rename_i z hz
      cases h
      obtain ⟨h1, h2⟩ := arnd_mem hz
      exact ⟨by simp [h1], h2⟩
    · split at h
      · rename_i hc
        cases h
        exact ⟨by simp, hc⟩
      · cases h
theorem arnd_least : ∀ {l : List (Nat × Nat)} {p : Int} {x : Nat × Nat}, l.Pairwise Lie → x ∈ l → (x.1 : Int) ≤ p → p ≤ x.2 → ∃ a, arnd l p = some a ∧ x.1 ≤ a.1 ∧ a.2 ≤ x.2
  | y :: l, p, x, hl, hx, h1, h2 => by
    rw [List.pairwise_cons] at hl
    rw [arnd]
    cases hz : arnd l p with
    | some z =>
      obtain ⟨m1, m2, m3⟩ := arnd_mem hz
      refine ⟨z, rfl, ?_⟩
      rcases List.mem_cons.1 hx with rfl | hx
      · obtain ⟨h3, h4⟩ := hl.1 z m1
        exact ⟨by omega, by omega⟩
      · obtain ⟨a, ha, h3⟩ := arnd_least hl.2 hx h1 h2
        rw [hz] at ha
        cases ha
        exact h3
    | none =>
      rcases List.mem_cons.1 hx with rfl | hx
      · exact ⟨x, if_pos ⟨h1, h2⟩, Nat.le_refl _, Nat.le_refl _⟩
      · obtain ⟨a, ha, _⟩ := arnd_least hl.2 hx h1 h2
        rw [hz] at ha
        cases ha
/-- No bracket is of two pairs. -/
def Uniq (l : List (Nat × Nat)) : Prop := ∀ x ∈ l, ∀ y ∈ l, (x.1 = y.1 → x = y) ∧ (x.2 = y.2 → x = y) ∧ x.1 ≠ y.2
theorem lie_cases : ∀ {l : List (Nat × Nat)}, l.Pairwise Lie → ∀ x ∈ l, ∀ y ∈ l, x = y ∨ Lie x y ∨ Lie y x
  | z :: l, h, x, hx, y, hy => by
    rw [List.pairwise_cons] at h
    have h1 := h.1
    have h2 := lie_cases h.2
    rcases List.mem_cons.1 hx with e | kx
    · rcases List.mem_cons.1 hy with f | ky
      · exact .inl (e.trans f.symm)
      · exact .inr (.inl (by rw [e]; exact h1 y ky))
    · rcases List.mem_cons.1 hy with f | ky
      · exact .inr (.inr (by rw [f]; exact h1 x kx))
      · exact h2 x kx y ky
theorem all_uniq (s k : List UInt8) : Uniq (all s k) := by
  intro x hx y hy
  obtain ⟨o, c, rfl, hk, _, h1, h2, h3, h4⟩ := all_mem hx
  obtain ⟨o', c', e, hk', _, g1, g2, g3, g4⟩ := all_mem hy
  injection e with e
  subst e
  rw [hk] at hk'
  injection hk' with e
  subst e
  obtain ⟨o', e, hoc, _, _⟩ := clo_facts hk
  injection e with e
  subst e
  have hc := lie_cases (all_lie s [o]) x hx y hy
  refine ⟨fun e => ?_, fun e => ?_, fun e => ?_⟩
  · rcases hc with h | ⟨h, _⟩ | ⟨h, _⟩
    · exact h
    · omega
    · omega
  · rcases hc with h | ⟨h, h'⟩ | ⟨h, h'⟩
    · exact h
    · omega
    · omega
  · rw [e, g4] at h3
    injection h3 with h3
    exact hoc h3.symm
theorem lk_mem : ∀ {l : List (Nat × Nat)} {q v : Nat}, lk l q = some v → (q, v) ∈ l ∨ (v, q) ∈ l
  | [], _, _, h => by cases h
  | x :: l, q, v, h => by
    rw [lk] at h
    split at h
    · rename_i e
      cases h; subst e
      exact .inl (by simp)
    · split at h
      · rename_i e
        cases h; subst e
        exact .inr (by simp)
      · rcases lk_mem h with h | h
        · exact .inl (by simp [h])
        · exact .inr (by simp [h])
theorem lk_at : ∀ {l : List (Nat × Nat)} {a b : Nat}, Uniq l → (a, b) ∈ l → lk l a = some b ∧ lk l b = some a
  | x :: l, a, b, hu, h => by
    have h1 := hu x (by simp) (a, b) h
    have h2 := hu (a, b) h x (by simp)
    rw [lk, lk]
    by_cases e : x = (a, b)
    · subst e
      refine ⟨if_pos rfl, ?_⟩
      rw [if_neg (fun e => h1.2.2 e.symm), if_pos rfl]
    · have n1 : ¬ a = x.1 := fun h => e (h1.1 h.symm)
      have n2 : ¬ a = x.2 := h2.2.2
      have n3 : ¬ b = x.1 := fun h => h1.2.2 h.symm
      have n4 : ¬ b = x.2 := fun h => e (h1.2.1 h.symm)
      rw [if_neg n1, if_neg n2, if_neg n3, if_neg n4]
      refine lk_at (fun y hy z hz => hu y (by simp [hy]) z (by simp [hz])) ?_
      rcases List.mem_cons.1 h with h | h
      · exact absurd h.symm e
      · exact h
/-- The first of a text that is one of the six. -/
theorem any_spec {l : List UInt8} (h : ¬ Lib.indexAny l brk < 0) : ∃ (i : Nat) (b : UInt8), Lib.indexAny l brk = i ∧ l[i]? = some b ∧ b ∈ brk := by
  induction l with
  | nil => rw [Lib.indexAny] at h; exact absurd (by decide) h
  | cons a l ih =>
    rw [Lib.indexAny] at h ⊢
    by_cases hc : brk.contains a
    · rw [if_pos hc]
      exact ⟨0, a, rfl, rfl, by simpa using hc⟩
    · rw [if_neg hc] at h ⊢
      by_cases he : Lib.indexAny l brk == -1
      · rw [if_pos he] at h; exact absurd (by decide) h
      · rw [if_neg he] at h ⊢
        have hge := Lib.indexAny_ge brk l
        have he' : Lib.indexAny l brk ≠ -1 := by simpa using he
        obtain ⟨i, b, h1, h2, h3⟩ := ih (by omega)
        exact ⟨i + 1, b, by rw [h1]; rfl, by simpa using h2, h3⟩
theorem brk_facts {b : UInt8} (h : b ∈ brk) : b.toNat < 128 ∧ b ≠ 10 ∧ ∃ c, clo [opn b] = some c ∧ (b = opn b ∨ b = c) ∧ opn c = opn b ∧ opn (opn b) = opn b := by
  have : b = 40 ∨ b = 41 ∨ b = 91 ∨ b = 93 ∨ b = 123 ∨ b = 125 := by simpa [brk] using h
  rcases this with rfl | rfl | rfl | rfl | rfl | rfl
  · exact ⟨by decide, by decide, 41, rfl, .inl rfl, rfl, rfl⟩
  · exact ⟨by decide, by decide, 41, rfl, .inr rfl, rfl, rfl⟩
  · exact ⟨by decide, by decide, 93, rfl, .inl rfl, rfl, rfl⟩
  · exact ⟨by decide, by decide, 93, rfl, .inr rfl, rfl, rfl⟩
  · exact ⟨by decide, by decide, 125, rfl, .inl rfl, rfl, rfl⟩
  · exact ⟨by decide, by decide, 125, rfl, .inr rfl, rfl, rfl⟩
/-- All of a place and the rest of its line. -/
theorem part_of {s : List UInt8} {p : Int} (hp : place s p = true) : ∃ (n e k : Nat) (rs : List (List UInt8)) (u v : Nat), p = n ∧ n ≤ e ∧ e ≤ s.length ∧ of_ s p = k ∧ Line.stop s (k : Int) = e ∧ part s n = Line.seg s n e ∧ dec s = some rs ∧ off rs u = n ∧ off rs v = e ∧ ∀ i, n ≤ i → i < e → s[i]? ≠ some 10 := by
  obtain ⟨n, k, x, rfl, hk, h1, h2, h3, e1, e2, e3⟩ := Line.place_line hp
  obtain ⟨rs, i, m, j, hd, hi, hm, hj, f1, f2, f3, _, _⟩ := Line.place_runes hk hp h1 h2
  rw [e1] at e3
  have hw := (Line.L_whole (Line.L_valid hk)).each k x hk
  exact ⟨n, x.2, k, rs, m, j, rfl, h2, h3, e1, e3, by rw [part, e1, e3]; rfl, hd, f2, f3, fun i h5 h6 => hw.2.2.2 i (by omega) h6⟩
theorem seg_get {s : List UInt8} {a b i : Nat} (h : a + i < b) : (Line.seg s a b)[i]? = s[a + i]? := by
  rw [Line.seg, List.getElem?_drop, List.getElem?_take_of_lt h]
theorem seg_length {s : List UInt8} {a b : Nat} (h : b ≤ s.length) : (Line.seg s a b).length = b - a := by
  rw [Line.seg, List.length_drop, List.length_take]; omega
/-- Where Match begins to look up. -/
theorem mt_some {s : List UInt8} {p : Int} {q : Nat} (h : mt s p = some q) : ∃ (n b : Nat) (y : UInt8), p = n ∧ n ≤ b ∧ s[b]? = some y ∧ y ∈ brk ∧ at_ s b = some q ∧ valid s = true := by
  rw [mt] at h
  split at h
  · rename_i hp
    split at h
    · cases h
    · rename_i hn
      obtain ⟨n, e, k, rs, u, v, rfl, h1, h2, h3, h4, h5, h6, _⟩ := part_of hp
      rw [Int.toNat_natCast] at h hn
      obtain ⟨i, y, g1, g2, g3⟩ := any_spec hn
      rw [g1, ← Int.natCast_add, Int.toNat_natCast] at h
      have hl := (List.getElem?_eq_some_iff.1 g2).1
      rw [h5, seg_length h2] at hl
      rw [h5, seg_get (by omega)] at g2
      exact ⟨n, n + i, y, rfl, by omega, g2, g3, h, by rw [valid, h6]; rfl⟩
  · cases h
/-- At a bracket it is looked up at once. -/
theorem mt_at {s : List UInt8} {q : Nat} {y : UInt8} (hv : valid s = true) (hy : s[q]? = some y) (hb : y ∈ brk) : mt s (q : Int) = at_ s q := by
  obtain ⟨h128, h10, _⟩ := brk_facts hb
  obtain ⟨rs, hd⟩ := Utf.valid_of hv
  have hq := (List.getElem?_eq_some_iff.1 hy).1
  have hpl : place s (q : Int) = true := by
    have hpre : [y] <+: s.drop q := by
      rw [List.drop_eq_getElem_cons hq, (List.getElem?_eq_some_iff.1 hy).2]
      exact ⟨s.drop (q + 1), rfl⟩
    obtain ⟨i, hi, he⟩ := (Seek.pre_iff hd ((Utf.one1 y).2 h128) q).1 hpre
    rw [← he]
    exact Utf.place_at hd (Nat.le_of_lt (List.getElem?_eq_some_iff.1 hi).1)
  obtain ⟨n, k, x, e0, hk, h1, h2, h3, e1, e2, e3⟩ := Line.place_line hpl
  obtain rfl : n = q := by omega
  have hlt : n < x.2 := by
    rcases Nat.lt_or_ge n x.2 with h | h
    · exact h
    · have he : n = x.2 := by omega
      cases hk1 : (L s)[k + 1]? with
      | none => have := (Line.L_whole hv).last k x hk hk1; omega
      | some z =>
        have := ((Line.L_whole hv).more k x z hk hk1).2
        rw [← he, hy] at this
        injection this with this
        exact absurd this h10
  have hp0 : part s n = Line.seg s n x.2 := by rw [part, e3]; rfl
  have h0 : (part s n)[0]? = some y := by rw [hp0, seg_get (by omega)]; exact hy
  have hi : Lib.indexAny (part s n) brk = (0 : Nat) := Lib.indexAny_hit (Lib.NoAny.zero _ _) h0 (by simpa using hb)
  rw [mt, if_pos hpl, Int.toNat_natCast, hi, if_neg (by decide)]
  simp
/-- Match leads back from where it leads. -/
theorem mt_back {s : List UInt8} {p : Int} {q : Nat} (h : mt s p = some q) : ∃ r : Nat, mt s (q : Int) = some r ∧ mt s (r : Int) = some q ∧ p ≤ r ∧ r ≠ q := by
  obtain ⟨n, b, y, rfl, hnb, hy, hb, ha, hv⟩ := mt_some h
  obtain ⟨_, _, c, hc, hbc, hoc, hoo⟩ := brk_facts hb
  have ha' := ha
  rw [at_, hy, Option.getD_some] at ha'
  have hm : ((b, q) ∈ all s [opn y] ∧ s[q]? = some c) ∨ ((q, b) ∈ all s [opn y] ∧ s[q]? = some (opn y)) := by
    rcases lk_mem ha' with hm | hm
    · obtain ⟨o, c', e, hk, _, g1, g2, g3, g4⟩ := all_mem hm
      rw [hc] at hk; injection hk with hk; subst hk
      exact .inl ⟨hm, g4⟩
    · obtain ⟨o, c', e, hk, _, g1, g2, g3, g4⟩ := all_mem hm
      injection e with e; subst e
      exact .inr ⟨hm, g3⟩
  have hq : ∃ z, s[q]? = some z ∧ z ∈ brk ∧ opn z = opn y := by
    have hcb : c ∈ brk ∧ opn y ∈ brk := by
      have : y = 40 ∨ y = 41 ∨ y = 91 ∨ y = 93 ∨ y = 123 ∨ y = 125 := by simpa [brk] using hb
      rcases this with rfl | rfl | rfl | rfl | rfl | rfl <;> (cases hc; exact ⟨by decide, by decide⟩)
    rcases hm with ⟨_, hz⟩ | ⟨_, hz⟩
    · exact ⟨c, hz, hcb.1, hoc⟩
    · exact ⟨_, hz, hcb.2, hoo⟩
  obtain ⟨z, hz, hzb, hzo⟩ := hq
  refine ⟨b, ?_, by rw [mt_at hv hy hb]; exact ha, by omega, ?_⟩
  · rw [mt_at hv hz hzb, at_, hz, Option.getD_some, hzo]
    rcases hm with ⟨hm, _⟩ | ⟨hm, _⟩
    · exact (lk_at (all_uniq s _) hm).2
    · exact (lk_at (all_uniq s _) hm).1
  · rcases hm with ⟨hm, _⟩ | ⟨hm, _⟩
    · obtain ⟨_, _, _, _, _, g, _⟩ := all_mem hm
      exact fun e => by simp only [e] at g; omega
    · obtain ⟨_, _, _, _, _, g, _⟩ := all_mem hm
      exact fun e => by simp only [e] at g; omega
end Pair
end Go.Proofs.YtchpkeelnfmlbaaGreat
