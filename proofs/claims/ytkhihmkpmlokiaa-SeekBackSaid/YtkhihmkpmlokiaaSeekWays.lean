/-
  Where a find leads, without a program: its kinds, the line's places of its rune, the place beside one; that it is as it should be.
-/
import Derived.Test.YtkhihmkpmlokiaaSeek
namespace Go.Proofs.Ytkhihmkpmlokiaa
namespace Seek
open Utf (dec off one place rune next prev)
open Line (L of_)
/-- The kind that goes the other way; 0: there is none. -/
def other (k : Int) : Int := if k = 102 then 70 else if k = 70 then 102 else if k = 116 then 84 else if k = 84 then 116 else 0
/-- May a find be? -/
def right (k : Int) (r : List UInt8) : Bool := decide (other k ≠ 0) && one r && decide (r ≠ [10])
/-- Does it go on? -/
def ons (k : Int) : Bool := decide (k = 102) || decide (k = 116)
/-- The places of the rune in the line of p. -/
def lh (s r : List UInt8) (p : Int) : List Int := hits s r (Line.start s (of_ s p)).toNat (Line.stop s (of_ s p)).toNat
def times (n : Int) : Nat := (max n 1).toNat
def beside (s : List UInt8) (k q : Int) : Int := if k = 116 then prev s q else if k = 84 then next s q else q
/-- Where a find leads; -1: nowhere. -/
def goV (s : List UInt8) (p k : Int) (r : List UInt8) (n : Int) : Int := if right k r && place s p then beside s k (nth (ons k) (lh s r p) p (times n)) else -1
/-- The rune that was found, of where it leads. -/
def atV (s : List UInt8) (k g : Int) : Int := if k = 116 then next s g else if k = 84 then prev s g else g

theorem times_pos (n : Int) : 1 ≤ times n := by unfold times; omega
theorem other_ne {k : Int} : other k ≠ 0 ↔ k = 102 ∨ k = 70 ∨ k = 116 ∨ k = 84 := by
  unfold other
  repeat' split
  all_goals omega
theorem right_iff {k : Int} {r : List UInt8} : right k r = true ↔ (k = 102 ∨ k = 70 ∨ k = 116 ∨ k = 84) ∧ one r = true ∧ r ≠ [10] := by
  rw [right, Bool.and_eq_true, Bool.and_eq_true, decide_eq_true_eq, decide_eq_true_eq, other_ne, and_assoc]
/-- A rune is what ends where its first one ends. -/
theorem one_next (r : List UInt8) : decide (next r 0 = (r.length : Int)) = one r := by
  apply Bool.eq_iff_iff.2
  rw [decide_eq_true_eq]
  constructor
  · intro h
    cases hd : dec r with
    | none => rw [Utf.next_bad hd] at h; omega
    | some rs =>
      obtain ⟨hall, hs⟩ := Utf.dec_some hd
      rcases rs with _ | ⟨q, rs⟩
      · have h9 : r = [] := by simpa using hs
        rw [h9] at h hd
        have := Utf.next_end hd
        rw [show (([] : List UInt8).length : Int) = 0 from rfl] at this h
        omega
      · have h0 := Utf.next_at hd (i := 0) (by simp)
        rw [Utf.off_zero] at h0
        rw [show ((0 : Nat) : Int) = 0 from rfl, h] at h0
        have h1 := Utf.off_next (rs := q :: rs) (i := 0) (r := q) rfl
        rw [Utf.off_zero] at h1
        have h2 : r.length = q.length + rs.flatten.length := by rw [hs]; simp
        have h3 : rs.flatten = [] := List.eq_nil_of_length_eq_zero (by omega)
        rw [hs, List.flatten_cons, h3, List.append_nil]
        exact hall q (by simp)
  · intro h
    have hd : dec r = some [r] := by have := Utf.dec_of (rs := [r]) (by simpa using h); simpa using this
    have h0 := Utf.next_at hd (i := 0) (by simp)
    rw [Utf.off_zero, Utf.off_next (rs := [r]) (i := 0) (r := r) rfl, Utf.off_zero] at h0
    simpa using h0

/-- All of a place and its line, and of the runes that are looked for in it. -/
structure In (s r : List UInt8) (p : Int) (rs : List (List UInt8)) (c k i m j : Nat) (x : Nat × Nat) : Prop where
  dec : dec s = some rs
  place : p = c
  line : (L s)[k]? = some x
  of : of_ s p = k
  start : Line.start s (of_ s p) = x.1
  stop : Line.stop s (of_ s p) = x.2
  le : x.2 ≤ s.length
  oi : off rs i = x.1
  om : off rs m = c
  oj : off rs j = x.2
  im : i ≤ m
  mj : m ≤ j
  jl : j ≤ rs.length
  lh : lh s r p = hits s r x.1 x.2
  each : ∀ q ∈ Seek.lh s r p, ∃ u, i ≤ u ∧ u < j ∧ rs[u]? = some r ∧ (off rs u : Int) = q
theorem off_le_iff {s : List UInt8} {rs : List (List UInt8)} (hd : dec s = some rs) {i j : Nat} (hi : i ≤ rs.length) (h : off rs i ≤ off rs j) : i ≤ j := by
  rcases Nat.lt_or_ge j i with h1 | h1
  · have := Utf.off_lt (Utf.dec_some hd).1 h1 hi; omega
  · exact h1
theorem off_lt_iff {rs : List (List UInt8)} {i j : Nat} (h : off rs i < off rs j) : i < j := by
  rcases Nat.lt_or_ge i j with h1 | h1
  · exact h1
  · have := Utf.off_mono (rs := rs) h1; omega
theorem in_of {s : List UInt8} {p : Int} (hp : place s p = true) (r : List UInt8) (hr : r ≠ []) : ∃ rs c k i m j x, In s r p rs c k i m j x := by
  obtain ⟨c, k, x, hpc, hk, h1, h2, h3, e1, e2, e3⟩ := Line.place_line hp
  rw [hpc] at hp
  obtain ⟨rs, i, m, j, hd, hi, hm, hj, f1, f2, f3, _, _⟩ := Line.place_runes hk hp h1 h2
  have hl : lh s r p = hits s r x.1 x.2 := by rw [lh, e2, e3]; simp
  refine ⟨rs, c, k, i, m, j, x, hd, hpc, hk, e1, e2, e3, h3, f1, f2, f3, hi, hm, hj, hl, fun q hq => ?_⟩
  rw [hl] at hq
  obtain ⟨n, rfl, g1, g2, g3⟩ := mem_hits.1 hq
  obtain ⟨u, hu, he⟩ := (rune_iff hd hr _).1 g3
  have hul := (List.getElem?_eq_some_iff.1 hu).1
  have he' : off rs u = n := by omega
  exact ⟨u, off_le_iff hd (by omega) (by omega), off_lt_iff (rs := rs) (by omega), hu, he⟩
theorem lh_up (s r : List UInt8) (p : Int) : (lh s r p).Pairwise (· < ·) := hits_up _ _ _ _
theorem lh_nonneg (s r : List UInt8) (p : Int) : ∀ x ∈ lh s r p, 0 ≤ x := fun x hx => by
  obtain ⟨n, rfl, _⟩ := mem_hits.1 hx
  omega
theorem beside_no (s : List UInt8) (k : Int) {q : Int} (h : q < 0) : beside s k q < 0 := by
  unfold beside
  have hp : place s q = false := Utf.place_out (.inl h)
  split
  · rw [Utf.prev_no hp]; decide
  · split
    · rw [Utf.next_no hp]; decide
    · exact h
theorem goV_off {s : List UInt8} {p k : Int} {r : List UInt8} {n : Int} (h : right k r = false ∨ place s p = false) : goV s p k r n = -1 := by
  rw [goV, if_neg]
  rcases h with h | h <;> simp [h]
theorem goV_at {s : List UInt8} {p k : Int} {r : List UInt8} (n : Int) (hr : right k r = true) (hp : place s p = true) : goV s p k r n = beside s k (nth (ons k) (lh s r p) p (times n)) := by
  rw [goV, if_pos (by simp [hr, hp])]
/-- What is found, and what is so of it. -/
theorem goV_ok {s : List UInt8} {p k : Int} {r : List UInt8} {n : Int} (hr : right k r = true) (hp : place s p = true) {q : Int} (hq : nth (ons k) (lh s r p) p (times n) = q) (h0 : 0 ≤ q) :
    0 ≤ goV s p k r n ∧ goV s p k r n ≤ s.length ∧ rune s q = r ∧ place s (goV s p k r n) = true ∧ of_ s (goV s p k r n) = of_ s p ∧ atV s k (goV s p k r n) = q ∧ (ons k = true → p < q) ∧ (ons k = false → q < p) := by
  obtain ⟨hk, h1, _⟩ := right_iff.1 hr
  have hne := Utf.one_ne h1
  obtain ⟨rs, c, k', i, m, j, x, I⟩ := in_of hp r hne
  have hm : q ∈ side (ons k) (lh s r p) p := by rw [← hq]; exact nth_mem (by omega)
  obtain ⟨hm, hlt, hgt⟩ := mem_side hm
  obtain ⟨u, hu1, hu2, hu3, hu4⟩ := I.each q hm
  have hrune : rune s q = r := by rw [← hu4]; exact Utf.rune_at I.dec hu3
  have hin : ∀ v, i ≤ v → v ≤ j → 0 ≤ (off rs v : Int) ∧ (off rs v : Int) ≤ s.length ∧ place s (off rs v : Int) = true ∧ of_ s (off rs v : Int) = of_ s p := fun v g1 g2 => by
    have a1 := Utf.off_mono (rs := rs) g1
    have a2 := Utf.off_mono (rs := rs) g2
    have b1 := I.oi
    have b2 := I.oj
    have b3 := I.le
    refine ⟨by omega, by omega, Utf.place_at I.dec (by have := I.jl; omega), ?_⟩
    rw [I.of]
    exact Line.of_at I.line (by omega) (by omega)
  have e := goV_at n hr hp
  rw [hq] at e
  have hpc := I.place
  have hom := I.om
  rw [e]
  rcases hk with rfl | rfl | rfl | rfl
  · rw [show beside s 102 q = q from rfl, show atV s 102 q = q from rfl]
    obtain ⟨g1, g2, g3, g4⟩ := hin u hu1 (by omega)
    rw [hu4] at g1 g2 g3 g4
    exact ⟨g1, g2, hrune, g3, g4, rfl, hlt, hgt⟩
  · rw [show beside s 70 q = q from rfl, show atV s 70 q = q from rfl]
    obtain ⟨g1, g2, g3, g4⟩ := hin u hu1 (by omega)
    rw [hu4] at g1 g2 g3 g4
    exact ⟨g1, g2, hrune, g3, g4, rfl, hlt, hgt⟩
  · rw [show beside s 116 q = prev s q from rfl]
    have hpq := hlt rfl
    have hmu : m < u := off_lt_iff (rs := rs) (by omega)
    obtain ⟨v, rfl⟩ : ∃ v, u = v + 1 := ⟨u - 1, by omega⟩
    have e1 : prev s q = (off rs v : Int) := by rw [← hu4]; exact Utf.prev_at I.dec (by have := I.jl; omega)
    rw [e1]
    obtain ⟨g1, g2, g3, g4⟩ := hin v (by have := I.im; omega) (by omega)
    refine ⟨g1, g2, hrune, g3, g4, ?_, hlt, hgt⟩
    show next s _ = q
    rw [Utf.next_at I.dec (by have := I.jl; omega), hu4]
  · rw [show beside s 84 q = next s q from rfl]
    have hpq := hgt rfl
    have hmu : u < m := off_lt_iff (rs := rs) (by omega)
    have e1 : next s q = (off rs (u + 1) : Int) := by rw [← hu4]; exact Utf.next_at I.dec (by have := I.jl; have := I.mj; omega)
    rw [e1]
    obtain ⟨g1, g2, g3, g4⟩ := hin (u + 1) (by omega) (by have := I.mj; omega)
    refine ⟨g1, g2, hrune, g3, g4, ?_, hlt, hgt⟩
    show prev s _ = q
    rw [Utf.prev_at I.dec (by have := I.jl; have := I.mj; omega), hu4]
theorem goV_neg {s : List UInt8} {p k : Int} {r : List UInt8} {n : Int} (hr : right k r = true) (hp : place s p = true) : goV s p k r n < 0 ↔ nth (ons k) (lh s r p) p (times n) < 0 := by
  constructor
  · intro h
    refine Classical.byContradiction fun hn => ?_
    have := (goV_ok hr hp rfl (Int.not_lt.1 hn)).1
    omega
  · intro h
    rw [goV_at n hr hp]
    exact beside_no s k h
theorem goV_bounds (s : List UInt8) (p k : Int) (r : List UInt8) (n : Int) : goV s p k r n ≤ s.length := by
  cases hr : right k r with
  | false => rw [goV_off (.inl hr)]; omega
  | true =>
    cases hp : place s p with
    | false => rw [goV_off (.inr hp)]; omega
    | true =>
      by_cases h : goV s p k r n < 0
      · omega
      · have h1 : ¬ nth (ons k) (lh s r p) p (times n) < 0 := fun h1 => h ((goV_neg hr hp).2 h1)
        exact (goV_ok hr hp rfl (Int.not_lt.1 h1)).2.1
/-- The nearest one: no such rune lies between. -/
theorem goV_between {s : List UInt8} {p k : Int} {r : List UInt8} (hr : right k r = true) (hp : place s p = true) {q : Int} (hq : nth (ons k) (lh s r p) p 1 = q) (h0 : 0 ≤ q) (y : Int) (h1 : min q p < y) (h2 : y < max q p) : rune s y ≠ r := by
  intro hy
  obtain ⟨hk, hone, _⟩ := right_iff.1 hr
  have hne := Utf.one_ne hone
  obtain ⟨rs, c, k', i, m, j, x, I⟩ := in_of hp r hne
  have hm : q ∈ side (ons k) (lh s r p) p := by rw [← hq]; exact nth_mem (by omega)
  obtain ⟨hm, hlt, hgt⟩ := mem_side hm
  obtain ⟨u, hu1, hu2, hu3, hu4⟩ := I.each q hm
  have a1 := Utf.off_mono (rs := rs) hu1
  have a2 := Utf.off_mono (rs := rs) (Nat.le_of_lt hu2)
  have a3 := Utf.off_mono (rs := rs) I.im
  have a4 := Utf.off_mono (rs := rs) I.mj
  have b1 := I.oi
  have b2 := I.oj
  have b3 := I.om
  have b4 := I.place
  have hyl : y ∈ lh s r p := by
    rw [I.lh, mem_hits]
    exact ⟨y.toNat, by omega, by omega, by omega, by rw [show ((y.toNat : Nat) : Int) = y by omega]; exact hy⟩
  have hb := nth_between (on := ons k) (lh_up s r p) (p := p) hyl (by omega)
  rw [hq] at hb
  cases ho : ons k with
  | true => have := hlt ho; have := hb.1 ho (by omega); omega
  | false => have := hgt ho; have := hb.2 ho (by omega); omega
/-- More often is further. -/
theorem goV_far {s : List UInt8} {p k : Int} {r : List UInt8} {n : Int} (hr : right k r = true) (hp : place s p = true) (h1 : 0 ≤ goV s p k r 1) (hn : 0 ≤ goV s p k r n) : (ons k = true → goV s p k r 1 ≤ goV s p k r n) ∧ (ons k = false → goV s p k r n ≤ goV s p k r 1) := by
  obtain ⟨hk, hone, _⟩ := right_iff.1 hr
  have hne := Utf.one_ne hone
  obtain ⟨rs, c, k', i, m, j, x, I⟩ := in_of hp r hne
  have hq1 : 0 ≤ nth (ons k) (lh s r p) p 1 := Int.not_lt.1 fun h => by have := (goV_neg (n := 1) hr hp).2 h; omega
  have hqn : 0 ≤ nth (ons k) (lh s r p) p (times n) := Int.not_lt.1 fun h => by have := (goV_neg (n := n) hr hp).2 h; omega
  have hf := nth_far (lh_up s r p) hqn hq1
  have e1 := goV_at 1 hr hp
  have en := goV_at n hr hp
  rw [show times 1 = 1 from rfl] at e1
  have m1 := mem_side (nth_mem hq1)
  have mn := mem_side (nth_mem hqn)
  rw [e1, en]
  generalize nth (ons k) (lh s r p) p 1 = q1 at *
  generalize nth (ons k) (lh s r p) p (times n) = qn at *
  obtain ⟨u, hu1, hu2, hu3, rfl⟩ := I.each q1 m1.1
  obtain ⟨v, hv1, hv2, hv3, rfl⟩ := I.each qn mn.1
  have hul := I.jl
  have key : ∀ a b : Nat, a < j → b < j → (off rs a : Int) ≤ off rs b → a ≤ b := fun a b h3 h4 h => off_le_iff I.dec (by omega) (by omega)
  rcases hk with rfl | rfl | rfl | rfl
  · exact hf
  · exact hf
  · refine ⟨fun ho => ?_, fun ho => absurd ho (by decide)⟩
    have h3 := key _ _ hu2 hv2 (hf.1 ho)
    have h4 := m1.2.1 ho
    have b3 := I.om
    have b4 := I.place
    have hmu : m < u := off_lt_iff (rs := rs) (by omega)
    obtain ⟨a, rfl⟩ : ∃ a, u = a + 1 := ⟨u - 1, by omega⟩
    obtain ⟨b, rfl⟩ : ∃ b, v = b + 1 := ⟨v - 1, by omega⟩
    show prev s _ ≤ prev s _
    rw [Utf.prev_at I.dec (by omega), Utf.prev_at I.dec (by omega)]
    have := Utf.off_mono (rs := rs) (i := a) (j := b) (by omega)
    omega
  · refine ⟨fun ho => absurd ho (by decide), fun ho => ?_⟩
    have h3 := key _ _ hv2 hu2 (hf.2 ho)
    show next s _ ≤ next s _
    rw [Utf.next_at I.dec (by omega), Utf.next_at I.dec (by omega)]
    have := Utf.off_mono (rs := rs) (i := v + 1) (j := u + 1) (by omega)
    omega
theorem goV_first {s : List UInt8} {p k : Int} {r : List UInt8} (n : Int) (h : goV s p k r 1 < 0) : goV s p k r n < 0 := by
  cases hr : right k r with
  | false => rw [goV_off (.inl hr)]; decide
  | true =>
    cases hp : place s p with
    | false => rw [goV_off (.inr hp)]; decide
    | true =>
      have h1 := (goV_neg (n := 1) hr hp).1 h
      rw [show times 1 = 1 from rfl] at h1
      rw [goV_neg hr hp, nth_first (lh_nonneg s r p) _ h1]
      decide
/-- Who stands on such a rune is one of the places. -/
theorem mem_lh {s : List UInt8} {p : Int} {r : List UInt8} (h1 : one r = true) (h10 : r ≠ [10]) (hp : place s p = true) (h : rune s p = r) : p ∈ lh s r p := by
  obtain ⟨rs, c, k', i, m, j, x, I⟩ := in_of hp r (Utf.one_ne h1)
  have a3 := Utf.off_mono (rs := rs) I.im
  have a4 := Utf.off_mono (rs := rs) I.mj
  have b1 := I.oi
  have b2 := I.oj
  have b3 := I.om
  rw [I.lh, mem_hits]
  refine ⟨c, I.place, by omega, ?_, by rw [← I.place]; exact h⟩
  rcases Nat.lt_or_ge c x.2 with h2 | h2
  · exact h2
  · exfalso
    have hc : c = x.2 := by omega
    rw [I.place, hc] at h
    obtain ⟨u, hu, he⟩ := (rune_iff I.dec (Utf.one_ne h1) _).1 h
    have hpre := (pre_iff I.dec h1 x.2).2 ⟨u, hu, by omega⟩
    obtain ⟨t, ht⟩ := hpre
    obtain ⟨a, q, ha, _, hlen, _⟩ := Utf.one_shape h1
    have hx : s[x.2]? = some a := by
      have : (s.drop x.2)[0]? = some a := by rw [← ht, ha]; rfl
      simpa using this
    have W := Line.L_whole (Line.L_valid I.line)
    cases hy : (L s)[k' + 1]? with
    | none =>
      have := W.last _ _ I.line hy
      have := (List.getElem?_eq_some_iff.1 hx).1
      omega
    | some y =>
      have := (W.more _ _ _ I.line hy).2
      rw [hx] at this
      injection this with this
      subst this
      have : Utf.len (10 : UInt8).toNat = 1 := by decide
      rw [this, ha] at hlen
      simp at hlen
      exact h10 (by rw [ha, hlen])
/-- F leads back from where f leads to, and the other way round. -/
theorem goV_back {s : List UInt8} {p k : Int} {r : List UInt8} {n : Int} (hr : right k r = true) (hk : k = 102 ∨ k = 70) (hp : place s p = true) (h : rune s p = r) (h0 : 0 ≤ goV s p k r n) : goV s (goV s p k r n) (other k) r n = p := by
  obtain ⟨_, h1, h10⟩ := right_iff.1 hr
  have hq : 0 ≤ nth (ons k) (lh s r p) p (times n) := Int.not_lt.1 fun h => by have := (goV_neg (n := n) hr hp).2 h; omega
  obtain ⟨_, _, _, g4, g5, _⟩ := goV_ok hr hp rfl hq
  have hb := nth_back (lh_up s r p) (mem_lh h1 h10 hp h) (times_pos n) hq
  have e : goV s p k r n = nth (ons k) (lh s r p) p (times n) := by
    rw [goV_at n hr hp]
    rcases hk with rfl | rfl <;> rfl
  have hl : lh s r (goV s p k r n) = lh s r p := by rw [lh, g5]; rfl
  have hr' : right (other k) r = true := by
    rw [right_iff]
    refine ⟨?_, h1, h10⟩
    rcases hk with rfl | rfl <;> simp [other]
  rw [goV_at n hr' g4, hl]
  have e2 : ∀ z, beside s (other k) z = z := fun z => by rcases hk with rfl | rfl <;> rfl
  have e3 : ons (other k) = !ons k := by rcases hk with rfl | rfl <;> rfl
  rw [e2, e3, e, hb]
end Seek
end Go.Proofs.Ytkhihmkpmlokiaa
