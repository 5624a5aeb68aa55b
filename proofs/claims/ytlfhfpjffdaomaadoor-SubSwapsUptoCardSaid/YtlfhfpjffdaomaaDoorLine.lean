/-
  Lines of bytes, without a program: where each begins and ends, and that they are all of the bytes.
-/
import Derived.Test.YtlfhfpjffdaomaaDoorUtfPlaces
namespace Go.Proofs.YtlfhfpjffdaomaaDoor
namespace Line
open Utf (dec off valid place next prev count offset)

/-- The lines of bytes that stand at i, if the first of them began at a. -/
def lns (a i : Nat) : List UInt8 → List (Nat × Nat)
  | [] => [(a, i)]
  | b :: t => if b = 10 then (a, i) :: lns (i + 1) (i + 1) t else lns a (i + 1) t
def lines (s : List UInt8) : List (Nat × Nat) := lns 0 0 s

/-- What lines of a text are. -/
structure Whole (s : List UInt8) (L : List (Nat × Nat)) (a : Nat) : Prop where
  head : ∃ x, L[0]? = some x ∧ x.1 = a
  each : ∀ (k : Nat) x, L[k]? = some x → a ≤ x.1 ∧ x.1 ≤ x.2 ∧ x.2 ≤ s.length ∧ ∀ p, x.1 ≤ p → p < x.2 → s[p]? ≠ some 10
  more : ∀ (k : Nat) x y, L[k]? = some x → L[k + 1]? = some y → y.1 = x.2 + 1 ∧ s[x.2]? = some 10
  last : ∀ (k : Nat) x, L[k]? = some x → L[k + 1]? = none → x.2 = s.length
theorem lns_whole {s : List UInt8} (t : List UInt8) {a i : Nat} (ht : s.drop i = t) (hi : i ≤ s.length) (ha : a ≤ i) (hc : ∀ p, a ≤ p → p < i → s[p]? ≠ some 10) : Whole s (lns a i t) a := by
  induction t generalizing a i with
  | nil =>
    have hl : i = s.length := by have := congrArg List.length ht; simp at this; omega
    refine ⟨⟨(a, i), rfl, rfl⟩, fun k x hk => ?_, fun k x y hk hk2 => ?_, fun k x hk _ => ?_⟩
    · cases k with
      | zero => simp [lns] at hk; subst hk; exact ⟨Nat.le_refl _, ha, hi, hc⟩
      | succ k => simp [lns] at hk
    · simp [lns] at hk2
    · cases k with
      | zero => simp [lns] at hk; subst hk; exact hl
      | succ k => simp [lns] at hk
  | cons b t ih =>
    have hlt : i < s.length := by
      rcases Nat.lt_or_ge i s.length with h | h
      · exact h
      · rw [List.drop_eq_nil_of_le h] at ht; cases ht
    have hg := List.drop_eq_getElem_cons hlt
    rw [ht] at hg
    injection hg with hb hd
    have hsb : s[i]? = some b := by rw [List.getElem?_eq_getElem hlt, hb]
    by_cases h10 : b = 10
    · subst h10
      have W := ih (a := i + 1) (i := i + 1) hd.symm hlt (Nat.le_refl _) (fun p h1 h2 => absurd h1 (by omega))
      rw [lns, if_pos rfl]
      refine ⟨⟨(a, i), rfl, rfl⟩, fun k x hk => ?_, fun k x y hk hk2 => ?_, fun k x hk hk2 => ?_⟩
      · cases k with
        | zero => simp at hk; subst hk; exact ⟨Nat.le_refl _, ha, hi, hc⟩
        | succ k =>
          have := W.each k x (by simpa using hk)
          exact ⟨by omega, this.2⟩
      · cases k with
        | zero =>
          simp at hk; subst hk
          obtain ⟨z, hz, hz1⟩ := W.head
          rw [List.getElem?_cons_succ, hz] at hk2
          injection hk2 with hk2
          subst hk2
          exact ⟨hz1, hsb⟩
        | succ k => exact W.more k x y (by simpa using hk) (by simpa using hk2)
      · cases k with
        | zero =>
          obtain ⟨z, hz, hz1⟩ := W.head
          rw [List.getElem?_cons_succ, hz] at hk2
          cases hk2
        | succ k => exact W.last k x (by simpa using hk) (by simpa using hk2)
    · rw [lns, if_neg h10]
      exact ih hd.symm hlt (by omega) (fun p h1 h2 => by
        rcases Nat.lt_or_ge p i with h3 | h3
        · exact hc p h1 h3
        · rw [show p = i by omega, hsb]
          intro h; injection h with h; exact h10 h)
theorem lines_whole (s : List UInt8) : Whole s (lines s) 0 := lns_whole s (by simp) (Nat.zero_le _) (Nat.le_refl _) (fun p _ h => absurd h (by omega))
theorem lns_ne (a i : Nat) (t : List UInt8) : 0 < (lns a i t).length := by
  induction t generalizing a i with
  | nil => simp [lns]
  | cons b t ih => rw [lns]; split; simp; exact ih _ _
theorem lns_length (a i : Nat) (t : List UInt8) : (lns a i t).length ≤ t.length + 1 := by
  induction t generalizing a i with
  | nil => simp [lns]
  | cons b t ih =>
    rw [lns]
    split
    · have := ih (i + 1) (i + 1); simp; omega
    · have := ih a (i + 1); simp; omega
theorem lines_length (s : List UInt8) : (lines s).length ≤ s.length + 1 := lns_length 0 0 s
/-- One step along the bytes. -/
theorem lns_step {s : List UInt8} {a i : Nat} {b : UInt8} (h : s[i]? = some b) : lns a i (s.drop i) = if b = 10 then (a, i) :: lns (i + 1) (i + 1) (s.drop (i + 1)) else lns a (i + 1) (s.drop (i + 1)) := by
  obtain ⟨hi, hb⟩ := List.getElem?_eq_some_iff.1 h
  rw [List.drop_eq_getElem_cons hi, hb, lns]
theorem lns_end {s : List UInt8} {a i : Nat} (h : s.length ≤ i) : lns a i (s.drop i) = [(a, i)] := by rw [List.drop_eq_nil_of_le h, lns]
/-- Steps to the next line feed. -/
theorem lns_skip {s : List UInt8} {a i n : Nat} (h : ∀ p, i ≤ p → p < i + n → s[p]? ≠ some 10) (hn : i + n ≤ s.length) : lns a i (s.drop i) = lns a (i + n) (s.drop (i + n)) := by
  induction n with
  | zero => rfl
  | succ n ih =>
    rw [ih (fun p h1 h2 => h p h1 (by omega)) (by omega)]
    have hg : s[i + n]? = some s[i + n] := List.getElem?_eq_getElem (by omega)
    have hne : s[i + n] ≠ 10 := fun h1 => h (i + n) (by omega) (by omega) (by rw [hg, h1])
    rw [lns_step hg, if_neg hne]
    rfl

section
variable {s : List UInt8} {L : List (Nat × Nat)} (W : Whole s L 0)
include W
theorem Whole.mono {j k : Nat} {x y : Nat × Nat} (hx : L[j]? = some x) (hy : L[k]? = some y) (h : j < k) : x.2 < y.1 := by
  induction k generalizing y with
  | zero => omega
  | succ k ih =>
    have hk : k < L.length := by have := (List.getElem?_eq_some_iff.1 hy).1; omega
    have hz : L[k]? = some L[k] := List.getElem?_eq_getElem hk
    have h1 := (W.more k _ y hz hy).1
    rcases Nat.lt_or_ge j k with h2 | h2
    · have := ih hz h2
      have := (W.each k _ hz).2.1
      omega
    · have : j = k := by omega
      subst this
      rw [hx] at hz
      injection hz with hz
      rw [← hz] at h1
      omega
/-- Each offset is in just one line. -/
theorem Whole.unique {j k p : Nat} {x y : Nat × Nat} (hx : L[j]? = some x) (hy : L[k]? = some y) (h1 : x.1 ≤ p) (h2 : p ≤ x.2) (h3 : y.1 ≤ p) (h4 : p ≤ y.2) : j = k := by
  rcases Nat.lt_trichotomy j k with h | h | h
  · have := W.mono hx hy h; omega
  · exact h
  · have := W.mono hy hx h; omega
theorem Whole.pos : 0 < L.length := by
  obtain ⟨x, hx, _⟩ := W.head
  exact (List.getElem?_eq_some_iff.1 hx).1
theorem Whole.find {p : Nat} (hp : p ≤ s.length) : ∃ (k : Nat) (x : Nat × Nat), L[k]? = some x ∧ x.1 ≤ p ∧ p ≤ x.2 := by
  have key : ∀ (n k : Nat) (x : Nat × Nat), L.length - k = n → L[k]? = some x → x.1 ≤ p → ∃ (k : Nat) (x : Nat × Nat), L[k]? = some x ∧ x.1 ≤ p ∧ p ≤ x.2 := by
    intro n
    induction n with
    | zero => intro k x hn hk; have := (List.getElem?_eq_some_iff.1 hk).1; omega
    | succ n ih =>
      intro k x hn hk hx
      rcases Nat.lt_or_ge x.2 p with h | h
      · cases hy : L[k + 1]? with
        | none => have := W.last k x hk hy; omega
        | some y =>
          have h1 := (W.more k x y hk hy).1
          exact ih (k + 1) y (by omega) hy (by omega)
      · exact ⟨k, x, hk, hx, h⟩
  obtain ⟨x, hx, h0⟩ := W.head
  exact key _ 0 x rfl hx (by omega)
end

/-- The lines of a text; of what is none there are none. -/
def L (s : List UInt8) : List (Nat × Nat) := if valid s then lines s else []
theorem L_bad {s : List UInt8} (h : valid s = false) : L s = [] := by rw [L, if_neg (by simp [h])]
theorem L_ok {s : List UInt8} (h : valid s = true) : L s = lines s := by rw [L, if_pos h]
theorem L_whole {s : List UInt8} (h : valid s = true) : Whole s (L s) 0 := by rw [L_ok h]; exact lines_whole s
theorem L_length (s : List UInt8) : (L s).length ≤ s.length + 1 := by
  unfold L; split
  · exact lines_length s
  · simp
theorem L_valid {s : List UInt8} {k : Nat} {x : Nat × Nat} (h : (L s)[k]? = some x) : valid s = true := by
  cases hv : valid s with
  | true => rfl
  | false => rw [L_bad hv] at h; cases h
theorem L_each {s : List UInt8} {k : Nat} {x : Nat × Nat} (h : (L s)[k]? = some x) : x.1 ≤ x.2 ∧ x.2 ≤ s.length := by
  have := (L_whole (L_valid h)).each k x h
  exact ⟨this.2.1, this.2.2.1⟩

/-- Line k. -/
def line (s : List UInt8) (k : Int) : Option (Nat × Nat) := if k < 0 then none else (L s)[k.toNat]?
theorem line_low {s : List UInt8} {k : Int} (h : k < 0) : line s k = none := by rw [line, if_pos h]
theorem line_nat {s : List UInt8} {k : Nat} : line s k = (L s)[k]? := by rw [line, if_neg (by omega)]; simp
theorem line_past {s : List UInt8} {k : Int} (h : ((L s).length : Int) ≤ k) : line s k = none := by
  rw [line]; split
  · rfl
  · exact List.getElem?_eq_none (by omega)
theorem line_some {s : List UInt8} {k : Int} {x : Nat × Nat} (h : line s k = some x) : ∃ n : Nat, k = n ∧ (L s)[n]? = some x := by
  rw [line] at h
  split at h
  · cases h
  · exact ⟨k.toNat, by omega, h⟩
/-- Where line k begins, and ends; -1: there is none. -/
def start (s : List UInt8) (k : Int) : Int := match line s k with | none => -1 | some x => x.1
def stop (s : List UInt8) (k : Int) : Int := match line s k with | none => -1 | some x => x.2
theorem start_none {s : List UInt8} {k : Int} (h : line s k = none) : start s k = -1 := by rw [start, h]
theorem stop_none {s : List UInt8} {k : Int} (h : line s k = none) : stop s k = -1 := by rw [stop, h]
theorem start_some {s : List UInt8} {k : Int} {x : Nat × Nat} (h : line s k = some x) : start s k = x.1 := by rw [start, h]
theorem stop_some {s : List UInt8} {k : Int} {x : Nat × Nat} (h : line s k = some x) : stop s k = x.2 := by rw [stop, h]

/-- Which line the offset p is in. -/
def idx (s : List UInt8) (p : Int) : Option Nat := if p < 0 then none else (L s).findIdx? (fun x => decide (p ≤ (x.2 : Int)))
def of_ (s : List UInt8) (p : Int) : Int := match idx s p with | none => -1 | some k => k
theorem idx_at {s : List UInt8} {k p : Nat} {x : Nat × Nat} (h : (L s)[k]? = some x) (h1 : x.1 ≤ p) (h2 : p ≤ x.2) : idx s p = some k := by
  have hk := (List.getElem?_eq_some_iff.1 h).1
  have W := L_whole (L_valid h)
  rw [idx, if_neg (by omega), List.findIdx?_eq_some_iff_getElem]
  refine ⟨hk, by rw [(List.getElem?_eq_some_iff.1 h).2]; simp; omega, fun j hj => ?_⟩
  have hjl : j < (L s).length := by omega
  have := W.mono (List.getElem?_eq_getElem hjl) h hj
  simp; omega
theorem idx_none {s : List UInt8} {p : Int} (h : p < 0 ∨ (s.length : Int) < p ∨ valid s = false) : idx s p = none := by
  rw [idx]
  split
  · rfl
  · rw [List.findIdx?_eq_none_iff]
    intro x hx
    obtain ⟨j, hj, rfl⟩ := List.mem_iff_getElem.1 hx
    have hg := List.getElem?_eq_getElem hj
    have := L_each hg
    rcases h with h | h | h
    · omega
    · simp; omega
    · rw [L_valid hg] at h; cases h
theorem idx_find {s : List UInt8} (hv : valid s = true) {p : Nat} (hp : p ≤ s.length) : ∃ k x, idx s p = some k ∧ (L s)[k]? = some x ∧ x.1 ≤ p ∧ p ≤ x.2 := by
  obtain ⟨k, x, h, h1, h2⟩ := (L_whole hv).find hp
  exact ⟨k, x, idx_at h h1 h2, h, h1, h2⟩
theorem of_at {s : List UInt8} {k p : Nat} {x : Nat × Nat} (h : (L s)[k]? = some x) (h1 : x.1 ≤ p) (h2 : p ≤ x.2) : of_ s p = k := by rw [of_, idx_at h h1 h2]
theorem of_none {s : List UInt8} {p : Int} (h : p < 0 ∨ (s.length : Int) < p ∨ valid s = false) : of_ s p = -1 := by rw [of_, idx_none h]

/-- Where lines begin, and end, are places. -/
theorem heads_feed : Utf.heads (10 : UInt8).toNat = true := by decide
theorem stop_place {s : List UInt8} {rs : List (List UInt8)} (hd : dec s = some rs) {k : Nat} {x : Nat × Nat} (h : (L s)[k]? = some x) : ∃ j, j ≤ rs.length ∧ off rs j = x.2 := by
  have W := L_whole (L_valid h)
  have hx := L_each h
  refine (Utf.apart_iff hd hx.2).1 ?_
  rw [Utf.apart]
  cases hy : (L s)[k + 1]? with
  | none => rw [W.last k x h hy, List.getElem?_eq_none (Nat.le_refl _)]
  | some y => rw [(W.more k x y h hy).2]; exact heads_feed
theorem start_place {s : List UInt8} {rs : List (List UInt8)} (hd : dec s = some rs) {k : Nat} {x : Nat × Nat} (h : (L s)[k]? = some x) : ∃ i, i ≤ rs.length ∧ off rs i = x.1 := by
  have W := L_whole (L_valid h)
  cases k with
  | zero =>
    obtain ⟨z, hz, h0⟩ := W.head
    rw [hz] at h
    injection h with h
    subst h
    exact ⟨0, Nat.zero_le _, by rw [Utf.off_zero, h0]⟩
  | succ k =>
    have hk : k < (L s).length := by have := (List.getElem?_eq_some_iff.1 h).1; omega
    have hz : (L s)[k]? = some (L s)[k] := List.getElem?_eq_getElem hk
    obtain ⟨h1, h2⟩ := W.more k _ x hz h
    obtain ⟨j, hj, he⟩ := stop_place hd hz
    have hlt : off rs j < s.length := by rw [he]; exact (List.getElem?_eq_some_iff.1 h2).1
    have hj2 : j < rs.length := by
      rcases Nat.lt_or_ge j rs.length with h3 | h3
      · exact h3
      · rw [Utf.off_top hd h3] at hlt; omega
    obtain ⟨a, ha, hn⟩ := Utf.first_at hd hj2
    rw [he, h2] at ha
    injection ha with ha
    subst ha
    refine ⟨j + 1, hj2, ?_⟩
    rw [hn, he, h1]
    rfl
/-- The bytes from one place to another one. -/
def seg (s : List UInt8) (a b : Nat) : List UInt8 := (s.take b).drop a
theorem seg_dec {s : List UInt8} {rs : List (List UInt8)} (hd : dec s = some rs) (i j : Nat) : dec (seg s (off rs i) (off rs j)) = some ((rs.take j).drop i) := by
  obtain ⟨h1, h2⟩ := Utf.dec_some hd
  have h3 : seg s (off rs i) (off rs j) = ((rs.take j).drop i).flatten := by
    rw [seg, h2, Utf.off_take]
    rcases Nat.le_total i j with h | h
    · have := Utf.off_drop (rs.take j) i
      rw [← this]
      congr 1
      rw [off, off, List.take_take, Nat.min_eq_left h]
    · have h4 : ((rs.take j).drop i) = [] := List.drop_eq_nil_of_le (by simp; omega)
      rw [h4, List.drop_eq_nil_of_le]
      · rfl
      · have := Utf.off_mono (rs := rs) h
        rw [show (rs.take j).flatten.length = off rs j from rfl]
        omega
  rw [h3]
  exact Utf.dec_of fun r hr => h1 r (List.mem_of_mem_take (List.mem_of_mem_drop hr))
theorem seg_off {rs : List (List UInt8)} {i j m : Nat} (hm : i + m ≤ j) : off rs (i + m) = off rs i + off ((rs.take j).drop i) m := by
  have h1 : ((rs.take j).drop i).take m = (rs.take (i + m)).drop i := by
    rw [List.take_drop, List.take_take, Nat.min_eq_left (by omega)]
  rw [off, off, off, h1]
  conv => lhs; rw [← List.take_append_drop i (rs.take (i + m)), List.take_take, Nat.min_eq_left (by omega)]
  rw [List.flatten_append, List.length_append]
/-- A line's runes. -/
theorem line_runes {s : List UInt8} {rs : List (List UInt8)} (hd : dec s = some rs) {k : Nat} {x : Nat × Nat} (h : (L s)[k]? = some x) :
    ∃ i j, i ≤ j ∧ j ≤ rs.length ∧ off rs i = x.1 ∧ off rs j = x.2 ∧ dec (seg s x.1 x.2) = some ((rs.take j).drop i) := by
  obtain ⟨i, hi, hi2⟩ := start_place hd h
  obtain ⟨j, hj, hj2⟩ := stop_place hd h
  have hx := L_each h
  have hij : i ≤ j := by
    rcases Nat.lt_or_ge j i with h1 | h1
    · have := Utf.off_lt (Utf.dec_some hd).1 h1 hi; omega
    · exact h1
  exact ⟨i, j, hij, hj, hi2, hj2, by rw [← hi2, ← hj2]; exact seg_dec hd i j⟩
end Line
end Go.Proofs.YtlfhfpjffdaomaaDoor
