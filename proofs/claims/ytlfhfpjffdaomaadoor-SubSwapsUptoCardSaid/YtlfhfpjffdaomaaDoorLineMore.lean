/-
  Columns, places of columns, normal places and first signs of lines, without a program.
-/
import Derived.Test.YtlfhfpjffdaomaaDoorLine
namespace Go.Proofs.YtlfhfpjffdaomaaDoor
namespace Line
open Utf (dec off valid place next prev count offset)

/-- The column of p in its line. -/
def column (s : List UInt8) (p : Int) : Int := if place s p then count (seg s (start s (of_ s p)).toNat p.toNat) else -1
/-- The place of a column. -/
def at_ (s : List UInt8) (k col : Int) : Int :=
  match line s k with
  | none => -1
  | some x => if offset (seg s x.1 x.2) (max col 0) < 0 then (x.2 : Int) else (x.1 : Int) + offset (seg s x.1 x.2) (max col 0)
/-- Is p a normal place? -/
def normal (s : List UInt8) (p : Int) : Bool := place s p && (decide (p < stop s (of_ s p)) || decide (start s (of_ s p) = p))
/-- Back to the nearest place. -/
def back (s : List UInt8) : Nat → Nat
  | 0 => 0
  | q + 1 => if place s ((q + 1 : Nat) : Int) then q + 1 else back s q
def clip (s : List UInt8) (p : Int) : Nat := (min (max p 0) (s.length : Int)).toNat
/-- The normal place of p. -/
def clamp (s : List UInt8) (p : Int) : Int := if valid s then (if normal s (back s (clip s p) : Nat) then (back s (clip s p) : Int) else prev s (back s (clip s p) : Nat)) else 0
/-- On over blanks and tabs, n bytes at most. -/
def skip (s : List UInt8) (p : Nat) : Nat → Nat
  | 0 => p
  | n + 1 => if s[p]? = some 32 ∨ s[p]? = some 9 then skip s (p + 1) n else p
/-- The first sign of line k. -/
def first (s : List UInt8) (k : Int) : Int :=
  match line s k with
  | none => -1
  | some x => if skip s x.1 (x.2 - x.1) = x.2 then clamp s x.2 else (skip s x.1 (x.2 - x.1) : Nat)

theorem clip_le (s : List UInt8) (p : Int) : clip s p ≤ s.length := by unfold clip; omega
theorem back_le (s : List UInt8) (q : Nat) : back s q ≤ q := by
  induction q with
  | zero => exact Nat.le_refl _
  | succ q ih => rw [back]; split <;> omega
theorem back_at {s : List UInt8} {q : Nat} (h : place s (q : Int) = true) : back s q = q := by
  cases q with
  | zero => rfl
  | succ q => rw [back, if_pos h]
theorem back_not {s : List UInt8} {q : Nat} (h : place s ((q + 1 : Nat) : Int) = false) : back s (q + 1) = back s q := by
  rw [back, if_neg (by rw [h]; decide)]
theorem place_zero {s : List UInt8} {rs : List (List UInt8)} (hd : dec s = some rs) : place s ((0 : Nat) : Int) = true := by
  have := Utf.place_at hd (i := 0) (Nat.zero_le _)
  rwa [Utf.off_zero] at this
theorem back_place {s : List UInt8} {rs : List (List UInt8)} (hd : dec s = some rs) (q : Nat) : place s (back s q : Int) = true := by
  induction q with
  | zero => exact place_zero hd
  | succ q ih =>
    cases hp : place s ((q + 1 : Nat) : Int) with
    | true => rw [back_at hp]; exact hp
    | false => rw [back_not hp]; exact ih
theorem back_ge {s : List UInt8} {q a : Nat} (ha : place s (a : Int) = true) (h : a ≤ q) : a ≤ back s q := by
  induction q with
  | zero => omega
  | succ q ih =>
    cases hp : place s ((q + 1 : Nat) : Int) with
    | true => rw [back_at hp]; exact h
    | false =>
      rw [back_not hp]
      rcases Nat.lt_or_ge q a with h1 | h1
      · rw [show a = q + 1 by omega, hp] at ha; cases ha
      · exact ih h1
theorem place_nat {s : List UInt8} {p : Int} (h : place s p = true) : ∃ n : Nat, p = n ∧ n ≤ s.length := by
  obtain ⟨rs, i, hd, hi, rfl⟩ := Utf.place_of h
  exact ⟨_, rfl, Utf.off_in hd i⟩
theorem place_ok {s : List UInt8} {p : Int} (h : place s p = true) : valid s = true := by
  obtain ⟨rs, i, hd, _, _⟩ := Utf.place_of h
  exact Utf.valid_ok hd
theorem normal_bad {s : List UInt8} {p : Int} (h : place s p = false) : normal s p = false := by rw [normal, h]; rfl
/-- What is normal, in its line. -/
theorem normal_in {s : List UInt8} {k p : Nat} {x : Nat × Nat} (h : (L s)[k]? = some x) (hp : place s (p : Int) = true) (h1 : x.1 ≤ p) (h2 : p ≤ x.2) : normal s (p : Int) = (decide (p < x.2) || decide (x.1 = p)) := by
  have hl : line s ((k : Nat) : Int) = some x := by rw [line_nat, h]
  rw [normal, hp, of_at h h1 h2, start_some hl, stop_some hl, Bool.true_and]
  congr 1 <;> exact decide_eq_decide.2 (by omega)
theorem start_ok {s : List UInt8} {k : Nat} {x : Nat × Nat} (h : (L s)[k]? = some x) : place s (x.1 : Int) = true := by
  obtain ⟨rs, hd⟩ := Utf.valid_of (L_valid h)
  obtain ⟨i, hi, he⟩ := start_place hd h
  rw [← he]; exact Utf.place_at hd hi
theorem stop_ok {s : List UInt8} {k : Nat} {x : Nat × Nat} (h : (L s)[k]? = some x) : place s (x.2 : Int) = true := by
  obtain ⟨rs, hd⟩ := Utf.valid_of (L_valid h)
  obtain ⟨i, hi, he⟩ := stop_place hd h
  rw [← he]; exact Utf.place_at hd hi
/-- The place ahead of a line's end lies in the line. -/
theorem prev_in {s : List UInt8} {k : Nat} {x : Nat × Nat} (h : (L s)[k]? = some x) (hlt : x.1 < x.2) : ∃ u : Nat, prev s (x.2 : Int) = u ∧ place s (u : Int) = true ∧ x.1 ≤ u ∧ u < x.2 := by
  obtain ⟨rs, hd⟩ := Utf.valid_of (L_valid h)
  obtain ⟨i, j, hij, hj, hi1, hj1, _⟩ := line_runes hd h
  have hne : i ≠ j := by rintro rfl; omega
  obtain ⟨m, rfl⟩ : ∃ m, j = m + 1 := ⟨j - 1, by omega⟩
  refine ⟨off rs m, by rw [← hj1, Utf.prev_at hd (by omega)], Utf.place_at hd (by omega), by rw [← hi1]; exact Utf.off_mono (by omega), by rw [← hj1]; exact Utf.off_lt (Utf.dec_some hd).1 (by omega) hj⟩
/-- Clamp, by the line of what was cut. -/
theorem clamp_in {s : List UInt8} {k : Nat} {p : Int} {x : Nat × Nat} (h : (L s)[k]? = some x) (h1 : x.1 ≤ clip s p) (h2 : clip s p ≤ x.2) :
    x.1 ≤ back s (clip s p) ∧ back s (clip s p) ≤ x.2 ∧ clamp s p = if back s (clip s p) = x.2 ∧ x.1 < x.2 then prev s (back s (clip s p) : Nat) else (back s (clip s p) : Int) := by
  have hv := L_valid h
  obtain ⟨rs, hd⟩ := Utf.valid_of hv
  have hb1 := back_ge (start_ok h) h1
  have hb2 := back_le s (clip s p)
  refine ⟨hb1, by omega, ?_⟩
  rw [clamp, if_pos hv, normal_in h (back_place hd _) hb1 (by omega)]
  by_cases hc : back s (clip s p) = x.2 ∧ x.1 < x.2
  · rw [if_pos hc, if_neg (by simp; omega)]
  · rw [if_neg hc, if_pos (by simp; omega)]
theorem clamp_same {s : List UInt8} {p : Int} (h : normal s p = true) : clamp s p = p := by
  have hp : place s p = true := by
    cases hp : place s p with
    | true => rfl
    | false => rw [normal_bad hp] at h; cases h
  obtain ⟨n, rfl, hn⟩ := place_nat hp
  have hc : clip s (n : Int) = n := by unfold clip; omega
  rw [clamp, if_pos (place_ok hp), hc, back_at hp, if_pos h]
/-- What Clamp tells is normal, and in the line of what was cut. -/
theorem clamp_ok {s : List UInt8} {k : Nat} {p : Int} {x : Nat × Nat} (h : (L s)[k]? = some x) (h1 : x.1 ≤ clip s p) (h2 : clip s p ≤ x.2) :
    ∃ c : Nat, clamp s p = c ∧ place s (c : Int) = true ∧ normal s (c : Int) = true ∧ x.1 ≤ c ∧ c ≤ x.2 := by
  obtain ⟨rs, hd⟩ := Utf.valid_of (L_valid h)
  obtain ⟨hb1, hb2, hc⟩ := clamp_in h h1 h2
  by_cases hx : back s (clip s p) = x.2 ∧ x.1 < x.2
  · rw [if_pos hx, hx.1] at hc
    obtain ⟨u, hu, hpl, hu1, hu2⟩ := prev_in h hx.2
    exact ⟨u, hc.trans hu, hpl, by rw [normal_in h hpl hu1 (by omega)]; simp [hu2], hu1, by omega⟩
  · rw [if_neg hx] at hc
    exact ⟨_, hc, back_place hd _, by rw [normal_in h (back_place hd _) hb1 hb2]; simp; omega, hb1, hb2⟩
/-- The place of a column, by runes. -/
theorem at_runes {s : List UInt8} {rs : List (List UInt8)} (hd : dec s = some rs) {k : Int} {x : Nat × Nat} (h : line s k = some x) {i j : Nat} (hij : i ≤ j) (hj : j ≤ rs.length) (hi1 : off rs i = x.1) (hj1 : off rs j = x.2) (col : Int) :
    at_ s k col = (off rs (min (i + (max col 0).toNat) j) : Nat) := by
  have hseg := seg_dec hd i j
  rw [hi1, hj1] at hseg
  obtain ⟨m, hm⟩ : ∃ m : Nat, max col 0 = m := ⟨(max col 0).toNat, by omega⟩
  have hlen : ((rs.take j).drop i).length = j - i := by simp; omega
  rw [at_, h]
  simp only [hm]
  rcases Nat.lt_or_ge (j - i) m with h1 | h1
  · rw [Utf.offset_past hseg (Or.inr (by rw [hlen]; omega)), if_pos (by decide), ← hj1]
    congr 2; omega
  · rw [Utf.offset_at hseg (by rw [hlen]; omega), if_neg (by omega), ← hi1]
    have := seg_off (rs := rs) (i := i) (j := j) (m := m) (by omega)
    rw [show min (i + ((m : Nat) : Int).toNat) j = i + m by omega, this]
    simp
theorem column_runes {s : List UInt8} {rs : List (List UInt8)} (hd : dec s = some rs) {k : Nat} {x : Nat × Nat} (h : (L s)[k]? = some x) {i j m : Nat} (him : i ≤ m) (hmj : m ≤ j) (hj : j ≤ rs.length) (hi1 : off rs i = x.1) (hj1 : off rs j = x.2) :
    column s (off rs m : Nat) = (m - i : Nat) := by
  have h1 : x.1 ≤ off rs m := by rw [← hi1]; exact Utf.off_mono him
  have h2 : off rs m ≤ x.2 := by rw [← hj1]; exact Utf.off_mono hmj
  have hl : line s ((k : Nat) : Int) = some x := by rw [line_nat, h]
  have hseg := seg_dec hd i m
  rw [column, if_pos (Utf.place_at hd (by omega)), of_at h h1 h2, start_some hl, ← hi1]
  simp only [Int.toNat_natCast]
  rw [Utf.count_ok hseg]
  simp; omega
/-- Column and place lead back. -/
theorem at_column {s : List UInt8} {k c : Nat} {x : Nat × Nat} (h : (L s)[k]? = some x) (hp : place s (c : Int) = true) (h1 : x.1 ≤ c) (h2 : c ≤ x.2) : at_ s (k : Nat) (column s (c : Int)) = c := by
  obtain ⟨rs, hd⟩ := Utf.valid_of (L_valid h)
  obtain ⟨i, j, hij, hj, hi1, hj1, _⟩ := line_runes hd h
  obtain ⟨m, hm, hc⟩ := (Utf.place_iff hd).1 hp
  have hc' : off rs m = c := by omega
  subst hc'
  have him : i ≤ m := by
    rcases Nat.lt_or_ge m i with h3 | h3
    · have := Utf.off_lt (Utf.dec_some hd).1 h3 (by omega); omega
    · exact h3
  have hmj : m ≤ j := by
    rcases Nat.lt_or_ge j m with h3 | h3
    · have := Utf.off_lt (Utf.dec_some hd).1 h3 hm; omega
    · exact h3
  have hl : line s ((k : Nat) : Int) = some x := by rw [line_nat, h]
  rw [column_runes hd h him hmj hj hi1 hj1, at_runes hd hl hij hj hi1 hj1]
  congr 2; omega
theorem at_low {s : List UInt8} {k : Nat} {x : Nat × Nat} (h : (L s)[k]? = some x) {col : Int} (hc : col ≤ 0) : at_ s (k : Nat) col = x.1 := by
  obtain ⟨rs, hd⟩ := Utf.valid_of (L_valid h)
  obtain ⟨i, j, hij, hj, hi1, hj1, _⟩ := line_runes hd h
  have hl : line s ((k : Nat) : Int) = some x := by rw [line_nat, h]
  rw [at_runes hd hl hij hj hi1 hj1, ← hi1]
  congr 2; omega
theorem off_ge' {rs : List (List UInt8)} {s : List UInt8} (hd : dec s = some rs) {i : Nat} (hi : i ≤ rs.length) : i ≤ off rs i := by
  induction i with
  | zero => omega
  | succ i ih =>
    have := ih (by omega)
    have := Utf.off_lt (Utf.dec_some hd).1 (show i < i + 1 by omega) hi
    omega
theorem at_high {s : List UInt8} {k : Nat} {x : Nat × Nat} (h : (L s)[k]? = some x) {col : Int} (hc : (s.length : Int) < col) : at_ s (k : Nat) col = x.2 := by
  obtain ⟨rs, hd⟩ := Utf.valid_of (L_valid h)
  obtain ⟨i, j, hij, hj, hi1, hj1, _⟩ := line_runes hd h
  have hl : line s ((k : Nat) : Int) = some x := by rw [line_nat, h]
  have h1 := off_ge' hd hj
  have h2 := Utf.off_in hd j
  rw [at_runes hd hl hij hj hi1 hj1, ← hj1]
  congr 2; omega
/-- On over blanks. -/
theorem skip_le {s : List UInt8} {p n : Nat} : p ≤ skip s p n ∧ skip s p n ≤ p + n := by
  induction n generalizing p with
  | zero => exact ⟨Nat.le_refl _, Nat.le_refl _⟩
  | succ n ih => rw [skip]; split; have := ih (p := p + 1); omega; omega
theorem blank_step {s : List UInt8} {rs : List (List UInt8)} (hd : dec s = some rs) {p : Nat} (hp : place s (p : Int) = true) (h : s[p]? = some 32 ∨ s[p]? = some 9) : place s ((p + 1 : Nat) : Int) = true := by
  obtain ⟨i, hi, he⟩ := (Utf.place_iff hd).1 hp
  have he' : off rs i = p := by omega
  have hlt : p < s.length := by rcases h with h | h <;> exact (List.getElem?_eq_some_iff.1 h).1
  have hi2 : i < rs.length := by
    rcases Nat.lt_or_ge i rs.length with h3 | h3
    · exact h3
    · rw [Utf.off_top hd h3] at he'; omega
  obtain ⟨a, ha, hn⟩ := Utf.first_at hd hi2
  rw [he'] at ha hn
  have h1 : off rs (i + 1) = p + 1 := by
    rcases h with h | h <;>
    · rw [h] at ha
      injection ha with ha
      subst ha
      rw [hn]; rfl
  rw [← h1]; exact Utf.place_at hd hi2
theorem skip_place {s : List UInt8} {rs : List (List UInt8)} (hd : dec s = some rs) {p n : Nat} (hp : place s (p : Int) = true) : place s (skip s p n : Int) = true := by
  induction n generalizing p with
  | zero => exact hp
  | succ n ih =>
    rw [skip]
    split
    · next h => exact ih (blank_step hd hp h)
    · exact hp
/-- The first sign of a line is normal, and in the line. -/
theorem first_ok {s : List UInt8} {k : Nat} {x : Nat × Nat} (h : (L s)[k]? = some x) : ∃ c : Nat, first s (k : Nat) = c ∧ normal s (c : Int) = true ∧ x.1 ≤ c ∧ c ≤ x.2 := by
  obtain ⟨rs, hd⟩ := Utf.valid_of (L_valid h)
  have hx := L_each h
  have hl : line s ((k : Nat) : Int) = some x := by rw [line_nat, h]
  rw [first, hl]
  simp only []
  have hs := skip_le (s := s) (p := x.1) (n := x.2 - x.1)
  by_cases he : skip s x.1 (x.2 - x.1) = x.2
  · rw [if_pos he]
    have hc : clip s (x.2 : Int) = x.2 := by unfold clip; omega
    obtain ⟨c, h1, _, h3, h4, h5⟩ := clamp_ok (p := (x.2 : Int)) h (by omega) (by omega)
    exact ⟨c, h1, h3, h4, h5⟩
  · rw [if_neg he]
    have hp := skip_place hd (start_ok h) (n := x.2 - x.1)
    exact ⟨_, rfl, by rw [normal_in h hp (by omega) (by omega)]; simp; omega, by omega, by omega⟩
end Line
end Go.Proofs.YtlfhfpjffdaomaaDoor
