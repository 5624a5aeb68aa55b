/-
  Motions, without a program: which keys there are, and where each leads from a place of a text.
-/
import Derived.Test.YtchpkeelnfmlbaaGreatLineCalls
namespace Go.Proofs.YtchpkeelnfmlbaaGreat
namespace Line
open Utf (dec off)
/-- The place of a column lies in its line. -/
theorem at_ok {s : List UInt8} {k : Nat} {x : Nat × Nat} (h : (L s)[k]? = some x) (col : Int) : ∃ c : Nat, at_ s (k : Nat) col = c ∧ Utf.place s (c : Int) = true ∧ x.1 ≤ c ∧ c ≤ x.2 := by
  obtain ⟨rs, hd⟩ := Utf.valid_of (L_valid h)
  obtain ⟨i, j, hij, hj, hi1, hj1, _⟩ := line_runes hd h
  have hl : line s ((k : Nat) : Int) = some x := by rw [line_nat, h]
  refine ⟨_, at_runes hd hl hij hj hi1 hj1 col, Utf.place_at hd (by omega), ?_, ?_⟩
  · rw [← hi1]; exact Utf.off_mono (by omega)
  · rw [← hj1]; exact Utf.off_mono (by omega)
/-- A place and its line, by runes. -/
theorem place_runes {s : List UInt8} {k c : Nat} {x : Nat × Nat} (h : (L s)[k]? = some x) (hp : Utf.place s (c : Int) = true) (h1 : x.1 ≤ c) (h2 : c ≤ x.2) :
    ∃ rs i m j, dec s = some rs ∧ i ≤ m ∧ m ≤ j ∧ j ≤ rs.length ∧ off rs i = x.1 ∧ off rs m = c ∧ off rs j = x.2 ∧ column s (c : Int) = (m - i : Nat) ∧ ∀ col, at_ s (k : Nat) col = (off rs (min (i + (max col 0).toNat) j) : Nat) := by
  obtain ⟨rs, hd⟩ := Utf.valid_of (L_valid h)
  obtain ⟨i, j, hij, hj, hi1, hj1, _⟩ := line_runes hd h
  obtain ⟨m, hm, hc⟩ := (Utf.place_iff hd).1 hp
  have hc' : off rs m = c := by omega
  subst hc'
  have him : i ≤ m := by
    rcases Nat.lt_or_ge m i with h3 | h3
    · have := Utf.off_lt (Utf.dec_some hd).1 h3 (by omega); omega
    · exact h3
  have hmj : m ≤ j := by
    rcases Nat.lt_or_ge j m with h3 | h3
    · have := Utf.off_lt (Utf.dec_some hd).1 h3 hm; omega
    · exact h3
  have hl : line s ((k : Nat) : Int) = some x := by rw [line_nat, h]
  exact ⟨rs, i, m, j, hd, him, hmj, hj, hi1, rfl, hj1, column_runes hd h him hmj hj hi1 hj1, fun col => at_runes hd hl hij hj hi1 hj1 col⟩
end Line
namespace Move
open Line (L line of_ column at_)
open Utf (place)
def tab : List (List UInt8 × Nat) := [([104], 0), ([108], 1), ([48], 2), ([94], 3), ([36], 4), ([124], 5), ([106], 6), ([107], 7), ([103, 103], 8), ([71], 9)]
/-- Which motion a key is of. -/
def mot (key : List UInt8) : Option Nat :=
  if key = [104] then some 0 else if key = [108] then some 1 else if key = [48] then some 2 else if key = [94] then some 3 else if key = [36] then some 4
  else if key = [124] then some 5 else if key = [106] then some 6 else if key = [107] then some 7 else if key = [103, 103] then some 8 else if key = [71] then some 9 else none
theorem mot_tab {key : List UInt8} {m : Nat} : mot key = some m ↔ (key, m) ∈ tab := by
  unfold mot tab
  constructor
  · intro h
    repeat' split at h
    all_goals first | (cases h; done) | (injection h with h; subst h; simp_all)
  · intro h
    simp only [List.mem_cons, Prod.mk.injEq, List.not_mem_nil, or_false] at h
    rcases h with ⟨rfl, rfl⟩ | ⟨rfl, rfl⟩ | ⟨rfl, rfl⟩ | ⟨rfl, rfl⟩ | ⟨rfl, rfl⟩ | ⟨rfl, rfl⟩ | ⟨rfl, rfl⟩ | ⟨rfl, rfl⟩ | ⟨rfl, rfl⟩ | ⟨rfl, rfl⟩ <;> decide
theorem mot_lt {key : List UInt8} {m : Nat} (h : mot key = some m) : m < 10 := by
  have h := mot_tab.1 h
  unfold tab at h
  simp only [List.mem_cons, Prod.mk.injEq, List.not_mem_nil, or_false] at h
  omega
/-- Where motion m leads from p; -1: it fails. -/
def raw (m : Nat) (s : List UInt8) (p n want : Int) : Int :=
  match m with
  | 0 => if p = Line.start s (of_ s p) then -1 else at_ s (of_ s p) (column s p - min (max n 1) (column s p))
  | 1 => if p = Line.stop s (of_ s p) then -1 else at_ s (of_ s p) (column s p + min (max n 1) s.length)
  | 2 => Line.start s (of_ s p)
  | 3 => Line.first s (of_ s p)
  | 4 => if ((L s).length : Int) - 1 - of_ s p < max n 1 - 1 then -1 else Line.stop s (of_ s p + max n 1 - 1)
  | 5 => at_ s (of_ s p) (max n 1 - 1)
  | 6 => if of_ s p = ((L s).length : Int) - 1 then -1 else at_ s (of_ s p + min (max n 1) (((L s).length : Int) - 1 - of_ s p)) want
  | 7 => if of_ s p = 0 then -1 else at_ s (of_ s p - min (max n 1) (of_ s p)) want
  | 8 => Line.first s (min (max n 1 - 1) (((L s).length : Int) - 1))
  | _ => Line.first s (min ((if n < 1 then ((L s).length : Int) else max n 1) - 1) (((L s).length : Int) - 1))
/-- The same, as the program counts: n is not below 0, and not far beyond the text. -/
def praw (m : Nat) (s : List UInt8) (p n want : Int) : Int :=
  match m with
  | 0 => if p = Line.start s (of_ s p) then -1 else at_ s (of_ s p) (column s p - max n 1)
  | 1 => if p = Line.stop s (of_ s p) then -1 else at_ s (of_ s p) (column s p + max n 1)
  | 2 => Line.start s (of_ s p)
  | 3 => Line.first s (of_ s p)
  | 4 => Line.stop s (of_ s p + max n 1 - 1)
  | 5 => at_ s (of_ s p) (max n 1 - 1)
  | 6 => if of_ s p = ((L s).length : Int) - 1 then -1 else at_ s (min (of_ s p + max n 1) (((L s).length : Int) - 1)) want
  | 7 => if of_ s p = 0 then -1 else at_ s (max (of_ s p - max n 1) 0) want
  | 8 => Line.first s (min (max n 1 - 1) (((L s).length : Int) - 1))
  | _ => if n = 0 then Line.first s (((L s).length : Int) - 1) else Line.first s (min (max n 1 - 1) (((L s).length : Int) - 1))
def cap (s : List UInt8) (n : Int) : Int := min (max n 0) (s.length + 2)
theorem praw_raw {m : Nat} (hm : m < 10) {s : List UInt8} {p : Int} (hp : place s p = true) (n want : Int) : praw m s p (cap s n) want = raw m s p n want := by
  obtain ⟨c, k, x, rfl, hk, h1, h2, h3, e1, e2, e3⟩ := Line.place_line hp
  obtain ⟨rs, i, q, j, hd, hi, hq, hj, f1, f2, f3, hc, ha⟩ := Line.place_runes hk hp h1 h2
  have hL := Line.L_length s
  have hkl := (List.getElem?_eq_some_iff.1 hk).1
  have hjl := Line.off_ge' hd hj
  have ht : max (cap s n) 1 = min (max n 1) (s.length + 2) := by unfold cap; omega
  rcases m with _ | _ | _ | _ | _ | _ | _ | _ | _ | _ | m
  · simp only [praw, raw, e1, hc, ha, ht]
    split
    · rfl
    · congr 2; omega
  · simp only [praw, raw, e1, hc, ha, ht]
    split
    · rfl
    · congr 2; omega
  · rfl
  · rfl
  · simp only [praw, raw, e1, ht]
    split
    · rw [Line.stop_none]; exact Line.line_past (by omega)
    · congr 1; omega
  · simp only [praw, raw, e1, ha, ht]
    congr 2; omega
  · simp only [praw, raw, e1, ht]
    split
    · rfl
    · congr 1; omega
  · simp only [praw, raw, e1, ht]
    split
    · rfl
    · congr 1; omega
  · simp only [praw, raw, ht]
    congr 1; omega
  · simp only [praw, raw, ht]
    by_cases hn : n < 1
    · rw [if_pos (by unfold cap; omega), if_pos hn]; congr 1; omega
    · rw [if_neg (by unfold cap; omega), if_neg hn]; congr 1; omega
  · omega
/-- Where one comes by the motion m: not at all, or to a place. -/
def Out (m k k' p c : Nat) : Prop := (m = 0 ∨ m = 1 ∨ m = 2 ∨ m = 3 ∨ m = 5 → k = k') ∧ (m = 0 → c < p) ∧ (m = 1 → p < c) ∧ (m = 6 → k < k') ∧ (m = 7 → k' < k)
theorem raw_ok {m : Nat} (hm : m < 10) {s : List UInt8} {p k : Nat} {x : Nat × Nat} (hp : place s (p : Int) = true) (hk : (L s)[k]? = some x) (h1 : x.1 ≤ p) (h2 : p ≤ x.2) (n want : Int) :
    raw m s (p : Int) n want = -1 ∨ ∃ (c k' : Nat) (y : Nat × Nat), raw m s (p : Int) n want = c ∧ place s (c : Int) = true ∧ (L s)[k']? = some y ∧ y.1 ≤ c ∧ c ≤ y.2 ∧ Out m k k' p c := by
  have hl : line s ((k : Nat) : Int) = some x := by rw [Line.line_nat, hk]
  have e1 := Line.of_at hk h1 h2
  have e2 : Line.start s (k : Int) = x.1 := Line.start_some hl
  have e3 : Line.stop s (k : Int) = x.2 := Line.stop_some hl
  obtain ⟨rs, i, q, j, hd, hi, hq, hj, f1, f2, f3, hc, ha⟩ := Line.place_runes hk hp h1 h2
  have hkl := (List.getElem?_eq_some_iff.1 hk).1
  have hx := Line.L_each hk
  have here : ∀ k' : Nat, k' < (L s).length → ∃ y, (L s)[k']? = some y := fun k' h => ⟨_, List.getElem?_eq_getElem h⟩
  rcases m with _ | _ | _ | _ | _ | _ | _ | _ | _ | _ | m
  · simp only [raw, e1, e2, hc, ha]
    split
    · exact Or.inl rfl
    · next hne =>
      have hiq : i ≠ q := by rintro rfl; omega
      refine Or.inr ⟨_, k, x, rfl, Utf.place_at hd (by omega), hk, ?_, ?_, by intro; rfl, fun _ => ?_, ?_, ?_, ?_⟩ <;> try (intro h; omega)
      · rw [← f1]; exact Utf.off_mono (by omega)
      · rw [← f3]; exact Utf.off_mono (by omega)
      · rw [← f2]; exact Utf.off_lt (Utf.dec_some hd).1 (by omega) (by omega)
  · simp only [raw, e1, e3, hc, ha]
    split
    · exact Or.inl rfl
    · next hne =>
      have hjq : q ≠ j := by rintro rfl; omega
      have hl0 : 0 < s.length := by omega
      refine Or.inr ⟨_, k, x, rfl, Utf.place_at hd (by omega), hk, ?_, ?_, by intro; rfl, ?_, fun _ => ?_, ?_, ?_⟩ <;> try (intro h; omega)
      · rw [← f1]; exact Utf.off_mono (by omega)
      · rw [← f3]; exact Utf.off_mono (by omega)
      · rw [← f2]; exact Utf.off_lt (Utf.dec_some hd).1 (by omega) (by omega)
  · exact Or.inr ⟨x.1, k, x, by simp only [raw, e1, e2], Line.start_ok hk, hk, Nat.le_refl _, hx.1, by intro; rfl, by omega, by omega, by omega, by omega⟩
  · obtain ⟨c, g1, g2, g3, g4⟩ := Line.first_ok hk
    refine Or.inr ⟨c, k, x, by simp only [raw, e1, g1], ?_, hk, g3, g4, by intro; rfl, by omega, by omega, by omega, by omega⟩
    cases hpl : place s (c : Int) with
    | true => rfl
    | false => rw [Line.normal_bad hpl] at g2; cases g2
  · simp only [raw, e1]
    split
    · exact Or.inl rfl
    · obtain ⟨k', hk'⟩ : ∃ k' : Nat, (k : Int) + max n 1 - 1 = k' := ⟨((k : Int) + max n 1 - 1).toNat, by omega⟩
      obtain ⟨y, hg⟩ := here k' (by omega)
      have hl' : line s ((k' : Nat) : Int) = some y := by rw [Line.line_nat, hg]
      rw [hk', Line.stop_some hl']
      exact Or.inr ⟨_, k', _, rfl, Line.stop_ok hg, hg, (Line.L_each hg).1, Nat.le_refl _, by omega, by omega, by omega, by omega, by omega⟩
  · obtain ⟨c, g1, g2, g3, g4⟩ := Line.at_ok hk (max n 1 - 1)
    exact Or.inr ⟨c, k, x, by simp only [raw, e1, g1], g2, hk, g3, g4, by intro; rfl, by omega, by omega, by omega, by omega⟩
  · simp only [raw, e1]
    split
    · exact Or.inl rfl
    · obtain ⟨k', hk'⟩ : ∃ k' : Nat, (k : Int) + min (max n 1) (((L s).length : Int) - 1 - k) = k' := ⟨((k : Int) + min (max n 1) (((L s).length : Int) - 1 - k)).toNat, by omega⟩
      obtain ⟨y, hg⟩ := here k' (by omega)
      obtain ⟨c, g1, g2, g3, g4⟩ := Line.at_ok hg want
      rw [hk', g1]
      exact Or.inr ⟨c, k', _, rfl, g2, hg, g3, g4, by omega, by omega, by omega, by omega, by omega⟩
  · simp only [raw, e1]
    split
    · exact Or.inl rfl
    · obtain ⟨k', hk'⟩ : ∃ k' : Nat, (k : Int) - min (max n 1) (k : Int) = k' := ⟨((k : Int) - min (max n 1) (k : Int)).toNat, by omega⟩
      obtain ⟨y, hg⟩ := here k' (by omega)
      obtain ⟨c, g1, g2, g3, g4⟩ := Line.at_ok hg want
      rw [hk', g1]
      exact Or.inr ⟨c, k', _, rfl, g2, hg, g3, g4, by omega, by omega, by omega, by omega, by omega⟩
  · simp only [raw]
    obtain ⟨k', hk'⟩ : ∃ k' : Nat, min (max n 1 - 1) (((L s).length : Int) - 1) = k' := ⟨(min (max n 1 - 1) (((L s).length : Int) - 1)).toNat, by omega⟩
    obtain ⟨y, hg⟩ := here k' (by omega)
    obtain ⟨c, g1, g2, g3, g4⟩ := Line.first_ok hg
    rw [hk', g1]
    refine Or.inr ⟨c, k', _, rfl, ?_, hg, g3, g4, by omega, by omega, by omega, by omega, by omega⟩
    cases hpl : place s (c : Int) with
    | true => rfl
    | false => rw [Line.normal_bad hpl] at g2; cases g2
  · simp only [raw]
    obtain ⟨k', hk'⟩ : ∃ k' : Nat, min ((if n < 1 then ((L s).length : Int) else max n 1) - 1) (((L s).length : Int) - 1) = k' := ⟨(min ((if n < 1 then ((L s).length : Int) else max n 1) - 1) (((L s).length : Int) - 1)).toNat, by split <;> omega⟩
    obtain ⟨y, hg⟩ := here k' (by omega)
    obtain ⟨c, g1, g2, g3, g4⟩ := Line.first_ok hg
    rw [hk', g1]
    refine Or.inr ⟨c, k', _, rfl, ?_, hg, g3, g4, by omega, by omega, by omega, by omega, by omega⟩
    cases hpl : place s (c : Int) with
    | true => rfl
    | false => rw [Line.normal_bad hpl] at g2; cases g2
  · omega
theorem raw_low {m : Nat} (hm : m < 10) {s : List UInt8} {p : Int} (hp : place s p = true) (n want : Int) : raw m s p n want = -1 ∨ 0 ≤ raw m s p n want := by
  obtain ⟨c, k, x, rfl, hk, h1, h2, _⟩ := Line.place_line hp
  rcases raw_ok hm hp hk h1 h2 n want with h | ⟨c', _, _, h, _⟩
  · exact Or.inl h
  · exact Or.inr (by omega)
/-- Where a key leads; -1: nowhere. -/
def lead (s : List UInt8) (p : Int) (key : List UInt8) (n want : Int) : Int := if place s p then (match mot key with | some m => raw m s p n want | none => -1) else -1
theorem lead_at {s : List UInt8} {p : Int} {key : List UInt8} {m : Nat} (hp : place s p = true) (hm : mot key = some m) (n want : Int) : lead s p key n want = raw m s p n want := by rw [lead, if_pos hp, hm]
theorem lead_no {s : List UInt8} {p : Int} {key : List UInt8} (hm : mot key = none) (n want : Int) : lead s p key n want = -1 := by
  rw [lead, hm]; split <;> rfl
theorem lead_bad {s : List UInt8} {p : Int} {key : List UInt8} (hp : place s p = false) (n want : Int) : lead s p key n want = -1 := by rw [lead, if_neg (by simp [hp])]
theorem lead_le {s : List UInt8} {p : Int} {key : List UInt8} (n want : Int) : -1 ≤ lead s p key n want ∧ lead s p key n want ≤ s.length := by
  cases hp : place s p with
  | false => rw [lead_bad hp]; omega
  | true =>
    cases hm : mot key with
    | none => rw [lead_no hm]; omega
    | some m =>
      rw [lead_at hp hm]
      obtain ⟨c, k, x, rfl, hk, h1, h2, _⟩ := Line.place_line hp
      rcases raw_ok (mot_lt hm) hp hk h1 h2 n want with h | ⟨c', k', y, h, _, hk', _, hy, _⟩
      · omega
      · have := (Line.L_each hk').2
        omega
/-- h leads back behind l. -/
theorem back_h {s : List UInt8} {p n : Int} (hp : place s p = true) (hn : 1 ≤ n) (w1 w2 : Int) (h0 : 0 ≤ raw 1 s p n w1) (hc : column s (raw 1 s p n w1) = column s p + n) : raw 0 s (raw 1 s p n w1) n w2 = p := by
  obtain ⟨c, k, x, rfl, hk, h1, h2, h3, e1, e2, e3⟩ := Line.place_line hp
  rcases raw_ok (show 1 < 10 by omega) hp hk h1 h2 n w1 with h | ⟨c', k', y, h, hp', hk', hy1, hy2, ho⟩
  · omega
  · obtain rfl : k = k' := ho.1 (by omega)
    rw [h] at hc ⊢
    rw [hk] at hk'
    injection hk' with hk'
    subst hk'
    obtain ⟨rs, i, q, j, hd, hi, hq, hj, f1, f2, f3, hcol, ha⟩ := Line.place_runes hk hp h1 h2
    have hl : line s ((k : Nat) : Int) = some x := by rw [Line.line_nat, hk]
    have e1' := Line.of_at hk hy1 hy2
    have e2' : Line.start s (of_ s (c' : Int)) = x.1 := by rw [e1', Line.start_some hl]
    have hlt := ho.2.2.1 rfl
    simp only [raw]
    rw [e2', if_neg (by omega), e1', hc, ha, hcol, ← f2]
    congr 2; omega
/-- k leads back behind j, to the column. -/
theorem back_k {s : List UInt8} {p n : Int} (hp : place s p = true) (hn : 1 ≤ n) (h0 : 0 ≤ raw 6 s p n (column s p)) (hc : of_ s (raw 6 s p n (column s p)) = of_ s p + n) : raw 7 s (raw 6 s p n (column s p)) n (column s p) = p := by
  obtain ⟨c, k, x, rfl, hk, h1, h2, h3, e1, e2, e3⟩ := Line.place_line hp
  simp only [raw]
  rw [e1] at hc ⊢
  rw [show raw 6 s (c : Int) n (column s (c : Int)) = _ from rfl] at hc
  simp only [raw, e1] at hc
  rw [hc, if_neg (by omega), show (k : Int) + n - min (max n 1) (k + n) = k by omega]
  exact Line.at_column hk hp h1 h2
end Move
end Go.Proofs.YtchpkeelnfmlbaaGreat
