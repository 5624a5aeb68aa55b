/-
  A run of one class is whole, without a program: it begins and ends at places of one line, and what stands beside it is of another class.
-/
import Derived.Test.YtchpkeelnfmlbaaGreatClassSteps
namespace Go.Proofs.YtchpkeelnfmlbaaGreat
namespace Class
open Utf Line
section
variable {s : List UInt8} {rs : List (List UInt8)} (hd : dec s = some rs)
include hd
/-- The place at or ahead of an offset. -/
theorem place_under (q : Nat) : ∃ m, m ≤ q ∧ place s (m : Int) = true ∧ ∀ z, m < z → z ≤ q → place s (z : Int) = false := by
  refine ⟨back s q, back_le s q, back_place hd q, fun z h1 h2 => ?_⟩
  cases hz : place s (z : Int) with
  | false => rfl
  | true => have := back_ge hz h2; omega
theorem prev_under {a : Nat} (ha : place s (a : Int) = true) (h0 : 0 < a) : ∃ u : Nat, prev s (a : Int) = u ∧ place s (u : Int) = true ∧ u < a ∧ ∀ z, u < z → z < a → place s (z : Int) = false := by
  obtain ⟨j, hj, he⟩ := (place_iff hd).1 ha
  have h5 : off rs j = a := by omega
  cases j with
  | zero => rw [off_zero] at h5; omega
  | succ j =>
    have hlt : off rs j < off rs (j + 1) := off_lt (dec_some hd).1 (Nat.lt_succ_self j) hj
    refine ⟨off rs j, by rw [← h5]; exact prev_at hd (by omega), place_at hd (by omega), by omega, fun z h1 h2 => place_no hd fun i hi h => ?_⟩
    rcases Nat.lt_or_ge j i with h7 | h7
    · have := off_mono (rs := rs) (i := j + 1) (j := i) h7; omega
    · have := off_mono (rs := rs) (i := i) (j := j) h7; omega
variable {big : Bool} {y c : Nat} (hp : place s (y : Int) = true) (hy : y < s.length) (hc : at_ s y big = c)
include hp hy hc
omit hp in
theorem low_place : place s (lft (same s big c) y : Int) = true := by
  have hle := lft_le (same s big c) y
  obtain ⟨m, h1, h2, h3⟩ := place_under hd (lft (same s big c) y)
  rcases Nat.eq_or_lt_of_le h1 with e | hlt
  · rw [← e]; exact h2
  · exfalso
    have ha : at_ s (lft (same s big c) y) big = c := by
      rcases Nat.eq_or_lt_of_le hle with e | hl2
      · rw [e]; exact hc
      · exact same_iff.1 (lft_in (same s big c) y _ (Nat.le_refl _) hl2)
    have e1 := same_upto hd (big := big) h2 (by omega) (F := lft (same s big c) y + 1) (fun q h4 h5 => h3 q h4 (by omega)) (lft (same s big c) y) (by omega) (by omega)
    have e2 := same_upto hd (big := big) h2 (by omega) (F := lft (same s big c) y + 1) (fun q h4 h5 => h3 q h4 (by omega)) (lft (same s big c) y - 1) (by omega) (by omega)
    rcases lft_stop (same s big c) y with h | h
    · omega
    · rw [same_not, e2, ← e1] at h; exact h ha
omit hd hp in
theorem high_gt : y < rgt (same s big c) y (s.length - y) := by
  obtain ⟨k, hk⟩ : ∃ k, s.length - y = k + 1 := ⟨s.length - y - 1, by omega⟩
  rw [hk, rgt_yes (same_iff.2 hc)]
  have := (rgt_ge (same s big c) (y + 1) k).1
  omega
omit hc in
theorem high_place : place s (rgt (same s big c) y (s.length - y) : Int) = true := by
  have hge := rgt_ge (same s big c) y (s.length - y)
  rcases rgt_stop (same s big c) y (s.length - y) with h | h
  · rw [h, show y + (s.length - y) = s.length by omega, ← off_top hd (Nat.le_refl _)]
    exact place_at hd (Nat.le_refl _)
  · rcases Nat.lt_or_ge (rgt (same s big c) y (s.length - y)) s.length with hl | hl
    · obtain ⟨m, h1, h2, h3⟩ := place_under hd (rgt (same s big c) y (s.length - y))
      rcases Nat.eq_or_lt_of_le h1 with e | hlt
      · rw [← e]; exact h2
      · exfalso
        have hym : y ≤ m := by
          rcases Nat.lt_or_ge m y with h4 | h4
          · rw [h3 y h4 hge.1] at hp; cases hp
          · exact h4
        have e1 := same_upto hd (big := big) h2 (by omega) (F := rgt (same s big c) y (s.length - y) + 1) (fun q h4 h5 => h3 q h4 (by omega)) (rgt (same s big c) y (s.length - y)) (by omega) (by omega)
        rw [same_not, e1] at h
        exact h (same_iff.1 (rgt_in (same s big c) y (s.length - y) m hym hlt))
    · rw [show rgt (same s big c) y (s.length - y) = s.length by omega, ← off_top hd (Nat.le_refl _)]
      exact place_at hd (Nat.le_refl _)
omit hd hp hy hc in
theorem inside_run {q : Nat} (h1 : lft (same s big c) y ≤ q) (h2 : q < rgt (same s big c) y (s.length - y)) : at_ s q big = c := by
  rcases Nat.lt_or_ge q y with h | h
  · exact same_iff.1 (lft_in (same s big c) y q h1 h)
  · exact same_iff.1 (rgt_in (same s big c) y (s.length - y) q h h2)
omit hp in
theorem run_line (h4 : c ≠ 4) : ∃ k : Nat, of_ s (lft (same s big c) y : Int) = k ∧ of_ s (rgt (same s big c) y (s.length - y) : Int) = k := by
  obtain ⟨k, x, -, hL, h1, h2⟩ := idx_find (valid_ok hd) (p := y) (by omega)
  have hle := lft_le (same s big c) y
  have hge := rgt_ge (same s big c) y (s.length - y)
  have hgt := high_gt hy hc
  have hfeed : ∀ q, s[q]? = some 10 → lft (same s big c) y ≤ q → q < rgt (same s big c) y (s.length - y) → False := by
    intro q hq h5 h6
    have := inside_run h5 h6
    rw [at_some hq, show (10 : UInt8).toNat = 10 from rfl, of_feed] at this
    exact h4 this.symm
  have ha : x.1 ≤ lft (same s big c) y := by
    rcases feed_ahead hL with h5 | h5
    · omega
    · rcases Nat.lt_or_ge (lft (same s big c) y) x.1 with h6 | h6
      · exact absurd (hfeed _ h5 (by omega) (by omega)) id
      · exact h6
  have hb : rgt (same s big c) y (s.length - y) ≤ x.2 := by
    rcases feed_behind hL with h5 | h5
    · omega
    · rcases Nat.lt_or_ge x.2 (rgt (same s big c) y (s.length - y)) with h6 | h6
      · exact absurd (hfeed _ h5 (by omega) h6) id
      · exact h6
  exact ⟨k, of_at hL ha (by omega), of_at hL (by omega) hb⟩
theorem behind_kind : kind s (rgt (same s big c) y (s.length - y) : Int) big ≠ c := by
  have hge := rgt_ge (same s big c) y (s.length - y)
  have hpl := high_place hd (big := big) (c := c) hp hy
  have hc0 : c ≠ 0 := by have := at_pos hy big; omega
  rcases Nat.lt_or_ge (rgt (same s big c) y (s.length - y)) s.length with h | h
  · rcases rgt_stop (same s big c) y (s.length - y) with h1 | h1
    · omega
    · rw [kind_place hd hpl h]; exact same_not.1 h1
  · rw [show rgt (same s big c) y (s.length - y) = s.length by omega, kind_end hd]
    exact fun h => hc0 h.symm
omit hp in
theorem ahead_kind (h0 : 0 < lft (same s big c) y) : ∃ u : Nat, prev s (lft (same s big c) y : Int) = u ∧ kind s (u : Int) big ≠ c := by
  have hle := lft_le (same s big c) y
  obtain ⟨u, h1, h2, h3, h4⟩ := prev_under hd (low_place hd hy hc) h0
  refine ⟨u, h1, ?_⟩
  rw [kind_place hd h2 (by omega)]
  rcases lft_stop (same s big c) y with h5 | h5
  · omega
  · have := same_upto hd (big := big) h2 (by omega) (F := lft (same s big c) y) h4 (lft (same s big c) y - 1) (by omega) (by omega)
    rw [same_not, this] at h5
    exact h5
end
end Class
end Go.Proofs.YtchpkeelnfmlbaaGreat
