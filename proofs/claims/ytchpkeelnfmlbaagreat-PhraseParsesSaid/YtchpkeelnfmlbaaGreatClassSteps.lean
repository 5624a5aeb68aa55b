/-
  How the document goes from a place to both sides, rune by rune, without a program: the steps, and that they end where the bytes of one class end.
-/
import Derived.Test.YtchpkeelnfmlbaaGreatClass
import Derived.Test.YtchpkeelnfmlbaaGreatLineMore
namespace Go.Proofs.YtchpkeelnfmlbaaGreat
namespace Class
open Utf Line
/-- Below y: all that is not below m has been looked at, and F is the lowest place found. -/
def GoL (s : List UInt8) (big : Bool) (c y a m F : Nat) : Prop :=
  F ≤ y ∧ a ≤ m ∧ m ≤ y + 1 ∧ place s (F : Int) = true ∧ lft (same s big c) y = lft (same s big c) F ∧ ((m = y + 1 ∧ F = y) ∨ (m ≤ F ∧ ∀ q, m ≤ q → q < F → place s (q : Int) = false))
/-- From y on: all that is below m has been looked at, and T is the place found behind. -/
def GoR (s : List UInt8) (big : Bool) (c y b m T : Nat) : Prop :=
  y ≤ m ∧ m ≤ T ∧ T ≤ b ∧ b ≤ s.length ∧ place s (T : Int) = true ∧ rgt (same s big c) y (s.length - y) = rgt (same s big c) T (s.length - T) ∧ ∀ q, m ≤ q → q < T → place s (q : Int) = false
section
variable {s : List UInt8} {rs : List (List UInt8)} (hd : dec s = some rs) {big : Bool} {c : Nat}
include hd
/-- From a place up to where the next rune begins all bytes are of one class. -/
theorem same_upto {m F : Nat} (hm : place s (m : Int) = true) (hml : m < s.length) (hno : ∀ q, m < q → q < F → place s (q : Int) = false) : ∀ q, m ≤ q → q < F → at_ s q big = at_ s m big := by
  intro q h1 h2
  obtain ⟨i, hi, he⟩ := (place_iff hd).1 hm
  have hlt : i < rs.length := by
    rcases Nat.lt_or_ge i rs.length with h | h
    · exact h
    · rw [off_top hd h] at he; omega
  have hq : q < off rs (i + 1) := by
    rcases Nat.lt_or_ge q (off rs (i + 1)) with h | h
    · exact h
    · have h3 : off rs i < off rs (i + 1) := off_lt (dec_some hd).1 (Nat.lt_succ_self i) hlt
      have h4 := hno (off rs (i + 1)) (by omega) (by omega)
      rw [place_at hd hlt] at h4
      cases h4
  have h5 : off rs i = m := by omega
  rw [← h5]
  exact rune_same hd hlt (by omega) hq big
theorem kind_place {m : Nat} (hm : place s (m : Int) = true) (hml : m < s.length) : kind s (m : Int) big = at_ s m big := by
  obtain ⟨i, hi, he⟩ := (place_iff hd).1 hm
  have hlt : i < rs.length := by
    rcases Nat.lt_or_ge i rs.length with h | h
    · exact h
    · rw [off_top hd h] at he; omega
  have h5 : off rs i = m := by omega
  rw [← h5]
  exact kind_at hd hlt big
theorem next_in {m : Nat} (hm : place s (m : Int) = true) (hml : m < s.length) : ∃ n : Nat, next s (m : Int) = n ∧ m < n ∧ n ≤ s.length ∧ place s (n : Int) = true ∧ ∀ q, m < q → q < n → place s (q : Int) = false := by
  obtain ⟨i, hi, he⟩ := (place_iff hd).1 hm
  have hlt : i < rs.length := by
    rcases Nat.lt_or_ge i rs.length with h | h
    · exact h
    · rw [off_top hd h] at he; omega
  have h5 : off rs i = m := by omega
  rw [← h5]
  refine ⟨off rs (i + 1), next_at hd hlt, off_lt (dec_some hd).1 (Nat.lt_succ_self i) hlt, off_in hd _, place_at hd hlt, fun q h1 h2 => ?_⟩
  refine place_no hd fun j hj h => ?_
  have h6 : off rs j = q := by omega
  rcases Nat.lt_or_ge i j with h7 | h7
  · have := off_mono (rs := rs) (i := i + 1) (j := j) (by omega); omega
  · have := off_mono (rs := rs) (i := j) (j := i) h7; omega
omit hd in
theorem GoL.start {y a : Nat} (hp : place s (y : Int) = true) (ha : a ≤ y) : GoL s big c y a (y + 1) y := ⟨Nat.le_refl _, by omega, Nat.le_refl _, hp, rfl, Or.inl ⟨rfl, rfl⟩⟩
omit hd in
theorem GoL.skip {y a m F : Nat} (h : GoL s big c y a (m + 1) F) (hp : place s (m : Int) = false) (ha : a ≤ m) (hy : place s (y : Int) = true) : GoL s big c y a m F := by
  obtain ⟨h1, h2, h3, h4, h5, h6⟩ := h
  refine ⟨h1, ha, by omega, h4, h5, ?_⟩
  rcases h6 with ⟨h7, h8⟩ | ⟨h7, h8⟩
  · rw [show m = y by omega, hy] at hp; cases hp
  · right
    refine ⟨by omega, fun q h9 h10 => ?_⟩
    rcases Nat.eq_or_lt_of_le h9 with e | hlt
    · rw [← e]; exact hp
    · exact h8 q hlt h10
theorem GoL.take {y a m F : Nat} (h : GoL s big c y a (m + 1) F) (hp : place s (m : Int) = true) (ha : a ≤ m) (hyl : y < s.length) (hk : kind s (m : Int) big = c) : GoL s big c y a m m := by
  obtain ⟨h1, h2, h3, h4, h5, h6⟩ := h
  rw [kind_place hd hp (by omega)] at hk
  refine ⟨by omega, ha, by omega, hp, ?_, Or.inr ⟨Nat.le_refl _, fun q h7 h8 => by omega⟩⟩
  rw [h5]
  rcases h6 with ⟨h7, h8⟩ | ⟨h7, h8⟩
  · rw [show F = m by omega]
  · refine lft_down (by omega) fun q h9 h10 => ?_
    rw [same_iff, same_upto hd hp (by omega) (fun q' h11 h12 => h8 q' (by omega) h12) q h9 h10, hk]
theorem GoL.stop {y a m F : Nat} (h : GoL s big c y a (m + 1) F) (hp : place s (m : Int) = true) (hyl : y < s.length) (hky : kind s (y : Int) big = c) (hk : kind s (m : Int) big ≠ c) : lft (same s big c) y = F := by
  obtain ⟨h1, h2, h3, h4, h5, h6⟩ := h
  rcases h6 with ⟨h7, h8⟩ | ⟨h7, h8⟩
  · rw [show m = y by omega] at hk; exact absurd hky hk
  · rw [kind_place hd hp (by omega)] at hk
    rw [h5]
    refine lft_here (Or.inr ?_)
    rw [same_not, same_upto hd hp (by omega) (F := F) (fun q' h11 h12 => h8 q' (by omega) h12) (F - 1) (by omega) (by omega)]
    exact hk
omit hd in
theorem GoL.done {y a F : Nat} (h : GoL s big c y a a F) (ha : place s (a : Int) = true) (hay : a ≤ y) (hc : c ≠ 4) (hfeed : a = 0 ∨ s[a - 1]? = some 10) : lft (same s big c) y = F := by
  obtain ⟨h1, h2, h3, h4, h5, h6⟩ := h
  rcases h6 with ⟨h7, h8⟩ | ⟨h7, h8⟩
  · omega
  · have hF : F = a := by
      rcases Nat.eq_or_lt_of_le h7 with e | hlt
      · exact e.symm
      · rw [h8 a (Nat.le_refl _) hlt] at ha; cases ha
    rw [h5, hF]
    refine lft_here ?_
    rcases hfeed with h9 | h9
    · exact Or.inl h9
    · right
      rw [same_not, at_some h9, show (10 : UInt8).toNat = 10 from rfl, of_feed]
      omega
omit hd in
theorem GoR.start {y b : Nat} (hp : place s (y : Int) = true) (hb : y ≤ b) (hbl : b ≤ s.length) : GoR s big c y b y y := ⟨Nat.le_refl _, Nat.le_refl _, hb, hbl, hp, rfl, fun q h1 h2 => by omega⟩
omit hd in
theorem GoR.skip {y b m T : Nat} (h : GoR s big c y b m T) (hp : place s (m : Int) = false) : GoR s big c y b (m + 1) T := by
  obtain ⟨h1, h2, h3, h3l, h4, h5, h6⟩ := h
  have : m ≠ T := by rintro rfl; rw [h4] at hp; cases hp
  exact ⟨by omega, by omega, h3, h3l, h4, h5, fun q h7 h8 => h6 q (by omega) h8⟩
omit hd in
theorem GoR.here {y b m T : Nat} (h : GoR s big c y b m T) (hp : place s (m : Int) = true) : m = T := by
  obtain ⟨h1, h2, h3, h3l, h4, h5, h6⟩ := h
  rcases Nat.eq_or_lt_of_le h2 with e | hlt
  · exact e
  · rw [h6 m (Nat.le_refl _) hlt] at hp; cases hp
theorem GoR.take {y b m T : Nat} (h : GoR s big c y b m T) (hp : place s (m : Int) = true) (hb : place s (b : Int) = true) (hmb : m < b) (hk : kind s (m : Int) big = c) : ∃ n : Nat, next s (m : Int) = n ∧ n ≤ b ∧ GoR s big c y b (m + 1) n := by
  obtain rfl := h.here hp
  obtain ⟨h1, h2, h3, h3l, h4, h5, h6⟩ := h
  obtain ⟨n, hn, h7, h8, h9, h10⟩ := next_in hd hp (by omega)
  have hnb : n ≤ b := by
    rcases Nat.lt_or_ge b n with h | h
    · rw [h10 b hmb h] at hb; cases hb
    · exact h
  rw [kind_place hd hp (by omega)] at hk
  refine ⟨n, hn, hnb, by omega, by omega, hnb, h3l, h9, ?_, fun q h11 h12 => h10 q (by omega) h12⟩
  rw [h5]
  refine rgt_up (by omega) h8 fun q h11 h12 => ?_
  rw [same_iff, same_upto hd hp (by omega) (F := n) h10 q h11 h12, hk]
theorem GoR.stop {y b m T : Nat} (h : GoR s big c y b m T) (hp : place s (m : Int) = true) (hmb : m < b) (hk : kind s (m : Int) big ≠ c) : rgt (same s big c) y (s.length - y) = T := by
  obtain rfl := h.here hp
  obtain ⟨h1, h2, h3, h3l, h4, h5, h6⟩ := h
  rw [kind_place hd hp (by omega)] at hk
  rw [h5]
  exact rgt_no (same_not.2 hk)
omit hd in
theorem GoR.done {y b T : Nat} (h : GoR s big c y b b T) (hc : c ≠ 4) (hfeed : b = s.length ∨ s[b]? = some 10) : rgt (same s big c) y (s.length - y) = T := by
  obtain ⟨h1, h2, h3, h3l, h4, h5, h6⟩ := h
  obtain rfl : T = b := by omega
  rw [h5]
  rcases hfeed with h9 | h9
  · rw [h9, Nat.sub_self, rgt_zero]
  · refine rgt_no ?_
    rw [same_not, at_some h9, show (10 : UInt8).toNat = 10 from rfl, of_feed]
    omega
end
theorem feed_ahead {s : List UInt8} {k : Nat} {x : Nat × Nat} (h : (L s)[k]? = some x) : x.1 = 0 ∨ s[x.1 - 1]? = some 10 := by
  have W := L_whole (L_valid h)
  cases k with
  | zero =>
    obtain ⟨y, h1, h2⟩ := W.head
    rw [h] at h1
    injection h1 with h1
    subst h1
    exact Or.inl h2
  | succ k =>
    have hk : k < (L s).length := by have := (List.getElem?_eq_some_iff.1 h).1; omega
    obtain ⟨h1, h2⟩ := W.more k _ x (List.getElem?_eq_getElem hk) h
    right
    rw [h1, Nat.add_sub_cancel]
    exact h2
theorem feed_behind {s : List UInt8} {k : Nat} {x : Nat × Nat} (h : (L s)[k]? = some x) : x.2 = s.length ∨ s[x.2]? = some 10 := by
  have W := L_whole (L_valid h)
  cases hn : (L s)[k + 1]? with
  | none => exact Or.inl (W.last k x h hn)
  | some y => exact Or.inr (W.more k x y h hn).2
end Class
end Go.Proofs.YtchpkeelnfmlbaaGreat
