/-
  Classes of runes in bytes, without a program: a byte's class, a rune's, and the bytes around a place that are of one class; letters that are others.
-/
import Derived.Test.YtchpkeelnfmlbaaGreatUtfPlaces
import Derived.Test.YtchpkeelnfmlbaaGreatLine
namespace Go.Proofs.YtchpkeelnfmlbaaGreat
namespace Class
open Utf Line

def small (b : Nat) : Bool := decide (97 ≤ b) && decide (b ≤ 122)
def capital (b : Nat) : Bool := decide (65 ≤ b) && decide (b ≤ 90)
def letter (b : Nat) : Bool := small b || capital b
/-- A byte's class: 4 a line feed, 1 blanks, 2 of words, 3 all others. -/
def plain (b : Nat) : Nat := if b = 10 then 4 else if b = 32 ∨ b = 9 then 1 else if letter b = true ∨ (48 ≤ b ∧ b ≤ 57) ∨ b = 95 ∨ 127 < b then 2 else 3
def great (b : Nat) : Nat := if plain b = 3 then 2 else plain b
def of (big : Bool) (b : Nat) : Nat := if big then great b else plain b
theorem of_true (b : Nat) : of true b = great b := rfl
theorem of_false (b : Nat) : of false b = plain b := rfl
theorem plain_pos (b : Nat) : 1 ≤ plain b ∧ plain b ≤ 4 := by
  unfold plain; split <;> (try split) <;> (try split) <;> omega
theorem of_pos (big : Bool) (b : Nat) : 1 ≤ of big b ∧ of big b ≤ 4 := by
  have := plain_pos b
  cases big
  · exact this
  · rw [of_true]; unfold great; split <;> omega
theorem plain_long {b : Nat} (h : 127 < b) : plain b = 2 := by
  unfold plain
  rw [if_neg (by omega), if_neg (by omega), if_pos (by omega)]
theorem of_long (big : Bool) {b : Nat} (h : 127 < b) : of big b = 2 := by
  have := plain_long h
  cases big
  · exact this
  · rw [of_true, great, this]; rfl
theorem of_feed (big : Bool) : of big 10 = 4 := by cases big <;> rfl
theorem of_feed_iff (big : Bool) (b : Nat) : of big b = 4 ↔ b = 10 := by
  constructor
  · intro h
    have hp : plain b = 4 := by
      cases big
      · exact h
      · rw [of_true] at h; unfold great at h; split at h
        · omega
        · exact h
    unfold plain at hp
    split at hp
    · assumption
    · split at hp
      · omega
      · split at hp <;> omega
  · rintro rfl; exact of_feed big
/-- The class of a byte of a text; 0 behind its end. -/
def at_ (s : List UInt8) (i : Nat) (big : Bool) : Nat := match s[i]? with | none => 0 | some b => of big b.toNat
theorem at_some {s : List UInt8} {i : Nat} {b : UInt8} (h : s[i]? = some b) (big : Bool) : at_ s i big = of big b.toNat := by rw [at_, h]
theorem at_lt {s : List UInt8} {i : Nat} (h : i < s.length) (big : Bool) : at_ s i big = of big s[i].toNat := at_some (List.getElem?_eq_getElem h) big
theorem at_past {s : List UInt8} {i : Nat} (h : s.length ≤ i) (big : Bool) : at_ s i big = 0 := by rw [at_, List.getElem?_eq_none h]
theorem at_pos {s : List UInt8} {i : Nat} (h : i < s.length) (big : Bool) : 1 ≤ at_ s i big := by rw [at_lt h]; exact (of_pos _ _).1
theorem at_le (s : List UInt8) (i : Nat) (big : Bool) : at_ s i big ≤ 4 := by
  rcases Nat.lt_or_ge i s.length with h | h
  · rw [at_lt h]; exact (of_pos _ _).2
  · rw [at_past h]; omega
/-- The class of the rune that begins at a place; 0, if none does. -/
def kind (s : List UInt8) (x : Int) (big : Bool) : Nat := if next s x < 0 then 0 else at_ s x.toNat big
theorem kind_none {s : List UInt8} {x : Int} (h : next s x < 0) (big : Bool) : kind s x big = 0 := by rw [kind, if_pos h]
theorem kind_some {s : List UInt8} {x : Int} (h : ¬ next s x < 0) (big : Bool) : kind s x big = at_ s x.toNat big := by rw [kind, if_neg h]
theorem kind_le (s : List UInt8) (x : Int) (big : Bool) : kind s x big ≤ 4 := by
  unfold kind; split
  · omega
  · exact at_le _ _ _
theorem next_place {s : List UInt8} {x : Int} (h : ¬ next s x < 0) : ∃ rs i, dec s = some rs ∧ i < rs.length ∧ x = (off rs i : Int) := by
  cases hp : place s x with
  | false => exact absurd (by rw [next_no hp]; omega) h
  | true =>
    obtain ⟨rs, i, hd, hi, rfl⟩ := place_of hp
    rcases Nat.lt_or_ge i rs.length with hlt | hge
    · exact ⟨rs, i, hd, hlt, rfl⟩
    · rw [off_top hd hge, next_end hd] at h
      exact absurd (by omega) h
section
variable {s : List UInt8} {rs : List (List UInt8)} (hd : dec s = some rs)
include hd
theorem off_below {i : Nat} (hi : i < rs.length) : off rs i < s.length := by
  have h1 : off rs i < off rs (i + 1) := off_lt (dec_some hd).1 (Nat.lt_succ_self i) hi
  have h2 := off_in hd (i + 1)
  omega
theorem kind_at {i : Nat} (hi : i < rs.length) (big : Bool) : kind s (off rs i : Int) big = at_ s (off rs i) big := by
  rw [kind_some (by rw [next_at hd hi]; omega)]
  simp
theorem kind_end (big : Bool) : kind s (s.length : Int) big = 0 := kind_none (by rw [next_end hd]; omega) big
/-- All bytes of a rune are of its class. -/
theorem rune_same {i q : Nat} (hi : i < rs.length) (h1 : off rs i ≤ q) (h2 : q < off rs (i + 1)) (big : Bool) : at_ s q big = at_ s (off rs i) big := by
  obtain ⟨ho, he⟩ := dec_some hd
  have hr := List.getElem?_eq_getElem hi
  obtain ⟨a, t, hat, hh, hl, ht⟩ := one_shape (ho _ (List.getElem_mem hi))
  have hn := off_next hr
  rcases Nat.eq_or_lt_of_le h1 with e | hlt
  · rw [e]
  · have hg : ∀ j, j < rs[i].length → s[off rs i + j]? = rs[i][j]? := by
      intro j hj
      have := off_drop rs i
      rw [List.drop_eq_getElem_cons hi, List.flatten_cons, ← he] at this
      rw [← List.getElem?_drop, this, List.getElem?_append_left hj]
    have hlen : 2 ≤ rs[i].length := by omega
    have ha : s[off rs i]? = some a := by
      have := hg 0 (by omega)
      rw [hat] at this
      simpa using this
    have hq : ∃ b ∈ t, s[q]? = some b := by
      have h3 := hg (q - off rs i) (by omega)
      rw [show off rs i + (q - off rs i) = q by omega] at h3
      obtain ⟨m, hm⟩ : ∃ m, q - off rs i = m + 1 := ⟨q - off rs i - 1, by omega⟩
      rw [hm, hat, List.getElem?_cons_succ] at h3
      have hml : m < t.length := by
        have : rs[i].length = t.length + 1 := by rw [hat]; rfl
        omega
      exact ⟨t[m], List.getElem_mem hml, by rw [h3, List.getElem?_eq_getElem hml]⟩
    obtain ⟨b, hb, hqb⟩ := hq
    have hb2 := ht b hb
    have hb3 : 127 < b.toNat := by
      simp [heads] at hb2; omega
    have ha2 : 127 < a.toNat := by
      rcases Nat.lt_or_ge 127 a.toNat with h | h
      · exact h
      · have : len a.toNat = 1 := by
          unfold len
          rw [if_neg (by omega), if_neg (by omega), if_neg (by omega), if_neg (by omega), if_neg (by omega)]
        omega
    rw [at_some hqb, at_some ha, of_long _ hb3, of_long _ ha2]
end

/-- The lowest place from which f holds up to n. -/
def lft (f : Nat → Bool) : Nat → Nat | 0 => 0 | n + 1 => if f n then lft f n else n + 1
/-- From p on f holds up to there, m places at most. -/
def rgt (f : Nat → Bool) (p : Nat) : Nat → Nat | 0 => p | m + 1 => if f p then rgt f (p + 1) m else p
theorem lft_zero (f : Nat → Bool) : lft f 0 = 0 := rfl
theorem lft_yes {f : Nat → Bool} {n : Nat} (h : f n = true) : lft f (n + 1) = lft f n := by rw [lft, if_pos h]
theorem lft_no {f : Nat → Bool} {n : Nat} (h : f n = false) : lft f (n + 1) = n + 1 := by rw [lft, h]; rfl
theorem lft_le (f : Nat → Bool) (n : Nat) : lft f n ≤ n := by
  induction n with
  | zero => exact Nat.le_refl _
  | succ n ih => rw [lft]; split <;> omega
theorem lft_in (f : Nat → Bool) (n : Nat) : ∀ i, lft f n ≤ i → i < n → f i = true := by
  induction n with
  | zero => intro i _ h; omega
  | succ n ih =>
    intro i h1 h2
    cases hf : f n with
    | false => rw [lft_no hf] at h1; omega
    | true =>
      rw [lft_yes hf] at h1
      rcases Nat.eq_or_lt_of_le (Nat.le_of_lt_succ h2) with e | hlt
      · rw [e]; exact hf
      · exact ih i h1 hlt
theorem lft_stop (f : Nat → Bool) (n : Nat) : lft f n = 0 ∨ f (lft f n - 1) = false := by
  induction n with
  | zero => exact Or.inl rfl
  | succ n ih =>
    cases hf : f n with
    | false => right; rw [lft_no hf]; simpa using hf
    | true => rw [lft_yes hf]; exact ih
theorem lft_down {f : Nat → Bool} {a n : Nat} (h : a ≤ n) (hf : ∀ i, a ≤ i → i < n → f i = true) : lft f n = lft f a := by
  induction n with
  | zero => obtain rfl : a = 0 := by omega
            rfl
  | succ n ih =>
    rcases Nat.eq_or_lt_of_le h with e | hlt
    · rw [e]
    · rw [lft_yes (hf n (by omega) (by omega))]
      exact ih (by omega) (fun i h1 h2 => hf i h1 (by omega))
theorem lft_here {f : Nat → Bool} {n : Nat} (h : n = 0 ∨ f (n - 1) = false) : lft f n = n := by
  cases n with
  | zero => rfl
  | succ n => exact lft_no (by simpa using h)
theorem rgt_zero (f : Nat → Bool) (p : Nat) : rgt f p 0 = p := rfl
theorem rgt_yes {f : Nat → Bool} {p m : Nat} (h : f p = true) : rgt f p (m + 1) = rgt f (p + 1) m := by rw [rgt, if_pos h]
theorem rgt_no {f : Nat → Bool} {p m : Nat} (h : f p = false) : rgt f p m = p := by
  cases m with
  | zero => rfl
  | succ m => rw [rgt, h]; rfl
theorem rgt_ge (f : Nat → Bool) (p m : Nat) : p ≤ rgt f p m ∧ rgt f p m ≤ p + m := by
  induction m generalizing p with
  | zero => exact ⟨Nat.le_refl _, Nat.le_refl _⟩
  | succ m ih =>
    cases hf : f p with
    | false => rw [rgt_no hf]; omega
    | true => rw [rgt_yes hf]; have := ih (p + 1); omega
theorem rgt_in (f : Nat → Bool) (p m : Nat) : ∀ i, p ≤ i → i < rgt f p m → f i = true := by
  induction m generalizing p with
  | zero => intro i h1 h2; rw [rgt_zero] at h2; omega
  | succ m ih =>
    intro i h1 h2
    cases hf : f p with
    | false => rw [rgt_no hf] at h2; omega
    | true =>
      rw [rgt_yes hf] at h2
      rcases Nat.eq_or_lt_of_le h1 with e | hlt
      · rw [← e]; exact hf
      · exact ih (p + 1) i (by omega) h2
theorem rgt_stop (f : Nat → Bool) (p m : Nat) : rgt f p m = p + m ∨ f (rgt f p m) = false := by
  induction m generalizing p with
  | zero => exact Or.inl rfl
  | succ m ih =>
    cases hf : f p with
    | false => right; rw [rgt_no hf]; exact hf
    | true =>
      rw [rgt_yes hf]
      rcases ih (p + 1) with h | h
      · left; omega
      · right; exact h
theorem rgt_up {f : Nat → Bool} {p q l : Nat} (h : p ≤ q) (hq : q ≤ l) (hf : ∀ i, p ≤ i → i < q → f i = true) : rgt f p (l - p) = rgt f q (l - q) := by
  induction hk : q - p generalizing p with
  | zero => obtain rfl : p = q := by omega
            rfl
  | succ k ih =>
    rw [show l - p = (l - (p + 1)) + 1 by omega, rgt_yes (hf p (by omega) (by omega))]
    exact ih (p := p + 1) (by omega) (fun i h1 h2 => hf i (by omega) h2) (by omega)

/-- Is a byte of this class? -/
def same (s : List UInt8) (big : Bool) (c : Nat) (i : Nat) : Bool := decide (at_ s i big = c)
theorem same_iff {s : List UInt8} {big : Bool} {c i : Nat} : same s big c i = true ↔ at_ s i big = c := by simp [same]
theorem same_not {s : List UInt8} {big : Bool} {c i : Nat} : same s big c i = false ↔ at_ s i big ≠ c := by simp [same]
/-- Of the rune that begins at x: from where to where runes of its class stand. -/
def low_ (s : List UInt8) (x : Int) (big : Bool) : Int := if kind s x big = 0 ∨ kind s x big = 4 then -1 else (lft (same s big (kind s x big)) x.toNat : Nat)
def high_ (s : List UInt8) (x : Int) (big : Bool) : Int := if kind s x big = 0 ∨ kind s x big = 4 then -1 else (rgt (same s big (kind s x big)) x.toNat (s.length - x.toNat) : Nat)
theorem low_none {s : List UInt8} {x : Int} {big : Bool} (h : kind s x big = 0 ∨ kind s x big = 4) : low_ s x big = -1 := by rw [low_, if_pos h]
theorem high_none {s : List UInt8} {x : Int} {big : Bool} (h : kind s x big = 0 ∨ kind s x big = 4) : high_ s x big = -1 := by rw [high_, if_pos h]
theorem low_some {s : List UInt8} {x : Nat} {big : Bool} (h : ¬ (kind s x big = 0 ∨ kind s x big = 4)) : low_ s x big = (lft (same s big (kind s x big)) x : Nat) := by rw [low_, if_neg h]; simp
theorem high_some {s : List UInt8} {x : Nat} {big : Bool} (h : ¬ (kind s x big = 0 ∨ kind s x big = 4)) : high_ s x big = (rgt (same s big (kind s x big)) x (s.length - x) : Nat) := by rw [high_, if_neg h]; simp
theorem kind_nat {s : List UInt8} {x : Int} {big : Bool} (h : ¬ (kind s x big = 0 ∨ kind s x big = 4)) : ∃ rs i, dec s = some rs ∧ i < rs.length ∧ x = (off rs i : Int) ∧ kind s x big = at_ s (off rs i) big := by
  have hn : ¬ next s x < 0 := fun hn => h (Or.inl (kind_none hn big))
  obtain ⟨rs, i, hd, hi, rfl⟩ := next_place hn
  exact ⟨rs, i, hd, hi, rfl, kind_at hd hi big⟩

/-- A text in which letters are others. -/
def flip (f : Nat → Bool) (b : UInt8) : UInt8 := if f b.toNat then b ^^^ 32 else b
def turn (f : Nat → Bool) (s : List UInt8) : List UInt8 := s.map (flip f)
theorem turn_length (f : Nat → Bool) (s : List UInt8) : (turn f s).length = s.length := by simp [turn]
theorem flip_all (P : UInt8 → Prop) (h : ∀ b : Fin 256, P (UInt8.ofNat b.val)) (b : UInt8) : P b := by
  have := h ⟨b.toNat, b.toNat_lt⟩
  simpa using this
theorem flip_flip (b : UInt8) : flip letter (flip letter b) = b := flip_all (fun b => flip letter (flip letter b) = b) (by decide +kernel) b
theorem up_up (b : UInt8) : flip small (flip small b) = flip small b := flip_all (fun b => flip small (flip small b) = flip small b) (by decide +kernel) b
theorem low_up (b : UInt8) : flip capital (flip small b) = flip capital b := flip_all (fun b => flip capital (flip small b) = flip capital b) (by decide +kernel) b
theorem up_low (b : UInt8) : flip small (flip capital b) = flip small b := flip_all (fun b => flip small (flip capital b) = flip small b) (by decide +kernel) b
theorem up_flip (b : UInt8) : flip small (flip letter b) = flip small b := flip_all (fun b => flip small (flip letter b) = flip small b) (by decide +kernel) b
theorem turn_turn {f g h : Nat → Bool} (hfg : ∀ b, flip f (flip g b) = flip h b) (s : List UInt8) : turn f (turn g s) = turn h s := by
  simp [turn, Function.comp_def, hfg]
theorem flips (s : List UInt8) : turn letter (turn letter s) = s := by
  simp [turn, Function.comp_def, flip_flip]
theorem ups (s : List UInt8) : turn small (turn small s) = turn small s := turn_turn up_up s
theorem lows (s : List UInt8) : turn capital (turn small s) = turn capital s := turn_turn low_up s
theorem ups_low (s : List UInt8) : turn small (turn capital s) = turn small s := turn_turn up_low s
theorem ups_flip (s : List UInt8) : turn small (turn letter s) = turn small s := turn_turn up_flip s
theorem up_range (b : UInt8) : (len (flip small b).toNat = len b.toNat ∧ low (flip small b).toNat = low b.toNat ∧ high (flip small b).toNat = high b.toNat) ∧ (128 ≤ (flip small b).toNat ∨ 128 ≤ b.toNat → flip small b = b) :=
  flip_all (fun b => (len (flip small b).toNat = len b.toNat ∧ low (flip small b).toNat = low b.toNat ∧ high (flip small b).toNat = high b.toNat) ∧ (128 ≤ (flip small b).toNat ∨ 128 ≤ b.toNat → flip small b = b)) (by decide +kernel) b
theorem goes_up {lo hi n : Nat} (hlo : 128 ≤ lo) (s : List UInt8) : goes lo hi n (turn small s) = goes lo hi n s := by
  induction s generalizing lo hi n with
  | nil => rfl
  | cons b s ih =>
    cases n with
    | zero => simp [goes]
    | succ n =>
      rw [show turn small (b :: s) = flip small b :: turn small s from rfl]
      simp only [goes]
      rw [ih (Nat.le_refl _)]
      by_cases hb : 128 ≤ (flip small b).toNat ∨ 128 ≤ b.toNat
      · rw [(up_range b).2 hb]
      · have h1 : decide (lo ≤ (flip small b).toNat) = false := by simp; omega
        have h2 : decide (lo ≤ b.toNat) = false := by simp; omega
        rw [h1, h2]; rfl
theorem siz_up (s : List UInt8) : siz (turn small s) = siz s := by
  cases s with
  | nil => rfl
  | cons b s =>
    rw [show turn small (b :: s) = flip small b :: turn small s from rfl, siz_cons, siz_cons]
    obtain ⟨h1, h2, h3⟩ := (up_range b).1
    rw [h1, h2, h3, goes_up (low_le _)]
theorem valid_up (s : List UInt8) : valid (turn small s) = valid s := by
  induction hn : s.length using Nat.strongRecOn generalizing s with
  | ind n ih =>
    by_cases h0 : s = []
    · subst h0; rfl
    · have h0' : turn small s ≠ [] := by
        intro h; have := congrArg List.length h; rw [turn_length] at this; simp at this; exact h0 this
      have hp : 0 < s.length := List.length_pos_iff.2 h0
      by_cases h1 : 0 < siz s ∧ siz s ≤ s.length
      · have hd : (turn small s).drop (siz s) = turn small (s.drop (siz s)) := by simp [turn]
        have e1 : valid s = valid (s.drop (siz s)) := by
          rw [valid, dec, if_neg h0, if_pos h1, valid]
          cases dec (s.drop (siz s)) <;> rfl
        have e2 : valid (turn small s) = valid ((turn small s).drop (siz s)) := by
          rw [valid, dec, if_neg h0', siz_up, if_pos ⟨h1.1, by rw [turn_length]; exact h1.2⟩, valid]
          cases dec ((turn small s).drop (siz s)) <;> rfl
        rw [e1, e2, hd]
        exact ih _ (by rw [List.length_drop]; omega) _ rfl
      · have e1 : dec s = none := dec_bad h0 (by omega)
        have e2 : dec (turn small s) = none := dec_bad h0' (by rw [siz_up, turn_length]; omega)
        rw [valid, valid, e1, e2]
/-- How many blanks lead. -/
def lead : List UInt8 → Nat | [] => 0 | b :: s => if plain b.toNat = 1 then lead s + 1 else 0
end Class
end Go.Proofs.YtchpkeelnfmlbaaGreat
