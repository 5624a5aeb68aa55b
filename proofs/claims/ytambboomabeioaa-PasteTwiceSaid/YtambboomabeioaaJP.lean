/-
  What is put in, flipped, and put over others, without a program.
-/
import Derived.Test.YtambboomabeioaaGlue
import Derived.Test.YtambboomabeioaaSpan
import Derived.Test.YtambboomabeioaaClass
import Derived.Test.YtambboomabeioaaKey
import Derived.Test.YtambboomabeioaaChange
namespace Go.Proofs.Ytambboomabeioaa
namespace Pst
open Utf (dec off valid place next prev rune offset one)
open Line (L seg of_ clamp normal L_whole L_valid L_each)
open Gl

/-- What is told: a text, a place, an error. -/
abbrev Ans := List UInt8 × Int × Int
def val (r : Ans) : Value := .tuple #[.string (bs r.1), .int .i64 r.2.1, .int .i64 r.2.2]
theorem val_mk (t : List UInt8) (p e : Int) : val (t, p, e) = .tuple #[.string (bs t), .int .i64 p, .int .i64 e] := rfl
def no (e : Int) : Ans := ([], 0, e)
theorem val_no (e : Int) : val (no e) = .tuple #[.string ⟨#[]⟩, .int .i64 0, .int .i64 e] := rfl

/-- A text n times. -/
def reps : Nat → List UInt8 → List UInt8
  | 0, _ => []
  | n + 1, x => x ++ reps n x
theorem reps_succ (n : Nat) (x : List UInt8) : reps (n + 1) x = x ++ reps n x := rfl
theorem reps_one (x : List UInt8) : reps 1 x = x := by simp [reps]
theorem reps_snoc (n : Nat) (x : List UInt8) : reps (n + 1) x = reps n x ++ x := by
  induction n with
  | zero => simp [reps]
  | succ n ih => rw [reps_succ (n + 1), ih, ← List.append_assoc, ← reps_succ, ih]
theorem reps_length (n : Nat) (x : List UInt8) : (reps n x).length = n * x.length := by
  induction n with
  | zero => simp [reps]
  | succ n ih => rw [reps_succ, List.length_append, ih, Nat.succ_mul, Nat.add_comm]
/-- A text with another one in the place of what stands from a to b. -/
def mid (s : List UInt8) (a b : Nat) (y : List UInt8) : List UInt8 := s.take a ++ (y ++ s.drop b)
theorem mid_length {s : List UInt8} {a b : Nat} (y : List UInt8) (h : a ≤ b) (hb : b ≤ s.length) : (mid s a b y).length + (b - a) = s.length + y.length := by
  rw [mid, List.length_append, List.length_append, List.length_take, List.length_drop]; omega

/-- What is put in each time. -/
def once (x : List UInt8) (l ah : Bool) : List UInt8 := if l then (if ah then x ++ [10] else 10 :: x) else x
/-- Where. -/
def spot (s : List UInt8) (p : Int) (l ah : Bool) : Int := if l then (if ah then Line.start s (of_ s p) else Line.stop s (of_ s p)) else (if ah = true ∨ Span.ends s p.toNat = true then p else next s p)
/-- How often, at least once. -/
def often (n : Int) : Nat := (max n 1).toNat
theorem often_int (n : Int) : (often n : Int) = max n 1 := by unfold often; omega
theorem often_pos (n : Int) : 1 ≤ often n := by unfold often; omega
/-- Put. -/
def putT (s : List UInt8) (p : Int) (x : List UInt8) (l ah : Bool) (n : Int) : List UInt8 := mid s (spot s p l ah).toNat (spot s p l ah).toNat (reps (often n) (once x l ah))
def putP (s : List UInt8) (p : Int) (x : List UInt8) (l ah : Bool) (n : Int) : Int :=
  if l then Line.first (putT s p x l ah n) (if ah then of_ s p else of_ s p + 1)
  else if 10 ∈ x then clamp (putT s p x l ah n) (spot s p l ah)
  else prev (putT s p x l ah n) (spot s p l ah + (often n * x.length : Nat))
def fits (s x : List UInt8) (l ah : Bool) (n : Int) : Prop := s.length + often n * (once x l ah).length ≤ 4096
instance (s x : List UInt8) (l ah : Bool) (n : Int) : Decidable (fits s x l ah n) := inferInstanceAs (Decidable (_ ≤ _))
def put (s : List UInt8) (p : Int) (x : List UInt8) (l ah : Bool) (n : Int) : Ans :=
  if place s p = true ∧ valid x = true then
    (if x = [] ∧ l = false then no 7 else if fits s x l ah n then (putT s p x l ah n, putP s p x l ah n, 0) else no 8)
  else no 1

/-- Behind the n runes from p on; -1, if the line has not so many. -/
def behind (s : List UInt8) (p n : Int) : Int := if offset (seg s p.toNat (Line.stop s (of_ s p)).toNat) n < 0 then -1 else p + offset (seg s p.toNat (Line.stop s (of_ s p)).toNat) n
/-- .. or the line's end. -/
def reach (s : List UInt8) (p n : Int) : Int := if behind s p (max n 1) < 0 then Line.stop s (of_ s p) else behind s p (max n 1)
/-- Flip. -/
def flipT (s : List UInt8) (p q : Nat) : List UInt8 := mid s p q (Class.turn Class.letter (seg s p q))
def flip (s : List UInt8) (p n : Int) : Ans :=
  if place s p = true then
    (if Span.ends s p.toNat = true then no 10 else (flipT s p.toNat (reach s p n).toNat, clamp (flipT s p.toNat (reach s p n).toNat) (reach s p n), 0))
  else no 1
/-- May it be put over others? -/
def key (k : List UInt8) : Bool := (one k && Key.sgn k) || decide (k = [9])
/-- Over. -/
def overT (s : List UInt8) (p q : Nat) (k : List UInt8) (n : Int) : List UInt8 := mid s p q (reps (often n) k)
def over (s : List UInt8) (p : Int) (k : List UInt8) (n : Int) : Ans :=
  if place s p = true then
    (if key k = true then
      (if behind s p (max n 1) < 0 then no 10
       else if (overT s p.toNat (behind s p (max n 1)).toNat k n).length ≤ 4096 then (overT s p.toNat (behind s p (max n 1)).toNat k n, p + ((often n - 1) * k.length : Nat), 0)
       else no 8)
     else no 9)
  else no 1

/-- A place, and the runes from it on, ahead of its line's end. -/
theorem tail_runes {s : List UInt8} {p : Int} (h : place s p = true) : ∃ (rs : List (List UInt8)) (i j : Nat), dec s = some rs ∧ i ≤ j ∧ j ≤ rs.length ∧ p = off rs i ∧ Line.stop s (of_ s p) = off rs j ∧ dec (seg s p.toNat (Line.stop s (of_ s p)).toNat) = some ((rs.take j).drop i) ∧
    (Span.ends s p.toNat = true ↔ i = j) ∧ (∀ q : Nat, off rs i ≤ q → q < off rs j → s[q]? ≠ some 10) ∧ (j = rs.length ∨ s[off rs j]? = some 10) ∧ off rs i ≤ off rs j ∧ off rs j ≤ s.length := by
  obtain ⟨n, k, x, rfl, hx, h1, h2, h3, he, hst, hsp⟩ := Line.place_line h
  obtain ⟨rs, i', j, hd, hij, hj, hi1, hj1⟩ : ∃ (rs : List (List UInt8)) (i' j : Nat), dec s = some rs ∧ i' ≤ j ∧ j ≤ rs.length ∧ off rs i' = x.1 ∧ off rs j = x.2 := by
    obtain ⟨rs, hd⟩ := Utf.valid_of (L_valid hx)
    obtain ⟨i, j, a, b, c, d, _⟩ := Line.line_runes hd hx
    exact ⟨rs, i, j, hd, a, b, c, d⟩
  obtain ⟨i, hi, hin⟩ := (Utf.place_iff hd).1 h
  have hin' : off rs i = n := by omega
  have hall := (Utf.dec_some hd).1
  have hij2 : i ≤ j := by
    rcases Nat.lt_or_ge j i with h4 | h4
    · have := Utf.off_lt hall h4 hi; omega
    · exact h4
  have W := L_whole (L_valid hx)
  refine ⟨rs, i, j, hd, hij2, hj, by omega, by rw [hsp, hj1], ?_, ?_, ?_, ?_, Utf.off_mono hij2, Utf.off_in hd j⟩
  · rw [hsp, Int.toNat_natCast, Int.toNat_natCast, ← hin', ← hj1]
    exact Line.seg_dec hd i j
  · rw [Int.toNat_natCast, Span.ends_at hx h1 h2, decide_eq_true_iff]
    constructor
    · intro e
      refine Utf.off_inj hall hi hj ?_
      omega
    · rintro rfl; omega
  · intro q hq hqj
    exact (W.each k x hx).2.2.2 _ (by omega) (by omega)
  · cases hy : (L s)[k + 1]? with
    | none =>
      have := W.last k x hx hy
      left
      refine Utf.off_inj hall hj (Nat.le_refl _) ?_
      rw [Utf.off_top hd (Nat.le_refl _)]; omega
    | some y => right; rw [hj1]; exact (W.more k x y hx hy).2
theorem behind_runes {s : List UInt8} {p : Int} {rs : List (List UInt8)} {i j : Nat} (hd : dec (seg s p.toNat (Line.stop s (of_ s p)).toNat) = some ((rs.take j).drop i)) (hp : p = off rs i) (hij : i ≤ j) (hj : j ≤ rs.length) {m : Nat} :
    behind s p (m : Int) = if i + m ≤ j then (off rs (i + m) : Int) else -1 := by
  have hl : ((rs.take j).drop i).length = j - i := by rw [List.length_drop, List.length_take]; omega
  rw [behind]
  by_cases h : i + m ≤ j
  · rw [Utf.offset_at hd (by rw [hl]; omega), if_neg (by omega), if_pos h, hp, Line.seg_off (rs := rs) (i := i) (j := j) h]
    omega
  · rw [Utf.offset_past hd (Or.inr (by rw [hl]; omega)), if_pos (by decide), if_neg h]
theorem reach_runes {s : List UInt8} {p : Int} {rs : List (List UInt8)} {i j : Nat} (hd : dec (seg s p.toNat (Line.stop s (of_ s p)).toNat) = some ((rs.take j).drop i)) (hp : p = off rs i) (hij : i ≤ j) (hj : j ≤ rs.length) (he : Line.stop s (of_ s p) = off rs j) (n : Int) :
    reach s p n = off rs (i + min (often n) (j - i)) := by
  rw [reach, ← often_int, behind_runes hd hp hij hj]
  by_cases h : i + often n ≤ j
  · rw [if_pos h, if_neg (by omega), Nat.min_eq_left (by omega)]
  · rw [if_neg h, if_pos (by decide), he, Nat.min_eq_right (by omega)]
    congr 2; omega
/-- Where something is put in is a place. -/
theorem spot_place {s : List UInt8} {p : Int} (h : place s p = true) (l ah : Bool) : ∃ a : Nat, spot s p l ah = a ∧ a ≤ s.length ∧ place s (a : Int) = true := by
  obtain ⟨n, k, x, hn, hx, h1, h2, h3, he, hst, hsp⟩ := Line.place_line h
  rw [spot]
  cases l with
  | true =>
    rw [if_pos rfl]
    cases ah with
    | true => rw [if_pos rfl, hst]; exact ⟨x.1, rfl, by omega, Line.start_ok hx⟩
    | false => rw [if_neg (by decide), hsp]; exact ⟨x.2, rfl, h3, Line.stop_ok hx⟩
  | false =>
    rw [if_neg (by decide)]
    by_cases hc : ah = true ∨ Span.ends s p.toNat = true
    · rw [if_pos hc]; exact ⟨n, hn, by omega, by rw [← hn]; exact h⟩
    · rw [if_neg hc]
      have hlt : n < s.length := by
        rcases Nat.lt_or_ge n s.length with h4 | h4
        · exact h4
        · exact absurd (Or.inr (by rw [hn, Int.toNat_natCast, Span.ends, decide_eq_true (by omega)]; rfl)) hc
      obtain ⟨m, hm, hp, _, hml⟩ := Span.next_ok (q := n) (by rw [← hn]; exact h) hlt
      rw [hn, hm]
      exact ⟨m, rfl, hml, hp⟩
theorem once_length (x : List UInt8) (l ah : Bool) : (once x l ah).length = x.length + (if l then 1 else 0) := by
  cases l <;> cases ah <;> simp [once]
/-- There is room for so many. -/
theorem room {n f z : Int} (hn : 1 ≤ n) (hz : 1 ≤ z) : f.tdiv z < n ↔ f < n * z := by
  rcases Int.lt_or_le f 0 with h | h
  · constructor
    · intro _
      have : 0 < n * z := Int.mul_pos (by omega) (by omega)
      omega
    · intro _
      have h2 : f.tdiv z ≤ 0 := by
        rw [show f = -(-f) by omega, Int.neg_tdiv]
        have := Int.tdiv_nonneg (a := -f) (b := z) (by omega) (by omega)
        omega
      omega
  · rw [Int.tdiv_eq_ediv_of_nonneg h]
    exact Int.ediv_lt_iff_lt_mul (by omega)
end Pst
end Go.Proofs.Ytambboomabeioaa
/-
  What may be told of a text and a place, without a program; other letters keep a text valid, and its lines.
-/
namespace Go.Proofs.Ytambboomabeioaa
namespace Opr
open Utf (valid place dec off one)
open Line (L L_whole L_valid L_each seg clamp normal clip lns)
open Gl
/-- What may be told. -/
def Good (x : List UInt8) (p e : Int) (nm : Bool) : Prop := (e ≠ 0 → x = [] ∧ p = 0) ∧ (e = 0 → place x p = true ∧ (nm = true → normal x p = true))
theorem good_no {e : Int} (nm : Bool) (h : e ≠ 0) : Good [] 0 e nm := ⟨fun _ => ⟨rfl, rfl⟩, fun h2 => absurd h2 h⟩
theorem place_normal {x : List UInt8} {p : Int} (h : normal x p = true) : place x p = true := by
  cases hp : place x p with
  | true => rfl
  | false => rw [Line.normal_bad hp] at h; cases h
theorem good_normal {x : List UInt8} {p : Int} (h : normal x p = true) : Good x p 0 true := ⟨fun h => absurd rfl h, fun _ => ⟨place_normal h, fun _ => h⟩⟩
theorem clamp_good {x : List UInt8} (hv : valid x = true) (p : Int) : Good x (clamp x p) 0 true := by
  obtain ⟨k, y, hy, h1, h2⟩ := (L_whole hv).find (p := clip x p) (Line.clip_le x p)
  obtain ⟨c, hc, _, hn, _⟩ := Line.clamp_ok hy h1 h2
  rw [hc]; exact good_normal hn
theorem first_good {x : List UInt8} {k : Nat} (h : k < (L x).length) : Good x (Line.first x (k : Nat)) 0 true := by
  obtain ⟨c, hc, hn, _, _⟩ := Line.first_ok (List.getElem?_eq_getElem h)
  rw [hc]; exact good_normal hn
theorem flip_low (f : Nat → Bool) (hf : f = Class.small ∨ f = Class.capital ∨ f = Class.letter) (b : UInt8) : (b.toNat < 128 → (Class.flip f b).toNat < 128) ∧ (128 ≤ b.toNat → Class.flip f b = b) := by
  rcases hf with rfl | rfl | rfl
  · exact Class.flip_all (fun b => (b.toNat < 128 → (Class.flip Class.small b).toNat < 128) ∧ (128 ≤ b.toNat → Class.flip Class.small b = b)) (by decide +kernel) b
  · exact Class.flip_all (fun b => (b.toNat < 128 → (Class.flip Class.capital b).toNat < 128) ∧ (128 ≤ b.toNat → Class.flip Class.capital b = b)) (by decide +kernel) b
  · exact Class.flip_all (fun b => (b.toNat < 128 → (Class.flip Class.letter b).toNat < 128) ∧ (128 ≤ b.toNat → Class.flip Class.letter b = b)) (by decide +kernel) b
theorem heads_low {b : UInt8} (h : Utf.heads b.toNat = false) : 128 ≤ b.toNat := Class.flip_all (fun b => Utf.heads b.toNat = false → 128 ≤ b.toNat) (by decide +kernel) b h
theorem len_low {b : UInt8} (h : b.toNat < 128) : Utf.len b.toNat = 1 := Class.flip_all (fun b => b.toNat < 128 → Utf.len b.toNat = 1) (by decide +kernel) b h
theorem turn_one {f : Nat → Bool} (hf : f = Class.small ∨ f = Class.capital ∨ f = Class.letter) {r : List UInt8} (h : one r = true) : one (Class.turn f r) = true := by
  obtain ⟨a, t, rfl, _, hl, ht⟩ := Utf.one_shape h
  rcases Nat.lt_or_ge a.toNat 128 with ha | ha
  · rw [len_low ha] at hl
    cases t with
    | cons _ _ => rw [List.length_cons, List.length_cons] at hl; omega
    | nil => exact one_ascii ((flip_low f hf a).1 ha)
  · have : Class.turn f (a :: t) = a :: t := by
      rw [Class.turn, List.map_cons, (flip_low f hf a).2 ha]
      congr 1
      conv => rhs; rw [← List.map_id t]
      exact List.map_congr_left fun b hb => (flip_low f hf b).2 (heads_low (ht b hb))
    rw [this]; exact h
theorem turn_valid {f : Nat → Bool} (hf : f = Class.small ∨ f = Class.capital ∨ f = Class.letter) {x : List UInt8} (h : valid x = true) : valid (Class.turn f x) = true := by
  obtain ⟨rs, hd⟩ := Utf.valid_of h
  obtain ⟨h1, h2⟩ := Utf.dec_some hd
  have e : Class.turn f x = (rs.map (Class.turn f)).flatten := by
    rw [h2, Class.turn, List.map_flatten]
    rfl
  rw [e, valid, Utf.dec_of fun r hr => ?_]
  · rfl
  · obtain ⟨z, hz, rfl⟩ := List.mem_map.1 hr
    exact turn_one hf (h1 z hz)
theorem seg_valid {s : List UInt8} {p q : Nat} (hp : place s (p : Int) = true) (hq : place s (q : Int) = true) (h : p ≤ q) : valid (seg s p q) = true := by
  obtain ⟨rs, i, hd, hi, he⟩ := Utf.place_of hp
  obtain ⟨rs', j, hd', hj, he'⟩ := Utf.place_of hq
  rw [hd] at hd'
  injection hd' with hd'
  subst hd'
  obtain ⟨h1, h2⟩ := Utf.dec_some hd
  obtain rfl : off rs i = p := by omega
  obtain rfl : off rs j = q := by omega
  have hij : i ≤ j := by
    rcases Nat.lt_or_ge j i with h3 | h3
    · have := Utf.off_lt h1 h3 hi; omega
    · exact h3
  have ho : off (rs.take j) i = off rs i := by rw [off, off, List.take_take, Nat.min_eq_left hij]
  rw [seg, h2, Utf.off_take, ← ho, Utf.off_drop, valid, Utf.dec_of fun r hr => h1 r (List.mem_of_mem_take (List.mem_of_mem_drop hr))]
  rfl
/-- Lines lie where line feeds do. -/
theorem lns_same (a i : Nat) {t u : List UInt8} (h : t.map (fun b => decide (b = 10)) = u.map (fun b => decide (b = 10))) : lns a i t = lns a i u := by
  induction t generalizing a i u with
  | nil => cases u with
    | nil => rfl
    | cons _ _ => cases h
  | cons b t ih =>
    cases u with
    | nil => cases h
    | cons c u =>
      rw [List.map_cons, List.map_cons] at h
      injection h with h1 h2
      rw [lns, lns]
      by_cases hb : b = 10
      · have hc : c = 10 := by rw [decide_eq_true hb] at h1; exact of_decide_eq_true h1.symm
        rw [if_pos hb, if_pos hc, ih _ _ h2]
      · have hc : ¬ c = 10 := by rw [decide_eq_false hb] at h1; exact of_decide_eq_false h1.symm
        rw [if_neg hb, if_neg hc, ih _ _ h2]
theorem flip_feed (b : UInt8) : decide (Class.flip Class.letter b = 10) = decide (b = 10) := Class.flip_all (fun b => decide (Class.flip Class.letter b = 10) = decide (b = 10)) (by decide +kernel) b
theorem three_parts {s : List UInt8} {p q : Nat} (h : p ≤ q) (hq : q ≤ s.length) : s = s.take p ++ (seg s p q ++ s.drop q) ∧ (s.take p).length = p ∧ (seg s p q).length = q - p := by
  refine ⟨?_, by rw [List.length_take]; omega, by rw [seg, List.length_drop, List.length_take]; omega⟩
  have e : s.take p = (s.take q).take p := by rw [List.take_take, Nat.min_eq_left h]
  rw [seg, ← List.append_assoc, e, List.take_append_drop, List.take_append_drop]
end Opr
end Go.Proofs.Ytambboomabeioaa
/-
  What the document puts in, text by text, without a program; what is put in may be taken out, what is flipped may be flipped back, what is put over others is as many runes.
-/
namespace Go.Proofs.Ytambboomabeioaa
namespace Pst
open Utf (dec off valid place next prev rune offset one)
open Line (L seg of_ clamp normal L_whole L_valid L_each)
open Gl

/-- A text, and so many times more with another one between; as soon as it is longer than any text it is enough. -/
def rp (x bt : List UInt8) : Nat → List UInt8
  | 0 => x
  | n + 1 => if (rp x bt n).length ≤ 4096 then rp x bt n ++ (bt ++ x) else rp x bt n
theorem rp_more {x bt : List UInt8} {n : Nat} (h : (rp x bt n).length ≤ 4096) : rp x bt (n + 1) = rp x bt n ++ (bt ++ x) := by rw [rp, if_pos h]
theorem rp_stop {x bt : List UInt8} {i n : Nat} (h : 4096 < (rp x bt i).length) (hin : i ≤ n) : rp x bt n = rp x bt i := by
  induction n with
  | zero => rw [show i = 0 by omega]
  | succ n ih =>
    rcases Nat.eq_or_lt_of_le hin with e | hlt
    · rw [e]
    · rw [rp, ih (by omega), if_neg (by omega)]
theorem rp_length (x bt : List UInt8) (n : Nat) : (rp x bt n).length ≤ 4096 + bt.length + x.length := by
  induction n with
  | zero => show x.length ≤ _; omega
  | succ n ih =>
    rw [rp]
    split
    · rw [List.length_append, List.length_append]; omega
    · exact ih
theorem rp_two (x bt : List UInt8) (n : Nat) : rp x bt n = x ++ reps n (bt ++ x) ∨ 4096 < (rp x bt n).length := by
  induction n with
  | zero => left; simp [rp, reps]
  | succ n ih =>
    rw [rp]
    split
    · rename_i h
      rcases ih with e | h2
      · left; rw [reps_snoc, e, List.append_assoc]
      · omega
    · right; omega
theorem reps_swap (x b : List UInt8) (n : Nat) : x ++ reps n (b ++ x) = reps n (x ++ b) ++ x := by
  induction n with
  | zero => simp [reps]
  | succ n ih => rw [reps_succ, reps_succ, List.append_assoc, List.append_assoc, List.append_assoc, ← ih]
/-- What the document puts in. -/
def refS (x : List UInt8) (l ah : Bool) (n : Int) : List UInt8 := if l then (if ah then rp x [10] (often n - 1) ++ [10] else 10 :: rp x [10] (often n - 1)) else rp x [] (often n - 1)
theorem refS_two (x : List UInt8) (l ah : Bool) (n : Int) : refS x l ah n = reps (often n) (once x l ah) ∨ 4096 < (refS x l ah n).length := by
  obtain ⟨m, hm⟩ : ∃ m, often n = m + 1 := ⟨often n - 1, by have := often_pos n; omega⟩
  rw [refS, once, hm, Nat.add_sub_cancel]
  cases l with
  | true =>
    rcases rp_two x [10] m with e | h
    · left
      cases ah with
      | true => rw [if_pos rfl, if_pos rfl, if_pos rfl, if_pos rfl, e, reps_swap, reps_snoc, List.append_assoc]
      | false =>
        rw [if_pos rfl, if_neg (by decide), if_pos rfl, if_neg (by decide), e]
        rfl
    · right
      cases ah with
      | true => rw [if_pos rfl, if_pos rfl, List.length_append]; omega
      | false => rw [if_pos rfl, if_neg (by decide), List.length_cons]; omega
  | false =>
    rcases rp_two x [] m with e | h
    · left; rw [if_neg (by decide), if_neg (by decide), e]; rfl
    · right; rw [if_neg (by decide)]; exact h
theorem refS_fit {s x : List UInt8} {l ah : Bool} {n : Int} (h : s.length + (refS x l ah n).length ≤ 4096) : fits s x l ah n ∧ refS x l ah n = reps (often n) (once x l ah) := by
  rcases refS_two x l ah n with e | h2
  · refine ⟨?_, e⟩
    rw [e, reps_length] at h
    exact h
  · omega
theorem refS_over {s x : List UInt8} {l ah : Bool} {n : Int} (h : fits s x l ah n) : s.length + (refS x l ah n).length ≤ 4096 := by
  rw [fits] at h
  have ho := often_pos n
  obtain ⟨m, hm⟩ : ∃ m, often n = m + 1 := ⟨often n - 1, by omega⟩
  rw [once_length, hm, Nat.succ_mul] at h
  have hr : ∀ (bt : List UInt8), x.length + m * (bt.length + x.length) ≤ 4096 → rp x bt m = x ++ reps m (bt ++ x) := fun bt hb => by
    have key : ∀ k, k ≤ m → rp x bt k = x ++ reps k (bt ++ x) := fun k => by
      induction k with
      | zero => intro _; simp [rp, reps]
      | succ k ih =>
        intro hk
        have e := ih (by omega)
        have h1 : k * (bt.length + x.length) ≤ m * (bt.length + x.length) := Nat.mul_le_mul_right _ (by omega)
        rw [rp, e, if_pos (by rw [List.length_append, reps_length, List.length_append]; omega), reps_snoc, List.append_assoc]
    exact key m (Nat.le_refl _)
  rw [refS, hm, Nat.add_sub_cancel]
  cases l with
  | true =>
    simp only [if_true] at h
    have hb : (x ++ reps m ([10] ++ x)).length = x.length + m * (x.length + 1) := by rw [List.length_append, reps_length, List.length_append, List.length_singleton, Nat.add_comm 1]
    rw [hr [10] (by rw [List.length_singleton, Nat.add_comm 1]; omega)]
    cases ah with
    | true => rw [if_pos rfl, if_pos rfl, List.length_append, hb, List.length_singleton]; omega
    | false => rw [if_pos rfl, if_neg (by decide), List.length_cons, hb]; omega
  | false =>
    simp only [Bool.false_eq_true, if_false, Nat.add_zero] at h ⊢
    rw [hr [] (by rw [List.length_nil, Nat.zero_add]; omega), List.length_append, reps_length, List.nil_append]
    omega
theorem mem_reps {n : Nat} {x : List UInt8} {b : UInt8} (hn : 1 ≤ n) : b ∈ reps n x ↔ b ∈ x := by
  induction n with
  | zero => omega
  | succ n ih =>
    rw [reps_succ, List.mem_append]
    rcases Nat.eq_zero_or_pos n with h | h
    · subst h; simp [reps]
    · rw [ih h]; simp
theorem valid_reps {n : Nat} {x : List UInt8} (h : valid x = true) : valid (reps n x) = true := by
  induction n with
  | zero => exact valid_nil
  | succ n ih => rw [reps_succ, valid_all _ h]; exact ih
theorem valid_once {x : List UInt8} (h : valid x = true) (l ah : Bool) : valid (once x l ah) = true := by
  cases l with
  | false => exact h
  | true =>
    cases ah with
    | true => show valid (x ++ [10]) = true; rw [valid_all _ h, valid_feed]; exact valid_nil
    | false => show valid (10 :: x) = true; rw [valid_feed]; exact h
theorem mid_valid {s y : List UInt8} {a b : Nat} (ha : place s (a : Int) = true) (hb : place s (b : Int) = true) (hy : valid y = true) : valid (mid s a b y) = true := by
  rw [mid, valid_all _ (place_two ha).1, valid_all _ hy]
  exact (place_two hb).2

/-- What Put tells. -/
theorem put_cases (s : List UInt8) (p : Int) (x : List UInt8) (l ah : Bool) (n : Int) : (∃ e : Int, e ≠ 0 ∧ put s p x l ah n = no e) ∨
    (place s p = true ∧ valid x = true ∧ ¬ (x = [] ∧ l = false) ∧ fits s x l ah n ∧ put s p x l ah n = (putT s p x l ah n, putP s p x l ah n, 0)) := by
  rw [put]
  split
  · rename_i h
    split
    · exact .inl ⟨7, by decide, rfl⟩
    · rename_i h0
      split
      · rename_i hf; exact .inr ⟨h.1, h.2, h0, hf, rfl⟩
      · exact .inl ⟨8, by decide, rfl⟩
  · exact .inl ⟨1, by decide, rfl⟩
/-- A text in which something was put in: nothing goes. -/
theorem diff_mid {s y : List UInt8} {a : Nat} (ha : place s (a : Int) = true) (hy : valid y = true) (hl : a ≤ s.length) : Chg.dOld s (mid s a a y) = [] ∧ (Chg.dOld (mid s a a y) s).length = y.length := by
  obtain ⟨rs, i, hd, hi, he⟩ := Utf.place_of ha
  obtain ⟨ys, hdy⟩ := Utf.valid_of hy
  have hoa : off rs i = a := by omega
  obtain ⟨hr, hs⟩ := Utf.dec_some hd
  obtain ⟨hyr, hys⟩ := Utf.dec_some hdy
  have hv := mid_valid ha ha hy
  have ht : s.take a = (rs.take i).flatten := by rw [hs, ← hoa, Utf.off_take]
  have htd : s.drop a = (rs.drop i).flatten := by rw [hs, ← hoa, Utf.off_drop]
  have hm : dec (mid s a a y) = some (rs.take i ++ (ys ++ rs.drop i)) := by
    have := Utf.dec_of (rs := rs.take i ++ (ys ++ rs.drop i)) (fun r hm => by
      rcases List.mem_append.1 hm with h | h
      · exact hr r (List.mem_of_mem_take h)
      · rcases List.mem_append.1 h with h | h
        · exact hyr r h
        · exact hr r (List.mem_of_mem_drop h))
    rw [List.flatten_append, List.flatten_append, ← ht, ← htd, ← hys] at this
    exact this
  have hold : Chg.dOld s (mid s a a y) = [] := by
    by_cases hn : s = mid s a a y
    · exact Chg.dOld_none (.inl hn)
    · rw [Chg.dOld_some hn hd hm]
      have h1 : i ≤ Chg.cp rs (rs.take i ++ (ys ++ rs.drop i)) := Chg.cp_max hi (by rw [List.take_append_of_le_length (by rw [List.length_take]; omega), List.take_take, Nat.min_self])
      have h2 := Chg.cp_le rs (rs.take i ++ (ys ++ rs.drop i))
      have h3 : (rs.take i ++ (ys ++ rs.drop i)).length = rs.length + ys.length := by rw [List.length_append, List.length_append, List.length_take, List.length_drop]; omega
      have h4 := Chg.cp_le' rs (rs.take i ++ (ys ++ rs.drop i))
      rw [Chg.mid]
      generalize hc : Chg.cp rs (rs.take i ++ (ys ++ rs.drop i)) = c at *
      have h5 : (rs.drop c).length ≤ Chg.cs (rs.drop c) ((rs.take i ++ (ys ++ rs.drop i)).drop c) := by
        refine Chg.cs_max (Nat.le_refl _) ?_
        have hd2 : (rs.take i ++ (ys ++ rs.drop i)).drop (c + ys.length) = rs.drop c := by
          rw [← List.append_assoc, List.drop_append, (List.drop_eq_nil_of_le (by rw [List.length_append, List.length_take]; omega) : (rs.take i ++ ys).drop (c + ys.length) = []), List.nil_append, List.length_append, List.length_take, List.drop_drop]
          congr 1; omega
        rw [Nat.sub_self, List.drop_zero, List.length_drop, List.length_drop, h3, List.drop_drop, show c + (rs.length + ys.length - c - (rs.length - c)) = c + ys.length by omega, hd2]
      rw [show (rs.drop c).length - Chg.cs (rs.drop c) ((rs.take i ++ (ys ++ rs.drop i)).drop c) = 0 by omega]
      rfl
  refine ⟨hold, ?_⟩
  obtain ⟨p, q, h1, h2, _⟩ := Chg.diff_parts (Line.place_ok ha) hv
  have e1 := congrArg List.length h1
  have e2 := congrArg List.length h2
  rw [hold, List.nil_append, List.length_append] at e1
  rw [List.length_append, List.length_append] at e2
  have e3 := mid_length (s := s) y (Nat.le_refl a) hl
  omega
theorem count_mid (s y : List UInt8) (a : Nat) : (mid s a a y).count 10 = s.count 10 + y.count 10 := by
  rw [mid, List.count_append, List.count_append]
  conv => rhs; rw [← List.take_append_drop a s, List.count_append]
  omega
theorem count_reps {n : Nat} {x : List UInt8} (hn : 1 ≤ n) : x.count 10 ≤ (reps n x).count 10 := by
  obtain ⟨m, rfl⟩ : ∃ m, n = m + 1 := ⟨n - 1, by omega⟩
  rw [reps_succ, List.count_append]; omega
/-- A place at which no line feed stands, nor the text ends, is normal. -/
theorem normal_of {s : List UInt8} {n : Nat} (h : place s (n : Int) = true) (hl : n < s.length) (h10 : s[n]? ≠ some 10) : normal s (n : Int) = true := by
  obtain ⟨n', k, x, hn, hx, h1, h2, _⟩ := Line.place_line h
  obtain rfl : n' = n := by omega
  have he := Span.ends_at hx h1 h2
  rw [Span.ends, decide_eq_false (by omega), decide_eq_false h10] at he
  have hne : n' ≠ x.2 := fun e => by rw [decide_eq_true e] at he; cases he
  rw [Line.normal_in hx h h1 h2, decide_eq_true (show n' < x.2 by omega)]
  rfl
/-- The rune ahead of what stands behind a text without line feeds. -/
theorem normal_prev {A Y B : List UInt8} (hA : valid A = true) (hY : valid Y = true) (hB : valid B = true) (h0 : Y ≠ []) (h10 : (10 : UInt8) ∉ Y) : normal (A ++ (Y ++ B)) (prev (A ++ (Y ++ B)) (A.length + Y.length : Nat)) = true := by
  obtain ⟨us, ha⟩ := Utf.valid_of hA
  obtain ⟨ys, hy⟩ := Utf.valid_of hY
  obtain ⟨ss, hb⟩ := Utf.valid_of hB
  obtain ⟨h1, h2⟩ := Utf.dec_some ha
  obtain ⟨h3, h4⟩ := Utf.dec_some hy
  obtain ⟨h5, h6⟩ := Utf.dec_some hb
  have hd : dec (A ++ (Y ++ B)) = some (us ++ (ys ++ ss)) := by
    have := Utf.dec_of (rs := us ++ (ys ++ ss)) (fun r hm => by
      rcases List.mem_append.1 hm with h | h
      · exact h1 r h
      · rcases List.mem_append.1 h with h | h
        · exact h3 r h
        · exact h5 r h)
    rw [List.flatten_append, List.flatten_append, ← h2, ← h4, ← h6] at this
    exact this
  have hys : ys ≠ [] := by rintro rfl; exact h0 (by rw [h4]; rfl)
  obtain ⟨m, hm⟩ : ∃ m, ys.length = m + 1 := ⟨ys.length - 1, by have := List.length_pos_iff.2 hys; omega⟩
  have ho : off (us ++ (ys ++ ss)) (us.length + m + 1) = A.length + Y.length := by
    rw [off, ← List.append_assoc, List.take_left' (by rw [List.length_append]; omega), List.flatten_append, ← h2, ← h4, List.length_append]
  have hlt : us.length + m < (us ++ (ys ++ ss)).length := by rw [List.length_append, List.length_append]; omega
  have hpr := Utf.prev_at hd hlt
  rw [ho] at hpr
  rw [hpr]
  have hpl := Utf.place_at hd (Nat.le_of_lt hlt)
  have hlt2 := Utf.off_lt (Utf.dec_some hd).1 (show us.length + m < us.length + m + 1 by omega) hlt
  have hin := Utf.off_in hd (us.length + m + 1)
  refine normal_of hpl (by omega) fun e => ?_
  have ho3 : A.length ≤ off (us ++ (ys ++ ss)) (us.length + m) := by
    have := Utf.off_mono (rs := us ++ (ys ++ ss)) (show us.length ≤ us.length + m by omega)
    rwa [show off (us ++ (ys ++ ss)) us.length = A.length by rw [off, List.take_left, ← h2]] at this
  rw [ho] at hlt2
  rw [List.getElem?_append_right ho3, List.getElem?_append_left (by omega)] at e
  exact h10 (List.mem_of_getElem? e)
/-- What was put in: how long all is, what comes and goes, and the cursor's place. -/
theorem put_less {s : List UInt8} {p : Int} {x : List UInt8} {l ah : Bool} {n : Int} (hp : place s p = true) (hx : valid x = true) (h0 : ¬ (x = [] ∧ l = false)) :
    (putT s p x l ah n).length = s.length + often n * (once x l ah).length ∧ Chg.dOld s (putT s p x l ah n) = [] ∧ (Chg.dOld (putT s p x l ah n) s).length = often n * (once x l ah).length ∧ normal (putT s p x l ah n) (putP s p x l ah n) = true := by
  obtain ⟨a, ha, hal, hpa⟩ := spot_place hp l ah
  have hy := valid_reps (n := often n) (valid_once hx l ah)
  have ho := often_pos n
  have hT : putT s p x l ah n = mid s a a (reps (often n) (once x l ah)) := by rw [putT, ha, Int.toNat_natCast]
  have hml := mid_length (s := s) (reps (often n) (once x l ah)) (Nat.le_refl a) hal
  obtain ⟨d1, d2⟩ := diff_mid hpa hy hal
  have hv := mid_valid hpa hpa hy
  rw [reps_length] at hml d2
  rw [putP, hT, ha]
  refine ⟨by omega, d1, d2, ?_⟩
  cases l with
  | true =>
    rw [if_pos rfl]
    obtain ⟨n', k, z, hn, hz, h1, h2, h3, hk, _⟩ := Line.place_line hp
    have hkl := (List.getElem?_eq_some_iff.1 hz).1
    have c1 := Span.L_count (Line.place_ok hp)
    have c2 := Span.L_count hv
    have c3 := count_mid s (reps (often n) (once x true ah)) a
    have c4 := count_reps (x := once x true ah) ho
    have c5 : 1 ≤ (once x true ah).count 10 := by cases ah <;> simp [once, List.count_append]
    rw [hk]
    cases ah with
    | true =>
      rw [if_pos rfl]
      obtain ⟨c, hc, hn, _, _⟩ := Line.first_ok (List.getElem?_eq_getElem (show k < (L (mid s a a (reps (often n) (once x true true)))).length by omega))
      rw [hc]; exact hn
    | false =>
      rw [if_neg (by decide)]
      obtain ⟨c, hc, hn, _, _⟩ := Line.first_ok (List.getElem?_eq_getElem (show k + 1 < (L (mid s a a (reps (often n) (once x true false)))).length by omega))
      rw [show ((k : Int) + 1) = ((k + 1 : Nat) : Int) from rfl, hc]; exact hn
  | false =>
    rw [if_neg (by decide)]
    have hxe : once x false ah = x := rfl
    rw [hxe] at hv hy hml ⊢
    split
    · have := (Opr.clamp_good hv (a : Int)).2 rfl
      exact this.2 rfl
    · rename_i h10
      have hne : reps (often n) x ≠ [] := fun e => by
        have h1 := congrArg List.length e
        rw [reps_length, List.length_nil] at h1
        rcases Nat.mul_eq_zero.1 h1 with h2 | h2
        · omega
        · exact h0 ⟨List.eq_nil_of_length_eq_zero h2, rfl⟩
      have := normal_prev (place_two hpa).1 hy (place_two hpa).2 hne (fun e => h10 ((mem_reps ho).1 e))
      rw [List.length_take, Nat.min_eq_left hal, reps_length] at this
      exact this
end Pst
end Go.Proofs.Ytambboomabeioaa
/-
  What is flipped twice is the same, what is put over others is as many runes and lines: without a program.
-/
namespace Go.Proofs.Ytambboomabeioaa
namespace Pst
open Utf (dec off valid place next prev rune offset one)
open Line (L seg of_ clamp normal L_whole L_valid L_each lns)
open Gl
theorem off_lens {rs us : List (List UInt8)} (h : rs.map List.length = us.map List.length) (q : Nat) : off rs q = off us q := by
  rw [off, off, List.length_flatten, List.length_flatten, List.map_take, List.map_take, h]
theorem runes_three {rs : List (List UInt8)} {i c : Nat} (hic : i ≤ c) : rs = rs.take i ++ ((rs.take c).drop i ++ rs.drop c) := by
  have e : rs.take i = (rs.take c).take i := by rw [List.take_take, Nat.min_eq_left hic]
  rw [← List.append_assoc, e, List.take_append_drop, List.take_append_drop]
theorem seg_runes {s : List UInt8} {rs : List (List UInt8)} (hd : dec s = some rs) (i c : Nat) : seg s (off rs i) (off rs c) = ((rs.take c).drop i).flatten := (Utf.dec_some (Line.seg_dec hd i c)).2
theorem take_runes {s : List UInt8} {rs : List (List UInt8)} (hd : dec s = some rs) (i : Nat) : s.take (off rs i) = (rs.take i).flatten := by
  conv => lhs; rw [(Utf.dec_some hd).2]
  exact Utf.off_take rs i
theorem drop_runes {s : List UInt8} {rs : List (List UInt8)} (hd : dec s = some rs) (i : Nat) : s.drop (off rs i) = (rs.drop i).flatten := by
  conv => lhs; rw [(Utf.dec_some hd).2]
  exact Utf.off_drop rs i
/-- A text's runes with others in the place of some. -/
theorem mid_runes {s : List UInt8} {rs ys : List (List UInt8)} (hd : dec s = some rs) (hy : ∀ r ∈ ys, one r = true) (i c : Nat) : dec (mid s (off rs i) (off rs c) ys.flatten) = some (rs.take i ++ (ys ++ rs.drop c)) := by
  have hr := (Utf.dec_some hd).1
  have := Utf.dec_of (rs := rs.take i ++ (ys ++ rs.drop c)) (fun r hm => by
    rcases List.mem_append.1 hm with h | h
    · exact hr r (List.mem_of_mem_take h)
    · rcases List.mem_append.1 h with h | h
      · exact hy r h
      · exact hr r (List.mem_of_mem_drop h))
  rw [List.flatten_append, List.flatten_append, ← take_runes hd, ← drop_runes hd] at this
  exact this
theorem flip_runes {s : List UInt8} {rs : List (List UInt8)} (hd : dec s = some rs) (i c : Nat) : dec (flipT s (off rs i) (off rs c)) = some (rs.take i ++ (((rs.take c).drop i).map (Class.turn Class.letter) ++ rs.drop c)) := by
  have hr := (Utf.dec_some hd).1
  have e : Class.turn Class.letter (seg s (off rs i) (off rs c)) = (((rs.take c).drop i).map (Class.turn Class.letter)).flatten := by
    rw [seg_runes hd, Class.turn, List.map_flatten]
    rfl
  rw [flipT, e]
  refine mid_runes hd (fun r hm => ?_) i c
  obtain ⟨z, hz, rfl⟩ := List.mem_map.1 hm
  exact Opr.turn_one (.inr (.inr rfl)) (hr z (List.mem_of_mem_take (List.mem_of_mem_drop hz)))
theorem flip_lens {rs : List (List UInt8)} {i c : Nat} (hic : i ≤ c) : rs.map List.length = (rs.take i ++ (((rs.take c).drop i).map (Class.turn Class.letter) ++ rs.drop c)).map List.length := by
  conv => lhs; rw [runes_three (rs := rs) hic]
  rw [List.map_append, List.map_append, List.map_append, List.map_append, List.map_map]
  congr 2
  exact List.map_congr_left fun r _ => (Class.turn_length _ r).symm
theorem flip_lines {s : List UInt8} {p q : Nat} (hv : valid (flipT s p q) = true) (hs : valid s = true) (h : p ≤ q) (hl : q ≤ s.length) : L (flipT s p q) = L s := by
  rw [Line.L_ok hv, Line.L_ok hs]
  refine Opr.lns_same 0 0 ?_
  obtain ⟨h1, _, _⟩ := Opr.three_parts h hl
  rw [flipT, mid]
  conv => rhs; rw [h1]
  simp only [List.map_append, Class.turn, List.map_map]
  congr 2
  exact List.map_congr_left fun b _ => Opr.flip_feed b
theorem flip_back {s : List UInt8} {p q : Nat} (h : p ≤ q) (hq : q ≤ s.length) : flipT (flipT s p q) p q = s := by
  obtain ⟨h1, h2, h3⟩ := Opr.three_parts h hq
  have hu : flipT s p q = s.take p ++ (Class.turn Class.letter (seg s p q) ++ s.drop q) := rfl
  have hm : (s.take p ++ Class.turn Class.letter (seg s p q)).length = q := by rw [List.length_append, Class.turn_length]; omega
  have e1 : (flipT s p q).take p = s.take p := by rw [hu, List.take_left' h2]
  have e2 : (flipT s p q).drop q = s.drop q := by rw [hu, ← List.append_assoc, List.drop_left' hm]
  have e3 : seg (flipT s p q) p q = Class.turn Class.letter (seg s p q) := by rw [seg, hu, ← List.append_assoc, List.take_left' hm, List.drop_left' h2]
  rw [flipT, mid, e1, e2, e3, Class.flips]
  exact h1.symm
theorem flip_length {s : List UInt8} {p q : Nat} (h : p ≤ q) (hq : q ≤ s.length) : (flipT s p q).length = s.length := by
  obtain ⟨h1, h2, h3⟩ := Opr.three_parts h hq
  have := mid_length (s := s) (Class.turn Class.letter (seg s p q)) h hq
  rw [Class.turn_length, h3] at this
  rw [flipT]; omega
/-- How far Flip goes. -/
theorem reach_ok {s : List UInt8} {p : Int} (hp : place s p = true) (n : Int) : ∃ a q : Nat, p = a ∧ reach s p n = q ∧ a ≤ q ∧ q ≤ s.length ∧ place s (q : Int) = true := by
  obtain ⟨rs, i, j, hd, hij, hj, he, hst, hsd, _⟩ := tail_runes hp
  have hr := reach_runes hsd he hij hj hst n
  exact ⟨_, _, he, hr, Utf.off_mono (by omega), Utf.off_in hd _, Utf.place_at hd (by omega)⟩
/-- Flipped once more. -/
theorem flip_twice {s : List UInt8} {p : Int} (hp : place s p = true) (n : Int) {a q : Nat} (ha : p = a) (hq : reach s p n = q) :
    valid (flipT s a q) = true ∧ place (flipT s a q) p = true ∧ Span.ends (flipT s a q) a = Span.ends s a ∧ reach (flipT s a q) p n = q := by
  obtain ⟨rs, i, j, hd, hij, hj, he, hst, hsd, hen, _⟩ := tail_runes hp
  have hr := reach_runes hsd he hij hj hst n
  have hall := (Utf.dec_some hd).1
  obtain rfl : off rs i = a := by omega
  obtain rfl : off rs (i + min (often n) (j - i)) = q := by omega
  generalize hc : i + min (often n) (j - i) = c at *
  have hf := flip_runes hd i c
  have hl := flip_lens (rs := rs) (i := i) (c := c) (by omega)
  have hlen := congrArg List.length hl
  rw [List.length_map, List.length_map] at hlen
  have ho := off_lens hl
  have hac : off rs i ≤ off rs c := Utf.off_mono (by omega)
  have hL := flip_lines (Utf.valid_ok hf) (Line.place_ok hp) hac (Utf.off_in hd c)
  have hfl := flip_length hac (Utf.off_in hd c)
  generalize hU : flipT s (off rs i) (off rs c) = U at *
  generalize hus : rs.take i ++ (((rs.take c).drop i).map (Class.turn Class.letter) ++ rs.drop c) = us at *
  have hpU : place U p = true := by rw [he, ho i]; exact Utf.place_at hf (by omega)
  have hsp : Line.stop U (of_ U p) = Line.stop s (of_ s p) := by
    obtain ⟨n', k, x, hn, hx, h1, h2, _, _, _, h5⟩ := Line.place_line hp
    have hxU : (L U)[k]? = some x := by rw [hL]; exact hx
    rw [h5, hn, Line.of_at hxU h1 h2, Line.stop_some (by rw [Line.line_nat]; exact hxU)]
  refine ⟨Utf.valid_ok hf, hpU, ?_, ?_⟩
  · obtain ⟨n', k, x, hn, hx, h1, h2, _⟩ := Line.place_line hp
    obtain rfl : n' = off rs i := by omega
    rw [Span.ends_at hx h1 h2, Span.ends_at (by rw [hL]; exact hx) h1 h2]
  · obtain ⟨rs', i', j', hd', hij', hj', he', hst', hsd', _⟩ := tail_runes hpU
    rw [hf] at hd'
    injection hd' with hd'
    subst hd'
    have hall' := (Utf.dec_some hf).1
    have hi : i' = i := Utf.off_inj hall' (by omega) (by omega) (by rw [← ho i]; omega)
    have hjj : j' = j := Utf.off_inj hall' hj' (by omega) (by rw [← ho j]; omega)
    subst hi hjj
    rw [reach_runes hsd' he' hij' hj' hst' n, hc, ho c]
/-- A rune with a line feed is one. -/
theorem feed_rune {r : List UInt8} (h : one r = true) (hm : (10 : UInt8) ∈ r) : r = [10] := by
  obtain ⟨a, t, rfl, _, hl, ht⟩ := Utf.one_shape h
  rcases List.mem_cons.1 hm with e | e
  · subst e
    have : t.length = 0 := by
      have h1 : Utf.len (10 : UInt8).toNat = 1 := by decide
      rw [h1, List.length_cons] at hl; omega
    rw [List.eq_nil_of_length_eq_zero this]
  · have := ht _ e
    exact absurd this (by decide)
/-- What may be put over others is a rune, and no line feed. -/
theorem key_one {k : List UInt8} (h : key k = true) : one k = true ∧ (10 : UInt8) ∉ k ∧ k.length ≤ 4 := by
  rw [key, Bool.or_eq_true, Bool.and_eq_true, decide_eq_true_iff] at h
  rcases h with ⟨h1, h2⟩ | rfl
  · refine ⟨h1, fun hm => ?_, Utf.one_le h1⟩
    rw [feed_rune h1 hm] at h2
    exact absurd h2 (by decide)
  · exact ⟨one_ascii (by decide), by decide, by decide⟩
theorem reps_flat (n : Nat) (k : List UInt8) : reps n k = (List.replicate n k).flatten := by
  induction n with
  | zero => rfl
  | succ n ih => rw [reps_succ, List.replicate_succ, List.flatten_cons, ih]
/-- What Over's runs. -/
theorem behind_ok {s : List UInt8} {p : Int} (hp : place s p = true) {m : Nat} (h : ¬ behind s p (m : Int) < 0) : ∃ a b : Nat, p = a ∧ behind s p (m : Int) = b ∧ a ≤ b ∧ b ≤ s.length ∧ place s (b : Int) = true ∧ (1 ≤ m → Span.ends s a = false) := by
  obtain ⟨rs, i, j, hd, hij, hj, he, hst, hsd, hen, _⟩ := tail_runes hp
  have hb := behind_runes hsd he hij hj (m := m)
  have him : i + m ≤ j := by
    rcases Nat.lt_or_ge j (i + m) with h1 | h1
    · rw [hb, if_neg (by omega)] at h; exact absurd (by decide) h
    · exact h1
  rw [if_pos him] at hb
  refine ⟨_, _, he, hb, Utf.off_mono (by omega), Utf.off_in hd _, Utf.place_at hd (by omega), fun h1 => ?_⟩
  cases hx : Span.ends s (off rs i) with
  | false => rfl
  | true =>
    have := hen.1 (by rw [he, Int.toNat_natCast]; exact hx)
    omega
theorem over_runes {s k : List UInt8} {p : Int} (hp : place s p = true) (hk : key k = true) {n : Int} {a b : Nat} (ha : p = a) (hb : behind s p (max n 1) = b) :
    Utf.count (overT s a b k n) = Utf.count s ∧ (L (overT s a b k n)).length = (L s).length ∧ rune (overT s a b k n) (p + ((often n - 1) * k.length : Nat)) = k ∧ rune (overT s a b k n) p = k := by
  obtain ⟨rs, i, j, hd, hij, hj, he, hst, hsd, _, hno, _⟩ := tail_runes hp
  obtain ⟨h1, h10, _⟩ := key_one hk
  rw [← often_int, behind_runes hsd he hij hj] at hb
  have ho := often_pos n
  rw [overT]
  generalize often n = m at *
  have him : i + m ≤ j := by
    rcases Nat.lt_or_ge j (i + m) with h1 | h1
    · rw [if_neg (by omega)] at hb; omega
    · exact h1
  rw [if_pos him] at hb
  obtain rfl : off rs i = a := by omega
  obtain rfl : off rs (i + m) = b := by omega
  have hu := mid_runes hd (ys := List.replicate m k) (fun r hr => by rw [(List.mem_replicate.1 hr).2]; exact h1) i (i + m)
  rw [← reps_flat] at hu
  have hlen : (rs.take i ++ (List.replicate m k ++ rs.drop (i + m))).length = rs.length := by rw [List.length_append, List.length_append, List.length_take, List.length_replicate, List.length_drop]; omega
  have hil : (rs.take i).length = i := by rw [List.length_take]; omega
  have hoff : ∀ d, d ≤ m → off (rs.take i ++ (List.replicate m k ++ rs.drop (i + m))) (i + d) = off rs i + d * k.length := fun d hd2 => by
    rw [off, off, List.take_append, hil, List.take_of_length_le (by omega), Nat.add_sub_cancel_left, List.take_append_of_le_length (by rw [List.length_replicate]; exact hd2), List.take_replicate, Nat.min_eq_left hd2, List.flatten_append, List.length_append, ← reps_flat, reps_length]
  have hget : ∀ d, d < m → (rs.take i ++ (List.replicate m k ++ rs.drop (i + m)))[i + d]? = some k := fun d hd2 => by
    rw [List.getElem?_append_right (by omega), hil, Nat.add_sub_cancel_left, List.getElem?_append_left (by rw [List.length_replicate]; exact hd2), List.getElem?_replicate, if_pos hd2]
  refine ⟨by rw [Utf.count_ok hu, Utf.count_ok hd, hlen], ?_, ?_, ?_⟩
  · rw [Span.L_count (Utf.valid_ok hu), Span.L_count (Utf.valid_ok hd), mid, List.count_append, List.count_append]
    have c1 := Span.count_more (s := s) (a := off rs i) (n := off rs (i + m) - off rs i) (fun q h1 h2 => hno q h1 (by have := Utf.off_mono (rs := rs) him; have := Utf.off_mono (rs := rs) (show i ≤ i + m by omega); omega))
    rw [show off rs i + (off rs (i + m) - off rs i) = off rs (i + m) by have := Utf.off_mono (rs := rs) (show i ≤ i + m by omega); omega] at c1
    have c2 : (reps m k).count 10 = 0 := List.count_eq_zero.2 fun hm => h10 ((mem_reps ho).1 hm)
    conv => rhs; rw [← List.take_append_drop (off rs (i + m)) s, List.count_append, c1]
    omega
  · have := Utf.rune_at hu (hget (m - 1) (by omega))
    rw [hoff (m - 1) (by omega)] at this
    rw [he, ← Int.natCast_add]
    exact this
  · have := Utf.rune_at hu (hget 0 (by omega))
    rw [hoff 0 (by omega), Nat.zero_mul, Nat.add_zero] at this
    rw [he]
    exact this
end Pst
end Go.Proofs.Ytambboomabeioaa
