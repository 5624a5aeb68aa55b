/-
  Words in texts, without a program: rows of places and classes, what is told of words as one goes through them, where they begin and end, and where motions lead.
-/
import Derived.Test.YtjkcdmlbnfibgaaClassRefs
namespace Go.Proofs.Ytjkcdmlbnfibgaa
namespace Hop
open Utf Class

/-- The places of a text from p on, each with the class of the rune there; the end is as a line feed. -/
def rows (big : Bool) : Nat → List (List UInt8) → List (Nat × Nat)
  | p, [] => [(p, 4)]
  | p, r :: rs => (p, head r big) :: rows big (p + r.length) rs
def R (s : List UInt8) (big : Bool) : List (Nat × Nat) := match dec s with | none => [] | some rs => rows big 0 rs
theorem R_bad {s : List UInt8} (h : dec s = none) (big : Bool) : R s big = [] := by simp [R, h]
theorem R_ok {s : List UInt8} {rs} (h : dec s = some rs) (big : Bool) : R s big = rows big 0 rs := by simp [R, h]
theorem rows_length (big : Bool) (p : Nat) (rs : List (List UInt8)) : (rows big p rs).length = rs.length + 1 := by
  induction rs generalizing p with
  | nil => rfl
  | cons r rs ih => simp [rows, ih]
/-- The class of the rune i; that of a line feed behind the last one. -/
def cls (big : Bool) (rs : List (List UInt8)) (i : Nat) : Nat := (rs[i]?.map (head · big)).getD 4
theorem cls_some {big : Bool} {rs : List (List UInt8)} {i : Nat} {r : List UInt8} (h : rs[i]? = some r) : cls big rs i = head r big := by simp [cls, h]
theorem cls_end {big : Bool} {rs : List (List UInt8)} {i : Nat} (h : rs.length ≤ i) : cls big rs i = 4 := by simp [cls, List.getElem?_eq_none h]
theorem rows_drop (big : Bool) (a : Nat) (rs : List (List UInt8)) (i : Nat) (h : i ≤ rs.length) : (rows big a rs).drop i = rows big (a + off rs i) (rs.drop i) := by
  induction rs generalizing a i with
  | nil => obtain rfl : i = 0 := by simpa using h
           simp [off]
  | cons r rs ih =>
    cases i with
    | zero => simp [off]
    | succ i =>
      rw [rows, List.drop_succ_cons, ih (a + r.length) i (by simpa using h), off_cons, List.drop_succ_cons, Nat.add_assoc]
theorem rows_cons (big : Bool) (a : Nat) (rs : List (List UInt8)) {i : Nat} {r : List UInt8} (h : rs[i]? = some r) : (rows big a rs).drop i = (a + off rs i, head r big) :: (rows big a rs).drop (i + 1) := by
  have hi : i < rs.length := (List.getElem?_eq_some_iff.1 h).1
  have hr : rs[i] = r := (List.getElem?_eq_some_iff.1 h).2
  rw [rows_drop big a rs i (by omega), rows_drop big a rs (i + 1) (by omega), List.drop_eq_getElem_cons hi, rows, hr, off_next h, Nat.add_assoc]
theorem rows_last (big : Bool) (a : Nat) (rs : List (List UInt8)) : (rows big a rs).drop rs.length = [(a + off rs rs.length, 4)] := by
  rw [rows_drop big a rs _ (Nat.le_refl _), List.drop_eq_nil_of_le (Nat.le_refl _), rows]
theorem rows_take (big : Bool) (a : Nat) (rs : List (List UInt8)) {i : Nat} {r : List UInt8} (h : rs[i]? = some r) : (rows big a rs).take (i + 1) = (rows big a rs).take i ++ [(a + off rs i, head r big)] := by
  rw [List.take_add_one]
  congr 1
  have := rows_cons big a rs h
  rw [← List.head?_drop, this]; rfl
theorem rows_all (big : Bool) (a : Nat) (rs : List (List UInt8)) : rows big a rs = (rows big a rs).take rs.length ++ [(a + off rs rs.length, 4)] := by
  rw [← rows_last, List.take_append_drop]

/-- What is known behind some rows: where the last run began, the last place, and the last class. -/
abbrev St := Nat × Int × Nat
def step (st : St) (x : Nat × Nat) : St := (if x.2 = st.2.2 then st.1 else x.1, (x.1 : Int), x.2)
/-- What is told at a row. -/
def out (st : St) (x : Nat × Nat) : List (Nat × Int) :=
  if x.2 = 4 ∧ st.2.2 = 4 then [(x.1, -1)] else if x.2 ≠ st.2.2 ∧ st.2.2 ≠ 1 ∧ st.2.2 ≠ 4 then [(st.1, st.2.1)] else []
def from_ (a : List (Nat × Int) × St) (l : List (Nat × Nat)) : List (Nat × Int) × St := l.foldl (fun a x => (a.1 ++ out a.2 x, step a.2 x)) a
def run (l : List (Nat × Nat)) : List (Nat × Int) × St := from_ ([], (0, -1, 4)) l
theorem from_nil (a) : from_ a [] = a := rfl
theorem from_cons (a) (x) (l) : from_ a (x :: l) = from_ (a.1 ++ out a.2 x, step a.2 x) l := rfl
theorem run_nil : run [] = ([], (0, -1, 4)) := rfl
theorem run_snoc (l) (x) : run (l ++ [x]) = ((run l).1 ++ out (run l).2 x, step (run l).2 x) := by simp [run, from_]
theorem from_append (a l m) : from_ a (l ++ m) = from_ (from_ a l) m := by simp [from_]
theorem from_out (e : List (Nat × Int)) (st : St) (l) : from_ (e, st) l = (e ++ (from_ ([], st) l).1, (from_ ([], st) l).2) := by
  induction l generalizing e st with
  | nil => simp [from_]
  | cons x l ih =>
    rw [from_cons, from_cons, ih]
    rw [ih ([] ++ out st x)]
    simp
theorem run_prefix {l m : List (Nat × Nat)} (h : l <+: m) : (run l).1 <+: (run m).1 := by
  obtain ⟨t, rfl⟩ := h
  have h1 : run (l ++ t) = from_ ((run l).1, (run l).2) t := by rw [run, from_append]; rfl
  rw [h1, from_out]
  exact ⟨_, rfl⟩
theorem out_le (st : St) (x) : (out st x).length ≤ 1 := by unfold out; split <;> (try split) <;> simp
theorem from_le (l : List (Nat × Nat)) : ∀ st, (from_ ([], st) l).1.length ≤ l.length := by
  induction l with
  | nil => intro st; simp [from_nil]
  | cons x l ih => intro st; rw [from_cons, from_out]; have := out_le st x; have := ih (step st x); simp; omega
theorem run_le (l : List (Nat × Nat)) : (run l).1.length ≤ l.length := from_le l _

/-- The words of a text: where each begins and ends (-1: a line without runes). -/
def words (s : List UInt8) (big : Bool) : List (Nat × Int) := (run (R s big)).1
def starts (s : List UInt8) (big : Bool) : List Int := (words s big).map fun x => (x.1 : Int)
def ends (s : List UInt8) (big : Bool) : List Int := ((words s big).map (·.2)).filter fun b => decide (0 ≤ b)
theorem words_bad {s : List UInt8} (h : dec s = none) (big : Bool) : words s big = [] := by rw [words, R_bad h]; rfl
theorem starts_bad {s : List UInt8} (h : dec s = none) (big : Bool) : starts s big = [] := by rw [starts, words_bad h]; rfl
theorem ends_bad {s : List UInt8} (h : dec s = none) (big : Bool) : ends s big = [] := by rw [ends, words_bad h]; rfl

/-- The document's starts and ends, row by row. -/
def SS : Nat → List (Nat × Nat) → List Int
  | _, [] => []
  | la, x :: l => (if (x.2 ≠ 1 ∧ x.2 ≠ 4 ∧ x.2 ≠ la) ∨ (x.2 = 4 ∧ la = 4) then [(x.1 : Int)] else []) ++ SS x.2 l
def EE : Nat → Int → List (Nat × Nat) → List Int
  | _, _, [] => []
  | la, en, x :: l => (if la ≠ 1 ∧ la ≠ 4 ∧ x.2 ≠ la then [en] else []) ++ EE x.2 x.1 l
theorem from_starts (big : Bool) (rs : List (List UInt8)) : ∀ (p : Nat) (st : Nat) (en : Int) (la : Nat),
    ((from_ ([], (st, en, la)) (rows big p rs)).1.map fun x => (x.1 : Int)) = (if la ≠ 1 ∧ la ≠ 4 then [(st : Int)] else []) ++ SS la (rows big p rs) := by
  induction rs with
  | nil =>
    intro p st en la
    by_cases h4 : la = 4
    · subst h4; simp [rows, from_, out, SS]
    · by_cases h1 : la = 1
      · subst h1; simp [rows, from_, out, SS]
      · have h5 : (4 : Nat) ≠ la := fun h => h4 h.symm
        simp [rows, from_, out, SS, h4, h1, h5]
  | cons r rs ih =>
    intro p st en la
    rw [rows, from_cons, from_out, List.map_append, ih, SS]
    generalize head r big = c
    simp only [out, step]
    by_cases h4 : la = 4
    · subst h4
      by_cases hc : c = 4
      · subst hc; simp
      · by_cases hc1 : c = 1
        · subst hc1; simp
        · simp [hc, hc1]
    · by_cases h1 : la = 1
      · subst h1
        by_cases hc : c = 4
        · subst hc; simp
        · by_cases hc1 : c = 1
          · subst hc1; simp
          · simp [hc, hc1]
      · by_cases hl : c = la
        · subst hl; simp [h4, h1]
        · by_cases hc : c = 4
          · subst hc; simp [h4, h1, hl]
          · by_cases hc1 : c = 1
            · subst hc1; simp [h4, h1, hl]
            · simp [h4, h1, hl, hc, hc1]
theorem from_ends (big : Bool) (rs : List (List UInt8)) : ∀ (p : Nat) (st : Nat) (en : Int) (la : Nat), (la ≠ 1 ∧ la ≠ 4 → 0 ≤ en) →
    (((from_ ([], (st, en, la)) (rows big p rs)).1.map (·.2)).filter fun b => decide (0 ≤ b)) = EE la en (rows big p rs) := by
  induction rs with
  | nil =>
    intro p st en la hen
    by_cases h4 : la = 4
    · subst h4; simp [rows, from_, out, EE]
    · by_cases h1 : la = 1
      · subst h1; simp [rows, from_, out, EE]
      · have h5 : (4 : Nat) ≠ la := fun h => h4 h.symm
        simp [rows, from_, out, EE, h4, h1, h5, hen ⟨h1, h4⟩]
  | cons r rs ih =>
    intro p st en la hen
    rw [rows, from_cons, from_out, List.map_append, List.filter_append]
    rw [show step (([], (st, en, la)) : List (Nat × Int) × St).2 (p, head r big) = (if head r big = la then st else p, (p : Int), head r big) from rfl, ih _ _ _ _ (by omega), EE]
    generalize head r big = c
    congr 1
    simp only [out]
    by_cases h4 : la = 4
    · subst h4
      by_cases hc : c = 4
      · subst hc; simp
      · simp [hc]
    · by_cases h1 : la = 1
      · subst h1
        simp
      · by_cases hl : c = la
        · subst hl; simp [h4]
        · have := hen ⟨h1, h4⟩
          simp [h4, h1, hl, this]
theorem starts_rows {s : List UInt8} {rs} (h : dec s = some rs) (big : Bool) : starts s big = SS 4 (rows big 0 rs) := by
  rw [starts, words, R_ok h, run, from_starts]; simp
theorem ends_rows {s : List UInt8} {rs} (h : dec s = some rs) (big : Bool) : ends s big = EE 4 (-1) (rows big 0 rs) := by
  rw [ends, words, R_ok h, run, from_ends _ _ _ _ _ _ (by simp)]

/-- Words that lie one behind the other, from m on, each such that G. -/
def Al (G : Nat → Int → Prop) : Nat → List (Nat × Int) → Prop
  | _, [] => True
  | m, x :: l => m ≤ x.1 ∧ G x.1 x.2 ∧ (x.2 = -1 ∨ (x.1 : Int) ≤ x.2) ∧ Al G (max (x.1 : Int) x.2 + 1).toNat l
/-- What is so of a word. -/
def Good (s : List UInt8) (rs : List (List UInt8)) (a : Nat) (b : Int) : Prop :=
  (∃ i, i ≤ rs.length ∧ a = off rs i) ∧ (b = -1 → (a = 0 ∨ s[a - 1]? = some 10) ∧ (a = s.length ∨ s[a]? = some 10)) ∧
    (b ≠ -1 → (a < s.length ∧ s[a]? ≠ some 10) ∧ ∃ j, j < rs.length ∧ b = (off rs j : Int))
/-- The class of the rune ahead of the rune i; that of a line feed ahead of the first one. -/
def prv (big : Bool) (rs : List (List UInt8)) : Nat → Nat | 0 => 4 | i + 1 => cls big rs i
theorem head_at {s : List UInt8} {rs} (h : dec s = some rs) {i : Nat} {r : List UInt8} (hr : rs[i]? = some r) (big : Bool) : head r big = at_ s (off rs i) big := by
  have hi : i < rs.length := (List.getElem?_eq_some_iff.1 hr).1
  have h1 := rune_kind s (off rs i : Int) big
  rw [rune_at h hr, kind_at h hi] at h1
  exact h1
theorem feed_at {s : List UInt8} {rs} (h : dec s = some rs) (i : Nat) (big : Bool) : cls big rs i = 4 ↔ (off rs i = s.length ∨ s[off rs i]? = some 10) := by
  rcases Nat.lt_or_ge i rs.length with hlt | hge
  · have hr := List.getElem?_eq_getElem hlt
    have hb := off_below h hlt
    rw [cls_some hr, head_at h hr, at_lt hb, of_feed_iff]
    rw [List.getElem?_eq_getElem hb]
    constructor
    · intro e; right; congr 1; exact UInt8.toNat_inj.1 e
    · rintro (e | e)
      · omega
      · injection e with e; rw [e]; rfl
  · rw [cls_end hge]
    simp only [true_iff]
    left; rw [off_all hge, ← (dec_some h).2]
theorem feed_prev {s : List UInt8} {rs} (h : dec s = some rs) {i : Nat} (hi : i ≤ rs.length) (big : Bool) : prv big rs i = 4 ↔ (off rs i = 0 ∨ s[off rs i - 1]? = some 10) := by
  cases i with
  | zero => simp [prv, off]
  | succ i =>
    have hlt : i < rs.length := by omega
    have hr := List.getElem?_eq_getElem hlt
    have h0 : off rs i < off rs (i + 1) := off_lt (dec_some h).1 (Nat.lt_succ_self i) hi
    have hs : off rs (i + 1) ≤ s.length := off_in h (i + 1)
    have hb : off rs (i + 1) - 1 < s.length := by omega
    have hsame := rune_same h hlt (q := off rs (i + 1) - 1) (by omega) (by omega) big
    rw [prv, cls_some hr, head_at h hr, ← hsame, at_lt hb, of_feed_iff, List.getElem?_eq_getElem hb]
    constructor
    · intro e; right; congr 1; exact UInt8.toNat_inj.1 e
    · rintro (e | e)
      · omega
      · injection e with e; rw [e]; rfl
theorem good_step {s : List UInt8} {rs} (h : dec s = some rs) (big : Bool) : ∀ (ts : List (List UInt8)) (i : Nat), rs.drop i = ts → i ≤ rs.length → ∀ (m st : Nat) (en : Int),
    (prv big rs i ≠ 1 ∧ prv big rs i ≠ 4 → m ≤ st ∧ (st : Int) ≤ en ∧ en < (off rs i : Int) ∧ Good s rs st en) → (¬ (prv big rs i ≠ 1 ∧ prv big rs i ≠ 4) → m ≤ off rs i) →
    Al (Good s rs) m (from_ ([], (st, en, prv big rs i)) (rows big (off rs i) ts)).1 := by
  intro ts
  induction ts with
  | nil =>
    intro i hd hi m st en hw hn
    have hge : rs.length ≤ i := List.drop_eq_nil_iff.1 hd
    have hend : off rs i = s.length := by rw [off_all hge, ← (dec_some h).2]
    rw [rows, from_cons, from_nil]
    simp only [List.nil_append, out]
    by_cases h4 : prv big rs i = 4
    · rw [if_pos ⟨trivial, h4⟩]
      refine ⟨hn (by omega), ⟨⟨i, hi, rfl⟩, fun _ => ⟨(feed_prev h hi big).1 h4, .inl hend⟩, fun e => absurd rfl e⟩, .inl rfl, trivial⟩
    · rw [if_neg (by omega)]
      by_cases h1 : prv big rs i = 1
      · rw [if_neg (by omega)]; trivial
      · rw [if_pos ⟨by omega, h1, h4⟩]
        obtain ⟨w1, w2, w3, w4⟩ := hw ⟨h1, h4⟩
        exact ⟨w1, w4, .inr w2, trivial⟩
  | cons r ts ih =>
    intro i hd hi m st en hw hn
    have hlt : i < rs.length := by
      rcases Nat.lt_or_ge i rs.length with h1 | h1
      · exact h1
      · rw [List.drop_eq_nil_of_le h1] at hd; cases hd
    have hr : rs[i]? = some r := by rw [← List.head?_drop, hd]; rfl
    have hd2 : rs.drop (i + 1) = ts := by rw [List.drop_eq_getElem_cons hlt] at hd; injection hd
    have hc : prv big rs (i + 1) = head r big := cls_some hr
    have h0 : off rs i < off rs (i + 1) := off_lt (dec_some h).1 (Nat.lt_succ_self i) (by omega)
    have hb := off_below h hlt
    have hp4 := feed_prev h hi big
    have hplace : ∃ j, j ≤ rs.length ∧ off rs i = off rs j := ⟨i, hi, rfl⟩
    have hc4 : head r big = 4 ↔ (off rs i = s.length ∨ s[off rs i]? = some 10) := by rw [← hc]; exact feed_at h i big
    have hgood : head r big ≠ 1 ∧ head r big ≠ 4 → ∀ a : Nat, (∃ j, j ≤ rs.length ∧ a = off rs j) → a < s.length → s[a]? ≠ some 10 → Good s rs a (off rs i : Int) := fun _ a ha h2 h3 =>
      ⟨ha, fun e => absurd e (by omega), fun _ => ⟨⟨h2, h3⟩, i, hlt, rfl⟩⟩
    have hnot : head r big ≠ 4 → off rs i < s.length ∧ s[off rs i]? ≠ some 10 := fun e => ⟨hb, fun e2 => e (hc4.2 (.inr e2))⟩
    rw [rows, from_cons, from_out, show off rs i + r.length = off rs (i + 1) from (off_next hr).symm]
    simp only [List.nil_append, step]
    rw [← hc]
    have ih1 := ih (i + 1) hd2 hlt
    generalize prv big rs i = la at *
    generalize hcv : prv big rs (i + 1) = c at *
    subst hc
    generalize head r big = c at *
    simp only [out]
    by_cases hcl : c = la
    · subst hcl
      rw [if_pos rfl]
      by_cases h4 : c = 4
      · subst h4
        rw [if_pos ⟨rfl, rfl⟩]
        refine ⟨hn (by omega), ⟨hplace, fun _ => ⟨hp4.1 rfl, hc4.1 rfl⟩, fun e => absurd rfl e⟩, .inl rfl, ?_⟩
        refine ih1 _ st _ (by omega) (fun _ => ?_)
        simp; omega
      · rw [if_neg (by omega), if_neg (by omega), List.nil_append]
        by_cases h1 : c = 1
        · refine ih1 m st _ (fun e => absurd h1 e.1) (fun _ => ?_)
          have := hn (by omega); omega
        · obtain ⟨w1, w2, w3, w4⟩ := hw ⟨h1, h4⟩
          refine ih1 m st _ (fun _ => ⟨w1, by omega, by omega, ?_⟩) (fun e => absurd ⟨h1, h4⟩ e)
          obtain ⟨g1, g2, g3⟩ := w4
          have hen : en ≠ -1 := by omega
          exact hgood ⟨h1, h4⟩ st g1 (g3 hen).1.1 (g3 hen).1.2
    · rw [if_neg hcl, if_neg (by omega)]
      have hnew : ∀ m', m' ≤ off rs i → Al (Good s rs) m' (from_ ([], (off rs i, (off rs i : Int), c)) (rows big (off rs (i + 1)) ts)).1 := fun m' hm' => by
        refine ih1 m' _ _ (fun e => ⟨hm', Int.le_refl _, by omega, hgood e _ hplace (hnot e.2).1 (hnot e.2).2⟩) (fun _ => by omega)
      by_cases h4 : la = 4
      · rw [if_neg (by omega), List.nil_append]
        exact hnew m (hn (by omega))
      · by_cases h1 : la = 1
        · rw [if_neg (by omega), List.nil_append]
          exact hnew m (hn (by omega))
        · rw [if_pos ⟨hcl, h1, h4⟩]
          obtain ⟨w1, w2, w3, w4⟩ := hw ⟨h1, h4⟩
          refine ⟨w1, w4, .inr w2, hnew _ ?_⟩
          simp; omega
theorem words_al {s : List UInt8} {rs} (h : dec s = some rs) (big : Bool) : Al (Good s rs) 0 (words s big) := by
  have := good_step h big rs 0 rfl (Nat.zero_le _) 0 0 (-1) (by simp [prv]) (by simp)
  rw [off_zero] at this
  rw [words, R_ok h]
  exact this
end Hop
end Go.Proofs.Ytjkcdmlbnfibgaa
