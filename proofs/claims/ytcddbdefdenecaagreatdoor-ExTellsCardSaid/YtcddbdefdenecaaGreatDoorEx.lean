/-
  Command lines without a program: addresses, words, what each of them has, parts between slashes; the text that tells a line, and that both lead back.
-/
import Derived.Test.YtcddbdefdenecaaGreatDoorUtf
namespace Go.Proofs.YtcddbdefdenecaaGreatDoor
namespace Ex
/-- A line. -/
structure Ln where
  frm : Int
  to : Int
  name : List UInt8
  arg : List UInt8
  pat : List UInt8
  rep : List UInt8
  all : Bool
  deriving DecidableEq
def zero : Ln := ⟨0, 0, [], [], [], [], false⟩
def digit (b : UInt8) : Bool := decide (48 ≤ b.toNat) && decide (b.toNat ≤ 57)
def small (b : UInt8) : Bool := decide (97 ≤ b.toNat) && decide (b.toNat ≤ 122)
/-- Is a text a file's name? -/
def isName (s : List UInt8) : Bool := match s with
  | [] => false
  | b :: t => small b && t.all (fun c => small c || digit c) && decide (s.length ≤ 16)
/-- The number of digits. -/
def val (s : List UInt8) : Nat := s.foldl (fun n b => 10 * n + (b.toNat - 48)) 0
def number (s : List UInt8) : Int := if s = [] ∨ 6 < s.length ∨ (1 < s.length ∧ s.head? = some 48) ∨ s.all digit = false then -1 else val s
/-- An address: what stands at the beginning (0: there is none), what follows, and whether it is not wrong. -/
def addr (s : List UInt8) : Int × List UInt8 × Bool :=
  if s.head? = some 46 then (-1, s.tail, true)
  else if s.head? = some 36 then (-2, s.tail, true)
  else if s.takeWhile digit = [] then (0, s, true)
  else (number (s.takeWhile digit), s.dropWhile digit, decide (0 < number (s.takeWhile digit)))
/-- The addresses at the beginning; none: they are wrong. -/
def front (s : List UInt8) : Option (Int × Int × List UInt8) :=
  if s.head? = some 37 then some (1, -2, s.tail)
  else if (addr s).2.2 = false then none
  else if (addr s).1 ≠ 0 ∧ (addr s).2.1.head? = some 44 then
    if (addr (addr s).2.1.tail).2.2 = false ∨ (addr (addr s).2.1.tail).1 = 0 then none
    else some ((addr s).1, (addr (addr s).2.1.tail).1, (addr (addr s).2.1.tail).2.1)
  else some ((addr s).1, 0, (addr s).2.1)
/-- A word, and what follows. -/
def verb (s : List UInt8) : List UInt8 × List UInt8 :=
  if s.takeWhile small = [] ∧ (s.head? = some 62 ∨ s.head? = some 60) then (s.take 1, s.tail) else (s.takeWhile small, s.dropWhile small)
/-- Words: whether with addresses, and what stands behind: 0 nothing, 1 perhaps a file's name, 2 such a one, 3 perhaps a number, 4 one, 5 a pattern. -/
def kind (w : List UInt8) : Option (Bool × Nat) :=
  if w ∈ [[], [100], [121], [62], [60], [106]] then some (true, 0)
  else if w ∈ [[115, 121, 110, 99], [114, 101, 99, 111, 118, 101, 114]] then some (false, 0)
  else if w = [119] then some (false, 1)
  else if w = [101] then some (false, 2)
  else if w ∈ [[101, 97, 114, 108, 105, 101, 114], [108, 97, 116, 101, 114]] then some (false, 3)
  else if w = [117, 110, 100, 111] then some (false, 4)
  else if w = [115] then some (true, 5)
  else none
/-- What is between slashes. -/
def parts : List UInt8 → List (List UInt8)
  | [] => [[]]
  | b :: t => if b = 47 then [] :: parts t else match parts t with | p :: r => (b :: p) :: r | [] => [[b]]
/-- A pattern, and what it is put for. -/
def subst (l : Ln) (s : List UInt8) : Ln × Int := match parts s with
  | [[], p, r, g] => if p = [] ∨ (g ≠ [] ∧ g ≠ [103]) then (zero, 3) else ({l with pat := p, rep := r, all := decide (g = [103])}, 0)
  | _ => (zero, 3)
/-- What stands behind a word. -/
def rest (l : Ln) (k : Nat) (s : List UInt8) : Ln × Int :=
  if k = 5 then subst l s
  else if s = [] then if k = 2 ∨ k = 4 then (zero, 3) else (l, 0)
  else if k = 0 ∨ s.head? ≠ some 32 then (zero, 3)
  else if k ≤ 2 ∧ isName s.tail = false then (zero, 11)
  else if 2 < k ∧ number s.tail < 0 then (zero, 3)
  else ({l with arg := s.tail}, 0)
/-- A word, and what it has. -/
def word (a b : Int) (s : List UInt8) : Ln × Int := match kind (verb s).1 with
  | none => (zero, 16)
  | some (r, k) =>
    if (verb s).1 = [] ∧ s ≠ [] then (zero, 16)
    else if a ≠ 0 ∧ r = false then (zero, 3)
    else rest ⟨a, b, (verb s).1, [], [], [], false⟩ k (verb s).2
def parse (s : List UInt8) : Ln × Int :=
  if Utf.valid s = false ∨ 10 ∈ s then (zero, 5)
  else match front s with
    | none => (zero, 3)
    | some (a, b, t) => word a b t

/-- A number's digits. -/
def digits (n : Nat) : List UInt8 := if n < 10 then [UInt8.ofNat (48 + n)] else digits (n / 10) ++ [UInt8.ofNat (48 + n % 10)]
  termination_by n
  decreasing_by omega
def told (n : Int) : List UInt8 := if n = -1 then [46] else if n = -2 then [36] else if n < 1 ∨ 999999 < n then [63] else digits n.toNat
def head (a b : Int) : List UInt8 := if a = 1 ∧ b = -2 then [37] else if a ≠ 0 then told a ++ (if b ≠ 0 then 44 :: told b else []) else []
def tail (l : Ln) : List UInt8 := if l.name = [115] then 47 :: l.pat ++ 47 :: l.rep ++ 47 :: (if l.all then [103] else []) else if l.arg ≠ [] then 32 :: l.arg else []
/-- What might be the text. -/
def tell (l : Ln) : List UInt8 := head l.frm l.to ++ l.name ++ tail l
def text (l : Ln) : List UInt8 × Int := if parse (tell l) = (l, 0) then (tell l, 0) else ([], 3)

/-! ### Back -/
theorem digit_val {b : UInt8} (h : digit b = true) : 48 ≤ b.toNat ∧ b.toNat ≤ 57 := by simpa [digit] using h
theorem val_snoc (s : List UInt8) (b : UInt8) : val (s ++ [b]) = 10 * val s + (b.toNat - 48) := by simp [val]
theorem val_pos {b : UInt8} {s : List UInt8} (h : digit b = true) (h0 : b ≠ 48) : 1 ≤ val (b :: s) := by
  have hb := digit_val h
  have hb2 : b.toNat ≠ 48 := fun e => h0 (UInt8.toNat_inj.1 e)
  have : ∀ (s : List UInt8) (n : Nat), 1 ≤ n → 1 ≤ s.foldl (fun n b => 10 * n + (b.toNat - 48)) n := by
    intro s
    induction s with
    | nil => intro n h; exact h
    | cons c t ih => intro n h; exact ih (10 * n + (c.toNat - 48)) (by omega)
  exact this s (10 * 0 + (b.toNat - 48)) (by omega)
theorem digits_val : ∀ {s : List UInt8}, s ≠ [] → s.all digit = true → (s.length = 1 ∨ s.head? ≠ some 48) → digits (val s) = s := by
  intro s
  induction hn : s.length using Nat.strongRecOn generalizing s with
  | ind n ih =>
    intro h0 ha hz
    obtain ⟨t, b, rfl⟩ : ∃ t b, s = t ++ [b] := ⟨s.dropLast, s.getLast h0, (List.dropLast_concat_getLast h0).symm⟩
    have hb : digit b = true := by rw [List.all_append] at ha; simp at ha; exact ha.2
    have hbv := digit_val hb
    rw [val_snoc]
    cases t with
    | nil =>
      have : val [] = 0 := rfl
      rw [this, digits, if_pos (by omega)]
      have : UInt8.ofNat (48 + (10 * 0 + (b.toNat - 48))) = b := by
        apply UInt8.toNat_inj.1
        rw [UInt8.toNat_ofNat']
        omega
      rw [this]; rfl
    | cons c t =>
      have hc : digit c = true := by rw [List.all_append] at ha; simp at ha; exact ha.1.1
      have hc0 : c ≠ 48 := by
        rintro rfl
        rcases hz with h | h
        · simp at hn; omega
        · exact h rfl
      have hp := val_pos (s := t) hc hc0
      have e1 : (10 * val (c :: t) + (b.toNat - 48)) / 10 = val (c :: t) := by omega
      have e2 : (10 * val (c :: t) + (b.toNat - 48)) % 10 = b.toNat - 48 := by omega
      rw [digits, if_neg (by omega), e1, e2, ih (c :: t).length (by rw [← hn]; simp) rfl (by simp) (by rw [List.all_append, Bool.and_eq_true] at ha; exact ha.1) (.inr (by simp [hc0]))]
      have : UInt8.ofNat (48 + (b.toNat - 48)) = b := by
        apply UInt8.toNat_inj.1
        rw [UInt8.toNat_ofNat']
        omega
      rw [this]
theorem val_lt {s : List UInt8} (ha : s.all digit = true) : val s < 10 ^ s.length := by
  induction hn : s.length generalizing s with
  | zero => rw [List.eq_nil_of_length_eq_zero hn]; decide
  | succ n ih =>
    have h0 : s ≠ [] := by rintro rfl; simp at hn
    obtain ⟨t, b, rfl⟩ : ∃ t b, s = t ++ [b] := ⟨s.dropLast, s.getLast h0, (List.dropLast_concat_getLast h0).symm⟩
    rw [List.all_append, Bool.and_eq_true] at ha
    have hb := digit_val (b := b) (by simpa using ha.2)
    have h1 := ih ha.1 (by simpa using hn)
    rw [val_snoc, Nat.pow_succ]
    omega
/-- A number that is one is told by its digits. -/
theorem number_told {s : List UInt8} (h : 0 < number s) : told (number s) = s ∧ number s ≤ 999999 := by
  unfold number at h ⊢
  by_cases hc : s = [] ∨ 6 < s.length ∨ (1 < s.length ∧ s.head? = some 48) ∨ s.all digit = false
  · rw [if_pos hc] at h; omega
  · rw [if_neg hc] at h ⊢
    simp only [not_or] at hc
    obtain ⟨h0, h6, hz, ha⟩ := hc
    have ha2 : s.all digit = true := by simpa using ha
    have hlt := val_lt ha2
    have hle : 10 ^ s.length ≤ 10 ^ 6 := Nat.pow_le_pow_right (by decide) (by omega)
    have hle2 : (10 : Nat) ^ 6 = 1000000 := by decide
    have hb : val s ≤ 999999 := by omega
    refine ⟨?_, by omega⟩
    rw [told, if_neg (by omega), if_neg (by omega), if_neg (by omega), Int.toNat_natCast]
    refine digits_val h0 ha2 ?_
    have hl := List.length_pos_iff.2 h0
    by_cases h1 : s.length = 1
    · exact .inl h1
    · exact .inr (fun e => hz ⟨by omega, e⟩)
theorem addr_told {s : List UInt8} (h : (addr s).2.2 = true) (h0 : (addr s).1 ≠ 0) : s = told (addr s).1 ++ (addr s).2.1 := by
  unfold addr at h h0 ⊢
  by_cases h1 : s.head? = some 46
  · rw [if_pos h1]
    cases s with
    | nil => cases h1
    | cons b t => injection h1 with h1; subst h1; rfl
  rw [if_neg h1] at h h0 ⊢
  by_cases h2 : s.head? = some 36
  · rw [if_pos h2]
    cases s with
    | nil => cases h2
    | cons b t => injection h2 with h2; subst h2; rfl
  rw [if_neg h2] at h h0 ⊢
  by_cases h3 : s.takeWhile digit = []
  · rw [if_pos h3] at h0; exact absurd rfl h0
  rw [if_neg h3] at h h0 ⊢
  simp only [decide_eq_true_eq] at h
  simp only
  rw [(number_told h).1, List.takeWhile_append_dropWhile]
theorem addr_none {s : List UInt8} (h0 : (addr s).1 = 0) (h : (addr s).2.2 = true) : (addr s).2.1 = s := by
  unfold addr at h h0 ⊢
  by_cases h1 : s.head? = some 46
  · rw [if_pos h1] at h0; cases h0
  rw [if_neg h1] at h h0 ⊢
  by_cases h2 : s.head? = some 36
  · rw [if_pos h2] at h0; cases h0
  rw [if_neg h2] at h h0 ⊢
  by_cases h3 : s.takeWhile digit = []
  · rw [if_pos h3]
  rw [if_neg h3] at h h0 ⊢
  simp only [decide_eq_true_eq] at h
  simp only at h0
  omega
theorem take_drop_verb (s : List UInt8) : (verb s).1 ++ (verb s).2 = s := by
  unfold verb
  split
  · rename_i h
    cases s with
    | nil => rfl
    | cons b t => rfl
  · exact List.takeWhile_append_dropWhile
theorem front_told {s : List UInt8} {a b : Int} {t : List UInt8} (h : front s = some (a, b, t)) : (s = head a b ++ t ∨ ∃ r, s = [49, 44, 36] ++ r ∧ head a b ++ t = 37 :: r ∧ r = t ∧ a = 1 ∧ b = -2) := by
  unfold front at h
  by_cases h1 : s.head? = some 37
  · rw [if_pos h1] at h
    injection h with h; injection h with e1 h; injection h with e2 e3
    subst e1 e2 e3
    left
    cases s with
    | nil => cases h1
    | cons c u => injection h1 with h1; subst h1; rfl
  rw [if_neg h1] at h
  by_cases h2 : (addr s).2.2 = false
  · rw [if_pos h2] at h; cases h
  rw [if_neg h2] at h
  have h2 : (addr s).2.2 = true := by simpa using h2
  by_cases h3 : (addr s).1 ≠ 0 ∧ (addr s).2.1.head? = some 44
  · rw [if_pos h3] at h
    by_cases h4 : (addr (addr s).2.1.tail).2.2 = false ∨ (addr (addr s).2.1.tail).1 = 0
    · rw [if_pos h4] at h; cases h
    rw [if_neg h4] at h
    simp only [not_or] at h4
    injection h with h; injection h with e1 h; injection h with e2 e3
    have g1 := addr_told h2 h3.1
    have g2 := addr_told (s := (addr s).2.1.tail) (by simpa using h4.1) h4.2
    have g3 : (addr s).2.1 = 44 :: (addr s).2.1.tail := by
      cases hu : (addr s).2.1 with
      | nil => rw [hu] at h3; cases h3.2
      | cons c u => rw [hu] at h3; have := h3.2; injection this with this; subst this; rfl
    have hs : s = told a ++ 44 :: (told b ++ t) := by
      rw [← e1, ← e2, ← e3, ← g2, ← g3]; exact g1
    rw [e1] at h3
    rw [e2] at h4
    by_cases hp : a = 1 ∧ b = -2
    · obtain ⟨rfl, rfl⟩ := hp
      right
      refine ⟨t, ?_, ?_, rfl, rfl, rfl⟩
      · rw [hs]; rw [show told 1 = [49] by unfold told digits; rfl]; rfl
      · unfold head; rw [if_pos ⟨rfl, rfl⟩]; rfl
    · left
      rw [hs]
      unfold head
      rw [if_neg hp, if_pos h3.1, if_pos h4.2]
      simp
  · rw [if_neg h3] at h
    injection h with h; injection h with e1 h; injection h with e2 e3
    left
    subst e2
    have hh : head a 0 = if a ≠ 0 then told a else [] := by
      unfold head
      rw [if_neg (by omega)]
      simp
    rw [hh]
    by_cases ha : a = 0
    · rw [if_neg (by simp [ha]), List.nil_append, ← e3]
      exact (addr_none (by rw [e1]; exact ha) h2).symm
    · rw [if_pos ha, ← e1, ← e3]
      exact addr_told h2 (by rw [e1]; exact ha)
/-- Parts with slashes between them. -/
def glue : List (List UInt8) → List UInt8
  | [] => []
  | [p] => p
  | p :: q :: r => p ++ 47 :: glue (q :: r)
theorem parts_ne (s : List UInt8) : parts s ≠ [] := by
  cases s with
  | nil => simp [parts]
  | cons b t =>
    unfold parts
    split
    · simp
    · split <;> simp
theorem glue_parts (s : List UInt8) : glue (parts s) = s := by
  induction s with
  | nil => rfl
  | cons b t ih =>
    unfold parts
    by_cases hb : b = 47
    · rw [if_pos hb]
      subst hb
      cases hp : parts t with
      | nil => exact absurd hp (parts_ne t)
      | cons p r => rw [hp] at ih; show [] ++ 47 :: glue (p :: r) = _; rw [ih]; rfl
    · rw [if_neg hb]
      cases hp : parts t with
      | nil => exact absurd hp (parts_ne t)
      | cons p r =>
        rw [hp] at ih
        simp only
        cases r with
        | nil => simp only [glue] at ih ⊢; rw [ih]
        | cons q u => simp only [glue] at ih ⊢; rw [List.cons_append, ih]
theorem subst_told {l m : Ln} {s : List UInt8} (h : subst l s = (m, 0)) : ∃ p r g : List UInt8, s = 47 :: p ++ 47 :: r ++ 47 :: g ∧ (g = [] ∨ g = [103]) ∧ m = {l with pat := p, rep := r, all := decide (g = [103])} := by
  unfold subst at h
  split at h
  · rename_i p r g hp
    by_cases hc : p = [] ∨ (g ≠ [] ∧ g ≠ [103])
    · rw [if_pos hc] at h; injection h with _ h; cases h
    · rw [if_neg hc] at h
      injection h with h _
      have hg := glue_parts s
      rw [hp] at hg
      refine ⟨p, r, g, ?_, ?_, h.symm⟩
      · rw [← hg]; simp [glue]
      · simp only [not_or, not_and] at hc
        by_cases h0 : g = []
        · exact .inl h0
        · exact .inr (Classical.not_not.1 (hc.2 h0))
  · injection h with _ h; cases h
theorem kind_five {w : List UInt8} {r : Bool} {k : Nat} (h : kind w = some (r, k)) : k = 5 ↔ w = [115] := by
  unfold kind at h
  repeat' split at h
  all_goals first
    | (injection h with h; injection h with _ h; subst h; constructor; (· intro e; cases e); (· rintro rfl; simp_all))
    | (injection h with h; injection h with _ h; subst h; simp_all)
    | cases h
/-- What stands behind a word is told by what it has. -/
theorem rest_told {l m : Ln} {r : Bool} {k : Nat} {s : List UInt8} (h : rest l k s = (m, 0)) (hk : kind l.name = some (r, k)) (h0 : l.arg = []) : s = tail m ∧ m.name = l.name ∧ m.frm = l.frm ∧ m.to = l.to := by
  have h5 := kind_five hk
  unfold rest at h
  by_cases e5 : k = 5
  · rw [if_pos e5] at h
    obtain ⟨p, r, g, hs, hg, rfl⟩ := subst_told h
    refine ⟨?_, rfl, rfl, rfl⟩
    unfold tail
    rw [if_pos (show l.name = [115] from h5.1 e5), hs]
    rcases hg with rfl | rfl <;> simp
  rw [if_neg e5] at h
  have hn : l.name ≠ [115] := fun e => e5 (h5.2 e)
  by_cases hs : s = []
  · rw [if_pos hs] at h
    by_cases h24 : k = 2 ∨ k = 4
    · rw [if_pos h24] at h; injection h with _ h; cases h
    · rw [if_neg h24] at h
      injection h with h _
      subst h
      refine ⟨?_, rfl, rfl, rfl⟩
      unfold tail
      rw [if_neg hn, h0, hs]
      rfl
  rw [if_neg hs] at h
  by_cases h32 : k = 0 ∨ s.head? ≠ some 32
  · rw [if_pos h32] at h; injection h with _ h; cases h
  rw [if_neg h32] at h
  by_cases h11 : k ≤ 2 ∧ isName s.tail = false
  · rw [if_pos h11] at h; injection h with _ h; cases h
  rw [if_neg h11] at h
  by_cases h3 : 2 < k ∧ number s.tail < 0
  · rw [if_pos h3] at h; injection h with _ h; cases h
  rw [if_neg h3] at h
  injection h with h _
  subst h
  simp only [not_or, Classical.not_not] at h32
  have hs2 : s = 32 :: s.tail := by
    cases s with
    | nil => exact absurd rfl hs
    | cons b t => have := h32.2; injection this with this; subst this; rfl
  have hne : s.tail ≠ [] := by
    intro e
    rw [e] at h11 h3
    by_cases hk2 : k ≤ 2
    · exact h11 ⟨hk2, rfl⟩
    · exact h3 ⟨by omega, by decide⟩
  refine ⟨?_, rfl, rfl, rfl⟩
  unfold tail
  rw [if_neg hn, if_pos hne]
  exact hs2
theorem word_told {a b : Int} {s : List UInt8} {l : Ln} (h : word a b s = (l, 0)) : s = l.name ++ tail l ∧ l.frm = a ∧ l.to = b := by
  unfold word at h
  split at h
  · injection h with _ h; cases h
  · rename_i r k hk
    by_cases h1 : (verb s).1 = [] ∧ s ≠ []
    · rw [if_pos h1] at h; injection h with _ h; cases h
    rw [if_neg h1] at h
    by_cases h2 : a ≠ 0 ∧ r = false
    · rw [if_pos h2] at h; injection h with _ h; cases h
    rw [if_neg h2] at h
    obtain ⟨g1, g2, g3, g4⟩ := rest_told h hk rfl
    refine ⟨?_, g3, g4⟩
    rw [g2, ← g1]
    exact (take_drop_verb s).symm
theorem parse_told {s : List UInt8} {l : Ln} (h : parse s = (l, 0)) : parse (tell l) = (l, 0) ∧ (tell l = s ∨ ∃ r, s = [49, 44, 36] ++ r ∧ tell l = 37 :: r) := by
  have h' := h
  unfold parse at h
  by_cases hv : Utf.valid s = false ∨ 10 ∈ s
  · rw [if_pos hv] at h; injection h with _ h; cases h
  rw [if_neg hv] at h
  cases hf : front s with
  | none => rw [hf] at h; injection h with _ h; cases h
  | some x =>
    obtain ⟨a, b, t⟩ := x
    rw [hf] at h
    simp only at h
    obtain ⟨g1, g2, g3⟩ := word_told h
    have ht : tell l = head a b ++ t := by unfold tell; rw [g2, g3, List.append_assoc, ← g1]
    rcases front_told hf with hs | ⟨r, hs, hh, hr, ha, hb⟩
    · rw [ht, ← hs]; exact ⟨h', .inl rfl⟩
    · subst hr ha hb
      rw [ht, hh]
      refine ⟨?_, .inr ⟨r, hs, rfl⟩⟩
      simp only [not_or] at hv
      have hval : Utf.valid (37 :: r) = true := by
        have h1 : Utf.valid s = true := by simpa using hv.1
        rw [hs] at h1
        have e1 := Utf.dec_one (r := [49]) (44 :: 36 :: r) (by decide)
        have e2 := Utf.dec_one (r := [44]) (36 :: r) (by decide)
        have e3 := Utf.dec_one (r := [36]) r (by decide)
        have e4 := Utf.dec_one (r := [37]) r (by decide)
        unfold Utf.valid at h1 ⊢
        simp only [List.cons_append, List.nil_append] at e1 e2 e3 e4 h1
        rw [e1, e2, e3] at h1
        rw [e4]
        cases hd : Utf.dec r with
        | none => rw [hd] at h1; cases h1
        | some rs => rfl
      have h10 : (10 : UInt8) ∉ 37 :: r := by
        intro e
        refine hv.2 ?_
        rw [hs]
        rcases List.mem_cons.1 e with e | e
        · cases e
        · simp [e]
      unfold parse
      rw [if_neg (by simp only [not_or]; exact ⟨by rw [hval]; simp, h10⟩)]
      exact h
/-- What is parsed of any text has that text, but for "1,$", which is "%"; and its text is parsed as it. -/
theorem back {s : List UInt8} {l : Ln} (h : parse s = (l, 0)) : text l = (tell l, 0) ∧ parse (tell l) = (l, 0) ∧ (tell l = s ∨ ∃ r, s = [49, 44, 36] ++ r ∧ tell l = 37 :: r) := by
  obtain ⟨h1, h2⟩ := parse_told h
  exact ⟨by rw [text, if_pos h1], h1, h2⟩
/-- What is none is the line of nothing. -/
theorem parse_zero {s : List UInt8} {l : Ln} {e : Int} (h : parse s = (l, e)) (he : e ≠ 0) : l = zero := by
  have key : ∀ (x : Ln × Int), x = (l, e) → (∃ n, x = (zero, n)) → l = zero := fun x hx ⟨n, hn⟩ => by rw [hx] at hn; injection hn
  unfold parse at h
  split at h
  · exact key _ h ⟨_, rfl⟩
  split at h
  · exact key _ h ⟨_, rfl⟩
  unfold word at h
  split at h
  · exact key _ h ⟨_, rfl⟩
  split at h
  · exact key _ h ⟨_, rfl⟩
  split at h
  · exact key _ h ⟨_, rfl⟩
  unfold rest at h
  split at h
  · unfold subst at h
    split at h
    · split at h
      · exact key _ h ⟨_, rfl⟩
      · injection h with _ h; exact absurd h.symm he
    · exact key _ h ⟨_, rfl⟩
  split at h
  · split at h
    · exact key _ h ⟨_, rfl⟩
    · injection h with _ h; exact absurd h.symm he
  split at h
  · exact key _ h ⟨_, rfl⟩
  split at h
  · exact key _ h ⟨_, rfl⟩
  split at h
  · exact key _ h ⟨_, rfl⟩
  injection h with _ h
  exact absurd h.symm he

/-! ### Lines -/
/-- The line that an address is, from 0 on. -/
def lineOf (n none here count : Int) : Int := if n = -1 then here else if n = -2 then count - 1 else if n = 0 then none else n - 1
/-- The lines that addresses are: the first, the last, and the error. -/
def lines (a b here count : Int) : Int × Int × Int :=
  if here < 0 ∨ count ≤ here ∨ (a = 0 ∧ b ≠ 0) ∨ a < -2 ∨ 999999 < a ∨ b < -2 ∨ 999999 < b then (0, 0, 1)
  else if count ≤ lineOf a here here count ∨ count ≤ lineOf b (lineOf a here here count) here count ∨ lineOf b (lineOf a here here count) here count < lineOf a here here count then (0, 0, 6)
  else (lineOf a here here count, lineOf b (lineOf a here here count) here count, 0)
theorem lines_in {a b here count x y : Int} (h : lines a b here count = (x, y, 0)) : 0 ≤ x ∧ x ≤ y ∧ y < count ∧ (a ≠ 0 ∨ x = here ∧ y = here) := by
  unfold lines at h
  split at h
  · injection h with _ h; injection h with _ h; cases h
  split at h
  · injection h with _ h; injection h with _ h; cases h
  rename_i h1 h2
  injection h with e1 h; injection h with e2 _
  rw [e1] at h2 e2
  rw [e2] at h2
  simp only [not_or] at h1 h2
  obtain ⟨q1, q2, q3, q4, q5, q6, q7⟩ := h1
  obtain ⟨p1, p2, p3⟩ := h2
  have hx : 0 ≤ x := by rw [← e1]; unfold lineOf; repeat' split; all_goals omega
  refine ⟨hx, by omega, by omega, ?_⟩
  by_cases ha : a = 0
  · right
    have hb : b = 0 := Classical.not_not.1 (fun e => q3 ⟨ha, e⟩)
    subst ha hb
    have e3 : x = here := by rw [← e1]; rfl
    exact ⟨e3, by rw [← e2, ← e3]; rfl⟩
  · exact .inl ha
theorem lines_zero {a b here count x y e : Int} (h : lines a b here count = (x, y, e)) (he : e ≠ 0) : x = 0 ∧ y = 0 := by
  unfold lines at h
  split at h
  · injection h with h1 h; injection h with h2 _; exact ⟨h1.symm, h2.symm⟩
  split at h
  · injection h with h1 h; injection h with h2 _; exact ⟨h1.symm, h2.symm⟩
  · injection h with _ h; injection h with _ h; exact absurd h.symm he
end Ex
end Go.Proofs.YtcddbdefdenecaaGreatDoor
