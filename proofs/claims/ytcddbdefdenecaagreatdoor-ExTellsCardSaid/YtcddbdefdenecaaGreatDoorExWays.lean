/-
  Command lines the program's way, without a program: signs taken off a text, numbers, names, a text cut at three slashes, a line's text; all the same as the document's way.
-/
import Derived.Test.YtcddbdefdenecaaGreatDoorEx
import Derived.Lib.SlTrimSet
import Derived.Lib.Split
import Derived.Lib.SplitLaws
import Derived.Lib.IndexBytes
import Derived.Lib.IndexLaws
import Derived.Lib.Atoi
import Derived.Lib.ItoaMem
namespace Go.Proofs.YtcddbdefdenecaaGreatDoor
namespace Ex
theorem byte_all {p : UInt8 → Prop} (h : ∀ b : Fin 256, p (UInt8.ofNat b.val)) (b : UInt8) : p b := by
  have := h ⟨b.toNat, b.toNat_lt⟩
  simpa using this
def digitsT : List UInt8 := [48, 49, 50, 51, 52, 53, 54, 55, 56, 57]
def lettersT : List UInt8 := [97, 98, 99, 100, 101, 102, 103, 104, 105, 106, 107, 108, 109, 110, 111, 112, 113, 114, 115, 116, 117, 118, 119, 120, 121, 122]
theorem digitsT_has : ∀ b : UInt8, digitsT.contains b = digit b := byte_all (by decide +kernel)
theorem lettersT_has : ∀ b : UInt8, lettersT.contains b = small b := byte_all (by decide +kernel)
theorem bothT_has : ∀ b : UInt8, (lettersT ++ digitsT).contains b = (small b || digit b) := byte_all (by decide +kernel)
theorem dropWhile_nil {p : UInt8 → Bool} {l : List UInt8} : l.dropWhile p = [] ↔ l.all p = true := by
  induction l with
  | nil => simp
  | cons b t ih => by_cases hb : p b = true <;> simp [hb, ih]
theorem dropWhile_all {p : UInt8 → Bool} {l : List UInt8} (h : (l.dropWhile p).all p = true) : l.all p = true := by
  induction l with
  | nil => rfl
  | cons b t ih =>
    by_cases hb : p b = true
    · rw [List.dropWhile_cons, if_pos hb] at h
      rw [List.all_cons, hb, ih h]; rfl
    · rw [List.dropWhile_cons, if_neg hb] at h; exact h
theorem trim_nil (l cs : List UInt8) : Lib.trimS l cs = [] ↔ l.all (cs.contains ·) = true := by
  unfold Lib.trimS Lib.trimLeftS Lib.trimRightS
  rw [dropWhile_nil, List.all_reverse]
  constructor
  · intro h; have := dropWhile_all h; rwa [List.all_reverse] at this
  · intro h; rw [dropWhile_nil.2 (by rw [List.all_reverse]; exact h)]; rfl
theorem trim_digits (l : List UInt8) : Lib.trimS l digitsT = [] ↔ l.all digit = true := by
  rw [trim_nil, show (fun b => digitsT.contains b) = digit from funext digitsT_has]
theorem trim_both (l : List UInt8) : Lib.trimS l (lettersT ++ digitsT) = [] ↔ l.all (fun b => small b || digit b) = true := by
  rw [trim_nil, show (fun b => (lettersT ++ digitsT).contains b) = (fun b => small b || digit b) from funext bothT_has]
theorem trimLeft_digits (l : List UInt8) : Lib.trimLeftS l digitsT = l.dropWhile digit := by
  unfold Lib.trimLeftS; rw [show (fun b => digitsT.contains b) = digit from funext digitsT_has]
theorem trimLeft_letters (l : List UInt8) : Lib.trimLeftS l lettersT = l.dropWhile small := by
  unfold Lib.trimLeftS; rw [show (fun b => lettersT.contains b) = small from funext lettersT_has]
theorem take_while (p : UInt8 → Bool) (l : List UInt8) : l.take (l.length - (l.dropWhile p).length) = l.takeWhile p ∧ (l.dropWhile p).length ≤ l.length := by
  have h := List.takeWhile_append_dropWhile (p := p) (l := l)
  have hl : l.length = (l.takeWhile p).length + (l.dropWhile p).length := by rw [← List.length_append, h]
  refine ⟨?_, by omega⟩
  rw [show l.length - (l.dropWhile p).length = (l.takeWhile p).length by omega]
  have e := List.take_left (l₁ := l.takeWhile p) (l₂ := l.dropWhile p)
  rwa [h] at e
/-- A number that is not 0; 0, if it is none. -/
def pos (s : List UInt8) : Int := if 0 < number s then number s else 0
theorem pos_zero {s : List UInt8} (h : s = [] ∨ 6 < s.length ∨ s.head? = some 48 ∨ s.all digit = false) : pos s = 0 := by
  unfold pos
  rw [if_neg ?_]
  unfold number
  by_cases hc : s = [] ∨ 6 < s.length ∨ (1 < s.length ∧ s.head? = some 48) ∨ s.all digit = false
  · rw [if_pos hc]; omega
  · rw [if_neg hc]
    simp only [not_or] at hc
    obtain ⟨h0, h6, hz, ha⟩ := hc
    rcases h with h | h | h | h
    · exact absurd h h0
    · exact absurd h h6
    · have hl := List.length_pos_iff.2 h0
      have h1 : s.length = 1 := by
        by_cases h1 : 1 < s.length
        · exact absurd ⟨h1, h⟩ hz
        · omega
      obtain ⟨b, rfl⟩ := List.length_eq_one_iff.1 h1
      injection h with h; subst h; decide
    · exact absurd h ha
theorem pos_val {s : List UInt8} (h0 : s ≠ []) (h6 : s.length ≤ 6) (h48 : s.head? ≠ some 48) (ha : s.all digit = true) : pos s = val s ∧ 1 ≤ val s ∧ val s ≤ 999999 := by
  have hv : 1 ≤ val s := by
    cases s with
    | nil => exact absurd rfl h0
    | cons b t =>
      rw [List.all_cons, Bool.and_eq_true] at ha
      exact val_pos ha.1 (fun e => h48 (by rw [e]; rfl))
  have hlt := val_lt ha
  have hle : 10 ^ s.length ≤ 10 ^ 6 := Nat.pow_le_pow_right (by decide) h6
  have hle2 : (10 : Nat) ^ 6 = 1000000 := by decide
  have hn : number s = val s := by
    unfold number
    rw [if_neg ?_]
    simp only [not_or]
    exact ⟨h0, by omega, fun e => h48 e.2, by rw [ha]; simp⟩
  unfold pos
  rw [hn, if_pos (by omega)]
  exact ⟨rfl, hv, by omega⟩
theorem pos_range (s : List UInt8) : 0 ≤ pos s ∧ pos s ≤ 999999 := by
  unfold pos
  split
  · rename_i h; exact ⟨by omega, (number_told h).2⟩
  · omega
theorem decFrom_digits : ∀ {s : List UInt8} {n : Nat}, s.all digit = true → Lib.decFrom n s = some (s.foldl (fun n b => 10 * n + (b.toNat - 48)) n) := by
  intro s
  induction s with
  | nil => intro n _; rfl
  | cons b t ih =>
    intro n h
    rw [List.all_cons, Bool.and_eq_true] at h
    have hb := digit_val h.1
    unfold Lib.decFrom Lib.digitVal
    rw [if_pos hb, List.foldl_cons, Nat.mul_comm 10 n]
    exact ih h.2
theorem atoi_digits {s : List UInt8} (h0 : s ≠ []) (ha : s.all digit = true) : Lib.atoi s = some (val s : Int) := by
  cases s with
  | nil => exact absurd rfl h0
  | cons b t =>
    have hb := digit_val (b := b) (by rw [List.all_cons, Bool.and_eq_true] at ha; exact ha.1)
    have h1 : (b == 45) = false := by
      apply Bool.eq_false_iff.2; intro e; rw [beq_iff_eq.1 e] at hb; exact absurd hb.1 (by decide)
    have h2 : (b == 43) = false := by
      apply Bool.eq_false_iff.2; intro e; rw [beq_iff_eq.1 e] at hb; exact absurd hb.1 (by decide)
    simp only [Lib.atoi, h1, h2, Bool.false_eq_true, if_false]
    unfold Lib.decNat
    rw [if_neg (by simp), decFrom_digits ha]
    rfl
/-- A number, the program's way. -/
theorem number_is (s : List UInt8) : decide (0 ≤ number s) = (decide (s = [48]) || decide (pos s ≠ 0)) := by
  by_cases h : s = [48]
  · subst h; decide
  · rw [decide_eq_false h, Bool.false_or, decide_eq_decide]
    unfold pos
    constructor
    · intro h1
      have : number s ≠ 0 := by
        intro e
        unfold number at e
        by_cases hc : s = [] ∨ 6 < s.length ∨ (1 < s.length ∧ s.head? = some 48) ∨ s.all digit = false
        · rw [if_pos hc] at e; omega
        · rw [if_neg hc] at e
          simp only [not_or] at hc
          obtain ⟨h0, h6, hz, ha⟩ := hc
          cases s with
          | nil => exact h0 rfl
          | cons b t =>
            have ha2 : (b :: t).all digit = true := by simpa using ha
            rw [List.all_cons, Bool.and_eq_true] at ha2
            by_cases hb : b = 48
            · subst hb
              cases t with
              | nil => exact h rfl
              | cons c u => exact hz ⟨by simp, rfl⟩
            · have := val_pos (s := t) ha2.1 hb
              omega
      rw [if_pos (by omega)]; omega
    · intro h1
      by_cases h2 : 0 < number s
      · omega
      · rw [if_neg h2] at h1; exact absurd rfl h1
/-- A file's name, the program's way. -/
theorem name_is (s : List UInt8) : isName s = (decide (s ≠ []) && decide (s.length ≤ 16) && (match s.head? with | some b => lettersT.contains b | none => false) && decide (Lib.trimS s (lettersT ++ digitsT) = [])) := by
  rw [show decide (Lib.trimS s (lettersT ++ digitsT) = []) = s.all (fun b => small b || digit b) from by
    have := trim_both s
    rw [Bool.eq_iff_iff, decide_eq_true_eq]; exact this]
  cases s with
  | nil => rfl
  | cons b t =>
    simp only [isName, List.head?_cons, lettersT_has, List.all_cons, ne_eq, reduceCtorEq, not_false_eq_true, decide_true, Bool.true_and]
    cases small b <;> cases t.all (fun b => small b || digit b) <;> cases decide ((b :: t).length ≤ 16) <;> rfl

/-! ### An address -/
/-- What the program takes off at the beginning: the address (0: there is none, or it is wrong), and what is behind it. -/
def adr (s : List UInt8) : Int × List UInt8 :=
  if s.head? = some 46 then (-1, s.tail)
  else if s.head? = some 36 then (-2, s.tail)
  else (pos (s.takeWhile digit), s.dropWhile digit)
theorem adr_addr {s : List UInt8} (h : (addr s).2.2 = true) : adr s = ((addr s).1, (addr s).2.1) := by
  unfold addr at h ⊢
  unfold adr
  by_cases h1 : s.head? = some 46
  · simp only [if_pos h1]
  rw [if_neg h1] at h ⊢
  rw [if_neg h1]
  by_cases h2 : s.head? = some 36
  · simp only [if_pos h2]
  rw [if_neg h2] at h ⊢
  rw [if_neg h2]
  by_cases h3 : s.takeWhile digit = []
  · rw [if_pos h3, h3]
    have := List.takeWhile_append_dropWhile (p := digit) (l := s)
    rw [h3, List.nil_append] at this
    rw [this, pos_zero (.inl rfl)]
  · rw [if_neg h3] at h ⊢
    simp only [decide_eq_true_eq] at h
    unfold pos
    rw [if_pos h]
theorem adr_wrong {s : List UInt8} (h : (addr s).2.2 = false) : (adr s).1 = 0 := by
  unfold addr at h
  unfold adr
  by_cases h1 : s.head? = some 46
  · rw [if_pos h1] at h; cases h
  rw [if_neg h1] at h ⊢
  by_cases h2 : s.head? = some 36
  · rw [if_pos h2] at h; cases h
  rw [if_neg h2] at h ⊢
  by_cases h3 : s.takeWhile digit = []
  · rw [if_pos h3] at h; cases h
  · rw [if_neg h3] at h
    simp only [decide_eq_false_iff_not] at h
    unfold pos
    rw [if_neg h]
/-- Does a text begin like an address? -/
def signs (s : List UInt8) : Bool := match s.head? with | some b => (digitsT ++ [46, 36]).contains b | none => false
theorem signsT_has : ∀ b : UInt8, (digitsT ++ [46, 36]).contains b = (digit b || b == 46 || b == 36) := byte_all (by decide +kernel)
/-- The addresses at the beginning, the program's way. -/
def frontP (s : List UInt8) : Option (Int × Int × List UInt8) :=
  if s.head? = some 37 then some (1, -2, s.tail)
  else if signs s = false then some (0, 0, s)
  else if (adr s).1 = 0 then none
  else if (adr s).2.head? ≠ some 44 then some ((adr s).1, 0, (adr s).2)
  else if (adr (adr s).2.tail).1 = 0 then none
  else some ((adr s).1, (adr (adr s).2.tail).1, (adr (adr s).2.tail).2)
theorem signs_none {s : List UInt8} (h : signs s = false) : addr s = (0, s, true) := by
  unfold addr
  cases s with
  | nil => rfl
  | cons b t =>
    unfold signs at h
    simp only [List.head?_cons, signsT_has, Bool.or_eq_false_iff, beq_eq_false_iff_ne] at h
    rw [if_neg (by simp [h.1.2]), if_neg (by simp [h.2]), if_pos (by rw [List.takeWhile_cons, h.1.1]; rfl)]
theorem signs_some {s : List UInt8} (h : signs s = true) (hr : (addr s).2.2 = true) : (addr s).1 ≠ 0 := by
  unfold addr at hr ⊢
  by_cases h1 : s.head? = some 46
  · rw [if_pos h1]; simp
  rw [if_neg h1] at hr ⊢
  by_cases h2 : s.head? = some 36
  · rw [if_pos h2]; simp
  rw [if_neg h2] at hr ⊢
  by_cases h3 : s.takeWhile digit = []
  · exfalso
    cases s with
    | nil => cases h
    | cons b t =>
      unfold signs at h
      simp only [List.head?_cons, signsT_has, Bool.or_eq_true, beq_iff_eq] at h
      rcases h with (h | h) | h
      · rw [List.takeWhile_cons, h] at h3; cases h3
      · exact h1 (by rw [h]; rfl)
      · exact h2 (by rw [h]; rfl)
  · rw [if_neg h3] at hr ⊢
    simp only [decide_eq_true_eq] at hr
    simp only
    omega
theorem front_is (s : List UInt8) : front s = frontP s := by
  unfold front frontP
  by_cases h1 : s.head? = some 37
  · rw [if_pos h1, if_pos h1]
  rw [if_neg h1, if_neg h1]
  by_cases hs : signs s = false
  · rw [if_pos hs, signs_none hs]; rfl
  have hs : signs s = true := by simpa using hs
  rw [if_neg (show ¬ signs s = false by rw [hs]; simp)]
  by_cases h2 : (addr s).2.2 = false
  · rw [if_pos h2, if_pos (adr_wrong h2)]
  rw [if_neg h2]
  have h2 : (addr s).2.2 = true := by simpa using h2
  have hn := signs_some hs h2
  rw [adr_addr h2]
  simp only
  rw [if_neg hn]
  by_cases h3 : (addr s).2.1.head? = some 44
  · rw [if_pos ⟨hn, h3⟩, if_neg (show ¬ ((addr s).2.1.head? ≠ some 44) from fun e => e h3)]
    by_cases h4 : (addr (addr s).2.1.tail).2.2 = false
    · rw [if_pos (.inl h4), if_pos (adr_wrong h4)]
    · have h4 : (addr (addr s).2.1.tail).2.2 = true := by simpa using h4
      rw [adr_addr h4]
      simp only
      by_cases h5 : (addr (addr s).2.1.tail).1 = 0
      · rw [if_pos (.inr h5), if_pos h5]
      · rw [if_neg (by simp only [not_or]; exact ⟨by rw [h4]; simp, h5⟩), if_neg h5]
  · rw [if_neg (fun e => h3 e.2), if_pos h3]

/-! ### Slashes -/
/-- A text cut at a slash, at most k times. -/
def cutK : Nat → List UInt8 → List (List UInt8)
  | 0, s => [s]
  | k + 1, s => if Lib.indexByte s 47 = -1 then [s] else s.take (Lib.indexByte s 47).toNat :: cutK k (s.drop ((Lib.indexByte s 47).toNat + 1))
theorem split_cut : ∀ (k : Nat) (s : ByteArray), Lib.splitB ⟨#[47]⟩ 0 k s = (cutK k s.data.toList).map bs := by
  intro k
  induction k with
  | zero => intro s; rfl
  | succ k ih =>
    intro s
    have e : Lib.indexB s ⟨#[47]⟩ = Lib.indexByte s.data.toList 47 := Lib.index_one s.data.toList 47
    have hge := Lib.indexByte_ge s.data.toList 47
    unfold cutK
    by_cases hi : Lib.indexByte s.data.toList 47 = -1
    · rw [Lib.splitB_miss _ _ _ _ (e.trans hi), if_pos hi]
      rfl
    · obtain ⟨o, ho⟩ : ∃ o : Nat, Lib.indexByte s.data.toList 47 = o := ⟨(Lib.indexByte s.data.toList 47).toNat, by omega⟩
      rw [Lib.splitB_hit _ _ _ _ _ (e.trans ho), if_neg hi, ho, List.map_cons, Int.toNat_natCast]
      have e1 : s.extract 0 (o + 0) = bs (s.data.toList.take o) := by rw [Lib.extract_eq]; simp [bs]
      have e2 : s.extract (o + (⟨#[47]⟩ : ByteArray).size) s.size = bs (s.data.toList.drop (o + 1)) := by
        have hl := data_len s
        rw [Lib.extract_eq, List.take_of_length_le (by rw [List.length_drop]; omega)]; rfl
      rw [e1, e2, ih, bs_toList]
theorem parts_none {s : List UInt8} (h : Lib.indexByte s 47 = -1) : parts s = [s] := by
  have hn := Lib.indexByte_none h
  clear h
  induction s with
  | nil => rfl
  | cons b t ih =>
    have hb : b ≠ 47 := fun e => hn 0 (by rw [e]; rfl)
    unfold parts
    rw [if_neg hb, ih (fun k e => hn (k + 1) (by simpa using e))]
theorem parts_some : ∀ {s : List UInt8} {o : Nat}, Lib.indexByte s 47 = o → parts s = s.take o :: parts (s.drop (o + 1)) := by
  intro s
  induction s with
  | nil => intro o h; simp [Lib.indexByte] at h
  | cons b t ih =>
    intro o h
    obtain ⟨h1, h2⟩ := Lib.indexByte_some h
    by_cases hb : b = 47
    · have : o = 0 := by
        unfold Lib.indexByte at h
        rw [if_pos (by simp [hb])] at h
        omega
      subst this
      rw [parts, if_pos hb]; rfl
    · unfold Lib.indexByte at h
      rw [if_neg (by simp [hb])] at h
      by_cases ht : Lib.indexByte t 47 = -1
      · rw [ht] at h
        exact absurd h (by simp)
      · rw [if_neg (by simp [ht])] at h
        obtain ⟨q, rfl⟩ : ∃ q, o = q + 1 := ⟨o - 1, by have := Lib.indexByte_ge t 47; omega⟩
        have := ih (o := q) (by omega)
        rw [parts, if_neg hb, this]; rfl
theorem index_char {s : List UInt8} (h : s = [] ∨ s = [103]) : Lib.indexByte s 47 = -1 := by
  rcases h with rfl | rfl <;> decide
theorem parts_more {s : List UInt8} (h : Lib.indexByte s 47 ≠ -1) : ∃ a b r, parts s = a :: b :: r := by
  obtain ⟨o, ho⟩ : ∃ o : Nat, Lib.indexByte s 47 = o := ⟨(Lib.indexByte s 47).toNat, by have := Lib.indexByte_ge s 47; omega⟩
  have h1 := parts_some ho
  cases hp : parts (s.drop (o + 1)) with
  | nil => exact absurd hp (parts_ne _)
  | cons b r => exact ⟨_, b, r, by rw [h1, hp]⟩
/-- What is cut is a pattern and what it is put for, or there is none. -/
def substP (l : Ln) (p : List (List UInt8)) : Ln × Int := match p with
  | [a, p, r, g] => if a ≠ [] ∨ p = [] ∨ (g ≠ [] ∧ g ≠ [103]) then (zero, 3) else ({l with pat := p, rep := r, all := decide (g = [103])}, 0)
  | _ => (zero, 3)
theorem subst_parts (l : Ln) (s : List UInt8) : subst l s = substP l (parts s) := by
  unfold subst substP
  cases hp : parts s with
  | nil => rfl
  | cons a p =>
    match a, p with
    | [], [p, r, g] => simp
    | b :: a, [p, r, g] => simp
    | [], [] => rfl
    | [], [_] => rfl
    | [], [_, _] => rfl
    | [], _ :: _ :: _ :: _ :: _ => rfl
    | _ :: _, [] => rfl
    | _ :: _, [_] => rfl
    | _ :: _, [_, _] => rfl
    | _ :: _, _ :: _ :: _ :: _ :: _ => rfl
theorem subst_cut (l : Ln) (s : List UInt8) : subst l s = substP l (cutK 3 s) := by
  rw [subst_parts]
  have step : ∀ (k : Nat) (s : List UInt8), (parts s = [s] ∧ cutK (k + 1) s = [s]) ∨ (∃ a t, parts s = a :: parts t ∧ cutK (k + 1) s = a :: cutK k t) := by
    intro k s
    by_cases h : Lib.indexByte s 47 = -1
    · exact .inl ⟨parts_none h, by unfold cutK; rw [if_pos h]⟩
    · obtain ⟨o, ho⟩ : ∃ o : Nat, Lib.indexByte s 47 = o := ⟨(Lib.indexByte s 47).toNat, by have := Lib.indexByte_ge s 47; omega⟩
      exact .inr ⟨_, _, parts_some ho, by rw [cutK, if_neg h, ho, Int.toNat_natCast]⟩
  rcases step 2 s with ⟨e1, e2⟩ | ⟨a, s1, e1, e2⟩
  · rw [e1, e2]
  rw [e1, e2]
  rcases step 1 s1 with ⟨e3, e4⟩ | ⟨b, s2, e3, e4⟩
  · rw [e3, e4]
  rw [e3, e4]
  rcases step 0 s2 with ⟨e5, e6⟩ | ⟨c, s3, e5, e6⟩
  · rw [e5, e6]
  rw [e5, e6]
  by_cases h : Lib.indexByte s3 47 = -1
  · rw [parts_none h]; rfl
  · obtain ⟨x, y, r, hx⟩ := parts_more h
    have h1 : s3 ≠ [] := fun e => h (index_char (.inl e))
    have h2 : s3 ≠ [103] := fun e => h (index_char (.inr e))
    rw [hx]
    show (zero, 3) = substP l [a, b, c, s3]
    unfold substP
    simp only
    rw [if_pos (.inr (.inr ⟨h1, h2⟩))]

/-! ### A line's text -/
def sgn (a : Int) : List UInt8 := if a = 0 then [] else if a = -1 then [46] else if a = -2 then [36] else Lib.itoa a
def spanP (a b : Int) : List UInt8 := if a = 1 ∧ b = -2 then [37] else if b = 0 then sgn a else sgn a ++ 44 :: sgn b
/-- What might be the text, the program's way. -/
def tellP (l : Ln) : List UInt8 := spanP l.frm l.to ++ l.name ++ (if l.arg ≠ [] then 32 :: l.arg else []) ++ (if l.pat ≠ [] then 47 :: l.pat ++ 47 :: l.rep ++ [47] else []) ++ (if l.all then [103] else [])
def textP (l : Ln) : List UInt8 × Int := if parse (tellP l) = (l, 0) then (tellP l, 0) else ([], 3)
theorem digits_dec (n : Nat) : digits n = Lib.decDigits n := by
  induction n using Nat.strongRecOn with
  | ind n ih =>
    unfold digits Lib.decDigits
    by_cases h : n < 10
    · rw [if_pos h, dif_pos h]
    · rw [if_neg h, dif_neg h, ih (n / 10) (by omega)]
/-- An address, or none. -/
def Adr (n : Int) : Prop := -2 ≤ n ∧ n ≤ 999999
theorem sgn_told {n : Int} (h : Adr n) (h0 : n ≠ 0) : sgn n = told n := by
  unfold sgn told Adr at *
  rw [if_neg h0]
  by_cases h1 : n = -1
  · rw [if_pos h1, if_pos h1]
  rw [if_neg h1, if_neg h1]
  by_cases h2 : n = -2
  · rw [if_pos h2, if_pos h2]
  rw [if_neg h2, if_neg h2, if_neg (by omega), digits_dec]
  unfold Lib.itoa
  rw [if_neg (by omega)]
theorem span_head {a b : Int} (ha : Adr a) (hb : Adr b) (h : b ≠ 0 → a ≠ 0) : spanP a b = head a b := by
  unfold spanP head
  by_cases h1 : a = 1 ∧ b = -2
  · rw [if_pos h1, if_pos h1]
  rw [if_neg h1, if_neg h1]
  by_cases hb0 : b = 0
  · rw [if_pos hb0]
    by_cases ha0 : a = 0
    · rw [if_neg (fun e => e ha0)]; subst ha0; rfl
    · rw [if_pos ha0, if_neg (fun e => e hb0), List.append_nil, sgn_told ha ha0]
  · rw [if_neg hb0, if_pos (h hb0), if_pos hb0, sgn_told ha (h hb0), sgn_told hb hb0]
/-- What a line that was parsed is like. -/
structure Img (l : Ln) : Prop where
  frm : Adr l.frm
  to : Adr l.to
  both : l.to ≠ 0 → l.frm ≠ 0
  s : l.name = [115] → l.arg = [] ∧ l.pat ≠ []
  ns : l.name ≠ [115] → l.pat = [] ∧ l.rep = [] ∧ l.all = false
theorem addr_adr {s : List UInt8} (h : (addr s).2.2 = true) : Adr (addr s).1 := by
  unfold addr Adr at *
  by_cases h1 : s.head? = some 46
  · rw [if_pos h1]; simp
  rw [if_neg h1] at h ⊢
  by_cases h2 : s.head? = some 36
  · rw [if_pos h2]; simp
  rw [if_neg h2] at h ⊢
  by_cases h3 : s.takeWhile digit = []
  · rw [if_pos h3]; simp
  · rw [if_neg h3] at h ⊢
    simp only [decide_eq_true_eq] at h
    have := (number_told h).2
    simp only
    omega
theorem front_adr {s t : List UInt8} {a b : Int} (h : front s = some (a, b, t)) : Adr a ∧ Adr b ∧ (b ≠ 0 → a ≠ 0) := by
  unfold front at h
  by_cases h1 : s.head? = some 37
  · rw [if_pos h1] at h
    injection h with h; injection h with e1 h; injection h with e2 e3
    subst e1 e2
    unfold Adr; omega
  rw [if_neg h1] at h
  by_cases h2 : (addr s).2.2 = false
  · rw [if_pos h2] at h; cases h
  rw [if_neg h2] at h
  have h2 : (addr s).2.2 = true := by simpa using h2
  have A1 := addr_adr h2
  by_cases h3 : (addr s).1 ≠ 0 ∧ (addr s).2.1.head? = some 44
  · rw [if_pos h3] at h
    by_cases h4 : (addr (addr s).2.1.tail).2.2 = false ∨ (addr (addr s).2.1.tail).1 = 0
    · rw [if_pos h4] at h; cases h
    rw [if_neg h4] at h
    simp only [not_or] at h4
    injection h with h; injection h with e1 h; injection h with e2 e3
    have A2 := addr_adr (s := (addr s).2.1.tail) (by simpa using h4.1)
    rw [e1] at A1 h3
    rw [e2] at A2
    exact ⟨A1, A2, fun _ => h3.1⟩
  · rw [if_neg h3] at h
    injection h with h; injection h with e1 h; injection h with e2 e3
    rw [e1] at A1
    subst e2
    exact ⟨A1, by unfold Adr; omega, fun e => absurd rfl e⟩
theorem rest_img {l m : Ln} {r : Bool} {k : Nat} {s : List UInt8} (h : rest l k s = (m, 0)) (hk : kind l.name = some (r, k)) (h0 : l.arg = []) (h1 : l.pat = []) (h2 : l.rep = []) (h3 : l.all = false) :
    (m.name = [115] → m.arg = [] ∧ m.pat ≠ []) ∧ (m.name ≠ [115] → m.pat = [] ∧ m.rep = [] ∧ m.all = false) := by
  have h5 := kind_five hk
  have hn := (rest_told h hk h0).2.1
  unfold rest at h
  by_cases e5 : k = 5
  · rw [if_pos e5] at h
    have hs : l.name = [115] := h5.1 e5
    refine ⟨fun _ => ?_, fun e => absurd (hn.trans hs) e⟩
    unfold subst at h
    split at h
    · rename_i p r g hp
      by_cases hc : p = [] ∨ (g ≠ [] ∧ g ≠ [103])
      · rw [if_pos hc] at h; injection h with _ h; cases h
      · rw [if_neg hc] at h
        injection h with h _
        subst h
        exact ⟨h0, fun e => hc (.inl e)⟩
    · injection h with _ h; cases h
  · rw [if_neg e5] at h
    have hns : l.name ≠ [115] := fun e => e5 (h5.2 e)
    refine ⟨fun e => absurd (hn.symm.trans e) hns, fun _ => ?_⟩
    split at h
    · split at h
      · injection h with _ h; cases h
      · injection h with h _; subst h; exact ⟨h1, h2, h3⟩
    split at h
    · injection h with _ h; cases h
    split at h
    · injection h with _ h; cases h
    split at h
    · injection h with _ h; cases h
    injection h with h _
    subst h
    exact ⟨h1, h2, h3⟩
theorem parse_img {s : List UInt8} {l : Ln} (h : parse s = (l, 0)) : Img l := by
  unfold parse at h
  split at h
  · injection h with _ h; cases h
  split at h
  · injection h with _ h; cases h
  rename_i a b t hf
  obtain ⟨A, B, C⟩ := front_adr hf
  obtain ⟨_, g2, g3⟩ := word_told h
  unfold word at h
  split at h
  · injection h with _ h; cases h
  rename_i r k hk
  split at h
  · injection h with _ h; cases h
  split at h
  · injection h with _ h; cases h
  obtain ⟨i1, i2⟩ := rest_img h hk rfl rfl rfl rfl
  exact ⟨by rw [g2]; exact A, by rw [g3]; exact B, by rw [g2, g3]; exact C, i1, i2⟩
theorem tell_img {l : Ln} (h : Img l) : tellP l = tell l := by
  unfold tellP tell tail
  rw [span_head h.frm h.to h.both]
  by_cases hs : l.name = [115]
  · obtain ⟨h1, h2⟩ := h.s hs
    rw [if_pos hs, if_neg (fun e => e h1), if_pos h2]
    cases l.all <;> simp
  · obtain ⟨h1, h2, h3⟩ := h.ns hs
    rw [if_neg hs, h1, h3]
    simp
theorem text_is (l : Ln) : textP l = text l := by
  unfold textP text
  by_cases h : parse (tellP l) = (l, 0)
  · have e := tell_img (parse_img h)
    rw [if_pos h, if_pos (by rw [← e]; exact h), e]
  · rw [if_neg h]
    by_cases h2 : parse (tell l) = (l, 0)
    · exact absurd (by rw [tell_img (parse_img h2)]; exact h2) h
    · rw [if_neg h2]
end Ex
end Go.Proofs.YtcddbdefdenecaaGreatDoor
