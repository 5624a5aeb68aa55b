/-
  Commands without a program: counts, registers, words, what each of them asks for, and that of what is whole nothing stands behind.
-/
import Derived.Test.YtchpkeelnfmlbaaGreatKey
import Derived.Test.YtchpkeelnfmlbaaGreatThing
import Derived.Test.YtchpkeelnfmlbaaGreatReg
namespace Go.Proofs.YtchpkeelnfmlbaaGreat
namespace Phr
open Utf
/-- A command. -/
structure Cmd where
  reg : Int
  count : Int
  op : List UInt8
  key : List UInt8
  arg : List UInt8
  deriving DecidableEq
def zero : Cmd := ⟨0, 0, [], [], []⟩
/-- A command, and what keys are: 1 more are wanted, 2 they are one, 3 they are none. -/
abbrev Ans := Cmd × Int
def more : Ans := (zero, 1)
def bad : Ans := (zero, 3)

/-- Is a key a digit? Which one? -/
def digit (k : List UInt8) : Bool := match k with | [b] => decide (48 ≤ b.toNat) && decide (b.toNat ≤ 57) | _ => false
def val (k : List UInt8) : Int := match k with | b :: _ => (b.toNat : Int) - 48 | [] => 0
/-- Two counts as one. -/
def count (a b : Int) : Int := if a < 1 ∨ b < 1 then max (max (min a 99) (min b 99)) 0 else min (min a 99 * min b 99) 99
/-- The number of the digits ahead, and what stands behind them. -/
def digits : Int → List (List UInt8) → Int × List (List UInt8)
  | n, [] => (n, [])
  | n, k :: t => if digit k then digits (min (n * 10 + val k) 99) t else (n, k :: t)
def number (l : List (List UInt8)) : Int × List (List UInt8) := match l with | [] => (0, []) | k :: t => if k = [48] then (0, k :: t) else digits 0 (k :: t)
/-- Does a key fit behind one that wants a thing (1), a sign or a tab (2), a letter? -/
def letter (k : List UInt8) : Bool := match k with | [b] => decide (97 ≤ b.toNat) && decide (b.toNat ≤ 122) | _ => false
def sign (k : List UInt8) : Bool := (one k && Key.sgn k) || decide (k = [9])
def fits (n : Nat) (k : List UInt8) : Bool := if n = 1 then (Thing.num k).isSome else if n = 2 then sign k else letter k
/-- A command that nothing stands behind, one that wants a key, and either. -/
def last (c : Cmd) (l : List (List UInt8)) : Ans := if l = [] then (c, 2) else bad
def behind (c : Cmd) (n : Nat) (l : List (List UInt8)) : Ans := match l with | [] => more | [a] => if fits n a then ({c with arg := a}, 2) else bad | _ => bad
def goes (c : Cmd) (n : Nat) (l : List (List UInt8)) : Ans := if n = 0 then last c l else behind c n l
/-- A word: a key, or g and the one behind it; none, if there is too little. -/
def word : List (List UInt8) → Option (List UInt8 × List (List UInt8))
  | [] => none
  | k :: t => if k = [103] then (match t with | [] => none | a :: u => some (103 :: a, u)) else some (k, t)
/-- Motions: what each wants behind it; none: no motion. -/
def finds : List (List UInt8) := [[102], [70], [116], [84]]
def marks : List (List UInt8) := [[39], [96]]
def bare : List (List UInt8) := [[104], [108], [48], [94], [36], [124], [106], [107], [71], [119], [98], [101], [87], [66], [69], [123], [125], [37], [110], [78], [59], [44], [103, 103]]
def mot (w : List UInt8) : Option Nat := if w ∈ finds then some 2 else if w ∈ marks then some 3 else if w ∈ bare then some 0 else none
/-- Operators. -/
def opers : List (List UInt8) := [[100], [99], [121], [62], [60], [103, 117], [103, 85], [103, 126]]
/-- What a word does: an operator, a key and what it wants; or it works on what follows; or nothing. -/
inductive Act
  | does (op key : List UInt8) (n : Nat)
  | works (op : List UInt8)
  | not
/-- What is marked by, and what it is there for. -/
def area (w : List UInt8) : Act :=
  if w = [100] ∨ w = [120] then .does [100] [] 0
  else if w = [99] ∨ w = [115] then .does [99] [] 0
  else if w = [126] ∨ w = [117] ∨ w = [85] then .does (103 :: w) [] 0
  else if w = [74] ∨ w = [111] ∨ w = [118] ∨ w = [86] then .does [] w 0
  else if w = [105] ∨ w = [97] then .does [] w 1
  else if w ∈ opers then .does w [] 0
  else .not
def line : List UInt8 := [108, 105, 110, 101]
/-- Keys that stand alone. -/
def alone : List (List UInt8) := [[112], [80], [74], [126], [117], [46], [105], [97], [73], [65], [111], [79], [118], [86], [58], [47], [63], [18], [103, 45], [103, 43]]
def plain (w : List UInt8) : Act :=
  if w ∈ opers then .works w
  else if w = [120] then .does [100] [108] 0
  else if w = [88] then .does [100] [104] 0
  else if w = [68] then .does [100] [36] 0
  else if w = [67] then .does [99] [36] 0
  else if w = [115] then .does [99] [108] 0
  else if w = [83] then .does [99] line 0
  else if w = [89] then .does [121] line 0
  else if w = [114] then .does [] w 2
  else if w = [109] then .does [] w 3
  else if w ∈ alone then .does [] w 0
  else .not
def act (visual : Bool) (w : List UInt8) : Act := match mot w with | some n => .does [] w n | none => if visual then area w else plain w
/-- What an operator works on. -/
def tail (op : List UInt8) : List UInt8 := op.drop (op.length - 1)
def on (op w : List UInt8) : Act := match mot w with | some n => .does op w n | none => if w = [105] ∨ w = [97] then .does op w 1 else if w = tail op then .does op line 0 else .not
def does (c : Cmd) (a : Act) (l : List (List UInt8)) : Ans := match a with | .does op key n => goes {c with op := op, key := key} n l | .works _ => bad | .not => bad
def work (c : Cmd) (op : List UInt8) (l : List (List UInt8)) : Ans := match word (number l).2 with | none => more | some (w, t) => does {c with count := count c.count (number l).1} (on op w) t
def run (visual : Bool) (c : Cmd) (l : List (List UInt8)) : Ans := match word l with
  | none => more
  | some (w, t) => match act visual w with | .works op => work c op t | a => does c a t
/-- Is a key a register's name? -/
def name (k : List UInt8) : Bool := match k with | [b] => decide (Reg.nameN (b.toNat : Int) ≠ 0) | _ => false
def byte (k : List UInt8) : Int := match k with | b :: _ => b.toNat | [] => 0
def reg (visual : Bool) (n : Int) (l : List (List UInt8)) : Ans := match l with
  | [] => more
  | k :: t => if name k then run visual ⟨byte k, count n (number t).1, [], [], []⟩ (number t).2 else bad
def parse (visual : Bool) (l : List (List UInt8)) : Ans :=
  if (number l).2.head? = some [34] then reg visual (number l).1 (number l).2.tail else run visual ⟨0, (number l).1, [], [], []⟩ (number l).2
/-- What a text is. -/
def ans (visual : Bool) (s : List UInt8) : Ans := if Key.err s = 0 then parse visual (Key.split s) else bad

/-! ### What stands behind -/
theorem digits_more {n : Int} {l : List (List UInt8)} (m : List (List UInt8)) (h : (digits n l).2 ≠ []) : digits n (l ++ m) = ((digits n l).1, (digits n l).2 ++ m) := by
  induction l generalizing n with
  | nil => simp [digits] at h
  | cons k t ih =>
    simp only [digits, List.cons_append] at h ⊢
    by_cases hd : digit k = true
    · rw [if_pos hd] at h ⊢; rw [if_pos hd]; exact ih h
    · rw [if_neg hd, if_neg hd]; rfl
theorem number_more {l : List (List UInt8)} (m : List (List UInt8)) (h : (number l).2 ≠ []) : number (l ++ m) = ((number l).1, (number l).2 ++ m) := by
  cases l with
  | nil => exact absurd rfl h
  | cons k t =>
    simp only [number, List.cons_append] at h ⊢
    by_cases h0 : k = [48]
    · rw [if_pos h0, if_pos h0]; rfl
    · rw [if_neg h0] at h; rw [if_neg h0, if_neg h0]; exact digits_more m h
theorem word_more {l : List (List UInt8)} (m : List (List UInt8)) {w t} (h : word l = some (w, t)) : word (l ++ m) = some (w, t ++ m) := by
  cases l with
  | nil => cases h
  | cons k u =>
    simp only [word, List.cons_append] at h ⊢
    by_cases hk : k = [103]
    · rw [if_pos hk] at h ⊢
      cases u with
      | nil => cases h
      | cons a v => simp only [Option.some.injEq, Prod.mk.injEq] at h; rw [← h.1, ← h.2]; rfl
    · rw [if_neg hk] at h ⊢
      simp only [Option.some.injEq, Prod.mk.injEq] at h
      rw [← h.1, ← h.2]
theorem word_nil {l : List (List UInt8)} {x} (h : word l = some x) : l ≠ [] := by rintro rfl; cases h
theorem goes_more {c : Cmd} {n : Nat} {l m : List (List UInt8)} (hm : m ≠ []) (h : (goes c n l).2 ≠ 1) : goes c n (l ++ m) = bad := by
  unfold goes at h ⊢
  split
  · rw [last, if_neg (by simp [hm])]
  · rename_i hn
    rw [if_neg hn] at h
    match l, m, hm, h with
    | [], _, _, h => simp [behind, more] at h
    | [a], b :: m, _, _ => rfl
    | a :: b :: t, _, _, _ => rfl
theorem does_more {c : Cmd} {a : Act} {l m : List (List UInt8)} (hm : m ≠ []) (h : (does c a l).2 ≠ 1) : does c a (l ++ m) = bad := by
  cases a with
  | does op key n => exact goes_more hm h
  | works op => rfl
  | not => rfl
theorem work_more {c : Cmd} {op : List UInt8} {l m : List (List UInt8)} (hm : m ≠ []) (h : (work c op l).2 ≠ 1) : work c op (l ++ m) = bad := by
  unfold work at h ⊢
  cases hw : word (number l).2 with
  | none => rw [hw] at h; simp [more] at h
  | some x =>
    obtain ⟨w, t⟩ := x
    rw [hw] at h
    rw [number_more m (word_nil hw), word_more m hw]
    exact does_more hm h
theorem run_more {visual : Bool} {c : Cmd} {l m : List (List UInt8)} (hm : m ≠ []) (h : (run visual c l).2 ≠ 1) : run visual c (l ++ m) = bad := by
  unfold run at h ⊢
  cases hw : word l with
  | none => rw [hw] at h; simp [more] at h
  | some x =>
    obtain ⟨w, t⟩ := x
    rw [hw] at h
    rw [word_more m hw]
    simp only at h ⊢
    cases ha : act visual w with
    | does op key n => rw [ha] at h; exact does_more hm h
    | works op => rw [ha] at h; exact work_more hm h
    | not => rfl
theorem run_nil (visual : Bool) (c : Cmd) : run visual c [] = more := rfl
theorem reg_more {visual : Bool} {n : Int} {l m : List (List UInt8)} (hm : m ≠ []) (h : (reg visual n l).2 ≠ 1) : reg visual n (l ++ m) = bad := by
  cases l with
  | nil => simp [reg, more] at h
  | cons k t =>
    simp only [reg, List.cons_append] at h ⊢
    by_cases hk : name k = true
    · rw [if_pos hk] at h ⊢
      by_cases h0 : (number t).2 = []
      · rw [h0, run_nil] at h; simp [more] at h
      · rw [number_more m h0]; exact run_more hm h
    · rw [if_neg hk]
/-- Behind what is a command or none, whatever more there is makes none of it. -/
theorem parse_more {visual : Bool} {l m : List (List UInt8)} (hm : m ≠ []) (h : (parse visual l).2 ≠ 1) : parse visual (l ++ m) = bad := by
  unfold parse at h ⊢
  by_cases h0 : (number l).2 = []
  · rw [h0] at h; simp [run_nil, more] at h
  · rw [number_more m h0]
    have e : ((number l).2 ++ m).head? = (number l).2.head? := by
      cases hn : (number l).2 with
      | nil => exact absurd hn h0
      | cons a t => rfl
    rw [e]
    by_cases hq : (number l).2.head? = some [34]
    · rw [if_pos hq] at h ⊢
      rw [List.tail_append_of_ne_nil h0]
      exact reg_more hm h
    · rw [if_neg hq] at h ⊢
      exact run_more hm h

/-! ### What is told -/
theorem count_in (a b : Int) : 0 ≤ count a b ∧ count a b ≤ 99 := by
  unfold count
  split
  · omega
  · have : 0 ≤ min a 99 * min b 99 := Int.mul_nonneg (by omega) (by omega)
    omega
theorem digits_in {n : Int} (h : 0 ≤ n ∧ n ≤ 99) (l : List (List UInt8)) : 0 ≤ (digits n l).1 ∧ (digits n l).1 ≤ 99 := by
  induction l generalizing n with
  | nil => exact h
  | cons k t ih =>
    simp only [digits]
    split
    · rename_i hd
      refine ih ?_
      have : 0 ≤ val k := by
        unfold digit at hd
        unfold val
        split at hd
        · simp at hd; simp; omega
        · cases hd
      omega
    · exact h
theorem number_in (l : List (List UInt8)) : 0 ≤ (number l).1 ∧ (number l).1 ≤ 99 := by
  unfold number
  split
  · simp
  · split
    · simp
    · exact digits_in (by omega) _
/-- What an answer is: of three kinds, and a command has a count, and an operator or a key. -/
def Fine (x : Ans) : Prop := x = more ∨ x = bad ∨ x.2 = 2 ∧ 0 ≤ x.1.count ∧ x.1.count ≤ 99 ∧ (x.1.op ≠ [] ∨ x.1.key ≠ [])
theorem goes_fine {c : Cmd} {n : Nat} {l : List (List UInt8)} (h0 : 0 ≤ c.count) (h1 : c.count ≤ 99) (h2 : c.op ≠ [] ∨ c.key ≠ []) : Fine (goes c n l) := by
  unfold goes last behind
  split
  · split
    · exact .inr (.inr ⟨rfl, h0, h1, h2⟩)
    · exact .inr (.inl rfl)
  · split
    · exact .inl rfl
    · split
      · exact .inr (.inr ⟨rfl, h0, h1, h2⟩)
      · exact .inr (.inl rfl)
    · exact .inr (.inl rfl)
/-- What a word does names an operator or a key. -/
def Names (a : Act) : Prop := match a with | .does op key _ => op ≠ [] ∨ key ≠ [] | .works op => op ≠ [] | .not => True
theorem mot_ne {w : List UInt8} {n : Nat} (h : mot w = some n) : w ≠ [] := by rintro rfl; simp [mot, finds, marks, bare] at h
theorem opers_ne {w : List UInt8} (h : w ∈ opers) : w ≠ [] := by rintro rfl; simp [opers] at h
theorem act_names (visual : Bool) (w : List UInt8) : Names (act visual w) := by
  unfold act
  cases hm : mot w with
  | some n => exact .inr (mot_ne hm)
  | none =>
    cases visual
    · simp only [Bool.false_eq_true, if_false]
      unfold plain
      repeat' split
      all_goals first | exact opers_ne (by assumption) | (simp [Names, line]; done) | trivial | skip
      · rename_i h; subst h; simp [Names]
      · rename_i h; subst h; simp [Names]
      · rename_i h; refine .inr ?_; rintro rfl; simp [alone] at h
    · simp only [if_true]
      unfold area
      repeat' split
      all_goals first | (simp [Names]; done) | trivial | skip
      · rename_i h; refine .inr ?_; rintro rfl; simp at h
      · rename_i h; refine .inr ?_; rintro rfl; simp at h
      · rename_i h; exact .inl (opers_ne h)
theorem on_names {op : List UInt8} (h : op ≠ []) (w : List UInt8) : Names (on op w) := by
  unfold on
  repeat' split
  all_goals first | exact .inl h | trivial
theorem does_fine {c : Cmd} {a : Act} {l : List (List UInt8)} (h0 : 0 ≤ c.count) (h1 : c.count ≤ 99) (h2 : Names a) : Fine (does c a l) := by
  cases a with
  | does op key n => exact goes_fine h0 h1 h2
  | works op => exact .inr (.inl rfl)
  | not => exact .inr (.inl rfl)
theorem work_fine {c : Cmd} {op : List UInt8} {l : List (List UInt8)} (h2 : op ≠ []) : Fine (work c op l) := by
  unfold work
  split
  · exact .inl rfl
  · exact does_fine (count_in _ _).1 (count_in _ _).2 (on_names h2 _)
theorem run_fine {visual : Bool} {c : Cmd} {l : List (List UInt8)} (h0 : 0 ≤ c.count) (h1 : c.count ≤ 99) : Fine (run visual c l) := by
  unfold run
  split
  · exact .inl rfl
  · rename_i w t _
    have hn := act_names visual w
    split
    · rename_i op ha; rw [ha] at hn; exact work_fine hn
    · exact does_fine h0 h1 hn
theorem parse_fine (visual : Bool) (l : List (List UInt8)) : Fine (parse visual l) := by
  unfold parse
  split
  · unfold reg
    split
    · exact .inl rfl
    · split
      · exact run_fine (count_in _ _).1 (count_in _ _).2
      · exact .inr (.inl rfl)
  · exact run_fine (number_in l).1 (number_in l).2
theorem ans_fine (visual : Bool) (s : List UInt8) : Fine (ans visual s) := by
  unfold ans
  split
  · exact parse_fine visual _
  · exact .inr (.inl rfl)

/-! ### Of texts -/
theorem ans_ok {visual : Bool} {s : List UInt8} {rs : List (List UInt8)} (h : dec s = some rs) (k : rs.all Key.isKey = true) : ans visual s = parse visual rs := by
  rw [ans, if_pos (Key.err_ok h k), Key.split_ok h k]
theorem ans_no {visual : Bool} {s : List UInt8} (h : Key.err s ≠ 0) : ans visual s = bad := by rw [ans, if_neg h]
/-- Behind a text of whole runes that is a command or none, whatever more there is makes none of it. -/
theorem ans_more {visual : Bool} {s m : List UInt8} {rs : List (List UInt8)} (hd : dec s = some rs) (hm : m ≠ []) (h : (ans visual s).2 ≠ 1) : ans visual (s ++ m) = bad := by
  have hs := dec_some hd
  have ha : dec (s ++ m) = (dec m).map (rs ++ ·) := by rw [hs.2]; exact dec_all m hs.1
  cases hdm : dec m with
  | none =>
    rw [hdm] at ha
    exact ans_no (by rw [Key.err_bad ha]; decide)
  | some ms =>
    rw [hdm] at ha
    have ha2 : dec (s ++ m) = some (rs ++ ms) := ha
    cases hk : (rs ++ ms).all Key.isKey with
    | false => exact ans_no (by rw [Key.err_key ha2 hk]; decide)
    | true =>
      rw [List.all_append, Bool.and_eq_true] at hk
      rw [ans_ok hd hk.1] at h
      rw [ans_ok ha2 (by rw [List.all_append, hk.1, hk.2]; rfl)]
      refine parse_more ?_ h
      rintro rfl
      exact hm (by rw [(dec_some hdm).2]; rfl)
/-- All beginnings, by whole keys, of what is a command want more; what is none is none with more. -/
theorem ans_begins {visual : Bool} {s : List UInt8} {rs : List (List UInt8)} (hd : dec s = some rs) {i : Nat} (hi : i < rs.length) :
    ans visual (rs.take i).flatten = more ∨ ans visual (rs.take i).flatten ≠ more ∧ ans visual s = bad := by
  have hs := dec_some hd
  have h1 : dec (rs.take i).flatten = some (rs.take i) := dec_of (fun r hr => hs.1 r (List.mem_of_mem_take hr))
  by_cases hm : ans visual (rs.take i).flatten = more
  · exact .inl hm
  · refine .inr ⟨hm, ?_⟩
    have h2 : (ans visual (rs.take i).flatten).2 ≠ 1 := by
      rcases ans_fine visual (rs.take i).flatten with h | h | h
      · exact absurd h hm
      · rw [h]; decide
      · rw [h.1]; decide
    have h3 : s = (rs.take i).flatten ++ (rs.drop i).flatten := by rw [← List.flatten_append, List.take_append_drop]; exact hs.2
    rw [h3]
    refine ans_more h1 ?_ h2
    obtain ⟨r, hr⟩ : ∃ r, rs[i]? = some r := ⟨_, List.getElem?_eq_getElem hi⟩
    rw [List.drop_eq_getElem_cons hi, List.flatten_cons]
    have := one_ne (hs.1 _ (List.getElem_mem hi))
    simp [this]
end Phr
end Go.Proofs.YtchpkeelnfmlbaaGreat
