/-
  Brackets without a program: where what opens is closed, the pairs of a kind, what a stack makes of the runes, the other one, and the pair around a place.
-/
import Derived.Test.YtchpkeelnfmlbaaGreatLineCalls
import Derived.Test.YtchpkeelnfmlbaaGreatUtfIs
import Derived.Test.YtchpkeelnfmlbaaGreatSeek
import Derived.Lib.IndexAny
namespace Go.Proofs.YtchpkeelnfmlbaaGreat
namespace Pair
open Utf (dec off one place valid)
open Line (L of_)

/-- What closes what opens. -/
def clo : List UInt8 → Option UInt8
  | [40] => some 41
  | [91] => some 93
  | [123] => some 125
  | [60] => some 62
  | _ => none
theorem clo_some {k : List UInt8} {c : UInt8} (h : clo k = some c) : ∃ o, k = [o] ∧ ((o = 40 ∧ c = 41) ∨ (o = 91 ∧ c = 93) ∨ (o = 123 ∧ c = 125) ∨ (o = 60 ∧ c = 62)) := by
  unfold clo at h
  split at h <;> first | (cases h; exact ⟨_, rfl, by decide⟩) | (exact absurd h (by simp))
theorem clo_facts {k : List UInt8} {c : UInt8} (h : clo k = some c) : ∃ o, k = [o] ∧ o ≠ c ∧ o.toNat < 128 ∧ c.toNat < 128 := by
  obtain ⟨o, hk, h1⟩ := clo_some h
  refine ⟨o, hk, ?_⟩
  rcases h1 with ⟨rfl, rfl⟩ | ⟨rfl, rfl⟩ | ⟨rfl, rfl⟩ | ⟨rfl, rfl⟩ <;> decide

/-- Where what is open, d deep, is closed by what comes from i on. -/
def oth (o c : UInt8) : List UInt8 → Nat → Nat → Option Nat
  | [], _, _ => none
  | b :: r, d, i => if b = o then oth o c r (d + 1) (i + 1) else if b = c then (if d ≤ 1 then some i else oth o c r (d - 1) (i + 1)) else oth o c r d (i + 1)
/-- The pairs of what comes from i on. -/
def prs (o c : UInt8) : List UInt8 → Nat → List (Nat × Nat)
  | [], _ => []
  | b :: r, i => if b = o then (match oth o c r 1 (i + 1) with | some q => (i, q) :: prs o c r (i + 1) | none => prs o c r (i + 1)) else prs o c r (i + 1)
/-- All pairs of a kind. -/
def all (s k : List UInt8) : List (Nat × Nat) := match clo k with | some c => if valid s then prs (k.headD 0) c s 0 else [] | none => []
/-- -1: it is not closed. -/
def num : Option Nat → Int
  | some q => q
  | none => -1
/-- All that open, with where they are closed. -/
def raw (o c : UInt8) : List UInt8 → Nat → List (Nat × Int)
  | [], _ => []
  | b :: r, i => if b = o then (i, num (oth o c r 1 (i + 1))) :: raw o c r (i + 1) else raw o c r (i + 1)
/-- Those that are closed. -/
def keep : List (Nat × Int) → List (Nat × Nat)
  | [] => []
  | x :: l => if x.2 < 0 then keep l else (x.1, x.2.toNat) :: keep l
theorem keep_raw (o c : UInt8) (r : List UInt8) (i : Nat) : keep (raw o c r i) = prs o c r i := by
  induction r generalizing i with
  | nil => rfl
  | cons b r ih =>
    rw [raw, prs]
    split
    · cases h : oth o c r 1 (i + 1) with
      | none => exact (if_pos (by show (-1 : Int) < 0; decide)).trans (ih _)
      | some q => exact (if_neg (by show ¬ (q : Int) < 0; omega)).trans (congrArg _ (ih _))
    · exact ih _
theorem keep_length (l : List (Nat × Int)) : (keep l).length ≤ l.length := by
  induction l with
  | nil => exact Nat.le_refl _
  | cons x l ih => rw [keep]; split <;> simp only [List.length_cons] <;> omega
theorem raw_length (o c : UInt8) (r : List UInt8) (i : Nat) : (raw o c r i).length ≤ r.length := by
  induction r generalizing i with
  | nil => exact Nat.le_refl _
  | cons b r ih => have := ih (i + 1); rw [raw]; split <;> simp only [List.length_cons] <;> omega
theorem prs_length (o c : UInt8) (r : List UInt8) (i : Nat) : (prs o c r i).length ≤ r.length := by
  rw [← keep_raw]; exact Nat.le_trans (keep_length _) (raw_length _ _ _ _)

/-! What the stack makes. -/
/-- What opens is put on the stack, what closes takes the last one. -/
def mach (o c : UInt8) : List (List UInt8) → Nat → List (Nat × Int) → List Nat → List (Nat × Int)
  | [], _, l, _ => l
  | r :: rs, i, l, st =>
    if r = [o] then mach o c rs (i + r.length) (l ++ [(i, -1)]) (l.length :: st)
    else if r = [c] then (match st with | [] => mach o c rs (i + r.length) l [] | k :: st => mach o c rs (i + r.length) (l.modify k (fun x => (x.1, (i : Int)))) st)
    else mach o c rs (i + r.length) l st
theorem modify_left {α : Type} (f : α → α) (m : List α) : ∀ (l : List α) (k : Nat), k < l.length → (l ++ m).modify k f = l.modify k f ++ m
  | [], _, h => absurd h (Nat.not_lt_zero _)
  | _ :: _, 0, _ => rfl
  | x :: l, k + 1, h => by
    rw [List.cons_append, List.modify_succ_cons, List.modify_succ_cons, List.cons_append, modify_left f m l k (by simpa using h)]
theorem modify_last {α : Type} (f : α → α) (y : α) : ∀ l : List α, (l ++ [y]).modify l.length f = l ++ [f y]
  | [] => rfl
  | x :: l => by
    rw [List.cons_append, List.length_cons, List.modify_succ_cons, List.cons_append, modify_last f y l]
theorem mach_cons (o c : UInt8) (r : List UInt8) (rs : List (List UInt8)) (i : Nat) (l : List (Nat × Int)) (st : List Nat) : mach o c (r :: rs) i l st =
    if r = [o] then mach o c rs (i + r.length) (l ++ [(i, -1)]) (l.length :: st)
    else if r = [c] then (match st with | [] => mach o c rs (i + r.length) l [] | k :: st => mach o c rs (i + r.length) (l.modify k (fun x => (x.1, (i : Int)))) st)
    else mach o c rs (i + r.length) l st := by
  cases st <;> rfl
/-- One that is closed, or is not. -/
def put (l : List (Nat × Int)) (k : Nat) : Option Nat → List (Nat × Int)
  | some q => l.modify k (fun x => (x.1, (q : Int)))
  | none => l
theorem put_length (l : List (Nat × Int)) (k : Nat) (v : Option Nat) : (put l k v).length = l.length := by
  cases v <;> simp [put]
theorem put_snoc (l : List (Nat × Int)) (y : Nat × Int) {k : Nat} (h : k < l.length) (v : Option Nat) : put (l ++ [y]) k v = put l k v ++ [y] := by
  cases v with
  | none => rfl
  | some q => exact modify_left _ _ _ _ h
theorem put_last (l : List (Nat × Int)) (i : Nat) (v : Option Nat) : put (l ++ [(i, -1)]) l.length v = l ++ [(i, num v)] := by
  cases v with
  | none => rfl
  | some q => exact modify_last _ _ _
/-- What becomes of those that are open. -/
def shut (o c : UInt8) (r : List UInt8) (i : Nat) : List (Nat × Int) → List Nat → Nat → List (Nat × Int)
  | l, [], _ => l
  | l, k :: st, d => shut o c r i (put l k (oth o c r d i)) st (d + 1)
theorem shut_nil (o c : UInt8) (i : Nat) : ∀ (l : List (Nat × Int)) (st : List Nat) (d : Nat), shut o c [] i l st d = l
  | _, [], _ => rfl
  | l, k :: st, d => by rw [shut, oth, put]; exact shut_nil o c i l st (d + 1)
theorem shut_snoc (o c : UInt8) (r : List UInt8) (i : Nat) (y : Nat × Int) : ∀ (l : List (Nat × Int)) (st : List Nat) (d : Nat), (∀ k ∈ st, k < l.length) → shut o c r i (l ++ [y]) st d = shut o c r i l st d ++ [y]
  | l, [], d, _ => rfl
  | l, k :: st, d, h => by
    rw [shut, shut, put_snoc l y (h k (by simp))]
    exact shut_snoc o c r i y _ st (d + 1) (fun j hj => by rw [put_length]; exact h j (by simp [hj]))
theorem shut_same {o c : UInt8} {r r' : List UInt8} {i i' : Nat} {n m : Nat} (h : ∀ d, n ≤ d → oth o c r (d + m) i = oth o c r' d i') : ∀ (l : List (Nat × Int)) (st : List Nat) (d : Nat), n ≤ d → shut o c r i l st (d + m) = shut o c r' i' l st d
  | l, [], d, _ => rfl
  | l, k :: st, d, hd => by
    rw [shut, shut, h d hd, show d + m + 1 = d + 1 + m by omega]
    exact shut_same h _ st (d + 1) (by omega)
/-- A rune that is none of the two is passed by. -/
theorem oth_pass {o c : UInt8} (q t : List UInt8) (hq : ∀ b ∈ q, b ≠ o ∧ b ≠ c) (d i : Nat) : oth o c (q ++ t) d i = oth o c t d (i + q.length) := by
  induction q generalizing i with
  | nil => rfl
  | cons b q ih =>
    have h1 := hq b (by simp)
    rw [List.cons_append, oth, if_neg h1.1, if_neg h1.2, ih (fun x hx => hq x (by simp [hx]))]
    congr 1; simp; omega
theorem raw_pass {o c : UInt8} (q t : List UInt8) (hq : ∀ b ∈ q, b ≠ o) (i : Nat) : raw o c (q ++ t) i = raw o c t (i + q.length) := by
  induction q generalizing i with
  | nil => rfl
  | cons b q ih =>
    rw [List.cons_append, raw, if_neg (hq b (by simp)), ih (fun x hx => hq x (by simp [hx]))]
    congr 1; simp; omega
theorem rune_bytes {r : List UInt8} (h : one r = true) {o : UInt8} (ho : o.toNat < 128) (hne : r ≠ [o]) : ∀ b ∈ r, b ≠ o := by
  intro b hb e
  subst e
  obtain ⟨a, t, rfl, h1, h2, h3⟩ := Utf.one_shape h
  have hh : Utf.heads b.toNat = true := by
    have hk : ∀ n : Nat, n < 128 → Utf.heads n = true := by decide
    exact hk _ ho
  rcases List.mem_cons.1 hb with rfl | hb
  · have : Utf.len b.toNat = 1 := Utf.len_one.2 ho
    rw [this] at h2
    have h2' : 1 = t.length + 1 := h2
    have ht : t = [] := List.eq_nil_of_length_eq_zero (by omega)
    exact hne (by rw [ht])
  · rw [h3 b hb] at hh; cases hh
theorem mach_shut {o c : UInt8} (hoc : o ≠ c) (ho : o.toNat < 128) (hc : c.toNat < 128) : ∀ (rs : List (List UInt8)) (i : Nat) (l : List (Nat × Int)) (st : List Nat), (∀ r ∈ rs, one r = true) → (∀ k ∈ st, k < l.length) →
    mach o c rs i l st = shut o c rs.flatten i l st 1 ++ raw o c rs.flatten i
  | [], i, l, st, _, _ => by simp [mach, shut_nil, raw]
  | r :: rs, i, l, st, hr, hst => by
    have hr' : ∀ q ∈ rs, one q = true := fun q hq => hr q (by simp [hq])
    rw [mach_cons, List.flatten_cons]
    by_cases h1 : r = [o]
    · subst h1
      have hst2 : ∀ k ∈ l.length :: st, k < (l ++ [((i : Nat), (-1 : Int))]).length := by
        intro k hk
        rw [List.length_append, List.length_singleton]
        rcases List.mem_cons.1 hk with rfl | hk
        · omega
        · have := hst k hk; omega
      rw [if_pos rfl, mach_shut hoc ho hc rs _ _ _ hr' hst2]
      rw [shut, put_last, shut_snoc _ _ _ _ _ _ _ _ hst, List.singleton_append, raw, if_pos rfl, List.append_assoc, List.singleton_append]
      congr 1
      exact shut_same (n := 1) (m := 1) (fun d hd => by rw [oth, if_pos rfl]; rfl) l st 1 (Nat.le_refl _)
    · by_cases h2 : r = [c]
      · subst h2
        have hco : c ≠ o := fun e => hoc e.symm
        rw [if_neg h1, if_pos rfl]
        rw [List.singleton_append, raw, if_neg hco]
        cases st with
        | nil =>
          simp only []
          rw [mach_shut hoc ho hc rs _ _ _ hr' (by simp)]
          rfl
        | cons k st =>
          simp only []
          rw [mach_shut hoc ho hc rs _ _ _ hr' (by intro j hj; rw [List.length_modify]; exact hst j (by simp [hj]))]
          congr 1
          rw [shut, oth, if_neg hco, if_pos rfl, if_pos (Nat.le_refl _)]
          refine (shut_same (n := 1) (m := 1) (r := c :: rs.flatten) (i := i) (r' := rs.flatten) (i' := i + 1) (fun d hd => ?_) _ st 1 (Nat.le_refl _)).symm
          rw [oth, if_neg hco, if_pos rfl, if_neg (by omega)]
          rfl
      · rw [if_neg h1, if_neg h2, mach_shut hoc ho hc rs _ _ _ hr' hst]
        have ho1 := hr r (by simp)
        have b1 := rune_bytes ho1 ho h1
        have b2 := rune_bytes ho1 hc h2
        rw [raw_pass _ _ b1]
        congr 1
        exact (shut_same (n := 0) (m := 0) (fun d hd => oth_pass _ _ (fun b hb => ⟨b1 b hb, b2 b hb⟩) d i) l st 1 (Nat.zero_le _)).symm
/-- What the stack makes of a text's runes are its pairs. -/
theorem mach_all {s : List UInt8} {rs : List (List UInt8)} (hd : dec s = some rs) {o c : UInt8} (hk : clo [o] = some c) : keep (mach o c rs 0 [] []) = all s [o] := by
  obtain ⟨o', h, hoc, ho, hc⟩ := clo_facts hk
  injection h with h
  subst h
  obtain ⟨hr, hs⟩ := Utf.dec_some hd
  rw [mach_shut hoc ho hc rs 0 [] [] hr (by simp), shut, List.nil_append, keep_raw, all, hk, ← hs]
  simp only []
  rw [if_pos (by rw [valid, hd]; rfl)]
  rfl
theorem mach_length (o c : UInt8) : ∀ (rs : List (List UInt8)) (i : Nat) (l : List (Nat × Int)) (st : List Nat), (mach o c rs i l st).length ≤ l.length + rs.length
  | [], _, l, _ => Nat.le_refl _
  | r :: rs, i, l, st => by
    rw [mach_cons]
    split
    · have := mach_length o c rs (i + r.length) (l ++ [(i, -1)]) (l.length :: st)
      simp at this ⊢; omega
    · split
      · cases st with
        | nil => have := mach_length o c rs (i + r.length) l []; simp at this ⊢; omega
        | cons k st => have := mach_length o c rs (i + r.length) (l.modify k (fun x => (x.1, (i : Int)))) st; simp at this ⊢; omega
      · have := mach_length o c rs (i + r.length) l st; simp at this ⊢; omega
theorem all_no {s k : List UInt8} (h : clo k = none ∨ valid s = false) : all s k = [] := by
  rw [all]
  rcases h with h | h
  · rw [h]
  · split
    · rw [if_neg (by simp [h])]
    · rfl
theorem all_length (s k : List UInt8) : (all s k).length ≤ s.length := by
  rw [all]
  split
  · split
    · exact prs_length _ _ _ _
    · exact Nat.zero_le _
  · exact Nat.zero_le _
end Pair
end Go.Proofs.YtchpkeelnfmlbaaGreat
