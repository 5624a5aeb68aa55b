/-
  Brackets without a program: where what opens is closed, the pairs of a kind, what a stack makes of the runes, the other one, and the pair around a place.
-/
import Derived.Test.YtohdijhpoddbbaaLineCalls
import Derived.Test.YtohdijhpoddbbaaUtfIs
import Derived.Test.YtohdijhpoddbbaaSeek
import Derived.Lib.IndexAny
import Derived.Test.YtohdijhpoddbbaaKey
import Derived.Test.YtohdijhpoddbbaaShelf
import Derived.Test.YtohdijhpoddbbaaUtfCounts
import Derived.Lib.IndexBytes
import Derived.BigCall
import Derived.BigQuiet
import Derived.Deep.QuietTactic
import Derived.WalkSmall
import Derived.WalkMore
import Derived.Test.YtohdijhpoddbbaaPairs
import Derived.OneCell
import Derived.Deep.AppendLies
import Derived.Lib.SliceRun
import Derived.Test.YtohdijhpoddbbaaUtfValid
import Derived.RangeFuncNested
import Derived.RangeFuncBound
import Derived.RangeFuncCalls
import Derived.RangeFuncLeaves
import Derived.RangeFuncBox
import Derived.Shelf.Abstract
import Derived.Shelf.RegionOpen
import Derived.WalkKit
import Derived.OwnWalkIn
import Derived.TacticsInMore
import Derived.LoopNIn
import Derived.LoopIn
import Derived.BigRegionIn
import Derived.Test.YtohdijhpoddbbaaUtfPlaces
namespace Go.Proofs.Ytohdijhpoddbbaa
namespace Pair
open Utf (dec off one place valid)
open Line (L of_)

/-- What closes what opens. -/
def clo : List UInt8 → Option UInt8
  | [40] => some 41
  | [91] => some 93
  | [123] => some 125
  | [60] => some 62
  | _ => none
theorem clo_some {k : List UInt8} {c : UInt8} (h : clo k = some c) : ∃ o, k = [o] ∧ ((o = 40 ∧ c = 41) ∨ (o = 91 ∧ c = 93) ∨ (o = 123 ∧ c = 125) ∨ (o = 60 ∧ c = 62)) := by
  unfold clo at h
  split at h <;> first | (cases h; exact ⟨_, rfl, by decide⟩) | (exact absurd h (by simp))
theorem clo_facts {k : List UInt8} {c : UInt8} (h : clo k = some c) : ∃ o, k = [o] ∧ o ≠ c ∧ o.toNat < 128 ∧ c.toNat < 128 := by
  obtain ⟨o, hk, h1⟩ := clo_some h
  refine ⟨o, hk, ?_⟩
  rcases h1 with ⟨rfl, rfl⟩ | ⟨rfl, rfl⟩ | ⟨rfl, rfl⟩ | ⟨rfl, rfl⟩ <;> decide

/-- Where what is open, d deep, is closed by what comes from i on. -/
def oth (o c : UInt8) : List UInt8 → Nat → Nat → Option Nat
  | [], _, _ => none
  | b :: r, d, i => if b = o then oth o c r (d + 1) (i + 1) else if b = c then (if d ≤ 1 then some i else oth o c r (d - 1) (i + 1)) else oth o c r d (i + 1)
/-- The pairs of what comes from i on. -/
def prs (o c : UInt8) : List UInt8 → Nat → List (Nat × Nat)
  | [], _ => []
  | b :: r, i => if b = o then (match oth o c r 1 (i + 1) with | some q => (i, q) :: prs o c r (i + 1) | none => prs o c r (i + 1)) else prs o c r (i + 1)
/-- All pairs of a kind. -/
def all (s k : List UInt8) : List (Nat × Nat) := match clo k with | some c => if valid s then prs (k.headD 0) c s 0 else [] | none => []
/-- -1: it is not closed. -/
def num : Option Nat → Int
  | some q => q
  | none => -1
/-- All that open, with where they are closed. -/
def raw (o c : UInt8) : List UInt8 → Nat → List (Nat × Int)
  | [], _ => []
  | b :: r, i => if b = o then (i, num (oth o c r 1 (i + 1))) :: raw o c r (i + 1) else raw o c r (i + 1)
/-- Those that are closed. -/
def keep : List (Nat × Int) → List (Nat × Nat)
  | [] => []
  | x :: l => if x.2 < 0 then keep l else (x.1, x.2.toNat) :: keep l
theorem keep_raw (o c : UInt8) (r : List UInt8) (i : Nat) : keep (raw o c r i) = prs o c r i := by
  induction r generalizing i with
  | nil => rfl
  | cons b r ih =>
    rw [raw, prs]
    split
    · cases h : oth o c r 1 (i + 1) with
      | none => exact (if_pos (by show (-1 : Int) < 0; decide)).trans (ih _)
      | some q => exact (if_neg (by show ¬ (q : Int) < 0; omega)).trans (congrArg _ (ih _))
    · exact ih _
theorem keep_length (l : List (Nat × Int)) : (keep l).length ≤ l.length := by
  induction l with
  | nil => exact Nat.le_refl _
  | cons x l ih => rw [keep]; split <;> simp only [List.length_cons] <;> omega
theorem raw_length (o c : UInt8) (r : List UInt8) (i : Nat) : (raw o c r i).length ≤ r.length := by
  induction r generalizing i with
  | nil => exact Nat.le_refl _
  | cons b r ih => have := ih (i + 1); rw [raw]; split <;> simp only [List.length_cons] <;> omega
theorem prs_length (o c : UInt8) (r : List UInt8) (i : Nat) : (prs o c r i).length ≤ r.length := by
  rw [← keep_raw]; exact Nat.le_trans (keep_length _) (raw_length _ _ _ _)

/-! What the stack makes. -/
/-- What opens is put on the stack, what closes takes the last one. -/
def mach (o c : UInt8) : List (List UInt8) → Nat → List (Nat × Int) → List Nat → List (Nat × Int)
  | [], _, l, _ => l
  | r :: rs, i, l, st =>
    if r = [o] then mach o c rs (i + r.length) (l ++ [(i, -1)]) (l.length :: st)
    else if r = [c] then (match st with | [] => mach o c rs (i + r.length) l [] | k :: st => mach o c rs (i + r.length) (l.modify k (fun x => (x.1, (i : Int)))) st)
    else mach o c rs (i + r.length) l st
theorem modify_left {α : Type} (f : α → α) (m : List α) : ∀ (l : List α) (k : Nat), k < l.length → (l ++ m).modify k f = l.modify k f ++ m
  | [], _, h => absurd h (Nat.not_lt_zero _)
  | _ :: _, 0, _ => rfl
  | x :: l, k + 1, h => by
    rw [List.cons_append, List.modify_succ_cons, List.modify_succ_cons, List.cons_append, modify_left f m l k (by simpa using h)]
theorem modify_last {α : Type} (f : α → α) (y : α) : ∀ l : List α, (l ++ [y]).modify l.length f = l ++ [f y]
  | [] => rfl
  | x :: l => by
    rw [List.cons_append, List.length_cons, List.modify_succ_cons, List.cons_append, modify_last f y l]
theorem mach_cons (o c : UInt8) (r : List UInt8) (rs : List (List UInt8)) (i : Nat) (l : List (Nat × Int)) (st : List Nat) : mach o c (r :: rs) i l st =
    if r = [o] then mach o c rs (i + r.length) (l ++ [(i, -1)]) (l.length :: st)
    else if r = [c] then (match st with | [] => mach o c rs (i + r.length) l [] | k :: st => mach o c rs (i + r.length) (l.modify k (fun x => (x.1, (i : Int)))) st)
    else mach o c rs (i + r.length) l st := by
  cases st <;> rfl
/-- One that is closed, or is not. -/
def put (l : List (Nat × Int)) (k : Nat) : Option Nat → List (Nat × Int)
  | some q => l.modify k (fun x => (x.1, (q : Int)))
  | none => l
theorem put_length (l : List (Nat × Int)) (k : Nat) (v : Option Nat) : (put l k v).length = l.length := by
  cases v <;> simp [put]
theorem put_snoc (l : List (Nat × Int)) (y : Nat × Int) {k : Nat} (h : k < l.length) (v : Option Nat) : put (l ++ [y]) k v = put l k v ++ [y] := by
  cases v with
  | none => rfl
  | some q => exact modify_left _ _ _ _ h
theorem put_last (l : List (Nat × Int)) (i : Nat) (v : Option Nat) : put (l ++ [(i, -1)]) l.length v = l ++ [(i, num v)] := by
  cases v with
  | none => rfl
  | some q => exact modify_last _ _ _
/-- What becomes of those that are open. -/
def shut (o c : UInt8) (r : List UInt8) (i : Nat) : List (Nat × Int) → List Nat → Nat → List (Nat × Int)
  | l, [], _ => l
  | l, k :: st, d => shut o c r i (put l k (oth o c r d i)) st (d + 1)
theorem shut_nil (o c : UInt8) (i : Nat) : ∀ (l : List (Nat × Int)) (st : List Nat) (d : Nat), shut o c [] i l st d = l
  | _, [], _ => rfl
  | l, k :: st, d => by rw [shut, oth, put]; exact shut_nil o c i l st (d + 1)
theorem shut_snoc (o c : UInt8) (r : List UInt8) (i : Nat) (y : Nat × Int) : ∀ (l : List (Nat × Int)) (st : List Nat) (d : Nat), (∀ k ∈ st, k < l.length) → shut o c r i (l ++ [y]) st d = shut o c r i l st d ++ [y]
  | l, [], d, _ => rfl
  | l, k :: st, d, h => by
    rw [shut, shut, put_snoc l y (h k (by simp))]
    exact shut_snoc o c r i y _ st (d + 1) (fun j hj => by rw [put_length]; exact h j (by simp [hj]))
theorem shut_same {o c : UInt8} {r r' : List UInt8} {i i' : Nat} {n m : Nat} (h : ∀ d, n ≤ d → oth o c r (d + m) i = oth o c r' d i') : ∀ (l : List (Nat × Int)) (st : List Nat) (d : Nat), n ≤ d → shut o c r i l st (d + m) = shut o c r' i' l st d
  | l, [], d, _ => rfl
  | l, k :: st, d, hd => by
    rw [shut, shut, h d hd, show d + m + 1 = d + 1 + m by omega]
    exact shut_same h _ st (d + 1) (by omega)
/-- A rune that is none of the two is passed by. -/
theorem oth_pass {o c : UInt8} (q t : List UInt8) (hq : ∀ b ∈ q, b ≠ o ∧ b ≠ c) (d i : Nat) : oth o c (q ++ t) d i = oth o c t d (i + q.length) := by
  induction q generalizing i with
  | nil => rfl
  | cons b q ih =>
    have h1 := hq b (by simp)
    rw [List.cons_append, oth, if_neg h1.1, if_neg h1.2, ih (fun x hx => hq x (by simp [hx]))]
    congr 1; simp; omega
theorem raw_pass {o c : UInt8} (q t : List UInt8) (hq : ∀ b ∈ q, b ≠ o) (i : Nat) : raw o c (q ++ t) i = raw o c t (i + q.length) := by
  induction q generalizing i with
  | nil => rfl
  | cons b q ih =>
    rw [List.cons_append, raw, if_neg (hq b (by simp)), ih (fun x hx => hq x (by simp [hx]))]
    congr 1; simp; omega
theorem rune_bytes {r : List UInt8} (h : one r = true) {o : UInt8} (ho : o.toNat < 128) (hne : r ≠ [o]) : ∀ b ∈ r, b ≠ o := by
  intro b hb e
  subst e
  obtain ⟨a, t, rfl, h1, h2, h3⟩ := Utf.one_shape h
  have hh : Utf.heads b.toNat = true := by
    have hk : ∀ n : Nat, n < 128 → Utf.heads n = true := by decide
    exact hk _ ho
  rcases List.mem_cons.1 hb with rfl | hb
  · have : Utf.len b.toNat = 1 := Utf.len_one.2 ho
    rw [this] at h2
    have h2' : 1 = t.length + 1 := h2
    have ht : t = [] := List.eq_nil_of_length_eq_zero (by omega)
    exact hne (by rw [ht])
  · rw [h3 b hb] at hh; cases hh
theorem mach_shut {o c : UInt8} (hoc : o ≠ c) (ho : o.toNat < 128) (hc : c.toNat < 128) : ∀ (rs : List (List UInt8)) (i : Nat) (l : List (Nat × Int)) (st : List Nat), (∀ r ∈ rs, one r = true) → (∀ k ∈ st, k < l.length) →
    mach o c rs i l st = shut o c rs.flatten i l st 1 ++ raw o c rs.flatten i
  | [], i, l, st, _, _ => by simp [mach, shut_nil, raw]
  | r :: rs, i, l, st, hr, hst => by
    have hr' : ∀ q ∈ rs, one q = true := fun q hq => hr q (by simp [hq])
    rw [mach_cons, List.flatten_cons]
    by_cases h1 : r = [o]
    · subst h1
      have hst2 : ∀ k ∈ l.length :: st, k < (l ++ [((i : Nat), (-1 : Int))]).length := by
        intro k hk
        rw [List.length_append, List.length_singleton]
        rcases List.mem_cons.1 hk with rfl | hk
        · omega
        · have := hst k hk; omega
      rw [if_pos rfl, mach_shut hoc ho hc rs _ _ _ hr' hst2]
      rw [shut, put_last, shut_snoc _ _ _ _ _ _ _ _ hst, List.singleton_append, raw, if_pos rfl, List.append_assoc, List.singleton_append]
      congr 1
      exact shut_same (n := 1) (m := 1) (fun d hd => by rw [oth, if_pos rfl]; rfl) l st 1 (Nat.le_refl _)
    · by_cases h2 : r = [c]
      · subst h2
        have hco : c ≠ o := fun e => hoc e.symm
        rw [if_neg h1, if_pos rfl]
        rw [List.singleton_append, raw, if_neg hco]
        cases st with
        | nil =>
          simp only []
          rw [mach_shut hoc ho hc rs _ _ _ hr' (by simp)]
          rfl
        | cons k st =>
          simp only []
          rw [mach_shut hoc ho hc rs _ _ _ hr' (by intro j hj; rw [List.length_modify]; exact hst j (by simp [hj]))]
          congr 1
          rw [shut, oth, if_neg hco, if_pos rfl, if_pos (Nat.le_refl _)]
          refine (shut_same (n := 1) (m := 1) (r := c :: rs.flatten) (i := i) (r' := rs.flatten) (i' := i + 1) (fun d hd => ?_) _ st 1 (Nat.le_refl _)).symm
          rw [oth, if_neg hco, if_pos rfl, if_neg (by omega)]
          rfl
      · rw [if_neg h1, if_neg h2, mach_shut hoc ho hc rs _ _ _ hr' hst]
        have ho1 := hr r (by simp)
        have b1 := rune_bytes ho1 ho h1
        have b2 := rune_bytes ho1 hc h2
        rw [raw_pass _ _ b1]
        congr 1
        exact (shut_same (n := 0) (m := 0) (fun d hd => oth_pass _ _ (fun b hb => ⟨b1 b hb, b2 b hb⟩) d i) l st 1 (Nat.zero_le _)).symm
/-- What the stack makes of a text's runes are its pairs. -/
theorem mach_all {s : List UInt8} {rs : List (List UInt8)} (hd : dec s = some rs) {o c : UInt8} (hk : clo [o] = some c) : keep (mach o c rs 0 [] []) = all s [o] := by
  obtain ⟨o', h, hoc, ho, hc⟩ := clo_facts hk
  injection h with h
  subst h
  obtain ⟨hr, hs⟩ := Utf.dec_some hd
  rw [mach_shut hoc ho hc rs 0 [] [] hr (by simp), shut, List.nil_append, keep_raw, all, hk, ← hs]
  simp only []
  rw [if_pos (by rw [valid, hd]; rfl)]
  rfl
theorem mach_length (o c : UInt8) : ∀ (rs : List (List UInt8)) (i : Nat) (l : List (Nat × Int)) (st : List Nat), (mach o c rs i l st).length ≤ l.length + rs.length
  | [], _, l, _ => Nat.le_refl _
  | r :: rs, i, l, st => by
    rw [mach_cons]
    split
    · have := mach_length o c rs (i + r.length) (l ++ [(i, -1)]) (l.length :: st)
      simp at this ⊢; omega
    · split
      · cases st with
        | nil => have := mach_length o c rs (i + r.length) l []; simp at this ⊢; omega
        | cons k st => have := mach_length o c rs (i + r.length) (l.modify k (fun x => (x.1, (i : Int)))) st; simp at this ⊢; omega
      · have := mach_length o c rs (i + r.length) l st; simp at this ⊢; omega
theorem all_no {s k : List UInt8} (h : clo k = none ∨ valid s = false) : all s k = [] := by
  rw [all]
  rcases h with h | h
  · rw [h]
  · split
    · rw [if_neg (by simp [h])]
    · rfl
theorem all_length (s k : List UInt8) : (all s k).length ≤ s.length := by
  rw [all]
  split
  · split
    · exact prs_length _ _ _ _
    · exact Nat.zero_le _
  · exact Nat.zero_le _
end Pair
end Go.Proofs.Ytohdijhpoddbbaa
/-
  Kinds of brackets: what closes what opens, and the other way, on both sides; the document's place where one is closed.
-/
namespace Go.Proofs.Ytohdijhpoddbbaa
open Go.RowKit
namespace Pair
theorem test (k : ByteArray) (m : UInt8) : (k.toList == [m]) = decide (k.data.toList = [m]) := by
  have e : k.toList = k.data.toList := bs_tl k.data.toList
  rw [e, Bool.eq_iff_iff]
  simp
/-- The text of what closes; none, if that is no kind. -/
def cloL (l : List UInt8) : List UInt8 := match clo l with | some c => [c] | none => []
/-- Its byte; 0, if that is no kind. -/
def cloB (l : List UInt8) : UInt8 := (clo l).getD 0
theorem clo_not {l : List UInt8} (h1 : l ≠ [40]) (h2 : l ≠ [91]) (h3 : l ≠ [123]) (h4 : l ≠ [60]) : clo l = none := by
  unfold clo
  split
  · exact absurd rfl h1
  · exact absurd rfl h2
  · exact absurd rfl h3
  · exact absurd rfl h4
  · rfl
/-- The kind of a bracket. -/
def opn : UInt8 → UInt8
  | 41 => 40
  | 93 => 91
  | 125 => 123
  | b => b
theorem opn_not {b : UInt8} (h1 : b ≠ 41) (h2 : b ≠ 93) (h3 : b ≠ 125) : opn b = b := by
  unfold opn
  split
  · exact absurd rfl h1
  · exact absurd rfl h2
  · exact absurd rfl h3
  · rfl
end Pair
open Pair
theorem pair_closer (k : ByteArray) (w : World) :
    Calls Try.prog 84 #[.string k] w fun e w' => e = .returned (.string (bs (cloL k.data.toList))) ∧ w = w' := by
  by_cases h40 : k.data.toList = [40]
  · have g40 := (test k 40).trans (decide_eq_true h40)
    have H : Hid (cloL k.data.toList = [41]) := by show _ = _; rw [h40]; rfl
    clear h40
    go_enter Try.func84, Try.ntmps84
    go_wp2
    go_ret
    exact ⟨by rw [H.out]; rfl, rfl⟩
  have g40 := (test k 40).trans (decide_eq_false h40)
  by_cases h91 : k.data.toList = [91]
  · have g91 := (test k 91).trans (decide_eq_true h91)
    have H : Hid (cloL k.data.toList = [93]) := by show _ = _; rw [h91]; rfl
    clear h91
    go_enter Try.func84, Try.ntmps84
    go_wp2
    go_ret
    exact ⟨by rw [H.out]; rfl, rfl⟩
  have g91 := (test k 91).trans (decide_eq_false h91)
  by_cases h123 : k.data.toList = [123]
  · have g123 := (test k 123).trans (decide_eq_true h123)
    have H : Hid (cloL k.data.toList = [125]) := by show _ = _; rw [h123]; rfl
    clear h123
    go_enter Try.func84, Try.ntmps84
    go_wp2
    go_ret
    exact ⟨by rw [H.out]; rfl, rfl⟩
  have g123 := (test k 123).trans (decide_eq_false h123)
  by_cases h60 : k.data.toList = [60]
  · have g60 := (test k 60).trans (decide_eq_true h60)
    have H : Hid (cloL k.data.toList = [62]) := by show _ = _; rw [h60]; rfl
    clear h60
    go_enter Try.func84, Try.ntmps84
    go_wp2
    go_ret
    exact ⟨by rw [H.out]; rfl, rfl⟩
  have g60 := (test k 60).trans (decide_eq_false h60)
  have H : Hid (cloL k.data.toList = []) := by show _ = _; rw [cloL, clo_not h40 h91 h123 h60]
  clear h40 h91 h123 h60
  go_enter Try.func84, Try.ntmps84
  go_wp2
  go_ret
  exact ⟨by rw [H.out]; rfl, rfl⟩
theorem ref17_closer (k : ByteArray) (w : World) :
    Calls Try.prog 57 #[.string k] w fun e w' => e = .returned (.int .u8 ((cloB k.data.toList).toNat : Nat)) ∧ w = w' := by
  by_cases h40 : k.data.toList = [40]
  · have g40 := (test k 40).trans (decide_eq_true h40)
    have H : Hid (cloB k.data.toList = 41) := by show _ = _; rw [h40]; rfl
    clear h40
    go_enter Try.func57, Try.ntmps57
    go_wp2
    go_ret
    exact ⟨by rw [H.out]; rfl, rfl⟩
  have g40 := (test k 40).trans (decide_eq_false h40)
  by_cases h91 : k.data.toList = [91]
  · have g91 := (test k 91).trans (decide_eq_true h91)
    have H : Hid (cloB k.data.toList = 93) := by show _ = _; rw [h91]; rfl
    clear h91
    go_enter Try.func57, Try.ntmps57
    go_wp2
    go_ret
    exact ⟨by rw [H.out]; rfl, rfl⟩
  have g91 := (test k 91).trans (decide_eq_false h91)
  by_cases h123 : k.data.toList = [123]
  · have g123 := (test k 123).trans (decide_eq_true h123)
    have H : Hid (cloB k.data.toList = 125) := by show _ = _; rw [h123]; rfl
    clear h123
    go_enter Try.func57, Try.ntmps57
    go_wp2
    go_ret
    exact ⟨by rw [H.out]; rfl, rfl⟩
  have g123 := (test k 123).trans (decide_eq_false h123)
  by_cases h60 : k.data.toList = [60]
  · have g60 := (test k 60).trans (decide_eq_true h60)
    have H : Hid (cloB k.data.toList = 62) := by show _ = _; rw [h60]; rfl
    clear h60
    go_enter Try.func57, Try.ntmps57
    go_wp2
    go_ret
    exact ⟨by rw [H.out]; rfl, rfl⟩
  have g60 := (test k 60).trans (decide_eq_false h60)
  have H : Hid (cloB k.data.toList = 0) := by show _ = _; rw [cloB, clo_not h40 h91 h123 h60]; rfl
  clear h40 h91 h123 h60
  go_enter Try.func57, Try.ntmps57
  go_wp2
  go_ret
  exact ⟨by rw [H.out]; rfl, rfl⟩
set_option maxHeartbeats 1000000 in
theorem ref17_other (s : ByteArray) (p : Nat) (o c : UInt8) (hoc : o ≠ c) (hp : s.data.toList[p]? = some o) (hs : s.size ≤ 1000000) (w : World) :
    Calls Try.prog 58 #[.string s, .int .i64 (p : Nat), .int .u8 (o.toNat : Nat), .int .u8 (c.toNat : Nat)] w fun e w' => e = .returned (.int .i64 (num (oth o c (s.data.toList.drop (p + 1)) 1 (p + 1)))) ∧ w = w' := by
  have hl := data_len s
  have hpl := (List.getElem?_eq_some_iff.1 hp).1
  rw [hl] at hpl
  have HP := Lib.hid hp
  have hne : ((o.toNat : Int) == (c.toNat : Int)) = false := beq_eq_false_iff_ne.2 (fun e => hoc (UInt8.toNat_inj.1 (by omega)))
  have HOC := Lib.hid hoc
  clear hp hoc
  go_enter Try.func58, Try.ntmps58
  go_wp2
  go_loopw [9, 10] (fun dv iv wr => ∃ d i : Nat, dv = .int .i64 d ∧ iv = .int .i64 i ∧ i ≤ s.size ∧ d ≤ i ∧ wr = w ∧ ((i = p ∧ d = 0) ∨ (p < i ∧ 1 ≤ d ∧ Hid (oth o c (s.data.toList.drop (p + 1)) 1 (p + 1) = oth o c (s.data.toList.drop i) d i)))) (fun _ iv _ => s.size - (intOf iv).toNat)
  case atStart => exact ⟨0, p, rfl, rfl, by omega, by omega, rfl, .inl ⟨rfl, rfl⟩⟩
  case round =>
    obtain ⟨d, i, rfl, rfl, hi, hdi, rfl, ⟨rfl, rfl⟩ | ⟨hpi, hd, HO⟩⟩ := hrel
    · have hg := HP.out
      obtain ⟨b, hb⟩ : ∃ b, s[i]'hpl = b := ⟨_, rfl⟩
      have hg2 := byte_get s hpl
      rw [hg2] at hg
      injection hg with hg
      have hbo : s[i]'hpl = o := hg
      clear hg hg2 hb
      have g1 : (((s[i]'hpl).toNat : Int) == (o.toNat : Int)) = true := by rw [hbo]; simp
      have g2 : (((s[i]'hpl).toNat : Int) == (c.toNat : Int)) = false := by rw [hbo]; exact hne
      clear hbo
      go_wp2
      go_roundw
      case rel => exact ⟨1, i + 1, rfl, by go_num, by omega, by omega, by trivial, .inr ⟨by omega, Nat.le_refl _, rfl⟩⟩
      case measure => simp [intOf]; omega
    · by_cases hlt : i < s.size
      · have hg := byte_get s hlt
        have hdr : s.data.toList.drop i = s[i] :: s.data.toList.drop (i + 1) := by
          rw [List.drop_eq_getElem_cons (by rw [hl]; exact hlt)]
          congr 1
        have H2 : Hid (oth o c (s.data.toList.drop (p + 1)) 1 (p + 1) = (if s[i] = o then oth o c (s.data.toList.drop (i + 1)) (d + 1) (i + 1) else if s[i] = c then (if d ≤ 1 then some i else oth o c (s.data.toList.drop (i + 1)) (d - 1) (i + 1)) else oth o c (s.data.toList.drop (i + 1)) d (i + 1))) := by
          show _ = _
          rw [HO.out, hdr, oth]
        clear hdr hg HO
        by_cases ho : s[i] = o
        · have g1 : ((s[i].toNat : Int) == (o.toNat : Int)) = true := by rw [ho]; simp
          have g2 : ((s[i].toNat : Int) == (c.toNat : Int)) = false := by rw [ho]; exact hne
          have g3 : (((d : Int) + 1) == 0) = false := beq_eq_false_iff_ne.2 (by omega)
          have H3 := H2.out
          rw [if_pos ho] at H3
          have H4 := Lib.hid H3
          clear ho H2 H3
          go_wp2
          go_roundw
          case rel => exact ⟨d + 1, i + 1, by go_num, by go_num, by omega, by omega, by trivial, .inr ⟨by omega, by omega, H4⟩⟩
          case measure => simp [intOf]; omega
        · have g1 : ((s[i].toNat : Int) == (o.toNat : Int)) = false := beq_eq_false_iff_ne.2 (fun e => ho (UInt8.toNat_inj.1 (by omega)))
          have H3 := H2.out
          rw [if_neg ho] at H3
          by_cases hc : s[i] = c
          · have g2 : ((s[i].toNat : Int) == (c.toNat : Int)) = true := by rw [hc]; simp
            rw [if_pos hc] at H3
            by_cases h1 : d ≤ 1
            · obtain rfl : d = 1 := by omega
              rw [if_pos h1] at H3
              have H4 := Lib.hid H3
              clear ho hc H2 H3
              go_wp2
              go_ret
              exact ⟨by rw [H4.out]; rfl, rfl⟩
            · obtain ⟨m, rfl⟩ : ∃ m, d = m + 1 := ⟨d - 1, by omega⟩
              rw [if_neg h1, Nat.add_sub_cancel] at H3
              have g3 : ((m : Int) == 0) = false := beq_eq_false_iff_ne.2 (by omega)
              have g4 : IntKind.i64.wrap (m : Int) = (m : Int) := by rw [IntKind.wrap_i64]; omega
              have H4 := Lib.hid H3
              clear ho hc H2 H3
              go_wp2
              go_roundw
              case rel => exact ⟨m, i + 1, by go_num, by go_num, by omega, by omega, by trivial, .inr ⟨by omega, by omega, H4⟩⟩
              case measure => simp [intOf]; omega
          · have g2 : ((s[i].toNat : Int) == (c.toNat : Int)) = false := beq_eq_false_iff_ne.2 (fun e => hc (UInt8.toNat_inj.1 (by omega)))
            have g3 : ((d : Int) == 0) = false := beq_eq_false_iff_ne.2 (by omega)
            rw [if_neg hc] at H3
            have H4 := Lib.hid H3
            clear ho hc H2 H3
            go_wp2
            go_roundw
            case rel => exact ⟨d, i + 1, rfl, by go_num, by omega, by omega, by trivial, .inr ⟨by omega, hd, H4⟩⟩
            case measure => simp [intOf]; omega
      · obtain rfl : i = s.size := by omega
        have H2 : Hid (oth o c (s.data.toList.drop (p + 1)) 1 (p + 1) = none) := by
          show _ = _
          rw [HO.out, List.drop_eq_nil_of_le (by rw [hl]; exact Nat.le_refl _), oth]
        clear HO
        go_wp2
        go_ret
        exact ⟨by rw [H2.out]; rfl, rfl⟩
end Go.Proofs.Ytohdijhpoddbbaa
/-
  strings.IndexAny at brackets, in whatever valid text.
-/
namespace Go.Proofs.Ytohdijhpoddbbaa
open Go.RowKit
namespace Pair
/-- The six. -/
def brk : List UInt8 := [40, 41, 91, 93, 123, 125]
abbrev brkS : ByteArray := { data := #[40, 41, 91, 93, 123, 125] }
theorem brk_small : ∀ (j : Nat) b, brkS.data.toList[j]? = some b → b.toNat < 128 := by
  intro j b h
  have h1 : b ∈ brk := List.mem_of_getElem? h
  clear h
  revert b
  decide
theorem no_big {q : List UInt8} (h : Utf.one q = true) (h2 : 2 ≤ q.length) : ∀ b ∈ q, 128 ≤ b.toNat := by
  intro b hb
  refine Nat.le_of_not_lt fun hlt => ?_
  refine rune_bytes h hlt (o := b) ?_ b hb rfl
  intro e
  rw [e] at h2
  simp at h2
theorem no_brk {b : UInt8} (h : 128 ≤ b.toNat) : brk.contains b = false := by
  rw [List.contains_eq_any_beq, List.any_eq_false]
  intro x hx e
  have e1 : b = x := by simpa using e
  subst e1
  have : ∀ y ∈ brk, y.toNat < 128 := by decide
  have := this _ hx
  omega
end Pair
open Pair
theorem byte_absent {l : List UInt8} {y : UInt8} (hl : ∀ b ∈ l, b.toNat < 128) (hy : 128 ≤ y.toNat) : Lib.indexByte l y = -1 := by
  refine Classical.byContradiction fun hne => ?_
  have hge := Lib.indexByte_ge l y
  obtain ⟨o, ho⟩ : ∃ o : Nat, Lib.indexByte l y = o := ⟨(Lib.indexByte l y).toNat, by omega⟩
  have h1 := (Lib.indexByte_some ho).1
  have := hl y (List.mem_of_getElem? h1)
  omega
theorem Pair.noAny_rune {s : List UInt8} {rs : List (List UInt8)} (hd : Utf.dec s = some rs) {j : Nat} {q : List UInt8} (hq : rs[j]? = some q) (h : Lib.NoAny s brk (Utf.off rs j)) (hn : ∀ b ∈ q, brk.contains b = false) : Lib.NoAny s brk (Utf.off rs (j + 1)) := by
  intro i b hi hb
  by_cases hlt : i < Utf.off rs j
  · exact h i b hlt hb
  · have ho := Utf.off_next hq
    refine hn b ?_
    have hp := Utf.off_piece hq
    rw [← (Utf.dec_some hd).2] at hp
    rw [← hp]
    refine List.mem_of_getElem? (i := i - Utf.off rs j) ?_
    rw [List.getElem?_drop, List.getElem?_take_of_lt (by omega), show Utf.off rs j + (i - Utf.off rs j) = i by omega]
    exact hb
end Go.Proofs.Ytohdijhpoddbbaa
/-
  Pairs without a program: how they lie, the other bracket, the pair around a place.
-/
namespace Go.Proofs.Ytohdijhpoddbbaa
namespace Pair
open Utf (dec off one place valid)
open Line (L of_)

/-- The other one of a place, in a list of pairs. -/
def lk : List (Nat × Nat) → Nat → Option Nat
  | [], _ => none
  | x :: l, q => if q = x.1 then some x.2 else if q = x.2 then some x.1 else lk l q
/-- The other one of a bracket. -/
def at_ (s : List UInt8) (q : Nat) : Option Nat := lk (all s [opn (s[q]?.getD 0)]) q
/-- What is left of its line, from a place on. -/
def part (s : List UInt8) (p : Nat) : List UInt8 := Line.seg s p (Line.stop s (of_ s (p : Int))).toNat
/-- Where Match leads. -/
def mt (s : List UInt8) (p : Int) : Option Nat := if place s p then (if Lib.indexAny (part s p.toNat) brk < 0 then none else at_ s (p + Lib.indexAny (part s p.toNat) brk).toNat) else none
/-- The last pair around a place. -/
def arnd : List (Nat × Nat) → Int → Option (Nat × Nat)
  | [], _ => none
  | x :: l, p => match arnd l p with | some y => some y | none => if (x.1 : Int) ≤ p ∧ p ≤ x.2 then some x else none
def ar (s k : List UInt8) (p : Int) : Option (Nat × Nat) := if place s p then arnd (all s k) p else none
/-- What is answered. -/
def resM : Option Nat → Value
  | some q => .tuple #[.int .i64 (q : Nat), .bool true]
  | none => .tuple #[.int .i64 0, .bool false]
def resA : Option (Nat × Nat) → Value
  | some x => .tuple #[.int .i64 (x.1 : Nat), .int .i64 (x.2 : Nat), .bool true]
  | none => .tuple #[.int .i64 0, .int .i64 0, .bool false]

/-! How pairs lie. -/
theorem oth_in {o c : UInt8} : ∀ {r : List UInt8} {d i q : Nat}, oth o c r d i = some q → i ≤ q ∧ q < i + r.length ∧ r[q - i]? = some c
  | [], _, _, _, h => by simp [oth] at h
  | b :: r, d, i, q, h => by
    have go : ∀ {e}, oth o c r e (i + 1) = some q → i ≤ q ∧ q < i + (b :: r).length ∧ (b :: r)[q - i]? = some c := fun h1 => by
      obtain ⟨h2, h3, h4⟩ := oth_in h1
      refine ⟨by omega, by simp; omega, ?_⟩
      rw [show q - i = q - (i + 1) + 1 by omega, List.getElem?_cons_succ]
      exact h4
    rw [oth] at h
    split at h
    · exact go h
    · split at h
      · rename_i hb
        split at h
        · cases h
          subst hb
          exact ⟨Nat.le_refl _, by simp, by simp⟩
        · exact go h
      · exact go h
theorem oth_lt {o c : UInt8} : ∀ {r : List UInt8} {d e i p q : Nat}, 1 ≤ d → d < e → oth o c r d i = some p → oth o c r e i = some q → p < q
  | [], _, _, _, _, _, _, _, h, _ => by simp [oth] at h
  | b :: r, d, e, i, p, q, hd, hde, h, h' => by
    rw [oth] at h h'
    split at h
    · rename_i hb
      rw [if_pos hb] at h'
      exact oth_lt (by omega) (by omega) h h'
    · rename_i hb
      rw [if_neg hb] at h'
      split at h
      · rename_i hc
        rw [if_pos hc] at h'
        split at h
        · cases h
          split at h'
          · omega
          · have := (oth_in h').1; omega
        · rw [if_neg (show ¬ e ≤ 1 by omega)] at h'
          exact oth_lt (by omega) (by omega) h h'
      · rename_i hc
        rw [if_neg hc] at h'
        exact oth_lt hd hde h h'
theorem prs_in {o c : UInt8} : ∀ {r : List UInt8} {i : Nat} {x : Nat × Nat}, x ∈ prs o c r i → i ≤ x.1 ∧ x.1 < x.2 ∧ x.2 < i + r.length ∧ r[x.1 - i]? = some o ∧ r[x.2 - i]? = some c
  | [], _, _, h => by simp [prs] at h
  | b :: r, i, x, h => by
    have go : x ∈ prs o c r (i + 1) → i ≤ x.1 ∧ x.1 < x.2 ∧ x.2 < i + (b :: r).length ∧ (b :: r)[x.1 - i]? = some o ∧ (b :: r)[x.2 - i]? = some c := fun h1 => by
      obtain ⟨h2, h3, h4, h5, h6⟩ := prs_in h1
      refine ⟨by omega, h3, by simp; omega, ?_, ?_⟩
      · rw [show x.1 - i = x.1 - (i + 1) + 1 by omega, List.getElem?_cons_succ]; exact h5
      · rw [show x.2 - i = x.2 - (i + 1) + 1 by omega, List.getElem?_cons_succ]; exact h6
    rw [prs] at h
    split at h
    · rename_i hb
      split at h
      · rename_i q hq
        rcases List.mem_cons.1 h with rfl | h
        · obtain ⟨h2, h3, h4⟩ := oth_in hq
          refine ⟨Nat.le_refl _, by show i < q; omega, by simp; omega, by subst hb; simp, ?_⟩
          rw [show q - i = q - (i + 1) + 1 by omega, List.getElem?_cons_succ]
          exact h4
        · exact go h
      · exact go h
    · exact go h
theorem prs_oth {o c : UInt8} : ∀ {r : List UInt8} {d i q : Nat} {x : Nat × Nat}, 1 ≤ d → oth o c r d i = some q → x ∈ prs o c r i → x.2 < q ∨ q < x.1
  | [], _, _, _, _, _, h, _ => by simp [oth] at h
  | b :: r, d, i, q, x, hd, h, hx => by
    rw [oth] at h
    rw [prs] at hx
    split at h
    · rename_i hb
      rw [if_pos hb] at hx
      split at hx
      · rename_i q' hq'
        rcases List.mem_cons.1 hx with rfl | hx
        · exact .inl (oth_lt (Nat.le_refl _) (by omega) hq' h)
        · exact prs_oth (by omega) h hx
      · exact prs_oth (by omega) h hx
    · rename_i hb
      rw [if_neg hb] at hx
      split at h
      · split at h
        · cases h
          have := (prs_in hx).1
          exact .inr (by omega)
        · exact prs_oth (by omega) h hx
      · exact prs_oth hd h hx
/-- One ahead of another: about it, or ahead of all of it. -/
def Lie (y x : Nat × Nat) : Prop := y.1 < x.1 ∧ (x.2 < y.2 ∨ y.2 < x.1)
theorem prs_lie (o c : UInt8) : ∀ (r : List UInt8) (i : Nat), (prs o c r i).Pairwise Lie
  | [], _ => List.Pairwise.nil
  | b :: r, i => by
    rw [prs]
    split
    · split
      · rename_i q hq
        refine List.Pairwise.cons (fun x hx => ⟨?_, prs_oth (Nat.le_refl _) hq hx⟩) (prs_lie o c r (i + 1))
        have := (prs_in hx).1
        show i < x.1; omega
      · exact prs_lie o c r (i + 1)
    · exact prs_lie o c r (i + 1)
theorem all_eq {s : List UInt8} {o c : UInt8} (hk : clo [o] = some c) (hv : valid s = true) : all s [o] = prs o c s 0 := by
  rw [all, hk]
  simp only []
  rw [if_pos hv]
  rfl
theorem all_mem {s k : List UInt8} {x : Nat × Nat} (h : x ∈ all s k) : ∃ o c, k = [o] ∧ clo k = some c ∧ valid s = true ∧ x.1 < x.2 ∧ x.2 < s.length ∧ s[x.1]? = some o ∧ s[x.2]? = some c := by
  cases hk : clo k with
  | none => rw [all_no (.inl hk)] at h; cases h
  | some c =>
    obtain ⟨o, rfl, _⟩ := clo_facts hk
    cases hv : valid s with
    | false => rw [all_no (.inr hv)] at h; cases h
    | true =>
      rw [all_eq hk hv] at h
      obtain ⟨_, h2, h3, h4, h5⟩ := prs_in h
      exact ⟨o, c, rfl, rfl, rfl, h2, by omega, by simpa using h4, by simpa using h5⟩
theorem all_lie (s k : List UInt8) : (all s k).Pairwise Lie := by
  rw [all]
  split
  · split
    · exact prs_lie _ _ _ _
    · exact List.Pairwise.nil
  · exact List.Pairwise.nil
theorem arnd_mem : ∀ {l : List (Nat × Nat)} {p : Int} {x : Nat × Nat}, arnd l p = some x → x ∈ l ∧ (x.1 : Int) ≤ p ∧ p ≤ x.2
  | [], _, _, h => by cases h
  | y :: l, p, x, h => by
    rw [arnd] at h
    split at h
    · rename_i z hz
      cases h
      obtain ⟨h1, h2⟩ := arnd_mem hz
      exact ⟨by simp [h1], h2⟩
    · split at h
      · rename_i hc
        cases h
        exact ⟨by simp, hc⟩
      · cases h
theorem arnd_least : ∀ {l : List (Nat × Nat)} {p : Int} {x : Nat × Nat}, l.Pairwise Lie → x ∈ l → (x.1 : Int) ≤ p → p ≤ x.2 → ∃ a, arnd l p = some a ∧ x.1 ≤ a.1 ∧ a.2 ≤ x.2
  | y :: l, p, x, hl, hx, h1, h2 => by
    rw [List.pairwise_cons] at hl
    rw [arnd]
    cases hz : arnd l p with
    | some z =>
      obtain ⟨m1, m2, m3⟩ := arnd_mem hz
      refine ⟨z, rfl, ?_⟩
      rcases List.mem_cons.1 hx with rfl | hx
      · obtain ⟨h3, h4⟩ := hl.1 z m1
        exact ⟨by omega, by omega⟩
      · obtain ⟨a, ha, h3⟩ := arnd_least hl.2 hx h1 h2
        rw [hz] at ha
        cases ha
        exact h3
    | none =>
      rcases List.mem_cons.1 hx with rfl | hx
      · exact ⟨x, if_pos ⟨h1, h2⟩, Nat.le_refl _, Nat.le_refl _⟩
      · obtain ⟨a, ha, _⟩ := arnd_least hl.2 hx h1 h2
        rw [hz] at ha
        cases ha
/-- No bracket is of two pairs. -/
def Uniq (l : List (Nat × Nat)) : Prop := ∀ x ∈ l, ∀ y ∈ l, (x.1 = y.1 → x = y) ∧ (x.2 = y.2 → x = y) ∧ x.1 ≠ y.2
theorem lie_cases : ∀ {l : List (Nat × Nat)}, l.Pairwise Lie → ∀ x ∈ l, ∀ y ∈ l, x = y ∨ Lie x y ∨ Lie y x
  | z :: l, h, x, hx, y, hy => by
    rw [List.pairwise_cons] at h
    have h1 := h.1
    have h2 := lie_cases h.2
    rcases List.mem_cons.1 hx with e | kx
    · rcases List.mem_cons.1 hy with f | ky
      · exact .inl (e.trans f.symm)
      · exact .inr (.inl (by rw [e]; exact h1 y ky))
    · rcases List.mem_cons.1 hy with f | ky
      · exact .inr (.inr (by rw [f]; exact h1 x kx))
      · exact h2 x kx y ky
theorem all_uniq (s k : List UInt8) : Uniq (all s k) := by
  intro x hx y hy
  obtain ⟨o, c, rfl, hk, _, h1, h2, h3, h4⟩ := all_mem hx
  obtain ⟨o', c', e, hk', _, g1, g2, g3, g4⟩ := all_mem hy
  injection e with e
  subst e
  rw [hk] at hk'
  injection hk' with e
  subst e
  obtain ⟨o', e, hoc, _, _⟩ := clo_facts hk
  injection e with e
  subst e
  have hc := lie_cases (all_lie s [o]) x hx y hy
  refine ⟨fun e => ?_, fun e => ?_, fun e => ?_⟩
  · rcases hc with h | ⟨h, _⟩ | ⟨h, _⟩
    · exact h
    · omega
    · omega
  · rcases hc with h | ⟨h, h'⟩ | ⟨h, h'⟩
    · exact h
    · omega
    · omega
  · rw [e, g4] at h3
    injection h3 with h3
    exact hoc h3.symm
theorem lk_mem : ∀ {l : List (Nat × Nat)} {q v : Nat}, lk l q = some v → (q, v) ∈ l ∨ (v, q) ∈ l
  | [], _, _, h => by cases h
  | x :: l, q, v, h => by
    rw [lk] at h
    split at h
    · rename_i e
      cases h; subst e
      exact .inl (by simp)
    · split at h
      · rename_i e
        cases h; subst e
        exact .inr (by simp)
      · rcases lk_mem h with h | h
        · exact .inl (by simp [h])
        · exact .inr (by simp [h])
theorem lk_at : ∀ {l : List (Nat × Nat)} {a b : Nat}, Uniq l → (a, b) ∈ l → lk l a = some b ∧ lk l b = some a
  | x :: l, a, b, hu, h => by
    have h1 := hu x (by simp) (a, b) h
    have h2 := hu (a, b) h x (by simp)
    rw [lk, lk]
    by_cases e : x = (a, b)
    · subst e
      refine ⟨if_pos rfl, ?_⟩
      rw [if_neg (fun e => h1.2.2 e.symm), if_pos rfl]
    · have n1 : ¬ a = x.1 := fun h => e (h1.1 h.symm)
      have n2 : ¬ a = x.2 := h2.2.2
      have n3 : ¬ b = x.1 := fun h => h1.2.2 h.symm
      have n4 : ¬ b = x.2 := fun h => e (h1.2.1 h.symm)
      rw [if_neg n1, if_neg n2, if_neg n3, if_neg n4]
      refine lk_at (fun y hy z hz => hu y (by simp [hy]) z (by simp [hz])) ?_
      rcases List.mem_cons.1 h with h | h
      · exact absurd h.symm e
      · exact h
/-- The first of a text that is one of the six. -/
theorem any_spec {l : List UInt8} (h : ¬ Lib.indexAny l brk < 0) : ∃ (i : Nat) (b : UInt8), Lib.indexAny l brk = i ∧ l[i]? = some b ∧ b ∈ brk := by
  induction l with
  | nil => rw [Lib.indexAny] at h; exact absurd (by decide) h
  | cons a l ih =>
    rw [Lib.indexAny] at h ⊢
    by_cases hc : brk.contains a
    · rw [if_pos hc]
      exact ⟨0, a, rfl, rfl, by simpa using hc⟩
    · rw [if_neg hc] at h ⊢
      by_cases he : Lib.indexAny l brk == -1
      · rw [if_pos he] at h; exact absurd (by decide) h
      · rw [if_neg he] at h ⊢
        have hge := Lib.indexAny_ge brk l
        have he' : Lib.indexAny l brk ≠ -1 := by simpa using he
        obtain ⟨i, b, h1, h2, h3⟩ := ih (by omega)
        exact ⟨i + 1, b, by rw [h1]; rfl, by simpa using h2, h3⟩
theorem brk_facts {b : UInt8} (h : b ∈ brk) : b.toNat < 128 ∧ b ≠ 10 ∧ ∃ c, clo [opn b] = some c ∧ (b = opn b ∨ b = c) ∧ opn c = opn b ∧ opn (opn b) = opn b := by
  have : b = 40 ∨ b = 41 ∨ b = 91 ∨ b = 93 ∨ b = 123 ∨ b = 125 := by simpa [brk] using h
  rcases this with rfl | rfl | rfl | rfl | rfl | rfl
  · exact ⟨by decide, by decide, 41, rfl, .inl rfl, rfl, rfl⟩
  · exact ⟨by decide, by decide, 41, rfl, .inr rfl, rfl, rfl⟩
  · exact ⟨by decide, by decide, 93, rfl, .inl rfl, rfl, rfl⟩
  · exact ⟨by decide, by decide, 93, rfl, .inr rfl, rfl, rfl⟩
  · exact ⟨by decide, by decide, 125, rfl, .inl rfl, rfl, rfl⟩
  · exact ⟨by decide, by decide, 125, rfl, .inr rfl, rfl, rfl⟩
/-- All of a place and the rest of its line. -/
theorem part_of {s : List UInt8} {p : Int} (hp : place s p = true) : ∃ (n e k : Nat) (rs : List (List UInt8)) (u v : Nat), p = n ∧ n ≤ e ∧ e ≤ s.length ∧ of_ s p = k ∧ Line.stop s (k : Int) = e ∧ part s n = Line.seg s n e ∧ dec s = some rs ∧ off rs u = n ∧ off rs v = e ∧ ∀ i, n ≤ i → i < e → s[i]? ≠ some 10 := by
  obtain ⟨n, k, x, rfl, hk, h1, h2, h3, e1, e2, e3⟩ := Line.place_line hp
  obtain ⟨rs, i, m, j, hd, hi, hm, hj, f1, f2, f3, _, _⟩ := Line.place_runes hk hp h1 h2
  rw [e1] at e3
  have hw := (Line.L_whole (Line.L_valid hk)).each k x hk
  exact ⟨n, x.2, k, rs, m, j, rfl, h2, h3, e1, e3, by rw [part, e1, e3]; rfl, hd, f2, f3, fun i h5 h6 => hw.2.2.2 i (by omega) h6⟩
theorem seg_get {s : List UInt8} {a b i : Nat} (h : a + i < b) : (Line.seg s a b)[i]? = s[a + i]? := by
  rw [Line.seg, List.getElem?_drop, List.getElem?_take_of_lt h]
theorem seg_length {s : List UInt8} {a b : Nat} (h : b ≤ s.length) : (Line.seg s a b).length = b - a := by
  rw [Line.seg, List.length_drop, List.length_take]; omega
/-- Where Match begins to look up. -/
theorem mt_some {s : List UInt8} {p : Int} {q : Nat} (h : mt s p = some q) : ∃ (n b : Nat) (y : UInt8), p = n ∧ n ≤ b ∧ s[b]? = some y ∧ y ∈ brk ∧ at_ s b = some q ∧ valid s = true := by
  rw [mt] at h
  split at h
  · rename_i hp
    split at h
    · cases h
    · rename_i hn
      obtain ⟨n, e, k, rs, u, v, rfl, h1, h2, h3, h4, h5, h6, _⟩ := part_of hp
      rw [Int.toNat_natCast] at h hn
      obtain ⟨i, y, g1, g2, g3⟩ := any_spec hn
      rw [g1, ← Int.natCast_add, Int.toNat_natCast] at h
      have hl := (List.getElem?_eq_some_iff.1 g2).1
      rw [h5, seg_length h2] at hl
      rw [h5, seg_get (by omega)] at g2
      exact ⟨n, n + i, y, rfl, by omega, g2, g3, h, by rw [valid, h6]; rfl⟩
  · cases h
/-- At a bracket it is looked up at once. -/
theorem mt_at {s : List UInt8} {q : Nat} {y : UInt8} (hv : valid s = true) (hy : s[q]? = some y) (hb : y ∈ brk) : mt s (q : Int) = at_ s q := by
  obtain ⟨h128, h10, _⟩ := brk_facts hb
  obtain ⟨rs, hd⟩ := Utf.valid_of hv
  have hq := (List.getElem?_eq_some_iff.1 hy).1
  have hpl : place s (q : Int) = true := by
    have hpre : [y] <+: s.drop q := by
      rw [List.drop_eq_getElem_cons hq, (List.getElem?_eq_some_iff.1 hy).2]
      exact ⟨s.drop (q + 1), rfl⟩
    obtain ⟨i, hi, he⟩ := (Seek.pre_iff hd ((Utf.one1 y).2 h128) q).1 hpre
    rw [← he]
    exact Utf.place_at hd (Nat.le_of_lt (List.getElem?_eq_some_iff.1 hi).1)
  obtain ⟨n, k, x, e0, hk, h1, h2, h3, e1, e2, e3⟩ := Line.place_line hpl
  obtain rfl : n = q := by omega
  have hlt : n < x.2 := by
    rcases Nat.lt_or_ge n x.2 with h | h
    · exact h
    · have he : n = x.2 := by omega
      cases hk1 : (L s)[k + 1]? with
      | none => have := (Line.L_whole hv).last k x hk hk1; omega
      | some z =>
        have := ((Line.L_whole hv).more k x z hk hk1).2
        rw [← he, hy] at this
        injection this with this
        exact absurd this h10
  have hp0 : part s n = Line.seg s n x.2 := by rw [part, e3]; rfl
  have h0 : (part s n)[0]? = some y := by rw [hp0, seg_get (by omega)]; exact hy
  have hi : Lib.indexAny (part s n) brk = (0 : Nat) := Lib.indexAny_hit (Lib.NoAny.zero _ _) h0 (by simpa using hb)
  rw [mt, if_pos hpl, Int.toNat_natCast, hi, if_neg (by decide)]
  simp
/-- Match leads back from where it leads. -/
theorem mt_back {s : List UInt8} {p : Int} {q : Nat} (h : mt s p = some q) : ∃ r : Nat, mt s (q : Int) = some r ∧ mt s (r : Int) = some q ∧ p ≤ r ∧ r ≠ q := by
  obtain ⟨n, b, y, rfl, hnb, hy, hb, ha, hv⟩ := mt_some h
  obtain ⟨_, _, c, hc, hbc, hoc, hoo⟩ := brk_facts hb
  have ha' := ha
  rw [at_, hy, Option.getD_some] at ha'
  have hm : ((b, q) ∈ all s [opn y] ∧ s[q]? = some c) ∨ ((q, b) ∈ all s [opn y] ∧ s[q]? = some (opn y)) := by
    rcases lk_mem ha' with hm | hm
    · obtain ⟨o, c', e, hk, _, g1, g2, g3, g4⟩ := all_mem hm
      rw [hc] at hk; injection hk with hk; subst hk
      exact .inl ⟨hm, g4⟩
    · obtain ⟨o, c', e, hk, _, g1, g2, g3, g4⟩ := all_mem hm
      injection e with e; subst e
      exact .inr ⟨hm, g3⟩
  have hq : ∃ z, s[q]? = some z ∧ z ∈ brk ∧ opn z = opn y := by
    have hcb : c ∈ brk ∧ opn y ∈ brk := by
      have : y = 40 ∨ y = 41 ∨ y = 91 ∨ y = 93 ∨ y = 123 ∨ y = 125 := by simpa [brk] using hb
      rcases this with rfl | rfl | rfl | rfl | rfl | rfl <;> (cases hc; exact ⟨by decide, by decide⟩)
    rcases hm with ⟨_, hz⟩ | ⟨_, hz⟩
    · exact ⟨c, hz, hcb.1, hoc⟩
    · exact ⟨_, hz, hcb.2, hoo⟩
  obtain ⟨z, hz, hzb, hzo⟩ := hq
  refine ⟨b, ?_, by rw [mt_at hv hy hb]; exact ha, by omega, ?_⟩
  · rw [mt_at hv hz hzb, at_, hz, Option.getD_some, hzo]
    rcases hm with ⟨hm, _⟩ | ⟨hm, _⟩
    · exact (lk_at (all_uniq s _) hm).2
    · exact (lk_at (all_uniq s _) hm).1
  · rcases hm with ⟨hm, _⟩ | ⟨hm, _⟩
    · obtain ⟨_, _, _, _, _, g, _⟩ := all_mem hm
      exact fun e => by simp only [e] at g; omega
    · obtain ⟨_, _, _, _, _, g, _⟩ := all_mem hm
      exact fun e => by simp only [e] at g; omega
end Pair
end Go.Proofs.Ytohdijhpoddbbaa
/-
  The list and the stack that the program's All makes, in memory: what put, take, an append, a store and the next rune leave of them.
-/
namespace Go.Proofs.Ytohdijhpoddbbaa
open Go.RowKit
namespace Pair
/-- The cells of pairs, of which some are not closed. -/
def flatZ (xs : List (Nat × Int)) : List Value := xs.flatMap fun x => [.int .i64 (x.1 : Nat), .int .i64 x.2]
theorem flatZ_cons (x : Nat × Int) (xs : List (Nat × Int)) : flatZ (x :: xs) = [.int .i64 (x.1 : Nat), .int .i64 x.2] ++ flatZ xs := by simp [flatZ]
theorem flatZ_append (xs ys : List (Nat × Int)) : flatZ (xs ++ ys) = flatZ xs ++ flatZ ys := by simp [flatZ]
theorem flatZ_length (xs : List (Nat × Int)) : (flatZ xs).length = xs.length * 2 := by
  induction xs with
  | nil => rfl
  | cons x xs ih => rw [flatZ_cons, List.length_append, ih]; simp; omega
theorem flatZ_get (xs : List (Nat × Int)) {j : Nat} {x : Nat × Int} (h : xs[j]? = some x) : (flatZ xs)[j * 2]? = some (.int .i64 (x.1 : Nat)) ∧ (flatZ xs)[j * 2 + 1]? = some (.int .i64 x.2) := by
  induction xs generalizing j with
  | nil => simp at h
  | cons y xs ih =>
    cases j with
    | zero => simp at h; subst h; simp [flatZ]
    | succ j =>
      have := ih (j := j) (by simpa using h)
      rw [flatZ_cons, List.getElem?_append_right (by simp; omega), List.getElem?_append_right (by simp; omega)]
      simpa [show (j + 1) * 2 - 2 = j * 2 by omega, show (j + 1) * 2 + 1 - 2 = j * 2 + 1 by omega] using this
theorem flatZ_put (xs : List (Nat × Int)) (k : Nat) (q : Int) : (flatZ xs).set (k * 2 + 1) (.int .i64 q) = flatZ (xs.modify k fun x => (x.1, q)) := by
  induction xs generalizing k with
  | nil => simp [flatZ]
  | cons x xs ih =>
    cases k with
    | zero => simp [flatZ]
    | succ k =>
      rw [List.modify_succ_cons, flatZ_cons, flatZ_cons, ← ih k, show (k + 1) * 2 + 1 = k * 2 + 1 + 2 by omega]
      simp
/-- The cells of the stack: what was put first comes first. -/
def cellsS (st : List Nat) : List Value := st.reverse.map fun k => .int .i64 (k : Nat)
theorem cellsS_length (st : List Nat) : (cellsS st).length = st.length := by simp [cellsS]
theorem cellsS_cons (k : Nat) (st : List Nat) : cellsS (k :: st) = cellsS st ++ [.int .i64 (k : Nat)] := by simp [cellsS]
/-- Two rows of different kinds lie apart. -/
theorem rows_apart {w : World} {b1 b2 : Nat} {e1 e2 : TypeId} {s1 s2 n1 n2 : Nat} {v1 v2 : Value} {x1 x2 : List Value} (h1 : w.ownsRow b1 e1 s1 v1 n1 x1) (h2 : w.ownsRow b2 e2 s2 v2 n2 x2) (hne : e1 ≠ e2) {g : Nat} (hg : v1.ownBlock = some g) : v2.ownBlock ≠ some g := by
  intro hg2
  rcases h1.2 with ⟨rfl, _⟩ | ⟨g1, c1, u1, rfl, _, hh1, _⟩
  · cases hg
  · rcases h2.2 with ⟨rfl, _⟩ | ⟨g2, c2, u2, rfl, _, hh2, _⟩
    · cases hg2
    · simp only [Value.ownBlock, Option.some.injEq] at hg hg2
      subst hg; subst hg2
      rw [hh1] at hh2
      injection hh2 with hh2
      injection hh2 with _ hh2 _
      exact hne hh2
/-- All that All has made when it comes to a rune: w is where it began to. -/
structure St (w W : World) (t : ByteArray) (pos : Nat) (lv ov : Value) (l : List (Nat × Int)) (st : List Nat) : Prop where
  box : Blk W w.heap.size 93 #[ov]
  iter : W.heap[w.heap.size + 1]? = some (.stringIter t pos)
  orow : W.ownsRow (w.heap.size + 2) 3 1 ov st.length (cellsS st)
  lrow : W.ownsRow (w.heap.size + 2) 59 2 lv l.length (flatZ l)
  below : Below w.heap.size w W
section
variable {w W W' : World} {t : ByteArray} {pos : Nat} {lv ov : Value} {l : List (Nat × Int)} {st : List Nat}
theorem St.size (h : St w W t pos lv ov l st) : w.heap.size + 2 ≤ W.heap.size := by
  have := (Array.getElem?_eq_some_iff.1 h.iter).1; omega
theorem St.alloc (h : St w W t pos lv ov l st) (o : Obj) : St w (W.alloc o) t pos lv ov l st :=
  ⟨h.box.alloc o, (Below.heap_alloc _ _ _ (by have := h.size; omega)).trans h.iter, h.orow.alloc o, h.lrow.alloc o, h.below.alloc (by have := h.size; omega) o⟩
theorem St.drewN (h : St w W t pos lv ov l st) (n : Nat) : St w (W.drewN n) t pos lv ov l st :=
  ⟨h.box.drewN n, h.iter, h.orow, h.lrow, below_drewN h.below n⟩
/-- The next rune. -/
theorem St.next (h : St w W t pos lv ov l st) (p : Nat) : St w (W.iterAt (w.heap.size + 1) t p) t p lv ov l st :=
  ⟨(Lib.iterAt_other _ _ _ _ _ (by omega)).trans h.box, Lib.iterAt_heap W (w.heap.size + 1) t pos p h.iter, ownsRow_iterAt h.orow (by omega) t p, ownsRow_iterAt h.lrow (by omega) t p, Lib.below_iterAt h.below (by omega) t p⟩
/-- A row that grew: the list's. -/
theorem St.grownL {lv' : Value} {x : Nat × Int} (h : St w W t pos lv ov l st) (hg : W.grownBy W' lv.ownBlock) (hr : W'.ownsRow (w.heap.size + 2) 59 2 lv' (l.length + 1) (flatZ l ++ [.int .i64 (x.1 : Nat), .int .i64 x.2])) : St w W' t pos lv' ov (l ++ [x]) st := by
  have hs := h.size
  have hlt := h.lrow.lt
  refine ⟨h.box.grown hg (fun e => by have := (hlt _ e.symm).1; omega), (hg.block _ (by omega) (fun e => by have := (hlt _ e.symm).1; omega)).trans h.iter, h.orow.kept hg ?_, ?_, h.below.grown hg (by omega) (fun j e => by have := (hlt j e).1; omega)⟩
  · cases ho : ov.ownBlock with
    | none => exact .inl rfl
    | some g => exact .inr (fun e => rows_apart h.orow h.lrow (by decide) ho e.symm)
  · rw [List.length_append, flatZ_append]; exact hr
/-- A row that grew: the stack's; its new slice lies in its box. -/
theorem St.grownO {A : Option Addr} {n c m cap : Nat} {g : Nat} {k : Nat} (h : St w W t pos lv (.slice A n c) l st) (hg : W.grownBy W' (Value.slice A n c).ownBlock) (hr : W'.ownsRow (w.heap.size + 2) 3 1 (.slice (some ⟨g, 0, none⟩) m cap) m (cellsS st ++ [.int .i64 (k : Nat)])) (hm : m = st.length + 1) :
    Blk W' w.heap.size 93 #[.slice A n c] ∧ St w (W'.setCell ⟨w.heap.size, 0, none⟩ (.slice (some ⟨g, 0, none⟩) m cap)) t pos lv (.slice (some ⟨g, 0, none⟩) m cap) l (k :: st) := by
  have hs := h.size
  have hlt := h.orow.lt
  have hb : Blk W' w.heap.size 93 #[.slice A n c] := h.box.grown hg (fun e => by have := (hlt _ e.symm).1; omega)
  subst hm
  refine ⟨hb, hb.set_ 0 _, ?_, ?_, ?_, ?_⟩
  · exact (Below.heap_setCell _ _ _ _ (by show _ ≠ w.heap.size; omega)).trans ((hg.block _ (by omega) (fun e => by have := (hlt _ e.symm).1; omega)).trans h.iter)
  · rw [List.length_cons, cellsS_cons]
    exact ownsRow_setCell_below hr (by show w.heap.size < _; omega) _
  · refine ownsRow_setCell_below (h.lrow.kept hg ?_) (by show w.heap.size < _; omega) _
    cases ho : lv.ownBlock with
    | none => exact .inl rfl
    | some g => exact .inr (fun e => rows_apart h.lrow h.orow (by decide) ho e.symm)
  · exact (h.below.grown hg (by omega) (fun j e => by have := (hlt j e).1; omega)).setCell (p := ⟨w.heap.size, 0, none⟩) (Nat.le_refl _) _
/-- The stack with its last one taken. -/
theorem St.popped {g n c : Nat} {k : Nat} (h : St w W t pos lv (.slice (some ⟨g, 0, none⟩) n c) l (k :: st)) (hn : n = st.length + 1) : St w (W.setCell ⟨w.heap.size, 0, none⟩ (.slice (some ⟨g, 0, none⟩) st.length c)) t pos lv (.slice (some ⟨g, 0, none⟩) st.length c) l st := by
  have hs := h.size
  subst hn
  have ho := h.orow
  rw [List.length_cons, cellsS_cons] at ho
  refine ⟨h.box.set_ 0 _, ?_, ?_, ?_, ?_⟩
  · exact (Below.heap_setCell _ _ _ _ (by show _ ≠ w.heap.size; omega)).trans h.iter
  · exact ownsRow_setCell_below (ownsRow_pop (by rw [cellsS_length]; omega) ho) (by show w.heap.size < _; omega) _
  · exact ownsRow_setCell_below h.lrow (by show w.heap.size < _; omega) _
  · exact h.below.setCell (p := ⟨w.heap.size, 0, none⟩) (Nat.le_refl _) _
/-- What is closed. -/
theorem St.shut {g c n k : Nat} (h : St w W t pos (.slice (some ⟨g, 0, none⟩) n c) ov l st) (hn : n = l.length) (q : Int) : St w (W.setCell ⟨g, k * 2 + 1, none⟩ (.int .i64 q)) t pos (.slice (some ⟨g, 0, none⟩) n c) ov (l.modify k fun x => (x.1, q)) st := by
  have hs := h.size
  have hlt := (h.lrow.lt g rfl).1
  subst hn
  refine ⟨h.box.far (by show _ ≠ g; omega) _, (Below.heap_setCell _ _ _ _ (by show _ ≠ g; omega)).trans h.iter, ownsRow_setCell_other (a := ⟨g, k * 2 + 1, none⟩) h.orow (fun e => rows_apart h.orow h.lrow (by decide) e rfl) _, ?_, h.below.setCell (p := ⟨g, k * 2 + 1, none⟩) (by show _ ≤ g; omega) _⟩
  rw [List.length_modify, ← flatZ_put]
  exact (h.lrow.stored (k * 2 + 1) (.int .i64 q)).1
end
end Pair
open Pair
set_option maxHeartbeats 1000000 in
set_option maxRecDepth 100000 in
theorem pair_put {w W : World} {t : ByteArray} {pos : Nat} {lv ov : Value} {l : List (Nat × Int)} {st : List Nat} (k : Nat) (h : St w W t pos lv ov l st) (hst : st.length ≤ 1000000) :
    Calls Try.prog 85 #[.pointer (some ⟨w.heap.size, 0, none⟩), .int .i64 (k : Nat)] W fun e w' => e = .returned (.tuple #[]) ∧ ∃ ov', St w w' t pos lv ov' l (k :: st) := by
  obtain ⟨i0, hi, hz0, hz1, hz2⟩ := info_parts info_int
  obtain ⟨A, c, rfl⟩ := own_long h.orow
  have hc := h.box.cell 0
  have hs := h.size
  have HS := Lib.hid h
  have hown := h.orow
  clear h
  go_enter Try.func85, Try.ntmps85
  go_wp2_with (at_builtin; refine wpList_append_lies _ rfl _ _ 52 rfl (w.heap.size + 2) 3 i0 (.int .i64 0) 1 8 Try.underlying52 hi hz0 hz1 hz2 rfl (by decide) (.slice A st.length c) st.length _ rfl (hown.alloc _) ⟨W.heap.size, 0, none⟩ 1 1 [.int .i64 (k : Nat)] rfl rfl ?c1 ?c2 (by decide) ?c3 ?c4 ?c5 _ rfl ?_)
  case c1 =>
    intro j v hj
    have hb := Blk.new W 3 #[.int .i64 (k : Int)]
    rw [Addr.add_lit, Nat.zero_add, hb.cell]
    simpa using hj
  case c2 => simp [Value.oneCell']
  case c3 => unfold maxLen; omega
  case c4 => omega
  case c5 => rw [World.size_alloc]; omega
  intro g cap w1 hown1 hgrow1 hat1 hlt1
  obtain ⟨hb1, hS1⟩ := (HS.out.alloc (.cells #[.int .i64 (k : Int)] 3)).grownO hgrow1 hown1 rfl
  have f1 := hb1.frozen 0
  have c1 := hb1.cell 0
  have H1 := Lib.hid hS1
  clear hb1 hS1 hown1 hgrow1 hat1 hc hown
  go_wp2
  go_end0
  exact ⟨rfl, _, H1.out⟩
set_option maxHeartbeats 1000000 in
set_option maxRecDepth 100000 in
theorem pair_take_none {w W : World} {t : ByteArray} {pos : Nat} {lv ov : Value} {l : List (Nat × Int)} (h : St w W t pos lv ov l []) :
    Calls Try.prog 86 #[.pointer (some ⟨w.heap.size, 0, none⟩)] W fun e w' => e = .returned (.tuple #[.int .i64 0, .bool false]) ∧ St w w' t pos lv ov l [] := by
  obtain ⟨A, c, rfl⟩ := own_long h.orow
  have hc := h.box.cell 0
  have HS := Lib.hid h
  clear h
  go_enter Try.func86, Try.ntmps86
  go_wp2
  go_ret2
  exact ⟨rfl, HS.out⟩
set_option maxHeartbeats 1000000 in
set_option maxRecDepth 100000 in
theorem pair_take_some {w W : World} {t : ByteArray} {pos : Nat} {lv ov : Value} {l : List (Nat × Int)} {k : Nat} {r : List Nat} (h : St w W t pos lv ov l (k :: r)) (hst : r.length ≤ 1000000) :
    Calls Try.prog 86 #[.pointer (some ⟨w.heap.size, 0, none⟩)] W fun e w' => e = .returned (.tuple #[.int .i64 (k : Nat), .bool true]) ∧ ∃ ov', St w w' t pos lv ov' l r := by
  obtain ⟨A, c, rfl⟩ := own_long h.orow
  have hc := h.box.cell 0
  have hf := h.box.frozen 0
  have HS := Lib.hid h
  obtain ⟨g, cap, e, _, hlt⟩ := h.orow.form (by simp)
  injection e with e1 _ e3
  subst e1; subst e3
  have ho := h.orow
  rw [cellsS_cons] at ho
  have hk := ho.cellAt r.length (by simp)
  rw [List.getElem?_append_right (by rw [cellsS_length]; exact Nat.le_refl _), cellsS_length, Nat.sub_self] at hk
  simp only [List.getElem?_cons_zero] at hk
  have hl : (k :: r).length = r.length + 1 := rfl
  rw [hl] at HS hc
  clear hl
  have hcap : r.length + 1 ≤ c := by
    rcases h.orow.2 with ⟨h1, _⟩ | ⟨g', cap', cur, h1, _, _, h2, _⟩
    · cases h1
    · injection h1 with _ _ h3; subst h3; exact h2
  have g0 : (((r.length : Int) + 1) == 0) = false := by simp; omega
  have H1 := Lib.hid (HS.out.popped rfl)
  clear h ho
  generalize r.length = m at *
  go_enter Try.func86, Try.ntmps86
  go_wp2
  go_ret2
  exact ⟨rfl, _, H1.out⟩
end Go.Proofs.Ytohdijhpoddbbaa
/-
  slices.DeleteFunc at pairs that are not closed.
-/
namespace Go.Proofs.Ytohdijhpoddbbaa
open Go.RowKit
namespace Pair
/-- Those that are closed. -/
def kz (xs : List (Nat × Int)) : List (Nat × Int) := xs.filter fun x => decide (0 ≤ x.2)
theorem flatZ_kz (xs : List (Nat × Int)) : flatZ (kz xs) = flat2 (keep xs) := by
  induction xs with
  | nil => rfl
  | cons x xs ih =>
    rw [kz, List.filter_cons, keep]
    by_cases h : x.2 < 0
    · rw [if_pos h, if_neg (by simp; omega)]; exact ih
    · rw [if_neg h, if_pos (by simp; omega), flatZ_cons, show flat2 ((x.1, x.2.toNat) :: keep xs) = [.int .i64 (x.1 : Nat), .int .i64 (x.2.toNat : Nat)] ++ flat2 (keep xs) by simp [flat2], Int.toNat_of_nonneg (by omega)]
      exact congrArg _ ih
theorem kz_length (xs : List (Nat × Int)) : (kz xs).length = (keep xs).length := by
  have h1 := congrArg List.length (flatZ_kz xs)
  rw [flatZ_length, flat2_length] at h1
  omega
theorem kz_le (xs : List (Nat × Int)) : (kz xs).length ≤ xs.length := List.length_filter_le _ _
theorem kz_next {xs : List (Nat × Int)} {j : Nat} {x : Nat × Int} (h : xs[j]? = some x) : kz (xs.take (j + 1)) = kz (xs.take j) ++ if x.2 < 0 then [] else [x] := by
  rw [List.take_add_one, h, kz, List.filter_append]
  congr 1
  by_cases h1 : x.2 < 0
  · rw [if_pos h1]; simp; omega
  · rw [if_neg h1]; simp; omega
theorem flatZ_set (xs : List (Nat × Int)) (i : Nat) (x : Nat × Int) : ((flatZ xs).set (i * 2) (.int .i64 (x.1 : Nat))).set (i * 2 + 1) (.int .i64 x.2) = flatZ (xs.set i x) := by
  induction xs generalizing i with
  | nil => simp [flatZ]
  | cons y xs ih =>
    cases i with
    | zero => simp [flatZ]
    | succ i =>
      rw [List.set_cons_succ, flatZ_cons, flatZ_cons, ← ih i, show (i + 1) * 2 + 1 = i * 2 + 1 + 2 by omega, show (i + 1) * 2 = i * 2 + 2 by omega]
      simp
/-- The first of a list that is not closed; -1: each is. -/
def First (xs : List (Nat × Int)) (r : Int) : Prop := (r = -1 ∧ ∀ (j : Nat) (x : Nat × Int), xs[j]? = some x → 0 ≤ x.2) ∨ ∃ k : Nat, r = k ∧ (∃ x : Nat × Int, xs[k]? = some x ∧ x.2 < 0) ∧ ∀ (j : Nat) (x : Nat × Int), j < k → xs[j]? = some x → 0 ≤ x.2
theorem First.unique {xs : List (Nat × Int)} {r s : Int} (h : First xs r) (h' : First xs s) : r = s := by
  rcases h with ⟨rfl, h1⟩ | ⟨k, rfl, ⟨x, h2, h3⟩, h4⟩
  · rcases h' with ⟨rfl, _⟩ | ⟨k, rfl, ⟨x, h2, h3⟩, _⟩
    · rfl
    · have := h1 k x h2; omega
  · rcases h' with ⟨rfl, h1⟩ | ⟨m, rfl, ⟨y, h5, h6⟩, h7⟩
    · have := h1 k x h2; omega
    · rcases Nat.lt_trichotomy k m with h | h | h
      · have := h7 k x h h2; omega
      · rw [h]
      · have := h4 m y h h5; omega
theorem First.ex (xs : List (Nat × Int)) : ∃ r, First xs r := by
  induction xs with
  | nil => exact ⟨-1, .inl ⟨rfl, fun j x h => by simp at h⟩⟩
  | cons y xs ih =>
    by_cases hy : y.2 < 0
    · exact ⟨(0 : Nat), .inr ⟨0, rfl, ⟨y, rfl, hy⟩, fun j x h => absurd h (Nat.not_lt_zero _)⟩⟩
    · obtain ⟨r, ⟨_, h1⟩ | ⟨k, _, ⟨x, h2, h3⟩, h4⟩⟩ := ih
      · refine ⟨-1, .inl ⟨rfl, fun j x h => ?_⟩⟩
        cases j with
        | zero => simp at h; subst h; omega
        | succ j => exact h1 j x (by simpa using h)
      · refine ⟨(k + 1 : Nat), .inr ⟨k + 1, rfl, ⟨x, by simpa using h2, h3⟩, fun j z hj h => ?_⟩⟩
        cases j with
        | zero => simp at h; subst h; omega
        | succ j => exact h4 j z (by omega) (by simpa using h)
theorem kz_all {xs : List (Nat × Int)} (h : ∀ (j : Nat) (x : Nat × Int), xs[j]? = some x → 0 ≤ x.2) : kz xs = xs := by
  rw [kz, List.filter_eq_self]
  intro x hx
  obtain ⟨j, hj, rfl⟩ := List.mem_iff_getElem.1 hx
  simpa using h j _ (List.getElem?_eq_getElem hj)
/-- A slice at A holds these pairs. -/
def Zs (w : World) (A : Option Addr) (xs : List (Nat × Int)) : Prop := 0 < xs.length → ∃ g : Nat, A = some ⟨g, 0, none⟩ ∧ g < w.heap.size ∧ ∀ j x, xs[j]? = some x → w.cell? ⟨g, j * 2, none⟩ = some (.int .i64 (x.1 : Nat)) ∧ w.cell? ⟨g, j * 2 + 1, none⟩ = some (.int .i64 x.2)
theorem Zs.of_own {w : World} {B : Nat} {A : Option Addr} {c : Nat} {t : TypeId} {xs : List (Nat × Int)} (h : w.ownsRow B t 2 (.slice A xs.length c) xs.length (flatZ xs)) : Zs w A xs := fun h0 => by
  rcases h.2 with ⟨_, h2⟩ | ⟨g, cap, cur, hv, hb, hh, _⟩
  · omega
  · injection hv with hA
    subst hA
    refine ⟨g, rfl, (Array.getElem?_eq_some_iff.1 hh).1, fun j x hx => ?_⟩
    have hj := (List.getElem?_eq_some_iff.1 hx).1
    obtain ⟨h3, h4⟩ := flatZ_get xs hx
    exact ⟨(h.cellAt (j * 2) (by omega)).trans h3, (h.cellAt (j * 2 + 1) (by omega)).trans h4⟩
theorem ownsRow_below {B : Nat} {e : TypeId} {k : Nat} {v : Value} {n : Nat} {xs : List Value} {w w' : World} (h : w.ownsRow B e k v n xs) (hb : Below w.heap.size w w') : w'.ownsRow B e k v n xs :=
  h.kept (row := none) ⟨hb.os, hb.tape, hb.output, hb.size, fun j hj _ => hb.block j hj⟩ (by cases hv : v.ownBlock <;> simp)
/-- A row cut to its first m. -/
theorem own_cut {w : World} {base : Nat} {e : TypeId} {size g cap n m : Nat} {xs : List Value} (h : w.ownsRow base e size (.slice (some ⟨g, 0, none⟩) n cap) n xs) (hm : m ≤ n) : w.ownsRow base e size (.slice (some ⟨g, 0, none⟩) m cap) m (xs.take (m * size)) := by
  rcases h.2 with ⟨h0, _⟩ | ⟨g', cap', cur, hv, hg, hh, hn, hcap, hsz, htake⟩
  · cases h0
  · cases hv
    have h1 := Nat.mul_le_mul_right size hm
    refine ⟨by rw [List.length_take, h.1]; omega, .inr ⟨g, cap, cur, rfl, hg, hh, by omega, hcap, hsz, ?_⟩⟩
    rw [← htake, List.take_take, Nat.min_eq_left h1]
/-- Cells behind the first m turned. -/
theorem own_tail {base : Nat} {e : TypeId} {size g cap n : Nat} (k : Nat) (u : Value) : ∀ (c : Nat) {w : World} {xs : List Value} (o : Nat), w.ownsRow base e size (.slice (some ⟨g, 0, none⟩) n cap) n xs → k ≤ o →
    ∃ ys, (w.setCells g o (List.replicate c u)).ownsRow base e size (.slice (some ⟨g, 0, none⟩) n cap) n ys ∧ ys.take k = xs.take k ∧ Below base w (w.setCells g o (List.replicate c u))
  | 0, w, xs, o, h, _ => ⟨xs, h, rfl, Below.refl _ _⟩
  | c + 1, w, xs, o, h, ho => by
    have h1 := (h.stored o u).1
    have hg := (h.lt g rfl).1
    obtain ⟨ys, h2, h3, h4⟩ := own_tail k u c (o + 1) h1 (by omega)
    refine ⟨ys, h2, ?_, ?_⟩
    · rw [h3, List.take_set_of_le ho]
    · exact ((Below.refl base w).setCell (p := ⟨g, o, none⟩) hg u).trans h4
end Pair
open Pair
/-- clear at pairs. -/
theorem run_clear_pairs (w : World) (ty : TypeId) (b o n c : Nat) (hn : 0 < n) (hc : ∀ j, j < n * 2 → (w.cell? ⟨b, o + j, none⟩).isSome = true) (hf : ∀ j, j < n * 2 → w.frozen? ⟨b, o + j, none⟩ = false) :
    (Builtin.clear_ #[57] ty #[.slice (some ⟨b, o, none⟩) n c]).run Try.prog w = .ok (.tuple #[]) (w.setCells b o (List.replicate (n * 2) (.int .i64 0))) := by
  have hz : ∀ w, (zeroValue 59).run Try.prog w = _ := zero_pair
  have hzc : (Builtin.zeroCells (Value.agg #[.int .i64 0, .int .i64 0]).cells n).toList = List.replicate (n * 2) (.int .i64 0) := by
    have hz2 : (Value.agg #[.int .i64 0, .int .i64 0]).cells = #[.int .i64 0, .int .i64 0] := rfl
    rw [hz2]
    simp [Builtin.zeroCells]
    apply List.ext_getElem
    · simp
    · intro i h1 h2
      have : i % 2 = 0 ∨ i % 2 = 1 := by omega
      rcases this with h | h <;> simp [h]
  have hst := run_storeCells_cells (P := Try.prog) b o (List.replicate (n * 2) (.int .i64 0)) 0 w (by simpa using hc) (by simpa using hf) (by intro v hv'; rw [List.eq_of_mem_replicate hv']; rfl)
  simp only [Nat.add_zero] at hst
  obtain ⟨m, rfl⟩ : ∃ m, n = m + 1 := ⟨n - 1, by omega⟩
  simp [Builtin.clear_, run_underlying Try.underlying57, hz, hzc, hst]
theorem pair_neg (a : Nat) (b : Int) (W : World) :
    Calls Try.prog 88 #[.agg #[.int .i64 (a : Nat), .int .i64 b]] W fun e w' => e = .returned (.bool (decide (b < 0))) ∧ Below W.heap.size W w' := by
  go_enter Try.func88, Try.ntmps88
  go_wp2
  go_ret
  exact ⟨rfl, (Below.refl _ _).alloc (Nat.le_refl _) _⟩
set_option maxHeartbeats 1000000 in
set_option maxRecDepth 100000 in
theorem sl_index {W : World} {A : Option Addr} {c : Nat} {xs : List (Nat × Int)} (hx : Zs W A xs) (hl : xs.length ≤ 1000000) :
    Calls Try.prog 96 #[.slice A xs.length c, .func (.func 88) #[] #[]] W fun e w' => ∃ r, e = .returned (.int .i64 r) ∧ Below W.heap.size W w' ∧ First xs r := by
  have HX := Lib.hid hx
  clear hx
  go_enter Try.func96, Try.ntmps96
  go_wp2
  go_loopw [5, 8] (fun _ kv wr => ∃ k, k ≤ xs.length ∧ kv = .int .i64 k ∧ Below W.heap.size W wr ∧ Hid (∀ j x, j < k → xs[j]? = some x → 0 ≤ x.2)) (fun _ kv _ => xs.length - (intOf kv).toNat)
  case atStart => exact ⟨0, Nat.zero_le _, rfl, Below.refl _ _, fun j x h => absurd h (Nat.not_lt_zero _)⟩
  case round =>
    obtain ⟨k, hk, rfl, hb, HA⟩ := hrel
    by_cases hlt : k < xs.length
    · obtain ⟨⟨a, b⟩, hy⟩ : ∃ y, xs[k]? = some y := ⟨_, List.getElem?_eq_getElem hlt⟩
      obtain ⟨g, rfl, hg, hc⟩ := HX.out (by omega)
      obtain ⟨c0, c1⟩ := hc k _ hy
      rw [← hb.cell (p := ⟨g, k * 2, none⟩) hg] at c0
      rw [← hb.cell (p := ⟨g, k * 2 + 1, none⟩) hg] at c1
      have HY := Lib.hid hy
      have C := Lib.hid (fun w => pair_neg a b w)
      clear hy hc HX hg
      dsimp only at c0 c1
      by_cases hn : b < 0
      · rw [decide_eq_true hn] at C
        go_wp2_with (go_at_call 88; refine (C.out _).mono ?_; rintro e w1 ⟨rfl, hb1⟩)
        go_ret
        exact ⟨_, rfl, hb.trans (hb1.mono hb.size), Or.inr ⟨k, rfl, ⟨_, HY.out, hn⟩, HA.out⟩⟩
      · rw [decide_eq_false hn] at C
        go_wp2_with (go_at_call 88; refine (C.out _).mono ?_; rintro e w1 ⟨rfl, hb1⟩)
        go_roundw
        case rel => exact ⟨k + 1, by omega, by go_num, hb.trans (hb1.mono hb.size), fun j x hj hjx => by
          by_cases e : j = k
          · subst e; rw [HY.out] at hjx; cases hjx; exact hn
          · exact HA.out j x (by omega) hjx⟩
        case measure => simp [intOf]; omega
    · obtain rfl : k = xs.length := by omega
      go_wp2
      go_ret
      exact ⟨_, rfl, hb, Or.inl ⟨rfl, fun j x hjx => HA.out j x (List.getElem?_eq_some_iff.1 hjx).1 hjx⟩⟩
theorem sl_index_at {W : World} {A : Option Addr} {c : Nat} {xs : List (Nat × Int)} {r : Int} (hr : First xs r) (hx : Zs W A xs) (hl : xs.length ≤ 1000000) :
    Calls Try.prog 96 #[.slice A xs.length c, .func (.func 88) #[] #[]] W fun e w' => e = .returned (.int .i64 r) ∧ Below W.heap.size W w' :=
  (sl_index hx hl).mono fun e w' ⟨s, h1, h2, h3⟩ => ⟨by rw [h1, h3.unique hr], h2⟩
/-- How far the second loop of DeleteFunc has come: xs is what was, ys what is. -/
def Pair.Got (xs ys : List (Nat × Int)) (i j : Nat) : Prop := ys.length = xs.length ∧ i = (kz (xs.take j)).length ∧ ys.take i = kz (xs.take j) ∧ ys.drop j = xs.drop j
theorem Pair.Got.at_ {xs ys : List (Nat × Int)} {i j : Nat} (h : Got xs ys i j) {x : Nat × Int} (hx : xs[j]? = some x) : ys[j]? = some x := by
  have h1 : (ys.drop j)[0]? = (xs.drop j)[0]? := by rw [h.2.2.2]
  simpa [hx] using h1
theorem Pair.Got.skip {xs ys : List (Nat × Int)} {i j : Nat} (h : Got xs ys i j) {x : Nat × Int} (hx : xs[j]? = some x) (hn : x.2 < 0) : Got xs ys i (j + 1) := by
  have h1 := kz_next hx
  rw [if_pos hn, List.append_nil] at h1
  refine ⟨h.1, by rw [h1]; exact h.2.1, by rw [h1]; exact h.2.2.1, ?_⟩
  rw [← List.drop_drop, ← List.drop_drop, h.2.2.2]
theorem Pair.Got.take {xs ys : List (Nat × Int)} {i j : Nat} (h : Got xs ys i j) (hij : i < j) {x : Nat × Int} (hx : xs[j]? = some x) (hn : ¬ x.2 < 0) : Got xs (ys.set i x) (i + 1) (j + 1) := by
  have h1 := kz_next hx
  have hj := (List.getElem?_eq_some_iff.1 hx).1
  rw [if_neg hn] at h1
  refine ⟨by rw [List.length_set]; exact h.1, by rw [h1, List.length_append, ← h.2.1]; rfl, ?_, ?_⟩
  · have hil : i < ys.length := by rw [h.1]; omega
    rw [h1, List.take_add_one, List.take_set_of_le (Nat.le_refl _), h.2.2.1, List.getElem?_set_self hil]
    rfl
  · rw [List.drop_set_of_lt (by omega), ← List.drop_drop, ← List.drop_drop, h.2.2.2]
theorem Pair.Got.start {xs : List (Nat × Int)} {k : Nat} {x : Nat × Int} (hx : xs[k]? = some x) (hn : x.2 < 0) (h : ∀ (j : Nat) (x : Nat × Int), j < k → xs[j]? = some x → 0 ≤ x.2) : Got xs xs k (k + 1) := by
  have hk := (List.getElem?_eq_some_iff.1 hx).1
  have h0 : kz (xs.take k) = xs.take k := kz_all fun j y hy => by
    have hj := (List.getElem?_eq_some_iff.1 hy).1
    rw [List.length_take] at hj
    rw [List.getElem?_take_of_lt (by omega)] at hy
    exact h j y (by omega) hy
  have h1 := kz_next hx
  rw [if_pos hn, List.append_nil, h0] at h1
  exact ⟨rfl, by rw [h1, List.length_take]; omega, by rw [h1], rfl⟩
set_option maxHeartbeats 2000000 in
set_option maxRecDepth 100000 in
theorem sl_delete {W : World} {base n c : Nat} {A : Option Addr} {xs : List (Nat × Int)} (hown : W.ownsRow base 59 2 (.slice A n c) n (flatZ xs)) (hn : n = xs.length) (hl : xs.length ≤ 1000000) (hb : base ≤ W.heap.size) :
    Calls Try.prog 87 #[.slice A n c, .func (.func 88) #[] #[]] W fun e w' =>
      (∃ v, e = .returned v ∧ w'.ownsRow base 59 2 v (keep xs).length (flat2 (keep xs))) ∧ Below base W w' := by
  subst hn
  obtain ⟨r, hr⟩ := First.ex xs
  have CI := Lib.hid (sl_index_at (c := c) hr (Zs.of_own hown) hl)
  rcases hr with ⟨rfl, hall⟩ | ⟨k, rfl, ⟨x, hx, hneg⟩, hfew⟩
  · have HK := Lib.hid (kz_all hall)
    clear hall
    go_enter Try.func87, Try.ntmps87
    go_wp2_with (go_at_call 96; refine CI.out.mono ?_; rintro e w1 ⟨rfl, hb1⟩)
    go_ret
    have h2 : w1.ownsRow base 59 2 (.slice A xs.length c) xs.length (flatZ xs) := ownsRow_below hown hb1
    rw [← flatZ_kz, ← kz_length, HK.out]
    exact ⟨⟨_, rfl, h2⟩, hb1.mono hb⟩
  · have hk := (List.getElem?_eq_some_iff.1 hx).1
    obtain ⟨g, cap, e, hbg, hg⟩ := hown.form (by omega)
    injection e with e1 _ e3
    subst e1; subst e3
    have hcap : xs.length ≤ c := by
      rcases hown.2 with ⟨h1, _⟩ | ⟨g', cap', cur, h1, _, _, h2, _⟩
      · cases h1
      · injection h1 with _ _ h3; subst h3; exact h2
    have H0 := Lib.hid (And.intro hown (Got.start hx hneg hfew))
    have g0 : ((k : Int) == -1) = false := beq_eq_false_iff_ne.2 (by omega)
    clear hown hx hneg hfew
    go_enter Try.func87, Try.ntmps87
    go_wp2_with (go_at_call 96; refine CI.out.mono ?_; rintro e w1 ⟨rfl, hb1⟩)
    have hr1 := ownsRow_below H0.out.1 hb1
    have hb2 : Below base W w1 := hb1.mono hb
    have hs1 := hb1.size
    go_loopw [5, 6, 7] (fun iv jv _ wr => ∃ (i j : Nat) (ys : List (Nat × Int)), iv = .int .i64 i ∧ jv = .int .i64 j ∧ i < j ∧ j ≤ xs.length ∧ Hid (Got xs ys i j) ∧ wr.ownsRow base 59 2 (.slice (some ⟨g, 0, none⟩) xs.length c) xs.length (flatZ ys) ∧ Below base W wr ∧ W.heap.size ≤ wr.heap.size) (fun _ jv _ _ => xs.length - (intOf jv).toNat)
    case atStart => exact ⟨k, k + 1, xs, rfl, by go_num, by omega, by omega, H0.out.2, hr1, hb2, hs1⟩
    case round =>
      obtain ⟨i, j, ys, rfl, rfl, hij, hj, HG, hr, hbw, hsz⟩ := hrel
      clear hr1 hb2 hs1 hb1
      by_cases hlt : j < xs.length
      · obtain ⟨⟨a, b⟩, hy⟩ : ∃ y, xs[j]? = some y := ⟨_, List.getElem?_eq_getElem hlt⟩
        have hyl := HG.out.1
        have hy2 := HG.out.at_ hy
        obtain ⟨p0, p1⟩ := flatZ_get ys hy2
        have c0 := (hr.cellAt (j * 2) (by omega)).trans p0
        have c1 := (hr.cellAt (j * 2 + 1) (by omega)).trans p1
        have HY := Lib.hid hy
        have C := Lib.hid (fun w => pair_neg a b w)
        have hbx := Blk.new wr 59 #[.int .i64 (a : Nat), .int .i64 b]
        have HR := Lib.hid (hr.alloc (.cells #[.int .i64 (a : Nat), .int .i64 b] 59))
        have HB := Lib.hid (hbw.alloc (by omega) (.cells #[.int .i64 (a : Nat), .int .i64 b] 59))
        have HBX := Lib.hid hbx
        clear hy hy2 p0 p1 hr hbx hbw
        by_cases hn : b < 0
        · rw [decide_eq_true hn] at C
          go_wp2_with (go_at_call 88; refine (C.out _).mono ?_; rintro e w2 ⟨rfl, hb2⟩)
          go_roundw
          case rel => exact ⟨i, j + 1, ys, rfl, by go_num, by omega, by omega, HG.out.skip HY.out hn, ownsRow_below HR.out hb2, HB.out.trans (hb2.mono (by rw [World.size_alloc]; omega)), by have := hb2.size; rw [World.size_alloc] at this; omega⟩
          case measure => simp [intOf]; omega
        · rw [decide_eq_false hn] at C
          obtain ⟨⟨p, q⟩, hp⟩ : ∃ y, ys[i]? = some y := ⟨_, List.getElem?_eq_getElem (by omega)⟩
          obtain ⟨q0, q1⟩ := flatZ_get ys hp
          have HQ := Lib.hid (And.intro q0 q1)
          have hyl2 : (flatZ ys).length = xs.length * 2 := by rw [flatZ_length, hyl]
          clear hp q0 q1
          go_wp2_with (go_at_call 88; refine (C.out _).mono ?_; rintro e w2 ⟨rfl, hb2⟩; have r2 := ownsRow_below HR.out hb2; have x2 := HBX.out.below hb2 (by simp); have b0 := x2.cell 0; have b1 := x2.cell 1; have f0 := r2.frozenAt (i * 2); have d0 := (r2.cellAt (i * 2) (by omega)).trans HQ.out.1; have r3 := (r2.stored (i * 2) (.int .i64 (a : Nat))).1; have f1 := r3.frozenAt (i * 2 + 1); have d1 := (r3.cellAt (i * 2 + 1) (by omega)).trans ((List.getElem?_set_ne (by omega)).trans HQ.out.2); have R4 := Lib.hid (r3.stored (i * 2 + 1) (.int .i64 b)).1; have B2 := Lib.hid hb2; clear r2 x2 r3 hb2)
          go_roundw
          case rel =>
            have r4 := R4.out
            have hg2 := HB.out.size
            refine ⟨i + 1, j + 1, ys.set i (a, b), by go_num, by go_num, by omega, by omega, HG.out.take hij HY.out (Int.not_lt.2 hn), ?_, ?_, ?_⟩
            · rw [← flatZ_set]; exact r4
            · exact ((HB.out.trans (B2.out.mono (by rw [World.size_alloc]; omega))).setCell (p := ⟨g, i * 2, none⟩) hbg _).setCell (p := ⟨g, i * 2 + 1, none⟩) hbg _
            · have := B2.out.size
              rw [World.size_alloc] at this
              simp only [World.setCell, Array.size_modify]
              omega
          case measure => simp [intOf]; omega
      · obtain rfl : j = xs.length := by omega
        have hyl := HG.out.1
        have g1 : xs.length - i ≠ 0 := by omega
        have hyl2 : (flatZ ys).length = xs.length * 2 := by rw [flatZ_length, hyl]
        have hcl : ∀ ty, (Builtin.clear_ #[57] ty #[.slice (some ⟨g, i * 2, none⟩) (xs.length - i) (c - i)]).run Try.prog wr = .ok (.tuple #[]) (wr.setCells g (i * 2) (List.replicate ((xs.length - i) * 2) (.int .i64 0))) :=
          fun ty => run_clear_pairs wr ty g (i * 2) (xs.length - i) (c - i) (by omega) (fun t ht => by rw [hr.cellAt (i * 2 + t) (by omega), List.getElem?_eq_getElem (by omega)]; rfl) (fun t ht => hr.frozenAt _)
        have HE : Hid (∃ zs, (wr.setCells g (i * 2) (List.replicate ((xs.length - i) * 2) (.int .i64 0))).ownsRow base 59 2 (.slice (some ⟨g, 0, none⟩) xs.length c) xs.length zs ∧ zs.take (i * 2) = (flatZ ys).take (i * 2) ∧ Below base W (wr.setCells g (i * 2) (List.replicate ((xs.length - i) * 2) (.int .i64 0)))) := by
          obtain ⟨zs, z1, z2, z3⟩ := own_tail (i * 2) (.int .i64 0) ((xs.length - i) * 2) (i * 2) hr (Nat.le_refl _)
          exact ⟨zs, z1, z2, hbw.trans z3⟩
        have HI : Hid (i = (keep xs).length ∧ (flatZ ys).take (i * 2) = flat2 (keep xs)) := by
          obtain ⟨_, h1, h2, _⟩ := HG.out
          rw [List.take_of_length_le (Nat.le_refl _)] at h1 h2
          refine ⟨by rw [← kz_length]; exact h1, ?_⟩
          rw [← flatZ_kz, ← h2]
          conv => lhs; rw [← List.take_append_drop i ys, flatZ_append]
          rw [List.take_left' (by rw [flatZ_length, List.length_take]; omega)]
        clear hr hbw
        go_wp2
        go_ret
        obtain ⟨zs, z1, z2, z3⟩ := HE.out
        refine ⟨⟨_, rfl, ?_⟩, z3⟩
        have z4 := own_cut z1 (m := i) (by omega)
        rw [z2, HI.out.2] at z4
        rw [← HI.out.1]
        exact z4
end Go.Proofs.Ytohdijhpoddbbaa
/-
  All pairs of a kind: the program's, rune by rune over a stack.
-/
namespace Go.Proofs.Ytohdijhpoddbbaa
open Go.RowKit
open Pair
theorem Pair.own_mono {w : World} {base base' : Nat} {e : TypeId} {size : Nat} {v : Value} {n : Nat} {xs : List Value} (h : w.ownsRow base e size v n xs) (hb : base' ≤ base) : w.ownsRow base' e size v n xs :=
  ⟨h.1, h.2.imp id fun ⟨g, cap, cur, h1, h2, h3⟩ => ⟨g, cap, cur, h1, Nat.le_trans hb h2, h3⟩⟩
/-- Pairs of the call's own. -/
def Pair.Own2 (w : World) (L : List (Nat × Nat)) (e : Ending) (w' : World) : Prop := (∃ v, e = .returned v ∧ w'.ownsRow w.heap.size 59 2 v L.length (flat2 L)) ∧ Below w.heap.size w w'
theorem Pair.own2_nil {w w' : World} (h : Below w.heap.size w w') : Own2 w [] (.returned (.slice none 0 0)) w' := ⟨⟨_, rfl, World.ownsRow_nil _ _ _ _⟩, h⟩
theorem Pair.rune_test (r : List UInt8) (k : ByteArray) : ((bs r).toList == k.toList) = decide (r = k.data.toList) := by
  have e : k.toList = k.data.toList := by have := bs_tl k.data.toList; rwa [bs_data] at this
  rw [bs_tl, e, Bool.eq_iff_iff]
  simp
theorem Pair.drop_rune {rs : List (List UInt8)} {j : Nat} {r : List UInt8} (h : rs[j]? = some r) : rs.drop j = r :: rs.drop (j + 1) := by
  obtain ⟨hj, he⟩ := List.getElem?_eq_some_iff.1 h
  rw [List.drop_eq_getElem_cons hj, he]
set_option maxHeartbeats 2000000 in
set_option maxRecDepth 100000 in
theorem pair_All (s k : ByteArray) (hs : s.size ≤ 500000) (w : World) :
    Calls Try.prog 69 #[.string s, .string k] w fun e w' => Own2 w (Pair.all s.data.toList k.data.toList) e w' := by
  have hl := data_len s
  have c1 := Lib.hid (fun w => pair_closer k w)
  have c2 := Lib.hid (fun w => utf_Valid s (by omega) w)
  cases hk : clo k.data.toList with
  | none =>
    have H := Lib.hid (all_no (s := s.data.toList) (k := k.data.toList) (.inl hk))
    have e0 : cloL k.data.toList = [] := by rw [cloL, hk]
    rw [e0] at c1
    clear hk e0
    have g0 : ((bs []).toList == []) = true := by rw [bs_tl]; rfl
    go_enter Try.func69, Try.ntmps69
    go_wp2_with (go_at_call 84; refine (c1.out _).mono ?_; rintro e w1 ⟨rfl, rfl⟩)
    go_ret
    rw [H.out]
    exact own2_nil (Below.refl _ _)
  | some c =>
    obtain ⟨o, hko, hoc, ho, hc⟩ := clo_facts hk
    have e0 : cloL k.data.toList = [c] := by rw [cloL, hk]
    rw [e0] at c1
    have g0 : ((bs [c]).toList == []) = false := by rw [bs_tl]; rfl
    cases hd : Utf.dec s.data.toList with
    | none =>
      rw [Utf.valid_bad hd] at c2
      have H := Lib.hid (all_no (s := s.data.toList) (k := k.data.toList) (.inr (Utf.valid_bad hd)))
      clear hk hko hd e0
      go_enter Try.func69, Try.ntmps69
      go_wp2_with (first
        | (go_at_call 84; refine (c1.out _).mono ?_; rintro e w1 ⟨rfl, rfl⟩)
        | (go_at_call 22; refine (c2.out _).mono ?_; rintro e w1 ⟨rfl, rfl⟩))
      go_ret
      rw [H.out]
      exact own2_nil (Below.refl _ _)
    | some rs =>
      rw [Utf.valid_ok hd] at c2
      rw [hko] at hk
      have HM := Lib.hid (mach_all hd hk)
      have HK := Lib.hid hko
      have HD := Lib.hid hd
      have hlen : rs.length ≤ s.size := by
        have h1 := Line.off_ge' hd (Nat.le_refl _)
        have h2 := Utf.off_le rs rs.length
        rw [← (Utf.dec_some hd).2, hl] at h2
        omega
      obtain ⟨i0, hi, hz0, hz1, hz2⟩ := info_parts info_pair
      have tK := Lib.hid (fun r : List UInt8 => rune_test r k)
      have tC := Lib.hid (fun r : List UInt8 => rune_test r (bs [c]))
      have HOC := Lib.hid hoc
      clear hk hko hd e0 hoc
      go_enter Try.func69, Try.ntmps69
      go_wp2_with (first
        | (go_at_call 84; refine (c1.out _).mono ?_; rintro e w1 ⟨rfl, rfl⟩)
        | (go_at_call 22; refine (c2.out _).mono ?_; rintro e w1 ⟨rfl, rfl⟩))
      go_loopw [6] (fun lv wr => ∃ (j : Nat) (l : List (Nat × Int)) (st : List Nat) (A : Option Addr) (n cp : Nat) (ov : Value), lv = .slice A n cp ∧ n = l.length ∧ j ≤ rs.length ∧ l.length ≤ j ∧ st.length ≤ j ∧ St w wr s (Utf.off rs j) lv ov l st ∧ Hid (mach o c (rs.drop j) (Utf.off rs j) l st = mach o c rs 0 [] []) ∧ Hid (∀ k ∈ st, k < l.length)) (fun _ wr => s.size - wr.iterPos (w.heap.size + 1))
      case atStart =>
        refine ⟨0, [], [], none, 0, 0, .slice none 0 0, rfl, rfl, Nat.zero_le _, Nat.le_refl _, Nat.le_refl _, ⟨?_, ?_, World.ownsRow_nil _ _ _ _, World.ownsRow_nil _ _ _ _, ?_⟩, by rw [Utf.off_zero]; exact rfl, fun k h => by cases h⟩
        · exact (Blk.new w 93 #[.slice none 0 0]).alloc _
        · rw [Utf.off_zero]
          have := World.iter_heap (w.alloc (.cells #[.slice none 0 0] 93)) s 0
          rwa [World.size_alloc] at this
        · exact ((Below.refl w.heap.size w).alloc (Nat.le_refl _) _).alloc (by simp) _
      case round =>
        obtain ⟨j, l, st, A, n, cp, ov, rfl, rfl, hj, hlj, hsj, hS, HF, HT⟩ := hrel
        have hsz := hS.size
        have hit := hS.iter
        rcases rune_or_end (rs := rs) j with ⟨r, hr⟩ | hend
        · obtain ⟨hdc, hp, hoff, hle, hone⟩ := Key.decode_rune s HD.out hr
          have hcp := Key.cp_le hone
          have hpos := Utf.one_pos hone
          have hnx : ∀ ty, (Instr.next (.pointer (some ⟨w.heap.size + 1, 0, none⟩)) true ty).run Try.prog wr = _ := fun ty => Lib.run_next_any_at wr (w.heap.size + 1) s _ ty hit hp
          rw [hdc] at hnx
          simp only [] at hnx
          rw [← hoff] at hnx
          have hS2 := hS.next (Utf.off rs (j + 1))
          have hsz2 := Lib.iterAt_size wr (w.heap.size + 1) s (Utf.off rs (j + 1))
          have hen := Key.utf8_cp hone
          have hlt := (List.getElem?_eq_some_iff.1 hr).1
          have Hit := Lib.hid hit
          have Hoff := Lib.hid (And.intro hoff (And.intro hpos hle))
          have t1 := tK.out r
          have t2 := tC.out r
          rw [HK.out] at t1
          rw [bs_toList] at t2
          have HF2 := HF.out
          rw [drop_rune hr, mach_cons, ← hoff] at HF2
          clear hr hdc hit hoff hle hone HF hS
          generalize wr.iterAt (w.heap.size + 1) s (Utf.off rs (j + 1)) = wi at *
          have HS2 := Lib.hid hS2
          by_cases h1 : r = [o]
          · rw [decide_eq_true h1] at t1
            rw [if_pos h1] at HF2
            have HF3 := Lib.hid HF2
            have P := Lib.hid (pair_put l.length hS2 (by omega))
            clear hS2 HF2 t2 h1
            go_wp2_with (first
              | (go_at_call 85; refine P.out.mono ?_; rintro e w2 ⟨rfl, ov2, hS3⟩; have hs3 := hS3.size; have lr := hS3.lrow)
              | (at_builtin; refine wpList_append_own _ rfl _ _ 57 rfl (w.heap.size + 2) 59 i0 (.agg #[.int .i64 0, .int .i64 0]) 2 16 Try.underlying57 hi hz0 hz1 hz2 rfl (by decide) _ _ _ rfl (lr.alloc _) ⟨w2.heap.size, 0, none⟩ 1 1 [.int .i64 (Utf.off rs j : Nat), .int .i64 (-1)] rfl rfl ?e1 ?e2 ?e3 ?e4 ?e5 ?_))
            case e1 => exact pair_cells _ _ _ _
            case e2 => simp [Value.oneCell']
            case e3 => unfold maxLen; omega
            case e4 => omega
            case e5 => rw [World.size_alloc]; omega
            intro v' w4 hown' hgrow _
            have hS4 := (hS3.alloc (.cells #[.int .i64 (Utf.off rs j : Nat), .int .i64 (-1)] 59)).grownL (x := (Utf.off rs j, -1)) hgrow hown'
            obtain ⟨a', c', hv'⟩ := own_long hS4.lrow
            subst hv'
            have HS4 := Lib.hid hS4
            have HT4 : Hid (∀ q ∈ l.length :: st, q < (l ++ [(Utf.off rs j, (-1 : Int))]).length) := fun q hq => by
              rw [List.length_append, List.length_singleton]
              rcases List.mem_cons.1 hq with rfl | hq
              · omega
              · have := HT.out q hq; omega
            clear hS4 hown' hgrow hS3 lr
            go_wp2
            go_roundw
            case rel => exact ⟨j + 1, l ++ [(Utf.off rs j, -1)], l.length :: st, a', _, c', ov2, rfl, rfl, hlt, by simp; omega, by simp; omega, HS4.out, HF3, HT4⟩
            case measure =>
              simp only [World.iterPos, HS4.out.iter, Hit.out]
              have := Hoff.out; omega
          · rw [decide_eq_false h1] at t1
            rw [if_neg h1] at HF2
            by_cases h2 : r = [c]
            · rw [decide_eq_true h2] at t2
              rw [if_pos h2] at HF2
              cases st with
              | nil =>
                have HF3 := Lib.hid HF2
                have P := Lib.hid (pair_take_none hS2)
                clear hS2 HF2 h1 h2
                go_wp2_with (go_at_call 86; refine P.out.mono ?_; rintro e w2 ⟨rfl, hS3⟩; have HS3 := Lib.hid hS3; clear hS3)
                go_roundw
                case rel => exact ⟨j + 1, l, [], A, _, cp, ov, rfl, rfl, hlt, by omega, Nat.zero_le _, HS3.out, HF3, fun q hq => by cases hq⟩
                case measure =>
                  simp only [World.iterPos, HS3.out.iter, Hit.out]
                  have := Hoff.out; omega
              | cons q st =>
                have HF3 := Lib.hid HF2
                have hq : q < l.length := HT.out q (by simp)
                have P := Lib.hid (pair_take_some hS2 (by simp at hsj; omega))
                obtain ⟨g, cap, e, hbg, hg⟩ := hS2.lrow.form (by omega)
                injection e with e1 _ e3
                subst e1; subst e3
                obtain ⟨⟨y1, y2⟩, hy⟩ : ∃ y, l[q]? = some y := ⟨_, List.getElem?_eq_getElem hq⟩
                have HY := Lib.hid (flatZ_get l hy).2
                have HT4 : Hid (∀ x ∈ st, x < (l.modify q (fun x => (x.1, ((Utf.off rs j : Nat) : Int)))).length) := fun x hx => by
                  rw [List.length_modify]; exact HT.out x (by simp [hx])
                have hsj2 : st.length ≤ j := by simp at hsj; omega
                clear hS2 HF2 h1 h2 hy hg hsj
                go_wp2_with (go_at_call 86; refine P.out.mono ?_; rintro e w2 ⟨rfl, ov2, hS3⟩; have f1 := hS3.lrow.frozenAt (q * 2 + 1); have d1 := (hS3.lrow.cellAt (q * 2 + 1) (by omega)).trans HY.out; have HS3 := Lib.hid hS3; clear hS3)
                have HS4 := Lib.hid (HS3.out.shut (k := q) rfl ((Utf.off rs j : Nat) : Int))
                go_roundw
                case rel => exact ⟨j + 1, l.modify q (fun x => (x.1, ((Utf.off rs j : Nat) : Int))), st, some ⟨g, 0, none⟩, _, cp, ov2, rfl, by rw [List.length_modify], hlt, by rw [List.length_modify]; omega, by omega, HS4.out, HF3, HT4⟩
                case measure =>
                  simp only [World.iterPos, HS4.out.iter, Hit.out]
                  have := Hoff.out; omega
            · rw [decide_eq_false h2] at t2
              rw [if_neg h2] at HF2
              have HF3 := Lib.hid HF2
              clear hS2 HF2 h1 h2
              go_wp2
              go_roundw
              case rel => exact ⟨j + 1, l, st, A, _, cp, ov, rfl, rfl, hlt, by omega, by omega, HS2.out, HF3, HT⟩
              case measure =>
                simp only [World.iterPos, HS2.out.iter, Hit.out]
                have := Hoff.out; omega
        · obtain rfl : j = rs.length := by omega
          have hnx : ∀ ty, (Instr.next (.pointer (some ⟨w.heap.size + 1, 0, none⟩)) true ty).run Try.prog wr = _ := fun ty => Lib.run_next_end_at wr (w.heap.size + 1) s _ ty hit (by rw [off_len HD.out hend]; omega)
          have hF : l = mach o c rs 0 [] [] := by
            have := HF.out
            rwa [List.drop_length, mach] at this
          have hFin : Hid (Pair.all s.data.toList k.data.toList = keep l) := by show _ = _; rw [HK.out, ← HM.out, hF]
          have P := Lib.hid (sl_delete hS.lrow rfl (by omega) hsz)
          have HB := Lib.hid hS.below
          clear hit hS HF HT hF
          go_wp2_with (go_at_call 87; refine P.out.mono ?_; rintro e w2 ⟨⟨v, rfl, hr2⟩, hb2⟩)
          go_ret
          rw [hFin.out]
          exact ⟨⟨v, rfl, own_mono hr2 (by omega)⟩, HB.out.trans (hb2.mono (by omega))⟩
end Go.Proofs.Ytohdijhpoddbbaa
/-
  The pair around a place: the program's, over the pairs from the last one on.
-/
namespace Go.Proofs.Ytohdijhpoddbbaa
open Go.RowKit Go.Shelf
attribute [local go_sem] Oper.semAt_some
theorem blk_abide {B : Nat} {t : TypeId} {cs : Array Value} {X Y : World} {row : Option Nat} (h : Blk X B t cs) (hg : X.grownBy Y row) (hr : ∀ r, row = some r → ∃ o : Obj, X.heap[r]? = some o ∧ o.isCells = false) : Blk Y B t cs :=
  h.grown hg (fun e => by
    obtain ⟨o, ho, hc⟩ := hr B e.symm
    rw [show X.heap[B]? = _ from h] at ho
    cases ho; cases hc)
namespace Pair
theorem arnd_append (u v : List (Nat × Nat)) (p : Int) : arnd (u ++ v) p = match arnd v p with | some y => some y | none => arnd u p := by
  induction u with
  | nil => rw [List.nil_append, arnd]; cases arnd v p <;> rfl
  | cons x u ih =>
    rw [List.cons_append, arnd, ih, arnd]
    cases arnd v p <;> rfl
/-- Is a pair around a place? -/
def Abt (x : Nat × Nat) (p : Int) : Prop := (x.1 : Int) ≤ p ∧ p ≤ x.2
theorem arnd_none {l : List (Nat × Nat)} {p : Int} (h : ∀ x ∈ l, ¬ Abt x p) : arnd l p = none := by
  cases hz : arnd l p with
  | none => rfl
  | some z =>
    obtain ⟨h1, h2⟩ := arnd_mem hz
    exact absurd h2 (h z h1)
theorem arnd_rev {l a b : List (Nat × Nat)} {x : Nat × Nat} {p : Int} (hl : l.reverse = a ++ x :: b) (ha : ∀ y ∈ a, ¬ Abt y p) (hx : Abt x p) : arnd l p = some x := by
  have e : l = b.reverse ++ x :: a.reverse := by
    have := congrArg List.reverse hl
    rw [List.reverse_reverse] at this
    rw [this]; simp
  rw [e, arnd_append, arnd, arnd_none (l := a.reverse) (fun y hy => ha y (by simpa using hy))]
  simp only []
  rw [if_pos (show (x.1 : Int) ≤ p ∧ p ≤ x.2 from hx)]
/-- None of these is around the place. -/
def Off (l : List (Nat × Nat × Nat)) (p : Int) : Prop := ∀ y ∈ l, ¬ Abt y.2 p
/-- What a round that goes on keeps: the slice's box, and its pairs. -/
def Keep (B : Nat) (A : Option Addr) (W W' : World) : Prop := W'.heap[B]? = W.heap[B]? ∧ ∀ a, A = some a → W'.heap[a.block]? = W.heap[a.block]?
theorem Keep.t {B : Nat} {A : Option Addr} {X Y Z : World} (h : Keep B A X Y) (k : Keep B A Y Z) : Keep B A X Z := ⟨k.1.trans h.1, fun a e => (k.2 a e).trans (h.2 a e)⟩
theorem Keep.b {B m : Nat} {A : Option Addr} (h : B < m) (hA : ∀ a, A = some a → a.block < m) (W : World) (l : Nat) (o o' : Obj) (hl : m ≤ l) (_ : W.heap[l]? = some o) (_ : o.isCells = false) (_ : o.isWalk = false) : Keep B A W (W.putObj l o') :=
  ⟨World.putObj_heap_other (by omega), fun a e => World.putObj_heap_other (by have := hA a e; omega)⟩
theorem Keep.pairs {B : Nat} {A : Option Addr} {W W' : World} {L : List (Nat × Nat)} (h : Keep B A W W') (k : Pairs W A L) : Pairs W' A L := fun h0 => by
  obtain ⟨g, rfl, hg, hc⟩ := k h0
  have hb : W'.heap[g]? = W.heap[g]? := h.2 _ rfl
  have h1 : W.heap[g]? = some W.heap[g] := Array.getElem?_eq_getElem hg
  refine ⟨g, rfl, (Array.getElem?_eq_some_iff.1 (hb.trans h1)).1, fun j x hx => ?_⟩
  have c0 : W'.cell? ⟨g, j * 2, none⟩ = W.cell? ⟨g, j * 2, none⟩ := World.cell?_of_block hb
  have c1 : W'.cell? ⟨g, j * 2 + 1, none⟩ = W.cell? ⟨g, j * 2 + 1, none⟩ := World.cell?_of_block hb
  rw [c0, c1]
  exact hc j x hx
/-- What is handed on of a pair. -/
abbrev encP (x : Nat × Nat × Nat) : Array Value := #[.int .i64 (x.1 : Nat), .agg #[.int .i64 (x.2.1 : Nat), .int .i64 (x.2.2 : Nat)]]
theorem take_rev {L : List (Nat × Nat)} {k : Nat} {x : Nat × Nat} (h : L[k]? = some x) : (L.take (k + 1)).reverse = x :: (L.take k).reverse := by
  rw [List.take_add_one, h]; simp
end Pair
open Pair
theorem sl_back (A : Option Addr) (m c : Nat) (w : World) :
    Calls Try.prog 68 #[.slice A m c] w fun e w' => e = .returned (.func (.func 83) #[] #[.pointer (some ⟨w.heap.size, 0, none⟩)]) ∧ w' = w.alloc (.cells #[.slice A m c] 57) := by
  go_enter Try.func68, Try.ntmps68
  go_wp2
  go_ret
  exact ⟨rfl, rfl⟩
set_option maxRecDepth 100000 in
set_option maxHeartbeats 1000000 in
theorem back_seq (n : Nat) (hn : 1 ≤ n) (l Bn : Nat) (A : Option Addr) (cp : Nat) (L : List (Nat × Nat)) (hL : L.length ≤ 500000) (J Jx : List (Nat × Nat × Nat) → World → Prop)
    (hY : ∀ pre x W, J pre W → pre.length < L.length → YieldAt Fence.wide (n - 1) Try.prog l (encP x) W fun e W' =>
      (e = .returned (.bool true) ∧ J (pre ++ [x]) W' ∧ Keep Bn A W W') ∨ (e = .returned (.bool false) ∧ Jx (pre ++ [x]) W'))
    (W : World) (hBn : Boxed W Bn 57 (.slice A L.length cp)) (hP : Pairs W A L) (h0 : J [] W) :
    CallsIn Fence.wide n Try.prog 83 #[.func (.yield l) #[] #[], .pointer (some ⟨Bn, 0, none⟩)] W fun e W' => (∃ v, e = .returned v) ∧
      ((∃ ys, ys.map Prod.snd = L.reverse ∧ J ys W') ∨ (∃ pre, pre.map Prod.snd <+: L.reverse ∧ Jx pre W')) := by
  refine callsIn_of_wp Try.func83 rfl trivial ?_ rfl
  simp only [Try.ntmps83, List.size_toArray, List.length_cons, List.length_nil, Nat.reduceAdd, Nat.reduceSub, Array.replicate_succ, Array.replicate_zero, List.push_toArray, List.append_toArray, List.nil_append, List.cons_append]
  have hBc := hBn.cell
  have H0 := Lib.hid (And.intro h0 (And.intro hBn hP))
  clear h0 hBn hP
  gi_wp2
  gi_loopw [3] (fun iv wr => ∃ (pre : List (Nat × Nat × Nat)) (m : Nat), iv = .int .i64 ((m : Int) - 1) ∧ m ≤ L.length ∧ Hid (pre.map Prod.snd ++ (L.take m).reverse = L.reverse) ∧ J pre wr ∧ Boxed wr Bn 57 (.slice A L.length cp) ∧ Hid (Pairs wr A L)) (fun iv _ => (intOf iv + 1).toNat)
  case atStart => exact ⟨[], L.length, rfl, Nat.le_refl _, by show _ = _; simp, H0.out.1, H0.out.2.1, H0.out.2.2⟩
  case round =>
    obtain ⟨pre, m, rfl, hm, K, hJ, hbx, HP⟩ := hrel
    have hc := hbx.cell
    clear hBc H0
    cases m with
    | zero =>
      have hfull : Hid (pre.map Prod.snd = L.reverse) := by
        have := K.out
        rwa [List.take_zero, List.reverse_nil, List.append_nil] at this
      clear hY
      rw [show (((0 : Nat) : Int) - 1) = -1 from rfl]
      gi_wp2
      go_end0
      exact ⟨⟨_, rfl⟩, .inl ⟨_, hfull.out, hJ⟩⟩
    | succ m =>
      rw [show (((m + 1 : Nat) : Int) - 1) = (m : Int) by omega]
      obtain ⟨⟨a, b⟩, hx⟩ : ∃ x, L[m]? = some x := ⟨_, List.getElem?_eq_getElem (by omega)⟩
      obtain ⟨g, rfl, a0, a1⟩ := HP.out.at_ hx
      dsimp only at a0 a1
      have K2 : Hid ((pre ++ [(m, a, b)]).map Prod.snd ++ (L.take m).reverse = L.reverse) := by
        show _ = _
        rw [← K.out, take_rev hx]
        simp
      have hpre : pre.length < L.length := by
        have := congrArg List.length K.out
        simp at this
        omega
      obtain ⟨fn, tmps, assign, body, hy, hR⟩ := hY pre (m, a, b) wr hJ hpre
      dsimp only [encP] at hy
      clear hY hJ hx K hpre
      gi_wp2
      refine hR.mono ?_
      rintro e W3 (⟨rfl, hJ3, hk3⟩ | ⟨rfl, hJx3⟩)
      · have hc3 : Boxed W3 Bn 57 (.slice (some ⟨g, 0, none⟩) L.length cp) := hk3.1.trans hbx
        have HP3 := Lib.hid (hk3.pairs HP.out)
        gi_wp2
        go_roundw
        case rel => exact ⟨pre ++ [(m, a, b)], m, by go_num, by omega, K2, hJ3, hc3, HP3⟩
        case measure => simp [intOf]
      · gi_wp2
        refine bodyPost_ret (results_none rfl _ _ _) rfl ?_
        exact ⟨⟨_, rfl⟩, .inr ⟨pre ++ [(m, a, b)], ⟨_, K2.out⟩, hJx3⟩⟩
theorem back_stops (n : Nat) (hn : 1 ≤ n) (Bn : Nat) (A : Option Addr) (cp : Nat) (L : List (Nat × Nat)) (hL : L.length ≤ 500000) (w : World) (hBn : Boxed w Bn 57 (.slice A L.length cp)) (hP : Pairs w A L) :
    SeqStopsK Fence.wide n Try.prog 83 #[.pointer (some ⟨Bn, 0, none⟩)] encP (Keep Bn A) (fun ys => ys.map Prod.snd = L.reverse) (fun pre => pre.map Prod.snd <+: L.reverse) L.length w :=
  fun l J Jx W hW _ _ hY h0 => back_seq n hn l Bn A cp L hL J Jx hY W ((hW.block Bn hBn.lt).trans hBn) (hP.below hW) h0
set_option maxRecDepth 100000 in
set_option maxHeartbeats 2000000 in
theorem pair_Around (s : ByteArray) (p : Int) (k : ByteArray) (hs : s.size ≤ 500000) (w : World) :
    Calls Try.prog 45 #[.string s, .int .i64 p, .string k] w fun e w' => e = .returned (resA (ar s.data.toList k.data.toList p)) ∧ Below w.heap.size w w' := by
  have hl := data_len s
  have c1 := Lib.hid (fun w => utf_Place s p (by omega) w)
  refine (callsIn_wide (n := 3)).1 ?_
  refine callsIn_of_wp_marks Try.func45 rfl trivial ?_ rfl
  simp only [Try.ntmps45, List.size_toArray, List.length_cons, List.length_nil, Nat.reduceAdd, Nat.reduceSub, Array.replicate_succ, Array.replicate_zero, List.push_toArray, List.append_toArray, List.nil_append, List.cons_append]
  have b0 := Boxed.new w 3 (.int .i64 p)
  have hB0 := (Below.refl w.heap.size w).alloc (Nat.le_refl _) (.cells #[.int .i64 p] 3)
  have b1 := Boxed.new (w.alloc (.cells #[.int .i64 p] 3)) 3 (.int .i64 0)
  have hB1 := hB0.alloc (by simp) (.cells #[.int .i64 0] 3)
  have b2 := Boxed.new ((w.alloc (.cells #[.int .i64 p] 3)).alloc (.cells #[.int .i64 0] 3)) 3 (.int .i64 0)
  have hB2 := hB1.alloc (by simp; omega) (.cells #[.int .i64 0] 3)
  have b3 := Boxed.new (((w.alloc (.cells #[.int .i64 p] 3)).alloc (.cells #[.int .i64 0] 3)).alloc (.cells #[.int .i64 0] 3)) 4 (.bool false)
  have hB3 := hB2.alloc (by simp; omega) (.cells #[.bool false] 4)
  simp only [World.size_alloc] at b1 b2 b3
  have d0 := ((b0.alloc (.cells #[.int .i64 0] 3)).alloc (.cells #[.int .i64 0] 3)).alloc (.cells #[.bool false] 4)
  have d1 := (b1.alloc (.cells #[.int .i64 0] 3)).alloc (.cells #[.bool false] 4)
  have d2 := b2.alloc (.cells #[.bool false] 4)
  clear b0 b1 b2 hB0 hB1 hB2
  cases hp : Utf.place s.data.toList p with
  | false =>
    rw [hp] at c1
    have H : Hid (ar s.data.toList k.data.toList p = none) := by show _ = _; rw [ar, if_neg (by simp [hp])]
    clear hp
    gi_wp2_with (refine ⟨trivial, ?_⟩; gi_at_call 11; refine (callsIn_wide.2 (c1.out _)).mono ?_; rintro e w' ⟨rfl, rfl⟩)
    have e1 := d1.cell
    have e2 := d2.cell
    have e3 := b3.cell
    refine ⟨.tuple #[.int .i64 0, .int .i64 0, .bool false], ?_, by rw [H.out]; rfl, hB3⟩
    simp only [results, Try.f45]
    simp [go_sem, e1, e2, e3]
  | true =>
    rw [hp] at c1
    have HA : Hid (ar s.data.toList k.data.toList p = arnd (Pair.all s.data.toList k.data.toList) p) := if_pos hp
    have c2 := Lib.hid (fun w => pair_All s k hs w)
    have hlen := all_length s.data.toList k.data.toList
    rw [hl] at hlen
    generalize Pair.all s.data.toList k.data.toList = L at *
    have hz : ((((w.alloc (.cells #[.int .i64 p] 3)).alloc (.cells #[.int .i64 0] 3)).alloc (.cells #[.int .i64 0] 3)).alloc (.cells #[.bool false] 4)).heap.size = w.heap.size + 4 := by simp
    clear hp
    gi_wp2_with (refine ⟨trivial, ?_⟩; (first
      | (gi_at_call 11; refine (callsIn_wide.2 (c1.out _)).mono ?_; rintro e w' ⟨rfl, rfl⟩)
      | (gi_at_call 69; refine (callsIn_wide.2 (c2.out _)).mono ?_; rintro e w5 ⟨⟨v, rfl, hr⟩, hb⟩; obtain ⟨A, cp, rfl⟩ := own_long hr)
      | (gi_at_call 68; refine (callsIn_wide.2 (sl_back _ _ _ _)).mono ?_; rintro e w6 ⟨rfl, rfl⟩)))
    rw [hz] at hb hr
    have hsz := hb.size
    rw [hz] at hsz
    have i0 : Boxed w5 w.heap.size 3 (.int .i64 p) := (hb.block _ (by omega)).trans d0
    have i1 : Boxed w5 (w.heap.size + 1) 3 (.int .i64 0) := (hb.block _ (by omega)).trans d1
    have i2 : Boxed w5 (w.heap.size + 1 + 1) 3 (.int .i64 0) := (hb.block _ (by omega)).trans d2
    have i3 : Boxed w5 (w.heap.size + 1 + 1 + 1) 4 (.bool false) := (hb.block _ (by omega)).trans b3
    have hB5 : Below w.heap.size w w5 := hB3.trans (hb.mono (by omega))
    have hP := Pairs.of_own hr rfl
    have hA : ∀ a, A = some a → a.block < (w5.alloc (.cells #[.slice A L.length cp] 57)).heap.size := fun a e => by
      subst e
      have := (hr.lt a.block rfl).2
      rw [World.size_alloc]; omega
    have bN := Boxed.new w5 57 (.slice A L.length cp)
    have hP6 := hP.below ((Below.refl w5.heap.size w5).alloc (Nat.le_refl _) (.cells #[.slice A L.length cp] 57))
    clear d0 d1 d2 b3 hB3 hb hr hz
    refine wpIn_rangeFunc_ownH rfl (by decide) (gf := 83) (lb := #[.pointer (some ⟨w5.heap.size, 0, none⟩)]) rfl trivial (enters_of Try.func83 (by kernel_rfl) rfl)
      (back_stops _ (by decide) w5.heap.size A cp L (by omega) _ bN hP6) Keep.t (Keep.b (by simp) hA) (Below.refl _ _) (fun _ => rfl)
      (fun pre W => (w5.heap.size + 1 ≤ W.heap.size ∧ Off pre p) ∧ Boxed W w.heap.size 3 (.int .i64 p) ∧ Boxed W (w.heap.size + 1) 3 (.int .i64 0) ∧ Boxed W (w.heap.size + 1 + 1) 3 (.int .i64 0) ∧ Boxed W (w.heap.size + 1 + 1 + 1) 4 (.bool false) ∧ Below w.heap.size w W)
      (fun c pre W => ∃ pre' x, c = .ret ∧ pre = pre' ++ [x] ∧ (Off pre' p ∧ Abt x.2 p) ∧ Boxed W (w.heap.size + 1) 3 (.int .i64 (x.2.1 : Nat)) ∧ Boxed W (w.heap.size + 1 + 1) 3 (.int .i64 (x.2.2 : Nat)) ∧ Boxed W (w.heap.size + 1 + 1 + 1) 4 (.bool true) ∧ Below w.heap.size w W)
      (fun pre X Y row ⟨hn, i0, i1, i2, i3, hi⟩ hg hr => ⟨⟨Nat.le_trans hn.1 hg.size, hn.2⟩, boxed_abide i0 hg (fun r e => (hr r e).2), boxed_abide i1 hg (fun r e => (hr r e).2), boxed_abide i2 hg (fun r e => (hr r e).2), boxed_abide i3 hg (fun r e => (hr r e).2), below_abide hi (Nat.le_refl _) (by rw [World.size_alloc]; omega) hg (fun r e => (hr r e).1)⟩)
      (fun c pre X Y row ⟨pre', x, hc, hp, hk, i1, i2, i3, hi⟩ hg hr => ⟨pre', x, hc, hp, hk, boxed_abide i1 hg (fun r e => (hr r e).2), boxed_abide i2 hg (fun r e => (hr r e).2), boxed_abide i3 hg (fun r e => (hr r e).2), below_abide hi (Nat.le_refl _) (by rw [World.size_alloc]; omega) hg (fun r e => (hr r e).1)⟩)
      ⟨⟨by rw [World.size_alloc]; exact Nat.le_refl _, fun y hy => absurd hy (by simp)⟩, i0.alloc _, i1.alloc _, i2.alloc _, i3.alloc _, hB5.alloc hB5.size _⟩
      (fun x a' W => ∃ Bx, w.heap.size + 4 ≤ Bx ∧ Blk W Bx 59 #[.int .i64 (x.2.1 : Nat), .int .i64 (x.2.2 : Nat)] ∧ a' = { tmps := #[.string s, .int .i64 p, .string k, undef, .pointer (some ⟨w.heap.size, 0, none⟩), undef, .pointer (some ⟨w.heap.size + 1, 0, none⟩), .pointer (some ⟨w.heap.size + 1 + 1, 0, none⟩), .pointer (some ⟨w.heap.size + 1 + 1 + 1, 0, none⟩), undef, .pointer (some ⟨Bx, 0, none⟩), .string s, .int .i64 p, .bool true, .bool false, .string s, .string k, .slice A L.length cp, .func (.func 83) #[] #[.pointer (some ⟨w5.heap.size, 0, none⟩)], .int .i64 (x.1 : Nat), .agg #[.int .i64 (x.2.1 : Nat), .int .i64 (x.2.2 : Nat)], undef, undef, undef, undef, undef, undef, undef, undef, undef, undef, undef, undef, undef, undef], defers := [] })
      (fun x a' _ X Y row hs hg hr => by obtain ⟨Bx, e1, e2, e3⟩ := hs; exact ⟨Bx, e1, blk_abide e2 hg (fun r e => (hr r e).2), e3⟩)
      ?assign ?body ?done ?stop
    case assign =>
      rintro l pre x W K ⟨hn, i0, i1, i2, i3, hB⟩ hK
      have hkeep : Keep w5.heap.size A W (W.alloc (.cells #[.int .i64 (x.2.1 : Nat), .int .i64 (x.2.2 : Nat)] 59)) := ⟨Below.heap_alloc _ _ _ (by omega), fun a e => Below.heap_alloc _ _ _ (by have := hA a e; rw [World.size_alloc] at this; omega)⟩
      have H0 := Lib.hid (hK _ _ ((KeepsOthers.alloc _ _).from _) hkeep ⟨⟨by rw [World.size_alloc]; omega, hn.2⟩, i0.alloc _, i1.alloc _, i2.alloc _, i3.alloc _, hB.alloc hB.size _⟩ ⟨W.heap.size, by omega, Blk.new W 59 #[.int .i64 (x.2.1 : Nat), .int .i64 (x.2.2 : Nat)], rfl⟩)
      clear hkeep i0 i1 i2 i3 hB
      simp only [encP]
      gi_wp2
      exact H0.out
    case body =>
      rintro l pre ⟨m, a, b⟩ a' W hl2 hr2 ⟨hn, i0, i1, i2, i3, hB⟩ ⟨Bx, hBx, hx, rfl⟩ hlt
      have c0 := i0.cell
      have x0 := hx.cell 0
      have x1 := hx.cell 1
      by_cases h1 : (a : Int) ≤ p
      · by_cases h2 : p ≤ (b : Int)
        · have f1 := i1.cell
          have q1 := i1.frozen
          have f2 := i2.cell
          have q2 := i2.frozen
          have f3 := i3.cell
          have q3 := i3.frozen
          gi_wp2
          gi_region
          all_goals
            gi_wp2
            have kk := (((KeepsOthers.setCell W ⟨w.heap.size + 1, 0, none⟩ (.int .i64 (a : Nat))).trans (KeepsOthers.setCell _ ⟨w.heap.size + 1 + 1, 0, none⟩ (.int .i64 (b : Nat)))).trans (KeepsOthers.setCell _ ⟨w.heap.size + 1 + 1 + 1, 0, none⟩ (.bool true))).from (w5.alloc (.cells #[.slice A L.length cp] 57)).heap.size
            have kb := ((hB.setCell (p := ⟨w.heap.size + 1, 0, none⟩) (by simp) (.int .i64 (a : Nat))).setCell (p := ⟨w.heap.size + 1 + 1, 0, none⟩) (by simp; omega) (.int .i64 (b : Nat))).setCell (p := ⟨w.heap.size + 1 + 1 + 1, 0, none⟩) (by simp; omega) (.bool true)
            exact ⟨⟨kk.size, kk.same⟩, pre, (m, a, b), rfl, rfl, ⟨hn.2, h1, h2⟩, boxed_far (boxed_far (i1.set (.int .i64 (a : Nat))) (C := w.heap.size + 1 + 1) (by omega) (.int .i64 (b : Nat))) (C := w.heap.size + 1 + 1 + 1) (by omega) (.bool true), boxed_far ((boxed_far i2 (C := w.heap.size + 1) (by omega) (.int .i64 (a : Nat))).set (.int .i64 (b : Nat))) (C := w.heap.size + 1 + 1 + 1) (by omega) (.bool true), (boxed_far (boxed_far i3 (C := w.heap.size + 1) (by omega) (.int .i64 (a : Nat))) (C := w.heap.size + 1 + 1) (by omega) (.int .i64 (b : Nat))).set (.bool true), kb.drew⟩
        · have HI : Hid ((w5.heap.size + 1 ≤ W.heap.size ∧ Off (pre ++ [(m, a, b)]) p) ∧ Boxed W w.heap.size 3 (.int .i64 p) ∧ Boxed W (w.heap.size + 1) 3 (.int .i64 0) ∧ Boxed W (w.heap.size + 1 + 1) 3 (.int .i64 0) ∧ Boxed W (w.heap.size + 1 + 1 + 1) 4 (.bool false) ∧ Below w.heap.size w W) :=
            ⟨⟨hn.1, fun y hy => by
              rcases List.mem_append.1 hy with h | h
              · exact hn.2 y h
              · rw [List.mem_singleton] at h; subst h; exact fun k => h2 k.2⟩, i0, i1, i2, i3, hB⟩
          clear i0 i1 i2 i3 hB hn hx
          gi_wp2
          exact ⟨KeepsFrom.refl _ _, ⟨rfl, fun _ _ => rfl⟩, HI.out⟩
      · have HI : Hid ((w5.heap.size + 1 ≤ W.heap.size ∧ Off (pre ++ [(m, a, b)]) p) ∧ Boxed W w.heap.size 3 (.int .i64 p) ∧ Boxed W (w.heap.size + 1) 3 (.int .i64 0) ∧ Boxed W (w.heap.size + 1 + 1) 3 (.int .i64 0) ∧ Boxed W (w.heap.size + 1 + 1 + 1) 4 (.bool false) ∧ Below w.heap.size w W) :=
          ⟨⟨hn.1, fun y hy => by
            rcases List.mem_append.1 hy with h | h
            · exact hn.2 y h
            · rw [List.mem_singleton] at h; subst h; exact fun k => h1 k.1⟩, i0, i1, i2, i3, hB⟩
        clear i0 i1 i2 i3 hB hn hx
        gi_wp2
        exact ⟨KeepsFrom.refl _ _, ⟨rfl, fun _ _ => rfl⟩, HI.out⟩
    case done =>
      rintro D ys W hD hys ⟨hn, i0, i1, i2, i3, hB⟩ hK
      have H : Hid (ar s.data.toList k.data.toList p = none) := by
        show _ = _
        rw [HA.out]
        refine arnd_none fun x hx => ?_
        have hx2 : x ∈ ys.map Prod.snd := by rw [hys]; exact List.mem_reverse.2 hx
        obtain ⟨y, hy, rfl⟩ := List.mem_map.1 hx2
        exact hn.2 y hy
      have c1 := i1.cell
      have f1 := i1.frozen
      have c2 := i2.cell
      have f2 := i2.frozen
      have c3 := i3.cell
      have f3 := i3.frozen
      gi_wp2
      have hK' := (((KeepsOthers.setCell W ⟨w.heap.size + 1, 0, none⟩ (.int .i64 0)).trans (KeepsOthers.setCell _ ⟨w.heap.size + 1 + 1, 0, none⟩ (.int .i64 0))).trans (KeepsOthers.setCell _ ⟨w.heap.size + 1 + 1 + 1, 0, none⟩ (.bool false))).same D _ hK rfl
      have j1 := boxed_far (boxed_far (i1.set (.int .i64 0)) (C := w.heap.size + 1 + 1) (by omega) (.int .i64 0)) (C := w.heap.size + 1 + 1 + 1) (by omega) (.bool false)
      have j2 := boxed_far ((boxed_far i2 (C := w.heap.size + 1) (by omega) (.int .i64 0)).set (.int .i64 0)) (C := w.heap.size + 1 + 1 + 1) (by omega) (.bool false)
      have j3 := (boxed_far (boxed_far i3 (C := w.heap.size + 1) (by omega) (.int .i64 0)) (C := w.heap.size + 1 + 1) (by omega) (.int .i64 0)).set (.bool false)
      have d1 := (putObj_boxed (o' := .deferred none) j1 hK' rfl).cell
      have d2 := (putObj_boxed (o' := .deferred none) j2 hK' rfl).cell
      have d3 := (putObj_boxed (o' := .deferred none) j3 hK' rfl).cell
      refine ⟨by simp, .inl ⟨_, _, rfl, run_takeDeferred hK', ?_⟩⟩
      refine ⟨.tuple #[.int .i64 0, .int .i64 0, .bool false], ?_, by rw [H.out]; rfl, (((hB.setCell (p := ⟨w.heap.size + 1, 0, none⟩) (by simp) _).setCell (p := ⟨w.heap.size + 1 + 1, 0, none⟩) (by simp; omega) _).setCell (p := ⟨w.heap.size + 1 + 1 + 1, 0, none⟩) (by simp; omega) _).trans (belowK_b (w := w) (Nat.le_refl _) _ D _ _ (by rw [World.size_alloc] at hD; omega) hK' rfl rfl)⟩
      simp [results, Try.f45, go_sem, d1, d2, d3]
    case stop =>
      rintro D c pre W hD hpre ⟨pre', x, rfl, rfl, ⟨h1, h2⟩, i1, i2, i3, hB⟩ hK
      have H : Hid (ar s.data.toList k.data.toList p = some x.2) := by
        show _ = _
        rw [HA.out]
        obtain ⟨t, ht⟩ := hpre
        rw [List.map_append, List.map_cons, List.map_nil, List.append_assoc, List.singleton_append] at ht
        exact arnd_rev ht.symm (fun y hy => by obtain ⟨z, hz, rfl⟩ := List.mem_map.1 hy; exact h1 z hz) h2
      gi_wp2
      have e1 := (putObj_boxed (o' := .deferred none) i1 hK rfl).cell
      have e2 := (putObj_boxed (o' := .deferred none) i2 hK rfl).cell
      have e3 := (putObj_boxed (o' := .deferred none) i3 hK rfl).cell
      refine ⟨by simp, .inl ⟨_, _, rfl, run_takeDeferred hK, ?_⟩⟩
      refine ⟨.tuple #[.int .i64 (x.2.1 : Nat), .int .i64 (x.2.2 : Nat), .bool true], ?_, by rw [H.out]; rfl, hB.trans (belowK_b (w := w) (Nat.le_refl _) W D _ _ (by rw [World.size_alloc] at hD; omega) hK rfl rfl)⟩
      simp [results, Try.f45, go_sem, e1, e2, e3]
end Go.Proofs.Ytohdijhpoddbbaa
