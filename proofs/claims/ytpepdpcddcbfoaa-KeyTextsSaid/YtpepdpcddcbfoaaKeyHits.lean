/-
  Which of the eight names some bytes begin with, one name tried behind the other; the document's names of the eight keys, which turn nothing.
-/
import Derived.Test.YtpepdpcddcbfoaaKeyRef
namespace Go.Proofs.Ytpepdpcddcbfoaa
open Go.RowKit
namespace Key
open Utf
/-- The name that was found among the first j: its key, and how long it is. -/
def hk (T : List UInt8) : Nat → List UInt8 × Nat
  | 0 => ([], 1)
  | j + 1 => match tab[j]? with
    | some p => if p.2.isPrefixOf T then ([UInt8.ofNat p.1], p.2.length) else hk T j
    | none => hk T j
theorem hk_hit {T : List UInt8} {j : Nat} {p : Nat × List UInt8} (h : tab[j]? = some p) (k : p.2 <+: T) : hk T (j + 1) = ([UInt8.ofNat p.1], p.2.length) := by
  simp only [hk, h, List.isPrefixOf_iff_prefix.2 k, if_true]
theorem hk_miss {T : List UInt8} {j : Nat} {p : Nat × List UInt8} (h : tab[j]? = some p) (k : ¬ p.2 <+: T) : hk T (j + 1) = hk T j := by
  have : p.2.isPrefixOf T = false := by
    cases e : p.2.isPrefixOf T with
    | false => rfl
    | true => exact absurd (List.isPrefixOf_iff_prefix.1 e) k
  simp only [hk, h, this, Bool.false_eq_true, if_false]
theorem hk_some (T : List UInt8) (j : Nat) (hj : j ≤ 8) :
    (hk T j = ([], 1) ∧ ∀ i p, i < j → tab[i]? = some p → ¬ p.2 <+: T) ∨ ∃ p ∈ tab, p.2 <+: T ∧ hk T j = ([UInt8.ofNat p.1], p.2.length) := by
  induction j with
  | zero => exact .inl ⟨rfl, fun i p h => by omega⟩
  | succ j ih =>
    obtain ⟨p, hp⟩ : ∃ p, tab[j]? = some p := ⟨_, List.getElem?_eq_getElem (show j < tab.length by show j < 8; omega)⟩
    by_cases hk' : p.2 <+: T
    · exact .inr ⟨p, List.mem_of_getElem? hp, hk', hk_hit hp hk'⟩
    · rw [hk_miss hp hk']
      rcases ih (by omega) with ⟨h1, h2⟩ | h
      · refine .inl ⟨h1, fun i q hi hq => ?_⟩
        rcases Nat.lt_or_ge i j with h3 | h3
        · exact h2 i q h3 hq
        · obtain rfl : i = j := by omega
          rw [hp] at hq
          cases hq
          exact hk'
      · exact .inr h
theorem hk_all (T : List UInt8) : (hk T 8 = ([], 1) ∧ ∀ n l, nm n = some l → ¬ l <+: T) ∨ ∃ n l, nm n = some l ∧ l <+: T ∧ hk T 8 = ([UInt8.ofNat n], l.length) := by
  rcases hk_some T 8 (by omega) with ⟨h1, h2⟩ | ⟨p, h1, h2, h3⟩
  · refine .inl ⟨h1, fun n l h => ?_⟩
    obtain ⟨i, hi⟩ := List.mem_iff_getElem?.1 (nm_tab.1 h)
    exact h2 i (n, l) (by have := (List.getElem?_eq_some_iff.1 hi).1; exact this) hi
  · exact .inr ⟨p.1, p.2, nm_tab.2 h1, h2, h3⟩
end Key
set_option maxHeartbeats 1000000 in
set_option maxRecDepth 100000 in
theorem ref13_Name_key {c : Nat} {l : List UInt8} (h : (c, l) ∈ Key.tab) (w : World) :
    Calls Try.prog 12 #[.string (bs [UInt8.ofNat c])] w fun e w' => e = .returned (.string (bs l)) ∧ w = w' := by
  simp only [Key.tab, List.mem_cons, Prod.mk.injEq, List.not_mem_nil, or_false] at h
  have t : ∀ a b : UInt8, ((bs [a]).toList == [b]) = decide (a = b) := fun a b => by rw [text_test, bs_toList]; simp
  rcases h with ⟨rfl, rfl⟩ | ⟨rfl, rfl⟩ | ⟨rfl, rfl⟩ | ⟨rfl, rfl⟩ | ⟨rfl, rfl⟩ | ⟨rfl, rfl⟩ | ⟨rfl, rfl⟩ | ⟨rfl, rfl⟩
  · have g8 : ((bs [UInt8.ofNat 8]).toList == [8]) = true := by rw [t]; decide
    generalize bs [UInt8.ofNat 8] = X at *
    clear t
    go_enter Try.func12, Try.ntmps12
    go_wp2
    go_ret
    exact ⟨rfl, rfl⟩
  · have g8 : ((bs [UInt8.ofNat 9]).toList == [8]) = false := by rw [t]; decide
    have g9 : ((bs [UInt8.ofNat 9]).toList == [9]) = true := by rw [t]; decide
    generalize bs [UInt8.ofNat 9] = X at *
    clear t
    go_enter Try.func12, Try.ntmps12
    go_wp2
    go_ret
    exact ⟨rfl, rfl⟩
  · have g8 : ((bs [UInt8.ofNat 13]).toList == [8]) = false := by rw [t]; decide
    have g9 : ((bs [UInt8.ofNat 13]).toList == [9]) = false := by rw [t]; decide
    have g13 : ((bs [UInt8.ofNat 13]).toList == [13]) = true := by rw [t]; decide
    generalize bs [UInt8.ofNat 13] = X at *
    clear t
    go_enter Try.func12, Try.ntmps12
    go_wp2
    go_ret
    exact ⟨rfl, rfl⟩
  · have g8 : ((bs [UInt8.ofNat 18]).toList == [8]) = false := by rw [t]; decide
    have g9 : ((bs [UInt8.ofNat 18]).toList == [9]) = false := by rw [t]; decide
    have g13 : ((bs [UInt8.ofNat 18]).toList == [13]) = false := by rw [t]; decide
    have g18 : ((bs [UInt8.ofNat 18]).toList == [18]) = true := by rw [t]; decide
    generalize bs [UInt8.ofNat 18] = X at *
    clear t
    go_enter Try.func12, Try.ntmps12
    go_wp2
    go_ret
    exact ⟨rfl, rfl⟩
  · have g8 : ((bs [UInt8.ofNat 21]).toList == [8]) = false := by rw [t]; decide
    have g9 : ((bs [UInt8.ofNat 21]).toList == [9]) = false := by rw [t]; decide
    have g13 : ((bs [UInt8.ofNat 21]).toList == [13]) = false := by rw [t]; decide
    have g18 : ((bs [UInt8.ofNat 21]).toList == [18]) = false := by rw [t]; decide
    have g21 : ((bs [UInt8.ofNat 21]).toList == [21]) = true := by rw [t]; decide
    generalize bs [UInt8.ofNat 21] = X at *
    clear t
    go_enter Try.func12, Try.ntmps12
    go_wp2
    go_ret
    exact ⟨rfl, rfl⟩
  · have g8 : ((bs [UInt8.ofNat 23]).toList == [8]) = false := by rw [t]; decide
    have g9 : ((bs [UInt8.ofNat 23]).toList == [9]) = false := by rw [t]; decide
    have g13 : ((bs [UInt8.ofNat 23]).toList == [13]) = false := by rw [t]; decide
    have g18 : ((bs [UInt8.ofNat 23]).toList == [18]) = false := by rw [t]; decide
    have g21 : ((bs [UInt8.ofNat 23]).toList == [21]) = false := by rw [t]; decide
    have g23 : ((bs [UInt8.ofNat 23]).toList == [23]) = true := by rw [t]; decide
    generalize bs [UInt8.ofNat 23] = X at *
    clear t
    go_enter Try.func12, Try.ntmps12
    go_wp2
    go_ret
    exact ⟨rfl, rfl⟩
  · have g8 : ((bs [UInt8.ofNat 27]).toList == [8]) = false := by rw [t]; decide
    have g9 : ((bs [UInt8.ofNat 27]).toList == [9]) = false := by rw [t]; decide
    have g13 : ((bs [UInt8.ofNat 27]).toList == [13]) = false := by rw [t]; decide
    have g18 : ((bs [UInt8.ofNat 27]).toList == [18]) = false := by rw [t]; decide
    have g21 : ((bs [UInt8.ofNat 27]).toList == [21]) = false := by rw [t]; decide
    have g23 : ((bs [UInt8.ofNat 27]).toList == [23]) = false := by rw [t]; decide
    have g27 : ((bs [UInt8.ofNat 27]).toList == [27]) = true := by rw [t]; decide
    generalize bs [UInt8.ofNat 27] = X at *
    clear t
    go_enter Try.func12, Try.ntmps12
    go_wp2
    go_ret
    exact ⟨rfl, rfl⟩
  · have g8 : ((bs [UInt8.ofNat 60]).toList == [8]) = false := by rw [t]; decide
    have g9 : ((bs [UInt8.ofNat 60]).toList == [9]) = false := by rw [t]; decide
    have g13 : ((bs [UInt8.ofNat 60]).toList == [13]) = false := by rw [t]; decide
    have g18 : ((bs [UInt8.ofNat 60]).toList == [18]) = false := by rw [t]; decide
    have g21 : ((bs [UInt8.ofNat 60]).toList == [21]) = false := by rw [t]; decide
    have g23 : ((bs [UInt8.ofNat 60]).toList == [23]) = false := by rw [t]; decide
    have g27 : ((bs [UInt8.ofNat 60]).toList == [27]) = false := by rw [t]; decide
    have g60 : ((bs [UInt8.ofNat 60]).toList == [60]) = true := by rw [t]; decide
    generalize bs [UInt8.ofNat 60] = X at *
    clear t
    go_enter Try.func12, Try.ntmps12
    go_wp2
    go_ret
    exact ⟨rfl, rfl⟩
namespace Key
/-- The eight keys as texts, as they lie in a row. -/
def keyCells : Array Value := #[.string ⟨#[8]⟩, .string ⟨#[9]⟩, .string ⟨#[13]⟩, .string ⟨#[18]⟩, .string ⟨#[21]⟩, .string ⟨#[23]⟩, .string ⟨#[27]⟩, .string ⟨#[60]⟩]
theorem keyCells_at {j : Nat} {p : Nat × List UInt8} (h : tab[j]? = some p) : keyCells[j]? = some (.string (bs [UInt8.ofNat p.1])) := by
  match j, h with
  | 0, h => cases h; rfl
  | 1, h => cases h; rfl
  | 2, h => cases h; rfl
  | 3, h => cases h; rfl
  | 4, h => cases h; rfl
  | 5, h => cases h; rfl
  | 6, h => cases h; rfl
  | 7, h => cases h; rfl
  | n + 8, h => simp [tab] at h
end Key
end Go.Proofs.Ytpepdpcddcbfoaa
