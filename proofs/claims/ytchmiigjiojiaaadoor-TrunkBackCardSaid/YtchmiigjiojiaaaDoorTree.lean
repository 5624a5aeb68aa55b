/-
  Trees without a program: which may be, ways up, and what becomes of them.
-/
import Derived.Test.YtchmiigjiojiaaaDoorNds
namespace Go.Proofs.YtchmiigjiojiaaaDoor
namespace Tre
/-- Is a node the one ahead of any? -/
def kid (l : List Nd) (k : Nat) : Bool := l.any fun x => x.up == (k : Int)
/-- What a node has may be, but its Next. -/
def UpOk (k : Nat) (x : Nd) : Prop := if k = 0 then x.up = -1 ∧ x.before = 0 ∧ x.after = 0 ∧ x.at_ = 0 ∧ x.old = .empty ∧ x.new = .empty else 0 ≤ x.up ∧ x.up < k ∧ 0 ≤ x.before ∧ 0 ≤ x.after
instance (k : Nat) (x : Nd) : Decidable (UpOk k x) := by unfold UpOk; infer_instance
/-- The Next of a node may be. -/
def NextOk (l : List Nd) (k : Nat) (x : Nd) : Prop := if kid l k = true then 0 ≤ x.next ∧ x.next < l.length ∧ (l[x.next.toNat]?.map (·.up)) = some (k : Int) else x.next = -1
instance (l : List Nd) (k : Nat) (x : Nd) : Decidable (NextOk l k x) := by unfold NextOk; infer_instance
/-- The Ups of the first m nodes may be. -/
def Ups (l : List Nd) (m : Nat) : Prop := ∀ k, k < m → ∀ x, l[k]? = some x → UpOk k x
def Nexts (l : List Nd) (m : Nat) : Prop := ∀ k, k < m → ∀ x, l[k]? = some x → NextOk l k x
structure Right (l : List Nd) (cur : Int) : Prop where
  one : 1 ≤ l.length
  few : l.length ≤ 1024
  low : 0 ≤ cur
  high : cur < l.length
  ups : Ups l l.length
  nexts : Nexts l l.length
noncomputable instance (l : List Nd) (cur : Int) : Decidable (Right l cur) := Classical.propDecidable _
noncomputable instance (l : List Nd) (m : Nat) : Decidable (Ups l m) := Classical.propDecidable _
noncomputable instance (l : List Nd) (m : Nat) : Decidable (Nexts l m) := Classical.propDecidable _
variable {l : List Nd} {m k : Nat} {x : Nd}
theorem Ups.succ (h : Ups l m) (hx : l[m]? = some x) (hk : UpOk m x) : Ups l (m + 1) := fun j hj y hy => by
  rcases Nat.lt_or_ge j m with hlt | hge
  · exact h j hlt y hy
  · obtain rfl : j = m := by omega
    rw [hx] at hy; injection hy with hy; exact hy ▸ hk
theorem Nexts.succ (h : Nexts l m) (hx : l[m]? = some x) (hk : NextOk l m x) : Nexts l (m + 1) := fun j hj y hy => by
  rcases Nat.lt_or_ge j m with hlt | hge
  · exact h j hlt y hy
  · obtain rfl : j = m := by omega
    rw [hx] at hy; injection hy with hy; exact hy ▸ hk
theorem Ups.not (hk : k < m) (hx : l[k]? = some x) (h : ¬ UpOk k x) : ¬ Ups l m := fun g => h (g k hk x hx)
theorem Nexts.not (hk : k < m) (hx : l[k]? = some x) (h : ¬ NextOk l k x) : ¬ Nexts l m := fun g => h (g k hk x hx)
theorem UpOk.zero (h : UpOk 0 x) : x.up = -1 ∧ x.before = 0 ∧ x.after = 0 ∧ x.at_ = 0 ∧ x.old = .empty ∧ x.new = .empty := by
  unfold UpOk at h; rwa [if_pos rfl] at h
theorem UpOk.pos (h : UpOk k x) (hk : 0 < k) : 0 ≤ x.up ∧ x.up < k ∧ 0 ≤ x.before ∧ 0 ≤ x.after := by
  unfold UpOk at h; rwa [if_neg (by omega)] at h
theorem upOk_pos (hk : 0 < k) : UpOk k x ↔ 0 ≤ x.up ∧ x.up < k ∧ 0 ≤ x.before ∧ 0 ≤ x.after := by
  unfold UpOk; rw [if_neg (by omega)]
theorem upOk_zero : UpOk 0 x ↔ x.up = -1 ∧ x.before = 0 ∧ x.after = 0 ∧ x.at_ = 0 ∧ x.old = .empty ∧ x.new = .empty := by
  unfold UpOk; rw [if_pos rfl]
/-- The Up of a node, as a place in the list. -/
theorem Ups.up (h : Ups l l.length) (hx : l[k]? = some x) (hk : 0 < k) : ∃ u : Nat, x.up = u ∧ u < k := by
  have := (h k (List.getElem?_eq_some_iff.1 hx).1 x hx).pos hk
  exact ⟨x.up.toNat, by omega, by omega⟩
/-- The number of the node ahead of one. -/
def abv (l : List Nd) (k : Nat) : Nat := match l[k]? with | some x => x.up.toNat | none => 0
theorem abv_of (hx : l[k]? = some x) {u : Nat} (h : x.up = u) : abv l k = u := by unfold abv; rw [hx]; show x.up.toNat = u; omega
theorem Ups.abv_lt (h : Ups l l.length) (hk : 0 < k) (hl : k < l.length) : abv l k < k := by
  obtain ⟨u, hu, hlt⟩ := h.up (List.getElem?_eq_getElem hl) hk
  rw [abv_of (List.getElem?_eq_getElem hl) hu]; exact hlt
/-- Is a node on the way up from another one? -/
def on (l : List Nd) (a k : Nat) : Bool := if _h : a < k ∧ abv l k < k then on l a (abv l k) else k == a
  termination_by k
  decreasing_by omega
theorem on_self (l : List Nd) (k : Nat) : on l k k = true := by
  rw [on, dif_neg (by omega)]; simp
theorem on_low (h : k < m) : on l m k = false := by
  rw [on, dif_neg (by omega)]; simp; omega
theorem on_up (h : m < k) (hu : abv l k < k) : on l m k = on l m (abv l k) := by
  rw [on, dif_pos ⟨h, hu⟩]
theorem on_le (h : on l m k = true) : m ≤ k := by
  rcases Nat.lt_or_ge k m with hlt | hge
  · rw [on_low hlt] at h; cases h
  · exact hge
end Tre
end Go.Proofs.YtchmiigjiojiaaaDoor
