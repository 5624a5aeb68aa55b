/-
  Registers without a program: whether they may be, what they are with one more, where any is, and what is kept.
-/
import Derived.Test.YtchpkeelnfmlbaaGreatRgs
import Derived.Test.YtchpkeelnfmlbaaGreatUtf
namespace Go.Proofs.YtchpkeelnfmlbaaGreat
open Go.RowKit
namespace Reg
/-- A register's name. -/
def IsName (n : Int) : Prop := n = 34 ∨ n = 45 ∨ (48 ≤ n ∧ n ≤ 57) ∨ (97 ≤ n ∧ n ≤ 122)
instance (n : Int) : Decidable (IsName n) := by unfold IsName; infer_instance
/-- The name that a number names. -/
def nameN (n : Int) : Int := if n = 0 then 34 else if 65 ≤ n ∧ n ≤ 90 then n + 32 else if IsName n then n else 0
theorem nameN_is {n : Int} (h : nameN n ≠ 0) : IsName (nameN n) := by
  unfold nameN at h ⊢
  split
  · exact .inl rfl
  · rename_i h0
    rw [if_neg h0] at h
    split
    · rename_i h1; exact .inr (.inr (.inr ⟨by omega, by omega⟩))
    · rename_i h1
      rw [if_neg h1] at h
      split
      · assumption
      · rename_i h2; rw [if_neg h2] at h; exact absurd rfl h
theorem nameN_name {n : Int} (h : IsName n) : nameN n = n := by
  unfold nameN
  have h' := h
  unfold IsName at h'
  rw [if_neg (by omega), if_neg (by omega), if_pos h]
theorem nameN_self {n : Int} : nameN n = n ↔ IsName n := by
  refine ⟨fun h => ?_, nameN_name⟩
  by_cases h0 : n = 0
  · subst h0; cases h
  · have : nameN n ≠ 0 := by rw [h]; exact h0
    have := nameN_is this
    rwa [h] at this
theorem nameN_add {n : Int} (h : 65 ≤ n ∧ n ≤ 90) : nameN n = n + 32 := by unfold nameN; rw [if_neg (by omega), if_pos h]
theorem isName_pos {n : Int} (h : IsName n) : 34 ≤ n ∧ n ≤ 122 := by unfold IsName at h; omega
/-- A text that a register may have. -/
def Fit (k : Rg) : Prop := k.text.size ≤ 4096 ∧ Utf.valid k.text.data.toList = true
instance (k : Rg) : Decidable (Fit k) := by unfold Fit; infer_instance
/-- Names that are such, and rise. -/
def Nam (ks : List Rg) : Prop := (∀ k ∈ ks, IsName k.name) ∧ ks.Pairwise fun a b => a.name < b.name
instance (ks : List Rg) : Decidable (Nam ks) := by unfold Nam; infer_instance
/-- Registers that may be. -/
def Right (ks : List Rg) : Prop := Nam ks ∧ ∀ k ∈ ks, Fit k
instance (ks : List Rg) : Decidable (Right ks) := by unfold Right; infer_instance
theorem nam_nil : Nam [] := ⟨fun k h => by simp at h, List.Pairwise.nil⟩
theorem right_nil : Right [] := ⟨nam_nil, fun k h => by simp at h⟩
theorem Nam.take {ks : List Rg} (h : Nam ks) (k : Nat) : Nam (ks.take k) := ⟨fun x hx => h.1 x (List.mem_of_mem_take hx), h.2.sublist (List.take_sublist _ _)⟩
theorem Right.take {ks : List Rg} (h : Right ks) (k : Nat) : Right (ks.take k) := ⟨h.1.take k, fun x hx => h.2 x (List.mem_of_mem_take hx)⟩
theorem Nam.filter {ks : List Rg} (h : Nam ks) (p : Rg → Bool) : Nam (ks.filter p) := ⟨fun x hx => h.1 x (List.mem_filter.1 hx).1, h.2.sublist List.filter_sublist⟩
/-- One register more: it may be, and its name is above that of the last. -/
theorem right_succ {ks : List Rg} {k : Nat} {x : Rg} (hk : ks[k]? = some x) : Right (ks.take (k + 1)) ↔ Right (ks.take k) ∧ IsName x.name ∧ (∀ y, 0 < k → ks[k - 1]? = some y → y.name < x.name) ∧ Fit x := by
  obtain ⟨hlt, rfl⟩ := List.getElem?_eq_some_iff.1 hk
  rw [List.take_succ_eq_append_getElem hlt]
  constructor
  · intro h
    have hx : ks[k] ∈ ks.take k ++ [ks[k]] := List.mem_append_right _ (List.mem_singleton.2 rfl)
    refine ⟨⟨⟨fun y hy => h.1.1 y (List.mem_append_left _ hy), (List.pairwise_append.1 h.1.2).1⟩, fun y hy => h.2 y (List.mem_append_left _ hy)⟩, h.1.1 _ hx, fun y h0 hy => ?_, h.2 _ hx⟩
    refine (List.pairwise_append.1 h.1.2).2.2 y ?_ _ (by simp)
    exact List.mem_of_getElem? (i := k - 1) (by rw [List.getElem?_take, if_pos (by omega)]; exact hy)
  · rintro ⟨h1, h2, h3, h4⟩
    refine ⟨⟨fun y hy => ?_, List.pairwise_append.2 ⟨h1.1.2, List.pairwise_singleton _ _, fun a ha b hb => ?_⟩⟩, fun y hy => ?_⟩
    · rcases List.mem_append.1 hy with h | h
      · exact h1.1.1 y h
      · simp at h; subst h; exact h2
    · simp at hb
      subst hb
      cases k with
      | zero => simp at ha
      | succ m =>
        have hm : m < ks.length := by omega
        have h4 := h3 ks[m] (by omega) (by simp [List.getElem?_eq_getElem hm])
        rw [List.take_succ_eq_append_getElem hm] at ha h1
        rcases List.mem_append.1 ha with h | h
        · have := (List.pairwise_append.1 h1.1.2).2.2 a h ks[m] (by simp)
          omega
        · simp at h; subst h; exact h4
    · rcases List.mem_append.1 hy with h | h
      · exact h1.2 y h
      · simp at h; subst h; exact h4
theorem not_right {ks : List Rg} {k : Nat} (h : ¬ Right (ks.take k)) : ¬ Right ks := fun e => h (e.take k)
/-- As many registers as there are names, at most. -/
theorem length_of {ks : List Rg} : ∀ {lo : Int}, (∀ k ∈ ks, lo ≤ k.name ∧ k.name ≤ 122) → lo ≤ 123 → ks.Pairwise (fun a b => a.name < b.name) → (ks.length : Int) ≤ 123 - lo := by
  induction ks with
  | nil => intro lo _ h _; simp; omega
  | cons x r ih =>
    intro lo h hlo hp
    obtain ⟨h1, h2⟩ := List.pairwise_cons.1 hp
    obtain ⟨a, b⟩ := h x (by simp)
    have := ih (lo := x.name + 1) (fun k hk => ⟨by have := h1 k hk; omega, (h k (by simp [hk])).2⟩) (by omega) h2
    rw [List.length_cons]; omega
theorem Nam.length_le {ks : List Rg} (h : Nam ks) : ks.length ≤ 89 := by
  have := length_of (lo := 34) (fun k hk => isName_pos (h.1 k hk)) (by omega) h.2
  omega
/-- The registers ahead of a name, and those behind it. -/
def ahead (ks : List Rg) (n : Int) : List Rg := ks.filter fun k => decide (k.name < n)
def behind (ks : List Rg) (n : Int) : List Rg := ks.filter fun k => decide (n < k.name)
/-- The registers with that one more, or in the place of the one of its name. -/
def put (ks : List Rg) (k : Rg) : List Rg := ahead ks k.name ++ (k :: behind ks k.name)
/-- The register of a name. -/
def look (ks : List Rg) (n : Int) : Option Rg := ks.find? fun k => k.name == n
/-- How many are ahead of a name. -/
def cnt (ks : List Rg) (n : Int) : Nat := ks.countP fun k => decide (k.name < n)
/-- Whether there is a register of a name. -/
def has (ks : List Rg) (n : Int) : Bool := (look ks n).isSome
theorem cnt_le (ks : List Rg) (n : Int) : cnt ks n ≤ ks.length := List.countP_le_length
theorem split {ks : List Rg} (h : ks.Pairwise fun a b => a.name < b.name) (n : Int) : ks.take (cnt ks n) = ahead ks n ∧ ks.drop (cnt ks n) = ks.filter (fun k => decide (n ≤ k.name)) := by
  induction ks with
  | nil => exact ⟨rfl, rfl⟩
  | cons x r ih =>
    obtain ⟨h1, h2⟩ := List.pairwise_cons.1 h
    obtain ⟨i1, i2⟩ := ih h2
    by_cases hx : x.name < n
    · have e : cnt (x :: r) n = cnt r n + 1 := by unfold cnt; rw [List.countP_cons_of_pos (by simpa using hx)]
      rw [e, List.take_succ_cons, List.drop_succ_cons, i1, i2]
      constructor
      · unfold ahead; rw [List.filter_cons_of_pos (by simpa using hx)]
      · rw [List.filter_cons_of_neg (by simp; omega)]
    · have e0 : ∀ k ∈ x :: r, n ≤ k.name := fun k hk => by
        rcases List.mem_cons.1 hk with rfl | hk
        · omega
        · have := h1 k hk; omega
      have e : cnt (x :: r) n = 0 := by unfold cnt; rw [List.countP_eq_zero]; intro k hk; have := e0 k hk; simp; omega
      rw [e, List.take_zero, List.drop_zero]
      constructor
      · symm; unfold ahead; rw [List.filter_eq_nil_iff]; intro k hk; have := e0 k hk; simp; omega
      · symm; rw [List.filter_eq_self]; intro k hk; simpa using e0 k hk
/-- What stands where a name stands, or would stand. -/
theorem at_cnt {ks : List Rg} (h : ks.Pairwise fun a b => a.name < b.name) (n : Int) :
    (∃ x, ks[cnt ks n]? = some x ∧ x.name = n ∧ look ks n = some x ∧ ks.drop (cnt ks n + 1) = behind ks n) ∨
    ((∀ x, ks[cnt ks n]? = some x → x.name ≠ n) ∧ look ks n = none ∧ ks.drop (cnt ks n) = behind ks n) := by
  induction ks with
  | nil => exact .inr ⟨fun x hx => by simp at hx, rfl, rfl⟩
  | cons x r ih =>
    obtain ⟨h1, h2⟩ := List.pairwise_cons.1 h
    by_cases hx : x.name < n
    · have e : cnt (x :: r) n = cnt r n + 1 := by unfold cnt; rw [List.countP_cons_of_pos (by simpa using hx)]
      have eb : behind (x :: r) n = behind r n := by unfold behind; rw [List.filter_cons_of_neg (by simp; omega)]
      have el : look (x :: r) n = look r n := by unfold look; rw [List.find?_cons_of_neg (by simp; omega)]
      rw [e, eb, el, List.drop_succ_cons, List.getElem?_cons_succ, List.drop_succ_cons]
      exact ih h2
    · have e0 : ∀ k ∈ x :: r, n ≤ k.name := fun k hk => by
        rcases List.mem_cons.1 hk with rfl | hk
        · omega
        · have := h1 k hk; omega
      have e : cnt (x :: r) n = 0 := by unfold cnt; rw [List.countP_eq_zero]; intro k hk; have := e0 k hk; simp; omega
      rw [e]
      by_cases hn : x.name = n
      · refine .inl ⟨x, rfl, hn, by unfold look; rw [List.find?_cons_of_pos (by simpa using hn)], ?_⟩
        rw [List.drop_succ_cons, List.drop_zero]
        unfold behind
        rw [List.filter_cons_of_neg (by simp; omega)]
        symm; rw [List.filter_eq_self]; intro k hk; have := h1 k hk; simp; omega
      · have e1 : ∀ k ∈ x :: r, n < k.name := fun k hk => by
          rcases List.mem_cons.1 hk with rfl | hk
          · have := e0 k (by simp); omega
          · have := h1 k hk; have := e0 x (by simp); omega
        refine .inr ⟨fun y hy => ?_, ?_, ?_⟩
        · simp at hy; subst hy; exact hn
        · unfold look; rw [List.find?_eq_none]; intro k hk; have := e1 k hk; simp; omega
        · rw [List.drop_zero]; symm; unfold behind; rw [List.filter_eq_self]; intro k hk; simpa using e1 k hk
theorem look_none {ks : List Rg} {n : Int} (h : ∀ k ∈ ks, k.name ≠ n) : look ks n = none := by
  unfold look; rw [List.find?_eq_none]; intro k hk; simpa using h k hk
theorem look_name {ks : List Rg} {n : Int} {x : Rg} (h : look ks n = some x) : x.name = n := by
  have := List.find?_some h
  simpa using this
theorem look_mem {ks : List Rg} {n : Int} {x : Rg} (h : look ks n = some x) : x ∈ ks := List.mem_of_find?_eq_some h
theorem look_append (a b : List Rg) (n : Int) : look (a ++ b) n = (look a n).or (look b n) := by unfold look; rw [List.find?_append]
theorem look_cons (x : Rg) (r : List Rg) (n : Int) : look (x :: r) n = if x.name = n then some x else look r n := by
  unfold look
  split
  · rw [List.find?_cons_of_pos (by simpa)]
  · rw [List.find?_cons_of_neg (by simpa)]
theorem look_filter {ks : List Rg} {p : Rg → Bool} {n : Int} (h : ∀ k ∈ ks, k.name = n → p k = true) : look (ks.filter p) n = look ks n := by
  induction ks with
  | nil => rfl
  | cons x r ih =>
    have i := ih (fun k hk => h k (by simp [hk]))
    by_cases hn : x.name = n
    · rw [List.filter_cons_of_pos (h x (by simp) hn), look_cons, if_pos hn, look_cons, if_pos hn]
    · rw [look_cons, if_neg hn]
      by_cases hp : p x = true
      · rw [List.filter_cons_of_pos hp, look_cons, if_neg hn, i]
      · rw [List.filter_cons_of_neg hp, i]
/-- What was put in is there. -/
theorem look_put (ks : List Rg) (k : Rg) : look (put ks k) k.name = some k := by
  unfold put
  rw [look_append, look_none (fun x hx => by simp [ahead] at hx; omega), Option.none_or, look_cons, if_pos rfl]
/-- The others stay. -/
theorem look_put_other (ks : List Rg) (k : Rg) {o : Int} (ho : o ≠ k.name) : look (put ks k) o = look ks o := by
  unfold put
  rw [look_append, look_cons, if_neg (fun e => ho e.symm)]
  rcases Int.lt_or_gt_of_ne ho with h | h
  · rw [show look (behind ks k.name) o = none from look_none (fun x hx => by simp [behind] at hx; omega), Option.or_none]
    exact look_filter fun x _ hk => by simp; omega
  · rw [show look (ahead ks k.name) o = none from look_none (fun x hx => by simp [ahead] at hx; omega), Option.none_or]
    exact look_filter fun x _ hk => by simp; omega
theorem put_mem {ks : List Rg} {k x : Rg} (h : x ∈ put ks k) : x = k ∨ x ∈ ks := by
  unfold put ahead behind at h
  simp only [List.mem_append, List.mem_cons, List.mem_filter] at h
  rcases h with ⟨h, _⟩ | h | ⟨h, _⟩
  · exact .inr h
  · exact .inl h
  · exact .inr h
theorem put_nam {ks : List Rg} (h : Nam ks) {k : Rg} (hk : IsName k.name) : Nam (put ks k) := by
  refine ⟨fun x hx => ?_, ?_⟩
  · rcases put_mem hx with rfl | hx
    · exact hk
    · exact h.1 x hx
  · refine List.pairwise_append.2 ⟨(h.filter _).2, List.pairwise_cons.2 ⟨fun b hb => ?_, (h.filter _).2⟩, fun x hx y hy => ?_⟩
    · simp [behind] at hb; exact hb.2
    · simp [ahead] at hx
      simp [behind] at hy
      rcases hy with rfl | hy
      · exact hx.2
      · omega
theorem put_right {ks : List Rg} (h : Right ks) {k : Rg} (hk : IsName k.name) (hf : Fit k) : Right (put ks k) := ⟨put_nam h.1 hk, fun x hx => by
  rcases put_mem hx with rfl | hx
  · exact hf
  · exact h.2 x hx⟩
theorem put_length (ks : List Rg) (k : Rg) : (put ks k).length ≤ ks.length + ks.length + 1 := by
  have h2 : (ahead ks k.name).length ≤ ks.length := List.length_filter_le _ _
  have h3 : (behind ks k.name).length ≤ ks.length := List.length_filter_le _ _
  unfold put
  rw [List.length_append, List.length_cons]
  omega
/-- Where there is one of the name, it is replaced; where there is none, it is put in. -/
theorem put_at {ks : List Rg} (h : ks.Pairwise fun a b => a.name < b.name) (k : Rg) :
    (has ks k.name = true ∧ cnt ks k.name < ks.length ∧ put ks k = ks.set (cnt ks k.name) k) ∨ (has ks k.name = false ∧ put ks k = ks.take (cnt ks k.name) ++ (k :: ks.drop (cnt ks k.name))) := by
  have hs := (split h k.name).1
  rcases at_cnt h k.name with ⟨x, h1, h2, h3, h4⟩ | ⟨h1, h2, h3⟩
  · have hlt := (List.getElem?_eq_some_iff.1 h1).1
    refine .inl ⟨by rw [has, h3]; rfl, hlt, ?_⟩
    rw [put, ← hs, ← h4, List.set_eq_take_append_cons_drop, if_pos hlt]
  · exact .inr ⟨by rw [has, h2]; rfl, by rw [put, hs, h3]⟩
/-- What was deleted with line feeds, one number further on; the oldest is lost. -/
def older (k : Rg) : Option Rg := if k.name = 57 then none else if 49 ≤ k.name ∧ k.name < 57 then some { k with name := k.name + 1 } else some k
def age (ks : List Rg) : List Rg := ks.filterMap older
theorem age_nam {ks : List Rg} (h : Nam ks) : Nam (age ks) := by
  refine ⟨fun k hk => ?_, ?_⟩
  · obtain ⟨x, hx, he⟩ := List.mem_filterMap.1 hk
    have := h.1 x hx
    unfold older at he
    unfold IsName at *
    split at he
    · cases he
    · split at he
      · injection he with he; subst he; (try simp only); omega
      · injection he with he; subst he; exact this
  · unfold age
    rw [List.pairwise_filterMap]
    refine h.2.imp fun {a b} hab x hx y hy => ?_
    unfold older at hx hy
    split at hx
    · cases hx
    · split at hy
      · cases hy
      · split at hx <;> split at hy
        all_goals
          injection hx with hx
          injection hy with hy
          subst hx hy
          (try simp only)
          omega
theorem age_fit {ks : List Rg} (h : ∀ k ∈ ks, Fit k) : ∀ k ∈ age ks, Fit k := fun k hk => by
  obtain ⟨x, hx, he⟩ := List.mem_filterMap.1 hk
  have := h x hx
  unfold older at he
  split at he
  · cases he
  · split at he
    · injection he with he; subst he; exact this
    · injection he with he; subst he; exact this
theorem age_length (ks : List Rg) : (age ks).length ≤ ks.length := List.length_filterMap_le _ _
theorem look_age (ks : List Rg) (m : Int) : look (age ks) m = if 50 ≤ m ∧ m ≤ 57 then (look ks (m - 1)).map (fun k => { k with name := m }) else if m = 49 then none else look ks m := by
  induction ks with
  | nil => unfold age look; split <;> (try split) <;> rfl
  | cons x r ih =>
    have e : age (x :: r) = (older x).toList ++ age r := by
      unfold age
      cases h : older x with
      | none => rw [List.filterMap_cons_none h]; rfl
      | some y => rw [List.filterMap_cons_some h]; rfl
    rw [e]
    unfold older
    by_cases h1 : x.name = 57
    · rw [if_pos h1]
      show look (age r) m = _
      rw [ih, look_cons, look_cons]
      by_cases c : 50 ≤ m ∧ m ≤ 57
      · rw [if_pos c, if_pos c, if_neg (by omega)]
      · rw [if_neg c, if_neg c]
        by_cases c2 : m = 49
        · rw [if_pos c2, if_pos c2]
        · rw [if_neg c2, if_neg c2, if_neg (by omega)]
    · rw [if_neg h1]
      by_cases h2 : 49 ≤ x.name ∧ x.name < 57
      · rw [if_pos h2]
        show look ({ x with name := x.name + 1 } :: age r) m = _
        rw [look_cons, ih, look_cons, look_cons]
        by_cases c : 50 ≤ m ∧ m ≤ 57
        · rw [if_pos c, if_pos c]
          by_cases c3 : x.name = m - 1
          · rw [if_pos c3, if_pos (by (try simp only); omega), Option.map_some]
            simp only [c3, Option.some.injEq, Rg.mk.injEq, and_self, and_true]
            omega
          · rw [if_neg c3, if_neg (by (try simp only); omega)]
        · rw [if_neg c, if_neg c, if_neg (by (try simp only); omega)]
          by_cases c2 : m = 49
          · rw [if_pos c2, if_pos c2]
          · rw [if_neg c2, if_neg c2, if_neg (by omega)]
      · rw [if_neg h2]
        show look (x :: age r) m = _
        rw [look_cons, ih, look_cons, look_cons]
        by_cases c : 50 ≤ m ∧ m ≤ 57
        · rw [if_pos c, if_pos c, if_neg (by omega), if_neg (by omega)]
        · rw [if_neg c, if_neg c]
          by_cases c2 : m = 49
          · rw [if_pos c2, if_pos c2, if_neg (by omega)]
          · rw [if_neg c2, if_neg c2]
theorem age_succ {ks : List Rg} {k : Nat} {x : Rg} (hk : ks[k]? = some x) : age (ks.take (k + 1)) = age (ks.take k) ++ (older x).toList := by
  obtain ⟨hlt, rfl⟩ := List.getElem?_eq_some_iff.1 hk
  rw [List.take_succ_eq_append_getElem hlt]
  unfold age
  rw [List.filterMap_append]
  congr 1
/-- The names, rising. -/
def nm (j : Nat) : Int := if j = 0 then 34 else if j = 1 then 45 else if j < 12 then (j : Int) + 46 else (j : Int) + 85
def spot (n : Int) : Nat := if n = 34 then 0 else if n = 45 then 1 else if n ≤ 57 then (n - 46).toNat else (n - 85).toNat
theorem nm_is {j : Nat} (h : j < 38) : IsName (nm j) := by unfold nm IsName; split <;> (try split) <;> (try split) <;> omega
theorem nm_mono {i j : Nat} (h : i < j) : nm i < nm j := by unfold nm; split <;> (try split) <;> (try split) <;> (try split) <;> (try split) <;> (try split) <;> omega
theorem nm_inj {i j : Nat} (h : nm i = nm j) : i = j := by
  rcases Nat.lt_trichotomy i j with h' | h' | h'
  · have := nm_mono h'; omega
  · exact h'
  · have := nm_mono h'; omega
theorem nm_spot {n : Int} (h : IsName n) : nm (spot n) = n ∧ spot n < 38 := by
  unfold IsName at h
  rcases h with rfl | rfl | h | h
  · decide
  · decide
  · have e : spot n = (n - 46).toNat := by unfold spot; rw [if_neg (by omega), if_neg (by omega), if_pos (by omega)]
    rw [e]
    unfold nm
    rw [if_neg (by omega), if_neg (by omega), if_pos (by omega)]
    omega
  · have e : spot n = (n - 85).toNat := by unfold spot; rw [if_neg (by omega), if_neg (by omega), if_neg (by omega)]
    rw [e]
    unfold nm
    rw [if_neg (by omega), if_neg (by omega), if_neg (by omega)]
    omega
theorem spot_nm {j : Nat} (h : j < 38) : spot (nm j) = j := nm_inj (nm_spot (nm_is h)).1
theorem spot_mono {a b : Int} (ha : IsName a) (hb : IsName b) (h : a < b) : spot a < spot b := by
  rcases Nat.lt_or_ge (spot a) (spot b) with h' | h'
  · exact h'
  · exfalso
    have h1 := (nm_spot ha).1
    have h2 := (nm_spot hb).1
    rcases Nat.lt_or_eq_of_le h' with h3 | h3
    · have := nm_mono h3; omega
    · rw [h3] at h2; omega
/-- The registers of a row: one for each name, or none. -/
def row (ks : List Rg) : List (Option Rg) := (List.range 38).map fun j => look ks (nm j)
theorem row_length (ks : List Rg) : (row ks).length = 38 := by simp [row]
theorem row_get (ks : List Rg) {j : Nat} (h : j < 38) : (row ks)[j]? = some (look ks (nm j)) := by
  unfold row; rw [List.getElem?_map, List.getElem?_range h]; rfl
theorem row_put (ks : List Rg) {k : Rg} (hk : IsName k.name) : row (put ks k) = (row ks).set (spot k.name) (some k) := by
  obtain ⟨h1, h2⟩ := nm_spot hk
  apply List.ext_getElem?
  intro j
  rcases Nat.lt_or_ge j 38 with hj | hj
  · rw [row_get _ hj, List.getElem?_set]
    by_cases e : spot k.name = j
    · rw [if_pos e, if_pos (by rw [row_length]; omega), ← e, h1, look_put]
    · rw [if_neg e, row_get _ hj, look_put_other]
      intro e2
      exact e (by rw [← e2, spot_nm hj])
  · rw [List.getElem?_eq_none (by rw [row_length]; exact hj), List.getElem?_eq_none (by rw [List.length_set, row_length]; exact hj)]
/-- The registers ahead of a name's place. -/
def upto (ks : List Rg) (j : Nat) : List Rg := ks.filter fun k => decide (spot k.name < j)
theorem upto_zero (ks : List Rg) : upto ks 0 = [] := by unfold upto; rw [List.filter_eq_nil_iff]; intro k _; simp
theorem upto_all {ks : List Rg} (h : Nam ks) : upto ks 38 = ks := by
  unfold upto; rw [List.filter_eq_self]; intro k hk; simpa using (nm_spot (h.1 k hk)).2
theorem upto_succ {ks : List Rg} (h : Nam ks) {j : Nat} (hj : j < 38) : upto ks (j + 1) = upto ks j ++ (look ks (nm j)).toList := by
  induction ks with
  | nil => rfl
  | cons x r ih =>
    obtain ⟨h1, h2⟩ := List.pairwise_cons.1 h.2
    have hx := h.1 x (by simp)
    have hr : Nam r := ⟨fun k hk => h.1 k (by simp [hk]), h2⟩
    have i := ih hr
    have sx := nm_spot hx
    rw [look_cons]
    by_cases c : spot x.name < j
    · rw [if_neg (fun e => by rw [e, spot_nm hj] at c; omega)]
      unfold upto at *
      rw [List.filter_cons_of_pos (by simp; omega), List.filter_cons_of_pos (by simpa using c), i]
      rfl
    · have e2 : ∀ m, (∀ k ∈ r, ¬ spot k.name < m) → upto r m = [] := fun m hm => by unfold upto; rw [List.filter_eq_nil_iff]; intro k hk; simpa using hm k hk
      have hs : ∀ k ∈ r, spot x.name < spot k.name := fun k hk => spot_mono hx (hr.1 k hk) (h1 k hk)
      have f1 := e2 j (fun k hk => by have := hs k hk; omega)
      have f2 := e2 (j + 1) (fun k hk => by have := hs k hk; omega)
      by_cases e : x.name = nm j
      · rw [if_pos e]
        have es : spot x.name = j := by rw [e, spot_nm hj]
        have l1 : upto (x :: r) (j + 1) = x :: upto r (j + 1) := by unfold upto; rw [List.filter_cons_of_pos (by simp; omega)]
        have l2 : upto (x :: r) j = upto r j := by unfold upto; rw [List.filter_cons_of_neg (by simpa using c)]
        rw [l1, l2, f1, f2]; rfl
      · rw [if_neg e]
        have es : spot x.name ≠ j := fun e3 => e (by rw [← e3, sx.1])
        have l1 : upto (x :: r) (j + 1) = upto r (j + 1) := by unfold upto; rw [List.filter_cons_of_neg (by simp; omega)]
        have l2 : upto (x :: r) j = upto r j := by unfold upto; rw [List.filter_cons_of_neg (by simpa using c)]
        rw [l1, l2, i]
theorem upto_length (ks : List Rg) (j : Nat) : (upto ks j).length ≤ ks.length := List.length_filter_le _ _
/-- A register that another text is added to. -/
def nl : ByteArray := ⟨#[10]⟩
def joined (old : Rg) (lines : Bool) (t : ByteArray) : Bool × ByteArray := if (old.lines || lines) = true then (true, old.text ++ nl ++ t) else (false, old.text ++ t)
def added (ks : List Rg) (n : Int) (t : ByteArray) (lines : Bool) : Bool × ByteArray :=
  if 65 ≤ n ∧ n ≤ 90 then (match look ks (nameN n) with | some old => joined old lines t | none => (lines, t)) else (lines, t)
/-- What is kept where no name is given. -/
def also (ks : List Rg) (lines : Bool) (t : ByteArray) (taken : Bool) : List Rg :=
  if taken = true then (if (lines || decide ((10 : UInt8) ∈ t.data.toList)) = true then put (age ks) ⟨49, lines, t⟩ else put ks ⟨45, lines, t⟩) else put ks ⟨48, lines, t⟩
/-- What the registers are when a text is kept. -/
def into (ks : List Rg) (n : Int) (t : ByteArray) (lines taken : Bool) : List Rg :=
  let r := added ks n t lines
  let m := put (put ks ⟨nameN n, r.1, r.2⟩) ⟨34, r.1, r.2⟩
  if nameN n = 34 then also m r.1 r.2 taken else m
def kept (ks : List Rg) (n : Int) (t : ByteArray) (lines taken : Bool) : List Rg × Int :=
  if Right ks ∧ Utf.valid t.data.toList = true then (if nameN n = 0 then ([], 11) else if (added ks n t lines).2.size ≤ 4096 then (into ks n t lines taken, 0) else ([], 8)) else ([], 1)
theorem added_plain {ks : List Rg} {n : Int} {t : ByteArray} {lines : Bool} (h : nameN n = 34) : added ks n t lines = (lines, t) := by
  unfold added
  rw [if_neg]
  intro h'
  rw [nameN_add h'] at h
  omega
theorem valid_append {a b : List UInt8} (ha : Utf.valid a = true) (hb : Utf.valid b = true) : Utf.valid (a ++ b) = true := by
  unfold Utf.valid at *
  obtain ⟨ra, ea⟩ := Option.isSome_iff_exists.1 ha
  obtain ⟨rb, eb⟩ := Option.isSome_iff_exists.1 hb
  obtain ⟨h1, h2⟩ := Utf.dec_some ea
  rw [h2, Utf.dec_all b h1, eb]
  rfl
theorem valid_nl : Utf.valid [10] = true := by
  unfold Utf.valid
  rw [show ([10] : List UInt8) = [[10]].flatten from rfl, Utf.dec_of (by decide)]
  rfl
theorem append_data (a b : ByteArray) : (a ++ b).data.toList = a.data.toList ++ b.data.toList := by simp
theorem added_valid {ks : List Rg} {n : Int} {t : ByteArray} {lines : Bool} (h : ∀ k ∈ ks, Fit k) (ht : Utf.valid t.data.toList = true) : Utf.valid (added ks n t lines).2.data.toList = true := by
  unfold added
  split
  · split
    · rename_i old e
      have := (h old (look_mem e)).2
      unfold joined
      split
      · show Utf.valid (old.text ++ nl ++ t).data.toList = true
        rw [append_data, append_data]
        exact valid_append (valid_append this valid_nl) ht
      · show Utf.valid (old.text ++ t).data.toList = true
        rw [append_data]
        exact valid_append this ht
    · exact ht
  · exact ht
theorem also_nam {ks : List Rg} (h : Nam ks) (lines : Bool) (t : ByteArray) (taken : Bool) : Nam (also ks lines t taken) := by
  unfold also
  split
  · split
    · exact put_nam (age_nam h) (by show IsName 49; decide)
    · exact put_nam h (by show IsName 45; decide)
  · exact put_nam h (by show IsName 48; decide)
theorem also_right {ks : List Rg} (h : Right ks) {lines : Bool} {t : ByteArray} (hf : t.size ≤ 4096 ∧ Utf.valid t.data.toList = true) (taken : Bool) : Right (also ks lines t taken) := by
  unfold also
  split
  · split
    · exact put_right ⟨age_nam h.1, age_fit h.2⟩ (by show IsName 49; decide) hf
    · exact put_right h (by show IsName 45; decide) hf
  · exact put_right h (by show IsName 48; decide) hf
theorem into_nam {ks : List Rg} (h : Nam ks) {n : Int} (hn : nameN n ≠ 0) (t : ByteArray) (lines taken : Bool) : Nam (into ks n t lines taken) := by
  unfold into
  simp only
  have hm := put_nam (put_nam h (k := ⟨nameN n, (added ks n t lines).1, (added ks n t lines).2⟩) (nameN_is hn)) (k := ⟨34, (added ks n t lines).1, (added ks n t lines).2⟩) (.inl rfl)
  split
  · exact also_nam hm _ _ _
  · exact hm
theorem into_right {ks : List Rg} (h : Right ks) {n : Int} (hn : nameN n ≠ 0) {t : ByteArray} {lines taken : Bool} (ht : Utf.valid t.data.toList = true) (hs : (added ks n t lines).2.size ≤ 4096) : Right (into ks n t lines taken) := by
  unfold into
  simp only
  have hf : (added ks n t lines).2.size ≤ 4096 ∧ Utf.valid (added ks n t lines).2.data.toList = true := ⟨hs, added_valid h.2 ht⟩
  have hm := put_right (put_right h (k := ⟨nameN n, (added ks n t lines).1, (added ks n t lines).2⟩) (nameN_is hn) hf) (k := ⟨34, (added ks n t lines).1, (added ks n t lines).2⟩) (.inl rfl) hf
  split
  · exact also_right hm hf _
  · exact hm
theorem into_length {ks : List Rg} (h : Nam ks) {n : Int} (hn : nameN n ≠ 0) (t : ByteArray) (lines taken : Bool) : (into ks n t lines taken).length ≤ 89 := (into_nam h hn t lines taken).length_le
/-- What Get tells. -/
def zero : Rg := ⟨0, false, .empty⟩
def get (ks : List Rg) (n : Int) : Rg × Bool := if Right ks then (match look ks (nameN n) with | some x => (x, true) | none => (zero, false)) else (zero, false)
theorem get_some {ks : List Rg} {n : Int} {x : Rg} (h : Right ks) (hl : look ks (nameN n) = some x) : get ks n = (x, true) := by unfold get; rw [if_pos h, hl]
theorem get_none {ks : List Rg} {n : Int} (hl : look ks (nameN n) = none) : get ks n = (zero, false) := by unfold get; rw [hl]; split <;> rfl
theorem get_not {ks : List Rg} {n : Int} (h : ¬ Right ks) : get ks n = (zero, false) := by unfold get; rw [if_neg h]
theorem has_at {ks : List Rg} (h : ks.Pairwise fun a b => a.name < b.name) {n : Int} (hh : has ks n = true) : ∃ x, ks[cnt ks n]? = some x ∧ look ks n = some x := by
  rcases at_cnt h n with ⟨x, h1, _, h3, h4⟩ | ⟨_, h2, _⟩
  · exact ⟨x, h1, h3⟩
  · rw [has, h2] at hh; cases hh
theorem has_not {ks : List Rg} {n : Int} (hh : has ks n = false) : look ks n = none := by
  unfold has at hh
  cases h : look ks n with
  | none => rfl
  | some x => rw [h] at hh; cases hh
end Reg
end Go.Proofs.YtchpkeelnfmlbaaGreat
