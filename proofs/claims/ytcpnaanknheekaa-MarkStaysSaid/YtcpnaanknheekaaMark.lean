/-
  Marks without a program: whether they may be, what they are with one more and without one, where any is, where they go.
-/
import Derived.Test.YtcpnaanknheekaaMks
import Derived.Test.YtcpnaanknheekaaShift
namespace Go.Proofs.Ytcpnaanknheekaa
open Go.RowKit
namespace Mrk
/-- A mark that may be. -/
def Ok (k : Mk) : Prop := (97 ≤ k.name ∧ k.name ≤ 122) ∧ 0 ≤ k.at_ ∧ k.at_ ≤ 1099511627776
instance (k : Mk) : Decidable (Ok k) := by unfold Ok; infer_instance
/-- Marks that may be. -/
def Right (ks : List Mk) : Prop := (∀ k ∈ ks, Ok k) ∧ ks.Pairwise fun a b => a.name < b.name
instance (ks : List Mk) : Decidable (Right ks) := by unfold Right; infer_instance
theorem right_nil : Right [] := ⟨fun k h => by simp at h, List.Pairwise.nil⟩
theorem Right.take {ks : List Mk} (h : Right ks) (k : Nat) : Right (ks.take k) := ⟨fun x hx => h.1 x (List.mem_of_mem_take hx), h.2.sublist (List.take_sublist _ _)⟩
theorem Right.filter {ks : List Mk} (h : Right ks) (p : Mk → Bool) : Right (ks.filter p) := ⟨fun x hx => h.1 x (List.mem_filter.1 hx).1, h.2.sublist List.filter_sublist⟩
/-- One mark more: it may be, and its name is above that of the last. -/
theorem right_succ {ks : List Mk} {k : Nat} {x : Mk} (hk : ks[k]? = some x) : Right (ks.take (k + 1)) ↔ Right (ks.take k) ∧ Ok x ∧ (∀ y, 0 < k → ks[k - 1]? = some y → y.name < x.name) := by
  obtain ⟨hlt, rfl⟩ := List.getElem?_eq_some_iff.1 hk
  rw [List.take_succ_eq_append_getElem hlt]
  constructor
  · intro h
    refine ⟨⟨fun y hy => h.1 y (List.mem_append_left _ hy), (List.pairwise_append.1 h.2).1⟩, h.1 _ (List.mem_append_right _ (List.mem_singleton.2 rfl)), fun y h0 hy => ?_⟩
    refine (List.pairwise_append.1 h.2).2.2 y ?_ _ (by simp)
    exact List.mem_of_getElem? (i := k - 1) (by rw [List.getElem?_take, if_pos (by omega)]; exact hy)
  · rintro ⟨h1, h2, h3⟩
    refine ⟨fun y hy => ?_, List.pairwise_append.2 ⟨h1.2, List.pairwise_singleton _ _, fun a ha b hb => ?_⟩⟩
    · rcases List.mem_append.1 hy with h | h
      · exact h1.1 y h
      · simp at h; subst h; exact h2
    · simp at hb
      subst hb
      cases k with
      | zero => simp at ha
      | succ m =>
        have hm : m < ks.length := by omega
        have h4 := h3 ks[m] (by omega) (by simp [List.getElem?_eq_getElem hm])
        rw [List.take_succ_eq_append_getElem hm] at ha h1
        rcases List.mem_append.1 ha with h | h
        · have := (List.pairwise_append.1 h1.2).2.2 a h ks[m] (by simp)
          omega
        · simp at h; subst h; exact h4
theorem not_right {ks : List Mk} {k : Nat} (h : ¬ Right (ks.take k)) : ¬ Right ks := fun e => h (e.take k)
/-- As many marks as there are names, at most. -/
theorem length_of {ks : List Mk} : ∀ {lo : Int}, (∀ k ∈ ks, lo ≤ k.name ∧ k.name ≤ 122) → lo ≤ 123 → ks.Pairwise (fun a b => a.name < b.name) → (ks.length : Int) ≤ 123 - lo := by
  induction ks with
  | nil => intro lo _ h _; simp; omega
  | cons x r ih =>
    intro lo h hlo hp
    obtain ⟨h1, h2⟩ := List.pairwise_cons.1 hp
    obtain ⟨a, b⟩ := h x (by simp)
    have := ih (lo := x.name + 1) (fun k hk => ⟨by have := h1 k hk; omega, (h k (by simp [hk])).2⟩) (by omega) h2
    rw [List.length_cons]; omega
theorem Right.length_le {ks : List Mk} (h : Right ks) : ks.length ≤ 26 := by
  have := length_of (lo := 97) (fun k hk => (h.1 k hk).1) (by omega) h.2
  omega
/-- The marks ahead of a name, and those behind it. -/
def ahead (ks : List Mk) (n : Int) : List Mk := ks.filter fun k => decide (k.name < n)
def behind (ks : List Mk) (n : Int) : List Mk := ks.filter fun k => decide (n < k.name)
/-- The marks with that one more, or in the place of the one of its name. -/
def set (ks : List Mk) (n a : Int) : List Mk := ahead ks n ++ (⟨n, a⟩ :: behind ks n)
/-- The marks without that of a name. -/
def drop (ks : List Mk) (n : Int) : List Mk := ks.filter fun k => !(k.name == n)
/-- Where the mark of a name is. -/
def look (ks : List Mk) (n : Int) : Option Mk := ks.find? fun k => k.name == n
/-- How many are ahead of a name. -/
def cnt (ks : List Mk) (n : Int) : Nat := ks.countP fun k => decide (k.name < n)
theorem cnt_le (ks : List Mk) (n : Int) : cnt ks n ≤ ks.length := List.countP_le_length
theorem split {ks : List Mk} (h : ks.Pairwise fun a b => a.name < b.name) (n : Int) : ks.take (cnt ks n) = ahead ks n ∧ ks.drop (cnt ks n) = ks.filter (fun k => decide (n ≤ k.name)) := by
  induction ks with
  | nil => exact ⟨rfl, rfl⟩
  | cons x r ih =>
    obtain ⟨h1, h2⟩ := List.pairwise_cons.1 h
    obtain ⟨i1, i2⟩ := ih h2
    by_cases hx : x.name < n
    · have e : cnt (x :: r) n = cnt r n + 1 := by unfold cnt; rw [List.countP_cons_of_pos (by simpa using hx)]
      rw [e, List.take_succ_cons, List.drop_succ_cons, i1, i2]
      constructor
      · unfold ahead; rw [List.filter_cons_of_pos (by simpa using hx)]
      · rw [List.filter_cons_of_neg (by simp; omega)]
    · have e0 : ∀ k ∈ x :: r, n ≤ k.name := fun k hk => by
        rcases List.mem_cons.1 hk with rfl | hk
        · omega
        · have := h1 k hk; omega
      have e : cnt (x :: r) n = 0 := by unfold cnt; rw [List.countP_eq_zero]; intro k hk; have := e0 k hk; simp; omega
      rw [e, List.take_zero, List.drop_zero]
      constructor
      · symm; unfold ahead; rw [List.filter_eq_nil_iff]; intro k hk; have := e0 k hk; simp; omega
      · symm; rw [List.filter_eq_self]; intro k hk; simpa using e0 k hk
/-- What stands where a name stands, or would stand. -/
theorem at_cnt {ks : List Mk} (h : ks.Pairwise fun a b => a.name < b.name) (n : Int) :
    (∃ x, ks[cnt ks n]? = some x ∧ x.name = n ∧ look ks n = some x ∧ ks.drop (cnt ks n + 1) = behind ks n) ∨
    ((∀ x, ks[cnt ks n]? = some x → x.name ≠ n) ∧ look ks n = none ∧ ks.drop (cnt ks n) = behind ks n) := by
  induction ks with
  | nil => exact .inr ⟨fun x hx => by simp at hx, rfl, rfl⟩
  | cons x r ih =>
    obtain ⟨h1, h2⟩ := List.pairwise_cons.1 h
    by_cases hx : x.name < n
    · have e : cnt (x :: r) n = cnt r n + 1 := by unfold cnt; rw [List.countP_cons_of_pos (by simpa using hx)]
      have eb : behind (x :: r) n = behind r n := by unfold behind; rw [List.filter_cons_of_neg (by simp; omega)]
      have el : look (x :: r) n = look r n := by unfold look; rw [List.find?_cons_of_neg (by simp; omega)]
      rw [e, eb, el, List.drop_succ_cons, List.getElem?_cons_succ, List.drop_succ_cons]
      exact ih h2
    · have e0 : ∀ k ∈ x :: r, n ≤ k.name := fun k hk => by
        rcases List.mem_cons.1 hk with rfl | hk
        · omega
        · have := h1 k hk; omega
      have e : cnt (x :: r) n = 0 := by unfold cnt; rw [List.countP_eq_zero]; intro k hk; have := e0 k hk; simp; omega
      rw [e]
      by_cases hn : x.name = n
      · refine .inl ⟨x, rfl, hn, by unfold look; rw [List.find?_cons_of_pos (by simpa using hn)], ?_⟩
        rw [List.drop_succ_cons, List.drop_zero]
        unfold behind
        rw [List.filter_cons_of_neg (by simp; omega)]
        symm; rw [List.filter_eq_self]; intro k hk; have := h1 k hk; simp; omega
      · have e1 : ∀ k ∈ x :: r, n < k.name := fun k hk => by
          rcases List.mem_cons.1 hk with rfl | hk
          · have := e0 k (by simp); omega
          · have := h1 k hk; have := e0 x (by simp); omega
        refine .inr ⟨fun y hy => ?_, ?_, ?_⟩
        · simp at hy; subst hy; exact hn
        · unfold look; rw [List.find?_eq_none]; intro k hk; have := e1 k hk; simp; omega
        · rw [List.drop_zero]; symm; unfold behind; rw [List.filter_eq_self]; intro k hk; simpa using e1 k hk
theorem drop_eq {ks : List Mk} (h : ks.Pairwise fun a b => a.name < b.name) (n : Int) : drop ks n = ahead ks n ++ behind ks n := by
  induction ks with
  | nil => rfl
  | cons x r ih =>
    obtain ⟨h1, h2⟩ := List.pairwise_cons.1 h
    have i := ih h2
    by_cases hx : x.name < n
    · unfold drop ahead behind at *
      rw [List.filter_cons_of_pos (by simp; omega), List.filter_cons_of_pos (by simpa using hx), List.filter_cons_of_neg (by simp; omega), i]
      rfl
    · have e1 : ahead r n = [] := by unfold ahead; rw [List.filter_eq_nil_iff]; intro k hk; have := h1 k hk; simp; omega
      rw [e1, List.nil_append] at i
      by_cases hn : x.name = n
      · unfold drop ahead behind at *
        rw [List.filter_cons_of_neg (by simpa using hn), List.filter_cons_of_neg (by simpa using hx), List.filter_cons_of_neg (by simp; omega), i, e1]
        rfl
      · unfold drop ahead behind at *
        rw [List.filter_cons_of_pos (by simpa using hn), List.filter_cons_of_neg (by simpa using hx), List.filter_cons_of_pos (by simp; omega), i, e1]
        rfl
theorem set_right {ks : List Mk} (h : Right ks) {n a : Int} (hn : 97 ≤ n ∧ n ≤ 122) (ha : 0 ≤ a ∧ a ≤ 1099511627776) : Right (set ks n a) := by
  refine ⟨fun k hk => ?_, ?_⟩
  · unfold set ahead behind at hk
    simp only [List.mem_append, List.mem_cons, List.mem_filter] at hk
    rcases hk with ⟨h1, _⟩ | rfl | ⟨h1, _⟩
    · exact h.1 k h1
    · exact ⟨hn, ha⟩
    · exact h.1 k h1
  · refine List.pairwise_append.2 ⟨(h.filter _).2, List.pairwise_cons.2 ⟨fun b hb => ?_, (h.filter _).2⟩, fun x hx y hy => ?_⟩
    · simp [behind] at hb; exact hb.2
    · simp [ahead] at hx
      simp [behind] at hy
      rcases hy with rfl | hy
      · exact hx.2
      · omega
theorem drop_right {ks : List Mk} (h : Right ks) (n : Int) : Right (drop ks n) := h.filter _
theorem look_drop (ks : List Mk) (n : Int) : look (drop ks n) n = none := by
  unfold look drop
  rw [List.find?_eq_none]
  intro k hk
  simp at hk
  simp [hk.2]
theorem look_filter {ks : List Mk} {p : Mk → Bool} {n : Int} (h : ∀ k ∈ ks, k.name = n → p k = true) : look (ks.filter p) n = look ks n := by
  unfold look
  induction ks with
  | nil => rfl
  | cons x r ih =>
    have i := ih (fun k hk => h k (by simp [hk]))
    by_cases hn : x.name = n
    · rw [List.filter_cons_of_pos (h x (by simp) hn), List.find?_cons_of_pos (by simpa using hn), List.find?_cons_of_pos (by simpa using hn)]
    · rw [List.find?_cons_of_neg (by simpa using hn)]
      by_cases hp : p x = true
      · rw [List.filter_cons_of_pos hp, List.find?_cons_of_neg (by simpa using hn), i]
      · rw [List.filter_cons_of_neg hp, i]
theorem look_none {ks : List Mk} {n : Int} (h : ∀ k ∈ ks, k.name ≠ n) : look ks n = none := by
  unfold look; rw [List.find?_eq_none]; intro k hk; simpa using h k hk
theorem look_append (a b : List Mk) (n : Int) : look (a ++ b) n = (look a n).or (look b n) := by unfold look; rw [List.find?_append]
/-- What was set is there. -/
theorem look_set (ks : List Mk) (n a : Int) : look (set ks n a) n = some ⟨n, a⟩ := by
  unfold set
  rw [look_append, look_none (fun k hk => by simp [ahead] at hk; omega), Option.none_or]
  unfold look
  rw [List.find?_cons_of_pos (by simp)]
/-- The others stay. -/
theorem look_set_other (ks : List Mk) (n a : Int) {o : Int} (ho : o ≠ n) : look (set ks n a) o = look ks o := by
  unfold set
  have e : look (⟨n, a⟩ :: behind ks n) o = look (behind ks n) o := by unfold look; rw [List.find?_cons_of_neg (by simp; omega)]
  rw [look_append, e]
  rcases Int.lt_or_gt_of_ne ho with h | h
  · rw [show look (behind ks n) o = none from look_none (fun k hk => by simp [behind] at hk; omega), Option.or_none]
    exact look_filter fun k _ hk => by simp; omega
  · rw [show look (ahead ks n) o = none from look_none (fun k hk => by simp [ahead] at hk; omega), Option.none_or]
    exact look_filter fun k _ hk => by simp; omega
theorem set_length {ks : List Mk} (h : Right ks) {n a : Int} (hn : 97 ≤ n ∧ n ≤ 122) (ha : 0 ≤ a ∧ a ≤ 1099511627776) : (set ks n a).length = (drop (set ks n a) n).length + 1 := by
  have hr := set_right h hn ha
  have e1 : ahead (set ks n a) n = ahead ks n := by
    unfold set
    show List.filter _ _ = _
    rw [List.filter_append, List.filter_cons_of_neg (by simp)]
    rw [show List.filter (fun k => decide (k.name < n)) (behind ks n) = [] from by rw [List.filter_eq_nil_iff]; intro k hk; simp [behind] at hk; simp; omega]
    rw [List.append_nil, List.filter_eq_self]
    intro k hk; simp [ahead] at hk; simpa using hk.2
  have e2 : behind (set ks n a) n = behind ks n := by
    unfold set
    show List.filter _ _ = _
    rw [List.filter_append, List.filter_cons_of_neg (by simp)]
    rw [show List.filter (fun k => decide (n < k.name)) (ahead ks n) = [] from by rw [List.filter_eq_nil_iff]; intro k hk; simp [ahead] at hk; simp; omega]
    rw [List.nil_append, List.filter_eq_self]
    intro k hk; simp [behind] at hk; simpa using hk.2
  rw [drop_eq hr.2, e1, e2]
  unfold set
  rw [List.length_append, List.length_append, List.length_cons]
  omega
/-- Of marks whose names rise, those up to a name are those below it, and that of the name. -/
theorem upto_succ {ks : List Mk} (h : ks.Pairwise fun a b => a.name < b.name) (n : Int) : ahead ks (n + 1) = ahead ks n ++ (look ks n).toList := by
  induction ks with
  | nil => rfl
  | cons x r ih =>
    obtain ⟨h1, h2⟩ := List.pairwise_cons.1 h
    have i := ih h2
    by_cases hx : x.name < n
    · have el : look (x :: r) n = look r n := by unfold look; rw [List.find?_cons_of_neg (by simp; omega)]
      rw [el]
      unfold ahead at *
      rw [List.filter_cons_of_pos (by simp; omega), List.filter_cons_of_pos (by simpa using hx), i]
      rfl
    · have e1 : ahead r n = [] := by unfold ahead; rw [List.filter_eq_nil_iff]; intro k hk; have := h1 k hk; simp; omega
      have e2 : ahead (x :: r) n = [] := by unfold ahead; rw [List.filter_cons_of_neg (by simpa using hx)]; exact e1
      rw [e2, List.nil_append]
      have e3 : ahead r (n + 1) = [] := by unfold ahead; rw [List.filter_eq_nil_iff]; intro k hk; have := h1 k hk; simp; omega
      by_cases hn : x.name = n
      · have el : look (x :: r) n = some x := by unfold look; rw [List.find?_cons_of_pos (by simpa using hn)]
        rw [el]
        unfold ahead at *
        rw [List.filter_cons_of_pos (by simp; omega), e3]
        rfl
      · rw [look_none (fun k hk => by
          rcases List.mem_cons.1 hk with rfl | hk
          · exact hn
          · have := h1 k hk; omega)]
        unfold ahead at *
        rw [List.filter_cons_of_neg (by simp; omega), e3]
        rfl
theorem ahead_first {ks : List Mk} (h : Right ks) : ahead ks 97 = [] := by
  unfold ahead; rw [List.filter_eq_nil_iff]; intro k hk; have := (h.1 k hk).1.1; simp; omega
theorem ahead_last {ks : List Mk} (h : Right ks) : ahead ks 123 = ks := by
  unfold ahead; rw [List.filter_eq_self]; intro k hk; have := (h.1 k hk).1.2; simp; omega
/-- Where a mark is, and whether there is one; the marks without it; where they go: of marks that may be. -/
def get (ks : List Mk) (n : Int) : Int × Bool := if Right ks then (match look ks n with | some x => (x.at_, true) | none => (0, false)) else (0, false)
def dropped (ks : List Mk) (n : Int) : List Mk := if Right ks then drop ks n else []
theorem get_some {ks : List Mk} {n : Int} {x : Mk} (h : Right ks) (hl : look ks n = some x) : get ks n = (x.at_, true) := by unfold get; rw [if_pos h, hl]
theorem get_none {ks : List Mk} {n : Int} (hl : look ks n = none) : get ks n = (0, false) := by unfold get; rw [hl]; split <;> rfl
theorem get_not {ks : List Mk} {n : Int} (h : ¬ Right ks) : get ks n = (0, false) := by unfold get; rw [if_neg h]
theorem look_take {ks : List Mk} {k : Nat} {x : Mk} {n : Int} (hk : ks[k]? = some x) : look (ks.take (k + 1)) n = (look (ks.take k) n).or (if x.name = n then some x else none) := by
  obtain ⟨hlt, rfl⟩ := List.getElem?_eq_some_iff.1 hk
  rw [List.take_succ_eq_append_getElem hlt, look_append]
  congr 1
  unfold look
  by_cases h : ks[k].name = n
  · rw [List.find?_cons_of_pos (by simpa using h), if_pos h]
  · rw [List.find?_cons_of_neg (by simpa using h), if_neg h]; rfl
theorem look_of_take {ks : List Mk} {k : Nat} {x : Mk} {n : Int} (h : look (ks.take k) n = some x) : look ks n = some x := by
  have := look_append (ks.take k) (ks.drop k) n
  rw [List.take_append_drop, h] at this
  simpa using this
theorem drop_succ {ks : List Mk} {k : Nat} {x : Mk} {n : Int} (hk : ks[k]? = some x) : drop (ks.take (k + 1)) n = drop (ks.take k) n ++ (if x.name = n then [] else [x]) := by
  obtain ⟨hlt, rfl⟩ := List.getElem?_eq_some_iff.1 hk
  rw [List.take_succ_eq_append_getElem hlt]
  unfold drop
  rw [List.filter_append]
  congr 1
  by_cases h : ks[k].name = n
  · rw [if_pos h, List.filter_cons_of_neg (by simpa using h)]; rfl
  · rw [if_neg h, List.filter_cons_of_pos (by simpa using h)]; rfl
theorem drop_length (ks : List Mk) (n : Int) : (drop ks n).length ≤ ks.length := List.length_filter_le _ _
/-- Where marks go by changes. -/
def clamp (p : Int) : Int := if p < 0 then 0 else if 1099511627776 < p then 1099511627776 else p
def moved (ks : List Mk) (cs : List Cg) : List Mk := ks.map fun k => ⟨k.name, clamp (shifts k.at_ cs)⟩
theorem clamp_in (p : Int) : 0 ≤ clamp p ∧ clamp p ≤ 1099511627776 := by unfold clamp; split <;> (try split) <;> omega
def gone (ks : List Mk) (cs : List Cg) : List Mk := if Right ks then moved ks cs else []
theorem moved_right {ks : List Mk} (h : Right ks) (cs : List Cg) : Right (moved ks cs) := by
  refine ⟨fun k hk => ?_, ?_⟩
  · simp only [moved, List.mem_map] at hk
    obtain ⟨x, hx, rfl⟩ := hk
    exact ⟨(h.1 x hx).1, clamp_in _⟩
  · unfold moved
    rw [List.pairwise_map]
    exact h.2
theorem moved_length (ks : List Mk) (cs : List Cg) : (moved ks cs).length = ks.length := by simp [moved]
theorem moved_get {ks : List Mk} (cs : List Cg) {j : Nat} {k : Mk} (h : ks[j]? = some k) : (moved ks cs)[j]? = some ⟨k.name, clamp (shifts k.at_ cs)⟩ := by
  unfold moved; rw [List.getElem?_map, h]; rfl
theorem moved_snoc {ks : List Mk} (cs : List Cg) {j : Nat} {k : Mk} (h : ks[j]? = some k) : moved (ks.take (j + 1)) cs = moved (ks.take j) cs ++ [⟨k.name, clamp (shifts k.at_ cs)⟩] := by
  obtain ⟨hj, rfl⟩ := List.getElem?_eq_some_iff.1 h
  unfold moved
  rw [List.take_succ_eq_append_getElem hj, List.map_append]
  rfl
/-- Ahead of all changes a place stays. -/
theorem shifts_ahead {p : Int} : ∀ {cs : List Cg}, (∀ k ∈ cs, p < k.at_) → shifts p cs = p
  | [], _ => rfl
  | x :: r, h => by
    show shifts (Chg.shift p x.at_ x.old.size x.new.size) r = p
    rw [Chg.shift, if_pos (h x (by simp))]
    exact shifts_ahead fun k hk => h k (by simp [hk])
end Mrk
end Go.Proofs.Ytcpnaanknheekaa
