/-
  Where a pattern stands in a text, and which of these offsets is next, past both ends: without a program.
-/
import Derived.Test.YtlfhfpjffdaomaaDoorRuneAt
namespace Go.Proofs.YtlfhfpjffdaomaaDoor
namespace Look
open Utf (dec off one valid)

/-- Does a pattern stand in a text at x? -/
def at_ (s p : List UInt8) (x : Nat) : Bool := decide (p <+: s.drop x)
/-- The offsets ahead of b at which it stands. -/
def upto (s p : List UInt8) (b : Nat) : List Int := ((List.range b).filter (at_ s p)).map (fun x : Nat => (x : Int))
/-- May they be? -/
def ok (s p : List UInt8) : Bool := valid s && valid p && !p.isEmpty
/-- All offsets at which it stands. -/
def all (s p : List UInt8) : List Int := if ok s p then upto s p s.length else []
theorem all_ok {s p : List UInt8} (h : ok s p = true) : all s p = upto s p s.length := if_pos h
theorem all_no {s p : List UInt8} (h : ok s p = false) : all s p = [] := if_neg (by simp [h])
theorem upto_zero (s p : List UInt8) : upto s p 0 = [] := rfl
theorem upto_succ (s p : List UInt8) (b : Nat) : upto s p (b + 1) = upto s p b ++ if at_ s p b then [(b : Int)] else [] := by
  rw [upto, upto, List.range_succ, List.filter_append, List.map_append]
  by_cases h : at_ s p b = true
  · simp [h]
  · simp [h]
theorem upto_skip {s p : List UInt8} {a b : Nat} (hab : a ≤ b) (h : ∀ x, a ≤ x → x < b → at_ s p x = false) : upto s p b = upto s p a := by
  induction b with
  | zero => rw [Nat.le_zero.1 hab]
  | succ b ih =>
    rcases Nat.lt_or_ge b a with h1 | h1
    · rw [show a = b + 1 by omega]
    · rw [upto_succ, h b h1 (by omega), ih h1 (fun x h2 h3 => h x h2 (by omega))]
      simp
theorem upto_prefix (s p : List UInt8) {a b : Nat} (h : a ≤ b) : upto s p a <+: upto s p b := by
  induction b with
  | zero => rw [Nat.le_zero.1 h]; exact List.prefix_refl _
  | succ b ih =>
    rcases Nat.lt_or_ge b a with h1 | h1
    · rw [show a = b + 1 by omega]; exact List.prefix_refl _
    · rw [upto_succ]; exact (ih h1).trans (List.prefix_append _ _)
theorem mem_upto {s p : List UInt8} {b : Nat} {x : Int} : x ∈ upto s p b ↔ ∃ n : Nat, x = n ∧ n < b ∧ at_ s p n = true := by
  simp only [upto, List.mem_map, List.mem_filter, List.mem_range]
  constructor
  · rintro ⟨n, ⟨h1, h2⟩, rfl⟩; exact ⟨n, rfl, h1, h2⟩
  · rintro ⟨n, rfl, h1, h2⟩; exact ⟨n, ⟨h1, h2⟩, rfl⟩
theorem upto_up (s p : List UInt8) (b : Nat) : (upto s p b).Pairwise (· < ·) := by
  rw [upto, List.pairwise_map]
  exact (List.pairwise_lt_range.filter _).imp (by intro x y h; omega)
theorem upto_length (s p : List UInt8) (b : Nat) : (upto s p b).length ≤ b := by
  rw [upto, List.length_map]
  exact Nat.le_trans (List.length_filter_le ..) (by rw [List.length_range]; exact Nat.le_refl _)
theorem all_up (s p : List UInt8) : (all s p).Pairwise (· < ·) := by
  unfold all; split
  · exact upto_up _ _ _
  · exact List.Pairwise.nil
theorem all_length (s p : List UInt8) : (all s p).length ≤ s.length := by
  unfold all; split
  · exact upto_length _ _ _
  · exact Nat.zero_le _
theorem at_room {s p : List UInt8} {x : Nat} (h : at_ s p x = true) : p.length ≤ s.length - x := by
  have := (of_decide_eq_true h).length_le
  rwa [List.length_drop] at this
theorem upto_far {s p : List UInt8} {x : Nat} (h1 : x ≤ s.length) (h2 : s.length < x + p.length) : upto s p s.length = upto s p x :=
  upto_skip h1 fun y h3 h4 => by
    cases h : at_ s p y with
    | false => rfl
    | true => have := at_room h; omega
/-- It stands only where a rune begins. -/
theorem at_place {s p : List UInt8} {rs : List (List UInt8)} (hd : dec s = some rs) (hv : valid p = true) (h0 : p ≠ []) {x : Nat} (h : at_ s p x = true) : ∃ i, i < rs.length ∧ off rs i = x := by
  obtain ⟨ps, hp⟩ := Option.isSome_iff_exists.1 hv
  obtain ⟨h1, h2⟩ := Utf.dec_some hp
  cases ps with
  | nil => exact absurd h2 h0
  | cons r t =>
    rw [List.flatten_cons] at h2
    have hr := h1 r (by simp)
    have hpre : r <+: s.drop x := (List.prefix_append r t.flatten).trans (by rw [← h2]; exact of_decide_eq_true h)
    obtain ⟨i, hi, e⟩ := (Seek.pre_iff hd hr x).1 hpre
    exact ⟨i, (List.getElem?_eq_some_iff.1 hi).1, e⟩
/-- From rune to rune. -/
theorem upto_next {s p : List UInt8} {rs : List (List UInt8)} (hd : dec s = some rs) (hv : valid p = true) (h0 : p ≠ []) {i : Nat} {r : List UInt8} (hr : rs[i]? = some r) : upto s p (off rs (i + 1)) = upto s p (off rs i) ++ if at_ s p (off rs i) then [(off rs i : Int)] else [] := by
  have ho : one r = true := (Utf.dec_some hd).1 r (List.mem_of_getElem? hr)
  have hn := Utf.off_next hr
  have hp := Utf.one_pos ho
  have hi := (List.getElem?_eq_some_iff.1 hr).1
  rw [← upto_succ]
  refine upto_skip (by omega) fun x h1 h2 => ?_
  cases h : at_ s p x with
  | false => rfl
  | true =>
    obtain ⟨j, hj, rfl⟩ := at_place hd hv h0 h
    rcases Nat.lt_or_ge i j with h3 | h3
    · have := Utf.off_mono (rs := rs) (i := i + 1) (j := j) (by omega); omega
    · have := Utf.off_mono (rs := rs) (i := j) (j := i) h3; omega
/-- What stands somewhere stands in a text, at a place, whole. -/
theorem all_mem {s p : List UInt8} {x : Int} (h : x ∈ all s p) : ok s p = true ∧ ∃ n : Nat, x = n ∧ n + p.length ≤ s.length ∧ at_ s p n = true ∧ Utf.place s x = true := by
  cases hk : ok s p with
  | false => rw [all_no hk] at h; cases h
  | true =>
    rw [all_ok hk] at h
    obtain ⟨n, rfl, h1, h2⟩ := mem_upto.1 h
    have h3 := at_room h2
    simp only [ok, Bool.and_eq_true, Bool.not_eq_true', List.isEmpty_eq_false_iff] at hk
    obtain ⟨rs, hd⟩ := Option.isSome_iff_exists.1 hk.1.1
    obtain ⟨i, hi, e⟩ := at_place hd hk.1.2 hk.2 h2
    exact ⟨rfl, n, rfl, by omega, h2, (Utf.place_iff hd).2 ⟨i, Nat.le_of_lt hi, by rw [e]⟩⟩

/-- How many of a list are ahead of p, or at p or ahead of it. -/
def cut (l : List Int) (p : Int) : Nat := l.countP (· < p)
/-- Where n steps lead, of a list that is not empty (n from 1 on): as the program reckons. -/
def nx (l : List Int) (p : Int) (back : Bool) (n : Nat) : Int :=
  (l[(if back then cut l p + l.length - 1 - (n - 1) % l.length else cut l (p + 1) + (n - 1) % l.length) % l.length]?).getD 0
theorem cut_le (l : List Int) (p : Int) : cut l p ≤ l.length := List.countP_le_length
/-- What is ahead of p in a rising list. -/
theorem cut_iff {l : List Int} (hl : l.Pairwise (· < ·)) {k : Nat} {x : Int} (hk : l[k]? = some x) (p : Int) : x < p ↔ k < cut l p := by
  induction l generalizing k with
  | nil => simp at hk
  | cons a t ih =>
    obtain ⟨h1, h2⟩ := List.pairwise_cons.1 hl
    unfold cut at ih ⊢
    by_cases ha : a < p
    · rw [List.countP_cons_of_pos (by simpa using ha)]
      cases k with
      | zero => simp at hk; subst hk; exact ⟨fun _ => by omega, fun _ => ha⟩
      | succ k =>
        rw [List.getElem?_cons_succ] at hk
        rw [ih h2 hk]
        omega
    · rw [List.countP_cons_of_neg (by simpa using ha)]
      have h0 : t.countP (· < p) = 0 := by
        rw [List.countP_eq_zero]
        intro y hy
        have := h1 y hy
        simp; omega
      rw [h0]
      constructor
      · intro h
        cases k with
        | zero => simp at hk; omega
        | succ k =>
          rw [List.getElem?_cons_succ] at hk
          have := h1 x (List.mem_of_getElem? hk); omega
      · omega
theorem cut_at {l : List Int} (hl : l.Pairwise (· < ·)) {k : Nat} {x : Int} (hk : l[k]? = some x) : cut l x = k ∧ cut l (x + 1) = k + 1 := by
  have hkl := (List.getElem?_eq_some_iff.1 hk).1
  have key : ∀ p, ∀ j y, l[j]? = some y → (y < p ↔ j < cut l p) := fun p j y h => cut_iff hl h p
  constructor
  · rcases Nat.lt_trichotomy (cut l x) k with h | h | h
    · obtain ⟨y, hy⟩ : ∃ y, l[cut l x]? = some y := ⟨_, List.getElem?_eq_getElem (by omega)⟩
      have h1 := key x _ _ hy
      have h2 : y < x := by
        obtain ⟨a, rfl⟩ := (List.getElem?_eq_some_iff.1 hy); obtain ⟨b, rfl⟩ := (List.getElem?_eq_some_iff.1 hk)
        exact List.pairwise_iff_getElem.1 hl _ _ _ _ h
      omega
    · exact h
    · have := (key x k x hk).2 h; omega
  · have h1 := (key (x + 1) k x hk).1 (by omega)
    have h2 := cut_le l (x + 1)
    rcases Nat.lt_or_ge (k + 1) (cut l (x + 1)) with h | h
    · obtain ⟨y, hy⟩ : ∃ y, l[k + 1]? = some y := ⟨_, List.getElem?_eq_getElem (by omega)⟩
      have h3 := (key (x + 1) _ _ hy).2 h
      have h4 : x < y := by
        obtain ⟨a, rfl⟩ := (List.getElem?_eq_some_iff.1 hy); obtain ⟨b, rfl⟩ := (List.getElem?_eq_some_iff.1 hk)
        exact List.pairwise_iff_getElem.1 hl _ _ _ _ (by omega)
      omega
    · omega
/-- Which position of the list n steps lead to. -/
def ix (l : List Int) (p : Int) (back : Bool) (n : Nat) : Nat := (if back then cut l p + l.length - 1 - (n - 1) % l.length else cut l (p + 1) + (n - 1) % l.length) % l.length
theorem ix_lt {l : List Int} (h : l ≠ []) (p : Int) (back : Bool) (n : Nat) : ix l p back n < l.length := Nat.mod_lt _ (List.length_pos_iff.2 h)
theorem nx_ix (l : List Int) (p : Int) (back : Bool) (n : Nat) : nx l p back n = (l[ix l p back n]?).getD 0 := rfl
theorem nx_at {l : List Int} (h : l ≠ []) (p : Int) (back : Bool) (n : Nat) : l[ix l p back n]? = some (nx l p back n) := by
  rw [nx_ix, List.getElem?_eq_getElem (ix_lt h p back n)]; rfl
theorem nx_mem {l : List Int} (h : l ≠ []) (p : Int) (back : Bool) (n : Nat) : nx l p back n ∈ l := List.mem_of_getElem? (nx_at h p back n)
theorem mod_mod_add (a b m : Nat) : (a % m + b) % m = (a + b) % m := by rw [Nat.add_mod, Nat.mod_mod, ← Nat.add_mod]
/-- From one of the list, n steps on. -/
theorem ix_on {l : List Int} (hl : l.Pairwise (· < ·)) {k : Nat} {x : Int} (hk : l[k]? = some x) {n : Nat} (hn : 1 ≤ n) : ix l x false n = (k + n) % l.length := by
  rw [ix, if_neg (by simp), (cut_at hl hk).2, Nat.add_mod, Nat.mod_mod, ← Nat.add_mod]
  congr 1; omega
theorem sub_mod_lemma {k n m : Nat} (hm : 0 < m) (hk : k < m) (hn : 1 ≤ n) : (k + m - 1 - (n - 1) % m) % m = (k + (m - n % m)) % m := by
  have h1 := Nat.mod_lt (n - 1) hm
  have h2 := Nat.mod_lt n hm
  obtain ⟨j, rfl⟩ : ∃ j, n = j + 1 := ⟨n - 1, by omega⟩
  rw [Nat.add_sub_cancel] at *
  by_cases h : j % m + 1 = m
  · have h3 : (j + 1) % m = 0 := by
      rcases Nat.lt_or_ge 1 m with h4 | h4
      · rw [Nat.add_mod, Nat.mod_eq_of_lt (a := 1) h4, h, Nat.mod_self]
      · obtain rfl : m = 1 := by omega
        simp [Nat.mod_one]
    rw [h3, show k + m - 1 - j % m = k by omega, Nat.sub_zero, Nat.add_mod_right]
  · have h3 : (j + 1) % m = j % m + 1 := by
      rw [Nat.add_mod, Nat.mod_eq_of_lt (a := 1) (by omega)]
      exact Nat.mod_eq_of_lt (by omega)
    rw [h3]
    congr 1; omega
theorem ix_back {l : List Int} (hl : l.Pairwise (· < ·)) {k : Nat} {x : Int} (hk : l[k]? = some x) {n : Nat} (hn : 1 ≤ n) : ix l x true n = (k + (l.length - n % l.length)) % l.length := by
  have h := (List.getElem?_eq_some_iff.1 hk).1
  rw [ix, if_pos rfl, (cut_at hl hk).1, sub_mod_lemma (by omega) h hn]
/-- One step more. -/
theorem nx_more {l : List Int} (hl : l.Pairwise (· < ·)) (h0 : l ≠ []) (p : Int) (back : Bool) {n : Nat} (hn : 1 ≤ n) : nx l p back (n + 1) = nx l (nx l p back n) back 1 := by
  have hL := List.length_pos_iff.2 h0
  have ha := nx_at h0 p back n
  have hb := nx_at h0 p back (n + 1)
  have hc := nx_at h0 (nx l p back n) back 1
  suffices h : ix l p back (n + 1) = ix l (nx l p back n) back 1 by
    rw [h, hc] at hb; injection hb with hb; exact hb.symm
  obtain ⟨j, rfl⟩ : ∃ j, n = j + 1 := ⟨n - 1, by omega⟩
  have h1 := Nat.mod_lt j hL
  cases back with
  | false =>
    rw [ix_on hl ha (Nat.le_refl 1), ix, ix, if_neg (by simp), if_neg (by simp), Nat.add_sub_cancel, Nat.add_sub_cancel, mod_mod_add, Nat.add_mod_mod, show cut l (p + 1) + j % l.length + 1 = cut l (p + 1) + 1 + j % l.length by omega, Nat.add_mod_mod]
    congr 1; omega
  | true =>
    have hi := ix_lt h0 p true (j + 1)
    have hcut := cut_le l p
    rw [ix_back hl ha (Nat.le_refl 1)]
    generalize hm : l.length = m at *
    have e1 : ix l p true (j + 1) = (cut l p + m - 1 - j % m) % m := by rw [ix, if_pos rfl, hm, Nat.add_sub_cancel]
    have e2 : ix l p true (j + 1 + 1) = (cut l p + m - 1 - (j + 1) % m) % m := by rw [ix, if_pos rfl, hm, Nat.add_sub_cancel]
    rw [e1, e2, mod_mod_add]
    by_cases h2 : j % m + 1 = m
    · have h3 : (j + 1) % m = 0 := by
        rcases Nat.lt_or_ge 1 m with h4 | h4
        · rw [Nat.add_mod, Nat.mod_eq_of_lt (a := 1) h4, h2, Nat.mod_self]
        · obtain rfl : m = 1 := by omega
          simp [Nat.mod_one]
      rw [h3]
      rcases Nat.lt_or_ge 1 m with h4 | h4
      · rw [Nat.mod_eq_of_lt (a := 1) h4]
        rw [show cut l p + m - 1 - j % m + (m - 1) = cut l p + m - 1 - 0 by omega]
      · obtain rfl : m = 1 := by omega
        simp [Nat.mod_one]
    · have h3 : (j + 1) % m = j % m + 1 := by
        rw [Nat.add_mod, Nat.mod_eq_of_lt (a := 1) (by omega)]
        exact Nat.mod_eq_of_lt (by omega)
      rw [h3, Nat.mod_eq_of_lt (a := 1) (by omega), show cut l p + m - 1 - j % m + (m - 1) = (cut l p + m - 1 - (j % m + 1)) + m by omega, Nat.add_mod_right]
/-- All the way round. -/
theorem nx_round {l : List Int} (hl : l.Pairwise (· < ·)) {k : Nat} {x : Int} (hk : l[k]? = some x) : nx l x false l.length = x := by
  have h := (List.getElem?_eq_some_iff.1 hk).1
  have h0 : l ≠ [] := by rintro rfl; simp at hk
  have ha := nx_at h0 x false l.length
  rw [ix_on hl hk (by omega), Nat.add_mod_right, Nat.mod_eq_of_lt h, hk] at ha
  injection ha with ha; exact ha.symm
/-- The way back undoes it. -/
theorem nx_undo {l : List Int} (hl : l.Pairwise (· < ·)) {k : Nat} {x : Int} (hk : l[k]? = some x) {n : Nat} (hn : 1 ≤ n) : nx l (nx l x false n) true n = x := by
  have h := (List.getElem?_eq_some_iff.1 hk).1
  have h0 : l ≠ [] := by rintro rfl; simp at hk
  have ha := nx_at h0 x false n
  have hb := nx_at h0 (nx l x false n) true n
  rw [ix_back hl ha hn, ix_on hl hk hn, mod_mod_add] at hb
  have h2 := Nat.mod_lt n (show 0 < l.length by omega)
  have e : (k + n + (l.length - n % l.length)) % l.length = k := by
    have hd := Nat.div_add_mod n l.length
    have : k + n + (l.length - n % l.length) = k + l.length * (n / l.length + 1) := by rw [Nat.mul_add, Nat.mul_one]; omega
    rw [this, Nat.add_mul_mod_self_left, Nat.mod_eq_of_lt h]
  rw [e, hk] at hb
  injection hb with hb; exact hb.symm
/-- The answer of Next. -/
def res (s p : List UInt8) (at0 : Int) (back : Bool) (n : Int) : Value :=
  if all s p ≠ [] ∧ Utf.place s at0 = true then .tuple #[.int .i64 (nx (all s p) at0 back (max n 1).toNat), .bool true] else .tuple #[.int .i64 0, .bool false]
end Look
end Go.Proofs.YtlfhfpjffdaomaaDoor
