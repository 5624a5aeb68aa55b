/-
  Where a rising list leads: on, back.
-/
import Derived.Test.YtjkcdmlbnfibgaaHopGo
import Derived.Test.YtjkcdmlbnfibgaaInts
import Derived.Test.YtjkcdmlbnfibgaaShelf
namespace Go.Proofs.Ytjkcdmlbnfibgaa
open Go.RowKit Go.Shelf
namespace Hop
theorem parts_of {l : List Int} (h : l.Pairwise (· ≤ ·)) (x : Int) : (l.filter fun y => decide (x ≤ y)) = l.drop (l.countP (· < x)) ∧ (l.filter fun y => decide (y < x)) = l.take (l.countP (· < x)) := by
  induction l with
  | nil => simp
  | cons a t ih =>
    obtain ⟨ha, ht⟩ := List.pairwise_cons.1 h
    obtain ⟨i1, i2⟩ := ih ht
    by_cases hx : a < x
    · rw [List.countP_cons_of_pos (by simpa using hx), List.drop_succ_cons, List.take_succ_cons, ← i1, ← i2, List.filter_cons_of_neg (by simp; omega), List.filter_cons_of_pos (by simpa using hx)]
      exact ⟨rfl, rfl⟩
    · have h0 : (a :: t).countP (· < x) = 0 := by
        rw [List.countP_eq_zero]
        intro y hy
        rcases List.mem_cons.1 hy with rfl | hy
        · simpa using hx
        · have := ha y hy
          simp; omega
      rw [h0, List.drop_zero, List.take_zero]
      constructor
      · refine List.filter_eq_self.2 fun y hy => ?_
        rcases List.mem_cons.1 hy with rfl | hy
        · simp; omega
        · have := ha y hy
          simp; omega
      · refine List.filter_eq_nil_iff.2 fun y hy => ?_
        rcases List.mem_cons.1 hy with rfl | hy
        · simp; omega
        · have := ha y hy
          simp; omega
theorem behind_eq (l : List Int) (p : Int) : (l.filter fun x => decide (p < x)) = (l.filter fun y => decide (p + 1 ≤ y)) := by
  refine List.filter_congr fun y _ => ?_
  by_cases h : p < y
  · simp [h]; omega
  · simp [h]; omega
/-- What the program's 'on' finds: how many places stand at p or ahead of it. -/
theorem far_at {l : List Int} (h : l.Pairwise (· ≤ ·)) (p : Int) (n : Nat) :
    (l.countP (· < p + 1) = l.length → far l p n = -1) ∧
    (l.countP (· < p + 1) < l.length → 1 ≤ n → l[l.countP (· < p + 1) + (min n (l.length - l.countP (· < p + 1)) - 1)]? = some (far l p n)) := by
  have h1 := (parts_of h (p + 1)).1
  rw [← behind_eq] at h1
  generalize l.countP (· < p + 1) = i at *
  constructor
  · intro e
    rw [far, h1, List.drop_of_length_le (by omega)]; rfl
  · intro e hn
    rw [far, h1, List.getElem?_drop, List.length_drop, List.getElem?_eq_getElem (by omega)]
    rfl
theorem farb_at {l : List Int} (h : l.Pairwise (· ≤ ·)) (p : Int) (n : Nat) :
    (l.countP (· < p) = 0 → farb l p n = -1) ∧
    (0 < l.countP (· < p) → 1 ≤ n → l[l.countP (· < p) - n]? = some (farb l p n)) := by
  have h1 := (parts_of h p).2
  have h2 : l.countP (· < p) ≤ l.length := List.countP_le_length
  generalize l.countP (· < p) = i at *
  constructor
  · intro e
    rw [farb, h1, e, List.take_zero, if_pos rfl]
  · intro e hn
    have h3 : (l.take i).length = i := by rw [List.length_take]; omega
    rw [farb, h1, if_neg (fun h => by rw [h] at h3; simp at h3; omega), h3, List.getElem?_take_of_lt (by omega), List.getElem?_eq_getElem (by omega)]
    rfl
/-- The answer that leads to v. -/
def res (v : Int) : Value := if v < 0 then .tuple #[.int .i64 0, .bool false] else .tuple #[.int .i64 v, .bool true]
theorem res_no {v : Int} (h : v < 0) : res v = .tuple #[.int .i64 0, .bool false] := if_pos h
theorem res_at {v : Int} (h : 0 ≤ v) : res v = .tuple #[.int .i64 v, .bool true] := if_neg (by omega)
end Hop
theorem wrap_in {x : Int} (h1 : -9223372036854775808 ≤ x) (h2 : x ≤ 9223372036854775807) : IntKind.i64.wrap x = x := by rw [IntKind.wrap_i64]; omega
/-- slices.BinarySearch in a list that a function has made. -/
theorem search_int {B : Nat} {v : Value} {xs : List Int} {w : World} (hr : w.ownsRow B 3 1 v xs.length (xs.map (Value.int .i64))) (hl : xs.length < 4611686018427387904) (hs : xs.Pairwise (· ≤ ·)) (x : Int) :
    Calls Try.prog 35 #[v, .int .i64 x] w fun e w' => (∃ b, e = .returned (.tuple #[.int .i64 (xs.countP (· < x) : Nat), .bool b])) ∧ Below w.heap.size w w' := by
  rcases hr.2 with ⟨rfl, h0⟩ | ⟨g, cap, cur, rfl, hB, hg, hn, hcap, hcs, htk⟩
  · obtain rfl : xs = [] := List.eq_nil_of_length_eq_zero h0
    go_enter Try.func35, Try.ntmps35
    go_wp2
    go_loopw [7, 8] (fun a b wr => a = .int .i64 0 ∧ b = .int .i64 0 ∧ wr = w) (fun _ _ _ => 0)
    case atStart => exact ⟨rfl, rfl, rfl⟩
    case round =>
      obtain ⟨rfl, rfl, rfl⟩ := hrel
      go_wp2
      go_ret2
      exact ⟨⟨false, rfl⟩, Below.refl _ _⟩
  · have hc : ∀ j, j < xs.length → w.cell? ⟨g, 0 + j, none⟩ = some (.int .i64 (xs.getD j 0)) := fun j hj => by
      have := hr.cells (g := g) rfl j (.int .i64 (xs.getD j 0)) (by simp [List.getD_eq_getElem?_getD, List.getElem?_eq_getElem hj])
      rw [Nat.zero_add]
      have e : (⟨g, 0, none⟩ : Addr).add j = ⟨g, j, none⟩ := by unfold Addr.add; split <;> simp_all
      rw [e] at this
      exact this
    refine (Try.slices_BinarySearch_int g 0 xs.length cap xs x w (Nat.le_refl _) hl hc (by rw [List.take_length]; exact hs)).mono ?_
    rintro e w' ⟨rfl, q, rfl⟩
    rw [List.take_length]
    exact ⟨⟨_, rfl⟩, below_gb (gb_drewN w q none)⟩
set_option maxRecDepth 100000 in
theorem hop_on {B : Nat} {v : Value} {xs : List Int} {w : World} (hr : w.ownsRow B 3 1 v xs.length (xs.map (Value.int .i64))) (hl : xs.length ≤ 1000000000002) (hs : xs.Pairwise (· ≤ ·)) (h0 : ∀ x ∈ xs, 0 ≤ x)
    (p n : Int) (hp : 0 ≤ p ∧ p ≤ 1000000000000) (hn : 1 ≤ n ∧ n ≤ 9223372036854775807) :
    Calls Try.prog 24 #[v, .int .i64 p, .int .i64 n] w fun e w' => e = .returned (Hop.res (Hop.far xs p n.toNat)) ∧ Below w.heap.size w w' := by
  have C := Lib.hid (search_int hr (by omega) hs (p + 1))
  have HF := Lib.hid (Hop.far_at hs p n.toNat)
  have hi : xs.countP (· < p + 1) ≤ xs.length := List.countP_le_length
  have hw : IntKind.i64.wrap (p + 1) = p + 1 := wrap_in (by omega) (by omega)
  obtain ⟨a, c, rfl⟩ := own_shape hr
  have hcap : xs.length ≤ c := by
    rcases hr.2 with ⟨h1, h2⟩ | ⟨g, cap, cur, h1, _, _, h2, _⟩
    · omega
    · injection h1 with _ _ h3; omega
  generalize hF : Hop.far xs p n.toNat = F at *
  generalize List.countP (fun x => decide (x < p + 1)) xs = i at *
  by_cases he : i = xs.length
  · have H := Lib.hid (HF.out.1 he)
    subst he
    go_enter Try.func24, Try.ntmps24
    go_wp2_with (go_at_call 35; refine C.out.mono ?_; rintro e w1 ⟨⟨b, rfl⟩, hb⟩)
    all_goals
      go_ret2
      exact ⟨by rw [H.out]; rfl, hb⟩
  · obtain ⟨k, hk⟩ : ∃ k, min n.toNat (xs.length - i) = k + 1 := ⟨min n.toNat (xs.length - i) - 1, by omega⟩
    have hx := HF.out.2 (by omega) (by omega)
    rw [hk, Nat.add_sub_cancel] at hx
    have hF0 := h0 F (List.mem_of_getElem? hx)
    rcases hr.2 with ⟨h1, h2⟩ | ⟨g, cap, cur, h1, hB, hg, hrest⟩
    · omega
    injection h1 with h1 h4 h3
    subst h1
    have hcl : w.cell? ⟨g, i + k, none⟩ = some (.int .i64 F) := by
      have := hr.cells (g := g) rfl (i + k) (.int .i64 F) (by simp [hx])
      have e : (⟨g, 0, none⟩ : Addr).add (i + k) = ⟨g, i + k, none⟩ := by unfold Addr.add; split <;> simp_all
      rw [e] at this
      exact this
    have hgl := (Array.getElem?_eq_some_iff.1 hg).1
    clear hr hg h3 h4 HF hs h0 hF hx hrest hB
    clear cur cap
    generalize xs.length = L at *
    obtain ⟨q, rfl⟩ : ∃ q, L = i + q := ⟨L - i, by omega⟩
    obtain ⟨d, rfl⟩ : ∃ d, c = i + d := ⟨c - i, by omega⟩
    rw [Nat.add_sub_cancel_left] at hk
    have hmin : min n (q : Int) = (k : Int) + 1 := by omega
    have hkq : k < q := by omega
    have hkq2 : (k : Int) < (q : Int) := by omega
    have hd0 : ¬ d = 0 := by omega
    have hq0 : ¬ q = 0 := by omega
    have hwk : IntKind.i64.wrap (k : Int) = k := wrap_in (by omega) (by omega)
    have HP := Lib.hid (And.intro hcl hgl)
    clear hcl hgl hk hn hp he hi hcap hl
    go_enter Try.func24, Try.ntmps24
    go_wp2_with (go_at_call 35; refine C.out.mono ?_; rintro e w1 ⟨⟨b, rfl⟩, hb⟩; have hc1 := (hb.cell (p := ⟨g, i + k, none⟩) HP.out.2).trans HP.out.1)
    go_ret2
    exact ⟨by rw [Hop.res_at hF0]; rfl, hb⟩
set_option maxRecDepth 100000 in
theorem hop_back {B : Nat} {v : Value} {xs : List Int} {w : World} (hr : w.ownsRow B 3 1 v xs.length (xs.map (Value.int .i64))) (hl : xs.length ≤ 1000000000002) (hs : xs.Pairwise (· ≤ ·)) (h0 : ∀ x ∈ xs, 0 ≤ x)
    (p n : Int) (hn : 1 ≤ n ∧ n ≤ 9223372036854775807) :
    Calls Try.prog 23 #[v, .int .i64 p, .int .i64 n] w fun e w' => e = .returned (Hop.res (Hop.farb xs p n.toNat)) ∧ Below w.heap.size w w' := by
  have C := Lib.hid (search_int hr (by omega) hs p)
  have HF := Lib.hid (Hop.farb_at hs p n.toNat)
  have hi : xs.countP (· < p) ≤ xs.length := List.countP_le_length
  obtain ⟨a, c, rfl⟩ := own_shape hr
  generalize hF : Hop.farb xs p n.toNat = F at *
  generalize List.countP (fun x => decide (x < p)) xs = i at *
  by_cases he : i = 0
  · have H := Lib.hid (HF.out.1 he)
    subst he
    rw [show ((0 : Nat) : Int) = 0 from rfl] at C
    go_enter Try.func23, Try.ntmps23
    go_wp2_with (go_at_call 35; refine C.out.mono ?_; rintro e w1 ⟨⟨b, rfl⟩, hb⟩)
    go_ret2
    exact ⟨by rw [H.out]; rfl, hb⟩
  · have hx := HF.out.2 (by omega) (by omega)
    obtain ⟨k, hk⟩ : ∃ k, i - n.toNat = k := ⟨_, rfl⟩
    rw [hk] at hx
    have hF0 := h0 F (List.mem_of_getElem? hx)
    rcases hr.2 with ⟨h1, h2⟩ | ⟨g, cap, cur, h1, hB, hg, hrest⟩
    · omega
    injection h1 with h1 h4 h3
    subst h1
    have hcl : w.cell? ⟨g, k, none⟩ = some (.int .i64 F) := by
      have := hr.cells (g := g) rfl k (.int .i64 F) (by simp [hx])
      have e : (⟨g, 0, none⟩ : Addr).add k = ⟨g, k, none⟩ := by unfold Addr.add; split <;> simp_all
      rw [e] at this
      exact this
    have hgl := (Array.getElem?_eq_some_iff.1 hg).1
    clear hr hg h3 h4 HF hs h0 hF hx hrest hB
    clear cur cap
    generalize xs.length = L at *
    have hmax : max ((i : Int) - n) 0 = (k : Int) := by omega
    have hwi : IntKind.i64.wrap ((i : Int) - n) = (i : Int) - n := wrap_in (by omega) (by omega)
    have hkq : k < L := by omega
    have hkq2 : (k : Int) < (L : Int) := by omega
    have hi0 : ((i : Int) == 0) = false := by simp; omega
    have HP := Lib.hid (And.intro hcl hgl)
    clear hcl hgl hk hn he hi hl
    go_enter Try.func23, Try.ntmps23
    go_wp2_with (go_at_call 35; refine C.out.mono ?_; rintro e w1 ⟨⟨b, rfl⟩, hb⟩; have hc1 := (hb.cell (p := ⟨g, k, none⟩) HP.out.2).trans HP.out.1)
    go_ret2
    exact ⟨by rw [Hop.res_at hF0]; rfl, hb⟩
end Go.Proofs.Ytjkcdmlbnfibgaa
