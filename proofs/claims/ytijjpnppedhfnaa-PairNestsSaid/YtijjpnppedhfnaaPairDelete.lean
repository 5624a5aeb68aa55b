/-
  slices.DeleteFunc at pairs that are not closed.
-/
import Derived.Test.YtijjpnppedhfnaaPairStack
import Derived.Lib.SliceRun
import Derived.BigCall
namespace Go.Proofs.Ytijjpnppedhfnaa
open Go.RowKit
namespace Pair
/-- Those that are closed. -/
def kz (xs : List (Nat × Int)) : List (Nat × Int) := xs.filter fun x => decide (0 ≤ x.2)
theorem flatZ_kz (xs : List (Nat × Int)) : flatZ (kz xs) = flat2 (keep xs) := by
  induction xs with
  | nil => rfl
  | cons x xs ih =>
    rw [kz, List.filter_cons, keep]
    by_cases h : x.2 < 0
    · rw [if_pos h, if_neg (by simp; omega)]; exact ih
    · rw [if_neg h, if_pos (by simp; omega), flatZ_cons, show flat2 ((x.1, x.2.toNat) :: keep xs) = [.int .i64 (x.1 : Nat), .int .i64 (x.2.toNat : Nat)] ++ flat2 (keep xs) by simp [flat2], Int.toNat_of_nonneg (by omega)]
      exact congrArg _ ih
theorem kz_length (xs : List (Nat × Int)) : (kz xs).length = (keep xs).length := by
  have h1 := congrArg List.length (flatZ_kz xs)
  rw [flatZ_length, flat2_length] at h1
  omega
theorem kz_le (xs : List (Nat × Int)) : (kz xs).length ≤ xs.length := List.length_filter_le _ _
theorem kz_next {xs : List (Nat × Int)} {j : Nat} {x : Nat × Int} (h : xs[j]? = some x) : kz (xs.take (j + 1)) = kz (xs.take j) ++ if x.2 < 0 then [] else [x] := by
  rw [List.take_add_one, h, kz, List.filter_append]
  congr 1
  by_cases h1 : x.2 < 0
  · rw [if_pos h1]; simp; omega
  · rw [if_neg h1]; simp; omega
theorem flatZ_set (xs : List (Nat × Int)) (i : Nat) (x : Nat × Int) : ((flatZ xs).set (i * 2) (.int .i64 (x.1 : Nat))).set (i * 2 + 1) (.int .i64 x.2) = flatZ (xs.set i x) := by
  induction xs generalizing i with
  | nil => simp [flatZ]
  | cons y xs ih =>
    cases i with
    | zero => simp [flatZ]
    | succ i =>
      rw [List.set_cons_succ, flatZ_cons, flatZ_cons, ← ih i, show (i + 1) * 2 + 1 = i * 2 + 1 + 2 by omega, show (i + 1) * 2 = i * 2 + 2 by omega]
      simp
/-- The first of a list that is not closed; -1: each is. -/
def First (xs : List (Nat × Int)) (r : Int) : Prop := (r = -1 ∧ ∀ (j : Nat) (x : Nat × Int), xs[j]? = some x → 0 ≤ x.2) ∨ ∃ k : Nat, r = k ∧ (∃ x : Nat × Int, xs[k]? = some x ∧ x.2 < 0) ∧ ∀ (j : Nat) (x : Nat × Int), j < k → xs[j]? = some x → 0 ≤ x.2
theorem First.unique {xs : List (Nat × Int)} {r s : Int} (h : First xs r) (h' : First xs s) : r = s := by
  rcases h with ⟨rfl, h1⟩ | ⟨k, rfl, ⟨x, h2, h3⟩, h4⟩
  · rcases h' with ⟨rfl, _⟩ | ⟨k, rfl, ⟨x, h2, h3⟩, _⟩
    · rfl
    · have := h1 k x h2; omega
  · rcases h' with ⟨rfl, h1⟩ | ⟨m, rfl, ⟨y, h5, h6⟩, h7⟩
    · have := h1 k x h2; omega
    · rcases Nat.lt_trichotomy k m with h | h | h
      · have := h7 k x h h2; omega
      · rw [h]
      · have := h4 m y h h5; omega
theorem First.ex (xs : List (Nat × Int)) : ∃ r, First xs r := by
  induction xs with
  | nil => exact ⟨-1, .inl ⟨rfl, fun j x h => by simp at h⟩⟩
  | cons y xs ih =>
    by_cases hy : y.2 < 0
    · exact ⟨(0 : Nat), .inr ⟨0, rfl, ⟨y, rfl, hy⟩, fun j x h => absurd h (Nat.not_lt_zero _)⟩⟩
    · obtain ⟨r, ⟨_, h1⟩ | ⟨k, _, ⟨x, h2, h3⟩, h4⟩⟩ := ih
      · refine ⟨-1, .inl ⟨rfl, fun j x h => ?_⟩⟩
        cases j with
        | zero => simp at h; subst h; omega
        | succ j => exact h1 j x (by simpa using h)
      · refine ⟨(k + 1 : Nat), .inr ⟨k + 1, rfl, ⟨x, by simpa using h2, h3⟩, fun j z hj h => ?_⟩⟩
        cases j with
        | zero => simp at h; subst h; omega
        | succ j => exact h4 j z (by omega) (by simpa using h)
theorem kz_all {xs : List (Nat × Int)} (h : ∀ (j : Nat) (x : Nat × Int), xs[j]? = some x → 0 ≤ x.2) : kz xs = xs := by
  rw [kz, List.filter_eq_self]
  intro x hx
  obtain ⟨j, hj, rfl⟩ := List.mem_iff_getElem.1 hx
  simpa using h j _ (List.getElem?_eq_getElem hj)
/-- A slice at A holds these pairs. -/
def Zs (w : World) (A : Option Addr) (xs : List (Nat × Int)) : Prop := 0 < xs.length → ∃ g : Nat, A = some ⟨g, 0, none⟩ ∧ g < w.heap.size ∧ ∀ j x, xs[j]? = some x → w.cell? ⟨g, j * 2, none⟩ = some (.int .i64 (x.1 : Nat)) ∧ w.cell? ⟨g, j * 2 + 1, none⟩ = some (.int .i64 x.2)
theorem Zs.of_own {w : World} {B : Nat} {A : Option Addr} {c : Nat} {t : TypeId} {xs : List (Nat × Int)} (h : w.ownsRow B t 2 (.slice A xs.length c) xs.length (flatZ xs)) : Zs w A xs := fun h0 => by
  rcases h.2 with ⟨_, h2⟩ | ⟨g, cap, cur, hv, hb, hh, _⟩
  · omega
  · injection hv with hA
    subst hA
    refine ⟨g, rfl, (Array.getElem?_eq_some_iff.1 hh).1, fun j x hx => ?_⟩
    have hj := (List.getElem?_eq_some_iff.1 hx).1
    obtain ⟨h3, h4⟩ := flatZ_get xs hx
    exact ⟨(h.cellAt (j * 2) (by omega)).trans h3, (h.cellAt (j * 2 + 1) (by omega)).trans h4⟩
theorem ownsRow_below {B : Nat} {e : TypeId} {k : Nat} {v : Value} {n : Nat} {xs : List Value} {w w' : World} (h : w.ownsRow B e k v n xs) (hb : Below w.heap.size w w') : w'.ownsRow B e k v n xs :=
  h.kept (row := none) ⟨hb.os, hb.tape, hb.output, hb.size, fun j hj _ => hb.block j hj⟩ (by cases hv : v.ownBlock <;> simp)
/-- A row cut to its first m. -/
theorem own_cut {w : World} {base : Nat} {e : TypeId} {size g cap n m : Nat} {xs : List Value} (h : w.ownsRow base e size (.slice (some ⟨g, 0, none⟩) n cap) n xs) (hm : m ≤ n) : w.ownsRow base e size (.slice (some ⟨g, 0, none⟩) m cap) m (xs.take (m * size)) := by
  rcases h.2 with ⟨h0, _⟩ | ⟨g', cap', cur, hv, hg, hh, hn, hcap, hsz, htake⟩
  · cases h0
  · cases hv
    have h1 := Nat.mul_le_mul_right size hm
    refine ⟨by rw [List.length_take, h.1]; omega, .inr ⟨g, cap, cur, rfl, hg, hh, by omega, hcap, hsz, ?_⟩⟩
    rw [← htake, List.take_take, Nat.min_eq_left h1]
/-- Cells behind the first m turned. -/
theorem own_tail {base : Nat} {e : TypeId} {size g cap n : Nat} (k : Nat) (u : Value) : ∀ (c : Nat) {w : World} {xs : List Value} (o : Nat), w.ownsRow base e size (.slice (some ⟨g, 0, none⟩) n cap) n xs → k ≤ o →
    ∃ ys, (w.setCells g o (List.replicate c u)).ownsRow base e size (.slice (some ⟨g, 0, none⟩) n cap) n ys ∧ ys.take k = xs.take k ∧ Below base w (w.setCells g o (List.replicate c u))
  | 0, w, xs, o, h, _ => ⟨xs, h, rfl, Below.refl _ _⟩
  | c + 1, w, xs, o, h, ho => by
    have h1 := (h.stored o u).1
    have hg := (h.lt g rfl).1
    obtain ⟨ys, h2, h3, h4⟩ := own_tail k u c (o + 1) h1 (by omega)
    refine ⟨ys, h2, ?_, ?_⟩
    · rw [h3, List.take_set_of_le ho]
    · exact ((Below.refl base w).setCell (p := ⟨g, o, none⟩) hg u).trans h4
end Pair
open Pair
/-- clear at pairs. -/
theorem run_clear_pairs (w : World) (ty : TypeId) (b o n c : Nat) (hn : 0 < n) (hc : ∀ j, j < n * 2 → (w.cell? ⟨b, o + j, none⟩).isSome = true) (hf : ∀ j, j < n * 2 → w.frozen? ⟨b, o + j, none⟩ = false) :
    (Builtin.clear_ #[24] ty #[.slice (some ⟨b, o, none⟩) n c]).run Try.prog w = .ok (.tuple #[]) (w.setCells b o (List.replicate (n * 2) (.int .i64 0))) := by
  have hz : ∀ w, (zeroValue 33).run Try.prog w = _ := zero_pair
  have hzc : (Builtin.zeroCells (Value.agg #[.int .i64 0, .int .i64 0]).cells n).toList = List.replicate (n * 2) (.int .i64 0) := by
    have hz2 : (Value.agg #[.int .i64 0, .int .i64 0]).cells = #[.int .i64 0, .int .i64 0] := rfl
    rw [hz2]
    simp [Builtin.zeroCells]
    apply List.ext_getElem
    · simp
    · intro i h1 h2
      have : i % 2 = 0 ∨ i % 2 = 1 := by omega
      rcases this with h | h <;> simp [h]
  have hst := run_storeCells_cells (P := Try.prog) b o (List.replicate (n * 2) (.int .i64 0)) 0 w (by simpa using hc) (by simpa using hf) (by intro v hv'; rw [List.eq_of_mem_replicate hv']; rfl)
  simp only [Nat.add_zero] at hst
  obtain ⟨m, rfl⟩ : ∃ m, n = m + 1 := ⟨n - 1, by omega⟩
  simp [Builtin.clear_, run_underlying Try.underlying24, hz, hzc, hst]
theorem pair_neg (a : Nat) (b : Int) (W : World) :
    Calls Try.prog 21 #[.agg #[.int .i64 (a : Nat), .int .i64 b]] W fun e w' => e = .returned (.bool (decide (b < 0))) ∧ Below W.heap.size W w' := by
  go_enter Try.func21, Try.ntmps21
  go_wp2
  go_ret
  exact ⟨rfl, (Below.refl _ _).alloc (Nat.le_refl _) _⟩
set_option maxHeartbeats 1000000 in
set_option maxRecDepth 100000 in
theorem sl_index {W : World} {A : Option Addr} {c : Nat} {xs : List (Nat × Int)} (hx : Zs W A xs) (hl : xs.length ≤ 1000000) :
    Calls Try.prog 35 #[.slice A xs.length c, .func (.func 21) #[] #[]] W fun e w' => ∃ r, e = .returned (.int .i64 r) ∧ Below W.heap.size W w' ∧ First xs r := by
  have HX := Lib.hid hx
  clear hx
  go_enter Try.func35, Try.ntmps35
  go_wp2
  go_loopw [5, 8] (fun _ kv wr => ∃ k, k ≤ xs.length ∧ kv = .int .i64 k ∧ Below W.heap.size W wr ∧ Hid (∀ j x, j < k → xs[j]? = some x → 0 ≤ x.2)) (fun _ kv _ => xs.length - (intOf kv).toNat)
  case atStart => exact ⟨0, Nat.zero_le _, rfl, Below.refl _ _, fun j x h => absurd h (Nat.not_lt_zero _)⟩
  case round =>
    obtain ⟨k, hk, rfl, hb, HA⟩ := hrel
    by_cases hlt : k < xs.length
    · obtain ⟨⟨a, b⟩, hy⟩ : ∃ y, xs[k]? = some y := ⟨_, List.getElem?_eq_getElem hlt⟩
      obtain ⟨g, rfl, hg, hc⟩ := HX.out (by omega)
      obtain ⟨c0, c1⟩ := hc k _ hy
      rw [← hb.cell (p := ⟨g, k * 2, none⟩) hg] at c0
      rw [← hb.cell (p := ⟨g, k * 2 + 1, none⟩) hg] at c1
      have HY := Lib.hid hy
      have C := Lib.hid (fun w => pair_neg a b w)
      clear hy hc HX hg
      dsimp only at c0 c1
      by_cases hn : b < 0
      · rw [decide_eq_true hn] at C
        go_wp2_with (go_at_call 21; refine (C.out _).mono ?_; rintro e w1 ⟨rfl, hb1⟩)
        go_ret
        exact ⟨_, rfl, hb.trans (hb1.mono hb.size), Or.inr ⟨k, rfl, ⟨_, HY.out, hn⟩, HA.out⟩⟩
      · rw [decide_eq_false hn] at C
        go_wp2_with (go_at_call 21; refine (C.out _).mono ?_; rintro e w1 ⟨rfl, hb1⟩)
        go_roundw
        case rel => exact ⟨k + 1, by omega, by go_num, hb.trans (hb1.mono hb.size), fun j x hj hjx => by
          by_cases e : j = k
          · subst e; rw [HY.out] at hjx; cases hjx; exact hn
          · exact HA.out j x (by omega) hjx⟩
        case measure => simp [intOf]; omega
    · obtain rfl : k = xs.length := by omega
      go_wp2
      go_ret
      exact ⟨_, rfl, hb, Or.inl ⟨rfl, fun j x hjx => HA.out j x (List.getElem?_eq_some_iff.1 hjx).1 hjx⟩⟩
theorem sl_index_at {W : World} {A : Option Addr} {c : Nat} {xs : List (Nat × Int)} {r : Int} (hr : First xs r) (hx : Zs W A xs) (hl : xs.length ≤ 1000000) :
    Calls Try.prog 35 #[.slice A xs.length c, .func (.func 21) #[] #[]] W fun e w' => e = .returned (.int .i64 r) ∧ Below W.heap.size W w' :=
  (sl_index hx hl).mono fun e w' ⟨s, h1, h2, h3⟩ => ⟨by rw [h1, h3.unique hr], h2⟩
/-- How far the second loop of DeleteFunc has come: xs is what was, ys what is. -/
def Pair.Got (xs ys : List (Nat × Int)) (i j : Nat) : Prop := ys.length = xs.length ∧ i = (kz (xs.take j)).length ∧ ys.take i = kz (xs.take j) ∧ ys.drop j = xs.drop j
theorem Pair.Got.at_ {xs ys : List (Nat × Int)} {i j : Nat} (h : Got xs ys i j) {x : Nat × Int} (hx : xs[j]? = some x) : ys[j]? = some x := by
  have h1 : (ys.drop j)[0]? = (xs.drop j)[0]? := by rw [h.2.2.2]
  simpa [hx] using h1
theorem Pair.Got.skip {xs ys : List (Nat × Int)} {i j : Nat} (h : Got xs ys i j) {x : Nat × Int} (hx : xs[j]? = some x) (hn : x.2 < 0) : Got xs ys i (j + 1) := by
  have h1 := kz_next hx
  rw [if_pos hn, List.append_nil] at h1
  refine ⟨h.1, by rw [h1]; exact h.2.1, by rw [h1]; exact h.2.2.1, ?_⟩
  rw [← List.drop_drop, ← List.drop_drop, h.2.2.2]
theorem Pair.Got.take {xs ys : List (Nat × Int)} {i j : Nat} (h : Got xs ys i j) (hij : i < j) {x : Nat × Int} (hx : xs[j]? = some x) (hn : ¬ x.2 < 0) : Got xs (ys.set i x) (i + 1) (j + 1) := by
  have h1 := kz_next hx
  have hj := (List.getElem?_eq_some_iff.1 hx).1
  rw [if_neg hn] at h1
  refine ⟨by rw [List.length_set]; exact h.1, by rw [h1, List.length_append, ← h.2.1]; rfl, ?_, ?_⟩
  · have hil : i < ys.length := by rw [h.1]; omega
    rw [h1, List.take_add_one, List.take_set_of_le (Nat.le_refl _), h.2.2.1, List.getElem?_set_self hil]
    rfl
  · rw [List.drop_set_of_lt (by omega), ← List.drop_drop, ← List.drop_drop, h.2.2.2]
theorem Pair.Got.start {xs : List (Nat × Int)} {k : Nat} {x : Nat × Int} (hx : xs[k]? = some x) (hn : x.2 < 0) (h : ∀ (j : Nat) (x : Nat × Int), j < k → xs[j]? = some x → 0 ≤ x.2) : Got xs xs k (k + 1) := by
  have hk := (List.getElem?_eq_some_iff.1 hx).1
  have h0 : kz (xs.take k) = xs.take k := kz_all fun j y hy => by
    have hj := (List.getElem?_eq_some_iff.1 hy).1
    rw [List.length_take] at hj
    rw [List.getElem?_take_of_lt (by omega)] at hy
    exact h j y (by omega) hy
  have h1 := kz_next hx
  rw [if_pos hn, List.append_nil, h0] at h1
  exact ⟨rfl, by rw [h1, List.length_take]; omega, by rw [h1], rfl⟩
set_option maxHeartbeats 2000000 in
set_option maxRecDepth 100000 in
theorem sl_delete {W : World} {base n c : Nat} {A : Option Addr} {xs : List (Nat × Int)} (hown : W.ownsRow base 33 2 (.slice A n c) n (flatZ xs)) (hn : n = xs.length) (hl : xs.length ≤ 1000000) (hb : base ≤ W.heap.size) :
    Calls Try.prog 20 #[.slice A n c, .func (.func 21) #[] #[]] W fun e w' =>
      (∃ v, e = .returned v ∧ w'.ownsRow base 33 2 v (keep xs).length (flat2 (keep xs))) ∧ Below base W w' := by
  subst hn
  obtain ⟨r, hr⟩ := First.ex xs
  have CI := Lib.hid (sl_index_at (c := c) hr (Zs.of_own hown) hl)
  rcases hr with ⟨rfl, hall⟩ | ⟨k, rfl, ⟨x, hx, hneg⟩, hfew⟩
  · have HK := Lib.hid (kz_all hall)
    clear hall
    go_enter Try.func20, Try.ntmps20
    go_wp2_with (go_at_call 35; refine CI.out.mono ?_; rintro e w1 ⟨rfl, hb1⟩)
    go_ret
    have h2 : w1.ownsRow base 33 2 (.slice A xs.length c) xs.length (flatZ xs) := ownsRow_below hown hb1
    rw [← flatZ_kz, ← kz_length, HK.out]
    exact ⟨⟨_, rfl, h2⟩, hb1.mono hb⟩
  · have hk := (List.getElem?_eq_some_iff.1 hx).1
    obtain ⟨g, cap, e, hbg, hg⟩ := hown.form (by omega)
    injection e with e1 _ e3
    subst e1; subst e3
    have hcap : xs.length ≤ c := by
      rcases hown.2 with ⟨h1, _⟩ | ⟨g', cap', cur, h1, _, _, h2, _⟩
      · cases h1
      · injection h1 with _ _ h3; subst h3; exact h2
    have H0 := Lib.hid (And.intro hown (Got.start hx hneg hfew))
    have g0 : ((k : Int) == -1) = false := beq_eq_false_iff_ne.2 (by omega)
    clear hown hx hneg hfew
    go_enter Try.func20, Try.ntmps20
    go_wp2_with (go_at_call 35; refine CI.out.mono ?_; rintro e w1 ⟨rfl, hb1⟩)
    have hr1 := ownsRow_below H0.out.1 hb1
    have hb2 : Below base W w1 := hb1.mono hb
    have hs1 := hb1.size
    go_loopw [5, 6, 7] (fun iv jv _ wr => ∃ (i j : Nat) (ys : List (Nat × Int)), iv = .int .i64 i ∧ jv = .int .i64 j ∧ i < j ∧ j ≤ xs.length ∧ Hid (Got xs ys i j) ∧ wr.ownsRow base 33 2 (.slice (some ⟨g, 0, none⟩) xs.length c) xs.length (flatZ ys) ∧ Below base W wr ∧ W.heap.size ≤ wr.heap.size) (fun _ jv _ _ => xs.length - (intOf jv).toNat)
    case atStart => exact ⟨k, k + 1, xs, rfl, by go_num, by omega, by omega, H0.out.2, hr1, hb2, hs1⟩
    case round =>
      obtain ⟨i, j, ys, rfl, rfl, hij, hj, HG, hr, hbw, hsz⟩ := hrel
      clear hr1 hb2 hs1 hb1
      by_cases hlt : j < xs.length
      · obtain ⟨⟨a, b⟩, hy⟩ : ∃ y, xs[j]? = some y := ⟨_, List.getElem?_eq_getElem hlt⟩
        have hyl := HG.out.1
        have hy2 := HG.out.at_ hy
        obtain ⟨p0, p1⟩ := flatZ_get ys hy2
        have c0 := (hr.cellAt (j * 2) (by omega)).trans p0
        have c1 := (hr.cellAt (j * 2 + 1) (by omega)).trans p1
        have HY := Lib.hid hy
        have C := Lib.hid (fun w => pair_neg a b w)
        have hbx := Blk.new wr 33 #[.int .i64 (a : Nat), .int .i64 b]
        have HR := Lib.hid (hr.alloc (.cells #[.int .i64 (a : Nat), .int .i64 b] 33))
        have HB := Lib.hid (hbw.alloc (by omega) (.cells #[.int .i64 (a : Nat), .int .i64 b] 33))
        have HBX := Lib.hid hbx
        clear hy hy2 p0 p1 hr hbx hbw
        by_cases hn : b < 0
        · rw [decide_eq_true hn] at C
          go_wp2_with (go_at_call 21; refine (C.out _).mono ?_; rintro e w2 ⟨rfl, hb2⟩)
          go_roundw
          case rel => exact ⟨i, j + 1, ys, rfl, by go_num, by omega, by omega, HG.out.skip HY.out hn, ownsRow_below HR.out hb2, HB.out.trans (hb2.mono (by rw [World.size_alloc]; omega)), by have := hb2.size; rw [World.size_alloc] at this; omega⟩
          case measure => simp [intOf]; omega
        · rw [decide_eq_false hn] at C
          obtain ⟨⟨p, q⟩, hp⟩ : ∃ y, ys[i]? = some y := ⟨_, List.getElem?_eq_getElem (by omega)⟩
          obtain ⟨q0, q1⟩ := flatZ_get ys hp
          have HQ := Lib.hid (And.intro q0 q1)
          have hyl2 : (flatZ ys).length = xs.length * 2 := by rw [flatZ_length, hyl]
          clear hp q0 q1
          go_wp2_with (go_at_call 21; refine (C.out _).mono ?_; rintro e w2 ⟨rfl, hb2⟩; have r2 := ownsRow_below HR.out hb2; have x2 := HBX.out.below hb2 (by simp); have b0 := x2.cell 0; have b1 := x2.cell 1; have f0 := r2.frozenAt (i * 2); have d0 := (r2.cellAt (i * 2) (by omega)).trans HQ.out.1; have r3 := (r2.stored (i * 2) (.int .i64 (a : Nat))).1; have f1 := r3.frozenAt (i * 2 + 1); have d1 := (r3.cellAt (i * 2 + 1) (by omega)).trans ((List.getElem?_set_ne (by omega)).trans HQ.out.2); have R4 := Lib.hid (r3.stored (i * 2 + 1) (.int .i64 b)).1; have B2 := Lib.hid hb2; clear r2 x2 r3 hb2)
          go_roundw
          case rel =>
            have r4 := R4.out
            have hg2 := HB.out.size
            refine ⟨i + 1, j + 1, ys.set i (a, b), by go_num, by go_num, by omega, by omega, HG.out.take hij HY.out (Int.not_lt.2 hn), ?_, ?_, ?_⟩
            · rw [← flatZ_set]; exact r4
            · exact ((HB.out.trans (B2.out.mono (by rw [World.size_alloc]; omega))).setCell (p := ⟨g, i * 2, none⟩) hbg _).setCell (p := ⟨g, i * 2 + 1, none⟩) hbg _
            · have := B2.out.size
              rw [World.size_alloc] at this
              simp only [World.setCell, Array.size_modify]
              omega
          case measure => simp [intOf]; omega
      · obtain rfl : j = xs.length := by omega
        have hyl := HG.out.1
        have g1 : xs.length - i ≠ 0 := by omega
        have hyl2 : (flatZ ys).length = xs.length * 2 := by rw [flatZ_length, hyl]
        have hcl : ∀ ty, (Builtin.clear_ #[24] ty #[.slice (some ⟨g, i * 2, none⟩) (xs.length - i) (c - i)]).run Try.prog wr = .ok (.tuple #[]) (wr.setCells g (i * 2) (List.replicate ((xs.length - i) * 2) (.int .i64 0))) :=
          fun ty => run_clear_pairs wr ty g (i * 2) (xs.length - i) (c - i) (by omega) (fun t ht => by rw [hr.cellAt (i * 2 + t) (by omega), List.getElem?_eq_getElem (by omega)]; rfl) (fun t ht => hr.frozenAt _)
        have HE : Hid (∃ zs, (wr.setCells g (i * 2) (List.replicate ((xs.length - i) * 2) (.int .i64 0))).ownsRow base 33 2 (.slice (some ⟨g, 0, none⟩) xs.length c) xs.length zs ∧ zs.take (i * 2) = (flatZ ys).take (i * 2) ∧ Below base W (wr.setCells g (i * 2) (List.replicate ((xs.length - i) * 2) (.int .i64 0)))) := by
          obtain ⟨zs, z1, z2, z3⟩ := own_tail (i * 2) (.int .i64 0) ((xs.length - i) * 2) (i * 2) hr (Nat.le_refl _)
          exact ⟨zs, z1, z2, hbw.trans z3⟩
        have HI : Hid (i = (keep xs).length ∧ (flatZ ys).take (i * 2) = flat2 (keep xs)) := by
          obtain ⟨_, h1, h2, _⟩ := HG.out
          rw [List.take_of_length_le (Nat.le_refl _)] at h1 h2
          refine ⟨by rw [← kz_length]; exact h1, ?_⟩
          rw [← flatZ_kz, ← h2]
          conv => lhs; rw [← List.take_append_drop i ys, flatZ_append]
          rw [List.take_left' (by rw [flatZ_length, List.length_take]; omega)]
        clear hr hbw
        go_wp2
        go_ret
        obtain ⟨zs, z1, z2, z3⟩ := HE.out
        refine ⟨⟨_, rfl, ?_⟩, z3⟩
        have z4 := own_cut z1 (m := i) (by omega)
        rw [z2, HI.out.2] at z4
        rw [← HI.out.1]
        exact z4
end Go.Proofs.Ytijjpnppedhfnaa
