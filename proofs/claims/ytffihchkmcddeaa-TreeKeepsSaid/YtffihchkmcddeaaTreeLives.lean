/-
  The document's example of a tree.
-/
import Derived.Test.YtffihchkmcddeaaTreeAdd
import Derived.Test.YtffihchkmcddeaaTreeUndo
import Derived.Test.YtffihchkmcddeaaTreeKids
import Derived.Test.YtffihchkmcddeaaTreeTop
import Derived.Test.YtffihchkmcddeaaSame
namespace Go.Proofs.Ytffihchkmcddeaa
open Go.RowKit
open Tre
namespace Tre
/-- May a tree be, by reckoning. -/
def check (l : List Nd) (cur : Int) : Bool := decide (1 ≤ l.length) && decide (l.length ≤ 1024) && decide (0 ≤ cur) && decide (cur < l.length) && (List.range l.length).all fun k => match l[k]? with | some x => decide (UpOk k x) && decide (NextOk l k x) | none => true
theorem right_of {l : List Nd} {cur : Int} (h : check l cur = true) : Right l cur := by
  unfold check at h
  simp only [Bool.and_eq_true, decide_eq_true_eq, List.all_eq_true, List.mem_range] at h
  obtain ⟨⟨⟨⟨h1, h2⟩, h3⟩, h4⟩, h5⟩ := h
  refine ⟨h1, h2, h3, h4, fun k hk x hx => ?_, fun k hk x hx => ?_⟩
  · have := h5 k hk
    rw [hx] at this
    simp only [Bool.and_eq_true, decide_eq_true_eq] at this
    exact this.1
  · have := h5 k hk
    rw [hx] at this
    simp only [Bool.and_eq_true, decide_eq_true_eq] at this
    exact this.2
def ex1 : Nd := ⟨0, -1, 0, 1, 0, ⟨#[]⟩, ⟨#[97]⟩⟩
def ex2 : Nd := ⟨0, -1, 0, 1, 0, ⟨#[]⟩, ⟨#[98]⟩⟩
def exA : List Nd := [⟨-1, 1, 0, 0, 0, ⟨#[]⟩, ⟨#[]⟩⟩, ex1]
def exB : List Nd := [⟨-1, 2, 0, 0, 0, ⟨#[]⟩, ⟨#[]⟩⟩, ex1, ex2]
theorem right_root : Right [root] 0 := right_of (by decide +kernel)
theorem right_exA (n : Int) (h : n = 0 ∨ n = 1) : Right exA n := by rcases h with rfl | rfl <;> exact right_of (by decide +kernel)
theorem right_exB : Right exB 2 := right_of (by decide +kernel)
theorem add_exA : addTo [root] 0 ex1 = (exA, 1, 0) := by
  rw [addTo, if_neg (by rintro (h | h | h); exact h right_root; revert h; decide; revert h; decide), if_neg (by decide)]
  rfl
theorem add_exB : addTo exA 0 ex2 = (exB, 2, 0) := by
  rw [addTo, if_neg (by rintro (h | h | h); exact h (right_exA 0 (.inl rfl)); revert h; decide; revert h; decide), if_neg (by decide)]
  rfl
theorem undo_exA : undo exA 1 = (exA, 0, 1, true) := by
  rw [undo, if_pos (right_exA 1 (.inr rfl)), if_neg (by decide)]
  rfl
theorem kids_exB : kids exB 2 0 = [1, 2] := by
  rw [kids, if_pos ⟨right_exB, by decide, by decide⟩]
  decide +kernel
end Tre
/-- An answer of a tree of n nodes, and a number. -/
def ErrAt (n : Nat) (l : List Nd) (cur code : Int) (w : World) (e : Ending) (w' : World) : Prop := ∃ (A : Option Addr) (c : Nat), e = .returned (.tuple #[.agg #[.slice A n c, .int .i64 cur], .int .i64 code]) ∧ Nds w' A l ∧ n ≤ c ∧ Below w.heap.size w w'
def NumAt (n : Nat) (l : List Nd) (cur m : Int) (b : Bool) (w : World) (e : Ending) (w' : World) : Prop := ∃ (A : Option Addr) (c : Nat), e = .returned (.tuple #[.agg #[.slice A n c, .int .i64 cur], .int .i64 m, .bool b]) ∧ Nds w' A l ∧ n ≤ c ∧ Below w.heap.size w w'
def RootAt (w : World) (e : Ending) (w' : World) : Prop := ∃ (A : Option Addr) (c : Nat), e = .returned (.agg #[.slice A 1 c, .int .i64 0]) ∧ Nds w' A [root] ∧ 1 ≤ c ∧ Below w.heap.size w w'
def TwoAt (w : World) (e : Ending) (w' : World) : Prop := ∃ (A : Option Addr) (c : Nat), e = .returned (.slice A 2 c) ∧ Ints w' A [1, 2] ∧ Below w.heap.size w w'
theorem small_texts11 {l : List Nd} (h : l.all (fun x => decide (x.old.size ≤ 1 ∧ x.new.size ≤ 1)) = true) : ∀ x ∈ l, x.old.size ≤ 140737488355327 ∧ x.new.size ≤ 140737488355327 := fun x hx => by
  have := of_decide_eq_true (List.all_eq_true.1 h x hx)
  omega
set_option maxHeartbeats 4000000 in
set_option maxRecDepth 100000 in
theorem tree_lives (w : World) : Calls Try.prog 9 #[] w fun e w' => e = .returned (.bool true) ∧ Below w.heap.size w w' := by
  have H0 : Hid (Calls Try.prog 16 #[] w (RootAt w)) := by
    refine (tree_New w).mono ?_
    rintro e w' ⟨v, rfl, A, c, rfl, h1, h2, h3⟩
    exact ⟨A, c, rfl, h1, h2, h3⟩
  have H1 : Hid (∀ (u : World) (A : Option Addr) (c : Nat), Nds u A [root] → 1 ≤ c → Calls Try.prog 10 #[.agg #[.slice A 1 c, .int .i64 0], .agg #[.int .i64 0, .string ⟨#[]⟩, .string ⟨#[97]⟩], .int .i64 0, .int .i64 1] u (ErrAt 2 exA 1 0 u)) := fun u A c h1 h2 => by
    have := tree_Add (cur := 0) (at_ := 0) (before := 0) (after := 1) (old := ⟨#[]⟩) (new := ⟨#[97]⟩) h1 h2 (by decide) (small_texts11 (by decide +kernel)) (by decide) (by decide)
    rw [show (⟨0, -1, 0, 1, 0, ⟨#[]⟩, ⟨#[97]⟩⟩ : Nd) = ex1 from rfl, add_exA] at this
    refine this.mono ?_
    rintro e w' ⟨v, rfl, A, c, rfl, h1, h2, h3⟩
    exact ⟨A, c, rfl, h1, h2, h3⟩
  have H2 : Hid (∀ (u : World) (A : Option Addr) (c : Nat), Nds u A exA → 2 ≤ c → Calls Try.prog 18 #[.agg #[.slice A 2 c, .int .i64 1]] u (NumAt 2 exA 0 1 true u)) := fun u A c h1 h2 => by
    have := tree_Undo (cur := 1) h1 h2 (by decide) (small_texts11 (by decide +kernel))
    rw [undo_exA] at this
    refine this.mono ?_
    rintro e w' ⟨v, rfl, A, c, rfl, h1, h2, h3⟩
    exact ⟨A, c, rfl, h1, h2, h3⟩
  have H3 : Hid (∀ (u : World) (A : Option Addr) (c : Nat), Nds u A exA → 2 ≤ c → Calls Try.prog 10 #[.agg #[.slice A 2 c, .int .i64 0], .agg #[.int .i64 0, .string ⟨#[]⟩, .string ⟨#[98]⟩], .int .i64 0, .int .i64 1] u (ErrAt 3 exB 2 0 u)) := fun u A c h1 h2 => by
    have := tree_Add (cur := 0) (at_ := 0) (before := 0) (after := 1) (old := ⟨#[]⟩) (new := ⟨#[98]⟩) h1 h2 (by decide) (small_texts11 (by decide +kernel)) (by decide) (by decide)
    rw [show (⟨0, -1, 0, 1, 0, ⟨#[]⟩, ⟨#[98]⟩⟩ : Nd) = ex2 from rfl, add_exB] at this
    refine this.mono ?_
    rintro e w' ⟨v, rfl, A, c, rfl, h1, h2, h3⟩
    exact ⟨A, c, rfl, h1, h2, h3⟩
  have H4 : Hid (∀ (u : World) (A : Option Addr) (c : Nat), Nds u A exB → 3 ≤ c → Calls Try.prog 23 #[.agg #[.slice A 3 c, .int .i64 2], .int .i64 0] u (TwoAt u)) := fun u A c h1 h2 => by
    have := tree_Kids (cur := 2) (k := 0) h1 h2 (by decide)
    rw [kids_exB] at this
    refine this.mono ?_
    rintro e w' ⟨A, c, rfl, h1, h2, h3⟩
    exact ⟨A, c, rfl, h1, h3⟩
  have H5 : Hid (∀ (u : World) (A : Option Addr) (c d : Nat), Ints u A [1, 2] → Calls Try.prog 22 #[.slice A 2 c, .slice (some ⟨u.heap.size, 0, none⟩) 2 d] (u.alloc (.cells #[.int .i64 1, .int .i64 2] 3)) fun e w' => e = .returned (.bool true) ∧ Below u.heap.size u w') := fun u A c d hA => by
    have h1 := (Below.refl u.heap.size u).alloc (Nat.le_refl _) (.cells #[.int .i64 1, .int .i64 2] 3)
    have b := Blk.new u 3 #[.int .i64 1, .int .i64 2]
    refine (ref_same (c := c) (d := d) (xs := [1, 2]) (B := some ⟨u.heap.size, 0, none⟩) (hA.grown (gb_below none h1) (by simp)) (fun _ => ⟨_, rfl, by simp, fun j x hj => by
      rw [add_plain, Nat.zero_add]
      match j, hj with
      | 0, hj => simp at hj; subst hj; exact b.cell 0
      | 1, hj => simp at hj; subst hj; exact b.cell 1⟩) (by decide)).mono ?_
    rintro e w' ⟨he, hb'⟩
    exact ⟨he, h1.trans ((below_gb hb').mono h1.size)⟩
  go_enter Try.func9, Try.ntmps9
  go_wp2_with (first
    | (go_at_call 16; (with_reducible refine H0.out.mono ?_); rintro e w0 ⟨A0, c0, rfl, hm0, hl0, hb0⟩)
    | (go_at_call 10; (with_reducible refine (H1.out _ _ _ hm0 hl0).mono ?_); rintro e w1 ⟨A1, c1, rfl, hm1, hl1, hb1⟩; replace hb1 := hb0.trans (hb1.mono hb0.size); replace hb1 := al hb1 (.cells #[.slice A1 2 c1, .int .i64 1] 24); replace hm1 := hm1.below (al (Below.refl _ w1) (.cells #[.slice A1 2 c1, .int .i64 1] 24)))
    | (go_at_call 18; (with_reducible refine (H2.out _ _ _ hm1 hl1).mono ?_); rintro e w2 ⟨A2, c2, rfl, hm2, hl2, hb2⟩; replace hb2 := hb1.trans (hb2.mono hb1.size); replace hb2 := al hb2 (.cells #[.slice A2 2 c2, .int .i64 0] 24); replace hm2 := hm2.below (al (Below.refl _ w2) (.cells #[.slice A2 2 c2, .int .i64 0] 24)))
    | (go_at_call 10; (with_reducible refine (H3.out _ _ _ hm2 hl2).mono ?_); rintro e w3 ⟨A3, c3, rfl, hm3, hl3, hb3⟩; replace hb3 := hb2.trans (hb3.mono hb2.size); replace hb3 := al hb3 (.cells #[.slice A3 3 c3, .int .i64 2] 24); replace hm3 := hm3.below (al (Below.refl _ w3) (.cells #[.slice A3 3 c3, .int .i64 2] 24)); have B3 := Blk.new w3 24 #[.slice A3 3 c3, .int .i64 2]; obtain ⟨b, off, rfl, hbw, NN⟩ := hm3.addr (by decide))
    | (go_at_call 23; (with_reducible refine (H4.out _ _ _ hm3 hl3).mono ?_); rintro e w4 ⟨A4, c4, rfl, hI, hb4⟩; replace B3 := B3.below hb4 B3.lt; have V4 := hb4; replace hb4 := hb3.trans (hb4.mono hb3.size))
    | (go_at_call 22; (with_reducible refine (H5.out _ _ _ _ hI).mono ?_); rintro e w5 ⟨rfl, hb5⟩; replace B3 := B3.below hb5 B3.lt; have V5 := V4.trans (hb5.mono V4.size); replace hb5 := hb4.trans (hb5.mono hb4.size); have t0 := B3.cell 0; have t1 := B3.cell 1; have n0 := (NN w5 _ V5 (Nat.le_refl _) 0 _ rfl).2.1; rw [Nat.zero_mul, Nat.add_zero] at n0))
  go_ret
  exact ⟨rfl, hb5⟩
end Go.Proofs.Ytffihchkmcddeaa
