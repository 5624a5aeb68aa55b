/-
  Two lists that are the same are told to be the same.
-/
import Derived.Test.YtjhdgbdnbfieiaaBase
namespace Go.Proofs.Ytjhdgbdnbfieiaa
open Go.RowKit
/-- A slice at A holds these numbers. -/
def Ints (w : World) (A : Option Addr) (xs : List Int) : Prop := 0 < xs.length → ∃ ad, A = some ad ∧ ad.block < w.heap.size ∧ ∀ j x, xs[j]? = some x → w.cell? (ad.add j) = some (.int .i64 x)
theorem Ints.at_ {w : World} {A : Option Addr} {xs : List Int} (h : Ints w A xs) {k : Nat} (hk : k < xs.length) : ∃ ad, A = some ad ∧ w.cell? (ad.add k) = some (.int .i64 xs[k]) := by
  obtain ⟨ad, e, _, hc⟩ := h (by omega)
  exact ⟨ad, e, hc k _ (List.getElem?_eq_getElem hk)⟩
theorem Ints.grown {w w' : World} {A : Option Addr} {xs : List Int} {r : Option Nat} (h : Ints w A xs) (g : w.grownBy w' r) (hr : ∀ ad, A = some ad → some ad.block ≠ r) : Ints w' A xs := fun h0 => by
  obtain ⟨ad, e, hb, hc⟩ := h h0
  refine ⟨ad, e, Nat.lt_of_lt_of_le hb g.size, fun j x hx => ?_⟩
  rw [World.cell?_of_block (g.block _ (by rw [block_of_add]; exact hb) (by rw [block_of_add]; exact hr ad e))]
  exact hc j x hx
theorem Ints.of_own {w : World} {B : Nat} {v : Value} {A : Option Addr} {n c : Nat} {xs : List Int} (h : w.ownsRow B 3 1 v xs.length (xs.map (Value.int .i64))) (hv : v = .slice A n c) : Ints w A xs := fun h0 => by
  subst hv
  rcases h.2 with ⟨_, h2⟩ | ⟨g, cap, cur, hv, hb, hh, _⟩
  · omega
  · injection hv with hA
    subst hA
    refine ⟨_, rfl, (Array.getElem?_eq_some_iff.1 hh).1, fun j x hx => ?_⟩
    exact h.cells (g := g) rfl j _ (by simp [hx])
/-- An answer that is a list of these numbers, in memory from block B on. -/
def GotInts (B : Nat) (xs : List Int) (e : Ending) (w' : World) : Prop := ∃ v, e = .returned v ∧ w'.ownsRow B 3 1 v xs.length (xs.map (Value.int .i64))
theorem gotInts_nil (B : Nat) (w' : World) : GotInts B [] (.returned (.slice none 0 0)) w' := ⟨_, rfl, World.ownsRow_nil _ _ _ _⟩
theorem info_int : (Try.prog.info? 3).map (fun i => (i.zero, i.size, i.bytes)) = some (some (.int .i64 0), 1, 8) := by kernel_rfl
set_option maxHeartbeats 800000 in
theorem ref_same {A B : Option Addr} {c d : Nat} {xs : List Int} {w : World} (ha : Ints w A xs) (hb : Ints w B xs) (hl : xs.length ≤ 9223372036854775807) :
    Calls Try.prog 11 #[.slice A xs.length c, .slice B xs.length d] w fun x w' => x = .returned (.bool true) ∧ w.grownBy w' none := by
  go_enter Try.func11, Try.ntmps11
  go_wp2
  go_loopw [5] (fun i wr => ∃ k : Nat, k ≤ xs.length ∧ i = .int .i64 k ∧ w.grownBy wr none) (fun i _ => xs.length - (intOf i).toNat)
  case atStart => exact ⟨0, Nat.zero_le _, rfl, World.grownBy.refl _ _⟩
  case round =>
    obtain ⟨k, hk, rfl, hG⟩ := hrel
    by_cases hlt : k < xs.length
    · obtain ⟨aa, rfl, h1⟩ := (ha.grown hG (by simp)).at_ hlt
      obtain ⟨bb, rfl, h2⟩ := (hb.grown hG (by simp)).at_ hlt
      clear ha hb
      go_wp2
      go_quiet (fail)
      go_wp2
      exact ⟨⟨k + 1, by omega, by go_num, gb_trans hG (gb_drewN _ _ _)⟩, by simp [intOf]; omega⟩
    · go_wp2
      go_ret
      exact ⟨rfl, hG⟩
end Go.Proofs.Ytjhdgbdnbfieiaa
