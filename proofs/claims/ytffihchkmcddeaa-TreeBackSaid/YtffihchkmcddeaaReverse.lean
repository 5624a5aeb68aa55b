/-
  slices.Reverse at numbers, in a row of the call's own.
-/
import Derived.Test.YtffihchkmcddeaaInts
import Derived.Deep.OwnRows
namespace Go.Proofs.Ytffihchkmcddeaa
open Go.RowKit
/-- What stands at a place when k pairs have been exchanged. -/
def flipped (xs : List Int) (k j : Nat) : Int := if j < k ∨ xs.length ≤ j + k then xs.getD (xs.length - 1 - j) 0 else xs.getD j 0
theorem flipped_zero (xs : List Int) {j : Nat} (h : j < xs.length) : flipped xs 0 j = xs.getD j 0 := by
  unfold flipped; rw [if_neg (by omega)]
theorem flipped_mid (xs : List Int) {k j : Nat} (h1 : k ≤ j) (h2 : j + k < xs.length) : flipped xs k j = xs.getD j 0 := by
  unfold flipped; rw [if_neg (by omega)]
theorem flipped_end (xs : List Int) {k j : Nat} (h : xs.length ≤ 2 * k + 1) (hj : j < xs.length) : flipped xs k j = xs.getD (xs.length - 1 - j) 0 := by
  unfold flipped
  by_cases e : j < k ∨ xs.length ≤ j + k
  · rw [if_pos e]
  · rw [if_neg e, show xs.length - 1 - j = j by omega]
theorem flipped_succ (xs : List Int) {k j : Nat} (hk : 2 * k + 1 < xs.length) (hj : j < xs.length) : flipped xs (k + 1) j = if j = xs.length - 1 - k then xs.getD k 0 else if j = k then xs.getD (xs.length - 1 - k) 0 else flipped xs k j := by
  unfold flipped
  by_cases e1 : j = xs.length - 1 - k
  · rw [if_pos e1, if_pos (by omega), show xs.length - 1 - j = k by omega]
  · rw [if_neg e1]
    by_cases e2 : j = k
    · rw [if_pos e2, if_pos (by omega), e2]
    · rw [if_neg e2]
      by_cases e3 : j < k ∨ xs.length ≤ j + k
      · rw [if_pos e3, if_pos (by omega)]
      · rw [if_neg e3, if_neg (by omega)]
set_option maxHeartbeats 4000000 in
set_option maxRecDepth 100000 in
theorem sl_reverse {B g c : Nat} {xs : List Int} {w : World} (h : w.ownsRow B 3 1 (.slice (some ⟨g, 0, none⟩) xs.length c) xs.length (xs.map (Value.int .i64))) (hm : xs.length ≤ 100000) :
    Calls Try.prog 46 #[.slice (some ⟨g, 0, none⟩) xs.length c] w fun e w' => e = .returned (.tuple #[]) ∧ w.grownBy w' (some g) ∧ Ints w' (some ⟨g, 0, none⟩) xs.reverse := by
  obtain ⟨cur, hg, hsz, hcl⟩ : ∃ cur : Array Value, Blk w g 3 cur ∧ xs.length ≤ cur.size ∧ ∀ j, j < xs.length → cur[j]? = some (.int .i64 (xs.getD j 0)) := by
    have hc := h.cells (g := g) rfl
    rcases h.2 with ⟨hv, _⟩ | ⟨g', cap, cur, hv, _, hh, hnc, _, hsz, htk⟩
    · cases hv
    · injection hv with e1 _ e3
      injection e1 with e1
      injection e1 with e1 _ _
      subst e1
      refine ⟨cur, hh, by omega, fun j hj => ?_⟩
      have := hc j (.int .i64 (xs.getD j 0)) (by rw [List.getElem?_map, List.getElem?_eq_getElem hj, Option.map_some, List.getD_eq_getElem?_getD, List.getElem?_eq_getElem hj]; rfl)
      rw [show (⟨g, 0, none⟩ : Addr).add j = ⟨g, j, none⟩ by unfold Addr.add; split <;> simp_all, Blk.cell hh] at this
      exact this
  have r0 : w.rowIs g 3 cur.size (fun j => if j < xs.length then .int .i64 (flipped xs 0 j) else cur.getD j undef) := ⟨cur, hg, rfl, fun i hi => by
    show cur[i]? = some (if i < xs.length then .int .i64 (flipped xs 0 i) else cur.getD i undef)
    by_cases e : i < xs.length
    · rw [if_pos e, hcl i e, flipped_zero xs e]
    · rw [if_neg e, Array.getD_eq_getD_getElem?, Array.getElem?_eq_getElem hi]; rfl⟩
  have HZ := Lib.hid hsz
  clear h hg hcl hsz
  go_enter Try.func46, Try.ntmps46
  go_wp2
  go_loopw [2, 3] (fun iv jv wr => ∃ (k : Nat) (jz : Int), iv = .int .i64 k ∧ jv = .int .i64 jz ∧ Hid (jz = (xs.length : Int) - 1 - k) ∧ wr.rowIs g 3 cur.size (fun j => if j < xs.length then .int .i64 (flipped xs k j) else cur.getD j undef) ∧ w.grownBy wr (some g)) (fun iv _ _ => xs.length - (intOf iv).toNat)
  case atStart => exact ⟨0, _, rfl, rfl, by show _ = _; simp, r0, World.grownBy.refl _ _⟩
  case round =>
    clear r0
    obtain ⟨k, jz, rfl, rfl, HJ, hrow, hG⟩ := hrel
    by_cases hlt : (k : Int) < jz
    · have hk2 : 2 * k + 1 < xs.length := by have := HJ.out; omega
      obtain ⟨j, rfl⟩ : ∃ j : Nat, jz = j := ⟨jz.toNat, by omega⟩
      have hj : j = xs.length - 1 - k := by have := HJ.out; omega
      have hjl : j < xs.length := by omega
      have HZ2 := HZ.out
      have c1 := hrow.cell (i := k) (by omega)
      have c2 := hrow.cell (i := j) (by omega)
      have f1 := hrow.frozen k
      have f2 := hrow.frozen j
      rw [if_pos (by omega), flipped_mid xs (Nat.le_refl _) (by omega)] at c1
      rw [if_pos (by omega), flipped_mid xs (by omega) (by omega)] at c2
      have r2 := Lib.hid (((hrow.set k (.int .i64 (xs.getD j 0))).set j (.int .i64 (xs.getD k 0))).congr (g := fun i => if i < xs.length then .int .i64 (flipped xs (k + 1) i) else cur.getD i undef) (fun i _ => by
        show (if i = j then Value.int .i64 (xs.getD k 0) else if i = k then Value.int .i64 (xs.getD j 0) else if i < xs.length then Value.int .i64 (flipped xs k i) else cur.getD i undef) = if i < xs.length then Value.int .i64 (flipped xs (k + 1) i) else cur.getD i undef
        by_cases e : i < xs.length
        · rw [show (if i < xs.length then Value.int .i64 (flipped xs (k + 1) i) else cur.getD i undef) = Value.int .i64 (flipped xs (k + 1) i) from if_pos e, show (if i < xs.length then Value.int .i64 (flipped xs k i) else cur.getD i undef) = Value.int .i64 (flipped xs k i) from if_pos e, flipped_succ xs hk2 e, ← hj]
          by_cases e1 : i = j
          · rw [if_pos e1, if_pos e1]
          · rw [if_neg e1, if_neg e1]
            by_cases e2 : i = k
            · rw [if_pos e2, if_pos e2]
            · rw [if_neg e2, if_neg e2]
        · rw [if_neg (show ¬ i = j by omega), if_neg (show ¬ i = k by omega), if_neg e, if_neg e]))
      have HJ2 : Hid ((j : Int) - 1 = (xs.length : Int) - 1 - ((k + 1 : Nat) : Int)) := by show _ = _; omega
      have g2 := gb_trans hG (gb_trans (gb_set wr g k (.int .i64 (xs.getD j 0))) (gb_trans (gb_set _ g j (.int .i64 (xs.getD k 0))) (gb_drew _ (some g))))
      have jk : ¬ j = k := by omega
      clear hrow HJ hj
      generalize xs.getD j 0 = y at *
      generalize xs.getD k 0 = x at *
      go_wp2
      go_region
      go_wp2
      go_roundw
      case rel => exact ⟨k + 1, (j : Int) - 1, by go_num, rfl, HJ2, r2.out, g2⟩
      case measure => simp [intOf]; omega
    · have hk2 : xs.length ≤ 2 * k + 1 := by have := HJ.out; omega
      go_wp2
      go_end0
      have HZ2 := HZ.out
      refine ⟨rfl, hG, fun _ => ⟨_, rfl, ?_, fun j x hx => ?_⟩⟩
      · exact hrow.lt
      · have hj : j < xs.length := by have := (List.getElem?_eq_some_iff.1 hx).1; simpa using this
        have e : (⟨g, 0, none⟩ : Addr).add j = ⟨g, j, none⟩ := by unfold Addr.add; split <;> simp_all
        rw [e, hrow.cell (by omega), if_pos hj, flipped_end xs hk2 hj]
        rw [List.getElem?_reverse hj] at hx
        rw [List.getD_eq_getElem?_getD, hx]; rfl
set_option maxHeartbeats 4000000 in
set_option maxRecDepth 100000 in
theorem sl_reverse_nil (w : World) : Calls Try.prog 46 #[.slice none 0 0] w fun e w' => e = .returned (.tuple #[]) ∧ w' = w := by
  go_enter Try.func46, Try.ntmps46
  go_wp2
  go_loopw [2, 3] (fun iv jv wr => iv = .int .i64 0 ∧ jv = .int .i64 (-1) ∧ wr = w) (fun _ _ _ => 0)
  case atStart => exact ⟨rfl, rfl, rfl⟩
  case round =>
    obtain ⟨rfl, rfl, rfl⟩ := hrel
    go_wp2
    go_end0
    exact ⟨rfl, rfl⟩
/-- The same of any row of the call's own. -/
theorem sl_reverse_any {B n c : Nat} {A : Option Addr} {xs : List Int} {w : World} (h : w.ownsRow B 3 1 (.slice A n c) n (xs.map (Value.int .i64))) (hn : n = xs.length) (hm : xs.length ≤ 100000) :
    Calls Try.prog 46 #[.slice A n c] w fun e w' => e = .returned (.tuple #[]) ∧ w.grownBy w' (Value.slice A n c).ownBlock ∧ Ints w' A xs.reverse := by
  subst hn
  rcases h.2 with ⟨hv, h1⟩ | ⟨g, cap, cur, hv, _⟩
  · injection hv with e1 e2 e3
    subst e1 e3
    rw [e2]
    refine (sl_reverse_nil w).mono ?_
    rintro e w' ⟨rfl, rfl⟩
    exact ⟨rfl, World.grownBy.refl _ _, fun h0 => absurd h0 (by rw [List.length_reverse]; omega)⟩
  · injection hv with e1 _ e3
    subst e1 e3
    exact sl_reverse h hm
end Go.Proofs.Ytffihchkmcddeaa
