/-
  A tree with all its nodes in new memory: the program's.
-/
import Derived.Test.YtffihchkmcddeaaTreeCopy
namespace Go.Proofs.Ytffihchkmcddeaa
open Go.RowKit
open Tre
theorem own_down {w : World} {B B' : Nat} {e : TypeId} {size n : Nat} {v : Value} {xs : List Value} (h : w.ownsRow B e size v n xs) (hB : B' ≤ B) : w.ownsRow B' e size v n xs := by
  refine ⟨h.1, ?_⟩
  rcases h.2 with hn | ⟨g, cap, cur, hv, hb, rest⟩
  · exact .inl hn
  · exact .inr ⟨g, cap, cur, hv, Nat.le_trans hB hb, rest⟩
set_option maxHeartbeats 2000000 in
set_option maxRecDepth 100000 in
theorem held_copied {A : Option Addr} {c : Nat} {l : List Nd} {cur : Int} {w : World} (hx : Nds w A l) (hm : l.length ≤ 2000) (hs : ∀ x ∈ l, x.old.size ≤ 140737488355327 ∧ x.new.size ≤ 140737488355327) :
    Calls Try.prog 36 #[.agg #[.slice A l.length c, .int .i64 cur]] w fun e w' => ∃ (A' : Option Addr) (c' : Nat), e = .returned (.agg #[.slice A' l.length c', .int .i64 cur]) ∧ w'.ownsRow w.heap.size 51 7 (.slice A' l.length c') l.length (nrows l) ∧ Below w.heap.size w w' := by
  obtain ⟨i0, hi, hz0, hz1, hz2⟩ := info_parts info_node
  have h0 := ba (ba (Below.refl w.heap.size w) (.cells #[.slice A l.length c, .int .i64 cur] 64)) (.cells #[.slice none 0 0, .int .i64 0] 64)
  have hB : Hid (∀ u, Below ((w.alloc (.cells #[.slice A l.length c, .int .i64 cur] 64)).alloc (.cells #[.slice none 0 0, .int .i64 0] 64)).heap.size ((w.alloc (.cells #[.slice A l.length c, .int .i64 cur] 64)).alloc (.cells #[.slice none 0 0, .int .i64 0] 64)) u → Blk u w.heap.size 64 #[.slice A l.length c, .int .i64 cur] ∧ Blk u (w.heap.size + 1) 64 #[.slice none 0 0, .int .i64 0] ∧ Below w.heap.size w u) := fun u hu => by
    have b0 := (Blk.new w 64 #[.slice A l.length c, .int .i64 cur]).alloc (.cells #[.slice none 0 0, .int .i64 0] 64)
    have b1 := Blk.new (w.alloc (.cells #[.slice A l.length c, .int .i64 cur] 64)) 64 #[.slice none 0 0, .int .i64 0]
    have b3 := b1.below hu b1.lt
    rw [World.size_alloc] at b3
    exact ⟨b0.below hu b0.lt, b3, h0.trans (hu.mono h0.size)⟩
  go_enter Try.func36, Try.ntmps36
  go_wp2_with (first
      | (at_make; refine wpList_make_own _ rfl _ _ 22 rfl (w.heap.size + 2) 51 i0 _ 7 Try.underlying22 hi hz0 hz1 .i64 .i64 _ (l.length + 1) rfl rfl rfl (by rw [hz2]; omega) (by unfold maxLen; omega) (by simp) ?_; intro w2 hown hgrow; obtain ⟨B1, B2, hW2⟩ := hB.out w2 (below_gb hgrow); have c0 := B1.cell 0))
  have hS : ((w.alloc (.cells #[.slice A l.length c, .int .i64 cur] 64)).alloc (.cells #[.slice none 0 0, .int .i64 0] 64)).heap.size = w.heap.size + 2 := by simp
  have hWz := (below_gb hgrow).mono (Nat.le_of_eq hS.symm)
  rw [hS] at hB hown
  have hNz := hx.below h0
  generalize ((w.alloc (.cells #[.slice A l.length c, .int .i64 cur] 64)).alloc (.cells #[.slice none 0 0, .int .i64 0] 64)) = wz at *
  clear hgrow B1 B2 c0 h0 hW2
  have HS := Lib.hid hS
  clear hS
  go_loopw [3, 16] (fun v iv wr => ∃ (k : Nat) (A' : Option Addr) (c' : Nat), iv = .int .i64 k ∧ v = .slice A' k c' ∧ k ≤ l.length ∧ wr.ownsRow (w.heap.size + 2) 51 7 v k (nrows (l.take k)) ∧ Below (w.heap.size + 2) wz wr) (fun _ iv _ => l.length - (intOf iv).toNat)
  case atStart => exact ⟨0, _, _, rfl, rfl, Nat.zero_le _, hown, hWz⟩
  case round =>
    clear hown hWz
    obtain ⟨k, A', c', rfl, rfl, hk, hown, hW⟩ := hrel
    obtain ⟨B1, B2, hW2⟩ := hB.out wr hW
    by_cases hlt : k < l.length
    · obtain ⟨x, hkx⟩ : ∃ x, l[k]? = some x := ⟨_, List.getElem?_eq_getElem hlt⟩
      obtain ⟨b, off, rfl, hbw, c0, c1, c2, c3, c4, c5, c6⟩ := hNz.at_ hW (Nat.le_of_eq HS.out) hkx
      have g1 : decide ((k : Int) < (l.length : Int)) = true := by simp; omega
      have b2 : b < wr.heap.size := Nat.lt_of_lt_of_le hbw (by have := hW2.size; have := hW.size; omega)
      obtain ⟨s1, s2⟩ := hs x (List.mem_of_getElem? hkx)
      have CN := Lib.hid (fun u => copied_Node x u s1 s2)
      have hts : Hid (nrows (l.take (k + 1)) = nrows (l.take k) ++ x.row) := by
        show _ = _
        obtain ⟨hj, rfl⟩ := List.getElem?_eq_some_iff.1 hkx
        rw [List.take_succ_eq_append_getElem hj, nrows_append]
        simp [nrows]
      have hws : w.heap.size + 2 ≤ wr.heap.size := by rw [← HS.out]; exact hW.size
      clear hkx s1 s2
      unfold Nd.vals at CN
      go_wp2_with (first
        | (go_at_call 37; refine (CN.out _).mono ?_; rintro e w1 ⟨rfl, hb1⟩; have h1 : Below wr.heap.size wr w1 := (ba (Below.refl _ wr) _).trans (hb1.mono (ba (Below.refl _ wr) _).size); have h2 : Below wr.heap.size wr (w1.alloc (.cells #[.int .i64 x.up, .int .i64 x.next, .int .i64 x.before, .int .i64 x.after, .int .i64 x.at_, .string x.old, .string x.new] 51)) := ba h1 _; have hown2 := hown.kept (gb_below none h2) (by cases hv : (Value.slice A' k c').ownBlock <;> simp); have b2 := Blk.new w1 51 #[.int .i64 x.up, .int .i64 x.next, .int .i64 x.before, .int .i64 x.after, .int .i64 x.at_, .string x.old, .string x.new])
        | (at_builtin; refine wpList_append_own _ rfl _ _ 22 rfl (w.heap.size + 2) 51 i0 _ 7 72 Try.underlying22 hi hz0 hz1 hz2 rfl (by decide) _ _ _ rfl hown2 ⟨w1.heap.size, 0, none⟩ 1 1 x.row rfl rfl ?c1 ?c2 ?c3 ?c4 ?c5 ?_))
      case c1 =>
        intro j u hj
        rw [add_plain, Nat.zero_add, b2.cell]
        simpa [Nd.row] using hj
      case c2 => exact x.row_one
      case c3 => unfold maxLen; omega
      case c4 => omega
      case c5 => exact Nat.le_trans hws h2.size
      intro v' w3 hown3 hgrow3 _
      obtain ⟨a3, cap3, rfl⟩ := own_shape hown3
      have hW3 : Below (w.heap.size + 2) wz w3 := (hW.trans (h2.mono hws)).grown hgrow3 (Nat.le_trans hws h2.size) (fun j hj => (hown2.lt j hj).1)
      go_wp2
      go_roundw
      case rel => exact ⟨k + 1, a3, cap3, by go_num, rfl, by omega, by rw [hts.out]; exact hown3, hW3⟩
      case measure => simp [intOf]; omega
    · have g1 : decide ((k : Int) < (l.length : Int)) = false := by simp; omega
      obtain rfl : k = l.length := by omega
      rw [List.take_length] at hown
      have c0 := B1.cell 0
      have c1 := B1.cell 1
      have d0 := B2.cell 0
      have d1 := B2.cell 1
      have f0 := B1.frozen 0
      have e0 := B2.frozen 0
      have e1 := B2.frozen 1
      simp at c0 c1 d0 d1
      clear hx hNz
      go_wp2
      have F1 := Lib.hid (((B2.far (p := ⟨w.heap.size, 0, none⟩) (Nat.succ_ne_self _) (.slice A' l.length c')).set_ 0 (.slice A' l.length c')).set_ 1 (.int .i64 cur))
      have W3 := ((hW2.setCell (p := ⟨w.heap.size, 0, none⟩) (Nat.le_refl _) (.slice A' l.length c')).setCell (p := ⟨w.heap.size + 1, 0, none⟩) (Nat.le_succ _) (.slice A' l.length c')).setCell (p := ⟨w.heap.size + 1, 1, none⟩) (Nat.le_succ _) (.int .i64 cur)
      have hne : ∀ q, q < w.heap.size + 2 → (Value.slice A' l.length c').ownBlock ≠ some q := fun q hq e => by have := (hown.lt q e).1; omega
      have O3 := ((hown.kept (gb_set wr w.heap.size 0 (.slice A' l.length c')) (.inr (hne _ (by omega)))).kept (gb_set _ (w.heap.size + 1) 0 (.slice A' l.length c')) (.inr (hne _ (by omega)))).kept (gb_set _ (w.heap.size + 1) 1 (.int .i64 cur)) (.inr (hne _ (by omega)))
      exact bodyPost_ret (v := .agg #[.slice A' l.length c', .int .i64 cur]) (results_cell_row rfl _ _ (w.heap.size + 1) 64 #[.slice A' l.length c', .int .i64 cur] (0, 0) _ rfl F1.out Try.underlying64 rfl rfl) rfl ⟨A', c', rfl, own_down O3 (by omega), W3⟩
end Go.Proofs.Ytffihchkmcddeaa
