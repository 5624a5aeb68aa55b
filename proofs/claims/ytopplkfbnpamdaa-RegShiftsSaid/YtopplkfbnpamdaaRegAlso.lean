/-
  Package reg: what keep makes of its list, step by step: copied, with one more, with one more where no name is given.
-/
import Derived.Test.YtopplkfbnpamdaaRegAge
import Derived.Test.YtopplkfbnpamdaaRegGet
import Derived.Deep.RegionHeld3
namespace Go.Proofs.Ytopplkfbnpamdaa
open Go.RowKit
open Reg
theorem rg_lower {w : World} {B B' : Nat} {e : TypeId} {size n : Nat} {v : Value} {xs : List Value} (h : w.ownsRow B e size v n xs) (hB : B' ≤ B) : w.ownsRow B' e size v n xs := by
  obtain ⟨h1, h2 | ⟨g, cap, cur, he, hb, hr⟩⟩ := h
  · exact ⟨h1, .inl h2⟩
  · exact ⟨h1, .inr ⟨g, cap, cur, he, Nat.le_trans hB hb, hr⟩⟩
set_option maxHeartbeats 1000000 in
set_option maxRecDepth 100000 in
theorem reg_yank {B : Nat} {v : Value} {l : List Rg} {k : Rg} {w : World} (hB : B ≤ w.heap.size) (hown : w.ownsRow B 32 3 v l.length (rrows l)) (hN : Nam l) :
    Calls Try.prog 20 #[v, .agg k.vals] w (PutIs B (also l k.lines k.text false) v w) := by
  obtain ⟨A, c, rfl⟩ := own_shape hown
  have hX : Below w.heap.size w (w.alloc (.cells #[.int .i64 k.name, .bool k.lines, .string k.text] 32)) := (Below.refl _ w).alloc (Nat.le_refl _) _
  have P := Lib.hid (reg_put (k := k) (name := 48) (Nat.le_trans hB hX.size) (hown.kept (gb_below none hX) (by cases hv : (Value.slice A l.length c).ownBlock <;> simp)) hN)
  have hB1 := Blk.new w 32 #[.int .i64 k.name, .bool k.lines, .string k.text]
  clear hown
  unfold Rg.vals at *
  go_enter Try.func20, Try.ntmps20
  go_wp2_with (go_at_call 30; (with_reducible refine P.out.mono ?_); rintro e u2 ⟨v', rfl, ho, hg⟩; obtain ⟨A2, c2, rfl⟩ := own_shape ho)
  go_ret
  exact ⟨_, rfl, ho, gb_trans (gb_below _ hX) hg⟩
set_option maxHeartbeats 1000000 in
set_option maxRecDepth 100000 in
theorem reg_remove {B : Nat} {v : Value} {l : List Rg} {k : Rg} {w : World} (hB : B ≤ w.heap.size) (hown : w.ownsRow B 32 3 v l.length (rrows l)) (hN : Nam l) :
    Calls Try.prog 22 #[v, .agg k.vals] w (PutIs B (also l k.lines k.text true) v w) := by
  obtain ⟨A, c, rfl⟩ := own_shape hown
  have h89 := hN.length_le
  have hX : Below w.heap.size w (w.alloc (.cells #[.int .i64 k.name, .bool k.lines, .string k.text] 32)) := (Below.refl _ w).alloc (Nat.le_refl _) _
  have hown1 := hown.kept (gb_below none hX) (by cases hv : (Value.slice A l.length c).ownBlock <;> simp)
  have P := Lib.hid (reg_put (k := k) (name := 45) (Nat.le_trans hB hX.size) hown1 hN)
  have S := Lib.hid (str_feed k.text)
  have hB1 := Blk.new w 32 #[.int .i64 k.name, .bool k.lines, .string k.text]
  obtain ⟨hR, hnc⟩ := own_rgs hown1 rfl
  have AG : Hid (Calls Try.prog 36 #[.slice A l.length c] (w.alloc (.cells #[.int .i64 k.name, .bool k.lines, .string k.text] 32)).drew fun e u => ∃ v', e = .returned v' ∧ u.ownsRow (w.heap.size + 1) 32 3 v' (age l).length (rrows (age l)) ∧ Below w.heap.size w u ∧ Blk u w.heap.size 32 #[.int .i64 k.name, .bool k.lines, .string k.text]) := by
    refine (reg_age (c := c) (w := (w.alloc (.cells #[.int .i64 k.name, .bool k.lines, .string k.text] 32)).drew) hR (by omega)).mono ?_
    rintro e u ⟨v', rfl, ho, hb⟩
    have hb' := (below_gb (gb_drew (w.alloc (.cells #[.int .i64 k.name, .bool k.lines, .string k.text] 32)) none)).trans hb
    refine ⟨v', rfl, rg_lower ho ?_, reg_below hX hb' hX.size, hB1.below hb' hB1.lt⟩
    show w.heap.size + 1 ≤ (w.alloc _).heap.size
    rw [World.size_alloc]; exact Nat.le_refl _
  have P2 : Hid (∀ u v', u.ownsRow (w.heap.size + 1) 32 3 v' (age l).length (rrows (age l)) → Below w.heap.size w u → Blk u w.heap.size 32 #[.int .i64 k.name, .bool k.lines, .string k.text] → Calls Try.prog 30 #[v', .int .i64 49, .agg #[.int .i64 k.name, .bool k.lines, .string k.text]] u fun e u' => ∃ v'', e = .returned v'' ∧ u'.ownsRow B 32 3 v'' (put (age l) ⟨49, k.lines, k.text⟩).length (rrows (put (age l) ⟨49, k.lines, k.text⟩)) ∧ w.grownBy u' none ∧ Blk u' w.heap.size 32 #[.int .i64 k.name, .bool k.lines, .string k.text]) := fun u v' ho hu hbl => by
    refine (reg_put (k := k) (name := 49) (B := w.heap.size + 1) hbl.lt ho (age_nam hN)).mono ?_
    rintro e u' ⟨v'', rfl, ho2, hg⟩
    exact ⟨v'', rfl, rg_lower ho2 (by omega), gb_own (gb_below none hu) hg (fun i hi => by have := (ho.lt i hi).2; have := (ho.lt i hi).1; omega), hbl.grown hg (fun e => by have := (ho.lt _ e.symm).1; omega)⟩
  have HA : Hid (also l k.lines k.text true = if (k.lines || decide ((10 : UInt8) ∈ k.text.data.toList)) = true then put (age l) ⟨49, k.lines, k.text⟩ else put l ⟨45, k.lines, k.text⟩) := rfl
  generalize decide ((10 : UInt8) ∈ k.text.data.toList) = has10 at *
  have way : ∀ (q : Bool), Hid (also l k.lines k.text true = put (age l) ⟨49, k.lines, k.text⟩) → True := fun _ _ => trivial
  clear way
  unfold Rg.vals at *
  clear hown hown1 hR hN hB
  obtain ⟨kn, kl, kt⟩ := k
  simp only at *
  have q0 := hB1.cell 0
  have q1 := hB1.cell 1
  have q2 := hB1.cell 2
  simp at q0 q1 q2
  cases kl with
  | true =>
    have H : Hid (also l true kt true = put (age l) ⟨49, true, kt⟩) := HA.out
    clear HA P S
    go_enter Try.func22, Try.ntmps22
    go_wp2
    go_region_held3 (fun u => u.cell? ⟨w.heap.size, 0, none⟩ = some (.int .i64 kn) ∧ u.cell? ⟨w.heap.size, 1, none⟩ = some (.bool true) ∧ u.cell? ⟨w.heap.size, 2, none⟩ = some (.string kt)) (first | (with_reducible exact ⟨by assumption, by assumption, by assumption⟩) | go_keep)
      (first
        | (go_at_call 36; (with_reducible refine AG.out.mono ?_); rintro e u2 ⟨v2, rfl, ho2, hX2, hB2⟩; obtain ⟨A2, c2, rfl⟩ := own_shape ho2; have q0 := hB2.cell 0; have q1 := hB2.cell 1; have q2 := hB2.cell 2; simp at q0 q1 q2)
        | (go_at_call 30; (with_reducible refine (P2.out _ _ ho2 hX2 hB2).mono ?_); rintro e u3 ⟨v3, rfl, ho3, hg3, hB3⟩; obtain ⟨A3, c3, rfl⟩ := own_shape ho3; have q0 := hB3.cell 0; have q1 := hB3.cell 1; have q2 := hB3.cell 2; simp at q0 q1 q2))
    go_wp2
    go_ret
    exact ⟨_, rfl, by rw [H.out]; exact ho3, gb_none _ hg3⟩
  | false =>
    cases has10 with
    | true =>
      have H : Hid (also l false kt true = put (age l) ⟨49, false, kt⟩) := HA.out
      clear HA P
      go_enter Try.func22, Try.ntmps22
      go_wp2_with (go_at_call 35; (with_reducible refine (S.out _).mono ?_); rintro e w9 ⟨rfl, rfl⟩)
      go_region_held3 (fun u => u.cell? ⟨w.heap.size, 0, none⟩ = some (.int .i64 kn) ∧ u.cell? ⟨w.heap.size, 1, none⟩ = some (.bool false) ∧ u.cell? ⟨w.heap.size, 2, none⟩ = some (.string kt)) (first | (with_reducible exact ⟨by assumption, by assumption, by assumption⟩) | go_keep)
        (first
          | (go_at_call 36; (with_reducible refine AG.out.mono ?_); rintro e u2 ⟨v2, rfl, ho2, hX2, hB2⟩; obtain ⟨A2, c2, rfl⟩ := own_shape ho2; have q0 := hB2.cell 0; have q1 := hB2.cell 1; have q2 := hB2.cell 2; simp at q0 q1 q2)
          | (go_at_call 30; (with_reducible refine (P2.out _ _ ho2 hX2 hB2).mono ?_); rintro e u3 ⟨v3, rfl, ho3, hg3, hB3⟩; obtain ⟨A3, c3, rfl⟩ := own_shape ho3; have q0 := hB3.cell 0; have q1 := hB3.cell 1; have q2 := hB3.cell 2; simp at q0 q1 q2))
      go_wp2
      go_ret
      exact ⟨_, rfl, by rw [H.out]; exact ho3, gb_none _ hg3⟩
    | false =>
      have H : Hid (also l false kt true = put l ⟨45, false, kt⟩) := HA.out
      clear HA P2 AG
      go_enter Try.func22, Try.ntmps22
      go_wp2_with (first
        | (go_at_call 35; (with_reducible refine (S.out _).mono ?_); rintro e w9 ⟨rfl, rfl⟩)
        | (go_at_call 30; (with_reducible refine P.out.mono ?_); rintro e u2 ⟨v', rfl, ho, hg⟩; obtain ⟨A2, c2, rfl⟩ := own_shape ho))
      go_ret
      exact ⟨_, rfl, by rw [H.out]; exact ho, gb_trans (gb_below _ hX) hg⟩
end Go.Proofs.Ytopplkfbnpamdaa
