/-
  Package reg: a register put into the list of the call's own.
-/
import Derived.Test.YtopplkfbnpamdaaRegFind
import Derived.Test.YtopplkfbnpamdaaRegInsert
namespace Go.Proofs.Ytopplkfbnpamdaa
open Go.RowKit
open Reg
theorem rg_addr {w : World} {B : Nat} {e : TypeId} {size n : Nat} {v : Value} {xs : List Value} (h : w.ownsRow B e size v n xs) (hn : 0 < n) : ∃ g c, v = .slice (some ⟨g, 0, none⟩) n c ∧ g < w.heap.size ∧ B ≤ g ∧ (∀ i, w.frozen? ⟨g, i, none⟩ = false) := by
  rcases h.2 with ⟨_, h1⟩ | ⟨g, cap, cur, hv, hB, hh, _⟩
  · omega
  · exact ⟨g, cap, hv, Blk.lt (w := w) hh, hB, fun i => Blk.frozen (w := w) hh i⟩
theorem rg_frozen {w : World} {B : Nat} {e : TypeId} {size n c g : Nat} {xs : List Value} (h : w.ownsRow B e size (.slice (some ⟨g, 0, none⟩) n c) n xs) : ∀ i, w.frozen? ⟨g, i, none⟩ = false := by
  rcases h.2 with ⟨h1, _⟩ | ⟨g', cap, cur, hv, hB, hh, _⟩
  · cases h1
  · injection hv with e1 _ _
    injection e1 with e1
    injection e1 with e1 _ _
    subst e1
    exact fun i => Blk.frozen (w := w) hh i
/-- A row of the call's own, behind a store to one of its cells. -/
theorem rg_setCell {w : World} {B : Nat} {e : TypeId} {size g n c : Nat} {xs : List Value} (h : w.ownsRow B e size (.slice (some ⟨g, 0, none⟩) n c) n xs) (j : Nat) (u : Value) :
    (w.setCell ⟨g, j, none⟩ u).ownsRow B e size (.slice (some ⟨g, 0, none⟩) n c) n (xs.set j u) := by
  refine ⟨by rw [List.length_set]; exact h.1, ?_⟩
  rcases h.2 with ⟨hv, h1⟩ | ⟨g', cap, cur, hv, hB, hh, hnc, hcm, hsz, htk⟩
  · cases hv
  · injection hv with e1 e2 e3
    injection e1 with e1
    injection e1 with e1
    subst e1 e3
    refine .inr ⟨g, c, cur.setIfInBounds j u, rfl, hB, (Blk.set_ (w := w) hh j _), hnc, hcm, by simpa using hsz, ?_⟩
    rw [← htk, Array.toList_setIfInBounds, List.take_set]
theorem rrows_set : ∀ {l : List Rg} {i : Nat} (k : Rg), i < l.length → (((rrows l).set (i * 3) (.int .i64 k.name)).set (i * 3 + 1) (.bool k.lines)).set (i * 3 + 2) (.string k.text) = rrows (l.set i k)
  | [], _, _, h => by simp at h
  | y :: r, 0, k, h => rfl
  | y :: r, i + 1, k, h => by
    have ih := rrows_set (l := r) (i := i) k (by simpa using h)
    show (((y.row ++ rrows r).set ((i + 1) * 3) _).set ((i + 1) * 3 + 1) _).set ((i + 1) * 3 + 2) _ = y.row ++ rrows (r.set i k)
    have e : ∀ (q : List Value) (t : Nat) (u : Value), (y.row ++ q).set ((i + 1) * 3 + t) u = y.row ++ q.set (i * 3 + t) u := fun q t u => by
      rw [List.set_append_right _ _ (by show 3 ≤ _; omega)]
      congr 2
      show (i + 1) * 3 + t - 3 = _
      omega
    rw [← Nat.add_zero ((i + 1) * 3), e, Nat.add_assoc ((i + 1) * 3) 0 1, e, Nat.add_assoc ((i + 1) * 3) 0 2, e, Nat.add_zero, Nat.zero_add, Nat.zero_add, ih]
theorem rrows_text {l : List Rg} {i : Nat} {x : Rg} (h : l[i]? = some x) : (rrows l).set (i * 3 + 2) (.string x.text) = rrows l := by
  have hg := rrows_get h 2 _ rfl
  apply List.ext_getElem?
  intro j
  rw [List.getElem?_set]
  split
  · rename_i e
    subst e
    rw [if_pos (List.getElem?_eq_some_iff.1 hg).1, hg]
  · rfl
/-- A list of the call's own, behind a call that may write into its row. -/
def PutIs (B : Nat) (l : List Rg) (v : Value) (w : World) (e : Ending) (w' : World) : Prop :=
  ∃ v', e = .returned v' ∧ w'.ownsRow B 32 3 v' l.length (rrows l) ∧ w.grownBy w' v.ownBlock
set_option maxHeartbeats 1000000 in
set_option maxRecDepth 100000 in
theorem reg_put {B : Nat} {v : Value} {l : List Rg} {k : Rg} {name : Int} {w : World} (hB : B ≤ w.heap.size) (hown : w.ownsRow B 32 3 v l.length (rrows l)) (hN : Nam l) :
    Calls Try.prog 30 #[v, .int .i64 name, .agg k.vals] w (PutIs B (put l ⟨name, k.lines, k.text⟩) v w) := by
  have h89 := hN.length_le
  have hlt := hown.lt
  have hW : Below w.heap.size w (w.alloc (.cells #[.int .i64 name, .bool k.lines, .string k.text] 32)) := (Below.refl _ w).alloc (Nat.le_refl _) _
  have hb := Blk.new w 32 #[.int .i64 name, .bool k.lines, .string k.text]
  rcases put_at hN.2 ⟨name, k.lines, k.text⟩ with ⟨hh, hi, hp⟩ | ⟨hh, hp⟩
  · simp only at hh hi hp
    obtain ⟨g, c, rfl, hgw, hBg, hfz⟩ := rg_addr hown (by omega)
    obtain ⟨hR, hnc⟩ := own_rgs hown rfl
    have F : Hid (∀ u, Below w.heap.size w u → Calls Try.prog 23 #[.slice (some ⟨g, 0, none⟩) l.length c, .int .i64 name] u fun e w' => e = .returned (.tuple #[.int .i64 (cnt l name : Nat), .bool true]) ∧ Below u.heap.size u w') := fun u hu => by have := reg_find name (c := c) (hR.below hu) hN; rw [hh] at this; exact this
    obtain ⟨x, hx⟩ : ∃ x, l[cnt l name]? = some x := ⟨_, List.getElem?_eq_getElem hi⟩
    have CC : Hid (∀ u, Below w.heap.size w u → (u.cell? ⟨g, cnt l name * 3, none⟩ = some (.int .i64 x.name) ∧ u.cell? ⟨g, cnt l name * 3 + 1, none⟩ = some (.bool x.lines) ∧ u.cell? ⟨g, cnt l name * 3 + 2, none⟩ = some (.string x.text)) ∧ (∀ i, u.frozen? ⟨g, i, none⟩ = false) ∧ u.ownsRow B 32 3 (.slice (some ⟨g, 0, none⟩) l.length c) l.length (rrows l)) := fun u hu => by
      have ho := hown.kept (gb_below none hu) (by simp [Value.ownBlock])
      obtain ⟨_, _, e1, _, _, hf⟩ := rg_addr ho (by omega)
      injection e1 with e1 _ _
      injection e1 with e1
      injection e1 with e1 _ _
      subst e1
      obtain ⟨b', off', e2, _, hc⟩ := (own_rgs ho rfl).1 (by omega)
      injection e2 with e2
      injection e2 with e2 e3 _
      subst e2 e3
      obtain ⟨a0, a1, a2⟩ := hc _ _ hx
      rw [Nat.zero_add] at a0 a1 a2
      exact ⟨⟨a0, a1, a2⟩, hf, ho⟩
    have HP := Lib.hid hp
    generalize hie : cnt l name = i at *
    have SET : Hid (((((rrows l).set (i * 3) (.int .i64 name)).set (i * 3 + 1) (.bool k.lines)).set (i * 3 + 2) (.string k.text)) = rrows (put l ⟨name, k.lines, k.text⟩)) := by
      show _ = _
      rw [HP.out, ← rrows_set ⟨name, k.lines, k.text⟩ hi]
    have SL : Hid ((put l ⟨name, k.lines, k.text⟩).length = l.length) := by show _ = _; rw [HP.out, List.length_set]
    have hi2 : (i : Int) < l.length := by omega
    unfold Rg.vals
    clear hx hR hie hp hh hN hown hfz
    go_enter Try.func30, Try.ntmps30
    go_wp2_with (go_at_call 23; (with_reducible refine (F.out _ hW).mono ?_); rintro e u2 ⟨rfl, hb2⟩; have hB2 := hb.below hb2 hb.lt; have hW2 := hW.trans (hb2.mono hW.size); clear hb2; obtain ⟨⟨c0, c1, c2⟩, hfz, ho2⟩ := CC.out _ hW2; have f0 := hfz (i * 3); have f1 := hfz (i * 3 + 1); have f2 := hfz (i * 3 + 2); have q0 := hB2.cell 0; have q1 := hB2.cell 1; have q2 := hB2.cell 2; simp at q0 q1 q2; clear hfz)
    go_ret
    have o3 := rg_setCell (rg_setCell (rg_setCell ho2 (i * 3) (.int .i64 name)) (i * 3 + 1) (.bool k.lines)) (i * 3 + 2) (.string k.text)
    rw [SET.out] at o3
    refine ⟨_, rfl, by rw [SL.out]; exact o3, ?_⟩
    exact gb_trans (gb_trans (gb_trans (gb_below _ hW2) (gb_set _ g _ _)) (gb_set _ g _ _)) (gb_set _ g _ _)
  · simp only at hh hp
    obtain ⟨A, c, rfl⟩ := own_shape hown
    obtain ⟨hR, hnc⟩ := own_rgs hown rfl
    have F : Hid (∀ u, Below w.heap.size w u → Calls Try.prog 23 #[.slice A l.length c, .int .i64 name] u fun e w' => e = .returned (.tuple #[.int .i64 (cnt l name : Nat), .bool false]) ∧ Below u.heap.size u w') := fun u hu => by have := reg_find name (c := c) (hR.below hu) hN; rw [hh] at this; exact this
    have hle := cnt_le l name
    have I : Hid (∀ u, Below w.heap.size w u → ∀ vb, w.heap.size ≤ vb → Blk u vb 32 #[.int .i64 name, .bool k.lines, .string k.text] → Calls Try.prog 42 #[.slice A l.length c, .int .i64 (cnt l name : Nat), .slice (some ⟨vb, 0, none⟩) 1 1] u fun e w' => ∃ v', e = .returned v' ∧ w'.ownsRow B 32 3 v' (l.length + 1) (rrows (put l ⟨name, k.lines, k.text⟩)) ∧ u.grownBy w' (Value.slice A l.length c).ownBlock) := fun u hu vb hvb hbv => by
      have ho := hown.kept (gb_below none hu) (by cases hv : (Value.slice A l.length c).ownBlock <;> simp)
      have := sl_insert (k := ⟨name, k.lines, k.text⟩) (Nat.le_trans hB hu.size) ho rfl hle (by omega) hbv (fun e => by have := (hlt _ e).1; have := (hlt _ e).2; omega)
      rw [← hp] at this
      exact this
    have SL : Hid ((put l ⟨name, k.lines, k.text⟩).length = l.length + 1) := by
      show _ = _
      rw [hp, List.length_append, List.length_cons, List.length_take, List.length_drop]
      omega
    generalize cnt l name = i at *
    unfold Rg.vals
    clear hR hp hh hN hown hlt
    go_enter Try.func30, Try.ntmps30
    go_wp2_with (first
      | (go_at_call 23; (with_reducible refine (F.out _ hW).mono ?_); rintro e u2 ⟨rfl, hb2⟩; have hB2 := hb.below hb2 hb.lt; have hW2 := hW.trans (hb2.mono hW.size); clear hb2; have q0 := hB2.cell 0; have q1 := hB2.cell 1; have q2 := hB2.cell 2; simp at q0 q1 q2; have hW3 := hW2.alloc hW2.size (.cells #[.int .i64 name, .bool k.lines, .string k.text] 32); have hB3 := Blk.new u2 32 #[.int .i64 name, .bool k.lines, .string k.text])
      | (go_at_call 42; (with_reducible refine (I.out _ hW3 _ hW2.size hB3).mono ?_); rintro e u4 ⟨v', rfl, ho4, hg4⟩; obtain ⟨A4, c4, rfl⟩ := own_shape ho4))
    go_ret
    exact ⟨_, rfl, by rw [SL.out]; exact ho4, gb_trans (gb_below _ hW3) hg4⟩
end Go.Proofs.Ytopplkfbnpamdaa
