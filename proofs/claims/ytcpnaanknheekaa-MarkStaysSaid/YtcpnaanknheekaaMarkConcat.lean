/-
  The library's slices.Grow and slices.Concat at marks, walked.
-/
import Derived.Test.YtcpnaanknheekaaMks
import Derived.Lib.AppendZeros
import Derived.Laws.AppendOwnNone
import Derived.OwnWalk
namespace Go.Proofs.Ytcpnaanknheekaa
open Go.RowKit
theorem Mks.rows_any {w : World} {ad : Addr} {ks : List Mk} (h : Mks w (some ad) ks) : ∀ (j : Nat) (v : Value), (mrows ks)[j]? = some v → w.cell? (ad.add j) = some v := fun j v hj => by
  by_cases h0 : 0 < ks.length
  · obtain ⟨b, off, e, _⟩ := h h0
    injection e with e
    subst e
    exact h.rows j v hj
  · have : ks = [] := List.eq_nil_of_length_eq_zero (by omega)
    subst this
    simp [mrows] at hj
theorem run_append_owned_void {P : Program} {w : World} (base : Nat) (t ty e : TypeId) (i : TypeInfo) (size : Nat) (ht : P.underlying t = some (.slice e)) (hi : P.info? e = some i)
    (v : Value) (n : Nat) (xs : List Value) (hown : w.ownsRow base e size v n xs) (c : Nat) :
    (Builtin.append_ #[t, t] ty #[v, .slice none 0 c]).run P w = .ok v w := by
  rcases hown.2 with ⟨rfl, rfl⟩ | ⟨g, cap, cur, rfl, _, _, hnc, _⟩
  · simp [Builtin.append_, run_underlying ht, sizeOf, typeInfo, hi, Builtin.lenOf, Builtin.firstCells]
  · simp [Builtin.append_, run_underlying ht, sizeOf, typeInfo, hi, Builtin.lenOf, Builtin.firstCells, hnc, storeCells]
theorem wpList_append_own_void {P : Program} {w : World} {ops : Array Oper} {rest : List Oper} {o : Oper} {a : Act} {Q : Exit → Act → World → Prop} (hgd : o.guard = none) (s x : Operand) (t : TypeId)
    (ho : o.op = .call { callee := .builtin .append, args := #[s, x], argTypes := #[t, t] })
    (base : Nat) (e : TypeId) (i : TypeInfo) (size : Nat) (ht : P.underlying t = some (.slice e)) (hi : P.info? e = some i)
    (v : Value) (n : Nat) (xs : List Value) (hs : a.eval s = v) (hown : w.ownsRow base e size v n xs) (c : Nat) (hx : a.eval x = .slice none 0 c)
    (h : wpList P ops Q rest (a.put o.dst v) w) : wpList P ops Q (o :: rest) a w := by
  refine wpList_plain hgd fun K hK => ?_
  have hrun := run_append_owned_void (P := P) (w := w) base t o.type e i size ht hi v n xs hown c
  unfold Oper.wp
  simp [execOp, ho, resolve, invoke, builtin, hs, hx, hrun, Result.andThen]
  exact hK _ _ h
/-- A row that is laid with room and has no element yet. -/
def GrowIs (w : World) (e : Ending) (w' : World) : Prop := ∃ A c, e = .returned (.slice A 0 c) ∧ w'.ownsRow w.heap.size 44 2 (.slice A 0 c) 0 [] ∧ Below w.heap.size w w'
set_option maxHeartbeats 1000000 in
set_option maxRecDepth 100000 in
theorem sl_grow (n : Nat) (hn : n ≤ 1000) (w : World) : Calls Try.prog 27 #[.slice none 0 0, .int .i64 n] w (GrowIs w) := by
  have d0 : decide ((n : Int) < 0) = false := by simp
  by_cases h0 : 0 < n
  · obtain ⟨i0, hi0, hz0, hzs, hzb⟩ := info_parts info_mark
    have hrz : ∀ ty, (Builtin.append_ #[22, 3] ty #[.slice none 0 0, .int .i64 (n : Int)]).run Try.prog w = .ok (.slice (some ⟨w.heap.size, 0, none⟩) n (grownCap w n 0 44)) (w.drew.alloc (.cells (Builtin.zeroCells (Value.agg #[.int .i64 0, .int .i64 0]).cells n ++ Builtin.zeroCells (Value.agg #[.int .i64 0, .int .i64 0]).cells (grownCap w n 0 44 - n)) 44)) := fun ty =>
      Lib.run_append_nil_zeros w 22 3 ty 44 i0 _ .i64 .i64 Try.underlying22 Try.underlying3 hi0 hz0 n h0 (by omega) (by omega) (by rw [hzb]; omega)
    have hG := grownCap_ge w n 0 44
    have hGm := grownCap_le_maxLen w n 0 44 (by unfold maxLen; omega)
    generalize grownCap w n 0 44 = G at *
    obtain ⟨ROW, hROW⟩ : ∃ R, R = Builtin.zeroCells (Value.agg #[.int .i64 0, .int .i64 0]).cells n ++ Builtin.zeroCells (Value.agg #[.int .i64 0, .int .i64 0]).cells (G - n) := ⟨_, rfl⟩
    rw [← hROW] at hrz
    have hl : ROW.size = G * 2 := by
      rw [hROW, Array.size_append, size_zeroCells, size_zeroCells]
      show n * 2 + (G - n) * 2 = G * 2
      omega
    have hown : Hid ((w.drew.alloc (.cells ROW 44)).ownsRow w.heap.size 44 2 (.slice (some ⟨w.heap.size, 0, none⟩) 0 G) 0 []) :=
      ⟨rfl, .inr ⟨w.heap.size, G, ROW, rfl, Nat.le_refl _, Blk.new w.drew _ _, Nat.zero_le _, hGm, hl, by simp⟩⟩
    have hW : Below w.heap.size w (w.drew.alloc (.cells ROW 44)) := (Below.refl _ w).drew.alloc (Nat.le_refl _) _
    clear hROW hl hGm
    go_enter Try.func27, Try.ntmps27
    go_wp2_with (at_builtin; refine Lib.wpList_append_run _ rfl _ _ _ _ rfl _ _ rfl rfl _ _ (hrz _) ?_)
    go_ret
    exact ⟨_, _, rfl, hown.out, hW⟩
  · obtain rfl : n = 0 := by omega
    go_enter Try.func27, Try.ntmps27
    go_wp2
    go_ret
    exact ⟨none, 0, rfl, World.ownsRow_nil _ _ _ _, Below.refl _ _⟩
theorem own_lower {w : World} {B B' : Nat} {e : TypeId} {size n : Nat} {v : Value} {xs : List Value} (h : w.ownsRow B e size v n xs) (hB : B' ≤ B) : w.ownsRow B' e size v n xs := by
  obtain ⟨h1, h2 | ⟨g, cap, cur, he, hb, hr⟩⟩ := h
  · exact ⟨h1, .inl h2⟩
  · exact ⟨h1, .inr ⟨g, cap, cur, he, Nat.le_trans hB hb, hr⟩⟩
/-- A block that holds slices of marks. -/
def MkParts (w : World) (p : Nat) (L : List (List Mk)) : Prop := p < w.heap.size ∧ ∀ j l, L[j]? = some l → ∃ A c, w.cell? ⟨p, j, none⟩ = some (.slice A l.length c) ∧ Mks w A l
def mtot (L : List (List Mk)) : Nat := L.flatten.length
theorem mtot_succ {L : List (List Mk)} {k : Nat} {l : List Mk} (h : L[k]? = some l) : mtot (L.take (k + 1)) = mtot (L.take k) + l.length ∧ (L.take (k + 1)).flatten = (L.take k).flatten ++ l := by
  obtain ⟨hj, rfl⟩ := List.getElem?_eq_some_iff.1 h
  unfold mtot
  rw [List.take_succ_eq_append_getElem hj, List.flatten_append]
  simp
theorem mtot_take (L : List (List Mk)) (k : Nat) : mtot (L.take k) ≤ mtot L := by
  have e : mtot L = mtot (L.take k) + mtot (L.drop k) := by
    unfold mtot
    rw [← List.length_append, ← List.flatten_append, List.take_append_drop]
  omega
set_option maxHeartbeats 2000000 in
set_option maxRecDepth 100000 in
theorem sl_concat {p c : Nat} {L : List (List Mk)} {w : World} (hx : MkParts w p L) (ht : mtot L ≤ 1000) (hm : L.length ≤ 1000) :
    Calls Try.prog 24 #[.slice (some ⟨p, 0, none⟩) L.length c] w (MksIs L.flatten w) := by
  obtain ⟨i0, hi, hz0, hz1, hz2⟩ := info_parts info_mark
  have hpl := hx.1
  have HX : Hid (∀ u, Below w.heap.size w u → ∀ j l, L[j]? = some l → ∃ A c, u.cell? ⟨p, j, none⟩ = some (.slice A l.length c) ∧ Mks u A l) := fun u hu j l hj => by
    obtain ⟨A, c, h1, h2⟩ := hx.2 j l hj
    exact ⟨A, c, (hu.cell (p := ⟨p, j, none⟩) hpl).trans h1, h2.below hu⟩
  have d0 : ∀ N : Nat, decide ((N : Int) < 0) = false := fun N => by simp
  clear hx
  go_enter Try.func24, Try.ntmps24
  go_wp2_with fail
  go_loopw [3, 11] (fun sv iv wr => ∃ k : Nat, k ≤ L.length ∧ iv = .int .i64 k ∧ sv = .int .i64 (mtot (L.take k) : Nat) ∧ Below w.heap.size w wr) (fun _ iv _ => L.length - (intOf iv).toNat)
  case atStart => exact ⟨0, Nat.zero_le _, rfl, rfl, Below.refl _ _⟩
  case round =>
    obtain ⟨k, hkl, rfl, rfl, hW⟩ := hrel
    by_cases hlt : k < L.length
    · obtain ⟨l, hkl2⟩ : ∃ l, L[k]? = some l := ⟨_, List.getElem?_eq_getElem hlt⟩
      obtain ⟨A, c', h1, _⟩ := HX.out wr hW k l hkl2
      have hs := Lib.hid (mtot_succ hkl2).1
      have h2 := mtot_take L (k + 1)
      rw [hs.out] at h2
      obtain ⟨M, hM⟩ : ∃ M, mtot (L.take k) = M := ⟨_, rfl⟩
      rw [hM] at h2 hs ⊢
      have hki : (k : Int) < L.length := by omega
      have hll : l.length ≤ 1000 := by omega
      clear hkl2 hM
      go_wp2
      go_roundw
      case rel => exact ⟨k + 1, by omega, by go_num, by rw [hs.out]; go_num, hW⟩
      case measure => simp [intOf]; omega
    · have hS : mtot (L.take k) = mtot L := by rw [List.take_of_length_le (by omega)]
      rw [hS]
      have G := Lib.hid (fun w => sl_grow (mtot L) ht w)
      have HT : Hid (mtot L = L.flatten.length) := rfl
      have HK : Hid (∀ k l, L[k]? = some l → mtot (L.take (k + 1)) ≤ mtot L) := fun k l _ => mtot_take L (k + 1)
      clear hS
      generalize mtot L = N at *
      go_wp2_with (go_at_call 27; refine (G.out _).mono ?_; rintro e w1 ⟨A1, c1, rfl, hown1, hb1⟩)
      have hW1 := hW.trans (hb1.mono hW.size)
      have hown0 : w1.ownsRow w.heap.size 44 2 (.slice A1 0 c1) 0 [] := own_lower hown1 hW.size
      clear hown1 G hW hb1 hlt hkl
      go_loopw [6, 27] (fun v iv wr => ∃ (k : Nat) (A' : Option Addr) (c' : Nat), k ≤ L.length ∧ iv = .int .i64 k ∧ v = .slice A' (mtot (L.take k)) c' ∧ wr.ownsRow w.heap.size 44 2 v (mtot (L.take k)) (mrows (L.take k).flatten) ∧ Below w.heap.size w wr) (fun _ iv _ => L.length - (intOf iv).toNat)
      case atStart => exact ⟨0, A1, c1, Nat.zero_le _, rfl, rfl, hown0, hW1⟩
      case round =>
        clear hown0 hW1
        obtain ⟨k, A', c', hkl, rfl, rfl, hown, hW⟩ := hrel
        by_cases hlt : k < L.length
        · obtain ⟨l, hkl2⟩ : ∃ l, L[k]? = some l := ⟨_, List.getElem?_eq_getElem hlt⟩
          obtain ⟨A, c'', h1, hmk⟩ := HX.out wr hW k l hkl2
          have hs := Lib.hid (mtot_succ hkl2)
          have h2 := HK.out k l hkl2
          rw [hs.out.1] at h2
          obtain ⟨M, hM⟩ : ∃ M, mtot (L.take k) = M := ⟨_, rfl⟩
          rw [hM] at h2 hs hown ⊢
          have hki : (k : Int) < L.length := by omega
          have hll : l.length ≤ 1000 := by omega
          clear hkl2 hM
          cases A with
          | none =>
            have hl0 : l = [] := by
              rcases Nat.eq_zero_or_pos l.length with h | h
              · exact List.eq_nil_of_length_eq_zero h
              · obtain ⟨_, _, e, _⟩ := hmk h; cases e
            subst hl0
            go_wp2_with (at_builtin; refine wpList_append_own_void rfl _ _ 22 rfl w.heap.size 44 i0 2 Try.underlying22 hi _ _ _ rfl hown _ rfl ?_)
            go_roundw
            case rel => exact ⟨k + 1, A', c', by omega, by go_num, by rw [hs.out.1]; rfl, by rw [hs.out.1, hs.out.2, List.append_nil]; exact hown, hW⟩
            case measure => simp [intOf]; omega
          | some ad =>
            have hnews := Lib.hid hmk.rows_any
            go_wp2_with (at_builtin; refine wpList_append_own _ rfl _ _ 22 rfl w.heap.size 44 i0 _ 2 16 Try.underlying22 hi hz0 hz1 hz2 rfl (by decide) _ _ _ rfl hown ad l.length c'' (mrows l) rfl (mrows_length l) hnews.out mrows_one ?c3 ?c4 hW.size ?_)
            case c3 => unfold maxLen; omega
            case c4 => omega
            intro v' w3 hown3 hgrow3 _
            obtain ⟨a3, cap3, rfl⟩ := own_shape hown3
            have hW3 : Below w.heap.size w w3 := hW.grown hgrow3 hW.size (fun j hj => (hown.lt j hj).1)
            go_wp2
            go_roundw
            case rel => exact ⟨k + 1, a3, cap3, by omega, by go_num, by rw [hs.out.1], by rw [hs.out.1, hs.out.2, mrows_append]; exact hown3, hW3⟩
            case measure => simp [intOf]; omega
        · have hS : L.take k = L := List.take_of_length_le (by omega)
          rw [hS] at hown ⊢
          go_wp2
          go_ret
          obtain ⟨o1, o2⟩ := own_mks hown rfl
          exact ⟨A', c', rfl, o1, o2, hW⟩
end Go.Proofs.Ytcpnaanknheekaa
