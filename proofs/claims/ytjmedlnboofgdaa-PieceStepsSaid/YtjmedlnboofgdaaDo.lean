/-
  One step, on the program's table and on the document's: their errors are alike, and so are they.
-/
import Derived.Test.YtjmedlnboofgdaaPieceRef
import Derived.Test.YtjmedlnboofgdaaPieceLives
import Derived.Deep.RegionHeld3
namespace Go.Proofs.Ytjmedlnboofgdaa
open Go.RowKit
open Pc
/-- The program's table at p and the document's at q have the same bytes, as many of them put in, and the pieces are few. -/
def Both (B p q : Nat) (T : List UInt8) (a st : Nat) (w : World) : Prop := B ≤ q ∧ (∃ ps, ps.flatten = T ∧ ps.length ≤ 1 + 2 * st ∧ Tab B p ps a w) ∧ Ref q T a st w
theorem Both.below {B p q : Nat} {T : List UInt8} {a st : Nat} {w w' : World} (h : Both B p q T a st w) (hb : Below w.heap.size w w') : Both B p q T a st w' := by
  obtain ⟨h1, ⟨ps, h2, h3, h4⟩, h5⟩ := h
  exact ⟨h1, ⟨ps, h2, h3, h4.below hb⟩, Blk.below h5 hb (Blk.lt h5)⟩
theorem ins_pack {B p q a st : Nat} {ps : List (List UInt8)} (x : Int) (s : ByteArray) (hl : ps.flatten.length + s.size ≤ 140737488355328) (ha : a + s.size ≤ 140737488355328) (hn : ps.length ≤ 900000) (hst : st ≤ 1000000) :
    ∃ (r : Int) (T' : List UInt8) (a' st' L' : Nat), Hid (∀ u, B ≤ u.heap.size → Tab B p ps a u → Calls Try.prog 11 #[.pointer (some ⟨p, 0, none⟩), .int .i64 x, .string s] u fun e w' => e = .returned (.int .i64 r) ∧ ∃ ps', Hid (ps'.flatten = T') ∧ ps'.length ≤ L' ∧ Tab B p ps' a' w' ∧ Keeps B u w') ∧
      Hid (∀ u, Ref q ps.flatten a st u → Calls Try.prog 14 #[.pointer (some ⟨q, 0, none⟩), .int .i64 x, .string s] u fun e w' => e = .returned (.int .i64 r) ∧ Ref q T' a' st' w' ∧ u.grownBy w' (some q)) ∧
      Hid (T'.length ≤ ps.flatten.length + s.size ∧ a' ≤ a + s.size ∧ st' ≤ st + 1 ∧ (ps.length ≤ 1 + 2 * st → L' ≤ 1 + 2 * st')) := by
  refine ⟨_, _, _, _, _, fun u hB hT => tab_insert hB hT x s hl ha hn, fun u h => ref_insert h x s hl ha hst, ?_⟩
  show _ ∧ _
  by_cases h : okI ps.flatten x
  · simp only [if_pos h]
    have h2 := h.2
    have h1 := h.1
    exact ⟨by rw [ins_length (by omega), data_len]; exact Nat.le_refl _, Nat.le_refl _, Nat.le_refl _, fun _ => by omega⟩
  · simp only [if_neg h]
    exact ⟨by omega, by omega, by omega, fun h => h⟩
theorem del_pack {B p q a st : Nat} {ps : List (List UInt8)} (i j : Int) (hl : ps.flatten.length ≤ 140737488355328) (hn : ps.length ≤ 900000) (hst : st ≤ 1000000) :
    ∃ (r : Int) (T' : List UInt8) (a' st' L' : Nat), Hid (∀ u, B ≤ u.heap.size → Tab B p ps a u → Calls Try.prog 15 #[.pointer (some ⟨p, 0, none⟩), .int .i64 i, .int .i64 j] u fun e w' => e = .returned (.int .i64 r) ∧ ∃ ps', Hid (ps'.flatten = T') ∧ ps'.length ≤ L' ∧ Tab B p ps' a' w' ∧ Keeps B u w') ∧
      Hid (∀ u, Ref q ps.flatten a st u → Calls Try.prog 16 #[.pointer (some ⟨q, 0, none⟩), .int .i64 i, .int .i64 j] u fun e w' => e = .returned (.int .i64 r) ∧ Ref q T' a' st' w' ∧ u.grownBy w' (some q)) ∧
      Hid (T'.length ≤ ps.flatten.length ∧ a' ≤ a ∧ st' ≤ st + 1 ∧ (ps.length ≤ 1 + 2 * st → L' ≤ 1 + 2 * st')) := by
  refine ⟨_, _, _, _, _, fun u hB hT => tab_delete hB hT i j hl hn, fun u h => ref_delete h i j hl hst, ?_⟩
  show _ ∧ _
  by_cases h : okD ps.flatten i j
  · simp only [if_pos h]
    obtain ⟨h1, h2, h3⟩ := h
    refine ⟨?_, Nat.le_refl _, Nat.le_refl _, fun _ => by omega⟩
    rw [del_length (by omega) (by omega)]; omega
  · simp only [if_neg h]
    exact ⟨by omega, by omega, by omega, fun h => h⟩
/-- What a step leaves: both are alike again. -/
def DoIs (B p q : Nat) (T : List UInt8) (a st : Nat) (s : ByteArray) (w : World) (e : Ending) (w' : World) : Prop :=
  ∃ (T' : List UInt8) (a' st' : Nat), e = .returned (.bool true) ∧ Hid (Both B p q T' a' st' w') ∧ Below B w w' ∧ T'.length ≤ T.length + s.size ∧ a' ≤ a + s.size ∧ st' ≤ st + 1
set_option maxHeartbeats 2000000 in
set_option maxRecDepth 100000 in
theorem do_ins {B p q : Nat} {T : List UInt8} {a st : Nat} {w : World} (hB : B ≤ w.heap.size) (h : Both B p q T a st w) (k : Step) (hl : T.length + k.s.size ≤ 100000) (ha : a + k.s.size ≤ 100000) (hst : st ≤ 1000) (hk : k.kind = 0) :
    Calls Try.prog 7 #[.pointer (some ⟨p, 0, none⟩), .pointer (some ⟨q, 0, none⟩), .agg #[.int .i64 k.kind, .int .i64 k.a, .int .i64 k.b, .string k.s]] w (DoIs B p q T a st k.s w) := by
  obtain ⟨kk, ka, kb, ks⟩ := k
  simp only at hk hl ha
  subst hk
  obtain ⟨hq, ⟨ps, rfl, hpl, hT0⟩, hR0⟩ := h
  obtain ⟨r, T', a', st', L', INS, REF, HB⟩ := ins_pack (B := B) (p := p) (q := q) (a := a) (st := st) (ps := ps) ka ks (by omega) (by omega) (by omega) (by omega)
  have hb0 : Below w.heap.size w (w.alloc (.cells #[.int .i64 0, .int .i64 ka, .int .i64 kb, .string ks] 32)).drew := ((Below.refl _ w).alloc (Nat.le_refl _) _).drew
  have hT := hT0.below hb0
  have hR : Ref q ps.flatten a st _ := Blk.below hR0 hb0 (Blk.lt hR0)
  have hX := (Blk.new w 32 #[.int .i64 0, .int .i64 ka, .int .i64 kb, .string ks]).drew
  have hW := hb0.mono hB
  have hBu : B ≤ ((w.alloc (.cells #[.int .i64 0, .int .i64 ka, .int .i64 kb, .string ks] 32)).drew).heap.size := Nat.le_trans hB hb0.size
  have c0 := (Blk.new w 32 #[.int .i64 0, .int .i64 ka, .int .i64 kb, .string ks]).cell 0
  have c1 := hX.cell 1
  have c3 := hX.cell 3
  simp at c0 c1 c3
  clear hT0 hR0 hb0
  go_enter Try.func7, Try.ntmps7
  go_wp2
  go_region_held3 (fun u => u.cell? ⟨w.heap.size, 1, none⟩ = some (.int .i64 ka) ∧ u.cell? ⟨w.heap.size, 3, none⟩ = some (.string ks)) (first | exact ⟨by assumption, by assumption⟩ | go_keep)
    (first
      | (go_at_call 11; refine (INS.out _ hBu hT).mono ?_; rintro e u1 ⟨rfl, ps', f1, f2, hT1, hK⟩; replace hT := hT1; replace hR := hR.keeps hK; replace hX := hK.keep _ _ _ hX (by decide) (by decide) (by decide); replace hW := hW.trans hK.below; replace hBu := Nat.le_trans hBu hK.size; have c1 := hX.cell 1; have c3 := hX.cell 3; simp at c1 c3)
      | (go_at_call 14; refine (REF.out _ hR).mono ?_; rintro e u2 ⟨rfl, hR2, hg⟩; replace hT := hT.ref hR hg; replace hX := hX.grown hg (fun e => hX.ne_ hR (by decide) (by injection e)); replace hW := hW.grown hg hBu (fun k hk => by injection hk with hk; omega); replace hBu := Nat.le_trans hBu hg.size; replace hR := hR2; have c1 := hX.cell 1; have c3 := hX.cell 3; simp at c1 c3))
  all_goals
    go_wp2
    go_ret
    obtain ⟨g1, g2, g3, g4⟩ := HB.out
    exact ⟨T', a', st', rfl, ⟨hq, ⟨ps', f1.out, by have := g4 hpl; omega, hT⟩, hR⟩, hW, by omega, by omega, g3⟩
set_option maxHeartbeats 2000000 in
set_option maxRecDepth 100000 in
theorem do_del {B p q : Nat} {T : List UInt8} {a st : Nat} {w : World} (hB : B ≤ w.heap.size) (h : Both B p q T a st w) (k : Step) (hl : T.length + k.s.size ≤ 100000) (ha : a + k.s.size ≤ 100000) (hst : st ≤ 1000) (hk : k.kind = 1) :
    Calls Try.prog 7 #[.pointer (some ⟨p, 0, none⟩), .pointer (some ⟨q, 0, none⟩), .agg #[.int .i64 k.kind, .int .i64 k.a, .int .i64 k.b, .string k.s]] w (DoIs B p q T a st k.s w) := by
  obtain ⟨kk, ka, kb, ks⟩ := k
  simp only at hk hl ha
  subst hk
  obtain ⟨hq, ⟨ps, rfl, hpl, hT0⟩, hR0⟩ := h
  obtain ⟨r, T', a', st', L', INS, REF, HB⟩ := del_pack (B := B) (p := p) (q := q) (a := a) (st := st) (ps := ps) ka kb (by omega) (by omega) (by omega)
  have hb0 : Below w.heap.size w (w.alloc (.cells #[.int .i64 1, .int .i64 ka, .int .i64 kb, .string ks] 32)).drew := ((Below.refl _ w).alloc (Nat.le_refl _) _).drew
  have hT := hT0.below hb0
  have hR : Ref q ps.flatten a st _ := Blk.below hR0 hb0 (Blk.lt hR0)
  have hX := (Blk.new w 32 #[.int .i64 1, .int .i64 ka, .int .i64 kb, .string ks]).drew
  have hW := hb0.mono hB
  have hBu : B ≤ ((w.alloc (.cells #[.int .i64 1, .int .i64 ka, .int .i64 kb, .string ks] 32)).drew).heap.size := Nat.le_trans hB hb0.size
  have c0 := (Blk.new w 32 #[.int .i64 1, .int .i64 ka, .int .i64 kb, .string ks]).cell 0
  have c1 := hX.cell 1
  have c3 := hX.cell 2
  simp at c0 c1 c3
  clear hT0 hR0 hb0
  go_enter Try.func7, Try.ntmps7
  go_wp2
  go_region_held3 (fun u => u.cell? ⟨w.heap.size, 1, none⟩ = some (.int .i64 ka) ∧ u.cell? ⟨w.heap.size, 2, none⟩ = some (.int .i64 kb)) (first | exact ⟨by assumption, by assumption⟩ | go_keep)
    (first
      | (go_at_call 15; refine (INS.out _ hBu hT).mono ?_; rintro e u1 ⟨rfl, ps', f1, f2, hT1, hK⟩; replace hT := hT1; replace hR := hR.keeps hK; replace hX := hK.keep _ _ _ hX (by decide) (by decide) (by decide); replace hW := hW.trans hK.below; replace hBu := Nat.le_trans hBu hK.size; have c1 := hX.cell 1; have c3 := hX.cell 2; simp at c1 c3)
      | (go_at_call 16; refine (REF.out _ hR).mono ?_; rintro e u2 ⟨rfl, hR2, hg⟩; replace hT := hT.ref hR hg; replace hX := hX.grown hg (fun e => hX.ne_ hR (by decide) (by injection e)); replace hW := hW.grown hg hBu (fun k hk => by injection hk with hk; omega); replace hBu := Nat.le_trans hBu hg.size; replace hR := hR2; have c1 := hX.cell 1; have c3 := hX.cell 2; simp at c1 c3))
  all_goals
    go_wp2
    go_ret
    obtain ⟨g1, g2, g3, g4⟩ := HB.out
    exact ⟨T', a', st', rfl, ⟨hq, ⟨ps', f1.out, by have := g4 hpl; omega, hT⟩, hR⟩, hW, by omega, by omega, g3⟩
set_option maxHeartbeats 2000000 in
set_option maxRecDepth 100000 in
theorem do_rest {B p q : Nat} {T : List UInt8} {a st : Nat} {w : World} (hB : B ≤ w.heap.size) (h : Both B p q T a st w) (k : Step) (hl : T.length ≤ 100000) (hst : st ≤ 1000) (h0 : k.kind ≠ 0) (h1 : k.kind ≠ 1) :
    Calls Try.prog 7 #[.pointer (some ⟨p, 0, none⟩), .pointer (some ⟨q, 0, none⟩), .agg #[.int .i64 k.kind, .int .i64 k.a, .int .i64 k.b, .string k.s]] w (DoIs B p q T a st k.s w) := by
  obtain ⟨kk, ka, kb, ks⟩ := k
  simp only at h0 h1
  obtain ⟨hq, ⟨ps, rfl, hpl, hT0⟩, hR0⟩ := h
  have hb0 : Below w.heap.size w (w.alloc (.cells #[.int .i64 kk, .int .i64 ka, .int .i64 kb, .string ks] 32)) := (Below.refl _ w).alloc (Nat.le_refl _) _
  have hT := hT0.below hb0
  have hR : Ref q ps.flatten a st _ := Blk.below hR0 hb0 (Blk.lt hR0)
  have C1 := Lib.hid (tab_compact (Nat.le_trans hB hb0.size) hT (by omega) (by omega))
  have C2 : Hid (∀ u, Keeps B (w.alloc (.cells #[.int .i64 kk, .int .i64 ka, .int .i64 kb, .string ks] 32)) u → Calls Try.prog 18 #[.pointer (some ⟨q, 0, none⟩)] u fun e w' => e = .returned (.tuple #[]) ∧ Ref q ps.flatten 0 0 w' ∧ u.grownBy w' (some q)) := fun u hK => ref_compact (hR.keeps hK)
  have c0 := (Blk.new w 32 #[.int .i64 kk, .int .i64 ka, .int .i64 kb, .string ks]).cell 0
  simp at c0
  have d0 : decide (kk = 0) = false := decide_eq_false h0
  have d1 : decide (kk = 1) = false := decide_eq_false h1
  have HR := Lib.hid hR
  have HB0 := Lib.hid hb0
  clear hT0 hR0 hT hR hb0
  go_enter Try.func7, Try.ntmps7
  go_wp2_with (first
    | (go_at_call 17; refine C1.out.mono ?_; rintro e w1 ⟨rfl, hT1, hK1⟩)
    | (go_at_call 18; refine (C2.out _ hK1).mono ?_; rintro e w2 ⟨rfl, hR2, hg2⟩))
  go_ret
  have hW := (HB0.out.mono hB).trans hK1.below
  refine ⟨ps.flatten, 0, 0, rfl, ⟨hq, ⟨_, one_flat _, by have := one_le ps.flatten; omega, hT1.ref (HR.out.keeps hK1) hg2⟩, hR2⟩, hW.grown hg2 (Nat.le_trans hB hW.size) (fun k hk => by injection hk with hk; omega), by omega, by omega, by omega⟩
theorem do_ok {B p q : Nat} {T : List UInt8} {a st : Nat} {w : World} (hB : B ≤ w.heap.size) (h : Both B p q T a st w) (k : Step) (hl : T.length + k.s.size ≤ 100000) (ha : a + k.s.size ≤ 100000) (hst : st ≤ 1000) :
    Calls Try.prog 7 #[.pointer (some ⟨p, 0, none⟩), .pointer (some ⟨q, 0, none⟩), .agg #[.int .i64 k.kind, .int .i64 k.a, .int .i64 k.b, .string k.s]] w (DoIs B p q T a st k.s w) := by
  by_cases h0 : k.kind = 0
  · exact do_ins hB h k hl ha hst h0
  · by_cases h1 : k.kind = 1
    · exact do_del hB h k hl ha hst h1
    · exact do_rest hB h k (by omega) hst h0 h1
end Go.Proofs.Ytjmedlnboofgdaa
