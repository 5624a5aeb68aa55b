/-
  One step, on the program's index and on the document's text: their errors are alike, and so are they.
-/
import Derived.Test.YtgjppkkifclanaaDoorIndexLives
import Derived.Deep.RegionHeld3
namespace Go.Proofs.YtgjppkkifclanaaDoor
open Go.RowKit
open Pc
theorem Ref.keepsI {B q a st : Nat} {T : List UInt8} {w w' : World} (h : Ref q T a st w) (k : KeepsI B w w') : Ref q T a st w' := k.keep q _ _ h (by decide) (by decide)
/-- The program's index at p and the document's text at q have the same bytes. -/
def Both7 (B p q : Nat) (T : List UInt8) (a st : Nat) (w : World) : Prop := B ≤ q ∧ Idx B p T w ∧ Ref q T a st w
theorem Both7.below {B p q : Nat} {T : List UInt8} {a st : Nat} {w w' : World} (h : Both7 B p q T a st w) (hb : Below w.heap.size w w') : Both7 B p q T a st w' :=
  ⟨h.1, h.2.1.below hb, Blk.below h.2.2 hb (Blk.lt h.2.2)⟩
theorem ins_pack7 {B p q a st : Nat} {T : List UInt8} (x : Int) (s : ByteArray) (hl : T.length + s.size ≤ 100000) (ha : a + s.size ≤ 140737488355328) (hst : st ≤ 1000000) :
    ∃ (r : Int) (T' : List UInt8) (a' st' : Nat), Hid (∀ u, B ≤ u.heap.size → Idx B p T u → Calls Tryd.prog 20 #[.pointer (some ⟨p, 0, none⟩), .int .i64 x, .string s] u fun e w' => e = .returned (.int .i64 r) ∧ Idx B p T' w' ∧ KeepsI B u w') ∧
      Hid (∀ u, Ref q T a st u → Calls Tryd.prog 25 #[.pointer (some ⟨q, 0, none⟩), .int .i64 x, .string s] u fun e w' => e = .returned (.int .i64 r) ∧ Ref q T' a' st' w' ∧ u.grownBy w' (some q)) ∧
      Hid (T'.length ≤ T.length + s.size ∧ a' ≤ a + s.size ∧ st' ≤ st + 1) := by
  have hd := data_len s
  refine ⟨_, _, _, _, fun u hB hT => idx_insert (B := B) (p := p) (t := T) x s.data.toList hB hT (by omega), fun u h => ref_insert h x s (by omega) ha hst, ?_⟩
  show _ ∧ _
  by_cases h : okI T x
  · simp only [if_pos h]
    have h2 := h.2
    have h1 := h.1
    exact ⟨by rw [ins_length (by omega), data_len]; exact Nat.le_refl _, Nat.le_refl _, Nat.le_refl _⟩
  · simp only [if_neg h]
    exact ⟨by omega, by omega, by omega⟩
theorem del_pack7 {B p q a st : Nat} {T : List UInt8} (i j : Int) (hl : T.length ≤ 100000) (hst : st ≤ 1000000) :
    ∃ (r : Int) (T' : List UInt8) (a' st' : Nat), Hid (∀ u, B ≤ u.heap.size → Idx B p T u → Calls Tryd.prog 21 #[.pointer (some ⟨p, 0, none⟩), .int .i64 i, .int .i64 j] u fun e w' => e = .returned (.int .i64 r) ∧ Idx B p T' w' ∧ KeepsI B u w') ∧
      Hid (∀ u, Ref q T a st u → Calls Tryd.prog 26 #[.pointer (some ⟨q, 0, none⟩), .int .i64 i, .int .i64 j] u fun e w' => e = .returned (.int .i64 r) ∧ Ref q T' a' st' w' ∧ u.grownBy w' (some q)) ∧
      Hid (T'.length ≤ T.length ∧ a' ≤ a ∧ st' ≤ st + 1) := by
  refine ⟨_, _, _, _, fun u hB hT => idx_delete (B := B) (p := p) (t := T) i j hB hT (by omega), fun u h => ref_delete h i j (by omega) hst, ?_⟩
  show _ ∧ _
  by_cases h : okD T i j
  · simp only [if_pos h]
    obtain ⟨h1, h2, h3⟩ := h
    refine ⟨?_, Nat.le_refl _, Nat.le_refl _⟩
    rw [del_length (by omega) (by omega)]; omega
  · simp only [if_neg h]
    exact ⟨by omega, by omega, by omega⟩
/-- What a step leaves: both are alike again. -/
def DoIs7 (B p q : Nat) (T : List UInt8) (a st : Nat) (s : ByteArray) (w : World) (e : Ending) (w' : World) : Prop :=
  ∃ (T' : List UInt8) (a' st' : Nat), e = .returned (.bool true) ∧ Hid (Both7 B p q T' a' st' w') ∧ Below B w w' ∧ T'.length ≤ T.length + s.size ∧ a' ≤ a + s.size ∧ st' ≤ st + 1
set_option maxHeartbeats 2000000 in
set_option maxRecDepth 100000 in
theorem do7_ins {B p q : Nat} {T : List UInt8} {a st : Nat} {w : World} (hB : B ≤ w.heap.size) (h : Both7 B p q T a st w) (k : Step) (hl : T.length + k.s.size ≤ 100000) (ha : a + k.s.size ≤ 100000) (hst : st ≤ 1000) (hk : k.kind = 0) :
    Calls Tryd.prog 10 #[.pointer (some ⟨p, 0, none⟩), .pointer (some ⟨q, 0, none⟩), .agg #[.int .i64 k.kind, .int .i64 k.a, .int .i64 k.b, .string k.s]] w (DoIs7 B p q T a st k.s w) := by
  obtain ⟨kk, ka, kb, ks⟩ := k
  simp only at hk hl ha
  subst hk
  obtain ⟨hq, hT0, hR0⟩ := h
  obtain ⟨r, T', a', st', INS, REF, HB⟩ := ins_pack7 (B := B) (p := p) (q := q) (a := a) (st := st) (T := T) ka ks (by omega) (by omega) (by omega)
  have hb0 : Below w.heap.size w (w.alloc (.cells #[.int .i64 0, .int .i64 ka, .int .i64 kb, .string ks] 32)).drew := ((Below.refl _ w).alloc (Nat.le_refl _) _).drew
  have hT := hT0.below hb0
  have hR : Ref q T a st _ := Blk.below hR0 hb0 (Blk.lt hR0)
  have hX := (Blk.new w 32 #[.int .i64 0, .int .i64 ka, .int .i64 kb, .string ks]).drew
  have hW := hb0.mono hB
  have hBu : B ≤ ((w.alloc (.cells #[.int .i64 0, .int .i64 ka, .int .i64 kb, .string ks] 32)).drew).heap.size := Nat.le_trans hB hb0.size
  have c0 := (Blk.new w 32 #[.int .i64 0, .int .i64 ka, .int .i64 kb, .string ks]).cell 0
  have c1 := hX.cell 1
  have c3 := hX.cell 3
  simp at c0 c1 c3
  clear hT0 hR0 hb0
  go_enter Tryd.func10, Tryd.ntmps10
  go_wp2
  go_region_held3 (fun u => u.cell? ⟨w.heap.size, 1, none⟩ = some (.int .i64 ka) ∧ u.cell? ⟨w.heap.size, 3, none⟩ = some (.string ks)) (first | exact ⟨by assumption, by assumption⟩ | go_keep)
    (first
      | (go_at_call 20; refine (INS.out _ hBu hT).mono ?_; rintro e u1 ⟨rfl, hT1, hK⟩; replace hT := hT1; replace hR := hR.keepsI hK; replace hX := hK.keep _ _ _ hX (by decide) (by decide); replace hW := hW.trans hK.below; replace hBu := Nat.le_trans hBu hK.size; have c1 := hX.cell 1; have c3 := hX.cell 3; simp at c1 c3)
      | (go_at_call 25; refine (REF.out _ hR).mono ?_; rintro e u2 ⟨rfl, hR2, hg⟩; replace hT := hT.other hR (by decide) (by decide) hg; replace hX := hX.grown hg (fun e => hX.ne_ hR (by decide) (by injection e)); replace hW := hW.grown hg hBu (fun k hk => by injection hk with hk; omega); replace hBu := Nat.le_trans hBu hg.size; replace hR := hR2; have c1 := hX.cell 1; have c3 := hX.cell 3; simp at c1 c3))
  all_goals
    go_wp2
    go_ret
    obtain ⟨g1, g2, g3⟩ := HB.out
    exact ⟨T', a', st', rfl, ⟨hq, hT, hR⟩, hW, by omega, by omega, g3⟩
set_option maxHeartbeats 2000000 in
set_option maxRecDepth 100000 in
theorem do7_del {B p q : Nat} {T : List UInt8} {a st : Nat} {w : World} (hB : B ≤ w.heap.size) (h : Both7 B p q T a st w) (k : Step) (hl : T.length + k.s.size ≤ 100000) (ha : a + k.s.size ≤ 100000) (hst : st ≤ 1000) (hk : k.kind ≠ 0) :
    Calls Tryd.prog 10 #[.pointer (some ⟨p, 0, none⟩), .pointer (some ⟨q, 0, none⟩), .agg #[.int .i64 k.kind, .int .i64 k.a, .int .i64 k.b, .string k.s]] w (DoIs7 B p q T a st k.s w) := by
  obtain ⟨kk, ka, kb, ks⟩ := k
  simp only at hk hl ha
  have d0 : decide (kk = 0) = false := decide_eq_false hk
  obtain ⟨hq, hT0, hR0⟩ := h
  obtain ⟨r, T', a', st', INS, REF, HB⟩ := del_pack7 (B := B) (p := p) (q := q) (a := a) (st := st) (T := T) ka kb (by omega) (by omega)
  have hb0 : Below w.heap.size w (w.alloc (.cells #[.int .i64 kk, .int .i64 ka, .int .i64 kb, .string ks] 32)).drew := ((Below.refl _ w).alloc (Nat.le_refl _) _).drew
  have hT := hT0.below hb0
  have hR : Ref q T a st _ := Blk.below hR0 hb0 (Blk.lt hR0)
  have hX := (Blk.new w 32 #[.int .i64 kk, .int .i64 ka, .int .i64 kb, .string ks]).drew
  have hW := hb0.mono hB
  have hBu : B ≤ ((w.alloc (.cells #[.int .i64 kk, .int .i64 ka, .int .i64 kb, .string ks] 32)).drew).heap.size := Nat.le_trans hB hb0.size
  have c0 := (Blk.new w 32 #[.int .i64 kk, .int .i64 ka, .int .i64 kb, .string ks]).cell 0
  have c1 := hX.cell 1
  have c3 := hX.cell 2
  simp at c0 c1 c3
  clear hT0 hR0 hb0
  go_enter Tryd.func10, Tryd.ntmps10
  go_wp2
  go_region_held3 (fun u => u.cell? ⟨w.heap.size, 1, none⟩ = some (.int .i64 ka) ∧ u.cell? ⟨w.heap.size, 2, none⟩ = some (.int .i64 kb)) (first | exact ⟨by assumption, by assumption⟩ | go_keep)
    (first
      | (go_at_call 21; refine (INS.out _ hBu hT).mono ?_; rintro e u1 ⟨rfl, hT1, hK⟩; replace hT := hT1; replace hR := hR.keepsI hK; replace hX := hK.keep _ _ _ hX (by decide) (by decide); replace hW := hW.trans hK.below; replace hBu := Nat.le_trans hBu hK.size; have c1 := hX.cell 1; have c3 := hX.cell 2; simp at c1 c3)
      | (go_at_call 26; refine (REF.out _ hR).mono ?_; rintro e u2 ⟨rfl, hR2, hg⟩; replace hT := hT.other hR (by decide) (by decide) hg; replace hX := hX.grown hg (fun e => hX.ne_ hR (by decide) (by injection e)); replace hW := hW.grown hg hBu (fun k hk => by injection hk with hk; omega); replace hBu := Nat.le_trans hBu hg.size; replace hR := hR2; have c1 := hX.cell 1; have c3 := hX.cell 2; simp at c1 c3))
  all_goals
    go_wp2
    go_ret
    obtain ⟨g1, g2, g3⟩ := HB.out
    exact ⟨T', a', st', rfl, ⟨hq, hT, hR⟩, hW, by omega, by omega, g3⟩
theorem do7_ok {B p q : Nat} {T : List UInt8} {a st : Nat} {w : World} (hB : B ≤ w.heap.size) (h : Both7 B p q T a st w) (k : Step) (hl : T.length + k.s.size ≤ 100000) (ha : a + k.s.size ≤ 100000) (hst : st ≤ 1000) :
    Calls Tryd.prog 10 #[.pointer (some ⟨p, 0, none⟩), .pointer (some ⟨q, 0, none⟩), .agg #[.int .i64 k.kind, .int .i64 k.a, .int .i64 k.b, .string k.s]] w (DoIs7 B p q T a st k.s w) := by
  by_cases h0 : k.kind = 0
  · exact do7_ins hB h k hl ha hst h0
  · exact do7_del hB h k hl ha hst h0
end Go.Proofs.YtgjppkkifclanaaDoor
