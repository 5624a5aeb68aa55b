/-
  An index in memory; what only looks at it: held, Lines, Start, End, Len, Of.
-/
import Derived.LaidEqlPtr
import Derived.Test.YtgjppkkifclanaaDoorLay
namespace Go.Proofs.YtgjppkkifclanaaDoor
open Go.RowKit
/-- An index that New gave stands at block p, and knows of these bytes. -/
structure IdxAt (B p : Nat) (v : Value) (t : List UInt8) (w : World) : Prop where
  low : B ≤ p
  self : Blk w p 44 #[.pointer (some ⟨p, 0, none⟩), v]
  row : Ix.Row B v (Ix.ends t) w
def Idx (B p : Nat) (t : List UInt8) (w : World) : Prop := ∃ v, IdxAt B p v t w
/-- An index that New did not give: no part of it was ever written. -/
def ZeroI (B p : Nat) (w : World) : Prop := B ≤ p ∧ Blk w p 44 #[.pointer none, .slice none 0 0]
section
variable {w w' : World} {B p : Nat} {t : List UInt8} {v : Value}
theorem own_blk {e : TypeId} {size n g : Nat} {v : Value} {xs : List Value} (h : w.ownsRow B e size v n xs) (hg : v.ownBlock = some g) : ∃ cs, Blk w g e cs := by
  rcases h.2 with ⟨rfl, _⟩ | ⟨g', cap, cur, rfl, _, hh, _⟩
  · simp [Value.ownBlock] at hg
  · have : g' = g := by simpa [Value.ownBlock] using hg
    subst this
    exact ⟨_, hh⟩
theorem IdxAt.grown {r : Option Nat} (h : IdxAt B p v t w) (hb : w.grownBy w' r) (hr : ∀ g s cs fr, w.heap[g]? = some (.cells cs s fr) → s = 44 ∨ s = 3 → some g ≠ r) : IdxAt B p v t w' := by
  refine ⟨h.low, h.self.grown hb (hr p _ _ _ h.self (Or.inl rfl)), h.row.kept hb ?_⟩
  cases hv : v.ownBlock with
  | none => exact Or.inl rfl
  | some g =>
    obtain ⟨cs, hc⟩ := own_blk h.row hv
    exact Or.inr (hr g _ _ _ hc (Or.inr rfl))
theorem IdxAt.below (h : IdxAt B p v t w) (hb : Below w.heap.size w w') : IdxAt B p v t w' := h.grown (gb_below none hb) (by simp)
theorem IdxAt.other {q : Nat} {s : TypeId} {cs : Array Value} (h : IdxAt B p v t w) (k : Blk w q s cs) (h0 : s ≠ 44) (h1 : s ≠ 3) (hb : w.grownBy w' (some q)) : IdxAt B p v t w' :=
  h.grown hb fun g t' cs' fr hg ht e => by
    injection e with e
    subst e
    unfold Blk at k
    rw [k] at hg
    injection hg with hg
    injection hg with _ hg
    subst hg
    rcases ht with h | h
    · exact h0 h
    · exact h1 h
theorem Idx.below (h : Idx B p t w) (hb : Below w.heap.size w w') : Idx B p t w' := by
  obtain ⟨v, h⟩ := h
  exact ⟨v, h.below hb⟩
theorem Idx.other {q : Nat} {s : TypeId} {cs : Array Value} (h : Idx B p t w) (k : Blk w q s cs) (h0 : s ≠ 44) (h1 : s ≠ 3) (hb : w.grownBy w' (some q)) : Idx B p t w' := by
  obtain ⟨v, h⟩ := h
  exact ⟨v, h.other k h0 h1 hb⟩
theorem Idx.lt (h : Idx B p t w) : p < w.heap.size := by
  obtain ⟨_, h⟩ := h
  exact h.self.lt
theorem ZeroI.below (h : ZeroI B p w) (hb : Below w.heap.size w w') : ZeroI B p w' := ⟨h.1, h.2.below hb h.2.lt⟩
end
/-- What an index's function leaves of the rest: nothing is written but indexes and numbers. -/
structure KeepsI (B : Nat) (w w' : World) : Prop where
  below : Below B w w'
  keep : ∀ g t cs, Blk w g t cs → t ≠ 44 → t ≠ 3 → Blk w' g t cs
section
variable {w w' w2 : World} {B : Nat}
theorem KeepsI.refl (B : Nat) (w : World) : KeepsI B w w := ⟨Below.refl B w, fun _ _ _ h _ _ => h⟩
theorem KeepsI.trans (h : KeepsI B w w') (k : KeepsI B w' w2) : KeepsI B w w2 := ⟨h.below.trans k.below, fun g t cs hb h0 h1 => k.keep g t cs (h.keep g t cs hb h0 h1) h0 h1⟩
theorem KeepsI.size (h : KeepsI B w w') : w.heap.size ≤ w'.heap.size := h.below.size
theorem KeepsI.of_below (hB : B ≤ w.heap.size) (h : Below w.heap.size w w') : KeepsI B w w' := ⟨h.mono hB, fun _ _ _ hb _ _ => hb.below h hb.lt⟩
theorem KeepsI.of_row {t : TypeId} {cs : Array Value} {q : Nat} {r : Option Nat} (hB : B ≤ w.heap.size) (hq : B ≤ q) (k : Blk w q t cs) (ht : t = 44 ∨ t = 3) (hr : r = some q) (h : w.grownBy w' r) : KeepsI B w w' := by
  subst hr
  refine ⟨(Below.refl B w).grown h hB (fun k hk => by injection hk with hk; omega), fun g t' cs' hb h0 h1 => hb.grown h fun e => ?_⟩
  injection e with e
  subst e
  unfold Blk at k hb
  rw [k] at hb
  injection hb with hb
  injection hb with _ hb
  subst hb
  rcases ht with h | h
  · exact h0 h
  · exact h1 h
theorem KeepsI.of_own {v : Value} {n : Nat} {xs : List Value} (hB : B ≤ w.heap.size) (ho : w.ownsRow B 3 1 v n xs) (h : w.grownBy w' v.ownBlock) : KeepsI B w w' := by
  cases hv : v.ownBlock with
  | none => rw [hv] at h; exact KeepsI.of_below hB (below_gb h)
  | some g =>
    obtain ⟨cs, hc⟩ := own_blk ho hv
    rw [hv] at h
    exact KeepsI.of_row hB (ho.lt g hv).1 hc (Or.inr rfl) rfl h
end
theorem info_idx : ∃ j, Tryd.prog.info? 44 = some j := Option.isSome_iff_exists.1 (by kernel_rfl)
theorem run_neq_same {P : Program} (w : World) {tp te : TypeId} {j : TypeInfo} (a : Addr) (hp : P.underlying tp = some (.pointer te)) (hte : P.info? te = some j) :
    (binOp .neq tp (.pointer (some a)) (.pointer (some a))).run P w = .ok (.bool false) w := by
  have h : ∀ d : Nat, (Op.equalIn (d + 1) tp (.pointer (some a)) (.pointer (some a))).run P w = .ok true w := fun d => by
    simp [Op.equalIn, run_underlying hp, sizeOf, typeInfo, hte, run_sameAddr_same]
  simp only [binOp]
  simp [Op.equal, Op.maxDepth, h 9999]
theorem run_neq_nil_some {P : Program} (w : World) (t u : TypeId) (a : Addr) (h : P.underlying t = some (.pointer u)) :
    (binOp .neq t (.pointer none) (.pointer (some a))).run P w = .ok (.bool true) w := by
  have h : ∀ d : Nat, (Op.equalIn (d + 1) t (.pointer none) (.pointer (some a))).run P w = .ok false w := fun d => by
    simp [Op.equalIn, run_underlying h]
  simp only [binOp]
  simp [Op.equal, Op.maxDepth, h 9999]
/-- What only looks: which ends a pointer's index tells; the list lies from B on, or is one that New's maker keeps. -/
structure Sees (B : Nat) (x : Value) (l : List Nat) (w : World) : Prop where
  pos : 0 < l.length
  len : l.length ≤ 1000000000000
  le : ∀ n ∈ l, n ≤ 1000000000000
  held : ∀ w1, Below w.heap.size w w1 → Calls Tryd.prog 27 #[x] w1 fun e w' => (∃ v, e = .returned v ∧ Ix.Row B v l w') ∧ Below w1.heap.size w1 w'
theorem Sees.below {B : Nat} {x : Value} {l : List Nat} {w w' : World} (h : Sees B x l w) (hb : Below w.heap.size w w') : Sees B x l w' :=
  ⟨h.pos, h.len, h.le, fun w1 h1 => h.held w1 (hb.trans (h1.mono hb.size))⟩
set_option maxHeartbeats 400000 in
theorem idx_sees {B p : Nat} {t : List UInt8} {w : World} (h : Idx B p t w) (hl : t.length < 1000000000000) : Sees B (.pointer (some ⟨p, 0, none⟩)) (Ix.ends t) w := by
  obtain ⟨v, h⟩ := h
  refine ⟨Ix.ends_pos t, by have := Ix.ends_le t; omega, fun n hn => by have := Ix.ends_mem hn; omega, fun w1 hb => ?_⟩
  have h1 := h.below hb
  obtain ⟨j, hj⟩ := info_idx
  have k0 := h1.self.cell 0
  have k1 := h1.self.cell 1
  simp at k0 k1
  have hn := fun w : World => run_neq_same (P := Tryd.prog) w ⟨p, 0, none⟩ Tryd.underlying25 hj
  have R := Lib.hid h1.row
  clear h h1 hb
  go_enter Tryd.func27, Tryd.ntmps27
  go_wp2
  go_ret
  exact ⟨⟨_, rfl, R.out⟩, Below.refl _ _⟩
set_option maxHeartbeats 400000 in
theorem zero_sees {B p : Nat} {w : World} (hB : B ≤ w.heap.size) (h : ZeroI B p w) : Sees B (.pointer (some ⟨p, 0, none⟩)) (Ix.ends []) w := by
  refine ⟨Ix.ends_pos [], by decide, fun n hn => by have := Ix.ends_mem hn; simp at this; omega, fun w1 hb => ?_⟩
  have h1 := h.below hb
  have hBw := Nat.le_trans hB hb.size
  have k0 := h1.2.cell 0
  simp at k0
  have hn := fun w : World => run_neq_nil_some (P := Tryd.prog) w 25 44 ⟨p, 0, none⟩ Tryd.underlying25
  have NL : Ix.Nums (w1.alloc (.cells #[.int .i64 0] 3)) w1.heap.size [0] := by
    refine ⟨by simp [World.size_alloc], fun k n hk => ?_⟩
    rw [(Blk.new w1 3 #[.int .i64 0]).cell k]
    match k, hk with
    | 0, hk => simp at hk; subst hk; rfl
  have C := index_lay 0 w1.heap.size 1 [0] (w1.alloc (.cells #[.int .i64 0] 3)) NL (by simp) (by simp)
  rw [show (([0] : List Nat).length) = 1 from rfl, show ((0 : Nat) : Int) = 0 from rfl] at C
  have C1 := Lib.hid C
  have hBl : Below w1.heap.size w1 (w1.alloc (.cells #[.int .i64 0] 3)) := (Below.refl _ w1).alloc (Nat.le_refl _) _
  clear h h1 hb C NL
  go_enter Tryd.func27, Tryd.ntmps27
  go_wp2_with (go_at_call 23; refine C1.out.mono ?_; rintro e w2 ⟨⟨v, rfl, hr⟩, hb⟩)
  go_ret
  refine ⟨⟨_, rfl, ?_⟩, hBl.trans (hb.mono (by simp [World.size_alloc]))⟩
  exact Ix.Row.mono hr (by simp [World.size_alloc]; omega)
namespace Ix
/-- The answers by ends. -/
def startL (l : List Nat) (k : Int) : Int := if k < 0 ∨ (l.length : Int) ≤ k then -1 else if k = 0 then 0 else (l.getD (k.toNat - 1) 0 : Nat) + 1
def endL (l : List Nat) (k : Int) : Int := if k < 0 ∨ (l.length : Int) ≤ k then -1 else (l.getD k.toNat 0 : Nat)
def ofL (l : List Nat) (p : Int) : Int := if p < 0 ∨ (l.map fun n : Nat => (n : Int)).countP (· < p) = l.length then -1 else ((l.map fun n : Nat => (n : Int)).countP (· < p) : Nat)
theorem startL_eq (t : List UInt8) (k : Int) : startL (ends t) k = startOf t k := by
  unfold startL startOf start
  split
  · rfl
  · rename_i h
    by_cases h0 : k = 0
    · subst h0; simp
    · rw [if_neg h0, if_neg (by omega)]; simp
theorem endL_eq (t : List UInt8) (k : Int) : endL (ends t) k = endOf t k := rfl
theorem ofL_eq (t : List UInt8) (p : Int) : ofL (ends t) p = lineOf t p := by
  unfold ofL lineOf
  by_cases h0 : p < 0
  · rw [if_pos (Or.inl h0), if_pos (Or.inl h0)]
  · by_cases h1 : (t.length : Int) < p
    · rw [if_pos (Or.inr (line_high h1)), if_pos (Or.inr h1)]
    · obtain ⟨n, rfl⟩ : ∃ n : Nat, p = n := ⟨p.toNat, by omega⟩
      have hn : n ≤ t.length := by omega
      have := line_lt hn
      rw [line_count hn, if_neg (by omega), if_neg (by omega)]
      rfl
end Ix
set_option maxHeartbeats 400000 in
theorem index_Lines {B : Nat} {x : Value} {l : List Nat} {w : World} (h : Sees B x l w) :
    Calls Tryd.prog 12 #[x] w fun e w' => e = .returned (.int .i64 (l.length : Nat)) ∧ Below w.heap.size w w' := by
  have G := Lib.hid (h.held w (Below.refl _ _))
  clear h
  go_enter Tryd.func12, Tryd.ntmps12
  go_wp2_with (go_at_call 27; refine G.out.mono ?_; rintro e w2 ⟨⟨v, rfl, hr⟩, hb⟩; obtain ⟨a, c, rfl⟩ := hr.shape)
  go_ret
  exact ⟨rfl, hb⟩
set_option maxHeartbeats 1000000 in
theorem index_Start {B : Nat} {x : Value} {l : List Nat} {w : World} (h : Sees B x l w) (k : Int) :
    Calls Tryd.prog 14 #[x, .int .i64 k] w fun e w' => e = .returned (.int .i64 (Ix.startL l k)) ∧ Below w.heap.size w w' := by
  have G := Lib.hid (h.held w (Below.refl _ _))
  have hle := h.le
  have hln := h.len
  have hpos := h.pos
  clear h
  by_cases h0 : k < 0
  · have H : Hid (Ix.startL l k = -1) := by show _ = _; unfold Ix.startL; rw [if_pos (Or.inl h0)]
    have d1 : decide (k < 0) = true := decide_eq_true h0
    clear hle
    go_enter Tryd.func14, Tryd.ntmps14
    go_wp2_with (go_at_call 27; refine G.out.mono ?_; rintro e w2 ⟨⟨v, rfl, hr⟩, hb⟩; obtain ⟨a, c, rfl⟩ := hr.shape)
    go_ret
    exact ⟨by rw [H.out]; rfl, hb⟩
  · by_cases h1 : (l.length : Int) ≤ k
    · have H : Hid (Ix.startL l k = -1) := by show _ = _; unfold Ix.startL; rw [if_pos (Or.inr h1)]
      have d1 : decide (k < 0) = false := decide_eq_false h0
      clear hle
      go_enter Tryd.func14, Tryd.ntmps14
      go_wp2_with (go_at_call 27; refine G.out.mono ?_; rintro e w2 ⟨⟨v, rfl, hr⟩, hb⟩; obtain ⟨a, c, rfl⟩ := hr.shape)
      go_ret
      exact ⟨by rw [H.out]; rfl, hb⟩
    · obtain ⟨n, rfl⟩ : ∃ n : Nat, k = n := ⟨k.toNat, by omega⟩
      have hn : n < l.length := by omega
      rcases Nat.eq_zero_or_pos n with hz | hz
      · subst hz
        have H : Hid (Ix.startL l ((0 : Nat) : Int) = 0) := by show _ = _; unfold Ix.startL; rw [if_neg (by omega), if_pos (by rfl)]
        rw [show ((0 : Nat) : Int) = 0 from rfl] at H ⊢
        have hnl : ¬ l = [] := by rintro rfl; simp at hpos
        clear hle h0 h1
        go_enter Tryd.func14, Tryd.ntmps14
        go_wp2_with (go_at_call 27; refine G.out.mono ?_; rintro e w2 ⟨⟨v, rfl, hr⟩, hb⟩; obtain ⟨a, c, rfl⟩ := hr.shape)
        go_ret
        exact ⟨by rw [H.out]; rfl, hb⟩
      · obtain ⟨m, rfl⟩ : ∃ m, n = m + 1 := ⟨n - 1, by omega⟩
        have hm : l[m]? = some (l.getD m 0) := by rw [List.getD_eq_getElem?_getD, List.getElem?_eq_getElem (by omega)]; rfl
        have hy : l.getD m 0 ≤ 1000000000000 := hle _ (List.mem_of_getElem? hm)
        have H : Hid (Ix.startL l ((m + 1 : Nat) : Int) = (l.getD m 0 : Nat) + 1) := by
          show _ = _
          unfold Ix.startL
          rw [if_neg (by omega), if_neg (by omega), Int.toNat_natCast, Nat.add_sub_cancel]
        have d1 : decide (((m + 1 : Nat) : Int) < 0) = false := decide_eq_false (by omega)
        have d2 : decide ((l.length : Int) ≤ ((m + 1 : Nat) : Int)) = false := decide_eq_false (by omega)
        have d3 : (((m + 1 : Nat) : Int) == 0) = false := by simp; omega
        have d4 : ((m + 1 : Nat) : Int) - 1 = (m : Int) := by omega
        have HM := Lib.hid hm
        generalize l.getD m 0 = y at *
        have hm1 : m < l.length := by omega
        clear hle h0 h1 hm hz
        go_enter Tryd.func14, Tryd.ntmps14
        go_wp2_with (go_at_call 27; refine G.out.mono ?_; rintro e w2 ⟨⟨v, rfl, hr⟩, hb⟩; obtain ⟨g, c, rfl, hbg, hcc, hnn⟩ := hr.nums hpos; have hcell := hnn.2 _ _ HM.out; have hgs := hnn.1; clear hr hnn)
        go_ret
        exact ⟨by rw [H.out]; rfl, hb⟩
set_option maxHeartbeats 1000000 in
theorem index_End {B : Nat} {x : Value} {l : List Nat} {w : World} (h : Sees B x l w) (k : Int) :
    Calls Tryd.prog 16 #[x, .int .i64 k] w fun e w' => e = .returned (.int .i64 (Ix.endL l k)) ∧ Below w.heap.size w w' := by
  have G := Lib.hid (h.held w (Below.refl _ _))
  have hln := h.len
  have hpos := h.pos
  clear h
  by_cases h0 : k < 0
  · have H : Hid (Ix.endL l k = -1) := by show _ = _; unfold Ix.endL; rw [if_pos (Or.inl h0)]
    have d1 : decide (k < 0) = true := decide_eq_true h0
    go_enter Tryd.func16, Tryd.ntmps16
    go_wp2_with (go_at_call 27; refine G.out.mono ?_; rintro e w2 ⟨⟨v, rfl, hr⟩, hb⟩; obtain ⟨a, c, rfl⟩ := hr.shape)
    go_ret
    exact ⟨by rw [H.out]; rfl, hb⟩
  · by_cases h1 : (l.length : Int) ≤ k
    · have H : Hid (Ix.endL l k = -1) := by show _ = _; unfold Ix.endL; rw [if_pos (Or.inr h1)]
      have d1 : decide (k < 0) = false := decide_eq_false h0
      go_enter Tryd.func16, Tryd.ntmps16
      go_wp2_with (go_at_call 27; refine G.out.mono ?_; rintro e w2 ⟨⟨v, rfl, hr⟩, hb⟩; obtain ⟨a, c, rfl⟩ := hr.shape)
      go_ret
      exact ⟨by rw [H.out]; rfl, hb⟩
    · obtain ⟨n, rfl⟩ : ∃ n : Nat, k = n := ⟨k.toNat, by omega⟩
      have hn : n < l.length := by omega
      have hm : l[n]? = some (l.getD n 0) := by rw [List.getD_eq_getElem?_getD, List.getElem?_eq_getElem (by omega)]; rfl
      have H : Hid (Ix.endL l (n : Int) = (l.getD n 0 : Nat)) := by
        show _ = _
        unfold Ix.endL
        rw [if_neg (by omega), Int.toNat_natCast]
      have d1 : decide ((n : Int) < 0) = false := decide_eq_false (by omega)
      have d2 : decide ((l.length : Int) ≤ (n : Int)) = false := decide_eq_false (by omega)
      have HM := Lib.hid hm
      generalize l.getD n 0 = y at *
      clear h0 h1 hm
      go_enter Tryd.func16, Tryd.ntmps16
      go_wp2_with (go_at_call 27; refine G.out.mono ?_; rintro e w2 ⟨⟨v, rfl, hr⟩, hb⟩; obtain ⟨g, c, rfl, hbg, hcc, hnn⟩ := hr.nums hpos; have hcell := hnn.2 _ _ HM.out; have hgs := hnn.1; clear hr hnn)
      go_ret
      exact ⟨by rw [H.out]; rfl, hb⟩
set_option maxHeartbeats 1000000 in
theorem index_Len {B : Nat} {x : Value} {l : List Nat} {w : World} (h : Sees B x l w) :
    Calls Tryd.prog 11 #[x] w fun e w' => e = .returned (.int .i64 (l.getD (l.length - 1) 0 : Nat)) ∧ Below w.heap.size w w' := by
  have G := Lib.hid (index_Lines h)
  have hln := h.len
  have hpos := h.pos
  have G2 : Hid (∀ w1, Below w.heap.size w w1 → Calls Tryd.prog 16 #[x, .int .i64 ((l.length : Int) - 1)] w1 fun e w' => e = .returned (.int .i64 (l.getD (l.length - 1) 0 : Nat)) ∧ Below w1.heap.size w1 w') := fun w1 hb => by
    refine (index_End (h.below hb) _).mono ?_
    rintro e w' ⟨rfl, hb2⟩
    refine ⟨?_, hb2⟩
    unfold Ix.endL
    rw [if_neg (by omega), show ((l.length : Int) - 1).toNat = l.length - 1 by omega]
  clear h
  generalize l.getD (l.length - 1) 0 = y at *
  go_enter Tryd.func11, Tryd.ntmps11
  go_wp2_with (first
    | (go_at_call 12; refine G.out.mono ?_; rintro e w2 ⟨rfl, hb⟩)
    | (go_at_call 16; refine (G2.out _ hb).mono ?_; rintro e w3 ⟨rfl, hb3⟩))
  go_ret
  exact ⟨rfl, hb.trans (hb3.mono hb.size)⟩
set_option maxHeartbeats 1000000 in
theorem index_Of {B : Nat} {x : Value} {l : List Nat} {w : World} (h : Sees B x l w) (hs : l.Pairwise (· < ·)) (p : Int) :
    Calls Tryd.prog 18 #[x, .int .i64 p] w fun e w' => e = .returned (.int .i64 (Ix.ofL l p)) ∧ Below w.heap.size w w' := by
  have G := Lib.hid (h.held w (Below.refl _ _))
  have hln := h.len
  have hpos := h.pos
  clear h
  have S : Hid (∀ (g c : Nat) (w1 : World), Ix.Nums w1 g l → Calls Tryd.prog 29 #[.slice (some ⟨g, 0, none⟩) l.length c, .int .i64 p] w1 fun e w' =>
      (∃ b, e = .returned (.tuple #[.int .i64 ((l.map fun n : Nat => (n : Int)).countP (· < p) : Nat), .bool b])) ∧ Below w1.heap.size w1 w') := fun g c w1 hN => by
    have C := Tryd.slices_BinarySearch_int g 0 l.length c (l.map fun n : Nat => (n : Int)) p w1 (by simp) (by omega) (fun j hj => ?_) ?_
    · rw [List.take_of_length_le (by simp)] at C
      refine C.mono ?_
      rintro e w' ⟨rfl, q, rfl⟩
      exact ⟨⟨_, rfl⟩, below_gb (gb_drewN _ _ _)⟩
    · rw [List.length_map] at hj
      have hm : l[j]? = some (l.getD j 0) := by rw [List.getD_eq_getElem?_getD, List.getElem?_eq_getElem hj]; rfl
      have := hN.2 j _ hm
      rw [Nat.zero_add, this]
      congr 2
      simp [List.getD_eq_getElem?_getD]
      cases l[j]? <;> rfl
    · rw [List.take_of_length_le (by simp), List.pairwise_map]
      exact hs.imp (fun h => by omega)
  have hcl : (l.map fun n : Nat => (n : Int)).countP (· < p) ≤ l.length := by
    have := List.countP_le_length (p := fun x : Int => decide (x < p)) (l := l.map fun n : Nat => (n : Int))
    simpa using this
  have H : Hid (Ix.ofL l p = if p < 0 ∨ (l.map fun n : Nat => (n : Int)).countP (· < p) = l.length then (-1 : Int) else (((l.map fun n : Nat => (n : Int)).countP (· < p) : Nat) : Int)) := by show _ = _; rfl
  generalize (l.map fun n : Nat => (n : Int)).countP (· < p) = m at *
  generalize Ix.ofL l p = r at *
  by_cases h0 : p < 0
  · have d1 : decide (p < 0) = true := decide_eq_true h0
    have H1 : Hid (r = -1) := by show _ = _; rw [H.out, if_pos (Or.inl h0)]
    clear H h0
    go_enter Tryd.func18, Tryd.ntmps18
    go_wp2_with (first
      | (go_at_call 27; refine G.out.mono ?_; rintro e w2 ⟨⟨v, rfl, hr⟩, hb⟩; obtain ⟨g, c, rfl, hbg, hcc, hnn⟩ := hr.nums hpos)
      | (go_at_call 29; refine (S.out _ _ _ hnn).mono ?_; rintro e w3 ⟨⟨b, rfl⟩, hb3⟩))
    go_ret
    exact ⟨by rw [H1.out]; rfl, hb.trans (hb3.mono hb.size)⟩
  · have d1 : decide (p < 0) = false := decide_eq_false h0
    rcases Nat.lt_or_ge m l.length with hlt | hge
    · have d2 : ((m : Int) == (l.length : Int)) = false := by simp; omega
      have H1 : Hid (r = (m : Nat)) := by show _ = _; rw [H.out, if_neg (by omega)]
      clear H h0
      go_enter Tryd.func18, Tryd.ntmps18
      go_wp2_with (first
        | (go_at_call 27; refine G.out.mono ?_; rintro e w2 ⟨⟨v, rfl, hr⟩, hb⟩; obtain ⟨g, c, rfl, hbg, hcc, hnn⟩ := hr.nums hpos)
        | (go_at_call 29; refine (S.out _ _ _ hnn).mono ?_; rintro e w3 ⟨⟨b, rfl⟩, hb3⟩))
      go_ret
      exact ⟨by rw [H1.out]; rfl, hb.trans (hb3.mono hb.size)⟩
    · obtain rfl : m = l.length := by omega
      have d2 : ((l.length : Int) == (l.length : Int)) = true := by simp
      have H1 : Hid (r = -1) := by show _ = _; rw [H.out, if_pos (Or.inr rfl)]
      clear H h0
      go_enter Tryd.func18, Tryd.ntmps18
      go_wp2_with (first
        | (go_at_call 27; refine G.out.mono ?_; rintro e w2 ⟨⟨v, rfl, hr⟩, hb⟩; obtain ⟨g, c, rfl, hbg, hcc, hnn⟩ := hr.nums hpos)
        | (go_at_call 29; refine (S.out _ _ _ hnn).mono ?_; rintro e w3 ⟨⟨b, rfl⟩, hb3⟩))
      go_ret
      exact ⟨by rw [H1.out]; rfl, hb.trans (hb3.mono hb.size)⟩
end Go.Proofs.YtgjppkkifclanaaDoor
