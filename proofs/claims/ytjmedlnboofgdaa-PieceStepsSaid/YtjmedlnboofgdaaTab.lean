/-
  A table in memory: its pieces, its stores; what only looks at it: given, held, Len, fits, Added, Pieces.
-/
import Derived.Test.YtjmedlnboofgdaaBase
import Derived.LaidEqlPtr
namespace Go.Proofs.Ytjmedlnboofgdaa
open Go.RowKit
/-- Bytes stand in block g from off on. -/
def BytesAt (w : World) (g off : Nat) (l : List UInt8) : Prop := ∃ (cs : Array Value) (fr : Nat × Nat), w.heap[g]? = some (.cells cs 5 fr) ∧ ∀ (i : Nat) (b : UInt8), l[i]? = some b → cs[off + i]? = some (Value.int .u8 (b.toNat : Int))
/-- u is a piece of the bytes l; a is how many bytes the second store, at va, has. -/
def PieceAt (w : World) (va : Value) (a : Nat) (u : Value) (l : List UInt8) : Prop :=
  ∃ g off, u = .slice (some ⟨g, off, none⟩) l.length l.length ∧ BytesAt w g off l ∧ (va.ownBlock = some g → off + l.length ≤ a)
structure TabAt (B p : Nat) (vp va : Value) (us xs : List Value) (ps : List (List UInt8)) (a : Nat) (w : World) : Prop where
  low : B ≤ p
  self : Blk w p 41 #[.pointer (some ⟨p, 0, none⟩), vp, .int .i64 (ps.flatten.length : Nat), va]
  rows : w.ownsRow B 50 1 vp ps.length us
  adds : w.ownsRow B 5 1 va a xs
  full : ∀ l ∈ ps, l ≠ []
  each : ∀ (k : Nat) (l : List UInt8), ps[k]? = some l → ∃ u, us[k]? = some u ∧ PieceAt w va a u l
/-- A table that New gave stands at block p, with these pieces; a bytes were put in. -/
def Tab (B p : Nat) (ps : List (List UInt8)) (a : Nat) (w : World) : Prop := ∃ vp va us xs, TabAt B p vp va us xs ps a w
/-- A table that New did not give: no part of it was ever written. -/
def Zero (B p : Nat) (w : World) : Prop := B ≤ p ∧ Blk w p 41 #[.pointer none, .slice none 0 0, .int .i64 0, .slice none 0 0]
section
variable {w w' : World} {B p g off a : Nat} {l : List UInt8} {va u : Value} {ps : List (List UInt8)}
theorem BytesAt.lt (h : BytesAt w g off l) : g < w.heap.size := by
  obtain ⟨cs, fr, h1, _⟩ := h
  rcases Nat.lt_or_ge g w.heap.size with hlt | hge
  · exact hlt
  · rw [Array.getElem?_eq_none hge] at h1; cases h1
theorem BytesAt.same (h : BytesAt w g off l) (hb : w'.heap[g]? = w.heap[g]?) : BytesAt w' g off l := by
  obtain ⟨cs, fr, h1, h2⟩ := h
  exact ⟨cs, fr, hb.trans h1, h2⟩
theorem BytesAt.grown {r : Option Nat} (h : BytesAt w g off l) (hb : w.grownBy w' r) (hr : some g ≠ r) : BytesAt w' g off l := h.same (hb.block g h.lt hr)
theorem BytesAt.cell (h : BytesAt w g off l) {i : Nat} {b : UInt8} (hi : l[i]? = some b) : w.cell? ⟨g, off + i, none⟩ = some (.int .u8 (b.toNat : Int)) := by
  obtain ⟨cs, fr, h1, h2⟩ := h
  rw [cell_of_row w g (off + i) cs _ _ h1]
  exact h2 i b hi
theorem BytesAt.ne_ {t : TypeId} {cs : Array Value} (h : BytesAt w g off l) {q : Nat} (k : Blk w q t cs) (ht : t ≠ 5) : g ≠ q := by
  rintro rfl
  obtain ⟨cs', fr, h1, _⟩ := h
  unfold Blk at k
  rw [k] at h1
  injection h1 with h1
  injection h1 with _ h2
  exact ht h2
/-- A part of bytes that stand there. -/
theorem BytesAt.part (h : BytesAt w g off l) (i n : Nat) : BytesAt w g (off + i) ((l.drop i).take n) := by
  obtain ⟨cs, fr, h1, h2⟩ := h
  refine ⟨cs, fr, h1, fun j b hj => ?_⟩
  rw [List.getElem?_take] at hj
  split at hj
  · rw [List.getElem?_drop] at hj
    rw [Nat.add_assoc]
    exact h2 _ _ hj
  · cases hj
theorem PieceAt.grown {r : Option Nat} (h : PieceAt w va a u l) (hb : w.grownBy w' r) (hr : ∀ g cs fr, w.heap[g]? = some (.cells cs 5 fr) → some g ≠ r) : PieceAt w' va a u l := by
  obtain ⟨g, off, rfl, h1, h2⟩ := h
  obtain ⟨cs, fr, h3, h4⟩ := h1
  exact ⟨g, off, rfl, BytesAt.grown ⟨cs, fr, h3, h4⟩ hb (hr g cs fr h3), h2⟩
theorem own_block {e : TypeId} {size n : Nat} {v : Value} {xs : List Value} (h : w.ownsRow B e size v n xs) (hg : v.ownBlock = some g) : ∃ cs, Blk w g e cs := by
  rcases h.2 with ⟨rfl, _⟩ | ⟨g', cap, cur, rfl, _, hh, _⟩
  · simp [Value.ownBlock] at hg
  · have : g' = g := by simpa [Value.ownBlock] using hg
    subst this
    exact ⟨_, hh⟩
/-- A table stays where a block of none of its types, or no block, is written. -/
theorem Tab.grown {r : Option Nat} (h : Tab B p ps a w) (hb : w.grownBy w' r) (hr : ∀ g t cs fr, w.heap[g]? = some (.cells cs t fr) → t = 41 ∨ t = 50 ∨ t = 5 → some g ≠ r) : Tab B p ps a w' := by
  obtain ⟨vp, va, us, xs, h⟩ := h
  have hk : ∀ {v : Value} {e n xs}, w.ownsRow B e 1 v n xs → (e = 41 ∨ e = 50 ∨ e = 5) → v.ownBlock = none ∨ v.ownBlock ≠ r := fun {v e n xs} ho he => by
    cases hv : v.ownBlock with
    | none => exact Or.inl rfl
    | some g =>
      obtain ⟨cs, hc⟩ := own_block ho hv
      exact Or.inr (hr g _ _ _ hc he)
  refine ⟨vp, va, us, xs, h.low, h.self.grown hb (hr p _ _ _ h.self (Or.inl rfl)), h.rows.kept hb (hk h.rows (Or.inr (Or.inl rfl))), h.adds.kept hb (hk h.adds (Or.inr (Or.inr rfl))), h.full, fun k l hl => ?_⟩
  obtain ⟨u, hu, hp⟩ := h.each k l hl
  exact ⟨u, hu, hp.grown hb fun g cs fr hg => hr g _ _ _ hg (Or.inr (Or.inr rfl))⟩
theorem Tab.below (h : Tab B p ps a w) (hb : Below w.heap.size w w') : Tab B p ps a w' := h.grown (gb_below none hb) (by simp)
theorem Tab.other {q : Nat} {t : TypeId} {cs : Array Value} (h : Tab B p ps a w) (k : Blk w q t cs) (h0 : t ≠ 41) (h1 : t ≠ 50) (h2 : t ≠ 5) (hb : w.grownBy w' (some q)) : Tab B p ps a w' :=
  h.grown hb fun g t' cs' fr hg ht e => by
    injection e with e
    subst e
    unfold Blk at k
    rw [k] at hg
    injection hg with hg
    injection hg with _ hg
    subst hg
    rcases ht with h | h | h
    · exact h0 h
    · exact h1 h
    · exact h2 h
theorem Tab.lt (h : Tab B p ps a w) : p < w.heap.size := by
  obtain ⟨_, _, _, _, h⟩ := h
  exact h.self.lt
theorem Zero.below (h : Zero B p w) (hb : Below w.heap.size w w') : Zero B p w' := ⟨h.1, h.2.below hb h.2.lt⟩
end
/-- What a table's function leaves of the rest: nothing is written but tables, lists of pieces, and bytes. -/
structure Keeps (B : Nat) (w w' : World) : Prop where
  below : Below B w w'
  keep : ∀ g t cs, Blk w g t cs → t ≠ 41 → t ≠ 50 → t ≠ 5 → Blk w' g t cs
section
variable {w w' w2 : World} {B : Nat}
theorem Keeps.refl (B : Nat) (w : World) : Keeps B w w := ⟨Below.refl B w, fun _ _ _ h _ _ _ => h⟩
theorem Keeps.trans (h : Keeps B w w') (k : Keeps B w' w2) : Keeps B w w2 := ⟨h.below.trans k.below, fun g t cs hb h0 h1 h2 => k.keep g t cs (h.keep g t cs hb h0 h1 h2) h0 h1 h2⟩
theorem Keeps.size (h : Keeps B w w') : w.heap.size ≤ w'.heap.size := h.below.size
theorem Keeps.of_below (hB : B ≤ w.heap.size) (h : Below w.heap.size w w') : Keeps B w w' := ⟨h.mono hB, fun _ _ _ hb _ _ _ => hb.below h hb.lt⟩
theorem Keeps.of_row {t : TypeId} {cs : Array Value} {q : Nat} {r : Option Nat} (hB : B ≤ w.heap.size) (hq : B ≤ q) (k : Blk w q t cs) (ht : t = 41 ∨ t = 50 ∨ t = 5) (hr : r = some q) (h : w.grownBy w' r) : Keeps B w w' := by
  subst hr
  refine ⟨(Below.refl B w).grown h hB (fun k hk => by injection hk with hk; omega), fun g t' cs' hb h0 h1 h2 => hb.grown h fun e => ?_⟩
  injection e with e
  subst e
  unfold Blk at k hb
  rw [k] at hb
  injection hb with hb
  injection hb with _ hb
  subst hb
  rcases ht with h | h | h
  · exact h0 h
  · exact h1 h
  · exact h2 h
theorem Keeps.of_own {e : TypeId} {v : Value} {n : Nat} {xs : List Value} (hB : B ≤ w.heap.size) (ho : w.ownsRow B e 1 v n xs) (ht : e = 41 ∨ e = 50 ∨ e = 5) (h : w.grownBy w' v.ownBlock) : Keeps B w w' := by
  cases hv : v.ownBlock with
  | none => rw [hv] at h; exact Keeps.of_below hB (below_gb h)
  | some g =>
    obtain ⟨cs, hc⟩ := own_block ho hv
    rw [hv] at h
    exact Keeps.of_row hB (ho.lt g hv).1 hc ht rfl h
end
theorem info_tab : ∃ j, Try.prog.info? 41 = some j := Option.isSome_iff_exists.1 (by kernel_rfl)
theorem run_eql_nil_some {P : Program} (w : World) (t u : TypeId) (a : Addr) (h : P.underlying t = some (.pointer u)) :
    (binOp .eql t (.pointer none) (.pointer (some a))).run P w = .ok (.bool false) w := by
  have h : ∀ d : Nat, (Op.equalIn (d + 1) t (.pointer none) (.pointer (some a))).run P w = .ok false w := fun d => by
    simp [Op.equalIn, run_underlying h]
  simp only [binOp]
  simp [Op.equal, Op.maxDepth, h 9999]
set_option maxHeartbeats 400000 in
theorem tab_given {p : Nat} {v1 v2 v3 : Value} {w : World} (h : Blk w p 41 #[.pointer (some ⟨p, 0, none⟩), v1, v2, v3]) :
    Calls Try.prog 20 #[.pointer (some ⟨p, 0, none⟩)] w fun e w' => e = .returned (.bool true) ∧ w = w' := by
  obtain ⟨j, hj⟩ := info_tab
  have k0 := h.cell 0
  simp at k0
  have hn := fun w : World => run_eql_ptr_same (P := Try.prog) (w := w) ⟨p, 0, none⟩ Try.underlying25 hj
  go_enter Try.func20, Try.ntmps20
  go_wp2
  go_ret
  exact ⟨rfl, rfl⟩
set_option maxHeartbeats 400000 in
theorem zero_given {p : Nat} {v1 v2 v3 : Value} {w : World} (h : Blk w p 41 #[.pointer none, v1, v2, v3]) :
    Calls Try.prog 20 #[.pointer (some ⟨p, 0, none⟩)] w fun e w' => e = .returned (.bool false) ∧ w = w' := by
  have k0 := h.cell 0
  simp at k0
  have hn := fun w : World => run_eql_nil_some (P := Try.prog) w 25 41 ⟨p, 0, none⟩ Try.underlying25
  go_enter Try.func20, Try.ntmps20
  go_wp2
  go_ret
  exact ⟨rfl, rfl⟩
set_option maxHeartbeats 400000 in
theorem none_given (w : World) :
    Calls Try.prog 20 #[.pointer none] w fun e w' => e = .returned (.bool false) ∧ w = w' := by
  go_enter Try.func20, Try.ntmps20
  go_wp2
  go_ret
  exact ⟨rfl, rfl⟩
/-- What only looks: which list of pieces a pointer's table has, and how many bytes. -/
structure Looks (x : Value) (vp : Value) (n : Nat) (w : World) : Prop where
  len : ∀ w1, Below w.heap.size w w1 → Calls Try.prog 9 #[x] w1 fun e w' => e = .returned (.int .i64 n) ∧ w1 = w'
  held : ∀ w1, Below w.heap.size w w1 → Calls Try.prog 22 #[x] w1 fun e w' => e = .returned vp ∧ w1 = w'
theorem Looks.below {x vp : Value} {n : Nat} {w w' : World} (h : Looks x vp n w) (hb : Below w.heap.size w w') : Looks x vp n w' :=
  ⟨fun w1 h1 => h.len w1 (hb.trans (h1.mono hb.size)), fun w1 h1 => h.held w1 (hb.trans (h1.mono hb.size))⟩
set_option maxHeartbeats 400000 in
theorem tab_looks {p n : Nat} {vp v3 : Value} {w : World} (h : Blk w p 41 #[.pointer (some ⟨p, 0, none⟩), vp, .int .i64 n, v3]) : Looks (.pointer (some ⟨p, 0, none⟩)) vp n w := by
  refine ⟨fun w1 hb => ?_, fun w1 hb => ?_⟩
  · have h1 := h.below hb h.lt
    have G := Lib.hid (tab_given h1)
    have k2 := h1.cell 2
    simp at k2
    clear h h1 hb
    go_enter Try.func9, Try.ntmps9
    go_wp2_with (go_at_call 20; refine G.out.mono ?_; rintro e w2 ⟨rfl, rfl⟩)
    go_ret
    exact ⟨rfl, rfl⟩
  · have h1 := h.below hb h.lt
    have G := Lib.hid (tab_given h1)
    have k2 := h1.cell 1
    simp at k2
    clear h h1 hb
    go_enter Try.func22, Try.ntmps22
    go_wp2_with (go_at_call 20; refine G.out.mono ?_; rintro e w2 ⟨rfl, rfl⟩)
    go_ret
    exact ⟨rfl, rfl⟩
set_option maxHeartbeats 400000 in
theorem not_looks {x : Value} {w : World} (hx : ∀ w1, Below w.heap.size w w1 → Calls Try.prog 20 #[x] w1 fun e w' => e = .returned (.bool false) ∧ w1 = w') : Looks x (.slice none 0 0) 0 w := by
  refine ⟨fun w1 hb => ?_, fun w1 hb => ?_⟩
  · have G := Lib.hid (hx w1 hb)
    clear hx hb
    go_enter Try.func9, Try.ntmps9
    go_wp2_with (go_at_call 20; refine G.out.mono ?_; rintro e w2 ⟨rfl, rfl⟩)
    go_ret
    exact ⟨rfl, rfl⟩
  · have G := Lib.hid (hx w1 hb)
    clear hx hb
    go_enter Try.func22, Try.ntmps22
    go_wp2_with (go_at_call 20; refine G.out.mono ?_; rintro e w2 ⟨rfl, rfl⟩)
    go_ret
    exact ⟨rfl, rfl⟩
theorem zero_looks {B p : Nat} {w : World} (h : Zero B p w) : Looks (.pointer (some ⟨p, 0, none⟩)) (.slice none 0 0) 0 w := not_looks fun _ hb => zero_given (h.below hb).2
theorem none_looks (w : World) : Looks (.pointer none) (.slice none 0 0) 0 w := not_looks fun w1 _ => none_given w1
set_option maxHeartbeats 400000 in
theorem tab_pieces {x vp : Value} {n m : Nat} {w : World} (h : Looks x vp n w) (hm : ∃ a c, vp = .slice a m c) :
    Calls Try.prog 12 #[x] w fun e w' => e = .returned (.int .i64 m) ∧ w = w' := by
  obtain ⟨a, c, rfl⟩ := hm
  have G := Lib.hid (h.held w (Below.refl _ _))
  clear h
  go_enter Try.func12, Try.ntmps12
  go_wp2_with (go_at_call 22; refine G.out.mono ?_; rintro e w2 ⟨rfl, rfl⟩)
  go_ret
  exact ⟨rfl, rfl⟩
set_option maxHeartbeats 400000 in
theorem tab_fits {x vp : Value} {n : Nat} {w : World} (h : Looks x vp n w) (i j : Int) :
    Calls Try.prog 25 #[x, .int .i64 i, .int .i64 j] w fun e w' => e = .returned (.bool (decide (0 ≤ i ∧ i ≤ j ∧ j ≤ n))) ∧ w = w' := by
  have G := Lib.hid (h.len w (Below.refl _ _))
  clear h
  by_cases h1 : 0 ≤ i
  · by_cases h2 : i ≤ j
    · have d1 : decide (0 ≤ i) = true := decide_eq_true h1
      have d2 : decide (i ≤ j) = true := decide_eq_true h2
      have H : Hid (decide (0 ≤ i ∧ i ≤ j ∧ j ≤ n) = decide (j ≤ n)) := by show _ = _; simp [h1, h2]
      clear h1 h2
      go_enter Try.func25, Try.ntmps25
      go_wp2_with (go_at_call 9; refine G.out.mono ?_; rintro e w2 ⟨rfl, rfl⟩)
      go_ret
      exact ⟨by rw [H.out]; rfl, rfl⟩
    · have d1 : decide (0 ≤ i) = true := decide_eq_true h1
      have d2 : decide (i ≤ j) = false := decide_eq_false h2
      have H : Hid (decide (0 ≤ i ∧ i ≤ j ∧ j ≤ n) = false) := by show _ = _; simp [h2]
      clear h1 h2
      go_enter Try.func25, Try.ntmps25
      go_wp2
      go_ret
      exact ⟨by rw [H.out]; rfl, rfl⟩
  · have d1 : decide (0 ≤ i) = false := decide_eq_false h1
    have H : Hid (decide (0 ≤ i ∧ i ≤ j ∧ j ≤ n) = false) := by show _ = _; simp [h1]
    clear h1
    go_enter Try.func25, Try.ntmps25
    go_wp2
    go_ret
    exact ⟨by rw [H.out]; rfl, rfl⟩
set_option maxHeartbeats 400000 in
theorem tab_added {B p a : Nat} {ps : List (List UInt8)} {w : World} (h : Tab B p ps a w) :
    Calls Try.prog 10 #[.pointer (some ⟨p, 0, none⟩)] w fun e w' => e = .returned (.int .i64 a) ∧ w = w' := by
  obtain ⟨vp, va, us, xs, h⟩ := h
  have G := Lib.hid (tab_given h.self)
  have k2 := h.self.cell 3
  simp at k2
  obtain ⟨a0, c, rfl⟩ := own_shape h.adds
  clear h
  go_enter Try.func10, Try.ntmps10
  go_wp2_with (go_at_call 20; refine G.out.mono ?_; rintro e w2 ⟨rfl, rfl⟩)
  go_ret
  exact ⟨rfl, rfl⟩
set_option maxHeartbeats 400000 in
theorem none_added (w : World) :
    Calls Try.prog 10 #[.pointer none] w fun e w' => e = .returned (.int .i64 0) ∧ w = w' := by
  go_enter Try.func10, Try.ntmps10
  go_wp2_with (go_at_call 20; refine (none_given _).mono ?_; rintro e w2 ⟨rfl, rfl⟩)
  go_ret
  exact ⟨rfl, rfl⟩
end Go.Proofs.Ytjmedlnboofgdaa
