/-
  Bytes are put behind what the second store has: add.
-/
import Derived.Test.YtjmedlnboofgdaaPart
import Derived.Deep.RegionHeld3
import Derived.Deep.RegionWith
namespace Go.Proofs.Ytjmedlnboofgdaa
open Go.RowKit
open Pc
section
variable {B p a : Nat} {vp va v' : Value} {us xs : List Value} {ps : List (List UInt8)} {w w' w2 : World}
theorem TabAt.below (h : TabAt B p vp va us xs ps a w) (hb : Below w.heap.size w w') : TabAt B p vp va us xs ps a w' := by
  have hg := gb_below none hb
  refine ⟨h.low, h.self.below hb h.self.lt, h.rows.kept hg (by cases hv : vp.ownBlock <;> simp), h.adds.kept hg (by cases hv : va.ownBlock <;> simp), h.full, fun k l hl => ?_⟩
  obtain ⟨u, hu, hp⟩ := h.each k l hl
  exact ⟨u, hu, hp.grown hg fun g cs fr _ => by simp⟩
/-- What bytes behind a store leave of the bytes that stand in memory. -/
theorem append_bytes (hown : w.ownsRow B 5 1 va a xs) (s : ByteArray) (hs : 0 < s.size) (hsz : a + s.size ≤ 140737488355328) (hB : B ≤ w.heap.size) :
    ∃ g c w', (∀ ty, (Builtin.append_ #[39, 9] ty #[va, .string s]).run Try.prog w = .ok (.slice (some ⟨g, 0, none⟩) (a + s.size) c) w') ∧ w'.ownsRow B 5 1 (.slice (some ⟨g, 0, none⟩) (a + s.size) c) (a + s.size) (xs ++ Lib.strCells s) ∧ w.grownBy w' va.ownBlock ∧
      ∀ (g' off : Nat) (l : List UInt8), BytesAt w g' off l → (va.ownBlock = some g' → off + l.length ≤ a) → BytesAt w' g' off l ∧ (g = g' → off + l.length ≤ a + s.size) := by
  obtain ⟨i0, hi, hz0, hz1, hz2⟩ := info_parts info_byte
  have hxl : xs.length = a := by have := hown.1; omega
  rcases hown.2 with ⟨rfl, rfl⟩ | ⟨g, cap, cur, rfl, hbg, hg, hnc, hcm, hcs, htake⟩
  · have hx0 : xs = [] := List.eq_nil_of_length_eq_zero hxl
    subst hx0
    have hr := fun ty => run_append_nil_string (P := Try.prog) w 39 9 ty 5 i0 (.int .u8 0) Try.underlying39 Try.underlying9 hi hz0 s hs (by omega) (by rw [hz2]; omega)
    have e1 : (s.data.map fun b => Value.int .u8 b.toNat) = (Lib.strCells s).toArray := by
      apply Array.ext'
      simp [Lib.strCells]
    rw [e1] at hr
    refine ⟨w.heap.size, _, _, fun ty => by rw [Nat.zero_add]; exact hr ty, ?_, gb_trans (gb_drew w _) (World.grownBy_alloc _ _ _), fun g' off l hb _ => ⟨hb.grown (gb_trans (gb_drew w none) (World.grownBy_alloc _ _ _)) (by simp), fun e => by have := hb.lt; omega⟩⟩
    have hge := grownCap_ge w s.size 0 5
    rw [Nat.zero_add]
    refine own_of_row (cur := ((Lib.strCells s).toArray ++ Builtin.zeroCells (Value.int .u8 0).cells (grownCap w s.size 0 5 - s.size)).toList) hB (by rw [Array.toArray_toList]; exact heap_alloc_new w.drew _) ?_ hge (grownCap_le_maxLen w s.size 0 _ (by unfold maxLen; omega)) ?_
    · rw [Array.length_toList]; simp only [Array.size_append, List.size_toArray, size_zeroCells, Lib.strCells_length, show (Value.int IntKind.u8 0).cells.size = 1 from rfl]; omega
    · rw [Array.toList_append, List.nil_append]
      rw [List.take_append_of_le_length (by simp [Lib.strCells_length])]
      exact List.take_of_length_le (by simp [Lib.strCells_length])
  · have hcs' : cur.size = cap := by simpa using hcs
    have ht' : cur.toList.take a = xs := by simpa using htake
    by_cases hroom : a + s.size ≤ cap
    · have hr := fun ty => Lib.run_append_room_string (P := Try.prog) w 39 9 ty 5 i0 Try.underlying39 Try.underlying9 hi hz1 g a cap cur hg s hroom (by omega)
      have hrow := setRow_heap w g cur (cur.toList.take a ++ Lib.strCells s ++ cur.toList.drop (a + s.size)).toArray 5 (0, 0) hg
      refine ⟨g, cap, _, hr, ?_, gb_setRow _ _ _, fun g' off l hb hf => ⟨?_, fun e => by have := hf (by simp [Value.ownBlock, e]); omega⟩⟩
      · refine own_of_row (cur := cur.toList.take a ++ Lib.strCells s ++ cur.toList.drop (a + s.size)) hbg hrow ?_ hroom hcm ?_
        · simp only [List.length_append, List.length_take, List.length_drop, Array.length_toList, Lib.strCells_length]; omega
        · rw [ht', List.take_append_of_le_length (by rw [List.length_append, hxl, Lib.strCells_length]; exact Nat.le_refl _)]
          exact List.take_of_length_le (by rw [List.length_append, hxl, Lib.strCells_length]; exact Nat.le_refl _)
      · by_cases e : g' = g
        · subst e
          have hle := hf (by simp [Value.ownBlock])
          obtain ⟨cs, fr, h1, h2⟩ := hb
          rw [hg] at h1
          injection h1 with h1
          injection h1 with h1 _ h3
          subst h1
          refine ⟨_, _, hrow, fun i b hi => ?_⟩
          have hil : i < l.length := (List.getElem?_eq_some_iff.1 hi).1
          have := h2 i b hi
          rw [List.getElem?_toArray, List.append_assoc, List.getElem?_append_left (by rw [List.length_take, Array.length_toList]; omega), List.getElem?_take, if_pos (by omega), Array.getElem?_toList]
          exact this
        · exact hb.same (setRow_other w g g' _ (fun e2 => e e2))
    · have holds : ∀ j u, xs[j]? = some u → w.cell? ((⟨g, 0, none⟩ : Addr).add j) = some u := hown.cells (g := g) rfl
      have hr := fun ty => Lib.run_append_grow_string (P := Try.prog) w 39 9 ty 5 i0 (.int .u8 0) Try.underlying39 Try.underlying9 hi hz0 ⟨g, 0, none⟩ a cap xs (by rw [hz1]; omega) holds s (by omega) (by omega) (by rw [hz2]; exact growslice_fits (by omega) (by omega))
      have hge := grownCap_ge w (a + s.size) cap 5
      refine ⟨w.heap.size, _, _, hr, ?_, gb_trans (gb_drew w _) (World.grownBy_alloc _ _ _), fun g' off l hb _ => ⟨hb.grown (gb_trans (gb_drew w none) (World.grownBy_alloc _ _ _)) (by simp), fun e => by have := hb.lt; omega⟩⟩
      refine own_of_row (cur := (xs.toArray ++ (Lib.strCells s).toArray ++ Builtin.zeroCells (Value.int .u8 0).cells (grownCap w (a + s.size) cap 5 - (a + s.size))).toList) hB (by rw [Array.toArray_toList]; exact heap_alloc_new w.drew _) ?_ hge (grownCap_le_maxLen w _ _ _ (by unfold maxLen; omega)) ?_
      · rw [Array.length_toList]; simp only [Array.size_append, List.size_toArray, size_zeroCells, Lib.strCells_length, hxl, show (Value.int IntKind.u8 0).cells.size = 1 from rfl]; omega
      · rw [Array.toList_append, Array.toList_append, List.take_append_of_le_length (by simp [Lib.strCells_length, hxl])]
        exact List.take_of_length_le (by simp [Lib.strCells_length, hxl])
theorem own_bytes {g n c : Nat} {l : List UInt8} (h : w.ownsRow B 5 1 (.slice (some ⟨g, 0, none⟩) n c) n (xs ++ Lib.byteCells l)) (hx : xs.length = a) : BytesAt w g a l := by
  obtain ⟨_, hnc, _, hl, cur, hg, hcl, ht⟩ := row_of_own h
  refine ⟨_, _, hg, fun i b hi => ?_⟩
  have hil : i < l.length := (List.getElem?_eq_some_iff.1 hi).1
  rw [List.length_append, Lib.byteCells_length, hx] at hl
  rw [List.getElem?_toArray]
  have e : (cur.take n)[a + i]? = cur[a + i]? := by rw [List.getElem?_take, if_pos (by omega)]
  rw [← e, ht, List.getElem?_append_right (by omega), hx, Nat.add_sub_cancel_left, Lib.byteCells, List.getElem?_map, hi]
  rfl
theorem TabAt.added (h : TabAt B p vp va us xs ps a w) {g c n : Nat} {ys : List Value} (ho : w2.ownsRow B 5 1 (.slice (some ⟨g, 0, none⟩) n c) n ys) (hg : w.grownBy w2 va.ownBlock)
    (hb : ∀ (g' off : Nat) (l : List UInt8), BytesAt w g' off l → (va.ownBlock = some g' → off + l.length ≤ a) → BytesAt w2 g' off l ∧ (g = g' → off + l.length ≤ n)) :
    Blk w2 p 41 #[.pointer (some ⟨p, 0, none⟩), vp, .int .i64 (ps.flatten.length : Nat), va] ∧ TabAt B p vp (.slice (some ⟨g, 0, none⟩) n c) us ys ps n (w2.setCell ⟨p, 3, none⟩ (.slice (some ⟨g, 0, none⟩) n c)) := by
  have hne : ∀ {g t cs fr}, w.heap[g]? = some (.cells cs t fr) → t ≠ 5 → some g ≠ va.ownBlock := fun {g t cs fr} hgg ht e => by
    obtain ⟨cs', hc⟩ := own_block h.adds e.symm
    unfold Blk at hc
    rw [hc] at hgg
    injection hgg with hgg
    injection hgg with _ hgg
    exact ht hgg.symm
  have h1 := h.self.grown hg (hne h.self (by decide))
  refine ⟨h1, ⟨h.low, by simpa using h1.set_ 3 (.slice (some ⟨g, 0, none⟩) n c), own_set (h.rows.kept hg ?_) h1 (by decide), own_set ho h1 (by decide), h.full, fun k l hk => ?_⟩⟩
  · cases hv : vp.ownBlock with
    | none => exact Or.inl rfl
    | some q =>
      obtain ⟨cs, hc⟩ := own_block h.rows hv
      exact Or.inr (hne hc (by decide))
  · obtain ⟨u, e1, g', off, rfl, e2, e3⟩ := h.each k l hk
    obtain ⟨e4, e5⟩ := hb g' off l e2 e3
    exact ⟨_, e1, PieceAt.set_ ⟨g', off, rfl, e4, fun e => e5 (by simpa [Value.ownBlock] using e)⟩ h1 (by decide)⟩
/-- A block of a piece that is none of the table's list may be written. -/
theorem TabAt.aside (h : TabAt B p vp va us xs ps a w) {q i : Nat} {v : Value} {cs : Array Value} (k : Blk w q 50 cs) (hq : vp.ownBlock ≠ some q) : TabAt B p vp va us xs ps a (w.setCell ⟨q, i, none⟩ v) := by
  refine ⟨h.low, h.self.far (p := ⟨q, i, none⟩) (h.self.ne_ k (by decide)) v, h.rows.kept (gb_set w q i v) (Or.inr hq), own_set h.adds k (by decide), h.full, fun j l hl => ?_⟩
  obtain ⟨u, hu, hp⟩ := h.each j l hl
  exact ⟨u, hu, hp.set_ k (by decide)⟩
end
set_option maxHeartbeats 1000000 in
set_option maxRecDepth 100000 in
theorem tab_add {B p a : Nat} {vp va : Value} {us xs : List Value} {ps : List (List UInt8)} {w : World} (hB : B ≤ w.heap.size) (h : TabAt B p vp va us xs ps a w) (s : ByteArray) (hs : 0 < s.size) (hsz : a + s.size ≤ 140737488355328) :
    Calls Try.prog 32 #[.pointer (some ⟨p, 0, none⟩), .string s] w fun e w' => ∃ u va' xs', e = .returned (.agg #[u]) ∧ TabAt B p vp va' us xs' ps (a + s.size) w' ∧ PieceAt w' va' (a + s.size) u s.data.toList ∧ Keeps B w w' := by
  have hb1 : Below w.heap.size w (w.alloc (.cells #[.slice none 0 0] 50)) := (Below.refl _ w).alloc (Nat.le_refl _) _
  have h1 := h.below hb1
  have hxl : xs.length = a := by have := h.adds.1; omega
  obtain ⟨g, c, w2, hr, ho, hg, hby⟩ := append_bytes h1.adds s hs hsz (by have := hb1.size; omega)
  obtain ⟨k1, hT⟩ := h1.added ho hg hby
  have hbs : BytesAt w2 g a s.data.toList := own_bytes (l := s.data.toList) ho hxl
  have hc : a + s.size ≤ c := (row_of_own ho).2.1
  have hT0 := hT.self
  have hbs2 : BytesAt (w2.setCell ⟨p, 3, none⟩ (.slice (some ⟨g, 0, none⟩) (a + s.size) c)) g a s.data.toList := hbs.grown (gb_set w2 p 3 _) (fun e => hbs.ne_ k1 (by decide) (by injection e))
  have hK : Keeps B w (w2.setCell ⟨p, 3, none⟩ (.slice (some ⟨g, 0, none⟩) (a + s.size) c)) :=
    ((Keeps.of_below hB hb1).trans (Keeps.of_own (by have := hb1.size; omega) h1.adds (Or.inr (Or.inr rfl)) hg)).trans (Keeps.of_row (by have := hb1.size; have := hg.size; omega) h.low k1 (Or.inl rfl) rfl (gb_set _ p 3 _))
  have hcell : Blk (w2.setCell ⟨p, 3, none⟩ (.slice (some ⟨g, 0, none⟩) (a + s.size) c)) w.heap.size 50 #[.slice none 0 0] := by
    refine ((Blk.new w 50 #[.slice none 0 0]).grown hg fun e => ?_).far (p := ⟨p, 3, none⟩) (by have := h.self.lt; show w.heap.size ≠ p; omega) _
    obtain ⟨cs, hc⟩ := own_block h1.adds e.symm
    exact Blk.ne_ (Blk.new w 50 #[.slice none 0 0]) hc (by decide) rfl
  have c3 := h1.self.cell 3
  have c3' := k1.cell 3
  have z3' := k1.frozen 3
  simp at c3 c3'
  have hp0 : p ≠ w.heap.size := by have := h.self.lt; omega
  have hvp : vp.ownBlock ≠ some w.heap.size := fun e => by have := (h.rows.lt _ e).2; omega
  obtain ⟨aa, cc, rfl⟩ := own_shape h.adds
  have H := Lib.hid hT
  have P := pc_part g 0 (a + s.size) c a (a + s.size)
  rw [Nat.zero_add, Nat.add_sub_cancel_left, show ((a + s.size : Nat) : Int) = (a : Int) + (s.size : Int) by omega] at P
  have P1 := Lib.hid (fun u => P u (by omega) hc)
  have hX3 := hT0.cell 3
  simp at hX3
  clear hT hT0 h h1 hxl ho hg hby hbs k1 hb1 P
  go_enter Try.func32, Try.ntmps32
  go_wp2_with (at_builtin; refine Lib.wpList_append_run _ rfl _ _ _ _ rfl _ _ rfl rfl _ _ (hr _) ?_)
  clear hr c3 c3' z3'
  generalize w2.setCell ⟨p, 3, none⟩ (.slice (some ⟨g, 0, none⟩) (a + s.size) c) = X at *
  have FIN : Hid (∀ w5, Below X.heap.size X w5 → w5.cell? ⟨p, 3, none⟩ = some (.slice (some ⟨g, 0, none⟩) (a + s.size) c) ∧ w5.cell? ⟨w.heap.size, 0, none⟩ = some (.slice none 0 0) ∧ w5.frozen? ⟨w.heap.size, 0, none⟩ = false ∧ (w5.setCell ⟨w.heap.size, 0, none⟩ (.slice (some ⟨g, a, none⟩) s.size s.size)).cell? ⟨p, 3, none⟩ = some (.slice (some ⟨g, 0, none⟩) (a + s.size) c) ∧
      Hid (Blk (w5.setCell ⟨w.heap.size, 0, none⟩ (.slice (some ⟨g, a, none⟩) s.size s.size)) w.heap.size 50 #[.slice (some ⟨g, a, none⟩) s.size s.size]) ∧
      Hid (TabAt B p vp (.slice (some ⟨g, 0, none⟩) (a + s.size) c) us (xs ++ Lib.strCells s) ps (a + s.size) (w5.setCell ⟨w.heap.size, 0, none⟩ (.slice (some ⟨g, a, none⟩) s.size s.size))) ∧
      Hid (PieceAt (w5.setCell ⟨w.heap.size, 0, none⟩ (.slice (some ⟨g, a, none⟩) s.size s.size)) (.slice (some ⟨g, 0, none⟩) (a + s.size) c) (a + s.size) (.slice (some ⟨g, a, none⟩) s.size s.size) s.data.toList) ∧
      Hid (Keeps B w (w5.setCell ⟨w.heap.size, 0, none⟩ (.slice (some ⟨g, a, none⟩) s.size s.size)))) := fun w5 hb5 => by
    have h5 := H.out.below hb5
    have k5 := hcell.below hb5 hcell.lt
    have c5 := h5.self.cell 3
    have d5 := k5.cell 0
    simp at c5 d5
    have e5 := (h5.aside (i := 0) (v := .slice (some ⟨g, a, none⟩) s.size s.size) k5 hvp).self.cell 3
    simp at e5
    refine ⟨c5, d5, k5.frozen 0, ?_, ?_, h5.aside k5 hvp, ?_, ?_⟩
    · simpa using e5
    · have := k5.set_ 0 (.slice (some ⟨g, a, none⟩) s.size s.size)
      show Blk _ _ _ _
      simpa using this
    · refine PieceAt.set_ ⟨g, a, by rw [data_len], hbs2.grown (gb_below none hb5) (by simp), fun _ => by rw [data_len]; exact Nat.le_refl _⟩ k5 (by decide)
    · exact (hK.trans (Keeps.of_below (Nat.le_trans hB hK.size) hb5)).trans (Keeps.of_row (by have := hK.size; have := hb5.size; omega) hB k5 (Or.inr (Or.inl rfl)) rfl (gb_set _ _ 0 _))
  clear hcell hbs2 hK H hvp
  go_region_held3 (fun u => u.cell? ⟨p, 3, none⟩ = some (.slice (some ⟨g, 0, none⟩) (a + s.size) c)) (first | assumption | go_keep)
    (first
      | (go_at_call 23; refine (P1.out _).mono ?_; rintro e w5 ⟨rfl, hb5⟩; obtain ⟨f1, f2, f3, f8, f4, f5, f6, f7⟩ := FIN.out w5 ((Below.refl _ _).drew.trans hb5)))
  all_goals
    go_wp2
    exact bodyPost_ret (v := .agg #[.slice (some ⟨g, a, none⟩) s.size s.size]) (results_cell_row rfl _ _ w.heap.size 50 #[.slice (some ⟨g, a, none⟩) s.size s.size] (0, 0) _ rfl f4.out Try.underlying50 rfl rfl) rfl ⟨_, _, _, rfl, f5.out, f6.out, f7.out⟩
end Go.Proofs.Ytjmedlnboofgdaa
