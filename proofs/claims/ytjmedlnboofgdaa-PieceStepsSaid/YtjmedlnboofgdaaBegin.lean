/-
  A table begins: part, begin, New.
-/
import Derived.Test.YtjmedlnboofgdaaSlice
import Derived.Test.YtjmedlnboofgdaaHeld
import Derived.Test.YtjmedlnboofgdaaCells
namespace Go.Proofs.Ytjmedlnboofgdaa
open Go.RowKit
open Pc
set_option maxHeartbeats 400000 in
theorem pc_part (g off n c f t : Nat) (w : World) (hft : f < t) (htc : t ≤ c) :
    Calls Try.prog 23 #[.slice (some ⟨g, off, none⟩) n c, .int .i64 f, .int .i64 t] w fun e w' => e = .returned (.agg #[.slice (some ⟨g, off + f, none⟩) (t - f) (t - f)]) ∧ Below w.heap.size w w' := by
  have h1 : ¬ (t = f) := by omega
  have h2 : f ≤ t := by omega
  go_enter Try.func23, Try.ntmps23
  go_wp2
  exact bodyPost_ret (v := .agg #[.slice (some ⟨g, off + f, none⟩) (t - f) (t - f)]) (results_cell_row rfl _ _ w.heap.size 50 #[.slice (some ⟨g, off + f, none⟩) (t - f) (t - f)] (0, 0) _ rfl (Blk.new w _ _) Try.underlying50 rfl rfl) rfl ⟨rfl, (Below.refl _ w).alloc (Nat.le_refl _) _⟩
namespace Pc
/-- The pieces of a table that was just begun. -/
def one (l : List UInt8) : List (List UInt8) := if l = [] then [] else [l]
theorem one_flat (l : List UInt8) : (one l).flatten = l := by
  unfold one
  split
  · rename_i h; rw [h]; rfl
  · simp
theorem one_le (l : List UInt8) : (one l).length ≤ 1 := by unfold one; split <;> simp
end Pc
theorem bytes_at {w : World} {g : Nat} {l : List UInt8} (h : Held8 w g l) : BytesAt w g 0 l := by
  obtain ⟨cs, m, h1, _, h2⟩ := h
  exact ⟨cs, _, h1, fun i b hb => by rw [Nat.zero_add]; exact h2 i b hb⟩
theorem toList_data (s : ByteArray) : s.toList = s.data.toList := by have := bs_tl s.data.toList; rwa [bs_data] at this
/-- The four cells of a table that was just begun. -/
theorem begin_cells {p : Nat} {a0 a1 a2 a3 : Value} {w : World} (hp : Blk w p 41 #[a0, a1, a2, a3]) (v0 v1 v2 v3 : Value) :
    Blk ((((w.setCell ⟨p, 0, none⟩ v0).setCell ⟨p, 1, none⟩ v1).setCell ⟨p, 2, none⟩ v2).setCell ⟨p, 3, none⟩ v3) p 41 #[v0, v1, v2, v3] ∧
      w.grownBy ((((w.setCell ⟨p, 0, none⟩ v0).setCell ⟨p, 1, none⟩ v1).setCell ⟨p, 2, none⟩ v2).setCell ⟨p, 3, none⟩ v3) (some p) := by
  refine ⟨?_, gb_trans (gb_trans (gb_trans (gb_set w p 0 _) (gb_set _ p 1 _)) (gb_set _ p 2 _)) (gb_set _ p 3 _)⟩
  have := (((hp.set_ 0 v0).set_ 1 v1).set_ 2 v2).set_ 3 v3
  simpa using this
set_option maxHeartbeats 1000000 in
set_option maxRecDepth 100000 in
theorem pc_begin {B p : Nat} {a0 a1 a2 a3 : Value} (s : ByteArray) {w : World} (hB : B ≤ w.heap.size) (hBp : B ≤ p) (hp : Blk w p 41 #[a0, a1, a2, a3]) :
    Calls Try.prog 13 #[.pointer (some ⟨p, 0, none⟩), .string s] w fun e w' => e = .returned (.tuple #[]) ∧ Tab B p (one s.data.toList) 0 w' ∧ Keeps B w w' := by
  have c0 := hp.cell 0
  have c1 := hp.cell 1
  have c2 := hp.cell 2
  have c3 := hp.cell 3
  have z0 := hp.frozen 0
  have z1 := hp.frozen 1
  have z2 := hp.frozen 2
  have z3 := hp.frozen 3
  have hlt := hp.lt
  simp at c0 c1 c2 c3
  have H4 := Lib.hid (fun v0 v1 v2 v3 => begin_cells hp v0 v1 v2 v3)
  have HP := Lib.hid hp
  by_cases he : s.data.toList = []
  · rw [one, if_pos he]
    have g1 : s.toList.isEmpty = true := by rw [toList_data, he]; rfl
    have hsz : s.size = 0 := by rw [← data_len, he]; rfl
    clear he hp
    go_enter Try.func13, Try.ntmps13
    go_wp2
    go_end0
    obtain ⟨h1, h2⟩ := H4.out (.pointer (some ⟨p, 0, none⟩)) (.slice none 0 0) (.int .i64 0) (.slice none 0 0)
    refine ⟨rfl, ⟨.slice none 0 0, .slice none 0 0, [], [], ⟨hBp, ?_, World.ownsRow_nil _ _ _ _, World.ownsRow_nil _ _ _ _, by simp, by simp⟩⟩, Keeps.of_row hB hBp HP.out (Or.inl rfl) rfl h2⟩
    exact h1
  · rw [one, if_neg he]
    have g1 : s.toList.isEmpty = false := by rw [toList_data]; simpa using he
    have hsz : 0 < s.size := by rw [← data_len]; exact List.length_pos_iff.2 he
    have hcv := fun w => run_bytes_of_string (P := Try.prog) w 9 39 5 s Try.underlying9 Try.underlying39 Try.underlying5
    have HE := Lib.hid he
    clear he hp
    go_enter Try.func13, Try.ntmps13
    go_wp2_with fail
    obtain ⟨h1, h2⟩ := H4.out (.pointer (some ⟨p, 0, none⟩)) (.slice none 0 0) (.int .i64 s.size) (.slice none 0 0)
    clear hcv H4
    generalize hX : ((((w.setCell ⟨p, 0, none⟩ (.pointer (some ⟨p, 0, none⟩))).setCell ⟨p, 1, none⟩ (.slice none 0 0)).setCell ⟨p, 2, none⟩ (.int .i64 s.size)).setCell ⟨p, 3, none⟩ (.slice none 0 0)) = X at h1 h2 ⊢
    have hXs : X.heap.size = w.heap.size := by rw [← hX]; simp [World.setCell]
    have hH := Held8.made X s (grownCap X s.size 0 5)
    have hcap := grownCap_ge X s.size 0 5
    rw [hXs] at hH
    have hY1 := (h1.alloc (.cells (bytesRow s (grownCap X s.size 0 5)) 5 ((bytesRow s (grownCap X s.size 0 5)).size, (bytesRow s (grownCap X s.size 0 5)).size + 1))).drew
    have hY2 := gb_trans h2 (gb_trans (World.grownBy_alloc X (.cells (bytesRow s (grownCap X s.size 0 5)) 5 ((bytesRow s (grownCap X s.size 0 5)).size, (bytesRow s (grownCap X s.size 0 5)).size + 1)) (some p)) (gb_drew _ _))
    generalize (X.alloc (.cells (bytesRow s (grownCap X s.size 0 5)) 5 ((bytesRow s (grownCap X s.size 0 5)).size, (bytesRow s (grownCap X s.size 0 5)).size + 1))).drew = Y at hH hY1 hY2 ⊢
    generalize grownCap X s.size 0 5 = cap at hcap ⊢
    clear h1 h2 hX hXs c0 c1 c2 c3 z0 z1 z2 z3
    have P := pc_part w.heap.size 0 s.size cap 0 s.size Y hsz hcap
    rw [show ((0 : Nat) : Int) = 0 from rfl, Nat.add_zero, Nat.sub_zero] at P
    refine P.mono ?_
    rintro e w5 ⟨rfl, hb5⟩
    have hp5 := hY1.below hb5 hY1.lt
    have c1 := hp5.cell 1
    have z1 := hp5.frozen 1
    simp at c1
    have hlt5 := hp5.lt
    have hH5 := hH.below hb5 hH.lt
    have h05 := gb_trans hY2 (gb_below (some p) hb5)
    clear hY1 hY2 hb5 hH P
    have HP5 := Lib.hid hp5
    have HH5 := Lib.hid hH5
    clear hp5 hH5
    go_wp2
    go_end0
    have hp6 := (HP5.out.set_ 1 (.slice (some ⟨w5.heap.size, 0, none⟩) 1 1)).alloc (.cells #[Value.slice (some ⟨w.heap.size, 0, none⟩) s.size s.size] 50)
    have hr6 := Blk.new (w5.setCell ⟨p, 1, none⟩ (.slice (some ⟨w5.heap.size, 0, none⟩) 1 1)) 50 #[Value.slice (some ⟨w.heap.size, 0, none⟩) s.size s.size]
    rw [show (w5.setCell ⟨p, 1, none⟩ (.slice (some ⟨w5.heap.size, 0, none⟩) 1 1)).heap.size = w5.heap.size by simp [World.setCell]] at hr6
    have h56 := gb_trans (gb_set w5 p 1 (.slice (some ⟨w5.heap.size, 0, none⟩) 1 1)) (World.grownBy_alloc _ (.cells #[Value.slice (some ⟨w.heap.size, 0, none⟩) s.size s.size] 50) (some p))
    have hb6 := (bytes_at HH5.out).grown h56 (fun e => (bytes_at HH5.out).ne_ HP5.out (by decide) (by injection e))
    refine ⟨rfl, ⟨.slice (some ⟨w5.heap.size, 0, none⟩) 1 1, .slice none 0 0, [.slice (some ⟨w.heap.size, 0, none⟩) s.size s.size], [], ⟨hBp, ?_, own_of_row (cur := [.slice (some ⟨w.heap.size, 0, none⟩) s.size s.size]) (by have := h05.size; omega) hr6 rfl (Nat.le_refl _) (by unfold maxLen; omega) rfl, World.ownsRow_nil _ _ _ _, ?_, ?_⟩⟩, ?_⟩
    · have e : ([s.data.toList].flatten.length : Nat) = s.size := by simp
      rw [e]
      simpa using hp6
    · intro l hl
      simp at hl
      subst hl
      simpa using HE.out
    · intro k l hk
      match k, hk with
      | 0, hk =>
        simp at hk
        subst hk
        exact ⟨_, rfl, w.heap.size, 0, by rw [data_len], hb6, by simp [Value.ownBlock]⟩
    · exact Keeps.of_row hB hBp HP.out (Or.inl rfl) rfl (gb_trans h05 h56)
set_option maxHeartbeats 400000 in
theorem pc_new {B : Nat} (s : ByteArray) {w : World} (hB : B ≤ w.heap.size) :
    Calls Try.prog 6 #[.string s] w fun e w' => ∃ p, e = .returned (.pointer (some ⟨p, 0, none⟩)) ∧ Tab B p (one s.data.toList) 0 w' ∧ Keeps B w w' ∧ w.heap.size ≤ p := by
  have C := Lib.hid (pc_begin s (w := w.alloc (.cells #[.pointer none, .slice none 0 0, .int .i64 0, .slice none 0 0] 41)) (by simp; omega) hB (Blk.new w _ _))
  have K : Keeps B w (w.alloc (.cells #[.pointer none, .slice none 0 0, .int .i64 0, .slice none 0 0] 41)) := Keeps.of_below hB ((Below.refl _ w).alloc (Nat.le_refl _) _)
  go_enter Try.func6, Try.ntmps6
  go_wp2_with (go_at_call 13; refine C.out.mono ?_; rintro e w1 ⟨rfl, hT, hK⟩)
  go_ret
  exact ⟨_, rfl, hT, K.trans hK, Nat.le_refl _⟩
set_option maxHeartbeats 400000 in
theorem pc_compact_at {B p : Nat} {ps : List (List UInt8)} {w : World} (hB : B ≤ w.heap.size) (hBp : B ≤ p) (hp : ∃ a0 a1 a2 a3, Blk w p 41 #[a0, a1, a2, a3]) (h : Shown (.pointer (some ⟨p, 0, none⟩)) ps w) (hl : ps.flatten.length ≤ 140737488355328) (hn : ps.length ≤ 140737488355328) :
    Calls Try.prog 17 #[.pointer (some ⟨p, 0, none⟩)] w fun e w' => e = .returned (.tuple #[]) ∧ Tab B p (one ps.flatten) 0 w' ∧ Keeps B w w' := by
  obtain ⟨a0, a1, a2, a3, hp⟩ := hp
  have S := Lib.hid (tab_string h hl hn)
  have C : Hid (∀ w1, Below w.heap.size w w1 → Calls Try.prog 13 #[.pointer (some ⟨p, 0, none⟩), .string (bs ps.flatten)] w1 fun e w' => e = .returned (.tuple #[]) ∧ Tab B p (one ps.flatten) 0 w' ∧ Keeps B w1 w') := fun w1 hb =>
    pc_begin (bs ps.flatten) (by have := hb.size; omega) hBp (hp.below hb hp.lt)
  have K : Hid (∀ w1, Below w.heap.size w w1 → Keeps B w w1) := fun w1 hb => Keeps.of_below hB hb
  clear hp h hl hn
  generalize ps.flatten = l at *
  go_enter Try.func17, Try.ntmps17
  go_wp2_with (first
    | (go_at_call 8; refine S.out.mono ?_; rintro e w1 ⟨rfl, hb⟩)
    | (go_at_call 13; refine (C.out _ hb).mono ?_; rintro e w2 ⟨rfl, hT, hK⟩))
  go_end0
  exact ⟨rfl, hT, (K.out _ hb).trans hK⟩
theorem tab_compact {B p a : Nat} {ps : List (List UInt8)} {w : World} (hB : B ≤ w.heap.size) (h : Tab B p ps a w) (hl : ps.flatten.length ≤ 140737488355328) (hn : ps.length ≤ 140737488355328) :
    Calls Try.prog 17 #[.pointer (some ⟨p, 0, none⟩)] w fun e w' => e = .returned (.tuple #[]) ∧ Tab B p (one ps.flatten) 0 w' ∧ Keeps B w w' := by
  have hs := h.shown
  obtain ⟨vp, va, us, xs, h⟩ := h
  exact pc_compact_at hB h.low ⟨_, _, _, _, h.self⟩ hs hl hn
theorem zero_compact {B p : Nat} {w : World} (hB : B ≤ w.heap.size) (h : Zero B p w) :
    Calls Try.prog 17 #[.pointer (some ⟨p, 0, none⟩)] w fun e w' => e = .returned (.tuple #[]) ∧ Tab B p [] 0 w' ∧ Keeps B w w' :=
  pc_compact_at (ps := []) hB h.1 ⟨_, _, _, _, h.2⟩ h.shown (by simp) (by simp)
set_option maxHeartbeats 400000 in
theorem none_compact (w : World) :
    Calls Try.prog 17 #[.pointer none] w fun e w' => e = .returned (.tuple #[]) ∧ w = w' := by
  go_enter Try.func17, Try.ntmps17
  go_wp2
  go_end0
  exact ⟨rfl, rfl⟩
end Go.Proofs.Ytjmedlnboofgdaa
