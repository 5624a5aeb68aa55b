/-
  Package reg: what was deleted with line feeds, one number further on; what is kept where no name is given.
-/
import Derived.Test.YtopplkfbnpamdaaRegList
namespace Go.Proofs.Ytopplkfbnpamdaa
open Go.RowKit
open Reg
theorem Reg.older_lost {x : Rg} (h : x.name = 57) : older x = none := by unfold older; rw [if_pos h]
theorem Reg.older_on {x : Rg} (h : 49 ≤ x.name ∧ x.name < 57) : older x = some ⟨x.name + 1, x.lines, x.text⟩ := by unfold older; rw [if_neg (by omega), if_pos h]
theorem Reg.older_not {x : Rg} (h : x.name ≠ 57) (h2 : ¬ (49 ≤ x.name ∧ x.name < 57)) : older x = some ⟨x.name, x.lines, x.text⟩ := by unfold older; rw [if_neg h, if_neg h2]
set_option maxHeartbeats 2000000 in
set_option maxRecDepth 100000 in
theorem reg_age {A : Option Addr} {c : Nat} {ks : List Rg} {w : World} (hx : Rgs w A ks) (hm : ks.length ≤ 1000) :
    Calls Try.prog 36 #[.slice A ks.length c] w (OwnIs (age ks) w) := by
  obtain ⟨i0, hi, hz0, hz1, hz2⟩ := info_parts info_reg
  have HL : Hid (∀ k, (age (ks.take k)).length ≤ 1000) := fun k => Nat.le_trans (age_length _) (by rw [List.length_take]; omega)
  have H0 : Hid (age (ks.take 0) = []) := by show _ = _; rw [List.take_zero]; rfl
  have own0 : ∀ u : World, u.ownsRow w.heap.size 32 3 (.slice none 0 0) 0 (rrows (age (ks.take 0))) := fun u => by rw [H0.out]; exact World.ownsRow_nil _ _ _ _
  go_enter Try.func36, Try.ntmps36
  go_wp2_with fail
  go_loopw [3, 8] (fun v iv wr => ∃ (k q : Nat) (A' : Option Addr) (c' : Nat), k ≤ ks.length ∧ iv = .int .i64 k ∧ v = .slice A' q c' ∧ q ≤ 1000 ∧ Hid (q = (age (ks.take k)).length) ∧ wr.ownsRow w.heap.size 32 3 v q (rrows (age (ks.take k))) ∧ Below w.heap.size w wr) (fun _ iv _ => ks.length - (intOf iv).toNat)
  case atStart => exact ⟨0, 0, none, 0, Nat.zero_le _, rfl, rfl, Nat.zero_le _, (by show 0 = _; rw [H0.out]; rfl), own0 _, Below.refl _ _⟩
  case round =>
    obtain ⟨k, q, A', c', hkl, rfl, rfl, hq, HQ, hown, hW⟩ := hrel
    clear own0
    by_cases hlt : k < ks.length
    · obtain ⟨x, hkx⟩ : ∃ x, ks[k]? = some x := ⟨_, List.getElem?_eq_getElem hlt⟩
      obtain ⟨b, off, rfl, hbw, c0, c1, c2⟩ := hx.at_ hW (Nat.le_refl _) hkx
      have hs := age_succ hkx
      have hlen := HL.out (k + 1)
      have hki : (k : Int) < ks.length := by omega
      by_cases h1 : x.name = 57
      · rw [older_lost h1] at hs
        have hu : Hid (age (ks.take (k + 1)) = age (ks.take k)) := by show _ = _; rw [hs]; exact List.append_nil _
        have h2 : Below wr.heap.size wr (wr.alloc (.cells #[.int .i64 x.name, .bool x.lines, .string x.text] 32)) := (Below.refl _ wr).alloc (Nat.le_refl _) _
        have hown2 := hown.kept (gb_below none h2) (by cases hv : (Value.slice A' q c').ownBlock <;> simp)
        have hW2 := hW.trans (h2.mono hW.size)
        have g0 : (x.name == 57) = true := by simpa using h1
        have b2 := (Blk.new wr 32 #[.int .i64 x.name, .bool x.lines, .string x.text]).cell 0
        simp at b2
        clear hkx hx hs h1 hlen
        go_wp2
        go_roundw
        case rel => exact ⟨k + 1, q, A', c', by omega, by go_num, rfl, hq, (by show q = _; rw [hu.out]; exact HQ.out), by rw [hu.out]; exact hown2, hW2⟩
        case measure => simp [intOf]; omega
      · have g0 : (x.name == 57) = false := by simpa using h1
        by_cases h3 : 49 ≤ x.name ∧ x.name < 57
        · rw [older_on h3] at hs
          have hu : Hid (age (ks.take (k + 1)) = age (ks.take k) ++ [⟨x.name + 1, x.lines, x.text⟩]) := hs
          rw [hu.out, List.length_append, ← HQ.out] at hlen
          simp only [List.length_cons, List.length_nil] at hlen
          have g1 : decide (49 ≤ x.name) = true := decide_eq_true h3.1
          have g2 : decide (x.name < 57) = true := decide_eq_true h3.2
          have z1 : IntKind.i64.wrap (x.name + 1) = x.name + 1 := by rw [IntKind.wrap_i64]; omega
          have h2 : Below wr.heap.size wr ((wr.alloc (.cells #[.int .i64 (x.name + 1), .bool x.lines, .string x.text] 32)).alloc (.cells #[.int .i64 (x.name + 1), .bool x.lines, .string x.text] 32)) := by
            have a1 := (Below.refl _ wr).alloc (Nat.le_refl _) (.cells #[.int .i64 (x.name + 1), .bool x.lines, .string x.text] 32)
            exact a1.alloc a1.size _
          have hown2 := hown.kept (gb_below none h2) (by cases hv : (Value.slice A' q c').ownBlock <;> simp)
          have b2 := Blk.new (wr.alloc (.cells #[.int .i64 (x.name + 1), .bool x.lines, .string x.text] 32)) 32 #[.int .i64 (x.name + 1), .bool x.lines, .string x.text]
          rw [World.size_alloc] at b2
          clear hkx hx hs h1 h3
          go_wp2_with (at_builtin; refine wpList_append_own _ rfl _ _ 22 rfl w.heap.size 32 i0 _ 3 32 Try.underlying22 hi hz0 hz1 hz2 rfl (by decide) _ _ _ rfl hown2 ⟨wr.heap.size + 1, 0, none⟩ 1 1 (rrows [⟨x.name + 1, x.lines, x.text⟩]) rfl rfl ?c1 rrows_one ?c3 ?c4 ?c5 ?_)
          case c1 =>
            intro j u hj
            rw [add_plain, Nat.zero_add, b2.cell]
            simpa [rrows, Rg.row] using hj
          case c3 => unfold maxLen; omega
          case c4 => omega
          case c5 => exact Nat.le_trans hW.size h2.size
          intro v' w3 hown3 hgrow3 _
          obtain ⟨a3, cap3, rfl⟩ := own_shape hown3
          have hW3 : Below w.heap.size w w3 := (hW.trans (h2.mono hW.size)).grown hgrow3 (Nat.le_trans hW.size h2.size) (fun j hj => (hown2.lt j hj).1)
          go_wp2
          go_roundw
          case rel => exact ⟨k + 1, q + 1, a3, cap3, by omega, by go_num, rfl, by omega, (by show q + 1 = _; rw [hu.out, List.length_append, ← HQ.out]; rfl), by rw [hu.out, rrows_append]; exact hown3, hW3⟩
          case measure => simp [intOf]; omega
        · rw [older_not h1 h3] at hs
          have hu : Hid (age (ks.take (k + 1)) = age (ks.take k) ++ [⟨x.name, x.lines, x.text⟩]) := hs
          rw [hu.out, List.length_append, ← HQ.out] at hlen
          simp only [List.length_cons, List.length_nil] at hlen
          have h2 : Below wr.heap.size wr ((wr.alloc (.cells #[.int .i64 x.name, .bool x.lines, .string x.text] 32)).alloc (.cells #[.int .i64 x.name, .bool x.lines, .string x.text] 32)) := by
            have a1 := (Below.refl _ wr).alloc (Nat.le_refl _) (.cells #[.int .i64 x.name, .bool x.lines, .string x.text] 32)
            exact a1.alloc a1.size _
          have hown2 := hown.kept (gb_below none h2) (by cases hv : (Value.slice A' q c').ownBlock <;> simp)
          have b2 := Blk.new (wr.alloc (.cells #[.int .i64 x.name, .bool x.lines, .string x.text] 32)) 32 #[.int .i64 x.name, .bool x.lines, .string x.text]
          rw [World.size_alloc] at b2
          have fin : ∀ (g1 : Bool), True := fun _ => trivial
          by_cases h4 : 49 ≤ x.name
          · have g1 : decide (49 ≤ x.name) = true := decide_eq_true h4
            have g2 : decide (x.name < 57) = false := decide_eq_false (by omega)
            clear hkx hx hs h1 h3 h4
            go_wp2_with (at_builtin; refine wpList_append_own _ rfl _ _ 22 rfl w.heap.size 32 i0 _ 3 32 Try.underlying22 hi hz0 hz1 hz2 rfl (by decide) _ _ _ rfl hown2 ⟨wr.heap.size + 1, 0, none⟩ 1 1 (rrows [⟨x.name, x.lines, x.text⟩]) rfl rfl ?c1 rrows_one ?c3 ?c4 ?c5 ?_)
            case c1 =>
              intro j u hj
              rw [add_plain, Nat.zero_add, b2.cell]
              simpa [rrows, Rg.row] using hj
            case c3 => unfold maxLen; omega
            case c4 => omega
            case c5 => exact Nat.le_trans hW.size h2.size
            intro v' w3 hown3 hgrow3 _
            obtain ⟨a3, cap3, rfl⟩ := own_shape hown3
            have hW3 : Below w.heap.size w w3 := (hW.trans (h2.mono hW.size)).grown hgrow3 (Nat.le_trans hW.size h2.size) (fun j hj => (hown2.lt j hj).1)
            go_wp2
            go_roundw
            case rel => exact ⟨k + 1, q + 1, a3, cap3, by omega, by go_num, rfl, by omega, (by show q + 1 = _; rw [hu.out, List.length_append, ← HQ.out]; rfl), by rw [hu.out, rrows_append]; exact hown3, hW3⟩
            case measure => simp [intOf]; omega
          · have g1 : decide (49 ≤ x.name) = false := decide_eq_false h4
            clear hkx hx hs h1 h3 h4
            go_wp2_with (at_builtin; refine wpList_append_own _ rfl _ _ 22 rfl w.heap.size 32 i0 _ 3 32 Try.underlying22 hi hz0 hz1 hz2 rfl (by decide) _ _ _ rfl hown2 ⟨wr.heap.size + 1, 0, none⟩ 1 1 (rrows [⟨x.name, x.lines, x.text⟩]) rfl rfl ?c1 rrows_one ?c3 ?c4 ?c5 ?_)
            case c1 =>
              intro j u hj
              rw [add_plain, Nat.zero_add, b2.cell]
              simpa [rrows, Rg.row] using hj
            case c3 => unfold maxLen; omega
            case c4 => omega
            case c5 => exact Nat.le_trans hW.size h2.size
            intro v' w3 hown3 hgrow3 _
            obtain ⟨a3, cap3, rfl⟩ := own_shape hown3
            have hW3 : Below w.heap.size w w3 := (hW.trans (h2.mono hW.size)).grown hgrow3 (Nat.le_trans hW.size h2.size) (fun j hj => (hown2.lt j hj).1)
            go_wp2
            go_roundw
            case rel => exact ⟨k + 1, q + 1, a3, cap3, by omega, by go_num, rfl, by omega, (by show q + 1 = _; rw [hu.out, List.length_append, ← HQ.out]; rfl), by rw [hu.out, rrows_append]; exact hown3, hW3⟩
            case measure => simp [intOf]; omega
    · have hS : ks.take k = ks := List.take_of_length_le (by omega)
      rw [hS] at HQ hown
      clear hx
      go_wp2
      go_ret
      exact ⟨_, rfl, by rw [← HQ.out]; exact hown, hW⟩
end Go.Proofs.Ytopplkfbnpamdaa
