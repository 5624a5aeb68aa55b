/-
  A register, as package reg tells it.
-/
import Derived.Test.YtopplkfbnpamdaaRegFind
import Derived.Test.YtopplkfbnpamdaaRet3
import Derived.Test.YtopplkfbnpamdaaClone
namespace Go.Proofs.Ytopplkfbnpamdaa
open Go.RowKit
open Reg
theorem reg_below {n : Nat} {w u v : World} (h : Below n w u) (hb : Below u.heap.size u v) (hs : n ≤ u.heap.size) : Below n w v := h.trans (hb.mono hs)
set_option maxHeartbeats 1000000 in
set_option maxRecDepth 100000 in
theorem reg_Get (n : Int) {A : Option Addr} {c : Nat} {ks : List Rg} {w : World} (hx : Rgs w A ks) (hm : ks.length ≤ maxLen) :
    Calls Try.prog 13 #[.slice A ks.length c, .int .i64 n] w fun e w' => e = .returned (.tuple #[.agg (get ks n).1.vals, .bool (get ks n).2]) ∧ Below w.heap.size w w' := by
  have R : Hid (∀ u, Below w.heap.size w u → Calls Try.prog 15 #[.slice A ks.length c] u fun e w' => e = .returned (.bool (decide (Right ks))) ∧ Below u.heap.size u w') := fun u hu => reg_Right (hx.below hu) hm
  have N := Lib.hid (reg_Name n)
  have hB := Blk.new w 32 #[.int .i64 0, .bool false, .string { data := #[] }]
  have hW : Below w.heap.size w (w.alloc (.cells #[.int .i64 0, .bool false, .string { data := #[] }] 32)) := (Below.refl _ w).alloc (Nat.le_refl _) _
  by_cases hR : Right ks
  · rw [decide_eq_true hR] at R
    have F : Hid (∀ u m, Below w.heap.size w u → Calls Try.prog 23 #[.slice A ks.length c, .int .i64 m] u fun e w' => e = .returned (.tuple #[.int .i64 (cnt ks m : Nat), .bool (has ks m)]) ∧ Below u.heap.size u w') := fun u m hu => reg_find m (hx.below hu) hR.1
    obtain ⟨z, hz⟩ : ∃ z, nameN n = z := ⟨_, rfl⟩
    rw [hz] at N
    cases hh : has ks z with
    | true =>
      obtain ⟨x, hkx, hl⟩ := has_at hR.1.2 hh
      have hlt : cnt ks z < ks.length := (List.getElem?_eq_some_iff.1 hkx).1
      have CC : Hid (∀ u, Below w.heap.size w u → ∃ b off, A = some ⟨b, off, none⟩ ∧ b < w.heap.size ∧ u.cell? ⟨b, off + cnt ks z * 3, none⟩ = some (.int .i64 x.name) ∧ u.cell? ⟨b, off + cnt ks z * 3 + 1, none⟩ = some (.bool x.lines) ∧ u.cell? ⟨b, off + cnt ks z * 3 + 2, none⟩ = some (.string x.text)) := fun u hu => hx.at_ hu (Nat.le_refl _) hkx
      have H : Hid (get ks n = (x, true)) := get_some hR (by rw [hz]; exact hl)
      have hfs := (hR.2 x (List.mem_of_getElem? hkx)).1
      have K := Lib.hid (fun w => str_clone x.text w (by omega))
      have F1 : Hid (∀ u, Below w.heap.size w u → Calls Try.prog 23 #[.slice A ks.length c, .int .i64 z] u fun e w' => e = .returned (.tuple #[.int .i64 (cnt ks z : Nat), .bool true]) ∧ Below u.heap.size u w') := fun u hu => by have := F.out u z hu; rw [hh] at this; exact this
      generalize cnt ks z = i at *
      have hi : (i : Int) < ks.length := by omega
      clear hkx hx hR hh hm hz hl hfs F
      go_enter Try.func13, Try.ntmps13
      go_wp2_with (first
        | (go_at_call 15; (with_reducible refine (R.out _ hW).mono ?_); rintro e w1 ⟨rfl, hb1⟩; have hB1 := hB.below hb1 hB.lt; have hW1 := reg_below hW hb1 hW.size; clear hb1)
        | (go_at_call 17; (with_reducible refine (N.out _).mono ?_); rintro e w9 ⟨rfl, rfl⟩)
        | (go_at_call 23; (with_reducible refine (F1.out _ hW1).mono ?_); rintro e w2 ⟨rfl, hb2⟩; have hB2 := hB1.below hb2 hB1.lt; have hW2 := reg_below hW1 hb2 hW1.size; clear hb2; obtain ⟨b, off, rfl, hbw, c0, c1, c2⟩ := CC.out _ hW2; have hb8 := Blk.new w2 32 #[.int .i64 x.name, .bool x.lines, .string x.text]; have hB8 := hB2.alloc (.cells #[.int .i64 x.name, .bool x.lines, .string x.text] 32); have hW8 := hW2.alloc hW2.size (.cells #[.int .i64 x.name, .bool x.lines, .string x.text] 32); have hmn := hB2.lt; have e8 := hb8.cell 2; simp at e8)
        | (go_at_call 24; (with_reducible refine (K.out _).mono ?_); rintro e w3 ⟨rfl, hb3⟩; have hB3 := hB8.below hb3 hB8.lt; have hb9 := hb8.below hb3 hb8.lt; have hW3 := reg_below hW8 hb3 hW8.size; clear hb3; have hne1 : ¬ w.heap.size = w2.heap.size := (by omega); have hne2 : ¬ w2.heap.size = w.heap.size := (by omega); obtain ⟨q0, q1, q2, f0, f1, f2⟩ := row_three hB3; obtain ⟨p0, p1, p2, g0, g1, g2⟩ := row_three hb9))
      have hB4 := hB3.far (p := ⟨w2.heap.size, 2, none⟩) hne1 (.string x.text)
      have hW4 := hW3.setCell (p := ⟨w2.heap.size, 2, none⟩) (by show w.heap.size ≤ w2.heap.size; omega) (.string x.text)
      exact ret_three1 rfl rfl (three_row hB4) rfl Try.underlying32 rfl ⟨by rw [H.out]; rfl, below_three hW4 (Nat.le_refl _)⟩
    | false =>
      have H : Hid (get ks n = (zero, false)) := get_none (by rw [hz]; exact has_not hh)
      have F1 : Hid (∀ u, Below w.heap.size w u → Calls Try.prog 23 #[.slice A ks.length c, .int .i64 z] u fun e w' => e = .returned (.tuple #[.int .i64 (cnt ks z : Nat), .bool false]) ∧ Below u.heap.size u w') := fun u hu => by have := F.out u z hu; rw [hh] at this; exact this
      clear hx hR hh hm hz F
      go_enter Try.func13, Try.ntmps13
      go_wp2_with (first
        | (go_at_call 15; (with_reducible refine (R.out _ hW).mono ?_); rintro e w1 ⟨rfl, hb1⟩; have hB1 := hB.below hb1 hB.lt; have hW1 := reg_below hW hb1 hW.size; clear hb1)
        | (go_at_call 17; (with_reducible refine (N.out _).mono ?_); rintro e w9 ⟨rfl, rfl⟩)
        | (go_at_call 23; (with_reducible refine (F1.out _ hW1).mono ?_); rintro e w2 ⟨rfl, hb2⟩; have hB2 := hB1.below hb2 hB1.lt; have hW2 := reg_below hW1 hb2 hW1.size; clear hb2; obtain ⟨q0, q1, q2, f0, f1, f2⟩ := row_three hB2))
      exact ret_three1 rfl rfl (three_row hB2) rfl Try.underlying32 rfl ⟨by rw [H.out]; rfl, below_three hW2 (Nat.le_refl _)⟩
  · rw [decide_eq_false hR] at R
    have H := Lib.hid (get_not (n := n) hR)
    clear hx hR hm
    go_enter Try.func13, Try.ntmps13
    go_wp2_with (go_at_call 15; (with_reducible refine (R.out _ hW).mono ?_); rintro e w1 ⟨rfl, hb1⟩; have hB1 := hB.below hb1 hB.lt; have hW1 := reg_below hW hb1 hW.size; clear hb1; obtain ⟨q0, q1, q2, f0, f1, f2⟩ := row_three hB1)
    exact ret_three1 rfl rfl (three_row hB1) rfl Try.underlying32 rfl ⟨by rw [H.out]; rfl, below_three hW1 (Nat.le_refl _)⟩
end Go.Proofs.Ytopplkfbnpamdaa
