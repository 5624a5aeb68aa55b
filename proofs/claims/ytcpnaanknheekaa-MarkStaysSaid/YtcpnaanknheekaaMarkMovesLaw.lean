/-
  The law MarkMoves: where any marks go by any changes is as the document tells it.
-/
import Derived.Test.YtcpnaanknheekaaMarkLives
import Derived.Test.YtcpnaanknheekaaMarkMove
import Derived.Test.YtcpnaanknheekaaFrame
namespace Go.Proofs.Ytcpnaanknheekaa
open Go.RowKit
open Mrk
namespace Mrk
/-- Changes that stand near, the first of a list. -/
def Near (l : List Cg) : Prop := ∀ x ∈ l, -1099511627776 ≤ x.at_ ∧ x.at_ ≤ 1099511627776
theorem near_one {cs : List Cg} {k : Nat} {x : Cg} (hk : cs[k]? = some x) (hx : -1099511627776 ≤ x.at_ ∧ x.at_ ≤ 1099511627776) (h : Near (cs.take k)) : Near (cs.take (k + 1)) := by
  obtain ⟨hlt, rfl⟩ := List.getElem?_eq_some_iff.1 hk
  intro y hy
  rw [List.take_succ_eq_append_getElem hlt] at hy
  rcases List.mem_append.1 hy with hy | hy
  · exact h y hy
  · rw [List.mem_singleton.1 hy]; exact hx
end Mrk
set_option maxHeartbeats 4000000 in
set_option maxRecDepth 100000 in
theorem markMoves_walk {A B : Option Addr} {c d : Nat} {ks : List Mk} {cs : List Cg} {w : World} (hx : Mks w A ks) (hc : ks.length ≤ c) (hm : c ≤ maxLen) (hy : Cgs w B cs) (hs : ∀ k ∈ cs, k.old.size ≤ 140737488351232 ∧ k.new.size ≤ 140737488351232) (hl : cs.length ≤ maxLen) :
    Calls Try.prog 4 #[.slice A ks.length c, .slice B cs.length d] w fun e w' => e = .returned (.bool true) ∧ Below w.heap.size w w' := by
  have hm' : ks.length ≤ maxLen := Nat.le_trans hc hm
  have hl2 : cs.length ≤ 9223372036854775807 := by unfold maxLen at hl; exact hl
  have HS := Lib.hid hs
  have M1 : Hid (∀ u, Below w.heap.size w u → Near cs → weigh cs ≤ 1000000 → cs.length ≤ 100000 → Calls Try.prog 19 #[.slice A ks.length c, .slice B cs.length d] u (MksIs (gone ks cs) u)) := fun u hu h1 h2 h3 => mark_Move (hx.below hu) hm' (hy.below hu) h1 h2 h3
  have M2 : Hid (∀ u, Below w.heap.size w u → Near cs → weigh cs ≤ 1000000 → cs.length ≤ 100000 → Calls Try.prog 20 #[.slice A ks.length c, .slice B cs.length d] u (MksIs (gone ks cs) u)) := fun u hu h1 h2 h3 => ref10_Move (hx.below hu) hm' (hy.below hu) h1 h2 h3
  have l1 : (gone ks cs).length ≤ 1000 := by
    unfold gone
    split
    · rename_i h
      rw [moved_length]; have := h.length_le; omega
    · simp
  have SM : Hid (∀ (u : World) (A B : Option Addr) (c d : Nat), Mks u A (gone ks cs) → Mks u B (gone ks cs) → Calls Try.prog 15 #[.slice A (gone ks cs).length c, .slice B (gone ks cs).length d] u fun e w' => e = .returned (.bool true) ∧ Below u.heap.size u w') := fun u A B c d h1 h2 => same10_ok h1 h2 l1
  have LV := Lib.hid mark_lives
  have N0 : Hid (Near (cs.take 0)) := fun x hx => by simp at hx
  generalize gone ks cs = gl at *
  clear hx hm hm' hc hs hl l1
  go_enter Try.func4, Try.ntmps4
  go_wp2_with fail
  go_loopw [5] (fun iv wr => ∃ k : Nat, k ≤ cs.length ∧ k ≤ 31 ∧ iv = .int .i64 k ∧ Hid (Near (cs.take k) ∧ weigh (cs.take k) ≤ 5000 * k) ∧ Below w.heap.size w wr) (fun iv _ => cs.length - (intOf iv).toNat)
  case atStart => exact ⟨0, Nat.zero_le _, by omega, rfl, ⟨N0.out, by simp [weigh]⟩, Below.refl _ _⟩
  case round =>
    obtain ⟨k, hkl, hk31, rfl, HN, hW⟩ := hrel
    have hdr : ∀ q, Below w.heap.size w (wr.drewN q) := fun q => hW.trans ((below_gb (gb_drewN wr q none)).mono hW.size)
    by_cases hlt : k < cs.length
    · obtain ⟨x, hkx⟩ : ∃ x, cs[k]? = some x := ⟨_, List.getElem?_eq_getElem hlt⟩
      obtain ⟨b, off, rfl, hbw, c0, c1, c2⟩ := hy.at_ hW (Nat.le_refl _) hkx
      obtain ⟨z1, z2⟩ := HS.out x (List.mem_of_getElem? hkx)
      have hki : (k : Int) < cs.length := by omega
      have e1 : decide ((k : Int) < (cs.length : Int)) = true := decide_eq_true hki
      by_cases h1 : x.at_ < -1099511627776
      · have d1 : decide (x.at_ < -1099511627776) = true := decide_eq_true h1
        clear hkx hy h1
        go_wp2
        go_quiet (fail)
        go_wp2_with (go_at_call 18; (with_reducible refine (LV.out _).mono ?_); rintro e w1 ⟨rfl, hb1⟩)
        go_ret
        exact ⟨rfl, (hdr _).trans (hb1.mono (hdr _).size)⟩
      · have d1 : decide (x.at_ < -1099511627776) = false := decide_eq_false h1
        by_cases h2 : 1099511627776 < x.at_
        · have d2 : decide (1099511627776 < x.at_) = true := decide_eq_true h2
          clear hkx hy h1 h2
          go_wp2
          go_quiet (fail)
          go_wp2_with (go_at_call 18; (with_reducible refine (LV.out _).mono ?_); rintro e w1 ⟨rfl, hb1⟩)
          go_ret
          exact ⟨rfl, (hdr _).trans (hb1.mono (hdr _).size)⟩
        · have d2 : decide (1099511627776 < x.at_) = false := decide_eq_false h2
          by_cases h3 : 30 < k
          · have d3 : decide ((30 : Int) < (k : Int)) = true := decide_eq_true (by omega)
            clear hkx hy h1 h2
            go_wp2
            go_quiet (fail)
            go_wp2_with (go_at_call 18; (with_reducible refine (LV.out _).mono ?_); rintro e w1 ⟨rfl, hb1⟩)
            go_ret
            exact ⟨rfl, (hdr _).trans (hb1.mono (hdr _).size)⟩
          · have d3 : decide ((30 : Int) < (k : Int)) = false := decide_eq_false (by omega)
            by_cases h4 : 5000 < x.old.size + x.new.size
            · have d4 : decide ((5000 : Int) < (x.old.size : Int) + (x.new.size : Int)) = true := decide_eq_true (by omega)
              clear hkx hy h1 h2
              go_wp2
              go_quiet (fail)
              go_wp2_with (go_at_call 18; (with_reducible refine (LV.out _).mono ?_); rintro e w1 ⟨rfl, hb1⟩)
              go_ret
              exact ⟨rfl, (hdr _).trans (hb1.mono (hdr _).size)⟩
            · have d4 : decide ((5000 : Int) < (x.old.size : Int) + (x.new.size : Int)) = false := decide_eq_false (by omega)
              have HN2 : Hid (Near (cs.take (k + 1)) ∧ weigh (cs.take (k + 1)) ≤ 5000 * (k + 1)) := ⟨near_one hkx (by omega) HN.out.1, by rw [weigh_snoc hkx]; have := HN.out.2; omega⟩
              clear hkx hy h1 h2
              go_wp2
              go_quiet (fail)
              go_wp2
              go_roundw
              case rel => exact ⟨k + 1, by omega, by omega, by go_num, HN2, hdr _⟩
              case measure => simp [intOf]; omega
    · have hkk : k = cs.length := by omega
      have e1 : decide ((k : Int) < (cs.length : Int)) = false := decide_eq_false (by omega)
      have F : Near cs ∧ weigh cs ≤ 1000000 ∧ cs.length ≤ 100000 := by
        have := HN.out
        rw [List.take_of_length_le (by omega)] at this
        exact ⟨this.1, by have := this.2; omega, by omega⟩
      have FH := Lib.hid F
      clear hy hkk F
      go_wp2_with (first
        | (go_at_call 19; (with_reducible refine (M1.out _ hW FH.out.1 FH.out.2.1 FH.out.2.2).mono ?_); rintro e w1 ⟨A1, c1, rfl, hm1, hl1, hb1⟩; replace hW := hW.trans (hb1.mono hW.size))
        | (go_at_call 20; (with_reducible refine (M2.out _ hW FH.out.1 FH.out.2.1 FH.out.2.2).mono ?_); rintro e w2 ⟨A2, c2, rfl, hm2, hl2, hb2⟩; replace hW := hW.trans (hb2.mono hW.size); replace hm1 := hm1.below hb2)
        | (go_at_call 15; (with_reducible refine (SM.out _ _ _ _ _ hm1 hm2).mono ?_); rintro e w3 ⟨rfl, hb3⟩; replace hW := hW.trans (hb3.mono hW.size))
        | (go_at_call 18; (with_reducible refine (LV.out _).mono ?_); rintro e w4 ⟨rfl, hb4⟩; replace hW := hW.trans (hb4.mono hW.size)))
      go_ret
      exact ⟨rfl, hW⟩
section
open Go.ChangeShapes Go.WideShapes Go.ChangeAt
open Go.ChangeMaps (open_string)
set_option maxRecDepth 100000 in
theorem markMoves_lifted (os : Os) (started : os.Started) (H : Type) (enc : TypeId × Value → H) :
    ReturnsInHanded {} Try.checked os 4 .any (Rows.markMovesSpec.pre6 enc Try.prog Try.f4 Rows.markMovesRow.domain false) (Rows.markMovesSpec.post enc Try.prog Try.f4 false true false false) := by
  refine returnsInHanded_of_change_sized (C := Try.checked) own_knob started (by kernel_rfl) Try.func4
    (ChangeSpec.witness6 (enc := enc) (C := Try.checked) false ⟨#[], #[.slice none 0 0, .slice none 0 0], []⟩ 8 (by kernel_rfl) (by kernel_rfl) (by kernel_rfl) (by kernel_rfl)) ?_
  intro W base args ds gs before hval0 hW _ hsz0 _
  have hsz : (DataW.weightsEach Try.prog (Try.f4.params.toList ++ Rows.markMovesSpec.plain.varTypes Try.prog) (ds ++ gs)).all (· ≤ reachBytes) = true := hsz0
  clear hsz0
  have hval : ∀ (j : Nat) t v, Try.f4.params[j]? = some t → args[j]? = some v → Value.okWide Try.prog W .any base t v := hval0
  have hW' := hW
  obtain ⟨p, q, hA0, hV, rfl, hfz, hnd⟩ := hW
  have hA : DataW.TrodAll enc Try.prog W 0 (fun _ => true) true Try.f4.params.toList args.toList ds p := hA0
  rw [Try.params4] at hA hval hsz
  obtain ⟨v0, vs0, d0, ds0, p0, q0, hargs, rfl, rfl, h0, r0⟩ := trodAll_cons hA
  obtain ⟨v1, vs1, d1, ds1, p1, q1, rfl, rfl, rfl, h1, r1⟩ := trodAll_cons r0
  obtain ⟨rfl, rfl, rfl⟩ := trodAll_nil r1
  obtain rfl : args = #[v0, v1] := by cases args; simp_all
  obtain ⟨rfl, rfl⟩ := trodVars_none hV
  have hlt0 : ∀ x ∈ p0, x.block < W.heap.size := fun x hx => by simpa using hW'.lt x (by simp [hx])
  obtain ⟨A0, c0, xs0, rfl, hx0, hc0, hm0⟩ := open_mks (hval 0 22 v0 rfl rfl) h0 hlt0
  have hlt1 : ∀ x ∈ p1, x.block < W.heap.size := fun x hx => by simpa using hW'.lt x (by simp [hx])
  obtain ⟨A1, c1, xs1, rfl, hx1, hm1, hd1⟩ := open_cgs (hval 1 36 v1 rfl rfl) h1 hlt1
  have he1 : ∀ k ∈ xs1, k.old.size ≤ 140737488351232 ∧ k.new.size ≤ 140737488351232 := fun k hk => by
    obtain ⟨e, sp, x, rfl, hin⟩ := hd1 k hk
    rw [← data_len, ← data_len]
    exact sized_cg hsz (j := 1) rfl rfl hin
  refine (markMoves_walk hx0 hc0 hm0 hx1 he1 hm1).mono fun e W' ⟨he, hb⟩ => ?_
  subst he
  exact ⟨_, rfl, law_post rfl rfl (by rw [Try.params4]; decide +kernel) ⟨rfl, rfl, rfl⟩ hW' hb⟩
theorem markMoves_holds : Rows.MarkMovesSaid :=
  OpenClaim.holds_of_wide 4 Try.f4 rfl rfl rfl rfl rfl rfl rfl ⟨rfl, rfl, rfl, rfl, rfl⟩ rfl rfl rfl rfl rfl (by kernel_rfl) Try.func4 (by kernel_rfl)
    (of_decide_eq_true (by kernel_rfl)) (by unfold Func.isWrapper; first | (rw [if_pos (by decide +kernel)]; kernel_rfl) | (rw [if_neg (by decide +kernel)]; exact ⟨rfl, rfl⟩))
    (fun os started H enc _ => markMoves_lifted os started H enc)
end
end Go.Proofs.Ytcpnaanknheekaa
