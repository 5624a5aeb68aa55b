/-
  The document's lines of a text.
-/
import Derived.Test.YtlfhfpjffdaomaaDoorPairs
import Derived.Test.YtlfhfpjffdaomaaDoorLineMore
import Derived.Test.YtlfhfpjffdaomaaDoorUtfRefs
namespace Go.Proofs.YtlfhfpjffdaomaaDoor
open Go.RowKit
/-- How far the document's loop over a text has come: these lines are done; the next one began at a. -/
def Line.Come (s : List UInt8) (R done : List (Nat × Nat)) (a p : Nat) : Prop := (p ≤ s.length ∧ R = done ++ lns a p (s.drop p)) ∨ (p = s.length + 1 ∧ R = done)
set_option maxHeartbeats 1000000 in
set_option maxRecDepth 100000 in
theorem ref_lines (s : ByteArray) (hs : s.size ≤ 1000000000000) (w : World) :
    Calls Tryd.prog 44 #[.string s] w fun e w' => (∃ v, e = .returned v ∧ w'.ownsRow w.heap.size 67 2 v (Line.L s.data.toList).length (flat2 (Line.L s.data.toList))) ∧ Below w.heap.size w w' := by
  have hl := data_len s
  have hz := zero_pair
  obtain ⟨i0, hi, hz0, hz1, hz2⟩ := info_parts info_pair
  have c1 := Lib.hid (fun w => ref_Valid s (by omega) w)
  cases hv : Utf.valid s.data.toList with
  | false =>
    rw [hv] at c1
    have e0 : Line.L s.data.toList = [] := Line.L_bad hv
    rw [e0]
    clear hv e0 hi hz0 hz1 hz2
    go_enter Tryd.func44, Tryd.ntmps44
    go_wp2_with (go_at_call 42; refine (c1.out _).mono ?_; rintro e w1 ⟨rfl, hb⟩)
    go_ret
    exact ⟨⟨_, rfl, World.ownsRow_nil _ _ _ _⟩, hb⟩
  | true =>
    rw [hv] at c1
    have hlen := Line.L_length s.data.toList
    have LK : Hid (Line.L s.data.toList = Line.lns 0 0 (s.data.toList.drop 0)) := by show _ = _; rw [Line.L_ok hv]; rfl
    generalize Line.L s.data.toList = R at *
    clear hv
    go_enter Tryd.func44, Tryd.ntmps44
    go_wp2_with (go_at_call 42; refine (c1.out _).mono ?_; rintro e w1 ⟨rfl, hb⟩)
    go_loopw [3, 4, 5] (fun v fr i wr => ∃ (A : Option Addr) (c : Nat) (done : List (Nat × Nat)) (a p : Nat), v = .slice A done.length c ∧ wr.ownsRow w.heap.size 67 2 v done.length (flat2 done) ∧ fr = .int .i64 a ∧ i = .int .i64 p ∧ a ≤ p ∧ p ≤ s.size + 1 ∧ done.length ≤ p ∧ Line.Come s.data.toList R done a p ∧ Below w.heap.size w wr)
      (fun _ _ i _ => s.size + 1 - (intOf i).toNat)
    case atStart => exact ⟨none, 0, [], 0, 0, rfl, World.ownsRow_nil _ _ _ _, rfl, rfl, Nat.le_refl _, Nat.zero_le _, Nat.zero_le _, Or.inl ⟨Nat.zero_le _, LK.out⟩, hb⟩
    case round =>
      obtain ⟨A, c, done, a, p, rfl, hown, rfl, rfl, hap, hp, hdl, K, hbw⟩ := hrel
      by_cases hpl : p ≤ s.size
      · have K1 : Hid (R = done ++ Line.lns a p (s.data.toList.drop p)) := by
          rcases K with h | h
          · exact h.2
          · omega
        clear K LK
        have hbr := hbw.size
        have hsn := Lib.hid (flat2_snoc done (a, p))
        by_cases he : p = s.size
        · subst he
          have K2 : Line.Come s.data.toList R (done ++ [(a, s.size)]) (s.size + 1) (s.size + 1) :=
            Or.inr ⟨by omega, by rw [K1.out, Line.lns_end (by omega)]⟩
          have g : ((s.size : Int) == (s.size : Int)) = true := by simp
          clear K1
          go_wp2_with (at_builtin; refine wpList_append_own _ rfl _ _ 65 rfl w.heap.size 67 i0 (.agg #[.int .i64 0, .int .i64 0]) 2 16 Tryd.underlying65 hi hz0 hz1 hz2 rfl (by decide) _ _ _ rfl (hown.alloc _) ⟨wr.heap.size, 0, none⟩ 1 1 [.int .i64 (a : Nat), .int .i64 (s.size : Nat)] rfl rfl ?c1 ?c2 ?c3 ?c4 ?c5 ?_)
          case c2 => simp [Value.oneCell']
          case c3 => unfold maxLen; omega
          case c4 => omega
          case c5 => first | omega | (simp; omega)
          intro v' w4 hown' hgrow _
          have hR4 : Below w.heap.size w w4 := (hbw.alloc hbr _).grown hgrow (by simp; omega) (fun g hg => (hown.lt g hg).1)
          have hown4 : w4.ownsRow w.heap.size 67 2 v' (done ++ [(a, s.size)]).length (flat2 (done ++ [(a, s.size)])) := by
            rw [hsn.out, List.length_append]; exact hown'
          obtain ⟨a', c', hv'⟩ := own_long hown4
          clear hown' hgrow hown hbw hbr hsn
          subst hv'
          go_wp2
          go_roundw
          case rel => exact ⟨a', c', done ++ [(a, s.size)], s.size + 1, s.size + 1, rfl, hown4, by go_num, by go_num, Nat.le_refl _, by omega, by simp; omega, K2, hR4⟩
          case measure => simp [intOf]
        · have hlt : p < s.size := by omega
          have hg := byte_get s hlt
          have hb8 := s[p].toNat_lt
          have g : ((p : Int) == (s.size : Int)) = false := by simp; omega
          by_cases h10 : s[p].toNat = 10
          · have K2 : Hid (((p + 1 : Nat) ≤ s.size ∧ R = (done ++ [(a, p)]) ++ Line.lns (p + 1) (p + 1) (s.data.toList.drop (p + 1))) ∨ ((p + 1 : Nat) = s.size + 1 ∧ R = done ++ [(a, p)])) :=
              Or.inl ⟨by omega, by
                rw [K1.out, Line.lns_step hg, if_pos (UInt8.toNat_inj.1 h10)]
                simp⟩
            have g2 : ((s[p].toNat : Int) == 10) = true := by simp; omega
            clear K1 hg
            go_wp2_with (at_builtin; (refine wpList_append_own _ rfl _ _ 65 rfl w.heap.size 67 i0 (.agg #[.int .i64 0, .int .i64 0]) 2 16 Tryd.underlying65 hi hz0 hz1 hz2 rfl (by decide) _ _ _ rfl (hown.alloc _) ⟨wr.heap.size, 0, none⟩ 1 1 [.int .i64 (a : Nat), .int .i64 (p : Nat)] rfl rfl ?e1 ?e2 ?e3 ?e4 ?e5 ?_))
            case e2 => simp [Value.oneCell']
            case e3 => unfold maxLen; omega
            case e4 => omega
            case e5 => first | omega | (simp; omega)
            intro v' w4 hown' hgrow _
            have hR4 : Below w.heap.size w w4 := (hbw.alloc hbr _).grown hgrow (by simp; omega) (fun g hg => (hown.lt g hg).1)
            have hown4 : w4.ownsRow w.heap.size 67 2 v' (done ++ [(a, p)]).length (flat2 (done ++ [(a, p)])) := by
              rw [hsn.out, List.length_append]; exact hown'
            obtain ⟨a', c', hv'⟩ := own_long hown4
            clear hown' hgrow hown hbw hbr hsn
            subst hv'
            go_wp2
            go_roundw
            case rel => exact ⟨a', c', done ++ [(a, p)], p + 1, p + 1, rfl, hown4, by go_num, by go_num, Nat.le_refl _, by omega, by simp; omega, K2, hR4⟩
            case measure => simp [intOf]; omega
          · have K2 : Line.Come s.data.toList R done a (p + 1) :=
              Or.inl ⟨by omega, by
                rw [K1.out, Line.lns_step hg, if_neg (fun h => h10 (by rw [h]; rfl))]⟩
            have g2 : ((s[p].toNat : Int) == 10) = false := by simp; omega
            clear K1 hg hsn
            go_wp2
            go_roundw
            case rel => exact ⟨A, c, done, a, p + 1, rfl, hown, rfl, by go_num, by omega, by omega, by omega, K2, hbw⟩
            case measure => simp [intOf]; omega
      · have H : R = done := by
          rcases K with h | h
          · omega
          · exact h.2
        subst H
        clear K LK
        go_wp2
        go_ret
        exact ⟨⟨_, rfl, hown⟩, hbw⟩
end Go.Proofs.YtlfhfpjffdaomaaDoor
