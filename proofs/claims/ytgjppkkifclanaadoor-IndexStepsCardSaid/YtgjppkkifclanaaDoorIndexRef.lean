/-
  The document's answers of layer 7 (calamusref07): lines, Lines, Start, End, Of.
-/
import Derived.Test.YtgjppkkifclanaaDoorPairs
import Derived.Test.YtgjppkkifclanaaDoorIndex
namespace Go.Proofs.YtgjppkkifclanaaDoor
open Go.RowKit
set_option maxHeartbeats 1000000 in
set_option maxRecDepth 100000 in
theorem ref7_lines (s : ByteArray) (hs : s.size ≤ 1000000000000) (w : World) :
    Calls Tryd.prog 28 #[.string s] w fun e w' => (∃ v, e = .returned v ∧ w'.ownsRow w.heap.size 54 2 v (Ix.all s.data.toList).length (flat2 (Ix.all s.data.toList))) ∧ Below w.heap.size w w' := by
  have hl := data_len s
  have hz := zero_pair
  obtain ⟨i0, hi, hz0, hz1, hz2⟩ := info_parts info_pair
  have LK := Ix.come_start s.data.toList
  have hR : (Ix.all s.data.toList).length ≤ s.size + 1 := by rw [Ix.all_length]; have := Ix.ends_le s.data.toList; omega
  generalize Ix.all s.data.toList = R at *
  have LK := Lib.hid LK
  go_enter Tryd.func28, Tryd.ntmps28
  go_wp2
  go_loopw [3, 4, 5] (fun v fr i wr => ∃ (A : Option Addr) (c : Nat) (done : List (Nat × Nat)) (a p : Nat), v = .slice A done.length c ∧ wr.ownsRow w.heap.size 54 2 v done.length (flat2 done) ∧ fr = .int .i64 a ∧ i = .int .i64 p ∧ a ≤ p ∧ p ≤ s.size + 1 ∧ done.length ≤ p ∧ Ix.Come s.data.toList R done a p ∧ Below w.heap.size w wr)
    (fun _ _ i _ => s.size + 1 - (intOf i).toNat)
  case atStart => exact ⟨none, 0, [], 0, 0, rfl, World.ownsRow_nil _ _ _ _, rfl, rfl, Nat.le_refl _, Nat.zero_le _, Nat.zero_le _, LK.out, Below.refl _ _⟩
  case round =>
    obtain ⟨A, c, done, a, p, rfl, hown, rfl, rfl, hap, hp, hdl, K, hbw⟩ := hrel
    by_cases hpl : p ≤ s.size
    · have K1 : Hid (R = done ++ Ix.pairs a (Ix.nls p (s.data.toList.drop p) ++ [s.data.toList.length])) := by
        rcases K with h | h
        · exact h.2
        · omega
      clear K LK
      have hbr := hbw.size
      have hsn := Lib.hid (flat2_snoc done (a, p))
      by_cases he : p = s.size
      · subst he
        have K2 : Hid (Ix.Come s.data.toList R (done ++ [(a, s.size)]) (s.size + 1) (s.size + 1)) := by
          have := Ix.come_end (t := s.data.toList) (R := R) (done := done) (a := a) (by rw [hl]; have := K1.out; rwa [hl] at this)
          rw [hl] at this
          exact this
        have g : ((s.size : Int) == (s.size : Int)) = true := by simp
        clear K1
        go_wp2_with (at_builtin; refine wpList_append_own _ rfl _ _ 52 rfl w.heap.size 54 i0 (.agg #[.int .i64 0, .int .i64 0]) 2 16 Tryd.underlying52 hi hz0 hz1 hz2 rfl (by decide) _ _ _ rfl (hown.alloc _) ⟨wr.heap.size, 0, none⟩ 1 1 [.int .i64 (a : Nat), .int .i64 (s.size : Nat)] rfl rfl ?c1 ?c2 ?c3 ?c4 ?c5 ?_)
        case c2 => simp [Value.oneCell']
        case c3 => unfold maxLen; omega
        case c4 => omega
        case c5 => first | omega | (simp; omega)
        intro v' w4 hown' hgrow _
        have hR4 : Below w.heap.size w w4 := (hbw.alloc hbr _).grown hgrow (by simp; omega) (fun g hg => (hown.lt g hg).1)
        have hown4 : w4.ownsRow w.heap.size 54 2 v' (done ++ [(a, s.size)]).length (flat2 (done ++ [(a, s.size)])) := by
          rw [hsn.out, List.length_append]; exact hown'
        obtain ⟨a', c', hv'⟩ := own_long hown4
        clear hown' hgrow hown hbw hbr hsn
        subst hv'
        go_wp2
        go_roundw
        case rel => exact ⟨a', c', done ++ [(a, s.size)], s.size + 1, s.size + 1, rfl, hown4, by go_num, by go_num, Nat.le_refl _, by omega, by simp; omega, K2.out, hR4⟩
        case measure => simp [intOf]
      · have hlt : p < s.size := by omega
        have hg := byte_get s hlt
        have hb8 := s[p].toNat_lt
        have g : ((p : Int) == (s.size : Int)) = false := by simp; omega
        by_cases h10 : s[p].toNat = 10
        · have K2 : Hid (Ix.Come s.data.toList R (done ++ [(a, p)]) (p + 1) (p + 1)) :=
            Ix.come_here K1.out (by rw [hg]; exact congrArg some (UInt8.toNat_inj.1 h10))
          have g2 : ((s[p].toNat : Int) == 10) = true := by simp; omega
          clear K1 hg
          go_wp2_with (at_builtin; (refine wpList_append_own _ rfl _ _ 52 rfl w.heap.size 54 i0 (.agg #[.int .i64 0, .int .i64 0]) 2 16 Tryd.underlying52 hi hz0 hz1 hz2 rfl (by decide) _ _ _ rfl (hown.alloc _) ⟨wr.heap.size, 0, none⟩ 1 1 [.int .i64 (a : Nat), .int .i64 (p : Nat)] rfl rfl ?e1 ?e2 ?e3 ?e4 ?e5 ?_))
          case e2 => simp [Value.oneCell']
          case e3 => unfold maxLen; omega
          case e4 => omega
          case e5 => first | omega | (simp; omega)
          intro v' w4 hown' hgrow _
          have hR4 : Below w.heap.size w w4 := (hbw.alloc hbr _).grown hgrow (by simp; omega) (fun g hg => (hown.lt g hg).1)
          have hown4 : w4.ownsRow w.heap.size 54 2 v' (done ++ [(a, p)]).length (flat2 (done ++ [(a, p)])) := by
            rw [hsn.out, List.length_append]; exact hown'
          obtain ⟨a', c', hv'⟩ := own_long hown4
          clear hown' hgrow hown hbw hbr hsn
          subst hv'
          go_wp2
          go_roundw
          case rel => exact ⟨a', c', done ++ [(a, p)], p + 1, p + 1, rfl, hown4, by go_num, by go_num, Nat.le_refl _, by omega, by simp; omega, K2.out, hR4⟩
          case measure => simp [intOf]; omega
        · have K2 : Hid (Ix.Come s.data.toList R done a (p + 1)) := Ix.come_not K1.out hg (fun h => h10 (by rw [h]; rfl))
          have g2 : ((s[p].toNat : Int) == 10) = false := by simp; omega
          clear K1 hg hsn
          go_wp2
          go_roundw
          case rel => exact ⟨A, c, done, a, p + 1, rfl, hown, rfl, by go_num, by omega, by omega, by omega, K2.out, hbw⟩
          case measure => simp [intOf]; omega
    · have H : R = done := by
        rcases K with h | h
        · omega
        · exact h.2
      subst H
      clear K LK
      go_wp2
      go_ret
      exact ⟨⟨_, rfl, hown⟩, hbw⟩
theorem ref7_got (s : ByteArray) (hs : s.size ≤ 1000000000000) (w : World) :
    Calls Tryd.prog 28 #[.string s] w fun e w' => (∃ A c, e = .returned (.slice A (Ix.all s.data.toList).length c) ∧ Pairs w' A (Ix.all s.data.toList)) ∧ Below w.heap.size w w' := by
  refine (ref7_lines s hs w).mono ?_
  rintro e w' ⟨⟨v, rfl, hown⟩, hb⟩
  obtain ⟨a, c, rfl⟩ := own_long hown
  exact ⟨⟨a, c, rfl, Pairs.of_own hown rfl⟩, hb⟩
theorem ref7_Lines (s : ByteArray) (hs : s.size ≤ 1000000000000) (w : World) :
    Calls Tryd.prog 13 #[.string s] w fun e w' => e = .returned (.int .i64 ((Ix.ends s.data.toList).length : Nat)) ∧ Below w.heap.size w w' := by
  have c1 := Lib.hid (ref7_got s hs w)
  rw [← Ix.all_length]
  generalize Ix.all s.data.toList = R at *
  go_enter Tryd.func13, Tryd.ntmps13
  go_wp2_with (go_at_call 28; refine c1.out.mono ?_; rintro e w1 ⟨⟨A, c, rfl, hI⟩, hb⟩)
  go_ret
  exact ⟨rfl, hb⟩
theorem ref7_Start (s : ByteArray) (k : Int) (hs : s.size ≤ 1000000000000) (w : World) :
    Calls Tryd.prog 15 #[.string s, .int .i64 k] w fun e w' => e = .returned (.int .i64 (Ix.startOf s.data.toList k)) ∧ Below w.heap.size w w' := by
  have hlen := Ix.ends_le s.data.toList
  rw [data_len] at hlen
  have c1 := Lib.hid (ref7_got s hs w)
  have hal := Ix.all_length s.data.toList
  by_cases h0 : k < 0
  · have H : Hid (Ix.startOf s.data.toList k = -1) := by show _ = _; unfold Ix.startOf; rw [if_pos (Or.inl h0)]
    generalize Ix.all s.data.toList = R at *
    go_enter Tryd.func15, Tryd.ntmps15
    go_wp2_with (go_at_call 28; refine c1.out.mono ?_; rintro e w1 ⟨⟨A, c, rfl, hI⟩, hb⟩)
    go_ret
    exact ⟨by rw [H.out]; rfl, hb⟩
  · by_cases h1 : ((Ix.all s.data.toList).length : Int) ≤ k
    · have H : Hid (Ix.startOf s.data.toList k = -1) := by show _ = _; unfold Ix.startOf; rw [if_pos (Or.inr (by omega))]
      generalize Ix.all s.data.toList = R at *
      clear hal
      go_enter Tryd.func15, Tryd.ntmps15
      go_wp2_with (go_at_call 28; refine c1.out.mono ?_; rintro e w1 ⟨⟨A, c, rfl, hI⟩, hb⟩)
      go_ret
      exact ⟨by rw [H.out]; rfl, hb⟩
    · obtain ⟨n, rfl⟩ : ∃ n : Nat, k = n := ⟨k.toNat, by omega⟩
      have hlt : n < (Ix.ends s.data.toList).length := by omega
      have hg := Ix.all_get hlt
      have H : Hid (Ix.startOf s.data.toList n = (Ix.start s.data.toList n : Nat)) := by show _ = _; unfold Ix.startOf; rw [if_neg (by omega), Int.toNat_natCast]
      have G := Lib.hid hg
      have hlR : (Ix.all s.data.toList).length ≤ s.size + 1 := by omega
      generalize Ix.start s.data.toList n = x at *
      generalize Ix.all s.data.toList = R at *
      have hnR : n < R.length := by omega
      clear hg h0 h1 hal hlt
      go_enter Tryd.func15, Tryd.ntmps15
      go_wp2_with (go_at_call 28; refine c1.out.mono ?_; rintro e w1 ⟨⟨A, c, rfl, hI⟩, hb⟩; obtain ⟨g, rfl, q1, q2⟩ := hI.at_ G.out; clear hI)
      go_ret
      exact ⟨by rw [H.out]; rfl, hb⟩
theorem ref7_End (s : ByteArray) (k : Int) (hs : s.size ≤ 1000000000000) (w : World) :
    Calls Tryd.prog 17 #[.string s, .int .i64 k] w fun e w' => e = .returned (.int .i64 (Ix.endOf s.data.toList k)) ∧ Below w.heap.size w w' := by
  have hlen := Ix.ends_le s.data.toList
  rw [data_len] at hlen
  have c1 := Lib.hid (ref7_got s hs w)
  have hal := Ix.all_length s.data.toList
  by_cases h0 : k < 0
  · have H : Hid (Ix.endOf s.data.toList k = -1) := by show _ = _; unfold Ix.endOf; rw [if_pos (Or.inl h0)]
    generalize Ix.all s.data.toList = R at *
    go_enter Tryd.func17, Tryd.ntmps17
    go_wp2_with (go_at_call 28; refine c1.out.mono ?_; rintro e w1 ⟨⟨A, c, rfl, hI⟩, hb⟩)
    go_ret
    exact ⟨by rw [H.out]; rfl, hb⟩
  · by_cases h1 : ((Ix.all s.data.toList).length : Int) ≤ k
    · have H : Hid (Ix.endOf s.data.toList k = -1) := by show _ = _; unfold Ix.endOf; rw [if_pos (Or.inr (by omega))]
      generalize Ix.all s.data.toList = R at *
      clear hal
      go_enter Tryd.func17, Tryd.ntmps17
      go_wp2_with (go_at_call 28; refine c1.out.mono ?_; rintro e w1 ⟨⟨A, c, rfl, hI⟩, hb⟩)
      go_ret
      exact ⟨by rw [H.out]; rfl, hb⟩
    · obtain ⟨n, rfl⟩ : ∃ n : Nat, k = n := ⟨k.toNat, by omega⟩
      have hlt : n < (Ix.ends s.data.toList).length := by omega
      have hg := Ix.all_get hlt
      have H : Hid (Ix.endOf s.data.toList n = (Ix.stop s.data.toList n : Nat)) := by show _ = _; unfold Ix.endOf; rw [if_neg (by omega), Int.toNat_natCast]
      have G := Lib.hid hg
      have hlR : (Ix.all s.data.toList).length ≤ s.size + 1 := by omega
      generalize Ix.stop s.data.toList n = x at *
      generalize Ix.all s.data.toList = R at *
      have hnR : n < R.length := by omega
      clear hg h0 h1 hal hlt
      go_enter Tryd.func17, Tryd.ntmps17
      go_wp2_with (go_at_call 28; refine c1.out.mono ?_; rintro e w1 ⟨⟨A, c, rfl, hI⟩, hb⟩; obtain ⟨g, rfl, q1, q2⟩ := hI.at_ G.out; clear hI)
      go_ret
      exact ⟨by rw [H.out]; rfl, hb⟩
/-- The line that an offset is of, if it is of one. -/
theorem Ix.lineOf_at {t : List UInt8} {k : Nat} {p : Int} (hk : k < (ends t).length) (h1 : (start t k : Int) ≤ p) (h2 : p ≤ stop t k) : lineOf t p = k := by
  obtain ⟨n, rfl⟩ : ∃ n : Nat, p = n := ⟨p.toNat, by omega⟩
  obtain ⟨h3, h4⟩ := line_here (p := n) hk (by omega) (by omega)
  unfold lineOf
  rw [if_neg (by omega), Int.toNat_natCast, h4]
theorem Ix.lineOf_no {t : List UInt8} {p : Int} (h : ∀ k : Nat, k < (ends t).length → ¬ ((start t k : Int) ≤ p ∧ p ≤ stop t k)) : lineOf t p = -1 := by
  unfold lineOf
  by_cases h0 : p < 0 ∨ (t.length : Int) < p
  · rw [if_pos h0]
  · obtain ⟨n, rfl⟩ : ∃ n : Nat, p = n := ⟨p.toNat, by omega⟩
    have hn : n ≤ t.length := by omega
    have h1 := start_le hn
    have h2 := le_stop hn
    exact absurd ⟨by omega, by omega⟩ (h _ (line_lt hn))
set_option maxHeartbeats 1000000 in
set_option maxRecDepth 100000 in
theorem ref7_Of (s : ByteArray) (p : Int) (hs : s.size ≤ 1000000000000) (w : World) :
    Calls Tryd.prog 19 #[.string s, .int .i64 p] w fun e w' => e = .returned (.int .i64 (Ix.lineOf s.data.toList p)) ∧ Below w.heap.size w w' := by
  have hlen := Ix.ends_le s.data.toList
  rw [data_len] at hlen
  have c1 := Lib.hid (ref7_got s hs w)
  have hal := Ix.all_length s.data.toList
  have hag := Lib.hid (fun k (h : k < (Ix.all s.data.toList).length) => Ix.all_get (t := s.data.toList) (k := k) (by omega))
  have H1 : Hid (∀ k : Nat, k < (Ix.all s.data.toList).length → (Ix.start s.data.toList k : Int) ≤ p → p ≤ (Ix.stop s.data.toList k : Int) → Ix.lineOf s.data.toList p = k) := fun k hk h1 h2 => Ix.lineOf_at (by omega) h1 h2
  have H2 : Hid ((∀ k : Nat, k < (Ix.all s.data.toList).length → ¬ ((Ix.start s.data.toList k : Int) ≤ p ∧ p ≤ (Ix.stop s.data.toList k : Int))) → Ix.lineOf s.data.toList p = -1) := fun h => Ix.lineOf_no (fun k hk => h k (by omega))
  have hR : (Ix.all s.data.toList).length ≤ s.size + 1 := by omega
  clear hal hlen
  generalize Ix.all s.data.toList = R at *
  generalize Ix.lineOf s.data.toList p = r at *
  generalize Ix.start s.data.toList = S at *
  generalize Ix.stop s.data.toList = E at *
  go_enter Tryd.func19, Tryd.ntmps19
  go_wp2_with (go_at_call 28; refine c1.out.mono ?_; rintro e w1 ⟨⟨A, c, rfl, hI⟩, hb⟩)
  have HI := Lib.hid hI
  clear hI
  go_loopw [6] (fun i wr => ∃ k : Nat, i = .int .i64 k ∧ k ≤ R.length ∧ Hid (∀ j : Nat, j < k → ¬ ((S j : Int) ≤ p ∧ p ≤ (E j : Int))) ∧ Below w1.heap.size w1 wr)
    (fun i _ => R.length - (intOf i).toNat)
  case atStart => exact ⟨0, rfl, Nat.zero_le _, fun j hj => absurd hj (by omega), Below.refl _ _⟩
  case round =>
    obtain ⟨k, rfl, hk, HN, hbw⟩ := hrel
    rcases Nat.lt_or_ge k R.length with hlt | hge
    · obtain ⟨g, rfl, q1, q2⟩ := (HI.out.below hbw).at_ (hag.out k hlt)
      by_cases h1 : (S k : Int) ≤ p
      · by_cases h2 : p ≤ (E k : Int)
        · have d1 : decide ((S k : Int) ≤ p) = true := decide_eq_true h1
          have d2 : decide (p ≤ (E k : Int)) = true := decide_eq_true h2
          have Hr := Lib.hid (H1.out k hlt h1 h2)
          clear h1 h2 H1 H2 hag HI HN
          go_wp2
          go_ret
          exact ⟨by rw [Hr.out]; rfl, hb.trans (hbw.mono hb.size)⟩
        · have d1 : decide ((S k : Int) ≤ p) = true := decide_eq_true h1
          have d2 : decide (p ≤ (E k : Int)) = false := decide_eq_false h2
          have HN2 : Hid (∀ j : Nat, j < k + 1 → ¬ ((S j : Int) ≤ p ∧ p ≤ (E j : Int))) := fun j hj => by
            rcases Nat.lt_or_ge j k with h | h
            · exact HN.out j h
            · rw [show j = k by omega]; exact fun h => h2 h.2
          clear h1 h2 HN
          go_wp2
          go_roundw
          case rel => exact ⟨k + 1, by go_num, by omega, HN2, hbw⟩
          case measure => simp [intOf]; omega
      · have d1 : decide ((S k : Int) ≤ p) = false := decide_eq_false h1
        have HN2 : Hid (∀ j : Nat, j < k + 1 → ¬ ((S j : Int) ≤ p ∧ p ≤ (E j : Int))) := fun j hj => by
          rcases Nat.lt_or_ge j k with h | h
          · exact HN.out j h
          · rw [show j = k by omega]; exact fun h => h1 h.1
        clear h1 HN
        go_wp2
        go_roundw
        case rel => exact ⟨k + 1, by go_num, by omega, HN2, hbw⟩
        case measure => simp [intOf]; omega
    · have Hr : Hid (r = -1) := H2.out (fun j hj => HN.out j (by omega))
      clear H1 H2 hag HI HN
      go_wp2
      go_ret
      exact ⟨by rw [Hr.out]; rfl, hb.trans (hbw.mono hb.size)⟩
end Go.Proofs.YtgjppkkifclanaaDoor
