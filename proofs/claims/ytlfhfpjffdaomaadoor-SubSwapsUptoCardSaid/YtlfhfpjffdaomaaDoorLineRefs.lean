/-
  The document's answers about lines: how many, starts, ends, lines of offsets, columns, places of columns.
-/
import Derived.Test.YtlfhfpjffdaomaaDoorLineRef
import Derived.Test.YtlfhfpjffdaomaaDoorLineCalls
namespace Go.Proofs.YtlfhfpjffdaomaaDoor
open Go.RowKit
/-- The document's lines, as memory holds them. -/
theorem lines_got (s : ByteArray) (hs : s.size ≤ 1000000000000) (w : World) :
    Calls Tryd.prog 44 #[.string s] w fun e w' => (∃ A c, e = .returned (.slice A (Line.L s.data.toList).length c) ∧ Pairs w' A (Line.L s.data.toList)) ∧ Below w.heap.size w w' := by
  refine (ref_lines s hs w).mono ?_
  rintro e w' ⟨⟨v, rfl, hown⟩, hb⟩
  obtain ⟨a, c, rfl⟩ := own_long hown
  exact ⟨⟨a, c, rfl, Pairs.of_own hown rfl⟩, hb⟩
theorem ref4_Count (s : ByteArray) (hs : s.size ≤ 1000000000000) (w : World) :
    Calls Tryd.prog 29 #[.string s] w fun e w' => e = .returned (.int .i64 ((Line.L s.data.toList).length : Nat)) ∧ Below w.heap.size w w' := by
  have c1 := Lib.hid (lines_got s hs w)
  generalize Line.L s.data.toList = R at *
  go_enter Tryd.func29, Tryd.ntmps29
  go_wp2_with (go_at_call 44; refine c1.out.mono ?_; rintro e w1 ⟨⟨A, c, rfl, hI⟩, hb⟩)
  go_ret
  exact ⟨rfl, hb⟩
theorem ref4_Start (s : ByteArray) (k : Int) (hs : s.size ≤ 1000000000000) (w : World) :
    Calls Tryd.prog 30 #[.string s, .int .i64 k] w fun e w' => e = .returned (.int .i64 (Line.start s.data.toList k)) ∧ Below w.heap.size w w' := by
  have hlen := Line.L_length s.data.toList
  rw [data_len] at hlen
  have c1 := Lib.hid (lines_got s hs w)
  by_cases h0 : k < 0
  · have H : Hid (Line.start s.data.toList k = -1) := Line.start_none (Line.line_low h0)
    generalize Line.L s.data.toList = R at *
    go_enter Tryd.func30, Tryd.ntmps30
    go_wp2_with (go_at_call 44; refine c1.out.mono ?_; rintro e w1 ⟨⟨A, c, rfl, hI⟩, hb⟩)
    go_ret
    exact ⟨by rw [H.out]; rfl, hb⟩
  · by_cases h1 : ((Line.L s.data.toList).length : Int) ≤ k
    · have H : Hid (Line.start s.data.toList k = -1) := Line.start_none (Line.line_past h1)
      generalize Line.L s.data.toList = R at *
      go_enter Tryd.func30, Tryd.ntmps30
      go_wp2_with (go_at_call 44; refine c1.out.mono ?_; rintro e w1 ⟨⟨A, c, rfl, hI⟩, hb⟩)
      go_ret
      exact ⟨by rw [H.out]; rfl, hb⟩
    · obtain ⟨n, rfl⟩ : ∃ n : Nat, k = n := ⟨k.toNat, by omega⟩
      have hlt : n < (Line.L s.data.toList).length := by omega
      have hg : (Line.L s.data.toList)[n]? = some (Line.L s.data.toList)[n] := List.getElem?_eq_getElem hlt
      have H : Hid (Line.start s.data.toList n = ((Line.L s.data.toList)[n].1 : Nat)) := Line.start_some (by rw [Line.line_nat, hg])
      have G := Lib.hid hg
      generalize (Line.L s.data.toList)[n] = x at *
      generalize Line.L s.data.toList = R at *
      clear hg h0 h1
      go_enter Tryd.func30, Tryd.ntmps30
      go_wp2_with (go_at_call 44; refine c1.out.mono ?_; rintro e w1 ⟨⟨A, c, rfl, hI⟩, hb⟩; obtain ⟨g, rfl, q1, q2⟩ := hI.at_ G.out; clear hI)
      go_ret
      exact ⟨by rw [H.out]; rfl, hb⟩
theorem ref4_End (s : ByteArray) (k : Int) (hs : s.size ≤ 1000000000000) (w : World) :
    Calls Tryd.prog 31 #[.string s, .int .i64 k] w fun e w' => e = .returned (.int .i64 (Line.stop s.data.toList k)) ∧ Below w.heap.size w w' := by
  have hlen := Line.L_length s.data.toList
  rw [data_len] at hlen
  have c1 := Lib.hid (lines_got s hs w)
  by_cases h0 : k < 0
  · have H : Hid (Line.stop s.data.toList k = -1) := Line.stop_none (Line.line_low h0)
    generalize Line.L s.data.toList = R at *
    go_enter Tryd.func31, Tryd.ntmps31
    go_wp2_with (go_at_call 44; refine c1.out.mono ?_; rintro e w1 ⟨⟨A, c, rfl, hI⟩, hb⟩)
    go_ret
    exact ⟨by rw [H.out]; rfl, hb⟩
  · by_cases h1 : ((Line.L s.data.toList).length : Int) ≤ k
    · have H : Hid (Line.stop s.data.toList k = -1) := Line.stop_none (Line.line_past h1)
      generalize Line.L s.data.toList = R at *
      go_enter Tryd.func31, Tryd.ntmps31
      go_wp2_with (go_at_call 44; refine c1.out.mono ?_; rintro e w1 ⟨⟨A, c, rfl, hI⟩, hb⟩)
      go_ret
      exact ⟨by rw [H.out]; rfl, hb⟩
    · obtain ⟨n, rfl⟩ : ∃ n : Nat, k = n := ⟨k.toNat, by omega⟩
      have hlt : n < (Line.L s.data.toList).length := by omega
      have hg : (Line.L s.data.toList)[n]? = some (Line.L s.data.toList)[n] := List.getElem?_eq_getElem hlt
      have H : Hid (Line.stop s.data.toList n = ((Line.L s.data.toList)[n].2 : Nat)) := Line.stop_some (by rw [Line.line_nat, hg])
      have G := Lib.hid hg
      generalize (Line.L s.data.toList)[n] = x at *
      generalize Line.L s.data.toList = R at *
      clear hg h0 h1
      go_enter Tryd.func31, Tryd.ntmps31
      go_wp2_with (go_at_call 44; refine c1.out.mono ?_; rintro e w1 ⟨⟨A, c, rfl, hI⟩, hb⟩; obtain ⟨g, rfl, q1, q2⟩ := hI.at_ G.out; clear hI)
      go_ret
      exact ⟨by rw [H.out]; rfl, hb⟩
/-- From the last line back to the one that begins at p or ahead of it. -/
theorem Line.of_back {s : List UInt8} {k p : Nat} {x : Nat × Nat} (hk : (L s)[k]? = some x) (hp : p ≤ s.length) (h1 : x.1 ≤ p) (hn : ∀ j y, k < j → (L s)[j]? = some y → p < y.1) : of_ s p = k := by
  have W := L_whole (L_valid hk)
  refine of_at hk h1 ?_
  cases hy : (L s)[k + 1]? with
  | none => rw [W.last k x hk hy]; exact hp
  | some y =>
    have := (W.more k x y hk hy).1
    have := hn (k + 1) y (by omega) hy
    omega
theorem Line.of_back0 {s : List UInt8} {p : Nat} (hn : ∀ (j : Nat) y, (L s)[j]? = some y → p < y.1) (hp : p ≤ s.length) : of_ s p = -1 := by
  cases hv : Utf.valid s with
  | false => exact of_none (Or.inr (Or.inr hv))
  | true =>
    obtain ⟨k, x, _, hk, h1, _⟩ := idx_find hv hp
    have := hn k x hk
    omega
set_option maxHeartbeats 1000000 in
set_option maxRecDepth 100000 in
theorem ref4_Of (s : ByteArray) (p : Int) (hs : s.size ≤ 1000000000000) (w : World) :
    Calls Tryd.prog 74 #[.string s, .int .i64 p] w fun e w' => e = .returned (.int .i64 (Line.of_ s.data.toList p)) ∧ Below w.heap.size w w' := by
  have hl := data_len s
  have hlen := Line.L_length s.data.toList
  rw [data_len] at hlen
  have c1 := Lib.hid (lines_got s hs w)
  by_cases h0 : p < 0
  · have H : Hid (Line.of_ s.data.toList p = -1) := Line.of_none (Or.inl h0)
    go_enter Tryd.func74, Tryd.ntmps74
    go_wp2_with (go_at_call 44; refine c1.out.mono ?_; rintro e w1 ⟨⟨A, c, rfl, hI⟩, hb⟩)
    go_ret
    exact ⟨by rw [H.out]; rfl, hb⟩
  · by_cases h1 : (s.size : Int) < p
    · have H : Hid (Line.of_ s.data.toList p = -1) := Line.of_none (Or.inr (Or.inl (by omega)))
      go_enter Tryd.func74, Tryd.ntmps74
      go_wp2_with (go_at_call 44; refine c1.out.mono ?_; rintro e w1 ⟨⟨A, c, rfl, hI⟩, hb⟩)
      go_ret
      exact ⟨by rw [H.out]; rfl, hb⟩
    · obtain ⟨n, rfl⟩ : ∃ n : Nat, p = n := ⟨p.toNat, by omega⟩
      have hn : n ≤ s.data.toList.length := by omega
      have S1 : Hid (∀ (k : Nat) x, (Line.L s.data.toList)[k]? = some x → x.1 ≤ n → (∀ j y, k < j → (Line.L s.data.toList)[j]? = some y → n < y.1) → Line.of_ s.data.toList n = k) :=
        fun k x hk h2 h3 => Line.of_back hk hn h2 h3
      have S2 : Hid ((∀ (j : Nat) y, (Line.L s.data.toList)[j]? = some y → n < y.1) → Line.of_ s.data.toList n = -1) := fun h => Line.of_back0 h hn
      have d1 : n ≤ s.size := by omega
      clear h0 h1 hl
      generalize Line.L s.data.toList = R at *
      go_enter Tryd.func74, Tryd.ntmps74
      go_wp2_with fail
      refine c1.out.mono ?_
      rintro e w1 ⟨⟨A, c, rfl, hI⟩, hb⟩
      go_wp2_with fail
      go_loop [6] (fun v => ∃ m : Nat, m ≤ R.length ∧ v = .int .i64 ((m : Int) - 1) ∧ Hid (∀ (j : Nat) y, m ≤ j → R[j]? = some y → n < y.1)) (fun v => (intOf v + 1).toNat)
      case atStart => exact ⟨R.length, Nat.le_refl _, rfl, fun j y hj h => by rw [List.getElem?_eq_none hj] at h; cases h⟩
      case round =>
        obtain ⟨m, hm, rfl, N⟩ := hrel
        cases m with
        | zero =>
          have H : Hid (Line.of_ s.data.toList n = -1) := S2.out (fun j y h => N.out j y (Nat.zero_le _) h)
          clear S1 S2 N
          go_wp2
          go_ret
          exact ⟨by rw [H.out]; rfl, hb⟩
        | succ k =>
          have hlt : k < R.length := hm
          have hg : R[k]? = some R[k] := List.getElem?_eq_getElem hlt
          obtain ⟨g, hA, q1, q2⟩ := hI.at_ hg
          have ek : ((k + 1 : Nat) : Int) - 1 = (k : Int) := by omega
          have ek2 : ((k : Nat) : Int) + 1 - 1 = (k : Int) := by omega
          by_cases hle : R[k].1 ≤ n
          · have H : Hid (Line.of_ s.data.toList n = k) := S1.out k _ hg hle (fun j y hj h => N.out j y hj h)
            subst hA
            rw [ek]
            generalize R[k] = x at *
            clear S1 S2 N hg hI ek2 ek
            go_wp2
            go_ret
            exact ⟨by rw [H.out]; rfl, hb⟩
          · have N2 : Hid (∀ (j : Nat) y, k ≤ j → R[j]? = some y → n < y.1) := fun j y hj h => by
              rcases Nat.lt_or_ge k j with h3 | h3
              · exact N.out j y h3 h
              · rw [show j = k by omega, hg] at h
                injection h with h
                subst h
                omega
            subst hA
            rw [ek]
            generalize R[k] = x at *
            clear S1 S2 N hg ek2 ek
            go_wp2
            go_round
            case rel => exact ⟨k, by omega, by go_num, N2⟩
            case measure => simp [intOf]
end Go.Proofs.YtlfhfpjffdaomaaDoor
