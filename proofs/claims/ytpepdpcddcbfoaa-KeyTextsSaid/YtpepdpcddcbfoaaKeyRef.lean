/-
  The document's answer: signs, names, keys.
-/
import Derived.Test.YtpepdpcddcbfoaaKeyParse
import Derived.Test.YtpepdpcddcbfoaaUtfIs
namespace Go.Proofs.Ytpepdpcddcbfoaa
open Go.RowKit
set_option maxRecDepth 100000 in
theorem ref13_Sign (k : ByteArray) (w : World) :
    Calls Try.prog 10 #[.string k] w fun e w' => e = .returned (.bool (Utf.one k.data.toList && Key.sgn k.data.toList)) ∧ Below w.heap.size w w' := by
  have c1 := Lib.hid (ref_Is k)
  have hl : k.data.toList.length = k.size := by simp
  cases ho : Utf.one k.data.toList with
  | false =>
    rw [ho] at c1
    go_enter Try.func10, Try.ntmps10
    go_wp2_with (go_at_call 25; refine (c1.out _).mono ?_; rintro e w1 ⟨rfl, hb⟩)
    go_ret
    exact ⟨rfl, hb⟩
  | true =>
    rw [ho] at c1
    have hp := Utf.one_pos ho
    rw [hl] at hp
    by_cases h1 : 1 < k.size
    · have hsg : Key.sgn k.data.toList = true := by
        have h128 : 128 ≤ Key.cp k.data.toList := by
          rcases Key.one_cases ho with ⟨a, e⟩ | ⟨a, b, e⟩ | ⟨a, b, c, e⟩ | ⟨a, b, c, d, e⟩
          · rw [e] at hl; simp at hl; omega
          · rw [e] at ho ⊢; exact (Key.cp2 ho).1
          · rw [e] at ho ⊢; have := (Key.cp3 ho).1; omega
          · rw [e] at ho ⊢; have := (Key.cp4 ho).1; omega
        simp only [Key.sgn, Bool.and_eq_true, decide_eq_true_eq]
        omega
      rw [hsg]
      clear ho hl hsg
      go_enter Try.func10, Try.ntmps10
      go_wp2_with (go_at_call 25; refine (c1.out _).mono ?_; rintro e w1 ⟨rfl, hb⟩)
      go_ret
      exact ⟨rfl, hb⟩
    · have hk : k.data.toList = [k[0]] := by
        have h2 : k.data.toList.length = 1 := by omega
        obtain ⟨b, hb⟩ := List.length_eq_one_iff.1 h2
        have h3 := byte_get k hp
        rw [hb] at h3 ⊢
        simp only [List.getElem?_cons_zero] at h3
        injection h3 with h3
        rw [h3]
      have h128 : k[0].toNat < 128 := by rw [hk] at ho; exact (Utf.one1 _).1 ho
      have hsg : Key.sgn k.data.toList = (decide (32 ≤ k[0].toNat) && decide (k[0].toNat ≠ 127)) := by rw [hk]; rfl
      rw [hsg]
      clear ho hl hsg hk
      by_cases h32 : 32 ≤ k[0].toNat
      · by_cases h126 : k[0].toNat ≤ 126
        · have h7 : (decide (32 ≤ k[0].toNat) && decide (k[0].toNat ≠ 127)) = true := by simp; omega
          rw [h7]
          have d1 : decide ((1 : Int) < (k.size : Int)) = false := by simp; omega
          have d2 : decide ((k[0].toNat : Int) ≤ 126) = true := by simp; omega
          clear h7
          go_enter Try.func10, Try.ntmps10
          go_wp2_with (go_at_call 25; refine (c1.out _).mono ?_; rintro e w1 ⟨rfl, hb⟩)
          go_ret
          exact ⟨rfl, hb⟩
        · have h7 : (decide (32 ≤ k[0].toNat) && decide (k[0].toNat ≠ 127)) = false := by simp; omega
          rw [h7]
          have d1 : decide ((1 : Int) < (k.size : Int)) = false := by simp; omega
          have d2 : decide ((k[0].toNat : Int) ≤ 126) = false := by simp; omega
          clear h7
          go_enter Try.func10, Try.ntmps10
          go_wp2_with (go_at_call 25; refine (c1.out _).mono ?_; rintro e w1 ⟨rfl, hb⟩)
          go_ret
          exact ⟨rfl, hb⟩
      · have h7 : (decide (32 ≤ k[0].toNat) && decide (k[0].toNat ≠ 127)) = false := by simp; omega
        rw [h7]
        have d1 : decide ((1 : Int) < (k.size : Int)) = false := by simp; omega
        clear h7
        go_enter Try.func10, Try.ntmps10
        go_wp2_with (go_at_call 25; refine (c1.out _).mono ?_; rintro e w1 ⟨rfl, hb⟩)
        go_ret
        exact ⟨rfl, hb⟩
theorem text_test (k : ByteArray) (m : UInt8) : (k.toList == [m]) = decide (k.data.toList = [m]) := by
  have e : k.toList = k.data.toList := bs_tl k.data.toList
  rw [e, Bool.eq_iff_iff]
  simp
/-- What the document's answer calls a name. -/
def Key.nameK (l : List UInt8) : List UInt8 := if Utf.one l then Key.nameR l else []
theorem Key.nameK_no {l : List UInt8} (h : ∀ c q, Key.nm c = some q → l ≠ [UInt8.ofNat c]) : Key.nameK l = if Utf.one l && Key.sgn l then l else [] := by
  unfold Key.nameK
  cases ho : Utf.one l with
  | false => rfl
  | true =>
    have hn : Key.nm (Key.cp l) = none := by
      cases hn : Key.nm (Key.cp l) with
      | none => rfl
      | some q => exact absurd (Key.nm_cp ho hn) (h _ q hn)
    simp only [if_true, Bool.true_and, Key.nameR, hn]
set_option maxHeartbeats 1000000 in
set_option maxRecDepth 100000 in
theorem ref13_Name (k : ByteArray) (w : World) :
    Calls Try.prog 12 #[.string k] w fun e w' => e = .returned (.string (bs (Key.nameK k.data.toList))) ∧ Below w.heap.size w w' := by
  have c1 := Lib.hid (ref13_Sign k)
  generalize hN : Key.nameK k.data.toList = ans
  have HN := Lib.hid hN
  clear hN
  by_cases h8 : k.data.toList = [8]
  · have H : Hid (ans = Key.nBack) := by show _ = _; rw [← HN.out, h8]; rfl
    have g8 : (k.toList == [8]) = true := by rw [text_test, h8]; decide
    clear h8 c1 HN
    go_enter Try.func12, Try.ntmps12
    go_wp2
    go_ret
    exact ⟨by rw [H.out]; rfl, Below.refl _ _⟩
  have g8 : (k.toList == [8]) = false := by rw [text_test]; simpa using h8
  by_cases h9 : k.data.toList = [9]
  · have H : Hid (ans = Key.nTab) := by show _ = _; rw [← HN.out, h9]; rfl
    have g9 : (k.toList == [9]) = true := by rw [text_test, h9]; decide
    clear h9 c1 HN
    go_enter Try.func12, Try.ntmps12
    go_wp2
    go_ret
    exact ⟨by rw [H.out]; rfl, Below.refl _ _⟩
  have g9 : (k.toList == [9]) = false := by rw [text_test]; simpa using h9
  by_cases h13 : k.data.toList = [13]
  · have H : Hid (ans = Key.nEnter) := by show _ = _; rw [← HN.out, h13]; rfl
    have g13 : (k.toList == [13]) = true := by rw [text_test, h13]; decide
    clear h13 c1 HN
    go_enter Try.func12, Try.ntmps12
    go_wp2
    go_ret
    exact ⟨by rw [H.out]; rfl, Below.refl _ _⟩
  have g13 : (k.toList == [13]) = false := by rw [text_test]; simpa using h13
  by_cases h18 : k.data.toList = [18]
  · have H : Hid (ans = Key.nRedo) := by show _ = _; rw [← HN.out, h18]; rfl
    have g18 : (k.toList == [18]) = true := by rw [text_test, h18]; decide
    clear h18 c1 HN
    go_enter Try.func12, Try.ntmps12
    go_wp2
    go_ret
    exact ⟨by rw [H.out]; rfl, Below.refl _ _⟩
  have g18 : (k.toList == [18]) = false := by rw [text_test]; simpa using h18
  by_cases h21 : k.data.toList = [21]
  · have H : Hid (ans = Key.nWipe) := by show _ = _; rw [← HN.out, h21]; rfl
    have g21 : (k.toList == [21]) = true := by rw [text_test, h21]; decide
    clear h21 c1 HN
    go_enter Try.func12, Try.ntmps12
    go_wp2
    go_ret
    exact ⟨by rw [H.out]; rfl, Below.refl _ _⟩
  have g21 : (k.toList == [21]) = false := by rw [text_test]; simpa using h21
  by_cases h23 : k.data.toList = [23]
  · have H : Hid (ans = Key.nChop) := by show _ = _; rw [← HN.out, h23]; rfl
    have g23 : (k.toList == [23]) = true := by rw [text_test, h23]; decide
    clear h23 c1 HN
    go_enter Try.func12, Try.ntmps12
    go_wp2
    go_ret
    exact ⟨by rw [H.out]; rfl, Below.refl _ _⟩
  have g23 : (k.toList == [23]) = false := by rw [text_test]; simpa using h23
  by_cases h27 : k.data.toList = [27]
  · have H : Hid (ans = Key.nEsc) := by show _ = _; rw [← HN.out, h27]; rfl
    have g27 : (k.toList == [27]) = true := by rw [text_test, h27]; decide
    clear h27 c1 HN
    go_enter Try.func12, Try.ntmps12
    go_wp2
    go_ret
    exact ⟨by rw [H.out]; rfl, Below.refl _ _⟩
  have g27 : (k.toList == [27]) = false := by rw [text_test]; simpa using h27
  by_cases h60 : k.data.toList = [60]
  · have H : Hid (ans = Key.nLt) := by show _ = _; rw [← HN.out, h60]; rfl
    have g60 : (k.toList == [60]) = true := by rw [text_test, h60]; decide
    clear h60 c1 HN
    go_enter Try.func12, Try.ntmps12
    go_wp2
    go_ret
    exact ⟨by rw [H.out]; rfl, Below.refl _ _⟩
  have g60 : (k.toList == [60]) = false := by rw [text_test]; simpa using h60
  have H := Lib.hid (Key.nameK_no (l := k.data.toList) (fun c q hc e => by
    have h2 := Key.nm_tab.1 hc
    simp only [Key.tab, List.mem_cons, Prod.mk.injEq, List.not_mem_nil, or_false] at h2
    rcases h2 with ⟨rfl, _⟩ | ⟨rfl, _⟩ | ⟨rfl, _⟩ | ⟨rfl, _⟩ | ⟨rfl, _⟩ | ⟨rfl, _⟩ | ⟨rfl, _⟩ | ⟨rfl, _⟩
    · exact h8 e
    · exact h9 e
    · exact h13 e
    · exact h18 e
    · exact h21 e
    · exact h23 e
    · exact h27 e
    · exact h60 e))
  cases hsg : (Utf.one k.data.toList && Key.sgn k.data.toList) with
  | true =>
    rw [hsg] at c1 H
    simp only [if_true] at H
    clear h8 h9 h13 h18 h21 h23 h27 h60 hsg
    go_enter Try.func12, Try.ntmps12
    go_wp2_with (go_at_call 10; refine (c1.out _).mono ?_; rintro e w1 ⟨rfl, hb⟩)
    go_ret
    exact ⟨by rw [← HN.out, H.out]; rfl, hb⟩
  | false =>
    rw [hsg] at c1 H
    simp only [Bool.false_eq_true, if_false] at H
    clear h8 h9 h13 h18 h21 h23 h27 h60 hsg
    go_enter Try.func12, Try.ntmps12
    go_wp2_with (go_at_call 10; refine (c1.out _).mono ?_; rintro e w1 ⟨rfl, hb⟩)
    go_ret
    exact ⟨by rw [← HN.out, H.out]; rfl, hb⟩
theorem Key.nameK_empty (l : List UInt8) : (bs (Key.nameK l)).toList.isEmpty = !(Utf.one l && Key.isKey l) := by
  rw [bs_tl]
  unfold Key.nameK
  cases ho : Utf.one l with
  | false => rfl
  | true =>
    simp only [if_true, Bool.true_and]
    have h := Key.nameR_key ho
    cases hk : Key.isKey l with
    | true =>
      rw [hk] at h
      cases hn : Key.nameR l with
      | nil => exact absurd (h.1 hn) (by simp)
      | cons a t => rfl
    | false => rw [h.2 hk]; rfl
set_option maxRecDepth 100000 in
theorem ref13_Right (k : ByteArray) (w : World) :
    Calls Try.prog 8 #[.string k] w fun e w' => e = .returned (.bool (Utf.one k.data.toList && Key.isKey k.data.toList)) ∧ Below w.heap.size w w' := by
  have c1 := Lib.hid (ref13_Name k)
  have h1 := Key.nameK_empty k.data.toList
  generalize Key.nameK k.data.toList = nn at *
  cases hk : (Utf.one k.data.toList && Key.isKey k.data.toList) with
  | true =>
    rw [hk] at h1
    simp only [Bool.not_true] at h1
    clear hk
    go_enter Try.func8, Try.ntmps8
    go_wp2_with (go_at_call 12; refine (c1.out _).mono ?_; rintro e w1 ⟨rfl, hb⟩)
    go_ret
    exact ⟨rfl, hb⟩
  | false =>
    rw [hk] at h1
    simp only [Bool.not_false] at h1
    clear hk
    go_enter Try.func8, Try.ntmps8
    go_wp2_with (go_at_call 12; refine (c1.out _).mono ?_; rintro e w1 ⟨rfl, hb⟩)
    go_ret
    exact ⟨rfl, hb⟩
end Go.Proofs.Ytpepdpcddcbfoaa
