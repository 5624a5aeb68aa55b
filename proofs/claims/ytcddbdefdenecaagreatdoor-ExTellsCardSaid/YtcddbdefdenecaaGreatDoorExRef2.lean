/-
  The document's answer for package ex: a number's digits, an address as it is told and as it is read, words.
-/
import Derived.Test.YtcddbdefdenecaaGreatDoorExRef
namespace Go.Proofs.YtcddbdefdenecaaGreatDoor
open Go.RowKit Go.Shelf
open Ex (Ln)
set_option maxHeartbeats 1000000 in
set_option maxRecDepth 100000 in
theorem ref27_Digits : ∀ (u : Nat) (w : World), u ≤ 999999 →
    Calls Tryz.prog 52 #[.int .i64 u] w fun e w' => e = .returned (.string (bs (Lib.decDigits u))) ∧ Below w.heap.size w w' := by
  intro u
  induction u using Nat.strongRecOn with
  | ind u ih =>
    intro w hu
    by_cases h10 : u < 10
    · have H := Lib.hid (digits_small h10)
      have hcv := fun x0 => run_bytes1 (P := Tryz.prog) w 97 9 5 x0 Tryz.underlying97 Tryz.underlying5 Tryz.underlying9
      clear ih
      go_enter Tryz.func52, Tryz.ntmps52
      go_wp2_with fail
      go_ret
      exact ⟨by rw [H.out]; rfl, (Below.refl _ w).alloc (Nat.le_refl _) _⟩
    · have H := Lib.hid (digits_great h10)
      have IH1 := Lib.hid (fun w => ih (u / 10) (by omega) w (by omega))
      have IH2 := Lib.hid (fun w => ih (u % 10) (by omega) w (by omega))
      rw [show ((u / 10 : Nat) : Int) = (u : Int) / 10 by omega] at IH1
      rw [show ((u % 10 : Nat) : Int) = (u : Int) % 10 by omega] at IH2
      have hl1 := digits_length (u / 10) (by omega)
      have hl2 := digits_length (u % 10) (by omega)
      have hs1 : (bs (Lib.decDigits (u / 10))).size ≤ 21 := by rw [bs_size]; exact hl1
      have hs2 : (bs (Lib.decDigits (u % 10))).size ≤ 21 := by rw [bs_size]; exact hl2
      have hsum : ¬ 9223372036854775807 < (bs (Lib.decDigits (u / 10))).size + (bs (Lib.decDigits (u % 10))).size := by omega
      clear ih hl1 hl2
      go_enter Tryz.func52, Tryz.ntmps52
      go_wp2_with fail
      refine (IH1.out _).mono ?_
      rintro e w1 ⟨rfl, hb1⟩
      go_wp2_with fail
      refine (IH2.out _).mono ?_
      rintro e w2 ⟨rfl, hb2⟩
      go_wp2_with fail
      go_ret
      exact ⟨by rw [H.out, ← bs_append]; rfl, hb1.trans (hb2.mono hb1.size)⟩
theorem Ex.told_len (a : Int) : (Ex.told a).length ≤ 21 := by
  unfold Ex.told
  split
  · simp
  split
  · simp
  split
  · simp
  · rename_i h1 h2 h3
    rw [Ex.digits_dec]; exact digits_length a.toNat (by omega)
set_option maxHeartbeats 1000000 in
set_option maxRecDepth 100000 in
theorem ref27_told (a : Int) (w : World) : Calls Tryz.prog 31 #[.int .i64 a] w fun e w' => e = .returned (.string (bs (Ex.told a))) ∧ Below w.heap.size w w' := by
  unfold Ex.told
  by_cases h1 : a = -1
  · subst h1
    go_enter Tryz.func31, Tryz.ntmps31
    go_wp2
    go_ret
    exact ⟨rfl, Below.refl _ _⟩
  by_cases h2 : a = -2
  · subst h2
    go_enter Tryz.func31, Tryz.ntmps31
    go_wp2
    go_ret
    exact ⟨rfl, Below.refl _ _⟩
  rw [if_neg h1, if_neg h2]
  have g1 : (a == -1) = false := by rw [beq_eq_false_iff_ne]; exact h1
  have g2 : (a == -2) = false := by rw [beq_eq_false_iff_ne]; exact h2
  by_cases h3 : a < 1
  · rw [if_pos (.inl h3)]
    have g3 : decide (a < 1) = true := decide_eq_true h3
    clear h1 h2 h3
    go_enter Tryz.func31, Tryz.ntmps31
    go_wp2
    go_ret
    exact ⟨rfl, Below.refl _ _⟩
  have g3 : decide (a < 1) = false := decide_eq_false h3
  by_cases h4 : 999999 < a
  · rw [if_pos (.inr h4)]
    have g4 : decide (999999 < a) = true := decide_eq_true h4
    clear h1 h2 h3 h4
    go_enter Tryz.func31, Tryz.ntmps31
    go_wp2
    go_ret
    exact ⟨rfl, Below.refl _ _⟩
  have g4 : decide (999999 < a) = false := decide_eq_false h4
  rw [if_neg (by omega), Ex.digits_dec]
  have D := Lib.hid (fun w => ref27_Digits a.toNat w (by omega))
  rw [show ((a.toNat : Nat) : Int) = a by omega] at D
  generalize bs (Lib.decDigits a.toNat) = t at *
  clear h1 h2 h3 h4
  go_enter Tryz.func31, Tryz.ntmps31
  go_wp2_with (go_at_call 52; refine (D.out _).mono ?_; rintro e w1 ⟨rfl, hb⟩)
  go_ret
  exact ⟨rfl, hb⟩
def Ex.kindV (x : Option (Bool × Nat)) : Value := match x with | some (r, k) => .tuple #[.bool r, .int .i64 (k : Int), .bool true] | none => .tuple #[.bool false, .int .i64 0, .bool false]
set_option maxHeartbeats 1000000 in
set_option maxRecDepth 100000 in
theorem ref27_names_0 (w : World) : Calls Tryz.prog 23 #[.string ⟨#[]⟩] w fun e w' => e = .returned (Ex.kindV (some (true, 0))) ∧ w = w' := by
  go_enter Tryz.func23, Tryz.ntmps23
  go_wp2
  go_ret3
  exact ⟨rfl, rfl⟩
set_option maxHeartbeats 1000000 in
set_option maxRecDepth 100000 in
theorem ref27_names_1 (w : World) : Calls Tryz.prog 23 #[.string ⟨#[100]⟩] w fun e w' => e = .returned (Ex.kindV (some (true, 0))) ∧ w = w' := by
  go_enter Tryz.func23, Tryz.ntmps23
  go_wp2
  go_ret3
  exact ⟨rfl, rfl⟩
set_option maxHeartbeats 1000000 in
set_option maxRecDepth 100000 in
theorem ref27_names_2 (w : World) : Calls Tryz.prog 23 #[.string ⟨#[121]⟩] w fun e w' => e = .returned (Ex.kindV (some (true, 0))) ∧ w = w' := by
  go_enter Tryz.func23, Tryz.ntmps23
  go_wp2
  go_ret3
  exact ⟨rfl, rfl⟩
set_option maxHeartbeats 1000000 in
set_option maxRecDepth 100000 in
theorem ref27_names_3 (w : World) : Calls Tryz.prog 23 #[.string ⟨#[62]⟩] w fun e w' => e = .returned (Ex.kindV (some (true, 0))) ∧ w = w' := by
  go_enter Tryz.func23, Tryz.ntmps23
  go_wp2
  go_ret3
  exact ⟨rfl, rfl⟩
set_option maxHeartbeats 1000000 in
set_option maxRecDepth 100000 in
theorem ref27_names_4 (w : World) : Calls Tryz.prog 23 #[.string ⟨#[60]⟩] w fun e w' => e = .returned (Ex.kindV (some (true, 0))) ∧ w = w' := by
  go_enter Tryz.func23, Tryz.ntmps23
  go_wp2
  go_ret3
  exact ⟨rfl, rfl⟩
set_option maxHeartbeats 1000000 in
set_option maxRecDepth 100000 in
theorem ref27_names_5 (w : World) : Calls Tryz.prog 23 #[.string ⟨#[106]⟩] w fun e w' => e = .returned (Ex.kindV (some (true, 0))) ∧ w = w' := by
  go_enter Tryz.func23, Tryz.ntmps23
  go_wp2
  go_ret3
  exact ⟨rfl, rfl⟩
set_option maxHeartbeats 1000000 in
set_option maxRecDepth 100000 in
theorem ref27_names_6 (w : World) : Calls Tryz.prog 23 #[.string ⟨#[115, 121, 110, 99]⟩] w fun e w' => e = .returned (Ex.kindV (some (false, 0))) ∧ w = w' := by
  go_enter Tryz.func23, Tryz.ntmps23
  go_wp2
  go_ret3
  exact ⟨rfl, rfl⟩
set_option maxHeartbeats 1000000 in
set_option maxRecDepth 100000 in
theorem ref27_names_7 (w : World) : Calls Tryz.prog 23 #[.string ⟨#[114, 101, 99, 111, 118, 101, 114]⟩] w fun e w' => e = .returned (Ex.kindV (some (false, 0))) ∧ w = w' := by
  go_enter Tryz.func23, Tryz.ntmps23
  go_wp2
  go_ret3
  exact ⟨rfl, rfl⟩
set_option maxHeartbeats 1000000 in
set_option maxRecDepth 100000 in
theorem ref27_names_8 (w : World) : Calls Tryz.prog 23 #[.string ⟨#[119]⟩] w fun e w' => e = .returned (Ex.kindV (some (false, 1))) ∧ w = w' := by
  go_enter Tryz.func23, Tryz.ntmps23
  go_wp2
  go_ret3
  exact ⟨rfl, rfl⟩
set_option maxHeartbeats 1000000 in
set_option maxRecDepth 100000 in
theorem ref27_names_9 (w : World) : Calls Tryz.prog 23 #[.string ⟨#[101]⟩] w fun e w' => e = .returned (Ex.kindV (some (false, 2))) ∧ w = w' := by
  go_enter Tryz.func23, Tryz.ntmps23
  go_wp2
  go_ret3
  exact ⟨rfl, rfl⟩
set_option maxHeartbeats 1000000 in
set_option maxRecDepth 100000 in
theorem ref27_names_10 (w : World) : Calls Tryz.prog 23 #[.string ⟨#[101, 97, 114, 108, 105, 101, 114]⟩] w fun e w' => e = .returned (Ex.kindV (some (false, 3))) ∧ w = w' := by
  go_enter Tryz.func23, Tryz.ntmps23
  go_wp2
  go_ret3
  exact ⟨rfl, rfl⟩
set_option maxHeartbeats 1000000 in
set_option maxRecDepth 100000 in
theorem ref27_names_11 (w : World) : Calls Tryz.prog 23 #[.string ⟨#[108, 97, 116, 101, 114]⟩] w fun e w' => e = .returned (Ex.kindV (some (false, 3))) ∧ w = w' := by
  go_enter Tryz.func23, Tryz.ntmps23
  go_wp2
  go_ret3
  exact ⟨rfl, rfl⟩
set_option maxHeartbeats 1000000 in
set_option maxRecDepth 100000 in
theorem ref27_names_12 (w : World) : Calls Tryz.prog 23 #[.string ⟨#[117, 110, 100, 111]⟩] w fun e w' => e = .returned (Ex.kindV (some (false, 4))) ∧ w = w' := by
  go_enter Tryz.func23, Tryz.ntmps23
  go_wp2
  go_ret3
  exact ⟨rfl, rfl⟩
set_option maxHeartbeats 1000000 in
set_option maxRecDepth 100000 in
theorem ref27_names_13 (w : World) : Calls Tryz.prog 23 #[.string ⟨#[115]⟩] w fun e w' => e = .returned (Ex.kindV (some (true, 5))) ∧ w = w' := by
  go_enter Tryz.func23, Tryz.ntmps23
  go_wp2
  go_ret3
  exact ⟨rfl, rfl⟩
set_option maxHeartbeats 1000000 in
set_option maxRecDepth 100000 in
theorem ref27_names_none (s : ByteArray) (h0 : s.data.toList ≠ []) (h1 : s.data.toList ≠ [100]) (h2 : s.data.toList ≠ [121]) (h3 : s.data.toList ≠ [62]) (h4 : s.data.toList ≠ [60]) (h5 : s.data.toList ≠ [106]) (h6 : s.data.toList ≠ [115, 121, 110, 99]) (h7 : s.data.toList ≠ [114, 101, 99, 111, 118, 101, 114]) (h8 : s.data.toList ≠ [119]) (h9 : s.data.toList ≠ [101]) (h10 : s.data.toList ≠ [101, 97, 114, 108, 105, 101, 114]) (h11 : s.data.toList ≠ [108, 97, 116, 101, 114]) (h12 : s.data.toList ≠ [117, 110, 100, 111]) (h13 : s.data.toList ≠ [115]) (w : World) : Calls Tryz.prog 23 #[.string s] w fun e w' => e = .returned (Ex.kindV none) ∧ w = w' := by
  have g0 : s.toList.isEmpty = false := by rw [Lib.toList_data]; simpa using h0
  have g1 : (s.toList == [100]) = false := by rw [Lib.toList_data, beq_eq_false_iff_ne]; exact h1
  have g2 : (s.toList == [121]) = false := by rw [Lib.toList_data, beq_eq_false_iff_ne]; exact h2
  have g3 : (s.toList == [62]) = false := by rw [Lib.toList_data, beq_eq_false_iff_ne]; exact h3
  have g4 : (s.toList == [60]) = false := by rw [Lib.toList_data, beq_eq_false_iff_ne]; exact h4
  have g5 : (s.toList == [106]) = false := by rw [Lib.toList_data, beq_eq_false_iff_ne]; exact h5
  have g6 : (s.toList == [115, 121, 110, 99]) = false := by rw [Lib.toList_data, beq_eq_false_iff_ne]; exact h6
  have g7 : (s.toList == [114, 101, 99, 111, 118, 101, 114]) = false := by rw [Lib.toList_data, beq_eq_false_iff_ne]; exact h7
  have g8 : (s.toList == [119]) = false := by rw [Lib.toList_data, beq_eq_false_iff_ne]; exact h8
  have g9 : (s.toList == [101]) = false := by rw [Lib.toList_data, beq_eq_false_iff_ne]; exact h9
  have g10 : (s.toList == [101, 97, 114, 108, 105, 101, 114]) = false := by rw [Lib.toList_data, beq_eq_false_iff_ne]; exact h10
  have g11 : (s.toList == [108, 97, 116, 101, 114]) = false := by rw [Lib.toList_data, beq_eq_false_iff_ne]; exact h11
  have g12 : (s.toList == [117, 110, 100, 111]) = false := by rw [Lib.toList_data, beq_eq_false_iff_ne]; exact h12
  have g13 : (s.toList == [115]) = false := by rw [Lib.toList_data, beq_eq_false_iff_ne]; exact h13
  clear h0 h1 h2 h3 h4 h5 h6 h7 h8 h9 h10 h11 h12 h13
  go_enter Tryz.func23, Tryz.ntmps23
  go_wp2
  go_ret3
  exact ⟨rfl, rfl⟩
theorem ref27_names (s : ByteArray) (w : World) : Calls Tryz.prog 23 #[.string s] w fun e w' => e = .returned (Ex.kindV (Ex.kind s.data.toList)) ∧ w = w' := by
  by_cases h0 : s.data.toList = []
  · have e : s = ⟨#[]⟩ := by rw [← bs_data s, h0]; rfl
    subst e
    exact ref27_names_0 w
  by_cases h1 : s.data.toList = [100]
  · have e : s = ⟨#[100]⟩ := by rw [← bs_data s, h1]; rfl
    subst e
    exact ref27_names_1 w
  by_cases h2 : s.data.toList = [121]
  · have e : s = ⟨#[121]⟩ := by rw [← bs_data s, h2]; rfl
    subst e
    exact ref27_names_2 w
  by_cases h3 : s.data.toList = [62]
  · have e : s = ⟨#[62]⟩ := by rw [← bs_data s, h3]; rfl
    subst e
    exact ref27_names_3 w
  by_cases h4 : s.data.toList = [60]
  · have e : s = ⟨#[60]⟩ := by rw [← bs_data s, h4]; rfl
    subst e
    exact ref27_names_4 w
  by_cases h5 : s.data.toList = [106]
  · have e : s = ⟨#[106]⟩ := by rw [← bs_data s, h5]; rfl
    subst e
    exact ref27_names_5 w
  by_cases h6 : s.data.toList = [115, 121, 110, 99]
  · have e : s = ⟨#[115, 121, 110, 99]⟩ := by rw [← bs_data s, h6]; rfl
    subst e
    exact ref27_names_6 w
  by_cases h7 : s.data.toList = [114, 101, 99, 111, 118, 101, 114]
  · have e : s = ⟨#[114, 101, 99, 111, 118, 101, 114]⟩ := by rw [← bs_data s, h7]; rfl
    subst e
    exact ref27_names_7 w
  by_cases h8 : s.data.toList = [119]
  · have e : s = ⟨#[119]⟩ := by rw [← bs_data s, h8]; rfl
    subst e
    exact ref27_names_8 w
  by_cases h9 : s.data.toList = [101]
  · have e : s = ⟨#[101]⟩ := by rw [← bs_data s, h9]; rfl
    subst e
    exact ref27_names_9 w
  by_cases h10 : s.data.toList = [101, 97, 114, 108, 105, 101, 114]
  · have e : s = ⟨#[101, 97, 114, 108, 105, 101, 114]⟩ := by rw [← bs_data s, h10]; rfl
    subst e
    exact ref27_names_10 w
  by_cases h11 : s.data.toList = [108, 97, 116, 101, 114]
  · have e : s = ⟨#[108, 97, 116, 101, 114]⟩ := by rw [← bs_data s, h11]; rfl
    subst e
    exact ref27_names_11 w
  by_cases h12 : s.data.toList = [117, 110, 100, 111]
  · have e : s = ⟨#[117, 110, 100, 111]⟩ := by rw [← bs_data s, h12]; rfl
    subst e
    exact ref27_names_12 w
  by_cases h13 : s.data.toList = [115]
  · have e : s = ⟨#[115]⟩ := by rw [← bs_data s, h13]; rfl
    subst e
    exact ref27_names_13 w
  have hk : Ex.kind s.data.toList = none := by
    unfold Ex.kind
    simp only [List.mem_cons, List.not_mem_nil, or_false, h0, h1, h2, h3, h4, h5, h6, h7, h8, h9, h10, h11, h12, h13, if_false]
  rw [hk]
  exact ref27_names_none s h0 h1 h2 h3 h4 h5 h6 h7 h8 h9 h10 h11 h12 h13 w
namespace Ex
theorem while_drop (p : UInt8 → Bool) (s : List UInt8) : s.drop (s.takeWhile p).length = s.dropWhile p ∧ (s.takeWhile p).length ≤ s.length ∧ s.take (s.takeWhile p).length = s.takeWhile p := by
  have h := List.takeWhile_append_dropWhile (p := p) (l := s)
  refine ⟨?_, by have := congrArg List.length h; rw [List.length_append] at this; omega, ?_⟩
  · have e := List.drop_left (l₁ := s.takeWhile p) (l₂ := s.dropWhile p)
    rwa [h] at e
  · have e := List.take_left (l₁ := s.takeWhile p) (l₂ := s.dropWhile p)
    rwa [h] at e
theorem while_at {p : UInt8 → Bool} {s : List UInt8} {j : Nat} (h1 : (s.take j).all p = true) (hj : j ≤ s.length) (h2 : ∀ b, s[j]? = some b → p b = false) : (s.takeWhile p).length = j := by
  have e : s.takeWhile p = s.take j := by
    conv => lhs; rw [← List.take_append_drop j s]
    rw [List.takeWhile_append_of_pos (fun a ha => List.all_eq_true.1 h1 a ha)]
    have : (s.drop j).takeWhile p = [] := by
      cases hd : s.drop j with
      | nil => rfl
      | cons b t =>
        have hb : s[j]? = some b := by
          have := congrArg (fun l => l[0]?) hd
          simpa using this
        rw [List.takeWhile_cons, h2 b hb]; rfl
    rw [this, List.append_nil]
  rw [e, List.length_take]; omega
theorem all_upto {p : UInt8 → Bool} {s : List UInt8} {j : Nat} {b : UInt8} (h : s[j]? = some b) (h1 : (s.take j).all p = true) (hb : p b = true) : (s.take (j + 1)).all p = true := by
  rw [List.take_add_one, h, List.all_append, h1]; simp [hb]
/-- How many bytes an address has. -/
def addrK (s : List UInt8) : Nat := if s.head? = some 46 ∨ s.head? = some 36 then 1 else (s.takeWhile digit).length
theorem addr_rest (s : List UInt8) : (addr s).2.1 = s.drop (addrK s) ∧ addrK s ≤ s.length := by
  have hd := while_drop digit s
  unfold addr addrK
  by_cases h1 : s.head? = some 46
  · rw [if_pos h1, if_pos (.inl h1)]
    cases s with
    | nil => cases h1
    | cons b t => simp
  rw [if_neg h1]
  by_cases h2 : s.head? = some 36
  · rw [if_pos h2, if_pos (.inr h2)]
    cases s with
    | nil => cases h2
    | cons b t => simp
  rw [if_neg h2, if_neg (not_or.2 ⟨h1, h2⟩)]
  by_cases h3 : s.takeWhile digit = []
  · rw [if_pos h3, h3]; simp
  · rw [if_neg h3]; exact ⟨hd.1.symm, hd.2.1⟩
theorem addr_digits {s : List UInt8} (h1 : s.head? ≠ some 46) (h2 : s.head? ≠ some 36) {j : Nat} (hj : (s.takeWhile digit).length = j) : addrK s = j ∧ (j = 0 → (addr s).1 = 0 ∧ (addr s).2.2 = true) ∧ (0 < j → (addr s).1 = number (s.take j) ∧ (addr s).2.2 = decide (0 < number (s.take j))) := by
  unfold addrK addr
  rw [if_neg (not_or.2 ⟨h1, h2⟩), if_neg h1, if_neg h2]
  refine ⟨hj, fun h0 => ?_, fun h0 => ?_⟩
  · rw [if_pos (List.eq_nil_of_length_eq_zero (hj.trans h0))]; exact ⟨rfl, rfl⟩
  · have e : s.take j = s.takeWhile digit := by rw [← hj]; exact (while_drop digit s).2.2
    rw [if_neg (fun e => by rw [e] at hj; simp at hj; omega), e]; exact ⟨rfl, rfl⟩
theorem head_byte {s : ByteArray} (h : 0 < s.size) : s.data.toList.head? = some s[0] := by
  have e := byte_get s h
  cases hl : s.data.toList with
  | nil => rw [hl] at e; cases e
  | cons b t => rw [hl] at e; exact e
end Ex
set_option maxHeartbeats 1000000 in
set_option maxRecDepth 100000 in
theorem ref27_address_dot (s : ByteArray) (h1 : 0 < s.size) (h : s[0] = 46) (w : World) : Calls Tryz.prog 21 #[.string s] w fun e w' => e = .returned (.tuple #[.int .i64 (Ex.addr s.data.toList).1, .int .i64 (Ex.addrK s.data.toList : Nat), .bool (Ex.addr s.data.toList).2.2]) ∧ w = w' := by
  have hh := Ex.head_byte h1
  rw [h] at hh
  have H : Hid ((Ex.addr s.data.toList).1 = -1 ∧ Ex.addrK s.data.toList = 1 ∧ (Ex.addr s.data.toList).2.2 = true) := by
    show _ ∧ _ ∧ _
    unfold Ex.addr Ex.addrK
    rw [if_pos hh, if_pos (.inl hh)]; exact ⟨rfl, rfl, rfl⟩
  have h0 : s.toList.isEmpty = false := by rw [Lib.toList_data]; cases hl : s.data.toList with | nil => rw [← data_len, hl] at h1; simp at h1 | cons b t => rfl
  have e1 : s[0].toNat = 46 := by rw [h]; rfl
  clear hh h
  go_enter Tryz.func21, Tryz.ntmps21
  go_wp2
  go_ret3
  exact ⟨by rw [H.out.1, H.out.2.1, H.out.2.2]; rfl, rfl⟩
set_option maxHeartbeats 1000000 in
set_option maxRecDepth 100000 in
theorem ref27_address_dollar (s : ByteArray) (h1 : 0 < s.size) (h : s[0] = 36) (w : World) : Calls Tryz.prog 21 #[.string s] w fun e w' => e = .returned (.tuple #[.int .i64 (Ex.addr s.data.toList).1, .int .i64 (Ex.addrK s.data.toList : Nat), .bool (Ex.addr s.data.toList).2.2]) ∧ w = w' := by
  have hh := Ex.head_byte h1
  rw [h] at hh
  have H : Hid ((Ex.addr s.data.toList).1 = -2 ∧ Ex.addrK s.data.toList = 1 ∧ (Ex.addr s.data.toList).2.2 = true) := by
    show _ ∧ _ ∧ _
    unfold Ex.addr Ex.addrK
    rw [if_neg (by rw [hh]; decide), if_pos hh, if_pos (.inr hh)]; exact ⟨rfl, rfl, rfl⟩
  have h0 : s.toList.isEmpty = false := by rw [Lib.toList_data]; cases hl : s.data.toList with | nil => rw [← data_len, hl] at h1; simp at h1 | cons b t => rfl
  have e1 : s[0].toNat = 36 := by rw [h]; rfl
  clear hh h
  go_enter Tryz.func21, Tryz.ntmps21
  go_wp2
  go_ret3
  exact ⟨by rw [H.out.1, H.out.2.1, H.out.2.2]; rfl, rfl⟩
set_option maxHeartbeats 1000000 in
set_option maxRecDepth 100000 in
theorem ref27_address_empty (s : ByteArray) (h : s.data.toList = []) (w : World) : Calls Tryz.prog 21 #[.string s] w fun e w' => e = .returned (.tuple #[.int .i64 (Ex.addr s.data.toList).1, .int .i64 (Ex.addrK s.data.toList : Nat), .bool (Ex.addr s.data.toList).2.2]) ∧ w = w' := by
  have H : Hid ((Ex.addr s.data.toList).1 = 0 ∧ Ex.addrK s.data.toList = 0 ∧ (Ex.addr s.data.toList).2.2 = true) := by
    show _ ∧ _ ∧ _
    rw [h]; exact ⟨rfl, rfl, rfl⟩
  have h0 : s.toList.isEmpty = true := by rw [Lib.toList_data, h]; rfl
  have hz : s.size = 0 := by rw [← data_len, h]; rfl
  have g1 : decide ((0 : Int) < (s.size : Int)) = false := by rw [decide_eq_false_iff_not]; omega
  clear h
  go_enter Tryz.func21, Tryz.ntmps21
  go_wp2_with fail
  go_loopw [5] (fun iv wr => iv = .int .i64 0 ∧ wr = w) (fun _ _ => 0)
  case atStart => exact ⟨rfl, rfl⟩
  case round =>
    obtain ⟨rfl, rfl⟩ := hrel
    go_wp2
    go_ret3
    exact ⟨by rw [H.out.1, H.out.2.1, H.out.2.2]; rfl, rfl⟩
set_option maxHeartbeats 1000000 in
set_option maxRecDepth 100000 in
theorem ref27_address_other (s : ByteArray) (hs : s.size ≤ 1000000000) (h1 : 0 < s.size) (h46 : s[0] ≠ 46) (h36 : s[0] ≠ 36) (w : World) : Calls Tryz.prog 21 #[.string s] w fun e w' => e = .returned (.tuple #[.int .i64 (Ex.addr s.data.toList).1, .int .i64 (Ex.addrK s.data.toList : Nat), .bool (Ex.addr s.data.toList).2.2]) ∧ w = w' := by
  have hl := data_len s
  have hh := Ex.head_byte h1
  have n1 : s.data.toList.head? ≠ some 46 := by rw [hh]; exact fun e => h46 (by injection e)
  have n2 : s.data.toList.head? ≠ some 36 := by rw [hh]; exact fun e => h36 (by injection e)
  have h0 : s.toList.isEmpty = false := by rw [Lib.toList_data]; cases hl : s.data.toList with | nil => rw [← data_len, hl] at h1; simp at h1 | cons b t => rfl
  have e1 : ((s[0].toNat : Int) == 46) = false := by rw [beq_eq_false_iff_ne]; exact fun e => h46 (UInt8.toNat_inj.1 (by have k1 : (46 : UInt8).toNat = 46 := rfl; have k2 : (36 : UInt8).toNat = 36 := rfl; omega))
  have e2 : ((s[0].toNat : Int) == 36) = false := by rw [beq_eq_false_iff_ne]; exact fun e => h36 (UInt8.toNat_inj.1 (by have k1 : (46 : UInt8).toNat = 46 := rfl; have k2 : (36 : UInt8).toNat = 36 := rfl; omega))
  have DG := Lib.hid (fun (b : UInt8) w => ref27_digit b w)
  clear hh h46 h36
  go_enter Tryz.func21, Tryz.ntmps21
  go_wp2_with fail
  go_loopw [5] (fun iv wr => ∃ j : Nat, iv = .int .i64 j ∧ j ≤ s.size ∧ Hid ((s.data.toList.take j).all Ex.digit = true) ∧ wr = w) (fun iv _ => s.size - (intOf iv).toNat)
  case atStart => exact ⟨0, rfl, Nat.zero_le _, rfl, rfl⟩
  case round =>
    obtain ⟨j, rfl, hj, hal, rfl⟩ := hrel
    by_cases hlt : j < s.size
    · have g9 : decide ((j : Int) < (s.size : Int)) = true := by rw [decide_eq_true_iff]; omega
      have hb := byte_get s hlt
      have D1 := Lib.hid (fun w => DG.out s[j] w)
      rcases Bool.eq_false_or_eq_true (Ex.digit s[j]) with hd | hd
      · have hal2 := Lib.hid (Ex.all_upto hb hal.out hd)
        rw [hd] at D1
        clear hb hd hal hl DG n1 n2
        go_wp2_with (first
          | (go_at_call 28; (with_reducible refine (D1.out _).mono ?_); rintro e u ⟨rfl, rfl⟩))
        go_roundw
        case rel => exact ⟨j + 1, by go_num, by omega, hal2, by trivial⟩
        case measure => simp [intOf]; omega
      · rw [hd] at D1
        have HK := Lib.hid (Ex.addr_digits n1 n2 (Ex.while_at hal.out (by rw [hl]; omega) (fun b h => by rw [hb] at h; injection h with h; subst h; exact hd)))
        clear hl hal DG hb hd n1 n2
        by_cases hj0 : j = 0
        · subst hj0
          have H := Lib.hid (show _ ∧ _ from ⟨HK.out.1, HK.out.2.1 rfl⟩)
          clear HK
          go_wp2_with (first | (go_at_call 28; (with_reducible refine (D1.out _).mono ?_); rintro e u ⟨rfl, rfl⟩))
          go_ret3
          exact ⟨by rw [H.out.2.1, H.out.1, H.out.2.2]; rfl, rfl⟩
        · have g5 : ((j : Int) == 0) = false := by rw [beq_eq_false_iff_ne]; omega
          have H := Lib.hid (show _ ∧ _ from ⟨HK.out.1, HK.out.2.2 (by omega)⟩)
          have NB : Hid (∀ w, Calls Tryz.prog 25 #[.string (s.extract 0 j)] w fun e w' => e = .returned (.int .i64 (Ex.number (s.data.toList.take j))) ∧ w = w') := Lib.hid (fun w => by
            have := ref27_Number (s.extract 0 j) w
            rw [Lib.extract_data, List.drop_zero, Nat.sub_zero] at this
            exact this)
          generalize Ex.number (s.data.toList.take j) = m at *
          have hm : Hid (decide (0 < m) = decide ((0 : Int) < m)) := Lib.hid rfl
          clear HK hj0
          go_wp2_with (first | (go_at_call 28; (with_reducible refine (D1.out _).mono ?_); rintro e u ⟨rfl, rfl⟩) | (go_at_call 25; (with_reducible refine (NB.out _).mono ?_); rintro e u ⟨rfl, rfl⟩))
          go_ret3
          exact ⟨by rw [H.out.2.1, H.out.1, H.out.2.2]; rfl, rfl⟩
    · have g9 : decide ((j : Int) < (s.size : Int)) = false := by rw [decide_eq_false_iff_not]; omega
      have HK := Lib.hid (Ex.addr_digits n1 n2 (Ex.while_at hal.out (by rw [hl]; omega) (fun b h => by rw [List.getElem?_eq_none (by omega)] at h; cases h)))
      clear hl hal DG n1 n2
      by_cases hj0 : j = 0
      · omega
      · have g5 : ((j : Int) == 0) = false := by rw [beq_eq_false_iff_ne]; omega
        have H := Lib.hid (show _ ∧ _ from ⟨HK.out.1, HK.out.2.2 (by omega)⟩)
        have NB : Hid (∀ w, Calls Tryz.prog 25 #[.string (s.extract 0 j)] w fun e w' => e = .returned (.int .i64 (Ex.number (s.data.toList.take j))) ∧ w = w') := Lib.hid (fun w => by
          have := ref27_Number (s.extract 0 j) w
          rw [Lib.extract_data, List.drop_zero, Nat.sub_zero] at this
          exact this)
        generalize Ex.number (s.data.toList.take j) = m at *
        have hm : Hid (decide (0 < m) = decide ((0 : Int) < m)) := Lib.hid rfl
        clear HK hj0
        go_wp2_with (first | (go_at_call 25; (with_reducible refine (NB.out _).mono ?_); rintro e u ⟨rfl, rfl⟩))
        go_ret3
        exact ⟨by rw [H.out.2.1, H.out.1, H.out.2.2]; rfl, rfl⟩

theorem ref27_address (s : ByteArray) (hs : s.size ≤ 1000000000) (w : World) : Calls Tryz.prog 21 #[.string s] w fun e w' => e = .returned (.tuple #[.int .i64 (Ex.addr s.data.toList).1, .int .i64 (Ex.addrK s.data.toList : Nat), .bool (Ex.addr s.data.toList).2.2]) ∧ w = w' := by
  by_cases h : s.data.toList = []
  · exact ref27_address_empty s h w
  have h1 : 0 < s.size := by rw [← data_len]; exact List.length_pos_iff.2 h
  by_cases h46 : s[0] = 46
  · exact ref27_address_dot s h1 h46 w
  by_cases h36 : s[0] = 36
  · exact ref27_address_dollar s h1 h36 w
  · exact ref27_address_other s hs h1 h46 h36 w
end Go.Proofs.YtcddbdefdenecaaGreatDoor
