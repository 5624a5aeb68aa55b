/-
  Package ex's numbers, file's names, an address, a word.
-/
import Derived.Test.YtcddbdefdenecaaGreatDoorExSigns
namespace Go.Proofs.YtcddbdefdenecaaGreatDoor
open Go.RowKit
theorem below_bytes (w : World) (t : TypeId) (s : ByteArray) : Below w.heap.size w (Lib.bytesWorld w t s) := _root_.Go.Joins.below_bytesWorld _ w t s (Nat.le_refl _)
set_option maxHeartbeats 1000000 in
theorem ex_positive_empty (s : ByteArray) (h : s.data.toList = []) (w : World) :
    Calls Tryz.prog 58 #[.string s] w fun e w' => e = .returned (.int .i64 0) ∧ w = w' := by
  have h0 : s.toList.isEmpty = true := by rw [Lib.toList_data, h]; rfl
  clear h
  go_enter Tryz.func58, Tryz.ntmps58
  go_wp2
  go_ret
  exact ⟨rfl, rfl⟩
set_option maxHeartbeats 1000000 in
theorem ex_positive_long (s : ByteArray) (h : 6 < s.size) (w : World) :
    Calls Tryz.prog 58 #[.string s] w fun e w' => e = .returned (.int .i64 0) ∧ w = w' := by
  have h0 : s.toList.isEmpty = false := by rw [Lib.toList_data]; cases hl : s.data.toList with | nil => rw [← data_len, hl] at h; simp at h | cons b t => rfl
  go_enter Tryz.func58, Tryz.ntmps58
  go_wp2
  go_ret
  exact ⟨rfl, rfl⟩
set_option maxHeartbeats 1000000 in
theorem ex_positive_nought (s : ByteArray) (h1 : 0 < s.size) (h6 : s.size ≤ 6) (h : s[0] = 48) (w : World) :
    Calls Tryz.prog 58 #[.string s] w fun e w' => e = .returned (.int .i64 0) ∧ w = w' := by
  have h0 : s.toList.isEmpty = false := by rw [Lib.toList_data]; cases hl : s.data.toList with | nil => rw [← data_len, hl] at h1; simp at h1 | cons b t => rfl
  have hn : s[0].toNat = 48 := by rw [h]; rfl
  clear h
  go_enter Tryz.func58, Tryz.ntmps58
  go_wp2
  go_ret
  exact ⟨rfl, rfl⟩
set_option maxHeartbeats 1000000 in
theorem ex_positive_signs (s : ByteArray) (h1 : 0 < s.size) (h6 : s.size ≤ 6) (h : s[0] ≠ 48) (ha : s.data.toList.all Ex.digit = false) (w : World) :
    Calls Tryz.prog 58 #[.string s] w fun e w' => e = .returned (.int .i64 0) ∧ Below w.heap.size w w' := by
  have h0 : s.toList.isEmpty = false := by rw [Lib.toList_data]; cases hl : s.data.toList with | nil => rw [← data_len, hl] at h1; simp at h1 | cons b t => rfl
  have hn : ¬ s[0].toNat = 48 := fun e => h (UInt8.toNat_inj.1 e)
  have C := Lib.hid (str_trim s Ex.digitsT (by omega) (by rw [bs_size]; decide) (by decide) w)
  have hz : (bs (Lib.trimS s.data.toList Ex.digitsT)).toList.isEmpty = false := by
    rw [bs_tl, List.isEmpty_eq_false_iff]
    exact fun e => by rw [(Ex.trim_digits _).1 e] at ha; cases ha
  generalize bs (Lib.trimS s.data.toList Ex.digitsT) = z at *
  clear h ha
  go_enter Tryz.func58, Tryz.ntmps58
  go_wp2_with (go_at_call 27; refine C.out.mono ?_; rintro e w1 ⟨rfl, hb⟩)
  go_ret
  exact ⟨rfl, hb⟩
set_option maxHeartbeats 1000000 in
theorem ex_positive_val (s : ByteArray) (h1 : 0 < s.size) (h6 : s.size ≤ 6) (h : s[0] ≠ 48) (ha : s.data.toList.all Ex.digit = true) (w : World) :
    Calls Tryz.prog 58 #[.string s] w fun e w' => e = .returned (.int .i64 (Ex.val s.data.toList : Nat)) ∧ Below w.heap.size w w' := by
  have hne : s.data.toList ≠ [] := by intro e; rw [← data_len, e] at h1; simp at h1
  have h0 : s.toList.isEmpty = false := by rw [Lib.toList_data]; simpa using hne
  have hn : ¬ s[0].toNat = 48 := fun e => h (UInt8.toNat_inj.1 e)
  have C := Lib.hid (str_trim s Ex.digitsT (by omega) (by rw [bs_size]; decide) (by decide) w)
  have hz : (bs (Lib.trimS s.data.toList Ex.digitsT)).toList.isEmpty = true := by
    rw [bs_tl, (Ex.trim_digits _).2 ha]; rfl
  have A := Lib.hid (fun w => Tryz.strconv_Atoi s (Ex.val s.data.toList : Nat) (by omega) (Ex.atoi_digits hne ha) w)
  generalize bs (Lib.trimS s.data.toList Ex.digitsT) = z at *
  generalize Ex.val s.data.toList = v at *
  have g1 : decide ((6 : Int) < (s.size : Int)) = false := by rw [decide_eq_false_iff_not]; omega
  have g2 : ((s[0].toNat : Int) == 48) = false := by rw [beq_eq_false_iff_ne]; omega
  clear h ha hne
  go_enter Tryz.func58, Tryz.ntmps58
  go_wp2_with (first
    | (go_at_call 27; refine C.out.mono ?_; rintro e w1 ⟨rfl, hb⟩)
    | (go_at_call 74; refine (A.out _).mono ?_; rintro e w2 ⟨rfl, t, rfl⟩))
  go_ret
  exact ⟨rfl, hb.trans ((below_bytes w1 _ _).mono hb.size)⟩
theorem ex_positive (s : ByteArray) (w : World) :
    Calls Tryz.prog 58 #[.string s] w fun e w' => e = .returned (.int .i64 (Ex.pos s.data.toList)) ∧ Below w.heap.size w w' := by
  by_cases h0 : s.data.toList = []
  · rw [Ex.pos_zero (.inl h0)]
    exact (ex_positive_empty s h0 w).mono fun e w' h => ⟨h.1, h.2 ▸ Below.refl _ _⟩
  have h1 : 0 < s.size := by rw [← data_len]; exact List.length_pos_iff.2 h0
  by_cases h6 : 6 < s.size
  · rw [Ex.pos_zero (.inr (.inl (by rw [data_len]; exact h6)))]
    exact (ex_positive_long s h6 w).mono fun e w' h => ⟨h.1, h.2 ▸ Below.refl _ _⟩
  by_cases h48 : s[0] = 48
  · rw [Ex.pos_zero (.inr (.inr (.inl (by rw [Ex.head_at h1, h48]))))]
    exact (ex_positive_nought s h1 (by omega) h48 w).mono fun e w' h => ⟨h.1, h.2 ▸ Below.refl _ _⟩
  cases ha : s.data.toList.all Ex.digit
  · rw [Ex.pos_zero (.inr (.inr (.inr ha)))]
    exact ex_positive_signs s h1 (by omega) h48 ha w
  · rw [(Ex.pos_val h0 (by rw [data_len]; omega) (by rw [Ex.head_at h1]; exact fun e => h48 (by injection e)) ha).1]
    exact ex_positive_val s h1 (by omega) h48 ha w
set_option maxHeartbeats 1000000 in
theorem ex_number_nought (w : World) :
    Calls Tryz.prog 62 #[.string ⟨#[48]⟩] w fun e w' => e = .returned (.bool true) ∧ Below w.heap.size w w' := by
  go_enter Tryz.func62, Tryz.ntmps62
  go_wp2
  go_ret
  exact ⟨rfl, Below.refl _ _⟩
set_option maxHeartbeats 1000000 in
theorem ex_number_pos (s : ByteArray) (h : s.data.toList ≠ [48]) (w : World) :
    Calls Tryz.prog 62 #[.string s] w fun e w' => e = .returned (.bool (decide (Ex.pos s.data.toList ≠ 0))) ∧ Below w.heap.size w w' := by
  have C := Lib.hid (ex_positive s w)
  have h0 : (s.toList == [48]) = false := by rw [Lib.toList_data, beq_eq_false_iff_ne]; exact h
  generalize Ex.pos s.data.toList = v at *
  have H : Hid (decide (v ≠ 0) = (v != 0)) := Lib.hid (by by_cases h : v = 0 <;> simp [h])
  clear h
  go_enter Tryz.func62, Tryz.ntmps62
  go_wp2_with (go_at_call 58; refine C.out.mono ?_; rintro e w1 ⟨rfl, hb⟩)
  go_ret
  exact ⟨by rw [H.out]; rfl, hb⟩
theorem ex_number (s : ByteArray) (w : World) :
    Calls Tryz.prog 62 #[.string s] w fun e w' => e = .returned (.bool (decide (0 ≤ Ex.number s.data.toList))) ∧ Below w.heap.size w w' := by
  rw [Ex.number_is]
  by_cases h : s.data.toList = [48]
  · have e : s = ⟨#[48]⟩ := by rw [← bs_data s, h]; rfl
    subst e
    rw [decide_eq_true h, Bool.true_or]
    exact ex_number_nought w
  · rw [decide_eq_false h, Bool.false_or]
    exact ex_number_pos s h w
set_option maxHeartbeats 1000000 in
theorem ex_Name_empty (w : World) :
    Calls Tryz.prog 8 #[.string ⟨#[]⟩] w fun e w' => e = .returned (.bool false) ∧ Below w.heap.size w w' := by
  go_enter Tryz.func8, Tryz.ntmps8
  go_wp2
  go_ret
  exact ⟨rfl, Below.refl _ _⟩
set_option maxHeartbeats 1000000 in
theorem ex_Name_long (s : ByteArray) (h : 16 < s.size) (w : World) :
    Calls Tryz.prog 8 #[.string s] w fun e w' => e = .returned (.bool false) ∧ Below w.heap.size w w' := by
  have h0 : s.toList.isEmpty = false := by rw [Lib.toList_data]; cases hl : s.data.toList with | nil => rw [← data_len, hl] at h; simp at h | cons b t => rfl
  have g1 : decide ((s.size : Int) ≤ 16) = false := by rw [decide_eq_false_iff_not]; omega
  go_enter Tryz.func8, Tryz.ntmps8
  go_wp2
  go_ret
  exact ⟨rfl, Below.refl _ _⟩
set_option maxHeartbeats 1000000 in
theorem ex_Name_not (s : ByteArray) (h1 : 0 < s.size) (h : s.size ≤ 16) (hc : Ex.lettersT.contains s[0] = false) (w : World) :
    Calls Tryz.prog 8 #[.string s] w fun e w' => e = .returned (.bool false) ∧ Below w.heap.size w w' := by
  have h0 : s.toList.isEmpty = false := by rw [Lib.toList_data]; cases hl : s.data.toList with | nil => rw [← data_len, hl] at h1; simp at h1 | cons b t => rfl
  have g1 : decide ((s.size : Int) ≤ 16) = true := by rw [decide_eq_true_iff]; omega
  have C := Lib.hid (str_has (bs Ex.lettersT) s h1 w)
  rw [bs_toList, hc] at C
  have g2 : 1 ≤ s.size := h1
  clear hc
  go_enter Tryz.func8, Tryz.ntmps8
  go_wp2_with (go_at_call 26; refine C.out.mono ?_; rintro e w1 ⟨rfl, rfl⟩)
  go_ret
  exact ⟨rfl, Below.refl _ _⟩
set_option maxHeartbeats 1000000 in
theorem ex_Name_signs (s : ByteArray) (h1 : 0 < s.size) (h : s.size ≤ 16) (hc : Ex.lettersT.contains s[0] = true) (w : World) :
    Calls Tryz.prog 8 #[.string s] w fun e w' => e = .returned (.bool (decide (Lib.trimS s.data.toList (Ex.lettersT ++ Ex.digitsT) = []))) ∧ Below w.heap.size w w' := by
  have h0 : s.toList.isEmpty = false := by rw [Lib.toList_data]; cases hl : s.data.toList with | nil => rw [← data_len, hl] at h1; simp at h1 | cons b t => rfl
  have g1 : decide ((s.size : Int) ≤ 16) = true := by rw [decide_eq_true_iff]; omega
  have C := Lib.hid (str_has (bs Ex.lettersT) s h1 w)
  rw [bs_toList, hc] at C
  have D := Lib.hid (str_trim s (Ex.lettersT ++ Ex.digitsT) (by omega) (by rw [bs_size]; decide) (by decide) w)
  have g2 : 1 ≤ s.size := h1
  have H : Hid (decide (Lib.trimS s.data.toList (Ex.lettersT ++ Ex.digitsT) = []) = (bs (Lib.trimS s.data.toList (Ex.lettersT ++ Ex.digitsT))).toList.isEmpty) := by
    show _ = _
    rw [bs_tl]
    cases Lib.trimS s.data.toList (Ex.lettersT ++ Ex.digitsT) <;> simp
  generalize decide (Lib.trimS s.data.toList (Ex.lettersT ++ Ex.digitsT) = []) = y at *
  generalize bs (Lib.trimS s.data.toList (Ex.lettersT ++ Ex.digitsT)) = z at *
  clear hc
  go_enter Tryz.func8, Tryz.ntmps8
  go_wp2_with (first
    | (go_at_call 26; refine C.out.mono ?_; rintro e w1 ⟨rfl, rfl⟩)
    | (go_at_call 27; refine D.out.mono ?_; rintro e w1 ⟨rfl, hb⟩))
  go_ret
  exact ⟨by rw [H.out]; rfl, hb⟩
theorem ex_Name (s : ByteArray) (w : World) :
    Calls Tryz.prog 8 #[.string s] w fun e w' => e = .returned (.bool (Ex.isName s.data.toList)) ∧ Below w.heap.size w w' := by
  rw [Ex.name_is]
  by_cases h0 : s.data.toList = []
  · have e : s = ⟨#[]⟩ := by rw [← bs_data s, h0]; rfl
    subst e
    exact ex_Name_empty w
  have h1 : 0 < s.size := by rw [← data_len]; exact List.length_pos_iff.2 h0
  rw [decide_eq_true h0, Bool.true_and, data_len, Ex.head_at h1]
  by_cases h : s.size ≤ 16
  · rw [decide_eq_true h, Bool.true_and]
    simp only
    cases hc : Ex.lettersT.contains s[0]
    · rw [Bool.false_and]; exact ex_Name_not s h1 h hc w
    · rw [Bool.true_and]; exact ex_Name_signs s h1 h hc w
  · rw [decide_eq_false h, Bool.false_and, Bool.false_and]
    exact ex_Name_long s (by omega) w
end Go.Proofs.YtcddbdefdenecaaGreatDoor
