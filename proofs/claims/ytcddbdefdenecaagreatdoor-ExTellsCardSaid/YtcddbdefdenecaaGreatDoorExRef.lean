/-
  The document's answer for package ex: letters, digits, line feeds, a file's name, a number, its digits, words, an address.
-/
import Derived.Test.YtcddbdefdenecaaGreatDoorExBox
import Derived.Test.YtcddbdefdenecaaGreatDoorDigits
namespace Go.Proofs.YtcddbdefdenecaaGreatDoor
open Go.RowKit Go.Shelf
open Ex (Ln)
theorem ref27_small (b : UInt8) (w : World) : Calls Tryz.prog 22 #[.int .u8 (b.toNat : Int)] w fun e w' => e = .returned (.bool (Ex.small b)) ∧ w = w' := by
  by_cases h : 97 ≤ b.toNat
  · have g : decide ((97 : Int) ≤ (b.toNat : Int)) = true := by rw [decide_eq_true_iff]; omega
    have H : Hid (Ex.small b = decide ((b.toNat : Int) ≤ 122)) := by
      show _ = _
      unfold Ex.small
      rw [decide_eq_true h, Bool.true_and, decide_eq_decide]; omega
    go_enter Tryz.func22, Tryz.ntmps22
    go_wp2
    go_ret
    exact ⟨by rw [H.out]; rfl, rfl⟩
  · have g : decide ((97 : Int) ≤ (b.toNat : Int)) = false := by rw [decide_eq_false_iff_not]; omega
    have H : Hid (Ex.small b = false) := by
      show _ = _
      unfold Ex.small
      rw [decide_eq_false h, Bool.false_and]
    go_enter Tryz.func22, Tryz.ntmps22
    go_wp2
    go_ret
    exact ⟨by rw [H.out]; rfl, rfl⟩
theorem ref27_digit (b : UInt8) (w : World) : Calls Tryz.prog 28 #[.int .u8 (b.toNat : Int)] w fun e w' => e = .returned (.bool (Ex.digit b)) ∧ w = w' := by
  by_cases h : 48 ≤ b.toNat
  · have g : decide ((48 : Int) ≤ (b.toNat : Int)) = true := by rw [decide_eq_true_iff]; omega
    have H : Hid (Ex.digit b = decide ((b.toNat : Int) ≤ 57)) := by
      show _ = _
      unfold Ex.digit
      rw [decide_eq_true h, Bool.true_and, decide_eq_decide]; omega
    go_enter Tryz.func28, Tryz.ntmps28
    go_wp2
    go_ret
    exact ⟨by rw [H.out]; rfl, rfl⟩
  · have g : decide ((48 : Int) ≤ (b.toNat : Int)) = false := by rw [decide_eq_false_iff_not]; omega
    have H : Hid (Ex.digit b = false) := by
      show _ = _
      unfold Ex.digit
      rw [decide_eq_false h, Bool.false_and]
    go_enter Tryz.func28, Tryz.ntmps28
    go_wp2
    go_ret
    exact ⟨by rw [H.out]; rfl, rfl⟩
set_option maxHeartbeats 1000000 in
set_option maxRecDepth 100000 in
theorem ref27_feed (s : ByteArray) (hs : s.size ≤ 1000000000) (w : World) : Calls Tryz.prog 20 #[.string s] w fun e w' => e = .returned (.bool (decide ((10 : UInt8) ∈ s.data.toList))) ∧ w = w' := by
  have hl := data_len s
  go_enter Tryz.func20, Tryz.ntmps20
  go_wp2_with fail
  go_loopw [3] (fun iv wr => ∃ j : Nat, iv = .int .i64 j ∧ j ≤ s.size ∧ Hid (∀ (k : Nat), k < j → s.data.toList[k]? ≠ some 10) ∧ wr = w) (fun iv _ => s.size - (intOf iv).toNat)
  case atStart => exact ⟨0, rfl, Nat.zero_le _, fun k h => absurd h (Nat.not_lt_zero _), rfl⟩
  case round =>
    obtain ⟨j, rfl, hj, hno, rfl⟩ := hrel
    by_cases hlt : j < s.size
    · have g1 : decide ((j : Int) < (s.size : Int)) = true := by rw [decide_eq_true_iff]; omega
      have hb := byte_get s hlt
      by_cases hc : s[j] = 10
      · have e1 : s[j].toNat = 10 := by rw [hc]; rfl
        have H : Hid (decide ((10 : UInt8) ∈ s.data.toList) = true) := by
          show _ = _
          rw [decide_eq_true_iff, ← hc]
          exact List.mem_of_getElem? hb
        clear hc hb hl hno
        go_wp2
        go_ret
        exact ⟨by rw [H.out]; rfl, rfl⟩
      · have e1 : ¬ s[j].toNat = 10 := fun e => hc (UInt8.toNat_inj.1 e)
        have hno2 : Hid (∀ (k : Nat), k < j + 1 → s.data.toList[k]? ≠ some 10) := Lib.hid (fun k hk => by
          by_cases he : k = j
          · subst he; rw [hb]; exact fun e => hc (by injection e)
          · exact hno.out k (by omega))
        clear hc hb hl hno
        go_wp2
        go_roundw
        case rel => exact ⟨j + 1, by go_num, by omega, hno2, by trivial⟩
        case measure => simp [intOf]; omega
    · have g1 : decide ((j : Int) < (s.size : Int)) = false := by rw [decide_eq_false_iff_not]; omega
      obtain rfl : j = s.size := by omega
      have H : Hid (decide ((10 : UInt8) ∈ s.data.toList) = false) := by
        show _ = _
        rw [decide_eq_false_iff_not]
        intro hm
        obtain ⟨k, hk, he⟩ := List.mem_iff_getElem.1 hm
        exact hno.out k (by rw [hl] at hk; exact hk) (by rw [List.getElem?_eq_getElem hk, he])
      clear hl hno
      go_wp2
      go_ret
      exact ⟨by rw [H.out]; rfl, rfl⟩
namespace Ex
/-- May a text's signs stand in a file's name? -/
def okN (s : List UInt8) : Bool := match s with
  | [] => true
  | b :: t => small b && t.all (fun c => small c || digit c)
theorem name_ok (s : List UInt8) : isName s = (okN s && decide (0 < s.length) && decide (s.length ≤ 16)) := by
  cases s with
  | nil => rfl
  | cons b t => simp [isName, okN]
theorem okN_iff (s : List UInt8) : okN s = true ↔ ∀ (k : Nat) (b : UInt8), s[k]? = some b → small b = true ∨ (k ≠ 0 ∧ digit b = true) := by
  cases s with
  | nil => simp [okN]
  | cons c t =>
    simp only [okN, Bool.and_eq_true, List.all_eq_true, Bool.or_eq_true]
    constructor
    · rintro ⟨h1, h2⟩ k b hk
      cases k with
      | zero => injection hk with hk; subst hk; exact .inl h1
      | succ k =>
        rcases h2 b (List.mem_of_getElem? (by simpa using hk)) with h | h
        · exact .inl h
        · exact .inr ⟨by simp, h⟩
    · intro h
      refine ⟨(h 0 c rfl).resolve_right (fun e => e.1 rfl), fun x hx => ?_⟩
      obtain ⟨k, hk, he⟩ := List.mem_iff_getElem.1 hx
      rcases h (k + 1) x (by simp [hk, he]) with h | h
      · exact .inl h
      · exact .inr h.2
end Ex
set_option maxHeartbeats 1000000 in
set_option maxRecDepth 100000 in
theorem ref27_Name (s : ByteArray) (hs : s.size ≤ 1000000000) (w : World) : Calls Tryz.prog 9 #[.string s] w fun e w' => e = .returned (.bool (Ex.isName s.data.toList)) ∧ w = w' := by
  have hl := data_len s
  have SM := Lib.hid (fun (b : UInt8) w => ref27_small b w)
  have DG := Lib.hid (fun (b : UInt8) w => ref27_digit b w)
  have HN := Lib.hid (Ex.name_ok s.data.toList)
  go_enter Tryz.func9, Tryz.ntmps9
  go_wp2_with fail
  go_loopw [3] (fun iv wr => ∃ j : Nat, iv = .int .i64 j ∧ j ≤ s.size ∧ Hid (∀ (k : Nat) (b : UInt8), k < j → s.data.toList[k]? = some b → Ex.small b = true ∨ (k ≠ 0 ∧ Ex.digit b = true)) ∧ wr = w) (fun iv _ => s.size - (intOf iv).toNat)
  case atStart => exact ⟨0, rfl, Nat.zero_le _, fun k b h => absurd h (Nat.not_lt_zero _), rfl⟩
  case round =>
    obtain ⟨j, rfl, hj, hno, rfl⟩ := hrel
    by_cases hlt : j < s.size
    · have g1 : decide ((j : Int) < (s.size : Int)) = true := by rw [decide_eq_true_iff]; omega
      have hb := byte_get s hlt
      have S1 := Lib.hid (fun w => SM.out s[j] w)
      have D1 := Lib.hid (fun w => DG.out s[j] w)
      by_cases hok : Ex.small s[j] = true ∨ (j ≠ 0 ∧ Ex.digit s[j] = true)
      · have hno2 : Hid (∀ (k : Nat) (b : UInt8), k < j + 1 → s.data.toList[k]? = some b → Ex.small b = true ∨ (k ≠ 0 ∧ Ex.digit b = true)) := Lib.hid (fun k b hk h => by
          by_cases he : k = j
          · subst he; rw [hb] at h; injection h with h; subst h; exact hok
          · exact hno.out k b (by omega) h)
        clear hl hno hb SM DG
        rcases Bool.eq_false_or_eq_true (Ex.small s[j]) with hsm | hsm
        · rw [hsm] at S1
          clear hok
          go_wp2_with (first
            | (go_at_call 22; (with_reducible refine (S1.out _).mono ?_); rintro e u ⟨rfl, rfl⟩))
          go_roundw
          case rel => exact ⟨j + 1, by go_num, by omega, hno2, by trivial⟩
          case measure => simp [intOf]; omega
        · obtain ⟨h0, hd⟩ := hok.resolve_left (fun e => by rw [hsm] at e; cases e)
          rw [hsm] at S1
          rw [hd] at D1
          have g2 : ((j : Int) == 0) = false := by rw [beq_eq_false_iff_ne]; omega
          clear hok hsm hd
          go_wp2_with (first
            | (go_at_call 22; (with_reducible refine (S1.out _).mono ?_); rintro e u ⟨rfl, rfl⟩)
            | (go_at_call 28; (with_reducible refine (D1.out _).mono ?_); rintro e u ⟨rfl, rfl⟩))
          go_roundw
          case rel => exact ⟨j + 1, by go_num, by omega, hno2, by trivial⟩
          case measure => simp [intOf]; omega
      · simp only [not_or] at hok
        have hsm : Ex.small s[j] = false := by simpa using hok.1
        have H : Hid (Ex.isName s.data.toList = false) := by
          show _ = _
          rw [HN.out]
          have : Ex.okN s.data.toList = false := by
            rw [Bool.eq_false_iff]
            intro e
            exact (not_or.2 hok) ((Ex.okN_iff _).1 e j _ hb)
          rw [this]; rfl
        rw [hsm] at S1
        clear hl hno hb SM DG HN hsm
        by_cases h0 : j = 0
        · subst h0
          clear hok
          go_wp2_with (first
            | (go_at_call 22; (with_reducible refine (S1.out _).mono ?_); rintro e u ⟨rfl, rfl⟩))
          go_ret
          exact ⟨by rw [H.out]; rfl, rfl⟩
        · have hd : Ex.digit s[j] = false := by simpa using fun e => hok.2 ⟨h0, e⟩
          have g2 : ((j : Int) == 0) = false := by rw [beq_eq_false_iff_ne]; omega
          rw [hd] at D1
          clear hok hd
          go_wp2_with (first
            | (go_at_call 22; (with_reducible refine (S1.out _).mono ?_); rintro e u ⟨rfl, rfl⟩)
            | (go_at_call 28; (with_reducible refine (D1.out _).mono ?_); rintro e u ⟨rfl, rfl⟩))
          go_ret
          exact ⟨by rw [H.out]; rfl, rfl⟩
    · have g1 : decide ((j : Int) < (s.size : Int)) = false := by rw [decide_eq_false_iff_not]; omega
      obtain rfl : j = s.size := by omega
      have hok : Ex.okN s.data.toList = true := (Ex.okN_iff _).2 (fun k b h => hno.out k b (by rw [← hl]; exact (List.getElem?_eq_some_iff.1 h).1) h)
      by_cases h0 : 0 < s.size
      · have g2 : decide ((0 : Int) < (s.size : Int)) = true := by rw [decide_eq_true_iff]; omega
        have H : Hid (Ex.isName s.data.toList = decide ((s.size : Int) ≤ 16)) := by
          show _ = _
          rw [HN.out, hok, hl, decide_eq_true h0, Bool.true_and, Bool.true_and, decide_eq_decide]; omega
        clear hl hno hok HN SM DG
        go_wp2
        go_ret
        exact ⟨by rw [H.out]; rfl, rfl⟩
      · have g2 : decide ((0 : Int) < (s.size : Int)) = false := by rw [decide_eq_false_iff_not]; omega
        have H : Hid (Ex.isName s.data.toList = false) := by
          show _ = _
          rw [HN.out, hl, decide_eq_false h0, Bool.and_false, Bool.false_and]
        clear hl hno hok HN SM DG
        go_wp2
        go_ret
        exact ⟨by rw [H.out]; rfl, rfl⟩
namespace Ex
theorem number_bad {s : List UInt8} (h : s = [] ∨ 6 < s.length ∨ (1 < s.length ∧ s.head? = some 48) ∨ s.all digit = false) : number s = -1 := by unfold number; rw [if_pos h]
theorem number_fine {s : List UInt8} (h0 : s ≠ []) (h6 : s.length ≤ 6) (hz : ¬ (1 < s.length ∧ s.head? = some 48)) (ha : s.all digit = true) : number s = val s := by
  unfold number; rw [if_neg (by simp only [not_or]; exact ⟨h0, by omega, hz, by rw [ha]; simp⟩)]
theorem val_take {s : List UInt8} {j : Nat} {b : UInt8} (h : s[j]? = some b) : val (s.take (j + 1)) = 10 * val (s.take j) + (b.toNat - 48) := by
  rw [List.take_add_one, h, ← val_snoc]; rfl
theorem all_take {s : List UInt8} {j : Nat} {b : UInt8} (h : s[j]? = some b) : (s.take (j + 1)).all digit = ((s.take j).all digit && digit b) := by
  rw [List.take_add_one, h, List.all_append]; simp
theorem all_not {s : List UInt8} {j : Nat} {b : UInt8} (h : s[j]? = some b) (hb : digit b = false) : s.all digit = false := by
  rw [Bool.eq_false_iff]
  intro e
  rw [List.all_eq_true] at e
  rw [e b (List.mem_of_getElem? h)] at hb
  cases hb
end Ex
set_option maxHeartbeats 1000000 in
set_option maxRecDepth 100000 in
theorem ref27_Number_empty (s : ByteArray) (h : s.data.toList = []) (w : World) : Calls Tryz.prog 25 #[.string s] w fun e w' => e = .returned (.int .i64 (-1)) ∧ w = w' := by
  have h0 : s.toList.isEmpty = true := by rw [Lib.toList_data, h]; rfl
  clear h
  go_enter Tryz.func25, Tryz.ntmps25
  go_wp2
  go_ret
  exact ⟨rfl, rfl⟩
set_option maxHeartbeats 1000000 in
set_option maxRecDepth 100000 in
theorem ref27_Number_long (s : ByteArray) (h6 : 6 < s.size) (w : World) : Calls Tryz.prog 25 #[.string s] w fun e w' => e = .returned (.int .i64 (-1)) ∧ w = w' := by
  have h1 : 0 < s.size := by omega
  have h0 : s.toList.isEmpty = false := by rw [Lib.toList_data]; cases hl : s.data.toList with | nil => rw [← data_len, hl] at h1; simp at h1 | cons b t => rfl
  have g1 : decide ((6 : Int) < (s.size : Int)) = true := by rw [decide_eq_true_iff]; omega
  go_enter Tryz.func25, Tryz.ntmps25
  go_wp2
  go_ret
  exact ⟨rfl, rfl⟩
set_option maxHeartbeats 1000000 in
set_option maxRecDepth 100000 in
theorem ref27_Number_nought (s : ByteArray) (h1 : 0 < s.size) (h6 : s.size ≤ 6) (h2 : 1 < s.size) (h : s[0] = 48) (w : World) : Calls Tryz.prog 25 #[.string s] w fun e w' => e = .returned (.int .i64 (-1)) ∧ w = w' := by
  have h0 : s.toList.isEmpty = false := by rw [Lib.toList_data]; cases hl : s.data.toList with | nil => rw [← data_len, hl] at h1; simp at h1 | cons b t => rfl
  have g1 : decide ((6 : Int) < (s.size : Int)) = false := by rw [decide_eq_false_iff_not]; omega
  have g2 : decide ((1 : Int) < (s.size : Int)) = true := by rw [decide_eq_true_iff]; omega
  have hn : s[0].toNat = 48 := by rw [h]; rfl
  have g3 : ((s[0].toNat : Int) == 48) = true := by rw [beq_iff_eq]; omega
  clear h
  go_enter Tryz.func25, Tryz.ntmps25
  go_wp2
  go_ret
  exact ⟨rfl, rfl⟩
set_option maxHeartbeats 1000000 in
set_option maxRecDepth 100000 in
theorem ref27_Number_one (s : ByteArray) (h1 : s.size = 1) (w : World) : Calls Tryz.prog 25 #[.string s] w fun e w' => e = .returned (.int .i64 (Ex.number s.data.toList)) ∧ w = w' := by
  have hl := data_len s
  have hne : s.data.toList ≠ [] := by intro e; rw [e] at hl; simp at hl; omega
  have hz : ¬ (1 < s.data.toList.length ∧ s.data.toList.head? = some 48) := by omega
  have h0 : s.toList.isEmpty = false := by rw [Lib.toList_data]; simpa using hne
  have g1 : decide ((6 : Int) < (s.size : Int)) = false := by rw [decide_eq_false_iff_not]; omega
  have g2 : decide ((1 : Int) < (s.size : Int)) = false := by rw [decide_eq_false_iff_not]; omega
  have DG := Lib.hid (fun (b : UInt8) w => ref27_digit b w)
  go_enter Tryz.func25, Tryz.ntmps25
  go_wp2_with fail
  go_loopw [3, 4] (fun nv iv wr => ∃ (j v : Nat), iv = .int .i64 j ∧ nv = .int .i64 v ∧ j ≤ s.size ∧ v ≤ 999999 ∧ Hid (v = Ex.val (s.data.toList.take j) ∧ (s.data.toList.take j).all Ex.digit = true) ∧ wr = w) (fun _ iv _ => s.size - (intOf iv).toNat)
  case atStart => exact ⟨0, 0, rfl, rfl, Nat.zero_le _, by omega, ⟨rfl, rfl⟩, rfl⟩
  case round =>
    obtain ⟨j, v, rfl, rfl, hj, hv, hr, rfl⟩ := hrel
    by_cases hlt : j < s.size
    · have g9 : decide ((j : Int) < (s.size : Int)) = true := by rw [decide_eq_true_iff]; omega
      have hb := byte_get s hlt
      have D1 := Lib.hid (fun w => DG.out s[j] w)
      rcases Bool.eq_false_or_eq_true (Ex.digit s[j]) with hd | hd
      · have hr2 : Hid (10 * v + (s[j].toNat - 48) = Ex.val (s.data.toList.take (j + 1)) ∧ (s.data.toList.take (j + 1)).all Ex.digit = true) := by
          show _ ∧ _
          rw [Ex.val_take hb, Ex.all_take hb, hr.out.2, hd, hr.out.1]; exact ⟨rfl, rfl⟩
        have hdv := Ex.digit_val hd
        have hv2 : 10 * v + (s[j].toNat - 48) ≤ 999999 := by
          have h1 := Ex.val_lt hr2.out.2
          rw [← hr2.out.1, List.length_take, hl] at h1
          have h2 : 10 ^ min (j + 1) s.size ≤ 10 ^ 6 := Nat.pow_le_pow_right (by decide) (by omega)
          have h3 : (10 : Nat) ^ 6 = 1000000 := by decide
          omega
        have w1 : IntKind.i64.wrap (10 * (v : Int)) = 10 * (v : Int) := by rw [IntKind.wrap_i64]; omega
        have w2 : IntKind.i64.wrap (10 * (v : Int) + (s[j].toNat : Int)) = 10 * (v : Int) + (s[j].toNat : Int) := by rw [IntKind.wrap_i64]; omega
        have w3 : IntKind.i64.wrap (10 * (v : Int) + (s[j].toNat : Int) - 48) = ((10 * v + (s[j].toNat - 48) : Nat) : Int) := by rw [IntKind.wrap_i64]; omega
        have w4 : IntKind.i64.wrap (s[j].toNat : Int) = (s[j].toNat : Int) := by rw [IntKind.wrap_i64]; omega
        rw [hd] at D1
        clear hb hd hr hl DG
        go_wp2_with (first
          | (go_at_call 28; (with_reducible refine (D1.out _).mono ?_); rintro e u ⟨rfl, rfl⟩))
        go_roundw
        case rel => exact ⟨j + 1, 10 * v + (s[j].toNat - 48), by go_num, by first | rfl | (simp only [w3]; rfl) | (congr 1), by omega, hv2, hr2, by trivial⟩
        case measure => simp [intOf]; omega
      · have H : Hid (Ex.number s.data.toList = -1) := Ex.number_bad (.inr (.inr (.inr (Ex.all_not hb hd))))
        rw [hd] at D1
        clear hb hd hr hl DG
        go_wp2_with (first
          | (go_at_call 28; (with_reducible refine (D1.out _).mono ?_); rintro e u ⟨rfl, rfl⟩))
        go_ret
        exact ⟨by rw [H.out]; rfl, rfl⟩
    · have g9 : decide ((j : Int) < (s.size : Int)) = false := by rw [decide_eq_false_iff_not]; omega
      obtain rfl : j = s.size := by omega
      have H : Hid (Ex.number s.data.toList = (v : Int)) := by
        have h2 := hr.out
        rw [← hl, List.take_length] at h2
        show _ = _
        rw [Ex.number_fine hne (by omega) hz h2.2, h2.1]
      clear hr hl DG
      go_wp2
      go_ret
      exact ⟨by rw [H.out]; rfl, rfl⟩
set_option maxHeartbeats 1000000 in
set_option maxRecDepth 100000 in
theorem ref27_Number_more (s : ByteArray) (h1 : 1 < s.size) (h6 : s.size ≤ 6) (h : s[0] ≠ 48) (w : World) : Calls Tryz.prog 25 #[.string s] w fun e w' => e = .returned (.int .i64 (Ex.number s.data.toList)) ∧ w = w' := by
  have hl := data_len s
  have hne : s.data.toList ≠ [] := by intro e; rw [e] at hl; simp at hl; omega
  have hp : 0 < s.size := by omega
  have hz : ¬ (1 < s.data.toList.length ∧ s.data.toList.head? = some 48) := fun e => h (by
    have hb := byte_get s hp
    cases hc : s.data.toList with
    | nil => rw [hc] at hb; cases hb
    | cons b t => rw [hc] at hb e; have e2 := e.2; injection e2 with e2; injection hb with hb; rw [← hb, e2])
  have h0 : s.toList.isEmpty = false := by rw [Lib.toList_data]; simpa using hne
  have g1 : decide ((6 : Int) < (s.size : Int)) = false := by rw [decide_eq_false_iff_not]; omega
  have g2 : decide ((1 : Int) < (s.size : Int)) = true := by rw [decide_eq_true_iff]; omega
  have hn : ¬ s[0].toNat = 48 := fun e => h (UInt8.toNat_inj.1 e)
  have g3 : ((s[0].toNat : Int) == 48) = false := by rw [beq_eq_false_iff_ne]; omega
  have DG := Lib.hid (fun (b : UInt8) w => ref27_digit b w)
  clear h
  go_enter Tryz.func25, Tryz.ntmps25
  go_wp2_with fail
  go_loopw [3, 4] (fun nv iv wr => ∃ (j v : Nat), iv = .int .i64 j ∧ nv = .int .i64 v ∧ j ≤ s.size ∧ v ≤ 999999 ∧ Hid (v = Ex.val (s.data.toList.take j) ∧ (s.data.toList.take j).all Ex.digit = true) ∧ wr = w) (fun _ iv _ => s.size - (intOf iv).toNat)
  case atStart => exact ⟨0, 0, rfl, rfl, Nat.zero_le _, by omega, ⟨rfl, rfl⟩, rfl⟩
  case round =>
    obtain ⟨j, v, rfl, rfl, hj, hv, hr, rfl⟩ := hrel
    by_cases hlt : j < s.size
    · have g9 : decide ((j : Int) < (s.size : Int)) = true := by rw [decide_eq_true_iff]; omega
      have hb := byte_get s hlt
      have D1 := Lib.hid (fun w => DG.out s[j] w)
      rcases Bool.eq_false_or_eq_true (Ex.digit s[j]) with hd | hd
      · have hr2 : Hid (10 * v + (s[j].toNat - 48) = Ex.val (s.data.toList.take (j + 1)) ∧ (s.data.toList.take (j + 1)).all Ex.digit = true) := by
          show _ ∧ _
          rw [Ex.val_take hb, Ex.all_take hb, hr.out.2, hd, hr.out.1]; exact ⟨rfl, rfl⟩
        have hdv := Ex.digit_val hd
        have hv2 : 10 * v + (s[j].toNat - 48) ≤ 999999 := by
          have h1 := Ex.val_lt hr2.out.2
          rw [← hr2.out.1, List.length_take, hl] at h1
          have h2 : 10 ^ min (j + 1) s.size ≤ 10 ^ 6 := Nat.pow_le_pow_right (by decide) (by omega)
          have h3 : (10 : Nat) ^ 6 = 1000000 := by decide
          omega
        have w1 : IntKind.i64.wrap (10 * (v : Int)) = 10 * (v : Int) := by rw [IntKind.wrap_i64]; omega
        have w2 : IntKind.i64.wrap (10 * (v : Int) + (s[j].toNat : Int)) = 10 * (v : Int) + (s[j].toNat : Int) := by rw [IntKind.wrap_i64]; omega
        have w3 : IntKind.i64.wrap (10 * (v : Int) + (s[j].toNat : Int) - 48) = ((10 * v + (s[j].toNat - 48) : Nat) : Int) := by rw [IntKind.wrap_i64]; omega
        have w4 : IntKind.i64.wrap (s[j].toNat : Int) = (s[j].toNat : Int) := by rw [IntKind.wrap_i64]; omega
        rw [hd] at D1
        clear hb hd hr hl DG
        go_wp2_with (first
          | (go_at_call 28; (with_reducible refine (D1.out _).mono ?_); rintro e u ⟨rfl, rfl⟩))
        go_roundw
        case rel => exact ⟨j + 1, 10 * v + (s[j].toNat - 48), by go_num, by first | rfl | (simp only [w3]; rfl) | (congr 1), by omega, hv2, hr2, by trivial⟩
        case measure => simp [intOf]; omega
      · have H : Hid (Ex.number s.data.toList = -1) := Ex.number_bad (.inr (.inr (.inr (Ex.all_not hb hd))))
        rw [hd] at D1
        clear hb hd hr hl DG
        go_wp2_with (first
          | (go_at_call 28; (with_reducible refine (D1.out _).mono ?_); rintro e u ⟨rfl, rfl⟩))
        go_ret
        exact ⟨by rw [H.out]; rfl, rfl⟩
    · have g9 : decide ((j : Int) < (s.size : Int)) = false := by rw [decide_eq_false_iff_not]; omega
      obtain rfl : j = s.size := by omega
      have H : Hid (Ex.number s.data.toList = (v : Int)) := by
        have h2 := hr.out
        rw [← hl, List.take_length] at h2
        show _ = _
        rw [Ex.number_fine hne (by omega) hz h2.2, h2.1]
      clear hr hl DG
      go_wp2
      go_ret
      exact ⟨by rw [H.out]; rfl, rfl⟩
theorem ref27_Number (s : ByteArray) (w : World) : Calls Tryz.prog 25 #[.string s] w fun e w' => e = .returned (.int .i64 (Ex.number s.data.toList)) ∧ w = w' := by
  have hl := data_len s
  by_cases h : s.data.toList = []
  · rw [Ex.number_bad (.inl h)]; exact ref27_Number_empty s h w
  have h1 : 0 < s.size := by rw [← hl]; exact List.length_pos_iff.2 h
  by_cases h6 : 6 < s.size
  · rw [Ex.number_bad (.inr (.inl (by rw [hl]; exact h6)))]; exact ref27_Number_long s h6 w
  by_cases h2 : 1 < s.size
  · by_cases h48 : s[0] = 48
    · have hh : s.data.toList.head? = some 48 := by
        have hb := byte_get s h1
        cases hc : s.data.toList with
        | nil => rw [hc] at hb; cases hb
        | cons b t => rw [hc] at hb; injection hb with hb; rw [hb, h48]; rfl
      rw [Ex.number_bad (.inr (.inr (.inl ⟨by rw [hl]; exact h2, hh⟩)))]
      exact ref27_Number_nought s h1 (by omega) h2 h48 w
    · exact ref27_Number_more s h2 (by omega) h48 w
  · exact ref27_Number_one s (by omega) w
end Go.Proofs.YtcddbdefdenecaaGreatDoor
