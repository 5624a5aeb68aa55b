/-
  What changes make of a text, one made behind the other, as package change tells it, and as the document does.
-/
import Derived.Test.YtffihchkmcddeaaFits
import Derived.Test.YtffihchkmcddeaaChangeRef
namespace Go.Proofs.Ytffihchkmcddeaa
open Go.RowKit
open Utf Chg
/-- What changes make of a text, one made behind the other, and the error. -/
def does : List Cg → List UInt8 → List UInt8 × Int
  | [], t => (t, 0)
  | k :: ks, t => if fits t k.at_ k.old.data.toList k.new.data.toList = true then
      if 4096 < (make t k.at_.toNat k.old.data.toList k.new.data.toList).length then ([], 8) else does ks (make t k.at_.toNat k.old.data.toList k.new.data.toList)
    else ([], 1)
theorem does_drop {ks : List Cg} {j : Nat} {k : Cg} (h : ks[j]? = some k) (t : List UInt8) : does (ks.drop j) t = if fits t k.at_ k.old.data.toList k.new.data.toList = true then
      if 4096 < (make t k.at_.toNat k.old.data.toList k.new.data.toList).length then ([], 8) else does (ks.drop (j + 1)) (make t k.at_.toNat k.old.data.toList k.new.data.toList)
    else ([], 1) := by
  obtain ⟨hj, rfl⟩ := List.getElem?_eq_some_iff.1 h
  rw [List.drop_eq_getElem_cons hj]
  rfl
theorem does_end {ks : List Cg} {j : Nat} (h : ks.length ≤ j) (t : List UInt8) : does (ks.drop j) t = (t, 0) := by
  rw [List.drop_eq_nil_of_le h]
  rfl
set_option maxHeartbeats 2000000 in
set_option maxRecDepth 100000 in
theorem change_Do (t : ByteArray) {A : Option Addr} {c : Nat} {ks : List Cg} {w : World} (hx : Cgs w A ks) (ht : t.size ≤ 10000) (hs : weigh ks ≤ 10000) (hm : ks.length ≤ 10000) :
    Calls Try.prog 35 #[.string t, .slice A ks.length c] w fun e w' => e = .returned (.tuple #[.string (bs (does ks t.data.toList).1), .int .i64 (does ks t.data.toList).2]) ∧ Below w.heap.size w w' := by
  go_enter Try.func35, Try.ntmps35
  go_wp2_with fail
  go_loopw [0, 10] (fun tv iv wr => ∃ (k : Nat) (T : ByteArray), k ≤ ks.length ∧ iv = .int .i64 k ∧ tv = .string T ∧ T.size ≤ 10000 ∧ Hid (does ks t.data.toList = does (ks.drop k) T.data.toList) ∧ Below w.heap.size w wr) (fun _ iv _ => ks.length - (intOf iv).toNat)
  case atStart => exact ⟨0, t, Nat.zero_le _, rfl, rfl, ht, by show _ = _; rw [List.drop_zero], Below.refl _ _⟩
  case round =>
    obtain ⟨k, T, hkl, rfl, rfl, hT, HD, hW⟩ := hrel
    by_cases hlt : k < ks.length
    · obtain ⟨x, hkx⟩ : ∃ x, ks[k]? = some x := ⟨_, List.getElem?_eq_getElem hlt⟩
      obtain ⟨b, off, rfl, hbw, c0, c1, c2⟩ := hx.at_ hW (Nat.le_refl _) hkx
      have hsn := weigh_snoc hkx
      have htk := weigh_take ks (k + 1)
      have ho : x.old.size ≤ 10000 := by omega
      have hn : x.new.size ≤ 10000 := by omega
      have hst := does_drop hkx T.data.toList
      rw [← HD.out] at hst
      have hb2 : b < wr.heap.size := Nat.lt_of_lt_of_le hbw hW.size
      have hW2 : Below w.heap.size w (wr.alloc (.cells #[.int .i64 x.at_, .string x.old, .string x.new] 26)) := hW.alloc hW.size _
      have b0 := Blk.new wr 26 #[.int .i64 x.at_, .string x.old, .string x.new]
      have d0 : (wr.alloc (.cells #[.int .i64 x.at_, .string x.old, .string x.new] 26)).cell? ⟨wr.heap.size, 0, none⟩ = some (.int .i64 x.at_) := b0.cell 0
      have d1 : (wr.alloc (.cells #[.int .i64 x.at_, .string x.old, .string x.new] 26)).cell? ⟨wr.heap.size, 1, none⟩ = some (.string x.old) := b0.cell 1
      have d2 : (wr.alloc (.cells #[.int .i64 x.at_, .string x.old, .string x.new] 26)).cell? ⟨wr.heap.size, 2, none⟩ = some (.string x.new) := b0.cell 2
      have CELL : Hid (∀ u, Below (wr.alloc (.cells #[.int .i64 x.at_, .string x.old, .string x.new] 26)).heap.size (wr.alloc (.cells #[.int .i64 x.at_, .string x.old, .string x.new] 26)) u → u.cell? ⟨wr.heap.size, 0, none⟩ = some (.int .i64 x.at_) ∧ u.cell? ⟨wr.heap.size, 1, none⟩ = some (.string x.old) ∧ u.cell? ⟨wr.heap.size, 2, none⟩ = some (.string x.new)) := fun u hu => by
        have b1 := b0.below hu b0.lt
        exact ⟨b1.cell 0, b1.cell 1, b1.cell 2⟩
      have F := Lib.hid (fun w => change_Fits T x.at_ x.old x.new (by omega) (by omega) (by omega) w)
      cases hf : fits T.data.toList x.at_ x.old.data.toList x.new.data.toList with
      | false =>
        rw [hf] at F
        rw [if_neg (by rw [hf]; exact Bool.false_ne_true)] at hst
        have H := Lib.hid hst
        clear hkx b0 hx hst hf HD
        go_wp2_with (go_at_call 54; refine (F.out _).mono ?_; rintro e w2 ⟨rfl, hb3⟩)
        go_ret2
        exact ⟨by rw [H.out]; rfl, hW2.trans (hb3.mono hW2.size)⟩
      | true =>
        rw [hf] at F
        rw [if_pos hf] at hst
        obtain ⟨m, hm1, hm2⟩ := fits_off hf
        rw [hm1] at hst c0 d0 CELL F hW2 d1 d2
        rw [data_len, data_len] at hm2
        rw [Int.toNat_natCast] at hst
        have E1 := extract_to T m
        have E2 := extract_from T (m + x.old.size)
        have E3 : Hid (bs (T.data.toList.take m) ++ x.new ++ bs (T.data.toList.drop (m + x.old.size)) = bs (make T.data.toList m x.old.data.toList x.new.data.toList)) := by
          show _ = _
          rw [← bs_data x.new, bs_append, bs_append, bs_toList, make, data_len]
        have hml : (make T.data.toList m x.old.data.toList x.new.data.toList).length = T.size - x.old.size + x.new.size := by
          rw [make_length (by rw [data_len, data_len]; omega), data_len, data_len, data_len]
        have g1 : ¬ 9223372036854775807 < (bs (T.data.toList.take m)).size + x.new.size := by rw [bs_size, List.length_take, data_len]; omega
        have g2 : ¬ 9223372036854775807 < (bs (T.data.toList.take m) ++ x.new).size + (bs (T.data.toList.drop (m + x.old.size))).size := by
          rw [ByteArray.size_append, bs_size, bs_size, List.length_take, List.length_drop, data_len]; omega
        obtain ⟨X, hX⟩ : ∃ X, bs (T.data.toList.take m) ++ x.new ++ bs (T.data.toList.drop (m + x.old.size)) = X := ⟨_, rfl⟩
        rw [hX] at E3
        have HM : X.size = T.size - x.old.size + x.new.size := by rw [E3.out, bs_size, hml]
        clear hkx b0 hx hf HD hm1
        by_cases hbig : 4096 < X.size
        · rw [if_pos (by rw [hml, ← HM]; exact hbig)] at hst
          have H := Lib.hid hst
          clear HM hst hml
          go_wp2_with (go_at_call 54; refine (F.out _).mono ?_; rintro e w2 ⟨rfl, hb3⟩; obtain ⟨e0, e1, e2⟩ := CELL.out _ hb3)
          go_quiet (fail)
          go_wp2
          go_ret2
          exact ⟨by rw [H.out]; rfl, (hW2.trans (hb3.mono hW2.size)).trans ((below_gb (gb_drewN w2 nq none)).mono (Nat.le_trans hW2.size hb3.size))⟩
        · rw [if_neg (by rw [hml, ← HM]; exact hbig)] at hst
          have H : Hid (does ks t.data.toList = does (ks.drop (k + 1)) X.data.toList) := by show _ = _; rw [hst, E3.out, bs_toList]
          clear HM hst hml
          go_wp2_with (go_at_call 54; refine (F.out _).mono ?_; rintro e w2 ⟨rfl, hb3⟩; obtain ⟨e0, e1, e2⟩ := CELL.out _ hb3)
          go_quiet (fail)
          go_wp2
          go_roundw
          case rel => exact ⟨k + 1, X, by omega, by go_num, rfl, by omega, H, (hW2.trans (hb3.mono hW2.size)).trans ((below_gb (gb_drewN w2 nq none)).mono (Nat.le_trans hW2.size hb3.size))⟩
          case measure => simp [intOf]; omega
    · have H : Hid (does ks t.data.toList = (T.data.toList, 0)) := by show _ = _; rw [HD.out, does_end (by omega)]
      have K := Lib.hid (fun w => str_clone T w (by omega))
      clear hx HD
      go_wp2_with (go_at_call 48; refine (K.out _).mono ?_; rintro e w2 ⟨rfl, hb3⟩)
      go_ret2
      exact ⟨by rw [H.out]; rfl, hW.trans (hb3.mono hW.size)⟩
set_option maxHeartbeats 2000000 in
set_option maxRecDepth 100000 in
theorem ref8_Do (t : ByteArray) {A : Option Addr} {c : Nat} {ks : List Cg} {w : World} (hx : Cgs w A ks) (ht : t.size ≤ 10000) (hs : weigh ks ≤ 10000) (hm : ks.length ≤ 10000) :
    Calls Try.prog 50 #[.string t, .slice A ks.length c] w fun e w' => e = .returned (.tuple #[.string (bs (does ks t.data.toList).1), .int .i64 (does ks t.data.toList).2]) ∧ Below w.heap.size w w' := by
  go_enter Try.func50, Try.ntmps50
  go_wp2_with fail
  go_loopw [0, 6] (fun tv iv wr => ∃ (k : Nat) (T : ByteArray), k ≤ ks.length ∧ iv = .int .i64 k ∧ tv = .string T ∧ T.size ≤ 10000 ∧ Hid (does ks t.data.toList = does (ks.drop k) T.data.toList) ∧ Below w.heap.size w wr) (fun _ iv _ => ks.length - (intOf iv).toNat)
  case atStart => exact ⟨0, t, Nat.zero_le _, rfl, rfl, ht, by show _ = _; rw [List.drop_zero], Below.refl _ _⟩
  case round =>
    obtain ⟨k, T, hkl, rfl, rfl, hT, HD, hW⟩ := hrel
    by_cases hlt : k < ks.length
    · obtain ⟨x, hkx⟩ : ∃ x, ks[k]? = some x := ⟨_, List.getElem?_eq_getElem hlt⟩
      obtain ⟨b, off, rfl, hbw, c0, c1, c2⟩ := hx.at_ hW (Nat.le_refl _) hkx
      have hsn := weigh_snoc hkx
      have htk := weigh_take ks (k + 1)
      have ho : x.old.size ≤ 10000 := by omega
      have hn : x.new.size ≤ 10000 := by omega
      have hst := does_drop hkx T.data.toList
      rw [← HD.out] at hst
      have hb2 : b < wr.heap.size := Nat.lt_of_lt_of_le hbw hW.size
      have hW2 : Below w.heap.size w (wr.alloc (.cells #[.int .i64 x.at_, .string x.old, .string x.new] 26)) := hW.alloc hW.size _
      have b0 := Blk.new wr 26 #[.int .i64 x.at_, .string x.old, .string x.new]
      have d0 : (wr.alloc (.cells #[.int .i64 x.at_, .string x.old, .string x.new] 26)).cell? ⟨wr.heap.size, 0, none⟩ = some (.int .i64 x.at_) := b0.cell 0
      have d1 : (wr.alloc (.cells #[.int .i64 x.at_, .string x.old, .string x.new] 26)).cell? ⟨wr.heap.size, 1, none⟩ = some (.string x.old) := b0.cell 1
      have d2 : (wr.alloc (.cells #[.int .i64 x.at_, .string x.old, .string x.new] 26)).cell? ⟨wr.heap.size, 2, none⟩ = some (.string x.new) := b0.cell 2
      have CELL : Hid (∀ u, Below (wr.alloc (.cells #[.int .i64 x.at_, .string x.old, .string x.new] 26)).heap.size (wr.alloc (.cells #[.int .i64 x.at_, .string x.old, .string x.new] 26)) u → u.cell? ⟨wr.heap.size, 0, none⟩ = some (.int .i64 x.at_) ∧ u.cell? ⟨wr.heap.size, 1, none⟩ = some (.string x.old) ∧ u.cell? ⟨wr.heap.size, 2, none⟩ = some (.string x.new)) := fun u hu => by
        have b1 := b0.below hu b0.lt
        exact ⟨b1.cell 0, b1.cell 1, b1.cell 2⟩
      have F := Lib.hid (fun w => ref8_Fits T x.at_ x.old x.new (by omega) (by omega) (by omega) w)
      cases hf : fits T.data.toList x.at_ x.old.data.toList x.new.data.toList with
      | false =>
        rw [hf] at F
        rw [if_neg (by rw [hf]; exact Bool.false_ne_true)] at hst
        have H := Lib.hid hst
        clear hkx b0 hx hst hf HD
        go_wp2_with (go_at_call 56; refine (F.out _).mono ?_; rintro e w2 ⟨rfl, hb3⟩)
        go_ret2
        exact ⟨by rw [H.out]; rfl, hW2.trans (hb3.mono hW2.size)⟩
      | true =>
        rw [hf] at F
        rw [if_pos hf] at hst
        obtain ⟨m, hm1, hm2⟩ := fits_off hf
        rw [hm1] at hst c0 d0 CELL F hW2 d1 d2
        rw [data_len, data_len] at hm2
        rw [Int.toNat_natCast] at hst
        have E1 := extract_to T m
        have E2 := extract_from T (m + x.old.size)
        have E3 : Hid (bs (T.data.toList.take m) ++ x.new ++ bs (T.data.toList.drop (m + x.old.size)) = bs (make T.data.toList m x.old.data.toList x.new.data.toList)) := by
          show _ = _
          rw [← bs_data x.new, bs_append, bs_append, bs_toList, make, data_len]
        have hml : (make T.data.toList m x.old.data.toList x.new.data.toList).length = T.size - x.old.size + x.new.size := by
          rw [make_length (by rw [data_len, data_len]; omega), data_len, data_len, data_len]
        have g1 : ¬ 9223372036854775807 < (bs (T.data.toList.take m)).size + x.new.size := by rw [bs_size, List.length_take, data_len]; omega
        have g2 : ¬ 9223372036854775807 < (bs (T.data.toList.take m) ++ x.new).size + (bs (T.data.toList.drop (m + x.old.size))).size := by
          rw [ByteArray.size_append, bs_size, bs_size, List.length_take, List.length_drop, data_len]; omega
        obtain ⟨X, hX⟩ : ∃ X, bs (T.data.toList.take m) ++ x.new ++ bs (T.data.toList.drop (m + x.old.size)) = X := ⟨_, rfl⟩
        rw [hX] at E3
        have HM : X.size = T.size - x.old.size + x.new.size := by rw [E3.out, bs_size, hml]
        clear hkx b0 hx hf HD hm1
        by_cases hbig : 4096 < X.size
        · rw [if_pos (by rw [hml, ← HM]; exact hbig)] at hst
          have H := Lib.hid hst
          clear HM hst hml
          go_wp2_with (go_at_call 56; refine (F.out _).mono ?_; rintro e w2 ⟨rfl, hb3⟩; obtain ⟨e0, e1, e2⟩ := CELL.out _ hb3)
          go_quiet (fail)
          go_wp2
          go_ret2
          exact ⟨by rw [H.out]; rfl, (hW2.trans (hb3.mono hW2.size)).trans ((below_gb (gb_drewN w2 nq none)).mono (Nat.le_trans hW2.size hb3.size))⟩
        · rw [if_neg (by rw [hml, ← HM]; exact hbig)] at hst
          have H : Hid (does ks t.data.toList = does (ks.drop (k + 1)) X.data.toList) := by show _ = _; rw [hst, E3.out, bs_toList]
          clear HM hst hml
          go_wp2_with (go_at_call 56; refine (F.out _).mono ?_; rintro e w2 ⟨rfl, hb3⟩; obtain ⟨e0, e1, e2⟩ := CELL.out _ hb3)
          go_quiet (fail)
          go_wp2
          go_roundw
          case rel => exact ⟨k + 1, X, by omega, by go_num, rfl, by omega, H, (hW2.trans (hb3.mono hW2.size)).trans ((below_gb (gb_drewN w2 nq none)).mono (Nat.le_trans hW2.size hb3.size))⟩
          case measure => simp [intOf]; omega
    · have H : Hid (does ks t.data.toList = (T.data.toList, 0)) := by show _ = _; rw [HD.out, does_end (by omega)]
      clear hx HD
      go_wp2
      go_ret2
      exact ⟨by rw [H.out]; rfl, hW⟩
end Go.Proofs.Ytffihchkmcddeaa
