/-
  Package ex's address, cut and addresses.
-/
import Derived.Test.YtcddbdefdenecaaGreatDoorExNums
import Derived.Test.YtcddbdefdenecaaGreatDoorExBox
namespace Go.Proofs.YtcddbdefdenecaaGreatDoor
open Go.RowKit
open Ex (Ln)
set_option maxHeartbeats 1000000 in
set_option maxRecDepth 100000 in
theorem ex_address_here (s : ByteArray) (h : s.data.toList.head? = some 46) (w : World) :
    Calls Tryz.prog 37 #[.string s] w fun e w' => e = .returned (.tuple #[.int .i64 (-1), .string (bs s.data.toList.tail)]) ∧ Below w.heap.size w w' := by
  have C := Lib.hid (cut_hit h w)
  clear h
  go_enter Tryz.func37, Tryz.ntmps37
  go_wp2_with (first
    | (go_at_call 36; refine C.out.mono ?_; rintro e w1 ⟨rfl, rfl⟩))
  go_ret2
  exact ⟨rfl, Below.refl _ _⟩
set_option maxHeartbeats 1000000 in
set_option maxRecDepth 100000 in
theorem ex_address_last (s : ByteArray) (h0 : s.data.toList.head? ≠ some 46) (h : s.data.toList.head? = some 36) (w : World) :
    Calls Tryz.prog 37 #[.string s] w fun e w' => e = .returned (.tuple #[.int .i64 (-2), .string (bs s.data.toList.tail)]) ∧ Below w.heap.size w w' := by
  have C0 := Lib.hid (cut_miss h0 w)
  have C := Lib.hid (cut_hit h w)
  clear h h0
  go_enter Tryz.func37, Tryz.ntmps37
  go_wp2_with (first
    | (go_at_call 36; (with_reducible refine C0.out.mono ?_); rintro e w1 ⟨rfl, rfl⟩)
    | (go_at_call 36; (with_reducible refine C.out.mono ?_); rintro e w1 ⟨rfl, rfl⟩))
  go_ret2
  exact ⟨rfl, Below.refl _ _⟩
set_option maxHeartbeats 1000000 in
set_option maxRecDepth 100000 in
theorem ex_address_number (s : ByteArray) (h0 : s.data.toList.head? ≠ some 46) (h : s.data.toList.head? ≠ some 36) (hs : s.size ≤ 1000000000000) (w : World) :
    Calls Tryz.prog 37 #[.string s] w fun e w' => e = .returned (.tuple #[.int .i64 (Ex.pos (s.data.toList.takeWhile Ex.digit)), .string (bs (s.data.toList.dropWhile Ex.digit))]) ∧ Below w.heap.size w w' := by
  have C0 := Lib.hid (cut_miss h0 w)
  have C := Lib.hid (cut_miss h w)
  have D := Lib.hid (ex_digits s hs w)
  have Q := Lib.hid (fun w => ex_positive (bs (s.data.toList.takeWhile Ex.digit)) w)
  rw [bs_toList] at Q
  generalize Ex.pos (s.data.toList.takeWhile Ex.digit) = n at *
  generalize bs (s.data.toList.takeWhile Ex.digit) = a at *
  generalize bs (s.data.toList.dropWhile Ex.digit) = r at *
  clear h h0
  go_enter Tryz.func37, Tryz.ntmps37
  go_wp2_with (first
    | (go_at_call 36; (with_reducible refine C0.out.mono ?_); rintro e w1 ⟨rfl, rfl⟩)
    | (go_at_call 36; (with_reducible refine C.out.mono ?_); rintro e w1 ⟨rfl, rfl⟩)
    | (go_at_call 39; refine D.out.mono ?_; rintro e w1 ⟨rfl, hb⟩)
    | (go_at_call 58; refine (Q.out _).mono ?_; rintro e w2 ⟨rfl, hb2⟩; replace hb := hb.trans (hb2.mono hb.size); clear hb2))
  go_ret2
  exact ⟨rfl, hb⟩
theorem ex_address (s : ByteArray) (hs : s.size ≤ 1000000000000) (w : World) :
    Calls Tryz.prog 37 #[.string s] w fun e w' => e = .returned (.tuple #[.int .i64 (Ex.adr s.data.toList).1, .string (bs (Ex.adr s.data.toList).2)]) ∧ Below w.heap.size w w' := by
  unfold Ex.adr
  by_cases h0 : s.data.toList.head? = some 46
  · rw [if_pos h0]; exact ex_address_here s h0 w
  rw [if_neg h0]
  by_cases h1 : s.data.toList.head? = some 36
  · rw [if_pos h1]; exact ex_address_last s h0 h1 w
  · rw [if_neg h1]; exact ex_address_number s h0 h1 hs w
theorem has_hit {s : ByteArray} {c : UInt8} (h : s.data.toList.head? = some c) (w : World) :
    Calls Tryz.prog 38 #[.string s, .string ⟨#[c]⟩] w fun e w' => e = .returned (.bool true) ∧ w = w' := by
  refine (Tryz.strings_HasPrefix s ⟨#[c]⟩ w).mono ?_
  rintro e w' ⟨rfl, rfl⟩
  exact ⟨by rw [show (⟨#[c]⟩ : ByteArray).data.toList = [c] from rfl, Ex.prefix_one, decide_eq_true h], rfl⟩
theorem has_miss {s : ByteArray} {c : UInt8} (h : s.data.toList.head? ≠ some c) (w : World) :
    Calls Tryz.prog 38 #[.string s, .string ⟨#[c]⟩] w fun e w' => e = .returned (.bool false) ∧ w = w' := by
  refine (Tryz.strings_HasPrefix s ⟨#[c]⟩ w).mono ?_
  rintro e w' ⟨rfl, rfl⟩
  exact ⟨by rw [show (⟨#[c]⟩ : ByteArray).data.toList = [c] from rfl, Ex.prefix_one, decide_eq_false h], rfl⟩
set_option maxHeartbeats 1000000 in
set_option maxRecDepth 100000 in
theorem ex_cut_right (s : ByteArray) (h : s.data.toList.head? = some 62) (w : World) :
    Calls Tryz.prog 17 #[.string s] w fun e w' => e = .returned (.tuple #[.string (bs (s.data.toList.take 1)), .string (bs s.data.toList.tail)]) ∧ Below w.heap.size w w' := by
  have C := Lib.hid (has_hit h w)
  have h1 : 1 ≤ s.size := by rw [← data_len]; cases hl : s.data.toList with | nil => rw [hl] at h; cases h | cons b t => simp
  have E1 := Lib.hid (Ex.tail_one s)
  have E2 : Hid (s.extract 0 1 = bs (s.data.toList.take 1)) := by
    show _ = _
    rw [Lib.extract_eq, List.drop_zero]; rfl
  clear h
  go_enter Tryz.func17, Tryz.ntmps17
  go_wp2_with (first
    | (go_at_call 38; refine C.out.mono ?_; rintro e w1 ⟨rfl, rfl⟩))
  go_region
  all_goals (go_wp2; go_ret2; exact ⟨by rw [← E1.out, ← E2.out]; rfl, below_gb (gb_drew _ none)⟩)
set_option maxHeartbeats 1000000 in
set_option maxRecDepth 100000 in
theorem ex_cut_left (s : ByteArray) (h0 : s.data.toList.head? ≠ some 62) (h : s.data.toList.head? = some 60) (w : World) :
    Calls Tryz.prog 17 #[.string s] w fun e w' => e = .returned (.tuple #[.string (bs (s.data.toList.take 1)), .string (bs s.data.toList.tail)]) ∧ Below w.heap.size w w' := by
  have C0 := Lib.hid (has_miss h0 w)
  have C := Lib.hid (has_hit h w)
  have h1 : 1 ≤ s.size := by rw [← data_len]; cases hl : s.data.toList with | nil => rw [hl] at h; cases h | cons b t => simp
  have E1 := Lib.hid (Ex.tail_one s)
  have E2 : Hid (s.extract 0 1 = bs (s.data.toList.take 1)) := by
    show _ = _
    rw [Lib.extract_eq, List.drop_zero]; rfl
  clear h h0
  go_enter Tryz.func17, Tryz.ntmps17
  go_wp2_with (first
    | (go_at_call 38; (with_reducible refine C0.out.mono ?_); rintro e w1 ⟨rfl, rfl⟩)
    | (go_at_call 38; (with_reducible refine C.out.mono ?_); rintro e w1 ⟨rfl, rfl⟩))
  go_region
  all_goals (go_wp2; go_ret2; exact ⟨by rw [← E1.out, ← E2.out]; rfl, below_gb (gb_drew _ none)⟩)
set_option maxHeartbeats 1000000 in
set_option maxRecDepth 100000 in
theorem ex_cut_word (s : ByteArray) (h0 : s.data.toList.head? ≠ some 62) (h : s.data.toList.head? ≠ some 60) (hs : s.size ≤ 1000000000000) (w : World) :
    Calls Tryz.prog 17 #[.string s] w fun e w' => e = .returned (.tuple #[.string (bs (s.data.toList.takeWhile Ex.small)), .string (bs (s.data.toList.dropWhile Ex.small))]) ∧ Below w.heap.size w w' := by
  have C0 := Lib.hid (has_miss h0 w)
  have C := Lib.hid (has_miss h w)
  have D := Lib.hid (ex_letters s hs w)
  generalize bs (s.data.toList.takeWhile Ex.small) = a at *
  generalize bs (s.data.toList.dropWhile Ex.small) = r at *
  clear h h0
  go_enter Tryz.func17, Tryz.ntmps17
  go_wp2_with (first
    | (go_at_call 38; (with_reducible refine C0.out.mono ?_); rintro e w1 ⟨rfl, rfl⟩)
    | (go_at_call 38; (with_reducible refine C.out.mono ?_); rintro e w1 ⟨rfl, rfl⟩)
    | (go_at_call 39; refine D.out.mono ?_; rintro e w1 ⟨rfl, hb⟩))
  go_ret2
  exact ⟨rfl, hb⟩
theorem ex_cut (s : ByteArray) (hs : s.size ≤ 1000000000000) (w : World) :
    Calls Tryz.prog 17 #[.string s] w fun e w' => e = .returned (.tuple #[.string (bs (Ex.verb s.data.toList).1), .string (bs (Ex.verb s.data.toList).2)]) ∧ Below w.heap.size w w' := by
  unfold Ex.verb
  have ht : ∀ b : UInt8, Ex.small b = false → s.data.toList.head? = some b → s.data.toList.takeWhile Ex.small = [] := by
    intro b hb h
    cases hl : s.data.toList with
    | nil => rfl
    | cons c t => rw [hl] at h; injection h with h; subst h; rw [List.takeWhile_cons, hb]; rfl
  by_cases h0 : s.data.toList.head? = some 62
  · rw [if_pos ⟨ht 62 (by decide) h0, .inl h0⟩]; exact ex_cut_right s h0 w
  by_cases h1 : s.data.toList.head? = some 60
  · rw [if_pos ⟨ht 60 (by decide) h1, .inr h1⟩]; exact ex_cut_left s h0 h1 w
  · rw [if_neg (fun e => e.2.elim h0 h1)]; exact ex_cut_word s h0 h1 hs w
set_option maxHeartbeats 1000000 in
set_option maxRecDepth 100000 in
theorem ex_addresses_all (s : ByteArray) (h : s.data.toList.head? = some 37) (w : World) :
    Calls Tryz.prog 16 #[.string s] w fun e w' => e = .returned (.tuple #[.agg #[.int .i64 1, .int .i64 (-2), .string ⟨#[]⟩, .string ⟨#[]⟩, .string ⟨#[]⟩, .string ⟨#[]⟩, .bool false], .string (bs s.data.toList.tail), .int .i64 0]) ∧ Below w.heap.size w w' := by
  have C := Lib.hid (fun w => cut_hit h w)
  clear h
  go_enter Tryz.func16, Tryz.ntmps16
  go_wp2_with (first
    | (go_at_call 36; refine (C.out _).mono ?_; rintro e w1 ⟨rfl, rfl⟩))
  refine ret_seven2 rfl rfl (Blk.new _ _ _) rfl Tryz.underlying24 (by kernel_rfl) ?_
  exact ⟨rfl, (Below.refl _ _).alloc (Nat.le_refl _) _⟩
set_option maxHeartbeats 1000000 in
set_option maxRecDepth 100000 in
theorem ex_addresses_empty (s : ByteArray) (h : s.data.toList = []) (w : World) :
    Calls Tryz.prog 16 #[.string s] w fun e w' => e = .returned (.tuple #[.agg #[.int .i64 0, .int .i64 0, .string ⟨#[]⟩, .string ⟨#[]⟩, .string ⟨#[]⟩, .string ⟨#[]⟩, .bool false], .string (s), .int .i64 0]) ∧ Below w.heap.size w w' := by
  have C := Lib.hid (fun w => cut_miss (s := s) (c := 37) (by rw [h]; simp) w)
  have h0 : s.toList.isEmpty = true := by rw [Lib.toList_data, h]; rfl
  clear h
  go_enter Tryz.func16, Tryz.ntmps16
  go_wp2_with (first
    | (go_at_call 36; refine (C.out _).mono ?_; rintro e w1 ⟨rfl, rfl⟩))
  refine ret_seven2 rfl rfl (Blk.new _ _ _) rfl Tryz.underlying24 (by kernel_rfl) ?_
  exact ⟨rfl, (Below.refl _ _).alloc (Nat.le_refl _) _⟩
set_option maxHeartbeats 1000000 in
set_option maxRecDepth 100000 in
theorem ex_addresses_none (s : ByteArray) (h : s.data.toList.head? ≠ some 37) (h1 : 0 < s.size) (hs : (Ex.digitsT ++ [46, 36]).contains s[0] = false) (w : World) :
    Calls Tryz.prog 16 #[.string s] w fun e w' => e = .returned (.tuple #[.agg #[.int .i64 0, .int .i64 0, .string ⟨#[]⟩, .string ⟨#[]⟩, .string ⟨#[]⟩, .string ⟨#[]⟩, .bool false], .string (s), .int .i64 0]) ∧ Below w.heap.size w w' := by
  have C := Lib.hid (fun w => cut_miss h w)
  clear h
  have h0 : s.toList.isEmpty = false := by rw [Lib.toList_data]; cases hl : s.data.toList with | nil => rw [← data_len, hl] at h1; simp at h1 | cons b t => rfl
  have S := Lib.hid (fun w => str_has ⟨#[48, 49, 50, 51, 52, 53, 54, 55, 56, 57, 46, 36]⟩ s h1 w)
  rw [show (⟨#[48, 49, 50, 51, 52, 53, 54, 55, 56, 57, 46, 36]⟩ : ByteArray).data.toList.contains s[0] = false from hs] at S
  have h2 : 1 ≤ s.size := h1
  clear hs
  go_enter Tryz.func16, Tryz.ntmps16
  go_wp2_with (first
    | (go_at_call 36; refine (C.out _).mono ?_; rintro e w1 ⟨rfl, rfl⟩)
    | (go_at_call 26; refine (S.out _).mono ?_; rintro e w1 ⟨rfl, rfl⟩))
  refine ret_seven2 rfl rfl (Blk.new _ _ _) rfl Tryz.underlying24 (by kernel_rfl) ?_
  exact ⟨rfl, (Below.refl _ _).alloc (Nat.le_refl _) _⟩
set_option maxHeartbeats 1000000 in
set_option maxRecDepth 100000 in
theorem ex_addresses_wrong (s : ByteArray) (h : s.data.toList.head? ≠ some 37) (h1 : 0 < s.size) (hs : (Ex.digitsT ++ [46, 36]).contains s[0] = true) {r : ByteArray} (A1 : Hid (∀ w, Calls Tryz.prog 37 #[.string s] w fun e w' => e = .returned (.tuple #[.int .i64 0, .string r]) ∧ Below w.heap.size w w')) (w : World) :
    Calls Tryz.prog 16 #[.string s] w fun e w' => e = .returned (.tuple #[.agg #[.int .i64 0, .int .i64 0, .string ⟨#[]⟩, .string ⟨#[]⟩, .string ⟨#[]⟩, .string ⟨#[]⟩, .bool false], .string (⟨#[]⟩), .int .i64 3]) ∧ Below w.heap.size w w' := by
  have C := Lib.hid (fun w => cut_miss h w)
  clear h
  have h0 : s.toList.isEmpty = false := by rw [Lib.toList_data]; cases hl : s.data.toList with | nil => rw [← data_len, hl] at h1; simp at h1 | cons b t => rfl
  have S := Lib.hid (fun w => str_has ⟨#[48, 49, 50, 51, 52, 53, 54, 55, 56, 57, 46, 36]⟩ s h1 w)
  rw [show (⟨#[48, 49, 50, 51, 52, 53, 54, 55, 56, 57, 46, 36]⟩ : ByteArray).data.toList.contains s[0] = true from hs] at S
  have h2 : 1 ≤ s.size := h1
  clear hs
  have B0 := Blk.new w 24 #[.int .i64 0, .int .i64 0, .string ⟨#[]⟩, .string ⟨#[]⟩, .string ⟨#[]⟩, .string ⟨#[]⟩, .bool false]
  have W0 := (Below.refl w.heap.size w).alloc (Nat.le_refl _) (.cells #[.int .i64 0, .int .i64 0, .string ⟨#[]⟩, .string ⟨#[]⟩, .string ⟨#[]⟩, .string ⟨#[]⟩, .bool false] 24)
  go_enter Tryz.func16, Tryz.ntmps16
  go_wp2_with (first
    | (go_at_call 36; refine (C.out _).mono ?_; rintro e w1 ⟨rfl, rfl⟩)
    | (go_at_call 26; refine (S.out _).mono ?_; rintro e w1 ⟨rfl, rfl⟩)
    | (go_at_call 37; (with_reducible refine (A1.out _).mono ?_); rintro e w2 ⟨rfl, hb2⟩; have B1 := B0.below hb2 (by rw [World.size_alloc]; omega); have W1 := W0.trans (hb2.mono W0.size); clear hb2 B0 W0; obtain ⟨⟨xu0, yu0⟩, ⟨xu1, yu1⟩, ⟨xu2, yu2⟩, ⟨xu3, yu3⟩, ⟨xu4, yu4⟩, ⟨xu5, yu5⟩, ⟨xu6, yu6⟩, BB⟩ := Ex.blk7 B1 (.int .i64 0) (.int .i64 0) (.string ⟨#[]⟩) (.string ⟨#[]⟩) (.string ⟨#[]⟩) (.string ⟨#[]⟩) (.bool false); have GGu := Ex.put7_gb (w2) (w.heap.size) (.int .i64 0) (.int .i64 0) (.string ⟨#[]⟩) (.string ⟨#[]⟩) (.string ⟨#[]⟩) (.string ⟨#[]⟩) (.bool false); unfold Ex.put7 at GGu BB; generalize hu1 : World.setCell (w2) ⟨w.heap.size, 0, none⟩ (.int .i64 0) = u1 at *; generalize hu2 : World.setCell u1 ⟨w.heap.size, 1, none⟩ (.int .i64 0) = u2 at *; generalize hu3 : World.setCell u2 ⟨w.heap.size, 2, none⟩ (.string ⟨#[]⟩) = u3 at *; generalize hu4 : World.setCell u3 ⟨w.heap.size, 3, none⟩ (.string ⟨#[]⟩) = u4 at *; generalize hu5 : World.setCell u4 ⟨w.heap.size, 4, none⟩ (.string ⟨#[]⟩) = u5 at *; generalize hu6 : World.setCell u5 ⟨w.heap.size, 5, none⟩ (.string ⟨#[]⟩) = u6 at *; generalize hu7 : World.setCell u6 ⟨w.heap.size, 6, none⟩ (.bool false) = u7 at *; replace BB := Lib.hid BB))
  refine ret_seven2 rfl rfl BB.out rfl Tryz.underlying24 (by kernel_rfl) ?_
  exact ⟨rfl, W1.grown GGu W1.size (fun j e => by injection e with e; omega)⟩
set_option maxHeartbeats 1000000 in
set_option maxRecDepth 100000 in
theorem ex_addresses_one (s : ByteArray) (h : s.data.toList.head? ≠ some 37) (h1 : 0 < s.size) (hs : (Ex.digitsT ++ [46, 36]).contains s[0] = true) {n : Int} {r : ByteArray} (hn : n ≠ 0) (A1 : Hid (∀ w, Calls Tryz.prog 37 #[.string s] w fun e w' => e = .returned (.tuple #[.int .i64 n, .string r]) ∧ Below w.heap.size w w')) (h44 : r.data.toList.head? ≠ some 44) (w : World) :
    Calls Tryz.prog 16 #[.string s] w fun e w' => e = .returned (.tuple #[.agg #[.int .i64 n, .int .i64 0, .string ⟨#[]⟩, .string ⟨#[]⟩, .string ⟨#[]⟩, .string ⟨#[]⟩, .bool false], .string (r), .int .i64 0]) ∧ Below w.heap.size w w' := by
  have hn0 : (n == 0) = false := by rw [beq_eq_false_iff_ne]; exact hn
  clear hn
  have C2 := Lib.hid (fun w => cut_miss h44 w)
  clear h44
  have C := Lib.hid (fun w => cut_miss h w)
  clear h
  have h0 : s.toList.isEmpty = false := by rw [Lib.toList_data]; cases hl : s.data.toList with | nil => rw [← data_len, hl] at h1; simp at h1 | cons b t => rfl
  have S := Lib.hid (fun w => str_has ⟨#[48, 49, 50, 51, 52, 53, 54, 55, 56, 57, 46, 36]⟩ s h1 w)
  rw [show (⟨#[48, 49, 50, 51, 52, 53, 54, 55, 56, 57, 46, 36]⟩ : ByteArray).data.toList.contains s[0] = true from hs] at S
  have h2 : 1 ≤ s.size := h1
  clear hs
  have B0 := Blk.new w 24 #[.int .i64 0, .int .i64 0, .string ⟨#[]⟩, .string ⟨#[]⟩, .string ⟨#[]⟩, .string ⟨#[]⟩, .bool false]
  have W0 := (Below.refl w.heap.size w).alloc (Nat.le_refl _) (.cells #[.int .i64 0, .int .i64 0, .string ⟨#[]⟩, .string ⟨#[]⟩, .string ⟨#[]⟩, .string ⟨#[]⟩, .bool false] 24)
  go_enter Tryz.func16, Tryz.ntmps16
  go_wp2_with (first
    | (go_at_call 36; (with_reducible refine (C.out _).mono ?_); rintro e w1 ⟨rfl, rfl⟩)
    | (go_at_call 36; (with_reducible refine (C2.out _).mono ?_); rintro e w1 ⟨rfl, rfl⟩)
    | (go_at_call 26; refine (S.out _).mono ?_; rintro e w1 ⟨rfl, rfl⟩)
    | (go_at_call 37; (with_reducible refine (A1.out _).mono ?_); rintro e w2 ⟨rfl, hb2⟩; have B1 := B0.below hb2 (by rw [World.size_alloc]; omega); have W1 := W0.trans (hb2.mono W0.size); clear hb2 B0 W0; obtain ⟨⟨xu0, yu0⟩, ⟨xu1, yu1⟩, ⟨xu2, yu2⟩, ⟨xu3, yu3⟩, ⟨xu4, yu4⟩, ⟨xu5, yu5⟩, ⟨xu6, yu6⟩, BB⟩ := Ex.blk7 B1 (.int .i64 n) (.int .i64 0) (.string ⟨#[]⟩) (.string ⟨#[]⟩) (.string ⟨#[]⟩) (.string ⟨#[]⟩) (.bool false); have GGu := Ex.put7_gb (w2) (w.heap.size) (.int .i64 n) (.int .i64 0) (.string ⟨#[]⟩) (.string ⟨#[]⟩) (.string ⟨#[]⟩) (.string ⟨#[]⟩) (.bool false); unfold Ex.put7 at GGu BB; generalize hu1 : World.setCell (w2) ⟨w.heap.size, 0, none⟩ (.int .i64 n) = u1 at *; generalize hu2 : World.setCell u1 ⟨w.heap.size, 1, none⟩ (.int .i64 0) = u2 at *; generalize hu3 : World.setCell u2 ⟨w.heap.size, 2, none⟩ (.string ⟨#[]⟩) = u3 at *; generalize hu4 : World.setCell u3 ⟨w.heap.size, 3, none⟩ (.string ⟨#[]⟩) = u4 at *; generalize hu5 : World.setCell u4 ⟨w.heap.size, 4, none⟩ (.string ⟨#[]⟩) = u5 at *; generalize hu6 : World.setCell u5 ⟨w.heap.size, 5, none⟩ (.string ⟨#[]⟩) = u6 at *; generalize hu7 : World.setCell u6 ⟨w.heap.size, 6, none⟩ (.bool false) = u7 at *; replace BB := Lib.hid BB))
  refine ret_seven2 rfl rfl BB.out rfl Tryz.underlying24 (by kernel_rfl) ?_
  exact ⟨rfl, W1.grown GGu W1.size (fun j e => by injection e with e; omega)⟩
set_option maxHeartbeats 1000000 in
set_option maxRecDepth 100000 in
theorem ex_addresses_bad (s : ByteArray) (h : s.data.toList.head? ≠ some 37) (h1 : 0 < s.size) (hs : (Ex.digitsT ++ [46, 36]).contains s[0] = true) {n : Int} {r : ByteArray} (hn : n ≠ 0) (A1 : Hid (∀ w, Calls Tryz.prog 37 #[.string s] w fun e w' => e = .returned (.tuple #[.int .i64 n, .string r]) ∧ Below w.heap.size w w')) (h44 : r.data.toList.head? = some 44) {q : ByteArray} (A2 : Hid (∀ w, Calls Tryz.prog 37 #[.string (bs r.data.toList.tail)] w fun e w' => e = .returned (.tuple #[.int .i64 0, .string q]) ∧ Below w.heap.size w w')) (w : World) :
    Calls Tryz.prog 16 #[.string s] w fun e w' => e = .returned (.tuple #[.agg #[.int .i64 0, .int .i64 0, .string ⟨#[]⟩, .string ⟨#[]⟩, .string ⟨#[]⟩, .string ⟨#[]⟩, .bool false], .string (⟨#[]⟩), .int .i64 3]) ∧ Below w.heap.size w w' := by
  have hn0 : (n == 0) = false := by rw [beq_eq_false_iff_ne]; exact hn
  clear hn
  have C2 := Lib.hid (fun w => cut_hit h44 w)
  clear h44
  generalize bs r.data.toList.tail = x at *
  have C := Lib.hid (fun w => cut_miss h w)
  clear h
  have h0 : s.toList.isEmpty = false := by rw [Lib.toList_data]; cases hl : s.data.toList with | nil => rw [← data_len, hl] at h1; simp at h1 | cons b t => rfl
  have S := Lib.hid (fun w => str_has ⟨#[48, 49, 50, 51, 52, 53, 54, 55, 56, 57, 46, 36]⟩ s h1 w)
  rw [show (⟨#[48, 49, 50, 51, 52, 53, 54, 55, 56, 57, 46, 36]⟩ : ByteArray).data.toList.contains s[0] = true from hs] at S
  have h2 : 1 ≤ s.size := h1
  clear hs
  have B0 := Blk.new w 24 #[.int .i64 0, .int .i64 0, .string ⟨#[]⟩, .string ⟨#[]⟩, .string ⟨#[]⟩, .string ⟨#[]⟩, .bool false]
  have W0 := (Below.refl w.heap.size w).alloc (Nat.le_refl _) (.cells #[.int .i64 0, .int .i64 0, .string ⟨#[]⟩, .string ⟨#[]⟩, .string ⟨#[]⟩, .string ⟨#[]⟩, .bool false] 24)
  go_enter Tryz.func16, Tryz.ntmps16
  go_wp2_with (first
    | (go_at_call 36; (with_reducible refine (C.out _).mono ?_); rintro e w1 ⟨rfl, rfl⟩)
    | (go_at_call 36; (with_reducible refine (C2.out _).mono ?_); rintro e w1 ⟨rfl, rfl⟩)
    | (go_at_call 26; refine (S.out _).mono ?_; rintro e w1 ⟨rfl, rfl⟩)
    | (go_at_call 37; (with_reducible refine (A1.out _).mono ?_); rintro e w2 ⟨rfl, hb2⟩; have B1 := B0.below hb2 (by rw [World.size_alloc]; omega); have W1 := W0.trans (hb2.mono W0.size); clear hb2 B0 W0)
    | (go_at_call 37; (with_reducible refine (A2.out _).mono ?_); rintro e w3 ⟨rfl, hb3⟩; have B2 := B1.below hb3 B1.lt; have W2 := W1.trans (hb3.mono W1.size); clear hb3 B1 W1; obtain ⟨⟨xu0, yu0⟩, ⟨xu1, yu1⟩, ⟨xu2, yu2⟩, ⟨xu3, yu3⟩, ⟨xu4, yu4⟩, ⟨xu5, yu5⟩, ⟨xu6, yu6⟩, BB⟩ := Ex.blk7 B2 (.int .i64 0) (.int .i64 0) (.string ⟨#[]⟩) (.string ⟨#[]⟩) (.string ⟨#[]⟩) (.string ⟨#[]⟩) (.bool false); have GGu := Ex.put7_gb (w3) (w.heap.size) (.int .i64 0) (.int .i64 0) (.string ⟨#[]⟩) (.string ⟨#[]⟩) (.string ⟨#[]⟩) (.string ⟨#[]⟩) (.bool false); unfold Ex.put7 at GGu BB; generalize hu1 : World.setCell (w3) ⟨w.heap.size, 0, none⟩ (.int .i64 0) = u1 at *; generalize hu2 : World.setCell u1 ⟨w.heap.size, 1, none⟩ (.int .i64 0) = u2 at *; generalize hu3 : World.setCell u2 ⟨w.heap.size, 2, none⟩ (.string ⟨#[]⟩) = u3 at *; generalize hu4 : World.setCell u3 ⟨w.heap.size, 3, none⟩ (.string ⟨#[]⟩) = u4 at *; generalize hu5 : World.setCell u4 ⟨w.heap.size, 4, none⟩ (.string ⟨#[]⟩) = u5 at *; generalize hu6 : World.setCell u5 ⟨w.heap.size, 5, none⟩ (.string ⟨#[]⟩) = u6 at *; generalize hu7 : World.setCell u6 ⟨w.heap.size, 6, none⟩ (.bool false) = u7 at *; replace BB := Lib.hid BB))
  refine ret_seven2 rfl rfl BB.out rfl Tryz.underlying24 (by kernel_rfl) ?_
  exact ⟨rfl, W2.grown GGu W2.size (fun j e => by injection e with e; omega)⟩
set_option maxHeartbeats 1000000 in
set_option maxRecDepth 100000 in
theorem ex_addresses_two (s : ByteArray) (h : s.data.toList.head? ≠ some 37) (h1 : 0 < s.size) (hs : (Ex.digitsT ++ [46, 36]).contains s[0] = true) {n : Int} {r : ByteArray} (hn : n ≠ 0) (A1 : Hid (∀ w, Calls Tryz.prog 37 #[.string s] w fun e w' => e = .returned (.tuple #[.int .i64 n, .string r]) ∧ Below w.heap.size w w')) (h44 : r.data.toList.head? = some 44) {m : Int} {q : ByteArray} (A2 : Hid (∀ w, Calls Tryz.prog 37 #[.string (bs r.data.toList.tail)] w fun e w' => e = .returned (.tuple #[.int .i64 m, .string q]) ∧ Below w.heap.size w w')) (hm : m ≠ 0) (w : World) :
    Calls Tryz.prog 16 #[.string s] w fun e w' => e = .returned (.tuple #[.agg #[.int .i64 n, .int .i64 m, .string ⟨#[]⟩, .string ⟨#[]⟩, .string ⟨#[]⟩, .string ⟨#[]⟩, .bool false], .string (q), .int .i64 0]) ∧ Below w.heap.size w w' := by
  have hm0 : (m == 0) = false := by rw [beq_eq_false_iff_ne]; exact hm
  clear hm
  have hn0 : (n == 0) = false := by rw [beq_eq_false_iff_ne]; exact hn
  clear hn
  have C2 := Lib.hid (fun w => cut_hit h44 w)
  clear h44
  generalize bs r.data.toList.tail = x at *
  have C := Lib.hid (fun w => cut_miss h w)
  clear h
  have h0 : s.toList.isEmpty = false := by rw [Lib.toList_data]; cases hl : s.data.toList with | nil => rw [← data_len, hl] at h1; simp at h1 | cons b t => rfl
  have S := Lib.hid (fun w => str_has ⟨#[48, 49, 50, 51, 52, 53, 54, 55, 56, 57, 46, 36]⟩ s h1 w)
  rw [show (⟨#[48, 49, 50, 51, 52, 53, 54, 55, 56, 57, 46, 36]⟩ : ByteArray).data.toList.contains s[0] = true from hs] at S
  have h2 : 1 ≤ s.size := h1
  clear hs
  have B0 := Blk.new w 24 #[.int .i64 0, .int .i64 0, .string ⟨#[]⟩, .string ⟨#[]⟩, .string ⟨#[]⟩, .string ⟨#[]⟩, .bool false]
  have W0 := (Below.refl w.heap.size w).alloc (Nat.le_refl _) (.cells #[.int .i64 0, .int .i64 0, .string ⟨#[]⟩, .string ⟨#[]⟩, .string ⟨#[]⟩, .string ⟨#[]⟩, .bool false] 24)
  go_enter Tryz.func16, Tryz.ntmps16
  go_wp2_with (first
    | (go_at_call 36; (with_reducible refine (C.out _).mono ?_); rintro e w1 ⟨rfl, rfl⟩)
    | (go_at_call 36; (with_reducible refine (C2.out _).mono ?_); rintro e w1 ⟨rfl, rfl⟩)
    | (go_at_call 26; refine (S.out _).mono ?_; rintro e w1 ⟨rfl, rfl⟩)
    | (go_at_call 37; (with_reducible refine (A1.out _).mono ?_); rintro e w2 ⟨rfl, hb2⟩; have B1 := B0.below hb2 (by rw [World.size_alloc]; omega); have W1 := W0.trans (hb2.mono W0.size); clear hb2 B0 W0)
    | (go_at_call 37; (with_reducible refine (A2.out _).mono ?_); rintro e w3 ⟨rfl, hb3⟩; have B2 := B1.below hb3 B1.lt; have W2 := W1.trans (hb3.mono W1.size); clear hb3 B1 W1; obtain ⟨⟨xu0, yu0⟩, ⟨xu1, yu1⟩, ⟨xu2, yu2⟩, ⟨xu3, yu3⟩, ⟨xu4, yu4⟩, ⟨xu5, yu5⟩, ⟨xu6, yu6⟩, BB⟩ := Ex.blk7 B2 (.int .i64 n) (.int .i64 m) (.string ⟨#[]⟩) (.string ⟨#[]⟩) (.string ⟨#[]⟩) (.string ⟨#[]⟩) (.bool false); have GGu := Ex.put7_gb (w3) (w.heap.size) (.int .i64 n) (.int .i64 m) (.string ⟨#[]⟩) (.string ⟨#[]⟩) (.string ⟨#[]⟩) (.string ⟨#[]⟩) (.bool false); unfold Ex.put7 at GGu BB; generalize hu1 : World.setCell (w3) ⟨w.heap.size, 0, none⟩ (.int .i64 n) = u1 at *; generalize hu2 : World.setCell u1 ⟨w.heap.size, 1, none⟩ (.int .i64 m) = u2 at *; generalize hu3 : World.setCell u2 ⟨w.heap.size, 2, none⟩ (.string ⟨#[]⟩) = u3 at *; generalize hu4 : World.setCell u3 ⟨w.heap.size, 3, none⟩ (.string ⟨#[]⟩) = u4 at *; generalize hu5 : World.setCell u4 ⟨w.heap.size, 4, none⟩ (.string ⟨#[]⟩) = u5 at *; generalize hu6 : World.setCell u5 ⟨w.heap.size, 5, none⟩ (.string ⟨#[]⟩) = u6 at *; generalize hu7 : World.setCell u6 ⟨w.heap.size, 6, none⟩ (.bool false) = u7 at *; replace BB := Lib.hid BB))
  refine ret_seven2 rfl rfl BB.out rfl Tryz.underlying24 (by kernel_rfl) ?_
  exact ⟨rfl, W2.grown GGu W2.size (fun j e => by injection e with e; omega)⟩
/-- The addresses at a text's beginning, and what is behind them. -/
def Ex.frontV (x : Option (Int × Int × List UInt8)) : Value := match x with
  | some (a, b, t) => .tuple #[.agg #[.int .i64 a, .int .i64 b, .string ⟨#[]⟩, .string ⟨#[]⟩, .string ⟨#[]⟩, .string ⟨#[]⟩, .bool false], .string (bs t), .int .i64 0]
  | none => .tuple #[.agg #[.int .i64 0, .int .i64 0, .string ⟨#[]⟩, .string ⟨#[]⟩, .string ⟨#[]⟩, .string ⟨#[]⟩, .bool false], .string ⟨#[]⟩, .int .i64 3]
theorem ex_addresses (s : ByteArray) (hs : s.size ≤ 1000000000000) (w : World) :
    Calls Tryz.prog 16 #[.string s] w fun e w' => e = .returned (Ex.frontV (Ex.front s.data.toList)) ∧ Below w.heap.size w w' := by
  rw [Ex.front_is]
  unfold Ex.frontP
  by_cases h : s.data.toList.head? = some 37
  · rw [if_pos h]; exact ex_addresses_all s h w
  rw [if_neg h]
  by_cases h0 : s.data.toList = []
  · rw [if_pos (by rw [h0]; rfl)]; exact ex_addresses_empty s h0 w
  have h1 : 0 < s.size := by rw [← data_len]; exact List.length_pos_iff.2 h0
  have hsg : Ex.signs s.data.toList = (Ex.digitsT ++ [46, 36]).contains s[0] := by unfold Ex.signs; rw [Ex.head_at h1]
  rw [hsg]
  cases hc : (Ex.digitsT ++ [46, 36]).contains s[0]
  · rw [if_pos rfl]; exact ex_addresses_none s h h1 hc w
  rw [if_neg (by simp)]
  have A1 := Lib.hid (fun w => ex_address s hs w)
  have hr : (bs (Ex.adr s.data.toList).2).size ≤ s.size := by
    rw [bs_size, ← data_len]
    unfold Ex.adr
    split
    · simp
    split
    · simp
    · exact (Ex.take_while Ex.digit _).2
  by_cases hn : (Ex.adr s.data.toList).1 = 0
  · rw [if_pos hn]
    rw [hn] at A1
    exact ex_addresses_wrong s h h1 hc A1 w
  rw [if_neg hn]
  by_cases h44 : (Ex.adr s.data.toList).2.head? ≠ some 44
  · rw [if_pos h44]; exact ex_addresses_one s h h1 hc hn A1 h44 w
  rw [if_neg h44]
  have A2 := Lib.hid (fun w => ex_address (bs (Ex.adr s.data.toList).2.tail) (by rw [bs_size] at hr ⊢; rw [List.length_tail]; omega) w)
  by_cases hm : (Ex.adr (Ex.adr s.data.toList).2.tail).1 = 0
  · rw [if_pos hm]
    rw [bs_toList, hm] at A2
    exact ex_addresses_bad s h h1 hc hn A1 (Classical.not_not.1 h44) A2 w
  · rw [if_neg hm]
    exact ex_addresses_two s h h1 hc hn A1 (Classical.not_not.1 h44) A2 hm w
end Go.Proofs.YtcddbdefdenecaaGreatDoor
