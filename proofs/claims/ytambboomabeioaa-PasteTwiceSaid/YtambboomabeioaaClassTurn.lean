/-
  Package class: turn, Up, Low, Flip.
-/
import Derived.RegionTactic
import Derived.Test.YtambboomabeioaaClassBytes
import Derived.Test.YtambboomabeioaaHeld8
namespace Go.Proofs.Ytambboomabeioaa
open Go.RowKit
attribute [local go_sem] Oper.semAt_some
namespace Class
/-- Bytes of which those below k are others. -/
def part (f : Nat → Bool) (l : List UInt8) (k : Nat) : List UInt8 := turn f (l.take k) ++ l.drop k
theorem part_zero (f : Nat → Bool) (l : List UInt8) : part f l 0 = l := by simp [part, turn]
theorem part_length (f : Nat → Bool) (l : List UInt8) (k : Nat) : (part f l k).length = l.length := by
  rw [part, List.length_append, turn_length, List.length_take, List.length_drop]; omega
theorem part_all {f : Nat → Bool} {l : List UInt8} {k : Nat} (h : l.length ≤ k) : part f l k = turn f l := by
  rw [part, List.drop_eq_nil_of_le h, List.take_of_length_le h, List.append_nil]
theorem part_next {f : Nat → Bool} {l : List UInt8} {k : Nat} (h : k < l.length) : part f l (k + 1) = turn f (l.take k) ++ flip f l[k] :: l.drop (k + 1) := by
  rw [part, List.take_succ_eq_append_getElem h, turn, List.map_append, List.append_assoc]; rfl
theorem part_here {f : Nat → Bool} {l : List UInt8} {k : Nat} (h : k < l.length) : part f l k = turn f (l.take k) ++ l[k] :: l.drop (k + 1) := by
  rw [part, List.drop_eq_getElem_cons h]
theorem part_at {f : Nat → Bool} {l : List UInt8} {k : Nat} (h : k < l.length) : (part f l k)[k]? = some l[k] := by
  have hk : (turn f (l.take k)).length = k := by rw [turn_length, List.length_take]; omega
  rw [part_here h, List.getElem?_append_right (by omega), hk, Nat.sub_self]; rfl
theorem part_set {f : Nat → Bool} {l : List UInt8} {k : Nat} (h : k < l.length) : (part f l k).set k (flip f l[k]) = part f l (k + 1) := by
  have hk : (turn f (l.take k)).length = k := by rw [turn_length, List.length_take]; omega
  rw [part_here h, part_next h, List.set_append_right _ _ (by omega), hk, Nat.sub_self]; rfl
theorem part_same {f : Nat → Bool} {l : List UInt8} {k : Nat} (h : k < l.length) (hf : f l[k].toNat = false) : part f l k = part f l (k + 1) := by
  rw [part_here h, part_next h, flip, hf]; rfl
theorem xor_bits (b : UInt8) : bits .xor .u8 (b.toNat : Int) 32 = ((b ^^^ 32).toNat : Int) :=
  flip_all (fun b => bits .xor .u8 (b.toNat : Int) 32 = ((b ^^^ 32).toNat : Int)) (by decide +kernel) b
end Class
set_option maxHeartbeats 800000 in
set_option maxRecDepth 100000 in
theorem class_turn_small (s : ByteArray) (hs : s.size ≤ 140737488351232) (w : World) :
    Calls Try.prog 72 #[.string s, .func (.func 88) #[] #[]] w fun e w' => e = .returned (.string (bs (Class.turn Class.small s.data.toList))) ∧ Below w.heap.size w w' := by
  have hl : s.data.toList.length = s.size := by simp
  have hcv := fun w => run_bytes_of_string (P := Try.prog) w 9 70 5 s Try.underlying9 Try.underlying70 Try.underlying5
  go_enter Try.func72, Try.ntmps72
  go_wp2
  clear hcv
  have hH : Held8 (w.alloc (.cells (bytesRow s (grownCap w s.size 0 5)) 5 ((bytesRow s (grownCap w s.size 0 5)).size, (bytesRow s (grownCap w s.size 0 5)).size + 1))).drew w.heap.size s.data.toList := Held8.made w s _
  have hW : Below w.heap.size w (w.alloc (.cells (bytesRow s (grownCap w s.size 0 5)) 5 ((bytesRow s (grownCap w s.size 0 5)).size, (bytesRow s (grownCap w s.size 0 5)).size + 1))).drew := ((Below.refl _ _).alloc (Nat.le_refl _) _).drew
  generalize (w.alloc (.cells (bytesRow s (grownCap w s.size 0 5)) 5 ((bytesRow s (grownCap w s.size 0 5)).size, (bytesRow s (grownCap w s.size 0 5)).size + 1))).drew = wo at hH hW ⊢
  generalize grownCap w s.size 0 5 = cap
  have HL := Lib.hid hl
  rw [← Class.part_zero Class.small s.data.toList] at hH
  clear hl
  go_loopw [12] (fun i wr => ∃ k : Nat, k ≤ s.size ∧ i = .int .i64 k ∧ Held8 wr w.heap.size (Class.part Class.small s.data.toList k) ∧ Below w.heap.size w wr) (fun i _ => s.size - (intOf i).toNat)
  case atStart => exact ⟨0, Nat.zero_le _, rfl, hH, hW⟩
  case round =>
    obtain ⟨k, hk, rfl, hB, hR⟩ := hrel
    clear hH hW
    by_cases hlt : k < s.size
    · have hk2 : k < s.data.toList.length := by rw [HL.out]; exact hlt
      have cb := hB.cell (Class.part_at hk2)
      have hbe : s.data.toList[k] = s[k] := rfl
      rw [hbe] at cb
      have c1 := Lib.hid (class_small s[k].toNat)
      have zb := hB.frozen (i := k) (by rw [Class.part_length]; exact hk2)
      cases hf : Class.small s[k].toNat with
      | false =>
        rw [hf] at c1
        rw [Class.part_same hk2 (by rw [hbe]; exact hf)] at hB
        have HB := Lib.hid hB
        clear hB hf hbe
        go_wp2_with (go_at_call 88; refine (c1.out _).mono ?_; rintro e w1 ⟨rfl, rfl⟩)
        go_roundw
        case rel => exact ⟨k + 1, by omega, by go_num, HB.out, hR⟩
        case measure => simp [intOf]; omega
      | true =>
        rw [hf] at c1
        have hset := hB.set_ k (Class.flip Class.small s[k])
        rw [show Class.flip Class.small s[k] = Class.flip Class.small s.data.toList[k] from rfl, Class.part_set hk2, show Class.flip Class.small s.data.toList[k] = s[k] ^^^ 32 from by rw [Class.flip, hbe, hf]; rfl, ← Class.xor_bits] at hset
        have hR2 := hR.setCell (p := ⟨w.heap.size, k, none⟩) (Nat.le_refl _) (.int .u8 (bits .xor .u8 (s[k].toNat : Int) 32))
        have HB := Lib.hid hset
        have HR := Lib.hid hR2
        clear hB hf hbe hset hR2 hR
        go_wp2_with (go_at_call 88; refine (c1.out _).mono ?_; rintro e w1 ⟨rfl, rfl⟩)
        go_roundw
        case rel => exact ⟨k + 1, by omega, by go_num, HB.out, HR.out⟩
        case measure => simp [intOf]; omega
    · obtain rfl : k = s.size := by omega
      rw [Class.part_all (by rw [HL.out]; exact Nat.le_refl _)] at hB
      have hcb := hB.text (n := s.size) (by rw [Class.turn_length, HL.out]) cap
      go_wp2
      go_ret
      exact ⟨rfl, hR⟩
set_option maxHeartbeats 800000 in
set_option maxRecDepth 100000 in
theorem class_turn_capital (s : ByteArray) (hs : s.size ≤ 140737488351232) (w : World) :
    Calls Try.prog 72 #[.string s, .func (.func 89) #[] #[]] w fun e w' => e = .returned (.string (bs (Class.turn Class.capital s.data.toList))) ∧ Below w.heap.size w w' := by
  have hl : s.data.toList.length = s.size := by simp
  have hcv := fun w => run_bytes_of_string (P := Try.prog) w 9 70 5 s Try.underlying9 Try.underlying70 Try.underlying5
  go_enter Try.func72, Try.ntmps72
  go_wp2
  clear hcv
  have hH : Held8 (w.alloc (.cells (bytesRow s (grownCap w s.size 0 5)) 5 ((bytesRow s (grownCap w s.size 0 5)).size, (bytesRow s (grownCap w s.size 0 5)).size + 1))).drew w.heap.size s.data.toList := Held8.made w s _
  have hW : Below w.heap.size w (w.alloc (.cells (bytesRow s (grownCap w s.size 0 5)) 5 ((bytesRow s (grownCap w s.size 0 5)).size, (bytesRow s (grownCap w s.size 0 5)).size + 1))).drew := ((Below.refl _ _).alloc (Nat.le_refl _) _).drew
  generalize (w.alloc (.cells (bytesRow s (grownCap w s.size 0 5)) 5 ((bytesRow s (grownCap w s.size 0 5)).size, (bytesRow s (grownCap w s.size 0 5)).size + 1))).drew = wo at hH hW ⊢
  generalize grownCap w s.size 0 5 = cap
  have HL := Lib.hid hl
  rw [← Class.part_zero Class.capital s.data.toList] at hH
  clear hl
  go_loopw [12] (fun i wr => ∃ k : Nat, k ≤ s.size ∧ i = .int .i64 k ∧ Held8 wr w.heap.size (Class.part Class.capital s.data.toList k) ∧ Below w.heap.size w wr) (fun i _ => s.size - (intOf i).toNat)
  case atStart => exact ⟨0, Nat.zero_le _, rfl, hH, hW⟩
  case round =>
    obtain ⟨k, hk, rfl, hB, hR⟩ := hrel
    clear hH hW
    by_cases hlt : k < s.size
    · have hk2 : k < s.data.toList.length := by rw [HL.out]; exact hlt
      have cb := hB.cell (Class.part_at hk2)
      have hbe : s.data.toList[k] = s[k] := rfl
      rw [hbe] at cb
      have c1 := Lib.hid (class_capital s[k].toNat)
      have zb := hB.frozen (i := k) (by rw [Class.part_length]; exact hk2)
      cases hf : Class.capital s[k].toNat with
      | false =>
        rw [hf] at c1
        rw [Class.part_same hk2 (by rw [hbe]; exact hf)] at hB
        have HB := Lib.hid hB
        clear hB hf hbe
        go_wp2_with (go_at_call 89; refine (c1.out _).mono ?_; rintro e w1 ⟨rfl, rfl⟩)
        go_roundw
        case rel => exact ⟨k + 1, by omega, by go_num, HB.out, hR⟩
        case measure => simp [intOf]; omega
      | true =>
        rw [hf] at c1
        have hset := hB.set_ k (Class.flip Class.capital s[k])
        rw [show Class.flip Class.capital s[k] = Class.flip Class.capital s.data.toList[k] from rfl, Class.part_set hk2, show Class.flip Class.capital s.data.toList[k] = s[k] ^^^ 32 from by rw [Class.flip, hbe, hf]; rfl, ← Class.xor_bits] at hset
        have hR2 := hR.setCell (p := ⟨w.heap.size, k, none⟩) (Nat.le_refl _) (.int .u8 (bits .xor .u8 (s[k].toNat : Int) 32))
        have HB := Lib.hid hset
        have HR := Lib.hid hR2
        clear hB hf hbe hset hR2 hR
        go_wp2_with (go_at_call 89; refine (c1.out _).mono ?_; rintro e w1 ⟨rfl, rfl⟩)
        go_roundw
        case rel => exact ⟨k + 1, by omega, by go_num, HB.out, HR.out⟩
        case measure => simp [intOf]; omega
    · obtain rfl : k = s.size := by omega
      rw [Class.part_all (by rw [HL.out]; exact Nat.le_refl _)] at hB
      have hcb := hB.text (n := s.size) (by rw [Class.turn_length, HL.out]) cap
      go_wp2
      go_ret
      exact ⟨rfl, hR⟩
set_option maxHeartbeats 800000 in
set_option maxRecDepth 100000 in
theorem class_turn_letter (s : ByteArray) (hs : s.size ≤ 140737488351232) (w : World) :
    Calls Try.prog 72 #[.string s, .func (.func 73) #[] #[]] w fun e w' => e = .returned (.string (bs (Class.turn Class.letter s.data.toList))) ∧ Below w.heap.size w w' := by
  have hl : s.data.toList.length = s.size := by simp
  have hcv := fun w => run_bytes_of_string (P := Try.prog) w 9 70 5 s Try.underlying9 Try.underlying70 Try.underlying5
  go_enter Try.func72, Try.ntmps72
  go_wp2
  clear hcv
  have hH : Held8 (w.alloc (.cells (bytesRow s (grownCap w s.size 0 5)) 5 ((bytesRow s (grownCap w s.size 0 5)).size, (bytesRow s (grownCap w s.size 0 5)).size + 1))).drew w.heap.size s.data.toList := Held8.made w s _
  have hW : Below w.heap.size w (w.alloc (.cells (bytesRow s (grownCap w s.size 0 5)) 5 ((bytesRow s (grownCap w s.size 0 5)).size, (bytesRow s (grownCap w s.size 0 5)).size + 1))).drew := ((Below.refl _ _).alloc (Nat.le_refl _) _).drew
  generalize (w.alloc (.cells (bytesRow s (grownCap w s.size 0 5)) 5 ((bytesRow s (grownCap w s.size 0 5)).size, (bytesRow s (grownCap w s.size 0 5)).size + 1))).drew = wo at hH hW ⊢
  generalize grownCap w s.size 0 5 = cap
  have HL := Lib.hid hl
  rw [← Class.part_zero Class.letter s.data.toList] at hH
  clear hl
  go_loopw [12] (fun i wr => ∃ k : Nat, k ≤ s.size ∧ i = .int .i64 k ∧ Held8 wr w.heap.size (Class.part Class.letter s.data.toList k) ∧ Below w.heap.size w wr) (fun i _ => s.size - (intOf i).toNat)
  case atStart => exact ⟨0, Nat.zero_le _, rfl, hH, hW⟩
  case round =>
    obtain ⟨k, hk, rfl, hB, hR⟩ := hrel
    clear hH hW
    by_cases hlt : k < s.size
    · have hk2 : k < s.data.toList.length := by rw [HL.out]; exact hlt
      have cb := hB.cell (Class.part_at hk2)
      have hbe : s.data.toList[k] = s[k] := rfl
      rw [hbe] at cb
      have c1 := Lib.hid (class_letter s[k].toNat)
      have zb := hB.frozen (i := k) (by rw [Class.part_length]; exact hk2)
      cases hf : Class.letter s[k].toNat with
      | false =>
        rw [hf] at c1
        rw [Class.part_same hk2 (by rw [hbe]; exact hf)] at hB
        have HB := Lib.hid hB
        clear hB hf hbe
        go_wp2_with (go_at_call 73; refine (c1.out _).mono ?_; rintro e w1 ⟨rfl, rfl⟩)
        go_roundw
        case rel => exact ⟨k + 1, by omega, by go_num, HB.out, hR⟩
        case measure => simp [intOf]; omega
      | true =>
        rw [hf] at c1
        have hset := hB.set_ k (Class.flip Class.letter s[k])
        rw [show Class.flip Class.letter s[k] = Class.flip Class.letter s.data.toList[k] from rfl, Class.part_set hk2, show Class.flip Class.letter s.data.toList[k] = s[k] ^^^ 32 from by rw [Class.flip, hbe, hf]; rfl, ← Class.xor_bits] at hset
        have hR2 := hR.setCell (p := ⟨w.heap.size, k, none⟩) (Nat.le_refl _) (.int .u8 (bits .xor .u8 (s[k].toNat : Int) 32))
        have HB := Lib.hid hset
        have HR := Lib.hid hR2
        clear hB hf hbe hset hR2 hR
        go_wp2_with (go_at_call 73; refine (c1.out _).mono ?_; rintro e w1 ⟨rfl, rfl⟩)
        go_roundw
        case rel => exact ⟨k + 1, by omega, by go_num, HB.out, HR.out⟩
        case measure => simp [intOf]; omega
    · obtain rfl : k = s.size := by omega
      rw [Class.part_all (by rw [HL.out]; exact Nat.le_refl _)] at hB
      have hcb := hB.text (n := s.size) (by rw [Class.turn_length, HL.out]) cap
      go_wp2
      go_ret
      exact ⟨rfl, hR⟩
theorem class_Flip (s : ByteArray) (hs : s.size ≤ 140737488351232) (w : World) :
    Calls Try.prog 40 #[.string s] w fun e w' => e = .returned (.string (bs (Class.turn Class.letter s.data.toList))) ∧ Below w.heap.size w w' := by
  have c1 := Lib.hid (class_turn_letter s hs)
  generalize bs (Class.turn Class.letter s.data.toList) = r at *
  go_enter Try.func40, Try.ntmps40
  go_wp2_with (go_at_call 72; refine (c1.out _).mono ?_; rintro e w1 ⟨rfl, hb⟩)
  go_ret
  exact ⟨rfl, hb⟩
end Go.Proofs.Ytambboomabeioaa
