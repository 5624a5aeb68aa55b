/-
  The document's letters that are others: swap, Up, Low, Flip.
-/
import Derived.Test.YtambboomabeioaaClassRefs
namespace Go.Proofs.Ytambboomabeioaa
open Go.RowKit
attribute [local go_sem] Oper.semAt_some
namespace Class
def smalls : List UInt8 := [97, 98, 99, 100, 101, 102, 103, 104, 105, 106, 107, 108, 109, 110, 111, 112, 113, 114, 115, 116, 117, 118, 119, 120, 121, 122]
def greats : List UInt8 := [65, 66, 67, 68, 69, 70, 71, 72, 73, 74, 75, 76, 77, 78, 79, 80, 81, 82, 83, 84, 85, 86, 87, 88, 89, 90]
/-- A byte, or what stands in b where it stands in a. -/
def other (a b : List UInt8) (c : UInt8) : UInt8 := if find a c < 0 then c else b.getD (find a c).toNat 0
theorem other_up (c : UInt8) : other smalls greats c = flip small c := flip_all (fun c => other smalls greats c = flip small c) (by decide +kernel) c
theorem other_low (c : UInt8) : other greats smalls c = flip capital c := flip_all (fun c => other greats smalls c = flip capital c) (by decide +kernel) c
theorem other_flip (c : UInt8) : other (smalls ++ greats) (greats ++ smalls) c = flip letter c := flip_all (fun c => other (smalls ++ greats) (greats ++ smalls) c = flip letter c) (by decide +kernel) c
theorem map_snoc {f : UInt8 → UInt8} {l : List UInt8} {k : Nat} (h : k < l.length) : (l.take k).map f ++ [f l[k]] = (l.take (k + 1)).map f := by
  rw [List.take_succ_eq_append_getElem h, List.map_append]; rfl
theorem ext_one (s : ByteArray) {k : Nat} (h : k < s.size) : s.extract k (k + 1) = bs [s[k]] := by
  have hl : k < s.data.toList.length := by rw [data_len]; exact h
  rw [Lib.extract_eq, List.drop_eq_getElem_cons hl, Nat.add_sub_cancel_left]
  rfl
end Class
set_option maxHeartbeats 800000 in
set_option maxRecDepth 100000 in
theorem ref5_swap (s a b : ByteArray) (f : UInt8 → UInt8) (hs : s.size ≤ 9223372036854775806) (ha : a.size ≤ 1000) (hab : b.size = a.size) (hf : ∀ c, Class.other a.data.toList b.data.toList c = f c) (w : World) :
    Calls Try.prog 74 #[.string s, .string a, .string b] w fun e w' => e = .returned (.string (bs (s.data.toList.map f))) ∧ w = w' := by
  have HL := Lib.hid (show s.data.toList.length = s.size by simp)
  have HF := Lib.hid hf
  have HAB := Lib.hid hab
  clear hf hab
  go_enter Try.func74, Try.ntmps74
  go_wp2_with fail
  go_loop [7, 8] (fun o i => ∃ k : Nat, k ≤ s.size ∧ i = .int .i64 k ∧ o = .string (bs ((s.data.toList.take k).map f))) (fun _ i => s.size - (intOf i).toNat)
  case atStart => exact ⟨0, Nat.zero_le _, rfl, by simp [bs]⟩
  case round =>
    obtain ⟨k, hk, rfl, rfl⟩ := hrel
    have hz : (bs ((s.data.toList.take k).map f)).size = k := by rw [bs_size, List.length_map, List.length_take, HL.out]; omega
    have HZ := Lib.hid hz
    clear hz
    by_cases hlt : k < s.size
    · have hk2 : k < s.data.toList.length := by rw [HL.out]; exact hlt
      have c1 := Lib.hid (ref5_in a s[k] (by omega))
      have hb := Class.find_lt a.data.toList s[k]
      rw [data_len] at hb
      obtain ⟨hb1, hb2⟩ := hb
      have hO := HF.out s[k]
      have hN := Class.map_snoc (f := f) hk2
      rw [show s.data.toList[k] = s[k] from rfl] at hN
      rw [Class.other] at hO
      by_cases hneg : Class.find a.data.toList s[k] < 0
      · rw [if_pos hneg] at hO
        rw [← hO] at hN
        have E : Hid (bs ((s.data.toList.take k).map f) ++ s.extract k (k + 1) = bs ((s.data.toList.take (k + 1)).map f)) := by
          show _ = _
          rw [Class.ext_one s hlt, bs_append, hN]
        clear hO hN
        generalize Class.find a.data.toList s[k] = z at *
        have h3 : ¬ 9223372036854775807 < (bs ((s.data.toList.take k).map f)).size + (k + 1 - k) := by rw [HZ.out]; omega
        generalize bs ((s.data.toList.take k).map f) = o at *
        go_wp2_with (go_at_call 90; refine (c1.out _).mono ?_; rintro e w1 ⟨rfl, rfl⟩)
        go_round
        case rel => exact ⟨k + 1, by omega, by go_num, by rw [← E.out]⟩
        case measure => simp [intOf]; omega
      · rw [if_neg hneg] at hO
        obtain ⟨j, hj⟩ : ∃ j : Nat, Class.find a.data.toList s[k] = (j : Int) := ⟨(Class.find a.data.toList s[k]).toNat, by omega⟩
        have hjb : j < b.size := by rw [HAB.out]; omega
        rw [hj] at hO c1
        have hg : b.data.toList.getD j 0 = b[j] := by rw [List.getD_eq_getElem?_getD, byte_get b hjb]; rfl
        rw [show ((j : Int)).toNat = j by omega, hg] at hO
        rw [← hO] at hN
        have E : Hid (bs ((s.data.toList.take k).map f) ++ b.extract j (j + 1) = bs ((s.data.toList.take (k + 1)).map f)) := by
          show _ = _
          rw [Class.ext_one b hjb, bs_append, hN]
        have hj1 : j ≤ 1000 := by omega
        clear hO hN hg hb1 hb2 hneg hj
        have h3 : ¬ 9223372036854775807 < (bs ((s.data.toList.take k).map f)).size + (j + 1 - j) := by rw [HZ.out]; omega
        generalize bs ((s.data.toList.take k).map f) = o at *
        go_wp2_with (go_at_call 90; refine (c1.out _).mono ?_; rintro e w1 ⟨rfl, rfl⟩)
        go_round
        case rel => exact ⟨k + 1, by omega, by go_num, by rw [← E.out]⟩
        case measure => simp [intOf]; omega
    · have H : Hid (bs ((s.data.toList.map f).take k) = bs (s.data.toList.map f)) := by
        show _ = _
        rw [List.take_of_length_le (by rw [List.length_map, HL.out]; omega)]
      go_wp2
      go_ret
      exact ⟨congrArg (fun r => Ending.returned (Value.string r)) H.out, rfl⟩
theorem ref5_Flip (s : ByteArray) (hs : s.size ≤ 9223372036854775806) (w : World) :
    Calls Try.prog 43 #[.string s] w fun e w' => e = .returned (.string (bs (Class.turn Class.letter s.data.toList))) ∧ w = w' := by
  have c1 := Lib.hid (ref5_swap s (bs (Class.smalls ++ Class.greats)) (bs (Class.greats ++ Class.smalls)) (Class.flip Class.letter) hs (by decide) (by decide) Class.other_flip)
  have H : Hid (bs (Class.turn Class.letter s.data.toList) = bs (s.data.toList.map (Class.flip Class.letter))) := by show _ = _; rfl
  generalize bs (s.data.toList.map (Class.flip Class.letter)) = r at *
  go_enter Try.func43, Try.ntmps43
  go_wp2_with (go_at_call 74; refine (c1.out _).mono ?_; rintro e w1 ⟨rfl, rfl⟩)
  go_ret
  exact ⟨by rw [H.out]; rfl, rfl⟩
end Go.Proofs.Ytambboomabeioaa
