/-
  The document's answer by the runes' numbers: the rune of a number, the number of bytes, and whether bytes are one rune.
-/
import Derived.Test.YtlfhfpjffdaomaaDoorUtfValid
import Derived.Test.YtlfhfpjffdaomaaDoorBytes
namespace Go.Proofs.YtlfhfpjffdaomaaDoor
open Go.RowKit
namespace Utf
/-- A number's rune; nothing: it is none. -/
def enc (n : Int) : List UInt8 :=
  if n < 0 ∨ 1114111 < n ∨ (55296 ≤ n ∧ n < 57344) then []
  else if n < 128 then [UInt8.ofNat n.toNat]
  else if n < 2048 then [UInt8.ofNat (192 + n / 64).toNat, UInt8.ofNat (128 + n % 64).toNat]
  else if n < 65536 then [UInt8.ofNat (224 + n / 4096).toNat, UInt8.ofNat (128 + n / 64 % 64).toNat, UInt8.ofNat (128 + n % 64).toNat]
  else [UInt8.ofNat (240 + n / 262144).toNat, UInt8.ofNat (128 + n / 4096 % 64).toNat, UInt8.ofNat (128 + n / 64 % 64).toNat, UInt8.ofNat (128 + n % 64).toNat]
/-- The number of bytes that go on. -/
def numF : Int → List UInt8 → Int
  | n, [] => n
  | n, b :: t => if b.toNat < 128 ∨ 191 < b.toNat then -1 else numF (64 * n + (b.toNat - 128)) t
/-- What the first byte tells besides the number, by how many there are. -/
def base (k : Nat) : Int := if k = 2 then 192 else if k = 3 then 224 else if k = 4 then 240 else 0
def num : List UInt8 → Int
  | [] => 0
  | [a] => a.toNat
  | a :: b :: t => if (a.toNat : Int) < base (t.length + 2) then -1 else numF (a.toNat - base (t.length + 2)) (b :: t)
end Utf
set_option maxHeartbeats 400000 in
set_option maxRecDepth 100000 in
theorem ref_Bytes (n : Int) (w : World) :
    Calls Tryd.prog 85 #[.int .i64 n] w fun e w' => e = .returned (.string (bs (Utf.enc n))) ∧ Below w.heap.size w w' := by
  have hcv1 := fun x0 => run_bytes1 (P := Tryd.prog) w 74 9 5 x0 Tryd.underlying74 Tryd.underlying5 Tryd.underlying9
  have hcv2 := fun x0 x1 => run_bytes2 (P := Tryd.prog) w 74 9 5 x0 x1 Tryd.underlying74 Tryd.underlying5 Tryd.underlying9
  have hcv3 := fun x0 x1 x2 => run_bytes3 (P := Tryd.prog) w 74 9 5 x0 x1 x2 Tryd.underlying74 Tryd.underlying5 Tryd.underlying9
  have hcv4 := fun x0 x1 x2 x3 => run_bytes4 (P := Tryd.prog) w 74 9 5 x0 x1 x2 x3 Tryd.underlying74 Tryd.underlying5 Tryd.underlying9
  by_cases h0 : n < 0
  · have H : Hid (Utf.enc n = []) := by show _ = _; rw [Utf.enc, if_pos (by omega)]
    clear hcv1 hcv2 hcv3 hcv4
    go_enter Tryd.func85, Tryd.ntmps85
    go_wp2
    go_ret
    exact ⟨by rw [H.out]; rfl, Below.refl _ _⟩
  by_cases h1 : 1114111 < n
  · have H : Hid (Utf.enc n = []) := by show _ = _; rw [Utf.enc, if_pos (by omega)]
    clear hcv1 hcv2 hcv3 hcv4
    go_enter Tryd.func85, Tryd.ntmps85
    go_wp2
    go_ret
    exact ⟨by rw [H.out]; rfl, Below.refl _ _⟩
  have h0' : 0 ≤ n := by omega
  by_cases h2 : n < 128
  · have H : Hid (Utf.enc n = [UInt8.ofNat n.toNat]) := by show _ = _; rw [Utf.enc, if_neg (by omega), if_pos h2]
    clear hcv2 hcv3 hcv4
    go_enter Tryd.func85, Tryd.ntmps85
    go_wp2
    all_goals go_ret
    exact ⟨by rw [H.out]; rfl, (Below.refl _ _).alloc (Nat.le_refl _) _⟩
  by_cases h3 : n < 2048
  · have H : Hid (Utf.enc n = [UInt8.ofNat (192 + n / 64).toNat, UInt8.ofNat (128 + n % 64).toNat]) := by show _ = _; rw [Utf.enc, if_neg (by omega), if_neg h2, if_pos h3]
    clear hcv1 hcv3 hcv4
    go_enter Tryd.func85, Tryd.ntmps85
    go_wp2
    all_goals go_ret
    exact ⟨by rw [H.out]; rfl, (Below.refl _ _).alloc (Nat.le_refl _) _⟩
  by_cases h5 : 55296 ≤ n ∧ n < 57344
  · have h6 : 55296 ≤ n := h5.1
    have h7 : n < 57344 := h5.2
    have H : Hid (Utf.enc n = []) := by show _ = _; rw [Utf.enc, if_pos (by omega)]
    clear hcv1 hcv2 hcv3 hcv4
    go_enter Tryd.func85, Tryd.ntmps85
    go_wp2
    go_ret
    exact ⟨by rw [H.out]; rfl, Below.refl _ _⟩
  by_cases h4 : n < 65536
  · have H : Hid (Utf.enc n = [UInt8.ofNat (224 + n / 4096).toNat, UInt8.ofNat (128 + n / 64 % 64).toNat, UInt8.ofNat (128 + n % 64).toNat]) := by show _ = _; rw [Utf.enc, if_neg (by omega), if_neg h2, if_neg h3, if_pos h4]
    clear hcv1 hcv2 hcv4
    rcases (show n < 55296 ∨ (55296 ≤ n ∧ ¬ n < 57344) by omega) with h6 | ⟨h6, h7⟩
    · clear h5
      go_enter Tryd.func85, Tryd.ntmps85
      go_wp2
      all_goals go_ret
      exact ⟨by rw [H.out]; rfl, (Below.refl _ _).alloc (Nat.le_refl _) _⟩
    · clear h5
      go_enter Tryd.func85, Tryd.ntmps85
      go_wp2
      all_goals go_ret
      exact ⟨by rw [H.out]; rfl, (Below.refl _ _).alloc (Nat.le_refl _) _⟩
  · have H : Hid (Utf.enc n = [UInt8.ofNat (240 + n / 262144).toNat, UInt8.ofNat (128 + n / 4096 % 64).toNat, UInt8.ofNat (128 + n / 64 % 64).toNat, UInt8.ofNat (128 + n % 64).toNat]) := by show _ = _; rw [Utf.enc, if_neg (by omega), if_neg h2, if_neg h3, if_neg h4]
    clear hcv1 hcv2 hcv3 h5
    have h6 : 55296 ≤ n := by omega
    have h7 : ¬ n < 57344 := by omega
    go_enter Tryd.func85, Tryd.ntmps85
    go_wp2
    all_goals go_ret
    exact ⟨by rw [H.out]; rfl, (Below.refl _ _).alloc (Nat.le_refl _) _⟩
theorem num_go {n : Int} {b : UInt8} (t : List UInt8) (h : ¬ b.toNat < 128) (h' : ¬ 191 < b.toNat) : Utf.numF n (b :: t) = Utf.numF (64 * n + (b.toNat - 128)) t := by
  rw [Utf.numF, if_neg (by omega)]
theorem num_stop {n : Int} {b : UInt8} (t : List UInt8) (h : b.toNat < 128 ∨ 191 < b.toNat) : Utf.numF n (b :: t) = -1 := by
  rw [Utf.numF, if_pos h]
theorem num_head {l : List UInt8} {a : UInt8} (h2 : 2 ≤ l.length) (ha : l.drop 0 = a :: l.drop 1) : Utf.num l = if (a.toNat : Int) < Utf.base l.length then -1 else Utf.numF (a.toNat - Utf.base l.length) (l.drop 1) := by
  match l, h2 with
  | x :: y :: t, _ =>
    simp only [List.drop_zero, List.drop_succ_cons, List.cons.injEq, and_true] at ha
    subst ha
    rfl
theorem num_none {n : Int} {l : List UInt8} {j : Nat} (h : l.length ≤ j) : Utf.numF n (l.drop j) = n := by
  rw [List.drop_eq_nil_of_le h]; rfl
set_option maxHeartbeats 1000000 in
set_option maxRecDepth 100000 in
theorem ref_number (s : ByteArray) (h1 : 1 ≤ s.size) (h4 : s.size ≤ 4) (w : World) :
    Calls Tryd.prog 86 #[.string s] w fun e w' => e = .returned (.int .i64 (Utf.num s.data.toList)) ∧ Below w.heap.size w w' := by
  have hl : s.data.toList.length = s.size := by simp
  have hd0 := byte_drop s 0 h1
  have hb0 := s[0].toNat_lt
  rcases (show s.size = 1 ∨ 2 ≤ s.size by omega) with h | h
  · have g : ((s.size : Int) == 1) = true := by simp; omega
    have H : Hid (Utf.num s.data.toList = s[0].toNat) := by
      show _ = _
      rw [show s.data.toList = [s[0]] by rw [List.drop_zero] at hd0; rw [hd0, List.drop_eq_nil_of_le (by omega)]]
      rfl
    clear hd0
    go_enter Tryd.func86, Tryd.ntmps86
    go_wp2
    go_ret
    exact ⟨by rw [H.out]; rfl, Below.refl _ _⟩
  · have g : ((s.size : Int) == 1) = false := by simp; omega
    have N := Lib.hid (num_head (by omega) hd0)
    rw [hl] at N
    clear hd0
    go_enter Tryd.func86, Tryd.ntmps86
    go_wp2_with fail
    go_loopw [3, 4, 5] (fun n i _ w' => ∃ (j : Nat) (m : Int), j ≤ s.size ∧ i = .int .i64 j ∧ n = .int .i64 m ∧ 0 ≤ m ∧ m ≤ 100000000 ∧ (j ≤ 3 → m ≤ 1100000) ∧ (j ≤ 2 → m ≤ 16500) ∧ (j ≤ 1 → m ≤ 256) ∧ (j = 0 → m = 0) ∧ Hid (1 ≤ j → Utf.num s.data.toList = Utf.numF m (s.data.toList.drop j)) ∧ Below w.heap.size w w') (fun _ i _ _ => s.size - (intOf i).toNat)
    case atStart => exact ⟨0, 0, by omega, rfl, rfl, by omega, by omega, by omega, by omega, by omega, by omega, fun h => absurd h (by omega), Below.refl _ _⟩
    case round =>
      obtain ⟨j, m, hj, rfl, rfl, hm0, hm1, hm2, hm3, hm4, hm5, K, hb⟩ := hrel
      rcases Nat.eq_zero_or_pos j with rfl | hj0
      · obtain rfl : m = 0 := hm5 rfl
        clear hm1 hm2 hm3 hm4 hm5 K hm0 hj
        rcases (show s.size = 2 ∨ s.size = 3 ∨ s.size = 4 by omega) with hz | hz | hz
        · rw [hz, show Utf.base 2 = 192 from rfl] at N
          by_cases ha : (s[0].toNat : Int) - 192 < 0
          · have K2 : Hid (Utf.num s.data.toList = -1) := by show _ = _; rw [N.out, if_pos (by omega)]
            clear N
            go_wp2
            go_ret
            exact ⟨by rw [K2.out]; rfl, hb.alloc hb.size _⟩
          · have K2 : Hid (Utf.num s.data.toList = Utf.numF (s[0].toNat - 192) (s.data.toList.drop 1)) := by show _ = _; rw [N.out, if_neg (by omega)]
            clear N
            have ha' : 0 ≤ (s[0].toNat : Int) - 192 := by omega
            go_wp2
            go_roundw
            case rel => exact ⟨1, s[0].toNat - 192, by omega, rfl, rfl, by omega, by omega, by omega, by omega, by omega, by omega, fun _ => K2.out, hb.alloc hb.size _⟩
            case measure => simp [intOf]; omega
        · rw [hz, show Utf.base 3 = 224 from rfl] at N
          by_cases ha : (s[0].toNat : Int) - 224 < 0
          · have K2 : Hid (Utf.num s.data.toList = -1) := by show _ = _; rw [N.out, if_pos (by omega)]
            clear N
            go_wp2
            go_ret
            exact ⟨by rw [K2.out]; rfl, hb.alloc hb.size _⟩
          · have K2 : Hid (Utf.num s.data.toList = Utf.numF (s[0].toNat - 224) (s.data.toList.drop 1)) := by show _ = _; rw [N.out, if_neg (by omega)]
            clear N
            have ha' : 0 ≤ (s[0].toNat : Int) - 224 := by omega
            go_wp2
            go_roundw
            case rel => exact ⟨1, s[0].toNat - 224, by omega, rfl, rfl, by omega, by omega, by omega, by omega, by omega, by omega, fun _ => K2.out, hb.alloc hb.size _⟩
            case measure => simp [intOf]; omega
        · rw [hz, show Utf.base 4 = 240 from rfl] at N
          by_cases ha : (s[0].toNat : Int) - 240 < 0
          · have K2 : Hid (Utf.num s.data.toList = -1) := by show _ = _; rw [N.out, if_pos (by omega)]
            clear N
            go_wp2
            go_ret
            exact ⟨by rw [K2.out]; rfl, hb.alloc hb.size _⟩
          · have K2 : Hid (Utf.num s.data.toList = Utf.numF (s[0].toNat - 240) (s.data.toList.drop 1)) := by show _ = _; rw [N.out, if_neg (by omega)]
            clear N
            have ha' : 0 ≤ (s[0].toNat : Int) - 240 := by omega
            go_wp2
            go_roundw
            case rel => exact ⟨1, s[0].toNat - 240, by omega, rfl, rfl, by omega, by omega, by omega, by omega, by omega, by omega, fun _ => K2.out, hb.alloc hb.size _⟩
            case measure => simp [intOf]; omega
      · have g1 : ((j : Int) == 0) = false := by simp; omega
        have K' := K.out hj0
        clear K
        rcases Nat.lt_or_ge j s.size with hjl | hjl
        · have hd := byte_drop s j hjl
          have hbj := s[j].toNat_lt
          rw [hd] at K'
          by_cases ha : s[j].toNat < 128
          · have K2 := Lib.hid (K'.trans (num_stop _ (Or.inl ha)))
            clear K' hd
            go_wp2
            go_ret
            exact ⟨by rw [K2.out]; rfl, hb⟩
          by_cases hc : 191 < s[j].toNat
          · have K2 := Lib.hid (K'.trans (num_stop _ (Or.inr hc)))
            clear K' hd
            go_wp2
            go_ret
            exact ⟨by rw [K2.out]; rfl, hb⟩
          · have K2 := Lib.hid (K'.trans (num_go _ ha hc))
            clear K' hd
            go_wp2
            go_roundw
            case rel => exact ⟨j + 1, 64 * m + (s[j].toNat - 128), by omega, by go_num, by go_num, by omega, by omega, by omega, by omega, by omega, by omega, fun _ => K2.out, hb⟩
            case measure => simp [intOf]; omega
        · have K2 := Lib.hid (K'.trans (num_none (by omega)))
          clear K'
          go_wp2
          go_ret
          exact ⟨by rw [K2.out]; rfl, hb⟩
end Go.Proofs.YtlfhfpjffdaomaaDoor
