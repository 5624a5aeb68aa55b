/-
  The document's answer: the text of keys; two lists of texts that are the same are told to be the same.
-/
import Derived.Test.YtpepdpcddcbfoaaKeyRefSplit
namespace Go.Proofs.Ytpepdpcddcbfoaa
open Go.RowKit
theorem Key.text_split (s : List UInt8) : Key.text s = ((Key.split s).map Key.nameR).flatten := by
  unfold Key.text Key.split
  cases Utf.dec s with
  | none => rfl
  | some rs =>
    cases h : rs.all Key.isKey with
    | true => simp [h]
    | false => simp [h]
theorem Key.split_one {s : List UInt8} : ∀ r ∈ Key.split s, Utf.one r = true := by
  intro r hr
  unfold Key.split at hr
  cases hd : Utf.dec s with
  | none => rw [hd] at hr; simp at hr
  | some rs =>
    rw [hd] at hr
    simp only [] at hr
    split at hr
    · exact (Utf.dec_some hd).1 r hr
    · simp at hr
theorem Key.split_len (s : List UInt8) : (Key.split s).length ≤ s.length := by
  unfold Key.split
  cases hd : Utf.dec s with
  | none => simp
  | some rs =>
    have h3 := off_ge hd (i := rs.length) (Nat.le_refl _)
    rw [Utf.off_top hd (Nat.le_refl _)] at h3
    simp only []
    split
    · exact h3
    · simp
set_option maxHeartbeats 1000000 in
set_option maxRecDepth 100000 in
theorem ref13_Text (s : ByteArray) (hs : s.size ≤ 1000000000000) (w : World) :
    Calls Try.prog 17 #[.string s] w fun e w' => e = .returned (.tuple #[.string (bs (Key.text s.data.toList)), .int .i64 (Key.err s.data.toList)]) ∧ Below w.heap.size w w' := by
  have hl : s.data.toList.length = s.size := by simp
  have c1 := Lib.hid (ref13_Split s hs w)
  have hone := Lib.hid (Key.split_one (s := s.data.toList))
  have hkl := Key.split_len s.data.toList
  rw [hl] at hkl
  have HT := Lib.hid (Key.text_split s.data.toList)
  have hmost : Hid (∀ k, (((Key.split s.data.toList).take k).map Key.nameR).flatten.length ≤ 7 * s.size) := Lib.hid (fun k => by
    have h1 := Key.names_le (rs := (Key.split s.data.toList).take k) (fun r hr => hone.out r (List.mem_of_mem_take hr))
    have h2 : ((Key.split s.data.toList).take k).length ≤ (Key.split s.data.toList).length := by rw [List.length_take]; omega
    omega)
  generalize Key.split s.data.toList = ks at *
  generalize Key.err s.data.toList = er at *
  go_enter Try.func17, Try.ntmps17
  go_wp2_with (go_at_call 15; refine c1.out.mono ?_; rintro e w1 ⟨A, c, rfl, hS, hb⟩)
  have HW := Lib.hid hb
  clear hb
  go_loopw [6, 7] (fun v iv wr => ∃ k : Nat, k ≤ ks.length ∧ iv = .int .i64 k ∧ v = .string (bs ((ks.take k).map Key.nameR).flatten) ∧ Below w1.heap.size w1 wr) (fun _ iv _ => ks.length - (intOf iv).toNat)
  case atStart => exact ⟨0, Nat.zero_le _, rfl, rfl, Below.refl _ _⟩
  case round =>
    obtain ⟨k, hk, rfl, rfl, hW⟩ := hrel
    by_cases hlt : k < ks.length
    · obtain ⟨r, hr⟩ : ∃ r, ks[k]? = some r := ⟨_, List.getElem?_eq_getElem hlt⟩
      obtain ⟨ad, rfl, h1⟩ := (hS.below hW).at_ (k := k) (by simpa using hlt)
      have hg : (ks.map bs)[k]'(by simpa using hlt) = bs r := by
        rw [List.getElem_map]
        rw [List.getElem?_eq_getElem hlt] at hr
        injection hr with hr
        rw [hr]
      rw [hg] at h1
      have ho := hone.out r (List.mem_of_getElem? hr)
      have c2 := Lib.hid (ref13_Name (bs r))
      have hn : Key.nameK r = Key.nameR r := by simp [Key.nameK, ho]
      rw [bs_toList, hn] at c2
      have H : Hid (bs ((ks.take k).map Key.nameR).flatten ++ bs (Key.nameR r) = bs ((ks.take (k + 1)).map Key.nameR).flatten) := Lib.hid (by rw [bs_append, Key.names_next hr])
      have hbd : ¬ 9223372036854775807 < (bs ((ks.take k).map Key.nameR).flatten).size + (bs (Key.nameR r)).size := by
        have h2 := hmost.out k
        have h3 := Key.nameR_le ho
        rw [bs_size, bs_size]
        omega
      clear hr hg hS ho hn
      generalize bs ((ks.take k).map Key.nameR).flatten = S at *
      generalize bs (Key.nameR r) = R at *
      go_wp2_with (go_at_call 12; refine (c2.out _).mono ?_; rintro e w3 ⟨rfl, hb3⟩)
      go_roundw
      case rel => exact ⟨k + 1, by omega, by go_num, by rw [← H.out], hW.trans (hb3.mono hW.size)⟩
      case measure => simp [intOf]; omega
    · obtain rfl : k = ks.length := by omega
      rw [List.take_length, ← HT.out]
      clear hS
      go_wp2
      go_ret2
      exact ⟨rfl, HW.out.trans (hW.mono HW.out.size)⟩
set_option maxHeartbeats 800000 in
theorem ref13_Same {A B : Option Addr} {c d : Nat} {xs : List ByteArray} {w : World} (ha : Strs w A xs) (hb : Strs w B xs) (hl : xs.length ≤ 1000000000000) :
    Calls Try.prog 20 #[.slice A xs.length c, .slice B xs.length d] w fun x w' => x = .returned (.bool true) ∧ Below w.heap.size w w' := by
  go_enter Try.func20, Try.ntmps20
  go_wp2
  go_loopw [5] (fun i wr => ∃ k : Nat, k ≤ xs.length ∧ i = .int .i64 k ∧ w.grownBy wr none) (fun i _ => xs.length - (intOf i).toNat)
  case atStart => exact ⟨0, Nat.zero_le _, rfl, World.grownBy.refl _ _⟩
  case round =>
    obtain ⟨k, hk, rfl, hG⟩ := hrel
    by_cases hlt : k < xs.length
    · obtain ⟨aa, rfl, h1⟩ := (ha.grown hG (by simp)).at_ hlt
      obtain ⟨bb, rfl, h2⟩ := (hb.grown hG (by simp)).at_ hlt
      clear ha hb
      go_wp2
      go_quiet (fail)
      go_wp2
      exact ⟨⟨k + 1, by omega, by go_num, gb_trans hG (gb_drewN _ _ _)⟩, by simp [intOf]; omega⟩
    · go_wp2
      go_ret
      exact ⟨rfl, below_gb hG⟩
end Go.Proofs.Ytpepdpcddcbfoaa
