/-
  Signs: the program's and the document's.
-/
import Derived.Test.YtchpkeelnfmlbaaGreatKey
import Derived.Test.YtchpkeelnfmlbaaGreatUtfPlaces
import Derived.Test.YtchpkeelnfmlbaaGreatUtfIs
import Derived.BigCall
import Derived.Lib.OthersKept
import Derived.Lib.RuneBytes
namespace Go.Proofs.YtchpkeelnfmlbaaGreat
open Go.RowKit
namespace Key
open Utf
theorem dec_single {l : List UInt8} (h : one l = true) : dec l = some [l] := by
  have := dec_one [] h
  rw [List.append_nil, dec_nil] at this
  exact this
theorem next_one (l : List UInt8) : next l 0 = (l.length : Int) ↔ one l = true := by
  cases hd : dec l with
  | none =>
    rw [next_bad hd]
    constructor
    · intro h; omega
    · intro h; rw [dec_single h] at hd; cases hd
  | some rs =>
    have hs := dec_some hd
    cases rs with
    | nil =>
      have h0 : l = [] := by simpa using hs.2
      subst h0
      have := next_end hd
      simp only [List.length_nil, Int.natCast_zero] at this ⊢
      rw [this]
      constructor
      · intro h; omega
      · intro h; have := one_pos h; simp at this
    | cons r t =>
      have h1 := next_at hd (i := 0) (by simp)
      rw [off_zero] at h1
      have h2 : off (r :: t) (0 + 1) = r.length := by rw [off_cons, off_zero]; omega
      rw [h2] at h1
      have h3 : ((0 : Nat) : Int) = 0 := rfl
      rw [h3] at h1
      rw [h1]
      have hl : l.length = r.length + t.flatten.length := by rw [hs.2]; simp
      constructor
      · intro h
        have h4 : t.flatten = [] := List.eq_nil_of_length_eq_zero (by omega)
        have h5 : l = r := by rw [hs.2, List.flatten_cons, h4, List.append_nil]
        rw [h5]; exact hs.1 r (by simp)
      · intro h
        rw [dec_single h] at hd
        injection hd with hd
        injection hd with e1 e2
        rw [e1]
end Key
set_option maxRecDepth 100000 in
theorem key_sign (r : Nat) (h : r ≤ 1114111) (w : World) :
    Calls Tryz.prog 38 #[.int .i32 (r : Int)] w fun e w' => e = .returned (.bool (decide (32 ≤ r) && decide (r ≠ 127))) ∧ w = w' := by
  by_cases h0 : 32 ≤ r
  · by_cases h1 : r = 127
    · subst h1
      go_enter Tryz.func38, Tryz.ntmps38
      go_wp2
      go_ret
      exact ⟨rfl, rfl⟩
    · have g' : ((r : Int) != 127) = true := by rw [bne_iff_ne]; omega
      go_enter Tryz.func38, Tryz.ntmps38
      go_wp2
      go_ret
      exact ⟨by rw [show (decide (32 ≤ r) && decide (r ≠ 127)) = true by simp [h0, h1]]; rfl, rfl⟩
  · go_enter Tryz.func38, Tryz.ntmps38
    go_wp2
    go_ret
    exact ⟨by simp, rfl⟩
theorem key_sign_rune {r : List UInt8} (h : Key.cp r ≤ 1114111) (w : World) :
    Calls Tryz.prog 38 #[.int .i32 (Key.cp r : Int)] w fun e w' => e = .returned (.bool (Key.sgn r)) ∧ w = w' := key_sign (Key.cp r) h w
set_option maxRecDepth 100000 in
theorem key_single (k : ByteArray) (hs : k.size ≤ 9223372036854775807) (w : World) :
    Calls Tryz.prog 62 #[.string k] w fun e w' => e = .returned (.bool (Utf.one k.data.toList)) ∧ w = w' := by
  have hl : k.data.toList.length = k.size := by simp
  have c1 := Lib.hid (utf_Next k 0 hs)
  have h1 := Key.next_one k.data.toList
  rw [hl] at h1
  cases ho : Utf.one k.data.toList with
  | true =>
    have g : (Utf.next k.data.toList 0 == (k.size : Int)) = true := by rw [beq_iff_eq]; exact h1.2 ho
    clear h1 ho hl
    generalize Utf.next k.data.toList 0 = n at *
    go_enter Tryz.func62, Tryz.ntmps62
    go_wp2_with (go_at_call 65; refine (c1.out _).mono ?_; rintro e w1 ⟨rfl, rfl⟩)
    go_ret
    exact ⟨rfl, rfl⟩
  | false =>
    have g : (Utf.next k.data.toList 0 == (k.size : Int)) = false := by rw [beq_eq_false_iff_ne]; intro h; rw [h1.1 h] at ho; cases ho
    clear h1 ho hl
    generalize Utf.next k.data.toList 0 = n at *
    go_enter Tryz.func62, Tryz.ntmps62
    go_wp2_with (go_at_call 65; refine (c1.out _).mono ?_; rintro e w1 ⟨rfl, rfl⟩)
    go_ret
    exact ⟨rfl, rfl⟩
set_option maxHeartbeats 1000000 in
set_option maxRecDepth 100000 in
theorem key_indexFunc (k : ByteArray) (ho : Utf.one k.data.toList = true) (w : World) :
    Calls Tryz.prog 66 #[.string k, .func (.func 38) #[] #[], .bool true] w fun e w' => e = .returned (.int .i64 (if Key.sgn k.data.toList then 0 else -1)) ∧ Below w.heap.size w w' := by
  have HD := Lib.hid (Key.dec_single ho)
  have hcp := Key.cp_le ho
  have c3 := Lib.hid (fun w => key_sign_rune hcp w)
  have hl : k.data.toList.length = k.size := by simp
  have hkp : 0 < k.size := by rw [← hl]; exact Utf.one_pos ho
  have hdc := Key.decode_rune k HD.out (i := 0) (r := k.data.toList) rfl
  have e1 : Utf.off [k.data.toList] (0 + 1) = k.size := by rw [Utf.off_cons, Utf.off_zero, hl]; omega
  rw [e1, Utf.off_zero] at hdc
  generalize hN : (if Key.sgn k.data.toList then (0 : Int) else -1) = n
  have HN := Lib.hid hN
  clear hN
  go_enter Tryz.func66, Tryz.ntmps66
  go_wp2
  go_loopw [] (fun wr => ∃ i, i ≤ 1 ∧ wr.heap[w.heap.size]? = some (.stringIter k (if i = 0 then 0 else k.size)) ∧ Below w.heap.size w wr ∧ Hid (i = 1 → Key.sgn k.data.toList = false)) (fun wr => k.size - wr.iterPos w.heap.size)
  case atStart =>
    refine ⟨0, Nat.zero_le _, ?_, (Below.refl _ w).alloc (Nat.le_refl _) _, Lib.hid (by intro h; omega)⟩
    exact World.iter_heap w k 0
  case round =>
    obtain ⟨i, hi, hit, hbr, hs⟩ := hrel
    have hsz : w.heap.size < wr.heap.size := (Array.getElem?_eq_some_iff.1 hit).1
    rcases (show i = 0 ∨ i = 1 by omega) with h0 | h0
    · subst h0
      obtain ⟨hdc, hp, hoff, hle, ho2⟩ := hdc
      rw [if_pos rfl] at hit
      have hnx : ∀ ty, (Instr.next (.pointer (some ⟨w.heap.size, 0, none⟩)) true ty).run Tryz.prog wr = _ := fun ty => Lib.run_next_any_at wr w.heap.size k _ ty hit hp
      rw [hdc] at hnx
      simp only [] at hnx
      rw [← hoff] at hnx
      have hit2 := Lib.iterAt_heap wr w.heap.size k _ k.size hit
      have hbr2 := Lib.below_iterAt hbr (k := w.heap.size) (Nat.le_refl _) k k.size
      have h0z : ((0 : Nat) : Int) = 0 := rfl
      rw [h0z] at hnx
      cases hsg : Key.sgn k.data.toList with
      | true =>
        rw [hsg] at c3
        have Hsg := Lib.hid hsg
        clear hdc hsg hs ho2 HD hoff hle e1
        go_wp2_with (go_at_call 38; refine (c3.out _).mono ?_; rintro e w2 ⟨rfl, rfl⟩)
        go_ret
        exact ⟨by rw [← HN.out, Hsg.out]; rfl, hbr2⟩
      | false =>
        rw [hsg] at c3
        have hs2 : Hid (0 + 1 = 1 → Key.sgn k.data.toList = false) := Lib.hid (fun _ => hsg)
        have hkp2 := Utf.one_pos ho2
        rw [hl] at hkp2
        clear hdc hsg hs ho2 HD hoff hle e1
        go_wp2_with (go_at_call 38; refine (c3.out _).mono ?_; rintro e w2 ⟨rfl, rfl⟩)
        go_roundw
        case rel => exact ⟨0 + 1, by omega, by rw [if_neg (by omega)]; exact hit2, hbr2, Lib.hid (fun _ => by trivial)⟩
        case measure =>
          simp only [World.iterPos, hit2, hit]
          omega
    · subst h0
      have hsg := hs.out rfl
      rw [if_neg (by omega)] at hit
      have hnx : ∀ ty, (Instr.next (.pointer (some ⟨w.heap.size, 0, none⟩)) true ty).run Tryz.prog wr = _ := fun ty => Lib.run_next_end_at wr w.heap.size k _ ty hit (by omega)
      have Hsg := Lib.hid hsg
      clear hdc hs HD hsg
      go_wp2
      go_ret
      exact ⟨by rw [← HN.out, Hsg.out]; rfl, hbr⟩
set_option maxRecDepth 100000 in
theorem key_IndexFunc (k : ByteArray) (ho : Utf.one k.data.toList = true) (w : World) :
    Calls Tryz.prog 63 #[.string k, .func (.func 38) #[] #[]] w fun e w' => e = .returned (.int .i64 (if Key.sgn k.data.toList then 0 else -1)) ∧ Below w.heap.size w w' := by
  have c1 := Lib.hid (key_indexFunc k ho)
  generalize (if Key.sgn k.data.toList then (0 : Int) else -1) = n at *
  go_enter Tryz.func63, Tryz.ntmps63
  go_wp2_with (go_at_call 66; refine (c1.out _).mono ?_; rintro e w1 ⟨rfl, hb⟩)
  go_ret
  exact ⟨rfl, hb⟩
set_option maxRecDepth 100000 in
theorem key_Sign (k : ByteArray) (hs : k.size ≤ 9223372036854775807) (w : World) :
    Calls Tryz.prog 56 #[.string k] w fun e w' => e = .returned (.bool (Utf.one k.data.toList && Key.sgn k.data.toList)) ∧ Below w.heap.size w w' := by
  have c1 := Lib.hid (key_single k hs)
  cases ho : Utf.one k.data.toList with
  | false =>
    rw [ho] at c1
    go_enter Tryz.func56, Tryz.ntmps56
    go_wp2_with (go_at_call 62; refine (c1.out _).mono ?_; rintro e w1 ⟨rfl, rfl⟩)
    go_ret
    exact ⟨rfl, Below.refl _ _⟩
  | true =>
    have c2 := Lib.hid (key_IndexFunc k ho)
    rw [ho] at c1
    clear ho
    cases hsg : Key.sgn k.data.toList with
    | true =>
      rw [hsg] at c2
      simp only [if_true] at c2
      go_enter Tryz.func56, Tryz.ntmps56
      go_wp2_with (first
        | (go_at_call 62; refine (c1.out _).mono ?_; rintro e w1 ⟨rfl, rfl⟩)
        | (go_at_call 63; refine (c2.out _).mono ?_; rintro e w1 ⟨rfl, hb⟩))
      go_ret
      exact ⟨rfl, hb⟩
    | false =>
      rw [hsg] at c2
      simp only [Bool.false_eq_true, if_false] at c2
      go_enter Tryz.func56, Tryz.ntmps56
      go_wp2_with (first
        | (go_at_call 62; refine (c1.out _).mono ?_; rintro e w1 ⟨rfl, rfl⟩)
        | (go_at_call 63; refine (c2.out _).mono ?_; rintro e w1 ⟨rfl, hb⟩))
      go_ret
      exact ⟨rfl, hb⟩
set_option maxRecDepth 100000 in
theorem ref13_Sign (k : ByteArray) (w : World) :
    Calls Tryz.prog 11 #[.string k] w fun e w' => e = .returned (.bool (Utf.one k.data.toList && Key.sgn k.data.toList)) ∧ Below w.heap.size w w' := by
  have c1 := Lib.hid (ref_Is k)
  have hl : k.data.toList.length = k.size := by simp
  cases ho : Utf.one k.data.toList with
  | false =>
    rw [ho] at c1
    go_enter Tryz.func11, Tryz.ntmps11
    go_wp2_with (go_at_call 31; refine (c1.out _).mono ?_; rintro e w1 ⟨rfl, hb⟩)
    go_ret
    exact ⟨rfl, hb⟩
  | true =>
    rw [ho] at c1
    have hp := Utf.one_pos ho
    rw [hl] at hp
    by_cases h1 : 1 < k.size
    · have hsg : Key.sgn k.data.toList = true := by
        have h128 : 128 ≤ Key.cp k.data.toList := by
          rcases Key.one_cases ho with ⟨a, e⟩ | ⟨a, b, e⟩ | ⟨a, b, c, e⟩ | ⟨a, b, c, d, e⟩
          · rw [e] at hl; simp at hl; omega
          · rw [e] at ho ⊢; exact (Key.cp2 ho).1
          · rw [e] at ho ⊢; have := (Key.cp3 ho).1; omega
          · rw [e] at ho ⊢; have := (Key.cp4 ho).1; omega
        simp only [Key.sgn, Bool.and_eq_true, decide_eq_true_eq]
        omega
      rw [hsg]
      clear ho hl hsg
      go_enter Tryz.func11, Tryz.ntmps11
      go_wp2_with (go_at_call 31; refine (c1.out _).mono ?_; rintro e w1 ⟨rfl, hb⟩)
      go_ret
      exact ⟨rfl, hb⟩
    · have hk : k.data.toList = [k[0]] := by
        have h2 : k.data.toList.length = 1 := by omega
        obtain ⟨b, hb⟩ := List.length_eq_one_iff.1 h2
        have h3 := byte_get k hp
        rw [hb] at h3 ⊢
        simp only [List.getElem?_cons_zero] at h3
        injection h3 with h3
        rw [h3]
      have h128 : k[0].toNat < 128 := by rw [hk] at ho; exact (Utf.one1 _).1 ho
      have hsg : Key.sgn k.data.toList = (decide (32 ≤ k[0].toNat) && decide (k[0].toNat ≠ 127)) := by rw [hk]; rfl
      rw [hsg]
      clear ho hl hsg hk
      by_cases h32 : 32 ≤ k[0].toNat
      · by_cases h126 : k[0].toNat ≤ 126
        · have h7 : (decide (32 ≤ k[0].toNat) && decide (k[0].toNat ≠ 127)) = true := by simp; omega
          rw [h7]
          have d1 : decide ((1 : Int) < (k.size : Int)) = false := by simp; omega
          have d2 : decide ((k[0].toNat : Int) ≤ 126) = true := by simp; omega
          clear h7
          go_enter Tryz.func11, Tryz.ntmps11
          go_wp2_with (go_at_call 31; refine (c1.out _).mono ?_; rintro e w1 ⟨rfl, hb⟩)
          go_ret
          exact ⟨rfl, hb⟩
        · have h7 : (decide (32 ≤ k[0].toNat) && decide (k[0].toNat ≠ 127)) = false := by simp; omega
          rw [h7]
          have d1 : decide ((1 : Int) < (k.size : Int)) = false := by simp; omega
          have d2 : decide ((k[0].toNat : Int) ≤ 126) = false := by simp; omega
          clear h7
          go_enter Tryz.func11, Tryz.ntmps11
          go_wp2_with (go_at_call 31; refine (c1.out _).mono ?_; rintro e w1 ⟨rfl, hb⟩)
          go_ret
          exact ⟨rfl, hb⟩
      · have h7 : (decide (32 ≤ k[0].toNat) && decide (k[0].toNat ≠ 127)) = false := by simp; omega
        rw [h7]
        have d1 : decide ((1 : Int) < (k.size : Int)) = false := by simp; omega
        clear h7
        go_enter Tryz.func11, Tryz.ntmps11
        go_wp2_with (go_at_call 31; refine (c1.out _).mono ?_; rintro e w1 ⟨rfl, hb⟩)
        go_ret
        exact ⟨rfl, hb⟩
end Go.Proofs.YtchpkeelnfmlbaaGreat
