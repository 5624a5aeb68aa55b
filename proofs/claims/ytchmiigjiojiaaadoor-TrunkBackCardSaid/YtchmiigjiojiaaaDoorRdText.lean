/-
  What the reader of the program answers when it is asked for a text, for all bytes and all bounds.
-/
import Derived.Test.YtchmiigjiojiaaaDoorLen
import Derived.Test.YtchmiigjiojiaaaDoorClone
namespace Go.Proofs.YtchmiigjiojiaaaDoor
open Go.RowKit
/-- What a reader answers, and where it stands, if it is asked for a text. -/
def rdText (most : Int) (l : List UInt8) (err : Int) : List UInt8 × List UInt8 × Int :=
  if (rdNum l err).2.2 ≠ 0 then ([], (rdNum l err).2.1, (rdNum l err).2.2)
  else if most < (rdNum l err).1 then ([], [], 6)
  else if ((rdNum l err).2.1.length : Int) < (rdNum l err).1 then ([], [], 2)
  else ((rdNum l err).2.1.take (rdNum l err).1.toNat, (rdNum l err).2.1.drop (rdNum l err).1.toNat, 0)
theorem rdNum_low (l : List UInt8) (err : Int) : 0 ≤ (rdNum l err).1 ∧ (rdNum l err).1 ≤ 2147483647 := by
  by_cases hl : l.length < 4
  · rw [rdNum_short err hl]; simp
  · obtain ⟨a, b, c, d, r, rfl⟩ := four_of (l := l) (by omega)
    by_cases hv : val4 a b c d ≤ 2147483647
    · rw [rdNum_ok r err hv]; exact ⟨val4_low a b c d, hv⟩
    · rw [rdNum_high r err (by omega)]; simp
theorem rdNum_len (l : List UInt8) (err : Int) : (rdNum l err).2.1.length ≤ l.length := by
  by_cases hl : l.length < 4
  · rw [rdNum_short err hl]; simp
  · obtain ⟨a, b, c, d, r, rfl⟩ := four_of (l := l) (by omega)
    by_cases hv : val4 a b c d ≤ 2147483647
    · rw [rdNum_ok r err hv]; simp only [List.length_cons]; omega
    · rw [rdNum_high r err (by omega)]; simp
set_option maxHeartbeats 400000 in
theorem rd_text_bad {p : Nat} {l : List UInt8} {err n e most : Int} {r : List UInt8} {w : World} (h : Rd p l err w) (hq : rdNum l err = (n, r, e)) (he : e ≠ 0) :
    Calls Tryd.prog 56 #[.pointer (some ⟨p, 0, none⟩), .int .i64 most] w fun x w' => x = .returned (.string (bs [])) ∧ Rd p r e w' ∧ w.grownBy w' (some p) := by
  have hL := rd_len_bad (most := most) h hq he
  clear hq h he
  go_enter Tryd.func56, Tryd.ntmps56
  go_wp2_with (go_at_call 61; refine hL.mono ?_; rintro x w1 ⟨rfl, hr, hg⟩)
  go_ret
  exact ⟨rfl, hr, hg⟩
set_option maxHeartbeats 400000 in
theorem rd_text_over {p : Nat} {l : List UInt8} {err n most : Int} {r : List UInt8} {w : World} (h : Rd p l err w) (hq : rdNum l err = (n, r, 0)) (hm : most < n) :
    Calls Tryd.prog 56 #[.pointer (some ⟨p, 0, none⟩), .int .i64 most] w fun x w' => x = .returned (.string (bs [])) ∧ Rd p [] 6 w' ∧ w.grownBy w' (some p) := by
  have hL := rd_len_over (most := most) h hq hm
  clear hq h hm
  go_enter Tryd.func56, Tryd.ntmps56
  go_wp2_with (go_at_call 61; refine hL.mono ?_; rintro x w1 ⟨rfl, hr, hg⟩)
  go_ret
  exact ⟨rfl, hr, hg⟩
set_option maxHeartbeats 400000 in
theorem rd_text_end {p : Nat} {l : List UInt8} {err n most : Int} {r : List UInt8} {w : World} (h : Rd p l err w) (hq : rdNum l err = (n, r, 0)) (hm : n ≤ most) (hl : (r.length : Int) < n) :
    Calls Tryd.prog 56 #[.pointer (some ⟨p, 0, none⟩), .int .i64 most] w fun x w' => x = .returned (.string (bs [])) ∧ Rd p [] 2 w' ∧ w.grownBy w' (some p) := by
  have hL := rd_len_ok (most := most) h hq hm
  clear hq h
  go_enter Tryd.func56, Tryd.ntmps56
  go_wp2_with (first | (go_at_call 61; refine hL.mono ?_; rintro x w1 ⟨rfl, ⟨c1, c2, s, hr⟩, hg⟩; have k1 := hr.self.cell 1; simp at k1) | (go_at_call 48; refine (rd_take_no hr _ hl).mono ?_; rintro e w1 ⟨rfl, rfl⟩) | (go_at_call 49; refine (rd_fail ⟨c1, c2, s, hr⟩ 2).mono ?_; rintro e w3 ⟨rfl, hr3, hg3⟩))
  go_ret
  exact ⟨rfl, hr3, gb_trans hg hg3⟩
set_option maxHeartbeats 400000 in
theorem rd_text_ok {p : Nat} {l : List UInt8} {err n most : Int} {r : List UInt8} {w : World} (h : Rd p l err w) (hq : rdNum l err = (n, r, 0)) (hm : n ≤ most) (h0 : 0 ≤ n) (hl : n ≤ (r.length : Int)) (hz : n ≤ 2147483647) :
    Calls Tryd.prog 56 #[.pointer (some ⟨p, 0, none⟩), .int .i64 most] w fun x w' => x = .returned (.string (bs (r.take n.toNat))) ∧ Rd p (r.drop n.toNat) 0 w' ∧ w.grownBy w' (some p) := by
  have hL := rd_len_ok (most := most) h hq hm
  have hsz : (bs (r.take n.toNat)).size ≤ 281474976710656 := by rw [bs_size, List.length_take]; omega
  clear hq h
  go_enter Tryd.func56, Tryd.ntmps56
  go_wp2_with (first | (go_at_call 61; refine hL.mono ?_; rintro x w1 ⟨rfl, ⟨c1, c2, s, hr⟩, hg⟩; have k1 := hr.self.cell 1; simp at k1) | (go_at_call 48; refine (rd_take_ok hr _ h0 hl).mono ?_; rintro e w2 ⟨rfl, hr2, hg2⟩) | (go_at_call 62; refine (str_clone _ _ hsz).mono ?_; rintro e w3 ⟨rfl, hb⟩))
  go_ret
  exact ⟨rfl, Rd.below ⟨_, _, _, hr2⟩ (gb_below _ hb), gb_trans hg (gb_trans hg2 (gb_below _ hb))⟩
/-- A text is read as the words say. -/
theorem rd_text {p : Nat} {l : List UInt8} {err : Int} {w : World} (most : Int) (h : Rd p l err w) :
    Calls Tryd.prog 56 #[.pointer (some ⟨p, 0, none⟩), .int .i64 most] w fun x w' => x = .returned (.string (bs (rdText most l err).1)) ∧ Rd p (rdText most l err).2.1 (rdText most l err).2.2 w' ∧ w.grownBy w' (some p) := by
  have hlow := rdNum_low l err
  obtain ⟨n, r, e, hq⟩ : ∃ n r e, rdNum l err = (n, r, e) := ⟨_, _, _, rfl⟩
  unfold rdText
  rw [hq] at hlow ⊢
  simp only at hlow ⊢
  by_cases he : e = 0
  · subst he
    rw [if_neg (by simp)]
    by_cases hm : most < n
    · rw [if_pos hm]; exact rd_text_over h hq hm
    · rw [if_neg hm]
      by_cases hl : (r.length : Int) < n
      · rw [if_pos hl]; exact rd_text_end h hq (by omega) hl
      · rw [if_neg hl]; exact rd_text_ok h hq (by omega) hlow.1 (by omega) hlow.2
  · rw [if_pos he]; exact rd_text_bad h hq he
end Go.Proofs.YtchmiigjiojiaaaDoor
