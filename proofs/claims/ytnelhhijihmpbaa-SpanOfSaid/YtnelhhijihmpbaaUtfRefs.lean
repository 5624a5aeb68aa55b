/-
  The document's answers about any bytes, by their places: next, prev, rune, count, offset, cut.
-/
import Derived.Test.YtnelhhijihmpbaaUtfRef
namespace Go.Proofs.Ytnelhhijihmpbaa
open Go.RowKit
open Utf
theorem add_succ (a : Addr) (i : Nat) : a.add (i + 1) = { block := a.block, off := a.off + (i + 1) } := rfl
set_option maxRecDepth 100000 in
theorem ref_Next (s : ByteArray) (x : Int) (hs : s.size ≤ 17592186044000) (w : World) :
    Calls Try.prog 25 #[.string s, .int .i64 x] w fun e w' => e = .returned (.int .i64 (Utf.next s.data.toList x)) ∧ Below w.heap.size w w' := by
  have hl := places_size s.data.toList
  rw [data_len] at hl
  have c1 := Lib.hid (split_got s hs w)
  have H : Hid (Utf.next s.data.toList x = match idx (places s.data.toList) x with | none => -1 | some i => (places s.data.toList)[i + 1]?.getD (-1)) := rfl
  generalize places s.data.toList = P at *
  cases hi : idx P x with
  | none =>
    have F : Utf.find P x = -1 := by rw [Utf.find, hi]
    rw [hi] at H
    clear hi
    go_enter Try.func25, Try.ntmps25
    go_wp2_with (first | (go_at_call 35; refine c1.out.mono ?_; rintro e w1 ⟨⟨A, c, rfl, hI⟩, hb⟩) | (go_at_call 34; refine (ref_find x hI (by omega)).mono ?_; rw [F]; rintro e w2 ⟨rfl, hb2⟩))
    go_ret
    exact ⟨by rw [H.out]; rfl, hb.trans (hb2.mono hb.size)⟩
  | some i =>
    have F : Utf.find P x = i := by rw [Utf.find, hi]
    have hlt := idx_lt hi
    rw [hi] at H
    clear hi
    rcases Nat.lt_or_ge (i + 1) P.length with h | h
    · have K : Hid (Utf.next s.data.toList x = P[i + 1]) := by show _ = _; rw [H.out]; simp only []; rw [List.getElem?_eq_getElem h]; rfl
      have g : (((i : Int) + 1) == (P.length : Int)) = false := by simp; omega
      clear H
      go_enter Try.func25, Try.ntmps25
      go_wp2_with (first | (go_at_call 35; refine c1.out.mono ?_; rintro e w1 ⟨⟨A, c, rfl, hI⟩, hb⟩) | (go_at_call 34; refine (ref_find x hI (by omega)).mono ?_; rw [F]; rintro e w2 ⟨rfl, hb2⟩; obtain ⟨aa, rfl, h1⟩ := (hI.grown (gb_below none hb2) (by simp)).at_ h; rw [add_succ] at h1))
      go_ret
      exact ⟨by rw [K.out]; rfl, hb.trans (hb2.mono hb.size)⟩
    · have K : Hid (Utf.next s.data.toList x = -1) := by show _ = _; rw [H.out]; simp only []; rw [List.getElem?_eq_none h]; rfl
      have g : (((i : Int) + 1) == (P.length : Int)) = true := by simp; omega
      clear H
      go_enter Try.func25, Try.ntmps25
      go_wp2_with (first | (go_at_call 35; refine c1.out.mono ?_; rintro e w1 ⟨⟨A, c, rfl, hI⟩, hb⟩) | (go_at_call 34; refine (ref_find x hI (by omega)).mono ?_; rw [F]; rintro e w2 ⟨rfl, hb2⟩))
      go_ret
      exact ⟨by rw [K.out]; rfl, hb.trans (hb2.mono hb.size)⟩
theorem place_get {s : List UInt8} {k : Nat} {x : Int} (h : (places s)[k]? = some x) : 0 ≤ x ∧ x ≤ s.length := by
  cases hd : dec s with
  | none => rw [places_none hd] at h; simp at h
  | some rs =>
    have hk : k < (places s).length := (List.getElem?_eq_some_iff.1 h).1
    rw [places_length hd] at hk
    rw [places_get hd (by omega)] at h
    injection h with h
    have := off_in hd k
    omega
end Go.Proofs.Ytnelhhijihmpbaa
