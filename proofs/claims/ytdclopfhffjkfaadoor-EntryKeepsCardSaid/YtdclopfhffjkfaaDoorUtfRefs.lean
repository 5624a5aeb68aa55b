/-
  The document's answers about any bytes, by their places: next, prev, rune, count, offset, cut.
-/
import Derived.Test.YtdclopfhffjkfaaDoorUtfRef
namespace Go.Proofs.YtdclopfhffjkfaaDoor
open Go.RowKit
open Utf
theorem add_succ (a : Addr) (i : Nat) : a.add (i + 1) = { block := a.block, off := a.off + (i + 1) } := rfl
set_option maxRecDepth 100000 in
theorem ref_Next (s : ByteArray) (x : Int) (hs : s.size ≤ 17592186044000) (w : World) :
    Calls Tryd.prog 79 #[.string s, .int .i64 x] w fun e w' => e = .returned (.int .i64 (Utf.next s.data.toList x)) ∧ Below w.heap.size w w' := by
  have hl := places_size s.data.toList
  rw [data_len] at hl
  have c1 := Lib.hid (split_got s hs w)
  have H : Hid (Utf.next s.data.toList x = match idx (places s.data.toList) x with | none => -1 | some i => (places s.data.toList)[i + 1]?.getD (-1)) := rfl
  generalize places s.data.toList = P at *
  cases hi : idx P x with
  | none =>
    have F : Utf.find P x = -1 := by rw [Utf.find, hi]
    rw [hi] at H
    clear hi
    go_enter Tryd.func79, Tryd.ntmps79
    go_wp2_with (first | (go_at_call 48; refine c1.out.mono ?_; rintro e w1 ⟨⟨A, c, rfl, hI⟩, hb⟩) | (go_at_call 47; refine (ref_find x hI (by omega)).mono ?_; rw [F]; rintro e w2 ⟨rfl, hb2⟩))
    go_ret
    exact ⟨by rw [H.out]; rfl, hb.trans (hb2.mono hb.size)⟩
  | some i =>
    have F : Utf.find P x = i := by rw [Utf.find, hi]
    have hlt := idx_lt hi
    rw [hi] at H
    clear hi
    rcases Nat.lt_or_ge (i + 1) P.length with h | h
    · have K : Hid (Utf.next s.data.toList x = P[i + 1]) := by show _ = _; rw [H.out]; simp only []; rw [List.getElem?_eq_getElem h]; rfl
      have g : (((i : Int) + 1) == (P.length : Int)) = false := by simp; omega
      clear H
      go_enter Tryd.func79, Tryd.ntmps79
      go_wp2_with (first | (go_at_call 48; refine c1.out.mono ?_; rintro e w1 ⟨⟨A, c, rfl, hI⟩, hb⟩) | (go_at_call 47; refine (ref_find x hI (by omega)).mono ?_; rw [F]; rintro e w2 ⟨rfl, hb2⟩; obtain ⟨aa, rfl, h1⟩ := (hI.grown (gb_below none hb2) (by simp)).at_ h; rw [add_succ] at h1))
      go_ret
      exact ⟨by rw [K.out]; rfl, hb.trans (hb2.mono hb.size)⟩
    · have K : Hid (Utf.next s.data.toList x = -1) := by show _ = _; rw [H.out]; simp only []; rw [List.getElem?_eq_none h]; rfl
      have g : (((i : Int) + 1) == (P.length : Int)) = true := by simp; omega
      clear H
      go_enter Tryd.func79, Tryd.ntmps79
      go_wp2_with (first | (go_at_call 48; refine c1.out.mono ?_; rintro e w1 ⟨⟨A, c, rfl, hI⟩, hb⟩) | (go_at_call 47; refine (ref_find x hI (by omega)).mono ?_; rw [F]; rintro e w2 ⟨rfl, hb2⟩))
      go_ret
      exact ⟨by rw [K.out]; rfl, hb.trans (hb2.mono hb.size)⟩
set_option maxRecDepth 100000 in
theorem ref_Prev (s : ByteArray) (x : Int) (hs : s.size ≤ 17592186044000) (w : World) :
    Calls Tryd.prog 32 #[.string s, .int .i64 x] w fun e w' => e = .returned (.int .i64 (Utf.prev s.data.toList x)) ∧ Below w.heap.size w w' := by
  have hl := places_size s.data.toList
  rw [data_len] at hl
  have c1 := Lib.hid (split_got s hs w)
  have H : Hid (Utf.prev s.data.toList x = match idx (places s.data.toList) x with | none => -1 | some 0 => -1 | some (i + 1) => (places s.data.toList)[i]?.getD (-1)) := rfl
  generalize places s.data.toList = P at *
  rcases hi : idx P x with _ | _ | i
  · have F : Utf.find P x = -1 := by rw [Utf.find, hi]
    rw [hi] at H
    clear hi
    go_enter Tryd.func32, Tryd.ntmps32
    go_wp2_with (first | (go_at_call 48; refine c1.out.mono ?_; rintro e w1 ⟨⟨A, c, rfl, hI⟩, hb⟩) | (go_at_call 47; refine (ref_find x hI (by omega)).mono ?_; rw [F]; rintro e w2 ⟨rfl, hb2⟩))
    go_ret
    exact ⟨by rw [H.out]; rfl, hb.trans (hb2.mono hb.size)⟩
  · have F : Utf.find P x = 0 := by rw [Utf.find, hi]; rfl
    rw [hi] at H
    clear hi
    go_enter Tryd.func32, Tryd.ntmps32
    go_wp2_with (first | (go_at_call 48; refine c1.out.mono ?_; rintro e w1 ⟨⟨A, c, rfl, hI⟩, hb⟩) | (go_at_call 47; refine (ref_find x hI (by omega)).mono ?_; rw [F]; rintro e w2 ⟨rfl, hb2⟩))
    go_ret
    exact ⟨by rw [H.out]; rfl, hb.trans (hb2.mono hb.size)⟩
  · have F : Utf.find P x = ((i : Int) + 1) := by rw [Utf.find, hi]; simp
    have hlt := idx_lt hi
    rw [hi] at H
    have h : i < P.length := by omega
    have K : Hid (Utf.prev s.data.toList x = P[i]) := by show _ = _; rw [H.out]; simp only []; rw [List.getElem?_eq_getElem h]; rfl
    clear hi H
    go_enter Tryd.func32, Tryd.ntmps32
    go_wp2_with (first | (go_at_call 48; refine c1.out.mono ?_; rintro e w1 ⟨⟨A, c, rfl, hI⟩, hb⟩) | (go_at_call 47; refine (ref_find x hI (by omega)).mono ?_; rw [F]; rintro e w2 ⟨rfl, hb2⟩; obtain ⟨aa, rfl, h1⟩ := (hI.grown (gb_below none hb2) (by simp)).at_ h))
    go_ret
    exact ⟨by rw [K.out]; rfl, hb.trans (hb2.mono hb.size)⟩
set_option maxRecDepth 100000 in
theorem ref_Rune (s : ByteArray) (x : Int) (hs : s.size ≤ 17592186044000) (w : World) :
    Calls Tryd.prog 59 #[.string s, .int .i64 x] w fun e w' => e = .returned (.string (bs (Utf.rune s.data.toList x))) ∧ Below w.heap.size w w' := by
  have hl : s.data.toList.length = s.size := by simp
  have c1 := Lib.hid (fun w => ref_Next s x hs w)
  by_cases h0 : Utf.next s.data.toList x < 0
  · have H : Hid (Utf.rune s.data.toList x = []) := by show _ = _; rw [Utf.rune, if_pos h0]
    generalize Utf.next s.data.toList x = n at *
    go_enter Tryd.func59, Tryd.ntmps59
    go_wp2_with (go_at_call 79; refine (c1.out _).mono ?_; rintro e w1 ⟨rfl, hb⟩)
    go_ret
    exact ⟨by rw [H.out]; rfl, hb⟩
  · cases hp : Utf.place s.data.toList x with
    | false => rw [Utf.next_not (Or.inr hp)] at h0; exact absurd (by omega) h0
    | true =>
      obtain ⟨rs, i, hd, hi, rfl⟩ := Utf.place_of hp
      have hi2 : i < rs.length := by
        rcases Nat.lt_or_ge i rs.length with h | h
        · exact h
        · rw [Utf.off_top hd h, Utf.next_not (Or.inl rfl)] at h0; exact absurd (by omega) h0
      have hn := Utf.next_at hd hi2
      have hlt := Utf.off_lt (Utf.dec_some hd).1 (show i < i + 1 by omega) hi2
      have hin := Utf.off_in hd (i + 1)
      have e1 : s.extract (Utf.off rs i) (Utf.off rs (i + 1)) = bs (Utf.rune s.data.toList (Utf.off rs i : Int)) := by
        rw [Utf.rune, if_neg h0, hn, Lib.extract_eq, List.drop_take]
        rfl
      rw [hn] at c1
      clear h0 hp hn hd
      generalize Utf.off rs (i + 1) = z at *
      generalize Utf.off rs i = y at *
      have E := Lib.hid e1
      clear e1
      go_enter Tryd.func59, Tryd.ntmps59
      go_wp2_with (go_at_call 79; refine (c1.out _).mono ?_; rintro e w1 ⟨rfl, hb⟩)
      go_ret
      exact ⟨by rw [← E.out]; rfl, hb⟩
theorem ref_Count (s : ByteArray) (hs : s.size ≤ 17592186044000) (w : World) :
    Calls Tryd.prog 63 #[.string s] w fun e w' => e = .returned (.int .i64 (Utf.count s.data.toList)) ∧ Below w.heap.size w w' := by
  have hl := places_size s.data.toList
  rw [data_len] at hl
  have c1 := Lib.hid (split_got s hs w)
  have H : Hid (Utf.count s.data.toList = ((places s.data.toList).length - 1 : Nat)) := rfl
  generalize places s.data.toList = P at *
  rcases Nat.eq_zero_or_pos P.length with h | h
  · have K : Hid (Utf.count s.data.toList = 0) := by show _ = _; rw [H.out, h]; rfl
    have g : ((P.length : Int) == 0) = true := by rw [h]; rfl
    clear H
    go_enter Tryd.func63, Tryd.ntmps63
    go_wp2_with (go_at_call 48; refine c1.out.mono ?_; rintro e w1 ⟨⟨A, c, rfl, hI⟩, hb⟩)
    go_ret
    exact ⟨by rw [K.out]; rfl, hb⟩
  · have K : Hid (Utf.count s.data.toList = (P.length : Int) - 1) := by show _ = _; rw [H.out]; omega
    have g : ((P.length : Int) == 0) = false := beq_false_of_ne (by omega)
    clear H
    go_enter Tryd.func63, Tryd.ntmps63
    go_wp2_with (go_at_call 48; refine c1.out.mono ?_; rintro e w1 ⟨⟨A, c, rfl, hI⟩, hb⟩)
    go_ret
    exact ⟨by rw [K.out]; go_num, hb⟩
theorem place_get {s : List UInt8} {k : Nat} {x : Int} (h : (places s)[k]? = some x) : 0 ≤ x ∧ x ≤ s.length := by
  cases hd : dec s with
  | none => rw [places_none hd] at h; simp at h
  | some rs =>
    have hk : k < (places s).length := (List.getElem?_eq_some_iff.1 h).1
    rw [places_length hd] at hk
    rw [places_get hd (by omega)] at h
    injection h with h
    have := off_in hd k
    omega
end Go.Proofs.YtdclopfhffjkfaaDoor
