/-
  The other bracket: the program's Match.
-/
import Derived.Test.YtijjpnppedhfnaaPairWays
import Derived.Test.YtijjpnppedhfnaaPairAll
import Derived.Test.YtijjpnppedhfnaaUtfPlaces
namespace Go.Proofs.Ytijjpnppedhfnaa
open Go.RowKit
open Pair
theorem Pair.ext_seg (s : ByteArray) (a b : Nat) : s.extract a b = bs (Line.seg s.data.toList a b) := by
  rw [Lib.extract_eq, Line.seg, List.drop_take]; rfl
theorem Pair.ext_one {s : ByteArray} {b : Nat} {y : UInt8} (h : s.data.toList[b]? = some y) : s.extract b (b + 1) = bs [y] := by
  obtain ⟨h1, h2⟩ := List.getElem?_eq_some_iff.1 h
  rw [Lib.extract_eq, show b + 1 - b = 1 by omega, List.drop_eq_getElem_cons h1, h2]; rfl
theorem Pair.lk_skip {l : List (Nat × Nat)} {k q : Nat} {x : Nat × Nat} (hx : l[k]? = some x) (h1 : q ≠ x.1) (h2 : q ≠ x.2) : lk (l.drop k) q = lk (l.drop (k + 1)) q := by
  obtain ⟨h3, h4⟩ := List.getElem?_eq_some_iff.1 hx
  rw [List.drop_eq_getElem_cons h3, h4, lk, if_neg h1, if_neg h2]
theorem Pair.lk_fst {l : List (Nat × Nat)} {k q : Nat} {x : Nat × Nat} (hx : l[k]? = some x) (h1 : q = x.1) : lk (l.drop k) q = some x.2 := by
  obtain ⟨h3, h4⟩ := List.getElem?_eq_some_iff.1 hx
  rw [List.drop_eq_getElem_cons h3, h4, lk, if_pos h1]
theorem Pair.lk_snd {l : List (Nat × Nat)} {k q : Nat} {x : Nat × Nat} (hx : l[k]? = some x) (h1 : q ≠ x.1) (h2 : q = x.2) : lk (l.drop k) q = some x.1 := by
  obtain ⟨h3, h4⟩ := List.getElem?_eq_some_iff.1 hx
  rw [List.drop_eq_getElem_cons h3, h4, lk, if_neg h1, if_pos h2]
theorem Pair.mt_not {s : List UInt8} {p : Int} (h : Utf.place s p = false) : mt s p = none := by rw [mt, if_neg (by simp [h])]
set_option maxHeartbeats 2000000 in
set_option maxRecDepth 100000 in
theorem pair_Match (s : ByteArray) (p : Int) (hs : s.size ≤ 500000) (w : World) :
    Calls Try.prog 11 #[.string s, .int .i64 p] w fun e w' => e = .returned (resM (mt s.data.toList p)) ∧ Below w.heap.size w w' := by
  have hl := data_len s
  have c1 := Lib.hid (fun w => utf_Place s p (by omega) w)
  cases hp : Utf.place s.data.toList p with
  | false =>
    rw [hp] at c1
    have H := Lib.hid (mt_not hp)
    clear hp
    go_enter Try.func11, Try.ntmps11
    go_wp2_with (go_at_call 16; refine (c1.out _).mono ?_; rintro e w1 ⟨rfl, rfl⟩)
    go_ret2
    exact ⟨by rw [H.out]; rfl, Below.refl _ _⟩
  | true =>
    rw [hp] at c1
    have hM : mt s.data.toList p = _ := if_pos hp
    obtain ⟨n, e, k, rs, u, v, rfl, h1, h2, h3, h4, h5, h6, hu, hv, h7⟩ := part_of hp
    have c2 := Lib.hid (fun w => line_Of s (n : Nat) (by omega) w)
    have c3 := Lib.hid (fun w => line_End s (k : Nat) (by omega) w)
    rw [h3] at c2
    rw [h4] at c3
    have hds : Utf.dec (s.extract n e).data.toList = some ((rs.take v).drop u) := by
      rw [ext_seg, bs_toList, ← hu, ← hv]; exact Line.seg_dec h6 u v
    have hsz : (s.extract n e).size ≤ s.size := by rw [ext_seg, bs_size, seg_length h2]; omega
    have c4 := Lib.hid (fun w => index_brk (s.extract n e) hds (by omega) w)
    rw [show (s.extract n e).data.toList = Pair.part s.data.toList n by rw [ext_seg, bs_toList, h5]] at c4
    rw [Int.toNat_natCast] at hM
    have HB := Lib.hid (And.intro h1 (And.intro h2 hl))
    rw [hl] at h2
    by_cases hi : Lib.indexAny (Pair.part s.data.toList n) brk < 0
    · rw [if_pos hi] at hM
      have H := Lib.hid hM
      clear hM hp h3 h4 h5 h6 hu hv h7 hds hsz
      generalize Lib.indexAny (Pair.part s.data.toList n) brk = i at *
      go_enter Try.func11, Try.ntmps11
      go_wp2_with (first
        | (go_at_call 16; refine (c1.out _).mono ?_; rintro e w1 ⟨rfl, rfl⟩)
        | (go_at_call 27; refine (c2.out _).mono ?_; rintro e w1 ⟨rfl, hb1⟩)
        | (go_at_call 26; refine (c3.out _).mono ?_; rintro e w1 ⟨rfl, hb2⟩)
        | (go_at_call 25; refine (c4.out _).mono ?_; rintro e w1 ⟨rfl, hb3⟩))
      go_ret2
      exact ⟨by rw [H.out]; rfl, (hb1.trans (hb2.mono hb1.size)).trans (hb3.mono (Nat.le_trans hb1.size hb2.size))⟩
    · rw [if_neg hi] at hM
      obtain ⟨i, y, g1, g2, g3⟩ := any_spec hi
      rw [g1, ← Int.natCast_add, Int.toNat_natCast] at hM
      rw [g1] at c4
      have hil := (List.getElem?_eq_some_iff.1 g2).1
      rw [h5, seg_length (by omega)] at hil
      rw [h5, seg_get (by omega)] at g2
      rw [at_, g2, Option.getD_some] at hM
      have hx1 := ext_one g2
      have c5 := Lib.hid (fun w => pair_opener y w)
      rw [← hx1] at c5
      have c6 := Lib.hid (fun w => pair_All s (bs [opn y]) hs w)
      rw [bs_toList] at c6
      have hlen := all_length s.data.toList [opn y]
      rw [hl] at hlen
      generalize all s.data.toList [opn y] = L at *
      have H := Lib.hid hM
      clear hM hp h3 h4 h5 h6 hu hv h7 hds hsz hi g1 g2 g3 hx1
      go_enter Try.func11, Try.ntmps11
      go_wp2_with (first
        | (go_at_call 16; refine (c1.out _).mono ?_; rintro e w1 ⟨rfl, rfl⟩)
        | (go_at_call 27; refine (c2.out _).mono ?_; rintro e w1 ⟨rfl, hb1⟩)
        | (go_at_call 26; refine (c3.out _).mono ?_; rintro e w2 ⟨rfl, hb2⟩)
        | (go_at_call 25; refine (c4.out _).mono ?_; rintro e w3 ⟨rfl, hb3⟩)
        | (go_at_call 28; refine (c5.out _).mono ?_; rintro e w4 ⟨rfl, rfl⟩)
        | (go_at_call 9; refine (c6.out _).mono ?_; rintro e w5 ⟨⟨v, rfl, hr⟩, hb5⟩; obtain ⟨A, cp, rfl⟩ := own_long hr))
      have hP : Pairs w5 A L := Pairs.of_own hr rfl
      have hW : Below w.heap.size w w5 := ((hb1.trans (hb2.mono hb1.size)).trans (hb3.mono (Nat.le_trans hb1.size hb2.size))).trans (hb5.mono (Nat.le_trans hb1.size (Nat.le_trans hb2.size hb3.size)))
      have hs5 := hW.size
      have HP := Lib.hid hP
      have HW := Lib.hid hW
      have HS5 := Lib.hid hs5
      clear hP hW hr hb1 hb2 hb3 hb5 hs5
      go_loopw [36] (fun kv wr => ∃ j : Nat, kv = .int .i64 j ∧ j ≤ L.length ∧ Below w5.heap.size w5 wr ∧ Hid (lk L (n + i) = lk (L.drop j) (n + i))) (fun kv _ => L.length - (intOf kv).toNat)
      case atStart => exact ⟨0, rfl, Nat.zero_le _, Below.refl _ _, rfl⟩
      case round =>
        obtain ⟨j, rfl, hj, hb, HL⟩ := hrel
        have HB2 : Hid (∀ u, Below wr.heap.size wr u → Below w.heap.size w u ∧ Below w5.heap.size w5 u) := fun u h => ⟨HW.out.trans ((hb.trans (h.mono hb.size)).mono HS5.out), hb.trans (h.mono hb.size)⟩
        by_cases hlt : j < L.length
        · obtain ⟨⟨a, b⟩, hx⟩ : ∃ x, L[j]? = some x := ⟨_, List.getElem?_eq_getElem hlt⟩
          obtain ⟨g, rfl, a0, a1⟩ := (HP.out.below hb).at_ hx
          dsimp only at a0 a1
          have hN := (Below.refl wr.heap.size wr).alloc (Nat.le_refl _) (.cells #[.int .i64 (a : Nat), .int .i64 (b : Nat)] 33)
          have HN := Lib.hid (HB2.out _ hN)
          have HX := Lib.hid hx
          by_cases ha : n + i = a
          · have t1 : (((n : Int) + (i : Int)) == (a : Int)) = true := beq_iff_eq.2 (by omega)
            have H2 : Hid (lk L (n + i) = some b) := by show _ = _; rw [HL.out]; exact lk_fst hx ha
            clear hx hN hb HP ha
            go_wp2
            go_ret2
            exact ⟨by rw [H.out, H2.out]; rfl, HN.out.1⟩
          · have t1 : (((n : Int) + (i : Int)) == (a : Int)) = false := beq_eq_false_iff_ne.2 (by omega)
            by_cases hc : n + i = b
            · have t2 : (((n : Int) + (i : Int)) == (b : Int)) = true := beq_iff_eq.2 (by omega)
              have H2 : Hid (lk L (n + i) = some a) := by show _ = _; rw [HL.out]; exact lk_snd hx ha hc
              clear hx hN hb HP ha hc
              go_wp2
              go_ret2
              exact ⟨by rw [H.out, H2.out]; rfl, HN.out.1⟩
            · have t2 : (((n : Int) + (i : Int)) == (b : Int)) = false := beq_eq_false_iff_ne.2 (by omega)
              have H2 : Hid (lk L (n + i) = lk (L.drop (j + 1)) (n + i)) := by show _ = _; rw [HL.out]; exact lk_skip hx ha hc
              clear hx hN hb HP ha hc
              go_wp2
              go_roundw
              case rel => exact ⟨j + 1, by go_num, hlt, HN.out.2, H2⟩
              case measure => simp [intOf]; omega
        · obtain rfl : j = L.length := by omega
          have H2 : Hid (lk L (n + i) = none) := by show _ = _; rw [HL.out, List.drop_eq_nil_of_le (Nat.le_refl _), lk]
          clear HP HL
          go_wp2
          go_ret2
          exact ⟨by rw [H.out, H2.out]; rfl, (HB2.out _ (Below.refl _ _)).1⟩
end Go.Proofs.Ytijjpnppedhfnaa
