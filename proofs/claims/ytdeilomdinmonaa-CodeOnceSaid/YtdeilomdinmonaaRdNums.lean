/-
  What the reader of the program answers when it is asked for a list, for all bytes and all bounds.
-/
import Derived.Test.YtdeilomdinmonaaRefNums
namespace Go.Proofs.Ytdeilomdinmonaa
open Go.RowKit
set_option maxHeartbeats 400000 in
theorem rd_nums_bad {p : Nat} {l : List UInt8} {err n e most : Int} {r : List UInt8} {w : World} (h : Rd p l err w) (hq : rdNum l err = (n, r, e)) (he : e ≠ 0) :
    Calls Try.prog 20 #[.pointer (some ⟨p, 0, none⟩), .int .i64 most] w fun x w' => GotInts w.heap.size [] x w' ∧ Rd p r e w' ∧ w.grownBy w' (some p) := by
  have hL := rd_len_bad (most := most) h hq he
  clear hq h he
  go_enter Try.func20, Try.ntmps20
  go_wp2_with (go_at_call 31; refine hL.mono ?_; rintro x w1 ⟨rfl, hr, hg⟩)
  go_ret
  exact ⟨gotInts_nil _ _, hr, hg⟩
set_option maxHeartbeats 400000 in
theorem rd_nums_over {p : Nat} {l : List UInt8} {err n most : Int} {r : List UInt8} {w : World} (h : Rd p l err w) (hq : rdNum l err = (n, r, 0)) (hm : most < n) :
    Calls Try.prog 20 #[.pointer (some ⟨p, 0, none⟩), .int .i64 most] w fun x w' => GotInts w.heap.size [] x w' ∧ Rd p [] 6 w' ∧ w.grownBy w' (some p) := by
  have hL := rd_len_over (most := most) h hq hm
  clear hq h hm
  go_enter Try.func20, Try.ntmps20
  go_wp2_with (go_at_call 31; refine hL.mono ?_; rintro x w1 ⟨rfl, hr, hg⟩)
  go_ret
  exact ⟨gotInts_nil _ _, hr, hg⟩
set_option maxHeartbeats 800000 in
set_option maxRecDepth 100000 in
theorem rd_nums_ok {p : Nat} {l : List UInt8} {err n most : Int} {r : List UInt8} {w : World} (h : Rd p l err w) (hq : rdNum l err = (n, r, 0)) (hm : n ≤ most) (h0 : 0 ≤ n) (hz : n ≤ 2147483647) :
    Calls Try.prog 20 #[.pointer (some ⟨p, 0, none⟩), .int .i64 most] w fun x w' => GotInts w.heap.size (rdMany n.toNat [] r).1 x w' ∧ Rd p (rdMany n.toNat [] r).2.1 (rdMany n.toNat [] r).2.2 w' ∧ w.grownBy w' (some p) := by
  have hL := rd_len_ok (most := most) h hq hm
  clear hq h
  obtain ⟨R, HR⟩ : ∃ R, Hid (rdMany n.toNat [] r = R) := ⟨_, rfl⟩
  rw [HR.out]
  obtain ⟨i0, hi, hz0, hz1, hz2⟩ := info_parts info_int
  go_enter Try.func20, Try.ntmps20
  go_wp2_with (first
    | (go_at_call 31; refine hL.mono ?_; rintro x w1 ⟨rfl, hr, hg⟩; obtain ⟨c1, c2, s, hr'⟩ := id hr; have k2 := hr'.self.cell 2; simp at k2; have hmx := hr'.max; have hle := hr'.le; unfold maxLen at hmx)
    | (at_make; refine wpList_make_own _ rfl _ _ 22 rfl w.heap.size 3 i0 (.int .i64 0) 1 Try.underlying22 hi hz0 hz1 .i64 .i64 (min n ((r.length : Int) / 4)) (min n ((r.length : Int) / 4)).toNat rfl rfl ?c1 ?c2 ?c3 ?c4 ?_))
  case c1 => omega
  case c2 => rw [hz2]; omega
  case c3 => unfold maxLen; omega
  case c4 => exact hg.size
  intro w2 hown hgrow
  have hG2 : w.grownBy w2 (some p) := gb_trans hg (gb_none _ hgrow)
  have hr2 : Rd p r 0 w2 := hr.below hgrow
  clear hr' k2 hmx hle hr hg hgrow
  go_wp2
  go_loopw [7, 8, 26] (fun v _ i wr => ∃ (a : Option Addr) (c : Nat) (acc : List Int) (l' : List UInt8), v = .slice a acc.length c ∧ i = .int .i64 acc.length ∧ wr.ownsRow w.heap.size 3 1 v acc.length (acc.map (Value.int .i64)) ∧ Rd p l' 0 wr ∧ (acc.length : Int) ≤ n ∧ Hid (rdMany (n.toNat - acc.length) acc l' = R) ∧ w.grownBy wr (some p))
    (fun v _ _ _ => n.toNat - lenOf v)
  case atStart => exact ⟨_, _, [], r, rfl, rfl, hown, hr2, h0, HR, hG2⟩
  case round =>
    obtain ⟨a, c, acc, l', rfl, rfl, hown, hR, hle, HM, hG⟩ := hrel
    clear HR
    by_cases hlt : (acc.length : Int) < n
    · obtain ⟨x, r', e', hq⟩ : ∃ x r' e', rdNum l' 0 = (x, r', e') := ⟨_, _, _, rfl⟩
      have hN2 := rd_num_at hR hq
      have hk : n.toNat - acc.length = (n.toNat - (acc.length + 1)) + 1 := by omega
      have hne : (Value.slice a acc.length c).ownBlock ≠ some p := by
        obtain ⟨c1, c2, s, hr'⟩ := hR
        exact own_blk_ne hown hr'.self (by decide)
      by_cases he : e' = 0
      · subst he
        have HM2 : Hid (rdMany (n.toNat - (acc.length + 1)) (acc ++ [x]) r' = R) := by
          have := HM.out
          rw [hk, rdMany_ok hq] at this
          exact this
        clear HM hq hk
        go_wp2_with (first
          | (go_at_call 15; refine hN2.mono ?_; rintro x w3 ⟨rfl, hr, hg⟩; obtain ⟨c1, c2, s, hr'⟩ := id hr; have k3 := hr'.self.cell 3; simp at k3; have hown2 := hown.kept hg (Or.inr hne))
          | (at_builtin; refine wpList_append_own _ rfl _ _ 22 rfl w.heap.size 3 i0 (.int .i64 0) 1 8 Try.underlying22 hi hz0 hz1 hz2 rfl (by decide) _ _ _ rfl (hown2.alloc _) ⟨w3.heap.size, 0, none⟩ 1 1 [.int .i64 x] rfl rfl ?c1 ?c2 ?c3 ?c4 ?c5 ?_))
        case c1 =>
          intro j u hj
          match j, hj with
          | 0, hj => simp at hj; subst hj; simp [Addr.add]
        case c2 => intro u hu; simp at hu; subst hu; rfl
        case c3 => unfold maxLen; omega
        case c4 => omega
        case c5 => have := hG.size; have := hg.size; simp; omega
        intro v' w4 hown' hgrow _
        have hr4 : Rd p r' 0 w4 := by
          have ha := hr'.grown (World.grownBy_alloc w3 (.cells #[.int .i64 x] 3) none) (by simp) (by simp) (by simp)
          have ho := hown2.alloc (.cells #[.int .i64 x] 3)
          exact ⟨_, _, _, ha.grown hgrow (fun e => own_blk_ne ho ha.self (by decide) e.symm) (fun e => own_blk_ne ho ha.b1 (by decide) e.symm) (fun e => own_blk_ne ho ha.b2 (by decide) e.symm)⟩
        have hG4 : w.grownBy w4 (some p) := gb_own (gb_trans hG (gb_trans hg (World.grownBy_alloc _ _ _))) hgrow (fun k hk => (hown.lt k hk).1)
        obtain ⟨a', c', hv'⟩ := own_shape hown'
        have hown3 : w4.ownsRow w.heap.size 3 1 v' (acc ++ [x]).length ((acc ++ [x]).map (Value.int .i64)) := by simpa using hown'
        clear hown' hgrow hown hown2 hG hg hr hr' k3 hR hN2
        subst hv'
        go_wp2
        go_roundw
        case rel => exact ⟨a', c', acc ++ [x], r', by simp, by simp, hown3, hr4, by simp; omega, by simpa using HM2, hG4⟩
        case measure => simp [lenOf]; omega
      · have HM2 : Hid (R = ([], r', e')) := by
          have := HM.out
          rw [hk, rdMany_bad hq he] at this
          exact this.symm
        have g1 : (e' != 0) = true := by simp [he]
        clear HM hq hk he
        go_wp2_with (go_at_call 15; refine hN2.mono ?_; rintro x w3 ⟨rfl, hr, hg⟩; obtain ⟨c1, c2, s, hr'⟩ := id hr; have k3 := hr'.self.cell 3; simp at k3)
        go_ret
        rw [HM2.out]
        exact ⟨gotInts_nil _ _, hr, gb_trans hG hg⟩
    · have HM2 : Hid (R = (acc, l', 0)) := by
        have := HM.out
        rw [show n.toNat - acc.length = 0 from by omega] at this
        exact this.symm
      clear HM
      go_wp2
      go_ret
      rw [HM2.out]
      exact ⟨⟨_, rfl, hown⟩, hR, hG⟩
theorem rd_nums {p : Nat} {l : List UInt8} {err : Int} {w : World} (most : Int) (h : Rd p l err w) :
    Calls Try.prog 20 #[.pointer (some ⟨p, 0, none⟩), .int .i64 most] w fun x w' => GotInts w.heap.size (rdNums most l err).1 x w' ∧ Rd p (rdNums most l err).2.1 (rdNums most l err).2.2 w' ∧ w.grownBy w' (some p) := by
  have hlow := rdNum_low l err
  obtain ⟨n, r, e, hq⟩ : ∃ n r e, rdNum l err = (n, r, e) := ⟨_, _, _, rfl⟩
  unfold rdNums
  rw [hq] at hlow ⊢
  simp only at hlow ⊢
  by_cases he : e = 0
  · subst he
    rw [if_neg (by simp)]
    by_cases hm : most < n
    · rw [if_pos hm]; exact rd_nums_over h hq hm
    · rw [if_neg hm]
      exact rd_nums_ok h hq (by omega) hlow.1 hlow.2
  · rw [if_pos he]; exact rd_nums_bad h hq he
end Go.Proofs.Ytdeilomdinmonaa
