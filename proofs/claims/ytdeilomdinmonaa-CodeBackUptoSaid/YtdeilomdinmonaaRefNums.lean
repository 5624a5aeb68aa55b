/-
  What the reader of the document answers when it is asked for a list, for all bytes and all bounds.
-/
import Derived.Test.YtdeilomdinmonaaRef
namespace Go.Proofs.Ytdeilomdinmonaa
open Go.RowKit
/-- So many numbers more, behind those of acc. -/
def rdMany : Nat → List Int → List UInt8 → List Int × List UInt8 × Int
  | 0, acc, l => (acc, l, 0)
  | k + 1, acc, l => if (rdNum l 0).2.2 ≠ 0 then ([], (rdNum l 0).2.1, (rdNum l 0).2.2) else rdMany k (acc ++ [(rdNum l 0).1]) (rdNum l 0).2.1
/-- What a reader answers, and where it stands, if it is asked for a list. -/
def rdNums (most : Int) (l : List UInt8) (err : Int) : List Int × List UInt8 × Int :=
  if (rdNum l err).2.2 ≠ 0 then ([], (rdNum l err).2.1, (rdNum l err).2.2)
  else if most < (rdNum l err).1 then ([], [], 6)
  else rdMany (rdNum l err).1.toNat [] (rdNum l err).2.1
theorem rdMany_bad {k : Nat} {acc : List Int} {l r : List UInt8} {n e : Int} (hq : rdNum l 0 = (n, r, e)) (he : e ≠ 0) : rdMany (k + 1) acc l = ([], r, e) := by
  rw [rdMany, hq]; simp only []; rw [if_pos he]
theorem rdMany_ok {k : Nat} {acc : List Int} {l r : List UInt8} {n : Int} (hq : rdNum l 0 = (n, r, 0)) : rdMany (k + 1) acc l = rdMany k (acc ++ [n]) r := by
  rw [rdMany, hq]; simp only []; rw [if_neg (by simp)]
/-- An answer that is a list of these numbers, in memory from block B on. -/
def GotInts (B : Nat) (xs : List Int) (e : Ending) (w' : World) : Prop := ∃ v, e = .returned v ∧ w'.ownsRow B 3 1 v xs.length (xs.map (Value.int .i64))
theorem gotInts_nil (B : Nat) (w' : World) : GotInts B [] (.returned (.slice none 0 0)) w' := ⟨_, rfl, World.ownsRow_nil _ _ _ _⟩
theorem info_int : (Try.prog.info? 3).map (fun i => (i.zero, i.size, i.bytes)) = some (some (.int .i64 0), 1, 8) := by kernel_rfl
set_option maxHeartbeats 400000 in
theorem rq_nums_bad {q : Nat} {l : List UInt8} {err n e most : Int} {r : List UInt8} {w : World} (h : Rq q l err w) (hq : rdNum l err = (n, r, e)) (he : e ≠ 0) :
    Calls Try.prog 21 #[.pointer (some ⟨q, 0, none⟩), .int .i64 most] w fun x w' => GotInts w.heap.size [] x w' ∧ Rq q r e w' ∧ w.grownBy w' (some q) := by
  have hN := rq_num_at h hq
  have g1 : (e != 0) = true := by simp [he]
  clear hq h he
  go_enter Try.func21, Try.ntmps21
  go_wp2_with (go_at_call 16; refine hN.mono ?_; rintro x w1 ⟨rfl, hr, hg⟩; have k1 := hr.self.cell 1; simp at k1)
  go_ret
  exact ⟨gotInts_nil _ _, hr, hg⟩
set_option maxHeartbeats 400000 in
theorem rq_nums_over {q : Nat} {l : List UInt8} {err n most : Int} {r : List UInt8} {w : World} (h : Rq q l err w) (hq : rdNum l err = (n, r, 0)) (hm : most < n) :
    Calls Try.prog 21 #[.pointer (some ⟨q, 0, none⟩), .int .i64 most] w fun x w' => GotInts w.heap.size [] x w' ∧ Rq q [] 6 w' ∧ w.grownBy w' (some q) := by
  have hN := rq_num_at h hq
  clear hq h
  go_enter Try.func21, Try.ntmps21
  go_wp2_with (first | (go_at_call 16; refine hN.mono ?_; rintro x w1 ⟨rfl, hr, hg⟩; have k1 := hr.self.cell 1; simp at k1) | (go_at_call 30; refine (rq_stop hr 6).mono ?_; rintro e w3 ⟨rfl, hr3, hg3⟩))
  go_ret
  exact ⟨gotInts_nil _ _, hr3, gb_trans hg hg3⟩
set_option maxHeartbeats 800000 in
set_option maxRecDepth 100000 in
theorem rq_nums_ok {q : Nat} {l : List UInt8} {err n most : Int} {r : List UInt8} {w : World} (h : Rq q l err w) (hq : rdNum l err = (n, r, 0)) (hm : n ≤ most) (h0 : 0 ≤ n) (hz : n ≤ 2147483647) :
    Calls Try.prog 21 #[.pointer (some ⟨q, 0, none⟩), .int .i64 most] w fun x w' => GotInts w.heap.size (rdMany n.toNat [] r).1 x w' ∧ Rq q (rdMany n.toNat [] r).2.1 (rdMany n.toNat [] r).2.2 w' ∧ w.grownBy w' (some q) := by
  have hN := rq_num_at h hq
  clear hq h
  obtain ⟨R, HR⟩ : ∃ R, Hid (rdMany n.toNat [] r = R) := ⟨_, rfl⟩
  rw [HR.out]
  obtain ⟨i0, hi, hz0, hz1, hz2⟩ := info_parts info_int
  go_enter Try.func21, Try.ntmps21
  go_wp2_with (first | (go_at_call 16; refine hN.mono ?_; rintro x w1 ⟨rfl, hr, hg⟩; have k1 := hr.self.cell 1; simp at k1))
  go_loopw [6, 7] (fun v _ wr => ∃ (a : Option Addr) (c : Nat) (acc : List Int) (l' : List UInt8), v = .slice a acc.length c ∧ wr.ownsRow w.heap.size 3 1 v acc.length (acc.map (Value.int .i64)) ∧ Rq q l' 0 wr ∧ (acc.length : Int) ≤ n ∧ Hid (rdMany (n.toNat - acc.length) acc l' = R) ∧ w.grownBy wr (some q))
    (fun v _ _ => n.toNat - lenOf v)
  case atStart => exact ⟨none, 0, [], r, rfl, World.ownsRow_nil _ _ _ _, hr, h0, HR, hg⟩
  case round =>
    obtain ⟨a, c, acc, l', rfl, hown, hR, hle, HM, hG⟩ := hrel
    clear hr hg k1 HR
    by_cases hlt : (acc.length : Int) < n
    · obtain ⟨x, r', e', hq⟩ : ∃ x r' e', rdNum l' 0 = (x, r', e') := ⟨_, _, _, rfl⟩
      have hN2 := rq_num_at hR hq
      have hk : n.toNat - acc.length = (n.toNat - (acc.length + 1)) + 1 := by omega
      have hne := own_blk_ne hown hR.self (by decide)
      by_cases he : e' = 0
      · subst he
        have HM2 : Hid (rdMany (n.toNat - (acc.length + 1)) (acc ++ [x]) r' = R) := by
          have := HM.out
          rw [hk, rdMany_ok hq] at this
          exact this
        clear HM hq hk
        go_wp2_with (first
          | (go_at_call 16; refine hN2.mono ?_; rintro x w2 ⟨rfl, hr, hg⟩; have k1 := hr.self.cell 1; simp at k1; have hown2 := hown.kept hg (Or.inr hne))
          | (at_builtin; refine wpList_append_own _ rfl _ _ 22 rfl w.heap.size 3 i0 (.int .i64 0) 1 8 Try.underlying22 hi hz0 hz1 hz2 rfl (by decide) _ _ _ rfl (hown2.alloc _) ⟨w2.heap.size, 0, none⟩ 1 1 [.int .i64 x] rfl rfl ?c1 ?c2 ?c3 ?c4 ?c5 ?_))
        case c1 =>
          intro j u hj
          match j, hj with
          | 0, hj => simp at hj; subst hj; simp [Addr.add]
        case c2 => intro u hu; simp at hu; subst hu; rfl
        case c3 => unfold maxLen; omega
        case c4 => omega
        case c5 => have := hG.size; have := hg.size; simp; omega
        intro v' w3 hown' hgrow _
        have hr3 := hr.grown (World.grownBy_alloc w2 (.cells #[.int .i64 x] 3) none) (by simp) |>.grown hgrow (fun e => hne e.symm)
        have hG3 : w.grownBy w3 (some q) := gb_own (gb_trans hG (gb_trans hg (World.grownBy_alloc _ _ _))) hgrow (fun k hk => (hown.lt k hk).1)
        obtain ⟨a', c', hv'⟩ := own_shape hown'
        have hown3 : w3.ownsRow w.heap.size 3 1 v' (acc ++ [x]).length ((acc ++ [x]).map (Value.int .i64)) := by simpa using hown'
        clear hown' hgrow hown hown2 hG hg hr hR hN2
        subst hv'
        go_wp2
        go_roundw
        case rel => exact ⟨a', c', acc ++ [x], r', by simp, hown3, hr3, by simp; omega, by simpa using HM2, hG3⟩
        case measure => simp [lenOf]; omega
      · have HM2 : Hid (R = ([], r', e')) := by
          have := HM.out
          rw [hk, rdMany_bad hq he] at this
          exact this.symm
        have g1 : (e' != 0) = true := by simp [he]
        clear HM hq hk he
        go_wp2_with (go_at_call 16; refine hN2.mono ?_; rintro x w2 ⟨rfl, hr, hg⟩; have k1 := hr.self.cell 1; simp at k1)
        go_ret
        rw [HM2.out]
        exact ⟨gotInts_nil _ _, hr, gb_trans hG hg⟩
    · have HM2 : Hid (R = (acc, l', 0)) := by
        have := HM.out
        rw [show n.toNat - acc.length = 0 from by omega] at this
        exact this.symm
      clear HM
      go_wp2
      go_ret
      rw [HM2.out]
      exact ⟨⟨_, rfl, hown⟩, hR, hG⟩
theorem rq_nums {q : Nat} {l : List UInt8} {err : Int} {w : World} (most : Int) (h : Rq q l err w) :
    Calls Try.prog 21 #[.pointer (some ⟨q, 0, none⟩), .int .i64 most] w fun x w' => GotInts w.heap.size (rdNums most l err).1 x w' ∧ Rq q (rdNums most l err).2.1 (rdNums most l err).2.2 w' ∧ w.grownBy w' (some q) := by
  have hlow := rdNum_low l err
  obtain ⟨n, r, e, hq⟩ : ∃ n r e, rdNum l err = (n, r, e) := ⟨_, _, _, rfl⟩
  unfold rdNums
  rw [hq] at hlow ⊢
  simp only at hlow ⊢
  by_cases he : e = 0
  · subst he
    rw [if_neg (by simp)]
    by_cases hm : most < n
    · rw [if_pos hm]; exact rq_nums_over h hq hm
    · rw [if_neg hm]
      exact rq_nums_ok h hq (by omega) hlow.1 hlow.2
  · rw [if_pos he]; exact rq_nums_bad h hq he
end Go.Proofs.Ytdeilomdinmonaa
