/-
  Bytes take the place of others: put, where the index is not nil and the offsets are right.
-/
import Derived.Test.YtgjppkkifclanaaDoorKeep
import Derived.Test.YtgjppkkifclanaaDoorEndsPut
import Derived.Test.YtgjppkkifclanaaDoorReplaceIAll
import Derived.Deep.DeepCutAuto
namespace Go.Proofs.YtgjppkkifclanaaDoor
open Go.RowKit
set_option maxHeartbeats 4000000 in
set_option maxRecDepth 100000 in
theorem index_put_ok {B p : Nat} {a0 a1 : Value} {t : List UInt8} (i j : Nat) (s : List UInt8) {w : World} (hB : B ≤ w.heap.size) (hBp : B ≤ p) (hp : Blk w p 44 #[a0, a1])
    (h : Sees B (.pointer (some ⟨p, 0, none⟩)) (Ix.ends t) w) (hij : i ≤ j) (hj : j ≤ t.length) (hl : t.length + s.length ≤ 100000000000) :
    Calls Tryd.prog 30 #[.pointer (some ⟨p, 0, none⟩), .int .i64 (i : Nat), .int .i64 (j : Nat), .string (bs s)] w fun e w' => e = .returned (.int .i64 0) ∧ Idx B p (Ix.put t i j s) w' ∧ KeepsI B w w' := by
  have hi : i ≤ t.length := by omega
  have hF := Ix.line_lt hi
  have hK := Ix.line_lt hj
  have hFK := Ix.line_mono (t := t) hij
  have hst := Ix.start_le hi
  have hen := Ix.le_stop hj
  have hel := Ix.ends_le t
  have hlp := Ix.lens_pos s
  have hls := Ix.lens_sum s
  have hss : (bs s).size = s.length := bs_size s
  have hlen : (Ix.ends t).getD ((Ix.ends t).length - 1) 0 = t.length := Ix.getD_of (Ix.ends_last t)
  -- what only looks
  have C0 : Hid (Calls Tryd.prog 11 #[.pointer (some ⟨p, 0, none⟩)] w fun e w' => e = .returned (.int .i64 (t.length : Nat)) ∧ Below w.heap.size w w') := by
    have := index_Len h
    rw [hlen] at this
    exact this
  have C1 : Hid (∀ w1, Below w.heap.size w w1 → Calls Tryd.prog 18 #[.pointer (some ⟨p, 0, none⟩), .int .i64 (i : Nat)] w1 fun e w' => e = .returned (.int .i64 (Ix.line t i : Nat)) ∧ Below w1.heap.size w1 w') := fun w1 hb => by
    have := index_Of (h.below hb) (Ix.ends_sorted t) (i : Nat)
    rw [Ix.ofL_eq, Ix.lineOf, if_neg (by omega), Int.toNat_natCast] at this
    exact this
  have C2 : Hid (∀ w1, Below w.heap.size w w1 → Calls Tryd.prog 18 #[.pointer (some ⟨p, 0, none⟩), .int .i64 (j : Nat)] w1 fun e w' => e = .returned (.int .i64 (Ix.line t j : Nat)) ∧ Below w1.heap.size w1 w') := fun w1 hb => by
    have := index_Of (h.below hb) (Ix.ends_sorted t) (j : Nat)
    rw [Ix.ofL_eq, Ix.lineOf, if_neg (by omega), Int.toNat_natCast] at this
    exact this
  have C3 : Hid (∀ w1, Below w.heap.size w w1 → Calls Tryd.prog 14 #[.pointer (some ⟨p, 0, none⟩), .int .i64 (Ix.line t i : Nat)] w1 fun e w' => e = .returned (.int .i64 (Ix.start t (Ix.line t i) : Nat)) ∧ Below w1.heap.size w1 w') := fun w1 hb => by
    have := index_Start (h.below hb) (Ix.line t i : Nat)
    rw [Ix.startL_eq, Ix.startOf, if_neg (by omega), Int.toNat_natCast] at this
    exact this
  have C4 : Hid (∀ w1, Below w.heap.size w w1 → Calls Tryd.prog 16 #[.pointer (some ⟨p, 0, none⟩), .int .i64 (Ix.line t j : Nat)] w1 fun e w' => e = .returned (.int .i64 (Ix.stop t (Ix.line t j) : Nat)) ∧ Below w1.heap.size w1 w') := fun w1 hb => by
    have := index_End (h.below hb) (Ix.line t j : Nat)
    rw [Ix.endL_eq, Ix.endOf, if_neg (by omega), Int.toNat_natCast] at this
    exact this
  have C5 : Hid (∀ w1, Below w.heap.size w w1 → Calls Tryd.prog 27 #[.pointer (some ⟨p, 0, none⟩)] w1 fun e w' => (∃ v, e = .returned v ∧ Ix.Row B v (Ix.ends t) w') ∧ Below w1.heap.size w1 w') := fun w1 hb => h.held w1 hb
  have CM := Lib.hid (fun w => index_measure s (by omega) w)
  have CL : Hid (∀ (g c : Nat) (w1 : World), Ix.Nums w1 g (Ix.wide (i - Ix.start t (Ix.line t i)) (Ix.stop t (Ix.line t j) - j) (Ix.lens s)) →
      Calls Tryd.prog 23 #[.int .i64 (Ix.start t (Ix.line t i) : Nat), .slice (some ⟨g, 0, none⟩) (Ix.lens s).length c] w1 fun e w' => (∃ v, e = .returned v ∧ Ix.Row w1.heap.size v (Ix.mid t i j s) w') ∧ Below w1.heap.size w1 w') := fun g c w1 hN => by
    have e := Ix.wide_length (i - Ix.start t (Ix.line t i)) (Ix.stop t (Ix.line t j) - j) (Ix.lens s)
    have := index_lay (Ix.start t (Ix.line t i)) g c _ w1 hN (by rw [Ix.wide_sum _ _ _ hlp, e]; omega) (by rw [e]; omega)
    rw [e] at this
    exact this
  have CR : Hid (∀ (v0 : Value) (b g c : Nat) (w1 : World), B ≤ w1.heap.size → Ix.Row B v0 (Ix.ends t) w1 → Ix.Row b (.slice (some ⟨g, 0, none⟩) (Ix.lens s).length c) (Ix.mid t i j s) w1 → v0.ownBlock ≠ some g →
      Calls Tryd.prog 36 #[v0, .int .i64 (Ix.line t i : Nat), .int .i64 ((Ix.line t j : Nat) + 1), .slice (some ⟨g, 0, none⟩) (Ix.lens s).length c] w1 fun e w' =>
        (∃ v, e = .returned v ∧ Ix.Row B v (Ix.half t i j s) w') ∧ w1.grownBy w' v0.ownBlock) := fun v0 b g c w1 hBw hr hm hne => by
    have hml := Ix.mid_length t i j s
    have hm2 : w1.ownsRow b 3 1 (.slice (some ⟨g, 0, none⟩) (Ix.lens s).length c) (Ix.lens s).length (Ix.vals (Ix.mid t i j s)) := by
      have := hm
      unfold Ix.Row at this
      rwa [hml] at this
    obtain ⟨_, hlc, _, _, cur, hg, hcl, hct⟩ := row_of_own hm2
    have := sl_replaceI (Ix.line t i) (Ix.line t j + 1) g (Ix.lens s).length c cur (Ix.vals (Ix.mid t i j s)) w1 hBw hr (by omega) (by omega) hlp (by omega) hne hg (by omega) hct (Ix.vals_one _) (Ix.vals_one _)
    rw [Int.natCast_add] at this
    refine this.mono ?_
    rintro e w' ⟨v, rfl, ho, hgr⟩
    refine ⟨⟨v, rfl, ?_⟩, hgr⟩
    unfold Ix.Row
    rw [Ix.half_length hij hj, Ix.half, Ix.vals_append, Ix.vals_append, Ix.vals_take, Ix.vals_drop]
    exact ho
  -- the lists
  have hlw := Ix.wide_length (i - Ix.start t (Ix.line t i)) (Ix.stop t (Ix.line t j) - j) (Ix.lens s)
  have hhl := Ix.half_length (s := s) hij hj
  have hel1 := Ix.put_ends_length (s := s) hij hj
  have hh0 := Lib.hid (Ix.half_start (s := s) hij hj)
  have hget := Lib.hid (fun k h1 h2 => Ix.half_get (s := s) hij hj (k := k) h1 h2)
  have hwide : Hid (∀ n, (Ix.lens s)[0]? = some n → (Ix.lens s).modify 0 (· + (i - Ix.start t (Ix.line t i))) = (Ix.lens s).set 0 (n + (i - Ix.start t (Ix.line t i)))) := fun n hn => Ix.modify_set _ hn
  have hwide2 : Hid (∀ n, ((Ix.lens s).modify 0 (· + (i - Ix.start t (Ix.line t i))))[(Ix.lens s).length - 1]? = some n → Ix.wide (i - Ix.start t (Ix.line t i)) (Ix.stop t (Ix.line t j) - j) (Ix.lens s) = ((Ix.lens s).modify 0 (· + (i - Ix.start t (Ix.line t i)))).set ((Ix.lens s).length - 1) (n + (Ix.stop t (Ix.line t j) - j))) := fun n hn => Ix.modify_set _ hn
  have hmem : Hid (∀ n ∈ Ix.lens s, n ≤ s.length) := fun n hn => by
    obtain ⟨k, hk⟩ := List.getElem?_of_mem hn
    have h1 := Ix.sum_take hk
    have h2 := Ix.sum_le (Ix.lens s) (k + 1)
    omega
  have hput : Hid (∀ v w', Blk w' p 44 #[.pointer (some ⟨p, 0, none⟩), v] → Ix.Row B v (Ix.ends (Ix.put t i j s)) w' → Idx B p (Ix.put t i j s) w') := fun v w' h1 h2 => ⟨v, hBp, h1, h2⟩
  have hLn : (Ix.lens s).length ≤ s.length + 1 := by omega
  have hml := Ix.mid_length t i j s
  have HP := Lib.hid hp
  clear h hp hlen hls
  generalize Ix.start t (Ix.line t i) = st at *
  generalize Ix.stop t (Ix.line t j) = en at *
  generalize Ix.line t i = F at *
  generalize Ix.line t j = K at *
  generalize Ix.ends (Ix.put t i j s) = E1 at *
  generalize Ix.half t i j s = E0 at *
  generalize Ix.mid t i j s = Mid at *
  generalize Ix.wide (i - st) (en - j) (Ix.lens s) = L2 at *
  generalize Ix.lens s = L at *
  generalize Ix.ends t = E at *
  have d1 : decide ((i : Int) < 0) = false := decide_eq_false (by omega)
  have d2 : decide ((j : Int) < (i : Int)) = false := decide_eq_false (by omega)
  have d3 : decide ((t.length : Int) < (j : Int)) = false := decide_eq_false (by omega)
  go_enter Tryd.func30, Tryd.ntmps30
  go_wp2_with (first
    | (go_at_call 11; with_reducible refine C0.out.mono ?_; rintro e w1 ⟨rfl, hb1⟩)
    | (go_at_call 18; with_reducible refine (C1.out _ hb1).mono ?_; rintro e w2 ⟨rfl, hb2⟩; have hc2 := hb1.trans (hb2.mono hb1.size); clear hb1)
    | (go_at_call 18; with_reducible refine (C2.out _ hc2).mono ?_; rintro e w3 ⟨rfl, hb3⟩; have hc3 := hc2.trans (hb3.mono hc2.size))
    | (go_at_call 14; with_reducible refine (C3.out _ hc3).mono ?_; rintro e w4 ⟨rfl, hb4⟩; have hc4 := hc3.trans (hb4.mono hc3.size))
    | (go_at_call 16; with_reducible refine (C4.out _ hc4).mono ?_; rintro e w5 ⟨rfl, hb5⟩; have hc5 := hc4.trans (hb5.mono hc4.size)))
  refine (CM.out _).mono ?_
  rintro e w6 ⟨⟨v, rfl, hr⟩, hb6⟩
  obtain ⟨g, c, rfl, hbg, hcc, hnn⟩ := hr.nums hlp
  have hc6 := hc5.trans (hb6.mono hc5.size)
  obtain ⟨n0, hn0⟩ : ∃ n, L[0]? = some n := ⟨_, List.getElem?_eq_getElem hlp⟩
  have k0 := hnn.2 0 n0 hn0
  obtain ⟨cs, hblk⟩ := hr.blk
  have f0 := hblk.frozen 0
  have hn0m := hmem.out _ (List.mem_of_getElem? hn0)
  go_upto_region 9 with (fail)
  -- the first length
  have w7e : Hid (Ix.Row w5.heap.size (.slice (some ⟨g, 0, none⟩) L.length c) (L.modify 0 (· + (i - st))) (w6.setCell ⟨g, 0, none⟩ (.int .i64 ((n0 : Int) + ((i : Int) - (st : Int)))))) := by
    have h1 := hr.set 0 (n0 + (i - st))
    rw [← hwide.out n0 hn0, show ((n0 + (i - st) : Nat) : Int) = (n0 : Int) + ((i : Int) - (st : Int)) by omega] at h1
    exact h1
  have hc7 : Below w.heap.size w (w6.setCell ⟨g, 0, none⟩ (.int .i64 ((n0 : Int) + ((i : Int) - (st : Int))))) := hc6.setCell (p := ⟨g, 0, none⟩) (by have := hc5.size; simp; omega) _
  generalize w6.setCell ⟨g, 0, none⟩ (.int .i64 ((n0 : Int) + ((i : Int) - (st : Int)))) = w7 at *
  have hlm : (L.modify 0 (· + (i - st))).length = L.length := by simp
  obtain ⟨n1, hn1⟩ : ∃ n, (L.modify 0 (· + (i - st)))[L.length - 1]? = some n := ⟨_, List.getElem?_eq_getElem (by omega)⟩
  have hn1m : n1 ≤ s.length + i := by
    rw [List.getElem?_modify] at hn1
    obtain ⟨m, hm, rfl⟩ := Option.map_eq_some_iff.1 hn1
    have := hmem.out _ (List.mem_of_getElem? hm)
    split <;> omega
  obtain ⟨g', c', he, _, _, hnn7⟩ := w7e.out.nums (by omega)
  have hgc : g' = g := by injection he with e1; injection e1 with e1; injection e1 with e1; exact e1.symm
  subst hgc
  have k1 := hnn7.2 _ n1 hn1
  obtain ⟨cs7, hblk7⟩ := w7e.out.blk
  have f1 := hblk7.frozen (L.length - 1)
  have i1 : IntKind.i64.wrap ((L.length : Int) - 1) = (L.length : Int) - 1 := by rw [IntKind.wrap_i64]; omega
  have i2 : ((L.length : Int) - 1).toNat = L.length - 1 := by omega
  have i3 : (0 : Int) ≤ (L.length : Int) - 1 := by omega
  have hsum1 : IntKind.i64.wrap ((n1 : Int) + ((en : Int) - (j : Int))) = (n1 : Int) + ((en : Int) - (j : Int)) := by rw [IntKind.wrap_i64]; omega
  clear he hnn hnn7 hr hblk k0 f0
  go_upto_region 10 with (fail)
  -- the last length
  have w8e : Hid (Ix.Row w5.heap.size (.slice (some ⟨g', 0, none⟩) L.length c) L2 (w7.setCell ⟨g', L.length - 1, none⟩ (.int .i64 ((n1 : Int) + ((en : Int) - (j : Int)))))) := by
    have h1 := w7e.out.set (L.length - 1) (n1 + (en - j))
    rw [← hwide2.out n1 hn1, show ((n1 + (en - j) : Nat) : Int) = (n1 : Int) + ((en : Int) - (j : Int)) by omega] at h1
    exact h1
  have hc8 : Below w.heap.size w (w7.setCell ⟨g', L.length - 1, none⟩ (.int .i64 ((n1 : Int) + ((en : Int) - (j : Int))))) := hc7.setCell (p := ⟨g', L.length - 1, none⟩) (by have := hc5.size; simp; omega) _
  generalize w7.setCell ⟨g', L.length - 1, none⟩ (.int .i64 ((n1 : Int) + ((en : Int) - (j : Int)))) = w8 at *
  obtain ⟨g2, c2, he2, _, _, hnn8⟩ := w8e.out.nums (by omega)
  have hg2 : g2 = g' := by injection he2 with e1; injection e1 with e1; injection e1 with e1; exact e1.symm
  subst hg2
  have j1 : (K : Int) + 1 ≤ 1000000000000 := by omega
  clear he2 w7e w8e hblk7 k1 f1 hn1 hn0 hc7 hb6 hb5 hb4 hb3 hb2 hwide hwide2 hmem i1 i2 i3 hsum1
  go_wp2_with (first
    | (go_at_call 27; with_reducible refine (C5.out _ hc8).mono ?_; rintro e w9 ⟨⟨v0, rfl, hr0⟩, hb9⟩; have hc9 := hc8.trans (hb9.mono hc8.size); have hnn9 := hnn8.below hb9)
    | (go_at_call 23; with_reducible refine (CL.out _ _ _ hnn9).mono ?_; rintro e w10 ⟨⟨v1, rfl, hr1⟩, hb10⟩; have hc10 := hc9.trans (hb10.mono hc9.size))
    | fail)
  obtain ⟨g3, c3, hv1, hbg3, _, _⟩ := hr1.nums (by omega)
  rw [hml] at hv1
  subst hv1
  have hr0' := hr0.below hb10
  have hB10 : B ≤ w10.heap.size := Nat.le_trans hB hc10.size
  have hne : v0.ownBlock ≠ some g3 := fun e => by have := (World.ownsRow.lt hr0 _ e).2; omega
  have hp10 := HP.out.below hc10 HP.out.lt
  refine (CR.out v0 _ g3 c3 w10 hB10 hr0' hr1 hne).mono ?_
  rintro e w11 ⟨⟨v2, rfl, hr2⟩, hg11⟩
  have hK11 : Hid (KeepsI B w w11) := (KeepsI.of_below hB hc10).trans (KeepsI.of_own hB10 hr0' hg11)
  have hp11 : Hid (Blk w11 p 44 #[a0, a1]) := hp10.grown hg11 (fun e => own_blk_ne hr0' hp10 (by decide) e.symm)
  obtain ⟨N, hN⟩ : ∃ N, E0.length = N := ⟨_, rfl⟩
  obtain ⟨g4, c4, hv2, hbg4, _, _⟩ := hr2.nums (by omega)
  rw [hN] at hv2
  subst hv2
  rw [hN] at hhl
  rw [← hhl] at hel1
  have hget2 : Hid (∀ k, F + L.length ≤ k → k < N → ∃ z, E0[k]? = some z ∧ j ≤ z ∧ z ≤ t.length ∧ E1[k]? = some (z + s.length - (j - i))) := fun k h1 h2 => hget.out k h1 (by omega)
  have hR11 : Hid (Ix.Row B (.slice (some ⟨g4, 0, none⟩) N c4) (E1.take (F + L.length) ++ E0.drop (F + L.length)) w11) := by
    show Ix.Row _ _ _ _
    rw [hh0.out]
    exact hr2
  have hFL : F + L.length ≤ N := by omega
  have hNb : N ≤ 300000000000 := by omega
  have HN := Lib.hid hN
  have HE := Lib.hid hel1
  clear hget hh0 hr2 hr1 hr0 hr0' hg11 hb10 hb9 hc9 hc8 hc10 hp10 hnn9 hnn8 hhl hN hel1 C0 C1 C2 C3 C4 C5 CM CL CR
  have CK : Hid (∀ (w1 : World), Blk w1 p 44 #[a0, a1] → Calls Tryd.prog 22 #[.pointer (some ⟨p, 0, none⟩), .slice (some ⟨g4, 0, none⟩) N c4] w1 fun e w' => e = .returned (.tuple #[]) ∧ Blk w' p 44 #[.pointer (some ⟨p, 0, none⟩), .slice (some ⟨g4, 0, none⟩) N c4] ∧ w1.grownBy w' (some p)) := fun w1 h => index_keep h
  go_wp2_with (fail)
  go_loopw [15] (fun kk wr => ∃ k : Nat, kk = .int .i64 (k : Nat) ∧ F + L.length ≤ k ∧ k ≤ N ∧ Hid (Ix.Row B (.slice (some ⟨g4, 0, none⟩) N c4) (E1.take k ++ E0.drop k) wr) ∧ Hid (Blk wr p 44 #[a0, a1]) ∧ Hid (KeepsI B w wr))
    (fun kk _ => N - (intOf kk).toNat)
  case atStart => exact ⟨F + L.length, by go_num, Nat.le_refl _, hFL, hR11, hp11, hK11⟩
  case round =>
    obtain ⟨k, rfl, hk1, hk2, HR, HPb, HK⟩ := hrel
    clear hR11 hp11 hK11
    rcases Nat.lt_or_ge k N with hlt | hge
    · obtain ⟨z, hz0, hzj, hzt, hz1⟩ := hget2.out k hk1 hlt
      obtain ⟨hq1, hnc, hnums⟩ := HR.out.at_
      rw [← hq1] at hnc
      clear hq1
      have hcell := hnums.2 k z (Ix.turn_get (by have := HE.out; omega) hz0)
      obtain ⟨cs, hblk⟩ := HR.out.blk
      have hf := hblk.frozen k
      have hgl := hblk.lt
      have e1 : IntKind.i64.wrap ((j : Int) - (i : Int)) = (j : Int) - (i : Int) := by rw [IntKind.wrap_i64]; omega
      have e2 : IntKind.i64.wrap ((s.length : Int) - ((j : Int) - (i : Int))) = (s.length : Int) - ((j : Int) - (i : Int)) := by rw [IntKind.wrap_i64]; omega
      have e3 : IntKind.i64.wrap ((z : Int) + ((s.length : Int) - ((j : Int) - (i : Int)))) = (z : Int) + ((s.length : Int) - ((j : Int) - (i : Int))) := by rw [IntKind.wrap_i64]; omega
      have HR2 : Hid (Ix.Row B (.slice (some ⟨g4, 0, none⟩) N c4) (E1.take (k + 1) ++ E0.drop (k + 1)) (wr.setCell ⟨g4, k, none⟩ (.int .i64 ((z : Int) + ((s.length : Int) - ((j : Int) - (i : Int))))))) := by
        have h1 := HR.out.set k (z + s.length - (j - i))
        rw [Ix.turn_step hz1 (by have := HN.out; omega), show ((z + s.length - (j - i) : Nat) : Int) = (z : Int) + ((s.length : Int) - ((j : Int) - (i : Int))) by omega] at h1
        exact h1
      have hgr := gb_set wr g4 k (.int .i64 ((z : Int) + ((s.length : Int) - ((j : Int) - (i : Int)))))
      have HP2 : Hid (Blk (wr.setCell ⟨g4, k, none⟩ (.int .i64 ((z : Int) + ((s.length : Int) - ((j : Int) - (i : Int)))))) p 44 #[a0, a1]) := HPb.out.grown hgr (fun e => by
        injection e with e
        exact Blk.ne_ HPb.out hblk (by decide) e)
      have HK2 : Hid (KeepsI B w (wr.setCell ⟨g4, k, none⟩ (.int .i64 ((z : Int) + ((s.length : Int) - ((j : Int) - (i : Int))))))) := HK.out.trans (KeepsI.of_row (Nat.le_trans hB HK.out.size) ((World.ownsRow.lt HR.out) g4 rfl).1 hblk (Or.inr rfl) rfl hgr)
      clear HR HPb HK hnums hblk hz0 hz1 hgr
      go_wp2
      go_roundw
      case rel => exact ⟨k + 1, by go_num, by omega, hlt, HR2, HP2, HK2⟩
      case measure => simp [intOf]; omega
    · obtain rfl : k = N := by omega
      have HRe := HR.out
      rw [List.take_of_length_le (by have := HE.out; omega), List.drop_eq_nil_of_le (by have := HN.out; omega), List.append_nil] at HRe
      have HR3 := Lib.hid HRe
      clear HRe HR hget2
      go_wp2_with (go_at_call 22; refine (CK.out _ HPb.out).mono ?_; rintro e w13 ⟨rfl, hp13, hg13⟩)
      go_ret
      refine ⟨rfl, hput.out _ _ hp13 (HR3.out.kept hg13 (Or.inr (own_blk_ne HR3.out HPb.out (by decide)))), HK.out.trans (KeepsI.of_row (Nat.le_trans hB HK.out.size) hBp HPb.out (Or.inl rfl) rfl hg13)⟩
end Go.Proofs.YtgjppkkifclanaaDoor
