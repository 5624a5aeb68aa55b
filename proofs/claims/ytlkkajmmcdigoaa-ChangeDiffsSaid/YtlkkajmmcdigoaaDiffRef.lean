/-
  What makes one text of another one, as the document tells it.
-/
import Derived.Test.YtlkkajmmcdigoaaRunes
import Derived.Deep.Slices
import Derived.Deep.Cut
import Derived.Deep.CutRange
namespace Go.Proofs.Ytlkkajmmcdigoaa
open Go.RowKit
open Utf Chg
/-- A slice of a slice's list, from n on. -/
theorem Strs.drop {w : World} {A : Option Addr} {xs : List ByteArray} (h : Strs w A xs) (n : Nat) {c : Nat} (hc : xs.length ≤ c) : Strs w (if c = n then A else A.map (·.add n)) (xs.drop n) := fun h0 => by
  rw [List.length_drop] at h0
  obtain ⟨ad, e, hb, hcell⟩ := h (by omega)
  rw [if_neg (by omega), e]
  refine ⟨ad.add n, rfl, by rw [block_of_add]; exact hb, fun j x hx => ?_⟩
  rw [List.getElem?_drop] at hx
  rw [Go.Deep.add_add]
  exact hcell _ _ hx
/-- A list that a call made, as memory holds it. -/
theorem strs_of {w : World} {B : Nat} {v : Value} {rs : List (List UInt8)} (h : w.ownsRow B 9 1 v rs.length ((rs.map bs).map Value.string)) : ∃ A c, v = .slice A rs.length c ∧ Strs w A (rs.map bs) ∧ rs.length ≤ c := by
  have hl : (rs.map bs).length = rs.length := List.length_map _
  rcases h.2 with ⟨rfl, h2⟩ | ⟨g, cap, cur, rfl, _, _, h5, _⟩
  · exact ⟨none, 0, by rw [h2], fun h0 => by rw [hl] at h0; omega, by omega⟩
  · exact ⟨_, cap, rfl, Strs.of_own (by rw [hl]; exact h) rfl, h5⟩
theorem Strs.take {w : World} {A : Option Addr} {xs : List ByteArray} (h : Strs w A xs) (n : Nat) : Strs w A (xs.take n) := fun h0 => by
  rw [List.length_take] at h0
  obtain ⟨ad, e, hb, hcell⟩ := h (by omega)
  refine ⟨ad, e, hb, fun j x hx => hcell j x ?_⟩
  rw [List.getElem?_take] at hx
  split at hx
  · exact hx
  · cases hx
set_option maxHeartbeats 1000000 in
set_option maxRecDepth 100000 in
theorem ref8_Diff (a b : ByteArray) (ha : a.size ≤ 1000000) (hb : b.size ≤ 1000000) (w : World) :
    Calls Try.prog 15 #[.string a, .string b] w fun e w' => e = .returned (.agg #[.int .i64 (dAt a.data.toList b.data.toList : Nat), .string (bs (dOld a.data.toList b.data.toList)), .string (bs (dOld b.data.toList a.data.toList))]) ∧ Below w.heap.size w w' := by
  have hla := data_len a
  have hlb := data_len b
  have V1 := Lib.hid (fun w => ref_Valid a (by omega) w)
  have V2 := Lib.hid (fun w => ref_Valid b (by omega) w)
  by_cases hab : a.data.toList = b.data.toList
  · have H : Hid (dAt a.data.toList b.data.toList = 0 ∧ dOld a.data.toList b.data.toList = [] ∧ dOld b.data.toList a.data.toList = []) := ⟨dAt_none (Or.inl hab), dOld_none (Or.inl hab), dOld_none (Or.inl hab.symm)⟩
    have g : (a.toList == b.toList) = true := by
      rw [show b = a by rw [← bs_data a, ← bs_data b, hab]]
      exact beq_self_eq_true _
    clear hab
    go_enter Try.func15, Try.ntmps15
    go_wp2
    exact bodyPost_ret (v := .agg #[.int .i64 0, .string ⟨#[]⟩, .string ⟨#[]⟩]) (results_cell_row rfl _ _ w.heap.size 31 #[.int .i64 0, .string ⟨#[]⟩, .string ⟨#[]⟩] (0, 0) _ rfl (Blk.new _ _ _) Try.underlying31 rfl rfl) rfl
      ⟨by rw [H.out.1, H.out.2.1, H.out.2.2]; rfl, (Below.refl _ w).alloc (Nat.le_refl _) _⟩
  · have g : (a.toList == b.toList) = false := by
      refine beq_false_of_ne fun e => hab ?_
      rw [tl_data, tl_data] at e
      exact e
    have CELL : Hid (∀ u, Below (w.alloc (.cells #[.int .i64 0, .string ⟨#[]⟩, .string ⟨#[]⟩] 31)).heap.size (w.alloc (.cells #[.int .i64 0, .string ⟨#[]⟩, .string ⟨#[]⟩] 31)) u → u.cell? ⟨w.heap.size, 0, none⟩ = some (.int .i64 0) ∧ u.cell? ⟨w.heap.size, 1, none⟩ = some (.string ⟨#[]⟩) ∧ u.cell? ⟨w.heap.size, 2, none⟩ = some (.string ⟨#[]⟩) ∧ u.frozen? ⟨w.heap.size, 0, none⟩ = false ∧ u.frozen? ⟨w.heap.size, 1, none⟩ = false ∧ u.frozen? ⟨w.heap.size, 2, none⟩ = false) := fun u hu => by
      have k := (Blk.new w 31 #[.int .i64 0, .string ⟨#[]⟩, .string ⟨#[]⟩]).below hu (by simp)
      exact ⟨k.cell 0, k.cell 1, k.cell 2, k.frozen 0, k.frozen 1, k.frozen 2⟩
    have FIN : Hid (∀ u (i : Int) (s t : ByteArray), Below (w.alloc (.cells #[.int .i64 0, .string ⟨#[]⟩, .string ⟨#[]⟩] 31)).heap.size (w.alloc (.cells #[.int .i64 0, .string ⟨#[]⟩, .string ⟨#[]⟩] 31)) u → Hid (Blk (((u.setCell ⟨w.heap.size, 0, none⟩ (.int .i64 i)).setCell ⟨w.heap.size, 1, none⟩ (.string s)).setCell ⟨w.heap.size, 2, none⟩ (.string t)) w.heap.size 31 #[.int .i64 i, .string s, .string t]) ∧ Hid (Below w.heap.size w (((u.setCell ⟨w.heap.size, 0, none⟩ (.int .i64 i)).setCell ⟨w.heap.size, 1, none⟩ (.string s)).setCell ⟨w.heap.size, 2, none⟩ (.string t)))) := fun u i s t hu => by
      have k := (Blk.new w 31 #[.int .i64 0, .string ⟨#[]⟩, .string ⟨#[]⟩]).below hu (by simp)
      have k5 := ((k.set_ 0 (.int .i64 i)).set_ 1 (.string s)).set_ 2 (.string t)
      have h0 : Below w.heap.size w u := ((Below.refl _ w).alloc (Nat.le_refl _) _).trans (hu.mono (by simp))
      refine ⟨show Blk _ _ _ _ by simpa using k5, ?_⟩
      exact gb_low (gb_own (gb_below (some w.heap.size) h0) (gb_trans (gb_trans (gb_set u w.heap.size 0 (.int .i64 i)) (gb_set _ w.heap.size 1 (.string s))) (gb_set _ w.heap.size 2 (.string t))) (fun i hi => by injection hi with hi; omega)) (Nat.le_refl _)
    cases hx : dec a.data.toList with
    | none =>
      have H : Hid (dAt a.data.toList b.data.toList = 0 ∧ dOld a.data.toList b.data.toList = [] ∧ dOld b.data.toList a.data.toList = []) := ⟨dAt_none (Or.inr (Or.inl hx)), dOld_none (Or.inr (Or.inl hx)), dOld_none (Or.inr (Or.inr hx))⟩
      rw [valid_bad hx] at V1
      clear hab hx
      go_enter Try.func15, Try.ntmps15
      go_wp2_with (first | (go_at_call 25; with_reducible refine (V1.out _).mono ?_; rintro e w1 ⟨rfl, hb1⟩; obtain ⟨k0, k1, k2, z0, z1, z2⟩ := CELL.out _ hb1))
      exact bodyPost_ret (v := .agg #[.int .i64 0, .string ⟨#[]⟩, .string ⟨#[]⟩]) (results_cell_row rfl _ _ w.heap.size 31 #[.int .i64 0, .string ⟨#[]⟩, .string ⟨#[]⟩] (0, 0) _ rfl (FIN.out _ 0 ⟨#[]⟩ ⟨#[]⟩ hb1).1.out Try.underlying31 rfl rfl) rfl
        ⟨by rw [H.out.1, H.out.2.1, H.out.2.2]; rfl, (FIN.out _ 0 ⟨#[]⟩ ⟨#[]⟩ hb1).2.out⟩
    | some x =>
      cases hy : dec b.data.toList with
      | none =>
        have H : Hid (dAt a.data.toList b.data.toList = 0 ∧ dOld a.data.toList b.data.toList = [] ∧ dOld b.data.toList a.data.toList = []) := ⟨dAt_none (Or.inr (Or.inr hy)), dOld_none (Or.inr (Or.inr hy)), dOld_none (Or.inr (Or.inl hy))⟩
        rw [valid_ok hx] at V1
        rw [valid_bad hy] at V2
        clear hab hx hy
        go_enter Try.func15, Try.ntmps15
        go_wp2_with (first
          | (go_at_call 25; with_reducible refine (V1.out _).mono ?_; rintro e w1 ⟨rfl, hb1⟩)
          | (go_at_call 25; with_reducible refine (V2.out _).mono ?_; rintro e w2 ⟨rfl, hb2⟩; have hb3 := hb1.trans (hb2.mono hb1.size); obtain ⟨k0, k1, k2, z0, z1, z2⟩ := CELL.out _ hb3))
        exact bodyPost_ret (v := .agg #[.int .i64 0, .string ⟨#[]⟩, .string ⟨#[]⟩]) (results_cell_row rfl _ _ w.heap.size 31 #[.int .i64 0, .string ⟨#[]⟩, .string ⟨#[]⟩] (0, 0) _ rfl (FIN.out _ 0 ⟨#[]⟩ ⟨#[]⟩ hb3).1.out Try.underlying31 rfl rfl) rfl
          ⟨by rw [H.out.1, H.out.2.1, H.out.2.2]; rfl, (FIN.out _ 0 ⟨#[]⟩ ⟨#[]⟩ hb3).2.out⟩
      | some y =>
        have hab' : b.data.toList ≠ a.data.toList := fun e => hab e.symm
        rw [dAt_some hab hx hy, dOld_some hab hx hy, dOld_some hab' hy hx]
        rw [valid_ok hx] at V1
        rw [valid_ok hy] at V2
        have R1 := Lib.hid (fun w => ref8_runes a hx (by omega) w)
        have R2 := Lib.hid (fun w => ref8_runes b hy (by omega) w)
        go_enter Try.func15, Try.ntmps15
        go_wp2_with (first
          | (go_at_call 25; with_reducible refine (V1.out _).mono ?_; rintro e w1 ⟨rfl, hb1⟩)
          | (go_at_call 25; with_reducible refine (V2.out _).mono ?_; rintro e w2 ⟨rfl, hb2⟩; have hb3 := hb1.trans (hb2.mono hb1.size); clear hb1 hb2)
          | (go_at_call 29; with_reducible refine (R1.out _).mono ?_; rintro e w3 ⟨⟨v, rfl, ho3⟩, hb⟩; have hb4 := hb3.trans (hb.mono hb3.size); obtain ⟨A, c, rfl, hx3, hc3⟩ := strs_of ho3; clear hb ho3)
          | (go_at_call 29; with_reducible refine (R2.out _).mono ?_; rintro e w4 ⟨⟨v, rfl, ho4⟩, hb⟩; have hb5 := hb4.trans (hb.mono hb4.size); obtain ⟨B, d, rfl, hy3, hd3⟩ := strs_of ho4; have hx4 := hx3.below hb; clear hb ho4 hx3))
        have hM1 := cp_le x y
        have hM2 := cp_le' x y
        have hxl : x.length ≤ a.size := by
          have := off_ge hx (Nat.le_refl x.length)
          have := off_in hx x.length
          omega
        have hyl : y.length ≤ b.size := by
          have := off_ge hy (Nat.le_refl y.length)
          have := off_in hy y.length
          omega
        have hxf : x.flatten.length ≤ 1000000 := by rw [← (dec_some hx).2, hla]; exact ha
        have hyf : y.flatten.length ≤ 1000000 := by rw [← (dec_some hy).2, hlb]; exact hb
        have HX := Lib.hid hx4
        have HY := Lib.hid hy3
        clear hx4 hy3 hx hy hab hab' V1 V2 R1 R2
        go_loopw [7] (fun nv wr => ∃ n : Nat, n ≤ cp x y ∧ nv = .int .i64 n ∧ Below w4.heap.size w4 wr) (fun nv _ => cp x y - (intOf nv).toNat)
        case atStart => exact ⟨0, Nat.zero_le _, rfl, Below.refl _ _⟩
        case round =>
          obtain ⟨n, hn, rfl, hW⟩ := hrel
          have hq : ∀ q, Below w4.heap.size w4 (wr.drewN q) := fun q => hW.trans ((below_gb (gb_drewN wr q none)).mono hW.size)
          have both : n < x.length → n < y.length → ∃ ad bd r q, A = some ad ∧ B = some bd ∧ wr.cell? (ad.add n) = some (.string (bs r)) ∧ wr.cell? (bd.add n) = some (.string (bs q)) ∧ ((bs r).toList == (bs q).toList) = decide (n < cp x y) := fun h1 h2 => by
            obtain ⟨ad, rfl, g1⟩ := (HX.out.below hW).at_ (k := n) (by simpa using h1)
            obtain ⟨bd, rfl, g2⟩ := (HY.out.below hW).at_ (k := n) (by simpa using h2)
            refine ⟨ad, bd, x[n], y[n], rfl, rfl, by rw [g1, List.getElem_map], by rw [g2, List.getElem_map], ?_⟩
            rw [bs_tl, bs_tl]
            have := cp_lt hn h1 h2
            apply Bool.eq_iff_iff.2
            simp only [beq_iff_eq, decide_eq_true_eq]
            exact this
          by_cases hlt : n < cp x y
          · obtain ⟨ad, bd, r, q, rfl, rfl, g1, g2, g3⟩ := both (by omega) (by omega)
            rw [decide_eq_true hlt] at g3
            have d1 : decide ((n : Int) < (x.length : Int)) = true := decide_eq_true (by omega)
            have d2 : decide ((n : Int) < (y.length : Int)) = true := decide_eq_true (by omega)
            have d3 : n < x.length := by omega
            have d4 : n < y.length := by omega
            clear both HX HY
            go_wp2
            go_quiet (fail)
            go_wp2
            go_roundw
            case rel => exact ⟨n + 1, hlt, by go_num, hq _⟩
            case measure => simp [intOf]; omega
          · have three : (∃ ad bd r q, A = some ad ∧ B = some bd ∧ wr.cell? (ad.add n) = some (.string (bs r)) ∧ wr.cell? (bd.add n) = some (.string (bs q)) ∧ ((bs r).toList == (bs q).toList) = false ∧ decide ((n : Int) < (x.length : Int)) = true ∧ decide ((n : Int) < (y.length : Int)) = true ∧ n < x.length ∧ n < y.length) ∨ (decide ((n : Int) < (x.length : Int)) = false ∧ ¬ n < x.length) ∨ (decide ((n : Int) < (x.length : Int)) = true ∧ decide ((n : Int) < (y.length : Int)) = false ∧ n < x.length ∧ ¬ n < y.length) := by
              by_cases h1 : n < x.length
              · by_cases h2 : n < y.length
                · obtain ⟨ad, bd, r, q, e1, e2, g1, g2, g3⟩ := both h1 h2
                  exact Or.inl ⟨ad, bd, r, q, e1, e2, g1, g2, by rw [g3, decide_eq_false hlt], decide_eq_true (by omega), decide_eq_true (by omega), h1, h2⟩
                · exact Or.inr (Or.inr ⟨decide_eq_true (by omega), decide_eq_false (by omega), h1, h2⟩)
              · exact Or.inr (Or.inl ⟨decide_eq_false (by omega), h1⟩)
            clear both
            go_upto_region 5 with fail
            go_cut [47] from 27 to 47 (fun v u => v = .bool false ∧ Below w4.heap.size w4 u)
            case first =>
              clear HX HY
              rcases three with ⟨ad, bd, r, q, rfl, rfl, g1, g2, g3, d1, d2, d3, d4⟩ | ⟨d1, d3⟩ | ⟨d1, d2, d3, d4⟩
              all_goals
                go_quiet (fail)
                go_wp2_with fail
                go_meet
                exact ⟨rfl, hq _⟩
            case rest =>
              obtain ⟨rfl, hb6⟩ := hcut
              clear three hq hW
              have HN : Hid (n = cp x y) := by show _ = _; omega
              have G1 : Hid (∀ u, Below w4.heap.size w4 u → Calls Try.prog 30 #[.slice A n c] u fun e w' => e = .returned (.string (bs (x.take n).flatten)) ∧ u = w') := fun u hu => by
                have h1 := (HX.out.below hu).take n
                rw [← List.map_take] at h1
                have h2 := ref8_glue (c := c) h1 (Nat.le_trans (by have := off_le x n; unfold off at this; exact this) (by omega)) (by rw [List.length_take]; omega)
                rw [List.length_take, Nat.min_eq_left (by omega)] at h2
                exact h2
              obtain ⟨GT, hGT⟩ : ∃ GT, bs (x.take n).flatten = GT := ⟨_, rfl⟩
              have hGs : GT.size = off x n := by rw [← hGT, bs_size]; rfl
              rw [hGT] at G1
              clear hGT
              have j1 : n ≤ x.length := by omega
              have j2 : n ≤ y.length := by omega
              go_wp2_with (go_at_call 30; with_reducible refine (G1.out _ hb6).mono ?_; rintro e w7 ⟨rfl, rfl⟩)
              go_quiet (fail)
              have hc1 : (x.map bs).length ≤ c := by rw [List.length_map]; omega
              have hd1 : (y.map bs).length ≤ d := by rw [List.length_map]; omega
              have hb7 : Below w4.heap.size w4 (wc.drewN nq) := hb6.trans ((below_gb (gb_drewN wc nq none)).mono hb6.size)
              have SX := (HX.out.below hb7).drop n hc1
              have SY := (HY.out.below hb7).drop n hd1
              rw [← List.map_drop] at SX SY
              obtain ⟨A1, hA1⟩ : ∃ A1, (if c = n then A else A.map (·.add n)) = A1 := ⟨_, rfl⟩
              obtain ⟨B1, hB1⟩ : ∃ B1, (if d = n then B else B.map (·.add n)) = B1 := ⟨_, rfl⟩
              rw [hA1] at SX
              rw [hB1] at SY
              obtain ⟨X, hX⟩ : ∃ X, x.drop n = X := ⟨_, rfl⟩
              obtain ⟨Y, hY⟩ : ∃ Y, y.drop n = Y := ⟨_, rfl⟩
              have lX : X.length = x.length - n := by rw [← hX, List.length_drop]
              have lY : Y.length = y.length - n := by rw [← hY, List.length_drop]
              have hxf2 : X.flatten.length ≤ 1000000 := by
                have := off_drop x n
                rw [hX] at this
                rw [← this, List.length_drop]; omega
              have hyf2 : Y.flatten.length ≤ 1000000 := by
                have := off_drop y n
                rw [hY] at this
                rw [← this, List.length_drop]; omega
              have ANS : Hid (∀ p q, p + cs X Y = X.length → q + cs X Y = Y.length → off x n = off x (cp x y) ∧ (X.take p).flatten = (mid x y).flatten ∧ (Y.take q).flatten = (mid y x).flatten) := fun p q h1 h2 => by
                have hn := HN.out
                refine ⟨by rw [hn], ?_, ?_⟩
                · rw [mid, ← hn, hX, hY, show p = X.length - cs X Y by omega]
                · rw [mid, cp_comm y x, ← hn, hX, hY, cs_comm Y X, show q = Y.length - cs X Y by omega]
              rw [hX] at SX
              rw [hY] at SY
              have HSX := Lib.hid SX
              have HSY := Lib.hid SY
              have hmx := cs_le X Y
              have hmy := cs_le' X Y
              rw [← lX, ← lY, hA1, hB1]
              have hcX : X.length ≤ c - n := by omega
              have hdY : Y.length ≤ d - n := by omega
              have hX6 : X.length ≤ 1000000 := by omega
              have hY6 : Y.length ≤ 1000000 := by omega
              clear hA1 hB1 hX hY SX SY HX HY hb6 G1 hGs lX lY hc1 hd1 hM1 hM2 hxf hyf HN hn hlt j1 j2
              generalize off x n = O at *
              generalize c - n = c1 at *
              generalize d - n = d1 at *
              generalize wc.drewN nq = w8 at *
              go_wp2_with fail
              go_loopw [5, 6] (fun xv yv wr => ∃ p q k : Nat, p + k = X.length ∧ q + k = Y.length ∧ k ≤ cs X Y ∧ xv = .slice A1 p c1 ∧ yv = .slice B1 q d1 ∧ Below w8.heap.size w8 wr) (fun xv _ _ => lenOf xv)
              case atStart => exact ⟨X.length, Y.length, 0, rfl, rfl, Nat.zero_le _, rfl, rfl, Below.refl _ _⟩
              case round =>
                obtain ⟨p, q, k, hp, hq, hk, rfl, rfl, hW⟩ := hrel
                have hdr : ∀ m, Below w8.heap.size w8 (wr.drewN m) := fun m => hW.trans ((below_gb (gb_drewN wr m none)).mono hW.size)
                have both : ∀ i j, p = i + 1 → q = j + 1 → ∃ ad bd r s, A1 = some ad ∧ B1 = some bd ∧ wr.cell? (ad.add i) = some (.string (bs r)) ∧ wr.cell? (bd.add j) = some (.string (bs s)) ∧ ((bs r).toList == (bs s).toList) = decide (k < cs X Y) := fun i j hi hj => by
                  obtain ⟨ad, rfl, g1⟩ := (HSX.out.below hW).at_ (k := i) (by rw [List.length_map]; omega)
                  obtain ⟨bd, rfl, g2⟩ := (HSY.out.below hW).at_ (k := j) (by rw [List.length_map]; omega)
                  refine ⟨ad, bd, X[i], Y[j], rfl, rfl, by rw [g1, List.getElem_map], by rw [g2, List.getElem_map], ?_⟩
                  rw [bs_tl, bs_tl]
                  have := cs_lt hk (by omega) (by omega)
                  simp only [show X.length - 1 - k = i by omega, show Y.length - 1 - k = j by omega] at this
                  apply Bool.eq_iff_iff.2
                  simp only [beq_iff_eq, decide_eq_true_eq]
                  exact this
                by_cases hlt : k < cs X Y
                · obtain ⟨i, rfl⟩ : ∃ i, p = i + 1 := ⟨p - 1, by omega⟩
                  obtain ⟨j, rfl⟩ : ∃ j, q = j + 1 := ⟨q - 1, by omega⟩
                  obtain ⟨ad, bd, r, s, rfl, rfl, g1, g2, g3⟩ := both i j rfl rfl
                  rw [decide_eq_true hlt] at g3
                  clear both HSX HSY ANS
                  go_wp2
                  go_quiet (fail)
                  go_wp2
                  go_quiet (fail)
                  go_wp2
                  go_roundw
                  case rel => exact ⟨i, j, k + 1, by omega, by omega, hlt, rfl, rfl, by rw [World.drewN_drewN]; exact hdr _⟩
                  case measure => simp [lenOf]
                · have hkm : k = cs X Y := by omega
                  obtain ⟨e1, e2, e3⟩ := ANS.out p q (by omega) (by omega)
                  have G1 : Hid (∀ u, Below w8.heap.size w8 u → Calls Try.prog 30 #[.slice A1 p c1] u fun e w' => e = .returned (.string (bs (X.take p).flatten)) ∧ u = w') := fun u hu => by
                    have h1 := (HSX.out.below hu).take p
                    rw [← List.map_take] at h1
                    have h2 := ref8_glue (c := c1) h1 (Nat.le_trans (by have := off_le X p; unfold off at this; exact this) (by omega)) (by rw [List.length_take]; omega)
                    rw [List.length_take, Nat.min_eq_left (by omega)] at h2
                    exact h2
                  have G2 : Hid (∀ u, Below w8.heap.size w8 u → Calls Try.prog 30 #[.slice B1 q d1] u fun e w' => e = .returned (.string (bs (Y.take q).flatten)) ∧ u = w') := fun u hu => by
                    have h1 := (HSY.out.below hu).take q
                    rw [← List.map_take] at h1
                    have h2 := ref8_glue (c := d1) h1 (Nat.le_trans (by have := off_le Y q; unfold off at this; exact this) (by omega)) (by rw [List.length_take]; omega)
                    rw [List.length_take, Nat.min_eq_left (by omega)] at h2
                    exact h2
                  rw [e2] at G1
                  rw [e3] at G2
                  have E1 := Lib.hid e1
                  clear e1 e2 e3 HSX HSY ANS
                  have three : p = 0 ∨ (∃ i, p = i + 1 ∧ q = 0) ∨ (∃ i j, p = i + 1 ∧ q = j + 1) := by
                    rcases Nat.eq_zero_or_pos p with h1 | h1
                    · exact Or.inl h1
                    · rcases Nat.eq_zero_or_pos q with h2 | h2
                      · exact Or.inr (Or.inl ⟨p - 1, by omega, h2⟩)
                      · exact Or.inr (Or.inr ⟨p - 1, q - 1, by omega, by omega⟩)
                  go_upto_region 9 with fail
                  go_cut [83] from 61 to 83 (fun v u => v = .bool false ∧ Below w8.heap.size w8 u)
                  case first =>
                    clear G1 G2
                    rcases three with rfl | ⟨i, rfl, rfl⟩ | ⟨i, j, rfl, rfl⟩
                    · clear both
                      go_quiet (fail)
                      go_wp2_with fail
                      go_meet
                      exact ⟨rfl, hdr _⟩
                    · clear both
                      go_quiet (fail)
                      go_wp2_with fail
                      go_meet
                      exact ⟨rfl, hdr _⟩
                    · obtain ⟨ad, bd, r, s, rfl, rfl, g1, g2, g3⟩ := both i j rfl rfl
                      rw [decide_eq_false hlt] at g3
                      clear both
                      go_quiet (fail)
                      go_wp2_with fail
                      go_meet
                      exact ⟨rfl, hdr _⟩
                  case rest =>
                    obtain ⟨rfl, hb9⟩ := hcut
                    clear three both hdr hW hkm hlt hk hp hq
                    have hb10 := (hb5.trans ((hb7.trans (hb9.mono hb7.size)).mono hb5.size))
                    obtain ⟨k0, k1, k2, z0, z1, z2⟩ := CELL.out _ hb10
                    obtain ⟨T1, hT1⟩ : ∃ T, bs (mid x y).flatten = T := ⟨_, rfl⟩
                    obtain ⟨T2, hT2⟩ : ∃ T, bs (mid y x).flatten = T := ⟨_, rfl⟩
                    rw [hT1] at G1
                    rw [hT2] at G2
                    have HT1 := Lib.hid hT1
                    have HT2 := Lib.hid hT2
                    clear hT1 hT2
                    go_wp2_with (first
                      | (go_at_call 30; with_reducible refine (G1.out _ hb9).mono ?_; rintro e u1 ⟨rfl, rfl⟩)
                      | (go_at_call 30; with_reducible refine (G2.out _ hb9).mono ?_; rintro e u2 ⟨rfl, rfl⟩))
                    obtain ⟨f1, f2⟩ := FIN.out _ (O : Nat) T1 T2 hb10
                    exact bodyPost_ret (v := .agg #[.int .i64 (O : Nat), .string T1, .string T2]) (results_cell_row rfl _ _ w.heap.size 31 #[.int .i64 (O : Nat), .string T1, .string T2] (0, 0) _ rfl f1.out Try.underlying31 rfl rfl) rfl
                      ⟨by rw [E1.out, ← HT1.out, ← HT2.out], f2.out⟩
end Go.Proofs.Ytlkkajmmcdigoaa
