/-
  The document's answer on where finds of the kind 84 lead.
-/
import Derived.Test.YtkhihmkpmlokiaaSeekRefGo
namespace Go.Proofs.Ytkhihmkpmlokiaa
open Go.RowKit
set_option maxHeartbeats 2000000 in
set_option maxRecDepth 100000 in
theorem ref16_Go_bigT_lo (s : ByteArray) (p : Int) (r : ByteArray) (n : Int) (hs : s.size ≤ 1000000000000) (hn : n < 1) (hR : Seek.right 84 r.data.toList = true) (hP : Utf.place s.data.toList p = true) (w : World) :
    Calls Try.prog 9 #[.string s, .int .i64 p, findV 84 r, .int .i64 n] w fun e w' => e = .returned (Seek.res (Seek.goV s.data.toList p 84 r.data.toList n)) ∧ Below w.heap.size w w' := by
  have h0 := find_new w 84 r
  have hl := data_len s
  have CR := Lib.hid (fun w => ref16_Right 84 r w)
  have CP := Lib.hid (fun w => ref_Place s p (by omega) w)
  have CO := Lib.hid (fun w => ref4_Of s p (by omega) w)
  have CS := Lib.hid (fun w => ref4_Start s (Line.of_ s.data.toList p) (by omega) w)
  have CE := Lib.hid (fun w => ref4_End s (Line.of_ s.data.toList p) (by omega) w)
  obtain ⟨hkd, h1, h10⟩ := Seek.right_iff.1 hR
  obtain ⟨rs, c, k', i, m, j, x, I⟩ := Seek.in_of hP r.data.toList (Utf.one_ne h1)
  have b1 := I.oi
  have b2 := I.oj
  have b4 := I.le
  have CU := Lib.hid (fun (u : Nat) w => ref_Rune s (Utf.off rs u : Int) (by omega) w)
  have CN := Lib.hid (fun (u : Nat) (hu : u < j) w => by
    have := ref_Next s (Utf.off rs u : Int) (by omega) w
    rw [Utf.next_at I.dec (by have := I.jl; omega)] at this
    exact this)
  obtain ⟨G, hG⟩ : ∃ G : Nat → List Int, G = Seek.got s.data.toList r.data.toList rs false x.1 p := ⟨_, rfl⟩
  have G0 : Hid (G i = []) := by show _ = _; rw [hG]; exact Seek.got_start _ _ _ b1 p
  have GL : Hid (∀ u, (G u).length ≤ s.size) := fun u => by rw [hG, ← hl]; exact Seek.got_length _ I.dec _ _ _ _
  have GA : Hid (∀ u, i ≤ u → u < j → x.1 ≤ Utf.off rs u ∧ u < rs.length ∧ Utf.off rs u < x.2 ∧ Utf.off rs u < Utf.off rs (u + 1) ∧ Utf.off rs (u + 1) ≤ s.size) := fun u g1 g2 => by
    have e1 := Utf.off_mono (rs := rs) g1
    have e2 := Utf.off_lt (Utf.dec_some I.dec).1 g2 I.jl
    have e3 := Utf.off_lt (Utf.dec_some I.dec).1 (Nat.lt_succ_self u) (by have := I.jl; omega)
    have e4 := Utf.off_in I.dec (u + 1)
    have := I.jl
    exact ⟨by omega, by omega, by omega, e3, by omega⟩
  have GS : Hid (∀ u, i ≤ u → u < j → Utf.rune s.data.toList (Utf.off rs u : Int) ≠ r.data.toList → G (u + 1) = G u) := fun u g1 g2 h => by
    obtain ⟨e1, e2, _⟩ := GA.out u g1 g2
    rw [hG]; exact Seek.got_skip I.dec h1 _ e1 e2 p h
  have GT : Hid (∀ u, i ≤ u → u < j → Utf.rune s.data.toList (Utf.off rs u : Int) = r.data.toList → G (u + 1) = if (Utf.off rs u : Int) < p then (Utf.off rs u : Int) :: G u else G u) := fun u g1 g2 h => by
    obtain ⟨e1, e2, _⟩ := GA.out u g1 g2
    rw [hG]; exact Seek.got_back I.dec h1 e1 e2 p h
  have GX : Hid (Seek.side (Seek.ons 84) (Seek.lh s.data.toList r.data.toList p) p = G j) := by
    show _ = _
    rw [hG, Seek.got, I.oj, I.lh]; rfl
  have LN := Lib.hid (fun (xs : List Int) (h : Seek.side (Seek.ons 84) (Seek.lh s.data.toList r.data.toList p) p = xs) => Seek.last_no (n := n) hR hP h)
  have LA := Lib.hid (fun (xs : List Int) (h : Seek.side (Seek.ons 84) (Seek.lh s.data.toList r.data.toList p) p = xs) => Seek.last_at (n := n) hR hP h)
  have CB := Lib.hid (fun (q : Int) w => ref_Next s q (by omega) w)
  have OI : Hid (Utf.off rs i ≤ s.size) := by show _ ≤ _; have := Utf.off_in I.dec i; omega
  have hij : Hid (i ≤ j) := Nat.le_trans I.im I.mj
  rw [hR] at CR
  rw [hP] at CP
  rw [I.start, ← b1] at CS
  rw [I.stop] at CE
  have hoj : Hid (Utf.off rs j = x.2) := b2
  have gn : decide (n < 1) = true := by simp; omega
  have hN : Hid (max n 1 = 1) := by show _ = _; omega
  obtain ⟨info, hi, hz0, hz1, hz2⟩ := info_parts info_int
  clear hR hP hkd h1 h10 I b1 b2 b4 hG hn
  obtain ⟨y, z⟩ := x
  simp only [] at CS CE GA hoj
  generalize Line.of_ s.data.toList p = ln at *
  generalize Seek.goV s.data.toList p 84 r.data.toList n = V at *
  have CELL : Hid (∀ u, Below (w.alloc (findO 84 r)).heap.size (w.alloc (findO 84 r)) u → u.cell? ⟨w.heap.size, 0, none⟩ = some (.int .i64 84) ∧ u.cell? ⟨w.heap.size, 1, none⟩ = some (.string r)) := fun u h => find_after h
  obtain ⟨c0, c1⟩ := CELL.out _ (Below.refl _ _)
  have hX := Below.refl (w.alloc (findO 84 r)).heap.size (w.alloc (findO 84 r))
  have hWs : (w.alloc (findO 84 r)).heap.size = w.heap.size + 1 := by simp
  have hBB := Lib.hid hWs
  clear hWs
  go_enter Try.func9, Try.ntmps9
  go_wp2_with fail
  refine (CR.out _).mono ?_
  rintro e w1 ⟨rfl, hb1⟩
  replace hX := below_onr hX hb1
  obtain ⟨c0, c1⟩ := CELL.out _ hX
  clear hb1
  go_wp2_with fail
  refine (CP.out _).mono ?_
  rintro e w2 ⟨rfl, hb2⟩
  replace hX := below_onr hX hb2
  obtain ⟨c0, c1⟩ := CELL.out _ hX
  clear hb2
  go_wp2_with fail
  refine (CO.out _).mono ?_
  rintro e w3 ⟨rfl, hb3⟩
  replace hX := below_onr hX hb3
  obtain ⟨c0, c1⟩ := CELL.out _ hX
  clear hb3
  go_wp2_with fail
  refine (CS.out _).mono ?_
  rintro e w4 ⟨rfl, hb4⟩
  replace hX := below_onr hX hb4
  obtain ⟨c0, c1⟩ := CELL.out _ hX
  clear hb4
  go_wp2
  go_loopw [11, 12] (fun v qv wr => ∃ (A : Option Addr) (cc u q : Nat) (xs : List Int), v = .slice A xs.length cc ∧ wr.ownsRow (w.heap.size + 1) 3 1 (.slice A xs.length cc) xs.length (xs.map (Value.int .i64)) ∧ qv = .int .i64 q ∧ Hid (Seek.At rs G i j u q xs) ∧ Hid (Seek.Void A cc xs) ∧ q ≤ s.size ∧ Below (w.alloc (findO 84 r)).heap.size (w.alloc (findO 84 r)) wr)
    (fun _ qv _ => s.size - (intOf qv).toNat)
  case atStart => exact ⟨none, 0, i, Utf.off rs i, [], rfl, World.ownsRow_nil _ _ _ _, rfl, ⟨Nat.le_refl _, hij.out, rfl, G0.out.symm⟩, fun _ => ⟨rfl, rfl⟩, OI.out, hX⟩
  case round =>
    clear hX c0 c1
    obtain ⟨A, cc, u, q, xs, rfl, hown, rfl, HA, HV, hqs, hX⟩ := hrel
    obtain ⟨c0, c1⟩ := CELL.out _ hX
    obtain ⟨i1, i2, i3, i4⟩ := HA.out
    have hxl : xs.length ≤ s.size := by rw [i4]; exact GL.out u
    by_cases huj : u < j
    · obtain ⟨a1, a2, a3, a4, a5⟩ := GA.out u i1 huj
      rw [← i3] at a1 a3 a4
      have CUU := Lib.hid (CU.out u)
      have CNN := Lib.hid (CN.out u huj)
      have GSS := Lib.hid (GS.out u i1 huj)
      have GTT := Lib.hid (GT.out u i1 huj)
      rw [← i3] at CUU CNN GSS GTT
      obtain ⟨q2, hq2⟩ : ∃ q2, Utf.off rs (u + 1) = q2 := ⟨_, rfl⟩
      rw [hq2] at CNN a4 a5
      rw [← i4] at GSS GTT
      have gq : decide ((q : Int) < (z : Int)) = true := by simp; omega
      have ga : (q : Int) < (z : Int) := by omega
      have H2 : Hid (∀ ys, ys = G (u + 1) → Seek.At rs G i j (u + 1) q2 ys) := fun ys h => ⟨by omega, huj, hq2.symm, h⟩
      have hm : Hid (s.size - q2 < s.size - q) := by show _ < _; omega
      have hq2s : q2 ≤ s.size := a5
      obtain ⟨R, hRR⟩ : ∃ R, Utf.rune s.data.toList (q : Int) = R := ⟨_, rfl⟩
      rw [hRR] at CUU GSS GTT
      by_cases hru : R = r.data.toList
      · have E := (text_alike hru).1
        have GT2 := Lib.hid (GTT.out hru)
        clear GSS GTT hru i1 i2 i3 i4 huj a1 a2 a3 a4 a5 hq2 hRR HA
        generalize bs R = RR at *
        by_cases hsd : (q : Int) < p
        · have gs : decide ((q : Int) < p) = true := by simp [hsd]
          have GT3 : Hid (G (u + 1) = (q : Int) :: xs) := by show _ = _; rw [GT2.out, if_pos hsd]
          have hsd := Lib.hid hsd
          clear GT2
          go_wp2_with fail
          refine (CE.out _).mono ?_
          rintro e w5 ⟨rfl, hb5⟩
          replace hX := below_onr hX hb5
          replace hown := own_below hown hb5
          obtain ⟨c0, c1⟩ := CELL.out _ hX
          clear hb5
          go_wp2_with fail
          go_region_held3 (fun u => u.cell? ⟨w.heap.size, 0, none⟩ = some (.int .i64 84) ∧ u.cell? ⟨w.heap.size, 1, none⟩ = some (.string r)) (first | (with_reducible exact ⟨by assumption, by assumption⟩) | go_keep)
            (first
              | (go_at_call 27; with_reducible refine (CUU.out _).mono ?_; rintro e w6 ⟨rfl, hb6⟩; (first | (with_reducible replace hX := below_onr hX hb6; replace hown := own_below hown hb6) | (with_reducible replace hX := below_onrd hX hb6; replace hown := own_belowd hown hb6)); obtain ⟨c0, c1⟩ := CELL.out _ hX))
          have hR6 := hX.size
          rw [hBB.out] at hR6
          by_cases hxe : xs = []
          · obtain ⟨rfl, rfl⟩ := HV.out hxe
            subst hxe
            clear hown HV
            go_wp2_with (at_builtin; refine wpList_append_own_none _ rfl _ _ 36 rfl (w.heap.size + 1) 3 info 1 Try.underlying36 hi (.slice (some ⟨w6.heap.size, 0, none⟩) 1 1) 1 [.int .i64 (q : Int)] rfl (World.ownsRow_lit w6 #[.int .i64 (q : Int)] 1 (by omega) (by decide) rfl) rfl ?_)
            have hown4 : (w6.alloc (.cells #[.int .i64 (q : Int)] 3)).ownsRow (w.heap.size + 1) 3 1 (.slice (some ⟨w6.heap.size, 0, none⟩) 1 1) [(q : Int)].length ([(q : Int)].map (Value.int .i64)) := World.ownsRow_lit w6 #[.int .i64 (q : Int)] 1 (by omega) (by decide) rfl
            have hX7 := hX.alloc hX.size (.cells #[.int .i64 (q : Int)] 3)
            generalize w6.alloc (.cells #[.int .i64 (q : Int)] 3) = w7 at *
            clear hX hR6
            go_wp2_with fail
            refine (CNN.out _).mono ?_
            rintro e w9 ⟨rfl, hb9⟩
            have hX9 := below_onr hX7 hb9
            have hown9 := own_below hown4 hb9
            clear hb9
            go_wp2
            go_roundw
            case rel => exact ⟨_, _, u + 1, q2, [(q : Int)], rfl, hown9, by go_num, H2.out _ (GT3.out.symm), Seek.void_of (by simp), hq2s, hX9⟩
            case measure => have := hm.out; simp [intOf]; omega
          · obtain ⟨g, rfl⟩ := own_some hown (by rw [Ne, List.length_eq_zero_iff]; exact hxe)
            clear hxe HV
            go_wp2_with (at_builtin; refine wpList_append_own _ rfl _ _ 36 rfl (w.heap.size + 1) 3 info (.int .i64 0) 1 8 Try.underlying36 hi hz0 hz1 hz2 rfl (by decide) (.slice (some ⟨w6.heap.size, 0, none⟩) 1 1) 1 [.int .i64 (q : Int)] rfl (World.ownsRow_lit w6 #[.int .i64 (q : Int)] 1 (by omega) (by decide) rfl) ⟨g, 0, none⟩ xs.length cc (xs.map (Value.int .i64)) rfl (by simp) ((hown.alloc _).cells rfl) (int_cells xs) (by unfold maxLen; omega) (by omega) (by simp; omega) ?_)
            intro v' w7 hown' hgrow _
            have hX7 : Below (w.alloc (findO 84 r)).heap.size (w.alloc (findO 84 r)) w7 := (hX.alloc hX.size _).grown hgrow (by rw [hBB.out]; simp; omega) (fun b hg => by rw [hBB.out]; have : w6.heap.size = b := (by simpa [Value.ownBlock] using hg); omega)
            obtain ⟨ys, hys⟩ : ∃ ys, Hid ((q : Int) :: xs = ys) := ⟨_, rfl⟩
            have hown4 : w7.ownsRow (w.heap.size + 1) 3 1 v' ys.length (ys.map (Value.int .i64)) := by rw [← hys.out]; simpa [Nat.add_comm] using hown'
            have hyne : Hid (ys ≠ []) := by show _ ≠ _; rw [← hys.out]; simp
            rw [hys.out] at GT3
            obtain ⟨c0, c1⟩ := CELL.out _ hX7
            obtain ⟨a', c', hv'⟩ := own_shape hown4
            clear hown' hgrow hown hX hR6 hys
            subst hv'
            go_wp2_with fail
            refine (CNN.out _).mono ?_
            rintro e w9 ⟨rfl, hb9⟩
            have hX9 := below_onr hX7 hb9
            have hown9 := own_below hown4 hb9
            clear hb9
            go_wp2
            go_roundw
            case rel => exact ⟨a', c', u + 1, q2, ys, rfl, hown9, by go_num, H2.out _ (GT3.out.symm), Seek.void_of hyne.out, hq2s, hX9⟩
            case measure => have := hm.out; simp [intOf]; omega
        · have gs : decide ((q : Int) < p) = false := by simp; omega
          have GT3 : Hid (G (u + 1) = xs) := by show _ = _; rw [GT2.out, if_neg hsd]
          have hsd := Lib.hid hsd
          clear GT2
          go_wp2_with fail
          refine (CE.out _).mono ?_
          rintro e w5 ⟨rfl, hb5⟩
          replace hX := below_onr hX hb5
          replace hown := own_below hown hb5
          obtain ⟨c0, c1⟩ := CELL.out _ hX
          clear hb5
          go_wp2_with fail
          go_region_held3 (fun u => u.cell? ⟨w.heap.size, 0, none⟩ = some (.int .i64 84) ∧ u.cell? ⟨w.heap.size, 1, none⟩ = some (.string r)) (first | (with_reducible exact ⟨by assumption, by assumption⟩) | go_keep)
            (first
              | (go_at_call 27; with_reducible refine (CUU.out _).mono ?_; rintro e w6 ⟨rfl, hb6⟩; (first | (with_reducible replace hX := below_onr hX hb6; replace hown := own_below hown hb6) | (with_reducible replace hX := below_onrd hX hb6; replace hown := own_belowd hown hb6)); obtain ⟨c0, c1⟩ := CELL.out _ hX))
          go_wp2_with fail
          refine (CNN.out _).mono ?_
          rintro e w9 ⟨rfl, hb9⟩
          have hX9 := below_onr hX hb9
          have hown9 := own_below hown hb9
          clear hb9
          go_wp2
          go_roundw
          case rel => exact ⟨A, cc, u + 1, q2, xs, rfl, hown9, by go_num, H2.out _ (GT3.out.symm), HV, hq2s, hX9⟩
          case measure => have := hm.out; simp [intOf]; omega
      · have E := (text_differs hru).1
        have GT3 := Lib.hid (GSS.out hru)
        clear GSS GTT hru i1 i2 i3 i4 huj a1 a2 a3 a4 a5 hq2 hRR HA
        generalize bs R = RR at *
        go_wp2_with fail
        refine (CE.out _).mono ?_
        rintro e w5 ⟨rfl, hb5⟩
        replace hX := below_onr hX hb5
        replace hown := own_below hown hb5
        obtain ⟨c0, c1⟩ := CELL.out _ hX
        clear hb5
        go_wp2_with fail
        go_region_held3 (fun u => u.cell? ⟨w.heap.size, 0, none⟩ = some (.int .i64 84) ∧ u.cell? ⟨w.heap.size, 1, none⟩ = some (.string r)) (first | (with_reducible exact ⟨by assumption, by assumption⟩) | go_keep)
          (first
            | (go_at_call 27; with_reducible refine (CUU.out _).mono ?_; rintro e w6 ⟨rfl, hb6⟩; (first | (with_reducible replace hX := below_onr hX hb6; replace hown := own_below hown hb6) | (with_reducible replace hX := below_onrd hX hb6; replace hown := own_belowd hown hb6)); obtain ⟨c0, c1⟩ := CELL.out _ hX))
        go_wp2_with fail
        refine (CNN.out _).mono ?_
        rintro e w9 ⟨rfl, hb9⟩
        have hX9 := below_onr hX hb9
        have hown9 := own_below hown hb9
        clear hb9
        go_wp2
        go_roundw
        case rel => exact ⟨A, cc, u + 1, q2, xs, rfl, hown9, by go_num, H2.out _ (GT3.out.symm), HV, hq2s, hX9⟩
        case measure => have := hm.out; simp [intOf]; omega
    · have huj : u = j := by omega
      subst huj
      have hqz : (q : Int) = (z : Int) := by rw [i3, hoj.out]
      have gq : decide ((q : Int) < (z : Int)) = false := by simp; omega
      have ga : ¬ (q : Int) < (z : Int) := by omega
      have hsx : Seek.side (Seek.ons 84) (Seek.lh s.data.toList r.data.toList p) p = xs := by rw [i4]; exact GX.out
      have LN1 := LN.out xs hsx
      have LA1 := LA.out xs hsx
      rw [hN.out] at LN1 LA1
      clear LN LA GX GS GT GL GA G0 CU CN CS hsx i1 i2 i3 i4 HA hqz
      by_cases hlen : (xs.length : Int) < 1
      · have hv := LN1 (by omega)
        have gl : decide ((xs.length : Int) < 1) = true := by simp [hlen]
        clear LN1 LA1
        have hx0 : xs = [] := List.eq_nil_of_length_eq_zero (by omega)
        obtain ⟨rfl, rfl⟩ := HV.out hx0
        subst hx0
        clear hlen gl HV hxl
        go_wp2_with fail
        refine (CE.out _).mono ?_
        rintro e w5 ⟨rfl, hb5⟩
        replace hX := below_onr hX hb5
        go_wp2
        go_ret2
        exact ⟨by rw [Seek.res_no hv]; rfl, h0.trans (hX.mono h0.size)⟩
      · obtain ⟨Q, hQ, Q0, Q1, hV0, hVe⟩ := LA1 (by omega)
        have gl : decide ((xs.length : Int) < 1) = false := by simp; omega
        obtain ⟨g, rfl⟩ := own_some hown (by omega)
        have CBQ := CB.out Q
        rw [show Utf.next s.data.toList Q = V from hVe.symm] at CBQ
        have CBQ := Lib.hid CBQ
        rw [show ((1 : Int) - 1).toNat = 0 from rfl] at hQ
        have hcc := own_cap hown
        go_wp2_with fail
        refine (CE.out _).mono ?_
        rintro e w5 ⟨rfl, hb5⟩
        replace hX := below_onr hX hb5
        replace hown := own_below hown hb5
        obtain ⟨c0, c1⟩ := CELL.out _ hX
        have e1 := hown.cells (g := g) rfl 0 (.int .i64 Q) (by rw [List.getElem?_map, hQ]; rfl)
        have e2 : w5.cell? ⟨g, 0, none⟩ = some (.int .i64 Q) := by rw [← e1, add_at]
        have hlp : 0 < xs.length := by omega
        clear LN1 LA1 hb5 hQ hVe
        go_wp2_with fail
        refine (CBQ.out _).mono ?_
        rintro e w6 ⟨rfl, hb6⟩
        replace hX := below_onr hX hb6
        obtain ⟨c0, c1⟩ := CELL.out _ hX
        clear e1 e2
        go_wp2
        go_ret2
        exact ⟨by rw [Seek.res_at hV0]; rfl, h0.trans (hX.mono h0.size)⟩
set_option maxHeartbeats 2000000 in
set_option maxRecDepth 100000 in
theorem ref16_Go_bigT_hi (s : ByteArray) (p : Int) (r : ByteArray) (n : Int) (hs : s.size ≤ 1000000000000) (hn : 1 ≤ n ∧ n ≤ 9223372036854775807) (hR : Seek.right 84 r.data.toList = true) (hP : Utf.place s.data.toList p = true) (w : World) :
    Calls Try.prog 9 #[.string s, .int .i64 p, findV 84 r, .int .i64 n] w fun e w' => e = .returned (Seek.res (Seek.goV s.data.toList p 84 r.data.toList n)) ∧ Below w.heap.size w w' := by
  have h0 := find_new w 84 r
  have hl := data_len s
  have CR := Lib.hid (fun w => ref16_Right 84 r w)
  have CP := Lib.hid (fun w => ref_Place s p (by omega) w)
  have CO := Lib.hid (fun w => ref4_Of s p (by omega) w)
  have CS := Lib.hid (fun w => ref4_Start s (Line.of_ s.data.toList p) (by omega) w)
  have CE := Lib.hid (fun w => ref4_End s (Line.of_ s.data.toList p) (by omega) w)
  obtain ⟨hkd, h1, h10⟩ := Seek.right_iff.1 hR
  obtain ⟨rs, c, k', i, m, j, x, I⟩ := Seek.in_of hP r.data.toList (Utf.one_ne h1)
  have b1 := I.oi
  have b2 := I.oj
  have b4 := I.le
  have CU := Lib.hid (fun (u : Nat) w => ref_Rune s (Utf.off rs u : Int) (by omega) w)
  have CN := Lib.hid (fun (u : Nat) (hu : u < j) w => by
    have := ref_Next s (Utf.off rs u : Int) (by omega) w
    rw [Utf.next_at I.dec (by have := I.jl; omega)] at this
    exact this)
  obtain ⟨G, hG⟩ : ∃ G : Nat → List Int, G = Seek.got s.data.toList r.data.toList rs false x.1 p := ⟨_, rfl⟩
  have G0 : Hid (G i = []) := by show _ = _; rw [hG]; exact Seek.got_start _ _ _ b1 p
  have GL : Hid (∀ u, (G u).length ≤ s.size) := fun u => by rw [hG, ← hl]; exact Seek.got_length _ I.dec _ _ _ _
  have GA : Hid (∀ u, i ≤ u → u < j → x.1 ≤ Utf.off rs u ∧ u < rs.length ∧ Utf.off rs u < x.2 ∧ Utf.off rs u < Utf.off rs (u + 1) ∧ Utf.off rs (u + 1) ≤ s.size) := fun u g1 g2 => by
    have e1 := Utf.off_mono (rs := rs) g1
    have e2 := Utf.off_lt (Utf.dec_some I.dec).1 g2 I.jl
    have e3 := Utf.off_lt (Utf.dec_some I.dec).1 (Nat.lt_succ_self u) (by have := I.jl; omega)
    have e4 := Utf.off_in I.dec (u + 1)
    have := I.jl
    exact ⟨by omega, by omega, by omega, e3, by omega⟩
  have GS : Hid (∀ u, i ≤ u → u < j → Utf.rune s.data.toList (Utf.off rs u : Int) ≠ r.data.toList → G (u + 1) = G u) := fun u g1 g2 h => by
    obtain ⟨e1, e2, _⟩ := GA.out u g1 g2
    rw [hG]; exact Seek.got_skip I.dec h1 _ e1 e2 p h
  have GT : Hid (∀ u, i ≤ u → u < j → Utf.rune s.data.toList (Utf.off rs u : Int) = r.data.toList → G (u + 1) = if (Utf.off rs u : Int) < p then (Utf.off rs u : Int) :: G u else G u) := fun u g1 g2 h => by
    obtain ⟨e1, e2, _⟩ := GA.out u g1 g2
    rw [hG]; exact Seek.got_back I.dec h1 e1 e2 p h
  have GX : Hid (Seek.side (Seek.ons 84) (Seek.lh s.data.toList r.data.toList p) p = G j) := by
    show _ = _
    rw [hG, Seek.got, I.oj, I.lh]; rfl
  have LN := Lib.hid (fun (xs : List Int) (h : Seek.side (Seek.ons 84) (Seek.lh s.data.toList r.data.toList p) p = xs) => Seek.last_no (n := n) hR hP h)
  have LA := Lib.hid (fun (xs : List Int) (h : Seek.side (Seek.ons 84) (Seek.lh s.data.toList r.data.toList p) p = xs) => Seek.last_at (n := n) hR hP h)
  have CB := Lib.hid (fun (q : Int) w => ref_Next s q (by omega) w)
  have OI : Hid (Utf.off rs i ≤ s.size) := by show _ ≤ _; have := Utf.off_in I.dec i; omega
  have hij : Hid (i ≤ j) := Nat.le_trans I.im I.mj
  rw [hR] at CR
  rw [hP] at CP
  rw [I.start, ← b1] at CS
  rw [I.stop] at CE
  have hoj : Hid (Utf.off rs j = x.2) := b2
  have gn : decide (n < 1) = false := by simp; omega
  have hN : Hid (max n 1 = n) := by show _ = _; omega
  obtain ⟨d, hd⟩ : ∃ d : Nat, n - 1 = d := ⟨(n - 1).toNat, by omega⟩
  have hwn : IntKind.i64.wrap (n - 1) = (d : Int) := by rw [hd]; exact seek_wrap (by omega) (by omega)
  have hd := Lib.hid hd
  obtain ⟨info, hi, hz0, hz1, hz2⟩ := info_parts info_int
  clear hR hP hkd h1 h10 I b1 b2 b4 hG hn
  obtain ⟨y, z⟩ := x
  simp only [] at CS CE GA hoj
  generalize Line.of_ s.data.toList p = ln at *
  generalize Seek.goV s.data.toList p 84 r.data.toList n = V at *
  have CELL : Hid (∀ u, Below (w.alloc (findO 84 r)).heap.size (w.alloc (findO 84 r)) u → u.cell? ⟨w.heap.size, 0, none⟩ = some (.int .i64 84) ∧ u.cell? ⟨w.heap.size, 1, none⟩ = some (.string r)) := fun u h => find_after h
  obtain ⟨c0, c1⟩ := CELL.out _ (Below.refl _ _)
  have hX := Below.refl (w.alloc (findO 84 r)).heap.size (w.alloc (findO 84 r))
  have hWs : (w.alloc (findO 84 r)).heap.size = w.heap.size + 1 := by simp
  have hBB := Lib.hid hWs
  clear hWs
  go_enter Try.func9, Try.ntmps9
  go_wp2_with fail
  refine (CR.out _).mono ?_
  rintro e w1 ⟨rfl, hb1⟩
  replace hX := below_onr hX hb1
  obtain ⟨c0, c1⟩ := CELL.out _ hX
  clear hb1
  go_wp2_with fail
  refine (CP.out _).mono ?_
  rintro e w2 ⟨rfl, hb2⟩
  replace hX := below_onr hX hb2
  obtain ⟨c0, c1⟩ := CELL.out _ hX
  clear hb2
  go_wp2_with fail
  refine (CO.out _).mono ?_
  rintro e w3 ⟨rfl, hb3⟩
  replace hX := below_onr hX hb3
  obtain ⟨c0, c1⟩ := CELL.out _ hX
  clear hb3
  go_wp2_with fail
  refine (CS.out _).mono ?_
  rintro e w4 ⟨rfl, hb4⟩
  replace hX := below_onr hX hb4
  obtain ⟨c0, c1⟩ := CELL.out _ hX
  clear hb4
  go_wp2
  go_loopw [11, 12] (fun v qv wr => ∃ (A : Option Addr) (cc u q : Nat) (xs : List Int), v = .slice A xs.length cc ∧ wr.ownsRow (w.heap.size + 1) 3 1 (.slice A xs.length cc) xs.length (xs.map (Value.int .i64)) ∧ qv = .int .i64 q ∧ Hid (Seek.At rs G i j u q xs) ∧ Hid (Seek.Void A cc xs) ∧ q ≤ s.size ∧ Below (w.alloc (findO 84 r)).heap.size (w.alloc (findO 84 r)) wr)
    (fun _ qv _ => s.size - (intOf qv).toNat)
  case atStart => exact ⟨none, 0, i, Utf.off rs i, [], rfl, World.ownsRow_nil _ _ _ _, rfl, ⟨Nat.le_refl _, hij.out, rfl, G0.out.symm⟩, fun _ => ⟨rfl, rfl⟩, OI.out, hX⟩
  case round =>
    clear hX c0 c1
    obtain ⟨A, cc, u, q, xs, rfl, hown, rfl, HA, HV, hqs, hX⟩ := hrel
    obtain ⟨c0, c1⟩ := CELL.out _ hX
    obtain ⟨i1, i2, i3, i4⟩ := HA.out
    have hxl : xs.length ≤ s.size := by rw [i4]; exact GL.out u
    by_cases huj : u < j
    · obtain ⟨a1, a2, a3, a4, a5⟩ := GA.out u i1 huj
      rw [← i3] at a1 a3 a4
      have CUU := Lib.hid (CU.out u)
      have CNN := Lib.hid (CN.out u huj)
      have GSS := Lib.hid (GS.out u i1 huj)
      have GTT := Lib.hid (GT.out u i1 huj)
      rw [← i3] at CUU CNN GSS GTT
      obtain ⟨q2, hq2⟩ : ∃ q2, Utf.off rs (u + 1) = q2 := ⟨_, rfl⟩
      rw [hq2] at CNN a4 a5
      rw [← i4] at GSS GTT
      have gq : decide ((q : Int) < (z : Int)) = true := by simp; omega
      have ga : (q : Int) < (z : Int) := by omega
      have H2 : Hid (∀ ys, ys = G (u + 1) → Seek.At rs G i j (u + 1) q2 ys) := fun ys h => ⟨by omega, huj, hq2.symm, h⟩
      have hm : Hid (s.size - q2 < s.size - q) := by show _ < _; omega
      have hq2s : q2 ≤ s.size := a5
      obtain ⟨R, hRR⟩ : ∃ R, Utf.rune s.data.toList (q : Int) = R := ⟨_, rfl⟩
      rw [hRR] at CUU GSS GTT
      by_cases hru : R = r.data.toList
      · have E := (text_alike hru).1
        have GT2 := Lib.hid (GTT.out hru)
        clear GSS GTT hru i1 i2 i3 i4 huj a1 a2 a3 a4 a5 hq2 hRR HA
        generalize bs R = RR at *
        by_cases hsd : (q : Int) < p
        · have gs : decide ((q : Int) < p) = true := by simp [hsd]
          have GT3 : Hid (G (u + 1) = (q : Int) :: xs) := by show _ = _; rw [GT2.out, if_pos hsd]
          have hsd := Lib.hid hsd
          clear GT2
          go_wp2_with fail
          refine (CE.out _).mono ?_
          rintro e w5 ⟨rfl, hb5⟩
          replace hX := below_onr hX hb5
          replace hown := own_below hown hb5
          obtain ⟨c0, c1⟩ := CELL.out _ hX
          clear hb5
          go_wp2_with fail
          go_region_held3 (fun u => u.cell? ⟨w.heap.size, 0, none⟩ = some (.int .i64 84) ∧ u.cell? ⟨w.heap.size, 1, none⟩ = some (.string r)) (first | (with_reducible exact ⟨by assumption, by assumption⟩) | go_keep)
            (first
              | (go_at_call 27; with_reducible refine (CUU.out _).mono ?_; rintro e w6 ⟨rfl, hb6⟩; (first | (with_reducible replace hX := below_onr hX hb6; replace hown := own_below hown hb6) | (with_reducible replace hX := below_onrd hX hb6; replace hown := own_belowd hown hb6)); obtain ⟨c0, c1⟩ := CELL.out _ hX))
          have hR6 := hX.size
          rw [hBB.out] at hR6
          by_cases hxe : xs = []
          · obtain ⟨rfl, rfl⟩ := HV.out hxe
            subst hxe
            clear hown HV
            go_wp2_with (at_builtin; refine wpList_append_own_none _ rfl _ _ 36 rfl (w.heap.size + 1) 3 info 1 Try.underlying36 hi (.slice (some ⟨w6.heap.size, 0, none⟩) 1 1) 1 [.int .i64 (q : Int)] rfl (World.ownsRow_lit w6 #[.int .i64 (q : Int)] 1 (by omega) (by decide) rfl) rfl ?_)
            have hown4 : (w6.alloc (.cells #[.int .i64 (q : Int)] 3)).ownsRow (w.heap.size + 1) 3 1 (.slice (some ⟨w6.heap.size, 0, none⟩) 1 1) [(q : Int)].length ([(q : Int)].map (Value.int .i64)) := World.ownsRow_lit w6 #[.int .i64 (q : Int)] 1 (by omega) (by decide) rfl
            have hX7 := hX.alloc hX.size (.cells #[.int .i64 (q : Int)] 3)
            generalize w6.alloc (.cells #[.int .i64 (q : Int)] 3) = w7 at *
            clear hX hR6
            go_wp2_with fail
            refine (CNN.out _).mono ?_
            rintro e w9 ⟨rfl, hb9⟩
            have hX9 := below_onr hX7 hb9
            have hown9 := own_below hown4 hb9
            clear hb9
            go_wp2
            go_roundw
            case rel => exact ⟨_, _, u + 1, q2, [(q : Int)], rfl, hown9, by go_num, H2.out _ (GT3.out.symm), Seek.void_of (by simp), hq2s, hX9⟩
            case measure => have := hm.out; simp [intOf]; omega
          · obtain ⟨g, rfl⟩ := own_some hown (by rw [Ne, List.length_eq_zero_iff]; exact hxe)
            clear hxe HV
            go_wp2_with (at_builtin; refine wpList_append_own _ rfl _ _ 36 rfl (w.heap.size + 1) 3 info (.int .i64 0) 1 8 Try.underlying36 hi hz0 hz1 hz2 rfl (by decide) (.slice (some ⟨w6.heap.size, 0, none⟩) 1 1) 1 [.int .i64 (q : Int)] rfl (World.ownsRow_lit w6 #[.int .i64 (q : Int)] 1 (by omega) (by decide) rfl) ⟨g, 0, none⟩ xs.length cc (xs.map (Value.int .i64)) rfl (by simp) ((hown.alloc _).cells rfl) (int_cells xs) (by unfold maxLen; omega) (by omega) (by simp; omega) ?_)
            intro v' w7 hown' hgrow _
            have hX7 : Below (w.alloc (findO 84 r)).heap.size (w.alloc (findO 84 r)) w7 := (hX.alloc hX.size _).grown hgrow (by rw [hBB.out]; simp; omega) (fun b hg => by rw [hBB.out]; have : w6.heap.size = b := (by simpa [Value.ownBlock] using hg); omega)
            obtain ⟨ys, hys⟩ : ∃ ys, Hid ((q : Int) :: xs = ys) := ⟨_, rfl⟩
            have hown4 : w7.ownsRow (w.heap.size + 1) 3 1 v' ys.length (ys.map (Value.int .i64)) := by rw [← hys.out]; simpa [Nat.add_comm] using hown'
            have hyne : Hid (ys ≠ []) := by show _ ≠ _; rw [← hys.out]; simp
            rw [hys.out] at GT3
            obtain ⟨c0, c1⟩ := CELL.out _ hX7
            obtain ⟨a', c', hv'⟩ := own_shape hown4
            clear hown' hgrow hown hX hR6 hys
            subst hv'
            go_wp2_with fail
            refine (CNN.out _).mono ?_
            rintro e w9 ⟨rfl, hb9⟩
            have hX9 := below_onr hX7 hb9
            have hown9 := own_below hown4 hb9
            clear hb9
            go_wp2
            go_roundw
            case rel => exact ⟨a', c', u + 1, q2, ys, rfl, hown9, by go_num, H2.out _ (GT3.out.symm), Seek.void_of hyne.out, hq2s, hX9⟩
            case measure => have := hm.out; simp [intOf]; omega
        · have gs : decide ((q : Int) < p) = false := by simp; omega
          have GT3 : Hid (G (u + 1) = xs) := by show _ = _; rw [GT2.out, if_neg hsd]
          have hsd := Lib.hid hsd
          clear GT2
          go_wp2_with fail
          refine (CE.out _).mono ?_
          rintro e w5 ⟨rfl, hb5⟩
          replace hX := below_onr hX hb5
          replace hown := own_below hown hb5
          obtain ⟨c0, c1⟩ := CELL.out _ hX
          clear hb5
          go_wp2_with fail
          go_region_held3 (fun u => u.cell? ⟨w.heap.size, 0, none⟩ = some (.int .i64 84) ∧ u.cell? ⟨w.heap.size, 1, none⟩ = some (.string r)) (first | (with_reducible exact ⟨by assumption, by assumption⟩) | go_keep)
            (first
              | (go_at_call 27; with_reducible refine (CUU.out _).mono ?_; rintro e w6 ⟨rfl, hb6⟩; (first | (with_reducible replace hX := below_onr hX hb6; replace hown := own_below hown hb6) | (with_reducible replace hX := below_onrd hX hb6; replace hown := own_belowd hown hb6)); obtain ⟨c0, c1⟩ := CELL.out _ hX))
          go_wp2_with fail
          refine (CNN.out _).mono ?_
          rintro e w9 ⟨rfl, hb9⟩
          have hX9 := below_onr hX hb9
          have hown9 := own_below hown hb9
          clear hb9
          go_wp2
          go_roundw
          case rel => exact ⟨A, cc, u + 1, q2, xs, rfl, hown9, by go_num, H2.out _ (GT3.out.symm), HV, hq2s, hX9⟩
          case measure => have := hm.out; simp [intOf]; omega
      · have E := (text_differs hru).1
        have GT3 := Lib.hid (GSS.out hru)
        clear GSS GTT hru i1 i2 i3 i4 huj a1 a2 a3 a4 a5 hq2 hRR HA
        generalize bs R = RR at *
        go_wp2_with fail
        refine (CE.out _).mono ?_
        rintro e w5 ⟨rfl, hb5⟩
        replace hX := below_onr hX hb5
        replace hown := own_below hown hb5
        obtain ⟨c0, c1⟩ := CELL.out _ hX
        clear hb5
        go_wp2_with fail
        go_region_held3 (fun u => u.cell? ⟨w.heap.size, 0, none⟩ = some (.int .i64 84) ∧ u.cell? ⟨w.heap.size, 1, none⟩ = some (.string r)) (first | (with_reducible exact ⟨by assumption, by assumption⟩) | go_keep)
          (first
            | (go_at_call 27; with_reducible refine (CUU.out _).mono ?_; rintro e w6 ⟨rfl, hb6⟩; (first | (with_reducible replace hX := below_onr hX hb6; replace hown := own_below hown hb6) | (with_reducible replace hX := below_onrd hX hb6; replace hown := own_belowd hown hb6)); obtain ⟨c0, c1⟩ := CELL.out _ hX))
        go_wp2_with fail
        refine (CNN.out _).mono ?_
        rintro e w9 ⟨rfl, hb9⟩
        have hX9 := below_onr hX hb9
        have hown9 := own_below hown hb9
        clear hb9
        go_wp2
        go_roundw
        case rel => exact ⟨A, cc, u + 1, q2, xs, rfl, hown9, by go_num, H2.out _ (GT3.out.symm), HV, hq2s, hX9⟩
        case measure => have := hm.out; simp [intOf]; omega
    · have huj : u = j := by omega
      subst huj
      have hqz : (q : Int) = (z : Int) := by rw [i3, hoj.out]
      have gq : decide ((q : Int) < (z : Int)) = false := by simp; omega
      have ga : ¬ (q : Int) < (z : Int) := by omega
      have hsx : Seek.side (Seek.ons 84) (Seek.lh s.data.toList r.data.toList p) p = xs := by rw [i4]; exact GX.out
      have LN1 := LN.out xs hsx
      have LA1 := LA.out xs hsx
      rw [hN.out] at LN1 LA1
      clear LN LA GX GS GT GL GA G0 CU CN CS hsx i1 i2 i3 i4 HA hqz
      by_cases hlen : (xs.length : Int) < n
      · have hv := LN1 (by omega)
        have gl : decide ((xs.length : Int) < n) = true := by simp [hlen]
        clear LN1 LA1
        have hlen2 : ¬ n ≤ (xs.length : Int) := by omega
        clear hxl
        go_wp2_with fail
        refine (CE.out _).mono ?_
        rintro e w5 ⟨rfl, hb5⟩
        replace hX := below_onr hX hb5
        go_wp2
        go_ret2
        exact ⟨by rw [Seek.res_no hv]; rfl, h0.trans (hX.mono h0.size)⟩
      · obtain ⟨Q, hQ, Q0, Q1, hV0, hVe⟩ := LA1 (by omega)
        have gl : decide ((xs.length : Int) < n) = false := by simp; omega
        obtain ⟨g, rfl⟩ := own_some hown (by omega)
        have CBQ := CB.out Q
        rw [show Utf.next s.data.toList Q = V from hVe.symm] at CBQ
        have CBQ := Lib.hid CBQ
        rw [hd.out, show ((d : Int)).toNat = d from by simp] at hQ
        have hdl : d < xs.length := (List.getElem?_eq_some_iff.1 hQ).1
        have hdl2 : (d : Int) < (xs.length : Int) := by omega
        have hd0 : (0 : Int) ≤ (d : Int) := by omega
        have hcc := own_cap hown
        go_wp2_with fail
        refine (CE.out _).mono ?_
        rintro e w5 ⟨rfl, hb5⟩
        replace hX := below_onr hX hb5
        replace hown := own_below hown hb5
        obtain ⟨c0, c1⟩ := CELL.out _ hX
        have e1 := hown.cells (g := g) rfl d (.int .i64 Q) (by rw [List.getElem?_map, hQ]; rfl)
        have e2 : w5.cell? ⟨g, d, none⟩ = some (.int .i64 Q) := by rw [← e1, add_at]
        have hlp : 0 < xs.length := by omega
        clear LN1 LA1 hb5 hQ hVe
        go_wp2_with fail
        refine (CBQ.out _).mono ?_
        rintro e w6 ⟨rfl, hb6⟩
        replace hX := below_onr hX hb6
        obtain ⟨c0, c1⟩ := CELL.out _ hX
        clear e1 e2
        go_wp2
        go_ret2
        exact ⟨by rw [Seek.res_at hV0]; rfl, h0.trans (hX.mono h0.size)⟩
end Go.Proofs.Ytkhihmkpmlokiaa
