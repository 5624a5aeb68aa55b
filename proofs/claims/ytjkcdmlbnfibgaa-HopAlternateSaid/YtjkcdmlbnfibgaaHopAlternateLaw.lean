/-
  'calamuslaw15.HopAlternate' answers true for every text: words and their ends come by turns.
-/
import Derived.Test.YtjkcdmlbnfibgaaHopLives
import Derived.Test.YtjkcdmlbnfibgaaHopAltPlain
import Derived.Test.YtjkcdmlbnfibgaaHopRefStarts
namespace Go.Proofs.Ytjkcdmlbnfibgaa
open Go.RowKit
set_option maxHeartbeats 20000000 in
set_option maxRecDepth 100000 in
theorem hopAlternate_walk (s : ByteArray) (big : Bool)  (w : World) :
    Calls Try.prog 6 #[.string s, .bool big] w fun e w' => e = .returned (.bool true) ∧ Below w.heap.size w w' := by
  by_cases h3 : 300 < s.size
  · go_enter Try.func6, Try.ntmps6
    go_wp2_with fail
    refine (hop_lives _).mono ?_
    rintro e w1 ⟨rfl, hb⟩
    go_wp2
    go_ret
    exact ⟨rfl, hb⟩
  have g0 : decide ((300 : Int) < (s.size : Int)) = false := by simp; omega
  have hl := data_len s
  have V := fun w => utf_Valid s (by omega) w
  cases hd : Utf.dec s.data.toList with
  | none =>
    rw [Utf.valid_bad hd] at V
    have V := Lib.hid V
    clear hd h3 hl
    go_enter Try.func6, Try.ntmps6
    go_wp2_with fail
    refine (V.out _).mono ?_
    rintro e w0 ⟨rfl, rfl⟩
    go_wp2_with fail
    refine (hop_lives _).mono ?_
    rintro e w1 ⟨rfl, hb⟩
    go_wp2
    go_ret
    exact ⟨rfl, hb⟩
  | some rs =>
    rw [Utf.valid_ok hd] at V
    have V := Lib.hid V
    have HD := Lib.hid hd
    have hsz : s.size ≤ 300 := by omega
    have hwl := Hop.words_len s.data.toList big
    have hxl : (Hop.starts s.data.toList big).length = (Hop.words s.data.toList big).length := by rw [Hop.starts, List.length_map]
    have hyl : (Hop.ends s.data.toList big).length ≤ (Hop.words s.data.toList big).length := Nat.le_trans (List.length_filter_le ..) (by rw [List.length_map]; exact Nat.le_refl _)
    have A := Lib.hid (hop_Starts s big (by omega))
    have B := Lib.hid (hop_Ends s big (by omega))
    have G := Lib.hid (fun (p : Int) (k : ByteArray) w => hop_Go s p k 1 (by omega) (by omega) w)
    have HSZ := Lib.hid hsz
    have HL : Hid ((Hop.words s.data.toList big).length ≤ 301) := by show _ ≤ _; omega
    have HXL := Lib.hid hxl
    have HYL := Lib.hid hyl
    obtain ⟨xs, hxs⟩ : ∃ xs, Hid (Hop.starts s.data.toList big = xs) := ⟨_, rfl⟩
    obtain ⟨ys, hys⟩ : ∃ ys, Hid (Hop.ends s.data.toList big = ys) := ⟨_, rfl⟩
    rw [hxs.out] at A HXL
    rw [hys.out] at B HYL
    obtain ⟨L, hL⟩ : ∃ L, Hid (xs.length = L) := ⟨_, rfl⟩
    obtain ⟨M, hM⟩ : ∃ M, Hid (ys.length = M) := ⟨_, rfl⟩
    clear hwl hxl hyl hsz h3 hd hl
    go_enter Try.func6, Try.ntmps6
    go_wp2_with fail
    refine (V.out _).mono ?_
    rintro e w0 ⟨rfl, rfl⟩
    go_wp2_with fail
    refine (A.out _).mono ?_
    rintro e w1 ⟨⟨v, rfl, hr1⟩, hb1⟩
    obtain ⟨a1, c1, rfl⟩ := own_shape hr1
    go_wp2_with fail
    refine (B.out _).mono ?_
    rintro e w2 ⟨⟨v, rfl, hr2⟩, hb2⟩
    obtain ⟨a2, c2, rfl⟩ := own_shape hr2
    have I1 := Lib.hid ((Ints.of_own hr1 rfl).grown (gb_below none hb2) (fun _ _ h => by cases h))
    have I2 := Lib.hid (Ints.of_own hr2 rfl)
    have HW := Lib.hid (hop_below hb1 hb2)
    clear hr1 hr2 hb1 hb2
    rw [hL.out, hM.out]
    go_wp2_with fail
    go_loopw [7, 8] (fun kv iv wr => ∃ i k : Nat, Hid (i ≤ L) ∧ Hid (k = Hop.cnt s.data.toList big i) ∧ kv = .int .i64 k ∧ iv = .int .i64 i ∧ Below w2.heap.size w2 wr) (fun _ iv _ => (L - intOf iv).toNat)
    case atStart => exact ⟨0, 0, Lib.hid (Nat.zero_le _), Lib.hid rfl, rfl, rfl, Below.refl _ _⟩
    case round =>
      obtain ⟨i, k, hi, hk, rfl, rfl, hW⟩ := hrel
      have hwr : w2.heap.size ≤ wr.heap.size := hW.size
      by_cases hlt : i < L
      · have hiw : i < (Hop.words s.data.toList big).length := by rw [← HXL.out, hL.out]; exact hlt
        obtain ⟨⟨a, b⟩, hw⟩ : ∃ x, (Hop.words s.data.toList big)[i]? = some x := ⟨_, List.getElem?_eq_getElem hiw⟩
        obtain ⟨f1, _, f2, f3, f4, f5⟩ := Hop.word_at HD.out hw
        dsimp only at f1 f2 f3 f4 f5
        rw [data_len] at f1 f3 f4 f5
        have hL3 : L ≤ 301 := by have := HL.out; have := HXL.out; have := hL.out; omega
        obtain ⟨ad, rfl, cS⟩ := ints_cell I1.out (by rw [hL.out]; omega) hW
        have hxa : xs[i]? = some (a : Int) := by rw [← hxs.out]; exact Hop.starts_at hw
        have gS := cS i _ hxa
        have hprev : ∀ j, i = j + 1 → ∃ a0 : Nat, wr.cell? (ad.add j) = some (.int .i64 (a0 : Nat)) ∧ a0 < a := fun j hj => by
          subst hj
          obtain ⟨⟨a0, b0⟩, hw0⟩ : ∃ x, (Hop.words s.data.toList big)[j]? = some x := ⟨_, List.getElem?_eq_getElem (by omega)⟩
          have h1 := Hop.al_next _ _ (Hop.words_al HD.out big) j _ _ hw0 hw
          exact ⟨a0, cS j _ (by rw [← hxs.out]; exact Hop.starts_at hw0), by have := h1.1; omega⟩
        have hnext : i + 1 < L → ∃ z : Nat, (∀ u : World, (∀ (j : Nat) (x : Int), xs[j]? = some x → u.cell? (ad.add j) = some (.int .i64 x)) → u.cell? (ad.add (i + 1)) = some (.int .i64 (z : Nat))) ∧ b < (z : Int) := fun h => by
          obtain ⟨⟨z, b0⟩, hw0⟩ : ∃ x, (Hop.words s.data.toList big)[i + 1]? = some x := ⟨_, List.getElem?_eq_getElem (by rw [← HXL.out, hL.out]; exact h)⟩
          have h1 := Hop.al_next _ _ (Hop.words_al HD.out big) i _ _ hw hw0
          exact ⟨z, fun u hu => hu (i + 1) _ (by rw [← hxs.out]; exact Hop.starts_at hw0), h1.2⟩
        have hcell : Hid (∀ u : World, Below wr.heap.size wr u → ∀ (j : Nat) (x : Int), xs[j]? = some x → u.cell? (ad.add j) = some (.int .i64 x)) := fun u hu => by
          obtain ⟨ad', e, h⟩ := ints_cell I1.out (by rw [hL.out]; omega) (hW.trans (hu.mono hwr))
          cases e
          exact h
        have n1 : decide ((i : Int) < (L : Int)) = true := by simp; omega
        have n2 : (i : Int) < (L : Int) := by omega
        have n3 : IntKind.i64.wrap ((i : Int) + 1) = (i : Int) + 1 := wrap_in (by omega) (by omega)
        have s1 : decide ((a : Int) < 0) = false := decide_eq_false (by omega)
        have s2 : decide ((s.size : Int) < (a : Int)) = false := by simp; omega
        have hkle : k ≤ 301 := by have := Hop.cnt_le s.data.toList big i; have := hk.out; omega
        have HLT := Lib.hid hlt
        by_cases hb : b = -1
        · have HK : Hid (k = Hop.cnt s.data.toList big (i + 1)) := by show _ = _; rw [Hop.cnt_no hw (by show ¬ 0 ≤ b; omega)]; exact hk.out
          have h3 := f3 hb
          have HQ := Lib.hid (And.intro f1 (And.intro f5 hL3))
          clear f1 f2 f3 f4 f5 hw hk hxa cS hnext hlt hiw hcell hb hL3 hi
          rcases Nat.eq_zero_or_pos i with hi0 | hi0
          · by_cases ha0 : a = 0
            · by_cases hae : a = s.size
              · clear hprev
                have p1 : decide ((0 : Int) < (i : Int)) = false := by simp; omega
                have p1n : decide (0 < i) = false := by simp; omega
                have p1m : ¬ 0 < i := by omega
                have p8 : i < L := HLT.out
                clear hi0
                have q1 : ((a : Int) == 0) = true := by simp; omega
                have s2n : decide (s.size < a) = false := decide_eq_false (by have := HQ.out; omega)
                clear ha0
                have r1 : ((a : Int) == (s.size : Int)) = true := by simp; omega
                clear h3 hae
                go_wp2_with fail
                go_big_quiet (fail)
                have hW2 : Below w2.heap.size w2 (wr.drewN nq) := hW.trans ((below_gb (gb_drewN wr nq none)).mono hwr)
                go_wp2
                go_roundw
                case rel => exact ⟨i + 1, k, Lib.hid (show i + 1 ≤ L from HLT.out), HK, by go_num, by go_num, hW2⟩
                case measure => have := HLT.out; simp only [intOf]; omega
              · clear hprev
                have p1 : decide ((0 : Int) < (i : Int)) = false := by simp; omega
                have p1n : decide (0 < i) = false := by simp; omega
                have p1m : ¬ 0 < i := by omega
                have p8 : i < L := HLT.out
                clear hi0
                have q1 : ((a : Int) == 0) = true := by simp; omega
                have s2n : decide (s.size < a) = false := decide_eq_false (by have := HQ.out; omega)
                clear ha0
                have has : a < s.size := by have := HQ.out; omega
                have r1 : ((a : Int) == (s.size : Int)) = false := by simp; omega
                have r2 : ((s[a].toNat : Int) == 10) = true := (byte_is has).1 (h3.2.resolve_left (by omega))
                clear h3
                go_wp2_with fail
                go_big_quiet (fail)
                have hW2 : Below w2.heap.size w2 (wr.drewN nq) := hW.trans ((below_gb (gb_drewN wr nq none)).mono hwr)
                go_wp2
                go_roundw
                case rel => exact ⟨i + 1, k, Lib.hid (show i + 1 ≤ L from HLT.out), HK, by go_num, by go_num, hW2⟩
                case measure => have := HLT.out; simp only [intOf]; omega
            · by_cases hae : a = s.size
              · clear hprev
                have p1 : decide ((0 : Int) < (i : Int)) = false := by simp; omega
                have p1n : decide (0 < i) = false := by simp; omega
                have p1m : ¬ 0 < i := by omega
                have p8 : i < L := HLT.out
                clear hi0
                obtain ⟨q, rfl⟩ : ∃ q, a = q + 1 := ⟨a - 1, by omega⟩
                have q1 : ((q : Int) + 1 == 0) = false := by simp; omega
                have q2 : IntKind.i64.wrap (q : Int) = (q : Int) := wrap_in (by omega) (by have := HQ.out; have := HSZ.out; omega)
                have hqs : q < s.size := by have := HQ.out; omega
                have s1b : decide ((q : Int) + 1 < 0) = false := decide_eq_false (by omega)
                have s2b : decide ((s.size : Int) < (q : Int) + 1) = false := decide_eq_false (by omega)
                have s2c : decide ((s.size : Int) ≤ (q : Int)) = false := decide_eq_false (by omega)
                have s2d : decide (s.size ≤ q) = false := decide_eq_false (by omega)
                have s2e : decide (s.size < q + 1) = false := decide_eq_false (by omega)
                have q3 : ((s[q].toNat : Int) == 10) = true := (byte_is hqs).1 (by have := h3.1.resolve_left (by omega); rwa [Nat.add_sub_cancel] at this)
                have r1 : (((q : Int) + 1) == (s.size : Int)) = true := by simp; omega
                clear h3 hae
                go_wp2_with fail
                go_big_quiet (fail)
                have hW2 : Below w2.heap.size w2 (wr.drewN nq) := hW.trans ((below_gb (gb_drewN wr nq none)).mono hwr)
                go_wp2
                go_roundw
                case rel => exact ⟨i + 1, k, Lib.hid (show i + 1 ≤ L from HLT.out), HK, by go_num, by go_num, hW2⟩
                case measure => have := HLT.out; simp only [intOf]; omega
              · clear hprev
                have p1 : decide ((0 : Int) < (i : Int)) = false := by simp; omega
                have p1n : decide (0 < i) = false := by simp; omega
                have p1m : ¬ 0 < i := by omega
                have p8 : i < L := HLT.out
                clear hi0
                obtain ⟨q, rfl⟩ : ∃ q, a = q + 1 := ⟨a - 1, by omega⟩
                have q1 : ((q : Int) + 1 == 0) = false := by simp; omega
                have q2 : IntKind.i64.wrap (q : Int) = (q : Int) := wrap_in (by omega) (by have := HQ.out; have := HSZ.out; omega)
                have hqs : q < s.size := by have := HQ.out; omega
                have s1b : decide ((q : Int) + 1 < 0) = false := decide_eq_false (by omega)
                have s2b : decide ((s.size : Int) < (q : Int) + 1) = false := decide_eq_false (by omega)
                have s2c : decide ((s.size : Int) ≤ (q : Int)) = false := decide_eq_false (by omega)
                have s2d : decide (s.size ≤ q) = false := decide_eq_false (by omega)
                have s2e : decide (s.size < q + 1) = false := decide_eq_false (by omega)
                have q3 : ((s[q].toNat : Int) == 10) = true := (byte_is hqs).1 (by have := h3.1.resolve_left (by omega); rwa [Nat.add_sub_cancel] at this)
                have has : q + 1 < s.size := by have := HQ.out; omega
                have r1 : (((q : Int) + 1) == (s.size : Int)) = false := by simp; omega
                have r2 : ((s[q + 1].toNat : Int) == 10) = true := (byte_is has).1 (h3.2.resolve_left (by omega))
                clear h3
                go_wp2_with fail
                go_big_quiet (fail)
                have hW2 : Below w2.heap.size w2 (wr.drewN nq) := hW.trans ((below_gb (gb_drewN wr nq none)).mono hwr)
                go_wp2
                go_roundw
                case rel => exact ⟨i + 1, k, Lib.hid (show i + 1 ≤ L from HLT.out), HK, by go_num, by go_num, hW2⟩
                case measure => have := HLT.out; simp only [intOf]; omega
          · have ha0 : ¬ a = 0 := by obtain ⟨a0, _, h⟩ := hprev (i - 1) (by omega); omega
            by_cases hae : a = s.size
            · obtain ⟨j, rfl⟩ : ∃ j, i = j + 1 := ⟨i - 1, by omega⟩
              obtain ⟨a0, gP, hpa⟩ := hprev j rfl
              clear hprev
              have p1 : decide ((0 : Int) < (j : Int) + 1) = true := by simp <;> omega
              have p2 : IntKind.i64.wrap (j : Int) = (j : Int) := wrap_in (by omega) (by have := HLT.out; have := HQ.out; omega)
              have p3 : (0 : Int) ≤ (j : Int) := by omega
              have p9 : (0 : Int) ≤ (j : Int) + 1 := by omega
              have n3b : IntKind.i64.wrap ((j : Int) + 1 + 1) = (j : Int) + 1 + 1 := wrap_in (by omega) (by have := HLT.out; have := HQ.out; omega)
              have p4 : (j : Int) < (L : Int) := by have := HLT.out; omega
              have p5 : j < L := by have := HLT.out; omega
              have p6 : decide ((a : Int) ≤ (a0 : Int)) = false := by simp; omega
              have p7 : (j : Int) + 1 < (L : Int) := by have := HLT.out; omega
              have p8 : j + 1 < L := HLT.out
              have gS2 : wr.cell? { block := ad.block, off := ad.off + (j + 1) } = _ := gS
              obtain ⟨q, rfl⟩ : ∃ q, a = q + 1 := ⟨a - 1, by omega⟩
              have q1 : ((q : Int) + 1 == 0) = false := by simp; omega
              have q2 : IntKind.i64.wrap (q : Int) = (q : Int) := wrap_in (by omega) (by have := HQ.out; have := HSZ.out; omega)
              have hqs : q < s.size := by have := HQ.out; omega
              have s1b : decide ((q : Int) + 1 < 0) = false := decide_eq_false (by omega)
              have s2b : decide ((s.size : Int) < (q : Int) + 1) = false := decide_eq_false (by omega)
              have s2c : decide ((s.size : Int) ≤ (q : Int)) = false := decide_eq_false (by omega)
              have s2d : decide (s.size ≤ q) = false := decide_eq_false (by omega)
              have s2e : decide (s.size < q + 1) = false := decide_eq_false (by omega)
              have p6b : decide ((q : Int) + 1 ≤ (a0 : Int)) = false := decide_eq_false (by omega)
              have p6c : decide ((q : Int) < (a0 : Int)) = false := decide_eq_false (by omega)
              have p6d : decide (q < a0) = false := decide_eq_false (by omega)
              have p6e : decide (q + 1 ≤ a0) = false := decide_eq_false (by omega)
              have q3 : ((s[q].toNat : Int) == 10) = true := (byte_is hqs).1 (by have := h3.1.resolve_left (by omega); rwa [Nat.add_sub_cancel] at this)
              have r1 : (((q : Int) + 1) == (s.size : Int)) = true := by simp; omega
              clear h3 hae
              go_wp2_with fail
              go_big_quiet (fail)
              have hW2 : Below w2.heap.size w2 (wr.drewN nq) := hW.trans ((below_gb (gb_drewN wr nq none)).mono hwr)
              go_wp2
              go_roundw
              case rel => exact ⟨(j + 1) + 1, k, Lib.hid (show (j + 1) + 1 ≤ L from HLT.out), HK, by go_num, by go_num, hW2⟩
              case measure => have := HLT.out; simp only [intOf]; omega
            · obtain ⟨j, rfl⟩ : ∃ j, i = j + 1 := ⟨i - 1, by omega⟩
              obtain ⟨a0, gP, hpa⟩ := hprev j rfl
              clear hprev
              have p1 : decide ((0 : Int) < (j : Int) + 1) = true := by simp <;> omega
              have p2 : IntKind.i64.wrap (j : Int) = (j : Int) := wrap_in (by omega) (by have := HLT.out; have := HQ.out; omega)
              have p3 : (0 : Int) ≤ (j : Int) := by omega
              have p9 : (0 : Int) ≤ (j : Int) + 1 := by omega
              have n3b : IntKind.i64.wrap ((j : Int) + 1 + 1) = (j : Int) + 1 + 1 := wrap_in (by omega) (by have := HLT.out; have := HQ.out; omega)
              have p4 : (j : Int) < (L : Int) := by have := HLT.out; omega
              have p5 : j < L := by have := HLT.out; omega
              have p6 : decide ((a : Int) ≤ (a0 : Int)) = false := by simp; omega
              have p7 : (j : Int) + 1 < (L : Int) := by have := HLT.out; omega
              have p8 : j + 1 < L := HLT.out
              have gS2 : wr.cell? { block := ad.block, off := ad.off + (j + 1) } = _ := gS
              obtain ⟨q, rfl⟩ : ∃ q, a = q + 1 := ⟨a - 1, by omega⟩
              have q1 : ((q : Int) + 1 == 0) = false := by simp; omega
              have q2 : IntKind.i64.wrap (q : Int) = (q : Int) := wrap_in (by omega) (by have := HQ.out; have := HSZ.out; omega)
              have hqs : q < s.size := by have := HQ.out; omega
              have s1b : decide ((q : Int) + 1 < 0) = false := decide_eq_false (by omega)
              have s2b : decide ((s.size : Int) < (q : Int) + 1) = false := decide_eq_false (by omega)
              have s2c : decide ((s.size : Int) ≤ (q : Int)) = false := decide_eq_false (by omega)
              have s2d : decide (s.size ≤ q) = false := decide_eq_false (by omega)
              have s2e : decide (s.size < q + 1) = false := decide_eq_false (by omega)
              have p6b : decide ((q : Int) + 1 ≤ (a0 : Int)) = false := decide_eq_false (by omega)
              have p6c : decide ((q : Int) < (a0 : Int)) = false := decide_eq_false (by omega)
              have p6d : decide (q < a0) = false := decide_eq_false (by omega)
              have p6e : decide (q + 1 ≤ a0) = false := decide_eq_false (by omega)
              have q3 : ((s[q].toNat : Int) == 10) = true := (byte_is hqs).1 (by have := h3.1.resolve_left (by omega); rwa [Nat.add_sub_cancel] at this)
              have has : q + 1 < s.size := by have := HQ.out; omega
              have r1 : (((q : Int) + 1) == (s.size : Int)) = false := by simp; omega
              have r2 : ((s[q + 1].toNat : Int) == 10) = true := (byte_is has).1 (h3.2.resolve_left (by omega))
              clear h3
              go_wp2_with fail
              go_big_quiet (fail)
              have hW2 : Below w2.heap.size w2 (wr.drewN nq) := hW.trans ((below_gb (gb_drewN wr nq none)).mono hwr)
              go_wp2
              go_roundw
              case rel => exact ⟨(j + 1) + 1, k, Lib.hid (show (j + 1) + 1 ≤ L from HLT.out), HK, by go_num, by go_num, hW2⟩
              case measure => have := HLT.out; simp only [intOf]; omega
        · have hb0 : 0 ≤ b := by omega
          obtain ⟨h4, h5⟩ := f4 hb
          have HK : Hid (k + 1 = Hop.cnt s.data.toList big (i + 1)) := by show _ = _; rw [Hop.cnt_yes hw hb0]; have := hk.out; omega
          have hyk : ys[k]? = some b := by rw [← hys.out, hk.out]; exact Hop.cnt_at hw hb0
          have hkM : k < M := by rw [← hM.out]; exact (List.getElem?_eq_some_iff.1 hyk).1
          obtain ⟨ad', rfl, cE⟩ := ints_cell I2.out (by rw [hM.out]; omega) hW
          have hE : Hid (∀ u : World, Below wr.heap.size wr u → u.cell? (ad'.add k) = some (.int .i64 b)) := fun u hu => by
            obtain ⟨ad2, e, h⟩ := ints_cell I2.out (by rw [hM.out]; omega) (hW.trans (hu.mono hwr))
            cases e
            exact h k _ hyk
          have k1 : decide ((M : Int) ≤ (k : Int)) = false := by simp; omega
          have k1n : decide (M ≤ k) = false := decide_eq_false (by omega)
          have k2 : (k : Int) < (M : Int) := by omega
          have k3 : IntKind.i64.wrap ((k : Int) + 1) = (k : Int) + 1 := wrap_in (by omega) (by omega)
          have k4 : decide (b < (a : Int)) = false := by simp; omega
          have gSu : Hid (∀ u : World, Below wr.heap.size wr u → u.cell? (ad.add i) = some (.int .i64 (a : Nat))) := fun u hu => hcell.out u hu i _ hxa
          have HN : Hid (i + 1 < L → ∃ z : Nat, (∀ u : World, Below wr.heap.size wr u → u.cell? (ad.add (i + 1)) = some (.int .i64 (z : Nat))) ∧ b < (z : Int)) := fun h => by
            obtain ⟨z, h1, h2⟩ := hnext h
            exact ⟨z, fun u hu => h1 u (hcell.out u hu), h2⟩
          have HQ := Lib.hid (And.intro f1 (And.intro hL3 hkle))
          have HAB : Hid ((a : Int) ≤ b) := by show _ ≤ _; omega
          clear f1 f2 f3 f4 f5 hw hk hxa cS cE hnext hlt hiw hcell hb hb0 hyk hi hL3
          rcases Nat.eq_zero_or_pos i with hi0 | hi0
          · by_cases ha0 : a = 0
            · by_cases hnx : i + 1 < L
              · clear hprev
                have p1 : decide ((0 : Int) < (i : Int)) = false := by simp; omega
                have p1n : decide (0 < i) = false := by simp; omega
                have p1m : ¬ 0 < i := by omega
                have p8 : i < L := HLT.out
                clear hi0
                have q1 : ((a : Int) == 0) = true := by simp; omega
                have s2n : decide (s.size < a) = false := decide_eq_false (by have := HQ.out; omega)
                clear ha0
                have r1 : ((a : Int) == (s.size : Int)) = false := by simp; omega
                have r2 : ((s[a].toNat : Int) == 10) = false := (byte_is h4).2 h5
                have m1 : decide ((i : Int) + 1 < (L : Int)) = true := by simp; omega
                have m2 : (0 : Int) ≤ (i : Int) + 1 := by omega
                have m3 : (i : Int) + 1 < (L : Int) := by omega
                have m4 : i + 1 < L := hnx
                obtain ⟨z, hz, hbz⟩ := HN.out hnx
                have m5 : decide ((z : Int) ≤ b) = false := by simp; omega
                have HZ := Lib.hid hz
                clear hz hbz
                clear h5 hnx
                go_wp2_with fail
                go_big_quiet (fail)
                have hWa : Below wr.heap.size wr (wr.drewN nq) := below_gb (gb_drewN wr nq none)
                have hW3 : Below w2.heap.size w2 (wr.drewN nq) := hW.trans (hWa.mono hwr)
                have x1 := hE.out _ hWa
                have x2 := gSu.out _ hWa
                have x3 : (wr.drewN nq).cell? { block := ad.block, off := ad.off + (i + 1) } = _ := HZ.out _ hWa
                generalize wr.drewN nq = w3 at *
                have hwr3 : w2.heap.size ≤ w3.heap.size := hW3.size
                clear hW hWa hE gSu HN gS HZ
                go_wp2_with fail
                go_big_quiet (fail)
                have hW2 : Below w2.heap.size w2 (w3.drewN nq) := hW3.trans ((below_gb (gb_drewN w3 nq none)).mono hwr3)
                go_wp2
                go_roundw
                case rel => exact ⟨i + 1, k + 1, Lib.hid (show i + 1 ≤ L from HLT.out), HK, by go_num, by go_num, hW2⟩
                case measure => have := HLT.out; simp only [intOf]; omega
              · clear hprev
                have p1 : decide ((0 : Int) < (i : Int)) = false := by simp; omega
                have p1n : decide (0 < i) = false := by simp; omega
                have p1m : ¬ 0 < i := by omega
                have p8 : i < L := HLT.out
                clear hi0
                have q1 : ((a : Int) == 0) = true := by simp; omega
                have s2n : decide (s.size < a) = false := decide_eq_false (by have := HQ.out; omega)
                clear ha0
                have r1 : ((a : Int) == (s.size : Int)) = false := by simp; omega
                have r2 : ((s[a].toNat : Int) == 10) = false := (byte_is h4).2 h5
                have m1 : decide ((i : Int) + 1 < (L : Int)) = false := decide_eq_false (by omega)
                have m2 : decide (i + 1 < L) = false := decide_eq_false (by omega)
                have m3 : ¬ ((i : Int) + 1 < (L : Int)) := by omega
                have m4 : ¬ (i + 1 < L) := by omega
                clear h5 hnx
                go_wp2_with fail
                go_big_quiet (fail)
                have hWa : Below wr.heap.size wr (wr.drewN nq) := below_gb (gb_drewN wr nq none)
                have hW3 : Below w2.heap.size w2 (wr.drewN nq) := hW.trans (hWa.mono hwr)
                have x1 := hE.out _ hWa
                have x2 := gSu.out _ hWa
                generalize wr.drewN nq = w3 at *
                have hwr3 : w2.heap.size ≤ w3.heap.size := hW3.size
                clear hW hWa hE gSu HN gS
                go_wp2_with fail
                go_big_quiet (fail)
                have hW2 : Below w2.heap.size w2 (w3.drewN nq) := hW3.trans ((below_gb (gb_drewN w3 nq none)).mono hwr3)
                go_wp2
                go_roundw
                case rel => exact ⟨i + 1, k + 1, Lib.hid (show i + 1 ≤ L from HLT.out), HK, by go_num, by go_num, hW2⟩
                case measure => have := HLT.out; simp only [intOf]; omega
            · by_cases h6 : s.data.toList[a - 1]? = some 10
              · by_cases hnx : i + 1 < L
                · clear hprev
                  have p1 : decide ((0 : Int) < (i : Int)) = false := by simp; omega
                  have p1n : decide (0 < i) = false := by simp; omega
                  have p1m : ¬ 0 < i := by omega
                  have p8 : i < L := HLT.out
                  clear hi0
                  obtain ⟨q, rfl⟩ : ∃ q, a = q + 1 := ⟨a - 1, by omega⟩
                  have q1 : ((q : Int) + 1 == 0) = false := by simp; omega
                  have q2 : IntKind.i64.wrap (q : Int) = (q : Int) := wrap_in (by omega) (by have := HQ.out; have := HSZ.out; omega)
                  have hqs : q < s.size := by have := HQ.out; omega
                  have s1b : decide ((q : Int) + 1 < 0) = false := decide_eq_false (by omega)
                  have s2b : decide ((s.size : Int) < (q : Int) + 1) = false := decide_eq_false (by omega)
                  have s2c : decide ((s.size : Int) ≤ (q : Int)) = false := decide_eq_false (by omega)
                  have s2d : decide (s.size ≤ q) = false := decide_eq_false (by omega)
                  have s2e : decide (s.size < q + 1) = false := decide_eq_false (by omega)
                  have k4b : decide (b < (q : Int) + 1) = false := decide_eq_false (by have := HAB.out; omega)
                  have k4c : decide (b ≤ (q : Int)) = false := decide_eq_false (by have := HAB.out; omega)
                  have q3 : ((s[q].toNat : Int) == 10) = true := (byte_is hqs).1 h6
                  clear h6
                  have r1 : (((q : Int) + 1) == (s.size : Int)) = false := by simp; omega
                  have r2 : ((s[q + 1].toNat : Int) == 10) = false := (byte_is h4).2 h5
                  have m1 : decide ((i : Int) + 1 < (L : Int)) = true := by simp; omega
                  have m2 : (0 : Int) ≤ (i : Int) + 1 := by omega
                  have m3 : (i : Int) + 1 < (L : Int) := by omega
                  have m4 : i + 1 < L := hnx
                  obtain ⟨z, hz, hbz⟩ := HN.out hnx
                  have m5 : decide ((z : Int) ≤ b) = false := by simp; omega
                  have HZ := Lib.hid hz
                  clear hz hbz
                  clear h5 hnx
                  go_wp2_with fail
                  go_big_quiet (fail)
                  have hWa : Below wr.heap.size wr (wr.drewN nq) := below_gb (gb_drewN wr nq none)
                  have hW3 : Below w2.heap.size w2 (wr.drewN nq) := hW.trans (hWa.mono hwr)
                  have x1 := hE.out _ hWa
                  have x2 := gSu.out _ hWa
                  have x3 : (wr.drewN nq).cell? { block := ad.block, off := ad.off + (i + 1) } = _ := HZ.out _ hWa
                  generalize wr.drewN nq = w3 at *
                  have hwr3 : w2.heap.size ≤ w3.heap.size := hW3.size
                  clear hW hWa hE gSu HN gS HZ
                  go_wp2_with fail
                  go_big_quiet (fail)
                  have hW2 : Below w2.heap.size w2 (w3.drewN nq) := hW3.trans ((below_gb (gb_drewN w3 nq none)).mono hwr3)
                  go_wp2
                  go_roundw
                  case rel => exact ⟨i + 1, k + 1, Lib.hid (show i + 1 ≤ L from HLT.out), HK, by go_num, by go_num, hW2⟩
                  case measure => have := HLT.out; simp only [intOf]; omega
                · clear hprev
                  have p1 : decide ((0 : Int) < (i : Int)) = false := by simp; omega
                  have p1n : decide (0 < i) = false := by simp; omega
                  have p1m : ¬ 0 < i := by omega
                  have p8 : i < L := HLT.out
                  clear hi0
                  obtain ⟨q, rfl⟩ : ∃ q, a = q + 1 := ⟨a - 1, by omega⟩
                  have q1 : ((q : Int) + 1 == 0) = false := by simp; omega
                  have q2 : IntKind.i64.wrap (q : Int) = (q : Int) := wrap_in (by omega) (by have := HQ.out; have := HSZ.out; omega)
                  have hqs : q < s.size := by have := HQ.out; omega
                  have s1b : decide ((q : Int) + 1 < 0) = false := decide_eq_false (by omega)
                  have s2b : decide ((s.size : Int) < (q : Int) + 1) = false := decide_eq_false (by omega)
                  have s2c : decide ((s.size : Int) ≤ (q : Int)) = false := decide_eq_false (by omega)
                  have s2d : decide (s.size ≤ q) = false := decide_eq_false (by omega)
                  have s2e : decide (s.size < q + 1) = false := decide_eq_false (by omega)
                  have k4b : decide (b < (q : Int) + 1) = false := decide_eq_false (by have := HAB.out; omega)
                  have k4c : decide (b ≤ (q : Int)) = false := decide_eq_false (by have := HAB.out; omega)
                  have q3 : ((s[q].toNat : Int) == 10) = true := (byte_is hqs).1 h6
                  clear h6
                  have r1 : (((q : Int) + 1) == (s.size : Int)) = false := by simp; omega
                  have r2 : ((s[q + 1].toNat : Int) == 10) = false := (byte_is h4).2 h5
                  have m1 : decide ((i : Int) + 1 < (L : Int)) = false := decide_eq_false (by omega)
                  have m2 : decide (i + 1 < L) = false := decide_eq_false (by omega)
                  have m3 : ¬ ((i : Int) + 1 < (L : Int)) := by omega
                  have m4 : ¬ (i + 1 < L) := by omega
                  clear h5 hnx
                  go_wp2_with fail
                  go_big_quiet (fail)
                  have hWa : Below wr.heap.size wr (wr.drewN nq) := below_gb (gb_drewN wr nq none)
                  have hW3 : Below w2.heap.size w2 (wr.drewN nq) := hW.trans (hWa.mono hwr)
                  have x1 := hE.out _ hWa
                  have x2 := gSu.out _ hWa
                  generalize wr.drewN nq = w3 at *
                  have hwr3 : w2.heap.size ≤ w3.heap.size := hW3.size
                  clear hW hWa hE gSu HN gS
                  go_wp2_with fail
                  go_big_quiet (fail)
                  have hW2 : Below w2.heap.size w2 (w3.drewN nq) := hW3.trans ((below_gb (gb_drewN w3 nq none)).mono hwr3)
                  go_wp2
                  go_roundw
                  case rel => exact ⟨i + 1, k + 1, Lib.hid (show i + 1 ≤ L from HLT.out), HK, by go_num, by go_num, hW2⟩
                  case measure => have := HLT.out; simp only [intOf]; omega
              · by_cases hnx : i + 1 < L
                · clear hprev
                  have p1 : decide ((0 : Int) < (i : Int)) = false := by simp; omega
                  have p1n : decide (0 < i) = false := by simp; omega
                  have p1m : ¬ 0 < i := by omega
                  have p8 : i < L := HLT.out
                  clear hi0
                  obtain ⟨q, rfl⟩ : ∃ q, a = q + 1 := ⟨a - 1, by omega⟩
                  have q1 : ((q : Int) + 1 == 0) = false := by simp; omega
                  have q2 : IntKind.i64.wrap (q : Int) = (q : Int) := wrap_in (by omega) (by have := HQ.out; have := HSZ.out; omega)
                  have hqs : q < s.size := by have := HQ.out; omega
                  have s1b : decide ((q : Int) + 1 < 0) = false := decide_eq_false (by omega)
                  have s2b : decide ((s.size : Int) < (q : Int) + 1) = false := decide_eq_false (by omega)
                  have s2c : decide ((s.size : Int) ≤ (q : Int)) = false := decide_eq_false (by omega)
                  have s2d : decide (s.size ≤ q) = false := decide_eq_false (by omega)
                  have s2e : decide (s.size < q + 1) = false := decide_eq_false (by omega)
                  have k4b : decide (b < (q : Int) + 1) = false := decide_eq_false (by have := HAB.out; omega)
                  have k4c : decide (b ≤ (q : Int)) = false := decide_eq_false (by have := HAB.out; omega)
                  have q3 : ((s[q].toNat : Int) == 10) = false := (byte_is hqs).2 h6
                  clear h6
                  have r1 : (((q : Int) + 1) == (s.size : Int)) = false := by simp; omega
                  have r2 : ((s[q + 1].toNat : Int) == 10) = false := (byte_is h4).2 h5
                  have m1 : decide ((i : Int) + 1 < (L : Int)) = true := by simp; omega
                  have m2 : (0 : Int) ≤ (i : Int) + 1 := by omega
                  have m3 : (i : Int) + 1 < (L : Int) := by omega
                  have m4 : i + 1 < L := hnx
                  obtain ⟨z, hz, hbz⟩ := HN.out hnx
                  have m5 : decide ((z : Int) ≤ b) = false := by simp; omega
                  have HZ := Lib.hid hz
                  clear hz hbz
                  clear h5 hnx
                  go_wp2_with fail
                  go_big_quiet (fail)
                  have hWa : Below wr.heap.size wr (wr.drewN nq) := below_gb (gb_drewN wr nq none)
                  have hW3 : Below w2.heap.size w2 (wr.drewN nq) := hW.trans (hWa.mono hwr)
                  have x1 := hE.out _ hWa
                  have x2 := gSu.out _ hWa
                  have x3 : (wr.drewN nq).cell? { block := ad.block, off := ad.off + (i + 1) } = _ := HZ.out _ hWa
                  generalize wr.drewN nq = w3 at *
                  have hwr3 : w2.heap.size ≤ w3.heap.size := hW3.size
                  clear hW hWa hE gSu HN gS HZ
                  go_wp2_with fail
                  go_big_quiet (fail)
                  have hW2 : Below w2.heap.size w2 (w3.drewN nq) := hW3.trans ((below_gb (gb_drewN w3 nq none)).mono hwr3)
                  go_wp2
                  go_roundw
                  case rel => exact ⟨i + 1, k + 1, Lib.hid (show i + 1 ≤ L from HLT.out), HK, by go_num, by go_num, hW2⟩
                  case measure => have := HLT.out; simp only [intOf]; omega
                · clear hprev
                  have p1 : decide ((0 : Int) < (i : Int)) = false := by simp; omega
                  have p1n : decide (0 < i) = false := by simp; omega
                  have p1m : ¬ 0 < i := by omega
                  have p8 : i < L := HLT.out
                  clear hi0
                  obtain ⟨q, rfl⟩ : ∃ q, a = q + 1 := ⟨a - 1, by omega⟩
                  have q1 : ((q : Int) + 1 == 0) = false := by simp; omega
                  have q2 : IntKind.i64.wrap (q : Int) = (q : Int) := wrap_in (by omega) (by have := HQ.out; have := HSZ.out; omega)
                  have hqs : q < s.size := by have := HQ.out; omega
                  have s1b : decide ((q : Int) + 1 < 0) = false := decide_eq_false (by omega)
                  have s2b : decide ((s.size : Int) < (q : Int) + 1) = false := decide_eq_false (by omega)
                  have s2c : decide ((s.size : Int) ≤ (q : Int)) = false := decide_eq_false (by omega)
                  have s2d : decide (s.size ≤ q) = false := decide_eq_false (by omega)
                  have s2e : decide (s.size < q + 1) = false := decide_eq_false (by omega)
                  have k4b : decide (b < (q : Int) + 1) = false := decide_eq_false (by have := HAB.out; omega)
                  have k4c : decide (b ≤ (q : Int)) = false := decide_eq_false (by have := HAB.out; omega)
                  have q3 : ((s[q].toNat : Int) == 10) = false := (byte_is hqs).2 h6
                  clear h6
                  have r1 : (((q : Int) + 1) == (s.size : Int)) = false := by simp; omega
                  have r2 : ((s[q + 1].toNat : Int) == 10) = false := (byte_is h4).2 h5
                  have m1 : decide ((i : Int) + 1 < (L : Int)) = false := decide_eq_false (by omega)
                  have m2 : decide (i + 1 < L) = false := decide_eq_false (by omega)
                  have m3 : ¬ ((i : Int) + 1 < (L : Int)) := by omega
                  have m4 : ¬ (i + 1 < L) := by omega
                  clear h5 hnx
                  go_wp2_with fail
                  go_big_quiet (fail)
                  have hWa : Below wr.heap.size wr (wr.drewN nq) := below_gb (gb_drewN wr nq none)
                  have hW3 : Below w2.heap.size w2 (wr.drewN nq) := hW.trans (hWa.mono hwr)
                  have x1 := hE.out _ hWa
                  have x2 := gSu.out _ hWa
                  generalize wr.drewN nq = w3 at *
                  have hwr3 : w2.heap.size ≤ w3.heap.size := hW3.size
                  clear hW hWa hE gSu HN gS
                  go_wp2_with fail
                  go_big_quiet (fail)
                  have hW2 : Below w2.heap.size w2 (w3.drewN nq) := hW3.trans ((below_gb (gb_drewN w3 nq none)).mono hwr3)
                  go_wp2
                  go_roundw
                  case rel => exact ⟨i + 1, k + 1, Lib.hid (show i + 1 ≤ L from HLT.out), HK, by go_num, by go_num, hW2⟩
                  case measure => have := HLT.out; simp only [intOf]; omega
          · have ha0 : ¬ a = 0 := by obtain ⟨a0, _, h⟩ := hprev (i - 1) (by omega); omega
            by_cases h6 : s.data.toList[a - 1]? = some 10
            · by_cases hnx : i + 1 < L
              · obtain ⟨j, rfl⟩ : ∃ j, i = j + 1 := ⟨i - 1, by omega⟩
                obtain ⟨a0, gP, hpa⟩ := hprev j rfl
                clear hprev
                have p1 : decide ((0 : Int) < (j : Int) + 1) = true := by simp <;> omega
                have p2 : IntKind.i64.wrap (j : Int) = (j : Int) := wrap_in (by omega) (by have := HLT.out; have := HQ.out; omega)
                have p3 : (0 : Int) ≤ (j : Int) := by omega
                have p9 : (0 : Int) ≤ (j : Int) + 1 := by omega
                have n3b : IntKind.i64.wrap ((j : Int) + 1 + 1) = (j : Int) + 1 + 1 := wrap_in (by omega) (by have := HLT.out; have := HQ.out; omega)
                have p4 : (j : Int) < (L : Int) := by have := HLT.out; omega
                have p5 : j < L := by have := HLT.out; omega
                have p6 : decide ((a : Int) ≤ (a0 : Int)) = false := by simp; omega
                have p7 : (j : Int) + 1 < (L : Int) := by have := HLT.out; omega
                have p8 : j + 1 < L := HLT.out
                have gS2 : wr.cell? { block := ad.block, off := ad.off + (j + 1) } = _ := gS
                obtain ⟨q, rfl⟩ : ∃ q, a = q + 1 := ⟨a - 1, by omega⟩
                have q1 : ((q : Int) + 1 == 0) = false := by simp; omega
                have q2 : IntKind.i64.wrap (q : Int) = (q : Int) := wrap_in (by omega) (by have := HQ.out; have := HSZ.out; omega)
                have hqs : q < s.size := by have := HQ.out; omega
                have s1b : decide ((q : Int) + 1 < 0) = false := decide_eq_false (by omega)
                have s2b : decide ((s.size : Int) < (q : Int) + 1) = false := decide_eq_false (by omega)
                have s2c : decide ((s.size : Int) ≤ (q : Int)) = false := decide_eq_false (by omega)
                have s2d : decide (s.size ≤ q) = false := decide_eq_false (by omega)
                have s2e : decide (s.size < q + 1) = false := decide_eq_false (by omega)
                have p6b : decide ((q : Int) + 1 ≤ (a0 : Int)) = false := decide_eq_false (by omega)
                have p6c : decide ((q : Int) < (a0 : Int)) = false := decide_eq_false (by omega)
                have p6d : decide (q < a0) = false := decide_eq_false (by omega)
                have p6e : decide (q + 1 ≤ a0) = false := decide_eq_false (by omega)
                have k4b : decide (b < (q : Int) + 1) = false := decide_eq_false (by have := HAB.out; omega)
                have k4c : decide (b ≤ (q : Int)) = false := decide_eq_false (by have := HAB.out; omega)
                have q3 : ((s[q].toNat : Int) == 10) = true := (byte_is hqs).1 h6
                clear h6
                have r1 : (((q : Int) + 1) == (s.size : Int)) = false := by simp; omega
                have r2 : ((s[q + 1].toNat : Int) == 10) = false := (byte_is h4).2 h5
                have m1 : decide (((j : Int) + 1) + 1 < (L : Int)) = true := by simp; omega
                have m2 : (0 : Int) ≤ ((j : Int) + 1) + 1 := by omega
                have m3 : ((j : Int) + 1) + 1 < (L : Int) := by omega
                have m4 : (j + 1) + 1 < L := hnx
                obtain ⟨z, hz, hbz⟩ := HN.out hnx
                have m5 : decide ((z : Int) ≤ b) = false := by simp; omega
                have HZ := Lib.hid hz
                clear hz hbz
                have tn : ((j : Int) + 1 + 1).toNat = j + 1 + 1 := by omega
                clear h5 hnx
                go_wp2_with fail
                go_big_quiet (fail)
                have hWa : Below wr.heap.size wr (wr.drewN nq) := below_gb (gb_drewN wr nq none)
                have hW3 : Below w2.heap.size w2 (wr.drewN nq) := hW.trans (hWa.mono hwr)
                have x1 := hE.out _ hWa
                have x2 := gSu.out _ hWa
                have x2b : (wr.drewN nq).cell? { block := ad.block, off := ad.off + (j + 1) } = _ := x2
                have x3 : (wr.drewN nq).cell? { block := ad.block, off := ad.off + (j + 1 + 1) } = _ := HZ.out _ hWa
                generalize wr.drewN nq = w3 at *
                have hwr3 : w2.heap.size ≤ w3.heap.size := hW3.size
                clear hW hWa hE gSu HN gS gS2 gP HZ
                go_wp2_with fail
                go_big_quiet (fail)
                have hW2 : Below w2.heap.size w2 (w3.drewN nq) := hW3.trans ((below_gb (gb_drewN w3 nq none)).mono hwr3)
                go_wp2
                go_roundw
                case rel => exact ⟨(j + 1) + 1, k + 1, Lib.hid (show (j + 1) + 1 ≤ L from HLT.out), HK, by go_num, by go_num, hW2⟩
                case measure => have := HLT.out; simp only [intOf]; omega
              · obtain ⟨j, rfl⟩ : ∃ j, i = j + 1 := ⟨i - 1, by omega⟩
                obtain ⟨a0, gP, hpa⟩ := hprev j rfl
                clear hprev
                have p1 : decide ((0 : Int) < (j : Int) + 1) = true := by simp <;> omega
                have p2 : IntKind.i64.wrap (j : Int) = (j : Int) := wrap_in (by omega) (by have := HLT.out; have := HQ.out; omega)
                have p3 : (0 : Int) ≤ (j : Int) := by omega
                have p9 : (0 : Int) ≤ (j : Int) + 1 := by omega
                have n3b : IntKind.i64.wrap ((j : Int) + 1 + 1) = (j : Int) + 1 + 1 := wrap_in (by omega) (by have := HLT.out; have := HQ.out; omega)
                have p4 : (j : Int) < (L : Int) := by have := HLT.out; omega
                have p5 : j < L := by have := HLT.out; omega
                have p6 : decide ((a : Int) ≤ (a0 : Int)) = false := by simp; omega
                have p7 : (j : Int) + 1 < (L : Int) := by have := HLT.out; omega
                have p8 : j + 1 < L := HLT.out
                have gS2 : wr.cell? { block := ad.block, off := ad.off + (j + 1) } = _ := gS
                obtain ⟨q, rfl⟩ : ∃ q, a = q + 1 := ⟨a - 1, by omega⟩
                have q1 : ((q : Int) + 1 == 0) = false := by simp; omega
                have q2 : IntKind.i64.wrap (q : Int) = (q : Int) := wrap_in (by omega) (by have := HQ.out; have := HSZ.out; omega)
                have hqs : q < s.size := by have := HQ.out; omega
                have s1b : decide ((q : Int) + 1 < 0) = false := decide_eq_false (by omega)
                have s2b : decide ((s.size : Int) < (q : Int) + 1) = false := decide_eq_false (by omega)
                have s2c : decide ((s.size : Int) ≤ (q : Int)) = false := decide_eq_false (by omega)
                have s2d : decide (s.size ≤ q) = false := decide_eq_false (by omega)
                have s2e : decide (s.size < q + 1) = false := decide_eq_false (by omega)
                have p6b : decide ((q : Int) + 1 ≤ (a0 : Int)) = false := decide_eq_false (by omega)
                have p6c : decide ((q : Int) < (a0 : Int)) = false := decide_eq_false (by omega)
                have p6d : decide (q < a0) = false := decide_eq_false (by omega)
                have p6e : decide (q + 1 ≤ a0) = false := decide_eq_false (by omega)
                have k4b : decide (b < (q : Int) + 1) = false := decide_eq_false (by have := HAB.out; omega)
                have k4c : decide (b ≤ (q : Int)) = false := decide_eq_false (by have := HAB.out; omega)
                have q3 : ((s[q].toNat : Int) == 10) = true := (byte_is hqs).1 h6
                clear h6
                have r1 : (((q : Int) + 1) == (s.size : Int)) = false := by simp; omega
                have r2 : ((s[q + 1].toNat : Int) == 10) = false := (byte_is h4).2 h5
                have m1 : decide (((j : Int) + 1) + 1 < (L : Int)) = false := decide_eq_false (by omega)
                have m2 : decide ((j + 1) + 1 < L) = false := decide_eq_false (by omega)
                have m3 : ¬ (((j : Int) + 1) + 1 < (L : Int)) := by omega
                have m4 : ¬ ((j + 1) + 1 < L) := by omega
                clear h5 hnx
                go_wp2_with fail
                go_big_quiet (fail)
                have hWa : Below wr.heap.size wr (wr.drewN nq) := below_gb (gb_drewN wr nq none)
                have hW3 : Below w2.heap.size w2 (wr.drewN nq) := hW.trans (hWa.mono hwr)
                have x1 := hE.out _ hWa
                have x2 := gSu.out _ hWa
                have x2b : (wr.drewN nq).cell? { block := ad.block, off := ad.off + (j + 1) } = _ := x2
                generalize wr.drewN nq = w3 at *
                have hwr3 : w2.heap.size ≤ w3.heap.size := hW3.size
                clear hW hWa hE gSu HN gS gS2 gP
                go_wp2_with fail
                go_big_quiet (fail)
                have hW2 : Below w2.heap.size w2 (w3.drewN nq) := hW3.trans ((below_gb (gb_drewN w3 nq none)).mono hwr3)
                go_wp2
                go_roundw
                case rel => exact ⟨(j + 1) + 1, k + 1, Lib.hid (show (j + 1) + 1 ≤ L from HLT.out), HK, by go_num, by go_num, hW2⟩
                case measure => have := HLT.out; simp only [intOf]; omega
            · by_cases hnx : i + 1 < L
              · obtain ⟨j, rfl⟩ : ∃ j, i = j + 1 := ⟨i - 1, by omega⟩
                obtain ⟨a0, gP, hpa⟩ := hprev j rfl
                clear hprev
                have p1 : decide ((0 : Int) < (j : Int) + 1) = true := by simp <;> omega
                have p2 : IntKind.i64.wrap (j : Int) = (j : Int) := wrap_in (by omega) (by have := HLT.out; have := HQ.out; omega)
                have p3 : (0 : Int) ≤ (j : Int) := by omega
                have p9 : (0 : Int) ≤ (j : Int) + 1 := by omega
                have n3b : IntKind.i64.wrap ((j : Int) + 1 + 1) = (j : Int) + 1 + 1 := wrap_in (by omega) (by have := HLT.out; have := HQ.out; omega)
                have p4 : (j : Int) < (L : Int) := by have := HLT.out; omega
                have p5 : j < L := by have := HLT.out; omega
                have p6 : decide ((a : Int) ≤ (a0 : Int)) = false := by simp; omega
                have p7 : (j : Int) + 1 < (L : Int) := by have := HLT.out; omega
                have p8 : j + 1 < L := HLT.out
                have gS2 : wr.cell? { block := ad.block, off := ad.off + (j + 1) } = _ := gS
                obtain ⟨q, rfl⟩ : ∃ q, a = q + 1 := ⟨a - 1, by omega⟩
                have q1 : ((q : Int) + 1 == 0) = false := by simp; omega
                have q2 : IntKind.i64.wrap (q : Int) = (q : Int) := wrap_in (by omega) (by have := HQ.out; have := HSZ.out; omega)
                have hqs : q < s.size := by have := HQ.out; omega
                have s1b : decide ((q : Int) + 1 < 0) = false := decide_eq_false (by omega)
                have s2b : decide ((s.size : Int) < (q : Int) + 1) = false := decide_eq_false (by omega)
                have s2c : decide ((s.size : Int) ≤ (q : Int)) = false := decide_eq_false (by omega)
                have s2d : decide (s.size ≤ q) = false := decide_eq_false (by omega)
                have s2e : decide (s.size < q + 1) = false := decide_eq_false (by omega)
                have p6b : decide ((q : Int) + 1 ≤ (a0 : Int)) = false := decide_eq_false (by omega)
                have p6c : decide ((q : Int) < (a0 : Int)) = false := decide_eq_false (by omega)
                have p6d : decide (q < a0) = false := decide_eq_false (by omega)
                have p6e : decide (q + 1 ≤ a0) = false := decide_eq_false (by omega)
                have k4b : decide (b < (q : Int) + 1) = false := decide_eq_false (by have := HAB.out; omega)
                have k4c : decide (b ≤ (q : Int)) = false := decide_eq_false (by have := HAB.out; omega)
                have q3 : ((s[q].toNat : Int) == 10) = false := (byte_is hqs).2 h6
                clear h6
                have r1 : (((q : Int) + 1) == (s.size : Int)) = false := by simp; omega
                have r2 : ((s[q + 1].toNat : Int) == 10) = false := (byte_is h4).2 h5
                have m1 : decide (((j : Int) + 1) + 1 < (L : Int)) = true := by simp; omega
                have m2 : (0 : Int) ≤ ((j : Int) + 1) + 1 := by omega
                have m3 : ((j : Int) + 1) + 1 < (L : Int) := by omega
                have m4 : (j + 1) + 1 < L := hnx
                obtain ⟨z, hz, hbz⟩ := HN.out hnx
                have m5 : decide ((z : Int) ≤ b) = false := by simp; omega
                have HZ := Lib.hid hz
                clear hz hbz
                have tn : ((j : Int) + 1 + 1).toNat = j + 1 + 1 := by omega
                clear h5 hnx
                go_wp2_with fail
                go_big_quiet (fail)
                have hWa : Below wr.heap.size wr (wr.drewN nq) := below_gb (gb_drewN wr nq none)
                have hW3 : Below w2.heap.size w2 (wr.drewN nq) := hW.trans (hWa.mono hwr)
                have x1 := hE.out _ hWa
                have x2 := gSu.out _ hWa
                have x2b : (wr.drewN nq).cell? { block := ad.block, off := ad.off + (j + 1) } = _ := x2
                have x3 : (wr.drewN nq).cell? { block := ad.block, off := ad.off + (j + 1 + 1) } = _ := HZ.out _ hWa
                generalize wr.drewN nq = w3 at *
                have hwr3 : w2.heap.size ≤ w3.heap.size := hW3.size
                clear hW hWa hE gSu HN gS gS2 gP HZ
                go_wp2_with fail
                go_big_quiet (fail)
                have hW2 : Below w2.heap.size w2 (w3.drewN nq) := hW3.trans ((below_gb (gb_drewN w3 nq none)).mono hwr3)
                go_wp2
                go_roundw
                case rel => exact ⟨(j + 1) + 1, k + 1, Lib.hid (show (j + 1) + 1 ≤ L from HLT.out), HK, by go_num, by go_num, hW2⟩
                case measure => have := HLT.out; simp only [intOf]; omega
              · obtain ⟨j, rfl⟩ : ∃ j, i = j + 1 := ⟨i - 1, by omega⟩
                obtain ⟨a0, gP, hpa⟩ := hprev j rfl
                clear hprev
                have p1 : decide ((0 : Int) < (j : Int) + 1) = true := by simp <;> omega
                have p2 : IntKind.i64.wrap (j : Int) = (j : Int) := wrap_in (by omega) (by have := HLT.out; have := HQ.out; omega)
                have p3 : (0 : Int) ≤ (j : Int) := by omega
                have p9 : (0 : Int) ≤ (j : Int) + 1 := by omega
                have n3b : IntKind.i64.wrap ((j : Int) + 1 + 1) = (j : Int) + 1 + 1 := wrap_in (by omega) (by have := HLT.out; have := HQ.out; omega)
                have p4 : (j : Int) < (L : Int) := by have := HLT.out; omega
                have p5 : j < L := by have := HLT.out; omega
                have p6 : decide ((a : Int) ≤ (a0 : Int)) = false := by simp; omega
                have p7 : (j : Int) + 1 < (L : Int) := by have := HLT.out; omega
                have p8 : j + 1 < L := HLT.out
                have gS2 : wr.cell? { block := ad.block, off := ad.off + (j + 1) } = _ := gS
                obtain ⟨q, rfl⟩ : ∃ q, a = q + 1 := ⟨a - 1, by omega⟩
                have q1 : ((q : Int) + 1 == 0) = false := by simp; omega
                have q2 : IntKind.i64.wrap (q : Int) = (q : Int) := wrap_in (by omega) (by have := HQ.out; have := HSZ.out; omega)
                have hqs : q < s.size := by have := HQ.out; omega
                have s1b : decide ((q : Int) + 1 < 0) = false := decide_eq_false (by omega)
                have s2b : decide ((s.size : Int) < (q : Int) + 1) = false := decide_eq_false (by omega)
                have s2c : decide ((s.size : Int) ≤ (q : Int)) = false := decide_eq_false (by omega)
                have s2d : decide (s.size ≤ q) = false := decide_eq_false (by omega)
                have s2e : decide (s.size < q + 1) = false := decide_eq_false (by omega)
                have p6b : decide ((q : Int) + 1 ≤ (a0 : Int)) = false := decide_eq_false (by omega)
                have p6c : decide ((q : Int) < (a0 : Int)) = false := decide_eq_false (by omega)
                have p6d : decide (q < a0) = false := decide_eq_false (by omega)
                have p6e : decide (q + 1 ≤ a0) = false := decide_eq_false (by omega)
                have k4b : decide (b < (q : Int) + 1) = false := decide_eq_false (by have := HAB.out; omega)
                have k4c : decide (b ≤ (q : Int)) = false := decide_eq_false (by have := HAB.out; omega)
                have q3 : ((s[q].toNat : Int) == 10) = false := (byte_is hqs).2 h6
                clear h6
                have r1 : (((q : Int) + 1) == (s.size : Int)) = false := by simp; omega
                have r2 : ((s[q + 1].toNat : Int) == 10) = false := (byte_is h4).2 h5
                have m1 : decide (((j : Int) + 1) + 1 < (L : Int)) = false := decide_eq_false (by omega)
                have m2 : decide ((j + 1) + 1 < L) = false := decide_eq_false (by omega)
                have m3 : ¬ (((j : Int) + 1) + 1 < (L : Int)) := by omega
                have m4 : ¬ ((j + 1) + 1 < L) := by omega
                clear h5 hnx
                go_wp2_with fail
                go_big_quiet (fail)
                have hWa : Below wr.heap.size wr (wr.drewN nq) := below_gb (gb_drewN wr nq none)
                have hW3 : Below w2.heap.size w2 (wr.drewN nq) := hW.trans (hWa.mono hwr)
                have x1 := hE.out _ hWa
                have x2 := gSu.out _ hWa
                have x2b : (wr.drewN nq).cell? { block := ad.block, off := ad.off + (j + 1) } = _ := x2
                generalize wr.drewN nq = w3 at *
                have hwr3 : w2.heap.size ≤ w3.heap.size := hW3.size
                clear hW hWa hE gSu HN gS gS2 gP
                go_wp2_with fail
                go_big_quiet (fail)
                have hW2 : Below w2.heap.size w2 (w3.drewN nq) := hW3.trans ((below_gb (gb_drewN w3 nq none)).mono hwr3)
                go_wp2
                go_roundw
                case rel => exact ⟨(j + 1) + 1, k + 1, Lib.hid (show (j + 1) + 1 ≤ L from HLT.out), HK, by go_num, by go_num, hW2⟩
                case measure => have := HLT.out; simp only [intOf]; omega
      · obtain rfl : i = L := by have := hi.out; omega
        have n1 : decide ((i : Int) < (i : Int)) = false := by simp
        have hkM : k = M := by rw [hk.out, ← hL.out, HXL.out, Hop.cnt_all, hys.out, hM.out]
        subst hkM
        clear hlt hk
        cases big with
        | false =>
          go_wp2_with fail
          go_loopw [12] (fun iv wx => ∃ m : Nat, Hid (m ≤ i) ∧ iv = .int .i64 m ∧ Below w2.heap.size w2 wx) (fun iv _ => ((i : Int) - intOf iv).toNat)
          case atStart => exact ⟨0, Lib.hid (Nat.zero_le _), rfl, hW⟩
          case round =>
            obtain ⟨m, hm, rfl, hX⟩ := hrel
            clear hW
            have hL3 : i ≤ 301 := by have := HL.out; have := HXL.out; have := hL.out; omega
            have n3 : IntKind.i64.wrap ((m : Int) + 1) = (m : Int) + 1 := wrap_in (by omega) (by have := hm.out; omega)
            by_cases hnx : m + 1 < i
            · obtain ⟨⟨a, b⟩, hw⟩ : ∃ x, (Hop.words s.data.toList false)[m]? = some x := ⟨_, List.getElem?_eq_getElem (by rw [← HXL.out, hL.out]; omega)⟩
              obtain ⟨⟨c, d⟩, hv⟩ : ∃ x, (Hop.words s.data.toList false)[m + 1]? = some x := ⟨_, List.getElem?_eq_getElem (by rw [← HXL.out, hL.out]; omega)⟩
              have pa := (Hop.word_at HD.out hw).2.1
              have pc := (Hop.word_at HD.out hv).2.1
              have C1 := fun w => G.out (a : Int) (⟨#[119]⟩ : ByteArray) w
              have C2 := fun w => G.out (c : Int) (⟨#[98]⟩ : ByteArray) w
              simp only [Hop.step_on (k := [119]) (m := 0) (big := false) rfl pa (Hop.go_on hw hv), Hop.res_at (Int.natCast_nonneg c)] at C1
              simp only [Hop.step_on (k := [98]) (m := 1) (big := false) rfl pc (Hop.go_back hw hv), Hop.res_at (Int.natCast_nonneg a)] at C2
              have C1 := Lib.hid C1
              have C2 := Lib.hid C2
              obtain ⟨ad, rfl, _⟩ := ints_cell I1.out (by rw [hL.out]; omega) hX
              have HC : Hid (∀ u : World, Below w2.heap.size w2 u → u.cell? (ad.add m) = some (.int .i64 (a : Nat)) ∧ u.cell? { block := ad.block, off := ad.off + (m + 1) } = some (.int .i64 (c : Nat))) := fun u hu => by
                obtain ⟨ad', e, h⟩ := ints_cell I1.out (by rw [hL.out]; omega) hu
                cases e
                exact ⟨h m _ (by rw [← hxs.out]; exact Hop.starts_at hw), h (m + 1) _ (by rw [← hxs.out]; exact Hop.starts_at hv)⟩
              obtain ⟨g1, g2⟩ := HC.out _ hX
              have m1 : decide ((m : Int) + 1 < (i : Int)) = true := by simp; omega
              have m2 : (0 : Int) ≤ (m : Int) + 1 := by omega
              have m3 : (m : Int) < (i : Int) := by omega
              have m4 : m < i := by omega
              have m5 : (m : Int) + 1 < (i : Int) := by omega
              have HNX := Lib.hid hnx
              clear hw hv pa pc hL3
              go_wp2_with fail
              refine (C1.out _).mono ?_
              rintro e u1 ⟨rfl, hb1⟩
              have hX1 := hX.trans (hb1.mono hX.size)
              obtain ⟨g3, g4⟩ := HC.out _ hX1
              clear hX hb1 g1 g2
              go_wp2_with fail
              refine (C2.out _).mono ?_
              rintro e u2 ⟨rfl, hb2⟩
              have hX2 := hX1.trans (hb2.mono hX1.size)
              obtain ⟨g5, g6⟩ := HC.out _ hX2
              clear hX1 hb2 g3 g4
              go_wp2_with fail
              go_roundw
              case rel => exact ⟨m + 1, Lib.hid (show m + 1 ≤ i from by have := HNX.out; omega), by go_num, hX2⟩
              case measure => have := HNX.out; simp only [intOf]; omega
            · have m1 : decide ((m : Int) + 1 < (i : Int)) = false := by simp; omega
              clear hnx hL3
              have hY := HW.out.trans (hX.mono HW.out.size)
              clear hX
              go_wp2_with fail
              refine (hop_lives _).mono ?_
              rintro e u1 ⟨rfl, hb1⟩
              have hZ := hop_below hY hb1
              go_wp2
              go_ret
              exact ⟨rfl, hZ⟩
        | true =>
          go_wp2_with fail
          go_loopw [12] (fun iv wx => ∃ m : Nat, Hid (m ≤ i) ∧ iv = .int .i64 m ∧ Below w2.heap.size w2 wx) (fun iv _ => ((i : Int) - intOf iv).toNat)
          case atStart => exact ⟨0, Lib.hid (Nat.zero_le _), rfl, hW⟩
          case round =>
            obtain ⟨m, hm, rfl, hX⟩ := hrel
            clear hW
            have hL3 : i ≤ 301 := by have := HL.out; have := HXL.out; have := hL.out; omega
            have n3 : IntKind.i64.wrap ((m : Int) + 1) = (m : Int) + 1 := wrap_in (by omega) (by have := hm.out; omega)
            by_cases hnx : m + 1 < i
            · obtain ⟨⟨a, b⟩, hw⟩ : ∃ x, (Hop.words s.data.toList true)[m]? = some x := ⟨_, List.getElem?_eq_getElem (by rw [← HXL.out, hL.out]; omega)⟩
              obtain ⟨⟨c, d⟩, hv⟩ : ∃ x, (Hop.words s.data.toList true)[m + 1]? = some x := ⟨_, List.getElem?_eq_getElem (by rw [← HXL.out, hL.out]; omega)⟩
              have pa := (Hop.word_at HD.out hw).2.1
              have pc := (Hop.word_at HD.out hv).2.1
              have C1 := fun w => G.out (a : Int) (⟨#[87]⟩ : ByteArray) w
              have C2 := fun w => G.out (c : Int) (⟨#[66]⟩ : ByteArray) w
              simp only [Hop.step_on (k := [87]) (m := 0) (big := true) rfl pa (Hop.go_on hw hv), Hop.res_at (Int.natCast_nonneg c)] at C1
              simp only [Hop.step_on (k := [66]) (m := 1) (big := true) rfl pc (Hop.go_back hw hv), Hop.res_at (Int.natCast_nonneg a)] at C2
              have C1 := Lib.hid C1
              have C2 := Lib.hid C2
              obtain ⟨ad, rfl, _⟩ := ints_cell I1.out (by rw [hL.out]; omega) hX
              have HC : Hid (∀ u : World, Below w2.heap.size w2 u → u.cell? (ad.add m) = some (.int .i64 (a : Nat)) ∧ u.cell? { block := ad.block, off := ad.off + (m + 1) } = some (.int .i64 (c : Nat))) := fun u hu => by
                obtain ⟨ad', e, h⟩ := ints_cell I1.out (by rw [hL.out]; omega) hu
                cases e
                exact ⟨h m _ (by rw [← hxs.out]; exact Hop.starts_at hw), h (m + 1) _ (by rw [← hxs.out]; exact Hop.starts_at hv)⟩
              obtain ⟨g1, g2⟩ := HC.out _ hX
              have m1 : decide ((m : Int) + 1 < (i : Int)) = true := by simp; omega
              have m2 : (0 : Int) ≤ (m : Int) + 1 := by omega
              have m3 : (m : Int) < (i : Int) := by omega
              have m4 : m < i := by omega
              have m5 : (m : Int) + 1 < (i : Int) := by omega
              have HNX := Lib.hid hnx
              clear hw hv pa pc hL3
              go_wp2_with fail
              refine (C1.out _).mono ?_
              rintro e u1 ⟨rfl, hb1⟩
              have hX1 := hX.trans (hb1.mono hX.size)
              obtain ⟨g3, g4⟩ := HC.out _ hX1
              clear hX hb1 g1 g2
              go_wp2_with fail
              refine (C2.out _).mono ?_
              rintro e u2 ⟨rfl, hb2⟩
              have hX2 := hX1.trans (hb2.mono hX1.size)
              obtain ⟨g5, g6⟩ := HC.out _ hX2
              clear hX1 hb2 g3 g4
              go_wp2_with fail
              go_roundw
              case rel => exact ⟨m + 1, Lib.hid (show m + 1 ≤ i from by have := HNX.out; omega), by go_num, hX2⟩
              case measure => have := HNX.out; simp only [intOf]; omega
            · have m1 : decide ((m : Int) + 1 < (i : Int)) = false := by simp; omega
              clear hnx hL3
              have hY := HW.out.trans (hX.mono HW.out.size)
              clear hX
              go_wp2_with fail
              refine (hop_lives _).mono ?_
              rintro e u1 ⟨rfl, hb1⟩
              have hZ := hop_below hY hb1
              go_wp2
              go_ret
              exact ⟨rfl, hZ⟩
section
open Go.ChangeShapes Go.WideShapes Go.ChangeAt
open Go.ChangeMaps (open_string)
set_option maxRecDepth 100000 in
theorem hopAlternate_lifted (os : Os) (started : os.Started) (H : Type) (enc : TypeId × Value → H) :
    ReturnsInHanded {} Try.checked os 6 .any (Rows.hopAlternateSpec.pre6 enc Try.prog Try.f6 Rows.hopAlternateRow.domain false) (Rows.hopAlternateSpec.post enc Try.prog Try.f6 false true false false) := by
  refine returnsInHanded_of_change_sized (C := Try.checked) own_knob started (by kernel_rfl) Try.func6
    (ChangeSpec.witness6 (enc := enc) (C := Try.checked) false ⟨#[], #[.string .empty, .bool false], []⟩ 8 (by kernel_rfl) (by kernel_rfl) (by kernel_rfl) (by kernel_rfl)) ?_
  intro W base args ds gs before hval0 hW _ hsz0 _
  have hsz : (DataW.weightsEach Try.prog (Try.f6.params.toList ++ Rows.hopAlternateSpec.plain.varTypes Try.prog) (ds ++ gs)).all (· ≤ reachBytes) = true := hsz0
  clear hsz0
  have hval : ∀ (j : Nat) t v, Try.f6.params[j]? = some t → args[j]? = some v → Value.okWide Try.prog W .any base t v := hval0
  have hW' := hW
  obtain ⟨p, q, hA0, hV, rfl, hfz, hnd⟩ := hW
  have hA : DataW.TrodAll enc Try.prog W 0 (fun _ => true) true Try.f6.params.toList args.toList ds p := hA0
  rw [Try.params6] at hA hval hsz
  obtain ⟨v0, vs0, d0, ds0, p0, q0, hargs, rfl, rfl, h0, r0⟩ := trodAll_cons hA
  obtain ⟨v1, vs1, d1, ds1, p1, q1, rfl, rfl, rfl, h1, r1⟩ := trodAll_cons r0
  obtain ⟨rfl, rfl, rfl⟩ := trodAll_nil r1
  obtain rfl : args = #[v0, v1] := by cases args; simp_all
  obtain ⟨rfl, rfl⟩ := trodVars_none hV
  obtain ⟨s0, rfl, rfl, rfl, hmax0⟩ := open_string Try.underlying9 (hval 0 9 v0 rfl rfl) h0
  have hs0 : s0.size ≤ 140737488351232 := by rw [← data_len]; exact sized_string hsz (j := 0) (t := 9) rfl rfl
  obtain ⟨b1, rfl, rfl, rfl⟩ := open_bool Try.underlying4 (hval 1 4 v1 rfl rfl) h1
  refine (hopAlternate_walk s0 b1 _).mono fun e W' ⟨he, hb⟩ => ?_
  subst he
  exact ⟨_, rfl, law_post rfl rfl (by rw [Try.params6]; decide +kernel) ⟨rfl, rfl, rfl⟩ hW' hb⟩
theorem hopAlternate_holds : Rows.HopAlternateSaid :=
  OpenClaim.holds_of_wide 6 Try.f6 rfl rfl rfl rfl rfl rfl rfl ⟨rfl, rfl, rfl, rfl, rfl⟩ rfl rfl rfl rfl rfl (by kernel_rfl) Try.func6 (by kernel_rfl)
    (of_decide_eq_true (by kernel_rfl)) (by unfold Func.isWrapper; first | (rw [if_pos (by decide +kernel)]; kernel_rfl) | (rw [if_neg (by decide +kernel)]; exact ⟨rfl, rfl⟩))
    (fun os started H enc _ => hopAlternate_lifted os started H enc)
end
end Go.Proofs.Ytjkcdmlbnfibgaa
