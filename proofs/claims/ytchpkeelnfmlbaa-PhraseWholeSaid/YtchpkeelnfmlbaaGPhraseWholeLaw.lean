/-
  'calamuslaw26.PhraseWhole' answers true for every two texts: what is a command is no beginning of another one.
-/
import Derived.Test.YtchpkeelnfmlbaaJ
import Derived.Test.YtchpkeelnfmlbaaUtfValid
import Derived.Test.YtchpkeelnfmlbaaFrame
namespace Go.Proofs.Ytchpkeelnfmlbaa
open Go.RowKit
open Phr (Cmd Ans)
namespace Phr
open Utf
/-- What the law's loop finds of a beginning. -/
structure Begin (visual : Bool) (s : ByteArray) (x : Int) (k : Nat) (r : List UInt8) (e : Cmd) (y : Int) : Prop where
  at_ : ((off (Key.split s.data.toList) k : Nat) : Int) ≤ s.size
  next : off (Key.split s.data.toList) (k + 1) = off (Key.split s.data.toList) k + r.length
  small : off (Key.split s.data.toList) (k + 1) ≤ s.size
  part : s.extract 0 (off (Key.split s.data.toList) k) = bs ((Key.split s.data.toList).take k).flatten
  ans : ans visual ((Key.split s.data.toList).take k).flatten = (e, y)
  kind : y = 1 ∨ y ≠ 1 ∧ x = 3
theorem begin {visual : Bool} {s : ByteArray} {c : Cmd} {x : Int} (hX : Phr.ans visual s.data.toList = (c, x)) {k : Nat} {r : List UInt8} (hr : (Key.split s.data.toList)[k]? = some r) : ∃ e y, Begin visual s x k r e y := by
  have hne : Key.err s.data.toList = 0 := by
    rcases Int.lt_or_le 0 1 with _ | _
    · by_cases h : Key.err s.data.toList = 0
      · exact h
      · rw [Key.split_no h] at hr; simp at hr
    · omega
  obtain ⟨rs, hd, hk⟩ := Key.err_zero hne
  have hsp := Key.split_ok hd hk
  rw [hsp] at hr
  have hlt := (List.getElem?_eq_some_iff.1 hr).1
  have hl : s.data.toList.length = s.size := by simp
  have h1 := off_in hd k
  have h2 := off_in hd (k + 1)
  have hs := (dec_some hd).2
  rw [hl] at h1 h2
  obtain ⟨e, y, hy⟩ : ∃ e y, Phr.ans visual (rs.take k).flatten = (e, y) := ⟨_, _, rfl⟩
  refine ⟨e, y, ?_, ?_, ?_, ?_, ?_, ?_⟩
  all_goals (try rw [hsp])
  · omega
  · exact off_next hr
  · exact h2
  · rw [Lib.extract_eq]
    show bs _ = _
    rw [Nat.sub_zero, List.drop_zero, hs, off_take]
  · exact hy
  · rcases ans_begins (visual := visual) hd hlt with h | ⟨h, h3⟩
    · rw [hy] at h
      exact .inl (by rw [more] at h; injection h)
    · rw [hX] at h3
      refine .inr ⟨?_, by rw [bad] at h3; injection h3⟩
      intro e1
      rcases ans_fine visual (rs.take k).flatten with f | f | f
      · exact h f
      · rw [hy] at f; rw [bad] at f; injection f with _ f; omega
      · rw [hy] at f; have := f.1; simp only at this; omega
theorem err_split_len (s : ByteArray) : (Key.split s.data.toList).length ≤ s.size := by
  have hl : s.data.toList.length = s.size := by simp
  by_cases h : Key.err s.data.toList = 0
  · obtain ⟨rs, hd, hk⟩ := Key.err_zero h
    rw [Key.split_ok hd hk]
    have h3 := off_ge hd (i := rs.length) (Nat.le_refl _)
    rw [off_top hd (Nat.le_refl _), hl] at h3
    exact h3
  · rw [Key.split_no h]; simp
end Phr
set_option maxHeartbeats 2000000 in
set_option maxRecDepth 100000 in
theorem phr_whole_1x {s t : ByteArray} {v : Bool} {c : Cmd} (hs : s.size ≤ 60) (ht : t.size ≤ 60) (hX : Phr.ans v s.data.toList = (c, 1)) (hc : c = Phr.zero) (w : World) :
    Calls Try.prog 3 #[.string s, .string t, .bool v] w fun e w' => e = .returned (.bool true) ∧ Below w.heap.size w w' := by
  obtain ⟨d, z, hZ⟩ : ∃ d z, Phr.ans v (s ++ t).data.toList = (d, z) := ⟨_, _, rfl⟩
  have E1 : ∀ w, (binOp .neq 24 (.agg #[.int .i64 c.reg, .int .i64 c.count, .string (bs c.op), .string (bs c.key), .string (bs c.arg)]) (.agg #[.int .i64 0, .int .i64 0, .string ⟨#[]⟩, .string ⟨#[]⟩, .string ⟨#[]⟩])).run Try.prog w = .ok (.bool false) w := fun w => by subst hc; exact neq_cmd Phr.zero Phr.zero w
  clear hc
  have P1 := Lib.hid (fun w => phr_ans (visual := v) (by omega : s.size ≤ 1000000000000) hX w)
  have PZ := Lib.hid (fun w => phr_ans (visual := v) (by rw [ByteArray.size_append]; omega : (s ++ t).size ≤ 1000000000000) hZ w)
  have SP := Lib.hid (fun w => key_Split s (by omega) w)
  have LV := Lib.hid (fun w => phr_lives w)
  have BG := Lib.hid (fun (k : Nat) (hk : k < (Key.split s.data.toList).length) => Phr.begin hX (List.getElem?_eq_getElem hk))
  have HL := Phr.err_split_len s
  have hsum : ¬ 9223372036854775807 < s.size + t.size := by omega
  clear hX hZ
  go_enter Try.func3, Try.ntmps3
  go_wp2_with (first
    | (go_at_call 5; refine (P1.out _).mono ?_; rintro e w1 ⟨rfl, hb1⟩; clear P1; generalize hu : w1.alloc (.cells #[.int .i64 0, .int .i64 0, .string ⟨#[]⟩, .string ⟨#[]⟩, .string ⟨#[]⟩] 24) = u0 at *; obtain ⟨⟨ux0, uy0⟩, ⟨ux1, uy1⟩, ⟨ux2, uy2⟩, ⟨ux3, uy3⟩, ⟨ux4, uy4⟩, uB, uW⟩ := Phr.box5 c hu; generalize hu1 : u0.setCell ⟨w1.heap.size, 0, none⟩ (.int .i64 c.reg) = u1 at *; generalize hu2 : u1.setCell ⟨w1.heap.size, 1, none⟩ (.int .i64 c.count) = u2 at *; generalize hu3 : u2.setCell ⟨w1.heap.size, 2, none⟩ (.string (bs c.op)) = u3 at *; generalize hu4 : u3.setCell ⟨w1.heap.size, 3, none⟩ (.string (bs c.key)) = u4 at *; generalize hu5 : u4.setCell ⟨w1.heap.size, 4, none⟩ (.string (bs c.arg)) = u5 at *; have UW := hb1.trans (uW.mono hb1.size); have uc0 := uB.cell 0; have uc1 := uB.cell 1; have uc2 := uB.cell 2; have uc3 := uB.cell 3; have uc4 := uB.cell 4; simp at uc0 uc1 uc2 uc3 uc4)
    | (go_at_call 6; refine (SP.out _).mono ?_; rintro e w2 ⟨A, cp, rfl, hS, hb2⟩; clear SP; have UB := Lib.hid (uB.below hb2 uB.lt); have hbl := Nat.lt_of_lt_of_le uB.lt hb2.size; have UW2 := Lib.hid (UW.trans (hb2.mono UW.size)); have HS := Lib.hid hS; clear hb2 hS uB uW UW))
  go_loopw [11, 12] (fun av iv wr => ∃ k : Nat, k ≤ (Key.split s.data.toList).length ∧ iv = .int .i64 k ∧ av = .int .i64 (Utf.off (Key.split s.data.toList) k : Nat) ∧ Below w2.heap.size w2 wr) (fun _ iv _ => (Key.split s.data.toList).length - (intOf iv).toNat)
  case atStart => exact ⟨0, Nat.zero_le _, rfl, by rw [Utf.off_zero]; rfl, Below.refl _ _⟩
  case round =>
    obtain ⟨k, hk, rfl, rfl, hW⟩ := hrel
    by_cases hlt : k < (Key.split s.data.toList).length
    · obtain ⟨ad, rfl, hab, hcells⟩ := HS.out (by rw [List.length_map]; omega)
      obtain ⟨e, y, B⟩ := BG.out k hlt
      have Q1 : Hid (∀ u, Below w2.heap.size w2 u → u.cell? (ad.add k) = some (.string (bs (Key.split s.data.toList)[k]))) := Lib.hid (fun u hu => (hu.cell (p := ad.add k) (by rw [block_of_add]; exact hab)).trans (hcells k _ (by rw [List.getElem?_map, List.getElem?_eq_getElem hlt]; rfl)))
      obtain ⟨b1, b2, b3, b4, b5, b6⟩ := B
      have PY := Lib.hid (fun w => phr_ans (s := bs ((Key.split s.data.toList).take k).flatten) (visual := v) (by rw [← b4, ByteArray.size_extract]; omega) b5 w)
      have hri : (bs (Key.split s.data.toList)[k]).size = (Key.split s.data.toList)[k].length := bs_size _
      clear b5 hcells
      generalize bs (Key.split s.data.toList)[k] = R at *
      generalize (Key.split s.data.toList)[k].length = rl at *
      generalize bs ((Key.split s.data.toList).take k).flatten = PT at *
      generalize hof : Utf.off (Key.split s.data.toList) k = a at *
      generalize hof2 : Utf.off (Key.split s.data.toList) (k + 1) = a2 at *
      have hmin : min (a : Int) (s.size : Int) = a := by omega
      have z : wrap64 ((a : Int) + (rl : Int)) = (a2 : Int) := by unfold wrap64; omega
      have hk1 : (k : Int) < (Key.split s.data.toList).length := by omega
      have hkn : k + 1 ≤ (Key.split s.data.toList).length := by omega
      clear BG HS hof LV PZ
      obtain rfl : y = 1 := by omega
      clear b1 b2 b3 b6
      go_wp2_with (first
        | (go_at_call 5; refine (PY.out _).mono ?_; rintro e1 w4 ⟨rfl, hb4⟩; clear PY; generalize hv : w4.alloc (.cells #[.int .i64 0, .int .i64 0, .string ⟨#[]⟩, .string ⟨#[]⟩, .string ⟨#[]⟩] 24) = v0 at *; obtain ⟨⟨vx0, vy0⟩, ⟨vx1, vy1⟩, ⟨vx2, vy2⟩, ⟨vx3, vy3⟩, ⟨vx4, vy4⟩, vB, vW⟩ := Phr.box5 e hv; generalize hv1 : v0.setCell ⟨w4.heap.size, 0, none⟩ (.int .i64 e.reg) = v1 at *; generalize hv2 : v1.setCell ⟨w4.heap.size, 1, none⟩ (.int .i64 e.count) = v2 at *; generalize hv3 : v2.setCell ⟨w4.heap.size, 2, none⟩ (.string (bs e.op)) = v3 at *; generalize hv4 : v3.setCell ⟨w4.heap.size, 3, none⟩ (.string (bs e.key)) = v4 at *; generalize hv5 : v4.setCell ⟨w4.heap.size, 4, none⟩ (.string (bs e.arg)) = v5 at *; have VW := hW.trans ((hb4.trans (vW.mono hb4.size)).mono hW.size); have q2 := Q1.out _ VW; clear hb4 vW vB))
      go_roundw
      case rel => exact ⟨k + 1, hkn, by go_num, by rw [hof2, ← z], VW⟩
      case measure => simp [intOf]; omega
    · obtain rfl : k = (Key.split s.data.toList).length := by omega
      clear BG HS
      go_wp2_with (first
        | (go_at_call 5; refine (PZ.out _).mono ?_; rintro e1 w5 ⟨rfl, hb5⟩; clear PZ; generalize hx : w5.alloc (.cells #[.int .i64 0, .int .i64 0, .string ⟨#[]⟩, .string ⟨#[]⟩, .string ⟨#[]⟩] 24) = x0 at *; obtain ⟨⟨xx0, xy0⟩, ⟨xx1, xy1⟩, ⟨xx2, xy2⟩, ⟨xx3, xy3⟩, ⟨xx4, xy4⟩, xB, xW⟩ := Phr.box5 d hx; generalize hx1 : x0.setCell ⟨w5.heap.size, 0, none⟩ (.int .i64 d.reg) = x1 at *; generalize hx2 : x1.setCell ⟨w5.heap.size, 1, none⟩ (.int .i64 d.count) = x2 at *; generalize hx3 : x2.setCell ⟨w5.heap.size, 2, none⟩ (.string (bs d.op)) = x3 at *; generalize hx4 : x3.setCell ⟨w5.heap.size, 3, none⟩ (.string (bs d.key)) = x4 at *; generalize hx5 : x4.setCell ⟨w5.heap.size, 4, none⟩ (.string (bs d.arg)) = x5 at *; have XW := hW.trans ((hb5.trans (xW.mono hb5.size)).mono hW.size); have uF := UB.out.below XW hbl; have f0 := uF.cell 0; have f1 := uF.cell 1; have f2 := uF.cell 2; have f3 := uF.cell 3; have f4 := uF.cell 4; have d0 := xB.cell 0; have d1 := xB.cell 1; have d2 := xB.cell 2; have d3 := xB.cell 3; have d4 := xB.cell 4; simp at f0 f1 f2 f3 f4 d0 d1 d2 d3 d4; have XF := UW2.out.trans (XW.mono UW2.out.size); clear uF xB xW hb5 XW)
        | (go_at_call 7; refine (VA.out _).mono ?_; rintro e2 w6 ⟨rfl, rfl⟩)
        | (go_at_call 4; refine (LV.out _).mono ?_; rintro e3 w7 ⟨rfl, hb7⟩))
      go_ret
      exact ⟨rfl, XF.trans (hb7.mono XF.size)⟩
set_option maxHeartbeats 2000000 in
set_option maxRecDepth 100000 in
theorem phr_whole_2e {s t : ByteArray} {v : Bool} {c : Cmd} (hs : s.size ≤ 60) (ht : t.size ≤ 60) (hX : Phr.ans v s.data.toList = (c, 2)) (h0 : 0 ≤ c.count) (h1 : c.count ≤ 99) (hn : c.op ≠ [] ∨ c.key ≠ []) (hm : (t.toList == []) = true) (w : World) :
    Calls Try.prog 3 #[.string s, .string t, .bool v] w fun e w' => e = .returned (.bool true) ∧ Below w.heap.size w w' := by
  obtain ⟨d, z, hZ⟩ : ∃ d z, Phr.ans v (s ++ t).data.toList = (d, z) := ⟨_, _, rfl⟩
  have hn2 : ((bs c.op).toList == []) = false ∨ ((bs c.op).toList == []) = true ∧ ((bs c.key).toList == []) = false := by
    simp only [bs_tl]
    by_cases e : c.op = []
    · right; rcases hn with hn | hn
      · exact absurd e hn
      · simp [e, hn]
    · left; simp [e]
  clear hn
  have P1 := Lib.hid (fun w => phr_ans (visual := v) (by omega : s.size ≤ 1000000000000) hX w)
  have PZ := Lib.hid (fun w => phr_ans (visual := v) (by rw [ByteArray.size_append]; omega : (s ++ t).size ≤ 1000000000000) hZ w)
  have SP := Lib.hid (fun w => key_Split s (by omega) w)
  have LV := Lib.hid (fun w => phr_lives w)
  have BG := Lib.hid (fun (k : Nat) (hk : k < (Key.split s.data.toList).length) => Phr.begin hX (List.getElem?_eq_getElem hk))
  have HL := Phr.err_split_len s
  have hsum : ¬ 9223372036854775807 < s.size + t.size := by omega
  clear hX hZ
  go_enter Try.func3, Try.ntmps3
  go_wp2_with (first
    | (go_at_call 5; refine (P1.out _).mono ?_; rintro e w1 ⟨rfl, hb1⟩; clear P1; generalize hu : w1.alloc (.cells #[.int .i64 0, .int .i64 0, .string ⟨#[]⟩, .string ⟨#[]⟩, .string ⟨#[]⟩] 24) = u0 at *; obtain ⟨⟨ux0, uy0⟩, ⟨ux1, uy1⟩, ⟨ux2, uy2⟩, ⟨ux3, uy3⟩, ⟨ux4, uy4⟩, uB, uW⟩ := Phr.box5 c hu; generalize hu1 : u0.setCell ⟨w1.heap.size, 0, none⟩ (.int .i64 c.reg) = u1 at *; generalize hu2 : u1.setCell ⟨w1.heap.size, 1, none⟩ (.int .i64 c.count) = u2 at *; generalize hu3 : u2.setCell ⟨w1.heap.size, 2, none⟩ (.string (bs c.op)) = u3 at *; generalize hu4 : u3.setCell ⟨w1.heap.size, 3, none⟩ (.string (bs c.key)) = u4 at *; generalize hu5 : u4.setCell ⟨w1.heap.size, 4, none⟩ (.string (bs c.arg)) = u5 at *; have UW := hb1.trans (uW.mono hb1.size); have uc0 := uB.cell 0; have uc1 := uB.cell 1; have uc2 := uB.cell 2; have uc3 := uB.cell 3; have uc4 := uB.cell 4; simp at uc0 uc1 uc2 uc3 uc4)
    | (go_at_call 6; refine (SP.out _).mono ?_; rintro e w2 ⟨A, cp, rfl, hS, hb2⟩; clear SP; have UB := Lib.hid (uB.below hb2 uB.lt); have hbl := Nat.lt_of_lt_of_le uB.lt hb2.size; have UW2 := Lib.hid (UW.trans (hb2.mono UW.size)); have HS := Lib.hid hS; clear hb2 hS uB uW UW))
  go_loopw [11, 12] (fun av iv wr => ∃ k : Nat, k ≤ (Key.split s.data.toList).length ∧ iv = .int .i64 k ∧ av = .int .i64 (Utf.off (Key.split s.data.toList) k : Nat) ∧ Below w2.heap.size w2 wr) (fun _ iv _ => (Key.split s.data.toList).length - (intOf iv).toNat)
  case atStart => exact ⟨0, Nat.zero_le _, rfl, by rw [Utf.off_zero]; rfl, Below.refl _ _⟩
  case round =>
    obtain ⟨k, hk, rfl, rfl, hW⟩ := hrel
    by_cases hlt : k < (Key.split s.data.toList).length
    · obtain ⟨ad, rfl, hab, hcells⟩ := HS.out (by rw [List.length_map]; omega)
      obtain ⟨e, y, B⟩ := BG.out k hlt
      have Q1 : Hid (∀ u, Below w2.heap.size w2 u → u.cell? (ad.add k) = some (.string (bs (Key.split s.data.toList)[k]))) := Lib.hid (fun u hu => (hu.cell (p := ad.add k) (by rw [block_of_add]; exact hab)).trans (hcells k _ (by rw [List.getElem?_map, List.getElem?_eq_getElem hlt]; rfl)))
      obtain ⟨b1, b2, b3, b4, b5, b6⟩ := B
      have PY := Lib.hid (fun w => phr_ans (s := bs ((Key.split s.data.toList).take k).flatten) (visual := v) (by rw [← b4, ByteArray.size_extract]; omega) b5 w)
      have hri : (bs (Key.split s.data.toList)[k]).size = (Key.split s.data.toList)[k].length := bs_size _
      clear b5 hcells
      generalize bs (Key.split s.data.toList)[k] = R at *
      generalize (Key.split s.data.toList)[k].length = rl at *
      generalize bs ((Key.split s.data.toList).take k).flatten = PT at *
      generalize hof : Utf.off (Key.split s.data.toList) k = a at *
      generalize hof2 : Utf.off (Key.split s.data.toList) (k + 1) = a2 at *
      have hmin : min (a : Int) (s.size : Int) = a := by omega
      have z : wrap64 ((a : Int) + (rl : Int)) = (a2 : Int) := by unfold wrap64; omega
      have hk1 : (k : Int) < (Key.split s.data.toList).length := by omega
      have hkn : k + 1 ≤ (Key.split s.data.toList).length := by omega
      clear BG HS hof LV PZ
      obtain rfl : y = 1 := by omega
      clear b1 b2 b3 b6
      go_wp2_with (first
        | (go_at_call 5; refine (PY.out _).mono ?_; rintro e1 w4 ⟨rfl, hb4⟩; clear PY; generalize hv : w4.alloc (.cells #[.int .i64 0, .int .i64 0, .string ⟨#[]⟩, .string ⟨#[]⟩, .string ⟨#[]⟩] 24) = v0 at *; obtain ⟨⟨vx0, vy0⟩, ⟨vx1, vy1⟩, ⟨vx2, vy2⟩, ⟨vx3, vy3⟩, ⟨vx4, vy4⟩, vB, vW⟩ := Phr.box5 e hv; generalize hv1 : v0.setCell ⟨w4.heap.size, 0, none⟩ (.int .i64 e.reg) = v1 at *; generalize hv2 : v1.setCell ⟨w4.heap.size, 1, none⟩ (.int .i64 e.count) = v2 at *; generalize hv3 : v2.setCell ⟨w4.heap.size, 2, none⟩ (.string (bs e.op)) = v3 at *; generalize hv4 : v3.setCell ⟨w4.heap.size, 3, none⟩ (.string (bs e.key)) = v4 at *; generalize hv5 : v4.setCell ⟨w4.heap.size, 4, none⟩ (.string (bs e.arg)) = v5 at *; have VW := hW.trans ((hb4.trans (vW.mono hb4.size)).mono hW.size); have q2 := Q1.out _ VW; clear hb4 vW vB))
      go_roundw
      case rel => exact ⟨k + 1, hkn, by go_num, by rw [hof2, ← z], VW⟩
      case measure => simp [intOf]; omega
    · obtain rfl : k = (Key.split s.data.toList).length := by omega
      clear BG HS
      rcases hn2 with ho | ⟨ho, hky⟩
      · skip
        go_wp2_with (first
          | (go_at_call 5; refine (PZ.out _).mono ?_; rintro e1 w5 ⟨rfl, hb5⟩; clear PZ; generalize hx : w5.alloc (.cells #[.int .i64 0, .int .i64 0, .string ⟨#[]⟩, .string ⟨#[]⟩, .string ⟨#[]⟩] 24) = x0 at *; obtain ⟨⟨xx0, xy0⟩, ⟨xx1, xy1⟩, ⟨xx2, xy2⟩, ⟨xx3, xy3⟩, ⟨xx4, xy4⟩, xB, xW⟩ := Phr.box5 d hx; generalize hx1 : x0.setCell ⟨w5.heap.size, 0, none⟩ (.int .i64 d.reg) = x1 at *; generalize hx2 : x1.setCell ⟨w5.heap.size, 1, none⟩ (.int .i64 d.count) = x2 at *; generalize hx3 : x2.setCell ⟨w5.heap.size, 2, none⟩ (.string (bs d.op)) = x3 at *; generalize hx4 : x3.setCell ⟨w5.heap.size, 3, none⟩ (.string (bs d.key)) = x4 at *; generalize hx5 : x4.setCell ⟨w5.heap.size, 4, none⟩ (.string (bs d.arg)) = x5 at *; have XW := hW.trans ((hb5.trans (xW.mono hb5.size)).mono hW.size); have uF := UB.out.below XW hbl; have f0 := uF.cell 0; have f1 := uF.cell 1; have f2 := uF.cell 2; have f3 := uF.cell 3; have f4 := uF.cell 4; have d0 := xB.cell 0; have d1 := xB.cell 1; have d2 := xB.cell 2; have d3 := xB.cell 3; have d4 := xB.cell 4; simp at f0 f1 f2 f3 f4 d0 d1 d2 d3 d4; have XF := UW2.out.trans (XW.mono UW2.out.size); clear uF xB xW hb5 XW)
          | (go_at_call 7; refine (VA.out _).mono ?_; rintro e2 w6 ⟨rfl, rfl⟩)
          | (go_at_call 4; refine (LV.out _).mono ?_; rintro e3 w7 ⟨rfl, hb7⟩))
        go_ret
        exact ⟨rfl, XF.trans (hb7.mono XF.size)⟩
      · skip
        go_wp2_with (first
          | (go_at_call 5; refine (PZ.out _).mono ?_; rintro e1 w5 ⟨rfl, hb5⟩; clear PZ; generalize hx : w5.alloc (.cells #[.int .i64 0, .int .i64 0, .string ⟨#[]⟩, .string ⟨#[]⟩, .string ⟨#[]⟩] 24) = x0 at *; obtain ⟨⟨xx0, xy0⟩, ⟨xx1, xy1⟩, ⟨xx2, xy2⟩, ⟨xx3, xy3⟩, ⟨xx4, xy4⟩, xB, xW⟩ := Phr.box5 d hx; generalize hx1 : x0.setCell ⟨w5.heap.size, 0, none⟩ (.int .i64 d.reg) = x1 at *; generalize hx2 : x1.setCell ⟨w5.heap.size, 1, none⟩ (.int .i64 d.count) = x2 at *; generalize hx3 : x2.setCell ⟨w5.heap.size, 2, none⟩ (.string (bs d.op)) = x3 at *; generalize hx4 : x3.setCell ⟨w5.heap.size, 3, none⟩ (.string (bs d.key)) = x4 at *; generalize hx5 : x4.setCell ⟨w5.heap.size, 4, none⟩ (.string (bs d.arg)) = x5 at *; have XW := hW.trans ((hb5.trans (xW.mono hb5.size)).mono hW.size); have uF := UB.out.below XW hbl; have f0 := uF.cell 0; have f1 := uF.cell 1; have f2 := uF.cell 2; have f3 := uF.cell 3; have f4 := uF.cell 4; have d0 := xB.cell 0; have d1 := xB.cell 1; have d2 := xB.cell 2; have d3 := xB.cell 3; have d4 := xB.cell 4; simp at f0 f1 f2 f3 f4 d0 d1 d2 d3 d4; have XF := UW2.out.trans (XW.mono UW2.out.size); clear uF xB xW hb5 XW)
          | (go_at_call 7; refine (VA.out _).mono ?_; rintro e2 w6 ⟨rfl, rfl⟩)
          | (go_at_call 4; refine (LV.out _).mono ?_; rintro e3 w7 ⟨rfl, hb7⟩))
        go_ret
        exact ⟨rfl, XF.trans (hb7.mono XF.size)⟩
set_option maxHeartbeats 2000000 in
set_option maxRecDepth 100000 in
theorem phr_whole_2b {s t : ByteArray} {v : Bool} {c : Cmd} (hs : s.size ≤ 60) (ht : t.size ≤ 60) (hX : Phr.ans v s.data.toList = (c, 2)) (h0 : 0 ≤ c.count) (h1 : c.count ≤ 99) (hn : c.op ≠ [] ∨ c.key ≠ []) (hm : (t.toList == []) = false) (hv : Utf.valid s.data.toList = true) (hZ : Phr.ans v (s ++ t).data.toList = (Phr.zero, 3)) (w : World) :
    Calls Try.prog 3 #[.string s, .string t, .bool v] w fun e w' => e = .returned (.bool true) ∧ Below w.heap.size w w' := by
  have EZ : ∀ d : Cmd, d = Phr.zero → ∀ w, (binOp .neq 24 (.agg #[.int .i64 d.reg, .int .i64 d.count, .string (bs d.op), .string (bs d.key), .string (bs d.arg)]) (.agg #[.int .i64 0, .int .i64 0, .string ⟨#[]⟩, .string ⟨#[]⟩, .string ⟨#[]⟩])).run Try.prog w = .ok (.bool false) w := fun d hd w => by subst hd; exact neq_cmd Phr.zero Phr.zero w
  obtain ⟨d, hd⟩ : ∃ d, d = Phr.zero := ⟨_, rfl⟩
  rw [← hd] at hZ
  have E3 := EZ d hd
  clear EZ hd
  have hn2 : ((bs c.op).toList == []) = false ∨ ((bs c.op).toList == []) = true ∧ ((bs c.key).toList == []) = false := by
    simp only [bs_tl]
    by_cases e : c.op = []
    · right; rcases hn with hn | hn
      · exact absurd e hn
      · simp [e, hn]
    · left; simp [e]
  clear hn
  have VA := Lib.hid (fun w => utf_Valid s (by omega) w)
  rw [hv] at VA
  clear hv
  have P1 := Lib.hid (fun w => phr_ans (visual := v) (by omega : s.size ≤ 1000000000000) hX w)
  have PZ := Lib.hid (fun w => phr_ans (visual := v) (by rw [ByteArray.size_append]; omega : (s ++ t).size ≤ 1000000000000) hZ w)
  have SP := Lib.hid (fun w => key_Split s (by omega) w)
  have LV := Lib.hid (fun w => phr_lives w)
  have BG := Lib.hid (fun (k : Nat) (hk : k < (Key.split s.data.toList).length) => Phr.begin hX (List.getElem?_eq_getElem hk))
  have HL := Phr.err_split_len s
  have hsum : ¬ 9223372036854775807 < s.size + t.size := by omega
  clear hX hZ
  go_enter Try.func3, Try.ntmps3
  go_wp2_with (first
    | (go_at_call 5; refine (P1.out _).mono ?_; rintro e w1 ⟨rfl, hb1⟩; clear P1; generalize hu : w1.alloc (.cells #[.int .i64 0, .int .i64 0, .string ⟨#[]⟩, .string ⟨#[]⟩, .string ⟨#[]⟩] 24) = u0 at *; obtain ⟨⟨ux0, uy0⟩, ⟨ux1, uy1⟩, ⟨ux2, uy2⟩, ⟨ux3, uy3⟩, ⟨ux4, uy4⟩, uB, uW⟩ := Phr.box5 c hu; generalize hu1 : u0.setCell ⟨w1.heap.size, 0, none⟩ (.int .i64 c.reg) = u1 at *; generalize hu2 : u1.setCell ⟨w1.heap.size, 1, none⟩ (.int .i64 c.count) = u2 at *; generalize hu3 : u2.setCell ⟨w1.heap.size, 2, none⟩ (.string (bs c.op)) = u3 at *; generalize hu4 : u3.setCell ⟨w1.heap.size, 3, none⟩ (.string (bs c.key)) = u4 at *; generalize hu5 : u4.setCell ⟨w1.heap.size, 4, none⟩ (.string (bs c.arg)) = u5 at *; have UW := hb1.trans (uW.mono hb1.size); have uc0 := uB.cell 0; have uc1 := uB.cell 1; have uc2 := uB.cell 2; have uc3 := uB.cell 3; have uc4 := uB.cell 4; simp at uc0 uc1 uc2 uc3 uc4)
    | (go_at_call 6; refine (SP.out _).mono ?_; rintro e w2 ⟨A, cp, rfl, hS, hb2⟩; clear SP; have UB := Lib.hid (uB.below hb2 uB.lt); have hbl := Nat.lt_of_lt_of_le uB.lt hb2.size; have UW2 := Lib.hid (UW.trans (hb2.mono UW.size)); have HS := Lib.hid hS; clear hb2 hS uB uW UW))
  go_loopw [11, 12] (fun av iv wr => ∃ k : Nat, k ≤ (Key.split s.data.toList).length ∧ iv = .int .i64 k ∧ av = .int .i64 (Utf.off (Key.split s.data.toList) k : Nat) ∧ Below w2.heap.size w2 wr) (fun _ iv _ => (Key.split s.data.toList).length - (intOf iv).toNat)
  case atStart => exact ⟨0, Nat.zero_le _, rfl, by rw [Utf.off_zero]; rfl, Below.refl _ _⟩
  case round =>
    obtain ⟨k, hk, rfl, rfl, hW⟩ := hrel
    by_cases hlt : k < (Key.split s.data.toList).length
    · obtain ⟨ad, rfl, hab, hcells⟩ := HS.out (by rw [List.length_map]; omega)
      obtain ⟨e, y, B⟩ := BG.out k hlt
      have Q1 : Hid (∀ u, Below w2.heap.size w2 u → u.cell? (ad.add k) = some (.string (bs (Key.split s.data.toList)[k]))) := Lib.hid (fun u hu => (hu.cell (p := ad.add k) (by rw [block_of_add]; exact hab)).trans (hcells k _ (by rw [List.getElem?_map, List.getElem?_eq_getElem hlt]; rfl)))
      obtain ⟨b1, b2, b3, b4, b5, b6⟩ := B
      have PY := Lib.hid (fun w => phr_ans (s := bs ((Key.split s.data.toList).take k).flatten) (visual := v) (by rw [← b4, ByteArray.size_extract]; omega) b5 w)
      have hri : (bs (Key.split s.data.toList)[k]).size = (Key.split s.data.toList)[k].length := bs_size _
      clear b5 hcells
      generalize bs (Key.split s.data.toList)[k] = R at *
      generalize (Key.split s.data.toList)[k].length = rl at *
      generalize bs ((Key.split s.data.toList).take k).flatten = PT at *
      generalize hof : Utf.off (Key.split s.data.toList) k = a at *
      generalize hof2 : Utf.off (Key.split s.data.toList) (k + 1) = a2 at *
      have hmin : min (a : Int) (s.size : Int) = a := by omega
      have z : wrap64 ((a : Int) + (rl : Int)) = (a2 : Int) := by unfold wrap64; omega
      have hk1 : (k : Int) < (Key.split s.data.toList).length := by omega
      have hkn : k + 1 ≤ (Key.split s.data.toList).length := by omega
      clear BG HS hof LV PZ
      obtain rfl : y = 1 := by omega
      clear b1 b2 b3 b6
      go_wp2_with (first
        | (go_at_call 5; refine (PY.out _).mono ?_; rintro e1 w4 ⟨rfl, hb4⟩; clear PY; generalize hv : w4.alloc (.cells #[.int .i64 0, .int .i64 0, .string ⟨#[]⟩, .string ⟨#[]⟩, .string ⟨#[]⟩] 24) = v0 at *; obtain ⟨⟨vx0, vy0⟩, ⟨vx1, vy1⟩, ⟨vx2, vy2⟩, ⟨vx3, vy3⟩, ⟨vx4, vy4⟩, vB, vW⟩ := Phr.box5 e hv; generalize hv1 : v0.setCell ⟨w4.heap.size, 0, none⟩ (.int .i64 e.reg) = v1 at *; generalize hv2 : v1.setCell ⟨w4.heap.size, 1, none⟩ (.int .i64 e.count) = v2 at *; generalize hv3 : v2.setCell ⟨w4.heap.size, 2, none⟩ (.string (bs e.op)) = v3 at *; generalize hv4 : v3.setCell ⟨w4.heap.size, 3, none⟩ (.string (bs e.key)) = v4 at *; generalize hv5 : v4.setCell ⟨w4.heap.size, 4, none⟩ (.string (bs e.arg)) = v5 at *; have VW := hW.trans ((hb4.trans (vW.mono hb4.size)).mono hW.size); have q2 := Q1.out _ VW; clear hb4 vW vB))
      go_roundw
      case rel => exact ⟨k + 1, hkn, by go_num, by rw [hof2, ← z], VW⟩
      case measure => simp [intOf]; omega
    · obtain rfl : k = (Key.split s.data.toList).length := by omega
      clear BG HS
      rcases hn2 with ho | ⟨ho, hky⟩
      · skip
        go_wp2_with (first
          | (go_at_call 5; refine (PZ.out _).mono ?_; rintro e1 w5 ⟨rfl, hb5⟩; clear PZ; generalize hx : w5.alloc (.cells #[.int .i64 0, .int .i64 0, .string ⟨#[]⟩, .string ⟨#[]⟩, .string ⟨#[]⟩] 24) = x0 at *; obtain ⟨⟨xx0, xy0⟩, ⟨xx1, xy1⟩, ⟨xx2, xy2⟩, ⟨xx3, xy3⟩, ⟨xx4, xy4⟩, xB, xW⟩ := Phr.box5 d hx; generalize hx1 : x0.setCell ⟨w5.heap.size, 0, none⟩ (.int .i64 d.reg) = x1 at *; generalize hx2 : x1.setCell ⟨w5.heap.size, 1, none⟩ (.int .i64 d.count) = x2 at *; generalize hx3 : x2.setCell ⟨w5.heap.size, 2, none⟩ (.string (bs d.op)) = x3 at *; generalize hx4 : x3.setCell ⟨w5.heap.size, 3, none⟩ (.string (bs d.key)) = x4 at *; generalize hx5 : x4.setCell ⟨w5.heap.size, 4, none⟩ (.string (bs d.arg)) = x5 at *; have XW := hW.trans ((hb5.trans (xW.mono hb5.size)).mono hW.size); have uF := UB.out.below XW hbl; have f0 := uF.cell 0; have f1 := uF.cell 1; have f2 := uF.cell 2; have f3 := uF.cell 3; have f4 := uF.cell 4; have d0 := xB.cell 0; have d1 := xB.cell 1; have d2 := xB.cell 2; have d3 := xB.cell 3; have d4 := xB.cell 4; simp at f0 f1 f2 f3 f4 d0 d1 d2 d3 d4; have XF := UW2.out.trans (XW.mono UW2.out.size); clear uF xB xW hb5 XW)
          | (go_at_call 7; refine (VA.out _).mono ?_; rintro e2 w6 ⟨rfl, rfl⟩)
          | (go_at_call 4; refine (LV.out _).mono ?_; rintro e3 w7 ⟨rfl, hb7⟩))
        go_ret
        exact ⟨rfl, XF.trans (hb7.mono XF.size)⟩
      · skip
        go_wp2_with (first
          | (go_at_call 5; refine (PZ.out _).mono ?_; rintro e1 w5 ⟨rfl, hb5⟩; clear PZ; generalize hx : w5.alloc (.cells #[.int .i64 0, .int .i64 0, .string ⟨#[]⟩, .string ⟨#[]⟩, .string ⟨#[]⟩] 24) = x0 at *; obtain ⟨⟨xx0, xy0⟩, ⟨xx1, xy1⟩, ⟨xx2, xy2⟩, ⟨xx3, xy3⟩, ⟨xx4, xy4⟩, xB, xW⟩ := Phr.box5 d hx; generalize hx1 : x0.setCell ⟨w5.heap.size, 0, none⟩ (.int .i64 d.reg) = x1 at *; generalize hx2 : x1.setCell ⟨w5.heap.size, 1, none⟩ (.int .i64 d.count) = x2 at *; generalize hx3 : x2.setCell ⟨w5.heap.size, 2, none⟩ (.string (bs d.op)) = x3 at *; generalize hx4 : x3.setCell ⟨w5.heap.size, 3, none⟩ (.string (bs d.key)) = x4 at *; generalize hx5 : x4.setCell ⟨w5.heap.size, 4, none⟩ (.string (bs d.arg)) = x5 at *; have XW := hW.trans ((hb5.trans (xW.mono hb5.size)).mono hW.size); have uF := UB.out.below XW hbl; have f0 := uF.cell 0; have f1 := uF.cell 1; have f2 := uF.cell 2; have f3 := uF.cell 3; have f4 := uF.cell 4; have d0 := xB.cell 0; have d1 := xB.cell 1; have d2 := xB.cell 2; have d3 := xB.cell 3; have d4 := xB.cell 4; simp at f0 f1 f2 f3 f4 d0 d1 d2 d3 d4; have XF := UW2.out.trans (XW.mono UW2.out.size); clear uF xB xW hb5 XW)
          | (go_at_call 7; refine (VA.out _).mono ?_; rintro e2 w6 ⟨rfl, rfl⟩)
          | (go_at_call 4; refine (LV.out _).mono ?_; rintro e3 w7 ⟨rfl, hb7⟩))
        go_ret
        exact ⟨rfl, XF.trans (hb7.mono XF.size)⟩
set_option maxHeartbeats 2000000 in
set_option maxRecDepth 100000 in
theorem phr_whole_3e {s t : ByteArray} {v : Bool} {c : Cmd} (hs : s.size ≤ 60) (ht : t.size ≤ 60) (hX : Phr.ans v s.data.toList = (c, 3)) (hc : c = Phr.zero) (hm : (t.toList == []) = true) (w : World) :
    Calls Try.prog 3 #[.string s, .string t, .bool v] w fun e w' => e = .returned (.bool true) ∧ Below w.heap.size w w' := by
  obtain ⟨d, z, hZ⟩ : ∃ d z, Phr.ans v (s ++ t).data.toList = (d, z) := ⟨_, _, rfl⟩
  have E1 : ∀ w, (binOp .neq 24 (.agg #[.int .i64 c.reg, .int .i64 c.count, .string (bs c.op), .string (bs c.key), .string (bs c.arg)]) (.agg #[.int .i64 0, .int .i64 0, .string ⟨#[]⟩, .string ⟨#[]⟩, .string ⟨#[]⟩])).run Try.prog w = .ok (.bool false) w := fun w => by subst hc; exact neq_cmd Phr.zero Phr.zero w
  clear hc
  have P1 := Lib.hid (fun w => phr_ans (visual := v) (by omega : s.size ≤ 1000000000000) hX w)
  have PZ := Lib.hid (fun w => phr_ans (visual := v) (by rw [ByteArray.size_append]; omega : (s ++ t).size ≤ 1000000000000) hZ w)
  have SP := Lib.hid (fun w => key_Split s (by omega) w)
  have LV := Lib.hid (fun w => phr_lives w)
  have BG := Lib.hid (fun (k : Nat) (hk : k < (Key.split s.data.toList).length) => Phr.begin hX (List.getElem?_eq_getElem hk))
  have HL := Phr.err_split_len s
  have hsum : ¬ 9223372036854775807 < s.size + t.size := by omega
  clear hX hZ
  go_enter Try.func3, Try.ntmps3
  go_wp2_with (first
    | (go_at_call 5; refine (P1.out _).mono ?_; rintro e w1 ⟨rfl, hb1⟩; clear P1; generalize hu : w1.alloc (.cells #[.int .i64 0, .int .i64 0, .string ⟨#[]⟩, .string ⟨#[]⟩, .string ⟨#[]⟩] 24) = u0 at *; obtain ⟨⟨ux0, uy0⟩, ⟨ux1, uy1⟩, ⟨ux2, uy2⟩, ⟨ux3, uy3⟩, ⟨ux4, uy4⟩, uB, uW⟩ := Phr.box5 c hu; generalize hu1 : u0.setCell ⟨w1.heap.size, 0, none⟩ (.int .i64 c.reg) = u1 at *; generalize hu2 : u1.setCell ⟨w1.heap.size, 1, none⟩ (.int .i64 c.count) = u2 at *; generalize hu3 : u2.setCell ⟨w1.heap.size, 2, none⟩ (.string (bs c.op)) = u3 at *; generalize hu4 : u3.setCell ⟨w1.heap.size, 3, none⟩ (.string (bs c.key)) = u4 at *; generalize hu5 : u4.setCell ⟨w1.heap.size, 4, none⟩ (.string (bs c.arg)) = u5 at *; have UW := hb1.trans (uW.mono hb1.size); have uc0 := uB.cell 0; have uc1 := uB.cell 1; have uc2 := uB.cell 2; have uc3 := uB.cell 3; have uc4 := uB.cell 4; simp at uc0 uc1 uc2 uc3 uc4)
    | (go_at_call 6; refine (SP.out _).mono ?_; rintro e w2 ⟨A, cp, rfl, hS, hb2⟩; clear SP; have UB := Lib.hid (uB.below hb2 uB.lt); have hbl := Nat.lt_of_lt_of_le uB.lt hb2.size; have UW2 := Lib.hid (UW.trans (hb2.mono UW.size)); have HS := Lib.hid hS; clear hb2 hS uB uW UW))
  go_loopw [11, 12] (fun av iv wr => ∃ k : Nat, k ≤ (Key.split s.data.toList).length ∧ iv = .int .i64 k ∧ av = .int .i64 (Utf.off (Key.split s.data.toList) k : Nat) ∧ Below w2.heap.size w2 wr) (fun _ iv _ => (Key.split s.data.toList).length - (intOf iv).toNat)
  case atStart => exact ⟨0, Nat.zero_le _, rfl, by rw [Utf.off_zero]; rfl, Below.refl _ _⟩
  case round =>
    obtain ⟨k, hk, rfl, rfl, hW⟩ := hrel
    by_cases hlt : k < (Key.split s.data.toList).length
    · obtain ⟨ad, rfl, hab, hcells⟩ := HS.out (by rw [List.length_map]; omega)
      obtain ⟨e, y, B⟩ := BG.out k hlt
      have Q1 : Hid (∀ u, Below w2.heap.size w2 u → u.cell? (ad.add k) = some (.string (bs (Key.split s.data.toList)[k]))) := Lib.hid (fun u hu => (hu.cell (p := ad.add k) (by rw [block_of_add]; exact hab)).trans (hcells k _ (by rw [List.getElem?_map, List.getElem?_eq_getElem hlt]; rfl)))
      obtain ⟨b1, b2, b3, b4, b5, b6⟩ := B
      have PY := Lib.hid (fun w => phr_ans (s := bs ((Key.split s.data.toList).take k).flatten) (visual := v) (by rw [← b4, ByteArray.size_extract]; omega) b5 w)
      have hri : (bs (Key.split s.data.toList)[k]).size = (Key.split s.data.toList)[k].length := bs_size _
      clear b5 hcells
      generalize bs (Key.split s.data.toList)[k] = R at *
      generalize (Key.split s.data.toList)[k].length = rl at *
      generalize bs ((Key.split s.data.toList).take k).flatten = PT at *
      generalize hof : Utf.off (Key.split s.data.toList) k = a at *
      generalize hof2 : Utf.off (Key.split s.data.toList) (k + 1) = a2 at *
      have hmin : min (a : Int) (s.size : Int) = a := by omega
      have z : wrap64 ((a : Int) + (rl : Int)) = (a2 : Int) := by unfold wrap64; omega
      have hk1 : (k : Int) < (Key.split s.data.toList).length := by omega
      have hkn : k + 1 ≤ (Key.split s.data.toList).length := by omega
      clear BG HS hof LV PZ
      rcases b6 with rfl | ⟨hy, _⟩
      · clear b1 b2 b3
        go_wp2_with (first
          | (go_at_call 5; refine (PY.out _).mono ?_; rintro e1 w4 ⟨rfl, hb4⟩; clear PY; generalize hv : w4.alloc (.cells #[.int .i64 0, .int .i64 0, .string ⟨#[]⟩, .string ⟨#[]⟩, .string ⟨#[]⟩] 24) = v0 at *; obtain ⟨⟨vx0, vy0⟩, ⟨vx1, vy1⟩, ⟨vx2, vy2⟩, ⟨vx3, vy3⟩, ⟨vx4, vy4⟩, vB, vW⟩ := Phr.box5 e hv; generalize hv1 : v0.setCell ⟨w4.heap.size, 0, none⟩ (.int .i64 e.reg) = v1 at *; generalize hv2 : v1.setCell ⟨w4.heap.size, 1, none⟩ (.int .i64 e.count) = v2 at *; generalize hv3 : v2.setCell ⟨w4.heap.size, 2, none⟩ (.string (bs e.op)) = v3 at *; generalize hv4 : v3.setCell ⟨w4.heap.size, 3, none⟩ (.string (bs e.key)) = v4 at *; generalize hv5 : v4.setCell ⟨w4.heap.size, 4, none⟩ (.string (bs e.arg)) = v5 at *; have VW := hW.trans ((hb4.trans (vW.mono hb4.size)).mono hW.size); have q2 := Q1.out _ VW; clear hb4 vW vB))
        go_roundw
        case rel => exact ⟨k + 1, hkn, by go_num, by rw [hof2, ← z], VW⟩
        case measure => simp [intOf]; omega
      · by_cases hy3 : y = 3
        · subst hy3
          clear hy b1 b2 b3
          go_wp2_with (first
            | (go_at_call 5; refine (PY.out _).mono ?_; rintro e1 w4 ⟨rfl, hb4⟩; clear PY; generalize hv : w4.alloc (.cells #[.int .i64 0, .int .i64 0, .string ⟨#[]⟩, .string ⟨#[]⟩, .string ⟨#[]⟩] 24) = v0 at *; obtain ⟨⟨vx0, vy0⟩, ⟨vx1, vy1⟩, ⟨vx2, vy2⟩, ⟨vx3, vy3⟩, ⟨vx4, vy4⟩, vB, vW⟩ := Phr.box5 e hv; generalize hv1 : v0.setCell ⟨w4.heap.size, 0, none⟩ (.int .i64 e.reg) = v1 at *; generalize hv2 : v1.setCell ⟨w4.heap.size, 1, none⟩ (.int .i64 e.count) = v2 at *; generalize hv3 : v2.setCell ⟨w4.heap.size, 2, none⟩ (.string (bs e.op)) = v3 at *; generalize hv4 : v3.setCell ⟨w4.heap.size, 3, none⟩ (.string (bs e.key)) = v4 at *; generalize hv5 : v4.setCell ⟨w4.heap.size, 4, none⟩ (.string (bs e.arg)) = v5 at *; have VW := hW.trans ((hb4.trans (vW.mono hb4.size)).mono hW.size); have q2 := Q1.out _ VW; clear hb4 vW vB))
          go_roundw
          case rel => exact ⟨k + 1, hkn, by go_num, by rw [hof2, ← z], VW⟩
          case measure => simp [intOf]; omega
        · clear b1 b2 b3
          go_wp2_with (first
            | (go_at_call 5; refine (PY.out _).mono ?_; rintro e1 w4 ⟨rfl, hb4⟩; clear PY; generalize hv : w4.alloc (.cells #[.int .i64 0, .int .i64 0, .string ⟨#[]⟩, .string ⟨#[]⟩, .string ⟨#[]⟩] 24) = v0 at *; obtain ⟨⟨vx0, vy0⟩, ⟨vx1, vy1⟩, ⟨vx2, vy2⟩, ⟨vx3, vy3⟩, ⟨vx4, vy4⟩, vB, vW⟩ := Phr.box5 e hv; generalize hv1 : v0.setCell ⟨w4.heap.size, 0, none⟩ (.int .i64 e.reg) = v1 at *; generalize hv2 : v1.setCell ⟨w4.heap.size, 1, none⟩ (.int .i64 e.count) = v2 at *; generalize hv3 : v2.setCell ⟨w4.heap.size, 2, none⟩ (.string (bs e.op)) = v3 at *; generalize hv4 : v3.setCell ⟨w4.heap.size, 3, none⟩ (.string (bs e.key)) = v4 at *; generalize hv5 : v4.setCell ⟨w4.heap.size, 4, none⟩ (.string (bs e.arg)) = v5 at *; have VW := hW.trans ((hb4.trans (vW.mono hb4.size)).mono hW.size); have q2 := Q1.out _ VW; clear hb4 vW vB))
          go_roundw
          case rel => exact ⟨k + 1, hkn, by go_num, by rw [hof2, ← z], VW⟩
          case measure => simp [intOf]; omega
    · obtain rfl : k = (Key.split s.data.toList).length := by omega
      clear BG HS
      go_wp2_with (first
        | (go_at_call 5; refine (PZ.out _).mono ?_; rintro e1 w5 ⟨rfl, hb5⟩; clear PZ; generalize hx : w5.alloc (.cells #[.int .i64 0, .int .i64 0, .string ⟨#[]⟩, .string ⟨#[]⟩, .string ⟨#[]⟩] 24) = x0 at *; obtain ⟨⟨xx0, xy0⟩, ⟨xx1, xy1⟩, ⟨xx2, xy2⟩, ⟨xx3, xy3⟩, ⟨xx4, xy4⟩, xB, xW⟩ := Phr.box5 d hx; generalize hx1 : x0.setCell ⟨w5.heap.size, 0, none⟩ (.int .i64 d.reg) = x1 at *; generalize hx2 : x1.setCell ⟨w5.heap.size, 1, none⟩ (.int .i64 d.count) = x2 at *; generalize hx3 : x2.setCell ⟨w5.heap.size, 2, none⟩ (.string (bs d.op)) = x3 at *; generalize hx4 : x3.setCell ⟨w5.heap.size, 3, none⟩ (.string (bs d.key)) = x4 at *; generalize hx5 : x4.setCell ⟨w5.heap.size, 4, none⟩ (.string (bs d.arg)) = x5 at *; have XW := hW.trans ((hb5.trans (xW.mono hb5.size)).mono hW.size); have uF := UB.out.below XW hbl; have f0 := uF.cell 0; have f1 := uF.cell 1; have f2 := uF.cell 2; have f3 := uF.cell 3; have f4 := uF.cell 4; have d0 := xB.cell 0; have d1 := xB.cell 1; have d2 := xB.cell 2; have d3 := xB.cell 3; have d4 := xB.cell 4; simp at f0 f1 f2 f3 f4 d0 d1 d2 d3 d4; have XF := UW2.out.trans (XW.mono UW2.out.size); clear uF xB xW hb5 XW)
        | (go_at_call 7; refine (VA.out _).mono ?_; rintro e2 w6 ⟨rfl, rfl⟩)
        | (go_at_call 4; refine (LV.out _).mono ?_; rintro e3 w7 ⟨rfl, hb7⟩))
      go_ret
      exact ⟨rfl, XF.trans (hb7.mono XF.size)⟩
set_option maxHeartbeats 2000000 in
set_option maxRecDepth 100000 in
theorem phr_whole_3b {s t : ByteArray} {v : Bool} {c : Cmd} (hs : s.size ≤ 60) (ht : t.size ≤ 60) (hX : Phr.ans v s.data.toList = (c, 3)) (hc : c = Phr.zero) (hm : (t.toList == []) = false) (hv : Utf.valid s.data.toList = true) (hZ : Phr.ans v (s ++ t).data.toList = (Phr.zero, 3)) (w : World) :
    Calls Try.prog 3 #[.string s, .string t, .bool v] w fun e w' => e = .returned (.bool true) ∧ Below w.heap.size w w' := by
  have EZ : ∀ d : Cmd, d = Phr.zero → ∀ w, (binOp .neq 24 (.agg #[.int .i64 d.reg, .int .i64 d.count, .string (bs d.op), .string (bs d.key), .string (bs d.arg)]) (.agg #[.int .i64 0, .int .i64 0, .string ⟨#[]⟩, .string ⟨#[]⟩, .string ⟨#[]⟩])).run Try.prog w = .ok (.bool false) w := fun d hd w => by subst hd; exact neq_cmd Phr.zero Phr.zero w
  obtain ⟨d, hd⟩ : ∃ d, d = Phr.zero := ⟨_, rfl⟩
  rw [← hd] at hZ
  have E3 := EZ d hd
  clear EZ hd
  have E1 : ∀ w, (binOp .neq 24 (.agg #[.int .i64 c.reg, .int .i64 c.count, .string (bs c.op), .string (bs c.key), .string (bs c.arg)]) (.agg #[.int .i64 0, .int .i64 0, .string ⟨#[]⟩, .string ⟨#[]⟩, .string ⟨#[]⟩])).run Try.prog w = .ok (.bool false) w := fun w => by subst hc; exact neq_cmd Phr.zero Phr.zero w
  clear hc
  have VA := Lib.hid (fun w => utf_Valid s (by omega) w)
  rw [hv] at VA
  clear hv
  have P1 := Lib.hid (fun w => phr_ans (visual := v) (by omega : s.size ≤ 1000000000000) hX w)
  have PZ := Lib.hid (fun w => phr_ans (visual := v) (by rw [ByteArray.size_append]; omega : (s ++ t).size ≤ 1000000000000) hZ w)
  have SP := Lib.hid (fun w => key_Split s (by omega) w)
  have LV := Lib.hid (fun w => phr_lives w)
  have BG := Lib.hid (fun (k : Nat) (hk : k < (Key.split s.data.toList).length) => Phr.begin hX (List.getElem?_eq_getElem hk))
  have HL := Phr.err_split_len s
  have hsum : ¬ 9223372036854775807 < s.size + t.size := by omega
  clear hX hZ
  go_enter Try.func3, Try.ntmps3
  go_wp2_with (first
    | (go_at_call 5; refine (P1.out _).mono ?_; rintro e w1 ⟨rfl, hb1⟩; clear P1; generalize hu : w1.alloc (.cells #[.int .i64 0, .int .i64 0, .string ⟨#[]⟩, .string ⟨#[]⟩, .string ⟨#[]⟩] 24) = u0 at *; obtain ⟨⟨ux0, uy0⟩, ⟨ux1, uy1⟩, ⟨ux2, uy2⟩, ⟨ux3, uy3⟩, ⟨ux4, uy4⟩, uB, uW⟩ := Phr.box5 c hu; generalize hu1 : u0.setCell ⟨w1.heap.size, 0, none⟩ (.int .i64 c.reg) = u1 at *; generalize hu2 : u1.setCell ⟨w1.heap.size, 1, none⟩ (.int .i64 c.count) = u2 at *; generalize hu3 : u2.setCell ⟨w1.heap.size, 2, none⟩ (.string (bs c.op)) = u3 at *; generalize hu4 : u3.setCell ⟨w1.heap.size, 3, none⟩ (.string (bs c.key)) = u4 at *; generalize hu5 : u4.setCell ⟨w1.heap.size, 4, none⟩ (.string (bs c.arg)) = u5 at *; have UW := hb1.trans (uW.mono hb1.size); have uc0 := uB.cell 0; have uc1 := uB.cell 1; have uc2 := uB.cell 2; have uc3 := uB.cell 3; have uc4 := uB.cell 4; simp at uc0 uc1 uc2 uc3 uc4)
    | (go_at_call 6; refine (SP.out _).mono ?_; rintro e w2 ⟨A, cp, rfl, hS, hb2⟩; clear SP; have UB := Lib.hid (uB.below hb2 uB.lt); have hbl := Nat.lt_of_lt_of_le uB.lt hb2.size; have UW2 := Lib.hid (UW.trans (hb2.mono UW.size)); have HS := Lib.hid hS; clear hb2 hS uB uW UW))
  go_loopw [11, 12] (fun av iv wr => ∃ k : Nat, k ≤ (Key.split s.data.toList).length ∧ iv = .int .i64 k ∧ av = .int .i64 (Utf.off (Key.split s.data.toList) k : Nat) ∧ Below w2.heap.size w2 wr) (fun _ iv _ => (Key.split s.data.toList).length - (intOf iv).toNat)
  case atStart => exact ⟨0, Nat.zero_le _, rfl, by rw [Utf.off_zero]; rfl, Below.refl _ _⟩
  case round =>
    obtain ⟨k, hk, rfl, rfl, hW⟩ := hrel
    by_cases hlt : k < (Key.split s.data.toList).length
    · obtain ⟨ad, rfl, hab, hcells⟩ := HS.out (by rw [List.length_map]; omega)
      obtain ⟨e, y, B⟩ := BG.out k hlt
      have Q1 : Hid (∀ u, Below w2.heap.size w2 u → u.cell? (ad.add k) = some (.string (bs (Key.split s.data.toList)[k]))) := Lib.hid (fun u hu => (hu.cell (p := ad.add k) (by rw [block_of_add]; exact hab)).trans (hcells k _ (by rw [List.getElem?_map, List.getElem?_eq_getElem hlt]; rfl)))
      obtain ⟨b1, b2, b3, b4, b5, b6⟩ := B
      have PY := Lib.hid (fun w => phr_ans (s := bs ((Key.split s.data.toList).take k).flatten) (visual := v) (by rw [← b4, ByteArray.size_extract]; omega) b5 w)
      have hri : (bs (Key.split s.data.toList)[k]).size = (Key.split s.data.toList)[k].length := bs_size _
      clear b5 hcells
      generalize bs (Key.split s.data.toList)[k] = R at *
      generalize (Key.split s.data.toList)[k].length = rl at *
      generalize bs ((Key.split s.data.toList).take k).flatten = PT at *
      generalize hof : Utf.off (Key.split s.data.toList) k = a at *
      generalize hof2 : Utf.off (Key.split s.data.toList) (k + 1) = a2 at *
      have hmin : min (a : Int) (s.size : Int) = a := by omega
      have z : wrap64 ((a : Int) + (rl : Int)) = (a2 : Int) := by unfold wrap64; omega
      have hk1 : (k : Int) < (Key.split s.data.toList).length := by omega
      have hkn : k + 1 ≤ (Key.split s.data.toList).length := by omega
      clear BG HS hof LV PZ
      rcases b6 with rfl | ⟨hy, _⟩
      · clear b1 b2 b3
        go_wp2_with (first
          | (go_at_call 5; refine (PY.out _).mono ?_; rintro e1 w4 ⟨rfl, hb4⟩; clear PY; generalize hv : w4.alloc (.cells #[.int .i64 0, .int .i64 0, .string ⟨#[]⟩, .string ⟨#[]⟩, .string ⟨#[]⟩] 24) = v0 at *; obtain ⟨⟨vx0, vy0⟩, ⟨vx1, vy1⟩, ⟨vx2, vy2⟩, ⟨vx3, vy3⟩, ⟨vx4, vy4⟩, vB, vW⟩ := Phr.box5 e hv; generalize hv1 : v0.setCell ⟨w4.heap.size, 0, none⟩ (.int .i64 e.reg) = v1 at *; generalize hv2 : v1.setCell ⟨w4.heap.size, 1, none⟩ (.int .i64 e.count) = v2 at *; generalize hv3 : v2.setCell ⟨w4.heap.size, 2, none⟩ (.string (bs e.op)) = v3 at *; generalize hv4 : v3.setCell ⟨w4.heap.size, 3, none⟩ (.string (bs e.key)) = v4 at *; generalize hv5 : v4.setCell ⟨w4.heap.size, 4, none⟩ (.string (bs e.arg)) = v5 at *; have VW := hW.trans ((hb4.trans (vW.mono hb4.size)).mono hW.size); have q2 := Q1.out _ VW; clear hb4 vW vB))
        go_roundw
        case rel => exact ⟨k + 1, hkn, by go_num, by rw [hof2, ← z], VW⟩
        case measure => simp [intOf]; omega
      · by_cases hy3 : y = 3
        · subst hy3
          clear hy b1 b2 b3
          go_wp2_with (first
            | (go_at_call 5; refine (PY.out _).mono ?_; rintro e1 w4 ⟨rfl, hb4⟩; clear PY; generalize hv : w4.alloc (.cells #[.int .i64 0, .int .i64 0, .string ⟨#[]⟩, .string ⟨#[]⟩, .string ⟨#[]⟩] 24) = v0 at *; obtain ⟨⟨vx0, vy0⟩, ⟨vx1, vy1⟩, ⟨vx2, vy2⟩, ⟨vx3, vy3⟩, ⟨vx4, vy4⟩, vB, vW⟩ := Phr.box5 e hv; generalize hv1 : v0.setCell ⟨w4.heap.size, 0, none⟩ (.int .i64 e.reg) = v1 at *; generalize hv2 : v1.setCell ⟨w4.heap.size, 1, none⟩ (.int .i64 e.count) = v2 at *; generalize hv3 : v2.setCell ⟨w4.heap.size, 2, none⟩ (.string (bs e.op)) = v3 at *; generalize hv4 : v3.setCell ⟨w4.heap.size, 3, none⟩ (.string (bs e.key)) = v4 at *; generalize hv5 : v4.setCell ⟨w4.heap.size, 4, none⟩ (.string (bs e.arg)) = v5 at *; have VW := hW.trans ((hb4.trans (vW.mono hb4.size)).mono hW.size); have q2 := Q1.out _ VW; clear hb4 vW vB))
          go_roundw
          case rel => exact ⟨k + 1, hkn, by go_num, by rw [hof2, ← z], VW⟩
          case measure => simp [intOf]; omega
        · clear b1 b2 b3
          go_wp2_with (first
            | (go_at_call 5; refine (PY.out _).mono ?_; rintro e1 w4 ⟨rfl, hb4⟩; clear PY; generalize hv : w4.alloc (.cells #[.int .i64 0, .int .i64 0, .string ⟨#[]⟩, .string ⟨#[]⟩, .string ⟨#[]⟩] 24) = v0 at *; obtain ⟨⟨vx0, vy0⟩, ⟨vx1, vy1⟩, ⟨vx2, vy2⟩, ⟨vx3, vy3⟩, ⟨vx4, vy4⟩, vB, vW⟩ := Phr.box5 e hv; generalize hv1 : v0.setCell ⟨w4.heap.size, 0, none⟩ (.int .i64 e.reg) = v1 at *; generalize hv2 : v1.setCell ⟨w4.heap.size, 1, none⟩ (.int .i64 e.count) = v2 at *; generalize hv3 : v2.setCell ⟨w4.heap.size, 2, none⟩ (.string (bs e.op)) = v3 at *; generalize hv4 : v3.setCell ⟨w4.heap.size, 3, none⟩ (.string (bs e.key)) = v4 at *; generalize hv5 : v4.setCell ⟨w4.heap.size, 4, none⟩ (.string (bs e.arg)) = v5 at *; have VW := hW.trans ((hb4.trans (vW.mono hb4.size)).mono hW.size); have q2 := Q1.out _ VW; clear hb4 vW vB))
          go_roundw
          case rel => exact ⟨k + 1, hkn, by go_num, by rw [hof2, ← z], VW⟩
          case measure => simp [intOf]; omega
    · obtain rfl : k = (Key.split s.data.toList).length := by omega
      clear BG HS
      go_wp2_with (first
        | (go_at_call 5; refine (PZ.out _).mono ?_; rintro e1 w5 ⟨rfl, hb5⟩; clear PZ; generalize hx : w5.alloc (.cells #[.int .i64 0, .int .i64 0, .string ⟨#[]⟩, .string ⟨#[]⟩, .string ⟨#[]⟩] 24) = x0 at *; obtain ⟨⟨xx0, xy0⟩, ⟨xx1, xy1⟩, ⟨xx2, xy2⟩, ⟨xx3, xy3⟩, ⟨xx4, xy4⟩, xB, xW⟩ := Phr.box5 d hx; generalize hx1 : x0.setCell ⟨w5.heap.size, 0, none⟩ (.int .i64 d.reg) = x1 at *; generalize hx2 : x1.setCell ⟨w5.heap.size, 1, none⟩ (.int .i64 d.count) = x2 at *; generalize hx3 : x2.setCell ⟨w5.heap.size, 2, none⟩ (.string (bs d.op)) = x3 at *; generalize hx4 : x3.setCell ⟨w5.heap.size, 3, none⟩ (.string (bs d.key)) = x4 at *; generalize hx5 : x4.setCell ⟨w5.heap.size, 4, none⟩ (.string (bs d.arg)) = x5 at *; have XW := hW.trans ((hb5.trans (xW.mono hb5.size)).mono hW.size); have uF := UB.out.below XW hbl; have f0 := uF.cell 0; have f1 := uF.cell 1; have f2 := uF.cell 2; have f3 := uF.cell 3; have f4 := uF.cell 4; have d0 := xB.cell 0; have d1 := xB.cell 1; have d2 := xB.cell 2; have d3 := xB.cell 3; have d4 := xB.cell 4; simp at f0 f1 f2 f3 f4 d0 d1 d2 d3 d4; have XF := UW2.out.trans (XW.mono UW2.out.size); clear uF xB xW hb5 XW)
        | (go_at_call 7; refine (VA.out _).mono ?_; rintro e2 w6 ⟨rfl, rfl⟩)
        | (go_at_call 4; refine (LV.out _).mono ?_; rintro e3 w7 ⟨rfl, hb7⟩))
      go_ret
      exact ⟨rfl, XF.trans (hb7.mono XF.size)⟩
set_option maxHeartbeats 2000000 in
set_option maxRecDepth 100000 in
theorem phr_whole_3n {s t : ByteArray} {v : Bool} {c : Cmd} (hs : s.size ≤ 60) (ht : t.size ≤ 60) (hX : Phr.ans v s.data.toList = (c, 3)) (hc : c = Phr.zero) (hm : (t.toList == []) = false) (hv : Utf.valid s.data.toList = false) (w : World) :
    Calls Try.prog 3 #[.string s, .string t, .bool v] w fun e w' => e = .returned (.bool true) ∧ Below w.heap.size w w' := by
  obtain ⟨d, z, hZ⟩ : ∃ d z, Phr.ans v (s ++ t).data.toList = (d, z) := ⟨_, _, rfl⟩
  have E1 : ∀ w, (binOp .neq 24 (.agg #[.int .i64 c.reg, .int .i64 c.count, .string (bs c.op), .string (bs c.key), .string (bs c.arg)]) (.agg #[.int .i64 0, .int .i64 0, .string ⟨#[]⟩, .string ⟨#[]⟩, .string ⟨#[]⟩])).run Try.prog w = .ok (.bool false) w := fun w => by subst hc; exact neq_cmd Phr.zero Phr.zero w
  clear hc
  have VA := Lib.hid (fun w => utf_Valid s (by omega) w)
  rw [hv] at VA
  clear hv
  have P1 := Lib.hid (fun w => phr_ans (visual := v) (by omega : s.size ≤ 1000000000000) hX w)
  have PZ := Lib.hid (fun w => phr_ans (visual := v) (by rw [ByteArray.size_append]; omega : (s ++ t).size ≤ 1000000000000) hZ w)
  have SP := Lib.hid (fun w => key_Split s (by omega) w)
  have LV := Lib.hid (fun w => phr_lives w)
  have BG := Lib.hid (fun (k : Nat) (hk : k < (Key.split s.data.toList).length) => Phr.begin hX (List.getElem?_eq_getElem hk))
  have HL := Phr.err_split_len s
  have hsum : ¬ 9223372036854775807 < s.size + t.size := by omega
  clear hX hZ
  go_enter Try.func3, Try.ntmps3
  go_wp2_with (first
    | (go_at_call 5; refine (P1.out _).mono ?_; rintro e w1 ⟨rfl, hb1⟩; clear P1; generalize hu : w1.alloc (.cells #[.int .i64 0, .int .i64 0, .string ⟨#[]⟩, .string ⟨#[]⟩, .string ⟨#[]⟩] 24) = u0 at *; obtain ⟨⟨ux0, uy0⟩, ⟨ux1, uy1⟩, ⟨ux2, uy2⟩, ⟨ux3, uy3⟩, ⟨ux4, uy4⟩, uB, uW⟩ := Phr.box5 c hu; generalize hu1 : u0.setCell ⟨w1.heap.size, 0, none⟩ (.int .i64 c.reg) = u1 at *; generalize hu2 : u1.setCell ⟨w1.heap.size, 1, none⟩ (.int .i64 c.count) = u2 at *; generalize hu3 : u2.setCell ⟨w1.heap.size, 2, none⟩ (.string (bs c.op)) = u3 at *; generalize hu4 : u3.setCell ⟨w1.heap.size, 3, none⟩ (.string (bs c.key)) = u4 at *; generalize hu5 : u4.setCell ⟨w1.heap.size, 4, none⟩ (.string (bs c.arg)) = u5 at *; have UW := hb1.trans (uW.mono hb1.size); have uc0 := uB.cell 0; have uc1 := uB.cell 1; have uc2 := uB.cell 2; have uc3 := uB.cell 3; have uc4 := uB.cell 4; simp at uc0 uc1 uc2 uc3 uc4)
    | (go_at_call 6; refine (SP.out _).mono ?_; rintro e w2 ⟨A, cp, rfl, hS, hb2⟩; clear SP; have UB := Lib.hid (uB.below hb2 uB.lt); have hbl := Nat.lt_of_lt_of_le uB.lt hb2.size; have UW2 := Lib.hid (UW.trans (hb2.mono UW.size)); have HS := Lib.hid hS; clear hb2 hS uB uW UW))
  go_loopw [11, 12] (fun av iv wr => ∃ k : Nat, k ≤ (Key.split s.data.toList).length ∧ iv = .int .i64 k ∧ av = .int .i64 (Utf.off (Key.split s.data.toList) k : Nat) ∧ Below w2.heap.size w2 wr) (fun _ iv _ => (Key.split s.data.toList).length - (intOf iv).toNat)
  case atStart => exact ⟨0, Nat.zero_le _, rfl, by rw [Utf.off_zero]; rfl, Below.refl _ _⟩
  case round =>
    obtain ⟨k, hk, rfl, rfl, hW⟩ := hrel
    by_cases hlt : k < (Key.split s.data.toList).length
    · obtain ⟨ad, rfl, hab, hcells⟩ := HS.out (by rw [List.length_map]; omega)
      obtain ⟨e, y, B⟩ := BG.out k hlt
      have Q1 : Hid (∀ u, Below w2.heap.size w2 u → u.cell? (ad.add k) = some (.string (bs (Key.split s.data.toList)[k]))) := Lib.hid (fun u hu => (hu.cell (p := ad.add k) (by rw [block_of_add]; exact hab)).trans (hcells k _ (by rw [List.getElem?_map, List.getElem?_eq_getElem hlt]; rfl)))
      obtain ⟨b1, b2, b3, b4, b5, b6⟩ := B
      have PY := Lib.hid (fun w => phr_ans (s := bs ((Key.split s.data.toList).take k).flatten) (visual := v) (by rw [← b4, ByteArray.size_extract]; omega) b5 w)
      have hri : (bs (Key.split s.data.toList)[k]).size = (Key.split s.data.toList)[k].length := bs_size _
      clear b5 hcells
      generalize bs (Key.split s.data.toList)[k] = R at *
      generalize (Key.split s.data.toList)[k].length = rl at *
      generalize bs ((Key.split s.data.toList).take k).flatten = PT at *
      generalize hof : Utf.off (Key.split s.data.toList) k = a at *
      generalize hof2 : Utf.off (Key.split s.data.toList) (k + 1) = a2 at *
      have hmin : min (a : Int) (s.size : Int) = a := by omega
      have z : wrap64 ((a : Int) + (rl : Int)) = (a2 : Int) := by unfold wrap64; omega
      have hk1 : (k : Int) < (Key.split s.data.toList).length := by omega
      have hkn : k + 1 ≤ (Key.split s.data.toList).length := by omega
      clear BG HS hof LV PZ
      rcases b6 with rfl | ⟨hy, _⟩
      · clear b1 b2 b3
        go_wp2_with (first
          | (go_at_call 5; refine (PY.out _).mono ?_; rintro e1 w4 ⟨rfl, hb4⟩; clear PY; generalize hv : w4.alloc (.cells #[.int .i64 0, .int .i64 0, .string ⟨#[]⟩, .string ⟨#[]⟩, .string ⟨#[]⟩] 24) = v0 at *; obtain ⟨⟨vx0, vy0⟩, ⟨vx1, vy1⟩, ⟨vx2, vy2⟩, ⟨vx3, vy3⟩, ⟨vx4, vy4⟩, vB, vW⟩ := Phr.box5 e hv; generalize hv1 : v0.setCell ⟨w4.heap.size, 0, none⟩ (.int .i64 e.reg) = v1 at *; generalize hv2 : v1.setCell ⟨w4.heap.size, 1, none⟩ (.int .i64 e.count) = v2 at *; generalize hv3 : v2.setCell ⟨w4.heap.size, 2, none⟩ (.string (bs e.op)) = v3 at *; generalize hv4 : v3.setCell ⟨w4.heap.size, 3, none⟩ (.string (bs e.key)) = v4 at *; generalize hv5 : v4.setCell ⟨w4.heap.size, 4, none⟩ (.string (bs e.arg)) = v5 at *; have VW := hW.trans ((hb4.trans (vW.mono hb4.size)).mono hW.size); have q2 := Q1.out _ VW; clear hb4 vW vB))
        go_roundw
        case rel => exact ⟨k + 1, hkn, by go_num, by rw [hof2, ← z], VW⟩
        case measure => simp [intOf]; omega
      · by_cases hy3 : y = 3
        · subst hy3
          clear hy b1 b2 b3
          go_wp2_with (first
            | (go_at_call 5; refine (PY.out _).mono ?_; rintro e1 w4 ⟨rfl, hb4⟩; clear PY; generalize hv : w4.alloc (.cells #[.int .i64 0, .int .i64 0, .string ⟨#[]⟩, .string ⟨#[]⟩, .string ⟨#[]⟩] 24) = v0 at *; obtain ⟨⟨vx0, vy0⟩, ⟨vx1, vy1⟩, ⟨vx2, vy2⟩, ⟨vx3, vy3⟩, ⟨vx4, vy4⟩, vB, vW⟩ := Phr.box5 e hv; generalize hv1 : v0.setCell ⟨w4.heap.size, 0, none⟩ (.int .i64 e.reg) = v1 at *; generalize hv2 : v1.setCell ⟨w4.heap.size, 1, none⟩ (.int .i64 e.count) = v2 at *; generalize hv3 : v2.setCell ⟨w4.heap.size, 2, none⟩ (.string (bs e.op)) = v3 at *; generalize hv4 : v3.setCell ⟨w4.heap.size, 3, none⟩ (.string (bs e.key)) = v4 at *; generalize hv5 : v4.setCell ⟨w4.heap.size, 4, none⟩ (.string (bs e.arg)) = v5 at *; have VW := hW.trans ((hb4.trans (vW.mono hb4.size)).mono hW.size); have q2 := Q1.out _ VW; clear hb4 vW vB))
          go_roundw
          case rel => exact ⟨k + 1, hkn, by go_num, by rw [hof2, ← z], VW⟩
          case measure => simp [intOf]; omega
        · clear b1 b2 b3
          go_wp2_with (first
            | (go_at_call 5; refine (PY.out _).mono ?_; rintro e1 w4 ⟨rfl, hb4⟩; clear PY; generalize hv : w4.alloc (.cells #[.int .i64 0, .int .i64 0, .string ⟨#[]⟩, .string ⟨#[]⟩, .string ⟨#[]⟩] 24) = v0 at *; obtain ⟨⟨vx0, vy0⟩, ⟨vx1, vy1⟩, ⟨vx2, vy2⟩, ⟨vx3, vy3⟩, ⟨vx4, vy4⟩, vB, vW⟩ := Phr.box5 e hv; generalize hv1 : v0.setCell ⟨w4.heap.size, 0, none⟩ (.int .i64 e.reg) = v1 at *; generalize hv2 : v1.setCell ⟨w4.heap.size, 1, none⟩ (.int .i64 e.count) = v2 at *; generalize hv3 : v2.setCell ⟨w4.heap.size, 2, none⟩ (.string (bs e.op)) = v3 at *; generalize hv4 : v3.setCell ⟨w4.heap.size, 3, none⟩ (.string (bs e.key)) = v4 at *; generalize hv5 : v4.setCell ⟨w4.heap.size, 4, none⟩ (.string (bs e.arg)) = v5 at *; have VW := hW.trans ((hb4.trans (vW.mono hb4.size)).mono hW.size); have q2 := Q1.out _ VW; clear hb4 vW vB))
          go_roundw
          case rel => exact ⟨k + 1, hkn, by go_num, by rw [hof2, ← z], VW⟩
          case measure => simp [intOf]; omega
    · obtain rfl : k = (Key.split s.data.toList).length := by omega
      clear BG HS
      go_wp2_with (first
        | (go_at_call 5; refine (PZ.out _).mono ?_; rintro e1 w5 ⟨rfl, hb5⟩; clear PZ; generalize hx : w5.alloc (.cells #[.int .i64 0, .int .i64 0, .string ⟨#[]⟩, .string ⟨#[]⟩, .string ⟨#[]⟩] 24) = x0 at *; obtain ⟨⟨xx0, xy0⟩, ⟨xx1, xy1⟩, ⟨xx2, xy2⟩, ⟨xx3, xy3⟩, ⟨xx4, xy4⟩, xB, xW⟩ := Phr.box5 d hx; generalize hx1 : x0.setCell ⟨w5.heap.size, 0, none⟩ (.int .i64 d.reg) = x1 at *; generalize hx2 : x1.setCell ⟨w5.heap.size, 1, none⟩ (.int .i64 d.count) = x2 at *; generalize hx3 : x2.setCell ⟨w5.heap.size, 2, none⟩ (.string (bs d.op)) = x3 at *; generalize hx4 : x3.setCell ⟨w5.heap.size, 3, none⟩ (.string (bs d.key)) = x4 at *; generalize hx5 : x4.setCell ⟨w5.heap.size, 4, none⟩ (.string (bs d.arg)) = x5 at *; have XW := hW.trans ((hb5.trans (xW.mono hb5.size)).mono hW.size); have uF := UB.out.below XW hbl; have f0 := uF.cell 0; have f1 := uF.cell 1; have f2 := uF.cell 2; have f3 := uF.cell 3; have f4 := uF.cell 4; have d0 := xB.cell 0; have d1 := xB.cell 1; have d2 := xB.cell 2; have d3 := xB.cell 3; have d4 := xB.cell 4; simp at f0 f1 f2 f3 f4 d0 d1 d2 d3 d4; have XF := UW2.out.trans (XW.mono UW2.out.size); clear uF xB xW hb5 XW)
        | (go_at_call 7; refine (VA.out _).mono ?_; rintro e2 w6 ⟨rfl, rfl⟩)
        | (go_at_call 4; refine (LV.out _).mono ?_; rintro e3 w7 ⟨rfl, hb7⟩))
      go_ret
      exact ⟨rfl, XF.trans (hb7.mono XF.size)⟩
set_option maxHeartbeats 2000000 in
set_option maxRecDepth 100000 in
theorem phr_whole_long_s {s t : ByteArray} (v : Bool) (h : 60 < s.size) (w : World) :
    Calls Try.prog 3 #[.string s, .string t, .bool v] w fun e w' => e = .returned (.bool true) ∧ Below w.heap.size w w' := by
  have LV := Lib.hid (fun w => phr_lives w)
  go_enter Try.func3, Try.ntmps3
  go_wp2_with (go_at_call 4; refine (LV.out _).mono ?_; rintro e3 w7 ⟨rfl, hb7⟩)
  go_ret
  exact ⟨rfl, hb7⟩
set_option maxHeartbeats 2000000 in
set_option maxRecDepth 100000 in
theorem phr_whole_long_t {s t : ByteArray} (v : Bool) (h0 : s.size ≤ 60) (h : 60 < t.size) (w : World) :
    Calls Try.prog 3 #[.string s, .string t, .bool v] w fun e w' => e = .returned (.bool true) ∧ Below w.heap.size w w' := by
  have LV := Lib.hid (fun w => phr_lives w)
  go_enter Try.func3, Try.ntmps3
  go_wp2_with (go_at_call 4; refine (LV.out _).mono ?_; rintro e3 w7 ⟨rfl, hb7⟩)
  go_ret
  exact ⟨rfl, hb7⟩
theorem phr_whole (s t : ByteArray) (v : Bool) (w : World) :
    Calls Try.prog 3 #[.string s, .string t, .bool v] w fun e w' => e = .returned (.bool true) ∧ Below w.heap.size w w' := by
  by_cases hs : s.size ≤ 60
  · by_cases ht : t.size ≤ 60
    · obtain ⟨c, x, hX⟩ : ∃ c x, Phr.ans v s.data.toList = (c, x) := ⟨_, _, rfl⟩
      have fine := Phr.ans_fine v s.data.toList
      rw [hX] at fine
      have hst : (s ++ t).data.toList = s.data.toList ++ t.data.toList := by simp
      have more : ∀ rs, Utf.dec s.data.toList = some rs → (t.toList == []) = false → x ≠ 1 → Phr.ans v (s ++ t).data.toList = (Phr.zero, 3) := fun rs hd hm hx => by
        rw [hst]
        refine Phr.ans_more hd ?_ (by rw [hX]; exact hx)
        intro h0
        have : t.toList = [] := by rw [show t.toList = t.data.toList from bs_tl t.data.toList, h0]
        rw [this] at hm
        cases hm
      have valid_ : ∀ rs, Utf.dec s.data.toList = some rs → Utf.valid s.data.toList = true := fun rs hd => by simp [Utf.valid, hd]
      rcases fine with f | f | ⟨f1, f2, f3, f4⟩
      · injection f with f1 f2; subst f1 f2; exact phr_whole_1x hs ht hX rfl w
      · injection f with f1 f2
        subst f1 f2
        rcases Bool.eq_false_or_eq_true (t.toList == []) with hm | hm
        · exact phr_whole_3e hs ht hX rfl hm w
        · cases hd : Utf.dec s.data.toList with
          | none => exact phr_whole_3n hs ht hX rfl hm (by simp [Utf.valid, hd]) w
          | some rs => exact phr_whole_3b hs ht hX rfl hm (valid_ rs hd) (more rs hd hm (by decide)) w
      · simp only at f1 f2 f3 f4
        subst f1
        rcases Bool.eq_false_or_eq_true (t.toList == []) with hm | hm
        · exact phr_whole_2e hs ht hX f2 f3 f4 hm w
        · have he : Key.err s.data.toList = 0 := by
            by_cases h : Key.err s.data.toList = 0
            · exact h
            · rw [Phr.ans_no h] at hX; rw [Phr.bad] at hX; injection hX with _ e; cases e
          obtain ⟨rs, hd, _⟩ := Key.err_zero he
          exact phr_whole_2b hs ht hX f2 f3 f4 hm (valid_ rs hd) (more rs hd hm (by decide)) w
    · exact phr_whole_long_t v hs (by omega) w
  · exact phr_whole_long_s v (by omega) w
section
open Go.ChangeShapes Go.WideShapes Go.ChangeAt
open Go.ChangeMaps (open_string)
set_option maxRecDepth 100000 in
theorem phraseWhole_lifted (os : Os) (started : os.Started) (H : Type) (enc : TypeId × Value → H) :
    ReturnsInHanded {} Try.checked os 3 .any (Rows.phraseWholeSpec.pre6 enc Try.prog Try.f3 Rows.phraseWholeRow.domain false) (Rows.phraseWholeSpec.post enc Try.prog Try.f3 false true false false) := by
  refine returnsInHanded_of_change_sized (C := Try.checked) own_knob started (by kernel_rfl) Try.func3
    (ChangeSpec.witness6 (enc := enc) (C := Try.checked) false ⟨#[], #[.string .empty, .string .empty, .bool false], []⟩ 8 (by kernel_rfl) (by kernel_rfl) (by kernel_rfl) (by kernel_rfl)) ?_
  intro W base args ds gs before hval0 hW _ hsz0 _
  have hsz : (DataW.weightsEach Try.prog (Try.f3.params.toList ++ Rows.phraseWholeSpec.plain.varTypes Try.prog) (ds ++ gs)).all (· ≤ reachBytes) = true := hsz0
  clear hsz0
  have hval : ∀ (j : Nat) t v, Try.f3.params[j]? = some t → args[j]? = some v → Value.okWide Try.prog W .any base t v := hval0
  have hW' := hW
  obtain ⟨p, q, hA0, hV, rfl, hfz, hnd⟩ := hW
  have hA : DataW.TrodAll enc Try.prog W 0 (fun _ => true) true Try.f3.params.toList args.toList ds p := hA0
  rw [Try.params3] at hA hval hsz
  obtain ⟨v0, vs0, d0, ds0, p0, q0, hargs, rfl, rfl, h0, r0⟩ := trodAll_cons hA
  obtain ⟨v1, vs1, d1, ds1, p1, q1, rfl, rfl, rfl, h1, r1⟩ := trodAll_cons r0
  obtain ⟨v2, vs2, d2, ds2, p2, q2, rfl, rfl, rfl, h2, r2⟩ := trodAll_cons r1
  obtain ⟨rfl, rfl, rfl⟩ := trodAll_nil r2
  obtain rfl : args = #[v0, v1, v2] := by cases args; simp_all
  obtain ⟨rfl, rfl⟩ := trodVars_none hV
  obtain ⟨s0, rfl, rfl, rfl, hmax0⟩ := open_string Try.underlying9 (hval 0 9 v0 rfl rfl) h0
  have hs0 : s0.size ≤ 140737488351232 := by rw [← data_len]; exact sized_string hsz (j := 0) (t := 9) rfl rfl
  obtain ⟨s1, rfl, rfl, rfl, hmax1⟩ := open_string Try.underlying9 (hval 1 9 v1 rfl rfl) h1
  have hs1 : s1.size ≤ 140737488351232 := by rw [← data_len]; exact sized_string hsz (j := 1) (t := 9) rfl rfl
  obtain ⟨b2, rfl, rfl, rfl⟩ := open_bool Try.underlying4 (hval 2 4 v2 rfl rfl) h2
  refine (phr_whole s0 s1 b2 W).mono fun e W' ⟨he, hb⟩ => ?_
  subst he
  exact ⟨_, rfl, law_post rfl rfl (by rw [Try.params3]; decide +kernel) ⟨rfl, rfl, rfl⟩ hW' hb⟩
theorem phraseWhole_holds : Rows.PhraseWholeSaid :=
  OpenClaim.holds_of_wide 3 Try.f3 rfl rfl rfl rfl rfl rfl rfl ⟨rfl, rfl, rfl, rfl, rfl⟩ rfl rfl rfl rfl rfl (by kernel_rfl) Try.func3 (by kernel_rfl)
    (of_decide_eq_true (by kernel_rfl)) (by unfold Func.isWrapper; first | (rw [if_pos (by decide +kernel)]; kernel_rfl) | (rw [if_neg (by decide +kernel)]; exact ⟨rfl, rfl⟩))
    (fun os started H enc _ => phraseWhole_lifted os started H enc)
end
end Go.Proofs.Ytchpkeelnfmlbaa
