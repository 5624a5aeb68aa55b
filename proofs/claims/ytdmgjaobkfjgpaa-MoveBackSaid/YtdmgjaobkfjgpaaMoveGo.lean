/-
  Where a key leads, as package move tells it; and the document's example.
-/
import Derived.Test.YtdmgjaobkfjgpaaMoveRes
import Derived.Test.YtdmgjaobkfjgpaaLineCount
namespace Go.Proofs.Ytdmgjaobkfjgpaa
open Go.RowKit
open Line (L of_ column)
open Utf (place)
set_option maxRecDepth 100000 in
theorem move_fn {m : Nat} (hm : m < 10) (s : ByteArray) (hs : s.size ≤ 1000000000000) {p n : Int} (want : Int) (hp : place s.data.toList p = true) (hn : n ≤ s.size + 2) (w : World) :
    Calls Try.prog (mfn m) #[fromV s p (of_ s.data.toList p) (((L s.data.toList).length : Int) - 1) n want] w fun e w' => e = .returned (.int .i64 (Move.praw m s.data.toList p n want)) ∧ Below w.heap.size w w' := by
  have hl := data_len s
  obtain ⟨c, k, x, hpc, hk, h1, h2, h3, e1, e2, e3⟩ := Line.place_line hp
  obtain ⟨rs, i, q, j, hd, hi, hq, hj, f1, f2, f3, hc, ha⟩ := Line.place_runes hk (by rw [← hpc]; exact hp) h1 h2
  rw [← hpc] at hc
  have hL := Line.L_length s.data.toList
  have hkl := (List.getElem?_eq_some_iff.1 hk).1
  have hjl := Line.off_ge' hd hj
  rcases m with _ | _ | _ | _ | _ | _ | _ | _ | _ | _ | m
  · by_cases h : p = Line.start s.data.toList (of_ s.data.toList p)
    · rw [show Move.praw 0 s.data.toList p n want = -1 by simp only [Move.praw]; rw [if_pos h]]
      exact move_left_no s hs h w
    · rw [show Move.praw 0 s.data.toList p n want = _ from if_neg h]
      exact move_left s hs h (wrap_id (by omega) (by omega)) w
  · by_cases h : p = Line.stop s.data.toList (of_ s.data.toList p)
    · rw [show Move.praw 1 s.data.toList p n want = -1 by simp only [Move.praw]; rw [if_pos h]]
      exact move_right_no s hs h w
    · rw [show Move.praw 1 s.data.toList p n want = _ from if_neg h]
      exact move_right s hs h (wrap_id (by omega) (by omega)) w
  · exact move_begin s hs w
  · exact move_first s hs w
  · exact move_end s hs (wrap_id (by omega) (by omega)) (wrap_id (by omega) (by omega)) w
  · exact move_column s hs (wrap_id (by omega) (by omega)) w
  · by_cases h : of_ s.data.toList p = ((L s.data.toList).length : Int) - 1
    · rw [show Move.praw 6 s.data.toList p n want = -1 by simp only [Move.praw]; rw [if_pos h]]
      exact move_down_no s hs h w
    · rw [show Move.praw 6 s.data.toList p n want = _ from if_neg h]
      exact move_down s hs h (wrap_id (by omega) (by omega)) w
  · by_cases h : of_ s.data.toList p = 0
    · rw [show Move.praw 7 s.data.toList p n want = -1 by simp only [Move.praw]; rw [if_pos h]]
      exact move_up_no s hs h w
    · rw [show Move.praw 7 s.data.toList p n want = _ from if_neg h]
      exact move_up s hs h (wrap_id (by omega) (by omega)) w
  · exact move_top s hs (wrap_id (by omega) (by omega)) w
  · by_cases h : n = 0
    · rw [show Move.praw 9 s.data.toList p n want = _ from if_pos h]
      exact move_bottom_last s hs h w
    · rw [show Move.praw 9 s.data.toList p n want = _ from if_neg h]
      exact move_bottom s hs h (wrap_id (by omega) (by omega)) w
  · omega
set_option maxRecDepth 100000 in
theorem move_Go_none (s : ByteArray) (p : Int) (key : ByteArray) (n want : Int) (hk : key.size ≤ 9223372036854775807) (hm : Move.mot key.data.toList = none) (w : World) :
    Calls Try.prog 8 #[.string s, .int .i64 p, .string key, .int .i64 n, .int .i64 want] w fun e w' => e = .returned (Move.res (Move.lead s.data.toList p key.data.toList n want)) ∧ Below w.heap.size w w' := by
  have LK := Lib.hid (fun (w1 : World) (h : MoveTbl w1 w.heap.size) => h.look hk)
  have CM := Lib.hid (fun w => move_motions w)
  have H : Hid (Move.res (Move.lead s.data.toList p key.data.toList n want) = .tuple #[.int .i64 0, .bool false]) := by show _ = _; rw [Move.lead_no hm]; rfl
  rw [hm] at LK
  go_enter Try.func8, Try.ntmps8
  go_wp2_with (go_at_call 15; refine (CM.out _).mono ?_; rintro e w1 ⟨rfl, ht, hb⟩; have hlk := LK.out w1 ht)
  go_ret2
  exact ⟨by rw [H.out]; rfl, hb⟩
set_option maxRecDepth 100000 in
theorem move_Go_bad (s : ByteArray) (p : Int) (key : ByteArray) (n want : Int) (hs : s.size ≤ 1000000000000) (hk : key.size ≤ 9223372036854775807) {m : Nat} (hm : Move.mot key.data.toList = some m) (hp : place s.data.toList p = false) (w : World) :
    Calls Try.prog 8 #[.string s, .int .i64 p, .string key, .int .i64 n, .int .i64 want] w fun e w' => e = .returned (Move.res (Move.lead s.data.toList p key.data.toList n want)) ∧ Below w.heap.size w w' := by
  have LK := Lib.hid (fun (w1 : World) (h : MoveTbl w1 w.heap.size) => h.look hk)
  have CM := Lib.hid (fun w => move_motions w)
  have C1 := Lib.hid (fun w => utf_Place s p (by omega) w)
  have H : Hid (Move.res (Move.lead s.data.toList p key.data.toList n want) = .tuple #[.int .i64 0, .bool false]) := by show _ = _; rw [Move.lead_bad hp]; rfl
  rw [hm] at LK
  rw [hp] at C1
  clear hm hp
  go_enter Try.func8, Try.ntmps8
  go_wp2_with (first
    | (go_at_call 15; refine (CM.out _).mono ?_; rintro e w1 ⟨rfl, ht, hb⟩; have hlk := LK.out w1 ht)
    | (go_at_call 12; refine (C1.out _).mono ?_; rintro e w2 ⟨rfl, rfl⟩))
  go_ret2
  exact ⟨by rw [H.out]; rfl, hb⟩
-- A KEY, BY PROGRAM
set_option maxHeartbeats 1000000 in
set_option maxRecDepth 100000 in
theorem move_Go_left (s : ByteArray) (p : Int) (key : ByteArray) (n want : Int) (hs : s.size ≤ 1000000000000) (hk : key.size ≤ 9223372036854775807) (hm : Move.mot key.data.toList = some 0) (hp : place s.data.toList p = true) (w : World) :
    Calls Try.prog 8 #[.string s, .int .i64 p, .string key, .int .i64 n, .int .i64 want] w fun e w' => e = .returned (Move.res (Move.lead s.data.toList p key.data.toList n want)) ∧ Below w.heap.size w w' := by
  have hl := data_len s
  have LK := Lib.hid (fun (w1 : World) (h : MoveTbl w1 w.heap.size) => h.look hk)
  have CM := Lib.hid (fun w => move_motions w)
  have C1 := Lib.hid (fun w => utf_Place s p (by omega) w)
  have HH := Move.lead_at hp hm n want
  have HR := Lib.hid (Move.praw_raw (Move.mot_lt hm) hp n want)
  have hcap : Move.cap s.data.toList n = min (max n 0) (s.size + 2) := by rw [Move.cap, hl]
  have CF := Lib.hid (fun w => move_fn (Move.mot_lt hm) s hs want hp (n := Move.cap s.data.toList n) (by unfold Move.cap; omega) w)
  have C2 := Lib.hid (fun w => line_Of s p hs w)
  have C3 := Lib.hid (fun w => line_Count s hs w)
  have hL := Line.L_length s.data.toList
  have r1 : IntKind.i64.wrap (((L s.data.toList).length : Int) - 1) = ((L s.data.toList).length : Int) - 1 := wrap_id (by omega) (by omega)
  rw [hm, show mval (some 0) = .func (.func 30) #[] #[] from rfl] at LK
  rw [hp] at C1
  rw [HR.out, hcap] at CF
  clear HR hp hcap hm hL
  generalize of_ s.data.toList p = k at *
  generalize (L s.data.toList).length = nl at *
  generalize Move.raw 0 s.data.toList p n want = v at *
  generalize hc : min (max n 0) ((s.size : Int) + 2) = c at *
  have H := Lib.hid HH
  clear HH hl
  by_cases hv : v < 0
  · go_enter Try.func8, Try.ntmps8
    go_wp2_with (first
      | (go_at_call 15; refine (CM.out _).mono ?_; rintro e w1 ⟨rfl, ht, hb⟩; have hlk := LK.out w1 ht)
      | (go_at_call 12; refine (C1.out _).mono ?_; rintro e w2 ⟨rfl, rfl⟩)
      | (go_at_call 13; refine (C2.out _).mono ?_; rintro e w3 ⟨rfl, hb3⟩; replace hb := below_on hb hb3)
      | (go_at_call 16; refine (C3.out _).mono ?_; rintro e w4 ⟨rfl, hb3⟩; replace hb := below_on hb hb3)
      | (go_at_call 30; refine (CF.out _).mono ?_; rintro e w5 ⟨rfl, hb3⟩; replace hb := below_on hb hb3))
    go_ret2
    exact ⟨by rw [H.out, Move.res_no hv]; rfl, hb⟩
  · go_enter Try.func8, Try.ntmps8
    go_wp2_with (first
      | (go_at_call 15; refine (CM.out _).mono ?_; rintro e w1 ⟨rfl, ht, hb⟩; have hlk := LK.out w1 ht)
      | (go_at_call 12; refine (C1.out _).mono ?_; rintro e w2 ⟨rfl, rfl⟩)
      | (go_at_call 13; refine (C2.out _).mono ?_; rintro e w3 ⟨rfl, hb3⟩; replace hb := below_on hb hb3)
      | (go_at_call 16; refine (C3.out _).mono ?_; rintro e w4 ⟨rfl, hb3⟩; replace hb := below_on hb hb3)
      | (go_at_call 30; refine (CF.out _).mono ?_; rintro e w5 ⟨rfl, hb3⟩; replace hb := below_on hb hb3))
    go_ret2
    exact ⟨by rw [H.out, Move.res_at hv]; rfl, hb⟩
set_option maxHeartbeats 1000000 in
set_option maxRecDepth 100000 in
theorem move_Go_right (s : ByteArray) (p : Int) (key : ByteArray) (n want : Int) (hs : s.size ≤ 1000000000000) (hk : key.size ≤ 9223372036854775807) (hm : Move.mot key.data.toList = some 1) (hp : place s.data.toList p = true) (w : World) :
    Calls Try.prog 8 #[.string s, .int .i64 p, .string key, .int .i64 n, .int .i64 want] w fun e w' => e = .returned (Move.res (Move.lead s.data.toList p key.data.toList n want)) ∧ Below w.heap.size w w' := by
  have hl := data_len s
  have LK := Lib.hid (fun (w1 : World) (h : MoveTbl w1 w.heap.size) => h.look hk)
  have CM := Lib.hid (fun w => move_motions w)
  have C1 := Lib.hid (fun w => utf_Place s p (by omega) w)
  have HH := Move.lead_at hp hm n want
  have HR := Lib.hid (Move.praw_raw (Move.mot_lt hm) hp n want)
  have hcap : Move.cap s.data.toList n = min (max n 0) (s.size + 2) := by rw [Move.cap, hl]
  have CF := Lib.hid (fun w => move_fn (Move.mot_lt hm) s hs want hp (n := Move.cap s.data.toList n) (by unfold Move.cap; omega) w)
  have C2 := Lib.hid (fun w => line_Of s p hs w)
  have C3 := Lib.hid (fun w => line_Count s hs w)
  have hL := Line.L_length s.data.toList
  have r1 : IntKind.i64.wrap (((L s.data.toList).length : Int) - 1) = ((L s.data.toList).length : Int) - 1 := wrap_id (by omega) (by omega)
  rw [hm, show mval (some 1) = .func (.func 31) #[] #[] from rfl] at LK
  rw [hp] at C1
  rw [HR.out, hcap] at CF
  clear HR hp hcap hm hL
  generalize of_ s.data.toList p = k at *
  generalize (L s.data.toList).length = nl at *
  generalize Move.raw 1 s.data.toList p n want = v at *
  generalize hc : min (max n 0) ((s.size : Int) + 2) = c at *
  have H := Lib.hid HH
  clear HH hl
  by_cases hv : v < 0
  · go_enter Try.func8, Try.ntmps8
    go_wp2_with (first
      | (go_at_call 15; refine (CM.out _).mono ?_; rintro e w1 ⟨rfl, ht, hb⟩; have hlk := LK.out w1 ht)
      | (go_at_call 12; refine (C1.out _).mono ?_; rintro e w2 ⟨rfl, rfl⟩)
      | (go_at_call 13; refine (C2.out _).mono ?_; rintro e w3 ⟨rfl, hb3⟩; replace hb := below_on hb hb3)
      | (go_at_call 16; refine (C3.out _).mono ?_; rintro e w4 ⟨rfl, hb3⟩; replace hb := below_on hb hb3)
      | (go_at_call 31; refine (CF.out _).mono ?_; rintro e w5 ⟨rfl, hb3⟩; replace hb := below_on hb hb3))
    go_ret2
    exact ⟨by rw [H.out, Move.res_no hv]; rfl, hb⟩
  · go_enter Try.func8, Try.ntmps8
    go_wp2_with (first
      | (go_at_call 15; refine (CM.out _).mono ?_; rintro e w1 ⟨rfl, ht, hb⟩; have hlk := LK.out w1 ht)
      | (go_at_call 12; refine (C1.out _).mono ?_; rintro e w2 ⟨rfl, rfl⟩)
      | (go_at_call 13; refine (C2.out _).mono ?_; rintro e w3 ⟨rfl, hb3⟩; replace hb := below_on hb hb3)
      | (go_at_call 16; refine (C3.out _).mono ?_; rintro e w4 ⟨rfl, hb3⟩; replace hb := below_on hb hb3)
      | (go_at_call 31; refine (CF.out _).mono ?_; rintro e w5 ⟨rfl, hb3⟩; replace hb := below_on hb hb3))
    go_ret2
    exact ⟨by rw [H.out, Move.res_at hv]; rfl, hb⟩
set_option maxHeartbeats 1000000 in
set_option maxRecDepth 100000 in
theorem move_Go_begin (s : ByteArray) (p : Int) (key : ByteArray) (n want : Int) (hs : s.size ≤ 1000000000000) (hk : key.size ≤ 9223372036854775807) (hm : Move.mot key.data.toList = some 2) (hp : place s.data.toList p = true) (w : World) :
    Calls Try.prog 8 #[.string s, .int .i64 p, .string key, .int .i64 n, .int .i64 want] w fun e w' => e = .returned (Move.res (Move.lead s.data.toList p key.data.toList n want)) ∧ Below w.heap.size w w' := by
  have hl := data_len s
  have LK := Lib.hid (fun (w1 : World) (h : MoveTbl w1 w.heap.size) => h.look hk)
  have CM := Lib.hid (fun w => move_motions w)
  have C1 := Lib.hid (fun w => utf_Place s p (by omega) w)
  have HH := Move.lead_at hp hm n want
  have HR := Lib.hid (Move.praw_raw (Move.mot_lt hm) hp n want)
  have hcap : Move.cap s.data.toList n = min (max n 0) (s.size + 2) := by rw [Move.cap, hl]
  have CF := Lib.hid (fun w => move_fn (Move.mot_lt hm) s hs want hp (n := Move.cap s.data.toList n) (by unfold Move.cap; omega) w)
  have C2 := Lib.hid (fun w => line_Of s p hs w)
  have C3 := Lib.hid (fun w => line_Count s hs w)
  have hL := Line.L_length s.data.toList
  have r1 : IntKind.i64.wrap (((L s.data.toList).length : Int) - 1) = ((L s.data.toList).length : Int) - 1 := wrap_id (by omega) (by omega)
  rw [hm, show mval (some 2) = .func (.func 32) #[] #[] from rfl] at LK
  rw [hp] at C1
  rw [HR.out, hcap] at CF
  clear HR hp hcap hm hL
  generalize of_ s.data.toList p = k at *
  generalize (L s.data.toList).length = nl at *
  generalize Move.raw 2 s.data.toList p n want = v at *
  generalize hc : min (max n 0) ((s.size : Int) + 2) = c at *
  have H := Lib.hid HH
  clear HH hl
  by_cases hv : v < 0
  · go_enter Try.func8, Try.ntmps8
    go_wp2_with (first
      | (go_at_call 15; refine (CM.out _).mono ?_; rintro e w1 ⟨rfl, ht, hb⟩; have hlk := LK.out w1 ht)
      | (go_at_call 12; refine (C1.out _).mono ?_; rintro e w2 ⟨rfl, rfl⟩)
      | (go_at_call 13; refine (C2.out _).mono ?_; rintro e w3 ⟨rfl, hb3⟩; replace hb := below_on hb hb3)
      | (go_at_call 16; refine (C3.out _).mono ?_; rintro e w4 ⟨rfl, hb3⟩; replace hb := below_on hb hb3)
      | (go_at_call 32; refine (CF.out _).mono ?_; rintro e w5 ⟨rfl, hb3⟩; replace hb := below_on hb hb3))
    go_ret2
    exact ⟨by rw [H.out, Move.res_no hv]; rfl, hb⟩
  · go_enter Try.func8, Try.ntmps8
    go_wp2_with (first
      | (go_at_call 15; refine (CM.out _).mono ?_; rintro e w1 ⟨rfl, ht, hb⟩; have hlk := LK.out w1 ht)
      | (go_at_call 12; refine (C1.out _).mono ?_; rintro e w2 ⟨rfl, rfl⟩)
      | (go_at_call 13; refine (C2.out _).mono ?_; rintro e w3 ⟨rfl, hb3⟩; replace hb := below_on hb hb3)
      | (go_at_call 16; refine (C3.out _).mono ?_; rintro e w4 ⟨rfl, hb3⟩; replace hb := below_on hb hb3)
      | (go_at_call 32; refine (CF.out _).mono ?_; rintro e w5 ⟨rfl, hb3⟩; replace hb := below_on hb hb3))
    go_ret2
    exact ⟨by rw [H.out, Move.res_at hv]; rfl, hb⟩
set_option maxHeartbeats 1000000 in
set_option maxRecDepth 100000 in
theorem move_Go_first (s : ByteArray) (p : Int) (key : ByteArray) (n want : Int) (hs : s.size ≤ 1000000000000) (hk : key.size ≤ 9223372036854775807) (hm : Move.mot key.data.toList = some 3) (hp : place s.data.toList p = true) (w : World) :
    Calls Try.prog 8 #[.string s, .int .i64 p, .string key, .int .i64 n, .int .i64 want] w fun e w' => e = .returned (Move.res (Move.lead s.data.toList p key.data.toList n want)) ∧ Below w.heap.size w w' := by
  have hl := data_len s
  have LK := Lib.hid (fun (w1 : World) (h : MoveTbl w1 w.heap.size) => h.look hk)
  have CM := Lib.hid (fun w => move_motions w)
  have C1 := Lib.hid (fun w => utf_Place s p (by omega) w)
  have HH := Move.lead_at hp hm n want
  have HR := Lib.hid (Move.praw_raw (Move.mot_lt hm) hp n want)
  have hcap : Move.cap s.data.toList n = min (max n 0) (s.size + 2) := by rw [Move.cap, hl]
  have CF := Lib.hid (fun w => move_fn (Move.mot_lt hm) s hs want hp (n := Move.cap s.data.toList n) (by unfold Move.cap; omega) w)
  have C2 := Lib.hid (fun w => line_Of s p hs w)
  have C3 := Lib.hid (fun w => line_Count s hs w)
  have hL := Line.L_length s.data.toList
  have r1 : IntKind.i64.wrap (((L s.data.toList).length : Int) - 1) = ((L s.data.toList).length : Int) - 1 := wrap_id (by omega) (by omega)
  rw [hm, show mval (some 3) = .func (.func 33) #[] #[] from rfl] at LK
  rw [hp] at C1
  rw [HR.out, hcap] at CF
  clear HR hp hcap hm hL
  generalize of_ s.data.toList p = k at *
  generalize (L s.data.toList).length = nl at *
  generalize Move.raw 3 s.data.toList p n want = v at *
  generalize hc : min (max n 0) ((s.size : Int) + 2) = c at *
  have H := Lib.hid HH
  clear HH hl
  by_cases hv : v < 0
  · go_enter Try.func8, Try.ntmps8
    go_wp2_with (first
      | (go_at_call 15; refine (CM.out _).mono ?_; rintro e w1 ⟨rfl, ht, hb⟩; have hlk := LK.out w1 ht)
      | (go_at_call 12; refine (C1.out _).mono ?_; rintro e w2 ⟨rfl, rfl⟩)
      | (go_at_call 13; refine (C2.out _).mono ?_; rintro e w3 ⟨rfl, hb3⟩; replace hb := below_on hb hb3)
      | (go_at_call 16; refine (C3.out _).mono ?_; rintro e w4 ⟨rfl, hb3⟩; replace hb := below_on hb hb3)
      | (go_at_call 33; refine (CF.out _).mono ?_; rintro e w5 ⟨rfl, hb3⟩; replace hb := below_on hb hb3))
    go_ret2
    exact ⟨by rw [H.out, Move.res_no hv]; rfl, hb⟩
  · go_enter Try.func8, Try.ntmps8
    go_wp2_with (first
      | (go_at_call 15; refine (CM.out _).mono ?_; rintro e w1 ⟨rfl, ht, hb⟩; have hlk := LK.out w1 ht)
      | (go_at_call 12; refine (C1.out _).mono ?_; rintro e w2 ⟨rfl, rfl⟩)
      | (go_at_call 13; refine (C2.out _).mono ?_; rintro e w3 ⟨rfl, hb3⟩; replace hb := below_on hb hb3)
      | (go_at_call 16; refine (C3.out _).mono ?_; rintro e w4 ⟨rfl, hb3⟩; replace hb := below_on hb hb3)
      | (go_at_call 33; refine (CF.out _).mono ?_; rintro e w5 ⟨rfl, hb3⟩; replace hb := below_on hb hb3))
    go_ret2
    exact ⟨by rw [H.out, Move.res_at hv]; rfl, hb⟩
set_option maxHeartbeats 1000000 in
set_option maxRecDepth 100000 in
theorem move_Go_end (s : ByteArray) (p : Int) (key : ByteArray) (n want : Int) (hs : s.size ≤ 1000000000000) (hk : key.size ≤ 9223372036854775807) (hm : Move.mot key.data.toList = some 4) (hp : place s.data.toList p = true) (w : World) :
    Calls Try.prog 8 #[.string s, .int .i64 p, .string key, .int .i64 n, .int .i64 want] w fun e w' => e = .returned (Move.res (Move.lead s.data.toList p key.data.toList n want)) ∧ Below w.heap.size w w' := by
  have hl := data_len s
  have LK := Lib.hid (fun (w1 : World) (h : MoveTbl w1 w.heap.size) => h.look hk)
  have CM := Lib.hid (fun w => move_motions w)
  have C1 := Lib.hid (fun w => utf_Place s p (by omega) w)
  have HH := Move.lead_at hp hm n want
  have HR := Lib.hid (Move.praw_raw (Move.mot_lt hm) hp n want)
  have hcap : Move.cap s.data.toList n = min (max n 0) (s.size + 2) := by rw [Move.cap, hl]
  have CF := Lib.hid (fun w => move_fn (Move.mot_lt hm) s hs want hp (n := Move.cap s.data.toList n) (by unfold Move.cap; omega) w)
  have C2 := Lib.hid (fun w => line_Of s p hs w)
  have C3 := Lib.hid (fun w => line_Count s hs w)
  have hL := Line.L_length s.data.toList
  have r1 : IntKind.i64.wrap (((L s.data.toList).length : Int) - 1) = ((L s.data.toList).length : Int) - 1 := wrap_id (by omega) (by omega)
  rw [hm, show mval (some 4) = .func (.func 34) #[] #[] from rfl] at LK
  rw [hp] at C1
  rw [HR.out, hcap] at CF
  clear HR hp hcap hm hL
  generalize of_ s.data.toList p = k at *
  generalize (L s.data.toList).length = nl at *
  generalize Move.raw 4 s.data.toList p n want = v at *
  generalize hc : min (max n 0) ((s.size : Int) + 2) = c at *
  have H := Lib.hid HH
  clear HH hl
  by_cases hv : v < 0
  · go_enter Try.func8, Try.ntmps8
    go_wp2_with (first
      | (go_at_call 15; refine (CM.out _).mono ?_; rintro e w1 ⟨rfl, ht, hb⟩; have hlk := LK.out w1 ht)
      | (go_at_call 12; refine (C1.out _).mono ?_; rintro e w2 ⟨rfl, rfl⟩)
      | (go_at_call 13; refine (C2.out _).mono ?_; rintro e w3 ⟨rfl, hb3⟩; replace hb := below_on hb hb3)
      | (go_at_call 16; refine (C3.out _).mono ?_; rintro e w4 ⟨rfl, hb3⟩; replace hb := below_on hb hb3)
      | (go_at_call 34; refine (CF.out _).mono ?_; rintro e w5 ⟨rfl, hb3⟩; replace hb := below_on hb hb3))
    go_ret2
    exact ⟨by rw [H.out, Move.res_no hv]; rfl, hb⟩
  · go_enter Try.func8, Try.ntmps8
    go_wp2_with (first
      | (go_at_call 15; refine (CM.out _).mono ?_; rintro e w1 ⟨rfl, ht, hb⟩; have hlk := LK.out w1 ht)
      | (go_at_call 12; refine (C1.out _).mono ?_; rintro e w2 ⟨rfl, rfl⟩)
      | (go_at_call 13; refine (C2.out _).mono ?_; rintro e w3 ⟨rfl, hb3⟩; replace hb := below_on hb hb3)
      | (go_at_call 16; refine (C3.out _).mono ?_; rintro e w4 ⟨rfl, hb3⟩; replace hb := below_on hb hb3)
      | (go_at_call 34; refine (CF.out _).mono ?_; rintro e w5 ⟨rfl, hb3⟩; replace hb := below_on hb hb3))
    go_ret2
    exact ⟨by rw [H.out, Move.res_at hv]; rfl, hb⟩
set_option maxHeartbeats 1000000 in
set_option maxRecDepth 100000 in
theorem move_Go_column (s : ByteArray) (p : Int) (key : ByteArray) (n want : Int) (hs : s.size ≤ 1000000000000) (hk : key.size ≤ 9223372036854775807) (hm : Move.mot key.data.toList = some 5) (hp : place s.data.toList p = true) (w : World) :
    Calls Try.prog 8 #[.string s, .int .i64 p, .string key, .int .i64 n, .int .i64 want] w fun e w' => e = .returned (Move.res (Move.lead s.data.toList p key.data.toList n want)) ∧ Below w.heap.size w w' := by
  have hl := data_len s
  have LK := Lib.hid (fun (w1 : World) (h : MoveTbl w1 w.heap.size) => h.look hk)
  have CM := Lib.hid (fun w => move_motions w)
  have C1 := Lib.hid (fun w => utf_Place s p (by omega) w)
  have HH := Move.lead_at hp hm n want
  have HR := Lib.hid (Move.praw_raw (Move.mot_lt hm) hp n want)
  have hcap : Move.cap s.data.toList n = min (max n 0) (s.size + 2) := by rw [Move.cap, hl]
  have CF := Lib.hid (fun w => move_fn (Move.mot_lt hm) s hs want hp (n := Move.cap s.data.toList n) (by unfold Move.cap; omega) w)
  have C2 := Lib.hid (fun w => line_Of s p hs w)
  have C3 := Lib.hid (fun w => line_Count s hs w)
  have hL := Line.L_length s.data.toList
  have r1 : IntKind.i64.wrap (((L s.data.toList).length : Int) - 1) = ((L s.data.toList).length : Int) - 1 := wrap_id (by omega) (by omega)
  rw [hm, show mval (some 5) = .func (.func 35) #[] #[] from rfl] at LK
  rw [hp] at C1
  rw [HR.out, hcap] at CF
  clear HR hp hcap hm hL
  generalize of_ s.data.toList p = k at *
  generalize (L s.data.toList).length = nl at *
  generalize Move.raw 5 s.data.toList p n want = v at *
  generalize hc : min (max n 0) ((s.size : Int) + 2) = c at *
  have H := Lib.hid HH
  clear HH hl
  by_cases hv : v < 0
  · go_enter Try.func8, Try.ntmps8
    go_wp2_with (first
      | (go_at_call 15; refine (CM.out _).mono ?_; rintro e w1 ⟨rfl, ht, hb⟩; have hlk := LK.out w1 ht)
      | (go_at_call 12; refine (C1.out _).mono ?_; rintro e w2 ⟨rfl, rfl⟩)
      | (go_at_call 13; refine (C2.out _).mono ?_; rintro e w3 ⟨rfl, hb3⟩; replace hb := below_on hb hb3)
      | (go_at_call 16; refine (C3.out _).mono ?_; rintro e w4 ⟨rfl, hb3⟩; replace hb := below_on hb hb3)
      | (go_at_call 35; refine (CF.out _).mono ?_; rintro e w5 ⟨rfl, hb3⟩; replace hb := below_on hb hb3))
    go_ret2
    exact ⟨by rw [H.out, Move.res_no hv]; rfl, hb⟩
  · go_enter Try.func8, Try.ntmps8
    go_wp2_with (first
      | (go_at_call 15; refine (CM.out _).mono ?_; rintro e w1 ⟨rfl, ht, hb⟩; have hlk := LK.out w1 ht)
      | (go_at_call 12; refine (C1.out _).mono ?_; rintro e w2 ⟨rfl, rfl⟩)
      | (go_at_call 13; refine (C2.out _).mono ?_; rintro e w3 ⟨rfl, hb3⟩; replace hb := below_on hb hb3)
      | (go_at_call 16; refine (C3.out _).mono ?_; rintro e w4 ⟨rfl, hb3⟩; replace hb := below_on hb hb3)
      | (go_at_call 35; refine (CF.out _).mono ?_; rintro e w5 ⟨rfl, hb3⟩; replace hb := below_on hb hb3))
    go_ret2
    exact ⟨by rw [H.out, Move.res_at hv]; rfl, hb⟩
set_option maxHeartbeats 1000000 in
set_option maxRecDepth 100000 in
theorem move_Go_down (s : ByteArray) (p : Int) (key : ByteArray) (n want : Int) (hs : s.size ≤ 1000000000000) (hk : key.size ≤ 9223372036854775807) (hm : Move.mot key.data.toList = some 6) (hp : place s.data.toList p = true) (w : World) :
    Calls Try.prog 8 #[.string s, .int .i64 p, .string key, .int .i64 n, .int .i64 want] w fun e w' => e = .returned (Move.res (Move.lead s.data.toList p key.data.toList n want)) ∧ Below w.heap.size w w' := by
  have hl := data_len s
  have LK := Lib.hid (fun (w1 : World) (h : MoveTbl w1 w.heap.size) => h.look hk)
  have CM := Lib.hid (fun w => move_motions w)
  have C1 := Lib.hid (fun w => utf_Place s p (by omega) w)
  have HH := Move.lead_at hp hm n want
  have HR := Lib.hid (Move.praw_raw (Move.mot_lt hm) hp n want)
  have hcap : Move.cap s.data.toList n = min (max n 0) (s.size + 2) := by rw [Move.cap, hl]
  have CF := Lib.hid (fun w => move_fn (Move.mot_lt hm) s hs want hp (n := Move.cap s.data.toList n) (by unfold Move.cap; omega) w)
  have C2 := Lib.hid (fun w => line_Of s p hs w)
  have C3 := Lib.hid (fun w => line_Count s hs w)
  have hL := Line.L_length s.data.toList
  have r1 : IntKind.i64.wrap (((L s.data.toList).length : Int) - 1) = ((L s.data.toList).length : Int) - 1 := wrap_id (by omega) (by omega)
  rw [hm, show mval (some 6) = .func (.func 36) #[] #[] from rfl] at LK
  rw [hp] at C1
  rw [HR.out, hcap] at CF
  clear HR hp hcap hm hL
  generalize of_ s.data.toList p = k at *
  generalize (L s.data.toList).length = nl at *
  generalize Move.raw 6 s.data.toList p n want = v at *
  generalize hc : min (max n 0) ((s.size : Int) + 2) = c at *
  have H := Lib.hid HH
  clear HH hl
  by_cases hv : v < 0
  · go_enter Try.func8, Try.ntmps8
    go_wp2_with (first
      | (go_at_call 15; refine (CM.out _).mono ?_; rintro e w1 ⟨rfl, ht, hb⟩; have hlk := LK.out w1 ht)
      | (go_at_call 12; refine (C1.out _).mono ?_; rintro e w2 ⟨rfl, rfl⟩)
      | (go_at_call 13; refine (C2.out _).mono ?_; rintro e w3 ⟨rfl, hb3⟩; replace hb := below_on hb hb3)
      | (go_at_call 16; refine (C3.out _).mono ?_; rintro e w4 ⟨rfl, hb3⟩; replace hb := below_on hb hb3)
      | (go_at_call 36; refine (CF.out _).mono ?_; rintro e w5 ⟨rfl, hb3⟩; replace hb := below_on hb hb3))
    go_ret2
    exact ⟨by rw [H.out, Move.res_no hv]; rfl, hb⟩
  · go_enter Try.func8, Try.ntmps8
    go_wp2_with (first
      | (go_at_call 15; refine (CM.out _).mono ?_; rintro e w1 ⟨rfl, ht, hb⟩; have hlk := LK.out w1 ht)
      | (go_at_call 12; refine (C1.out _).mono ?_; rintro e w2 ⟨rfl, rfl⟩)
      | (go_at_call 13; refine (C2.out _).mono ?_; rintro e w3 ⟨rfl, hb3⟩; replace hb := below_on hb hb3)
      | (go_at_call 16; refine (C3.out _).mono ?_; rintro e w4 ⟨rfl, hb3⟩; replace hb := below_on hb hb3)
      | (go_at_call 36; refine (CF.out _).mono ?_; rintro e w5 ⟨rfl, hb3⟩; replace hb := below_on hb hb3))
    go_ret2
    exact ⟨by rw [H.out, Move.res_at hv]; rfl, hb⟩
set_option maxHeartbeats 1000000 in
set_option maxRecDepth 100000 in
theorem move_Go_up (s : ByteArray) (p : Int) (key : ByteArray) (n want : Int) (hs : s.size ≤ 1000000000000) (hk : key.size ≤ 9223372036854775807) (hm : Move.mot key.data.toList = some 7) (hp : place s.data.toList p = true) (w : World) :
    Calls Try.prog 8 #[.string s, .int .i64 p, .string key, .int .i64 n, .int .i64 want] w fun e w' => e = .returned (Move.res (Move.lead s.data.toList p key.data.toList n want)) ∧ Below w.heap.size w w' := by
  have hl := data_len s
  have LK := Lib.hid (fun (w1 : World) (h : MoveTbl w1 w.heap.size) => h.look hk)
  have CM := Lib.hid (fun w => move_motions w)
  have C1 := Lib.hid (fun w => utf_Place s p (by omega) w)
  have HH := Move.lead_at hp hm n want
  have HR := Lib.hid (Move.praw_raw (Move.mot_lt hm) hp n want)
  have hcap : Move.cap s.data.toList n = min (max n 0) (s.size + 2) := by rw [Move.cap, hl]
  have CF := Lib.hid (fun w => move_fn (Move.mot_lt hm) s hs want hp (n := Move.cap s.data.toList n) (by unfold Move.cap; omega) w)
  have C2 := Lib.hid (fun w => line_Of s p hs w)
  have C3 := Lib.hid (fun w => line_Count s hs w)
  have hL := Line.L_length s.data.toList
  have r1 : IntKind.i64.wrap (((L s.data.toList).length : Int) - 1) = ((L s.data.toList).length : Int) - 1 := wrap_id (by omega) (by omega)
  rw [hm, show mval (some 7) = .func (.func 37) #[] #[] from rfl] at LK
  rw [hp] at C1
  rw [HR.out, hcap] at CF
  clear HR hp hcap hm hL
  generalize of_ s.data.toList p = k at *
  generalize (L s.data.toList).length = nl at *
  generalize Move.raw 7 s.data.toList p n want = v at *
  generalize hc : min (max n 0) ((s.size : Int) + 2) = c at *
  have H := Lib.hid HH
  clear HH hl
  by_cases hv : v < 0
  · go_enter Try.func8, Try.ntmps8
    go_wp2_with (first
      | (go_at_call 15; refine (CM.out _).mono ?_; rintro e w1 ⟨rfl, ht, hb⟩; have hlk := LK.out w1 ht)
      | (go_at_call 12; refine (C1.out _).mono ?_; rintro e w2 ⟨rfl, rfl⟩)
      | (go_at_call 13; refine (C2.out _).mono ?_; rintro e w3 ⟨rfl, hb3⟩; replace hb := below_on hb hb3)
      | (go_at_call 16; refine (C3.out _).mono ?_; rintro e w4 ⟨rfl, hb3⟩; replace hb := below_on hb hb3)
      | (go_at_call 37; refine (CF.out _).mono ?_; rintro e w5 ⟨rfl, hb3⟩; replace hb := below_on hb hb3))
    go_ret2
    exact ⟨by rw [H.out, Move.res_no hv]; rfl, hb⟩
  · go_enter Try.func8, Try.ntmps8
    go_wp2_with (first
      | (go_at_call 15; refine (CM.out _).mono ?_; rintro e w1 ⟨rfl, ht, hb⟩; have hlk := LK.out w1 ht)
      | (go_at_call 12; refine (C1.out _).mono ?_; rintro e w2 ⟨rfl, rfl⟩)
      | (go_at_call 13; refine (C2.out _).mono ?_; rintro e w3 ⟨rfl, hb3⟩; replace hb := below_on hb hb3)
      | (go_at_call 16; refine (C3.out _).mono ?_; rintro e w4 ⟨rfl, hb3⟩; replace hb := below_on hb hb3)
      | (go_at_call 37; refine (CF.out _).mono ?_; rintro e w5 ⟨rfl, hb3⟩; replace hb := below_on hb hb3))
    go_ret2
    exact ⟨by rw [H.out, Move.res_at hv]; rfl, hb⟩
set_option maxHeartbeats 1000000 in
set_option maxRecDepth 100000 in
theorem move_Go_top (s : ByteArray) (p : Int) (key : ByteArray) (n want : Int) (hs : s.size ≤ 1000000000000) (hk : key.size ≤ 9223372036854775807) (hm : Move.mot key.data.toList = some 8) (hp : place s.data.toList p = true) (w : World) :
    Calls Try.prog 8 #[.string s, .int .i64 p, .string key, .int .i64 n, .int .i64 want] w fun e w' => e = .returned (Move.res (Move.lead s.data.toList p key.data.toList n want)) ∧ Below w.heap.size w w' := by
  have hl := data_len s
  have LK := Lib.hid (fun (w1 : World) (h : MoveTbl w1 w.heap.size) => h.look hk)
  have CM := Lib.hid (fun w => move_motions w)
  have C1 := Lib.hid (fun w => utf_Place s p (by omega) w)
  have HH := Move.lead_at hp hm n want
  have HR := Lib.hid (Move.praw_raw (Move.mot_lt hm) hp n want)
  have hcap : Move.cap s.data.toList n = min (max n 0) (s.size + 2) := by rw [Move.cap, hl]
  have CF := Lib.hid (fun w => move_fn (Move.mot_lt hm) s hs want hp (n := Move.cap s.data.toList n) (by unfold Move.cap; omega) w)
  have C2 := Lib.hid (fun w => line_Of s p hs w)
  have C3 := Lib.hid (fun w => line_Count s hs w)
  have hL := Line.L_length s.data.toList
  have r1 : IntKind.i64.wrap (((L s.data.toList).length : Int) - 1) = ((L s.data.toList).length : Int) - 1 := wrap_id (by omega) (by omega)
  rw [hm, show mval (some 8) = .func (.func 38) #[] #[] from rfl] at LK
  rw [hp] at C1
  rw [HR.out, hcap] at CF
  clear HR hp hcap hm hL
  generalize of_ s.data.toList p = k at *
  generalize (L s.data.toList).length = nl at *
  generalize Move.raw 8 s.data.toList p n want = v at *
  generalize hc : min (max n 0) ((s.size : Int) + 2) = c at *
  have H := Lib.hid HH
  clear HH hl
  by_cases hv : v < 0
  · go_enter Try.func8, Try.ntmps8
    go_wp2_with (first
      | (go_at_call 15; refine (CM.out _).mono ?_; rintro e w1 ⟨rfl, ht, hb⟩; have hlk := LK.out w1 ht)
      | (go_at_call 12; refine (C1.out _).mono ?_; rintro e w2 ⟨rfl, rfl⟩)
      | (go_at_call 13; refine (C2.out _).mono ?_; rintro e w3 ⟨rfl, hb3⟩; replace hb := below_on hb hb3)
      | (go_at_call 16; refine (C3.out _).mono ?_; rintro e w4 ⟨rfl, hb3⟩; replace hb := below_on hb hb3)
      | (go_at_call 38; refine (CF.out _).mono ?_; rintro e w5 ⟨rfl, hb3⟩; replace hb := below_on hb hb3))
    go_ret2
    exact ⟨by rw [H.out, Move.res_no hv]; rfl, hb⟩
  · go_enter Try.func8, Try.ntmps8
    go_wp2_with (first
      | (go_at_call 15; refine (CM.out _).mono ?_; rintro e w1 ⟨rfl, ht, hb⟩; have hlk := LK.out w1 ht)
      | (go_at_call 12; refine (C1.out _).mono ?_; rintro e w2 ⟨rfl, rfl⟩)
      | (go_at_call 13; refine (C2.out _).mono ?_; rintro e w3 ⟨rfl, hb3⟩; replace hb := below_on hb hb3)
      | (go_at_call 16; refine (C3.out _).mono ?_; rintro e w4 ⟨rfl, hb3⟩; replace hb := below_on hb hb3)
      | (go_at_call 38; refine (CF.out _).mono ?_; rintro e w5 ⟨rfl, hb3⟩; replace hb := below_on hb hb3))
    go_ret2
    exact ⟨by rw [H.out, Move.res_at hv]; rfl, hb⟩
set_option maxHeartbeats 1000000 in
set_option maxRecDepth 100000 in
theorem move_Go_bottom (s : ByteArray) (p : Int) (key : ByteArray) (n want : Int) (hs : s.size ≤ 1000000000000) (hk : key.size ≤ 9223372036854775807) (hm : Move.mot key.data.toList = some 9) (hp : place s.data.toList p = true) (w : World) :
    Calls Try.prog 8 #[.string s, .int .i64 p, .string key, .int .i64 n, .int .i64 want] w fun e w' => e = .returned (Move.res (Move.lead s.data.toList p key.data.toList n want)) ∧ Below w.heap.size w w' := by
  have hl := data_len s
  have LK := Lib.hid (fun (w1 : World) (h : MoveTbl w1 w.heap.size) => h.look hk)
  have CM := Lib.hid (fun w => move_motions w)
  have C1 := Lib.hid (fun w => utf_Place s p (by omega) w)
  have HH := Move.lead_at hp hm n want
  have HR := Lib.hid (Move.praw_raw (Move.mot_lt hm) hp n want)
  have hcap : Move.cap s.data.toList n = min (max n 0) (s.size + 2) := by rw [Move.cap, hl]
  have CF := Lib.hid (fun w => move_fn (Move.mot_lt hm) s hs want hp (n := Move.cap s.data.toList n) (by unfold Move.cap; omega) w)
  have C2 := Lib.hid (fun w => line_Of s p hs w)
  have C3 := Lib.hid (fun w => line_Count s hs w)
  have hL := Line.L_length s.data.toList
  have r1 : IntKind.i64.wrap (((L s.data.toList).length : Int) - 1) = ((L s.data.toList).length : Int) - 1 := wrap_id (by omega) (by omega)
  rw [hm, show mval (some 9) = .func (.func 39) #[] #[] from rfl] at LK
  rw [hp] at C1
  rw [HR.out, hcap] at CF
  clear HR hp hcap hm hL
  generalize of_ s.data.toList p = k at *
  generalize (L s.data.toList).length = nl at *
  generalize Move.raw 9 s.data.toList p n want = v at *
  generalize hc : min (max n 0) ((s.size : Int) + 2) = c at *
  have H := Lib.hid HH
  clear HH hl
  by_cases hv : v < 0
  · go_enter Try.func8, Try.ntmps8
    go_wp2_with (first
      | (go_at_call 15; refine (CM.out _).mono ?_; rintro e w1 ⟨rfl, ht, hb⟩; have hlk := LK.out w1 ht)
      | (go_at_call 12; refine (C1.out _).mono ?_; rintro e w2 ⟨rfl, rfl⟩)
      | (go_at_call 13; refine (C2.out _).mono ?_; rintro e w3 ⟨rfl, hb3⟩; replace hb := below_on hb hb3)
      | (go_at_call 16; refine (C3.out _).mono ?_; rintro e w4 ⟨rfl, hb3⟩; replace hb := below_on hb hb3)
      | (go_at_call 39; refine (CF.out _).mono ?_; rintro e w5 ⟨rfl, hb3⟩; replace hb := below_on hb hb3))
    go_ret2
    exact ⟨by rw [H.out, Move.res_no hv]; rfl, hb⟩
  · go_enter Try.func8, Try.ntmps8
    go_wp2_with (first
      | (go_at_call 15; refine (CM.out _).mono ?_; rintro e w1 ⟨rfl, ht, hb⟩; have hlk := LK.out w1 ht)
      | (go_at_call 12; refine (C1.out _).mono ?_; rintro e w2 ⟨rfl, rfl⟩)
      | (go_at_call 13; refine (C2.out _).mono ?_; rintro e w3 ⟨rfl, hb3⟩; replace hb := below_on hb hb3)
      | (go_at_call 16; refine (C3.out _).mono ?_; rintro e w4 ⟨rfl, hb3⟩; replace hb := below_on hb hb3)
      | (go_at_call 39; refine (CF.out _).mono ?_; rintro e w5 ⟨rfl, hb3⟩; replace hb := below_on hb hb3))
    go_ret2
    exact ⟨by rw [H.out, Move.res_at hv]; rfl, hb⟩
set_option maxRecDepth 100000 in
theorem move_Go (s : ByteArray) (p : Int) (key : ByteArray) (n want : Int) (hs : s.size ≤ 1000000000000) (hk : key.size ≤ 9223372036854775807) (w : World) :
    Calls Try.prog 8 #[.string s, .int .i64 p, .string key, .int .i64 n, .int .i64 want] w fun e w' => e = .returned (Move.res (Move.lead s.data.toList p key.data.toList n want)) ∧ Below w.heap.size w w' := by
  cases hm : Move.mot key.data.toList with
  | none => exact move_Go_none s p key n want hk hm w
  | some m =>
    cases hp : place s.data.toList p with
    | false => exact move_Go_bad s p key n want hs hk hm hp w
    | true =>
      have hlt := Move.mot_lt hm
      rcases m with _ | _ | _ | _ | _ | _ | _ | _ | _ | _ | m
      · exact move_Go_left s p key n want hs hk hm hp w
      · exact move_Go_right s p key n want hs hk hm hp w
      · exact move_Go_begin s p key n want hs hk hm hp w
      · exact move_Go_first s p key n want hs hk hm hp w
      · exact move_Go_end s p key n want hs hk hm hp w
      · exact move_Go_column s p key n want hs hk hm hp w
      · exact move_Go_down s p key n want hs hk hm hp w
      · exact move_Go_up s p key n want hs hk hm hp w
      · exact move_Go_top s p key n want hs hk hm hp w
      · exact move_Go_bottom s p key n want hs hk hm hp w
      · omega
namespace Move
abbrev exT : List UInt8 := [97, 98, 10, 99, 100]
theorem ex_dec : Utf.dec exT = some [[97], [98], [10], [99], [100]] := Utf.dec_of (rs := [[97], [98], [10], [99], [100]]) (by intro r hr; simp at hr; rcases hr with rfl | rfl | rfl | rfl | rfl <;> decide)
theorem ex_L : Line.L exT = [(0, 2), (3, 5)] := by rw [Line.L_ok (Utf.valid_ok ex_dec)]; decide
theorem ex_place : place exT 0 = true := Utf.place_at ex_dec (i := 0) (by decide)
theorem ex_of : of_ exT 0 = 0 := Line.of_at (k := 0) (p := 0) (x := (0, 2)) (by rw [ex_L]; rfl) (by decide) (by decide)
theorem ex_j : lead exT 0 [106] 0 1 = 4 := by
  rw [lead_at ex_place (show mot [106] = some 6 from rfl)]
  simp only [raw, ex_of, ex_L]
  exact Line.at_runes ex_dec (k := 1) (x := (3, 5)) (i := 3) (j := 5) (by rw [show ((1 : Int)) = ((1 : Nat) : Int) from rfl, Line.line_nat, ex_L]; rfl) (by decide) (by decide) (by decide) (by decide) 1
theorem ex_col : column exT 0 = 0 := Line.column_runes ex_dec (k := 0) (x := (0, 2)) (i := 0) (j := 2) (m := 0) (by rw [ex_L]; rfl) (by decide) (by decide) (by decide) (by decide) (by decide)
theorem ex_l : lead exT 0 [108] 9 0 = 2 := by
  rw [lead_at ex_place (show mot [108] = some 1 from rfl)]
  have e : Line.stop exT 0 = 2 := Line.stop_some (k := 0) (x := (0, 2)) (by rw [show ((0 : Int)) = ((0 : Nat) : Int) from rfl, Line.line_nat, ex_L]; rfl)
  simp only [raw, ex_of, ex_col, e]
  exact Line.at_runes ex_dec (k := 0) (x := (0, 2)) (i := 0) (j := 2) (by rw [show ((0 : Int)) = ((0 : Nat) : Int) from rfl, Line.line_nat, ex_L]; rfl) (by decide) (by decide) (by decide) (by decide) 5
end Move
set_option maxHeartbeats 400000 in
set_option maxRecDepth 100000 in
theorem move_lives (w : World) :
    Calls Try.prog 7 #[] w fun e w' => e = .returned (.bool true) ∧ Below w.heap.size w w' := by
  have c1 := fun w => move_Go (⟨#[97, 98, 10, 99, 100]⟩ : ByteArray) 0 (⟨#[106]⟩ : ByteArray) 0 1 (by decide) (by decide) w
  have c2 := fun w => move_Go (⟨#[97, 98, 10, 99, 100]⟩ : ByteArray) 0 (⟨#[108]⟩ : ByteArray) 9 0 (by decide) (by decide) w
  have c3 := fun w => move_Has (⟨#[103, 103]⟩ : ByteArray) (by decide) w
  have c4 := fun w => move_Has (⟨#[103]⟩ : ByteArray) (by decide) w
  rw [show (⟨#[97, 98, 10, 99, 100]⟩ : ByteArray).data.toList = Move.exT from rfl, show (⟨#[106]⟩ : ByteArray).data.toList = [106] from rfl, Move.ex_j] at c1
  rw [show (⟨#[97, 98, 10, 99, 100]⟩ : ByteArray).data.toList = Move.exT from rfl, show (⟨#[108]⟩ : ByteArray).data.toList = [108] from rfl, Move.ex_l] at c2
  rw [show (Move.mot (⟨#[103, 103]⟩ : ByteArray).data.toList).isSome = true from rfl] at c3
  rw [show (Move.mot (⟨#[103]⟩ : ByteArray).data.toList).isSome = false from rfl] at c4
  rw [show Move.res 4 = .tuple #[.int .i64 4, .bool true] from rfl] at c1
  rw [show Move.res 2 = .tuple #[.int .i64 2, .bool true] from rfl] at c2
  have C1 := Lib.hid c1
  have C2 := Lib.hid c2
  have C3 := Lib.hid c3
  have C4 := Lib.hid c4
  clear c1 c2 c3 c4
  go_enter Try.func7, Try.ntmps7
  go_wp2_with fail
  refine (C1.out _).mono ?_
  rintro e w1 ⟨rfl, hb1⟩
  go_wp2_with fail
  refine (C2.out _).mono ?_
  rintro e w2 ⟨rfl, hb2⟩
  go_wp2_with fail
  refine (C3.out _).mono ?_
  rintro e w3 ⟨rfl, hb3⟩
  go_wp2_with fail
  refine (C4.out _).mono ?_
  rintro e w4 ⟨rfl, hb4⟩
  have k4 := below_on (below_on (below_on hb1 hb2) hb3) hb4
  go_wp2
  go_ret
  exact ⟨rfl, k4⟩
end Go.Proofs.Ytdmgjaobkfjgpaa
