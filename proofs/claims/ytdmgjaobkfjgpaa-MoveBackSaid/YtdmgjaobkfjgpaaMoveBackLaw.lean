/-
  'calamuslaw14.MoveBack' answers true for every text, place and count: h leads back behind l, and k behind j, to the column, if there are so many.
-/
import Derived.Test.YtdmgjaobkfjgpaaMoveGo
import Derived.Test.YtdmgjaobkfjgpaaMoveRefGo
import Derived.Test.YtdmgjaobkfjgpaaFrame
namespace Go.Proofs.Ytdmgjaobkfjgpaa
open Go.RowKit
open Line (L of_ column)
open Utf (place)
namespace Move
theorem back_facts {s : List UInt8} {p : Int} (hp : place s p = true) : 0 ≤ p ∧ (0 ≤ of_ s p ∧ of_ s p ≤ s.length) ∧ (0 ≤ column s p ∧ column s p ≤ s.length) := by
  obtain ⟨c, k, x, hpc, hk, h1, h2, h3, e1, e2, e3⟩ := Line.place_line hp
  obtain ⟨rs, i, q, j, hd, hi, hq, hj, f1, f2, f3, hc, ha⟩ := Line.place_runes hk (by rw [← hpc]; exact hp) h1 h2
  rw [← hpc] at hc
  have hL := Line.L_length s
  have hkl := (List.getElem?_eq_some_iff.1 hk).1
  have hjl := Line.off_ge' hd hj
  omega
theorem back_fit {m : Nat} (hm : m < 10) {s : List UInt8} {p : Int} (hp : place s p = true) (n want : Int) (h : 0 ≤ raw m s p n want) : place s (raw m s p n want) = true ∧ (0 ≤ of_ s (raw m s p n want) ∧ of_ s (raw m s p n want) ≤ s.length) ∧ (0 ≤ column s (raw m s p n want) ∧ column s (raw m s p n want) ≤ s.length) := by
  obtain ⟨c, k, x, rfl, hk, h1, h2, h3, e1, e2, e3⟩ := Line.place_line hp
  rcases raw_ok hm hp hk h1 h2 n want with h' | ⟨c', k', y, h', hc, _⟩
  · omega
  · rw [h']
    have := back_facts hc
    exact ⟨hc, this.2⟩
end Move
set_option maxHeartbeats 1000000 in
set_option maxRecDepth 100000 in
theorem moveBack_aa (s : ByteArray) {p n : Int} (h3 : ¬ 300 < s.size) (hp : place s.data.toList p = true) (h1 : ¬ n < 1) {v x : Int} (hv : Move.lead s.data.toList p [108] n 0 = v) (hx : Move.lead s.data.toList p [106] n (column s.data.toList p) = x) (ha : v < 0) (hb : x < 0) (w : World) :
    Calls Try.prog 6 #[.string s, .int .i64 p, .int .i64 n] w fun e w' => e = .returned (.bool true) ∧ Below w.heap.size w w' := by
  have g0 : decide ((300 : Int) < (s.size : Int)) = false := by simp; omega
  have C := Lib.hid (fun w => utf_Place s p (by omega) w)
  rw [hp] at C
  have D := Lib.hid (fun w => line_Of s p (by omega) w)
  have E := Lib.hid (fun w => line_Column s p (by omega) w)
  have A := fun w => move_Go s p ⟨#[108]⟩ n 0 (by omega) (by decide) w
  rw [show (⟨#[108]⟩ : ByteArray).data.toList = [108] from rfl, hv, Move.res_no ha] at A
  have A := Lib.hid A
  have G := fun w => move_Go s p ⟨#[106]⟩ n (column s.data.toList p) (by omega) (by decide) w
  rw [show (⟨#[106]⟩ : ByteArray).data.toList = [106] from rfl, hx, Move.res_no hb] at G
  have G := Lib.hid G
  clear hv hx hp 
  generalize column s.data.toList p = col at *
  generalize of_ s.data.toList p = k at *
  go_enter Try.func6, Try.ntmps6
  go_wp2_with fail
  refine (C.out _).mono ?_
  rintro e ux0 ⟨rfl, rfl⟩
  go_wp2_with fail
  refine (D.out _).mono ?_
  rintro e w1 ⟨rfl, hb1⟩
  have kk := hb1
  clear hb1
  go_wp2_with fail
  refine (E.out _).mono ?_
  rintro e w2 ⟨rfl, hb2⟩
  replace kk := below_on kk hb2
  clear hb2
  go_wp2_with fail
  refine (A.out _).mono ?_
  rintro e w3 ⟨rfl, hb3⟩
  replace kk := below_on kk hb3
  clear hb3
  go_wp2_with fail
  refine (G.out _).mono ?_
  rintro e w4 ⟨rfl, hb4⟩
  replace kk := below_on kk hb4
  clear hb4
  go_wp2_with fail
  refine (move_lives _).mono ?_
  rintro e w5 ⟨rfl, hb5⟩
  replace kk := below_on kk hb5
  clear hb5
  go_wp2
  go_ret
  exact ⟨rfl, kk⟩
set_option maxHeartbeats 1000000 in
set_option maxRecDepth 100000 in
theorem moveBack_ab (s : ByteArray) {p n : Int} (h3 : ¬ 300 < s.size) (hp : place s.data.toList p = true) (h1 : ¬ n < 1) {v x : Int} (hv : Move.lead s.data.toList p [108] n 0 = v) (hx : Move.lead s.data.toList p [106] n (column s.data.toList p) = x) (ha : v < 0) (hb : 0 ≤ x) (eb : of_ s.data.toList x ≠ IntKind.i64.wrap (of_ s.data.toList p + n)) (w : World) :
    Calls Try.prog 6 #[.string s, .int .i64 p, .int .i64 n] w fun e w' => e = .returned (.bool true) ∧ Below w.heap.size w w' := by
  have g0 : decide ((300 : Int) < (s.size : Int)) = false := by simp; omega
  have C := Lib.hid (fun w => utf_Place s p (by omega) w)
  rw [hp] at C
  have D := Lib.hid (fun w => line_Of s p (by omega) w)
  have E := Lib.hid (fun w => line_Column s p (by omega) w)
  have A := fun w => move_Go s p ⟨#[108]⟩ n 0 (by omega) (by decide) w
  rw [show (⟨#[108]⟩ : ByteArray).data.toList = [108] from rfl, hv, Move.res_no ha] at A
  have A := Lib.hid A
  have G := fun w => move_Go s p ⟨#[106]⟩ n (column s.data.toList p) (by omega) (by decide) w
  rw [show (⟨#[106]⟩ : ByteArray).data.toList = [106] from rfl, hx, Move.res_at hb] at G
  have G := Lib.hid G
  have G2 := Lib.hid (fun w => line_Of s x (by omega) w)
  have q2 : (of_ s.data.toList x == IntKind.i64.wrap (of_ s.data.toList p + n)) = false := by rw [beq_eq_false_iff_ne]; exact eb
  clear hv hx hp eb 
  generalize of_ s.data.toList x = kx at *
  generalize column s.data.toList p = col at *
  generalize of_ s.data.toList p = k at *
  generalize hq2 : IntKind.i64.wrap (k + n) = y2 at *
  go_enter Try.func6, Try.ntmps6
  go_wp2_with fail
  refine (C.out _).mono ?_
  rintro e ux0 ⟨rfl, rfl⟩
  go_wp2_with fail
  refine (D.out _).mono ?_
  rintro e w1 ⟨rfl, hb1⟩
  have kk := hb1
  clear hb1
  go_wp2_with fail
  refine (E.out _).mono ?_
  rintro e w2 ⟨rfl, hb2⟩
  replace kk := below_on kk hb2
  clear hb2
  go_wp2_with fail
  refine (A.out _).mono ?_
  rintro e w3 ⟨rfl, hb3⟩
  replace kk := below_on kk hb3
  clear hb3
  go_wp2_with fail
  refine (G.out _).mono ?_
  rintro e w4 ⟨rfl, hb4⟩
  replace kk := below_on kk hb4
  clear hb4
  go_wp2_with fail
  refine (G2.out _).mono ?_
  rintro e w5 ⟨rfl, hb5⟩
  replace kk := below_on kk hb5
  clear hb5
  go_wp2_with fail
  refine (move_lives _).mono ?_
  rintro e w6 ⟨rfl, hb6⟩
  replace kk := below_on kk hb6
  clear hb6
  go_wp2
  go_ret
  exact ⟨rfl, kk⟩
set_option maxHeartbeats 1000000 in
set_option maxRecDepth 100000 in
theorem moveBack_ac (s : ByteArray) {p n : Int} (h3 : ¬ 300 < s.size) (hp : place s.data.toList p = true) (h1 : ¬ n < 1) {v x : Int} (hv : Move.lead s.data.toList p [108] n 0 = v) (hx : Move.lead s.data.toList p [106] n (column s.data.toList p) = x) (ha : v < 0) (hb : 0 ≤ x) (eb : of_ s.data.toList x = IntKind.i64.wrap (of_ s.data.toList p + n)) (bb : Move.lead s.data.toList x [107] n (column s.data.toList p) = p) (hp0 : 0 ≤ p) (w : World) :
    Calls Try.prog 6 #[.string s, .int .i64 p, .int .i64 n] w fun e w' => e = .returned (.bool true) ∧ Below w.heap.size w w' := by
  have g0 : decide ((300 : Int) < (s.size : Int)) = false := by simp; omega
  have C := Lib.hid (fun w => utf_Place s p (by omega) w)
  rw [hp] at C
  have D := Lib.hid (fun w => line_Of s p (by omega) w)
  have E := Lib.hid (fun w => line_Column s p (by omega) w)
  have A := fun w => move_Go s p ⟨#[108]⟩ n 0 (by omega) (by decide) w
  rw [show (⟨#[108]⟩ : ByteArray).data.toList = [108] from rfl, hv, Move.res_no ha] at A
  have A := Lib.hid A
  have G := fun w => move_Go s p ⟨#[106]⟩ n (column s.data.toList p) (by omega) (by decide) w
  rw [show (⟨#[106]⟩ : ByteArray).data.toList = [106] from rfl, hx, Move.res_at hb] at G
  have G := Lib.hid G
  have G2 := Lib.hid (fun w => line_Of s x (by omega) w)
  have G3 := fun w => move_Go s x ⟨#[107]⟩ n (column s.data.toList p) (by omega) (by decide) w
  rw [show (⟨#[107]⟩ : ByteArray).data.toList = [107] from rfl, bb, Move.res_at hp0] at G3
  have G3 := Lib.hid G3
  have q2 : (of_ s.data.toList x == IntKind.i64.wrap (of_ s.data.toList p + n)) = true := by rw [beq_iff_eq]; exact eb
  clear hv hx hp eb bb hp0
  generalize of_ s.data.toList x = kx at *
  generalize column s.data.toList p = col at *
  generalize of_ s.data.toList p = k at *
  generalize hq2 : IntKind.i64.wrap (k + n) = y2 at *
  go_enter Try.func6, Try.ntmps6
  go_wp2_with fail
  refine (C.out _).mono ?_
  rintro e ux0 ⟨rfl, rfl⟩
  go_wp2_with fail
  refine (D.out _).mono ?_
  rintro e w1 ⟨rfl, hb1⟩
  have kk := hb1
  clear hb1
  go_wp2_with fail
  refine (E.out _).mono ?_
  rintro e w2 ⟨rfl, hb2⟩
  replace kk := below_on kk hb2
  clear hb2
  go_wp2_with fail
  refine (A.out _).mono ?_
  rintro e w3 ⟨rfl, hb3⟩
  replace kk := below_on kk hb3
  clear hb3
  go_wp2_with fail
  refine (G.out _).mono ?_
  rintro e w4 ⟨rfl, hb4⟩
  replace kk := below_on kk hb4
  clear hb4
  go_wp2_with fail
  refine (G2.out _).mono ?_
  rintro e w5 ⟨rfl, hb5⟩
  replace kk := below_on kk hb5
  clear hb5
  go_wp2_with fail
  refine (G3.out _).mono ?_
  rintro e w6 ⟨rfl, hb6⟩
  replace kk := below_on kk hb6
  clear hb6
  go_wp2_with fail
  refine (move_lives _).mono ?_
  rintro e w7 ⟨rfl, hb7⟩
  replace kk := below_on kk hb7
  clear hb7
  go_wp2
  go_ret
  exact ⟨rfl, kk⟩
set_option maxHeartbeats 1000000 in
set_option maxRecDepth 100000 in
theorem moveBack_ba (s : ByteArray) {p n : Int} (h3 : ¬ 300 < s.size) (hp : place s.data.toList p = true) (h1 : ¬ n < 1) {v x : Int} (hv : Move.lead s.data.toList p [108] n 0 = v) (hx : Move.lead s.data.toList p [106] n (column s.data.toList p) = x) (ha : 0 ≤ v) (ea : column s.data.toList v ≠ IntKind.i64.wrap (column s.data.toList p + n)) (hb : x < 0) (w : World) :
    Calls Try.prog 6 #[.string s, .int .i64 p, .int .i64 n] w fun e w' => e = .returned (.bool true) ∧ Below w.heap.size w w' := by
  have g0 : decide ((300 : Int) < (s.size : Int)) = false := by simp; omega
  have C := Lib.hid (fun w => utf_Place s p (by omega) w)
  rw [hp] at C
  have D := Lib.hid (fun w => line_Of s p (by omega) w)
  have E := Lib.hid (fun w => line_Column s p (by omega) w)
  have A := fun w => move_Go s p ⟨#[108]⟩ n 0 (by omega) (by decide) w
  rw [show (⟨#[108]⟩ : ByteArray).data.toList = [108] from rfl, hv, Move.res_at ha] at A
  have A := Lib.hid A
  have G := fun w => move_Go s p ⟨#[106]⟩ n (column s.data.toList p) (by omega) (by decide) w
  rw [show (⟨#[106]⟩ : ByteArray).data.toList = [106] from rfl, hx, Move.res_no hb] at G
  have G := Lib.hid G
  have A2 := Lib.hid (fun w => line_Column s v (by omega) w)
  have q1 : (column s.data.toList v == IntKind.i64.wrap (column s.data.toList p + n)) = false := by rw [beq_eq_false_iff_ne]; exact ea
  clear hv hx hp ea 
  generalize column s.data.toList v = cv at *
  generalize column s.data.toList p = col at *
  generalize of_ s.data.toList p = k at *
  generalize hq1 : IntKind.i64.wrap (col + n) = y1 at *
  go_enter Try.func6, Try.ntmps6
  go_wp2_with fail
  refine (C.out _).mono ?_
  rintro e ux0 ⟨rfl, rfl⟩
  go_wp2_with fail
  refine (D.out _).mono ?_
  rintro e w1 ⟨rfl, hb1⟩
  have kk := hb1
  clear hb1
  go_wp2_with fail
  refine (E.out _).mono ?_
  rintro e w2 ⟨rfl, hb2⟩
  replace kk := below_on kk hb2
  clear hb2
  go_wp2_with fail
  refine (A.out _).mono ?_
  rintro e w3 ⟨rfl, hb3⟩
  replace kk := below_on kk hb3
  clear hb3
  go_wp2_with fail
  refine (A2.out _).mono ?_
  rintro e w4 ⟨rfl, hb4⟩
  replace kk := below_on kk hb4
  clear hb4
  go_wp2_with fail
  refine (G.out _).mono ?_
  rintro e w5 ⟨rfl, hb5⟩
  replace kk := below_on kk hb5
  clear hb5
  go_wp2_with fail
  refine (move_lives _).mono ?_
  rintro e w6 ⟨rfl, hb6⟩
  replace kk := below_on kk hb6
  clear hb6
  go_wp2
  go_ret
  exact ⟨rfl, kk⟩
set_option maxHeartbeats 1000000 in
set_option maxRecDepth 100000 in
theorem moveBack_bb (s : ByteArray) {p n : Int} (h3 : ¬ 300 < s.size) (hp : place s.data.toList p = true) (h1 : ¬ n < 1) {v x : Int} (hv : Move.lead s.data.toList p [108] n 0 = v) (hx : Move.lead s.data.toList p [106] n (column s.data.toList p) = x) (ha : 0 ≤ v) (ea : column s.data.toList v ≠ IntKind.i64.wrap (column s.data.toList p + n)) (hb : 0 ≤ x) (eb : of_ s.data.toList x ≠ IntKind.i64.wrap (of_ s.data.toList p + n)) (w : World) :
    Calls Try.prog 6 #[.string s, .int .i64 p, .int .i64 n] w fun e w' => e = .returned (.bool true) ∧ Below w.heap.size w w' := by
  have g0 : decide ((300 : Int) < (s.size : Int)) = false := by simp; omega
  have C := Lib.hid (fun w => utf_Place s p (by omega) w)
  rw [hp] at C
  have D := Lib.hid (fun w => line_Of s p (by omega) w)
  have E := Lib.hid (fun w => line_Column s p (by omega) w)
  have A := fun w => move_Go s p ⟨#[108]⟩ n 0 (by omega) (by decide) w
  rw [show (⟨#[108]⟩ : ByteArray).data.toList = [108] from rfl, hv, Move.res_at ha] at A
  have A := Lib.hid A
  have G := fun w => move_Go s p ⟨#[106]⟩ n (column s.data.toList p) (by omega) (by decide) w
  rw [show (⟨#[106]⟩ : ByteArray).data.toList = [106] from rfl, hx, Move.res_at hb] at G
  have G := Lib.hid G
  have A2 := Lib.hid (fun w => line_Column s v (by omega) w)
  have G2 := Lib.hid (fun w => line_Of s x (by omega) w)
  have q1 : (column s.data.toList v == IntKind.i64.wrap (column s.data.toList p + n)) = false := by rw [beq_eq_false_iff_ne]; exact ea
  have q2 : (of_ s.data.toList x == IntKind.i64.wrap (of_ s.data.toList p + n)) = false := by rw [beq_eq_false_iff_ne]; exact eb
  clear hv hx hp ea eb 
  generalize column s.data.toList v = cv at *
  generalize of_ s.data.toList x = kx at *
  generalize column s.data.toList p = col at *
  generalize of_ s.data.toList p = k at *
  generalize hq1 : IntKind.i64.wrap (col + n) = y1 at *
  generalize hq2 : IntKind.i64.wrap (k + n) = y2 at *
  go_enter Try.func6, Try.ntmps6
  go_wp2_with fail
  refine (C.out _).mono ?_
  rintro e ux0 ⟨rfl, rfl⟩
  go_wp2_with fail
  refine (D.out _).mono ?_
  rintro e w1 ⟨rfl, hb1⟩
  have kk := hb1
  clear hb1
  go_wp2_with fail
  refine (E.out _).mono ?_
  rintro e w2 ⟨rfl, hb2⟩
  replace kk := below_on kk hb2
  clear hb2
  go_wp2_with fail
  refine (A.out _).mono ?_
  rintro e w3 ⟨rfl, hb3⟩
  replace kk := below_on kk hb3
  clear hb3
  go_wp2_with fail
  refine (A2.out _).mono ?_
  rintro e w4 ⟨rfl, hb4⟩
  replace kk := below_on kk hb4
  clear hb4
  go_wp2_with fail
  refine (G.out _).mono ?_
  rintro e w5 ⟨rfl, hb5⟩
  replace kk := below_on kk hb5
  clear hb5
  go_wp2_with fail
  refine (G2.out _).mono ?_
  rintro e w6 ⟨rfl, hb6⟩
  replace kk := below_on kk hb6
  clear hb6
  go_wp2_with fail
  refine (move_lives _).mono ?_
  rintro e w7 ⟨rfl, hb7⟩
  replace kk := below_on kk hb7
  clear hb7
  go_wp2
  go_ret
  exact ⟨rfl, kk⟩
set_option maxHeartbeats 1000000 in
set_option maxRecDepth 100000 in
theorem moveBack_bc (s : ByteArray) {p n : Int} (h3 : ¬ 300 < s.size) (hp : place s.data.toList p = true) (h1 : ¬ n < 1) {v x : Int} (hv : Move.lead s.data.toList p [108] n 0 = v) (hx : Move.lead s.data.toList p [106] n (column s.data.toList p) = x) (ha : 0 ≤ v) (ea : column s.data.toList v ≠ IntKind.i64.wrap (column s.data.toList p + n)) (hb : 0 ≤ x) (eb : of_ s.data.toList x = IntKind.i64.wrap (of_ s.data.toList p + n)) (bb : Move.lead s.data.toList x [107] n (column s.data.toList p) = p) (hp0 : 0 ≤ p) (w : World) :
    Calls Try.prog 6 #[.string s, .int .i64 p, .int .i64 n] w fun e w' => e = .returned (.bool true) ∧ Below w.heap.size w w' := by
  have g0 : decide ((300 : Int) < (s.size : Int)) = false := by simp; omega
  have C := Lib.hid (fun w => utf_Place s p (by omega) w)
  rw [hp] at C
  have D := Lib.hid (fun w => line_Of s p (by omega) w)
  have E := Lib.hid (fun w => line_Column s p (by omega) w)
  have A := fun w => move_Go s p ⟨#[108]⟩ n 0 (by omega) (by decide) w
  rw [show (⟨#[108]⟩ : ByteArray).data.toList = [108] from rfl, hv, Move.res_at ha] at A
  have A := Lib.hid A
  have G := fun w => move_Go s p ⟨#[106]⟩ n (column s.data.toList p) (by omega) (by decide) w
  rw [show (⟨#[106]⟩ : ByteArray).data.toList = [106] from rfl, hx, Move.res_at hb] at G
  have G := Lib.hid G
  have A2 := Lib.hid (fun w => line_Column s v (by omega) w)
  have G2 := Lib.hid (fun w => line_Of s x (by omega) w)
  have G3 := fun w => move_Go s x ⟨#[107]⟩ n (column s.data.toList p) (by omega) (by decide) w
  rw [show (⟨#[107]⟩ : ByteArray).data.toList = [107] from rfl, bb, Move.res_at hp0] at G3
  have G3 := Lib.hid G3
  have q1 : (column s.data.toList v == IntKind.i64.wrap (column s.data.toList p + n)) = false := by rw [beq_eq_false_iff_ne]; exact ea
  have q2 : (of_ s.data.toList x == IntKind.i64.wrap (of_ s.data.toList p + n)) = true := by rw [beq_iff_eq]; exact eb
  clear hv hx hp ea eb bb hp0
  generalize column s.data.toList v = cv at *
  generalize of_ s.data.toList x = kx at *
  generalize column s.data.toList p = col at *
  generalize of_ s.data.toList p = k at *
  generalize hq1 : IntKind.i64.wrap (col + n) = y1 at *
  generalize hq2 : IntKind.i64.wrap (k + n) = y2 at *
  go_enter Try.func6, Try.ntmps6
  go_wp2_with fail
  refine (C.out _).mono ?_
  rintro e ux0 ⟨rfl, rfl⟩
  go_wp2_with fail
  refine (D.out _).mono ?_
  rintro e w1 ⟨rfl, hb1⟩
  have kk := hb1
  clear hb1
  go_wp2_with fail
  refine (E.out _).mono ?_
  rintro e w2 ⟨rfl, hb2⟩
  replace kk := below_on kk hb2
  clear hb2
  go_wp2_with fail
  refine (A.out _).mono ?_
  rintro e w3 ⟨rfl, hb3⟩
  replace kk := below_on kk hb3
  clear hb3
  go_wp2_with fail
  refine (A2.out _).mono ?_
  rintro e w4 ⟨rfl, hb4⟩
  replace kk := below_on kk hb4
  clear hb4
  go_wp2_with fail
  refine (G.out _).mono ?_
  rintro e w5 ⟨rfl, hb5⟩
  replace kk := below_on kk hb5
  clear hb5
  go_wp2_with fail
  refine (G2.out _).mono ?_
  rintro e w6 ⟨rfl, hb6⟩
  replace kk := below_on kk hb6
  clear hb6
  go_wp2_with fail
  refine (G3.out _).mono ?_
  rintro e w7 ⟨rfl, hb7⟩
  replace kk := below_on kk hb7
  clear hb7
  go_wp2_with fail
  refine (move_lives _).mono ?_
  rintro e w8 ⟨rfl, hb8⟩
  replace kk := below_on kk hb8
  clear hb8
  go_wp2
  go_ret
  exact ⟨rfl, kk⟩
set_option maxHeartbeats 1000000 in
set_option maxRecDepth 100000 in
theorem moveBack_ca (s : ByteArray) {p n : Int} (h3 : ¬ 300 < s.size) (hp : place s.data.toList p = true) (h1 : ¬ n < 1) {v x : Int} (hv : Move.lead s.data.toList p [108] n 0 = v) (hx : Move.lead s.data.toList p [106] n (column s.data.toList p) = x) (ha : 0 ≤ v) (ea : column s.data.toList v = IntKind.i64.wrap (column s.data.toList p + n)) (ba : Move.lead s.data.toList v [104] n 0 = p) (hb : x < 0) (hp0 : 0 ≤ p) (w : World) :
    Calls Try.prog 6 #[.string s, .int .i64 p, .int .i64 n] w fun e w' => e = .returned (.bool true) ∧ Below w.heap.size w w' := by
  have g0 : decide ((300 : Int) < (s.size : Int)) = false := by simp; omega
  have C := Lib.hid (fun w => utf_Place s p (by omega) w)
  rw [hp] at C
  have D := Lib.hid (fun w => line_Of s p (by omega) w)
  have E := Lib.hid (fun w => line_Column s p (by omega) w)
  have A := fun w => move_Go s p ⟨#[108]⟩ n 0 (by omega) (by decide) w
  rw [show (⟨#[108]⟩ : ByteArray).data.toList = [108] from rfl, hv, Move.res_at ha] at A
  have A := Lib.hid A
  have G := fun w => move_Go s p ⟨#[106]⟩ n (column s.data.toList p) (by omega) (by decide) w
  rw [show (⟨#[106]⟩ : ByteArray).data.toList = [106] from rfl, hx, Move.res_no hb] at G
  have G := Lib.hid G
  have A2 := Lib.hid (fun w => line_Column s v (by omega) w)
  have A3 := fun w => move_Go s v ⟨#[104]⟩ n 0 (by omega) (by decide) w
  rw [show (⟨#[104]⟩ : ByteArray).data.toList = [104] from rfl, ba, Move.res_at hp0] at A3
  have A3 := Lib.hid A3
  have q1 : (column s.data.toList v == IntKind.i64.wrap (column s.data.toList p + n)) = true := by rw [beq_iff_eq]; exact ea
  clear hv hx hp ea ba hp0
  generalize column s.data.toList v = cv at *
  generalize column s.data.toList p = col at *
  generalize of_ s.data.toList p = k at *
  generalize hq1 : IntKind.i64.wrap (col + n) = y1 at *
  go_enter Try.func6, Try.ntmps6
  go_wp2_with fail
  refine (C.out _).mono ?_
  rintro e ux0 ⟨rfl, rfl⟩
  go_wp2_with fail
  refine (D.out _).mono ?_
  rintro e w1 ⟨rfl, hb1⟩
  have kk := hb1
  clear hb1
  go_wp2_with fail
  refine (E.out _).mono ?_
  rintro e w2 ⟨rfl, hb2⟩
  replace kk := below_on kk hb2
  clear hb2
  go_wp2_with fail
  refine (A.out _).mono ?_
  rintro e w3 ⟨rfl, hb3⟩
  replace kk := below_on kk hb3
  clear hb3
  go_wp2_with fail
  refine (A2.out _).mono ?_
  rintro e w4 ⟨rfl, hb4⟩
  replace kk := below_on kk hb4
  clear hb4
  go_wp2_with fail
  refine (A3.out _).mono ?_
  rintro e w5 ⟨rfl, hb5⟩
  replace kk := below_on kk hb5
  clear hb5
  go_wp2_with fail
  refine (G.out _).mono ?_
  rintro e w6 ⟨rfl, hb6⟩
  replace kk := below_on kk hb6
  clear hb6
  go_wp2_with fail
  refine (move_lives _).mono ?_
  rintro e w7 ⟨rfl, hb7⟩
  replace kk := below_on kk hb7
  clear hb7
  go_wp2
  go_ret
  exact ⟨rfl, kk⟩
set_option maxHeartbeats 1000000 in
set_option maxRecDepth 100000 in
theorem moveBack_cb (s : ByteArray) {p n : Int} (h3 : ¬ 300 < s.size) (hp : place s.data.toList p = true) (h1 : ¬ n < 1) {v x : Int} (hv : Move.lead s.data.toList p [108] n 0 = v) (hx : Move.lead s.data.toList p [106] n (column s.data.toList p) = x) (ha : 0 ≤ v) (ea : column s.data.toList v = IntKind.i64.wrap (column s.data.toList p + n)) (ba : Move.lead s.data.toList v [104] n 0 = p) (hb : 0 ≤ x) (eb : of_ s.data.toList x ≠ IntKind.i64.wrap (of_ s.data.toList p + n)) (hp0 : 0 ≤ p) (w : World) :
    Calls Try.prog 6 #[.string s, .int .i64 p, .int .i64 n] w fun e w' => e = .returned (.bool true) ∧ Below w.heap.size w w' := by
  have g0 : decide ((300 : Int) < (s.size : Int)) = false := by simp; omega
  have C := Lib.hid (fun w => utf_Place s p (by omega) w)
  rw [hp] at C
  have D := Lib.hid (fun w => line_Of s p (by omega) w)
  have E := Lib.hid (fun w => line_Column s p (by omega) w)
  have A := fun w => move_Go s p ⟨#[108]⟩ n 0 (by omega) (by decide) w
  rw [show (⟨#[108]⟩ : ByteArray).data.toList = [108] from rfl, hv, Move.res_at ha] at A
  have A := Lib.hid A
  have G := fun w => move_Go s p ⟨#[106]⟩ n (column s.data.toList p) (by omega) (by decide) w
  rw [show (⟨#[106]⟩ : ByteArray).data.toList = [106] from rfl, hx, Move.res_at hb] at G
  have G := Lib.hid G
  have A2 := Lib.hid (fun w => line_Column s v (by omega) w)
  have A3 := fun w => move_Go s v ⟨#[104]⟩ n 0 (by omega) (by decide) w
  rw [show (⟨#[104]⟩ : ByteArray).data.toList = [104] from rfl, ba, Move.res_at hp0] at A3
  have A3 := Lib.hid A3
  have G2 := Lib.hid (fun w => line_Of s x (by omega) w)
  have q1 : (column s.data.toList v == IntKind.i64.wrap (column s.data.toList p + n)) = true := by rw [beq_iff_eq]; exact ea
  have q2 : (of_ s.data.toList x == IntKind.i64.wrap (of_ s.data.toList p + n)) = false := by rw [beq_eq_false_iff_ne]; exact eb
  clear hv hx hp ea eb ba hp0
  generalize column s.data.toList v = cv at *
  generalize of_ s.data.toList x = kx at *
  generalize column s.data.toList p = col at *
  generalize of_ s.data.toList p = k at *
  generalize hq1 : IntKind.i64.wrap (col + n) = y1 at *
  generalize hq2 : IntKind.i64.wrap (k + n) = y2 at *
  go_enter Try.func6, Try.ntmps6
  go_wp2_with fail
  refine (C.out _).mono ?_
  rintro e ux0 ⟨rfl, rfl⟩
  go_wp2_with fail
  refine (D.out _).mono ?_
  rintro e w1 ⟨rfl, hb1⟩
  have kk := hb1
  clear hb1
  go_wp2_with fail
  refine (E.out _).mono ?_
  rintro e w2 ⟨rfl, hb2⟩
  replace kk := below_on kk hb2
  clear hb2
  go_wp2_with fail
  refine (A.out _).mono ?_
  rintro e w3 ⟨rfl, hb3⟩
  replace kk := below_on kk hb3
  clear hb3
  go_wp2_with fail
  refine (A2.out _).mono ?_
  rintro e w4 ⟨rfl, hb4⟩
  replace kk := below_on kk hb4
  clear hb4
  go_wp2_with fail
  refine (A3.out _).mono ?_
  rintro e w5 ⟨rfl, hb5⟩
  replace kk := below_on kk hb5
  clear hb5
  go_wp2_with fail
  refine (G.out _).mono ?_
  rintro e w6 ⟨rfl, hb6⟩
  replace kk := below_on kk hb6
  clear hb6
  go_wp2_with fail
  refine (G2.out _).mono ?_
  rintro e w7 ⟨rfl, hb7⟩
  replace kk := below_on kk hb7
  clear hb7
  go_wp2_with fail
  refine (move_lives _).mono ?_
  rintro e w8 ⟨rfl, hb8⟩
  replace kk := below_on kk hb8
  clear hb8
  go_wp2
  go_ret
  exact ⟨rfl, kk⟩
set_option maxHeartbeats 1000000 in
set_option maxRecDepth 100000 in
theorem moveBack_cc (s : ByteArray) {p n : Int} (h3 : ¬ 300 < s.size) (hp : place s.data.toList p = true) (h1 : ¬ n < 1) {v x : Int} (hv : Move.lead s.data.toList p [108] n 0 = v) (hx : Move.lead s.data.toList p [106] n (column s.data.toList p) = x) (ha : 0 ≤ v) (ea : column s.data.toList v = IntKind.i64.wrap (column s.data.toList p + n)) (ba : Move.lead s.data.toList v [104] n 0 = p) (hb : 0 ≤ x) (eb : of_ s.data.toList x = IntKind.i64.wrap (of_ s.data.toList p + n)) (bb : Move.lead s.data.toList x [107] n (column s.data.toList p) = p) (hp0 : 0 ≤ p) (w : World) :
    Calls Try.prog 6 #[.string s, .int .i64 p, .int .i64 n] w fun e w' => e = .returned (.bool true) ∧ Below w.heap.size w w' := by
  have g0 : decide ((300 : Int) < (s.size : Int)) = false := by simp; omega
  have C := Lib.hid (fun w => utf_Place s p (by omega) w)
  rw [hp] at C
  have D := Lib.hid (fun w => line_Of s p (by omega) w)
  have E := Lib.hid (fun w => line_Column s p (by omega) w)
  have A := fun w => move_Go s p ⟨#[108]⟩ n 0 (by omega) (by decide) w
  rw [show (⟨#[108]⟩ : ByteArray).data.toList = [108] from rfl, hv, Move.res_at ha] at A
  have A := Lib.hid A
  have G := fun w => move_Go s p ⟨#[106]⟩ n (column s.data.toList p) (by omega) (by decide) w
  rw [show (⟨#[106]⟩ : ByteArray).data.toList = [106] from rfl, hx, Move.res_at hb] at G
  have G := Lib.hid G
  have A2 := Lib.hid (fun w => line_Column s v (by omega) w)
  have A3 := fun w => move_Go s v ⟨#[104]⟩ n 0 (by omega) (by decide) w
  rw [show (⟨#[104]⟩ : ByteArray).data.toList = [104] from rfl, ba, Move.res_at hp0] at A3
  have A3 := Lib.hid A3
  have G2 := Lib.hid (fun w => line_Of s x (by omega) w)
  have G3 := fun w => move_Go s x ⟨#[107]⟩ n (column s.data.toList p) (by omega) (by decide) w
  rw [show (⟨#[107]⟩ : ByteArray).data.toList = [107] from rfl, bb, Move.res_at hp0] at G3
  have G3 := Lib.hid G3
  have q1 : (column s.data.toList v == IntKind.i64.wrap (column s.data.toList p + n)) = true := by rw [beq_iff_eq]; exact ea
  have q2 : (of_ s.data.toList x == IntKind.i64.wrap (of_ s.data.toList p + n)) = true := by rw [beq_iff_eq]; exact eb
  clear hv hx hp ea eb ba bb hp0
  generalize column s.data.toList v = cv at *
  generalize of_ s.data.toList x = kx at *
  generalize column s.data.toList p = col at *
  generalize of_ s.data.toList p = k at *
  generalize hq1 : IntKind.i64.wrap (col + n) = y1 at *
  generalize hq2 : IntKind.i64.wrap (k + n) = y2 at *
  go_enter Try.func6, Try.ntmps6
  go_wp2_with fail
  refine (C.out _).mono ?_
  rintro e ux0 ⟨rfl, rfl⟩
  go_wp2_with fail
  refine (D.out _).mono ?_
  rintro e w1 ⟨rfl, hb1⟩
  have kk := hb1
  clear hb1
  go_wp2_with fail
  refine (E.out _).mono ?_
  rintro e w2 ⟨rfl, hb2⟩
  replace kk := below_on kk hb2
  clear hb2
  go_wp2_with fail
  refine (A.out _).mono ?_
  rintro e w3 ⟨rfl, hb3⟩
  replace kk := below_on kk hb3
  clear hb3
  go_wp2_with fail
  refine (A2.out _).mono ?_
  rintro e w4 ⟨rfl, hb4⟩
  replace kk := below_on kk hb4
  clear hb4
  go_wp2_with fail
  refine (A3.out _).mono ?_
  rintro e w5 ⟨rfl, hb5⟩
  replace kk := below_on kk hb5
  clear hb5
  go_wp2_with fail
  refine (G.out _).mono ?_
  rintro e w6 ⟨rfl, hb6⟩
  replace kk := below_on kk hb6
  clear hb6
  go_wp2_with fail
  refine (G2.out _).mono ?_
  rintro e w7 ⟨rfl, hb7⟩
  replace kk := below_on kk hb7
  clear hb7
  go_wp2_with fail
  refine (G3.out _).mono ?_
  rintro e w8 ⟨rfl, hb8⟩
  replace kk := below_on kk hb8
  clear hb8
  go_wp2_with fail
  refine (move_lives _).mono ?_
  rintro e w9 ⟨rfl, hb9⟩
  replace kk := below_on kk hb9
  clear hb9
  go_wp2
  go_ret
  exact ⟨rfl, kk⟩
set_option maxHeartbeats 1000000 in
set_option maxRecDepth 100000 in
theorem moveBack_walk (s : ByteArray) (p n : Int) (hn : n ≤ 9223372036854775807) (w : World) :
    Calls Try.prog 6 #[.string s, .int .i64 p, .int .i64 n] w fun e w' => e = .returned (.bool true) ∧ Below w.heap.size w w' := by
  by_cases h3 : 300 < s.size
  · go_enter Try.func6, Try.ntmps6
    go_wp2_with fail
    refine (move_lives _).mono ?_
    rintro e w1 ⟨rfl, hb⟩
    go_wp2
    go_ret
    exact ⟨rfl, hb⟩
  have g0 : decide ((300 : Int) < (s.size : Int)) = false := by simp; omega
  cases hp : place s.data.toList p with
  | false =>
    have C := Lib.hid (fun w => utf_Place s p (by omega) w)
    rw [hp] at C
    clear hp
    go_enter Try.func6, Try.ntmps6
    go_wp2_with fail
    refine (C.out _).mono ?_
    rintro e w1 ⟨rfl, rfl⟩
    go_wp2_with fail
    refine (move_lives _).mono ?_
    rintro e w2 ⟨rfl, hb⟩
    go_wp2
    go_ret
    exact ⟨rfl, hb⟩
  | true =>
    by_cases h1 : n < 1
    · have C := Lib.hid (fun w => utf_Place s p (by omega) w)
      rw [hp] at C
      clear hp
      go_enter Try.func6, Try.ntmps6
      go_wp2_with fail
      refine (C.out _).mono ?_
      rintro e w1 ⟨rfl, rfl⟩
      go_wp2_with fail
      refine (move_lives _).mono ?_
      rintro e w2 ⟨rfl, hb⟩
      go_wp2
      go_ret
      exact ⟨rfl, hb⟩
    · have hl := data_len s
      have hfa := Move.back_facts hp
      have hv := Move.lead_at (key := [108]) hp (show Move.mot [108] = some 1 from rfl) n 0
      have hx := Move.lead_at (key := [106]) hp (show Move.mot [106] = some 6 from rfl) n (column s.data.toList p)
      have la := Move.raw_low (show 1 < 10 by omega) hp n 0
      have lb := Move.raw_low (show 6 < 10 by omega) hp n (column s.data.toList p)
      have fa := fun h => Move.back_fit (m := 1) (by omega) hp n 0 h
      have fb := fun h => Move.back_fit (m := 6) (by omega) hp n (column s.data.toList p) h
      by_cases ha : Move.raw 1 s.data.toList p n 0 < 0
      · clear fa
        by_cases hb : Move.raw 6 s.data.toList p n (column s.data.toList p) < 0
        · exact moveBack_aa s h3 hp h1 hv hx ha hb w
        · have fb := fb (by omega)
          by_cases eb : of_ s.data.toList (Move.raw 6 s.data.toList p n (column s.data.toList p)) = IntKind.i64.wrap (of_ s.data.toList p + n)
          · have eb2 : of_ s.data.toList (Move.raw 6 s.data.toList p n (column s.data.toList p)) = of_ s.data.toList p + n := by rw [IntKind.wrap_i64] at eb; omega
            have bb : Move.lead s.data.toList (Move.raw 6 s.data.toList p n (column s.data.toList p)) [107] n (column s.data.toList p) = p := by
              rw [Move.lead_at fb.1 (show Move.mot [107] = some 7 from rfl)]
              exact Move.back_k hp (by omega) (by omega) eb2
            exact moveBack_ac s h3 hp h1 hv hx ha (by omega) eb bb hfa.1 w
          · exact moveBack_ab s h3 hp h1 hv hx ha (by omega) eb w
      · have fa := fa (by omega)
        by_cases ea : column s.data.toList (Move.raw 1 s.data.toList p n 0) = IntKind.i64.wrap (column s.data.toList p + n)
        · have ea2 : column s.data.toList (Move.raw 1 s.data.toList p n 0) = column s.data.toList p + n := by rw [IntKind.wrap_i64] at ea; omega
          have ba : Move.lead s.data.toList (Move.raw 1 s.data.toList p n 0) [104] n 0 = p := by
            rw [Move.lead_at fa.1 (show Move.mot [104] = some 0 from rfl)]
            exact Move.back_h hp (by omega) 0 0 (by omega) ea2
          by_cases hb : Move.raw 6 s.data.toList p n (column s.data.toList p) < 0
          · exact moveBack_ca s h3 hp h1 hv hx (by omega) ea ba hb hfa.1 w
          · have fb := fb (by omega)
            by_cases eb : of_ s.data.toList (Move.raw 6 s.data.toList p n (column s.data.toList p)) = IntKind.i64.wrap (of_ s.data.toList p + n)
            · have eb2 : of_ s.data.toList (Move.raw 6 s.data.toList p n (column s.data.toList p)) = of_ s.data.toList p + n := by rw [IntKind.wrap_i64] at eb; omega
              have bb : Move.lead s.data.toList (Move.raw 6 s.data.toList p n (column s.data.toList p)) [107] n (column s.data.toList p) = p := by
                rw [Move.lead_at fb.1 (show Move.mot [107] = some 7 from rfl)]
                exact Move.back_k hp (by omega) (by omega) eb2
              exact moveBack_cc s h3 hp h1 hv hx (by omega) ea ba (by omega) eb bb hfa.1 w
            · exact moveBack_cb s h3 hp h1 hv hx (by omega) ea ba (by omega) eb hfa.1 w
        · by_cases hb : Move.raw 6 s.data.toList p n (column s.data.toList p) < 0
          · exact moveBack_ba s h3 hp h1 hv hx (by omega) ea hb w
          · have fb := fb (by omega)
            by_cases eb : of_ s.data.toList (Move.raw 6 s.data.toList p n (column s.data.toList p)) = IntKind.i64.wrap (of_ s.data.toList p + n)
            · have eb2 : of_ s.data.toList (Move.raw 6 s.data.toList p n (column s.data.toList p)) = of_ s.data.toList p + n := by rw [IntKind.wrap_i64] at eb; omega
              have bb : Move.lead s.data.toList (Move.raw 6 s.data.toList p n (column s.data.toList p)) [107] n (column s.data.toList p) = p := by
                rw [Move.lead_at fb.1 (show Move.mot [107] = some 7 from rfl)]
                exact Move.back_k hp (by omega) (by omega) eb2
              exact moveBack_bc s h3 hp h1 hv hx (by omega) ea (by omega) eb bb hfa.1 w
            · exact moveBack_bb s h3 hp h1 hv hx (by omega) ea (by omega) eb w
section
open Go.ChangeShapes Go.WideShapes Go.ChangeAt
open Go.ChangeMaps (open_string)
set_option maxRecDepth 100000 in
theorem moveBack_lifted (os : Os) (started : os.Started) (H : Type) (enc : TypeId × Value → H) :
    ReturnsInHanded {} Try.checked os 6 .any (Rows.moveBackSpec.pre6 enc Try.prog Try.f6 Rows.moveBackRow.domain false) (Rows.moveBackSpec.post enc Try.prog Try.f6 false true false false) := by
  refine returnsInHanded_of_change_sized (C := Try.checked) own_knob started (by kernel_rfl) Try.func6
    (ChangeSpec.witness6 (enc := enc) (C := Try.checked) false ⟨#[], #[.string .empty, .int .i64 0, .int .i64 0], []⟩ 8 (by kernel_rfl) (by kernel_rfl) (by kernel_rfl) (by kernel_rfl)) ?_
  intro W base args ds gs before hval0 hW _ hsz0 _
  have hsz : (DataW.weightsEach Try.prog (Try.f6.params.toList ++ Rows.moveBackSpec.plain.varTypes Try.prog) (ds ++ gs)).all (· ≤ reachBytes) = true := hsz0
  clear hsz0
  have hval : ∀ (j : Nat) t v, Try.f6.params[j]? = some t → args[j]? = some v → Value.okWide Try.prog W .any base t v := hval0
  have hW' := hW
  obtain ⟨p, q, hA0, hV, rfl, hfz, hnd⟩ := hW
  have hA : DataW.TrodAll enc Try.prog W 0 (fun _ => true) true Try.f6.params.toList args.toList ds p := hA0
  rw [Try.params6] at hA hval hsz
  obtain ⟨v0, vs0, d0, ds0, p0, q0, hargs, rfl, rfl, h0, r0⟩ := trodAll_cons hA
  obtain ⟨v1, vs1, d1, ds1, p1, q1, rfl, rfl, rfl, h1, r1⟩ := trodAll_cons r0
  obtain ⟨v2, vs2, d2, ds2, p2, q2, rfl, rfl, rfl, h2, r2⟩ := trodAll_cons r1
  obtain ⟨rfl, rfl, rfl⟩ := trodAll_nil r2
  obtain rfl : args = #[v0, v1, v2] := by cases args; simp_all
  obtain ⟨rfl, rfl⟩ := trodVars_none hV
  obtain ⟨s0, rfl, rfl, rfl, hmax0⟩ := open_string Try.underlying9 (hval 0 9 v0 rfl rfl) h0
  have hs0 : s0.size ≤ 140737488351232 := by rw [← data_len]; exact sized_string hsz (j := 0) (t := 9) rfl rfl
  obtain ⟨n1, rfl, rfl, rfl, wn1⟩ := open_int Try.underlying3 (hval 1 3 v1 rfl rfl) h1
  obtain ⟨n2, rfl, rfl, rfl, wn2⟩ := open_int Try.underlying3 (hval 2 3 v2 rfl rfl) h2
  refine (moveBack_walk s0 n1 n2 (move_int_le wn2) _).mono fun e W' ⟨he, hb⟩ => ?_
  subst he
  exact ⟨_, rfl, law_post rfl rfl (by rw [Try.params6]; decide +kernel) ⟨rfl, rfl, rfl⟩ hW' hb⟩
theorem moveBack_holds : Rows.MoveBackSaid :=
  OpenClaim.holds_of_wide 6 Try.f6 rfl rfl rfl rfl rfl rfl rfl ⟨rfl, rfl, rfl, rfl, rfl⟩ rfl rfl rfl rfl rfl (by kernel_rfl) Try.func6 (by kernel_rfl)
    (of_decide_eq_true (by kernel_rfl)) (by unfold Func.isWrapper; first | (rw [if_pos (by decide +kernel)]; kernel_rfl) | (rw [if_neg (by decide +kernel)]; exact ⟨rfl, rfl⟩))
    (fun os started H enc _ => moveBack_lifted os started H enc)
end
end Go.Proofs.Ytdmgjaobkfjgpaa
