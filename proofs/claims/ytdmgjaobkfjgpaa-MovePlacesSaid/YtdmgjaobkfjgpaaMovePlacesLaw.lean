/-
  'calamuslaw14.MovePlaces' answers true for every text, place, key, count and column: a target is a place, in the same line or in another one.
-/
import Derived.Test.YtdmgjaobkfjgpaaMoveGo
import Derived.Test.YtdmgjaobkfjgpaaFrame
namespace Go.Proofs.Ytdmgjaobkfjgpaa
open Go.RowKit
open Line (L of_ column)
open Utf (place)
set_option maxHeartbeats 1000000 in
set_option maxRecDepth 100000 in
theorem movePlaces_no (s : ByteArray) (p : Int) (key : ByteArray) (n want : Int) (hk : key.size ≤ 140737488351232) (h3 : ¬ 300 < s.size) (hv : Move.lead s.data.toList p key.data.toList n want < 0) (w : World) :
    Calls Try.prog 5 #[.string s, .int .i64 p, .string key, .int .i64 n, .int .i64 want] w fun e w' => e = .returned (.bool true) ∧ Below w.heap.size w w' := by
  have g0 : decide ((300 : Int) < (s.size : Int)) = false := by simp; omega
  have A := fun w => move_Go s p key n want (by omega) (by omega) w
  rw [Move.res_no hv] at A
  have A := Lib.hid A
  clear hk hv
  go_enter Try.func5, Try.ntmps5
  go_wp2_with fail
  refine (A.out _).mono ?_
  rintro e w0 ⟨rfl, hb0⟩
  have kk := hb0
  clear hb0
  go_wp2_with fail
  refine (move_lives _).mono ?_
  rintro e w1 ⟨rfl, hb1⟩
  replace kk := below_on kk hb1
  clear hb1
  go_wp2
  go_ret
  exact ⟨rfl, kk⟩
set_option maxHeartbeats 1000000 in
set_option maxRecDepth 100000 in
theorem movePlaces_left (s : ByteArray) (p n want : Int) {c k k' : Nat} (h3 : ¬ 300 < s.size) (hv : Move.lead s.data.toList p [104] n want = c) (hp : place s.data.toList p = true) (hc : place s.data.toList (c : Int) = true) (e1 : of_ s.data.toList p = k) (e2 : of_ s.data.toList c = k') (ho : Move.Out 0 k k' p.toNat c) (hp0 : 0 ≤ p) (w : World) :
    Calls Try.prog 5 #[.string s, .int .i64 p, .string ⟨#[104]⟩, .int .i64 n, .int .i64 want] w fun e w' => e = .returned (.bool true) ∧ Below w.heap.size w w' := by
  have g0 : decide ((300 : Int) < (s.size : Int)) = false := by simp; omega
  have A := fun w => move_Go s p ⟨#[104]⟩ n want (by omega) (by decide) w
  rw [show (⟨#[104]⟩ : ByteArray).data.toList = [104] from rfl, hv, Move.res_at (by omega)] at A
  have A := Lib.hid A
  have B := Lib.hid (fun w => utf_Place s c (by omega) w)
  have C := Lib.hid (fun w => utf_Place s p (by omega) w)
  have D := Lib.hid (fun w => line_Of s p (by omega) w)
  have E := Lib.hid (fun w => line_Of s c (by omega) w)
  rw [hc] at B
  rw [hp] at C
  rw [e1] at D
  rw [e2] at E
  obtain rfl : k = k' := ho.1 (by omega)
  have g1 : (c : Int) < p := by have := ho.2.1 rfl; omega
  have hu := And.intro ho hp0
  clear hv hp hc e1 e2 ho hp0 hu
  go_enter Try.func5, Try.ntmps5
  go_wp2_with fail
  refine (A.out _).mono ?_
  rintro e w0 ⟨rfl, hb0⟩
  have kk := hb0
  clear hb0
  go_wp2_with fail
  refine (B.out _).mono ?_
  rintro e ux1 ⟨rfl, rfl⟩
  go_wp2_with fail
  refine (C.out _).mono ?_
  rintro e ux2 ⟨rfl, rfl⟩
  go_wp2_with fail
  refine (D.out _).mono ?_
  rintro e w3 ⟨rfl, hb3⟩
  replace kk := below_on kk hb3
  clear hb3
  go_wp2_with fail
  refine (E.out _).mono ?_
  rintro e w4 ⟨rfl, hb4⟩
  replace kk := below_on kk hb4
  clear hb4
  go_wp2_with fail
  refine (move_lives _).mono ?_
  rintro e w5 ⟨rfl, hb5⟩
  replace kk := below_on kk hb5
  clear hb5
  go_wp2
  go_ret
  exact ⟨rfl, kk⟩
set_option maxHeartbeats 1000000 in
set_option maxRecDepth 100000 in
theorem movePlaces_right (s : ByteArray) (p n want : Int) {c k k' : Nat} (h3 : ¬ 300 < s.size) (hv : Move.lead s.data.toList p [108] n want = c) (hp : place s.data.toList p = true) (hc : place s.data.toList (c : Int) = true) (e1 : of_ s.data.toList p = k) (e2 : of_ s.data.toList c = k') (ho : Move.Out 1 k k' p.toNat c) (hp0 : 0 ≤ p) (w : World) :
    Calls Try.prog 5 #[.string s, .int .i64 p, .string ⟨#[108]⟩, .int .i64 n, .int .i64 want] w fun e w' => e = .returned (.bool true) ∧ Below w.heap.size w w' := by
  have g0 : decide ((300 : Int) < (s.size : Int)) = false := by simp; omega
  have A := fun w => move_Go s p ⟨#[108]⟩ n want (by omega) (by decide) w
  rw [show (⟨#[108]⟩ : ByteArray).data.toList = [108] from rfl, hv, Move.res_at (by omega)] at A
  have A := Lib.hid A
  have B := Lib.hid (fun w => utf_Place s c (by omega) w)
  have C := Lib.hid (fun w => utf_Place s p (by omega) w)
  have D := Lib.hid (fun w => line_Of s p (by omega) w)
  have E := Lib.hid (fun w => line_Of s c (by omega) w)
  rw [hc] at B
  rw [hp] at C
  rw [e1] at D
  rw [e2] at E
  obtain rfl : k = k' := ho.1 (by omega)
  have g1 : p < (c : Int) := by have := ho.2.2.1 rfl; omega
  have hu := And.intro ho hp0
  clear hv hp hc e1 e2 ho hp0 hu
  go_enter Try.func5, Try.ntmps5
  go_wp2_with fail
  refine (A.out _).mono ?_
  rintro e w0 ⟨rfl, hb0⟩
  have kk := hb0
  clear hb0
  go_wp2_with fail
  refine (B.out _).mono ?_
  rintro e ux1 ⟨rfl, rfl⟩
  go_wp2_with fail
  refine (C.out _).mono ?_
  rintro e ux2 ⟨rfl, rfl⟩
  go_wp2_with fail
  refine (D.out _).mono ?_
  rintro e w3 ⟨rfl, hb3⟩
  replace kk := below_on kk hb3
  clear hb3
  go_wp2_with fail
  refine (E.out _).mono ?_
  rintro e w4 ⟨rfl, hb4⟩
  replace kk := below_on kk hb4
  clear hb4
  go_wp2_with fail
  refine (move_lives _).mono ?_
  rintro e w5 ⟨rfl, hb5⟩
  replace kk := below_on kk hb5
  clear hb5
  go_wp2
  go_ret
  exact ⟨rfl, kk⟩
set_option maxHeartbeats 1000000 in
set_option maxRecDepth 100000 in
theorem movePlaces_begin (s : ByteArray) (p n want : Int) {c k k' : Nat} (h3 : ¬ 300 < s.size) (hv : Move.lead s.data.toList p [48] n want = c) (hp : place s.data.toList p = true) (hc : place s.data.toList (c : Int) = true) (e1 : of_ s.data.toList p = k) (e2 : of_ s.data.toList c = k') (ho : Move.Out 2 k k' p.toNat c) (hp0 : 0 ≤ p) (w : World) :
    Calls Try.prog 5 #[.string s, .int .i64 p, .string ⟨#[48]⟩, .int .i64 n, .int .i64 want] w fun e w' => e = .returned (.bool true) ∧ Below w.heap.size w w' := by
  have g0 : decide ((300 : Int) < (s.size : Int)) = false := by simp; omega
  have A := fun w => move_Go s p ⟨#[48]⟩ n want (by omega) (by decide) w
  rw [show (⟨#[48]⟩ : ByteArray).data.toList = [48] from rfl, hv, Move.res_at (by omega)] at A
  have A := Lib.hid A
  have B := Lib.hid (fun w => utf_Place s c (by omega) w)
  have C := Lib.hid (fun w => utf_Place s p (by omega) w)
  have D := Lib.hid (fun w => line_Of s p (by omega) w)
  have E := Lib.hid (fun w => line_Of s c (by omega) w)
  rw [hc] at B
  rw [hp] at C
  rw [e1] at D
  rw [e2] at E
  obtain rfl : k = k' := ho.1 (by omega)
  have hu := And.intro ho hp0
  clear hv hp hc e1 e2 ho hp0 hu
  go_enter Try.func5, Try.ntmps5
  go_wp2_with fail
  refine (A.out _).mono ?_
  rintro e w0 ⟨rfl, hb0⟩
  have kk := hb0
  clear hb0
  go_wp2_with fail
  refine (B.out _).mono ?_
  rintro e ux1 ⟨rfl, rfl⟩
  go_wp2_with fail
  refine (C.out _).mono ?_
  rintro e ux2 ⟨rfl, rfl⟩
  go_wp2_with fail
  refine (D.out _).mono ?_
  rintro e w3 ⟨rfl, hb3⟩
  replace kk := below_on kk hb3
  clear hb3
  go_wp2_with fail
  refine (E.out _).mono ?_
  rintro e w4 ⟨rfl, hb4⟩
  replace kk := below_on kk hb4
  clear hb4
  go_wp2_with fail
  refine (move_lives _).mono ?_
  rintro e w5 ⟨rfl, hb5⟩
  replace kk := below_on kk hb5
  clear hb5
  go_wp2
  go_ret
  exact ⟨rfl, kk⟩
set_option maxHeartbeats 1000000 in
set_option maxRecDepth 100000 in
theorem movePlaces_first (s : ByteArray) (p n want : Int) {c k k' : Nat} (h3 : ¬ 300 < s.size) (hv : Move.lead s.data.toList p [94] n want = c) (hp : place s.data.toList p = true) (hc : place s.data.toList (c : Int) = true) (e1 : of_ s.data.toList p = k) (e2 : of_ s.data.toList c = k') (ho : Move.Out 3 k k' p.toNat c) (hp0 : 0 ≤ p) (w : World) :
    Calls Try.prog 5 #[.string s, .int .i64 p, .string ⟨#[94]⟩, .int .i64 n, .int .i64 want] w fun e w' => e = .returned (.bool true) ∧ Below w.heap.size w w' := by
  have g0 : decide ((300 : Int) < (s.size : Int)) = false := by simp; omega
  have A := fun w => move_Go s p ⟨#[94]⟩ n want (by omega) (by decide) w
  rw [show (⟨#[94]⟩ : ByteArray).data.toList = [94] from rfl, hv, Move.res_at (by omega)] at A
  have A := Lib.hid A
  have B := Lib.hid (fun w => utf_Place s c (by omega) w)
  have C := Lib.hid (fun w => utf_Place s p (by omega) w)
  have D := Lib.hid (fun w => line_Of s p (by omega) w)
  have E := Lib.hid (fun w => line_Of s c (by omega) w)
  rw [hc] at B
  rw [hp] at C
  rw [e1] at D
  rw [e2] at E
  obtain rfl : k = k' := ho.1 (by omega)
  have hu := And.intro ho hp0
  clear hv hp hc e1 e2 ho hp0 hu
  go_enter Try.func5, Try.ntmps5
  go_wp2_with fail
  refine (A.out _).mono ?_
  rintro e w0 ⟨rfl, hb0⟩
  have kk := hb0
  clear hb0
  go_wp2_with fail
  refine (B.out _).mono ?_
  rintro e ux1 ⟨rfl, rfl⟩
  go_wp2_with fail
  refine (C.out _).mono ?_
  rintro e ux2 ⟨rfl, rfl⟩
  go_wp2_with fail
  refine (D.out _).mono ?_
  rintro e w3 ⟨rfl, hb3⟩
  replace kk := below_on kk hb3
  clear hb3
  go_wp2_with fail
  refine (E.out _).mono ?_
  rintro e w4 ⟨rfl, hb4⟩
  replace kk := below_on kk hb4
  clear hb4
  go_wp2_with fail
  refine (move_lives _).mono ?_
  rintro e w5 ⟨rfl, hb5⟩
  replace kk := below_on kk hb5
  clear hb5
  go_wp2
  go_ret
  exact ⟨rfl, kk⟩
set_option maxHeartbeats 1000000 in
set_option maxRecDepth 100000 in
theorem movePlaces_end (s : ByteArray) (p n want : Int) {c k k' : Nat} (h3 : ¬ 300 < s.size) (hv : Move.lead s.data.toList p [36] n want = c) (hp : place s.data.toList p = true) (hc : place s.data.toList (c : Int) = true) (e1 : of_ s.data.toList p = k) (e2 : of_ s.data.toList c = k') (ho : Move.Out 4 k k' p.toNat c) (hp0 : 0 ≤ p) (w : World) :
    Calls Try.prog 5 #[.string s, .int .i64 p, .string ⟨#[36]⟩, .int .i64 n, .int .i64 want] w fun e w' => e = .returned (.bool true) ∧ Below w.heap.size w w' := by
  have g0 : decide ((300 : Int) < (s.size : Int)) = false := by simp; omega
  have A := fun w => move_Go s p ⟨#[36]⟩ n want (by omega) (by decide) w
  rw [show (⟨#[36]⟩ : ByteArray).data.toList = [36] from rfl, hv, Move.res_at (by omega)] at A
  have A := Lib.hid A
  have B := Lib.hid (fun w => utf_Place s c (by omega) w)
  have C := Lib.hid (fun w => utf_Place s p (by omega) w)
  have D := Lib.hid (fun w => line_Of s p (by omega) w)
  have E := Lib.hid (fun w => line_Of s c (by omega) w)
  rw [hc] at B
  rw [hp] at C
  rw [e1] at D
  rw [e2] at E
  have hu := And.intro ho hp0
  clear hv hp hc e1 e2 ho hp0 hu
  go_enter Try.func5, Try.ntmps5
  go_wp2_with fail
  refine (A.out _).mono ?_
  rintro e w0 ⟨rfl, hb0⟩
  have kk := hb0
  clear hb0
  go_wp2_with fail
  refine (B.out _).mono ?_
  rintro e ux1 ⟨rfl, rfl⟩
  go_wp2_with fail
  refine (C.out _).mono ?_
  rintro e ux2 ⟨rfl, rfl⟩
  go_wp2_with fail
  refine (D.out _).mono ?_
  rintro e w3 ⟨rfl, hb3⟩
  replace kk := below_on kk hb3
  clear hb3
  go_wp2_with fail
  refine (E.out _).mono ?_
  rintro e w4 ⟨rfl, hb4⟩
  replace kk := below_on kk hb4
  clear hb4
  go_wp2_with fail
  refine (move_lives _).mono ?_
  rintro e w5 ⟨rfl, hb5⟩
  replace kk := below_on kk hb5
  clear hb5
  go_wp2
  go_ret
  exact ⟨rfl, kk⟩
set_option maxHeartbeats 1000000 in
set_option maxRecDepth 100000 in
theorem movePlaces_column (s : ByteArray) (p n want : Int) {c k k' : Nat} (h3 : ¬ 300 < s.size) (hv : Move.lead s.data.toList p [124] n want = c) (hp : place s.data.toList p = true) (hc : place s.data.toList (c : Int) = true) (e1 : of_ s.data.toList p = k) (e2 : of_ s.data.toList c = k') (ho : Move.Out 5 k k' p.toNat c) (hp0 : 0 ≤ p) (w : World) :
    Calls Try.prog 5 #[.string s, .int .i64 p, .string ⟨#[124]⟩, .int .i64 n, .int .i64 want] w fun e w' => e = .returned (.bool true) ∧ Below w.heap.size w w' := by
  have g0 : decide ((300 : Int) < (s.size : Int)) = false := by simp; omega
  have A := fun w => move_Go s p ⟨#[124]⟩ n want (by omega) (by decide) w
  rw [show (⟨#[124]⟩ : ByteArray).data.toList = [124] from rfl, hv, Move.res_at (by omega)] at A
  have A := Lib.hid A
  have B := Lib.hid (fun w => utf_Place s c (by omega) w)
  have C := Lib.hid (fun w => utf_Place s p (by omega) w)
  have D := Lib.hid (fun w => line_Of s p (by omega) w)
  have E := Lib.hid (fun w => line_Of s c (by omega) w)
  rw [hc] at B
  rw [hp] at C
  rw [e1] at D
  rw [e2] at E
  obtain rfl : k = k' := ho.1 (by omega)
  have hu := And.intro ho hp0
  clear hv hp hc e1 e2 ho hp0 hu
  go_enter Try.func5, Try.ntmps5
  go_wp2_with fail
  refine (A.out _).mono ?_
  rintro e w0 ⟨rfl, hb0⟩
  have kk := hb0
  clear hb0
  go_wp2_with fail
  refine (B.out _).mono ?_
  rintro e ux1 ⟨rfl, rfl⟩
  go_wp2_with fail
  refine (C.out _).mono ?_
  rintro e ux2 ⟨rfl, rfl⟩
  go_wp2_with fail
  refine (D.out _).mono ?_
  rintro e w3 ⟨rfl, hb3⟩
  replace kk := below_on kk hb3
  clear hb3
  go_wp2_with fail
  refine (E.out _).mono ?_
  rintro e w4 ⟨rfl, hb4⟩
  replace kk := below_on kk hb4
  clear hb4
  go_wp2_with fail
  refine (move_lives _).mono ?_
  rintro e w5 ⟨rfl, hb5⟩
  replace kk := below_on kk hb5
  clear hb5
  go_wp2
  go_ret
  exact ⟨rfl, kk⟩
set_option maxHeartbeats 1000000 in
set_option maxRecDepth 100000 in
theorem movePlaces_down (s : ByteArray) (p n want : Int) {c k k' : Nat} (h3 : ¬ 300 < s.size) (hv : Move.lead s.data.toList p [106] n want = c) (hp : place s.data.toList p = true) (hc : place s.data.toList (c : Int) = true) (e1 : of_ s.data.toList p = k) (e2 : of_ s.data.toList c = k') (ho : Move.Out 6 k k' p.toNat c) (hp0 : 0 ≤ p) (w : World) :
    Calls Try.prog 5 #[.string s, .int .i64 p, .string ⟨#[106]⟩, .int .i64 n, .int .i64 want] w fun e w' => e = .returned (.bool true) ∧ Below w.heap.size w w' := by
  have g0 : decide ((300 : Int) < (s.size : Int)) = false := by simp; omega
  have A := fun w => move_Go s p ⟨#[106]⟩ n want (by omega) (by decide) w
  rw [show (⟨#[106]⟩ : ByteArray).data.toList = [106] from rfl, hv, Move.res_at (by omega)] at A
  have A := Lib.hid A
  have B := Lib.hid (fun w => utf_Place s c (by omega) w)
  have C := Lib.hid (fun w => utf_Place s p (by omega) w)
  have D := Lib.hid (fun w => line_Of s p (by omega) w)
  have E := Lib.hid (fun w => line_Of s c (by omega) w)
  rw [hc] at B
  rw [hp] at C
  rw [e1] at D
  rw [e2] at E
  have g1 : (k : Int) < (k' : Int) := by have := ho.2.2.2.1 rfl; omega
  have hu := And.intro ho hp0
  clear hv hp hc e1 e2 ho hp0 hu
  go_enter Try.func5, Try.ntmps5
  go_wp2_with fail
  refine (A.out _).mono ?_
  rintro e w0 ⟨rfl, hb0⟩
  have kk := hb0
  clear hb0
  go_wp2_with fail
  refine (B.out _).mono ?_
  rintro e ux1 ⟨rfl, rfl⟩
  go_wp2_with fail
  refine (C.out _).mono ?_
  rintro e ux2 ⟨rfl, rfl⟩
  go_wp2_with fail
  refine (D.out _).mono ?_
  rintro e w3 ⟨rfl, hb3⟩
  replace kk := below_on kk hb3
  clear hb3
  go_wp2_with fail
  refine (E.out _).mono ?_
  rintro e w4 ⟨rfl, hb4⟩
  replace kk := below_on kk hb4
  clear hb4
  go_wp2_with fail
  refine (move_lives _).mono ?_
  rintro e w5 ⟨rfl, hb5⟩
  replace kk := below_on kk hb5
  clear hb5
  go_wp2
  go_ret
  exact ⟨rfl, kk⟩
set_option maxHeartbeats 1000000 in
set_option maxRecDepth 100000 in
theorem movePlaces_up (s : ByteArray) (p n want : Int) {c k k' : Nat} (h3 : ¬ 300 < s.size) (hv : Move.lead s.data.toList p [107] n want = c) (hp : place s.data.toList p = true) (hc : place s.data.toList (c : Int) = true) (e1 : of_ s.data.toList p = k) (e2 : of_ s.data.toList c = k') (ho : Move.Out 7 k k' p.toNat c) (hp0 : 0 ≤ p) (w : World) :
    Calls Try.prog 5 #[.string s, .int .i64 p, .string ⟨#[107]⟩, .int .i64 n, .int .i64 want] w fun e w' => e = .returned (.bool true) ∧ Below w.heap.size w w' := by
  have g0 : decide ((300 : Int) < (s.size : Int)) = false := by simp; omega
  have A := fun w => move_Go s p ⟨#[107]⟩ n want (by omega) (by decide) w
  rw [show (⟨#[107]⟩ : ByteArray).data.toList = [107] from rfl, hv, Move.res_at (by omega)] at A
  have A := Lib.hid A
  have B := Lib.hid (fun w => utf_Place s c (by omega) w)
  have C := Lib.hid (fun w => utf_Place s p (by omega) w)
  have D := Lib.hid (fun w => line_Of s p (by omega) w)
  have E := Lib.hid (fun w => line_Of s c (by omega) w)
  rw [hc] at B
  rw [hp] at C
  rw [e1] at D
  rw [e2] at E
  have g1 : (k' : Int) < (k : Int) := by have := ho.2.2.2.2 rfl; omega
  have hu := And.intro ho hp0
  clear hv hp hc e1 e2 ho hp0 hu
  go_enter Try.func5, Try.ntmps5
  go_wp2_with fail
  refine (A.out _).mono ?_
  rintro e w0 ⟨rfl, hb0⟩
  have kk := hb0
  clear hb0
  go_wp2_with fail
  refine (B.out _).mono ?_
  rintro e ux1 ⟨rfl, rfl⟩
  go_wp2_with fail
  refine (C.out _).mono ?_
  rintro e ux2 ⟨rfl, rfl⟩
  go_wp2_with fail
  refine (D.out _).mono ?_
  rintro e w3 ⟨rfl, hb3⟩
  replace kk := below_on kk hb3
  clear hb3
  go_wp2_with fail
  refine (E.out _).mono ?_
  rintro e w4 ⟨rfl, hb4⟩
  replace kk := below_on kk hb4
  clear hb4
  go_wp2_with fail
  refine (move_lives _).mono ?_
  rintro e w5 ⟨rfl, hb5⟩
  replace kk := below_on kk hb5
  clear hb5
  go_wp2
  go_ret
  exact ⟨rfl, kk⟩
set_option maxHeartbeats 1000000 in
set_option maxRecDepth 100000 in
theorem movePlaces_top (s : ByteArray) (p n want : Int) {c k k' : Nat} (h3 : ¬ 300 < s.size) (hv : Move.lead s.data.toList p [103, 103] n want = c) (hp : place s.data.toList p = true) (hc : place s.data.toList (c : Int) = true) (e1 : of_ s.data.toList p = k) (e2 : of_ s.data.toList c = k') (ho : Move.Out 8 k k' p.toNat c) (hp0 : 0 ≤ p) (w : World) :
    Calls Try.prog 5 #[.string s, .int .i64 p, .string ⟨#[103, 103]⟩, .int .i64 n, .int .i64 want] w fun e w' => e = .returned (.bool true) ∧ Below w.heap.size w w' := by
  have g0 : decide ((300 : Int) < (s.size : Int)) = false := by simp; omega
  have A := fun w => move_Go s p ⟨#[103, 103]⟩ n want (by omega) (by decide) w
  rw [show (⟨#[103, 103]⟩ : ByteArray).data.toList = [103, 103] from rfl, hv, Move.res_at (by omega)] at A
  have A := Lib.hid A
  have B := Lib.hid (fun w => utf_Place s c (by omega) w)
  have C := Lib.hid (fun w => utf_Place s p (by omega) w)
  have D := Lib.hid (fun w => line_Of s p (by omega) w)
  have E := Lib.hid (fun w => line_Of s c (by omega) w)
  rw [hc] at B
  rw [hp] at C
  rw [e1] at D
  rw [e2] at E
  have hu := And.intro ho hp0
  clear hv hp hc e1 e2 ho hp0 hu
  go_enter Try.func5, Try.ntmps5
  go_wp2_with fail
  refine (A.out _).mono ?_
  rintro e w0 ⟨rfl, hb0⟩
  have kk := hb0
  clear hb0
  go_wp2_with fail
  refine (B.out _).mono ?_
  rintro e ux1 ⟨rfl, rfl⟩
  go_wp2_with fail
  refine (C.out _).mono ?_
  rintro e ux2 ⟨rfl, rfl⟩
  go_wp2_with fail
  refine (D.out _).mono ?_
  rintro e w3 ⟨rfl, hb3⟩
  replace kk := below_on kk hb3
  clear hb3
  go_wp2_with fail
  refine (E.out _).mono ?_
  rintro e w4 ⟨rfl, hb4⟩
  replace kk := below_on kk hb4
  clear hb4
  go_wp2_with fail
  refine (move_lives _).mono ?_
  rintro e w5 ⟨rfl, hb5⟩
  replace kk := below_on kk hb5
  clear hb5
  go_wp2
  go_ret
  exact ⟨rfl, kk⟩
set_option maxHeartbeats 1000000 in
set_option maxRecDepth 100000 in
theorem movePlaces_bottom (s : ByteArray) (p n want : Int) {c k k' : Nat} (h3 : ¬ 300 < s.size) (hv : Move.lead s.data.toList p [71] n want = c) (hp : place s.data.toList p = true) (hc : place s.data.toList (c : Int) = true) (e1 : of_ s.data.toList p = k) (e2 : of_ s.data.toList c = k') (ho : Move.Out 9 k k' p.toNat c) (hp0 : 0 ≤ p) (w : World) :
    Calls Try.prog 5 #[.string s, .int .i64 p, .string ⟨#[71]⟩, .int .i64 n, .int .i64 want] w fun e w' => e = .returned (.bool true) ∧ Below w.heap.size w w' := by
  have g0 : decide ((300 : Int) < (s.size : Int)) = false := by simp; omega
  have A := fun w => move_Go s p ⟨#[71]⟩ n want (by omega) (by decide) w
  rw [show (⟨#[71]⟩ : ByteArray).data.toList = [71] from rfl, hv, Move.res_at (by omega)] at A
  have A := Lib.hid A
  have B := Lib.hid (fun w => utf_Place s c (by omega) w)
  have C := Lib.hid (fun w => utf_Place s p (by omega) w)
  have D := Lib.hid (fun w => line_Of s p (by omega) w)
  have E := Lib.hid (fun w => line_Of s c (by omega) w)
  rw [hc] at B
  rw [hp] at C
  rw [e1] at D
  rw [e2] at E
  have hu := And.intro ho hp0
  clear hv hp hc e1 e2 ho hp0 hu
  go_enter Try.func5, Try.ntmps5
  go_wp2_with fail
  refine (A.out _).mono ?_
  rintro e w0 ⟨rfl, hb0⟩
  have kk := hb0
  clear hb0
  go_wp2_with fail
  refine (B.out _).mono ?_
  rintro e ux1 ⟨rfl, rfl⟩
  go_wp2_with fail
  refine (C.out _).mono ?_
  rintro e ux2 ⟨rfl, rfl⟩
  go_wp2_with fail
  refine (D.out _).mono ?_
  rintro e w3 ⟨rfl, hb3⟩
  replace kk := below_on kk hb3
  clear hb3
  go_wp2_with fail
  refine (E.out _).mono ?_
  rintro e w4 ⟨rfl, hb4⟩
  replace kk := below_on kk hb4
  clear hb4
  go_wp2_with fail
  refine (move_lives _).mono ?_
  rintro e w5 ⟨rfl, hb5⟩
  replace kk := below_on kk hb5
  clear hb5
  go_wp2
  go_ret
  exact ⟨rfl, kk⟩
set_option maxHeartbeats 1000000 in
set_option maxRecDepth 100000 in
theorem movePlaces_walk (s : ByteArray) (p : Int) (key : ByteArray) (n want : Int) (hk : key.size ≤ 140737488351232) (w : World) :
    Calls Try.prog 5 #[.string s, .int .i64 p, .string key, .int .i64 n, .int .i64 want] w fun e w' => e = .returned (.bool true) ∧ Below w.heap.size w w' := by
  by_cases h3 : 300 < s.size
  · go_enter Try.func5, Try.ntmps5
    go_wp2_with fail
    refine (move_lives _).mono ?_
    rintro e w1 ⟨rfl, hb⟩
    go_wp2
    go_ret
    exact ⟨rfl, hb⟩
  have g0 : decide ((300 : Int) < (s.size : Int)) = false := by simp; omega
  by_cases hv : Move.lead s.data.toList p key.data.toList n want < 0
  · exact movePlaces_no s p key n want hk h3 hv w
  cases hp : place s.data.toList p with
  | false => rw [Move.lead_bad hp] at hv; omega
  | true =>
    cases hm : Move.mot key.data.toList with
    | none => rw [Move.lead_no hm] at hv; omega
    | some m =>
      have hlt := Move.mot_lt hm
      obtain ⟨q, k, x, rfl, hkx, h1, h2, _, e1, _, _⟩ := Line.place_line hp
      rcases Move.raw_ok hlt hp hkx h1 h2 n want with h | ⟨c, k', y, h, hc, hk', hy1, hy2, ho⟩
      · rw [Move.lead_at hp hm] at hv; omega
      · have hL := Move.lead_at hp hm n want
        rw [h] at hL
        have e2 := Line.of_at hk' hy1 hy2
        have hT := Move.mot_tab.1 hm
        rw [← bs_data key] at hT hL ⊢
        clear hm hv hk
        generalize key.data.toList = l at *
        rw [bs_toList] at hT hL
        unfold Move.tab at hT
        simp only [List.mem_cons, Prod.mk.injEq, List.not_mem_nil, or_false] at hT
        rcases hT with ⟨rfl, rfl⟩ | ⟨rfl, rfl⟩ | ⟨rfl, rfl⟩ | ⟨rfl, rfl⟩ | ⟨rfl, rfl⟩ | ⟨rfl, rfl⟩ | ⟨rfl, rfl⟩ | ⟨rfl, rfl⟩ | ⟨rfl, rfl⟩ | ⟨rfl, rfl⟩
        · exact movePlaces_left s q n want h3 hL hp hc e1 e2 (by rw [Int.toNat_natCast]; exact ho) (by omega) w
        · exact movePlaces_right s q n want h3 hL hp hc e1 e2 (by rw [Int.toNat_natCast]; exact ho) (by omega) w
        · exact movePlaces_begin s q n want h3 hL hp hc e1 e2 (by rw [Int.toNat_natCast]; exact ho) (by omega) w
        · exact movePlaces_first s q n want h3 hL hp hc e1 e2 (by rw [Int.toNat_natCast]; exact ho) (by omega) w
        · exact movePlaces_end s q n want h3 hL hp hc e1 e2 (by rw [Int.toNat_natCast]; exact ho) (by omega) w
        · exact movePlaces_column s q n want h3 hL hp hc e1 e2 (by rw [Int.toNat_natCast]; exact ho) (by omega) w
        · exact movePlaces_down s q n want h3 hL hp hc e1 e2 (by rw [Int.toNat_natCast]; exact ho) (by omega) w
        · exact movePlaces_up s q n want h3 hL hp hc e1 e2 (by rw [Int.toNat_natCast]; exact ho) (by omega) w
        · exact movePlaces_top s q n want h3 hL hp hc e1 e2 (by rw [Int.toNat_natCast]; exact ho) (by omega) w
        · exact movePlaces_bottom s q n want h3 hL hp hc e1 e2 (by rw [Int.toNat_natCast]; exact ho) (by omega) w
section
open Go.ChangeShapes Go.WideShapes Go.ChangeAt
open Go.ChangeMaps (open_string)
set_option maxRecDepth 100000 in
theorem movePlaces_lifted (os : Os) (started : os.Started) (H : Type) (enc : TypeId × Value → H) :
    ReturnsInHanded {} Try.checked os 5 .any (Rows.movePlacesSpec.pre6 enc Try.prog Try.f5 Rows.movePlacesRow.domain false) (Rows.movePlacesSpec.post enc Try.prog Try.f5 false true false false) := by
  refine returnsInHanded_of_change_sized (C := Try.checked) own_knob started (by kernel_rfl) Try.func5
    (ChangeSpec.witness6 (enc := enc) (C := Try.checked) false ⟨#[], #[.string .empty, .int .i64 0, .string .empty, .int .i64 0, .int .i64 0], []⟩ 8 (by kernel_rfl) (by kernel_rfl) (by kernel_rfl) (by kernel_rfl)) ?_
  intro W base args ds gs before hval0 hW _ hsz0 _
  have hsz : (DataW.weightsEach Try.prog (Try.f5.params.toList ++ Rows.movePlacesSpec.plain.varTypes Try.prog) (ds ++ gs)).all (· ≤ reachBytes) = true := hsz0
  clear hsz0
  have hval : ∀ (j : Nat) t v, Try.f5.params[j]? = some t → args[j]? = some v → Value.okWide Try.prog W .any base t v := hval0
  have hW' := hW
  obtain ⟨p, q, hA0, hV, rfl, hfz, hnd⟩ := hW
  have hA : DataW.TrodAll enc Try.prog W 0 (fun _ => true) true Try.f5.params.toList args.toList ds p := hA0
  rw [Try.params5] at hA hval hsz
  obtain ⟨v0, vs0, d0, ds0, p0, q0, hargs, rfl, rfl, h0, r0⟩ := trodAll_cons hA
  obtain ⟨v1, vs1, d1, ds1, p1, q1, rfl, rfl, rfl, h1, r1⟩ := trodAll_cons r0
  obtain ⟨v2, vs2, d2, ds2, p2, q2, rfl, rfl, rfl, h2, r2⟩ := trodAll_cons r1
  obtain ⟨v3, vs3, d3, ds3, p3, q3, rfl, rfl, rfl, h3, r3⟩ := trodAll_cons r2
  obtain ⟨v4, vs4, d4, ds4, p4, q4, rfl, rfl, rfl, h4, r4⟩ := trodAll_cons r3
  obtain ⟨rfl, rfl, rfl⟩ := trodAll_nil r4
  obtain rfl : args = #[v0, v1, v2, v3, v4] := by cases args; simp_all
  obtain ⟨rfl, rfl⟩ := trodVars_none hV
  obtain ⟨s0, rfl, rfl, rfl, hmax0⟩ := open_string Try.underlying9 (hval 0 9 v0 rfl rfl) h0
  have hs0 : s0.size ≤ 140737488351232 := by rw [← data_len]; exact sized_string hsz (j := 0) (t := 9) rfl rfl
  obtain ⟨n1, rfl, rfl, rfl, wn1⟩ := open_int Try.underlying3 (hval 1 3 v1 rfl rfl) h1
  obtain ⟨s2, rfl, rfl, rfl, hmax2⟩ := open_string Try.underlying9 (hval 2 9 v2 rfl rfl) h2
  have hs2 : s2.size ≤ 140737488351232 := by rw [← data_len]; exact sized_string hsz (j := 2) (t := 9) rfl rfl
  obtain ⟨n3, rfl, rfl, rfl, wn3⟩ := open_int Try.underlying3 (hval 3 3 v3 rfl rfl) h3
  obtain ⟨n4, rfl, rfl, rfl, wn4⟩ := open_int Try.underlying3 (hval 4 3 v4 rfl rfl) h4
  refine (movePlaces_walk s0 n1 s2 n3 n4 hs2 _).mono fun e W' ⟨he, hb⟩ => ?_
  subst he
  exact ⟨_, rfl, law_post rfl rfl (by rw [Try.params5]; decide +kernel) ⟨rfl, rfl, rfl⟩ hW' hb⟩
theorem movePlaces_holds : Rows.MovePlacesSaid :=
  OpenClaim.holds_of_wide 5 Try.f5 rfl rfl rfl rfl rfl rfl rfl ⟨rfl, rfl, rfl, rfl, rfl⟩ rfl rfl rfl rfl rfl (by kernel_rfl) Try.func5 (by kernel_rfl)
    (of_decide_eq_true (by kernel_rfl)) (by unfold Func.isWrapper; first | (rw [if_pos (by decide +kernel)]; kernel_rfl) | (rw [if_neg (by decide +kernel)]; exact ⟨rfl, rfl⟩))
    (fun os started H enc _ => movePlaces_lifted os started H enc)
end
end Go.Proofs.Ytdmgjaobkfjgpaa
