/-
  The pair around a place: the document's.
-/
import Derived.Test.YtijjpnppedhfnaaPairAround
import Derived.Test.YtijjpnppedhfnaaPairRefAll
namespace Go.Proofs.Ytijjpnppedhfnaa
open Go.RowKit
open Pair
theorem Pair.arnd_next {L : List (Nat × Nat)} {i : Nat} {x : Nat × Nat} (h : L[i]? = some x) (p : Int) : (Abt x p → arnd (L.take (i + 1)) p = some x) ∧ (¬ Abt x p → arnd (L.take (i + 1)) p = arnd (L.take i) p) := by
  have e : L.take (i + 1) = L.take i ++ [x] := by rw [List.take_add_one, h]; rfl
  rw [e, arnd_append]
  constructor
  · intro hx
    have : arnd [x] p = some x := by rw [arnd, arnd]; exact if_pos hx
    rw [this]
  · intro hx
    have : arnd [x] p = none := by rw [arnd, arnd]; exact if_neg hx
    rw [this]
set_option maxHeartbeats 2000000 in
set_option maxRecDepth 100000 in
theorem ref17_Around (s : ByteArray) (p : Int) (k : ByteArray) (hs : s.size ≤ 500000) (w : World) :
    Calls Try.prog 14 #[.string s, .int .i64 p, .string k] w fun e w' => e = .returned (resA (ar s.data.toList k.data.toList p)) ∧ Below w.heap.size w w' := by
  have hl := data_len s
  have c1 := Lib.hid (fun w => ref_Place s p (by omega) w)
  have c2 := Lib.hid (fun w => ref17_All s k hs w)
  have hlen := all_length s.data.toList k.data.toList
  rw [hl] at hlen
  cases hp : Utf.place s.data.toList p with
  | false =>
    rw [hp] at c1
    have H : Hid (ar s.data.toList k.data.toList p = none) := by show _ = _; rw [ar, if_neg (by simp [hp])]
    clear hp
    generalize Pair.all s.data.toList k.data.toList = L at *
    go_enter Try.func14, Try.ntmps14
    go_wp2_with (go_at_call 10; refine (c2.out _).mono ?_; rintro e w5 ⟨⟨v, rfl, hr⟩, hb5⟩; obtain ⟨A, cp, rfl⟩ := own_long hr)
    clear hr
    go_loopw [9, 10, 11, 13] (fun av bv ov iv wr => av = .int .i64 0 ∧ bv = .int .i64 0 ∧ ov = .bool false ∧ iv = .int .i64 0 ∧ Below w.heap.size w wr) (fun _ _ _ _ _ => 0)
    case atStart => exact ⟨rfl, rfl, rfl, rfl, hb5⟩
    case round =>
      obtain ⟨rfl, rfl, rfl, rfl, hb⟩ := hrel
      cases L with
      | nil =>
        have g0 : decide ((0 : Int) < (([] : List (Nat × Nat)).length : Int)) = false := by decide
        go_wp2
        go_ret3
        exact ⟨by rw [H.out]; rfl, hb⟩
      | cons x L =>
        have g0 : (0 : Int) < ((x :: L).length : Int) := by rw [List.length_cons]; omega
        generalize (x :: L).length = m at *
        go_wp2_with (go_at_call 29; refine (c1.out _).mono ?_; rintro e w6 ⟨rfl, hb6⟩)
        go_ret3
        exact ⟨by rw [H.out]; rfl, hb.trans (hb6.mono hb.size)⟩
  | true =>
    rw [hp] at c1
    have HA : Hid (ar s.data.toList k.data.toList p = arnd (Pair.all s.data.toList k.data.toList) p) := if_pos hp
    clear hp
    generalize Pair.all s.data.toList k.data.toList = L at *
    go_enter Try.func14, Try.ntmps14
    go_wp2_with (go_at_call 10; refine (c2.out _).mono ?_; rintro e w5 ⟨⟨v, rfl, hr⟩, hb5⟩; obtain ⟨A, cp, rfl⟩ := own_long hr)
    have HP := Lib.hid (Pairs.of_own hr rfl)
    have HB5 := Lib.hid hb5
    clear hr hb5
    go_loopw [9, 10, 11, 13] (fun av bv ov iv wr => ∃ (a b : Int) (o : Bool) (i : Nat), av = .int .i64 a ∧ bv = .int .i64 b ∧ ov = .bool o ∧ iv = .int .i64 i ∧ i ≤ L.length ∧ Below w5.heap.size w5 wr ∧ Hid (resA (arnd (L.take i) p) = .tuple #[.int .i64 a, .int .i64 b, .bool o])) (fun _ _ _ iv _ => L.length - (intOf iv).toNat)
    case atStart => exact ⟨0, 0, false, 0, rfl, rfl, rfl, rfl, Nat.zero_le _, Below.refl _ _, by show _ = _; rw [List.take_zero]; rfl⟩
    case round =>
      obtain ⟨a, b, o, i, rfl, rfl, rfl, rfl, hi, hb, HR⟩ := hrel
      by_cases hlt : i < L.length
      · obtain ⟨⟨x, y⟩, hx⟩ : ∃ x, L[i]? = some x := ⟨_, List.getElem?_eq_getElem hlt⟩
        obtain ⟨n1, n2⟩ := arnd_next hx p
        have HX := Lib.hid hx
        have HPB : Hid (∀ u, Below wr.heap.size wr u → Pairs u A L ∧ Below w5.heap.size w5 u) := fun u h => ⟨(HP.out.below hb).below h, hb.trans (h.mono hb.size)⟩
        obtain ⟨g, hgA, _, _⟩ := (HP.out.below hb).at_ hx
        subst hgA
        have CE : Hid (∀ u, Below wr.heap.size wr u → u.cell? ⟨g, i * 2, none⟩ = some (.int .i64 (x : Nat)) ∧ u.cell? ⟨g, i * 2 + 1, none⟩ = some (.int .i64 (y : Nat))) := fun u h => by
          obtain ⟨g', e, q0, q1⟩ := ((HPB.out u h).1).at_ HX.out
          cases e
          exact ⟨q0, q1⟩
        clear hx hb HP
        by_cases h1 : (x : Int) ≤ p
        · by_cases h2 : p ≤ (y : Int)
          · have N := Lib.hid (n1 ⟨h1, h2⟩)
            clear n1 n2
            go_wp2_with (go_at_call 29; refine (c1.out _).mono ?_; rintro e w6 ⟨rfl, hb6⟩; obtain ⟨q0, q1⟩ := CE.out _ hb6; have B6 := Lib.hid (HPB.out _ hb6).2; clear hb6)
            go_quiet (fail)
            go_wp2
            go_roundw
            case rel => exact ⟨x, y, true, i + 1, rfl, rfl, rfl, by go_num, hlt, below_drewN B6.out _, by show _ = _; rw [N.out]; rfl⟩
            case measure => simp [intOf]; omega
          · have N := Lib.hid (n2 (fun k => h2 k.2))
            clear n1 n2
            go_wp2_with (go_at_call 29; refine (c1.out _).mono ?_; rintro e w6 ⟨rfl, hb6⟩; obtain ⟨q0, q1⟩ := CE.out _ hb6; have B6 := Lib.hid (HPB.out _ hb6).2; clear hb6)
            go_roundw
            case rel => exact ⟨a, b, o, i + 1, rfl, rfl, rfl, by go_num, hlt, B6.out, by show _ = _; rw [N.out]; exact HR.out⟩
            case measure => simp [intOf]; omega
        · have N := Lib.hid (n2 (fun k => h1 k.1))
          clear n1 n2
          go_wp2_with (go_at_call 29; refine (c1.out _).mono ?_; rintro e w6 ⟨rfl, hb6⟩; obtain ⟨q0, q1⟩ := CE.out _ hb6; have B6 := Lib.hid (HPB.out _ hb6).2; clear hb6)
          go_roundw
          case rel => exact ⟨a, b, o, i + 1, rfl, rfl, rfl, by go_num, hlt, B6.out, by show _ = _; rw [N.out]; exact HR.out⟩
          case measure => simp [intOf]; omega
      · obtain rfl : i = L.length := by omega
        have H : Hid (resA (ar s.data.toList k.data.toList p) = .tuple #[.int .i64 a, .int .i64 b, .bool o]) := by
          show _ = _
          rw [HA.out, ← HR.out, List.take_of_length_le (Nat.le_refl _)]
        clear HP HR
        go_wp2
        go_ret3
        exact ⟨by rw [H.out]; rfl, HB5.out.trans (hb.mono HB5.out.size)⟩
end Go.Proofs.Ytijjpnppedhfnaa
