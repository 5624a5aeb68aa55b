/-
  A node's kids: the program's answer, and the document's.
-/
import Derived.Test.YtffihchkmcddeaaTreePlain
import Derived.Test.YtffihchkmcddeaaTreeRefRight
import Derived.Test.YtffihchkmcddeaaTreeRight
namespace Go.Proofs.Ytffihchkmcddeaa
open Go.RowKit
open Tre
namespace Tre
def ints (ks : List Nat) : List Int := ks.map fun (n : Nat) => (n : Int)
theorem ints_length (ks : List Nat) : (ints ks).length = ks.length := by simp [ints]
theorem ints_snoc (ks : List Nat) (n : Nat) : ints (ks ++ [n]) = ints ks ++ [(n : Int)] := by simp [ints]
theorem kidsIn_hit {l : List Nd} {m : Nat} {x : Nd} {k : Int} (h : l[m]? = some x) (hu : x.up = k) : kidsIn l (m + 1) k = kidsIn l m k ++ [m] := by
  unfold kidsIn
  rw [List.range_succ, List.filter_append]
  simp [h, hu]
theorem kidsIn_miss {l : List Nd} {m : Nat} {x : Nd} {k : Int} (h : l[m]? = some x) (hu : ¬ x.up = k) : kidsIn l (m + 1) k = kidsIn l m k := by
  unfold kidsIn
  rw [List.range_succ, List.filter_append]
  simp [h, hu]
theorem kidsIn_len (l : List Nd) (m : Nat) (k : Int) : (kidsIn l m k).length ≤ m := Nat.le_trans (List.length_filter_le _ _) (by simp)
end Tre
/-- An answer that is a list of these numbers. -/
def IntsIs (xs : List Int) (w : World) (e : Ending) (w' : World) : Prop := ∃ (A : Option Addr) (c : Nat), e = .returned (.slice A xs.length c) ∧ Ints w' A xs ∧ xs.length ≤ c ∧ Below w.heap.size w w'
theorem intsIs_nil {w w' : World} (h : Below w.heap.size w w') : IntsIs [] w (.returned (.slice none 0 0)) w' := ⟨none, 0, rfl, fun h0 => absurd h0 (by simp), Nat.le_refl _, h⟩
theorem own_le {w : World} {B : Nat} {e : TypeId} {size : Nat} {A : Option Addr} {n c : Nat} {xs : List Value} (h : w.ownsRow B e size (.slice A n c) n xs) : n ≤ c := by
  rcases h.2 with ⟨hv, h1⟩ | ⟨g, cap, cur, hv, _, hh, hnc, _⟩
  · omega
  · injection hv with e1 e2 e3
    omega
theorem intsIs_own {w w' : World} {B : Nat} {xs : List Int} {A : Option Addr} {c : Nat} (h : w'.ownsRow B 3 1 (.slice A xs.length c) xs.length (xs.map (Value.int .i64))) (hb : Below w.heap.size w w') : IntsIs xs w (.returned (.slice A xs.length c)) w' :=
  ⟨A, c, rfl, Ints.of_own h rfl, own_le h, hb⟩
set_option maxHeartbeats 4000000 in
set_option maxRecDepth 100000 in
theorem tree_Kids {A : Option Addr} {c : Nat} {l : List Nd} {cur k : Int} {w : World} (hx : Nds w A l) (hc : l.length ≤ c) (hm : l.length ≤ 2000) :
    Calls Try.prog 23 #[.agg #[.slice A l.length c, .int .i64 cur], .int .i64 k] w fun e w' => IntsIs (ints (kids l cur k)) w e w' := by
  have h0 := al (Below.refl w.heap.size w) (.cells #[.slice A l.length c, .int .i64 cur] 24)
  have hx2 := Lib.hid (hx.below h0)
  have R := Lib.hid (fun u (h : Nds u A l) => tree_Right (c := c) (cur := cur) h hc hm)
  have HAS := Lib.hid (fun u => held_has A l.length c cur k u)
  have HB := Lib.hid (fun u => blk1 w #[.slice A l.length c, .int .i64 cur] 24 (u := u))
  by_cases hR : Right l cur
  · rw [decide_eq_true hR] at R
    by_cases hk : 0 ≤ k ∧ k < l.length
    · rw [decide_eq_true hk] at HAS
      have H : Hid (kids l cur k = kidsIn l l.length k) := by show _ = _; rw [kids, if_pos ⟨hR, hk⟩]
      have h1 := hR.one
      obtain ⟨b, off, rfl, hbw, CC⟩ := hx.addr (by omega)
      have CE := Lib.hid CC
      obtain ⟨i0, hi, hz0, hz1, hz2⟩ := info_parts info_int
      clear CC hx hR hk
      go_enter Try.func23, Try.ntmps23
      go_wp2_with (first
        | (go_at_call 12; refine (R.out _ hx2.out).mono ?_; rintro e w1 ⟨rfl, hb1⟩; obtain ⟨z1, y0, y1⟩ := HB.out _ hb1; have t0 := y0.cell 0; have t1 := y0.cell 1)
        | (go_at_call 40; refine (HAS.out _).mono ?_; rintro e w2 ⟨rfl, hb2⟩; have S2 := hb1.trans (hb2.mono hb1.size); obtain ⟨z2, x0, x1⟩ := HB.out _ S2; have s0 := x0.cell 0))
      have W2 := Lib.hid x1
      clear hb1 hb2 y0 y1 t0 t1 x0 s0 S2 hx2 h0 R HAS HB z1 z2 x1
      go_loopw [5, 21] (fun v iv wr => ∃ (j : Nat) (A' : Option Addr) (c' n : Nat), iv = .int .i64 j ∧ j ≤ l.length ∧ v = .slice A' n c' ∧ Hid (n = (kidsIn l j k).length) ∧ n ≤ j ∧ wr.ownsRow w.heap.size 3 1 v n ((ints (kidsIn l j k)).map (Value.int .i64)) ∧ Below w.heap.size w wr) (fun _ iv _ => l.length - (intOf iv).toNat)
      case atStart => exact ⟨0, none, 0, 0, rfl, Nat.zero_le _, rfl, rfl, Nat.le_refl _, World.ownsRow_nil _ _ _ _, W2.out⟩
      case round =>
        clear W2
        obtain ⟨j, A', c', n, rfl, hj, rfl, hn, hnj, hown, hW⟩ := hrel
        by_cases hlt : j < l.length
        · obtain ⟨y, hy⟩ : ∃ y, l[j]? = some y := ⟨_, List.getElem?_eq_getElem hlt⟩
          obtain ⟨c0, c1, c2, c3, c4, c5, c6⟩ := CE.out wr _ hW (Nat.le_refl _) _ _ hy
          have b2 : b < wr.heap.size := Nat.lt_of_lt_of_le hbw hW.size
          have g1 : decide ((j : Int) < (l.length : Int)) = true := by simp; omega
          have W3 := ba hW (.cells y.vals 51)
          have own3 := hown.alloc (.cells y.vals 51)
          unfold Nd.vals at W3 own3
          by_cases hu : y.up = k
          · have hk2 := Lib.hid (kidsIn_hit hy hu)
            have e1 : (y.up == k) = true := by rw [beq_iff_eq]; exact hu
            clear hy hu
            go_wp2_with (at_builtin; refine wpList_append_own _ rfl _ _ 41 rfl w.heap.size 3 i0 (.int .i64 0) 1 8 Try.underlying41 hi hz0 hz1 hz2 rfl (by decide) _ _ _ rfl (own3.alloc _) ⟨wr.heap.size + 1, 0, none⟩ 1 1 [.int .i64 (j : Int)] rfl rfl ?c1 ?c2 ?c3 ?c4 ?c5 ?_)
            case c1 =>
              intro i u hi
              have hb := Blk.new (wr.alloc (.cells #[.int .i64 y.up, .int .i64 y.next, .int .i64 y.before, .int .i64 y.after, .int .i64 y.at_, .string y.old, .string y.new] 51)) 3 #[.int .i64 (j : Int)]
              rw [World.size_alloc] at hb
              rw [add_plain, Nat.zero_add, hb.cell]
              simpa using hi
            case c2 => simp [Value.oneCell']
            case c3 => unfold maxLen; omega
            case c4 => omega
            case c5 => have := W3.size; simp only [World.size_alloc] at this ⊢; omega
            intro v' w4 hown4 hgrow4 _
            obtain ⟨a4, cap4, rfl⟩ := own_shape hown4
            have W4 : Below w.heap.size w w4 := (ba W3 (.cells #[.int .i64 (j : Int)] 3)).grown hgrow4 (ba W3 (.cells #[.int .i64 (j : Int)] 3)).size (fun i hi => (hown.lt i hi).1)
            go_wp2
            go_roundw
            case rel => exact ⟨j + 1, a4, cap4, n + 1, by go_num, by omega, rfl, by show _ = _; rw [hk2.out, hn.out]; simp, by omega, by rw [hk2.out, ints_snoc, List.map_append]; exact hown4, W4⟩
            case measure => simp [intOf]; omega
          · have hk2 := Lib.hid (kidsIn_miss hy hu)
            have e1 : (y.up == k) = false := by rw [beq_eq_false_iff_ne]; exact hu
            clear hy hu
            go_wp2
            go_roundw
            case rel => exact ⟨j + 1, A', c', n, by go_num, by omega, rfl, by show _ = _; rw [hk2.out, hn.out], by omega, by rw [hk2.out]; exact own3, W3⟩
            case measure => simp [intOf]; omega
        · have g1 : decide ((j : Int) < (l.length : Int)) = false := by simp; omega
          obtain rfl : j = l.length := by omega
          go_wp2
          go_ret
          rw [H.out]
          have hn' : n = (ints (kidsIn l l.length k)).length := by rw [ints_length]; exact hn.out
          rw [hn'] at hown ⊢
          exact intsIs_own hown hW
    · rw [decide_eq_false hk] at HAS
      have H : Hid (kids l cur k = []) := by show _ = _; rw [kids, if_neg (fun h => hk h.2)]
      clear hx hR hk
      go_enter Try.func23, Try.ntmps23
      go_wp2_with (first
        | (go_at_call 12; refine (R.out _ hx2.out).mono ?_; rintro e w1 ⟨rfl, hb1⟩; obtain ⟨z1, y0, y1⟩ := HB.out _ hb1; have t0 := y0.cell 0; have t1 := y0.cell 1)
        | (go_at_call 40; refine (HAS.out _).mono ?_; rintro e w2 ⟨rfl, hb2⟩; have S2 := hb1.trans (hb2.mono hb1.size); obtain ⟨z2, x0, x1⟩ := HB.out _ S2))
      go_ret
      rw [H.out]
      exact intsIs_nil x1
  · rw [decide_eq_false hR] at R
    have H : Hid (kids l cur k = []) := by show _ = _; rw [kids, if_neg (fun h => hR h.1)]
    clear hx hR
    go_enter Try.func23, Try.ntmps23
    go_wp2_with (go_at_call 12; refine (R.out _ hx2.out).mono ?_; rintro e w1 ⟨rfl, hb1⟩; obtain ⟨z1, y0, y1⟩ := HB.out _ hb1; have t0 := y0.cell 0; have t1 := y0.cell 1)
    go_ret
    rw [H.out]
    exact intsIs_nil y1
set_option maxHeartbeats 4000000 in
set_option maxRecDepth 100000 in
theorem ref11_kids {A : Option Addr} {c : Nat} {l : List Nd} {cur k : Int} {w : World} (hx : Nds w A l) (hm : l.length ≤ 2000) (h1 : 1 ≤ l.length) :
    Calls Try.prog 45 #[.agg #[.slice A l.length c, .int .i64 cur], .int .i64 k] w fun e w' => IntsIs (ints (kidsIn l l.length k)) w e w' := by
  have HB := Lib.hid (fun u => blk1 w #[.slice A l.length c, .int .i64 cur] 24 (u := u))
  obtain ⟨b, off, rfl, hbw, CC⟩ := hx.addr (by omega)
  have CE := Lib.hid CC
  obtain ⟨i0, hi, hz0, hz1, hz2⟩ := info_parts info_int
  clear CC hx
  go_enter Try.func45, Try.ntmps45
  go_wp2_with fail
  have hS : (w.alloc (.cells #[.slice (some ⟨b, off, none⟩) l.length c, .int .i64 cur] 24)).heap.size = w.heap.size + 1 := World.size_alloc _ _
  generalize w.alloc (.cells #[.slice (some ⟨b, off, none⟩) l.length c, .int .i64 cur] 24) = wz at *
  rw [hS] at HB
  have HS := Lib.hid hS
  go_loopw [5, 6] (fun v iv wr => ∃ (j : Nat) (A' : Option Addr) (c' n : Nat), iv = .int .i64 j ∧ j ≤ l.length ∧ v = .slice A' n c' ∧ Hid (n = (kidsIn l j k).length) ∧ n ≤ j ∧ wr.ownsRow (w.heap.size + 1) 3 1 v n ((ints (kidsIn l j k)).map (Value.int .i64)) ∧ Below (w.heap.size + 1) wz wr) (fun _ iv _ => l.length - (intOf iv).toNat)
  case atStart => exact ⟨0, none, 0, 0, rfl, Nat.zero_le _, rfl, rfl, Nat.le_refl _, World.ownsRow_nil _ _ _ _, by rw [← HS.out]; exact Below.refl _ _⟩
  case round =>
    obtain ⟨j, A', c', n, rfl, hj, rfl, hn, hnj, hown, hW0⟩ := hrel
    obtain ⟨z1, y0, hW⟩ := HB.out _ hW0
    have t0 := y0.cell 0
    by_cases hlt : j < l.length
    · obtain ⟨y, hy⟩ : ∃ y, l[j]? = some y := ⟨_, List.getElem?_eq_getElem hlt⟩
      obtain ⟨c0, c1, c2, c3, c4, c5, c6⟩ := CE.out wr _ hW (Nat.le_refl _) _ _ hy
      have b2 : b < wr.heap.size := Nat.lt_of_lt_of_le hbw hW.size
      have g1 : decide ((j : Int) < (l.length : Int)) = true := by simp; omega
      by_cases hu : y.up = k
      · have hk2 := Lib.hid (kidsIn_hit hy hu)
        have e1 : (y.up == k) = true := by rw [beq_iff_eq]; exact hu
        clear hy hu
        go_wp2_with (at_builtin; refine wpList_append_own _ rfl _ _ 41 rfl (w.heap.size + 1) 3 i0 (.int .i64 0) 1 8 Try.underlying41 hi hz0 hz1 hz2 rfl (by decide) _ _ _ rfl (hown.alloc _) ⟨wr.heap.size, 0, none⟩ 1 1 [.int .i64 (j : Int)] rfl rfl ?c1 ?c2 ?c3 ?c4 ?c5 ?_)
        case c1 =>
          intro i u hi
          have hb := Blk.new wr 3 #[.int .i64 (j : Int)]
          rw [add_plain, Nat.zero_add, hb.cell]
          simpa using hi
        case c2 => simp [Value.oneCell']
        case c3 => unfold maxLen; omega
        case c4 => omega
        case c5 => rw [World.size_alloc]; omega
        intro v' w4 hown4 hgrow4 _
        obtain ⟨a4, cap4, rfl⟩ := own_shape hown4
        have W4 : Below (w.heap.size + 1) wz w4 := (hW0.alloc z1 (.cells #[.int .i64 (j : Int)] 3)).grown hgrow4 (by rw [World.size_alloc]; omega) (fun i hi => (hown.lt i hi).1)
        go_wp2
        go_roundw
        case rel => exact ⟨j + 1, a4, cap4, n + 1, by go_num, by omega, rfl, by show _ = _; rw [hk2.out, hn.out]; simp, by omega, by rw [hk2.out, ints_snoc, List.map_append]; exact hown4, W4⟩
        case measure => simp [intOf]; omega
      · have hk2 := Lib.hid (kidsIn_miss hy hu)
        have e1 : (y.up == k) = false := by rw [beq_eq_false_iff_ne]; exact hu
        clear hy hu
        go_wp2
        go_roundw
        case rel => exact ⟨j + 1, A', c', n, by go_num, by omega, rfl, by show _ = _; rw [hk2.out, hn.out], by omega, by rw [hk2.out]; exact hown, hW0⟩
        case measure => simp [intOf]; omega
    · have g1 : decide ((j : Int) < (l.length : Int)) = false := by simp; omega
      obtain rfl : j = l.length := by omega
      go_wp2
      go_ret
      have hn' : n = (ints (kidsIn l l.length k)).length := by rw [ints_length]; exact hn.out
      rw [hn'] at hown ⊢
      exact intsIs_own hown hW
set_option maxHeartbeats 4000000 in
set_option maxRecDepth 100000 in
theorem ref11_Kids {A : Option Addr} {c : Nat} {l : List Nd} {cur k : Int} {w : World} (hx : Nds w A l) (hm : l.length ≤ 2000) :
    Calls Try.prog 24 #[.agg #[.slice A l.length c, .int .i64 cur], .int .i64 k] w fun e w' => IntsIs (ints (kids l cur k)) w e w' := by
  have h0 := al (Below.refl w.heap.size w) (.cells #[.slice A l.length c, .int .i64 cur] 24)
  have hx2 := Lib.hid (hx.below h0)
  have R := Lib.hid (fun u (h : Nds u A l) => ref11_Right (c := c) (cur := cur) h)
  have HAS := Lib.hid (fun u => ref11_has A l.length c cur k u)
  have HB := Lib.hid (fun u => blk1 w #[.slice A l.length c, .int .i64 cur] 24 (u := u))
  have HX := Lib.hid hx
  by_cases hR : Right l cur
  · rw [decide_eq_true hR] at R
    by_cases hk : 0 ≤ k ∧ k < l.length
    · rw [decide_eq_true hk] at HAS
      have H : Hid (kids l cur k = kidsIn l l.length k) := by show _ = _; rw [kids, if_pos ⟨hR, hk⟩]
      have KS := Lib.hid (fun u (h : Nds u A l) => ref11_kids (c := c) (cur := cur) (k := k) h hm hR.one)
      clear hx hR hk
      go_enter Try.func24, Try.ntmps24
      go_wp2_with (first
        | (go_at_call 13; refine (R.out _ hx2.out).mono ?_; rintro e w1 ⟨rfl, hb1⟩; obtain ⟨z1, y0, y1⟩ := HB.out _ hb1; have t0 := y0.cell 0; have t1 := y0.cell 1)
        | (go_at_call 43; refine (HAS.out _).mono ?_; rintro e w2 ⟨rfl, hb2⟩; have S2 := hb1.trans (hb2.mono hb1.size); obtain ⟨z2, x0, x1⟩ := HB.out _ S2; have s0 := x0.cell 0; have s1 := x0.cell 1; have hx3 := Lib.hid (HX.out.below x1))
        | (go_at_call 45; refine (KS.out _ hx3.out).mono ?_; rintro e w3 ⟨A3, c3, rfl, hI, hc3, hb3⟩))
      go_ret
      rw [H.out]
      exact ⟨A3, c3, rfl, hI, hc3, x1.trans (hb3.mono x1.size)⟩
    · rw [decide_eq_false hk] at HAS
      have H : Hid (kids l cur k = []) := by show _ = _; rw [kids, if_neg (fun h => hk h.2)]
      clear hx hR hk
      go_enter Try.func24, Try.ntmps24
      go_wp2_with (first
        | (go_at_call 13; refine (R.out _ hx2.out).mono ?_; rintro e w1 ⟨rfl, hb1⟩; obtain ⟨z1, y0, y1⟩ := HB.out _ hb1; have t0 := y0.cell 0; have t1 := y0.cell 1)
        | (go_at_call 43; refine (HAS.out _).mono ?_; rintro e w2 ⟨rfl, hb2⟩; have S2 := hb1.trans (hb2.mono hb1.size); obtain ⟨z2, x0, x1⟩ := HB.out _ S2))
      go_ret
      rw [H.out]
      exact intsIs_nil x1
  · rw [decide_eq_false hR] at R
    have H : Hid (kids l cur k = []) := by show _ = _; rw [kids, if_neg (fun h => hR h.1)]
    clear hx hR
    go_enter Try.func24, Try.ntmps24
    go_wp2_with (go_at_call 13; refine (R.out _ hx2.out).mono ?_; rintro e w1 ⟨rfl, hb1⟩; obtain ⟨z1, y0, y1⟩ := HB.out _ hb1; have t0 := y0.cell 0; have t1 := y0.cell 1)
    go_ret
    rw [H.out]
    exact intsIs_nil y1
end Go.Proofs.Ytffihchkmcddeaa
