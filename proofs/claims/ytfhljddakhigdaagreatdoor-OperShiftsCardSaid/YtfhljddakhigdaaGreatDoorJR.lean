/-
  The document's lines of a text, one by one, and lines as a text.
-/
import Derived.Test.YtfhljddakhigdaaGreatDoorJ2
import Derived.Test.YtfhljddakhigdaaGreatDoorLineRefs2
import Derived.Test.YtfhljddakhigdaaGreatDoorStrsOwn
import Derived.Test.YtfhljddakhigdaaGreatDoorInts
import Derived.Test.YtfhljddakhigdaaGreatDoorDiffs
import Derived.Laws.OwnMore
import Derived.Test.YtfhljddakhigdaaGreatDoorJ1
import Derived.Deep.RegionHeld3
namespace Go.Proofs.YtfhljddakhigdaaGreatDoor
open Go.RowKit
open Opr Gl
/-- The cells of a list of lines. -/
def lrow (R : List (List UInt8)) : List Value := (R.map bs).map Value.string
theorem lrow_length (R : List (List UInt8)) : (lrow R).length = R.length := by simp [lrow]
theorem lrow_append (A B : List (List UInt8)) : lrow (A ++ B) = lrow A ++ lrow B := by simp [lrow]
theorem lrow_get {R : List (List UInt8)} {k : Nat} {x : List UInt8} (h : R[k]? = some x) : (lrow R)[k]? = some (.string (bs x)) := by simp [lrow, h]
theorem lrow_set (R : List (List UInt8)) (k : Nat) (x : List UInt8) : (lrow R).set k (.string (bs x)) = lrow (R.set k x) := by
  simp only [lrow, List.map_set]
theorem lrow_take (R : List (List UInt8)) (k : Nat) : (lrow R).take k = lrow (R.take k) := by simp [lrow]
theorem lrow_drop (R : List (List UInt8)) (k : Nat) : (lrow R).drop k = lrow (R.drop k) := by simp [lrow]
theorem lrow_one (R : List (List UInt8)) : ∀ u ∈ lrow R, u.oneCell' = true := fun u hu => by
  simp only [lrow, List.mem_map] at hu
  obtain ⟨_, _, rfl⟩ := hu
  rfl
theorem Opr.row_seg {s : List UInt8} {k : Nat} {x : Nat × Nat} {r : List UInt8} (hx : (Line.L s)[k]? = some x) (hr : (Ix.parts s)[k]? = some r) : Line.seg s x.1 x.2 = r := by
  obtain ⟨A, B, C, h1, h2, h3, h4, h5, h6, h7⟩ := three (Nat.le_refl k) hx hx
  rw [show k + 1 - k = 1 by omega] at h4
  obtain ⟨y, rfl⟩ := List.length_eq_one_iff.1 h4
  rw [h1, List.getElem?_append_right (by omega), h3, Nat.sub_self] at hr
  simp at hr
  subst hr
  rw [Line.seg, take_of (A := fore A ++ glue [y]) (M := aft C) (by rw [List.append_assoc]; exact h5) (by rw [List.length_append]; exact h7), List.drop_left' h6.symm, glue_one]
set_option maxHeartbeats 2000000 in
set_option maxRecDepth 100000 in
theorem ref23_Rows (s : ByteArray) (hv : Utf.valid s.data.toList = true) (hs : s.size ≤ 100000) (w : World) :
    Calls Tryz.prog 16 #[.string s] w fun e w' => (∃ A c, e = .returned (.slice A (Ix.parts s.data.toList).length c) ∧ w'.ownsRow w.heap.size 9 1 (.slice A (Ix.parts s.data.toList).length c) (Ix.parts s.data.toList).length (lrow (Ix.parts s.data.toList))) ∧ Below w.heap.size w w' := by
  have hM := L_len hv
  have hl := Line.L_length s.data.toList
  rw [data_len] at hl
  obtain ⟨i0, hi, hz0, hz1, hz2⟩ := info_parts info_string
  have A1 := fun w => ref4_Count s (by omega) w
  rw [hM] at A1
  have LX : Hid (∀ (k : Nat) r, (Ix.parts s.data.toList)[k]? = some r → ∃ p q : Nat, p ≤ q ∧ q ≤ s.size ∧ s.extract p q = bs r ∧ (∀ w, Calls Tryz.prog 46 #[.string s, .int .i64 k] w fun e w' => e = .returned (.int .i64 (p : Nat)) ∧ Below w.heap.size w w') ∧ (∀ w, Calls Tryz.prog 47 #[.string s, .int .i64 k] w fun e w' => e = .returned (.int .i64 (q : Nat)) ∧ Below w.heap.size w w')) := fun k r hr => by
    have hx := L_at hv hr
    have he := Line.L_each hx
    rw [data_len] at he
    refine ⟨_, _, he.1, he.2, ?_, fun w => ?_, fun w => ?_⟩
    · rw [ext_seg, row_seg hx hr]
    · have := ref4_Start s k (by omega) w
      rwa [Line.start_some (by rw [Line.line_nat]; exact hx)] at this
    · have := ref4_End s k (by omega) w
      rwa [Line.stop_some (by rw [Line.line_nat]; exact hx)] at this
  rw [hM] at hl
  generalize Ix.parts s.data.toList = R at *
  clear hM hv
  obtain ⟨M, hMl⟩ : ∃ M, R.length = M := ⟨_, rfl⟩
  rw [hMl] at A1 hl
  have C1 := Lib.hid A1
  have HM := Lib.hid hMl
  clear A1
  rw [hMl]
  clear hMl
  have hX := Below.refl w.heap.size w
  go_enter Tryz.func16, Tryz.ntmps16
  go_wp2_with fail
  go_loopw [3, 4] (fun v iv wr => ∃ (a : Option Addr) (c k : Nat), k ≤ M ∧ iv = .int .i64 k ∧ v = .slice a k c ∧ Hid (wr.ownsRow w.heap.size 9 1 v k (lrow (R.take k))) ∧ Below w.heap.size w wr) (fun _ iv _ => M - (intOf iv).toNat)
  case atStart => exact ⟨_, 0, 0, Nat.zero_le _, rfl, rfl, World.ownsRow_nil _ _ _ _, hX⟩
  case round =>
    clear hX
    obtain ⟨a, c, k, hk, rfl, rfl, hown, hW⟩ := hrel
    by_cases hlt : k < M
    · obtain ⟨r, hr⟩ : ∃ r, R[k]? = some r := ⟨_, List.getElem?_eq_getElem (by have := HM.out; omega)⟩
      obtain ⟨p, q, hpq, hqs, hex, S0, E0⟩ := LX.out k r hr
      have S1 := Lib.hid S0
      have E1 := Lib.hid E0
      have hS : Hid (lrow (R.take (k + 1)) = lrow (R.take k) ++ [Value.string (bs r)]) := by
        show _ = _
        rw [List.take_add_one, hr]
        exact lrow_append _ _
      have d1 : decide ((k : Int) < (M : Int)) = true := decide_eq_true (by omega)
      have i1 : (p : Int) ≤ (q : Int) := by omega
      have i2 : (q : Int) ≤ (s.size : Int) := by omega
      have hO := hown.out
      clear hr S0 E0 hown
      go_wp2_with (first
        | (go_at_call 45; (with_reducible refine (C1.out _).mono ?_); rintro e u ⟨rfl, hb⟩; replace hO := hO.kept (gb_below none hb) (by cases hv : (Value.slice a k c).ownBlock <;> simp); replace hW := hW.trans (hb.mono hW.size); clear hb)
        | (go_at_call 46; (with_reducible refine (S1.out _).mono ?_); rintro e u ⟨rfl, hb⟩; replace hO := hO.kept (gb_below none hb) (by cases hv : (Value.slice a k c).ownBlock <;> simp); replace hW := hW.trans (hb.mono hW.size); clear hb)
        | (go_at_call 47; (with_reducible refine (E1.out _).mono ?_); rintro e u ⟨rfl, hb⟩; replace hO := hO.kept (gb_below none hb) (by cases hv : (Value.slice a k c).ownBlock <;> simp); replace hW := hW.trans (hb.mono hW.size); clear hb; have hN := Blk.new u 9 #[.string (bs r)]; have hO2 := hO.alloc (.cells #[.string (bs r)] 9); have hW2 := hW.alloc hW.size (.cells #[.string (bs r)] 9))
        | (at_builtin; refine wpList_append_own _ rfl _ _ 42 rfl w.heap.size 9 i0 (.string ⟨#[]⟩) 1 16 Tryz.underlying42 hi hz0 hz1 hz2 rfl (by decide) _ _ _ rfl hO2 ⟨u.heap.size, 0, none⟩ 1 1 [.string (bs r)] rfl rfl ?c1 ?c2 ?c3 ?c4 ?c5 ?_))
      case c1 =>
        intro j y hj
        have e : (⟨u.heap.size, 0, none⟩ : Addr).add j = ⟨u.heap.size, j, none⟩ := by unfold Addr.add; split <;> simp_all
        rw [e, hN.cell]
        simpa using hj
      case c2 => intro y hy; simp at hy; subst hy; rfl
      case c3 => unfold maxLen; omega
      case c4 => omega
      case c5 => exact hW2.size
      intro v' w6 hown6 hgrow6 _
      obtain ⟨a6, cap6, rfl⟩ := own_shape hown6
      rw [← hS.out] at hown6
      have W6 := hW2.grown hgrow6 hW2.size (fun j hj => (hO2.lt j hj).1)
      have HO := Lib.hid hown6
      clear hgrow6 hown6 hO hO2 hN
      go_wp2
      go_roundw
      case rel => exact ⟨a6, cap6, k + 1, by omega, by go_num, rfl, HO, W6⟩
      case measure => simp [intOf]; omega
    · obtain rfl : k = M := by omega
      have d1 : decide ((k : Int) < (k : Int)) = false := decide_eq_false (by omega)
      have hO := hown.out
      rw [List.take_of_length_le (by have := HM.out; omega)] at hO
      clear hown LX
      go_wp2_with (go_at_call 45; (with_reducible refine (C1.out _).mono ?_); rintro e u ⟨rfl, hb⟩; replace hO := hO.kept (gb_below none hb) (by cases hv : (Value.slice a k c).ownBlock <;> simp); replace hW := hW.trans (hb.mono hW.size); clear hb)
      go_ret
      exact ⟨⟨a, c, rfl, hO⟩, hW⟩
theorem Gl.glue_next {R : List (List UInt8)} {k : Nat} {x : List UInt8} (h : R[k]? = some x) : glue (R.take (k + 1)) = (if 0 < k then glue (R.take k) ++ [10] else glue (R.take k)) ++ x := by
  rw [List.take_add_one, h]
  have hk := (List.getElem?_eq_some_iff.1 h).1
  cases k with
  | zero =>
    rw [if_neg (by omega)]
    exact glue_one x
  | succ k =>
    rw [if_pos (by omega), glue_aft (by intro e; have := congrArg List.length e; rw [List.length_take, List.length_nil] at this; omega)]
    show _ ++ aft [x] = _
    simp [aft]
theorem Gl.glue_le (R : List (List UInt8)) (k : Nat) : (glue (R.take k)).length ≤ (glue R).length := by
  cases R with
  | nil => simp [glue]
  | cons y r =>
    rcases Nat.eq_zero_or_pos k with h | h
    · subst h; simp [glue]
    · have e : y :: r = (y :: r).take k ++ (y :: r).drop k := (List.take_append_drop k (y :: r)).symm
      have hne : (y :: r).take k ≠ [] := by intro e; have := congrArg List.length e; rw [List.length_take, List.length_nil, List.length_cons] at this; omega
      conv => rhs; rw [e, glue_aft hne, List.length_append]
      omega
set_option maxHeartbeats 1000000 in
set_option maxRecDepth 100000 in
theorem ref23_Glue {A : Option Addr} {c n : Nat} {R : List (List UInt8)} {w : World} (hx : Strs w A (R.map bs)) (hl : (glue R).length ≤ 1000000000) (hn : R.length = n) (hn2 : n ≤ 1000000000) :
    Calls Tryz.prog 17 #[.slice A n c] w fun e w' => e = .returned (.string (bs (glue R))) ∧ w = w' := by
  have HN := Lib.hid hn
  have HG := Lib.hid (fun k => glue_le R k)
  clear hn
  go_enter Tryz.func17, Tryz.ntmps17
  go_wp2_with fail
  go_loop [3, 4] (fun sv iv => ∃ k : Nat, k ≤ n ∧ iv = .int .i64 k ∧ sv = .string (bs (glue (R.take k)))) (fun _ iv => n - (intOf iv).toNat)
  case atStart => exact ⟨0, Nat.zero_le _, rfl, rfl⟩
  case round =>
    obtain ⟨k, hk, rfl, rfl⟩ := hrel
    by_cases hlt : k < n
    · have hkR : k < R.length := by have := HN.out; omega
      obtain ⟨r, hr⟩ : ∃ r, R[k]? = some r := ⟨_, List.getElem?_eq_getElem hkR⟩
      obtain ⟨ad, rfl, h1⟩ := hx.at_ (k := k) (by simpa using hkR)
      rw [List.getElem_map, show R[k] = r from by rw [List.getElem?_eq_getElem hkR] at hr; injection hr] at h1
      have hnx := glue_next hr
      have hle := HG.out (k + 1)
      have hi : (k : Int) < (n : Int) := by omega
      rw [hnx] at hle
      by_cases h0 : 0 < k
      · rw [if_pos h0] at hnx hle
        have hlen : (bs (glue (R.take k))).size + (bs r).size + 1 ≤ 1000000000 := by rw [bs_size, bs_size]; simp only [List.length_append, List.length_singleton] at hle; omega
        have H1 : bs (glue (R.take k)) ++ ⟨#[10]⟩ = bs (glue (R.take k) ++ [10]) := bs_append _ [10]
        have H2 : Hid (bs (glue (R.take k) ++ [10]) ++ bs r = bs (glue (R.take (k + 1)))) := by show _ = _; rw [bs_append, hnx]
        have hz : (bs (glue (R.take k) ++ [10])).size = (bs (glue (R.take k))).size + 1 := by rw [bs_size, bs_size]; simp
        have g0 : decide ((0 : Int) < (k : Int)) = true := decide_eq_true (by omega)
        have z1 : ¬ 9223372036854775807 < (bs (glue (R.take k))).size + 1 := by omega
        have z2 : ¬ 9223372036854775807 < (bs (glue (R.take k) ++ [10])).size + (bs r).size := by omega
        clear hr hkR hx hnx hle
        generalize bs (glue (R.take k) ++ [10]) = S2 at *
        generalize bs (glue (R.take k)) = S at *
        generalize bs r = Q at *
        go_wp2
        go_round
        case rel => exact ⟨k + 1, by omega, by go_num, by rw [← H2.out]⟩
        case measure => simp [intOf]; omega
      · rw [if_neg h0] at hnx hle
        have hlen : (bs (glue (R.take k))).size + (bs r).size ≤ 1000000000 := by rw [bs_size, bs_size]; simp only [List.length_append] at hle; omega
        have H2 : Hid (bs (glue (R.take k)) ++ bs r = bs (glue (R.take (k + 1)))) := by show _ = _; rw [bs_append, hnx]
        have g0 : decide ((0 : Int) < (k : Int)) = false := decide_eq_false (by omega)
        have z2 : ¬ 9223372036854775807 < (bs (glue (R.take k))).size + (bs r).size := by omega
        clear hr hkR hx hnx hle
        generalize bs (glue (R.take k)) = S at *
        generalize bs r = Q at *
        go_wp2
        go_round
        case rel => exact ⟨k + 1, by omega, by go_num, by rw [← H2.out]⟩
        case measure => simp [intOf]; omega
    · obtain rfl : k = n := by omega
      have HT : Hid (R.take k = R) := by show _ = _; rw [List.take_of_length_le (by have := HN.out; omega)]
      clear hx
      go_wp2
      go_ret
      exact ⟨by rw [HT.out]; rfl, rfl⟩
end Go.Proofs.YtfhljddakhigdaaGreatDoor
/-
  How long a text with lines shifted is, at most.
-/
namespace Go.Proofs.YtfhljddakhigdaaGreatDoor
namespace Opr
open Gl
theorem sh_length (lf : Bool) (x : List UInt8) : (sh lf x).length ≤ x.length + 1 := by
  have := new_length lf x
  rw [sh, List.length_append, List.length_drop]; omega
theorem fore_sh (lf : Bool) (R : List (List UInt8)) : (fore (R.map (sh lf))).length ≤ (fore R).length + R.length := by
  induction R with
  | nil => exact Nat.le_refl _
  | cons x r ih =>
    have := sh_length lf x
    rw [List.map_cons, fore_cons, fore_cons, List.length_append, List.length_append, List.length_cons, List.length_cons, List.length_cons]
    omega
theorem shiftT_small {s : List UInt8} {j k : Nat} (hjk : j ≤ k) (lf : Bool) : (shiftT s j k lf).length ≤ 2 * s.length + 2 := by
  have h1 := fore_glue (parts_ne s)
  have h2 := glue_length (R := Ix.parts s)
  rw [glue_parts] at h1 h2
  have h3 : Ix.parts s = (Ix.parts s).take j ++ (((Ix.parts s).drop j).take (k + 1 - j) ++ (Ix.parts s).drop (k + 1)) := by
    conv => lhs; rw [← List.take_append_drop j (Ix.parts s), ← List.take_append_drop (k + 1 - j) ((Ix.parts s).drop j), List.drop_drop, show j + (k + 1 - j) = k + 1 by omega]
  have h4 := congrArg (fun R => (fore R).length) h3
  have h5 := congrArg List.length h3
  simp only [fore_append, List.length_append] at h4 h5
  have h6 := fore_sh lf (((Ix.parts s).drop j).take (k + 1 - j))
  rcases (Decidable.em (shiftR (Ix.parts s) j k lf = [])) with h | h
  · rw [shiftT, h]; exact Nat.zero_le _
  · have h7 := fore_glue h
    rw [shiftR, fore_append, fore_append, List.length_append, List.length_append] at h7
    rw [shiftT, shiftR]
    omega
end Opr
end Go.Proofs.YtfhljddakhigdaaGreatDoor
/-
  Whether a range may be, and its lines, by the document.
-/
namespace Go.Proofs.YtfhljddakhigdaaGreatDoor
open Go.RowKit
open Span (starts ends)
namespace Span
open Line (L L_whole L_valid of_ column)
theorem starts_in {s : List UInt8} {k n : Nat} {x : Nat × Nat} (h : (L s)[k]? = some x) (h1 : x.1 ≤ n) (h2 : n ≤ x.2) : starts s n = decide (n = x.1) := by
  rcases Nat.eq_or_lt_of_le h1 with e | hlt
  · subst e; rw [starts_at h, decide_eq_true rfl]
  · have h7 := (L_whole (L_valid h)).each k x h |>.2.2.2 (n - 1) (by omega) (by omega)
    rw [starts, decide_eq_false (by omega), decide_eq_false h7, decide_eq_false (by omega)]
    rfl
/-- A place is where a line begins just if its column is 0. -/
theorem column_zero {s : List UInt8} {a : Int} (h : Utf.place s a = true) : (column s a == 0) = starts s a.toNat := by
  obtain ⟨n, k, x, rfl, hx, h1, h2, _, _, _, _⟩ := Line.place_line h
  rw [Int.toNat_natCast, starts_in hx h1 h2]
  obtain ⟨rs, hd⟩ := Option.isSome_iff_exists.1 (Line.place_ok h)
  obtain ⟨i, j, hij, hj, hi1, hj1, _⟩ := Line.line_runes hd hx
  obtain ⟨m, hm, hc⟩ := (Utf.place_iff hd).1 h
  have hc' : Utf.off rs m = n := by omega
  subst hc'
  have ho := (Utf.dec_some hd).1
  have him : i ≤ m := by
    rcases Nat.lt_or_ge m i with h3 | h3
    · have := Utf.off_lt ho h3 (by omega); omega
    · exact h3
  have hmj : m ≤ j := by
    rcases Nat.lt_or_ge j m with h3 | h3
    · have := Utf.off_lt ho h3 hm; omega
    · exact h3
  rw [Line.column_runes hd hx him hmj hj hi1 hj1, Bool.eq_iff_iff, beq_iff_eq, decide_eq_true_iff]
  constructor
  · intro h3
    have : i = m := by omega
    rw [← this, hi1]
  · intro h3
    have := Utf.off_inj ho hm (show i ≤ rs.length by omega) (by rw [h3, hi1])
    omega
theorem ends_stop {s : List UInt8} {b : Int} (h : Utf.place s b = true) : (Line.stop s (of_ s b) == b) = ends s b.toNat := by
  obtain ⟨n, k, x, rfl, hx, h1, h2, _, _, _, hst⟩ := Line.place_line h
  rw [hst, Int.toNat_natCast, ends_at hx h1 h2, Bool.eq_iff_iff, beq_iff_eq, decide_eq_true_iff]
  omega
end Span
/-- A region by hand: its beginning; that at a panic the frame does not matter is asked once. -/
theorem held_start {P : Program} {id : Nat} {ops : Array Oper} {Q : Exit → Act → World → Prop} {S : World → Prop} {a : Act} {w : World} (n : Nat) (hm : P.follows .mixedOrders = true) (hn : ops.size = n) (hS : S w.drew) (hQ : ∀ c (x y : Act) w, Q (.panic c) x w → Q (.panic c) y w)
    (h : (∀ c (x y : Act) w, Q (.panic c) x w → Q (.panic c) y w) → S w.drew → wpAnyH P .any ops Q S n (Array.replicate n false) a w.drew) : (Code.region id ops true).wp P Q a w :=
  wp_region_held_drew hm hS (by rw [hn]; exact h hQ)
/-- An operation of a region by hand: what it yields; where it is told. -/
theorem held_take {P : Program} {md : Region.Mode} {ops : Array Oper} {Q : Exit → Act → World → Prop} {S : World → Prop} {i fuel d : Nat} {oi : Oper} {v : Value} {listed : Array Bool} {a : Act} {w : World} (hi : ops[i]? = some oi) (hd : oi.dst = some d)
    (hs : Region.noSelect ops = true) (hf : Region.free md ops listed i = true) (hr : (Region.ready md ops listed).contains i = true) (hQ : ∀ c (x y : Act) w, Q (.panic c) x w → Q (.panic c) y w) (hy : YieldsIf P ops S oi v a) (hS : S w)
    (h : wpAnyH P md ops Q S fuel (listed.setIfInBounds i true) (a.put (some d) v) w) : wpAnyH P md ops Q S (fuel + 1) listed a w :=
  wpAnyH_take hi hs hf hr (fun c _ w h => hQ c _ _ w h) hy hS (by rw [hd]; exact h)
set_option maxHeartbeats 1000000 in
set_option maxRecDepth 100000 in
theorem ref22_Right_from (s : ByteArray) (a b : Int) (l : Bool) (hs : s.size ≤ 1000000000000) (h1 : Utf.place s.data.toList a = false) (w : World) :
    Calls Tryz.prog 23 #[.string s, .agg #[.int .i64 a, .int .i64 b, .bool l]] w fun e w' => e = .returned (.bool false) ∧ Below w.heap.size w w' := by
  have K := RBox.new w a b l
  obtain ⟨q0, q1, q2, f0, f1, f2⟩ := K.cells
  have P1 := Lib.hid (fun w => ref_Place s a (by omega) w)
  have P2 := Lib.hid (fun w => ref_Place s b (by omega) w)
  rw [h1] at P1
  clear hs h1 P2
  go_enter Tryz.func23, Tryz.ntmps23
  go_wp2_with (first
    | (go_at_call 55; (with_reducible refine (P1.out _).mono ?_); rintro e u ⟨rfl, hb⟩; (first | replace K := K.on hb | replace K := K.ond hb); clear hb; clear q0 q1 q2 f0 f1 f2; obtain ⟨q0, q1, q2, f0, f1, f2⟩ := K.cells))
  go_ret
  exact ⟨rfl, K.below⟩
set_option maxHeartbeats 1000000 in
set_option maxRecDepth 100000 in
theorem ref22_Right_to (s : ByteArray) (a b : Int) (l : Bool) (hs : s.size ≤ 1000000000000) (h1 : Utf.place s.data.toList a = true) (h2 : Utf.place s.data.toList b = false) (w : World) :
    Calls Tryz.prog 23 #[.string s, .agg #[.int .i64 a, .int .i64 b, .bool l]] w fun e w' => e = .returned (.bool false) ∧ Below w.heap.size w w' := by
  have K := RBox.new w a b l
  obtain ⟨q0, q1, q2, f0, f1, f2⟩ := K.cells
  have P1 := Lib.hid (fun w => ref_Place s a (by omega) w)
  have P2 := Lib.hid (fun w => ref_Place s b (by omega) w)
  rw [h1] at P1
  rw [h2] at P2
  clear hs h1 h2
  go_enter Tryz.func23, Tryz.ntmps23
  go_wp2_with (first
    | (go_at_call 55; (with_reducible refine (P1.out _).mono ?_); rintro e u ⟨rfl, hb⟩; (first | replace K := K.on hb | replace K := K.ond hb); clear hb; clear q0 q1 q2 f0 f1 f2; obtain ⟨q0, q1, q2, f0, f1, f2⟩ := K.cells)
    | (go_at_call 55; (with_reducible refine (P2.out _).mono ?_); rintro e u ⟨rfl, hb⟩; (first | replace K := K.on hb | replace K := K.ond hb); clear hb; clear q0 q1 q2 f0 f1 f2; obtain ⟨q0, q1, q2, f0, f1, f2⟩ := K.cells))
  go_ret
  exact ⟨rfl, K.below⟩
set_option maxHeartbeats 1000000 in
set_option maxRecDepth 100000 in
theorem ref22_Right_low (s : ByteArray) (a b : Int) (l : Bool) (hs : s.size ≤ 1000000000000) (h1 : Utf.place s.data.toList a = true) (h2 : Utf.place s.data.toList b = true) (h0 : b < a) (w : World) :
    Calls Tryz.prog 23 #[.string s, .agg #[.int .i64 a, .int .i64 b, .bool l]] w fun e w' => e = .returned (.bool false) ∧ Below w.heap.size w w' := by
  have K := RBox.new w a b l
  obtain ⟨q0, q1, q2, f0, f1, f2⟩ := K.cells
  have P1 := Lib.hid (fun w => ref_Place s a (by omega) w)
  have P2 := Lib.hid (fun w => ref_Place s b (by omega) w)
  rw [h1] at P1
  rw [h2] at P2
  have g0 : decide (b < a) = true := decide_eq_true h0
  clear hs h1 h2 h0
  go_enter Tryz.func23, Tryz.ntmps23
  go_wp2_with (first
    | (go_at_call 55; (with_reducible refine (P1.out _).mono ?_); rintro e u ⟨rfl, hb⟩; (first | replace K := K.on hb | replace K := K.ond hb); clear hb; clear q0 q1 q2 f0 f1 f2; obtain ⟨q0, q1, q2, f0, f1, f2⟩ := K.cells)
    | (go_at_call 55; (with_reducible refine (P2.out _).mono ?_); rintro e u ⟨rfl, hb⟩; (first | replace K := K.on hb | replace K := K.ond hb); clear hb; clear q0 q1 q2 f0 f1 f2; obtain ⟨q0, q1, q2, f0, f1, f2⟩ := K.cells))
  go_ret
  exact ⟨rfl, K.below⟩
set_option maxHeartbeats 1000000 in
set_option maxRecDepth 100000 in
theorem ref22_Right_text (s : ByteArray) (a b : Int) (hs : s.size ≤ 1000000000000) (h1 : Utf.place s.data.toList a = true) (h2 : Utf.place s.data.toList b = true) (h0 : a ≤ b) (w : World) :
    Calls Tryz.prog 23 #[.string s, .agg #[.int .i64 a, .int .i64 b, .bool false]] w fun e w' => e = .returned (.bool true) ∧ Below w.heap.size w w' := by
  have K := RBox.new w a b false
  obtain ⟨q0, q1, q2, f0, f1, f2⟩ := K.cells
  have P1 := Lib.hid (fun w => ref_Place s a (by omega) w)
  have P2 := Lib.hid (fun w => ref_Place s b (by omega) w)
  rw [h1] at P1
  rw [h2] at P2
  have g0 : decide (b < a) = false := decide_eq_false (by omega)
  clear hs h1 h2 h0
  go_enter Tryz.func23, Tryz.ntmps23
  go_wp2_with (first
    | (go_at_call 55; (with_reducible refine (P1.out _).mono ?_); rintro e u ⟨rfl, hb⟩; (first | replace K := K.on hb | replace K := K.ond hb); clear hb; clear q0 q1 q2 f0 f1 f2; obtain ⟨q0, q1, q2, f0, f1, f2⟩ := K.cells)
    | (go_at_call 55; (with_reducible refine (P2.out _).mono ?_); rintro e u ⟨rfl, hb⟩; (first | replace K := K.on hb | replace K := K.ond hb); clear hb; clear q0 q1 q2 f0 f1 f2; obtain ⟨q0, q1, q2, f0, f1, f2⟩ := K.cells))
  go_ret
  exact ⟨rfl, K.below⟩
set_option maxHeartbeats 1000000 in
set_option maxRecDepth 100000 in
theorem ref22_Right_first (s : ByteArray) (a b : Int) (hs : s.size ≤ 1000000000000) (h1 : Utf.place s.data.toList a = true) (h2 : Utf.place s.data.toList b = true) (h0 : a ≤ b) (h4 : starts s.data.toList a.toNat = false) (w : World) :
    Calls Tryz.prog 23 #[.string s, .agg #[.int .i64 a, .int .i64 b, .bool true]] w fun e w' => e = .returned (.bool false) ∧ Below w.heap.size w w' := by
  have K := RBox.new w a b true
  obtain ⟨q0, q1, q2, f0, f1, f2⟩ := K.cells
  have P1 := Lib.hid (fun w => ref_Place s a (by omega) w)
  have P2 := Lib.hid (fun w => ref_Place s b (by omega) w)
  rw [h1] at P1
  rw [h2] at P2
  have g0 : decide (b < a) = false := decide_eq_false (by omega)
  have A3 := Lib.hid (fun w => ref4_Column s a hs w)
  have g3 := Span.column_zero h1
  rw [h4] at g3
  generalize Line.column s.data.toList a = c at *
  clear hs h1 h2 h0 h4
  go_enter Tryz.func23, Tryz.ntmps23
  go_wp2_with (first
    | (go_at_call 55; (with_reducible refine (P1.out _).mono ?_); rintro e u ⟨rfl, hb⟩; (first | replace K := K.on hb | replace K := K.ond hb); clear hb; clear q0 q1 q2 f0 f1 f2; obtain ⟨q0, q1, q2, f0, f1, f2⟩ := K.cells)
    | (go_at_call 55; (with_reducible refine (P2.out _).mono ?_); rintro e u ⟨rfl, hb⟩; (first | replace K := K.on hb | replace K := K.ond hb); clear hb; clear q0 q1 q2 f0 f1 f2; obtain ⟨q0, q1, q2, f0, f1, f2⟩ := K.cells)
    | fail)
  refine wp_region_noPanic ?_
  refine held_start 17 (S := fun u => u.cell? ⟨w.heap.size, 0, none⟩ = some (.int .i64 a) ∧ u.cell? ⟨w.heap.size, 1, none⟩ = some (.int .i64 b)) (by kernel_rfl) (by kernel_rfl) ⟨by assumption, by assumption⟩ (fun _ _ _ _ h => h) (fun HQ hHeld => ?_)
  refine held_take (i := 0) (d := 26) (v := .string s) rfl rfl (by kernel_rfl) (by kernel_rfl) (by kernel_rfl) HQ (Or.inl ⟨by rfl, fun w hSw => by obtain ⟨p0, p1⟩ := hSw; go_simp⟩) (by assumption) ?_
  (try simp only [Act.put]); (try simp only [List.setIfInBounds_toArray]); (try simp only [List.set_cons_succ, List.set_cons_zero])
  refine held_take (i := 1) (d := 27) (v := .pointer (some ⟨w.heap.size, 0, none⟩)) rfl rfl (by kernel_rfl) (by kernel_rfl) (by kernel_rfl) HQ (Or.inl ⟨by rfl, fun w hSw => by obtain ⟨p0, p1⟩ := hSw; go_simp⟩) (by assumption) ?_
  (try simp only [Act.put]); (try simp only [List.setIfInBounds_toArray]); (try simp only [List.set_cons_succ, List.set_cons_zero])
  refine held_take (i := 2) (d := 28) (v := .int .i64 a) rfl rfl (by kernel_rfl) (by kernel_rfl) (by kernel_rfl) HQ (Or.inl ⟨by rfl, fun w hSw => by obtain ⟨p0, p1⟩ := hSw; go_simp⟩) (by assumption) ?_
  (try simp only [Act.put]); (try simp only [List.setIfInBounds_toArray]); (try simp only [List.set_cons_succ, List.set_cons_zero])
  refine wpAnyH_ready (rs := [3]) (by kernel_rfl) (by simp) ?_
  refine AllReadyH.cons (o := _) rfl (fun Kq hKq => ?_) AllReadyH.nil
  go_simp
  (go_at_call 44; (with_reducible refine (A3.out _).mono ?_); rintro e u ⟨rfl, hb⟩; (first | replace K := K.on hb | replace K := K.ond hb); clear hb; clear q0 q1 q2 f0 f1 f2; obtain ⟨q0, q1, q2, f0, f1, f2⟩ := K.cells)
  go_wp2_with fail
  refine hKq.out _ _ ⟨by assumption, by assumption⟩ (fun hHeld => ?_)
  clear hKq Kq
  refine held_take (i := 4) (d := 30) (v := .bool false) rfl rfl (by kernel_rfl) (by kernel_rfl) (by kernel_rfl) HQ (Or.inl ⟨by rfl, fun w hSw => by obtain ⟨p0, p1⟩ := hSw; go_simp⟩) (by assumption) ?_
  (try simp only [Act.put]); (try simp only [List.setIfInBounds_toArray]); (try simp only [List.set_cons_succ, List.set_cons_zero])
  refine held_take (i := 5) (d := 31) (v := .bool false) rfl rfl (by kernel_rfl) (by kernel_rfl) (by kernel_rfl) HQ (Or.inl ⟨by rfl, fun w hSw => by obtain ⟨p0, p1⟩ := hSw; go_simp⟩) (by assumption) ?_
  (try simp only [Act.put]); (try simp only [List.setIfInBounds_toArray]); (try simp only [List.set_cons_succ, List.set_cons_zero])
  refine held_take (i := 6) (d := 32) (v := undef) rfl rfl (by kernel_rfl) (by kernel_rfl) (by kernel_rfl) HQ (Or.inr ⟨by rfl, rfl⟩) (by assumption) ?_
  (try simp only [Act.put]); (try simp only [List.setIfInBounds_toArray]); (try simp only [List.set_cons_succ, List.set_cons_zero])
  refine held_take (i := 7) (d := 33) (v := undef) rfl rfl (by kernel_rfl) (by kernel_rfl) (by kernel_rfl) HQ (Or.inr ⟨by rfl, rfl⟩) (by assumption) ?_
  (try simp only [Act.put]); (try simp only [List.setIfInBounds_toArray]); (try simp only [List.set_cons_succ, List.set_cons_zero])
  refine held_take (i := 8) (d := 34) (v := undef) rfl rfl (by kernel_rfl) (by kernel_rfl) (by kernel_rfl) HQ (Or.inr ⟨by rfl, rfl⟩) (by assumption) ?_
  (try simp only [Act.put]); (try simp only [List.setIfInBounds_toArray]); (try simp only [List.set_cons_succ, List.set_cons_zero])
  refine held_take (i := 9) (d := 35) (v := undef) rfl rfl (by kernel_rfl) (by kernel_rfl) (by kernel_rfl) HQ (Or.inr ⟨by rfl, rfl⟩) (by assumption) ?_
  (try simp only [Act.put]); (try simp only [List.setIfInBounds_toArray]); (try simp only [List.set_cons_succ, List.set_cons_zero])
  refine held_take (i := 10) (d := 36) (v := undef) rfl rfl (by kernel_rfl) (by kernel_rfl) (by kernel_rfl) HQ (Or.inr ⟨by rfl, rfl⟩) (by assumption) ?_
  (try simp only [Act.put]); (try simp only [List.setIfInBounds_toArray]); (try simp only [List.set_cons_succ, List.set_cons_zero])
  refine held_take (i := 11) (d := 37) (v := undef) rfl rfl (by kernel_rfl) (by kernel_rfl) (by kernel_rfl) HQ (Or.inr ⟨by rfl, rfl⟩) (by assumption) ?_
  (try simp only [Act.put]); (try simp only [List.setIfInBounds_toArray]); (try simp only [List.set_cons_succ, List.set_cons_zero])
  refine held_take (i := 12) (d := 38) (v := undef) rfl rfl (by kernel_rfl) (by kernel_rfl) (by kernel_rfl) HQ (Or.inr ⟨by rfl, rfl⟩) (by assumption) ?_
  (try simp only [Act.put]); (try simp only [List.setIfInBounds_toArray]); (try simp only [List.set_cons_succ, List.set_cons_zero])
  refine held_take (i := 13) (d := 39) (v := undef) rfl rfl (by kernel_rfl) (by kernel_rfl) (by kernel_rfl) HQ (Or.inr ⟨by rfl, rfl⟩) (by assumption) ?_
  (try simp only [Act.put]); (try simp only [List.setIfInBounds_toArray]); (try simp only [List.set_cons_succ, List.set_cons_zero])
  refine held_take (i := 14) (d := 40) (v := undef) rfl rfl (by kernel_rfl) (by kernel_rfl) (by kernel_rfl) HQ (Or.inr ⟨by rfl, rfl⟩) (by assumption) ?_
  (try simp only [Act.put]); (try simp only [List.setIfInBounds_toArray]); (try simp only [List.set_cons_succ, List.set_cons_zero])
  refine held_take (i := 15) (d := 41) (v := .bool false) rfl rfl (by kernel_rfl) (by kernel_rfl) (by kernel_rfl) HQ (Or.inl ⟨by rfl, fun w hSw => by obtain ⟨p0, p1⟩ := hSw; go_simp⟩) (by assumption) ?_
  (try simp only [Act.put]); (try simp only [List.setIfInBounds_toArray]); (try simp only [List.set_cons_succ, List.set_cons_zero])
  refine held_take (i := 16) (d := 4) (v := .bool false) rfl rfl (by kernel_rfl) (by kernel_rfl) (by kernel_rfl) HQ (Or.inl ⟨by rfl, fun w hSw => by obtain ⟨p0, p1⟩ := hSw; go_simp⟩) (by assumption) ?_
  (try simp only [Act.put]); (try simp only [List.setIfInBounds_toArray]); (try simp only [List.set_cons_succ, List.set_cons_zero])
  refine wpAnyH_done (by kernel_rfl) ?_ _
  refine NoPanic.normal ?_
  go_wp2
  go_ret
  exact ⟨rfl, K.below⟩
set_option maxHeartbeats 1000000 in
set_option maxRecDepth 100000 in
theorem ref22_Right_lines (s : ByteArray) (a b : Int) (hs : s.size ≤ 1000000000000) (h1 : Utf.place s.data.toList a = true) (h2 : Utf.place s.data.toList b = true) (h0 : a ≤ b) (h4 : starts s.data.toList a.toNat = true) (w : World) :
    Calls Tryz.prog 23 #[.string s, .agg #[.int .i64 a, .int .i64 b, .bool true]] w fun e w' => e = .returned (.bool (ends s.data.toList b.toNat)) ∧ Below w.heap.size w w' := by
  have K := RBox.new w a b true
  obtain ⟨q0, q1, q2, f0, f1, f2⟩ := K.cells
  have P1 := Lib.hid (fun w => ref_Place s a (by omega) w)
  have P2 := Lib.hid (fun w => ref_Place s b (by omega) w)
  rw [h1] at P1
  rw [h2] at P2
  have g0 : decide (b < a) = false := decide_eq_false (by omega)
  have A3 := Lib.hid (fun w => ref4_Column s a hs w)
  have g3 := Span.column_zero h1
  rw [h4] at g3
  generalize Line.column s.data.toList a = c at *
  have A4 := Lib.hid (fun w => ref4_Of s b hs w)
  have A5 := Lib.hid (fun w => ref4_End s (Line.of_ s.data.toList b) hs w)
  have g4 := Span.ends_stop h2
  generalize ends s.data.toList b.toNat = z at *
  generalize Line.stop s.data.toList (Line.of_ s.data.toList b) = y at *
  generalize Line.of_ s.data.toList b = j at *
  clear hs h1 h2 h0 h4
  go_enter Tryz.func23, Tryz.ntmps23
  go_wp2_with (first
    | (go_at_call 55; (with_reducible refine (P1.out _).mono ?_); rintro e u ⟨rfl, hb⟩; (first | replace K := K.on hb | replace K := K.ond hb); clear hb; clear q0 q1 q2 f0 f1 f2; obtain ⟨q0, q1, q2, f0, f1, f2⟩ := K.cells)
    | (go_at_call 55; (with_reducible refine (P2.out _).mono ?_); rintro e u ⟨rfl, hb⟩; (first | replace K := K.on hb | replace K := K.ond hb); clear hb; clear q0 q1 q2 f0 f1 f2; obtain ⟨q0, q1, q2, f0, f1, f2⟩ := K.cells)
    | fail)
  go_region_held3 (fun u => u.cell? ⟨w.heap.size, 0, none⟩ = some (.int .i64 a) ∧ u.cell? ⟨w.heap.size, 1, none⟩ = some (.int .i64 b)) (first | (with_reducible exact ⟨by assumption, by assumption⟩) | go_keep)
    (first
      | (go_at_call 44; (with_reducible refine (A3.out _).mono ?_); rintro e u ⟨rfl, hb⟩; (first | replace K := K.on hb | replace K := K.ond hb); clear hb; clear q0 q1 q2 f0 f1 f2; obtain ⟨q0, q1, q2, f0, f1, f2⟩ := K.cells)
      | (go_at_call 43; (with_reducible refine (A4.out _).mono ?_); rintro e u ⟨rfl, hb⟩; (first | replace K := K.on hb | replace K := K.ond hb); clear hb; clear q0 q1 q2 f0 f1 f2; obtain ⟨q0, q1, q2, f0, f1, f2⟩ := K.cells)
      | (go_at_call 47; (with_reducible refine (A5.out _).mono ?_); rintro e u ⟨rfl, hb⟩; (first | replace K := K.on hb | replace K := K.ond hb); clear hb; clear q0 q1 q2 f0 f1 f2; obtain ⟨q0, q1, q2, f0, f1, f2⟩ := K.cells))
  all_goals go_wp2
  all_goals go_ret
  all_goals exact ⟨rfl, K.below⟩
theorem ref22_Right (s : ByteArray) (a b : Int) (l : Bool) (hs : s.size ≤ 1000000000000) (w : World) :
    Calls Tryz.prog 23 #[.string s, .agg #[.int .i64 a, .int .i64 b, .bool l]] w fun e w' => e = .returned (.bool (Span.right s.data.toList a b l)) ∧ Below w.heap.size w w' := by
  rw [Span.right]
  cases h1 : Utf.place s.data.toList a with
  | false => rw [Bool.false_and, Bool.and_false]; exact ref22_Right_from s a b l hs h1 w
  | true =>
    cases h2 : Utf.place s.data.toList b with
    | false => rw [Bool.false_and, Bool.and_false, Bool.and_false]; exact ref22_Right_to s a b l hs h1 h2 w
    | true =>
      rcases Int.lt_or_le b a with h0 | h0
      · rw [decide_eq_false (by omega)]; exact ref22_Right_low s a b l hs h1 h2 h0 w
      rw [decide_eq_true h0]
      cases l with
      | false => exact ref22_Right_text s a b hs h1 h2 h0 w
      | true =>
        cases h4 : starts s.data.toList a.toNat with
        | false => exact ref22_Right_first s a b hs h1 h2 h0 h4 w
        | true => exact ref22_Right_lines s a b hs h1 h2 h0 h4 w
set_option maxHeartbeats 1000000 in
set_option maxRecDepth 100000 in
theorem ref22_Lines_no (s : ByteArray) (a b : Int) (l : Bool) (hs : s.size ≤ 1000000000000) (h : Span.right s.data.toList a b l = false) (w : World) :
    Calls Tryz.prog 15 #[.string s, .agg #[.int .i64 a, .int .i64 b, .bool l]] w fun e w' => e = .returned (.tuple #[.int .i64 (-1), .int .i64 (-1)]) ∧ Below w.heap.size w w' := by
  have K := RBox.new w a b l
  obtain ⟨q0, q1, q2, f0, f1, f2⟩ := K.cells
  have R1 := Lib.hid (fun w => ref22_Right s a b l hs w)
  rw [h] at R1
  clear hs h
  go_enter Tryz.func15, Tryz.ntmps15
  go_wp2_with (go_at_call 23; (with_reducible refine (R1.out _).mono ?_); rintro e u ⟨rfl, hb⟩; (first | replace K := K.on hb | replace K := K.ond hb); clear hb; clear q0 q1 q2 f0 f1 f2; obtain ⟨q0, q1, q2, f0, f1, f2⟩ := K.cells)
  go_ret2
  exact ⟨rfl, K.below⟩
set_option maxHeartbeats 1000000 in
set_option maxRecDepth 100000 in
theorem ref22_Lines_whole (s : ByteArray) (a b : Int) (hs : s.size ≤ 1000000000000) (h : Span.right s.data.toList a b true = true) (w : World) :
    Calls Tryz.prog 15 #[.string s, .agg #[.int .i64 a, .int .i64 b, .bool true]] w fun e w' => e = .returned (.tuple #[.int .i64 (Line.of_ s.data.toList a), .int .i64 (Line.of_ s.data.toList b)]) ∧ Below w.heap.size w w' := by
  have K := RBox.new w a b true
  obtain ⟨q0, q1, q2, f0, f1, f2⟩ := K.cells
  have R1 := Lib.hid (fun w => ref22_Right s a b true hs w)
  rw [h] at R1
  have A1 := Lib.hid (fun w => ref4_Of s a hs w)
  have A2 := Lib.hid (fun w => ref4_Of s b hs w)
  generalize Line.of_ s.data.toList a = x at *
  generalize Line.of_ s.data.toList b = y at *
  clear hs h
  go_enter Tryz.func15, Tryz.ntmps15
  go_wp2_with (first | (go_at_call 23; (with_reducible refine (R1.out _).mono ?_); rintro e u ⟨rfl, hb⟩; (first | replace K := K.on hb | replace K := K.ond hb); clear hb; clear q0 q1 q2 f0 f1 f2; obtain ⟨q0, q1, q2, f0, f1, f2⟩ := K.cells) | fail)
  go_region_held3 (fun u => u.cell? ⟨w.heap.size, 0, none⟩ = some (.int .i64 a) ∧ u.cell? ⟨w.heap.size, 1, none⟩ = some (.int .i64 b)) (first | (with_reducible exact ⟨by assumption, by assumption⟩) | go_keep)
    (first
      | (go_at_call 43; (with_reducible refine (A1.out _).mono ?_); rintro e u ⟨rfl, hb⟩; (first | replace K := K.on hb | replace K := K.ond hb); clear hb; clear q0 q1 q2 f0 f1 f2; obtain ⟨q0, q1, q2, f0, f1, f2⟩ := K.cells)
      | (go_at_call 43; (with_reducible refine (A2.out _).mono ?_); rintro e u ⟨rfl, hb⟩; (first | replace K := K.on hb | replace K := K.ond hb); clear hb; clear q0 q1 q2 f0 f1 f2; obtain ⟨q0, q1, q2, f0, f1, f2⟩ := K.cells))
  all_goals go_wp2
  all_goals go_ret2
  all_goals exact ⟨rfl, K.below⟩
set_option maxHeartbeats 1000000 in
set_option maxRecDepth 100000 in
theorem ref22_Lines_none (s : ByteArray) (a b : Int) (hs : s.size ≤ 1000000000000) (h : Span.right s.data.toList a b false = true) (h0 : ¬ a < b) (w : World) :
    Calls Tryz.prog 15 #[.string s, .agg #[.int .i64 a, .int .i64 b, .bool false]] w fun e w' => e = .returned (.tuple #[.int .i64 (Line.of_ s.data.toList a), .int .i64 (Line.of_ s.data.toList b)]) ∧ Below w.heap.size w w' := by
  have K := RBox.new w a b false
  obtain ⟨q0, q1, q2, f0, f1, f2⟩ := K.cells
  have R1 := Lib.hid (fun w => ref22_Right s a b false hs w)
  rw [h] at R1
  have g0 : decide (a < b) = false := decide_eq_false h0
  have A1 := Lib.hid (fun w => ref4_Of s a hs w)
  have A2 := Lib.hid (fun w => ref4_Of s b hs w)
  generalize Line.of_ s.data.toList a = x at *
  generalize Line.of_ s.data.toList b = y at *
  clear hs h h0
  go_enter Tryz.func15, Tryz.ntmps15
  go_wp2_with (first | (go_at_call 23; (with_reducible refine (R1.out _).mono ?_); rintro e u ⟨rfl, hb⟩; (first | replace K := K.on hb | replace K := K.ond hb); clear hb; clear q0 q1 q2 f0 f1 f2; obtain ⟨q0, q1, q2, f0, f1, f2⟩ := K.cells) | fail)
  go_region_held3 (fun u => u.cell? ⟨w.heap.size, 0, none⟩ = some (.int .i64 a) ∧ u.cell? ⟨w.heap.size, 1, none⟩ = some (.int .i64 b)) (first | (with_reducible exact ⟨by assumption, by assumption⟩) | go_keep)
    (first
      | (go_at_call 43; (with_reducible refine (A1.out _).mono ?_); rintro e u ⟨rfl, hb⟩; (first | replace K := K.on hb | replace K := K.ond hb); clear hb; clear q0 q1 q2 f0 f1 f2; obtain ⟨q0, q1, q2, f0, f1, f2⟩ := K.cells)
      | (go_at_call 43; (with_reducible refine (A2.out _).mono ?_); rintro e u ⟨rfl, hb⟩; (first | replace K := K.on hb | replace K := K.ond hb); clear hb; clear q0 q1 q2 f0 f1 f2; obtain ⟨q0, q1, q2, f0, f1, f2⟩ := K.cells))
  all_goals go_wp2
  all_goals go_ret2
  all_goals exact ⟨rfl, K.below⟩
set_option maxHeartbeats 1000000 in
set_option maxRecDepth 100000 in
theorem ref22_Lines_in (s : ByteArray) (a b : Int) (hs : s.size ≤ 1000000000000) (h : Span.right s.data.toList a b false = true) (h0 : a < b) (h1 : starts s.data.toList b.toNat = false) (w : World) :
    Calls Tryz.prog 15 #[.string s, .agg #[.int .i64 a, .int .i64 b, .bool false]] w fun e w' => e = .returned (.tuple #[.int .i64 (Line.of_ s.data.toList a), .int .i64 (Line.of_ s.data.toList b)]) ∧ Below w.heap.size w w' := by
  have K := RBox.new w a b false
  obtain ⟨q0, q1, q2, f0, f1, f2⟩ := K.cells
  have R1 := Lib.hid (fun w => ref22_Right s a b false hs w)
  rw [h] at R1
  have g0 : decide (a < b) = true := decide_eq_true h0
  have hp := (Span.right_to h).2.2
  have A3 := Lib.hid (fun w => ref4_Column s b hs w)
  have g3 := Span.column_zero hp
  rw [h1] at g3
  generalize Line.column s.data.toList b = c at *
  have A1 := Lib.hid (fun w => ref4_Of s a hs w)
  have A2 := Lib.hid (fun w => ref4_Of s b hs w)
  generalize Line.of_ s.data.toList a = x at *
  generalize Line.of_ s.data.toList b = y at *
  clear hs h h1 hp
  go_enter Tryz.func15, Tryz.ntmps15
  go_wp2_with (first | (go_at_call 23; (with_reducible refine (R1.out _).mono ?_); rintro e u ⟨rfl, hb⟩; (first | replace K := K.on hb | replace K := K.ond hb); clear hb; clear q0 q1 q2 f0 f1 f2; obtain ⟨q0, q1, q2, f0, f1, f2⟩ := K.cells) | fail)
  go_region_held3 (fun u => u.cell? ⟨w.heap.size, 0, none⟩ = some (.int .i64 a) ∧ u.cell? ⟨w.heap.size, 1, none⟩ = some (.int .i64 b)) (first | (with_reducible exact ⟨by assumption, by assumption⟩) | go_keep)
    (first
      | (go_at_call 43; (with_reducible refine (A1.out _).mono ?_); rintro e u ⟨rfl, hb⟩; (first | replace K := K.on hb | replace K := K.ond hb); clear hb; clear q0 q1 q2 f0 f1 f2; obtain ⟨q0, q1, q2, f0, f1, f2⟩ := K.cells)
      | (go_at_call 43; (with_reducible refine (A2.out _).mono ?_); rintro e u ⟨rfl, hb⟩; (first | replace K := K.on hb | replace K := K.ond hb); clear hb; clear q0 q1 q2 f0 f1 f2; obtain ⟨q0, q1, q2, f0, f1, f2⟩ := K.cells))
  all_goals go_wp2_with (go_at_call 44; (with_reducible refine (A3.out _).mono ?_); rintro e u ⟨rfl, hb⟩; (first | replace K := K.on hb | replace K := K.ond hb); clear hb; clear q0 q1 q2 f0 f1 f2; obtain ⟨q0, q1, q2, f0, f1, f2⟩ := K.cells)
  all_goals go_ret2
  all_goals exact ⟨rfl, K.below⟩
set_option maxHeartbeats 1000000 in
set_option maxRecDepth 100000 in
theorem ref22_Lines_edge (s : ByteArray) (a b : Int) (hs : s.size ≤ 1000000000000) (h : Span.right s.data.toList a b false = true) (h0 : a < b) (h1 : starts s.data.toList b.toNat = true) (w : World) :
    Calls Tryz.prog 15 #[.string s, .agg #[.int .i64 a, .int .i64 b, .bool false]] w fun e w' => e = .returned (.tuple #[.int .i64 (Line.of_ s.data.toList a), .int .i64 (Line.of_ s.data.toList b - 1)]) ∧ Below w.heap.size w w' := by
  have K := RBox.new w a b false
  obtain ⟨q0, q1, q2, f0, f1, f2⟩ := K.cells
  have R1 := Lib.hid (fun w => ref22_Right s a b false hs w)
  rw [h] at R1
  have g0 : decide (a < b) = true := decide_eq_true h0
  have hp := (Span.right_to h).2.2
  have A3 := Lib.hid (fun w => ref4_Column s b hs w)
  have g3 := Span.column_zero hp
  rw [h1] at g3
  generalize Line.column s.data.toList b = c at *
  have A1 := Lib.hid (fun w => ref4_Of s a hs w)
  have A2 := Lib.hid (fun w => ref4_Of s b hs w)
  have hy := Span.of_small hp
  rw [data_len] at hy
  have g5 : IntKind.i64.wrap (Line.of_ s.data.toList b - 1) = Line.of_ s.data.toList b - 1 := by rw [IntKind.wrap_i64]; omega
  have g6 : wrap64 (Line.of_ s.data.toList b - 1) = Line.of_ s.data.toList b - 1 := by unfold wrap64; omega
  generalize Line.of_ s.data.toList a = x at *
  generalize Line.of_ s.data.toList b = y at *
  clear hs h h1 hp hy
  go_enter Tryz.func15, Tryz.ntmps15
  go_wp2_with (first | (go_at_call 23; (with_reducible refine (R1.out _).mono ?_); rintro e u ⟨rfl, hb⟩; (first | replace K := K.on hb | replace K := K.ond hb); clear hb; clear q0 q1 q2 f0 f1 f2; obtain ⟨q0, q1, q2, f0, f1, f2⟩ := K.cells) | fail)
  go_region_held3 (fun u => u.cell? ⟨w.heap.size, 0, none⟩ = some (.int .i64 a) ∧ u.cell? ⟨w.heap.size, 1, none⟩ = some (.int .i64 b)) (first | (with_reducible exact ⟨by assumption, by assumption⟩) | go_keep)
    (first
      | (go_at_call 43; (with_reducible refine (A1.out _).mono ?_); rintro e u ⟨rfl, hb⟩; (first | replace K := K.on hb | replace K := K.ond hb); clear hb; clear q0 q1 q2 f0 f1 f2; obtain ⟨q0, q1, q2, f0, f1, f2⟩ := K.cells)
      | (go_at_call 43; (with_reducible refine (A2.out _).mono ?_); rintro e u ⟨rfl, hb⟩; (first | replace K := K.on hb | replace K := K.ond hb); clear hb; clear q0 q1 q2 f0 f1 f2; obtain ⟨q0, q1, q2, f0, f1, f2⟩ := K.cells))
  all_goals go_wp2_with (go_at_call 44; (with_reducible refine (A3.out _).mono ?_); rintro e u ⟨rfl, hb⟩; (first | replace K := K.on hb | replace K := K.ond hb); clear hb; clear q0 q1 q2 f0 f1 f2; obtain ⟨q0, q1, q2, f0, f1, f2⟩ := K.cells)
  all_goals go_ret2
  all_goals exact ⟨rfl, K.below⟩
theorem ref22_Lines (s : ByteArray) (a b : Int) (l : Bool) (hs : s.size ≤ 1000000000000) (w : World) :
    Calls Tryz.prog 15 #[.string s, .agg #[.int .i64 a, .int .i64 b, .bool l]] w fun e w' => e = .returned (.tuple #[.int .i64 (Span.lines s.data.toList a b l).1, .int .i64 (Span.lines s.data.toList a b l).2]) ∧ Below w.heap.size w w' := by
  unfold Span.lines
  cases h : Span.right s.data.toList a b l with
  | false => rw [if_neg (by decide)]; exact ref22_Lines_no s a b l hs h w
  | true =>
    rw [if_pos rfl]
    cases l with
    | true => rw [if_neg (by simp)]; exact ref22_Lines_whole s a b hs h w
    | false =>
      by_cases h0 : a < b
      · cases h1 : starts s.data.toList b.toNat with
        | false => rw [if_neg (by simp)]; exact ref22_Lines_in s a b hs h h0 h1 w
        | true => rw [if_pos (by simp [h0])]; exact ref22_Lines_edge s a b hs h h0 h1 w
      · rw [if_neg (by simp [h0])]; exact ref22_Lines_none s a b hs h h0 w
end Go.Proofs.YtfhljddakhigdaaGreatDoor
/-
  Lines shifted by the document.
-/
namespace Go.Proofs.YtfhljddakhigdaaGreatDoor
open Go.RowKit
open Opr Gl
namespace Opr
/-- Lines of which q are shifted, from line j on. -/
def shP (R : List (List UInt8)) (j q : Nat) (lf : Bool) : List (List UInt8) := (R.take j ++ ((R.drop j).take q).map (sh lf)) ++ R.drop (j + q)
theorem shP_head {R : List (List UInt8)} {j q : Nat} {lf : Bool} (h : j + q ≤ R.length) : (R.take j ++ ((R.drop j).take q).map (sh lf)).length = j + q := by
  rw [List.length_append, List.length_map, List.length_take, List.length_take, List.length_drop]; omega
theorem shP_zero (R : List (List UInt8)) (j : Nat) (lf : Bool) : shP R j 0 lf = R := by
  rw [shP, List.take_zero, List.map_nil, List.append_nil, Nat.add_zero, List.take_append_drop]
theorem shP_length {R : List (List UInt8)} {j q : Nat} {lf : Bool} (h : j + q ≤ R.length) : (shP R j q lf).length = R.length := by
  rw [shP, List.length_append, shP_head h, List.length_drop]; omega
theorem shP_at {R : List (List UInt8)} {j q : Nat} {lf : Bool} {x : List UInt8} (h : R[j + q]? = some x) : (shP R j q lf)[j + q]? = some x := by
  have hl := (List.getElem?_eq_some_iff.1 h).1
  rw [shP, List.getElem?_append_right (by rw [shP_head (by omega)]; exact Nat.le_refl _), shP_head (by omega), Nat.sub_self, List.getElem?_drop, Nat.add_zero, h]
theorem shP_set {R : List (List UInt8)} {j q : Nat} {lf : Bool} {x : List UInt8} (h : R[j + q]? = some x) : (shP R j q lf).set (j + q) (sh lf x) = shP R j (q + 1) lf := by
  have hl := (List.getElem?_eq_some_iff.1 h).1
  have e1 : R.drop (j + q) = x :: R.drop (j + q + 1) := by
    rw [List.drop_eq_getElem_cons hl]
    congr 1
    rw [List.getElem?_eq_getElem hl] at h
    injection h
  have e2 : (R.drop j).take (q + 1) = (R.drop j).take q ++ [x] := by rw [List.take_add_one, List.getElem?_drop, h]; rfl
  rw [shP, List.set_append_right _ _ (by rw [shP_head (by omega)]; exact Nat.le_refl _), shP_head (by omega), Nat.sub_self, e1, List.set_cons_zero, shP, e2, List.map_append, Nat.add_assoc]
  simp
theorem shP_end {R : List (List UInt8)} {j k : Nat} {lf : Bool} (h : j ≤ k) : shP R j (k + 1 - j) lf = shiftR R j k lf := by
  rw [shP, shiftR, List.append_assoc, show j + (k + 1 - j) = k + 1 by omega]
theorem set_same {R : List (List UInt8)} {i : Nat} {x : List UInt8} (h : R[i]? = some x) : R.set i x = R := by
  apply List.ext_getElem?
  intro n
  rw [List.getElem?_set]
  split
  · rename_i e; subst e
    split
    · exact h.symm
    · rename_i h2
      rw [List.getElem?_eq_none (by omega)] at h
      cases h
  · rfl
end Opr
theorem srow_some {u : World} {B : Nat} {A : Option Addr} {n c : Nat} {xs : List Value} (h : u.ownsRow B 9 1 (.slice A n c) n xs) (hn : 0 < n) : ∃ g, A = some ⟨g, 0, none⟩ := by
  rcases h.2 with ⟨_, h2⟩ | ⟨g, cap, cur, hv, _⟩
  · have := h.1; subst h2; simp at this; omega
  · injection hv with hA
    exact ⟨g, hA⟩
theorem srow_low {u : World} {B C : Nat} {v : Value} {n : Nat} {xs : List Value} (h : u.ownsRow B 9 1 v n xs) (hB : C ≤ B) : u.ownsRow C 9 1 v n xs := by
  refine ⟨h.1, ?_⟩
  rcases h.2 with h2 | ⟨g, cap, cur, hv, hb, r⟩
  · exact .inl h2
  · exact .inr ⟨g, cap, cur, hv, Nat.le_trans hB hb, r⟩
set_option maxHeartbeats 2000000 in
set_option maxRecDepth 100000 in
theorem ref23_Shift_no (s : ByteArray) (a b : Int) (l lf : Bool) (hs : s.size ≤ 500) (h : Span.right s.data.toList a b l = false) (w : World) :
    Calls Tryz.prog 6 #[.string s, .agg #[.int .i64 a, .int .i64 b, .bool l], .bool lf] w fun e w' => e = .returned (.tuple #[.string ⟨#[]⟩, .int .i64 0, .int .i64 1]) ∧ Below w.heap.size w w' := by
  have K := RBox.new w a b l
  obtain ⟨q0, q1, q2, f0, f1, f2⟩ := K.cells
  have L0 := fun w => ref22_Lines s a b l (by omega) w
  rw [lines_not h] at L0
  have L1 := Lib.hid L0
  clear L0 h hs
  go_enter Tryz.func6, Tryz.ntmps6
  go_wp2_with (first
    | (go_at_call 15; (with_reducible refine (L1.out _).mono ?_); rintro e u ⟨rfl, hb⟩; replace K := K.on hb; clear hb q0 q1 q2 f0 f1 f2; obtain ⟨q0, q1, q2, f0, f1, f2⟩ := K.cells))
  go_ret3
  exact ⟨rfl, K.below⟩
set_option maxHeartbeats 4000000 in
set_option maxRecDepth 100000 in
theorem ref23_Shift_right (s : ByteArray) (a b : Int) (l : Bool) (hs : s.size ≤ 500) {j k : Nat} {x y : Nat × Nat} (hln : Span.lines s.data.toList a b l = ((j : Int), (k : Int))) (hjk : j ≤ k) (hx : (Line.L s.data.toList)[j]? = some x) (hy : (Line.L s.data.toList)[k]? = some y) (T : List UInt8) (hT : shiftT s.data.toList j k false = T) (hTs : T.length ≤ 2 * s.size + 2) (w : World) :
    Calls Tryz.prog 6 #[.string s, .agg #[.int .i64 a, .int .i64 b, .bool l], .bool false] w fun e w' => e = .returned (.tuple #[.string (bs T), .int .i64 (Line.first T j), .int .i64 0]) ∧ Below w.heap.size w w' := by
  have K := RBox.new w a b l
  obtain ⟨q0, q1, q2, f0, f1, f2⟩ := K.cells
  have L0 := fun w => ref22_Lines s a b l (by omega) w
  rw [hln] at L0
  have L1 := Lib.hid L0
  have hv := Line.L_valid hx
  have R1 := fun w => ref23_Rows s hv (by omega) w
  have hL := Gl.L_len hv
  have hl := Line.L_length s.data.toList
  rw [data_len] at hl
  rw [← hL] at R1
  have hkl := (List.getElem?_eq_some_iff.1 hy).1
  have hfr : (fore (Ix.parts s.data.toList)).length = s.size + 1 := by rw [fore_glue (parts_ne _), glue_parts, data_len]
  have hTT : Hid (glue (shiftR (Ix.parts s.data.toList) j k false) = T) := hT
  have F1 := fun w => ref4_First (bs T) j (by rw [bs_size]; omega) w
  rw [bs_toList] at F1
  generalize (Line.L s.data.toList).length = N at *
  generalize Ix.parts s.data.toList = R at *
  have HL := Lib.hid hL
  have HF := Lib.hid hfr
  have R2 := Lib.hid R1
  have F2 := Lib.hid F1
  clear L0 hx hy hv R1 hL hfr F1 hln hT
  go_enter Tryz.func6, Tryz.ntmps6
  go_wp2_with (first
    | (go_at_call 15; (with_reducible refine (L1.out _).mono ?_); rintro e u ⟨rfl, hb⟩; replace K := K.on hb; clear hb q0 q1 q2 f0 f1 f2; obtain ⟨q0, q1, q2, f0, f1, f2⟩ := K.cells)
    | (go_at_call 16; (with_reducible refine (R2.out _).mono ?_); rintro e u ⟨⟨A, c, rfl, hO⟩, hbn⟩; have hB := K.below; replace hO := srow_low hO hB.size; replace hB := hB.trans (hbn.mono hB.size); clear hbn q0 q1 q2 f0 f1 f2 K; obtain ⟨g, rfl⟩ := srow_some hO (by omega)))
  go_loopw [12] (fun kv wr => ∃ q : Nat, kv = .int .i64 ((j + q : Nat) : Int) ∧ j + q ≤ k + 1 ∧ Hid (wr.ownsRow w.heap.size 9 1 (.slice (some ⟨g, 0, none⟩) N c) N (lrow (shP R j q false))) ∧ Below w.heap.size w wr) (fun kv _ => k + 1 - (intOf kv).toNat)
  case atStart => exact ⟨0, rfl, by omega, by show World.ownsRow _ _ _ _ _ _ _; rw [shP_zero]; exact hO, hB⟩
  case round =>
    clear hB hO
    obtain ⟨q, rfl, hq, HO, hB⟩ := hrel
    by_cases hlt : j + q ≤ k
    · obtain ⟨z, hz⟩ : ∃ z, R[j + q]? = some z := ⟨_, List.getElem?_eq_getElem (by have := HL.out; omega)⟩
      have hO := HO.out
      have c1 := hO.cellAt (j + q) (by omega)
      rw [lrow_get (shP_at hz)] at c1
      have fz := hO.frozenAt (j + q)
      have zl : z.length ≤ s.size + 1 := by have h1 := fore_next hz; have h2 := fore_most (R := R) (j + q + 1); rw [HF.out] at h2; omega
      have g8 := bs_isEmpty z
      have hset := shP_set (lf := false) hz
      have hze := shP_at (lf := false) hz
      have hZ := bs_size z
      by_cases hz0 : z = []
      · have g9 : (bs z).toList.isEmpty = true := by rw [g8, hz0]; rfl
        have HO2 : Hid (wr.ownsRow w.heap.size 9 1 (.slice (some ⟨g, 0, none⟩) N c) N (lrow (shP R j (q + 1) false))) := by
          show World.ownsRow _ _ _ _ _ _ _
          rw [← hset, sh_right, if_pos hz0, ← hz0, set_same hze]
          exact hO
        have d0 : decide (((j + q : Nat) : Int) ≤ (k : Int)) = true := decide_eq_true (by omega)
        have i0 : ((j + q : Nat) : Int) < (N : Int) := by omega
        clear hz hset hze g8 hz0
        generalize bs z = Y at *
        generalize hn : j + q = n at *
        have hn2 : j + (q + 1) = n + 1 := by omega
        go_wp2
        go_roundw
        case rel => exact ⟨q + 1, by rw [hn2]; go_num, by omega, HO2, hB⟩
        case measure => simp [intOf]; omega
      · have g9 : (bs z).toList.isEmpty = false := by rw [g8]; cases z with | nil => exact absurd rfl hz0 | cons _ _ => rfl
        have e1 : (⟨#[9]⟩ : ByteArray) ++ bs z = bs (9 :: z) := bs_append [9] z
        have z1 : ¬ 9223372036854775807 < 1 + (bs z).size := by omega
        obtain ⟨hO1, hgr1⟩ := hO.stored (j + q) (.string (bs (9 :: z)))
        have hB1 := hB.grown hgr1 hB.size (fun q hq => (hO.lt q hq).1)
        rw [lrow_set] at hO1
        have HO2 : Hid ((wr.setCell ⟨g, j + q, none⟩ (.string (bs (9 :: z)))).ownsRow w.heap.size 9 1 (.slice (some ⟨g, 0, none⟩) N c) N (lrow (shP R j (q + 1) false))) := by
          show World.ownsRow _ _ _ _ _ _ _
          rw [← hset, sh_right, if_neg hz0]
          exact hO1
        have d0 : decide (((j + q : Nat) : Int) ≤ (k : Int)) = true := decide_eq_true (by omega)
        have i0 : ((j + q : Nat) : Int) < (N : Int) := by omega
        clear hz hset hze g8 hz0 hO1 hO HO hgr1
        generalize bs (9 :: z) = Q at *
        generalize bs z = Y at *
        generalize hn : j + q = n at *
        have hn2 : j + (q + 1) = n + 1 := by omega
        go_wp2
        go_roundw
        case rel => exact ⟨q + 1, by rw [hn2]; go_num, by omega, HO2, hB1⟩
        case measure => simp [intOf]; omega
    · have hq1 : q = k + 1 - j := by omega
      have hO := HO.out
      rw [hq1, shP_end hjk] at hO
      have d0 : decide (((j + q : Nat) : Int) ≤ (k : Int)) = false := decide_eq_false (by omega)
      have hjl : (shiftR R j k false).length = N := by rw [← shP_end hjk, shP_length (by have := HL.out; omega)]; exact HL.out.symm
      have hS : Strs wr (some ⟨g, 0, none⟩) ((shiftR R j k false).map bs) := Strs.of_own (n := N) (c := c) (by rw [List.length_map, hjl]; exact hO) rfl
      have G1 := ref23_Glue (c := c) (n := N) hS (by rw [hTT.out]; omega) hjl (by omega)
      rw [hTT.out] at G1
      have G2 := Lib.hid G1
      have hTb := bs_size T
      have d1 : decide ((4096 : Int) < ((bs T).size : Int)) = false := decide_eq_false (by omega)
      clear G1 hS hO HO hjl hTT hTb
      generalize hn : j + q = n at *
      go_wp2_with (first
        | (go_at_call 17; (with_reducible refine (G2.out).mono ?_); rintro e u ⟨rfl, rfl⟩)
        | (go_at_call 18; (with_reducible refine (F2.out _).mono ?_); rintro e u ⟨rfl, hbn⟩; replace hB := hB.trans (hbn.mono hB.size); clear hbn))
      go_ret3
      exact ⟨rfl, hB⟩
set_option maxHeartbeats 4000000 in
set_option maxRecDepth 100000 in
theorem ref23_Shift_left (s : ByteArray) (a b : Int) (l : Bool) (hs : s.size ≤ 500) {j k : Nat} {x y : Nat × Nat} (hln : Span.lines s.data.toList a b l = ((j : Int), (k : Int))) (hjk : j ≤ k) (hx : (Line.L s.data.toList)[j]? = some x) (hy : (Line.L s.data.toList)[k]? = some y) (T : List UInt8) (hT : shiftT s.data.toList j k true = T) (hTs : T.length ≤ 2 * s.size + 2) (w : World) :
    Calls Tryz.prog 6 #[.string s, .agg #[.int .i64 a, .int .i64 b, .bool l], .bool true] w fun e w' => e = .returned (.tuple #[.string (bs T), .int .i64 (Line.first T j), .int .i64 0]) ∧ Below w.heap.size w w' := by
  have K := RBox.new w a b l
  obtain ⟨q0, q1, q2, f0, f1, f2⟩ := K.cells
  have L0 := fun w => ref22_Lines s a b l (by omega) w
  rw [hln] at L0
  have L1 := Lib.hid L0
  have hv := Line.L_valid hx
  have R1 := fun w => ref23_Rows s hv (by omega) w
  have hL := Gl.L_len hv
  have hl := Line.L_length s.data.toList
  rw [data_len] at hl
  rw [← hL] at R1
  have hkl := (List.getElem?_eq_some_iff.1 hy).1
  have hfr : (fore (Ix.parts s.data.toList)).length = s.size + 1 := by rw [fore_glue (parts_ne _), glue_parts, data_len]
  have hTT : Hid (glue (shiftR (Ix.parts s.data.toList) j k true) = T) := hT
  have F1 := fun w => ref4_First (bs T) j (by rw [bs_size]; omega) w
  rw [bs_toList] at F1
  generalize (Line.L s.data.toList).length = N at *
  generalize Ix.parts s.data.toList = R at *
  have HL := Lib.hid hL
  have HF := Lib.hid hfr
  have R2 := Lib.hid R1
  have F2 := Lib.hid F1
  clear L0 hx hy hv R1 hL hfr F1 hln hT
  go_enter Tryz.func6, Tryz.ntmps6
  go_wp2_with (first
    | (go_at_call 15; (with_reducible refine (L1.out _).mono ?_); rintro e u ⟨rfl, hb⟩; replace K := K.on hb; clear hb q0 q1 q2 f0 f1 f2; obtain ⟨q0, q1, q2, f0, f1, f2⟩ := K.cells)
    | (go_at_call 16; (with_reducible refine (R2.out _).mono ?_); rintro e u ⟨⟨A, c, rfl, hO⟩, hbn⟩; have hB := K.below; replace hO := srow_low hO hB.size; replace hB := hB.trans (hbn.mono hB.size); clear hbn q0 q1 q2 f0 f1 f2 K; obtain ⟨g, rfl⟩ := srow_some hO (by omega)))
  go_loopw [12] (fun kv wr => ∃ q : Nat, kv = .int .i64 ((j + q : Nat) : Int) ∧ j + q ≤ k + 1 ∧ Hid (wr.ownsRow w.heap.size 9 1 (.slice (some ⟨g, 0, none⟩) N c) N (lrow (shP R j q true))) ∧ Below w.heap.size w wr) (fun kv _ => k + 1 - (intOf kv).toNat)
  case atStart => exact ⟨0, rfl, by omega, by show World.ownsRow _ _ _ _ _ _ _; rw [shP_zero]; exact hO, hB⟩
  case round =>
    clear hB hO
    obtain ⟨q, rfl, hq, HO, hB⟩ := hrel
    by_cases hlt : j + q ≤ k
    · obtain ⟨z, hz⟩ : ∃ z, R[j + q]? = some z := ⟨_, List.getElem?_eq_getElem (by have := HL.out; omega)⟩
      have hO := HO.out
      have c1 := hO.cellAt (j + q) (by omega)
      rw [lrow_get (shP_at hz)] at c1
      have fz := hO.frozenAt (j + q)
      have zl : z.length ≤ s.size + 1 := by have h1 := fore_next hz; have h2 := fore_most (R := R) (j + q + 1); rw [HF.out] at h2; omega
      have g8 := bs_isEmpty z
      have hset := shP_set (lf := true) hz
      have hze := shP_at (lf := true) hz
      have hZ := bs_size z
      have d0 : decide (((j + q : Nat) : Int) ≤ (k : Int)) = true := decide_eq_true (by omega)
      have i0 : ((j + q : Nat) : Int) < (N : Int) := by omega
      by_cases h9 : z[0]? = some 9
      · -- a tab goes
        have g9 : (bs z).toList.isEmpty = false := by rw [g8]; cases z with | nil => simp at h9 | cons _ _ => rfl
        have hpos : 0 < (bs z).size := by rw [hZ]; exact (List.getElem?_eq_some_iff.1 h9).1
        have b0 : ∀ h : 0 < (bs z).size, (bs z)[0]'h = 9 := fun h => by
          have := byte_get (bs z) h
          rw [bs_toList, h9] at this
          injection this with this
          exact this.symm
        have k1 : ∀ h : 0 < (bs z).size, ((((bs z)[0]'h).toNat : Int) == 9) = true := fun h => by rw [b0 h]; rfl
        have e1 := extract_from (bs z) 1
        rw [bs_toList] at e1
        have i1 : (1 : Int) ≤ ((bs z).size : Int) := by omega
        obtain ⟨hO1, hgr1⟩ := hO.stored (j + q) (.string (bs (z.drop 1)))
        have hB1 := hB.grown hgr1 hB.size (fun q hq => (hO.lt q hq).1)
        rw [lrow_set] at hO1
        have HO2 : Hid ((wr.setCell ⟨g, j + q, none⟩ (.string (bs (z.drop 1)))).ownsRow w.heap.size 9 1 (.slice (some ⟨g, 0, none⟩) N c) N (lrow (shP R j (q + 1) true))) := by
          show World.ownsRow _ _ _ _ _ _ _
          rw [← hset, sh_left, ind, if_pos h9]
          exact hO1
        clear hz hset hze g8 h9 hO1 hO HO hgr1 b0 hZ
        generalize bs (z.drop 1) = Q at *
        generalize bs z = Y at *
        generalize hn : j + q = n at *
        have hn2 : j + (q + 1) = n + 1 := by omega
        go_wp2
        go_roundw
        case rel => exact ⟨q + 1, by rw [hn2]; go_num, by omega, HO2, hB1⟩
        case measure => simp [intOf]; omega
      · -- blanks go, four at most
        have HSH : Hid (shP R j (q + 1) true = (shP R j q true).set (j + q) (z.drop (ldn 4 z))) := by show _ = _; rw [← hset, sh_left, ind, if_neg h9]
        have HROW : Hid (wr.ownsRow w.heap.size 9 1 (.slice (some ⟨g, 0, none⟩) N c) N (lrow ((shP R j q true).set (j + q) (z.drop 0)))) := by show World.ownsRow _ _ _ _ _ _ _; rw [List.drop_zero, set_same hze]; exact hO
        have HPL : Hid ((shP R j q true).length = N) := by show _ = _; rw [shP_length (by have := HL.out; omega)]; exact HL.out.symm
        clear hset hze hz hO HO
        by_cases hz0 : z = []
        · have g9 : (bs z).toList.isEmpty = true := by rw [g8, hz0]; rfl
          clear hz0 h9 g8 zl hZ
          generalize bs z = Y at *
          generalize hn : j + q = n at *
          have hn2 : j + (q + 1) = n + 1 := by omega
          go_wp2_with fail
          go_loopw [13] (fun iv wi => ∃ i : Nat, iv = .int .i64 i ∧ i ≤ 4 ∧ Hid (i + ldn (4 - i) (z.drop i) = ldn 4 z) ∧ Hid (wi.ownsRow w.heap.size 9 1 (.slice (some ⟨g, 0, none⟩) N c) N (lrow ((shP R j q true).set n (z.drop i)))) ∧ Below w.heap.size w wi) (fun iv _ => 4 - (intOf iv).toNat)
          case atStart => exact ⟨0, rfl, by omega, by show _ = _; rw [List.drop_zero, Nat.sub_zero, Nat.zero_add], HROW, hB⟩
          case round =>
            clear hB HROW c1 fz
            obtain ⟨i, rfl, hi4, HI, HO3, hB⟩ := hrel
            have hO := HO3.out
            have c2 := hO.cellAt n (by omega)
            rw [lrow_get (List.getElem?_set_self (by rw [HPL.out]; omega))] at c2
            have fz := hO.frozenAt n
            have g8 := bs_isEmpty (z.drop i)
            have hZ := bs_size (z.drop i)
            by_cases hgo : i < 4 ∧ (z.drop i)[0]? = some 32
            · obtain ⟨h4, h32⟩ := hgo
              have d4 : decide ((i : Int) < 4) = true := decide_eq_true (by omega)
              have g9 : (bs (z.drop i)).toList.isEmpty = false := by rw [g8]; cases h : z.drop i with | nil => rw [h] at h32; simp at h32 | cons _ _ => rfl
              have hpos : 0 < (bs (z.drop i)).size := by rw [hZ]; exact (List.getElem?_eq_some_iff.1 h32).1
              have b0 : ∀ h : 0 < (bs (z.drop i)).size, (bs (z.drop i))[0]'h = 32 := fun h => by
                have := byte_get (bs (z.drop i)) h
                rw [bs_toList, h32] at this
                injection this with this
                exact this.symm
              have k1 : ∀ h : 0 < (bs (z.drop i)).size, ((((bs (z.drop i))[0]'h).toNat : Int) == 32) = true := fun h => by rw [b0 h]; rfl
              have e1 := extract_from (bs (z.drop i)) 1
              rw [bs_toList, List.drop_drop] at e1
              have i1 : (1 : Int) ≤ ((bs (z.drop i)).size : Int) := by omega
              obtain ⟨hO1, hgr1⟩ := hO.stored n (.string (bs (z.drop (i + 1))))
              have hB1 := hB.grown hgr1 hB.size (fun q hq => (hO.lt q hq).1)
              rw [lrow_set, List.set_set] at hO1
              have HO4 := Lib.hid hO1
              have HI2 : Hid (i + 1 + ldn (4 - (i + 1)) (z.drop (i + 1)) = ldn 4 z) := by
                show _ = _
                have := HI.out
                rw [show 4 - i = 4 - (i + 1) + 1 by omega, ldn_go h32 rfl, List.drop_drop] at this
                omega
              clear h32 g8 b0 hZ hO1 hO HO3 HI hgr1
              generalize bs (z.drop (i + 1)) = Q at *
              generalize bs (z.drop i) = Y at *
              go_wp2
              go_roundw
              case rel => exact ⟨i + 1, by go_num, by omega, HI2, HO4, hB1⟩
              case measure => simp [intOf]; omega
            · have hend : z.drop i = z.drop (ldn 4 z) := by
                have := HI.out
                rcases Nat.lt_or_ge i 4 with h4 | h4
                · cases h : (z.drop i)[0]? with
                  | none =>
                    have h5 : z.drop i = [] := by
                      cases h6 : z.drop i with
                      | nil => rfl
                      | cons _ _ => rw [h6] at h; simp at h
                    rw [h5, ldn_nil] at this
                    rw [← this, Nat.add_zero]
                  | some b =>
                    have hb : b ≠ 32 := fun e => hgo ⟨h4, by rw [h, e]⟩
                    rw [ldn_stop h hb] at this
                    rw [← this, Nat.add_zero]
                · rw [show 4 - i = 0 by omega] at this
                  have h5 : ldn 0 (z.drop i) = 0 := rfl
                  rw [h5] at this
                  rw [← this, Nat.add_zero]
              have HO2 : Hid (wr.ownsRow w.heap.size 9 1 (.slice (some ⟨g, 0, none⟩) N c) N (lrow (shP R j (q + 1) true))) := by
                show World.ownsRow _ _ _ _ _ _ _
                rw [HSH.out, ← hend]
                exact hO
              clear hO HO3 HI hend
              by_cases h4 : i < 4
              · have d4 : decide ((i : Int) < 4) = true := decide_eq_true (by omega)
                by_cases h0 : z.drop i = []
                · have g9 : (bs (z.drop i)).toList.isEmpty = true := by rw [g8, h0]; rfl
                  clear g8 h0 hgo hZ
                  generalize bs (z.drop i) = Y at *
                  go_wp2
                  go_roundw
                  case rel => exact ⟨q + 1, by rw [hn2]; go_num, by omega, HO2, hB⟩
                  case measure => simp [intOf]; omega
                · have g9 : (bs (z.drop i)).toList.isEmpty = false := by rw [g8]; cases h : z.drop i with | nil => exact absurd h h0 | cons _ _ => rfl
                  have hpos : 0 < (bs (z.drop i)).size := by rw [hZ]; exact List.length_pos_iff.2 h0
                  have k1 : ∀ h : 0 < (bs (z.drop i)).size, ((((bs (z.drop i))[0]'h).toNat : Int) == 32) = false := fun h => by
                    rw [blank_test]
                    refine decide_eq_false fun e => hgo ⟨h4, ?_⟩
                    have := byte_get (bs (z.drop i)) h
                    rw [bs_toList, e] at this
                    exact this
                  clear g8 h0 hgo hZ
                  generalize bs (z.drop i) = Y at *
                  go_wp2
                  go_roundw
                  case rel => exact ⟨q + 1, by rw [hn2]; go_num, by omega, HO2, hB⟩
                  case measure => simp [intOf]; omega
              · have d4 : decide ((i : Int) < 4) = false := decide_eq_false (by omega)
                clear g8 hgo hZ
                generalize bs (z.drop i) = Y at *
                go_wp2
                go_roundw
                case rel => exact ⟨q + 1, by rw [hn2]; go_num, by omega, HO2, hB⟩
                case measure => simp [intOf]; omega
        · have g9 : (bs z).toList.isEmpty = false := by rw [g8]; cases z with | nil => exact absurd rfl hz0 | cons _ _ => rfl
          have hpos : 0 < (bs z).size := by rw [hZ]; exact List.length_pos_iff.2 hz0
          have k0 : ∀ h : 0 < (bs z).size, ((((bs z)[0]'h).toNat : Int) == 9) = false := fun h => by
            rw [tab_byte]
            refine decide_eq_false fun e => h9 ?_
            have := byte_get (bs z) h
            rw [bs_toList, e] at this
            exact this
          clear hz0 h9 g8 zl hZ
          generalize bs z = Y at *
          generalize hn : j + q = n at *
          have hn2 : j + (q + 1) = n + 1 := by omega
          go_wp2_with fail
          go_loopw [13] (fun iv wi => ∃ i : Nat, iv = .int .i64 i ∧ i ≤ 4 ∧ Hid (i + ldn (4 - i) (z.drop i) = ldn 4 z) ∧ Hid (wi.ownsRow w.heap.size 9 1 (.slice (some ⟨g, 0, none⟩) N c) N (lrow ((shP R j q true).set n (z.drop i)))) ∧ Below w.heap.size w wi) (fun iv _ => 4 - (intOf iv).toNat)
          case atStart => exact ⟨0, rfl, by omega, by show _ = _; rw [List.drop_zero, Nat.sub_zero, Nat.zero_add], HROW, hB⟩
          case round =>
            clear hB HROW c1 fz
            obtain ⟨i, rfl, hi4, HI, HO3, hB⟩ := hrel
            have hO := HO3.out
            have c2 := hO.cellAt n (by omega)
            rw [lrow_get (List.getElem?_set_self (by rw [HPL.out]; omega))] at c2
            have fz := hO.frozenAt n
            have g8 := bs_isEmpty (z.drop i)
            have hZ := bs_size (z.drop i)
            by_cases hgo : i < 4 ∧ (z.drop i)[0]? = some 32
            · obtain ⟨h4, h32⟩ := hgo
              have d4 : decide ((i : Int) < 4) = true := decide_eq_true (by omega)
              have g9 : (bs (z.drop i)).toList.isEmpty = false := by rw [g8]; cases h : z.drop i with | nil => rw [h] at h32; simp at h32 | cons _ _ => rfl
              have hpos : 0 < (bs (z.drop i)).size := by rw [hZ]; exact (List.getElem?_eq_some_iff.1 h32).1
              have b0 : ∀ h : 0 < (bs (z.drop i)).size, (bs (z.drop i))[0]'h = 32 := fun h => by
                have := byte_get (bs (z.drop i)) h
                rw [bs_toList, h32] at this
                injection this with this
                exact this.symm
              have k1 : ∀ h : 0 < (bs (z.drop i)).size, ((((bs (z.drop i))[0]'h).toNat : Int) == 32) = true := fun h => by rw [b0 h]; rfl
              have e1 := extract_from (bs (z.drop i)) 1
              rw [bs_toList, List.drop_drop] at e1
              have i1 : (1 : Int) ≤ ((bs (z.drop i)).size : Int) := by omega
              obtain ⟨hO1, hgr1⟩ := hO.stored n (.string (bs (z.drop (i + 1))))
              have hB1 := hB.grown hgr1 hB.size (fun q hq => (hO.lt q hq).1)
              rw [lrow_set, List.set_set] at hO1
              have HO4 := Lib.hid hO1
              have HI2 : Hid (i + 1 + ldn (4 - (i + 1)) (z.drop (i + 1)) = ldn 4 z) := by
                show _ = _
                have := HI.out
                rw [show 4 - i = 4 - (i + 1) + 1 by omega, ldn_go h32 rfl, List.drop_drop] at this
                omega
              clear h32 g8 b0 hZ hO1 hO HO3 HI hgr1
              generalize bs (z.drop (i + 1)) = Q at *
              generalize bs (z.drop i) = Y at *
              go_wp2
              go_roundw
              case rel => exact ⟨i + 1, by go_num, by omega, HI2, HO4, hB1⟩
              case measure => simp [intOf]; omega
            · have hend : z.drop i = z.drop (ldn 4 z) := by
                have := HI.out
                rcases Nat.lt_or_ge i 4 with h4 | h4
                · cases h : (z.drop i)[0]? with
                  | none =>
                    have h5 : z.drop i = [] := by
                      cases h6 : z.drop i with
                      | nil => rfl
                      | cons _ _ => rw [h6] at h; simp at h
                    rw [h5, ldn_nil] at this
                    rw [← this, Nat.add_zero]
                  | some b =>
                    have hb : b ≠ 32 := fun e => hgo ⟨h4, by rw [h, e]⟩
                    rw [ldn_stop h hb] at this
                    rw [← this, Nat.add_zero]
                · rw [show 4 - i = 0 by omega] at this
                  have h5 : ldn 0 (z.drop i) = 0 := rfl
                  rw [h5] at this
                  rw [← this, Nat.add_zero]
              have HO2 : Hid (wr.ownsRow w.heap.size 9 1 (.slice (some ⟨g, 0, none⟩) N c) N (lrow (shP R j (q + 1) true))) := by
                show World.ownsRow _ _ _ _ _ _ _
                rw [HSH.out, ← hend]
                exact hO
              clear hO HO3 HI hend
              by_cases h4 : i < 4
              · have d4 : decide ((i : Int) < 4) = true := decide_eq_true (by omega)
                by_cases h0 : z.drop i = []
                · have g9 : (bs (z.drop i)).toList.isEmpty = true := by rw [g8, h0]; rfl
                  clear g8 h0 hgo hZ
                  generalize bs (z.drop i) = Y at *
                  go_wp2
                  go_roundw
                  case rel => exact ⟨q + 1, by rw [hn2]; go_num, by omega, HO2, hB⟩
                  case measure => simp [intOf]; omega
                · have g9 : (bs (z.drop i)).toList.isEmpty = false := by rw [g8]; cases h : z.drop i with | nil => exact absurd h h0 | cons _ _ => rfl
                  have hpos : 0 < (bs (z.drop i)).size := by rw [hZ]; exact List.length_pos_iff.2 h0
                  have k1 : ∀ h : 0 < (bs (z.drop i)).size, ((((bs (z.drop i))[0]'h).toNat : Int) == 32) = false := fun h => by
                    rw [blank_test]
                    refine decide_eq_false fun e => hgo ⟨h4, ?_⟩
                    have := byte_get (bs (z.drop i)) h
                    rw [bs_toList, e] at this
                    exact this
                  clear g8 h0 hgo hZ
                  generalize bs (z.drop i) = Y at *
                  go_wp2
                  go_roundw
                  case rel => exact ⟨q + 1, by rw [hn2]; go_num, by omega, HO2, hB⟩
                  case measure => simp [intOf]; omega
              · have d4 : decide ((i : Int) < 4) = false := decide_eq_false (by omega)
                clear g8 hgo hZ
                generalize bs (z.drop i) = Y at *
                go_wp2
                go_roundw
                case rel => exact ⟨q + 1, by rw [hn2]; go_num, by omega, HO2, hB⟩
                case measure => simp [intOf]; omega
    · have hq1 : q = k + 1 - j := by omega
      have hO := HO.out
      rw [hq1, shP_end hjk] at hO
      have d0 : decide (((j + q : Nat) : Int) ≤ (k : Int)) = false := decide_eq_false (by omega)
      have hjl : (shiftR R j k true).length = N := by rw [← shP_end hjk, shP_length (by have := HL.out; omega)]; exact HL.out.symm
      have hS : Strs wr (some ⟨g, 0, none⟩) ((shiftR R j k true).map bs) := Strs.of_own (n := N) (c := c) (by rw [List.length_map, hjl]; exact hO) rfl
      have G1 := ref23_Glue (c := c) (n := N) hS (by rw [hTT.out]; omega) hjl (by omega)
      rw [hTT.out] at G1
      have G2 := Lib.hid G1
      have hTb := bs_size T
      have d1 : decide ((4096 : Int) < ((bs T).size : Int)) = false := decide_eq_false (by omega)
      clear G1 hS hO HO hjl hTT hTb
      generalize hn : j + q = n at *
      go_wp2_with (first
        | (go_at_call 17; (with_reducible refine (G2.out).mono ?_); rintro e u ⟨rfl, rfl⟩)
        | (go_at_call 18; (with_reducible refine (F2.out _).mono ?_); rintro e u ⟨rfl, hbn⟩; replace hB := hB.trans (hbn.mono hB.size); clear hbn))
      go_ret3
      exact ⟨rfl, hB⟩
theorem ref23_Shift (s : ByteArray) (a b : Int) (l lf : Bool) (hs : s.size ≤ 500) (w : World) :
    Calls Tryz.prog 6 #[.string s, .agg #[.int .i64 a, .int .i64 b, .bool l], .bool lf] w fun e w' => e = .returned (Opr.val (Opr.shift s.data.toList a b l lf)) ∧ Below w.heap.size w w' := by
  rw [Opr.shift]
  cases h : Span.right s.data.toList a b l with
  | false => rw [if_neg (by decide), Opr.val_no]; exact ref23_Shift_no s a b l lf hs h w
  | true =>
    obtain ⟨j, k, x, y, hln, hjk, hx, hy⟩ := lines_in h
    rw [if_pos rfl, Opr.val_mk, hln]
    have hT := shiftT_small (s := s.data.toList) hjk lf
    rw [data_len] at hT
    cases lf with
    | false => exact ref23_Shift_right s a b l hs hln hjk hx hy _ rfl hT w
    | true => exact ref23_Shift_left s a b l hs hln hjk hx hy _ rfl hT w
end Go.Proofs.YtfhljddakhigdaaGreatDoor
