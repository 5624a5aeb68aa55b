/-
  'calamuslaw28.SubLines' answers true for every text, lines, pattern and text to be put in its place: there are as many lines as before, those that were not meant are as before, and a text is longer by what was put in, as often as it stood there. The row lists two tables of utf8 that the walk never reads.
-/
import Derived.Test.YtlfhfpjffdaomaaDoorSubLives
import Derived.Test.YtlfhfpjffdaomaaDoorCardWitness
import Derived.SevenTiedAt
namespace Go.Proofs.YtlfhfpjffdaomaaDoor
open Go.RowKit
theorem Sb.swap_room {s : List UInt8} {a b : Int} {p r : List UInt8} {all : Bool} {t : List UInt8} {f : Int} (h : Sb.swap s a b p r all = (t, f, 0)) : t.length ≤ 4096 := by
  unfold Sb.swap at h
  split at h
  · split at h
    · injection h with _ h; injection h with _ h; cases h
    split at h
    · injection h with _ h; injection h with _ h; cases h
    · injection h with h _; subst h; omega
  · injection h with _ h; injection h with _ h; cases h
set_option maxHeartbeats 4000000 in
set_option maxRecDepth 100000 in
theorem subLines_big (s : ByteArray) (a b : Int) (p r : ByteArray) (h : 500 < s.size) {w : World} (hm : MaxAt w) :
    Calls Tryd.prog 5 #[.string s, .agg #[.int .i64 a, .int .i64 b], .string p, .string r] w fun e w' => e = .returned (.bool true) ∧ Below w.heap.size w w' := by
  have LV : Hid (∀ u, MaxAt u → Calls Tryd.prog 7 #[] u fun e w' => e = .returned (.bool true) ∧ Below u.heap.size u w') := fun u hu => sub_lives hu
  have K := LBox.new w a b
  obtain ⟨q0, q1⟩ := K.cells
  replace hm := hm.below K.below
  have g0 : decide ((500 : Int) < (s.size : Int)) = true := decide_eq_true (by omega)
  go_enter Tryd.func5, Tryd.ntmps5
  go_wp2_with (first
    | (go_at_call 7; (with_reducible refine (LV.out _ hm).mono ?_); rintro e u ⟨rfl, hb⟩; replace K := K.on hb; replace hm := hm.below hb; clear hb q0 q1; obtain ⟨q0, q1⟩ := K.cells))
  go_ret
  exact ⟨rfl, K.below⟩
set_option maxHeartbeats 4000000 in
set_option maxRecDepth 100000 in
theorem subLines_long (s : ByteArray) (a b : Int) (p r : ByteArray) (h : s.size ≤ 500) (h2 : 100 < r.size) {w : World} (hm : MaxAt w) :
    Calls Tryd.prog 5 #[.string s, .agg #[.int .i64 a, .int .i64 b], .string p, .string r] w fun e w' => e = .returned (.bool true) ∧ Below w.heap.size w w' := by
  have LV : Hid (∀ u, MaxAt u → Calls Tryd.prog 7 #[] u fun e w' => e = .returned (.bool true) ∧ Below u.heap.size u w') := fun u hu => sub_lives hu
  have K := LBox.new w a b
  obtain ⟨q0, q1⟩ := K.cells
  replace hm := hm.below K.below
  have g0 : decide ((500 : Int) < (s.size : Int)) = false := decide_eq_false (by omega)
  have g1 : decide ((100 : Int) < (r.size : Int)) = true := decide_eq_true (by omega)
  go_enter Tryd.func5, Tryd.ntmps5
  go_wp2_with (first
    | (go_at_call 7; (with_reducible refine (LV.out _ hm).mono ?_); rintro e u ⟨rfl, hb⟩; replace K := K.on hb; replace hm := hm.below hb; clear hb q0 q1; obtain ⟨q0, q1⟩ := K.cells))
  go_ret
  exact ⟨rfl, K.below⟩
set_option maxHeartbeats 4000000 in
set_option maxRecDepth 100000 in
theorem subLines_arg (s : ByteArray) (a b : Int) (p r : ByteArray) (h : s.size ≤ 500) (h2 : r.size ≤ 100) (hp : p.size ≤ 140737488351232) {f : Int} (hs : Sb.swap s.data.toList a b p.data.toList r.data.toList true = ([], f, 1)) (hf : f = 0) {w : World} (hm : MaxAt w) :
    Calls Tryd.prog 5 #[.string s, .agg #[.int .i64 a, .int .i64 b], .string p, .string r] w fun e w' => e = .returned (.bool true) ∧ Below w.heap.size w w' := by
  have LV : Hid (∀ u, MaxAt u → Calls Tryd.prog 7 #[] u fun e w' => e = .returned (.bool true) ∧ Below u.heap.size u w') := fun u hu => sub_lives hu
  have K := LBox.new w a b
  obtain ⟨q0, q1⟩ := K.cells
  replace hm := hm.below K.below
  subst hf
  have g0 : decide ((500 : Int) < (s.size : Int)) = false := decide_eq_false (by omega)
  have g1 : decide ((100 : Int) < (r.size : Int)) = false := decide_eq_false (by omega)
  have C : Hid (∀ u, MaxAt u → Calls Tryd.prog 12 #[.string s, .int .i64 a, .int .i64 b, .string p] u fun e w' => e = .returned (.int .i64 (Sb.count s.data.toList a b p.data.toList : Nat)) ∧ Below u.heap.size u w') := fun u hu => sub_Count s a b p (by omega) (by omega) hu
  have S : Hid (∀ u, MaxAt u → Calls Tryd.prog 8 #[.string s, .int .i64 a, .int .i64 b, .string p, .string r, .bool true] u fun e w' => e = .returned (.tuple #[.string ⟨#[]⟩, .int .i64 0, .int .i64 1]) ∧ Below u.heap.size u w') := fun u hu => by
    have := sub_Swap s p r a b true (by omega) (by omega) (by omega) hu
    rw [hs, Sb.swapV] at this
    exact this
  generalize Sb.count s.data.toList a b p.data.toList = n at *
  clear hs h h2
  go_enter Tryd.func5, Tryd.ntmps5
  go_wp2_with (first
    | (go_at_call 12; (with_reducible refine (C.out _ hm).mono ?_); rintro e u ⟨rfl, hb⟩; replace K := K.on hb; replace hm := hm.below hb; clear hb q0 q1; obtain ⟨q0, q1⟩ := K.cells)
    | (go_at_call 8; (with_reducible refine (S.out _ hm).mono ?_); rintro e u ⟨rfl, hb⟩; replace K := K.on hb; replace hm := hm.below hb; clear hb q0 q1; obtain ⟨q0, q1⟩ := K.cells)
    | (go_at_call 7; (with_reducible refine (LV.out _ hm).mono ?_); rintro e u ⟨rfl, hb⟩; replace K := K.on hb; replace hm := hm.below hb; clear hb q0 q1; obtain ⟨q0, q1⟩ := K.cells))
  go_ret
  exact ⟨rfl, K.below⟩
set_option maxHeartbeats 4000000 in
set_option maxRecDepth 100000 in
theorem subLines_none (s : ByteArray) (a b : Int) (p r : ByteArray) (h : s.size ≤ 500) (h2 : r.size ≤ 100) (hp : p.size ≤ 140737488351232) {f : Int} (hs : Sb.swap s.data.toList a b p.data.toList r.data.toList true = ([], f, 7)) (hf : f = 0) (hn : Sb.count s.data.toList a b p.data.toList = 0) {w : World} (hm : MaxAt w) :
    Calls Tryd.prog 5 #[.string s, .agg #[.int .i64 a, .int .i64 b], .string p, .string r] w fun e w' => e = .returned (.bool true) ∧ Below w.heap.size w w' := by
  have LV : Hid (∀ u, MaxAt u → Calls Tryd.prog 7 #[] u fun e w' => e = .returned (.bool true) ∧ Below u.heap.size u w') := fun u hu => sub_lives hu
  have K := LBox.new w a b
  obtain ⟨q0, q1⟩ := K.cells
  replace hm := hm.below K.below
  subst hf
  have g0 : decide ((500 : Int) < (s.size : Int)) = false := decide_eq_false (by omega)
  have g1 : decide ((100 : Int) < (r.size : Int)) = false := decide_eq_false (by omega)
  have C : Hid (∀ u, MaxAt u → Calls Tryd.prog 12 #[.string s, .int .i64 a, .int .i64 b, .string p] u fun e w' => e = .returned (.int .i64 (Sb.count s.data.toList a b p.data.toList : Nat)) ∧ Below u.heap.size u w') := fun u hu => sub_Count s a b p (by omega) (by omega) hu
  have S : Hid (∀ u, MaxAt u → Calls Tryd.prog 8 #[.string s, .int .i64 a, .int .i64 b, .string p, .string r, .bool true] u fun e w' => e = .returned (.tuple #[.string ⟨#[]⟩, .int .i64 0, .int .i64 7]) ∧ Below u.heap.size u w') := fun u hu => by
    have := sub_Swap s p r a b true (by omega) (by omega) (by omega) hu
    rw [hs, Sb.swapV] at this
    exact this
  rw [hn] at C
  clear hs h h2 hn
  go_enter Tryd.func5, Tryd.ntmps5
  go_wp2_with (first
    | (go_at_call 12; (with_reducible refine (C.out _ hm).mono ?_); rintro e u ⟨rfl, hb⟩; replace K := K.on hb; replace hm := hm.below hb; clear hb q0 q1; obtain ⟨q0, q1⟩ := K.cells)
    | (go_at_call 8; (with_reducible refine (S.out _ hm).mono ?_); rintro e u ⟨rfl, hb⟩; replace K := K.on hb; replace hm := hm.below hb; clear hb q0 q1; obtain ⟨q0, q1⟩ := K.cells)
    | (go_at_call 7; (with_reducible refine (LV.out _ hm).mono ?_); rintro e u ⟨rfl, hb⟩; replace K := K.on hb; replace hm := hm.below hb; clear hb q0 q1; obtain ⟨q0, q1⟩ := K.cells))
  go_ret
  exact ⟨rfl, K.below⟩
set_option maxHeartbeats 4000000 in
set_option maxRecDepth 100000 in
theorem subLines_room (s : ByteArray) (a b : Int) (p r : ByteArray) (h : s.size ≤ 500) (h2 : r.size ≤ 100) (hp : p.size ≤ 140737488351232) {f : Int} (hs : Sb.swap s.data.toList a b p.data.toList r.data.toList true = ([], f, 8)) (hf : f = 0) {w : World} (hm : MaxAt w) :
    Calls Tryd.prog 5 #[.string s, .agg #[.int .i64 a, .int .i64 b], .string p, .string r] w fun e w' => e = .returned (.bool true) ∧ Below w.heap.size w w' := by
  have LV : Hid (∀ u, MaxAt u → Calls Tryd.prog 7 #[] u fun e w' => e = .returned (.bool true) ∧ Below u.heap.size u w') := fun u hu => sub_lives hu
  have K := LBox.new w a b
  obtain ⟨q0, q1⟩ := K.cells
  replace hm := hm.below K.below
  subst hf
  have g0 : decide ((500 : Int) < (s.size : Int)) = false := decide_eq_false (by omega)
  have g1 : decide ((100 : Int) < (r.size : Int)) = false := decide_eq_false (by omega)
  have C : Hid (∀ u, MaxAt u → Calls Tryd.prog 12 #[.string s, .int .i64 a, .int .i64 b, .string p] u fun e w' => e = .returned (.int .i64 (Sb.count s.data.toList a b p.data.toList : Nat)) ∧ Below u.heap.size u w') := fun u hu => sub_Count s a b p (by omega) (by omega) hu
  have S : Hid (∀ u, MaxAt u → Calls Tryd.prog 8 #[.string s, .int .i64 a, .int .i64 b, .string p, .string r, .bool true] u fun e w' => e = .returned (.tuple #[.string ⟨#[]⟩, .int .i64 0, .int .i64 8]) ∧ Below u.heap.size u w') := fun u hu => by
    have := sub_Swap s p r a b true (by omega) (by omega) (by omega) hu
    rw [hs, Sb.swapV] at this
    exact this
  generalize Sb.count s.data.toList a b p.data.toList = n at *
  clear hs h h2
  go_enter Tryd.func5, Tryd.ntmps5
  go_wp2_with (first
    | (go_at_call 12; (with_reducible refine (C.out _ hm).mono ?_); rintro e u ⟨rfl, hb⟩; replace K := K.on hb; replace hm := hm.below hb; clear hb q0 q1; obtain ⟨q0, q1⟩ := K.cells)
    | (go_at_call 8; (with_reducible refine (S.out _ hm).mono ?_); rintro e u ⟨rfl, hb⟩; replace K := K.on hb; replace hm := hm.below hb; clear hb q0 q1; obtain ⟨q0, q1⟩ := K.cells)
    | (go_at_call 7; (with_reducible refine (LV.out _ hm).mono ?_); rintro e u ⟨rfl, hb⟩; replace K := K.on hb; replace hm := hm.below hb; clear hb q0 q1; obtain ⟨q0, q1⟩ := K.cells))
  go_ret
  exact ⟨rfl, K.below⟩
set_option maxHeartbeats 4000000 in
set_option maxRecDepth 100000 in
theorem subLines_ok (s : ByteArray) (a b : Int) (p r : ByteArray) (h : s.size ≤ 500) (h2 : r.size ≤ 100) (hp : p.size ≤ 140737488351232) {T : List UInt8} {f : Int} (hs : Sb.swap s.data.toList a b p.data.toList r.data.toList true = (T, f, 0)) {w : World} (hm : MaxAt w) :
    Calls Tryd.prog 5 #[.string s, .agg #[.int .i64 a, .int .i64 b], .string p, .string r] w fun e w' => e = .returned (.bool true) ∧ Below w.heap.size w w' := by
  have LV : Hid (∀ u, MaxAt u → Calls Tryd.prog 7 #[] u fun e w' => e = .returned (.bool true) ∧ Below u.heap.size u w') := fun u hu => sub_lives hu
  have K := LBox.new w a b
  obtain ⟨q0, q1⟩ := K.cells
  replace hm := hm.below K.below
  have g0 : decide ((500 : Int) < (s.size : Int)) = false := decide_eq_false (by omega)
  have g1 : decide ((100 : Int) < (r.size : Int)) = false := decide_eq_false (by omega)
  have C : Hid (∀ u, MaxAt u → Calls Tryd.prog 12 #[.string s, .int .i64 a, .int .i64 b, .string p] u fun e w' => e = .returned (.int .i64 (Sb.count s.data.toList a b p.data.toList : Nat)) ∧ Below u.heap.size u w') := fun u hu => sub_Count s a b p (by omega) (by omega) hu
  have S : Hid (∀ u, MaxAt u → Calls Tryd.prog 8 #[.string s, .int .i64 a, .int .i64 b, .string p, .string r, .bool true] u fun e w' => e = .returned (.tuple #[.string (bs T), .int .i64 f, .int .i64 0]) ∧ Below u.heap.size u w') := fun u hu => by
    have := sub_Swap s p r a b true (by omega) (by omega) (by omega) hu
    rwa [hs] at this
  obtain ⟨i, j, rfl, rfl, F⟩ := Sb.swap_fine hs
  have hrm := Sb.swap_room hs
  have hn1 : 1 ≤ Sb.count s.data.toList (i : Int) (j : Int) p.data.toList := by rw [Sb.count_fine F]; exact F.hit
  have hln := F.len
  rw [← Sb.count_fine F, data_len, data_len, data_len] at hln
  have hcn := F.count
  obtain ⟨hno, hz1, hz2⟩ := F.place
  have HO : Hid (∀ (k : Nat) x, (Line.L s.data.toList)[k]? = some x → k < i ∨ j < k → ∃ y, (Line.L T)[k]? = some y ∧ Line.seg T y.1 y.2 = Line.seg s.data.toList x.1 x.2) := fun k x hx hk => F.other hk hx
  have c1 := fun w => line_Count (bs T) (by rw [bs_size]; omega) w
  rw [bs_toList, hcn] at c1
  have c2 := fun w => line_Count s (by omega) w
  have c3 := fun w => line_Normal (bs T) f (by rw [bs_size]; omega) w
  rw [bs_toList, hno] at c3
  have c4 := fun w => line_Of (bs T) f (by rw [bs_size]; omega) w
  rw [bs_toList] at c4
  have HS : Hid (∀ (k : Nat) x, (Line.L s.data.toList)[k]? = some x → x.1 ≤ x.2 ∧ x.2 ≤ s.size ∧ (∀ w, Calls Tryd.prog 16 #[.string s, .int .i64 k] w fun e w' => e = .returned (.int .i64 (x.1 : Nat)) ∧ Below w.heap.size w w') ∧ (∀ w, Calls Tryd.prog 17 #[.string s, .int .i64 k] w fun e w' => e = .returned (.int .i64 (x.2 : Nat)) ∧ Below w.heap.size w w')) := fun k x hx => by
    have h1 := Line.L_each hx
    rw [data_len] at h1
    refine ⟨h1.1, h1.2, fun w => ?_, fun w => ?_⟩
    · have := line_Start s k (by omega) w
      rwa [Line.start_some (by rw [Line.line_nat]; exact hx)] at this
    · have := line_End s k (by omega) w
      rwa [Line.stop_some (by rw [Line.line_nat]; exact hx)] at this
  have HT : Hid (∀ (k : Nat) x, (Line.L T)[k]? = some x → x.1 ≤ x.2 ∧ x.2 ≤ T.length ∧ (∀ w, Calls Tryd.prog 16 #[.string (bs T), .int .i64 k] w fun e w' => e = .returned (.int .i64 (x.1 : Nat)) ∧ Below w.heap.size w w') ∧ (∀ w, Calls Tryd.prog 17 #[.string (bs T), .int .i64 k] w fun e w' => e = .returned (.int .i64 (x.2 : Nat)) ∧ Below w.heap.size w w')) := fun k x hx => by
    have h1 := Line.L_each hx
    refine ⟨h1.1, h1.2, fun w => ?_, fun w => ?_⟩
    · have := line_Start (bs T) k (by rw [bs_size]; omega) w
      rw [bs_toList, Line.start_some (by rw [Line.line_nat]; exact hx)] at this
      exact this
    · have := line_End (bs T) k (by rw [bs_size]; omega) w
      rw [bs_toList, Line.stop_some (by rw [Line.line_nat]; exact hx)] at this
      exact this
  have HE : Hid (∀ x1 x2 y1 y2, Line.seg T y1 y2 = Line.seg s.data.toList x1 x2 → ∃ Z, s.extract x1 x2 = Z ∧ (bs T).extract y1 y2 = Z) := fun x1 x2 y1 y2 he => ⟨_, rfl, by rw [ext_seg, ext_seg, bs_toList, he]⟩
  obtain ⟨z, hz⟩ : ∃ z, Line.of_ T f = z := ⟨_, rfl⟩
  rw [hz] at hz1 hz2 c4
  have hML := Line.L_length s.data.toList
  rw [data_len] at hML
  obtain ⟨M, hM⟩ : ∃ M, (Line.L s.data.toList).length = M := ⟨_, rfl⟩
  rw [hM] at c1 c2 hML
  have HM := Lib.hid hM
  obtain ⟨n, hn⟩ : ∃ n, Sb.count s.data.toList (i : Int) (j : Int) p.data.toList = n := ⟨_, rfl⟩
  rw [hn] at C hn1 hln
  have hTz : (bs T).size = T.length := bs_size T
  obtain ⟨q, hq⟩ : ∃ q : Int, (n : Int) * ((r.size : Int) - (p.size : Int)) = q := ⟨_, rfl⟩
  have hq2 : (s.size : Int) + q = (T.length : Nat) := by
    rw [← hq, Int.mul_sub, ← Int.natCast_mul, ← Int.natCast_mul]
    omega
  have C1 := Lib.hid c1
  have C2 := Lib.hid c2
  have C3 := Lib.hid c3
  have C4 := Lib.hid c4
  have e1 : ((M : Int) != (M : Int)) = false := by simp
  have g2 : decide ((n : Int) < 1) = false := decide_eq_false (by omega)
  have g3 : decide ((i : Int) ≤ z) = true := decide_eq_true hz1
  have g4 : decide (z ≤ (j : Int)) = true := decide_eq_true hz2
  obtain ⟨N, hN⟩ : ∃ N, T.length = N := ⟨_, rfl⟩
  rw [hN] at hTz hq2 hrm
  have HN := Lib.hid hN
  have e2 : ((N : Int) != (N : Int)) = false := by simp
  have hqw : IntKind.i64.wrap q = q := sub_wrap (by omega) (by omega)
  have w1 : IntKind.i64.wrap ((r.size : Int) - (p.size : Int)) = (r.size : Int) - (p.size : Int) := sub_wrap (by omega) (by omega)
  have w2 : IntKind.i64.wrap ((n : Int) * ((r.size : Int) - (p.size : Int))) = q := by rw [hq]; exact hqw
  have w3 : IntKind.i64.wrap ((s.size : Int) + q) = (N : Int) := by rw [hq2]; exact sub_wrap (by omega) (by omega)
  clear F hs hcn hno hz1 hz2 c1 c2 c3 c4 hz hM hn hln hq hq2 hqw hN hn1 h2 hp
  generalize bs T = X at *
  go_enter Tryd.func5, Tryd.ntmps5
  go_wp2_with (first
    | (go_at_call 12; (with_reducible refine (C.out _ hm).mono ?_); rintro e u ⟨rfl, hb⟩; replace K := K.on hb; replace hm := hm.below hb; clear hb q0 q1; obtain ⟨q0, q1⟩ := K.cells)
    | (go_at_call 8; (with_reducible refine (S.out _ hm).mono ?_); rintro e u ⟨rfl, hb⟩; replace K := K.on hb; replace hm := hm.below hb; clear hb q0 q1; obtain ⟨q0, q1⟩ := K.cells)
    | (go_at_call 14; (with_reducible refine (C1.out _).mono ?_); rintro e u ⟨rfl, hb⟩; replace K := K.on hb; replace hm := hm.below hb; clear hb q0 q1; obtain ⟨q0, q1⟩ := K.cells)
    | (go_at_call 14; (with_reducible refine (C2.out _).mono ?_); rintro e u ⟨rfl, hb⟩; replace K := K.on hb; replace hm := hm.below hb; clear hb q0 q1; obtain ⟨q0, q1⟩ := K.cells)
    | (go_at_call 15; (with_reducible refine (C3.out _).mono ?_); rintro e u ⟨rfl, hb⟩; replace K := K.on hb; replace hm := hm.below hb; clear hb q0 q1; obtain ⟨q0, q1⟩ := K.cells))
  clear q0 q1 C S
  go_loopw [13] (fun kv wr => ∃ k : Nat, k ≤ M ∧ kv = .int .i64 k ∧ LBox w wr i j ∧ MaxAt wr) (fun kv _ => M - (intOf kv).toNat)
  case atStart => exact ⟨0, Nat.zero_le _, rfl, K, hm⟩
  case round =>
    clear K hm
    obtain ⟨k, hkM, rfl, K, hm⟩ := hrel
    obtain ⟨q0, q1⟩ := K.cells
    by_cases hlt : k < M
    · have d1 : decide ((k : Int) < (M : Int)) = true := decide_eq_true (by omega)
      have hlt2 : (k : Int) < (M : Int) := by omega
      obtain ⟨x, hx⟩ : ∃ x, (Line.L s.data.toList)[k]? = some x := ⟨_, List.getElem?_eq_getElem (by have := HM.out; omega)⟩
      rcases Nat.lt_or_ge k i with hki | hki
      · have k1 : decide ((i : Int) ≤ (k : Int)) = false := decide_eq_false (by omega)
        have k2 : decide (i ≤ k) = false := decide_eq_false (by omega)
        have k3 : ¬ i ≤ k := by omega
        obtain ⟨y, hy, hse⟩ := HO.out k x hx (.inl hki)
        obtain ⟨x1, x2, x3, x4⟩ := HS.out k x hx
        obtain ⟨y1, y2, y3, y4⟩ := HT.out k y hy
        obtain ⟨Z, z1, z2⟩ := HE.out x.1 x.2 y.1 y.2 hse
        rw [HN.out] at y2
        have X3 := Lib.hid x3
        have X4 := Lib.hid x4
        have Y3 := Lib.hid y3
        have Y4 := Lib.hid y4
        have zz : (Z.toList != Z.toList) = false := by simp
        have zy : (Z.toList == Z.toList) = true := by simp
        clear hx hy hse x3 x4 y3 y4
        generalize x.1 = xa at *
        generalize x.2 = xb at *
        generalize y.1 = ya at *
        generalize y.2 = yb at *
        have m1 : decide ((xa : Int) < 0) = false := decide_eq_false (by omega)
        have m2 : decide ((ya : Int) < 0) = false := decide_eq_false (by omega)
        have m3 : decide ((xb : Int) < (xa : Int)) = false := decide_eq_false (by omega)
        have m4 : decide ((yb : Int) < (ya : Int)) = false := decide_eq_false (by omega)
        have m5 : decide (xb < xa) = false := decide_eq_false (by omega)
        have m6 : decide (yb < ya) = false := decide_eq_false (by omega)
        have m7 : (xa : Int) ≤ (xb : Int) := by omega
        have m8 : (xb : Int) ≤ (s.size : Int) := by omega
        have m9 : (ya : Int) ≤ (yb : Int) := by omega
        have m10 : (yb : Int) ≤ (X.size : Int) := by omega
        go_wp2_with (first
          | (go_at_call 14; (with_reducible refine (C2.out _).mono ?_); rintro e u ⟨rfl, hb⟩; replace K := K.on hb; replace hm := hm.below hb; clear hb q0 q1; obtain ⟨q0, q1⟩ := K.cells)
          | (go_at_call 16; (with_reducible refine (X3.out _).mono ?_); rintro e u ⟨rfl, hb⟩; replace K := K.on hb; replace hm := hm.below hb; clear hb q0 q1; obtain ⟨q0, q1⟩ := K.cells)
          | (go_at_call 17; (with_reducible refine (X4.out _).mono ?_); rintro e u ⟨rfl, hb⟩; replace K := K.on hb; replace hm := hm.below hb; clear hb q0 q1; obtain ⟨q0, q1⟩ := K.cells)
          | (go_at_call 16; (with_reducible refine (Y3.out _).mono ?_); rintro e u ⟨rfl, hb⟩; replace K := K.on hb; replace hm := hm.below hb; clear hb q0 q1; obtain ⟨q0, q1⟩ := K.cells)
          | (go_at_call 17; (with_reducible refine (Y4.out _).mono ?_); rintro e u ⟨rfl, hb⟩; replace K := K.on hb; replace hm := hm.below hb; clear hb q0 q1; obtain ⟨q0, q1⟩ := K.cells))
        go_big_quiet (fail)
        have K2 : LBox w (u.drewN nq) i j := K.on (below_gb (gb_drewN u nq none))
        have hm2 : MaxAt (u.drewN nq) := hm.below (below_gb (gb_drewN u nq none))
        go_wp2
        go_roundw
        case rel => exact ⟨k + 1, by omega, by go_num, K2, hm2⟩
        case measure => simp [intOf]; omega
      · have k1 : decide ((i : Int) ≤ (k : Int)) = true := decide_eq_true (by omega)
        have k2 : decide (i ≤ k) = true := decide_eq_true (by omega)
        rcases Nat.lt_or_ge j k with hkj | hkj
        · have k4 : decide ((k : Int) ≤ (j : Int)) = false := decide_eq_false (by omega)
          have k5 : decide (k ≤ j) = false := decide_eq_false (by omega)
          have k6 : ¬ k ≤ j := by omega
          obtain ⟨y, hy, hse⟩ := HO.out k x hx (.inr hkj)
          obtain ⟨x1, x2, x3, x4⟩ := HS.out k x hx
          obtain ⟨y1, y2, y3, y4⟩ := HT.out k y hy
          obtain ⟨Z, z1, z2⟩ := HE.out x.1 x.2 y.1 y.2 hse
          rw [HN.out] at y2
          have X3 := Lib.hid x3
          have X4 := Lib.hid x4
          have Y3 := Lib.hid y3
          have Y4 := Lib.hid y4
          have zz : (Z.toList != Z.toList) = false := by simp
          have zy : (Z.toList == Z.toList) = true := by simp
          clear hx hy hse x3 x4 y3 y4
          generalize x.1 = xa at *
          generalize x.2 = xb at *
          generalize y.1 = ya at *
          generalize y.2 = yb at *
          have m1 : decide ((xa : Int) < 0) = false := decide_eq_false (by omega)
          have m2 : decide ((ya : Int) < 0) = false := decide_eq_false (by omega)
          have m3 : decide ((xb : Int) < (xa : Int)) = false := decide_eq_false (by omega)
          have m4 : decide ((yb : Int) < (ya : Int)) = false := decide_eq_false (by omega)
          have m5 : decide (xb < xa) = false := decide_eq_false (by omega)
          have m6 : decide (yb < ya) = false := decide_eq_false (by omega)
          have m7 : (xa : Int) ≤ (xb : Int) := by omega
          have m8 : (xb : Int) ≤ (s.size : Int) := by omega
          have m9 : (ya : Int) ≤ (yb : Int) := by omega
          have m10 : (yb : Int) ≤ (X.size : Int) := by omega
          go_wp2_with (first
          | (go_at_call 14; (with_reducible refine (C2.out _).mono ?_); rintro e u ⟨rfl, hb⟩; replace K := K.on hb; replace hm := hm.below hb; clear hb q0 q1; obtain ⟨q0, q1⟩ := K.cells)
          | (go_at_call 16; (with_reducible refine (X3.out _).mono ?_); rintro e u ⟨rfl, hb⟩; replace K := K.on hb; replace hm := hm.below hb; clear hb q0 q1; obtain ⟨q0, q1⟩ := K.cells)
          | (go_at_call 17; (with_reducible refine (X4.out _).mono ?_); rintro e u ⟨rfl, hb⟩; replace K := K.on hb; replace hm := hm.below hb; clear hb q0 q1; obtain ⟨q0, q1⟩ := K.cells)
          | (go_at_call 16; (with_reducible refine (Y3.out _).mono ?_); rintro e u ⟨rfl, hb⟩; replace K := K.on hb; replace hm := hm.below hb; clear hb q0 q1; obtain ⟨q0, q1⟩ := K.cells)
          | (go_at_call 17; (with_reducible refine (Y4.out _).mono ?_); rintro e u ⟨rfl, hb⟩; replace K := K.on hb; replace hm := hm.below hb; clear hb q0 q1; obtain ⟨q0, q1⟩ := K.cells))
          go_big_quiet (fail)
          have K2 : LBox w (u.drewN nq) i j := K.on (below_gb (gb_drewN u nq none))
          have hm2 : MaxAt (u.drewN nq) := hm.below (below_gb (gb_drewN u nq none))
          go_wp2
          go_roundw
          case rel => exact ⟨k + 1, by omega, by go_num, K2, hm2⟩
          case measure => simp [intOf]; omega
        · have k4 : decide ((k : Int) ≤ (j : Int)) = true := decide_eq_true (by omega)
          have k5 : decide (k ≤ j) = true := decide_eq_true (by omega)
          clear hx
          go_wp2_with (first
            | (go_at_call 14; (with_reducible refine (C2.out _).mono ?_); rintro e u ⟨rfl, hb⟩; replace K := K.on hb; replace hm := hm.below hb; clear hb q0 q1; obtain ⟨q0, q1⟩ := K.cells))
          go_roundw
          case rel => exact ⟨k + 1, by omega, by go_num, K, hm⟩
          case measure => simp [intOf]; omega
    · obtain rfl : k = M := by omega
      have d1 : decide ((k : Int) < (k : Int)) = false := decide_eq_false (by omega)
      go_wp2_with (first
        | (go_at_call 14; (with_reducible refine (C2.out _).mono ?_); rintro e u ⟨rfl, hb⟩; replace K := K.on hb; replace hm := hm.below hb; clear hb q0 q1; obtain ⟨q0, q1⟩ := K.cells)
        | (go_at_call 18; (with_reducible refine (C4.out _).mono ?_); rintro e u ⟨rfl, hb⟩; replace K := K.on hb; replace hm := hm.below hb; clear hb q0 q1; obtain ⟨q0, q1⟩ := K.cells)
        | (go_at_call 7; (with_reducible refine (LV.out _ hm).mono ?_); rintro e u ⟨rfl, hb⟩; replace K := K.on hb; replace hm := hm.below hb; clear hb q0 q1; obtain ⟨q0, q1⟩ := K.cells))
      go_ret
      exact ⟨rfl, K.below⟩
theorem subLines_walk (s : ByteArray) (a b : Int) (p r : ByteArray) (hp : p.size ≤ 140737488351232) {w : World} (hm : MaxAt w) :
    Calls Tryd.prog 5 #[.string s, .agg #[.int .i64 a, .int .i64 b], .string p, .string r] w fun e w' => e = .returned (.bool true) ∧ Below w.heap.size w w' := by
  by_cases h : 500 < s.size
  · exact subLines_big s a b p r h hm
  by_cases h2 : 100 < r.size
  · exact subLines_long s a b p r (by omega) h2 hm
  obtain ⟨T, f, x, hs⟩ : ∃ T f x, Sb.swap s.data.toList a b p.data.toList r.data.toList true = (T, f, x) := ⟨_, _, _, rfl⟩
  by_cases hx : x = 0
  · subst hx
    exact subLines_ok s a b p r (by omega) (by omega) hp hs hm
  · obtain ⟨rfl, hf, hx1⟩ := Sb.swap_err hs hx
    rcases hx1 with rfl | ⟨rfl, _⟩ | ⟨rfl, _⟩
    · exact subLines_arg s a b p r (by omega) (by omega) hp hs hf hm
    · exact subLines_none s a b p r (by omega) (by omega) hp hs hf (Sb.swap_none hs) hm
    · exact subLines_room s a b p r (by omega) (by omega) hp hs hf hm
section
open Go.ChangeShapes Go.WideShapes Go.ChangeAt
open Go.ChangeMaps (open_string)
set_option maxRecDepth 100000 in
theorem subLines_contract (H : Type) (enc : TypeId × Value → H) (W : World) (base : Nat) (args : Array Value) (ds gs : List (DataW H)) (before : List MemPlace)
    (hval : ∀ (j : Nat) t v, Tryd.f5.params[j]? = some t → args[j]? = some v → Value.okWide Tryd.prog W .any base t v)
    (hW : DataW.Whole enc Tryd.prog Tryd.f5.params.toList Rows.subLinesSpec.vars false W args.toList ds gs before)
    (hsz : (DataW.weightsEach Tryd.prog (Tryd.f5.params.toList ++ Rows.subLinesSpec.plain.varTypes Tryd.prog) (ds ++ gs)).all (· ≤ reachBytes) = true)
    (hsh : W.ShapedOpen Tryd.prog) :
    Calls Tryd.prog 5 args W fun e W' => ∃ v, e = .returned v ∧ Rows.subLinesSpec.post enc Tryd.prog Tryd.f5 false true false false W args v W' := by
  have hW' := hW
  obtain ⟨p, q, hA0, hV, rfl, hfz, hnd⟩ := hW
  have hA : DataW.TrodAll enc Tryd.prog W 0 (fun _ => true) true Tryd.f5.params.toList args.toList ds p := hA0
  rw [Tryd.params5] at hA hval hsz
  obtain ⟨v0, vs0, d0, ds0, p0, q0, hargs, rfl, rfl, h0, r0⟩ := trodAll_cons hA
  obtain ⟨v1, vs1, d1, ds1, p1, q1, rfl, rfl, rfl, h1, r1⟩ := trodAll_cons r0
  obtain ⟨v2, vs2, d2, ds2, p2, q2, rfl, rfl, rfl, h2, r2⟩ := trodAll_cons r1
  obtain ⟨v3, vs3, d3, ds3, p3, q3, rfl, rfl, rfl, h3, r3⟩ := trodAll_cons r2
  obtain ⟨rfl, rfl, rfl⟩ := trodAll_nil r3
  obtain rfl : args = #[v0, v1, v2, v3] := by cases args; simp_all
  obtain ⟨rfl, rfl⟩ := trodVars_none hV
  obtain ⟨s0, rfl, rfl, rfl, hmax0⟩ := open_string Tryd.underlying9 (hval 0 9 v0 rfl rfl) h0
  have hs0 : s0.size ≤ 140737488351232 := by rw [← data_len]; exact sized_string hsz (j := 0) (t := 9) rfl rfl
  obtain ⟨la1, lb1, rfl⟩ := open_lines28 (hval 1 23 v1 rfl rfl) h1
  obtain ⟨s2, rfl, rfl, rfl, hmax2⟩ := open_string Tryd.underlying9 (hval 2 9 v2 rfl rfl) h2
  have hs2 : s2.size ≤ 140737488351232 := by rw [← data_len]; exact sized_string hsz (j := 2) (t := 9) rfl rfl
  obtain ⟨s3, rfl, rfl, rfl, hmax3⟩ := open_string Tryd.underlying9 (hval 3 9 v3 rfl rfl) h3
  have hs3 : s3.size ≤ 140737488351232 := by rw [← data_len]; exact sized_string hsz (j := 3) (t := 9) rfl rfl
  refine (subLines_walk s0 la1 lb1 s2 s3 hs2 (Tryd.laysM143.s1_3 W hsh)).mono fun e W' ⟨he, hb⟩ => ?_
  subst he
  exact ⟨_, rfl, law_post rfl rfl (by rw [Tryd.params5]; decide +kernel) ⟨rfl, rfl, rfl⟩ hW' hb⟩
theorem subLines_reads (os : Os) {H : Type} (enc : TypeId × Value → H) : ∃ places, DataW.whole enc Tryd.prog ((World.laidAll Tryd.prog os Rows.subLinesRow.laid).forCall (fun _ _ => 0) ⟨#[], #[.string .empty, .agg #[.int .i64 0, .int .i64 0], .string .empty, .string .empty], []⟩).memory Tryd.f5.params.toList Rows.subLinesSpec.vars false #[.string .empty, .agg #[.int .i64 0, .int .i64 0], .string .empty, .string .empty].toList 8 = some ([.lit (.string []), .agg [.lit (.int .i64 0), .lit (.int .i64 0)], .lit (.string []), .lit (.string [])], [], places) :=
  ⟨[], by kernel_rfl⟩
set_option maxRecDepth 100000 in
theorem subLines_lifted (os : Os) (started : os.Started) (H : Type) (enc : TypeId × Value → H) (F : Stop.Interp) :
    ReturnsInHanded {} Tryd.checked os 5 .any ((OpenSpec.ofChange Rows.subLinesSpec).preRow enc Tryd.prog Tryd.f5 Rows.subLinesRow.domain false Rows.subLinesRow.laid) (((OpenSpec.ofChange Rows.subLinesSpec).at F).post enc Tryd.prog Tryd.f5 false true false false) := by
  obtain ⟨places, hx⟩ := subLines_reads os enc
  refine returnsInHanded_of_row (C := Tryd.checked) (s := OpenSpec.ofChange Rows.subLinesSpec) own_knob started (by kernel_rfl) Tryd.func5
    (witness_row_laid (enc := enc) (C := Tryd.checked) false (World.laidAll Tryd.prog os Rows.subLinesRow.laid) #[.string .empty, .agg #[.int .i64 0, .int .i64 0], .string .empty, .string .empty] (World.laidAll_os _ _ _) (World.shaped_of_ZipB (by kernel_rfl) (by kernel_rfl)) (by kernel_rfl)
      (OpenSpec.preRow_of_cond 8 hx (by kernel_rfl) (fun k hk => by cases hk) (by kernel_rfl) (by rw [MakeChecks.laidMetH_plain _ _ _ (by kernel_rfl)]; exact laidMet_laidAll _ (by kernel_rfl) (by kernel_rfl)))) ?_
  intro W base args ds gs before hval hW _ _ hsz _ hsh _
  exact subLines_contract H enc W base args ds gs before hval hW hsz hsh
theorem subLines_row : Rows.SubLinesSaid :=
  OpenClaim.holds_of_cond 5 Tryd.f5 rfl rfl rfl rfl rfl rfl rfl ⟨rfl, rfl, rfl, rfl, rfl⟩ rfl rfl rfl rfl rfl (by kernel_rfl) Tryd.func5 (by kernel_rfl)
    (of_decide_eq_true (by kernel_rfl)) (by unfold Func.isWrapper; first | (rw [if_pos (by decide +kernel)]; kernel_rfl) | (rw [if_neg (by decide +kernel)]; exact ⟨rfl, rfl⟩))
    (fun os started H enc _ F => by rw [OpenClaim.pre_eq_preRow]; exact subLines_lifted os started H enc F)
theorem subLines_holds : Rows.SubLinesCardSaid :=
  Claim7.holds_tied_plain_at .later [] _ _ _ _ subLines_row (fun _ h => by cases h) (by kernel_rfl) (fun _ h => by cases h) subLines_row_tie rfl ⟨rfl, rfl⟩ (by kernel_rfl) rfl
    (fun f fn hf hfn => by
      obtain rfl : f = 5 := Option.some.inj ((show Tryd.prog.funcNamed "calamus/calamuslaw28.SubLines" = some 5 by kernel_rfl).symm.trans hf) |>.symm
      obtain rfl : fn = Tryd.f5 := (Option.some.inj (Tryd.func5.symm.trans hfn)).symm
      exact ⟨by kernel_rfl, fun j t ht => by
        rw [Tryd.params5] at ht
        have hm := Array.mem_of_getElem? ht
        have hall : (#[9, 23, 9, 9].toList.all fun u => !Tryd.prog.wantsStandIn u) = true := by kernel_rfl
        exact (show Tryd.prog.wantsStandIn t = false by simpa using List.all_eq_true.1 hall t (by simpa using hm))⟩)
    (by kernel_rfl)
end
end Go.Proofs.YtlfhfpjffdaomaaDoor
