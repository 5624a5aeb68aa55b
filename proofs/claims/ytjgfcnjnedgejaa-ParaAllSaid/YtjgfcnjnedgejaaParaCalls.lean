/-
  What package para tells: Go, key by key; Block.
-/
import Derived.Test.YtjgfcnjnedgejaaParaCollect
namespace Go.Proofs.Ytjgfcnjnedgejaa
open Go.RowKit Go.Shelf
namespace Para
theorem key_test (k : ByteArray) (m : UInt8) : (k.toList == [m]) = decide (k.data.toList = [m]) := by
  have e : k.toList = k.data.toList := bs_tl k.data.toList
  rw [e, Bool.eq_iff_iff]
  simp
/-- The answer that leads to v. -/
def res (v : Int) : Value := if v < 0 then .tuple #[.int .i64 0, .bool false] else .tuple #[.int .i64 v, .bool true]
theorem res_no {v : Int} (h : v < 0) : res v = .tuple #[.int .i64 0, .bool false] := if_pos h
theorem res_at {v : Int} (h : 0 ≤ v) : res v = .tuple #[.int .i64 v, .bool true] := if_neg (by omega)
theorem goV_out {s : List UInt8} {p : Int} {key : List UInt8} {n : Int} (h : Utf.place s p = false) : goV s p key n = -1 := by rw [goV, h]; rfl
theorem goV_none {s : List UInt8} {p : Int} {key : List UInt8} {n : Int} (h : way key = none) : goV s p key n = -1 := by
  rw [goV]; split
  · rw [h]
  · rfl
theorem goV_edge {s : List UInt8} {p : Nat} {key : List UInt8} {n : Int} {back : Bool} (hk : way key = some back) (h : p = edge back s) : goV s p key n = -1 := by
  rw [goV]; split
  · rw [hk]; simp [h]
  · rfl
theorem goV_at {s : List UInt8} {p : Nat} {key : List UInt8} {n : Int} {back : Bool} (hp : Utf.place s p = true) (hk : way key = some back) (h : p ≠ edge back s) : goV s p key n = (goN back s p (max n 1).toNat : Nat) := by
  rw [goV, if_pos hp, hk]
  have : ¬ (p : Int) = (edge back s : Nat) := by omega
  simp [this]
theorem res_goV {s : List UInt8} {p : Nat} {key : List UInt8} {n : Int} {back : Bool} (hp : Utf.place s p = true) (hk : way key = some back) : res (goV s p key n) = resN back s p (max n 1).toNat := by
  rw [resN]
  by_cases h : p = edge back s
  · rw [if_pos h, goV_edge hk h]; rfl
  · rw [if_neg h, goV_at hp hk h]; exact res_at (by omega)
/-- What Block answers. -/
def blkT (s : List UInt8) (p : Int) (two : Bool) : Value :=
  if Utf.place s p = true then .tuple #[.int .i64 ((blockV (all s) (Line.of_ s p).toNat two).1 : Nat), .int .i64 ((blockV (all s) (Line.of_ s p).toNat two).2 : Nat)] else .tuple #[.int .i64 (-1), .int .i64 (-1)]
/-- The ways of Block: the blocks from the ath to the zth. -/
theorem blockV_one {B : List Bl} {k i : Nat} {b : Bl} (hi : (B.findIdx? fun b => decide (k ≤ b.l)) = some i) (hb : B[i]? = some b) : blockV B k false = (b.f, b.l) := by
  rw [blockV, hi]; simp only [hb]; rfl
theorem blockV_next {B : List Bl} {k i : Nat} {b c : Bl} (hi : (B.findIdx? fun b => decide (k ≤ b.l)) = some i) (hb : B[i]? = some b) (hc : B[i + 1]? = some c) : blockV B k true = (b.f, c.l) := by
  rw [blockV, hi]; simp only [hb, hc]; rfl
theorem blockV_prev {B : List Bl} {k i : Nat} {b c : Bl} (hi : (B.findIdx? fun b => decide (k ≤ b.l)) = some (i + 1)) (hb : B[i + 1]? = some b) (hn : B[i + 1 + 1]? = none) (hc : B[i]? = some c) : blockV B k true = (c.f, b.l) := by
  rw [blockV, hi]; simp only [hb, hn, Nat.add_sub_cancel, hc]; rfl
theorem blockV_only {B : List Bl} {k : Nat} {b : Bl} (hi : (B.findIdx? fun b => decide (k ≤ b.l)) = some 0) (hb : B[0]? = some b) (hn : B[0 + 1]? = none) : blockV B k true = (b.f, b.l) := by
  rw [blockV, hi]; simp only [hb, hn]; rfl
end Para
set_option maxHeartbeats 1000000 in
set_option maxRecDepth 100000 in
theorem para_Go (s : ByteArray) (p : Int) (key : ByteArray) (n : Int) (hs : s.size ≤ 1000000000000) (hn : n ≤ 1000000) (w : World) :
    Calls Try.prog 8 #[.string s, .int .i64 p, .string key, .int .i64 n] w fun e w' => e = .returned (Para.res (Para.goV s.data.toList p key.data.toList n)) ∧ Below w.heap.size w w' := by
  have hl := data_len s
  have c1 := Lib.hid (fun w => utf_Place s p (by omega) w)
  cases hp : Utf.place s.data.toList p with
  | false =>
    rw [hp] at c1
    have H : Hid (Para.res (Para.goV s.data.toList p key.data.toList n) = .tuple #[.int .i64 0, .bool false]) := by show _ = _; rw [Para.goV_out hp]; rfl
    clear hp hl
    go_enter Try.func8, Try.ntmps8
    go_wp2_with (go_at_call 12; refine (c1.out _).mono ?_; rintro e w1 ⟨rfl, rfl⟩)
    go_ret2
    exact ⟨by rw [H.out]; rfl, Below.refl _ _⟩
  | true =>
    rw [hp] at c1
    obtain ⟨q, rfl, hq⟩ := Line.place_nat hp
    have hv := Line.place_ok hp
    by_cases h125 : key.data.toList = [125]
    · have g125 := (Para.key_test key 125).trans (decide_eq_true h125)
      have H : Hid (Para.res (Para.goV s.data.toList q key.data.toList n) = Para.resN false s.data.toList q (max n 1).toNat) := Para.res_goV hp (by rw [h125]; rfl)
      have CO := Lib.hid (fun w => para_on s q (max n 1).toNat hs hv (by omega) (by omega) w)
      have hm : ((max n 1).toNat : Int) = max n 1 := by omega
      rw [hm] at CO
      clear hp hl h125 hv hm hq
      by_cases he : q = Para.edge false s.data.toList
      · rw [Para.resN, if_pos he] at CO H
        clear he
        generalize hqe : max n 1 = m at *
        go_enter Try.func8, Try.ntmps8
        go_wp2_with (first | (go_at_call 12; refine (c1.out _).mono ?_; rintro e w1 ⟨rfl, rfl⟩) | (go_at_call 17; refine (CO.out _).mono ?_; rintro e w1 ⟨rfl, hb⟩))
        go_ret2
        exact ⟨by rw [H.out]; rfl, hb⟩
      · rw [Para.resN, if_neg he] at CO H
        clear he
        generalize Para.goN false s.data.toList q (max n 1).toNat = z at *
        generalize hqe : max n 1 = m at *
        go_enter Try.func8, Try.ntmps8
        go_wp2_with (first | (go_at_call 12; refine (c1.out _).mono ?_; rintro e w1 ⟨rfl, rfl⟩) | (go_at_call 17; refine (CO.out _).mono ?_; rintro e w1 ⟨rfl, hb⟩))
        go_ret2
        exact ⟨by rw [H.out]; rfl, hb⟩
    · have g125 := (Para.key_test key 125).trans (decide_eq_false h125)
      by_cases h123 : key.data.toList = [123]
      · have g123 := (Para.key_test key 123).trans (decide_eq_true h123)
        have H : Hid (Para.res (Para.goV s.data.toList q key.data.toList n) = Para.resN true s.data.toList q (max n 1).toNat) := Para.res_goV hp (by rw [h123]; rfl)
        have CO := Lib.hid (fun w => para_back s q (max n 1).toNat hs hv (by omega) (by omega) w)
        have hm : ((max n 1).toNat : Int) = max n 1 := by omega
        rw [hm] at CO
        clear hp hl h125 h123 hv hm hq
        by_cases he : q = Para.edge true s.data.toList
        · rw [Para.resN, if_pos he] at CO H
          clear he
          generalize hqe : max n 1 = m at *
          go_enter Try.func8, Try.ntmps8
          go_wp2_with (first | (go_at_call 12; refine (c1.out _).mono ?_; rintro e w1 ⟨rfl, rfl⟩) | (go_at_call 18; refine (CO.out _).mono ?_; rintro e w1 ⟨rfl, hb⟩))
          go_ret2
          exact ⟨by rw [H.out]; rfl, hb⟩
        · rw [Para.resN, if_neg he] at CO H
          clear he
          generalize Para.goN true s.data.toList q (max n 1).toNat = z at *
          generalize hqe : max n 1 = m at *
          go_enter Try.func8, Try.ntmps8
          go_wp2_with (first | (go_at_call 12; refine (c1.out _).mono ?_; rintro e w1 ⟨rfl, rfl⟩) | (go_at_call 18; refine (CO.out _).mono ?_; rintro e w1 ⟨rfl, hb⟩))
          go_ret2
          exact ⟨by rw [H.out]; rfl, hb⟩
      · have g123 := (Para.key_test key 123).trans (decide_eq_false h123)
        have H : Hid (Para.res (Para.goV s.data.toList q key.data.toList n) = .tuple #[.int .i64 0, .bool false]) := by
          show _ = _
          rw [Para.goV_none (by rw [Para.way, if_neg h125, if_neg h123])]; rfl
        clear hp hl h125 h123 hv hq
        generalize hqe : max n 1 = m at *
        go_enter Try.func8, Try.ntmps8
        go_wp2_with (go_at_call 12; refine (c1.out _).mono ?_; rintro e w1 ⟨rfl, rfl⟩)
        go_ret2
        exact ⟨by rw [H.out]; rfl, Below.refl _ _⟩
/-- How all of the list lies: the ath block's first line, the zth's last one. -/
theorem Para.Bls.two {w : World} {A : Option Addr} {l : List Bl} (h : Bls w A l) {a z : Nat} {b c : Bl} (ha : l[a]? = some b) (hz : l[z]? = some c) : ∃ g, A = some ⟨g, 0, none⟩ ∧ w.cell? ⟨g, a * 5 + 1, none⟩ = some (.int .i64 (b.f : Nat)) ∧ w.cell? ⟨g, z * 5 + 2, none⟩ = some (.int .i64 (c.l : Nat)) := by
  obtain ⟨g, e, _, hc⟩ := h (by have := (List.getElem?_eq_some_iff.1 ha).1; omega)
  exact ⟨g, e, hc a b ha 1 _ rfl, hc z c hz 2 _ rfl⟩
set_option maxHeartbeats 2000000 in
set_option maxRecDepth 100000 in
theorem para_Block_one (s : ByteArray) (p : Int) (hs : s.size ≤ 1000000000000) (hp : Utf.place s.data.toList p = true) {k i : Nat} {b : Para.Bl} {B : List Para.Bl} (hk : Line.of_ s.data.toList p = k) (hB : Para.all s.data.toList = B)
    (hix : (B.findIdx? fun b => decide (k ≤ b.l)) = some i) (hb : B[i]? = some b) (w : World) :
    Calls Try.prog 10 #[.string s, .int .i64 p, .bool false] w fun e w' => e = .returned (Para.blkT s.data.toList p false) ∧ Below w.heap.size w w' := by
  have hl := data_len s
  have hv := Line.place_ok hp
  have c1 := Lib.hid (fun w => utf_Place s p (by omega) w)
  rw [hp] at c1
  have c2 := Lib.hid (fun w => line_Of s p hs w)
  rw [hk] at c2
  have c3 := Lib.hid (fun w => para_blocks s w)
  have c4 := Lib.hid (fun tB w hT => sl_collect tB s hs hv w hT)
  have hBl := Para.all_length s.data.toList
  have H : Hid (Para.blkT s.data.toList p false = .tuple #[.int .i64 (b.f : Nat), .int .i64 (b.l : Nat)]) := by show _ = _; rw [Para.blkT, if_pos hp, hk, Int.toNat_natCast, hB, Para.blockV_one hix hb]
  rw [hB] at c4 hBl
  replace hBl : B.length ≤ 1000000000002 := by omega
  have hA : B[i]? = some b := by assumption
  have hZ : B[i]? = some b := by assumption
  have hib : i < B.length := (List.getElem?_eq_some_iff.1 hb).1
  clear hl hv hp hk hB hs
  go_enter Try.func10, Try.ntmps10
  go_wp2_with (first
      | (go_at_call 12; refine (c1.out _).mono ?_; rintro e w1 ⟨rfl, rfl⟩)
      | (go_at_call 24; refine (c2.out _).mono ?_; rintro e w1 ⟨rfl, hb1⟩; have hkb := Boxed.new w1 3 (.int .i64 (k : Nat)); have hB2 := hb1.alloc hb1.size (.cells #[.int .i64 (k : Nat)] 3))
      | (go_at_call 26; refine (c3.out _).mono ?_; rintro e w2 ⟨rfl, rfl⟩; have hT := Boxed.new (w1.alloc (.cells #[.int .i64 (k : Nat)] 3)) 9 (.string s); have hkb2 := hkb.alloc (.cells #[.string s] 9); have hB3 := hB2.alloc hB2.size (.cells #[.string s] 9); simp only [World.size_alloc] at hT)
      | (go_at_call 25; refine (c4.out _ _ hT).mono ?_; rintro e w3 ⟨⟨v, rfl, hr⟩, hb3⟩; obtain ⟨A, cp, rfl⟩ := own_long hr; have hL := Para.Bls.of_own hr; have hkb3 := (hb3.block _ hkb2.lt).trans hkb2; have hB4 := hB3.trans (hb3.mono hB3.size); clear hr)
      | (go_at_call 27; refine (sl_index hL hkb3 hBl hix).mono ?_; rintro e w4 ⟨rfl, hb4⟩; obtain ⟨g, rfl, q1, q2⟩ := (hL.below hb4).two hA hZ; have hB5 := hB4.trans (hb4.mono hB4.size); clear hL hkb3))
  go_region
  all_goals
    go_wp2
    go_ret2
    exact ⟨by rw [H.out]; rfl, by first | exact hB5 | exact hB5.drew⟩
set_option maxHeartbeats 2000000 in
set_option maxRecDepth 100000 in
theorem para_Block_next (s : ByteArray) (p : Int) (hs : s.size ≤ 1000000000000) (hp : Utf.place s.data.toList p = true) {k i : Nat} {b c : Para.Bl} {B : List Para.Bl} (hk : Line.of_ s.data.toList p = k) (hB : Para.all s.data.toList = B)
    (hix : (B.findIdx? fun b => decide (k ≤ b.l)) = some i) (hb : B[i]? = some b) (hc : B[i + 1]? = some c) (w : World) :
    Calls Try.prog 10 #[.string s, .int .i64 p, .bool true] w fun e w' => e = .returned (Para.blkT s.data.toList p true) ∧ Below w.heap.size w w' := by
  have hl := data_len s
  have hv := Line.place_ok hp
  have c1 := Lib.hid (fun w => utf_Place s p (by omega) w)
  rw [hp] at c1
  have c2 := Lib.hid (fun w => line_Of s p hs w)
  rw [hk] at c2
  have c3 := Lib.hid (fun w => para_blocks s w)
  have c4 := Lib.hid (fun tB w hT => sl_collect tB s hs hv w hT)
  have hBl := Para.all_length s.data.toList
  have H : Hid (Para.blkT s.data.toList p true = .tuple #[.int .i64 (b.f : Nat), .int .i64 (c.l : Nat)]) := by show _ = _; rw [Para.blkT, if_pos hp, hk, Int.toNat_natCast, hB, Para.blockV_next hix hb hc]
  rw [hB] at c4 hBl
  replace hBl : B.length ≤ 1000000000002 := by omega
  have hA : B[i]? = some b := by assumption
  have hZ : B[(i + 1)]? = some c := by assumption
  have hib : i < B.length := (List.getElem?_eq_some_iff.1 hb).1
  have g0 := (List.getElem?_eq_some_iff.1 hc).1
  have g1 : decide ((i : Int) + 1 < (B.length : Int)) = true := decide_eq_true (by omega)
  have g3 : (i : Int) + 1 < (B.length : Int) := by omega
  have g4 : (0 : Int) ≤ (i : Int) + 1 := by omega
  have g5 : ((i : Int) + 1).toNat = i + 1 := by omega
  clear hl hv hp hk hB hs
  go_enter Try.func10, Try.ntmps10
  go_wp2_with (first
      | (go_at_call 12; refine (c1.out _).mono ?_; rintro e w1 ⟨rfl, rfl⟩)
      | (go_at_call 24; refine (c2.out _).mono ?_; rintro e w1 ⟨rfl, hb1⟩; have hkb := Boxed.new w1 3 (.int .i64 (k : Nat)); have hB2 := hb1.alloc hb1.size (.cells #[.int .i64 (k : Nat)] 3))
      | (go_at_call 26; refine (c3.out _).mono ?_; rintro e w2 ⟨rfl, rfl⟩; have hT := Boxed.new (w1.alloc (.cells #[.int .i64 (k : Nat)] 3)) 9 (.string s); have hkb2 := hkb.alloc (.cells #[.string s] 9); have hB3 := hB2.alloc hB2.size (.cells #[.string s] 9); simp only [World.size_alloc] at hT)
      | (go_at_call 25; refine (c4.out _ _ hT).mono ?_; rintro e w3 ⟨⟨v, rfl, hr⟩, hb3⟩; obtain ⟨A, cp, rfl⟩ := own_long hr; have hL := Para.Bls.of_own hr; have hkb3 := (hb3.block _ hkb2.lt).trans hkb2; have hB4 := hB3.trans (hb3.mono hB3.size); clear hr)
      | (go_at_call 27; refine (sl_index hL hkb3 hBl hix).mono ?_; rintro e w4 ⟨rfl, hb4⟩; obtain ⟨g, rfl, q1, q2⟩ := (hL.below hb4).two hA hZ; have hB5 := hB4.trans (hb4.mono hB4.size); clear hL hkb3))
  go_region
  all_goals
    go_wp2
    go_ret2
    exact ⟨by rw [H.out]; rfl, by first | exact hB5 | exact hB5.drew⟩
set_option maxHeartbeats 2000000 in
set_option maxRecDepth 100000 in
theorem para_Block_prev (s : ByteArray) (p : Int) (hs : s.size ≤ 1000000000000) (hp : Utf.place s.data.toList p = true) {k i : Nat} {b c : Para.Bl} {B : List Para.Bl} (hk : Line.of_ s.data.toList p = k) (hB : Para.all s.data.toList = B)
    (hix : (B.findIdx? fun b => decide (k ≤ b.l)) = some (i + 1)) (hb : B[(i + 1)]? = some b) (hn : B[i + 1 + 1]? = none) (hc : B[i]? = some c) (w : World) :
    Calls Try.prog 10 #[.string s, .int .i64 p, .bool true] w fun e w' => e = .returned (Para.blkT s.data.toList p true) ∧ Below w.heap.size w w' := by
  have hl := data_len s
  have hv := Line.place_ok hp
  have c1 := Lib.hid (fun w => utf_Place s p (by omega) w)
  rw [hp] at c1
  have c2 := Lib.hid (fun w => line_Of s p hs w)
  rw [hk] at c2
  have c3 := Lib.hid (fun w => para_blocks s w)
  have c4 := Lib.hid (fun tB w hT => sl_collect tB s hs hv w hT)
  have hBl := Para.all_length s.data.toList
  have H : Hid (Para.blkT s.data.toList p true = .tuple #[.int .i64 (c.f : Nat), .int .i64 (b.l : Nat)]) := by show _ = _; rw [Para.blkT, if_pos hp, hk, Int.toNat_natCast, hB, Para.blockV_prev hix hb hn hc]
  rw [hB] at c4 hBl
  replace hBl : B.length ≤ 1000000000002 := by omega
  have hA : B[i]? = some c := by assumption
  have hZ : B[(i + 1)]? = some b := by assumption
  have hib : (i + 1) < B.length := (List.getElem?_eq_some_iff.1 hb).1
  have g1 : decide ((i : Int) + 1 + 1 < (B.length : Int)) = false := decide_eq_false (by have := List.getElem?_eq_none_iff.1 hn; omega)
  have g2 : decide ((0 : Int) < (i : Int) + 1) = true := decide_eq_true (by omega)
  clear hl hv hp hk hB hs
  go_enter Try.func10, Try.ntmps10
  go_wp2_with (first
      | (go_at_call 12; refine (c1.out _).mono ?_; rintro e w1 ⟨rfl, rfl⟩)
      | (go_at_call 24; refine (c2.out _).mono ?_; rintro e w1 ⟨rfl, hb1⟩; have hkb := Boxed.new w1 3 (.int .i64 (k : Nat)); have hB2 := hb1.alloc hb1.size (.cells #[.int .i64 (k : Nat)] 3))
      | (go_at_call 26; refine (c3.out _).mono ?_; rintro e w2 ⟨rfl, rfl⟩; have hT := Boxed.new (w1.alloc (.cells #[.int .i64 (k : Nat)] 3)) 9 (.string s); have hkb2 := hkb.alloc (.cells #[.string s] 9); have hB3 := hB2.alloc hB2.size (.cells #[.string s] 9); simp only [World.size_alloc] at hT)
      | (go_at_call 25; refine (c4.out _ _ hT).mono ?_; rintro e w3 ⟨⟨v, rfl, hr⟩, hb3⟩; obtain ⟨A, cp, rfl⟩ := own_long hr; have hL := Para.Bls.of_own hr; have hkb3 := (hb3.block _ hkb2.lt).trans hkb2; have hB4 := hB3.trans (hb3.mono hB3.size); clear hr)
      | (go_at_call 27; refine (sl_index hL hkb3 hBl hix).mono ?_; rintro e w4 ⟨rfl, hb4⟩; obtain ⟨g, rfl, q1, q2⟩ := (hL.below hb4).two hA hZ; have hB5 := hB4.trans (hb4.mono hB4.size); clear hL hkb3))
  go_region
  all_goals
    go_wp2
    go_ret2
    exact ⟨by rw [H.out]; rfl, by first | exact hB5 | exact hB5.drew⟩
set_option maxHeartbeats 2000000 in
set_option maxRecDepth 100000 in
theorem para_Block_only (s : ByteArray) (p : Int) (hs : s.size ≤ 1000000000000) (hp : Utf.place s.data.toList p = true) {k : Nat} {b : Para.Bl} {B : List Para.Bl} (hk : Line.of_ s.data.toList p = k) (hB : Para.all s.data.toList = B)
    (hix : (B.findIdx? fun b => decide (k ≤ b.l)) = some 0) (hb : B[0]? = some b) (hn : B[0 + 1]? = none) (w : World) :
    Calls Try.prog 10 #[.string s, .int .i64 p, .bool true] w fun e w' => e = .returned (Para.blkT s.data.toList p true) ∧ Below w.heap.size w w' := by
  have hl := data_len s
  have hv := Line.place_ok hp
  have c1 := Lib.hid (fun w => utf_Place s p (by omega) w)
  rw [hp] at c1
  have c2 := Lib.hid (fun w => line_Of s p hs w)
  rw [hk] at c2
  have c3 := Lib.hid (fun w => para_blocks s w)
  have c4 := Lib.hid (fun tB w hT => sl_collect tB s hs hv w hT)
  have hBl := Para.all_length s.data.toList
  have H : Hid (Para.blkT s.data.toList p true = .tuple #[.int .i64 (b.f : Nat), .int .i64 (b.l : Nat)]) := by show _ = _; rw [Para.blkT, if_pos hp, hk, Int.toNat_natCast, hB, Para.blockV_only hix hb hn]
  rw [hB] at c4 hBl
  replace hBl : B.length ≤ 1000000000002 := by omega
  have hA : B[0]? = some b := by assumption
  have hZ : B[0]? = some b := by assumption
  have hib : 0 < B.length := (List.getElem?_eq_some_iff.1 hb).1
  have g1 : decide ((1 : Int) < (B.length : Int)) = false := decide_eq_false (by have := List.getElem?_eq_none_iff.1 hn; omega)
  clear hl hv hp hk hB hs
  go_enter Try.func10, Try.ntmps10
  go_wp2_with (first
      | (go_at_call 12; refine (c1.out _).mono ?_; rintro e w1 ⟨rfl, rfl⟩)
      | (go_at_call 24; refine (c2.out _).mono ?_; rintro e w1 ⟨rfl, hb1⟩; have hkb := Boxed.new w1 3 (.int .i64 (k : Nat)); have hB2 := hb1.alloc hb1.size (.cells #[.int .i64 (k : Nat)] 3))
      | (go_at_call 26; refine (c3.out _).mono ?_; rintro e w2 ⟨rfl, rfl⟩; have hT := Boxed.new (w1.alloc (.cells #[.int .i64 (k : Nat)] 3)) 9 (.string s); have hkb2 := hkb.alloc (.cells #[.string s] 9); have hB3 := hB2.alloc hB2.size (.cells #[.string s] 9); simp only [World.size_alloc] at hT)
      | (go_at_call 25; refine (c4.out _ _ hT).mono ?_; rintro e w3 ⟨⟨v, rfl, hr⟩, hb3⟩; obtain ⟨A, cp, rfl⟩ := own_long hr; have hL := Para.Bls.of_own hr; have hkb3 := (hb3.block _ hkb2.lt).trans hkb2; have hB4 := hB3.trans (hb3.mono hB3.size); clear hr)
      | (go_at_call 27; refine (sl_index hL hkb3 hBl hix).mono ?_; rintro e w4 ⟨rfl, hb4⟩; obtain ⟨g, rfl, q1, q2⟩ := (hL.below hb4).two hA hZ; have hB5 := hB4.trans (hb4.mono hB4.size); clear hL hkb3))
  go_region
  all_goals
    go_wp2
    go_ret2
    exact ⟨by rw [H.out]; rfl, by first | exact hB5 | exact hB5.drew⟩
end Go.Proofs.Ytjgfcnjnedgejaa
