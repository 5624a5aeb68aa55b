/-
  The document's Go: a motion, step by step.
-/
import Derived.Test.YtjgfcnjnedgejaaParaBlk
namespace Go.Proofs.Ytjgfcnjnedgejaa
open Go.RowKit
namespace Para
/-- What is known of the least line behind that of j on which one stops. -/
def Nx (s : List UInt8) (j v : Nat) : Prop := (∃ i, j < i ∧ i < (Line.L s).length ∧ Hd s i ∧ v = at_ s i ∧ ∀ i', j < i' → i' < i → ¬ Hd s i') ∨ ((∀ i, j < i → i < (Line.L s).length → ¬ Hd s i) ∧ v = s.length)
theorem Nx.start {s : List UInt8} {m : Nat} (h : (Line.L s).length = m + 1) : Nx s m s.length := .inr ⟨fun i h1 h2 => by omega, rfl⟩
theorem Nx.take {s : List UInt8} {j : Nat} (hj : j + 1 < (Line.L s).length) (h1 : emp s (j + 1) = true) (h2 : emp s j = false) : Nx s j (at_ s (j + 1)) :=
  .inl ⟨j + 1, Nat.lt_succ_self j, hj, ⟨h1, h2⟩, rfl, fun i' h3 h4 => by omega⟩
theorem Nx.skip {s : List UInt8} {j v : Nat} (h : Nx s (j + 1) v) (hn : emp s (j + 1) = false ∨ emp s j = true) : Nx s j v := by
  have hh : ¬ Hd s (j + 1) := by
    rintro ⟨h1, h2⟩
    rw [Nat.add_sub_cancel] at h2
    rcases hn with e | e
    · rw [e] at h1; cases h1
    · rw [e] at h2; cases h2
  rcases h with ⟨i, h1, h2, h3, h4, h5⟩ | ⟨h1, h2⟩
  · refine .inl ⟨i, by omega, h2, h3, h4, fun i' h6 h7 => ?_⟩
    rcases Nat.lt_or_ge (j + 1) i' with h | h
    · exact h5 i' h h7
    · rw [show i' = j + 1 by omega]; exact hh
  · refine .inr ⟨fun i h3 h4 => ?_, h2⟩
    rcases Nat.lt_or_ge (j + 1) i with h | h
    · exact h1 i h h4
    · rw [show i = j + 1 by omega]; exact hh
/-- What is known of the greatest line ahead of line j on which one stops. -/
def Pv (s : List UInt8) (j v : Nat) : Prop := (∃ i, i < j ∧ Tl s i ∧ v = at_ s i ∧ ∀ i', i < i' → i' < j → ¬ Tl s i') ∨ ((∀ i, i < j → ¬ Tl s i) ∧ v = 0)
theorem Pv.start {s : List UInt8} : Pv s 0 0 := .inr ⟨fun i h => by omega, rfl⟩
theorem Pv.take {s : List UInt8} {j : Nat} (h1 : emp s j = true) (h2 : emp s (j + 1) = false) : Pv s (j + 1) (at_ s j) :=
  .inl ⟨j, Nat.lt_succ_self j, ⟨h1, h2⟩, rfl, fun i' h3 h4 => by omega⟩
theorem Pv.skip {s : List UInt8} {j v : Nat} (h : Pv s j v) (hn : emp s j = false ∨ emp s (j + 1) = true) : Pv s (j + 1) v := by
  have hh : ¬ Tl s j := by
    rintro ⟨h1, h2⟩
    rcases hn with e | e
    · rw [e] at h1; cases h1
    · rw [e] at h2; cases h2
  rcases h with ⟨i, h1, h3, h4, h5⟩ | ⟨h1, h2⟩
  · refine .inl ⟨i, by omega, h3, h4, fun i' h6 h7 => ?_⟩
    rcases Nat.lt_or_ge i' j with h | h
    · exact h5 i' h6 h
    · rw [show i' = j by omega]; exact hh
  · refine .inr ⟨fun i h3 => ?_, h2⟩
    rcases Nat.lt_or_ge i j with h | h
    · exact h1 i h
    · rw [show i = j by omega]; exact hh
/-- Where one is behind i steps. -/
def itN (back : Bool) (s : List UInt8) (p i : Nat) : Nat := if i = 0 then p else goN back s p i
theorem itN_zero (back : Bool) (s : List UInt8) (p : Nat) : itN back s p 0 = p := rfl
theorem itN_pos {back : Bool} {s : List UInt8} {p i : Nat} (h : 1 ≤ i) : itN back s p i = goN back s p i := if_neg (by omega)
theorem itN_succ {s : List UInt8} (hv : Utf.valid s = true) (back : Bool) (p i : Nat) : itN back s p (i + 1) = goN back s (itN back s p i) 1 := by
  rw [itN_pos (by omega)]
  rcases Nat.eq_zero_or_pos i with rfl | h
  · rfl
  · rw [itN_pos h, goN_more hv back p i h]
theorem itN_place {s : List UInt8} {back : Bool} {p : Nat} (hp : Utf.place s (p : Int) = true) (i : Nat) : Utf.place s (itN back s p i : Int) = true := by
  rcases Nat.eq_zero_or_pos i with rfl | h
  · exact hp
  · rw [itN_pos h]; exact (goN_ok (Line.place_ok hp) back p i).1
theorem itN_edge {s : List UInt8} (hv : Utf.valid s = true) {back : Bool} {p i : Nat} (h : itN back s p i = edge back s) (d : Nat) : itN back s p (i + d) = edge back s := by
  induction d with
  | zero => exact h
  | succ d ih => rw [← Nat.add_assoc, itN_succ hv, ih, goN_edge hv]
theorem place_at {s : List UInt8} {q : Nat} (h : Utf.place s (q : Int) = true) : ∃ (k : Nat) (x : Nat × Nat), (Line.L s)[k]? = some x ∧ x.1 ≤ q ∧ q ≤ x.2 ∧ Line.of_ s (q : Int) = k := by
  obtain ⟨n, k, x, e, hk, h1, h2, _, e1, _⟩ := Line.place_line h
  obtain rfl : q = n := by omega
  exact ⟨k, x, hk, h1, h2, e1⟩
theorem on_step {s : List UInt8} {k q v : Nat} {x : Nat × Nat} (hx : (Line.L s)[k]? = some x) (h1 : x.1 ≤ q) (h2 : q ≤ x.2) (h : Nx s k v) : goN false s q 1 = v := onN_one hx h1 h2 h
theorem back_step {s : List UInt8} {k q v : Nat} {x : Nat × Nat} (hx : (Line.L s)[k]? = some x) (h1 : x.1 ≤ q) (h2 : q ≤ x.2) (h : Pv s k v) : goN true s q 1 = v := backN_one hx h1 h2 h
theorem start_at {s : List UInt8} {j : Nat} (h : j < (Line.L s).length) : Line.start s (j : Nat) = (at_ s j : Nat) := by
  have hg := List.getElem?_eq_getElem h
  rw [Line.start_some (by rw [Line.line_nat, hg]), at_at hg]
theorem key_differs {k : ByteArray} {m : UInt8} (h : k.data.toList = [m]) : (k.toList != [m]) = false := by
  have := (key_test k m).trans (decide_eq_true h)
  rw [bne, this]; rfl
theorem key_alike {k : ByteArray} {m : UInt8} (h : ¬ k.data.toList = [m]) : (k.toList != [m]) = true := by
  have := (key_test k m).trans (decide_eq_false h)
  rw [bne, this]; rfl
end Para
set_option maxHeartbeats 2000000 in
set_option maxRecDepth 100000 in
theorem ref18_Go_on (s : ByteArray) (p : Nat) (key : ByteArray) (n : Int) {N : Nat} (hs : s.size ≤ 1000000000000) (hp : Utf.place s.data.toList (p : Int) = true) (hk : key.data.toList = [125]) (he : p ≠ Para.edge false s.data.toList) (hn : 1 ≤ n ∧ n = N ∧ N ≤ 1000000) (w : World) :
    Calls Try.prog 9 #[.string s, .int .i64 (p : Nat), .string key, .int .i64 n] w fun e w' => e = .returned (.tuple #[.int .i64 (Para.goN false s.data.toList p N : Nat), .bool true]) ∧ Below w.heap.size w w' := by
  have hl := data_len s
  have hv := Line.place_ok hp
  have c1 := Lib.hid (fun w => ref_Place s p (by omega) w)
  rw [hp] at c1
  have hlen := Line.L_length s.data.toList
  rw [data_len] at hlen
  obtain ⟨m, hm⟩ : ∃ m, (Line.L s.data.toList).length = m + 1 := ⟨(Line.L s.data.toList).length - 1, by have := (Line.L_whole hv).pos; omega⟩
  have cc := Lib.hid (fun w => ref4_Count s hs w)
  rw [hm] at cc
  have hm9 : m ≤ 1000000000000 := by omega
  have hW := Below.refl w.heap.size w
  have q0 : IntKind.i64.wrap ((m : Nat) : Int) = (m : Nat) := by rw [IntKind.wrap_i64]; omega
  have g1 := (Para.key_test key 125).trans (decide_eq_true hk)
  have g2 := (Para.key_test key 123).trans (decide_eq_false (by rw [hk]; decide))
  have g3 := Para.key_differs hk
  have g4 := Para.key_alike (k := key) (m := 123) (by rw [hk]; decide)
  have g5 : ((p : Int) == (s.size : Int)) = false := by
    have h0 : p ≠ s.data.toList.length := he
    simp; omega
  obtain ⟨F, hF⟩ : ∃ F, Para.itN false s.data.toList p = F := ⟨_, rfl⟩
  have F0 : F 0 = p := by rw [← hF]; rfl
  have FS : Hid (∀ i, F (i + 1) = Para.goN false s.data.toList (F i) 1) := by rw [← hF]; exact fun i => Para.itN_succ hv false p i
  have FP : Hid (∀ i, Utf.place s.data.toList (F i : Int) = true) := by rw [← hF]; exact fun i => Para.itN_place hp i
  have FE : Hid (∀ i d, F i = Para.edge false s.data.toList → F (i + d) = Para.edge false s.data.toList) := by rw [← hF]; exact fun i d h => Para.itN_edge hv h d
  obtain ⟨hn1, rfl, hN9⟩ := hn
  have FN : Hid (Para.goN false s.data.toList p N = F N) := by rw [← hF]; exact (Para.itN_pos (by omega)).symm
  have g6 : decide ((N : Int) < 1) = false := decide_eq_false (by omega)
  have g7 : decide (N < 1) = false := decide_eq_false (by omega)
  have g8 : (N : Int) ≠ 0 := by omega
  have g9 : ¬ N = 0 := by omega
  clear hn1
  have HM := Lib.hid hm
  have HL := Lib.hid hl
  clear hF hp he hk hv hlen hm hl
  go_enter Try.func9, Try.ntmps9
  go_wp2_with (first
    | (go_at_call 19; (with_reducible refine (c1.out _).mono ?_); rintro e w1 ⟨rfl, hbn⟩; replace hW := below_run hW hbn; clear hbn)
    | (go_at_call 20; (with_reducible refine (cc.out _).mono ?_); rintro e w2 ⟨rfl, hbn⟩; replace hW := below_run hW hbn; clear hbn))
  go_loopw [1, 11] (fun pv iv wr => ∃ i : Nat, iv = .int .i64 i ∧ pv = .int .i64 (F i : Nat) ∧ i ≤ N ∧ Below w.heap.size w wr) (fun _ iv _ => N - (intOf iv).toNat)
  case atStart => exact ⟨0, rfl, by rw [F0], Nat.zero_le _, hW⟩
  case round =>
    obtain ⟨i, rfl, rfl, hiN, hW⟩ := hrel
    by_cases hlt : i < N
    · have g10 : decide ((i : Int) < (N : Int)) = true := decide_eq_true (by omega)
      obtain ⟨k, x, hx, h1, h2, e1⟩ := Para.place_at (FP.out i)
      have c2 := Lib.hid (fun w => ref4_Of s (F i : Nat) hs w)
      rw [e1] at c2
      have hkm : k ≤ m := by have := (List.getElem?_eq_some_iff.1 hx).1; have := HM.out; omega
      have HX := Lib.hid (And.intro hx (And.intro h1 h2))
      have FS1 := Lib.hid (FS.out i)
      have FE1 := Lib.hid (FE.out i)
      clear hx h1 h2 e1 F0
      generalize hq : F i = q at *
      go_wp2_with (first
        | (go_at_call 21; (with_reducible refine (c2.out _).mono ?_); rintro e w3 ⟨rfl, hbn⟩; replace hW := below_run hW hbn; clear hbn))
      go_loopw [13, 14] (fun tv jv wr => ∃ j v : Nat, tv = .int .i64 v ∧ jv = .int .i64 j ∧ k ≤ j ∧ j ≤ m ∧ Hid (Para.Nx s.data.toList j v) ∧ Below w.heap.size w wr) (fun _ jv _ => (intOf jv).toNat)
      case atStart => exact ⟨m, s.size, rfl, rfl, hkm, Nat.le_refl _, by rw [← HL.out]; exact Para.Nx.start HM.out, hW⟩
      case round =>
        obtain ⟨j, v, rfl, rfl, hkj, hjm, HN, hW⟩ := hrel
        by_cases hj : k < j
        · obtain ⟨j, rfl⟩ : ∃ j', j = j' + 1 := ⟨j - 1, by omega⟩
          have g11 : decide ((k : Int) < (j : Int) + 1) = true := decide_eq_true (by omega)
          have q1 : IntKind.i64.wrap ((j : Nat) : Int) = (j : Nat) := by rw [IntKind.wrap_i64]; omega
          have e1 := Lib.hid (fun w => ref18_empty s (j + 1) hs (by have := HM.out; omega) w)
          have e2 := Lib.hid (fun w => ref18_empty s j hs (by have := HM.out; omega) w)
          have e3 := Lib.hid (fun w => ref4_Start s ((j + 1 : Nat) : Int) hs w)
          rw [Para.start_at (by have := HM.out; omega)] at e3
          rw [show ((j + 1 : Nat) : Int) = (j : Int) + 1 from rfl] at e1 e3
          cases ha : Para.emp s.data.toList (j + 1) with
          | false =>
            rw [ha] at e1
            have HN2 : Hid (Para.Nx s.data.toList j v) := HN.out.skip (.inl ha)
            clear ha HN e2 e3
            go_wp2_with (first
              | (go_at_call 22; (with_reducible refine (e1.out _).mono ?_); rintro e w4 ⟨rfl, hbn⟩; replace hW := below_run hW hbn; clear hbn))
            go_roundw
            case rel => exact ⟨j, v, by go_num, by go_num, by omega, by omega, HN2, hW⟩
            case measure => simp [intOf]
          | true =>
            rw [ha] at e1
            cases hb : Para.emp s.data.toList j with
            | true =>
              rw [hb] at e2
              have HN2 : Hid (Para.Nx s.data.toList j v) := HN.out.skip (.inr hb)
              clear ha hb HN e3
              go_wp2_with (first
                | (go_at_call 22; (with_reducible refine (e1.out _).mono ?_); rintro e w4 ⟨rfl, hbn⟩; replace hW := below_run hW hbn; clear hbn)
                | (go_at_call 22; (with_reducible refine (e2.out _).mono ?_); rintro e w5 ⟨rfl, hbn⟩; replace hW := below_run hW hbn; clear hbn))
              go_roundw
              case rel => exact ⟨j, v, by go_num, by go_num, by omega, by omega, HN2, hW⟩
              case measure => simp [intOf]
            | false =>
              rw [hb] at e2
              have HN2 : Hid (Para.Nx s.data.toList j (Para.at_ s.data.toList (j + 1))) := Para.Nx.take (by have := HM.out; omega) ha hb
              clear ha hb HN
              generalize Para.at_ s.data.toList (j + 1) = z at *
              go_wp2_with (first
                | (go_at_call 22; (with_reducible refine (e1.out _).mono ?_); rintro e w4 ⟨rfl, hbn⟩; replace hW := below_run hW hbn; clear hbn)
                | (go_at_call 22; (with_reducible refine (e2.out _).mono ?_); rintro e w5 ⟨rfl, hbn⟩; replace hW := below_run hW hbn; clear hbn)
                | (go_at_call 23; (with_reducible refine (e3.out _).mono ?_); rintro e w6 ⟨rfl, hbn⟩; replace hW := below_run hW hbn; clear hbn))
              go_roundw
              case rel => exact ⟨j, z, by go_num, by go_num, by omega, by omega, HN2, hW⟩
              case measure => simp [intOf]
        · obtain rfl : j = k := by omega
          have g11 : decide ((j : Int) < (j : Int)) = false := decide_eq_false (by omega)
          have HG : Hid (F (i + 1) = v) := by show _ = _; rw [FS1.out]; exact Para.on_step HX.out.1 HX.out.2.1 HX.out.2.2 HN.out
          clear HN
          by_cases hqs : q = s.size
          · have g12 : ((q : Int) == (s.size : Int)) = true := by simp [hqs]
            have HR : Hid (F N = q) := by
              have := FE1.out (N - i) (by rw [hqs]; exact HL.out.symm)
              rw [show i + (N - i) = N by omega] at this
              show _ = _
              rw [this, hqs]; exact HL.out
            clear hqs
            go_wp2
            go_ret2
            exact ⟨by rw [FN.out, HR.out]; rfl, hW⟩
          · have g12 : ((q : Int) == (s.size : Int)) = false := by simp; omega
            go_wp2
            go_roundw
            case rel => exact ⟨i + 1, by go_num, by rw [HG.out], by omega, hW⟩
            case measure => simp [intOf]; omega
    · obtain rfl : i = N := by omega
      have g10 : decide ((i : Int) < (i : Int)) = false := decide_eq_false (by omega)
      go_wp2
      go_ret2
      exact ⟨by rw [FN.out]; rfl, hW⟩
set_option maxHeartbeats 2000000 in
set_option maxRecDepth 100000 in
theorem ref18_Go_on_low (s : ByteArray) (p : Nat) (key : ByteArray) (n : Int) {N : Nat} (hs : s.size ≤ 1000000000000) (hp : Utf.place s.data.toList (p : Int) = true) (hk : key.data.toList = [125]) (he : p ≠ Para.edge false s.data.toList) (hn : n < 1 ∧ N = 1) (w : World) :
    Calls Try.prog 9 #[.string s, .int .i64 (p : Nat), .string key, .int .i64 n] w fun e w' => e = .returned (.tuple #[.int .i64 (Para.goN false s.data.toList p N : Nat), .bool true]) ∧ Below w.heap.size w w' := by
  have hl := data_len s
  have hv := Line.place_ok hp
  have c1 := Lib.hid (fun w => ref_Place s p (by omega) w)
  rw [hp] at c1
  have hlen := Line.L_length s.data.toList
  rw [data_len] at hlen
  obtain ⟨m, hm⟩ : ∃ m, (Line.L s.data.toList).length = m + 1 := ⟨(Line.L s.data.toList).length - 1, by have := (Line.L_whole hv).pos; omega⟩
  have cc := Lib.hid (fun w => ref4_Count s hs w)
  rw [hm] at cc
  have hm9 : m ≤ 1000000000000 := by omega
  have hW := Below.refl w.heap.size w
  have q0 : IntKind.i64.wrap ((m : Nat) : Int) = (m : Nat) := by rw [IntKind.wrap_i64]; omega
  have g1 := (Para.key_test key 125).trans (decide_eq_true hk)
  have g2 := (Para.key_test key 123).trans (decide_eq_false (by rw [hk]; decide))
  have g3 := Para.key_differs hk
  have g4 := Para.key_alike (k := key) (m := 123) (by rw [hk]; decide)
  have g5 : ((p : Int) == (s.size : Int)) = false := by
    have h0 : p ≠ s.data.toList.length := he
    simp; omega
  obtain ⟨F, hF⟩ : ∃ F, Para.itN false s.data.toList p = F := ⟨_, rfl⟩
  have F0 : F 0 = p := by rw [← hF]; rfl
  have FS : Hid (∀ i, F (i + 1) = Para.goN false s.data.toList (F i) 1) := by rw [← hF]; exact fun i => Para.itN_succ hv false p i
  have FP : Hid (∀ i, Utf.place s.data.toList (F i : Int) = true) := by rw [← hF]; exact fun i => Para.itN_place hp i
  have FE : Hid (∀ i d, F i = Para.edge false s.data.toList → F (i + d) = Para.edge false s.data.toList) := by rw [← hF]; exact fun i d h => Para.itN_edge hv h d
  obtain ⟨hn1, rfl⟩ := hn
  have FN : Hid (Para.goN false s.data.toList p 1 = F 1) := by rw [← hF]; exact (Para.itN_pos (Nat.le_refl _)).symm
  have g6 : decide (n < 1) = true := decide_eq_true hn1
  clear hn1
  have HM := Lib.hid hm
  have HL := Lib.hid hl
  clear hF hp he hk hv hlen hm hl
  go_enter Try.func9, Try.ntmps9
  go_wp2_with (first
    | (go_at_call 19; (with_reducible refine (c1.out _).mono ?_); rintro e w1 ⟨rfl, hbn⟩; replace hW := below_run hW hbn; clear hbn)
    | (go_at_call 20; (with_reducible refine (cc.out _).mono ?_); rintro e w2 ⟨rfl, hbn⟩; replace hW := below_run hW hbn; clear hbn))
  go_loopw [1, 11] (fun pv iv wr => ∃ i : Nat, iv = .int .i64 i ∧ pv = .int .i64 (F i : Nat) ∧ i ≤ 1 ∧ Below w.heap.size w wr) (fun _ iv _ => 1 - (intOf iv).toNat)
  case atStart => exact ⟨0, rfl, by rw [F0], Nat.zero_le _, hW⟩
  case round =>
    obtain ⟨i, rfl, rfl, hiN, hW⟩ := hrel
    by_cases hlt : i < 1
    · have g10 : decide ((i : Int) < (1 : Int)) = true := decide_eq_true (by omega)
      obtain ⟨k, x, hx, h1, h2, e1⟩ := Para.place_at (FP.out i)
      have c2 := Lib.hid (fun w => ref4_Of s (F i : Nat) hs w)
      rw [e1] at c2
      have hkm : k ≤ m := by have := (List.getElem?_eq_some_iff.1 hx).1; have := HM.out; omega
      have HX := Lib.hid (And.intro hx (And.intro h1 h2))
      have FS1 := Lib.hid (FS.out i)
      have FE1 := Lib.hid (FE.out i)
      clear hx h1 h2 e1 F0
      generalize hq : F i = q at *
      go_wp2_with (first
        | (go_at_call 21; (with_reducible refine (c2.out _).mono ?_); rintro e w3 ⟨rfl, hbn⟩; replace hW := below_run hW hbn; clear hbn))
      go_loopw [13, 14] (fun tv jv wr => ∃ j v : Nat, tv = .int .i64 v ∧ jv = .int .i64 j ∧ k ≤ j ∧ j ≤ m ∧ Hid (Para.Nx s.data.toList j v) ∧ Below w.heap.size w wr) (fun _ jv _ => (intOf jv).toNat)
      case atStart => exact ⟨m, s.size, rfl, rfl, hkm, Nat.le_refl _, by rw [← HL.out]; exact Para.Nx.start HM.out, hW⟩
      case round =>
        obtain ⟨j, v, rfl, rfl, hkj, hjm, HN, hW⟩ := hrel
        by_cases hj : k < j
        · obtain ⟨j, rfl⟩ : ∃ j', j = j' + 1 := ⟨j - 1, by omega⟩
          have g11 : decide ((k : Int) < (j : Int) + 1) = true := decide_eq_true (by omega)
          have q1 : IntKind.i64.wrap ((j : Nat) : Int) = (j : Nat) := by rw [IntKind.wrap_i64]; omega
          have e1 := Lib.hid (fun w => ref18_empty s (j + 1) hs (by have := HM.out; omega) w)
          have e2 := Lib.hid (fun w => ref18_empty s j hs (by have := HM.out; omega) w)
          have e3 := Lib.hid (fun w => ref4_Start s ((j + 1 : Nat) : Int) hs w)
          rw [Para.start_at (by have := HM.out; omega)] at e3
          rw [show ((j + 1 : Nat) : Int) = (j : Int) + 1 from rfl] at e1 e3
          cases ha : Para.emp s.data.toList (j + 1) with
          | false =>
            rw [ha] at e1
            have HN2 : Hid (Para.Nx s.data.toList j v) := HN.out.skip (.inl ha)
            clear ha HN e2 e3
            go_wp2_with (first
              | (go_at_call 22; (with_reducible refine (e1.out _).mono ?_); rintro e w4 ⟨rfl, hbn⟩; replace hW := below_run hW hbn; clear hbn))
            go_roundw
            case rel => exact ⟨j, v, by go_num, by go_num, by omega, by omega, HN2, hW⟩
            case measure => simp [intOf]
          | true =>
            rw [ha] at e1
            cases hb : Para.emp s.data.toList j with
            | true =>
              rw [hb] at e2
              have HN2 : Hid (Para.Nx s.data.toList j v) := HN.out.skip (.inr hb)
              clear ha hb HN e3
              go_wp2_with (first
                | (go_at_call 22; (with_reducible refine (e1.out _).mono ?_); rintro e w4 ⟨rfl, hbn⟩; replace hW := below_run hW hbn; clear hbn)
                | (go_at_call 22; (with_reducible refine (e2.out _).mono ?_); rintro e w5 ⟨rfl, hbn⟩; replace hW := below_run hW hbn; clear hbn))
              go_roundw
              case rel => exact ⟨j, v, by go_num, by go_num, by omega, by omega, HN2, hW⟩
              case measure => simp [intOf]
            | false =>
              rw [hb] at e2
              have HN2 : Hid (Para.Nx s.data.toList j (Para.at_ s.data.toList (j + 1))) := Para.Nx.take (by have := HM.out; omega) ha hb
              clear ha hb HN
              generalize Para.at_ s.data.toList (j + 1) = z at *
              go_wp2_with (first
                | (go_at_call 22; (with_reducible refine (e1.out _).mono ?_); rintro e w4 ⟨rfl, hbn⟩; replace hW := below_run hW hbn; clear hbn)
                | (go_at_call 22; (with_reducible refine (e2.out _).mono ?_); rintro e w5 ⟨rfl, hbn⟩; replace hW := below_run hW hbn; clear hbn)
                | (go_at_call 23; (with_reducible refine (e3.out _).mono ?_); rintro e w6 ⟨rfl, hbn⟩; replace hW := below_run hW hbn; clear hbn))
              go_roundw
              case rel => exact ⟨j, z, by go_num, by go_num, by omega, by omega, HN2, hW⟩
              case measure => simp [intOf]
        · obtain rfl : j = k := by omega
          have g11 : decide ((j : Int) < (j : Int)) = false := decide_eq_false (by omega)
          have HG : Hid (F (i + 1) = v) := by show _ = _; rw [FS1.out]; exact Para.on_step HX.out.1 HX.out.2.1 HX.out.2.2 HN.out
          clear HN
          by_cases hqs : q = s.size
          · have g12 : ((q : Int) == (s.size : Int)) = true := by simp [hqs]
            have HR : Hid (F 1 = q) := by
              have := FE1.out (1 - i) (by rw [hqs]; exact HL.out.symm)
              rw [show i + (1 - i) = 1 by omega] at this
              show _ = _
              rw [this, hqs]; exact HL.out
            clear hqs
            go_wp2
            go_ret2
            exact ⟨by rw [FN.out, HR.out]; rfl, hW⟩
          · have g12 : ((q : Int) == (s.size : Int)) = false := by simp; omega
            go_wp2
            go_roundw
            case rel => exact ⟨i + 1, by go_num, by rw [HG.out], by omega, hW⟩
            case measure => simp [intOf]; omega
    · obtain rfl : i = 1 := by omega
      have g10 : decide ((1 : Int) < (1 : Int)) = false := decide_eq_false (by omega)
      go_wp2
      go_ret2
      exact ⟨by rw [FN.out]; rfl, hW⟩
set_option maxHeartbeats 2000000 in
set_option maxRecDepth 100000 in
theorem ref18_Go_back (s : ByteArray) (p : Nat) (key : ByteArray) (n : Int) {N : Nat} (hs : s.size ≤ 1000000000000) (hp : Utf.place s.data.toList (p : Int) = true) (hk : key.data.toList = [123]) (he : p ≠ Para.edge true s.data.toList) (hn : 1 ≤ n ∧ n = N ∧ N ≤ 1000000) (w : World) :
    Calls Try.prog 9 #[.string s, .int .i64 (p : Nat), .string key, .int .i64 n] w fun e w' => e = .returned (.tuple #[.int .i64 (Para.goN true s.data.toList p N : Nat), .bool true]) ∧ Below w.heap.size w w' := by
  have hl := data_len s
  have hv := Line.place_ok hp
  have c1 := Lib.hid (fun w => ref_Place s p (by omega) w)
  rw [hp] at c1
  have hlen := Line.L_length s.data.toList
  rw [data_len] at hlen
  obtain ⟨m, hm⟩ : ∃ m, (Line.L s.data.toList).length = m + 1 := ⟨(Line.L s.data.toList).length - 1, by have := (Line.L_whole hv).pos; omega⟩
  have cc := Lib.hid (fun w => ref4_Count s hs w)
  rw [hm] at cc
  have hm9 : m ≤ 1000000000000 := by omega
  have hW := Below.refl w.heap.size w
  have q0 : IntKind.i64.wrap ((m : Nat) : Int) = (m : Nat) := by rw [IntKind.wrap_i64]; omega
  have g1 := (Para.key_test key 123).trans (decide_eq_true hk)
  have g2 := (Para.key_test key 125).trans (decide_eq_false (by rw [hk]; decide))
  have g3 := Para.key_differs hk
  have g4 := Para.key_alike (k := key) (m := 125) (by rw [hk]; decide)
  have g5 : ((p : Int) == 0) = false := by
    have h0 : p ≠ 0 := he
    simp; omega
  obtain ⟨F, hF⟩ : ∃ F, Para.itN true s.data.toList p = F := ⟨_, rfl⟩
  have F0 : F 0 = p := by rw [← hF]; rfl
  have FS : Hid (∀ i, F (i + 1) = Para.goN true s.data.toList (F i) 1) := by rw [← hF]; exact fun i => Para.itN_succ hv true p i
  have FP : Hid (∀ i, Utf.place s.data.toList (F i : Int) = true) := by rw [← hF]; exact fun i => Para.itN_place hp i
  have FE : Hid (∀ i d, F i = Para.edge true s.data.toList → F (i + d) = Para.edge true s.data.toList) := by rw [← hF]; exact fun i d h => Para.itN_edge hv h d
  obtain ⟨hn1, rfl, hN9⟩ := hn
  have FN : Hid (Para.goN true s.data.toList p N = F N) := by rw [← hF]; exact (Para.itN_pos (by omega)).symm
  have g6 : decide ((N : Int) < 1) = false := decide_eq_false (by omega)
  have g7 : decide (N < 1) = false := decide_eq_false (by omega)
  have g8 : (N : Int) ≠ 0 := by omega
  have g9 : ¬ N = 0 := by omega
  clear hn1
  have HM := Lib.hid hm
  have HL := Lib.hid hl
  clear hF hp he hk hv hlen hm hl
  go_enter Try.func9, Try.ntmps9
  go_wp2_with (first
    | (go_at_call 19; (with_reducible refine (c1.out _).mono ?_); rintro e w1 ⟨rfl, hbn⟩; replace hW := below_run hW hbn; clear hbn)
    | (go_at_call 20; (with_reducible refine (cc.out _).mono ?_); rintro e w2 ⟨rfl, hbn⟩; replace hW := below_run hW hbn; clear hbn))
  go_loopw [1, 11] (fun pv iv wr => ∃ i : Nat, iv = .int .i64 i ∧ pv = .int .i64 (F i : Nat) ∧ i ≤ N ∧ Below w.heap.size w wr) (fun _ iv _ => N - (intOf iv).toNat)
  case atStart => exact ⟨0, rfl, by rw [F0], Nat.zero_le _, hW⟩
  case round =>
    obtain ⟨i, rfl, rfl, hiN, hW⟩ := hrel
    by_cases hlt : i < N
    · have g10 : decide ((i : Int) < (N : Int)) = true := decide_eq_true (by omega)
      obtain ⟨k, x, hx, h1, h2, e1⟩ := Para.place_at (FP.out i)
      have c2 := Lib.hid (fun w => ref4_Of s (F i : Nat) hs w)
      rw [e1] at c2
      have hkm : k ≤ m := by have := (List.getElem?_eq_some_iff.1 hx).1; have := HM.out; omega
      have HX := Lib.hid (And.intro hx (And.intro h1 h2))
      have FS1 := Lib.hid (FS.out i)
      have FE1 := Lib.hid (FE.out i)
      clear hx h1 h2 e1 F0
      generalize hq : F i = q at *
      go_wp2_with (first
        | (go_at_call 21; (with_reducible refine (c2.out _).mono ?_); rintro e w3 ⟨rfl, hbn⟩; replace hW := below_run hW hbn; clear hbn))
      go_loopw [13, 15] (fun tv jv wr => ∃ j v : Nat, tv = .int .i64 v ∧ jv = .int .i64 j ∧ j ≤ k ∧ Hid (Para.Pv s.data.toList j v) ∧ Below w.heap.size w wr) (fun _ jv _ => k - (intOf jv).toNat)
      case atStart => exact ⟨0, 0, rfl, rfl, Nat.zero_le _, Para.Pv.start, hW⟩
      case round =>
        obtain ⟨j, v, rfl, rfl, hjk, HN, hW⟩ := hrel
        by_cases hj : j < k
        · have g11 : decide ((j : Int) < (k : Int)) = true := decide_eq_true (by omega)
          have e1 := Lib.hid (fun w => ref18_empty s j hs (by have := HM.out; omega) w)
          have e2 := Lib.hid (fun w => ref18_empty s (j + 1) hs (by have := HM.out; omega) w)
          have e3 := Lib.hid (fun w => ref4_Start s (j : Nat) hs w)
          rw [Para.start_at (by have := HM.out; omega)] at e3
          rw [show ((j + 1 : Nat) : Int) = (j : Int) + 1 from rfl] at e2
          cases ha : Para.emp s.data.toList j with
          | false =>
            rw [ha] at e1
            have HN2 : Hid (Para.Pv s.data.toList (j + 1) v) := HN.out.skip (.inl ha)
            clear ha HN e2 e3
            go_wp2_with (first
              | (go_at_call 22; (with_reducible refine (e1.out _).mono ?_); rintro e w4 ⟨rfl, hbn⟩; replace hW := below_run hW hbn; clear hbn))
            go_roundw
            case rel => exact ⟨j + 1, v, by go_num, by go_num, by omega, HN2, hW⟩
            case measure => simp [intOf]; omega
          | true =>
            rw [ha] at e1
            cases hb : Para.emp s.data.toList (j + 1) with
            | true =>
              rw [hb] at e2
              have HN2 : Hid (Para.Pv s.data.toList (j + 1) v) := HN.out.skip (.inr hb)
              clear ha hb HN e3
              go_wp2_with (first
                | (go_at_call 22; (with_reducible refine (e1.out _).mono ?_); rintro e w4 ⟨rfl, hbn⟩; replace hW := below_run hW hbn; clear hbn)
                | (go_at_call 22; (with_reducible refine (e2.out _).mono ?_); rintro e w5 ⟨rfl, hbn⟩; replace hW := below_run hW hbn; clear hbn))
              go_roundw
              case rel => exact ⟨j + 1, v, by go_num, by go_num, by omega, HN2, hW⟩
              case measure => simp [intOf]; omega
            | false =>
              rw [hb] at e2
              have HN2 : Hid (Para.Pv s.data.toList (j + 1) (Para.at_ s.data.toList j)) := Para.Pv.take ha hb
              clear ha hb HN
              generalize Para.at_ s.data.toList j = z at *
              go_wp2_with (first
                | (go_at_call 22; (with_reducible refine (e1.out _).mono ?_); rintro e w4 ⟨rfl, hbn⟩; replace hW := below_run hW hbn; clear hbn)
                | (go_at_call 22; (with_reducible refine (e2.out _).mono ?_); rintro e w5 ⟨rfl, hbn⟩; replace hW := below_run hW hbn; clear hbn)
                | (go_at_call 23; (with_reducible refine (e3.out _).mono ?_); rintro e w6 ⟨rfl, hbn⟩; replace hW := below_run hW hbn; clear hbn))
              go_roundw
              case rel => exact ⟨j + 1, z, by go_num, by go_num, by omega, HN2, hW⟩
              case measure => simp [intOf]; omega
        · obtain rfl : j = k := by omega
          have g11 : decide ((j : Int) < (j : Int)) = false := decide_eq_false (by omega)
          have HG : Hid (F (i + 1) = v) := by show _ = _; rw [FS1.out]; exact Para.back_step HX.out.1 HX.out.2.1 HX.out.2.2 HN.out
          clear HN
          go_wp2
          go_roundw
          case rel => exact ⟨i + 1, by go_num, by rw [HG.out], by omega, hW⟩
          case measure => simp [intOf]; omega
    · obtain rfl : i = N := by omega
      have g10 : decide ((i : Int) < (i : Int)) = false := decide_eq_false (by omega)
      go_wp2
      go_ret2
      exact ⟨by rw [FN.out]; rfl, hW⟩
set_option maxHeartbeats 2000000 in
set_option maxRecDepth 100000 in
theorem ref18_Go_back_low (s : ByteArray) (p : Nat) (key : ByteArray) (n : Int) {N : Nat} (hs : s.size ≤ 1000000000000) (hp : Utf.place s.data.toList (p : Int) = true) (hk : key.data.toList = [123]) (he : p ≠ Para.edge true s.data.toList) (hn : n < 1 ∧ N = 1) (w : World) :
    Calls Try.prog 9 #[.string s, .int .i64 (p : Nat), .string key, .int .i64 n] w fun e w' => e = .returned (.tuple #[.int .i64 (Para.goN true s.data.toList p N : Nat), .bool true]) ∧ Below w.heap.size w w' := by
  have hl := data_len s
  have hv := Line.place_ok hp
  have c1 := Lib.hid (fun w => ref_Place s p (by omega) w)
  rw [hp] at c1
  have hlen := Line.L_length s.data.toList
  rw [data_len] at hlen
  obtain ⟨m, hm⟩ : ∃ m, (Line.L s.data.toList).length = m + 1 := ⟨(Line.L s.data.toList).length - 1, by have := (Line.L_whole hv).pos; omega⟩
  have cc := Lib.hid (fun w => ref4_Count s hs w)
  rw [hm] at cc
  have hm9 : m ≤ 1000000000000 := by omega
  have hW := Below.refl w.heap.size w
  have q0 : IntKind.i64.wrap ((m : Nat) : Int) = (m : Nat) := by rw [IntKind.wrap_i64]; omega
  have g1 := (Para.key_test key 123).trans (decide_eq_true hk)
  have g2 := (Para.key_test key 125).trans (decide_eq_false (by rw [hk]; decide))
  have g3 := Para.key_differs hk
  have g4 := Para.key_alike (k := key) (m := 125) (by rw [hk]; decide)
  have g5 : ((p : Int) == 0) = false := by
    have h0 : p ≠ 0 := he
    simp; omega
  obtain ⟨F, hF⟩ : ∃ F, Para.itN true s.data.toList p = F := ⟨_, rfl⟩
  have F0 : F 0 = p := by rw [← hF]; rfl
  have FS : Hid (∀ i, F (i + 1) = Para.goN true s.data.toList (F i) 1) := by rw [← hF]; exact fun i => Para.itN_succ hv true p i
  have FP : Hid (∀ i, Utf.place s.data.toList (F i : Int) = true) := by rw [← hF]; exact fun i => Para.itN_place hp i
  have FE : Hid (∀ i d, F i = Para.edge true s.data.toList → F (i + d) = Para.edge true s.data.toList) := by rw [← hF]; exact fun i d h => Para.itN_edge hv h d
  obtain ⟨hn1, rfl⟩ := hn
  have FN : Hid (Para.goN true s.data.toList p 1 = F 1) := by rw [← hF]; exact (Para.itN_pos (Nat.le_refl _)).symm
  have g6 : decide (n < 1) = true := decide_eq_true hn1
  clear hn1
  have HM := Lib.hid hm
  have HL := Lib.hid hl
  clear hF hp he hk hv hlen hm hl
  go_enter Try.func9, Try.ntmps9
  go_wp2_with (first
    | (go_at_call 19; (with_reducible refine (c1.out _).mono ?_); rintro e w1 ⟨rfl, hbn⟩; replace hW := below_run hW hbn; clear hbn)
    | (go_at_call 20; (with_reducible refine (cc.out _).mono ?_); rintro e w2 ⟨rfl, hbn⟩; replace hW := below_run hW hbn; clear hbn))
  go_loopw [1, 11] (fun pv iv wr => ∃ i : Nat, iv = .int .i64 i ∧ pv = .int .i64 (F i : Nat) ∧ i ≤ 1 ∧ Below w.heap.size w wr) (fun _ iv _ => 1 - (intOf iv).toNat)
  case atStart => exact ⟨0, rfl, by rw [F0], Nat.zero_le _, hW⟩
  case round =>
    obtain ⟨i, rfl, rfl, hiN, hW⟩ := hrel
    by_cases hlt : i < 1
    · have g10 : decide ((i : Int) < (1 : Int)) = true := decide_eq_true (by omega)
      obtain ⟨k, x, hx, h1, h2, e1⟩ := Para.place_at (FP.out i)
      have c2 := Lib.hid (fun w => ref4_Of s (F i : Nat) hs w)
      rw [e1] at c2
      have hkm : k ≤ m := by have := (List.getElem?_eq_some_iff.1 hx).1; have := HM.out; omega
      have HX := Lib.hid (And.intro hx (And.intro h1 h2))
      have FS1 := Lib.hid (FS.out i)
      have FE1 := Lib.hid (FE.out i)
      clear hx h1 h2 e1 F0
      generalize hq : F i = q at *
      go_wp2_with (first
        | (go_at_call 21; (with_reducible refine (c2.out _).mono ?_); rintro e w3 ⟨rfl, hbn⟩; replace hW := below_run hW hbn; clear hbn))
      go_loopw [13, 15] (fun tv jv wr => ∃ j v : Nat, tv = .int .i64 v ∧ jv = .int .i64 j ∧ j ≤ k ∧ Hid (Para.Pv s.data.toList j v) ∧ Below w.heap.size w wr) (fun _ jv _ => k - (intOf jv).toNat)
      case atStart => exact ⟨0, 0, rfl, rfl, Nat.zero_le _, Para.Pv.start, hW⟩
      case round =>
        obtain ⟨j, v, rfl, rfl, hjk, HN, hW⟩ := hrel
        by_cases hj : j < k
        · have g11 : decide ((j : Int) < (k : Int)) = true := decide_eq_true (by omega)
          have e1 := Lib.hid (fun w => ref18_empty s j hs (by have := HM.out; omega) w)
          have e2 := Lib.hid (fun w => ref18_empty s (j + 1) hs (by have := HM.out; omega) w)
          have e3 := Lib.hid (fun w => ref4_Start s (j : Nat) hs w)
          rw [Para.start_at (by have := HM.out; omega)] at e3
          rw [show ((j + 1 : Nat) : Int) = (j : Int) + 1 from rfl] at e2
          cases ha : Para.emp s.data.toList j with
          | false =>
            rw [ha] at e1
            have HN2 : Hid (Para.Pv s.data.toList (j + 1) v) := HN.out.skip (.inl ha)
            clear ha HN e2 e3
            go_wp2_with (first
              | (go_at_call 22; (with_reducible refine (e1.out _).mono ?_); rintro e w4 ⟨rfl, hbn⟩; replace hW := below_run hW hbn; clear hbn))
            go_roundw
            case rel => exact ⟨j + 1, v, by go_num, by go_num, by omega, HN2, hW⟩
            case measure => simp [intOf]; omega
          | true =>
            rw [ha] at e1
            cases hb : Para.emp s.data.toList (j + 1) with
            | true =>
              rw [hb] at e2
              have HN2 : Hid (Para.Pv s.data.toList (j + 1) v) := HN.out.skip (.inr hb)
              clear ha hb HN e3
              go_wp2_with (first
                | (go_at_call 22; (with_reducible refine (e1.out _).mono ?_); rintro e w4 ⟨rfl, hbn⟩; replace hW := below_run hW hbn; clear hbn)
                | (go_at_call 22; (with_reducible refine (e2.out _).mono ?_); rintro e w5 ⟨rfl, hbn⟩; replace hW := below_run hW hbn; clear hbn))
              go_roundw
              case rel => exact ⟨j + 1, v, by go_num, by go_num, by omega, HN2, hW⟩
              case measure => simp [intOf]; omega
            | false =>
              rw [hb] at e2
              have HN2 : Hid (Para.Pv s.data.toList (j + 1) (Para.at_ s.data.toList j)) := Para.Pv.take ha hb
              clear ha hb HN
              generalize Para.at_ s.data.toList j = z at *
              go_wp2_with (first
                | (go_at_call 22; (with_reducible refine (e1.out _).mono ?_); rintro e w4 ⟨rfl, hbn⟩; replace hW := below_run hW hbn; clear hbn)
                | (go_at_call 22; (with_reducible refine (e2.out _).mono ?_); rintro e w5 ⟨rfl, hbn⟩; replace hW := below_run hW hbn; clear hbn)
                | (go_at_call 23; (with_reducible refine (e3.out _).mono ?_); rintro e w6 ⟨rfl, hbn⟩; replace hW := below_run hW hbn; clear hbn))
              go_roundw
              case rel => exact ⟨j + 1, z, by go_num, by go_num, by omega, HN2, hW⟩
              case measure => simp [intOf]; omega
        · obtain rfl : j = k := by omega
          have g11 : decide ((j : Int) < (j : Int)) = false := decide_eq_false (by omega)
          have HG : Hid (F (i + 1) = v) := by show _ = _; rw [FS1.out]; exact Para.back_step HX.out.1 HX.out.2.1 HX.out.2.2 HN.out
          clear HN
          go_wp2
          go_roundw
          case rel => exact ⟨i + 1, by go_num, by rw [HG.out], by omega, hW⟩
          case measure => simp [intOf]; omega
    · obtain rfl : i = 1 := by omega
      have g10 : decide ((1 : Int) < (1 : Int)) = false := decide_eq_false (by omega)
      go_wp2
      go_ret2
      exact ⟨by rw [FN.out]; rfl, hW⟩
end Go.Proofs.Ytjgfcnjnedgejaa
