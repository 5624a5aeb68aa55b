/-
  Which of the offsets is next, as the document tells it: step by step, each looked for through the whole list.
-/
import Derived.Test.YtpgonbibekffhaaLookRef
import Derived.Test.YtpgonbibekffhaaLookNext
namespace Go.Proofs.Ytpgonbibekffhaa
open Go.RowKit Go.Shelf
namespace Look
/-- Where i steps lead. -/
def it (l : List Int) (p : Int) (back : Bool) (i : Nat) : Int := if i = 0 then p else nx l p back i
theorem it_zero (l : List Int) (p : Int) (back : Bool) : it l p back 0 = p := rfl
theorem it_succ {l : List Int} (hl : l.Pairwise (· < ·)) (h0 : l ≠ []) (p : Int) (back : Bool) (i : Nat) : it l p back (i + 1) = nx l (it l p back i) back 1 := by
  rw [it, if_neg (by omega)]
  cases i with
  | zero => rfl
  | succ i => rw [it, if_neg (by omega)]; exact nx_more hl h0 p back (by omega)
theorem it_pos {l : List Int} {p : Int} {back : Bool} {i : Nat} (h : 1 ≤ i) : it l p back i = nx l p back i := if_neg (by omega)
/-- On: what the loop from the end has found when the positions from j on are done. -/
def onTo (l : List Int) (p : Int) (j : Nat) : Int := (l[if max (cut l (p + 1)) j < l.length then max (cut l (p + 1)) j else 0]?).getD 0
theorem onTo_end {l : List Int} (p : Int) : onTo l p l.length = (l[0]?).getD 0 := by rw [onTo, if_neg (by omega)]
theorem onTo_zero {l : List Int} (h0 : l ≠ []) (p : Int) : onTo l p 0 = nx l p false 1 := by
  have hL := List.length_pos_iff.2 h0
  have hc := cut_le l (p + 1)
  rw [onTo, nx, if_neg (show ¬ (false = true) by simp), Nat.max_zero, Nat.sub_self, Nat.zero_mod, Nat.add_zero]
  by_cases h : cut l (p + 1) < l.length
  · rw [if_pos h, Nat.mod_eq_of_lt h]
  · rw [if_neg h, show cut l (p + 1) = l.length by omega, Nat.mod_self]
theorem onTo_step {l : List Int} (hl : l.Pairwise (· < ·)) (p : Int) {k : Nat} {x : Int} (hk : l[k]? = some x) : onTo l p k = if p < x then x else onTo l p (k + 1) := by
  have hkl := (List.getElem?_eq_some_iff.1 hk).1
  have hc := cut_iff hl hk (p + 1)
  by_cases h : p < x
  · rw [if_pos h, onTo, show max (cut l (p + 1)) k = k by omega, if_pos hkl, hk]; rfl
  · rw [if_neg h, onTo, onTo, show max (cut l (p + 1)) (k + 1) = max (cut l (p + 1)) k by omega]
/-- Back: what the loop from the beginning has found when the positions ahead of j are done. -/
def bkTo (l : List Int) (p : Int) (j : Nat) : Int := (l[if min (cut l p) j = 0 then l.length - 1 else min (cut l p) j - 1]?).getD 0
theorem bkTo_zero {l : List Int} (p : Int) : bkTo l p 0 = (l[l.length - 1]?).getD 0 := by rw [bkTo, if_pos (by omega)]
theorem bkTo_end {l : List Int} (h0 : l ≠ []) (p : Int) : bkTo l p l.length = nx l p true 1 := by
  have hL := List.length_pos_iff.2 h0
  have hc := cut_le l p
  rw [bkTo, nx, if_pos (show true = true from rfl), Nat.sub_self, Nat.zero_mod, Nat.sub_zero, show min (cut l p) l.length = cut l p by omega]
  by_cases h : cut l p = 0
  · rw [if_pos h, h, Nat.zero_add, Nat.mod_eq_of_lt (by omega)]
  · rw [if_neg h, show cut l p + l.length - 1 = (cut l p - 1) + l.length by omega, Nat.add_mod_right, Nat.mod_eq_of_lt (by omega)]
theorem bkTo_step {l : List Int} (hl : l.Pairwise (· < ·)) (p : Int) {k : Nat} {x : Int} (hk : l[k]? = some x) : bkTo l p (k + 1) = if x < p then x else bkTo l p k := by
  have hkl := (List.getElem?_eq_some_iff.1 hk).1
  have hc := cut_iff hl hk p
  by_cases h : x < p
  · rw [if_pos h, bkTo, show min (cut l p) (k + 1) = k + 1 by omega, if_neg (by omega), Nat.add_sub_cancel, hk]; rfl
  · rw [if_neg h, bkTo, bkTo, show min (cut l p) (k + 1) = min (cut l p) k by omega]
end Look
set_option maxHeartbeats 1000000 in
set_option maxRecDepth 100000 in
theorem ref20_Next_no (s : ByteArray) (x : Int) (p : ByteArray) (back : Bool) (n : Int) (hs : s.size ≤ 1000000000000) (hp : p.size ≤ 1000000000000) (h : Look.all s.data.toList p.data.toList = [] ∨ Utf.place s.data.toList x = false) (w : World) :
    Calls Try.prog 11 #[.string s, .int .i64 x, .string p, .bool back, .int .i64 n] w fun e w' => e = .returned (.tuple #[.int .i64 0, .bool false]) ∧ Below w.heap.size w w' := by
  have A := Lib.hid (fun w => ref20_All s p hs hp w)
  have P := Lib.hid (fun w => ref_Place s x (by omega) w)
  by_cases h0 : Look.all s.data.toList p.data.toList = []
  · rw [h0] at A
    clear h h0
    go_enter Try.func11, Try.ntmps11
    go_wp2_with (go_at_call 9; refine (A.out _).mono ?_; rintro e w1 ⟨⟨v, rfl, hr⟩, hb⟩; obtain ⟨a, c, rfl⟩ := own_shape hr)
    go_ret2
    exact ⟨rfl, hb⟩
  · have hx := h.resolve_left h0
    have hlen2 : (((Look.all s.data.toList p.data.toList).length : Int) == 0) = false := by have := List.length_pos_iff.2 h0; simp; omega
    rw [hx] at P
    generalize Look.all s.data.toList p.data.toList = L at *
    clear h hx h0
    go_enter Try.func11, Try.ntmps11
    go_wp2_with (first
      | (go_at_call 9; refine (A.out _).mono ?_; rintro e w1 ⟨⟨v, rfl, hr⟩, hb⟩; obtain ⟨a, c, rfl⟩ := own_shape hr)
      | (go_at_call 16; refine (P.out _).mono ?_; rintro e w2 ⟨rfl, hb2⟩))
    go_ret2
    exact ⟨rfl, Look.on hb hb2⟩
set_option maxHeartbeats 2000000 in
set_option maxRecDepth 100000 in
theorem ref20_Next_on_low (s : ByteArray) (x : Int) (p : ByteArray) (n : Int) (hs : s.size ≤ 1000000000000) (hp : p.size ≤ 1000000000000) (hn : n < 1) (h0 : Look.all s.data.toList p.data.toList ≠ []) (hx : Utf.place s.data.toList x = true) (w : World) :
    Calls Try.prog 11 #[.string s, .int .i64 x, .string p, .bool false, .int .i64 n] w fun e w' => e = .returned (.tuple #[.int .i64 (Look.nx (Look.all s.data.toList p.data.toList) x false 1), .bool true]) ∧ Below w.heap.size w w' := by
  have A := Lib.hid (fun w => ref20_All s p hs hp w)
  have P := Lib.hid (fun w => ref_Place s x (by omega) w)
  rw [hx] at P
  have hal := Look.all_length s.data.toList p.data.toList
  rw [data_len] at hal
  have hup := Look.all_up s.data.toList p.data.toList
  have hL := List.length_pos_iff.2 h0
  generalize Look.all s.data.toList p.data.toList = L at *
  have g0 : ((L.length : Int) == 0) = false := by simp; omega
  have HL := Lib.hid (And.intro h0 (And.intro hup hL))
  have g1 : decide (n < 1) = true := by simp [hn]
  obtain ⟨q, hq⟩ : ∃ q : Nat, q = 0 := ⟨_, rfl⟩
  rw [show (1 : Nat) = q + 1 by omega]
  clear hx h0 hup
  go_enter Try.func11, Try.ntmps11
  go_wp2_with (first
    | (go_at_call 9; refine (A.out _).mono ?_; rintro e w1 ⟨⟨v, rfl, hr⟩, hb⟩; obtain ⟨g, c, rfl, hg, hcl⟩ := own_list hr HL.out.2.2; clear hr)
    | (go_at_call 16; refine (P.out _).mono ?_; rintro e w2 ⟨rfl, hb2⟩))
  have HC := Lib.hid (fun (k : Nat) (y : Int) (h : L[k]? = some y) => (hb2.cell (p := ⟨g, k, none⟩) hg).trans (hcl k y h))
  have HB := Lib.hid (Look.on hb hb2)
  clear hcl hb hb2 hg A P
  go_loopw [1, 13] (fun pv iv wr => ∃ i : Nat, i ≤ q + 1 ∧ pv = .int .i64 (Look.it L x false i) ∧ iv = .int .i64 i ∧ wr = w2) (fun _ iv _ => q + 1 - (intOf iv).toNat)
  case atStart => exact ⟨0, by omega, rfl, rfl, rfl⟩
  case round =>
    obtain ⟨i, hi, rfl, rfl, rfl⟩ := hrel
    have wl : IntKind.i64.wrap ((L.length : Int) - 1) = (L.length : Int) - 1 := by rw [IntKind.wrap_i64]; omega
    by_cases hlt : i < q + 1
    · have g2 : decide ((i : Int) < 1) = true := by simp; omega
      have wi : IntKind.i64.wrap ((i : Int) + 1) = (i : Int) + 1 := by rw [IntKind.wrap_i64]; omega
      have HS := Lib.hid (Look.it_succ HL.out.2.1 HL.out.1 x false i)
      generalize Look.it L x false i = V at *
      have c0 := HC.out 0 _ (List.getElem?_eq_getElem hL)
      have hst : Hid (L[0] = Look.onTo L V L.length) := by
        show _ = _
        rw [Look.onTo_end, List.getElem?_eq_getElem hL]; rfl
      have gz : (0 : Int) < (L.length : Int) := by omega
      go_wp2
      go_loopw [14, 16] (fun tv kv wq => ∃ (j : Nat) (m : Int), j ≤ L.length ∧ m = (j : Int) - 1 ∧ tv = .int .i64 (Look.onTo L V j) ∧ kv = .int .i64 m ∧ wq = wr) (fun _ kv _ => ((intOf kv) + 1).toNat)
      case atStart => exact ⟨L.length, _, Nat.le_refl _, rfl, by rw [← hst.out], rfl, rfl⟩
      case round =>
        obtain ⟨j, m, hj, hm, rfl, rfl, rfl⟩ := hrel
        have wj : IntKind.i64.wrap (m - 1) = m - 1 := by rw [IntKind.wrap_i64]; omega
        cases j with
        | succ k =>
          obtain rfl : m = (k : Int) := by omega
          have g3 : decide ((0 : Int) ≤ (k : Int)) = true := by simp
          have hjl : k < L.length := by omega
          have hy := List.getElem?_eq_getElem hjl
          have cj := HC.out k _ hy
          have HT := Lib.hid (Look.onTo_step HL.out.2.1 V hy)
          have hjl2 : (k : Int) < (L.length : Int) := by omega
          clear c0 hst gz hy hm
          generalize L[k] = y at *
          by_cases hv : V < y
          · have g4 : decide (V < y) = true := by simp [hv]
            rw [if_pos hv] at HT
            clear hv
            go_wp2
            go_roundw
            case rel => exact ⟨k, _, by omega, rfl, by rw [HT.out], rfl, by first | rfl | trivial⟩
            case measure => simp [intOf] <;> omega
          · have g4 : decide (V < y) = false := by simp; omega
            rw [if_neg hv] at HT
            clear hv
            go_wp2
            go_roundw
            case rel => exact ⟨k, _, by omega, rfl, by rw [HT.out], rfl, by first | rfl | trivial⟩
            case measure => simp [intOf] <;> omega
        | zero =>
          have g3 : decide ((0 : Int) ≤ m) = false := by simp; omega
          clear hm
          have HT : Hid (Look.onTo L V 0 = Look.nx L V false 1) := Look.onTo_zero HL.out.1 V
          go_wp2
          go_roundw
          case rel => exact ⟨i + 1, by omega, by rw [HS.out, ← HT.out], by go_num, by first | rfl | trivial⟩
          case measure => simp [intOf] <;> omega
    · have g2 : decide ((i : Int) < 1) = false := by simp; omega
      have HF : Hid (Look.it L x false i = Look.nx L x false (q + 1)) := by
        show _ = _
        rw [show i = q + 1 by omega]; exact Look.it_pos (by omega)
      go_wp2
      go_ret2
      exact ⟨by rw [HF.out]; rfl, HB.out⟩
set_option maxHeartbeats 2000000 in
set_option maxRecDepth 100000 in
theorem ref20_Next_on (s : ByteArray) (x : Int) (p : ByteArray) (q : Nat) (hs : s.size ≤ 1000000000000) (hp : p.size ≤ 1000000000000) (hn : q < 9223372036854775807) (h0 : Look.all s.data.toList p.data.toList ≠ []) (hx : Utf.place s.data.toList x = true) (w : World) :
    Calls Try.prog 11 #[.string s, .int .i64 x, .string p, .bool false, .int .i64 ((q : Int) + 1)] w fun e w' => e = .returned (.tuple #[.int .i64 (Look.nx (Look.all s.data.toList p.data.toList) x false (q + 1)), .bool true]) ∧ Below w.heap.size w w' := by
  have A := Lib.hid (fun w => ref20_All s p hs hp w)
  have P := Lib.hid (fun w => ref_Place s x (by omega) w)
  rw [hx] at P
  have hal := Look.all_length s.data.toList p.data.toList
  rw [data_len] at hal
  have hup := Look.all_up s.data.toList p.data.toList
  have hL := List.length_pos_iff.2 h0
  generalize Look.all s.data.toList p.data.toList = L at *
  have g0 : ((L.length : Int) == 0) = false := by simp; omega
  have HL := Lib.hid (And.intro h0 (And.intro hup hL))
  have g1 : decide ((q : Int) + 1 < 1) = false := by simp; omega
  clear hx h0 hup
  go_enter Try.func11, Try.ntmps11
  go_wp2_with (first
    | (go_at_call 9; refine (A.out _).mono ?_; rintro e w1 ⟨⟨v, rfl, hr⟩, hb⟩; obtain ⟨g, c, rfl, hg, hcl⟩ := own_list hr HL.out.2.2; clear hr)
    | (go_at_call 16; refine (P.out _).mono ?_; rintro e w2 ⟨rfl, hb2⟩))
  have HC := Lib.hid (fun (k : Nat) (y : Int) (h : L[k]? = some y) => (hb2.cell (p := ⟨g, k, none⟩) hg).trans (hcl k y h))
  have HB := Lib.hid (Look.on hb hb2)
  clear hcl hb hb2 hg A P
  go_loopw [1, 13] (fun pv iv wr => ∃ i : Nat, i ≤ q + 1 ∧ pv = .int .i64 (Look.it L x false i) ∧ iv = .int .i64 i ∧ wr = w2) (fun _ iv _ => q + 1 - (intOf iv).toNat)
  case atStart => exact ⟨0, by omega, rfl, rfl, rfl⟩
  case round =>
    obtain ⟨i, hi, rfl, rfl, rfl⟩ := hrel
    have wl : IntKind.i64.wrap ((L.length : Int) - 1) = (L.length : Int) - 1 := by rw [IntKind.wrap_i64]; omega
    by_cases hlt : i < q + 1
    · have g2 : decide ((i : Int) < (q : Int) + 1) = true := by simp; omega
      have wi : IntKind.i64.wrap ((i : Int) + 1) = (i : Int) + 1 := by rw [IntKind.wrap_i64]; omega
      have HS := Lib.hid (Look.it_succ HL.out.2.1 HL.out.1 x false i)
      generalize Look.it L x false i = V at *
      have c0 := HC.out 0 _ (List.getElem?_eq_getElem hL)
      have hst : Hid (L[0] = Look.onTo L V L.length) := by
        show _ = _
        rw [Look.onTo_end, List.getElem?_eq_getElem hL]; rfl
      have gz : (0 : Int) < (L.length : Int) := by omega
      go_wp2
      go_loopw [14, 16] (fun tv kv wq => ∃ (j : Nat) (m : Int), j ≤ L.length ∧ m = (j : Int) - 1 ∧ tv = .int .i64 (Look.onTo L V j) ∧ kv = .int .i64 m ∧ wq = wr) (fun _ kv _ => ((intOf kv) + 1).toNat)
      case atStart => exact ⟨L.length, _, Nat.le_refl _, rfl, by rw [← hst.out], rfl, rfl⟩
      case round =>
        obtain ⟨j, m, hj, hm, rfl, rfl, rfl⟩ := hrel
        have wj : IntKind.i64.wrap (m - 1) = m - 1 := by rw [IntKind.wrap_i64]; omega
        cases j with
        | succ k =>
          obtain rfl : m = (k : Int) := by omega
          have g3 : decide ((0 : Int) ≤ (k : Int)) = true := by simp
          have hjl : k < L.length := by omega
          have hy := List.getElem?_eq_getElem hjl
          have cj := HC.out k _ hy
          have HT := Lib.hid (Look.onTo_step HL.out.2.1 V hy)
          have hjl2 : (k : Int) < (L.length : Int) := by omega
          clear c0 hst gz hy hm
          generalize L[k] = y at *
          by_cases hv : V < y
          · have g4 : decide (V < y) = true := by simp [hv]
            rw [if_pos hv] at HT
            clear hv
            go_wp2
            go_roundw
            case rel => exact ⟨k, _, by omega, rfl, by rw [HT.out], rfl, by first | rfl | trivial⟩
            case measure => simp [intOf] <;> omega
          · have g4 : decide (V < y) = false := by simp; omega
            rw [if_neg hv] at HT
            clear hv
            go_wp2
            go_roundw
            case rel => exact ⟨k, _, by omega, rfl, by rw [HT.out], rfl, by first | rfl | trivial⟩
            case measure => simp [intOf] <;> omega
        | zero =>
          have g3 : decide ((0 : Int) ≤ m) = false := by simp; omega
          clear hm
          have HT : Hid (Look.onTo L V 0 = Look.nx L V false 1) := Look.onTo_zero HL.out.1 V
          go_wp2
          go_roundw
          case rel => exact ⟨i + 1, by omega, by rw [HS.out, ← HT.out], by go_num, by first | rfl | trivial⟩
          case measure => simp [intOf] <;> omega
    · have g2 : decide ((i : Int) < (q : Int) + 1) = false := by simp; omega
      have HF : Hid (Look.it L x false i = Look.nx L x false (q + 1)) := by
        show _ = _
        rw [show i = q + 1 by omega]; exact Look.it_pos (by omega)
      go_wp2
      go_ret2
      exact ⟨by rw [HF.out]; rfl, HB.out⟩
set_option maxHeartbeats 2000000 in
set_option maxRecDepth 100000 in
theorem ref20_Next_back_low (s : ByteArray) (x : Int) (p : ByteArray) (n : Int) (hs : s.size ≤ 1000000000000) (hp : p.size ≤ 1000000000000) (hn : n < 1) (h0 : Look.all s.data.toList p.data.toList ≠ []) (hx : Utf.place s.data.toList x = true) (w : World) :
    Calls Try.prog 11 #[.string s, .int .i64 x, .string p, .bool true, .int .i64 n] w fun e w' => e = .returned (.tuple #[.int .i64 (Look.nx (Look.all s.data.toList p.data.toList) x true 1), .bool true]) ∧ Below w.heap.size w w' := by
  have A := Lib.hid (fun w => ref20_All s p hs hp w)
  have P := Lib.hid (fun w => ref_Place s x (by omega) w)
  rw [hx] at P
  have hal := Look.all_length s.data.toList p.data.toList
  rw [data_len] at hal
  have hup := Look.all_up s.data.toList p.data.toList
  have hL := List.length_pos_iff.2 h0
  generalize Look.all s.data.toList p.data.toList = L at *
  have g0 : ((L.length : Int) == 0) = false := by simp; omega
  have HL := Lib.hid (And.intro h0 (And.intro hup hL))
  have g1 : decide (n < 1) = true := by simp [hn]
  obtain ⟨q, hq⟩ : ∃ q : Nat, q = 0 := ⟨_, rfl⟩
  rw [show (1 : Nat) = q + 1 by omega]
  clear hx h0 hup
  go_enter Try.func11, Try.ntmps11
  go_wp2_with (first
    | (go_at_call 9; refine (A.out _).mono ?_; rintro e w1 ⟨⟨v, rfl, hr⟩, hb⟩; obtain ⟨g, c, rfl, hg, hcl⟩ := own_list hr HL.out.2.2; clear hr)
    | (go_at_call 16; refine (P.out _).mono ?_; rintro e w2 ⟨rfl, hb2⟩))
  have HC := Lib.hid (fun (k : Nat) (y : Int) (h : L[k]? = some y) => (hb2.cell (p := ⟨g, k, none⟩) hg).trans (hcl k y h))
  have HB := Lib.hid (Look.on hb hb2)
  clear hcl hb hb2 hg A P
  go_loopw [1, 13] (fun pv iv wr => ∃ i : Nat, i ≤ q + 1 ∧ pv = .int .i64 (Look.it L x true i) ∧ iv = .int .i64 i ∧ wr = w2) (fun _ iv _ => q + 1 - (intOf iv).toNat)
  case atStart => exact ⟨0, by omega, rfl, rfl, rfl⟩
  case round =>
    obtain ⟨i, hi, rfl, rfl, rfl⟩ := hrel
    have wl : IntKind.i64.wrap ((L.length : Int) - 1) = (L.length : Int) - 1 := by rw [IntKind.wrap_i64]; omega
    by_cases hlt : i < q + 1
    · have g2 : decide ((i : Int) < 1) = true := by simp; omega
      have wi : IntKind.i64.wrap ((i : Int) + 1) = (i : Int) + 1 := by rw [IntKind.wrap_i64]; omega
      have HS := Lib.hid (Look.it_succ HL.out.2.1 HL.out.1 x true i)
      generalize Look.it L x true i = V at *
      have c0 := HC.out 0 _ (List.getElem?_eq_getElem hL)
      obtain ⟨z, hz⟩ : ∃ z : Nat, L.length = z + 1 := ⟨L.length - 1, by omega⟩
      have cz := HC.out z _ (List.getElem?_eq_getElem (by omega))
      have hzi : (L.length : Int) - 1 = (z : Int) := by omega
      have gz : (z : Int) < (L.length : Int) := by omega
      have gz2 : z < L.length := by omega
      have hst : Hid (L[z] = Look.bkTo L V 0) := by
        show _ = _
        rw [Look.bkTo_zero, show L.length - 1 = z by omega, List.getElem?_eq_getElem gz2]; rfl
      rw [hzi] at wl
      go_wp2
      go_loopw [14, 15] (fun tv kv wq => ∃ j : Nat, j ≤ L.length ∧ tv = .int .i64 (Look.bkTo L V j) ∧ kv = .int .i64 j ∧ wq = wr) (fun _ kv _ => L.length - (intOf kv).toNat)
      case atStart => exact ⟨0, by omega, by rw [← hst.out], rfl, rfl⟩
      case round =>
        obtain ⟨j, hj, rfl, rfl, rfl⟩ := hrel
        have wj : IntKind.i64.wrap ((j : Int) + 1) = (j : Int) + 1 := by rw [IntKind.wrap_i64]; omega
        by_cases hjl : j < L.length
        · have g3 : decide ((j : Int) < (L.length : Int)) = true := by simp; omega
          have hy := List.getElem?_eq_getElem hjl
          have cj := HC.out j _ hy
          have HT := Lib.hid (Look.bkTo_step HL.out.2.1 V hy)
          have hjl2 : (j : Int) < (L.length : Int) := by omega
          clear c0 cz hst hzi gz gz2 hy
          generalize L[j] = y at *
          by_cases hv : y < V
          · have g4 : decide (y < V) = true := by simp [hv]
            rw [if_pos hv] at HT
            clear hv
            go_wp2
            go_roundw
            case rel => exact ⟨j + 1, by omega, by rw [HT.out], by go_num, by first | rfl | trivial⟩
            case measure => simp [intOf] <;> omega
          · have g4 : decide (y < V) = false := by simp; omega
            rw [if_neg hv] at HT
            clear hv
            go_wp2
            go_roundw
            case rel => exact ⟨j + 1, by omega, by rw [HT.out], by go_num, by first | rfl | trivial⟩
            case measure => simp [intOf] <;> omega
        · have g3 : decide ((j : Int) < (L.length : Int)) = false := by simp; omega
          have HT : Hid (Look.bkTo L V j = Look.nx L V true 1) := by
            show _ = _
            rw [show j = L.length by omega]; exact Look.bkTo_end HL.out.1 V
          go_wp2
          go_roundw
          case rel => exact ⟨i + 1, by omega, by rw [HS.out, ← HT.out], by go_num, by first | rfl | trivial⟩
          case measure => simp [intOf] <;> omega
    · have g2 : decide ((i : Int) < 1) = false := by simp; omega
      have HF : Hid (Look.it L x true i = Look.nx L x true (q + 1)) := by
        show _ = _
        rw [show i = q + 1 by omega]; exact Look.it_pos (by omega)
      go_wp2
      go_ret2
      exact ⟨by rw [HF.out]; rfl, HB.out⟩
set_option maxHeartbeats 2000000 in
set_option maxRecDepth 100000 in
theorem ref20_Next_back (s : ByteArray) (x : Int) (p : ByteArray) (q : Nat) (hs : s.size ≤ 1000000000000) (hp : p.size ≤ 1000000000000) (hn : q < 9223372036854775807) (h0 : Look.all s.data.toList p.data.toList ≠ []) (hx : Utf.place s.data.toList x = true) (w : World) :
    Calls Try.prog 11 #[.string s, .int .i64 x, .string p, .bool true, .int .i64 ((q : Int) + 1)] w fun e w' => e = .returned (.tuple #[.int .i64 (Look.nx (Look.all s.data.toList p.data.toList) x true (q + 1)), .bool true]) ∧ Below w.heap.size w w' := by
  have A := Lib.hid (fun w => ref20_All s p hs hp w)
  have P := Lib.hid (fun w => ref_Place s x (by omega) w)
  rw [hx] at P
  have hal := Look.all_length s.data.toList p.data.toList
  rw [data_len] at hal
  have hup := Look.all_up s.data.toList p.data.toList
  have hL := List.length_pos_iff.2 h0
  generalize Look.all s.data.toList p.data.toList = L at *
  have g0 : ((L.length : Int) == 0) = false := by simp; omega
  have HL := Lib.hid (And.intro h0 (And.intro hup hL))
  have g1 : decide ((q : Int) + 1 < 1) = false := by simp; omega
  clear hx h0 hup
  go_enter Try.func11, Try.ntmps11
  go_wp2_with (first
    | (go_at_call 9; refine (A.out _).mono ?_; rintro e w1 ⟨⟨v, rfl, hr⟩, hb⟩; obtain ⟨g, c, rfl, hg, hcl⟩ := own_list hr HL.out.2.2; clear hr)
    | (go_at_call 16; refine (P.out _).mono ?_; rintro e w2 ⟨rfl, hb2⟩))
  have HC := Lib.hid (fun (k : Nat) (y : Int) (h : L[k]? = some y) => (hb2.cell (p := ⟨g, k, none⟩) hg).trans (hcl k y h))
  have HB := Lib.hid (Look.on hb hb2)
  clear hcl hb hb2 hg A P
  go_loopw [1, 13] (fun pv iv wr => ∃ i : Nat, i ≤ q + 1 ∧ pv = .int .i64 (Look.it L x true i) ∧ iv = .int .i64 i ∧ wr = w2) (fun _ iv _ => q + 1 - (intOf iv).toNat)
  case atStart => exact ⟨0, by omega, rfl, rfl, rfl⟩
  case round =>
    obtain ⟨i, hi, rfl, rfl, rfl⟩ := hrel
    have wl : IntKind.i64.wrap ((L.length : Int) - 1) = (L.length : Int) - 1 := by rw [IntKind.wrap_i64]; omega
    by_cases hlt : i < q + 1
    · have g2 : decide ((i : Int) < (q : Int) + 1) = true := by simp; omega
      have wi : IntKind.i64.wrap ((i : Int) + 1) = (i : Int) + 1 := by rw [IntKind.wrap_i64]; omega
      have HS := Lib.hid (Look.it_succ HL.out.2.1 HL.out.1 x true i)
      generalize Look.it L x true i = V at *
      have c0 := HC.out 0 _ (List.getElem?_eq_getElem hL)
      obtain ⟨z, hz⟩ : ∃ z : Nat, L.length = z + 1 := ⟨L.length - 1, by omega⟩
      have cz := HC.out z _ (List.getElem?_eq_getElem (by omega))
      have hzi : (L.length : Int) - 1 = (z : Int) := by omega
      have gz : (z : Int) < (L.length : Int) := by omega
      have gz2 : z < L.length := by omega
      have hst : Hid (L[z] = Look.bkTo L V 0) := by
        show _ = _
        rw [Look.bkTo_zero, show L.length - 1 = z by omega, List.getElem?_eq_getElem gz2]; rfl
      rw [hzi] at wl
      go_wp2
      go_loopw [14, 15] (fun tv kv wq => ∃ j : Nat, j ≤ L.length ∧ tv = .int .i64 (Look.bkTo L V j) ∧ kv = .int .i64 j ∧ wq = wr) (fun _ kv _ => L.length - (intOf kv).toNat)
      case atStart => exact ⟨0, by omega, by rw [← hst.out], rfl, rfl⟩
      case round =>
        obtain ⟨j, hj, rfl, rfl, rfl⟩ := hrel
        have wj : IntKind.i64.wrap ((j : Int) + 1) = (j : Int) + 1 := by rw [IntKind.wrap_i64]; omega
        by_cases hjl : j < L.length
        · have g3 : decide ((j : Int) < (L.length : Int)) = true := by simp; omega
          have hy := List.getElem?_eq_getElem hjl
          have cj := HC.out j _ hy
          have HT := Lib.hid (Look.bkTo_step HL.out.2.1 V hy)
          have hjl2 : (j : Int) < (L.length : Int) := by omega
          clear c0 cz hst hzi gz gz2 hy
          generalize L[j] = y at *
          by_cases hv : y < V
          · have g4 : decide (y < V) = true := by simp [hv]
            rw [if_pos hv] at HT
            clear hv
            go_wp2
            go_roundw
            case rel => exact ⟨j + 1, by omega, by rw [HT.out], by go_num, by first | rfl | trivial⟩
            case measure => simp [intOf] <;> omega
          · have g4 : decide (y < V) = false := by simp; omega
            rw [if_neg hv] at HT
            clear hv
            go_wp2
            go_roundw
            case rel => exact ⟨j + 1, by omega, by rw [HT.out], by go_num, by first | rfl | trivial⟩
            case measure => simp [intOf] <;> omega
        · have g3 : decide ((j : Int) < (L.length : Int)) = false := by simp; omega
          have HT : Hid (Look.bkTo L V j = Look.nx L V true 1) := by
            show _ = _
            rw [show j = L.length by omega]; exact Look.bkTo_end HL.out.1 V
          go_wp2
          go_roundw
          case rel => exact ⟨i + 1, by omega, by rw [HS.out, ← HT.out], by go_num, by first | rfl | trivial⟩
          case measure => simp [intOf] <;> omega
    · have g2 : decide ((i : Int) < (q : Int) + 1) = false := by simp; omega
      have HF : Hid (Look.it L x true i = Look.nx L x true (q + 1)) := by
        show _ = _
        rw [show i = q + 1 by omega]; exact Look.it_pos (by omega)
      go_wp2
      go_ret2
      exact ⟨by rw [HF.out]; rfl, HB.out⟩
theorem ref20_Next (s : ByteArray) (x : Int) (p : ByteArray) (back : Bool) (n : Int) (hs : s.size ≤ 1000000000000) (hp : p.size ≤ 1000000000000) (hn : n ≤ 9223372036854775807) (w : World) :
    Calls Try.prog 11 #[.string s, .int .i64 x, .string p, .bool back, .int .i64 n] w fun e w' => e = .returned (Look.res s.data.toList p.data.toList x back n) ∧ Below w.heap.size w w' := by
  by_cases h : Look.all s.data.toList p.data.toList = [] ∨ Utf.place s.data.toList x = false
  · rw [Look.res_no h]
    exact ref20_Next_no s x p back n hs hp h w
  · have h0 : Look.all s.data.toList p.data.toList ≠ [] := fun h1 => h (.inl h1)
    have hx : Utf.place s.data.toList x = true := by
      cases h1 : Utf.place s.data.toList x with
      | true => rfl
      | false => exact absurd (.inr h1) h
    rw [Look.res_at h0 hx]
    by_cases hl : n < 1
    · rw [show (max n 1).toNat = 1 by omega]
      cases back with
      | false => exact ref20_Next_on_low s x p n hs hp hl h0 hx w
      | true => exact ref20_Next_back_low s x p n hs hp hl h0 hx w
    · obtain ⟨q, rfl⟩ : ∃ q : Nat, n = (q : Int) + 1 := ⟨(n - 1).toNat, by omega⟩
      rw [show (max ((q : Int) + 1) 1).toNat = q + 1 by omega]
      cases back with
      | false => exact ref20_Next_on s x p q hs hp (by omega) h0 hx w
      | true => exact ref20_Next_back s x p q hs hp (by omega) h0 hx w
end Go.Proofs.Ytpgonbibekffhaa
