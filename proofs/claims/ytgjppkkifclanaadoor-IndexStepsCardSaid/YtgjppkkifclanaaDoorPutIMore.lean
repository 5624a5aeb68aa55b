/-
  put where offsets are wrong, and of nobody; Insert and Delete as one contract each; what nobody answers.
-/
import Derived.Test.YtgjppkkifclanaaDoorPutI
import Derived.Test.YtgjppkkifclanaaDoorTextRef
namespace Go.Proofs.YtgjppkkifclanaaDoor
open Go.RowKit
open Pc
set_option maxHeartbeats 1000000 in
set_option maxRecDepth 100000 in
theorem index_put_no {B p : Nat} {t : List UInt8} (i j : Int) (s : List UInt8) {w : World} (h : Sees B (.pointer (some ⟨p, 0, none⟩)) (Ix.ends t) w) (hn : ¬ okD t i j) :
    Calls Tryd.prog 30 #[.pointer (some ⟨p, 0, none⟩), .int .i64 i, .int .i64 j, .string (bs s)] w fun e w' => e = .returned (.int .i64 6) ∧ Below w.heap.size w w' := by
  have hlen : (Ix.ends t).getD ((Ix.ends t).length - 1) 0 = t.length := Ix.getD_of (Ix.ends_last t)
  have C0 : Hid (Calls Tryd.prog 11 #[.pointer (some ⟨p, 0, none⟩)] w fun e w' => e = .returned (.int .i64 (t.length : Nat)) ∧ Below w.heap.size w w') := by
    have := index_Len h
    rw [hlen] at this
    exact this
  clear h hlen
  by_cases h1 : i < 0
  · have d1 : decide (i < 0) = true := decide_eq_true h1
    clear h1 hn
    go_enter Tryd.func30, Tryd.ntmps30
    go_wp2_with (fail)
    go_ret
    exact ⟨rfl, Below.refl _ _⟩
  · have d1 : decide (i < 0) = false := decide_eq_false h1
    by_cases h2 : j < i
    · have d2 : decide (j < i) = true := decide_eq_true h2
      clear h1 h2 hn
      go_enter Tryd.func30, Tryd.ntmps30
      go_wp2_with (fail)
      go_ret
      exact ⟨rfl, Below.refl _ _⟩
    · have d2 : decide (j < i) = false := decide_eq_false h2
      have d3 : decide ((t.length : Int) < j) = true := decide_eq_true (by unfold okD at hn; omega)
      clear h1 h2 hn
      go_enter Tryd.func30, Tryd.ntmps30
      go_wp2_with (go_at_call 11; with_reducible refine C0.out.mono ?_; rintro e w1 ⟨rfl, hb1⟩)
      go_ret
      exact ⟨rfl, hb1⟩
theorem index_put {B p : Nat} {a0 a1 : Value} {t : List UInt8} (i j : Int) (s : List UInt8) {w : World} (hB : B ≤ w.heap.size) (hBp : B ≤ p) (hp : Blk w p 44 #[a0, a1])
    (h : Sees B (.pointer (some ⟨p, 0, none⟩)) (Ix.ends t) w) (hl : t.length + s.length ≤ 100000000000) :
    Calls Tryd.prog 30 #[.pointer (some ⟨p, 0, none⟩), .int .i64 i, .int .i64 j, .string (bs s)] w fun e w' => e = .returned (.int .i64 (if okD t i j then 0 else 6)) ∧
      (okD t i j → Idx B p (Ix.put t i.toNat j.toNat s) w') ∧ (¬ okD t i j → Below w.heap.size w w') ∧ KeepsI B w w' := by
  by_cases hx : okD t i j
  · simp only [if_pos hx]
    obtain ⟨h1, h2, h3⟩ := hx
    obtain ⟨n, rfl⟩ := Int.eq_ofNat_of_zero_le h1
    obtain ⟨m, rfl⟩ := Int.eq_ofNat_of_zero_le (Int.le_trans h1 h2)
    refine (index_put_ok n m s hB hBp hp h (by omega) (by omega) hl).mono ?_
    rintro e w' ⟨rfl, hI, hK⟩
    exact ⟨rfl, fun _ => hI, fun h => absurd ⟨h1, h2, h3⟩ h, hK⟩
  · simp only [if_neg hx]
    refine (index_put_no i j s h hx).mono ?_
    rintro e w' ⟨rfl, hb⟩
    exact ⟨rfl, fun h => absurd h hx, fun _ => hb, KeepsI.of_below hB hb⟩
set_option maxHeartbeats 400000 in
theorem insertI_of {x : Value} {i n : Int} {s : ByteArray} {w : World} {R : World → Prop} (h : Calls Tryd.prog 30 #[x, .int .i64 i, .int .i64 i, .string s] w fun e w' => e = .returned (.int .i64 n) ∧ R w') :
    Calls Tryd.prog 20 #[x, .int .i64 i, .string s] w fun e w' => e = .returned (.int .i64 n) ∧ R w' := by
  have H := Lib.hid h
  clear h
  go_enter Tryd.func20, Tryd.ntmps20
  go_wp2_with (go_at_call 30; refine H.out.mono ?_; rintro e w2 ⟨rfl, hR⟩)
  go_ret
  exact ⟨rfl, hR⟩
set_option maxHeartbeats 400000 in
theorem deleteI_of {x : Value} {i j n : Int} {w : World} {R : World → Prop} (h : Calls Tryd.prog 30 #[x, .int .i64 i, .int .i64 j, .string ⟨#[]⟩] w fun e w' => e = .returned (.int .i64 n) ∧ R w') :
    Calls Tryd.prog 21 #[x, .int .i64 i, .int .i64 j] w fun e w' => e = .returned (.int .i64 n) ∧ R w' := by
  have H := Lib.hid h
  clear h
  go_enter Tryd.func21, Tryd.ntmps21
  go_wp2_with (go_at_call 30; refine H.out.mono ?_; rintro e w2 ⟨rfl, hR⟩)
  go_ret
  exact ⟨rfl, hR⟩
/-- What Insert, and Delete, do with an index that New gave, and with one that New did not give. -/
theorem idx_insert {B p : Nat} {t : List UInt8} (x : Int) (s : List UInt8) {w : World} (hB : B ≤ w.heap.size) (h : Idx B p t w) (hl : t.length + s.length ≤ 100000000000) :
    Calls Tryd.prog 20 #[.pointer (some ⟨p, 0, none⟩), .int .i64 x, .string (bs s)] w fun e w' => e = .returned (.int .i64 (if okI t x then 0 else 6)) ∧
      Idx B p (if okI t x then ins t x.toNat s else t) w' ∧ KeepsI B w w' := by
  have hs := idx_sees h (by omega)
  obtain ⟨v, h1⟩ := h
  have e : okD t x x ↔ okI t x := by unfold okD okI; omega
  have := index_put x x s hB h1.low h1.self hs hl
  have e2 : (if okD t x x then (0 : Int) else 6) = if okI t x then 0 else 6 := by
    by_cases hx : okI t x
    · rw [if_pos hx, if_pos (e.2 hx)]
    · rw [if_neg hx, if_neg (fun h => hx (e.1 h))]
  rw [e2] at this
  refine insertI_of (this.mono ?_)
  rintro e' w' ⟨rfl, h2, h3, h4⟩
  refine ⟨rfl, ?_, h4⟩
  by_cases hx : okI t x
  · rw [if_pos hx]; exact h2 (e.2 hx)
  · rw [if_neg hx]; exact ⟨v, h1.below (h3 (fun h => hx (e.1 h)))⟩
theorem idx_delete {B p : Nat} {t : List UInt8} (i j : Int) {w : World} (hB : B ≤ w.heap.size) (h : Idx B p t w) (hl : t.length ≤ 100000000000) :
    Calls Tryd.prog 21 #[.pointer (some ⟨p, 0, none⟩), .int .i64 i, .int .i64 j] w fun e w' => e = .returned (.int .i64 (if okD t i j then 0 else 6)) ∧
      Idx B p (if okD t i j then del t i.toNat j.toNat else t) w' ∧ KeepsI B w w' := by
  have hs := idx_sees h (by omega)
  obtain ⟨v, h1⟩ := h
  have := index_put i j [] hB h1.low h1.self hs (by simpa using hl)
  refine deleteI_of (this.mono ?_)
  rintro e' w' ⟨rfl, h2, h3, h4⟩
  refine ⟨rfl, ?_, h4⟩
  by_cases hx : okD t i j
  · rw [if_pos hx]; exact h2 hx
  · rw [if_neg hx]; exact ⟨v, h1.below (h3 hx)⟩
theorem zero_insert {B p : Nat} (s : List UInt8) {w : World} (hB : B ≤ w.heap.size) (h : ZeroI B p w) (hl : s.length ≤ 100000000000) :
    Calls Tryd.prog 20 #[.pointer (some ⟨p, 0, none⟩), .int .i64 0, .string (bs s)] w fun e w' => e = .returned (.int .i64 0) ∧ Idx B p s w' ∧ KeepsI B w w' := by
  have := index_put_ok 0 0 s hB h.1 h.2 (zero_sees hB h) (Nat.le_refl _) (by simp) (by simpa using hl)
  refine insertI_of (this.mono ?_)
  rintro e' w' ⟨rfl, h2, h3⟩
  refine ⟨rfl, ?_, h3⟩
  have e : Ix.put [] 0 0 s = s := by simp [Ix.put]
  rwa [e] at h2
-- nobody
set_option maxHeartbeats 400000 in
theorem none_held (w : World) : Calls Tryd.prog 27 #[.pointer none] w fun e w' => e = .returned (.slice none 0 0) ∧ w = w' := by
  go_enter Tryd.func27, Tryd.ntmps27
  go_wp2
  go_ret
  exact ⟨rfl, rfl⟩
set_option maxHeartbeats 400000 in
theorem none_Lines (w : World) : Calls Tryd.prog 12 #[.pointer none] w fun e w' => e = .returned (.int .i64 0) ∧ w = w' := by
  go_enter Tryd.func12, Tryd.ntmps12
  go_wp2_with (go_at_call 27; refine (none_held _).mono ?_; rintro e w2 ⟨rfl, rfl⟩)
  go_ret
  exact ⟨rfl, rfl⟩
set_option maxHeartbeats 400000 in
theorem none_Start (k : Int) (w : World) : Calls Tryd.prog 14 #[.pointer none, .int .i64 k] w fun e w' => e = .returned (.int .i64 (-1)) ∧ w = w' := by
  by_cases h0 : k < 0
  · have d1 : decide (k < 0) = true := decide_eq_true h0
    go_enter Tryd.func14, Tryd.ntmps14
    go_wp2_with (go_at_call 27; refine (none_held _).mono ?_; rintro e w2 ⟨rfl, rfl⟩)
    go_ret
    exact ⟨rfl, rfl⟩
  · have d1 : decide (k < 0) = false := decide_eq_false h0
    have d2 : decide (0 ≤ k) = true := decide_eq_true (by omega)
    go_enter Tryd.func14, Tryd.ntmps14
    go_wp2_with (go_at_call 27; refine (none_held _).mono ?_; rintro e w2 ⟨rfl, rfl⟩)
    go_ret
    exact ⟨rfl, rfl⟩
set_option maxHeartbeats 400000 in
theorem none_End (k : Int) (w : World) : Calls Tryd.prog 16 #[.pointer none, .int .i64 k] w fun e w' => e = .returned (.int .i64 (-1)) ∧ w = w' := by
  by_cases h0 : k < 0
  · have d1 : decide (k < 0) = true := decide_eq_true h0
    go_enter Tryd.func16, Tryd.ntmps16
    go_wp2_with (go_at_call 27; refine (none_held _).mono ?_; rintro e w2 ⟨rfl, rfl⟩)
    go_ret
    exact ⟨rfl, rfl⟩
  · have d1 : decide (k < 0) = false := decide_eq_false h0
    have d2 : decide (0 ≤ k) = true := decide_eq_true (by omega)
    go_enter Tryd.func16, Tryd.ntmps16
    go_wp2_with (go_at_call 27; refine (none_held _).mono ?_; rintro e w2 ⟨rfl, rfl⟩)
    go_ret
    exact ⟨rfl, rfl⟩
set_option maxHeartbeats 400000 in
theorem none_Len (w : World) : Calls Tryd.prog 11 #[.pointer none] w fun e w' => e = .returned (.int .i64 0) ∧ w = w' := by
  go_enter Tryd.func11, Tryd.ntmps11
  go_wp2_with (first
    | (go_at_call 12; refine (none_Lines _).mono ?_; rintro e w2 ⟨rfl, rfl⟩)
    | (go_at_call 16; refine (none_End _ _).mono ?_; rintro e w2 ⟨rfl, rfl⟩))
  go_ret
  exact ⟨rfl, rfl⟩
set_option maxHeartbeats 400000 in
theorem none_search (p : Int) (w : World) : Calls Tryd.prog 29 #[.slice none 0 0, .int .i64 p] w fun e w' => e = .returned (.tuple #[.int .i64 0, .bool false]) ∧ Below w.heap.size w w' := by
  go_enter Tryd.func29, Tryd.ntmps29
  go_wp2
  go_loopw [7, 8] (fun a b wr => a = .int .i64 0 ∧ b = .int .i64 0 ∧ Below w.heap.size w wr) (fun _ _ _ => 0)
  case atStart => exact ⟨rfl, rfl, Below.refl _ _⟩
  case round =>
    obtain ⟨rfl, rfl, hb⟩ := hrel
    go_wp2
    go_ret2
    exact ⟨rfl, hb⟩
set_option maxHeartbeats 400000 in
theorem none_Of (p : Int) (w : World) : Calls Tryd.prog 18 #[.pointer none, .int .i64 p] w fun e w' => e = .returned (.int .i64 (-1)) ∧ Below w.heap.size w w' := by
  by_cases h0 : p < 0
  · have d1 : decide (p < 0) = true := decide_eq_true h0
    go_enter Tryd.func18, Tryd.ntmps18
    go_wp2_with (first
      | (go_at_call 27; refine (none_held _).mono ?_; rintro e w2 ⟨rfl, rfl⟩)
      | (go_at_call 29; refine (none_search _ _).mono ?_; rintro e w3 ⟨rfl, hb3⟩))
    go_ret
    exact ⟨rfl, hb3⟩
  · have d1 : decide (p < 0) = false := decide_eq_false h0
    go_enter Tryd.func18, Tryd.ntmps18
    go_wp2_with (first
      | (go_at_call 27; refine (none_held _).mono ?_; rintro e w2 ⟨rfl, rfl⟩)
      | (go_at_call 29; refine (none_search _ _).mono ?_; rintro e w3 ⟨rfl, hb3⟩))
    go_ret
    exact ⟨rfl, hb3⟩
set_option maxHeartbeats 400000 in
theorem none_put (i j : Int) (s : ByteArray) (w : World) : Calls Tryd.prog 30 #[.pointer none, .int .i64 i, .int .i64 j, .string s] w fun e w' => e = .returned (.int .i64 7) ∧ w = w' := by
  go_enter Tryd.func30, Tryd.ntmps30
  go_wp2
  go_ret
  exact ⟨rfl, rfl⟩
theorem none_insertI (i : Int) (s : ByteArray) (w : World) : Calls Tryd.prog 20 #[.pointer none, .int .i64 i, .string s] w fun e w' => e = .returned (.int .i64 7) ∧ w = w' :=
  insertI_of (R := fun w' => w = w') (none_put i i s w)
theorem none_deleteI (i j : Int) (w : World) : Calls Tryd.prog 21 #[.pointer none, .int .i64 i, .int .i64 j] w fun e w' => e = .returned (.int .i64 7) ∧ w = w' :=
  deleteI_of (R := fun w' => w = w') (none_put i j _ w)
end Go.Proofs.YtgjppkkifclanaaDoor
