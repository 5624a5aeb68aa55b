/-
  A number in decimal digits, as the document's answer tells it, and as strconv.Itoa does.
-/
import Derived.Test.YtchmiigjiojiaaaDoorBase
import Derived.Test.YtchmiigjiojiaaaDoorShelf
import Derived.Lib.ItoaMem
import Derived.Lib.ItoaLen
import Derived.IntWalk
namespace Go.Proofs.YtchmiigjiojiaaaDoor
open Go.RowKit
/-- A number of 64 bits. -/
def I64 (n : Int) : Prop := -9223372036854775808 ≤ n ∧ n ≤ 9223372036854775807
theorem digits_small {u : Nat} (h : u < 10) : Lib.decDigits u = [UInt8.ofNat (48 + u)] := by
  rw [Lib.decDigits, dif_pos h]
theorem digits_great {u : Nat} (h : ¬ u < 10) : Lib.decDigits u = Lib.decDigits (u / 10) ++ Lib.decDigits (u % 10) := by
  rw [Lib.decDigits, dif_neg h, digits_small (show u % 10 < 10 by omega)]
theorem digits_length : ∀ u : Nat, u ≤ 9223372036854775808 → (Lib.decDigits u).length ≤ 21 := fun u h => by
  rcases Nat.eq_zero_or_pos u with h0 | h0
  · subst h0; rw [digits_small (by omega)]; simp
  · have h1 := Lib.itoa_length_le (-(u : Int)) (by omega) (by omega)
    rw [Lib.itoa_neg u h0, List.length_cons] at h1
    omega
theorem run_bytes1 {P : Program} (w : World) (ts td te : TypeId) (x0 : Int) (hs : P.underlying ts = some (.slice te)) (he : P.underlying te = some (.int .u8)) (hd : P.underlying td = some .string) :
    (convert ts td (.slice (some ⟨w.heap.size, 0, none⟩) 1 1)).run P (w.alloc (.cells #[.int .u8 x0] te)) = .ok (.string (bs [UInt8.ofNat x0.toNat])) (w.alloc (.cells #[.int .u8 x0] te)) := by
  rw [run_convert_bytes_string _ ts td te _ _ _ hs he hd]
  rw [run_bytesToString _ _ 1 1 [x0]]
  · rfl
  · exact run_loadCells_list _ _ [Value.int .u8 x0] (fun j v h => by
      have hb := Blk.new w te #[.int .u8 x0]
      have e : (⟨w.heap.size, 0, none⟩ : Addr).add j = ⟨w.heap.size, j, none⟩ := by unfold Addr.add; split <;> simp_all
      rw [e, hb.cell]; simpa using h)
set_option maxHeartbeats 1000000 in
theorem digits_nat : ∀ (u : Nat) (w : World), u ≤ 9223372036854775807 →
    Calls Tryd.prog 26 #[.int .i64 u] w fun e w' => e = .returned (.string (bs (Lib.decDigits u))) ∧ Below w.heap.size w w' := by
  intro u
  induction u using Nat.strongRecOn with
  | ind u ih =>
    intro w hu
    by_cases h10 : u < 10
    · have H := Lib.hid (digits_small h10)
      have hcv := fun x0 => run_bytes1 (P := Tryd.prog) w 67 9 5 x0 Tryd.underlying67 Tryd.underlying5 Tryd.underlying9
      clear ih
      go_enter Tryd.func26, Tryd.ntmps26
      go_wp2_with fail
      go_ret
      exact ⟨by rw [H.out]; rfl, (Below.refl _ w).alloc (Nat.le_refl _) _⟩
    · have H := Lib.hid (digits_great h10)
      have IH1 := Lib.hid (fun w => ih (u / 10) (by omega) w (by omega))
      have IH2 := Lib.hid (fun w => ih (u % 10) (by omega) w (by omega))
      rw [show ((u / 10 : Nat) : Int) = (u : Int) / 10 by omega] at IH1
      rw [show ((u % 10 : Nat) : Int) = (u : Int) % 10 by omega] at IH2
      have hl1 := digits_length (u / 10) (by omega)
      have hl2 := digits_length (u % 10) (by omega)
      have hs1 : (bs (Lib.decDigits (u / 10))).size ≤ 21 := by rw [bs_size]; exact hl1
      have hs2 : (bs (Lib.decDigits (u % 10))).size ≤ 21 := by rw [bs_size]; exact hl2
      have hsum : ¬ 9223372036854775807 < (bs (Lib.decDigits (u / 10))).size + (bs (Lib.decDigits (u % 10))).size := by omega
      clear ih hl1 hl2
      go_enter Tryd.func26, Tryd.ntmps26
      go_wp2_with fail
      refine (IH1.out _).mono ?_
      rintro e w1 ⟨rfl, hb1⟩
      go_wp2_with fail
      refine (IH2.out _).mono ?_
      rintro e w2 ⟨rfl, hb2⟩
      go_wp2_with fail
      go_ret
      exact ⟨by rw [H.out, ← bs_append]; rfl, hb1.trans (hb2.mono hb1.size)⟩
set_option maxHeartbeats 1000000 in
theorem digits_neg : ∀ (u : Nat) (w : World), 1 ≤ u → u ≤ 9223372036854775808 →
    Calls Tryd.prog 26 #[.int .i64 (-(u : Int))] w fun e w' => e = .returned (.string (bs (45 :: Lib.decDigits u))) ∧ Below w.heap.size w w' := by
  intro u
  induction u using Nat.strongRecOn with
  | ind u ih =>
    intro w h1 hu
    by_cases h10 : u < 10
    · have D := Lib.hid (fun w => digits_nat u w (by omega))
      have hl := digits_length u (by omega)
      have hs : (bs (Lib.decDigits u)).size ≤ 21 := by rw [bs_size]; exact hl
      have hsum : ¬ 9223372036854775807 < 1 + (bs (Lib.decDigits u)).size := by omega
      clear ih hl
      go_enter Tryd.func26, Tryd.ntmps26
      go_wp2_with fail
      refine (D.out _).mono ?_
      rintro e w1 ⟨rfl, hb1⟩
      go_wp2_with fail
      go_ret
      exact ⟨by rw [show (45 :: Lib.decDigits u) = [45] ++ Lib.decDigits u from rfl, ← bs_append]; rfl, hb1⟩
    · have H := Lib.hid (digits_great h10)
      have IH1 := Lib.hid (fun w => ih (u / 10) (by omega) w (by omega) (by omega))
      have IH2 := Lib.hid (fun w => digits_nat (u % 10) w (by omega))
      rw [show ((u / 10 : Nat) : Int) = (u : Int) / 10 by omega] at IH1
      rw [show ((u % 10 : Nat) : Int) = (u : Int) % 10 by omega] at IH2
      have q1 : (-(u : Int)).tdiv 10 = -((u : Int) / 10) := by
        rw [Int.neg_tdiv, Int.tdiv_eq_ediv_of_nonneg (by omega)]
      have q2 : (-(u : Int)).tmod 10 = -((u : Int) % 10) := by
        rw [Int.neg_tmod, Int.tmod_eq_emod_of_nonneg (by omega)]
      have hl1 := digits_length (u / 10) (by omega)
      have hl2 := digits_length (u % 10) (by omega)
      have hs1 : (bs (45 :: Lib.decDigits (u / 10))).size ≤ 22 := by rw [bs_size, List.length_cons]; omega
      have hs2 : (bs (Lib.decDigits (u % 10))).size ≤ 21 := by rw [bs_size]; exact hl2
      have hsum : ¬ 9223372036854775807 < (bs (45 :: Lib.decDigits (u / 10))).size + (bs (Lib.decDigits (u % 10))).size := by omega
      clear ih hl1 hl2
      go_enter Tryd.func26, Tryd.ntmps26
      go_wp2_with fail
      refine (IH1.out _).mono ?_
      rintro e w1 ⟨rfl, hb1⟩
      go_wp2_with fail
      refine (IH2.out _).mono ?_
      rintro e w2 ⟨rfl, hb2⟩
      go_wp2_with fail
      go_ret
      exact ⟨by rw [H.out, ← List.cons_append, ← bs_append]; rfl, hb1.trans (hb2.mono hb1.size)⟩
/-- A number's digits, as the document's answer tells them. -/
theorem digits_any (n : Int) (h : I64 n) (w : World) :
    Calls Tryd.prog 26 #[.int .i64 n] w fun e w' => e = .returned (.string (bs (Lib.itoa n))) ∧ Below w.heap.size w w' := by
  unfold I64 at h
  by_cases h0 : n < 0
  · obtain ⟨u, hu⟩ : ∃ u : Nat, n = -(u : Int) := ⟨n.natAbs, by omega⟩
    subst hu
    rw [Lib.itoa_neg u (by omega)]
    exact digits_neg u w (by omega) (by omega)
  · obtain ⟨u, hu⟩ : ∃ u : Nat, n = (u : Int) := ⟨n.toNat, by omega⟩
    subst hu
    rw [Lib.itoa_nonneg u]
    exact digits_nat u w (by omega)
theorem itoa_size (n : Int) (h : I64 n) : (bs (Lib.itoa n)).size ≤ 21 := by rw [bs_size]; exact Lib.itoa_length_le n h.1 h.2
theorem below_grown (w : World) (k : Nat) (os : Array Obj) : Below w.heap.size w (Sort.grow (w.drewN k) os) :=
  ⟨rfl, rfl, rfl, by show _ ≤ (w.heap ++ os).size; rw [Array.size_append]; omega, fun i hi => by show (w.heap ++ os)[i]? = _; exact Array.getElem?_append_left hi⟩
/-- The library's table of powers, in whatever later world. -/
def Pow (B : Nat) (w : World) : Prop := ∀ u, Below B w u → Lib.TabIs Tryd.prog u "internal/strconv.uint64pow10" .u64 Lib.pow10Tab
theorem Pow.on {B : Nat} {w u : World} (h : Pow B w) (hb : Below B w u) : Pow B u := fun v hv => h v (hb.trans hv)
theorem Pow.from {w u : World} {B : Nat} (h : Pow B w) (hB : B ≤ u.heap.size) (hb : Below B w u) : Pow u.heap.size u := fun v hv => h v (hb.trans (hv.mono hB))
theorem Pow.mono {B C : Nat} {w : World} (h : Pow B w) (hB : B ≤ C) : Pow C w := fun v hv => h v (hv.mono hB)
/-- A number's digits, as strconv.Itoa tells them. -/
theorem itoa_any (n : Int) (h : I64 n) {B : Nat} {w : World} (hp : Pow B w) :
    Calls Tryd.prog 47 #[.int .i64 n] w fun e w' => e = .returned (.string (bs (Lib.itoa n))) ∧ Below w.heap.size w w' := by
  refine (Tryd.strconv_Itoa n h.1 h.2 w (hp w (Below.refl _ _))).mono ?_
  rintro e w' ⟨rfl, k, os, rfl⟩
  exact ⟨rfl, below_grown w k os⟩
end Go.Proofs.YtchmiigjiojiaaaDoor
