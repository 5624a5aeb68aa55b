/-
  A number in decimal digits, as the document's answer tells it, and as strconv.Itoa does.
-/
import Derived.Test.YtcddbdefdenecaaGreatDoorBase
import Derived.Test.YtcddbdefdenecaaGreatDoorShelf
import Derived.Lib.ItoaMem
import Derived.Lib.ItoaLen
import Derived.IntWalk
namespace Go.Proofs.YtcddbdefdenecaaGreatDoor
open Go.RowKit
/-- A number of 64 bits. -/
def I64 (n : Int) : Prop := -9223372036854775808 ≤ n ∧ n ≤ 9223372036854775807
theorem digits_small {u : Nat} (h : u < 10) : Lib.decDigits u = [UInt8.ofNat (48 + u)] := by
  rw [Lib.decDigits, dif_pos h]
theorem digits_great {u : Nat} (h : ¬ u < 10) : Lib.decDigits u = Lib.decDigits (u / 10) ++ Lib.decDigits (u % 10) := by
  rw [Lib.decDigits, dif_neg h, digits_small (show u % 10 < 10 by omega)]
theorem digits_length : ∀ u : Nat, u ≤ 9223372036854775808 → (Lib.decDigits u).length ≤ 21 := fun u h => by
  rcases Nat.eq_zero_or_pos u with h0 | h0
  · subst h0; rw [digits_small (by omega)]; simp
  · have h1 := Lib.itoa_length_le (-(u : Int)) (by omega) (by omega)
    rw [Lib.itoa_neg u h0, List.length_cons] at h1
    omega
theorem run_bytes1 {P : Program} (w : World) (ts td te : TypeId) (x0 : Int) (hs : P.underlying ts = some (.slice te)) (he : P.underlying te = some (.int .u8)) (hd : P.underlying td = some .string) :
    (convert ts td (.slice (some ⟨w.heap.size, 0, none⟩) 1 1)).run P (w.alloc (.cells #[.int .u8 x0] te)) = .ok (.string (bs [UInt8.ofNat x0.toNat])) (w.alloc (.cells #[.int .u8 x0] te)) := by
  rw [run_convert_bytes_string _ ts td te _ _ _ hs he hd]
  rw [run_bytesToString _ _ 1 1 [x0]]
  · rfl
  · exact run_loadCells_list _ _ [Value.int .u8 x0] (fun j v h => by
      have hb := Blk.new w te #[.int .u8 x0]
      have e : (⟨w.heap.size, 0, none⟩ : Addr).add j = ⟨w.heap.size, j, none⟩ := by unfold Addr.add; split <;> simp_all
      rw [e, hb.cell]; simpa using h)
theorem itoa_size (n : Int) (h : I64 n) : (bs (Lib.itoa n)).size ≤ 21 := by rw [bs_size]; exact Lib.itoa_length_le n h.1 h.2
theorem below_grown (w : World) (k : Nat) (os : Array Obj) : Below w.heap.size w (Sort.grow (w.drewN k) os) :=
  ⟨rfl, rfl, rfl, by show _ ≤ (w.heap ++ os).size; rw [Array.size_append]; omega, fun i hi => by show (w.heap ++ os)[i]? = _; exact Array.getElem?_append_left hi⟩
/-- The library's table of powers, in whatever later world. -/
def Pow (B : Nat) (w : World) : Prop := ∀ u, Below B w u → Lib.TabIs Tryz.prog u "internal/strconv.uint64pow10" .u64 Lib.pow10Tab
theorem Pow.on {B : Nat} {w u : World} (h : Pow B w) (hb : Below B w u) : Pow B u := fun v hv => h v (hb.trans hv)
theorem Pow.from {w u : World} {B : Nat} (h : Pow B w) (hB : B ≤ u.heap.size) (hb : Below B w u) : Pow u.heap.size u := fun v hv => h v (hb.trans (hv.mono hB))
theorem Pow.mono {B C : Nat} {w : World} (h : Pow B w) (hB : B ≤ C) : Pow C w := fun v hv => h v (hv.mono hB)
/-- A number's digits, as strconv.Itoa tells them. -/
theorem itoa_any (n : Int) (h : I64 n) {B : Nat} {w : World} (hp : Pow B w) :
    Calls Tryz.prog 72 #[.int .i64 n] w fun e w' => e = .returned (.string (bs (Lib.itoa n))) ∧ Below w.heap.size w w' := by
  refine (Tryz.strconv_Itoa n h.1 h.2 w (hp w (Below.refl _ _))).mono ?_
  rintro e w' ⟨rfl, k, os, rfl⟩
  exact ⟨rfl, below_grown w k os⟩
end Go.Proofs.YtcddbdefdenecaaGreatDoor
