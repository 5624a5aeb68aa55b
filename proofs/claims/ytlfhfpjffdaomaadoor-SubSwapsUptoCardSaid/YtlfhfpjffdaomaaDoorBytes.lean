/-
  Texts that are made of one, two or three bytes.
-/
import Derived.Test.YtlfhfpjffdaomaaDoorBase
namespace Go.Proofs.YtlfhfpjffdaomaaDoor
open Go.RowKit
theorem push_all (xs : List Int) (b : ByteArray) : xs.foldl (fun r n => r.push (UInt8.ofNat n.toNat)) b = bs (b.data.toList ++ xs.map fun x => UInt8.ofNat x.toNat) := by
  induction xs generalizing b with
  | nil => simp [bs]
  | cons x xs ih => rw [List.foldl_cons, ih]; simp [bs]
theorem run_bytes {P : Program} (w : World) (ts td te : TypeId) (xs : List Int) (hs : P.underlying ts = some (.slice te)) (he : P.underlying te = some (.int .u8)) (hd : P.underlying td = some .string) :
    (convert ts td (.slice (some ⟨w.heap.size, 0, none⟩) xs.length xs.length)).run P (w.alloc (.cells (xs.map (Value.int .u8)).toArray te)) =
      .ok (.string (bs (xs.map fun x => UInt8.ofNat x.toNat))) (w.alloc (.cells (xs.map (Value.int .u8)).toArray te)) := by
  rw [run_convert_bytes_string _ ts td te _ _ _ hs he hd]
  rw [run_bytesToString _ _ xs.length xs.length xs]
  · rw [push_all]; rfl
  · have := run_loadCells_list (P := P) (w.alloc (.cells (xs.map (Value.int .u8)).toArray te)) ⟨w.heap.size, 0, none⟩ (xs.map (Value.int .u8)) (fun j v h => by
      have hb := Blk.new w te (xs.map (Value.int .u8)).toArray
      have e : (⟨w.heap.size, 0, none⟩ : Addr).add j = ⟨w.heap.size, j, none⟩ := by unfold Addr.add; split <;> simp_all
      rw [e, hb.cell]; simpa using h)
    simpa using this
theorem run_bytes1 {P : Program} (w : World) (ts td te : TypeId) (x0 : Int) (hs : P.underlying ts = some (.slice te)) (he : P.underlying te = some (.int .u8)) (hd : P.underlying td = some .string) :
    (convert ts td (.slice (some ⟨w.heap.size, 0, none⟩) 1 1)).run P (w.alloc (.cells #[.int .u8 x0] te)) =
      .ok (.string (bs [UInt8.ofNat x0.toNat])) (w.alloc (.cells #[.int .u8 x0] te)) := run_bytes w ts td te [x0] hs he hd
theorem run_bytes2 {P : Program} (w : World) (ts td te : TypeId) (x0 x1 : Int) (hs : P.underlying ts = some (.slice te)) (he : P.underlying te = some (.int .u8)) (hd : P.underlying td = some .string) :
    (convert ts td (.slice (some ⟨w.heap.size, 0, none⟩) 2 2)).run P (w.alloc (.cells #[.int .u8 x0, .int .u8 x1] te)) =
      .ok (.string (bs [UInt8.ofNat x0.toNat, UInt8.ofNat x1.toNat])) (w.alloc (.cells #[.int .u8 x0, .int .u8 x1] te)) := run_bytes w ts td te [x0, x1] hs he hd
theorem run_bytes3 {P : Program} (w : World) (ts td te : TypeId) (x0 x1 x2 : Int) (hs : P.underlying ts = some (.slice te)) (he : P.underlying te = some (.int .u8)) (hd : P.underlying td = some .string) :
    (convert ts td (.slice (some ⟨w.heap.size, 0, none⟩) 3 3)).run P (w.alloc (.cells #[.int .u8 x0, .int .u8 x1, .int .u8 x2] te)) =
      .ok (.string (bs [UInt8.ofNat x0.toNat, UInt8.ofNat x1.toNat, UInt8.ofNat x2.toNat])) (w.alloc (.cells #[.int .u8 x0, .int .u8 x1, .int .u8 x2] te)) := run_bytes w ts td te [x0, x1, x2] hs he hd
end Go.Proofs.YtlfhfpjffdaomaaDoor
