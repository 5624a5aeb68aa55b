/-
  Package span: where lines begin and end; whether a range may be.
-/
import Derived.Test.YtlfhfpjffdaomaaDoorSpan
import Derived.Test.YtlfhfpjffdaomaaDoorRet3
namespace Go.Proofs.YtlfhfpjffdaomaaDoor
open Go.RowKit
open Span (starts ends)
namespace Span
/-- May a range be? -/
def right (s : List UInt8) (a b : Int) (l : Bool) : Bool := decide (a ≤ b) && (Utf.place s a && (Utf.place s b && (!l || (starts s a.toNat && ends s b.toNat))))
theorem right_lies {s : List UInt8} {p q kind a b : Int} {l : Bool} (h : Lies s p q kind a b l) : right s a b l = true := by
  have h1 := h.ap
  have h2 := h.qb
  rw [right, decide_eq_true (by omega), h.pa, h.pb]
  cases l with
  | false => rfl
  | true => rw [h.al rfl, h.bl rfl]; rfl
theorem feed_test (b : UInt8) : ((b.toNat : Int) == 10) = decide (b = 10) := by
  rw [Bool.eq_iff_iff, beq_iff_eq, decide_eq_true_iff]
  refine ⟨fun h => UInt8.toNat_inj.1 ?_, fun h => by rw [h]; rfl⟩
  rw [show (10 : UInt8).toNat = 10 from rfl]
  omega
end Span
/-- The box of a range. -/
structure RBox (w u : World) (a b : Int) (l : Bool) : Prop where
  below : Below w.heap.size w u
  blk : Blk u w.heap.size 32 #[.int .i64 a, .int .i64 b, .bool l]
theorem RBox.drew {w u : World} {a b : Int} {l : Bool} (h : RBox w u a b l) : RBox w u.drew a b l := ⟨h.below.trans ((below_gb (gb_drew u none)).mono h.below.size), h.blk⟩
theorem RBox.on {w u v : World} {a b : Int} {l : Bool} (h : RBox w u a b l) (hb : Below u.heap.size u v) : RBox w v a b l := ⟨h.below.trans (hb.mono h.below.size), h.blk.below hb h.blk.lt⟩
theorem RBox.ond {w u v : World} {a b : Int} {l : Bool} (h : RBox w u a b l) (hb : Below u.drew.heap.size u.drew v) : RBox w v a b l := h.drew.on hb
theorem RBox.cells {w u : World} {a b : Int} {l : Bool} (h : RBox w u a b l) : u.cell? ⟨w.heap.size, 0, none⟩ = some (.int .i64 a) ∧ u.cell? ⟨w.heap.size, 1, none⟩ = some (.int .i64 b) ∧ u.cell? ⟨w.heap.size, 2, none⟩ = some (.bool l) ∧ u.frozen? ⟨w.heap.size, 0, none⟩ = false ∧ u.frozen? ⟨w.heap.size, 1, none⟩ = false ∧ u.frozen? ⟨w.heap.size, 2, none⟩ = false := row_three h.blk
theorem RBox.new (w : World) (a b : Int) (l : Bool) : RBox w (w.alloc (.cells #[.int .i64 a, .int .i64 b, .bool l] 32)) a b l := ⟨(Below.refl _ w).alloc (Nat.le_refl _) _, Blk.new _ _ _⟩
theorem RBox.alloc {w u : World} {a b : Int} {l : Bool} (h : RBox w u a b l) (o : Obj) : RBox w (u.alloc o) a b l := ⟨h.below.alloc h.below.size o, h.blk.alloc o⟩
end Go.Proofs.YtlfhfpjffdaomaaDoor
