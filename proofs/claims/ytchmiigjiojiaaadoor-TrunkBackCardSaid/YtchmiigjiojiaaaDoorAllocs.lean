/-
  One, two or three blocks that a call lays at its beginning: what holds of them in whatever later world.
-/
import Derived.Test.YtchmiigjiojiaaaDoorBase
namespace Go.Proofs.YtchmiigjiojiaaaDoor
open Go.RowKit
theorem al {w w' : World} (h : Below w.heap.size w w') (o : Obj) : Below w.heap.size w (w'.alloc o) := h.alloc h.size o
theorem blk1 (w : World) (c0 : Array Value) (t0 : TypeId) {u : World} (hu : Below (w.alloc (.cells c0 t0)).heap.size (w.alloc (.cells c0 t0)) u) : w.heap.size + 1 ≤ u.heap.size ∧ Blk u w.heap.size t0 c0 ∧ Below w.heap.size w u := by
  have b0 := Blk.new w t0 c0
  have h0 := al (Below.refl w.heap.size w) (.cells c0 t0)
  have hs := hu.size
  rw [World.size_alloc] at hs
  exact ⟨hs, b0.below hu b0.lt, h0.trans (hu.mono h0.size)⟩
theorem blk2 (w : World) (c0 c1 : Array Value) (t0 t1 : TypeId) {u : World} (hu : Below ((w.alloc (.cells c0 t0)).alloc (.cells c1 t1)).heap.size ((w.alloc (.cells c0 t0)).alloc (.cells c1 t1)) u) :
    w.heap.size + 2 ≤ u.heap.size ∧ Blk u w.heap.size t0 c0 ∧ Blk u (w.heap.size + 1) t1 c1 ∧ Below w.heap.size w u := by
  have b0 := (Blk.new w t0 c0).alloc (.cells c1 t1)
  have b1 := Blk.new (w.alloc (.cells c0 t0)) t1 c1
  have h0 := al (al (Below.refl w.heap.size w) (.cells c0 t0)) (.cells c1 t1)
  have hs := hu.size
  have b1' := b1.below hu b1.lt
  rw [World.size_alloc] at b1'
  rw [World.size_alloc, World.size_alloc] at hs
  exact ⟨hs, b0.below hu b0.lt, b1', h0.trans (hu.mono h0.size)⟩
theorem blk3 (w : World) (c0 c1 c2 : Array Value) (t0 t1 t2 : TypeId) {u : World} (hu : Below (((w.alloc (.cells c0 t0)).alloc (.cells c1 t1)).alloc (.cells c2 t2)).heap.size (((w.alloc (.cells c0 t0)).alloc (.cells c1 t1)).alloc (.cells c2 t2)) u) :
    w.heap.size + 3 ≤ u.heap.size ∧ Blk u w.heap.size t0 c0 ∧ Blk u (w.heap.size + 1) t1 c1 ∧ Blk u (w.heap.size + 1 + 1) t2 c2 ∧ Below w.heap.size w u := by
  have b0 := ((Blk.new w t0 c0).alloc (.cells c1 t1)).alloc (.cells c2 t2)
  have b1 := (Blk.new (w.alloc (.cells c0 t0)) t1 c1).alloc (.cells c2 t2)
  have b2 := Blk.new ((w.alloc (.cells c0 t0)).alloc (.cells c1 t1)) t2 c2
  have h0 := al (al (al (Below.refl w.heap.size w) (.cells c0 t0)) (.cells c1 t1)) (.cells c2 t2)
  have hs := hu.size
  have b1' := b1.below hu b1.lt
  have b2' := b2.below hu b2.lt
  rw [World.size_alloc] at b1'
  rw [World.size_alloc, World.size_alloc] at b2'
  rw [World.size_alloc, World.size_alloc, World.size_alloc] at hs
  exact ⟨hs, b0.below hu b0.lt, b1', b2', h0.trans (hu.mono h0.size)⟩
end Go.Proofs.YtchmiigjiojiaaaDoor
