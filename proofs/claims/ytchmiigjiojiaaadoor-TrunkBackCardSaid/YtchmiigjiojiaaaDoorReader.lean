/-
  The reader of the program: what begin, settle, number and the function that it keeps do, for a reader that NewReader gave and for one that it did not.
-/
import Derived.Test.YtchmiigjiojiaaaDoorText
namespace Go.Proofs.YtchmiigjiojiaaaDoor
open Go.RowKit
/-- A reader at block p that stands ahead of the bytes l, the last ones of s, with the error err; blocks c1 and c2 are what its function has captured. -/
structure RdAt (p c1 c2 : Nat) (s : ByteArray) (l : List UInt8) (err : Int) (w : World) : Prop where
  self : Blk w p 58 #[.pointer (some ⟨p, 0, none⟩), .func (.func 48) #[] #[.pointer (some ⟨c1, 0, none⟩), .pointer (some ⟨c2, 0, none⟩)], .int .i64 l.length, .int .i64 err]
  b1 : Blk w c1 32 #[.pointer (some ⟨p, 0, none⟩)]
  b2 : Blk w c2 9 #[.string s]
  le : l.length ≤ s.size
  last : s.data.toList.drop (s.size - l.length) = l
  max : s.size ≤ maxLen
  spent : err ≠ 0 → l = []
def Rd (p : Nat) (l : List UInt8) (err : Int) (w : World) : Prop := ∃ (c1 c2 : Nat) (s : ByteArray), RdAt p c1 c2 s l err w

theorem RdAt.grown {p c1 c2 : Nat} {s : ByteArray} {l : List UInt8} {err : Int} {w w' : World} {r : Option Nat} (h : RdAt p c1 c2 s l err w) (g : w.grownBy w' r) (n0 : some p ≠ r) (n1 : some c1 ≠ r) (n2 : some c2 ≠ r) : RdAt p c1 c2 s l err w' :=
  { h with self := h.self.grown g n0, b1 := h.b1.grown g n1, b2 := h.b2.grown g n2 }
theorem Rd.below {p : Nat} {l : List UInt8} {err : Int} {w w' : World} (h : Rd p l err w) (g : w.grownBy w' none) : Rd p l err w' := by
  obtain ⟨c1, c2, s, h⟩ := h
  exact ⟨c1, c2, s, h.grown g (by simp) (by simp) (by simp)⟩
theorem Rd.lt {p : Nat} {l : List UInt8} {err : Int} {w : World} (h : Rd p l err w) : p < w.heap.size := by
  obtain ⟨c1, c2, s, h⟩ := h
  exact h.self.lt
/-- A block of other types than a reader's may be written. -/
theorem Rd.other {p g : Nat} {t : TypeId} {cs : Array Value} {l : List UInt8} {err : Int} {w w' : World} (h : Rd p l err w) (k : Blk w g t cs) (h0 : t ≠ 58) (h1 : t ≠ 32) (h2 : t ≠ 9) (hg : w.grownBy w' (some g)) : Rd p l err w' := by
  obtain ⟨c1, c2, s, h⟩ := h
  refine ⟨c1, c2, s, h.grown hg ?_ ?_ ?_⟩
  · intro e; injection e with e; exact k.ne_ h.self h0 e.symm
  · intro e; injection e with e; exact k.ne_ h.b1 h1 e.symm
  · intro e; injection e with e; exact k.ne_ h.b2 h2 e.symm

set_option maxHeartbeats 400000 in
theorem rd_begin (p : Nat) (a0 a1 a2 a3 : Value) (s : ByteArray) (w : World) (hs : s.size ≤ maxLen) (hp : Blk w p 58 #[a0, a1, a2, a3]) :
    Calls Tryd.prog 27 #[.pointer (some ⟨p, 0, none⟩), .string s] w fun e w' => e = .returned (.tuple #[]) ∧ Rd p s.data.toList 0 w' ∧ w.grownBy w' (some p) := by
  have c0 := hp.cell 0
  have c1 := hp.cell 1
  have c2 := hp.cell 2
  have c3 := hp.cell 3
  have z0 := hp.frozen 0
  have z1 := hp.frozen 1
  have z2 := hp.frozen 2
  have z3 := hp.frozen 3
  have hlt := hp.lt
  have hmf : ∀ (fn : Fn) (first cap : Array Value) (w : World), (Instr.makeFunc fn first cap).run Tryd.prog w = .ok (.func fn first cap) w := fun _ _ _ _ => rfl
  simp at c0 c1 c2 c3
  go_enter Tryd.func27, Tryd.ntmps27
  go_wp2
  go_end0
  refine ⟨rfl, ?_, ?_⟩
  · have hq := ((((hp.set_ 0 (.pointer (some ⟨p, 0, none⟩))).set_ 1 .nilFunc).set_ 2 (.int .i64 s.size)).set_ 3 (.int .i64 0)).set_ 1 (.func (.func 48) #[] #[.pointer (some ⟨w.heap.size, 0, none⟩), .pointer (some ⟨w.heap.size + 1, 0, none⟩)])
    generalize hX : ((((w.setCell ⟨p, 0, none⟩ (.pointer (some ⟨p, 0, none⟩))).setCell ⟨p, 1, none⟩ .nilFunc).setCell ⟨p, 2, none⟩ (.int .i64 s.size)).setCell ⟨p, 3, none⟩ (.int .i64 0)).setCell ⟨p, 1, none⟩ (.func (.func 48) #[] #[.pointer (some ⟨w.heap.size, 0, none⟩), .pointer (some ⟨w.heap.size + 1, 0, none⟩)]) = X at hq ⊢
    have hsz : X.heap.size = w.heap.size := by rw [← hX]; simp [World.setCell]
    have k1 := (Blk.new X 32 #[.pointer (some ⟨p, 0, none⟩)]).alloc (.cells #[.string s] 9)
    have k2 := Blk.new (X.alloc (.cells #[.pointer (some ⟨p, 0, none⟩)] 32)) 9 #[.string s]
    have hsz2 : (X.alloc (.cells #[.pointer (some ⟨p, 0, none⟩)] 32)).heap.size = w.heap.size + 1 := by simp [hsz]
    rw [hsz] at k1
    rw [hsz2] at k2
    refine ⟨_, _, s, ⟨?_, k1, k2, ?_, ?_, hs, by simp⟩⟩
    · have := (hq.alloc (.cells #[.pointer (some ⟨p, 0, none⟩)] 32)).alloc (.cells #[.string s] 9)
      rw [data_len]
      simpa using this
    · rw [data_len]; exact Nat.le_refl _
    · rw [data_len]; simp
  · exact gb_trans (gb_trans (gb_trans (gb_trans (gb_trans (gb_trans (gb_set w p 0 _) (gb_set _ p 1 _)) (gb_set _ p 2 _)) (gb_set _ p 3 _)) (gb_set _ p 1 _)) (World.grownBy_alloc _ _ _)) (World.grownBy_alloc _ _ _)

set_option maxHeartbeats 400000 in
theorem rd_take_no {p c1 c2 : Nat} {s : ByteArray} {l : List UInt8} {err : Int} {w : World} (h : RdAt p c1 c2 s l err w) (n : Int) (hn : (l.length : Int) < n) :
    Calls Tryd.prog 48 #[.int .i64 n, .pointer (some ⟨c1, 0, none⟩), .pointer (some ⟨c2, 0, none⟩)] w fun e w' => e = .returned (.tuple #[.string ⟨#[]⟩, .bool false]) ∧ w = w' := by
  have k1 := h.b1.cell 0
  have k2 := h.b2.cell 0
  have k3 := h.self.cell 2
  simp at k1 k2 k3
  go_enter Tryd.func48, Tryd.ntmps48
  go_wp2
  go_ret2
  exact ⟨rfl, rfl⟩

set_option maxHeartbeats 400000 in
theorem rd_take_ok {p c1 c2 : Nat} {s : ByteArray} {l : List UInt8} {err : Int} {w : World} (h : RdAt p c1 c2 s l err w) (n : Int) (h0 : 0 ≤ n) (hn : n ≤ (l.length : Int)) :
    Calls Tryd.prog 48 #[.int .i64 n, .pointer (some ⟨c1, 0, none⟩), .pointer (some ⟨c2, 0, none⟩)] w fun e w' => e = .returned (.tuple #[.string (bs (l.take n.toNat)), .bool true]) ∧ RdAt p c1 c2 s (l.drop n.toNat) err w' ∧ w.grownBy w' (some p) := by
  have k1 := h.b1.cell 0
  have k2 := h.b2.cell 0
  have k3 := h.self.cell 2
  have z3 := h.self.frozen 2
  have hle := h.le
  have hmx := h.max
  unfold maxLen at hmx
  simp at k1 k2 k3
  have g1 : decide ((l.length : Int) < n) = false := by simp; omega
  go_enter Tryd.func48, Tryd.ntmps48
  go_wp2
  go_quiet (fail)
  go_wp2
  go_ret2
  refine ⟨?_, ?_, ?_⟩
  · have e : s.extract (s.size - l.length) ((s.size : Int) - l.length + n).toNat = bs (l.take n.toNat) := by
      rw [Lib.extract_eq, h.last]
      have : ((s.size : Int) - l.length + n).toNat - (s.size - l.length) = n.toNat := by omega
      rw [this]; rfl
    rw [← e]; rfl
  · have hq := (h.self.drewN nq).set_ 2 (.int .i64 ((l.length : Int) - n))
    have hd : (l.drop n.toNat).length = l.length - n.toNat := List.length_drop
    have hi : ((l.length : Int) - n) = ((l.drop n.toNat).length : Int) := by rw [hd]; omega
    have t1 : c1 ≠ p := h.b1.ne_ h.self (by decide)
    have t2 : c2 ≠ p := h.b2.ne_ h.self (by decide)
    refine ⟨?_, (h.b1.drewN nq).far (p := ⟨p, 2, none⟩) t1 _, (h.b2.drewN nq).far (p := ⟨p, 2, none⟩) t2 _, by rw [hd]; omega, ?_, h.max, ?_⟩
    · rw [← hi]; simpa using hq
    · have : s.size - (l.drop n.toNat).length = (s.size - l.length) + n.toNat := by rw [hd]; omega
      rw [this, ← List.drop_drop, h.last]
    · intro e; rw [h.spent e]; simp
  · exact gb_trans (gb_drewN w nq _) (gb_set _ p 2 _)

theorem info_reader : ∃ j, Tryd.prog.info? 58 = some j := Option.isSome_iff_exists.1 (by kernel_rfl)

set_option maxHeartbeats 400000 in
/-- A reader that NewReader gave stays as it is. -/
theorem rd_settle {p : Nat} {l : List UInt8} {err : Int} {w : World} (h : Rd p l err w) :
    Calls Tryd.prog 32 #[.pointer (some ⟨p, 0, none⟩)] w fun e w' => e = .returned (.tuple #[]) ∧ w = w' := by
  obtain ⟨c1, c2, s, h⟩ := h
  obtain ⟨j, hj⟩ := info_reader
  have k0 := h.self.cell 0
  simp at k0
  have hn := fun w : World => Lib.run_neq_ptr_same (P := Tryd.prog) w ⟨p, 0, none⟩ Tryd.underlying32 hj
  go_enter Tryd.func32, Tryd.ntmps32
  go_wp2
  go_end0
  exact ⟨rfl, rfl⟩
theorem run_neq_nil_ptr {P : Program} (w : World) (t u : TypeId) (a : Addr) (h : P.underlying t = some (.pointer u)) :
    (binOp .neq t (.pointer none) (.pointer (some a))).run P w = .ok (.bool true) w := by
  have h : ∀ d : Nat, (Op.equalIn (d + 1) t (.pointer none) (.pointer (some a))).run P w = .ok false w := fun d => by
    simp [Op.equalIn, run_underlying h]
  simp only [binOp]
  simp [Op.equal, Op.maxDepth, h 9999]
set_option maxHeartbeats 400000 in
/-- A reader that NewReader did not give becomes one of no bytes. -/
theorem zero_settle {p : Nat} {w : World} (h : Blk w p 58 #[.pointer none, .nilFunc, .int .i64 0, .int .i64 0]) :
    Calls Tryd.prog 32 #[.pointer (some ⟨p, 0, none⟩)] w fun e w' => e = .returned (.tuple #[]) ∧ Rd p [] 0 w' ∧ w.grownBy w' (some p) := by
  have k0 := h.cell 0
  simp at k0
  have hn := fun w : World => run_neq_nil_ptr (P := Tryd.prog) w 32 58 ⟨p, 0, none⟩ Tryd.underlying32
  go_enter Tryd.func32, Tryd.ntmps32
  go_wp2_with (go_at_call 27; refine (rd_begin p _ _ _ _ _ _ (by decide) h).mono ?_; rintro e w1 ⟨rfl, hr, hg⟩)
  go_end0
  exact ⟨rfl, hr, hg⟩

set_option maxHeartbeats 400000 in
theorem code_number (a b c d : UInt8) (w : World) (hv : val4 a b c d ≤ 2147483647) :
    Calls Tryd.prog 50 #[.string (bs [a, b, c, d])] w fun e w' => e = .returned (.tuple #[.int .i64 (val4 a b c d), .bool true]) ∧ Below w.heap.size w w' := by
  have i0 : ∀ w : World, (Instr.index 9 (.string (bs [a, b, c, d])) (.int .i64 0)).run Tryd.prog w = .ok (.int .u8 a.toNat) w := fun w => run_index_string w _ _ _ _ Tryd.underlying9
  have i1 : ∀ w : World, (Instr.index 9 (.string (bs [a, b, c, d])) (.int .i64 1)).run Tryd.prog w = .ok (.int .u8 b.toNat) w := fun w => run_index_string w _ _ _ _ Tryd.underlying9
  have i2 : ∀ w : World, (Instr.index 9 (.string (bs [a, b, c, d])) (.int .i64 2)).run Tryd.prog w = .ok (.int .u8 c.toNat) w := fun w => run_index_string w _ _ _ _ Tryd.underlying9
  have i3 : ∀ w : World, (Instr.index 9 (.string (bs [a, b, c, d])) (.int .i64 3)).run Tryd.prog w = .ok (.int .u8 d.toNat) w := fun w => run_index_string w _ _ _ _ Tryd.underlying9
  have hb := val4_bits a b c d
  have h0 := val4_low a b c d
  go_enter Tryd.func50, Tryd.ntmps50
  go_wp2
  go_quiet (fail)
  go_wp2
  go_ret2
  exact ⟨rfl, below_gb (gb_drewN _ _ _)⟩
set_option maxHeartbeats 400000 in
theorem code_number_no (a b c d : UInt8) (w : World) (hv : 2147483647 < val4 a b c d) :
    Calls Tryd.prog 50 #[.string (bs [a, b, c, d])] w fun e w' => e = .returned (.tuple #[.int .i64 0, .bool false]) ∧ Below w.heap.size w w' := by
  have i0 : ∀ w : World, (Instr.index 9 (.string (bs [a, b, c, d])) (.int .i64 0)).run Tryd.prog w = .ok (.int .u8 a.toNat) w := fun w => run_index_string w _ _ _ _ Tryd.underlying9
  have i1 : ∀ w : World, (Instr.index 9 (.string (bs [a, b, c, d])) (.int .i64 1)).run Tryd.prog w = .ok (.int .u8 b.toNat) w := fun w => run_index_string w _ _ _ _ Tryd.underlying9
  have i2 : ∀ w : World, (Instr.index 9 (.string (bs [a, b, c, d])) (.int .i64 2)).run Tryd.prog w = .ok (.int .u8 c.toNat) w := fun w => run_index_string w _ _ _ _ Tryd.underlying9
  have i3 : ∀ w : World, (Instr.index 9 (.string (bs [a, b, c, d])) (.int .i64 3)).run Tryd.prog w = .ok (.int .u8 d.toNat) w := fun w => run_index_string w _ _ _ _ Tryd.underlying9
  have hb := val4_bits a b c d
  go_enter Tryd.func50, Tryd.ntmps50
  go_wp2
  go_quiet (fail)
  go_wp2
  go_ret2
  exact ⟨rfl, below_gb (gb_drewN _ _ _)⟩

end Go.Proofs.YtchmiigjiojiaaaDoor
