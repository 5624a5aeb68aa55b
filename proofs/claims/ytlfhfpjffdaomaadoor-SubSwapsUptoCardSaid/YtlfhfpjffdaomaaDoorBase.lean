/-
  Words that all texts of this seat lean on: frames of worlds, blocks that are known whole, plain facts on lists of bytes. Nothing here is a statement of the seat.
-/
import Derived.Test.YtlfhfpjffdaomaaDoorRows
import Derived.WalkKit
import Derived.WalkSpells
import Derived.WalkLawsBesides
import Derived.Lib.Hide
import Derived.OneCell
import Derived.Laws.EntriesVeiled
import Derived.Deep.QuietTactic
import Derived.BigQuiet
import Derived.Lib.Strings
import Derived.Lib.EndianBits
namespace Go.Proofs.YtlfhfpjffdaomaaDoor
open Go.RowKit

theorem gb_trans {a b c : World} {r : Option Nat} (h : a.grownBy b r) (k : b.grownBy c r) : a.grownBy c r :=
  ⟨k.os.trans h.os, k.tape.trans h.tape, k.output.trans h.output, Nat.le_trans h.size k.size,
    fun i hi hr => (k.block i (Nat.lt_of_lt_of_le hi h.size) hr).trans (h.block i hi hr)⟩
theorem gb_below {w w' : World} (r : Option Nat) (h : Below w.heap.size w w') : w.grownBy w' r :=
  ⟨h.os, h.tape, h.output, h.size, fun i hi _ => h.block i hi⟩
theorem below_gb {w w' : World} (h : w.grownBy w' none) : Below w.heap.size w w' :=
  ⟨h.os, h.tape, h.output, h.size, fun i hi => h.block i hi (by simp)⟩
theorem gb_none {w w' : World} (r : Option Nat) (h : w.grownBy w' none) : w.grownBy w' r := gb_below r (below_gb h)
theorem gb_own {a b c : World} {r row : Option Nat} (h : a.grownBy b r) (k : b.grownBy c row) (hr : ∀ i, row = some i → a.heap.size ≤ i) : a.grownBy c r :=
  ⟨k.os.trans h.os, k.tape.trans h.tape, k.output.trans h.output, Nat.le_trans h.size k.size,
    fun i hi hn => (k.block i (Nat.lt_of_lt_of_le hi h.size) (fun e => by have := hr i e.symm; omega)).trans (h.block i hi hn)⟩
theorem gb_set (w : World) (p i : Nat) (u : Value) : w.grownBy (w.setCell ⟨p, i, none⟩ u) (some p) :=
  ⟨rfl, rfl, rfl, by simp [World.setCell], fun k _ hr => Below.heap_setCell _ _ _ _ (fun e => hr (by rw [e]))⟩

theorem gb_drewN (w : World) (n : Nat) (r : Option Nat) : w.grownBy (w.drewN n) r := ⟨rfl, rfl, rfl, Nat.le_refl _, fun _ _ _ => rfl⟩
theorem gb_drew (w : World) (r : Option Nat) : w.grownBy w.drew r := ⟨rfl, rfl, rfl, Nat.le_refl _, fun _ _ _ => rfl⟩

theorem block_of_add (a : Addr) (n : Nat) : (a.add n).block = a.block := by unfold Addr.add; split <;> rfl

/-- Block g is just these cells, of element type t, none of them frozen. -/
def Blk (w : World) (g : Nat) (t : TypeId) (cs : Array Value) : Prop := w.heap[g]? = some (.cells cs t (0, 0))
section
variable {w w' : World} {g : Nat} {t : TypeId} {cs : Array Value}
theorem Blk.lt (h : Blk w g t cs) : g < w.heap.size := by
  rcases Nat.lt_or_ge g w.heap.size with hlt | hge
  · exact hlt
  · unfold Blk at h; rw [Array.getElem?_eq_none hge] at h; cases h
theorem Blk.cell (h : Blk w g t cs) (i : Nat) : w.cell? ⟨g, i, none⟩ = cs[i]? := cell_of_row w g i cs t (0, 0) h
theorem Blk.frozen (h : Blk w g t cs) (i : Nat) : w.frozen? ⟨g, i, none⟩ = false := by
  unfold Blk at h
  simp [World.frozen?, h]
theorem Blk.new (w : World) (t : TypeId) (cs : Array Value) : Blk (w.alloc (.cells cs t)) w.heap.size t cs := heap_alloc_new w _
theorem Blk.drew (h : Blk w g t cs) : Blk w.drew g t cs := h
theorem Blk.drewN (h : Blk w g t cs) (n : Nat) : Blk (w.drewN n) g t cs := h
theorem Blk.alloc (h : Blk w g t cs) (o : Obj) : Blk (w.alloc o) g t cs := (Below.heap_alloc w o g h.lt).trans h
theorem Blk.set_ (h : Blk w g t cs) (i : Nat) (u : Value) : Blk (w.setCell ⟨g, i, none⟩ u) g t (cs.setIfInBounds i u) := by
  unfold Blk at h ⊢
  simp [World.setCell, Array.getElem?_modify, h]
theorem Blk.far (h : Blk w g t cs) {p : Addr} (hp : g ≠ p.block) (u : Value) : Blk (w.setCell p u) g t cs := (Below.heap_setCell w p u g hp).trans h
theorem Blk.below {B : Nat} (h : Blk w g t cs) (hb : Below B w w') (hg : g < B) : Blk w' g t cs := (hb.block g hg).trans h
theorem Blk.grown {row : Option Nat} (h : Blk w g t cs) (hb : w.grownBy w' row) (hg : some g ≠ row) : Blk w' g t cs := (hb.block g h.lt hg).trans h
theorem Blk.ne_ {g' : Nat} {t' : TypeId} {cs' : Array Value} (h : Blk w g t cs) (h' : Blk w g' t' cs') (hne : t ≠ t') : g ≠ g' := by
  rintro rfl
  unfold Blk at h h'
  rw [h] at h'
  injection h' with h'
  injection h' with _ ht
  exact hne ht
end
theorem own_blk_ne {w : World} {g : Nat} {t : TypeId} {cs : Array Value} {base : Nat} {e : TypeId} {size n : Nat} {v : Value} {xs : List Value} (h : w.ownsRow base e size v n xs) (hg : Blk w g t cs) (hne : e ≠ t) : v.ownBlock ≠ some g := by
  rcases h.2 with ⟨rfl, _⟩ | ⟨g', cap, cur, rfl, _, hh, _⟩
  · simp [Value.ownBlock]
  · intro he
    have : g' = g := by simpa [Value.ownBlock] using he
    subst this
    exact Blk.ne_ (t := e) hh hg hne rfl
/-- How long a slice is. -/
def lenOf : Value → Nat | .slice _ n _ => n | _ => 0
theorem own_shape {w : World} {base : Nat} {e : TypeId} {size n : Nat} {v : Value} {xs : List Value} (h : w.ownsRow base e size v n xs) : ∃ a c, v = .slice a n c := by
  rcases h.2 with ⟨rfl, rfl⟩ | ⟨g', cap, cur, rfl, _⟩
  · exact ⟨_, _, rfl⟩
  · exact ⟨_, _, rfl⟩

/-- A text of just these bytes. -/
def bs (l : List UInt8) : ByteArray := ⟨l.toArray⟩
theorem bs_data (s : ByteArray) : bs s.data.toList = s := rfl
theorem bs_toList (l : List UInt8) : (bs l).data.toList = l := rfl
theorem bs_size (l : List UInt8) : (bs l).size = l.length := by simp [bs, ByteArray.size]
theorem bs_append (a b : List UInt8) : bs a ++ bs b = bs (a ++ b) := by
  apply ByteArray.ext; simp [bs]
theorem bs_inj {a b : List UInt8} (h : bs a = bs b) : a = b := by
  have := congrArg (fun s : ByteArray => s.data.toList) h
  simpa [bs] using this
theorem bs_tl (l : List UInt8) : (bs l).toList = l := ByteArray.toList_mk l
theorem bs_isEmpty (l : List UInt8) : (bs l).toList.isEmpty = l.isEmpty := by rw [bs_tl]

theorem byte_get (s : ByteArray) {j : Nat} (h : j < s.size) : s.data.toList[j]? = some s[j] := by
  rw [List.getElem?_eq_getElem (by simpa using h)]
  rfl

/-- The bytes of a number that is one. -/
def num4 (n : Int) : List UInt8 := [UInt8.ofNat (n % 256).toNat, UInt8.ofNat (n / 256 % 256).toNat, UInt8.ofNat (n / 65536 % 256).toNat, UInt8.ofNat (n / 16777216).toNat]
/-- The bytes of a number; none of what is no number. -/
def numB (n : Int) : List UInt8 := if 0 ≤ n ∧ n ≤ 2147483647 then num4 n else []
theorem numB_ok {n : Int} (h : 0 ≤ n) (k : n ≤ 2147483647) : numB n = num4 n := by unfold numB; rw [if_pos ⟨h, k⟩]
theorem numB_low {n : Int} (h : n < 0) : numB n = [] := by unfold numB; rw [if_neg (by omega)]
theorem numB_high {n : Int} (h : 2147483647 < n) : numB n = [] := by unfold numB; rw [if_neg (by omega)]

theorem numB_empty {n : Int} (h : 0 ≤ n) (k : n ≤ 2147483647) : (bs (numB n)).toList.isEmpty = false := by rw [bs_tl, numB_ok h k]; rfl
theorem numB_not {n : Int} (h : n < 0 ∨ 2147483647 < n) : (bs (numB n)).toList.isEmpty = true := by
  rw [bs_tl]; unfold numB; rw [if_neg (by omega)]; rfl
theorem numB_length (n : Int) : (numB n).length ≤ 4 := by unfold numB; split <;> simp [num4]
theorem numB_size (n : Int) : (bs (numB n)).size ≤ 4 := by rw [bs_size]; exact numB_length n

/-- The number that four bytes tell. -/
def val4 (a b c d : UInt8) : Int := a.toNat + 256 * b.toNat + 65536 * c.toNat + 16777216 * d.toNat

theorem val4_low (a b c d : UInt8) : 0 ≤ val4 a b c d := by unfold val4; omega
theorem val4_bits (a b c d : UInt8) : bits .or .u32 (bits .or .u32 (bits .or .u32 ((a.toNat : Int) % 4294967296) ((b.toNat : Int) % 4294967296 * 256 % 4294967296)) ((c.toNat : Int) % 4294967296 * 65536 % 4294967296)) ((d.toNat : Int) % 4294967296 * 16777216 % 4294967296) = val4 a b c d := by
  have ha := a.toNat_lt
  have hb := b.toNat_lt
  have hc := c.toNat_lt
  have hd := d.toNat_lt
  rw [u32_or8 ((a.toNat : Int) % 4294967296) _ (by omega) (by omega) (by omega) (by omega) (by omega)]
  rw [u32_or16 _ ((c.toNat : Int) % 4294967296 * 65536 % 4294967296) (by omega) (by omega) (by omega) (by omega) (by omega)]
  rw [u32_or24 _ _ (by omega) (by omega) (by omega) (by omega) (by omega)]
  unfold val4
  omega

/-- The first error stays. -/
def first (err e : Int) : Int := if err = 0 then e else err
/-- What a reader answers of the bytes l: a number, what is left, the error. -/
def rdNum (l : List UInt8) (err : Int) : Int × List UInt8 × Int :=
  match l with
  | a :: b :: c :: d :: r => if val4 a b c d ≤ 2147483647 then (val4 a b c d, r, err) else (0, [], first err 6)
  | _ => (0, [], first err 2)
theorem rdNum_short {l : List UInt8} (err : Int) (h : l.length < 4) : rdNum l err = (0, [], first err 2) := by
  match l, h with
  | [], _ => rfl
  | [_], _ => rfl
  | [_, _], _ => rfl
  | [_, _, _], _ => rfl
theorem rdNum_high {a b c d : UInt8} (r : List UInt8) (err : Int) (h : 2147483647 < val4 a b c d) : rdNum (a :: b :: c :: d :: r) err = (0, [], first err 6) := by
  unfold rdNum; simp only []; rw [if_neg (by omega)]
theorem rdNum_ok {a b c d : UInt8} (r : List UInt8) (err : Int) (h : val4 a b c d ≤ 2147483647) : rdNum (a :: b :: c :: d :: r) err = (val4 a b c d, r, err) := by
  unfold rdNum; simp only []; rw [if_pos h]
theorem four_of {l : List UInt8} (h : 4 ≤ l.length) : ∃ a b c d r, l = a :: b :: c :: d :: r := by
  match l, h with
  | a :: b :: c :: d :: r, _ => exact ⟨a, b, c, d, r, rfl⟩

theorem run_bytes4 {P : Program} (w : World) (ts td te : TypeId) (x0 x1 x2 x3 : Int) (hs : P.underlying ts = some (.slice te)) (he : P.underlying te = some (.int .u8)) (hd : P.underlying td = some .string) :
    (convert ts td (.slice (some ⟨w.heap.size, 0, none⟩) 4 4)).run P (w.alloc (.cells #[.int .u8 x0, .int .u8 x1, .int .u8 x2, .int .u8 x3] te)) =
      .ok (.string (bs [UInt8.ofNat x0.toNat, UInt8.ofNat x1.toNat, UInt8.ofNat x2.toNat, UInt8.ofNat x3.toNat])) (w.alloc (.cells #[.int .u8 x0, .int .u8 x1, .int .u8 x2, .int .u8 x3] te)) := by
  rw [run_convert_bytes_string _ ts td te _ _ _ hs he hd]
  rw [run_bytesToString _ _ 4 4 [x0, x1, x2, x3]]
  · rfl
  · exact run_loadCells_list _ _ [Value.int .u8 x0, .int .u8 x1, .int .u8 x2, .int .u8 x3] (fun j v h => by
      have hb := Blk.new w te #[.int .u8 x0, .int .u8 x1, .int .u8 x2, .int .u8 x3]
      have e : (⟨w.heap.size, 0, none⟩ : Addr).add j = ⟨w.heap.size, j, none⟩ := by unfold Addr.add; split <;> simp_all
      rw [e, hb.cell]; simpa using h)
theorem data_len (s : ByteArray) : s.data.toList.length = s.size := by rw [Array.length_toList]; rfl
theorem text_sum (a : List UInt8) (s : ByteArray) : bs a ++ s = bs (a ++ s.data.toList) := by rw [← bs_append]; rfl
end Go.Proofs.YtlfhfpjffdaomaaDoor
