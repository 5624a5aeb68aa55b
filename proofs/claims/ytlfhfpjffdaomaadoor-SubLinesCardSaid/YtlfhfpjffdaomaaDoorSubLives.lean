/-
  The document's example, as layer 28's statements ask for it; lines that come in.
-/
import Derived.Test.YtlfhfpjffdaomaaDoorSubSwap
import Derived.Test.YtlfhfpjffdaomaaDoorFrame
namespace Go.Proofs.YtlfhfpjffdaomaaDoor
open Go.RowKit
set_option maxRecDepth 100000
namespace Sb
open Gl
def exT : List UInt8 := [97, 88, 97, 10, 98, 10, 97]
def exR : List (List UInt8) := [[97], [88], [97], [10], [98], [10], [97]]
def exU : List UInt8 := [88, 97, 10, 98, 10]
def exV : List (List UInt8) := [[88], [97], [10], [98], [10]]
theorem ex_swap : swap exT 0 2 [97] [] false = (exU, 5, 0) := by
  have hT : Utf.dec exT = some exR := Utf.dec_of (rs := exR) (by decide)
  have hv : Utf.valid exT = true := by rw [Utf.valid, hT]; rfl
  have hL : Line.L exT = [(0, 3), (4, 5), (6, 7)] := by rw [Line.L_ok hv]; rfl
  have hU : Utf.dec exU = some exV := Utf.dec_of (rs := exV) (by decide)
  have hu : Utf.valid exU = true := by rw [Utf.valid, hU]; rfl
  have hM : Line.L exU = [(0, 2), (3, 4), (5, 5)] := by rw [Line.L_ok hu]; rfl
  have h2 : (Line.L exU)[2]? = some (5, 5) := by rw [hM]; rfl
  have hg : glue (rows [97] [] (most exT false) 0 2 (Ix.parts exT)) = exU := by decide
  have hl : lst [97] (most exT false) ((0 : Nat) : Int) (-1) (mids 0 2 (Ix.parts exT)) = ((2 : Nat) : Int) := by decide
  have h := swap_ok (s := exT) (i := 0) (j := 2) (p := [97]) (r := []) (all := false) ⟨⟨by decide, by decide, by rw [hL]; decide⟩, by decide, plain_sign (by decide) (by decide), valid_nil, by decide⟩ (by decide) (by rw [hg]; decide)
  obtain ⟨c, e1, _, e3, e4⟩ := Line.first_ok h2
  rw [hg, hl, e1] at h
  have hc : c = 5 := by omega
  rw [hc] at h
  exact h
end Sb
set_option maxHeartbeats 1000000 in
set_option maxRecDepth 100000 in
theorem sub_lives {w : World} (hm : MaxAt w) : Calls Tryd.prog 7 #[] w fun e w' => e = .returned (.bool true) ∧ Below w.heap.size w w' := by
  have C0 : Hid (Calls Tryd.prog 8 #[.string ⟨#[97, 88, 97, 10, 98, 10, 97]⟩, .int .i64 0, .int .i64 2, .string ⟨#[97]⟩, .string ⟨#[]⟩, .bool false] w fun e w' => e = .returned (.tuple #[.string ⟨#[88, 97, 10, 98, 10]⟩, .int .i64 5, .int .i64 0]) ∧ Below w.heap.size w w') := Lib.hid (by
    have := sub_Swap ⟨#[97, 88, 97, 10, 98, 10, 97]⟩ ⟨#[97]⟩ ⟨#[]⟩ 0 2 false (by decide) (by decide) (by decide) hm
    rw [show Sb.swap (⟨#[97, 88, 97, 10, 98, 10, 97]⟩ : ByteArray).data.toList 0 2 (⟨#[97]⟩ : ByteArray).data.toList (⟨#[]⟩ : ByteArray).data.toList false = (Sb.exU, 5, 0) from Sb.ex_swap] at this
    exact this)
  have g0 : ((⟨#[88, 97, 10, 98, 10]⟩ : ByteArray).toList == (⟨#[88, 97, 10, 98, 10]⟩ : ByteArray).toList) = true := by simp
  go_enter Tryd.func7, Tryd.ntmps7
  go_wp2_with (go_at_call 8; (with_reducible refine C0.out.mono ?_); rintro e u ⟨rfl, hb⟩)
  go_ret
  exact ⟨rfl, hb⟩
/-- The box that a law lays for its lines. -/
structure LBox (w u : World) (a b : Int) : Prop where
  below : Below w.heap.size w u
  blk : Blk u w.heap.size 23 #[.int .i64 a, .int .i64 b]
theorem LBox.new (w : World) (a b : Int) : LBox w (w.alloc (.cells #[.int .i64 a, .int .i64 b] 23)) a b := ⟨(Below.refl _ w).alloc (Nat.le_refl _) _, Blk.new _ _ _⟩
theorem LBox.on {w u v : World} {a b : Int} (h : LBox w u a b) (hb : Below u.heap.size u v) : LBox w v a b := ⟨h.below.trans (hb.mono h.below.size), h.blk.below hb h.blk.lt⟩
theorem LBox.cells {w u : World} {a b : Int} (h : LBox w u a b) : u.cell? ⟨w.heap.size, 0, none⟩ = some (.int .i64 a) ∧ u.cell? ⟨w.heap.size, 1, none⟩ = some (.int .i64 b) := ⟨h.blk.cell 0, h.blk.cell 1⟩
section
open Go.ChangeShapes Go.WideShapes Go.ChangeAt
variable {H : Type} {enc : TypeId × Value → H} {W : World}
theorem cells_lines28 : Tryd.prog.cellsOf 23 = 2 := by kernel_rfl
/-- An argument that is the first and the last of some lines. -/
theorem open_lines28 {base : Nat} {v : Value} {d : DataW H} {p : List MemPlace} (ho : Value.okWide Tryd.prog W .any base 23 v)
    (h : DataW.Trod enc Tryd.prog W 0 (fun _ => true) true 23 v d p) :
    ∃ (a b : Int), v = .agg #[.int .i64 a, .int .i64 b] := by
  simp only [Value.okWide, Tryd.underlying23] at ho
  obtain ⟨cs, rfl, _, _⟩ := ho
  obtain ⟨fuel, hf⟩ := h
  obtain ⟨xs, n, _, hx, hlen0, hlen, hf⟩ := DataW.trod_struct Tryd.underlying23 hf
  rw [cells_lines28] at hlen0
  simp only [Value.cells] at hlen0 hf
  obtain ⟨L⟩ := cs
  match L, hlen0 with
  | [c0, c1], _ =>
    match xs, hlen with
    | [x0, x1], _ =>
      have f0 := hf 0 _ rfl
      have f1 := hf 1 _ rfl
      have hi : Tryd.prog.cellsOf 3 = 1 := by kernel_rfl
      simp only [List.getElem_toArray, List.getElem_cons_zero, List.getElem_cons_succ, hi, List.drop_succ_cons, List.drop_zero, List.take_succ_cons, List.take_zero, List.getElem?_cons_zero, List.getElem?_cons_succ] at f0 f1
      obtain ⟨m, e0, _, _⟩ := DataW.trod_int Tryd.underlying3 f0
      obtain ⟨k, e1, _, _⟩ := DataW.trod_int Tryd.underlying3 f1
      simp at e0 e1
      subst e0 e1
      exact ⟨m, k, rfl⟩
end
end Go.Proofs.YtlfhfpjffdaomaaDoor
