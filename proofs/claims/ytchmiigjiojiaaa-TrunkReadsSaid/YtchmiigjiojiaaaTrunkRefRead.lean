/-
  How the document's answer reads a tree.
-/
import Derived.Test.YtchmiigjiojiaaaTrunkRead
import Derived.Test.YtchmiigjiojiaaaTreeRefRight
import Derived.Test.YtchmiigjiojiaaaRef
namespace Go.Proofs.Ytchmiigjiojiaaa
open Go.RowKit
open Tre Trk
namespace Trk
/-- One more number is read, as it stands. -/
def stepR (k : Nat) (s : Nd × List UInt8 × Int) : Nd × List UInt8 × Int :=
  match k with
  | 0 => ({ s.1 with up := (rdNum s.2.1 s.2.2).1 }, (rdNum s.2.1 s.2.2).2)
  | 1 => ({ s.1 with next := (rdNum s.2.1 s.2.2).1 }, (rdNum s.2.1 s.2.2).2)
  | 2 => ({ s.1 with before := (rdNum s.2.1 s.2.2).1 }, (rdNum s.2.1 s.2.2).2)
  | 3 => ({ s.1 with after := (rdNum s.2.1 s.2.2).1 }, (rdNum s.2.1 s.2.2).2)
  | _ => ({ s.1 with at_ := (rdNum s.2.1 s.2.2).1 }, (rdNum s.2.1 s.2.2).2)
def stR : Nat → List UInt8 → Int → Nd × List UInt8 × Int
  | 0, l, e => (none_, l, e)
  | k + 1, l, e => stepR k (stR k l e)
theorem stR_succ (k : Nat) (l : List UInt8) (e : Int) : stR (k + 1) l e = stepR k (stR k l e) := rfl
/-- The numbers of a node that is read in part. -/
def five (x : Nd) : Array Value := #[.int .i64 x.up, .int .i64 x.next, .int .i64 x.before, .int .i64 x.after, .int .i64 x.at_]
/-- A node of its numbers and texts. -/
def ofR (x : Nd) (a b : List UInt8) : Nd := ⟨x.up - 1, x.next - 1, x.before, x.after, x.at_, bs a, bs b⟩
theorem rdNode_of {l l2 l3 : List UInt8} {e e2 e3 : Int} {s : Nd × List UInt8 × Int} {a b : List UInt8} (h0 : stR 5 l e = s) (h1 : rdText 4096 s.2.1 s.2.2 = (a, l2, e2)) (h2 : rdText 4096 l2 e2 = (b, l3, e3)) : rdNode l e = (ofR s.1 a b, l3, e3) := by
  have e0 : rdNode l e = (ofR (stR 5 l e).1 (rdText 4096 (stR 5 l e).2.1 (stR 5 l e).2.2).1 (rdText 4096 (rdText 4096 (stR 5 l e).2.1 (stR 5 l e).2.2).2.1 (rdText 4096 (stR 5 l e).2.1 (stR 5 l e).2.2).2.2).1, (rdText 4096 (rdText 4096 (stR 5 l e).2.1 (stR 5 l e).2.2).2.1 (rdText 4096 (stR 5 l e).2.1 (stR 5 l e).2.2).2.2).2) := rfl
  rw [e0]
  simp only [h0, h1, h2]
/-- The numbers of a node are no less than none, and fit. -/
theorem stR_bounds (l : List UInt8) (e : Int) : (0 ≤ (stR 5 l e).1.up ∧ (stR 5 l e).1.up ≤ 2147483647) ∧ 0 ≤ (stR 5 l e).1.next ∧ (stR 5 l e).1.next ≤ 2147483647 := by
  have e0 : (stR 5 l e).1.up = (rdNum (stR 0 l e).2.1 (stR 0 l e).2.2).1 := rfl
  have e1 : (stR 5 l e).1.next = (rdNum (stR 1 l e).2.1 (stR 1 l e).2.2).1 := rfl
  rw [e0, e1]
  exact ⟨rdNum_low _ _, rdNum_low _ _⟩
end Trk
/-- What the document's Read answers. -/
def TreeRq (q : Nat) (r : (List Nd × Int × Int) × List UInt8 × Int) (w : World) (e : Ending) (w' : World) : Prop :=
  ∃ (A : Option Addr) (c : Nat), e = .returned (.tuple #[.agg #[.slice A r.1.1.length c, .int .i64 r.1.2.1], .int .i64 r.1.2.2]) ∧ Nds w' A r.1.1 ∧ r.1.1.length ≤ c ∧ Rq q r.2.1 r.2.2 w' ∧ w.grownBy w' (some q)
/-- In the middle of a tree: the reader, the tree that is laid, the answer's cell; and all else as it was. -/
structure RefAt (q tb rb : Nat) (w0 w : World) (l : List UInt8) (err : Int) (A : Option Addr) (m c : Nat) (ns : List Nd) (cur : Int) : Prop where
  rd : Rq q l err w
  tree : Blk w tb 29 #[.slice A m c, .int .i64 cur]
  res : Blk w rb 29 #[.slice none 0 0, .int .i64 0]
  row : w.ownsRow w0.heap.size 48 7 (.slice A m c) m (nrows ns)
  base : w0.grownBy w (some q)
  own : w0.heap.size ≤ tb
  ownr : w0.heap.size ≤ rb
  ne : rb ≠ tb
section
variable {q tb rb : Nat} {w0 w w' : World} {l l' : List UInt8} {err err' : Int} {A : Option Addr} {m c : Nat} {ns : List Nd} {cur : Int}
theorem RefAt.grown (h : RefAt q tb rb w0 w l err A m c ns cur) (k : w.grownBy w' none) : RefAt q tb rb w0 w' l err A m c ns cur :=
  { h with rd := h.rd.grown k (by simp), tree := h.tree.grown k (by simp), res := h.res.grown k (by simp), row := h.row.kept k (by cases hv : (Value.slice A m c).ownBlock <;> simp), base := gb_trans h.base (gb_none _ k) }
/-- A block of another type is written, that the call has laid. -/
theorem RefAt.other (h : RefAt q tb rb w0 w l err A m c ns cur) {g : Nat} {t : TypeId} {cs : Array Value} (k : w.grownBy w' (some g)) (hg : Blk w g t cs) (hB : w0.heap.size ≤ g) (h0 : t ≠ 29) (h1 : t ≠ 48) (h2 : t ≠ 26) : RefAt q tb rb w0 w' l err A m c ns cur :=
  { h with rd := h.rd.grown k (fun e => hg.ne_ h.rd.self h2 (Option.some.inj e).symm), tree := h.tree.grown k (fun e => hg.ne_ h.tree h0 (Option.some.inj e).symm), res := h.res.grown k (fun e => hg.ne_ h.res h0 (Option.some.inj e).symm), row := h.row.kept k (Or.inr (own_blk_ne h.row hg (fun e => h1 e.symm))), base := gb_own h.base k (fun i hi => by injection hi with hi; rw [← hi]; exact hB) }
/-- The reader goes on. -/
theorem RefAt.read (h : RefAt q tb rb w0 w l err A m c ns cur) (k : w.grownBy w' (some q)) (hr : Rq q l' err' w') : RefAt q tb rb w0 w' l' err' A m c ns cur :=
  { h with rd := hr, tree := h.tree.grown k (fun e => h.tree.ne_ h.rd.self (by decide) (Option.some.inj e)), res := h.res.grown k (fun e => h.res.ne_ h.rd.self (by decide) (Option.some.inj e)), row := h.row.kept k (Or.inr (own_blk_ne h.row h.rd.self (by decide))), base := gb_trans h.base k }
/-- The tree's cell is written. -/
theorem RefAt.cur_ (h : RefAt q tb rb w0 w l err A m c ns cur) (n : Int) : RefAt q tb rb w0 (w.setCell ⟨tb, 1, none⟩ (.int .i64 n)) l err A m c ns n := by
  have k := gb_set w tb 1 (.int .i64 n)
  exact { h with rd := h.rd.grown k (fun e => h.tree.ne_ h.rd.self (by decide) (Option.some.inj e).symm), tree := by simpa using h.tree.set_ 1 (.int .i64 n), res := h.res.grown k (fun e => h.ne (Option.some.inj e)), row := h.row.kept k (Or.inr (own_blk_ne h.row h.tree (by decide))), base := gb_own h.base k (fun i hi => by injection hi with hi; rw [← hi]; exact h.own) }
/-- A node more: the row has grown, and the tree's cell tells it. -/
theorem RefAt.more (h : RefAt q tb rb w0 w l err A m c ns cur) {B : Option Addr} {n d : Nat} {ks : List Nd} (k : w.grownBy w' (Value.slice A m c).ownBlock) (hown : w'.ownsRow w0.heap.size 48 7 (.slice B n d) n (nrows ks)) : RefAt q tb rb w0 (w'.setCell ⟨tb, 0, none⟩ (.slice B n d)) l err B n d ks cur := by
  have t1 : Blk w' tb 29 #[.slice A m c, .int .i64 cur] := h.tree.grown k (fun e => own_blk_ne h.row h.tree (by decide) e.symm)
  have r1 : Blk w' rb 29 #[.slice none 0 0, .int .i64 0] := h.res.grown k (fun e => own_blk_ne h.row h.res (by decide) e.symm)
  have rd1 : Rq q l err w' := h.rd.grown k (fun e => own_blk_ne h.row h.rd.self (by decide) e.symm)
  have b1 : w0.grownBy w' (some q) := gb_own h.base k (fun i hi => (h.row.lt i hi).1)
  have k2 := gb_set w' tb 0 (.slice B n d)
  exact { rd := rd1.grown k2 (fun e => t1.ne_ rd1.self (by decide) (Option.some.inj e).symm), tree := by simpa using t1.set_ 0 (.slice B n d), res := r1.grown k2 (fun e => h.ne (Option.some.inj e)), row := hown.kept k2 (Or.inr (own_blk_ne hown t1 (by decide))), base := gb_own b1 k2 (fun i hi => by injection hi with hi; rw [← hi]; exact h.own), own := h.own, ownr := h.ownr, ne := h.ne }
theorem RefAt.len (h : RefAt q tb rb w0 w l err A m c ns cur) : ns.length = m := by
  have := h.row.1
  rw [nrows_length] at this
  omega
/-- The answer's cell is written. -/
theorem RefAt.wrote (h : RefAt q tb rb w0 w l err A m c ns cur) (v0 v1 : Value) : Rq q l err ((w.setCell ⟨rb, 0, none⟩ v0).setCell ⟨rb, 1, none⟩ v1) ∧ w0.grownBy ((w.setCell ⟨rb, 0, none⟩ v0).setCell ⟨rb, 1, none⟩ v1) (some q) ∧ Nds ((w.setCell ⟨rb, 0, none⟩ v0).setCell ⟨rb, 1, none⟩ v1) A ns ∧ m ≤ c := by
  have k1 := gb_set w rb 0 v0
  have k2 := gb_set (w.setCell ⟨rb, 0, none⟩ v0) rb 1 v1
  have hn := own_nds h.row h.len
  have hne := own_blk_ne h.row h.res (by decide)
  refine ⟨h.rd.grown (gb_trans k1 k2) (fun e => h.res.ne_ h.rd.self (by decide) (Option.some.inj e).symm), gb_own h.base (gb_trans k1 k2) (fun i hi => by injection hi with hi; rw [← hi]; exact h.ownr), nds_two hn.1 (fun ad e => ?_), hn.2⟩
  intro e2
  apply hne
  subst e
  obtain ⟨b, off, sp⟩ := ad
  rcases h.row.2 with ⟨hv, _⟩ | ⟨g', cap, cur', hv, _⟩
  · cases hv
  · injection hv with e1 _ _
    injection e1 with e1
    rw [e1] at e2 ⊢
    have e3 : g' = rb := e2
    subst e3
    simp [Value.ownBlock]
end
theorem treeRq_nil {q : Nat} {r : (List Nd × Int × Int) × List UInt8 × Int} {w w' : World} {n : Int} {l : List UInt8} {err : Int} (h : r = (([], 0, n), l, err)) (hr : Rq q l err w') (hg : w.grownBy w' (some q)) : TreeRq q r w (.returned (.tuple #[.agg #[.slice none 0 0, .int .i64 0], .int .i64 n])) w' := by
  subst h
  exact ⟨none, 0, rfl, Nds.nil _ _, Nat.le_refl _, hr, hg⟩
theorem rq_text_to {p : Nat} {l : List UInt8} {err e most : Int} {t r : List UInt8} {w : World} (h : Rq p l err w) (hq : rdText most l err = (t, r, e)) :
    Calls Try.prog 17 #[.pointer (some ⟨p, 0, none⟩), .int .i64 most] w fun x w' => x = .returned (.string (bs t)) ∧ Rq p r e w' ∧ w.grownBy w' (some p) := by
  have := rq_text most h
  rw [hq] at this
  exact this
/-- How many elements the slice in a cell has. -/
def rowLen (w : World) (p : Addr) : Nat := match w.cell? p with | some (.slice _ n _) => n | _ => 0
theorem rowLen_of {w : World} {p : Addr} {A : Option Addr} {n c : Nat} (h : w.cell? p = some (.slice A n c)) : rowLen w p = n := by unfold rowLen; rw [h]
set_option maxHeartbeats 4000000 in
set_option maxRecDepth 100000 in
theorem ref12_Read {q : Nat} {l : List UInt8} {err : Int} {w : World} (hr : Rq q l err w) :
    Calls Try.prog 6 #[.pointer (some ⟨q, 0, none⟩)] w (TreeRq q (rdTree l err) w) := by
  obtain ⟨R, HR⟩ : ∃ R, Hid (rdTree l err = R) := ⟨_, rfl⟩
  rw [HR.out]
  obtain ⟨n, l1, e1, hq⟩ : ∃ n l1 e1, rdNum l err = (n, l1, e1) := ⟨_, _, _, rfl⟩
  have hlow := rdNum_low l err
  rw [hq] at hlow
  simp only at hlow
  obtain ⟨N, rfl⟩ : ∃ N : Nat, n = N := ⟨n.toNat, by omega⟩
  have hN : N ≤ 2147483647 := by omega
  obtain ⟨i0, hi, hz0, hz1, hz2⟩ := info_parts info_node
  have HT : Hid (∀ {ns : List Nd} {l2 l3 : List UInt8} {e2 c e3 : Int}, rdNodes N l1 e1 = (ns, l2, e2) → rdNum l2 e2 = (c, l3, e3) → R = (if e3 ≠ 0 then ([], 0, e3) else if Right ns c then (ns, c, 0) else ([], 0, 3), l3, e3)) := fun h1 h2 => by
    have := rdTree_of hq (by rw [Int.toNat_natCast]; exact h1) h2
    rw [HR.out] at this
    exact this
  have T1 : RefAt q (w.heap.size + 1) w.heap.size w ((w.alloc (.cells #[.slice none 0 0, .int .i64 0] 29)).alloc (.cells #[.slice none 0 0, .int .i64 0] 29)) l err none 0 0 [] 0 := by
    have b1 := Blk.new (w.alloc (.cells #[.slice none 0 0, .int .i64 0] 29)) 29 #[.slice none 0 0, .int .i64 0]
    rw [World.size_alloc] at b1
    exact { rd := (hr.grown (World.grownBy_alloc w _ none) (by simp)).grown (World.grownBy_alloc _ _ none) (by simp), tree := b1, res := (Blk.new w _ _).alloc _, row := World.ownsRow_nil _ _ _ _, base := gb_trans (World.grownBy_alloc w _ _) (World.grownBy_alloc _ _ _), own := by omega, ownr := Nat.le_refl _, ne := by omega }
  have HN := Lib.hid (rq_num_at T1.rd hq)
  clear hr HR hq hlow
  go_enter Try.func6, Try.ntmps6
  go_wp2_with (go_at_call 16; ((with_reducible refine HN.out.mono ?_); rintro e w2 ⟨rfl, hr2, hg2⟩))
  have T0 := T1.read hg2 hr2
  clear T1 HN hr2 hg2
  generalize w.heap.size + 1 = tb at *
  generalize hrb : w.heap.size = rb at T0 ⊢
  clear hrb
  go_loopw [7] (fun _ wr => ∃ (k c : Nat) (A : Option Addr) (acc : List Nd) (l' : List UInt8) (e' : Int), k ≤ N ∧ RefAt q tb rb w wr l' e' A k c acc 0 ∧ Hid (rdNodes N l1 e1 = (acc ++ (rdNodes (N - k) l' e').1, (rdNodes (N - k) l' e').2)))
    (fun _ wr => N - rowLen wr ⟨tb, 0, none⟩)
  case atStart => exact ⟨0, 0, none, [], l1, e1, Nat.zero_le _, T0, by show _ = _; simp⟩
  case round =>
    obtain ⟨k, c, A, acc, l', e', hkN, T, HM⟩ := hrel
    clear T0
    have s0 := T.tree.cell 0
    have HRL := Lib.hid (rowLen_of s0)
    by_cases hlt : k < N
    · have hk1 : N - k = (N - (k + 1)) + 1 := by omega
      have T2 := T.grown (World.grownBy_alloc wr (.cells #[.int .i64 0, .int .i64 0, .int .i64 0, .int .i64 0, .int .i64 0] 52) none)
      have X2 := Blk.new wr 52 #[.int .i64 0, .int .i64 0, .int .i64 0, .int .i64 0, .int .i64 0]
      have hxb : w.heap.size ≤ wr.heap.size := T.base.size
      have HTT := Lib.hid T
      clear T
      go_wp2_with fail
      generalize wr.heap.size = xb at *
      generalize wr.alloc (.cells #[.int .i64 0, .int .i64 0, .int .i64 0, .int .i64 0, .int .i64 0] 52) = wx at *
      go_loopw [7] (fun i wy => ∃ j : Nat, j ≤ 5 ∧ i = .int .i64 j ∧ RefAt q tb rb w wy (stR j l' e').2.1 (stR j l' e').2.2 A k c acc 0 ∧ Blk wy xb 52 (five (stR j l' e').1)) (fun i _ => 5 - (intOf i).toNat)
      case atStart => exact ⟨0, by omega, rfl, T2, X2⟩
      case round =>
        obtain ⟨j, hj, rfl, T, X⟩ := hrel
        clear T2 X2
        rcases (by omega : j = 0 ∨ j = 1 ∨ j = 2 ∨ j = 3 ∨ j = 4 ∨ j = 5) with rfl | rfl | rfl | rfl | rfl | rfl
        · obtain ⟨s, HS⟩ : ∃ s, Hid (stR 0 l' e' = s) := ⟨_, rfl⟩
          rw [HS.out] at T X
          have HNN := Lib.hid (rq_num T.rd)
          have HT2 := Lib.hid T
          have HX2 := Lib.hid X
          clear T X hj
          go_wp2_with (go_at_call 16; ((with_reducible refine HNN.out.mono ?_); rintro e w5 ⟨rfl, hr5, hg5⟩; have T5 := HT2.out.read hg5 hr5; have X5 := HX2.out.grown hg5 (fun e => HX2.out.ne_ HT2.out.rd.self (by decide) (Option.some.inj e)); have z5 := X5.frozen 0; have k5 := X5.cell 0; simp only [five, List.getElem?_toArray, List.getElem?_cons_zero] at k5))
          go_roundw
          case rel =>
            have X6 := X5.set_ 0 (.int .i64 (rdNum s.2.1 s.2.2).1)
            unfold five at X6
            simp only [List.setIfInBounds_toArray, List.set_cons_zero] at X6
            exact ⟨0 + 1, by omega, by go_num, by rw [stR_succ, HS.out]; exact T5.other (gb_set w5 xb 0 _) X5 hxb (by decide) (by decide) (by decide), by rw [stR_succ, HS.out]; exact X6⟩
          case measure => simp [intOf]
        · obtain ⟨s, HS⟩ : ∃ s, Hid (stR 1 l' e' = s) := ⟨_, rfl⟩
          rw [HS.out] at T X
          have HNN := Lib.hid (rq_num T.rd)
          have HT2 := Lib.hid T
          have HX2 := Lib.hid X
          clear T X hj
          go_wp2_with (go_at_call 16; ((with_reducible refine HNN.out.mono ?_); rintro e w5 ⟨rfl, hr5, hg5⟩; have T5 := HT2.out.read hg5 hr5; have X5 := HX2.out.grown hg5 (fun e => HX2.out.ne_ HT2.out.rd.self (by decide) (Option.some.inj e)); have z5 := X5.frozen 1; have k5 := X5.cell 1; simp only [five, List.getElem?_toArray, List.getElem?_cons_zero, List.getElem?_cons_succ] at k5))
          go_roundw
          case rel =>
            have X6 := X5.set_ 1 (.int .i64 (rdNum s.2.1 s.2.2).1)
            unfold five at X6
            simp only [List.setIfInBounds_toArray, List.set_cons_zero, List.set_cons_succ] at X6
            exact ⟨1 + 1, by omega, by go_num, by rw [stR_succ, HS.out]; exact T5.other (gb_set w5 xb 1 _) X5 hxb (by decide) (by decide) (by decide), by rw [stR_succ, HS.out]; exact X6⟩
          case measure => simp [intOf]
        · obtain ⟨s, HS⟩ : ∃ s, Hid (stR 2 l' e' = s) := ⟨_, rfl⟩
          rw [HS.out] at T X
          have HNN := Lib.hid (rq_num T.rd)
          have HT2 := Lib.hid T
          have HX2 := Lib.hid X
          clear T X hj
          go_wp2_with (go_at_call 16; ((with_reducible refine HNN.out.mono ?_); rintro e w5 ⟨rfl, hr5, hg5⟩; have T5 := HT2.out.read hg5 hr5; have X5 := HX2.out.grown hg5 (fun e => HX2.out.ne_ HT2.out.rd.self (by decide) (Option.some.inj e)); have z5 := X5.frozen 2; have k5 := X5.cell 2; simp only [five, List.getElem?_toArray, List.getElem?_cons_zero, List.getElem?_cons_succ] at k5))
          go_roundw
          case rel =>
            have X6 := X5.set_ 2 (.int .i64 (rdNum s.2.1 s.2.2).1)
            unfold five at X6
            simp only [List.setIfInBounds_toArray, List.set_cons_zero, List.set_cons_succ] at X6
            exact ⟨2 + 1, by omega, by go_num, by rw [stR_succ, HS.out]; exact T5.other (gb_set w5 xb 2 _) X5 hxb (by decide) (by decide) (by decide), by rw [stR_succ, HS.out]; exact X6⟩
          case measure => simp [intOf]
        · obtain ⟨s, HS⟩ : ∃ s, Hid (stR 3 l' e' = s) := ⟨_, rfl⟩
          rw [HS.out] at T X
          have HNN := Lib.hid (rq_num T.rd)
          have HT2 := Lib.hid T
          have HX2 := Lib.hid X
          clear T X hj
          go_wp2_with (go_at_call 16; ((with_reducible refine HNN.out.mono ?_); rintro e w5 ⟨rfl, hr5, hg5⟩; have T5 := HT2.out.read hg5 hr5; have X5 := HX2.out.grown hg5 (fun e => HX2.out.ne_ HT2.out.rd.self (by decide) (Option.some.inj e)); have z5 := X5.frozen 3; have k5 := X5.cell 3; simp only [five, List.getElem?_toArray, List.getElem?_cons_zero, List.getElem?_cons_succ] at k5))
          go_roundw
          case rel =>
            have X6 := X5.set_ 3 (.int .i64 (rdNum s.2.1 s.2.2).1)
            unfold five at X6
            simp only [List.setIfInBounds_toArray, List.set_cons_zero, List.set_cons_succ] at X6
            exact ⟨3 + 1, by omega, by go_num, by rw [stR_succ, HS.out]; exact T5.other (gb_set w5 xb 3 _) X5 hxb (by decide) (by decide) (by decide), by rw [stR_succ, HS.out]; exact X6⟩
          case measure => simp [intOf]
        · obtain ⟨s, HS⟩ : ∃ s, Hid (stR 4 l' e' = s) := ⟨_, rfl⟩
          rw [HS.out] at T X
          have HNN := Lib.hid (rq_num T.rd)
          have HT2 := Lib.hid T
          have HX2 := Lib.hid X
          clear T X hj
          go_wp2_with (go_at_call 16; ((with_reducible refine HNN.out.mono ?_); rintro e w5 ⟨rfl, hr5, hg5⟩; have T5 := HT2.out.read hg5 hr5; have X5 := HX2.out.grown hg5 (fun e => HX2.out.ne_ HT2.out.rd.self (by decide) (Option.some.inj e)); have z5 := X5.frozen 4; have k5 := X5.cell 4; simp only [five, List.getElem?_toArray, List.getElem?_cons_zero, List.getElem?_cons_succ] at k5))
          go_roundw
          case rel =>
            have X6 := X5.set_ 4 (.int .i64 (rdNum s.2.1 s.2.2).1)
            unfold five at X6
            simp only [List.setIfInBounds_toArray, List.set_cons_zero, List.set_cons_succ] at X6
            exact ⟨4 + 1, by omega, by go_num, by rw [stR_succ, HS.out]; exact T5.other (gb_set w5 xb 4 _) X5 hxb (by decide) (by decide) (by decide), by rw [stR_succ, HS.out]; exact X6⟩
          case measure => simp [intOf]
        · have hbd := stR_bounds l' e'
          obtain ⟨s, HS⟩ : ∃ s, Hid (stR 5 l' e' = s) := ⟨_, rfl⟩
          rw [HS.out] at T X hbd
          obtain ⟨⟨bu0, bu1⟩, bn0, bn1⟩ := hbd
          obtain ⟨a, l2, e2, h1⟩ : ∃ a b c, rdText 4096 s.2.1 s.2.2 = (a, b, c) := ⟨_, _, _, rfl⟩
          obtain ⟨b, l3, e3, h2⟩ : ∃ a b c, rdText 4096 l2 e2 = (a, b, c) := ⟨_, _, _, rfl⟩
          have hx := rdNode_of HS.out h1 h2
          have H1 := Lib.hid (rq_text_to T.rd h1)
          have H2 := Lib.hid h2
          have HT2 := Lib.hid T
          have HX2 := Lib.hid X
          clear T X hj h1 h2
          by_cases he : e3 = 0
          · subst he
            have HM2 : Hid (rdNodes N l1 e1 = ((acc ++ [ofR s.1 a b]) ++ (rdNodes (N - (k + 1)) l3 0).1, (rdNodes (N - (k + 1)) l3 0).2)) := by
              show _ = _
              rw [HM.out, hk1, rdNodes_ok hx, List.append_assoc]
              rfl
            clear HM hk1 hx
            go_wp2_with (first
              | (go_at_call 17; ((with_reducible refine H1.out.mono ?_); rintro e w5 ⟨rfl, hr5, hg5⟩; have T5 := HT2.out.read hg5 hr5; have X5 := HX2.out.grown hg5 (fun e => HX2.out.ne_ HT2.out.rd.self (by decide) (Option.some.inj e))))
              | (go_at_call 17; ((with_reducible refine (rq_text_to T5.rd H2.out).mono ?_); rintro e w6 ⟨rfl, hr6, hg6⟩; have T6 := T5.read hg6 hr6; have X6 := X5.grown hg6 (fun e => X5.ne_ T5.rd.self (by decide) (Option.some.inj e)); have x0 := X6.cell 0; have x1 := X6.cell 1; have x2 := X6.cell 2; have x3 := X6.cell 3; have x4 := X6.cell 4; simp only [five, List.getElem?_toArray, List.getElem?_cons_zero, List.getElem?_cons_succ] at x0 x1 x2 x3 x4; have y0 := T6.tree.cell 0; have y1 := T6.rd.self.cell 1))
              | (at_builtin; refine wpList_append_own _ rfl _ _ 27 rfl w.heap.size 48 i0 _ 7 72 Try.underlying27 hi hz0 hz1 hz2 rfl (by decide) _ _ _ rfl (T6.row.alloc _) ⟨w6.heap.size, 0, none⟩ 1 1 (Nd.row (ofR s.1 a b)) rfl rfl ?c1 ?c2 ?c3 ?c4 ?c5 ?_))
            case c1 =>
              intro i u hu
              have hb := Blk.new w6 48 #[.int .i64 (s.1.up - 1), .int .i64 (s.1.next - 1), .int .i64 s.1.before, .int .i64 s.1.after, .int .i64 s.1.at_, .string (bs a), .string (bs b)]
              rw [add_plain, Nat.zero_add, hb.cell]
              simpa [Nd.row, ofR] using hu
            case c2 => exact Nd.row_one _
            case c3 => unfold maxLen; omega
            case c4 => omega
            case c5 => have := T6.base.size; simp only [World.size_alloc] at this ⊢; omega
            intro v' w7 hown7 hgrow7 _
            obtain ⟨a7, cap7, rfl⟩ := own_shape hown7
            have T7 := T6.grown (World.grownBy_alloc w6 (.cells #[.int .i64 (s.1.up - 1), .int .i64 (s.1.next - 1), .int .i64 s.1.before, .int .i64 s.1.after, .int .i64 s.1.at_, .string (bs a), .string (bs b)] 48) none)
            have hown8 : w7.ownsRow w.heap.size 48 7 (.slice a7 (k + 1) cap7) (k + 1) (nrows (acc ++ [ofR s.1 a b])) := by
              rw [nrows_append]
              simpa [nrows] using hown7
            have t7 : Blk w7 tb 29 #[.slice A k c, .int .i64 0] := T7.tree.grown hgrow7 (fun e => own_blk_ne T7.row T7.tree (by decide) e.symm)
            have T8 := T7.more hgrow7 hown8
            have u0 := t7.cell 0
            have uz := t7.frozen 0
            have L8 := Lib.hid (rowLen_of (T8.tree.cell 0))
            have HT8 := Lib.hid T8
            clear hown7 hgrow7 t7 T7 T8 x0 x1 x2 x3 x4 y0 y1 X6 X5 T5 T6 hr5 hg5 hr6 hg6 hown8 s0
            go_wp2
            go_roundw
            case rel => exact ⟨k + 1, cap7, a7, acc ++ [ofR s.1 a b], l3, 0, by omega, HT8.out, HM2⟩
            case measure => rw [HRL.out, L8.out]; omega
          · have HM2 : Hid (rdNodes N l1 e1 = (acc, l3, e3)) := by
              show _ = _
              rw [HM.out, hk1, rdNodes_bad hx he, List.append_nil]
            have g1 : (e3 != 0) = true := by simp [he]
            have HE := Lib.hid he
            clear HM hk1 hx he
            go_wp2_with (first
              | (go_at_call 17; ((with_reducible refine H1.out.mono ?_); rintro e w5 ⟨rfl, hr5, hg5⟩; have T5 := HT2.out.read hg5 hr5))
              | (go_at_call 17; ((with_reducible refine (rq_text_to T5.rd H2.out).mono ?_); rintro e w6 ⟨rfl, hr6, hg6⟩; have T6 := T5.read hg6 hr6; have y1 := T6.rd.self.cell 1; have v0 := T6.res.cell 0; have v1 := T6.res.cell 1; have vz0 := T6.res.frozen 0; have vz1 := T6.res.frozen 1)))
            have hne : rb ≠ q := T6.res.ne_ T6.rd.self (by decide)
            have hne' : q ≠ rb := fun e => hne e.symm
            go_region
            all_goals
              have T7 := T6.grown (gb_drew w6 none)
              go_wp2
              refine ret_two1 (w := w6.drew) rfl rfl T7.res rfl Try.underlying29 rfl ?_
              obtain ⟨q1, q2, _⟩ := T7.wrote (.slice none 0 0) (.int .i64 0)
              have hl3 : l3 = [] := T6.rd.spent HE.out
              have HF : R = (([], 0, e3), l3, e3) := by
                rw [HT.out HM2.out (show rdNum l3 e3 = (0, [], e3) by rw [hl3]; exact rdNum_nil HE.out), if_pos HE.out, hl3]
              exact treeRq_nil HF q1 q2
    · obtain rfl : k = N := by omega
      have HM2 : Hid (rdNodes k l1 e1 = (acc, l', e')) := by
        show _ = _
        rw [HM.out, Nat.sub_self, rdNodes_zero, List.append_nil]
      clear HM
      obtain ⟨cq, l3, e3, hq2⟩ : ∃ n r e, rdNum l' e' = (n, r, e) := ⟨_, _, _, rfl⟩
      have HF := Lib.hid (HT.out HM2.out hq2)
      have HQ2 := Lib.hid hq2
      clear HM2 hq2 HT hlt HRL
      have NM := T.len
      have NL := Lib.hid NM
      have HTT := Lib.hid T
      clear NM T
      by_cases he3 : e3 = 0
      · subst he3
        have HF2 : Hid (R = (if Right acc cq then (acc, cq, 0) else ([], 0, 3), l3, 0)) := by
          show _ = _
          rw [HF.out, if_neg (by simp)]
        clear HF
        have TR := Lib.hid (fun (u : World) (h1 : Nds u A acc) => ref11_Right (c := c) (cur := cq) h1)
        rw [NL.out] at TR
        by_cases hR : Right acc cq
        · rw [decide_eq_true hR] at TR
          have HF3 : Hid (R = ((acc, cq, 0), l3, 0)) := by
            show _ = _
            rw [HF2.out, if_pos hR]
          clear HF2 hR
          go_wp2_with (first
            | (go_at_call 16; ((with_reducible refine (rq_num_at HTT.out.rd HQ2.out).mono ?_); rintro e w5 ⟨rfl, hr5, hg5⟩; have T5 := HTT.out.read hg5 hr5; have y1 := T5.tree.cell 1; have yz := T5.tree.frozen 1; have T6 := T5.cur_ cq; have v0 := T6.res.cell 0; have v1 := T6.res.cell 1; have vz0 := T6.res.frozen 0; have vz1 := T6.res.frozen 1; have t0 := T6.tree.cell 0; have t1 := T6.tree.cell 1; have r1 := T6.rd.self.cell 1))
            | (go_at_call 18; ((with_reducible refine (TR.out _ (own_nds T6.row T6.len).1).mono ?_); rintro e w7 ⟨rfl, hb7⟩; have T7 := T6.grown (gb_below none hb7); have a0 := T7.res.cell 0; have a1 := T7.res.cell 1; have az0 := T7.res.frozen 0; have az1 := T7.res.frozen 1; have b0 := T7.tree.cell 0; have b1 := T7.tree.cell 1)))
          refine ret_two1 rfl rfl T7.res rfl Try.underlying29 rfl ?_
          obtain ⟨q1, q2, q3, q4⟩ := T7.wrote (.slice A k c) (.int .i64 cq)
          rw [HF3.out]
          refine ⟨A, c, ?_, q3, by rw [NL.out]; exact q4, q1, q2⟩
          rw [NL.out]
          rfl
        · rw [decide_eq_false hR] at TR
          have HF3 : Hid (R = (([], 0, 3), l3, 0)) := by
            show _ = _
            rw [HF2.out, if_neg hR]
          clear HF2 hR
          go_wp2_with (first
            | (go_at_call 16; ((with_reducible refine (rq_num_at HTT.out.rd HQ2.out).mono ?_); rintro e w5 ⟨rfl, hr5, hg5⟩; have T5 := HTT.out.read hg5 hr5; have y1 := T5.tree.cell 1; have yz := T5.tree.frozen 1; have T6 := T5.cur_ cq; have v0 := T6.res.cell 0; have v1 := T6.res.cell 1; have vz0 := T6.res.frozen 0; have vz1 := T6.res.frozen 1; have t0 := T6.tree.cell 0; have t1 := T6.tree.cell 1; have r1 := T6.rd.self.cell 1))
            | (go_at_call 18; ((with_reducible refine (TR.out _ (own_nds T6.row T6.len).1).mono ?_); rintro e w7 ⟨rfl, hb7⟩; have T7 := T6.grown (gb_below none hb7); have a0 := T7.res.cell 0; have a1 := T7.res.cell 1; have az0 := T7.res.frozen 0; have az1 := T7.res.frozen 1; have b0 := T7.tree.cell 0; have b1 := T7.tree.cell 1)))
          refine ret_two1 rfl rfl T7.res rfl Try.underlying29 rfl ?_
          obtain ⟨q1, q2, q3, q4⟩ := T7.wrote (.slice none 0 0) (.int .i64 0)
          exact treeRq_nil HF3.out q1 q2
      · have HF2 : Hid (R = (([], 0, e3), l3, e3)) := by
          show _ = _
          rw [HF.out, if_pos he3]
        have g2 : (e3 != 0) = true := by simp [he3]
        clear HF he3
        go_wp2_with (first
            | (go_at_call 16; ((with_reducible refine (rq_num_at HTT.out.rd HQ2.out).mono ?_); rintro e w5 ⟨rfl, hr5, hg5⟩; have T5 := HTT.out.read hg5 hr5; have y1 := T5.tree.cell 1; have yz := T5.tree.frozen 1; have T6 := T5.cur_ cq; have v0 := T6.res.cell 0; have v1 := T6.res.cell 1; have vz0 := T6.res.frozen 0; have vz1 := T6.res.frozen 1; have t0 := T6.tree.cell 0; have t1 := T6.tree.cell 1; have r1 := T6.rd.self.cell 1)))
        have hne : rb ≠ q := T6.res.ne_ T6.rd.self (by decide)
        have hne' : q ≠ rb := fun e => hne e.symm
        go_region
        all_goals
          have T7 := T6.grown (gb_drew _ none)
          go_wp2
          refine ret_two1 (w := (w5.setCell ⟨tb, 1, none⟩ (.int .i64 cq)).drew) rfl rfl T7.res rfl Try.underlying29 rfl ?_
          obtain ⟨q1, q2, _⟩ := T7.wrote (.slice none 0 0) (.int .i64 0)
          exact treeRq_nil HF2.out q1 q2
end Go.Proofs.Ytchmiigjiojiaaa
