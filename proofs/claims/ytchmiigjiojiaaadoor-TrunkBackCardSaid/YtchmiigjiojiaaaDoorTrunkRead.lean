/-
  How the program reads a tree.
-/
import Derived.Test.YtchmiigjiojiaaaDoorNodeRead
import Derived.Test.YtchmiigjiojiaaaDoorTreeRight
import Derived.Test.YtchmiigjiojiaaaDoorReturns
namespace Go.Proofs.YtchmiigjiojiaaaDoor
open Go.RowKit
open Tre Trk
namespace Trk
theorem rdTree_of {l l1 l2 l3 : List UInt8} {err n e1 e2 c e3 : Int} {ns : List Nd} (h0 : rdNum l err = (n, l1, e1)) (h1 : rdNodes n.toNat l1 e1 = (ns, l2, e2)) (h2 : rdNum l2 e2 = (c, l3, e3)) :
    rdTree l err = (if e3 ≠ 0 then ([], 0, e3) else if Right ns c then (ns, c, 0) else ([], 0, 3), l3, e3) := by
  unfold rdTree
  simp only [h0, h1, h2]
/-- One node too many is enough. -/
theorem right_take (ns : List Nd) (c : Int) : Right (ns.take 1025) c ↔ Right ns c := by
  by_cases h : ns.length ≤ 1025
  · rw [List.take_of_length_le h]
  · constructor
    · intro k; have := k.few; rw [List.length_take] at this; omega
    · intro k; have := k.few; omega
theorem right_took {ns : List Nd} {c : Int} (h : Right ns c) : ns.take 1025 = ns := List.take_of_length_le (by have := h.few; omega)
end Trk
/-- What Read answers: a tree, an error, and where the reader stands. -/
def TreeRd (p : Nat) (r : (List Nd × Int × Int) × List UInt8 × Int) (w : World) (e : Ending) (w' : World) : Prop :=
  ∃ (A : Option Addr) (c : Nat), e = .returned (.tuple #[.agg #[.slice A r.1.1.length c, .int .i64 r.1.2.1], .int .i64 r.1.2.2]) ∧ Nds w' A r.1.1 ∧ r.1.1.length ≤ c ∧ Rd p r.2.1 r.2.2 w' ∧ w.grownBy w' (some p)
/-- In the middle of a tree: the reader, the tree that is laid, the answer's cell, the fields; and all else as it was. -/
structure TrunkAt (p g tb rb : Nat) (f : FB) (w0 w : World) (l : List UInt8) (err : Int) (A : Option Addr) (m c : Nat) (ns : List Nd) (cur : Int) : Prop where
  rd : Rd p l err w
  tree : Blk w tb 24 #[.slice A m c, .int .i64 cur]
  res : Blk w rb 24 #[.slice none 0 0, .int .i64 0]
  fields : FieldsAt w g f
  row : w.ownsRow w0.heap.size 40 7 (.slice A m c) m (nrows ns)
  base : w0.grownBy w (some p)
  own : w0.heap.size ≤ tb
  ownr : w0.heap.size ≤ rb
  ne : rb ≠ tb
section
variable {p g tb rb : Nat} {f : FB} {w0 w w' : World} {l l' : List UInt8} {err err' : Int} {A : Option Addr} {m c : Nat} {ns : List Nd} {cur : Int}
theorem TrunkAt.reader (h : TrunkAt p g tb rb f w0 w l err A m c ns cur) : ∃ cs, Blk w p 58 cs := by
  obtain ⟨c1, c2, s, hh⟩ := h.rd
  exact ⟨_, hh.self⟩
theorem TrunkAt.grown (h : TrunkAt p g tb rb f w0 w l err A m c ns cur) (k : w.grownBy w' none) : TrunkAt p g tb rb f w0 w' l err A m c ns cur :=
  { h with rd := h.rd.below k, tree := h.tree.grown k (by simp), res := h.res.grown k (by simp), fields := h.fields.grown k, row := h.row.kept k (by cases hv : (Value.slice A m c).ownBlock <;> simp), base := gb_trans h.base (gb_none _ k) }
/-- The reader goes on. -/
theorem TrunkAt.read (h : TrunkAt p g tb rb f w0 w l err A m c ns cur) (k : w.grownBy w' (some p)) (hr : Rd p l' err' w') : TrunkAt p g tb rb f w0 w' l' err' A m c ns cur := by
  obtain ⟨cs, hp⟩ := h.reader
  exact { h with rd := hr, tree := h.tree.grown k (fun e => h.tree.ne_ hp (by decide) (Option.some.inj e)), res := h.res.grown k (fun e => h.res.ne_ hp (by decide) (Option.some.inj e)), fields := h.fields.other hp k (by decide) (by decide) (by decide) (by decide), row := h.row.kept k (Or.inr (own_blk_ne h.row hp (by decide))), base := gb_trans h.base k }
/-- The tree's cell is written. -/
theorem TrunkAt.cur_ (h : TrunkAt p g tb rb f w0 w l err A m c ns cur) (q : Int) : TrunkAt p g tb rb f w0 (w.setCell ⟨tb, 1, none⟩ (.int .i64 q)) l err A m c ns q := by
  have k := gb_set w tb 1 (.int .i64 q)
  exact { h with rd := h.rd.other h.tree (by decide) (by decide) (by decide) k, tree := by simpa using h.tree.set_ 1 (.int .i64 q), res := h.res.grown k (fun e => h.ne (Option.some.inj e)), fields := h.fields.other h.tree k (by decide) (by decide) (by decide) (by decide), row := h.row.kept k (Or.inr (own_blk_ne h.row h.tree (by decide))), base := gb_own h.base k (fun i hi => by injection hi with hi; rw [← hi]; exact h.own) }
/-- A node more: the row has grown, and the tree's cell tells it. -/
theorem TrunkAt.more (h : TrunkAt p g tb rb f w0 w l err A m c ns cur) {B : Option Addr} {n d : Nat} {ks : List Nd} (k : w.grownBy w' (Value.slice A m c).ownBlock) (hown : w'.ownsRow w0.heap.size 40 7 (.slice B n d) n (nrows ks)) : TrunkAt p g tb rb f w0 (w'.setCell ⟨tb, 0, none⟩ (.slice B n d)) l err B n d ks cur := by
  have t1 : Blk w' tb 24 #[.slice A m c, .int .i64 cur] := h.tree.grown k (fun e => own_blk_ne h.row h.tree (by decide) e.symm)
  have r1 : Blk w' rb 24 #[.slice none 0 0, .int .i64 0] := h.res.grown k (fun e => own_blk_ne h.row h.res (by decide) e.symm)
  have rd1 : Rd p l err w' := by
    obtain ⟨c1, c2, s, hr⟩ := h.rd
    exact ⟨_, _, _, hr.grown k (fun e => own_blk_ne h.row hr.self (by decide) e.symm) (fun e => own_blk_ne h.row hr.b1 (by decide) e.symm) (fun e => own_blk_ne h.row hr.b2 (by decide) e.symm)⟩
  have f1 : FieldsAt w' g f := by
    have n1 : ∀ {m' o k' : Nat} {more : Int}, NumF w m' o k' more → NumF w' m' o k' more := fun x => ⟨x.1.grown k (fun e => own_blk_ne h.row x.1 (by decide) e.symm), x.2.grown k (fun e => own_blk_ne h.row x.2 (by decide) e.symm)⟩
    have n2 : ∀ {o k' : Nat}, TxtF w o k' → TxtF w' o k' := fun x => Blk.grown x k (fun e => own_blk_ne h.row x (by decide) e.symm)
    exact ⟨h.fields.self.grown k (fun e => own_blk_ne h.row h.fields.self (by decide) e.symm), n1 h.fields.f0, n1 h.fields.f1, n1 h.fields.f2, n1 h.fields.f3, n1 h.fields.f4, n2 h.fields.f5, n2 h.fields.f6⟩
  have b1 : w0.grownBy w' (some p) := gb_own h.base k (fun i hi => (h.row.lt i hi).1)
  have k2 := gb_set w' tb 0 (.slice B n d)
  exact { rd := rd1.other t1 (by decide) (by decide) (by decide) k2, tree := by simpa using t1.set_ 0 (.slice B n d), res := r1.grown k2 (fun e => h.ne (Option.some.inj e)), fields := f1.other t1 k2 (by decide) (by decide) (by decide) (by decide), row := hown.kept k2 (Or.inr (own_blk_ne hown t1 (by decide))), base := gb_own b1 k2 (fun i hi => by injection hi with hi; rw [← hi]; exact h.own), own := h.own, ownr := h.ownr, ne := h.ne }
end
section
variable {p g tb rb : Nat} {f : FB} {w0 w w' : World} {l l' : List UInt8} {err err' : Int} {A : Option Addr} {m c : Nat} {ns : List Nd} {cur : Int}
theorem TrunkAt.len (h : TrunkAt p g tb rb f w0 w l err A m c ns cur) : ns.length = m := by
  have := h.row.1
  rw [nrows_length] at this
  omega
theorem TrunkAt.small (h : TrunkAt p g tb rb f w0 w l err A m c ns cur) {acc : List Nd} {k : Nat} (hl : acc.length = k) (hk : ns = acc.take 1025) : m ≤ 1025 ∧ m ≤ k := by
  have h1 := h.len
  rw [hk, List.length_take] at h1
  omega
/-- The answer's cell is written. -/
theorem TrunkAt.wrote (h : TrunkAt p g tb rb f w0 w l err A m c ns cur) (v0 v1 : Value) : Rd p l err ((w.setCell ⟨rb, 0, none⟩ v0).setCell ⟨rb, 1, none⟩ v1) ∧ w0.grownBy ((w.setCell ⟨rb, 0, none⟩ v0).setCell ⟨rb, 1, none⟩ v1) (some p) ∧ Nds ((w.setCell ⟨rb, 0, none⟩ v0).setCell ⟨rb, 1, none⟩ v1) A ns ∧ m ≤ c := by
  have k1 := gb_set w rb 0 v0
  have k2 := gb_set (w.setCell ⟨rb, 0, none⟩ v0) rb 1 v1
  have hn := own_nds h.row h.len
  have hne := own_blk_ne h.row h.res (by decide)
  refine ⟨h.rd.other h.res (by decide) (by decide) (by decide) (gb_trans k1 k2), gb_own h.base (gb_trans k1 k2) (fun i hi => by injection hi with hi; rw [← hi]; exact h.ownr), nds_two hn.1 (fun ad e => ?_), hn.2⟩
  intro e2
  apply hne
  subst e
  obtain ⟨b, off, sp⟩ := ad
  rcases h.row.2 with ⟨hv, _⟩ | ⟨g', cap, cur', hv, _⟩
  · cases hv
  · injection hv with e1 _ _
    injection e1 with e1
    rw [e1] at e2 ⊢
    have e3 : g' = rb := e2
    subst e3
    simp [Value.ownBlock]
end
theorem treeRd_nil {p : Nat} {r : (List Nd × Int × Int) × List UInt8 × Int} {w w' : World} {n : Int} {l : List UInt8} {err : Int} (h : r = (([], 0, n), l, err)) (hr : Rd p l err w') (hg : w.grownBy w' (some p)) : TreeRd p r w (.returned (.tuple #[.agg #[.slice none 0 0, .int .i64 0], .int .i64 n])) w' := by
  subst h
  exact ⟨none, 0, rfl, Nds.nil _ _, Nat.le_refl _, hr, hg⟩
set_option maxHeartbeats 4000000 in
set_option maxRecDepth 100000 in
theorem trunk_Read {p : Nat} {l : List UInt8} {err : Int} {w : World} (hr : Rd p l err w) :
    Calls Tryd.prog 14 #[.pointer (some ⟨p, 0, none⟩)] w (TreeRd p (rdTree l err) w) := by
  obtain ⟨R, HR⟩ : ∃ R, Hid (rdTree l err = R) := ⟨_, rfl⟩
  rw [HR.out]
  obtain ⟨n, l1, e1, hq⟩ : ∃ n l1 e1, rdNum l err = (n, l1, e1) := ⟨_, _, _, rfl⟩
  have hlow := rdNum_low l err
  rw [hq] at hlow
  simp only at hlow
  obtain ⟨N, rfl⟩ : ∃ N : Nat, n = N := ⟨n.toNat, by omega⟩
  obtain ⟨i0, hi, hz0, hz1, hz2⟩ := info_parts info_node
  have HT : Hid (∀ {ns : List Nd} {l2 l3 : List UInt8} {e2 c e3 : Int}, rdNodes N l1 e1 = (ns, l2, e2) → rdNum l2 e2 = (c, l3, e3) → R = (if e3 ≠ 0 then ([], 0, e3) else if Right ns c then (ns, c, 0) else ([], 0, 3), l3, e3)) := fun h1 h2 => by
    have := rdTree_of hq (by rw [Int.toNat_natCast]; exact h1) h2
    rw [HR.out] at this
    exact this
  have HN := Lib.hid (fun (u : World) (h : Rd p l err u) => rd_num_at h hq)
  have HB := Lib.hid (fun u => blk2 w #[.slice none 0 0, .int .i64 0] #[.slice none 0 0, .int .i64 0] 24 24 (u := u))
  have h0 := Lib.hid hr
  clear hr HR hq
  go_enter Tryd.func14, Tryd.ntmps14
  go_wp2_with (first
    | (go_at_call 20; ((with_reducible refine (trunk_fields _).mono ?_); rintro e w1 ⟨g, f, rfl, hf, hgB, hb1⟩; obtain ⟨z1, y0, y1, y2⟩ := HB.out _ hb1; have hr1 := h0.out.below (gb_below none y2)))
    | (go_at_call 28; ((with_reducible refine (HN.out _ hr1).mono ?_); rintro e w2 ⟨rfl, hr2, hg2⟩)))
  have T0 : TrunkAt p g (w.heap.size + 1) w.heap.size f w w2 l1 e1 none 0 0 [] 0 := by
    have T1 : TrunkAt p g (w.heap.size + 1) w.heap.size f w w1 l err none 0 0 [] 0 := { rd := hr1, tree := y1, res := y0, fields := hf, row := World.ownsRow_nil _ _ _ _, base := gb_below _ y2, own := by omega, ownr := Nat.le_refl _, ne := by omega }
    exact T1.read hg2 hr2
  clear hb1 z1 y0 y1 y2 hr1 hr2 hg2 hf hgB
  generalize w.heap.size + 1 = tb at *
  generalize hrb : w.heap.size = rb at T0 ⊢
  clear hrb HB
  go_loopw [12] (fun i wr => ∃ (k m : Nat) (A : Option Addr) (c : Nat) (acc ks : List Nd) (l' : List UInt8) (e' : Int), i = .int .i64 k ∧ k ≤ N ∧ TrunkAt p g tb rb f w wr l' e' A m c ks 0 ∧ Hid (acc.length = k) ∧ Hid (ks = acc.take 1025) ∧ Hid (rdNodes N l1 e1 = (acc ++ (rdNodes (N - k) l' e').1, (rdNodes (N - k) l' e').2)))
    (fun i _ => N - (intOf i).toNat)
  case atStart => exact ⟨0, 0, none, 0, [], [], l1, e1, rfl, Nat.zero_le _, T0, rfl, rfl, by show _ = _; simp⟩
  case round =>
    obtain ⟨k, m, A, c, acc, ks, l', e', rfl, hkN, T, HL, HK, HM⟩ := hrel
    clear T0
    have hmk := T.small HL.out HK.out
    by_cases hlt : k < N
    · have hk1 : N - k = (N - (k + 1)) + 1 := by omega
      obtain ⟨x, l2, e2, hx⟩ : ∃ x l2 e2, rdNode l' e' = (x, l2, e2) := ⟨_, _, _, rfl⟩
      have HX := Lib.hid (read_node T.rd T.fields)
      rw [hx] at HX
      have HTT := Lib.hid T
      by_cases he : e2 = 0
      · subst he
        have HM2 : Hid (rdNodes N l1 e1 = ((acc ++ [x]) ++ (rdNodes (N - (k + 1)) l2 0).1, (rdNodes (N - (k + 1)) l2 0).2)) := by
          show _ = _
          rw [HM.out, hk1, rdNodes_ok hx, List.append_assoc]
          rfl
        clear HM hk1 hx T
        by_cases hmany : k ≤ 1024
        · go_wp2_with (first
            | (go_at_call 29; ((with_reducible refine HX.out.mono ?_); rintro e w3 hN3; obtain rfl := hN3.1; have T3 := (HTT.out.read hN3.2.2 hN3.2.1).grown (World.grownBy_alloc w3 (.cells #[.int .i64 x.up, .int .i64 x.next, .int .i64 x.before, .int .i64 x.after, .int .i64 x.at_, .string x.old, .string x.new] 40) none); have x0 := T3.tree.cell 0; have B0 := Blk.new w3 40 #[.int .i64 x.up, .int .i64 x.next, .int .i64 x.before, .int .i64 x.after, .int .i64 x.at_, .string x.old, .string x.new]; have x1 := B0.cell 0; have x2 := B0.cell 1; have x3 := B0.cell 2; have x4 := B0.cell 3; have x5 := B0.cell 4; have x6 := B0.cell 5; have x7 := B0.cell 6; simp only [Nd.vals]))
            | (go_at_call 30; ((with_reducible refine (rd_err T3.rd).mono ?_); rintro e w4 ⟨rfl, rfl⟩))
            | (at_builtin; refine wpList_append_own _ rfl _ _ 22 rfl w.heap.size 40 i0 _ 7 72 Tryd.underlying22 hi hz0 hz1 hz2 rfl (by decide) _ _ _ rfl (T3.row.alloc _) ⟨w3.heap.size + 1, 0, none⟩ 1 1 (Nd.row x) rfl rfl ?c1 ?c2 ?c3 ?c4 ?c5 ?_))
          case c1 =>
            intro j u hj
            have hb := Blk.new (w3.alloc (.cells #[.int .i64 x.up, .int .i64 x.next, .int .i64 x.before, .int .i64 x.after, .int .i64 x.at_, .string x.old, .string x.new] 40)) 40 #[.int .i64 x.up, .int .i64 x.next, .int .i64 x.before, .int .i64 x.after, .int .i64 x.at_, .string x.old, .string x.new]
            rw [World.size_alloc] at hb
            rw [add_plain, Nat.zero_add, hb.cell]
            simpa [Nd.row] using hj
          case c2 => exact Nd.row_one x
          case c3 => unfold maxLen; omega
          case c4 => omega
          case c5 => have := T3.base.size; simp only [World.size_alloc] at this ⊢; omega
          intro v' w5 hown5 hgrow5 _
          obtain ⟨a5, cap5, rfl⟩ := own_shape hown5
          have T4 := T3.grown (World.grownBy_alloc (w3.alloc (.cells #[.int .i64 x.up, .int .i64 x.next, .int .i64 x.before, .int .i64 x.after, .int .i64 x.at_, .string x.old, .string x.new] 40)) (.cells #[.int .i64 x.up, .int .i64 x.next, .int .i64 x.before, .int .i64 x.after, .int .i64 x.at_, .string x.old, .string x.new] 40) none)
          have hown6 : w5.ownsRow w.heap.size 40 7 (.slice a5 (m + 1) cap5) (m + 1) (nrows (ks ++ [x])) := by
            rw [nrows_append]
            simpa [nrows] using hown5
          have t5 : Blk w5 tb 24 #[.slice A m c, .int .i64 0] := T4.tree.grown hgrow5 (fun e => own_blk_ne T4.row T4.tree (by decide) e.symm)
          have T6 := T4.more hgrow5 hown6
          have u0 := t5.cell 0
          have uz := t5.frozen 0
          clear hown5 hgrow5 t5 T4 x0 x1 x2 x3 x4 x5 x6 x7 B0 hN3
          have HT6 := Lib.hid T6
          clear T6
          go_wp2
          go_roundw
          case rel => exact ⟨k + 1, m + 1, a5, cap5, acc ++ [x], ks ++ [x], l2, 0, by go_num, by omega, HT6.out, by show _ = _; rw [List.length_append, HL.out]; rfl, by show _ = _; rw [HK.out, List.take_of_length_le (by rw [HL.out]; omega), List.take_of_length_le (by rw [List.length_append, HL.out]; simp; omega)], HM2⟩
          case measure => simp [intOf]; omega
        · go_wp2_with (first
            | (go_at_call 29; ((with_reducible refine HX.out.mono ?_); rintro e w3 hN3; obtain rfl := hN3.1; have T3 := (HTT.out.read hN3.2.2 hN3.2.1).grown (World.grownBy_alloc w3 (.cells #[.int .i64 x.up, .int .i64 x.next, .int .i64 x.before, .int .i64 x.after, .int .i64 x.at_, .string x.old, .string x.new] 40) none); simp only [Nd.vals]))
            | (go_at_call 30; ((with_reducible refine (rd_err T3.rd).mono ?_); rintro e w4 ⟨rfl, rfl⟩)))
          go_roundw
          case rel => exact ⟨k + 1, m, A, c, acc ++ [x], ks, l2, 0, by go_num, by omega, T3, by show _ = _; rw [List.length_append, HL.out]; rfl, by show _ = _; rw [HK.out, List.take_append_of_le_length (by rw [HL.out]; omega)], HM2⟩
          case measure => simp [intOf]; omega
      · have HM2 : Hid (rdNodes N l1 e1 = (acc, l2, e2)) := by
          show _ = _
          rw [HM.out, hk1, rdNodes_bad hx he, List.append_nil]
        have g1 : (e2 != 0) = true := by simp [he]
        have HE := Lib.hid he
        obtain ⟨cq, l3, e3, hq2⟩ : ∃ n r e, rdNum l2 e2 = (n, r, e) := ⟨_, _, _, rfl⟩
        have he3 : e3 ≠ 0 := by have := rdNum_err (l := l2) he; rw [hq2] at this; exact this
        have g2 : (e3 != 0) = true := by simp [he3]
        have HF : Hid (R = (([], 0, e3), l3, e3)) := by
          show _ = _
          rw [HT.out HM2.out hq2, if_pos he3]
        have HQ2 := Lib.hid hq2
        clear HM hk1 he hx T hq2 he3 HM2 HE
        go_wp2_with (first
          | (go_at_call 29; ((with_reducible refine HX.out.mono ?_); rintro e w3 hN3; obtain rfl := hN3.1; have T3 := (HTT.out.read hN3.2.2 hN3.2.1).grown (World.grownBy_alloc w3 (.cells #[.int .i64 x.up, .int .i64 x.next, .int .i64 x.before, .int .i64 x.after, .int .i64 x.at_, .string x.old, .string x.new] 40) none); simp only [Nd.vals]))
          | (go_at_call 30; ((with_reducible refine (rd_err T3.rd).mono ?_); rintro e w4 ⟨rfl, rfl⟩))
          | (go_at_call 28; ((with_reducible refine (rd_num_at T3.rd HQ2.out).mono ?_); rintro e w5 ⟨rfl, hr5, hg5⟩; have T5 := T3.read hg5 hr5; have y1 := T5.tree.cell 1; have yz := T5.tree.frozen 1; have T6 := T5.cur_ cq))
          | (go_at_call 30; ((with_reducible refine (rd_err T6.rd).mono ?_); rintro e w6 ⟨rfl, rfl⟩; have v0 := T6.res.cell 0; have v1 := T6.res.cell 1; have vz0 := T6.res.frozen 0; have vz1 := T6.res.frozen 1; have t0 := T6.tree.cell 0; have t1 := T6.tree.cell 1)))
        refine ret_two1 rfl rfl T6.res rfl Tryd.underlying24 rfl ?_
        obtain ⟨q1, q2, _⟩ := T6.wrote (.slice none 0 0) (.int .i64 0)
        exact treeRd_nil HF.out q1 q2
    · obtain rfl : k = N := by omega
      have HM2 : Hid (rdNodes k l1 e1 = (acc, l', e')) := by
        show _ = _
        rw [HM.out, Nat.sub_self, rdNodes_zero, List.append_nil]
      clear HM
      obtain ⟨cq, l3, e3, hq2⟩ : ∃ n r e, rdNum l' e' = (n, r, e) := ⟨_, _, _, rfl⟩
      have HF := Lib.hid (HT.out HM2.out hq2)
      have HQ2 := Lib.hid hq2
      clear HM2 hq2 HT HN hlt
      have NM := T.len
      have NL := Lib.hid NM
      clear NM
      by_cases he3 : e3 = 0
      · subst he3
        have HF2 : Hid (R = (if Right acc cq then (acc, cq, 0) else ([], 0, 3), l3, 0)) := by
          show _ = _
          rw [HF.out, if_neg (by simp)]
        clear HF
        have TR := Lib.hid (fun (u : World) (h1 : Nds u A ks) (h2 : m ≤ c) => tree_Right (cur := cq) h1 (by rw [NL.out]; exact h2) (by rw [NL.out]; omega))
        rw [NL.out] at TR
        have HD : Hid (decide (Right ks cq) = decide (Right acc cq)) := by
          show _ = _
          rw [HK.out, decide_eq_decide]
          exact right_take acc cq
        rw [HD.out] at TR
        by_cases hR : Right acc cq
        · rw [decide_eq_true hR] at TR
          have HF3 : Hid (R = ((ks, cq, 0), l3, 0)) := by
            show _ = _
            rw [HF2.out, if_pos hR, HK.out, right_took hR]
          clear HF2 hR
          go_wp2_with (first
            | (go_at_call 28; ((with_reducible refine (rd_num_at T.rd HQ2.out).mono ?_); rintro e w5 ⟨rfl, hr5, hg5⟩; have T5 := T.read hg5 hr5; have y1 := T5.tree.cell 1; have yz := T5.tree.frozen 1; have T6 := T5.cur_ cq))
            | (go_at_call 30; ((with_reducible refine (rd_err T6.rd).mono ?_); rintro e w6 ⟨rfl, rfl⟩; have v0 := T6.res.cell 0; have v1 := T6.res.cell 1; have vz0 := T6.res.frozen 0; have vz1 := T6.res.frozen 1; have t0 := T6.tree.cell 0; have t1 := T6.tree.cell 1))
            | (go_at_call 17; ((with_reducible refine (TR.out _ (own_nds T6.row T6.len).1 (own_nds T6.row T6.len).2).mono ?_); rintro e w7 ⟨rfl, hb7⟩; have T7 := T6.grown (gb_below none hb7); have a0 := T7.res.cell 0; have a1 := T7.res.cell 1; have az0 := T7.res.frozen 0; have az1 := T7.res.frozen 1; have b0 := T7.tree.cell 0; have b1 := T7.tree.cell 1)))
          refine ret_two1 rfl rfl T7.res rfl Tryd.underlying24 rfl ?_
          obtain ⟨q1, q2, q3, q4⟩ := T7.wrote (.slice A m c) (.int .i64 cq)
          rw [HF3.out]
          refine ⟨A, c, ?_, q3, by rw [NL.out]; exact q4, q1, q2⟩
          rw [NL.out]
          rfl
        · rw [decide_eq_false hR] at TR
          have HF3 : Hid (R = (([], 0, 3), l3, 0)) := by
            show _ = _
            rw [HF2.out, if_neg hR]
          clear HF2 hR
          go_wp2_with (first
            | (go_at_call 28; ((with_reducible refine (rd_num_at T.rd HQ2.out).mono ?_); rintro e w5 ⟨rfl, hr5, hg5⟩; have T5 := T.read hg5 hr5; have y1 := T5.tree.cell 1; have yz := T5.tree.frozen 1; have T6 := T5.cur_ cq))
            | (go_at_call 30; ((with_reducible refine (rd_err T6.rd).mono ?_); rintro e w6 ⟨rfl, rfl⟩; have v0 := T6.res.cell 0; have v1 := T6.res.cell 1; have vz0 := T6.res.frozen 0; have vz1 := T6.res.frozen 1; have t0 := T6.tree.cell 0; have t1 := T6.tree.cell 1))
            | (go_at_call 17; ((with_reducible refine (TR.out _ (own_nds T6.row T6.len).1 (own_nds T6.row T6.len).2).mono ?_); rintro e w7 ⟨rfl, hb7⟩; have T7 := T6.grown (gb_below none hb7); have a0 := T7.res.cell 0; have a1 := T7.res.cell 1; have az0 := T7.res.frozen 0; have az1 := T7.res.frozen 1; have b0 := T7.tree.cell 0; have b1 := T7.tree.cell 1)))
          refine ret_two1 rfl rfl T7.res rfl Tryd.underlying24 rfl ?_
          obtain ⟨q1, q2, q3, q4⟩ := T7.wrote (.slice none 0 0) (.int .i64 0)
          exact treeRd_nil HF3.out q1 q2
      · have HF2 : Hid (R = (([], 0, e3), l3, e3)) := by
          show _ = _
          rw [HF.out, if_pos he3]
        have g2 : (e3 != 0) = true := by simp [he3]
        clear HF he3
        go_wp2_with (first
          | (go_at_call 28; ((with_reducible refine (rd_num_at T.rd HQ2.out).mono ?_); rintro e w5 ⟨rfl, hr5, hg5⟩; have T5 := T.read hg5 hr5; have y1 := T5.tree.cell 1; have yz := T5.tree.frozen 1; have T6 := T5.cur_ cq))
          | (go_at_call 30; ((with_reducible refine (rd_err T6.rd).mono ?_); rintro e w6 ⟨rfl, rfl⟩; have v0 := T6.res.cell 0; have v1 := T6.res.cell 1; have vz0 := T6.res.frozen 0; have vz1 := T6.res.frozen 1; have t0 := T6.tree.cell 0; have t1 := T6.tree.cell 1)))
        refine ret_two1 rfl rfl T6.res rfl Tryd.underlying24 rfl ?_
        obtain ⟨q1, q2, _⟩ := T6.wrote (.slice none 0 0) (.int .i64 0)
        exact treeRd_nil HF2.out q1 q2
end Go.Proofs.YtchmiigjiojiaaaDoor
