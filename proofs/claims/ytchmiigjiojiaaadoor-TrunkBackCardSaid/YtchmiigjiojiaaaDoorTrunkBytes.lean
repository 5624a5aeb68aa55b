/-
  How the program writes a tree, and tells how many bytes it has.
-/
import Derived.Test.YtchmiigjiojiaaaDoorFieldWrite
import Derived.Test.YtchmiigjiojiaaaDoorJoined
import Derived.Test.YtchmiigjiojiaaaDoorStrsOwn
import Derived.Test.YtchmiigjiojiaaaDoorTreeRight
import Derived.Test.YtchmiigjiojiaaaDoorAllocs
namespace Go.Proofs.YtchmiigjiojiaaaDoor
open Go.RowKit
open Tre Trk
set_option maxHeartbeats 400000 in
/-- A tree of whatever many nodes: may it be? -/
theorem tree_Right_any {A : Option Addr} {c : Nat} {l : List Nd} {cur : Int} {w : World} (hx : Nds w A l) (hc : l.length ≤ c) :
    Calls Tryd.prog 17 #[.agg #[.slice A l.length c, .int .i64 cur]] w fun e w' => e = .returned (.bool (decide (Right l cur))) ∧ Below w.heap.size w w' := by
  by_cases hm : l.length ≤ 2000
  · exact tree_Right hx hc hm
  · have D : Hid (decide (Right l cur) = false) := decide_eq_false fun r => by have := r.few; omega
    have B := Blk.new w 24 #[.slice A l.length c, .int .i64 cur]
    have t0 := B.cell 0
    have g1 : decide ((l.length : Int) < 1) = false := decide_eq_false (by omega)
    have g2 : decide ((1024 : Int) < (l.length : Int)) = true := decide_eq_true (by omega)
    clear hx hc B
    go_enter Tryd.func17, Tryd.ntmps17
    go_wp2
    go_ret
    exact ⟨by rw [D.out]; rfl, (Below.refl _ w).alloc (Nat.le_refl _) _⟩
namespace Trk
theorem flatten_le {B : Nat} : ∀ {ts : List (List UInt8)}, (∀ t ∈ ts, t.length ≤ B) → ts.flatten.length ≤ ts.length * B
  | [], _ => by simp
  | t :: r, h => by
    have h1 := h t (by simp)
    have h2 := flatten_le (ts := r) fun u hu => h u (by simp [hu])
    rw [List.flatten_cons, List.length_append, List.length_cons, Nat.add_mul]
    omega
theorem fields_length {x : Nd} : ∀ t ∈ fieldsB x, t.length ≤ 2147483651 := by
  intro t ht
  have n1 : ∀ n : Int, (numB n).length ≤ 2147483651 := fun n => by have := numB_length n; omega
  simp only [fieldsB, List.mem_cons, List.not_mem_nil, or_false] at ht
  rcases ht with rfl | rfl | rfl | rfl | rfl | rfl | rfl
  · exact n1 _
  · exact n1 _
  · exact n1 _
  · exact n1 _
  · exact n1 _
  · exact textB_length _
  · exact textB_length _
theorem things_length {l : List Nd} {cur : Int} : ∀ t ∈ thingsB l cur, t.length ≤ 2147483651 := by
  intro t ht
  have n1 : ∀ n : Int, (numB n).length ≤ 2147483651 := fun n => by have := numB_length n; omega
  simp only [thingsB, List.mem_cons, List.mem_append, List.not_mem_nil, or_false] at ht
  rcases ht with rfl | ht | rfl
  · exact n1 _
  · obtain ⟨x, _, hx⟩ := List.mem_flatMap.1 ht
    exact fields_length t hx
  · exact n1 _
/-- The numbers of a node that may be written as they are. -/
def Fit (x : Nd) : Prop := IntKind.i64.wrap (x.before + 0) = x.before + 0 ∧ IntKind.i64.wrap (x.after + 0) = x.after + 0 ∧ IntKind.i64.wrap (x.at_ + 0) = x.at_ + 0
theorem right_wrap {l : List Nd} {cur : Int} (h : Right l cur) {k : Nat} {x : Nd} (hx : l[k]? = some x) : IntKind.i64.wrap (x.up + 1) = x.up + 1 ∧ IntKind.i64.wrap (x.next + 1) = x.next + 1 := by
  have hk : k < l.length := (List.getElem?_eq_some_iff.1 hx).1
  have hf := h.few
  constructor
  · apply IntWalk.i64_in
    rcases Nat.eq_zero_or_pos k with h0 | h0
    · subst h0
      have := (h.ups 0 hk x hx).zero
      omega
    · have := (h.ups k hk x hx).pos h0
      omega
  · apply IntWalk.i64_in
    have := h.nexts k hk x hx
    unfold NextOk at this
    split at this <;> omega
end Trk
/-- A text, as a cell holds it. -/
def strV (t : List UInt8) : Value := .string (bs t)
theorem strs_snoc (ts : List (List UInt8)) (t : List UInt8) : (ts ++ [t]).map strV = ts.map strV ++ [.string (bs t)] := by simp [strV]
/-- A row of one text, just laid. -/
theorem own_one (w : World) (B : Nat) (hB : B ≤ w.heap.size) (t : List UInt8) : (w.alloc (.cells #[.string (bs t)] 9)).ownsRow B 9 1 (.slice (some ⟨w.heap.size, 0, none⟩) 1 1) 1 ([t].map strV) :=
  ⟨rfl, .inr ⟨w.heap.size, 1, #[.string (bs t)], rfl, hB, heap_alloc_new w _, Nat.le_refl _, by unfold maxLen; omega, rfl, rfl⟩⟩
/-- In the middle of what is written: the fields, the tree's cell, the things so far; all that was there is as it was. -/
structure WriteAt (g tb : Nat) (f : FB) (tc : Array Value) (w0 w : World) (A : Option Addr) (n c : Nat) (ts : List (List UInt8)) : Prop where
  fields : FieldsAt w g f
  tree : Blk w tb 24 tc
  row : w.ownsRow w0.heap.size 9 1 (.slice A n c) n (ts.map strV)
  base : Below w0.heap.size w0 w
section
variable {g tb : Nat} {f : FB} {tc : Array Value} {w0 w w' : World} {A : Option Addr} {n c : Nat} {ts : List (List UInt8)}
theorem WriteAt.step (h : WriteAt g tb f tc w0 w A n c ts) (k : Below w.heap.size w w') : WriteAt g tb f tc w0 w' A n c ts :=
  { fields := h.fields.below k, tree := h.tree.below k h.tree.lt, row := h.row.kept (gb_below none k) (by cases hv : (Value.slice A n c).ownBlock <;> simp), base := h.base.trans (k.mono h.base.size) }
theorem WriteAt.alloc (h : WriteAt g tb f tc w0 w A n c ts) (o : Obj) : WriteAt g tb f tc w0 (w.alloc o) A n c ts := h.step ((Below.refl _ w).alloc (Nat.le_refl _) o)
theorem WriteAt.more (h : WriteAt g tb f tc w0 w A n c ts) {B : Option Addr} {m d : Nat} {us : List (List UInt8)} (k : w.grownBy w' (Value.slice A n c).ownBlock) (hown : w'.ownsRow w0.heap.size 9 1 (.slice B m d) m (us.map strV)) : WriteAt g tb f tc w0 w' B m d us := by
  have n1 : ∀ {m' o k' : Nat} {more : Int}, NumF w m' o k' more → NumF w' m' o k' more := fun x => ⟨x.1.grown k (fun e => own_blk_ne h.row x.1 (by decide) e.symm), x.2.grown k (fun e => own_blk_ne h.row x.2 (by decide) e.symm)⟩
  have n2 : ∀ {o k' : Nat}, TxtF w o k' → TxtF w' o k' := fun x => Blk.grown x k (fun e => own_blk_ne h.row x (by decide) e.symm)
  exact { fields := ⟨h.fields.self.grown k (fun e => own_blk_ne h.row h.fields.self (by decide) e.symm), n1 h.fields.f0, n1 h.fields.f1, n1 h.fields.f2, n1 h.fields.f3, n1 h.fields.f4, n2 h.fields.f5, n2 h.fields.f6⟩, tree := h.tree.grown k (fun e => own_blk_ne h.row h.tree (by decide) e.symm), row := hown, base := h.base.grown k h.base.size (fun j hj => (h.row.lt j hj).1) }
/-- A node's block stays, while things are added. -/
theorem WriteAt.keep (h : WriteAt g tb f tc w0 w A n c ts) {q : Nat} {cs : Array Value} (hq : Blk w q 40 cs) (k : w.grownBy w' (Value.slice A n c).ownBlock) : Blk w' q 40 cs := hq.grown k (fun e => own_blk_ne h.row hq (by decide) e.symm)
theorem WriteAt.len (h : WriteAt g tb f tc w0 w A n c ts) : ts.length = n := by
  have := h.row.1
  rw [List.length_map] at this
  omega
end
set_option maxHeartbeats 8000000 in
set_option maxRecDepth 100000 in
theorem trunk_Bytes {A : Option Addr} {c : Nat} {l : List Nd} {cur : Int} {w : World} (hx : Nds w A l) (hc : l.length ≤ c) (hfit : ∀ x ∈ l, Fit x) :
    Calls Tryd.prog 7 #[.agg #[.slice A l.length c, .int .i64 cur]] w fun e w' => e = .returned (.string (bs (treeB l cur))) ∧ Below w.heap.size w w' := by
  have HR := Lib.hid (fun (u : World) (h : Nds u A l) => tree_Right_any (cur := cur) h hc)
  have HB := Lib.hid (fun u => blk1 w #[.slice A l.length c, .int .i64 cur] 24 (u := u))
  have h1 := Lib.hid (hx.below (al (Below.refl w.heap.size w) (.cells #[.slice A l.length c, .int .i64 cur] 24)))
  by_cases hR : Right l cur
  · have H : Hid (treeB l cur = joinB (thingsB l cur)) := treeB_yes hR
    rw [decide_eq_true hR] at HR
    have HW := Lib.hid (fun (k : Nat) (x : Nd) (h : l[k]? = some x) => right_wrap hR h)
    have HFT := Lib.hid hfit
    have hl := hR.few
    have h0 := hR.one
    obtain ⟨i0, hi, hz0, hz1, hz2⟩ := info_parts info_string
    obtain ⟨b, off, rfl, hbw, CC⟩ := hx.addr (by omega)
    have CE := Lib.hid CC
    clear hR hfit CC hx
    go_enter Tryd.func7, Tryd.ntmps7
    go_wp2_with (first
      | (go_at_call 17; ((with_reducible refine (HR.out _ h1.out).mono ?_); rintro e w1 ⟨rfl, hb1⟩; obtain ⟨z1, y0, y1⟩ := HB.out _ hb1; have t0 := y0.cell 0; have t1 := y0.cell 1))
      | (go_at_call 19; ((with_reducible refine (code_num _ _).mono ?_); rintro e w2 ⟨rfl, hb2⟩; have x0 := (y0.below hb2 y0.lt).alloc (.cells #[.string (bs (numB (l.length : Int)))] 9); have x1 := y1.trans (hb2.mono y1.size); have O1 := own_one w2 w.heap.size x1.size (numB (l.length : Int)); replace x1 := al x1 (.cells #[.string (bs (numB (l.length : Int)))] 9)))
      | (go_at_call 20; ((with_reducible refine (trunk_fields _).mono ?_); rintro e w3 ⟨g, f, rfl, hf, hgB, hb3⟩; have T0 : WriteAt g w.heap.size f #[.slice (some ⟨b, off, none⟩) l.length c, .int .i64 cur] w w3 (some ⟨w2.heap.size, 0, none⟩) 1 1 [numB (l.length : Int)] := { fields := hf, tree := x0.below hb3 x0.lt, row := O1.kept (gb_below none hb3) (by cases hv : (Value.slice (some ⟨w2.heap.size, 0, none⟩) 1 1).ownBlock <;> simp), base := x1.trans (hb3.mono x1.size) }; have s0 := T0.tree.cell 0)))
    clear hb1 z1 y0 y1 t0 t1 hb2 x0 x1 O1 hf hgB hb3 s0
    generalize w2.heap.size = q0 at *
    generalize hnb : w.heap.size = tb at T0 CE HB h1 ⊢
    have HNB := Lib.hid hnb
    clear hnb h1 HB HR
    go_loopw [3, 21] (fun v i wr => ∃ (k n : Nat) (A' : Option Addr) (c' : Nat) (ts : List (List UInt8)), v = .slice A' n c' ∧ i = .int .i64 k ∧ k ≤ l.length ∧ n ≤ 7169 ∧ Hid (n = 1 + k * 7) ∧ Hid (ts = numB (l.length : Int) :: nodesB (l.take k)) ∧ WriteAt g tb f #[.slice (some ⟨b, off, none⟩) l.length c, .int .i64 cur] w wr A' n c' ts) (fun _ i _ => l.length - (intOf i).toNat)
    case atStart => exact ⟨0, 1, _, _, _, rfl, rfl, Nat.zero_le _, by omega, rfl, by show _ = _; rw [List.take_zero]; rfl, T0⟩
    case round =>
      obtain ⟨k, n, A', c', ts, rfl, rfl, hkl, hn7, HN, HT, T⟩ := hrel
      clear T0
      by_cases hlt : k < l.length
      · obtain ⟨x, hx⟩ : ∃ x, l[k]? = some x := ⟨_, List.getElem?_eq_getElem hlt⟩
        obtain ⟨e0, e1, e2, e3, e4, e5, e6⟩ := CE.out wr _ T.base (by rw [HNB.out]; exact Nat.le_refl _) _ _ hx
        obtain ⟨hw0, hw1⟩ := HW.out k x hx
        obtain ⟨hw2, hw3, hw4⟩ := HFT.out x (List.mem_of_getElem? hx)
        have F0 := Lib.hid hw0
        have F1 := Lib.hid hw1
        have F2 := Lib.hid hw2
        have F3 := Lib.hid hw3
        have F4 := Lib.hid hw4
        have HS : Hid (numB (l.length : Int) :: nodesB (l.take (k + 1)) = ts ++ fieldsB x) := by
          show _ = _
          obtain ⟨hm, rfl⟩ := List.getElem?_eq_some_iff.1 hx
          rw [List.take_succ_eq_append_getElem hm, nodesB_snoc, HT.out]
          rfl
        have T1 := T.alloc (.cells #[.int .i64 x.up, .int .i64 x.next, .int .i64 x.before, .int .i64 x.after, .int .i64 x.at_, .string x.old, .string x.new] 40)
        have N1 := Blk.new wr 40 #[.int .i64 x.up, .int .i64 x.next, .int .i64 x.before, .int .i64 x.after, .int .i64 x.at_, .string x.old, .string x.new]
        clear hw0 hw1 hw2 hw3 hw4 hx T HT
        go_wp2_with fail
        generalize wr.alloc (.cells #[.int .i64 x.up, .int .i64 x.next, .int .i64 x.before, .int .i64 x.after, .int .i64 x.at_, .string x.old, .string x.new] 40) = wz at *
        generalize wr.heap.size = nb at *
        go_loopw [3, 27] (fun v i wy => ∃ (j m : Nat) (A2 : Option Addr) (c2 : Nat) (us : List (List UInt8)), v = .slice A2 m c2 ∧ i = .int .i64 j ∧ j ≤ 7 ∧ m ≤ 7176 ∧ Hid (m = n + j) ∧ Hid (us = ts ++ (fieldsB x).take j) ∧ WriteAt g tb f #[.slice (some ⟨b, off, none⟩) l.length c, .int .i64 cur] w wy A2 m c2 us ∧ Blk wy nb 40 #[.int .i64 x.up, .int .i64 x.next, .int .i64 x.before, .int .i64 x.after, .int .i64 x.at_, .string x.old, .string x.new]) (fun _ i _ => 7 - (intOf i).toNat)
        case atStart => exact ⟨0, n, _, _, ts, rfl, rfl, by omega, by omega, rfl, by show _ = _; simp, T1, N1⟩
        case round =>
          obtain ⟨j, m, A2, c2, us, rfl, rfl, hj, hm7, HM, HU, U, NB⟩ := hrel
          clear T1 N1 e0 e1 e2 e3 e4 e5 e6
          rcases (by omega : j = 0 ∨ j = 1 ∨ j = 2 ∨ j = 3 ∨ j = 4 ∨ j = 5 ∨ j = 6 ∨ j = 7) with rfl | rfl | rfl | rfl | rfl | rfl | rfl | rfl
          · have U1 := U.alloc (.cells #[.func (.func 51) #[] #[.pointer (some ⟨f.o0, 0, none⟩), .pointer (some ⟨f.m0, 0, none⟩)], .func (.func 52) #[] #[.pointer (some ⟨f.m0, 0, none⟩), .pointer (some ⟨f.o0, 0, none⟩)]] 51)
            have NB1 := NB.alloc (.cells #[.func (.func 51) #[] #[.pointer (some ⟨f.o0, 0, none⟩), .pointer (some ⟨f.m0, 0, none⟩)], .func (.func 52) #[] #[.pointer (some ⟨f.m0, 0, none⟩), .pointer (some ⟨f.o0, 0, none⟩)]] 51)
            have d0 := NB1.cell 0
            have d1 := NB1.cell 1
            have d2 := NB1.cell 2
            have d3 := NB1.cell 3
            have d4 := NB1.cell 4
            have d5 := NB1.cell 5
            have d6 := NB1.cell 6
            simp only [List.getElem?_toArray, List.getElem?_cons_zero, List.getElem?_cons_succ] at d0 d1 d2 d3 d4 d5 d6
            have c0 := U.fields.self.cell 0
            have c1 := U.fields.self.cell 1
            simp only [FB.cells, List.getElem?_toArray, List.getElem?_cons_zero, List.getElem?_cons_succ, wnum, rnum, wtxt, rtxt] at c0 c1
            have CR := number_write_0 U1.fields.f0 F0.out
            have HCR := Lib.hid CR
            have HU2 : Hid (us ++ [numB (x.up + 1)] = ts ++ (fieldsB x).take (0 + 1)) := by
              show _ = _
              rw [HU.out, List.append_assoc]
              rfl
            clear CR HU U NB hj
            go_wp2_with (first
              | (go_at_call 51; ((with_reducible refine HCR.out.mono ?_); rintro e w5 ⟨rfl, hb5⟩; have U2 := (U1.step hb5).alloc (.cells #[.string (bs (numB (x.up + 1)))] 9); have NB2 := (NB1.below hb5 NB1.lt).alloc (.cells #[.string (bs (numB (x.up + 1)))] 9)))
              | (at_builtin; refine wpList_append_own _ rfl _ _ 30 rfl w.heap.size 9 i0 (.string ⟨#[]⟩) 1 16 Tryd.underlying30 hi hz0 hz1 hz2 rfl (by decide) _ _ _ rfl U2.row ⟨w5.heap.size, 0, none⟩ 1 1 [.string (bs (numB (x.up + 1)))] rfl rfl ?c01 ?c02 ?c03 ?c04 ?c05 ?_))
            case c01 =>
              intro i u hu
              have hb := Blk.new w5 9 #[.string (bs (numB (x.up + 1)))]
              rw [add_plain, Nat.zero_add, hb.cell]
              simpa using hu
            case c02 => intro u hu; simp at hu; subst hu; rfl
            case c03 => unfold maxLen; omega
            case c04 => omega
            case c05 => exact U2.base.size
            intro v' w6 hown6 hgrow6 _
            obtain ⟨a6, cap6, rfl⟩ := own_shape hown6
            rw [← strs_snoc] at hown6
            have U3 := Lib.hid (U2.more hgrow6 hown6)
            have NB3 := Lib.hid (U2.keep NB2 hgrow6)
            clear hown6 hgrow6 U2 NB2 U1 NB1 hb5 c0 c1 d0 d1 d2 d3 d4 d5 d6 HCR
            go_wp2
            go_roundw
            case rel => exact ⟨0 + 1, m + 1, a6, cap6, us ++ [numB (x.up + 1)], rfl, by go_num, by omega, by have := HM.out; omega, by show _ = _; rw [HM.out], HU2, U3.out, NB3.out⟩
            case measure => simp [intOf]
          · have U1 := U.alloc (.cells #[.func (.func 51) #[] #[.pointer (some ⟨f.o1, 0, none⟩), .pointer (some ⟨f.m1, 0, none⟩)], .func (.func 52) #[] #[.pointer (some ⟨f.m1, 0, none⟩), .pointer (some ⟨f.o1, 0, none⟩)]] 51)
            have NB1 := NB.alloc (.cells #[.func (.func 51) #[] #[.pointer (some ⟨f.o1, 0, none⟩), .pointer (some ⟨f.m1, 0, none⟩)], .func (.func 52) #[] #[.pointer (some ⟨f.m1, 0, none⟩), .pointer (some ⟨f.o1, 0, none⟩)]] 51)
            have d0 := NB1.cell 0
            have d1 := NB1.cell 1
            have d2 := NB1.cell 2
            have d3 := NB1.cell 3
            have d4 := NB1.cell 4
            have d5 := NB1.cell 5
            have d6 := NB1.cell 6
            simp only [List.getElem?_toArray, List.getElem?_cons_zero, List.getElem?_cons_succ] at d0 d1 d2 d3 d4 d5 d6
            have c0 := U.fields.self.cell 2
            have c1 := U.fields.self.cell 3
            simp only [FB.cells, List.getElem?_toArray, List.getElem?_cons_zero, List.getElem?_cons_succ, wnum, rnum, wtxt, rtxt] at c0 c1
            have CR := number_write_1 U1.fields.f1 F1.out
            have HCR := Lib.hid CR
            have HU2 : Hid (us ++ [numB (x.next + 1)] = ts ++ (fieldsB x).take (1 + 1)) := by
              show _ = _
              rw [HU.out, List.append_assoc]
              rfl
            clear CR HU U NB hj
            go_wp2_with (first
              | (go_at_call 51; ((with_reducible refine HCR.out.mono ?_); rintro e w5 ⟨rfl, hb5⟩; have U2 := (U1.step hb5).alloc (.cells #[.string (bs (numB (x.next + 1)))] 9); have NB2 := (NB1.below hb5 NB1.lt).alloc (.cells #[.string (bs (numB (x.next + 1)))] 9)))
              | (at_builtin; refine wpList_append_own _ rfl _ _ 30 rfl w.heap.size 9 i0 (.string ⟨#[]⟩) 1 16 Tryd.underlying30 hi hz0 hz1 hz2 rfl (by decide) _ _ _ rfl U2.row ⟨w5.heap.size, 0, none⟩ 1 1 [.string (bs (numB (x.next + 1)))] rfl rfl ?c11 ?c12 ?c13 ?c14 ?c15 ?_))
            case c11 =>
              intro i u hu
              have hb := Blk.new w5 9 #[.string (bs (numB (x.next + 1)))]
              rw [add_plain, Nat.zero_add, hb.cell]
              simpa using hu
            case c12 => intro u hu; simp at hu; subst hu; rfl
            case c13 => unfold maxLen; omega
            case c14 => omega
            case c15 => exact U2.base.size
            intro v' w6 hown6 hgrow6 _
            obtain ⟨a6, cap6, rfl⟩ := own_shape hown6
            rw [← strs_snoc] at hown6
            have U3 := Lib.hid (U2.more hgrow6 hown6)
            have NB3 := Lib.hid (U2.keep NB2 hgrow6)
            clear hown6 hgrow6 U2 NB2 U1 NB1 hb5 c0 c1 d0 d1 d2 d3 d4 d5 d6 HCR
            go_wp2
            go_roundw
            case rel => exact ⟨1 + 1, m + 1, a6, cap6, us ++ [numB (x.next + 1)], rfl, by go_num, by omega, by have := HM.out; omega, by show _ = _; rw [HM.out], HU2, U3.out, NB3.out⟩
            case measure => simp [intOf]
          · have U1 := U.alloc (.cells #[.func (.func 51) #[] #[.pointer (some ⟨f.o2, 0, none⟩), .pointer (some ⟨f.m2, 0, none⟩)], .func (.func 52) #[] #[.pointer (some ⟨f.m2, 0, none⟩), .pointer (some ⟨f.o2, 0, none⟩)]] 51)
            have NB1 := NB.alloc (.cells #[.func (.func 51) #[] #[.pointer (some ⟨f.o2, 0, none⟩), .pointer (some ⟨f.m2, 0, none⟩)], .func (.func 52) #[] #[.pointer (some ⟨f.m2, 0, none⟩), .pointer (some ⟨f.o2, 0, none⟩)]] 51)
            have d0 := NB1.cell 0
            have d1 := NB1.cell 1
            have d2 := NB1.cell 2
            have d3 := NB1.cell 3
            have d4 := NB1.cell 4
            have d5 := NB1.cell 5
            have d6 := NB1.cell 6
            simp only [List.getElem?_toArray, List.getElem?_cons_zero, List.getElem?_cons_succ] at d0 d1 d2 d3 d4 d5 d6
            have c0 := U.fields.self.cell 4
            have c1 := U.fields.self.cell 5
            simp only [FB.cells, List.getElem?_toArray, List.getElem?_cons_zero, List.getElem?_cons_succ, wnum, rnum, wtxt, rtxt] at c0 c1
            have CR := number_write_2 U1.fields.f2 F2.out
            rw [Int.add_zero] at CR
            have HCR := Lib.hid CR
            have HU2 : Hid (us ++ [numB x.before] = ts ++ (fieldsB x).take (2 + 1)) := by
              show _ = _
              rw [HU.out, List.append_assoc]
              rfl
            clear CR HU U NB hj
            go_wp2_with (first
              | (go_at_call 51; ((with_reducible refine HCR.out.mono ?_); rintro e w5 ⟨rfl, hb5⟩; have U2 := (U1.step hb5).alloc (.cells #[.string (bs (numB x.before))] 9); have NB2 := (NB1.below hb5 NB1.lt).alloc (.cells #[.string (bs (numB x.before))] 9)))
              | (at_builtin; refine wpList_append_own _ rfl _ _ 30 rfl w.heap.size 9 i0 (.string ⟨#[]⟩) 1 16 Tryd.underlying30 hi hz0 hz1 hz2 rfl (by decide) _ _ _ rfl U2.row ⟨w5.heap.size, 0, none⟩ 1 1 [.string (bs (numB x.before))] rfl rfl ?c21 ?c22 ?c23 ?c24 ?c25 ?_))
            case c21 =>
              intro i u hu
              have hb := Blk.new w5 9 #[.string (bs (numB x.before))]
              rw [add_plain, Nat.zero_add, hb.cell]
              simpa using hu
            case c22 => intro u hu; simp at hu; subst hu; rfl
            case c23 => unfold maxLen; omega
            case c24 => omega
            case c25 => exact U2.base.size
            intro v' w6 hown6 hgrow6 _
            obtain ⟨a6, cap6, rfl⟩ := own_shape hown6
            rw [← strs_snoc] at hown6
            have U3 := Lib.hid (U2.more hgrow6 hown6)
            have NB3 := Lib.hid (U2.keep NB2 hgrow6)
            clear hown6 hgrow6 U2 NB2 U1 NB1 hb5 c0 c1 d0 d1 d2 d3 d4 d5 d6 HCR
            go_wp2
            go_roundw
            case rel => exact ⟨2 + 1, m + 1, a6, cap6, us ++ [numB x.before], rfl, by go_num, by omega, by have := HM.out; omega, by show _ = _; rw [HM.out], HU2, U3.out, NB3.out⟩
            case measure => simp [intOf]
          · have U1 := U.alloc (.cells #[.func (.func 51) #[] #[.pointer (some ⟨f.o3, 0, none⟩), .pointer (some ⟨f.m3, 0, none⟩)], .func (.func 52) #[] #[.pointer (some ⟨f.m3, 0, none⟩), .pointer (some ⟨f.o3, 0, none⟩)]] 51)
            have NB1 := NB.alloc (.cells #[.func (.func 51) #[] #[.pointer (some ⟨f.o3, 0, none⟩), .pointer (some ⟨f.m3, 0, none⟩)], .func (.func 52) #[] #[.pointer (some ⟨f.m3, 0, none⟩), .pointer (some ⟨f.o3, 0, none⟩)]] 51)
            have d0 := NB1.cell 0
            have d1 := NB1.cell 1
            have d2 := NB1.cell 2
            have d3 := NB1.cell 3
            have d4 := NB1.cell 4
            have d5 := NB1.cell 5
            have d6 := NB1.cell 6
            simp only [List.getElem?_toArray, List.getElem?_cons_zero, List.getElem?_cons_succ] at d0 d1 d2 d3 d4 d5 d6
            have c0 := U.fields.self.cell 6
            have c1 := U.fields.self.cell 7
            simp only [FB.cells, List.getElem?_toArray, List.getElem?_cons_zero, List.getElem?_cons_succ, wnum, rnum, wtxt, rtxt] at c0 c1
            have CR := number_write_3 U1.fields.f3 F3.out
            rw [Int.add_zero] at CR
            have HCR := Lib.hid CR
            have HU2 : Hid (us ++ [numB x.after] = ts ++ (fieldsB x).take (3 + 1)) := by
              show _ = _
              rw [HU.out, List.append_assoc]
              rfl
            clear CR HU U NB hj
            go_wp2_with (first
              | (go_at_call 51; ((with_reducible refine HCR.out.mono ?_); rintro e w5 ⟨rfl, hb5⟩; have U2 := (U1.step hb5).alloc (.cells #[.string (bs (numB x.after))] 9); have NB2 := (NB1.below hb5 NB1.lt).alloc (.cells #[.string (bs (numB x.after))] 9)))
              | (at_builtin; refine wpList_append_own _ rfl _ _ 30 rfl w.heap.size 9 i0 (.string ⟨#[]⟩) 1 16 Tryd.underlying30 hi hz0 hz1 hz2 rfl (by decide) _ _ _ rfl U2.row ⟨w5.heap.size, 0, none⟩ 1 1 [.string (bs (numB x.after))] rfl rfl ?c31 ?c32 ?c33 ?c34 ?c35 ?_))
            case c31 =>
              intro i u hu
              have hb := Blk.new w5 9 #[.string (bs (numB x.after))]
              rw [add_plain, Nat.zero_add, hb.cell]
              simpa using hu
            case c32 => intro u hu; simp at hu; subst hu; rfl
            case c33 => unfold maxLen; omega
            case c34 => omega
            case c35 => exact U2.base.size
            intro v' w6 hown6 hgrow6 _
            obtain ⟨a6, cap6, rfl⟩ := own_shape hown6
            rw [← strs_snoc] at hown6
            have U3 := Lib.hid (U2.more hgrow6 hown6)
            have NB3 := Lib.hid (U2.keep NB2 hgrow6)
            clear hown6 hgrow6 U2 NB2 U1 NB1 hb5 c0 c1 d0 d1 d2 d3 d4 d5 d6 HCR
            go_wp2
            go_roundw
            case rel => exact ⟨3 + 1, m + 1, a6, cap6, us ++ [numB x.after], rfl, by go_num, by omega, by have := HM.out; omega, by show _ = _; rw [HM.out], HU2, U3.out, NB3.out⟩
            case measure => simp [intOf]
          · have U1 := U.alloc (.cells #[.func (.func 51) #[] #[.pointer (some ⟨f.o4, 0, none⟩), .pointer (some ⟨f.m4, 0, none⟩)], .func (.func 52) #[] #[.pointer (some ⟨f.m4, 0, none⟩), .pointer (some ⟨f.o4, 0, none⟩)]] 51)
            have NB1 := NB.alloc (.cells #[.func (.func 51) #[] #[.pointer (some ⟨f.o4, 0, none⟩), .pointer (some ⟨f.m4, 0, none⟩)], .func (.func 52) #[] #[.pointer (some ⟨f.m4, 0, none⟩), .pointer (some ⟨f.o4, 0, none⟩)]] 51)
            have d0 := NB1.cell 0
            have d1 := NB1.cell 1
            have d2 := NB1.cell 2
            have d3 := NB1.cell 3
            have d4 := NB1.cell 4
            have d5 := NB1.cell 5
            have d6 := NB1.cell 6
            simp only [List.getElem?_toArray, List.getElem?_cons_zero, List.getElem?_cons_succ] at d0 d1 d2 d3 d4 d5 d6
            have c0 := U.fields.self.cell 8
            have c1 := U.fields.self.cell 9
            simp only [FB.cells, List.getElem?_toArray, List.getElem?_cons_zero, List.getElem?_cons_succ, wnum, rnum, wtxt, rtxt] at c0 c1
            have CR := number_write_4 U1.fields.f4 F4.out
            rw [Int.add_zero] at CR
            have HCR := Lib.hid CR
            have HU2 : Hid (us ++ [numB x.at_] = ts ++ (fieldsB x).take (4 + 1)) := by
              show _ = _
              rw [HU.out, List.append_assoc]
              rfl
            clear CR HU U NB hj
            go_wp2_with (first
              | (go_at_call 51; ((with_reducible refine HCR.out.mono ?_); rintro e w5 ⟨rfl, hb5⟩; have U2 := (U1.step hb5).alloc (.cells #[.string (bs (numB x.at_))] 9); have NB2 := (NB1.below hb5 NB1.lt).alloc (.cells #[.string (bs (numB x.at_))] 9)))
              | (at_builtin; refine wpList_append_own _ rfl _ _ 30 rfl w.heap.size 9 i0 (.string ⟨#[]⟩) 1 16 Tryd.underlying30 hi hz0 hz1 hz2 rfl (by decide) _ _ _ rfl U2.row ⟨w5.heap.size, 0, none⟩ 1 1 [.string (bs (numB x.at_))] rfl rfl ?c41 ?c42 ?c43 ?c44 ?c45 ?_))
            case c41 =>
              intro i u hu
              have hb := Blk.new w5 9 #[.string (bs (numB x.at_))]
              rw [add_plain, Nat.zero_add, hb.cell]
              simpa using hu
            case c42 => intro u hu; simp at hu; subst hu; rfl
            case c43 => unfold maxLen; omega
            case c44 => omega
            case c45 => exact U2.base.size
            intro v' w6 hown6 hgrow6 _
            obtain ⟨a6, cap6, rfl⟩ := own_shape hown6
            rw [← strs_snoc] at hown6
            have U3 := Lib.hid (U2.more hgrow6 hown6)
            have NB3 := Lib.hid (U2.keep NB2 hgrow6)
            clear hown6 hgrow6 U2 NB2 U1 NB1 hb5 c0 c1 d0 d1 d2 d3 d4 d5 d6 HCR
            go_wp2
            go_roundw
            case rel => exact ⟨4 + 1, m + 1, a6, cap6, us ++ [numB x.at_], rfl, by go_num, by omega, by have := HM.out; omega, by show _ = _; rw [HM.out], HU2, U3.out, NB3.out⟩
            case measure => simp [intOf]
          · have U1 := U.alloc (.cells #[.func (.func 53) #[] #[.pointer (some ⟨f.o5, 0, none⟩)], .func (.func 55) #[] #[.pointer (some ⟨f.o5, 0, none⟩)]] 51)
            have NB1 := NB.alloc (.cells #[.func (.func 53) #[] #[.pointer (some ⟨f.o5, 0, none⟩)], .func (.func 55) #[] #[.pointer (some ⟨f.o5, 0, none⟩)]] 51)
            have d0 := NB1.cell 0
            have d1 := NB1.cell 1
            have d2 := NB1.cell 2
            have d3 := NB1.cell 3
            have d4 := NB1.cell 4
            have d5 := NB1.cell 5
            have d6 := NB1.cell 6
            simp only [List.getElem?_toArray, List.getElem?_cons_zero, List.getElem?_cons_succ] at d0 d1 d2 d3 d4 d5 d6
            have c0 := U.fields.self.cell 10
            have c1 := U.fields.self.cell 11
            simp only [FB.cells, List.getElem?_toArray, List.getElem?_cons_zero, List.getElem?_cons_succ, wnum, rnum, wtxt, rtxt] at c0 c1
            have CR := text_write_5 (x := x) U1.fields.f5
            have HCR := Lib.hid CR
            have HU2 : Hid (us ++ [textB x.old] = ts ++ (fieldsB x).take (5 + 1)) := by
              show _ = _
              rw [HU.out, List.append_assoc]
              rfl
            clear CR HU U NB hj
            go_wp2_with (first
              | (go_at_call 53; ((with_reducible refine HCR.out.mono ?_); rintro e w5 ⟨rfl, hb5⟩; have U2 := (U1.step hb5).alloc (.cells #[.string (bs (textB x.old))] 9); have NB2 := (NB1.below hb5 NB1.lt).alloc (.cells #[.string (bs (textB x.old))] 9)))
              | (at_builtin; refine wpList_append_own _ rfl _ _ 30 rfl w.heap.size 9 i0 (.string ⟨#[]⟩) 1 16 Tryd.underlying30 hi hz0 hz1 hz2 rfl (by decide) _ _ _ rfl U2.row ⟨w5.heap.size, 0, none⟩ 1 1 [.string (bs (textB x.old))] rfl rfl ?c51 ?c52 ?c53 ?c54 ?c55 ?_))
            case c51 =>
              intro i u hu
              have hb := Blk.new w5 9 #[.string (bs (textB x.old))]
              rw [add_plain, Nat.zero_add, hb.cell]
              simpa using hu
            case c52 => intro u hu; simp at hu; subst hu; rfl
            case c53 => unfold maxLen; omega
            case c54 => omega
            case c55 => exact U2.base.size
            intro v' w6 hown6 hgrow6 _
            obtain ⟨a6, cap6, rfl⟩ := own_shape hown6
            rw [← strs_snoc] at hown6
            have U3 := Lib.hid (U2.more hgrow6 hown6)
            have NB3 := Lib.hid (U2.keep NB2 hgrow6)
            clear hown6 hgrow6 U2 NB2 U1 NB1 hb5 c0 c1 d0 d1 d2 d3 d4 d5 d6 HCR
            go_wp2
            go_roundw
            case rel => exact ⟨5 + 1, m + 1, a6, cap6, us ++ [textB x.old], rfl, by go_num, by omega, by have := HM.out; omega, by show _ = _; rw [HM.out], HU2, U3.out, NB3.out⟩
            case measure => simp [intOf]
          · have U1 := U.alloc (.cells #[.func (.func 53) #[] #[.pointer (some ⟨f.o6, 0, none⟩)], .func (.func 55) #[] #[.pointer (some ⟨f.o6, 0, none⟩)]] 51)
            have NB1 := NB.alloc (.cells #[.func (.func 53) #[] #[.pointer (some ⟨f.o6, 0, none⟩)], .func (.func 55) #[] #[.pointer (some ⟨f.o6, 0, none⟩)]] 51)
            have d0 := NB1.cell 0
            have d1 := NB1.cell 1
            have d2 := NB1.cell 2
            have d3 := NB1.cell 3
            have d4 := NB1.cell 4
            have d5 := NB1.cell 5
            have d6 := NB1.cell 6
            simp only [List.getElem?_toArray, List.getElem?_cons_zero, List.getElem?_cons_succ] at d0 d1 d2 d3 d4 d5 d6
            have c0 := U.fields.self.cell 12
            have c1 := U.fields.self.cell 13
            simp only [FB.cells, List.getElem?_toArray, List.getElem?_cons_zero, List.getElem?_cons_succ, wnum, rnum, wtxt, rtxt] at c0 c1
            have CR := text_write_6 (x := x) U1.fields.f6
            have HCR := Lib.hid CR
            have HU2 : Hid (us ++ [textB x.new] = ts ++ (fieldsB x).take (6 + 1)) := by
              show _ = _
              rw [HU.out, List.append_assoc]
              rfl
            clear CR HU U NB hj
            go_wp2_with (first
              | (go_at_call 53; ((with_reducible refine HCR.out.mono ?_); rintro e w5 ⟨rfl, hb5⟩; have U2 := (U1.step hb5).alloc (.cells #[.string (bs (textB x.new))] 9); have NB2 := (NB1.below hb5 NB1.lt).alloc (.cells #[.string (bs (textB x.new))] 9)))
              | (at_builtin; refine wpList_append_own _ rfl _ _ 30 rfl w.heap.size 9 i0 (.string ⟨#[]⟩) 1 16 Tryd.underlying30 hi hz0 hz1 hz2 rfl (by decide) _ _ _ rfl U2.row ⟨w5.heap.size, 0, none⟩ 1 1 [.string (bs (textB x.new))] rfl rfl ?c61 ?c62 ?c63 ?c64 ?c65 ?_))
            case c61 =>
              intro i u hu
              have hb := Blk.new w5 9 #[.string (bs (textB x.new))]
              rw [add_plain, Nat.zero_add, hb.cell]
              simpa using hu
            case c62 => intro u hu; simp at hu; subst hu; rfl
            case c63 => unfold maxLen; omega
            case c64 => omega
            case c65 => exact U2.base.size
            intro v' w6 hown6 hgrow6 _
            obtain ⟨a6, cap6, rfl⟩ := own_shape hown6
            rw [← strs_snoc] at hown6
            have U3 := Lib.hid (U2.more hgrow6 hown6)
            have NB3 := Lib.hid (U2.keep NB2 hgrow6)
            clear hown6 hgrow6 U2 NB2 U1 NB1 hb5 c0 c1 d0 d1 d2 d3 d4 d5 d6 HCR
            go_wp2
            go_roundw
            case rel => exact ⟨6 + 1, m + 1, a6, cap6, us ++ [textB x.new], rfl, by go_num, by omega, by have := HM.out; omega, by show _ = _; rw [HM.out], HU2, U3.out, NB3.out⟩
            case measure => simp [intOf]
          · have HU2 : Hid (us = numB (l.length : Int) :: nodesB (l.take (k + 1))) := by
              show _ = _
              rw [HU.out, HS.out]
              rfl
            clear NB HU HS
            go_wp2
            go_roundw
            case rel => exact ⟨k + 1, m, A2, c2, us, rfl, by go_num, by omega, by have h1 := HM.out; have h2 := HN.out; omega, by show _ = _; have h1 := HM.out; have h2 := HN.out; omega, HU2, U⟩
            case measure => simp [intOf]; omega
      · obtain rfl : k = l.length := by omega
        have HT2 : Hid (ts ++ [numB cur] = thingsB l cur) := by
          show _ = _
          rw [HT.out, List.take_length]
          rfl
        have t0 := T.tree.cell 0
        have t1 := T.tree.cell 1
        clear HT HW HFT
        go_wp2_with (first
          | (go_at_call 19; ((with_reducible refine (code_num _ _).mono ?_); rintro e w5 ⟨rfl, hb5⟩; have U2 := (T.step hb5).alloc (.cells #[.string (bs (numB cur))] 9)))
          | (at_builtin; refine wpList_append_own _ rfl _ _ 30 rfl w.heap.size 9 i0 (.string ⟨#[]⟩) 1 16 Tryd.underlying30 hi hz0 hz1 hz2 rfl (by decide) _ _ _ rfl U2.row ⟨w5.heap.size, 0, none⟩ 1 1 [.string (bs (numB cur))] rfl rfl ?c1 ?c2 ?c3 ?c4 ?c5 ?_))
        case c1 =>
          intro i u hu
          have hb := Blk.new w5 9 #[.string (bs (numB cur))]
          rw [add_plain, Nat.zero_add, hb.cell]
          simpa using hu
        case c2 => intro u hu; simp at hu; subst hu; rfl
        case c3 => unfold maxLen; omega
        case c4 => omega
        case c5 => exact U2.base.size
        intro v' w6 hown6 hgrow6 _
        rw [← strs_snoc, HT2.out] at hown6
        obtain ⟨g6, cap6, rfl, hlt6, _, _⟩ := own_addr hown6 (by omega)
        have U3 := U2.more hgrow6 hown6
        have L3 := U3.len
        have J := Lib.hid (by
          have hk := hown6.cells (g := g6) rfl
          have hcap : n + 1 ≤ cap6 := by
            rcases hown6.2 with ⟨hv, _⟩ | ⟨g', cap, cur', hv, _, _, h, _⟩
            · cases hv
            · injection hv with _ _ e3; rw [e3]; exact h
          have := trunk_joined (c := cap6) (ts := thingsB l cur) (g := g6) (w := w6) (fun j t ht => by
            have := hk j (strV t) (by rw [List.getElem?_map, ht]; rfl)
            rw [add_plain] at this
            exact this) hlt6 (by rw [L3]; exact hcap) (by rw [L3]; omega) (by
              have h1 := flatten_le (things_length (l := l) (cur := cur))
              rw [L3] at h1
              omega)
          rw [L3] at this
          exact this)
        have B6 := Lib.hid U3.base
        clear hown6 hgrow6 U2 U3 L3 hb5 T t0 t1
        go_wp2_with (go_at_call 21; ((with_reducible refine J.out.mono ?_); rintro e w7 ⟨rfl, hb7⟩))
        go_ret
        exact ⟨by rw [H.out]; rfl, B6.out.trans (hb7.mono B6.out.size)⟩
  · have H : Hid (treeB l cur = []) := treeB_no hR
    rw [decide_eq_false hR] at HR
    clear hR hfit hx
    go_enter Tryd.func7, Tryd.ntmps7
    go_wp2_with (go_at_call 17; ((with_reducible refine (HR.out _ h1.out).mono ?_); rintro e w1 ⟨rfl, hb1⟩; obtain ⟨z1, y0, y1⟩ := HB.out _ hb1; have t0 := y0.cell 0; have t1 := y0.cell 1))
    go_ret
    exact ⟨by rw [H.out]; rfl, y1⟩
set_option maxHeartbeats 400000 in
theorem trunk_Size {A : Option Addr} {c : Nat} {l : List Nd} {cur : Int} {w : World} (hx : Nds w A l) (hc : l.length ≤ c) (hfit : ∀ x ∈ l, Fit x) :
    Calls Tryd.prog 9 #[.agg #[.slice A l.length c, .int .i64 cur]] w fun e w' => e = .returned (.int .i64 (treeB l cur).length) ∧ Below w.heap.size w w' := by
  have W1 := al (Below.refl w.heap.size w) (.cells #[.slice A l.length c, .int .i64 cur] 24)
  have HB := Lib.hid (trunk_Bytes (cur := cur) (hx.below W1) hc hfit)
  clear hx hfit
  go_enter Tryd.func9, Tryd.ntmps9
  go_wp2_with (go_at_call 7; ((with_reducible refine HB.out.mono ?_); rintro e w1 ⟨rfl, hb1⟩))
  go_ret
  exact ⟨by rw [← bs_size]; rfl, W1.trans (hb1.mono W1.size)⟩
end Go.Proofs.YtchmiigjiojiaaaDoor
