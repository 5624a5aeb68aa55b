/-
  A tree as lines: the program's.
-/
import Derived.Test.YtchmiigjiojiaaaDoorRow
import Derived.Test.YtchmiigjiojiaaaDoorTrunkBytes
import Derived.Test.YtchmiigjiojiaaaDoorTreeOpen
namespace Go.Proofs.YtchmiigjiojiaaaDoor
open Go.RowKit
open Tre Trk
namespace Trk
/-- A node's numbers as words. -/
def rowB (k : Nat) (x : Nd) : List UInt8 := Lib.join (words [(k : Int), x.up, x.next, x.before, x.after, x.at_, (x.old.size : Int), (x.new.size : Int)]) [32]
/-- A node's line. -/
def lineB (cur : Int) (k : Nat) (x : Nd) : List UInt8 := if (k : Int) = cur then rowB k x ++ [32, 42] else rowB k x
/-- The lines of the first m nodes. -/
def linesB (l : List Nd) (cur : Int) (m : Nat) : List (List UInt8) := (List.range m).map fun k => match l[k]? with | some x => lineB cur k x | none => []
theorem linesB_succ {l : List Nd} {cur : Int} {k : Nat} {x : Nd} (h : l[k]? = some x) : linesB l cur (k + 1) = linesB l cur k ++ [lineB cur k x] := by
  unfold linesB
  rw [List.range_succ, List.map_append, List.map_cons, List.map_nil, h]
theorem linesB_length (l : List Nd) (cur : Int) (m : Nat) : (linesB l cur m).length = m := by simp [linesB]
/-- The lines of a tree; none of one that may not be. -/
noncomputable def drawB (l : List Nd) (cur : Int) : List (List UInt8) := if Right l cur then linesB l cur l.length else []
/-- The numbers of a node that are told, are of 64 bits. -/
def NdI (x : Nd) : Prop := I64 x.before ∧ I64 x.after ∧ I64 x.at_ ∧ I64 x.old.size ∧ I64 x.new.size
theorem i64_of_wf {n : Int} (h : (Lit.int .i64 n).wf = true) : I64 n := by
  simp only [Lit.wf, Bool.and_eq_true, decide_eq_true_eq] at h
  exact h
theorem fit_of_wf {x : Nd} (h : NdWf x) : Fit x := by
  obtain ⟨_, _, h2, h3, h4⟩ := h
  have w : ∀ n : Int, (Lit.int .i64 n).wf = true → IntKind.i64.wrap (n + 0) = n + 0 := fun n h => by
    have h := i64_of_wf h
    unfold I64 at h
    exact IntWalk.i64_in _ (by omega)
  exact ⟨w _ h2, w _ h3, w _ h4⟩
theorem ndI_of_wf {x : Nd} (h : NdWf x) (hs : x.old.size ≤ 140737488351232 ∧ x.new.size ≤ 140737488351232) : NdI x := by
  obtain ⟨_, _, h2, h3, h4⟩ := h
  exact ⟨i64_of_wf h2, i64_of_wf h3, i64_of_wf h4, by unfold I64; omega, by unfold I64; omega⟩
theorem right_i64 {l : List Nd} {cur : Int} (h : Right l cur) {k : Nat} {x : Nd} (hx : l[k]? = some x) : I64 x.up ∧ I64 x.next := by
  have hk : k < l.length := (List.getElem?_eq_some_iff.1 hx).1
  have hf := h.few
  unfold I64
  constructor
  · rcases Nat.eq_zero_or_pos k with h0 | h0
    · subst h0
      have := (h.ups 0 hk x hx).zero
      omega
    · have := (h.ups k hk x hx).pos h0
      omega
  · have := h.nexts k hk x hx
    unfold NextOk at this
    split at this <;> omega
theorem rowB_size {k : Nat} {x : Nd} (h0 : I64 k) (h1 : I64 x.up) (h2 : I64 x.next) (h : NdI x) : (rowB k x).length ≤ 200 := by
  obtain ⟨h3, h4, h5, h6, h7⟩ := h
  have := join_len_le (words [(k : Int), x.up, x.next, x.before, x.after, x.at_, (x.old.size : Int), (x.new.size : Int)]) 21 (fun t ht => by
    obtain ⟨n, hn, rfl⟩ := List.mem_map.1 ht
    simp only [List.mem_cons, List.not_mem_nil, or_false] at hn
    have hn' : I64 n := by rcases hn with rfl | rfl | rfl | rfl | rfl | rfl | rfl | rfl <;> assumption
    exact Lib.itoa_length_le n hn'.1 hn'.2)
  rw [words_length] at this
  unfold rowB
  simp only [List.length_cons, List.length_nil] at this
  omega
end Trk
/-- An answer of these texts. -/
def TextsIs (ts : List (List UInt8)) (w : World) (e : Ending) (w' : World) : Prop := ∃ (A : Option Addr) (c : Nat), e = .returned (.slice A ts.length c) ∧ Strs w' A (ts.map bs) ∧ ts.length ≤ c ∧ Below w.heap.size w w'
theorem textsIs_own {ts : List (List UInt8)} {w w' : World} {A : Option Addr} {B n c : Nat} (hn : ts.length = n) (h : w'.ownsRow B 9 1 (.slice A n c) n (ts.map wordV)) (hb : Below w.heap.size w w') : TextsIs ts w (.returned (.slice A n c)) w' := by
  subst hn
  refine ⟨A, c, rfl, ?_, ?_, hb⟩
  · exact Strs.of_own (xs := ts.map bs) (n := ts.length) (c := c) (by rw [List.length_map, List.map_map]; exact h) rfl
  · rcases h.2 with ⟨hv, h1⟩ | ⟨g, cap, cur, hv, _, _, h1, _⟩
    · injection hv with _ _ e; omega
    · injection hv with _ _ e; rw [e]; exact h1
theorem trunk_row8 {g : Nat} {a b c d e f h i : Int} {u : World} (hp : Pow u.heap.size u) (B : Blk u g 3 #[.int .i64 a, .int .i64 b, .int .i64 c, .int .i64 d, .int .i64 e, .int .i64 f, .int .i64 h, .int .i64 i]) (ha : I64 a) (hb : I64 b) (hc : I64 c) (hd : I64 d) (he : I64 e) (hf : I64 f) (hh : I64 h) (hi : I64 i) :
    Calls Tryd.prog 25 #[.slice (some ⟨g, 0, none⟩) 8 8] u fun e' w' => e' = .returned (.string (bs (Lib.join (words [a, b, c, d, e, f, h, i]) [32]))) ∧ Below u.heap.size u w' := by
  refine trunk_row (c := 8) (ns := [a, b, c, d, e, f, h, i]) hp (fun j n hj => ?_) B.lt (by simp) (by simp) (fun n hn => ?_)
  · rw [Nat.zero_add, B.cell]
    have : #[Value.int .i64 a, .int .i64 b, .int .i64 c, .int .i64 d, .int .i64 e, .int .i64 f, .int .i64 h, .int .i64 i] = ([a, b, c, d, e, f, h, i].map (Value.int .i64)).toArray := rfl
    rw [this, List.getElem?_toArray, List.getElem?_map, hj]
    rfl
  · simp only [List.mem_cons, List.not_mem_nil, or_false] at hn
    rcases hn with rfl | rfl | rfl | rfl | rfl | rfl | rfl | rfl <;> assumption
theorem trunk_rowN {g k : Nat} {x : Nd} {u : World} (hp : Pow u.heap.size u) (B : Blk u g 3 #[.int .i64 k, .int .i64 x.up, .int .i64 x.next, .int .i64 x.before, .int .i64 x.after, .int .i64 x.at_, .int .i64 x.old.size, .int .i64 x.new.size]) (ha : I64 k) (hb : I64 x.up) (hc : I64 x.next) (h : NdI x) :
    Calls Tryd.prog 25 #[.slice (some ⟨g, 0, none⟩) 8 8] u fun e' w' => e' = .returned (.string (bs (rowB k x))) ∧ Below u.heap.size u w' := by
  obtain ⟨h3, h4, h5, h6, h7⟩ := h
  exact trunk_row8 hp B ha hb hc h3 h4 h5 h6 h7
set_option maxHeartbeats 4000000 in
set_option maxRecDepth 100000 in
theorem trunk_Draw {A : Option Addr} {c : Nat} {l : List Nd} {cur : Int} {w : World} (hp : Pow w.heap.size w) (hx : Nds w A l) (hc : l.length ≤ c) (hI : ∀ x ∈ l, NdI x) :
    Calls Tryd.prog 11 #[.agg #[.slice A l.length c, .int .i64 cur]] w (TextsIs (drawB l cur) w) := by
  have HR := Lib.hid (fun (u : World) (h : Nds u A l) => tree_Right_any (cur := cur) h hc)
  have HB := Lib.hid (fun u => blk1 w #[.slice A l.length c, .int .i64 cur] 24 (u := u))
  have h1 := Lib.hid (hx.below (al (Below.refl w.heap.size w) (.cells #[.slice A l.length c, .int .i64 cur] 24)))
  by_cases hR : Right l cur
  · have H : Hid (drawB l cur = linesB l cur l.length) := if_pos hR
    rw [decide_eq_true hR] at HR
    have HW := Lib.hid (fun (k : Nat) (x : Nd) (h : l[k]? = some x) => right_i64 hR h)
    have HII := Lib.hid hI
    have hl := hR.few
    have h0 := hR.one
    have HP := Lib.hid hp
    obtain ⟨i0, hi, hz0, hz1, hz2⟩ := info_parts info_string
    obtain ⟨b, off, rfl, hbw, CC⟩ := hx.addr (by omega)
    have CE := Lib.hid CC
    clear hR hI CC hx hp
    go_enter Tryd.func11, Tryd.ntmps11
    go_wp2_with (first
      | (go_at_call 17; ((with_reducible refine (HR.out _ h1.out).mono ?_); rintro e w1 ⟨rfl, hb1⟩; obtain ⟨z1, y0, y1⟩ := HB.out _ hb1; have t0 := y0.cell 0; have t1 := y0.cell 1))
      | (at_make; refine wpList_make_own _ rfl _ _ 30 rfl w.heap.size 9 i0 (.string ⟨#[]⟩) 1 Tryd.underlying30 hi hz0 hz1 .i64 .i64 _ l.length rfl rfl rfl (by rw [hz2]; omega) (by unfold maxLen; omega) y1.size ?_; intro w2 hown hgrow; have Y0 := y0.grown hgrow (by simp); have t2 := Y0.cell 0))
    have hW2 : Below w.heap.size w w2 := y1.trans ((below_gb hgrow).mono y1.size)
    clear hgrow z1 y0 y1 t0 t1 t2 hb1
    go_wp2
    go_loopw [3, 18] (fun v i wr => ∃ (k : Nat) (A' : Option Addr) (c' : Nat), v = .slice A' k c' ∧ i = .int .i64 k ∧ k ≤ l.length ∧ wr.ownsRow w.heap.size 9 1 v k ((linesB l cur k).map wordV) ∧ Blk wr w.heap.size 24 #[.slice (some ⟨b, off, none⟩) l.length c, .int .i64 cur] ∧ Below w.heap.size w wr) (fun _ i _ => l.length - (intOf i).toNat)
    case atStart => exact ⟨0, _, _, rfl, rfl, Nat.zero_le _, hown, Y0, hW2⟩
    case round =>
      obtain ⟨k, A', c', rfl, rfl, hk, hown2, Y, hW⟩ := hrel
      clear hown hW2 Y0
      by_cases hlt : k < l.length
      · obtain ⟨x, hx⟩ : ∃ x, l[k]? = some x := ⟨_, List.getElem?_eq_getElem hlt⟩
        obtain ⟨e0, e1, e2, e3, e4, e5, e6⟩ := CE.out wr _ hW (Nat.le_refl _) _ _ hx
        obtain ⟨j1, j2⟩ := HW.out k x hx
        obtain ⟨j3, j4, j5, j6, j7⟩ := HII.out x (List.mem_of_getElem? hx)
        have j0 : I64 (k : Int) := by unfold I64; omega
        have hrs := rowB_size j0 j1 j2 ⟨j3, j4, j5, j6, j7⟩
        have HS := Lib.hid (linesB_succ (cur := cur) hx)
        have W3 := ((hW.alloc hW.size (.cells #[.int .i64 x.up, .int .i64 x.next, .int .i64 x.before, .int .i64 x.after, .int .i64 x.at_, .string x.old, .string x.new] 40)).alloc (by have := hW.size; rw [World.size_alloc]; omega) (.cells #[.int .i64 x.at_, .string x.old, .string x.new] 38)).alloc (by have := hW.size; rw [World.size_alloc, World.size_alloc]; omega) (.cells #[.int .i64 k, .int .i64 x.up, .int .i64 x.next, .int .i64 x.before, .int .i64 x.after, .int .i64 x.at_, .int .i64 x.old.size, .int .i64 x.new.size] 3)
        have N3 := Blk.new ((wr.alloc (.cells #[.int .i64 x.up, .int .i64 x.next, .int .i64 x.before, .int .i64 x.after, .int .i64 x.at_, .string x.old, .string x.new] 40)).alloc (.cells #[.int .i64 x.at_, .string x.old, .string x.new] 38)) 3 #[.int .i64 k, .int .i64 x.up, .int .i64 x.next, .int .i64 x.before, .int .i64 x.after, .int .i64 x.at_, .int .i64 x.old.size, .int .i64 x.new.size]
        have Y3 := ((Y.alloc (.cells #[.int .i64 x.up, .int .i64 x.next, .int .i64 x.before, .int .i64 x.after, .int .i64 x.at_, .string x.old, .string x.new] 40)).alloc (.cells #[.int .i64 x.at_, .string x.old, .string x.new] 38)).alloc (.cells #[.int .i64 k, .int .i64 x.up, .int .i64 x.next, .int .i64 x.before, .int .i64 x.after, .int .i64 x.at_, .int .i64 x.old.size, .int .i64 x.new.size] 3)
        have O3 := ((hown2.alloc (.cells #[.int .i64 x.up, .int .i64 x.next, .int .i64 x.before, .int .i64 x.after, .int .i64 x.at_, .string x.old, .string x.new] 40)).alloc (.cells #[.int .i64 x.at_, .string x.old, .string x.new] 38)).alloc (.cells #[.int .i64 k, .int .i64 x.up, .int .i64 x.next, .int .i64 x.before, .int .i64 x.after, .int .i64 x.at_, .int .i64 x.old.size, .int .i64 x.new.size] 3)
        rw [World.size_alloc, World.size_alloc] at N3
        have RR := Lib.hid (trunk_rowN (HP.out.from W3.size W3) N3 j0 j1 j2 ⟨j3, j4, j5, j6, j7⟩)
        clear hx j0 j1 j2 j3 j4 j5 j6 j7 Y hown2
        have hrz : (bs (rowB k x)).size ≤ 200 := by rw [bs_size]; exact hrs
        clear hrs
        by_cases hcur : (k : Int) = cur
        · have g1 : ((k : Int) == cur) = true := by rw [beq_iff_eq]; exact hcur
          have HV : Hid (bs (rowB k x) ++ ⟨#[32, 42]⟩ = bs (lineB cur k x)) := by
            show _ = _
            unfold lineB
            rw [if_pos hcur, ← bs_append]
            rfl
          have hlim : ¬ 9223372036854775807 < (bs (rowB k x)).size + 2 := by omega
          clear hcur
          go_wp2_with (first
            | (go_at_call 25; ((with_reducible refine RR.out.mono ?_); rintro e w5 ⟨rfl, hb5⟩; have Y5 := Y3.below hb5 Y3.lt; have W5 := W3.trans (hb5.mono W3.size); have y1 := Y5.cell 1; have U2 := (O3.kept (gb_below none hb5) (by cases hv : (Value.slice A' k c').ownBlock <;> simp)).alloc (.cells #[.string (bs (rowB k x) ++ ⟨#[32, 42]⟩)] 9)))
            | (at_builtin; refine wpList_append_own _ rfl _ _ 30 rfl w.heap.size 9 i0 (.string ⟨#[]⟩) 1 16 Tryd.underlying30 hi hz0 hz1 hz2 rfl (by decide) _ _ _ rfl U2 ⟨w5.heap.size, 0, none⟩ 1 1 [.string (bs (rowB k x) ++ ⟨#[32, 42]⟩)] rfl rfl ?ca1 ?ca2 ?ca3 ?ca4 ?ca5 ?_))
          case ca1 =>
            intro i u hu
            have hb := Blk.new w5 9 #[.string (bs (rowB k x) ++ ⟨#[32, 42]⟩)]
            rw [add_plain, Nat.zero_add, hb.cell]
            simpa using hu
          case ca2 => intro u hu; simp at hu; subst hu; rfl
          case ca3 => unfold maxLen; omega
          case ca4 => omega
          case ca5 => have := W5.size; rw [World.size_alloc]; omega
          intro v' w6 hown6 hgrow6 _
          obtain ⟨a6, cap6, rfl⟩ := own_shape hown6
          rw [HV.out, ← wordV_snoc, ← HS.out] at hown6
          have W6 := (W5.alloc W5.size (.cells #[.string (bs (rowB k x) ++ ⟨#[32, 42]⟩)] 9)).grown hgrow6 (by have := W5.size; rw [World.size_alloc]; omega) (fun j hj => (U2.lt j hj).1)
          have Y6 := (Y5.alloc (.cells #[.string (bs (rowB k x) ++ ⟨#[32, 42]⟩)] 9)).grown hgrow6 (fun e => own_blk_ne U2 (Y5.alloc (.cells #[.string (bs (rowB k x) ++ ⟨#[32, 42]⟩)] 9)) (by decide) e.symm)
          clear hgrow6 U2 W5 hb5 Y5 y1 W3 N3 Y3 O3 RR e0 e1 e2 e3 e4 e5 e6
          go_wp2
          go_roundw
          case rel => exact ⟨k + 1, a6, cap6, rfl, by go_num, by omega, hown6, Y6, W6⟩
          case measure => simp [intOf]; omega
        · have g1 : ((k : Int) == cur) = false := by rw [beq_eq_false_iff_ne]; exact hcur
          have HV : Hid (bs (rowB k x) = bs (lineB cur k x)) := by
            show _ = _
            unfold lineB
            rw [if_neg hcur]
          clear hcur
          go_wp2_with (first
            | (go_at_call 25; ((with_reducible refine RR.out.mono ?_); rintro e w5 ⟨rfl, hb5⟩; have Y5 := Y3.below hb5 Y3.lt; have W5 := W3.trans (hb5.mono W3.size); have y1 := Y5.cell 1; have U2 := (O3.kept (gb_below none hb5) (by cases hv : (Value.slice A' k c').ownBlock <;> simp)).alloc (.cells #[.string (bs (rowB k x))] 9)))
            | (at_builtin; refine wpList_append_own _ rfl _ _ 30 rfl w.heap.size 9 i0 (.string ⟨#[]⟩) 1 16 Tryd.underlying30 hi hz0 hz1 hz2 rfl (by decide) _ _ _ rfl U2 ⟨w5.heap.size, 0, none⟩ 1 1 [.string (bs (rowB k x))] rfl rfl ?cb1 ?cb2 ?cb3 ?cb4 ?cb5 ?_))
          case cb1 =>
            intro i u hu
            have hb := Blk.new w5 9 #[.string (bs (rowB k x))]
            rw [add_plain, Nat.zero_add, hb.cell]
            simpa using hu
          case cb2 => intro u hu; simp at hu; subst hu; rfl
          case cb3 => unfold maxLen; omega
          case cb4 => omega
          case cb5 => have := W5.size; rw [World.size_alloc]; omega
          intro v' w6 hown6 hgrow6 _
          obtain ⟨a6, cap6, rfl⟩ := own_shape hown6
          rw [HV.out, ← wordV_snoc, ← HS.out] at hown6
          have W6 := (W5.alloc W5.size (.cells #[.string (bs (rowB k x))] 9)).grown hgrow6 (by have := W5.size; rw [World.size_alloc]; omega) (fun j hj => (U2.lt j hj).1)
          have Y6 := (Y5.alloc (.cells #[.string (bs (rowB k x))] 9)).grown hgrow6 (fun e => own_blk_ne U2 (Y5.alloc (.cells #[.string (bs (rowB k x))] 9)) (by decide) e.symm)
          clear hgrow6 U2 W5 hb5 Y5 y1 W3 N3 Y3 O3 RR e0 e1 e2 e3 e4 e5 e6
          go_wp2
          go_roundw
          case rel => exact ⟨k + 1, a6, cap6, rfl, by go_num, by omega, hown6, Y6, W6⟩
          case measure => simp [intOf]; omega
      · obtain rfl : k = l.length := by omega
        go_wp2
        go_ret
        rw [H.out]
        exact textsIs_own (linesB_length _ _ _) hown2 hW
  · have H : Hid (drawB l cur = []) := if_neg hR
    rw [decide_eq_false hR] at HR
    clear hR hI hx hp
    go_enter Tryd.func11, Tryd.ntmps11
    go_wp2_with (go_at_call 17; ((with_reducible refine (HR.out _ h1.out).mono ?_); rintro e w1 ⟨rfl, hb1⟩; obtain ⟨z1, y0, y1⟩ := HB.out _ hb1; have t0 := y0.cell 0; have t1 := y0.cell 1))
    go_ret
    rw [H.out]
    exact ⟨none, 0, rfl, fun h => absurd h (by simp), Nat.le_refl _, y1⟩
end Go.Proofs.YtchmiigjiojiaaaDoor
