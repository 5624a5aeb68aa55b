/-
  The text at each node: the document's.
-/
import Derived.Test.YtffihchkmcddeaaTreeTexts
import Derived.Test.YtffihchkmcddeaaTreeRefRight
import Derived.Deep.RegionHeld3
namespace Go.Proofs.Ytffihchkmcddeaa
open Go.RowKit
open Tre
theorem ref_do_one (t : ByteArray) (k : Cg) (A : Option Addr) (c : Nat) (w : World) (hx : Cgs w A [k]) (ht : t.size ≤ 10000) (hs : k.old.size + k.new.size ≤ 10000) :
    Calls Try.prog 50 #[.string t, .slice A 1 c] w fun e w' => e = .returned (.tuple #[.string (bs (does [k] t.data.toList).1), .int .i64 (does [k] t.data.toList).2]) ∧ Below w.heap.size w w' :=
  ref8_Do t hx ht (by rw [weigh_one]; exact hs) (by simp)
set_option maxHeartbeats 8000000 in
set_option maxRecDepth 100000 in
theorem ref11_Texts {A : Option Addr} {c : Nat} {l : List Nd} {cur : Int} (s : ByteArray) {w : World} (hx : Nds w A l) (hm : l.length ≤ 2000) (hs : ∀ x ∈ l, x.old.size + x.new.size ≤ 9000) (ht : s.size ≤ 9000) :
    Calls Try.prog 32 #[.agg #[.slice A l.length c, .int .i64 cur], .string s] w fun e w' => TextsIs (texts l cur s.data.toList) w e w' := by
  have h0 := al (Below.refl w.heap.size w) (.cells #[.slice A l.length c, .int .i64 cur] 24)
  have hx2 := Lib.hid (hx.below h0)
  have R := Lib.hid (fun u (h : Nds u A l) => ref11_Right (c := c) (cur := cur) h)
  have HB := Lib.hid (fun u => blk1 w #[.slice A l.length c, .int .i64 cur] 24 (u := u))
  by_cases hR : Right l cur
  · rw [decide_eq_true hR] at R
    have h1 := hR.one
    obtain ⟨m, rfl⟩ : ∃ m : Nat, cur = m := ⟨cur.toNat, by have := hR.low; omega⟩
    have hml : m < l.length := by have := hR.high; omega
    have HU := Lib.hid hR.ups
    have HS := Lib.hid hs
    have ON := Lib.hid (fun u k (h : Below w.heap.size w u) => ref11_on (c := c) (cur := (m : Int)) (a := k) (k := m) (hx.below h) hR.ups hml hm)
    obtain ⟨T0, hT0⟩ : ∃ T0, T0 = upd (fun _ => []) m s.data.toList := ⟨_, rfl⟩
    have H : Hid (texts l (m : Int) s.data.toList = if (upT l T0 m).2 = 0 then (if (dnT l m (List.range l.length) (upT l T0 m).1).2 = 0 then ((List.range l.length).map (dnT l m (List.range l.length) (upT l T0 m).1).1, 0) else ([], (dnT l m (List.range l.length) (upT l T0 m).1).2)) else ([], (upT l T0 m).2)) := by
      show _ = _
      rw [texts, if_neg (fun c => c hR), Int.toNat_natCast, ← hT0]
    have HT0 : Hid (∀ j, (if j = m then s.data.toList else []) = T0 j) := fun j => by rw [hT0]; rfl
    have LT0 : Hid (∀ j, (T0 j).length ≤ 9000) := fun j => by
      rw [hT0]; show (if j = m then s.data.toList else []).length ≤ _
      split
      · rw [data_len]; exact ht
      · simp
    obtain ⟨b, off, rfl, hbw, CC⟩ := hx.addr (by omega)
    have CE := Lib.hid CC
    have hmk6 := run_make_row' (P := Try.prog) 52 9 (.string ⟨#[]⟩) 16 Try.underlying52 info_string rfl .i64 .i64 l.length (by omega) (by omega)
    have R6 := Lib.hid (fun u : World => World.rowIs_made u (.string ⟨#[]⟩) l.length 9)
    have mi : (m : Int) < (l.length : Int) := by omega
    clear CC hx hR hs hT0 ht
    go_enter Try.func32, Try.ntmps32
    go_wp2_with (go_at_call 13; (with_reducible refine (R.out _ hx2.out).mono ?_); rintro e w1 ⟨rfl, hb1⟩; obtain ⟨z1, y0, y1⟩ := HB.out _ hb1; have t0 := y0.cell 0; have t1 := (y0.alloc (.cells (madeCells #[.string ⟨#[]⟩] l.length) 9)).cell 1; have r6 := R6.out w1; have q6 := r6.cell hml; have f6 := r6.frozen m; have V5 := al hb1 (.cells (madeCells #[.string ⟨#[]⟩] l.length) 9); have k2 := (y0.alloc (.cells ((madeCells #[.string ⟨#[]⟩] l.length).setIfInBounds m (.string s)) 9)).cell 1)
    have hS : (w.alloc (.cells #[.slice (some ⟨b, off, none⟩) l.length c, .int .i64 (m : Int)] 24)).heap.size = w.heap.size + 1 := World.size_alloc _ _
    have r6c : (w1.alloc (.cells ((madeCells #[.string ⟨#[]⟩] l.length).setIfInBounds m (.string s)) 9)).rowIs w1.heap.size 9 l.length (fun j => .string (bs (T0 j))) := by
      have := World.rowIs_alloc w1 ((madeCells #[.string ⟨#[]⟩] l.length).setIfInBounds m (.string s)) 9 (fun j => .string (bs (T0 j))) (fun j hj => by
        have hj' : j < l.length := by simpa [size_madeCells] using hj
        rw [← HT0.out j, Array.getElem?_setIfInBounds]
        by_cases e : m = j
        · rw [if_pos e, if_pos (by rw [size_madeCells]; simpa using hml), if_pos e.symm, bs_data]
        · rw [if_neg e, if_neg (fun h => e h.symm)]
          have := (R6.out w1).cell hj'
          have hb := Blk.new w1 9 (madeCells #[.string ⟨#[]⟩] l.length)
          rw [hb.cell] at this
          exact this)
      rw [Array.size_setIfInBounds, size_madeCells] at this
      simpa using this
    have V8 := al hb1 (.cells ((madeCells #[.string ⟨#[]⟩] l.length).setIfInBounds m (.string s)) 9)
    clear t0 t1 q6 f6 V5 k2 y0 y1 z1 r6
    generalize w1.alloc (.cells ((madeCells #[.string ⟨#[]⟩] l.length).setIfInBounds m (.string s)) 9) = W8 at *
    generalize w.alloc (.cells #[.slice (some ⟨b, off, none⟩) l.length c, .int .i64 (m : Int)] 24) = wz at *
    have g6l : w.heap.size + 1 ≤ w1.heap.size := by rw [← hS]; exact hb1.size
    generalize w1.heap.size = g6 at *
    rw [hS] at HB V8
    have V9 := Lib.hid V8
    clear hb1 hx2 h0 R R6 hmk6 hS HT0 V8
    go_loopw [7] (fun kv wr => ∃ (q : Nat) (T : Nat → List UInt8), kv = .int .i64 q ∧ q < l.length ∧ Hid (upT l T0 m = upT l T q) ∧ Hid (∀ j, (T j).length ≤ 9000) ∧ wr.rowIs g6 9 l.length (fun j => .string (bs (T j))) ∧ Below (w.heap.size + 1) wz wr) (fun kv _ => (intOf kv).toNat)
    case atStart => exact ⟨m, T0, rfl, hml, rfl, LT0, r6c, V9.out⟩
    case round =>
      clear r6c V9 LT0
      obtain ⟨q, T, rfl, hql, HE, HL, r6, hV⟩ := hrel
      obtain ⟨z1, x0, hW⟩ := HB.out _ hV
      have t0 := x0.cell 0
      have t1 := x0.cell 1
      by_cases hq : q = 0
      · have hq0 : decide ((0 : Int) < (q : Int)) = false := decide_eq_false (by omega)
        have hq1 : decide (0 < q) = false := decide_eq_false (by omega)
        have hq2 : ¬ 0 < q := by omega
        have HE1 : upT l T0 m = (T, 0) := by rw [HE.out, hq, upT_zero]
        have H2 : Hid (texts l (m : Int) s.data.toList = if (dnT l m ((List.range l.length).drop 0) T).2 = 0 then ((List.range l.length).map (dnT l m ((List.range l.length).drop 0) T).1, 0) else ([], (dnT l m ((List.range l.length).drop 0) T).2)) := by
          show _ = _
          rw [H.out, HE1, if_pos rfl, List.drop_zero]
        have OR := on_root HU.out hml
        have ORH := Lib.hid OR
        clear HE HE1 H OR hq
        go_wp2
        go_loopw [11] (fun iv wr => ∃ (k : Nat) (T' : Nat → List UInt8), iv = .int .i64 k ∧ k ≤ l.length ∧ Hid (dnT l m ((List.range l.length).drop 0) T = dnT l m ((List.range l.length).drop k) T') ∧ Hid (∀ j, (T' j).length ≤ 9000) ∧ wr.rowIs g6 9 l.length (fun j => .string (bs (T' j))) ∧ Below (w.heap.size + 1) wz wr) (fun iv _ => l.length - (intOf iv).toNat)
        case atStart => exact ⟨0, T, rfl, Nat.zero_le _, rfl, HL, r6, hV⟩
        case round =>
          clear r6 hV HL t0 t1 x0 hW z1
          obtain ⟨k, T', rfl, hkl, HE, HL, r6, hV⟩ := hrel
          obtain ⟨z1, x0, hW⟩ := HB.out _ hV
          have t0 := x0.cell 0
          have t1 := x0.cell 1
          by_cases hlt : k < l.length
          · have g1 : decide ((k : Int) < (l.length : Int)) = true := decide_eq_true (by omega)
            have ONk := Lib.hid (fun u => ON.out u k)
            cases ho : on l k m with
            | true =>
              have HE2 : Hid (dnT l m ((List.range l.length).drop 0) T = dnT l m ((List.range l.length).drop (k + 1)) T') := by show _ = _; rw [HE.out, dnT_on hlt ho]
              rw [ho] at ONk
              clear HE ho
              go_wp2_with (go_at_call 47; (with_reducible refine (ONk.out _ hW).mono ?_); rintro e w3 ⟨rfl, hb3⟩)
              go_roundw
              case rel => exact ⟨k + 1, T', by go_num, by omega, HE2, HL, r6.of_block (hb3.block _ r6.lt), hV.trans (hb3.mono z1)⟩
              case measure => simp [intOf] <;> omega
            | false =>
              have hk0 : 0 < k := by
                rcases Nat.eq_zero_or_pos k with h | h
                · subst h; rw [ORH.out] at ho; cases ho
                · exact h
              obtain ⟨y, hy⟩ : ∃ y, l[k]? = some y := ⟨_, List.getElem?_eq_getElem hlt⟩
              have ha := HU.out.abv_lt hk0 hlt
              have CX : Hid (∀ u, Below w.heap.size w u → u.cell? ⟨b, off + k * 7, none⟩ = some (.int .i64 (abv l k : Nat)) ∧ u.cell? ⟨b, off + k * 7 + 4, none⟩ = some (.int .i64 y.at_) ∧ u.cell? ⟨b, off + k * 7 + 5, none⟩ = some (.string y.old) ∧ u.cell? ⟨b, off + k * 7 + 6, none⟩ = some (.string y.new)) := fun u hu => by
                obtain ⟨c0, _, _, _, c4, c5, c6⟩ := CE.out u _ hu (Nat.le_refl _) _ _ hy
                rw [HU.out.abv_up hy hk0] at c0
                exact ⟨c0, c4, c5, c6⟩
              have hxs := HS.out y (List.mem_of_getElem? hy)
              rw [ho] at ONk
              obtain ⟨U, e, hr⟩ : ∃ U e, does [made y] (T' (abv l k)) = (U, e) := ⟨_, _, rfl⟩
              have DO : Hid (∀ (u : World) (A : Option Addr) (c : Nat), Cgs u A [⟨y.at_, y.old, y.new⟩] → Calls Try.prog 50 #[.string (bs (T' (abv l k))), .slice A 1 c] u fun e' w' => e' = .returned (.tuple #[.string (bs U), .int .i64 e]) ∧ Below u.heap.size u w') := fun u A c h => by
                have := ref_do_one (bs (T' (abv l k))) (made y) A c u h (by rw [bs_size]; have := HL.out (abv l k); omega) (by show y.old.size + y.new.size ≤ _; omega)
                rw [bs_toList, hr] at this
                exact this
              have hul : abv l k < l.length := by omega
              have hui : ((abv l k : Nat) : Int) < (l.length : Int) := by omega
              have hki : (k : Int) < (l.length : Int) := by omega
              have C1 : Hid (∀ u : World, Cgs (u.alloc (.cells #[.int .i64 y.at_, .string y.old, .string y.new] 26)).drew (some ⟨u.heap.size, 0, none⟩) [⟨y.at_, y.old, y.new⟩]) := fun u => cgs_one u ⟨y.at_, y.old, y.new⟩ 26
              have C2 : Hid (∀ u : World, Cgs (u.alloc (.cells #[.int .i64 y.at_, .string y.old, .string y.new] 26)) (some ⟨u.heap.size, 0, none⟩) [⟨y.at_, y.old, y.new⟩]) := fun u => cgs_one u ⟨y.at_, y.old, y.new⟩ 26
              have P : Hid (∀ u, Below wr.heap.size wr u → u.cell? ⟨w.heap.size, 0, none⟩ = some (.slice (some ⟨b, off, none⟩) l.length c) ∧ u.cell? ⟨g6, abv l k, none⟩ = some (.string (bs (T' (abv l k)))) ∧ u.cell? ⟨b, off + k * 7, none⟩ = some (.int .i64 (abv l k : Nat)) ∧ u.cell? ⟨b, off + k * 7 + 4, none⟩ = some (.int .i64 y.at_) ∧ u.cell? ⟨b, off + k * 7 + 5, none⟩ = some (.string y.old) ∧ u.cell? ⟨b, off + k * 7 + 6, none⟩ = some (.string y.new)) := fun u hu => by
                obtain ⟨_, y0, yW⟩ := HB.out _ (hV.trans (hu.mono z1))
                obtain ⟨d0, d4, d5, d6⟩ := CX.out _ yW
                exact ⟨y0.cell 0, (r6.of_block (hu.block _ r6.lt)).cell hul, d0, d4, d5, d6⟩
              have HYX := Lib.hid hy
              have HOF := Lib.hid ho
              have hbl := Nat.lt_of_lt_of_le hbw hW.size
              clear hy ho CX x0
              generalize hu' : abv l k = v at *
              have HV := Lib.hid hu'
              clear hu'
              go_wp2_with (go_at_call 47; (with_reducible refine (ONk.out _ hW).mono ?_); rintro e w3 ⟨rfl, hb3⟩; have V3 := hb3; obtain ⟨s0, s1, s2, s3, s4, s5⟩ := P.out _ V3; have hbl3 := Nat.lt_of_lt_of_le hbl hb3.size)
              have V : Below wr.heap.size wr w3.drew := V3.trans ((below_gb (gb_drew w3 none)).mono V3.size)
              go_region_held3 (fun u => u.cell? ⟨w.heap.size, 0, none⟩ = some (.slice (some ⟨b, off, none⟩) l.length c) ∧ u.cell? ⟨g6, v, none⟩ = some (.string (bs (T' v))) ∧ u.cell? ⟨b, off + k * 7, none⟩ = some (.int .i64 (v : Nat)) ∧ u.cell? ⟨b, off + k * 7 + 4, none⟩ = some (.int .i64 y.at_) ∧ u.cell? ⟨b, off + k * 7 + 5, none⟩ = some (.string y.old) ∧ u.cell? ⟨b, off + k * 7 + 6, none⟩ = some (.string y.new))
                (first | exact ⟨by assumption, by assumption, by assumption, by assumption, by assumption, by assumption⟩ | go_keep)
                (first
                  | (go_at_call 50; (with_reducible refine (DO.out _ _ _ (C1.out _)).mono ?_); rintro e2 w5 ⟨rfl, hb5⟩; replace V := (V3.trans ((al (Below.refl _ w3) (.cells #[.int .i64 y.at_, .string y.old, .string y.new] 26)).drew.mono V3.size)).trans (hb5.mono (Nat.le_trans V3.size (al (Below.refl _ w3) (.cells #[.int .i64 y.at_, .string y.old, .string y.new] 26)).size)); obtain ⟨x0, x1, x2, x3, x4, x5⟩ := P.out _ V)
                  | (go_at_call 50; (with_reducible refine (DO.out _ _ _ (C2.out _)).mono ?_); rintro e2 w5 ⟨rfl, hb5⟩; replace V := V.trans ((al (Below.refl _ w3) (.cells #[.int .i64 y.at_, .string y.old, .string y.new] 26)).mono V.size); replace V := V.trans (hb5.mono V.size); obtain ⟨x0, x1, x2, x3, x4, x5⟩ := P.out _ V))
              have V5 := hV.trans (V.mono z1)
              obtain ⟨z5, _, yW⟩ := HB.out _ V5
              by_cases he : e = 0
              · subst he
                have r6b := r6.of_block (V.block _ r6.lt)
                have k6 := r6b.cell hlt
                have f6 := r6b.frozen k
                have HE2 : Hid (dnT l m ((List.range l.length).drop 0) T = dnT l m ((List.range l.length).drop (k + 1)) (upd T' k U)) := by show _ = _; rw [HE.out, dnT_ok HYX.out HOF.out (by rw [HV.out, hr]), HV.out, hr]
                have hU4 : U.length ≤ 4096 := by have := does_len (made y) (T' v); rw [hr] at this; exact this
                have HL2 : Hid (∀ j, (upd T' k U j).length ≤ 9000) := fun j => by
                  show (if j = k then U else T' j).length ≤ 9000
                  split
                  · omega
                  · exact HL.out j
                have r6d := Lib.hid ((r6b.set k (.string (bs U))).congr (g := fun j => .string (bs (upd T' k U j))) (fun j _ => by
                  show (if j = k then Value.string (bs U) else Value.string (bs (T' j))) = Value.string (bs (if j = k then U else T' j))
                  split <;> rfl))
                have V7 := Lib.hid (V5.setCell (p := ⟨g6, k, none⟩) g6l (.string (bs U)))
                clear r6b hr HE HL r6
                go_wp2
                go_roundw
                case rel => exact ⟨k + 1, upd T' k U, by go_num, by omega, HE2, HL2, r6d.out, V7.out⟩
                case measure => simp [intOf] <;> omega
              · have D1 : dnT l m ((List.range l.length).drop 0) T = (T', e) := by rw [HE.out, dnT_bad HYX.out HOF.out (by rw [HV.out, hr]; exact he), HV.out, hr]
                have H3 : Hid (texts l (m : Int) s.data.toList = ([], e)) := by show _ = _; rw [H2.out, D1, if_neg he]
                have he0 : (e == 0) = false := by rw [beq_eq_false_iff_ne]; exact he
                clear hr D1
                go_wp2
                go_ret2
                rw [H3.out]
                exact textsIs_nil yW
          · obtain rfl : k = l.length := by omega
            have g1 : decide ((l.length : Int) < (l.length : Int)) = false := decide_eq_false (by omega)
            have H3 : Hid (texts l (m : Int) s.data.toList = ((List.range l.length).map T', 0)) := by show _ = _; rw [H2.out, HE.out, dnT_end (Nat.le_refl _), if_pos rfl]
            go_wp2
            go_ret2
            rw [H3.out]
            exact textsIs_row r6 hW
      · obtain ⟨x, hx0⟩ : ∃ x, l[q]? = some x := ⟨_, List.getElem?_eq_getElem hql⟩
        have hxs := HS.out x (List.mem_of_getElem? hx0)
        have ha := HU.out.abv_lt (k := q) (by omega) hql
        have CX : Hid (∀ u, Below w.heap.size w u → u.cell? ⟨b, off + q * 7, none⟩ = some (.int .i64 (abv l q : Nat)) ∧ u.cell? ⟨b, off + q * 7 + 4, none⟩ = some (.int .i64 x.at_) ∧ u.cell? ⟨b, off + q * 7 + 5, none⟩ = some (.string x.old) ∧ u.cell? ⟨b, off + q * 7 + 6, none⟩ = some (.string x.new)) := fun u hu => by
          obtain ⟨c0, _, _, _, c4, c5, c6⟩ := CE.out u _ hu (Nat.le_refl _) _ _ hx0
          rw [HU.out.abv_up hx0 (by omega)] at c0
          exact ⟨c0, c4, c5, c6⟩
        have hq0 : decide ((0 : Int) < (q : Int)) = true := decide_eq_true (by omega)
        have hq1 : 0 < q := by omega
        have hqi : (q : Int) < (l.length : Int) := by omega
        obtain ⟨U, e, hr⟩ : ∃ U e, does [turned x] (T q) = (U, e) := ⟨_, _, rfl⟩
        have DO : Hid (∀ (u : World) (A : Option Addr) (c : Nat), Cgs u A [⟨x.at_, x.new, x.old⟩] → Calls Try.prog 50 #[.string (bs (T q)), .slice A 1 c] u fun e' w' => e' = .returned (.tuple #[.string (bs U), .int .i64 e]) ∧ Below u.heap.size u w') := fun u A c h => by
          have := ref_do_one (bs (T q)) (turned x) A c u h (by rw [bs_size]; have := HL.out q; omega) (by show x.new.size + x.old.size ≤ _; omega)
          rw [bs_toList, hr] at this
          exact this
        have C1 : Hid (∀ u : World, Cgs (u.alloc (.cells #[.int .i64 x.at_, .string x.new, .string x.old] 26)).drew (some ⟨u.heap.size, 0, none⟩) [⟨x.at_, x.new, x.old⟩]) := fun u => cgs_one u ⟨x.at_, x.new, x.old⟩ 26
        have hxq := Lib.hid hx0
        have B1 := Blk.new wr 26 #[.int .i64 x.at_, .string x.old, .string x.new]
        have W1 := al (Below.refl _ wr) (.cells #[.int .i64 x.at_, .string x.old, .string x.new] 26)
        have V1 := hV.trans (W1.mono z1)
        have r6a := r6.alloc (.cells #[.int .i64 x.at_, .string x.old, .string x.new] 26)
        obtain ⟨d0, d4, d5, d6⟩ := CX.out _ hW
        have hbl := Nat.lt_of_lt_of_le hbw hW.size
        have P : Hid (∀ u, Below (wr.alloc (.cells #[.int .i64 x.at_, .string x.old, .string x.new] 26)).heap.size (wr.alloc (.cells #[.int .i64 x.at_, .string x.old, .string x.new] 26)) u → u.cell? ⟨g6, q, none⟩ = some (.string (bs (T q))) ∧ u.cell? ⟨wr.heap.size, 0, none⟩ = some (.int .i64 x.at_) ∧ u.cell? ⟨wr.heap.size, 1, none⟩ = some (.string x.old) ∧ u.cell? ⟨wr.heap.size, 2, none⟩ = some (.string x.new)) := fun u hu => by
          have B2 := B1.below hu B1.lt
          exact ⟨(r6a.of_block (hu.block _ r6a.lt)).cell hql, B2.cell 0, B2.cell 1, B2.cell 2⟩
        obtain ⟨s0, s1, s2, s3⟩ := P.out _ (Below.refl _ _)
        clear hx0 x0 r6 B1
        go_wp2
        generalize wr.alloc (.cells #[.int .i64 x.at_, .string x.old, .string x.new] 26) = W2 at *
        have V : Below W2.heap.size W2 W2.drew := (Below.refl _ _).drew
        go_region_held3 (fun u => u.cell? ⟨g6, q, none⟩ = some (.string (bs (T q))) ∧ u.cell? ⟨wr.heap.size, 0, none⟩ = some (.int .i64 x.at_) ∧ u.cell? ⟨wr.heap.size, 1, none⟩ = some (.string x.old) ∧ u.cell? ⟨wr.heap.size, 2, none⟩ = some (.string x.new))
          (first | exact ⟨by assumption, by assumption, by assumption, by assumption⟩ | go_keep)
          (first
            | (go_at_call 50; (with_reducible refine (DO.out _ _ _ (C1.out _)).mono ?_); rintro e2 w5 ⟨rfl, hb5⟩; replace V := ((al (Below.refl _ W2) (.cells #[.int .i64 x.at_, .string x.new, .string x.old] 26)).drew).trans (hb5.mono (al (Below.refl _ W2) (.cells #[.int .i64 x.at_, .string x.new, .string x.old] 26)).size); obtain ⟨a0, a1, a2, a3⟩ := P.out _ V))
        have V6 := V1.trans (V.mono (Nat.le_trans z1 W1.size))
        obtain ⟨_, y0, yW⟩ := HB.out _ V6
        by_cases he : e = 0
        · subst he
          have hul : abv l q < l.length := by omega
          have hui : ((abv l q : Nat) : Int) < (l.length : Int) := by omega
          have r6b := r6a.of_block (V.block _ r6a.lt)
          have k6 := r6b.cell hul
          have f6 := r6b.frozen (abv l q)
          have D5 := (CX.out _ yW).1
          have HE2 : Hid (upT l T0 m = upT l (upd T (abv l q) U) (abv l q)) := by show _ = _; rw [HE.out, upT_ok hxq.out (by omega) ha (by rw [hr]), hr]
          have hU4 : U.length ≤ 4096 := by have := does_len (turned x) (T q); rw [hr] at this; exact this
          have HL2 : Hid (∀ j, (upd T (abv l q) U j).length ≤ 9000) := fun j => by
            show (if j = abv l q then U else T j).length ≤ 9000
            split
            · omega
            · exact HL.out j
          have r6d := Lib.hid ((r6b.set (abv l q) (.string (bs U))).congr (g := fun j => .string (bs (upd T (abv l q) U j))) (fun j _ => by
            show (if j = abv l q then Value.string (bs U) else Value.string (bs (T j))) = Value.string (bs (if j = abv l q then U else T j))
            split <;> rfl))
          have V7 := Lib.hid (V6.setCell (p := ⟨g6, abv l q, none⟩) g6l (.string (bs U)))
          obtain ⟨_, y7, yW7⟩ := HB.out _ V7.out
          have s7 := y7.cell 0
          have D7 := (CX.out _ yW7).1
          have t5 := y0.cell 0
          have hbl5 := Nat.lt_of_lt_of_le hbw yW.size
          have hbl7 := Nat.lt_of_lt_of_le hbw yW7.size
          clear r6a r6b hr HE HL hxq d0 d4 d5 d6 y0 y7 t0 t1 a0 a1 a2 a3 s0 s1 s2 s3 hb5 DO C1 P
          generalize abv l q = v at *
          go_wp2
          go_roundw
          case rel => exact ⟨v, upd T v U, rfl, by omega, HE2, HL2, r6d.out, V7.out⟩
          case measure => simp [intOf] <;> omega
        · have U1 : upT l T0 m = (T, e) := by rw [HE.out, upT_bad hxq.out (by omega) ha (by rw [hr]; exact he), hr]
          have H2 : Hid (texts l (m : Int) s.data.toList = ([], e)) := by show _ = _; rw [H.out, U1, if_neg he]
          have he0 : (e == 0) = false := by rw [beq_eq_false_iff_ne]; exact he
          clear hr U1
          go_wp2
          go_ret2
          rw [H2.out]
          exact textsIs_nil yW
  · rw [decide_eq_false hR] at R
    have H : Hid (texts l cur s.data.toList = ([], 1)) := by show _ = _; rw [texts, if_pos hR]
    clear hx hR hs
    go_enter Try.func32, Try.ntmps32
    go_wp2_with (go_at_call 13; (with_reducible refine (R.out _ hx2.out).mono ?_); rintro e w1 ⟨rfl, hb1⟩; obtain ⟨z1, y0, y1⟩ := HB.out _ hb1; have t0 := y0.cell 0; have t1 := y0.cell 1)
    go_ret2
    rw [H.out]
    exact textsIs_nil y1
end Go.Proofs.Ytffihchkmcddeaa
