/-
  Package sub: the changes that put a text in the place of another one, line by line (strings.Split, strings.SplitN).
-/
import Derived.Test.YtlfhfpjffdaomaaDoorSubRows
import Derived.Test.YtlfhfpjffdaomaaDoorSubAdd
import Derived.Test.YtlfhfpjffdaomaaDoorSplit
import Derived.Shelf.Strings.Split
namespace Go.Proofs.YtlfhfpjffdaomaaDoor
open Go.RowKit Go.Shelf
open Gl Btc
/-- Pieces of a line, as a call that has just laid them answers them. -/
def SplitIs (Q : List (List UInt8)) (w : World) (e : Ending) (w' : World) : Prop := ∃ n, Q.length ≤ n ∧ e = .returned (.slice (some ⟨w.heap.size, 0, none⟩) Q.length n) ∧ w' = w.alloc (.cells (Lib.cellsOf (Q.map bs) n) 9)
theorem splitB_ps {p : ByteArray} (h0 : p.data.toList ≠ []) (k : Nat) (x : List UInt8) : Lib.splitB p 0 k (bs x) = (Sb.ps p.data.toList 0 k x).map bs := by
  have h := Lib.splitB_data p 0 k (bs x)
  rw [bs_toList, Sb.split_ps h0] at h
  rw [← h, List.map_map]
  conv => lhs; rw [← List.map_id (Lib.splitB p 0 k (bs x))]
  exact List.map_congr_left fun y _ => (bs_data y).symm
set_option maxHeartbeats 1000000 in
theorem str_splitn_two {w : World} (hm : MaxAt w) (x : List UInt8) (p : ByteArray) (hx : x.length < 4294967281) (h0 : p.data.toList ≠ []) :
    Calls Tryd.prog 38 #[.string (bs x), .string p, .int .i64 2] w (SplitIs (Sb.ps p.data.toList 0 1 x) w) := by
  obtain ⟨m, hm⟩ := hm
  have hp1 : 1 ≤ p.size := by rw [← data_len]; exact List.length_pos_iff.2 h0
  have C := Any.strings_genSplit { Tryd.lays147 with } (by kernel_rfl) (bs x) p 0 2 (min 2 (x.length + 1)) m w (by rw [bs_size]; exact hx) hm hp1 (Nat.zero_le _) (by decide) (by decide) (by rw [if_neg (by decide), bs_size]; omega)
  have hq : Lib.splitB p 0 (min 2 (x.length + 1) - 1) (bs x) = (Sb.ps p.data.toList 0 1 x).map bs := by
    rw [splitB_ps h0]
    by_cases hx0 : x = []
    · subst hx0; rfl
    · have : 0 < x.length := List.length_pos_iff.2 hx0
      rw [show min 2 (x.length + 1) - 1 = 1 by omega]
  have hl := (Sb.ps_few h0 1 x)
  have hpos := List.length_pos_iff.2 (Sb.ps_ne p.data.toList 0 1 x)
  rw [hq, List.length_map] at C
  have C1 := Lib.hid C
  have HN : Hid ((Sb.ps p.data.toList 0 1 x).length ≤ min 2 (x.length + 1)) := by show _ ≤ _; omega
  clear C hq hl hpos
  generalize Sb.ps p.data.toList 0 1 x = Q at *
  generalize min 2 (x.length + 1) = n at *
  go_enter Tryd.func38, Tryd.ntmps38
  go_wp2_with (go_at_call 52; refine C1.out.mono ?_; rintro e w1 ⟨rfl, rfl⟩)
  go_ret
  exact ⟨n, HN.out, rfl, rfl⟩
set_option maxHeartbeats 1000000 in
theorem str_splitn_all {w : World} (hm : MaxAt w) (x : List UInt8) (p : ByteArray) (hx : x.length < 4294967281) (h0 : p.data.toList ≠ []) {M : Nat} (hM : x.length ≤ M) :
    Calls Tryd.prog 38 #[.string (bs x), .string p, .int .i64 (-1)] w (SplitIs (Sb.ps p.data.toList 0 M x) w) := by
  obtain ⟨m, hm⟩ := hm
  have hp1 : 1 ≤ p.size := by rw [← data_len]; exact List.length_pos_iff.2 h0
  have hc : Lib.countB (bs x) p = (Sb.ps p.data.toList 0 M x).length - 1 := by
    show Lib.count (bs x).data.toList p.data.toList = _
    rw [bs_toList]; exact Sb.count_ps h0 M x hM
  have hl := (Sb.ps_few h0 M x)
  have hpos := List.length_pos_iff.2 (Sb.ps_ne p.data.toList 0 M x)
  have C := Any.strings_genSplit { Tryd.lays147 with } (by kernel_rfl) (bs x) p 0 (-1) (Sb.ps p.data.toList 0 M x).length m w (by rw [bs_size]; exact hx) hm hp1 (Nat.zero_le _) (by decide) (by decide) (by rw [if_pos (by decide), bs_size, hc]; omega)
  have hq : Lib.splitB p 0 ((Sb.ps p.data.toList 0 M x).length - 1) (bs x) = (Sb.ps p.data.toList 0 M x).map bs := by
    rw [splitB_ps h0, Sb.ps_exact h0]
  rw [hq, List.length_map] at C
  have C1 := Lib.hid C
  clear C hq hl hpos hc
  generalize Sb.ps p.data.toList 0 M x = Q at *
  go_enter Tryd.func38, Tryd.ntmps38
  go_wp2_with (go_at_call 52; refine C1.out.mono ?_; rintro e w1 ⟨rfl, rfl⟩)
  go_ret
  exact ⟨_, Nat.le_refl _, rfl, rfl⟩
theorem cells_of {Q : List (List UInt8)} {n u : Nat} {b : List UInt8} (h : Q[u]? = some b) : (Lib.cellsOf (Q.map bs) n)[u]? = some (.string (bs b)) := by
  have hl := (List.getElem?_eq_some_iff.1 h).1
  unfold Lib.cellsOf
  rw [List.getElem?_toArray, List.getElem?_append_left (by simpa using hl)]
  simp [h]
/-- The changes that are laid, as a call answers them. -/
def SwapsIs (s : List UInt8) (p r : ByteArray) (m i j : Nat) (w : World) (e : Ending) (w' : World) : Prop :=
  ∃ (ks : List Cg) (A : Option Addr) (c : Nat), e = .returned (.slice A ks.length c) ∧ Cgs w' A ks ∧ Below w.heap.size w w' ∧ Sb.Good s p r m i j ks
set_option maxHeartbeats 4000000 in
set_option maxRecDepth 100000 in
theorem sub_swaps_two (s p r : ByteArray) {i j : Nat} {x y : Nat × Nat} (hij : i ≤ j) (hx : (Line.L s.data.toList)[i]? = some x) (hy : (Line.L s.data.toList)[j]? = some y) (hs : s.size ≤ 100000) (h0 : p.data.toList ≠ []) (hp : Utf.valid p.data.toList = true) (hr : Utf.valid r.data.toList = true) {w : World} (hm : MaxAt w) :
    Calls Tryd.prog 21 #[.string s, .agg #[.int .i64 x.1, .int .i64 y.2, .bool true], .string p, .string r, .bool false] w (SwapsIs s.data.toList p r 1 i j w) := by
  have hp1 : 1 ≤ p.size := by rw [← data_len]; exact List.length_pos_iff.2 h0
  have ht := Line.L_valid hx
  have TG := Sb.there_glue hij hx hy
  have e1 := TG.1
  have e2 := TG.2.1
  have e3 := TG.2.2.1
  have hne := TG.2.2.2.1
  clear TG
  have hjl : j < (Ix.parts s.data.toList).length := by rw [← L_len ht]; exact (List.getElem?_eq_some_iff.1 hy).1
  have hC0 := Lib.hid (Sb.Cur.start p r 1 hij hx hy)
  have hxy := (Line.L_each hx).1
  have hxm := (Line.L_each hx).2
  rw [data_len] at e3 hxm
  have hfree : ∀ z ∈ Sb.mids i j (Ix.parts s.data.toList), Free z := fun z hz => parts_free s.data.toList z (List.mem_of_mem_drop (List.mem_of_mem_take hz))
  have HB : Hid (∀ (q : Nat) z, (Sb.mids i j (Ix.parts s.data.toList))[q]? = some z → z.length ≤ s.size) := fun q z hz => by
    rw [← data_len]; exact Sb.row_len (List.mem_of_mem_drop (List.mem_of_mem_take (List.mem_of_getElem? hz)))
  have SP := fun w => str_split (bs (glue (Sb.mids i j (Ix.parts s.data.toList)))) (by rw [bs_size]; omega) w
  rw [bs_toList, parts_glue hne hfree] at SP
  have X1 := ext_seg s x.1 y.2
  rw [e1] at X1
  have hRl := Sb.mids_length hij hjl
  have hpl : (Ix.parts s.data.toList).length ≤ s.size + 1 := by
    have := Line.L_length s.data.toList
    rw [data_len] at this
    rw [← L_len ht]; exact this
  obtain ⟨Mr, hMr⟩ : ∃ Mr, (Sb.mids i j (Ix.parts s.data.toList)).length = Mr := ⟨_, rfl⟩
  have hMrl : Mr ≤ 100001 := by omega
  have HM := Lib.hid hMr
  have SN : Hid (∀ u, MaxAt u → ∀ z, z.length ≤ s.size → Calls Tryd.prog 38 #[.string (bs z), .string p, .int .i64 2] u (SplitIs (Sb.ps p.data.toList 0 1 z) u)) := fun u hu z hz => str_splitn_two hu z p (by omega) h0
  have hCS : Hid (∀ (q : Nat) X, (Sb.mids i j (Ix.parts s.data.toList))[q]? = some X → ((Sb.mids i j (Ix.parts s.data.toList)).map (Value.string ∘ bs)).toArray[q]? = some (.string (bs X))) := fun q X h => by
    rw [List.getElem?_toArray, List.getElem?_map, h]; rfl
  have HV := Lib.hid (And.intro ht (And.intro hp hr))
  have HJ := Lib.hid (And.intro hij hjl)
  have b0 := Blk.new w 32 #[.int .i64 x.1, .int .i64 y.2, .bool true]
  have q0 : (w.alloc (.cells #[.int .i64 x.1, .int .i64 y.2, .bool true] 32)).cell? ⟨w.heap.size, 0, none⟩ = some (.int .i64 x.1) := b0.cell 0
  have q1 : (w.alloc (.cells #[.int .i64 x.1, .int .i64 y.2, .bool true] 32)).cell? ⟨w.heap.size, 1, none⟩ = some (.int .i64 y.2) := b0.cell 1
  have hX := (Below.refl w.heap.size w).alloc (Nat.le_refl _) (.cells #[.int .i64 x.1, .int .i64 y.2, .bool true] 32)
  have i1 : (x.1 : Int) ≤ (y.2 : Int) := by omega
  have i2 : (y.2 : Int) ≤ (s.size : Int) := by omega
  have ha0 : x.1 ≤ s.size := by omega
  rw [hMr] at SP
  have SP2 := Lib.hid SP
  clear hx hy e1 e2 e3 hne hfree SP hRl hpl hMr ht hp hr hij hjl hxy hxm
  generalize x.1 = a at *
  generalize y.2 = b at *
  go_enter Tryd.func21, Tryd.ntmps21
  go_wp2_with (first
    | (go_at_call 37; (with_reducible refine (SP2.out _).mono ?_); rintro e w3 ⟨rfl, rfl⟩))
  have hB := Blk.new (w.alloc (.cells #[.int .i64 a, .int .i64 b, .bool true] 32)) 9 ((Sb.mids i j (Ix.parts s.data.toList)).map (Value.string ∘ bs)).toArray
  replace hX := hX.alloc hX.size (.cells ((Sb.mids i j (Ix.parts s.data.toList)).map (Value.string ∘ bs)).toArray 9)
  rw [World.size_alloc] at hB
  generalize ((Sb.mids i j (Ix.parts s.data.toList)).map (Value.string ∘ bs)).toArray = CS at *
  generalize hRB : w.heap.size + 1 = RB at *
  clear q0 q1 b0 SP2 i1 i2 X1
  go_loopw [12, 13, 31] (fun lv av iv wr => ∃ (q n f : Nat) (A' : Option Addr) (c' : Nat) (ks : List Cg) (z : Int), av = .int .i64 f ∧ lv = .slice A' n c' ∧ iv = .int .i64 q ∧ q ≤ Mr ∧ f ≤ s.size + 1 ∧ n ≤ s.size ∧ Hid (ks.length = n) ∧ Hid (Sb.Cur s.data.toList p r 1 i j q f ks z) ∧ wr.ownsRow w.heap.size 48 3 lv n (rows ks) ∧ Blk wr RB 9 CS ∧ Below w.heap.size w wr) (fun _ _ iv _ => Mr - (intOf iv).toNat)
  case atStart => exact ⟨0, 0, a, none, 0, [], -1, rfl, rfl, rfl, Nat.zero_le _, by omega, Nat.zero_le _, rfl, hC0, World.ownsRow_nil _ _ _ _, hB, hX⟩
  case round =>
    clear hB hX hC0
    obtain ⟨q, n, f, A', c', ks, z, rfl, rfl, rfl, hqm, hfs, hns, hkn, hC, hown, hB, hW⟩ := hrel
    by_cases hlt : q < Mr
    · obtain ⟨X, hX⟩ : ∃ X, (Sb.mids i j (Ix.parts s.data.toList))[q]? = some X := ⟨_, List.getElem?_eq_getElem (by have := HM.out; omega)⟩
      have c0 : wr.cell? ⟨RB, q, none⟩ = some (.string (bs X)) := by rw [hB.cell]; exact hCS.out q X hX
      have hXl := HB.out q X hX
      have hR0 := Lib.hid (hC.out.row hX hp1)
      have HX := Lib.hid hX
      have hlt2 : (q : Int) < (Mr : Int) := by omega
      have hpos := List.length_pos_iff.2 (Sb.ps_ne p.data.toList 0 1 X)
      have hfew := (Sb.ps_few h0 1 X).1
      have S1 := Lib.hid (SN.out wr (hm.below hW) X hXl)
      obtain ⟨L, hL⟩ : ∃ L, (Sb.ps p.data.toList 0 1 X).length = L + 1 := ⟨(Sb.ps p.data.toList 0 1 X).length - 1, by omega⟩
      have S2 : Hid (Calls Tryd.prog 38 #[.string (bs X), .string p, .int .i64 2] wr fun e w' => ∃ N, L + 1 ≤ N ∧ e = .returned (.slice (some ⟨wr.heap.size, 0, none⟩) (L + 1) N) ∧ w' = wr.alloc (.cells (Lib.cellsOf ((Sb.ps p.data.toList 0 1 X).map bs) N) 9)) := S1.out.mono (by
        rintro e w' ⟨N, h1, h2, h3⟩
        rw [hL] at h1 h2
        exact ⟨N, h1, h2, h3⟩)
      have HL := Lib.hid hL
      have hL2 : L ≤ 100000 := by omega
      have w1 : IntKind.i64.wrap (L : Int) = (L : Int) := sub_wrap (by omega) (by omega)
      clear hX hC hpos hfew S1 hL hXl
      go_wp2_with (first
        | (go_at_call 38; (with_reducible refine S2.out.mono ?_); rintro e w3 ⟨N, hN, rfl, rfl⟩; have iN : (L : Int) ≤ (N : Int) := (by omega)))
      have hP := Blk.new wr 9 (Lib.cellsOf ((Sb.ps p.data.toList 0 1 X).map bs) N)
      have hB2 := hB.alloc (.cells (Lib.cellsOf ((Sb.ps p.data.toList 0 1 X).map bs) N) 9)
      have hown2 := hown.alloc (.cells (Lib.cellsOf ((Sb.ps p.data.toList 0 1 X).map bs) N) 9)
      have hW2 := hW.alloc hW.size (.cells (Lib.cellsOf ((Sb.ps p.data.toList 0 1 X).map bs) N) 9)
      have HP : Hid (∀ (u : Nat) b, (Sb.ps p.data.toList 0 1 X)[u]? = some b → (Lib.cellsOf ((Sb.ps p.data.toList 0 1 X).map bs) N)[u]? = some (.string (bs b))) := fun u b h => cells_of h
      generalize Lib.cellsOf ((Sb.ps p.data.toList 0 1 X).map bs) N = CP at *
      generalize hPB : wr.heap.size = PB at *
      clear hB hown hW S2 hPB
      go_loopw [12, 13, 46] (fun lv av iv wq => ∃ (u n' g : Nat) (A'' : Option Addr) (c'' : Nat) (ks' : List Cg), av = .int .i64 g ∧ lv = .slice A'' n' c'' ∧ iv = .int .i64 u ∧ u ≤ L ∧ g ≤ s.size ∧ n' ≤ s.size ∧ Hid (ks'.length = n') ∧ Hid (Sb.Row s.data.toList p r 1 i j q X f z u g ks') ∧ wq.ownsRow w.heap.size 48 3 lv n' (rows ks') ∧ Blk wq RB 9 CS ∧ Blk wq PB 9 CP ∧ Below w.heap.size w wq) (fun _ _ iv _ => L - (intOf iv).toNat)
      case atStart => exact ⟨0, n, f, A', c', ks, rfl, rfl, rfl, Nat.zero_le _, (by have := hR0.out.get.2.2; rw [data_len] at this; exact this), hns, hkn, hR0, hown2, hB2, hP, hW2⟩
      case round =>
        obtain ⟨u, n', g, A'', c'', ks', rfl, rfl, rfl, huL, hgs, hns', hkn', hR, hown', hB', hP', hW'⟩ := hrel
        clear hP hB2 hown2 hW2 hR0
        by_cases hul : u < L
        · obtain ⟨b', hb'⟩ : ∃ b', (Sb.ps p.data.toList 0 1 X)[u]? = some b' := ⟨_, List.getElem?_eq_getElem (by have := HL.out; omega)⟩
          have c1 : wr.cell? ⟨PB, u, none⟩ = some (.string (bs b')) := by rw [hP'.cell]; exact HP.out u b' hb'
          obtain ⟨hroom, hin, hR2⟩ := hR.out.step hb' (by have := HL.out; omega) HV.out.1 HV.out.2.1 HV.out.2.2 hp1
          rw [data_len] at hroom
          have hR3 := Lib.hid hR2
          have hlen := (Sb.addC_length s.data.toList ks' (g + b'.length) p r).1
          have hks2 := hR2.get.2.1
          rw [data_len] at hks2
          have AD := sub_add s p r (c := c'') (f := g + b'.length) hkn'.out (by omega) hown' hW'.size hin hroom (by omega)
          obtain ⟨bl, hbl⟩ : ∃ bl, b'.length = bl := ⟨_, rfl⟩
          have hsz : (bs b').size = bl := by rw [bs_size, hbl]
          have hne1 := own_blk_ne hown' hB' (by decide)
          have hne2 := own_blk_ne hown' hP' (by decide)
          rw [hbl] at AD hroom hR3 hlen hks2
          rw [Int.natCast_add] at AD
          have A1 := Lib.hid AD
          have HK : Hid (∃ n4, (Sb.addC s.data.toList ks' (g + bl) p r).length = n4) := ⟨_, rfl⟩
          have hul2 : (u : Int) < (L : Int) := by omega
          have w2 : IntKind.i64.wrap ((g : Int) + (bl : Int)) = (g : Int) + (bl : Int) := sub_wrap (by omega) (by omega)
          have w3 : IntKind.i64.wrap ((g : Int) + (bl : Int) + (p.size : Int)) = (g : Int) + (bl : Int) + (p.size : Int) := sub_wrap (by omega) (by omega)
          clear hR hR2 hin AD hb' hlen hbl
          go_wp2_with (first
            | (go_at_call 39; (with_reducible refine A1.out.mono ?_); rintro e w4 ⟨A4, c4, rfl, hown4, hgrow4⟩; have hB4 := hB'.grown hgrow4 (fun e => hne1 e.symm); have hP4 := hP'.grown hgrow4 (fun e => hne2 e.symm); have hW4 := hW'.grown hgrow4 hW'.size (fun j hj => (hown'.lt j hj).1)))
          go_roundw
          case rel => exact ⟨u + 1, _, g + bl + p.size, A4, c4, _, by go_num, rfl, by go_num, by omega, hroom, hks2, rfl, hR3, hown4, hB4, hP4, hW4⟩
          case measure => simp [intOf]; omega
        · obtain rfl : u = L := by omega
          obtain ⟨b', hb'⟩ : ∃ b', (Sb.ps p.data.toList 0 1 X)[u]? = some b' := ⟨_, List.getElem?_eq_getElem (by have := HL.out; omega)⟩
          have c1 : wr.cell? ⟨PB, u, none⟩ = some (.string (bs b')) := by rw [hP'.cell]; exact HP.out u b' hb'
          obtain ⟨hroom, z', hC2⟩ := hR.out.stop HX.out hb' HL.out.symm HV.out.1
          rw [data_len] at hroom
          have hC3 := Lib.hid hC2
          obtain ⟨bl, hbl⟩ : ∃ bl, b'.length = bl := ⟨_, rfl⟩
          have hsz : (bs b').size = bl := by rw [bs_size, hbl]
          rw [hbl] at hroom hC3
          have hul2 : ¬ (u : Int) < (u : Int) := by omega
          have hul3 : (u : Int) < (u : Int) + 1 := by omega
          have w2 : IntKind.i64.wrap ((bl : Int) + 1) = (bl : Int) + 1 := sub_wrap (by omega) (by omega)
          have w3 : IntKind.i64.wrap ((g : Int) + ((bl : Int) + 1)) = (g : Int) + ((bl : Int) + 1) := sub_wrap (by omega) (by omega)
          clear hR hC2 hb' hbl
          go_wp2
          go_roundw
          case rel => exact ⟨q + 1, n', g + bl + 1, A'', c'', ks', z', by go_num, rfl, by go_num, by omega, by omega, hns', hkn', hC3, hown', hB', hW'⟩
          case measure => simp [intOf]; omega
    · obtain rfl : q = Mr := by omega
      have hG := Lib.hid (hC.out.good HJ.out.1 HJ.out.2 (Nat.le_of_eq HM.out))
      have hlt2 : ¬ (q : Int) < (q : Int) := by omega
      have hkn2 := hkn.out
      clear hC HB hCS SN HV HM
      go_wp2
      go_ret
      exact ⟨ks, A', c', by rw [hkn2]; rfl, own_cgs hown hkn2, hW, hG.out⟩
set_option maxHeartbeats 4000000 in
set_option maxRecDepth 100000 in
theorem sub_swaps_all (s p r : ByteArray) {i j : Nat} {x y : Nat × Nat} (hij : i ≤ j) (hx : (Line.L s.data.toList)[i]? = some x) (hy : (Line.L s.data.toList)[j]? = some y) (hs : s.size ≤ 100000) {M : Nat} (hMs : s.size ≤ M) (h0 : p.data.toList ≠ []) (hp : Utf.valid p.data.toList = true) (hr : Utf.valid r.data.toList = true) {w : World} (hm : MaxAt w) :
    Calls Tryd.prog 21 #[.string s, .agg #[.int .i64 x.1, .int .i64 y.2, .bool true], .string p, .string r, .bool true] w (SwapsIs s.data.toList p r M i j w) := by
  have hp1 : 1 ≤ p.size := by rw [← data_len]; exact List.length_pos_iff.2 h0
  have ht := Line.L_valid hx
  have TG := Sb.there_glue hij hx hy
  have e1 := TG.1
  have e2 := TG.2.1
  have e3 := TG.2.2.1
  have hne := TG.2.2.2.1
  clear TG
  have hjl : j < (Ix.parts s.data.toList).length := by rw [← L_len ht]; exact (List.getElem?_eq_some_iff.1 hy).1
  have hC0 := Lib.hid (Sb.Cur.start p r M hij hx hy)
  have hxy := (Line.L_each hx).1
  have hxm := (Line.L_each hx).2
  rw [data_len] at e3 hxm
  have hfree : ∀ z ∈ Sb.mids i j (Ix.parts s.data.toList), Free z := fun z hz => parts_free s.data.toList z (List.mem_of_mem_drop (List.mem_of_mem_take hz))
  have HB : Hid (∀ (q : Nat) z, (Sb.mids i j (Ix.parts s.data.toList))[q]? = some z → z.length ≤ s.size) := fun q z hz => by
    rw [← data_len]; exact Sb.row_len (List.mem_of_mem_drop (List.mem_of_mem_take (List.mem_of_getElem? hz)))
  have SP := fun w => str_split (bs (glue (Sb.mids i j (Ix.parts s.data.toList)))) (by rw [bs_size]; omega) w
  rw [bs_toList, parts_glue hne hfree] at SP
  have X1 := ext_seg s x.1 y.2
  rw [e1] at X1
  have hRl := Sb.mids_length hij hjl
  have hpl : (Ix.parts s.data.toList).length ≤ s.size + 1 := by
    have := Line.L_length s.data.toList
    rw [data_len] at this
    rw [← L_len ht]; exact this
  obtain ⟨Mr, hMr⟩ : ∃ Mr, (Sb.mids i j (Ix.parts s.data.toList)).length = Mr := ⟨_, rfl⟩
  have hMrl : Mr ≤ 100001 := by omega
  have HM := Lib.hid hMr
  have SN : Hid (∀ u, MaxAt u → ∀ z, z.length ≤ s.size → Calls Tryd.prog 38 #[.string (bs z), .string p, .int .i64 (-1)] u (SplitIs (Sb.ps p.data.toList 0 M z) u)) := fun u hu z hz => str_splitn_all hu z p (by omega) h0 (Nat.le_trans hz hMs)
  have hCS : Hid (∀ (q : Nat) X, (Sb.mids i j (Ix.parts s.data.toList))[q]? = some X → ((Sb.mids i j (Ix.parts s.data.toList)).map (Value.string ∘ bs)).toArray[q]? = some (.string (bs X))) := fun q X h => by
    rw [List.getElem?_toArray, List.getElem?_map, h]; rfl
  have HV := Lib.hid (And.intro ht (And.intro hp hr))
  have HJ := Lib.hid (And.intro hij hjl)
  have b0 := Blk.new w 32 #[.int .i64 x.1, .int .i64 y.2, .bool true]
  have q0 : (w.alloc (.cells #[.int .i64 x.1, .int .i64 y.2, .bool true] 32)).cell? ⟨w.heap.size, 0, none⟩ = some (.int .i64 x.1) := b0.cell 0
  have q1 : (w.alloc (.cells #[.int .i64 x.1, .int .i64 y.2, .bool true] 32)).cell? ⟨w.heap.size, 1, none⟩ = some (.int .i64 y.2) := b0.cell 1
  have hX := (Below.refl w.heap.size w).alloc (Nat.le_refl _) (.cells #[.int .i64 x.1, .int .i64 y.2, .bool true] 32)
  have i1 : (x.1 : Int) ≤ (y.2 : Int) := by omega
  have i2 : (y.2 : Int) ≤ (s.size : Int) := by omega
  have ha0 : x.1 ≤ s.size := by omega
  rw [hMr] at SP
  have SP2 := Lib.hid SP
  clear hx hy e1 e2 e3 hne hfree SP hRl hpl hMr ht hp hr hij hjl hxy hxm
  generalize x.1 = a at *
  generalize y.2 = b at *
  go_enter Tryd.func21, Tryd.ntmps21
  go_wp2_with (first
    | (go_at_call 37; (with_reducible refine (SP2.out _).mono ?_); rintro e w3 ⟨rfl, rfl⟩))
  have hB := Blk.new (w.alloc (.cells #[.int .i64 a, .int .i64 b, .bool true] 32)) 9 ((Sb.mids i j (Ix.parts s.data.toList)).map (Value.string ∘ bs)).toArray
  replace hX := hX.alloc hX.size (.cells ((Sb.mids i j (Ix.parts s.data.toList)).map (Value.string ∘ bs)).toArray 9)
  rw [World.size_alloc] at hB
  generalize ((Sb.mids i j (Ix.parts s.data.toList)).map (Value.string ∘ bs)).toArray = CS at *
  generalize hRB : w.heap.size + 1 = RB at *
  clear q0 q1 b0 SP2 i1 i2 X1
  go_loopw [12, 13, 31] (fun lv av iv wr => ∃ (q n f : Nat) (A' : Option Addr) (c' : Nat) (ks : List Cg) (z : Int), av = .int .i64 f ∧ lv = .slice A' n c' ∧ iv = .int .i64 q ∧ q ≤ Mr ∧ f ≤ s.size + 1 ∧ n ≤ s.size ∧ Hid (ks.length = n) ∧ Hid (Sb.Cur s.data.toList p r M i j q f ks z) ∧ wr.ownsRow w.heap.size 48 3 lv n (rows ks) ∧ Blk wr RB 9 CS ∧ Below w.heap.size w wr) (fun _ _ iv _ => Mr - (intOf iv).toNat)
  case atStart => exact ⟨0, 0, a, none, 0, [], -1, rfl, rfl, rfl, Nat.zero_le _, by omega, Nat.zero_le _, rfl, hC0, World.ownsRow_nil _ _ _ _, hB, hX⟩
  case round =>
    clear hB hX hC0
    obtain ⟨q, n, f, A', c', ks, z, rfl, rfl, rfl, hqm, hfs, hns, hkn, hC, hown, hB, hW⟩ := hrel
    by_cases hlt : q < Mr
    · obtain ⟨X, hX⟩ : ∃ X, (Sb.mids i j (Ix.parts s.data.toList))[q]? = some X := ⟨_, List.getElem?_eq_getElem (by have := HM.out; omega)⟩
      have c0 : wr.cell? ⟨RB, q, none⟩ = some (.string (bs X)) := by rw [hB.cell]; exact hCS.out q X hX
      have hXl := HB.out q X hX
      have hR0 := Lib.hid (hC.out.row hX hp1)
      have HX := Lib.hid hX
      have hlt2 : (q : Int) < (Mr : Int) := by omega
      have hpos := List.length_pos_iff.2 (Sb.ps_ne p.data.toList 0 M X)
      have hfew := (Sb.ps_few h0 M X).1
      have S1 := Lib.hid (SN.out wr (hm.below hW) X hXl)
      obtain ⟨L, hL⟩ : ∃ L, (Sb.ps p.data.toList 0 M X).length = L + 1 := ⟨(Sb.ps p.data.toList 0 M X).length - 1, by omega⟩
      have S2 : Hid (Calls Tryd.prog 38 #[.string (bs X), .string p, .int .i64 (-1)] wr fun e w' => ∃ N, L + 1 ≤ N ∧ e = .returned (.slice (some ⟨wr.heap.size, 0, none⟩) (L + 1) N) ∧ w' = wr.alloc (.cells (Lib.cellsOf ((Sb.ps p.data.toList 0 M X).map bs) N) 9)) := S1.out.mono (by
        rintro e w' ⟨N, h1, h2, h3⟩
        rw [hL] at h1 h2
        exact ⟨N, h1, h2, h3⟩)
      have HL := Lib.hid hL
      have hL2 : L ≤ 100000 := by omega
      have w1 : IntKind.i64.wrap (L : Int) = (L : Int) := sub_wrap (by omega) (by omega)
      clear hX hC hpos hfew S1 hL hXl
      go_wp2_with (first
        | (go_at_call 38; (with_reducible refine S2.out.mono ?_); rintro e w3 ⟨N, hN, rfl, rfl⟩; have iN : (L : Int) ≤ (N : Int) := (by omega)))
      have hP := Blk.new wr 9 (Lib.cellsOf ((Sb.ps p.data.toList 0 M X).map bs) N)
      have hB2 := hB.alloc (.cells (Lib.cellsOf ((Sb.ps p.data.toList 0 M X).map bs) N) 9)
      have hown2 := hown.alloc (.cells (Lib.cellsOf ((Sb.ps p.data.toList 0 M X).map bs) N) 9)
      have hW2 := hW.alloc hW.size (.cells (Lib.cellsOf ((Sb.ps p.data.toList 0 M X).map bs) N) 9)
      have HP : Hid (∀ (u : Nat) b, (Sb.ps p.data.toList 0 M X)[u]? = some b → (Lib.cellsOf ((Sb.ps p.data.toList 0 M X).map bs) N)[u]? = some (.string (bs b))) := fun u b h => cells_of h
      generalize Lib.cellsOf ((Sb.ps p.data.toList 0 M X).map bs) N = CP at *
      generalize hPB : wr.heap.size = PB at *
      clear hB hown hW S2 hPB
      go_loopw [12, 13, 46] (fun lv av iv wq => ∃ (u n' g : Nat) (A'' : Option Addr) (c'' : Nat) (ks' : List Cg), av = .int .i64 g ∧ lv = .slice A'' n' c'' ∧ iv = .int .i64 u ∧ u ≤ L ∧ g ≤ s.size ∧ n' ≤ s.size ∧ Hid (ks'.length = n') ∧ Hid (Sb.Row s.data.toList p r M i j q X f z u g ks') ∧ wq.ownsRow w.heap.size 48 3 lv n' (rows ks') ∧ Blk wq RB 9 CS ∧ Blk wq PB 9 CP ∧ Below w.heap.size w wq) (fun _ _ iv _ => L - (intOf iv).toNat)
      case atStart => exact ⟨0, n, f, A', c', ks, rfl, rfl, rfl, Nat.zero_le _, (by have := hR0.out.get.2.2; rw [data_len] at this; exact this), hns, hkn, hR0, hown2, hB2, hP, hW2⟩
      case round =>
        obtain ⟨u, n', g, A'', c'', ks', rfl, rfl, rfl, huL, hgs, hns', hkn', hR, hown', hB', hP', hW'⟩ := hrel
        clear hP hB2 hown2 hW2 hR0
        by_cases hul : u < L
        · obtain ⟨b', hb'⟩ : ∃ b', (Sb.ps p.data.toList 0 M X)[u]? = some b' := ⟨_, List.getElem?_eq_getElem (by have := HL.out; omega)⟩
          have c1 : wr.cell? ⟨PB, u, none⟩ = some (.string (bs b')) := by rw [hP'.cell]; exact HP.out u b' hb'
          obtain ⟨hroom, hin, hR2⟩ := hR.out.step hb' (by have := HL.out; omega) HV.out.1 HV.out.2.1 HV.out.2.2 hp1
          rw [data_len] at hroom
          have hR3 := Lib.hid hR2
          have hlen := (Sb.addC_length s.data.toList ks' (g + b'.length) p r).1
          have hks2 := hR2.get.2.1
          rw [data_len] at hks2
          have AD := sub_add s p r (c := c'') (f := g + b'.length) hkn'.out (by omega) hown' hW'.size hin hroom (by omega)
          obtain ⟨bl, hbl⟩ : ∃ bl, b'.length = bl := ⟨_, rfl⟩
          have hsz : (bs b').size = bl := by rw [bs_size, hbl]
          have hne1 := own_blk_ne hown' hB' (by decide)
          have hne2 := own_blk_ne hown' hP' (by decide)
          rw [hbl] at AD hroom hR3 hlen hks2
          rw [Int.natCast_add] at AD
          have A1 := Lib.hid AD
          have HK : Hid (∃ n4, (Sb.addC s.data.toList ks' (g + bl) p r).length = n4) := ⟨_, rfl⟩
          have hul2 : (u : Int) < (L : Int) := by omega
          have w2 : IntKind.i64.wrap ((g : Int) + (bl : Int)) = (g : Int) + (bl : Int) := sub_wrap (by omega) (by omega)
          have w3 : IntKind.i64.wrap ((g : Int) + (bl : Int) + (p.size : Int)) = (g : Int) + (bl : Int) + (p.size : Int) := sub_wrap (by omega) (by omega)
          clear hR hR2 hin AD hb' hlen hbl
          go_wp2_with (first
            | (go_at_call 39; (with_reducible refine A1.out.mono ?_); rintro e w4 ⟨A4, c4, rfl, hown4, hgrow4⟩; have hB4 := hB'.grown hgrow4 (fun e => hne1 e.symm); have hP4 := hP'.grown hgrow4 (fun e => hne2 e.symm); have hW4 := hW'.grown hgrow4 hW'.size (fun j hj => (hown'.lt j hj).1)))
          go_roundw
          case rel => exact ⟨u + 1, _, g + bl + p.size, A4, c4, _, by go_num, rfl, by go_num, by omega, hroom, hks2, rfl, hR3, hown4, hB4, hP4, hW4⟩
          case measure => simp [intOf]; omega
        · obtain rfl : u = L := by omega
          obtain ⟨b', hb'⟩ : ∃ b', (Sb.ps p.data.toList 0 M X)[u]? = some b' := ⟨_, List.getElem?_eq_getElem (by have := HL.out; omega)⟩
          have c1 : wr.cell? ⟨PB, u, none⟩ = some (.string (bs b')) := by rw [hP'.cell]; exact HP.out u b' hb'
          obtain ⟨hroom, z', hC2⟩ := hR.out.stop HX.out hb' HL.out.symm HV.out.1
          rw [data_len] at hroom
          have hC3 := Lib.hid hC2
          obtain ⟨bl, hbl⟩ : ∃ bl, b'.length = bl := ⟨_, rfl⟩
          have hsz : (bs b').size = bl := by rw [bs_size, hbl]
          rw [hbl] at hroom hC3
          have hul2 : ¬ (u : Int) < (u : Int) := by omega
          have hul3 : (u : Int) < (u : Int) + 1 := by omega
          have w2 : IntKind.i64.wrap ((bl : Int) + 1) = (bl : Int) + 1 := sub_wrap (by omega) (by omega)
          have w3 : IntKind.i64.wrap ((g : Int) + ((bl : Int) + 1)) = (g : Int) + ((bl : Int) + 1) := sub_wrap (by omega) (by omega)
          clear hR hC2 hb' hbl
          go_wp2
          go_roundw
          case rel => exact ⟨q + 1, n', g + bl + 1, A'', c'', ks', z', by go_num, rfl, by go_num, by omega, by omega, hns', hkn', hC3, hown', hB', hW'⟩
          case measure => simp [intOf]; omega
    · obtain rfl : q = Mr := by omega
      have hG := Lib.hid (hC.out.good HJ.out.1 HJ.out.2 (Nat.le_of_eq HM.out))
      have hlt2 : ¬ (q : Int) < (q : Int) := by omega
      have hkn2 := hkn.out
      clear hC HB hCS SN HV HM
      go_wp2
      go_ret
      exact ⟨ks, A', c', by rw [hkn2]; rfl, own_cgs hown hkn2, hW, hG.out⟩
theorem sub_swaps (s p r : ByteArray) (all : Bool) {i j : Nat} {x y : Nat × Nat} (hij : i ≤ j) (hx : (Line.L s.data.toList)[i]? = some x) (hy : (Line.L s.data.toList)[j]? = some y) (hs : s.size ≤ 100000) (h0 : p.data.toList ≠ []) (hp : Utf.valid p.data.toList = true) (hr : Utf.valid r.data.toList = true) {w : World} (hm : MaxAt w) :
    Calls Tryd.prog 21 #[.string s, .agg #[.int .i64 x.1, .int .i64 y.2, .bool true], .string p, .string r, .bool all] w (SwapsIs s.data.toList p r (Sb.most s.data.toList all) i j w) := by
  cases all with
  | false => exact sub_swaps_two s p r hij hx hy hs h0 hp hr hm
  | true => exact sub_swaps_all s p r hij hx hy hs (Nat.le_of_eq (data_len s).symm) h0 hp hr hm
end Go.Proofs.YtlfhfpjffdaomaaDoor
