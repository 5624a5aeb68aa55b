/-
  What changes made at once make of a text, as package batch tells it.
-/
import Derived.Test.YtlfhfpjffdaomaaDoorBatchFit
import Derived.Test.YtlfhfpjffdaomaaDoorBuilderWrite
namespace Go.Proofs.YtlfhfpjffdaomaaDoor
open Go.RowKit
open Utf Chg Btc
theorem done_no {t : List UInt8} {ks : List Cg} (h : right t ks = false) : done t ks = ([], 1) := by unfold done; rw [if_neg (by rw [h]; exact Bool.false_ne_true)]
theorem done_big {t : List UInt8} {ks : List Cg} (h : right t ks = true) (hb : 4096 < (made t ks).length) : done t ks = ([], 8) := by unfold done; rw [if_pos h, if_pos hb]
theorem done_ok {t : List UInt8} {ks : List Cg} (h : right t ks = true) (hb : ¬ 4096 < (made t ks).length) : done t ks = (made t ks, 0) := by unfold done; rw [if_pos h, if_neg hb]
theorem right_in0 {t : List UInt8} {ks : List Cg} (h : right t ks = true) : In t.length 0 ks := right_in h (Nat.zero_le _) (fun k hk => by
  have h1 : k ∈ ks := List.mem_of_mem_head? (by rw [hk]; rfl)
  simp only [right, Bool.and_eq_true, List.all_eq_true] at h
  obtain ⟨a, ha, _⟩ := fits_off (h.2 k h1)
  omega)
theorem extract_mid (s : ByteArray) (i j : Nat) : s.extract i j = bs ((s.data.toList.drop i).take (j - i)) := by
  rw [Lib.extract_eq]
  rfl
theorem made_all {t : List UInt8} {ks : List Cg} (h : In t.length 0 ks) : made t ks = [] ++ Btc.parts t 0 (ks.drop 0) := by
  rw [made_parts h]
  simp
/-- A round: what stands ahead of a change, and what it puts in. -/
theorem parts_drop {t : List UInt8} {ks : List Cg} {j f : Nat} {k : Cg} (h : ks[j]? = some k) (hi : In t.length f (ks.drop j)) : ∃ a : Nat, k.at_ = a ∧ f ≤ a ∧ a + k.old.size ≤ t.length ∧ In t.length (a + k.old.size) (ks.drop (j + 1)) ∧
    Btc.parts t f (ks.drop j) = (t.drop f).take (a - f) ++ (k.new.data.toList ++ Btc.parts t (a + k.old.size) (ks.drop (j + 1))) := by
  obtain ⟨hj, rfl⟩ := List.getElem?_eq_some_iff.1 h
  rw [List.drop_eq_getElem_cons hj] at hi ⊢
  obtain ⟨a, ha, hf, hr⟩ := hi
  refine ⟨a, ha, hf, hr.le, hr, ?_⟩
  rw [Btc.parts, ha, Int.toNat_natCast]
theorem parts_end {t : List UInt8} {ks : List Cg} {j f : Nat} (h : ks.length ≤ j) : Btc.parts t f (ks.drop j) = t.drop f := by
  rw [List.drop_eq_nil_of_le h]
  rfl
set_option maxHeartbeats 2000000 in
set_option maxRecDepth 100000 in
theorem batch_Do (t : ByteArray) {A : Option Addr} {c : Nat} {ks : List Cg} {w : World} (hx : Cgs w A ks) (ht : t.size ≤ 100000) (hk : ∀ k ∈ ks, -1099511627776 ≤ k.at_ ∧ k.at_ ≤ 1099511627776) (hs : weigh ks ≤ 100000) (hm : ks.length ≤ 100000) :
    Calls Tryd.prog 40 #[.string t, .slice A ks.length c] w fun e w' => e = .returned (.tuple #[.string (bs (done t.data.toList ks).1), .int .i64 (done t.data.toList ks).2]) ∧ Below w.heap.size w w' := by
  have hl := data_len t
  have R : Hid (∀ u, Below w.heap.size w u → Calls Tryd.prog 53 #[.string t, .slice A ks.length c] u fun e w' => e = .returned (.bool (right t.data.toList ks)) ∧ Below u.heap.size u w') := fun u hu => batch_Right t (hx.below hu) (by omega) hk (by omega) (by omega)
  have G : Hid (∀ u, Below w.heap.size w u → Calls Tryd.prog 54 #[.slice A ks.length c] u fun e w' => e = .returned (.int .i64 (grow ks)) ∧ Below u.heap.size u w') := fun u hu => batch_growth (hx.below hu) (by omega) (by omega)
  cases hr : right t.data.toList ks with
  | false =>
    have H := Lib.hid (done_no hr)
    rw [hr] at R
    clear hr hx
    go_enter Tryd.func40, Tryd.ntmps40
    go_wp2_with (go_at_call 53; refine (R.out _ (Below.refl _ _)).mono ?_; rintro e w1 ⟨rfl, hb1⟩)
    go_ret2
    exact ⟨by rw [H.out]; rfl, hb1⟩
  | true =>
    have hin := right_in0 hr
    have hml := (made_length hin).1
    rw [hl] at hml
    have hgw := grow_weigh ks
    rw [hr] at R
    by_cases hbig : 4096 < (made t.data.toList ks).length
    · have H := Lib.hid (done_big hr hbig)
      have g0 : (t.size : Int) + grow ks = (made t.data.toList ks).length := by omega
      have hMb : (made t.data.toList ks).length ≤ 200000 := by omega
      clear hr hx hin hml
      generalize (made t.data.toList ks).length = M at *
      go_enter Tryd.func40, Tryd.ntmps40
      go_wp2_with (first
        | (go_at_call 53; refine (R.out _ (Below.refl _ _)).mono ?_; rintro e w1 ⟨rfl, hb1⟩)
        | (go_at_call 54; refine (G.out _ hb1).mono ?_; rintro e w2 ⟨rfl, hb2⟩))
      go_ret2
      exact ⟨by rw [H.out]; rfl, hb1.trans (hb2.mono hb1.size)⟩
    · have H := Lib.hid (done_ok hr hbig)
      have g0 : (t.size : Int) + grow ks = (made t.data.toList ks).length := by omega
      have hMb : (made t.data.toList ks).length ≤ 4096 := by omega
      have HA := Lib.hid (made_all hin)
      have HI := Lib.hid hin
      obtain ⟨X, hX⟩ : ∃ X, made t.data.toList ks = X := ⟨_, rfl⟩
      rw [hX] at H g0 hMb hbig HA
      have hXn : X.length ≤ 281474976710656 := by omega
      clear hr hin hml hX
      obtain ⟨M, hM⟩ : ∃ M, X.length = M := ⟨_, rfl⟩
      rw [hM] at hMb g0 hbig hXn
      have HM := Lib.hid hM
      clear hM
      go_enter Tryd.func40, Tryd.ntmps40
      go_wp2_with (first
        | (go_at_call 53; refine (R.out _ (Below.refl _ _)).mono ?_; rintro e w1 ⟨rfl, hb1⟩)
        | (go_at_call 54; refine (G.out _ hb1).mono ?_; rintro e w2 ⟨rfl, hb2⟩)
        | (go_at_call 55; refine (bd_grow w.heap.size w2.heap.size M (w2.alloc (.cells #[.pointer none, .slice none 0 0] 76)) (Nat.le_trans hb1.size hb2.size) (Blk.new w2 _ _) (by have := hb1.size; have := hb2.size; simp; omega) hXn).mono ?_; rintro e w3 ⟨rfl, hbd, hb3⟩))
      obtain ⟨g, hg⟩ : ∃ g, w2.heap.size = g := ⟨_, rfl⟩
      have hW3 : Below w.heap.size w w3 := ((hb1.trans (hb2.mono hb1.size)).alloc (Nat.le_trans hb1.size hb2.size) _).trans hb3
      rw [hg] at hbd
      rw [hg]
      clear hb1 hb2 hb3 hg R G
      go_loopw [8, 26] (fun fv iv wr => ∃ (k f : Nat) (acc : List UInt8), fv = .int .i64 f ∧ iv = .int .i64 k ∧ k ≤ ks.length ∧ f ≤ t.size ∧ acc.length ≤ 4096 ∧ Hid (X = acc ++ Btc.parts t.data.toList f (ks.drop k)) ∧ Hid (In t.data.toList.length f (ks.drop k)) ∧
        Lib.BuilderAt 76 5 w.heap.size g (.pointer (some ⟨g, 0, none⟩)) (Lib.byteCells acc) wr ∧ Below w.heap.size w wr) (fun _ iv _ => ks.length - (intOf iv).toNat)
      case atStart => exact ⟨0, 0, [], rfl, rfl, Nat.zero_le _, Nat.zero_le _, Nat.zero_le _, HA, HI, hbd, hW3⟩
      case round =>
        obtain ⟨k, f, acc, rfl, rfl, hkl, hft, hac, HX, HN, hbd, hW⟩ := hrel
        clear HA HI hW3 g0
        by_cases hlt : k < ks.length
        · obtain ⟨x, hkx⟩ : ∃ x, ks[k]? = some x := ⟨_, List.getElem?_eq_getElem hlt⟩
          obtain ⟨b, off, rfl, hbw, c0, c1, c2⟩ := hx.at_ hW (Nat.le_refl _) hkx
          obtain ⟨a, ha, hfa, hat, hnx, hpt⟩ := parts_drop hkx HN.out
          rw [hl] at hat
          have hsn := weigh_snoc hkx
          have htk := weigh_take ks (k + 1)
          have e1 := extract_mid t f a
          obtain ⟨P, hP⟩ : ∃ P, (t.data.toList.drop f).take (a - f) = P := ⟨_, rfl⟩
          rw [hP] at e1 hpt
          have hPl : P.length ≤ 100000 := by rw [← hP, List.length_take]; omega
          have HX2 : Hid (X = (acc ++ (P ++ x.new.data.toList)) ++ Btc.parts t.data.toList (a + x.old.size) (ks.drop (k + 1))) := by
            show _ = _
            rw [HX.out, hpt]
            simp
          have hac2 : (acc ++ (P ++ x.new.data.toList)).length ≤ 4096 := by
            have h1 := congrArg List.length HX2.out
            rw [HM.out, List.length_append] at h1
            omega
          have HC : Hid (Lib.byteCells acc ++ Lib.strCells (bs P) ++ Lib.strCells x.new = Lib.byteCells (acc ++ (P ++ x.new.data.toList))) := by
            show _ = _
            rw [byteCells_append, byteCells_append, List.append_assoc]
            rfl
          have HN2 := Lib.hid hnx
          rw [ha] at c0
          have hgw := hbd.lt
          have b0 := Blk.new wr 48 #[.int .i64 a, .string x.old, .string x.new]
          have d0 : (wr.alloc (.cells #[.int .i64 a, .string x.old, .string x.new] 48)).cell? ⟨wr.heap.size, 0, none⟩ = some (.int .i64 a) := b0.cell 0
          have C1 := Lib.hid (bd_write_keeps w.heap.size g (Lib.byteCells acc) (bs P) (wr.alloc (.cells #[.int .i64 a, .string x.old, .string x.new] 48)) (bd_keep hbd ((Below.refl _ wr).alloc (Nat.le_refl _) _)) (by rw [Lib.byteCells_length, bs_size]; omega) (by have := hW.size; simp; omega))
          have C2 : Hid (∀ w4, Lib.BuilderAt 76 5 w.heap.size g (.pointer (some ⟨g, 0, none⟩)) (Lib.byteCells acc ++ Lib.strCells (bs P)) w4 → w.heap.size ≤ w4.heap.size → Calls Tryd.prog 56 #[.pointer (some ⟨g, 0, none⟩), .string x.new] w4 fun e w' => e = .returned (.tuple #[.int .i64 x.new.size, .nilIface]) ∧ (Lib.BuilderAt 76 5 w.heap.size g (.pointer (some ⟨g, 0, none⟩)) (Lib.byteCells acc ++ Lib.strCells (bs P) ++ Lib.strCells x.new) w' ∧ Below w.heap.size w4 w' ∧
              ∀ (g' : Nat) (t : TypeId) (cs : Array Value), Blk w4 g' t cs → 5 ≠ t → g' ≠ g → Blk w' g' t cs)) := fun w4 h4 h5 =>
            bd_write_keeps w.heap.size g _ x.new w4 h4 (by rw [List.length_append, Lib.byteCells_length, Lib.strCells_length, bs_size]; omega) h5
          have hW2 : Below w.heap.size w (wr.alloc (.cells #[.int .i64 a, .string x.old, .string x.new] 48)) := hW.alloc hW.size _
          clear hkx hx ha hpt hP HX HN hnx hbd
          go_wp2_with (first
            | (go_at_call 56; (with_reducible refine C1.out.mono ?_); rintro e w4 ⟨rfl, hbd4, hb4, hk4⟩; have b4 := hk4 _ _ _ b0 (by decide) (by omega); have f0 : w4.cell? ⟨wr.heap.size, 0, none⟩ = some (.int .i64 a) := b4.cell 0; have f1 : w4.cell? ⟨wr.heap.size, 1, none⟩ = some (.string x.old) := b4.cell 1; have f2 : w4.cell? ⟨wr.heap.size, 2, none⟩ = some (.string x.new) := b4.cell 2; have hW4 := hW2.trans hb4)
            | (go_at_call 56; (with_reducible refine (C2.out _ hbd4 hW4.size).mono ?_); rintro e w5 ⟨rfl, hbd5, hb5, hk5⟩; have b5 := hk5 _ _ _ b4 (by decide) (by omega); have k0 : w5.cell? ⟨wr.heap.size, 0, none⟩ = some (.int .i64 a) := b5.cell 0; have k1 : w5.cell? ⟨wr.heap.size, 1, none⟩ = some (.string x.old) := b5.cell 1))
          go_roundw
          case rel => exact ⟨k + 1, a + x.old.size, acc ++ (P ++ x.new.data.toList), by go_num, by go_num, by omega, hat, hac2, HX2, HN2, by rw [← HC.out]; exact hbd5, hW4.trans hb5⟩
          case measure => simp [intOf]; omega
        · have HE : Hid (Lib.byteCells X = Lib.byteCells acc ++ Lib.strCells (bs (t.data.toList.drop f))) := by
            show _ = _
            rw [HX.out, parts_end (by omega), byteCells_append]
            rfl
          have e1 := extract_from t f
          have hdl : (bs (t.data.toList.drop f)).size ≤ 100000 := by rw [bs_size, List.length_drop]; omega
          have C1 := Lib.hid (bd_write_keeps w.heap.size g (Lib.byteCells acc) (bs (t.data.toList.drop f)) wr hbd (by rw [Lib.byteCells_length]; omega) hW.size)
          clear hx HX HN
          generalize bs (t.data.toList.drop f) = Z at *
          go_wp2_with (first
            | (go_at_call 56; refine C1.out.mono ?_; rintro e w4 ⟨rfl, hbd4, hb4, hk4⟩; have hbd5 : Lib.BuilderAt 76 5 w.heap.size g (.pointer (some ⟨g, 0, none⟩)) (Lib.byteCells X) w4 := (by rw [HE.out]; exact hbd4))
            | (go_at_call 57; refine (Tryd.Builder_String_any w.heap.size g X w4 (Or.inr hbd5) (Nat.le_trans hW.size hb4.size)).mono ?_; rintro e w5 ⟨rfl, hb5⟩))
          go_ret2
          exact ⟨by rw [H.out]; rfl, (hW.trans hb4).trans hb5⟩
end Go.Proofs.YtlfhfpjffdaomaaDoor
