/-
  All pairs of a kind: the program's, rune by rune over a stack.
-/
import Derived.Test.YtijjpnppedhfnaaPairDelete
import Derived.Test.YtijjpnppedhfnaaPairKinds
import Derived.Test.YtijjpnppedhfnaaKey
import Derived.Test.YtijjpnppedhfnaaUtfValid
namespace Go.Proofs.Ytijjpnppedhfnaa
open Go.RowKit
open Pair
theorem Pair.own_mono {w : World} {base base' : Nat} {e : TypeId} {size : Nat} {v : Value} {n : Nat} {xs : List Value} (h : w.ownsRow base e size v n xs) (hb : base' ≤ base) : w.ownsRow base' e size v n xs :=
  ⟨h.1, h.2.imp id fun ⟨g, cap, cur, h1, h2, h3⟩ => ⟨g, cap, cur, h1, Nat.le_trans hb h2, h3⟩⟩
/-- Pairs of the call's own. -/
def Pair.Own2 (w : World) (L : List (Nat × Nat)) (e : Ending) (w' : World) : Prop := (∃ v, e = .returned v ∧ w'.ownsRow w.heap.size 33 2 v L.length (flat2 L)) ∧ Below w.heap.size w w'
theorem Pair.own2_nil {w w' : World} (h : Below w.heap.size w w') : Own2 w [] (.returned (.slice none 0 0)) w' := ⟨⟨_, rfl, World.ownsRow_nil _ _ _ _⟩, h⟩
theorem Pair.rune_test (r : List UInt8) (k : ByteArray) : ((bs r).toList == k.toList) = decide (r = k.data.toList) := by
  have e : k.toList = k.data.toList := by have := bs_tl k.data.toList; rwa [bs_data] at this
  rw [bs_tl, e, Bool.eq_iff_iff]
  simp
theorem Pair.drop_rune {rs : List (List UInt8)} {j : Nat} {r : List UInt8} (h : rs[j]? = some r) : rs.drop j = r :: rs.drop (j + 1) := by
  obtain ⟨hj, he⟩ := List.getElem?_eq_some_iff.1 h
  rw [List.drop_eq_getElem_cons hj, he]
set_option maxHeartbeats 2000000 in
set_option maxRecDepth 100000 in
theorem pair_All (s k : ByteArray) (hs : s.size ≤ 500000) (w : World) :
    Calls Try.prog 9 #[.string s, .string k] w fun e w' => Own2 w (Pair.all s.data.toList k.data.toList) e w' := by
  have hl := data_len s
  have c1 := Lib.hid (fun w => pair_closer k w)
  have c2 := Lib.hid (fun w => utf_Valid s (by omega) w)
  cases hk : clo k.data.toList with
  | none =>
    have H := Lib.hid (all_no (s := s.data.toList) (k := k.data.toList) (.inl hk))
    have e0 : cloL k.data.toList = [] := by rw [cloL, hk]
    rw [e0] at c1
    clear hk e0
    have g0 : ((bs []).toList == []) = true := by rw [bs_tl]; rfl
    go_enter Try.func9, Try.ntmps9
    go_wp2_with (go_at_call 17; refine (c1.out _).mono ?_; rintro e w1 ⟨rfl, rfl⟩)
    go_ret
    rw [H.out]
    exact own2_nil (Below.refl _ _)
  | some c =>
    obtain ⟨o, hko, hoc, ho, hc⟩ := clo_facts hk
    have e0 : cloL k.data.toList = [c] := by rw [cloL, hk]
    rw [e0] at c1
    have g0 : ((bs [c]).toList == []) = false := by rw [bs_tl]; rfl
    cases hd : Utf.dec s.data.toList with
    | none =>
      rw [Utf.valid_bad hd] at c2
      have H := Lib.hid (all_no (s := s.data.toList) (k := k.data.toList) (.inr (Utf.valid_bad hd)))
      clear hk hko hd e0
      go_enter Try.func9, Try.ntmps9
      go_wp2_with (first
        | (go_at_call 17; refine (c1.out _).mono ?_; rintro e w1 ⟨rfl, rfl⟩)
        | (go_at_call 15; refine (c2.out _).mono ?_; rintro e w1 ⟨rfl, rfl⟩))
      go_ret
      rw [H.out]
      exact own2_nil (Below.refl _ _)
    | some rs =>
      rw [Utf.valid_ok hd] at c2
      rw [hko] at hk
      have HM := Lib.hid (mach_all hd hk)
      have HK := Lib.hid hko
      have HD := Lib.hid hd
      have hlen : rs.length ≤ s.size := by
        have h1 := Line.off_ge' hd (Nat.le_refl _)
        have h2 := Utf.off_le rs rs.length
        rw [← (Utf.dec_some hd).2, hl] at h2
        omega
      obtain ⟨i0, hi, hz0, hz1, hz2⟩ := info_parts info_pair
      have tK := Lib.hid (fun r : List UInt8 => rune_test r k)
      have tC := Lib.hid (fun r : List UInt8 => rune_test r (bs [c]))
      have HOC := Lib.hid hoc
      clear hk hko hd e0 hoc
      go_enter Try.func9, Try.ntmps9
      go_wp2_with (first
        | (go_at_call 17; refine (c1.out _).mono ?_; rintro e w1 ⟨rfl, rfl⟩)
        | (go_at_call 15; refine (c2.out _).mono ?_; rintro e w1 ⟨rfl, rfl⟩))
      go_loopw [6] (fun lv wr => ∃ (j : Nat) (l : List (Nat × Int)) (st : List Nat) (A : Option Addr) (n cp : Nat) (ov : Value), lv = .slice A n cp ∧ n = l.length ∧ j ≤ rs.length ∧ l.length ≤ j ∧ st.length ≤ j ∧ St w wr s (Utf.off rs j) lv ov l st ∧ Hid (mach o c (rs.drop j) (Utf.off rs j) l st = mach o c rs 0 [] []) ∧ Hid (∀ k ∈ st, k < l.length)) (fun _ wr => s.size - wr.iterPos (w.heap.size + 1))
      case atStart =>
        refine ⟨0, [], [], none, 0, 0, .slice none 0 0, rfl, rfl, Nat.zero_le _, Nat.le_refl _, Nat.le_refl _, ⟨?_, ?_, World.ownsRow_nil _ _ _ _, World.ownsRow_nil _ _ _ _, ?_⟩, by rw [Utf.off_zero]; exact rfl, fun k h => by cases h⟩
        · exact (Blk.new w 38 #[.slice none 0 0]).alloc _
        · rw [Utf.off_zero]
          have := World.iter_heap (w.alloc (.cells #[.slice none 0 0] 38)) s 0
          rwa [World.size_alloc] at this
        · exact ((Below.refl w.heap.size w).alloc (Nat.le_refl _) _).alloc (by simp) _
      case round =>
        obtain ⟨j, l, st, A, n, cp, ov, rfl, rfl, hj, hlj, hsj, hS, HF, HT⟩ := hrel
        have hsz := hS.size
        have hit := hS.iter
        rcases rune_or_end (rs := rs) j with ⟨r, hr⟩ | hend
        · obtain ⟨hdc, hp, hoff, hle, hone⟩ := Key.decode_rune s HD.out hr
          have hcp := Key.cp_le hone
          have hpos := Utf.one_pos hone
          have hnx : ∀ ty, (Instr.next (.pointer (some ⟨w.heap.size + 1, 0, none⟩)) true ty).run Try.prog wr = _ := fun ty => Lib.run_next_any_at wr (w.heap.size + 1) s _ ty hit hp
          rw [hdc] at hnx
          simp only [] at hnx
          rw [← hoff] at hnx
          have hS2 := hS.next (Utf.off rs (j + 1))
          have hsz2 := Lib.iterAt_size wr (w.heap.size + 1) s (Utf.off rs (j + 1))
          have hen := Key.utf8_cp hone
          have hlt := (List.getElem?_eq_some_iff.1 hr).1
          have Hit := Lib.hid hit
          have Hoff := Lib.hid (And.intro hoff (And.intro hpos hle))
          have t1 := tK.out r
          have t2 := tC.out r
          rw [HK.out] at t1
          rw [bs_toList] at t2
          have HF2 := HF.out
          rw [drop_rune hr, mach_cons, ← hoff] at HF2
          clear hr hdc hit hoff hle hone HF hS
          generalize wr.iterAt (w.heap.size + 1) s (Utf.off rs (j + 1)) = wi at *
          have HS2 := Lib.hid hS2
          by_cases h1 : r = [o]
          · rw [decide_eq_true h1] at t1
            rw [if_pos h1] at HF2
            have HF3 := Lib.hid HF2
            have P := Lib.hid (pair_put l.length hS2 (by omega))
            clear hS2 HF2 t2 h1
            go_wp2_with (first
              | (go_at_call 18; refine P.out.mono ?_; rintro e w2 ⟨rfl, ov2, hS3⟩; have hs3 := hS3.size; have lr := hS3.lrow)
              | (at_builtin; refine wpList_append_own _ rfl _ _ 24 rfl (w.heap.size + 2) 33 i0 (.agg #[.int .i64 0, .int .i64 0]) 2 16 Try.underlying24 hi hz0 hz1 hz2 rfl (by decide) _ _ _ rfl (lr.alloc _) ⟨w2.heap.size, 0, none⟩ 1 1 [.int .i64 (Utf.off rs j : Nat), .int .i64 (-1)] rfl rfl ?e1 ?e2 ?e3 ?e4 ?e5 ?_))
            case e1 => exact pair_cells _ _ _ _
            case e2 => simp [Value.oneCell']
            case e3 => unfold maxLen; omega
            case e4 => omega
            case e5 => rw [World.size_alloc]; omega
            intro v' w4 hown' hgrow _
            have hS4 := (hS3.alloc (.cells #[.int .i64 (Utf.off rs j : Nat), .int .i64 (-1)] 33)).grownL (x := (Utf.off rs j, -1)) hgrow hown'
            obtain ⟨a', c', hv'⟩ := own_long hS4.lrow
            subst hv'
            have HS4 := Lib.hid hS4
            have HT4 : Hid (∀ q ∈ l.length :: st, q < (l ++ [(Utf.off rs j, (-1 : Int))]).length) := fun q hq => by
              rw [List.length_append, List.length_singleton]
              rcases List.mem_cons.1 hq with rfl | hq
              · omega
              · have := HT.out q hq; omega
            clear hS4 hown' hgrow hS3 lr
            go_wp2
            go_roundw
            case rel => exact ⟨j + 1, l ++ [(Utf.off rs j, -1)], l.length :: st, a', _, c', ov2, rfl, rfl, hlt, by simp; omega, by simp; omega, HS4.out, HF3, HT4⟩
            case measure =>
              simp only [World.iterPos, HS4.out.iter, Hit.out]
              have := Hoff.out; omega
          · rw [decide_eq_false h1] at t1
            rw [if_neg h1] at HF2
            by_cases h2 : r = [c]
            · rw [decide_eq_true h2] at t2
              rw [if_pos h2] at HF2
              cases st with
              | nil =>
                have HF3 := Lib.hid HF2
                have P := Lib.hid (pair_take_none hS2)
                clear hS2 HF2 h1 h2
                go_wp2_with (go_at_call 19; refine P.out.mono ?_; rintro e w2 ⟨rfl, hS3⟩; have HS3 := Lib.hid hS3; clear hS3)
                go_roundw
                case rel => exact ⟨j + 1, l, [], A, _, cp, ov, rfl, rfl, hlt, by omega, Nat.zero_le _, HS3.out, HF3, fun q hq => by cases hq⟩
                case measure =>
                  simp only [World.iterPos, HS3.out.iter, Hit.out]
                  have := Hoff.out; omega
              | cons q st =>
                have HF3 := Lib.hid HF2
                have hq : q < l.length := HT.out q (by simp)
                have P := Lib.hid (pair_take_some hS2 (by simp at hsj; omega))
                obtain ⟨g, cap, e, hbg, hg⟩ := hS2.lrow.form (by omega)
                injection e with e1 _ e3
                subst e1; subst e3
                obtain ⟨⟨y1, y2⟩, hy⟩ : ∃ y, l[q]? = some y := ⟨_, List.getElem?_eq_getElem hq⟩
                have HY := Lib.hid (flatZ_get l hy).2
                have HT4 : Hid (∀ x ∈ st, x < (l.modify q (fun x => (x.1, ((Utf.off rs j : Nat) : Int)))).length) := fun x hx => by
                  rw [List.length_modify]; exact HT.out x (by simp [hx])
                have hsj2 : st.length ≤ j := by simp at hsj; omega
                clear hS2 HF2 h1 h2 hy hg hsj
                go_wp2_with (go_at_call 19; refine P.out.mono ?_; rintro e w2 ⟨rfl, ov2, hS3⟩; have f1 := hS3.lrow.frozenAt (q * 2 + 1); have d1 := (hS3.lrow.cellAt (q * 2 + 1) (by omega)).trans HY.out; have HS3 := Lib.hid hS3; clear hS3)
                have HS4 := Lib.hid (HS3.out.shut (k := q) rfl ((Utf.off rs j : Nat) : Int))
                go_roundw
                case rel => exact ⟨j + 1, l.modify q (fun x => (x.1, ((Utf.off rs j : Nat) : Int))), st, some ⟨g, 0, none⟩, _, cp, ov2, rfl, by rw [List.length_modify], hlt, by rw [List.length_modify]; omega, by omega, HS4.out, HF3, HT4⟩
                case measure =>
                  simp only [World.iterPos, HS4.out.iter, Hit.out]
                  have := Hoff.out; omega
            · rw [decide_eq_false h2] at t2
              rw [if_neg h2] at HF2
              have HF3 := Lib.hid HF2
              clear hS2 HF2 h1 h2
              go_wp2
              go_roundw
              case rel => exact ⟨j + 1, l, st, A, _, cp, ov, rfl, rfl, hlt, by omega, by omega, HS2.out, HF3, HT⟩
              case measure =>
                simp only [World.iterPos, HS2.out.iter, Hit.out]
                have := Hoff.out; omega
        · obtain rfl : j = rs.length := by omega
          have hnx : ∀ ty, (Instr.next (.pointer (some ⟨w.heap.size + 1, 0, none⟩)) true ty).run Try.prog wr = _ := fun ty => Lib.run_next_end_at wr (w.heap.size + 1) s _ ty hit (by rw [off_len HD.out hend]; omega)
          have hF : l = mach o c rs 0 [] [] := by
            have := HF.out
            rwa [List.drop_length, mach] at this
          have hFin : Hid (Pair.all s.data.toList k.data.toList = keep l) := by show _ = _; rw [HK.out, ← HM.out, hF]
          have P := Lib.hid (sl_delete hS.lrow rfl (by omega) hsz)
          have HB := Lib.hid hS.below
          clear hit hS HF HT hF
          go_wp2_with (go_at_call 20; refine P.out.mono ?_; rintro e w2 ⟨⟨v, rfl, hr2⟩, hb2⟩)
          go_ret
          rw [hFin.out]
          exact ⟨⟨v, rfl, own_mono hr2 (by omega)⟩, HB.out.trans (hb2.mono (by omega))⟩
end Go.Proofs.Ytijjpnppedhfnaa
