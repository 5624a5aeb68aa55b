/-
  Whether changes may be made at once of a text, as package batch tells it.
-/
import Derived.Test.YtlfhfpjffdaomaaDoorBatchRight
namespace Go.Proofs.YtlfhfpjffdaomaaDoor
open Go.RowKit
open Utf Chg Btc
theorem fit_drop {t : List UInt8} {ks : List Cg} {j : Nat} {k : Cg} (h : ks[j]? = some k) : (ks.drop j).all (fun k => fits t k.at_ k.old.data.toList k.new.data.toList) = (fits t k.at_ k.old.data.toList k.new.data.toList && (ks.drop (j + 1)).all (fun k => fits t k.at_ k.old.data.toList k.new.data.toList)) := by
  obtain ⟨hj, rfl⟩ := List.getElem?_eq_some_iff.1 h
  rw [List.drop_eq_getElem_cons hj]
  rfl
set_option maxHeartbeats 2000000 in
set_option maxRecDepth 100000 in
theorem batch_Right (t : ByteArray) {A : Option Addr} {c : Nat} {ks : List Cg} {w : World} (hx : Cgs w A ks) (ht : t.size ≤ 281474976710656) (hk : ∀ k ∈ ks, -1099511627776 ≤ k.at_ ∧ k.at_ ≤ 1099511627776) (hs : weigh ks ≤ 100000) (hm : ks.length ≤ 100000) :
    Calls Tryd.prog 53 #[.string t, .slice A ks.length c] w fun e w' => e = .returned (.bool (right t.data.toList ks)) ∧ Below w.heap.size w w' := by
  have O := Lib.hid (batch_ordered (c := c) hx hk (fun k hk => by
    have h1 : weigh ks ≤ 100000 := hs
    have : k.old.size ≤ weigh ks := by
      obtain ⟨j, hj, rfl⟩ := List.getElem_of_mem hk
      have h2 := weigh_snoc (List.getElem?_eq_getElem hj)
      have h3 := weigh_take ks (j + 1)
      omega
    omega) hm)
  cases hap : apart ks with
  | false =>
    have H : Hid (right t.data.toList ks = false) := by show _ = _; rw [right, hap]; rfl
    rw [hap] at O
    clear hap hx
    go_enter Tryd.func53, Tryd.ntmps53
    go_wp2_with (go_at_call 67; refine O.out.mono ?_; rintro e w1 ⟨rfl, hb1⟩)
    go_ret
    exact ⟨by rw [H.out]; rfl, hb1⟩
  | true =>
    have H0 : Hid (right t.data.toList ks = (ks.drop 0).all (fun k => fits t.data.toList k.at_ k.old.data.toList k.new.data.toList)) := by show _ = _; rw [right, hap]; rfl
    rw [hap] at O
    clear hap
    go_enter Tryd.func53, Tryd.ntmps53
    go_wp2_with (go_at_call 67; refine O.out.mono ?_; rintro e w1 ⟨rfl, hb1⟩)
    go_loopw [12] (fun iv wr => ∃ k : Nat, k ≤ ks.length ∧ iv = .int .i64 k ∧ Hid (right t.data.toList ks = (ks.drop k).all (fun k => fits t.data.toList k.at_ k.old.data.toList k.new.data.toList)) ∧ Below w.heap.size w wr) (fun iv _ => ks.length - (intOf iv).toNat)
    case atStart => exact ⟨0, Nat.zero_le _, rfl, H0, hb1⟩
    case round =>
      obtain ⟨k, hkl, rfl, HD, hW⟩ := hrel
      clear O H0 hb1
      by_cases hlt : k < ks.length
      · obtain ⟨x, hkx⟩ : ∃ x, ks[k]? = some x := ⟨_, List.getElem?_eq_getElem hlt⟩
        obtain ⟨b, off, rfl, hbw, c0, c1, c2⟩ := hx.at_ hW (Nat.le_refl _) hkx
        have hsn := weigh_snoc hkx
        have htk := weigh_take ks (k + 1)
        have hst := fit_drop (t := t.data.toList) hkx
        rw [← HD.out] at hst
        have hW2 : Below w.heap.size w (wr.alloc (.cells #[.int .i64 x.at_, .string x.old, .string x.new] 48)) := hW.alloc hW.size _
        have b0 := Blk.new wr 48 #[.int .i64 x.at_, .string x.old, .string x.new]
        have d0 : (wr.alloc (.cells #[.int .i64 x.at_, .string x.old, .string x.new] 48)).cell? ⟨wr.heap.size, 0, none⟩ = some (.int .i64 x.at_) := b0.cell 0
        have d1 : (wr.alloc (.cells #[.int .i64 x.at_, .string x.old, .string x.new] 48)).cell? ⟨wr.heap.size, 1, none⟩ = some (.string x.old) := b0.cell 1
        have d2 : (wr.alloc (.cells #[.int .i64 x.at_, .string x.old, .string x.new] 48)).cell? ⟨wr.heap.size, 2, none⟩ = some (.string x.new) := b0.cell 2
        have F := Lib.hid (fun w => change_Fits t x.at_ x.old x.new ht (by omega) (by omega) w)
        cases hf : fits t.data.toList x.at_ x.old.data.toList x.new.data.toList with
        | false =>
          rw [hf] at F hst
          have H := Lib.hid hst
          clear hkx b0 hx hst hf HD
          go_wp2_with (go_at_call 68; refine (F.out _).mono ?_; rintro e w2 ⟨rfl, hb3⟩)
          go_ret
          exact ⟨by rw [H.out]; rfl, hW2.trans (hb3.mono hW2.size)⟩
        | true =>
          rw [hf, Bool.true_and] at hst
          rw [hf] at F
          have H := Lib.hid hst
          clear hkx b0 hx hst hf HD
          go_wp2_with (go_at_call 68; refine (F.out _).mono ?_; rintro e w2 ⟨rfl, hb3⟩)
          go_roundw
          case rel => exact ⟨k + 1, by omega, by go_num, H, hW2.trans (hb3.mono hW2.size)⟩
          case measure => simp [intOf]; omega
      · have H : Hid (right t.data.toList ks = true) := by show _ = _; rw [HD.out, List.drop_eq_nil_of_le (by omega)]; rfl
        clear hx HD
        go_wp2
        go_ret
        exact ⟨by rw [H.out]; rfl, hW⟩
end Go.Proofs.YtlfhfpjffdaomaaDoor
