/-
  Package sub: changes made at once, where there is room.
-/
import Derived.Test.YtlfhfpjffdaomaaDoorSubCalls
import Derived.Test.YtlfhfpjffdaomaaDoorBatchDo
namespace Go.Proofs.YtlfhfpjffdaomaaDoor
open Go.RowKit
open Utf Chg Btc
set_option maxHeartbeats 1000000 in
set_option maxRecDepth 100000 in
theorem sub_put (s : ByteArray) {A : Option Addr} {c : Nat} {ks : List Cg} {w : World} (hx : Cgs w A ks) (hs : s.size ≤ 100000) (hwe : weigh ks ≤ 1000000000000000) (hm : ks.length ≤ 100000) {V : ByteArray} {e : Int}
    (hbig : 4096 < (s.size : Int) + grow ks → V = ⟨#[]⟩ ∧ e = 8)
    (hdo : ¬ 4096 < (s.size : Int) + grow ks → ∀ u, Below w.heap.size w u → Calls Tryd.prog 40 #[.string s, .slice A ks.length c] u fun e' w' => e' = .returned (.tuple #[.string V, .int .i64 e]) ∧ Below u.heap.size u w') :
    Calls Tryd.prog 22 #[.string s, .slice A ks.length c] w fun e' w' => e' = .returned (.tuple #[.string V, .int .i64 e]) ∧ Below w.heap.size w w' := by
  have HB := Lib.hid hbig
  have HD := Lib.hid hdo
  have H0 : Hid ((s.size : Int) = s.size + grow (ks.take 0)) := by show _ = _; simp [grow]
  clear hbig hdo
  go_enter Tryd.func22, Tryd.ntmps22
  go_wp2_with fail
  go_loopw [6, 13] (fun nv iv wr => ∃ (k : Nat) (q : Int), k ≤ ks.length ∧ iv = .int .i64 k ∧ nv = .int .i64 q ∧ Hid (q = s.size + grow (ks.take k)) ∧ Below w.heap.size w wr) (fun _ iv _ => ks.length - (intOf iv).toNat)
  case atStart => exact ⟨0, s.size, Nat.zero_le _, rfl, rfl, H0, Below.refl _ _⟩
  case round =>
    obtain ⟨k, q, hkl, rfl, rfl, hq, hW⟩ := hrel
    clear H0
    have hgw := grow_weigh (ks.take k)
    have htk0 := weigh_take ks k
    have hqq := hq.out
    by_cases hlt : k < ks.length
    · obtain ⟨x, hkx⟩ : ∃ x, ks[k]? = some x := ⟨_, List.getElem?_eq_getElem hlt⟩
      obtain ⟨b, off, rfl, hbw, c0, c1, c2⟩ := hx.at_ hW (Nat.le_refl _) hkx
      have hsn := weigh_snoc hkx
      have htk := weigh_take ks (k + 1)
      have hgs : Hid (q + ((x.new.size : Int) - x.old.size) = s.size + grow (ks.take (k + 1))) := by show _ = _; rw [grow_snoc hkx, hq.out]; omega
      have hW2 : Below w.heap.size w (wr.alloc (.cells #[.int .i64 x.at_, .string x.old, .string x.new] 48)) := hW.alloc hW.size _
      have b0 := Blk.new wr 48 #[.int .i64 x.at_, .string x.old, .string x.new]
      have d0 : (wr.alloc (.cells #[.int .i64 x.at_, .string x.old, .string x.new] 48)).cell? ⟨wr.heap.size, 0, none⟩ = some (.int .i64 x.at_) := b0.cell 0
      have d1 : (wr.alloc (.cells #[.int .i64 x.at_, .string x.old, .string x.new] 48)).cell? ⟨wr.heap.size, 1, none⟩ = some (.string x.old) := b0.cell 1
      have d2 : (wr.alloc (.cells #[.int .i64 x.at_, .string x.old, .string x.new] 48)).cell? ⟨wr.heap.size, 2, none⟩ = some (.string x.new) := b0.cell 2
      have hb1 : -2000000000000000 ≤ q ∧ q ≤ 2000000000000000 := by omega
      clear hkx b0 hx hq hqq hgw htk0 HB HD
      go_wp2
      go_roundw
      case rel => exact ⟨k + 1, _, by omega, by go_num, by go_num, hgs, hW2⟩
      case measure => simp [intOf]; omega
    · rw [List.take_of_length_le (by omega)] at hqq
      clear hx hq hgw htk0
      by_cases h : 4096 < (s.size : Int) + grow ks
      · obtain ⟨rfl, rfl⟩ := HB.out h
        rw [← hqq] at h
        have g0 : decide ((4096 : Int) < q) = true := decide_eq_true h
        clear hqq HD HB
        go_wp2
        go_ret2
        exact ⟨rfl, hW⟩
      · have D := Lib.hid (HD.out (by omega))
        rw [← hqq] at h
        have g0 : decide ((4096 : Int) < q) = false := decide_eq_false h
        clear hqq HD HB
        go_wp2_with (go_at_call 40; (with_reducible refine (D.out _ hW).mono ?_); rintro e w1 ⟨rfl, hb⟩)
        go_ret2
        exact ⟨rfl, hW.trans (hb.mono hW.size)⟩
end Go.Proofs.YtlfhfpjffdaomaaDoor
