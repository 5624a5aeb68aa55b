/-
  Whether registers may be, as package reg tells it.
-/
import Derived.Test.YtopplkfbnpamdaaRegName
import Derived.Test.YtopplkfbnpamdaaUtfValid
import Derived.BigQuiet
namespace Go.Proofs.Ytopplkfbnpamdaa
open Go.RowKit
open Reg
set_option maxHeartbeats 2000000 in
set_option maxRecDepth 100000 in
theorem reg_Right {A : Option Addr} {c : Nat} {ks : List Rg} {w : World} (hx : Rgs w A ks) (hm : ks.length ≤ maxLen) :
    Calls Try.prog 15 #[.slice A ks.length c] w fun e w' => e = .returned (.bool (decide (Right ks))) ∧ Below w.heap.size w w' := by
  have hm2 : ks.length ≤ 9223372036854775807 := by unfold maxLen at hm; exact hm
  clear hm
  go_enter Try.func15, Try.ntmps15
  go_wp2_with fail
  go_loopw [7] (fun iv wr => ∃ k : Nat, k ≤ ks.length ∧ iv = .int .i64 k ∧ Hid (Right (ks.take k)) ∧ Below w.heap.size w wr) (fun iv _ => ks.length - (intOf iv).toNat)
  case atStart => exact ⟨0, Nat.zero_le _, rfl, (right_nil : Right (ks.take 0)), Below.refl _ _⟩
  case round =>
    obtain ⟨k, hkl, rfl, HR, hW⟩ := hrel
    by_cases hlt : k < ks.length
    · obtain ⟨x, hkx⟩ : ∃ x, ks[k]? = some x := ⟨_, List.getElem?_eq_getElem hlt⟩
      obtain ⟨b, off, rfl, hbw, c0, c1, c2⟩ := hx.at_ hW (Nat.le_refl _) hkx
      have hs := Lib.hid (right_succ hkx)
      have hW2 : Below w.heap.size w (wr.alloc (.cells #[.int .i64 x.name, .bool x.lines, .string x.text] 32)) := hW.alloc hW.size _
      have hq : ∀ q, Below w.heap.size w ((wr.alloc (.cells #[.int .i64 x.name, .bool x.lines, .string x.text] 32)).drewN q) := fun q => hW2.trans ((below_gb (gb_drewN _ q none)).mono hW2.size)
      have b0 := Blk.new wr 32 #[.int .i64 x.name, .bool x.lines, .string x.text]
      have d0 : ∀ q, ((wr.alloc (.cells #[.int .i64 x.name, .bool x.lines, .string x.text] 32)).drewN q).cell? ⟨wr.heap.size, 0, none⟩ = some (.int .i64 x.name) := fun q => (b0.drewN q).cell 0
      have d2 : ∀ q, ((wr.alloc (.cells #[.int .i64 x.name, .bool x.lines, .string x.text] 32)).drewN q).cell? ⟨wr.heap.size, 2, none⟩ = some (.string x.text) := fun q => (b0.drewN q).cell 2
      have e0 := b0.cell 0
      have e2 := b0.cell 2
      simp at e0 e2
      have N := Lib.hid (reg_Name x.name)
      have hki : (k : Int) < ks.length := by omega
      have no : ¬ Right (ks.take (k + 1)) → Hid (decide (Right ks) = false) := fun h => decide_eq_false (not_right h)
      clear b0 hW2
      by_cases hn : IsName x.name
      · rw [nameN_name hn] at N
        by_cases h0 : 0 < k
        · obtain ⟨j, hj⟩ : ∃ j, k = j + 1 := ⟨k - 1, by omega⟩
          have hjl : j < ks.length := by omega
          obtain ⟨y, hky⟩ : ∃ y, ks[j]? = some y := ⟨_, List.getElem?_eq_getElem hjl⟩
          obtain ⟨b', off', hA', _, y0, _⟩ := hx.at_ hW (Nat.le_refl _) hky
          simp only [Option.some.injEq, Addr.mk.injEq, and_true] at hA'
          obtain ⟨rfl, rfl⟩ := hA'
          have hb2 : b < wr.heap.size := Nat.lt_of_lt_of_le hbw hW.size
          have g0 : decide ((0 : Int) < (k : Int)) = true := decide_eq_true (by omega)
          have g1 : (k : Int) - 1 = j := by omega
          have g2 : (j : Int) < ks.length := by omega
          have hyk : ks[k - 1]? = some y := by rw [hj, Nat.add_sub_cancel]; exact hky
          by_cases hr : y.name < x.name
          · have g3 : decide (x.name ≤ y.name) = false := decide_eq_false (by omega)
            by_cases hsz : x.text.size ≤ 4096
            · have f0 : decide ((4096 : Int) < (x.text.size : Int)) = false := decide_eq_false (by omega)
              by_cases hv : Utf.valid x.text.data.toList = true
              · have V := Lib.hid (fun w => utf_Valid x.text (by omega) w)
                rw [hv] at V
                have H : Hid (Right (ks.take (k + 1))) := hs.out.2 ⟨HR.out, hn, fun z _ hz => by rw [hyk] at hz; injection hz with hz; rw [← hz]; exact hr, hsz, hv⟩
                clear hkx hx no hs hn hv hky hyk hj hr
                go_wp2
                go_quiet ((go_at_call 17; exact (N.out _).mono fun e w1 h => ⟨h.1, _, h.2.symm⟩))
                go_wp2_with (go_at_call 27; refine (V.out _).mono ?_; rintro e w1 ⟨rfl, rfl⟩)
                go_roundw
                case rel => exact ⟨k + 1, by omega, by go_num, H, hq _⟩
                case measure => simp [intOf]; omega
              · have V := Lib.hid (fun w => utf_Valid x.text (by omega) w)
                have H := no fun h => hv (hs.out.1 h).2.2.2.2
                rw [Bool.eq_false_iff.2 hv] at V
                clear hkx hx no hs hn hv hky hyk hj hr
                go_wp2
                go_quiet ((go_at_call 17; exact (N.out _).mono fun e w1 h => ⟨h.1, _, h.2.symm⟩))
                go_wp2_with (go_at_call 27; refine (V.out _).mono ?_; rintro e w1 ⟨rfl, rfl⟩)
                go_ret
                exact ⟨by rw [H.out]; rfl, hq _⟩
            · have f0 : decide ((4096 : Int) < (x.text.size : Int)) = true := decide_eq_true (by omega)
              have H := no fun h => hsz (hs.out.1 h).2.2.2.1
              clear hkx hx no hs hn hky hyk hj hr
              go_wp2
              go_quiet ((go_at_call 17; exact (N.out _).mono fun e w1 h => ⟨h.1, _, h.2.symm⟩))
              go_wp2
              go_ret
              exact ⟨by rw [H.out]; rfl, hq _⟩
          · have H := no fun h => hr ((hs.out.1 h).2.2.1 y h0 hyk)
            have g3 : decide (x.name ≤ y.name) = true := decide_eq_true (by omega)
            clear hkx hx hky hyk hj no hs hn
            go_wp2
            go_quiet ((go_at_call 17; exact (N.out _).mono fun e w1 h => ⟨h.1, _, h.2.symm⟩))
            go_wp2
            go_ret
            exact ⟨by rw [H.out]; rfl, hq _⟩
        · have g0 : decide ((0 : Int) < (k : Int)) = false := decide_eq_false (by omega)
          by_cases hsz : x.text.size ≤ 4096
          · have f0 : decide ((4096 : Int) < (x.text.size : Int)) = false := decide_eq_false (by omega)
            by_cases hv : Utf.valid x.text.data.toList = true
            · have V := Lib.hid (fun w => utf_Valid x.text (by omega) w)
              rw [hv] at V
              have H : Hid (Right (ks.take (k + 1))) := hs.out.2 ⟨HR.out, hn, fun z hz => absurd hz h0, hsz, hv⟩
              clear hkx hx no hs hn hv 
              go_wp2
              go_quiet ((go_at_call 17; exact (N.out _).mono fun e w1 h => ⟨h.1, _, h.2.symm⟩))
              go_wp2_with (go_at_call 27; refine (V.out _).mono ?_; rintro e w1 ⟨rfl, rfl⟩)
              go_roundw
              case rel => exact ⟨k + 1, by omega, by go_num, H, hq _⟩
              case measure => simp [intOf]; omega
            · have V := Lib.hid (fun w => utf_Valid x.text (by omega) w)
              have H := no fun h => hv (hs.out.1 h).2.2.2.2
              rw [Bool.eq_false_iff.2 hv] at V
              clear hkx hx no hs hn hv 
              go_wp2
              go_quiet ((go_at_call 17; exact (N.out _).mono fun e w1 h => ⟨h.1, _, h.2.symm⟩))
              go_wp2_with (go_at_call 27; refine (V.out _).mono ?_; rintro e w1 ⟨rfl, rfl⟩)
              go_ret
              exact ⟨by rw [H.out]; rfl, hq _⟩
          · have f0 : decide ((4096 : Int) < (x.text.size : Int)) = true := decide_eq_true (by omega)
            have H := no fun h => hsz (hs.out.1 h).2.2.2.1
            clear hkx hx no hs hn 
            go_wp2
            go_quiet ((go_at_call 17; exact (N.out _).mono fun e w1 h => ⟨h.1, _, h.2.symm⟩))
            go_wp2
            go_ret
            exact ⟨by rw [H.out]; rfl, hq _⟩
      · have H := no fun h => hn (hs.out.1 h).2.1
        have hne : nameN x.name ≠ x.name := fun e => hn (nameN_self.1 e)
        obtain ⟨z, hz⟩ : ∃ z, nameN x.name = z := ⟨_, rfl⟩
        rw [hz] at N hne
        have g0 : (z != x.name) = true := by simpa using hne
        have g1 : (z == x.name) = false := by simpa using hne
        clear hkx hx no hs hn hz hne
        go_wp2
        go_quiet ((go_at_call 17; exact (N.out _).mono fun e w1 h => ⟨h.1, _, h.2.symm⟩))
        go_wp2
        go_ret
        exact ⟨by rw [H.out]; rfl, hq _⟩
    · have H : Hid (decide (Right ks) = true) := by
        have := HR.out
        rw [List.take_of_length_le (by omega)] at this
        exact decide_eq_true this
      clear hx
      go_wp2
      go_ret
      exact ⟨by rw [H.out]; rfl, hW⟩
end Go.Proofs.Ytopplkfbnpamdaa
