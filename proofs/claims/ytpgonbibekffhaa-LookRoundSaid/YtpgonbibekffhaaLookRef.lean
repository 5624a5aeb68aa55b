/-
  Where a pattern stands, as the document tells it.
-/
import Derived.Test.YtpgonbibekffhaaLook
import Derived.Test.YtpgonbibekffhaaInts
import Derived.Test.YtpgonbibekffhaaUtfRef
import Derived.BigCall
import Derived.BigQuiet
namespace Go.Proofs.Ytpgonbibekffhaa
open Go.RowKit Go.Shelf
namespace Look
theorem tl (s : ByteArray) : s.toList = s.data.toList := bs_tl s.data.toList
theorem same_at (t p : ByteArray) (k : Nat) : ((t.extract k (k + p.size)).toList == p.toList) = at_ t.data.toList p.data.toList k := by
  have e : (t.extract k (k + p.size)).toList = (t.data.toList.drop k).take p.size := by
    rw [Lib.extract_eq, Nat.add_sub_cancel_left]; exact bs_tl _
  have hl := data_len p
  rw [e, tl, at_, Bool.eq_iff_iff, beq_iff_eq, decide_eq_true_eq]
  constructor
  · intro h1; rw [← h1]; exact List.take_prefix _ _
  · intro h1; rw [List.prefix_iff_eq_take.1 h1, data_len]
end Look
set_option maxHeartbeats 2000000 in
set_option maxRecDepth 100000 in
theorem ref20_All (s p : ByteArray) (hs : s.size ≤ 1000000000000) (hp : p.size ≤ 1000000000000) (w : World) :
    Calls Try.prog 9 #[.string s, .string p] w fun e w' => GotInts w.heap.size (Look.all s.data.toList p.data.toList) e w' ∧ Below w.heap.size w w' := by
  have hl := data_len s
  have hlp := data_len p
  obtain ⟨i0, hi, hz0, hz1, hz2⟩ := info_parts info_int
  have V := Lib.hid (fun (x : ByteArray) (b : Bool) (h : x.size ≤ 1000000000000 ∧ Utf.valid x.data.toList = b) (w : World) => by
    have := ref_Valid x (by omega) w
    rw [h.2] at this
    exact this)
  have et : p.toList = p.data.toList := Look.tl p
  cases hk : Look.ok s.data.toList p.data.toList with
  | false =>
    have HA := Lib.hid (Look.all_no hk)
    by_cases h1 : p.data.toList.isEmpty = true
    · have g1 : p.toList.isEmpty = true := by rw [et, h1]
      clear hk et
      go_enter Try.func9, Try.ntmps9
      go_wp2
      go_ret
      exact ⟨by rw [HA.out]; exact gotInts_nil _ _, Below.refl _ _⟩
    · have g1 : p.toList.isEmpty = false := by rw [et]; simpa using h1
      cases hq : Utf.valid s.data.toList with
      | false =>
        have kS := And.intro hs hq
        clear hk et hq
        go_enter Try.func9, Try.ntmps9
        go_wp2_with (go_at_call 14; refine (V.out _ _ kS _).mono ?_; rintro e w1 ⟨rfl, hb⟩)
        go_ret
        exact ⟨by rw [HA.out]; exact gotInts_nil _ _, hb⟩
      | true =>
        have hr : Utf.valid p.data.toList = false := by
          cases h : Utf.valid p.data.toList with
          | false => rfl
          | true => simp [Look.ok, h, hq] at hk; exact absurd (by rw [hk]; rfl) h1
        have kS := And.intro hs hq
        have kP := And.intro hp hr
        have hX := Below.refl w.heap.size w
        clear hk et hq hr
        go_enter Try.func9, Try.ntmps9
        go_wp2_with (go_at_call 14; refine (V.out _ _ (by first | exact kP | exact kS) _).mono ?_; rintro e w1 ⟨rfl, hb⟩; replace hX := hX.trans (hb.mono hX.size))
        go_ret
        exact ⟨by rw [HA.out]; exact gotInts_nil _ _, hX⟩
  | true =>
    have HA := Lib.hid (Look.all_ok hk)
    simp only [Look.ok, Bool.and_eq_true, Bool.not_eq_true'] at hk
    obtain ⟨⟨kS, kP⟩, kE⟩ := hk
    have g1 : p.toList.isEmpty = false := by rw [et]; exact kE
    have hp1 : 0 < p.size := by rw [← hlp]; exact List.length_pos_iff.2 (List.isEmpty_eq_false_iff.1 kE)
    have kS2 := And.intro hs kS
    have kP2 := And.intro hp kP
    have hX := Below.refl w.heap.size w
    clear kS kP kE et
    go_enter Try.func9, Try.ntmps9
    go_wp2_with (go_at_call 14; refine (V.out _ _ (by first | exact kP2 | exact kS2) _).mono ?_; rintro e w1 ⟨rfl, hb⟩; replace hX := hX.trans (hb.mono hX.size); clear hb)
    go_loopw [5, 6] (fun v iv wr => ∃ (k m : Nat) (a : Option Addr) (cc : Nat), k ≤ s.size ∧ m ≤ k ∧ Hid (m = (Look.upto s.data.toList p.data.toList k).length) ∧ iv = .int .i64 k ∧ v = .slice a m cc ∧ wr.ownsRow w.heap.size 3 1 (.slice a m cc) m ((Look.upto s.data.toList p.data.toList k).map (Value.int .i64)) ∧ Below w.heap.size w wr) (fun _ iv _ => s.size - (intOf iv).toNat)
    case atStart => exact ⟨0, 0, none, 0, Nat.zero_le _, Nat.le_refl _, Lib.hid rfl, rfl, rfl, World.ownsRow_nil _ _ _ _, hX⟩
    case round =>
      clear hX
      obtain ⟨k, m, a, cc, hk, hm, hmd, rfl, rfl, hown, hX⟩ := hrel
      have hwr := hX.size
      by_cases hle : k + p.size ≤ s.size
      · have hu := Look.upto_succ s.data.toList p.data.toList k
        have g2 : decide ((k : Int) + (p.size : Int) ≤ (s.size : Int)) = true := by simp; omega
        have g3 := Look.same_at s p k
        have w1k : IntKind.i64.wrap ((k : Int) + (p.size : Int)) = (k : Int) + (p.size : Int) := by rw [IntKind.wrap_i64]; omega
        have w2k : IntKind.i64.wrap ((k : Int) + 1) = (k : Int) + 1 := by rw [IntKind.wrap_i64]; omega
        cases hat : Look.at_ s.data.toList p.data.toList k with
        | true =>
          rw [hat] at g3
          rw [hat, if_pos rfl] at hu
          have HU := Lib.hid hu
          clear hu hat V
          go_wp2_with (at_builtin; refine wpList_append_own _ rfl _ _ 24 rfl w.heap.size 3 i0 (.int .i64 0) 1 8 Try.underlying24 hi hz0 hz1 hz2 rfl (by decide) _ _ _ rfl (hown.alloc _) ⟨wr.heap.size, 0, none⟩ 1 1 [.int .i64 (k : Nat)] rfl rfl (append_one_cell _ _ _) (by intro u hu; simp at hu; subst hu; rfl) (by unfold maxLen; omega) (by omega) (by simp; omega) ?_)
          intro v' w4 hown' hgrow _
          have hX4 : Below w.heap.size w w4 := (hX.alloc hwr _).grown hgrow (by simp; omega) (fun g hg => (hown.lt g hg).1)
          obtain ⟨a', c', rfl⟩ := own_shape hown'
          have hown4 : w4.ownsRow w.heap.size 3 1 (.slice a' (m + 1) c') (m + 1) ((Look.upto s.data.toList p.data.toList (k + 1)).map (Value.int .i64)) := by rw [HU.out, List.map_append]; exact hown'
          clear hown' hgrow hown hX
          go_wp2
          go_roundw
          case rel => exact ⟨k + 1, m + 1, a', c', by omega, by omega, by show _ = _; rw [HU.out, List.length_append, ← hmd.out]; rfl, by go_num, rfl, hown4, hX4⟩
          case measure => simp [intOf] <;> omega
        | false =>
          rw [hat] at g3
          rw [hat, if_neg (by simp), List.append_nil] at hu
          have HU := Lib.hid hu
          clear hu hat V
          have HO := Lib.hid (And.intro hown hX)
          clear hown hX
          go_wp2
          go_roundw
          case rel => exact ⟨k + 1, m, a, cc, by omega, by omega, by rw [HU.out]; exact hmd, by go_num, rfl, by rw [HU.out]; exact HO.out.1, HO.out.2⟩
          case measure => simp [intOf] <;> omega
      · have g2 : decide ((k : Int) + (p.size : Int) ≤ (s.size : Int)) = false := by simp; omega
        have w1k : IntKind.i64.wrap ((k : Int) + (p.size : Int)) = (k : Int) + (p.size : Int) := by rw [IntKind.wrap_i64]; omega
        have HF : Hid (Look.all s.data.toList p.data.toList = Look.upto s.data.toList p.data.toList k) := by
          show _ = _
          rw [HA.out]; exact Look.upto_far (by omega) (by omega)
        have HO := Lib.hid (And.intro hown hX)
        clear hown hX V
        go_wp2
        go_ret
        refine ⟨⟨_, rfl, ?_⟩, HO.out.2⟩
        rw [HF.out, ← hmd.out]; exact HO.out.1
end Go.Proofs.Ytpgonbibekffhaa
