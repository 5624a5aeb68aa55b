/-
  The document's answer: keys one by one, and their text; whether two lists of texts are the same.
-/
import Derived.Test.YtpepdpcddcbfoaaKeyRef
import Derived.Test.YtpepdpcddcbfoaaKeySplit
import Derived.Test.YtpepdpcddcbfoaaUtfRef
import Derived.Test.YtpepdpcddcbfoaaUtfRefs
import Derived.Deep.RegionHeld3
namespace Go.Proofs.Ytpepdpcddcbfoaa
open Go.RowKit
/-- Two places of a list of places, one behind the other, and the rune between them. -/
theorem between (s : ByteArray) {rs : List (List UInt8)} (hd : Utf.dec s.data.toList = some rs) {k : Nat} {r : List UInt8} (hr : rs[k]? = some r) : s.extract (Utf.off rs k) (Utf.off rs (k + 1)) = bs r := by
  have := Utf.off_piece hr
  rw [← (Utf.dec_some hd).2] at this
  rw [Lib.extract_eq, ← this, List.drop_take]
  rfl
set_option maxHeartbeats 1000000 in
set_option maxRecDepth 100000 in
theorem ref13_Split (s : ByteArray) (hs : s.size ≤ 1000000000000) (w : World) :
    Calls Try.prog 15 #[.string s] w fun e w' => ∃ A c, e = .returned (.tuple #[.slice A (Key.split s.data.toList).length c, .int .i64 (Key.err s.data.toList)]) ∧ Strs w' A ((Key.split s.data.toList).map bs) ∧ Below w.heap.size w w' := by
  obtain ⟨i0, hi, hz0, hz1, hz2⟩ := info_parts info_string
  have hl : s.data.toList.length = s.size := by simp
  have c1 := split_got s (by omega) w
  cases hd : Utf.dec s.data.toList with
  | none =>
    rw [Utf.places_none hd] at c1
    have C1 := Lib.hid c1
    have H := Lib.hid (Key.err_bad hd)
    have H2 : Hid (Key.split s.data.toList = []) := Lib.hid (by simp [Key.split, hd])
    clear c1 hd
    go_enter Try.func15, Try.ntmps15
    go_wp2_with (go_at_call 27; refine C1.out.mono ?_; rintro e w1 ⟨⟨A, c, rfl, hI⟩, hb⟩)
    go_ret2
    exact ⟨none, 0, by rw [H.out, H2.out]; rfl, by rw [H2.out]; exact Strs.none _, hb⟩
  | some rs =>
    rw [Utf.places_some hd, Utf.pl_length] at c1
    have C1 := Lib.hid c1
    have HD := Lib.hid hd
    have hrl : rs.length ≤ s.size := by
      have h3 := off_ge hd (i := rs.length) (Nat.le_refl _)
      rw [Utf.off_top hd (Nat.le_refl _), hl] at h3
      exact h3
    have g12 : ((rs.length : Int) + 1 == 0) = false := by rw [beq_eq_false_iff_ne]; omega
    clear c1 hd
    go_enter Try.func15, Try.ntmps15
    go_wp2_with (go_at_call 27; refine C1.out.mono ?_; rintro e w1 ⟨⟨A, c, rfl, hI⟩, hb⟩)
    have HW := Lib.hid hb
    clear hb
    go_loopw [5, 6] (fun v iv wr => ∃ (a : Option Addr) (n : Nat) (k : Nat), k ≤ rs.length ∧ iv = .int .i64 k ∧ v = .slice a k n ∧ Hid (wr.ownsRow w1.heap.size 9 1 v k (keyRow rs k)) ∧ Below w1.heap.size w1 wr ∧ Hid ((rs.take k).all Key.isKey = true)) (fun _ iv _ => rs.length - (intOf iv).toNat)
    case atStart => exact ⟨_, 0, 0, Nat.zero_le _, rfl, rfl, World.ownsRow_nil _ _ _ _, Below.refl _ _, Lib.hid (by simp)⟩
    case round =>
      obtain ⟨a, n, k, hk, rfl, rfl, hown, hW, hall⟩ := hrel
      by_cases hlt : k < rs.length
      · obtain ⟨r, hr⟩ : ∃ r, rs[k]? = some r := ⟨_, List.getElem?_eq_getElem hlt⟩
        have hg1 : (Utf.pl 0 rs)[k]? = some ((Utf.off rs k : Nat) : Int) := by rw [Utf.pl_get 0 (by omega), Nat.zero_add]
        have hg2 : (Utf.pl 0 rs)[k + 1]? = some ((Utf.off rs (k + 1) : Nat) : Int) := by rw [Utf.pl_get 0 (by omega), Nat.zero_add]
        obtain ⟨ad, rfl, hab, hcells⟩ := hI (by rw [Utf.pl_length]; omega)
        have L1 := (hW.cell (p := ad.add k) (by rw [block_of_add]; exact hab)).trans (hcells k _ hg1)
        have L2 : wr.cell? { block := ad.block, off := ad.off + (k + 1) } = some (.int .i64 (Utf.off rs (k + 1) : Nat)) := (hW.cell (p := ad.add (k + 1)) (by rw [block_of_add]; exact hab)).trans (hcells (k + 1) _ hg2)
        have hin := Utf.off_in HD.out (k + 1)
        have hmo := Utf.off_mono (rs := rs) (i := k) (j := k + 1) (by omega)
        rw [hl] at hin
        have E1 := between s HD.out hr
        have hS := Lib.hid (word_next hr)
        have hwr : w1.heap.size ≤ wr.heap.size := hW.size
        have b1 : (k : Int) < (rs.length : Int) + 1 := by omega
        have b2 : k < rs.length + 1 := by omega
        have b4 : (0 : Int) ≤ (k : Int) + 1 := by omega
        have b5 : (k : Int) < (rs.length : Int) := by omega
        have b6 : (k : Int) + 1 < (rs.length : Int) + 1 := by omega
        have b3 : IntKind.i64.wrap ((k : Int) + 1) = (k : Int) + 1 := by rw [IntKind.wrap_i64]; omega
        have ho : Utf.one r = true := (Utf.dec_some HD.out).1 r (List.mem_of_getElem? hr)
        have c2 := Lib.hid (ref13_Right (bs r))
        rw [bs_toList, ho, Bool.true_and] at c2
        have Hr := Lib.hid hr
        clear hr hg1 hg2 hcells ho hI
        generalize Utf.off rs (k + 1) = z at *
        generalize Utf.off rs k = y at *
        cases hkey : Key.isKey r with
        | false =>
          rw [hkey] at c2
          have H := Lib.hid (Key.err_key HD.out (Key.all_not Hr.out hkey))
          have H2 := Lib.hid (Key.split_no (s := s.data.toList) (by rw [H.out]; decide))
          clear hkey hall hown
          go_wp2
          go_region
          go_wp2_with (go_at_call 8; refine (c2.out _).mono ?_; rintro e w3 ⟨rfl, hb3⟩)
          go_ret2
          exact ⟨none, 0, by rw [H.out, H2.out]; rfl, by rw [H2.out]; exact Strs.none _, (HW.out.trans (hW.mono HW.out.size)).trans ((below_gb (gb_drew wr none)).trans hb3 |>.mono (Nat.le_trans HW.out.size hwr))⟩
        | true =>
          rw [hkey] at c2
          have hk2 := Lib.hid (Key.all_take Hr.out hall.out hkey)
          clear hkey hall
          go_wp2
          go_region
          go_wp2_with (first
            | (go_at_call 8; refine (c2.out _).mono ?_; rintro e w3 ⟨rfl, hb3⟩; have hg3 := (gb_drew wr none).andThen (gb_below none hb3) (by simp); have own3 := hown.out.kept hg3 (by cases hv : (Value.slice a k n).ownBlock <;> simp); have hB3 := hW.trans (below_gb hg3 |>.mono hwr))
            | (at_builtin; refine wpList_append_own _ rfl _ _ 25 rfl w1.heap.size 9 i0 (.string ⟨#[]⟩) 1 16 Try.underlying25 hi hz0 hz1 hz2 rfl (by decide) _ _ _ rfl (own3.alloc _) ⟨w3.heap.size, 0, none⟩ 1 1 [.string (bs r)] rfl rfl ?c1 ?c2 ?c3 ?c4 ?c5 ?_))
          case c1 =>
            intro j u hu
            have hb := Blk.new w3 9 #[.string (bs r)]
            have e : (⟨w3.heap.size, 0, none⟩ : Addr).add j = ⟨w3.heap.size, j, none⟩ := by unfold Addr.add; split <;> simp_all
            rw [e, hb.cell]
            simpa using hu
          case c2 => intro u hu; simp at hu; subst hu; rfl
          case c3 => unfold maxLen; omega
          case c4 => omega
          case c5 => have := hB3.size; simp; omega
          intro v' w6 hown6 hgrow6 _
          obtain ⟨a6, cap6, rfl⟩ := own_shape hown6
          rw [← hS.out] at hown6
          have W6 := (hB3.alloc hB3.size _).grown hgrow6 (by have := hB3.size; simp; omega) (fun j hj => (own3.lt j hj).1)
          have HO := Lib.hid hown6
          clear hgrow6 own3 hown6 hg3 hB3
          go_wp2
          go_roundw
          case rel => exact ⟨a6, cap6, k + 1, by omega, by go_num, rfl, HO, W6, hk2⟩
          case measure => simp [intOf]; omega
      · obtain rfl : k = rs.length := by omega
        have d1 : decide ((rs.length : Int) + 1 < (rs.length : Int) + 1) = false := decide_eq_false (by omega)
        have hrow := hown.out
        rw [keyRow_all] at hrow
        have hS := Lib.hid (Strs.of_own (n := rs.length) (c := n) (A := a) (xs := rs.map bs) (by rw [List.length_map]; exact hrow) rfl)
        have ha := Key.all_end (Nat.le_refl _) hall.out
        have H := Lib.hid (Key.err_ok HD.out ha)
        have H2 := Lib.hid (Key.split_ok HD.out ha)
        clear hrow hI hown hall ha
        go_wp2
        go_ret2
        exact ⟨a, n, by rw [H.out, H2.out]; rfl, by rw [H2.out]; exact hS.out, HW.out.trans (hW.mono HW.out.size)⟩
end Go.Proofs.Ytpepdpcddcbfoaa
