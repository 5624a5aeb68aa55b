/-
  'calamuslaw13.KeyJoins' answers true for every two texts: keys behind keys are told by their texts, one behind the other; the keys, one by one, are all there.
-/
import Derived.Test.YtpepdpcddcbfoaaKeyLives
import Derived.Test.YtpepdpcddcbfoaaKeySplit
import Derived.Test.YtpepdpcddcbfoaaFrame
namespace Go.Proofs.Ytpepdpcddcbfoaa
open Go.RowKit
namespace Key
open Utf
theorem joins {a b : List UInt8} (ha : err a = 0) (hb : err b = 0) : text (a ++ b) = text a ++ text b ∧ err (a ++ b) = 0 ∧ (split (a ++ b)).flatten = a ++ b ∧ (∀ r ∈ split (a ++ b), one r = true ∧ isKey r = true) ∧ (split (a ++ b)).length ≤ a.length + b.length := by
  obtain ⟨rs, hd, hk⟩ := err_zero ha
  obtain ⟨qs, hd2, hk2⟩ := err_zero hb
  have hj := dec_join hd hd2
  have hk3 : (rs ++ qs).all isKey = true := by rw [List.all_append, hk, hk2]; rfl
  rw [text_ok hd hk, text_ok hd2 hk2, text_ok hj hk3, err_ok hj hk3, split_ok hj hk3]
  refine ⟨by simp, rfl, ?_, ?_, ?_⟩
  · rw [← (dec_some hj).2]
  · intro r hr
    exact ⟨(dec_some hj).1 r hr, List.all_eq_true.1 hk3 r hr⟩
  · have h3 := off_ge hj (i := (rs ++ qs).length) (Nat.le_refl _)
    have h4 : (a ++ b).length = a.length + b.length := List.length_append
    rw [off_top hj (Nat.le_refl _), h4] at h3
    exact h3
end Key
set_option maxHeartbeats 2000000 in
set_option maxRecDepth 100000 in
theorem keyJoins_walk (s t : ByteArray) {w : World} :
    Calls Try.prog 6 #[.string s, .string t] w fun e w' => e = .returned (.bool true) ∧ Below w.heap.size w w' := by
  by_cases h1 : 1000 < s.size
  · go_enter Try.func6, Try.ntmps6
    go_wp2_with fail
    refine (key_lives _).mono ?_
    rintro e w1 ⟨rfl, hb⟩
    go_wp2
    go_ret
    exact ⟨rfl, hb⟩
  by_cases h2 : 1000 < t.size
  · have g1 : decide ((1000 : Int) < (s.size : Int)) = false := by simp; omega
    go_enter Try.func6, Try.ntmps6
    go_wp2_with fail
    refine (key_lives _).mono ?_
    rintro e w1 ⟨rfl, hb⟩
    go_wp2
    go_ret
    exact ⟨rfl, hb⟩
  have g1 : decide ((1000 : Int) < (s.size : Int)) = false := by simp; omega
  have g2 : decide ((1000 : Int) < (t.size : Int)) = false := by simp; omega
  have hl : s.data.toList.length = s.size := by simp
  have hlt : t.data.toList.length = t.size := by simp
  have a0 := Lib.hid (fun w => key_Text s (by omega) w)
  have a1 := Lib.hid (fun w => key_Text t (by omega) w)
  have g5 : (bs []).toList.isEmpty = true := by rw [bs_isEmpty]; rfl
  by_cases he : Key.err s.data.toList = 0
  · by_cases hf : Key.err t.data.toList = 0
    · have hst : (s ++ t).data.toList = s.data.toList ++ t.data.toList := by simp
      obtain ⟨p1, p2, p3, p4, p5⟩ := Key.joins he hf
      rw [← hst] at p1 p2 p3 p4 p5
      have hz : (s ++ t).size ≤ 2000 := by rw [ByteArray.size_append]; omega
      have a2 := Lib.hid (fun w => key_Text (s ++ t) (by omega) w)
      have a3 := Lib.hid (fun w => key_Split (s ++ t) (by omega) w)
      rw [p1, p2, ← bs_append] at a2
      rw [p2] at a3
      rw [he] at a0
      rw [hf] at a1
      have hsum : ¬ 9223372036854775807 < s.size + t.size := by omega
      have HA : Hid (bs (Key.split (s ++ t).data.toList).flatten = s ++ t) := Lib.hid (by rw [p3]; rfl)
      have HK := Lib.hid p4
      have hlen : (Key.split (s ++ t).data.toList).length ≤ 2000 := by omega
      have hfl : Hid ((Key.split (s ++ t).data.toList).flatten.length ≤ 2000) := Lib.hid (by rw [p3, Array.length_toList]; exact hz)
      have hS1 : (bs (Key.text s.data.toList)).size ≤ 7000 := by
        rw [bs_size]
        obtain ⟨rs, hd, hk⟩ := Key.err_zero he
        rw [Key.text_ok hd hk]
        have := Key.names_most hd rs.length
        rw [List.take_length] at this
        omega
      have hS2 : (bs (Key.text t.data.toList)).size ≤ 7000 := by
        rw [bs_size]
        obtain ⟨rs, hd, hk⟩ := Key.err_zero hf
        rw [Key.text_ok hd hk]
        have := Key.names_most hd rs.length
        rw [List.take_length] at this
        omega
      have hsum2 : ¬ 9223372036854775807 < (bs (Key.text s.data.toList)).size + (bs (Key.text t.data.toList)).size := by omega
      clear p1 p2 p3 p4 p5 he hf hst hl hlt g5
      generalize Key.split (s ++ t).data.toList = ks at *
      generalize bs (Key.text s.data.toList) = S at *
      generalize bs (Key.text t.data.toList) = U at *
      go_enter Try.func6, Try.ntmps6
      go_wp2_with fail
      refine (a0.out _).mono ?_
      rintro e w1 ⟨rfl, hb1⟩
      go_wp2_with fail
      refine (a1.out _).mono ?_
      rintro e w2 ⟨rfl, hb2⟩
      have K2 := hb1.trans (hb2.mono hb1.size)
      clear hb1 hb2
      go_wp2_with fail
      refine (a2.out _).mono ?_
      rintro e w3 ⟨rfl, hb3⟩
      have K3 := K2.trans (hb3.mono K2.size)
      clear hb3 K2
      go_wp2_with fail
      refine (a3.out _).mono ?_
      rintro e w4 ⟨A, c, rfl, hS, hb4⟩
      have K4 := Lib.hid (K3.trans (hb4.mono K3.size))
      clear hb4 K3
      go_wp2
      go_loopw [13, 14] (fun v iv wr => ∃ k : Nat, k ≤ ks.length ∧ iv = .int .i64 k ∧ v = .string (bs (ks.take k).flatten) ∧ Below w4.heap.size w4 wr) (fun _ iv _ => ks.length - (intOf iv).toNat)
      case atStart => exact ⟨0, Nat.zero_le _, rfl, rfl, Below.refl _ _⟩
      case round =>
        obtain ⟨k, hk, rfl, rfl, hW⟩ := hrel
        by_cases hltk : k < ks.length
        · obtain ⟨r, hr⟩ : ∃ r, ks[k]? = some r := ⟨_, List.getElem?_eq_getElem hltk⟩
          obtain ⟨ad, rfl, hab, hcells⟩ := hS (by rw [List.length_map]; omega)
          have hcell := hcells k (bs r) (by rw [List.getElem?_map, hr]; rfl)
          have P1 : Hid (∀ u, Below w4.heap.size w4 u → u.cell? (ad.add k) = some (.string (bs r))) := fun u hu => (hu.cell (p := ad.add k) (by rw [block_of_add]; exact hab)).trans hcell
          have q1 := P1.out _ hW
          have hok := HK.out r (List.mem_of_getElem? hr)
          have hr4 := Utf.one_le hok.1
          have c2 := Lib.hid (fun w => key_Right (bs r) (by rw [bs_size]; omega) w)
          rw [bs_toList, hok.1, hok.2, Bool.and_true] at c2
          have H : Hid (bs (ks.take k).flatten ++ bs r = bs (ks.take (k + 1)).flatten) := Lib.hid (by rw [bs_append, List.take_add_one, hr]; simp)
          have hbd : ¬ 9223372036854775807 < (bs (ks.take k).flatten).size + (bs r).size := by
            have h3 : (ks.take k).flatten.length ≤ ks.flatten.length := Utf.off_le ks k
            have := hfl.out
            rw [bs_size, bs_size]
            omega
          clear hr hS hcells hcell hok hr4
          generalize bs (ks.take k).flatten = AC at *
          generalize bs r = R at *
          go_wp2_with (go_at_call 7; refine (c2.out _).mono ?_; rintro e w5 ⟨rfl, hb5⟩; have q2 := P1.out _ (hW.trans (hb5.mono hW.size)))
          go_roundw
          case rel => exact ⟨k + 1, by omega, by go_num, by rw [← H.out], hW.trans (hb5.mono hW.size)⟩
          case measure => simp [intOf]; omega
        · obtain rfl : k = ks.length := by omega
          have K5 := K4.out.trans (hW.mono K4.out.size)
          rw [List.take_length, HA.out]
          clear hS hW
          go_wp2_with fail
          refine (key_lives _).mono ?_
          rintro e w6 ⟨rfl, hb6⟩
          have K6 := K5.trans (hb6.mono K5.size)
          go_wp2
          go_ret
          exact ⟨rfl, K6⟩
    · have g4 : (Key.err t.data.toList == 0) = false := by rw [beq_eq_false_iff_ne]; exact hf
      have g4' : (Key.err t.data.toList != 0) = true := by rw [bne_iff_ne]; exact hf
      rw [Key.text_no hf] at a1
      rw [he] at a0
      clear he hf hl hlt
      generalize Key.err t.data.toList = er at *
      generalize bs (Key.text s.data.toList) = S at *
      go_enter Try.func6, Try.ntmps6
      go_wp2_with fail
      refine (a0.out _).mono ?_
      rintro e w0 ⟨rfl, hb0⟩
      go_wp2_with fail
      refine (a1.out _).mono ?_
      rintro e w1 ⟨rfl, hb1⟩
      have kk1 := hb0.trans (hb1.mono hb0.size)
      clear hb1 hb0
      go_wp2_with fail
      refine (key_lives _).mono ?_
      rintro e w2 ⟨rfl, hb2⟩
      have kk2 := kk1.trans (hb2.mono kk1.size)
      clear hb2 kk1
      go_wp2
      go_ret
      exact ⟨rfl, kk2⟩
  · have g4 : (Key.err s.data.toList == 0) = false := by rw [beq_eq_false_iff_ne]; exact he
    have g4' : (Key.err s.data.toList != 0) = true := by rw [bne_iff_ne]; exact he
    rw [Key.text_no he] at a0
    clear he
    by_cases hf : Key.err t.data.toList = 0
    · rw [hf] at a1
      clear hf hl hlt
      generalize Key.err s.data.toList = er at *
      generalize bs (Key.text t.data.toList) = S at *
      go_enter Try.func6, Try.ntmps6
      go_wp2_with fail
      refine (a0.out _).mono ?_
      rintro e w0 ⟨rfl, hb0⟩
      go_wp2_with fail
      refine (a1.out _).mono ?_
      rintro e w1 ⟨rfl, hb1⟩
      have kk1 := hb0.trans (hb1.mono hb0.size)
      clear hb1 hb0
      go_wp2_with fail
      refine (key_lives _).mono ?_
      rintro e w2 ⟨rfl, hb2⟩
      have kk2 := kk1.trans (hb2.mono kk1.size)
      clear hb2 kk1
      go_wp2
      go_ret
      exact ⟨rfl, kk2⟩
    · have g6 : (Key.err t.data.toList == 0) = false := by rw [beq_eq_false_iff_ne]; exact hf
      have g6' : (Key.err t.data.toList != 0) = true := by rw [bne_iff_ne]; exact hf
      rw [Key.text_no hf] at a1
      clear hf hl hlt
      generalize Key.err s.data.toList = er at *
      generalize Key.err t.data.toList = es at *
      go_enter Try.func6, Try.ntmps6
      go_wp2_with fail
      refine (a0.out _).mono ?_
      rintro e w0 ⟨rfl, hb0⟩
      go_wp2_with fail
      refine (a1.out _).mono ?_
      rintro e w1 ⟨rfl, hb1⟩
      have kk1 := hb0.trans (hb1.mono hb0.size)
      clear hb1 hb0
      go_wp2_with fail
      refine (key_lives _).mono ?_
      rintro e w2 ⟨rfl, hb2⟩
      have kk2 := kk1.trans (hb2.mono kk1.size)
      clear hb2 kk1
      go_wp2
      go_ret
      exact ⟨rfl, kk2⟩
section
open Go.ChangeShapes Go.WideShapes Go.ChangeAt
open Go.ChangeMaps (open_string)
set_option maxRecDepth 100000 in
theorem keyJoins_lifted (os : Os) (started : os.Started) (H : Type) (enc : TypeId × Value → H) :
    ReturnsInHanded {} Try.checked os 6 .any (Rows.keyJoinsSpec.pre6 enc Try.prog Try.f6 Rows.keyJoinsRow.domain false) (Rows.keyJoinsSpec.post enc Try.prog Try.f6 false true false false) := by
  refine returnsInHanded_of_change_sized (C := Try.checked) own_knob started (by kernel_rfl) Try.func6
    (ChangeSpec.witness6 (enc := enc) (C := Try.checked) false ⟨#[], #[.string .empty, .string .empty], []⟩ 8 (by kernel_rfl) (by kernel_rfl) (by kernel_rfl) (by kernel_rfl)) ?_
  intro W base args ds gs before hval0 hW _ hsz0 _
  have hsz : (DataW.weightsEach Try.prog (Try.f6.params.toList ++ Rows.keyJoinsSpec.plain.varTypes Try.prog) (ds ++ gs)).all (· ≤ reachBytes) = true := hsz0
  clear hsz0
  have hval : ∀ (j : Nat) t v, Try.f6.params[j]? = some t → args[j]? = some v → Value.okWide Try.prog W .any base t v := hval0
  have hW' := hW
  obtain ⟨p, q, hA0, hV, rfl, hfz, hnd⟩ := hW
  have hA : DataW.TrodAll enc Try.prog W 0 (fun _ => true) true Try.f6.params.toList args.toList ds p := hA0
  rw [Try.params6] at hA hval hsz
  obtain ⟨v0, vs0, d0, ds0, p0, q0, hargs, rfl, rfl, h0, r0⟩ := trodAll_cons hA
  obtain ⟨v1, vs1, d1, ds1, p1, q1, rfl, rfl, rfl, h1, r1⟩ := trodAll_cons r0
  obtain ⟨rfl, rfl, rfl⟩ := trodAll_nil r1
  obtain rfl : args = #[v0, v1] := by cases args; simp_all
  obtain ⟨rfl, rfl⟩ := trodVars_none hV
  obtain ⟨s0, rfl, rfl, rfl, hmax0⟩ := open_string Try.underlying9 (hval 0 9 v0 rfl rfl) h0
  have hs0 : s0.size ≤ 140737488351232 := by rw [← data_len]; exact sized_string hsz (j := 0) (t := 9) rfl rfl
  obtain ⟨s1, rfl, rfl, rfl, hmax1⟩ := open_string Try.underlying9 (hval 1 9 v1 rfl rfl) h1
  have hs1 : s1.size ≤ 140737488351232 := by rw [← data_len]; exact sized_string hsz (j := 1) (t := 9) rfl rfl
  refine (keyJoins_walk s0 s1).mono fun e W' ⟨he, hb⟩ => ?_
  subst he
  exact ⟨_, rfl, law_post rfl rfl (by rw [Try.params6]; decide +kernel) ⟨rfl, rfl, rfl⟩ hW' hb⟩
theorem keyJoins_holds : Rows.KeyJoinsSaid :=
  OpenClaim.holds_of_wide 6 Try.f6 rfl rfl rfl rfl rfl rfl rfl ⟨rfl, rfl, rfl, rfl, rfl⟩ rfl rfl rfl rfl rfl (by kernel_rfl) Try.func6 (by kernel_rfl)
    (of_decide_eq_true (by kernel_rfl)) (by unfold Func.isWrapper; first | (rw [if_pos (by decide +kernel)]; kernel_rfl) | (rw [if_neg (by decide +kernel)]; exact ⟨rfl, rfl⟩))
    (fun os started H enc _ => keyJoins_lifted os started H enc)
end
end Go.Proofs.Ytpepdpcddcbfoaa
