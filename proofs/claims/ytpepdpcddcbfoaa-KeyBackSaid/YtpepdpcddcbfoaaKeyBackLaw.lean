/-
  'calamuslaw13.KeyBack' answers true for every two texts: keys lead to their text, and it back to them; no other text is theirs.
-/
import Derived.Test.YtpepdpcddcbfoaaKeyLives
import Derived.Test.YtpepdpcddcbfoaaKeyParse
import Derived.Test.YtpepdpcddcbfoaaFrame
namespace Go.Proofs.Ytpepdpcddcbfoaa
open Go.RowKit
namespace Key
open Utf
theorem text_parse {s : List UInt8} (h : err s = 0) : parseK (text s) = s ∧ parseE (text s) = 0 := by
  obtain ⟨rs, hd, hk⟩ := err_zero h
  obtain ⟨h1, h2⟩ := back_one (dec_some hd).1 hk
  rw [text_ok hd hk]
  obtain ⟨h3, h4⟩ := parse_ok h1 h2
  exact ⟨by rw [h3, ← (dec_some hd).2], h4⟩
theorem parse_range (s : List UInt8) : parseE s = 0 ∨ parseE s ≠ 0 := Decidable.em _
theorem parse_fails {s : List UInt8} (h : parseE s ≠ 0) : parseK s = [] := by
  cases hd : dec s with
  | none => exact (parse_bad hd).1
  | some rs =>
    cases hg : go none rs with
    | none => exact (parse_no hd hg).1
    | some ks => exact absurd (parse_ok hd hg).2 h
theorem parse_text {s : List UInt8} (h : parseE s = 0) : text (parseK s) = s ∧ err (parseK s) = 0 ∧ (parseK s).length ≤ s.length := by
  cases hd : dec s with
  | none => rw [(parse_bad hd).2] at h; cases h
  | some rs =>
    cases hg : go none rs with
    | none => rw [(parse_no hd hg).2] at h; cases h
    | some ks =>
      obtain ⟨h1, h2, h3⟩ := (go_back (dec_some hd).1).1 ks hg
      rw [(parse_ok hd hg).1]
      have h4 := dec_of h1
      rw [text_ok h4 h2, err_ok h4 h2, h3]
      refine ⟨(dec_some hd).2.symm, rfl, ?_⟩
      rw [(dec_some hd).2, ← h3]
      clear h3 h4 hg
      induction ks with
      | nil => simp
      | cons r ks ih =>
        have hk' : isKey r = true ∧ ks.all isKey = true := by simpa using h2
        have ho := h1 r (by simp)
        have h5 := ih (fun x hx => h1 x (by simp [hx])) hk'.2
        have h6 : r.length ≤ (nameR r).length := by
          cases hn : nm (cp r) with
          | some l =>
            rw [nameR_some hn, nm_cp ho hn]
            have := (nm_len hn).1
            simp only [List.length_cons, List.length_nil]; omega
          | none =>
            have hs : sgn r = true := by simpa [isKey, hn] using hk'.1
            rw [nameR_sgn hn hs]; exact Nat.le_refl _
        simp only [List.map_cons, List.flatten_cons, List.length_append]; omega
end Key
set_option maxHeartbeats 1000000 in
set_option maxRecDepth 100000 in
theorem keyBack_walk (s t : ByteArray) {w : World} :
    Calls Try.prog 5 #[.string s, .string t] w fun e w' => e = .returned (.bool true) ∧ Below w.heap.size w w' := by
  by_cases h1 : 1000 < s.size
  · go_enter Try.func5, Try.ntmps5
    go_wp2_with fail
    refine (key_lives _).mono ?_
    rintro e w1 ⟨rfl, hb⟩
    go_wp2
    go_ret
    exact ⟨rfl, hb⟩
  by_cases h2 : 1000 < t.size
  · have g1 : decide ((1000 : Int) < (s.size : Int)) = false := by simp; omega
    go_enter Try.func5, Try.ntmps5
    go_wp2_with fail
    refine (key_lives _).mono ?_
    rintro e w1 ⟨rfl, hb⟩
    go_wp2
    go_ret
    exact ⟨rfl, hb⟩
  have g1 : decide ((1000 : Int) < (s.size : Int)) = false := by simp; omega
  have g2 : decide ((1000 : Int) < (t.size : Int)) = false := by simp; omega
  have hl : s.data.toList.length = s.size := by simp
  have hlt : t.data.toList.length = t.size := by simp
  have a0 := Lib.hid (fun w => key_Text s (by omega) w)
  have a2 := Lib.hid (fun w => key_Parse t (by omega) w)
  by_cases he : Key.err s.data.toList = 0
  · have p := Key.text_parse he
    have hm : (Key.text s.data.toList).length ≤ 7000 := by
      obtain ⟨rs, hd, hk⟩ := Key.err_zero he
      rw [Key.text_ok hd hk]
      have := Key.names_most hd rs.length
      rw [List.take_length] at this
      omega
    have a1 := Lib.hid (fun w => key_Parse (bs (Key.text s.data.toList)) (by rw [bs_size]; omega) w)
    rw [bs_toList, p.1, p.2, bs_data] at a1
    rw [he] at a0
    clear p he hm
    generalize Key.text s.data.toList = tx at *
    by_cases hf : Key.parseE t.data.toList = 0
    · obtain ⟨p1, p2, p3⟩ := Key.parse_text hf
      have a3 := Lib.hid (fun w => key_Text (bs (Key.parseK t.data.toList)) (by rw [bs_size]; omega) w)
      rw [bs_toList, p1, p2, bs_data] at a3
      rw [hf] at a2
      clear p1 p2 p3 hf hl hlt
      generalize bs (Key.parseK t.data.toList) = k at *
      go_enter Try.func5, Try.ntmps5
      go_wp2_with fail
      refine (a0.out _).mono ?_
      rintro e w0 ⟨rfl, hb0⟩
      go_wp2_with fail
      refine (a1.out _).mono ?_
      rintro e w1 ⟨rfl, hb1⟩
      have kk1 := hb0.trans (hb1.mono hb0.size)
      clear hb1 hb0
      go_wp2_with fail
      refine (a2.out _).mono ?_
      rintro e w2 ⟨rfl, hb2⟩
      have kk2 := kk1.trans (hb2.mono kk1.size)
      clear hb2 kk1
      go_wp2_with fail
      refine (a3.out _).mono ?_
      rintro e w3 ⟨rfl, hb3⟩
      have kk3 := kk2.trans (hb3.mono kk2.size)
      clear hb3 kk2
      go_wp2_with fail
      refine (key_lives _).mono ?_
      rintro e w4 ⟨rfl, hb4⟩
      have kk4 := kk3.trans (hb4.mono kk3.size)
      clear hb4 kk3
      go_wp2
      go_ret
      exact ⟨rfl, kk4⟩
    · have p1 := Key.parse_fails hf
      have g4 : (Key.parseE t.data.toList != 0) = true := by rw [bne_iff_ne]; exact hf
      rw [p1] at a2
      have g5 : (bs []).toList.isEmpty = true := by rw [bs_isEmpty]; rfl
      clear p1 hf hl hlt
      generalize Key.parseE t.data.toList = pe at *
      go_enter Try.func5, Try.ntmps5
      go_wp2_with fail
      refine (a0.out _).mono ?_
      rintro e w0 ⟨rfl, hb0⟩
      go_wp2_with fail
      refine (a1.out _).mono ?_
      rintro e w1 ⟨rfl, hb1⟩
      have kk1 := hb0.trans (hb1.mono hb0.size)
      clear hb1 hb0
      go_wp2_with fail
      refine (a2.out _).mono ?_
      rintro e w2 ⟨rfl, hb2⟩
      have kk2 := kk1.trans (hb2.mono kk1.size)
      clear hb2 kk1
      go_wp2_with fail
      refine (key_lives _).mono ?_
      rintro e w3 ⟨rfl, hb3⟩
      have kk3 := kk2.trans (hb3.mono kk2.size)
      clear hb3 kk2
      go_wp2
      go_ret
      exact ⟨rfl, kk3⟩
  · have g3 : (Key.err s.data.toList == 0) = false := by rw [beq_eq_false_iff_ne]; exact he
    clear he
    generalize Key.text s.data.toList = tx at *
    generalize Key.err s.data.toList = er at *
    by_cases hf : Key.parseE t.data.toList = 0
    · obtain ⟨p1, p2, p3⟩ := Key.parse_text hf
      have a3 := Lib.hid (fun w => key_Text (bs (Key.parseK t.data.toList)) (by rw [bs_size]; omega) w)
      rw [bs_toList, p1, p2, bs_data] at a3
      rw [hf] at a2
      clear p1 p2 p3 hf hl hlt
      generalize bs (Key.parseK t.data.toList) = k at *
      go_enter Try.func5, Try.ntmps5
      go_wp2_with fail
      refine (a0.out _).mono ?_
      rintro e w0 ⟨rfl, hb0⟩
      go_wp2_with fail
      refine (a2.out _).mono ?_
      rintro e w1 ⟨rfl, hb1⟩
      have kk1 := hb0.trans (hb1.mono hb0.size)
      clear hb1 hb0
      go_wp2_with fail
      refine (a3.out _).mono ?_
      rintro e w2 ⟨rfl, hb2⟩
      have kk2 := kk1.trans (hb2.mono kk1.size)
      clear hb2 kk1
      go_wp2_with fail
      refine (key_lives _).mono ?_
      rintro e w3 ⟨rfl, hb3⟩
      have kk3 := kk2.trans (hb3.mono kk2.size)
      clear hb3 kk2
      go_wp2
      go_ret
      exact ⟨rfl, kk3⟩
    · have p1 := Key.parse_fails hf
      have g4 : (Key.parseE t.data.toList != 0) = true := by rw [bne_iff_ne]; exact hf
      rw [p1] at a2
      have g5 : (bs []).toList.isEmpty = true := by rw [bs_isEmpty]; rfl
      clear p1 hf hl hlt
      generalize Key.parseE t.data.toList = pe at *
      go_enter Try.func5, Try.ntmps5
      go_wp2_with fail
      refine (a0.out _).mono ?_
      rintro e w0 ⟨rfl, hb0⟩
      go_wp2_with fail
      refine (a2.out _).mono ?_
      rintro e w1 ⟨rfl, hb1⟩
      have kk1 := hb0.trans (hb1.mono hb0.size)
      clear hb1 hb0
      go_wp2_with fail
      refine (key_lives _).mono ?_
      rintro e w2 ⟨rfl, hb2⟩
      have kk2 := kk1.trans (hb2.mono kk1.size)
      clear hb2 kk1
      go_wp2
      go_ret
      exact ⟨rfl, kk2⟩
section
open Go.ChangeShapes Go.WideShapes Go.ChangeAt
open Go.ChangeMaps (open_string)
set_option maxRecDepth 100000 in
theorem keyBack_lifted (os : Os) (started : os.Started) (H : Type) (enc : TypeId × Value → H) :
    ReturnsInHanded {} Try.checked os 5 .any (Rows.keyBackSpec.pre6 enc Try.prog Try.f5 Rows.keyBackRow.domain false) (Rows.keyBackSpec.post enc Try.prog Try.f5 false true false false) := by
  refine returnsInHanded_of_change_sized (C := Try.checked) own_knob started (by kernel_rfl) Try.func5
    (ChangeSpec.witness6 (enc := enc) (C := Try.checked) false ⟨#[], #[.string .empty, .string .empty], []⟩ 8 (by kernel_rfl) (by kernel_rfl) (by kernel_rfl) (by kernel_rfl)) ?_
  intro W base args ds gs before hval0 hW _ hsz0 _
  have hsz : (DataW.weightsEach Try.prog (Try.f5.params.toList ++ Rows.keyBackSpec.plain.varTypes Try.prog) (ds ++ gs)).all (· ≤ reachBytes) = true := hsz0
  clear hsz0
  have hval : ∀ (j : Nat) t v, Try.f5.params[j]? = some t → args[j]? = some v → Value.okWide Try.prog W .any base t v := hval0
  have hW' := hW
  obtain ⟨p, q, hA0, hV, rfl, hfz, hnd⟩ := hW
  have hA : DataW.TrodAll enc Try.prog W 0 (fun _ => true) true Try.f5.params.toList args.toList ds p := hA0
  rw [Try.params5] at hA hval hsz
  obtain ⟨v0, vs0, d0, ds0, p0, q0, hargs, rfl, rfl, h0, r0⟩ := trodAll_cons hA
  obtain ⟨v1, vs1, d1, ds1, p1, q1, rfl, rfl, rfl, h1, r1⟩ := trodAll_cons r0
  obtain ⟨rfl, rfl, rfl⟩ := trodAll_nil r1
  obtain rfl : args = #[v0, v1] := by cases args; simp_all
  obtain ⟨rfl, rfl⟩ := trodVars_none hV
  obtain ⟨s0, rfl, rfl, rfl, hmax0⟩ := open_string Try.underlying9 (hval 0 9 v0 rfl rfl) h0
  have hs0 : s0.size ≤ 140737488351232 := by rw [← data_len]; exact sized_string hsz (j := 0) (t := 9) rfl rfl
  obtain ⟨s1, rfl, rfl, rfl, hmax1⟩ := open_string Try.underlying9 (hval 1 9 v1 rfl rfl) h1
  have hs1 : s1.size ≤ 140737488351232 := by rw [← data_len]; exact sized_string hsz (j := 1) (t := 9) rfl rfl
  refine (keyBack_walk s0 s1).mono fun e W' ⟨he, hb⟩ => ?_
  subst he
  exact ⟨_, rfl, law_post rfl rfl (by rw [Try.params5]; decide +kernel) ⟨rfl, rfl, rfl⟩ hW' hb⟩
theorem keyBack_holds : Rows.KeyBackSaid :=
  OpenClaim.holds_of_wide 5 Try.f5 rfl rfl rfl rfl rfl rfl rfl ⟨rfl, rfl, rfl, rfl, rfl⟩ rfl rfl rfl rfl rfl (by kernel_rfl) Try.func5 (by kernel_rfl)
    (of_decide_eq_true (by kernel_rfl)) (by unfold Func.isWrapper; first | (rw [if_pos (by decide +kernel)]; kernel_rfl) | (rw [if_neg (by decide +kernel)]; exact ⟨rfl, rfl⟩))
    (fun os started H enc _ => keyBack_lifted os started H enc)
end
end Go.Proofs.Ytpepdpcddcbfoaa
