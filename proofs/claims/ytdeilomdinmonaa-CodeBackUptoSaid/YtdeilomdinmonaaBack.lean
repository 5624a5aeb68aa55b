/-
  Where what comes in is of bulk at most 1048576, 'calamuslaw01.CodeBack' answers true, and what came in reads as it did: what was written is read, and what stands behind it is left.
-/
import Derived.Test.YtdeilomdinmonaaBackPlain
import Derived.Test.YtdeilomdinmonaaLives
import Derived.Test.YtdeilomdinmonaaBulk
import Derived.Test.YtdeilomdinmonaaFrame
namespace Go.Proofs.Ytdeilomdinmonaa
open Go.RowKit
set_option maxHeartbeats 1600000 in
set_option maxRecDepth 100000 in
theorem back_walk (n : Int) (s t : ByteArray) {A : Option Addr} {c : Nat} {xs : List Int} {w : World} (hs : s.size ≤ 1048576) (ht : t.size ≤ 1048576) (hx : Ints w A xs) (hl : xs.length ≤ 1048576) :
    Calls Try.prog 5 #[.int .i64 n, .string s, .slice A xs.length c, .string t] w fun e w' => e = .returned (.bool true) ∧ Below w.heap.size w w' := by
  have z1 := numB_size n
  have z2 := numB_size (s.size : Int)
  have z3 := numsB_length xs
  have c1 : ¬ 9223372036854775807 < (bs (numB n)).size + (bs (numB s.size ++ s.data.toList)).size := by
    rw [bs_size] at z1 z2; rw [bs_size, bs_size, List.length_append, data_len]; omega
  have c2 : ¬ 9223372036854775807 < (bs (numB n) ++ bs (numB s.size ++ s.data.toList)).size + (bs (numsB xs)).size := by
    rw [bs_size] at z1 z2; rw [bs_append, bs_size, bs_size, List.length_append, List.length_append, data_len]; omega
  have c3 : ¬ 9223372036854775807 < (bs (numB n) ++ bs (numB s.size ++ s.data.toList) ++ bs (numsB xs)).size + t.size := by
    rw [bs_size] at z1 z2; rw [bs_append, bs_append, bs_size, List.length_append, List.length_append, List.length_append, data_len]; omega
  have hm : (bs (numB n) ++ bs (numB s.size ++ s.data.toList) ++ bs (numsB xs) ++ t).size ≤ maxLen := by
    rw [bs_size] at z1 z2; rw [bs_append, bs_append, text_sum, bs_size, List.length_append, List.length_append, List.length_append, List.length_append, data_len, data_len]; unfold maxLen; omega
  have htot : (bs (numB n) ++ bs (numB s.size ++ s.data.toList) ++ bs (numsB xs) ++ t).data.toList = numB n ++ (numB s.size ++ (s.data.toList ++ (numsB xs ++ t.data.toList))) := by
    rw [bs_append, bs_append, text_sum, bs_toList]; simp
  have H := Lib.hid htot
  clear htot
  go_enter Try.func5, Try.ntmps5
  go_wp2_with fail
  refine (code_num _ _).mono ?_
  rintro e w1 ⟨rfl, hW1⟩
  go_wp2_with fail
  refine (code_text s _ (by omega)).mono ?_
  rintro e w2 ⟨rfl, hb2⟩
  have hW2 : Below w.heap.size w w2 := hW1.trans (hb2.mono hW1.size)
  clear hb2 hW1
  go_wp2_with fail
  refine (code_nums (hx.grown (gb_below none hW2) (by simp)) (by omega)).mono ?_
  rintro e w3 ⟨rfl, hb3⟩
  have hW3 : Below w.heap.size w w3 := hW2.trans (hb3.mono hW2.size)
  clear hb3 hW2
  go_wp2_with fail
  refine (new_reader _ _ hm).mono ?_
  rintro e w4 ⟨⟨p, rfl, hp, hr⟩, hb4⟩
  rw [H.out] at hr
  have hp' : w.heap.size ≤ p := Nat.le_trans hW3.size hp
  have hW4 : Below w.heap.size w w4 := hW3.trans (hb4.mono hW3.size)
  clear hb4 hW3 hp H hm c1 c2 c3 z1 z2 z3
  by_cases hn : isNum n = true
  case pos =>
    have hn' : 0 ≤ n ∧ n ≤ 2147483647 := by simpa [isNum] using hn
    have g1 := numB_empty hn'.1 hn'.2
    have hN := rd_num_at hr (rdNum_numB _ 0 hn'.1 hn'.2)
    clear hn hn' hr
    go_wp2_with fail
    refine hN.mono ?_
    rintro e w5 ⟨rfl, hr, hg⟩
    have hW5 : Below w.heap.size w w5 := of_row hW4 hg hp' (Nat.le_refl _)
    clear hg hW4 hN g1
    go_wp2_with fail
    refine (back_text hr (by omega)).mono ?_
    rintro e w6 ⟨rfl, hr6, hg6⟩
    have hW6 : Below w.heap.size w w6 := of_row hW5 hg6 hp' (Nat.le_refl _)
    clear hg6 hr hW5
    by_cases ha : xs.all isNum = true
    case pos =>
      have g2 := numsB_full (by omega) ha
      have hL := back_nums hr6 (by omega) ha
      clear ha
      go_wp2_with fail
      refine hL.mono ?_
      rintro e w7 ⟨⟨v, rfl, hown⟩, hr7, hg7⟩
      have hW7 : Below w.heap.size w w7 := of_row hW6 hg7 hp' (Nat.le_refl _)
      have hx7 := hx.grown (gb_below none hW7) (by simp)
      obtain ⟨a', c', hv'⟩ := own_shape hown
      have hy7 := Ints.of_own hown hv'
      clear hown hg7 hr6 hW6 hL g2 hx
      subst hv'
      go_wp2_with fail
      go_loopw [14] (fun i wr => ∃ k : Nat, k ≤ xs.length ∧ i = .int .i64 k ∧ w7.grownBy wr none) (fun i _ => xs.length - (intOf i).toNat)
      case atStart => exact ⟨0, Nat.zero_le _, rfl, World.grownBy.refl _ _⟩
      case round =>
        obtain ⟨k, hk, rfl, hG⟩ := hrel
        by_cases hlt : k < xs.length
        · obtain ⟨aa, rfl, h1⟩ := (hx7.grown hG (by simp)).at_ hlt
          obtain ⟨bb, rfl, h2⟩ := (hy7.grown hG (by simp)).at_ hlt
          clear hx7 hy7
          go_wp2
          go_quiet (fail)
          go_wp2
          exact ⟨⟨k + 1, by omega, by go_num, gb_trans hG (gb_drewN _ _ _)⟩, by simp [intOf]; omega⟩
        · have hr8 := hr7.below hG
          have hW8 : Below w.heap.size w wr := hW7.trans ((below_gb hG).mono hW7.size)
          clear hr7 hW7 hG hx7 hy7
          go_wp2_with fail
          refine (rd_left hr8).mono ?_
          rintro e w8 ⟨rfl, rfl⟩
          go_wp2_with fail
          refine (rd_err hr8).mono ?_
          rintro e w8 ⟨rfl, rfl⟩
          go_wp2_with fail
          refine (lives_true _).mono ?_
          rintro e w9 ⟨rfl, hb9⟩
          go_wp2
          go_ret
          exact ⟨rfl, Below.trans hW8 (hb9.mono (Below.size hW8))⟩
    case neg =>
      have hz := numsB_none ha
      have g2 : (bs (numsB xs)).toList.isEmpty = true := by rw [hz, bs_tl]; rfl
      rw [hz, List.nil_append] at hr6
      clear ha hz
      go_wp2_with fail
      refine (rd_left hr6).mono ?_
      rintro e w8 ⟨rfl, rfl⟩
      go_wp2_with fail
      refine (rd_err hr6).mono ?_
      rintro e w8 ⟨rfl, rfl⟩
      go_wp2_with fail
      refine (lives_true _).mono ?_
      rintro e w9 ⟨rfl, hb9⟩
      go_wp2
      go_ret
      exact ⟨rfl, Below.trans hW6 (hb9.mono (Below.size hW6))⟩
  case neg =>
    have hn' : n < 0 ∨ 2147483647 < n := by
      have : ¬ (0 ≤ n ∧ n ≤ 2147483647) := by simpa [isNum] using hn
      omega
    have hz : numB n = [] := by
      rcases hn' with h | h
      · exact numB_low h
      · exact numB_high h
    have g1 := numB_not hn'
    have hW5 := hW4
    rw [hz, List.nil_append] at hr
    clear hn hn' hz hW4
    go_wp2_with fail
    refine (back_text hr (by omega)).mono ?_
    rintro e w6 ⟨rfl, hr6, hg6⟩
    have hW6 : Below w.heap.size w w6 := of_row hW5 hg6 hp' (Nat.le_refl _)
    clear hg6 hr hW5
    by_cases ha : xs.all isNum = true
    case pos =>
      have g2 := numsB_full (by omega) ha
      have hL := back_nums hr6 (by omega) ha
      clear ha
      go_wp2_with fail
      refine hL.mono ?_
      rintro e w7 ⟨⟨v, rfl, hown⟩, hr7, hg7⟩
      have hW7 : Below w.heap.size w w7 := of_row hW6 hg7 hp' (Nat.le_refl _)
      have hx7 := hx.grown (gb_below none hW7) (by simp)
      obtain ⟨a', c', hv'⟩ := own_shape hown
      have hy7 := Ints.of_own hown hv'
      clear hown hg7 hr6 hW6 hL g2 hx
      subst hv'
      go_wp2_with fail
      go_loopw [14] (fun i wr => ∃ k : Nat, k ≤ xs.length ∧ i = .int .i64 k ∧ w7.grownBy wr none) (fun i _ => xs.length - (intOf i).toNat)
      case atStart => exact ⟨0, Nat.zero_le _, rfl, World.grownBy.refl _ _⟩
      case round =>
        obtain ⟨k, hk, rfl, hG⟩ := hrel
        by_cases hlt : k < xs.length
        · obtain ⟨aa, rfl, h1⟩ := (hx7.grown hG (by simp)).at_ hlt
          obtain ⟨bb, rfl, h2⟩ := (hy7.grown hG (by simp)).at_ hlt
          clear hx7 hy7
          go_wp2
          go_quiet (fail)
          go_wp2
          exact ⟨⟨k + 1, by omega, by go_num, gb_trans hG (gb_drewN _ _ _)⟩, by simp [intOf]; omega⟩
        · have hr8 := hr7.below hG
          have hW8 : Below w.heap.size w wr := hW7.trans ((below_gb hG).mono hW7.size)
          clear hr7 hW7 hG hx7 hy7
          go_wp2_with fail
          refine (rd_left hr8).mono ?_
          rintro e w8 ⟨rfl, rfl⟩
          go_wp2_with fail
          refine (rd_err hr8).mono ?_
          rintro e w8 ⟨rfl, rfl⟩
          go_wp2_with fail
          refine (lives_true _).mono ?_
          rintro e w9 ⟨rfl, hb9⟩
          go_wp2
          go_ret
          exact ⟨rfl, Below.trans hW8 (hb9.mono (Below.size hW8))⟩
    case neg =>
      have hz := numsB_none ha
      have g2 : (bs (numsB xs)).toList.isEmpty = true := by rw [hz, bs_tl]; rfl
      rw [hz, List.nil_append] at hr6
      clear ha hz
      go_wp2_with fail
      refine (rd_left hr6).mono ?_
      rintro e w8 ⟨rfl, rfl⟩
      go_wp2_with fail
      refine (rd_err hr6).mono ?_
      rintro e w8 ⟨rfl, rfl⟩
      go_wp2_with fail
      refine (lives_true _).mono ?_
      rintro e w9 ⟨rfl, hb9⟩
      go_wp2
      go_ret
      exact ⟨rfl, Below.trans hW6 (hb9.mono (Below.size hW6))⟩
section
open Go.ChangeShapes Go.WideShapes Go.ChangeAt
open Go.ChangeMaps (open_string)
theorem back_contract (H : Type) (enc : TypeId × Value → H) (W : World) (base : Nat) (args : Array Value) (ds gs : List (DataW H)) (before : List MemPlace)
    (hval : ∀ (j : Nat) t v, Try.f5.params[j]? = some t → args[j]? = some v → Value.okWide Try.prog W .any base t v)
    (hW : DataW.Whole enc Try.prog Try.f5.params.toList Rows.codeBackSpec.vars false W args.toList ds gs before) (hk : Rows.uptoSmall H (ds ++ gs) = true) :
    Calls Try.prog 5 args W fun e W' => ∃ v, e = .returned v ∧ Rows.codeBackSpec.post enc Try.prog Try.f5 false true false false W args v W' := by
  have hW' := hW
  obtain ⟨p, q, hA0, hV, rfl, hfz, hnd⟩ := hW
  have hA : DataW.TrodAll enc Try.prog W 0 (fun _ => true) true Try.f5.params.toList args.toList ds p := hA0
  rw [Try.params5] at hA hval
  obtain ⟨v0, vs0, d0, ds0, p0, q0, hargs, rfl, rfl, h0, r0⟩ := trodAll_cons hA
  obtain ⟨v1, vs1, d1, ds1, p1, q1, rfl, rfl, rfl, h1, r1⟩ := trodAll_cons r0
  obtain ⟨v2, vs2, d2, ds2, p2, q2, rfl, rfl, rfl, h2, r2⟩ := trodAll_cons r1
  obtain ⟨v3, vs3, d3, ds3, p3, q3, rfl, rfl, rfl, h3, r3⟩ := trodAll_cons r2
  obtain ⟨rfl, rfl, rfl⟩ := trodAll_nil r3
  obtain rfl : args = #[v0, v1, v2, v3] := by cases args; simp_all
  obtain ⟨rfl, rfl⟩ := trodVars_none hV
  have hlt : ∀ x ∈ p2, x.block < W.heap.size := fun x hx => by simpa using hW'.lt x (by simp [hx])
  obtain ⟨n, rfl, rfl, rfl, wn⟩ := open_int Try.underlying3 (hval 0 3 v0 rfl rfl) h0
  obtain ⟨s, rfl, rfl, rfl, hmax⟩ := open_string Try.underlying9 (hval 1 9 v1 rfl rfl) h1
  obtain ⟨A, c, xs, rfl, hx, hd⟩ := open_list (hval 2 22 v2 rfl rfl) h2 hlt
  obtain ⟨t, rfl, rfl, rfl, hmax3⟩ := open_string Try.underlying9 (hval 3 9 v3 rfl rfl) h3
  have hs : s.size ≤ 1048576 := by rw [← data_len]; exact small_string hk (by simp)
  have ht : t.size ≤ 1048576 := by rw [← data_len]; exact small_string hk (by simp)
  have hl : xs.length ≤ 1048576 := by
    by_cases h : xs = []
    · simp [h]
    · obtain ⟨e, sp, rfl, he⟩ := hd h
      rw [he]
      exact small_slice (spare := sp) hk (by simp)
  refine (back_walk n s t hs ht hx hl).mono fun e W' ⟨he, hb⟩ => ?_
  subst he
  exact ⟨_, rfl, law_post rfl rfl (by rw [Try.params5]; decide +kernel) ⟨rfl, rfl, rfl⟩ hW' hb⟩
set_option maxRecDepth 100000 in
theorem back_lifted (os : Os) (started : os.Started) (H : Type) (enc : TypeId × Value → H) (F : Stop.Interp) :
    ReturnsInHanded {} Try.checked os 5 .any ((Rows.OpenSpec.upto Rows.codeBackSpec).pre6 enc Try.prog Try.f5 Rows.codeBackUptoRow.domain false) (((Rows.OpenSpec.upto Rows.codeBackSpec).at F).post enc Try.prog Try.f5 false true false false) := by
  refine returnsInHanded_of_cond (C := Try.checked) (s := Rows.OpenSpec.upto Rows.codeBackSpec) (k := Rows.uptoSmall) rfl own_knob started (by kernel_rfl) Try.func5
    (OpenSpec.witness (enc := enc) (C := Try.checked) (s := Rows.OpenSpec.upto Rows.codeBackSpec) (k := Rows.uptoSmall) rfl false ⟨#[], #[.int .i64 0, .string .empty, .slice none 0 0, .string .empty], []⟩ 8 (by kernel_rfl) (by kernel_rfl) (by kernel_rfl)
      (x := ([.lit (.int .i64 0), .lit (.string []), .nil, .lit (.string [])], [], [])) (by kernel_rfl) rfl (by kernel_rfl)) ?_
  intro W base args ds gs before hval hW _ hk _
  exact back_contract H enc W base args ds gs before hval hW hk
theorem back_holds : Rows.CodeBackUptoSaid :=
  OpenClaim.holds_of_cond 5 Try.f5 rfl rfl rfl rfl rfl rfl rfl ⟨rfl, rfl, rfl, rfl, rfl⟩ rfl rfl rfl rfl rfl (by kernel_rfl) Try.func5 (by kernel_rfl)
    (of_decide_eq_true (by kernel_rfl)) (by unfold Func.isWrapper; first | (rw [if_pos (by decide +kernel)]; kernel_rfl) | (rw [if_neg (by decide +kernel)]; exact ⟨rfl, rfl⟩))
    (fun os started H enc _ F => back_lifted os started H enc F)
end
end Go.Proofs.Ytdeilomdinmonaa
