/-
  'calamuslaw01.CodeOnce' answers true for every input, and what came in reads as it did: of what is read the bytes are those that were there; nobody reads nothing.
-/
import Derived.Test.YtdeilomdinmonaaOncePlain
import Derived.Test.YtdeilomdinmonaaNobody
import Derived.Deep.DeepCutAuto
import Derived.SizedLaws
import Derived.Test.YtdeilomdinmonaaLives
import Derived.Test.YtdeilomdinmonaaFrame
namespace Go.Proofs.Ytdeilomdinmonaa
open Go.RowKit
theorem rd_apart {a b : Nat} {l l' : List UInt8} {e e' : Int} {w w' : World} (h : Rd b l e w) (k : Rd a l' e' w) (hn : a ≠ b) (g : w.grownBy w' (some a)) : Rd b l e w' := by
  obtain ⟨c1, c2, s, h⟩ := h
  obtain ⟨d1, d2, t, k⟩ := k
  refine ⟨c1, c2, s, h.grown g ?_ ?_ ?_⟩
  · intro x; injection x with x; exact hn x.symm
  · intro x; injection x with x; exact h.b1.ne_ k.self (by decide) x
  · intro x; injection x with x; exact h.b2.ne_ k.self (by decide) x
theorem rd_text_at {p : Nat} {l : List UInt8} {err e most : Int} {t r : List UInt8} {w : World} (h : Rd p l err w) (hq : rdText most l err = (t, r, e)) :
    Calls Try.prog 17 #[.pointer (some ⟨p, 0, none⟩), .int .i64 most] w fun x w' => x = .returned (.string (bs t)) ∧ Rd p r e w' ∧ w.grownBy w' (some p) := by
  have := rd_text most h
  rw [hq] at this
  exact this
theorem rd_nums_at {p : Nat} {l : List UInt8} {err e most : Int} {xs : List Int} {r : List UInt8} {w : World} (h : Rd p l err w) (hq : rdNums most l err = (xs, r, e)) :
    Calls Try.prog 20 #[.pointer (some ⟨p, 0, none⟩), .int .i64 most] w fun x w' => GotInts w.heap.size xs x w' ∧ Rd p r e w' ∧ w.grownBy w' (some p) := by
  have := rd_nums most h
  rw [hq] at this
  exact this
set_option maxHeartbeats 1600000 in
set_option maxRecDepth 100000 in
theorem once_walk (s : ByteArray) (most : Int) {w : World} (hs : s.size ≤ 140737488351232) :
    Calls Try.prog 6 #[.string s, .int .i64 most] w fun e w' => e = .returned (.bool true) ∧ Below w.heap.size w w' := by
  have hm : s.size ≤ maxLen := by unfold maxLen; omega
  obtain ⟨n, r1, e1, hq1⟩ : ∃ n r e, rdNum s.data.toList 0 = (n, r, e) := ⟨_, _, _, rfl⟩
  obtain ⟨t, r2, e2, hq2⟩ : ∃ n r e, rdText most s.data.toList 0 = (n, r, e) := ⟨_, _, _, rfl⟩
  obtain ⟨xs, r3, e3, hq3⟩ : ∃ n r e, rdNums most s.data.toList 0 = (n, r, e) := ⟨_, _, _, rfl⟩
  have d1 : decide ((r1.length : Int) < 0) = false := by simp
  have d2 : decide ((r2.length : Int) < 0) = false := by simp
  have d3 : decide ((r3.length : Int) < 0) = false := by simp
  have Q1 := Lib.hid hq1
  have Q2 := Lib.hid hq2
  have Q3 := Lib.hid hq3
  clear hq1 hq2 hq3
  go_enter Try.func6, Try.ntmps6
  go_wp2_with fail
  refine (new_reader _ _ hm).mono ?_
  rintro e w1 ⟨⟨a, rfl, ha, hra⟩, hW1⟩
  go_wp2_with fail
  refine (new_reader _ _ hm).mono ?_
  rintro e w2 ⟨⟨b, rfl, hb, hrb⟩, hb2⟩
  have hW2 : Below w.heap.size w w2 := hW1.trans (hb2.mono hW1.size)
  have hab : a ≠ b := by have := hra.lt; omega
  have hra2 := hra.below (gb_below none hb2)
  have hb' := Nat.le_trans hW1.size hb
  clear hra hW1 hb2 hb
  go_wp2_with fail
  refine (new_reader _ _ hm).mono ?_
  rintro e w3 ⟨⟨c, rfl, hc, hrc⟩, hb3⟩
  have hW3 : Below w.heap.size w w3 := hW2.trans (hb3.mono hW2.size)
  have hac : a ≠ c := by have := hra2.lt; omega
  have hbc : b ≠ c := by have := hrb.lt; omega
  have hra3 := hra2.below (gb_below none hb3)
  have hrb3 := hrb.below (gb_below none hb3)
  have hc' := Nat.le_trans hW2.size hc
  clear hra2 hrb hW2 hb3 hc
  have hN := rd_num_at hra3 Q1.out
  go_wp2_with fail
  refine hN.mono ?_
  rintro e w4 ⟨rfl, hra4, hg⟩
  have hW4 := of_row hW3 hg ha (Nat.le_refl _)
  have hrb4 := rd_apart hrb3 hra3 hab hg
  have hrc4 := rd_apart hrc hra3 hac hg
  have hT := rd_text_at hrb4 Q2.out
  clear hN hrb3 hra3 hrc hW3 hg
  go_wp2_with fail
  refine hT.mono ?_
  rintro e w5 ⟨rfl, hrb5, hg⟩
  have hW5 := of_row hW4 hg hb' (Nat.le_refl _)
  have hra5 := rd_apart hra4 hrb4 hab.symm hg
  have hrc5 := rd_apart hrc4 hrb4 hbc hg
  have hL := rd_nums_at hrc5 Q3.out
  clear hT hrb4 hra4 hrc4 hW4 hg
  go_wp2_with fail
  refine hL.mono ?_
  rintro e w6 ⟨⟨v, rfl, hown⟩, hrc6, hg⟩
  have hW6 := of_row hW5 hg hc' (Nat.le_refl _)
  have hra6 := rd_apart hra5 hrc5 hac.symm hg
  have hrb6 := rd_apart hrb5 hrc5 hbc.symm hg
  obtain ⟨va, vc, hv'⟩ := own_shape hown
  have hx6 := Ints.of_own hown hv'
  clear hL hra5 hrb5 hrc5 hW5 hg hown
  subst hv'
  go_wp2_with fail
  refine (rd_left hra6).mono ?_
  rintro e w7 ⟨rfl, rfl⟩
  go_wp2_with fail
  refine (rd_left hrb6).mono ?_
  rintro e w7 ⟨rfl, rfl⟩
  go_wp2_with fail
  refine (rd_left hrc6).mono ?_
  rintro e w7 ⟨rfl, rfl⟩
  go_upto_region 5 with (fail)
  go_cut [103] from 13 (fun v wx => v = .bool false ∧ Below w.heap.size w wx)
  case first =>
    go_wp2_with fail
    refine (rd_err hra6).mono ?_
    rintro e w7 ⟨rfl, rfl⟩
    by_cases he : e1 = 0
    case pos =>
      subst he
      have hf := (once_num Q1.out).1
      have f1 := slice_back s hf
      have f2 := slice_room s hf hs
      have f3 : r1.length ≤ s.size := by rw [← data_len, hf]; simp only [List.length_append]; omega
      clear hf
      go_wp2_with fail
      refine (code_num _ _).mono ?_
      rintro e w8 ⟨rfl, hb⟩
      have hW7 := hW6.trans (hb.mono hW6.size)
      have hra7 := hra6.below (gb_below none hb)
      have hrb7 := hrb6.below (gb_below none hb)
      have hrc7 := hrc6.below (gb_below none hb)
      have hx7 := hx6.grown (gb_below none hb) (by simp)
      clear hb hW6 hra6 hrb6 hrc6 hx6
      go_wp2_with fail
      refine (rd_left hra7).mono ?_
      rintro e w9 ⟨rfl, rfl⟩
      go_wp2_with fail
      refine (rd_err hrb7).mono ?_
      rintro e w10 ⟨rfl, rfl⟩
      by_cases he : e2 = 0
      case pos =>
        subst he
        have hf : s.data.toList = numB (bs t).size ++ (bs t).data.toList ++ r2 := by have := (once_text Q2.out).1; rw [bs_size, bs_toList, List.append_assoc]; exact this
        have ft : (bs t).size ≤ 2147483647 := by rw [bs_size]; exact (once_text Q2.out).2
        have f1 := slice_back s hf
        have f2 := slice_room s hf hs
        have f3 : r2.length ≤ s.size := by rw [← data_len, hf]; simp only [List.length_append]; omega
        clear hf
        go_wp2_with fail
        refine (code_text _ _ ft).mono ?_
        rintro e w11 ⟨rfl, hb⟩
        have hW8 := hW7.trans (hb.mono hW7.size)
        have hra8 := hra7.below (gb_below none hb)
        have hrb8 := hrb7.below (gb_below none hb)
        have hrc8 := hrc7.below (gb_below none hb)
        have hx8 := hx7.grown (gb_below none hb) (by simp)
        clear hb hW7 hra7 hrb7 hrc7 hx7
        go_wp2_with fail
        refine (rd_left hrb8).mono ?_
        rintro e w12 ⟨rfl, rfl⟩
        go_wp2_with fail
        refine (rd_err hrc8).mono ?_
        rintro e w13 ⟨rfl, rfl⟩
        by_cases he : e3 = 0
        case pos =>
          subst he
          have hf := (once_nums Q3.out).1
          have fl := (once_nums Q3.out).2
          have f1 := slice_back s hf
          have f2 := slice_room s hf hs
          have f3 : r3.length ≤ s.size := by rw [← data_len, hf]; simp only [List.length_append]; omega
          clear hf
          go_wp2_with fail
          refine (code_nums hx8 fl).mono ?_
          rintro e w14 ⟨rfl, hb⟩
          have hW9 := hW8.trans (hb.mono hW8.size)
          have hra9 := hra8.below (gb_below none hb)
          have hrb9 := hrb8.below (gb_below none hb)
          have hrc9 := hrc8.below (gb_below none hb)
          have hx9 := hx8.grown (gb_below none hb) (by simp)
          clear hb hW8 hra8 hrb8 hrc8 hx8
          go_wp2_with fail
          refine (rd_left hrc9).mono ?_
          rintro e w15 ⟨rfl, rfl⟩
          go_wp2_with fail
          go_meet
          exact ⟨rfl, hW9⟩
        case neg =>
          have hg : (e3 == 0) = false := by simp [he]
          clear he
          go_wp2_with fail
          go_meet
          exact ⟨rfl, hW8⟩
      case neg =>
        have hg : (e2 == 0) = false := by simp [he]
        clear he
        go_wp2_with fail
        refine (rd_err hrc7).mono ?_
        rintro e w11 ⟨rfl, rfl⟩
        by_cases he : e3 = 0
        case pos =>
          subst he
          have hf := (once_nums Q3.out).1
          have fl := (once_nums Q3.out).2
          have f1 := slice_back s hf
          have f2 := slice_room s hf hs
          have f3 : r3.length ≤ s.size := by rw [← data_len, hf]; simp only [List.length_append]; omega
          clear hf
          go_wp2_with fail
          refine (code_nums hx7 fl).mono ?_
          rintro e w12 ⟨rfl, hb⟩
          have hW8 := hW7.trans (hb.mono hW7.size)
          have hra8 := hra7.below (gb_below none hb)
          have hrb8 := hrb7.below (gb_below none hb)
          have hrc8 := hrc7.below (gb_below none hb)
          have hx8 := hx7.grown (gb_below none hb) (by simp)
          clear hb hW7 hra7 hrb7 hrc7 hx7
          go_wp2_with fail
          refine (rd_left hrc8).mono ?_
          rintro e w13 ⟨rfl, rfl⟩
          go_wp2_with fail
          go_meet
          exact ⟨rfl, hW8⟩
        case neg =>
          have hg : (e3 == 0) = false := by simp [he]
          clear he
          go_wp2_with fail
          go_meet
          exact ⟨rfl, hW7⟩
    case neg =>
      have hg : (e1 == 0) = false := by simp [he]
      clear he
      go_wp2_with fail
      refine (rd_err hrb6).mono ?_
      rintro e w8 ⟨rfl, rfl⟩
      by_cases he : e2 = 0
      case pos =>
        subst he
        have hf : s.data.toList = numB (bs t).size ++ (bs t).data.toList ++ r2 := by have := (once_text Q2.out).1; rw [bs_size, bs_toList, List.append_assoc]; exact this
        have ft : (bs t).size ≤ 2147483647 := by rw [bs_size]; exact (once_text Q2.out).2
        have f1 := slice_back s hf
        have f2 := slice_room s hf hs
        have f3 : r2.length ≤ s.size := by rw [← data_len, hf]; simp only [List.length_append]; omega
        clear hf
        go_wp2_with fail
        refine (code_text _ _ ft).mono ?_
        rintro e w9 ⟨rfl, hb⟩
        have hW7 := hW6.trans (hb.mono hW6.size)
        have hra7 := hra6.below (gb_below none hb)
        have hrb7 := hrb6.below (gb_below none hb)
        have hrc7 := hrc6.below (gb_below none hb)
        have hx7 := hx6.grown (gb_below none hb) (by simp)
        clear hb hW6 hra6 hrb6 hrc6 hx6
        go_wp2_with fail
        refine (rd_left hrb7).mono ?_
        rintro e w10 ⟨rfl, rfl⟩
        go_wp2_with fail
        refine (rd_err hrc7).mono ?_
        rintro e w11 ⟨rfl, rfl⟩
        by_cases he : e3 = 0
        case pos =>
          subst he
          have hf := (once_nums Q3.out).1
          have fl := (once_nums Q3.out).2
          have f1 := slice_back s hf
          have f2 := slice_room s hf hs
          have f3 : r3.length ≤ s.size := by rw [← data_len, hf]; simp only [List.length_append]; omega
          clear hf
          go_wp2_with fail
          refine (code_nums hx7 fl).mono ?_
          rintro e w12 ⟨rfl, hb⟩
          have hW8 := hW7.trans (hb.mono hW7.size)
          have hra8 := hra7.below (gb_below none hb)
          have hrb8 := hrb7.below (gb_below none hb)
          have hrc8 := hrc7.below (gb_below none hb)
          have hx8 := hx7.grown (gb_below none hb) (by simp)
          clear hb hW7 hra7 hrb7 hrc7 hx7
          go_wp2_with fail
          refine (rd_left hrc8).mono ?_
          rintro e w13 ⟨rfl, rfl⟩
          go_wp2_with fail
          go_meet
          exact ⟨rfl, hW8⟩
        case neg =>
          have hg : (e3 == 0) = false := by simp [he]
          clear he
          go_wp2_with fail
          go_meet
          exact ⟨rfl, hW7⟩
      case neg =>
        have hg : (e2 == 0) = false := by simp [he]
        clear he
        go_wp2_with fail
        refine (rd_err hrc6).mono ?_
        rintro e w9 ⟨rfl, rfl⟩
        by_cases he : e3 = 0
        case pos =>
          subst he
          have hf := (once_nums Q3.out).1
          have fl := (once_nums Q3.out).2
          have f1 := slice_back s hf
          have f2 := slice_room s hf hs
          have f3 : r3.length ≤ s.size := by rw [← data_len, hf]; simp only [List.length_append]; omega
          clear hf
          go_wp2_with fail
          refine (code_nums hx6 fl).mono ?_
          rintro e w10 ⟨rfl, hb⟩
          have hW7 := hW6.trans (hb.mono hW6.size)
          have hra7 := hra6.below (gb_below none hb)
          have hrb7 := hrb6.below (gb_below none hb)
          have hrc7 := hrc6.below (gb_below none hb)
          have hx7 := hx6.grown (gb_below none hb) (by simp)
          clear hb hW6 hra6 hrb6 hrc6 hx6
          go_wp2_with fail
          refine (rd_left hrc7).mono ?_
          rintro e w11 ⟨rfl, rfl⟩
          go_wp2_with fail
          go_meet
          exact ⟨rfl, hW7⟩
        case neg =>
          have hg : (e3 == 0) = false := by simp [he]
          clear he
          go_wp2_with fail
          go_meet
          exact ⟨rfl, hW6⟩
  case rest =>
    obtain ⟨rfl, hW⟩ := hcut
    clear hW6 hra6 hrb6 hrc6 hx6
    go_wp2_with fail
    refine (nil_num _).mono ?_
    rintro e w7 ⟨rfl, rfl⟩
    go_wp2_with fail
    refine (nil_text _ _).mono ?_
    rintro e w7 ⟨rfl, rfl⟩
    go_wp2_with fail
    refine (nil_nums _ _).mono ?_
    rintro e w7 ⟨rfl, rfl⟩
    go_wp2_with fail
    refine (nil_left _).mono ?_
    rintro e w7 ⟨rfl, rfl⟩
    go_wp2_with fail
    refine (nil_err _).mono ?_
    rintro e w7 ⟨rfl, rfl⟩
    go_wp2_with fail
    refine (zero_left (Blk.new _ _ _)).mono ?_
    rintro e w7 ⟨rfl, hr, hg⟩
    have hW7 : Below w.heap.size w w7 := of_row (hW.alloc hW.size _) hg hW.size (Nat.le_refl _)
    have hp : w.heap.size ≤ wc.heap.size := hW.size
    have hN := rd_num_at hr (r := []) (n := 0) (e := 2) (by decide)
    clear hW hg
    go_wp2_with fail
    refine hN.mono ?_
    rintro e w8 ⟨rfl, hr8, hg⟩
    have hW8 : Below w.heap.size w w8 := of_row hW7 hg hp (Nat.le_refl _)
    clear hN hr hg hW7
    go_wp2_with fail
    refine (rd_err hr8).mono ?_
    rintro e w9 ⟨rfl, rfl⟩
    go_wp2_with fail
    refine (lives_true _).mono ?_
    rintro e w9 ⟨rfl, hb9⟩
    go_wp2
    go_ret
    exact ⟨rfl, hW8.trans (hb9.mono hW8.size)⟩
section
open Go.ChangeShapes Go.WideShapes Go.ChangeAt
open Go.ChangeMaps (open_string)
set_option maxRecDepth 100000 in
theorem once_lifted (os : Os) (started : os.Started) (H : Type) (enc : TypeId × Value → H) :
    ReturnsInHanded {} Try.checked os 6 .any (Rows.codeOnceSpec.pre6 enc Try.prog Try.f6 Rows.codeOnceRow.domain false) (Rows.codeOnceSpec.post enc Try.prog Try.f6 false true false false) := by
  refine returnsInHanded_of_change_sized (C := Try.checked) own_knob started (by kernel_rfl) Try.func6
    (ChangeSpec.witness6 (enc := enc) (C := Try.checked) false ⟨#[], #[.string .empty, .int .i64 0], []⟩ 8 (by kernel_rfl) (by kernel_rfl) (by kernel_rfl) (by kernel_rfl)) ?_
  intro W base args ds gs before hval0 hW _ hsz0 _
  have hsz : (DataW.weightsEach Try.prog (Try.f6.params.toList ++ Rows.codeOnceSpec.plain.varTypes Try.prog) (ds ++ gs)).all (· ≤ reachBytes) = true := hsz0
  clear hsz0
  have hval : ∀ (j : Nat) t v, Try.f6.params[j]? = some t → args[j]? = some v → Value.okWide Try.prog W .any base t v := hval0
  have hW' := hW
  obtain ⟨p, q, hA0, hV, rfl, hfz, hnd⟩ := hW
  have hA : DataW.TrodAll enc Try.prog W 0 (fun _ => true) true Try.f6.params.toList args.toList ds p := hA0
  rw [Try.params6] at hA hval hsz
  obtain ⟨v0, vs0, d0, ds0, p0, q0, hargs, rfl, rfl, h0, r0⟩ := trodAll_cons hA
  obtain ⟨v1, vs1, d1, ds1, p1, q1, rfl, rfl, rfl, h1, r1⟩ := trodAll_cons r0
  obtain ⟨rfl, rfl, rfl⟩ := trodAll_nil r1
  obtain rfl : args = #[v0, v1] := by cases args; simp_all
  obtain ⟨rfl, rfl⟩ := trodVars_none hV
  obtain ⟨s, rfl, rfl, rfl, hmax⟩ := open_string Try.underlying9 (hval 0 9 v0 rfl rfl) h0
  obtain ⟨n, rfl, rfl, rfl, wn⟩ := open_int Try.underlying3 (hval 1 3 v1 rfl rfl) h1
  have hs : s.size ≤ 140737488351232 := by rw [← data_len]; exact sized_string hsz (j := 0) (t := 9) rfl rfl
  refine (once_walk s n hs).mono fun e W' ⟨he, hb⟩ => ?_
  subst he
  exact ⟨_, rfl, law_post rfl rfl (by rw [Try.params6]; decide +kernel) ⟨rfl, rfl, rfl⟩ hW' hb⟩
theorem once_holds : Rows.CodeOnceSaid :=
  OpenClaim.holds_of_wide 6 Try.f6 rfl rfl rfl rfl rfl rfl rfl ⟨rfl, rfl, rfl, rfl, rfl⟩ rfl rfl rfl rfl rfl (by kernel_rfl) Try.func6 (by kernel_rfl)
    (of_decide_eq_true (by kernel_rfl)) (by unfold Func.isWrapper; first | (rw [if_pos (by decide +kernel)]; kernel_rfl) | (rw [if_neg (by decide +kernel)]; exact ⟨rfl, rfl⟩))
    (fun os started H enc _ => once_lifted os started H enc)
end
end Go.Proofs.Ytdeilomdinmonaa
