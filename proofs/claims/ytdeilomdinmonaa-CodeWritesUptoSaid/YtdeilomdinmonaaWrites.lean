/-
  Where what comes in is of bulk at most 1048576, 'calamuslaw01.CodeWrites' answers true, and what came in reads as it did: the bytes of any number, text and list are those of the document.
-/
import Derived.Test.YtdeilomdinmonaaLives
import Derived.Test.YtdeilomdinmonaaBulk
import Derived.Test.YtdeilomdinmonaaFrame
namespace Go.Proofs.Ytdeilomdinmonaa
open Go.RowKit
theorem eq_self (l : List UInt8) : (l == l) = true := by simp
set_option maxHeartbeats 800000 in
set_option maxRecDepth 100000 in
theorem writes_walk (n : Int) (s : ByteArray) {A : Option Addr} {c : Nat} {xs : List Int} {w : World} (hs : s.size ≤ 2147483647) (hx : Ints w A xs) (hl : xs.length ≤ 2147483647) :
    Calls Try.prog 3 #[.int .i64 n, .string s, .slice A xs.length c] w fun e w' => e = .returned (.bool true) ∧ Below w.heap.size w w' := by
  have t1 := eq_self (bs (numB n)).toList
  have t2 := eq_self (bs (numB s.size ++ s.data.toList)).toList
  have t3 := eq_self (bs (numsB xs)).toList
  go_enter Try.func3, Try.ntmps3
  go_wp2_with fail
  refine (code_num _ _).mono ?_
  rintro e w1 ⟨rfl, hb1⟩
  go_wp2_with fail
  refine (ref_num _ _).mono ?_
  rintro e w2 ⟨rfl, hb2⟩
  have hW2 : Below w.heap.size w w2 := hb1.trans (hb2.mono hb1.size)
  clear hb1 hb2
  go_wp2_with fail
  refine (code_text s _ hs).mono ?_
  rintro e w3 ⟨rfl, hb3⟩
  go_wp2_with fail
  refine (ref_text s _ hs).mono ?_
  rintro e w4 ⟨rfl, hb4⟩
  have hW4 : Below w.heap.size w w4 := (hW2.trans (hb3.mono hW2.size)).trans (hb4.mono (Nat.le_trans hW2.size hb3.size))
  clear hb3 hb4 hW2
  go_wp2_with fail
  refine (code_nums (hx.grown (gb_below none hW4) (by simp)) hl).mono ?_
  rintro e w5 ⟨rfl, hb5⟩
  have hW5 : Below w.heap.size w w5 := hW4.trans (hb5.mono hW4.size)
  clear hb5 hW4
  go_wp2_with fail
  refine (ref_nums (hx.grown (gb_below none hW5) (by simp)) hl).mono ?_
  rintro e w6 ⟨rfl, hb6⟩
  have hW6 : Below w.heap.size w w6 := hW5.trans (hb6.mono hW5.size)
  clear hb6 hW5
  go_wp2_with fail
  refine (lives_true _).mono ?_
  rintro e w7 ⟨rfl, hb7⟩
  go_wp2
  go_ret
  exact ⟨rfl, hW6.trans (hb7.mono hW6.size)⟩
section
open Go.ChangeShapes Go.WideShapes Go.ChangeAt
open Go.ChangeMaps (open_string)
theorem writes_contract (H : Type) (enc : TypeId × Value → H) (W : World) (base : Nat) (args : Array Value) (ds gs : List (DataW H)) (before : List MemPlace)
    (hval : ∀ (j : Nat) t v, Try.f3.params[j]? = some t → args[j]? = some v → Value.okWide Try.prog W .any base t v)
    (hW : DataW.Whole enc Try.prog Try.f3.params.toList Rows.codeWritesSpec.vars false W args.toList ds gs before) (hk : Rows.uptoSmall H (ds ++ gs) = true) :
    Calls Try.prog 3 args W fun e W' => ∃ v, e = .returned v ∧ Rows.codeWritesSpec.post enc Try.prog Try.f3 false true false false W args v W' := by
  have hW' := hW
  obtain ⟨p, q, hA0, hV, rfl, hfz, hnd⟩ := hW
  have hA : DataW.TrodAll enc Try.prog W 0 (fun _ => true) true Try.f3.params.toList args.toList ds p := hA0
  rw [Try.params3] at hA hval
  obtain ⟨v0, vs0, d0, ds0, p0, q0, hargs, rfl, rfl, h0, r0⟩ := trodAll_cons hA
  obtain ⟨v1, vs1, d1, ds1, p1, q1, rfl, rfl, rfl, h1, r1⟩ := trodAll_cons r0
  obtain ⟨v2, vs2, d2, ds2, p2, q2, rfl, rfl, rfl, h2, r2⟩ := trodAll_cons r1
  obtain ⟨rfl, rfl, rfl⟩ := trodAll_nil r2
  obtain rfl : args = #[v0, v1, v2] := by cases args; simp_all
  obtain ⟨rfl, rfl⟩ := trodVars_none hV
  have hlt : ∀ x ∈ p2, x.block < W.heap.size := fun x hx => by simpa using hW'.lt x (by simp [hx])
  obtain ⟨n, rfl, rfl, rfl, wn⟩ := open_int Try.underlying3 (hval 0 3 v0 rfl rfl) h0
  obtain ⟨s, rfl, rfl, rfl, hmax⟩ := open_string Try.underlying9 (hval 1 9 v1 rfl rfl) h1
  obtain ⟨A, c, xs, rfl, hx, hd⟩ := open_list (hval 2 22 v2 rfl rfl) h2 hlt
  have hs : s.size ≤ 1048576 := by rw [← data_len]; exact small_string hk (by simp)
  have hl : xs.length ≤ 1048576 := by
    by_cases h : xs = []
    · simp [h]
    · obtain ⟨e, sp, rfl, he⟩ := hd h
      rw [he]
      exact small_slice (spare := sp) hk (by simp)
  refine (writes_walk n s (by omega) hx (by omega)).mono fun e W' ⟨he, hb⟩ => ?_
  subst he
  exact ⟨_, rfl, law_post rfl rfl (by rw [Try.params3]; decide +kernel) ⟨rfl, rfl, rfl⟩ hW' hb⟩
set_option maxRecDepth 100000 in
theorem writes_lifted (os : Os) (started : os.Started) (H : Type) (enc : TypeId × Value → H) (F : Stop.Interp) :
    ReturnsInHanded {} Try.checked os 3 .any ((Rows.OpenSpec.upto Rows.codeWritesSpec).pre6 enc Try.prog Try.f3 Rows.codeWritesUptoRow.domain false) (((Rows.OpenSpec.upto Rows.codeWritesSpec).at F).post enc Try.prog Try.f3 false true false false) := by
  refine returnsInHanded_of_cond (C := Try.checked) (s := Rows.OpenSpec.upto Rows.codeWritesSpec) (k := Rows.uptoSmall) rfl own_knob started (by kernel_rfl) Try.func3
    (OpenSpec.witness (enc := enc) (C := Try.checked) (s := Rows.OpenSpec.upto Rows.codeWritesSpec) (k := Rows.uptoSmall) rfl false ⟨#[], #[.int .i64 0, .string .empty, .slice none 0 0], []⟩ 8 (by kernel_rfl) (by kernel_rfl) (by kernel_rfl)
      (x := ([.lit (.int .i64 0), .lit (.string []), .nil], [], [])) (by kernel_rfl) rfl (by kernel_rfl)) ?_
  intro W base args ds gs before hval hW _ hk _
  exact writes_contract H enc W base args ds gs before hval hW hk
theorem writes_holds : Rows.CodeWritesUptoSaid :=
  OpenClaim.holds_of_cond 3 Try.f3 rfl rfl rfl rfl rfl rfl rfl ⟨rfl, rfl, rfl, rfl, rfl⟩ rfl rfl rfl rfl rfl (by kernel_rfl) Try.func3 (by kernel_rfl)
    (of_decide_eq_true (by kernel_rfl)) (by unfold Func.isWrapper; first | (rw [if_pos (by decide +kernel)]; kernel_rfl) | (rw [if_neg (by decide +kernel)]; exact ⟨rfl, rfl⟩))
    (fun os started H enc _ F => writes_lifted os started H enc F)
end
end Go.Proofs.Ytdeilomdinmonaa
