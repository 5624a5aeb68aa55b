/-
  'calamuslaw20.LookRound' answers true for every text, every pattern and whatever numbers: from where a pattern stands, as often as it stands anywhere, Next leads there again, and back undoes on.
-/
import Derived.Test.YtpgonbibekffhaaLookLives
import Derived.Test.YtpgonbibekffhaaLookRef
namespace Go.Proofs.Ytpgonbibekffhaa
open Go.RowKit
namespace Look
theorem place_zero {s p : List UInt8} (h : all s p ≠ []) : Utf.place s 0 = true := by
  obtain ⟨x, hx⟩ := List.exists_mem_of_ne_nil _ h
  have hk := (all_mem hx).1
  simp only [ok, Bool.and_eq_true] at hk
  obtain ⟨rs, hd⟩ := Option.isSome_iff_exists.1 hk.1.1
  exact (Utf.place_iff hd).2 ⟨0, Nat.zero_le _, by simp [Utf.off_zero]⟩
end Look
set_option maxHeartbeats 1000000 in
set_option maxRecDepth 100000 in
theorem lookRound_out (s p : ByteArray) (k n : Int) (h : 500 < s.size ∨ n < 1 ∨ 1000 < n) (w : World) :
    Calls Try.prog 5 #[.string s, .string p, .int .i64 k, .int .i64 n] w fun e w' => e = .returned (.bool true) ∧ Below w.heap.size w w' := by
  by_cases h1 : 500 < s.size
  · have g0 : decide ((500 : Int) < (s.size : Int)) = true := by simp; omega
    go_enter Try.func5, Try.ntmps5
    go_wp2_with fail
    refine (look_lives _).mono ?_
    rintro e w1 ⟨rfl, hb⟩
    go_wp2
    go_ret
    exact ⟨rfl, hb⟩
  have g0 : decide ((500 : Int) < (s.size : Int)) = false := by simp; omega
  by_cases h2 : n < 1
  · have g2 : decide (n < 1) = true := by simp [h2]
    go_enter Try.func5, Try.ntmps5
    go_wp2_with fail
    refine (look_lives _).mono ?_
    rintro e w1 ⟨rfl, hb⟩
    go_wp2
    go_ret
    exact ⟨rfl, hb⟩
  have g2 : decide (n < 1) = false := by simp; omega
  have g3 : decide (1000 < n) = true := by simp; omega
  go_enter Try.func5, Try.ntmps5
  go_wp2_with fail
  refine (look_lives _).mono ?_
  rintro e w1 ⟨rfl, hb⟩
  go_wp2
  go_ret
  exact ⟨rfl, hb⟩
set_option maxHeartbeats 1000000 in
set_option maxRecDepth 100000 in
theorem lookRound_none (s p : ByteArray) (k n : Int) (hp : p.size ≤ 140737488355328) (h : ¬ (500 < s.size ∨ n < 1 ∨ 1000 < n)) (hk : Look.all s.data.toList p.data.toList = [] ∨ k < 0 ∨ ((Look.all s.data.toList p.data.toList).length : Int) ≤ k) (w : World) :
    Calls Try.prog 5 #[.string s, .string p, .int .i64 k, .int .i64 n] w fun e w' => e = .returned (.bool true) ∧ Below w.heap.size w w' := by
  have g0 : decide ((500 : Int) < (s.size : Int)) = false := by simp; omega
  have g2 : decide (n < 1) = false := by simp; omega
  have g3 : decide (1000 < n) = false := by simp; omega
  have A := Lib.hid (look_All s p (by omega) hp)
  have B := Lib.hid (look_Next s 0 p false n (by omega) hp (by omega))
  have C := Lib.hid look_lives
  by_cases h0 : Look.all s.data.toList p.data.toList = []
  · rw [Look.res_no (.inl h0)] at B
    rw [h0] at A
    have hX := Below.refl w.heap.size w
    clear h hk h0
    go_enter Try.func5, Try.ntmps5
    go_wp2_with (first
      | (go_at_call 8; refine (A.out _).mono ?_; rintro e w1 ⟨⟨v, rfl, hr⟩, hb⟩; obtain ⟨a, c, rfl⟩ := own_shape hr; replace hX := Look.on hX hb; clear hr hb)
      | (go_at_call 10; refine (B.out _).mono ?_; rintro e w2 ⟨rfl, hb⟩; replace hX := Look.on hX hb; clear hb)
      | (go_at_call 6; refine (C.out _).mono ?_; rintro e w3 ⟨rfl, hb⟩; replace hX := Look.on hX hb; clear hb))
    go_ret
    exact ⟨rfl, hX⟩
  · rw [Look.res_at h0 (Look.place_zero h0)] at B
    have hk2 := hk.resolve_left h0
    have hL := List.length_pos_iff.2 h0
    have hX := Below.refl w.heap.size w
    generalize Look.nx (Look.all s.data.toList p.data.toList) 0 false (max n 1).toNat = V at *
    generalize Look.all s.data.toList p.data.toList = L at *
    have g4 : ((L.length : Int) == 0) = false := by simp; omega
    have g5 : decide (0 < (L.length : Int)) = true := by simp; omega
    have g6 : decide (0 < L.length) = true := by simp; omega
    rcases hk2 with h1 | h1
    · have g7 : decide (k < 0) = true := by simp [h1]
      clear h hk h0 hL h1
      go_enter Try.func5, Try.ntmps5
      go_wp2_with (first
        | (go_at_call 8; refine (A.out _).mono ?_; rintro e w1 ⟨⟨v, rfl, hr⟩, hb⟩; obtain ⟨a, c, rfl⟩ := own_shape hr; replace hX := Look.on hX hb; clear hr hb)
        | (go_at_call 10; refine (B.out _).mono ?_; rintro e w2 ⟨rfl, hb⟩; replace hX := Look.on hX hb; clear hb)
        | (go_at_call 6; refine (C.out _).mono ?_; rintro e w3 ⟨rfl, hb⟩; replace hX := Look.on hX hb; clear hb))
      go_ret
      exact ⟨rfl, hX⟩
    · have g7 : decide (k < 0) = false := by simp; omega
      have g8 : decide ((L.length : Int) ≤ k) = true := by simp [h1]
      clear h hk h0 hL h1
      go_enter Try.func5, Try.ntmps5
      go_wp2_with (first
        | (go_at_call 8; refine (A.out _).mono ?_; rintro e w1 ⟨⟨v, rfl, hr⟩, hb⟩; obtain ⟨a, c, rfl⟩ := own_shape hr; replace hX := Look.on hX hb; clear hr hb)
        | (go_at_call 10; refine (B.out _).mono ?_; rintro e w2 ⟨rfl, hb⟩; replace hX := Look.on hX hb; clear hb)
        | (go_at_call 6; refine (C.out _).mono ?_; rintro e w3 ⟨rfl, hb⟩; replace hX := Look.on hX hb; clear hb))
      go_ret
      exact ⟨rfl, hX⟩
set_option maxHeartbeats 4000000 in
set_option maxRecDepth 100000 in
theorem lookRound_main (s p : ByteArray) (k n : Int) (hp : p.size ≤ 140737488355328) (h : ¬ (500 < s.size ∨ n < 1 ∨ 1000 < n)) (hk : ¬ (Look.all s.data.toList p.data.toList = [] ∨ k < 0 ∨ ((Look.all s.data.toList p.data.toList).length : Int) ≤ k)) (w : World) :
    Calls Try.prog 5 #[.string s, .string p, .int .i64 k, .int .i64 n] w fun e w' => e = .returned (.bool true) ∧ Below w.heap.size w w' := by
  have g0 : decide ((500 : Int) < (s.size : Int)) = false := by simp; omega
  have g2 : decide (n < 1) = false := by simp; omega
  have g3 : decide (1000 < n) = false := by simp; omega
  have h0 : Look.all s.data.toList p.data.toList ≠ [] := fun e => hk (.inl e)
  have hL := List.length_pos_iff.2 h0
  have hal := Look.all_length s.data.toList p.data.toList
  rw [data_len] at hal
  obtain ⟨kn, rfl⟩ : ∃ kn : Nat, k = kn := ⟨k.toNat, by omega⟩
  have hkl : kn < (Look.all s.data.toList p.data.toList).length := by omega
  have hup := Look.all_up s.data.toList p.data.toList
  have hx := List.getElem?_eq_getElem hkl
  obtain ⟨nn, rfl⟩ : ∃ nn : Nat, n = nn := ⟨n.toNat, by omega⟩
  have hmn : (max (nn : Int) 1).toNat = nn := by omega
  have hml : (max ((Look.all s.data.toList p.data.toList).length : Int) 1).toNat = (Look.all s.data.toList p.data.toList).length := by omega
  have hx0 := (Look.all_mem (List.mem_of_getElem? hx)).2
  obtain ⟨_, x0, hxe, _, _, hx0p⟩ := Look.all_mem (List.mem_of_getElem? hx)
  rw [hxe] at hx hx0p
  obtain ⟨_, m, hme, hmr, hma, hmp⟩ := Look.all_mem (Look.nx_mem h0 (x0 : Int) false nn)
  have hround := Look.nx_round hup hx
  have hundo := Look.nx_undo hup hx (n := nn) (by omega)
  rw [hme] at hundo
  have A := Lib.hid (look_All s p (by omega) hp)
  have N1 := Lib.hid (fun w => by
    have := look_Next s (x0 : Nat) p false ((Look.all s.data.toList p.data.toList).length : Nat) (by omega) hp (by omega) w
    rw [Look.res_at h0 hx0p, hml, hround] at this
    exact this)
  have N2 := Lib.hid (fun w => by
    have := look_Next s (x0 : Nat) p false (nn : Nat) (by omega) hp (by omega) w
    rw [Look.res_at h0 hx0p, hmn, hme] at this
    exact this)
  have N3 := Lib.hid (fun w => by
    have := look_Next s (m : Nat) p true (nn : Nat) (by omega) hp (by omega) w
    rw [Look.res_at h0 (by rw [← hme]; exact hmp), hmn, hundo] at this
    exact this)
  have P := Lib.hid (fun w => by
    have := utf_Place s (m : Nat) (by omega) w
    rw [show Utf.place s.data.toList ((m : Nat) : Int) = true by rw [← hme]; exact hmp] at this
    exact this)
  have C := Lib.hid look_lives
  have g9 := Look.same_at s p m
  rw [hma] at g9
  rw [data_len, data_len] at hmr
  have hX := Below.refl w.heap.size w
  generalize Look.all s.data.toList p.data.toList = L at *
  have g4 : ((L.length : Int) == 0) = false := by simp; omega
  have g7 : decide ((kn : Int) < 0) = false := by simp
  have g8 : decide ((L.length : Int) ≤ (kn : Int)) = false := by simp; omega
  have g8n : decide (L.length ≤ kn) = false := by simp; omega
  have hwm : IntKind.i64.wrap ((m : Int) + (p.size : Int)) = (m : Int) + (p.size : Int) := by rw [IntKind.wrap_i64]; omega
  have g10 : decide ((m : Int) + (p.size : Int) ≤ (s.size : Int)) = true := by simp; omega
  have hki : (kn : Int) < (L.length : Int) := by omega
  have HX := Lib.hid (And.intro hX (And.intro hx hL))
  clear h hk h0 hx0 hround hundo hmp hme hmn hml hup hx hX hL hal hxe hma hx0p
  go_enter Try.func5, Try.ntmps5
  go_wp2_with fail
  refine (A.out _).mono ?_
  rintro e w1 ⟨⟨v, rfl, hr⟩, hb1⟩
  obtain ⟨g, c, rfl, hg1, hcl⟩ := own_list hr HX.out.2.2
  have c1 := hcl kn _ HX.out.2.1
  clear hcl hr
  have k1 := hb1
  clear hb1
  go_wp2_with fail
  refine (N1.out _).mono ?_
  rintro e w2 ⟨rfl, hb2⟩
  have hg2 := Nat.lt_of_lt_of_le hg1 hb2.size
  have c2 := (hb2.cell (p := ⟨g, kn, none⟩) hg1).trans c1
  have k2 := Look.on k1 hb2
  clear hg1 c1 hb2 k1
  go_wp2_with fail
  refine (N2.out _).mono ?_
  rintro e w3 ⟨rfl, hb3⟩
  have hg3 := Nat.lt_of_lt_of_le hg2 hb3.size
  have c3 := (hb3.cell (p := ⟨g, kn, none⟩) hg2).trans c2
  have k3 := Look.on k2 hb3
  clear hg2 c2 hb3 k2
  go_wp2_with fail
  refine (N3.out _).mono ?_
  rintro e w4 ⟨rfl, hb4⟩
  have hg4 := Nat.lt_of_lt_of_le hg3 hb4.size
  have c4 := (hb4.cell (p := ⟨g, kn, none⟩) hg3).trans c3
  have k4 := Look.on k3 hb4
  clear hg3 c3 hb4 k3
  go_wp2_with fail
  refine (P.out _).mono ?_
  rintro e w5 ⟨rfl, rfl⟩
  go_wp2_with fail
  refine (C.out _).mono ?_
  rintro e w6 ⟨rfl, hb6⟩
  have k6 := Look.on k4 hb6
  go_wp2
  go_ret
  exact ⟨rfl, Look.on HX.out.1 k6⟩
theorem lookRound_walk (s p : ByteArray) (k n : Int) (hp : p.size ≤ 140737488351232) (w : World) :
    Calls Try.prog 5 #[.string s, .string p, .int .i64 k, .int .i64 n] w fun e w' => e = .returned (.bool true) ∧ Below w.heap.size w w' := by
  by_cases h : 500 < s.size ∨ n < 1 ∨ 1000 < n
  · exact lookRound_out s p k n h w
  · by_cases hk : Look.all s.data.toList p.data.toList = [] ∨ k < 0 ∨ ((Look.all s.data.toList p.data.toList).length : Int) ≤ k
    · exact lookRound_none s p k n (by omega) h hk w
    · exact lookRound_main s p k n (by omega) h hk w
section
open Go.ChangeShapes Go.WideShapes Go.ChangeAt
open Go.ChangeMaps (open_string)
set_option maxRecDepth 100000 in
theorem lookRound_lifted (os : Os) (started : os.Started) (H : Type) (enc : TypeId × Value → H) :
    ReturnsInHanded {} Try.checked os 5 .any (Rows.lookRoundSpec.pre6 enc Try.prog Try.f5 Rows.lookRoundRow.domain false) (Rows.lookRoundSpec.post enc Try.prog Try.f5 false true false false) := by
  refine returnsInHanded_of_change_sized (C := Try.checked) own_knob started (by kernel_rfl) Try.func5
    (ChangeSpec.witness6 (enc := enc) (C := Try.checked) false ⟨#[], #[.string .empty, .string .empty, .int .i64 0, .int .i64 0], []⟩ 8 (by kernel_rfl) (by kernel_rfl) (by kernel_rfl) (by kernel_rfl)) ?_
  intro W base args ds gs before hval0 hW _ hsz0 _
  have hsz : (DataW.weightsEach Try.prog (Try.f5.params.toList ++ Rows.lookRoundSpec.plain.varTypes Try.prog) (ds ++ gs)).all (· ≤ reachBytes) = true := hsz0
  clear hsz0
  have hval : ∀ (j : Nat) t v, Try.f5.params[j]? = some t → args[j]? = some v → Value.okWide Try.prog W .any base t v := hval0
  have hW' := hW
  obtain ⟨p, q, hA0, hV, rfl, hfz, hnd⟩ := hW
  have hA : DataW.TrodAll enc Try.prog W 0 (fun _ => true) true Try.f5.params.toList args.toList ds p := hA0
  rw [Try.params5] at hA hval hsz
  obtain ⟨v0, vs0, d0, ds0, p0, q0, hargs, rfl, rfl, h0, r0⟩ := trodAll_cons hA
  obtain ⟨v1, vs1, d1, ds1, p1, q1, rfl, rfl, rfl, h1, r1⟩ := trodAll_cons r0
  obtain ⟨v2, vs2, d2, ds2, p2, q2, rfl, rfl, rfl, h2, r2⟩ := trodAll_cons r1
  obtain ⟨v3, vs3, d3, ds3, p3, q3, rfl, rfl, rfl, h3, r3⟩ := trodAll_cons r2
  obtain ⟨rfl, rfl, rfl⟩ := trodAll_nil r3
  obtain rfl : args = #[v0, v1, v2, v3] := by cases args; simp_all
  obtain ⟨rfl, rfl⟩ := trodVars_none hV
  obtain ⟨s0, rfl, rfl, rfl, hmax0⟩ := open_string Try.underlying9 (hval 0 9 v0 rfl rfl) h0
  have hs0 : s0.size ≤ 140737488351232 := by rw [← data_len]; exact sized_string hsz (j := 0) (t := 9) rfl rfl
  obtain ⟨s1, rfl, rfl, rfl, hmax1⟩ := open_string Try.underlying9 (hval 1 9 v1 rfl rfl) h1
  have hs1 : s1.size ≤ 140737488351232 := by rw [← data_len]; exact sized_string hsz (j := 1) (t := 9) rfl rfl
  obtain ⟨n2, rfl, rfl, rfl, wn2⟩ := open_int Try.underlying3 (hval 2 3 v2 rfl rfl) h2
  obtain ⟨n3, rfl, rfl, rfl, wn3⟩ := open_int Try.underlying3 (hval 3 3 v3 rfl rfl) h3
  refine (lookRound_walk s0 s1 n2 n3 hs1 _).mono fun e W' ⟨he, hb⟩ => ?_
  subst he
  exact ⟨_, rfl, law_post rfl rfl (by rw [Try.params5]; decide +kernel) ⟨rfl, rfl, rfl⟩ hW' hb⟩
theorem lookRound_holds : Rows.LookRoundSaid :=
  OpenClaim.holds_of_wide 5 Try.f5 rfl rfl rfl rfl rfl rfl rfl ⟨rfl, rfl, rfl, rfl, rfl⟩ rfl rfl rfl rfl rfl (by kernel_rfl) Try.func5 (by kernel_rfl)
    (of_decide_eq_true (by kernel_rfl)) (by unfold Func.isWrapper; first | (rw [if_pos (by decide +kernel)]; kernel_rfl) | (rw [if_neg (by decide +kernel)]; exact ⟨rfl, rfl⟩))
    (fun os started H enc _ => lookRound_lifted os started H enc)
end
end Go.Proofs.Ytpgonbibekffhaa
