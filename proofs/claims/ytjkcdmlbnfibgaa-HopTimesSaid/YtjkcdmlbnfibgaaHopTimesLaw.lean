/-
  'calamuslaw15.HopTimes' answers true for every text, place, key and count: n times is once, n times.
-/
import Derived.Test.YtjkcdmlbnfibgaaHopLives
import Derived.Test.YtjkcdmlbnfibgaaHopRefGo
namespace Go.Proofs.Ytjkcdmlbnfibgaa
open Go.RowKit
namespace Hop
theorem good_place {s : List UInt8} {rs : List (List UInt8)} (h : Utf.dec s = some rs) {i : Nat} (hi : i ≤ rs.length) : Utf.place s (Utf.off rs i : Int) = true := Utf.place_at h hi
theorem starts_place {s : List UInt8} {rs : List (List UInt8)} (h : Utf.dec s = some rs) {big : Bool} {x : Int} (hx : x ∈ starts s big) : Utf.place s x = true := by
  obtain ⟨y, hy, rfl⟩ := List.mem_map.1 (show x ∈ (words s big).map _ from hx)
  obtain ⟨⟨i, hi, e⟩, _⟩ := (al_all _ _ (words_al h big) y hy).1
  rw [e]
  exact good_place h hi
theorem ends_place {s : List UInt8} {rs : List (List UInt8)} (h : Utf.dec s = some rs) {big : Bool} {x : Int} (hx : x ∈ ends s big) : Utf.place s x = true := by
  obtain ⟨h1, h2⟩ := List.mem_filter.1 (show x ∈ ((words s big).map (·.2)).filter _ from hx)
  obtain ⟨y, hy, rfl⟩ := List.mem_map.1 h1
  obtain ⟨_, _, hg⟩ := (al_all _ _ (words_al h big) y hy).1
  have h0 : 0 ≤ y.2 := by simpa using h2
  obtain ⟨_, j, hj, e⟩ := hg (by omega)
  rw [e]
  exact good_place h (by omega)
theorem once_place {s : List UInt8} {p : Int} (hp : Utf.place s p = true) {m : Nat} {big : Bool} {q : Int} (h0 : 0 ≤ once s m big q) : Utf.place s (once s m big q) = true := by
  cases hd : Utf.dec s with
  | none => rw [Utf.place_bad hd] at hp; cases hp
  | some rs =>
    unfold once at *
    split at h0
    · rename_i h
      rw [if_pos h]
      rcases List.mem_append.1 (nxt_mem h0) with h1 | h1
      · exact starts_place hd h1
      · have e : nxt (starts s big ++ [(s.length : Int)]) q = (s.length : Int) := by simpa using h1
        rw [e, ← Utf.off_top hd (Nat.le_refl _)]
        exact good_place hd (Nat.le_refl _)
    · rename_i h
      rw [if_neg h]
      split at h0
      · rename_i h2
        rw [if_pos h2]
        exact starts_place hd (bck_mem h0)
      · rename_i h2
        rw [if_neg h2]
        exact ends_place hd (nxt_mem h0)
theorem iter_place {s : List UInt8} {p : Int} (hp : Utf.place s p = true) (m : Nat) (big : Bool) (n : Nat) : Utf.place s (iter (once s m big) n p) = true := by
  induction n with
  | zero => exact hp
  | succ n ih =>
    rw [iter_succ]
    split
    · exact ih
    · exact once_place hp (by omega)
theorem often_one : often 1 = 1 := rfl
end Hop
theorem hop_u8 {n : Int} (h : (Lit.int .u8 n).wf = true) : 0 ≤ n ∧ n ≤ 255 := by
  simp only [Lit.wf, Bool.and_eq_true, decide_eq_true_eq] at h
  exact h
set_option maxHeartbeats 1000000 in
set_option maxRecDepth 100000 in
theorem hopTimes_walk (s : ByteArray) (p : Int) (key : ByteArray) (n : Int) (hn : 0 ≤ n ∧ n ≤ 255) (w : World) :
    Calls Try.prog 5 #[.string s, .int .i64 p, .string key, .int .u8 n] w fun e w' => e = .returned (.bool true) ∧ Below w.heap.size w w' := by
  by_cases h3 : 200 < s.size
  · go_enter Try.func5, Try.ntmps5
    go_wp2_with fail
    refine (hop_lives _).mono ?_
    rintro e w1 ⟨rfl, hb⟩
    go_wp2
    go_ret
    exact ⟨rfl, hb⟩
  have g0 : decide ((200 : Int) < (s.size : Int)) = false := by simp; omega
  by_cases h4 : n < 1
  · have g1 : decide (n < 1) = true := by simp [h4]
    clear h3
    go_enter Try.func5, Try.ntmps5
    go_wp2_with fail
    refine (hop_lives _).mono ?_
    rintro e w1 ⟨rfl, hb⟩
    go_wp2
    go_ret
    exact ⟨rfl, hb⟩
  have g1 : decide (n < 1) = false := by simp; omega
  by_cases h5 : 20 < n
  · have g2 : decide ((20 : Int) < n) = true := by simp [h5]
    clear h3
    go_enter Try.func5, Try.ntmps5
    go_wp2_with fail
    refine (hop_lives _).mono ?_
    rintro e w1 ⟨rfl, hb⟩
    go_wp2
    go_ret
    exact ⟨rfl, hb⟩
  have g2 : decide ((20 : Int) < n) = false := by simp; omega
  have hwn : IntKind.i64.wrap n = n := wrap_in (by omega) (by omega)
  have hs : s.size ≤ 1000000000000 := by omega
  have A := fun w => hop_Go s p key n hs (by omega) w
  have B := fun (q : Int) w => hop_Go s q key 1 hs (by omega) w
  have hnn : Hid (1 ≤ n ∧ n ≤ 20) := ⟨by omega, by omega⟩
  by_cases hno : Hop.mot key.data.toList = none ∨ Utf.place s.data.toList p = false ∨ ∃ m big, Hop.mot key.data.toList = some (m, big) ∧ Hop.once s.data.toList m big p < 0
  · have hz : ∀ k : Int, Hop.goV s.data.toList p key.data.toList k = -1 := fun k => by
      rcases hno with h | h | ⟨m, big, h, h1⟩
      · exact Hop.goV_none h
      · exact Hop.goV_off h
      · cases hp : Utf.place s.data.toList p with
        | false => exact Hop.goV_off hp
        | true => rw [Hop.goV_at h hp]; exact Hop.times_no h1 _
    have B0 := fun w => B p w
    simp only [hz, show Hop.res (-1) = .tuple #[.int .i64 0, .bool false] from rfl] at A B0
    have A := Lib.hid A
    have B0 := Lib.hid B0
    clear B hz hno h3 h4 h5 hs hn
    go_enter Try.func5, Try.ntmps5
    go_wp2_with fail
    refine (A.out _).mono ?_
    rintro e w0 ⟨rfl, hb0⟩
    go_wp2_with fail
    refine (B0.out _).mono ?_
    rintro e w1 ⟨rfl, hb1⟩
    have k1 := hop_below hb0 hb1
    clear hb0 hb1
    go_wp2
    go_loopw [11, 13] (fun ov iv wr => ov = .int .i64 0 ∧ iv = .int .i64 1 ∧ wr = w1) (fun _ _ _ => 0)
    case atStart => exact ⟨rfl, rfl, rfl⟩
    case round =>
      obtain ⟨rfl, rfl, rfl⟩ := hrel
      go_wp2_with fail
      all_goals
        refine (hop_lives _).mono ?_
        rintro e z9 ⟨rfl, hz9⟩
        have n9 := hop_below k1 hz9
        go_wp2
        go_ret
        exact ⟨rfl, n9⟩
  · obtain ⟨m, big, hm⟩ : ∃ m big, Hop.mot key.data.toList = some (m, big) := by
      cases h : Hop.mot key.data.toList with
      | none => exact absurd (.inl h) hno
      | some x => exact ⟨x.1, x.2, rfl⟩
    have hp : Utf.place s.data.toList p = true := by
      cases h : Utf.place s.data.toList p with
      | false => exact absurd (.inr (.inl h)) hno
      | true => rfl
    have hf0 : ¬ Hop.once s.data.toList m big p < 0 := fun h => hno (.inr (.inr ⟨m, big, hm, h⟩))
    have hpl := fun k => Hop.iter_place hp m big k
    have hpb : 0 ≤ p := (hop_place hp).1
    have P := Lib.hid (fun k w => utf_Place s (Hop.iter (Hop.once s.data.toList m big) k p) (by omega) w)
    simp only [hpl] at P
    have hV : Hop.goV s.data.toList p key.data.toList n = Hop.iter (Hop.once s.data.toList m big) n.toNat p := by
      rw [Hop.goV_at hm hp, Hop.times_yes hf0]
      congr 1
      unfold Hop.often; omega
    have hB : ∀ k : Nat, Hop.goV s.data.toList (Hop.iter (Hop.once s.data.toList m big) k p) key.data.toList 1 = Hop.once s.data.toList m big (Hop.iter (Hop.once s.data.toList m big) k p) := fun k => by
      rw [Hop.goV_at hm (hpl k), Hop.often_one, Hop.times_one _ (Hop.once_ge _ _ _)]
    have hV1 : Hop.goV s.data.toList p key.data.toList 1 = Hop.iter (Hop.once s.data.toList m big) 1 p := by
      rw [Hop.goV_at hm hp, Hop.times_yes hf0]; rfl
    have G := Lib.hid (fun (k : Nat) w => by have := B (Hop.iter (Hop.once s.data.toList m big) k p) w; rw [hB k] at this; exact this)
    have B0 := fun w => B p w
    rw [hV, Hop.res_at (Hop.iter_nonneg _ _ hpb)] at A
    simp only [hV1, Hop.res_at (Hop.iter_nonneg (f := Hop.once s.data.toList m big) 1 p hpb)] at B0
    have A := Lib.hid A
    have B0 := Lib.hid B0
    clear B hB hV hV1 hpl hno h3 h4 h5 hs hn hm hp hf0
    generalize Hop.once s.data.toList m big = F at *
    obtain ⟨V, hVV⟩ : ∃ V, Hid (Hop.iter F n.toNat p = V) := ⟨_, rfl⟩
    rw [hVV.out] at A
    have PV := P.out n.toNat
    rw [hVV.out] at PV
    have PV := Lib.hid PV
    clear P
    go_enter Try.func5, Try.ntmps5
    go_wp2_with fail
    refine (A.out _).mono ?_
    rintro e w0 ⟨rfl, hb0⟩
    go_wp2_with fail
    refine (B0.out _).mono ?_
    rintro e w1 ⟨rfl, hb1⟩
    have k1 := hop_below hb0 hb1
    clear hb0 hb1
    go_wp2
    go_loopw [11, 13] (fun ov iv wr => ∃ i : Nat, Hid (1 ≤ i ∧ (i : Int) ≤ n) ∧ ov = .int .i64 (Hop.iter F i p) ∧ iv = .int .i64 i ∧ Below w.heap.size w wr) (fun _ iv _ => (n - intOf iv).toNat)
    case atStart => exact ⟨1, Lib.hid ⟨Nat.le_refl _, hnn.out.1⟩, rfl, rfl, k1⟩
    case round =>
      obtain ⟨i, hi, rfl, rfl, hW⟩ := hrel
      have GI := G.out i
      obtain ⟨cur, hcur⟩ : ∃ cur, Hid (Hop.iter F i p = cur) := ⟨_, rfl⟩
      rw [hcur.out] at GI
      rw [hcur.out]
      clear k1
      by_cases hlt : (i : Int) < n
      · have gi : decide ((i : Int) < n) = true := by simp [hlt]
        have hwi : IntKind.i64.wrap ((i : Int) + 1) = (i : Int) + 1 := wrap_in (by omega) (by have := hnn.out; omega)
        have HI := Lib.hid hlt
        by_cases hneg : F cur < 0
        · simp only [Hop.res_no hneg] at GI
          have GI := Lib.hid GI
          have hVc : V = cur := by
            rw [← hVV.out, ← hcur.out]
            exact Hop.iter_stop (by rw [hcur.out]; exact hneg) (by have := hi.out; omega)
          subst hVc
          clear hneg hlt
          go_wp2_with fail
          refine (GI.out _).mono ?_
          rintro e w3 ⟨rfl, hb3⟩
          have k3 := hop_below hW hb3
          clear hW hb3
          go_wp2_with fail
          refine (PV.out _).mono ?_
          rintro e w4 ⟨rfl, rfl⟩
          go_wp2_with fail
          refine (hop_lives _).mono ?_
          rintro e z9 ⟨rfl, hz9⟩
          have n9 := hop_below k3 hz9
          go_wp2
          go_ret
          exact ⟨rfl, n9⟩
        · simp only [Hop.res_at (Int.not_lt.1 hneg)] at GI
          have GI := Lib.hid GI
          have HIT : Hid (Hop.iter F (i + 1) p = F cur) := by show _ = _; rw [Hop.iter_succ, hcur.out, if_neg hneg]
          clear hneg hlt
          generalize F cur = z at *
          go_wp2_with fail
          refine (GI.out _).mono ?_
          rintro e w3 ⟨rfl, hb3⟩
          have k3 := hop_below hW hb3
          clear hW hb3
          go_wp2
          go_roundw
          case rel => exact ⟨i + 1, Lib.hid ⟨by omega, by have := HI.out; omega⟩, by rw [HIT.out], by go_num, k3⟩
          case measure => have := HI.out; simp [intOf] <;> omega
      · have gi : decide ((i : Int) < n) = false := by simp; omega
        have hVc : V = cur := by
          rw [← hVV.out, ← hcur.out]
          congr 1
          have := hi.out; omega
        subst hVc
        clear hlt GI
        go_wp2_with fail
        refine (PV.out _).mono ?_
        rintro e w4 ⟨rfl, rfl⟩
        go_wp2_with fail
        refine (hop_lives _).mono ?_
        rintro e z9 ⟨rfl, hz9⟩
        have n9 := hop_below hW hz9
        go_wp2
        go_ret
        exact ⟨rfl, n9⟩
section
open Go.ChangeShapes Go.WideShapes Go.ChangeAt
open Go.ChangeMaps (open_string)
set_option maxRecDepth 100000 in
theorem hopTimes_lifted (os : Os) (started : os.Started) (H : Type) (enc : TypeId × Value → H) :
    ReturnsInHanded {} Try.checked os 5 .any (Rows.hopTimesSpec.pre6 enc Try.prog Try.f5 Rows.hopTimesRow.domain false) (Rows.hopTimesSpec.post enc Try.prog Try.f5 false true false false) := by
  refine returnsInHanded_of_change_sized (C := Try.checked) own_knob started (by kernel_rfl) Try.func5
    (ChangeSpec.witness6 (enc := enc) (C := Try.checked) false ⟨#[], #[.string .empty, .int .i64 0, .string .empty, .int .u8 0], []⟩ 8 (by kernel_rfl) (by kernel_rfl) (by kernel_rfl) (by kernel_rfl)) ?_
  intro W base args ds gs before hval0 hW _ hsz0 _
  have hsz : (DataW.weightsEach Try.prog (Try.f5.params.toList ++ Rows.hopTimesSpec.plain.varTypes Try.prog) (ds ++ gs)).all (· ≤ reachBytes) = true := hsz0
  clear hsz0
  have hval : ∀ (j : Nat) t v, Try.f5.params[j]? = some t → args[j]? = some v → Value.okWide Try.prog W .any base t v := hval0
  have hW' := hW
  obtain ⟨p, q, hA0, hV, rfl, hfz, hnd⟩ := hW
  have hA : DataW.TrodAll enc Try.prog W 0 (fun _ => true) true Try.f5.params.toList args.toList ds p := hA0
  rw [Try.params5] at hA hval hsz
  obtain ⟨v0, vs0, d0, ds0, p0, q0, hargs, rfl, rfl, h0, r0⟩ := trodAll_cons hA
  obtain ⟨v1, vs1, d1, ds1, p1, q1, rfl, rfl, rfl, h1, r1⟩ := trodAll_cons r0
  obtain ⟨v2, vs2, d2, ds2, p2, q2, rfl, rfl, rfl, h2, r2⟩ := trodAll_cons r1
  obtain ⟨v3, vs3, d3, ds3, p3, q3, rfl, rfl, rfl, h3, r3⟩ := trodAll_cons r2
  obtain ⟨rfl, rfl, rfl⟩ := trodAll_nil r3
  obtain rfl : args = #[v0, v1, v2, v3] := by cases args; simp_all
  obtain ⟨rfl, rfl⟩ := trodVars_none hV
  obtain ⟨s0, rfl, rfl, rfl, hmax0⟩ := open_string Try.underlying9 (hval 0 9 v0 rfl rfl) h0
  have hs0 : s0.size ≤ 140737488351232 := by rw [← data_len]; exact sized_string hsz (j := 0) (t := 9) rfl rfl
  obtain ⟨n1, rfl, rfl, rfl, wn1⟩ := open_int Try.underlying3 (hval 1 3 v1 rfl rfl) h1
  obtain ⟨s2, rfl, rfl, rfl, hmax2⟩ := open_string Try.underlying9 (hval 2 9 v2 rfl rfl) h2
  have hs2 : s2.size ≤ 140737488351232 := by rw [← data_len]; exact sized_string hsz (j := 2) (t := 9) rfl rfl
  obtain ⟨n3, rfl, rfl, rfl, wn3⟩ := open_int Try.underlying5 (hval 3 5 v3 rfl rfl) h3
  refine (hopTimes_walk s0 n1 s2 n3 (hop_u8 wn3) _).mono fun e W' ⟨he, hb⟩ => ?_
  subst he
  exact ⟨_, rfl, law_post rfl rfl (by rw [Try.params5]; decide +kernel) ⟨rfl, rfl, rfl⟩ hW' hb⟩
theorem hopTimes_holds : Rows.HopTimesSaid :=
  OpenClaim.holds_of_wide 5 Try.f5 rfl rfl rfl rfl rfl rfl rfl ⟨rfl, rfl, rfl, rfl, rfl⟩ rfl rfl rfl rfl rfl (by kernel_rfl) Try.func5 (by kernel_rfl)
    (of_decide_eq_true (by kernel_rfl)) (by unfold Func.isWrapper; first | (rw [if_pos (by decide +kernel)]; kernel_rfl) | (rw [if_neg (by decide +kernel)]; exact ⟨rfl, rfl⟩))
    (fun os started H enc _ => hopTimes_lifted os started H enc)
end
end Go.Proofs.Ytjkcdmlbnfibgaa
