/-
  All pairs of a kind: the document's, by counting; and whether two lists are the same.
-/
import Derived.Test.YtijjpnppedhfnaaPairAll
import Derived.Test.YtijjpnppedhfnaaUtfRef
namespace Go.Proofs.Ytijjpnppedhfnaa
open Go.RowKit
open Pair
theorem Pair.prs_step {s : List UInt8} {p : Nat} {b : UInt8} (h : s[p]? = some b) (o c : UInt8) : prs o c (s.drop p) p = if b = o then (match oth o c (s.drop (p + 1)) 1 (p + 1) with | some q => (p, q) :: prs o c (s.drop (p + 1)) (p + 1) | none => prs o c (s.drop (p + 1)) (p + 1)) else prs o c (s.drop (p + 1)) (p + 1) := by
  obtain ⟨hp, he⟩ := List.getElem?_eq_some_iff.1 h
  rw [List.drop_eq_getElem_cons hp, he, prs]
  rfl
set_option maxHeartbeats 2000000 in
set_option maxRecDepth 100000 in
theorem ref17_All (s k : ByteArray) (hs : s.size ≤ 500000) (w : World) :
    Calls Try.prog 10 #[.string s, .string k] w fun e w' => Own2 w (Pair.all s.data.toList k.data.toList) e w' := by
  have hl := data_len s
  have c1 := Lib.hid (fun w => ref17_closer k w)
  have c2 := Lib.hid (fun w => ref_Valid s (by omega) w)
  cases hk : clo k.data.toList with
  | none =>
    have H := Lib.hid (all_no (s := s.data.toList) (k := k.data.toList) (.inl hk))
    have e0 : cloB k.data.toList = 0 := by rw [cloB, hk]; rfl
    rw [e0] at c1
    clear hk e0
    go_enter Try.func10, Try.ntmps10
    go_wp2_with (go_at_call 22; refine (c1.out _).mono ?_; rintro e w1 ⟨rfl, rfl⟩)
    go_ret
    rw [H.out]
    exact own2_nil (Below.refl _ _)
  | some c =>
    obtain ⟨o, hko, hoc, ho, hc⟩ := clo_facts hk
    have e0 : cloB k.data.toList = c := by rw [cloB, hk]; rfl
    rw [e0] at c1
    have hc0 : ((c.toNat : Int) == 0) = false := by
      obtain ⟨_, _, h⟩ := clo_some hk
      rcases h with ⟨_, rfl⟩ | ⟨_, rfl⟩ | ⟨_, rfl⟩ | ⟨_, rfl⟩ <;> rfl
    cases hv : Utf.valid s.data.toList with
    | false =>
      rw [hv] at c2
      have H := Lib.hid (all_no (s := s.data.toList) (k := k.data.toList) (.inr hv))
      clear hk hko hv e0
      go_enter Try.func10, Try.ntmps10
      go_wp2_with (first
        | (go_at_call 22; refine (c1.out _).mono ?_; rintro e w1 ⟨rfl, rfl⟩)
        | (go_at_call 23; refine (c2.out _).mono ?_; rintro e w1 ⟨rfl, hb1⟩))
      go_ret
      rw [H.out]
      exact own2_nil hb1
    | true =>
      rw [hv] at c2
      have hkl := data_len k
      rw [hko] at hkl
      have hk0 : 0 < k.size := by simp at hkl; omega
      have hkb : k[0] = o := by
        have := byte_get k hk0
        rw [hko] at this
        simpa using this.symm
      have HA : Hid (Pair.all s.data.toList k.data.toList = [] ++ prs o c (s.data.toList.drop 0) 0) := by
        show _ = _
        rw [Pair.all, hk]
        simp only []
        rw [if_pos hv, hko]; rfl
      generalize Pair.all s.data.toList k.data.toList = R at *
      have C3 := Lib.hid (fun p (h : s.data.toList[p]? = some o) w => ref17_other s p o c hoc h (by omega) w)
      obtain ⟨i0, hi, hz0, hz1, hz2⟩ := info_parts info_pair
      clear hk hko hv e0 hkl hoc ho hc
      subst hkb
      go_enter Try.func10, Try.ntmps10
      go_wp2_with (first
        | (go_at_call 22; refine (c1.out _).mono ?_; rintro e w1 ⟨rfl, rfl⟩)
        | (go_at_call 23; refine (c2.out _).mono ?_; rintro e w1 ⟨rfl, hb1⟩))
      go_loopw [6, 7] (fun v pv wr => ∃ (A : Option Addr) (n cp : Nat) (done : List (Nat × Nat)) (p : Nat), v = .slice A n cp ∧ pv = .int .i64 p ∧ n = done.length ∧ p ≤ s.size ∧ done.length ≤ p ∧ wr.ownsRow w.heap.size 33 2 v n (flat2 done) ∧ Below w.heap.size w wr ∧ Hid (R = done ++ prs (k[0]'hk0) c (s.data.toList.drop p) p)) (fun _ pv _ => s.size - (intOf pv).toNat)
      case atStart => exact ⟨none, 0, 0, [], 0, rfl, rfl, rfl, Nat.zero_le _, Nat.le_refl _, World.ownsRow_nil _ _ _ _, hb1, HA.out⟩
      case round =>
        obtain ⟨A, n, cp, done, p, rfl, rfl, rfl, hp, hdp, hr, hbw, HR⟩ := hrel
        clear HA hb1
        by_cases hlt : p < s.size
        · have hg := byte_get s hlt
          have HR2 := HR.out
          rw [prs_step hg] at HR2
          by_cases hb : s[p] = k[0]
          · have C := Lib.hid (C3.out p (by rw [hg, hb]))
            rw [if_pos hb] at HR2
            have g1 : ((s[p].toNat : Int) == (k[0].toNat : Int)) = true := by rw [hb]; simp
            have HB := Lib.hid hbw
            have HO := Lib.hid hr
            cases ho : oth (k[0]'hk0) c (s.data.toList.drop (p + 1)) 1 (p + 1) with
            | none =>
              rw [ho] at C HR2
              have HR3 : Hid (R = done ++ prs (k[0]'hk0) c (s.data.toList.drop (p + 1)) (p + 1)) := HR2
              dsimp only [num] at C
              clear ho HR2 HR hg hbw hr hb C3
              go_wp2_with fail
              go_quiet ((first | (go_at_call 24; exact (C.out _).mono fun e w1 h => ⟨h.1, _, h.2.symm⟩)))
              go_wp2
              go_roundw
              case rel => exact ⟨A, _, cp, done, p + 1, rfl, by go_num, rfl, by omega, by omega, HO.out, below_drewN HB.out _, HR3⟩
              case measure => simp [intOf]; omega
            | some q =>
              rw [ho] at C HR2
              dsimp only [num] at C
              have HR3 : Hid (R = (done ++ [(p, q)]) ++ prs (k[0]'hk0) c (s.data.toList.drop (p + 1)) (p + 1)) := by
                show _ = _
                rw [HR2, List.append_assoc]
                rfl
              have hsn := Lib.hid (flat2_snoc done (p, q))
              clear ho HR2 HR hg hbw hr hb C3
              go_wp2_with fail
              go_quiet ((first | (go_at_call 24; exact (C.out _).mono fun e w1 h => ⟨h.1, _, h.2.symm⟩)))
              have hr2 : (wr.drewN nq).ownsRow w.heap.size 33 2 (.slice A done.length cp) done.length (flat2 done) := HO.out
              have hb2 := below_drewN HB.out nq
              have hs2 := hb2.size
              generalize wr.drewN nq = wd at *
              go_wp2_with (first
                | (go_at_call 24; refine (C.out _).mono ?_; rintro e w1 ⟨rfl, rfl⟩)
                | (at_builtin; refine wpList_append_own _ rfl _ _ 24 rfl w.heap.size 33 i0 (.agg #[.int .i64 0, .int .i64 0]) 2 16 Try.underlying24 hi hz0 hz1 hz2 rfl (by decide) _ _ _ rfl (hr2.alloc _) ⟨wd.heap.size, 0, none⟩ 1 1 [.int .i64 (p : Nat), .int .i64 (q : Nat)] rfl rfl ?e1 ?e2 ?e3 ?e4 ?e5 ?_))
              case e1 => exact pair_cells _ _ _ _
              case e2 => simp [Value.oneCell']
              case e3 => unfold maxLen; omega
              case e4 => omega
              case e5 => rw [World.size_alloc]; omega
              intro v' w4 hown' hgrow _
              have hR4 : Below w.heap.size w w4 := (hb2.alloc hs2 _).grown hgrow (by rw [World.size_alloc]; omega) (fun g hg => (hr2.lt g hg).1)
              have hown4 : w4.ownsRow w.heap.size 33 2 v' (done ++ [(p, q)]).length (flat2 (done ++ [(p, q)])) := by
                rw [hsn.out, List.length_append]; exact hown'
              obtain ⟨a', c', hv'⟩ := own_long hown4
              clear hown' hgrow hr2 hb2 hs2 hsn
              subst hv'
              go_wp2
              go_roundw
              case rel => exact ⟨a', _, c', done ++ [(p, q)], p + 1, rfl, by go_num, rfl, by omega, by simp; omega, hown4, hR4, HR3⟩
              case measure => simp [intOf]; omega
          · have g1 : ((s[p].toNat : Int) == (k[0].toNat : Int)) = false := beq_eq_false_iff_ne.2 (fun e => hb (UInt8.toNat_inj.1 (by omega)))
            rw [if_neg hb] at HR2
            have HR3 := Lib.hid HR2
            have HB := Lib.hid hbw
            have HO := Lib.hid hr
            clear HR2 HR hg hbw hr hb C3
            go_wp2_with fail
            go_quiet (fail)
            go_wp2
            go_roundw
            case rel => exact ⟨A, _, cp, done, p + 1, rfl, by go_num, rfl, by omega, by omega, HO.out, below_drewN HB.out _, HR3⟩
            case measure => simp [intOf]; omega
        · obtain rfl : p = s.size := by omega
          have H : Hid (R = done) := by show _ = _; rw [HR.out, List.drop_eq_nil_of_le (by rw [hl]; exact Nat.le_refl _), prs, List.append_nil]
          clear HR C3
          go_wp2
          go_ret
          rw [H.out]
          exact ⟨⟨_, rfl, hr⟩, hbw⟩
end Go.Proofs.Ytijjpnppedhfnaa
