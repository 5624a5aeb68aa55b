/-
  The offsets at which a pattern stands in a text, one by one: the program's iterator.
-/
import Derived.Test.YtpgonbibekffhaaLook
import Derived.Test.YtpgonbibekffhaaKey
import Derived.Test.YtpgonbibekffhaaSeqList
import Derived.Test.YtpgonbibekffhaaUtfCounts
import Derived.BigCall
import Derived.Stop.RegionWithIn
import Derived.Lib.OthersKept
namespace Go.Proofs.Ytpgonbibekffhaa
open Go.RowKit Go.Shelf
attribute [local go_sem] Oper.semAt_some
namespace Look
/-- What is handed on of an offset. -/
abbrev encA (x : Int) : Array Value := #[.int .i64 x]
theorem hasP (s : ByteArray) (p : ByteArray) (x : Nat) : Lib.hasPrefix (s.extract x s.size).data.toList p.data.toList = at_ s.data.toList p.data.toList x := by
  have e1 : (s.extract x s.size).data.toList = s.data.toList.drop x := by
    have hl : s.data.toList.length = s.size := by simp
    rw [Lib.extract_eq, List.take_of_length_le (by rw [List.length_drop]; omega)]
  rw [e1, at_]
  unfold Lib.hasPrefix
  rw [Bool.eq_iff_iff]
  simp
end Look
theorem look_offsets (s p : ByteArray) (w : World) :
    Calls Try.prog 13 #[.string s, .string p] w fun e w' => e = .returned (.func (.func 19) #[] #[.pointer (some ⟨w.heap.size + 1, 0, none⟩), .pointer (some ⟨w.heap.size, 0, none⟩)]) ∧ w' = (w.alloc (.cells #[.string s] 9)).alloc (.cells #[.string p] 9) := by
  go_enter Try.func13, Try.ntmps13
  go_wp2
  go_ret
  exact ⟨rfl, rfl⟩
set_option maxHeartbeats 1000000 in
set_option maxRecDepth 100000 in
theorem look_offset_seq (n : Nat) (hn : 1 ≤ n) (tB pB : Nat) (s p : ByteArray) (hs : s.size ≤ 1000000000000) (hp : p.size ≤ 140737488355328) (w : World) (hT : Boxed w tB 9 (.string s)) (hP : Boxed w pB 9 (.string p)) :
    SeqList Fence.wide n Try.prog 19 #[.pointer (some ⟨pB, 0, none⟩), .pointer (some ⟨tB, 0, none⟩)] Look.encA 0 (Stays 0 [tB, pB]) (Steps 0) (Look.all s.data.toList p.data.toList) w := by
  intro l J W hW hJ hY h0
  have hlt := hT.lt
  have hlo := hP.lt
  have bT : Boxed W tB 9 (.string s) := (hW.block tB hT.lt).trans hT
  have bP : Boxed W pB 9 (.string p) := (hW.block pB hP.lt).trans hP
  have hsz := hW.size
  refine callsIn_of_wp Try.func19 rfl trivial ?_ rfl
  simp only [Try.ntmps19, List.size_toArray, List.length_cons, List.length_nil, Nat.reduceAdd, Nat.reduceSub, Array.replicate_succ, Array.replicate_zero, List.push_toArray, List.append_toArray, List.nil_append, List.cons_append]
  have cT := bT.cell
  have cP := bP.cell
  have hl := data_len s
  have hlp := data_len p
  have et : p.toList = p.data.toList := bs_tl p.data.toList
  have V := Lib.hid (fun (x : ByteArray) (b : Bool) (h : x.size ≤ 140737488355328 ∧ Utf.valid x.data.toList = b) (w : World) => by
    have := utf_Valid x (by omega) w
    rw [h.2] at this
    exact this)
  cases hk : Look.ok s.data.toList p.data.toList with
  | false =>
    have HA := Lib.hid (Look.all_no hk)
    have HJ := Lib.hid h0
    by_cases h1 : p.data.toList.isEmpty = true
    · have g1 : p.toList.isEmpty = true := by rw [et, h1]
      clear hY hJ hk h0 et
      gi_wp2_with (refine ⟨trivial, ?_⟩)
      refine bodyPost_ret (results_none rfl _ _ _) rfl ?_
      exact ⟨⟨_, rfl⟩, by rw [HA.out]; exact HJ.out⟩
    · have g1 : p.toList.isEmpty = false := by rw [et]; simpa using h1
      cases hq : Utf.valid p.data.toList with
      | false =>
        have kP := And.intro hp hq
        clear hY hJ hk h0 et hq
        gi_wp2_with (refine ⟨trivial, ?_⟩; first | (gi_at_call 17; refine (callsIn_wide.2 (V.out _ _ kP _)).mono ?_; rintro e w' ⟨rfl, rfl⟩) | skip)
        refine bodyPost_ret (results_none rfl _ _ _) rfl ?_
        exact ⟨⟨_, rfl⟩, by rw [HA.out]; exact HJ.out⟩
      | true =>
        have hr : Utf.valid s.data.toList = false := by
          cases h : Utf.valid s.data.toList with
          | false => rfl
          | true => simp [Look.ok, h, hq] at hk; exact absurd (by rw [hk]; rfl) h1
        have kP := And.intro hp hq
        have kS := And.intro (show s.size ≤ 140737488355328 by omega) hr
        clear hY hJ hk h0 et hq hr
        gi_wp2_with (refine ⟨trivial, ?_⟩; gi_at_call 17; refine (callsIn_wide.2 (V.out _ _ (by first | exact kP | exact kS) _)).mono ?_; rintro e w' ⟨rfl, rfl⟩)
        refine bodyPost_ret (results_none rfl _ _ _) rfl ?_
        exact ⟨⟨_, rfl⟩, by rw [HA.out]; exact HJ.out⟩
  | true =>
    have HA := Lib.hid (Look.all_ok hk)
    simp only [Look.ok, Bool.and_eq_true, Bool.not_eq_true'] at hk
    obtain ⟨⟨kS, kP⟩, kE⟩ := hk
    have g1 : p.toList.isEmpty = false := by rw [et]; exact kE
    have kS2 := And.intro (show s.size ≤ 140737488355328 by omega) kS
    have kP2 := And.intro hp kP
    obtain ⟨rs, hd⟩ := Option.isSome_iff_exists.1 kS
    have HD := Lib.hid hd
    have HP := Lib.hid (And.intro kP (List.isEmpty_eq_false_iff.1 kE))
    have h0' : J (Look.upto s.data.toList p.data.toList 0) (W.alloc (.stringIter s 0)) := hJ _ _ _ h0 (Steps.alloc _ _ _ _)
    have hi0 : (W.alloc (.stringIter s 0)).heap[W.heap.size]? = some (.stringIter s (Utf.off rs 0)) := by rw [Utf.off_zero]; exact World.iter_heap W s 0
    have H0 := Lib.hid (And.intro h0' (And.intro (bT.alloc (.stringIter s 0)) (And.intro (bP.alloc (.stringIter s 0)) hi0)))
    have HL := Lib.hid (And.intro hlt (And.intro hlo hsz))
    clear h0' hi0 h0 bT bP hlt hlo hsz kS kP kE hd et hl hlp
    gi_wp2_with (refine ⟨trivial, ?_⟩; gi_at_call 17; refine (callsIn_wide.2 (V.out _ _ (by first | exact kP2 | exact kS2) _)).mono ?_; rintro e w' ⟨rfl, rfl⟩)
    gi_loopw [] (fun wr => ∃ i, i ≤ rs.length ∧ wr.heap[W.heap.size]? = some (.stringIter s (Utf.off rs i)) ∧ J (Look.upto s.data.toList p.data.toList (Utf.off rs i)) wr ∧ Boxed wr tB 9 (.string s) ∧ Boxed wr pB 9 (.string p)) (fun wr => s.size - wr.iterPos W.heap.size)
    case atStart => exact ⟨0, Nat.zero_le _, H0.out.2.2.2, by rw [Utf.off_zero]; exact H0.out.1, H0.out.2.1, H0.out.2.2.1⟩
    case round =>
      obtain ⟨i, hi, hit, hj, bT, bP⟩ := hrel
      have hsz : W.heap.size < wr.heap.size := (Array.getElem?_eq_some_iff.1 hit).1
      rcases rune_or_end (rs := rs) i with ⟨r, hr⟩ | hend
      · obtain ⟨hdc, hp, hoff, hle, ho⟩ := Key.decode_rune s HD.out hr
        have hnx : ∀ ty, (Instr.next (.pointer (some ⟨W.heap.size, 0, none⟩)) true ty).run Try.prog wr = _ := fun ty => Lib.run_next_any_at wr W.heap.size s _ ty hit hp
        rw [hdc] at hnx
        simp only [] at hnx
        rw [← hoff] at hnx
        have hS : Steps 0 W.heap.size wr (wr.iterAt W.heap.size s (Utf.off rs (i + 1))) := Steps.iterAt _ (Nat.le_refl _) hit
        have hj2 := hJ _ _ _ hj hS
        have bT2 := hS.boxed (.inl (Nat.lt_of_lt_of_le HL.out.1 HL.out.2.2)) bT
        have bP2 := hS.boxed (.inl (Nat.lt_of_lt_of_le HL.out.2.1 HL.out.2.2)) bP
        have hit2 := Lib.iterAt_heap wr W.heap.size s _ (Utf.off rs (i + 1)) hit
        have hsz2 := Lib.iterAt_size wr W.heap.size s (Utf.off rs (i + 1))
        have hx := Look.upto_next HD.out HP.out.1 HP.out.2 hr
        have hpf := Look.upto_prefix s.data.toList p.data.toList (a := Utf.off rs (i + 1)) (b := s.data.toList.length) (by rw [data_len]; exact hle)
        have hlen := (List.getElem?_eq_some_iff.1 hr).1
        have hpos := Utf.one_pos ho
        have cH := fun w => Try.strings_HasPrefix (s.extract (Utf.off rs i) s.size) p w
        rw [Look.hasP] at cH
        have cT2 := bT2.cell
        have cP2 := bP2.cell
        have H := Lib.hid (And.intro hlen (And.intro hoff (And.intro hpos (And.intro hle (And.intro hit (And.intro hit2 (And.intro bT2 bP2)))))))
        clear hlen hoff hpos hit hit2 hr hdc hle ho hj hS hi bT bP cT cP H0 bT2 bP2
        generalize hwi : wr.iterAt W.heap.size s (Utf.off rs (i + 1)) = wi at *
        generalize Key.cp r = z at *
        generalize hoi : Utf.off rs i = o at *
        have hj3 := hJ _ _ _ hj2 (show Steps 0 W.heap.size wi wi.drew from Steps.of_own (gb_drewN wi 1 none) (fun r e => by cases e))
        have hit3 : wi.drew.heap[W.heap.size]? = some (.stringIter s (Utf.off rs (i + 1))) := H.out.2.2.2.2.2.1
        cases hat : Look.at_ s.data.toList p.data.toList o with
        | true =>
          rw [hat] at cH
          rw [hat, if_pos rfl] at hx
          obtain ⟨fn, tmps, assign, body, hy, hR⟩ := hY _ _ _ hj3 (by rw [HA.out, ← hx]; exact hpf) (by show _ ≤ wi.heap.size; rw [hsz2]; omega)
          rw [← hx] at hR
          have C := Lib.hid cH
          clear cH hat hx hpf hY hj2 hsz2 hj3
          dsimp only [Look.encA] at hy
          gi_wp2
          obtain ⟨Q, hQ⟩ : ∃ Q : Act → World → Prop, Q = fun a' w' => a' = { tmps := #[.func (.yield l) #[] #[], .pointer (some ⟨pB, 0, none⟩), .pointer (some ⟨tB, 0, none⟩), undef, .int .i64 (o : Nat), .string p, .bool false, .bool false, .string p, .bool true, .bool false, .bool false, .bool false, .string s, .bool true, .bool false, .bool false, .string s, .pointer (some ⟨W.heap.size, 0, none⟩), .tuple #[.bool true, .int .i64 (o : Nat), .int .i32 (z : Nat)], .bool true, .int .i64 (o : Nat), .string s, .int .i64 (o : Nat), .string (s.extract o s.size), .string p, .bool true, .bool true, .func (.yield l) #[] #[], .int .i64 (o : Nat), .bool true, .bool false, .bool false], defers := [] } ∧ J (Look.upto s.data.toList p.data.toList (Utf.off rs (i + 1))) w' ∧ Stays 0 [tB, pB] W.heap.size wi.drew w' := ⟨_, rfl⟩
          have HQ := Lib.hid hQ
          clear hQ
          refine wpIn_mono (Q := Exit.then Q (Exit.inBlock 1 fun _ _ _ => False)) ?_ ?_
          · gi_region_with (first
              | (refine ⟨trivial, ?_⟩; gi_at_call 20; refine (callsIn_wide.2 (C.out _)).mono ?_; rintro e w' ⟨rfl, rfl⟩)
              | (refine hR.mono ?_; rintro e W3 ⟨rfl, hJ3, hk3⟩))
            all_goals (show Q _ _; rw [HQ.out]; exact ⟨rfl, hJ3, hk3⟩)
          rintro e' a' W3 hq
          have hq2 : e' = .normal ∧ Q a' W3 := by cases e' with | normal => exact ⟨rfl, hq⟩ | _ => exact absurd hq (by simp [Exit.then, Exit.inBlock])
          obtain ⟨rfl, hq⟩ := hq2
          rw [HQ.out] at hq
          obtain ⟨rfl, hJ3, hk3⟩ := hq
          gi_wp2
          go_roundw
          case rel => exact ⟨i + 1, H.out.1, hk3.same _ _ hit3 (.inl ⟨Nat.le_refl _, rfl⟩), hJ3, hk3.boxed (.inr (by simp)) H.out.2.2.2.2.2.2.1, hk3.boxed (.inr (by simp)) H.out.2.2.2.2.2.2.2⟩
          case measure =>
            have h3 := hk3.same _ _ hit3 (.inl ⟨Nat.le_refl _, rfl⟩)
            simp only [World.iterPos, h3, H.out.2.2.2.2.1]
            have := H.out.2.1; have := H.out.2.2.1; have := H.out.2.2.2.1
            omega
        | false =>
          rw [hat] at cH
          rw [hat, if_neg (by simp), List.append_nil] at hx
          have HJ3 := Lib.hid hj3
          have HX := Lib.hid hx
          have C := Lib.hid cH
          clear cH hat hx hpf hY hj2 hsz2 hj3
          gi_wp2
          obtain ⟨Q, hQ⟩ : ∃ Q : Act → World → Prop, Q = fun a' w' => a' = { tmps := #[.func (.yield l) #[] #[], .pointer (some ⟨pB, 0, none⟩), .pointer (some ⟨tB, 0, none⟩), undef, .int .i64 (o : Nat), .string p, .bool false, .bool false, .string p, .bool true, .bool false, .bool false, .bool false, .string s, .bool true, .bool false, .bool false, .string s, .pointer (some ⟨W.heap.size, 0, none⟩), .tuple #[.bool true, .int .i64 (o : Nat), .int .i32 (z : Nat)], .bool true, .int .i64 (o : Nat), .string s, .int .i64 (o : Nat), .string (s.extract o s.size), .string p, .bool false, .bool false, undef, undef, undef, undef, .bool false], defers := [] } ∧ w' = wi.drew := ⟨_, rfl⟩
          have HQ := Lib.hid hQ
          clear hQ
          refine wpIn_mono (Q := Exit.then Q (Exit.inBlock 1 fun _ _ _ => False)) ?_ ?_
          · first
              | gi_region_with (first | (refine ⟨trivial, ?_⟩; gi_at_call 20; refine (callsIn_wide.2 (C.out _)).mono ?_; rintro e w' ⟨rfl, rfl⟩) | (refine ⟨fun f h => (by cases h), ?_⟩))
              | fail
            all_goals (show Q _ _; rw [HQ.out]; exact ⟨rfl, rfl⟩)
          rintro e' a' W3 hq
          have hq2 : e' = .normal ∧ Q a' W3 := by cases e' with | normal => exact ⟨rfl, hq⟩ | _ => exact absurd hq (by simp [Exit.then, Exit.inBlock])
          obtain ⟨rfl, hq⟩ := hq2
          rw [HQ.out] at hq
          obtain ⟨rfl, rfl⟩ := hq
          gi_wp2
          go_roundw
          case rel => exact ⟨i + 1, H.out.1, hit3, by rw [HX.out]; exact HJ3.out, H.out.2.2.2.2.2.2.1, H.out.2.2.2.2.2.2.2⟩
          case measure =>
            simp only [World.iterPos, hit3, H.out.2.2.2.2.1]
            have := H.out.2.1; have := H.out.2.2.1; have := H.out.2.2.2.1
            omega
      · obtain rfl : i = rs.length := by omega
        have hnx : ∀ ty, (Instr.next (.pointer (some ⟨W.heap.size, 0, none⟩)) true ty).run Try.prog wr = _ := fun ty => Lib.run_next_end_at wr W.heap.size s _ ty hit (by rw [off_len HD.out hend]; omega)
        have hJ4 : Hid (J (Look.all s.data.toList p.data.toList) wr) := by
          show J _ wr
          rw [HA.out, data_len, ← off_len HD.out hend]; exact hj
        clear hY hj hit cT cP H0 bT bP hsz hend hi
        gi_wp2
        go_end0
        exact ⟨⟨_, rfl⟩, hJ4.out⟩
end Go.Proofs.Ytpgonbibekffhaa
