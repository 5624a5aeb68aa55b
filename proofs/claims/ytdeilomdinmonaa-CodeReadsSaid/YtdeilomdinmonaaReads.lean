/-
  'calamuslaw01.CodeReads' answers true for every input, and what came in reads as it did: what is read of any bytes, what is left, and the first error, is that of the document.
-/
import Derived.Test.YtdeilomdinmonaaRefNums
import Derived.Test.YtdeilomdinmonaaRdNums
import Derived.Test.YtdeilomdinmonaaSame
import Derived.Test.YtdeilomdinmonaaLives
import Derived.Test.YtdeilomdinmonaaWants
import Derived.SizedLaws
import Derived.Deep.RegionHeld3
namespace Go.Proofs.Ytdeilomdinmonaa
open Go.RowKit
theorem Rq.other {p g : Nat} {l l' : List UInt8} {e e' : Int} {w w' : World} (h : Rq g l e w) (k : Rd p l' e' w) (hg : w.grownBy w' (some p)) : Rq g l e w' := by
  obtain ⟨c1, c2, s, k⟩ := k
  exact h.grown hg (fun x => by injection x with x; exact h.self.ne_ k.self (by decide) x)
theorem Rd.aside {p g : Nat} {l l' : List UInt8} {e e' : Int} {w w' : World} (h : Rd p l e w) (k : Rq g l' e' w) (hg : w.grownBy w' (some g)) : Rd p l e w' := h.other k.self (by decide) (by decide) (by decide) hg
theorem rd_left_q {p n : Nat} {l : List UInt8} {err : Int} {w : World} (h : Rd p l err w) :
    Calls Try.prog 22 #[.pointer (some ⟨p, 0, none⟩)] (w.drewN n) fun e w' => e = .returned (.int .i64 l.length) ∧ ∃ m, w' = w.drewN m :=
  Calls.quiet_of_same ((rd_left (h.below (gb_drewN _ _ _))).mono fun _ _ k => ⟨k.1, k.2.symm⟩)
theorem rd_err_q {p n : Nat} {l : List UInt8} {err : Int} {w : World} (h : Rd p l err w) :
    Calls Try.prog 23 #[.pointer (some ⟨p, 0, none⟩)] (w.drewN n) fun e w' => e = .returned (.int .i64 err) ∧ ∃ m, w' = w.drewN m :=
  Calls.quiet_of_same ((rd_err (h.below (gb_drewN _ _ _))).mono fun _ _ k => ⟨k.1, k.2.symm⟩)
theorem own_len {w : World} {base : Nat} {e : TypeId} {size n : Nat} {v : Value} {xs : List Value} (h : w.ownsRow base e size v n xs) : n ≤ 9223372036854775807 := by
  rcases h.2 with ⟨_, rfl⟩ | ⟨g, cap, cur, _, _, _, h1, h2, _⟩
  · omega
  · unfold maxLen at h2; omega
theorem block_ne {b o B p : Nat} (h : b < B) (k : B ≤ p) : some (⟨b, o, none⟩ : Addr).block ≠ some p := by
  intro x; injection x with x; have : b = p := x; omega
theorem rd_text_at {p : Nat} {l : List UInt8} {err e most : Int} {t r : List UInt8} {w : World} (h : Rd p l err w) (hq : rdText most l err = (t, r, e)) :
    Calls Try.prog 17 #[.pointer (some ⟨p, 0, none⟩), .int .i64 most] w fun x w' => x = .returned (.string (bs t)) ∧ Rd p r e w' ∧ w.grownBy w' (some p) := by
  have := rd_text most h
  rw [hq] at this
  exact this
theorem rd_nums_at {p : Nat} {l : List UInt8} {err e most : Int} {xs : List Int} {r : List UInt8} {w : World} (h : Rd p l err w) (hq : rdNums most l err = (xs, r, e)) :
    Calls Try.prog 20 #[.pointer (some ⟨p, 0, none⟩), .int .i64 most] w fun x w' => GotInts w.heap.size xs x w' ∧ Rd p r e w' ∧ w.grownBy w' (some p) := by
  have := rd_nums most h
  rw [hq] at this
  exact this
theorem rq_text_at {p : Nat} {l : List UInt8} {err e most : Int} {t r : List UInt8} {w : World} (h : Rq p l err w) (hq : rdText most l err = (t, r, e)) :
    Calls Try.prog 18 #[.pointer (some ⟨p, 0, none⟩), .int .i64 most] w fun x w' => x = .returned (.string (bs t)) ∧ Rq p r e w' ∧ w.grownBy w' (some p) := by
  have := rq_text most h
  rw [hq] at this
  exact this
theorem rq_nums_at {p : Nat} {l : List UInt8} {err e most : Int} {xs : List Int} {r : List UInt8} {w : World} (h : Rq p l err w) (hq : rdNums most l err = (xs, r, e)) :
    Calls Try.prog 21 #[.pointer (some ⟨p, 0, none⟩), .int .i64 most] w fun x w' => GotInts w.heap.size xs x w' ∧ Rq p r e w' ∧ w.grownBy w' (some p) := by
  have := rq_nums most h
  rw [hq] at this
  exact this
set_option maxHeartbeats 1600000 in
set_option maxRecDepth 100000 in
theorem reads_walk (s : ByteArray) {A : Option Addr} {c : Nat} {ks : List (Int × Int)} {w : World} (hs : s.size ≤ 140737488351232) (hx : Wants w A ks) (hl : ks.length ≤ 200) :
    Calls Try.prog 4 #[.string s, .slice A ks.length c] w fun e w' => e = .returned (.bool true) ∧ Below w.heap.size w w' := by
  have hm : s.size ≤ maxLen := by unfold maxLen; omega
  have d1 : decide (200 < ks.length) = false := by simp; omega
  go_enter Try.func4, Try.ntmps4
  go_wp2_with fail
  refine (new_reader _ _ hm).mono ?_
  rintro e w1 ⟨⟨p, rfl, hp, hr⟩, hW1⟩
  go_wp2_with fail
  have hr2 := hr.below (World.grownBy_alloc w1 (.cells #[.string s, .int .i64 0] 34) none)
  have hq2 : Rq w1.heap.size s.data.toList 0 (w1.alloc (.cells #[.string s, .int .i64 0] 34)) := ⟨Blk.new w1 34 #[.string s, .int .i64 0], by rw [data_len]; exact hm, by simp⟩
  have hW2 : Below w.heap.size w (w1.alloc (.cells #[.string s, .int .i64 0] 34)) := hW1.alloc hW1.size _
  have hg : w.heap.size ≤ w1.heap.size := hW1.size
  clear hr hW1
  generalize w1.heap.size = g at *
  go_loopw [7] (fun i wr => ∃ (k : Nat) (l : List UInt8) (e : Int), k ≤ ks.length ∧ i = .int .i64 k ∧ Rd p l e wr ∧ Rq g l e wr ∧ Below w.heap.size w wr) (fun i _ => ks.length - (intOf i).toNat)
  case atStart => exact ⟨0, _, _, Nat.zero_le _, rfl, hr2, hq2, hW2⟩
  case round =>
    obtain ⟨k, l, e, hk, rfl, hR, hQ, hW⟩ := hrel
    clear hr2 hq2 hW2
    by_cases hlt : k < ks.length
    · obtain ⟨b, off, rfl, hb, h1, h2⟩ := hx.at_ hW hlt
      obtain ⟨kd, most, hkm⟩ : ∃ kd most, ks[k] = (kd, most) := ⟨_, _, rfl⟩
      rw [hkm] at h1 h2
      simp only at h1 h2
      clear hkm
      by_cases k0 : kd = 0
      · subst k0
        obtain ⟨n, l', e', hq⟩ : ∃ n r e', rdNum l e = (n, r, e') := ⟨_, _, _, rfl⟩
        have hN := rd_num_at hR hq
        have H := Lib.hid hq
        clear hq
        go_wp2_with fail
        refine hN.mono ?_
        rintro x w2 ⟨rfl, hR2, hG2⟩
        have hQ2 := hQ.other hR hG2
        have hW2 := of_row hW hG2 hp (Nat.le_refl _)
        have hN2 := rq_num_at hQ2 H.out
        clear hN hR hQ hG2 hW H
        go_wp2_with fail
        refine hN2.mono ?_
        rintro x w3 ⟨rfl, hQ3, hG3⟩
        have hR3 := hR2.aside hQ2 hG3
        have hW3 := of_row hW2 hG3 hg (Nat.le_refl _)
        clear hN2 hR2 hQ2 hG3 hW2
        have j0 := hQ3.self.cell 0
        have j1 := hQ3.self.cell 1
        have j2 : (bs l').size = l'.length := bs_size l'
        simp at j0 j1
        go_wp2_with fail
        go_quiet ((first | (go_at_call 22; exact rd_left_q hR3) | (go_at_call 23; exact rd_err_q hR3)))
        go_wp2
        exact ⟨⟨k + 1, l', e', by omega, by go_num, hR3.below (gb_drewN _ _ _), hQ3.grown (gb_drewN _ _ none) (by simp), hW3.trans (below_gb (gb_drewN _ _ _) |>.mono hW3.size)⟩, by simp [intOf]; omega⟩
      · by_cases k1 : kd = 1
        · subst k1
          obtain ⟨t, l', e', hq⟩ : ∃ n r e', rdText most l e = (n, r, e') := ⟨_, _, _, rfl⟩
          have H := Lib.hid hq
          clear hq k0
          go_wp2_with fail
          go_region_held3 (fun w' => w'.cell? ⟨b, off + k * 2 + 1, none⟩ = some (.int .i64 most)) (first | assumption | go_keep)
            (first
              | (go_at_call 17; refine (rd_text_at (hR.below (gb_drew _ _)) H.out).mono ?_; rintro x w2 ⟨rfl, hR2, hG2⟩; have hQ2 := Rq.other (hQ.grown (gb_drew _ none) (by simp)) (hR.below (gb_drew _ _)) hG2; have hW2 := of_row (Below.drew hW) hG2 hp (Nat.le_refl _); have c2 := hG2.cell (a := ⟨b, off + k * 2 + 1, none⟩) (v := .int .i64 most) h2 (block_ne hb hp))
              | (go_at_call 18; refine (rq_text_at hQ2 H.out).mono ?_; rintro x w3 ⟨rfl, hQ3, hG3⟩; have hR3 := hR2.aside hQ2 hG3; have hW3 := of_row hW2 hG3 hg (Nat.le_refl _); have c3 := hG3.cell c2 (block_ne hb hg)))
          clear hR hQ hW hR2 hQ2 hW2 hG2 hG3 c2 c3 H
          have j0 := hQ3.self.cell 0
          have j1 := hQ3.self.cell 1
          have j2 : (bs l').size = l'.length := bs_size l'
          simp at j0 j1
          go_wp2_with fail
          go_quiet ((first | (go_at_call 22; exact rd_left_q hR3) | (go_at_call 23; exact rd_err_q hR3)))
          go_wp2
          exact ⟨⟨k + 1, l', e', by omega, by go_num, hR3.below (gb_drewN _ _ _), hQ3.grown (gb_drewN _ _ none) (by simp), hW3.trans (below_gb (gb_drewN _ _ _) |>.mono hW3.size)⟩, by simp [intOf]; omega⟩
        · obtain ⟨xs, l', e', hq⟩ : ∃ n r e', rdNums most l e = (n, r, e') := ⟨_, _, _, rfl⟩
          have H := Lib.hid hq
          have s0 : (kd == 0) = false := by simp [k0]
          have s1 : (kd == 1) = false := by simp [k1]
          clear hq k0 k1
          go_wp2_with fail
          go_region_held3 (fun w' => w'.cell? ⟨b, off + k * 2 + 1, none⟩ = some (.int .i64 most)) (first | assumption | go_keep)
            (first
              | (go_at_call 20; refine (rd_nums_at (hR.below (gb_drew _ _)) H.out).mono ?_; rintro x w2 ⟨⟨v2, rfl, ho2⟩, hR2, hG2⟩; have hQ2 := Rq.other (hQ.grown (gb_drew _ none) (by simp)) (hR.below (gb_drew _ _)) hG2; have hW2 := of_row (Below.drew hW) hG2 hp (Nat.le_refl _); have c2 := hG2.cell (a := ⟨b, off + k * 2 + 1, none⟩) (v := .int .i64 most) h2 (block_ne hb hp); obtain ⟨a2, d2, hv2⟩ := own_shape ho2; subst hv2)
              | (go_at_call 21; refine (rq_nums_at hQ2 H.out).mono ?_; rintro x w3 ⟨⟨v3, rfl, ho3⟩, hQ3, hG3⟩; have hR3 := hR2.aside hQ2 hG3; have hW3 := of_row hW2 hG3 hg (Nat.le_refl _); have c3 := hG3.cell c2 (block_ne hb hg); obtain ⟨a3, d3, hv3⟩ := own_shape ho3; subst hv3; have hi2 := Ints.of_own (ho2.kept hG3 (Or.inr (own_blk_ne ho2 hQ2.self (by decide)))) rfl; have hi3 := Ints.of_own ho3 rfl; have hlen := own_len ho3)
              | (go_at_call 19; refine (ref_same hi2 hi3 hlen).mono ?_; rintro x w4 ⟨rfl, hG4⟩; have hR4 := hR3.below hG4; have hQ4 := hQ3.grown hG4 (by simp); have hW4 := hW3.trans (below_gb hG4 |>.mono hW3.size); have c4 := hG4.cell c3 (by simp)))
          clear hR hQ hW hR2 hQ2 hW2 hG2 hG3 c2 c3 H hR3 hQ3 hW3 hG4 c4 hi2 hi3 ho2 ho3 hlen
          have j0 := hQ4.self.cell 0
          have j1 := hQ4.self.cell 1
          have j2 : (bs l').size = l'.length := bs_size l'
          simp at j0 j1
          go_wp2_with fail
          go_quiet ((first | (go_at_call 22; exact rd_left_q hR4) | (go_at_call 23; exact rd_err_q hR4)))
          go_wp2
          exact ⟨⟨k + 1, l', e', by omega, by go_num, hR4.below (gb_drewN _ _ _), hQ4.grown (gb_drewN _ _ none) (by simp), hW4.trans (below_gb (gb_drewN _ _ _) |>.mono hW4.size)⟩, by simp [intOf]; omega⟩
    · clear hx hR hQ
      go_wp2_with fail
      refine (lives_true _).mono ?_
      rintro e w9 ⟨rfl, hb9⟩
      go_wp2
      go_ret
      exact ⟨rfl, hW.trans (hb9.mono hW.size)⟩
set_option maxHeartbeats 800000 in
theorem reads_many (s : ByteArray) {A : Option Addr} {n c : Nat} {w : World} (hl : 200 < n) (hn : n ≤ 9223372036854775807) :
    Calls Try.prog 4 #[.string s, .slice A n c] w fun e w' => e = .returned (.bool true) ∧ Below w.heap.size w w' := by
  go_enter Try.func4, Try.ntmps4
  go_wp2_with (go_at_call 13; refine (lives_true _).mono ?_; rintro e w9 ⟨rfl, hb9⟩)
  go_ret
  exact ⟨rfl, hb9⟩
section
open Go.ChangeShapes Go.WideShapes Go.ChangeAt
open Go.ChangeMaps (open_string)
set_option maxRecDepth 100000 in
theorem reads_lifted (os : Os) (started : os.Started) (H : Type) (enc : TypeId × Value → H) :
    ReturnsInHanded {} Try.checked os 4 .any (Rows.codeReadsSpec.pre6 enc Try.prog Try.f4 Rows.codeReadsRow.domain false) (Rows.codeReadsSpec.post enc Try.prog Try.f4 false true false false) := by
  refine returnsInHanded_of_change_sized (C := Try.checked) own_knob started (by kernel_rfl) Try.func4
    (ChangeSpec.witness6 (enc := enc) (C := Try.checked) false ⟨#[], #[.string .empty, .slice none 0 0], []⟩ 8 (by kernel_rfl) (by kernel_rfl) (by kernel_rfl) (by kernel_rfl)) ?_
  intro W base args ds gs before hval0 hW _ hsz0 _
  have hsz : (DataW.weightsEach Try.prog (Try.f4.params.toList ++ Rows.codeReadsSpec.plain.varTypes Try.prog) (ds ++ gs)).all (· ≤ reachBytes) = true := hsz0
  clear hsz0
  have hval : ∀ (j : Nat) t v, Try.f4.params[j]? = some t → args[j]? = some v → Value.okWide Try.prog W .any base t v := hval0
  have hW' := hW
  obtain ⟨p, q, hA0, hV, rfl, hfz, hnd⟩ := hW
  have hA : DataW.TrodAll enc Try.prog W 0 (fun _ => true) true Try.f4.params.toList args.toList ds p := hA0
  rw [Try.params4] at hA hval hsz
  obtain ⟨v0, vs0, d0, ds0, p0, q0, hargs, rfl, rfl, h0, r0⟩ := trodAll_cons hA
  obtain ⟨v1, vs1, d1, ds1, p1, q1, rfl, rfl, rfl, h1, r1⟩ := trodAll_cons r0
  obtain ⟨rfl, rfl, rfl⟩ := trodAll_nil r1
  obtain rfl : args = #[v0, v1] := by cases args; simp_all
  obtain ⟨rfl, rfl⟩ := trodVars_none hV
  have hlt : ∀ x ∈ p1, x.block < W.heap.size := fun x hx => by simpa using hW'.lt x (by simp [hx])
  obtain ⟨s, rfl, rfl, rfl, hmax⟩ := open_string Try.underlying9 (hval 0 9 v0 rfl rfl) h0
  obtain ⟨A, c, ks, rfl, hx, hkl⟩ := open_wants (hval 1 29 v1 rfl rfl) h1 hlt
  have hs : s.size ≤ 140737488351232 := by rw [← data_len]; exact sized_string hsz (j := 0) (t := 9) rfl rfl
  have walk : Calls Try.prog 4 #[.string s, .slice A ks.length c] W fun e w' => e = .returned (.bool true) ∧ Below W.heap.size W w' := by
    by_cases h : ks.length ≤ 200
    · exact reads_walk s hs hx h
    · exact reads_many s (by omega) (by unfold maxLen at hkl; omega)
  refine walk.mono fun e W' ⟨he, hb⟩ => ?_
  subst he
  exact ⟨_, rfl, law_post rfl rfl (by rw [Try.params4]; decide +kernel) ⟨rfl, rfl, rfl⟩ hW' hb⟩
theorem reads_holds : Rows.CodeReadsSaid :=
  OpenClaim.holds_of_wide 4 Try.f4 rfl rfl rfl rfl rfl rfl rfl ⟨rfl, rfl, rfl, rfl, rfl⟩ rfl rfl rfl rfl rfl (by kernel_rfl) Try.func4 (by kernel_rfl)
    (of_decide_eq_true (by kernel_rfl)) (by unfold Func.isWrapper; first | (rw [if_pos (by decide +kernel)]; kernel_rfl) | (rw [if_neg (by decide +kernel)]; exact ⟨rfl, rfl⟩))
    (fun os started H enc _ => reads_lifted os started H enc)
end
end Go.Proofs.Ytdeilomdinmonaa
