/-
  Where marks go by changes, as package mark and the document tell it.
-/
import Derived.Test.YtcpnaanknheekaaMarkRef
import Derived.WalkLawsBesides
namespace Go.Proofs.Ytcpnaanknheekaa
open Go.RowKit
open Mrk
namespace Mrk
theorem clamp_min (q : Int) : (if 1099511627776 < (if q < 0 then 0 else q) then 1099511627776 else if q < 0 then 0 else q) = clamp q := by unfold clamp; by_cases h : q < 0 <;> by_cases k : 1099511627776 < q <;> simp [h, k] <;> omega
theorem gone_len {ks : List Mk} (h : Right ks) (cs : List Cg) : (gone ks cs).length = ks.length := by rw [gone, if_pos h, moved_length]
end Mrk
set_option maxHeartbeats 2000000 in
set_option maxRecDepth 100000 in
theorem mark_Move {A B : Option Addr} {c d : Nat} {ks : List Mk} {cs : List Cg} {w : World} (hx : Mks w A ks) (hm : ks.length ≤ maxLen) (hy : Cgs w B cs) (hk : ∀ k ∈ cs, -1099511627776 ≤ k.at_ ∧ k.at_ ≤ 1099511627776) (hs : weigh cs ≤ 1000000) (hl : cs.length ≤ 100000) :
    Calls Try.prog 19 #[.slice A ks.length c, .slice B cs.length d] w (MksIs (gone ks cs) w) := by
  have R := Lib.hid (mark_Right (c := c) hx hm)
  by_cases hR : Right ks
  · rw [decide_eq_true hR] at R
    have h26 := hR.length_le
    have H0 : Hid (gone ks cs = moved ks cs) := by show _ = _; rw [gone, if_pos hR]
    have SH : Hid (∀ (u : World) (k : Nat) (x : Mk), Below w.heap.size w u → ks[k]? = some x → Calls Try.prog 21 #[.int .i64 x.at_, .slice B cs.length d] u fun e w' => e = .returned (.int .i64 (shifts x.at_ cs)) ∧ Below u.heap.size u w') := fun u k x hu hkx => by
      have := (hR.1 x (List.mem_of_getElem? hkx)).2
      exact change_Shift_wide x.at_ (hy.below hu) (by omega) hk hs hl
    obtain ⟨i0, hi, hz0, hz1, hz2⟩ := info_parts info_mark
    clear hR hm hy hk hs hl
    go_enter Try.func19, Try.ntmps19
    go_wp2_with (first
      | (go_at_call 11; refine R.out.mono ?_; rintro e w1 ⟨rfl, hb1⟩)
      | (at_make; refine wpList_make_own _ rfl _ _ 22 rfl w.heap.size 44 i0 _ 2 Try.underlying22 hi hz0 hz1 .i64 .i64 _ ks.length rfl rfl rfl (by rw [hz2]; omega) (by unfold maxLen; omega) hb1.size ?_; intro w2 hown hgrow))
    have hW2 : Below w.heap.size w w2 := hb1.trans ((below_gb hgrow).mono hb1.size)
    clear hb1 hgrow R
    go_wp2
    go_loopw [5, 17] (fun v i wr => ∃ (k : Nat) (A' : Option Addr) (c' : Nat), i = .int .i64 k ∧ v = .slice A' k c' ∧ k ≤ ks.length ∧ wr.ownsRow w.heap.size 44 2 v k (mrows (moved (ks.take k) cs)) ∧ Below w.heap.size w wr) (fun _ iv _ => ks.length - (intOf iv).toNat)
    case atStart => exact ⟨0, _, _, rfl, rfl, Nat.zero_le _, hown, hW2⟩
    case round =>
      obtain ⟨k, A', c', rfl, rfl, hkl, hown, hW⟩ := hrel
      clear hW2
      by_cases hlt : k < ks.length
      · obtain ⟨x, hkx⟩ : ∃ x, ks[k]? = some x := ⟨_, List.getElem?_eq_getElem hlt⟩
        obtain ⟨b, off, rfl, hbw, c0, c1⟩ := hx.at_ hW (Nat.le_refl _) hkx
        have hki : (k : Int) < ks.length := by omega
        have hts := Lib.hid (moved_snoc cs hkx)
        have b0 := Blk.new wr 44 #[.int .i64 x.name, .int .i64 x.at_]
        have d0 : (wr.alloc (.cells #[.int .i64 x.name, .int .i64 x.at_] 44)).cell? ⟨wr.heap.size, 0, none⟩ = some (.int .i64 x.name) := b0.cell 0
        have d1 : (wr.alloc (.cells #[.int .i64 x.name, .int .i64 x.at_] 44)).cell? ⟨wr.heap.size, 1, none⟩ = some (.int .i64 x.at_) := b0.cell 1
        have hW2 : Below w.heap.size w (wr.alloc (.cells #[.int .i64 x.name, .int .i64 x.at_] 44)) := hW.alloc hW.size _
        have T := Lib.hid (SH.out _ k x hW2 hkx)
        have HW2 := Lib.hid hW2
        obtain ⟨q, hq⟩ : ∃ q, shifts x.at_ cs = q := ⟨_, rfl⟩
        rw [hq] at T hts
        obtain ⟨u, hu⟩ : ∃ u, (if q < 0 then 0 else q) = u := ⟨_, rfl⟩
        obtain ⟨v, hv⟩ : ∃ v, (if 1099511627776 < u then 1099511627776 else u) = v := ⟨_, rfl⟩
        have hcv : Hid (v = clamp q) := by show _ = _; rw [← hv, ← hu]; exact clamp_min q
        have hA : Hid (∀ w3, Below (wr.alloc (.cells #[.int .i64 x.name, .int .i64 x.at_] 44)).heap.size (wr.alloc (.cells #[.int .i64 x.name, .int .i64 x.at_] 44)) w3 → Below w.heap.size w w3 ∧ (w3.alloc (.cells #[.int .i64 x.name, .int .i64 v] 44)).ownsRow w.heap.size 44 2 (.slice A' k c') k (mrows (moved (ks.take k) cs)) ∧ w3.cell? ⟨wr.heap.size, 0, none⟩ = some (.int .i64 x.name) ∧
            Blk (w3.alloc (.cells #[.int .i64 x.name, .int .i64 v] 44)) w3.heap.size 44 #[.int .i64 x.name, .int .i64 v] ∧ Below w.heap.size w (w3.alloc (.cells #[.int .i64 x.name, .int .i64 v] 44))) := fun w3 hb3 => by
          have h1 : Below wr.heap.size wr w3 := ((Below.refl _ wr).alloc (Nat.le_refl _) _).trans (hb3.mono (by simp))
          have h5 : Below wr.heap.size wr (w3.alloc (.cells #[.int .i64 x.name, .int .i64 v] 44)) := h1.alloc h1.size _
          exact ⟨hW.trans (h1.mono hW.size), hown.kept (gb_below none h5) (by cases hv : (Value.slice A' k c').ownBlock <;> simp), (b0.below hb3 (by simp)).cell 0, Blk.new w3 _ _, hW.trans (h5.mono hW.size)⟩
        have HX := Lib.hid hx
        clear hkx hx b0 hq hW2
        go_wp2_with (first
          | (go_at_call 21; refine T.out.mono ?_; rintro e w3 ⟨rfl, hb3⟩; obtain ⟨hW3, hown5, e0, b7, hW5⟩ := hA.out w3 hb3)
          | (at_builtin; refine wpList_append_own _ rfl _ _ 22 rfl w.heap.size 44 i0 _ 2 16 Try.underlying22 hi hz0 hz1 hz2 rfl (by decide) _ _ _ rfl hown5 ⟨w3.heap.size, 0, none⟩ 1 1 [.int .i64 x.name, .int .i64 v] rfl rfl ?c1 ?c2 ?c3 ?c4 ?c5 ?_))
        case c1 =>
          intro j u hj
          rw [add_plain, Nat.zero_add, b7.cell]
          simpa using hj
        case c2 =>
          intro u hu
          simp only [List.mem_cons, List.not_mem_nil, or_false] at hu
          rcases hu with rfl | rfl <;> rfl
        case c3 => unfold maxLen; omega
        case c4 => omega
        case c5 => exact hW5.size
        intro v' w6 hown6 hgrow6 _
        obtain ⟨a6, cap6, rfl⟩ := own_shape hown6
        have hW6 : Below w.heap.size w w6 := hW5.grown hgrow6 hW5.size (fun j hj => (hown5.lt j hj).1)
        go_wp2
        go_roundw
        case rel => exact ⟨k + 1, _, _, by go_num, rfl, by omega, by rw [hts.out, mrows_append, ← hcv.out]; exact hown6, hW6⟩
        case measure => simp [intOf]; omega
      · have H : Hid (gone ks cs = moved (ks.take k) cs) := by show _ = _; rw [H0.out, List.take_of_length_le (by omega)]
        have hlk : (moved (ks.take k) cs).length = k := by rw [moved_length, List.length_take]; omega
        have HL := Lib.hid hlk
        clear hx hlk
        go_wp2
        go_ret
        obtain ⟨o1, o2⟩ := own_mks hown HL.out
        exact ⟨A', c', by rw [H.out, HL.out]; rfl, by rw [H.out]; exact o1, by rw [H.out, HL.out]; exact o2, hW⟩
  · rw [decide_eq_false hR] at R
    have H : Hid (gone ks cs = []) := by show _ = _; rw [gone, if_neg hR]
    clear hx hR hm
    go_enter Try.func19, Try.ntmps19
    go_wp2_with (go_at_call 11; refine R.out.mono ?_; rintro e w1 ⟨rfl, hb1⟩)
    go_ret
    exact ⟨none, 0, by rw [H.out]; rfl, by rw [H.out]; exact Mks.nil _ _, by rw [H.out]; exact Nat.le_refl _, hb1⟩
set_option maxHeartbeats 2000000 in
set_option maxRecDepth 100000 in
theorem ref10_Move {A B : Option Addr} {c d : Nat} {ks : List Mk} {cs : List Cg} {w : World} (hx : Mks w A ks) (hm : ks.length ≤ maxLen) (hy : Cgs w B cs) (hk : ∀ k ∈ cs, -1099511627776 ≤ k.at_ ∧ k.at_ ≤ 1099511627776) (hs : weigh cs ≤ 1000000) (hl : cs.length ≤ 100000) :
    Calls Try.prog 20 #[.slice A ks.length c, .slice B cs.length d] w (MksIs (gone ks cs) w) := by
  have R : Hid (∀ u, Below w.heap.size w u → Calls Try.prog 12 #[.slice A ks.length c] u fun e w' => e = .returned (.bool (decide (Right ks))) ∧ Below u.heap.size u w') := fun u hu => ref10_Right (hx.below hu) hm
  have hm2 : ks.length ≤ 9223372036854775807 := by unfold maxLen at hm; exact hm
  have SH : Hid (∀ (u : World) (k : Nat) (x : Mk), Right ks → Below w.heap.size w u → ks[k]? = some x → Calls Try.prog 26 #[.int .i64 x.at_, .slice B cs.length d] u fun e w' => e = .returned (.int .i64 (shifts x.at_ cs)) ∧ Below u.heap.size u w') := fun u k x hR hu hkx => by
    have := (hR.1 x (List.mem_of_getElem? hkx)).2
    exact ref8_Shift_wide x.at_ (hy.below hu) (by omega) hk hs hl
  obtain ⟨i0, hi, hz0, hz1, hz2⟩ := info_parts info_mark
  clear hm hy hk hs hl
  go_enter Try.func20, Try.ntmps20
  go_wp2_with fail
  go_loopw [5, 6] (fun v iv wr => ∃ (k : Nat) (A' : Option Addr) (c' : Nat), k ≤ ks.length ∧ iv = .int .i64 k ∧ v = .slice A' k c' ∧ Hid (k = 0 ∨ Right ks) ∧ wr.ownsRow w.heap.size 44 2 v k (mrows (moved (ks.take k) cs)) ∧ Below w.heap.size w wr) (fun _ iv _ => ks.length - (intOf iv).toNat)
  case atStart => exact ⟨0, none, 0, Nat.zero_le _, rfl, rfl, .inl rfl, World.ownsRow_nil _ _ _ _, Below.refl _ _⟩
  case round =>
    obtain ⟨k, A', c', hkl, rfl, rfl, H0, hown, hW⟩ := hrel
    by_cases hlt : k < ks.length
    · obtain ⟨x, hkx⟩ : ∃ x, ks[k]? = some x := ⟨_, List.getElem?_eq_getElem hlt⟩
      have hki : (k : Int) < ks.length := by omega
      have f0 : decide ((k : Int) < (ks.length : Int)) = true := decide_eq_true hki
      have r := R.out wr hW
      by_cases hR : Right ks
      · have h26 := hR.length_le
        rw [decide_eq_true hR] at r
        have hts := Lib.hid (moved_snoc cs hkx)
        have CC : Hid (∀ u, Below w.heap.size w u → ∃ b off, A = some ⟨b, off, none⟩ ∧ b < w.heap.size ∧ u.cell? ⟨b, off + k * 2, none⟩ = some (.int .i64 x.name) ∧ u.cell? ⟨b, off + k * 2 + 1, none⟩ = some (.int .i64 x.at_)) := fun u hu => hx.at_ hu (Nat.le_refl _) hkx
        have T : Hid (∀ u, Below w.heap.size w u → Calls Try.prog 26 #[.int .i64 x.at_, .slice B cs.length d] u fun e w' => e = .returned (.int .i64 (shifts x.at_ cs)) ∧ Below u.heap.size u w') := fun u hu => SH.out u k x hR hu hkx
        have HRr := Lib.hid hR
        obtain ⟨q, hq⟩ : ∃ q, shifts x.at_ cs = q := ⟨_, rfl⟩
        rw [hq] at T hts
        clear hkx hx hR hq
        by_cases h0 : q < 0
        · have hc : Hid (clamp q = 0) := by show _ = _; rw [clamp, if_pos h0]
          have g0 : decide (q < 0) = true := decide_eq_true h0
          go_wp2_with (first
            | (go_at_call 12; refine r.mono ?_; rintro e w1 ⟨rfl, hb1⟩; have hW1 := hW.trans (hb1.mono hW.size); obtain ⟨b, off, rfl, hbw, c0, c1⟩ := CC.out _ hW1)
            | (go_at_call 26; refine (T.out _ hW1).mono ?_; rintro e w2 ⟨rfl, hb2⟩; have hW2 := hW1.trans (hb2.mono hW1.size); obtain ⟨b9, off9, e9, _, d0, d1⟩ := CC.out _ hW2; simp only [Option.some.injEq, Addr.mk.injEq, and_true] at e9; obtain ⟨rfl, rfl⟩ := e9; have h2 : Below w2.heap.size w2 (w2.alloc (.cells #[.int .i64 x.name, .int .i64 0] 44)) := (Below.refl _ w2).alloc (Nat.le_refl _) _; have hown2 := ((hown.kept (gb_below none hb1) (by cases hv : (Value.slice A' k c').ownBlock <;> simp)).kept (gb_below none hb2) (by cases hv : (Value.slice A' k c').ownBlock <;> simp)).kept (gb_below none h2) (by cases hv : (Value.slice A' k c').ownBlock <;> simp); have b2 := Blk.new w2 44 #[.int .i64 x.name, .int .i64 0])
            | (at_builtin; refine wpList_append_own _ rfl _ _ 22 rfl w.heap.size 44 i0 _ 2 16 Try.underlying22 hi hz0 hz1 hz2 rfl (by decide) _ _ _ rfl hown2 ⟨w2.heap.size, 0, none⟩ 1 1 [.int .i64 x.name, .int .i64 0] rfl rfl ?c1 ?c2 ?c3 ?c4 ?c5 ?_)
            | fail)
          case c1 =>
            intro j u hj
            rw [add_plain, Nat.zero_add, b2.cell]
            simpa using hj
          case c2 =>
            intro u hu
            simp only [List.mem_cons, List.not_mem_nil, or_false] at hu
            rcases hu with rfl | rfl <;> rfl
          case c3 => unfold maxLen; omega
          case c4 => omega
          case c5 => exact Nat.le_trans hW2.size h2.size
          intro v' w3 hown3 hgrow3 _
          obtain ⟨a3, cap3, rfl⟩ := own_shape hown3
          have hW3 : Below w.heap.size w w3 := (hW2.trans (h2.mono hW2.size)).grown hgrow3 (Nat.le_trans hW2.size h2.size) (fun j hj => (hown2.lt j hj).1)
          go_wp2
          go_roundw
          case rel => exact ⟨k + 1, a3, cap3, by omega, by go_num, rfl, .inr HRr.out, by rw [hts.out, mrows_append, hc.out]; exact hown3, hW3⟩
          case measure => simp [intOf]; omega
        · by_cases h1 : 1099511627776 < q
          · have hc : Hid (clamp q = 1099511627776) := by show _ = _; rw [clamp, if_neg h0, if_pos h1]
            have g0 : decide (q < 0) = false := decide_eq_false h0
            have g1 : decide (1099511627776 < q) = true := decide_eq_true h1
            go_wp2_with (first
              | (go_at_call 12; refine r.mono ?_; rintro e w1 ⟨rfl, hb1⟩; have hW1 := hW.trans (hb1.mono hW.size); obtain ⟨b, off, rfl, hbw, c0, c1⟩ := CC.out _ hW1)
              | (go_at_call 26; refine (T.out _ hW1).mono ?_; rintro e w2 ⟨rfl, hb2⟩; have hW2 := hW1.trans (hb2.mono hW1.size); obtain ⟨b9, off9, e9, _, d0, d1⟩ := CC.out _ hW2; simp only [Option.some.injEq, Addr.mk.injEq, and_true] at e9; obtain ⟨rfl, rfl⟩ := e9; have h2 : Below w2.heap.size w2 (w2.alloc (.cells #[.int .i64 x.name, .int .i64 1099511627776] 44)) := (Below.refl _ w2).alloc (Nat.le_refl _) _; have hown2 := ((hown.kept (gb_below none hb1) (by cases hv : (Value.slice A' k c').ownBlock <;> simp)).kept (gb_below none hb2) (by cases hv : (Value.slice A' k c').ownBlock <;> simp)).kept (gb_below none h2) (by cases hv : (Value.slice A' k c').ownBlock <;> simp); have b2 := Blk.new w2 44 #[.int .i64 x.name, .int .i64 1099511627776])
              | (at_builtin; refine wpList_append_own _ rfl _ _ 22 rfl w.heap.size 44 i0 _ 2 16 Try.underlying22 hi hz0 hz1 hz2 rfl (by decide) _ _ _ rfl hown2 ⟨w2.heap.size, 0, none⟩ 1 1 [.int .i64 x.name, .int .i64 1099511627776] rfl rfl ?d1 ?d2 ?d3 ?d4 ?d5 ?_)
              | fail)
            case d1 =>
              intro j u hj
              rw [add_plain, Nat.zero_add, b2.cell]
              simpa using hj
            case d2 =>
              intro u hu
              simp only [List.mem_cons, List.not_mem_nil, or_false] at hu
              rcases hu with rfl | rfl <;> rfl
            case d3 => unfold maxLen; omega
            case d4 => omega
            case d5 => exact Nat.le_trans hW2.size h2.size
            intro v' w3 hown3 hgrow3 _
            obtain ⟨a3, cap3, rfl⟩ := own_shape hown3
            have hW3 : Below w.heap.size w w3 := (hW2.trans (h2.mono hW2.size)).grown hgrow3 (Nat.le_trans hW2.size h2.size) (fun j hj => (hown2.lt j hj).1)
            go_wp2
            go_roundw
            case rel => exact ⟨k + 1, a3, cap3, by omega, by go_num, rfl, .inr HRr.out, by rw [hts.out, mrows_append, hc.out]; exact hown3, hW3⟩
            case measure => simp [intOf]; omega
          · have hc : Hid (clamp q = q) := by show _ = _; rw [clamp, if_neg h0, if_neg h1]
            have g0 : decide (q < 0) = false := decide_eq_false h0
            have g1 : decide (1099511627776 < q) = false := decide_eq_false h1
            go_wp2_with (first
              | (go_at_call 12; refine r.mono ?_; rintro e w1 ⟨rfl, hb1⟩; have hW1 := hW.trans (hb1.mono hW.size); obtain ⟨b, off, rfl, hbw, c0, c1⟩ := CC.out _ hW1)
              | (go_at_call 26; refine (T.out _ hW1).mono ?_; rintro e w2 ⟨rfl, hb2⟩; have hW2 := hW1.trans (hb2.mono hW1.size); obtain ⟨b9, off9, e9, _, d0, d1⟩ := CC.out _ hW2; simp only [Option.some.injEq, Addr.mk.injEq, and_true] at e9; obtain ⟨rfl, rfl⟩ := e9; have h2 : Below w2.heap.size w2 (w2.alloc (.cells #[.int .i64 x.name, .int .i64 q] 44)) := (Below.refl _ w2).alloc (Nat.le_refl _) _; have hown2 := ((hown.kept (gb_below none hb1) (by cases hv : (Value.slice A' k c').ownBlock <;> simp)).kept (gb_below none hb2) (by cases hv : (Value.slice A' k c').ownBlock <;> simp)).kept (gb_below none h2) (by cases hv : (Value.slice A' k c').ownBlock <;> simp); have b2 := Blk.new w2 44 #[.int .i64 x.name, .int .i64 q])
              | (at_builtin; refine wpList_append_own _ rfl _ _ 22 rfl w.heap.size 44 i0 _ 2 16 Try.underlying22 hi hz0 hz1 hz2 rfl (by decide) _ _ _ rfl hown2 ⟨w2.heap.size, 0, none⟩ 1 1 [.int .i64 x.name, .int .i64 q] rfl rfl ?e1 ?e2 ?e3 ?e4 ?e5 ?_)
              | fail)
            case e1 =>
              intro j u hj
              rw [add_plain, Nat.zero_add, b2.cell]
              simpa using hj
            case e2 =>
              intro u hu
              simp only [List.mem_cons, List.not_mem_nil, or_false] at hu
              rcases hu with rfl | rfl <;> rfl
            case e3 => unfold maxLen; omega
            case e4 => omega
            case e5 => exact Nat.le_trans hW2.size h2.size
            intro v' w3 hown3 hgrow3 _
            obtain ⟨a3, cap3, rfl⟩ := own_shape hown3
            have hW3 : Below w.heap.size w w3 := (hW2.trans (h2.mono hW2.size)).grown hgrow3 (Nat.le_trans hW2.size h2.size) (fun j hj => (hown2.lt j hj).1)
            go_wp2
            go_roundw
            case rel => exact ⟨k + 1, a3, cap3, by omega, by go_num, rfl, .inr HRr.out, by rw [hts.out, mrows_append, hc.out]; exact hown3, hW3⟩
            case measure => simp [intOf]; omega
      · rw [decide_eq_false hR] at r
        have hk0 : k = 0 := H0.out.resolve_right hR
        have H : Hid (gone ks cs = moved (ks.take k) cs) := by show _ = _; rw [gone, if_neg hR, hk0]; rfl
        have HL : Hid ((moved (ks.take k) cs).length = k) := by show _ = _; rw [moved_length, List.length_take]; omega
        clear hkx hx hR hk0
        go_wp2_with (go_at_call 12; refine r.mono ?_; rintro e w1 ⟨rfl, hb1⟩)
        have hown1 := hown.kept (gb_below none hb1) (by cases hv : (Value.slice A' k c').ownBlock <;> simp)
        go_ret
        obtain ⟨o1, o2⟩ := own_mks hown1 HL.out
        exact ⟨A', c', by rw [H.out, HL.out]; rfl, by rw [H.out]; exact o1, by rw [H.out, HL.out]; exact o2, hW.trans (hb1.mono hW.size)⟩
    · have f0 : decide ((k : Int) < (ks.length : Int)) = false := decide_eq_false (by omega)
      have H : Hid (gone ks cs = moved (ks.take k) cs) := by
        show _ = _
        rw [List.take_of_length_le (by omega)]
        rcases H0.out with h | h
        · have : ks = [] := List.eq_nil_of_length_eq_zero (by omega)
          subst this
          unfold gone moved
          split <;> rfl
        · rw [gone, if_pos h]
      have HL : Hid ((moved (ks.take k) cs).length = k) := by show _ = _; rw [moved_length, List.length_take]; omega
      clear hx
      go_wp2
      go_ret
      obtain ⟨o1, o2⟩ := own_mks hown HL.out
      exact ⟨A', c', by rw [H.out, HL.out]; rfl, by rw [H.out]; exact o1, by rw [H.out, HL.out]; exact o2, hW⟩
end Go.Proofs.Ytcpnaanknheekaa
