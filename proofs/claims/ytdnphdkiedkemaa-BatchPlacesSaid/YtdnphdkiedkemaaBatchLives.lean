/-
  Whether changes are few, short, and neither very small nor very great; whether the program tells the document's example.
-/
import Derived.Test.YtdnphdkiedkemaaBatchDo
import Derived.Test.YtdnphdkiedkemaaBatchTurn
namespace Go.Proofs.Ytdnphdkiedkemaa
open Go.RowKit
open Utf Chg Btc
/-- An answer that says no more than that changes are few and short, and their places near, if they are. -/
def FewIs (m : Nat) (ks : List Cg) (w : World) (e : Ending) (w' : World) : Prop := ∃ b, e = .returned (.bool b) ∧ Below w.heap.size w w' ∧ (b = true → ks.length ≤ 30 ∧ m + weigh ks ≤ 9000 ∧ ∀ k ∈ ks, -1099511627776 ≤ k.at_ ∧ k.at_ ≤ 1099511627776)
theorem near_snoc {ks : List Cg} {j : Nat} {x : Cg} (h : ks[j]? = some x) (hx : -1099511627776 ≤ x.at_ ∧ x.at_ ≤ 1099511627776) (ih : ∀ k ∈ ks.take j, -1099511627776 ≤ k.at_ ∧ k.at_ ≤ 1099511627776) : ∀ k ∈ ks.take (j + 1), -1099511627776 ≤ k.at_ ∧ k.at_ ≤ 1099511627776 := by
  obtain ⟨hj, rfl⟩ := List.getElem?_eq_some_iff.1 h
  intro k hk
  rw [List.take_succ_eq_append_getElem hj, List.mem_append, List.mem_singleton] at hk
  rcases hk with hk | rfl
  · exact ih k hk
  · exact hx
set_option maxHeartbeats 2000000 in
set_option maxRecDepth 100000 in
theorem few_ok (t : ByteArray) {A : Option Addr} {c : Nat} {ks : List Cg} {w : World} (hx : Cgs w A ks) (ht : t.size ≤ 140737488351232) (hs : ∀ k ∈ ks, k.old.size ≤ 140737488351232 ∧ k.new.size ≤ 140737488351232) (hm : ks.length ≤ maxLen) :
    Calls Try.prog 4 #[.string t, .slice A ks.length c] w (FewIs t.size ks w) := by
  have HS := Lib.hid hs
  have hm2 : ks.length ≤ 9223372036854775807 := by unfold maxLen at hm; exact hm
  clear hs hm
  go_enter Try.func4, Try.ntmps4
  go_wp2_with fail
  go_loopw [5, 6] (fun n i wr => ∃ k : Nat, k ≤ ks.length ∧ k ≤ 31 ∧ i = .int .i64 k ∧ n = .int .i64 (t.size + weigh (ks.take k) : Nat) ∧ Hid (∀ x ∈ ks.take k, -1099511627776 ≤ x.at_ ∧ x.at_ ≤ 1099511627776) ∧ Below w.heap.size w wr) (fun _ i _ => ks.length - (intOf i).toNat)
  case atStart => exact ⟨0, Nat.zero_le _, by omega, rfl, by simp [weigh], fun x hx => by simp at hx, Below.refl _ _⟩
  case round =>
    obtain ⟨k, hk, hk2, rfl, rfl, HN, hW⟩ := hrel
    have hb : weigh (ks.take k) ≤ k * (2 * 140737488351232) := by
      have := weigh_le (ks := ks.take k) (fun x hx => HS.out x (List.mem_of_mem_take hx))
      rw [List.length_take, Nat.min_eq_left hk] at this
      exact this
    have hdr : ∀ q, Below w.heap.size w (wr.drewN q) := fun q => hW.trans ((below_gb (gb_drewN wr q none)).mono hW.size)
    by_cases hlt : k < ks.length
    · obtain ⟨x, hkx⟩ : ∃ x, ks[k]? = some x := ⟨_, List.getElem?_eq_getElem hlt⟩
      obtain ⟨b, off, rfl, hbw, h0, h1, h2⟩ := hx.at_ hW (Nat.le_refl _) hkx
      have hsn := Lib.hid (weigh_snoc hkx)
      obtain ⟨hxs, hxt⟩ := HS.out x (List.mem_of_getElem? hkx)
      have d1 : decide ((k : Int) < (ks.length : Int)) = true := by simp; omega
      by_cases h31 : k < 31
      · have d2 : decide ((k : Int) < 31) = true := by simp; omega
        have hbb : t.size + weigh (ks.take k) + x.old.size + x.new.size ≤ 9223372036854775807 := by omega
        obtain ⟨M, hM⟩ : ∃ M, t.size + weigh (ks.take k) = M := ⟨_, rfl⟩
        rw [hM] at hbb
        rw [hM]
        have HM : Hid (t.size + weigh (ks.take (k + 1)) = M + (x.old.size + x.new.size)) := by show _ = _; rw [hsn.out]; omega
        by_cases hl : x.at_ < -1099511627776
        · clear hkx hb hM hx
          go_wp2
          go_quiet (fail)
          go_wp2
          go_ret
          exact ⟨false, rfl, hdr _, fun h => by cases h⟩
        · have g1 : decide (x.at_ < -1099511627776) = false := decide_eq_false hl
          by_cases hg : 1099511627776 < x.at_
          · clear hkx hb hM hx
            go_wp2
            go_quiet (fail)
            go_wp2
            go_ret
            exact ⟨false, rfl, hdr _, fun h => by cases h⟩
          · have HN2 : Hid (∀ x ∈ ks.take (k + 1), -1099511627776 ≤ x.at_ ∧ x.at_ ≤ 1099511627776) := near_snoc hkx (by omega) HN.out
            clear hkx hb hM hx HN
            go_wp2
            go_quiet (fail)
            go_wp2
            go_roundw
            case rel => exact ⟨k + 1, by omega, by omega, by go_num, by rw [HM.out]; go_num, HN2, hdr _⟩
            case measure => simp [intOf]; omega
      · have d2 : decide ((k : Int) < 31) = false := by simp; omega
        have d3 : decide ((ks.length : Int) ≤ 30) = false := by simp; omega
        have hbb : t.size + weigh (ks.take k) ≤ 9223372036854775807 := by omega
        clear hkx hb hx HN
        generalize t.size + weigh (ks.take k) = M at *
        go_wp2
        go_ret
        exact ⟨false, rfl, hW, fun h => by cases h⟩
    · have hkl : k = ks.length := by omega
      have d1 : decide ((k : Int) < (ks.length : Int)) = false := by simp; omega
      clear hx
      by_cases h30 : ks.length ≤ 30
      · have d3 : decide ((ks.length : Int) ≤ 30) = true := by simp; omega
        have HT : Hid (t.size + weigh (ks.take k) = t.size + weigh ks) := by show _ = _; rw [hkl, List.take_length]
        have HN2 : Hid (∀ x ∈ ks, -1099511627776 ≤ x.at_ ∧ x.at_ ≤ 1099511627776) := by
          have := HN.out
          rwa [hkl, List.take_length] at this
        clear hb HN
        generalize t.size + weigh (ks.take k) = M at *
        go_wp2
        go_ret
        exact ⟨_, rfl, hW, fun h => ⟨h30, by have := HT.out; have := of_decide_eq_true h; omega, HN2.out⟩⟩
      · have d3 : decide ((ks.length : Int) ≤ 30) = false := by simp; omega
        clear hb HN
        generalize t.size + weigh (ks.take k) = M at *
        go_wp2
        go_ret
        exact ⟨false, rfl, hW, fun h => by cases h⟩
set_option maxHeartbeats 2000000 in
set_option maxRecDepth 100000 in
theorem same9_ok {A B : Option Addr} {c d : Nat} {ks : List Cg} {w : World} (hx : Cgs w A ks) (hy : Cgs w B ks) (hm : ks.length ≤ 100000) :
    Calls Try.prog 8 #[.slice A ks.length c, .slice B ks.length d] w fun e w' => e = .returned (.bool true) ∧ Below w.heap.size w w' := by
  go_enter Try.func8, Try.ntmps8
  go_wp2_with fail
  go_loopw [5] (fun i wr => ∃ k : Nat, k ≤ ks.length ∧ i = .int .i64 k ∧ Below w.heap.size w wr) (fun i _ => ks.length - (intOf i).toNat)
  case atStart => exact ⟨0, Nat.zero_le _, rfl, Below.refl _ _⟩
  case round =>
    obtain ⟨k, hk, rfl, hW⟩ := hrel
    by_cases hlt : k < ks.length
    · obtain ⟨x, hkx⟩ : ∃ x, ks[k]? = some x := ⟨_, List.getElem?_eq_getElem hlt⟩
      obtain ⟨b, off, rfl, hbw, h0, h1, h2⟩ := hx.at_ hW (Nat.le_refl _) hkx
      obtain ⟨b', off', rfl, hbw', h0', h1', h2'⟩ := hy.at_ hW (Nat.le_refl _) hkx
      have hdr : ∀ q, Below w.heap.size w (wr.drewN q) := fun q => hW.trans ((below_gb (gb_drewN wr q none)).mono hW.size)
      have d1 : decide ((k : Int) < (ks.length : Int)) = true := by simp; omega
      clear hkx hx hy
      go_wp2
      go_quiet (fail)
      go_wp2
      go_roundw
      case rel => exact ⟨k + 1, by omega, by go_num, hdr _⟩
      case measure => simp [intOf]; omega
    · clear hx hy
      go_wp2
      go_ret
      exact ⟨rfl, hW⟩
/-- Two changes, as a block that has just been laid holds them. -/
theorem cgs_two (w : World) (k l : Cg) (t : TypeId) : Cgs (w.alloc (.cells #[.int .i64 k.at_, .string k.old, .string k.new, .int .i64 l.at_, .string l.old, .string l.new] t)) (some ⟨w.heap.size, 0, none⟩) [k, l] := fun _ => by
  refine ⟨_, _, rfl, by simp, fun j x hx => ?_⟩
  have hb := Blk.new w t #[.int .i64 k.at_, .string k.old, .string k.new, .int .i64 l.at_, .string l.old, .string l.new]
  match j, hx with
  | 0, hx =>
    simp only [List.getElem?_cons_zero, Option.some.injEq] at hx
    subst hx
    exact ⟨hb.cell 0, hb.cell 1, hb.cell 2⟩
  | 1, hx =>
    simp only [List.getElem?_cons_succ, List.getElem?_cons_zero, Option.some.injEq] at hx
    subst hx
    exact ⟨hb.cell 3, hb.cell 4, hb.cell 5⟩
def exs : List Cg := [⟨0, ⟨#[97]⟩, ⟨#[120, 120]⟩⟩, ⟨2, ⟨#[99]⟩, ⟨#[]⟩⟩]
def exs' : List Cg := [⟨0, ⟨#[120, 120]⟩, ⟨#[97]⟩⟩, ⟨3, ⟨#[]⟩, ⟨#[99]⟩⟩]
theorem exs_right : right [97, 98, 99] exs = true := by
  have d1 : dec [97, 98, 99] = some [[97], [98], [99]] := dec_of (rs := [[97], [98], [99]]) (by decide)
  have d2 : dec [97] = some [[97]] := dec_of (rs := [[97]]) (by decide)
  have d3 : dec [120, 120] = some [[120], [120]] := dec_of (rs := [[120], [120]]) (by decide)
  have d4 : dec [99] = some [[99]] := dec_of (rs := [[99]]) (by decide)
  have d5 : dec [] = some [] := dec_nil
  have f1 : fits [97, 98, 99] 0 [97] [120, 120] = true := by simp only [fits, place, places, valid, d1, d2, d3]; decide
  have f2 : fits [97, 98, 99] 2 [99] [] = true := by simp only [fits, place, places, valid, d1, d4, d5]; decide
  show (apart exs && (fits [97, 98, 99] 0 [97] [120, 120] && (fits [97, 98, 99] 2 [99] [] && true))) = true
  rw [f1, f2]
  decide
theorem exs_done : done [97, 98, 99] exs = ([120, 120, 98], 0) := by
  rw [done_ok exs_right (by decide)]
  rfl
theorem exs_turns : turns exs = exs' := by
  rw [turns, if_pos (by decide)]
  rfl
set_option maxHeartbeats 2000000 in
set_option maxRecDepth 100000 in
theorem batch_lives (w : World) : Calls Try.prog 5 #[] w fun e w' => e = .returned (.bool true) ∧ Below w.heap.size w w' := by
  have hb : ∀ k ∈ exs, -1099511627776 ≤ k.at_ ∧ k.at_ ≤ 1099511627776 := by decide
  have C0 := cgs_two w ⟨0, ⟨#[97]⟩, ⟨#[120, 120]⟩⟩ ⟨2, ⟨#[99]⟩, ⟨#[]⟩⟩ 30
  have D := batch_Do ⟨#[97, 98, 99]⟩ (c := 2) (ks := exs) C0 (by decide) hb (by decide) (by decide)
  rw [show (⟨#[97, 98, 99]⟩ : ByteArray).data.toList = [97, 98, 99] from rfl, exs_done, show bs (([120, 120, 98] : List UInt8), (0 : Int)).1 = ⟨#[120, 120, 98]⟩ from rfl] at D
  have HD := Lib.hid D
  have h0 : Below w.heap.size w (w.alloc (.cells #[.int .i64 0, .string ⟨#[97]⟩, .string ⟨#[120, 120]⟩, .int .i64 2, .string ⟨#[99]⟩, .string ⟨#[]⟩] 30)) := (Below.refl _ w).alloc (Nat.le_refl _) _
  have HT : Hid (∀ u, Below (w.alloc (.cells #[.int .i64 0, .string ⟨#[97]⟩, .string ⟨#[120, 120]⟩, .int .i64 2, .string ⟨#[99]⟩, .string ⟨#[]⟩] 30)).heap.size (w.alloc (.cells #[.int .i64 0, .string ⟨#[97]⟩, .string ⟨#[120, 120]⟩, .int .i64 2, .string ⟨#[99]⟩, .string ⟨#[]⟩] 30)) u →
      Calls Try.prog 9 #[.slice (some ⟨w.heap.size, 0, none⟩) 2 2] u (TurnIs exs' u)) := fun u hu => by
    have := batch_Turn (c := 2) (ks := exs) (Cgs.below C0 hu) hb (by decide) (by decide)
    rw [exs_turns] at this
    exact this
  have HS : Hid (∀ (u : World) (A : Option Addr) (c : Nat), Cgs u A exs' → Calls Try.prog 8 #[.slice A 2 c, .slice (some ⟨u.heap.size, 0, none⟩) 2 2] (u.alloc (.cells #[.int .i64 0, .string ⟨#[120, 120]⟩, .string ⟨#[97]⟩, .int .i64 3, .string ⟨#[]⟩, .string ⟨#[99]⟩] 30)) fun e w' => e = .returned (.bool true) ∧ Below u.heap.size u w') := fun u A c hA => by
    have h1 := (Below.refl u.heap.size u).alloc (Nat.le_refl _) (.cells #[.int .i64 0, .string ⟨#[120, 120]⟩, .string ⟨#[97]⟩, .int .i64 3, .string ⟨#[]⟩, .string ⟨#[99]⟩] 30)
    refine (same9_ok (c := c) (d := 2) (ks := exs') (hA.below h1) (cgs_two u ⟨0, ⟨#[120, 120]⟩, ⟨#[97]⟩⟩ ⟨3, ⟨#[]⟩, ⟨#[99]⟩⟩ 30) (by decide)).mono ?_
    rintro e w' ⟨he, hb'⟩
    exact ⟨he, h1.trans (hb'.mono h1.size)⟩
  clear D C0 hb
  go_enter Try.func5, Try.ntmps5
  go_wp2_with (first
    | (go_at_call 6; refine HD.out.mono ?_; rintro e w1 ⟨rfl, hb1⟩)
    | (go_at_call 9; refine (HT.out _ hb1).mono ?_; rintro e w2 ⟨A, c, rfl, hA, hb2⟩)
    | (go_at_call 8; refine (HS.out _ A c hA).mono ?_; rintro e w3 ⟨rfl, hb3⟩))
  go_ret
  exact ⟨rfl, ((h0.trans (hb1.mono h0.size)).trans (hb2.mono (Nat.le_trans h0.size hb1.size))).trans (hb3.mono (Nat.le_trans (Nat.le_trans h0.size hb1.size) hb2.size))⟩
end Go.Proofs.Ytdnphdkiedkemaa
