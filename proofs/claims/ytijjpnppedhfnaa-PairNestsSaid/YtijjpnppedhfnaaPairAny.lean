/-
  strings.IndexAny at brackets, in whatever valid text.
-/
import Derived.Test.YtijjpnppedhfnaaPair
import Derived.Test.YtijjpnppedhfnaaKey
import Derived.Test.YtijjpnppedhfnaaShelf
import Derived.Test.YtijjpnppedhfnaaUtfCounts
import Derived.Lib.IndexBytes
import Derived.BigCall
import Derived.BigQuiet
import Derived.Deep.QuietTactic
import Derived.WalkSmall
import Derived.WalkMore
namespace Go.Proofs.Ytijjpnppedhfnaa
open Go.RowKit
namespace Pair
/-- The six. -/
def brk : List UInt8 := [40, 41, 91, 93, 123, 125]
abbrev brkS : ByteArray := { data := #[40, 41, 91, 93, 123, 125] }
theorem brk_small : ∀ (j : Nat) b, brkS.data.toList[j]? = some b → b.toNat < 128 := by
  intro j b h
  have h1 : b ∈ brk := List.mem_of_getElem? h
  clear h
  revert b
  decide
theorem no_big {q : List UInt8} (h : Utf.one q = true) (h2 : 2 ≤ q.length) : ∀ b ∈ q, 128 ≤ b.toNat := by
  intro b hb
  refine Nat.le_of_not_lt fun hlt => ?_
  refine rune_bytes h hlt (o := b) ?_ b hb rfl
  intro e
  rw [e] at h2
  simp at h2
theorem no_brk {b : UInt8} (h : 128 ≤ b.toNat) : brk.contains b = false := by
  rw [List.contains_eq_any_beq, List.any_eq_false]
  intro x hx e
  have e1 : b = x := by simpa using e
  subst e1
  have : ∀ y ∈ brk, y.toNat < 128 := by decide
  have := this _ hx
  omega
end Pair
open Pair
theorem rune_valid {r : Int} (h : (0 ≤ r ∧ r < 55296) ∨ (57343 < r ∧ r ≤ 1114111)) (w : World) :
    Calls Try.prog 50 #[.int .i32 r] w fun e w' => e = .returned (.bool true) ∧ w = w' := by
  rcases h with ⟨h1, h2⟩ | ⟨h1, h2⟩
  · go_enter Try.func50, Try.ntmps50
    go_wp2
    go_ret
    exact ⟨rfl, rfl⟩
  · have h3 : (0 : Int) ≤ r := by omega
    have h4 : ¬ r < 55296 := by omega
    go_enter Try.func50, Try.ntmps50
    go_wp2
    go_ret
    exact ⟨rfl, rfl⟩
set_option maxHeartbeats 1000000 in
set_option maxRecDepth 100000 in
/-- A rune of several bytes is none of the six: U+FFFD. -/
theorem index_err (w : World) :
    Calls Try.prog 37 #[.string brkS, .int .i32 65533] w fun e w' => e = .returned (.int .i64 (-1)) ∧ Below w.heap.size w w' := by
  go_enter Try.func37, Try.ntmps37
  go_wp2
  go_loopw [] (fun wr => ∃ i : Nat, i ≤ 6 ∧ wr.heap[w.heap.size]? = some (.stringIter brkS i) ∧ Below w.heap.size w wr) (fun wr => 6 - wr.iterPos w.heap.size)
  case atStart => exact ⟨0, Nat.zero_le _, World.iter_heap w brkS 0, (Below.refl _ _).alloc (Nat.le_refl _) _⟩
  case round =>
    obtain ⟨i, hi, hit, hb⟩ := hrel
    by_cases hlt : i < 6
    · have hnx : ∀ ty, (Instr.next (.pointer (some ⟨w.heap.size, 0, none⟩)) true ty).run Try.prog wr = _ := fun ty => Lib.run_next_any_at wr w.heap.size brkS i ty hit hlt
      have hd : ∃ c : Nat, Utf8.decode brkS i = (c, 1) ∧ c < 128 := by
        have : i = 0 ∨ i = 1 ∨ i = 2 ∨ i = 3 ∨ i = 4 ∨ i = 5 := by omega
        rcases this with rfl | rfl | rfl | rfl | rfl | rfl
        · exact ⟨40, by decide, by decide⟩
        · exact ⟨41, by decide, by decide⟩
        · exact ⟨91, by decide, by decide⟩
        · exact ⟨93, by decide, by decide⟩
        · exact ⟨123, by decide, by decide⟩
        · exact ⟨125, by decide, by decide⟩
      obtain ⟨c, hdc, hc⟩ := hd
      rw [hdc] at hnx
      simp only [] at hnx
      have hit2 := Lib.iterAt_heap wr w.heap.size brkS i (i + 1) hit
      have hb2 := Lib.below_iterAt hb (k := w.heap.size) (Nat.le_refl _) brkS (i + 1)
      have hne : ((c : Int) == 65533) = false := beq_eq_false_iff_ne.2 (by omega)
      have Hit := Lib.hid hit
      clear hit hb hdc
      go_wp2
      go_roundw
      case rel => exact ⟨i + 1, by omega, hit2, hb2⟩
      case measure =>
        simp only [World.iterPos, hit2, Hit.out]
        omega
    · obtain rfl : i = 6 := by omega
      have hnx : ∀ ty, (Instr.next (.pointer (some ⟨w.heap.size, 0, none⟩)) true ty).run Try.prog wr = _ := fun ty => Lib.run_next_end_at wr w.heap.size brkS _ ty hit (by decide)
      go_wp2
      go_ret
      exact ⟨rfl, hb⟩
theorem byte_absent {l : List UInt8} {y : UInt8} (hl : ∀ b ∈ l, b.toNat < 128) (hy : 128 ≤ y.toNat) : Lib.indexByte l y = -1 := by
  refine Classical.byContradiction fun hne => ?_
  have hge := Lib.indexByte_ge l y
  obtain ⟨o, ho⟩ : ∃ o : Nat, Lib.indexByte l y = o := ⟨(Lib.indexByte l y).toNat, by omega⟩
  have h1 := (Lib.indexByte_some ho).1
  have := hl y (List.mem_of_getElem? h1)
  omega
set_option maxHeartbeats 1000000 in
set_option maxRecDepth 100000 in
/-- A rune of several bytes is none of the six: all others. -/
theorem index_big (S : ByteArray) (hS : ∀ b ∈ S.data.toList, b.toNat < 128) {q : List UInt8} (ho : Utf.one q = true) (h2 : 2 ≤ q.length) (hSq : q.length ≤ S.size) (hne : Key.cp q ≠ 65533) (w : World) :
    Calls Try.prog 37 #[.string S, .int .i32 (Key.cp q : Nat)] w fun e w' => e = .returned (.int .i64 (-1)) ∧ Below w.heap.size w w' := by
  have hen := Key.utf8_cp ho
  have hq4 := Utf.one_le ho
  have hv : (128 ≤ Key.cp q ∧ Key.cp q < 55296) ∨ (57343 < Key.cp q ∧ Key.cp q ≤ 1114111) := by
    rcases Key.one_cases ho with ⟨a, rfl⟩ | ⟨a, b, rfl⟩ | ⟨a, b, c, rfl⟩ | ⟨a, b, c, d, rfl⟩
    · simp at h2
    · have := Key.cp2 ho; omega
    · have := Key.cp3 ho; omega
    · have := Key.cp4 ho; omega
  have c1 := Lib.hid (fun w => rune_valid (r := (Key.cp q : Nat)) (by omega) w)
  have hqs : (bs q).size = q.length := bs_size q
  obtain ⟨k, hk⟩ : ∃ k, q.length = k + 1 := ⟨q.length - 1, by omega⟩
  have hkq : k < (bs q).size := by omega
  have hkS : k < S.size := by omega
  have hy : 128 ≤ ((bs q)[k]'hkq).toNat := by
    have h3 := byte_get (bs q) hkq
    rw [bs_toList] at h3
    exact no_big ho h2 _ (List.mem_of_getElem? h3)
  have hx : (S[k]'hkS).toNat < 128 := hS _ (List.mem_of_getElem? (byte_get S hkS))
  have C2 : Hid (∀ w, Calls Try.prog 49 #[.string (S.extract (k + 1) S.size), .int .u8 (((bs q)[k]'hkq).toNat : Nat)] w fun e w' => e = .returned (.int .i64 (-1)) ∧ w' = w) := fun w => by
    have ci := Try.strings_IndexByte (S.extract (k + 1) S.size) (((bs q)[k]'hkq).toNat : Nat) w
    rw [show (((((bs q)[k]'hkq).toNat : Nat) : Int).toNat.toUInt8) = (bs q)[k]'hkq by simp, byte_absent (fun b hb => hS b (by
      rw [Lib.extract_eq] at hb
      exact List.mem_of_mem_drop (List.mem_of_mem_take hb))) hy] at ci
    exact ci
  have g1 : (((S[k]'hkS).toNat : Int) == (((bs q)[k]'hkq).toNat : Int)) = false := beq_eq_false_iff_ne.2 (by omega)
  have g2 : (((S[k]'hkS).toNat : Int) != (((bs q)[k]'hkq).toNat : Int)) = true := by rw [bne, g1]; rfl
  have hr0 : (0 : Int) ≤ (Key.cp q : Nat) := by omega
  have hr1 : ¬ ((Key.cp q : Nat) : Int) < 128 := by omega
  have hr2 : (((Key.cp q : Nat) : Int) == 65533) = false := beq_eq_false_iff_ne.2 (by omega)
  have hz : (bs q).size = k + 1 := by omega
  have hk3 : k ≤ 3 := by omega
  clear hS ho h2 hv hne hx hy hqs hk hq4 hSq
  generalize Key.cp q = r at *
  generalize bs q = Q at *
  go_enter Try.func37, Try.ntmps37
  go_wp2_with (go_at_call 50; refine (c1.out _).mono ?_; rintro e w1 ⟨rfl, rfl⟩)
  go_step3
  go_wp2
  go_loopw [9] (fun iv wr => iv = .int .i64 k ∧ Below w.heap.size w wr) (fun _ _ => 0)
  case atStart => exact ⟨rfl, Below.refl _ _⟩
  case round =>
    obtain ⟨rfl, hb⟩ := hrel
    have HB := Lib.hid hb
    clear hb hz
    go_wp2
    go_step3
    go_wp2_with fail
    go_quiet (fail)
    go_wp2_with fail
    go_quiet ((first | (go_at_call 49; exact (C2.out _).mono fun e w1 h => ⟨h.1, _, h.2⟩)))
    go_wp2
    show bodyPost Try.prog Try.f37 (fun e w' => e = Ending.returned (Value.int IntKind.i64 (-1)) ∧ Below w.heap.size w w') Exit.ret _ _
    go_ret
    exact ⟨rfl, below_drewN HB.out _⟩
theorem index_few (n : Int) (w : World) :
    Calls Try.prog 38 #[.int .i64 n] w fun e w' => e = .returned (.bool (decide (8 < n))) ∧ w = w' := by
  go_enter Try.func38, Try.ntmps38
  go_wp2
  go_ret
  exact ⟨rfl, rfl⟩
theorem Pair.noAny_rune {s : List UInt8} {rs : List (List UInt8)} (hd : Utf.dec s = some rs) {j : Nat} {q : List UInt8} (hq : rs[j]? = some q) (h : Lib.NoAny s brk (Utf.off rs j)) (hn : ∀ b ∈ q, brk.contains b = false) : Lib.NoAny s brk (Utf.off rs (j + 1)) := by
  intro i b hi hb
  by_cases hlt : i < Utf.off rs j
  · exact h i b hlt hb
  · have ho := Utf.off_next hq
    refine hn b ?_
    have hp := Utf.off_piece hq
    rw [← (Utf.dec_some hd).2] at hp
    rw [← hp]
    refine List.mem_of_getElem? (i := i - Utf.off rs j) ?_
    rw [List.getElem?_drop, List.getElem?_take_of_lt (by omega), show Utf.off rs j + (i - Utf.off rs j) = i by omega]
    exact hb
set_option maxHeartbeats 2000000 in
set_option maxRecDepth 100000 in
theorem index_short (s : ByteArray) {rs : List (List UInt8)} (hd : Utf.dec s.data.toList = some rs) (h8 : s.size ≤ 8) (w : World) :
    Calls Try.prog 25 #[.string s, .string brkS] w fun e w' => e = .returned (.int .i64 (Lib.indexAny s.data.toList brk)) ∧ Below w.heap.size w w' := by
  have hl := data_len s
  have c1 := Lib.hid (fun w => index_few (s.size : Nat) w)
  rw [decide_eq_false (show ¬ (8 : Int) < (s.size : Nat) by omega)] at c1
  have HD := Lib.hid hd
  clear hd
  go_enter Try.func25, Try.ntmps25
  go_wp2_with (go_at_call 38; refine (c1.out _).mono ?_; rintro e w1 ⟨rfl, rfl⟩)
  go_loopw [] (fun wr => ∃ j, j ≤ rs.length ∧ wr.heap[w.heap.size]? = some (.stringIter s (Utf.off rs j)) ∧ Below w.heap.size w wr ∧ Hid (Lib.NoAny s.data.toList brk (Utf.off rs j))) (fun wr => s.size - wr.iterPos w.heap.size)
  case atStart =>
    refine ⟨0, Nat.zero_le _, ?_, (Below.refl _ _).alloc (Nat.le_refl _) _, ?_⟩
    · rw [Utf.off_zero]; exact World.iter_heap w s 0
    · rw [Utf.off_zero]; exact Lib.NoAny.zero _ _
  case round =>
    obtain ⟨j, hj, hit, hb, HN⟩ := hrel
    have hsz : w.heap.size < wr.heap.size := (Array.getElem?_eq_some_iff.1 hit).1
    rcases rune_or_end (rs := rs) j with ⟨q, hq⟩ | hend
    · obtain ⟨hdc, hp, hoff, hle, ho⟩ := Key.decode_rune s HD.out hq
      have hcp := Key.cp_le ho
      have hpos := Utf.one_pos ho
      have hnx : ∀ ty, (Instr.next (.pointer (some ⟨w.heap.size, 0, none⟩)) true ty).run Try.prog wr = _ := fun ty => Lib.run_next_any_at wr w.heap.size s _ ty hit hp
      rw [hdc] at hnx
      simp only [] at hnx
      rw [← hoff] at hnx
      have hit2 := Lib.iterAt_heap wr w.heap.size s _ (Utf.off rs (j + 1)) hit
      have hb2 := Lib.below_iterAt hb (k := w.heap.size) (Nat.le_refl _) s (Utf.off rs (j + 1))
      have hlt := (List.getElem?_eq_some_iff.1 hq).1
      have Hit := Lib.hid hit
      have Hoff := Lib.hid (And.intro hoff (And.intro hpos hle))
      have hs2 := Lib.iterAt_size wr w.heap.size s (Utf.off rs (j + 1))
      have HNX := Lib.hid (fun h => noAny_rune HD.out hq HN.out h)
      rw [← hs2] at hsz
      clear hoff hit hb hle hdc hs2
      generalize wr.iterAt w.heap.size s (Utf.off rs (j + 1)) = wi at *
      have HIT := Lib.hid hit2
      have HB := Lib.hid hb2
      have GO : Hid (∀ w2, Below wi.heap.size wi w2 → w2.heap[w.heap.size]? = some (.stringIter s (Utf.off rs (j + 1))) ∧ Below w.heap.size w w2) := fun w2 h => ⟨(h.block _ hsz).trans HIT.out, HB.out.trans (h.mono (by omega))⟩
      clear hit2 hb2 hsz
      by_cases h1 : 2 ≤ q.length
      · have C2 : Hid (∀ w, Calls Try.prog 37 #[.string brkS, .int .i32 (Key.cp q : Nat)] w fun e w' => e = .returned (.int .i64 (-1)) ∧ Below w.heap.size w w') := fun w => by
          by_cases he : Key.cp q = 65533
          · rw [he]; exact index_err w
          · exact index_big brkS (by decide) ho h1 (by have := Utf.one_le ho; show _ ≤ 6; omega) he w
        have HN2 := Lib.hid (HNX.out (fun b hb => no_brk (no_big ho h1 b hb)))
        clear h1 HNX hq ho HN
        generalize Key.cp q = z at *
        go_wp2_with (go_at_call 37; refine (C2.out _).mono ?_; rintro e w2 ⟨rfl, hb2⟩)
        go_roundw
        case rel => exact ⟨j + 1, hlt, (GO.out _ hb2).1, (GO.out _ hb2).2, HN2.out⟩
        case measure =>
          simp only [World.iterPos, (GO.out _ hb2).1, Hit.out]
          have := Hoff.out; omega
      · obtain ⟨b, rfl⟩ : ∃ b, q = [b] := List.length_eq_one_iff.1 (by omega)
        have hb128 : b.toNat < 128 := (Utf.one1 b).1 ho
        have hz : Key.cp [b] = b.toNat := rfl
        have C2 : Hid (∀ w, Calls Try.prog 37 #[.string brkS, .int .i32 (b.toNat : Nat)] w fun e w' => e = .returned (.int .i64 (Lib.indexByte brk b)) ∧ w = w') := fun w => by
          have := Try.strings_IndexRune_ascii brkS (b.toNat : Nat) w (by omega) (by omega)
          rw [show (((b.toNat : Nat) : Int).toNat.toUInt8) = b by simp] at this
          exact this.mono (fun e w' (h : _ ∧ _) => ⟨h.1, h.2.symm⟩)
        have hcon := Lib.contains_iff_indexByte brk b
        have hx : s.data.toList[Utf.off rs j]? = some b := by
          have hp2 := Utf.off_piece hq
          rw [← (Utf.dec_some HD.out).2] at hp2
          have h3 : ([b] : List UInt8)[0]? = some b := rfl
          rw [← hp2, List.getElem?_drop, Nat.add_zero, List.getElem?_take_of_lt (by have := Utf.off_next hq; simp at this; omega)] at h3
          exact h3
        have HX := Lib.hid hx
        rw [hz] at hnx hcp
        have GO2 := Lib.hid (GO.out wi (Below.refl _ _))
        cases hin : brk.contains b with
        | false =>
          rw [hin] at hcon
          have hlt0 : ¬ ((0 : Int) ≤ Lib.indexByte brk b) := of_decide_eq_false hcon.symm
          have HN2 := Lib.hid (HNX.out (fun c hc => by rw [List.mem_singleton] at hc; rw [hc]; exact hin))
          clear hcon HNX hq ho HN hx hin hz
          generalize Lib.indexByte brk b = y at *
          go_wp2_with (go_at_call 37; refine (C2.out _).mono ?_; rintro e w2 ⟨rfl, rfl⟩)
          go_roundw
          case rel => exact ⟨j + 1, hlt, GO2.out.1, GO2.out.2, HN2.out⟩
          case measure =>
            simp only [World.iterPos, GO2.out.1, Hit.out]
            have := Hoff.out; omega
        | true =>
          rw [hin] at hcon
          have hge0 : (0 : Int) ≤ Lib.indexByte brk b := of_decide_eq_true hcon.symm
          have H : Hid (Lib.indexAny s.data.toList brk = (Utf.off rs j : Nat)) := Lib.indexAny_hit HN.out hx hin
          clear hcon HNX hq ho HN hx hin hz
          generalize Lib.indexByte brk b = y at *
          go_wp2_with (go_at_call 37; refine (C2.out _).mono ?_; rintro e w2 ⟨rfl, rfl⟩)
          go_ret
          exact ⟨by rw [H.out]; rfl, GO2.out.2⟩
    · obtain rfl : j = rs.length := by omega
      have hnx : ∀ ty, (Instr.next (.pointer (some ⟨w.heap.size, 0, none⟩)) true ty).run Try.prog wr = _ := fun ty => Lib.run_next_end_at wr w.heap.size s _ ty hit (by rw [off_len HD.out hend]; omega)
      have H : Hid (Lib.indexAny s.data.toList brk = -1) := Lib.indexAny_none (by
        have h1 := HN.out
        rw [off_len HD.out hend, ← hl] at h1
        exact h1)
      go_wp2
      go_ret
      exact ⟨by rw [H.out]; rfl, hb⟩
theorem index_brk (s : ByteArray) {rs : List (List UInt8)} (hd : Utf.dec s.data.toList = some rs) (hs : s.size < 4294967281) (w : World) :
    Calls Try.prog 25 #[.string s, .string brkS] w fun e w' => e = .returned (.int .i64 (Lib.indexAny s.data.toList brk)) ∧ Below w.heap.size w w' := by
  by_cases h8 : s.size ≤ 8
  · exact index_short s hd h8 w
  · have := Try.strings_IndexAny_long (fun _ => by kernel_rfl) s brkS w (by decide) (by omega) hs (by decide) brk_small
    refine this.mono fun e w' (h : _ ∧ _) => ⟨h.1, ?_⟩
    rw [h.2]
    exact ((Below.refl _ _).alloc (Nat.le_refl _) _).alloc (by simp) _
end Go.Proofs.Ytijjpnppedhfnaa
