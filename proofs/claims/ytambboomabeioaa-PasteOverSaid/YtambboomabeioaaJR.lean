/-
  The document's answer: texts so many times, whether there is a line feed, where a line stops, places of runes.
-/
import Derived.Test.YtambboomabeioaaJP
import Derived.Test.YtambboomabeioaaLineRefs2
import Derived.Test.YtambboomabeioaaUtfRefs
import Derived.Test.YtambboomabeioaaKeySign
import Derived.Test.YtambboomabeioaaInts
import Derived.OwnWalk
import Derived.Test.YtambboomabeioaaUtfSplit
import Derived.Test.YtambboomabeioaaJD
import Derived.Test.YtambboomabeioaaClassSwap
import Derived.Deep.RegionHeld3
namespace Go.Proofs.Ytambboomabeioaa
open Go.RowKit
namespace Pst
open Utf (dec off valid place rune one)
/-- Where a line ends, by the rune there. -/
theorem ends_rune {s : List UInt8} {p : Nat} (hp : place s (p : Int) = true) : (Span.ends s p = true ↔ rune s (p : Int) = [] ∨ rune s (p : Int) = [10]) := by
  obtain ⟨rs, hd⟩ := Utf.valid_of (Line.place_ok hp)
  obtain ⟨i, hi, he⟩ := (Utf.place_iff hd).1 hp
  obtain rfl : off rs i = p := by omega
  have hall := (Utf.dec_some hd).1
  rw [Span.ends, Bool.or_eq_true, decide_eq_true_iff, decide_eq_true_iff]
  rcases Nat.eq_or_lt_of_le hi with h | h
  · have ht : off rs i = s.length := Utf.off_top hd (by omega)
    have hn := Utf.next_end hd
    rw [ht]
    have hr : rune s (s.length : Int) = [] := by rw [rune, hn]; rfl
    rw [hr]
    exact ⟨fun _ => .inl rfl, fun _ => .inl rfl⟩
  · have hg := List.getElem?_eq_getElem h
    have hr := Utf.rune_at hd hg
    have ho := hall _ (List.getElem_mem h)
    have hlt := Utf.off_lt hall (show i < i + 1 by omega) h
    have hin := Utf.off_in hd (i + 1)
    have hb : s[off rs i]? = (rs[i])[0]? := by
      have e : s.drop (off rs i) = rs[i] ++ (rs.drop (i + 1)).flatten := by rw [drop_runes hd, List.drop_eq_getElem_cons h, List.flatten_cons]
      have e2 := congrArg (fun l => l[0]?) e
      simp only [List.getElem?_drop, Nat.add_zero] at e2
      rw [e2, List.getElem?_append_left (Utf.one_pos ho)]
    rw [hr, hb]
    constructor
    · rintro (h1 | h1)
      · omega
      · exact .inr (feed_rune ho (List.mem_of_getElem? h1))
    · rintro (h1 | h1)
      · exact absurd h1 (Utf.one_ne ho)
      · right; rw [h1]; rfl
theorem tail_ends {s : List UInt8} {rs : List (List UInt8)} {i j q : Nat} (hd : dec s = some rs) (hj : j ≤ rs.length) (hno : ∀ q : Nat, off rs i ≤ q → q < off rs j → s[q]? ≠ some 10) (hend : j = rs.length ∨ s[off rs j]? = some 10) (hq : i ≤ q) (hqj : q ≤ j) : Span.ends s (off rs q) = decide (q = j) := by
  rw [Span.ends]
  rcases Nat.eq_or_lt_of_le hqj with h | h
  · subst h
    rw [decide_eq_true (show q = q from rfl)]
    rcases hend with h | h
    · rw [decide_eq_true (Utf.off_top hd (by omega))]; rfl
    · rw [decide_eq_true h, Bool.or_true]
  · have h1 := Utf.off_lt (Utf.dec_some hd).1 h hj
    have h2 := Utf.off_in hd j
    have h3 := hno (off rs q) (Utf.off_mono hq) h1
    rw [decide_eq_false (by omega), decide_eq_false h3, decide_eq_false (by omega)]; rfl
/-- The places of c runes, the first of them number i. -/
def run (rs : List (List UInt8)) (i c : Nat) : List Int := (List.range c).map fun d => ((off rs (i + d) : Nat) : Int)
theorem run_length (rs : List (List UInt8)) (i c : Nat) : (run rs i c).length = c := by simp [run]
theorem run_succ (rs : List (List UInt8)) (i c : Nat) : run rs i (c + 1) = run rs i c ++ [((off rs (i + c) : Nat) : Int)] := by simp [run, List.range_succ]
theorem run_get {rs : List (List UInt8)} {i c d : Nat} (h : d < c) : (run rs i c)[d]? = some ((off rs (i + d) : Nat) : Int) := by simp [run, h]
end Pst
set_option maxHeartbeats 2000000 in
set_option maxRecDepth 100000 in
theorem ref24_rep (x b : ByteArray) (n : Int) (hx : x.size ≤ 100000000) (hb : b.size ≤ 100000000) (hn : n ≤ 9223372036854775807) (w : World) :
    Calls Try.prog 27 #[.string x, .string b, .int .i64 n] w fun e w' => e = .returned (.string (bs (Pst.rp x.data.toList b.data.toList (Pst.often n - 1)))) ∧ w = w' := by
  have ho := Pst.often_int n
  have hop := Pst.often_pos n
  have HL : Hid (∀ j, (Pst.rp x.data.toList b.data.toList j).length ≤ 200004096) := fun j => by
    have := Pst.rp_length x.data.toList b.data.toList j
    rw [data_len, data_len] at this
    omega
  have HM : Hid (∀ j, (Pst.rp x.data.toList b.data.toList j).length ≤ 4096 → bs (Pst.rp x.data.toList b.data.toList j) ++ b ++ x = bs (Pst.rp x.data.toList b.data.toList (j + 1))) := fun j h => by
    rw [Pst.rp_more h, ← bs_append, ← bs_append, bs_data, bs_data, ByteArray.append_assoc]
  have HS : Hid (∀ i k, 4096 < (Pst.rp x.data.toList b.data.toList i).length → i ≤ k → Pst.rp x.data.toList b.data.toList k = Pst.rp x.data.toList b.data.toList i) := fun i k h1 h2 => Pst.rp_stop h1 h2
  have H0 : Hid (.string x = Value.string (bs (Pst.rp x.data.toList b.data.toList 0))) := by show _ = _; rw [Pst.rp, bs_data]
  generalize Pst.rp x.data.toList b.data.toList = F at *
  generalize Pst.often n = m at *
  go_enter Try.func27, Try.ntmps27
  go_wp2
  go_loopw [7, 8] (fun tv iv wr => ∃ j : Nat, j + 1 ≤ m ∧ iv = .int .i64 ((j : Int) + 1) ∧ tv = .string (bs (F j)) ∧ w = wr) (fun _ iv _ => m - (intOf iv).toNat)
  case atStart => exact ⟨0, hop, rfl, H0.out, rfl⟩
  case round =>
    obtain ⟨j, hj, rfl, rfl, hw⟩ := hrel
    subst hw
    have hl := HL.out j
    by_cases hlt : (j : Int) + 1 < n
    · have g1 : decide ((j : Int) + 1 < n) = true := decide_eq_true hlt
      by_cases h4 : (F j).length ≤ 4096
      · have hm := Lib.hid (HM.out j h4)
        have g2 : decide (((bs (F j)).size : Int) ≤ 4096) = true := by rw [bs_size]; exact decide_eq_true (by omega)
        have g2n : (bs (F j)).size ≤ 4096 := by rw [bs_size]; exact h4
        have g3 : ¬ 9223372036854775807 < (bs (F j)).size + b.size := by omega
        have g4 : ¬ 9223372036854775807 < (bs (F j) ++ b).size + x.size := by rw [ByteArray.size_append]; omega
        have g5 : ¬ 9223372036854775807 < (bs (F j)).size + b.size + x.size := by omega
        have w1 : IntKind.i64.wrap ((j : Int) + 1 + 1) = (j : Int) + 1 + 1 := by rw [IntKind.wrap_i64]; omega
        go_wp2
        go_roundw
        case rel => exact ⟨j + 1, by omega, by go_num, by rw [← hm.out], by trivial⟩
        case measure => simp [intOf]; omega
      · have hs := Lib.hid (HS.out j (m - 1) (by omega) (by omega))
        have g2 : decide (((bs (F j)).size : Int) ≤ 4096) = false := by rw [bs_size]; exact decide_eq_false (by omega)
        have g2n : ¬ (bs (F j)).size ≤ 4096 := by rw [bs_size]; exact h4
        go_wp2
        go_ret
        exact ⟨by rw [hs.out]; rfl, rfl⟩
    · have g1 : decide ((j : Int) + 1 < n) = false := decide_eq_false hlt
      have hjm : Hid (m - 1 = j) := by show _ = _; omega
      go_wp2
      go_ret
      exact ⟨by rw [hjm.out]; rfl, rfl⟩
theorem ref24_feed (s : ByteArray) (hv : Utf.valid s.data.toList = true) (hs : s.size ≤ 1000000000000) (w : World) :
    Calls Try.prog 32 #[.string s] w fun e w' => e = .returned (.bool (decide ((10 : UInt8) ∈ s.data.toList))) ∧ Below w.heap.size w w' := by
  have C1 := Lib.hid (fun w => ref4_Count s hs w)
  have hc := Span.L_count hv
  have hp : (10 : UInt8) ∈ s.data.toList ↔ 0 < s.data.toList.count 10 := List.count_pos_iff.symm
  generalize (Line.L s.data.toList).length = k at *
  by_cases h : (10 : UInt8) ∈ s.data.toList
  · have g1 : decide ((1 : Int) < (k : Int)) = true := decide_eq_true (by have := hp.1 h; omega)
    rw [decide_eq_true h]
    clear hp h hc
    go_enter Try.func32, Try.ntmps32
    go_wp2_with (go_at_call 64; (with_reducible refine (C1.out _).mono ?_); rintro e u ⟨rfl, hb⟩)
    go_ret
    exact ⟨rfl, hb⟩
  · have g1 : decide ((1 : Int) < (k : Int)) = false := decide_eq_false (by have : ¬ 0 < s.data.toList.count 10 := fun e => h (hp.2 e); omega)
    rw [decide_eq_false h]
    clear hp h hc
    go_enter Try.func32, Try.ntmps32
    go_wp2_with (go_at_call 64; (with_reducible refine (C1.out _).mono ?_); rintro e u ⟨rfl, hb⟩)
    go_ret
    exact ⟨rfl, hb⟩
theorem ref24_stop (s : ByteArray) (p : Nat) (hp : Utf.place s.data.toList (p : Int) = true) (hs : s.size ≤ 17592186044000) (w : World) :
    Calls Try.prog 29 #[.string s, .int .i64 p] w fun e w' => e = .returned (.bool (Span.ends s.data.toList p)) ∧ Below w.heap.size w w' := by
  have R1 := Lib.hid (fun w => ref_Rune s (p : Int) hs w)
  have he := Pst.ends_rune hp
  generalize Utf.rune s.data.toList (p : Int) = r at *
  have hB := Below.refl w.heap.size w
  by_cases h0 : r = []
  · have g0 : (bs r).toList.isEmpty = true := by rw [bs_isEmpty, h0]; rfl
    rw [he.2 (.inl h0)]
    clear he h0 hp
    generalize bs r = X at *
    go_enter Try.func29, Try.ntmps29
    go_wp2_with (go_at_call 63; (with_reducible refine (R1.out _).mono ?_); rintro e u ⟨rfl, hb⟩; replace hB := hB.trans (hb.mono hB.size); clear hb)
    go_ret
    exact ⟨rfl, hB⟩
  · have g0 : (bs r).toList.isEmpty = false := by rw [bs_isEmpty]; simpa using h0
    have g1 : ((bs r).toList == [10]) = Span.ends s.data.toList p := by
      rw [bs_tl, Bool.eq_iff_iff, beq_iff_eq, he]
      exact ⟨.inr, fun h => h.resolve_left h0⟩
    clear he h0 hp
    generalize bs r = X at *
    generalize Span.ends s.data.toList p = z at *
    go_enter Try.func29, Try.ntmps29
    go_wp2_with (go_at_call 63; (with_reducible refine (R1.out _).mono ?_); rintro e u ⟨rfl, hb⟩; replace hB := hB.trans (hb.mono hB.size); clear hb)
    go_ret
    exact ⟨rfl, hB⟩
end Go.Proofs.Ytambboomabeioaa
/-
  The document's answer: places of runes ahead of a line's end.
-/
namespace Go.Proofs.Ytambboomabeioaa
open Go.RowKit
set_option maxHeartbeats 2000000 in
set_option maxRecDepth 100000 in
theorem ref24_some_one (s : ByteArray) (p n : Int) {rs : List (List UInt8)} {i j : Nat} (hd : Utf.dec s.data.toList = some rs) (hij : i ≤ j) (hj : j ≤ rs.length) (hp : p = Utf.off rs i) (hE : ∀ q, i ≤ q → q ≤ j → Span.ends s.data.toList (Utf.off rs q) = decide (q = j)) (hs : s.size ≤ 17592186044000) (hn : n < 1) (w : World) :
    Calls Try.prog 42 #[.string s, .int .i64 p, .int .i64 n] w fun e w' => GotInts w.heap.size (Pst.run rs i (min (Pst.often n) (j - i))) e w' ∧ Below w.heap.size w w' := by
  have ho := Pst.often_int n
  obtain ⟨m, hm⟩ : ∃ m, Pst.often n = m := ⟨_, rfl⟩
  rw [hm] at ho ⊢
  obtain ⟨i0, hi, hz0, hz1, hz2⟩ := info_parts info_int
  have hin := Lib.hid (fun q => Utf.off_in hd q)
  have HST := Lib.hid (fun (q : Nat) (h1 : i ≤ q) (h2 : q ≤ j) w => by have := ref24_stop s (Utf.off rs q) (Utf.place_at hd (by omega)) hs w; rw [hE q h1 h2] at this; exact this)
  have HNX := Lib.hid (fun (q : Nat) (h : q < j) w => by have := ref_Next s (Utf.off rs q : Int) hs w; rw [Utf.next_at hd (by omega)] at this; exact this)
  have HLT := Lib.hid (fun (q : Nat) (h : q < j) => by have := Utf.off_lt (Utf.dec_some hd).1 (show q < q + 1 by omega) (by omega); have h2 := Utf.off_in hd (q + 1); rw [data_len] at h2; exact And.intro this h2)
  have HRS := Lib.hid (fun d => Pst.run_succ rs i d)
  have HRL := Lib.hid (fun d => Pst.run_length rs i d)
  have HP : Hid (p = ((Utf.off rs i : Nat) : Int)) := hp
  have HG0 : Hid (Pst.run rs i 0 = []) := rfl
  have hil : j ≤ s.size := by have := Line.off_ge' hd hj; have h2 := Utf.off_in hd j; rw [data_len] at h2; omega
  have hm1 : (m : Int) = 1 := by omega
  have HM := Lib.hid hm1
  clear hE hd hm hp ho
  generalize Utf.off rs = F at *
  generalize Pst.run rs i = G at *
  go_enter Try.func42, Try.ntmps42
  go_wp2
  go_loopw [1, 7] (fun pv lv wr => ∃ (a : Option Addr) (cc d q : Nat), lv = .slice a d cc ∧ wr.ownsRow w.heap.size 3 1 (.slice a d cc) d ((G d).map (Value.int .i64)) ∧ pv = .int .i64 (F q : Nat) ∧ Hid (q = i + d) ∧ q ≤ j ∧ d ≤ m ∧ Below w.heap.size w wr) (fun pv _ _ => s.size - (intOf pv).toNat)
  case atStart => exact ⟨none, 0, 0, i, rfl, by rw [HG0.out]; exact World.ownsRow_nil _ _ _ _, by rw [HP.out], rfl, hij, Nat.zero_le _, Below.refl _ _⟩
  case round =>
    obtain ⟨a, cc, d, q, rfl, hown, rfl, hq, hid, hdm, hX⟩ := hrel
    have hwr := hX.size
    by_cases hlt : d < m
    · have C1 := Lib.hid (HST.out q (by have := hq.out; omega) hid)
      by_cases hdj : q = j
      · have hE : Hid (min m (j - i) = d) := by show _ = _; have := hq.out; omega
        rw [decide_eq_true hdj] at C1
        obtain rfl : d = 0 := by omega
        clear HP hdj
        go_wp2_with (go_at_call 29; (with_reducible refine (C1.out _).mono ?_); rintro e u ⟨rfl, hbn⟩; replace hown := own_below hown hbn; replace hX := hX.trans (hbn.mono hwr); clear hbn)
        go_ret
        exact ⟨⟨_, rfl, by rw [hE.out, HRL.out]; exact hown⟩, hX⟩
      · rw [decide_eq_false hdj] at C1
        have C2 := Lib.hid (HNX.out q (by omega))
        obtain ⟨l1, l2⟩ := HLT.out q (by omega)
        have hS := HRS.out d
        rw [← hq.out] at hS
        have hid2 : q + 1 ≤ j := by omega
        have hdb : d ≤ s.size := by have := hq.out; omega
        have hq2 : Hid (q + 1 = i + (d + 1)) := by show _ = _; have := hq.out; omega
        obtain rfl : d = 0 := by omega
        have hS2 := Lib.hid hS
        have hl2 := Lib.hid (And.intro l1 l2)
        clear HP hdj hS l1 l2
        go_wp2_with (first
          | (go_at_call 29; (with_reducible refine (C1.out _).mono ?_); rintro e u ⟨rfl, hbn⟩; replace hown := own_below hown hbn; replace hX := hX.trans (hbn.mono hwr); clear hbn)
          | (at_builtin; refine wpList_append_own _ rfl _ _ 49 rfl w.heap.size 3 i0 (.int .i64 0) 1 8 Try.underlying49 hi hz0 hz1 hz2 rfl (by decide) _ _ _ rfl (hown.alloc _) ⟨u.heap.size, 0, none⟩ 1 1 [.int .i64 (F q : Nat)] rfl rfl (append_one_cell _ _ _) (by intro u hu; simp at hu; subst hu; rfl) (by unfold maxLen; omega) (by omega) (by have := hX.size; simp; omega) ?_))
        intro v' w4 hown' hgrow _
        have hX4 : Below w.heap.size w w4 := (hX.alloc hX.size _).grown hgrow (by have := hX.size; simp; omega) (fun g hg => (hown.lt g hg).1)
        obtain ⟨a', c', rfl⟩ := own_shape hown'
        have hown4 : w4.ownsRow w.heap.size 3 1 (.slice a' (0 + 1) c') (0 + 1) ((G (0 + 1)).map (Value.int .i64)) := by rw [hS2.out, List.map_append]; exact hown'
        clear hown' hgrow hown hX
        go_wp2_with (go_at_call 30; (with_reducible refine (C2.out _).mono ?_); rintro e w5 ⟨rfl, hbn⟩; replace hown4 := own_below hown4 hbn; replace hX4 := hX4.trans (hbn.mono hX4.size); clear hbn)
        go_roundw
        case rel => exact ⟨a', c', 0 + 1, q + 1, rfl, hown4, rfl, hq2, hid2, by omega, hX4⟩
        case measure => have := hl2.out; simp [intOf]; omega
    · obtain rfl : d = m := by omega
      have hE : Hid (min d (j - i) = d) := by show _ = _; have := hq.out; omega
      obtain rfl : d = 1 := by omega
      clear HP
      go_wp2
      go_ret
      exact ⟨⟨_, rfl, by rw [hE.out, HRL.out]; exact hown⟩, hX⟩
set_option maxHeartbeats 2000000 in
set_option maxRecDepth 100000 in
theorem ref24_some_many (s : ByteArray) (p n : Int) {rs : List (List UInt8)} {i j : Nat} (hd : Utf.dec s.data.toList = some rs) (hij : i ≤ j) (hj : j ≤ rs.length) (hp : p = Utf.off rs i) (hE : ∀ q, i ≤ q → q ≤ j → Span.ends s.data.toList (Utf.off rs q) = decide (q = j)) (hs : s.size ≤ 17592186044000) (hn : 1 ≤ n) (w : World) :
    Calls Try.prog 42 #[.string s, .int .i64 p, .int .i64 n] w fun e w' => GotInts w.heap.size (Pst.run rs i (min (Pst.often n) (j - i))) e w' ∧ Below w.heap.size w w' := by
  have ho := Pst.often_int n
  obtain ⟨m, hm⟩ : ∃ m, Pst.often n = m := ⟨_, rfl⟩
  rw [hm] at ho ⊢
  obtain ⟨i0, hi, hz0, hz1, hz2⟩ := info_parts info_int
  have hin := Lib.hid (fun q => Utf.off_in hd q)
  have HST := Lib.hid (fun (q : Nat) (h1 : i ≤ q) (h2 : q ≤ j) w => by have := ref24_stop s (Utf.off rs q) (Utf.place_at hd (by omega)) hs w; rw [hE q h1 h2] at this; exact this)
  have HNX := Lib.hid (fun (q : Nat) (h : q < j) w => by have := ref_Next s (Utf.off rs q : Int) hs w; rw [Utf.next_at hd (by omega)] at this; exact this)
  have HLT := Lib.hid (fun (q : Nat) (h : q < j) => by have := Utf.off_lt (Utf.dec_some hd).1 (show q < q + 1 by omega) (by omega); have h2 := Utf.off_in hd (q + 1); rw [data_len] at h2; exact And.intro this h2)
  have HRS := Lib.hid (fun d => Pst.run_succ rs i d)
  have HRL := Lib.hid (fun d => Pst.run_length rs i d)
  have HP : Hid (p = ((Utf.off rs i : Nat) : Int)) := hp
  have HG0 : Hid (Pst.run rs i 0 = []) := rfl
  have hil : j ≤ s.size := by have := Line.off_ge' hd hj; have h2 := Utf.off_in hd j; rw [data_len] at h2; omega
  have hm1 : (m : Int) = n := by omega
  have HM := Lib.hid hm1
  clear hE hd hm hp ho
  generalize Utf.off rs = F at *
  generalize Pst.run rs i = G at *
  go_enter Try.func42, Try.ntmps42
  go_wp2
  go_loopw [1, 7] (fun pv lv wr => ∃ (a : Option Addr) (cc d q : Nat), lv = .slice a d cc ∧ wr.ownsRow w.heap.size 3 1 (.slice a d cc) d ((G d).map (Value.int .i64)) ∧ pv = .int .i64 (F q : Nat) ∧ Hid (q = i + d) ∧ q ≤ j ∧ d ≤ m ∧ Below w.heap.size w wr) (fun pv _ _ => s.size - (intOf pv).toNat)
  case atStart => exact ⟨none, 0, 0, i, rfl, by rw [HG0.out]; exact World.ownsRow_nil _ _ _ _, by rw [HP.out], rfl, hij, Nat.zero_le _, Below.refl _ _⟩
  case round =>
    obtain ⟨a, cc, d, q, rfl, hown, rfl, hq, hid, hdm, hX⟩ := hrel
    have hwr := hX.size
    by_cases hlt : d < m
    · have C1 := Lib.hid (HST.out q (by have := hq.out; omega) hid)
      by_cases hdj : q = j
      · have hE : Hid (min m (j - i) = d) := by show _ = _; have := hq.out; omega
        rw [decide_eq_true hdj] at C1
        have t1 : decide ((d : Int) < n) = true := decide_eq_true (by omega)
        clear HP hdj
        go_wp2_with (go_at_call 29; (with_reducible refine (C1.out _).mono ?_); rintro e u ⟨rfl, hbn⟩; replace hown := own_below hown hbn; replace hX := hX.trans (hbn.mono hwr); clear hbn)
        go_ret
        exact ⟨⟨_, rfl, by rw [hE.out, HRL.out]; exact hown⟩, hX⟩
      · rw [decide_eq_false hdj] at C1
        have C2 := Lib.hid (HNX.out q (by omega))
        obtain ⟨l1, l2⟩ := HLT.out q (by omega)
        have hS := HRS.out d
        rw [← hq.out] at hS
        have t1 : decide ((d : Int) < n) = true := decide_eq_true (by omega)
        have hid2 : q + 1 ≤ j := by omega
        have hdb : d ≤ s.size := by have := hq.out; omega
        have hq2 : Hid (q + 1 = i + (d + 1)) := by show _ = _; have := hq.out; omega
        have hS2 := Lib.hid hS
        have hl2 := Lib.hid (And.intro l1 l2)
        clear HP hdj hS l1 l2
        go_wp2_with (first
          | (go_at_call 29; (with_reducible refine (C1.out _).mono ?_); rintro e u ⟨rfl, hbn⟩; replace hown := own_below hown hbn; replace hX := hX.trans (hbn.mono hwr); clear hbn)
          | (at_builtin; refine wpList_append_own _ rfl _ _ 49 rfl w.heap.size 3 i0 (.int .i64 0) 1 8 Try.underlying49 hi hz0 hz1 hz2 rfl (by decide) _ _ _ rfl (hown.alloc _) ⟨u.heap.size, 0, none⟩ 1 1 [.int .i64 (F q : Nat)] rfl rfl (append_one_cell _ _ _) (by intro u hu; simp at hu; subst hu; rfl) (by unfold maxLen; omega) (by omega) (by have := hX.size; simp; omega) ?_))
        intro v' w4 hown' hgrow _
        have hX4 : Below w.heap.size w w4 := (hX.alloc hX.size _).grown hgrow (by have := hX.size; simp; omega) (fun g hg => (hown.lt g hg).1)
        obtain ⟨a', c', rfl⟩ := own_shape hown'
        have hown4 : w4.ownsRow w.heap.size 3 1 (.slice a' (d + 1) c') (d + 1) ((G (d + 1)).map (Value.int .i64)) := by rw [hS2.out, List.map_append]; exact hown'
        clear hown' hgrow hown hX
        go_wp2_with (go_at_call 30; (with_reducible refine (C2.out _).mono ?_); rintro e w5 ⟨rfl, hbn⟩; replace hown4 := own_below hown4 hbn; replace hX4 := hX4.trans (hbn.mono hX4.size); clear hbn)
        go_roundw
        case rel => exact ⟨a', c', d + 1, q + 1, rfl, hown4, rfl, hq2, hid2, by omega, hX4⟩
        case measure => have := hl2.out; simp [intOf]; omega
    · obtain rfl : d = m := by omega
      have hE : Hid (min d (j - i) = d) := by show _ = _; have := hq.out; omega
      have t1 : decide ((d : Int) < n) = false := decide_eq_false (by omega)
      clear HP
      go_wp2
      go_ret
      exact ⟨⟨_, rfl, by rw [hE.out, HRL.out]; exact hown⟩, hX⟩
theorem ref24_some (s : ByteArray) (p n : Int) {rs : List (List UInt8)} {i j : Nat} (hd : Utf.dec s.data.toList = some rs) (hij : i ≤ j) (hj : j ≤ rs.length) (hp : p = Utf.off rs i) (hE : ∀ q, i ≤ q → q ≤ j → Span.ends s.data.toList (Utf.off rs q) = decide (q = j)) (hs : s.size ≤ 17592186044000) (w : World) :
    Calls Try.prog 42 #[.string s, .int .i64 p, .int .i64 n] w fun e w' => GotInts w.heap.size (Pst.run rs i (min (Pst.often n) (j - i))) e w' ∧ Below w.heap.size w w' := by
  rcases Int.lt_or_le n 1 with h | h
  · exact ref24_some_one s p n hd hij hj hp hE hs h w
  · exact ref24_some_many s p n hd hij hj hp hE hs h w
end Go.Proofs.Ytambboomabeioaa
/-
  The document's answer: letters flipped, runes put over others.
-/
namespace Go.Proofs.Ytambboomabeioaa
open Go.RowKit
/-- The document's places of runes. -/
def SomeIs (l : List Int) (w : World) (e : Ending) (w' : World) : Prop := ∃ A cc, e = .returned (.slice A l.length cc) ∧ Ints w' A l ∧ Below w.heap.size w w'
theorem ref24_some_is (s : ByteArray) (p n : Int) {rs : List (List UInt8)} {i j : Nat} (hd : Utf.dec s.data.toList = some rs) (hij : i ≤ j) (hj : j ≤ rs.length) (hp : p = Utf.off rs i) (hno : ∀ q : Nat, Utf.off rs i ≤ q → q < Utf.off rs j → s.data.toList[q]? ≠ some 10) (hend : j = rs.length ∨ s.data.toList[Utf.off rs j]? = some 10) (hs : s.size ≤ 17592186044000) (w : World) :
    Calls Try.prog 42 #[.string s, .int .i64 p, .int .i64 n] w (SomeIs (Pst.run rs i (min (Pst.often n) (j - i))) w) := by
  refine (ref24_some s p n hd hij hj hp (fun q h1 h2 => Pst.tail_ends hd hj hno hend h1 h2) hs w).mono ?_
  rintro e u ⟨⟨v, rfl, hown⟩, hb⟩
  obtain ⟨a, c, rfl⟩ := own_shape hown
  exact ⟨a, c, rfl, Ints.of_own hown rfl, hb⟩
set_option maxHeartbeats 2000000 in
set_option maxRecDepth 100000 in
theorem ref24_Flip_arg (s : ByteArray) (p n : Int) (hs : s.size ≤ 100000000) (h : Utf.place s.data.toList p = false) (w : World) :
    Calls Try.prog 11 #[.string s, .int .i64 p, .int .i64 n] w fun e w' => e = .returned (Pst.val (Pst.no 1)) ∧ Below w.heap.size w w' := by
  rw [Pst.val_no]
  have P0 := fun w => ref_Place s p (by omega) w
  rw [h] at P0
  have P1 := Lib.hid P0
  have hB := Below.refl w.heap.size w
  clear P0 h
  go_enter Try.func11, Try.ntmps11
  go_wp2_with (first
    | (go_at_call 23; (with_reducible refine (P1.out _).mono ?_); rintro e u ⟨rfl, hbn⟩; (first | replace hB := hB.trans (hbn.mono hB.size) | replace hB := hB.drew.trans (hbn.mono hB.drew.size)); clear hbn))
  go_ret3
  exact ⟨rfl, hB⟩
set_option maxHeartbeats 2000000 in
set_option maxRecDepth 100000 in
theorem ref24_Flip_move (s : ByteArray) (p n : Int) (hs : s.size ≤ 100000000) (h : Utf.place s.data.toList p = true) (he : Span.ends s.data.toList p.toNat = true) (w : World) :
    Calls Try.prog 11 #[.string s, .int .i64 p, .int .i64 n] w fun e w' => e = .returned (Pst.val (Pst.no 10)) ∧ Below w.heap.size w w' := by
  rw [Pst.val_no]
  have P0 := fun w => ref_Place s p (by omega) w
  rw [h] at P0
  have P1 := Lib.hid P0
  obtain ⟨rs, i, j, hd, hij, hj, hp, hst, hsd, hen, hno, hend, _, _⟩ := Pst.tail_runes h
  have M0 := fun w => ref24_some_is s p n hd hij hj hp hno hend (by omega) w
  rw [show min (Pst.often n) (j - i) = 0 by have := hen.1 he; omega] at M0
  have M1 : Hid (∀ w, Calls Try.prog 42 #[.string s, .int .i64 p, .int .i64 n] w fun e w' => ∃ A cc, e = .returned (.slice A 0 cc) ∧ Ints w' A [] ∧ Below w.heap.size w w') := M0
  have hB := Below.refl w.heap.size w
  clear P0 M0 h he hd hij hj hp hst hsd hen hno hend
  go_enter Try.func11, Try.ntmps11
  go_wp2_with (first
    | (go_at_call 23; (with_reducible refine (P1.out _).mono ?_); rintro e u ⟨rfl, hbn⟩; (first | replace hB := hB.trans (hbn.mono hB.size) | replace hB := hB.drew.trans (hbn.mono hB.drew.size)); clear hbn)
    | (go_at_call 42; (with_reducible refine (M1.out _).mono ?_); rintro e u ⟨A, cc, rfl, hL, hbn⟩; replace hB := hB.trans (hbn.mono hB.size); clear hbn))
  go_ret3
  exact ⟨rfl, hB⟩
set_option maxHeartbeats 2000000 in
set_option maxRecDepth 100000 in
theorem ref24_Flip_ok (s : ByteArray) (p n : Int) (hs : s.size ≤ 100000000) (h : Utf.place s.data.toList p = true) (he : Span.ends s.data.toList p.toNat = false) (w : World) :
    Calls Try.prog 11 #[.string s, .int .i64 p, .int .i64 n] w fun e w' => e = .returned (Pst.val (Pst.flipT s.data.toList p.toNat (Pst.reach s.data.toList p n).toNat, Line.clamp (Pst.flipT s.data.toList p.toNat (Pst.reach s.data.toList p n).toNat) (Pst.reach s.data.toList p n), 0)) ∧ Below w.heap.size w w' := by
  rw [Pst.val_mk]
  have P0 := fun w => ref_Place s p (by omega) w
  rw [h] at P0
  have P1 := Lib.hid P0
  obtain ⟨rs, i, j, hd, hij, hj, hp, hst, hsd, hen, hno, hend, _, _⟩ := Pst.tail_runes h
  have M0 := fun w => ref24_some_is s p n hd hij hj hp hno hend (by omega) w
  have hr := Pst.reach_runes hsd hp hij hj hst n
  have hop := Pst.often_pos n
  have hne : i ≠ j := fun e => by rw [hen.2 e] at he; cases he
  obtain ⟨m', hm'⟩ : ∃ m', min (Pst.often n) (j - i) = m' + 1 := ⟨min (Pst.often n) (j - i) - 1, by omega⟩
  rw [hm'] at M0 hr
  have M1 : Hid (∀ w, Calls Try.prog 42 #[.string s, .int .i64 p, .int .i64 n] w fun e w' => ∃ A cc, e = .returned (.slice A (m' + 1) cc) ∧ Ints w' A (Pst.run rs i (m' + 1)) ∧ Below w.heap.size w w') := fun w => (M0 w).mono (by rintro e u ⟨A, cc, rfl, h1, h2⟩; rw [Pst.run_length]; exact ⟨A, cc, rfl, h1, h2⟩)
  have GA : Hid (∀ (u : World) (A : Option Addr), Ints u A (Pst.run rs i (m' + 1)) → ∃ ad, A = some ad ∧ ad.block < u.heap.size ∧ u.cell? (ad.add m') = some (.int .i64 (Utf.off rs (i + m') : Nat))) := fun u A hI => by
    obtain ⟨ad, e, hlt, hc⟩ := hI (by rw [Pst.run_length]; omega)
    exact ⟨ad, e, hlt, hc m' _ (Pst.run_get (by omega))⟩
  have X0 := fun w => ref_Next s (Utf.off rs (i + m') : Int) (by omega) w
  rw [Utf.next_at hd (show i + m' < rs.length by omega)] at X0
  have hmi : m' ≤ s.size := by have := Line.off_ge' hd hj; have h2 := Utf.off_in hd j; rw [data_len] at h2; omega
  have w0 : IntKind.i64.wrap (m' : Int) = (m' : Int) := by rw [IntKind.wrap_i64]; omega
  have hab := Utf.off_mono (rs := rs) (show i ≤ i + (m' + 1) by omega)
  have hbl := Utf.off_in hd (i + (m' + 1))
  rw [hr, hp, Int.toNat_natCast, Int.toNat_natCast]
  rw [hp] at M1 P1
  rw [show i + m' + 1 = i + (m' + 1) by omega] at X0
  have X1 := Lib.hid X0
  rw [data_len] at hbl
  have hfl := Pst.flip_length hab (by rw [data_len]; exact hbl)
  clear M0 P0 X0 h he hd hij hj hp hst hsd hen hno hend hr hop hne hm'
  generalize Utf.off rs (i + (m' + 1)) = b at *
  generalize Utf.off rs (i + m') = y at *
  generalize Utf.off rs i = a at *
  have e0 := ext_seg s a b
  have hsl : (Line.seg s.data.toList a b).length ≤ s.size := by rw [Line.seg, List.length_drop, List.length_take, data_len]; omega
  have T0 := fun w => ref5_Flip (bs (Line.seg s.data.toList a b)) (by rw [bs_size]; omega) w
  rw [bs_toList] at T0
  have T1 := Lib.hid T0
  have A0 := fun w => ref4_Clamp (bs (Pst.flipT s.data.toList a b)) (b : Int) (by rw [bs_size, hfl, data_len]; omega) w
  rw [bs_toList] at A0
  have A1 := Lib.hid A0
  have e1 := extract_to s a
  have e2 := extract_from s b
  have hts : (Class.turn Class.letter (Line.seg s.data.toList a b)).length ≤ s.size := by rw [Class.turn_length]; exact hsl
  have e3 : bs (s.data.toList.take a) ++ bs (Class.turn Class.letter (Line.seg s.data.toList a b)) = bs (s.data.toList.take a ++ Class.turn Class.letter (Line.seg s.data.toList a b)) := bs_append _ _
  have e4 : bs (s.data.toList.take a ++ Class.turn Class.letter (Line.seg s.data.toList a b)) ++ bs (s.data.toList.drop b) = bs (Pst.flipT s.data.toList a b) := by rw [bs_append, Pst.flipT, Pst.mid, List.append_assoc]
  have hz1 : (bs (s.data.toList.take a)).size ≤ s.size := by rw [bs_size, List.length_take]; omega
  have hz2 : (bs (s.data.toList.drop b)).size ≤ s.size := by rw [bs_size, List.length_drop, data_len]; omega
  have hz3 : (bs (Class.turn Class.letter (Line.seg s.data.toList a b))).size ≤ s.size := by rw [bs_size]; exact hts
  have hz4 : (bs (s.data.toList.take a ++ Class.turn Class.letter (Line.seg s.data.toList a b))).size ≤ s.size + s.size := by rw [bs_size, List.length_append, List.length_take]; omega
  generalize Pst.flipT s.data.toList a b = X at *
  generalize Line.clamp X (b : Int) = z at *
  generalize bs (s.data.toList.take a ++ Class.turn Class.letter (Line.seg s.data.toList a b)) = G at *
  generalize bs (Class.turn Class.letter (Line.seg s.data.toList a b)) = Y at *
  generalize bs (Line.seg s.data.toList a b) = Z at *
  generalize bs (s.data.toList.take a) = Y1 at *
  generalize bs (s.data.toList.drop b) = Y2 at *
  have c1 : (a : Int) ≤ (b : Int) := by omega
  have c2 : (b : Int) ≤ (s.size : Int) := by omega
  have c4 : (a : Int) ≤ (s.size : Int) := by omega
  have c3 : ¬ 9223372036854775807 < Y1.size + Y.size := by omega
  have c5 : ¬ 9223372036854775807 < G.size + Y2.size := by omega
  have hB := Below.refl w.heap.size w
  clear T0 A0 hfl hsl hts hs
  go_enter Try.func11, Try.ntmps11
  go_wp2_with (first
    | (go_at_call 23; (with_reducible refine (P1.out _).mono ?_); rintro e u ⟨rfl, hbn⟩; (first | replace hB := hB.trans (hbn.mono hB.size) | replace hB := hB.drew.trans (hbn.mono hB.drew.size)); clear hbn)
    | (go_at_call 42; (with_reducible refine (M1.out _).mono ?_); rintro e u ⟨A, cc, rfl, hL, hbn⟩; replace hB := hB.trans (hbn.mono hB.size); obtain ⟨ad, rfl, hadl, hcl⟩ := GA.out _ _ hL; clear hbn hL)
    | (go_at_call 30; (with_reducible refine (X1.out _).mono ?_); rintro e u ⟨rfl, hbn⟩; (first | replace hB := hB.trans (hbn.mono hB.size) | replace hB := hB.drew.trans (hbn.mono hB.drew.size)); clear hbn))
  go_region_held3 (fun _ => True) (exact trivial)
    ((go_at_call 43; (with_reducible refine (T1.out _).mono ?_); rintro e u ⟨rfl, rfl⟩))
  all_goals (go_wp2_with (go_at_call 33; (with_reducible refine (A1.out _).mono ?_); rintro e u ⟨rfl, hbn⟩; (first | replace hB := hB.trans (hbn.mono hB.size) | replace hB := hB.drew.trans (hbn.mono hB.drew.size)); clear hbn))
  all_goals go_ret3
  all_goals exact ⟨rfl, hB⟩
theorem ref24_Flip (s : ByteArray) (p n : Int) (hs : s.size ≤ 100000000) (w : World) :
    Calls Try.prog 11 #[.string s, .int .i64 p, .int .i64 n] w fun e w' => e = .returned (Pst.val (Pst.flip s.data.toList p n)) ∧ Below w.heap.size w w' := by
  rw [Pst.flip]
  cases h : Utf.place s.data.toList p with
  | false => rw [if_neg (by decide)]; exact ref24_Flip_arg s p n hs h w
  | true =>
    rw [if_pos rfl]
    cases he : Span.ends s.data.toList p.toNat with
    | true => rw [if_pos rfl]; exact ref24_Flip_move s p n hs h he w
    | false => rw [if_neg (by decide)]; exact ref24_Flip_ok s p n hs h he w
set_option maxHeartbeats 2000000 in
set_option maxRecDepth 100000 in
theorem ref24_Over_arg (s : ByteArray) (p : Int) (k : ByteArray) (n : Int) (hs : s.size ≤ 100000000) (h : Utf.place s.data.toList p = false) (w : World) :
    Calls Try.prog 13 #[.string s, .int .i64 p, .string k, .int .i64 n] w fun e w' => e = .returned (Pst.val (Pst.no 1)) ∧ Below w.heap.size w w' := by
  rw [Pst.val_no]
  have P0 := fun w => ref_Place s p (by omega) w
  rw [h] at P0
  have P1 := Lib.hid P0
  have hB := Below.refl w.heap.size w
  clear P0 h
  go_enter Try.func13, Try.ntmps13
  go_wp2_with (first
    | (go_at_call 23; (with_reducible refine (P1.out _).mono ?_); rintro e u ⟨rfl, hbn⟩; (first | replace hB := hB.trans (hbn.mono hB.size) | replace hB := hB.drew.trans (hbn.mono hB.drew.size)); clear hbn))
  go_ret3
  exact ⟨rfl, hB⟩
set_option maxHeartbeats 2000000 in
set_option maxRecDepth 100000 in
theorem ref24_Over_key (s : ByteArray) (p : Int) (k : ByteArray) (n : Int) (hs : s.size ≤ 100000000) (h : Utf.place s.data.toList p = true) (hk9 : k.data.toList ≠ [9]) (hsg : (Utf.one k.data.toList && Key.sgn k.data.toList) = false) (w : World) :
    Calls Try.prog 13 #[.string s, .int .i64 p, .string k, .int .i64 n] w fun e w' => e = .returned (Pst.val (Pst.no 9)) ∧ Below w.heap.size w w' := by
  rw [Pst.val_no]
  have P0 := fun w => ref_Place s p (by omega) w
  rw [h] at P0
  have P1 := Lib.hid P0
  have S0 := fun w => ref13_Sign k w
  rw [hsg] at S0
  have S1 := Lib.hid S0
  obtain ⟨t1, t2⟩ := Pst.key_not hk9
  have hB := Below.refl w.heap.size w
  clear P0 S0 h hk9 hsg
  go_enter Try.func13, Try.ntmps13
  go_wp2_with (first
    | (go_at_call 23; (with_reducible refine (P1.out _).mono ?_); rintro e u ⟨rfl, hbn⟩; (first | replace hB := hB.trans (hbn.mono hB.size) | replace hB := hB.drew.trans (hbn.mono hB.drew.size)); clear hbn)
    | (go_at_call 46; (with_reducible refine (S1.out _).mono ?_); rintro e u ⟨rfl, hbn⟩; (first | replace hB := hB.trans (hbn.mono hB.size) | replace hB := hB.drew.trans (hbn.mono hB.drew.size)); clear hbn))
  go_ret3
  exact ⟨rfl, hB⟩
set_option maxHeartbeats 2000000 in
set_option maxRecDepth 100000 in
theorem ref24_Over_few_tab (s : ByteArray) (p : Int) (k : ByteArray) (n : Int) (hs : s.size ≤ 100000000) (h : Utf.place s.data.toList p = true) (hk9 : k.data.toList = [9]) (hn : 1 ≤ n) (hb : Pst.behind s.data.toList p (max n 1) < 0) (w : World) :
    Calls Try.prog 13 #[.string s, .int .i64 p, .string k, .int .i64 n] w fun e w' => e = .returned (Pst.val (Pst.no 10)) ∧ Below w.heap.size w w' := by
  rw [Pst.val_no]
  have P0 := fun w => ref_Place s p (by omega) w
  rw [h] at P0
  have P1 := Lib.hid P0
  have hsg : (Utf.one k.data.toList && Key.sgn k.data.toList) = false := by rw [hk9, show Key.sgn [9] = false from rfl, Bool.and_false]
  have S0 := fun w => ref13_Sign k w
  rw [hsg] at S0
  have S1 := Lib.hid S0
  obtain ⟨t1, t2⟩ := Pst.key_tab hk9
  obtain ⟨rs, i, j, hd, hij, hj, hp, hst, hsd, hen, hno, hend, _, _⟩ := Pst.tail_runes h
  have M0 := fun w => ref24_some_is s p n hd hij hj hp hno hend (by omega) w
  rw [← Pst.often_int, Pst.behind_runes hsd hp hij hj] at hb
  have ho := Pst.often_int n
  have him : ¬ i + Pst.often n ≤ j := fun e => by rw [if_pos e] at hb; omega
  obtain ⟨c, hc⟩ : ∃ c, min (Pst.often n) (j - i) = c := ⟨_, rfl⟩
  rw [hc] at M0
  have g1 : decide ((c : Int) < n) = true := decide_eq_true (by omega)
  have M1 : Hid (∀ w, Calls Try.prog 42 #[.string s, .int .i64 p, .int .i64 n] w fun e w' => ∃ A cc, e = .returned (.slice A c cc) ∧ Ints w' A (Pst.run rs i c) ∧ Below w.heap.size w w') := fun w => (M0 w).mono (by rintro e u ⟨A, cc, rfl, h1, h2⟩; rw [Pst.run_length]; exact ⟨A, cc, rfl, h1, h2⟩)
  have hB := Below.refl w.heap.size w
  clear P0 M0 h hd hij hj hp hst hsd hen hno hend hb ho him hn hc S0 hsg hk9
  go_enter Try.func13, Try.ntmps13
  go_wp2_with (first
    | (go_at_call 23; (with_reducible refine (P1.out _).mono ?_); rintro e u ⟨rfl, hbn⟩; (first | replace hB := hB.trans (hbn.mono hB.size) | replace hB := hB.drew.trans (hbn.mono hB.drew.size)); clear hbn)
    | (go_at_call 46; (with_reducible refine (S1.out _).mono ?_); rintro e u ⟨rfl, hbn⟩; (first | replace hB := hB.trans (hbn.mono hB.size) | replace hB := hB.drew.trans (hbn.mono hB.drew.size)); clear hbn)
    | (go_at_call 42; (with_reducible refine (M1.out _).mono ?_); rintro e u ⟨A, cc, rfl, hL, hbn⟩; replace hB := hB.trans (hbn.mono hB.size); clear hbn))
  go_ret3
  exact ⟨rfl, hB⟩
set_option maxHeartbeats 2000000 in
set_option maxRecDepth 100000 in
theorem ref24_Over_none_tab (s : ByteArray) (p : Int) (k : ByteArray) (n : Int) (hs : s.size ≤ 100000000) (h : Utf.place s.data.toList p = true) (hk9 : k.data.toList = [9]) (hn : n < 1) (hb : Pst.behind s.data.toList p (max n 1) < 0) (w : World) :
    Calls Try.prog 13 #[.string s, .int .i64 p, .string k, .int .i64 n] w fun e w' => e = .returned (Pst.val (Pst.no 10)) ∧ Below w.heap.size w w' := by
  rw [Pst.val_no]
  have P0 := fun w => ref_Place s p (by omega) w
  rw [h] at P0
  have P1 := Lib.hid P0
  have hsg : (Utf.one k.data.toList && Key.sgn k.data.toList) = false := by rw [hk9, show Key.sgn [9] = false from rfl, Bool.and_false]
  have S0 := fun w => ref13_Sign k w
  rw [hsg] at S0
  have S1 := Lib.hid S0
  obtain ⟨t1, t2⟩ := Pst.key_tab hk9
  obtain ⟨rs, i, j, hd, hij, hj, hp, hst, hsd, hen, hno, hend, _, _⟩ := Pst.tail_runes h
  have M0 := fun w => ref24_some_is s p n hd hij hj hp hno hend (by omega) w
  rw [← Pst.often_int, Pst.behind_runes hsd hp hij hj] at hb
  have ho := Pst.often_int n
  have him : ¬ i + Pst.often n ≤ j := fun e => by rw [if_pos e] at hb; omega
  rw [show min (Pst.often n) (j - i) = 0 by omega] at M0
  have g1 : decide ((0 : Int) < n) = false := decide_eq_false (by omega)
  have M1 : Hid (∀ w, Calls Try.prog 42 #[.string s, .int .i64 p, .int .i64 n] w fun e w' => ∃ A cc, e = .returned (.slice A 0 cc) ∧ Ints w' A [] ∧ Below w.heap.size w w') := M0
  have hB := Below.refl w.heap.size w
  clear P0 M0 h hd hij hj hp hst hsd hen hno hend hb ho him hn S0 hsg hk9
  go_enter Try.func13, Try.ntmps13
  go_wp2_with (first
    | (go_at_call 23; (with_reducible refine (P1.out _).mono ?_); rintro e u ⟨rfl, hbn⟩; (first | replace hB := hB.trans (hbn.mono hB.size) | replace hB := hB.drew.trans (hbn.mono hB.drew.size)); clear hbn)
    | (go_at_call 46; (with_reducible refine (S1.out _).mono ?_); rintro e u ⟨rfl, hbn⟩; (first | replace hB := hB.trans (hbn.mono hB.size) | replace hB := hB.drew.trans (hbn.mono hB.drew.size)); clear hbn)
    | (go_at_call 42; (with_reducible refine (M1.out _).mono ?_); rintro e u ⟨A, cc, rfl, hL, hbn⟩; replace hB := hB.trans (hbn.mono hB.size); clear hbn))
  go_ret3
  exact ⟨rfl, hB⟩
set_option maxHeartbeats 2000000 in
set_option maxRecDepth 100000 in
theorem ref24_Over_room_tab (s : ByteArray) (p : Int) (k : ByteArray) (n : Int) (hs : s.size ≤ 100000000) (h : Utf.place s.data.toList p = true) (hk9 : k.data.toList = [9]) (hb : ¬ Pst.behind s.data.toList p (max n 1) < 0) (hr : ¬ (Pst.overT s.data.toList p.toNat (Pst.behind s.data.toList p (max n 1)).toNat k.data.toList n).length ≤ 4096) (w : World) :
    Calls Try.prog 13 #[.string s, .int .i64 p, .string k, .int .i64 n] w fun e w' => e = .returned (Pst.val (Pst.no 8)) ∧ Below w.heap.size w w' := by
  rw [Pst.val_no]
  have hkey : Pst.key k.data.toList = true := by rw [Pst.key, hk9, show ([9] : List UInt8) = [9] from rfl, decide_eq_true rfl, Bool.or_true]
  have P0 := fun w => ref_Place s p (by omega) w
  rw [h] at P0
  have P1 := Lib.hid P0
  have hsg : (Utf.one k.data.toList && Key.sgn k.data.toList) = false := by rw [hk9, show Key.sgn [9] = false from rfl, Bool.and_false]
  have S0 := fun w => ref13_Sign k w
  rw [hsg] at S0
  have S1 := Lib.hid S0
  obtain ⟨t1, t2⟩ := Pst.key_tab hk9
  obtain ⟨rs, i, j, hd, hij, hj, hp, hst, hsd, hen, hno, hend, _, _⟩ := Pst.tail_runes h
  have M0 := fun w => ref24_some_is s p n hd hij hj hp hno hend (by omega) w
  have ho := Pst.often_int n
  have hop := Pst.often_pos n
  have hbr := Pst.behind_runes hsd hp hij hj (m := Pst.often n)
  rw [ho] at hbr
  have him : i + Pst.often n ≤ j := by
    rcases Nat.lt_or_ge j (i + Pst.often n) with h1 | h1
    · rw [hbr, if_neg (by omega)] at hb; exact absurd (by decide) hb
    · exact h1
  rw [if_pos him] at hbr
  obtain ⟨m', hm'⟩ : ∃ m', Pst.often n = m' + 1 := ⟨Pst.often n - 1, by omega⟩
  rw [hbr, hp, Int.toNat_natCast, Int.toNat_natCast, Pst.overT, hm'] at hr
  rw [hp]
  rw [show min (Pst.often n) (j - i) = m' + 1 by omega] at M0
  rw [hm'] at him ho
  have M1 : Hid (∀ w, Calls Try.prog 42 #[.string s, .int .i64 p, .int .i64 n] w fun e w' => ∃ A cc, e = .returned (.slice A (m' + 1) cc) ∧ Ints w' A (Pst.run rs i (m' + 1)) ∧ Below w.heap.size w w') := fun w => (M0 w).mono (by rintro e u ⟨A, cc, rfl, h1, h2⟩; rw [Pst.run_length]; exact ⟨A, cc, rfl, h1, h2⟩)
  have GA : Hid (∀ (u : World) (A : Option Addr), Ints u A (Pst.run rs i (m' + 1)) → ∃ ad, A = some ad ∧ ad.block < u.heap.size ∧ u.cell? (ad.add m') = some (.int .i64 (Utf.off rs (i + m') : Nat))) := fun u A hI => by
    obtain ⟨ad, e, hlt, hc⟩ := hI (by rw [Pst.run_length]; omega)
    exact ⟨ad, e, hlt, hc m' _ (Pst.run_get (by omega))⟩
  have X0 := fun w => ref_Next s (Utf.off rs (i + m') : Int) (by omega) w
  rw [Utf.next_at hd (show i + m' < rs.length by omega)] at X0
  have hmi : m' ≤ s.size := by have := Line.off_ge' hd hj; have h2 := Utf.off_in hd j; rw [data_len] at h2; omega
  have w0 : IntKind.i64.wrap (m' : Int) = (m' : Int) := by rw [IntKind.wrap_i64]; omega
  have hab := Utf.off_mono (rs := rs) (show i ≤ i + (m' + 1) by omega)
  have hbl := Utf.off_in hd (i + (m' + 1))
  obtain ⟨h1, _, hk4⟩ := Pst.key_one hkey
  have hkp := Utf.one_pos h1
  rw [data_len] at hk4 hkp
  rw [show i + m' + 1 = i + (m' + 1) by omega] at X0
  have X1 := Lib.hid X0
  have hml := Pst.mid_length (s := s.data.toList) (Pst.reps (m' + 1) k.data.toList) hab hbl
  rw [data_len] at hbl
  rw [Pst.reps_length, data_len, data_len] at hml
  rw [hp] at M1 P1
  have t3 : decide ((m' : Int) + 1 < n) = false := decide_eq_false (by omega)
  have t4 : ((m' : Int) + 1 == 0) = false := by rw [beq_eq_false_iff_ne]; omega
  clear M0 P0 X0 h hd hij hj hp hst hsd hen hno hend hop hm' hbr hb him ho h1 hkey
  generalize Utf.off rs (i + (m' + 1)) = b at *
  generalize Utf.off rs (i + m') = y at *
  generalize Utf.off rs i = a at *
  have e1 := extract_to s a
  have e2 := extract_from s b
  have HT0 : Hid (bs (s.data.toList.take a) = bs (s.data.toList.take a ++ Pst.reps 0 k.data.toList)) := by show _ = _; rw [Pst.reps, List.append_nil]
  have HTS : Hid (∀ r, bs (s.data.toList.take a ++ Pst.reps r k.data.toList) ++ k = bs (s.data.toList.take a ++ Pst.reps (r + 1) k.data.toList)) := fun r => by
    rw [Pst.reps_snoc, ← List.append_assoc, ← bs_append (s.data.toList.take a ++ Pst.reps r k.data.toList) k.data.toList, bs_data]
  have HTL : Hid (∀ r, (bs (s.data.toList.take a ++ Pst.reps r k.data.toList)).size = a + r * k.size) := fun r => by
    rw [bs_size, List.length_append, Pst.reps_length, List.length_take, data_len, data_len]; omega
  have HTE : Hid (bs (s.data.toList.take a ++ Pst.reps (m' + 1) k.data.toList) ++ bs (s.data.toList.drop b) = bs (Pst.mid s.data.toList a b (Pst.reps (m' + 1) k.data.toList))) := by
    show _ = _
    rw [bs_append, Pst.mid, List.append_assoc]
  have HRZ : (bs (Pst.mid s.data.toList a b (Pst.reps (m' + 1) k.data.toList))).size = (Pst.mid s.data.toList a b (Pst.reps (m' + 1) k.data.toList)).length := bs_size _
  have hz2 : (bs (s.data.toList.drop b)).size ≤ s.size := by rw [bs_size, List.length_drop, data_len]; omega
  have t5 : decide ((4096 : Int) < ((bs (Pst.mid s.data.toList a b (Pst.reps (m' + 1) k.data.toList))).size : Int)) = true := decide_eq_true (by omega)
  have t6 : 4096 < (bs (Pst.mid s.data.toList a b (Pst.reps (m' + 1) k.data.toList))).size := by omega
  have hrm : ∀ r, r ≤ m' + 1 → r * k.size ≤ 400000004 := fun r h => by
    have := Nat.mul_le_mul h hk4
    omega
  have HRM := Lib.hid hrm
  generalize bs (Pst.mid s.data.toList a b (Pst.reps (m' + 1) k.data.toList)) = R at *
  generalize bs (s.data.toList.drop b) = Z at *
  generalize hT : (fun r => bs (s.data.toList.take a ++ Pst.reps r k.data.toList)) = T at *
  have hT2 : ∀ r, bs (s.data.toList.take a ++ Pst.reps r k.data.toList) = T r := fun r => congrFun hT r
  simp only [hT2] at HT0 HTS HTL HTE
  generalize bs (s.data.toList.take a) = Y at *
  have c2 : (b : Int) ≤ (s.size : Int) := by omega
  have c4 : (a : Int) ≤ (s.size : Int) := by omega
  have hB := Below.refl w.heap.size w
  clear HRZ hml hr hT hT2 hrm hk4 hkp S0 hsg hk9
  go_enter Try.func13, Try.ntmps13
  go_wp2_with (first
    | (go_at_call 23; (with_reducible refine (P1.out _).mono ?_); rintro e u ⟨rfl, hbn⟩; (first | replace hB := hB.trans (hbn.mono hB.size) | replace hB := hB.drew.trans (hbn.mono hB.drew.size)); clear hbn)
    | (go_at_call 46; (with_reducible refine (S1.out _).mono ?_); rintro e u ⟨rfl, hbn⟩; (first | replace hB := hB.trans (hbn.mono hB.size) | replace hB := hB.drew.trans (hbn.mono hB.drew.size)); clear hbn)
    | (go_at_call 42; (with_reducible refine (M1.out _).mono ?_); rintro e u ⟨A, cc, rfl, hL, hbn⟩; replace hB := hB.trans (hbn.mono hB.size); obtain ⟨ad, rfl, hadl, hcl⟩ := GA.out _ _ hL; clear hbn hL))
  rename World => w1
  go_loopw [12, 13, 14] (fun tv lv iv wr => ∃ r q : Nat, r ≤ m' + 1 ∧ tv = .string (T r) ∧ lv = .int .i64 q ∧ iv = .int .i64 r ∧ Hid (q = a + (r - 1) * k.size) ∧ w1 = wr) (fun _ _ iv _ => m' + 1 - (intOf iv).toNat)
  case atStart => exact ⟨0, a, Nat.zero_le _, by rw [HT0.out], rfl, rfl, by show _ = _; omega, rfl⟩
  case round =>
    obtain ⟨r, q, hrl, rfl, rfl, rfl, hq, hw⟩ := hrel
    subst hw
    have hTr := HTL.out r
    have hrk := HRM.out r hrl
    by_cases hlt : r < m' + 1
    · have r1 : decide ((r : Int) < (m' : Int) + 1) = true := decide_eq_true (by omega)
      have r2 : r ≤ m' := by omega
      have hq2 : Hid ((T r).size = a + (r + 1 - 1) * k.size) := by show _ = _; rw [hTr, Nat.add_sub_cancel]
      have hS := Lib.hid (HTS.out r)
      have r3 : ¬ 9223372036854775807 < (T r).size + k.size := by have := HRM.out 1 (by omega); omega
      clear hTr hrk hq
      go_wp2
      go_roundw
      case rel => exact ⟨r + 1, (T r).size, hlt, by rw [← hS.out], rfl, by go_num, hq2, by trivial⟩
      case measure => simp [intOf]; omega
    · obtain rfl : r = m' + 1 := by omega
      have r1 : decide ((m' : Int) + 1 < (m' : Int) + 1) = false := decide_eq_false (by omega)
      have r3 : ¬ 9223372036854775807 < (T (m' + 1)).size + Z.size := by omega
      have hE := HTE.out
      clear hTr hrk hq
      go_wp2_with (first
        | (go_at_call 30; (with_reducible refine (X1.out _).mono ?_); rintro e u ⟨rfl, hbn⟩; (first | replace hB := hB.trans (hbn.mono hB.size) | replace hB := hB.drew.trans (hbn.mono hB.drew.size)); clear hbn))
      go_ret3
      exact ⟨rfl, hB⟩
set_option maxHeartbeats 2000000 in
set_option maxRecDepth 100000 in
theorem ref24_Over_ok_tab (s : ByteArray) (p : Int) (k : ByteArray) (n : Int) (hs : s.size ≤ 100000000) (h : Utf.place s.data.toList p = true) (hk9 : k.data.toList = [9]) (hb : ¬ Pst.behind s.data.toList p (max n 1) < 0) (hr : (Pst.overT s.data.toList p.toNat (Pst.behind s.data.toList p (max n 1)).toNat k.data.toList n).length ≤ 4096) (w : World) :
    Calls Try.prog 13 #[.string s, .int .i64 p, .string k, .int .i64 n] w fun e w' => e = .returned (Pst.val (Pst.overT s.data.toList p.toNat (Pst.behind s.data.toList p (max n 1)).toNat k.data.toList n, p + ((Pst.often n - 1) * k.data.toList.length : Nat), 0)) ∧ Below w.heap.size w w' := by
  rw [Pst.val_mk]
  have hkey : Pst.key k.data.toList = true := by rw [Pst.key, hk9, show ([9] : List UInt8) = [9] from rfl, decide_eq_true rfl, Bool.or_true]
  have P0 := fun w => ref_Place s p (by omega) w
  rw [h] at P0
  have P1 := Lib.hid P0
  have hsg : (Utf.one k.data.toList && Key.sgn k.data.toList) = false := by rw [hk9, show Key.sgn [9] = false from rfl, Bool.and_false]
  have S0 := fun w => ref13_Sign k w
  rw [hsg] at S0
  have S1 := Lib.hid S0
  obtain ⟨t1, t2⟩ := Pst.key_tab hk9
  obtain ⟨rs, i, j, hd, hij, hj, hp, hst, hsd, hen, hno, hend, _, _⟩ := Pst.tail_runes h
  have M0 := fun w => ref24_some_is s p n hd hij hj hp hno hend (by omega) w
  have ho := Pst.often_int n
  have hop := Pst.often_pos n
  have hbr := Pst.behind_runes hsd hp hij hj (m := Pst.often n)
  rw [ho] at hbr
  have him : i + Pst.often n ≤ j := by
    rcases Nat.lt_or_ge j (i + Pst.often n) with h1 | h1
    · rw [hbr, if_neg (by omega)] at hb; exact absurd (by decide) hb
    · exact h1
  rw [if_pos him] at hbr
  obtain ⟨m', hm'⟩ : ∃ m', Pst.often n = m' + 1 := ⟨Pst.often n - 1, by omega⟩
  rw [hbr, hp, Int.toNat_natCast, Int.toNat_natCast, Pst.overT, hm'] at hr
  rw [hbr, hp, Int.toNat_natCast, Int.toNat_natCast, Pst.overT, hm', Nat.add_sub_cancel, data_len]
  rw [show min (Pst.often n) (j - i) = m' + 1 by omega] at M0
  rw [hm'] at him ho
  have M1 : Hid (∀ w, Calls Try.prog 42 #[.string s, .int .i64 p, .int .i64 n] w fun e w' => ∃ A cc, e = .returned (.slice A (m' + 1) cc) ∧ Ints w' A (Pst.run rs i (m' + 1)) ∧ Below w.heap.size w w') := fun w => (M0 w).mono (by rintro e u ⟨A, cc, rfl, h1, h2⟩; rw [Pst.run_length]; exact ⟨A, cc, rfl, h1, h2⟩)
  have GA : Hid (∀ (u : World) (A : Option Addr), Ints u A (Pst.run rs i (m' + 1)) → ∃ ad, A = some ad ∧ ad.block < u.heap.size ∧ u.cell? (ad.add m') = some (.int .i64 (Utf.off rs (i + m') : Nat))) := fun u A hI => by
    obtain ⟨ad, e, hlt, hc⟩ := hI (by rw [Pst.run_length]; omega)
    exact ⟨ad, e, hlt, hc m' _ (Pst.run_get (by omega))⟩
  have X0 := fun w => ref_Next s (Utf.off rs (i + m') : Int) (by omega) w
  rw [Utf.next_at hd (show i + m' < rs.length by omega)] at X0
  have hmi : m' ≤ s.size := by have := Line.off_ge' hd hj; have h2 := Utf.off_in hd j; rw [data_len] at h2; omega
  have w0 : IntKind.i64.wrap (m' : Int) = (m' : Int) := by rw [IntKind.wrap_i64]; omega
  have hab := Utf.off_mono (rs := rs) (show i ≤ i + (m' + 1) by omega)
  have hbl := Utf.off_in hd (i + (m' + 1))
  obtain ⟨h1, _, hk4⟩ := Pst.key_one hkey
  have hkp := Utf.one_pos h1
  rw [data_len] at hk4 hkp
  rw [show i + m' + 1 = i + (m' + 1) by omega] at X0
  have X1 := Lib.hid X0
  have hml := Pst.mid_length (s := s.data.toList) (Pst.reps (m' + 1) k.data.toList) hab hbl
  rw [data_len] at hbl
  rw [Pst.reps_length, data_len, data_len] at hml
  rw [hp] at M1 P1
  have t3 : decide ((m' : Int) + 1 < n) = false := decide_eq_false (by omega)
  have t4 : ((m' : Int) + 1 == 0) = false := by rw [beq_eq_false_iff_ne]; omega
  clear M0 P0 X0 h hd hij hj hp hst hsd hen hno hend hop hm' hbr hb him ho h1 hkey
  generalize Utf.off rs (i + (m' + 1)) = b at *
  generalize Utf.off rs (i + m') = y at *
  generalize Utf.off rs i = a at *
  have e1 := extract_to s a
  have e2 := extract_from s b
  have HT0 : Hid (bs (s.data.toList.take a) = bs (s.data.toList.take a ++ Pst.reps 0 k.data.toList)) := by show _ = _; rw [Pst.reps, List.append_nil]
  have HTS : Hid (∀ r, bs (s.data.toList.take a ++ Pst.reps r k.data.toList) ++ k = bs (s.data.toList.take a ++ Pst.reps (r + 1) k.data.toList)) := fun r => by
    rw [Pst.reps_snoc, ← List.append_assoc, ← bs_append (s.data.toList.take a ++ Pst.reps r k.data.toList) k.data.toList, bs_data]
  have HTL : Hid (∀ r, (bs (s.data.toList.take a ++ Pst.reps r k.data.toList)).size = a + r * k.size) := fun r => by
    rw [bs_size, List.length_append, Pst.reps_length, List.length_take, data_len, data_len]; omega
  have HTE : Hid (bs (s.data.toList.take a ++ Pst.reps (m' + 1) k.data.toList) ++ bs (s.data.toList.drop b) = bs (Pst.mid s.data.toList a b (Pst.reps (m' + 1) k.data.toList))) := by
    show _ = _
    rw [bs_append, Pst.mid, List.append_assoc]
  have HRZ : (bs (Pst.mid s.data.toList a b (Pst.reps (m' + 1) k.data.toList))).size = (Pst.mid s.data.toList a b (Pst.reps (m' + 1) k.data.toList)).length := bs_size _
  have hz2 : (bs (s.data.toList.drop b)).size ≤ s.size := by rw [bs_size, List.length_drop, data_len]; omega
  have t5 : decide ((4096 : Int) < ((bs (Pst.mid s.data.toList a b (Pst.reps (m' + 1) k.data.toList))).size : Int)) = false := decide_eq_false (by omega)
  have t6 : ¬ 4096 < (bs (Pst.mid s.data.toList a b (Pst.reps (m' + 1) k.data.toList))).size := by omega
  have hrm : ∀ r, r ≤ m' + 1 → r * k.size ≤ 400000004 := fun r h => by
    have := Nat.mul_le_mul h hk4
    omega
  have HRM := Lib.hid hrm
  generalize bs (Pst.mid s.data.toList a b (Pst.reps (m' + 1) k.data.toList)) = R at *
  generalize bs (s.data.toList.drop b) = Z at *
  generalize hT : (fun r => bs (s.data.toList.take a ++ Pst.reps r k.data.toList)) = T at *
  have hT2 : ∀ r, bs (s.data.toList.take a ++ Pst.reps r k.data.toList) = T r := fun r => congrFun hT r
  simp only [hT2] at HT0 HTS HTL HTE
  generalize bs (s.data.toList.take a) = Y at *
  have c2 : (b : Int) ≤ (s.size : Int) := by omega
  have c4 : (a : Int) ≤ (s.size : Int) := by omega
  have hB := Below.refl w.heap.size w
  clear HRZ hml hr hT hT2 hrm hk4 hkp S0 hsg hk9
  go_enter Try.func13, Try.ntmps13
  go_wp2_with (first
    | (go_at_call 23; (with_reducible refine (P1.out _).mono ?_); rintro e u ⟨rfl, hbn⟩; (first | replace hB := hB.trans (hbn.mono hB.size) | replace hB := hB.drew.trans (hbn.mono hB.drew.size)); clear hbn)
    | (go_at_call 46; (with_reducible refine (S1.out _).mono ?_); rintro e u ⟨rfl, hbn⟩; (first | replace hB := hB.trans (hbn.mono hB.size) | replace hB := hB.drew.trans (hbn.mono hB.drew.size)); clear hbn)
    | (go_at_call 42; (with_reducible refine (M1.out _).mono ?_); rintro e u ⟨A, cc, rfl, hL, hbn⟩; replace hB := hB.trans (hbn.mono hB.size); obtain ⟨ad, rfl, hadl, hcl⟩ := GA.out _ _ hL; clear hbn hL))
  rename World => w1
  go_loopw [12, 13, 14] (fun tv lv iv wr => ∃ r q : Nat, r ≤ m' + 1 ∧ tv = .string (T r) ∧ lv = .int .i64 q ∧ iv = .int .i64 r ∧ Hid (q = a + (r - 1) * k.size) ∧ w1 = wr) (fun _ _ iv _ => m' + 1 - (intOf iv).toNat)
  case atStart => exact ⟨0, a, Nat.zero_le _, by rw [HT0.out], rfl, rfl, by show _ = _; omega, rfl⟩
  case round =>
    obtain ⟨r, q, hrl, rfl, rfl, rfl, hq, hw⟩ := hrel
    subst hw
    have hTr := HTL.out r
    have hrk := HRM.out r hrl
    by_cases hlt : r < m' + 1
    · have r1 : decide ((r : Int) < (m' : Int) + 1) = true := decide_eq_true (by omega)
      have r2 : r ≤ m' := by omega
      have hq2 : Hid ((T r).size = a + (r + 1 - 1) * k.size) := by show _ = _; rw [hTr, Nat.add_sub_cancel]
      have hS := Lib.hid (HTS.out r)
      have r3 : ¬ 9223372036854775807 < (T r).size + k.size := by have := HRM.out 1 (by omega); omega
      clear hTr hrk hq
      go_wp2
      go_roundw
      case rel => exact ⟨r + 1, (T r).size, hlt, by rw [← hS.out], rfl, by go_num, hq2, by trivial⟩
      case measure => simp [intOf]; omega
    · obtain rfl : r = m' + 1 := by omega
      have r1 : decide ((m' : Int) + 1 < (m' : Int) + 1) = false := decide_eq_false (by omega)
      have r3 : ¬ 9223372036854775807 < (T (m' + 1)).size + Z.size := by omega
      have hE := HTE.out
      have hq3 : Hid ((q : Int) = (a : Int) + ((m' * k.size : Nat) : Int)) := by show _ = _; have := hq.out; rw [Nat.add_sub_cancel] at this; omega
      clear hTr hrk hq
      go_wp2_with (first
        | (go_at_call 30; (with_reducible refine (X1.out _).mono ?_); rintro e u ⟨rfl, hbn⟩; (first | replace hB := hB.trans (hbn.mono hB.size) | replace hB := hB.drew.trans (hbn.mono hB.drew.size)); clear hbn))
      go_ret3
      exact ⟨by rw [← hq3.out]; rfl, hB⟩
set_option maxHeartbeats 2000000 in
set_option maxRecDepth 100000 in
theorem ref24_Over_few_sign (s : ByteArray) (p : Int) (k : ByteArray) (n : Int) (hs : s.size ≤ 100000000) (h : Utf.place s.data.toList p = true) (hsg : (Utf.one k.data.toList && Key.sgn k.data.toList) = true) (hn : 1 ≤ n) (hb : Pst.behind s.data.toList p (max n 1) < 0) (w : World) :
    Calls Try.prog 13 #[.string s, .int .i64 p, .string k, .int .i64 n] w fun e w' => e = .returned (Pst.val (Pst.no 10)) ∧ Below w.heap.size w w' := by
  rw [Pst.val_no]
  have P0 := fun w => ref_Place s p (by omega) w
  rw [h] at P0
  have P1 := Lib.hid P0
  have S0 := fun w => ref13_Sign k w
  rw [hsg] at S0
  have S1 := Lib.hid S0
  obtain ⟨rs, i, j, hd, hij, hj, hp, hst, hsd, hen, hno, hend, _, _⟩ := Pst.tail_runes h
  have M0 := fun w => ref24_some_is s p n hd hij hj hp hno hend (by omega) w
  rw [← Pst.often_int, Pst.behind_runes hsd hp hij hj] at hb
  have ho := Pst.often_int n
  have him : ¬ i + Pst.often n ≤ j := fun e => by rw [if_pos e] at hb; omega
  obtain ⟨c, hc⟩ : ∃ c, min (Pst.often n) (j - i) = c := ⟨_, rfl⟩
  rw [hc] at M0
  have g1 : decide ((c : Int) < n) = true := decide_eq_true (by omega)
  have M1 : Hid (∀ w, Calls Try.prog 42 #[.string s, .int .i64 p, .int .i64 n] w fun e w' => ∃ A cc, e = .returned (.slice A c cc) ∧ Ints w' A (Pst.run rs i c) ∧ Below w.heap.size w w') := fun w => (M0 w).mono (by rintro e u ⟨A, cc, rfl, h1, h2⟩; rw [Pst.run_length]; exact ⟨A, cc, rfl, h1, h2⟩)
  have hB := Below.refl w.heap.size w
  clear P0 M0 h hd hij hj hp hst hsd hen hno hend hb ho him hn hc S0 hsg
  go_enter Try.func13, Try.ntmps13
  go_wp2_with (first
    | (go_at_call 23; (with_reducible refine (P1.out _).mono ?_); rintro e u ⟨rfl, hbn⟩; (first | replace hB := hB.trans (hbn.mono hB.size) | replace hB := hB.drew.trans (hbn.mono hB.drew.size)); clear hbn)
    | (go_at_call 46; (with_reducible refine (S1.out _).mono ?_); rintro e u ⟨rfl, hbn⟩; (first | replace hB := hB.trans (hbn.mono hB.size) | replace hB := hB.drew.trans (hbn.mono hB.drew.size)); clear hbn)
    | (go_at_call 42; (with_reducible refine (M1.out _).mono ?_); rintro e u ⟨A, cc, rfl, hL, hbn⟩; replace hB := hB.trans (hbn.mono hB.size); clear hbn))
  go_ret3
  exact ⟨rfl, hB⟩
set_option maxHeartbeats 2000000 in
set_option maxRecDepth 100000 in
theorem ref24_Over_none_sign (s : ByteArray) (p : Int) (k : ByteArray) (n : Int) (hs : s.size ≤ 100000000) (h : Utf.place s.data.toList p = true) (hsg : (Utf.one k.data.toList && Key.sgn k.data.toList) = true) (hn : n < 1) (hb : Pst.behind s.data.toList p (max n 1) < 0) (w : World) :
    Calls Try.prog 13 #[.string s, .int .i64 p, .string k, .int .i64 n] w fun e w' => e = .returned (Pst.val (Pst.no 10)) ∧ Below w.heap.size w w' := by
  rw [Pst.val_no]
  have P0 := fun w => ref_Place s p (by omega) w
  rw [h] at P0
  have P1 := Lib.hid P0
  have S0 := fun w => ref13_Sign k w
  rw [hsg] at S0
  have S1 := Lib.hid S0
  obtain ⟨rs, i, j, hd, hij, hj, hp, hst, hsd, hen, hno, hend, _, _⟩ := Pst.tail_runes h
  have M0 := fun w => ref24_some_is s p n hd hij hj hp hno hend (by omega) w
  rw [← Pst.often_int, Pst.behind_runes hsd hp hij hj] at hb
  have ho := Pst.often_int n
  have him : ¬ i + Pst.often n ≤ j := fun e => by rw [if_pos e] at hb; omega
  rw [show min (Pst.often n) (j - i) = 0 by omega] at M0
  have g1 : decide ((0 : Int) < n) = false := decide_eq_false (by omega)
  have M1 : Hid (∀ w, Calls Try.prog 42 #[.string s, .int .i64 p, .int .i64 n] w fun e w' => ∃ A cc, e = .returned (.slice A 0 cc) ∧ Ints w' A [] ∧ Below w.heap.size w w') := M0
  have hB := Below.refl w.heap.size w
  clear P0 M0 h hd hij hj hp hst hsd hen hno hend hb ho him hn S0 hsg
  go_enter Try.func13, Try.ntmps13
  go_wp2_with (first
    | (go_at_call 23; (with_reducible refine (P1.out _).mono ?_); rintro e u ⟨rfl, hbn⟩; (first | replace hB := hB.trans (hbn.mono hB.size) | replace hB := hB.drew.trans (hbn.mono hB.drew.size)); clear hbn)
    | (go_at_call 46; (with_reducible refine (S1.out _).mono ?_); rintro e u ⟨rfl, hbn⟩; (first | replace hB := hB.trans (hbn.mono hB.size) | replace hB := hB.drew.trans (hbn.mono hB.drew.size)); clear hbn)
    | (go_at_call 42; (with_reducible refine (M1.out _).mono ?_); rintro e u ⟨A, cc, rfl, hL, hbn⟩; replace hB := hB.trans (hbn.mono hB.size); clear hbn))
  go_ret3
  exact ⟨rfl, hB⟩
set_option maxHeartbeats 2000000 in
set_option maxRecDepth 100000 in
theorem ref24_Over_room_sign (s : ByteArray) (p : Int) (k : ByteArray) (n : Int) (hs : s.size ≤ 100000000) (h : Utf.place s.data.toList p = true) (hsg : (Utf.one k.data.toList && Key.sgn k.data.toList) = true) (hb : ¬ Pst.behind s.data.toList p (max n 1) < 0) (hr : ¬ (Pst.overT s.data.toList p.toNat (Pst.behind s.data.toList p (max n 1)).toNat k.data.toList n).length ≤ 4096) (w : World) :
    Calls Try.prog 13 #[.string s, .int .i64 p, .string k, .int .i64 n] w fun e w' => e = .returned (Pst.val (Pst.no 8)) ∧ Below w.heap.size w w' := by
  rw [Pst.val_no]
  have hkey : Pst.key k.data.toList = true := by rw [Pst.key, hsg]; rfl
  have P0 := fun w => ref_Place s p (by omega) w
  rw [h] at P0
  have P1 := Lib.hid P0
  have S0 := fun w => ref13_Sign k w
  rw [hsg] at S0
  have S1 := Lib.hid S0
  obtain ⟨rs, i, j, hd, hij, hj, hp, hst, hsd, hen, hno, hend, _, _⟩ := Pst.tail_runes h
  have M0 := fun w => ref24_some_is s p n hd hij hj hp hno hend (by omega) w
  have ho := Pst.often_int n
  have hop := Pst.often_pos n
  have hbr := Pst.behind_runes hsd hp hij hj (m := Pst.often n)
  rw [ho] at hbr
  have him : i + Pst.often n ≤ j := by
    rcases Nat.lt_or_ge j (i + Pst.often n) with h1 | h1
    · rw [hbr, if_neg (by omega)] at hb; exact absurd (by decide) hb
    · exact h1
  rw [if_pos him] at hbr
  obtain ⟨m', hm'⟩ : ∃ m', Pst.often n = m' + 1 := ⟨Pst.often n - 1, by omega⟩
  rw [hbr, hp, Int.toNat_natCast, Int.toNat_natCast, Pst.overT, hm'] at hr
  rw [hp]
  rw [show min (Pst.often n) (j - i) = m' + 1 by omega] at M0
  rw [hm'] at him ho
  have M1 : Hid (∀ w, Calls Try.prog 42 #[.string s, .int .i64 p, .int .i64 n] w fun e w' => ∃ A cc, e = .returned (.slice A (m' + 1) cc) ∧ Ints w' A (Pst.run rs i (m' + 1)) ∧ Below w.heap.size w w') := fun w => (M0 w).mono (by rintro e u ⟨A, cc, rfl, h1, h2⟩; rw [Pst.run_length]; exact ⟨A, cc, rfl, h1, h2⟩)
  have GA : Hid (∀ (u : World) (A : Option Addr), Ints u A (Pst.run rs i (m' + 1)) → ∃ ad, A = some ad ∧ ad.block < u.heap.size ∧ u.cell? (ad.add m') = some (.int .i64 (Utf.off rs (i + m') : Nat))) := fun u A hI => by
    obtain ⟨ad, e, hlt, hc⟩ := hI (by rw [Pst.run_length]; omega)
    exact ⟨ad, e, hlt, hc m' _ (Pst.run_get (by omega))⟩
  have X0 := fun w => ref_Next s (Utf.off rs (i + m') : Int) (by omega) w
  rw [Utf.next_at hd (show i + m' < rs.length by omega)] at X0
  have hmi : m' ≤ s.size := by have := Line.off_ge' hd hj; have h2 := Utf.off_in hd j; rw [data_len] at h2; omega
  have w0 : IntKind.i64.wrap (m' : Int) = (m' : Int) := by rw [IntKind.wrap_i64]; omega
  have hab := Utf.off_mono (rs := rs) (show i ≤ i + (m' + 1) by omega)
  have hbl := Utf.off_in hd (i + (m' + 1))
  obtain ⟨h1, _, hk4⟩ := Pst.key_one hkey
  have hkp := Utf.one_pos h1
  rw [data_len] at hk4 hkp
  rw [show i + m' + 1 = i + (m' + 1) by omega] at X0
  have X1 := Lib.hid X0
  have hml := Pst.mid_length (s := s.data.toList) (Pst.reps (m' + 1) k.data.toList) hab hbl
  rw [data_len] at hbl
  rw [Pst.reps_length, data_len, data_len] at hml
  rw [hp] at M1 P1
  have t3 : decide ((m' : Int) + 1 < n) = false := decide_eq_false (by omega)
  have t4 : ((m' : Int) + 1 == 0) = false := by rw [beq_eq_false_iff_ne]; omega
  clear M0 P0 X0 h hd hij hj hp hst hsd hen hno hend hop hm' hbr hb him ho h1 hkey
  generalize Utf.off rs (i + (m' + 1)) = b at *
  generalize Utf.off rs (i + m') = y at *
  generalize Utf.off rs i = a at *
  have e1 := extract_to s a
  have e2 := extract_from s b
  have HT0 : Hid (bs (s.data.toList.take a) = bs (s.data.toList.take a ++ Pst.reps 0 k.data.toList)) := by show _ = _; rw [Pst.reps, List.append_nil]
  have HTS : Hid (∀ r, bs (s.data.toList.take a ++ Pst.reps r k.data.toList) ++ k = bs (s.data.toList.take a ++ Pst.reps (r + 1) k.data.toList)) := fun r => by
    rw [Pst.reps_snoc, ← List.append_assoc, ← bs_append (s.data.toList.take a ++ Pst.reps r k.data.toList) k.data.toList, bs_data]
  have HTL : Hid (∀ r, (bs (s.data.toList.take a ++ Pst.reps r k.data.toList)).size = a + r * k.size) := fun r => by
    rw [bs_size, List.length_append, Pst.reps_length, List.length_take, data_len, data_len]; omega
  have HTE : Hid (bs (s.data.toList.take a ++ Pst.reps (m' + 1) k.data.toList) ++ bs (s.data.toList.drop b) = bs (Pst.mid s.data.toList a b (Pst.reps (m' + 1) k.data.toList))) := by
    show _ = _
    rw [bs_append, Pst.mid, List.append_assoc]
  have HRZ : (bs (Pst.mid s.data.toList a b (Pst.reps (m' + 1) k.data.toList))).size = (Pst.mid s.data.toList a b (Pst.reps (m' + 1) k.data.toList)).length := bs_size _
  have hz2 : (bs (s.data.toList.drop b)).size ≤ s.size := by rw [bs_size, List.length_drop, data_len]; omega
  have t5 : decide ((4096 : Int) < ((bs (Pst.mid s.data.toList a b (Pst.reps (m' + 1) k.data.toList))).size : Int)) = true := decide_eq_true (by omega)
  have t6 : 4096 < (bs (Pst.mid s.data.toList a b (Pst.reps (m' + 1) k.data.toList))).size := by omega
  have hrm : ∀ r, r ≤ m' + 1 → r * k.size ≤ 400000004 := fun r h => by
    have := Nat.mul_le_mul h hk4
    omega
  have HRM := Lib.hid hrm
  generalize bs (Pst.mid s.data.toList a b (Pst.reps (m' + 1) k.data.toList)) = R at *
  generalize bs (s.data.toList.drop b) = Z at *
  generalize hT : (fun r => bs (s.data.toList.take a ++ Pst.reps r k.data.toList)) = T at *
  have hT2 : ∀ r, bs (s.data.toList.take a ++ Pst.reps r k.data.toList) = T r := fun r => congrFun hT r
  simp only [hT2] at HT0 HTS HTL HTE
  generalize bs (s.data.toList.take a) = Y at *
  have c2 : (b : Int) ≤ (s.size : Int) := by omega
  have c4 : (a : Int) ≤ (s.size : Int) := by omega
  have hB := Below.refl w.heap.size w
  clear HRZ hml hr hT hT2 hrm hk4 hkp S0 hsg
  go_enter Try.func13, Try.ntmps13
  go_wp2_with (first
    | (go_at_call 23; (with_reducible refine (P1.out _).mono ?_); rintro e u ⟨rfl, hbn⟩; (first | replace hB := hB.trans (hbn.mono hB.size) | replace hB := hB.drew.trans (hbn.mono hB.drew.size)); clear hbn)
    | (go_at_call 46; (with_reducible refine (S1.out _).mono ?_); rintro e u ⟨rfl, hbn⟩; (first | replace hB := hB.trans (hbn.mono hB.size) | replace hB := hB.drew.trans (hbn.mono hB.drew.size)); clear hbn)
    | (go_at_call 42; (with_reducible refine (M1.out _).mono ?_); rintro e u ⟨A, cc, rfl, hL, hbn⟩; replace hB := hB.trans (hbn.mono hB.size); obtain ⟨ad, rfl, hadl, hcl⟩ := GA.out _ _ hL; clear hbn hL))
  rename World => w1
  go_loopw [12, 13, 14] (fun tv lv iv wr => ∃ r q : Nat, r ≤ m' + 1 ∧ tv = .string (T r) ∧ lv = .int .i64 q ∧ iv = .int .i64 r ∧ Hid (q = a + (r - 1) * k.size) ∧ w1 = wr) (fun _ _ iv _ => m' + 1 - (intOf iv).toNat)
  case atStart => exact ⟨0, a, Nat.zero_le _, by rw [HT0.out], rfl, rfl, by show _ = _; omega, rfl⟩
  case round =>
    obtain ⟨r, q, hrl, rfl, rfl, rfl, hq, hw⟩ := hrel
    subst hw
    have hTr := HTL.out r
    have hrk := HRM.out r hrl
    by_cases hlt : r < m' + 1
    · have r1 : decide ((r : Int) < (m' : Int) + 1) = true := decide_eq_true (by omega)
      have r2 : r ≤ m' := by omega
      have hq2 : Hid ((T r).size = a + (r + 1 - 1) * k.size) := by show _ = _; rw [hTr, Nat.add_sub_cancel]
      have hS := Lib.hid (HTS.out r)
      have r3 : ¬ 9223372036854775807 < (T r).size + k.size := by have := HRM.out 1 (by omega); omega
      clear hTr hrk hq
      go_wp2
      go_roundw
      case rel => exact ⟨r + 1, (T r).size, hlt, by rw [← hS.out], rfl, by go_num, hq2, by trivial⟩
      case measure => simp [intOf]; omega
    · obtain rfl : r = m' + 1 := by omega
      have r1 : decide ((m' : Int) + 1 < (m' : Int) + 1) = false := decide_eq_false (by omega)
      have r3 : ¬ 9223372036854775807 < (T (m' + 1)).size + Z.size := by omega
      have hE := HTE.out
      clear hTr hrk hq
      go_wp2_with (first
        | (go_at_call 30; (with_reducible refine (X1.out _).mono ?_); rintro e u ⟨rfl, hbn⟩; (first | replace hB := hB.trans (hbn.mono hB.size) | replace hB := hB.drew.trans (hbn.mono hB.drew.size)); clear hbn))
      go_ret3
      exact ⟨rfl, hB⟩
set_option maxHeartbeats 2000000 in
set_option maxRecDepth 100000 in
theorem ref24_Over_ok_sign (s : ByteArray) (p : Int) (k : ByteArray) (n : Int) (hs : s.size ≤ 100000000) (h : Utf.place s.data.toList p = true) (hsg : (Utf.one k.data.toList && Key.sgn k.data.toList) = true) (hb : ¬ Pst.behind s.data.toList p (max n 1) < 0) (hr : (Pst.overT s.data.toList p.toNat (Pst.behind s.data.toList p (max n 1)).toNat k.data.toList n).length ≤ 4096) (w : World) :
    Calls Try.prog 13 #[.string s, .int .i64 p, .string k, .int .i64 n] w fun e w' => e = .returned (Pst.val (Pst.overT s.data.toList p.toNat (Pst.behind s.data.toList p (max n 1)).toNat k.data.toList n, p + ((Pst.often n - 1) * k.data.toList.length : Nat), 0)) ∧ Below w.heap.size w w' := by
  rw [Pst.val_mk]
  have hkey : Pst.key k.data.toList = true := by rw [Pst.key, hsg]; rfl
  have P0 := fun w => ref_Place s p (by omega) w
  rw [h] at P0
  have P1 := Lib.hid P0
  have S0 := fun w => ref13_Sign k w
  rw [hsg] at S0
  have S1 := Lib.hid S0
  obtain ⟨rs, i, j, hd, hij, hj, hp, hst, hsd, hen, hno, hend, _, _⟩ := Pst.tail_runes h
  have M0 := fun w => ref24_some_is s p n hd hij hj hp hno hend (by omega) w
  have ho := Pst.often_int n
  have hop := Pst.often_pos n
  have hbr := Pst.behind_runes hsd hp hij hj (m := Pst.often n)
  rw [ho] at hbr
  have him : i + Pst.often n ≤ j := by
    rcases Nat.lt_or_ge j (i + Pst.often n) with h1 | h1
    · rw [hbr, if_neg (by omega)] at hb; exact absurd (by decide) hb
    · exact h1
  rw [if_pos him] at hbr
  obtain ⟨m', hm'⟩ : ∃ m', Pst.often n = m' + 1 := ⟨Pst.often n - 1, by omega⟩
  rw [hbr, hp, Int.toNat_natCast, Int.toNat_natCast, Pst.overT, hm'] at hr
  rw [hbr, hp, Int.toNat_natCast, Int.toNat_natCast, Pst.overT, hm', Nat.add_sub_cancel, data_len]
  rw [show min (Pst.often n) (j - i) = m' + 1 by omega] at M0
  rw [hm'] at him ho
  have M1 : Hid (∀ w, Calls Try.prog 42 #[.string s, .int .i64 p, .int .i64 n] w fun e w' => ∃ A cc, e = .returned (.slice A (m' + 1) cc) ∧ Ints w' A (Pst.run rs i (m' + 1)) ∧ Below w.heap.size w w') := fun w => (M0 w).mono (by rintro e u ⟨A, cc, rfl, h1, h2⟩; rw [Pst.run_length]; exact ⟨A, cc, rfl, h1, h2⟩)
  have GA : Hid (∀ (u : World) (A : Option Addr), Ints u A (Pst.run rs i (m' + 1)) → ∃ ad, A = some ad ∧ ad.block < u.heap.size ∧ u.cell? (ad.add m') = some (.int .i64 (Utf.off rs (i + m') : Nat))) := fun u A hI => by
    obtain ⟨ad, e, hlt, hc⟩ := hI (by rw [Pst.run_length]; omega)
    exact ⟨ad, e, hlt, hc m' _ (Pst.run_get (by omega))⟩
  have X0 := fun w => ref_Next s (Utf.off rs (i + m') : Int) (by omega) w
  rw [Utf.next_at hd (show i + m' < rs.length by omega)] at X0
  have hmi : m' ≤ s.size := by have := Line.off_ge' hd hj; have h2 := Utf.off_in hd j; rw [data_len] at h2; omega
  have w0 : IntKind.i64.wrap (m' : Int) = (m' : Int) := by rw [IntKind.wrap_i64]; omega
  have hab := Utf.off_mono (rs := rs) (show i ≤ i + (m' + 1) by omega)
  have hbl := Utf.off_in hd (i + (m' + 1))
  obtain ⟨h1, _, hk4⟩ := Pst.key_one hkey
  have hkp := Utf.one_pos h1
  rw [data_len] at hk4 hkp
  rw [show i + m' + 1 = i + (m' + 1) by omega] at X0
  have X1 := Lib.hid X0
  have hml := Pst.mid_length (s := s.data.toList) (Pst.reps (m' + 1) k.data.toList) hab hbl
  rw [data_len] at hbl
  rw [Pst.reps_length, data_len, data_len] at hml
  rw [hp] at M1 P1
  have t3 : decide ((m' : Int) + 1 < n) = false := decide_eq_false (by omega)
  have t4 : ((m' : Int) + 1 == 0) = false := by rw [beq_eq_false_iff_ne]; omega
  clear M0 P0 X0 h hd hij hj hp hst hsd hen hno hend hop hm' hbr hb him ho h1 hkey
  generalize Utf.off rs (i + (m' + 1)) = b at *
  generalize Utf.off rs (i + m') = y at *
  generalize Utf.off rs i = a at *
  have e1 := extract_to s a
  have e2 := extract_from s b
  have HT0 : Hid (bs (s.data.toList.take a) = bs (s.data.toList.take a ++ Pst.reps 0 k.data.toList)) := by show _ = _; rw [Pst.reps, List.append_nil]
  have HTS : Hid (∀ r, bs (s.data.toList.take a ++ Pst.reps r k.data.toList) ++ k = bs (s.data.toList.take a ++ Pst.reps (r + 1) k.data.toList)) := fun r => by
    rw [Pst.reps_snoc, ← List.append_assoc, ← bs_append (s.data.toList.take a ++ Pst.reps r k.data.toList) k.data.toList, bs_data]
  have HTL : Hid (∀ r, (bs (s.data.toList.take a ++ Pst.reps r k.data.toList)).size = a + r * k.size) := fun r => by
    rw [bs_size, List.length_append, Pst.reps_length, List.length_take, data_len, data_len]; omega
  have HTE : Hid (bs (s.data.toList.take a ++ Pst.reps (m' + 1) k.data.toList) ++ bs (s.data.toList.drop b) = bs (Pst.mid s.data.toList a b (Pst.reps (m' + 1) k.data.toList))) := by
    show _ = _
    rw [bs_append, Pst.mid, List.append_assoc]
  have HRZ : (bs (Pst.mid s.data.toList a b (Pst.reps (m' + 1) k.data.toList))).size = (Pst.mid s.data.toList a b (Pst.reps (m' + 1) k.data.toList)).length := bs_size _
  have hz2 : (bs (s.data.toList.drop b)).size ≤ s.size := by rw [bs_size, List.length_drop, data_len]; omega
  have t5 : decide ((4096 : Int) < ((bs (Pst.mid s.data.toList a b (Pst.reps (m' + 1) k.data.toList))).size : Int)) = false := decide_eq_false (by omega)
  have t6 : ¬ 4096 < (bs (Pst.mid s.data.toList a b (Pst.reps (m' + 1) k.data.toList))).size := by omega
  have hrm : ∀ r, r ≤ m' + 1 → r * k.size ≤ 400000004 := fun r h => by
    have := Nat.mul_le_mul h hk4
    omega
  have HRM := Lib.hid hrm
  generalize bs (Pst.mid s.data.toList a b (Pst.reps (m' + 1) k.data.toList)) = R at *
  generalize bs (s.data.toList.drop b) = Z at *
  generalize hT : (fun r => bs (s.data.toList.take a ++ Pst.reps r k.data.toList)) = T at *
  have hT2 : ∀ r, bs (s.data.toList.take a ++ Pst.reps r k.data.toList) = T r := fun r => congrFun hT r
  simp only [hT2] at HT0 HTS HTL HTE
  generalize bs (s.data.toList.take a) = Y at *
  have c2 : (b : Int) ≤ (s.size : Int) := by omega
  have c4 : (a : Int) ≤ (s.size : Int) := by omega
  have hB := Below.refl w.heap.size w
  clear HRZ hml hr hT hT2 hrm hk4 hkp S0 hsg
  go_enter Try.func13, Try.ntmps13
  go_wp2_with (first
    | (go_at_call 23; (with_reducible refine (P1.out _).mono ?_); rintro e u ⟨rfl, hbn⟩; (first | replace hB := hB.trans (hbn.mono hB.size) | replace hB := hB.drew.trans (hbn.mono hB.drew.size)); clear hbn)
    | (go_at_call 46; (with_reducible refine (S1.out _).mono ?_); rintro e u ⟨rfl, hbn⟩; (first | replace hB := hB.trans (hbn.mono hB.size) | replace hB := hB.drew.trans (hbn.mono hB.drew.size)); clear hbn)
    | (go_at_call 42; (with_reducible refine (M1.out _).mono ?_); rintro e u ⟨A, cc, rfl, hL, hbn⟩; replace hB := hB.trans (hbn.mono hB.size); obtain ⟨ad, rfl, hadl, hcl⟩ := GA.out _ _ hL; clear hbn hL))
  rename World => w1
  go_loopw [12, 13, 14] (fun tv lv iv wr => ∃ r q : Nat, r ≤ m' + 1 ∧ tv = .string (T r) ∧ lv = .int .i64 q ∧ iv = .int .i64 r ∧ Hid (q = a + (r - 1) * k.size) ∧ w1 = wr) (fun _ _ iv _ => m' + 1 - (intOf iv).toNat)
  case atStart => exact ⟨0, a, Nat.zero_le _, by rw [HT0.out], rfl, rfl, by show _ = _; omega, rfl⟩
  case round =>
    obtain ⟨r, q, hrl, rfl, rfl, rfl, hq, hw⟩ := hrel
    subst hw
    have hTr := HTL.out r
    have hrk := HRM.out r hrl
    by_cases hlt : r < m' + 1
    · have r1 : decide ((r : Int) < (m' : Int) + 1) = true := decide_eq_true (by omega)
      have r2 : r ≤ m' := by omega
      have hq2 : Hid ((T r).size = a + (r + 1 - 1) * k.size) := by show _ = _; rw [hTr, Nat.add_sub_cancel]
      have hS := Lib.hid (HTS.out r)
      have r3 : ¬ 9223372036854775807 < (T r).size + k.size := by have := HRM.out 1 (by omega); omega
      clear hTr hrk hq
      go_wp2
      go_roundw
      case rel => exact ⟨r + 1, (T r).size, hlt, by rw [← hS.out], rfl, by go_num, hq2, by trivial⟩
      case measure => simp [intOf]; omega
    · obtain rfl : r = m' + 1 := by omega
      have r1 : decide ((m' : Int) + 1 < (m' : Int) + 1) = false := decide_eq_false (by omega)
      have r3 : ¬ 9223372036854775807 < (T (m' + 1)).size + Z.size := by omega
      have hE := HTE.out
      have hq3 : Hid ((q : Int) = (a : Int) + ((m' * k.size : Nat) : Int)) := by show _ = _; have := hq.out; rw [Nat.add_sub_cancel] at this; omega
      clear hTr hrk hq
      go_wp2_with (first
        | (go_at_call 30; (with_reducible refine (X1.out _).mono ?_); rintro e u ⟨rfl, hbn⟩; (first | replace hB := hB.trans (hbn.mono hB.size) | replace hB := hB.drew.trans (hbn.mono hB.drew.size)); clear hbn))
      go_ret3
      exact ⟨by rw [← hq3.out]; rfl, hB⟩
theorem ref24_Over (s : ByteArray) (p : Int) (k : ByteArray) (n : Int) (hs : s.size ≤ 100000000) (w : World) :
    Calls Try.prog 13 #[.string s, .int .i64 p, .string k, .int .i64 n] w fun e w' => e = .returned (Pst.val (Pst.over s.data.toList p k.data.toList n)) ∧ Below w.heap.size w w' := by
  rw [Pst.over]
  cases h : Utf.place s.data.toList p with
  | false => rw [if_neg (by decide)]; exact ref24_Over_arg s p k n hs h w
  | true =>
    rw [if_pos rfl, Pst.key]
    cases hsg : (Utf.one k.data.toList && Key.sgn k.data.toList) with
    | true =>
      rw [Bool.true_or, if_pos rfl]
      by_cases hb : Pst.behind s.data.toList p (max n 1) < 0
      · rw [if_pos hb]
        rcases Int.lt_or_le n 1 with hn | hn
        · exact ref24_Over_none_sign s p k n hs h hsg hn hb w
        · exact ref24_Over_few_sign s p k n hs h hsg hn hb w
      · rw [if_neg hb]
        split
        · rename_i hr; exact ref24_Over_ok_sign s p k n hs h hsg hb hr w
        · rename_i hr; exact ref24_Over_room_sign s p k n hs h hsg hb hr w
    | false =>
      rw [Bool.false_or]
      by_cases hk9 : k.data.toList = [9]
      · rw [decide_eq_true hk9, if_pos rfl]
        by_cases hb : Pst.behind s.data.toList p (max n 1) < 0
        · rw [if_pos hb]
          rcases Int.lt_or_le n 1 with hn | hn
          · exact ref24_Over_none_tab s p k n hs h hk9 hn hb w
          · exact ref24_Over_few_tab s p k n hs h hk9 hn hb w
        · rw [if_neg hb]
          split
          · rename_i hr; exact ref24_Over_ok_tab s p k n hs h hk9 hb hr w
          · rename_i hr; exact ref24_Over_room_tab s p k n hs h hk9 hb hr w
      · rw [decide_eq_false hk9, if_neg (by decide)]; exact ref24_Over_key s p k n hs h hk9 hsg w
end Go.Proofs.Ytambboomabeioaa
/-
  The document's answer: registers put in.
-/
namespace Go.Proofs.Ytambboomabeioaa
open Go.RowKit
theorem Pst.refS_length (x : List UInt8) (l ah : Bool) (n : Int) : (Pst.refS x l ah n).length ≤ 4098 + x.length := by
  have h1 := Pst.rp_length x [10] (Pst.often n - 1)
  have h2 := Pst.rp_length x [] (Pst.often n - 1)
  rw [List.length_singleton] at h1
  rw [List.length_nil] at h2
  rw [Pst.refS]
  split
  · split
    · rw [List.length_append, List.length_singleton]; omega
    · rw [List.length_cons]; omega
  · omega
set_option maxHeartbeats 2000000 in
set_option maxRecDepth 100000 in
theorem ref24_Put_arg (s : ByteArray) (p nm : Int) (x : ByteArray) (l : Bool) (ah : Bool) (n : Int) (hs : s.size ≤ 100000000) (h : Utf.place s.data.toList p = false) (w : World) :
    Calls Try.prog 9 #[.string s, .int .i64 p, .agg #[.int .i64 nm, .bool l, .string x], .bool ah, .int .i64 n] w fun e w' => e = .returned (Pst.val (Pst.no 1)) ∧ Below w.heap.size w w' := by
  rw [Pst.val_no]
  have P0 := fun w => ref_Place s p (by omega) w
  rw [h] at P0
  have P1 := Lib.hid P0
  have K := GBox.new w nm l x
  obtain ⟨c1, c2⟩ := K.cells
  clear P0 h
  go_enter Try.func9, Try.ntmps9
  go_wp2_with (first
    | (go_at_call 23; (with_reducible refine (P1.out _).mono ?_); rintro e u ⟨rfl, hbn⟩; (first | replace K := K.on hbn | replace K := K.ond hbn); clear hbn; clear c1 c2; obtain ⟨c1, c2⟩ := K.cells))
  go_ret3
  exact ⟨rfl, K.below⟩
set_option maxHeartbeats 2000000 in
set_option maxRecDepth 100000 in
theorem ref24_Put_text (s : ByteArray) (p nm : Int) (x : ByteArray) (l : Bool) (ah : Bool) (n : Int) (hs : s.size ≤ 100000000) (hxs : x.size ≤ 10000000) (h : Utf.place s.data.toList p = true) (hv : Utf.valid x.data.toList = false) (w : World) :
    Calls Try.prog 9 #[.string s, .int .i64 p, .agg #[.int .i64 nm, .bool l, .string x], .bool ah, .int .i64 n] w fun e w' => e = .returned (Pst.val (Pst.no 1)) ∧ Below w.heap.size w w' := by
  rw [Pst.val_no]
  have P0 := fun w => ref_Place s p (by omega) w
  rw [h] at P0
  have P1 := Lib.hid P0
  have V0 := fun w => ref_Valid x (by omega) w
  rw [hv] at V0
  have V1 := Lib.hid V0
  have K := GBox.new w nm l x
  obtain ⟨c1, c2⟩ := K.cells
  clear P0 V0 h hv hxs
  go_enter Try.func9, Try.ntmps9
  go_wp2_with (first
    | (go_at_call 23; (with_reducible refine (P1.out _).mono ?_); rintro e u ⟨rfl, hbn⟩; (first | replace K := K.on hbn | replace K := K.ond hbn); clear hbn; clear c1 c2; obtain ⟨c1, c2⟩ := K.cells)
    | (go_at_call 24; (with_reducible refine (V1.out _).mono ?_); rintro e u ⟨rfl, hbn⟩; (first | replace K := K.on hbn | replace K := K.ond hbn); clear hbn; clear c1 c2; obtain ⟨c1, c2⟩ := K.cells))
  go_ret3
  exact ⟨rfl, K.below⟩
set_option maxHeartbeats 2000000 in
set_option maxRecDepth 100000 in
theorem ref24_Put_none (s : ByteArray) (p nm : Int) (x : ByteArray) (ah : Bool) (n : Int) (hs : s.size ≤ 100000000) (hxs : x.size ≤ 10000000) (h : Utf.place s.data.toList p = true) (hv : Utf.valid x.data.toList = true) (h0 : x.data.toList = []) (w : World) :
    Calls Try.prog 9 #[.string s, .int .i64 p, .agg #[.int .i64 nm, .bool false, .string x], .bool ah, .int .i64 n] w fun e w' => e = .returned (Pst.val (Pst.no 7)) ∧ Below w.heap.size w w' := by
  rw [Pst.val_no]
  have P0 := fun w => ref_Place s p (by omega) w
  rw [h] at P0
  have P1 := Lib.hid P0
  have V0 := fun w => ref_Valid x (by omega) w
  rw [hv] at V0
  have V1 := Lib.hid V0
  have K := GBox.new w nm false x
  obtain ⟨c1, c2⟩ := K.cells
  have e0 : x.toList.isEmpty = true := by rw [tl_data, h0]; rfl
  clear P0 V0 h hv h0 hxs
  go_enter Try.func9, Try.ntmps9
  go_wp2_with (first
    | (go_at_call 23; (with_reducible refine (P1.out _).mono ?_); rintro e u ⟨rfl, hbn⟩; (first | replace K := K.on hbn | replace K := K.ond hbn); clear hbn; clear c1 c2; obtain ⟨c1, c2⟩ := K.cells)
    | (go_at_call 24; (with_reducible refine (V1.out _).mono ?_); rintro e u ⟨rfl, hbn⟩; (first | replace K := K.on hbn | replace K := K.ond hbn); clear hbn; clear c1 c2; obtain ⟨c1, c2⟩ := K.cells))
  go_ret3
  exact ⟨rfl, K.below⟩
set_option maxHeartbeats 2000000 in
set_option maxRecDepth 100000 in
theorem ref24_Put_ahead_void_room (s : ByteArray) (p nm : Int) (x : ByteArray) (n : Int) (hs : s.size ≤ 100000000) (hxs : x.size ≤ 10000000) (hn : n ≤ 9223372036854775807) (h : Utf.place s.data.toList p = true) (hv : Utf.valid x.data.toList = true) (e0 : x.toList.isEmpty = true) (hf : ¬ Pst.fits s.data.toList x.data.toList true true n) (w : World) :
    Calls Try.prog 9 #[.string s, .int .i64 p, .agg #[.int .i64 nm, .bool true, .string x], .bool true, .int .i64 n] w fun e w' => e = .returned (Pst.val (Pst.no 8)) ∧ Below w.heap.size w w' := by
  rw [Pst.val_no]
  have P0 := fun w => ref_Place s p (by omega) w
  rw [h] at P0
  have P1 := Lib.hid P0
  have V0 := fun w => ref_Valid x (by omega) w
  rw [hv] at V0
  have V1 := Lib.hid V0
  obtain ⟨a0, k, y, hpp, hy, h1, h2, h3, hk, hst, hsp⟩ := Line.place_line h
  have hkl := (List.getElem?_eq_some_iff.1 hy).1
  have hll := Line.L_length s.data.toList
  rw [data_len] at h3 hll
  have O0 := fun w => ref4_Of s p (by omega) w
  rw [hk] at O0
  have O1 := Lib.hid O0
  obtain ⟨a, ha, hal, hap⟩ := Pst.spot_place h true true
  rw [data_len] at hal
  have hS := Pst.refS_length x.data.toList true true n
  rw [data_len] at hS
  have hspot : Pst.spot s.data.toList p true true = Line.start s.data.toList k := by rw [Pst.spot, if_pos rfl, if_pos rfl, hk]
  rw [ha] at hspot
  have S0 := fun w => ref4_Start s (k : Int) (by omega) w
  rw [← hspot] at S0
  have S1 := Lib.hid S0
  have R0 := fun w => ref24_rep x ⟨#[10]⟩ n (by omega) (by decide) hn w
  have hrp := Pst.rp_length x.data.toList [10] (Pst.often n - 1)
  rw [List.length_singleton, data_len] at hrp
  have E1 : bs (Pst.rp x.data.toList [10] (Pst.often n - 1)) ++ (⟨#[10]⟩ : ByteArray) = bs (Pst.refS x.data.toList true true n) := by
    rw [Pst.refS, if_pos rfl, if_pos rfl]
    exact bs_append _ [10]
  rw [show (⟨#[10]⟩ : ByteArray).data.toList = [10] from rfl] at R0
  have R1 := Lib.hid R0
  have hrz : (bs (Pst.rp x.data.toList [10] (Pst.often n - 1))).size ≤ 10010000 := by rw [bs_size]; omega
  generalize bs (Pst.rp x.data.toList [10] (Pst.often n - 1)) = RP at *
  have hml := Pst.mid_length (s := s.data.toList) (Pst.refS x.data.toList true true n) (Nat.le_refl a) (by rw [data_len]; exact hal)
  rw [data_len] at hml
  have e1 := extract_to s a
  have e2 := extract_from s a
  have e3 : bs (s.data.toList.take a) ++ bs (Pst.refS x.data.toList true true n) = bs (s.data.toList.take a ++ Pst.refS x.data.toList true true n) := bs_append _ _
  have e4 : bs (s.data.toList.take a ++ Pst.refS x.data.toList true true n) ++ bs (s.data.toList.drop a) = bs (Pst.mid s.data.toList a a (Pst.refS x.data.toList true true n)) := by rw [bs_append, Pst.mid, List.append_assoc]
  have hz1 : (bs (s.data.toList.take a)).size ≤ s.size := by rw [bs_size, List.length_take]; omega
  have hz2 : (bs (s.data.toList.drop a)).size ≤ s.size := by rw [bs_size, List.length_drop, data_len]; omega
  have hz3 : (bs (Pst.refS x.data.toList true true n)).size ≤ 10010000 := by rw [bs_size]; omega
  have hz4 : (bs (s.data.toList.take a ++ Pst.refS x.data.toList true true n)).size ≤ s.size + 10010000 := by rw [bs_size, List.length_append, List.length_take]; omega
  have hz5 : (bs (Pst.mid s.data.toList a a (Pst.refS x.data.toList true true n))).size = (Pst.mid s.data.toList a a (Pst.refS x.data.toList true true n)).length := bs_size _
  have hle : ¬ s.data.toList.length + (Pst.refS x.data.toList true true n).length ≤ 4096 := fun e => hf (Pst.refS_fit e).1
  rw [data_len] at hle
  have t1 : decide ((4096 : Int) < ((bs (Pst.mid s.data.toList a a (Pst.refS x.data.toList true true n))).size : Int)) = true := decide_eq_true (by omega)
  have t2 : 4096 < (bs (Pst.mid s.data.toList a a (Pst.refS x.data.toList true true n))).size := by omega
  generalize bs (Pst.mid s.data.toList a a (Pst.refS x.data.toList true true n)) = U at *
  generalize bs (s.data.toList.take a ++ Pst.refS x.data.toList true true n) = G at *
  generalize bs (Pst.refS x.data.toList true true n) = SS at *
  generalize bs (s.data.toList.take a) = Y1 at *
  generalize bs (s.data.toList.drop a) = Y2 at *
  have q1 : ¬ 9223372036854775807 < RP.size + (⟨#[10]⟩ : ByteArray).size := by have : (⟨#[10]⟩ : ByteArray).size = 1 := rfl; omega
  have q2 : ¬ 9223372036854775807 < (⟨#[10]⟩ : ByteArray).size + RP.size := by have : (⟨#[10]⟩ : ByteArray).size = 1 := rfl; omega
  have q3 : ¬ 9223372036854775807 < RP.size + 1 := by omega
  have q4 : ¬ 9223372036854775807 < 1 + RP.size := by omega
  have q5 : ¬ 9223372036854775807 < Y1.size + SS.size := by omega
  have q6 : ¬ 9223372036854775807 < G.size + Y2.size := by omega
  have d1 : (0 : Int) ≤ (a : Int) := by omega
  have d2 : (a : Int) ≤ (s.size : Int) := by omega
  have K := GBox.new w nm true x
  obtain ⟨c1, c2⟩ := K.cells
  clear P0 V0 h hv hf hn hxs hs hpp hy h1 h2 h3 hk hst hsp hkl hll O0 ha hal hap hS hspot S0 R0 hrp hml hz1 hz2 hz3 hz4 hz5 hle hrz
  go_enter Try.func9, Try.ntmps9
  go_wp2_with (first
    | (go_at_call 23; (with_reducible refine (P1.out _).mono ?_); rintro e u ⟨rfl, hbn⟩; (first | replace K := K.on hbn | replace K := K.ond hbn); clear hbn; clear c1 c2; obtain ⟨c1, c2⟩ := K.cells)
    | (go_at_call 24; (with_reducible refine (V1.out _).mono ?_); rintro e u ⟨rfl, hbn⟩; (first | replace K := K.on hbn | replace K := K.ond hbn); clear hbn; clear c1 c2; obtain ⟨c1, c2⟩ := K.cells)
    | (go_at_call 25; (with_reducible refine (O1.out _).mono ?_); rintro e u ⟨rfl, hbn⟩; (first | replace K := K.on hbn | replace K := K.ond hbn); clear hbn; clear c1 c2; obtain ⟨c1, c2⟩ := K.cells)
    | (go_at_call 26; (with_reducible refine (S1.out _).mono ?_); rintro e u ⟨rfl, hbn⟩; (first | replace K := K.on hbn | replace K := K.ond hbn); clear hbn; clear c1 c2; obtain ⟨c1, c2⟩ := K.cells)
    | (go_at_call 27; (with_reducible refine (R1.out _).mono ?_); rintro e u ⟨rfl, rfl⟩))
  go_region
  all_goals replace K := K.drew
  all_goals (clear c1 c2; obtain ⟨c1, c2⟩ := K.cells)
  all_goals go_wp2
  all_goals go_ret3
  all_goals exact ⟨rfl, K.below⟩
set_option maxHeartbeats 2000000 in
set_option maxRecDepth 100000 in
theorem ref24_Put_ahead_void_ok (s : ByteArray) (p nm : Int) (x : ByteArray) (n : Int) (hs : s.size ≤ 100000000) (hxs : x.size ≤ 10000000) (hn : n ≤ 9223372036854775807) (h : Utf.place s.data.toList p = true) (hv : Utf.valid x.data.toList = true) (e0 : x.toList.isEmpty = true) (hf : Pst.fits s.data.toList x.data.toList true true n) (w : World) :
    Calls Try.prog 9 #[.string s, .int .i64 p, .agg #[.int .i64 nm, .bool true, .string x], .bool true, .int .i64 n] w fun e w' => e = .returned (Pst.val (Pst.putT s.data.toList p x.data.toList true true n, Pst.putP s.data.toList p x.data.toList true true n, 0)) ∧ Below w.heap.size w w' := by
  rw [Pst.val_mk]
  have P0 := fun w => ref_Place s p (by omega) w
  rw [h] at P0
  have P1 := Lib.hid P0
  have V0 := fun w => ref_Valid x (by omega) w
  rw [hv] at V0
  have V1 := Lib.hid V0
  obtain ⟨a0, k, y, hpp, hy, h1, h2, h3, hk, hst, hsp⟩ := Line.place_line h
  have hkl := (List.getElem?_eq_some_iff.1 hy).1
  have hll := Line.L_length s.data.toList
  rw [data_len] at h3 hll
  have O0 := fun w => ref4_Of s p (by omega) w
  rw [hk] at O0
  have O1 := Lib.hid O0
  obtain ⟨a, ha, hal, hap⟩ := Pst.spot_place h true true
  rw [data_len] at hal
  have hS := Pst.refS_length x.data.toList true true n
  rw [data_len] at hS
  have hspot : Pst.spot s.data.toList p true true = Line.start s.data.toList k := by rw [Pst.spot, if_pos rfl, if_pos rfl, hk]
  rw [ha] at hspot
  have S0 := fun w => ref4_Start s (k : Int) (by omega) w
  rw [← hspot] at S0
  have S1 := Lib.hid S0
  have R0 := fun w => ref24_rep x ⟨#[10]⟩ n (by omega) (by decide) hn w
  have hrp := Pst.rp_length x.data.toList [10] (Pst.often n - 1)
  rw [List.length_singleton, data_len] at hrp
  have E1 : bs (Pst.rp x.data.toList [10] (Pst.often n - 1)) ++ (⟨#[10]⟩ : ByteArray) = bs (Pst.refS x.data.toList true true n) := by
    rw [Pst.refS, if_pos rfl, if_pos rfl]
    exact bs_append _ [10]
  rw [show (⟨#[10]⟩ : ByteArray).data.toList = [10] from rfl] at R0
  have R1 := Lib.hid R0
  have hrz : (bs (Pst.rp x.data.toList [10] (Pst.often n - 1))).size ≤ 10010000 := by rw [bs_size]; omega
  generalize bs (Pst.rp x.data.toList [10] (Pst.often n - 1)) = RP at *
  have hml := Pst.mid_length (s := s.data.toList) (Pst.refS x.data.toList true true n) (Nat.le_refl a) (by rw [data_len]; exact hal)
  rw [data_len] at hml
  have e1 := extract_to s a
  have e2 := extract_from s a
  have e3 : bs (s.data.toList.take a) ++ bs (Pst.refS x.data.toList true true n) = bs (s.data.toList.take a ++ Pst.refS x.data.toList true true n) := bs_append _ _
  have e4 : bs (s.data.toList.take a ++ Pst.refS x.data.toList true true n) ++ bs (s.data.toList.drop a) = bs (Pst.mid s.data.toList a a (Pst.refS x.data.toList true true n)) := by rw [bs_append, Pst.mid, List.append_assoc]
  have hz1 : (bs (s.data.toList.take a)).size ≤ s.size := by rw [bs_size, List.length_take]; omega
  have hz2 : (bs (s.data.toList.drop a)).size ≤ s.size := by rw [bs_size, List.length_drop, data_len]; omega
  have hz3 : (bs (Pst.refS x.data.toList true true n)).size ≤ 10010000 := by rw [bs_size]; omega
  have hz4 : (bs (s.data.toList.take a ++ Pst.refS x.data.toList true true n)).size ≤ s.size + 10010000 := by rw [bs_size, List.length_append, List.length_take]; omega
  have hz5 : (bs (Pst.mid s.data.toList a a (Pst.refS x.data.toList true true n))).size = (Pst.mid s.data.toList a a (Pst.refS x.data.toList true true n)).length := bs_size _
  have hle := Pst.refS_over hf
  rw [data_len] at hle
  have hTe : Pst.mid s.data.toList a a (Pst.refS x.data.toList true true n) = Pst.putT s.data.toList p x.data.toList true true n := by rw [Pst.putT, ha, Int.toNat_natCast, (Pst.refS_fit (s := s.data.toList) (by rw [data_len]; exact hle)).2]
  rw [hTe] at e4 hz5 hml
  have t1 : decide ((4096 : Int) < ((bs (Pst.putT s.data.toList p x.data.toList true true n)).size : Int)) = false := decide_eq_false (by omega)
  have t2 : ¬ 4096 < (bs (Pst.putT s.data.toList p x.data.toList true true n)).size := by omega
  have F0 := fun w => ref4_First (bs (Pst.putT s.data.toList p x.data.toList true true n)) (k : Int) (by omega) w
  rw [bs_toList] at F0
  have F1 := Lib.hid F0
  have hP : Pst.putP s.data.toList p x.data.toList true true n = Line.first (Pst.putT s.data.toList p x.data.toList true true n) (k : Int) := by rw [Pst.putP, if_pos rfl, if_pos rfl, hk]
  rw [hP]
  generalize Line.first (Pst.putT s.data.toList p x.data.toList true true n) (k : Int) = z at *
  have w1 : IntKind.i64.wrap ((k : Int) + 1) = (k : Int) + 1 := by rw [IntKind.wrap_i64]; omega
  generalize bs (Pst.putT s.data.toList p x.data.toList true true n) = U at *
  generalize bs (s.data.toList.take a ++ Pst.refS x.data.toList true true n) = G at *
  generalize bs (Pst.refS x.data.toList true true n) = SS at *
  generalize bs (s.data.toList.take a) = Y1 at *
  generalize bs (s.data.toList.drop a) = Y2 at *
  have q1 : ¬ 9223372036854775807 < RP.size + (⟨#[10]⟩ : ByteArray).size := by have : (⟨#[10]⟩ : ByteArray).size = 1 := rfl; omega
  have q2 : ¬ 9223372036854775807 < (⟨#[10]⟩ : ByteArray).size + RP.size := by have : (⟨#[10]⟩ : ByteArray).size = 1 := rfl; omega
  have q3 : ¬ 9223372036854775807 < RP.size + 1 := by omega
  have q4 : ¬ 9223372036854775807 < 1 + RP.size := by omega
  have q5 : ¬ 9223372036854775807 < Y1.size + SS.size := by omega
  have q6 : ¬ 9223372036854775807 < G.size + Y2.size := by omega
  have d1 : (0 : Int) ≤ (a : Int) := by omega
  have d2 : (a : Int) ≤ (s.size : Int) := by omega
  have K := GBox.new w nm true x
  obtain ⟨c1, c2⟩ := K.cells
  clear P0 V0 h hv hf hn hxs hs hpp hy h1 h2 h3 hk hst hsp hkl hll O0 ha hal hap hS hspot S0 R0 hrp hml hz1 hz2 hz3 hz4 hz5 hle hTe F0 hP hrz
  go_enter Try.func9, Try.ntmps9
  go_wp2_with (first
    | (go_at_call 23; (with_reducible refine (P1.out _).mono ?_); rintro e u ⟨rfl, hbn⟩; (first | replace K := K.on hbn | replace K := K.ond hbn); clear hbn; clear c1 c2; obtain ⟨c1, c2⟩ := K.cells)
    | (go_at_call 24; (with_reducible refine (V1.out _).mono ?_); rintro e u ⟨rfl, hbn⟩; (first | replace K := K.on hbn | replace K := K.ond hbn); clear hbn; clear c1 c2; obtain ⟨c1, c2⟩ := K.cells)
    | (go_at_call 25; (with_reducible refine (O1.out _).mono ?_); rintro e u ⟨rfl, hbn⟩; (first | replace K := K.on hbn | replace K := K.ond hbn); clear hbn; clear c1 c2; obtain ⟨c1, c2⟩ := K.cells)
    | (go_at_call 26; (with_reducible refine (S1.out _).mono ?_); rintro e u ⟨rfl, hbn⟩; (first | replace K := K.on hbn | replace K := K.ond hbn); clear hbn; clear c1 c2; obtain ⟨c1, c2⟩ := K.cells)
    | (go_at_call 27; (with_reducible refine (R1.out _).mono ?_); rintro e u ⟨rfl, rfl⟩))
  go_region
  all_goals replace K := K.drew
  all_goals (clear c1 c2; obtain ⟨c1, c2⟩ := K.cells)
  all_goals (go_wp2_with (first
    | (go_at_call 31; (with_reducible refine (F1.out _).mono ?_); rintro e u ⟨rfl, hbn⟩; (first | replace K := K.on hbn | replace K := K.ond hbn); clear hbn; clear c1 c2; obtain ⟨c1, c2⟩ := K.cells)))
  all_goals go_ret3
  all_goals exact ⟨rfl, K.below⟩
set_option maxHeartbeats 2000000 in
set_option maxRecDepth 100000 in
theorem ref24_Put_ahead_full_room (s : ByteArray) (p nm : Int) (x : ByteArray) (n : Int) (hs : s.size ≤ 100000000) (hxs : x.size ≤ 10000000) (hn : n ≤ 9223372036854775807) (h : Utf.place s.data.toList p = true) (hv : Utf.valid x.data.toList = true) (e0 : x.toList.isEmpty = false) (hf : ¬ Pst.fits s.data.toList x.data.toList true true n) (w : World) :
    Calls Try.prog 9 #[.string s, .int .i64 p, .agg #[.int .i64 nm, .bool true, .string x], .bool true, .int .i64 n] w fun e w' => e = .returned (Pst.val (Pst.no 8)) ∧ Below w.heap.size w w' := by
  rw [Pst.val_no]
  have P0 := fun w => ref_Place s p (by omega) w
  rw [h] at P0
  have P1 := Lib.hid P0
  have V0 := fun w => ref_Valid x (by omega) w
  rw [hv] at V0
  have V1 := Lib.hid V0
  obtain ⟨a0, k, y, hpp, hy, h1, h2, h3, hk, hst, hsp⟩ := Line.place_line h
  have hkl := (List.getElem?_eq_some_iff.1 hy).1
  have hll := Line.L_length s.data.toList
  rw [data_len] at h3 hll
  have O0 := fun w => ref4_Of s p (by omega) w
  rw [hk] at O0
  have O1 := Lib.hid O0
  obtain ⟨a, ha, hal, hap⟩ := Pst.spot_place h true true
  rw [data_len] at hal
  have hS := Pst.refS_length x.data.toList true true n
  rw [data_len] at hS
  have hspot : Pst.spot s.data.toList p true true = Line.start s.data.toList k := by rw [Pst.spot, if_pos rfl, if_pos rfl, hk]
  rw [ha] at hspot
  have S0 := fun w => ref4_Start s (k : Int) (by omega) w
  rw [← hspot] at S0
  have S1 := Lib.hid S0
  have R0 := fun w => ref24_rep x ⟨#[10]⟩ n (by omega) (by decide) hn w
  have hrp := Pst.rp_length x.data.toList [10] (Pst.often n - 1)
  rw [List.length_singleton, data_len] at hrp
  have E1 : bs (Pst.rp x.data.toList [10] (Pst.often n - 1)) ++ (⟨#[10]⟩ : ByteArray) = bs (Pst.refS x.data.toList true true n) := by
    rw [Pst.refS, if_pos rfl, if_pos rfl]
    exact bs_append _ [10]
  rw [show (⟨#[10]⟩ : ByteArray).data.toList = [10] from rfl] at R0
  have R1 := Lib.hid R0
  have hrz : (bs (Pst.rp x.data.toList [10] (Pst.often n - 1))).size ≤ 10010000 := by rw [bs_size]; omega
  generalize bs (Pst.rp x.data.toList [10] (Pst.often n - 1)) = RP at *
  have hml := Pst.mid_length (s := s.data.toList) (Pst.refS x.data.toList true true n) (Nat.le_refl a) (by rw [data_len]; exact hal)
  rw [data_len] at hml
  have e1 := extract_to s a
  have e2 := extract_from s a
  have e3 : bs (s.data.toList.take a) ++ bs (Pst.refS x.data.toList true true n) = bs (s.data.toList.take a ++ Pst.refS x.data.toList true true n) := bs_append _ _
  have e4 : bs (s.data.toList.take a ++ Pst.refS x.data.toList true true n) ++ bs (s.data.toList.drop a) = bs (Pst.mid s.data.toList a a (Pst.refS x.data.toList true true n)) := by rw [bs_append, Pst.mid, List.append_assoc]
  have hz1 : (bs (s.data.toList.take a)).size ≤ s.size := by rw [bs_size, List.length_take]; omega
  have hz2 : (bs (s.data.toList.drop a)).size ≤ s.size := by rw [bs_size, List.length_drop, data_len]; omega
  have hz3 : (bs (Pst.refS x.data.toList true true n)).size ≤ 10010000 := by rw [bs_size]; omega
  have hz4 : (bs (s.data.toList.take a ++ Pst.refS x.data.toList true true n)).size ≤ s.size + 10010000 := by rw [bs_size, List.length_append, List.length_take]; omega
  have hz5 : (bs (Pst.mid s.data.toList a a (Pst.refS x.data.toList true true n))).size = (Pst.mid s.data.toList a a (Pst.refS x.data.toList true true n)).length := bs_size _
  have hle : ¬ s.data.toList.length + (Pst.refS x.data.toList true true n).length ≤ 4096 := fun e => hf (Pst.refS_fit e).1
  rw [data_len] at hle
  have t1 : decide ((4096 : Int) < ((bs (Pst.mid s.data.toList a a (Pst.refS x.data.toList true true n))).size : Int)) = true := decide_eq_true (by omega)
  have t2 : 4096 < (bs (Pst.mid s.data.toList a a (Pst.refS x.data.toList true true n))).size := by omega
  generalize bs (Pst.mid s.data.toList a a (Pst.refS x.data.toList true true n)) = U at *
  generalize bs (s.data.toList.take a ++ Pst.refS x.data.toList true true n) = G at *
  generalize bs (Pst.refS x.data.toList true true n) = SS at *
  generalize bs (s.data.toList.take a) = Y1 at *
  generalize bs (s.data.toList.drop a) = Y2 at *
  have q1 : ¬ 9223372036854775807 < RP.size + (⟨#[10]⟩ : ByteArray).size := by have : (⟨#[10]⟩ : ByteArray).size = 1 := rfl; omega
  have q2 : ¬ 9223372036854775807 < (⟨#[10]⟩ : ByteArray).size + RP.size := by have : (⟨#[10]⟩ : ByteArray).size = 1 := rfl; omega
  have q3 : ¬ 9223372036854775807 < RP.size + 1 := by omega
  have q4 : ¬ 9223372036854775807 < 1 + RP.size := by omega
  have q5 : ¬ 9223372036854775807 < Y1.size + SS.size := by omega
  have q6 : ¬ 9223372036854775807 < G.size + Y2.size := by omega
  have d1 : (0 : Int) ≤ (a : Int) := by omega
  have d2 : (a : Int) ≤ (s.size : Int) := by omega
  have K := GBox.new w nm true x
  obtain ⟨c1, c2⟩ := K.cells
  clear P0 V0 h hv hf hn hxs hs hpp hy h1 h2 h3 hk hst hsp hkl hll O0 ha hal hap hS hspot S0 R0 hrp hml hz1 hz2 hz3 hz4 hz5 hle hrz
  go_enter Try.func9, Try.ntmps9
  go_wp2_with (first
    | (go_at_call 23; (with_reducible refine (P1.out _).mono ?_); rintro e u ⟨rfl, hbn⟩; (first | replace K := K.on hbn | replace K := K.ond hbn); clear hbn; clear c1 c2; obtain ⟨c1, c2⟩ := K.cells)
    | (go_at_call 24; (with_reducible refine (V1.out _).mono ?_); rintro e u ⟨rfl, hbn⟩; (first | replace K := K.on hbn | replace K := K.ond hbn); clear hbn; clear c1 c2; obtain ⟨c1, c2⟩ := K.cells)
    | (go_at_call 25; (with_reducible refine (O1.out _).mono ?_); rintro e u ⟨rfl, hbn⟩; (first | replace K := K.on hbn | replace K := K.ond hbn); clear hbn; clear c1 c2; obtain ⟨c1, c2⟩ := K.cells)
    | (go_at_call 26; (with_reducible refine (S1.out _).mono ?_); rintro e u ⟨rfl, hbn⟩; (first | replace K := K.on hbn | replace K := K.ond hbn); clear hbn; clear c1 c2; obtain ⟨c1, c2⟩ := K.cells)
    | (go_at_call 27; (with_reducible refine (R1.out _).mono ?_); rintro e u ⟨rfl, rfl⟩))
  go_region
  all_goals replace K := K.drew
  all_goals (clear c1 c2; obtain ⟨c1, c2⟩ := K.cells)
  all_goals go_wp2
  all_goals go_ret3
  all_goals exact ⟨rfl, K.below⟩
set_option maxHeartbeats 2000000 in
set_option maxRecDepth 100000 in
theorem ref24_Put_ahead_full_ok (s : ByteArray) (p nm : Int) (x : ByteArray) (n : Int) (hs : s.size ≤ 100000000) (hxs : x.size ≤ 10000000) (hn : n ≤ 9223372036854775807) (h : Utf.place s.data.toList p = true) (hv : Utf.valid x.data.toList = true) (e0 : x.toList.isEmpty = false) (hf : Pst.fits s.data.toList x.data.toList true true n) (w : World) :
    Calls Try.prog 9 #[.string s, .int .i64 p, .agg #[.int .i64 nm, .bool true, .string x], .bool true, .int .i64 n] w fun e w' => e = .returned (Pst.val (Pst.putT s.data.toList p x.data.toList true true n, Pst.putP s.data.toList p x.data.toList true true n, 0)) ∧ Below w.heap.size w w' := by
  rw [Pst.val_mk]
  have P0 := fun w => ref_Place s p (by omega) w
  rw [h] at P0
  have P1 := Lib.hid P0
  have V0 := fun w => ref_Valid x (by omega) w
  rw [hv] at V0
  have V1 := Lib.hid V0
  obtain ⟨a0, k, y, hpp, hy, h1, h2, h3, hk, hst, hsp⟩ := Line.place_line h
  have hkl := (List.getElem?_eq_some_iff.1 hy).1
  have hll := Line.L_length s.data.toList
  rw [data_len] at h3 hll
  have O0 := fun w => ref4_Of s p (by omega) w
  rw [hk] at O0
  have O1 := Lib.hid O0
  obtain ⟨a, ha, hal, hap⟩ := Pst.spot_place h true true
  rw [data_len] at hal
  have hS := Pst.refS_length x.data.toList true true n
  rw [data_len] at hS
  have hspot : Pst.spot s.data.toList p true true = Line.start s.data.toList k := by rw [Pst.spot, if_pos rfl, if_pos rfl, hk]
  rw [ha] at hspot
  have S0 := fun w => ref4_Start s (k : Int) (by omega) w
  rw [← hspot] at S0
  have S1 := Lib.hid S0
  have R0 := fun w => ref24_rep x ⟨#[10]⟩ n (by omega) (by decide) hn w
  have hrp := Pst.rp_length x.data.toList [10] (Pst.often n - 1)
  rw [List.length_singleton, data_len] at hrp
  have E1 : bs (Pst.rp x.data.toList [10] (Pst.often n - 1)) ++ (⟨#[10]⟩ : ByteArray) = bs (Pst.refS x.data.toList true true n) := by
    rw [Pst.refS, if_pos rfl, if_pos rfl]
    exact bs_append _ [10]
  rw [show (⟨#[10]⟩ : ByteArray).data.toList = [10] from rfl] at R0
  have R1 := Lib.hid R0
  have hrz : (bs (Pst.rp x.data.toList [10] (Pst.often n - 1))).size ≤ 10010000 := by rw [bs_size]; omega
  generalize bs (Pst.rp x.data.toList [10] (Pst.often n - 1)) = RP at *
  have hml := Pst.mid_length (s := s.data.toList) (Pst.refS x.data.toList true true n) (Nat.le_refl a) (by rw [data_len]; exact hal)
  rw [data_len] at hml
  have e1 := extract_to s a
  have e2 := extract_from s a
  have e3 : bs (s.data.toList.take a) ++ bs (Pst.refS x.data.toList true true n) = bs (s.data.toList.take a ++ Pst.refS x.data.toList true true n) := bs_append _ _
  have e4 : bs (s.data.toList.take a ++ Pst.refS x.data.toList true true n) ++ bs (s.data.toList.drop a) = bs (Pst.mid s.data.toList a a (Pst.refS x.data.toList true true n)) := by rw [bs_append, Pst.mid, List.append_assoc]
  have hz1 : (bs (s.data.toList.take a)).size ≤ s.size := by rw [bs_size, List.length_take]; omega
  have hz2 : (bs (s.data.toList.drop a)).size ≤ s.size := by rw [bs_size, List.length_drop, data_len]; omega
  have hz3 : (bs (Pst.refS x.data.toList true true n)).size ≤ 10010000 := by rw [bs_size]; omega
  have hz4 : (bs (s.data.toList.take a ++ Pst.refS x.data.toList true true n)).size ≤ s.size + 10010000 := by rw [bs_size, List.length_append, List.length_take]; omega
  have hz5 : (bs (Pst.mid s.data.toList a a (Pst.refS x.data.toList true true n))).size = (Pst.mid s.data.toList a a (Pst.refS x.data.toList true true n)).length := bs_size _
  have hle := Pst.refS_over hf
  rw [data_len] at hle
  have hTe : Pst.mid s.data.toList a a (Pst.refS x.data.toList true true n) = Pst.putT s.data.toList p x.data.toList true true n := by rw [Pst.putT, ha, Int.toNat_natCast, (Pst.refS_fit (s := s.data.toList) (by rw [data_len]; exact hle)).2]
  rw [hTe] at e4 hz5 hml
  have t1 : decide ((4096 : Int) < ((bs (Pst.putT s.data.toList p x.data.toList true true n)).size : Int)) = false := decide_eq_false (by omega)
  have t2 : ¬ 4096 < (bs (Pst.putT s.data.toList p x.data.toList true true n)).size := by omega
  have F0 := fun w => ref4_First (bs (Pst.putT s.data.toList p x.data.toList true true n)) (k : Int) (by omega) w
  rw [bs_toList] at F0
  have F1 := Lib.hid F0
  have hP : Pst.putP s.data.toList p x.data.toList true true n = Line.first (Pst.putT s.data.toList p x.data.toList true true n) (k : Int) := by rw [Pst.putP, if_pos rfl, if_pos rfl, hk]
  rw [hP]
  generalize Line.first (Pst.putT s.data.toList p x.data.toList true true n) (k : Int) = z at *
  have w1 : IntKind.i64.wrap ((k : Int) + 1) = (k : Int) + 1 := by rw [IntKind.wrap_i64]; omega
  generalize bs (Pst.putT s.data.toList p x.data.toList true true n) = U at *
  generalize bs (s.data.toList.take a ++ Pst.refS x.data.toList true true n) = G at *
  generalize bs (Pst.refS x.data.toList true true n) = SS at *
  generalize bs (s.data.toList.take a) = Y1 at *
  generalize bs (s.data.toList.drop a) = Y2 at *
  have q1 : ¬ 9223372036854775807 < RP.size + (⟨#[10]⟩ : ByteArray).size := by have : (⟨#[10]⟩ : ByteArray).size = 1 := rfl; omega
  have q2 : ¬ 9223372036854775807 < (⟨#[10]⟩ : ByteArray).size + RP.size := by have : (⟨#[10]⟩ : ByteArray).size = 1 := rfl; omega
  have q3 : ¬ 9223372036854775807 < RP.size + 1 := by omega
  have q4 : ¬ 9223372036854775807 < 1 + RP.size := by omega
  have q5 : ¬ 9223372036854775807 < Y1.size + SS.size := by omega
  have q6 : ¬ 9223372036854775807 < G.size + Y2.size := by omega
  have d1 : (0 : Int) ≤ (a : Int) := by omega
  have d2 : (a : Int) ≤ (s.size : Int) := by omega
  have K := GBox.new w nm true x
  obtain ⟨c1, c2⟩ := K.cells
  clear P0 V0 h hv hf hn hxs hs hpp hy h1 h2 h3 hk hst hsp hkl hll O0 ha hal hap hS hspot S0 R0 hrp hml hz1 hz2 hz3 hz4 hz5 hle hTe F0 hP hrz
  go_enter Try.func9, Try.ntmps9
  go_wp2_with (first
    | (go_at_call 23; (with_reducible refine (P1.out _).mono ?_); rintro e u ⟨rfl, hbn⟩; (first | replace K := K.on hbn | replace K := K.ond hbn); clear hbn; clear c1 c2; obtain ⟨c1, c2⟩ := K.cells)
    | (go_at_call 24; (with_reducible refine (V1.out _).mono ?_); rintro e u ⟨rfl, hbn⟩; (first | replace K := K.on hbn | replace K := K.ond hbn); clear hbn; clear c1 c2; obtain ⟨c1, c2⟩ := K.cells)
    | (go_at_call 25; (with_reducible refine (O1.out _).mono ?_); rintro e u ⟨rfl, hbn⟩; (first | replace K := K.on hbn | replace K := K.ond hbn); clear hbn; clear c1 c2; obtain ⟨c1, c2⟩ := K.cells)
    | (go_at_call 26; (with_reducible refine (S1.out _).mono ?_); rintro e u ⟨rfl, hbn⟩; (first | replace K := K.on hbn | replace K := K.ond hbn); clear hbn; clear c1 c2; obtain ⟨c1, c2⟩ := K.cells)
    | (go_at_call 27; (with_reducible refine (R1.out _).mono ?_); rintro e u ⟨rfl, rfl⟩))
  go_region
  all_goals replace K := K.drew
  all_goals (clear c1 c2; obtain ⟨c1, c2⟩ := K.cells)
  all_goals (go_wp2_with (first
    | (go_at_call 31; (with_reducible refine (F1.out _).mono ?_); rintro e u ⟨rfl, hbn⟩; (first | replace K := K.on hbn | replace K := K.ond hbn); clear hbn; clear c1 c2; obtain ⟨c1, c2⟩ := K.cells)))
  all_goals go_ret3
  all_goals exact ⟨rfl, K.below⟩
set_option maxHeartbeats 2000000 in
set_option maxRecDepth 100000 in
theorem ref24_Put_behind_void_room (s : ByteArray) (p nm : Int) (x : ByteArray) (n : Int) (hs : s.size ≤ 100000000) (hxs : x.size ≤ 10000000) (hn : n ≤ 9223372036854775807) (h : Utf.place s.data.toList p = true) (hv : Utf.valid x.data.toList = true) (e0 : x.toList.isEmpty = true) (hf : ¬ Pst.fits s.data.toList x.data.toList true false n) (w : World) :
    Calls Try.prog 9 #[.string s, .int .i64 p, .agg #[.int .i64 nm, .bool true, .string x], .bool false, .int .i64 n] w fun e w' => e = .returned (Pst.val (Pst.no 8)) ∧ Below w.heap.size w w' := by
  rw [Pst.val_no]
  have P0 := fun w => ref_Place s p (by omega) w
  rw [h] at P0
  have P1 := Lib.hid P0
  have V0 := fun w => ref_Valid x (by omega) w
  rw [hv] at V0
  have V1 := Lib.hid V0
  obtain ⟨a0, k, y, hpp, hy, h1, h2, h3, hk, hst, hsp⟩ := Line.place_line h
  have hkl := (List.getElem?_eq_some_iff.1 hy).1
  have hll := Line.L_length s.data.toList
  rw [data_len] at h3 hll
  have O0 := fun w => ref4_Of s p (by omega) w
  rw [hk] at O0
  have O1 := Lib.hid O0
  obtain ⟨a, ha, hal, hap⟩ := Pst.spot_place h true false
  rw [data_len] at hal
  have hS := Pst.refS_length x.data.toList true false n
  rw [data_len] at hS
  have hspot : Pst.spot s.data.toList p true false = Line.stop s.data.toList k := by rw [Pst.spot, if_pos rfl, if_neg (by decide), hk]
  rw [ha] at hspot
  have S0 := fun w => ref4_End s (k : Int) (by omega) w
  rw [← hspot] at S0
  have S1 := Lib.hid S0
  have R0 := fun w => ref24_rep x ⟨#[10]⟩ n (by omega) (by decide) hn w
  have hrp := Pst.rp_length x.data.toList [10] (Pst.often n - 1)
  rw [List.length_singleton, data_len] at hrp
  have E1 : (⟨#[10]⟩ : ByteArray) ++ bs (Pst.rp x.data.toList [10] (Pst.often n - 1)) = bs (Pst.refS x.data.toList true false n) := by
    rw [Pst.refS, if_pos rfl, if_neg (by decide)]
    exact bs_append [10] _
  rw [show (⟨#[10]⟩ : ByteArray).data.toList = [10] from rfl] at R0
  have R1 := Lib.hid R0
  have hrz : (bs (Pst.rp x.data.toList [10] (Pst.often n - 1))).size ≤ 10010000 := by rw [bs_size]; omega
  generalize bs (Pst.rp x.data.toList [10] (Pst.often n - 1)) = RP at *
  have hml := Pst.mid_length (s := s.data.toList) (Pst.refS x.data.toList true false n) (Nat.le_refl a) (by rw [data_len]; exact hal)
  rw [data_len] at hml
  have e1 := extract_to s a
  have e2 := extract_from s a
  have e3 : bs (s.data.toList.take a) ++ bs (Pst.refS x.data.toList true false n) = bs (s.data.toList.take a ++ Pst.refS x.data.toList true false n) := bs_append _ _
  have e4 : bs (s.data.toList.take a ++ Pst.refS x.data.toList true false n) ++ bs (s.data.toList.drop a) = bs (Pst.mid s.data.toList a a (Pst.refS x.data.toList true false n)) := by rw [bs_append, Pst.mid, List.append_assoc]
  have hz1 : (bs (s.data.toList.take a)).size ≤ s.size := by rw [bs_size, List.length_take]; omega
  have hz2 : (bs (s.data.toList.drop a)).size ≤ s.size := by rw [bs_size, List.length_drop, data_len]; omega
  have hz3 : (bs (Pst.refS x.data.toList true false n)).size ≤ 10010000 := by rw [bs_size]; omega
  have hz4 : (bs (s.data.toList.take a ++ Pst.refS x.data.toList true false n)).size ≤ s.size + 10010000 := by rw [bs_size, List.length_append, List.length_take]; omega
  have hz5 : (bs (Pst.mid s.data.toList a a (Pst.refS x.data.toList true false n))).size = (Pst.mid s.data.toList a a (Pst.refS x.data.toList true false n)).length := bs_size _
  have hle : ¬ s.data.toList.length + (Pst.refS x.data.toList true false n).length ≤ 4096 := fun e => hf (Pst.refS_fit e).1
  rw [data_len] at hle
  have t1 : decide ((4096 : Int) < ((bs (Pst.mid s.data.toList a a (Pst.refS x.data.toList true false n))).size : Int)) = true := decide_eq_true (by omega)
  have t2 : 4096 < (bs (Pst.mid s.data.toList a a (Pst.refS x.data.toList true false n))).size := by omega
  generalize bs (Pst.mid s.data.toList a a (Pst.refS x.data.toList true false n)) = U at *
  generalize bs (s.data.toList.take a ++ Pst.refS x.data.toList true false n) = G at *
  generalize bs (Pst.refS x.data.toList true false n) = SS at *
  generalize bs (s.data.toList.take a) = Y1 at *
  generalize bs (s.data.toList.drop a) = Y2 at *
  have q1 : ¬ 9223372036854775807 < RP.size + (⟨#[10]⟩ : ByteArray).size := by have : (⟨#[10]⟩ : ByteArray).size = 1 := rfl; omega
  have q2 : ¬ 9223372036854775807 < (⟨#[10]⟩ : ByteArray).size + RP.size := by have : (⟨#[10]⟩ : ByteArray).size = 1 := rfl; omega
  have q3 : ¬ 9223372036854775807 < RP.size + 1 := by omega
  have q4 : ¬ 9223372036854775807 < 1 + RP.size := by omega
  have q5 : ¬ 9223372036854775807 < Y1.size + SS.size := by omega
  have q6 : ¬ 9223372036854775807 < G.size + Y2.size := by omega
  have d1 : (0 : Int) ≤ (a : Int) := by omega
  have d2 : (a : Int) ≤ (s.size : Int) := by omega
  have K := GBox.new w nm true x
  obtain ⟨c1, c2⟩ := K.cells
  clear P0 V0 h hv hf hn hxs hs hpp hy h1 h2 h3 hk hst hsp hkl hll O0 ha hal hap hS hspot S0 R0 hrp hml hz1 hz2 hz3 hz4 hz5 hle hrz
  go_enter Try.func9, Try.ntmps9
  go_wp2_with (first
    | (go_at_call 23; (with_reducible refine (P1.out _).mono ?_); rintro e u ⟨rfl, hbn⟩; (first | replace K := K.on hbn | replace K := K.ond hbn); clear hbn; clear c1 c2; obtain ⟨c1, c2⟩ := K.cells)
    | (go_at_call 24; (with_reducible refine (V1.out _).mono ?_); rintro e u ⟨rfl, hbn⟩; (first | replace K := K.on hbn | replace K := K.ond hbn); clear hbn; clear c1 c2; obtain ⟨c1, c2⟩ := K.cells)
    | (go_at_call 25; (with_reducible refine (O1.out _).mono ?_); rintro e u ⟨rfl, hbn⟩; (first | replace K := K.on hbn | replace K := K.ond hbn); clear hbn; clear c1 c2; obtain ⟨c1, c2⟩ := K.cells)
    | (go_at_call 28; (with_reducible refine (S1.out _).mono ?_); rintro e u ⟨rfl, hbn⟩; (first | replace K := K.on hbn | replace K := K.ond hbn); clear hbn; clear c1 c2; obtain ⟨c1, c2⟩ := K.cells)
    | (go_at_call 27; (with_reducible refine (R1.out _).mono ?_); rintro e u ⟨rfl, rfl⟩))
  go_region
  all_goals replace K := K.drew
  all_goals (clear c1 c2; obtain ⟨c1, c2⟩ := K.cells)
  all_goals go_wp2
  all_goals go_ret3
  all_goals exact ⟨rfl, K.below⟩
set_option maxHeartbeats 2000000 in
set_option maxRecDepth 100000 in
theorem ref24_Put_behind_void_ok (s : ByteArray) (p nm : Int) (x : ByteArray) (n : Int) (hs : s.size ≤ 100000000) (hxs : x.size ≤ 10000000) (hn : n ≤ 9223372036854775807) (h : Utf.place s.data.toList p = true) (hv : Utf.valid x.data.toList = true) (e0 : x.toList.isEmpty = true) (hf : Pst.fits s.data.toList x.data.toList true false n) (w : World) :
    Calls Try.prog 9 #[.string s, .int .i64 p, .agg #[.int .i64 nm, .bool true, .string x], .bool false, .int .i64 n] w fun e w' => e = .returned (Pst.val (Pst.putT s.data.toList p x.data.toList true false n, Pst.putP s.data.toList p x.data.toList true false n, 0)) ∧ Below w.heap.size w w' := by
  rw [Pst.val_mk]
  have P0 := fun w => ref_Place s p (by omega) w
  rw [h] at P0
  have P1 := Lib.hid P0
  have V0 := fun w => ref_Valid x (by omega) w
  rw [hv] at V0
  have V1 := Lib.hid V0
  obtain ⟨a0, k, y, hpp, hy, h1, h2, h3, hk, hst, hsp⟩ := Line.place_line h
  have hkl := (List.getElem?_eq_some_iff.1 hy).1
  have hll := Line.L_length s.data.toList
  rw [data_len] at h3 hll
  have O0 := fun w => ref4_Of s p (by omega) w
  rw [hk] at O0
  have O1 := Lib.hid O0
  obtain ⟨a, ha, hal, hap⟩ := Pst.spot_place h true false
  rw [data_len] at hal
  have hS := Pst.refS_length x.data.toList true false n
  rw [data_len] at hS
  have hspot : Pst.spot s.data.toList p true false = Line.stop s.data.toList k := by rw [Pst.spot, if_pos rfl, if_neg (by decide), hk]
  rw [ha] at hspot
  have S0 := fun w => ref4_End s (k : Int) (by omega) w
  rw [← hspot] at S0
  have S1 := Lib.hid S0
  have R0 := fun w => ref24_rep x ⟨#[10]⟩ n (by omega) (by decide) hn w
  have hrp := Pst.rp_length x.data.toList [10] (Pst.often n - 1)
  rw [List.length_singleton, data_len] at hrp
  have E1 : (⟨#[10]⟩ : ByteArray) ++ bs (Pst.rp x.data.toList [10] (Pst.often n - 1)) = bs (Pst.refS x.data.toList true false n) := by
    rw [Pst.refS, if_pos rfl, if_neg (by decide)]
    exact bs_append [10] _
  rw [show (⟨#[10]⟩ : ByteArray).data.toList = [10] from rfl] at R0
  have R1 := Lib.hid R0
  have hrz : (bs (Pst.rp x.data.toList [10] (Pst.often n - 1))).size ≤ 10010000 := by rw [bs_size]; omega
  generalize bs (Pst.rp x.data.toList [10] (Pst.often n - 1)) = RP at *
  have hml := Pst.mid_length (s := s.data.toList) (Pst.refS x.data.toList true false n) (Nat.le_refl a) (by rw [data_len]; exact hal)
  rw [data_len] at hml
  have e1 := extract_to s a
  have e2 := extract_from s a
  have e3 : bs (s.data.toList.take a) ++ bs (Pst.refS x.data.toList true false n) = bs (s.data.toList.take a ++ Pst.refS x.data.toList true false n) := bs_append _ _
  have e4 : bs (s.data.toList.take a ++ Pst.refS x.data.toList true false n) ++ bs (s.data.toList.drop a) = bs (Pst.mid s.data.toList a a (Pst.refS x.data.toList true false n)) := by rw [bs_append, Pst.mid, List.append_assoc]
  have hz1 : (bs (s.data.toList.take a)).size ≤ s.size := by rw [bs_size, List.length_take]; omega
  have hz2 : (bs (s.data.toList.drop a)).size ≤ s.size := by rw [bs_size, List.length_drop, data_len]; omega
  have hz3 : (bs (Pst.refS x.data.toList true false n)).size ≤ 10010000 := by rw [bs_size]; omega
  have hz4 : (bs (s.data.toList.take a ++ Pst.refS x.data.toList true false n)).size ≤ s.size + 10010000 := by rw [bs_size, List.length_append, List.length_take]; omega
  have hz5 : (bs (Pst.mid s.data.toList a a (Pst.refS x.data.toList true false n))).size = (Pst.mid s.data.toList a a (Pst.refS x.data.toList true false n)).length := bs_size _
  have hle := Pst.refS_over hf
  rw [data_len] at hle
  have hTe : Pst.mid s.data.toList a a (Pst.refS x.data.toList true false n) = Pst.putT s.data.toList p x.data.toList true false n := by rw [Pst.putT, ha, Int.toNat_natCast, (Pst.refS_fit (s := s.data.toList) (by rw [data_len]; exact hle)).2]
  rw [hTe] at e4 hz5 hml
  have t1 : decide ((4096 : Int) < ((bs (Pst.putT s.data.toList p x.data.toList true false n)).size : Int)) = false := decide_eq_false (by omega)
  have t2 : ¬ 4096 < (bs (Pst.putT s.data.toList p x.data.toList true false n)).size := by omega
  have F0 := fun w => ref4_First (bs (Pst.putT s.data.toList p x.data.toList true false n)) ((k : Int) + 1) (by omega) w
  rw [bs_toList] at F0
  have F1 := Lib.hid F0
  have hP : Pst.putP s.data.toList p x.data.toList true false n = Line.first (Pst.putT s.data.toList p x.data.toList true false n) ((k : Int) + 1) := by rw [Pst.putP, if_pos rfl, if_neg (by decide), hk]
  rw [hP]
  generalize Line.first (Pst.putT s.data.toList p x.data.toList true false n) ((k : Int) + 1) = z at *
  have w1 : IntKind.i64.wrap ((k : Int) + 1) = (k : Int) + 1 := by rw [IntKind.wrap_i64]; omega
  generalize bs (Pst.putT s.data.toList p x.data.toList true false n) = U at *
  generalize bs (s.data.toList.take a ++ Pst.refS x.data.toList true false n) = G at *
  generalize bs (Pst.refS x.data.toList true false n) = SS at *
  generalize bs (s.data.toList.take a) = Y1 at *
  generalize bs (s.data.toList.drop a) = Y2 at *
  have q1 : ¬ 9223372036854775807 < RP.size + (⟨#[10]⟩ : ByteArray).size := by have : (⟨#[10]⟩ : ByteArray).size = 1 := rfl; omega
  have q2 : ¬ 9223372036854775807 < (⟨#[10]⟩ : ByteArray).size + RP.size := by have : (⟨#[10]⟩ : ByteArray).size = 1 := rfl; omega
  have q3 : ¬ 9223372036854775807 < RP.size + 1 := by omega
  have q4 : ¬ 9223372036854775807 < 1 + RP.size := by omega
  have q5 : ¬ 9223372036854775807 < Y1.size + SS.size := by omega
  have q6 : ¬ 9223372036854775807 < G.size + Y2.size := by omega
  have d1 : (0 : Int) ≤ (a : Int) := by omega
  have d2 : (a : Int) ≤ (s.size : Int) := by omega
  have K := GBox.new w nm true x
  obtain ⟨c1, c2⟩ := K.cells
  clear P0 V0 h hv hf hn hxs hs hpp hy h1 h2 h3 hk hst hsp hkl hll O0 ha hal hap hS hspot S0 R0 hrp hml hz1 hz2 hz3 hz4 hz5 hle hTe F0 hP hrz
  go_enter Try.func9, Try.ntmps9
  go_wp2_with (first
    | (go_at_call 23; (with_reducible refine (P1.out _).mono ?_); rintro e u ⟨rfl, hbn⟩; (first | replace K := K.on hbn | replace K := K.ond hbn); clear hbn; clear c1 c2; obtain ⟨c1, c2⟩ := K.cells)
    | (go_at_call 24; (with_reducible refine (V1.out _).mono ?_); rintro e u ⟨rfl, hbn⟩; (first | replace K := K.on hbn | replace K := K.ond hbn); clear hbn; clear c1 c2; obtain ⟨c1, c2⟩ := K.cells)
    | (go_at_call 25; (with_reducible refine (O1.out _).mono ?_); rintro e u ⟨rfl, hbn⟩; (first | replace K := K.on hbn | replace K := K.ond hbn); clear hbn; clear c1 c2; obtain ⟨c1, c2⟩ := K.cells)
    | (go_at_call 28; (with_reducible refine (S1.out _).mono ?_); rintro e u ⟨rfl, hbn⟩; (first | replace K := K.on hbn | replace K := K.ond hbn); clear hbn; clear c1 c2; obtain ⟨c1, c2⟩ := K.cells)
    | (go_at_call 27; (with_reducible refine (R1.out _).mono ?_); rintro e u ⟨rfl, rfl⟩))
  go_region
  all_goals replace K := K.drew
  all_goals (clear c1 c2; obtain ⟨c1, c2⟩ := K.cells)
  all_goals (go_wp2_with (first
    | (go_at_call 31; (with_reducible refine (F1.out _).mono ?_); rintro e u ⟨rfl, hbn⟩; (first | replace K := K.on hbn | replace K := K.ond hbn); clear hbn; clear c1 c2; obtain ⟨c1, c2⟩ := K.cells)))
  all_goals go_ret3
  all_goals exact ⟨rfl, K.below⟩
set_option maxHeartbeats 2000000 in
set_option maxRecDepth 100000 in
theorem ref24_Put_behind_full_room (s : ByteArray) (p nm : Int) (x : ByteArray) (n : Int) (hs : s.size ≤ 100000000) (hxs : x.size ≤ 10000000) (hn : n ≤ 9223372036854775807) (h : Utf.place s.data.toList p = true) (hv : Utf.valid x.data.toList = true) (e0 : x.toList.isEmpty = false) (hf : ¬ Pst.fits s.data.toList x.data.toList true false n) (w : World) :
    Calls Try.prog 9 #[.string s, .int .i64 p, .agg #[.int .i64 nm, .bool true, .string x], .bool false, .int .i64 n] w fun e w' => e = .returned (Pst.val (Pst.no 8)) ∧ Below w.heap.size w w' := by
  rw [Pst.val_no]
  have P0 := fun w => ref_Place s p (by omega) w
  rw [h] at P0
  have P1 := Lib.hid P0
  have V0 := fun w => ref_Valid x (by omega) w
  rw [hv] at V0
  have V1 := Lib.hid V0
  obtain ⟨a0, k, y, hpp, hy, h1, h2, h3, hk, hst, hsp⟩ := Line.place_line h
  have hkl := (List.getElem?_eq_some_iff.1 hy).1
  have hll := Line.L_length s.data.toList
  rw [data_len] at h3 hll
  have O0 := fun w => ref4_Of s p (by omega) w
  rw [hk] at O0
  have O1 := Lib.hid O0
  obtain ⟨a, ha, hal, hap⟩ := Pst.spot_place h true false
  rw [data_len] at hal
  have hS := Pst.refS_length x.data.toList true false n
  rw [data_len] at hS
  have hspot : Pst.spot s.data.toList p true false = Line.stop s.data.toList k := by rw [Pst.spot, if_pos rfl, if_neg (by decide), hk]
  rw [ha] at hspot
  have S0 := fun w => ref4_End s (k : Int) (by omega) w
  rw [← hspot] at S0
  have S1 := Lib.hid S0
  have R0 := fun w => ref24_rep x ⟨#[10]⟩ n (by omega) (by decide) hn w
  have hrp := Pst.rp_length x.data.toList [10] (Pst.often n - 1)
  rw [List.length_singleton, data_len] at hrp
  have E1 : (⟨#[10]⟩ : ByteArray) ++ bs (Pst.rp x.data.toList [10] (Pst.often n - 1)) = bs (Pst.refS x.data.toList true false n) := by
    rw [Pst.refS, if_pos rfl, if_neg (by decide)]
    exact bs_append [10] _
  rw [show (⟨#[10]⟩ : ByteArray).data.toList = [10] from rfl] at R0
  have R1 := Lib.hid R0
  have hrz : (bs (Pst.rp x.data.toList [10] (Pst.often n - 1))).size ≤ 10010000 := by rw [bs_size]; omega
  generalize bs (Pst.rp x.data.toList [10] (Pst.often n - 1)) = RP at *
  have hml := Pst.mid_length (s := s.data.toList) (Pst.refS x.data.toList true false n) (Nat.le_refl a) (by rw [data_len]; exact hal)
  rw [data_len] at hml
  have e1 := extract_to s a
  have e2 := extract_from s a
  have e3 : bs (s.data.toList.take a) ++ bs (Pst.refS x.data.toList true false n) = bs (s.data.toList.take a ++ Pst.refS x.data.toList true false n) := bs_append _ _
  have e4 : bs (s.data.toList.take a ++ Pst.refS x.data.toList true false n) ++ bs (s.data.toList.drop a) = bs (Pst.mid s.data.toList a a (Pst.refS x.data.toList true false n)) := by rw [bs_append, Pst.mid, List.append_assoc]
  have hz1 : (bs (s.data.toList.take a)).size ≤ s.size := by rw [bs_size, List.length_take]; omega
  have hz2 : (bs (s.data.toList.drop a)).size ≤ s.size := by rw [bs_size, List.length_drop, data_len]; omega
  have hz3 : (bs (Pst.refS x.data.toList true false n)).size ≤ 10010000 := by rw [bs_size]; omega
  have hz4 : (bs (s.data.toList.take a ++ Pst.refS x.data.toList true false n)).size ≤ s.size + 10010000 := by rw [bs_size, List.length_append, List.length_take]; omega
  have hz5 : (bs (Pst.mid s.data.toList a a (Pst.refS x.data.toList true false n))).size = (Pst.mid s.data.toList a a (Pst.refS x.data.toList true false n)).length := bs_size _
  have hle : ¬ s.data.toList.length + (Pst.refS x.data.toList true false n).length ≤ 4096 := fun e => hf (Pst.refS_fit e).1
  rw [data_len] at hle
  have t1 : decide ((4096 : Int) < ((bs (Pst.mid s.data.toList a a (Pst.refS x.data.toList true false n))).size : Int)) = true := decide_eq_true (by omega)
  have t2 : 4096 < (bs (Pst.mid s.data.toList a a (Pst.refS x.data.toList true false n))).size := by omega
  generalize bs (Pst.mid s.data.toList a a (Pst.refS x.data.toList true false n)) = U at *
  generalize bs (s.data.toList.take a ++ Pst.refS x.data.toList true false n) = G at *
  generalize bs (Pst.refS x.data.toList true false n) = SS at *
  generalize bs (s.data.toList.take a) = Y1 at *
  generalize bs (s.data.toList.drop a) = Y2 at *
  have q1 : ¬ 9223372036854775807 < RP.size + (⟨#[10]⟩ : ByteArray).size := by have : (⟨#[10]⟩ : ByteArray).size = 1 := rfl; omega
  have q2 : ¬ 9223372036854775807 < (⟨#[10]⟩ : ByteArray).size + RP.size := by have : (⟨#[10]⟩ : ByteArray).size = 1 := rfl; omega
  have q3 : ¬ 9223372036854775807 < RP.size + 1 := by omega
  have q4 : ¬ 9223372036854775807 < 1 + RP.size := by omega
  have q5 : ¬ 9223372036854775807 < Y1.size + SS.size := by omega
  have q6 : ¬ 9223372036854775807 < G.size + Y2.size := by omega
  have d1 : (0 : Int) ≤ (a : Int) := by omega
  have d2 : (a : Int) ≤ (s.size : Int) := by omega
  have K := GBox.new w nm true x
  obtain ⟨c1, c2⟩ := K.cells
  clear P0 V0 h hv hf hn hxs hs hpp hy h1 h2 h3 hk hst hsp hkl hll O0 ha hal hap hS hspot S0 R0 hrp hml hz1 hz2 hz3 hz4 hz5 hle hrz
  go_enter Try.func9, Try.ntmps9
  go_wp2_with (first
    | (go_at_call 23; (with_reducible refine (P1.out _).mono ?_); rintro e u ⟨rfl, hbn⟩; (first | replace K := K.on hbn | replace K := K.ond hbn); clear hbn; clear c1 c2; obtain ⟨c1, c2⟩ := K.cells)
    | (go_at_call 24; (with_reducible refine (V1.out _).mono ?_); rintro e u ⟨rfl, hbn⟩; (first | replace K := K.on hbn | replace K := K.ond hbn); clear hbn; clear c1 c2; obtain ⟨c1, c2⟩ := K.cells)
    | (go_at_call 25; (with_reducible refine (O1.out _).mono ?_); rintro e u ⟨rfl, hbn⟩; (first | replace K := K.on hbn | replace K := K.ond hbn); clear hbn; clear c1 c2; obtain ⟨c1, c2⟩ := K.cells)
    | (go_at_call 28; (with_reducible refine (S1.out _).mono ?_); rintro e u ⟨rfl, hbn⟩; (first | replace K := K.on hbn | replace K := K.ond hbn); clear hbn; clear c1 c2; obtain ⟨c1, c2⟩ := K.cells)
    | (go_at_call 27; (with_reducible refine (R1.out _).mono ?_); rintro e u ⟨rfl, rfl⟩))
  go_region
  all_goals replace K := K.drew
  all_goals (clear c1 c2; obtain ⟨c1, c2⟩ := K.cells)
  all_goals go_wp2
  all_goals go_ret3
  all_goals exact ⟨rfl, K.below⟩
set_option maxHeartbeats 2000000 in
set_option maxRecDepth 100000 in
theorem ref24_Put_behind_full_ok (s : ByteArray) (p nm : Int) (x : ByteArray) (n : Int) (hs : s.size ≤ 100000000) (hxs : x.size ≤ 10000000) (hn : n ≤ 9223372036854775807) (h : Utf.place s.data.toList p = true) (hv : Utf.valid x.data.toList = true) (e0 : x.toList.isEmpty = false) (hf : Pst.fits s.data.toList x.data.toList true false n) (w : World) :
    Calls Try.prog 9 #[.string s, .int .i64 p, .agg #[.int .i64 nm, .bool true, .string x], .bool false, .int .i64 n] w fun e w' => e = .returned (Pst.val (Pst.putT s.data.toList p x.data.toList true false n, Pst.putP s.data.toList p x.data.toList true false n, 0)) ∧ Below w.heap.size w w' := by
  rw [Pst.val_mk]
  have P0 := fun w => ref_Place s p (by omega) w
  rw [h] at P0
  have P1 := Lib.hid P0
  have V0 := fun w => ref_Valid x (by omega) w
  rw [hv] at V0
  have V1 := Lib.hid V0
  obtain ⟨a0, k, y, hpp, hy, h1, h2, h3, hk, hst, hsp⟩ := Line.place_line h
  have hkl := (List.getElem?_eq_some_iff.1 hy).1
  have hll := Line.L_length s.data.toList
  rw [data_len] at h3 hll
  have O0 := fun w => ref4_Of s p (by omega) w
  rw [hk] at O0
  have O1 := Lib.hid O0
  obtain ⟨a, ha, hal, hap⟩ := Pst.spot_place h true false
  rw [data_len] at hal
  have hS := Pst.refS_length x.data.toList true false n
  rw [data_len] at hS
  have hspot : Pst.spot s.data.toList p true false = Line.stop s.data.toList k := by rw [Pst.spot, if_pos rfl, if_neg (by decide), hk]
  rw [ha] at hspot
  have S0 := fun w => ref4_End s (k : Int) (by omega) w
  rw [← hspot] at S0
  have S1 := Lib.hid S0
  have R0 := fun w => ref24_rep x ⟨#[10]⟩ n (by omega) (by decide) hn w
  have hrp := Pst.rp_length x.data.toList [10] (Pst.often n - 1)
  rw [List.length_singleton, data_len] at hrp
  have E1 : (⟨#[10]⟩ : ByteArray) ++ bs (Pst.rp x.data.toList [10] (Pst.often n - 1)) = bs (Pst.refS x.data.toList true false n) := by
    rw [Pst.refS, if_pos rfl, if_neg (by decide)]
    exact bs_append [10] _
  rw [show (⟨#[10]⟩ : ByteArray).data.toList = [10] from rfl] at R0
  have R1 := Lib.hid R0
  have hrz : (bs (Pst.rp x.data.toList [10] (Pst.often n - 1))).size ≤ 10010000 := by rw [bs_size]; omega
  generalize bs (Pst.rp x.data.toList [10] (Pst.often n - 1)) = RP at *
  have hml := Pst.mid_length (s := s.data.toList) (Pst.refS x.data.toList true false n) (Nat.le_refl a) (by rw [data_len]; exact hal)
  rw [data_len] at hml
  have e1 := extract_to s a
  have e2 := extract_from s a
  have e3 : bs (s.data.toList.take a) ++ bs (Pst.refS x.data.toList true false n) = bs (s.data.toList.take a ++ Pst.refS x.data.toList true false n) := bs_append _ _
  have e4 : bs (s.data.toList.take a ++ Pst.refS x.data.toList true false n) ++ bs (s.data.toList.drop a) = bs (Pst.mid s.data.toList a a (Pst.refS x.data.toList true false n)) := by rw [bs_append, Pst.mid, List.append_assoc]
  have hz1 : (bs (s.data.toList.take a)).size ≤ s.size := by rw [bs_size, List.length_take]; omega
  have hz2 : (bs (s.data.toList.drop a)).size ≤ s.size := by rw [bs_size, List.length_drop, data_len]; omega
  have hz3 : (bs (Pst.refS x.data.toList true false n)).size ≤ 10010000 := by rw [bs_size]; omega
  have hz4 : (bs (s.data.toList.take a ++ Pst.refS x.data.toList true false n)).size ≤ s.size + 10010000 := by rw [bs_size, List.length_append, List.length_take]; omega
  have hz5 : (bs (Pst.mid s.data.toList a a (Pst.refS x.data.toList true false n))).size = (Pst.mid s.data.toList a a (Pst.refS x.data.toList true false n)).length := bs_size _
  have hle := Pst.refS_over hf
  rw [data_len] at hle
  have hTe : Pst.mid s.data.toList a a (Pst.refS x.data.toList true false n) = Pst.putT s.data.toList p x.data.toList true false n := by rw [Pst.putT, ha, Int.toNat_natCast, (Pst.refS_fit (s := s.data.toList) (by rw [data_len]; exact hle)).2]
  rw [hTe] at e4 hz5 hml
  have t1 : decide ((4096 : Int) < ((bs (Pst.putT s.data.toList p x.data.toList true false n)).size : Int)) = false := decide_eq_false (by omega)
  have t2 : ¬ 4096 < (bs (Pst.putT s.data.toList p x.data.toList true false n)).size := by omega
  have F0 := fun w => ref4_First (bs (Pst.putT s.data.toList p x.data.toList true false n)) ((k : Int) + 1) (by omega) w
  rw [bs_toList] at F0
  have F1 := Lib.hid F0
  have hP : Pst.putP s.data.toList p x.data.toList true false n = Line.first (Pst.putT s.data.toList p x.data.toList true false n) ((k : Int) + 1) := by rw [Pst.putP, if_pos rfl, if_neg (by decide), hk]
  rw [hP]
  generalize Line.first (Pst.putT s.data.toList p x.data.toList true false n) ((k : Int) + 1) = z at *
  have w1 : IntKind.i64.wrap ((k : Int) + 1) = (k : Int) + 1 := by rw [IntKind.wrap_i64]; omega
  generalize bs (Pst.putT s.data.toList p x.data.toList true false n) = U at *
  generalize bs (s.data.toList.take a ++ Pst.refS x.data.toList true false n) = G at *
  generalize bs (Pst.refS x.data.toList true false n) = SS at *
  generalize bs (s.data.toList.take a) = Y1 at *
  generalize bs (s.data.toList.drop a) = Y2 at *
  have q1 : ¬ 9223372036854775807 < RP.size + (⟨#[10]⟩ : ByteArray).size := by have : (⟨#[10]⟩ : ByteArray).size = 1 := rfl; omega
  have q2 : ¬ 9223372036854775807 < (⟨#[10]⟩ : ByteArray).size + RP.size := by have : (⟨#[10]⟩ : ByteArray).size = 1 := rfl; omega
  have q3 : ¬ 9223372036854775807 < RP.size + 1 := by omega
  have q4 : ¬ 9223372036854775807 < 1 + RP.size := by omega
  have q5 : ¬ 9223372036854775807 < Y1.size + SS.size := by omega
  have q6 : ¬ 9223372036854775807 < G.size + Y2.size := by omega
  have d1 : (0 : Int) ≤ (a : Int) := by omega
  have d2 : (a : Int) ≤ (s.size : Int) := by omega
  have K := GBox.new w nm true x
  obtain ⟨c1, c2⟩ := K.cells
  clear P0 V0 h hv hf hn hxs hs hpp hy h1 h2 h3 hk hst hsp hkl hll O0 ha hal hap hS hspot S0 R0 hrp hml hz1 hz2 hz3 hz4 hz5 hle hTe F0 hP hrz
  go_enter Try.func9, Try.ntmps9
  go_wp2_with (first
    | (go_at_call 23; (with_reducible refine (P1.out _).mono ?_); rintro e u ⟨rfl, hbn⟩; (first | replace K := K.on hbn | replace K := K.ond hbn); clear hbn; clear c1 c2; obtain ⟨c1, c2⟩ := K.cells)
    | (go_at_call 24; (with_reducible refine (V1.out _).mono ?_); rintro e u ⟨rfl, hbn⟩; (first | replace K := K.on hbn | replace K := K.ond hbn); clear hbn; clear c1 c2; obtain ⟨c1, c2⟩ := K.cells)
    | (go_at_call 25; (with_reducible refine (O1.out _).mono ?_); rintro e u ⟨rfl, hbn⟩; (first | replace K := K.on hbn | replace K := K.ond hbn); clear hbn; clear c1 c2; obtain ⟨c1, c2⟩ := K.cells)
    | (go_at_call 28; (with_reducible refine (S1.out _).mono ?_); rintro e u ⟨rfl, hbn⟩; (first | replace K := K.on hbn | replace K := K.ond hbn); clear hbn; clear c1 c2; obtain ⟨c1, c2⟩ := K.cells)
    | (go_at_call 27; (with_reducible refine (R1.out _).mono ?_); rintro e u ⟨rfl, rfl⟩))
  go_region
  all_goals replace K := K.drew
  all_goals (clear c1 c2; obtain ⟨c1, c2⟩ := K.cells)
  all_goals (go_wp2_with (first
    | (go_at_call 31; (with_reducible refine (F1.out _).mono ?_); rintro e u ⟨rfl, hbn⟩; (first | replace K := K.on hbn | replace K := K.ond hbn); clear hbn; clear c1 c2; obtain ⟨c1, c2⟩ := K.cells)))
  all_goals go_ret3
  all_goals exact ⟨rfl, K.below⟩
set_option maxHeartbeats 2000000 in
set_option maxRecDepth 100000 in
theorem ref24_Put_front_room (s : ByteArray) (p nm : Int) (x : ByteArray) (n : Int) (hs : s.size ≤ 100000000) (hxs : x.size ≤ 10000000) (hn : n ≤ 9223372036854775807) (h : Utf.place s.data.toList p = true) (hv : Utf.valid x.data.toList = true) (h0 : x.data.toList ≠ []) (hf : ¬ Pst.fits s.data.toList x.data.toList false true n) (w : World) :
    Calls Try.prog 9 #[.string s, .int .i64 p, .agg #[.int .i64 nm, .bool false, .string x], .bool true, .int .i64 n] w fun e w' => e = .returned (Pst.val (Pst.no 8)) ∧ Below w.heap.size w w' := by
  rw [Pst.val_no]
  have P0 := fun w => ref_Place s p (by omega) w
  rw [h] at P0
  have P1 := Lib.hid P0
  have V0 := fun w => ref_Valid x (by omega) w
  rw [hv] at V0
  have V1 := Lib.hid V0
  obtain ⟨a0, k, y, hpp, hy, h1, h2, h3, hk, hst, hsp⟩ := Line.place_line h
  have hkl := (List.getElem?_eq_some_iff.1 hy).1
  have hll := Line.L_length s.data.toList
  rw [data_len] at h3 hll
  have O0 := fun w => ref4_Of s p (by omega) w
  rw [hk] at O0
  have O1 := Lib.hid O0
  obtain ⟨a, ha, hal, hap⟩ := Pst.spot_place h false true
  rw [data_len] at hal
  have hS := Pst.refS_length x.data.toList false true n
  rw [data_len] at hS
  have R0 := fun w => ref24_rep x ⟨#[]⟩ n (by omega) (by decide) hn w
  rw [show (⟨#[]⟩ : ByteArray).data.toList = [] from rfl, show Pst.rp x.data.toList [] (Pst.often n - 1) = Pst.refS x.data.toList false true n by rw [Pst.refS, if_neg (by decide)]] at R0
  have R1 := Lib.hid R0
  have e0 : x.toList.isEmpty = false := by rw [tl_data]; simpa using h0
  have hpa : Pst.spot s.data.toList p false true = p := by rw [Pst.spot, if_neg (by decide), if_pos (Or.inl rfl)]
  rw [ha] at hpa
  have hml := Pst.mid_length (s := s.data.toList) (Pst.refS x.data.toList false true n) (Nat.le_refl a) (by rw [data_len]; exact hal)
  rw [data_len] at hml
  have e1 := extract_to s a
  have e2 := extract_from s a
  have e3 : bs (s.data.toList.take a) ++ bs (Pst.refS x.data.toList false true n) = bs (s.data.toList.take a ++ Pst.refS x.data.toList false true n) := bs_append _ _
  have e4 : bs (s.data.toList.take a ++ Pst.refS x.data.toList false true n) ++ bs (s.data.toList.drop a) = bs (Pst.mid s.data.toList a a (Pst.refS x.data.toList false true n)) := by rw [bs_append, Pst.mid, List.append_assoc]
  have hz1 : (bs (s.data.toList.take a)).size ≤ s.size := by rw [bs_size, List.length_take]; omega
  have hz2 : (bs (s.data.toList.drop a)).size ≤ s.size := by rw [bs_size, List.length_drop, data_len]; omega
  have hz3 : (bs (Pst.refS x.data.toList false true n)).size ≤ 10010000 := by rw [bs_size]; omega
  have hz4 : (bs (s.data.toList.take a ++ Pst.refS x.data.toList false true n)).size ≤ s.size + 10010000 := by rw [bs_size, List.length_append, List.length_take]; omega
  have hz5 : (bs (Pst.mid s.data.toList a a (Pst.refS x.data.toList false true n))).size = (Pst.mid s.data.toList a a (Pst.refS x.data.toList false true n)).length := bs_size _
  have hle : ¬ s.data.toList.length + (Pst.refS x.data.toList false true n).length ≤ 4096 := fun e => hf (Pst.refS_fit e).1
  rw [data_len] at hle
  have t1 : decide ((4096 : Int) < ((bs (Pst.mid s.data.toList a a (Pst.refS x.data.toList false true n))).size : Int)) = true := decide_eq_true (by omega)
  have t2 : 4096 < (bs (Pst.mid s.data.toList a a (Pst.refS x.data.toList false true n))).size := by omega
  generalize bs (Pst.mid s.data.toList a a (Pst.refS x.data.toList false true n)) = U at *
  generalize bs (s.data.toList.take a ++ Pst.refS x.data.toList false true n) = G at *
  generalize bs (Pst.refS x.data.toList false true n) = SS at *
  generalize bs (s.data.toList.take a) = Y1 at *
  generalize bs (s.data.toList.drop a) = Y2 at *
  have q5 : ¬ 9223372036854775807 < Y1.size + SS.size := by omega
  have q6 : ¬ 9223372036854775807 < G.size + Y2.size := by omega
  subst hpa
  have d1 : (0 : Int) ≤ (a : Int) := by omega
  have d2 : (a : Int) ≤ (s.size : Int) := by omega
  have K := GBox.new w nm false x
  obtain ⟨c1, c2⟩ := K.cells
  clear P0 V0 h hv hf hn hxs hs hpp hy h1 h2 h3 hk hst hsp hkl hll O0 ha hal hap hS R0 h0 hml hz1 hz2 hz3 hz4 hz5 hle
  go_enter Try.func9, Try.ntmps9
  go_wp2_with (first
    | (go_at_call 23; (with_reducible refine (P1.out _).mono ?_); rintro e u ⟨rfl, hbn⟩; (first | replace K := K.on hbn | replace K := K.ond hbn); clear hbn; clear c1 c2; obtain ⟨c1, c2⟩ := K.cells)
    | (go_at_call 24; (with_reducible refine (V1.out _).mono ?_); rintro e u ⟨rfl, hbn⟩; (first | replace K := K.on hbn | replace K := K.ond hbn); clear hbn; clear c1 c2; obtain ⟨c1, c2⟩ := K.cells)
    | (go_at_call 25; (with_reducible refine (O1.out _).mono ?_); rintro e u ⟨rfl, hbn⟩; (first | replace K := K.on hbn | replace K := K.ond hbn); clear hbn; clear c1 c2; obtain ⟨c1, c2⟩ := K.cells)
    | (go_at_call 27; (with_reducible refine (R1.out _).mono ?_); rintro e u ⟨rfl, rfl⟩))
  go_region
  all_goals replace K := K.drew
  all_goals (clear c1 c2; obtain ⟨c1, c2⟩ := K.cells)
  all_goals go_wp2
  all_goals go_ret3
  all_goals exact ⟨rfl, K.below⟩
set_option maxHeartbeats 2000000 in
set_option maxRecDepth 100000 in
theorem ref24_Put_front_feed (s : ByteArray) (p nm : Int) (x : ByteArray) (n : Int) (hs : s.size ≤ 100000000) (hxs : x.size ≤ 10000000) (hn : n ≤ 9223372036854775807) (h : Utf.place s.data.toList p = true) (hv : Utf.valid x.data.toList = true) (h0 : x.data.toList ≠ []) (hf : Pst.fits s.data.toList x.data.toList false true n) (h10 : (10 : UInt8) ∈ x.data.toList) (w : World) :
    Calls Try.prog 9 #[.string s, .int .i64 p, .agg #[.int .i64 nm, .bool false, .string x], .bool true, .int .i64 n] w fun e w' => e = .returned (Pst.val (Pst.putT s.data.toList p x.data.toList false true n, Pst.putP s.data.toList p x.data.toList false true n, 0)) ∧ Below w.heap.size w w' := by
  rw [Pst.val_mk]
  have P0 := fun w => ref_Place s p (by omega) w
  rw [h] at P0
  have P1 := Lib.hid P0
  have V0 := fun w => ref_Valid x (by omega) w
  rw [hv] at V0
  have V1 := Lib.hid V0
  obtain ⟨a0, k, y, hpp, hy, h1, h2, h3, hk, hst, hsp⟩ := Line.place_line h
  have hkl := (List.getElem?_eq_some_iff.1 hy).1
  have hll := Line.L_length s.data.toList
  rw [data_len] at h3 hll
  have O0 := fun w => ref4_Of s p (by omega) w
  rw [hk] at O0
  have O1 := Lib.hid O0
  obtain ⟨a, ha, hal, hap⟩ := Pst.spot_place h false true
  rw [data_len] at hal
  have hS := Pst.refS_length x.data.toList false true n
  rw [data_len] at hS
  have R0 := fun w => ref24_rep x ⟨#[]⟩ n (by omega) (by decide) hn w
  rw [show (⟨#[]⟩ : ByteArray).data.toList = [] from rfl, show Pst.rp x.data.toList [] (Pst.often n - 1) = Pst.refS x.data.toList false true n by rw [Pst.refS, if_neg (by decide)]] at R0
  have R1 := Lib.hid R0
  have e0 : x.toList.isEmpty = false := by rw [tl_data]; simpa using h0
  have hpa : Pst.spot s.data.toList p false true = p := by rw [Pst.spot, if_neg (by decide), if_pos (Or.inl rfl)]
  rw [ha] at hpa
  have hml := Pst.mid_length (s := s.data.toList) (Pst.refS x.data.toList false true n) (Nat.le_refl a) (by rw [data_len]; exact hal)
  rw [data_len] at hml
  have e1 := extract_to s a
  have e2 := extract_from s a
  have e3 : bs (s.data.toList.take a) ++ bs (Pst.refS x.data.toList false true n) = bs (s.data.toList.take a ++ Pst.refS x.data.toList false true n) := bs_append _ _
  have e4 : bs (s.data.toList.take a ++ Pst.refS x.data.toList false true n) ++ bs (s.data.toList.drop a) = bs (Pst.mid s.data.toList a a (Pst.refS x.data.toList false true n)) := by rw [bs_append, Pst.mid, List.append_assoc]
  have hz1 : (bs (s.data.toList.take a)).size ≤ s.size := by rw [bs_size, List.length_take]; omega
  have hz2 : (bs (s.data.toList.drop a)).size ≤ s.size := by rw [bs_size, List.length_drop, data_len]; omega
  have hz3 : (bs (Pst.refS x.data.toList false true n)).size ≤ 10010000 := by rw [bs_size]; omega
  have hz4 : (bs (s.data.toList.take a ++ Pst.refS x.data.toList false true n)).size ≤ s.size + 10010000 := by rw [bs_size, List.length_append, List.length_take]; omega
  have hz5 : (bs (Pst.mid s.data.toList a a (Pst.refS x.data.toList false true n))).size = (Pst.mid s.data.toList a a (Pst.refS x.data.toList false true n)).length := bs_size _
  have hle := Pst.refS_over hf
  rw [data_len] at hle
  have hTe : Pst.mid s.data.toList a a (Pst.refS x.data.toList false true n) = Pst.putT s.data.toList p x.data.toList false true n := by rw [Pst.putT, ha, Int.toNat_natCast, (Pst.refS_fit (s := s.data.toList) (by rw [data_len]; exact hle)).2]
  rw [hTe] at e4 hz5 hml
  have t1 : decide ((4096 : Int) < ((bs (Pst.putT s.data.toList p x.data.toList false true n)).size : Int)) = false := decide_eq_false (by omega)
  have t2 : ¬ 4096 < (bs (Pst.putT s.data.toList p x.data.toList false true n)).size := by omega
  have hSe : Pst.refS x.data.toList false true n = Pst.reps (Pst.often n) x.data.toList := (Pst.refS_fit (s := s.data.toList) (by rw [data_len]; exact hle)).2
  have G0 := fun w => ref24_feed (bs (Pst.refS x.data.toList false true n)) (by rw [bs_toList, hSe]; exact Pst.valid_reps hv) (by omega) w
  rw [bs_toList, show decide ((10 : UInt8) ∈ Pst.refS x.data.toList false true n) = true by rw [hSe]; exact decide_eq_true ((Pst.mem_reps (Pst.often_pos n)).2 h10)] at G0
  have G1 := Lib.hid G0
  have F0 := fun w => ref4_Clamp (bs (Pst.putT s.data.toList p x.data.toList false true n)) p (by omega) w
  rw [bs_toList] at F0
  have F1 := Lib.hid F0
  have hP : Pst.putP s.data.toList p x.data.toList false true n = Line.clamp (Pst.putT s.data.toList p x.data.toList false true n) p := by rw [Pst.putP, if_neg (by decide), if_pos h10, ha, hpa]
  rw [hP]
  generalize Line.clamp (Pst.putT s.data.toList p x.data.toList false true n) p = z at *
  generalize bs (Pst.putT s.data.toList p x.data.toList false true n) = U at *
  generalize bs (s.data.toList.take a ++ Pst.refS x.data.toList false true n) = G at *
  generalize bs (Pst.refS x.data.toList false true n) = SS at *
  generalize bs (s.data.toList.take a) = Y1 at *
  generalize bs (s.data.toList.drop a) = Y2 at *
  have q5 : ¬ 9223372036854775807 < Y1.size + SS.size := by omega
  have q6 : ¬ 9223372036854775807 < G.size + Y2.size := by omega
  subst hpa
  have d1 : (0 : Int) ≤ (a : Int) := by omega
  have d2 : (a : Int) ≤ (s.size : Int) := by omega
  have K := GBox.new w nm false x
  obtain ⟨c1, c2⟩ := K.cells
  clear P0 V0 h hv hf hn hxs hs hpp hy h1 h2 h3 hk hst hsp hkl hll O0 ha hal hap hS R0 h0 hml hz1 hz2 hz3 hz4 hz5 hle hTe hSe G0 h10 F0 hP
  go_enter Try.func9, Try.ntmps9
  go_wp2_with (first
    | (go_at_call 23; (with_reducible refine (P1.out _).mono ?_); rintro e u ⟨rfl, hbn⟩; (first | replace K := K.on hbn | replace K := K.ond hbn); clear hbn; clear c1 c2; obtain ⟨c1, c2⟩ := K.cells)
    | (go_at_call 24; (with_reducible refine (V1.out _).mono ?_); rintro e u ⟨rfl, hbn⟩; (first | replace K := K.on hbn | replace K := K.ond hbn); clear hbn; clear c1 c2; obtain ⟨c1, c2⟩ := K.cells)
    | (go_at_call 25; (with_reducible refine (O1.out _).mono ?_); rintro e u ⟨rfl, hbn⟩; (first | replace K := K.on hbn | replace K := K.ond hbn); clear hbn; clear c1 c2; obtain ⟨c1, c2⟩ := K.cells)
    | (go_at_call 27; (with_reducible refine (R1.out _).mono ?_); rintro e u ⟨rfl, rfl⟩))
  go_region
  all_goals replace K := K.drew
  all_goals (clear c1 c2; obtain ⟨c1, c2⟩ := K.cells)
  all_goals (go_wp2_with (first
    | (go_at_call 32; (with_reducible refine (G1.out _).mono ?_); rintro e u ⟨rfl, hbn⟩; (first | replace K := K.on hbn | replace K := K.ond hbn); clear hbn; clear c1 c2; obtain ⟨c1, c2⟩ := K.cells)
    | (go_at_call 33; (with_reducible refine (F1.out _).mono ?_); rintro e u ⟨rfl, hbn⟩; (first | replace K := K.on hbn | replace K := K.ond hbn); clear hbn; clear c1 c2; obtain ⟨c1, c2⟩ := K.cells)))
  all_goals go_ret3
  all_goals exact ⟨rfl, K.below⟩
set_option maxHeartbeats 2000000 in
set_option maxRecDepth 100000 in
theorem ref24_Put_front_plain (s : ByteArray) (p nm : Int) (x : ByteArray) (n : Int) (hs : s.size ≤ 100000000) (hxs : x.size ≤ 10000000) (hn : n ≤ 9223372036854775807) (h : Utf.place s.data.toList p = true) (hv : Utf.valid x.data.toList = true) (h0 : x.data.toList ≠ []) (hf : Pst.fits s.data.toList x.data.toList false true n) (h10 : ¬ (10 : UInt8) ∈ x.data.toList) (w : World) :
    Calls Try.prog 9 #[.string s, .int .i64 p, .agg #[.int .i64 nm, .bool false, .string x], .bool true, .int .i64 n] w fun e w' => e = .returned (Pst.val (Pst.putT s.data.toList p x.data.toList false true n, Pst.putP s.data.toList p x.data.toList false true n, 0)) ∧ Below w.heap.size w w' := by
  rw [Pst.val_mk]
  have P0 := fun w => ref_Place s p (by omega) w
  rw [h] at P0
  have P1 := Lib.hid P0
  have V0 := fun w => ref_Valid x (by omega) w
  rw [hv] at V0
  have V1 := Lib.hid V0
  obtain ⟨a0, k, y, hpp, hy, h1, h2, h3, hk, hst, hsp⟩ := Line.place_line h
  have hkl := (List.getElem?_eq_some_iff.1 hy).1
  have hll := Line.L_length s.data.toList
  rw [data_len] at h3 hll
  have O0 := fun w => ref4_Of s p (by omega) w
  rw [hk] at O0
  have O1 := Lib.hid O0
  obtain ⟨a, ha, hal, hap⟩ := Pst.spot_place h false true
  rw [data_len] at hal
  have hS := Pst.refS_length x.data.toList false true n
  rw [data_len] at hS
  have R0 := fun w => ref24_rep x ⟨#[]⟩ n (by omega) (by decide) hn w
  rw [show (⟨#[]⟩ : ByteArray).data.toList = [] from rfl, show Pst.rp x.data.toList [] (Pst.often n - 1) = Pst.refS x.data.toList false true n by rw [Pst.refS, if_neg (by decide)]] at R0
  have R1 := Lib.hid R0
  have e0 : x.toList.isEmpty = false := by rw [tl_data]; simpa using h0
  have hpa : Pst.spot s.data.toList p false true = p := by rw [Pst.spot, if_neg (by decide), if_pos (Or.inl rfl)]
  rw [ha] at hpa
  have hml := Pst.mid_length (s := s.data.toList) (Pst.refS x.data.toList false true n) (Nat.le_refl a) (by rw [data_len]; exact hal)
  rw [data_len] at hml
  have e1 := extract_to s a
  have e2 := extract_from s a
  have e3 : bs (s.data.toList.take a) ++ bs (Pst.refS x.data.toList false true n) = bs (s.data.toList.take a ++ Pst.refS x.data.toList false true n) := bs_append _ _
  have e4 : bs (s.data.toList.take a ++ Pst.refS x.data.toList false true n) ++ bs (s.data.toList.drop a) = bs (Pst.mid s.data.toList a a (Pst.refS x.data.toList false true n)) := by rw [bs_append, Pst.mid, List.append_assoc]
  have hz1 : (bs (s.data.toList.take a)).size ≤ s.size := by rw [bs_size, List.length_take]; omega
  have hz2 : (bs (s.data.toList.drop a)).size ≤ s.size := by rw [bs_size, List.length_drop, data_len]; omega
  have hz3 : (bs (Pst.refS x.data.toList false true n)).size ≤ 10010000 := by rw [bs_size]; omega
  have hz4 : (bs (s.data.toList.take a ++ Pst.refS x.data.toList false true n)).size ≤ s.size + 10010000 := by rw [bs_size, List.length_append, List.length_take]; omega
  have hz5 : (bs (Pst.mid s.data.toList a a (Pst.refS x.data.toList false true n))).size = (Pst.mid s.data.toList a a (Pst.refS x.data.toList false true n)).length := bs_size _
  have hle := Pst.refS_over hf
  rw [data_len] at hle
  have hTe : Pst.mid s.data.toList a a (Pst.refS x.data.toList false true n) = Pst.putT s.data.toList p x.data.toList false true n := by rw [Pst.putT, ha, Int.toNat_natCast, (Pst.refS_fit (s := s.data.toList) (by rw [data_len]; exact hle)).2]
  rw [hTe] at e4 hz5 hml
  have t1 : decide ((4096 : Int) < ((bs (Pst.putT s.data.toList p x.data.toList false true n)).size : Int)) = false := decide_eq_false (by omega)
  have t2 : ¬ 4096 < (bs (Pst.putT s.data.toList p x.data.toList false true n)).size := by omega
  have hSe : Pst.refS x.data.toList false true n = Pst.reps (Pst.often n) x.data.toList := (Pst.refS_fit (s := s.data.toList) (by rw [data_len]; exact hle)).2
  have G0 := fun w => ref24_feed (bs (Pst.refS x.data.toList false true n)) (by rw [bs_toList, hSe]; exact Pst.valid_reps hv) (by omega) w
  rw [bs_toList, show decide ((10 : UInt8) ∈ Pst.refS x.data.toList false true n) = false by rw [hSe]; exact decide_eq_false (fun e => h10 ((Pst.mem_reps (Pst.often_pos n)).1 e))] at G0
  have G1 := Lib.hid G0
  have hsz : (bs (Pst.refS x.data.toList false true n)).size = Pst.often n * x.size := by rw [bs_size, hSe, Pst.reps_length, data_len]
  obtain ⟨M, hM⟩ : ∃ M, Pst.often n * x.size = M := ⟨_, rfl⟩
  rw [hM] at hsz
  have w2 : IntKind.i64.wrap (p + (M : Int)) = p + (M : Int) := by rw [IntKind.wrap_i64]; omega
  have F0 := fun w => ref_Prev (bs (Pst.putT s.data.toList p x.data.toList false true n)) (p + (M : Int)) (by omega) w
  rw [bs_toList] at F0
  have F1 := Lib.hid F0
  have hP : Pst.putP s.data.toList p x.data.toList false true n = Utf.prev (Pst.putT s.data.toList p x.data.toList false true n) (p + (M : Int)) := by rw [Pst.putP, if_neg (by decide), if_neg h10, ha, hpa, data_len, hM]
  rw [hP]
  generalize Utf.prev (Pst.putT s.data.toList p x.data.toList false true n) (p + (M : Int)) = z at *
  generalize bs (Pst.putT s.data.toList p x.data.toList false true n) = U at *
  generalize bs (s.data.toList.take a ++ Pst.refS x.data.toList false true n) = G at *
  generalize bs (Pst.refS x.data.toList false true n) = SS at *
  generalize bs (s.data.toList.take a) = Y1 at *
  generalize bs (s.data.toList.drop a) = Y2 at *
  have q5 : ¬ 9223372036854775807 < Y1.size + SS.size := by omega
  have q6 : ¬ 9223372036854775807 < G.size + Y2.size := by omega
  subst hpa
  have d1 : (0 : Int) ≤ (a : Int) := by omega
  have d2 : (a : Int) ≤ (s.size : Int) := by omega
  have K := GBox.new w nm false x
  obtain ⟨c1, c2⟩ := K.cells
  clear P0 V0 h hv hf hn hxs hs hpp hy h1 h2 h3 hk hst hsp hkl hll O0 ha hal hap hS R0 h0 hml hz1 hz2 hz3 hz4 hz5 hle hTe hSe G0 h10 hM F0 hP
  go_enter Try.func9, Try.ntmps9
  go_wp2_with (first
    | (go_at_call 23; (with_reducible refine (P1.out _).mono ?_); rintro e u ⟨rfl, hbn⟩; (first | replace K := K.on hbn | replace K := K.ond hbn); clear hbn; clear c1 c2; obtain ⟨c1, c2⟩ := K.cells)
    | (go_at_call 24; (with_reducible refine (V1.out _).mono ?_); rintro e u ⟨rfl, hbn⟩; (first | replace K := K.on hbn | replace K := K.ond hbn); clear hbn; clear c1 c2; obtain ⟨c1, c2⟩ := K.cells)
    | (go_at_call 25; (with_reducible refine (O1.out _).mono ?_); rintro e u ⟨rfl, hbn⟩; (first | replace K := K.on hbn | replace K := K.ond hbn); clear hbn; clear c1 c2; obtain ⟨c1, c2⟩ := K.cells)
    | (go_at_call 27; (with_reducible refine (R1.out _).mono ?_); rintro e u ⟨rfl, rfl⟩))
  go_region
  all_goals replace K := K.drew
  all_goals (clear c1 c2; obtain ⟨c1, c2⟩ := K.cells)
  all_goals (go_wp2_with (first
    | (go_at_call 32; (with_reducible refine (G1.out _).mono ?_); rintro e u ⟨rfl, hbn⟩; (first | replace K := K.on hbn | replace K := K.ond hbn); clear hbn; clear c1 c2; obtain ⟨c1, c2⟩ := K.cells)
    | (go_at_call 34; (with_reducible refine (F1.out _).mono ?_); rintro e u ⟨rfl, hbn⟩; (first | replace K := K.on hbn | replace K := K.ond hbn); clear hbn; clear c1 c2; obtain ⟨c1, c2⟩ := K.cells)))
  all_goals go_ret3
  all_goals exact ⟨rfl, K.below⟩
set_option maxHeartbeats 2000000 in
set_option maxRecDepth 100000 in
theorem ref24_Put_end_room (s : ByteArray) (p nm : Int) (x : ByteArray) (n : Int) (hs : s.size ≤ 100000000) (hxs : x.size ≤ 10000000) (hn : n ≤ 9223372036854775807) (h : Utf.place s.data.toList p = true) (hv : Utf.valid x.data.toList = true) (h0 : x.data.toList ≠ []) (he : Span.ends s.data.toList p.toNat = true) (hf : ¬ Pst.fits s.data.toList x.data.toList false false n) (w : World) :
    Calls Try.prog 9 #[.string s, .int .i64 p, .agg #[.int .i64 nm, .bool false, .string x], .bool false, .int .i64 n] w fun e w' => e = .returned (Pst.val (Pst.no 8)) ∧ Below w.heap.size w w' := by
  rw [Pst.val_no]
  have P0 := fun w => ref_Place s p (by omega) w
  rw [h] at P0
  have P1 := Lib.hid P0
  have V0 := fun w => ref_Valid x (by omega) w
  rw [hv] at V0
  have V1 := Lib.hid V0
  obtain ⟨a0, k, y, hpp, hy, h1, h2, h3, hk, hst, hsp⟩ := Line.place_line h
  have hkl := (List.getElem?_eq_some_iff.1 hy).1
  have hll := Line.L_length s.data.toList
  rw [data_len] at h3 hll
  have O0 := fun w => ref4_Of s p (by omega) w
  rw [hk] at O0
  have O1 := Lib.hid O0
  obtain ⟨a, ha, hal, hap⟩ := Pst.spot_place h false false
  rw [data_len] at hal
  have hS := Pst.refS_length x.data.toList false false n
  rw [data_len] at hS
  have R0 := fun w => ref24_rep x ⟨#[]⟩ n (by omega) (by decide) hn w
  rw [show (⟨#[]⟩ : ByteArray).data.toList = [] from rfl, show Pst.rp x.data.toList [] (Pst.often n - 1) = Pst.refS x.data.toList false false n by rw [Pst.refS, if_neg (by decide)]] at R0
  have R1 := Lib.hid R0
  have e0 : x.toList.isEmpty = false := by rw [tl_data]; simpa using h0
  have N0 := fun w => ref24_stop s a0 (by rw [← hpp]; exact h) (by omega) w
  rw [hpp, Int.toNat_natCast] at he
  rw [he, ← hpp] at N0
  have N1 := Lib.hid N0
  have hpa : Pst.spot s.data.toList p false false = p := by rw [Pst.spot, if_neg (by decide), if_pos (Or.inr (by rw [hpp, Int.toNat_natCast]; exact he))]
  rw [ha] at hpa
  have hml := Pst.mid_length (s := s.data.toList) (Pst.refS x.data.toList false false n) (Nat.le_refl a) (by rw [data_len]; exact hal)
  rw [data_len] at hml
  have e1 := extract_to s a
  have e2 := extract_from s a
  have e3 : bs (s.data.toList.take a) ++ bs (Pst.refS x.data.toList false false n) = bs (s.data.toList.take a ++ Pst.refS x.data.toList false false n) := bs_append _ _
  have e4 : bs (s.data.toList.take a ++ Pst.refS x.data.toList false false n) ++ bs (s.data.toList.drop a) = bs (Pst.mid s.data.toList a a (Pst.refS x.data.toList false false n)) := by rw [bs_append, Pst.mid, List.append_assoc]
  have hz1 : (bs (s.data.toList.take a)).size ≤ s.size := by rw [bs_size, List.length_take]; omega
  have hz2 : (bs (s.data.toList.drop a)).size ≤ s.size := by rw [bs_size, List.length_drop, data_len]; omega
  have hz3 : (bs (Pst.refS x.data.toList false false n)).size ≤ 10010000 := by rw [bs_size]; omega
  have hz4 : (bs (s.data.toList.take a ++ Pst.refS x.data.toList false false n)).size ≤ s.size + 10010000 := by rw [bs_size, List.length_append, List.length_take]; omega
  have hz5 : (bs (Pst.mid s.data.toList a a (Pst.refS x.data.toList false false n))).size = (Pst.mid s.data.toList a a (Pst.refS x.data.toList false false n)).length := bs_size _
  have hle : ¬ s.data.toList.length + (Pst.refS x.data.toList false false n).length ≤ 4096 := fun e => hf (Pst.refS_fit e).1
  rw [data_len] at hle
  have t1 : decide ((4096 : Int) < ((bs (Pst.mid s.data.toList a a (Pst.refS x.data.toList false false n))).size : Int)) = true := decide_eq_true (by omega)
  have t2 : 4096 < (bs (Pst.mid s.data.toList a a (Pst.refS x.data.toList false false n))).size := by omega
  generalize bs (Pst.mid s.data.toList a a (Pst.refS x.data.toList false false n)) = U at *
  generalize bs (s.data.toList.take a ++ Pst.refS x.data.toList false false n) = G at *
  generalize bs (Pst.refS x.data.toList false false n) = SS at *
  generalize bs (s.data.toList.take a) = Y1 at *
  generalize bs (s.data.toList.drop a) = Y2 at *
  have q5 : ¬ 9223372036854775807 < Y1.size + SS.size := by omega
  have q6 : ¬ 9223372036854775807 < G.size + Y2.size := by omega
  subst hpa
  have d1 : (0 : Int) ≤ (a : Int) := by omega
  have d2 : (a : Int) ≤ (s.size : Int) := by omega
  have K := GBox.new w nm false x
  obtain ⟨c1, c2⟩ := K.cells
  clear P0 V0 h hv hf hn hxs hs hpp hy h1 h2 h3 hk hst hsp hkl hll O0 ha hal hap hS R0 h0 he N0 hml hz1 hz2 hz3 hz4 hz5 hle
  go_enter Try.func9, Try.ntmps9
  go_wp2_with (first
    | (go_at_call 23; (with_reducible refine (P1.out _).mono ?_); rintro e u ⟨rfl, hbn⟩; (first | replace K := K.on hbn | replace K := K.ond hbn); clear hbn; clear c1 c2; obtain ⟨c1, c2⟩ := K.cells)
    | (go_at_call 24; (with_reducible refine (V1.out _).mono ?_); rintro e u ⟨rfl, hbn⟩; (first | replace K := K.on hbn | replace K := K.ond hbn); clear hbn; clear c1 c2; obtain ⟨c1, c2⟩ := K.cells)
    | (go_at_call 25; (with_reducible refine (O1.out _).mono ?_); rintro e u ⟨rfl, hbn⟩; (first | replace K := K.on hbn | replace K := K.ond hbn); clear hbn; clear c1 c2; obtain ⟨c1, c2⟩ := K.cells)
    | (go_at_call 27; (with_reducible refine (R1.out _).mono ?_); rintro e u ⟨rfl, rfl⟩)
    | (go_at_call 29; (with_reducible refine (N1.out _).mono ?_); rintro e u ⟨rfl, hbn⟩; (first | replace K := K.on hbn | replace K := K.ond hbn); clear hbn; clear c1 c2; obtain ⟨c1, c2⟩ := K.cells))
  go_region
  all_goals replace K := K.drew
  all_goals (clear c1 c2; obtain ⟨c1, c2⟩ := K.cells)
  all_goals go_wp2
  all_goals go_ret3
  all_goals exact ⟨rfl, K.below⟩
set_option maxHeartbeats 2000000 in
set_option maxRecDepth 100000 in
theorem ref24_Put_end_feed (s : ByteArray) (p nm : Int) (x : ByteArray) (n : Int) (hs : s.size ≤ 100000000) (hxs : x.size ≤ 10000000) (hn : n ≤ 9223372036854775807) (h : Utf.place s.data.toList p = true) (hv : Utf.valid x.data.toList = true) (h0 : x.data.toList ≠ []) (he : Span.ends s.data.toList p.toNat = true) (hf : Pst.fits s.data.toList x.data.toList false false n) (h10 : (10 : UInt8) ∈ x.data.toList) (w : World) :
    Calls Try.prog 9 #[.string s, .int .i64 p, .agg #[.int .i64 nm, .bool false, .string x], .bool false, .int .i64 n] w fun e w' => e = .returned (Pst.val (Pst.putT s.data.toList p x.data.toList false false n, Pst.putP s.data.toList p x.data.toList false false n, 0)) ∧ Below w.heap.size w w' := by
  rw [Pst.val_mk]
  have P0 := fun w => ref_Place s p (by omega) w
  rw [h] at P0
  have P1 := Lib.hid P0
  have V0 := fun w => ref_Valid x (by omega) w
  rw [hv] at V0
  have V1 := Lib.hid V0
  obtain ⟨a0, k, y, hpp, hy, h1, h2, h3, hk, hst, hsp⟩ := Line.place_line h
  have hkl := (List.getElem?_eq_some_iff.1 hy).1
  have hll := Line.L_length s.data.toList
  rw [data_len] at h3 hll
  have O0 := fun w => ref4_Of s p (by omega) w
  rw [hk] at O0
  have O1 := Lib.hid O0
  obtain ⟨a, ha, hal, hap⟩ := Pst.spot_place h false false
  rw [data_len] at hal
  have hS := Pst.refS_length x.data.toList false false n
  rw [data_len] at hS
  have R0 := fun w => ref24_rep x ⟨#[]⟩ n (by omega) (by decide) hn w
  rw [show (⟨#[]⟩ : ByteArray).data.toList = [] from rfl, show Pst.rp x.data.toList [] (Pst.often n - 1) = Pst.refS x.data.toList false false n by rw [Pst.refS, if_neg (by decide)]] at R0
  have R1 := Lib.hid R0
  have e0 : x.toList.isEmpty = false := by rw [tl_data]; simpa using h0
  have N0 := fun w => ref24_stop s a0 (by rw [← hpp]; exact h) (by omega) w
  rw [hpp, Int.toNat_natCast] at he
  rw [he, ← hpp] at N0
  have N1 := Lib.hid N0
  have hpa : Pst.spot s.data.toList p false false = p := by rw [Pst.spot, if_neg (by decide), if_pos (Or.inr (by rw [hpp, Int.toNat_natCast]; exact he))]
  rw [ha] at hpa
  have hml := Pst.mid_length (s := s.data.toList) (Pst.refS x.data.toList false false n) (Nat.le_refl a) (by rw [data_len]; exact hal)
  rw [data_len] at hml
  have e1 := extract_to s a
  have e2 := extract_from s a
  have e3 : bs (s.data.toList.take a) ++ bs (Pst.refS x.data.toList false false n) = bs (s.data.toList.take a ++ Pst.refS x.data.toList false false n) := bs_append _ _
  have e4 : bs (s.data.toList.take a ++ Pst.refS x.data.toList false false n) ++ bs (s.data.toList.drop a) = bs (Pst.mid s.data.toList a a (Pst.refS x.data.toList false false n)) := by rw [bs_append, Pst.mid, List.append_assoc]
  have hz1 : (bs (s.data.toList.take a)).size ≤ s.size := by rw [bs_size, List.length_take]; omega
  have hz2 : (bs (s.data.toList.drop a)).size ≤ s.size := by rw [bs_size, List.length_drop, data_len]; omega
  have hz3 : (bs (Pst.refS x.data.toList false false n)).size ≤ 10010000 := by rw [bs_size]; omega
  have hz4 : (bs (s.data.toList.take a ++ Pst.refS x.data.toList false false n)).size ≤ s.size + 10010000 := by rw [bs_size, List.length_append, List.length_take]; omega
  have hz5 : (bs (Pst.mid s.data.toList a a (Pst.refS x.data.toList false false n))).size = (Pst.mid s.data.toList a a (Pst.refS x.data.toList false false n)).length := bs_size _
  have hle := Pst.refS_over hf
  rw [data_len] at hle
  have hTe : Pst.mid s.data.toList a a (Pst.refS x.data.toList false false n) = Pst.putT s.data.toList p x.data.toList false false n := by rw [Pst.putT, ha, Int.toNat_natCast, (Pst.refS_fit (s := s.data.toList) (by rw [data_len]; exact hle)).2]
  rw [hTe] at e4 hz5 hml
  have t1 : decide ((4096 : Int) < ((bs (Pst.putT s.data.toList p x.data.toList false false n)).size : Int)) = false := decide_eq_false (by omega)
  have t2 : ¬ 4096 < (bs (Pst.putT s.data.toList p x.data.toList false false n)).size := by omega
  have hSe : Pst.refS x.data.toList false false n = Pst.reps (Pst.often n) x.data.toList := (Pst.refS_fit (s := s.data.toList) (by rw [data_len]; exact hle)).2
  have G0 := fun w => ref24_feed (bs (Pst.refS x.data.toList false false n)) (by rw [bs_toList, hSe]; exact Pst.valid_reps hv) (by omega) w
  rw [bs_toList, show decide ((10 : UInt8) ∈ Pst.refS x.data.toList false false n) = true by rw [hSe]; exact decide_eq_true ((Pst.mem_reps (Pst.often_pos n)).2 h10)] at G0
  have G1 := Lib.hid G0
  have F0 := fun w => ref4_Clamp (bs (Pst.putT s.data.toList p x.data.toList false false n)) p (by omega) w
  rw [bs_toList] at F0
  have F1 := Lib.hid F0
  have hP : Pst.putP s.data.toList p x.data.toList false false n = Line.clamp (Pst.putT s.data.toList p x.data.toList false false n) p := by rw [Pst.putP, if_neg (by decide), if_pos h10, ha, hpa]
  rw [hP]
  generalize Line.clamp (Pst.putT s.data.toList p x.data.toList false false n) p = z at *
  generalize bs (Pst.putT s.data.toList p x.data.toList false false n) = U at *
  generalize bs (s.data.toList.take a ++ Pst.refS x.data.toList false false n) = G at *
  generalize bs (Pst.refS x.data.toList false false n) = SS at *
  generalize bs (s.data.toList.take a) = Y1 at *
  generalize bs (s.data.toList.drop a) = Y2 at *
  have q5 : ¬ 9223372036854775807 < Y1.size + SS.size := by omega
  have q6 : ¬ 9223372036854775807 < G.size + Y2.size := by omega
  subst hpa
  have d1 : (0 : Int) ≤ (a : Int) := by omega
  have d2 : (a : Int) ≤ (s.size : Int) := by omega
  have K := GBox.new w nm false x
  obtain ⟨c1, c2⟩ := K.cells
  clear P0 V0 h hv hf hn hxs hs hpp hy h1 h2 h3 hk hst hsp hkl hll O0 ha hal hap hS R0 h0 he N0 hml hz1 hz2 hz3 hz4 hz5 hle hTe hSe G0 h10 F0 hP
  go_enter Try.func9, Try.ntmps9
  go_wp2_with (first
    | (go_at_call 23; (with_reducible refine (P1.out _).mono ?_); rintro e u ⟨rfl, hbn⟩; (first | replace K := K.on hbn | replace K := K.ond hbn); clear hbn; clear c1 c2; obtain ⟨c1, c2⟩ := K.cells)
    | (go_at_call 24; (with_reducible refine (V1.out _).mono ?_); rintro e u ⟨rfl, hbn⟩; (first | replace K := K.on hbn | replace K := K.ond hbn); clear hbn; clear c1 c2; obtain ⟨c1, c2⟩ := K.cells)
    | (go_at_call 25; (with_reducible refine (O1.out _).mono ?_); rintro e u ⟨rfl, hbn⟩; (first | replace K := K.on hbn | replace K := K.ond hbn); clear hbn; clear c1 c2; obtain ⟨c1, c2⟩ := K.cells)
    | (go_at_call 27; (with_reducible refine (R1.out _).mono ?_); rintro e u ⟨rfl, rfl⟩)
    | (go_at_call 29; (with_reducible refine (N1.out _).mono ?_); rintro e u ⟨rfl, hbn⟩; (first | replace K := K.on hbn | replace K := K.ond hbn); clear hbn; clear c1 c2; obtain ⟨c1, c2⟩ := K.cells))
  go_region
  all_goals replace K := K.drew
  all_goals (clear c1 c2; obtain ⟨c1, c2⟩ := K.cells)
  all_goals (go_wp2_with (first
    | (go_at_call 32; (with_reducible refine (G1.out _).mono ?_); rintro e u ⟨rfl, hbn⟩; (first | replace K := K.on hbn | replace K := K.ond hbn); clear hbn; clear c1 c2; obtain ⟨c1, c2⟩ := K.cells)
    | (go_at_call 33; (with_reducible refine (F1.out _).mono ?_); rintro e u ⟨rfl, hbn⟩; (first | replace K := K.on hbn | replace K := K.ond hbn); clear hbn; clear c1 c2; obtain ⟨c1, c2⟩ := K.cells)))
  all_goals go_ret3
  all_goals exact ⟨rfl, K.below⟩
set_option maxHeartbeats 2000000 in
set_option maxRecDepth 100000 in
theorem ref24_Put_end_plain (s : ByteArray) (p nm : Int) (x : ByteArray) (n : Int) (hs : s.size ≤ 100000000) (hxs : x.size ≤ 10000000) (hn : n ≤ 9223372036854775807) (h : Utf.place s.data.toList p = true) (hv : Utf.valid x.data.toList = true) (h0 : x.data.toList ≠ []) (he : Span.ends s.data.toList p.toNat = true) (hf : Pst.fits s.data.toList x.data.toList false false n) (h10 : ¬ (10 : UInt8) ∈ x.data.toList) (w : World) :
    Calls Try.prog 9 #[.string s, .int .i64 p, .agg #[.int .i64 nm, .bool false, .string x], .bool false, .int .i64 n] w fun e w' => e = .returned (Pst.val (Pst.putT s.data.toList p x.data.toList false false n, Pst.putP s.data.toList p x.data.toList false false n, 0)) ∧ Below w.heap.size w w' := by
  rw [Pst.val_mk]
  have P0 := fun w => ref_Place s p (by omega) w
  rw [h] at P0
  have P1 := Lib.hid P0
  have V0 := fun w => ref_Valid x (by omega) w
  rw [hv] at V0
  have V1 := Lib.hid V0
  obtain ⟨a0, k, y, hpp, hy, h1, h2, h3, hk, hst, hsp⟩ := Line.place_line h
  have hkl := (List.getElem?_eq_some_iff.1 hy).1
  have hll := Line.L_length s.data.toList
  rw [data_len] at h3 hll
  have O0 := fun w => ref4_Of s p (by omega) w
  rw [hk] at O0
  have O1 := Lib.hid O0
  obtain ⟨a, ha, hal, hap⟩ := Pst.spot_place h false false
  rw [data_len] at hal
  have hS := Pst.refS_length x.data.toList false false n
  rw [data_len] at hS
  have R0 := fun w => ref24_rep x ⟨#[]⟩ n (by omega) (by decide) hn w
  rw [show (⟨#[]⟩ : ByteArray).data.toList = [] from rfl, show Pst.rp x.data.toList [] (Pst.often n - 1) = Pst.refS x.data.toList false false n by rw [Pst.refS, if_neg (by decide)]] at R0
  have R1 := Lib.hid R0
  have e0 : x.toList.isEmpty = false := by rw [tl_data]; simpa using h0
  have N0 := fun w => ref24_stop s a0 (by rw [← hpp]; exact h) (by omega) w
  rw [hpp, Int.toNat_natCast] at he
  rw [he, ← hpp] at N0
  have N1 := Lib.hid N0
  have hpa : Pst.spot s.data.toList p false false = p := by rw [Pst.spot, if_neg (by decide), if_pos (Or.inr (by rw [hpp, Int.toNat_natCast]; exact he))]
  rw [ha] at hpa
  have hml := Pst.mid_length (s := s.data.toList) (Pst.refS x.data.toList false false n) (Nat.le_refl a) (by rw [data_len]; exact hal)
  rw [data_len] at hml
  have e1 := extract_to s a
  have e2 := extract_from s a
  have e3 : bs (s.data.toList.take a) ++ bs (Pst.refS x.data.toList false false n) = bs (s.data.toList.take a ++ Pst.refS x.data.toList false false n) := bs_append _ _
  have e4 : bs (s.data.toList.take a ++ Pst.refS x.data.toList false false n) ++ bs (s.data.toList.drop a) = bs (Pst.mid s.data.toList a a (Pst.refS x.data.toList false false n)) := by rw [bs_append, Pst.mid, List.append_assoc]
  have hz1 : (bs (s.data.toList.take a)).size ≤ s.size := by rw [bs_size, List.length_take]; omega
  have hz2 : (bs (s.data.toList.drop a)).size ≤ s.size := by rw [bs_size, List.length_drop, data_len]; omega
  have hz3 : (bs (Pst.refS x.data.toList false false n)).size ≤ 10010000 := by rw [bs_size]; omega
  have hz4 : (bs (s.data.toList.take a ++ Pst.refS x.data.toList false false n)).size ≤ s.size + 10010000 := by rw [bs_size, List.length_append, List.length_take]; omega
  have hz5 : (bs (Pst.mid s.data.toList a a (Pst.refS x.data.toList false false n))).size = (Pst.mid s.data.toList a a (Pst.refS x.data.toList false false n)).length := bs_size _
  have hle := Pst.refS_over hf
  rw [data_len] at hle
  have hTe : Pst.mid s.data.toList a a (Pst.refS x.data.toList false false n) = Pst.putT s.data.toList p x.data.toList false false n := by rw [Pst.putT, ha, Int.toNat_natCast, (Pst.refS_fit (s := s.data.toList) (by rw [data_len]; exact hle)).2]
  rw [hTe] at e4 hz5 hml
  have t1 : decide ((4096 : Int) < ((bs (Pst.putT s.data.toList p x.data.toList false false n)).size : Int)) = false := decide_eq_false (by omega)
  have t2 : ¬ 4096 < (bs (Pst.putT s.data.toList p x.data.toList false false n)).size := by omega
  have hSe : Pst.refS x.data.toList false false n = Pst.reps (Pst.often n) x.data.toList := (Pst.refS_fit (s := s.data.toList) (by rw [data_len]; exact hle)).2
  have G0 := fun w => ref24_feed (bs (Pst.refS x.data.toList false false n)) (by rw [bs_toList, hSe]; exact Pst.valid_reps hv) (by omega) w
  rw [bs_toList, show decide ((10 : UInt8) ∈ Pst.refS x.data.toList false false n) = false by rw [hSe]; exact decide_eq_false (fun e => h10 ((Pst.mem_reps (Pst.often_pos n)).1 e))] at G0
  have G1 := Lib.hid G0
  have hsz : (bs (Pst.refS x.data.toList false false n)).size = Pst.often n * x.size := by rw [bs_size, hSe, Pst.reps_length, data_len]
  obtain ⟨M, hM⟩ : ∃ M, Pst.often n * x.size = M := ⟨_, rfl⟩
  rw [hM] at hsz
  have w2 : IntKind.i64.wrap (p + (M : Int)) = p + (M : Int) := by rw [IntKind.wrap_i64]; omega
  have F0 := fun w => ref_Prev (bs (Pst.putT s.data.toList p x.data.toList false false n)) (p + (M : Int)) (by omega) w
  rw [bs_toList] at F0
  have F1 := Lib.hid F0
  have hP : Pst.putP s.data.toList p x.data.toList false false n = Utf.prev (Pst.putT s.data.toList p x.data.toList false false n) (p + (M : Int)) := by rw [Pst.putP, if_neg (by decide), if_neg h10, ha, hpa, data_len, hM]
  rw [hP]
  generalize Utf.prev (Pst.putT s.data.toList p x.data.toList false false n) (p + (M : Int)) = z at *
  generalize bs (Pst.putT s.data.toList p x.data.toList false false n) = U at *
  generalize bs (s.data.toList.take a ++ Pst.refS x.data.toList false false n) = G at *
  generalize bs (Pst.refS x.data.toList false false n) = SS at *
  generalize bs (s.data.toList.take a) = Y1 at *
  generalize bs (s.data.toList.drop a) = Y2 at *
  have q5 : ¬ 9223372036854775807 < Y1.size + SS.size := by omega
  have q6 : ¬ 9223372036854775807 < G.size + Y2.size := by omega
  subst hpa
  have d1 : (0 : Int) ≤ (a : Int) := by omega
  have d2 : (a : Int) ≤ (s.size : Int) := by omega
  have K := GBox.new w nm false x
  obtain ⟨c1, c2⟩ := K.cells
  clear P0 V0 h hv hf hn hxs hs hpp hy h1 h2 h3 hk hst hsp hkl hll O0 ha hal hap hS R0 h0 he N0 hml hz1 hz2 hz3 hz4 hz5 hle hTe hSe G0 h10 hM F0 hP
  go_enter Try.func9, Try.ntmps9
  go_wp2_with (first
    | (go_at_call 23; (with_reducible refine (P1.out _).mono ?_); rintro e u ⟨rfl, hbn⟩; (first | replace K := K.on hbn | replace K := K.ond hbn); clear hbn; clear c1 c2; obtain ⟨c1, c2⟩ := K.cells)
    | (go_at_call 24; (with_reducible refine (V1.out _).mono ?_); rintro e u ⟨rfl, hbn⟩; (first | replace K := K.on hbn | replace K := K.ond hbn); clear hbn; clear c1 c2; obtain ⟨c1, c2⟩ := K.cells)
    | (go_at_call 25; (with_reducible refine (O1.out _).mono ?_); rintro e u ⟨rfl, hbn⟩; (first | replace K := K.on hbn | replace K := K.ond hbn); clear hbn; clear c1 c2; obtain ⟨c1, c2⟩ := K.cells)
    | (go_at_call 27; (with_reducible refine (R1.out _).mono ?_); rintro e u ⟨rfl, rfl⟩)
    | (go_at_call 29; (with_reducible refine (N1.out _).mono ?_); rintro e u ⟨rfl, hbn⟩; (first | replace K := K.on hbn | replace K := K.ond hbn); clear hbn; clear c1 c2; obtain ⟨c1, c2⟩ := K.cells))
  go_region
  all_goals replace K := K.drew
  all_goals (clear c1 c2; obtain ⟨c1, c2⟩ := K.cells)
  all_goals (go_wp2_with (first
    | (go_at_call 32; (with_reducible refine (G1.out _).mono ?_); rintro e u ⟨rfl, hbn⟩; (first | replace K := K.on hbn | replace K := K.ond hbn); clear hbn; clear c1 c2; obtain ⟨c1, c2⟩ := K.cells)
    | (go_at_call 34; (with_reducible refine (F1.out _).mono ?_); rintro e u ⟨rfl, hbn⟩; (first | replace K := K.on hbn | replace K := K.ond hbn); clear hbn; clear c1 c2; obtain ⟨c1, c2⟩ := K.cells)))
  all_goals go_ret3
  all_goals exact ⟨rfl, K.below⟩
set_option maxHeartbeats 2000000 in
set_option maxRecDepth 100000 in
theorem ref24_Put_next_room (s : ByteArray) (p nm : Int) (x : ByteArray) (n : Int) (hs : s.size ≤ 100000000) (hxs : x.size ≤ 10000000) (hn : n ≤ 9223372036854775807) (h : Utf.place s.data.toList p = true) (hv : Utf.valid x.data.toList = true) (h0 : x.data.toList ≠ []) (he : Span.ends s.data.toList p.toNat = false) (hf : ¬ Pst.fits s.data.toList x.data.toList false false n) (w : World) :
    Calls Try.prog 9 #[.string s, .int .i64 p, .agg #[.int .i64 nm, .bool false, .string x], .bool false, .int .i64 n] w fun e w' => e = .returned (Pst.val (Pst.no 8)) ∧ Below w.heap.size w w' := by
  rw [Pst.val_no]
  have P0 := fun w => ref_Place s p (by omega) w
  rw [h] at P0
  have P1 := Lib.hid P0
  have V0 := fun w => ref_Valid x (by omega) w
  rw [hv] at V0
  have V1 := Lib.hid V0
  obtain ⟨a0, k, y, hpp, hy, h1, h2, h3, hk, hst, hsp⟩ := Line.place_line h
  have hkl := (List.getElem?_eq_some_iff.1 hy).1
  have hll := Line.L_length s.data.toList
  rw [data_len] at h3 hll
  have O0 := fun w => ref4_Of s p (by omega) w
  rw [hk] at O0
  have O1 := Lib.hid O0
  obtain ⟨a, ha, hal, hap⟩ := Pst.spot_place h false false
  rw [data_len] at hal
  have hS := Pst.refS_length x.data.toList false false n
  rw [data_len] at hS
  have R0 := fun w => ref24_rep x ⟨#[]⟩ n (by omega) (by decide) hn w
  rw [show (⟨#[]⟩ : ByteArray).data.toList = [] from rfl, show Pst.rp x.data.toList [] (Pst.often n - 1) = Pst.refS x.data.toList false false n by rw [Pst.refS, if_neg (by decide)]] at R0
  have R1 := Lib.hid R0
  have e0 : x.toList.isEmpty = false := by rw [tl_data]; simpa using h0
  have N0 := fun w => ref24_stop s a0 (by rw [← hpp]; exact h) (by omega) w
  rw [hpp, Int.toNat_natCast] at he
  rw [he, ← hpp] at N0
  have N1 := Lib.hid N0
  have X0 := fun w => ref_Next s p (by omega) w
  have hpx : Pst.spot s.data.toList p false false = Utf.next s.data.toList p := by rw [Pst.spot, if_neg (by decide), if_neg (by rw [hpp, Int.toNat_natCast, he]; simp)]
  rw [← hpx, ha] at X0
  have X1 := Lib.hid X0
  have hml := Pst.mid_length (s := s.data.toList) (Pst.refS x.data.toList false false n) (Nat.le_refl a) (by rw [data_len]; exact hal)
  rw [data_len] at hml
  have e1 := extract_to s a
  have e2 := extract_from s a
  have e3 : bs (s.data.toList.take a) ++ bs (Pst.refS x.data.toList false false n) = bs (s.data.toList.take a ++ Pst.refS x.data.toList false false n) := bs_append _ _
  have e4 : bs (s.data.toList.take a ++ Pst.refS x.data.toList false false n) ++ bs (s.data.toList.drop a) = bs (Pst.mid s.data.toList a a (Pst.refS x.data.toList false false n)) := by rw [bs_append, Pst.mid, List.append_assoc]
  have hz1 : (bs (s.data.toList.take a)).size ≤ s.size := by rw [bs_size, List.length_take]; omega
  have hz2 : (bs (s.data.toList.drop a)).size ≤ s.size := by rw [bs_size, List.length_drop, data_len]; omega
  have hz3 : (bs (Pst.refS x.data.toList false false n)).size ≤ 10010000 := by rw [bs_size]; omega
  have hz4 : (bs (s.data.toList.take a ++ Pst.refS x.data.toList false false n)).size ≤ s.size + 10010000 := by rw [bs_size, List.length_append, List.length_take]; omega
  have hz5 : (bs (Pst.mid s.data.toList a a (Pst.refS x.data.toList false false n))).size = (Pst.mid s.data.toList a a (Pst.refS x.data.toList false false n)).length := bs_size _
  have hle : ¬ s.data.toList.length + (Pst.refS x.data.toList false false n).length ≤ 4096 := fun e => hf (Pst.refS_fit e).1
  rw [data_len] at hle
  have t1 : decide ((4096 : Int) < ((bs (Pst.mid s.data.toList a a (Pst.refS x.data.toList false false n))).size : Int)) = true := decide_eq_true (by omega)
  have t2 : 4096 < (bs (Pst.mid s.data.toList a a (Pst.refS x.data.toList false false n))).size := by omega
  generalize bs (Pst.mid s.data.toList a a (Pst.refS x.data.toList false false n)) = U at *
  generalize bs (s.data.toList.take a ++ Pst.refS x.data.toList false false n) = G at *
  generalize bs (Pst.refS x.data.toList false false n) = SS at *
  generalize bs (s.data.toList.take a) = Y1 at *
  generalize bs (s.data.toList.drop a) = Y2 at *
  have q5 : ¬ 9223372036854775807 < Y1.size + SS.size := by omega
  have q6 : ¬ 9223372036854775807 < G.size + Y2.size := by omega
  have d1 : (0 : Int) ≤ (a : Int) := by omega
  have d2 : (a : Int) ≤ (s.size : Int) := by omega
  have K := GBox.new w nm false x
  obtain ⟨c1, c2⟩ := K.cells
  clear P0 V0 h hv hf hn hxs hs hpp hy h1 h2 h3 hk hst hsp hkl hll O0 ha hal hap hS R0 h0 he N0 X0 hpx hml hz1 hz2 hz3 hz4 hz5 hle
  go_enter Try.func9, Try.ntmps9
  go_wp2_with (first
    | (go_at_call 23; (with_reducible refine (P1.out _).mono ?_); rintro e u ⟨rfl, hbn⟩; (first | replace K := K.on hbn | replace K := K.ond hbn); clear hbn; clear c1 c2; obtain ⟨c1, c2⟩ := K.cells)
    | (go_at_call 24; (with_reducible refine (V1.out _).mono ?_); rintro e u ⟨rfl, hbn⟩; (first | replace K := K.on hbn | replace K := K.ond hbn); clear hbn; clear c1 c2; obtain ⟨c1, c2⟩ := K.cells)
    | (go_at_call 25; (with_reducible refine (O1.out _).mono ?_); rintro e u ⟨rfl, hbn⟩; (first | replace K := K.on hbn | replace K := K.ond hbn); clear hbn; clear c1 c2; obtain ⟨c1, c2⟩ := K.cells)
    | (go_at_call 27; (with_reducible refine (R1.out _).mono ?_); rintro e u ⟨rfl, rfl⟩)
    | (go_at_call 29; (with_reducible refine (N1.out _).mono ?_); rintro e u ⟨rfl, hbn⟩; (first | replace K := K.on hbn | replace K := K.ond hbn); clear hbn; clear c1 c2; obtain ⟨c1, c2⟩ := K.cells)
    | (go_at_call 30; (with_reducible refine (X1.out _).mono ?_); rintro e u ⟨rfl, hbn⟩; (first | replace K := K.on hbn | replace K := K.ond hbn); clear hbn; clear c1 c2; obtain ⟨c1, c2⟩ := K.cells))
  go_region
  all_goals replace K := K.drew
  all_goals (clear c1 c2; obtain ⟨c1, c2⟩ := K.cells)
  all_goals go_wp2
  all_goals go_ret3
  all_goals exact ⟨rfl, K.below⟩
set_option maxHeartbeats 2000000 in
set_option maxRecDepth 100000 in
theorem ref24_Put_next_feed (s : ByteArray) (p nm : Int) (x : ByteArray) (n : Int) (hs : s.size ≤ 100000000) (hxs : x.size ≤ 10000000) (hn : n ≤ 9223372036854775807) (h : Utf.place s.data.toList p = true) (hv : Utf.valid x.data.toList = true) (h0 : x.data.toList ≠ []) (he : Span.ends s.data.toList p.toNat = false) (hf : Pst.fits s.data.toList x.data.toList false false n) (h10 : (10 : UInt8) ∈ x.data.toList) (w : World) :
    Calls Try.prog 9 #[.string s, .int .i64 p, .agg #[.int .i64 nm, .bool false, .string x], .bool false, .int .i64 n] w fun e w' => e = .returned (Pst.val (Pst.putT s.data.toList p x.data.toList false false n, Pst.putP s.data.toList p x.data.toList false false n, 0)) ∧ Below w.heap.size w w' := by
  rw [Pst.val_mk]
  have P0 := fun w => ref_Place s p (by omega) w
  rw [h] at P0
  have P1 := Lib.hid P0
  have V0 := fun w => ref_Valid x (by omega) w
  rw [hv] at V0
  have V1 := Lib.hid V0
  obtain ⟨a0, k, y, hpp, hy, h1, h2, h3, hk, hst, hsp⟩ := Line.place_line h
  have hkl := (List.getElem?_eq_some_iff.1 hy).1
  have hll := Line.L_length s.data.toList
  rw [data_len] at h3 hll
  have O0 := fun w => ref4_Of s p (by omega) w
  rw [hk] at O0
  have O1 := Lib.hid O0
  obtain ⟨a, ha, hal, hap⟩ := Pst.spot_place h false false
  rw [data_len] at hal
  have hS := Pst.refS_length x.data.toList false false n
  rw [data_len] at hS
  have R0 := fun w => ref24_rep x ⟨#[]⟩ n (by omega) (by decide) hn w
  rw [show (⟨#[]⟩ : ByteArray).data.toList = [] from rfl, show Pst.rp x.data.toList [] (Pst.often n - 1) = Pst.refS x.data.toList false false n by rw [Pst.refS, if_neg (by decide)]] at R0
  have R1 := Lib.hid R0
  have e0 : x.toList.isEmpty = false := by rw [tl_data]; simpa using h0
  have N0 := fun w => ref24_stop s a0 (by rw [← hpp]; exact h) (by omega) w
  rw [hpp, Int.toNat_natCast] at he
  rw [he, ← hpp] at N0
  have N1 := Lib.hid N0
  have X0 := fun w => ref_Next s p (by omega) w
  have hpx : Pst.spot s.data.toList p false false = Utf.next s.data.toList p := by rw [Pst.spot, if_neg (by decide), if_neg (by rw [hpp, Int.toNat_natCast, he]; simp)]
  rw [← hpx, ha] at X0
  have X1 := Lib.hid X0
  have hml := Pst.mid_length (s := s.data.toList) (Pst.refS x.data.toList false false n) (Nat.le_refl a) (by rw [data_len]; exact hal)
  rw [data_len] at hml
  have e1 := extract_to s a
  have e2 := extract_from s a
  have e3 : bs (s.data.toList.take a) ++ bs (Pst.refS x.data.toList false false n) = bs (s.data.toList.take a ++ Pst.refS x.data.toList false false n) := bs_append _ _
  have e4 : bs (s.data.toList.take a ++ Pst.refS x.data.toList false false n) ++ bs (s.data.toList.drop a) = bs (Pst.mid s.data.toList a a (Pst.refS x.data.toList false false n)) := by rw [bs_append, Pst.mid, List.append_assoc]
  have hz1 : (bs (s.data.toList.take a)).size ≤ s.size := by rw [bs_size, List.length_take]; omega
  have hz2 : (bs (s.data.toList.drop a)).size ≤ s.size := by rw [bs_size, List.length_drop, data_len]; omega
  have hz3 : (bs (Pst.refS x.data.toList false false n)).size ≤ 10010000 := by rw [bs_size]; omega
  have hz4 : (bs (s.data.toList.take a ++ Pst.refS x.data.toList false false n)).size ≤ s.size + 10010000 := by rw [bs_size, List.length_append, List.length_take]; omega
  have hz5 : (bs (Pst.mid s.data.toList a a (Pst.refS x.data.toList false false n))).size = (Pst.mid s.data.toList a a (Pst.refS x.data.toList false false n)).length := bs_size _
  have hle := Pst.refS_over hf
  rw [data_len] at hle
  have hTe : Pst.mid s.data.toList a a (Pst.refS x.data.toList false false n) = Pst.putT s.data.toList p x.data.toList false false n := by rw [Pst.putT, ha, Int.toNat_natCast, (Pst.refS_fit (s := s.data.toList) (by rw [data_len]; exact hle)).2]
  rw [hTe] at e4 hz5 hml
  have t1 : decide ((4096 : Int) < ((bs (Pst.putT s.data.toList p x.data.toList false false n)).size : Int)) = false := decide_eq_false (by omega)
  have t2 : ¬ 4096 < (bs (Pst.putT s.data.toList p x.data.toList false false n)).size := by omega
  have hSe : Pst.refS x.data.toList false false n = Pst.reps (Pst.often n) x.data.toList := (Pst.refS_fit (s := s.data.toList) (by rw [data_len]; exact hle)).2
  have G0 := fun w => ref24_feed (bs (Pst.refS x.data.toList false false n)) (by rw [bs_toList, hSe]; exact Pst.valid_reps hv) (by omega) w
  rw [bs_toList, show decide ((10 : UInt8) ∈ Pst.refS x.data.toList false false n) = true by rw [hSe]; exact decide_eq_true ((Pst.mem_reps (Pst.often_pos n)).2 h10)] at G0
  have G1 := Lib.hid G0
  have F0 := fun w => ref4_Clamp (bs (Pst.putT s.data.toList p x.data.toList false false n)) (a : Int) (by omega) w
  rw [bs_toList] at F0
  have F1 := Lib.hid F0
  have hP : Pst.putP s.data.toList p x.data.toList false false n = Line.clamp (Pst.putT s.data.toList p x.data.toList false false n) (a : Int) := by rw [Pst.putP, if_neg (by decide), if_pos h10, ha]
  rw [hP]
  generalize Line.clamp (Pst.putT s.data.toList p x.data.toList false false n) (a : Int) = z at *
  generalize bs (Pst.putT s.data.toList p x.data.toList false false n) = U at *
  generalize bs (s.data.toList.take a ++ Pst.refS x.data.toList false false n) = G at *
  generalize bs (Pst.refS x.data.toList false false n) = SS at *
  generalize bs (s.data.toList.take a) = Y1 at *
  generalize bs (s.data.toList.drop a) = Y2 at *
  have q5 : ¬ 9223372036854775807 < Y1.size + SS.size := by omega
  have q6 : ¬ 9223372036854775807 < G.size + Y2.size := by omega
  have d1 : (0 : Int) ≤ (a : Int) := by omega
  have d2 : (a : Int) ≤ (s.size : Int) := by omega
  have K := GBox.new w nm false x
  obtain ⟨c1, c2⟩ := K.cells
  clear P0 V0 h hv hf hn hxs hs hpp hy h1 h2 h3 hk hst hsp hkl hll O0 ha hal hap hS R0 h0 he N0 X0 hpx hml hz1 hz2 hz3 hz4 hz5 hle hTe hSe G0 h10 F0 hP
  go_enter Try.func9, Try.ntmps9
  go_wp2_with (first
    | (go_at_call 23; (with_reducible refine (P1.out _).mono ?_); rintro e u ⟨rfl, hbn⟩; (first | replace K := K.on hbn | replace K := K.ond hbn); clear hbn; clear c1 c2; obtain ⟨c1, c2⟩ := K.cells)
    | (go_at_call 24; (with_reducible refine (V1.out _).mono ?_); rintro e u ⟨rfl, hbn⟩; (first | replace K := K.on hbn | replace K := K.ond hbn); clear hbn; clear c1 c2; obtain ⟨c1, c2⟩ := K.cells)
    | (go_at_call 25; (with_reducible refine (O1.out _).mono ?_); rintro e u ⟨rfl, hbn⟩; (first | replace K := K.on hbn | replace K := K.ond hbn); clear hbn; clear c1 c2; obtain ⟨c1, c2⟩ := K.cells)
    | (go_at_call 27; (with_reducible refine (R1.out _).mono ?_); rintro e u ⟨rfl, rfl⟩)
    | (go_at_call 29; (with_reducible refine (N1.out _).mono ?_); rintro e u ⟨rfl, hbn⟩; (first | replace K := K.on hbn | replace K := K.ond hbn); clear hbn; clear c1 c2; obtain ⟨c1, c2⟩ := K.cells)
    | (go_at_call 30; (with_reducible refine (X1.out _).mono ?_); rintro e u ⟨rfl, hbn⟩; (first | replace K := K.on hbn | replace K := K.ond hbn); clear hbn; clear c1 c2; obtain ⟨c1, c2⟩ := K.cells))
  go_region
  all_goals replace K := K.drew
  all_goals (clear c1 c2; obtain ⟨c1, c2⟩ := K.cells)
  all_goals (go_wp2_with (first
    | (go_at_call 32; (with_reducible refine (G1.out _).mono ?_); rintro e u ⟨rfl, hbn⟩; (first | replace K := K.on hbn | replace K := K.ond hbn); clear hbn; clear c1 c2; obtain ⟨c1, c2⟩ := K.cells)
    | (go_at_call 33; (with_reducible refine (F1.out _).mono ?_); rintro e u ⟨rfl, hbn⟩; (first | replace K := K.on hbn | replace K := K.ond hbn); clear hbn; clear c1 c2; obtain ⟨c1, c2⟩ := K.cells)))
  all_goals go_ret3
  all_goals exact ⟨rfl, K.below⟩
set_option maxHeartbeats 2000000 in
set_option maxRecDepth 100000 in
theorem ref24_Put_next_plain (s : ByteArray) (p nm : Int) (x : ByteArray) (n : Int) (hs : s.size ≤ 100000000) (hxs : x.size ≤ 10000000) (hn : n ≤ 9223372036854775807) (h : Utf.place s.data.toList p = true) (hv : Utf.valid x.data.toList = true) (h0 : x.data.toList ≠ []) (he : Span.ends s.data.toList p.toNat = false) (hf : Pst.fits s.data.toList x.data.toList false false n) (h10 : ¬ (10 : UInt8) ∈ x.data.toList) (w : World) :
    Calls Try.prog 9 #[.string s, .int .i64 p, .agg #[.int .i64 nm, .bool false, .string x], .bool false, .int .i64 n] w fun e w' => e = .returned (Pst.val (Pst.putT s.data.toList p x.data.toList false false n, Pst.putP s.data.toList p x.data.toList false false n, 0)) ∧ Below w.heap.size w w' := by
  rw [Pst.val_mk]
  have P0 := fun w => ref_Place s p (by omega) w
  rw [h] at P0
  have P1 := Lib.hid P0
  have V0 := fun w => ref_Valid x (by omega) w
  rw [hv] at V0
  have V1 := Lib.hid V0
  obtain ⟨a0, k, y, hpp, hy, h1, h2, h3, hk, hst, hsp⟩ := Line.place_line h
  have hkl := (List.getElem?_eq_some_iff.1 hy).1
  have hll := Line.L_length s.data.toList
  rw [data_len] at h3 hll
  have O0 := fun w => ref4_Of s p (by omega) w
  rw [hk] at O0
  have O1 := Lib.hid O0
  obtain ⟨a, ha, hal, hap⟩ := Pst.spot_place h false false
  rw [data_len] at hal
  have hS := Pst.refS_length x.data.toList false false n
  rw [data_len] at hS
  have R0 := fun w => ref24_rep x ⟨#[]⟩ n (by omega) (by decide) hn w
  rw [show (⟨#[]⟩ : ByteArray).data.toList = [] from rfl, show Pst.rp x.data.toList [] (Pst.often n - 1) = Pst.refS x.data.toList false false n by rw [Pst.refS, if_neg (by decide)]] at R0
  have R1 := Lib.hid R0
  have e0 : x.toList.isEmpty = false := by rw [tl_data]; simpa using h0
  have N0 := fun w => ref24_stop s a0 (by rw [← hpp]; exact h) (by omega) w
  rw [hpp, Int.toNat_natCast] at he
  rw [he, ← hpp] at N0
  have N1 := Lib.hid N0
  have X0 := fun w => ref_Next s p (by omega) w
  have hpx : Pst.spot s.data.toList p false false = Utf.next s.data.toList p := by rw [Pst.spot, if_neg (by decide), if_neg (by rw [hpp, Int.toNat_natCast, he]; simp)]
  rw [← hpx, ha] at X0
  have X1 := Lib.hid X0
  have hml := Pst.mid_length (s := s.data.toList) (Pst.refS x.data.toList false false n) (Nat.le_refl a) (by rw [data_len]; exact hal)
  rw [data_len] at hml
  have e1 := extract_to s a
  have e2 := extract_from s a
  have e3 : bs (s.data.toList.take a) ++ bs (Pst.refS x.data.toList false false n) = bs (s.data.toList.take a ++ Pst.refS x.data.toList false false n) := bs_append _ _
  have e4 : bs (s.data.toList.take a ++ Pst.refS x.data.toList false false n) ++ bs (s.data.toList.drop a) = bs (Pst.mid s.data.toList a a (Pst.refS x.data.toList false false n)) := by rw [bs_append, Pst.mid, List.append_assoc]
  have hz1 : (bs (s.data.toList.take a)).size ≤ s.size := by rw [bs_size, List.length_take]; omega
  have hz2 : (bs (s.data.toList.drop a)).size ≤ s.size := by rw [bs_size, List.length_drop, data_len]; omega
  have hz3 : (bs (Pst.refS x.data.toList false false n)).size ≤ 10010000 := by rw [bs_size]; omega
  have hz4 : (bs (s.data.toList.take a ++ Pst.refS x.data.toList false false n)).size ≤ s.size + 10010000 := by rw [bs_size, List.length_append, List.length_take]; omega
  have hz5 : (bs (Pst.mid s.data.toList a a (Pst.refS x.data.toList false false n))).size = (Pst.mid s.data.toList a a (Pst.refS x.data.toList false false n)).length := bs_size _
  have hle := Pst.refS_over hf
  rw [data_len] at hle
  have hTe : Pst.mid s.data.toList a a (Pst.refS x.data.toList false false n) = Pst.putT s.data.toList p x.data.toList false false n := by rw [Pst.putT, ha, Int.toNat_natCast, (Pst.refS_fit (s := s.data.toList) (by rw [data_len]; exact hle)).2]
  rw [hTe] at e4 hz5 hml
  have t1 : decide ((4096 : Int) < ((bs (Pst.putT s.data.toList p x.data.toList false false n)).size : Int)) = false := decide_eq_false (by omega)
  have t2 : ¬ 4096 < (bs (Pst.putT s.data.toList p x.data.toList false false n)).size := by omega
  have hSe : Pst.refS x.data.toList false false n = Pst.reps (Pst.often n) x.data.toList := (Pst.refS_fit (s := s.data.toList) (by rw [data_len]; exact hle)).2
  have G0 := fun w => ref24_feed (bs (Pst.refS x.data.toList false false n)) (by rw [bs_toList, hSe]; exact Pst.valid_reps hv) (by omega) w
  rw [bs_toList, show decide ((10 : UInt8) ∈ Pst.refS x.data.toList false false n) = false by rw [hSe]; exact decide_eq_false (fun e => h10 ((Pst.mem_reps (Pst.often_pos n)).1 e))] at G0
  have G1 := Lib.hid G0
  have hsz : (bs (Pst.refS x.data.toList false false n)).size = Pst.often n * x.size := by rw [bs_size, hSe, Pst.reps_length, data_len]
  obtain ⟨M, hM⟩ : ∃ M, Pst.often n * x.size = M := ⟨_, rfl⟩
  rw [hM] at hsz
  have w2 : IntKind.i64.wrap ((a : Int) + (M : Int)) = (a : Int) + (M : Int) := by rw [IntKind.wrap_i64]; omega
  have F0 := fun w => ref_Prev (bs (Pst.putT s.data.toList p x.data.toList false false n)) ((a : Int) + (M : Int)) (by omega) w
  rw [bs_toList] at F0
  have F1 := Lib.hid F0
  have hP : Pst.putP s.data.toList p x.data.toList false false n = Utf.prev (Pst.putT s.data.toList p x.data.toList false false n) ((a : Int) + (M : Int)) := by rw [Pst.putP, if_neg (by decide), if_neg h10, ha, data_len, hM]
  rw [hP]
  generalize Utf.prev (Pst.putT s.data.toList p x.data.toList false false n) ((a : Int) + (M : Int)) = z at *
  generalize bs (Pst.putT s.data.toList p x.data.toList false false n) = U at *
  generalize bs (s.data.toList.take a ++ Pst.refS x.data.toList false false n) = G at *
  generalize bs (Pst.refS x.data.toList false false n) = SS at *
  generalize bs (s.data.toList.take a) = Y1 at *
  generalize bs (s.data.toList.drop a) = Y2 at *
  have q5 : ¬ 9223372036854775807 < Y1.size + SS.size := by omega
  have q6 : ¬ 9223372036854775807 < G.size + Y2.size := by omega
  have d1 : (0 : Int) ≤ (a : Int) := by omega
  have d2 : (a : Int) ≤ (s.size : Int) := by omega
  have K := GBox.new w nm false x
  obtain ⟨c1, c2⟩ := K.cells
  clear P0 V0 h hv hf hn hxs hs hpp hy h1 h2 h3 hk hst hsp hkl hll O0 ha hal hap hS R0 h0 he N0 X0 hpx hml hz1 hz2 hz3 hz4 hz5 hle hTe hSe G0 h10 hM F0 hP
  go_enter Try.func9, Try.ntmps9
  go_wp2_with (first
    | (go_at_call 23; (with_reducible refine (P1.out _).mono ?_); rintro e u ⟨rfl, hbn⟩; (first | replace K := K.on hbn | replace K := K.ond hbn); clear hbn; clear c1 c2; obtain ⟨c1, c2⟩ := K.cells)
    | (go_at_call 24; (with_reducible refine (V1.out _).mono ?_); rintro e u ⟨rfl, hbn⟩; (first | replace K := K.on hbn | replace K := K.ond hbn); clear hbn; clear c1 c2; obtain ⟨c1, c2⟩ := K.cells)
    | (go_at_call 25; (with_reducible refine (O1.out _).mono ?_); rintro e u ⟨rfl, hbn⟩; (first | replace K := K.on hbn | replace K := K.ond hbn); clear hbn; clear c1 c2; obtain ⟨c1, c2⟩ := K.cells)
    | (go_at_call 27; (with_reducible refine (R1.out _).mono ?_); rintro e u ⟨rfl, rfl⟩)
    | (go_at_call 29; (with_reducible refine (N1.out _).mono ?_); rintro e u ⟨rfl, hbn⟩; (first | replace K := K.on hbn | replace K := K.ond hbn); clear hbn; clear c1 c2; obtain ⟨c1, c2⟩ := K.cells)
    | (go_at_call 30; (with_reducible refine (X1.out _).mono ?_); rintro e u ⟨rfl, hbn⟩; (first | replace K := K.on hbn | replace K := K.ond hbn); clear hbn; clear c1 c2; obtain ⟨c1, c2⟩ := K.cells))
  go_region
  all_goals replace K := K.drew
  all_goals (clear c1 c2; obtain ⟨c1, c2⟩ := K.cells)
  all_goals (go_wp2_with (first
    | (go_at_call 32; (with_reducible refine (G1.out _).mono ?_); rintro e u ⟨rfl, hbn⟩; (first | replace K := K.on hbn | replace K := K.ond hbn); clear hbn; clear c1 c2; obtain ⟨c1, c2⟩ := K.cells)
    | (go_at_call 34; (with_reducible refine (F1.out _).mono ?_); rintro e u ⟨rfl, hbn⟩; (first | replace K := K.on hbn | replace K := K.ond hbn); clear hbn; clear c1 c2; obtain ⟨c1, c2⟩ := K.cells)))
  all_goals go_ret3
  all_goals exact ⟨rfl, K.below⟩
theorem ref24_Put (s : ByteArray) (p nm : Int) (x : ByteArray) (l ah : Bool) (n : Int) (hs : s.size ≤ 100000000) (hxs : x.size ≤ 10000000) (hn : n ≤ 9223372036854775807) (w : World) :
    Calls Try.prog 9 #[.string s, .int .i64 p, .agg #[.int .i64 nm, .bool l, .string x], .bool ah, .int .i64 n] w fun e w' => e = .returned (Pst.val (Pst.put s.data.toList p x.data.toList l ah n)) ∧ Below w.heap.size w w' := by
  rw [Pst.put]
  cases h : Utf.place s.data.toList p with
  | false => rw [if_neg (by simp)]; exact ref24_Put_arg s p nm x l ah n hs h w
  | true =>
    cases hv : Utf.valid x.data.toList with
    | false => rw [if_neg (by simp)]; exact ref24_Put_text s p nm x l ah n hs hxs h hv w
    | true =>
      rw [if_pos ⟨rfl, rfl⟩]
      cases l with
      | true =>
        rw [if_neg (by simp)]
        split
        · rename_i hf
          cases e0 : x.toList.isEmpty with
          | true => cases ah with
            | true => exact ref24_Put_ahead_void_ok s p nm x n hs hxs hn h hv e0 hf w
            | false => exact ref24_Put_behind_void_ok s p nm x n hs hxs hn h hv e0 hf w
          | false => cases ah with
            | true => exact ref24_Put_ahead_full_ok s p nm x n hs hxs hn h hv e0 hf w
            | false => exact ref24_Put_behind_full_ok s p nm x n hs hxs hn h hv e0 hf w
        · rename_i hf
          cases e0 : x.toList.isEmpty with
          | true => cases ah with
            | true => exact ref24_Put_ahead_void_room s p nm x n hs hxs hn h hv e0 hf w
            | false => exact ref24_Put_behind_void_room s p nm x n hs hxs hn h hv e0 hf w
          | false => cases ah with
            | true => exact ref24_Put_ahead_full_room s p nm x n hs hxs hn h hv e0 hf w
            | false => exact ref24_Put_behind_full_room s p nm x n hs hxs hn h hv e0 hf w
      | false =>
        by_cases h0 : x.data.toList = []
        · rw [if_pos ⟨h0, rfl⟩]; exact ref24_Put_none s p nm x ah n hs hxs h hv h0 w
        · rw [if_neg (fun e => h0 e.1)]
          split
          · rename_i hf
            by_cases h10 : (10 : UInt8) ∈ x.data.toList
            · cases ah with
              | true => exact ref24_Put_front_feed s p nm x n hs hxs hn h hv h0 hf h10 w
              | false =>
                cases he : Span.ends s.data.toList p.toNat with
                | true => exact ref24_Put_end_feed s p nm x n hs hxs hn h hv h0 he hf h10 w
                | false => exact ref24_Put_next_feed s p nm x n hs hxs hn h hv h0 he hf h10 w
            · cases ah with
              | true => exact ref24_Put_front_plain s p nm x n hs hxs hn h hv h0 hf h10 w
              | false =>
                cases he : Span.ends s.data.toList p.toNat with
                | true => exact ref24_Put_end_plain s p nm x n hs hxs hn h hv h0 he hf h10 w
                | false => exact ref24_Put_next_plain s p nm x n hs hxs hn h hv h0 he hf h10 w
          · rename_i hf
            cases ah with
            | true => exact ref24_Put_front_room s p nm x n hs hxs hn h hv h0 hf w
            | false =>
              cases he : Span.ends s.data.toList p.toNat with
              | true => exact ref24_Put_end_room s p nm x n hs hxs hn h hv h0 he hf w
              | false => exact ref24_Put_next_room s p nm x n hs hxs hn h hv h0 he hf w
end Go.Proofs.Ytambboomabeioaa
