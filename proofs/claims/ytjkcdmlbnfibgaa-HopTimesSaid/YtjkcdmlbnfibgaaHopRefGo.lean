/-
  The document's answer: Go, key by key, step by step.
-/
import Derived.Test.YtjkcdmlbnfibgaaHopKeys
import Derived.Test.YtjkcdmlbnfibgaaHopRefEnds
import Derived.Test.YtjkcdmlbnfibgaaHopLists
import Derived.Test.YtjkcdmlbnfibgaaUtfRefs
namespace Go.Proofs.Ytjkcdmlbnfibgaa
open Go.RowKit
namespace Hop
/-- The first place behind p from the k-th on; e, if there is none. -/
def dsc (l : List Int) (p e : Int) (k : Nat) : Int := (((l.drop k).filter fun x => decide (p < x)).head?).getD e
/-- The last place ahead of p among the first k. -/
def asc (l : List Int) (p : Int) (k : Nat) : Int := (((l.take k).filter fun x => decide (x < p)).getLast?).getD (-1)
theorem dsc_top (l : List Int) (p e : Int) : dsc l p e l.length = e := by rw [dsc, List.drop_length]; rfl
theorem dsc_yes {l : List Int} {p e x : Int} {j : Nat} (h : l[j]? = some x) (hx : p < x) : dsc l p e j = x := by
  obtain ⟨hj, rfl⟩ := List.getElem?_eq_some_iff.1 h
  rw [dsc, List.drop_eq_getElem_cons hj, List.filter_cons_of_pos (by simpa using hx)]; rfl
theorem dsc_no {l : List Int} {p e x : Int} {j : Nat} (h : l[j]? = some x) (hx : ¬ p < x) : dsc l p e j = dsc l p e (j + 1) := by
  obtain ⟨hj, rfl⟩ := List.getElem?_eq_some_iff.1 h
  rw [dsc, List.drop_eq_getElem_cons hj, List.filter_cons_of_neg (by simpa using hx)]; rfl
theorem dsc_nxt (l : List Int) (p : Int) : dsc l p (-1) 0 = nxt l p := rfl
theorem dsc_end (l : List Int) (p e : Int) (he : p < e) : dsc l p e 0 = nxt (l ++ [e]) p := by
  rw [dsc, nxt, List.drop_zero, List.filter_append, List.filter_cons_of_pos (by simpa using he), List.filter_nil]
  cases l.filter fun x => decide (p < x) <;> rfl
theorem dsc_far (l : List Int) (p e : Int) (he : ¬ p < e) : dsc l p (-1) 0 = nxt (l ++ [e]) p := by
  rw [dsc, nxt, List.drop_zero, List.filter_append, List.filter_cons_of_neg (by simpa using he), List.filter_nil, List.append_nil]
theorem asc_zero (l : List Int) (p : Int) : asc l p 0 = -1 := rfl
theorem asc_yes {l : List Int} {p x : Int} {j : Nat} (h : l[j]? = some x) (hx : x < p) : asc l p (j + 1) = x := by
  rw [asc, List.take_add_one, h, List.filter_append, Option.toList, List.filter_cons_of_pos (by simpa using hx)]; simp
theorem asc_no {l : List Int} {p x : Int} {j : Nat} (h : l[j]? = some x) (hx : ¬ x < p) : asc l p (j + 1) = asc l p j := by
  rw [asc, List.take_add_one, h, List.filter_append, Option.toList, List.filter_cons_of_neg (by simpa using hx)]; simp [asc]
theorem asc_bck (l : List Int) (p : Int) : asc l p l.length = bck l p := by rw [asc, List.take_length]; rfl
theorem iter_stop {f : Int → Int} {p : Int} {i n : Nat} (h : f (iter f i p) < 0) (hn : i ≤ n) : iter f n p = iter f i p := by
  obtain ⟨d, rfl⟩ : ∃ d, n = i + d := ⟨n - i, by omega⟩
  induction d with
  | zero => rfl
  | succ d ih => rw [← Nat.add_assoc, iter_succ, ih (by omega), if_pos h]
theorem iter_nonneg {f : Int → Int} (n : Nat) : ∀ p : Int, 0 ≤ p → 0 ≤ iter f n p := by
  induction n with
  | zero => intro p h; exact h
  | succ n ih =>
    intro p h
    by_cases h1 : f p < 0
    · rw [iter_no h1]; exact h
    · rw [iter_yes h1]; exact ih _ (by omega)
/-- What is told behind i steps. -/
theorem done_none {f : Int → Int} {p : Int} {n : Nat} (h : f (iter f 0 p) < 0) : res (times f n p) = .tuple #[.int .i64 0, .bool false] := by
  rw [iter_zero] at h
  rw [times_no h]; rfl
theorem done_stop {f : Int → Int} {p : Int} {i n : Nat} (hp : 0 ≤ p) (h0 : 0 ≤ f p) (h : f (iter f i p) < 0) (hn : i ≤ n) : res (times f n p) = .tuple #[.int .i64 (iter f i p), .bool true] := by
  rw [times_yes (by omega), iter_stop h hn, res_at (iter_nonneg i p hp)]
theorem done_all {f : Int → Int} {p : Int} {n : Nat} (hp : 0 ≤ p) (h0 : 0 ≤ f p) : res (times f n p) = .tuple #[.int .i64 (iter f n p), .bool true] := by
  rw [times_yes (by omega), res_at (iter_nonneg n p hp)]
end Hop
set_option maxRecDepth 100000 in
set_option maxHeartbeats 2000000 in
theorem ref15_Go_101_all (s : ByteArray) (p n : Int) (hs : s.size ≤ 1000000000000) (hn : n ≤ 9223372036854775807) (hn1 : ¬ n < 1) (hp : Utf.place s.data.toList p = true) (hp0 : 0 ≤ p) (w : World) :
    Calls Try.prog 14 #[.string s, .int .i64 p, .string (bs [101]), .int .i64 n] w fun e w' => e = .returned (Hop.res (Hop.times (Hop.once s.data.toList 2 false) (Hop.often n) p)) ∧ Below w.heap.size w w' := by
  have hl := data_len s
  have hwl := Hop.words_len s.data.toList false
  have c1 := Lib.hid (ref15_Has (bs [101]))
  rw [bs_toList, show (Hop.mot [101]).isSome = true from rfl] at c1
  have c2 := Lib.hid (ref_Place s p (by omega))
  rw [hp] at c2
  have c3 := Lib.hid (ref15_Starts s false hs)
  have c4 := Lib.hid (ref15_Ends s false hs)
  have t87 : ((bs [101]).toList == [87]) = false := by rw [bs_tl]; rfl
  have t66 : ((bs [101]).toList == [66]) = false := by rw [bs_tl]; rfl
  have t69 : ((bs [101]).toList == [69]) = false := by rw [bs_tl]; rfl
  have t119 : ((bs [101]).toList == [119]) = false := by rw [bs_tl]; rfl
  have t98 : ((bs [101]).toList == [98]) = false := by rw [bs_tl]; rfl
  have g0 : decide (n < 1) = false := by simp; omega
  have hof : Hid ((Hop.often n : Int) = n) := by show _ = _; unfold Hop.often; omega
  have hLl : (Hop.ends s.data.toList false).length ≤ s.size + 1 := by
    have h1 : (Hop.ends s.data.toList false).length ≤ (Hop.words s.data.toList false).length := Nat.le_trans (List.length_filter_le ..) (by rw [List.length_map]; exact Nat.le_refl _)
    omega
  have hF1 : Hid (∀ c : Int, Hop.dsc (Hop.ends s.data.toList false) c (-1) 0 = Hop.once s.data.toList 2 false c) := fun c => rfl
  have HB := Lib.hid hLl
  generalize Hop.ends s.data.toList false = xs at *
  generalize Hop.starts s.data.toList false = ys at *
  generalize Hop.once s.data.toList 2 false = F at *
  generalize bs [101] = K0 at *
  generalize Hop.often n = N at *
  have HP := Lib.hid (And.intro hp0 (And.intro hs hn))
  have HN := Lib.hid hn1
  clear hLl hwl hl hp hp0 hs hn hn1
  go_enter Try.func14, Try.ntmps14
  go_wp2_with (first
    | (go_at_call 16; refine (c1.out _).mono ?_; rintro e w0 ⟨rfl, rfl⟩)
    | (go_at_call 25; refine (c2.out _).mono ?_; rintro e w1 ⟨rfl, hb1⟩)
    | (go_at_call 10; refine (c3.out _).mono ?_; rintro e w2 ⟨⟨v, rfl, hr2⟩, hb2⟩; obtain ⟨A, c, rfl⟩ := own_shape hr2)
    | (go_at_call 12; refine (c4.out _).mono ?_; rintro e w3 ⟨⟨v, rfl, hr3⟩, hb3⟩; obtain ⟨A', c', rfl⟩ := own_shape hr3))
  have hI : Ints w3 A' xs := Ints.of_own hr3 rfl
  have HW : Hid (Below w.heap.size w w3) := (hb1.trans (hb2.mono hb1.size)).trans (hb3.mono (Nat.le_trans hb1.size hb2.size))
  clear hr2 hr3 hb1 hb2 hb3
  go_loopw [1, 13, 14] (fun pv mv iv wr => ∃ i : Nat, Hid ((i : Int) ≤ n) ∧ pv = .int .i64 (Hop.iter F i p) ∧ mv = .bool (decide (0 < i)) ∧ iv = .int .i64 i ∧ wr = w3 ∧ Hid (0 < i → 0 ≤ F p)) (fun _ _ iv _ => (n - intOf iv).toNat)
  case atStart => exact ⟨0, Lib.hid (show ((0 : Nat) : Int) ≤ n from by have := HN.out; omega), rfl, rfl, rfl, rfl, Lib.hid (fun h => absurd h (Nat.lt_irrefl 0))⟩
  case round =>
    obtain ⟨i, hi, rfl, rfl, rfl, rfl, hmv⟩ := hrel
    obtain ⟨cur, hcur⟩ : ∃ cur, Hid (Hop.iter F i p = cur) := ⟨_, rfl⟩
    rw [hcur.out]
    obtain ⟨bm, hbm⟩ : ∃ bm, Hid (decide (0 < i) = bm) := ⟨_, rfl⟩
    rw [hbm.out]
    by_cases hlt : (i : Int) < n
    · have hwi : IntKind.i64.wrap ((i : Int) + 1) = (i : Int) + 1 := by have := HP.out; rw [IntKind.wrap_i64]; omega
      have HI := Lib.hid hlt
      have gi : decide ((i : Int) < n) = true := by simp [hlt]
      clear hlt
      have hwL : IntKind.i64.wrap ((xs.length : Int) - 1) = (xs.length : Int) - 1 := by have := HP.out; have := HB.out; rw [IntKind.wrap_i64]; omega
      go_wp2
      go_loopw [15, 18] (fun tv kv wx => ∃ (k : Nat) (d : Int), k ≤ xs.length ∧ Hid (d = (k : Int) - 1) ∧ kv = .int .i64 d ∧ tv = .int .i64 (Hop.dsc xs cur (-1) k) ∧ wx = wr) (fun _ kv _ => (intOf kv + 1).toNat)
      case atStart => exact ⟨xs.length, _, Nat.le_refl _, Lib.hid rfl, rfl, by rw [Hop.dsc_top], rfl⟩
      case round =>
        obtain ⟨k, d, hk, hd, rfl, rfl, rfl⟩ := hrel
        cases k with
        | succ j =>
          obtain rfl : d = (j : Int) := by have := hd.out; omega
          have n1 : (0 : Int) ≤ (j : Int) := by omega
          have n2 : j < xs.length := by omega
          have n3 : (j : Int) < (xs.length : Int) := by omega
          have hwj : IntKind.i64.wrap ((j : Int) - 1) = (j : Int) - 1 := by have := HP.out; have := HB.out; rw [IntKind.wrap_i64]; omega
          obtain ⟨ad, rfl, hcj⟩ := hI.at_ n2
          have hxj := List.getElem?_eq_getElem n2
          by_cases hx : cur < xs[j]
          · have hst := Lib.hid (Hop.dsc_yes (e := -1) hxj hx)
            have gx : decide (cur < xs[j]) = true := by simp [hx]
            have HI2 := Lib.hid hI
            have HX := Lib.hid hx
            clear hx hxj hI hd hk
            generalize xs[j] = z at *
            go_wp2
            go_roundw
            case rel => exact ⟨j, _, by omega, Lib.hid rfl, rfl, by rw [hst.out], by trivial⟩
            case measure => simp [intOf] <;> omega
          · have hst := Lib.hid (Hop.dsc_no (e := -1) hxj hx)
            have gx : decide (cur < xs[j]) = false := by simp; omega
            have HI2 := Lib.hid hI
            have HX := Lib.hid hx
            clear hx hxj hI hd hk
            generalize xs[j] = z at *
            go_wp2
            go_roundw
            case rel => exact ⟨j, _, by omega, Lib.hid rfl, rfl, by rw [hst.out], by trivial⟩
            case measure => simp [intOf] <;> omega
        | zero =>
          obtain rfl : d = -1 := by have := hd.out; omega
          rw [hF1.out _]
          have HN2 := Lib.hid (show ((i + 1 : Nat) : Int) ≤ n from by have := HI.out; omega)
          by_cases hneg : F cur < 0
          · have gn : decide (F cur < 0) = true := by simp [hneg]
            have HNEG : Hid (F (Hop.iter F i p) < 0) := by show _ < _; rw [hcur.out]; exact hneg
            clear hneg
            generalize F cur = z at *
            cases bm with
            | true =>
              have hi0 : 0 < i := by simpa using hbm.out
              have HR := Lib.hid (Hop.done_stop (n := N) HP.out.1 (hmv.out hi0) HNEG.out (by have := hof.out; have := HI.out; omega))
              rw [hcur.out] at HR
              clear hi0
              go_wp2
              go_ret2
              exact ⟨by rw [HR.out]; rfl, HW.out⟩
            | false =>
              have hi0 : i = 0 := by have := hbm.out; simp at this; omega
              have HR : Hid (Hop.res (Hop.times F N p) = .tuple #[.int .i64 0, .bool false]) := Hop.done_none (by rw [← hi0]; exact HNEG.out)
              clear hi0
              go_wp2
              go_ret2
              exact ⟨by rw [HR.out]; rfl, HW.out⟩
          · have gn : decide (F cur < 0) = false := by simp; omega
            have HIT : Hid (Hop.iter F (i + 1) p = F cur) := by show _ = _; rw [Hop.iter_succ, hcur.out, if_neg hneg]
            have HMV : Hid (0 < i + 1 → 0 ≤ F p) := fun _ => by
              rcases Nat.eq_zero_or_pos i with h | h
              · subst h; rw [← hcur.out, Hop.iter_zero] at hneg; exact Int.not_lt.1 hneg
              · exact hmv.out h
            clear hneg
            generalize F cur = z at *
            go_wp2
            go_roundw
            case rel => exact ⟨i + 1, HN2, by rw [HIT.out], by simp, by go_num, by trivial, HMV⟩
            case measure => have := HI.out; simp [intOf] <;> omega
    · have hge : (i : Int) = n := by have := hi.out; omega
      have gi : decide ((i : Int) < n) = false := by simp; omega
      have hi0 : 0 < i := by have := HN.out; omega
      have hNi : N = i := by have := hof.out; omega
      subst hNi
      have HR := Lib.hid (Hop.done_all (f := F) (n := N) HP.out.1 (hmv.out hi0))
      rw [hcur.out] at HR
      obtain rfl : bm = true := by rw [← hbm.out]; simp [hi0]
      clear hi0 hlt hge
      go_wp2
      go_ret2
      exact ⟨by rw [HR.out]; rfl, HW.out⟩
set_option maxRecDepth 100000 in
set_option maxHeartbeats 2000000 in
theorem ref15_Go_101_low (s : ByteArray) (p n : Int) (hs : s.size ≤ 1000000000000) (hn : n ≤ 9223372036854775807) (hn1 :  n < 1) (hp : Utf.place s.data.toList p = true) (hp0 : 0 ≤ p) (w : World) :
    Calls Try.prog 14 #[.string s, .int .i64 p, .string (bs [101]), .int .i64 n] w fun e w' => e = .returned (Hop.res (Hop.times (Hop.once s.data.toList 2 false) (Hop.often n) p)) ∧ Below w.heap.size w w' := by
  have hl := data_len s
  have hwl := Hop.words_len s.data.toList false
  have c1 := Lib.hid (ref15_Has (bs [101]))
  rw [bs_toList, show (Hop.mot [101]).isSome = true from rfl] at c1
  have c2 := Lib.hid (ref_Place s p (by omega))
  rw [hp] at c2
  have c3 := Lib.hid (ref15_Starts s false hs)
  have c4 := Lib.hid (ref15_Ends s false hs)
  have t87 : ((bs [101]).toList == [87]) = false := by rw [bs_tl]; rfl
  have t66 : ((bs [101]).toList == [66]) = false := by rw [bs_tl]; rfl
  have t69 : ((bs [101]).toList == [69]) = false := by rw [bs_tl]; rfl
  have t119 : ((bs [101]).toList == [119]) = false := by rw [bs_tl]; rfl
  have t98 : ((bs [101]).toList == [98]) = false := by rw [bs_tl]; rfl
  have g0 : decide (n < 1) = true := by simp; omega
  have hof : Hid ((Hop.often n : Int) = 1) := by show _ = _; unfold Hop.often; omega
  have hLl : (Hop.ends s.data.toList false).length ≤ s.size + 1 := by
    have h1 : (Hop.ends s.data.toList false).length ≤ (Hop.words s.data.toList false).length := Nat.le_trans (List.length_filter_le ..) (by rw [List.length_map]; exact Nat.le_refl _)
    omega
  have hF1 : Hid (∀ c : Int, Hop.dsc (Hop.ends s.data.toList false) c (-1) 0 = Hop.once s.data.toList 2 false c) := fun c => rfl
  have HB := Lib.hid hLl
  generalize Hop.ends s.data.toList false = xs at *
  generalize Hop.starts s.data.toList false = ys at *
  generalize Hop.once s.data.toList 2 false = F at *
  generalize bs [101] = K0 at *
  generalize Hop.often n = N at *
  have HP := Lib.hid (And.intro hp0 (And.intro hs hn))
  have HN := Lib.hid hn1
  clear hLl hwl hl hp hp0 hs hn hn1
  go_enter Try.func14, Try.ntmps14
  go_wp2_with (first
    | (go_at_call 16; refine (c1.out _).mono ?_; rintro e w0 ⟨rfl, rfl⟩)
    | (go_at_call 25; refine (c2.out _).mono ?_; rintro e w1 ⟨rfl, hb1⟩)
    | (go_at_call 10; refine (c3.out _).mono ?_; rintro e w2 ⟨⟨v, rfl, hr2⟩, hb2⟩; obtain ⟨A, c, rfl⟩ := own_shape hr2)
    | (go_at_call 12; refine (c4.out _).mono ?_; rintro e w3 ⟨⟨v, rfl, hr3⟩, hb3⟩; obtain ⟨A', c', rfl⟩ := own_shape hr3))
  have hI : Ints w3 A' xs := Ints.of_own hr3 rfl
  have HW : Hid (Below w.heap.size w w3) := (hb1.trans (hb2.mono hb1.size)).trans (hb3.mono (Nat.le_trans hb1.size hb2.size))
  clear hr2 hr3 hb1 hb2 hb3
  go_loopw [1, 13, 14] (fun pv mv iv wr => ∃ i : Nat, Hid ((i : Int) ≤ 1) ∧ pv = .int .i64 (Hop.iter F i p) ∧ mv = .bool (decide (0 < i)) ∧ iv = .int .i64 i ∧ wr = w3 ∧ Hid (0 < i → 0 ≤ F p)) (fun _ _ iv _ => (1 - intOf iv).toNat)
  case atStart => exact ⟨0, Lib.hid (show ((0 : Nat) : Int) ≤ 1 from by have := HN.out; omega), rfl, rfl, rfl, rfl, Lib.hid (fun h => absurd h (Nat.lt_irrefl 0))⟩
  case round =>
    obtain ⟨i, hi, rfl, rfl, rfl, rfl, hmv⟩ := hrel
    obtain ⟨cur, hcur⟩ : ∃ cur, Hid (Hop.iter F i p = cur) := ⟨_, rfl⟩
    rw [hcur.out]
    obtain ⟨bm, hbm⟩ : ∃ bm, Hid (decide (0 < i) = bm) := ⟨_, rfl⟩
    rw [hbm.out]
    by_cases hlt : (i : Int) < 1
    · have hwi : IntKind.i64.wrap ((i : Int) + 1) = (i : Int) + 1 := by have := HP.out; rw [IntKind.wrap_i64]; omega
      have HI := Lib.hid hlt
      have gi : decide ((i : Int) < 1) = true := by simp [hlt]
      clear hlt
      have hwL : IntKind.i64.wrap ((xs.length : Int) - 1) = (xs.length : Int) - 1 := by have := HP.out; have := HB.out; rw [IntKind.wrap_i64]; omega
      go_wp2
      go_loopw [15, 18] (fun tv kv wx => ∃ (k : Nat) (d : Int), k ≤ xs.length ∧ Hid (d = (k : Int) - 1) ∧ kv = .int .i64 d ∧ tv = .int .i64 (Hop.dsc xs cur (-1) k) ∧ wx = wr) (fun _ kv _ => (intOf kv + 1).toNat)
      case atStart => exact ⟨xs.length, _, Nat.le_refl _, Lib.hid rfl, rfl, by rw [Hop.dsc_top], rfl⟩
      case round =>
        obtain ⟨k, d, hk, hd, rfl, rfl, rfl⟩ := hrel
        cases k with
        | succ j =>
          obtain rfl : d = (j : Int) := by have := hd.out; omega
          have n1 : (0 : Int) ≤ (j : Int) := by omega
          have n2 : j < xs.length := by omega
          have n3 : (j : Int) < (xs.length : Int) := by omega
          have hwj : IntKind.i64.wrap ((j : Int) - 1) = (j : Int) - 1 := by have := HP.out; have := HB.out; rw [IntKind.wrap_i64]; omega
          obtain ⟨ad, rfl, hcj⟩ := hI.at_ n2
          have hxj := List.getElem?_eq_getElem n2
          by_cases hx : cur < xs[j]
          · have hst := Lib.hid (Hop.dsc_yes (e := -1) hxj hx)
            have gx : decide (cur < xs[j]) = true := by simp [hx]
            have HI2 := Lib.hid hI
            have HX := Lib.hid hx
            clear hx hxj hI hd hk
            generalize xs[j] = z at *
            go_wp2
            go_roundw
            case rel => exact ⟨j, _, by omega, Lib.hid rfl, rfl, by rw [hst.out], by trivial⟩
            case measure => simp [intOf] <;> omega
          · have hst := Lib.hid (Hop.dsc_no (e := -1) hxj hx)
            have gx : decide (cur < xs[j]) = false := by simp; omega
            have HI2 := Lib.hid hI
            have HX := Lib.hid hx
            clear hx hxj hI hd hk
            generalize xs[j] = z at *
            go_wp2
            go_roundw
            case rel => exact ⟨j, _, by omega, Lib.hid rfl, rfl, by rw [hst.out], by trivial⟩
            case measure => simp [intOf] <;> omega
        | zero =>
          obtain rfl : d = -1 := by have := hd.out; omega
          rw [hF1.out _]
          have HN2 := Lib.hid (show ((i + 1 : Nat) : Int) ≤ 1 from by have := HI.out; omega)
          by_cases hneg : F cur < 0
          · have gn : decide (F cur < 0) = true := by simp [hneg]
            have HNEG : Hid (F (Hop.iter F i p) < 0) := by show _ < _; rw [hcur.out]; exact hneg
            clear hneg
            generalize F cur = z at *
            cases bm with
            | true =>
              have hi0 : 0 < i := by simpa using hbm.out
              have HR := Lib.hid (Hop.done_stop (n := N) HP.out.1 (hmv.out hi0) HNEG.out (by have := hof.out; have := HI.out; omega))
              rw [hcur.out] at HR
              clear hi0
              go_wp2
              go_ret2
              exact ⟨by rw [HR.out]; rfl, HW.out⟩
            | false =>
              have hi0 : i = 0 := by have := hbm.out; simp at this; omega
              have HR : Hid (Hop.res (Hop.times F N p) = .tuple #[.int .i64 0, .bool false]) := Hop.done_none (by rw [← hi0]; exact HNEG.out)
              clear hi0
              go_wp2
              go_ret2
              exact ⟨by rw [HR.out]; rfl, HW.out⟩
          · have gn : decide (F cur < 0) = false := by simp; omega
            have HIT : Hid (Hop.iter F (i + 1) p = F cur) := by show _ = _; rw [Hop.iter_succ, hcur.out, if_neg hneg]
            have HMV : Hid (0 < i + 1 → 0 ≤ F p) := fun _ => by
              rcases Nat.eq_zero_or_pos i with h | h
              · subst h; rw [← hcur.out, Hop.iter_zero] at hneg; exact Int.not_lt.1 hneg
              · exact hmv.out h
            clear hneg
            generalize F cur = z at *
            go_wp2
            go_roundw
            case rel => exact ⟨i + 1, HN2, by rw [HIT.out], by simp, by go_num, by trivial, HMV⟩
            case measure => have := HI.out; simp [intOf] <;> omega
    · have hge : (i : Int) = 1 := by have := hi.out; omega
      have gi : decide ((i : Int) < 1) = false := by simp; omega
      have hi0 : 0 < i := by have := HN.out; omega
      have hNi : N = i := by have := hof.out; omega
      subst hNi
      have HR := Lib.hid (Hop.done_all (f := F) (n := N) HP.out.1 (hmv.out hi0))
      rw [hcur.out] at HR
      obtain rfl : bm = true := by rw [← hbm.out]; simp [hi0]
      clear hi0 hlt hge
      go_wp2
      go_ret2
      exact ⟨by rw [HR.out]; rfl, HW.out⟩
set_option maxRecDepth 100000 in
set_option maxHeartbeats 2000000 in
theorem ref15_Go_69_all (s : ByteArray) (p n : Int) (hs : s.size ≤ 1000000000000) (hn : n ≤ 9223372036854775807) (hn1 : ¬ n < 1) (hp : Utf.place s.data.toList p = true) (hp0 : 0 ≤ p) (w : World) :
    Calls Try.prog 14 #[.string s, .int .i64 p, .string (bs [69]), .int .i64 n] w fun e w' => e = .returned (Hop.res (Hop.times (Hop.once s.data.toList 2 true) (Hop.often n) p)) ∧ Below w.heap.size w w' := by
  have hl := data_len s
  have hwl := Hop.words_len s.data.toList true
  have c1 := Lib.hid (ref15_Has (bs [69]))
  rw [bs_toList, show (Hop.mot [69]).isSome = true from rfl] at c1
  have c2 := Lib.hid (ref_Place s p (by omega))
  rw [hp] at c2
  have c3 := Lib.hid (ref15_Starts s true hs)
  have c4 := Lib.hid (ref15_Ends s true hs)
  have t87 : ((bs [69]).toList == [87]) = false := by rw [bs_tl]; rfl
  have t66 : ((bs [69]).toList == [66]) = false := by rw [bs_tl]; rfl
  have t69 : ((bs [69]).toList == [69]) = true := by rw [bs_tl]; rfl
  have t119 : ((bs [69]).toList == [119]) = false := by rw [bs_tl]; rfl
  have t98 : ((bs [69]).toList == [98]) = false := by rw [bs_tl]; rfl
  have g0 : decide (n < 1) = false := by simp; omega
  have hof : Hid ((Hop.often n : Int) = n) := by show _ = _; unfold Hop.often; omega
  have hLl : (Hop.ends s.data.toList true).length ≤ s.size + 1 := by
    have h1 : (Hop.ends s.data.toList true).length ≤ (Hop.words s.data.toList true).length := Nat.le_trans (List.length_filter_le ..) (by rw [List.length_map]; exact Nat.le_refl _)
    omega
  have hF1 : Hid (∀ c : Int, Hop.dsc (Hop.ends s.data.toList true) c (-1) 0 = Hop.once s.data.toList 2 true c) := fun c => rfl
  have HB := Lib.hid hLl
  generalize Hop.ends s.data.toList true = xs at *
  generalize Hop.starts s.data.toList true = ys at *
  generalize Hop.once s.data.toList 2 true = F at *
  generalize bs [69] = K0 at *
  generalize Hop.often n = N at *
  have HP := Lib.hid (And.intro hp0 (And.intro hs hn))
  have HN := Lib.hid hn1
  clear hLl hwl hl hp hp0 hs hn hn1
  go_enter Try.func14, Try.ntmps14
  go_wp2_with (first
    | (go_at_call 16; refine (c1.out _).mono ?_; rintro e w0 ⟨rfl, rfl⟩)
    | (go_at_call 25; refine (c2.out _).mono ?_; rintro e w1 ⟨rfl, hb1⟩)
    | (go_at_call 10; refine (c3.out _).mono ?_; rintro e w2 ⟨⟨v, rfl, hr2⟩, hb2⟩; obtain ⟨A, c, rfl⟩ := own_shape hr2)
    | (go_at_call 12; refine (c4.out _).mono ?_; rintro e w3 ⟨⟨v, rfl, hr3⟩, hb3⟩; obtain ⟨A', c', rfl⟩ := own_shape hr3))
  have hI : Ints w3 A' xs := Ints.of_own hr3 rfl
  have HW : Hid (Below w.heap.size w w3) := (hb1.trans (hb2.mono hb1.size)).trans (hb3.mono (Nat.le_trans hb1.size hb2.size))
  clear hr2 hr3 hb1 hb2 hb3
  go_loopw [1, 13, 14] (fun pv mv iv wr => ∃ i : Nat, Hid ((i : Int) ≤ n) ∧ pv = .int .i64 (Hop.iter F i p) ∧ mv = .bool (decide (0 < i)) ∧ iv = .int .i64 i ∧ wr = w3 ∧ Hid (0 < i → 0 ≤ F p)) (fun _ _ iv _ => (n - intOf iv).toNat)
  case atStart => exact ⟨0, Lib.hid (show ((0 : Nat) : Int) ≤ n from by have := HN.out; omega), rfl, rfl, rfl, rfl, Lib.hid (fun h => absurd h (Nat.lt_irrefl 0))⟩
  case round =>
    obtain ⟨i, hi, rfl, rfl, rfl, rfl, hmv⟩ := hrel
    obtain ⟨cur, hcur⟩ : ∃ cur, Hid (Hop.iter F i p = cur) := ⟨_, rfl⟩
    rw [hcur.out]
    obtain ⟨bm, hbm⟩ : ∃ bm, Hid (decide (0 < i) = bm) := ⟨_, rfl⟩
    rw [hbm.out]
    by_cases hlt : (i : Int) < n
    · have hwi : IntKind.i64.wrap ((i : Int) + 1) = (i : Int) + 1 := by have := HP.out; rw [IntKind.wrap_i64]; omega
      have HI := Lib.hid hlt
      have gi : decide ((i : Int) < n) = true := by simp [hlt]
      clear hlt
      have hwL : IntKind.i64.wrap ((xs.length : Int) - 1) = (xs.length : Int) - 1 := by have := HP.out; have := HB.out; rw [IntKind.wrap_i64]; omega
      go_wp2
      go_loopw [15, 18] (fun tv kv wx => ∃ (k : Nat) (d : Int), k ≤ xs.length ∧ Hid (d = (k : Int) - 1) ∧ kv = .int .i64 d ∧ tv = .int .i64 (Hop.dsc xs cur (-1) k) ∧ wx = wr) (fun _ kv _ => (intOf kv + 1).toNat)
      case atStart => exact ⟨xs.length, _, Nat.le_refl _, Lib.hid rfl, rfl, by rw [Hop.dsc_top], rfl⟩
      case round =>
        obtain ⟨k, d, hk, hd, rfl, rfl, rfl⟩ := hrel
        cases k with
        | succ j =>
          obtain rfl : d = (j : Int) := by have := hd.out; omega
          have n1 : (0 : Int) ≤ (j : Int) := by omega
          have n2 : j < xs.length := by omega
          have n3 : (j : Int) < (xs.length : Int) := by omega
          have hwj : IntKind.i64.wrap ((j : Int) - 1) = (j : Int) - 1 := by have := HP.out; have := HB.out; rw [IntKind.wrap_i64]; omega
          obtain ⟨ad, rfl, hcj⟩ := hI.at_ n2
          have hxj := List.getElem?_eq_getElem n2
          by_cases hx : cur < xs[j]
          · have hst := Lib.hid (Hop.dsc_yes (e := -1) hxj hx)
            have gx : decide (cur < xs[j]) = true := by simp [hx]
            have HI2 := Lib.hid hI
            have HX := Lib.hid hx
            clear hx hxj hI hd hk
            generalize xs[j] = z at *
            go_wp2
            go_roundw
            case rel => exact ⟨j, _, by omega, Lib.hid rfl, rfl, by rw [hst.out], by trivial⟩
            case measure => simp [intOf] <;> omega
          · have hst := Lib.hid (Hop.dsc_no (e := -1) hxj hx)
            have gx : decide (cur < xs[j]) = false := by simp; omega
            have HI2 := Lib.hid hI
            have HX := Lib.hid hx
            clear hx hxj hI hd hk
            generalize xs[j] = z at *
            go_wp2
            go_roundw
            case rel => exact ⟨j, _, by omega, Lib.hid rfl, rfl, by rw [hst.out], by trivial⟩
            case measure => simp [intOf] <;> omega
        | zero =>
          obtain rfl : d = -1 := by have := hd.out; omega
          rw [hF1.out _]
          have HN2 := Lib.hid (show ((i + 1 : Nat) : Int) ≤ n from by have := HI.out; omega)
          by_cases hneg : F cur < 0
          · have gn : decide (F cur < 0) = true := by simp [hneg]
            have HNEG : Hid (F (Hop.iter F i p) < 0) := by show _ < _; rw [hcur.out]; exact hneg
            clear hneg
            generalize F cur = z at *
            cases bm with
            | true =>
              have hi0 : 0 < i := by simpa using hbm.out
              have HR := Lib.hid (Hop.done_stop (n := N) HP.out.1 (hmv.out hi0) HNEG.out (by have := hof.out; have := HI.out; omega))
              rw [hcur.out] at HR
              clear hi0
              go_wp2
              go_ret2
              exact ⟨by rw [HR.out]; rfl, HW.out⟩
            | false =>
              have hi0 : i = 0 := by have := hbm.out; simp at this; omega
              have HR : Hid (Hop.res (Hop.times F N p) = .tuple #[.int .i64 0, .bool false]) := Hop.done_none (by rw [← hi0]; exact HNEG.out)
              clear hi0
              go_wp2
              go_ret2
              exact ⟨by rw [HR.out]; rfl, HW.out⟩
          · have gn : decide (F cur < 0) = false := by simp; omega
            have HIT : Hid (Hop.iter F (i + 1) p = F cur) := by show _ = _; rw [Hop.iter_succ, hcur.out, if_neg hneg]
            have HMV : Hid (0 < i + 1 → 0 ≤ F p) := fun _ => by
              rcases Nat.eq_zero_or_pos i with h | h
              · subst h; rw [← hcur.out, Hop.iter_zero] at hneg; exact Int.not_lt.1 hneg
              · exact hmv.out h
            clear hneg
            generalize F cur = z at *
            go_wp2
            go_roundw
            case rel => exact ⟨i + 1, HN2, by rw [HIT.out], by simp, by go_num, by trivial, HMV⟩
            case measure => have := HI.out; simp [intOf] <;> omega
    · have hge : (i : Int) = n := by have := hi.out; omega
      have gi : decide ((i : Int) < n) = false := by simp; omega
      have hi0 : 0 < i := by have := HN.out; omega
      have hNi : N = i := by have := hof.out; omega
      subst hNi
      have HR := Lib.hid (Hop.done_all (f := F) (n := N) HP.out.1 (hmv.out hi0))
      rw [hcur.out] at HR
      obtain rfl : bm = true := by rw [← hbm.out]; simp [hi0]
      clear hi0 hlt hge
      go_wp2
      go_ret2
      exact ⟨by rw [HR.out]; rfl, HW.out⟩
set_option maxRecDepth 100000 in
set_option maxHeartbeats 2000000 in
theorem ref15_Go_69_low (s : ByteArray) (p n : Int) (hs : s.size ≤ 1000000000000) (hn : n ≤ 9223372036854775807) (hn1 :  n < 1) (hp : Utf.place s.data.toList p = true) (hp0 : 0 ≤ p) (w : World) :
    Calls Try.prog 14 #[.string s, .int .i64 p, .string (bs [69]), .int .i64 n] w fun e w' => e = .returned (Hop.res (Hop.times (Hop.once s.data.toList 2 true) (Hop.often n) p)) ∧ Below w.heap.size w w' := by
  have hl := data_len s
  have hwl := Hop.words_len s.data.toList true
  have c1 := Lib.hid (ref15_Has (bs [69]))
  rw [bs_toList, show (Hop.mot [69]).isSome = true from rfl] at c1
  have c2 := Lib.hid (ref_Place s p (by omega))
  rw [hp] at c2
  have c3 := Lib.hid (ref15_Starts s true hs)
  have c4 := Lib.hid (ref15_Ends s true hs)
  have t87 : ((bs [69]).toList == [87]) = false := by rw [bs_tl]; rfl
  have t66 : ((bs [69]).toList == [66]) = false := by rw [bs_tl]; rfl
  have t69 : ((bs [69]).toList == [69]) = true := by rw [bs_tl]; rfl
  have t119 : ((bs [69]).toList == [119]) = false := by rw [bs_tl]; rfl
  have t98 : ((bs [69]).toList == [98]) = false := by rw [bs_tl]; rfl
  have g0 : decide (n < 1) = true := by simp; omega
  have hof : Hid ((Hop.often n : Int) = 1) := by show _ = _; unfold Hop.often; omega
  have hLl : (Hop.ends s.data.toList true).length ≤ s.size + 1 := by
    have h1 : (Hop.ends s.data.toList true).length ≤ (Hop.words s.data.toList true).length := Nat.le_trans (List.length_filter_le ..) (by rw [List.length_map]; exact Nat.le_refl _)
    omega
  have hF1 : Hid (∀ c : Int, Hop.dsc (Hop.ends s.data.toList true) c (-1) 0 = Hop.once s.data.toList 2 true c) := fun c => rfl
  have HB := Lib.hid hLl
  generalize Hop.ends s.data.toList true = xs at *
  generalize Hop.starts s.data.toList true = ys at *
  generalize Hop.once s.data.toList 2 true = F at *
  generalize bs [69] = K0 at *
  generalize Hop.often n = N at *
  have HP := Lib.hid (And.intro hp0 (And.intro hs hn))
  have HN := Lib.hid hn1
  clear hLl hwl hl hp hp0 hs hn hn1
  go_enter Try.func14, Try.ntmps14
  go_wp2_with (first
    | (go_at_call 16; refine (c1.out _).mono ?_; rintro e w0 ⟨rfl, rfl⟩)
    | (go_at_call 25; refine (c2.out _).mono ?_; rintro e w1 ⟨rfl, hb1⟩)
    | (go_at_call 10; refine (c3.out _).mono ?_; rintro e w2 ⟨⟨v, rfl, hr2⟩, hb2⟩; obtain ⟨A, c, rfl⟩ := own_shape hr2)
    | (go_at_call 12; refine (c4.out _).mono ?_; rintro e w3 ⟨⟨v, rfl, hr3⟩, hb3⟩; obtain ⟨A', c', rfl⟩ := own_shape hr3))
  have hI : Ints w3 A' xs := Ints.of_own hr3 rfl
  have HW : Hid (Below w.heap.size w w3) := (hb1.trans (hb2.mono hb1.size)).trans (hb3.mono (Nat.le_trans hb1.size hb2.size))
  clear hr2 hr3 hb1 hb2 hb3
  go_loopw [1, 13, 14] (fun pv mv iv wr => ∃ i : Nat, Hid ((i : Int) ≤ 1) ∧ pv = .int .i64 (Hop.iter F i p) ∧ mv = .bool (decide (0 < i)) ∧ iv = .int .i64 i ∧ wr = w3 ∧ Hid (0 < i → 0 ≤ F p)) (fun _ _ iv _ => (1 - intOf iv).toNat)
  case atStart => exact ⟨0, Lib.hid (show ((0 : Nat) : Int) ≤ 1 from by have := HN.out; omega), rfl, rfl, rfl, rfl, Lib.hid (fun h => absurd h (Nat.lt_irrefl 0))⟩
  case round =>
    obtain ⟨i, hi, rfl, rfl, rfl, rfl, hmv⟩ := hrel
    obtain ⟨cur, hcur⟩ : ∃ cur, Hid (Hop.iter F i p = cur) := ⟨_, rfl⟩
    rw [hcur.out]
    obtain ⟨bm, hbm⟩ : ∃ bm, Hid (decide (0 < i) = bm) := ⟨_, rfl⟩
    rw [hbm.out]
    by_cases hlt : (i : Int) < 1
    · have hwi : IntKind.i64.wrap ((i : Int) + 1) = (i : Int) + 1 := by have := HP.out; rw [IntKind.wrap_i64]; omega
      have HI := Lib.hid hlt
      have gi : decide ((i : Int) < 1) = true := by simp [hlt]
      clear hlt
      have hwL : IntKind.i64.wrap ((xs.length : Int) - 1) = (xs.length : Int) - 1 := by have := HP.out; have := HB.out; rw [IntKind.wrap_i64]; omega
      go_wp2
      go_loopw [15, 18] (fun tv kv wx => ∃ (k : Nat) (d : Int), k ≤ xs.length ∧ Hid (d = (k : Int) - 1) ∧ kv = .int .i64 d ∧ tv = .int .i64 (Hop.dsc xs cur (-1) k) ∧ wx = wr) (fun _ kv _ => (intOf kv + 1).toNat)
      case atStart => exact ⟨xs.length, _, Nat.le_refl _, Lib.hid rfl, rfl, by rw [Hop.dsc_top], rfl⟩
      case round =>
        obtain ⟨k, d, hk, hd, rfl, rfl, rfl⟩ := hrel
        cases k with
        | succ j =>
          obtain rfl : d = (j : Int) := by have := hd.out; omega
          have n1 : (0 : Int) ≤ (j : Int) := by omega
          have n2 : j < xs.length := by omega
          have n3 : (j : Int) < (xs.length : Int) := by omega
          have hwj : IntKind.i64.wrap ((j : Int) - 1) = (j : Int) - 1 := by have := HP.out; have := HB.out; rw [IntKind.wrap_i64]; omega
          obtain ⟨ad, rfl, hcj⟩ := hI.at_ n2
          have hxj := List.getElem?_eq_getElem n2
          by_cases hx : cur < xs[j]
          · have hst := Lib.hid (Hop.dsc_yes (e := -1) hxj hx)
            have gx : decide (cur < xs[j]) = true := by simp [hx]
            have HI2 := Lib.hid hI
            have HX := Lib.hid hx
            clear hx hxj hI hd hk
            generalize xs[j] = z at *
            go_wp2
            go_roundw
            case rel => exact ⟨j, _, by omega, Lib.hid rfl, rfl, by rw [hst.out], by trivial⟩
            case measure => simp [intOf] <;> omega
          · have hst := Lib.hid (Hop.dsc_no (e := -1) hxj hx)
            have gx : decide (cur < xs[j]) = false := by simp; omega
            have HI2 := Lib.hid hI
            have HX := Lib.hid hx
            clear hx hxj hI hd hk
            generalize xs[j] = z at *
            go_wp2
            go_roundw
            case rel => exact ⟨j, _, by omega, Lib.hid rfl, rfl, by rw [hst.out], by trivial⟩
            case measure => simp [intOf] <;> omega
        | zero =>
          obtain rfl : d = -1 := by have := hd.out; omega
          rw [hF1.out _]
          have HN2 := Lib.hid (show ((i + 1 : Nat) : Int) ≤ 1 from by have := HI.out; omega)
          by_cases hneg : F cur < 0
          · have gn : decide (F cur < 0) = true := by simp [hneg]
            have HNEG : Hid (F (Hop.iter F i p) < 0) := by show _ < _; rw [hcur.out]; exact hneg
            clear hneg
            generalize F cur = z at *
            cases bm with
            | true =>
              have hi0 : 0 < i := by simpa using hbm.out
              have HR := Lib.hid (Hop.done_stop (n := N) HP.out.1 (hmv.out hi0) HNEG.out (by have := hof.out; have := HI.out; omega))
              rw [hcur.out] at HR
              clear hi0
              go_wp2
              go_ret2
              exact ⟨by rw [HR.out]; rfl, HW.out⟩
            | false =>
              have hi0 : i = 0 := by have := hbm.out; simp at this; omega
              have HR : Hid (Hop.res (Hop.times F N p) = .tuple #[.int .i64 0, .bool false]) := Hop.done_none (by rw [← hi0]; exact HNEG.out)
              clear hi0
              go_wp2
              go_ret2
              exact ⟨by rw [HR.out]; rfl, HW.out⟩
          · have gn : decide (F cur < 0) = false := by simp; omega
            have HIT : Hid (Hop.iter F (i + 1) p = F cur) := by show _ = _; rw [Hop.iter_succ, hcur.out, if_neg hneg]
            have HMV : Hid (0 < i + 1 → 0 ≤ F p) := fun _ => by
              rcases Nat.eq_zero_or_pos i with h | h
              · subst h; rw [← hcur.out, Hop.iter_zero] at hneg; exact Int.not_lt.1 hneg
              · exact hmv.out h
            clear hneg
            generalize F cur = z at *
            go_wp2
            go_roundw
            case rel => exact ⟨i + 1, HN2, by rw [HIT.out], by simp, by go_num, by trivial, HMV⟩
            case measure => have := HI.out; simp [intOf] <;> omega
    · have hge : (i : Int) = 1 := by have := hi.out; omega
      have gi : decide ((i : Int) < 1) = false := by simp; omega
      have hi0 : 0 < i := by have := HN.out; omega
      have hNi : N = i := by have := hof.out; omega
      subst hNi
      have HR := Lib.hid (Hop.done_all (f := F) (n := N) HP.out.1 (hmv.out hi0))
      rw [hcur.out] at HR
      obtain rfl : bm = true := by rw [← hbm.out]; simp [hi0]
      clear hi0 hlt hge
      go_wp2
      go_ret2
      exact ⟨by rw [HR.out]; rfl, HW.out⟩
end Go.Proofs.Ytjkcdmlbnfibgaa
