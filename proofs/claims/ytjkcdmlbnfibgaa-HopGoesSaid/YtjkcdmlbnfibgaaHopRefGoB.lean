/-
  The document's answer: Go, key by key: back.
-/
import Derived.Test.YtjkcdmlbnfibgaaHopRefGo
namespace Go.Proofs.Ytjkcdmlbnfibgaa
open Go.RowKit
set_option maxRecDepth 100000 in
set_option maxHeartbeats 2000000 in
theorem ref15_Go_98_all (s : ByteArray) (p n : Int) (hs : s.size ≤ 1000000000000) (hn : n ≤ 9223372036854775807) (hn1 : ¬ n < 1) (hp : Utf.place s.data.toList p = true) (hp0 : 0 ≤ p) (w : World) :
    Calls Try.prog 14 #[.string s, .int .i64 p, .string (bs [98]), .int .i64 n] w fun e w' => e = .returned (Hop.res (Hop.times (Hop.once s.data.toList 1 false) (Hop.often n) p)) ∧ Below w.heap.size w w' := by
  have hl := data_len s
  have hwl := Hop.words_len s.data.toList false
  have c1 := Lib.hid (ref15_Has (bs [98]))
  rw [bs_toList, show (Hop.mot [98]).isSome = true from rfl] at c1
  have c2 := Lib.hid (ref_Place s p (by omega))
  rw [hp] at c2
  have c3 := Lib.hid (ref15_Starts s false hs)
  have c4 := Lib.hid (ref15_Ends s false hs)
  have t87 : ((bs [98]).toList == [87]) = false := by rw [bs_tl]; rfl
  have t66 : ((bs [98]).toList == [66]) = false := by rw [bs_tl]; rfl
  have t69 : ((bs [98]).toList == [69]) = false := by rw [bs_tl]; rfl
  have t119 : ((bs [98]).toList == [119]) = false := by rw [bs_tl]; rfl
  have t98 : ((bs [98]).toList == [98]) = true := by rw [bs_tl]; rfl
  have g0 : decide (n < 1) = false := by simp; omega
  have hof : Hid ((Hop.often n : Int) = n) := by show _ = _; unfold Hop.often; omega
  have hLl : (Hop.starts s.data.toList false).length ≤ s.size + 1 := by
    rw [Hop.starts, List.length_map]; omega
  have hF1 : Hid (∀ c : Int, Hop.asc (Hop.starts s.data.toList false) c (Hop.starts s.data.toList false).length = Hop.once s.data.toList 1 false c) := fun c => Hop.asc_bck _ _
  have HB := Lib.hid hLl
  generalize Hop.starts s.data.toList false = xs at *
  generalize Hop.ends s.data.toList false = ys at *
  generalize Hop.once s.data.toList 1 false = F at *
  generalize bs [98] = K0 at *
  generalize Hop.often n = N at *
  have HP := Lib.hid (And.intro hp0 (And.intro hs hn))
  have HN := Lib.hid hn1
  clear hLl hwl hl hp hp0 hs hn hn1
  go_enter Try.func14, Try.ntmps14
  go_wp2_with (first
    | (go_at_call 16; refine (c1.out _).mono ?_; rintro e w0 ⟨rfl, rfl⟩)
    | (go_at_call 25; refine (c2.out _).mono ?_; rintro e w1 ⟨rfl, hb1⟩)
    | (go_at_call 10; refine (c3.out _).mono ?_; rintro e w2 ⟨⟨v, rfl, hr2⟩, hb2⟩; obtain ⟨A, c, rfl⟩ := own_shape hr2)
    | (go_at_call 12; refine (c4.out _).mono ?_; rintro e w3 ⟨⟨v, rfl, hr3⟩, hb3⟩; obtain ⟨A', c', rfl⟩ := own_shape hr3))
  have hI : Ints w3 A xs := (Ints.of_own hr2 rfl).grown (gb_below none hb3) (fun _ _ h => by cases h)
  have HW : Hid (Below w.heap.size w w3) := (hb1.trans (hb2.mono hb1.size)).trans (hb3.mono (Nat.le_trans hb1.size hb2.size))
  clear hr2 hr3 hb1 hb2 hb3
  go_loopw [1, 13, 14] (fun pv mv iv wr => ∃ i : Nat, Hid ((i : Int) ≤ n) ∧ pv = .int .i64 (Hop.iter F i p) ∧ mv = .bool (decide (0 < i)) ∧ iv = .int .i64 i ∧ wr = w3 ∧ Hid (0 < i → 0 ≤ F p)) (fun _ _ iv _ => (n - intOf iv).toNat)
  case atStart => exact ⟨0, Lib.hid (show ((0 : Nat) : Int) ≤ n from by have := HN.out; omega), rfl, rfl, rfl, rfl, Lib.hid (fun h => absurd h (Nat.lt_irrefl 0))⟩
  case round =>
    obtain ⟨i, hi, rfl, rfl, rfl, rfl, hmv⟩ := hrel
    obtain ⟨cur, hcur⟩ : ∃ cur, Hid (Hop.iter F i p = cur) := ⟨_, rfl⟩
    rw [hcur.out]
    obtain ⟨bm, hbm⟩ : ∃ bm, Hid (decide (0 < i) = bm) := ⟨_, rfl⟩
    rw [hbm.out]
    by_cases hlt : (i : Int) < n
    · have hwi : IntKind.i64.wrap ((i : Int) + 1) = (i : Int) + 1 := by have := HP.out; rw [IntKind.wrap_i64]; omega
      have HI := Lib.hid hlt
      have gi : decide ((i : Int) < n) = true := by simp [hlt]
      clear hlt
      go_wp2
      go_loopw [15, 17] (fun tv kv wx => ∃ k : Nat, k ≤ xs.length ∧ kv = .int .i64 k ∧ tv = .int .i64 (Hop.asc xs cur k) ∧ wx = wr) (fun _ kv _ => xs.length - (intOf kv).toNat)
      case atStart => exact ⟨0, Nat.zero_le _, rfl, by rw [Hop.asc_zero], rfl⟩
      case round =>
        obtain ⟨k, hk, rfl, rfl, rfl⟩ := hrel
        by_cases n2 : k < xs.length
        · have n1 : (0 : Int) ≤ (k : Int) := by omega
          have n3 : (k : Int) < (xs.length : Int) := by omega
          have hwj : IntKind.i64.wrap ((k : Int) + 1) = (k : Int) + 1 := by have := HP.out; have := HB.out; rw [IntKind.wrap_i64]; omega
          obtain ⟨ad, rfl, hcj⟩ := hI.at_ n2
          have hxj := List.getElem?_eq_getElem n2
          by_cases hx : xs[k] < cur
          · have hst := Lib.hid (Hop.asc_yes hxj hx)
            have gx : decide (xs[k] < cur) = true := by simp [hx]
            have HI2 := Lib.hid hI
            have HX := Lib.hid hx
            clear hx hxj hI hk
            generalize xs[k] = z at *
            go_wp2
            go_roundw
            case rel => exact ⟨k + 1, by omega, by go_num, by rw [hst.out], by trivial⟩
            case measure => simp [intOf] <;> omega
          · have hst := Lib.hid (Hop.asc_no hxj hx)
            have gx : decide (xs[k] < cur) = false := by simp; omega
            have HI2 := Lib.hid hI
            have HX := Lib.hid hx
            clear hx hxj hI hk
            generalize xs[k] = z at *
            go_wp2
            go_roundw
            case rel => exact ⟨k + 1, by omega, by go_num, by rw [hst.out], by trivial⟩
            case measure => simp [intOf] <;> omega
        · obtain rfl : k = xs.length := by omega
          rw [hF1.out _]
          have HN2 := Lib.hid (show ((i + 1 : Nat) : Int) ≤ n from by have := HI.out; omega)
          by_cases hneg : F cur < 0
          · have gn : decide (F cur < 0) = true := by simp [hneg]
            have HNEG : Hid (F (Hop.iter F i p) < 0) := by show _ < _; rw [hcur.out]; exact hneg
            clear hneg
            generalize F cur = z at *
            cases bm with
            | true =>
              have hi0 : 0 < i := by simpa using hbm.out
              have HR := Lib.hid (Hop.done_stop (n := N) HP.out.1 (hmv.out hi0) HNEG.out (by have := hof.out; have := HI.out; omega))
              rw [hcur.out] at HR
              clear hi0
              go_wp2
              go_ret2
              exact ⟨by rw [HR.out]; rfl, HW.out⟩
            | false =>
              have hi0 : i = 0 := by have := hbm.out; simp at this; omega
              have HR : Hid (Hop.res (Hop.times F N p) = .tuple #[.int .i64 0, .bool false]) := Hop.done_none (by rw [← hi0]; exact HNEG.out)
              clear hi0
              go_wp2
              go_ret2
              exact ⟨by rw [HR.out]; rfl, HW.out⟩
          · have gn : decide (F cur < 0) = false := by simp; omega
            have HIT : Hid (Hop.iter F (i + 1) p = F cur) := by show _ = _; rw [Hop.iter_succ, hcur.out, if_neg hneg]
            have HMV : Hid (0 < i + 1 → 0 ≤ F p) := fun _ => by
              rcases Nat.eq_zero_or_pos i with h | h
              · subst h; rw [← hcur.out, Hop.iter_zero] at hneg; exact Int.not_lt.1 hneg
              · exact hmv.out h
            clear hneg
            generalize F cur = z at *
            go_wp2
            go_roundw
            case rel => exact ⟨i + 1, HN2, by rw [HIT.out], by simp, by go_num, by trivial, HMV⟩
            case measure => have := HI.out; simp [intOf] <;> omega
    · have hge : (i : Int) = n := by have := hi.out; omega
      have gi : decide ((i : Int) < n) = false := by simp; omega
      have hi0 : 0 < i := by have := HN.out; omega
      have hNi : N = i := by have := hof.out; omega
      subst hNi
      have HR := Lib.hid (Hop.done_all (f := F) (n := N) HP.out.1 (hmv.out hi0))
      rw [hcur.out] at HR
      obtain rfl : bm = true := by rw [← hbm.out]; simp [hi0]
      clear hi0 hlt hge
      go_wp2
      go_ret2
      exact ⟨by rw [HR.out]; rfl, HW.out⟩
set_option maxRecDepth 100000 in
set_option maxHeartbeats 2000000 in
theorem ref15_Go_98_low (s : ByteArray) (p n : Int) (hs : s.size ≤ 1000000000000) (hn : n ≤ 9223372036854775807) (hn1 :  n < 1) (hp : Utf.place s.data.toList p = true) (hp0 : 0 ≤ p) (w : World) :
    Calls Try.prog 14 #[.string s, .int .i64 p, .string (bs [98]), .int .i64 n] w fun e w' => e = .returned (Hop.res (Hop.times (Hop.once s.data.toList 1 false) (Hop.often n) p)) ∧ Below w.heap.size w w' := by
  have hl := data_len s
  have hwl := Hop.words_len s.data.toList false
  have c1 := Lib.hid (ref15_Has (bs [98]))
  rw [bs_toList, show (Hop.mot [98]).isSome = true from rfl] at c1
  have c2 := Lib.hid (ref_Place s p (by omega))
  rw [hp] at c2
  have c3 := Lib.hid (ref15_Starts s false hs)
  have c4 := Lib.hid (ref15_Ends s false hs)
  have t87 : ((bs [98]).toList == [87]) = false := by rw [bs_tl]; rfl
  have t66 : ((bs [98]).toList == [66]) = false := by rw [bs_tl]; rfl
  have t69 : ((bs [98]).toList == [69]) = false := by rw [bs_tl]; rfl
  have t119 : ((bs [98]).toList == [119]) = false := by rw [bs_tl]; rfl
  have t98 : ((bs [98]).toList == [98]) = true := by rw [bs_tl]; rfl
  have g0 : decide (n < 1) = true := by simp; omega
  have hof : Hid ((Hop.often n : Int) = 1) := by show _ = _; unfold Hop.often; omega
  have hLl : (Hop.starts s.data.toList false).length ≤ s.size + 1 := by
    rw [Hop.starts, List.length_map]; omega
  have hF1 : Hid (∀ c : Int, Hop.asc (Hop.starts s.data.toList false) c (Hop.starts s.data.toList false).length = Hop.once s.data.toList 1 false c) := fun c => Hop.asc_bck _ _
  have HB := Lib.hid hLl
  generalize Hop.starts s.data.toList false = xs at *
  generalize Hop.ends s.data.toList false = ys at *
  generalize Hop.once s.data.toList 1 false = F at *
  generalize bs [98] = K0 at *
  generalize Hop.often n = N at *
  have HP := Lib.hid (And.intro hp0 (And.intro hs hn))
  have HN := Lib.hid hn1
  clear hLl hwl hl hp hp0 hs hn hn1
  go_enter Try.func14, Try.ntmps14
  go_wp2_with (first
    | (go_at_call 16; refine (c1.out _).mono ?_; rintro e w0 ⟨rfl, rfl⟩)
    | (go_at_call 25; refine (c2.out _).mono ?_; rintro e w1 ⟨rfl, hb1⟩)
    | (go_at_call 10; refine (c3.out _).mono ?_; rintro e w2 ⟨⟨v, rfl, hr2⟩, hb2⟩; obtain ⟨A, c, rfl⟩ := own_shape hr2)
    | (go_at_call 12; refine (c4.out _).mono ?_; rintro e w3 ⟨⟨v, rfl, hr3⟩, hb3⟩; obtain ⟨A', c', rfl⟩ := own_shape hr3))
  have hI : Ints w3 A xs := (Ints.of_own hr2 rfl).grown (gb_below none hb3) (fun _ _ h => by cases h)
  have HW : Hid (Below w.heap.size w w3) := (hb1.trans (hb2.mono hb1.size)).trans (hb3.mono (Nat.le_trans hb1.size hb2.size))
  clear hr2 hr3 hb1 hb2 hb3
  go_loopw [1, 13, 14] (fun pv mv iv wr => ∃ i : Nat, Hid ((i : Int) ≤ 1) ∧ pv = .int .i64 (Hop.iter F i p) ∧ mv = .bool (decide (0 < i)) ∧ iv = .int .i64 i ∧ wr = w3 ∧ Hid (0 < i → 0 ≤ F p)) (fun _ _ iv _ => (1 - intOf iv).toNat)
  case atStart => exact ⟨0, Lib.hid (show ((0 : Nat) : Int) ≤ 1 from by have := HN.out; omega), rfl, rfl, rfl, rfl, Lib.hid (fun h => absurd h (Nat.lt_irrefl 0))⟩
  case round =>
    obtain ⟨i, hi, rfl, rfl, rfl, rfl, hmv⟩ := hrel
    obtain ⟨cur, hcur⟩ : ∃ cur, Hid (Hop.iter F i p = cur) := ⟨_, rfl⟩
    rw [hcur.out]
    obtain ⟨bm, hbm⟩ : ∃ bm, Hid (decide (0 < i) = bm) := ⟨_, rfl⟩
    rw [hbm.out]
    by_cases hlt : (i : Int) < 1
    · have hwi : IntKind.i64.wrap ((i : Int) + 1) = (i : Int) + 1 := by have := HP.out; rw [IntKind.wrap_i64]; omega
      have HI := Lib.hid hlt
      have gi : decide ((i : Int) < 1) = true := by simp [hlt]
      clear hlt
      go_wp2
      go_loopw [15, 17] (fun tv kv wx => ∃ k : Nat, k ≤ xs.length ∧ kv = .int .i64 k ∧ tv = .int .i64 (Hop.asc xs cur k) ∧ wx = wr) (fun _ kv _ => xs.length - (intOf kv).toNat)
      case atStart => exact ⟨0, Nat.zero_le _, rfl, by rw [Hop.asc_zero], rfl⟩
      case round =>
        obtain ⟨k, hk, rfl, rfl, rfl⟩ := hrel
        by_cases n2 : k < xs.length
        · have n1 : (0 : Int) ≤ (k : Int) := by omega
          have n3 : (k : Int) < (xs.length : Int) := by omega
          have hwj : IntKind.i64.wrap ((k : Int) + 1) = (k : Int) + 1 := by have := HP.out; have := HB.out; rw [IntKind.wrap_i64]; omega
          obtain ⟨ad, rfl, hcj⟩ := hI.at_ n2
          have hxj := List.getElem?_eq_getElem n2
          by_cases hx : xs[k] < cur
          · have hst := Lib.hid (Hop.asc_yes hxj hx)
            have gx : decide (xs[k] < cur) = true := by simp [hx]
            have HI2 := Lib.hid hI
            have HX := Lib.hid hx
            clear hx hxj hI hk
            generalize xs[k] = z at *
            go_wp2
            go_roundw
            case rel => exact ⟨k + 1, by omega, by go_num, by rw [hst.out], by trivial⟩
            case measure => simp [intOf] <;> omega
          · have hst := Lib.hid (Hop.asc_no hxj hx)
            have gx : decide (xs[k] < cur) = false := by simp; omega
            have HI2 := Lib.hid hI
            have HX := Lib.hid hx
            clear hx hxj hI hk
            generalize xs[k] = z at *
            go_wp2
            go_roundw
            case rel => exact ⟨k + 1, by omega, by go_num, by rw [hst.out], by trivial⟩
            case measure => simp [intOf] <;> omega
        · obtain rfl : k = xs.length := by omega
          rw [hF1.out _]
          have HN2 := Lib.hid (show ((i + 1 : Nat) : Int) ≤ 1 from by have := HI.out; omega)
          by_cases hneg : F cur < 0
          · have gn : decide (F cur < 0) = true := by simp [hneg]
            have HNEG : Hid (F (Hop.iter F i p) < 0) := by show _ < _; rw [hcur.out]; exact hneg
            clear hneg
            generalize F cur = z at *
            cases bm with
            | true =>
              have hi0 : 0 < i := by simpa using hbm.out
              have HR := Lib.hid (Hop.done_stop (n := N) HP.out.1 (hmv.out hi0) HNEG.out (by have := hof.out; have := HI.out; omega))
              rw [hcur.out] at HR
              clear hi0
              go_wp2
              go_ret2
              exact ⟨by rw [HR.out]; rfl, HW.out⟩
            | false =>
              have hi0 : i = 0 := by have := hbm.out; simp at this; omega
              have HR : Hid (Hop.res (Hop.times F N p) = .tuple #[.int .i64 0, .bool false]) := Hop.done_none (by rw [← hi0]; exact HNEG.out)
              clear hi0
              go_wp2
              go_ret2
              exact ⟨by rw [HR.out]; rfl, HW.out⟩
          · have gn : decide (F cur < 0) = false := by simp; omega
            have HIT : Hid (Hop.iter F (i + 1) p = F cur) := by show _ = _; rw [Hop.iter_succ, hcur.out, if_neg hneg]
            have HMV : Hid (0 < i + 1 → 0 ≤ F p) := fun _ => by
              rcases Nat.eq_zero_or_pos i with h | h
              · subst h; rw [← hcur.out, Hop.iter_zero] at hneg; exact Int.not_lt.1 hneg
              · exact hmv.out h
            clear hneg
            generalize F cur = z at *
            go_wp2
            go_roundw
            case rel => exact ⟨i + 1, HN2, by rw [HIT.out], by simp, by go_num, by trivial, HMV⟩
            case measure => have := HI.out; simp [intOf] <;> omega
    · have hge : (i : Int) = 1 := by have := hi.out; omega
      have gi : decide ((i : Int) < 1) = false := by simp; omega
      have hi0 : 0 < i := by have := HN.out; omega
      have hNi : N = i := by have := hof.out; omega
      subst hNi
      have HR := Lib.hid (Hop.done_all (f := F) (n := N) HP.out.1 (hmv.out hi0))
      rw [hcur.out] at HR
      obtain rfl : bm = true := by rw [← hbm.out]; simp [hi0]
      clear hi0 hlt hge
      go_wp2
      go_ret2
      exact ⟨by rw [HR.out]; rfl, HW.out⟩
set_option maxRecDepth 100000 in
set_option maxHeartbeats 2000000 in
theorem ref15_Go_66_all (s : ByteArray) (p n : Int) (hs : s.size ≤ 1000000000000) (hn : n ≤ 9223372036854775807) (hn1 : ¬ n < 1) (hp : Utf.place s.data.toList p = true) (hp0 : 0 ≤ p) (w : World) :
    Calls Try.prog 14 #[.string s, .int .i64 p, .string (bs [66]), .int .i64 n] w fun e w' => e = .returned (Hop.res (Hop.times (Hop.once s.data.toList 1 true) (Hop.often n) p)) ∧ Below w.heap.size w w' := by
  have hl := data_len s
  have hwl := Hop.words_len s.data.toList true
  have c1 := Lib.hid (ref15_Has (bs [66]))
  rw [bs_toList, show (Hop.mot [66]).isSome = true from rfl] at c1
  have c2 := Lib.hid (ref_Place s p (by omega))
  rw [hp] at c2
  have c3 := Lib.hid (ref15_Starts s true hs)
  have c4 := Lib.hid (ref15_Ends s true hs)
  have t87 : ((bs [66]).toList == [87]) = false := by rw [bs_tl]; rfl
  have t66 : ((bs [66]).toList == [66]) = true := by rw [bs_tl]; rfl
  have t69 : ((bs [66]).toList == [69]) = false := by rw [bs_tl]; rfl
  have t119 : ((bs [66]).toList == [119]) = false := by rw [bs_tl]; rfl
  have t98 : ((bs [66]).toList == [98]) = false := by rw [bs_tl]; rfl
  have g0 : decide (n < 1) = false := by simp; omega
  have hof : Hid ((Hop.often n : Int) = n) := by show _ = _; unfold Hop.often; omega
  have hLl : (Hop.starts s.data.toList true).length ≤ s.size + 1 := by
    rw [Hop.starts, List.length_map]; omega
  have hF1 : Hid (∀ c : Int, Hop.asc (Hop.starts s.data.toList true) c (Hop.starts s.data.toList true).length = Hop.once s.data.toList 1 true c) := fun c => Hop.asc_bck _ _
  have HB := Lib.hid hLl
  generalize Hop.starts s.data.toList true = xs at *
  generalize Hop.ends s.data.toList true = ys at *
  generalize Hop.once s.data.toList 1 true = F at *
  generalize bs [66] = K0 at *
  generalize Hop.often n = N at *
  have HP := Lib.hid (And.intro hp0 (And.intro hs hn))
  have HN := Lib.hid hn1
  clear hLl hwl hl hp hp0 hs hn hn1
  go_enter Try.func14, Try.ntmps14
  go_wp2_with (first
    | (go_at_call 16; refine (c1.out _).mono ?_; rintro e w0 ⟨rfl, rfl⟩)
    | (go_at_call 25; refine (c2.out _).mono ?_; rintro e w1 ⟨rfl, hb1⟩)
    | (go_at_call 10; refine (c3.out _).mono ?_; rintro e w2 ⟨⟨v, rfl, hr2⟩, hb2⟩; obtain ⟨A, c, rfl⟩ := own_shape hr2)
    | (go_at_call 12; refine (c4.out _).mono ?_; rintro e w3 ⟨⟨v, rfl, hr3⟩, hb3⟩; obtain ⟨A', c', rfl⟩ := own_shape hr3))
  have hI : Ints w3 A xs := (Ints.of_own hr2 rfl).grown (gb_below none hb3) (fun _ _ h => by cases h)
  have HW : Hid (Below w.heap.size w w3) := (hb1.trans (hb2.mono hb1.size)).trans (hb3.mono (Nat.le_trans hb1.size hb2.size))
  clear hr2 hr3 hb1 hb2 hb3
  go_loopw [1, 13, 14] (fun pv mv iv wr => ∃ i : Nat, Hid ((i : Int) ≤ n) ∧ pv = .int .i64 (Hop.iter F i p) ∧ mv = .bool (decide (0 < i)) ∧ iv = .int .i64 i ∧ wr = w3 ∧ Hid (0 < i → 0 ≤ F p)) (fun _ _ iv _ => (n - intOf iv).toNat)
  case atStart => exact ⟨0, Lib.hid (show ((0 : Nat) : Int) ≤ n from by have := HN.out; omega), rfl, rfl, rfl, rfl, Lib.hid (fun h => absurd h (Nat.lt_irrefl 0))⟩
  case round =>
    obtain ⟨i, hi, rfl, rfl, rfl, rfl, hmv⟩ := hrel
    obtain ⟨cur, hcur⟩ : ∃ cur, Hid (Hop.iter F i p = cur) := ⟨_, rfl⟩
    rw [hcur.out]
    obtain ⟨bm, hbm⟩ : ∃ bm, Hid (decide (0 < i) = bm) := ⟨_, rfl⟩
    rw [hbm.out]
    by_cases hlt : (i : Int) < n
    · have hwi : IntKind.i64.wrap ((i : Int) + 1) = (i : Int) + 1 := by have := HP.out; rw [IntKind.wrap_i64]; omega
      have HI := Lib.hid hlt
      have gi : decide ((i : Int) < n) = true := by simp [hlt]
      clear hlt
      go_wp2
      go_loopw [15, 17] (fun tv kv wx => ∃ k : Nat, k ≤ xs.length ∧ kv = .int .i64 k ∧ tv = .int .i64 (Hop.asc xs cur k) ∧ wx = wr) (fun _ kv _ => xs.length - (intOf kv).toNat)
      case atStart => exact ⟨0, Nat.zero_le _, rfl, by rw [Hop.asc_zero], rfl⟩
      case round =>
        obtain ⟨k, hk, rfl, rfl, rfl⟩ := hrel
        by_cases n2 : k < xs.length
        · have n1 : (0 : Int) ≤ (k : Int) := by omega
          have n3 : (k : Int) < (xs.length : Int) := by omega
          have hwj : IntKind.i64.wrap ((k : Int) + 1) = (k : Int) + 1 := by have := HP.out; have := HB.out; rw [IntKind.wrap_i64]; omega
          obtain ⟨ad, rfl, hcj⟩ := hI.at_ n2
          have hxj := List.getElem?_eq_getElem n2
          by_cases hx : xs[k] < cur
          · have hst := Lib.hid (Hop.asc_yes hxj hx)
            have gx : decide (xs[k] < cur) = true := by simp [hx]
            have HI2 := Lib.hid hI
            have HX := Lib.hid hx
            clear hx hxj hI hk
            generalize xs[k] = z at *
            go_wp2
            go_roundw
            case rel => exact ⟨k + 1, by omega, by go_num, by rw [hst.out], by trivial⟩
            case measure => simp [intOf] <;> omega
          · have hst := Lib.hid (Hop.asc_no hxj hx)
            have gx : decide (xs[k] < cur) = false := by simp; omega
            have HI2 := Lib.hid hI
            have HX := Lib.hid hx
            clear hx hxj hI hk
            generalize xs[k] = z at *
            go_wp2
            go_roundw
            case rel => exact ⟨k + 1, by omega, by go_num, by rw [hst.out], by trivial⟩
            case measure => simp [intOf] <;> omega
        · obtain rfl : k = xs.length := by omega
          rw [hF1.out _]
          have HN2 := Lib.hid (show ((i + 1 : Nat) : Int) ≤ n from by have := HI.out; omega)
          by_cases hneg : F cur < 0
          · have gn : decide (F cur < 0) = true := by simp [hneg]
            have HNEG : Hid (F (Hop.iter F i p) < 0) := by show _ < _; rw [hcur.out]; exact hneg
            clear hneg
            generalize F cur = z at *
            cases bm with
            | true =>
              have hi0 : 0 < i := by simpa using hbm.out
              have HR := Lib.hid (Hop.done_stop (n := N) HP.out.1 (hmv.out hi0) HNEG.out (by have := hof.out; have := HI.out; omega))
              rw [hcur.out] at HR
              clear hi0
              go_wp2
              go_ret2
              exact ⟨by rw [HR.out]; rfl, HW.out⟩
            | false =>
              have hi0 : i = 0 := by have := hbm.out; simp at this; omega
              have HR : Hid (Hop.res (Hop.times F N p) = .tuple #[.int .i64 0, .bool false]) := Hop.done_none (by rw [← hi0]; exact HNEG.out)
              clear hi0
              go_wp2
              go_ret2
              exact ⟨by rw [HR.out]; rfl, HW.out⟩
          · have gn : decide (F cur < 0) = false := by simp; omega
            have HIT : Hid (Hop.iter F (i + 1) p = F cur) := by show _ = _; rw [Hop.iter_succ, hcur.out, if_neg hneg]
            have HMV : Hid (0 < i + 1 → 0 ≤ F p) := fun _ => by
              rcases Nat.eq_zero_or_pos i with h | h
              · subst h; rw [← hcur.out, Hop.iter_zero] at hneg; exact Int.not_lt.1 hneg
              · exact hmv.out h
            clear hneg
            generalize F cur = z at *
            go_wp2
            go_roundw
            case rel => exact ⟨i + 1, HN2, by rw [HIT.out], by simp, by go_num, by trivial, HMV⟩
            case measure => have := HI.out; simp [intOf] <;> omega
    · have hge : (i : Int) = n := by have := hi.out; omega
      have gi : decide ((i : Int) < n) = false := by simp; omega
      have hi0 : 0 < i := by have := HN.out; omega
      have hNi : N = i := by have := hof.out; omega
      subst hNi
      have HR := Lib.hid (Hop.done_all (f := F) (n := N) HP.out.1 (hmv.out hi0))
      rw [hcur.out] at HR
      obtain rfl : bm = true := by rw [← hbm.out]; simp [hi0]
      clear hi0 hlt hge
      go_wp2
      go_ret2
      exact ⟨by rw [HR.out]; rfl, HW.out⟩
set_option maxRecDepth 100000 in
set_option maxHeartbeats 2000000 in
theorem ref15_Go_66_low (s : ByteArray) (p n : Int) (hs : s.size ≤ 1000000000000) (hn : n ≤ 9223372036854775807) (hn1 :  n < 1) (hp : Utf.place s.data.toList p = true) (hp0 : 0 ≤ p) (w : World) :
    Calls Try.prog 14 #[.string s, .int .i64 p, .string (bs [66]), .int .i64 n] w fun e w' => e = .returned (Hop.res (Hop.times (Hop.once s.data.toList 1 true) (Hop.often n) p)) ∧ Below w.heap.size w w' := by
  have hl := data_len s
  have hwl := Hop.words_len s.data.toList true
  have c1 := Lib.hid (ref15_Has (bs [66]))
  rw [bs_toList, show (Hop.mot [66]).isSome = true from rfl] at c1
  have c2 := Lib.hid (ref_Place s p (by omega))
  rw [hp] at c2
  have c3 := Lib.hid (ref15_Starts s true hs)
  have c4 := Lib.hid (ref15_Ends s true hs)
  have t87 : ((bs [66]).toList == [87]) = false := by rw [bs_tl]; rfl
  have t66 : ((bs [66]).toList == [66]) = true := by rw [bs_tl]; rfl
  have t69 : ((bs [66]).toList == [69]) = false := by rw [bs_tl]; rfl
  have t119 : ((bs [66]).toList == [119]) = false := by rw [bs_tl]; rfl
  have t98 : ((bs [66]).toList == [98]) = false := by rw [bs_tl]; rfl
  have g0 : decide (n < 1) = true := by simp; omega
  have hof : Hid ((Hop.often n : Int) = 1) := by show _ = _; unfold Hop.often; omega
  have hLl : (Hop.starts s.data.toList true).length ≤ s.size + 1 := by
    rw [Hop.starts, List.length_map]; omega
  have hF1 : Hid (∀ c : Int, Hop.asc (Hop.starts s.data.toList true) c (Hop.starts s.data.toList true).length = Hop.once s.data.toList 1 true c) := fun c => Hop.asc_bck _ _
  have HB := Lib.hid hLl
  generalize Hop.starts s.data.toList true = xs at *
  generalize Hop.ends s.data.toList true = ys at *
  generalize Hop.once s.data.toList 1 true = F at *
  generalize bs [66] = K0 at *
  generalize Hop.often n = N at *
  have HP := Lib.hid (And.intro hp0 (And.intro hs hn))
  have HN := Lib.hid hn1
  clear hLl hwl hl hp hp0 hs hn hn1
  go_enter Try.func14, Try.ntmps14
  go_wp2_with (first
    | (go_at_call 16; refine (c1.out _).mono ?_; rintro e w0 ⟨rfl, rfl⟩)
    | (go_at_call 25; refine (c2.out _).mono ?_; rintro e w1 ⟨rfl, hb1⟩)
    | (go_at_call 10; refine (c3.out _).mono ?_; rintro e w2 ⟨⟨v, rfl, hr2⟩, hb2⟩; obtain ⟨A, c, rfl⟩ := own_shape hr2)
    | (go_at_call 12; refine (c4.out _).mono ?_; rintro e w3 ⟨⟨v, rfl, hr3⟩, hb3⟩; obtain ⟨A', c', rfl⟩ := own_shape hr3))
  have hI : Ints w3 A xs := (Ints.of_own hr2 rfl).grown (gb_below none hb3) (fun _ _ h => by cases h)
  have HW : Hid (Below w.heap.size w w3) := (hb1.trans (hb2.mono hb1.size)).trans (hb3.mono (Nat.le_trans hb1.size hb2.size))
  clear hr2 hr3 hb1 hb2 hb3
  go_loopw [1, 13, 14] (fun pv mv iv wr => ∃ i : Nat, Hid ((i : Int) ≤ 1) ∧ pv = .int .i64 (Hop.iter F i p) ∧ mv = .bool (decide (0 < i)) ∧ iv = .int .i64 i ∧ wr = w3 ∧ Hid (0 < i → 0 ≤ F p)) (fun _ _ iv _ => (1 - intOf iv).toNat)
  case atStart => exact ⟨0, Lib.hid (show ((0 : Nat) : Int) ≤ 1 from by have := HN.out; omega), rfl, rfl, rfl, rfl, Lib.hid (fun h => absurd h (Nat.lt_irrefl 0))⟩
  case round =>
    obtain ⟨i, hi, rfl, rfl, rfl, rfl, hmv⟩ := hrel
    obtain ⟨cur, hcur⟩ : ∃ cur, Hid (Hop.iter F i p = cur) := ⟨_, rfl⟩
    rw [hcur.out]
    obtain ⟨bm, hbm⟩ : ∃ bm, Hid (decide (0 < i) = bm) := ⟨_, rfl⟩
    rw [hbm.out]
    by_cases hlt : (i : Int) < 1
    · have hwi : IntKind.i64.wrap ((i : Int) + 1) = (i : Int) + 1 := by have := HP.out; rw [IntKind.wrap_i64]; omega
      have HI := Lib.hid hlt
      have gi : decide ((i : Int) < 1) = true := by simp [hlt]
      clear hlt
      go_wp2
      go_loopw [15, 17] (fun tv kv wx => ∃ k : Nat, k ≤ xs.length ∧ kv = .int .i64 k ∧ tv = .int .i64 (Hop.asc xs cur k) ∧ wx = wr) (fun _ kv _ => xs.length - (intOf kv).toNat)
      case atStart => exact ⟨0, Nat.zero_le _, rfl, by rw [Hop.asc_zero], rfl⟩
      case round =>
        obtain ⟨k, hk, rfl, rfl, rfl⟩ := hrel
        by_cases n2 : k < xs.length
        · have n1 : (0 : Int) ≤ (k : Int) := by omega
          have n3 : (k : Int) < (xs.length : Int) := by omega
          have hwj : IntKind.i64.wrap ((k : Int) + 1) = (k : Int) + 1 := by have := HP.out; have := HB.out; rw [IntKind.wrap_i64]; omega
          obtain ⟨ad, rfl, hcj⟩ := hI.at_ n2
          have hxj := List.getElem?_eq_getElem n2
          by_cases hx : xs[k] < cur
          · have hst := Lib.hid (Hop.asc_yes hxj hx)
            have gx : decide (xs[k] < cur) = true := by simp [hx]
            have HI2 := Lib.hid hI
            have HX := Lib.hid hx
            clear hx hxj hI hk
            generalize xs[k] = z at *
            go_wp2
            go_roundw
            case rel => exact ⟨k + 1, by omega, by go_num, by rw [hst.out], by trivial⟩
            case measure => simp [intOf] <;> omega
          · have hst := Lib.hid (Hop.asc_no hxj hx)
            have gx : decide (xs[k] < cur) = false := by simp; omega
            have HI2 := Lib.hid hI
            have HX := Lib.hid hx
            clear hx hxj hI hk
            generalize xs[k] = z at *
            go_wp2
            go_roundw
            case rel => exact ⟨k + 1, by omega, by go_num, by rw [hst.out], by trivial⟩
            case measure => simp [intOf] <;> omega
        · obtain rfl : k = xs.length := by omega
          rw [hF1.out _]
          have HN2 := Lib.hid (show ((i + 1 : Nat) : Int) ≤ 1 from by have := HI.out; omega)
          by_cases hneg : F cur < 0
          · have gn : decide (F cur < 0) = true := by simp [hneg]
            have HNEG : Hid (F (Hop.iter F i p) < 0) := by show _ < _; rw [hcur.out]; exact hneg
            clear hneg
            generalize F cur = z at *
            cases bm with
            | true =>
              have hi0 : 0 < i := by simpa using hbm.out
              have HR := Lib.hid (Hop.done_stop (n := N) HP.out.1 (hmv.out hi0) HNEG.out (by have := hof.out; have := HI.out; omega))
              rw [hcur.out] at HR
              clear hi0
              go_wp2
              go_ret2
              exact ⟨by rw [HR.out]; rfl, HW.out⟩
            | false =>
              have hi0 : i = 0 := by have := hbm.out; simp at this; omega
              have HR : Hid (Hop.res (Hop.times F N p) = .tuple #[.int .i64 0, .bool false]) := Hop.done_none (by rw [← hi0]; exact HNEG.out)
              clear hi0
              go_wp2
              go_ret2
              exact ⟨by rw [HR.out]; rfl, HW.out⟩
          · have gn : decide (F cur < 0) = false := by simp; omega
            have HIT : Hid (Hop.iter F (i + 1) p = F cur) := by show _ = _; rw [Hop.iter_succ, hcur.out, if_neg hneg]
            have HMV : Hid (0 < i + 1 → 0 ≤ F p) := fun _ => by
              rcases Nat.eq_zero_or_pos i with h | h
              · subst h; rw [← hcur.out, Hop.iter_zero] at hneg; exact Int.not_lt.1 hneg
              · exact hmv.out h
            clear hneg
            generalize F cur = z at *
            go_wp2
            go_roundw
            case rel => exact ⟨i + 1, HN2, by rw [HIT.out], by simp, by go_num, by trivial, HMV⟩
            case measure => have := HI.out; simp [intOf] <;> omega
    · have hge : (i : Int) = 1 := by have := hi.out; omega
      have gi : decide ((i : Int) < 1) = false := by simp; omega
      have hi0 : 0 < i := by have := HN.out; omega
      have hNi : N = i := by have := hof.out; omega
      subst hNi
      have HR := Lib.hid (Hop.done_all (f := F) (n := N) HP.out.1 (hmv.out hi0))
      rw [hcur.out] at HR
      obtain rfl : bm = true := by rw [← hbm.out]; simp [hi0]
      clear hi0 hlt hge
      go_wp2
      go_ret2
      exact ⟨by rw [HR.out]; rfl, HW.out⟩
end Go.Proofs.Ytjkcdmlbnfibgaa
