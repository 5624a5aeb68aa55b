/-
  hop.Go, key by key.
-/
import Derived.Test.YtjkcdmlbnfibgaaHopKeys
import Derived.Test.YtjkcdmlbnfibgaaHopLists
import Derived.Test.YtjkcdmlbnfibgaaClassTurn
namespace Go.Proofs.Ytjkcdmlbnfibgaa
open Go.RowKit Go.Shelf
theorem hop_below {a b c : World} (h : Below a.heap.size a b) (k : Below b.heap.size b c) : Below a.heap.size a c := h.trans (k.mono h.size)
theorem hop_place {s : List UInt8} {p : Int} (h : Utf.place s p = true) : 0 ≤ p ∧ p ≤ (s.length : Int) := by
  cases hd : Utf.dec s with
  | none => rw [Utf.place_bad hd] at h; cases h
  | some rs =>
    obtain ⟨i, hi, rfl⟩ := (Utf.place_iff hd).1 h
    have := Utf.off_in hd i
    omega
set_option maxRecDepth 100000 in
set_option maxHeartbeats 1000000 in
theorem hop_Go_119 (s : ByteArray) (p n : Int) (hs : s.size ≤ 1000000000000) (hn : n ≤ 9223372036854775807) (hp : Utf.place s.data.toList p = true) (w : World) :
    Calls Try.prog 13 #[.string s, .int .i64 p, .string (bs [119]), .int .i64 n] w fun e w' => e = .returned (Hop.res (Hop.times (Hop.once s.data.toList 0 false) (Hop.often n) p)) ∧ Below w.heap.size w w' := by
  have hl := data_len s
  have hpb := hop_place hp
  rw [hl] at hpb
  have c1 := Lib.hid (hop_Has (bs [119]))
  rw [bs_toList, show (Hop.mot [119]).isSome = true from rfl] at c1
  have c2 := Lib.hid (utf_Place s p (by omega))
  rw [hp] at c2
  have c3 := Lib.hid (class_Up (bs [119]) (by rw [bs_size]; simp))
  have c4 := Lib.hid (class_Low (bs [119]) (by rw [bs_size]; simp))
  rw [bs_toList, show Class.turn Class.small [119] = [87] from by decide] at c3
  rw [bs_toList, show Class.turn Class.capital [119] = [119] from by decide] at c4
  have t1 : ((bs [119]).toList == (bs [87]).toList) = false := by simp only [bs_tl]; rfl
  have t2 : ((bs [119]).toList == [98]) = false := by rw [bs_tl]; rfl
  have t3 : ((bs [119]).toList == [101]) = false := by rw [bs_tl]; rfl
  have hwl := Hop.words_len s.data.toList false
  have hq : 1 ≤ max n 1 ∧ max n 1 ≤ 9223372036854775807 := by omega
  have hon : Hid ((max n 1).toNat = Hop.often n) := rfl
  have hL := Hop.starts_up s.data.toList false
  have hLl : (Hop.starts s.data.toList false).length ≤ s.size + 1 := by rw [Hop.starts, List.length_map]; omega
  have c5 := Lib.hid (hop_Starts s false hs)
  have HF : Hid (∀ q : Nat, 1 ≤ q → Hop.far (Hop.starts s.data.toList false ++ [(s.size : Int)]) p q = Hop.times (Hop.once s.data.toList 0 false) q p) := fun q hq => by
    have := Hop.far_more hL.1 hL.2 (by omega) p q hq
    rw [Hop.once, if_pos rfl]
    rw [hl] at this ⊢
    exact this
  have hs2 : Hid ((Hop.starts s.data.toList false ++ [(s.size : Int)]).Pairwise (· ≤ ·) ∧ ∀ x ∈ Hop.starts s.data.toList false ++ [(s.size : Int)], 0 ≤ x) := by
    refine ⟨List.pairwise_append.2 ⟨Hop.up_le hL.1, by simp, fun x hx y hy => ?_⟩, fun x hx => ?_⟩
    · have h1 := (hL.2 x hx).2
      simp at hy; omega
    · rcases List.mem_append.1 hx with h | h
      · exact (hL.2 x h).1
      · simp at h; omega
  have hpb2 : 0 ≤ p ∧ p ≤ 1000000000000 := by omega
  have hLm : (Hop.starts s.data.toList false).length ≤ 1000000000001 := by omega
  generalize Hop.starts s.data.toList false = xs at *
  generalize Hop.once s.data.toList 0 false = F at *
  have HH := Lib.hid (And.intro hq (And.intro hpb2 (And.intro hLl hLm)))
  clear hL hwl hLl hp hl hpb hs hpb2 hLm
  generalize bs [119] = K0 at *
  generalize bs [87] = K1 at *
  generalize hqe : max n 1 = q at *
  obtain ⟨V, hV⟩ : ∃ V, Hop.times F (Hop.often n) p = V := ⟨_, rfl⟩
  have c6 : ∀ (B : Nat) (v : Value) (w3 : World), w3.ownsRow B 3 1 v (xs ++ [(s.size : Int)]).length ((xs ++ [(s.size : Int)]).map (Value.int .i64)) → Calls Try.prog 24 #[v, .int .i64 p, .int .i64 q] w3 fun e w' => e = .returned (Hop.res V) ∧ Below w3.heap.size w3 w' := fun B v w3 hr => by
    have h := hop_on hr (by rw [List.length_append, List.length_singleton]; have := HH.out.2.2.2; omega) hs2.out.1 hs2.out.2 p q HH.out.2.1 HH.out.1
    rw [hon.out, HF.out _ (Hop.often_pos n), hV] at h
    exact h
  rw [hV]
  clear hV HF hs2
  obtain ⟨i0, hi0, hz0, hz1, hz2⟩ := info_parts info_int
  by_cases hv : V < 0
  · simp only [Hop.res_no hv] at c6
    have C6 := Lib.hid c6
    have HV := Lib.hid hv
    clear c6 hv
    go_enter Try.func13, Try.ntmps13
    go_wp2_with (first
      | (go_at_call 15; refine (c1.out _).mono ?_; rintro e w1 ⟨rfl, rfl⟩)
      | (go_at_call 17; refine (c2.out _).mono ?_; rintro e w1 ⟨rfl, rfl⟩)
      | (go_at_call 21; refine (c3.out _).mono ?_; rintro e w1 ⟨rfl, hb1⟩)
      | (go_at_call 22; refine (c4.out _).mono ?_; rintro e w2 ⟨rfl, hb2⟩; replace hb2 := hop_below hb1 hb2)
      | (go_at_call 9; refine (c5.out _).mono ?_; rintro e w3 ⟨⟨v, rfl, hr⟩, hb3⟩; have hs3 := hb3.size; replace hb3 := hop_below hb2 hb3; obtain ⟨a, c, rfl⟩ := own_shape hr)
      | (at_builtin; refine wpList_append_own _ rfl _ _ 24 rfl w2.heap.size 3 i0 (.int .i64 0) 1 8 Try.underlying24 hi0 hz0 hz1 hz2 rfl (by decide) _ _ _ rfl (hr.alloc _) ⟨w3.heap.size, 0, none⟩ 1 1 [.int .i64 (s.size : Nat)] rfl rfl (append_one_cell _ _ _) (by intro u hu; simp at hu; subst hu; rfl) (by have := HH.out; unfold maxLen; omega) (by have := HH.out; omega) (by simp; omega) ?_; intro v' w4 hown' hgrow _; obtain ⟨a', c', rfl⟩ := own_shape hown'; have hb4 : Below w.heap.size w w4 := (hb3.alloc hb3.size _).grown hgrow (by simp; have := hb3.size; omega) (fun g hg => Nat.le_trans hb2.size (hr.lt g hg).1); have hr4 : w4.ownsRow w2.heap.size 3 1 (.slice a' (xs.length + 1) c') (xs ++ [(s.size : Int)]).length ((xs ++ [(s.size : Int)]).map (Value.int .i64)) := by rw [List.length_append, List.map_append]; exact hown')
      | (go_at_call 24; refine (C6.out _ _ _ hr4).mono ?_; rintro e w5 ⟨rfl, hb5⟩; replace hb5 := hop_below hb4 hb5))
    go_ret2
    exact ⟨by rw [Hop.res_no HV.out]; rfl, hb5⟩
  · simp only [Hop.res_at (show 0 ≤ V from by omega)] at c6
    have C6 := Lib.hid c6
    have HV := Lib.hid hv
    clear c6 hv
    go_enter Try.func13, Try.ntmps13
    go_wp2_with (first
      | (go_at_call 15; refine (c1.out _).mono ?_; rintro e w1 ⟨rfl, rfl⟩)
      | (go_at_call 17; refine (c2.out _).mono ?_; rintro e w1 ⟨rfl, rfl⟩)
      | (go_at_call 21; refine (c3.out _).mono ?_; rintro e w1 ⟨rfl, hb1⟩)
      | (go_at_call 22; refine (c4.out _).mono ?_; rintro e w2 ⟨rfl, hb2⟩; replace hb2 := hop_below hb1 hb2)
      | (go_at_call 9; refine (c5.out _).mono ?_; rintro e w3 ⟨⟨v, rfl, hr⟩, hb3⟩; have hs3 := hb3.size; replace hb3 := hop_below hb2 hb3; obtain ⟨a, c, rfl⟩ := own_shape hr)
      | (at_builtin; refine wpList_append_own _ rfl _ _ 24 rfl w2.heap.size 3 i0 (.int .i64 0) 1 8 Try.underlying24 hi0 hz0 hz1 hz2 rfl (by decide) _ _ _ rfl (hr.alloc _) ⟨w3.heap.size, 0, none⟩ 1 1 [.int .i64 (s.size : Nat)] rfl rfl (append_one_cell _ _ _) (by intro u hu; simp at hu; subst hu; rfl) (by have := HH.out; unfold maxLen; omega) (by have := HH.out; omega) (by simp; omega) ?_; intro v' w4 hown' hgrow _; obtain ⟨a', c', rfl⟩ := own_shape hown'; have hb4 : Below w.heap.size w w4 := (hb3.alloc hb3.size _).grown hgrow (by simp; have := hb3.size; omega) (fun g hg => Nat.le_trans hb2.size (hr.lt g hg).1); have hr4 : w4.ownsRow w2.heap.size 3 1 (.slice a' (xs.length + 1) c') (xs ++ [(s.size : Int)]).length ((xs ++ [(s.size : Int)]).map (Value.int .i64)) := by rw [List.length_append, List.map_append]; exact hown')
      | (go_at_call 24; refine (C6.out _ _ _ hr4).mono ?_; rintro e w5 ⟨rfl, hb5⟩; replace hb5 := hop_below hb4 hb5))
    go_ret2
    exact ⟨by rw [Hop.res_at (show 0 ≤ V from by have := HV.out; omega)]; rfl, hb5⟩
set_option maxRecDepth 100000 in
set_option maxHeartbeats 1000000 in
theorem hop_Go_87 (s : ByteArray) (p n : Int) (hs : s.size ≤ 1000000000000) (hn : n ≤ 9223372036854775807) (hp : Utf.place s.data.toList p = true) (w : World) :
    Calls Try.prog 13 #[.string s, .int .i64 p, .string (bs [87]), .int .i64 n] w fun e w' => e = .returned (Hop.res (Hop.times (Hop.once s.data.toList 0 true) (Hop.often n) p)) ∧ Below w.heap.size w w' := by
  have hl := data_len s
  have hpb := hop_place hp
  rw [hl] at hpb
  have c1 := Lib.hid (hop_Has (bs [87]))
  rw [bs_toList, show (Hop.mot [87]).isSome = true from rfl] at c1
  have c2 := Lib.hid (utf_Place s p (by omega))
  rw [hp] at c2
  have c3 := Lib.hid (class_Up (bs [87]) (by rw [bs_size]; simp))
  have c4 := Lib.hid (class_Low (bs [87]) (by rw [bs_size]; simp))
  rw [bs_toList, show Class.turn Class.small [87] = [87] from by decide] at c3
  rw [bs_toList, show Class.turn Class.capital [87] = [119] from by decide] at c4
  have t1 : ((bs [87]).toList == (bs [87]).toList) = true := by simp only [bs_tl]; rfl
  have t2 : ((bs [119]).toList == [98]) = false := by rw [bs_tl]; rfl
  have t3 : ((bs [119]).toList == [101]) = false := by rw [bs_tl]; rfl
  have hwl := Hop.words_len s.data.toList true
  have hq : 1 ≤ max n 1 ∧ max n 1 ≤ 9223372036854775807 := by omega
  have hon : Hid ((max n 1).toNat = Hop.often n) := rfl
  have hL := Hop.starts_up s.data.toList true
  have hLl : (Hop.starts s.data.toList true).length ≤ s.size + 1 := by rw [Hop.starts, List.length_map]; omega
  have c5 := Lib.hid (hop_Starts s true hs)
  have HF : Hid (∀ q : Nat, 1 ≤ q → Hop.far (Hop.starts s.data.toList true ++ [(s.size : Int)]) p q = Hop.times (Hop.once s.data.toList 0 true) q p) := fun q hq => by
    have := Hop.far_more hL.1 hL.2 (by omega) p q hq
    rw [Hop.once, if_pos rfl]
    rw [hl] at this ⊢
    exact this
  have hs2 : Hid ((Hop.starts s.data.toList true ++ [(s.size : Int)]).Pairwise (· ≤ ·) ∧ ∀ x ∈ Hop.starts s.data.toList true ++ [(s.size : Int)], 0 ≤ x) := by
    refine ⟨List.pairwise_append.2 ⟨Hop.up_le hL.1, by simp, fun x hx y hy => ?_⟩, fun x hx => ?_⟩
    · have h1 := (hL.2 x hx).2
      simp at hy; omega
    · rcases List.mem_append.1 hx with h | h
      · exact (hL.2 x h).1
      · simp at h; omega
  have hpb2 : 0 ≤ p ∧ p ≤ 1000000000000 := by omega
  have hLm : (Hop.starts s.data.toList true).length ≤ 1000000000001 := by omega
  generalize Hop.starts s.data.toList true = xs at *
  generalize Hop.once s.data.toList 0 true = F at *
  have HH := Lib.hid (And.intro hq (And.intro hpb2 (And.intro hLl hLm)))
  clear hL hwl hLl hp hl hpb hs hpb2 hLm
  generalize bs [87] = K0 at *
  generalize bs [119] = K2 at *
  generalize hqe : max n 1 = q at *
  obtain ⟨V, hV⟩ : ∃ V, Hop.times F (Hop.often n) p = V := ⟨_, rfl⟩
  have c6 : ∀ (B : Nat) (v : Value) (w3 : World), w3.ownsRow B 3 1 v (xs ++ [(s.size : Int)]).length ((xs ++ [(s.size : Int)]).map (Value.int .i64)) → Calls Try.prog 24 #[v, .int .i64 p, .int .i64 q] w3 fun e w' => e = .returned (Hop.res V) ∧ Below w3.heap.size w3 w' := fun B v w3 hr => by
    have h := hop_on hr (by rw [List.length_append, List.length_singleton]; have := HH.out.2.2.2; omega) hs2.out.1 hs2.out.2 p q HH.out.2.1 HH.out.1
    rw [hon.out, HF.out _ (Hop.often_pos n), hV] at h
    exact h
  rw [hV]
  clear hV HF hs2
  obtain ⟨i0, hi0, hz0, hz1, hz2⟩ := info_parts info_int
  by_cases hv : V < 0
  · simp only [Hop.res_no hv] at c6
    have C6 := Lib.hid c6
    have HV := Lib.hid hv
    clear c6 hv
    go_enter Try.func13, Try.ntmps13
    go_wp2_with (first
      | (go_at_call 15; refine (c1.out _).mono ?_; rintro e w1 ⟨rfl, rfl⟩)
      | (go_at_call 17; refine (c2.out _).mono ?_; rintro e w1 ⟨rfl, rfl⟩)
      | (go_at_call 21; refine (c3.out _).mono ?_; rintro e w1 ⟨rfl, hb1⟩)
      | (go_at_call 22; refine (c4.out _).mono ?_; rintro e w2 ⟨rfl, hb2⟩; replace hb2 := hop_below hb1 hb2)
      | (go_at_call 9; refine (c5.out _).mono ?_; rintro e w3 ⟨⟨v, rfl, hr⟩, hb3⟩; have hs3 := hb3.size; replace hb3 := hop_below hb2 hb3; obtain ⟨a, c, rfl⟩ := own_shape hr)
      | (at_builtin; refine wpList_append_own _ rfl _ _ 24 rfl w2.heap.size 3 i0 (.int .i64 0) 1 8 Try.underlying24 hi0 hz0 hz1 hz2 rfl (by decide) _ _ _ rfl (hr.alloc _) ⟨w3.heap.size, 0, none⟩ 1 1 [.int .i64 (s.size : Nat)] rfl rfl (append_one_cell _ _ _) (by intro u hu; simp at hu; subst hu; rfl) (by have := HH.out; unfold maxLen; omega) (by have := HH.out; omega) (by simp; omega) ?_; intro v' w4 hown' hgrow _; obtain ⟨a', c', rfl⟩ := own_shape hown'; have hb4 : Below w.heap.size w w4 := (hb3.alloc hb3.size _).grown hgrow (by simp; have := hb3.size; omega) (fun g hg => Nat.le_trans hb2.size (hr.lt g hg).1); have hr4 : w4.ownsRow w2.heap.size 3 1 (.slice a' (xs.length + 1) c') (xs ++ [(s.size : Int)]).length ((xs ++ [(s.size : Int)]).map (Value.int .i64)) := by rw [List.length_append, List.map_append]; exact hown')
      | (go_at_call 24; refine (C6.out _ _ _ hr4).mono ?_; rintro e w5 ⟨rfl, hb5⟩; replace hb5 := hop_below hb4 hb5))
    go_ret2
    exact ⟨by rw [Hop.res_no HV.out]; rfl, hb5⟩
  · simp only [Hop.res_at (show 0 ≤ V from by omega)] at c6
    have C6 := Lib.hid c6
    have HV := Lib.hid hv
    clear c6 hv
    go_enter Try.func13, Try.ntmps13
    go_wp2_with (first
      | (go_at_call 15; refine (c1.out _).mono ?_; rintro e w1 ⟨rfl, rfl⟩)
      | (go_at_call 17; refine (c2.out _).mono ?_; rintro e w1 ⟨rfl, rfl⟩)
      | (go_at_call 21; refine (c3.out _).mono ?_; rintro e w1 ⟨rfl, hb1⟩)
      | (go_at_call 22; refine (c4.out _).mono ?_; rintro e w2 ⟨rfl, hb2⟩; replace hb2 := hop_below hb1 hb2)
      | (go_at_call 9; refine (c5.out _).mono ?_; rintro e w3 ⟨⟨v, rfl, hr⟩, hb3⟩; have hs3 := hb3.size; replace hb3 := hop_below hb2 hb3; obtain ⟨a, c, rfl⟩ := own_shape hr)
      | (at_builtin; refine wpList_append_own _ rfl _ _ 24 rfl w2.heap.size 3 i0 (.int .i64 0) 1 8 Try.underlying24 hi0 hz0 hz1 hz2 rfl (by decide) _ _ _ rfl (hr.alloc _) ⟨w3.heap.size, 0, none⟩ 1 1 [.int .i64 (s.size : Nat)] rfl rfl (append_one_cell _ _ _) (by intro u hu; simp at hu; subst hu; rfl) (by have := HH.out; unfold maxLen; omega) (by have := HH.out; omega) (by simp; omega) ?_; intro v' w4 hown' hgrow _; obtain ⟨a', c', rfl⟩ := own_shape hown'; have hb4 : Below w.heap.size w w4 := (hb3.alloc hb3.size _).grown hgrow (by simp; have := hb3.size; omega) (fun g hg => Nat.le_trans hb2.size (hr.lt g hg).1); have hr4 : w4.ownsRow w2.heap.size 3 1 (.slice a' (xs.length + 1) c') (xs ++ [(s.size : Int)]).length ((xs ++ [(s.size : Int)]).map (Value.int .i64)) := by rw [List.length_append, List.map_append]; exact hown')
      | (go_at_call 24; refine (C6.out _ _ _ hr4).mono ?_; rintro e w5 ⟨rfl, hb5⟩; replace hb5 := hop_below hb4 hb5))
    go_ret2
    exact ⟨by rw [Hop.res_at (show 0 ≤ V from by have := HV.out; omega)]; rfl, hb5⟩
set_option maxRecDepth 100000 in
set_option maxHeartbeats 1000000 in
theorem hop_Go_98 (s : ByteArray) (p n : Int) (hs : s.size ≤ 1000000000000) (hn : n ≤ 9223372036854775807) (hp : Utf.place s.data.toList p = true) (w : World) :
    Calls Try.prog 13 #[.string s, .int .i64 p, .string (bs [98]), .int .i64 n] w fun e w' => e = .returned (Hop.res (Hop.times (Hop.once s.data.toList 1 false) (Hop.often n) p)) ∧ Below w.heap.size w w' := by
  have hl := data_len s
  have hpb := hop_place hp
  rw [hl] at hpb
  have c1 := Lib.hid (hop_Has (bs [98]))
  rw [bs_toList, show (Hop.mot [98]).isSome = true from rfl] at c1
  have c2 := Lib.hid (utf_Place s p (by omega))
  rw [hp] at c2
  have c3 := Lib.hid (class_Up (bs [98]) (by rw [bs_size]; simp))
  have c4 := Lib.hid (class_Low (bs [98]) (by rw [bs_size]; simp))
  rw [bs_toList, show Class.turn Class.small [98] = [66] from by decide] at c3
  rw [bs_toList, show Class.turn Class.capital [98] = [98] from by decide] at c4
  have t1 : ((bs [98]).toList == (bs [66]).toList) = false := by simp only [bs_tl]; rfl
  have t2 : ((bs [98]).toList == [98]) = true := by rw [bs_tl]; rfl
  have t3 : ((bs [98]).toList == [101]) = false := by rw [bs_tl]; rfl
  have hwl := Hop.words_len s.data.toList false
  have hq : 1 ≤ max n 1 ∧ max n 1 ≤ 9223372036854775807 := by omega
  have hon : Hid ((max n 1).toNat = Hop.often n) := rfl
  have hL := Hop.starts_up s.data.toList false
  have hLl : (Hop.starts s.data.toList false).length ≤ s.size + 1 := by rw [Hop.starts, List.length_map]; omega
  have c5 := Lib.hid (hop_Starts s false hs)
  have HF : Hid (∀ q : Nat, 1 ≤ q → Hop.farb (Hop.starts s.data.toList false) p q = Hop.times (Hop.once s.data.toList 1 false) q p) := fun q hq => Hop.farb_times hL.1 (fun x hx => (hL.2 x hx).1) q hq p
  have hs2 : Hid ((Hop.starts s.data.toList false).Pairwise (· ≤ ·) ∧ ∀ x ∈ Hop.starts s.data.toList false, 0 ≤ x) := ⟨Hop.up_le hL.1, fun x hx => (hL.2 x hx).1⟩
  have hpb2 : 0 ≤ p ∧ p ≤ 1000000000000 := by omega
  have hLm : (Hop.starts s.data.toList false).length ≤ 1000000000001 := by omega
  generalize Hop.starts s.data.toList false = xs at *
  generalize Hop.once s.data.toList 1 false = F at *
  have HH := Lib.hid (And.intro hq (And.intro hpb2 (And.intro hLl hLm)))
  clear hL hwl hLl hp hl hpb hs hpb2 hLm
  generalize bs [98] = K0 at *
  generalize bs [66] = K1 at *
  generalize hqe : max n 1 = q at *
  obtain ⟨V, hV⟩ : ∃ V, Hop.times F (Hop.often n) p = V := ⟨_, rfl⟩
  have c6 : ∀ (B : Nat) (v : Value) (w3 : World), w3.ownsRow B 3 1 v xs.length (xs.map (Value.int .i64)) → Calls Try.prog 23 #[v, .int .i64 p, .int .i64 q] w3 fun e w' => e = .returned (Hop.res V) ∧ Below w3.heap.size w3 w' := fun B v w3 hr => by
    have h := hop_back hr (by have := HH.out.2.2.2; omega) hs2.out.1 hs2.out.2 p q HH.out.1
    rw [hon.out, HF.out _ (Hop.often_pos n), hV] at h
    exact h
  rw [hV]
  clear hV HF hs2
  obtain ⟨i0, hi0, hz0, hz1, hz2⟩ := info_parts info_int
  by_cases hv : V < 0
  · simp only [Hop.res_no hv] at c6
    have C6 := Lib.hid c6
    have HV := Lib.hid hv
    clear c6 hv
    go_enter Try.func13, Try.ntmps13
    go_wp2_with (first
      | (go_at_call 15; refine (c1.out _).mono ?_; rintro e w1 ⟨rfl, rfl⟩)
      | (go_at_call 17; refine (c2.out _).mono ?_; rintro e w1 ⟨rfl, rfl⟩)
      | (go_at_call 21; refine (c3.out _).mono ?_; rintro e w1 ⟨rfl, hb1⟩)
      | (go_at_call 22; refine (c4.out _).mono ?_; rintro e w2 ⟨rfl, hb2⟩; replace hb2 := hop_below hb1 hb2)
      | (go_at_call 9; refine (c5.out _).mono ?_; rintro e w3 ⟨⟨v, rfl, hr⟩, hb3⟩; have hs3 := hb3.size; replace hb3 := hop_below hb2 hb3; obtain ⟨a, c, rfl⟩ := own_shape hr)
      | (go_at_call 23; refine (C6.out _ _ _ hr).mono ?_; rintro e w5 ⟨rfl, hb5⟩; replace hb5 := hop_below hb3 hb5))
    go_ret2
    exact ⟨by rw [Hop.res_no HV.out]; rfl, hb5⟩
  · simp only [Hop.res_at (show 0 ≤ V from by omega)] at c6
    have C6 := Lib.hid c6
    have HV := Lib.hid hv
    clear c6 hv
    go_enter Try.func13, Try.ntmps13
    go_wp2_with (first
      | (go_at_call 15; refine (c1.out _).mono ?_; rintro e w1 ⟨rfl, rfl⟩)
      | (go_at_call 17; refine (c2.out _).mono ?_; rintro e w1 ⟨rfl, rfl⟩)
      | (go_at_call 21; refine (c3.out _).mono ?_; rintro e w1 ⟨rfl, hb1⟩)
      | (go_at_call 22; refine (c4.out _).mono ?_; rintro e w2 ⟨rfl, hb2⟩; replace hb2 := hop_below hb1 hb2)
      | (go_at_call 9; refine (c5.out _).mono ?_; rintro e w3 ⟨⟨v, rfl, hr⟩, hb3⟩; have hs3 := hb3.size; replace hb3 := hop_below hb2 hb3; obtain ⟨a, c, rfl⟩ := own_shape hr)
      | (go_at_call 23; refine (C6.out _ _ _ hr).mono ?_; rintro e w5 ⟨rfl, hb5⟩; replace hb5 := hop_below hb3 hb5))
    go_ret2
    exact ⟨by rw [Hop.res_at (show 0 ≤ V from by have := HV.out; omega)]; rfl, hb5⟩
set_option maxRecDepth 100000 in
set_option maxHeartbeats 1000000 in
theorem hop_Go_66 (s : ByteArray) (p n : Int) (hs : s.size ≤ 1000000000000) (hn : n ≤ 9223372036854775807) (hp : Utf.place s.data.toList p = true) (w : World) :
    Calls Try.prog 13 #[.string s, .int .i64 p, .string (bs [66]), .int .i64 n] w fun e w' => e = .returned (Hop.res (Hop.times (Hop.once s.data.toList 1 true) (Hop.often n) p)) ∧ Below w.heap.size w w' := by
  have hl := data_len s
  have hpb := hop_place hp
  rw [hl] at hpb
  have c1 := Lib.hid (hop_Has (bs [66]))
  rw [bs_toList, show (Hop.mot [66]).isSome = true from rfl] at c1
  have c2 := Lib.hid (utf_Place s p (by omega))
  rw [hp] at c2
  have c3 := Lib.hid (class_Up (bs [66]) (by rw [bs_size]; simp))
  have c4 := Lib.hid (class_Low (bs [66]) (by rw [bs_size]; simp))
  rw [bs_toList, show Class.turn Class.small [66] = [66] from by decide] at c3
  rw [bs_toList, show Class.turn Class.capital [66] = [98] from by decide] at c4
  have t1 : ((bs [66]).toList == (bs [66]).toList) = true := by simp only [bs_tl]; rfl
  have t2 : ((bs [98]).toList == [98]) = true := by rw [bs_tl]; rfl
  have t3 : ((bs [98]).toList == [101]) = false := by rw [bs_tl]; rfl
  have hwl := Hop.words_len s.data.toList true
  have hq : 1 ≤ max n 1 ∧ max n 1 ≤ 9223372036854775807 := by omega
  have hon : Hid ((max n 1).toNat = Hop.often n) := rfl
  have hL := Hop.starts_up s.data.toList true
  have hLl : (Hop.starts s.data.toList true).length ≤ s.size + 1 := by rw [Hop.starts, List.length_map]; omega
  have c5 := Lib.hid (hop_Starts s true hs)
  have HF : Hid (∀ q : Nat, 1 ≤ q → Hop.farb (Hop.starts s.data.toList true) p q = Hop.times (Hop.once s.data.toList 1 true) q p) := fun q hq => Hop.farb_times hL.1 (fun x hx => (hL.2 x hx).1) q hq p
  have hs2 : Hid ((Hop.starts s.data.toList true).Pairwise (· ≤ ·) ∧ ∀ x ∈ Hop.starts s.data.toList true, 0 ≤ x) := ⟨Hop.up_le hL.1, fun x hx => (hL.2 x hx).1⟩
  have hpb2 : 0 ≤ p ∧ p ≤ 1000000000000 := by omega
  have hLm : (Hop.starts s.data.toList true).length ≤ 1000000000001 := by omega
  generalize Hop.starts s.data.toList true = xs at *
  generalize Hop.once s.data.toList 1 true = F at *
  have HH := Lib.hid (And.intro hq (And.intro hpb2 (And.intro hLl hLm)))
  clear hL hwl hLl hp hl hpb hs hpb2 hLm
  generalize bs [66] = K0 at *
  generalize bs [98] = K2 at *
  generalize hqe : max n 1 = q at *
  obtain ⟨V, hV⟩ : ∃ V, Hop.times F (Hop.often n) p = V := ⟨_, rfl⟩
  have c6 : ∀ (B : Nat) (v : Value) (w3 : World), w3.ownsRow B 3 1 v xs.length (xs.map (Value.int .i64)) → Calls Try.prog 23 #[v, .int .i64 p, .int .i64 q] w3 fun e w' => e = .returned (Hop.res V) ∧ Below w3.heap.size w3 w' := fun B v w3 hr => by
    have h := hop_back hr (by have := HH.out.2.2.2; omega) hs2.out.1 hs2.out.2 p q HH.out.1
    rw [hon.out, HF.out _ (Hop.often_pos n), hV] at h
    exact h
  rw [hV]
  clear hV HF hs2
  obtain ⟨i0, hi0, hz0, hz1, hz2⟩ := info_parts info_int
  by_cases hv : V < 0
  · simp only [Hop.res_no hv] at c6
    have C6 := Lib.hid c6
    have HV := Lib.hid hv
    clear c6 hv
    go_enter Try.func13, Try.ntmps13
    go_wp2_with (first
      | (go_at_call 15; refine (c1.out _).mono ?_; rintro e w1 ⟨rfl, rfl⟩)
      | (go_at_call 17; refine (c2.out _).mono ?_; rintro e w1 ⟨rfl, rfl⟩)
      | (go_at_call 21; refine (c3.out _).mono ?_; rintro e w1 ⟨rfl, hb1⟩)
      | (go_at_call 22; refine (c4.out _).mono ?_; rintro e w2 ⟨rfl, hb2⟩; replace hb2 := hop_below hb1 hb2)
      | (go_at_call 9; refine (c5.out _).mono ?_; rintro e w3 ⟨⟨v, rfl, hr⟩, hb3⟩; have hs3 := hb3.size; replace hb3 := hop_below hb2 hb3; obtain ⟨a, c, rfl⟩ := own_shape hr)
      | (go_at_call 23; refine (C6.out _ _ _ hr).mono ?_; rintro e w5 ⟨rfl, hb5⟩; replace hb5 := hop_below hb3 hb5))
    go_ret2
    exact ⟨by rw [Hop.res_no HV.out]; rfl, hb5⟩
  · simp only [Hop.res_at (show 0 ≤ V from by omega)] at c6
    have C6 := Lib.hid c6
    have HV := Lib.hid hv
    clear c6 hv
    go_enter Try.func13, Try.ntmps13
    go_wp2_with (first
      | (go_at_call 15; refine (c1.out _).mono ?_; rintro e w1 ⟨rfl, rfl⟩)
      | (go_at_call 17; refine (c2.out _).mono ?_; rintro e w1 ⟨rfl, rfl⟩)
      | (go_at_call 21; refine (c3.out _).mono ?_; rintro e w1 ⟨rfl, hb1⟩)
      | (go_at_call 22; refine (c4.out _).mono ?_; rintro e w2 ⟨rfl, hb2⟩; replace hb2 := hop_below hb1 hb2)
      | (go_at_call 9; refine (c5.out _).mono ?_; rintro e w3 ⟨⟨v, rfl, hr⟩, hb3⟩; have hs3 := hb3.size; replace hb3 := hop_below hb2 hb3; obtain ⟨a, c, rfl⟩ := own_shape hr)
      | (go_at_call 23; refine (C6.out _ _ _ hr).mono ?_; rintro e w5 ⟨rfl, hb5⟩; replace hb5 := hop_below hb3 hb5))
    go_ret2
    exact ⟨by rw [Hop.res_at (show 0 ≤ V from by have := HV.out; omega)]; rfl, hb5⟩
set_option maxRecDepth 100000 in
set_option maxHeartbeats 1000000 in
theorem hop_Go_101 (s : ByteArray) (p n : Int) (hs : s.size ≤ 1000000000000) (hn : n ≤ 9223372036854775807) (hp : Utf.place s.data.toList p = true) (w : World) :
    Calls Try.prog 13 #[.string s, .int .i64 p, .string (bs [101]), .int .i64 n] w fun e w' => e = .returned (Hop.res (Hop.times (Hop.once s.data.toList 2 false) (Hop.often n) p)) ∧ Below w.heap.size w w' := by
  have hl := data_len s
  have hpb := hop_place hp
  rw [hl] at hpb
  have c1 := Lib.hid (hop_Has (bs [101]))
  rw [bs_toList, show (Hop.mot [101]).isSome = true from rfl] at c1
  have c2 := Lib.hid (utf_Place s p (by omega))
  rw [hp] at c2
  have c3 := Lib.hid (class_Up (bs [101]) (by rw [bs_size]; simp))
  have c4 := Lib.hid (class_Low (bs [101]) (by rw [bs_size]; simp))
  rw [bs_toList, show Class.turn Class.small [101] = [69] from by decide] at c3
  rw [bs_toList, show Class.turn Class.capital [101] = [101] from by decide] at c4
  have t1 : ((bs [101]).toList == (bs [69]).toList) = false := by simp only [bs_tl]; rfl
  have t2 : ((bs [101]).toList == [98]) = false := by rw [bs_tl]; rfl
  have t3 : ((bs [101]).toList == [101]) = true := by rw [bs_tl]; rfl
  have hwl := Hop.words_len s.data.toList false
  have hq : 1 ≤ max n 1 ∧ max n 1 ≤ 9223372036854775807 := by omega
  have hon : Hid ((max n 1).toNat = Hop.often n) := rfl
  have hL := Hop.ends_up s.data.toList false
  have hLl : (Hop.ends s.data.toList false).length ≤ s.size + 1 := by
    have h1 : (Hop.ends s.data.toList false).length ≤ (Hop.words s.data.toList false).length := Nat.le_trans (List.length_filter_le ..) (by rw [List.length_map]; exact Nat.le_refl _)
    omega
  have c5 := Lib.hid (hop_Ends s false hs)
  have HF : Hid (∀ q : Nat, 1 ≤ q → Hop.far (Hop.ends s.data.toList false) p q = Hop.times (Hop.once s.data.toList 2 false) q p) := fun q hq => Hop.far_times hL.1 hL.2 q hq p
  have hs2 : Hid ((Hop.ends s.data.toList false).Pairwise (· ≤ ·) ∧ ∀ x ∈ Hop.ends s.data.toList false, 0 ≤ x) := ⟨Hop.up_le hL.1, hL.2⟩
  have hpb2 : 0 ≤ p ∧ p ≤ 1000000000000 := by omega
  have hLm : (Hop.ends s.data.toList false).length ≤ 1000000000001 := by omega
  generalize Hop.ends s.data.toList false = xs at *
  generalize Hop.once s.data.toList 2 false = F at *
  have HH := Lib.hid (And.intro hq (And.intro hpb2 (And.intro hLl hLm)))
  clear hL hwl hLl hp hl hpb hs hpb2 hLm
  generalize bs [101] = K0 at *
  generalize bs [69] = K1 at *
  generalize hqe : max n 1 = q at *
  obtain ⟨V, hV⟩ : ∃ V, Hop.times F (Hop.often n) p = V := ⟨_, rfl⟩
  have c6 : ∀ (B : Nat) (v : Value) (w3 : World), w3.ownsRow B 3 1 v xs.length (xs.map (Value.int .i64)) → Calls Try.prog 24 #[v, .int .i64 p, .int .i64 q] w3 fun e w' => e = .returned (Hop.res V) ∧ Below w3.heap.size w3 w' := fun B v w3 hr => by
    have h := hop_on hr (by have := HH.out.2.2.2; omega) hs2.out.1 hs2.out.2 p q HH.out.2.1 HH.out.1
    rw [hon.out, HF.out _ (Hop.often_pos n), hV] at h
    exact h
  rw [hV]
  clear hV HF hs2
  obtain ⟨i0, hi0, hz0, hz1, hz2⟩ := info_parts info_int
  by_cases hv : V < 0
  · simp only [Hop.res_no hv] at c6
    have C6 := Lib.hid c6
    have HV := Lib.hid hv
    clear c6 hv
    go_enter Try.func13, Try.ntmps13
    go_wp2_with (first
      | (go_at_call 15; refine (c1.out _).mono ?_; rintro e w1 ⟨rfl, rfl⟩)
      | (go_at_call 17; refine (c2.out _).mono ?_; rintro e w1 ⟨rfl, rfl⟩)
      | (go_at_call 21; refine (c3.out _).mono ?_; rintro e w1 ⟨rfl, hb1⟩)
      | (go_at_call 22; refine (c4.out _).mono ?_; rintro e w2 ⟨rfl, hb2⟩; replace hb2 := hop_below hb1 hb2)
      | (go_at_call 11; refine (c5.out _).mono ?_; rintro e w3 ⟨⟨v, rfl, hr⟩, hb3⟩; have hs3 := hb3.size; replace hb3 := hop_below hb2 hb3; obtain ⟨a, c, rfl⟩ := own_shape hr)
      | (go_at_call 24; refine (C6.out _ _ _ hr).mono ?_; rintro e w5 ⟨rfl, hb5⟩; replace hb5 := hop_below hb3 hb5))
    go_ret2
    exact ⟨by rw [Hop.res_no HV.out]; rfl, hb5⟩
  · simp only [Hop.res_at (show 0 ≤ V from by omega)] at c6
    have C6 := Lib.hid c6
    have HV := Lib.hid hv
    clear c6 hv
    go_enter Try.func13, Try.ntmps13
    go_wp2_with (first
      | (go_at_call 15; refine (c1.out _).mono ?_; rintro e w1 ⟨rfl, rfl⟩)
      | (go_at_call 17; refine (c2.out _).mono ?_; rintro e w1 ⟨rfl, rfl⟩)
      | (go_at_call 21; refine (c3.out _).mono ?_; rintro e w1 ⟨rfl, hb1⟩)
      | (go_at_call 22; refine (c4.out _).mono ?_; rintro e w2 ⟨rfl, hb2⟩; replace hb2 := hop_below hb1 hb2)
      | (go_at_call 11; refine (c5.out _).mono ?_; rintro e w3 ⟨⟨v, rfl, hr⟩, hb3⟩; have hs3 := hb3.size; replace hb3 := hop_below hb2 hb3; obtain ⟨a, c, rfl⟩ := own_shape hr)
      | (go_at_call 24; refine (C6.out _ _ _ hr).mono ?_; rintro e w5 ⟨rfl, hb5⟩; replace hb5 := hop_below hb3 hb5))
    go_ret2
    exact ⟨by rw [Hop.res_at (show 0 ≤ V from by have := HV.out; omega)]; rfl, hb5⟩
set_option maxRecDepth 100000 in
set_option maxHeartbeats 1000000 in
theorem hop_Go_69 (s : ByteArray) (p n : Int) (hs : s.size ≤ 1000000000000) (hn : n ≤ 9223372036854775807) (hp : Utf.place s.data.toList p = true) (w : World) :
    Calls Try.prog 13 #[.string s, .int .i64 p, .string (bs [69]), .int .i64 n] w fun e w' => e = .returned (Hop.res (Hop.times (Hop.once s.data.toList 2 true) (Hop.often n) p)) ∧ Below w.heap.size w w' := by
  have hl := data_len s
  have hpb := hop_place hp
  rw [hl] at hpb
  have c1 := Lib.hid (hop_Has (bs [69]))
  rw [bs_toList, show (Hop.mot [69]).isSome = true from rfl] at c1
  have c2 := Lib.hid (utf_Place s p (by omega))
  rw [hp] at c2
  have c3 := Lib.hid (class_Up (bs [69]) (by rw [bs_size]; simp))
  have c4 := Lib.hid (class_Low (bs [69]) (by rw [bs_size]; simp))
  rw [bs_toList, show Class.turn Class.small [69] = [69] from by decide] at c3
  rw [bs_toList, show Class.turn Class.capital [69] = [101] from by decide] at c4
  have t1 : ((bs [69]).toList == (bs [69]).toList) = true := by simp only [bs_tl]; rfl
  have t2 : ((bs [101]).toList == [98]) = false := by rw [bs_tl]; rfl
  have t3 : ((bs [101]).toList == [101]) = true := by rw [bs_tl]; rfl
  have hwl := Hop.words_len s.data.toList true
  have hq : 1 ≤ max n 1 ∧ max n 1 ≤ 9223372036854775807 := by omega
  have hon : Hid ((max n 1).toNat = Hop.often n) := rfl
  have hL := Hop.ends_up s.data.toList true
  have hLl : (Hop.ends s.data.toList true).length ≤ s.size + 1 := by
    have h1 : (Hop.ends s.data.toList true).length ≤ (Hop.words s.data.toList true).length := Nat.le_trans (List.length_filter_le ..) (by rw [List.length_map]; exact Nat.le_refl _)
    omega
  have c5 := Lib.hid (hop_Ends s true hs)
  have HF : Hid (∀ q : Nat, 1 ≤ q → Hop.far (Hop.ends s.data.toList true) p q = Hop.times (Hop.once s.data.toList 2 true) q p) := fun q hq => Hop.far_times hL.1 hL.2 q hq p
  have hs2 : Hid ((Hop.ends s.data.toList true).Pairwise (· ≤ ·) ∧ ∀ x ∈ Hop.ends s.data.toList true, 0 ≤ x) := ⟨Hop.up_le hL.1, hL.2⟩
  have hpb2 : 0 ≤ p ∧ p ≤ 1000000000000 := by omega
  have hLm : (Hop.ends s.data.toList true).length ≤ 1000000000001 := by omega
  generalize Hop.ends s.data.toList true = xs at *
  generalize Hop.once s.data.toList 2 true = F at *
  have HH := Lib.hid (And.intro hq (And.intro hpb2 (And.intro hLl hLm)))
  clear hL hwl hLl hp hl hpb hs hpb2 hLm
  generalize bs [69] = K0 at *
  generalize bs [101] = K2 at *
  generalize hqe : max n 1 = q at *
  obtain ⟨V, hV⟩ : ∃ V, Hop.times F (Hop.often n) p = V := ⟨_, rfl⟩
  have c6 : ∀ (B : Nat) (v : Value) (w3 : World), w3.ownsRow B 3 1 v xs.length (xs.map (Value.int .i64)) → Calls Try.prog 24 #[v, .int .i64 p, .int .i64 q] w3 fun e w' => e = .returned (Hop.res V) ∧ Below w3.heap.size w3 w' := fun B v w3 hr => by
    have h := hop_on hr (by have := HH.out.2.2.2; omega) hs2.out.1 hs2.out.2 p q HH.out.2.1 HH.out.1
    rw [hon.out, HF.out _ (Hop.often_pos n), hV] at h
    exact h
  rw [hV]
  clear hV HF hs2
  obtain ⟨i0, hi0, hz0, hz1, hz2⟩ := info_parts info_int
  by_cases hv : V < 0
  · simp only [Hop.res_no hv] at c6
    have C6 := Lib.hid c6
    have HV := Lib.hid hv
    clear c6 hv
    go_enter Try.func13, Try.ntmps13
    go_wp2_with (first
      | (go_at_call 15; refine (c1.out _).mono ?_; rintro e w1 ⟨rfl, rfl⟩)
      | (go_at_call 17; refine (c2.out _).mono ?_; rintro e w1 ⟨rfl, rfl⟩)
      | (go_at_call 21; refine (c3.out _).mono ?_; rintro e w1 ⟨rfl, hb1⟩)
      | (go_at_call 22; refine (c4.out _).mono ?_; rintro e w2 ⟨rfl, hb2⟩; replace hb2 := hop_below hb1 hb2)
      | (go_at_call 11; refine (c5.out _).mono ?_; rintro e w3 ⟨⟨v, rfl, hr⟩, hb3⟩; have hs3 := hb3.size; replace hb3 := hop_below hb2 hb3; obtain ⟨a, c, rfl⟩ := own_shape hr)
      | (go_at_call 24; refine (C6.out _ _ _ hr).mono ?_; rintro e w5 ⟨rfl, hb5⟩; replace hb5 := hop_below hb3 hb5))
    go_ret2
    exact ⟨by rw [Hop.res_no HV.out]; rfl, hb5⟩
  · simp only [Hop.res_at (show 0 ≤ V from by omega)] at c6
    have C6 := Lib.hid c6
    have HV := Lib.hid hv
    clear c6 hv
    go_enter Try.func13, Try.ntmps13
    go_wp2_with (first
      | (go_at_call 15; refine (c1.out _).mono ?_; rintro e w1 ⟨rfl, rfl⟩)
      | (go_at_call 17; refine (c2.out _).mono ?_; rintro e w1 ⟨rfl, rfl⟩)
      | (go_at_call 21; refine (c3.out _).mono ?_; rintro e w1 ⟨rfl, hb1⟩)
      | (go_at_call 22; refine (c4.out _).mono ?_; rintro e w2 ⟨rfl, hb2⟩; replace hb2 := hop_below hb1 hb2)
      | (go_at_call 11; refine (c5.out _).mono ?_; rintro e w3 ⟨⟨v, rfl, hr⟩, hb3⟩; have hs3 := hb3.size; replace hb3 := hop_below hb2 hb3; obtain ⟨a, c, rfl⟩ := own_shape hr)
      | (go_at_call 24; refine (C6.out _ _ _ hr).mono ?_; rintro e w5 ⟨rfl, hb5⟩; replace hb5 := hop_below hb3 hb5))
    go_ret2
    exact ⟨by rw [Hop.res_at (show 0 ≤ V from by have := HV.out; omega)]; rfl, hb5⟩
theorem hop_Go_no (s : ByteArray) (p : Int) (k : ByteArray) (n : Int) (hs : s.size ≤ 1000000000000) (h : Hop.mot k.data.toList = none ∨ Utf.place s.data.toList p = false) (w : World) :
    Calls Try.prog 13 #[.string s, .int .i64 p, .string k, .int .i64 n] w fun e w' => e = .returned (Hop.res (-1)) ∧ Below w.heap.size w w' := by
  have c1 := hop_Has k
  have c2 := Lib.hid (utf_Place s p (by omega))
  cases hm : Hop.mot k.data.toList with
  | none =>
    rw [hm, show (none : Option (Nat × Bool)).isSome = false from rfl] at c1
    have C1 := Lib.hid c1
    clear c1 h hm
    go_enter Try.func13, Try.ntmps13
    go_wp2_with (go_at_call 15; refine (C1.out _).mono ?_; rintro e w1 ⟨rfl, rfl⟩)
    go_ret2
    exact ⟨rfl, Below.refl _ _⟩
  | some m =>
    rw [hm, show (some m).isSome = true from rfl] at c1
    have C1 := Lib.hid c1
    have hp : Utf.place s.data.toList p = false := h.resolve_left (by rw [hm]; simp)
    rw [hp] at c2
    clear c1 h hm hp
    go_enter Try.func13, Try.ntmps13
    go_wp2_with (first
      | (go_at_call 15; refine (C1.out _).mono ?_; rintro e w1 ⟨rfl, rfl⟩)
      | (go_at_call 17; refine (c2.out _).mono ?_; rintro e w1 ⟨rfl, rfl⟩))
    go_ret2
    exact ⟨rfl, Below.refl _ _⟩
theorem Hop.mot_cases (k : List UInt8) : Hop.mot k = none ∨ k = [119] ∨ k = [87] ∨ k = [98] ∨ k = [66] ∨ k = [101] ∨ k = [69] := by
  unfold Hop.mot
  by_cases h119 : k = [119]
  · subst h119; simp
  by_cases h87 : k = [87]
  · subst h87; simp
  by_cases h98 : k = [98]
  · subst h98; simp
  by_cases h66 : k = [66]
  · subst h66; simp
  by_cases h101 : k = [101]
  · subst h101; simp
  by_cases h69 : k = [69]
  · subst h69; simp
  left; simp [h119, h87, h98, h66, h101, h69]
theorem hop_Go (s : ByteArray) (p : Int) (k : ByteArray) (n : Int) (hs : s.size ≤ 1000000000000) (hn : n ≤ 9223372036854775807) (w : World) :
    Calls Try.prog 13 #[.string s, .int .i64 p, .string k, .int .i64 n] w fun e w' => e = .returned (Hop.res (Hop.goV s.data.toList p k.data.toList n)) ∧ Below w.heap.size w w' := by
  rcases Hop.mot_cases k.data.toList with h | h | h | h | h | h | h
  · rw [Hop.goV_none h]; exact hop_Go_no s p k n hs (.inl h) w
  · obtain rfl : k = bs [119] := by rw [← bs_data k, h]
    cases hp : Utf.place s.data.toList p with
    | false => rw [Hop.goV_off hp]; exact hop_Go_no s p _ n hs (.inr hp) w
    | true => rw [Hop.goV_at (m := 0) (big := false) rfl hp]; exact hop_Go_119 s p n hs hn hp w
  · obtain rfl : k = bs [87] := by rw [← bs_data k, h]
    cases hp : Utf.place s.data.toList p with
    | false => rw [Hop.goV_off hp]; exact hop_Go_no s p _ n hs (.inr hp) w
    | true => rw [Hop.goV_at (m := 0) (big := true) rfl hp]; exact hop_Go_87 s p n hs hn hp w
  · obtain rfl : k = bs [98] := by rw [← bs_data k, h]
    cases hp : Utf.place s.data.toList p with
    | false => rw [Hop.goV_off hp]; exact hop_Go_no s p _ n hs (.inr hp) w
    | true => rw [Hop.goV_at (m := 1) (big := false) rfl hp]; exact hop_Go_98 s p n hs hn hp w
  · obtain rfl : k = bs [66] := by rw [← bs_data k, h]
    cases hp : Utf.place s.data.toList p with
    | false => rw [Hop.goV_off hp]; exact hop_Go_no s p _ n hs (.inr hp) w
    | true => rw [Hop.goV_at (m := 1) (big := true) rfl hp]; exact hop_Go_66 s p n hs hn hp w
  · obtain rfl : k = bs [101] := by rw [← bs_data k, h]
    cases hp : Utf.place s.data.toList p with
    | false => rw [Hop.goV_off hp]; exact hop_Go_no s p _ n hs (.inr hp) w
    | true => rw [Hop.goV_at (m := 2) (big := false) rfl hp]; exact hop_Go_101 s p n hs hn hp w
  · obtain rfl : k = bs [69] := by rw [← bs_data k, h]
    cases hp : Utf.place s.data.toList p with
    | false => rw [Hop.goV_off hp]; exact hop_Go_no s p _ n hs (.inr hp) w
    | true => rw [Hop.goV_at (m := 2) (big := true) rfl hp]; exact hop_Go_69 s p n hs hn hp w
end Go.Proofs.Ytjkcdmlbnfibgaa
