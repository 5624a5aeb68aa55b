/-
  The law TreeKeeps: what is added makes the text at the new node of that at the old one; all other nodes and texts stay.
-/
import Derived.Test.YtffihchkmcddeaaTreeTextsLaw
import Derived.Test.YtffihchkmcddeaaTreeKeepsPlain
namespace Go.Proofs.Ytffihchkmcddeaa
open Go.RowKit
open Utf Chg Tre
theorem dOld_len (x y : List UInt8) : (dOld x y).length ≤ x.length := by
  cases hx : dec x with
  | none => rw [dOld_none (Or.inr (Or.inl hx))]; simp
  | some rs =>
    cases hy : dec y with
    | none => rw [dOld_none (Or.inr (Or.inr hy))]; simp
    | some ss =>
      obtain ⟨p, q, h1, _⟩ := diff_parts (valid_ok hx) (valid_ok hy)
      have := congrArg List.length h1
      simp only [List.length_append] at this
      omega
/-- An answer of n texts, and an error. -/
def TextsAt (n : Nat) (xs : List (List UInt8)) (code : Int) (w : World) (e : Ending) (w' : World) : Prop := ∃ (A : Option Addr) (c : Nat), e = .returned (.tuple #[.slice A n c, .int .i64 code]) ∧ Strs w' A (xs.map bs) ∧ Below w.heap.size w w'
theorem textsAt_of {n : Nat} {xs : List (List UInt8)} {code : Int} {w w' : World} {e : Ending} (hn : xs.length = n) (h : TextsIs (xs, code) w e w') : TextsAt n xs code w e w' := by
  subst hn
  exact h
theorem keeps_err {l : List Nd} {cur m : Int} {n : Nat} {w w' : World} {e : Ending} (hn : l.length = n) (h : TreeErr (l, cur, m) w e w') : ErrAt n l cur m w e w' := by
  subst hn
  obtain ⟨v, rfl, A, c, rfl, h1, h2, h3⟩ := h
  exact ⟨A, c, rfl, h1, h2, h3⟩
set_option maxHeartbeats 4000000 in
set_option maxRecDepth 100000 in
theorem treeKeeps_long (s z : ByteArray) {A : Option Addr} {c : Nat} {l : List Nd} {cur : Int} {w : World} (hx : Nds w A l) (hs : ∀ x ∈ l, x.old.size ≤ 140737488351232 ∧ x.new.size ≤ 140737488351232) (ht : s.size ≤ 140737488351232) (hz : z.size ≤ 140737488351232) (hl : 60 < l.length) (hl2 : l.length ≤ 9223372036854775807) :
    Calls Try.prog 8 #[.agg #[.slice A l.length c, .int .i64 cur], .string s, .string z] w fun e w' => e = .returned (.bool true) ∧ Below w.heap.size w w' := by
  have LV := Lib.hid tree_lives
  have HB := Lib.hid (fun u => blk1 w #[.slice A l.length c, .int .i64 cur] 24 (u := u))
  obtain ⟨b, off, rfl, hbw, CC⟩ := hx.addr (by omega)
  have CE := Lib.hid CC
  have HS := Lib.hid hs
  have d0 : decide ((60 : Int) < (l.length : Int)) = true := decide_eq_true (by omega)
  clear CC hx hs
  go_enter Try.func8, Try.ntmps8
  go_wp2_with fail
  have hS : (w.alloc (.cells #[.slice (some ⟨b, off, none⟩) l.length c, .int .i64 cur] 24)).heap.size = w.heap.size + 1 := World.size_alloc _ _
  generalize w.alloc (.cells #[.slice (some ⟨b, off, none⟩) l.length c, .int .i64 cur] 24) = wz at *
  rw [hS] at HB
  have R0 := Below.refl (w.heap.size + 1) wz
  clear hS
  go_loopw [7, 8] (fun nv iv wr => ∃ (j M : Nat), iv = .int .i64 j ∧ nv = .int .i64 M ∧ j ≤ 61 ∧ M ≤ 281474976702464 + j * 281474976702464 ∧ Below (w.heap.size + 1) wz wr) (fun _ iv _ => 61 - (intOf iv).toNat)
  case atStart => exact ⟨0, s.size + z.size, rfl, by go_num, by omega, by omega, R0⟩
  case round =>
    clear R0
    obtain ⟨j, M, rfl, rfl, hj, hM, hV⟩ := hrel
    obtain ⟨z1, x0, hW⟩ := HB.out _ hV
    have t0 := x0.cell 0
    by_cases hlt : j < l.length
    · have g1 : decide ((j : Int) < (l.length : Int)) = true := decide_eq_true (by omega)
      by_cases h61 : j < 61
      · have g2 : decide ((j : Int) < 61) = true := decide_eq_true (by omega)
        obtain ⟨y, hy⟩ : ∃ y, l[j]? = some y := ⟨_, List.getElem?_eq_getElem hlt⟩
        obtain ⟨_, _, _, _, _, c5, c6⟩ := CE.out wr _ hW (Nat.le_refl _) _ _ hy
        obtain ⟨z2, z3⟩ := HS.out y (List.mem_of_getElem? hy)
        have hbl := Nat.lt_of_lt_of_le hbw hW.size
        have hji : (j : Int) < (l.length : Int) := by omega
        clear hy x0
        generalize y.old = o at *
        generalize y.new = n at *
        go_wp2
        go_quiet (fail)
        go_wp2
        go_roundw
        case rel => exact ⟨j + 1, M + (o.size + n.size), by go_num, by go_num, by omega, by omega, hV.trans ((below_gb (gb_drewN _ _ none)).mono z1)⟩
        case measure => simp [intOf] <;> omega
      · have g2 : decide ((j : Int) < 61) = false := decide_eq_false (by omega)
        go_wp2_with (go_at_call 9; (with_reducible refine (LV.out _).mono ?_); rintro e w9 ⟨rfl, hb9⟩)
        go_ret
        exact ⟨rfl, hW.trans (hb9.mono hW.size)⟩
    · have g1 : decide ((j : Int) < (l.length : Int)) = false := decide_eq_false (by omega)
      go_wp2_with (go_at_call 9; (with_reducible refine (LV.out _).mono ?_); rintro e w9 ⟨rfl, hb9⟩)
      go_ret
      exact ⟨rfl, hW.trans (hb9.mono hW.size)⟩
set_option maxHeartbeats 8000000 in
set_option maxRecDepth 100000 in
theorem treeKeeps_walk (s z : ByteArray) {A : Option Addr} {c : Nat} {l : List Nd} {cur : Int} {w : World} (hx : Nds w A l) (hc : l.length ≤ c) (hm : c ≤ maxLen) (hs : ∀ x ∈ l, x.old.size ≤ 140737488351232 ∧ x.new.size ≤ 140737488351232) (ht : s.size ≤ 140737488351232) (hz : z.size ≤ 140737488351232) :
    Calls Try.prog 8 #[.agg #[.slice A l.length c, .int .i64 cur], .string s, .string z] w fun e w' => e = .returned (.bool true) ∧ Below w.heap.size w w' := by
  by_cases hl : 60 < l.length
  · exact treeKeeps_long s z hx hs ht hz hl (by unfold maxLen at hm; omega)
  clear hm
  have LV := Lib.hid tree_lives
  have HB := Lib.hid (fun u => blk1 w #[.slice A l.length c, .int .i64 cur] 24 (u := u))
  have CE := Lib.hid (fun (u : World) (hu : Below w.heap.size w u) (j : Nat) (y : Nd) (hy : l[j]? = some y) => hx.at_ hu (Nat.le_refl _) hy)
  have HS := Lib.hid hs
  have hlx := data_len s
  have hlz := data_len z
  have T1 : Hid (∀ u, wt l l.length ≤ 3000 → s.size ≤ 3000 → Below w.heap.size w u → Calls Try.prog 31 #[.agg #[.slice A l.length c, .int .i64 cur], .string s] u (TextsIs (texts l cur s.data.toList) u)) := fun u h1 h2 hu => tree_Texts s (hx.below hu) hc (by omega) (fun x hx => by have := wt_mem hx; omega) (by omega)
  have DF := Lib.hid (fun u => change_Diff s z (by omega) (by omega) u)
  have FIN : Hid (∀ ts S, s.size + z.size + wt l l.length ≤ 3000 → texts l cur s.data.toList = (ts, 0) → does [⟨(dAt s.data.toList z.data.toList : Nat), bs (dOld s.data.toList z.data.toList), bs (dOld z.data.toList s.data.toList)⟩] s.data.toList = (S, 0) →
      ∃ (L : List Nd) (m : Nat), cur = m ∧ m < l.length ∧ ts.length = l.length ∧ ts[m]? = some s.data.toList ∧
        (∀ u, Below w.heap.size w u → Calls Try.prog 10 #[.agg #[.slice A l.length c, .int .i64 cur], .agg #[.int .i64 (dAt s.data.toList z.data.toList : Nat), .string (bs (dOld s.data.toList z.data.toList)), .string (bs (dOld z.data.toList s.data.toList))], .int .i64 0, .int .i64 0] u (ErrAt (l.length + 1) L (l.length : Nat) 0 u)) ∧
        (∀ (u : World) (A : Option Addr) (c : Nat), Nds u A L → l.length + 1 ≤ c → Calls Try.prog 31 #[.agg #[.slice A (l.length + 1) c, .int .i64 (l.length : Nat)], .string (bs S)] u (TextsAt (l.length + 1) (ts ++ [S]) 0 u)) ∧
        (∀ (u : World) (A : Option Addr) (c : Nat), Nds u A L → l.length + 1 ≤ c → Calls Try.prog 12 #[.agg #[.slice A (l.length + 1) c, .int .i64 (l.length : Nat)]] u fun e w' => e = .returned (.bool true) ∧ Below u.heap.size u w')) := fun ts S hN hT hD => by
    have o1 := dOld_len s.data.toList z.data.toList
    have o2 := dOld_len z.data.toList s.data.toList
    have hD2 := diff_turn (by omega) hD
    obtain ⟨X, hX⟩ : ∃ X : Nd, X = ⟨cur, -1, 0, 0, (dAt s.data.toList z.data.toList : Nat), bs (dOld s.data.toList z.data.toList), bs (dOld z.data.toList s.data.toList)⟩ := ⟨_, rfl⟩
    have X1 : X.up = cur := by rw [hX]
    have X2 : X.next = -1 := by rw [hX]
    have X3 : 0 ≤ X.before := by rw [hX]; exact Int.le_refl _
    have X4 : 0 ≤ X.after := by rw [hX]; exact Int.le_refl _
    have X5 : X.old.size + X.new.size ≤ 3000 := by rw [hX]; show (bs _).size + (bs _).size ≤ 3000; rw [bs_size, bs_size]; omega
    have X6 : does [turned X] S = (s.data.toList, 0) := by rw [hX]; exact hD2
    obtain ⟨hR, hl1, hl2, hR2, hT2⟩ := texts_more hT X1 X2 X3 X4 (by omega) X6
    obtain ⟨m, hme⟩ : ∃ m : Nat, cur = m := ⟨cur.toNat, by have := hR.low; omega⟩
    have hS4 : S.length ≤ 4096 := by
      have := does_len ⟨(dAt s.data.toList z.data.toList : Nat), bs (dOld s.data.toList z.data.toList), bs (dOld z.data.toList s.data.toList)⟩ s.data.toList
      rw [hD] at this
      exact this
    have hLs : ∀ x ∈ added l X, x.old.size + x.new.size ≤ 3000 := fun x hx => by
      obtain ⟨j, hj, rfl⟩ := List.getElem_of_mem hx
      have hj' : j < (l ++ [X]).length := by rw [added_length] at hj; simpa using hj
      obtain ⟨n, h2⟩ := (added_alike l X).2 j _ (List.getElem?_eq_getElem hj')
      rw [List.getElem?_eq_getElem hj] at h2
      injection h2 with h2
      rw [h2]
      show (l ++ [X])[j].old.size + (l ++ [X])[j].new.size ≤ 3000
      rcases List.mem_append.1 (List.getElem_mem hj') with h | h
      · have := wt_mem h; omega
      · rw [List.mem_singleton.1 h]; exact X5
    refine ⟨added l X, m, hme, by have := hR.high; omega, hl1, by rw [hme, Int.toNat_natCast] at hl2; exact hl2, fun u hu => ?_, fun u A c h1 h2 => ?_, fun u A c h1 h2 => ?_⟩
    · have := tree_Add (cur := cur) (at_ := (dAt s.data.toList z.data.toList : Nat)) (before := 0) (after := 0) (old := bs (dOld s.data.toList z.data.toList)) (new := bs (dOld z.data.toList s.data.toList)) (hx.below hu) hc (by omega) (fun x hx => by have := hs x hx; omega) (by rw [bs_size]; omega) (by rw [bs_size]; omega)
      rw [← hX, addTo, if_neg (by rintro (h | h | h); exact h hR; omega; omega), if_neg (by omega)] at this
      exact this.mono fun e w' h => keeps_err (added_length l X) h
    · have := tree_Texts (cur := (l.length : Nat)) (bs S) h1 (by rw [added_length]; exact h2) (by rw [added_length]; omega) (fun x hx => by have := hLs x hx; omega) (by rw [bs_size]; omega)
      rw [bs_toList, hT2, added_length] at this
      exact this.mono fun e w' h => textsAt_of (by simp [hl1]) h
    · have := tree_Right (cur := (l.length : Nat)) h1 (by rw [added_length]; exact h2) (by rw [added_length]; omega)
      rw [decide_eq_true hR2, added_length] at this
      exact this
  obtain ⟨ts, en, hT⟩ : ∃ ts en, texts l cur s.data.toList = (ts, en) := ⟨_, _, rfl⟩
  obtain ⟨S, f, hD⟩ : ∃ S f, does [⟨(dAt s.data.toList z.data.toList : Nat), bs (dOld s.data.toList z.data.toList), bs (dOld z.data.toList s.data.toList)⟩] s.data.toList = (S, f) := ⟨_, _, rfl⟩
  have DO : Hid (∀ (u : World) (A : Option Addr) (c : Nat), s.size + z.size ≤ 3000 → Cgs u A [⟨(dAt s.data.toList z.data.toList : Nat), bs (dOld s.data.toList z.data.toList), bs (dOld z.data.toList s.data.toList)⟩] → Calls Try.prog 35 #[.string s, .slice A 1 c] u fun e' w' => e' = .returned (.tuple #[.string (bs S), .int .i64 f]) ∧ Below u.heap.size u w') := fun u A c h1 h => by
    have o1 := dOld_len s.data.toList z.data.toList
    have o2 := dOld_len z.data.toList s.data.toList
    have := do_one s _ A c u h (by omega) (by show (bs _).size + (bs _).size ≤ _; rw [bs_size, bs_size]; omega)
    rw [hD] at this
    exact this
  have C1 : Hid (∀ u : World, Cgs ((u.alloc (.cells #[.int .i64 (dAt s.data.toList z.data.toList : Nat), .string (bs (dOld s.data.toList z.data.toList)), .string (bs (dOld z.data.toList s.data.toList))] 26)).alloc (.cells #[.int .i64 (dAt s.data.toList z.data.toList : Nat), .string (bs (dOld s.data.toList z.data.toList)), .string (bs (dOld z.data.toList s.data.toList))] 26)) (some ⟨u.heap.size + 1, 0, none⟩) [⟨(dAt s.data.toList z.data.toList : Nat), bs (dOld s.data.toList z.data.toList), bs (dOld z.data.toList s.data.toList)⟩]) := fun u => by
    have := cgs_one (u.alloc (.cells #[.int .i64 (dAt s.data.toList z.data.toList : Nat), .string (bs (dOld s.data.toList z.data.toList)), .string (bs (dOld z.data.toList s.data.toList))] 26)) ⟨(dAt s.data.toList z.data.toList : Nat), bs (dOld s.data.toList z.data.toList), bs (dOld z.data.toList s.data.toList)⟩ 26
    rw [World.size_alloc] at this
    exact this
  have HT := Lib.hid hT
  have HD := Lib.hid hD
  rw [hT] at T1
  have HX0 : Hid (bs s.data.toList = s) := bs_data s
  have d0 : decide ((60 : Int) < (l.length : Int)) = false := decide_eq_false (by omega)
  have W0 : Hid (s.size + z.size = s.size + z.size + wt l 0) := rfl
  clear hx hs hc hT hD hlx hlz
  generalize hx' : s.data.toList = x at *
  clear hx'
  generalize dAt x z.data.toList = d at *
  generalize bs (dOld x z.data.toList) = o at *
  generalize bs (dOld z.data.toList x) = nn at *
  go_enter Try.func8, Try.ntmps8
  go_wp2_with fail
  have hS : (w.alloc (.cells #[.slice A l.length c, .int .i64 cur] 24)).heap.size = w.heap.size + 1 := World.size_alloc _ _
  generalize w.alloc (.cells #[.slice A l.length c, .int .i64 cur] 24) = wz at *
  rw [hS] at HB
  have R0 := Below.refl (w.heap.size + 1) wz
  clear hS
  go_loopw [7, 8] (fun nv iv wr => ∃ (j M : Nat), iv = .int .i64 j ∧ nv = .int .i64 M ∧ j ≤ l.length ∧ M ≤ 281474976702464 + j * 281474976702464 ∧ Hid (M = s.size + z.size + wt l j) ∧ Below (w.heap.size + 1) wz wr) (fun _ iv _ => l.length - (intOf iv).toNat)
  case atStart => exact ⟨0, s.size + z.size, rfl, by go_num, by omega, by omega, W0, R0⟩
  case round =>
    clear R0 W0
    obtain ⟨j, M, rfl, rfl, hj, hM, HM, hV⟩ := hrel
    obtain ⟨z1, x0, hW⟩ := HB.out _ hV
    have t0 := x0.cell 0
    have t1 := x0.cell 1
    by_cases hlt : j < l.length
    · have g1 : decide ((j : Int) < (l.length : Int)) = true := decide_eq_true (by omega)
      have g2 : decide ((j : Int) < 61) = true := decide_eq_true (by omega)
      obtain ⟨y, hy⟩ : ∃ y, l[j]? = some y := ⟨_, List.getElem?_eq_getElem hlt⟩
      obtain ⟨b, off, rfl, hbw, _, _, _, _, _, c5, c6⟩ := CE.out wr hW _ _ hy
      obtain ⟨z2, z3⟩ := HS.out y (List.mem_of_getElem? hy)
      have hbl := Nat.lt_of_lt_of_le hbw hW.size
      have hji : (j : Int) < (l.length : Int) := by omega
      have HM2 : Hid (M + (y.old.size + y.new.size) = s.size + z.size + wt l (j + 1)) := by show _ = _; rw [wt_succ hy, HM.out, Nat.add_assoc (s.size + z.size)]
      clear hy x0 t1
      generalize y.old = o' at *
      generalize y.new = n' at *
      go_wp2
      go_quiet (fail)
      go_wp2
      go_roundw
      case rel => exact ⟨j + 1, M + (o'.size + n'.size), by go_num, by go_num, by omega, by omega, HM2, hV.trans ((below_gb (gb_drewN _ _ none)).mono z1)⟩
      case measure => simp [intOf] <;> omega
    · obtain rfl : j = l.length := by omega
      have g1 : decide ((l.length : Int) < (l.length : Int)) = false := decide_eq_false (by omega)
      by_cases h3 : 3000 < M
      · have g3 : decide ((3000 : Int) < (M : Int)) = true := decide_eq_true (by omega)
        go_wp2_with (go_at_call 9; (with_reducible refine (LV.out _).mono ?_); rintro e w9 ⟨rfl, hb9⟩)
        go_ret
        exact ⟨rfl, hW.trans (hb9.mono hW.size)⟩
      · have g3 : decide ((3000 : Int) < (M : Int)) = false := decide_eq_false (by omega)
        have F0 : s.size + z.size + wt l l.length ≤ 3000 := by have := HM.out; omega
        have T1' := Lib.hid (fun u => T1.out u (by omega) (by omega))
        have DO' := Lib.hid (fun (u : World) (A : Option Addr) (c : Nat) => DO.out u A c (by omega))
        have FH := Lib.hid F0
        clear T1 DO F0 HM CE HS x0 h3
        by_cases hen : en = 0
        · by_cases hf : f = 0
          · subst hen hf
            obtain ⟨L, m, rfl, hml, hl1, hl2, AD0, TU0, RU0⟩ := FIN.out ts S FH.out HT.out HD.out
            have AD := Lib.hid AD0
            have TU := Lib.hid TU0
            have RU := Lib.hid RU0
            have HL1 := Lib.hid hl1
            have HL2 := Lib.hid hl2
            have T1'' : Hid (∀ u, Below w.heap.size w u → Calls Try.prog 31 #[.agg #[.slice A l.length c, .int .i64 (m : Int)], .string s] u (TextsAt l.length ts 0 u)) := fun u hu => (T1'.out u hu).mono fun e w' h => textsAt_of hl1 h
            clear AD0 TU0 RU0 hl1 hl2 T1' FIN FH HT HD
            go_wp2_with (first
              | (go_at_call 31; (with_reducible refine (T1''.out _ hW).mono ?_); rintro e w3 ⟨A3, c3, rfl, hx3, hb3⟩; replace hV := hV.trans (hb3.mono z1); obtain ⟨z3, x3, hW3⟩ := HB.out _ hV)
              | (go_at_call 34; (with_reducible refine (DF.out _).mono ?_); rintro e w4 ⟨rfl, hb4⟩; replace hx3 := hx3.below hb4; replace hV := hV.trans (hb4.mono z3); have hV4 := hV.alloc (HB.out _ hV).1 (.cells #[.int .i64 (d : Nat), .string o, .string nn] 26); have B11 := Blk.new w4 26 #[.int .i64 (d : Nat), .string o, .string nn]; obtain ⟨z4, x4, hW4⟩ := HB.out _ hV4; replace hx3 := hx3.below (al (Below.refl _ w4) (.cells #[.int .i64 (d : Nat), .string o, .string nn] 26)))
              | (go_at_call 35; (with_reducible refine (DO'.out _ _ _ (C1.out _)).mono ?_); rintro e w5 ⟨rfl, hb5⟩; have hb5' := (al (Below.refl _ (w4.alloc (.cells #[.int .i64 (d : Nat), .string o, .string nn] 26))) (.cells #[.int .i64 (d : Nat), .string o, .string nn] 26)).trans (hb5.mono (al (Below.refl _ (w4.alloc (.cells #[.int .i64 (d : Nat), .string o, .string nn] 26))) (.cells #[.int .i64 (d : Nat), .string o, .string nn] 26)).size); have hV5 := hV4.trans (hb5'.mono z4); replace B11 := B11.below hb5' B11.lt; obtain ⟨z5, x5, hW5⟩ := HB.out _ hV5; replace hx3 := hx3.below hb5'; have t2 := x5.cell 0; have t3 := x5.cell 1; have q0 := B11.cell 0; have q1 := B11.cell 1; have q2 := B11.cell 2)
              | (go_at_call 10; (with_reducible refine (AD.out _ hW5).mono ?_); rintro e w6 ⟨A6, c6, rfl, nu, hc6, hb6⟩; have hb6' := al hb6 (.cells #[.slice A6 (l.length + 1) c6, .int .i64 (l.length : Nat)] 24); have hV6 := hV5.trans (hb6'.mono z5); obtain ⟨z6, x6, hW6⟩ := HB.out _ hV6; replace hx3 := hx3.below hb6'; replace nu := nu.below (al (Below.refl _ w6) (.cells #[.slice A6 (l.length + 1) c6, .int .i64 (l.length : Nat)] 24)); have Bu := Blk.new w6 24 #[.slice A6 (l.length + 1) c6, .int .i64 (l.length : Nat)])
              | (go_at_call 31; (with_reducible refine (TU.out _ _ _ nu hc6).mono ?_); rintro e w7 ⟨A7, c7, rfl, hx7, hb7⟩; have hV7 := hV6.trans (hb7.mono z6); obtain ⟨z7, x7, hW7⟩ := HB.out _ hV7; replace hx3 := hx3.below hb7; replace nu := nu.below hb7; replace Bu := Bu.below hb7 Bu.lt; have u0 := Bu.cell 0; have u1 := Bu.cell 1)
              | (go_at_call 12; (with_reducible refine (RU.out _ _ _ nu hc6).mono ?_); rintro e w8 ⟨rfl, hb8⟩; have hV8 := hV7.trans (hb8.mono z7); obtain ⟨z8, x8, hW8⟩ := HB.out _ hV8; replace hx3 := hx3.below hb8; replace hx7 := hx7.below hb8; replace Bu := Bu.below hb8 Bu.lt; have u2 := Bu.cell 0; have u3 := Bu.cell 1; obtain ⟨ad7, rfl, hlt7, hc7⟩ := hx7 (by simp); have s7 := hc7 l.length (bs S) (by rw [List.map_append, List.getElem?_append_right (by rw [List.length_map, HL1.out]; exact Nat.le_refl _), List.length_map, HL1.out, Nat.sub_self]; rfl); have li : (l.length : Int) < (l.length : Int) + 1 := by omega))
            obtain ⟨ad3, rfl, hlt3, hc3⟩ := hx3 (by rw [List.length_map, HL1.out]; omega)
            have K3 : Hid (∀ u, Below w8.heap.size w8 u → ∀ (k : Nat) (v : List UInt8), ts[k]? = some v → u.cell? (ad3.add k) = some (.string (bs v)) ∧ u.cell? (ad7.add k) = some (.string (bs v))) := fun u hu k v hk => by
              have hkl := (List.getElem?_eq_some_iff.1 hk).1
              have e1 := hc3 k (bs v) (by rw [List.getElem?_map, hk]; rfl)
              have e2 := hc7 k (bs v) (by rw [List.map_append, List.getElem?_append_left (by rw [List.length_map]; exact hkl), List.getElem?_map, hk]; rfl)
              exact ⟨(hu.cell (p := ad3.add k) (by rw [block_of_add]; exact hlt3)).trans e1, (hu.cell (p := ad7.add k) (by rw [block_of_add]; exact hlt7)).trans e2⟩
            have K8 : Hid (∀ u, Below w8.heap.size w8 u → u.cell? ⟨w.heap.size, 1, none⟩ = some (.int .i64 (m : Int)) ∧ Below w.heap.size w u) := fun u hu => by
              obtain ⟨_, y0, y1⟩ := HB.out _ (hV8.trans (hu.mono z8))
              exact ⟨y0.cell 1, y1⟩
            clear hc3 hc7 s7 u0 u1 u2 u3 t0 t1 t2 t3 q0 q1 q2 x3 x4 x5 x6 x7 x8 hV hV4 hV5 hV6 hV7 hV8 hW hW3 hW4 hW5 hW6 hW7 hW8 Bu B11 nu hb3 hb4 hb5 hb6 hb7 hb8 hb5' hb6' AD TU RU DO' C1 T1'' DF z1 z3 z4 z5 z6 z7 z8 hj hM g3
            go_loopw [18] (fun iv wr => ∃ k : Nat, iv = .int .i64 k ∧ k ≤ l.length ∧ Below w8.heap.size w8 wr) (fun iv _ => l.length - (intOf iv).toNat)
            case atStart => exact ⟨0, rfl, Nat.zero_le _, Below.refl _ _⟩
            case round =>
              obtain ⟨k, rfl, hkl, hV⟩ := hrel
              by_cases hlt2 : k < l.length
              · obtain ⟨v, hv⟩ : ∃ v, ts[k]? = some v := ⟨_, List.getElem?_eq_getElem (by rw [HL1.out]; exact hlt2)⟩
                obtain ⟨e1, e2⟩ := K3.out _ hV k v hv
                have g4 : decide ((k : Int) < (l.length : Int)) = true := decide_eq_true (by omega)
                have k1 : (k : Int) < (l.length : Int) := by omega
                have k2 : (k : Int) < (l.length : Int) + 1 := by omega
                clear hv
                generalize bs v = vb at *
                go_wp2
                go_quiet (fail)
                go_wp2
                go_roundw
                case rel => exact ⟨k + 1, by go_num, by omega, hV.trans ((below_gb (gb_drewN _ _ none)).mono hV.size)⟩
                case measure => simp [intOf] <;> omega
              · have g4 : decide ((k : Int) < (l.length : Int)) = false := decide_eq_false (by omega)
                obtain ⟨y1, yW⟩ := K8.out _ hV
                have e1 := (K3.out _ hV m x HL2.out).1
                rw [HX0.out] at e1
                have m1 : (m : Int) < (l.length : Int) := by omega
                go_wp2_with (go_at_call 9; (with_reducible refine (LV.out _).mono ?_); rintro e w9 ⟨rfl, hb9⟩)
                go_ret
                exact ⟨rfl, yW.trans (hb9.mono yW.size)⟩
          · have hf0 : (f == 0) = false := by rw [beq_eq_false_iff_ne]; exact hf
            subst hen
            go_wp2_with (first
              | (go_at_call 31; (with_reducible refine (T1'.out _ hW).mono ?_); rintro e w3 ⟨A3, c3, rfl, hx3, hb3⟩; replace hV := hV.trans (hb3.mono z1); obtain ⟨z3, x3, hW3⟩ := HB.out _ hV)
              | (go_at_call 34; (with_reducible refine (DF.out _).mono ?_); rintro e w4 ⟨rfl, hb4⟩; replace hV := hV.trans (hb4.mono z3); have hV4 := hV.alloc (HB.out _ hV).1 (.cells #[.int .i64 (d : Nat), .string o, .string nn] 26); have B11 := Blk.new w4 26 #[.int .i64 (d : Nat), .string o, .string nn]; obtain ⟨z4, x4, hW4⟩ := HB.out _ hV4)
              | (go_at_call 35; (with_reducible refine (DO'.out _ _ _ (C1.out _)).mono ?_); rintro e w5 ⟨rfl, hb5⟩; have hb5' := (al (Below.refl _ (w4.alloc (.cells #[.int .i64 (d : Nat), .string o, .string nn] 26))) (.cells #[.int .i64 (d : Nat), .string o, .string nn] 26)).trans (hb5.mono (al (Below.refl _ (w4.alloc (.cells #[.int .i64 (d : Nat), .string o, .string nn] 26))) (.cells #[.int .i64 (d : Nat), .string o, .string nn] 26)).size); have hV5 := hV4.trans (hb5'.mono z4); replace B11 := B11.below hb5' B11.lt; obtain ⟨z5, x5, hW5⟩ := HB.out _ hV5)
              | (go_at_call 9; (with_reducible refine (LV.out _).mono ?_); rintro e w9 ⟨rfl, hb9⟩))
            go_ret
            exact ⟨rfl, hW5.trans (hb9.mono hW5.size)⟩
        · have he0 : (en == 0) = false := by rw [beq_eq_false_iff_ne]; exact hen
          go_wp2_with (first
            | (go_at_call 31; (with_reducible refine (T1'.out _ hW).mono ?_); rintro e w3 ⟨A3, c3, rfl, hx3, hb3⟩; replace hV := hV.trans (hb3.mono z1); obtain ⟨z3, x3, hW3⟩ := HB.out _ hV)
            | (go_at_call 34; (with_reducible refine (DF.out _).mono ?_); rintro e w4 ⟨rfl, hb4⟩; replace hV := hV.trans (hb4.mono z3); have hV4 := hV.alloc (HB.out _ hV).1 (.cells #[.int .i64 (d : Nat), .string o, .string nn] 26); have B11 := Blk.new w4 26 #[.int .i64 (d : Nat), .string o, .string nn]; obtain ⟨z4, x4, hW4⟩ := HB.out _ hV4)
            | (go_at_call 35; (with_reducible refine (DO'.out _ _ _ (C1.out _)).mono ?_); rintro e w5 ⟨rfl, hb5⟩; have hb5' := (al (Below.refl _ (w4.alloc (.cells #[.int .i64 (d : Nat), .string o, .string nn] 26))) (.cells #[.int .i64 (d : Nat), .string o, .string nn] 26)).trans (hb5.mono (al (Below.refl _ (w4.alloc (.cells #[.int .i64 (d : Nat), .string o, .string nn] 26))) (.cells #[.int .i64 (d : Nat), .string o, .string nn] 26)).size); have hV5 := hV4.trans (hb5'.mono z4); replace B11 := B11.below hb5' B11.lt; obtain ⟨z5, x5, hW5⟩ := HB.out _ hV5)
            | (go_at_call 9; (with_reducible refine (LV.out _).mono ?_); rintro e w9 ⟨rfl, hb9⟩))
          go_ret
          exact ⟨rfl, hW5.trans (hb9.mono hW5.size)⟩
section
open Go.ChangeShapes Go.WideShapes Go.ChangeAt
open Go.ChangeMaps (open_string)
set_option maxRecDepth 100000 in
theorem treeKeeps_lifted (os : Os) (started : os.Started) (H : Type) (enc : TypeId × Value → H) :
    ReturnsInHanded {} Try.checked os 8 .any (Rows.treeKeepsSpec.pre6 enc Try.prog Try.f8 Rows.treeKeepsRow.domain false) (Rows.treeKeepsSpec.post enc Try.prog Try.f8 false true false false) := by
  refine returnsInHanded_of_change_sized (C := Try.checked) own_knob started (by kernel_rfl) Try.func8
    (ChangeSpec.witness6 (enc := enc) (C := Try.checked) false ⟨#[], #[.agg #[.slice none 0 0, .int .i64 0], .string .empty, .string .empty], []⟩ 8 (by kernel_rfl) (by kernel_rfl) (by kernel_rfl) (by kernel_rfl)) ?_
  intro W base args ds gs before hval0 hW _ hsz0 _
  have hsz : (DataW.weightsEach Try.prog (Try.f8.params.toList ++ Rows.treeKeepsSpec.plain.varTypes Try.prog) (ds ++ gs)).all (· ≤ reachBytes) = true := hsz0
  clear hsz0
  have hval : ∀ (j : Nat) t v, Try.f8.params[j]? = some t → args[j]? = some v → Value.okWide Try.prog W .any base t v := hval0
  have hW' := hW
  obtain ⟨p, q, hA0, hV, rfl, hfz, hnd⟩ := hW
  have hA : DataW.TrodAll enc Try.prog W 0 (fun _ => true) true Try.f8.params.toList args.toList ds p := hA0
  rw [Try.params8] at hA hval hsz
  obtain ⟨v0, vs0, d0, ds0, p0, q0, hargs, rfl, rfl, h0, r0⟩ := trodAll_cons hA
  obtain ⟨v1, vs1, d1, ds1, p1, q1, rfl, rfl, rfl, h1, r1⟩ := trodAll_cons r0
  obtain ⟨v2, vs2, d2, ds2, p2, q2, rfl, rfl, rfl, h2, r2⟩ := trodAll_cons r1
  obtain ⟨rfl, rfl, rfl⟩ := trodAll_nil r2
  obtain rfl : args = #[v0, v1, v2] := by cases args; simp_all
  obtain ⟨rfl, rfl⟩ := trodVars_none hV
  have hlt0 : ∀ x ∈ p0, x.block < W.heap.size := fun x hx => by simpa using hW'.lt x (by simp [hx])
  obtain ⟨A0, c0, xs0, cur0, rfl, hx0, hc0, hm0, wc0, hd0⟩ := open_tree (hval 0 24 v0 rfl rfl) h0 hlt0
  have he0 : ∀ k ∈ xs0, k.old.size ≤ 140737488351232 ∧ k.new.size ≤ 140737488351232 := fun k hk => by
    obtain ⟨e, sp, z, y0, y1, y2, y3, y4, rfl, hin⟩ := hd0 k hk
    rw [← data_len, ← data_len]
    exact sized_tree hsz (j := 0) rfl rfl hin
  obtain ⟨s1, rfl, rfl, rfl, hmax1⟩ := open_string Try.underlying9 (hval 1 9 v1 rfl rfl) h1
  have hs1 : s1.size ≤ 140737488351232 := by rw [← data_len]; exact sized_string hsz (j := 1) (t := 9) rfl rfl
  obtain ⟨s2, rfl, rfl, rfl, hmax2⟩ := open_string Try.underlying9 (hval 2 9 v2 rfl rfl) h2
  have hs2 : s2.size ≤ 140737488351232 := by rw [← data_len]; exact sized_string hsz (j := 2) (t := 9) rfl rfl
  refine (treeKeeps_walk s1 s2 hx0 hc0 hm0 he0 hs1 hs2).mono fun e W' ⟨he, hb⟩ => ?_
  subst he
  exact ⟨_, rfl, law_post rfl rfl (by rw [Try.params8]; decide +kernel) ⟨rfl, rfl, rfl⟩ hW' hb⟩
theorem treeKeeps_holds : Rows.TreeKeepsSaid :=
  OpenClaim.holds_of_wide 8 Try.f8 rfl rfl rfl rfl rfl rfl rfl ⟨rfl, rfl, rfl, rfl, rfl⟩ rfl rfl rfl rfl rfl (by kernel_rfl) Try.func8 (by kernel_rfl)
    (of_decide_eq_true (by kernel_rfl)) (by unfold Func.isWrapper; first | (rw [if_pos (by decide +kernel)]; kernel_rfl) | (rw [if_neg (by decide +kernel)]; exact ⟨rfl, rfl⟩))
    (fun os started H enc _ => treeKeeps_lifted os started H enc)
end
end Go.Proofs.Ytffihchkmcddeaa
