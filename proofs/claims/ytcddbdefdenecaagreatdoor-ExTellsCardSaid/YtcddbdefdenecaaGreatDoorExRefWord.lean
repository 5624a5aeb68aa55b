/-
  The document's Parse of package ex, from the word on.
-/
import Derived.Test.YtcddbdefdenecaaGreatDoorExRefFront
import Derived.Deep.CutRange
namespace Go.Proofs.YtcddbdefdenecaaGreatDoor
open Go.RowKit Go.Shelf
open Ex (Ln)
namespace Ex
theorem front_len2 {s t : List UInt8} {a b : Int} (h : front s = some (a, b, t)) : t.length ≤ s.length := by
  rcases front_told h with h | ⟨r, h, _, h2, _⟩
  · rw [h, List.length_append]; omega
  · rw [h, ← h2, List.length_append]; omega
theorem verb_cut (t : List UInt8) : (bs t).extract 0 (verb t).1.length = bs (verb t).1 ∧ (bs t).extract (verb t).1.length (bs t).size = bs (verb t).2 ∧ (verb t).1.length ≤ (bs t).size := by
  have h := take_drop_verb t
  refine ⟨?_, ?_, ?_⟩
  · rw [Lib.extract_eq, List.drop_zero, Nat.sub_zero, bs_toList]
    have e := List.take_left (l₁ := (verb t).1) (l₂ := (verb t).2)
    rw [h] at e
    rw [e]; rfl
  · rw [ext_drop, bs_toList]
    have e := List.drop_left (l₁ := (verb t).1) (l₂ := (verb t).2)
    rw [h] at e
    rw [e]
  · rw [bs_size]
    have := congrArg List.length h
    rw [List.length_append] at this; omega
theorem while_step {p : UInt8 → Bool} {s : List UInt8} {j : Nat} {b : UInt8} (h : s[j]? = some b) (hj : j ≤ (s.takeWhile p).length) : p b = decide (j < (s.takeWhile p).length) := by
  induction s generalizing j with
  | nil => cases h
  | cons c t ih =>
    rw [List.takeWhile_cons] at hj ⊢
    by_cases hc : p c = true
    · rw [if_pos hc] at hj ⊢
      cases j with
      | zero => injection h with h; subst h; rw [hc]; simp
      | succ j =>
        rw [List.length_cons] at hj ⊢
        rw [ih (by simpa using h) (by omega), decide_eq_decide]; omega
    · rw [if_neg hc] at hj ⊢
      have : j = 0 := by simpa using hj
      subst this
      injection h with h; subst h
      simpa using hc
/-- How long a word is: its small letters, or one sign. -/
theorem verb_small (t : List UInt8) : ((t.takeWhile small).length ≠ 0 ∧ (verb t).1.length = (t.takeWhile small).length) ∨
    ((t.takeWhile small).length = 0 ∧ (t.head? = some 62 ∨ t.head? = some 60) ∧ (verb t).1.length = 1) ∨
    ((t.takeWhile small).length = 0 ∧ t.head? ≠ some 62 ∧ t.head? ≠ some 60 ∧ (verb t).1.length = 0) := by
  unfold verb
  by_cases h0 : t.takeWhile small = []
  · by_cases h1 : t.head? = some 62 ∨ t.head? = some 60
    · rw [if_pos ⟨h0, h1⟩]
      refine .inr (.inl ⟨by rw [h0]; rfl, h1, ?_⟩)
      cases t with
      | nil => rcases h1 with h | h <;> cases h
      | cons b r => simp
    · rw [if_neg (fun e => h1 e.2)]
      exact .inr (.inr ⟨by rw [h0]; rfl, fun e => h1 (.inl e), fun e => h1 (.inr e), by rw [h0]; rfl⟩)
  · rw [if_neg (fun e => h0 e.1)]
    exact .inl ⟨fun e => h0 (List.eq_nil_of_length_eq_zero e), rfl⟩
end Ex
theorem Ex.word_some {a b : Int} {t : List UInt8} {r : Bool} {k : Nat} (hk : Ex.kind (Ex.verb t).1 = some (r, k)) : Ex.word a b t = if (Ex.verb t).1 = [] ∧ t ≠ [] then (Ex.zero, 16) else if a ≠ 0 ∧ r = false then (Ex.zero, 3) else Ex.rest ⟨a, b, (Ex.verb t).1, [], [], [], false⟩ k (Ex.verb t).2 := by
  conv => lhs; unfold Ex.word
  rw [hk]
set_option maxHeartbeats 8000000 in
set_option maxRecDepth 100000 in
theorem ref27_Parse_noword (s : ByteArray) (hs : s.size ≤ 1000000000) (hv : Utf.valid s.data.toList = true) (hf : ¬ 10 ∈ s.data.toList) {a b : Int} {t : List UInt8} (h : Ex.front s.data.toList = some (a, b, t)) (hk : Ex.kind (Ex.verb t).1 = none) (w : World) :
    Calls Tryz.prog 7 #[.string s] w fun e w' => e = .returned (Ex.ansV (Ex.word a b t)) ∧ Below w.heap.size w w' := by
  have V := Lib.hid (fun w => ref_Valid s (by omega) w)
  rw [hv] at V
  have FD := Lib.hid (fun w => ref27_feed s hs w)
  rw [decide_eq_false hf] at FD
  clear hv hf
  have B0 := Blk.new w 28 #[.int .i64 0, .int .i64 0, .string ⟨#[]⟩, .string ⟨#[]⟩, .string ⟨#[]⟩, .string ⟨#[]⟩, .bool false]
  have W0 := (Below.refl w.heap.size w).alloc (Nat.le_refl _) (.cells #[.int .i64 0, .int .i64 0, .string ⟨#[]⟩, .string ⟨#[]⟩, .string ⟨#[]⟩, .string ⟨#[]⟩, .bool false] 28)
  have FW := Lib.hid (Ex.front_ways h)
  have V2 := Ex.take_drop_verb t
  have hts : t.length ≤ s.size := by have := Ex.front_len2 h; rwa [data_len] at this
  have XK : Hid ((bs t).extract 0 (Ex.verb t).1.length = bs (Ex.verb t).1 ∧ (bs t).extract (Ex.verb t).1.length (bs t).size = bs (Ex.verb t).2 ∧ (Ex.verb t).1.length ≤ (bs t).size) := Lib.hid (Ex.verb_cut t)
  have MW := Lib.hid (Ex.verb_small t)
  have NM := Lib.hid (fun w => ref27_names (bs (Ex.verb t).1) w)
  rw [bs_toList] at NM
  rw [hk] at NM
  unfold Ex.kindV at NM
  simp only at NM
  have SM := Lib.hid (fun (b : UInt8) w => ref27_small b w)
  clear V2 h
  go_enter Tryz.func7, Tryz.ntmps7
  go_upto_region 4 with (first
    | (go_at_call 19; refine (V.out _).mono ?_; rintro e u ⟨rfl, hb1⟩; have B1 := B0.below hb1 (by rw [World.size_alloc]; omega); have W1 := W0.trans (hb1.mono W0.size); clear hb1 B0 W0)
    | (go_at_call 20; refine (FD.out _).mono ?_; rintro e v ⟨rfl, rfl⟩))
  obtain ⟨pc, HPC⟩ : ∃ pc : Bool, Hid (pc = decide (s.data.toList.head? = some 37)) := ⟨_, rfl⟩
  go_cut [30] from 24 to 30 (fun v wx => v = .bool pc ∧ wx = u.alloc (.cells #[.int .i64 0, .int .i64 0, .string ⟨#[]⟩, .string ⟨#[]⟩, .string ⟨#[]⟩, .string ⟨#[]⟩, .bool false] 28))
  case first =>
    clear MW XK NM SM FW
    by_cases hz : s.data.toList = []
    · have e0 : s.toList.isEmpty = true := by rw [Lib.toList_data, hz]; rfl
      have hq : pc = false := by rw [HPC.out, hz]; rfl
      clear hz HPC
      go_wp2
      go_meet
      exact ⟨by rw [hq], rfl⟩
    · have h1 : 0 < s.size := by rw [← data_len]; exact List.length_pos_iff.2 hz
      have e0 : s.toList.isEmpty = false := by rw [Lib.toList_data]; simpa using hz
      have hq : ((s[0].toNat : Int) == 37) = pc := by
        rw [HPC.out, Ex.head_byte h1, Bool.eq_iff_iff, beq_iff_eq, decide_eq_true_eq]
        have k1 : (37 : UInt8).toNat = 37 := rfl
        exact ⟨fun e => by rw [show s[0] = 37 from UInt8.toNat_inj.1 (by omega)], fun e => by injection e with e; rw [e]; rfl⟩
      clear hz HPC
      go_wp2
      go_meet
      exact ⟨rfl, rfl⟩
  case rest =>
  obtain ⟨rfl, hw⟩ := hcut
  subst hw
  go_upto_if 30 with fail
  go_cut [0, 5, 6, 7, 8, 9, 10] from 30 to 79 (fun s0 _ _ _ _ _ _ wx => s0 = .string (bs t) ∧ wx = u.alloc (.cells #[.int .i64 a, .int .i64 b, .string ⟨#[]⟩, .string ⟨#[]⟩, .string ⟨#[]⟩, .string ⟨#[]⟩, .bool false] 28))
  case first =>
    clear MW XK NM SM
    rcases FW.out with ⟨hp, rfl, rfl, ht⟩ | ⟨hp, ha, ea, rfl, ht, hno⟩ | ⟨hp, ha, ea, hn, h44, hb, eb, hm, ht⟩
    · have hl := data_len s
      have h1 : 0 < s.size := by rw [← hl]; exact List.length_pos_iff.2 (fun e => by rw [e] at hp; cases hp)
      obtain rfl : pc = true := by rw [HPC.out, hp]; rfl
      have X1 := Ex.ext_drop s 1
      rw [List.drop_one, ← ht] at X1
      have h2 : 1 ≤ s.size := h1
      clear hp hl ht hts FW HPC
      go_wp2
      go_meet
      exact ⟨rfl, rfl⟩
    · have hl := data_len s
      have hk1 := (Ex.addr_rest s.data.toList).2
      rw [hl] at hk1
      have A1 := Lib.hid (fun w => ref27_addr (s := s) hs ea.symm rfl ha w)
      have X1 := Ex.ext_drop s (Ex.addrK s.data.toList)
      rw [← ht] at X1
      have hk2 : (Ex.addrK s.data.toList : Int) ≤ (s.size : Int) := by omega
      have tail : Hid ((a = 0) ∨ (a ≠ 0 ∧ (bs t).toList.isEmpty = true) ∨ (a ≠ 0 ∧ (bs t).toList.isEmpty = false ∧ ∃ h0 : 0 < (bs t).size, (((bs t)[0].toNat : Int) == 44) = false)) := Lib.hid (by
        by_cases ha0 : a = 0
        · exact .inl ha0
        · refine .inr ?_
          by_cases ht0 : t = []
          · exact .inl ⟨ha0, by rw [ht0, bs_tl]; rfl⟩
          · have h0 : 0 < (bs t).size := by rw [bs_size]; exact List.length_pos_iff.2 ht0
            refine .inr ⟨ha0, by rw [bs_tl]; simpa using ht0, h0, ?_⟩
            have := Ex.head_byte h0
            rw [bs_toList] at this
            rw [beq_eq_false_iff_ne]
            exact fun e => hno ⟨ha0, by rw [this, show (bs t)[0] = 44 from UInt8.toNat_inj.1 (by have k1 : (44 : UInt8).toNat = 44 := rfl; omega)]⟩)
      obtain rfl : pc = false := by rw [HPC.out]; exact decide_eq_false hp
      generalize Ex.addrK s.data.toList = k1 at *
      generalize bs t = q at *
      clear hp ha ea ht hno hl hts FW hk1 HPC
      rcases tail.out with h0 | ⟨h0, e1⟩ | ⟨h0, e1, h2, e2⟩
      all_goals first
        | have gn : (a != 0) = false := by rw [h0]; rfl
        | have gn : (a != 0) = true := by rw [bne_iff_ne]; exact h0
      all_goals clear h0 tail
      all_goals go_wp2_with (first | (go_at_call 21; (with_reducible refine (A1.out _).mono ?_); rintro e v ⟨rfl, rfl⟩))
      all_goals go_meet
      all_goals exact ⟨rfl, rfl⟩
    · have hl := data_len s
      obtain rfl : pc = false := by rw [HPC.out]; exact decide_eq_false hp
      have hk1 := (Ex.addr_rest s.data.toList).2
      rw [hl] at hk1
      have A1 := Lib.hid (fun w => ref27_addr (s := s) hs ea.symm rfl ha w)
      have X1 := Ex.ext_drop s (Ex.addrK s.data.toList)
      have gn : (a != 0) = true := by rw [bne_iff_ne]; exact hn
      have hlt2 : (bs (s.data.toList.drop (Ex.addrK s.data.toList))).size ≤ 1000000000 := by rw [bs_size, List.length_drop]; omega
      rw [show s.data.toList.drop (Ex.addrK s.data.toList) = (bs (s.data.toList.drop (Ex.addrK s.data.toList))).data.toList from rfl] at h44 hb eb ht
      generalize Ex.addrK s.data.toList = k1 at *
      have hk2 : (k1 : Int) ≤ (s.size : Int) := by omega
      clear hts FW HPC
      generalize bs (s.data.toList.drop k1) = q at *
      have h2 : 0 < q.size := by rw [← data_len]; exact List.length_pos_iff.2 (fun e => by rw [e] at h44; cases h44)
      have e1 : q.toList.isEmpty = false := by rw [Lib.toList_data]; cases hl : q.data.toList with | nil => rw [← data_len, hl] at h2; simp at h2 | cons b t => rfl
      have e2 : ((q[0].toNat : Int) == 44) = true := by
        have := Ex.head_byte h2
        rw [this] at h44; injection h44 with h44; rw [h44]; rfl
      have X2 := Ex.ext_drop q 1
      rw [List.drop_one] at X2
      have h3 : 1 ≤ q.size := h2
      have A2 := Lib.hid (fun w => ref27_addr (s := bs q.data.toList.tail) (by rw [bs_size, List.length_tail, data_len]; omega) eb.symm rfl hb w)
      rw [bs_toList] at A2
      have hj := (Ex.addr_rest q.data.toList.tail).2
      rw [List.length_tail, data_len] at hj
      have X3 := Ex.ext_drop q (1 + Ex.addrK q.data.toList.tail)
      rw [show q.data.toList.drop (1 + Ex.addrK q.data.toList.tail) = q.data.toList.tail.drop (Ex.addrK q.data.toList.tail) by rw [← List.drop_one, List.drop_drop], ← ht] at X3
      have gm : (b == 0) = false := by rw [beq_eq_false_iff_ne]; exact hm
      generalize Ex.addrK q.data.toList.tail = j at *
      generalize bs t = z at *
      generalize bs q.data.toList.tail = p at *
      have w1 : IntKind.i64.wrap (1 + (j : Int)) = ((1 + j : Nat) : Int) := by rw [IntKind.wrap_i64]; omega
      have q1 : ((1 + j : Nat) : Int) ≤ (q.size : Int) := by omega
      have q2 : 1 + j ≤ q.size := by omega
      clear hl hp ha ea eb ht hn h44 hb hk1 hm hj
      go_wp2_with (first | (go_at_call 21; (with_reducible refine (A1.out _).mono ?_); rintro e v ⟨rfl, rfl⟩) | (go_at_call 21; (with_reducible refine (A2.out _).mono ?_); rintro e v ⟨rfl, rfl⟩))
      go_meet
      exact ⟨by rw [X3], rfl⟩
  case rest =>
  obtain ⟨rfl, hw⟩ := hcut
  subst hw
  clear FW HPC
  obtain ⟨ml, hml⟩ : ∃ ml, (t.takeWhile Ex.small).length = ml := ⟨_, rfl⟩
  rw [hml] at MW
  have HML := Lib.hid hml
  have hmt : ml ≤ (bs t).size := by rw [← hml, bs_size]; exact (Ex.while_drop Ex.small t).2.1
  have hm9 : ml ≤ 1000000000 := by rw [bs_size] at hmt; omega
  clear hml
  go_wp2_with fail
  go_loopw [11] (fun iv wr => ∃ j : Nat, iv = .int .i64 j ∧ j ≤ ml ∧ wr = u.alloc (.cells #[.int .i64 a, .int .i64 b, .string ⟨#[]⟩, .string ⟨#[]⟩, .string ⟨#[]⟩, .string ⟨#[]⟩, .bool false] 28)) (fun iv _ => ml - (intOf iv).toNat)
  case atStart => exact ⟨0, rfl, Nat.zero_le _, rfl⟩
  case round =>
  obtain ⟨j, rfl, hj, rfl⟩ := hrel
  go_upto_region 19 with fail
  go_cut [89] from 80 to 91 (fun v wx => v = .bool (decide (j < ml)) ∧ wx = u.alloc (.cells #[.int .i64 a, .int .i64 b, .string ⟨#[]⟩, .string ⟨#[]⟩, .string ⟨#[]⟩, .string ⟨#[]⟩, .bool false] 28))
  case first =>
    clear MW XK NM
    have hl := bs_size t
    by_cases hlt : j < (bs t).size
    · have g9 : decide ((j : Int) < ((bs t).size : Int)) = true := by rw [decide_eq_true_iff]; omega
      have hb := byte_get (bs t) hlt
      rw [bs_toList] at hb
      have D1 := Lib.hid (fun w => SM.out (bs t)[j] w)
      have HQ : Hid (Ex.small (bs t)[j] = decide (j < ml)) := Lib.hid (by
        rw [← HML.out]
        exact Ex.while_step hb (by rw [HML.out]; exact hj))
      rw [HQ.out] at D1
      clear hb SM hl HML
      generalize bs t = tb at *
      go_wp2_with (first | (go_at_call 22; (with_reducible refine (D1.out _).mono ?_); rintro e v ⟨rfl, rfl⟩))
      go_meet
      exact ⟨rfl, rfl⟩
    · have g9 : decide ((j : Int) < ((bs t).size : Int)) = false := by rw [decide_eq_false_iff_not]; omega
      have g8 : decide (j < ml) = false := by rw [decide_eq_false_iff_not]; omega
      clear SM hl HML
      generalize bs t = tb at *
      go_wp2
      go_meet
      exact ⟨by rw [g8], rfl⟩
  case rest =>
  obtain ⟨rfl, hw⟩ := hcut
  subst hw
  by_cases hlt : j < ml
  · have g9 : decide (j < ml) = true := decide_eq_true hlt
    clear MW XK NM SM HML
    go_wp2
    go_roundw
    case rel =>
      exact ⟨j + 1, by go_num, by omega, by trivial⟩
    case measure => simp [intOf]; omega
  have g9 : decide (j < ml) = false := decide_eq_false hlt
  obtain rfl : j = ml := by omega
  clear SM HML
  obtain ⟨qb, HQB⟩ : ∃ qb : Bool, Hid (qb = decide (j = 0 ∧ (t.head? = some 62 ∨ t.head? = some 60))) := ⟨_, rfl⟩
  go_upto_region 21 with fail
  go_cut [89, 107] from 92 to 107 (fun _ v wx => v = .bool qb ∧ wx = u.alloc (.cells #[.int .i64 a, .int .i64 b, .string ⟨#[]⟩, .string ⟨#[]⟩, .string ⟨#[]⟩, .string ⟨#[]⟩, .bool false] 28))
  case first =>
    clear XK NM
    by_cases hj0 : j = 0
    · by_cases hz : t = []
      · have e0 : (bs t).toList.isEmpty = true := by rw [hz, bs_tl]; rfl
        have e9 : qb = false := by rw [HQB.out, hz]; simp
        have g5 : ((j : Int) == 0) = true := by rw [hj0]; rfl
        clear HQB MW hj0 hz
        generalize bs t = tb at *
        go_wp2
        go_meet
        exact ⟨by rw [e9], rfl⟩
      · have h0 : 0 < (bs t).size := by rw [bs_size]; exact List.length_pos_iff.2 hz
        have e0 : (bs t).toList.isEmpty = false := by rw [bs_tl]; simpa using hz
        have g5 : ((j : Int) == 0) = true := by rw [hj0]; rfl
        have hh := Ex.head_byte h0
        rw [bs_toList] at hh
        have e9 : qb = (((bs t)[0].toNat : Int) == 62 || ((bs t)[0].toNat : Int) == 60) := by
          rw [HQB.out, hh, Bool.eq_iff_iff, decide_eq_true_iff, Bool.or_eq_true, beq_iff_eq, beq_iff_eq]
          have k1 : (62 : UInt8).toNat = 62 := rfl
          have k2 : (60 : UInt8).toNat = 60 := rfl
          constructor
          · rintro ⟨_, e | e⟩
            · injection e with e; rw [e]; exact .inl rfl
            · injection e with e; rw [e]; exact .inr rfl
          · rintro (e | e)
            · exact ⟨hj0, .inl (by rw [show (bs t)[0] = 62 from UInt8.toNat_inj.1 (by omega)])⟩
            · exact ⟨hj0, .inr (by rw [show (bs t)[0] = 60 from UInt8.toNat_inj.1 (by omega)])⟩
        have E9 := Lib.hid e9
        clear HQB MW hj0 hz hh e9
        generalize bs t = tb at *
        cases g6 : ((tb[0].toNat : Int) == 62)
        · go_wp2
          go_meet
          exact ⟨by rw [E9.out, g6]; rfl, rfl⟩
        · go_wp2
          go_meet
          exact ⟨by rw [E9.out, g6]; rfl, rfl⟩
    · have g5 : ((j : Int) == 0) = false := by rw [beq_eq_false_iff_ne]; omega
      have e9 : qb = false := by rw [HQB.out]; simp [hj0]
      clear HQB MW hj0
      generalize bs t = tb at *
      go_wp2
      go_meet
      exact ⟨by rw [e9], rfl⟩
  case rest =>
  obtain ⟨rfl, hw⟩ := hcut
  subst hw
  go_upto_if 107 with fail
  go_cut [11] from 107 to 107 (fun v wx => v = .int .i64 ((Ex.verb t).1.length : Nat) ∧ wx = u.alloc (.cells #[.int .i64 a, .int .i64 b, .string ⟨#[]⟩, .string ⟨#[]⟩, .string ⟨#[]⟩, .string ⟨#[]⟩, .bool false] 28))
  case first =>
    have E9 : Hid (if qb then (Ex.verb t).1.length = 1 else (Ex.verb t).1.length = j) := Lib.hid (by
      rw [HQB.out]
      rcases MW.out with ⟨h1, h2⟩ | ⟨h1, h2, h3⟩ | ⟨h1, h2, h3, h4⟩
      · rw [decide_eq_false (fun e => h1 e.1)]; exact h2
      · rw [decide_eq_true ⟨h1, h2⟩]; exact h3
      · rw [decide_eq_false (fun e => e.2.elim h2 h3)]; exact h4.trans h1.symm)
    clear XK NM MW HQB
    generalize bs t = tb at *
    cases qb
    · go_wp2
      go_meet
      exact ⟨by rw [show (Ex.verb t).1.length = j from E9.out], rfl⟩
    · go_wp2
      go_meet
      exact ⟨by rw [show (Ex.verb t).1.length = 1 from E9.out]; rfl, rfl⟩
  case rest =>
  obtain ⟨rfl, hw⟩ := hcut
  subst hw
  clear MW HQB
  have hnl : (Ex.verb t).1.length = 0 ↔ (Ex.verb t).1 = [] := List.length_eq_zero_iff
  obtain ⟨x1, x2, x3⟩ := XK.out
  clear XK
  generalize (Ex.verb t).1.length = nl at *
  generalize hnm : bs (Ex.verb t).1 = nm at *
  generalize hre : bs (Ex.verb t).2 = re at *
  have x4 : (nl : Int) ≤ ((bs t).size : Int) := by omega
  have hlb := B1.lt
  go_upto_region 26 with (first | (go_at_call 23; (with_reducible refine (NM.out _).mono ?_); rintro e v ⟨rfl, rfl⟩))
  have B2 := B1.alloc (.cells #[.int .i64 a, .int .i64 b, .string nm, .string ⟨#[]⟩, .string ⟨#[]⟩, .string ⟨#[]⟩, .bool false] 28)
  have L2 := Blk.new u 28 #[.int .i64 a, .int .i64 b, .string nm, .string ⟨#[]⟩, .string ⟨#[]⟩, .string ⟨#[]⟩, .bool false]
  have W2 := W1.alloc W1.size (.cells #[.int .i64 a, .int .i64 b, .string nm, .string ⟨#[]⟩, .string ⟨#[]⟩, .string ⟨#[]⟩, .bool false] 28)
  generalize hU : u.alloc (.cells #[.int .i64 a, .int .i64 b, .string nm, .string ⟨#[]⟩, .string ⟨#[]⟩, .string ⟨#[]⟩, .bool false] 28) = U at *
  have LL := Lib.hid L2
  obtain ⟨l0, l1, l2, l3, l4, l5, l6⟩ := Ex.cells7 L2
  clear x1 x2 x3 x4 NM B1 W1 L2 hU

  have HW : Hid (Ex.word a b t = (Ex.zero, 16)) := Lib.hid (by unfold Ex.word; rw [hk])
  obtain ⟨⟨xy0, yy0⟩, ⟨xy1, yy1⟩, ⟨xy2, yy2⟩, ⟨xy3, yy3⟩, ⟨xy4, yy4⟩, ⟨xy5, yy5⟩, ⟨xy6, yy6⟩, BB⟩ := Ex.blk7 B2 (.int .i64 0) (.int .i64 0) (.string ⟨#[]⟩) (.string ⟨#[]⟩) (.string ⟨#[]⟩) (.string ⟨#[]⟩) (.bool false)
  have GGy := Ex.put7_gb (U) (w.heap.size) (.int .i64 0) (.int .i64 0) (.string ⟨#[]⟩) (.string ⟨#[]⟩) (.string ⟨#[]⟩) (.string ⟨#[]⟩) (.bool false)
  unfold Ex.put7 at GGy BB
  generalize hy1 : World.setCell (U) ⟨w.heap.size, 0, none⟩ (.int .i64 0) = y1 at *
  generalize hy2 : World.setCell y1 ⟨w.heap.size, 1, none⟩ (.int .i64 0) = y2 at *
  generalize hy3 : World.setCell y2 ⟨w.heap.size, 2, none⟩ (.string ⟨#[]⟩) = y3 at *
  generalize hy4 : World.setCell y3 ⟨w.heap.size, 3, none⟩ (.string ⟨#[]⟩) = y4 at *
  generalize hy5 : World.setCell y4 ⟨w.heap.size, 4, none⟩ (.string ⟨#[]⟩) = y5 at *
  generalize hy6 : World.setCell y5 ⟨w.heap.size, 5, none⟩ (.string ⟨#[]⟩) = y6 at *
  generalize hy7 : World.setCell y6 ⟨w.heap.size, 6, none⟩ (.bool false) = y7 at *
  replace BB := Lib.hid BB
  go_wp2
  refine ret_seven1 rfl rfl BB.out rfl Tryz.underlying28 (by kernel_rfl) ?_
  exact ⟨by rw [HW.out]; rfl, W2.grown GGy W2.size (fun j e => by injection e with e; omega)⟩
set_option maxHeartbeats 8000000 in
set_option maxRecDepth 100000 in
theorem ref27_Parse_word (s : ByteArray) (hs : s.size ≤ 1000000000) (hv : Utf.valid s.data.toList = true) (hf : ¬ 10 ∈ s.data.toList) {a b : Int} {t : List UInt8} (h : Ex.front s.data.toList = some (a, b, t)) {r : Bool} {k : Nat} (hk : Ex.kind (Ex.verb t).1 = some (r, k)) (h5 : k ≠ 5) (w : World) :
    Calls Tryz.prog 7 #[.string s] w fun e w' => e = .returned (Ex.ansV (Ex.word a b t)) ∧ Below w.heap.size w w' := by
  have V := Lib.hid (fun w => ref_Valid s (by omega) w)
  rw [hv] at V
  have FD := Lib.hid (fun w => ref27_feed s hs w)
  rw [decide_eq_false hf] at FD
  clear hv hf
  have B0 := Blk.new w 28 #[.int .i64 0, .int .i64 0, .string ⟨#[]⟩, .string ⟨#[]⟩, .string ⟨#[]⟩, .string ⟨#[]⟩, .bool false]
  have W0 := (Below.refl w.heap.size w).alloc (Nat.le_refl _) (.cells #[.int .i64 0, .int .i64 0, .string ⟨#[]⟩, .string ⟨#[]⟩, .string ⟨#[]⟩, .string ⟨#[]⟩, .bool false] 28)
  have FW := Lib.hid (Ex.front_ways h)
  have V2 := Ex.take_drop_verb t
  have hts : t.length ≤ s.size := by have := Ex.front_len2 h; rwa [data_len] at this
  have XK : Hid ((bs t).extract 0 (Ex.verb t).1.length = bs (Ex.verb t).1 ∧ (bs t).extract (Ex.verb t).1.length (bs t).size = bs (Ex.verb t).2 ∧ (Ex.verb t).1.length ≤ (bs t).size) := Lib.hid (Ex.verb_cut t)
  have MW := Lib.hid (Ex.verb_small t)
  have NM := Lib.hid (fun w => ref27_names (bs (Ex.verb t).1) w)
  rw [bs_toList] at NM
  rw [hk] at NM
  unfold Ex.kindV at NM
  simp only at NM
  have SM := Lib.hid (fun (b : UInt8) w => ref27_small b w)
  clear V2 h
  go_enter Tryz.func7, Tryz.ntmps7
  go_upto_region 4 with (first
    | (go_at_call 19; refine (V.out _).mono ?_; rintro e u ⟨rfl, hb1⟩; have B1 := B0.below hb1 (by rw [World.size_alloc]; omega); have W1 := W0.trans (hb1.mono W0.size); clear hb1 B0 W0)
    | (go_at_call 20; refine (FD.out _).mono ?_; rintro e v ⟨rfl, rfl⟩))
  obtain ⟨pc, HPC⟩ : ∃ pc : Bool, Hid (pc = decide (s.data.toList.head? = some 37)) := ⟨_, rfl⟩
  go_cut [30] from 24 to 30 (fun v wx => v = .bool pc ∧ wx = u.alloc (.cells #[.int .i64 0, .int .i64 0, .string ⟨#[]⟩, .string ⟨#[]⟩, .string ⟨#[]⟩, .string ⟨#[]⟩, .bool false] 28))
  case first =>
    clear MW XK NM SM FW
    by_cases hz : s.data.toList = []
    · have e0 : s.toList.isEmpty = true := by rw [Lib.toList_data, hz]; rfl
      have hq : pc = false := by rw [HPC.out, hz]; rfl
      clear hz HPC
      go_wp2
      go_meet
      exact ⟨by rw [hq], rfl⟩
    · have h1 : 0 < s.size := by rw [← data_len]; exact List.length_pos_iff.2 hz
      have e0 : s.toList.isEmpty = false := by rw [Lib.toList_data]; simpa using hz
      have hq : ((s[0].toNat : Int) == 37) = pc := by
        rw [HPC.out, Ex.head_byte h1, Bool.eq_iff_iff, beq_iff_eq, decide_eq_true_eq]
        have k1 : (37 : UInt8).toNat = 37 := rfl
        exact ⟨fun e => by rw [show s[0] = 37 from UInt8.toNat_inj.1 (by omega)], fun e => by injection e with e; rw [e]; rfl⟩
      clear hz HPC
      go_wp2
      go_meet
      exact ⟨rfl, rfl⟩
  case rest =>
  obtain ⟨rfl, hw⟩ := hcut
  subst hw
  go_upto_if 30 with fail
  go_cut [0, 5, 6, 7, 8, 9, 10] from 30 to 79 (fun s0 _ _ _ _ _ _ wx => s0 = .string (bs t) ∧ wx = u.alloc (.cells #[.int .i64 a, .int .i64 b, .string ⟨#[]⟩, .string ⟨#[]⟩, .string ⟨#[]⟩, .string ⟨#[]⟩, .bool false] 28))
  case first =>
    clear MW XK NM SM
    rcases FW.out with ⟨hp, rfl, rfl, ht⟩ | ⟨hp, ha, ea, rfl, ht, hno⟩ | ⟨hp, ha, ea, hn, h44, hb, eb, hm, ht⟩
    · have hl := data_len s
      have h1 : 0 < s.size := by rw [← hl]; exact List.length_pos_iff.2 (fun e => by rw [e] at hp; cases hp)
      obtain rfl : pc = true := by rw [HPC.out, hp]; rfl
      have X1 := Ex.ext_drop s 1
      rw [List.drop_one, ← ht] at X1
      have h2 : 1 ≤ s.size := h1
      clear hp hl ht hts FW HPC
      go_wp2
      go_meet
      exact ⟨rfl, rfl⟩
    · have hl := data_len s
      have hk1 := (Ex.addr_rest s.data.toList).2
      rw [hl] at hk1
      have A1 := Lib.hid (fun w => ref27_addr (s := s) hs ea.symm rfl ha w)
      have X1 := Ex.ext_drop s (Ex.addrK s.data.toList)
      rw [← ht] at X1
      have hk2 : (Ex.addrK s.data.toList : Int) ≤ (s.size : Int) := by omega
      have tail : Hid ((a = 0) ∨ (a ≠ 0 ∧ (bs t).toList.isEmpty = true) ∨ (a ≠ 0 ∧ (bs t).toList.isEmpty = false ∧ ∃ h0 : 0 < (bs t).size, (((bs t)[0].toNat : Int) == 44) = false)) := Lib.hid (by
        by_cases ha0 : a = 0
        · exact .inl ha0
        · refine .inr ?_
          by_cases ht0 : t = []
          · exact .inl ⟨ha0, by rw [ht0, bs_tl]; rfl⟩
          · have h0 : 0 < (bs t).size := by rw [bs_size]; exact List.length_pos_iff.2 ht0
            refine .inr ⟨ha0, by rw [bs_tl]; simpa using ht0, h0, ?_⟩
            have := Ex.head_byte h0
            rw [bs_toList] at this
            rw [beq_eq_false_iff_ne]
            exact fun e => hno ⟨ha0, by rw [this, show (bs t)[0] = 44 from UInt8.toNat_inj.1 (by have k1 : (44 : UInt8).toNat = 44 := rfl; omega)]⟩)
      obtain rfl : pc = false := by rw [HPC.out]; exact decide_eq_false hp
      generalize Ex.addrK s.data.toList = k1 at *
      generalize bs t = q at *
      clear hp ha ea ht hno hl hts FW hk1 HPC
      rcases tail.out with h0 | ⟨h0, e1⟩ | ⟨h0, e1, h2, e2⟩
      all_goals first
        | have gn : (a != 0) = false := by rw [h0]; rfl
        | have gn : (a != 0) = true := by rw [bne_iff_ne]; exact h0
      all_goals clear h0 tail
      all_goals go_wp2_with (first | (go_at_call 21; (with_reducible refine (A1.out _).mono ?_); rintro e v ⟨rfl, rfl⟩))
      all_goals go_meet
      all_goals exact ⟨rfl, rfl⟩
    · have hl := data_len s
      obtain rfl : pc = false := by rw [HPC.out]; exact decide_eq_false hp
      have hk1 := (Ex.addr_rest s.data.toList).2
      rw [hl] at hk1
      have A1 := Lib.hid (fun w => ref27_addr (s := s) hs ea.symm rfl ha w)
      have X1 := Ex.ext_drop s (Ex.addrK s.data.toList)
      have gn : (a != 0) = true := by rw [bne_iff_ne]; exact hn
      have hlt2 : (bs (s.data.toList.drop (Ex.addrK s.data.toList))).size ≤ 1000000000 := by rw [bs_size, List.length_drop]; omega
      rw [show s.data.toList.drop (Ex.addrK s.data.toList) = (bs (s.data.toList.drop (Ex.addrK s.data.toList))).data.toList from rfl] at h44 hb eb ht
      generalize Ex.addrK s.data.toList = k1 at *
      have hk2 : (k1 : Int) ≤ (s.size : Int) := by omega
      clear hts FW HPC
      generalize bs (s.data.toList.drop k1) = q at *
      have h2 : 0 < q.size := by rw [← data_len]; exact List.length_pos_iff.2 (fun e => by rw [e] at h44; cases h44)
      have e1 : q.toList.isEmpty = false := by rw [Lib.toList_data]; cases hl : q.data.toList with | nil => rw [← data_len, hl] at h2; simp at h2 | cons b t => rfl
      have e2 : ((q[0].toNat : Int) == 44) = true := by
        have := Ex.head_byte h2
        rw [this] at h44; injection h44 with h44; rw [h44]; rfl
      have X2 := Ex.ext_drop q 1
      rw [List.drop_one] at X2
      have h3 : 1 ≤ q.size := h2
      have A2 := Lib.hid (fun w => ref27_addr (s := bs q.data.toList.tail) (by rw [bs_size, List.length_tail, data_len]; omega) eb.symm rfl hb w)
      rw [bs_toList] at A2
      have hj := (Ex.addr_rest q.data.toList.tail).2
      rw [List.length_tail, data_len] at hj
      have X3 := Ex.ext_drop q (1 + Ex.addrK q.data.toList.tail)
      rw [show q.data.toList.drop (1 + Ex.addrK q.data.toList.tail) = q.data.toList.tail.drop (Ex.addrK q.data.toList.tail) by rw [← List.drop_one, List.drop_drop], ← ht] at X3
      have gm : (b == 0) = false := by rw [beq_eq_false_iff_ne]; exact hm
      generalize Ex.addrK q.data.toList.tail = j at *
      generalize bs t = z at *
      generalize bs q.data.toList.tail = p at *
      have w1 : IntKind.i64.wrap (1 + (j : Int)) = ((1 + j : Nat) : Int) := by rw [IntKind.wrap_i64]; omega
      have q1 : ((1 + j : Nat) : Int) ≤ (q.size : Int) := by omega
      have q2 : 1 + j ≤ q.size := by omega
      clear hl hp ha ea eb ht hn h44 hb hk1 hm hj
      go_wp2_with (first | (go_at_call 21; (with_reducible refine (A1.out _).mono ?_); rintro e v ⟨rfl, rfl⟩) | (go_at_call 21; (with_reducible refine (A2.out _).mono ?_); rintro e v ⟨rfl, rfl⟩))
      go_meet
      exact ⟨by rw [X3], rfl⟩
  case rest =>
  obtain ⟨rfl, hw⟩ := hcut
  subst hw
  clear FW HPC
  obtain ⟨ml, hml⟩ : ∃ ml, (t.takeWhile Ex.small).length = ml := ⟨_, rfl⟩
  rw [hml] at MW
  have HML := Lib.hid hml
  have hmt : ml ≤ (bs t).size := by rw [← hml, bs_size]; exact (Ex.while_drop Ex.small t).2.1
  have hm9 : ml ≤ 1000000000 := by rw [bs_size] at hmt; omega
  clear hml
  go_wp2_with fail
  go_loopw [11] (fun iv wr => ∃ j : Nat, iv = .int .i64 j ∧ j ≤ ml ∧ wr = u.alloc (.cells #[.int .i64 a, .int .i64 b, .string ⟨#[]⟩, .string ⟨#[]⟩, .string ⟨#[]⟩, .string ⟨#[]⟩, .bool false] 28)) (fun iv _ => ml - (intOf iv).toNat)
  case atStart => exact ⟨0, rfl, Nat.zero_le _, rfl⟩
  case round =>
  obtain ⟨j, rfl, hj, rfl⟩ := hrel
  go_upto_region 19 with fail
  go_cut [89] from 80 to 91 (fun v wx => v = .bool (decide (j < ml)) ∧ wx = u.alloc (.cells #[.int .i64 a, .int .i64 b, .string ⟨#[]⟩, .string ⟨#[]⟩, .string ⟨#[]⟩, .string ⟨#[]⟩, .bool false] 28))
  case first =>
    clear MW XK NM
    have hl := bs_size t
    by_cases hlt : j < (bs t).size
    · have g9 : decide ((j : Int) < ((bs t).size : Int)) = true := by rw [decide_eq_true_iff]; omega
      have hb := byte_get (bs t) hlt
      rw [bs_toList] at hb
      have D1 := Lib.hid (fun w => SM.out (bs t)[j] w)
      have HQ : Hid (Ex.small (bs t)[j] = decide (j < ml)) := Lib.hid (by
        rw [← HML.out]
        exact Ex.while_step hb (by rw [HML.out]; exact hj))
      rw [HQ.out] at D1
      clear hb SM hl HML
      generalize bs t = tb at *
      go_wp2_with (first | (go_at_call 22; (with_reducible refine (D1.out _).mono ?_); rintro e v ⟨rfl, rfl⟩))
      go_meet
      exact ⟨rfl, rfl⟩
    · have g9 : decide ((j : Int) < ((bs t).size : Int)) = false := by rw [decide_eq_false_iff_not]; omega
      have g8 : decide (j < ml) = false := by rw [decide_eq_false_iff_not]; omega
      clear SM hl HML
      generalize bs t = tb at *
      go_wp2
      go_meet
      exact ⟨by rw [g8], rfl⟩
  case rest =>
  obtain ⟨rfl, hw⟩ := hcut
  subst hw
  by_cases hlt : j < ml
  · have g9 : decide (j < ml) = true := decide_eq_true hlt
    clear MW XK NM SM HML
    go_wp2
    go_roundw
    case rel =>
      exact ⟨j + 1, by go_num, by omega, by trivial⟩
    case measure => simp [intOf]; omega
  have g9 : decide (j < ml) = false := decide_eq_false hlt
  obtain rfl : j = ml := by omega
  clear SM HML
  obtain ⟨qb, HQB⟩ : ∃ qb : Bool, Hid (qb = decide (j = 0 ∧ (t.head? = some 62 ∨ t.head? = some 60))) := ⟨_, rfl⟩
  go_upto_region 21 with fail
  go_cut [89, 107] from 92 to 107 (fun _ v wx => v = .bool qb ∧ wx = u.alloc (.cells #[.int .i64 a, .int .i64 b, .string ⟨#[]⟩, .string ⟨#[]⟩, .string ⟨#[]⟩, .string ⟨#[]⟩, .bool false] 28))
  case first =>
    clear XK NM
    by_cases hj0 : j = 0
    · by_cases hz : t = []
      · have e0 : (bs t).toList.isEmpty = true := by rw [hz, bs_tl]; rfl
        have e9 : qb = false := by rw [HQB.out, hz]; simp
        have g5 : ((j : Int) == 0) = true := by rw [hj0]; rfl
        clear HQB MW hj0 hz
        generalize bs t = tb at *
        go_wp2
        go_meet
        exact ⟨by rw [e9], rfl⟩
      · have h0 : 0 < (bs t).size := by rw [bs_size]; exact List.length_pos_iff.2 hz
        have e0 : (bs t).toList.isEmpty = false := by rw [bs_tl]; simpa using hz
        have g5 : ((j : Int) == 0) = true := by rw [hj0]; rfl
        have hh := Ex.head_byte h0
        rw [bs_toList] at hh
        have e9 : qb = (((bs t)[0].toNat : Int) == 62 || ((bs t)[0].toNat : Int) == 60) := by
          rw [HQB.out, hh, Bool.eq_iff_iff, decide_eq_true_iff, Bool.or_eq_true, beq_iff_eq, beq_iff_eq]
          have k1 : (62 : UInt8).toNat = 62 := rfl
          have k2 : (60 : UInt8).toNat = 60 := rfl
          constructor
          · rintro ⟨_, e | e⟩
            · injection e with e; rw [e]; exact .inl rfl
            · injection e with e; rw [e]; exact .inr rfl
          · rintro (e | e)
            · exact ⟨hj0, .inl (by rw [show (bs t)[0] = 62 from UInt8.toNat_inj.1 (by omega)])⟩
            · exact ⟨hj0, .inr (by rw [show (bs t)[0] = 60 from UInt8.toNat_inj.1 (by omega)])⟩
        have E9 := Lib.hid e9
        clear HQB MW hj0 hz hh e9
        generalize bs t = tb at *
        cases g6 : ((tb[0].toNat : Int) == 62)
        · go_wp2
          go_meet
          exact ⟨by rw [E9.out, g6]; rfl, rfl⟩
        · go_wp2
          go_meet
          exact ⟨by rw [E9.out, g6]; rfl, rfl⟩
    · have g5 : ((j : Int) == 0) = false := by rw [beq_eq_false_iff_ne]; omega
      have e9 : qb = false := by rw [HQB.out]; simp [hj0]
      clear HQB MW hj0
      generalize bs t = tb at *
      go_wp2
      go_meet
      exact ⟨by rw [e9], rfl⟩
  case rest =>
  obtain ⟨rfl, hw⟩ := hcut
  subst hw
  go_upto_if 107 with fail
  go_cut [11] from 107 to 107 (fun v wx => v = .int .i64 ((Ex.verb t).1.length : Nat) ∧ wx = u.alloc (.cells #[.int .i64 a, .int .i64 b, .string ⟨#[]⟩, .string ⟨#[]⟩, .string ⟨#[]⟩, .string ⟨#[]⟩, .bool false] 28))
  case first =>
    have E9 : Hid (if qb then (Ex.verb t).1.length = 1 else (Ex.verb t).1.length = j) := Lib.hid (by
      rw [HQB.out]
      rcases MW.out with ⟨h1, h2⟩ | ⟨h1, h2, h3⟩ | ⟨h1, h2, h3, h4⟩
      · rw [decide_eq_false (fun e => h1 e.1)]; exact h2
      · rw [decide_eq_true ⟨h1, h2⟩]; exact h3
      · rw [decide_eq_false (fun e => e.2.elim h2 h3)]; exact h4.trans h1.symm)
    clear XK NM MW HQB
    generalize bs t = tb at *
    cases qb
    · go_wp2
      go_meet
      exact ⟨by rw [show (Ex.verb t).1.length = j from E9.out], rfl⟩
    · go_wp2
      go_meet
      exact ⟨by rw [show (Ex.verb t).1.length = 1 from E9.out]; rfl, rfl⟩
  case rest =>
  obtain ⟨rfl, hw⟩ := hcut
  subst hw
  clear MW HQB
  have hnl : (Ex.verb t).1.length = 0 ↔ (Ex.verb t).1 = [] := List.length_eq_zero_iff
  obtain ⟨x1, x2, x3⟩ := XK.out
  clear XK
  generalize (Ex.verb t).1.length = nl at *
  generalize hnm : bs (Ex.verb t).1 = nm at *
  generalize hre : bs (Ex.verb t).2 = re at *
  have x4 : (nl : Int) ≤ ((bs t).size : Int) := by omega
  have hlb := B1.lt
  go_upto_region 26 with (first | (go_at_call 23; (with_reducible refine (NM.out _).mono ?_); rintro e v ⟨rfl, rfl⟩))
  have B2 := B1.alloc (.cells #[.int .i64 a, .int .i64 b, .string nm, .string ⟨#[]⟩, .string ⟨#[]⟩, .string ⟨#[]⟩, .bool false] 28)
  have L2 := Blk.new u 28 #[.int .i64 a, .int .i64 b, .string nm, .string ⟨#[]⟩, .string ⟨#[]⟩, .string ⟨#[]⟩, .bool false]
  have W2 := W1.alloc W1.size (.cells #[.int .i64 a, .int .i64 b, .string nm, .string ⟨#[]⟩, .string ⟨#[]⟩, .string ⟨#[]⟩, .bool false] 28)
  generalize hU : u.alloc (.cells #[.int .i64 a, .int .i64 b, .string nm, .string ⟨#[]⟩, .string ⟨#[]⟩, .string ⟨#[]⟩, .bool false] 28) = U at *
  have LL := Lib.hid L2
  obtain ⟨l0, l1, l2, l3, l4, l5, l6⟩ := Ex.cells7 L2
  clear x1 x2 x3 x4 NM B1 W1 L2 hU
  have hw := Ex.word_some (a := a) (b := b) hk
  have htd := Ex.take_drop_verb t
  have hk0 : (Ex.verb t).1 = [] → r = true ∧ k = 0 := fun e => by
    rw [e] at hk
    have : Ex.kind [] = some (true, 0) := by decide
    rw [this] at hk
    injection hk with hk; injection hk with h1 h2
    exact ⟨h1.symm, h2.symm⟩
  by_cases hT2 : (Ex.verb t).1 = [] ∧ (Ex.verb t).2 ≠ []
  · have g5 : ((nl : Int) == 0) = true := by rw [beq_iff_eq]; have := hnl.2 hT2.1; omega
    have ry : re.toList.isEmpty = false := by rw [← hre, bs_tl]; simpa using hT2.2
    have hw2 : Ex.word a b t = (Ex.zero, 16) := by
      rw [hw, if_pos ⟨hT2.1, fun e => hT2.2 (by rw [e]; decide)⟩]
    clear hnm hre hk hnl htd hk0 hw
    have HW : Hid (Ex.word a b t = (Ex.zero, 16)) := Lib.hid (by exact hw2)
    clear hw2
    obtain ⟨⟨xy0, yy0⟩, ⟨xy1, yy1⟩, ⟨xy2, yy2⟩, ⟨xy3, yy3⟩, ⟨xy4, yy4⟩, ⟨xy5, yy5⟩, ⟨xy6, yy6⟩, BB⟩ := Ex.blk7 B2 (.int .i64 0) (.int .i64 0) (.string ⟨#[]⟩) (.string ⟨#[]⟩) (.string ⟨#[]⟩) (.string ⟨#[]⟩) (.bool false)
    have GGy := Ex.put7_gb (U) (w.heap.size) (.int .i64 0) (.int .i64 0) (.string ⟨#[]⟩) (.string ⟨#[]⟩) (.string ⟨#[]⟩) (.string ⟨#[]⟩) (.bool false)
    unfold Ex.put7 at GGy BB
    generalize hy1 : World.setCell (U) ⟨w.heap.size, 0, none⟩ (.int .i64 0) = y1 at *
    generalize hy2 : World.setCell y1 ⟨w.heap.size, 1, none⟩ (.int .i64 0) = y2 at *
    generalize hy3 : World.setCell y2 ⟨w.heap.size, 2, none⟩ (.string ⟨#[]⟩) = y3 at *
    generalize hy4 : World.setCell y3 ⟨w.heap.size, 3, none⟩ (.string ⟨#[]⟩) = y4 at *
    generalize hy5 : World.setCell y4 ⟨w.heap.size, 4, none⟩ (.string ⟨#[]⟩) = y5 at *
    generalize hy6 : World.setCell y5 ⟨w.heap.size, 5, none⟩ (.string ⟨#[]⟩) = y6 at *
    generalize hy7 : World.setCell y6 ⟨w.heap.size, 6, none⟩ (.bool false) = y7 at *
    replace BB := Lib.hid BB
    go_wp2
    refine ret_seven1 rfl rfl BB.out rfl Tryz.underlying28 (by kernel_rfl) ?_
    exact ⟨by rw [HW.out]; rfl, W2.grown GGy W2.size (fun j e => by injection e with e; omega)⟩
  by_cases hT3 : a ≠ 0 ∧ r = false
  · have hx : (Ex.verb t).1 ≠ [] := fun e => by rw [hT3.2] at hk0; exact absurd (hk0 e).1 (by decide)
    have g5 : ((nl : Int) == 0) = false := by rw [beq_eq_false_iff_ne]; exact fun e => hx (hnl.1 (by omega))
    have ga : (a != 0) = true := by rw [bne_iff_ne]; exact hT3.1
    have hw2 : Ex.word a b t = (Ex.zero, 3) := by rw [hw, if_neg (fun e => hx e.1), if_pos hT3]
    obtain rfl := hT3.2
    clear hnm hre hk hnl htd hk0 hT3 hw
    have HW : Hid (Ex.word a b t = (Ex.zero, 3)) := Lib.hid (by exact hw2)
    clear hw2
    obtain ⟨⟨xy0, yy0⟩, ⟨xy1, yy1⟩, ⟨xy2, yy2⟩, ⟨xy3, yy3⟩, ⟨xy4, yy4⟩, ⟨xy5, yy5⟩, ⟨xy6, yy6⟩, BB⟩ := Ex.blk7 B2 (.int .i64 0) (.int .i64 0) (.string ⟨#[]⟩) (.string ⟨#[]⟩) (.string ⟨#[]⟩) (.string ⟨#[]⟩) (.bool false)
    have GGy := Ex.put7_gb (U) (w.heap.size) (.int .i64 0) (.int .i64 0) (.string ⟨#[]⟩) (.string ⟨#[]⟩) (.string ⟨#[]⟩) (.string ⟨#[]⟩) (.bool false)
    unfold Ex.put7 at GGy BB
    generalize hy1 : World.setCell (U) ⟨w.heap.size, 0, none⟩ (.int .i64 0) = y1 at *
    generalize hy2 : World.setCell y1 ⟨w.heap.size, 1, none⟩ (.int .i64 0) = y2 at *
    generalize hy3 : World.setCell y2 ⟨w.heap.size, 2, none⟩ (.string ⟨#[]⟩) = y3 at *
    generalize hy4 : World.setCell y3 ⟨w.heap.size, 3, none⟩ (.string ⟨#[]⟩) = y4 at *
    generalize hy5 : World.setCell y4 ⟨w.heap.size, 4, none⟩ (.string ⟨#[]⟩) = y5 at *
    generalize hy6 : World.setCell y5 ⟨w.heap.size, 5, none⟩ (.string ⟨#[]⟩) = y6 at *
    generalize hy7 : World.setCell y6 ⟨w.heap.size, 6, none⟩ (.bool false) = y7 at *
    replace BB := Lib.hid BB
    go_wp2
    refine ret_seven1 rfl rfl BB.out rfl Tryz.underlying28 (by kernel_rfl) ?_
    exact ⟨by rw [HW.out]; rfl, W2.grown GGy W2.size (fun j e => by injection e with e; omega)⟩
  have hw2 : Ex.word a b t = Ex.rest ⟨a, b, (Ex.verb t).1, [], [], [], false⟩ k (Ex.verb t).2 := by
    rw [hw, if_neg (fun e => hT2 ⟨e.1, fun e2 => e.2 (by rw [← htd, e.1, e2]; rfl)⟩), if_neg hT3]
  go_cut [131] from 122 to 131 (fun v wx => v = .bool false ∧ wx = U)
  case first =>
    by_cases hx : (Ex.verb t).1 = []
    · have g5 : ((nl : Int) == 0) = true := by rw [beq_iff_eq]; have := hnl.2 hx; omega
      have ry : re.toList.isEmpty = true := by rw [← hre, bs_tl, Classical.not_not.1 (fun e => hT2 ⟨hx, e⟩)]; rfl
      clear hnm hre hk hnl htd hk0 hT2 hT3 hw hw2 hx
      go_wp2
      go_meet
      exact ⟨rfl, rfl⟩
    · have g5 : ((nl : Int) == 0) = false := by rw [beq_eq_false_iff_ne]; exact fun e => hx (hnl.1 (by omega))
      clear hnm hre hk hnl htd hk0 hT2 hT3 hw hw2 hx
      go_wp2
      go_meet
      exact ⟨rfl, rfl⟩
  case rest =>
  obtain ⟨rfl, hwc⟩ := hcut
  subst hwc
  go_upto_region 28 with fail
  go_cut [139] from 133 to 139 (fun v wx => v = .bool false ∧ wx = wc)
  case first =>
    by_cases ha : a = 0
    · have ga : (a != 0) = false := by rw [ha]; rfl
      clear hnm hre hk hnl htd hk0 hT2 hT3 hw hw2 ha
      go_wp2
      go_meet
      exact ⟨rfl, rfl⟩
    · have ga : (a != 0) = true := by rw [bne_iff_ne]; exact ha
      obtain rfl : r = true := by simpa using fun e => hT3 ⟨ha, e⟩
      clear hnm hre hk hnl htd hk0 hT2 hT3 hw hw2 ha
      go_wp2
      go_meet
      exact ⟨rfl, rfl⟩
  case rest =>
  obtain ⟨rfl, hwc⟩ := hcut
  subst hwc
  clear hnl hT2 hT3 hk0 htd hw hk
  have HNM := Lib.hid hnm
  have HRE := Lib.hid hre
  have HW2 := Lib.hid hw2
  clear hw2 hnm hre
  have g50 : ((k : Int) == 5) = false := by rw [beq_eq_false_iff_ne]; omega
  by_cases hr : (Ex.verb t).2 = []
  · have ry : re.toList.isEmpty = true := by rw [← HRE.out, hr, bs_tl]; rfl
    by_cases h24 : k = 2 ∨ k = 4
    · have HW : Hid (Ex.word a b t = (Ex.zero, 3)) := Lib.hid (by rw [HW2.out]; unfold Ex.rest; rw [if_neg h5, if_pos hr, if_pos h24])
      by_cases h2 : k = 2
      · have e2 : ((k : Int) == 2) = true := by rw [beq_iff_eq]; omega
        clear HW2 HRE HNM h24 h2 hr h5
        obtain ⟨⟨xy0, yy0⟩, ⟨xy1, yy1⟩, ⟨xy2, yy2⟩, ⟨xy3, yy3⟩, ⟨xy4, yy4⟩, ⟨xy5, yy5⟩, ⟨xy6, yy6⟩, BB⟩ := Ex.blk7 B2 (.int .i64 0) (.int .i64 0) (.string ⟨#[]⟩) (.string ⟨#[]⟩) (.string ⟨#[]⟩) (.string ⟨#[]⟩) (.bool false)
        have GGy := Ex.put7_gb (wc) (w.heap.size) (.int .i64 0) (.int .i64 0) (.string ⟨#[]⟩) (.string ⟨#[]⟩) (.string ⟨#[]⟩) (.string ⟨#[]⟩) (.bool false)
        unfold Ex.put7 at GGy BB
        generalize hy1 : World.setCell (wc) ⟨w.heap.size, 0, none⟩ (.int .i64 0) = y1 at *
        generalize hy2 : World.setCell y1 ⟨w.heap.size, 1, none⟩ (.int .i64 0) = y2 at *
        generalize hy3 : World.setCell y2 ⟨w.heap.size, 2, none⟩ (.string ⟨#[]⟩) = y3 at *
        generalize hy4 : World.setCell y3 ⟨w.heap.size, 3, none⟩ (.string ⟨#[]⟩) = y4 at *
        generalize hy5 : World.setCell y4 ⟨w.heap.size, 4, none⟩ (.string ⟨#[]⟩) = y5 at *
        generalize hy6 : World.setCell y5 ⟨w.heap.size, 5, none⟩ (.string ⟨#[]⟩) = y6 at *
        generalize hy7 : World.setCell y6 ⟨w.heap.size, 6, none⟩ (.bool false) = y7 at *
        replace BB := Lib.hid BB
        go_wp2
        refine ret_seven1 rfl rfl BB.out rfl Tryz.underlying28 (by kernel_rfl) ?_
        exact ⟨by rw [HW.out]; rfl, W2.grown GGy W2.size (fun j e => by injection e with e; omega)⟩
      · have e2 : ((k : Int) == 2) = false := by rw [beq_eq_false_iff_ne]; omega
        have e4 : ((k : Int) == 4) = true := by rw [beq_iff_eq]; omega
        clear HW2 HRE HNM h24 h2 hr h5
        obtain ⟨⟨xy0, yy0⟩, ⟨xy1, yy1⟩, ⟨xy2, yy2⟩, ⟨xy3, yy3⟩, ⟨xy4, yy4⟩, ⟨xy5, yy5⟩, ⟨xy6, yy6⟩, BB⟩ := Ex.blk7 B2 (.int .i64 0) (.int .i64 0) (.string ⟨#[]⟩) (.string ⟨#[]⟩) (.string ⟨#[]⟩) (.string ⟨#[]⟩) (.bool false)
        have GGy := Ex.put7_gb (wc) (w.heap.size) (.int .i64 0) (.int .i64 0) (.string ⟨#[]⟩) (.string ⟨#[]⟩) (.string ⟨#[]⟩) (.string ⟨#[]⟩) (.bool false)
        unfold Ex.put7 at GGy BB
        generalize hy1 : World.setCell (wc) ⟨w.heap.size, 0, none⟩ (.int .i64 0) = y1 at *
        generalize hy2 : World.setCell y1 ⟨w.heap.size, 1, none⟩ (.int .i64 0) = y2 at *
        generalize hy3 : World.setCell y2 ⟨w.heap.size, 2, none⟩ (.string ⟨#[]⟩) = y3 at *
        generalize hy4 : World.setCell y3 ⟨w.heap.size, 3, none⟩ (.string ⟨#[]⟩) = y4 at *
        generalize hy5 : World.setCell y4 ⟨w.heap.size, 4, none⟩ (.string ⟨#[]⟩) = y5 at *
        generalize hy6 : World.setCell y5 ⟨w.heap.size, 5, none⟩ (.string ⟨#[]⟩) = y6 at *
        generalize hy7 : World.setCell y6 ⟨w.heap.size, 6, none⟩ (.bool false) = y7 at *
        replace BB := Lib.hid BB
        go_wp2
        refine ret_seven1 rfl rfl BB.out rfl Tryz.underlying28 (by kernel_rfl) ?_
        exact ⟨by rw [HW.out]; rfl, W2.grown GGy W2.size (fun j e => by injection e with e; omega)⟩
    · have e2 : ((k : Int) == 2) = false := by rw [beq_eq_false_iff_ne]; omega
      have e4 : ((k : Int) == 4) = false := by rw [beq_eq_false_iff_ne]; omega
      have HW : Hid (Ex.word a b t = (⟨a, b, (Ex.verb t).1, [], [], [], false⟩, 0)) := Lib.hid (by rw [HW2.out]; unfold Ex.rest; rw [if_neg h5, if_pos hr, if_neg h24])
      clear HW2 HRE h24 hr h5
      obtain ⟨⟨xy0, yy0⟩, ⟨xy1, yy1⟩, ⟨xy2, yy2⟩, ⟨xy3, yy3⟩, ⟨xy4, yy4⟩, ⟨xy5, yy5⟩, ⟨xy6, yy6⟩, BB⟩ := Ex.blk7 B2 (.int .i64 a) (.int .i64 b) (.string nm) (.string ⟨#[]⟩) (.string ⟨#[]⟩) (.string ⟨#[]⟩) (.bool false)
      have GGy := Ex.put7_gb (wc) (w.heap.size) (.int .i64 a) (.int .i64 b) (.string nm) (.string ⟨#[]⟩) (.string ⟨#[]⟩) (.string ⟨#[]⟩) (.bool false)
      unfold Ex.put7 at GGy BB
      generalize hy1 : World.setCell (wc) ⟨w.heap.size, 0, none⟩ (.int .i64 a) = y1 at *
      generalize hy2 : World.setCell y1 ⟨w.heap.size, 1, none⟩ (.int .i64 b) = y2 at *
      generalize hy3 : World.setCell y2 ⟨w.heap.size, 2, none⟩ (.string nm) = y3 at *
      generalize hy4 : World.setCell y3 ⟨w.heap.size, 3, none⟩ (.string ⟨#[]⟩) = y4 at *
      generalize hy5 : World.setCell y4 ⟨w.heap.size, 4, none⟩ (.string ⟨#[]⟩) = y5 at *
      generalize hy6 : World.setCell y5 ⟨w.heap.size, 5, none⟩ (.string ⟨#[]⟩) = y6 at *
      generalize hy7 : World.setCell y6 ⟨w.heap.size, 6, none⟩ (.bool false) = y7 at *
      replace BB := Lib.hid BB
      go_wp2
      refine ret_seven1 rfl rfl BB.out rfl Tryz.underlying28 (by kernel_rfl) ?_
      exact ⟨by rw [HW.out, ← HNM.out]; rfl, W2.grown GGy W2.size (fun j e => by injection e with e; omega)⟩
  have ry : re.toList.isEmpty = false := by rw [← HRE.out, bs_tl]; simpa using hr
  have h0 : 0 < re.size := by rw [← HRE.out, bs_size]; exact List.length_pos_iff.2 hr
  have hh := Ex.head_byte h0
  rw [show re.data.toList = (Ex.verb t).2 by rw [← HRE.out]; rfl] at hh
  by_cases k0 : k = 0
  · have e0 : ((k : Int) == 0) = true := by rw [k0]; rfl
    have HW : Hid (Ex.word a b t = (Ex.zero, 3)) := Lib.hid (by rw [HW2.out]; unfold Ex.rest; rw [if_neg h5, if_neg hr, if_pos (.inl k0)])
    clear HW2 HRE HNM hr h5 hh k0
    obtain ⟨⟨xy0, yy0⟩, ⟨xy1, yy1⟩, ⟨xy2, yy2⟩, ⟨xy3, yy3⟩, ⟨xy4, yy4⟩, ⟨xy5, yy5⟩, ⟨xy6, yy6⟩, BB⟩ := Ex.blk7 B2 (.int .i64 0) (.int .i64 0) (.string ⟨#[]⟩) (.string ⟨#[]⟩) (.string ⟨#[]⟩) (.string ⟨#[]⟩) (.bool false)
    have GGy := Ex.put7_gb (wc) (w.heap.size) (.int .i64 0) (.int .i64 0) (.string ⟨#[]⟩) (.string ⟨#[]⟩) (.string ⟨#[]⟩) (.string ⟨#[]⟩) (.bool false)
    unfold Ex.put7 at GGy BB
    generalize hy1 : World.setCell (wc) ⟨w.heap.size, 0, none⟩ (.int .i64 0) = y1 at *
    generalize hy2 : World.setCell y1 ⟨w.heap.size, 1, none⟩ (.int .i64 0) = y2 at *
    generalize hy3 : World.setCell y2 ⟨w.heap.size, 2, none⟩ (.string ⟨#[]⟩) = y3 at *
    generalize hy4 : World.setCell y3 ⟨w.heap.size, 3, none⟩ (.string ⟨#[]⟩) = y4 at *
    generalize hy5 : World.setCell y4 ⟨w.heap.size, 4, none⟩ (.string ⟨#[]⟩) = y5 at *
    generalize hy6 : World.setCell y5 ⟨w.heap.size, 5, none⟩ (.string ⟨#[]⟩) = y6 at *
    generalize hy7 : World.setCell y6 ⟨w.heap.size, 6, none⟩ (.bool false) = y7 at *
    replace BB := Lib.hid BB
    go_wp2
    refine ret_seven1 rfl rfl BB.out rfl Tryz.underlying28 (by kernel_rfl) ?_
    exact ⟨by rw [HW.out]; rfl, W2.grown GGy W2.size (fun j e => by injection e with e; omega)⟩
  have e0 : ((k : Int) == 0) = false := by rw [beq_eq_false_iff_ne]; omega
  by_cases h32 : (Ex.verb t).2.head? = some 32
  rotate_left
  · have eb : ((re[0].toNat : Int) != 32) = true := by
      rw [bne_iff_ne]
      exact fun e => h32 (by rw [hh, show re[0] = 32 from UInt8.toNat_inj.1 (by have k1 : (32 : UInt8).toNat = 32 := rfl; omega)])
    have HW : Hid (Ex.word a b t = (Ex.zero, 3)) := Lib.hid (by rw [HW2.out]; unfold Ex.rest; rw [if_neg h5, if_neg hr, if_pos (.inr h32)])
    clear HW2 HRE HNM hr h5 hh k0 h32
    obtain ⟨⟨xy0, yy0⟩, ⟨xy1, yy1⟩, ⟨xy2, yy2⟩, ⟨xy3, yy3⟩, ⟨xy4, yy4⟩, ⟨xy5, yy5⟩, ⟨xy6, yy6⟩, BB⟩ := Ex.blk7 B2 (.int .i64 0) (.int .i64 0) (.string ⟨#[]⟩) (.string ⟨#[]⟩) (.string ⟨#[]⟩) (.string ⟨#[]⟩) (.bool false)
    have GGy := Ex.put7_gb (wc) (w.heap.size) (.int .i64 0) (.int .i64 0) (.string ⟨#[]⟩) (.string ⟨#[]⟩) (.string ⟨#[]⟩) (.string ⟨#[]⟩) (.bool false)
    unfold Ex.put7 at GGy BB
    generalize hy1 : World.setCell (wc) ⟨w.heap.size, 0, none⟩ (.int .i64 0) = y1 at *
    generalize hy2 : World.setCell y1 ⟨w.heap.size, 1, none⟩ (.int .i64 0) = y2 at *
    generalize hy3 : World.setCell y2 ⟨w.heap.size, 2, none⟩ (.string ⟨#[]⟩) = y3 at *
    generalize hy4 : World.setCell y3 ⟨w.heap.size, 3, none⟩ (.string ⟨#[]⟩) = y4 at *
    generalize hy5 : World.setCell y4 ⟨w.heap.size, 4, none⟩ (.string ⟨#[]⟩) = y5 at *
    generalize hy6 : World.setCell y5 ⟨w.heap.size, 5, none⟩ (.string ⟨#[]⟩) = y6 at *
    generalize hy7 : World.setCell y6 ⟨w.heap.size, 6, none⟩ (.bool false) = y7 at *
    replace BB := Lib.hid BB
    go_wp2
    refine ret_seven1 rfl rfl BB.out rfl Tryz.underlying28 (by kernel_rfl) ?_
    exact ⟨by rw [HW.out]; rfl, W2.grown GGy W2.size (fun j e => by injection e with e; omega)⟩
  have eb : ((re[0].toNat : Int) != 32) = false := by
    rw [hh] at h32; injection h32 with h32; rw [h32]; rfl
  have X5 := Ex.ext_drop re 1
  rw [List.drop_one, show re.data.toList = (Ex.verb t).2 by rw [← HRE.out]; rfl] at X5
  have h1 : 1 ≤ re.size := h0
  have f3 := LL.out.frozen 3
  have NA := Lib.hid (fun w => ref27_Name (bs (Ex.verb t).2.tail) (by have := (Ex.verb_cut t).2.1; rw [bs_size, List.length_tail]; have h9 := Ex.take_drop_verb t; have h8 := congrArg List.length h9; rw [List.length_append] at h8; omega) w)
  have NU := Lib.hid (fun w => ref27_Number (bs (Ex.verb t).2.tail) w)
  rw [bs_toList] at NA NU
  have HAR : Hid (bs (Ex.verb t).2.tail = bs (Ex.verb t).2.tail) := rfl
  have HR : Hid (Ex.word a b t = if k ≤ 2 ∧ Ex.isName (Ex.verb t).2.tail = false then (Ex.zero, 11) else if 2 < k ∧ Ex.number (Ex.verb t).2.tail < 0 then (Ex.zero, 3) else (⟨a, b, (Ex.verb t).1, (Ex.verb t).2.tail, [], [], false⟩, 0)) := Lib.hid (by
    rw [HW2.out]; unfold Ex.rest; rw [if_neg h5, if_neg hr, if_neg (not_or.2 ⟨k0, fun e => e h32⟩)])
  clear HW2 hh
  have L5 : Blk (wc.setCell ⟨u.heap.size, 3, none⟩ (.string (bs (Ex.verb t).2.tail))) u.heap.size 28 #[.int .i64 a, .int .i64 b, .string nm, .string (bs (Ex.verb t).2.tail), .string ⟨#[]⟩, .string ⟨#[]⟩, .bool false] := LL.out.set_ 3 (.string (bs (Ex.verb t).2.tail))
  have B5 := B2.far (p := ⟨u.heap.size, 3, none⟩) (Nat.ne_of_lt hlb) (.string (bs (Ex.verb t).2.tail))
  have W5 := W2.setCell (p := ⟨u.heap.size, 3, none⟩) (Nat.le_of_lt hlb) (.string (bs (Ex.verb t).2.tail))
  generalize hna : bs (Ex.verb t).2.tail = ar at *
  have HNA := Lib.hid hna
  generalize hU5 : wc.setCell ⟨u.heap.size, 3, none⟩ (.string ar) = U5 at *
  have HU5 := Lib.hid hU5
  obtain ⟨d0, d1, d2, d3, d4, d5, d6⟩ := Ex.cells7 L5
  clear HRE HAR hna L5 h32 hr h5 k0
  by_cases k2 : k ≤ 2
  · have g2 : decide ((k : Int) ≤ 2) = true := by rw [decide_eq_true_iff]; omega
    have g3 : decide ((2 : Int) < (k : Int)) = false := by rw [decide_eq_false_iff_not]; omega
    rcases Bool.eq_false_or_eq_true (Ex.isName (Ex.verb t).2.tail) with hn | hn
    · rw [hn] at NA
      have HW : Hid (Ex.word a b t = (⟨a, b, (Ex.verb t).1, (Ex.verb t).2.tail, [], [], false⟩, 0)) := Lib.hid (by rw [HR.out, if_neg (by simp [hn]), if_neg (by omega)])
      clear HR hn k2 NU
      obtain ⟨⟨xy0, yy0⟩, ⟨xy1, yy1⟩, ⟨xy2, yy2⟩, ⟨xy3, yy3⟩, ⟨xy4, yy4⟩, ⟨xy5, yy5⟩, ⟨xy6, yy6⟩, BB⟩ := Ex.blk7 B5 (.int .i64 a) (.int .i64 b) (.string nm) (.string ar) (.string ⟨#[]⟩) (.string ⟨#[]⟩) (.bool false)
      have GGy := Ex.put7_gb (U5) (w.heap.size) (.int .i64 a) (.int .i64 b) (.string nm) (.string ar) (.string ⟨#[]⟩) (.string ⟨#[]⟩) (.bool false)
      unfold Ex.put7 at GGy BB
      generalize hy1 : World.setCell (U5) ⟨w.heap.size, 0, none⟩ (.int .i64 a) = y1 at *
      generalize hy2 : World.setCell y1 ⟨w.heap.size, 1, none⟩ (.int .i64 b) = y2 at *
      generalize hy3 : World.setCell y2 ⟨w.heap.size, 2, none⟩ (.string nm) = y3 at *
      generalize hy4 : World.setCell y3 ⟨w.heap.size, 3, none⟩ (.string ar) = y4 at *
      generalize hy5 : World.setCell y4 ⟨w.heap.size, 4, none⟩ (.string ⟨#[]⟩) = y5 at *
      generalize hy6 : World.setCell y5 ⟨w.heap.size, 5, none⟩ (.string ⟨#[]⟩) = y6 at *
      generalize hy7 : World.setCell y6 ⟨w.heap.size, 6, none⟩ (.bool false) = y7 at *
      replace BB := Lib.hid BB
      go_wp2_with (first | (go_at_call 9; (with_reducible refine (NA.out _).mono ?_); rintro e v ⟨rfl, rfl⟩))
      refine ret_seven1 rfl rfl BB.out rfl Tryz.underlying28 (by kernel_rfl) ?_
      exact ⟨by rw [HW.out, ← HNM.out, ← HNA.out]; rfl, W5.grown GGy W5.size (fun j e => by injection e with e; omega)⟩
    · rw [hn] at NA
      have HW : Hid (Ex.word a b t = (Ex.zero, 11)) := Lib.hid (by rw [HR.out, if_pos ⟨k2, hn⟩])
      clear HR hn k2 NU HNM
      obtain ⟨⟨xy0, yy0⟩, ⟨xy1, yy1⟩, ⟨xy2, yy2⟩, ⟨xy3, yy3⟩, ⟨xy4, yy4⟩, ⟨xy5, yy5⟩, ⟨xy6, yy6⟩, BB⟩ := Ex.blk7 B5 (.int .i64 0) (.int .i64 0) (.string ⟨#[]⟩) (.string ⟨#[]⟩) (.string ⟨#[]⟩) (.string ⟨#[]⟩) (.bool false)
      have GGy := Ex.put7_gb (U5) (w.heap.size) (.int .i64 0) (.int .i64 0) (.string ⟨#[]⟩) (.string ⟨#[]⟩) (.string ⟨#[]⟩) (.string ⟨#[]⟩) (.bool false)
      unfold Ex.put7 at GGy BB
      generalize hy1 : World.setCell (U5) ⟨w.heap.size, 0, none⟩ (.int .i64 0) = y1 at *
      generalize hy2 : World.setCell y1 ⟨w.heap.size, 1, none⟩ (.int .i64 0) = y2 at *
      generalize hy3 : World.setCell y2 ⟨w.heap.size, 2, none⟩ (.string ⟨#[]⟩) = y3 at *
      generalize hy4 : World.setCell y3 ⟨w.heap.size, 3, none⟩ (.string ⟨#[]⟩) = y4 at *
      generalize hy5 : World.setCell y4 ⟨w.heap.size, 4, none⟩ (.string ⟨#[]⟩) = y5 at *
      generalize hy6 : World.setCell y5 ⟨w.heap.size, 5, none⟩ (.string ⟨#[]⟩) = y6 at *
      generalize hy7 : World.setCell y6 ⟨w.heap.size, 6, none⟩ (.bool false) = y7 at *
      replace BB := Lib.hid BB
      go_wp2_with (first | (go_at_call 9; (with_reducible refine (NA.out _).mono ?_); rintro e v ⟨rfl, rfl⟩))
      refine ret_seven1 rfl rfl BB.out rfl Tryz.underlying28 (by kernel_rfl) ?_
      exact ⟨by rw [HW.out]; rfl, W5.grown GGy W5.size (fun j e => by injection e with e; omega)⟩
  · have g2 : decide ((k : Int) ≤ 2) = false := by rw [decide_eq_false_iff_not]; omega
    have g3 : decide ((2 : Int) < (k : Int)) = true := by rw [decide_eq_true_iff]; omega
    by_cases hn : Ex.number (Ex.verb t).2.tail < 0
    · have gm : decide (Ex.number (Ex.verb t).2.tail < 0) = true := decide_eq_true hn
      have HW : Hid (Ex.word a b t = (Ex.zero, 3)) := Lib.hid (by rw [HR.out, if_neg (fun e => k2 e.1), if_pos ⟨by omega, hn⟩])
      clear HR hn k2 NA HNM
      generalize Ex.number (Ex.verb t).2.tail = m at *
      obtain ⟨⟨xy0, yy0⟩, ⟨xy1, yy1⟩, ⟨xy2, yy2⟩, ⟨xy3, yy3⟩, ⟨xy4, yy4⟩, ⟨xy5, yy5⟩, ⟨xy6, yy6⟩, BB⟩ := Ex.blk7 B5 (.int .i64 0) (.int .i64 0) (.string ⟨#[]⟩) (.string ⟨#[]⟩) (.string ⟨#[]⟩) (.string ⟨#[]⟩) (.bool false)
      have GGy := Ex.put7_gb (U5) (w.heap.size) (.int .i64 0) (.int .i64 0) (.string ⟨#[]⟩) (.string ⟨#[]⟩) (.string ⟨#[]⟩) (.string ⟨#[]⟩) (.bool false)
      unfold Ex.put7 at GGy BB
      generalize hy1 : World.setCell (U5) ⟨w.heap.size, 0, none⟩ (.int .i64 0) = y1 at *
      generalize hy2 : World.setCell y1 ⟨w.heap.size, 1, none⟩ (.int .i64 0) = y2 at *
      generalize hy3 : World.setCell y2 ⟨w.heap.size, 2, none⟩ (.string ⟨#[]⟩) = y3 at *
      generalize hy4 : World.setCell y3 ⟨w.heap.size, 3, none⟩ (.string ⟨#[]⟩) = y4 at *
      generalize hy5 : World.setCell y4 ⟨w.heap.size, 4, none⟩ (.string ⟨#[]⟩) = y5 at *
      generalize hy6 : World.setCell y5 ⟨w.heap.size, 5, none⟩ (.string ⟨#[]⟩) = y6 at *
      generalize hy7 : World.setCell y6 ⟨w.heap.size, 6, none⟩ (.bool false) = y7 at *
      replace BB := Lib.hid BB
      go_wp2_with (first | (go_at_call 25; (with_reducible refine (NU.out _).mono ?_); rintro e v ⟨rfl, rfl⟩))
      refine ret_seven1 rfl rfl BB.out rfl Tryz.underlying28 (by kernel_rfl) ?_
      exact ⟨by rw [HW.out]; rfl, W5.grown GGy W5.size (fun j e => by injection e with e; omega)⟩
    · have gm : decide (Ex.number (Ex.verb t).2.tail < 0) = false := decide_eq_false hn
      have HW : Hid (Ex.word a b t = (⟨a, b, (Ex.verb t).1, (Ex.verb t).2.tail, [], [], false⟩, 0)) := Lib.hid (by rw [HR.out, if_neg (fun e => k2 e.1), if_neg (fun e => hn e.2)])
      clear HR hn k2 NA
      generalize Ex.number (Ex.verb t).2.tail = m at *
      obtain ⟨⟨xy0, yy0⟩, ⟨xy1, yy1⟩, ⟨xy2, yy2⟩, ⟨xy3, yy3⟩, ⟨xy4, yy4⟩, ⟨xy5, yy5⟩, ⟨xy6, yy6⟩, BB⟩ := Ex.blk7 B5 (.int .i64 a) (.int .i64 b) (.string nm) (.string ar) (.string ⟨#[]⟩) (.string ⟨#[]⟩) (.bool false)
      have GGy := Ex.put7_gb (U5) (w.heap.size) (.int .i64 a) (.int .i64 b) (.string nm) (.string ar) (.string ⟨#[]⟩) (.string ⟨#[]⟩) (.bool false)
      unfold Ex.put7 at GGy BB
      generalize hy1 : World.setCell (U5) ⟨w.heap.size, 0, none⟩ (.int .i64 a) = y1 at *
      generalize hy2 : World.setCell y1 ⟨w.heap.size, 1, none⟩ (.int .i64 b) = y2 at *
      generalize hy3 : World.setCell y2 ⟨w.heap.size, 2, none⟩ (.string nm) = y3 at *
      generalize hy4 : World.setCell y3 ⟨w.heap.size, 3, none⟩ (.string ar) = y4 at *
      generalize hy5 : World.setCell y4 ⟨w.heap.size, 4, none⟩ (.string ⟨#[]⟩) = y5 at *
      generalize hy6 : World.setCell y5 ⟨w.heap.size, 5, none⟩ (.string ⟨#[]⟩) = y6 at *
      generalize hy7 : World.setCell y6 ⟨w.heap.size, 6, none⟩ (.bool false) = y7 at *
      replace BB := Lib.hid BB
      go_wp2_with (first | (go_at_call 25; (with_reducible refine (NU.out _).mono ?_); rintro e v ⟨rfl, rfl⟩))
      refine ret_seven1 rfl rfl BB.out rfl Tryz.underlying28 (by kernel_rfl) ?_
      exact ⟨by rw [HW.out, ← HNM.out, ← HNA.out]; rfl, W5.grown GGy W5.size (fun j e => by injection e with e; omega)⟩
end Go.Proofs.YtcddbdefdenecaaGreatDoor
