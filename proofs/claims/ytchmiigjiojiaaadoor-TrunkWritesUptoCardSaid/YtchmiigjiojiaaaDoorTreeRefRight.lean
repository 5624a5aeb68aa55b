/-
  May a tree be: the document's answer.
-/
import Derived.Test.YtchmiigjiojiaaaDoorHeldNexts
namespace Go.Proofs.YtchmiigjiojiaaaDoor
open Go.RowKit
open Tre
namespace Tre
/-- How many of the first m nodes have a node as the one ahead of them. -/
def cnt (l : List Nd) (m k : Nat) : Nat := (l.take m).countP fun x => x.up == (k : Int)
theorem cnt_succ {l : List Nd} {m : Nat} {x : Nd} (h : l[m]? = some x) (k : Nat) : cnt l (m + 1) k = cnt l m k + if x.up = (k : Int) then 1 else 0 := by
  obtain ⟨hm, rfl⟩ := List.getElem?_eq_some_iff.1 h
  unfold cnt
  rw [List.take_succ_eq_append_getElem hm, List.countP_append]
  simp [List.countP_cons]
theorem cnt_le (l : List Nd) (m k : Nat) : cnt l m k ≤ m := Nat.le_trans List.countP_le_length (by simp; omega)
theorem cnt_up {l : List Nd} {m : Nat} {x : Nd} (h : l[m]? = some x) {u : Nat} (hu : x.up = u) (j : Nat) : (if j = u then Value.int .i64 ((cnt l m u : Nat) + 1) else Value.int .i64 (cnt l m j : Nat)) = Value.int .i64 (cnt l (m + 1) j : Nat) := by
  rw [cnt_succ h, hu]
  by_cases e : j = u
  · subst e; simp
  · rw [if_neg e, if_neg (by omega), Nat.add_zero]
theorem cnt_root {l : List Nd} {x : Nd} (h : l[0]? = some x) (hx : UpOk 0 x) (j : Nat) : cnt l 1 j = 0 := by
  rw [cnt_succ h, hx.zero.1, if_neg (by omega)]; rfl
theorem cnt_kid (l : List Nd) {m : Nat} (h : l.length ≤ m) (k : Nat) : kid l k = decide (0 < cnt l m k) := by
  unfold cnt kid
  rw [List.take_of_length_le h, Bool.eq_iff_iff, List.any_eq_true, decide_eq_true_iff, List.countP_pos_iff]
theorem root_no {x : Nd} (h : ¬ UpOk 0 x) : ¬ x.up = -1 ∨ (x.up = -1 ∧ ¬ x.before = 0) ∨ (x.up = -1 ∧ x.before = 0 ∧ ¬ x.after = 0) ∨ (x.up = -1 ∧ x.before = 0 ∧ x.after = 0 ∧ ¬ x.at_ = 0) ∨
    (x.up = -1 ∧ x.before = 0 ∧ x.after = 0 ∧ x.at_ = 0 ∧ ¬ x.old.toList = []) ∨ (x.up = -1 ∧ x.before = 0 ∧ x.after = 0 ∧ x.at_ = 0 ∧ x.old.toList = [] ∧ ¬ x.new.toList = []) := by
  by_cases a0 : x.up = -1
  · by_cases a1 : x.before = 0
    · by_cases a2 : x.after = 0
      · by_cases a3 : x.at_ = 0
        · by_cases a4 : x.old.toList = []
          · by_cases a5 : x.new.toList = []
            · exact absurd (upOk_zero.2 ⟨a0, a1, a2, a3, tl_nil a4, tl_nil a5⟩) h
            · simp [a0, a1, a2, a3, a4, a5]
          · simp [a0, a1, a2, a3, a4]
        · simp [a0, a1, a2, a3]
      · simp [a0, a1, a2]
    · simp [a0, a1]
  · simp [a0]
theorem node_no {k : Nat} {x : Nd} (hk : 0 < k) (h : ¬ UpOk k x) : x.up < 0 ∨ (¬ x.up < 0 ∧ (k : Int) ≤ x.up) ∨ (¬ x.up < 0 ∧ ¬ (k : Int) ≤ x.up ∧ x.before < 0) ∨ (¬ x.up < 0 ∧ ¬ (k : Int) ≤ x.up ∧ ¬ x.before < 0 ∧ x.after < 0) := by
  rw [upOk_pos hk] at h
  omega
theorem Ups.zero (l : List Nd) : Ups l 0 := fun _ h => absurd h (by omega)
theorem Nexts.zero (l : List Nd) : Nexts l 0 := fun _ h => absurd h (by omega)
end Tre
set_option maxHeartbeats 4000000 in
set_option maxRecDepth 100000 in
theorem ref11_Right_go {A : Option Addr} {c : Nat} {l : List Nd} {cur : Int} {w : World} (hx : Nds w A l) (hm : l.length ≤ 1024) (h1 : 1 ≤ l.length) (h3 : 0 ≤ cur ∧ cur < l.length) :
    Calls Tryd.prog 22 #[.agg #[.slice A l.length c, .int .i64 cur]] w fun e w' => e = .returned (.bool (decide (Right l cur))) ∧ Below w.heap.size w w' := by
  have D1 : Hid (Ups l l.length → Nexts l l.length → decide (Right l cur) = true) := fun c d => decide_eq_true ⟨h1, hm, h3.1, h3.2, c, d⟩
  have D4 : Hid (¬ Ups l l.length → decide (Right l cur) = false) := fun h => decide_eq_false fun r => h r.ups
  have D5 : Hid (¬ Nexts l l.length → decide (Right l cur) = false) := fun h => decide_eq_false fun r => h r.nexts
  have hmk := run_make_row' (P := Tryd.prog) 53 3 (.int .i64 0) 8 Tryd.underlying53 info_int rfl .i64 .i64 l.length (by omega) (by omega)
  have HAS0 := Lib.hid (fun u => ref11_has A l.length c cur cur u)
  rw [decide_eq_true h3] at HAS0
  have HAS := Lib.hid (fun k u => ref11_has A l.length c cur k u)
  have HB : Hid (∀ u, Below (w.alloc (.cells #[.slice A l.length c, .int .i64 cur] 24)).heap.size (w.alloc (.cells #[.slice A l.length c, .int .i64 cur] 24)) u → u.cell? ⟨w.heap.size, 0, none⟩ = some (.slice A l.length c) ∧ u.cell? ⟨w.heap.size, 1, none⟩ = some (.int .i64 cur) ∧ Nds u A l ∧ Below w.heap.size w u) := fun u hu => by
    have B0 := Blk.new w 24 #[.slice A l.length c, .int .i64 cur]
    have B1 := ba (Below.refl w.heap.size w) (.cells #[.slice A l.length c, .int .i64 cur] 24)
    have B2 := B1.trans (hu.mono B1.size)
    exact ⟨(B0.below hu B0.lt).cell 0, (B0.below hu B0.lt).cell 1, hx.below B2, B2⟩
  obtain ⟨b, off, rfl, hbw, CC⟩ := hx.addr (by omega)
  have CE := Lib.hid CC
  have LX := Lib.hid (fun k (h : k < l.length) => (⟨_, List.getElem?_eq_getElem h⟩ : ∃ x, l[k]? = some x))
  have U0 := Lib.hid (Ups.zero l)
  have N0 := Lib.hid (Nexts.zero l)
  have g1 : ¬ l.length < 1 := by omega
  have g2 : ¬ 1024 < l.length := by omega
  have R0 := fun u : World => (World.rowIs_made u (.int .i64 0) l.length 3).congr (g := fun j => .int .i64 (cnt l 0 j : Nat)) (fun i _ => rfl)
  clear hx CC
  go_enter Tryd.func22, Tryd.ntmps22
  go_wp2_with (go_at_call 46; refine (HAS0.out _).mono ?_; rintro e u1 ⟨rfl, hb1⟩; obtain ⟨z1, z2, _, z4⟩ := HB.out _ hb1; have R1 := R0 u1; have S1 := ba hb1 (.cells (madeCells #[.int .i64 0] l.length) 3))
  have hg : (w.alloc (.cells #[.slice (some ⟨b, off, none⟩) l.length c, .int .i64 cur] 24)).heap.size ≤ u1.heap.size := hb1.size
  generalize u1.alloc (.cells (madeCells #[.int .i64 0] l.length) 3) = u2 at R1 S1 ⊢
  generalize u1.heap.size = g at hg R1 ⊢
  clear R0 z1 z2 z4 hb1
  go_loopw [4] (fun iv wr => ∃ (k : Nat), iv = .int .i64 k ∧ k ≤ l.length ∧ Hid (Ups l k) ∧ wr.rowIs g 3 l.length (fun j => .int .i64 (cnt l k j : Nat)) ∧ Below (w.alloc (.cells #[.slice (some ⟨b, off, none⟩) l.length c, .int .i64 cur] 24)).heap.size (w.alloc (.cells #[.slice (some ⟨b, off, none⟩) l.length c, .int .i64 cur] 24)) wr) (fun iv _ => l.length - (intOf iv).toNat)
  case atStart => exact ⟨0, rfl, Nat.zero_le _, U0, R1, S1⟩
  case round =>
    clear R1 S1
    obtain ⟨k, rfl, hk, HU, hrw, hS⟩ := hrel
    obtain ⟨t0, t1, _, hW⟩ := HB.out _ hS
    by_cases hlt : k < l.length
    · obtain ⟨y, hy⟩ := LX.out k hlt
      obtain ⟨c0, c1, c2, c3, c4, c5, c6⟩ := CE.out wr _ hW (Nat.le_refl _) _ _ hy
      have b2 : b < wr.heap.size := Nat.lt_of_lt_of_le hbw hW.size
      have d1 : decide ((k : Int) < (l.length : Int)) = true := by simp; omega
      have S2 := hS.alloc hS.size (.cells y.vals 40)
      have q1 := hrw.alloc (.cells y.vals 40)
      unfold Nd.vals at q1 S2
      by_cases hu : UpOk k y
      · have HU2 : Hid (Ups l (k + 1)) := HU.out.succ hy hu
        by_cases hk0 : k = 0
        · subst hk0
          have hc1 := Lib.hid (cnt_root hy hu)
          obtain ⟨e0, e2, e3, e4, e5, e6⟩ := hu.zero
          rw [e0] at c0 q1 S2; rw [e2] at c2 q1 S2; rw [e3] at c3 q1 S2; rw [e4] at c4 q1 S2; rw [e5] at c5 q1 S2; rw [e6] at c6 q1 S2
          have q2 := Lib.hid (q1.congr (g := fun j => .int .i64 (cnt l (0 + 1) j : Nat)) (fun i _ => by rw [hc1.out]; rfl))
          rw [Nat.zero_mul, Nat.add_zero] at c0 c1 c2 c3 c4 c5 c6
          clear hy hu HU e0 e2 e3 e4 e5 e6 q1
          go_wp2
          go_roundw
          case rel => exact ⟨0 + 1, rfl, by omega, HU2, q2.out, S2⟩
          case measure => simp [intOf]; omega
        · obtain ⟨u, hu1, hu2⟩ : ∃ u : Nat, y.up = u ∧ u < k := by
            have := hu.pos (by omega)
            exact ⟨y.up.toNat, by omega, by omega⟩
          obtain ⟨_, _, v2, v3⟩ := hu.pos (by omega)
          rw [hu1] at c0 q1 S2
          have e1 : ((k : Int) == 0) = false := by rw [beq_eq_false_iff_ne]; omega
          have q2 := q1.cell (i := u) (by omega)
          have q3 := q1.frozen u
          have hcl := cnt_le l k u
          have q4 := Lib.hid ((q1.set u (.int .i64 ((cnt l k u : Nat) + 1))).congr (fun j _ => cnt_up hy hu1 j))
          clear hy hu HU hu1 q1
          generalize cnt l k u = C at *
          go_wp2
          go_roundw
          case rel => exact ⟨k + 1, by go_num, by omega, HU2, q4.out, S2.setCell (p := ⟨g, u, none⟩) hg _⟩
          case measure => simp [intOf]; omega
      · have H := Lib.hid (D4.out (Ups.not hlt hy hu))
        by_cases hk0 : k = 0
        · subst hk0
          rw [Nat.zero_mul, Nat.add_zero] at c0 c1 c2 c3 c4 c5 c6
          have HN := root_no hu
          clear hy HU hu
          rcases HN with n0 | ⟨n0, n1⟩ | ⟨n0, n1, n2⟩ | ⟨n0, n1, n2, n3⟩ | ⟨n0, n1, n2, n3, n4⟩ | ⟨n0, n1, n2, n3, n4, n5⟩
          all_goals
            go_wp2
            go_ret
            exact ⟨by rw [H.out]; rfl, ba hW _⟩
        · have HN := node_no (by omega) hu
          clear hy HU hu
          have e1 : ((k : Int) == 0) = false := by rw [beq_eq_false_iff_ne]; omega
          have e2 : decide ((0 : Int) < (k : Int)) = true := decide_eq_true (by omega)
          rcases HN with n0 | ⟨n0, n1⟩ | ⟨n0, n1, n2⟩ | ⟨n0, n1, n2, n3⟩
          all_goals
            go_wp2
            go_ret
            exact ⟨by rw [H.out]; rfl, ba hW _⟩
    · obtain rfl : k = l.length := by omega
      have d1 : decide ((l.length : Int) < (l.length : Int)) = false := by simp
      go_wp2
      clear d1 t0 t1
      have K2 := Lib.hid (fun j => cnt_kid l (Nat.le_refl l.length) j)
      go_loopw [6] (fun iv wr => ∃ (k : Nat), iv = .int .i64 k ∧ k ≤ l.length ∧ Hid (Nexts l k) ∧ wr.rowIs g 3 l.length (fun j => .int .i64 (cnt l l.length j : Nat)) ∧ Below (w.alloc (.cells #[.slice (some ⟨b, off, none⟩) l.length c, .int .i64 cur] 24)).heap.size (w.alloc (.cells #[.slice (some ⟨b, off, none⟩) l.length c, .int .i64 cur] 24)) wr) (fun iv _ => l.length - (intOf iv).toNat)
      case atStart => exact ⟨0, rfl, Nat.zero_le _, N0, hrw, hS⟩
      case round =>
        have HUA := HU
        clear hS hrw hW HU
        obtain ⟨k, rfl, hk, HN, hrw, hS⟩ := hrel
        obtain ⟨t0, t1, _, hW⟩ := HB.out _ hS
        by_cases hlt : k < l.length
        · obtain ⟨y, hy⟩ := LX.out k hlt
          obtain ⟨c0, c1, c2, c3, c4, c5, c6⟩ := CE.out wr _ hW (Nat.le_refl _) _ _ hy
          have b2 : b < wr.heap.size := Nat.lt_of_lt_of_le hbw hW.size
          have d1 : decide ((k : Int) < (l.length : Int)) = true := by simp; omega
          have q2 := hrw.cell hlt
          have NY := Lib.hid (Nexts.not hlt hy)
          have NO := Lib.hid (Nexts.succ HN.out hy)
          have ND : Hid (NextOk l k y = if kid l k = true then 0 ≤ y.next ∧ y.next < l.length ∧ (l[y.next.toNat]?.map (·.up)) = some (k : Int) else y.next = -1) := rfl
          have HAS := Lib.hid (fun u => ref11_has (some ⟨b, off, none⟩) l.length c cur y.next u)
          have hcl := cnt_le l l.length k
          have hkc := K2.out k
          have DO : Hid (∀ u, Below wr.heap.size wr u → u.rowIs g 3 l.length (fun j => .int .i64 (cnt l l.length j : Nat)) ∧ Below (w.alloc (.cells #[.slice (some ⟨b, off, none⟩) l.length c, .int .i64 cur] 24)).heap.size (w.alloc (.cells #[.slice (some ⟨b, off, none⟩) l.length c, .int .i64 cur] 24)) u) := fun u hu => ⟨hrw.of_block (hu.block _ hrw.lt), hS.trans (hu.mono hS.size)⟩
          clear hy HN
          generalize hC : cnt l l.length k = C at q2 hcl hkc
          cases hkd : kid l k with
          | true =>
            rw [hkd, if_pos rfl] at ND
            have hC1 : 0 < C := by rw [hkd] at hkc; exact of_decide_eq_true hkc.symm
            have e1 : ((C : Int) == 0) = false := by rw [beq_eq_false_iff_ne]; omega
            have e2 : decide ((0 : Int) < (C : Int)) = true := decide_eq_true (by omega)
            clear hkc hC
            by_cases hn : 0 ≤ y.next ∧ y.next < l.length
            · rw [decide_eq_true hn] at HAS
              obtain ⟨m, hm1⟩ : ∃ m : Nat, y.next = m := ⟨y.next.toNat, by omega⟩
              obtain ⟨z, hz⟩ := LX.out m (by omega)
              rw [hm1] at c1 HAS ND
              rw [Int.toNat_natCast, hz] at ND
              have hml : m < l.length := by omega
              have CZ : Hid (∀ u, Below w.heap.size w u → u.cell? ⟨b, off + m * 7, none⟩ = some (.int .i64 z.up)) := fun u hu => (CE.out u _ hu (Nat.le_refl _) _ _ hz).1
              clear hz hn hm1
              by_cases hu : z.up = k
              · have HN2 : Hid (Nexts l (k + 1)) := NO.out (by rw [ND.out]; exact ⟨by omega, by omega, by simp [hu]⟩)
                clear NY NO ND
                have e3 : (z.up == (k : Int)) = true := by simpa using hu
                clear hu
                go_wp2_with (go_at_call 46; refine (HAS.out _).mono ?_; rintro e u1 ⟨rfl, hb1⟩; obtain ⟨w1, w2⟩ := DO.out _ hb1; obtain ⟨w3, w4, _, w6⟩ := HB.out _ w2; have w5 := CZ.out _ w6)
                go_roundw
                case rel => exact ⟨k + 1, by go_num, by omega, HN2, w1, w2⟩
                case measure => simp [intOf]; omega
              · have H := Lib.hid (D5.out (NY.out (by rw [ND.out]; rintro ⟨_, _, h⟩; simp at h; exact hu h)))
                clear NY NO ND
                have e3 : (z.up == (k : Int)) = false := by simpa using hu
                clear hu
                go_wp2_with (go_at_call 46; refine (HAS.out _).mono ?_; rintro e u1 ⟨rfl, hb1⟩; obtain ⟨w1, w2⟩ := DO.out _ hb1; obtain ⟨w3, w4, _, w6⟩ := HB.out _ w2; have w5 := CZ.out _ w6)
                go_ret
                exact ⟨by rw [H.out]; rfl, w6⟩
            · rw [decide_eq_false hn] at HAS
              have H := Lib.hid (D5.out (NY.out (by rw [ND.out]; rintro ⟨h1, h2, _⟩; exact hn ⟨h1, h2⟩)))
              clear NY NO ND hn
              go_wp2_with (go_at_call 46; refine (HAS.out _).mono ?_; rintro e u1 ⟨rfl, hb1⟩; obtain ⟨w1, w2⟩ := DO.out _ hb1; obtain ⟨w3, w4, _, w6⟩ := HB.out _ w2)
              go_ret
              exact ⟨by rw [H.out]; rfl, w6⟩
          | false =>
            rw [hkd, if_neg (by simp)] at ND
            have hC1 : C = 0 := by rw [hkd] at hkc; have := of_decide_eq_false hkc.symm; omega
            subst hC1
            clear hkc hC
            by_cases hn : y.next = -1
            · have HN2 : Hid (Nexts l (k + 1)) := NO.out (by rw [ND.out]; exact hn)
              rw [hn] at c1
              clear NY NO ND hn
              go_wp2_with fail
              go_roundw
              case rel => exact ⟨k + 1, by go_num, by omega, HN2, hrw, hS⟩
              case measure => simp [intOf]; omega
            · have H := Lib.hid (D5.out (NY.out (by rw [ND.out]; exact hn)))
              clear NY NO ND
              go_wp2_with fail
              go_ret
              exact ⟨by rw [H.out]; rfl, hW⟩
        · have d1 : decide ((k : Int) < (l.length : Int)) = false := by simp; omega
          have H := Lib.hid (D1.out HUA.out ((show k = l.length by omega) ▸ HN.out))
          go_wp2
          go_ret
          exact ⟨by rw [H.out]; rfl, hW⟩
theorem ref11_Right {A : Option Addr} {c : Nat} {l : List Nd} {cur : Int} {w : World} (hx : Nds w A l) :
    Calls Tryd.prog 22 #[.agg #[.slice A l.length c, .int .i64 cur]] w fun e w' => e = .returned (.bool (decide (Right l cur))) ∧ Below w.heap.size w w' := by
  by_cases h1 : 1 ≤ l.length
  · by_cases h2 : l.length ≤ 1024
    · by_cases h3 : 0 ≤ cur ∧ cur < l.length
      · exact ref11_Right_go hx h2 h1 h3
      · have H : Hid (decide (Right l cur) = false) := decide_eq_false fun r => h3 ⟨r.low, r.high⟩
        have HAS0 := Lib.hid (fun u => ref11_has A l.length c cur cur u)
        rw [decide_eq_false h3] at HAS0
        have h0 := ba (Below.refl w.heap.size w) (.cells #[.slice A l.length c, .int .i64 cur] 24)
        have g1 : ¬ l.length < 1 := by omega
        have g2 : ¬ 1024 < l.length := by omega
        clear hx h3
        go_enter Tryd.func22, Tryd.ntmps22
        go_wp2_with (go_at_call 46; refine (HAS0.out _).mono ?_; rintro e u1 ⟨rfl, hb1⟩)
        go_ret
        exact ⟨by rw [H.out]; rfl, h0.trans (hb1.mono h0.size)⟩
    · have H : Hid (decide (Right l cur) = false) := decide_eq_false fun r => h2 r.few
      have h0 := ba (Below.refl w.heap.size w) (.cells #[.slice A l.length c, .int .i64 cur] 24)
      have g1 : ¬ l.length < 1 := by omega
      have g2 : 1024 < l.length := by omega
      clear hx
      go_enter Tryd.func22, Tryd.ntmps22
      go_wp2_with fail
      go_ret
      exact ⟨by rw [H.out]; rfl, h0⟩
  · have H : Hid (decide (Right l cur) = false) := decide_eq_false fun r => h1 r.one
    have h0 := ba (Below.refl w.heap.size w) (.cells #[.slice A l.length c, .int .i64 cur] 24)
    have g1 : l.length < 1 := by omega
    clear hx
    go_enter Tryd.func22, Tryd.ntmps22
    go_wp2_with fail
    go_ret
    exact ⟨by rw [H.out]; rfl, h0⟩
end Go.Proofs.YtchmiigjiojiaaaDoor
