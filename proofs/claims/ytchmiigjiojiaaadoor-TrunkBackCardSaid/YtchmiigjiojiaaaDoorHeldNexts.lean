/-
  May the Nexts of a tree that is held be.
-/
import Derived.Test.YtchmiigjiojiaaaDoorHeld
import Derived.Deep.OwnRows
namespace Go.Proofs.YtchmiigjiojiaaaDoor
open Go.RowKit
open Tre
namespace Tre
/-- Is a node the one ahead of any of the first m? -/
def kidIn (l : List Nd) (m k : Nat) : Bool := kid (l.take m) k
theorem kidIn_all (l : List Nd) {m : Nat} (h : l.length ≤ m) (k : Nat) : kidIn l m k = kid l k := by unfold kidIn; rw [List.take_of_length_le h]
theorem kidIn_succ {l : List Nd} {m : Nat} {x : Nd} (h : l[m]? = some x) (k : Nat) : kidIn l (m + 1) k = (kidIn l m k || x.up == (k : Int)) := by
  obtain ⟨hm, rfl⟩ := List.getElem?_eq_some_iff.1 h
  unfold kidIn kid
  rw [List.take_succ_eq_append_getElem hm, List.any_append]
  simp
theorem kidIn_up {l : List Nd} {m : Nat} {x : Nd} (h : l[m]? = some x) {u : Nat} (hu : x.up = u) (j : Nat) : (if j = u then Value.bool true else Value.bool (kidIn l m j)) = Value.bool (kidIn l (m + 1) j) := by
  rw [kidIn_succ h, hu]
  by_cases e : j = u
  · subst e; simp
  · have : ((u : Int) == (j : Int)) = false := by rw [beq_eq_false_iff_ne]; omega
    rw [if_neg e, this, Bool.or_false]
theorem kidIn_root {l : List Nd} {x : Nd} (h : l[0]? = some x) (hx : UpOk 0 x) (j : Nat) : kidIn l 1 j = false := by
  rw [kidIn_succ h, hx.zero.1]
  have e : kidIn l 0 j = false := rfl
  rw [e, Bool.false_or, beq_eq_false_iff_ne]; omega
end Tre
theorem info_bool : (Tryd.prog.info? 4).map (fun i => (i.zero, i.size, i.bytes)) = some (some (.bool false), 1, 1) := by kernel_rfl
set_option maxHeartbeats 2000000 in
set_option maxRecDepth 100000 in
theorem held_nextsRight {A : Option Addr} {c : Nat} {l : List Nd} {cur : Int} {w : World} (hx : Nds w A l) (h1 : 1 ≤ l.length) (hc : l.length ≤ c) (hm : l.length ≤ 2000) (hU : Ups l l.length) :
    Calls Tryd.prog 35 #[.agg #[.slice A l.length c, .int .i64 cur]] w fun e w' => e = .returned (.bool (decide (Nexts l l.length))) ∧ Below w.heap.size w w' := by
  obtain ⟨x, hx0⟩ : ∃ x, l[0]? = some x := ⟨_, List.getElem?_eq_getElem (by omega)⟩
  obtain ⟨b, off, rfl, hbw, CC⟩ := hx.addr (by omega)
  have CE := Lib.hid CC
  have LX := Lib.hid (fun k (h : k < l.length) => (⟨_, List.getElem?_eq_getElem h⟩ : ∃ x, l[k]? = some x))
  have hmk := run_make_row' (P := Tryd.prog) 81 4 (.bool false) 1 Tryd.underlying81 info_bool rfl .i64 .i64 l.length (by omega) (by omega)
  have K1 := Lib.hid (kidIn_root hx0 (hU 0 (by omega) _ hx0))
  have HU := Lib.hid hU
  clear CC hx hU
  have N0 : Hid (Nexts l 0) := fun j hj => absurd hj (by omega)
  have r0 := World.rowIs_made (w.alloc (Obj.cells #[Value.slice (some { block := b, off := off }) l.length c, Value.int IntKind.i64 cur] 64)) (.bool false) l.length 4
  rw [World.size_alloc] at r0
  have r1 := r0.congr (g := fun j => .bool (kidIn l 1 j)) (fun i _ => by rw [K1.out])
  have w0 := ba (ba (Below.refl w.heap.size w) (Obj.cells #[Value.slice (some { block := b, off := off }) l.length c, Value.int IntKind.i64 cur] 64)) (.cells (madeCells #[.bool false] l.length) 4)
  have hb0 := (Blk.new w 64 #[.slice (some ⟨b, off, none⟩) l.length c, .int .i64 cur]).alloc (.cells (madeCells #[.bool false] l.length) 4)
  clear r0
  by_cases hc1 : c = 1
  · subst hc1
    have hl1 : Hid (l.length = 1) := by show _ = _; omega
    clear hc
    go_enter Tryd.func35, Tryd.ntmps35
    go_wp2_with fail
    go_loopw [19] (fun iv wr => iv = .int .i64 0 ∧ wr.rowIs (w.heap.size + 1) 4 l.length (fun j => .bool (kidIn l 1 j)) ∧ Blk wr w.heap.size 64 #[.slice (some ⟨b, off, none⟩) l.length 1, .int .i64 cur] ∧ Below w.heap.size w wr) (fun iv _ => l.length - (intOf iv).toNat)
    case atStart => exact ⟨rfl, r1, hb0, w0⟩
    case round =>
      obtain ⟨rfl, hrw, hB2, hW2⟩ := hrel
      have q5 : wr.cell? ⟨w.heap.size, 0, none⟩ = some (.slice (some ⟨b, off, none⟩) l.length 1) := hB2.cell 0
      have hrw2 := hrw.congr (g := fun j => .bool (kid l j)) (fun i _ => by rw [kidIn_all l (by have := hl1.out; omega)])
      have d1 : decide ((0 : Int) < ((l.length - 1 : Nat) : Int)) = false := by have := hl1.out; simp; omega
      have d2 : ¬ 0 < l.length - 1 := by have := hl1.out; omega
      clear r1 w0 hrw hb0
      go_wp2
      clear d1 d2 q5
      go_loopw [32] (fun iv wr => ∃ (k : Nat), iv = .int .i64 k ∧ k ≤ l.length ∧ Hid (Nexts l k) ∧ wr.rowIs (w.heap.size + 1) 4 l.length (fun j => .bool (kid l j)) ∧ Blk wr w.heap.size 64 #[.slice (some ⟨b, off, none⟩) l.length 1, .int .i64 cur] ∧ Below w.heap.size w wr) (fun iv _ => l.length - (intOf iv).toNat)
      case atStart => exact ⟨0, rfl, by omega, N0, hrw2, hB2, hW2⟩
      case round =>
        obtain ⟨k, rfl, hk, HN, hrw, hB, hW⟩ := hrel
        clear hW2 hrw2 hB2
        by_cases hlt : k < l.length
        · obtain ⟨y, hy⟩ := LX.out k hlt
          obtain ⟨c0, c1, c2, c3, c4, c5, c6⟩ := CE.out wr _ hW (Nat.le_refl _) _ _ hy
          have b2 : b < wr.heap.size := Nat.lt_of_lt_of_le hbw hW.size
          have d1 : decide ((k : Int) < (l.length : Int)) = true := by simp; omega
          have q1 := hrw.alloc (.cells y.vals 40)
          have q2 : (wr.alloc (.cells y.vals 40)).cell? ⟨w.heap.size + 1, k, none⟩ = some (.bool (kid l k)) := q1.cell hlt
          have q5 : (wr.alloc (.cells y.vals 40)).cell? ⟨w.heap.size, 0, none⟩ = some (.slice (some ⟨b, off, none⟩) l.length 1) := (hB.alloc _).cell 0
          have q6 : (wr.alloc (.cells y.vals 40)).cell? ⟨w.heap.size, 1, none⟩ = some (.int .i64 cur) := (hB.alloc _).cell 1
          have NY := Lib.hid (Nexts.not hlt hy)
          have NO := Lib.hid (Nexts.succ HN.out hy)
          have ND : Hid (NextOk l k y = if kid l k = true then 0 ≤ y.next ∧ y.next < l.length ∧ (l[y.next.toNat]?.map (·.up)) = some (k : Int) else y.next = -1) := rfl
          have HAS := Lib.hid (fun u => held_has (some ⟨b, off, none⟩) l.length 1 cur y.next u)
          unfold Nd.vals at q1 q2 q5 q6
          have DO : Hid (∀ u, Below (wr.alloc (.cells #[.int .i64 y.up, .int .i64 y.next, .int .i64 y.before, .int .i64 y.after, .int .i64 y.at_, .string y.old, .string y.new] 40)).heap.size (wr.alloc (.cells #[.int .i64 y.up, .int .i64 y.next, .int .i64 y.before, .int .i64 y.after, .int .i64 y.at_, .string y.old, .string y.new] 40)) u → Below w.heap.size w u ∧ u.rowIs (w.heap.size + 1) 4 l.length (fun j => .bool (kid l j)) ∧ Blk u w.heap.size 64 #[.slice (some ⟨b, off, none⟩) l.length 1, .int .i64 cur] ∧ u.cell? ⟨w.heap.size, 0, none⟩ = some (.slice (some ⟨b, off, none⟩) l.length 1) ∧ u.cell? ⟨wr.heap.size, 1, none⟩ = some (.int .i64 y.next) ∧ b < u.heap.size) := fun u hu => by
            have B0 := Blk.new wr 40 #[.int .i64 y.up, .int .i64 y.next, .int .i64 y.before, .int .i64 y.after, .int .i64 y.at_, .string y.old, .string y.new]
            exact ⟨(ba hW _).trans (hu.mono (ba hW _).size), q1.of_block (hu.block _ q1.lt), (hB.alloc _).below hu (hB.alloc _).lt, ((hB.alloc _).below hu (hB.alloc _).lt).cell 0, (B0.below hu B0.lt).cell 1, Nat.lt_of_lt_of_le (Nat.lt_trans b2 B0.lt) hu.size⟩
          clear hy HN hrw
          cases hkd : kid l k with
          | true =>
            rw [hkd, if_pos rfl] at ND
            rw [hkd] at q2
            by_cases hn : 0 ≤ y.next ∧ y.next < l.length
            · rw [decide_eq_true hn] at HAS
              obtain ⟨m, hm1⟩ : ∃ m : Nat, y.next = m := ⟨y.next.toNat, by omega⟩
              obtain ⟨z, hz⟩ := LX.out m (by omega)
              rw [hm1] at c1 q1 q2 q5 q6 DO HAS ND
              rw [Int.toNat_natCast, hz] at ND
              have hml : m < l.length := by omega
              have CZ : Hid (∀ u, Below w.heap.size w u → u.cell? ⟨b, off + m * 7, none⟩ = some (.int .i64 z.up)) := fun u hu => (CE.out u _ hu (Nat.le_refl _) _ _ hz).1
              clear hz hn hm1
              by_cases hu : z.up = k
              · have HN2 : Hid (Nexts l (k + 1)) := NO.out (by rw [ND.out]; exact ⟨by omega, by omega, by simp [hu]⟩)
                clear NY NO ND
                have e1 : decide (z.up = (k : Int)) = true := decide_eq_true hu
                go_wp2_with (go_at_call 33; refine (HAS.out _).mono ?_; rintro e u1 ⟨rfl, hb1⟩; obtain ⟨w1, w2, w6, w7, w3, w4⟩ := DO.out _ hb1; have w5 := CZ.out _ w1)
                go_roundw
                case rel => exact ⟨k + 1, by go_num, by omega, HN2, w2, w6, w1⟩
                case measure => simp [intOf]; omega
              · have H : Hid (decide (Nexts l l.length) = false) := decide_eq_false (NY.out (by rw [ND.out]; rintro ⟨_, _, h⟩; simp at h; exact hu h))
                clear NY NO ND
                have e1 : (z.up == (k : Int)) = false := by simpa using hu
                go_wp2_with (go_at_call 33; refine (HAS.out _).mono ?_; rintro e u1 ⟨rfl, hb1⟩; obtain ⟨w1, w2, w6, w7, w3, w4⟩ := DO.out _ hb1; have w5 := CZ.out _ w1)
                go_ret
                exact ⟨by rw [H.out]; rfl, w1⟩
            · rw [decide_eq_false hn] at HAS
              have H : Hid (decide (Nexts l l.length) = false) := decide_eq_false (NY.out (by rw [ND.out]; rintro ⟨h1, h2, _⟩; exact hn ⟨h1, h2⟩))
              clear NY NO ND hn
              go_wp2_with (go_at_call 33; refine (HAS.out _).mono ?_; rintro e u1 ⟨rfl, hb1⟩; obtain ⟨w1, w2, w6, w7, w3, w4⟩ := DO.out _ hb1)
              go_ret
              exact ⟨by rw [H.out]; rfl, w1⟩
          | false =>
            rw [hkd, if_neg (by simp)] at ND
            rw [hkd] at q2
            by_cases hn : y.next = -1
            · have HN2 : Hid (Nexts l (k + 1)) := NO.out (by rw [ND.out]; exact hn)
              clear NY NO ND
              rw [hn] at c1 q1 q2 q5 q6
              clear DO hn
              go_wp2_with fail
              go_roundw
              case rel => exact ⟨k + 1, by go_num, by omega, HN2, q1, hB.alloc _, ba hW _⟩
              case measure => simp [intOf]; omega
            · have e2 : (y.next == -1) = false := by simpa using hn
              have H : Hid (decide (Nexts l l.length) = false) := decide_eq_false (NY.out (by rw [ND.out]; exact hn))
              clear NY NO ND
              go_wp2_with fail
              go_ret
              exact ⟨by rw [H.out]; rfl, ba hW _⟩
        · have d1 : decide ((k : Int) < (l.length : Int)) = false := by simp; omega
          have H : Hid (decide (Nexts l l.length) = true) := decide_eq_true (by rw [show l.length = k by omega]; exact HN.out)
          go_wp2
          go_ret
          exact ⟨by rw [H.out]; rfl, hW⟩
  · go_enter Tryd.func35, Tryd.ntmps35
    go_wp2_with fail
    go_loopw [19] (fun iv wr => ∃ (k : Nat), iv = .int .i64 k ∧ k + 1 ≤ l.length ∧ wr.rowIs (w.heap.size + 1) 4 l.length (fun j => .bool (kidIn l (k + 1) j)) ∧ Blk wr w.heap.size 64 #[.slice (some ⟨b, off, none⟩) l.length c, .int .i64 cur] ∧ Below w.heap.size w wr) (fun iv _ => l.length - (intOf iv).toNat)
    case atStart => exact ⟨0, rfl, by omega, r1, hb0, w0⟩
    case round =>
      obtain ⟨k, rfl, hk, hrw, hB2, hW2⟩ := hrel
      clear r1 w0 hb0
      by_cases hlt : k + 1 < l.length
      · obtain ⟨y, hy⟩ := LX.out (k + 1) hlt
        obtain ⟨u, hu1, hu2⟩ := HU.out.up hy (by omega)
        obtain ⟨c0, c1, c2, c3, c4, c5, c6⟩ := CE.out wr _ hW2 (Nat.le_refl _) _ _ hy
        rw [show off + (k + 1) * 7 = off + 7 + k * 7 by omega] at c0 c1 c2 c3 c4 c5 c6
        have b2 : b < wr.heap.size := Nat.lt_of_lt_of_le hbw hW2.size
        have d1 : decide ((k : Int) < ((l.length - 1 : Nat) : Int)) = true := by simp; omega
        have hul : u < l.length := by omega
        have HC := Lib.hid (fun i (_ : i < l.length) => kidIn_up hy hu1 i)
        rw [hu1] at c0
        have q1 := hrw.alloc (.cells #[.int .i64 u, .int .i64 y.next, .int .i64 y.before, .int .i64 y.after, .int .i64 y.at_, .string y.old, .string y.new] 40)
        have q2 := q1.cell hul
        have q3 := q1.frozen u
        have q4 := Lib.hid ((q1.set u (.bool true)).congr HC.out)
        clear hy hu1 HC
        go_wp2
        go_roundw
        case rel => exact ⟨k + 1, by go_num, by omega, q4.out, (hB2.alloc _).far (p := ⟨w.heap.size + 1, u, none⟩) (Nat.ne_of_lt (Nat.lt_succ_self _)) _, (ba hW2 _).setCell (p := ⟨w.heap.size + 1, u, none⟩) (Nat.le_succ _) _⟩
        case measure => simp [intOf]; omega
      · have hrw2 := hrw.congr (g := fun j => .bool (kid l j)) (fun i _ => by rw [kidIn_all l (by omega)])
        have d1 : decide ((k : Int) < ((l.length - 1 : Nat) : Int)) = false := by simp; omega
        have hlt2 : ¬ k < l.length - 1 := by omega
        have q5 : wr.cell? ⟨w.heap.size, 0, none⟩ = some (.slice (some ⟨b, off, none⟩) l.length c) := hB2.cell 0
        clear hrw
        go_wp2
        clear d1 hlt hlt2 q5
        go_loopw [32] (fun iv wr => ∃ (k : Nat), iv = .int .i64 k ∧ k ≤ l.length ∧ Hid (Nexts l k) ∧ wr.rowIs (w.heap.size + 1) 4 l.length (fun j => .bool (kid l j)) ∧ Blk wr w.heap.size 64 #[.slice (some ⟨b, off, none⟩) l.length c, .int .i64 cur] ∧ Below w.heap.size w wr) (fun iv _ => l.length - (intOf iv).toNat)
        case atStart => exact ⟨0, rfl, by omega, N0, hrw2, hB2, hW2⟩
        case round =>
          obtain ⟨k, rfl, hk, HN, hrw, hB, hW⟩ := hrel
          clear hW2 hrw2 hB2
          by_cases hlt : k < l.length
          · obtain ⟨y, hy⟩ := LX.out k hlt
            obtain ⟨c0, c1, c2, c3, c4, c5, c6⟩ := CE.out wr _ hW (Nat.le_refl _) _ _ hy
            have b2 : b < wr.heap.size := Nat.lt_of_lt_of_le hbw hW.size
            have d1 : decide ((k : Int) < (l.length : Int)) = true := by simp; omega
            have q1 := hrw.alloc (.cells y.vals 40)
            have q2 : (wr.alloc (.cells y.vals 40)).cell? ⟨w.heap.size + 1, k, none⟩ = some (.bool (kid l k)) := q1.cell hlt
            have q5 : (wr.alloc (.cells y.vals 40)).cell? ⟨w.heap.size, 0, none⟩ = some (.slice (some ⟨b, off, none⟩) l.length c) := (hB.alloc _).cell 0
            have q6 : (wr.alloc (.cells y.vals 40)).cell? ⟨w.heap.size, 1, none⟩ = some (.int .i64 cur) := (hB.alloc _).cell 1
            have NY := Lib.hid (Nexts.not hlt hy)
            have NO := Lib.hid (Nexts.succ HN.out hy)
            have ND : Hid (NextOk l k y = if kid l k = true then 0 ≤ y.next ∧ y.next < l.length ∧ (l[y.next.toNat]?.map (·.up)) = some (k : Int) else y.next = -1) := rfl
            have HAS := Lib.hid (fun u => held_has (some ⟨b, off, none⟩) l.length c cur y.next u)
            unfold Nd.vals at q1 q2 q5 q6
            have DO : Hid (∀ u, Below (wr.alloc (.cells #[.int .i64 y.up, .int .i64 y.next, .int .i64 y.before, .int .i64 y.after, .int .i64 y.at_, .string y.old, .string y.new] 40)).heap.size (wr.alloc (.cells #[.int .i64 y.up, .int .i64 y.next, .int .i64 y.before, .int .i64 y.after, .int .i64 y.at_, .string y.old, .string y.new] 40)) u → Below w.heap.size w u ∧ u.rowIs (w.heap.size + 1) 4 l.length (fun j => .bool (kid l j)) ∧ Blk u w.heap.size 64 #[.slice (some ⟨b, off, none⟩) l.length c, .int .i64 cur] ∧ u.cell? ⟨w.heap.size, 0, none⟩ = some (.slice (some ⟨b, off, none⟩) l.length c) ∧ u.cell? ⟨wr.heap.size, 1, none⟩ = some (.int .i64 y.next) ∧ b < u.heap.size) := fun u hu => by
              have B0 := Blk.new wr 40 #[.int .i64 y.up, .int .i64 y.next, .int .i64 y.before, .int .i64 y.after, .int .i64 y.at_, .string y.old, .string y.new]
              exact ⟨(ba hW _).trans (hu.mono (ba hW _).size), q1.of_block (hu.block _ q1.lt), (hB.alloc _).below hu (hB.alloc _).lt, ((hB.alloc _).below hu (hB.alloc _).lt).cell 0, (B0.below hu B0.lt).cell 1, Nat.lt_of_lt_of_le (Nat.lt_trans b2 B0.lt) hu.size⟩
            clear hy HN hrw
            cases hkd : kid l k with
            | true =>
              rw [hkd, if_pos rfl] at ND
              rw [hkd] at q2
              by_cases hn : 0 ≤ y.next ∧ y.next < l.length
              · rw [decide_eq_true hn] at HAS
                obtain ⟨m, hm1⟩ : ∃ m : Nat, y.next = m := ⟨y.next.toNat, by omega⟩
                obtain ⟨z, hz⟩ := LX.out m (by omega)
                rw [hm1] at c1 q1 q2 q5 q6 DO HAS ND
                rw [Int.toNat_natCast, hz] at ND
                have hml : m < l.length := by omega
                have CZ : Hid (∀ u, Below w.heap.size w u → u.cell? ⟨b, off + m * 7, none⟩ = some (.int .i64 z.up)) := fun u hu => (CE.out u _ hu (Nat.le_refl _) _ _ hz).1
                clear hz hn hm1
                by_cases hu : z.up = k
                · have HN2 : Hid (Nexts l (k + 1)) := NO.out (by rw [ND.out]; exact ⟨by omega, by omega, by simp [hu]⟩)
                  clear NY NO ND
                  have e1 : decide (z.up = (k : Int)) = true := decide_eq_true hu
                  go_wp2_with (go_at_call 33; refine (HAS.out _).mono ?_; rintro e u1 ⟨rfl, hb1⟩; obtain ⟨w1, w2, w6, w7, w3, w4⟩ := DO.out _ hb1; have w5 := CZ.out _ w1)
                  go_roundw
                  case rel => exact ⟨k + 1, by go_num, by omega, HN2, w2, w6, w1⟩
                  case measure => simp [intOf]; omega
                · have H : Hid (decide (Nexts l l.length) = false) := decide_eq_false (NY.out (by rw [ND.out]; rintro ⟨_, _, h⟩; simp at h; exact hu h))
                  clear NY NO ND
                  have e1 : (z.up == (k : Int)) = false := by simpa using hu
                  go_wp2_with (go_at_call 33; refine (HAS.out _).mono ?_; rintro e u1 ⟨rfl, hb1⟩; obtain ⟨w1, w2, w6, w7, w3, w4⟩ := DO.out _ hb1; have w5 := CZ.out _ w1)
                  go_ret
                  exact ⟨by rw [H.out]; rfl, w1⟩
              · rw [decide_eq_false hn] at HAS
                have H : Hid (decide (Nexts l l.length) = false) := decide_eq_false (NY.out (by rw [ND.out]; rintro ⟨h1, h2, _⟩; exact hn ⟨h1, h2⟩))
                clear NY NO ND hn
                go_wp2_with (go_at_call 33; refine (HAS.out _).mono ?_; rintro e u1 ⟨rfl, hb1⟩; obtain ⟨w1, w2, w6, w7, w3, w4⟩ := DO.out _ hb1)
                go_ret
                exact ⟨by rw [H.out]; rfl, w1⟩
            | false =>
              rw [hkd, if_neg (by simp)] at ND
              rw [hkd] at q2
              by_cases hn : y.next = -1
              · have HN2 : Hid (Nexts l (k + 1)) := NO.out (by rw [ND.out]; exact hn)
                clear NY NO ND
                rw [hn] at c1 q1 q2 q5 q6
                clear DO hn
                go_wp2_with fail
                go_roundw
                case rel => exact ⟨k + 1, by go_num, by omega, HN2, q1, hB.alloc _, ba hW _⟩
                case measure => simp [intOf]; omega
              · have e2 : (y.next == -1) = false := by simpa using hn
                have H : Hid (decide (Nexts l l.length) = false) := decide_eq_false (NY.out (by rw [ND.out]; exact hn))
                clear NY NO ND
                go_wp2_with fail
                go_ret
                exact ⟨by rw [H.out]; rfl, ba hW _⟩
          · have d1 : decide ((k : Int) < (l.length : Int)) = false := by simp; omega
            have H : Hid (decide (Nexts l l.length) = true) := decide_eq_true (by rw [show l.length = k by omega]; exact HN.out)
            go_wp2
            go_ret
            exact ⟨by rw [H.out]; rfl, hW⟩
end Go.Proofs.YtchmiigjiojiaaaDoor
