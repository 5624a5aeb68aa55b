/-
  Whether two lists of pairs are the same: the document's.
-/
import Derived.Test.YtijjpnppedhfnaaPairs
import Derived.ChangeKeysEq
import Derived.Laws.StructEq
import Derived.BigCall
namespace Go.Proofs.Ytijjpnppedhfnaa
open Go.RowKit
theorem neq_pair (a b c d : Int) (w : World) : (binOp .neq 33 (.agg #[.int .i64 a, .int .i64 b]) (.agg #[.int .i64 c, .int .i64 d])).run Try.prog w = .ok (.bool (!(decide (a = c) && decide (b = d)))) w := by
  obtain ⟨i0, hi, hz0, hz1, hz2⟩ := info_parts info_int
  rw [run_neq_struct, run_equalIn_array w 9999 _ _ Try.underlying33 hi]
  have hc : Try.prog.cellsOf 3 = 1 := by kernel_rfl
  have ha : ∀ w, (isAgg 3).run Try.prog w = .ok false w := fun _ => by kernel_rfl
  rw [hc, show List.range 2 = [0, 1] from rfl]
  have hp : ∀ (cs : Array Value) (j : Nat) (v : Value), cs[j]? = some v → ∀ w, (part 3 cs j).run Try.prog w = .ok v w := fun cs j v h w => by
    simp [part, ha, h]
  have he0 : ∀ (D : Nat) (x y : Int) w, (Op.equalIn (D + 1) 3 (.int .i64 x) (.int .i64 y)).run Try.prog w = .ok (decide (x = y)) w := fun D x y w => by
    simp [Op.equalIn, run_underlying Try.underlying3]
    rw [Bool.eq_iff_iff]
    simp
  have he : ∀ (x y : Int) w, (Op.equalIn 9999 3 (.int .i64 x) (.int .i64 y)).run Try.prog w = .ok (decide (x = y)) w := fun x y w => he0 9998 x y w
  have e1 : ∀ w, (part 3 #[.int .i64 a, .int .i64 b] (0 * 1)).run Try.prog w = .ok (.int .i64 a) w := hp _ _ _ rfl
  have e2 : ∀ w, (part 3 #[.int .i64 c, .int .i64 d] (0 * 1)).run Try.prog w = .ok (.int .i64 c) w := hp _ _ _ rfl
  have e3 : ∀ w, (part 3 #[.int .i64 a, .int .i64 b] (1 * 1)).run Try.prog w = .ok (.int .i64 b) w := hp _ _ _ rfl
  have e4 : ∀ w, (part 3 #[.int .i64 c, .int .i64 d] (1 * 1)).run Try.prog w = .ok (.int .i64 d) w := hp _ _ _ rfl
  simp only [Op.eqItems, Sem.run_bind, e1, e2, he, Result.andThen_ok]
  by_cases h1 : a = c
  · rw [decide_eq_true h1]
    cases hb : decide (b = d) <;> simp [e3, e4, he, hb]
  · rw [decide_eq_false h1]
    simp
/-- How far two lists are the same. -/
theorem list_same {α : Type} {xs ys : List α} (h : xs.length = ys.length) (he : ∀ (j : Nat) (x y : α), xs[j]? = some x → ys[j]? = some y → x = y) : xs = ys := by
  apply List.ext_getElem h
  intro j h1 h2
  exact he j _ _ (List.getElem?_eq_getElem h1) (List.getElem?_eq_getElem h2)
set_option maxHeartbeats 2000000 in
set_option maxRecDepth 100000 in
theorem ref17_Same (xs ys : List (Nat × Nat)) (A B : Option Addr) (c d : Nat) (w : World) (hA : Pairs w A xs) (hB : Pairs w B ys) (hx : xs.length ≤ 500000) :
    Calls Try.prog 8 #[.slice A xs.length c, .slice B ys.length d] w fun e w' => e = .returned (.bool (decide (xs = ys))) ∧ Below w.heap.size w w' := by
  by_cases hl : xs.length = ys.length
  · have HA := Lib.hid hA
    have HB := Lib.hid hB
    have g0 : ((xs.length : Int) != (ys.length : Int)) = false := by rw [hl]; simp
    have HL := Lib.hid hl
    clear hA hB hl
    go_enter Try.func8, Try.ntmps8
    go_wp2
    go_loopw [5] (fun kv wr => ∃ k : Nat, kv = .int .i64 k ∧ k ≤ xs.length ∧ Below w.heap.size w wr ∧ Hid (∀ (j : Nat) (x y : Nat × Nat), j < k → xs[j]? = some x → ys[j]? = some y → x = y)) (fun kv _ => xs.length - (intOf kv).toNat)
    case atStart => exact ⟨0, rfl, Nat.zero_le _, Below.refl _ _, fun j x y h => absurd h (Nat.not_lt_zero _)⟩
    case round =>
      obtain ⟨k, rfl, hk, hb, HE⟩ := hrel
      by_cases hlt : k < xs.length
      · obtain ⟨⟨a, b⟩, hya⟩ : ∃ y, xs[k]? = some y := ⟨_, List.getElem?_eq_getElem hlt⟩
        have hlt2 : k < ys.length := by have := HL.out; omega
        obtain ⟨⟨p, q⟩, hyb⟩ : ∃ y, ys[k]? = some y := ⟨_, List.getElem?_eq_getElem hlt2⟩
        obtain ⟨g, rfl, a0, a1⟩ := (HA.out.below hb).at_ hya
        obtain ⟨m, rfl, b0, b1⟩ := (HB.out.below hb).at_ hyb
        have hne := fun w => neq_pair (a : Nat) (b : Nat) (p : Nat) (q : Nat) w
        have HYA := Lib.hid hya
        have HYB := Lib.hid hyb
        have HB2 := Lib.hid hb
        dsimp only at a0 a1 b0 b1
        clear hya hyb hb HA HB
        by_cases he : (a, b) = (p, q)
        · have e1 : a = p := congrArg Prod.fst he
          have e2 : b = q := congrArg Prod.snd he
          subst e1; subst e2
          have hne2 : ∀ w, (binOp .neq 33 (.agg #[.int .i64 (a : Nat), .int .i64 (b : Nat)]) (.agg #[.int .i64 (a : Nat), .int .i64 (b : Nat)])).run Try.prog w = .ok (.bool false) w := fun w => by rw [hne]; simp
          clear hne he
          go_wp2_with fail
          go_quiet (fail)
          go_wp2
          go_roundw
          case rel => exact ⟨k + 1, by go_num, by omega, below_drewN HB2.out _, fun j x y hj hx hy => by
            by_cases e : j = k
            · subst e; rw [HYA.out] at hx; rw [HYB.out] at hy; cases hx; cases hy; rfl
            · exact HE.out j x y (by omega) hx hy⟩
          case measure => simp [intOf]; omega
        · have hne2 : ∀ w, (binOp .neq 33 (.agg #[.int .i64 (a : Nat), .int .i64 (b : Nat)]) (.agg #[.int .i64 (p : Nat), .int .i64 (q : Nat)])).run Try.prog w = .ok (.bool true) w := fun w => by
            rw [hne]
            have : (decide ((a : Int) = (p : Int)) && decide ((b : Int) = (q : Int))) = false := by
              rw [Bool.and_eq_false_iff]
              by_cases h1 : a = p
              · right; exact decide_eq_false (fun h2 => he (by rw [h1, Int.ofNat.inj h2]))
              · left; exact decide_eq_false (fun h2 => h1 (Int.ofNat.inj h2))
            rw [this]; rfl
          have HN := Lib.hid he
          clear hne he
          go_wp2_with fail
          go_quiet (fail)
          go_wp2
          go_ret
          refine ⟨?_, below_drewN HB2.out _⟩
          rw [decide_eq_false (fun e => HN.out (by have := HYA.out; rw [e, HYB.out] at this; exact (Option.some.inj this).symm))]
          rfl
      · obtain rfl : k = xs.length := by omega
        go_wp2
        go_ret
        refine ⟨?_, hb⟩
        rw [decide_eq_true (list_same HL.out (fun j x y h1 h2 => HE.out j x y (List.getElem?_eq_some_iff.1 h1).1 h1 h2))]
        rfl
  · have g0 : ((xs.length : Int) != (ys.length : Int)) = true := by rw [bne_iff_ne]; omega
    have H : Hid (decide (xs = ys) = false) := decide_eq_false (fun e => hl (by rw [e]))
    clear hl hA hB
    go_enter Try.func8, Try.ntmps8
    go_wp2
    go_ret
    exact ⟨by rw [H.out]; rfl, Below.refl _ _⟩
end Go.Proofs.Ytijjpnppedhfnaa
