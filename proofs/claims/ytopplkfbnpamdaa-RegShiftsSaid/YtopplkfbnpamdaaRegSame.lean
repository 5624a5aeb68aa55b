/-
  '==' and '!=' of registers; lists of them compared.
-/
import Derived.Test.YtopplkfbnpamdaaRgs
import Derived.Laws.StructEq
import Derived.BigQuiet
namespace Go.Proofs.Ytopplkfbnpamdaa
open Go.RowKit
theorem same_reg (a c : Int) (b d : Bool) (e f : ByteArray) (w : World) : (Op.equalIn 10000 32 (.agg #[.int .i64 a, .bool b, .string e]) (.agg #[.int .i64 c, .bool d, .string f])).run Try.prog w = .ok (a == c && (b == d && e.toList == f.toList)) w := by
  rw [run_equalIn_struct w 9999 _ _ _ (by kernel_rfl) (by kernel_rfl)]
  have hi : ∀ (cs : Array Value) (j : Nat) (v : Value), cs[j]? = some v → ∀ w, (part 3 cs j).run Try.prog w = .ok v w := fun cs j v h w => by
    have ha : ∀ w, (isAgg 3).run Try.prog w = .ok false w := fun _ => by kernel_rfl
    simp [part, ha, h]
  have hb : ∀ (cs : Array Value) (j : Nat) (v : Value), cs[j]? = some v → ∀ w, (part 4 cs j).run Try.prog w = .ok v w := fun cs j v h w => by
    have ha : ∀ w, (isAgg 4).run Try.prog w = .ok false w := fun _ => by kernel_rfl
    simp [part, ha, h]
  have hs : ∀ (cs : Array Value) (j : Nat) (v : Value), cs[j]? = some v → ∀ w, (part 9 cs j).run Try.prog w = .ok v w := fun cs j v h w => by
    have ha : ∀ w, (isAgg 9).run Try.prog w = .ok false w := fun _ => by kernel_rfl
    simp [part, ha, h]
  have ei : ∀ (x y : Int) w, (Op.equalIn 9999 3 (.int .i64 x) (.int .i64 y)).run Try.prog w = .ok (x == y) w := fun x y w => run_equalIn_int w 9998 _ .i64 .i64 x y Try.underlying3
  have eb : ∀ (x y : Bool) w, (Op.equalIn 9999 4 (.bool x) (.bool y)).run Try.prog w = .ok (x == y) w := fun x y w => run_equalIn_bool' w 9998 _ x y Try.underlying4
  have es : ∀ (x y : ByteArray) w, (Op.equalIn 9999 9 (.string x) (.string y)).run Try.prog w = .ok (x.toList == y.toList) w := fun x y w => run_equalIn_string w 9998 _ x y Try.underlying9
  have p0 : ∀ (x : Int) (y : Bool) (z : ByteArray) w, (part 3 #[.int .i64 x, .bool y, .string z] 0).run Try.prog w = .ok (.int .i64 x) w := fun x y z => hi _ _ _ rfl
  have p1 : ∀ (x : Int) (y : Bool) (z : ByteArray) w, (part 4 #[.int .i64 x, .bool y, .string z] 1).run Try.prog w = .ok (.bool y) w := fun x y z => hb _ _ _ rfl
  have p2 : ∀ (x : Int) (y : Bool) (z : ByteArray) w, (part 9 #[.int .i64 x, .bool y, .string z] 2).run Try.prog w = .ok (.string z) w := fun x y z => hs _ _ _ rfl
  simp only [Op.eqFields, Program.fieldsOf, Try.underlying32, p0, p1, p2, ei, eb, es, Sem.run_bind, Sem.run_ite, Sem.run_pure, Result.andThen_ok]
  cases (a == c) <;> cases (b == d) <;> cases (e.toList == f.toList) <;> simp
theorem eql_reg (a c : Int) (b d : Bool) (e f : ByteArray) (w : World) : (binOp .eql 32 (.agg #[.int .i64 a, .bool b, .string e]) (.agg #[.int .i64 c, .bool d, .string f])).run Try.prog w = .ok (.bool (a == c && (b == d && e.toList == f.toList))) w := by
  rw [run_eql_struct, same_reg]; rfl
theorem neq_reg (a c : Int) (b d : Bool) (e f : ByteArray) (w : World) : (binOp .neq 32 (.agg #[.int .i64 a, .bool b, .string e]) (.agg #[.int .i64 c, .bool d, .string f])).run Try.prog w = .ok (.bool !(a == c && (b == d && e.toList == f.toList))) w := by
  rw [run_neq_struct, same_reg]; rfl
theorem eql_reg_same (a : Int) (b : Bool) (e : ByteArray) (w : World) : (binOp .eql 32 (.agg #[.int .i64 a, .bool b, .string e]) (.agg #[.int .i64 a, .bool b, .string e])).run Try.prog w = .ok (.bool true) w := by
  rw [eql_reg]; simp
theorem neq_reg_same (a : Int) (b : Bool) (e : ByteArray) (w : World) : (binOp .neq 32 (.agg #[.int .i64 a, .bool b, .string e]) (.agg #[.int .i64 a, .bool b, .string e])).run Try.prog w = .ok (.bool false) w := by
  rw [neq_reg]; simp
set_option maxHeartbeats 2000000 in
set_option maxRecDepth 100000 in
theorem same21_ok {A B : Option Addr} {c d : Nat} {ks : List Rg} {w : World} (hx : Rgs w A ks) (hy : Rgs w B ks) (hm : ks.length ≤ 1000) :
    Calls Try.prog 12 #[.slice A ks.length c, .slice B ks.length d] w fun e w' => e = .returned (.bool true) ∧ Below w.heap.size w w' := by
  have EQ := neq_reg_same
  go_enter Try.func12, Try.ntmps12
  go_wp2_with fail
  go_loopw [5] (fun i wr => ∃ k : Nat, k ≤ ks.length ∧ i = .int .i64 k ∧ Below w.heap.size w wr) (fun i _ => ks.length - (intOf i).toNat)
  case atStart => exact ⟨0, Nat.zero_le _, rfl, Below.refl _ _⟩
  case round =>
    obtain ⟨k, hk, rfl, hW⟩ := hrel
    by_cases hlt : k < ks.length
    · obtain ⟨x, hkx⟩ : ∃ x, ks[k]? = some x := ⟨_, List.getElem?_eq_getElem hlt⟩
      obtain ⟨b, off, rfl, hbw, h0, h1, h2⟩ := hx.at_ hW (Nat.le_refl _) hkx
      obtain ⟨b', off', rfl, hbw', h0', h1', h2'⟩ := hy.at_ hW (Nat.le_refl _) hkx
      have hdr : ∀ q, Below w.heap.size w (wr.drewN q) := fun q => hW.trans ((below_gb (gb_drewN wr q none)).mono hW.size)
      have d1 : decide ((k : Int) < (ks.length : Int)) = true := by simp; omega
      clear hkx hx hy
      go_wp2
      go_quiet (fail)
      go_wp2
      go_roundw
      case rel => exact ⟨k + 1, by omega, by go_num, hdr _⟩
      case measure => simp [intOf]; omega
    · clear hx hy
      go_wp2
      go_ret
      exact ⟨rfl, hW⟩
end Go.Proofs.Ytopplkfbnpamdaa
