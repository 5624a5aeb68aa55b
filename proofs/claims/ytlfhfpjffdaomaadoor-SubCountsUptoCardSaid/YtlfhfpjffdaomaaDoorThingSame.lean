/-
  '==' and '!=' of ranges.
-/
import Derived.Test.YtlfhfpjffdaomaaDoorBase
import Derived.Laws.StructEq
namespace Go.Proofs.YtlfhfpjffdaomaaDoor
open Go.RowKit
theorem same_range (a b c d : Int) (e f : Bool) (w : World) : (Op.equalIn 10000 32 (.agg #[.int .i64 a, .int .i64 b, .bool e]) (.agg #[.int .i64 c, .int .i64 d, .bool f])).run Tryd.prog w = .ok (a == c && (b == d && e == f)) w := by
  rw [run_equalIn_struct w 9999 _ _ _ (by kernel_rfl) (by kernel_rfl)]
  have hi : ∀ (cs : Array Value) (j : Nat) (v : Value), cs[j]? = some v → ∀ w, (part 3 cs j).run Tryd.prog w = .ok v w := fun cs j v h w => by
    have ha : ∀ w, (isAgg 3).run Tryd.prog w = .ok false w := fun _ => by kernel_rfl
    simp [part, ha, h]
  have hb : ∀ (cs : Array Value) (j : Nat) (v : Value), cs[j]? = some v → ∀ w, (part 4 cs j).run Tryd.prog w = .ok v w := fun cs j v h w => by
    have ha : ∀ w, (isAgg 4).run Tryd.prog w = .ok false w := fun _ => by kernel_rfl
    simp [part, ha, h]
  have ei : ∀ (x y : Int) w, (Op.equalIn 9999 3 (.int .i64 x) (.int .i64 y)).run Tryd.prog w = .ok (x == y) w := fun x y w => run_equalIn_int w 9998 _ .i64 .i64 x y Tryd.underlying3
  have eb : ∀ (x y : Bool) w, (Op.equalIn 9999 4 (.bool x) (.bool y)).run Tryd.prog w = .ok (x == y) w := fun x y w => run_equalIn_bool' w 9998 _ x y Tryd.underlying4
  have p0 : ∀ (x y : Int) (z : Bool) w, (part 3 #[.int .i64 x, .int .i64 y, .bool z] 0).run Tryd.prog w = .ok (.int .i64 x) w := fun x y z => hi _ _ _ rfl
  have p1 : ∀ (x y : Int) (z : Bool) w, (part 3 #[.int .i64 x, .int .i64 y, .bool z] 1).run Tryd.prog w = .ok (.int .i64 y) w := fun x y z => hi _ _ _ rfl
  have p2 : ∀ (x y : Int) (z : Bool) w, (part 4 #[.int .i64 x, .int .i64 y, .bool z] 2).run Tryd.prog w = .ok (.bool z) w := fun x y z => hb _ _ _ rfl
  simp only [Op.eqFields, Program.fieldsOf, Tryd.underlying32, p0, p1, p2, ei, eb, Sem.run_bind, Sem.run_ite, Sem.run_pure, Result.andThen_ok]
  cases (a == c) <;> cases (b == d) <;> cases (e == f) <;> simp
theorem eql_range (a b c d : Int) (e f : Bool) (w : World) : (binOp .eql 32 (.agg #[.int .i64 a, .int .i64 b, .bool e]) (.agg #[.int .i64 c, .int .i64 d, .bool f])).run Tryd.prog w = .ok (.bool (a == c && (b == d && e == f))) w := by
  rw [run_eql_struct, same_range]; rfl
theorem neq_range (a b c d : Int) (e f : Bool) (w : World) : (binOp .neq 32 (.agg #[.int .i64 a, .int .i64 b, .bool e]) (.agg #[.int .i64 c, .int .i64 d, .bool f])).run Tryd.prog w = .ok (.bool !(a == c && (b == d && e == f))) w := by
  rw [run_neq_struct, same_range]; rfl
theorem eql_same (a b : Int) (e : Bool) (w : World) : (binOp .eql 32 (.agg #[.int .i64 a, .int .i64 b, .bool e]) (.agg #[.int .i64 a, .int .i64 b, .bool e])).run Tryd.prog w = .ok (.bool true) w := by
  rw [eql_range]; simp
theorem neq_same (a b : Int) (e : Bool) (w : World) : (binOp .neq 32 (.agg #[.int .i64 a, .int .i64 b, .bool e]) (.agg #[.int .i64 a, .int .i64 b, .bool e])).run Tryd.prog w = .ok (.bool false) w := by
  rw [neq_range]; simp
end Go.Proofs.YtlfhfpjffdaomaaDoor
