/-
  '==' and '!=' of lines, at the document's answer.
-/
import Derived.Test.YtcddbdefdenecaaGreatDoorExBox
import Derived.Laws.StructEq
namespace Go.Proofs.YtcddbdefdenecaaGreatDoor
open Go.RowKit
open Ex (Ln)
theorem ref27_same_ln (c d : Ln) (w : World) : (Op.equalIn 10000 28 (.agg #[.int .i64 c.frm, .int .i64 c.to, .string (bs c.name), .string (bs c.arg), .string (bs c.pat), .string (bs c.rep), .bool c.all]) (.agg #[.int .i64 d.frm, .int .i64 d.to, .string (bs d.name), .string (bs d.arg), .string (bs d.pat), .string (bs d.rep), .bool d.all])).run Tryz.prog w = .ok (decide (c = d)) w := by
  rw [run_equalIn_struct w 9999 _ _ _ (by kernel_rfl) (by kernel_rfl)]
  have hi : ∀ (cs : Array Value) (j : Nat) (v : Value), cs[j]? = some v → ∀ w, (part 3 cs j).run Tryz.prog w = .ok v w := fun cs j v h w => by
    have ha : ∀ w, (isAgg 3).run Tryz.prog w = .ok false w := fun _ => by kernel_rfl
    simp [part, ha, h]
  have hs : ∀ (cs : Array Value) (j : Nat) (v : Value), cs[j]? = some v → ∀ w, (part 9 cs j).run Tryz.prog w = .ok v w := fun cs j v h w => by
    have ha : ∀ w, (isAgg 9).run Tryz.prog w = .ok false w := fun _ => by kernel_rfl
    simp [part, ha, h]
  have hb : ∀ (cs : Array Value) (j : Nat) (v : Value), cs[j]? = some v → ∀ w, (part 4 cs j).run Tryz.prog w = .ok v w := fun cs j v h w => by
    have ha : ∀ w, (isAgg 4).run Tryz.prog w = .ok false w := fun _ => by kernel_rfl
    simp [part, ha, h]
  have ei : ∀ (x y : Int) w, (Op.equalIn 9999 3 (.int .i64 x) (.int .i64 y)).run Tryz.prog w = .ok (x == y) w := fun x y w => run_equalIn_int w 9998 _ .i64 .i64 x y Tryz.underlying3
  have es : ∀ (x y : ByteArray) w, (Op.equalIn 9999 9 (.string x) (.string y)).run Tryz.prog w = .ok (x.toList == y.toList) w := fun x y w => run_equalIn_string w 9998 _ x y Tryz.underlying9
  have eb : ∀ (x y : Bool) w, (Op.equalIn 9999 4 (.bool x) (.bool y)).run Tryz.prog w = .ok (x == y) w := fun x y w => run_equalIn_bool w 9998 _ x y Tryz.underlying4
  have p0 : ∀ (a b : Int) (x0 x1 x2 x3 : ByteArray) (q : Bool) w, (part 3 #[.int .i64 a, .int .i64 b, .string x0, .string x1, .string x2, .string x3, .bool q] 0).run Tryz.prog w = .ok (.int .i64 a) w := fun a b x0 x1 x2 x3 q => hi _ _ _ rfl
  have p1 : ∀ (a b : Int) (x0 x1 x2 x3 : ByteArray) (q : Bool) w, (part 3 #[.int .i64 a, .int .i64 b, .string x0, .string x1, .string x2, .string x3, .bool q] 1).run Tryz.prog w = .ok (.int .i64 b) w := fun a b x0 x1 x2 x3 q => hi _ _ _ rfl
  have p2 : ∀ (a b : Int) (x0 x1 x2 x3 : ByteArray) (q : Bool) w, (part 9 #[.int .i64 a, .int .i64 b, .string x0, .string x1, .string x2, .string x3, .bool q] 2).run Tryz.prog w = .ok (.string x0) w := fun a b x0 x1 x2 x3 q => hs _ _ _ rfl
  have p3 : ∀ (a b : Int) (x0 x1 x2 x3 : ByteArray) (q : Bool) w, (part 9 #[.int .i64 a, .int .i64 b, .string x0, .string x1, .string x2, .string x3, .bool q] 3).run Tryz.prog w = .ok (.string x1) w := fun a b x0 x1 x2 x3 q => hs _ _ _ rfl
  have p4 : ∀ (a b : Int) (x0 x1 x2 x3 : ByteArray) (q : Bool) w, (part 9 #[.int .i64 a, .int .i64 b, .string x0, .string x1, .string x2, .string x3, .bool q] 4).run Tryz.prog w = .ok (.string x2) w := fun a b x0 x1 x2 x3 q => hs _ _ _ rfl
  have p5 : ∀ (a b : Int) (x0 x1 x2 x3 : ByteArray) (q : Bool) w, (part 9 #[.int .i64 a, .int .i64 b, .string x0, .string x1, .string x2, .string x3, .bool q] 5).run Tryz.prog w = .ok (.string x3) w := fun a b x0 x1 x2 x3 q => hs _ _ _ rfl
  have p6 : ∀ (a b : Int) (x0 x1 x2 x3 : ByteArray) (q : Bool) w, (part 4 #[.int .i64 a, .int .i64 b, .string x0, .string x1, .string x2, .string x3, .bool q] 6).run Tryz.prog w = .ok (.bool q) w := fun a b x0 x1 x2 x3 q => hb _ _ _ rfl
  have hd : decide (c = d) = (c.frm == d.frm && (c.to == d.to && ((bs c.name).toList == (bs d.name).toList && ((bs c.arg).toList == (bs d.arg).toList && ((bs c.pat).toList == (bs d.pat).toList && ((bs c.rep).toList == (bs d.rep).toList && c.all == d.all)))))) := by
    simp only [bs_tl]
    rw [Bool.eq_iff_iff]
    obtain ⟨a, b, x, y, z, u, v⟩ := c
    obtain ⟨a', b', x', y', z', u', v'⟩ := d
    simp
  rw [hd]
  simp only [Op.eqFields, Program.fieldsOf, Tryz.underlying28, p0, p1, p2, p3, p4, p5, p6, ei, es, eb, Sem.run_bind, Sem.run_ite, Sem.run_pure, Result.andThen_ok]
  cases (c.frm == d.frm) <;> cases (c.to == d.to) <;> cases ((bs c.name).toList == (bs d.name).toList) <;> cases ((bs c.arg).toList == (bs d.arg).toList) <;> cases ((bs c.pat).toList == (bs d.pat).toList) <;> cases ((bs c.rep).toList == (bs d.rep).toList) <;> cases (c.all == d.all) <;> simp
theorem ref27_eql_ln (c d : Ln) (w : World) : (binOp .eql 28 (.agg #[.int .i64 c.frm, .int .i64 c.to, .string (bs c.name), .string (bs c.arg), .string (bs c.pat), .string (bs c.rep), .bool c.all]) (.agg #[.int .i64 d.frm, .int .i64 d.to, .string (bs d.name), .string (bs d.arg), .string (bs d.pat), .string (bs d.rep), .bool d.all])).run Tryz.prog w = .ok (.bool (decide (c = d))) w := by
  rw [run_eql_struct, ref27_same_ln]; rfl
theorem ref27_neq_ln (c d : Ln) (w : World) : (binOp .neq 28 (.agg #[.int .i64 c.frm, .int .i64 c.to, .string (bs c.name), .string (bs c.arg), .string (bs c.pat), .string (bs c.rep), .bool c.all]) (.agg #[.int .i64 d.frm, .int .i64 d.to, .string (bs d.name), .string (bs d.arg), .string (bs d.pat), .string (bs d.rep), .bool d.all])).run Tryz.prog w = .ok (.bool !(decide (c = d))) w := by
  rw [run_neq_struct, ref27_same_ln]; rfl
end Go.Proofs.YtcddbdefdenecaaGreatDoor
