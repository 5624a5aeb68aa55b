/-
  What closes the statements of this seat that list the library's tables: a start that meets the list, and what the list gives.
-/
import Derived.Test.YtchmiigjiojiaaaDoorCards
import Derived.Test.YtchmiigjiojiaaaDoorTie
import Derived.Test.YtchmiigjiojiaaaDoorDigits
import Derived.Test.YtchmiigjiojiaaaDoorBulk
import Derived.Test.YtchmiigjiojiaaaDoorFrame
import Derived.Lib.LaidTab
import Derived.Lib.SmallJoins
import Derived.Stop.LaidErr
import Derived.Lay
import Derived.MakeChecks
import Derived.Deep.DeepHandedRow
namespace Go.Proofs.YtchmiigjiojiaaaDoor
open Go.RowKit Go.ChangeShapes Go.WideShapes Go.ChangeAt
/-- A start at which a row's listed variables read as listed, and its arguments are these. -/
theorem witness_row_laid {H : Type} {enc : TypeId × Value → H} {C : Checked} {os : Os} {f : FuncId} {fn : Func} {s : OpenSpec} {conds : List PathCond} {apart : Bool} {laid : List (String × DataW Unit)} (modest : Bool) (w0 : World) (args : Array Value) (hos : w0.os = os)
    (hsh : (w0.forCall (fun _ _ => 0) ⟨#[], args, []⟩).Shaped C.prog)
    (hok : Input.okWideB C.prog (w0.forCall (fun _ _ => 0) ⟨#[], args, []⟩) f ⟨#[], args, []⟩ = true)
    (hrow : s.preRow enc C.prog fn conds apart laid (w0.forCall (fun _ _ => 0) ⟨#[], args, []⟩).memory args) :
    ∃ (w : World) (tape : Tape) (i : Input), w.os = os ∧ (w.forCall tape i).Shaped C.prog ∧ i.vars = [] ∧ Input.okWide C.prog (w.forCall tape i) .any w.heap.size f i ∧
      s.preRow enc C.prog fn conds apart laid (w.forCall tape i).memory i.args ∧ ({ modest := modest } : Assume).holds C.prog (lone (Frame.enter C.prog f i.args .normal) [] (w.forCall tape i)) :=
  ⟨w0, fun _ _ => 0, ⟨#[], args, []⟩, hos, hsh, (Input.okWide_of_okWideB (base := 0) hok).1, (Input.okWide_of_okWideB hok).2, hrow, by
    simp only [Assume.holds]
    exact ⟨by simp, by simp, fun _ => Modest.zero, by simp, by simp⟩⟩
theorem pow_named : Tryd.prog.globalNamed "internal/strconv.uint64pow10" = some 1 := by kernel_rfl
theorem pow_type : (Tryd.prog.globals[1]?).map (·.type) = some 106 := by kernel_rfl
theorem pow_cells : Tryd.prog.cellsOf 106 = 20 := by kernel_rfl
theorem u64_cells : Tryd.prog.cellsOf 99 = 1 := by kernel_rfl
theorem pow_data : (Rows.laid_internal_strconv_uint64pow10 : DataW Unit) = Lib.tabData .u64 Lib.pow10Tab := by
  kernel_rfl
/-- What the row's list gives: the table of powers, in whatever later world. -/
theorem pow_of_laid {W : World} (h : laidMet Tryd.prog [("math/bits.deBruijn32tab", Rows.laid_math_bits_deBruijn32tab), ("math/bits.deBruijn64tab", Rows.laid_math_bits_deBruijn64tab), ("internal/strconv.uint64pow10", Rows.laid_internal_strconv_uint64pow10)] W) : Pow W.heap.size W := by
  have h1 := h.tail.tail
  rw [pow_data] at h1
  have h2 := Lib.tabIs_of_head (rest := []) pow_named pow_type Tryd.underlying106 Tryd.underlying99 u64_cells pow_cells h1
  exact fun u hu => _root_.Go.Joins.tab_stays pow_named h2 hu (Nat.le_refl _)
/-- The texts of a tree that comes in within the second form's bound. -/
theorem small_tree {H : Type} {l e sp : List (DataW H)} {z y0 y1 y2 y3 y4 : DataW H} {u v : List UInt8} (hk : Rows.uptoSmall H l = true) (hd : DataW.agg [.slice e sp, z] ∈ l) (hin : DataW.agg [y0, y1, y2, y3, .agg [y4, .lit (.string u), .lit (.string v)]] ∈ e) : u.length ≤ 1048576 ∧ v.length ≤ 1048576 := by
  have h1 := bulk_bound hk
  have h2 := bulk_part hd
  have h3 := bulk_part hin
  simp only [Rows.uptoBulk, Rows.uptoBulkAll] at h2 h3
  omega
end Go.Proofs.YtchmiigjiojiaaaDoor
