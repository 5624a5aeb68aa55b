/-
  The library's table of powers, out of what the row lists as laid.
-/
import Derived.Test.YtcddbdefdenecaaGreatDoorDigits
import Derived.Test.YtcddbdefdenecaaGreatDoorFrame
import Derived.Lib.LaidTab
import Derived.Lib.SmallJoins
import Derived.Stop.LaidErr
namespace Go.Proofs.YtcddbdefdenecaaGreatDoor
open Go.RowKit Go.Shelf
theorem pow_named : Tryz.prog.globalNamed "internal/strconv.uint64pow10" = some 5 := by kernel_rfl
theorem pow_type : (Tryz.prog.globals[5]?).map (·.type) = some 137 := by kernel_rfl
theorem pow_cells : Tryz.prog.cellsOf 137 = 20 := by kernel_rfl
theorem u64_cells : Tryz.prog.cellsOf 126 = 1 := by kernel_rfl
theorem pow_data : (Rows.laid_internal_strconv_uint64pow10 : DataW Unit) = Lib.tabData .u64 Lib.pow10Tab := by kernel_rfl
/-- What the row's list gives: the table of powers, in whatever later world. -/
theorem pow_of_laid {W : World} {a b : String × DataW Unit} {rest : List (String × DataW Unit)} (h : laidMet Tryz.prog (a :: b :: ("internal/strconv.uint64pow10", Rows.laid_internal_strconv_uint64pow10) :: rest) W) : Pow W.heap.size W := by
  have h1 := h.tail.tail
  rw [pow_data] at h1
  have h2 := Lib.tabIs_of_head (rest := rest) pow_named pow_type Tryz.underlying137 Tryz.underlying126 u64_cells pow_cells h1
  exact fun u hu => _root_.Go.Joins.tab_stays pow_named h2 hu (Nat.le_refl _)
end Go.Proofs.YtcddbdefdenecaaGreatDoor
