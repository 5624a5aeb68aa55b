/-
  Package class: at, Of, Big, Lead.
-/
import Derived.LoopTactic
import Derived.Test.YtdclopfhffjkfaaDoorClassBytes
namespace Go.Proofs.YtdclopfhffjkfaaDoor
open Go.RowKit
attribute [local go_sem] Oper.semAt_some
theorem Class.lead_step {s : List UInt8} {k : Nat} (h : k < s.length) (hk : Class.plain s[k].toNat = 1) : k + Class.lead (s.drop k) = k + 1 + Class.lead (s.drop (k + 1)) := by
  rw [List.drop_eq_getElem_cons h, Class.lead, if_pos hk]; omega
theorem Class.lead_stop {s : List UInt8} {k : Nat} (h : k < s.length) (hk : Class.plain s[k].toNat ≠ 1) : k + Class.lead (s.drop k) = k := by
  rw [List.drop_eq_getElem_cons h, Class.lead, if_neg hk]; omega
theorem Class.lead_end {s : List UInt8} {k : Nat} (h : s.length ≤ k) : k + Class.lead (s.drop k) = k := by
  rw [List.drop_eq_nil_of_le h, Class.lead]; omega
end Go.Proofs.YtdclopfhffjkfaaDoor
