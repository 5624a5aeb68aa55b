/-
  Whether the numbers of a tree are such that they can be told: the statement's own loop, which answers one or the other.
-/
import Derived.Test.YtchmiigjiojiaaaDoorNds
import Derived.Test.YtchmiigjiojiaaaDoorAllocs
namespace Go.Proofs.YtchmiigjiojiaaaDoor
open Go.RowKit
/-- Some answer of yes or no. -/
def SomeBool (w : World) (e : Ending) (w' : World) : Prop := ∃ b : Bool, e = .returned (.bool b) ∧ Below w.heap.size w w'
set_option maxHeartbeats 2000000 in
set_option maxRecDepth 100000 in
theorem law12_plain {A : Option Addr} {c : Nat} {l : List Nd} {cur : Int} {w : World} (hx : Nds w A l) (hlen : l.length ≤ 2000) :
    Calls Tryd.prog 5 #[.agg #[.slice A l.length c, .int .i64 cur]] w (SomeBool w) := by
  have W1 := al (Below.refl w.heap.size w) (.cells #[.slice A l.length c, .int .i64 cur] 24)
  have Y1 := Blk.new w 24 #[.slice A l.length c, .int .i64 cur]
  have HX := Lib.hid hx
  clear hx
  go_enter Tryd.func5, Tryd.ntmps5
  go_wp2
  generalize w.alloc (.cells #[.slice A l.length c, .int .i64 cur] 24) = w1 at *
  go_loopw [3] (fun i wr => ∃ k : Nat, i = .int .i64 k ∧ k ≤ l.length ∧ wr = w1) (fun i _ => l.length - (intOf i).toNat)
  case atStart => exact ⟨0, rfl, Nat.zero_le _, rfl⟩
  case round =>
    obtain ⟨k, rfl, hk, rfl⟩ := hrel
    have t0 := Y1.cell 0
    by_cases hlt : k < l.length
    · obtain ⟨x, hx⟩ : ∃ x, l[k]? = some x := ⟨_, List.getElem?_eq_getElem hlt⟩
      obtain ⟨b, off, rfl, hbw, e0, e1, e2, e3, e4, e5, e6⟩ := HX.out.at_ W1 (Nat.le_refl _) hx
      clear hx HX
      by_cases hb : x.at_ < -4611686018427387904
      · have g1 : decide (x.at_ < -4611686018427387904) = true := decide_eq_true hb
        clear hb
        go_wp2
        go_ret
        exact ⟨false, rfl, W1⟩
      · have g1 : decide (x.at_ < -4611686018427387904) = false := decide_eq_false hb
        clear hb
        go_wp2
        go_roundw
        case rel => exact ⟨k + 1, by go_num, by omega, by trivial⟩
        case measure => simp [intOf]; omega
    · clear HX
      go_wp2
      go_ret
      exact ⟨true, rfl, W1⟩
end Go.Proofs.YtchmiigjiojiaaaDoor
