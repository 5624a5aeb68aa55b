/-
  Kinds of brackets: what closes what opens, and the other way, on both sides; the document's place where one is closed.
-/
import Derived.Test.YtchpkeelnfmlbaaGreatPair
namespace Go.Proofs.YtchpkeelnfmlbaaGreat
open Go.RowKit
namespace Pair
theorem test (k : ByteArray) (m : UInt8) : (k.toList == [m]) = decide (k.data.toList = [m]) := by
  have e : k.toList = k.data.toList := bs_tl k.data.toList
  rw [e, Bool.eq_iff_iff]
  simp
/-- The text of what closes; none, if that is no kind. -/
def cloL (l : List UInt8) : List UInt8 := match clo l with | some c => [c] | none => []
/-- Its byte; 0, if that is no kind. -/
def cloB (l : List UInt8) : UInt8 := (clo l).getD 0
theorem clo_not {l : List UInt8} (h1 : l ≠ [40]) (h2 : l ≠ [91]) (h3 : l ≠ [123]) (h4 : l ≠ [60]) : clo l = none := by
  unfold clo
  split
  · exact absurd rfl h1
  · exact absurd rfl h2
  · exact absurd rfl h3
  · exact absurd rfl h4
  · rfl
/-- The kind of a bracket. -/
def opn : UInt8 → UInt8
  | 41 => 40
  | 93 => 91
  | 125 => 123
  | b => b
theorem opn_not {b : UInt8} (h1 : b ≠ 41) (h2 : b ≠ 93) (h3 : b ≠ 125) : opn b = b := by
  unfold opn
  split
  · exact absurd rfl h1
  · exact absurd rfl h2
  · exact absurd rfl h3
  · rfl
end Pair
open Pair
theorem pair_closer (k : ByteArray) (w : World) :
    Calls Tryz.prog 101 #[.string k] w fun e w' => e = .returned (.string (bs (cloL k.data.toList))) ∧ w = w' := by
  by_cases h40 : k.data.toList = [40]
  · have g40 := (test k 40).trans (decide_eq_true h40)
    have H : Hid (cloL k.data.toList = [41]) := by show _ = _; rw [h40]; rfl
    clear h40
    go_enter Tryz.func101, Tryz.ntmps101
    go_wp2
    go_ret
    exact ⟨by rw [H.out]; rfl, rfl⟩
  have g40 := (test k 40).trans (decide_eq_false h40)
  by_cases h91 : k.data.toList = [91]
  · have g91 := (test k 91).trans (decide_eq_true h91)
    have H : Hid (cloL k.data.toList = [93]) := by show _ = _; rw [h91]; rfl
    clear h91
    go_enter Tryz.func101, Tryz.ntmps101
    go_wp2
    go_ret
    exact ⟨by rw [H.out]; rfl, rfl⟩
  have g91 := (test k 91).trans (decide_eq_false h91)
  by_cases h123 : k.data.toList = [123]
  · have g123 := (test k 123).trans (decide_eq_true h123)
    have H : Hid (cloL k.data.toList = [125]) := by show _ = _; rw [h123]; rfl
    clear h123
    go_enter Tryz.func101, Tryz.ntmps101
    go_wp2
    go_ret
    exact ⟨by rw [H.out]; rfl, rfl⟩
  have g123 := (test k 123).trans (decide_eq_false h123)
  by_cases h60 : k.data.toList = [60]
  · have g60 := (test k 60).trans (decide_eq_true h60)
    have H : Hid (cloL k.data.toList = [62]) := by show _ = _; rw [h60]; rfl
    clear h60
    go_enter Tryz.func101, Tryz.ntmps101
    go_wp2
    go_ret
    exact ⟨by rw [H.out]; rfl, rfl⟩
  have g60 := (test k 60).trans (decide_eq_false h60)
  have H : Hid (cloL k.data.toList = []) := by show _ = _; rw [cloL, clo_not h40 h91 h123 h60]
  clear h40 h91 h123 h60
  go_enter Tryz.func101, Tryz.ntmps101
  go_wp2
  go_ret
  exact ⟨by rw [H.out]; rfl, rfl⟩
end Go.Proofs.YtchpkeelnfmlbaaGreat
