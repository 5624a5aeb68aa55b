/-
  A key's kind, on both sides.
-/
import Derived.Test.YtchpkeelnfmlbaaSpan
namespace Go.Proofs.Ytchpkeelnfmlbaa
open Go.RowKit
namespace Span
theorem key_test (k : ByteArray) (l : List UInt8) : (k.toList == l) = decide (k.data.toList = l) := by
  rw [show k.toList = k.data.toList from bs_tl k.data.toList, Bool.eq_iff_iff]; simp
theorem key_is {k : ByteArray} {l : List UInt8} (h : (k.toList == l) = true) : k.data.toList = l := by rw [key_test] at h; exact of_decide_eq_true h
theorem key_not {k : ByteArray} {l : List UInt8} (h : (k.toList == l) = false) : k.data.toList ≠ l := by rw [key_test] at h; exact of_decide_eq_false h
theorem kind_none {k : List UInt8} (h1 : k ∉ short) (h2 : k ∉ long) (h3 : k ∉ whole) : kind k = 0 := by rw [kind, if_neg h1, if_neg h2, if_neg h3]
end Span

set_option maxRecDepth 100000 in
theorem span_Kind_0 (key : ByteArray) (h0 : (key.toList == [104]) = true) (w : World) :
    Calls Try.prog 30 #[.string key] w fun e w' => e = .returned (.int .i64 1) ∧ w = w' := by
  go_enter Try.func30, Try.ntmps30
  go_wp2
  go_ret
  exact ⟨rfl, rfl⟩
set_option maxRecDepth 100000 in
theorem span_Kind_1 (key : ByteArray) (h0 : (key.toList == [104]) = false) (h1 : (key.toList == [108]) = true) (w : World) :
    Calls Try.prog 30 #[.string key] w fun e w' => e = .returned (.int .i64 1) ∧ w = w' := by
  go_enter Try.func30, Try.ntmps30
  go_wp2
  go_ret
  exact ⟨rfl, rfl⟩
set_option maxRecDepth 100000 in
theorem span_Kind_2 (key : ByteArray) (h0 : (key.toList == [104]) = false) (h1 : (key.toList == [108]) = false) (h2 : (key.toList == [48]) = true) (w : World) :
    Calls Try.prog 30 #[.string key] w fun e w' => e = .returned (.int .i64 1) ∧ w = w' := by
  go_enter Try.func30, Try.ntmps30
  go_wp2
  go_ret
  exact ⟨rfl, rfl⟩
set_option maxRecDepth 100000 in
theorem span_Kind_3 (key : ByteArray) (h0 : (key.toList == [104]) = false) (h1 : (key.toList == [108]) = false) (h2 : (key.toList == [48]) = false) (h3 : (key.toList == [94]) = true) (w : World) :
    Calls Try.prog 30 #[.string key] w fun e w' => e = .returned (.int .i64 1) ∧ w = w' := by
  go_enter Try.func30, Try.ntmps30
  go_wp2
  go_ret
  exact ⟨rfl, rfl⟩
set_option maxRecDepth 100000 in
theorem span_Kind_4 (key : ByteArray) (h0 : (key.toList == [104]) = false) (h1 : (key.toList == [108]) = false) (h2 : (key.toList == [48]) = false) (h3 : (key.toList == [94]) = false) (h4 : (key.toList == [36]) = true) (w : World) :
    Calls Try.prog 30 #[.string key] w fun e w' => e = .returned (.int .i64 1) ∧ w = w' := by
  go_enter Try.func30, Try.ntmps30
  go_wp2
  go_ret
  exact ⟨rfl, rfl⟩
set_option maxRecDepth 100000 in
theorem span_Kind_5 (key : ByteArray) (h0 : (key.toList == [104]) = false) (h1 : (key.toList == [108]) = false) (h2 : (key.toList == [48]) = false) (h3 : (key.toList == [94]) = false) (h4 : (key.toList == [36]) = false) (h5 : (key.toList == [124]) = true) (w : World) :
    Calls Try.prog 30 #[.string key] w fun e w' => e = .returned (.int .i64 1) ∧ w = w' := by
  go_enter Try.func30, Try.ntmps30
  go_wp2
  go_ret
  exact ⟨rfl, rfl⟩
set_option maxRecDepth 100000 in
theorem span_Kind_6 (key : ByteArray) (h0 : (key.toList == [104]) = false) (h1 : (key.toList == [108]) = false) (h2 : (key.toList == [48]) = false) (h3 : (key.toList == [94]) = false) (h4 : (key.toList == [36]) = false) (h5 : (key.toList == [124]) = false) (h6 : (key.toList == [119]) = true) (w : World) :
    Calls Try.prog 30 #[.string key] w fun e w' => e = .returned (.int .i64 1) ∧ w = w' := by
  go_enter Try.func30, Try.ntmps30
  go_wp2
  go_ret
  exact ⟨rfl, rfl⟩
set_option maxRecDepth 100000 in
theorem span_Kind_7 (key : ByteArray) (h0 : (key.toList == [104]) = false) (h1 : (key.toList == [108]) = false) (h2 : (key.toList == [48]) = false) (h3 : (key.toList == [94]) = false) (h4 : (key.toList == [36]) = false) (h5 : (key.toList == [124]) = false) (h6 : (key.toList == [119]) = false) (h7 : (key.toList == [98]) = true) (w : World) :
    Calls Try.prog 30 #[.string key] w fun e w' => e = .returned (.int .i64 1) ∧ w = w' := by
  go_enter Try.func30, Try.ntmps30
  go_wp2
  go_ret
  exact ⟨rfl, rfl⟩
set_option maxRecDepth 100000 in
theorem span_Kind_8 (key : ByteArray) (h0 : (key.toList == [104]) = false) (h1 : (key.toList == [108]) = false) (h2 : (key.toList == [48]) = false) (h3 : (key.toList == [94]) = false) (h4 : (key.toList == [36]) = false) (h5 : (key.toList == [124]) = false) (h6 : (key.toList == [119]) = false) (h7 : (key.toList == [98]) = false) (h8 : (key.toList == [87]) = true) (w : World) :
    Calls Try.prog 30 #[.string key] w fun e w' => e = .returned (.int .i64 1) ∧ w = w' := by
  go_enter Try.func30, Try.ntmps30
  go_wp2
  go_ret
  exact ⟨rfl, rfl⟩
set_option maxRecDepth 100000 in
theorem span_Kind_9 (key : ByteArray) (h0 : (key.toList == [104]) = false) (h1 : (key.toList == [108]) = false) (h2 : (key.toList == [48]) = false) (h3 : (key.toList == [94]) = false) (h4 : (key.toList == [36]) = false) (h5 : (key.toList == [124]) = false) (h6 : (key.toList == [119]) = false) (h7 : (key.toList == [98]) = false) (h8 : (key.toList == [87]) = false) (h9 : (key.toList == [66]) = true) (w : World) :
    Calls Try.prog 30 #[.string key] w fun e w' => e = .returned (.int .i64 1) ∧ w = w' := by
  go_enter Try.func30, Try.ntmps30
  go_wp2
  go_ret
  exact ⟨rfl, rfl⟩
set_option maxRecDepth 100000 in
theorem span_Kind_10 (key : ByteArray) (h0 : (key.toList == [104]) = false) (h1 : (key.toList == [108]) = false) (h2 : (key.toList == [48]) = false) (h3 : (key.toList == [94]) = false) (h4 : (key.toList == [36]) = false) (h5 : (key.toList == [124]) = false) (h6 : (key.toList == [119]) = false) (h7 : (key.toList == [98]) = false) (h8 : (key.toList == [87]) = false) (h9 : (key.toList == [66]) = false) (h10 : (key.toList == [123]) = true) (w : World) :
    Calls Try.prog 30 #[.string key] w fun e w' => e = .returned (.int .i64 1) ∧ w = w' := by
  go_enter Try.func30, Try.ntmps30
  go_wp2
  go_ret
  exact ⟨rfl, rfl⟩
set_option maxRecDepth 100000 in
theorem span_Kind_11 (key : ByteArray) (h0 : (key.toList == [104]) = false) (h1 : (key.toList == [108]) = false) (h2 : (key.toList == [48]) = false) (h3 : (key.toList == [94]) = false) (h4 : (key.toList == [36]) = false) (h5 : (key.toList == [124]) = false) (h6 : (key.toList == [119]) = false) (h7 : (key.toList == [98]) = false) (h8 : (key.toList == [87]) = false) (h9 : (key.toList == [66]) = false) (h10 : (key.toList == [123]) = false) (h11 : (key.toList == [125]) = true) (w : World) :
    Calls Try.prog 30 #[.string key] w fun e w' => e = .returned (.int .i64 1) ∧ w = w' := by
  go_enter Try.func30, Try.ntmps30
  go_wp2
  go_ret
  exact ⟨rfl, rfl⟩
set_option maxRecDepth 100000 in
theorem span_Kind_12 (key : ByteArray) (h0 : (key.toList == [104]) = false) (h1 : (key.toList == [108]) = false) (h2 : (key.toList == [48]) = false) (h3 : (key.toList == [94]) = false) (h4 : (key.toList == [36]) = false) (h5 : (key.toList == [124]) = false) (h6 : (key.toList == [119]) = false) (h7 : (key.toList == [98]) = false) (h8 : (key.toList == [87]) = false) (h9 : (key.toList == [66]) = false) (h10 : (key.toList == [123]) = false) (h11 : (key.toList == [125]) = false) (h12 : (key.toList == [70]) = true) (w : World) :
    Calls Try.prog 30 #[.string key] w fun e w' => e = .returned (.int .i64 1) ∧ w = w' := by
  go_enter Try.func30, Try.ntmps30
  go_wp2
  go_ret
  exact ⟨rfl, rfl⟩
set_option maxRecDepth 100000 in
theorem span_Kind_13 (key : ByteArray) (h0 : (key.toList == [104]) = false) (h1 : (key.toList == [108]) = false) (h2 : (key.toList == [48]) = false) (h3 : (key.toList == [94]) = false) (h4 : (key.toList == [36]) = false) (h5 : (key.toList == [124]) = false) (h6 : (key.toList == [119]) = false) (h7 : (key.toList == [98]) = false) (h8 : (key.toList == [87]) = false) (h9 : (key.toList == [66]) = false) (h10 : (key.toList == [123]) = false) (h11 : (key.toList == [125]) = false) (h12 : (key.toList == [70]) = false) (h13 : (key.toList == [84]) = true) (w : World) :
    Calls Try.prog 30 #[.string key] w fun e w' => e = .returned (.int .i64 1) ∧ w = w' := by
  go_enter Try.func30, Try.ntmps30
  go_wp2
  go_ret
  exact ⟨rfl, rfl⟩
set_option maxRecDepth 100000 in
theorem span_Kind_14 (key : ByteArray) (h0 : (key.toList == [104]) = false) (h1 : (key.toList == [108]) = false) (h2 : (key.toList == [48]) = false) (h3 : (key.toList == [94]) = false) (h4 : (key.toList == [36]) = false) (h5 : (key.toList == [124]) = false) (h6 : (key.toList == [119]) = false) (h7 : (key.toList == [98]) = false) (h8 : (key.toList == [87]) = false) (h9 : (key.toList == [66]) = false) (h10 : (key.toList == [123]) = false) (h11 : (key.toList == [125]) = false) (h12 : (key.toList == [70]) = false) (h13 : (key.toList == [84]) = false) (h14 : (key.toList == [110]) = true) (w : World) :
    Calls Try.prog 30 #[.string key] w fun e w' => e = .returned (.int .i64 1) ∧ w = w' := by
  go_enter Try.func30, Try.ntmps30
  go_wp2
  go_ret
  exact ⟨rfl, rfl⟩
set_option maxRecDepth 100000 in
theorem span_Kind_15 (key : ByteArray) (h0 : (key.toList == [104]) = false) (h1 : (key.toList == [108]) = false) (h2 : (key.toList == [48]) = false) (h3 : (key.toList == [94]) = false) (h4 : (key.toList == [36]) = false) (h5 : (key.toList == [124]) = false) (h6 : (key.toList == [119]) = false) (h7 : (key.toList == [98]) = false) (h8 : (key.toList == [87]) = false) (h9 : (key.toList == [66]) = false) (h10 : (key.toList == [123]) = false) (h11 : (key.toList == [125]) = false) (h12 : (key.toList == [70]) = false) (h13 : (key.toList == [84]) = false) (h14 : (key.toList == [110]) = false) (h15 : (key.toList == [78]) = true) (w : World) :
    Calls Try.prog 30 #[.string key] w fun e w' => e = .returned (.int .i64 1) ∧ w = w' := by
  go_enter Try.func30, Try.ntmps30
  go_wp2
  go_ret
  exact ⟨rfl, rfl⟩
set_option maxRecDepth 100000 in
theorem span_Kind_16 (key : ByteArray) (h0 : (key.toList == [104]) = false) (h1 : (key.toList == [108]) = false) (h2 : (key.toList == [48]) = false) (h3 : (key.toList == [94]) = false) (h4 : (key.toList == [36]) = false) (h5 : (key.toList == [124]) = false) (h6 : (key.toList == [119]) = false) (h7 : (key.toList == [98]) = false) (h8 : (key.toList == [87]) = false) (h9 : (key.toList == [66]) = false) (h10 : (key.toList == [123]) = false) (h11 : (key.toList == [125]) = false) (h12 : (key.toList == [70]) = false) (h13 : (key.toList == [84]) = false) (h14 : (key.toList == [110]) = false) (h15 : (key.toList == [78]) = false) (h16 : (key.toList == [96]) = true) (w : World) :
    Calls Try.prog 30 #[.string key] w fun e w' => e = .returned (.int .i64 1) ∧ w = w' := by
  go_enter Try.func30, Try.ntmps30
  go_wp2
  go_ret
  exact ⟨rfl, rfl⟩
set_option maxRecDepth 100000 in
theorem span_Kind_17 (key : ByteArray) (h0 : (key.toList == [104]) = false) (h1 : (key.toList == [108]) = false) (h2 : (key.toList == [48]) = false) (h3 : (key.toList == [94]) = false) (h4 : (key.toList == [36]) = false) (h5 : (key.toList == [124]) = false) (h6 : (key.toList == [119]) = false) (h7 : (key.toList == [98]) = false) (h8 : (key.toList == [87]) = false) (h9 : (key.toList == [66]) = false) (h10 : (key.toList == [123]) = false) (h11 : (key.toList == [125]) = false) (h12 : (key.toList == [70]) = false) (h13 : (key.toList == [84]) = false) (h14 : (key.toList == [110]) = false) (h15 : (key.toList == [78]) = false) (h16 : (key.toList == [96]) = false) (h17 : (key.toList == [101]) = true) (w : World) :
    Calls Try.prog 30 #[.string key] w fun e w' => e = .returned (.int .i64 2) ∧ w = w' := by
  go_enter Try.func30, Try.ntmps30
  go_wp2
  go_ret
  exact ⟨rfl, rfl⟩
set_option maxRecDepth 100000 in
theorem span_Kind_18 (key : ByteArray) (h0 : (key.toList == [104]) = false) (h1 : (key.toList == [108]) = false) (h2 : (key.toList == [48]) = false) (h3 : (key.toList == [94]) = false) (h4 : (key.toList == [36]) = false) (h5 : (key.toList == [124]) = false) (h6 : (key.toList == [119]) = false) (h7 : (key.toList == [98]) = false) (h8 : (key.toList == [87]) = false) (h9 : (key.toList == [66]) = false) (h10 : (key.toList == [123]) = false) (h11 : (key.toList == [125]) = false) (h12 : (key.toList == [70]) = false) (h13 : (key.toList == [84]) = false) (h14 : (key.toList == [110]) = false) (h15 : (key.toList == [78]) = false) (h16 : (key.toList == [96]) = false) (h17 : (key.toList == [101]) = false) (h18 : (key.toList == [69]) = true) (w : World) :
    Calls Try.prog 30 #[.string key] w fun e w' => e = .returned (.int .i64 2) ∧ w = w' := by
  go_enter Try.func30, Try.ntmps30
  go_wp2
  go_ret
  exact ⟨rfl, rfl⟩
set_option maxRecDepth 100000 in
theorem span_Kind_19 (key : ByteArray) (h0 : (key.toList == [104]) = false) (h1 : (key.toList == [108]) = false) (h2 : (key.toList == [48]) = false) (h3 : (key.toList == [94]) = false) (h4 : (key.toList == [36]) = false) (h5 : (key.toList == [124]) = false) (h6 : (key.toList == [119]) = false) (h7 : (key.toList == [98]) = false) (h8 : (key.toList == [87]) = false) (h9 : (key.toList == [66]) = false) (h10 : (key.toList == [123]) = false) (h11 : (key.toList == [125]) = false) (h12 : (key.toList == [70]) = false) (h13 : (key.toList == [84]) = false) (h14 : (key.toList == [110]) = false) (h15 : (key.toList == [78]) = false) (h16 : (key.toList == [96]) = false) (h17 : (key.toList == [101]) = false) (h18 : (key.toList == [69]) = false) (h19 : (key.toList == [102]) = true) (w : World) :
    Calls Try.prog 30 #[.string key] w fun e w' => e = .returned (.int .i64 2) ∧ w = w' := by
  go_enter Try.func30, Try.ntmps30
  go_wp2
  go_ret
  exact ⟨rfl, rfl⟩
set_option maxRecDepth 100000 in
theorem span_Kind_20 (key : ByteArray) (h0 : (key.toList == [104]) = false) (h1 : (key.toList == [108]) = false) (h2 : (key.toList == [48]) = false) (h3 : (key.toList == [94]) = false) (h4 : (key.toList == [36]) = false) (h5 : (key.toList == [124]) = false) (h6 : (key.toList == [119]) = false) (h7 : (key.toList == [98]) = false) (h8 : (key.toList == [87]) = false) (h9 : (key.toList == [66]) = false) (h10 : (key.toList == [123]) = false) (h11 : (key.toList == [125]) = false) (h12 : (key.toList == [70]) = false) (h13 : (key.toList == [84]) = false) (h14 : (key.toList == [110]) = false) (h15 : (key.toList == [78]) = false) (h16 : (key.toList == [96]) = false) (h17 : (key.toList == [101]) = false) (h18 : (key.toList == [69]) = false) (h19 : (key.toList == [102]) = false) (h20 : (key.toList == [116]) = true) (w : World) :
    Calls Try.prog 30 #[.string key] w fun e w' => e = .returned (.int .i64 2) ∧ w = w' := by
  go_enter Try.func30, Try.ntmps30
  go_wp2
  go_ret
  exact ⟨rfl, rfl⟩
set_option maxRecDepth 100000 in
theorem span_Kind_21 (key : ByteArray) (h0 : (key.toList == [104]) = false) (h1 : (key.toList == [108]) = false) (h2 : (key.toList == [48]) = false) (h3 : (key.toList == [94]) = false) (h4 : (key.toList == [36]) = false) (h5 : (key.toList == [124]) = false) (h6 : (key.toList == [119]) = false) (h7 : (key.toList == [98]) = false) (h8 : (key.toList == [87]) = false) (h9 : (key.toList == [66]) = false) (h10 : (key.toList == [123]) = false) (h11 : (key.toList == [125]) = false) (h12 : (key.toList == [70]) = false) (h13 : (key.toList == [84]) = false) (h14 : (key.toList == [110]) = false) (h15 : (key.toList == [78]) = false) (h16 : (key.toList == [96]) = false) (h17 : (key.toList == [101]) = false) (h18 : (key.toList == [69]) = false) (h19 : (key.toList == [102]) = false) (h20 : (key.toList == [116]) = false) (h21 : (key.toList == [37]) = true) (w : World) :
    Calls Try.prog 30 #[.string key] w fun e w' => e = .returned (.int .i64 2) ∧ w = w' := by
  go_enter Try.func30, Try.ntmps30
  go_wp2
  go_ret
  exact ⟨rfl, rfl⟩
set_option maxRecDepth 100000 in
theorem span_Kind_22 (key : ByteArray) (h0 : (key.toList == [104]) = false) (h1 : (key.toList == [108]) = false) (h2 : (key.toList == [48]) = false) (h3 : (key.toList == [94]) = false) (h4 : (key.toList == [36]) = false) (h5 : (key.toList == [124]) = false) (h6 : (key.toList == [119]) = false) (h7 : (key.toList == [98]) = false) (h8 : (key.toList == [87]) = false) (h9 : (key.toList == [66]) = false) (h10 : (key.toList == [123]) = false) (h11 : (key.toList == [125]) = false) (h12 : (key.toList == [70]) = false) (h13 : (key.toList == [84]) = false) (h14 : (key.toList == [110]) = false) (h15 : (key.toList == [78]) = false) (h16 : (key.toList == [96]) = false) (h17 : (key.toList == [101]) = false) (h18 : (key.toList == [69]) = false) (h19 : (key.toList == [102]) = false) (h20 : (key.toList == [116]) = false) (h21 : (key.toList == [37]) = false) (h22 : (key.toList == [106]) = true) (w : World) :
    Calls Try.prog 30 #[.string key] w fun e w' => e = .returned (.int .i64 3) ∧ w = w' := by
  go_enter Try.func30, Try.ntmps30
  go_wp2
  go_ret
  exact ⟨rfl, rfl⟩
set_option maxRecDepth 100000 in
theorem span_Kind_23 (key : ByteArray) (h0 : (key.toList == [104]) = false) (h1 : (key.toList == [108]) = false) (h2 : (key.toList == [48]) = false) (h3 : (key.toList == [94]) = false) (h4 : (key.toList == [36]) = false) (h5 : (key.toList == [124]) = false) (h6 : (key.toList == [119]) = false) (h7 : (key.toList == [98]) = false) (h8 : (key.toList == [87]) = false) (h9 : (key.toList == [66]) = false) (h10 : (key.toList == [123]) = false) (h11 : (key.toList == [125]) = false) (h12 : (key.toList == [70]) = false) (h13 : (key.toList == [84]) = false) (h14 : (key.toList == [110]) = false) (h15 : (key.toList == [78]) = false) (h16 : (key.toList == [96]) = false) (h17 : (key.toList == [101]) = false) (h18 : (key.toList == [69]) = false) (h19 : (key.toList == [102]) = false) (h20 : (key.toList == [116]) = false) (h21 : (key.toList == [37]) = false) (h22 : (key.toList == [106]) = false) (h23 : (key.toList == [107]) = true) (w : World) :
    Calls Try.prog 30 #[.string key] w fun e w' => e = .returned (.int .i64 3) ∧ w = w' := by
  go_enter Try.func30, Try.ntmps30
  go_wp2
  go_ret
  exact ⟨rfl, rfl⟩
set_option maxRecDepth 100000 in
theorem span_Kind_24 (key : ByteArray) (h0 : (key.toList == [104]) = false) (h1 : (key.toList == [108]) = false) (h2 : (key.toList == [48]) = false) (h3 : (key.toList == [94]) = false) (h4 : (key.toList == [36]) = false) (h5 : (key.toList == [124]) = false) (h6 : (key.toList == [119]) = false) (h7 : (key.toList == [98]) = false) (h8 : (key.toList == [87]) = false) (h9 : (key.toList == [66]) = false) (h10 : (key.toList == [123]) = false) (h11 : (key.toList == [125]) = false) (h12 : (key.toList == [70]) = false) (h13 : (key.toList == [84]) = false) (h14 : (key.toList == [110]) = false) (h15 : (key.toList == [78]) = false) (h16 : (key.toList == [96]) = false) (h17 : (key.toList == [101]) = false) (h18 : (key.toList == [69]) = false) (h19 : (key.toList == [102]) = false) (h20 : (key.toList == [116]) = false) (h21 : (key.toList == [37]) = false) (h22 : (key.toList == [106]) = false) (h23 : (key.toList == [107]) = false) (h24 : (key.toList == [103, 103]) = true) (w : World) :
    Calls Try.prog 30 #[.string key] w fun e w' => e = .returned (.int .i64 3) ∧ w = w' := by
  go_enter Try.func30, Try.ntmps30
  go_wp2
  go_ret
  exact ⟨rfl, rfl⟩
set_option maxRecDepth 100000 in
theorem span_Kind_25 (key : ByteArray) (h0 : (key.toList == [104]) = false) (h1 : (key.toList == [108]) = false) (h2 : (key.toList == [48]) = false) (h3 : (key.toList == [94]) = false) (h4 : (key.toList == [36]) = false) (h5 : (key.toList == [124]) = false) (h6 : (key.toList == [119]) = false) (h7 : (key.toList == [98]) = false) (h8 : (key.toList == [87]) = false) (h9 : (key.toList == [66]) = false) (h10 : (key.toList == [123]) = false) (h11 : (key.toList == [125]) = false) (h12 : (key.toList == [70]) = false) (h13 : (key.toList == [84]) = false) (h14 : (key.toList == [110]) = false) (h15 : (key.toList == [78]) = false) (h16 : (key.toList == [96]) = false) (h17 : (key.toList == [101]) = false) (h18 : (key.toList == [69]) = false) (h19 : (key.toList == [102]) = false) (h20 : (key.toList == [116]) = false) (h21 : (key.toList == [37]) = false) (h22 : (key.toList == [106]) = false) (h23 : (key.toList == [107]) = false) (h24 : (key.toList == [103, 103]) = false) (h25 : (key.toList == [71]) = true) (w : World) :
    Calls Try.prog 30 #[.string key] w fun e w' => e = .returned (.int .i64 3) ∧ w = w' := by
  go_enter Try.func30, Try.ntmps30
  go_wp2
  go_ret
  exact ⟨rfl, rfl⟩
set_option maxRecDepth 100000 in
theorem span_Kind_26 (key : ByteArray) (h0 : (key.toList == [104]) = false) (h1 : (key.toList == [108]) = false) (h2 : (key.toList == [48]) = false) (h3 : (key.toList == [94]) = false) (h4 : (key.toList == [36]) = false) (h5 : (key.toList == [124]) = false) (h6 : (key.toList == [119]) = false) (h7 : (key.toList == [98]) = false) (h8 : (key.toList == [87]) = false) (h9 : (key.toList == [66]) = false) (h10 : (key.toList == [123]) = false) (h11 : (key.toList == [125]) = false) (h12 : (key.toList == [70]) = false) (h13 : (key.toList == [84]) = false) (h14 : (key.toList == [110]) = false) (h15 : (key.toList == [78]) = false) (h16 : (key.toList == [96]) = false) (h17 : (key.toList == [101]) = false) (h18 : (key.toList == [69]) = false) (h19 : (key.toList == [102]) = false) (h20 : (key.toList == [116]) = false) (h21 : (key.toList == [37]) = false) (h22 : (key.toList == [106]) = false) (h23 : (key.toList == [107]) = false) (h24 : (key.toList == [103, 103]) = false) (h25 : (key.toList == [71]) = false) (h26 : (key.toList == [39]) = true) (w : World) :
    Calls Try.prog 30 #[.string key] w fun e w' => e = .returned (.int .i64 3) ∧ w = w' := by
  go_enter Try.func30, Try.ntmps30
  go_wp2
  go_ret
  exact ⟨rfl, rfl⟩
set_option maxRecDepth 100000 in
theorem span_Kind_27 (key : ByteArray) (h0 : (key.toList == [104]) = false) (h1 : (key.toList == [108]) = false) (h2 : (key.toList == [48]) = false) (h3 : (key.toList == [94]) = false) (h4 : (key.toList == [36]) = false) (h5 : (key.toList == [124]) = false) (h6 : (key.toList == [119]) = false) (h7 : (key.toList == [98]) = false) (h8 : (key.toList == [87]) = false) (h9 : (key.toList == [66]) = false) (h10 : (key.toList == [123]) = false) (h11 : (key.toList == [125]) = false) (h12 : (key.toList == [70]) = false) (h13 : (key.toList == [84]) = false) (h14 : (key.toList == [110]) = false) (h15 : (key.toList == [78]) = false) (h16 : (key.toList == [96]) = false) (h17 : (key.toList == [101]) = false) (h18 : (key.toList == [69]) = false) (h19 : (key.toList == [102]) = false) (h20 : (key.toList == [116]) = false) (h21 : (key.toList == [37]) = false) (h22 : (key.toList == [106]) = false) (h23 : (key.toList == [107]) = false) (h24 : (key.toList == [103, 103]) = false) (h25 : (key.toList == [71]) = false) (h26 : (key.toList == [39]) = false) (w : World) :
    Calls Try.prog 30 #[.string key] w fun e w' => e = .returned (.int .i64 0) ∧ w = w' := by
  go_enter Try.func30, Try.ntmps30
  go_wp2
  go_ret
  exact ⟨rfl, rfl⟩
theorem span_Kind (key : ByteArray) (w : World) :
    Calls Try.prog 30 #[.string key] w fun e w' => e = .returned (.int .i64 (Span.kind key.data.toList : Nat)) ∧ w = w' := by
  rcases Bool.eq_false_or_eq_true (key.toList == [104]) with h0 | h0
  · rw [show Span.kind key.data.toList = 1 by rw [Span.key_is h0]; decide]; exact span_Kind_0 key h0 w
  rcases Bool.eq_false_or_eq_true (key.toList == [108]) with h1 | h1
  · rw [show Span.kind key.data.toList = 1 by rw [Span.key_is h1]; decide]; exact span_Kind_1 key h0 h1 w
  rcases Bool.eq_false_or_eq_true (key.toList == [48]) with h2 | h2
  · rw [show Span.kind key.data.toList = 1 by rw [Span.key_is h2]; decide]; exact span_Kind_2 key h0 h1 h2 w
  rcases Bool.eq_false_or_eq_true (key.toList == [94]) with h3 | h3
  · rw [show Span.kind key.data.toList = 1 by rw [Span.key_is h3]; decide]; exact span_Kind_3 key h0 h1 h2 h3 w
  rcases Bool.eq_false_or_eq_true (key.toList == [36]) with h4 | h4
  · rw [show Span.kind key.data.toList = 1 by rw [Span.key_is h4]; decide]; exact span_Kind_4 key h0 h1 h2 h3 h4 w
  rcases Bool.eq_false_or_eq_true (key.toList == [124]) with h5 | h5
  · rw [show Span.kind key.data.toList = 1 by rw [Span.key_is h5]; decide]; exact span_Kind_5 key h0 h1 h2 h3 h4 h5 w
  rcases Bool.eq_false_or_eq_true (key.toList == [119]) with h6 | h6
  · rw [show Span.kind key.data.toList = 1 by rw [Span.key_is h6]; decide]; exact span_Kind_6 key h0 h1 h2 h3 h4 h5 h6 w
  rcases Bool.eq_false_or_eq_true (key.toList == [98]) with h7 | h7
  · rw [show Span.kind key.data.toList = 1 by rw [Span.key_is h7]; decide]; exact span_Kind_7 key h0 h1 h2 h3 h4 h5 h6 h7 w
  rcases Bool.eq_false_or_eq_true (key.toList == [87]) with h8 | h8
  · rw [show Span.kind key.data.toList = 1 by rw [Span.key_is h8]; decide]; exact span_Kind_8 key h0 h1 h2 h3 h4 h5 h6 h7 h8 w
  rcases Bool.eq_false_or_eq_true (key.toList == [66]) with h9 | h9
  · rw [show Span.kind key.data.toList = 1 by rw [Span.key_is h9]; decide]; exact span_Kind_9 key h0 h1 h2 h3 h4 h5 h6 h7 h8 h9 w
  rcases Bool.eq_false_or_eq_true (key.toList == [123]) with h10 | h10
  · rw [show Span.kind key.data.toList = 1 by rw [Span.key_is h10]; decide]; exact span_Kind_10 key h0 h1 h2 h3 h4 h5 h6 h7 h8 h9 h10 w
  rcases Bool.eq_false_or_eq_true (key.toList == [125]) with h11 | h11
  · rw [show Span.kind key.data.toList = 1 by rw [Span.key_is h11]; decide]; exact span_Kind_11 key h0 h1 h2 h3 h4 h5 h6 h7 h8 h9 h10 h11 w
  rcases Bool.eq_false_or_eq_true (key.toList == [70]) with h12 | h12
  · rw [show Span.kind key.data.toList = 1 by rw [Span.key_is h12]; decide]; exact span_Kind_12 key h0 h1 h2 h3 h4 h5 h6 h7 h8 h9 h10 h11 h12 w
  rcases Bool.eq_false_or_eq_true (key.toList == [84]) with h13 | h13
  · rw [show Span.kind key.data.toList = 1 by rw [Span.key_is h13]; decide]; exact span_Kind_13 key h0 h1 h2 h3 h4 h5 h6 h7 h8 h9 h10 h11 h12 h13 w
  rcases Bool.eq_false_or_eq_true (key.toList == [110]) with h14 | h14
  · rw [show Span.kind key.data.toList = 1 by rw [Span.key_is h14]; decide]; exact span_Kind_14 key h0 h1 h2 h3 h4 h5 h6 h7 h8 h9 h10 h11 h12 h13 h14 w
  rcases Bool.eq_false_or_eq_true (key.toList == [78]) with h15 | h15
  · rw [show Span.kind key.data.toList = 1 by rw [Span.key_is h15]; decide]; exact span_Kind_15 key h0 h1 h2 h3 h4 h5 h6 h7 h8 h9 h10 h11 h12 h13 h14 h15 w
  rcases Bool.eq_false_or_eq_true (key.toList == [96]) with h16 | h16
  · rw [show Span.kind key.data.toList = 1 by rw [Span.key_is h16]; decide]; exact span_Kind_16 key h0 h1 h2 h3 h4 h5 h6 h7 h8 h9 h10 h11 h12 h13 h14 h15 h16 w
  rcases Bool.eq_false_or_eq_true (key.toList == [101]) with h17 | h17
  · rw [show Span.kind key.data.toList = 2 by rw [Span.key_is h17]; decide]; exact span_Kind_17 key h0 h1 h2 h3 h4 h5 h6 h7 h8 h9 h10 h11 h12 h13 h14 h15 h16 h17 w
  rcases Bool.eq_false_or_eq_true (key.toList == [69]) with h18 | h18
  · rw [show Span.kind key.data.toList = 2 by rw [Span.key_is h18]; decide]; exact span_Kind_18 key h0 h1 h2 h3 h4 h5 h6 h7 h8 h9 h10 h11 h12 h13 h14 h15 h16 h17 h18 w
  rcases Bool.eq_false_or_eq_true (key.toList == [102]) with h19 | h19
  · rw [show Span.kind key.data.toList = 2 by rw [Span.key_is h19]; decide]; exact span_Kind_19 key h0 h1 h2 h3 h4 h5 h6 h7 h8 h9 h10 h11 h12 h13 h14 h15 h16 h17 h18 h19 w
  rcases Bool.eq_false_or_eq_true (key.toList == [116]) with h20 | h20
  · rw [show Span.kind key.data.toList = 2 by rw [Span.key_is h20]; decide]; exact span_Kind_20 key h0 h1 h2 h3 h4 h5 h6 h7 h8 h9 h10 h11 h12 h13 h14 h15 h16 h17 h18 h19 h20 w
  rcases Bool.eq_false_or_eq_true (key.toList == [37]) with h21 | h21
  · rw [show Span.kind key.data.toList = 2 by rw [Span.key_is h21]; decide]; exact span_Kind_21 key h0 h1 h2 h3 h4 h5 h6 h7 h8 h9 h10 h11 h12 h13 h14 h15 h16 h17 h18 h19 h20 h21 w
  rcases Bool.eq_false_or_eq_true (key.toList == [106]) with h22 | h22
  · rw [show Span.kind key.data.toList = 3 by rw [Span.key_is h22]; decide]; exact span_Kind_22 key h0 h1 h2 h3 h4 h5 h6 h7 h8 h9 h10 h11 h12 h13 h14 h15 h16 h17 h18 h19 h20 h21 h22 w
  rcases Bool.eq_false_or_eq_true (key.toList == [107]) with h23 | h23
  · rw [show Span.kind key.data.toList = 3 by rw [Span.key_is h23]; decide]; exact span_Kind_23 key h0 h1 h2 h3 h4 h5 h6 h7 h8 h9 h10 h11 h12 h13 h14 h15 h16 h17 h18 h19 h20 h21 h22 h23 w
  rcases Bool.eq_false_or_eq_true (key.toList == [103, 103]) with h24 | h24
  · rw [show Span.kind key.data.toList = 3 by rw [Span.key_is h24]; decide]; exact span_Kind_24 key h0 h1 h2 h3 h4 h5 h6 h7 h8 h9 h10 h11 h12 h13 h14 h15 h16 h17 h18 h19 h20 h21 h22 h23 h24 w
  rcases Bool.eq_false_or_eq_true (key.toList == [71]) with h25 | h25
  · rw [show Span.kind key.data.toList = 3 by rw [Span.key_is h25]; decide]; exact span_Kind_25 key h0 h1 h2 h3 h4 h5 h6 h7 h8 h9 h10 h11 h12 h13 h14 h15 h16 h17 h18 h19 h20 h21 h22 h23 h24 h25 w
  rcases Bool.eq_false_or_eq_true (key.toList == [39]) with h26 | h26
  · rw [show Span.kind key.data.toList = 3 by rw [Span.key_is h26]; decide]; exact span_Kind_26 key h0 h1 h2 h3 h4 h5 h6 h7 h8 h9 h10 h11 h12 h13 h14 h15 h16 h17 h18 h19 h20 h21 h22 h23 h24 h25 h26 w
  rw [Span.kind_none]
  · exact span_Kind_27 key h0 h1 h2 h3 h4 h5 h6 h7 h8 h9 h10 h11 h12 h13 h14 h15 h16 h17 h18 h19 h20 h21 h22 h23 h24 h25 h26 w
  · unfold Span.short; simp only [List.mem_cons, List.not_mem_nil, or_false, not_or]; exact ⟨Span.key_not h0, Span.key_not h1, Span.key_not h2, Span.key_not h3, Span.key_not h4, Span.key_not h5, Span.key_not h6, Span.key_not h7, Span.key_not h8, Span.key_not h9, Span.key_not h10, Span.key_not h11, Span.key_not h12, Span.key_not h13, Span.key_not h14, Span.key_not h15, Span.key_not h16⟩
  · unfold Span.long; simp only [List.mem_cons, List.not_mem_nil, or_false, not_or]; exact ⟨Span.key_not h17, Span.key_not h18, Span.key_not h19, Span.key_not h20, Span.key_not h21⟩
  · unfold Span.whole; simp only [List.mem_cons, List.not_mem_nil, or_false, not_or]; exact ⟨Span.key_not h22, Span.key_not h23, Span.key_not h24, Span.key_not h25, Span.key_not h26⟩
/-- Texts in a row. -/
def Span.cells (l : List (List UInt8)) : Array Value := (l.map fun x => Value.string (bs x)).toArray
theorem Span.cells_at {l : List (List UInt8)} {j : Nat} {x : List UInt8} (h : l[j]? = some x) : (Span.cells l)[j]? = some (.string (bs x)) := by
  rw [Span.cells, List.getElem?_toArray, List.getElem?_map, h]; rfl
theorem Span.row (w : World) (l : List (List UInt8)) : Blk (w.alloc (.cells (Span.cells l) 9)) w.heap.size 9 (Span.cells l) := Blk.new _ _ _
end Go.Proofs.Ytchpkeelnfmlbaa
