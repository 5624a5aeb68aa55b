/-
  Package utf tells the document's example.
-/
import Derived.Test.YtkioekjdbekcbaaUtfFeed
import Derived.Test.YtkioekjdbekcbaaUtfCounts
namespace Go.Proofs.Ytkioekjdbekcbaa
open Go.RowKit
theorem lives_next : Utf.next [97, 195, 169] 1 = 3 := by
  have h : Utf.dec [97, 195, 169] = some [[97], [195, 169]] := Utf.dec_of (rs := [[97], [195, 169]]) (by intro r hr; simp at hr; rcases hr with rfl | rfl <;> decide)
  exact Utf.next_at h (i := 1) (by decide)
theorem utf_Feed_at {l : List UInt8} {b : UInt8} {h r : List UInt8} {x : Int} (hf : Utf.feed l b = (h, r, x)) (hs : l.length ≤ 9223372036854775000) (w : World) :
    Calls Try.prog 25 #[.string (bs l), .int .u8 b.toNat] w fun e w' => e = .returned (.tuple #[.string (bs h), .string (bs r), .int .i64 x]) ∧ Below w.heap.size w w' := by
  have := utf_Feed l b hs w
  rw [hf] at this
  exact this
set_option maxHeartbeats 400000 in
set_option maxRecDepth 100000 in
theorem utf_lives (w : World) :
    Calls Try.prog 8 #[] w fun e w' => e = .returned (.bool true) ∧ Below w.heap.size w w' := by
  have f1 : Utf.feed [] 195 = ([195], [], 0) := by decide
  have f2 : Utf.feed [195] 169 = ([], [195, 169], 0) := by decide
  have c1 := Lib.hid (fun w => utf_Feed_at f1 (by decide) w)
  have c2 := Lib.hid (fun w => utf_Feed_at f2 (by decide) w)
  have c3 := utf_Next (⟨#[97, 195, 169]⟩ : ByteArray) 1 (by decide)
  rw [show (⟨#[97, 195, 169]⟩ : ByteArray).data.toList = [97, 195, 169] from rfl, lives_next] at c3
  have C3 := Lib.hid c3
  clear f1 f2 c3
  go_enter Try.func8, Try.ntmps8
  go_wp2_with fail
  refine (c1.out _).mono ?_
  rintro e w1 ⟨rfl, hb1⟩
  go_wp2_with fail
  refine (c2.out _).mono ?_
  rintro e w2 ⟨rfl, hb2⟩
  go_wp2_with fail
  refine (C3.out _).mono ?_
  rintro e w3 ⟨rfl, rfl⟩
  have g1 : (bs [195]).toList = [195] := bs_tl _
  have g2 : (bs []).toList.isEmpty = true := by rw [bs_tl]; rfl
  have g3 : (bs [195, 169]).toList = [195, 169] := bs_tl _
  go_wp2
  go_ret
  exact ⟨rfl, hb1.trans (hb2.mono hb1.size)⟩
end Go.Proofs.Ytkioekjdbekcbaa
