/-
  The document's answer: Go.
-/
import Derived.Test.YtjkcdmlbnfibgaaHopRefGoW
import Derived.Test.YtjkcdmlbnfibgaaHopRefGoB
import Derived.Test.YtjkcdmlbnfibgaaHopCalls
namespace Go.Proofs.Ytjkcdmlbnfibgaa
open Go.RowKit
theorem ref15_Go_no (s : ByteArray) (p : Int) (k : ByteArray) (n : Int) (hs : s.size ≤ 1000000000000) (h : Hop.mot k.data.toList = none ∨ Utf.place s.data.toList p = false) (w : World) :
    Calls Try.prog 14 #[.string s, .int .i64 p, .string k, .int .i64 n] w fun e w' => e = .returned (Hop.res (-1)) ∧ Below w.heap.size w w' := by
  have c1 := ref15_Has k
  have c2 := Lib.hid (ref_Place s p (by omega))
  cases hm : Hop.mot k.data.toList with
  | none =>
    rw [hm, show (none : Option (Nat × Bool)).isSome = false from rfl] at c1
    have C1 := Lib.hid c1
    clear c1 h hm
    go_enter Try.func14, Try.ntmps14
    go_wp2_with (go_at_call 16; refine (C1.out _).mono ?_; rintro e w1 ⟨rfl, rfl⟩)
    go_ret2
    exact ⟨rfl, Below.refl _ _⟩
  | some m =>
    rw [hm, show (some m).isSome = true from rfl] at c1
    have C1 := Lib.hid c1
    have hp : Utf.place s.data.toList p = false := h.resolve_left (by rw [hm]; simp)
    rw [hp] at c2
    clear c1 h hm hp
    go_enter Try.func14, Try.ntmps14
    go_wp2_with (first
      | (go_at_call 16; refine (C1.out _).mono ?_; rintro e w1 ⟨rfl, rfl⟩)
      | (go_at_call 25; refine (c2.out _).mono ?_; rintro e w1 ⟨rfl, hb⟩))
    go_ret2
    exact ⟨rfl, hb⟩
theorem ref15_Go (s : ByteArray) (p : Int) (k : ByteArray) (n : Int) (hs : s.size ≤ 1000000000000) (hn : n ≤ 9223372036854775807) (w : World) :
    Calls Try.prog 14 #[.string s, .int .i64 p, .string k, .int .i64 n] w fun e w' => e = .returned (Hop.res (Hop.goV s.data.toList p k.data.toList n)) ∧ Below w.heap.size w w' := by
  rcases Hop.mot_cases k.data.toList with h | h | h | h | h | h | h
  · rw [Hop.goV_none h]; exact ref15_Go_no s p k n hs (.inl h) w
  · obtain rfl : k = bs [119] := by rw [← bs_data k, h]
    cases hp : Utf.place s.data.toList p with
    | false => rw [Hop.goV_off hp]; exact ref15_Go_no s p _ n hs (.inr hp) w
    | true =>
      rw [Hop.goV_at (m := 0) (big := false) rfl hp]
      by_cases h1 : n < 1
      · exact ref15_Go_119_low s p n hs hn h1 hp (hop_place hp).1 w
      · exact ref15_Go_119_all s p n hs hn h1 hp (hop_place hp).1 w
  · obtain rfl : k = bs [87] := by rw [← bs_data k, h]
    cases hp : Utf.place s.data.toList p with
    | false => rw [Hop.goV_off hp]; exact ref15_Go_no s p _ n hs (.inr hp) w
    | true =>
      rw [Hop.goV_at (m := 0) (big := true) rfl hp]
      by_cases h1 : n < 1
      · exact ref15_Go_87_low s p n hs hn h1 hp (hop_place hp).1 w
      · exact ref15_Go_87_all s p n hs hn h1 hp (hop_place hp).1 w
  · obtain rfl : k = bs [98] := by rw [← bs_data k, h]
    cases hp : Utf.place s.data.toList p with
    | false => rw [Hop.goV_off hp]; exact ref15_Go_no s p _ n hs (.inr hp) w
    | true =>
      rw [Hop.goV_at (m := 1) (big := false) rfl hp]
      by_cases h1 : n < 1
      · exact ref15_Go_98_low s p n hs hn h1 hp (hop_place hp).1 w
      · exact ref15_Go_98_all s p n hs hn h1 hp (hop_place hp).1 w
  · obtain rfl : k = bs [66] := by rw [← bs_data k, h]
    cases hp : Utf.place s.data.toList p with
    | false => rw [Hop.goV_off hp]; exact ref15_Go_no s p _ n hs (.inr hp) w
    | true =>
      rw [Hop.goV_at (m := 1) (big := true) rfl hp]
      by_cases h1 : n < 1
      · exact ref15_Go_66_low s p n hs hn h1 hp (hop_place hp).1 w
      · exact ref15_Go_66_all s p n hs hn h1 hp (hop_place hp).1 w
  · obtain rfl : k = bs [101] := by rw [← bs_data k, h]
    cases hp : Utf.place s.data.toList p with
    | false => rw [Hop.goV_off hp]; exact ref15_Go_no s p _ n hs (.inr hp) w
    | true =>
      rw [Hop.goV_at (m := 2) (big := false) rfl hp]
      by_cases h1 : n < 1
      · exact ref15_Go_101_low s p n hs hn h1 hp (hop_place hp).1 w
      · exact ref15_Go_101_all s p n hs hn h1 hp (hop_place hp).1 w
  · obtain rfl : k = bs [69] := by rw [← bs_data k, h]
    cases hp : Utf.place s.data.toList p with
    | false => rw [Hop.goV_off hp]; exact ref15_Go_no s p _ n hs (.inr hp) w
    | true =>
      rw [Hop.goV_at (m := 2) (big := true) rfl hp]
      by_cases h1 : n < 1
      · exact ref15_Go_69_low s p n hs hn h1 hp (hop_place hp).1 w
      · exact ref15_Go_69_all s p n hs hn h1 hp (hop_place hp).1 w
end Go.Proofs.Ytjkcdmlbnfibgaa
