/-
  The keys of motions by words: which motion a key is of; whether a key is there, on both sides.
-/
import Derived.Test.YtjkcdmlbnfibgaaHopGo
import Derived.Test.YtjkcdmlbnfibgaaHopOn
import Derived.Test.YtjkcdmlbnfibgaaUtfPlaces
namespace Go.Proofs.Ytjkcdmlbnfibgaa
open Go.RowKit
namespace Hop
/-- Which motion a key is of (0: on, 1: back, 2: to ends), and whether it goes by great classes. -/
def mot (k : List UInt8) : Option (Nat × Bool) :=
  if k = [119] then some (0, false) else if k = [87] then some (0, true) else if k = [98] then some (1, false) else if k = [66] then some (1, true) else if k = [101] then some (2, false) else if k = [69] then some (2, true) else none
/-- Where one step leads; -1: nowhere. -/
def once (s : List UInt8) (m : Nat) (big : Bool) : Int → Int := if m = 0 then nxt (starts s big ++ [(s.length : Int)]) else if m = 1 then bck (starts s big) else nxt (ends s big)
/-- How often. -/
def often (n : Int) : Nat := (max n 1).toNat
/-- Where a motion leads; -1: nowhere. -/
def goV (s : List UInt8) (p : Int) (k : List UInt8) (n : Int) : Int :=
  match mot k with
  | none => -1
  | some (m, big) => if Utf.place s p = true then times (once s m big) (often n) p else -1
theorem goV_none {s : List UInt8} {p : Int} {k : List UInt8} {n : Int} (h : mot k = none) : goV s p k n = -1 := by rw [goV, h]
theorem goV_off {s : List UInt8} {p : Int} {k : List UInt8} {n : Int} (h : Utf.place s p = false) : goV s p k n = -1 := by
  rw [goV]
  split
  · rfl
  · rw [h]; rfl
theorem goV_at {s : List UInt8} {p : Int} {k : List UInt8} {n : Int} {m : Nat} {big : Bool} (h : mot k = some (m, big)) (hp : Utf.place s p = true) : goV s p k n = times (once s m big) (often n) p := by
  rw [goV, h]
  simp [hp]
theorem al_starts {G : Nat → Int → Prop} : ∀ (l : List (Nat × Int)) (m : Nat), Al G m l → Up (l.map fun x => (x.1 : Int)) ∧ ∀ x ∈ l.map (fun x => (x.1 : Int)), (m : Int) ≤ x
  | [], _, _ => ⟨List.Pairwise.nil, by simp⟩
  | x :: l, m, ⟨h1, _, h3, h4⟩ => by
    obtain ⟨i1, i2⟩ := al_starts l _ h4
    have hb : ∀ y ∈ l.map (fun x => (x.1 : Int)), (x.1 : Int) < y := fun y hy => by have := i2 y hy; omega
    refine ⟨List.pairwise_cons.2 ⟨hb, i1⟩, fun y hy => ?_⟩
    rcases List.mem_cons.1 (by simpa only [List.map_cons] using hy) with rfl | h
    · omega
    · have := hb y h; omega
theorem al_ends {G : Nat → Int → Prop} : ∀ (l : List (Nat × Int)) (m : Nat), Al G m l → Up ((l.map (·.2)).filter fun b => decide (0 ≤ b)) ∧ ∀ x ∈ (l.map (·.2)).filter (fun b => decide (0 ≤ b)), (m : Int) ≤ x
  | [], _, _ => ⟨List.Pairwise.nil, by simp⟩
  | x :: l, m, ⟨h1, _, h3, h4⟩ => by
    obtain ⟨i1, i2⟩ := al_ends l _ h4
    rw [List.map_cons]
    by_cases hx : 0 ≤ x.2
    · rw [List.filter_cons_of_pos (by simpa using hx)]
      refine ⟨List.pairwise_cons.2 ⟨fun y hy => by have := i2 y hy; omega, i1⟩, fun y hy => ?_⟩
      rcases List.mem_cons.1 hy with rfl | h
      · omega
      · have := i2 y h; omega
    · rw [List.filter_cons_of_neg (by simpa using hx)]
      exact ⟨i1, fun y hy => by have := i2 y hy; omega⟩
theorem al_all {G : Nat → Int → Prop} : ∀ (l : List (Nat × Int)) (m : Nat), Al G m l → ∀ x ∈ l, G x.1 x.2 ∧ (x.2 = -1 ∨ (x.1 : Int) ≤ x.2)
  | [], _, _ => by simp
  | x :: l, m, ⟨_, h2, h3, h4⟩ => fun y hy => by
    rcases List.mem_cons.1 hy with rfl | h
    · exact ⟨h2, h3⟩
    · exact al_all l _ h4 y h
theorem starts_up (s : List UInt8) (big : Bool) : Up (starts s big) ∧ ∀ x ∈ starts s big, 0 ≤ x ∧ x ≤ (s.length : Int) := by
  cases h : Utf.dec s with
  | none => rw [starts_bad h]; exact ⟨List.Pairwise.nil, by simp⟩
  | some rs =>
    have ha := words_al h big
    obtain ⟨h1, h2⟩ := al_starts _ _ ha
    refine ⟨h1, fun x hx => ⟨h2 x hx, ?_⟩⟩
    obtain ⟨y, hy, rfl⟩ := List.mem_map.1 (show x ∈ (words s big).map _ from hx)
    obtain ⟨⟨i, _, e⟩, _⟩ := (al_all _ _ ha y hy).1
    have := Utf.off_in h i
    omega
theorem ends_up (s : List UInt8) (big : Bool) : Up (ends s big) ∧ ∀ x ∈ ends s big, 0 ≤ x := by
  cases h : Utf.dec s with
  | none => rw [ends_bad h]; exact ⟨List.Pairwise.nil, by simp⟩
  | some rs => exact al_ends _ _ (words_al h big)
theorem up_le {l : List Int} (h : Up l) : l.Pairwise (· ≤ ·) := List.Pairwise.imp (fun h => Int.le_of_lt h) h
theorem often_pos (n : Int) : 1 ≤ often n := by unfold often; omega
theorem once_ge (s : List UInt8) (m : Nat) (big : Bool) (p : Int) : -1 ≤ once s m big p := by
  unfold once
  split
  · exact nxt_ge _ (fun x hx => by
      rcases List.mem_append.1 hx with h | h
      · exact ((starts_up s big).2 x h).1
      · simp at h; omega) p
  · split
    · exact bck_ge _ (fun x hx => ((starts_up s big).2 x hx).1) p
    · exact nxt_ge _ (ends_up s big).2 p
end Hop
theorem key_test (k : ByteArray) (m : UInt8) : (k.toList == [m]) = decide (k.data.toList = [m]) := by
  have e : k.toList = k.data.toList := bs_tl k.data.toList
  rw [e, Bool.eq_iff_iff]
  simp
theorem hop_Has (k : ByteArray) (w : World) :
    Calls Try.prog 15 #[.string k] w fun e w' => e = .returned (.bool (Hop.mot k.data.toList).isSome) ∧ w = w' := by
  have t119 := key_test k 119
  have t87 := key_test k 87
  have t98 := key_test k 98
  have t66 := key_test k 66
  have t101 := key_test k 101
  have t69 := key_test k 69
  by_cases h119 : k.data.toList = [119]
  · rw [decide_eq_true h119] at t119
    clear t87
    clear t98
    clear t66
    clear t101
    clear t69
    have H : Hid ((Hop.mot k.data.toList).isSome = true) := by show _ = _; rw [h119]; rfl
    clear h119
    go_enter Try.func15, Try.ntmps15
    go_wp2
    go_ret
    exact ⟨by rw [H.out]; rfl, rfl⟩
  · skip
    by_cases h87 : k.data.toList = [87]
    · rw [decide_eq_true h87] at t87
      rw [decide_eq_false h119] at t119
      clear t98
      clear t66
      clear t101
      clear t69
      have H : Hid ((Hop.mot k.data.toList).isSome = true) := by show _ = _; rw [h87]; rfl
      clear h119 h87
      go_enter Try.func15, Try.ntmps15
      go_wp2
      go_ret
      exact ⟨by rw [H.out]; rfl, rfl⟩
    · skip
      by_cases h98 : k.data.toList = [98]
      · rw [decide_eq_true h98] at t98
        rw [decide_eq_false h119] at t119
        rw [decide_eq_false h87] at t87
        clear t66
        clear t101
        clear t69
        have H : Hid ((Hop.mot k.data.toList).isSome = true) := by show _ = _; rw [h98]; rfl
        clear h119 h87 h98
        go_enter Try.func15, Try.ntmps15
        go_wp2
        go_ret
        exact ⟨by rw [H.out]; rfl, rfl⟩
      · skip
        by_cases h66 : k.data.toList = [66]
        · rw [decide_eq_true h66] at t66
          rw [decide_eq_false h119] at t119
          rw [decide_eq_false h87] at t87
          rw [decide_eq_false h98] at t98
          clear t101
          clear t69
          have H : Hid ((Hop.mot k.data.toList).isSome = true) := by show _ = _; rw [h66]; rfl
          clear h119 h87 h98 h66
          go_enter Try.func15, Try.ntmps15
          go_wp2
          go_ret
          exact ⟨by rw [H.out]; rfl, rfl⟩
        · skip
          by_cases h101 : k.data.toList = [101]
          · rw [decide_eq_true h101] at t101
            rw [decide_eq_false h119] at t119
            rw [decide_eq_false h87] at t87
            rw [decide_eq_false h98] at t98
            rw [decide_eq_false h66] at t66
            clear t69
            have H : Hid ((Hop.mot k.data.toList).isSome = true) := by show _ = _; rw [h101]; rfl
            clear h119 h87 h98 h66 h101
            go_enter Try.func15, Try.ntmps15
            go_wp2
            go_ret
            exact ⟨by rw [H.out]; rfl, rfl⟩
          · skip
            by_cases h69 : k.data.toList = [69]
            · rw [decide_eq_true h69] at t69
              rw [decide_eq_false h119] at t119
              rw [decide_eq_false h87] at t87
              rw [decide_eq_false h98] at t98
              rw [decide_eq_false h66] at t66
              rw [decide_eq_false h101] at t101
              have H : Hid ((Hop.mot k.data.toList).isSome = true) := by show _ = _; rw [h69]; rfl
              clear h119 h87 h98 h66 h101 h69
              go_enter Try.func15, Try.ntmps15
              go_wp2
              go_ret
              exact ⟨by rw [H.out]; rfl, rfl⟩
            · skip
              rw [decide_eq_false h119] at t119
              rw [decide_eq_false h87] at t87
              rw [decide_eq_false h98] at t98
              rw [decide_eq_false h66] at t66
              rw [decide_eq_false h101] at t101
              rw [decide_eq_false h69] at t69
              have H : Hid ((Hop.mot k.data.toList).isSome = false) := by show _ = _; simp [Hop.mot, *]
              clear h119 h87 h98 h66 h101 h69
              go_enter Try.func15, Try.ntmps15
              go_wp2
              go_ret
              exact ⟨by rw [H.out]; rfl, rfl⟩
theorem ref15_Has (k : ByteArray) (w : World) :
    Calls Try.prog 16 #[.string k] w fun e w' => e = .returned (.bool (Hop.mot k.data.toList).isSome) ∧ w = w' := by
  have t119 := key_test k 119
  have t98 := key_test k 98
  have t101 := key_test k 101
  have t87 := key_test k 87
  have t66 := key_test k 66
  have t69 := key_test k 69
  by_cases h119 : k.data.toList = [119]
  · rw [decide_eq_true h119] at t119
    clear t98
    clear t101
    clear t87
    clear t66
    clear t69
    have H : Hid ((Hop.mot k.data.toList).isSome = true) := by show _ = _; rw [h119]; rfl
    clear h119
    go_enter Try.func16, Try.ntmps16
    go_wp2
    go_ret
    exact ⟨by rw [H.out]; rfl, rfl⟩
  · skip
    by_cases h98 : k.data.toList = [98]
    · rw [decide_eq_true h98] at t98
      rw [decide_eq_false h119] at t119
      clear t101
      clear t87
      clear t66
      clear t69
      have H : Hid ((Hop.mot k.data.toList).isSome = true) := by show _ = _; rw [h98]; rfl
      clear h119 h98
      go_enter Try.func16, Try.ntmps16
      go_wp2
      go_ret
      exact ⟨by rw [H.out]; rfl, rfl⟩
    · skip
      by_cases h101 : k.data.toList = [101]
      · rw [decide_eq_true h101] at t101
        rw [decide_eq_false h119] at t119
        rw [decide_eq_false h98] at t98
        clear t87
        clear t66
        clear t69
        have H : Hid ((Hop.mot k.data.toList).isSome = true) := by show _ = _; rw [h101]; rfl
        clear h119 h98 h101
        go_enter Try.func16, Try.ntmps16
        go_wp2
        go_ret
        exact ⟨by rw [H.out]; rfl, rfl⟩
      · skip
        by_cases h87 : k.data.toList = [87]
        · rw [decide_eq_true h87] at t87
          rw [decide_eq_false h119] at t119
          rw [decide_eq_false h98] at t98
          rw [decide_eq_false h101] at t101
          clear t66
          clear t69
          have H : Hid ((Hop.mot k.data.toList).isSome = true) := by show _ = _; rw [h87]; rfl
          clear h119 h98 h101 h87
          go_enter Try.func16, Try.ntmps16
          go_wp2
          go_ret
          exact ⟨by rw [H.out]; rfl, rfl⟩
        · skip
          by_cases h66 : k.data.toList = [66]
          · rw [decide_eq_true h66] at t66
            rw [decide_eq_false h119] at t119
            rw [decide_eq_false h98] at t98
            rw [decide_eq_false h101] at t101
            rw [decide_eq_false h87] at t87
            clear t69
            have H : Hid ((Hop.mot k.data.toList).isSome = true) := by show _ = _; rw [h66]; rfl
            clear h119 h98 h101 h87 h66
            go_enter Try.func16, Try.ntmps16
            go_wp2
            go_ret
            exact ⟨by rw [H.out]; rfl, rfl⟩
          · skip
            by_cases h69 : k.data.toList = [69]
            · rw [decide_eq_true h69] at t69
              rw [decide_eq_false h119] at t119
              rw [decide_eq_false h98] at t98
              rw [decide_eq_false h101] at t101
              rw [decide_eq_false h87] at t87
              rw [decide_eq_false h66] at t66
              have H : Hid ((Hop.mot k.data.toList).isSome = true) := by show _ = _; rw [h69]; rfl
              clear h119 h98 h101 h87 h66 h69
              go_enter Try.func16, Try.ntmps16
              go_wp2
              go_ret
              exact ⟨by rw [H.out]; rfl, rfl⟩
            · skip
              rw [decide_eq_false h119] at t119
              rw [decide_eq_false h98] at t98
              rw [decide_eq_false h101] at t101
              rw [decide_eq_false h87] at t87
              rw [decide_eq_false h66] at t66
              rw [decide_eq_false h69] at t69
              have H : Hid ((Hop.mot k.data.toList).isSome = false) := by show _ = _; simp [Hop.mot, *]
              clear h119 h98 h101 h87 h66 h69
              go_enter Try.func16, Try.ntmps16
              go_wp2
              go_ret
              exact ⟨by rw [H.out]; rfl, rfl⟩
end Go.Proofs.Ytjkcdmlbnfibgaa
