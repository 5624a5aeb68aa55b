/-
  May a tree be: the program's answer.
-/
import Derived.Test.YtchmiigjiojiaaaDoorHeldNexts
namespace Go.Proofs.YtchmiigjiojiaaaDoor
open Go.RowKit
open Tre
set_option maxHeartbeats 2000000 in
set_option maxRecDepth 100000 in
theorem tree_Right {A : Option Addr} {c : Nat} {l : List Nd} {cur : Int} {w : World} (hx : Nds w A l) (hc : l.length ≤ c) (hm : l.length ≤ 2000) :
    Calls Tryd.prog 17 #[.agg #[.slice A l.length c, .int .i64 cur]] w fun e w' => e = .returned (.bool (decide (Right l cur))) ∧ Below w.heap.size w w' := by
  have D1 : Hid (1 ≤ l.length ∧ l.length ≤ 1024 → 0 ≤ cur ∧ cur < l.length → Ups l l.length → Nexts l l.length → decide (Right l cur) = true) := fun a b c d => decide_eq_true ⟨a.1, a.2, b.1, b.2, c, d⟩
  have D2 : Hid (¬ (1 ≤ l.length ∧ l.length ≤ 1024) → decide (Right l cur) = false) := fun h => decide_eq_false fun r => h ⟨r.one, r.few⟩
  have D3 : Hid (¬ (0 ≤ cur ∧ cur < l.length) → decide (Right l cur) = false) := fun h => decide_eq_false fun r => h ⟨r.low, r.high⟩
  have D4 : Hid (¬ Ups l l.length → decide (Right l cur) = false) := fun h => decide_eq_false fun r => h r.ups
  have D5 : Hid (¬ Nexts l l.length → decide (Right l cur) = false) := fun h => decide_eq_false fun r => h r.nexts
  have HB : Hid (∀ u, Below ((w.alloc (.cells #[.slice A l.length c, .int .i64 cur] 24)).alloc (.cells #[.slice A l.length c, .int .i64 cur] 64)).heap.size ((w.alloc (.cells #[.slice A l.length c, .int .i64 cur] 24)).alloc (.cells #[.slice A l.length c, .int .i64 cur] 64)) u → u.cell? ⟨w.heap.size + 1, 0, none⟩ = some (.slice A l.length c) ∧ u.cell? ⟨w.heap.size + 1, 1, none⟩ = some (.int .i64 cur) ∧ Nds u A l ∧ Below w.heap.size w u) := fun u hu => by
    have B0 := Blk.new (w.alloc (.cells #[.slice A l.length c, .int .i64 cur] 24)) 64 #[.slice A l.length c, .int .i64 cur]
    have B1 := ba (ba (Below.refl w.heap.size w) (.cells #[.slice A l.length c, .int .i64 cur] 24)) (.cells #[.slice A l.length c, .int .i64 cur] 64)
    have B3 := B0.below hu B0.lt
    rw [World.size_alloc] at B3
    have B2 := B1.trans (hu.mono B1.size)
    exact ⟨B3.cell 0, B3.cell 1, hx.below B2, B2⟩
  obtain ⟨z1, z2, z3, z4⟩ := HB.out _ (Below.refl _ _)
  have z5 : Hid (Nds ((w.alloc (.cells #[.slice A l.length c, .int .i64 cur] 24)).alloc (.cells #[.slice A l.length c, .int .i64 cur] 64)) A l) := z3
  have S1 : Hid (Below ((w.alloc (.cells #[.slice A l.length c, .int .i64 cur] 24)).alloc (.cells #[.slice A l.length c, .int .i64 cur] 64)).heap.size ((w.alloc (.cells #[.slice A l.length c, .int .i64 cur] 24)).alloc (.cells #[.slice A l.length c, .int .i64 cur] 64)) ((w.alloc (.cells #[.slice A l.length c, .int .i64 cur] 24)).alloc (.cells #[.slice A l.length c, .int .i64 cur] 64))) := Below.refl _ _
  clear z3
  by_cases h1 : 1 ≤ l.length
  · by_cases h2 : l.length ≤ 1024
    · have HAS := Lib.hid (fun u => held_has A l.length c cur cur u)
      have UPS := Lib.hid (fun u (h : Nds u A l) => held_upsRight (cur := cur) h h1 hc hm)
      by_cases h3 : 0 ≤ cur ∧ cur < l.length
      · rw [decide_eq_true h3] at HAS
        by_cases h4 : Ups l l.length
        · rw [decide_eq_true h4] at UPS
          have NXT := Lib.hid (fun u (h : Nds u A l) => held_nextsRight (cur := cur) h h1 hc hm h4)
          by_cases h5 : Nexts l l.length
          · rw [decide_eq_true h5] at NXT
            have H := Lib.hid (D1.out ⟨h1, h2⟩ h3 h4 h5)
            clear h3 h4 h5 hx
            go_enter Tryd.func17, Tryd.ntmps17
            go_wp2_with (first
              | (go_at_call 33; refine (HAS.out _).mono ?_; rintro e u1 ⟨rfl, hb1⟩; have S2 := hb1; obtain ⟨z1, z2, z3, z4⟩ := HB.out _ S2; have z6 := Lib.hid z3; clear z3)
              | (go_at_call 34; refine (UPS.out _ z6.out).mono ?_; rintro e u2 ⟨rfl, hb2⟩; have S3 := S2.trans (hb2.mono S2.size); obtain ⟨y1, y2, y3, y4⟩ := HB.out _ S3; have y6 := Lib.hid y3; clear y3)
              | (go_at_call 35; refine (NXT.out _ y6.out).mono ?_; rintro e u3 ⟨rfl, hb3⟩; have S4 := S3.trans (hb3.mono S3.size); obtain ⟨v1, v2, v3, v4⟩ := HB.out _ S4))
            go_ret
            exact ⟨by rw [H.out]; rfl, v4⟩
          · rw [decide_eq_false h5] at NXT
            have H := Lib.hid (D5.out h5)
            clear h3 h4 h5 hx
            go_enter Tryd.func17, Tryd.ntmps17
            go_wp2_with (first
              | (go_at_call 33; refine (HAS.out _).mono ?_; rintro e u1 ⟨rfl, hb1⟩; have S2 := hb1; obtain ⟨z1, z2, z3, z4⟩ := HB.out _ S2; have z6 := Lib.hid z3; clear z3)
              | (go_at_call 34; refine (UPS.out _ z6.out).mono ?_; rintro e u2 ⟨rfl, hb2⟩; have S3 := S2.trans (hb2.mono S2.size); obtain ⟨y1, y2, y3, y4⟩ := HB.out _ S3; have y6 := Lib.hid y3; clear y3)
              | (go_at_call 35; refine (NXT.out _ y6.out).mono ?_; rintro e u3 ⟨rfl, hb3⟩; have S4 := S3.trans (hb3.mono S3.size); obtain ⟨v1, v2, v3, v4⟩ := HB.out _ S4))
            go_ret
            exact ⟨by rw [H.out]; rfl, v4⟩
        · rw [decide_eq_false h4] at UPS
          have H := Lib.hid (D4.out h4)
          clear h3 h4 hx
          go_enter Tryd.func17, Tryd.ntmps17
          go_wp2_with (first
            | (go_at_call 33; refine (HAS.out _).mono ?_; rintro e u1 ⟨rfl, hb1⟩; have S2 := hb1; obtain ⟨z1, z2, z3, z4⟩ := HB.out _ S2; have z6 := Lib.hid z3; clear z3)
            | (go_at_call 34; refine (UPS.out _ z6.out).mono ?_; rintro e u2 ⟨rfl, hb2⟩; have S3 := S2.trans (hb2.mono S2.size); obtain ⟨y1, y2, y3, y4⟩ := HB.out _ S3; have y6 := Lib.hid y3; clear y3))
          go_ret
          exact ⟨by rw [H.out]; rfl, y4⟩
      · rw [decide_eq_false h3] at HAS
        have H := Lib.hid (D3.out h3)
        clear h3 hx
        go_enter Tryd.func17, Tryd.ntmps17
        go_wp2_with (go_at_call 33; refine (HAS.out _).mono ?_; rintro e u1 ⟨rfl, hb1⟩; have S2 := hb1; obtain ⟨z1, z2, z3, z4⟩ := HB.out _ S2)
        go_ret
        exact ⟨by rw [H.out]; rfl, z4⟩
    · have H := Lib.hid (D2.out (by omega))
      clear hx z1 z2 z4 z5 S1
      have h3 : ¬ l.length < 1 := by omega
      have h4 : 1024 < l.length := by omega
      go_enter Tryd.func17, Tryd.ntmps17
      go_wp2_with fail
      go_ret
      exact ⟨by rw [H.out]; rfl, ba (Below.refl _ _) _⟩
  · have H := Lib.hid (D2.out (by omega))
    have h3 : l.length < 1 := by omega
    clear hx z1 z2 z4 z5 S1
    go_enter Tryd.func17, Tryd.ntmps17
    go_wp2_with fail
    go_ret
    exact ⟨by rw [H.out]; rfl, ba (Below.refl _ _) _⟩
end Go.Proofs.YtchmiigjiojiaaaDoor
