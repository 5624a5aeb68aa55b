/-
  The document's answer on where finds lead: what all ways share.
-/
import Derived.Test.YtkhihmkpmlokiaaSeekRef
import Derived.Test.YtkhihmkpmlokiaaSeekStep
import Derived.Test.YtkhihmkpmlokiaaLineRefs2
import Derived.Laws.AppendOwnNone
namespace Go.Proofs.Ytkhihmkpmlokiaa
open Go.RowKit
theorem own_belowd {w w' : World} {base : Nat} {e : TypeId} {size n : Nat} {v : Value} {xs : List Value} (h : w.ownsRow base e size v n xs) (hb : Below w.drew.heap.size w.drew w') : w'.ownsRow base e size v n xs := own_below (w := w.drew) h hb
theorem ref16_Go_wrong (s : ByteArray) (p k : Int) (r : ByteArray) (n : Int) (hs : s.size ≤ 1000000000000) (h : Seek.right k r.data.toList = false ∨ Utf.place s.data.toList p = false) (w : World) :
    Calls Try.prog 9 #[.string s, .int .i64 p, findV k r, .int .i64 n] w fun e w' => e = .returned (.tuple #[.int .i64 0, .bool false]) ∧ Below w.heap.size w w' := by
  have h0 := find_new w k r
  obtain ⟨c0, c1⟩ := find_cells w k r
  have CR := Lib.hid (fun w => ref16_Right k r w)
  have CP := Lib.hid (fun w => ref_Place s p (by omega) w)
  cases hR : Seek.right k r.data.toList with
  | false =>
    rw [hR] at CR
    clear hR h CP
    go_enter Try.func9, Try.ntmps9
    go_wp2_with (go_at_call 11; refine (CR.out _).mono ?_; rintro e w1 ⟨rfl, hb1⟩)
    go_ret2
    exact ⟨rfl, h0.trans (hb1.mono h0.size)⟩
  | true =>
    have hP : Utf.place s.data.toList p = false := by
      rcases h with h | h
      · rw [hR] at h; cases h
      · exact h
    rw [hR] at CR
    rw [hP] at CP
    clear hR h hP
    go_enter Try.func9, Try.ntmps9
    go_wp2_with (first | (go_at_call 11; refine (CR.out _).mono ?_; rintro e w1 ⟨rfl, hb1⟩) | (go_at_call 22; refine (CP.out _).mono ?_; rintro e w2 ⟨rfl, hb2⟩; replace hb1 := below_onr hb1 hb2))
    go_ret2
    exact ⟨rfl, h0.trans (hb1.mono h0.size)⟩
/-- What is so of the way at the rune u. -/
def Seek.At (rs : List (List UInt8)) (G : Nat → List Int) (i j u : Nat) (q : Nat) (xs : List Int) : Prop := i ≤ u ∧ u ≤ j ∧ q = Utf.off rs u ∧ xs = G u
/-- A list that is empty is no memory. -/
def Seek.Void (A : Option Addr) (c : Nat) (xs : List Int) : Prop := xs = [] → A = none ∧ c = 0
theorem Seek.void_of {A : Option Addr} {c : Nat} {xs : List Int} (h : xs ≠ []) : Seek.Void A c xs := fun e => absurd e h
theorem Seek.ne_void {v v' : Value} {P : Prop} (h : v' = .slice none 0 0 ↔ v = .slice none 0 0 ∧ P) (hv : ¬ P) : v' ≠ .slice none 0 0 := fun e => hv (h.1 e).2
theorem own_some {w : World} {base : Nat} {e : TypeId} {size n c : Nat} {A : Option Addr} {xs : List Value} (h : w.ownsRow base e size (.slice A n c) n xs) (hn : n ≠ 0) : ∃ g, A = some ⟨g, 0, none⟩ := by
  rcases h.2 with ⟨_, h0⟩ | ⟨g, cap, cur, hv, _⟩
  · exact absurd h0 hn
  · injection hv with h1
    exact ⟨g, h1⟩
theorem add_at (g d : Nat) : (⟨g, 0, none⟩ : Addr).add d = ⟨g, d, none⟩ := by unfold Addr.add; split <;> simp_all
theorem own_cap {w : World} {base : Nat} {e : TypeId} {size n c : Nat} {A : Option Addr} {xs : List Value} (h : w.ownsRow base e size (.slice A n c) n xs) : n ≤ c := by
  rcases h.2 with ⟨_, h0⟩ | ⟨g, cap, cur, hv, _, _, hn, _⟩
  · omega
  · injection hv with h1 h2 h3
    omega
theorem int_cells (xs : List Int) : ∀ u ∈ xs.map (Value.int .i64), u.oneCell' = true := fun u hu => by
  obtain ⟨x, _, rfl⟩ := List.mem_map.1 hu
  rfl
theorem text_differs {a : List UInt8} {r : ByteArray} (h : a ≠ r.data.toList) : ((bs a).toList == r.toList) = false ∧ ((bs a).toList != r.toList) = true := by
  have e : r.toList = r.data.toList := by have := bs_tl r.data.toList; rwa [bs_data] at this
  rw [bs_tl, e]
  simp [h]
theorem text_alike {a : List UInt8} {r : ByteArray} (h : a = r.data.toList) : ((bs a).toList == r.toList) = true ∧ ((bs a).toList != r.toList) = false := by
  have e : r.toList = r.data.toList := by have := bs_tl r.data.toList; rwa [bs_data] at this
  rw [bs_tl, e]
  simp [h]
end Go.Proofs.Ytkhihmkpmlokiaa
