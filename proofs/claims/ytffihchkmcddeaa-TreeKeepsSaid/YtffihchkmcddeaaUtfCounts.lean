/-
  How many runes package utf counts, where it says that one begins, and what it cuts.
-/
import Derived.Test.YtffihchkmcddeaaUtfPlaces
namespace Go.Proofs.Ytffihchkmcddeaa
open Go.RowKit
/-- What the loops over the runes of a text need of the rune i. -/
theorem rune_step (s : ByteArray) {rs : List (List UInt8)} (hd : Utf.dec s.data.toList = some rs) {i : Nat} (hi : i < rs.length) :
    ∃ h : Utf.off rs i < s.size, Utf.off rs (i + 1) = Utf.off rs i + Utf.len s[Utf.off rs i].toNat ∧ Utf.off rs (i + 1) ≤ s.size := by
  have hl : s.data.toList.length = s.size := by simp
  obtain ⟨a, ha, hn⟩ := Utf.first_at hd hi
  have hin := Utf.off_in hd (i + 1)
  have hlt : Utf.off rs i < s.size := by have := Utf.off_lt (Utf.dec_some hd).1 (show i < i + 1 by omega) hi; omega
  rw [byte_get s hlt] at ha
  injection ha with ha
  subst ha
  exact ⟨hlt, hn, by omega⟩
theorem off_ge {s : List UInt8} {rs : List (List UInt8)} (hd : Utf.dec s = some rs) {i : Nat} (hi : i ≤ rs.length) : i ≤ Utf.off rs i := by
  induction i with
  | zero => omega
  | succ i ih =>
    have := ih (by omega)
    have := Utf.off_lt (Utf.dec_some hd).1 (show i < i + 1 by omega) hi
    omega
set_option maxHeartbeats 400000 in
set_option maxRecDepth 100000 in
theorem utf_Cut (s : ByteArray) (n : Int) (hs : s.size ≤ 281474976710656) (w : World) :
    Calls Try.prog 58 #[.string s, .int .i64 n] w fun e w' => e = .returned (.string (bs (Utf.cut s.data.toList n))) ∧ Below w.heap.size w w' := by
  have hl : s.data.toList.length = s.size := by simp
  have c1 := Lib.hid (utf_Valid s (by omega))
  by_cases h0 : n < 0
  · have H : Hid (Utf.cut s.data.toList n = []) := Utf.cut_low h0
    go_enter Try.func58, Try.ntmps58
    go_wp2
    go_ret
    exact ⟨by rw [H.out]; rfl, Below.refl _ _⟩
  · cases hd : Utf.dec s.data.toList with
    | none =>
      rw [Utf.valid_bad hd] at c1
      have H : Hid (Utf.cut s.data.toList n = []) := Utf.cut_bad hd n
      clear hd
      go_enter Try.func58, Try.ntmps58
      go_wp2_with (go_at_call 51; refine (c1.out _).mono ?_; rintro e w1 ⟨rfl, rfl⟩)
      go_ret
      exact ⟨by rw [H.out]; rfl, Below.refl _ _⟩
    | some rs =>
      rw [Utf.valid_ok hd] at c1
      obtain ⟨x, hx, hxs⟩ : ∃ x : Nat, (x : Int) = min n (s.size : Int) ∧ x ≤ s.size := ⟨(min n (s.size : Int)).toNat, by omega, by omega⟩
      have hcut : ∀ i, Utf.Under rs i x → s.extract 0 (Utf.off rs i) = bs (Utf.cut s.data.toList n) := fun i hu => by
        rw [Utf.cut_at hd (i := i) hu.top (by have := hu.here; omega) (fun hlt => by have := hu.far hlt; have := Utf.off_in hd (i + 1); omega), Lib.extract_eq]
        simp [bs]
      have hoff : Hid (∀ i, Utf.off rs i ≤ s.size) := fun i => by have := Utf.off_in hd i; omega
      have c2 := Lib.hid (utf_back s hd hxs (by omega))
      rw [hx] at c2
      have K := Lib.hid hcut
      clear hcut hd hx hxs
      go_enter Try.func58, Try.ntmps58
      go_wp2_with (first | (go_at_call 51; refine (c1.out _).mono ?_; rintro e w1 ⟨rfl, rfl⟩) | (go_at_call 65; refine (c2.out _).mono ?_; rintro e w1 ⟨⟨i, hu, rfl⟩, rfl⟩; have ho := hoff.out i; have E := Lib.hid (K.out i hu); have c3 := Lib.hid (fun w => str_clone (s.extract 0 (Utf.off rs i)) w (by rw [ByteArray.size_extract]; omega))) | (go_at_call 48; refine (c3.out _).mono ?_; rintro e w1 ⟨rfl, hb⟩))
      go_ret
      exact ⟨by rw [← E.out]; rfl, hb⟩
end Go.Proofs.Ytffihchkmcddeaa
