/-
  How many runes package utf counts, where it says that one begins, and what it cuts.
-/
import Derived.Test.YtlfhfpjffdaomaaDoorUtfPlaces
namespace Go.Proofs.YtlfhfpjffdaomaaDoor
open Go.RowKit
/-- What the loops over the runes of a text need of the rune i. -/
theorem rune_step (s : ByteArray) {rs : List (List UInt8)} (hd : Utf.dec s.data.toList = some rs) {i : Nat} (hi : i < rs.length) :
    ∃ h : Utf.off rs i < s.size, Utf.off rs (i + 1) = Utf.off rs i + Utf.len s[Utf.off rs i].toNat ∧ Utf.off rs (i + 1) ≤ s.size := by
  have hl : s.data.toList.length = s.size := by simp
  obtain ⟨a, ha, hn⟩ := Utf.first_at hd hi
  have hin := Utf.off_in hd (i + 1)
  have hlt : Utf.off rs i < s.size := by have := Utf.off_lt (Utf.dec_some hd).1 (show i < i + 1 by omega) hi; omega
  rw [byte_get s hlt] at ha
  injection ha with ha
  subst ha
  exact ⟨hlt, hn, by omega⟩
theorem off_ge {s : List UInt8} {rs : List (List UInt8)} (hd : Utf.dec s = some rs) {i : Nat} (hi : i ≤ rs.length) : i ≤ Utf.off rs i := by
  induction i with
  | zero => omega
  | succ i ih =>
    have := ih (by omega)
    have := Utf.off_lt (Utf.dec_some hd).1 (show i < i + 1 by omega) hi
    omega
end Go.Proofs.YtlfhfpjffdaomaaDoor
