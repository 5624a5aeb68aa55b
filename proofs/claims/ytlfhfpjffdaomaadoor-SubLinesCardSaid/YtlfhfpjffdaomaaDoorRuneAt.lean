/-
  The bytes of a rune stand only where it is a rune of the text: without a program.
-/
import Derived.Test.YtlfhfpjffdaomaaDoorUtf
namespace Go.Proofs.YtlfhfpjffdaomaaDoor
namespace Seek
open Utf (dec off one)
/-- The bytes of a rune stand only where it is a rune of the text. -/
theorem pre_iff {s r : List UInt8} {rs : List (List UInt8)} (hd : dec s = some rs) (hr : one r = true) (x : Nat) : r <+: s.drop x ↔ ∃ i : Nat, rs[i]? = some r ∧ off rs i = x := by
  obtain ⟨hall, hs⟩ := Utf.dec_some hd
  constructor
  · rintro ⟨t, ht⟩
    obtain ⟨a, q, ha, hh, _, _⟩ := Utf.one_shape hr
    have hx : s[x]? = some a := by
      have : (s.drop x)[0]? = some a := by rw [← ht, ha]; rfl
      simpa using this
    have hxl : x < s.length := (List.getElem?_eq_some_iff.1 hx).1
    obtain ⟨i, hi, rfl⟩ := (Utf.apart_iff hd (Nat.le_of_lt hxl)).1 (by rw [Utf.apart, hx]; exact hh)
    have hdr : s.drop (off rs i) = (rs.drop i).flatten := by rw [hs]; exact Utf.off_drop rs i
    have h1 := Utf.dec_of (rs := rs.drop i) (fun y hy => hall y (List.mem_of_mem_drop hy))
    rw [← hdr, ← ht, Utf.dec_one t hr] at h1
    cases hq : dec t with
    | none => rw [hq] at h1; cases h1
    | some ts =>
      rw [hq] at h1
      injection h1 with h1
      refine ⟨i, ?_, rfl⟩
      have : (rs.drop i)[0]? = some r := by rw [← h1]; rfl
      simpa using this
  · rintro ⟨i, hi, rfl⟩
    obtain ⟨hil, he⟩ := List.getElem?_eq_some_iff.1 hi
    refine ⟨(rs.drop (i + 1)).flatten, ?_⟩
    rw [hs, Utf.off_drop, List.drop_eq_getElem_cons hil, he, List.flatten_cons]
end Seek
end Go.Proofs.YtlfhfpjffdaomaaDoor
