/-
  The document's way through a line, without a program: what it has gathered at each place.
-/
import Derived.Test.YtkhihmkpmlokiaaSeekWays
namespace Go.Proofs.Ytkhihmkpmlokiaa
namespace Seek
open Utf (dec off one place rune next prev)
open Line (L of_)
theorem step_hits {s r : List UInt8} {rs : List (List UInt8)} (hd : dec s = some rs) (h1 : one r = true) {a u : Nat} (ha : a ≤ off rs u) (hu : u < rs.length) :
    hits s r a (off rs (u + 1)) = hits s r a (off rs u) ++ (if rune s (off rs u : Int) = r then [(off rs u : Int)] else []) := by
  refine hits_more ha (Utf.off_lt (Utf.dec_some hd).1 (by omega) (by omega)) fun x hx1 hx2 hx => ?_
  obtain ⟨v, hv, he⟩ := (rune_iff hd (Utf.one_ne h1) _).1 hx
  have := off_lt_iff (rs := rs) (i := u) (j := v) (by omega)
  have := off_lt_iff (rs := rs) (i := v) (j := u + 1) (by omega)
  omega
theorem side_snoc (on : Bool) (l : List Int) (p q : Int) : side on (l ++ [q]) p = if on then (if p < q then side on l p ++ [q] else side on l p) else (if q < p then q :: side on l p else side on l p) := by
  have e1 : side true (l ++ [q]) p = side true l p ++ [q].filter (fun x => decide (p < x)) := by
    show (l ++ [q]).filter _ = l.filter _ ++ _
    rw [List.filter_append]
  have e2 : side false (l ++ [q]) p = ([q].filter (fun x => decide (x < p))).reverse ++ side false l p := by
    show ((l ++ [q]).filter _).reverse = _ ++ (l.filter _).reverse
    rw [List.filter_append, List.reverse_append]
  cases on with
  | true =>
    rw [e1, if_pos rfl]
    by_cases h : p < q
    · rw [if_pos h, List.filter_cons_of_pos (by simpa using h), List.filter_nil]
    · rw [if_neg h, List.filter_cons_of_neg (by simpa using h), List.filter_nil, List.append_nil]
  | false =>
    rw [e2, if_neg (by simp)]
    by_cases h : q < p
    · rw [if_pos h, List.filter_cons_of_pos (by simpa using h), List.filter_nil]; rfl
    · rw [if_neg h, List.filter_cons_of_neg (by simpa using h), List.filter_nil]; rfl
theorem side_length (on : Bool) (l : List Int) (p : Int) : (side on l p).length ≤ l.length := by
  cases on with
  | true => rw [side, if_pos rfl]; exact List.length_filter_le _ _
  | false => rw [side, if_neg (by simp), List.length_reverse]; exact List.length_filter_le _ _
theorem hits_length (s r : List UInt8) (a b : Nat) : (hits s r a b).length ≤ b - a := by
  rw [hits, List.length_map]
  exact Nat.le_trans (List.length_filter_le _ _) (by rw [List.length_range']; exact Nat.le_refl _)
/-- What is gathered where the way stands at the rune u. -/
def got (s r : List UInt8) (rs : List (List UInt8)) (on : Bool) (a : Nat) (p : Int) (u : Nat) : List Int := side on (hits s r a (off rs u)) p
theorem got_start (s r : List UInt8) {rs : List (List UInt8)} (on : Bool) {a i : Nat} (h : off rs i = a) (p : Int) : got s r rs on a p i = [] := by
  rw [got, h, hits_none]
  cases on <;> rfl
theorem got_length {s : List UInt8} (r : List UInt8) {rs : List (List UInt8)} (hd : dec s = some rs) (on : Bool) (a : Nat) (p : Int) (u : Nat) : (got s r rs on a p u).length ≤ s.length := by
  have h1 := side_length on (hits s r a (off rs u)) p
  have h2 := hits_length s r a (off rs u)
  have h3 := Utf.off_in hd u
  unfold got
  omega
theorem got_skip {s r : List UInt8} {rs : List (List UInt8)} (hd : dec s = some rs) (h1 : one r = true) (on : Bool) {a u : Nat} (ha : a ≤ off rs u) (hu : u < rs.length) (p : Int) (h : rune s (off rs u : Int) ≠ r) : got s r rs on a p (u + 1) = got s r rs on a p u := by
  rw [got, step_hits hd h1 ha hu, if_neg h, List.append_nil, got]
theorem got_on {s r : List UInt8} {rs : List (List UInt8)} (hd : dec s = some rs) (h1 : one r = true) {a u : Nat} (ha : a ≤ off rs u) (hu : u < rs.length) (p : Int) (h : rune s (off rs u : Int) = r) : got s r rs true a p (u + 1) = if p < off rs u then got s r rs true a p u ++ [(off rs u : Int)] else got s r rs true a p u := by
  rw [got, step_hits hd h1 ha hu, if_pos h, side_snoc, if_pos rfl]; rfl
theorem got_back {s r : List UInt8} {rs : List (List UInt8)} (hd : dec s = some rs) (h1 : one r = true) {a u : Nat} (ha : a ≤ off rs u) (hu : u < rs.length) (p : Int) (h : rune s (off rs u : Int) = r) : got s r rs false a p (u + 1) = if (off rs u : Int) < p then (off rs u : Int) :: got s r rs false a p u else got s r rs false a p u := by
  rw [got, step_hits hd h1 ha hu, if_pos h, side_snoc, if_neg (by simp)]; rfl
/-- What comes of what was gathered. -/
theorem last_no {s r : List UInt8} {p k n : Int} {xs : List Int} (hr : right k r = true) (hp : place s p = true) (hx : side (ons k) (lh s r p) p = xs) (h : (xs.length : Int) < max n 1) : goV s p k r n < 0 := by
  have h2 := times_pos n
  rw [goV_neg hr hp, nth, hx, List.getElem?_eq_none (by unfold times at *; omega)]
  decide
theorem last_at {s r : List UInt8} {p k n : Int} {xs : List Int} (hr : right k r = true) (hp : place s p = true) (hx : side (ons k) (lh s r p) p = xs) (h : ¬ (xs.length : Int) < max n 1) :
    ∃ q : Int, xs[(max n 1 - 1).toNat]? = some q ∧ 0 ≤ q ∧ q ≤ s.length ∧ 0 ≤ goV s p k r n ∧ goV s p k r n = beside s k q := by
  have h2 := times_pos n
  have e : times n - 1 = (max n 1 - 1).toNat := by unfold times; omega
  have hl : (max n 1 - 1).toNat < xs.length := by omega
  have hg := List.getElem?_eq_getElem hl
  have hn : nth (ons k) (lh s r p) p (times n) = xs[(max n 1 - 1).toNat] := by rw [nth, hx, e, hg]; rfl
  have hm : xs[(max n 1 - 1).toNat] ∈ lh s r p := by
    have : xs[(max n 1 - 1).toNat] ∈ side (ons k) (lh s r p) p := by rw [hx]; exact List.getElem_mem hl
    exact (mem_side this).1
  have h0 := lh_nonneg s r p _ hm
  obtain ⟨rs, c, k', i, m, j, x, I⟩ := in_of hp r (Utf.one_ne (right_iff.1 hr).2.1)
  obtain ⟨v, hv1, hv2, _, hv4⟩ := I.each _ hm
  have h5 := Utf.off_in I.dec v
  exact ⟨_, hg, h0, by omega, (goV_ok hr hp hn h0).1, by rw [goV_at n hr hp, hn]⟩
end Seek
end Go.Proofs.Ytkhihmkpmlokiaa
