/-
  Pieces parted at an offset: without a program; and what a table is behind a store of another list of pieces.
-/
import Derived.Test.YtjmedlnboofgdaaBegin
namespace Go.Proofs.Ytjmedlnboofgdaa
open Go.RowKit
namespace Pc
theorem pre_mono {ps : List (List UInt8)} (hf : ∀ l ∈ ps, l ≠ []) {i : Nat} : ∀ {j : Nat}, i < j → j ≤ ps.length → pre ps i < pre ps j
  | 0, h, _ => absurd h (by omega)
  | j + 1, h, hj => by
    have hk : ps[j]? = some ps[j] := List.getElem?_eq_getElem (by omega)
    rw [pre_succ hk]
    have := List.length_pos_iff.2 (hf ps[j] (List.getElem_mem (by omega)))
    rcases Nat.lt_or_ge i j with h1 | h1
    · have := pre_mono hf h1 (by omega); omega
    · obtain rfl : i = j := by omega
      omega
/-- The pieces with the k-th one cut behind a bytes. -/
def split1 (ps : List (List UInt8)) (k a : Nat) (l : List UInt8) : List (List UInt8) := ps.take k ++ ([l.take a, l.drop a] ++ ps.drop (k + 1))
/-- ps' are the pieces ps cut at the offset x, where the piece k begins. -/
structure Parted (ps : List (List UInt8)) (x : Nat) (ps' : List (List UInt8)) (k : Nat) : Prop where
  flat : ps'.flatten = ps.flatten
  le : k ≤ ps'.length
  at_ : pre ps' k = x
  few : ps'.length ≤ ps.length + 1
  ahead : ∀ q, q ≤ ps.length → pre ps q ≤ x → q ≤ k ∧ pre ps' q = pre ps q ∧ ps'.take q = ps.take q
  same : ∀ q, q ≤ ps.length → pre ps q = x → ps' = ps
theorem split1_flat {ps : List (List UInt8)} {k a : Nat} {l : List UInt8} (h : ps[k]? = some l) : (split1 ps k a l).flatten = ps.flatten := by
  obtain ⟨hk, rfl⟩ := List.getElem?_eq_some_iff.1 h
  have e : ps.flatten = (ps.take k).flatten ++ (ps[k] ++ (ps.drop (k + 1)).flatten) := by
    conv => lhs; rw [← List.take_append_drop k ps, List.drop_eq_getElem_cons hk]
    rw [List.flatten_append, List.flatten_cons]
  rw [e, split1, List.flatten_append, List.flatten_append]
  congr 2
  simp
theorem split1_take {ps : List (List UInt8)} {k a : Nat} {l : List UInt8} (hk : k ≤ ps.length) {q : Nat} (hq : q ≤ k) : (split1 ps k a l).take q = ps.take q := by
  rw [split1, List.take_append_of_le_length (by rw [List.length_take]; omega), List.take_take, Nat.min_eq_left hq]
theorem split1_length {ps : List (List UInt8)} {k a : Nat} {l : List UInt8} (h : ps[k]? = some l) : (split1 ps k a l).length = ps.length + 1 := by
  obtain ⟨hk, rfl⟩ := List.getElem?_eq_some_iff.1 h
  simp [split1]; omega
theorem parted_cut {ps : List (List UInt8)} (hf : ∀ l ∈ ps, l ≠ []) {x k a : Nat} {l : List UInt8} (h : ps[k]? = some l) (h0 : 0 < a) (ha : a < l.length) (hx : x = pre ps k + a) : Parted ps x (split1 ps k a l) (k + 1) := by
  have hk := (List.getElem?_eq_some_iff.1 h).1
  refine ⟨split1_flat h, by rw [split1_length h]; omega, ?_, by rw [split1_length h]; exact Nat.le_refl _, fun q hq hp => ?_, fun q hq hp => ?_⟩
  · have e : (split1 ps k a l)[k]? = some (l.take a) := by
      rw [split1, List.getElem?_append_right (by rw [List.length_take]; omega), List.length_take, Nat.min_eq_left (by omega), Nat.sub_self]
      rfl
    rw [pre_succ e, List.length_take, Nat.min_eq_left (by omega), pre, split1_take (by omega) (Nat.le_refl _)]
    exact hx.symm
  · have hqk : q ≤ k := by
      rcases Nat.lt_or_ge k q with h1 | h1
      · have h2 := pre_succ h
        have h3 : pre ps (k + 1) ≤ pre ps q := by
          rcases Nat.lt_or_ge (k + 1) q with h4 | h4
          · exact Nat.le_of_lt (pre_mono hf h4 hq)
          · rw [show k + 1 = q by omega]; exact Nat.le_refl _
        omega
      · exact h1
    have e := split1_take (a := a) (l := l) (show k ≤ ps.length by omega) hqk
    exact ⟨by omega, by rw [pre, pre, e], e⟩
  · exfalso
    have h2 := pre_succ h
    rcases Nat.lt_or_ge k q with h1 | h1
    · rcases Nat.lt_or_ge (k + 1) q with h4 | h4
      · have := pre_mono hf h4 hq; omega
      · rw [show q = k + 1 by omega] at hp; omega
    · rcases Nat.lt_or_ge q k with h4 | h4
      · have := pre_mono hf h4 (by omega); omega
      · rw [show q = k by omega] at hp; omega
theorem parted_same {ps : List (List UInt8)} (hf : ∀ l ∈ ps, l ≠ []) {x k : Nat} (hk : k ≤ ps.length) (hx : x = pre ps k) : Parted ps x ps k :=
  ⟨rfl, hk, hx.symm, by omega, fun q hq hp => ⟨by
    rcases Nat.lt_or_ge k q with h1 | h1
    · have := pre_mono hf h1 hq; omega
    · exact h1, rfl, rfl⟩, fun _ _ _ => rfl⟩
end Pc
open Pc
/-- Where an element of a list stands that was made of three. -/
theorem get3 {α β : Type} {P : α → β → Prop} {us : List α} {ps : List β} {m1 : List α} {m2 : List β} {i j : Nat} (hl : us.length = ps.length) (hm : m1.length = m2.length) (hi : i ≤ ps.length)
    (each : ∀ (k : Nat) (l : β), ps[k]? = some l → ∃ u, us[k]? = some u ∧ P u l) (mid : ∀ (k : Nat) (l : β), m2[k]? = some l → ∃ u, m1[k]? = some u ∧ P u l) :
    ∀ (k : Nat) (l : β), (ps.take i ++ (m2 ++ ps.drop j))[k]? = some l → ∃ u, (us.take i ++ (m1 ++ us.drop j))[k]? = some u ∧ P u l := by
  intro k l hk
  have l1 : (ps.take i).length = i := by rw [List.length_take]; omega
  have l2 : (us.take i).length = i := by rw [List.length_take]; omega
  rcases Nat.lt_or_ge k i with h | h
  · rw [List.getElem?_append_left (by omega), List.getElem?_take, if_pos h] at hk
    rw [List.getElem?_append_left (by omega), List.getElem?_take, if_pos h]
    exact each k l hk
  · rw [List.getElem?_append_right (by omega), l1] at hk
    rw [List.getElem?_append_right (by omega), l2]
    rcases Nat.lt_or_ge (k - i) m2.length with h2 | h2
    · rw [List.getElem?_append_left h2] at hk
      rw [List.getElem?_append_left (by omega)]
      exact mid _ l hk
    · rw [List.getElem?_append_right h2, List.getElem?_drop] at hk
      rw [List.getElem?_append_right (by omega), List.getElem?_drop, hm]
      exact each _ l hk
section
variable {B p a : Nat} {vp va v' : Value} {us us' xs : List Value} {ps ps' : List (List UInt8)} {w w2 : World}
theorem TabAt.one_cell (h : TabAt B p vp va us xs ps a w) : ∀ u ∈ us, u.oneCell' = true := by
  intro u hu
  obtain ⟨k, hk, rfl⟩ := List.getElem_of_mem hu
  have hl : us.length = ps.length := by have := h.rows.1; omega
  obtain ⟨u, h1, g, off, rfl, _⟩ := h.each k ps[k] (List.getElem?_eq_getElem (by omega))
  rw [List.getElem?_eq_getElem hk] at h1
  injection h1 with h1
  rw [h1]; rfl
theorem TabAt.rows_ne {g : Nat} {t : TypeId} {cs : Array Value} {fr : Nat × Nat} (h : TabAt B p vp va us xs ps a w) (hg : w.heap[g]? = some (.cells cs t fr)) (ht : t ≠ 50) : some g ≠ vp.ownBlock := fun e => by
  obtain ⟨cs', hc⟩ := own_block h.rows e.symm
  unfold Blk at hc
  rw [hc] at hg
  injection hg with hg
  injection hg with _ hg
  exact ht hg.symm
/-- What is left of a table where its list of pieces was written. -/
theorem TabAt.loose (h : TabAt B p vp va us xs ps a w) (hg : w.grownBy w2 vp.ownBlock) :
    Blk w2 p 41 #[.pointer (some ⟨p, 0, none⟩), vp, .int .i64 (ps.flatten.length : Nat), va] ∧ w2.ownsRow B 5 1 va a xs ∧ ∀ (k : Nat) (l : List UInt8), ps[k]? = some l → ∃ u, us[k]? = some u ∧ PieceAt w2 va a u l := by
  refine ⟨h.self.grown hg (h.rows_ne h.self (by decide)), h.adds.kept hg ?_, fun k l hk => ?_⟩
  · cases hv : va.ownBlock with
    | none => exact Or.inl rfl
    | some g =>
      obtain ⟨cs, hc⟩ := own_block h.adds hv
      exact Or.inr (h.rows_ne hc (by decide))
  · obtain ⟨u, h1, h2⟩ := h.each k l hk
    exact ⟨u, h1, h2.grown hg fun g cs fr hgg => h.rows_ne hgg (by decide)⟩
theorem PieceAt.set_ {u : Value} {l : List UInt8} {i : Nat} {v : Value} {t : TypeId} {cs : Array Value} (h : PieceAt w va a u l) (k : Blk w p t cs) (ht : t ≠ 5) : PieceAt (w.setCell ⟨p, i, none⟩ v) va a u l :=
  h.grown (gb_set w p i v) fun g cs' fr hg e => by
    injection e with e
    subst e
    unfold Blk at k
    rw [k] at hg
    injection hg with hg
    injection hg with _ hg
    exact ht hg
theorem own_set {e t : TypeId} {n i : Nat} {v u : Value} {xs : List Value} {cs : Array Value} (h : w.ownsRow B e 1 v n xs) (k : Blk w p t cs) (ht : t ≠ e) : (w.setCell ⟨p, i, none⟩ u).ownsRow B e 1 v n xs := by
  refine h.kept (gb_set w p i u) ?_
  cases hv : v.ownBlock with
  | none => exact Or.inl rfl
  | some g =>
    obtain ⟨cs', hc⟩ := own_block h hv
    refine Or.inr fun e2 => ?_
    injection e2 with e2
    subst e2
    exact (Blk.ne_ hc k (fun e3 => ht e3.symm)) rfl
/-- Another list of pieces, of as many bytes, is stored. -/
theorem TabAt.put1 (h : TabAt B p vp va us xs ps a w) (hg : w.grownBy w2 vp.ownBlock) (ho : w2.ownsRow B 50 1 v' ps'.length us') (hfull : ∀ l ∈ ps', l ≠ [])
    (hev : ∀ (k : Nat) (l : List UInt8), ps'[k]? = some l → ∃ u, us'[k]? = some u ∧ PieceAt w2 va a u l) (hlen : ps'.flatten.length = ps.flatten.length) : TabAt B p v' va us' xs ps' a (w2.setCell ⟨p, 1, none⟩ v') := by
  obtain ⟨h1, h2, _⟩ := h.loose hg
  refine ⟨h.low, ?_, own_set ho h1 (by decide), own_set h2 h1 (by decide), hfull, fun k l hk => ?_⟩
  · have := h1.set_ 1 v'
    rw [hlen]
    simpa using this
  · obtain ⟨u, e1, e2⟩ := hev k l hk
    exact ⟨u, e1, e2.set_ h1 (by decide)⟩
/-- Another list of pieces, and how many bytes they have, is stored. -/
theorem TabAt.put2 (h : TabAt B p vp va us xs ps a w) (hg : w.grownBy w2 vp.ownBlock) (ho : w2.ownsRow B 50 1 v' ps'.length us') (hfull : ∀ l ∈ ps', l ≠ [])
    (hev : ∀ (k : Nat) (l : List UInt8), ps'[k]? = some l → ∃ u, us'[k]? = some u ∧ PieceAt w2 va a u l) : TabAt B p v' va us' xs ps' a ((w2.setCell ⟨p, 1, none⟩ v').setCell ⟨p, 2, none⟩ (.int .i64 (ps'.flatten.length : Nat))) := by
  obtain ⟨h1, h2, _⟩ := h.loose hg
  have h3 := h1.set_ 1 v'
  refine ⟨h.low, ?_, own_set (own_set ho h1 (by decide)) h3 (by decide), own_set (own_set h2 h1 (by decide)) h3 (by decide), hfull, fun k l hk => ?_⟩
  · have := h3.set_ 2 (.int .i64 (ps'.flatten.length : Nat))
    simpa using this
  · obtain ⟨u, e1, e2⟩ := hev k l hk
    exact ⟨u, e1, (e2.set_ h1 (by decide)).set_ h3 (by decide)⟩
/-- A part of a piece is a piece. -/
theorem PieceAt.part {l : List UInt8} {g off : Nat} (hb : BytesAt w g off l) (hf : va.ownBlock = some g → off + l.length ≤ a) (i n : Nat) (hn : i + n ≤ l.length) : PieceAt w va a (.slice (some ⟨g, off + i, none⟩) n n) ((l.drop i).take n) := by
  have hl : ((l.drop i).take n).length = n := by rw [List.length_take, List.length_drop]; omega
  exact ⟨g, off + i, by rw [hl], hb.part i n, fun h => by have := hf h; omega⟩
end
end Go.Proofs.Ytjmedlnboofgdaa
