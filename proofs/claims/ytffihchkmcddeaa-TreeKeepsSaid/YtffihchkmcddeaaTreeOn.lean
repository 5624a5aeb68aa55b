/-
  Ways up: what is on them, without a program; and the document's on.
-/
import Derived.Test.YtffihchkmcddeaaTreePlain
namespace Go.Proofs.Ytffihchkmcddeaa
open Go.RowKit
open Tre
namespace Tre
variable {l : List Nd} {n p q : Nat}
theorem filter_top {f : Nat → Bool} {m : Nat} : ∀ {n : Nat}, m ≤ n → (∀ i, m ≤ i → f i = false) → ((List.range n).reverse).filter f = ((List.range m).reverse).filter f
  | 0, h, _ => by rw [show m = 0 by omega]
  | n + 1, h, hf => by
    rcases Nat.lt_or_ge n m with hlt | hge
    · rw [show m = n + 1 by omega]
    · rw [List.range_succ, List.reverse_append]
      show List.filter f (n :: (List.range n).reverse) = _
      rw [List.filter_cons_of_neg (by rw [hf n hge]; exact Bool.false_ne_true)]
      exact filter_top hge hf
theorem filter_peak {f : Nat → Bool} {m n : Nat} (h : m < n) (hm : f m = true) (hf : ∀ i, m < i → f i = false) : ((List.range n).reverse).filter f = m :: ((List.range m).reverse).filter f := by
  rw [filter_top (m := m + 1) h (fun i hi => hf i hi), List.range_succ, List.reverse_append]
  show List.filter f (m :: (List.range m).reverse) = _
  rw [List.filter_cons_of_pos hm]
theorem filter_same {f g : Nat → Bool} {m : Nat} (h : ∀ i, i < m → f i = g i) : ((List.range m).reverse).filter f = ((List.range m).reverse).filter g :=
  List.filter_congr fun i hi => h i (by simpa using hi)
/-- The nodes on the way up from p that are not on that from q, falling. -/
def apart (l : List Nd) (n p q : Nat) : List Nat := ((List.range n).reverse).filter fun i => on l i p && !on l i q
theorem apart_self (l : List Nd) (n p : Nat) : apart l n p p = [] := by
  unfold apart
  rw [List.filter_eq_nil_iff]
  intro i _
  cases on l i p <;> simp
theorem apart_step (hp : p < n) (hq : q < p) (ha : abv l p < p) : apart l n p q = p :: apart l n (abv l p) q := by
  unfold apart
  rw [filter_peak hp (by rw [on_self, on_low hq]; rfl) (fun i hi => by rw [on_low hi]; rfl)]
  rw [filter_top (f := fun i => on l i (abv l p) && !on l i q) (m := p) (n := n) (by omega) (fun i hi => by rw [on_low (l := l) (m := i) (k := abv l p) (by omega)]; rfl)]
  congr 1
  exact filter_same fun i hi => by rw [on_up hi ha]
theorem apart_other (hq : q < p) (ha : abv l p < p) : apart l n q p = apart l n q (abv l p) := by
  unfold apart
  refine List.filter_congr fun i _ => ?_
  cases h : on l i q with
  | false => rfl
  | true => rw [on_up (Nat.lt_of_le_of_lt (on_le h) hq) ha]
theorem on_chain (hU : Ups l l.length) {i j : Nat} : ∀ {k : Nat}, k < l.length → on l i k = true → on l j k = true → i ≤ j → on l i j = true := by
  intro k
  induction k using Nat.strongRecOn with
  | ind k ih =>
    intro hk hi hj hij
    rcases Nat.lt_or_ge j k with hlt | hge
    · have ha := hU.abv_lt (by omega) hk
      rw [on_up hlt ha] at hj
      rw [on_up (by omega) ha] at hi
      exact ih _ ha (by omega) hi hj hij
    · rw [show j = k by have := on_le hj; omega]
      exact hi
/-- The nodes on a way up, but the root, falling. -/
def way (l : List Nd) (n k : Nat) : List Nat := ((List.range n).reverse).filter fun i => decide (0 < i) && on l i k
theorem way_zero (l : List Nd) (n : Nat) : way l n 0 = [] := by
  unfold way
  rw [List.filter_eq_nil_iff]
  intro i _
  rcases Nat.eq_zero_or_pos i with h | h
  · simp [h]
  · rw [on_low h]; simp
theorem way_step (hp : p < n) (h0 : 0 < p) (ha : abv l p < p) : way l n p = p :: way l n (abv l p) := by
  unfold way
  rw [filter_peak hp (by rw [on_self, decide_eq_true h0]; rfl) (fun i hi => by rw [on_low hi, Bool.and_false])]
  rw [filter_top (f := fun i => decide (0 < i) && on l i (abv l p)) (m := p) (n := n) (by omega) (fun i hi => by rw [on_low (l := l) (m := i) (k := abv l p) (by omega), Bool.and_false])]
  congr 1
  exact filter_same fun i hi => by rw [on_up hi ha]
theorem way_mem {i k : Nat} (h : i ∈ way l n k) : i < n ∧ 0 < i ∧ on l i k = true := by
  unfold way at h
  rw [List.mem_filter] at h
  simpa using h
theorem way_apart (hU : Ups l l.length) {k i j : Nat} (hk : k < l.length) (hi : i ∈ way l n k) (hj : j ∈ way l n k) (hne : i ≠ j) : abv l i ≠ abv l j := by
  have key : ∀ {i j : Nat}, i ∈ way l n k → j ∈ way l n k → i < j → abv l i < abv l j := fun {i j} hi hj hlt => by
    obtain ⟨_, i0, i1⟩ := way_mem hi
    obtain ⟨_, j0, j1⟩ := way_mem hj
    have h1 := on_chain hU hk i1 j1 (Nat.le_of_lt hlt)
    have hjl : j < l.length := Nat.lt_of_le_of_lt (on_le j1) hk
    have ha := hU.abv_lt j0 hjl
    rw [on_up hlt ha] at h1
    have h2 := on_le h1
    have h3 := hU.abv_lt i0 (by omega)
    omega
  rcases Nat.lt_or_ge i j with h | h
  · exact Nat.ne_of_lt (key hi hj h)
  · exact (Nat.ne_of_lt (key hj hi (by omega))).symm
theorem setNext_comm (m : List Nd) {a b : Nat} (x y : Int) (h : a ≠ b) : setNext (setNext m a x) b y = setNext (setNext m b y) a x := by
  apply List.ext_getElem?
  intro j
  rw [setNext_get, setNext_get, setNext_get, setNext_get]
  cases m[j]? with
  | none => rfl
  | some z =>
    simp only [Option.map_some, Option.some.injEq]
    by_cases h1 : j = a
    · subst h1
      rw [if_pos rfl, if_neg (fun e => h e), if_neg h, if_pos rfl]
    · rw [if_neg h1]
      by_cases h2 : j = b
      · rw [if_pos h2, if_neg h1]
      · rw [if_neg h2, if_neg h1]
/-- Nodes become the Next of their Ups, by the Ups of another list. -/
def chosenBy (u : Nat → Nat) (m : List Nd) (ns : List Nat) : List Nd := ns.foldl (fun z n => setNext z (u n) n) m
theorem chosen_by (l : List Nd) : ∀ (ns : List Nat) (m : List Nd), Alike l m → chosen m ns = chosenBy (abv l) m ns
  | [], _, _ => rfl
  | n :: r, m, h => by
    show chosen (choose m n) r = chosenBy (abv l) (setNext m (abv l n) n) r
    rw [chosen_by l r _ (h.trans (alike_choose m n)), choose, h.abv]
theorem chosen_perm (l : List Nd) {ns ms : List Nat} (hp : ns.Perm ms) (h : ∀ i ∈ ns, ∀ j ∈ ns, i ≠ j → abv l i ≠ abv l j) : chosen l ns = chosen l ms := by
  rw [chosen_by l ns l (Alike.refl l), chosen_by l ms l (Alike.refl l)]
  unfold chosenBy
  refine hp.foldl_eq' (fun x hx y hy z => ?_) l
  by_cases e : x = y
  · rw [e]
  · exact setNext_comm z _ _ (h x hx y hy e)
/-- The same nodes, rising. -/
theorem chosen_way (hU : Ups l l.length) {k : Nat} (hk : k < l.length) : chosen l (way l n k).reverse = chosen l (way l n k) :=
  chosen_perm l (List.reverse_perm _) fun i hi j hj hne => way_apart hU hk (by simpa using hi) (by simpa using hj) hne
theorem way_rising (l : List Nd) (n k : Nat) : (way l n k).reverse = (List.range n).filter fun i => decide (0 < i) && on l i k := by
  unfold way
  rw [List.filter_reverse, List.reverse_reverse]
theorem apart_rising (l : List Nd) (n p q : Nat) : (apart l n p q).reverse = (List.range n).filter fun i => on l i p && !on l i q := by
  unfold apart
  rw [List.filter_reverse, List.reverse_reverse]
theorem apart_len (l : List Nd) (n p q : Nat) : (apart l n p q).length ≤ n := Nat.le_trans (List.length_filter_le _ _) (by simp)
theorem way_len (l : List Nd) (n k : Nat) : (way l n k).length ≤ n := Nat.le_trans (List.length_filter_le _ _) (by simp)
theorem Ups.abv_up (h : Ups l l.length) {k : Nat} {x : Nd} (hx : l[k]? = some x) (hk : 0 < k) : x.up = (abv l k : Nat) := by
  obtain ⟨u, hu, _⟩ := h.up hx hk
  rw [abv_of hx hu]; exact hu
/-- The ways, and the error. -/
noncomputable def path (l : List Nd) (cur k : Int) : List Nat × List Nat × Int := if ¬ Right l cur then ([], [], 1) else if ¬ (0 ≤ k ∧ k < l.length) then ([], [], 7) else (apart l l.length cur.toNat k.toNat, (apart l l.length k.toNat cur.toNat).reverse, 0)
noncomputable def goTo (l : List Nd) (cur k : Int) : List Nd × Int × Int := if ¬ Right l cur then ([], 0, 1) else if ¬ (0 ≤ k ∧ k < l.length) then ([], 0, 7) else (chosen l (way l l.length k.toNat), k, 0)
end Tre
set_option maxHeartbeats 4000000 in
set_option maxRecDepth 100000 in
theorem ref11_on {A : Option Addr} {c : Nat} {l : List Nd} {cur : Int} {a k : Nat} {w : World} (hx : Nds w A l) (hU : Ups l l.length) (hk : k < l.length) (hm : l.length ≤ 2000) :
    Calls Try.prog 47 #[.agg #[.slice A l.length c, .int .i64 cur], .int .i64 a, .int .i64 k] w fun e w' => e = .returned (.bool (on l a k)) ∧ Below w.heap.size w w' := by
  obtain ⟨b, off, rfl, hbw, CC⟩ := hx.addr (by omega)
  have CE := Lib.hid CC
  have B0 := Blk.new w 24 #[.slice (some ⟨b, off, none⟩) l.length c, .int .i64 cur]
  have h0 := al (Below.refl w.heap.size w) (.cells #[.slice (some ⟨b, off, none⟩) l.length c, .int .i64 cur] 24)
  have t0 := B0.cell 0
  simp only [List.getElem?_toArray, List.getElem?_cons_zero] at t0
  have HU := Lib.hid hU
  have hbl := Nat.lt_of_lt_of_le hbw h0.size
  clear CC hx hU
  go_enter Try.func47, Try.ntmps47
  go_wp2_with fail
  generalize w.alloc (.cells #[.slice (some ⟨b, off, none⟩) l.length c, .int .i64 cur] 24) = wz at *
  go_loopw [2] (fun v wr => ∃ q : Nat, v = .int .i64 q ∧ q < l.length ∧ Hid (on l a k = on l a q) ∧ wr = wz) (fun v _ => (intOf v).toNat)
  case atStart => exact ⟨k, rfl, hk, by show _ = _; rfl, rfl⟩
  case round =>
    obtain ⟨q, rfl, hql, HO, rfl⟩ := hrel
    by_cases hlt : a < q
    · obtain ⟨y, hy⟩ : ∃ y, l[q]? = some y := ⟨_, List.getElem?_eq_getElem hql⟩
      have c0 := (CE.out wr _ h0 (Nat.le_refl _) _ _ hy).1
      have ha := HU.out.abv_lt (by omega) hql
      rw [HU.out.abv_up hy (by omega)] at c0
      have HO2 : Hid (on l a k = on l a (abv l q)) := by show _ = _; rw [HO.out, on_up hlt ha]
      have g1 : decide ((a : Int) < (q : Int)) = true := decide_eq_true (by omega)
      clear hy HO
      generalize abv l q = u at *
      go_wp2
      go_roundw
      case rel => exact ⟨u, rfl, by omega, HO2, trivial⟩
      case measure => simp [intOf]; omega
    · have g1 : decide ((a : Int) < (q : Int)) = false := decide_eq_false (by omega)
      have g2 : ((q : Int) == (a : Int)) = (q == a) := by rw [Bool.eq_iff_iff]; simp; omega
      have H : Hid (on l a k = (q == a)) := by show _ = _; rw [HO.out, on, dif_neg (by omega)]
      go_wp2
      go_ret
      exact ⟨by rw [H.out, ← g2]; rfl, h0⟩
end Go.Proofs.Ytffihchkmcddeaa
