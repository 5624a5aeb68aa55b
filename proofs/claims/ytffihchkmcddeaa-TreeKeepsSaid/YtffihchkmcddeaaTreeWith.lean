/-
  A tree with all its nodes in new memory, and other Nexts: the document's.
-/
import Derived.Test.YtffihchkmcddeaaTreeCopied
namespace Go.Proofs.Ytffihchkmcddeaa
open Go.RowKit
open Tre
/-- An answer of a tree whose nodes the call has laid: it may be appended to. -/
def TreeOwn (l : List Nd) (cur : Int) (w : World) (v : Value) (w' : World) : Prop := ∃ (A : Option Addr) (c : Nat), v = .agg #[.slice A l.length c, .int .i64 cur] ∧ w'.ownsRow w.heap.size 51 7 (.slice A l.length c) l.length (nrows l) ∧ Below w.heap.size w w'
theorem TreeOwn.is {l : List Nd} {cur : Int} {w w' : World} {v : Value} (h : TreeOwn l cur w v w') : TreeIs l cur w v w' := by
  obtain ⟨A, c, e, o, b⟩ := h
  obtain ⟨o1, o2⟩ := own_nds o rfl
  exact ⟨A, c, e, o1, o2, b⟩
theorem own_froz {w : World} {B : Nat} {e : TypeId} {size n g c : Nat} {xs : List Value} (h : w.ownsRow B e size (.slice (some ⟨g, 0, none⟩) n c) n xs) (i : Nat) : w.frozen? ⟨g, i, none⟩ = false := by
  rcases h.2 with ⟨hv, _⟩ | ⟨g', cap, cur, hv, _, hh, _⟩
  · cases hv
  · injection hv with e1 _ _
    injection e1 with e1
    injection e1 with e1 _ _
    subst e1
    exact Blk.frozen (w := w) hh i
namespace Tre
/-- A node becomes the Next of its Up. -/
def choose (l : List Nd) (k : Nat) : List Nd := setNext l (abv l k) k
def chosen (l : List Nd) (ns : List Nat) : List Nd := ns.foldl choose l
theorem choose_length (l : List Nd) (k : Nat) : (choose l k).length = l.length := setNext_length _ _ _
theorem setNext_get (l : List Nd) (i : Nat) (n : Int) (j : Nat) : (setNext l i n)[j]? = (l[j]?).map fun x => if j = i then { x with next := n } else x := by
  unfold setNext
  cases h : l[i]? with
  | none =>
    show l[j]? = _
    cases hj : l[j]? with
    | none => rfl
    | some x =>
      have e : j ≠ i := fun e => by rw [e, h] at hj; cases hj
      rw [Option.map_some, if_neg e]
  | some y =>
    show (l.set i _)[j]? = _
    rw [List.getElem?_set]
    by_cases e : i = j
    · subst e
      rw [if_pos rfl, if_pos (List.getElem?_eq_some_iff.1 h).1, h, Option.map_some, if_pos rfl]
    · rw [if_neg e]
      cases hj : l[j]? with
      | none => rfl
      | some x => rw [Option.map_some, if_neg (fun h => e h.symm)]
/-- Nodes that are alike but for their Next. -/
def Alike (l m : List Nd) : Prop := l.length = m.length ∧ ∀ (j : Nat) (x : Nd), l[j]? = some x → ∃ n, m[j]? = some { x with next := n }
theorem Alike.refl (l : List Nd) : Alike l l := ⟨rfl, fun j x h => ⟨x.next, by rw [h]⟩⟩
theorem alike_next (l : List Nd) (i : Nat) (n : Int) : Alike l (setNext l i n) := ⟨(setNext_length _ _ _).symm, fun j x h => by
  rw [setNext_get, h]
  by_cases e : j = i
  · exact ⟨n, by simp [e]⟩
  · exact ⟨x.next, by simp [e]⟩⟩
theorem Alike.trans {a b c : List Nd} (h : Alike a b) (k : Alike b c) : Alike a c := ⟨h.1.trans k.1, fun j x hx => by
  obtain ⟨n, h1⟩ := h.2 j x hx
  obtain ⟨n', h2⟩ := k.2 j _ h1
  exact ⟨n', h2⟩⟩
theorem Alike.abv {a b : List Nd} (h : Alike a b) (k : Nat) : abv b k = abv a k := by
  cases hk : a[k]? with
  | none =>
    have : b[k]? = none := by rw [List.getElem?_eq_none_iff] at hk ⊢; rw [← h.1]; exact hk
    unfold Tre.abv; rw [hk, this]
  | some x =>
    obtain ⟨n, h2⟩ := h.2 k x hk
    unfold Tre.abv; rw [hk, h2]
theorem alike_choose (l : List Nd) (k : Nat) : Alike l (choose l k) := alike_next _ _ _
theorem alike_chosen (l : List Nd) (ns : List Nat) : Alike l (chosen l ns) := by
  induction ns generalizing l with
  | nil => exact Alike.refl l
  | cons n r ih => exact (alike_choose l n).trans (ih _)
theorem chosen_length (l : List Nd) (ns : List Nat) : (chosen l ns).length = l.length := (alike_chosen l ns).1.symm
theorem chosen_snoc (l : List Nd) (ns : List Nat) {k n : Nat} (h : ns[k]? = some n) : chosen l (ns.take (k + 1)) = choose (chosen l (ns.take k)) n := by
  obtain ⟨hj, rfl⟩ := List.getElem?_eq_some_iff.1 h
  rw [List.take_succ_eq_append_getElem hj]
  unfold chosen
  rw [List.foldl_append]; rfl
end Tre
set_option maxHeartbeats 4000000 in
set_option maxRecDepth 100000 in
theorem ref11_with {A B : Option Addr} {c d : Nat} {l : List Nd} {ns : List Nat} {cur k : Int} {w : World} (hx : Nds w A l) (h1 : 1 ≤ l.length) (hm : l.length ≤ 2000) (hn : ns.length ≤ 2000) (hy : Ints w B (ns.map fun (n : Nat) => (n : Int)))
    (ha : ∀ n ∈ ns, n < l.length ∧ ∃ u : Nat, (l[n]?.map (·.up)) = some (u : Int) ∧ u < l.length) :
    Calls Try.prog 39 #[.agg #[.slice A l.length c, .int .i64 cur], .slice B ns.length d, .int .i64 k] w fun e w' => ∃ v, e = .returned v ∧ TreeOwn (chosen l ns) k w v w' := by
  obtain ⟨i0, hi, hz0, hz1, hz2⟩ := info_parts info_node
  have h0 := ba (ba (Below.refl w.heap.size w) (.cells #[.slice A l.length c, .int .i64 cur] 24)) (.cells #[.slice none 0 0, .int .i64 0] 24)
  have hS : ((w.alloc (.cells #[.slice A l.length c, .int .i64 cur] 24)).alloc (.cells #[.slice none 0 0, .int .i64 0] 24)).heap.size = w.heap.size + 2 := by simp
  have hB : Hid (∀ u, Below (w.heap.size + 2) ((w.alloc (.cells #[.slice A l.length c, .int .i64 cur] 24)).alloc (.cells #[.slice none 0 0, .int .i64 0] 24)) u → Blk u w.heap.size 24 #[.slice A l.length c, .int .i64 cur] ∧ Blk u (w.heap.size + 1) 24 #[.slice none 0 0, .int .i64 0] ∧ Below w.heap.size w u) := fun u hu => by
    have b0 := (Blk.new w 24 #[.slice A l.length c, .int .i64 cur]).alloc (.cells #[.slice none 0 0, .int .i64 0] 24)
    have b1 := Blk.new (w.alloc (.cells #[.slice A l.length c, .int .i64 cur] 24)) 24 #[.slice none 0 0, .int .i64 0]
    rw [World.size_alloc] at b1
    exact ⟨b0.below hu (by omega), b1.below hu (by omega), h0.trans (hu.mono (by omega))⟩
  obtain ⟨b, off, rfl, hbw, _⟩ := hx.addr (by omega)
  have hnews := Lib.hid (hx.below h0).rows
  obtain ⟨B0, B1, _⟩ := hB.out _ (Below.refl _ _)
  have t0 := B0.cell 0
  simp at t0
  go_enter Try.func39, Try.ntmps39
  go_wp2_with (at_builtin; refine wpList_append_own _ rfl _ _ 22 rfl (w.heap.size + 2) 51 i0 _ 7 72 Try.underlying22 hi hz0 hz1 hz2 rfl (by decide) _ _ _ rfl (World.ownsRow_nil _ _ _ _) ⟨b, off, none⟩ l.length c (nrows l) rfl (nrows_length l) hnews.out nrows_one ?c3 ?c4 ?c5 ?_)
  case c3 => unfold maxLen; omega
  case c4 => omega
  case c5 => exact Nat.le_of_eq hS.symm
  intro v' w3 hown3 hgrow3 _
  obtain ⟨g, c3, rfl, _, hg1, hfz⟩ := own_addr hown3 (by omega)
  have hW3 := (below_gb (hgrow3)).mono (Nat.le_of_eq hS.symm)
  have hNB := hy.grown (gb_below none h0) (by simp)
  clear hnews B0 B1 t0 hgrow3 hx hy
  generalize ((w.alloc (.cells #[.slice (some ⟨b, off, none⟩) l.length c, .int .i64 cur] 24)).alloc (.cells #[.slice none 0 0, .int .i64 0] 24)) = wz at *
  have HS := Lib.hid hS
  clear hS h0
  go_wp2
  go_loopw [8] (fun iv wr => ∃ (j : Nat), iv = .int .i64 j ∧ j ≤ ns.length ∧ wr.ownsRow (w.heap.size + 2) 51 7 (.slice (some ⟨g, 0, none⟩) l.length c3) l.length (nrows (chosen l (ns.take j))) ∧ Below (w.heap.size + 2) wz wr) (fun iv _ => ns.length - (intOf iv).toNat)
  case atStart => exact ⟨0, rfl, Nat.zero_le _, hown3, hW3⟩
  case round =>
    clear hown3 hW3 hfz
    obtain ⟨j, rfl, hj, hown, hW⟩ := hrel
    obtain ⟨B0, B1, hW2⟩ := hB.out wr hW
    by_cases hlt : j < ns.length
    · obtain ⟨n, hjn⟩ : ∃ n, ns[j]? = some n := ⟨_, List.getElem?_eq_getElem hlt⟩
      obtain ⟨hnl, u, hu, hul⟩ := ha n (List.mem_of_getElem? hjn)
      have hal := alike_chosen l (ns.take j)
      have hcs := Lib.hid (chosen_snoc l ns hjn)
      obtain ⟨x, hx⟩ : ∃ x, l[n]? = some x := ⟨_, List.getElem?_eq_getElem hnl⟩
      rw [hx] at hu
      simp only [Option.map_some, Option.some.injEq] at hu
      obtain ⟨nx, hx2⟩ := hal.2 n x hx
      have hab : abv (chosen l (ns.take j)) n = u := by rw [hal.abv, abv_of hx hu]
      unfold Tre.choose at hcs
      rw [hab] at hcs
      have hcl := chosen_length l (ns.take j)
      generalize chosen l (ns.take j) = m at *
      have own := Lib.hid (own_next hown hcl hul (n : Int))
      have hf := own_froz hown
      obtain ⟨NN, _⟩ := own_nds hown hcl
      obtain ⟨g', o', e4, hgl, CC⟩ := NN (by omega)
      injection e4 with e4
      injection e4 with e4 e5 _
      subst e4 e5
      have c0 := (CC n _ hx2).1
      obtain ⟨y, hy⟩ : ∃ y, m[u]? = some y := ⟨_, List.getElem?_eq_getElem (by omega)⟩
      have c1 := (CC u y hy).2.1
      have f1 := hf (u * 7 + 1)
      rw [Nat.zero_add] at c0 c1
      rw [hu] at c0
      rw [Nat.zero_add] at own
      obtain ⟨ad, had, hadb, hadc⟩ := hNB (by rw [List.length_map]; omega)
      subst had
      have d0 : wr.cell? (ad.add j) = some (.int .i64 n) := (hW.cell (p := ad.add j) (by rw [block_of_add]; rw [← HS.out]; exact hadb)).trans (hadc j n (by rw [List.getElem?_map, hjn]; rfl))
      have t1 := B0.cell 0
      have g1 : decide ((j : Int) < (ns.length : Int)) = true := by simp; omega
      have G1 : ∀ u v, Below (w.heap.size + 2) wz ((wr.setCell ⟨g, u, none⟩ v).drew) := fun u v => (hW.setCell (p := ⟨g, u, none⟩) hg1 v).trans ((below_gb (gb_drew _ none)).mono (by rw [← HS.out]; exact (hW.setCell (p := ⟨g, u, none⟩) hg1 v).size))
      clear hx hx2 hal hab hcl hjn hu CC NN hf hy hadc ha
      have HG := Lib.hid G1
      clear G1
      go_wp2
      go_region
      go_wp2
      go_roundw
      case rel => exact ⟨j + 1, by go_num, by omega, by rw [hcs.out]; exact own.out.kept (gb_drew _ none) (by simp [Value.ownBlock]), HG.out _ _⟩
      case measure => simp [intOf]; omega
    · have g1 : decide ((j : Int) < (ns.length : Int)) = false := by simp; omega
      obtain rfl : j = ns.length := by omega
      rw [List.take_length] at hown
      have hcl := chosen_length l ns
      have c0 := B1.cell 0
      have c1 := B1.cell 1
      have f0 := B1.frozen 0
      have f1 := B1.frozen 1
      simp at c0 c1
      clear ha hNB
      go_wp2
      have F1 := Lib.hid ((B1.set_ 0 (.slice (some ⟨g, 0, none⟩) l.length c3)).set_ 1 (.int .i64 k))
      have W3 := (hW2.setCell (p := ⟨w.heap.size + 1, 0, none⟩) (Nat.le_succ _) (.slice (some ⟨g, 0, none⟩) l.length c3)).setCell (p := ⟨w.heap.size + 1, 1, none⟩) (Nat.le_succ _) (.int .i64 k)
      have hne : (Value.slice (some ⟨g, 0, none⟩) l.length c3).ownBlock ≠ some (w.heap.size + 1) := fun e => by have := (hown.lt _ e).1; omega
      have O3 := (hown.kept (gb_set wr (w.heap.size + 1) 0 (.slice (some ⟨g, 0, none⟩) l.length c3)) (.inr hne)).kept (gb_set _ (w.heap.size + 1) 1 (.int .i64 k)) (.inr hne)
      exact bodyPost_ret (v := .agg #[.slice (some ⟨g, 0, none⟩) l.length c3, .int .i64 k]) (results_cell_row rfl _ _ (w.heap.size + 1) 24 #[.slice (some ⟨g, 0, none⟩) l.length c3, .int .i64 k] (0, 0) _ rfl F1.out Try.underlying24 rfl rfl) rfl ⟨_, rfl, some ⟨g, 0, none⟩, c3, by rw [hcl], by rw [hcl]; exact own_down O3 (by omega), W3⟩
end Go.Proofs.Ytffihchkmcddeaa
