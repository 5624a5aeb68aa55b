/-
  A text in the place of another one by changes, without a program: from line to line, and from place to place in a line.
-/
import Derived.Test.YtlfhfpjffdaomaaDoorSubCalls
namespace Go.Proofs.YtlfhfpjffdaomaaDoor
namespace Sb
open Utf (valid)
open Line (L seg)
open Gl
/-- A line with the one in the other's place. -/
def sws (p r : ByteArray) (m : Nat) (l : List UInt8) : List UInt8 := jn r.data.toList (ps p.data.toList 0 m l)
/-- What stands up to the end of the lines, then. -/
def goal (t : List UInt8) (p r : ByteArray) (m i j : Nat) : List UInt8 := fore ((Ix.parts t).take i) ++ glue ((mids i j (Ix.parts t)).map (sws p r m))
/-- About to go into line q of the lines i to j, at f. -/
structure Cur (t : List UInt8) (p r : ByteArray) (m i j q f : Nat) (ks : List Cg) (z : Int) : Prop where
  ent : Ent t r (sws p r m) (aft ((Ix.parts t).drop (j + 1))) (goal t p r m i j) ((mids i j (Ix.parts t)).drop q) ks f
  at_ : f = (fore ((Ix.parts t).take (i + q))).length
  last : Lst t ks z
  rest : lst p.data.toList m ((i + q : Nat) : Int) z ((mids i j (Ix.parts t)).drop q) = lst p.data.toList m (i : Nat) (-1) (mids i j (Ix.parts t))
theorem Cur.start {t : List UInt8} (p r : ByteArray) (m : Nat) {i j : Nat} {x y : Nat × Nat} (hij : i ≤ j) (hx : (L t)[i]? = some x) (hy : (L t)[j]? = some y) : Cur t p r m i j 0 x.1 [] (-1) := by
  obtain ⟨_, _, h3, hne, h4, _, h6⟩ := there_glue hij hx hy
  have hx2 := (Line.L_each hx)
  refine ⟨?_, ?_, .inl ⟨rfl, rfl⟩, rfl⟩
  · rw [List.drop_zero]
    cases hB : mids i j (Ix.parts t) with
    | nil => exact absurd hB hne
    | cons b B =>
      rw [hB, glue_cons, List.append_assoc] at h6
      refine ⟨t.take x.1, Sw.nil (by omega), h6, ?_, ap_nil _⟩
      rw [goal, hB, h4, List.map_cons, glue_cons]
  · rw [Nat.add_zero, ← h4, List.length_take]; omega
theorem mids_get {t : List UInt8} {i j q : Nat} (hq : q < j + 1 - i) : (mids i j (Ix.parts t))[q]? = (Ix.parts t)[i + q]? := by
  rw [mids, List.getElem?_take, if_pos hq, List.getElem?_drop]
/-- In a line that begins at a, behind u places. -/
def Row (t : List UInt8) (p r : ByteArray) (m i j q : Nat) (x : List UInt8) (a : Nat) (z : Int) (u f : Nat) (ks : List Cg) : Prop :=
  ∃ ks0 X X', Cur t p r m i j q a ks0 z ∧ Mid t p r (aft ((mids i j (Ix.parts t)).drop (q + 1)) ++ aft ((Ix.parts t).drop (j + 1))) (X ++ sws p r m x) ((ps p.data.toList 0 m x).drop u) ks f X' ∧
    ((u = 0 ∧ ks = ks0) ∨ (0 < u ∧ Tl a f ks)) ∧ Ap a ks0 ∧ a ≤ f ∧ X ++ sws p r m x ++ aft (((mids i j (Ix.parts t)).drop (q + 1)).map (sws p r m)) = goal t p r m i j
theorem Cur.row {t : List UInt8} {p r : ByteArray} {m i j q f : Nat} {ks : List Cg} {z : Int} {x : List UInt8} (C : Cur t p r m i j q f ks z) (hx : (mids i j (Ix.parts t))[q]? = some x) (h1 : 1 ≤ p.size) : Row t p r m i j q x f z 0 f ks := by
  have he := C.ent
  obtain ⟨hq, hx2⟩ := List.getElem?_eq_some_iff.1 hx
  rw [List.drop_eq_getElem_cons hq, hx2] at he
  obtain ⟨X, hM, ha, ho⟩ := Ent.mid h1 he
  exact ⟨ks, X, X, C, hM, .inl ⟨rfl, rfl⟩, ha, Nat.le_refl _, ho⟩
theorem Row.get {t : List UInt8} {p r : ByteArray} {m i j q a u f : Nat} {x : List UInt8} {ks : List Cg} {z : Int} (R : Row t p r m i j q x a z u f ks) : Btc.In f 0 ks ∧ ks.length ≤ t.length ∧ f ≤ t.length := by
  obtain ⟨_, _, _, _, M, _⟩ := R
  exact ⟨M.sw.inn, M.sw.heavy.1, M.sw.le⟩
theorem Row.step {t : List UInt8} {p r : ByteArray} {m i j q a u f : Nat} {x b : List UInt8} {ks : List Cg} {z : Int} (R : Row t p r m i j q x a z u f ks) (hb : (ps p.data.toList 0 m x)[u]? = some b) (hu : u + 1 < (ps p.data.toList 0 m x).length)
    (ht : valid t = true) (hp : valid p.data.toList = true) (hr : valid r.data.toList = true) (h1 : 1 ≤ p.size) :
    f + b.length + p.size ≤ t.length ∧ Btc.In (f + b.length) 0 ks ∧ Row t p r m i j q x a z (u + 1) (f + b.length + p.size) (addC t ks (f + b.length) p r) := by
  obtain ⟨ks0, X, X', C, M, h2, h3, h4, h5⟩ := R
  obtain ⟨hu0, hb2⟩ := List.getElem?_eq_some_iff.1 hb
  rw [List.drop_eq_getElem_cons hu0, hb2, List.drop_eq_getElem_cons hu] at M
  have M2 := M.step ht hp hr h1
  refine ⟨M2.sw.le, In_more M.sw.inn (by omega), ks0, X, _, C, by rw [List.drop_eq_getElem_cons hu]; exact M2, .inr ⟨by omega, ?_⟩, h3, by omega, h5⟩
  refine (tl_add (a := a) (f := f + b.length) ?_ (by omega)).more (by omega)
  rcases h2 with ⟨_, rfl⟩ | ⟨_, h⟩
  · exact .inl h3
  · exact .inr (h.more (by omega))
theorem Row.stop {t : List UInt8} {p r : ByteArray} {m i j q a u f : Nat} {x b : List UInt8} {ks : List Cg} {z : Int} (R : Row t p r m i j q x a z u f ks) (hx : (mids i j (Ix.parts t))[q]? = some x) (hb : (ps p.data.toList 0 m x)[u]? = some b) (hu : u + 1 = (ps p.data.toList 0 m x).length) (ht : valid t = true) :
    f + b.length ≤ t.length ∧ ∃ z', Cur t p r m i j (q + 1) (f + b.length + 1) ks z' := by
  obtain ⟨ks0, X, X', C, M, h2, h3, h4, h5⟩ := R
  obtain ⟨hu0, hb2⟩ := List.getElem?_eq_some_iff.1 hb
  obtain ⟨hq, hx2⟩ := List.getElem?_eq_some_iff.1 hx
  have hnil : (ps p.data.toList 0 m x).drop (u + 1) = [] := List.drop_eq_nil_of_le (by omega)
  rw [List.drop_eq_getElem_cons hu0, hb2, hnil] at M
  obtain ⟨S, hd⟩ := M.stop
  have hq2 : q < j + 1 - i := by rw [mids, List.length_take] at hq; omega
  have hxp : (Ix.parts t)[i + q]? = some x := by rw [← mids_get hq2]; exact hx
  have hL := L_at ht hxp
  rw [← C.at_] at hL
  have he := C.ent
  rw [List.drop_eq_getElem_cons hq, hx2] at he
  obtain ⟨X0, S0, hd0, _, _⟩ := he
  have e1 := congrArg List.length hd
  have e2 := congrArg List.length hd0
  have e3 := (Line.L_each hL).2
  have e4 := S.le
  have e5 := S0.le
  rw [List.length_drop] at e1 e2
  simp only [List.length_append] at e1 e2
  have hfb : f + b.length = a + x.length := by omega
  have hnext := fore_append ((Ix.parts t).take (i + q)) [x]
  have htk : (Ix.parts t).take (i + (q + 1)) = (Ix.parts t).take (i + q) ++ [x] := by
    rw [← Nat.add_assoc, List.take_add_one, hxp]; rfl
  refine ⟨e4, if 0 < (ps p.data.toList 0 m x).length - 1 then ((i + q : Nat) : Int) else z, Ent.next S hd h5, ?_, ?_, ?_⟩
  · rw [htk, hnext, List.length_append, ← C.at_, fore_cons]
    simp [fore]
    omega
  · by_cases hl : 0 < (ps p.data.toList 0 m x).length - 1
    · rw [if_pos hl]
      rcases h2 with ⟨h, _⟩ | ⟨_, h⟩
      · omega
      · exact lst_tl h hL (Nat.le_refl _) (by show f ≤ a + x.length; omega)
    · rw [if_neg hl]
      rcases h2 with ⟨_, rfl⟩ | ⟨h, _⟩
      · exact C.last
      · omega
  · rw [← C.rest, List.drop_eq_getElem_cons hq, hx2, lst]
    rw [show ((i + (q + 1) : Nat) : Int) = ((i + q : Nat) : Int) + 1 by omega]
/-- All changes that are laid. -/
structure Good (t : List UInt8) (p r : ByteArray) (m i j : Nat) (ks : List Cg) : Prop where
  sw : ∃ g X, Sw t r ks g X ∧ X ++ t.drop g = glue (rows p.data.toList r.data.toList m i j (Ix.parts t))
  last : Lst t ks (lst p.data.toList m (i : Nat) (-1) (mids i j (Ix.parts t)))
theorem Cur.good {t : List UInt8} {p r : ByteArray} {m i j q f : Nat} {ks : List Cg} {z : Int} (C : Cur t p r m i j q f ks z) (hij : i ≤ j) (hj : j < (Ix.parts t).length) (hq : (mids i j (Ix.parts t)).length ≤ q) : Good t p r m i j ks := by
  have he := C.ent
  have hr := C.rest
  rw [List.drop_eq_nil_of_le hq] at he hr
  obtain ⟨g, _, S, hd⟩ := he
  refine ⟨⟨g, _, S, ?_⟩, by rw [← hr]; exact C.last⟩
  have hne : (mids i j (Ix.parts t)).map (sws p r m) ≠ [] := fun h => by
    have h1 := congrArg List.length h
    rw [List.length_map, mids_length hij hj, List.length_nil] at h1
    omega
  rw [hd, goal, rows, List.append_assoc]
  exact (glue_mid hne).symm
theorem Good.none {t : List UInt8} {p r : ByteArray} {m i j : Nat} {ks : List Cg} (G : Good t p r m i j ks) : ks = [] ↔ cnt p.data.toList m (mids i j (Ix.parts t)) = 0 := by
  constructor
  · rintro rfl
    rcases G.last with ⟨_, h⟩ | ⟨i', k, h, _⟩
    · rcases lst_some (p := p.data.toList) (m := m) (Q := mids i j (Ix.parts t)) (i : Nat) (-1) with ⟨_, h2⟩ | ⟨h2, _⟩
      · exact h2
      · omega
    · have := congrArg List.length h
      simp at this
  · intro h
    rcases G.last with ⟨h1, _⟩ | ⟨i', k, _, _, h2⟩
    · exact h1
    · rw [lst_none h] at h2; omega
theorem Good.made {t : List UInt8} {p r : ByteArray} {m i j : Nat} {ks : List Cg} (G : Good t p r m i j ks) : Btc.right t ks = true ∧ Btc.made t ks = glue (rows p.data.toList r.data.toList m i j (Ix.parts t)) ∧ ((Btc.made t ks).length : Int) = t.length + Btc.grow ks ∧ ks.length ≤ t.length ∧ (weigh ks : Int) ≤ 2 * t.length + Btc.grow ks ∧ weigh ks ≤ t.length + ks.length * r.size ∧ (∀ k ∈ ks, 0 ≤ k.at_ ∧ k.at_ ≤ t.length) := by
  obtain ⟨g, X, S, h⟩ := G.sw
  obtain ⟨h1, h2, h3⟩ := S.heavy
  refine ⟨S.right, by rw [S.done, h], S.grow, h1, h2, h3, fun k hk => ?_⟩
  obtain ⟨a, ha, hl⟩ := Chg.fits_off (S.fit k hk)
  omega
theorem Good.last_at {t : List UInt8} {p r : ByteArray} {m i j : Nat} {ks : List Cg} (G : Good t p r m i j ks) {n : Nat} (hn : ks.length = n + 1) : ∃ k, ks[n]? = some k ∧ Line.of_ t k.at_ = lst p.data.toList m (i : Nat) (-1) (mids i j (Ix.parts t)) := by
  rcases G.last with ⟨rfl, _⟩ | ⟨i', k, rfl, h, _⟩
  · cases hn
  · rw [List.length_append, List.length_singleton] at hn
    exact ⟨k, by rw [List.getElem?_append_right (by omega), show n - i'.length = 0 by omega]; rfl, h⟩
end Sb
end Go.Proofs.YtlfhfpjffdaomaaDoor
