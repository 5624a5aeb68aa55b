/-
  The law TreeBack: redoing undoes undoing, and the other way round; all that is told may be, and has the same nodes.
-/
import Derived.Test.YtffihchkmcddeaaTreeLives
import Derived.Test.YtffihchkmcddeaaTreeOpen
import Derived.Test.YtffihchkmcddeaaTreeBackPlain
import Derived.Test.YtffihchkmcddeaaTreeTo
namespace Go.Proofs.Ytffihchkmcddeaa
open Go.RowKit
open Tre
/-- Nodes do not lie in a block of two cells. -/
theorem nds_kept {w : World} {A : Option Addr} {l : List Nd} {g : Nat} {t : TypeId} {c0 c1 v0 v1 : Value} (h : Nds w A l) (hB : Blk w g t #[c0, c1]) : Nds ((w.setCell ⟨g, 0, none⟩ v0).setCell ⟨g, 1, none⟩ v1) A l := by
  rcases Nat.eq_zero_or_pos l.length with h0 | h0
  · exact fun h1 => absurd h1 (by omega)
  · refine nds_two h (fun ad e h1 => ?_)
    obtain ⟨b, off, e2, _, hc⟩ := h h0
    have c6 := (hc 0 _ (List.getElem?_eq_getElem h0)).2.2.2.2.2.2
    rw [e] at e2
    injection e2 with e2
    subst e2
    simp only at h1
    subst h1
    rw [hB.cell] at c6
    rw [Array.getElem?_eq_none (by show 2 ≤ _; omega)] at c6
    cases c6
theorem numAt_of {l : List Nd} {cur m : Int} {b : Bool} {n : Nat} {w w' : World} {e : Ending} (hn : l.length = n) (h : TreeNum (l, cur, m, b) w e w') : NumAt n l cur m b w e w' := by
  subst hn
  obtain ⟨v, rfl, A, c, rfl, h1, h2, h3⟩ := h
  exact ⟨A, c, rfl, h1, h2, h3⟩
theorem errAt_of {l : List Nd} {cur m : Int} {n : Nat} {w w' : World} {e : Ending} (hn : l.length = n) (h : TreeErr (l, cur, m) w e w') : ErrAt n l cur m w e w' := by
  subst hn
  obtain ⟨v, rfl, A, c, rfl, h1, h2, h3⟩ := h
  exact ⟨A, c, rfl, h1, h2, h3⟩
/-- What the walk asks of a tree that may be, with its calls. -/
def NextAt (l U : List Nd) (k : Nat) (q : Nat) (w : World) (e : Ending) (w' : World) : Prop := ∃ p : Nat, on l p k = true ∧ q < p ∧ p < l.length ∧ NumAt l.length U (p : Nat) (p : Nat) true w e w'
section
variable {l : List Nd} {cur : Int} {k : Nat}
theorem sizes_of {U : List Nd} (h : Tre.Alike l U) (hs : ∀ x ∈ l, x.old.size ≤ 140737488355327 ∧ x.new.size ≤ 140737488355327) : ∀ x ∈ U, x.old.size ≤ 140737488355327 ∧ x.new.size ≤ 140737488355327 := fun x hx => by
  obtain ⟨j, hj, rfl⟩ := List.getElem_of_mem hx
  obtain ⟨y, hy⟩ : ∃ y, l[j]? = some y := ⟨_, List.getElem?_eq_getElem (by rw [h.1]; exact hj)⟩
  obtain ⟨n, h2⟩ := h.2 j y hy
  rw [List.getElem?_eq_getElem hj] at h2
  injection h2 with h2
  rw [h2]
  exact hs y (List.mem_of_getElem? hy)
theorem back_undo (hR : Right l cur) (hk : k < l.length) (hm : l.length ≤ 2000) (hs : ∀ x ∈ l, x.old.size ≤ 140737488355327 ∧ x.new.size ≤ 140737488355327) {q : Nat} (hq : q < l.length) (h0 : 0 < q) {u : World} {A : Option Addr} {c : Nat} (hx : Nds u A (went l k)) (hc : l.length ≤ c) :
    Calls Try.prog 18 #[.agg #[.slice A l.length c, .int .i64 q]] u (NumAt l.length (went l k) (abv l q : Nat) (q : Nat) true u) := by
  have hl := went_len l k
  have := tree_Undo (cur := (q : Int)) hx (by rw [hl]; exact hc) (by rw [hl]; exact hm) (sizes_of (went_alike l k) hs)
  rw [undo, if_pos ((went_right hR hk).goto (by rw [hl]; exact hq)), if_neg (by omega), Int.toNat_natCast, (went_alike l k).abv, hl] at this
  exact this.mono fun e w' h => numAt_of hl h
theorem back_root (hR : Right l cur) (hk : k < l.length) (hm : l.length ≤ 2000) (hs : ∀ x ∈ l, x.old.size ≤ 140737488355327 ∧ x.new.size ≤ 140737488355327) {u : World} {A : Option Addr} {c : Nat} (hx : Nds u A (went l k)) (hc : l.length ≤ c) :
    Calls Try.prog 18 #[.agg #[.slice A l.length c, .int .i64 0]] u (NumAt l.length (went l k) 0 0 false u) := by
  have hl := went_len l k
  have := tree_Undo (cur := 0) hx (by rw [hl]; exact hc) (by rw [hl]; exact hm) (sizes_of (went_alike l k) hs)
  have h0 : Right (went l k) 0 := (went_right hR hk).goto (q := 0) (by rw [hl]; omega)
  rw [undo, if_pos h0, if_pos rfl, hl] at this
  exact this.mono fun e w' h => numAt_of hl h
theorem back_redo (hR : Right l cur) (hk : k < l.length) (hm : l.length ≤ 2000) (hs : ∀ x ∈ l, x.old.size ≤ 140737488355327 ∧ x.new.size ≤ 140737488355327) {q : Nat} (ho : on l q k = true) (hne : q ≠ k) {u : World} {A : Option Addr} {c : Nat} (hx : Nds u A (went l k)) (hc : l.length ≤ c) :
    Calls Try.prog 20 #[.agg #[.slice A l.length c, .int .i64 q]] u (NextAt l (went l k) k q u) := by
  have hl := went_len l k
  obtain ⟨p, h1, h2, h3, h4, h5⟩ := went_next hR.ups hk ho hne
  have := tree_Redo (cur := (q : Int)) hx (by rw [hl]; exact hc) (by rw [hl]; exact hm) (sizes_of (went_alike l k) hs)
  rw [redo, if_pos ((went_right hR hk).goto (by rw [hl]; omega)), Int.toNat_natCast, h5, if_neg (by omega), hl] at this
  exact this.mono fun e w' h => ⟨p, h1, h3, h4, numAt_of hl h⟩
theorem back_right {U : List Nd} {q : Int} (hR : Right U q) (hl : U.length = l.length) (hm : l.length ≤ 2000) {u : World} {A : Option Addr} {c : Nat} (hx : Nds u A U) (hc : l.length ≤ c) :
    Calls Try.prog 12 #[.agg #[.slice A l.length c, .int .i64 q]] u fun e w' => e = .returned (.bool true) ∧ Below u.heap.size u w' := by
  have := tree_Right (cur := q) hx (by rw [hl]; exact hc) (by rw [hl]; exact hm)
  rw [decide_eq_true hR, hl] at this
  exact this
theorem back_same {U : List Nd} {q : Int} (hl : U.length = l.length) (hm : l.length ≤ 2000) {u : World} {A B : Option Addr} {c d : Nat} (hx : Nds u A U) (hy : Nds u B U) :
    Calls Try.prog 15 #[.agg #[.slice A l.length c, .int .i64 q], .agg #[.slice B l.length d, .int .i64 q]] u fun e w' => e = .returned (.bool true) ∧ Below u.heap.size u w' := by
  have := tree_Same (c := c) (d := d) (p := q) (q := q) hx hy (by rw [hl]; exact hm)
  rw [decide_eq_true (And.intro rfl rfl), hl] at this
  exact this
end
set_option maxHeartbeats 8000000 in
set_option maxRecDepth 100000 in
theorem treeBack_redo_node {A : Option Addr} {c : Nat} {l : List Nd} {cur : Int} {k : Nat} {w : World} (hx : Nds w A l) (hc : l.length ≤ c) (hl : l.length ≤ 150) (hs : ∀ x ∈ l, x.old.size ≤ 140737488355327 ∧ x.new.size ≤ 140737488355327) (hR : Right l cur) (hk0 : 0 < k) (hk : k < l.length) (hn : nxt l cur.toNat ≠ -1) :
    Calls Try.prog 7 #[.agg #[.slice A l.length c, .int .i64 cur], .int .i64 (k : Int)] w fun e w' => e = .returned (.bool true) ∧ Below w.heap.size w w' := by
  have LV := Lib.hid tree_lives
  have hm : l.length ≤ 2000 := by omega
  have RT : Hid (∀ u, Below w.heap.size w u → Calls Try.prog 12 #[.agg #[.slice A l.length c, .int .i64 cur]] u fun e w' => e = .returned (.bool true) ∧ Below u.heap.size u w') := fun u hu => back_right hR rfl hm (hx.below hu) hc
  obtain ⟨p, hp1, hp2, hp3, hp4⟩ := redo_next hR hn
  have hRp := hR.goto hp2
  have RD : Hid (∀ u, Below w.heap.size w u → Calls Try.prog 20 #[.agg #[.slice A l.length c, .int .i64 cur]] u (NumAt l.length l (p : Nat) (p : Nat) true u)) := fun u hu => by
    have := tree_Redo (cur := cur) (hx.below hu) hc hm hs
    rw [redo, if_pos hR, hp1, if_neg (by omega)] at this
    exact this.mono fun e w' h => numAt_of rfl h
  have UD : Hid (∀ (u : World) (A : Option Addr) (c : Nat), Nds u A l → l.length ≤ c → Calls Try.prog 18 #[.agg #[.slice A l.length c, .int .i64 (p : Nat)]] u (NumAt l.length l cur (p : Nat) true u)) := fun u A c h1 h2 => by
    have := tree_Undo (cur := (p : Nat)) h1 h2 hm hs
    rw [undo, if_pos hRp, if_neg (by omega), Int.toNat_natCast, hp4, Int.toNat_of_nonneg hR.low] at this
    exact this.mono fun e w' h => numAt_of rfl h
  have SM : Hid (∀ (u : World) (B : Option Addr) (d : Nat), Nds u B l → Below w.heap.size w u → Calls Try.prog 15 #[.agg #[.slice B l.length d, .int .i64 cur], .agg #[.slice A l.length c, .int .i64 cur]] u fun e w' => e = .returned (.bool true) ∧ Below u.heap.size u w') := fun u B d h1 h2 => back_same rfl hm h1 (hx.below h2)
  have RA : Hid (∀ (u : World) (A : Option Addr) (c : Nat), Nds u A l → l.length ≤ c → Calls Try.prog 12 #[.agg #[.slice A l.length c, .int .i64 (p : Nat)]] u fun e w' => e = .returned (.bool true) ∧ Below u.heap.size u w') := fun u A c h1 h2 => back_right hRp rfl hm h1 h2
  have TO : Hid (∀ u, Below w.heap.size w u → Calls Try.prog 29 #[.agg #[.slice A l.length c, .int .i64 cur], .int .i64 (k : Int)] u (ErrAt l.length (went l k) (k : Int) 0 u)) := fun u hu => by
    have := tree_To (cur := cur) (k := (k : Int)) (hx.below hu) hc hm hs
    rw [goTo, if_neg (fun h => h hR), if_neg (by omega), Int.toNat_natCast] at this
    exact this.mono fun e w' h => errAt_of (went_len l k) h
  have RU : Hid (∀ (u : World) (A : Option Addr) (c : Nat), Nds u A (went l k) → l.length ≤ c → Calls Try.prog 12 #[.agg #[.slice A l.length c, .int .i64 (k : Int)]] u fun e w' => e = .returned (.bool true) ∧ Below u.heap.size u w') := fun u A c h1 h2 => by
    have := back_right (went_right hR hk) (went_len l k) hm h1 h2
    exact this
  have hRU := went_right hR hk
  have CH : Hid (∀ (u : World) (A : Option Addr) (c : Nat), Nds u A (went l k) → l.length ≤ c → Calls Try.prog 25 #[.agg #[.slice A l.length c, .int .i64 (k : Int)], .int .i64 (k : Int)] u (ErrAt l.length (Tre.choose (went l k) k) (k : Int) 0 u)) := fun u A c h1 h2 => by
    have hl := went_len l k
    have := tree_Choose (cur := (k : Int)) (k := (k : Int)) h1 (by rw [hl]; exact h2) (by rw [hl]; exact hm) (sizes_of (went_alike l k) hs)
    rw [chose, if_neg (fun h => h hRU), if_neg (by rw [hl]; omega), Int.toNat_natCast, hl] at this
    exact this.mono fun e w' h => errAt_of (by rw [choose_length, hl]) h
  have RC : Hid (∀ (u : World) (A : Option Addr) (c : Nat), Nds u A (Tre.choose (went l k) k) → l.length ≤ c → Calls Try.prog 12 #[.agg #[.slice A l.length c, .int .i64 (k : Int)]] u fun e w' => e = .returned (.bool true) ∧ Below u.heap.size u w') := fun u A c h1 h2 => back_right (right_choose hRU hk0 (by rw [went_len]; exact hk)) (by rw [choose_length, went_len]) hm h1 h2
  have UN : Hid (∀ (u : World) (A : Option Addr) (c q : Nat), Nds u A (went l k) → l.length ≤ c → q < l.length → 0 < q → Calls Try.prog 18 #[.agg #[.slice A l.length c, .int .i64 (q : Nat)]] u (NumAt l.length (went l k) (abv l q : Nat) (q : Nat) true u)) := fun u A c q h1 h2 h3 h4 => back_undo hR hk hm hs h3 h4 h1 h2
  have UZ : Hid (∀ (u : World) (A : Option Addr) (c : Nat), Nds u A (went l k) → l.length ≤ c → Calls Try.prog 18 #[.agg #[.slice A l.length c, .int .i64 0]] u (NumAt l.length (went l k) 0 0 false u)) := fun u A c h1 h2 => back_root hR hk hm hs h1 h2
  have RN : Hid (∀ (u : World) (A : Option Addr) (c q : Nat), Nds u A (went l k) → l.length ≤ c → on l q k = true → q ≠ k → Calls Try.prog 20 #[.agg #[.slice A l.length c, .int .i64 (q : Nat)]] u (NextAt l (went l k) k q u)) := fun u A c q h1 h2 h3 h4 => back_redo hR hk hm hs h3 h4 h1 h2
  have SE : Hid (∀ (u : World) (A B : Option Addr) (c d : Nat), Nds u A (went l k) → Nds u B (went l k) → Calls Try.prog 15 #[.agg #[.slice A l.length c, .int .i64 (k : Int)], .agg #[.slice B l.length d, .int .i64 (k : Int)]] u fun e w' => e = .returned (.bool true) ∧ Below u.heap.size u w') := fun u A B c d h1 h2 => back_same (went_len l k) hm h1 h2
  have OR := Lib.hid (on_base hR.ups hk)
  have HU := Lib.hid hR.ups
  have d0 : decide ((150 : Int) < (l.length : Int)) = false := decide_eq_false (by omega)
  have l1 := hR.one
  have hW : Below w.heap.size w (w.alloc (.cells #[.slice A l.length c, .int .i64 cur] 24)) := al (Below.refl _ _) _
  have Bt := Blk.new w 24 #[.slice A l.length c, .int .i64 cur]
  have k0 : decide ((0 : Int) < (k : Int)) = true := decide_eq_true (by omega)
  have k1 : decide ((k : Int) < 0) = false := decide_eq_false (by omega)
  clear hx hs hR hn hp1 hp3 hp4 hRp hRU
  generalize went l k = U at *
  generalize Tre.choose U k = C at *
  go_enter Try.func7, Try.ntmps7
  go_wp2_with (first
    | (go_at_call 12; (with_reducible refine (RT.out _ hW).mono ?_); rintro e w1 ⟨rfl, hb1⟩; replace Bt := Bt.below hb1 Bt.lt; replace hW := hW.trans (hb1.mono hW.size); have t0 := Bt.cell 0; have t1 := Bt.cell 1)
    | (go_at_call 20; (with_reducible refine (RD.out _ hW).mono ?_); rintro e w2 ⟨A2, c2, rfl, na, hc2, hb2⟩; replace Bt := Bt.below hb2 Bt.lt; replace hW := hW.trans (hb2.mono hW.size); replace Bt := Bt.alloc (.cells #[.slice A2 l.length c2, .int .i64 (p : Nat)] 24); replace na := na.below (al (Below.refl _ w2) (.cells #[.slice A2 l.length c2, .int .i64 (p : Nat)] 24)); have Ba := Blk.new w2 24 #[.slice A2 l.length c2, .int .i64 (p : Nat)]; replace hW := al hW (.cells #[.slice A2 l.length c2, .int .i64 (p : Nat)] 24); have a0 := Ba.cell 0; have a1 := Ba.cell 1)
    | (go_at_call 18; (with_reducible refine (UD.out _ _ _ na hc2).mono ?_); rintro e w3 ⟨A3, c3, rfl, nb, hc3, hb3⟩; replace Bt := Bt.below hb3 Bt.lt; replace Ba := Ba.below hb3 Ba.lt; replace na := na.below hb3; replace hW := hW.trans (hb3.mono hW.size); replace Bt := Bt.alloc (.cells #[.slice A3 l.length c3, .int .i64 cur] 24); replace Ba := Ba.alloc (.cells #[.slice A3 l.length c3, .int .i64 cur] 24); replace na := na.below (al (Below.refl _ w3) (.cells #[.slice A3 l.length c3, .int .i64 cur] 24)); replace nb := nb.below (al (Below.refl _ w3) (.cells #[.slice A3 l.length c3, .int .i64 cur] 24)); have Bb := Blk.new w3 24 #[.slice A3 l.length c3, .int .i64 cur]; replace hW := al hW (.cells #[.slice A3 l.length c3, .int .i64 cur] 24); have t0 := Bt.cell 0; have t1 := Bt.cell 1)
    | (go_at_call 15; (with_reducible refine (SM.out _ _ _ nb hW).mono ?_); rintro e w4 ⟨rfl, hb4⟩; replace Bt := Bt.below hb4 Bt.lt; replace Ba := Ba.below hb4 Ba.lt; replace na := na.below hb4; replace hW := hW.trans (hb4.mono hW.size); have t0 := Bt.cell 0; have t1 := Bt.cell 1)
    | (go_at_call 29; (with_reducible refine (TO.out _ hW).mono ?_); rintro e w5 ⟨A5, c5, rfl, nu, hc5, hb5⟩; replace Bt := Bt.below hb5 Bt.lt; replace Ba := Ba.below hb5 Ba.lt; replace na := na.below hb5; replace hW := hW.trans (hb5.mono hW.size); replace Bt := Bt.alloc (.cells #[.slice A5 l.length c5, .int .i64 (k : Int)] 24); replace Ba := Ba.alloc (.cells #[.slice A5 l.length c5, .int .i64 (k : Int)] 24); replace na := na.below (al (Below.refl _ w5) (.cells #[.slice A5 l.length c5, .int .i64 (k : Int)] 24)); replace nu := nu.below (al (Below.refl _ w5) (.cells #[.slice A5 l.length c5, .int .i64 (k : Int)] 24)); have Bu := Blk.new w5 24 #[.slice A5 l.length c5, .int .i64 (k : Int)]; replace hW := al hW (.cells #[.slice A5 l.length c5, .int .i64 (k : Int)] 24); have u0 := Bu.cell 0; have u1 := Bu.cell 1)
    | (go_at_call 25; (with_reducible refine (CH.out _ _ _ nu hc5).mono ?_); rintro e w6 ⟨A6, c6, rfl, nc, hc6, hb6⟩; replace Bt := Bt.below hb6 Bt.lt; replace Ba := Ba.below hb6 Ba.lt; replace Bu := Bu.below hb6 Bu.lt; replace na := na.below hb6; replace nu := nu.below hb6; replace hW := hW.trans (hb6.mono hW.size); replace Bt := Bt.alloc (.cells #[.slice A6 l.length c6, .int .i64 (k : Int)] 24); replace Ba := Ba.alloc (.cells #[.slice A6 l.length c6, .int .i64 (k : Int)] 24); replace Bu := Bu.alloc (.cells #[.slice A6 l.length c6, .int .i64 (k : Int)] 24); replace na := na.below (al (Below.refl _ w6) (.cells #[.slice A6 l.length c6, .int .i64 (k : Int)] 24)); replace nu := nu.below (al (Below.refl _ w6) (.cells #[.slice A6 l.length c6, .int .i64 (k : Int)] 24)); replace nc := nc.below (al (Below.refl _ w6) (.cells #[.slice A6 l.length c6, .int .i64 (k : Int)] 24)); have Bc := Blk.new w6 24 #[.slice A6 l.length c6, .int .i64 (k : Int)]; replace hW := al hW (.cells #[.slice A6 l.length c6, .int .i64 (k : Int)] 24); have a0 := Ba.cell 0; have a1 := Ba.cell 1)
    | (go_at_call 12; (with_reducible refine (RA.out _ _ _ na hc2).mono ?_); rintro e w7 ⟨rfl, hb7⟩; replace Bt := Bt.below hb7 Bt.lt; replace Bu := Bu.below hb7 Bu.lt; replace Bc := Bc.below hb7 Bc.lt; replace nu := nu.below hb7; replace nc := nc.below hb7; replace hW := hW.trans (hb7.mono hW.size); have u0 := Bu.cell 0; have u1 := Bu.cell 1)
    | (go_at_call 12; (with_reducible refine (RU.out _ _ _ nu hc5).mono ?_); rintro e w8 ⟨rfl, hb8⟩; replace Bt := Bt.below hb8 Bt.lt; replace Bu := Bu.below hb8 Bu.lt; replace Bc := Bc.below hb8 Bc.lt; replace nu := nu.below hb8; replace nc := nc.below hb8; replace hW := hW.trans (hb8.mono hW.size); have u0 := Bu.cell 0; have u1 := Bu.cell 1; have t0 := Bt.cell 0; have t1 := Bt.cell 1; have c0 := Bc.cell 0; have c1 := Bc.cell 1)
    | (go_at_call 12; (with_reducible refine (RC.out _ _ _ nc hc6).mono ?_); rintro e w9 ⟨rfl, hb9⟩; replace Bt := Bt.below hb9 Bt.lt; replace Bu := Bu.below hb9 Bu.lt; replace nu := nu.below hb9; replace hW := hW.trans (hb9.mono hW.size); have u0 := Bu.cell 0; have u1 := Bu.cell 1; have t0 := Bt.cell 0; have t1 := Bt.cell 1))
  generalize w5.heap.size = bu at *
  have nV : w9.heap.size + 1 = (w9.alloc (.cells #[.slice A5 l.length c5, .int .i64 (k : Int)] 24)).heap.size := by rw [World.size_alloc]
  have P : Hid (∀ u, Below w9.heap.size (w9.alloc (.cells #[.slice A5 l.length c5, .int .i64 (k : Int)] 24)) u → Blk u w.heap.size 24 #[.slice A l.length c, .int .i64 cur] ∧ Blk u bu 24 #[.slice A5 l.length c5, .int .i64 (k : Int)] ∧ Nds u A5 U ∧ Below w.heap.size w u ∧ w9.heap.size + 1 ≤ u.heap.size) := fun u hu => by
    have hu' : Below w9.heap.size w9 u := (al (Below.refl _ w9) (.cells #[.slice A5 l.length c5, .int .i64 (k : Int)] 24)).trans hu
    exact ⟨Bt.below hu' Bt.lt, Bu.below hu' Bu.lt, nu.below hu', hW.trans (hu'.mono hW.size), by rw [nV]; exact hu.size⟩
  have Bv := Blk.new w9 24 #[.slice A5 l.length c5, .int .i64 (k : Int)]
  have nv := nu.below (al (Below.refl _ w9) (.cells #[.slice A5 l.length c5, .int .i64 (k : Int)] 24))
  have V0 := Below.refl w9.heap.size (w9.alloc (.cells #[.slice A5 l.length c5, .int .i64 (k : Int)] 24))
  have NBl : Hid (w.heap.size ≤ w9.heap.size) := hW.size
  have NBt : Hid (w.heap.size ≠ w9.heap.size) := Nat.ne_of_lt Bt.lt
  have NBu : Hid (bu ≠ w9.heap.size) := Nat.ne_of_lt Bu.lt
  generalize w9.alloc (.cells #[.slice A5 l.length c5, .int .i64 (k : Int)] 24) = wz at *
  generalize w9.heap.size = bv at *
  clear Bt Bu nu hW nV
  clear t0 t1 a0 a1 u0 u1 c0 c1 na hc2 hb1 hb2 hb5 hb6 hb7 hb9 Ba RT RD RA TO RU CH hb3 hb4 nb hc3 Bb UD SM hb8 nc hc6 Bc RC
  have V0H := Lib.hid V0
  have BvH := Lib.hid Bv
  have nvH := Lib.hid nv
  clear V0 Bv nv
  go_loopw [16] (fun nV wr => ∃ (j q : Nat) (A' : Option Addr) (c' : Nat), nV = .int .i64 j ∧ j ≤ l.length ∧ j + q ≤ k ∧ Hid (Blk wr bv 24 #[.slice A' l.length c', .int .i64 q]) ∧ Hid (Nds wr A' U) ∧ l.length ≤ c' ∧ Below bv wz wr) (fun nV _ => l.length - (intOf nV).toNat)
  case atStart => exact ⟨0, k, A5, c5, rfl, Nat.zero_le _, by omega, BvH, nvH, hc5, V0H.out⟩
  case round =>
    clear V0H BvH nvH
    obtain ⟨j, q, A', c', rfl, hj, hjq, HB, HN, hc', hV⟩ := hrel
    obtain ⟨Bt, Bu, nu, hW, hz⟩ := P.out _ hV
    have t0 := Bt.cell 0
    have v0 := HB.out.cell 0
    have v1 := HB.out.cell 1
    have g1 : decide ((j : Int) < (l.length : Int)) = true := decide_eq_true (by omega)
    by_cases hq : q = 0
    · subst hq
      have v1' : wr.cell? ⟨bv, 1, none⟩ = some (.int .i64 0) := v1
      clear v1
      go_wp2_with (go_at_call 18; (with_reducible refine (UZ.out _ _ _ HN.out hc').mono ?_); rintro e w11 ⟨A7, c7, rfl, _, _, hb11⟩; have hb12 := al hb11 (.cells #[.slice A7 l.length c7, .int .i64 0] 24); have Bv := HB.out.below hb12 HB.out.lt; have nv := Lib.hid (HN.out.below hb12); have y0 := Bv.cell 0; have y1' : (w11.alloc (.cells #[.slice A7 l.length c7, .int .i64 0] 24)).cell? ⟨bv, 1, none⟩ = some (.int .i64 0) := Bv.cell 1; have hV2 := hV.trans (hb12.mono (Nat.le_of_lt HB.out.lt)))
      have BvH := Lib.hid Bv
      have V0H := Lib.hid hV2
      clear HB HN hV Bv y0 y1' v0 v1' t0 Bt Bu nu hW hz hb12 hb11 g1 hjq hj
      generalize w11.alloc (.cells #[.slice A7 l.length c7, .int .i64 0] 24) = wy at *
      go_loopw [20] (fun nV wr => ∃ (j q : Nat) (A' : Option Addr) (c' : Nat), nV = .int .i64 j ∧ j ≤ q ∧ q < l.length ∧ Hid (on l q k = true) ∧ Hid (Blk wr bv 24 #[.slice A' l.length c', .int .i64 q]) ∧ Hid (Nds wr A' U) ∧ l.length ≤ c' ∧ Below bv wz wr) (fun nV _ => l.length - (intOf nV).toNat)
      case atStart => exact ⟨0, 0, A', c', rfl, Nat.le_refl _, by omega, OR, BvH, nv, hc', V0H.out⟩
      case round =>
        clear BvH nv V0H
        obtain ⟨j, q, A8, c8, rfl, hjq, hql, HO, HB, HN, hc8, hV⟩ := hrel
        obtain ⟨Bt, Bu, nu, hW, hz⟩ := P.out _ hV
        have t0 := Bt.cell 0
        have u0 := Bu.cell 0
        have u1 := Bu.cell 1
        have v0 := HB.out.cell 0
        have v1 := HB.out.cell 1
        have g1 : decide ((j : Int) < (l.length : Int)) = true := decide_eq_true (by omega)
        by_cases hqk : q = k
        · subst hqk
          go_wp2_with (first
            | (go_at_call 15; (with_reducible refine (SE.out _ _ _ _ _ HN.out nu).mono ?_); rintro e w13 ⟨rfl, hb13⟩; replace hW := hW.trans (hb13.mono hW.size))
            | (go_at_call 9; (with_reducible refine (LV.out _).mono ?_); rintro e w14 ⟨rfl, hb14⟩))
          go_ret
          exact ⟨rfl, hW.trans (hb14.mono hW.size)⟩
        · have qk : ((q : Int) != (k : Int)) = true := by rw [bne_iff_ne]; omega
          go_wp2_with (go_at_call 20; (with_reducible refine (RN.out _ _ _ _ HN.out hc8 HO.out hqk).mono ?_); rintro e w13 ⟨p', hp1', hp2', hp3', A9, c9, rfl, nw, hc9, hb13⟩; have hb14 := al hb13 (.cells #[.slice A9 l.length c9, .int .i64 (p' : Nat)] 24); have Bv := HB.out.below hb14 HB.out.lt; have nw2 := nw.below (al (Below.refl _ w13) (.cells #[.slice A9 l.length c9, .int .i64 (p' : Nat)] 24)); have y0 := Bv.cell 0; have y1 := Bv.cell 1; have f0 := Bv.frozen 0; have f1 := Bv.frozen 1)
          have Bv2 := Lib.hid (two_row (v0 := .slice A9 l.length c9) (v1 := .int .i64 (p' : Nat)) Bv)
          have nv2 := Lib.hid (nds_kept (v0 := .slice A9 l.length c9) (v1 := .int .i64 (p' : Nat)) nw2 Bv)
          have hV2 := below_two (v0 := .slice A9 l.length c9) (v1 := .int .i64 (p' : Nat)) (hV.trans (hb14.mono (Nat.le_of_lt HB.out.lt))) (Nat.le_refl _)
          go_roundw
          case rel => exact ⟨j + 1, p', A9, c9, by go_num, by omega, hp3', hp1', Bv2, nv2, hc9, hV2⟩
          case measure => simp [intOf] <;> omega

    · have ha : abv l q < q := HU.out.abv_lt (by omega) (by omega)
      have q0 : ((q : Int) != 0) = true := by rw [bne_iff_ne]; omega
      go_wp2_with (go_at_call 18; (with_reducible refine (UN.out _ _ _ _ HN.out hc' (by omega) (by omega)).mono ?_); rintro e w11 ⟨A7, c7, rfl, nw, hc7, hb11⟩; have hb12 := al hb11 (.cells #[.slice A7 l.length c7, .int .i64 (abv l q : Nat)] 24); have Bv := HB.out.below hb12 HB.out.lt; have nw2 := nw.below (al (Below.refl _ w11) (.cells #[.slice A7 l.length c7, .int .i64 (abv l q : Nat)] 24)); have y0 := Bv.cell 0; have y1 := Bv.cell 1; have f0 := Bv.frozen 0; have f1 := Bv.frozen 1)
      have Bv2 := Lib.hid (two_row (v0 := .slice A7 l.length c7) (v1 := .int .i64 (abv l q : Nat)) Bv)
      have nv2 := Lib.hid (nds_kept (v0 := .slice A7 l.length c7) (v1 := .int .i64 (abv l q : Nat)) nw2 Bv)
      have hV2 := below_two (v0 := .slice A7 l.length c7) (v1 := .int .i64 (abv l q : Nat)) (hV.trans (hb12.mono (Nat.le_of_lt HB.out.lt))) (Nat.le_refl _)
      go_roundw
      case rel => exact ⟨j + 1, abv l q, A7, c7, by go_num, by omega, by omega, Bv2, nv2, hc7, hV2⟩
      case measure => simp [intOf] <;> omega
set_option maxHeartbeats 8000000 in
set_option maxRecDepth 100000 in
theorem treeBack_stay_node {A : Option Addr} {c : Nat} {l : List Nd} {cur : Int} {k : Nat} {w : World} (hx : Nds w A l) (hc : l.length ≤ c) (hl : l.length ≤ 150) (hs : ∀ x ∈ l, x.old.size ≤ 140737488355327 ∧ x.new.size ≤ 140737488355327) (hR : Right l cur) (hk0 : 0 < k) (hk : k < l.length) (hn : nxt l cur.toNat = -1) :
    Calls Try.prog 7 #[.agg #[.slice A l.length c, .int .i64 cur], .int .i64 (k : Int)] w fun e w' => e = .returned (.bool true) ∧ Below w.heap.size w w' := by
  have LV := Lib.hid tree_lives
  have hm : l.length ≤ 2000 := by omega
  have RT : Hid (∀ u, Below w.heap.size w u → Calls Try.prog 12 #[.agg #[.slice A l.length c, .int .i64 cur]] u fun e w' => e = .returned (.bool true) ∧ Below u.heap.size u w') := fun u hu => back_right hR rfl hm (hx.below hu) hc
  have RD : Hid (∀ u, Below w.heap.size w u → Calls Try.prog 20 #[.agg #[.slice A l.length c, .int .i64 cur]] u (NumAt l.length l cur 0 false u)) := fun u hu => by
    have := tree_Redo (cur := cur) (hx.below hu) hc hm hs
    rw [redo, if_pos hR, if_pos hn] at this
    exact this.mono fun e w' h => numAt_of rfl h
  have RA : Hid (∀ (u : World) (A : Option Addr) (c : Nat), Nds u A l → l.length ≤ c → Calls Try.prog 12 #[.agg #[.slice A l.length c, .int .i64 cur]] u fun e w' => e = .returned (.bool true) ∧ Below u.heap.size u w') := fun u A c h1 h2 => back_right hR rfl hm h1 h2
  have TO : Hid (∀ u, Below w.heap.size w u → Calls Try.prog 29 #[.agg #[.slice A l.length c, .int .i64 cur], .int .i64 (k : Int)] u (ErrAt l.length (went l k) (k : Int) 0 u)) := fun u hu => by
    have := tree_To (cur := cur) (k := (k : Int)) (hx.below hu) hc hm hs
    rw [goTo, if_neg (fun h => h hR), if_neg (by omega), Int.toNat_natCast] at this
    exact this.mono fun e w' h => errAt_of (went_len l k) h
  have RU : Hid (∀ (u : World) (A : Option Addr) (c : Nat), Nds u A (went l k) → l.length ≤ c → Calls Try.prog 12 #[.agg #[.slice A l.length c, .int .i64 (k : Int)]] u fun e w' => e = .returned (.bool true) ∧ Below u.heap.size u w') := fun u A c h1 h2 => by
    have := back_right (went_right hR hk) (went_len l k) hm h1 h2
    exact this
  have hRU := went_right hR hk
  have CH : Hid (∀ (u : World) (A : Option Addr) (c : Nat), Nds u A (went l k) → l.length ≤ c → Calls Try.prog 25 #[.agg #[.slice A l.length c, .int .i64 (k : Int)], .int .i64 (k : Int)] u (ErrAt l.length (Tre.choose (went l k) k) (k : Int) 0 u)) := fun u A c h1 h2 => by
    have hl := went_len l k
    have := tree_Choose (cur := (k : Int)) (k := (k : Int)) h1 (by rw [hl]; exact h2) (by rw [hl]; exact hm) (sizes_of (went_alike l k) hs)
    rw [chose, if_neg (fun h => h hRU), if_neg (by rw [hl]; omega), Int.toNat_natCast, hl] at this
    exact this.mono fun e w' h => errAt_of (by rw [choose_length, hl]) h
  have RC : Hid (∀ (u : World) (A : Option Addr) (c : Nat), Nds u A (Tre.choose (went l k) k) → l.length ≤ c → Calls Try.prog 12 #[.agg #[.slice A l.length c, .int .i64 (k : Int)]] u fun e w' => e = .returned (.bool true) ∧ Below u.heap.size u w') := fun u A c h1 h2 => back_right (right_choose hRU hk0 (by rw [went_len]; exact hk)) (by rw [choose_length, went_len]) hm h1 h2
  have UN : Hid (∀ (u : World) (A : Option Addr) (c q : Nat), Nds u A (went l k) → l.length ≤ c → q < l.length → 0 < q → Calls Try.prog 18 #[.agg #[.slice A l.length c, .int .i64 (q : Nat)]] u (NumAt l.length (went l k) (abv l q : Nat) (q : Nat) true u)) := fun u A c q h1 h2 h3 h4 => back_undo hR hk hm hs h3 h4 h1 h2
  have UZ : Hid (∀ (u : World) (A : Option Addr) (c : Nat), Nds u A (went l k) → l.length ≤ c → Calls Try.prog 18 #[.agg #[.slice A l.length c, .int .i64 0]] u (NumAt l.length (went l k) 0 0 false u)) := fun u A c h1 h2 => back_root hR hk hm hs h1 h2
  have RN : Hid (∀ (u : World) (A : Option Addr) (c q : Nat), Nds u A (went l k) → l.length ≤ c → on l q k = true → q ≠ k → Calls Try.prog 20 #[.agg #[.slice A l.length c, .int .i64 (q : Nat)]] u (NextAt l (went l k) k q u)) := fun u A c q h1 h2 h3 h4 => back_redo hR hk hm hs h3 h4 h1 h2
  have SE : Hid (∀ (u : World) (A B : Option Addr) (c d : Nat), Nds u A (went l k) → Nds u B (went l k) → Calls Try.prog 15 #[.agg #[.slice A l.length c, .int .i64 (k : Int)], .agg #[.slice B l.length d, .int .i64 (k : Int)]] u fun e w' => e = .returned (.bool true) ∧ Below u.heap.size u w') := fun u A B c d h1 h2 => back_same (went_len l k) hm h1 h2
  have OR := Lib.hid (on_base hR.ups hk)
  have HU := Lib.hid hR.ups
  have d0 : decide ((150 : Int) < (l.length : Int)) = false := decide_eq_false (by omega)
  have l1 := hR.one
  have hW : Below w.heap.size w (w.alloc (.cells #[.slice A l.length c, .int .i64 cur] 24)) := al (Below.refl _ _) _
  have Bt := Blk.new w 24 #[.slice A l.length c, .int .i64 cur]
  have k0 : decide ((0 : Int) < (k : Int)) = true := decide_eq_true (by omega)
  have k1 : decide ((k : Int) < 0) = false := decide_eq_false (by omega)
  clear hx hs hR hn hRU
  generalize went l k = U at *
  generalize Tre.choose U k = C at *
  go_enter Try.func7, Try.ntmps7
  go_wp2_with (first
    | (go_at_call 12; (with_reducible refine (RT.out _ hW).mono ?_); rintro e w1 ⟨rfl, hb1⟩; replace Bt := Bt.below hb1 Bt.lt; replace hW := hW.trans (hb1.mono hW.size); have t0 := Bt.cell 0; have t1 := Bt.cell 1)
    | (go_at_call 20; (with_reducible refine (RD.out _ hW).mono ?_); rintro e w2 ⟨A2, c2, rfl, na, hc2, hb2⟩; replace Bt := Bt.below hb2 Bt.lt; replace hW := hW.trans (hb2.mono hW.size); replace Bt := Bt.alloc (.cells #[.slice A2 l.length c2, .int .i64 cur] 24); replace na := na.below (al (Below.refl _ w2) (.cells #[.slice A2 l.length c2, .int .i64 cur] 24)); have Ba := Blk.new w2 24 #[.slice A2 l.length c2, .int .i64 cur]; replace hW := al hW (.cells #[.slice A2 l.length c2, .int .i64 cur] 24); have t0 := Bt.cell 0; have t1 := Bt.cell 1)
    | (go_at_call 29; (with_reducible refine (TO.out _ hW).mono ?_); rintro e w5 ⟨A5, c5, rfl, nu, hc5, hb5⟩; replace Bt := Bt.below hb5 Bt.lt; replace Ba := Ba.below hb5 Ba.lt; replace na := na.below hb5; replace hW := hW.trans (hb5.mono hW.size); replace Bt := Bt.alloc (.cells #[.slice A5 l.length c5, .int .i64 (k : Int)] 24); replace Ba := Ba.alloc (.cells #[.slice A5 l.length c5, .int .i64 (k : Int)] 24); replace na := na.below (al (Below.refl _ w5) (.cells #[.slice A5 l.length c5, .int .i64 (k : Int)] 24)); replace nu := nu.below (al (Below.refl _ w5) (.cells #[.slice A5 l.length c5, .int .i64 (k : Int)] 24)); have Bu := Blk.new w5 24 #[.slice A5 l.length c5, .int .i64 (k : Int)]; replace hW := al hW (.cells #[.slice A5 l.length c5, .int .i64 (k : Int)] 24); have u0 := Bu.cell 0; have u1 := Bu.cell 1)
    | (go_at_call 25; (with_reducible refine (CH.out _ _ _ nu hc5).mono ?_); rintro e w6 ⟨A6, c6, rfl, nc, hc6, hb6⟩; replace Bt := Bt.below hb6 Bt.lt; replace Ba := Ba.below hb6 Ba.lt; replace Bu := Bu.below hb6 Bu.lt; replace na := na.below hb6; replace nu := nu.below hb6; replace hW := hW.trans (hb6.mono hW.size); replace Bt := Bt.alloc (.cells #[.slice A6 l.length c6, .int .i64 (k : Int)] 24); replace Ba := Ba.alloc (.cells #[.slice A6 l.length c6, .int .i64 (k : Int)] 24); replace Bu := Bu.alloc (.cells #[.slice A6 l.length c6, .int .i64 (k : Int)] 24); replace na := na.below (al (Below.refl _ w6) (.cells #[.slice A6 l.length c6, .int .i64 (k : Int)] 24)); replace nu := nu.below (al (Below.refl _ w6) (.cells #[.slice A6 l.length c6, .int .i64 (k : Int)] 24)); replace nc := nc.below (al (Below.refl _ w6) (.cells #[.slice A6 l.length c6, .int .i64 (k : Int)] 24)); have Bc := Blk.new w6 24 #[.slice A6 l.length c6, .int .i64 (k : Int)]; replace hW := al hW (.cells #[.slice A6 l.length c6, .int .i64 (k : Int)] 24); have a0 := Ba.cell 0; have a1 := Ba.cell 1)
    | (go_at_call 12; (with_reducible refine (RA.out _ _ _ na hc2).mono ?_); rintro e w7 ⟨rfl, hb7⟩; replace Bt := Bt.below hb7 Bt.lt; replace Bu := Bu.below hb7 Bu.lt; replace Bc := Bc.below hb7 Bc.lt; replace nu := nu.below hb7; replace nc := nc.below hb7; replace hW := hW.trans (hb7.mono hW.size); have u0 := Bu.cell 0; have u1 := Bu.cell 1)
    | (go_at_call 12; (with_reducible refine (RU.out _ _ _ nu hc5).mono ?_); rintro e w8 ⟨rfl, hb8⟩; replace Bt := Bt.below hb8 Bt.lt; replace Bu := Bu.below hb8 Bu.lt; replace Bc := Bc.below hb8 Bc.lt; replace nu := nu.below hb8; replace nc := nc.below hb8; replace hW := hW.trans (hb8.mono hW.size); have u0 := Bu.cell 0; have u1 := Bu.cell 1; have t0 := Bt.cell 0; have t1 := Bt.cell 1; have c0 := Bc.cell 0; have c1 := Bc.cell 1)
    | (go_at_call 12; (with_reducible refine (RC.out _ _ _ nc hc6).mono ?_); rintro e w9 ⟨rfl, hb9⟩; replace Bt := Bt.below hb9 Bt.lt; replace Bu := Bu.below hb9 Bu.lt; replace nu := nu.below hb9; replace hW := hW.trans (hb9.mono hW.size); have u0 := Bu.cell 0; have u1 := Bu.cell 1; have t0 := Bt.cell 0; have t1 := Bt.cell 1))
  generalize w5.heap.size = bu at *
  have nV : w9.heap.size + 1 = (w9.alloc (.cells #[.slice A5 l.length c5, .int .i64 (k : Int)] 24)).heap.size := by rw [World.size_alloc]
  have P : Hid (∀ u, Below w9.heap.size (w9.alloc (.cells #[.slice A5 l.length c5, .int .i64 (k : Int)] 24)) u → Blk u w.heap.size 24 #[.slice A l.length c, .int .i64 cur] ∧ Blk u bu 24 #[.slice A5 l.length c5, .int .i64 (k : Int)] ∧ Nds u A5 U ∧ Below w.heap.size w u ∧ w9.heap.size + 1 ≤ u.heap.size) := fun u hu => by
    have hu' : Below w9.heap.size w9 u := (al (Below.refl _ w9) (.cells #[.slice A5 l.length c5, .int .i64 (k : Int)] 24)).trans hu
    exact ⟨Bt.below hu' Bt.lt, Bu.below hu' Bu.lt, nu.below hu', hW.trans (hu'.mono hW.size), by rw [nV]; exact hu.size⟩
  have Bv := Blk.new w9 24 #[.slice A5 l.length c5, .int .i64 (k : Int)]
  have nv := nu.below (al (Below.refl _ w9) (.cells #[.slice A5 l.length c5, .int .i64 (k : Int)] 24))
  have V0 := Below.refl w9.heap.size (w9.alloc (.cells #[.slice A5 l.length c5, .int .i64 (k : Int)] 24))
  have NBl : Hid (w.heap.size ≤ w9.heap.size) := hW.size
  have NBt : Hid (w.heap.size ≠ w9.heap.size) := Nat.ne_of_lt Bt.lt
  have NBu : Hid (bu ≠ w9.heap.size) := Nat.ne_of_lt Bu.lt
  generalize w9.alloc (.cells #[.slice A5 l.length c5, .int .i64 (k : Int)] 24) = wz at *
  generalize w9.heap.size = bv at *
  clear Bt Bu nu hW nV
  clear t0 t1 a0 a1 u0 u1 c0 c1 na hc2 hb1 hb2 hb5 hb6 hb7 hb9 Ba RT RD RA TO RU CH hb8 nc hc6 Bc RC
  have V0H := Lib.hid V0
  have BvH := Lib.hid Bv
  have nvH := Lib.hid nv
  clear V0 Bv nv
  go_loopw [16] (fun nV wr => ∃ (j q : Nat) (A' : Option Addr) (c' : Nat), nV = .int .i64 j ∧ j ≤ l.length ∧ j + q ≤ k ∧ Hid (Blk wr bv 24 #[.slice A' l.length c', .int .i64 q]) ∧ Hid (Nds wr A' U) ∧ l.length ≤ c' ∧ Below bv wz wr) (fun nV _ => l.length - (intOf nV).toNat)
  case atStart => exact ⟨0, k, A5, c5, rfl, Nat.zero_le _, by omega, BvH, nvH, hc5, V0H.out⟩
  case round =>
    clear V0H BvH nvH
    obtain ⟨j, q, A', c', rfl, hj, hjq, HB, HN, hc', hV⟩ := hrel
    obtain ⟨Bt, Bu, nu, hW, hz⟩ := P.out _ hV
    have t0 := Bt.cell 0
    have v0 := HB.out.cell 0
    have v1 := HB.out.cell 1
    have g1 : decide ((j : Int) < (l.length : Int)) = true := decide_eq_true (by omega)
    by_cases hq : q = 0
    · subst hq
      have v1' : wr.cell? ⟨bv, 1, none⟩ = some (.int .i64 0) := v1
      clear v1
      go_wp2_with (go_at_call 18; (with_reducible refine (UZ.out _ _ _ HN.out hc').mono ?_); rintro e w11 ⟨A7, c7, rfl, _, _, hb11⟩; have hb12 := al hb11 (.cells #[.slice A7 l.length c7, .int .i64 0] 24); have Bv := HB.out.below hb12 HB.out.lt; have nv := Lib.hid (HN.out.below hb12); have y0 := Bv.cell 0; have y1' : (w11.alloc (.cells #[.slice A7 l.length c7, .int .i64 0] 24)).cell? ⟨bv, 1, none⟩ = some (.int .i64 0) := Bv.cell 1; have hV2 := hV.trans (hb12.mono (Nat.le_of_lt HB.out.lt)))
      have BvH := Lib.hid Bv
      have V0H := Lib.hid hV2
      clear HB HN hV Bv y0 y1' v0 v1' t0 Bt Bu nu hW hz hb12 hb11 g1 hjq hj
      generalize w11.alloc (.cells #[.slice A7 l.length c7, .int .i64 0] 24) = wy at *
      go_loopw [20] (fun nV wr => ∃ (j q : Nat) (A' : Option Addr) (c' : Nat), nV = .int .i64 j ∧ j ≤ q ∧ q < l.length ∧ Hid (on l q k = true) ∧ Hid (Blk wr bv 24 #[.slice A' l.length c', .int .i64 q]) ∧ Hid (Nds wr A' U) ∧ l.length ≤ c' ∧ Below bv wz wr) (fun nV _ => l.length - (intOf nV).toNat)
      case atStart => exact ⟨0, 0, A', c', rfl, Nat.le_refl _, by omega, OR, BvH, nv, hc', V0H.out⟩
      case round =>
        clear BvH nv V0H
        obtain ⟨j, q, A8, c8, rfl, hjq, hql, HO, HB, HN, hc8, hV⟩ := hrel
        obtain ⟨Bt, Bu, nu, hW, hz⟩ := P.out _ hV
        have t0 := Bt.cell 0
        have u0 := Bu.cell 0
        have u1 := Bu.cell 1
        have v0 := HB.out.cell 0
        have v1 := HB.out.cell 1
        have g1 : decide ((j : Int) < (l.length : Int)) = true := decide_eq_true (by omega)
        by_cases hqk : q = k
        · subst hqk
          go_wp2_with (first
            | (go_at_call 15; (with_reducible refine (SE.out _ _ _ _ _ HN.out nu).mono ?_); rintro e w13 ⟨rfl, hb13⟩; replace hW := hW.trans (hb13.mono hW.size))
            | (go_at_call 9; (with_reducible refine (LV.out _).mono ?_); rintro e w14 ⟨rfl, hb14⟩))
          go_ret
          exact ⟨rfl, hW.trans (hb14.mono hW.size)⟩
        · have qk : ((q : Int) != (k : Int)) = true := by rw [bne_iff_ne]; omega
          go_wp2_with (go_at_call 20; (with_reducible refine (RN.out _ _ _ _ HN.out hc8 HO.out hqk).mono ?_); rintro e w13 ⟨p', hp1', hp2', hp3', A9, c9, rfl, nw, hc9, hb13⟩; have hb14 := al hb13 (.cells #[.slice A9 l.length c9, .int .i64 (p' : Nat)] 24); have Bv := HB.out.below hb14 HB.out.lt; have nw2 := nw.below (al (Below.refl _ w13) (.cells #[.slice A9 l.length c9, .int .i64 (p' : Nat)] 24)); have y0 := Bv.cell 0; have y1 := Bv.cell 1; have f0 := Bv.frozen 0; have f1 := Bv.frozen 1)
          have Bv2 := Lib.hid (two_row (v0 := .slice A9 l.length c9) (v1 := .int .i64 (p' : Nat)) Bv)
          have nv2 := Lib.hid (nds_kept (v0 := .slice A9 l.length c9) (v1 := .int .i64 (p' : Nat)) nw2 Bv)
          have hV2 := below_two (v0 := .slice A9 l.length c9) (v1 := .int .i64 (p' : Nat)) (hV.trans (hb14.mono (Nat.le_of_lt HB.out.lt))) (Nat.le_refl _)
          go_roundw
          case rel => exact ⟨j + 1, p', A9, c9, by go_num, by omega, hp3', hp1', Bv2, nv2, hc9, hV2⟩
          case measure => simp [intOf] <;> omega

    · have ha : abv l q < q := HU.out.abv_lt (by omega) (by omega)
      have q0 : ((q : Int) != 0) = true := by rw [bne_iff_ne]; omega
      go_wp2_with (go_at_call 18; (with_reducible refine (UN.out _ _ _ _ HN.out hc' (by omega) (by omega)).mono ?_); rintro e w11 ⟨A7, c7, rfl, nw, hc7, hb11⟩; have hb12 := al hb11 (.cells #[.slice A7 l.length c7, .int .i64 (abv l q : Nat)] 24); have Bv := HB.out.below hb12 HB.out.lt; have nw2 := nw.below (al (Below.refl _ w11) (.cells #[.slice A7 l.length c7, .int .i64 (abv l q : Nat)] 24)); have y0 := Bv.cell 0; have y1 := Bv.cell 1; have f0 := Bv.frozen 0; have f1 := Bv.frozen 1)
      have Bv2 := Lib.hid (two_row (v0 := .slice A7 l.length c7) (v1 := .int .i64 (abv l q : Nat)) Bv)
      have nv2 := Lib.hid (nds_kept (v0 := .slice A7 l.length c7) (v1 := .int .i64 (abv l q : Nat)) nw2 Bv)
      have hV2 := below_two (v0 := .slice A7 l.length c7) (v1 := .int .i64 (abv l q : Nat)) (hV.trans (hb12.mono (Nat.le_of_lt HB.out.lt))) (Nat.le_refl _)
      go_roundw
      case rel => exact ⟨j + 1, abv l q, A7, c7, by go_num, by omega, by omega, Bv2, nv2, hc7, hV2⟩
      case measure => simp [intOf] <;> omega
set_option maxHeartbeats 8000000 in
set_option maxRecDepth 100000 in
theorem treeBack_redo_root {A : Option Addr} {c : Nat} {l : List Nd} {cur : Int} {w : World} (hx : Nds w A l) (hc : l.length ≤ c) (hl : l.length ≤ 150) (hs : ∀ x ∈ l, x.old.size ≤ 140737488355327 ∧ x.new.size ≤ 140737488355327) (hR : Right l cur) (hn : nxt l cur.toNat ≠ -1) :
    Calls Try.prog 7 #[.agg #[.slice A l.length c, .int .i64 cur], .int .i64 0] w fun e w' => e = .returned (.bool true) ∧ Below w.heap.size w w' := by
  have LV := Lib.hid tree_lives
  have hm : l.length ≤ 2000 := by omega
  obtain ⟨k, hke⟩ : ∃ k : Nat, k = 0 := ⟨0, rfl⟩
  have hk : k < l.length := by have := hR.one; omega
  have RT : Hid (∀ u, Below w.heap.size w u → Calls Try.prog 12 #[.agg #[.slice A l.length c, .int .i64 cur]] u fun e w' => e = .returned (.bool true) ∧ Below u.heap.size u w') := fun u hu => back_right hR rfl hm (hx.below hu) hc
  obtain ⟨p, hp1, hp2, hp3, hp4⟩ := redo_next hR hn
  have hRp := hR.goto hp2
  have RD : Hid (∀ u, Below w.heap.size w u → Calls Try.prog 20 #[.agg #[.slice A l.length c, .int .i64 cur]] u (NumAt l.length l (p : Nat) (p : Nat) true u)) := fun u hu => by
    have := tree_Redo (cur := cur) (hx.below hu) hc hm hs
    rw [redo, if_pos hR, hp1, if_neg (by omega)] at this
    exact this.mono fun e w' h => numAt_of rfl h
  have UD : Hid (∀ (u : World) (A : Option Addr) (c : Nat), Nds u A l → l.length ≤ c → Calls Try.prog 18 #[.agg #[.slice A l.length c, .int .i64 (p : Nat)]] u (NumAt l.length l cur (p : Nat) true u)) := fun u A c h1 h2 => by
    have := tree_Undo (cur := (p : Nat)) h1 h2 hm hs
    rw [undo, if_pos hRp, if_neg (by omega), Int.toNat_natCast, hp4, Int.toNat_of_nonneg hR.low] at this
    exact this.mono fun e w' h => numAt_of rfl h
  have SM : Hid (∀ (u : World) (B : Option Addr) (d : Nat), Nds u B l → Below w.heap.size w u → Calls Try.prog 15 #[.agg #[.slice B l.length d, .int .i64 cur], .agg #[.slice A l.length c, .int .i64 cur]] u fun e w' => e = .returned (.bool true) ∧ Below u.heap.size u w') := fun u B d h1 h2 => back_same rfl hm h1 (hx.below h2)
  have RA : Hid (∀ (u : World) (A : Option Addr) (c : Nat), Nds u A l → l.length ≤ c → Calls Try.prog 12 #[.agg #[.slice A l.length c, .int .i64 (p : Nat)]] u fun e w' => e = .returned (.bool true) ∧ Below u.heap.size u w') := fun u A c h1 h2 => back_right hRp rfl hm h1 h2
  have TO : Hid (∀ u, Below w.heap.size w u → Calls Try.prog 29 #[.agg #[.slice A l.length c, .int .i64 cur], .int .i64 0] u (ErrAt l.length (went l k) 0 0 u)) := fun u hu => by
    have := tree_To (cur := cur) (k := (k : Int)) (hx.below hu) hc hm hs
    rw [goTo, if_neg (fun h => h hR), if_neg (by omega), Int.toNat_natCast] at this
    rw [show (k : Int) = 0 by omega] at this
    exact this.mono fun e w' h => errAt_of (went_len l k) h
  have RU : Hid (∀ (u : World) (A : Option Addr) (c : Nat), Nds u A (went l k) → l.length ≤ c → Calls Try.prog 12 #[.agg #[.slice A l.length c, .int .i64 0]] u fun e w' => e = .returned (.bool true) ∧ Below u.heap.size u w') := fun u A c h1 h2 => by
    have := back_right (went_right hR hk) (went_len l k) hm h1 h2
    rw [show (k : Int) = 0 by omega] at this
    exact this
  have CH : Hid (∀ (u : World) (A : Option Addr) (c : Nat), Nds u A (went l k) → l.length ≤ c → Calls Try.prog 25 #[.agg #[.slice A l.length c, .int .i64 0], .int .i64 0] u (ErrAt 0 [] 0 7 u)) := fun u A c h1 h2 => by
    have hl := went_len l k
    have hRU := went_right hR hk
    rw [show (k : Int) = 0 by omega] at hRU
    have := tree_Choose (cur := 0) (k := 0) h1 (by rw [hl]; exact h2) (by rw [hl]; exact hm) (sizes_of (went_alike l k) hs)
    rw [chose, if_neg (fun h => h hRU), if_pos (.inr rfl), hl] at this
    exact this.mono fun e w' h => errAt_of rfl h
  have UN : Hid (∀ (u : World) (A : Option Addr) (c q : Nat), Nds u A (went l k) → l.length ≤ c → q < l.length → 0 < q → Calls Try.prog 18 #[.agg #[.slice A l.length c, .int .i64 (q : Nat)]] u (NumAt l.length (went l k) (abv l q : Nat) (q : Nat) true u)) := fun u A c q h1 h2 h3 h4 => back_undo hR hk hm hs h3 h4 h1 h2
  have UZ : Hid (∀ (u : World) (A : Option Addr) (c : Nat), Nds u A (went l k) → l.length ≤ c → Calls Try.prog 18 #[.agg #[.slice A l.length c, .int .i64 0]] u (NumAt l.length (went l k) 0 0 false u)) := fun u A c h1 h2 => back_root hR hk hm hs h1 h2
  have RN : Hid (∀ (u : World) (A : Option Addr) (c q : Nat), Nds u A (went l k) → l.length ≤ c → on l q k = true → q ≠ k → Calls Try.prog 20 #[.agg #[.slice A l.length c, .int .i64 (q : Nat)]] u (NextAt l (went l k) k q u)) := fun u A c q h1 h2 h3 h4 => back_redo hR hk hm hs h3 h4 h1 h2
  have SE : Hid (∀ (u : World) (A B : Option Addr) (c d : Nat), Nds u A (went l k) → Nds u B (went l k) → Calls Try.prog 15 #[.agg #[.slice A l.length c, .int .i64 0], .agg #[.slice B l.length d, .int .i64 0]] u fun e w' => e = .returned (.bool true) ∧ Below u.heap.size u w') := fun u A B c d h1 h2 => back_same (went_len l k) hm h1 h2
  have OR := Lib.hid (on_base hR.ups hk)
  have HU := Lib.hid hR.ups
  have d0 : decide ((150 : Int) < (l.length : Int)) = false := decide_eq_false (by omega)
  have l1 := hR.one
  have hW : Below w.heap.size w (w.alloc (.cells #[.slice A l.length c, .int .i64 cur] 24)) := al (Below.refl _ _) _
  have Bt := Blk.new w 24 #[.slice A l.length c, .int .i64 cur]
  clear hx hs hR hn hp1 hp3 hp4 hRp
  generalize went l k = U at *
  go_enter Try.func7, Try.ntmps7
  go_wp2_with (first
    | (go_at_call 12; (with_reducible refine (RT.out _ hW).mono ?_); rintro e w1 ⟨rfl, hb1⟩; replace Bt := Bt.below hb1 Bt.lt; replace hW := hW.trans (hb1.mono hW.size); have t0 := Bt.cell 0; have t1 := Bt.cell 1)
    | (go_at_call 20; (with_reducible refine (RD.out _ hW).mono ?_); rintro e w2 ⟨A2, c2, rfl, na, hc2, hb2⟩; replace Bt := Bt.below hb2 Bt.lt; replace hW := hW.trans (hb2.mono hW.size); replace Bt := Bt.alloc (.cells #[.slice A2 l.length c2, .int .i64 (p : Nat)] 24); replace na := na.below (al (Below.refl _ w2) (.cells #[.slice A2 l.length c2, .int .i64 (p : Nat)] 24)); have Ba := Blk.new w2 24 #[.slice A2 l.length c2, .int .i64 (p : Nat)]; replace hW := al hW (.cells #[.slice A2 l.length c2, .int .i64 (p : Nat)] 24); have a0 := Ba.cell 0; have a1 := Ba.cell 1)
    | (go_at_call 18; (with_reducible refine (UD.out _ _ _ na hc2).mono ?_); rintro e w3 ⟨A3, c3, rfl, nb, hc3, hb3⟩; replace Bt := Bt.below hb3 Bt.lt; replace Ba := Ba.below hb3 Ba.lt; replace na := na.below hb3; replace hW := hW.trans (hb3.mono hW.size); replace Bt := Bt.alloc (.cells #[.slice A3 l.length c3, .int .i64 cur] 24); replace Ba := Ba.alloc (.cells #[.slice A3 l.length c3, .int .i64 cur] 24); replace na := na.below (al (Below.refl _ w3) (.cells #[.slice A3 l.length c3, .int .i64 cur] 24)); replace nb := nb.below (al (Below.refl _ w3) (.cells #[.slice A3 l.length c3, .int .i64 cur] 24)); have Bb := Blk.new w3 24 #[.slice A3 l.length c3, .int .i64 cur]; replace hW := al hW (.cells #[.slice A3 l.length c3, .int .i64 cur] 24); have t0 := Bt.cell 0; have t1 := Bt.cell 1)
    | (go_at_call 15; (with_reducible refine (SM.out _ _ _ nb hW).mono ?_); rintro e w4 ⟨rfl, hb4⟩; replace Bt := Bt.below hb4 Bt.lt; replace Ba := Ba.below hb4 Ba.lt; replace na := na.below hb4; replace hW := hW.trans (hb4.mono hW.size); have t0 := Bt.cell 0; have t1 := Bt.cell 1)
    | (go_at_call 29; (with_reducible refine (TO.out _ hW).mono ?_); rintro e w5 ⟨A5, c5, rfl, nu, hc5, hb5⟩; replace Bt := Bt.below hb5 Bt.lt; replace Ba := Ba.below hb5 Ba.lt; replace na := na.below hb5; replace hW := hW.trans (hb5.mono hW.size); replace Bt := Bt.alloc (.cells #[.slice A5 l.length c5, .int .i64 0] 24); replace Ba := Ba.alloc (.cells #[.slice A5 l.length c5, .int .i64 0] 24); replace na := na.below (al (Below.refl _ w5) (.cells #[.slice A5 l.length c5, .int .i64 0] 24)); replace nu := nu.below (al (Below.refl _ w5) (.cells #[.slice A5 l.length c5, .int .i64 0] 24)); have Bu := Blk.new w5 24 #[.slice A5 l.length c5, .int .i64 0]; replace hW := al hW (.cells #[.slice A5 l.length c5, .int .i64 0] 24); have u0 := Bu.cell 0; have u1 := Bu.cell 1)
    | (go_at_call 25; (with_reducible refine (CH.out _ _ _ nu hc5).mono ?_); rintro e w6 ⟨A6, c6, rfl, _, _, hb6⟩; replace Bt := Bt.below hb6 Bt.lt; replace Ba := Ba.below hb6 Ba.lt; replace Bu := Bu.below hb6 Bu.lt; replace na := na.below hb6; replace nu := nu.below hb6; replace hW := hW.trans (hb6.mono hW.size); replace Bt := Bt.alloc (.cells #[.slice A6 0 c6, .int .i64 0] 24); replace Ba := Ba.alloc (.cells #[.slice A6 0 c6, .int .i64 0] 24); replace Bu := Bu.alloc (.cells #[.slice A6 0 c6, .int .i64 0] 24); replace na := na.below (al (Below.refl _ w6) (.cells #[.slice A6 0 c6, .int .i64 0] 24)); replace nu := nu.below (al (Below.refl _ w6) (.cells #[.slice A6 0 c6, .int .i64 0] 24)); replace hW := al hW (.cells #[.slice A6 0 c6, .int .i64 0] 24); have a0 := Ba.cell 0; have a1 := Ba.cell 1)
    | (go_at_call 12; (with_reducible refine (RA.out _ _ _ na hc2).mono ?_); rintro e w7 ⟨rfl, hb7⟩; replace Bt := Bt.below hb7 Bt.lt; replace Bu := Bu.below hb7 Bu.lt; replace nu := nu.below hb7; replace hW := hW.trans (hb7.mono hW.size); have u0 := Bu.cell 0; have u1 := Bu.cell 1)
    | (go_at_call 12; (with_reducible refine (RU.out _ _ _ nu hc5).mono ?_); rintro e w9 ⟨rfl, hb9⟩; replace Bt := Bt.below hb9 Bt.lt; replace Bu := Bu.below hb9 Bu.lt; replace nu := nu.below hb9; replace hW := hW.trans (hb9.mono hW.size); have u0 := Bu.cell 0; have u1 := Bu.cell 1; have t0 := Bt.cell 0; have t1 := Bt.cell 1))
  generalize w5.heap.size = bu at *
  have nV : w9.heap.size + 1 = (w9.alloc (.cells #[.slice A5 l.length c5, .int .i64 0] 24)).heap.size := by rw [World.size_alloc]
  have P : Hid (∀ u, Below w9.heap.size (w9.alloc (.cells #[.slice A5 l.length c5, .int .i64 0] 24)) u → Blk u w.heap.size 24 #[.slice A l.length c, .int .i64 cur] ∧ Blk u bu 24 #[.slice A5 l.length c5, .int .i64 0] ∧ Nds u A5 U ∧ Below w.heap.size w u ∧ w9.heap.size + 1 ≤ u.heap.size) := fun u hu => by
    have hu' : Below w9.heap.size w9 u := (al (Below.refl _ w9) (.cells #[.slice A5 l.length c5, .int .i64 0] 24)).trans hu
    exact ⟨Bt.below hu' Bt.lt, Bu.below hu' Bu.lt, nu.below hu', hW.trans (hu'.mono hW.size), by rw [nV]; exact hu.size⟩
  have Bv := Blk.new w9 24 #[.slice A5 l.length c5, .int .i64 0]
  have nv := nu.below (al (Below.refl _ w9) (.cells #[.slice A5 l.length c5, .int .i64 0] 24))
  have V0 := Below.refl w9.heap.size (w9.alloc (.cells #[.slice A5 l.length c5, .int .i64 0] 24))
  have NBl : Hid (w.heap.size ≤ w9.heap.size) := hW.size
  have NBt : Hid (w.heap.size ≠ w9.heap.size) := Nat.ne_of_lt Bt.lt
  have NBu : Hid (bu ≠ w9.heap.size) := Nat.ne_of_lt Bu.lt
  generalize w9.alloc (.cells #[.slice A5 l.length c5, .int .i64 0] 24) = wz at *
  generalize w9.heap.size = bv at *
  clear Bt Bu nu hW nV
  clear t0 t1 a0 a1 u0 u1 na hc2 hb1 hb2 hb5 hb6 hb7 hb9 Ba RT RD RA TO RU CH hb3 hb4 nb hc3 Bb UD SM
  have V0H := Lib.hid V0
  have BvH := Lib.hid Bv
  have nvH := Lib.hid nv
  clear V0 Bv nv
  go_loopw [16] (fun nV wr => ∃ (j q : Nat) (A' : Option Addr) (c' : Nat), nV = .int .i64 j ∧ j ≤ l.length ∧ j + q ≤ k ∧ Hid (Blk wr bv 24 #[.slice A' l.length c', .int .i64 q]) ∧ Hid (Nds wr A' U) ∧ l.length ≤ c' ∧ Below bv wz wr) (fun nV _ => l.length - (intOf nV).toNat)
  case atStart => exact ⟨0, k, A5, c5, rfl, Nat.zero_le _, by omega, by show Blk _ _ _ _; rw [hke]; exact BvH.out, nvH, hc5, V0H.out⟩
  case round =>
    clear V0H BvH nvH
    obtain ⟨j, q, A', c', rfl, hj, hjq, HB, HN, hc', hV⟩ := hrel
    obtain ⟨Bt, Bu, nu, hW, hz⟩ := P.out _ hV
    have t0 := Bt.cell 0
    have v0 := HB.out.cell 0
    have v1 := HB.out.cell 1
    have g1 : decide ((j : Int) < (l.length : Int)) = true := decide_eq_true (by omega)
    by_cases hq : q = 0
    · subst hq
      have v1' : wr.cell? ⟨bv, 1, none⟩ = some (.int .i64 0) := v1
      clear v1
      go_wp2_with (go_at_call 18; (with_reducible refine (UZ.out _ _ _ HN.out hc').mono ?_); rintro e w11 ⟨A7, c7, rfl, _, _, hb11⟩; have hb12 := al hb11 (.cells #[.slice A7 l.length c7, .int .i64 0] 24); have Bv := HB.out.below hb12 HB.out.lt; have nv := Lib.hid (HN.out.below hb12); have y0 := Bv.cell 0; have y1' : (w11.alloc (.cells #[.slice A7 l.length c7, .int .i64 0] 24)).cell? ⟨bv, 1, none⟩ = some (.int .i64 0) := Bv.cell 1; have hV2 := hV.trans (hb12.mono (Nat.le_of_lt HB.out.lt)))
      have BvH := Lib.hid Bv
      have V0H := Lib.hid hV2
      clear HB HN hV Bv y0 y1' v0 v1' t0 Bt Bu nu hW hz hb12 hb11 g1 hjq hj
      generalize w11.alloc (.cells #[.slice A7 l.length c7, .int .i64 0] 24) = wy at *
      go_loopw [20] (fun nV wr => ∃ (j q : Nat) (A' : Option Addr) (c' : Nat), nV = .int .i64 j ∧ j ≤ q ∧ q < l.length ∧ Hid (on l q k = true) ∧ Hid (Blk wr bv 24 #[.slice A' l.length c', .int .i64 q]) ∧ Hid (Nds wr A' U) ∧ l.length ≤ c' ∧ Below bv wz wr) (fun nV _ => l.length - (intOf nV).toNat)
      case atStart => exact ⟨0, 0, A', c', rfl, Nat.le_refl _, by omega, OR, BvH, nv, hc', V0H.out⟩
      case round =>
        clear BvH nv V0H
        obtain ⟨j, q, A8, c8, rfl, hjq, hql, HO, HB, HN, hc8, hV⟩ := hrel
        obtain ⟨Bt, Bu, nu, hW, hz⟩ := P.out _ hV
        have t0 := Bt.cell 0
        have u0 := Bu.cell 0
        have u1 := Bu.cell 1
        have v0 := HB.out.cell 0
        have v1 := HB.out.cell 1
        have g1 : decide ((j : Int) < (l.length : Int)) = true := decide_eq_true (by omega)
        by_cases hqk : q = k
        · obtain rfl : q = 0 := by omega
          clear hqk hke
          have v1' : wr.cell? ⟨bv, 1, none⟩ = some (.int .i64 0) := v1
          clear v1
          go_wp2_with (first
            | (go_at_call 15; (with_reducible refine (SE.out _ _ _ _ _ HN.out nu).mono ?_); rintro e w13 ⟨rfl, hb13⟩; replace hW := hW.trans (hb13.mono hW.size))
            | (go_at_call 9; (with_reducible refine (LV.out _).mono ?_); rintro e w14 ⟨rfl, hb14⟩))
          go_ret
          exact ⟨rfl, hW.trans (hb14.mono hW.size)⟩
        · exact absurd (on_le HO.out) (by omega)

    · exact absurd hjq (by omega)
set_option maxHeartbeats 8000000 in
set_option maxRecDepth 100000 in
theorem treeBack_stay_root {A : Option Addr} {c : Nat} {l : List Nd} {cur : Int} {w : World} (hx : Nds w A l) (hc : l.length ≤ c) (hl : l.length ≤ 150) (hs : ∀ x ∈ l, x.old.size ≤ 140737488355327 ∧ x.new.size ≤ 140737488355327) (hR : Right l cur) (hn : nxt l cur.toNat = -1) :
    Calls Try.prog 7 #[.agg #[.slice A l.length c, .int .i64 cur], .int .i64 0] w fun e w' => e = .returned (.bool true) ∧ Below w.heap.size w w' := by
  have LV := Lib.hid tree_lives
  have hm : l.length ≤ 2000 := by omega
  obtain ⟨k, hke⟩ : ∃ k : Nat, k = 0 := ⟨0, rfl⟩
  have hk : k < l.length := by have := hR.one; omega
  have RT : Hid (∀ u, Below w.heap.size w u → Calls Try.prog 12 #[.agg #[.slice A l.length c, .int .i64 cur]] u fun e w' => e = .returned (.bool true) ∧ Below u.heap.size u w') := fun u hu => back_right hR rfl hm (hx.below hu) hc
  have RD : Hid (∀ u, Below w.heap.size w u → Calls Try.prog 20 #[.agg #[.slice A l.length c, .int .i64 cur]] u (NumAt l.length l cur 0 false u)) := fun u hu => by
    have := tree_Redo (cur := cur) (hx.below hu) hc hm hs
    rw [redo, if_pos hR, if_pos hn] at this
    exact this.mono fun e w' h => numAt_of rfl h
  have RA : Hid (∀ (u : World) (A : Option Addr) (c : Nat), Nds u A l → l.length ≤ c → Calls Try.prog 12 #[.agg #[.slice A l.length c, .int .i64 cur]] u fun e w' => e = .returned (.bool true) ∧ Below u.heap.size u w') := fun u A c h1 h2 => back_right hR rfl hm h1 h2
  have TO : Hid (∀ u, Below w.heap.size w u → Calls Try.prog 29 #[.agg #[.slice A l.length c, .int .i64 cur], .int .i64 0] u (ErrAt l.length (went l k) 0 0 u)) := fun u hu => by
    have := tree_To (cur := cur) (k := (k : Int)) (hx.below hu) hc hm hs
    rw [goTo, if_neg (fun h => h hR), if_neg (by omega), Int.toNat_natCast] at this
    rw [show (k : Int) = 0 by omega] at this
    exact this.mono fun e w' h => errAt_of (went_len l k) h
  have RU : Hid (∀ (u : World) (A : Option Addr) (c : Nat), Nds u A (went l k) → l.length ≤ c → Calls Try.prog 12 #[.agg #[.slice A l.length c, .int .i64 0]] u fun e w' => e = .returned (.bool true) ∧ Below u.heap.size u w') := fun u A c h1 h2 => by
    have := back_right (went_right hR hk) (went_len l k) hm h1 h2
    rw [show (k : Int) = 0 by omega] at this
    exact this
  have CH : Hid (∀ (u : World) (A : Option Addr) (c : Nat), Nds u A (went l k) → l.length ≤ c → Calls Try.prog 25 #[.agg #[.slice A l.length c, .int .i64 0], .int .i64 0] u (ErrAt 0 [] 0 7 u)) := fun u A c h1 h2 => by
    have hl := went_len l k
    have hRU := went_right hR hk
    rw [show (k : Int) = 0 by omega] at hRU
    have := tree_Choose (cur := 0) (k := 0) h1 (by rw [hl]; exact h2) (by rw [hl]; exact hm) (sizes_of (went_alike l k) hs)
    rw [chose, if_neg (fun h => h hRU), if_pos (.inr rfl), hl] at this
    exact this.mono fun e w' h => errAt_of rfl h
  have UN : Hid (∀ (u : World) (A : Option Addr) (c q : Nat), Nds u A (went l k) → l.length ≤ c → q < l.length → 0 < q → Calls Try.prog 18 #[.agg #[.slice A l.length c, .int .i64 (q : Nat)]] u (NumAt l.length (went l k) (abv l q : Nat) (q : Nat) true u)) := fun u A c q h1 h2 h3 h4 => back_undo hR hk hm hs h3 h4 h1 h2
  have UZ : Hid (∀ (u : World) (A : Option Addr) (c : Nat), Nds u A (went l k) → l.length ≤ c → Calls Try.prog 18 #[.agg #[.slice A l.length c, .int .i64 0]] u (NumAt l.length (went l k) 0 0 false u)) := fun u A c h1 h2 => back_root hR hk hm hs h1 h2
  have RN : Hid (∀ (u : World) (A : Option Addr) (c q : Nat), Nds u A (went l k) → l.length ≤ c → on l q k = true → q ≠ k → Calls Try.prog 20 #[.agg #[.slice A l.length c, .int .i64 (q : Nat)]] u (NextAt l (went l k) k q u)) := fun u A c q h1 h2 h3 h4 => back_redo hR hk hm hs h3 h4 h1 h2
  have SE : Hid (∀ (u : World) (A B : Option Addr) (c d : Nat), Nds u A (went l k) → Nds u B (went l k) → Calls Try.prog 15 #[.agg #[.slice A l.length c, .int .i64 0], .agg #[.slice B l.length d, .int .i64 0]] u fun e w' => e = .returned (.bool true) ∧ Below u.heap.size u w') := fun u A B c d h1 h2 => back_same (went_len l k) hm h1 h2
  have OR := Lib.hid (on_base hR.ups hk)
  have HU := Lib.hid hR.ups
  have d0 : decide ((150 : Int) < (l.length : Int)) = false := decide_eq_false (by omega)
  have l1 := hR.one
  have hW : Below w.heap.size w (w.alloc (.cells #[.slice A l.length c, .int .i64 cur] 24)) := al (Below.refl _ _) _
  have Bt := Blk.new w 24 #[.slice A l.length c, .int .i64 cur]
  clear hx hs hR hn
  generalize went l k = U at *
  go_enter Try.func7, Try.ntmps7
  go_wp2_with (first
    | (go_at_call 12; (with_reducible refine (RT.out _ hW).mono ?_); rintro e w1 ⟨rfl, hb1⟩; replace Bt := Bt.below hb1 Bt.lt; replace hW := hW.trans (hb1.mono hW.size); have t0 := Bt.cell 0; have t1 := Bt.cell 1)
    | (go_at_call 20; (with_reducible refine (RD.out _ hW).mono ?_); rintro e w2 ⟨A2, c2, rfl, na, hc2, hb2⟩; replace Bt := Bt.below hb2 Bt.lt; replace hW := hW.trans (hb2.mono hW.size); replace Bt := Bt.alloc (.cells #[.slice A2 l.length c2, .int .i64 cur] 24); replace na := na.below (al (Below.refl _ w2) (.cells #[.slice A2 l.length c2, .int .i64 cur] 24)); have Ba := Blk.new w2 24 #[.slice A2 l.length c2, .int .i64 cur]; replace hW := al hW (.cells #[.slice A2 l.length c2, .int .i64 cur] 24); have t0 := Bt.cell 0; have t1 := Bt.cell 1)
    | (go_at_call 29; (with_reducible refine (TO.out _ hW).mono ?_); rintro e w5 ⟨A5, c5, rfl, nu, hc5, hb5⟩; replace Bt := Bt.below hb5 Bt.lt; replace Ba := Ba.below hb5 Ba.lt; replace na := na.below hb5; replace hW := hW.trans (hb5.mono hW.size); replace Bt := Bt.alloc (.cells #[.slice A5 l.length c5, .int .i64 0] 24); replace Ba := Ba.alloc (.cells #[.slice A5 l.length c5, .int .i64 0] 24); replace na := na.below (al (Below.refl _ w5) (.cells #[.slice A5 l.length c5, .int .i64 0] 24)); replace nu := nu.below (al (Below.refl _ w5) (.cells #[.slice A5 l.length c5, .int .i64 0] 24)); have Bu := Blk.new w5 24 #[.slice A5 l.length c5, .int .i64 0]; replace hW := al hW (.cells #[.slice A5 l.length c5, .int .i64 0] 24); have u0 := Bu.cell 0; have u1 := Bu.cell 1)
    | (go_at_call 25; (with_reducible refine (CH.out _ _ _ nu hc5).mono ?_); rintro e w6 ⟨A6, c6, rfl, _, _, hb6⟩; replace Bt := Bt.below hb6 Bt.lt; replace Ba := Ba.below hb6 Ba.lt; replace Bu := Bu.below hb6 Bu.lt; replace na := na.below hb6; replace nu := nu.below hb6; replace hW := hW.trans (hb6.mono hW.size); replace Bt := Bt.alloc (.cells #[.slice A6 0 c6, .int .i64 0] 24); replace Ba := Ba.alloc (.cells #[.slice A6 0 c6, .int .i64 0] 24); replace Bu := Bu.alloc (.cells #[.slice A6 0 c6, .int .i64 0] 24); replace na := na.below (al (Below.refl _ w6) (.cells #[.slice A6 0 c6, .int .i64 0] 24)); replace nu := nu.below (al (Below.refl _ w6) (.cells #[.slice A6 0 c6, .int .i64 0] 24)); replace hW := al hW (.cells #[.slice A6 0 c6, .int .i64 0] 24); have a0 := Ba.cell 0; have a1 := Ba.cell 1)
    | (go_at_call 12; (with_reducible refine (RA.out _ _ _ na hc2).mono ?_); rintro e w7 ⟨rfl, hb7⟩; replace Bt := Bt.below hb7 Bt.lt; replace Bu := Bu.below hb7 Bu.lt; replace nu := nu.below hb7; replace hW := hW.trans (hb7.mono hW.size); have u0 := Bu.cell 0; have u1 := Bu.cell 1)
    | (go_at_call 12; (with_reducible refine (RU.out _ _ _ nu hc5).mono ?_); rintro e w9 ⟨rfl, hb9⟩; replace Bt := Bt.below hb9 Bt.lt; replace Bu := Bu.below hb9 Bu.lt; replace nu := nu.below hb9; replace hW := hW.trans (hb9.mono hW.size); have u0 := Bu.cell 0; have u1 := Bu.cell 1; have t0 := Bt.cell 0; have t1 := Bt.cell 1))
  generalize w5.heap.size = bu at *
  have nV : w9.heap.size + 1 = (w9.alloc (.cells #[.slice A5 l.length c5, .int .i64 0] 24)).heap.size := by rw [World.size_alloc]
  have P : Hid (∀ u, Below w9.heap.size (w9.alloc (.cells #[.slice A5 l.length c5, .int .i64 0] 24)) u → Blk u w.heap.size 24 #[.slice A l.length c, .int .i64 cur] ∧ Blk u bu 24 #[.slice A5 l.length c5, .int .i64 0] ∧ Nds u A5 U ∧ Below w.heap.size w u ∧ w9.heap.size + 1 ≤ u.heap.size) := fun u hu => by
    have hu' : Below w9.heap.size w9 u := (al (Below.refl _ w9) (.cells #[.slice A5 l.length c5, .int .i64 0] 24)).trans hu
    exact ⟨Bt.below hu' Bt.lt, Bu.below hu' Bu.lt, nu.below hu', hW.trans (hu'.mono hW.size), by rw [nV]; exact hu.size⟩
  have Bv := Blk.new w9 24 #[.slice A5 l.length c5, .int .i64 0]
  have nv := nu.below (al (Below.refl _ w9) (.cells #[.slice A5 l.length c5, .int .i64 0] 24))
  have V0 := Below.refl w9.heap.size (w9.alloc (.cells #[.slice A5 l.length c5, .int .i64 0] 24))
  have NBl : Hid (w.heap.size ≤ w9.heap.size) := hW.size
  have NBt : Hid (w.heap.size ≠ w9.heap.size) := Nat.ne_of_lt Bt.lt
  have NBu : Hid (bu ≠ w9.heap.size) := Nat.ne_of_lt Bu.lt
  generalize w9.alloc (.cells #[.slice A5 l.length c5, .int .i64 0] 24) = wz at *
  generalize w9.heap.size = bv at *
  clear Bt Bu nu hW nV
  clear t0 t1 a0 a1 u0 u1 na hc2 hb1 hb2 hb5 hb6 hb7 hb9 Ba RT RD RA TO RU CH
  have V0H := Lib.hid V0
  have BvH := Lib.hid Bv
  have nvH := Lib.hid nv
  clear V0 Bv nv
  go_loopw [16] (fun nV wr => ∃ (j q : Nat) (A' : Option Addr) (c' : Nat), nV = .int .i64 j ∧ j ≤ l.length ∧ j + q ≤ k ∧ Hid (Blk wr bv 24 #[.slice A' l.length c', .int .i64 q]) ∧ Hid (Nds wr A' U) ∧ l.length ≤ c' ∧ Below bv wz wr) (fun nV _ => l.length - (intOf nV).toNat)
  case atStart => exact ⟨0, k, A5, c5, rfl, Nat.zero_le _, by omega, by show Blk _ _ _ _; rw [hke]; exact BvH.out, nvH, hc5, V0H.out⟩
  case round =>
    clear V0H BvH nvH
    obtain ⟨j, q, A', c', rfl, hj, hjq, HB, HN, hc', hV⟩ := hrel
    obtain ⟨Bt, Bu, nu, hW, hz⟩ := P.out _ hV
    have t0 := Bt.cell 0
    have v0 := HB.out.cell 0
    have v1 := HB.out.cell 1
    have g1 : decide ((j : Int) < (l.length : Int)) = true := decide_eq_true (by omega)
    by_cases hq : q = 0
    · subst hq
      have v1' : wr.cell? ⟨bv, 1, none⟩ = some (.int .i64 0) := v1
      clear v1
      go_wp2_with (go_at_call 18; (with_reducible refine (UZ.out _ _ _ HN.out hc').mono ?_); rintro e w11 ⟨A7, c7, rfl, _, _, hb11⟩; have hb12 := al hb11 (.cells #[.slice A7 l.length c7, .int .i64 0] 24); have Bv := HB.out.below hb12 HB.out.lt; have nv := Lib.hid (HN.out.below hb12); have y0 := Bv.cell 0; have y1' : (w11.alloc (.cells #[.slice A7 l.length c7, .int .i64 0] 24)).cell? ⟨bv, 1, none⟩ = some (.int .i64 0) := Bv.cell 1; have hV2 := hV.trans (hb12.mono (Nat.le_of_lt HB.out.lt)))
      have BvH := Lib.hid Bv
      have V0H := Lib.hid hV2
      clear HB HN hV Bv y0 y1' v0 v1' t0 Bt Bu nu hW hz hb12 hb11 g1 hjq hj
      generalize w11.alloc (.cells #[.slice A7 l.length c7, .int .i64 0] 24) = wy at *
      go_loopw [20] (fun nV wr => ∃ (j q : Nat) (A' : Option Addr) (c' : Nat), nV = .int .i64 j ∧ j ≤ q ∧ q < l.length ∧ Hid (on l q k = true) ∧ Hid (Blk wr bv 24 #[.slice A' l.length c', .int .i64 q]) ∧ Hid (Nds wr A' U) ∧ l.length ≤ c' ∧ Below bv wz wr) (fun nV _ => l.length - (intOf nV).toNat)
      case atStart => exact ⟨0, 0, A', c', rfl, Nat.le_refl _, by omega, OR, BvH, nv, hc', V0H.out⟩
      case round =>
        clear BvH nv V0H
        obtain ⟨j, q, A8, c8, rfl, hjq, hql, HO, HB, HN, hc8, hV⟩ := hrel
        obtain ⟨Bt, Bu, nu, hW, hz⟩ := P.out _ hV
        have t0 := Bt.cell 0
        have u0 := Bu.cell 0
        have u1 := Bu.cell 1
        have v0 := HB.out.cell 0
        have v1 := HB.out.cell 1
        have g1 : decide ((j : Int) < (l.length : Int)) = true := decide_eq_true (by omega)
        by_cases hqk : q = k
        · obtain rfl : q = 0 := by omega
          clear hqk hke
          have v1' : wr.cell? ⟨bv, 1, none⟩ = some (.int .i64 0) := v1
          clear v1
          go_wp2_with (first
            | (go_at_call 15; (with_reducible refine (SE.out _ _ _ _ _ HN.out nu).mono ?_); rintro e w13 ⟨rfl, hb13⟩; replace hW := hW.trans (hb13.mono hW.size))
            | (go_at_call 9; (with_reducible refine (LV.out _).mono ?_); rintro e w14 ⟨rfl, hb14⟩))
          go_ret
          exact ⟨rfl, hW.trans (hb14.mono hW.size)⟩
        · exact absurd (on_le HO.out) (by omega)

    · exact absurd hjq (by omega)
set_option maxHeartbeats 4000000 in
set_option maxRecDepth 100000 in
theorem treeBack_out {A : Option Addr} {c : Nat} {l : List Nd} {cur : Int} {n : Int} {w : World} (hx : Nds w A l) (hc : l.length ≤ c) (hl : l.length ≤ 150) (hs : ∀ x ∈ l, x.old.size ≤ 140737488355327 ∧ x.new.size ≤ 140737488355327) (hR : Right l cur) (hn : n < 0 ∨ l.length ≤ n) :
    Calls Try.prog 7 #[.agg #[.slice A l.length c, .int .i64 cur], .int .i64 n] w fun e w' => e = .returned (.bool true) ∧ Below w.heap.size w w' := by
  have LV := Lib.hid tree_lives
  have hm : l.length ≤ 2000 := by omega
  have RT : Hid (∀ u, Below w.heap.size w u → Calls Try.prog 12 #[.agg #[.slice A l.length c, .int .i64 cur]] u fun e w' => e = .returned (.bool true) ∧ Below u.heap.size u w') := fun u hu => back_right hR rfl hm (hx.below hu) hc
  have TO : Hid (∀ u, Below w.heap.size w u → Calls Try.prog 29 #[.agg #[.slice A l.length c, .int .i64 cur], .int .i64 n] u (ErrAt 0 [] 0 7 u)) := fun u hu => by
    have := tree_To (cur := cur) (k := n) (hx.below hu) hc hm hs
    rw [goTo, if_neg (fun h => h hR), if_pos (by omega)] at this
    exact this.mono fun e w' h => errAt_of rfl h
  have d0 : decide ((150 : Int) < (l.length : Int)) = false := decide_eq_false (by omega)
  have hW : Below w.heap.size w (w.alloc (.cells #[.slice A l.length c, .int .i64 cur] 24)) := al (Below.refl _ _) _
  have Bt := Blk.new w 24 #[.slice A l.length c, .int .i64 cur]
  have hn' : decide (n < 0) = true ∨ (decide (n < 0) = false ∧ decide ((l.length : Int) ≤ n) = true) := by
    by_cases h : n < 0
    · exact .inl (decide_eq_true h)
    · exact .inr ⟨decide_eq_false h, decide_eq_true (by omega)⟩
  by_cases hne : nxt l cur.toNat = -1
  · have RD : Hid (∀ u, Below w.heap.size w u → Calls Try.prog 20 #[.agg #[.slice A l.length c, .int .i64 cur]] u (NumAt l.length l cur 0 false u)) := fun u hu => by
      have := tree_Redo (cur := cur) (hx.below hu) hc hm hs
      rw [redo, if_pos hR, if_pos hne] at this
      exact this.mono fun e w' h => numAt_of rfl h
    clear hx hs hR hne hn
    rcases hn' with g1 | ⟨g1, g2⟩
    all_goals
      go_enter Try.func7, Try.ntmps7
      go_wp2_with (first
        | (go_at_call 12; (with_reducible refine (RT.out _ hW).mono ?_); rintro e w1 ⟨rfl, hb1⟩; replace Bt := Bt.below hb1 Bt.lt; replace hW := hW.trans (hb1.mono hW.size); have t0 := Bt.cell 0; have t1 := Bt.cell 1)
        | (go_at_call 20; (with_reducible refine (RD.out _ hW).mono ?_); rintro e w2 ⟨A2, c2, rfl, na, hc2, hb2⟩; replace Bt := Bt.below hb2 Bt.lt; replace hW := hW.trans (hb2.mono hW.size); replace Bt := Bt.alloc (.cells #[.slice A2 l.length c2, .int .i64 cur] 24); have Ba := Blk.new w2 24 #[.slice A2 l.length c2, .int .i64 cur]; replace hW := al hW (.cells #[.slice A2 l.length c2, .int .i64 cur] 24); have t0 := Bt.cell 0; have t1 := Bt.cell 1)
        | (go_at_call 29; (with_reducible refine (TO.out _ hW).mono ?_); rintro e w5 ⟨A5, c5, rfl, _, _, hb5⟩; replace Bt := (Bt.below hb5 Bt.lt).alloc (.cells #[.slice A5 0 c5, .int .i64 0] 24); replace hW := al (hW.trans (hb5.mono hW.size)) (.cells #[.slice A5 0 c5, .int .i64 0] 24); have t0 := Bt.cell 0)
        | (go_at_call 9; (with_reducible refine (LV.out _).mono ?_); rintro e w9 ⟨rfl, hb9⟩))
      go_ret
      exact ⟨rfl, hW.trans (hb9.mono hW.size)⟩
  · obtain ⟨p, hp1, hp2, hp3, hp4⟩ := redo_next hR hne
    have hRp := hR.goto hp2
    have RD : Hid (∀ u, Below w.heap.size w u → Calls Try.prog 20 #[.agg #[.slice A l.length c, .int .i64 cur]] u (NumAt l.length l (p : Nat) (p : Nat) true u)) := fun u hu => by
      have := tree_Redo (cur := cur) (hx.below hu) hc hm hs
      rw [redo, if_pos hR, hp1, if_neg (by omega)] at this
      exact this.mono fun e w' h => numAt_of rfl h
    have UD : Hid (∀ (u : World) (A : Option Addr) (c : Nat), Nds u A l → l.length ≤ c → Calls Try.prog 18 #[.agg #[.slice A l.length c, .int .i64 (p : Nat)]] u (NumAt l.length l cur (p : Nat) true u)) := fun u A c h1 h2 => by
      have := tree_Undo (cur := (p : Nat)) h1 h2 hm hs
      rw [undo, if_pos hRp, if_neg (by omega), Int.toNat_natCast, hp4, Int.toNat_of_nonneg hR.low] at this
      exact this.mono fun e w' h => numAt_of rfl h
    have SM : Hid (∀ (u : World) (B : Option Addr) (d : Nat), Nds u B l → Below w.heap.size w u → Calls Try.prog 15 #[.agg #[.slice B l.length d, .int .i64 cur], .agg #[.slice A l.length c, .int .i64 cur]] u fun e w' => e = .returned (.bool true) ∧ Below u.heap.size u w') := fun u B d h1 h2 => back_same rfl hm h1 (hx.below h2)
    clear hx hs hR hne hn hp1 hp3 hp4 hRp
    rcases hn' with g1 | ⟨g1, g2⟩
    all_goals
      go_enter Try.func7, Try.ntmps7
      go_wp2_with (first
        | (go_at_call 12; (with_reducible refine (RT.out _ hW).mono ?_); rintro e w1 ⟨rfl, hb1⟩; replace Bt := Bt.below hb1 Bt.lt; replace hW := hW.trans (hb1.mono hW.size); have t0 := Bt.cell 0; have t1 := Bt.cell 1)
        | (go_at_call 20; (with_reducible refine (RD.out _ hW).mono ?_); rintro e w2 ⟨A2, c2, rfl, na, hc2, hb2⟩; replace Bt := Bt.below hb2 Bt.lt; replace hW := hW.trans (hb2.mono hW.size); replace Bt := Bt.alloc (.cells #[.slice A2 l.length c2, .int .i64 (p : Nat)] 24); replace na := na.below (al (Below.refl _ w2) (.cells #[.slice A2 l.length c2, .int .i64 (p : Nat)] 24)); have Ba := Blk.new w2 24 #[.slice A2 l.length c2, .int .i64 (p : Nat)]; replace hW := al hW (.cells #[.slice A2 l.length c2, .int .i64 (p : Nat)] 24); have a0 := Ba.cell 0; have a1 := Ba.cell 1)
        | (go_at_call 18; (with_reducible refine (UD.out _ _ _ na hc2).mono ?_); rintro e w3 ⟨A3, c3, rfl, nb, hc3, hb3⟩; replace Bt := Bt.below hb3 Bt.lt; replace hW := hW.trans (hb3.mono hW.size); replace Bt := Bt.alloc (.cells #[.slice A3 l.length c3, .int .i64 cur] 24); replace nb := nb.below (al (Below.refl _ w3) (.cells #[.slice A3 l.length c3, .int .i64 cur] 24)); have Bb := Blk.new w3 24 #[.slice A3 l.length c3, .int .i64 cur]; replace hW := al hW (.cells #[.slice A3 l.length c3, .int .i64 cur] 24); have t0 := Bt.cell 0; have t1 := Bt.cell 1)
        | (go_at_call 15; (with_reducible refine (SM.out _ _ _ nb hW).mono ?_); rintro e w4 ⟨rfl, hb4⟩; replace Bt := Bt.below hb4 Bt.lt; replace hW := hW.trans (hb4.mono hW.size); have t0 := Bt.cell 0; have t1 := Bt.cell 1)
        | (go_at_call 29; (with_reducible refine (TO.out _ hW).mono ?_); rintro e w5 ⟨A5, c5, rfl, _, _, hb5⟩; replace Bt := (Bt.below hb5 Bt.lt).alloc (.cells #[.slice A5 0 c5, .int .i64 0] 24); replace hW := al (hW.trans (hb5.mono hW.size)) (.cells #[.slice A5 0 c5, .int .i64 0] 24); have t0 := Bt.cell 0)
        | (go_at_call 9; (with_reducible refine (LV.out _).mono ?_); rintro e w9 ⟨rfl, hb9⟩))
      go_ret
      exact ⟨rfl, hW.trans (hb9.mono hW.size)⟩
set_option maxHeartbeats 4000000 in
set_option maxRecDepth 100000 in
theorem treeBack_walk (n : Int) {A : Option Addr} {c : Nat} {l : List Nd} {cur : Int} {w : World} (hx : Nds w A l) (hc : l.length ≤ c) (hs : ∀ x ∈ l, x.old.size ≤ 140737488351232 ∧ x.new.size ≤ 140737488351232) :
    Calls Try.prog 7 #[.agg #[.slice A l.length c, .int .i64 cur], .int .i64 n] w fun e w' => e = .returned (.bool true) ∧ Below w.heap.size w w' := by
  have LV := Lib.hid tree_lives
  have hW : Below w.heap.size w (w.alloc (.cells #[.slice A l.length c, .int .i64 cur] 24)) := al (Below.refl _ _) _
  have hs2 : ∀ x ∈ l, x.old.size ≤ 140737488355327 ∧ x.new.size ≤ 140737488355327 := fun x hx => by have := hs x hx; omega
  by_cases hl : 150 < l.length
  · have d0 : decide ((150 : Int) < (l.length : Int)) = true := decide_eq_true (by omega)
    clear hx hc hs hs2 hl
    go_enter Try.func7, Try.ntmps7
    go_wp2_with (go_at_call 9; (with_reducible refine (LV.out _).mono ?_); rintro e w9 ⟨rfl, hb9⟩)
    go_ret
    exact ⟨rfl, hW.trans (hb9.mono hW.size)⟩
  have hl2 : l.length ≤ 150 := by omega
  by_cases hR : Right l cur
  · by_cases hn : n < 0 ∨ l.length ≤ n
    · exact treeBack_out hx hc hl2 hs2 hR hn
    · obtain ⟨k, rfl⟩ : ∃ k : Nat, n = k := ⟨n.toNat, by omega⟩
      rcases Nat.eq_zero_or_pos k with h0 | h0
      · subst h0
        by_cases hx2 : nxt l cur.toNat = -1
        · exact treeBack_stay_root hx hc hl2 hs2 hR hx2
        · exact treeBack_redo_root hx hc hl2 hs2 hR hx2
      · by_cases hx2 : nxt l cur.toNat = -1
        · exact treeBack_stay_node hx hc hl2 hs2 hR h0 (by omega) hx2
        · exact treeBack_redo_node hx hc hl2 hs2 hR h0 (by omega) hx2
  · have R1 : Hid (∀ u, Below w.heap.size w u → Calls Try.prog 12 #[.agg #[.slice A l.length c, .int .i64 cur]] u fun e w' => e = .returned (.bool false) ∧ Below u.heap.size u w') := fun u hu => by
      have := tree_Right (cur := cur) (hx.below hu) hc (by omega)
      rw [decide_eq_false hR] at this
      exact this
    have d0 : decide ((150 : Int) < (l.length : Int)) = false := decide_eq_false (by omega)
    clear hx hc hs hs2 hl hR
    go_enter Try.func7, Try.ntmps7
    go_wp2_with (first
      | (go_at_call 12; (with_reducible refine (R1.out _ hW).mono ?_); rintro e w1 ⟨rfl, hb1⟩; replace hW := hW.trans (hb1.mono hW.size))
      | (go_at_call 9; (with_reducible refine (LV.out _).mono ?_); rintro e w9 ⟨rfl, hb9⟩))
    go_ret
    exact ⟨rfl, hW.trans (hb9.mono hW.size)⟩
section
open Go.ChangeShapes Go.WideShapes Go.ChangeAt
open Go.ChangeMaps (open_string)
set_option maxRecDepth 100000 in
theorem treeBack_lifted (os : Os) (started : os.Started) (H : Type) (enc : TypeId × Value → H) :
    ReturnsInHanded {} Try.checked os 7 .any (Rows.treeBackSpec.pre6 enc Try.prog Try.f7 Rows.treeBackRow.domain false) (Rows.treeBackSpec.post enc Try.prog Try.f7 false true false false) := by
  refine returnsInHanded_of_change_sized (C := Try.checked) own_knob started (by kernel_rfl) Try.func7
    (ChangeSpec.witness6 (enc := enc) (C := Try.checked) false ⟨#[], #[.agg #[.slice none 0 0, .int .i64 0], .int .i64 0], []⟩ 8 (by kernel_rfl) (by kernel_rfl) (by kernel_rfl) (by kernel_rfl)) ?_
  intro W base args ds gs before hval0 hW _ hsz0 _
  have hsz : (DataW.weightsEach Try.prog (Try.f7.params.toList ++ Rows.treeBackSpec.plain.varTypes Try.prog) (ds ++ gs)).all (· ≤ reachBytes) = true := hsz0
  clear hsz0
  have hval : ∀ (j : Nat) t v, Try.f7.params[j]? = some t → args[j]? = some v → Value.okWide Try.prog W .any base t v := hval0
  have hW' := hW
  obtain ⟨p, q, hA0, hV, rfl, hfz, hnd⟩ := hW
  have hA : DataW.TrodAll enc Try.prog W 0 (fun _ => true) true Try.f7.params.toList args.toList ds p := hA0
  rw [Try.params7] at hA hval hsz
  obtain ⟨v0, vs0, d0, ds0, p0, q0, hargs, rfl, rfl, h0, r0⟩ := trodAll_cons hA
  obtain ⟨v1, vs1, d1, ds1, p1, q1, rfl, rfl, rfl, h1, r1⟩ := trodAll_cons r0
  obtain ⟨rfl, rfl, rfl⟩ := trodAll_nil r1
  obtain rfl : args = #[v0, v1] := by cases args; simp_all
  obtain ⟨rfl, rfl⟩ := trodVars_none hV
  have hlt0 : ∀ x ∈ p0, x.block < W.heap.size := fun x hx => by simpa using hW'.lt x (by simp [hx])
  obtain ⟨A0, c0, xs0, cur0, rfl, hx0, hc0, hm0, wc0, hd0⟩ := open_tree (hval 0 24 v0 rfl rfl) h0 hlt0
  have he0 : ∀ k ∈ xs0, k.old.size ≤ 140737488351232 ∧ k.new.size ≤ 140737488351232 := fun k hk => by
    obtain ⟨e, sp, z, y0, y1, y2, y3, y4, rfl, hin⟩ := hd0 k hk
    rw [← data_len, ← data_len]
    exact sized_tree hsz (j := 0) rfl rfl hin
  obtain ⟨n1, rfl, rfl, rfl, wn1⟩ := open_int Try.underlying3 (hval 1 3 v1 rfl rfl) h1
  refine (treeBack_walk n1 hx0 hc0 he0).mono fun e W' ⟨he, hb⟩ => ?_
  subst he
  exact ⟨_, rfl, law_post rfl rfl (by rw [Try.params7]; decide +kernel) ⟨rfl, rfl, rfl⟩ hW' hb⟩
theorem treeBack_holds : Rows.TreeBackSaid :=
  OpenClaim.holds_of_wide 7 Try.f7 rfl rfl rfl rfl rfl rfl rfl ⟨rfl, rfl, rfl, rfl, rfl⟩ rfl rfl rfl rfl rfl (by kernel_rfl) Try.func7 (by kernel_rfl)
    (of_decide_eq_true (by kernel_rfl)) (by unfold Func.isWrapper; first | (rw [if_pos (by decide +kernel)]; kernel_rfl) | (rw [if_neg (by decide +kernel)]; exact ⟨rfl, rfl⟩))
    (fun os started H enc _ => treeBack_lifted os started H enc)
end
end Go.Proofs.Ytffihchkmcddeaa
