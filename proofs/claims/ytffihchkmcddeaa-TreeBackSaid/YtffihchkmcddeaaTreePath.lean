/-
  The way to a node: the program's.
-/
import Derived.Test.YtffihchkmcddeaaTreeOn
import Derived.Test.YtffihchkmcddeaaTreeKids
import Derived.Test.YtffihchkmcddeaaReverse
import Derived.Deep.AppendLies
namespace Go.Proofs.Ytffihchkmcddeaa
open Go.RowKit
open Tre
/-- Two lists of numbers, and an error. -/
def PathIs (p : List Nat × List Nat × Int) (w : World) (e : Ending) (w' : World) : Prop := ∃ (A B : Option Addr) (c d : Nat), e = .returned (.tuple #[.slice A (ints p.1).length c, .slice B (ints p.2.1).length d, .int .i64 p.2.2]) ∧ Ints w' A (ints p.1) ∧ Ints w' B (ints p.2.1) ∧ Below w.heap.size w w'
theorem ints_nil (w : World) (A : Option Addr) : Ints w A (ints []) := fun h => absurd h (by simp [ints])
theorem pathIs_nil {w w' : World} {n : Int} (h : Below w.heap.size w w') : PathIs ([], [], n) w (.returned (.tuple #[.slice none 0 0, .slice none 0 0, .int .i64 n])) w' := ⟨none, none, 0, 0, rfl, ints_nil _ _, ints_nil _ _, h⟩
theorem ints_reverse (ks : List Nat) : ints ks.reverse = (ints ks).reverse := by simp [ints]
theorem wpList_append_lies {P : Program} {w : World} {ops : Array Oper} {rest : List Oper} {o : Oper} {a : Act} {Q : Exit → Act → World → Prop} (hgd : o.guard = none) (s x : Operand) (t : TypeId)
    (ho : o.op = .call { callee := .builtin .append, args := #[s, x], argTypes := #[t, t] })
    (base : Nat) (e : TypeId) (i : TypeInfo) (z : Value) (size bytes : Nat) (ht : P.underlying t = some (.slice e)) (hi : P.info? e = some i) (hz : i.zero = some z)
    (hsize : i.size = size) (hby : i.bytes = bytes) (hzs : z.cells.size = size) (hsz : 0 < size)
    (v : Value) (n : Nat) (xs : List Value) (hs : a.eval s = v) (hown : w.ownsRow base e size v n xs)
    (ad : Addr) (m c : Nat) (news : List Value) (hx : a.eval x = .slice (some ad) m c) (hl : news.length = m * size) (hnews : ∀ j u, news[j]? = some u → w.cell? (ad.add j) = some u) (h1 : ∀ u ∈ news, u.oneCell' = true)
    (hm : 0 < m) (h63 : n + m ≤ maxLen) (hbytes : (n + m) * bytes ≤ 140737488355328) (hbase : base ≤ w.heap.size)
    (h : ∀ g cap w', w'.ownsRow base e size (.slice (some ⟨g, 0, none⟩) (n + m) cap) (n + m) (xs ++ news) → w.grownBy w' v.ownBlock → (v.ownBlock = some g ∨ g = w.heap.size) → g < w'.heap.size → wpList P ops Q rest (a.put o.dst (.slice (some ⟨g, 0, none⟩) (n + m) cap)) w') : wpList P ops Q (o :: rest) a w :=
  wpList_plain hgd fun _ hK => wp_append_lies w s x t ho base e i z size bytes ht hi hz hsize hby hzs hsz v n xs hs hown ad m c news hx hl hnews h1 hm h63 hbytes hbase _ rfl fun g cap w' h2 h3 h4 h5 => hK _ _ (h g cap w' h2 h3 h4 h5)
/-- Two rows of the call's own that lie apart. -/
def Two (w : World) (B : Nat) (u v : Value) (m n : Nat) (xs ys : List Int) : Prop := w.ownsRow B 3 1 u m (xs.map (Value.int .i64)) ∧ w.ownsRow B 3 1 v n (ys.map (Value.int .i64)) ∧ ∀ g, u.ownBlock = some g → v.ownBlock ≠ some g
theorem Two.swap {w : World} {B m n : Nat} {u v : Value} {xs ys : List Int} (h : Two w B u v m n xs ys) : Two w B v u n m ys xs := ⟨h.2.1, h.1, fun g h1 h2 => h.2.2 g h2 h1⟩
theorem Two.off {w : World} {B m n : Nat} {u v : Value} {xs ys : List Int} (h : Two w B u v m n xs ys) : v.ownBlock = none ∨ v.ownBlock ≠ u.ownBlock := by
  cases hv : v.ownBlock with
  | none => exact .inl rfl
  | some g => exact .inr fun e => h.2.2 g e.symm hv
theorem Two.alloc {w : World} {B m n : Nat} {u v : Value} {xs ys : List Int} (h : Two w B u v m n xs ys) (o : Obj) : Two (w.alloc o) B u v m n xs ys := ⟨h.1.alloc o, h.2.1.alloc o, h.2.2⟩
/-- The first one grown. -/
theorem Two.grow {w w' : World} {B m n m' : Nat} {u v : Value} {xs ys xs' : List Int} {g cap : Nat} (h : Two w B u v m n xs ys) (hg : w.grownBy w' u.ownBlock) (hown : w'.ownsRow B 3 1 (.slice (some ⟨g, 0, none⟩) m' cap) m' (xs'.map (Value.int .i64)))
    (hat : u.ownBlock = some g ∨ g = w.heap.size) : Two w' B (.slice (some ⟨g, 0, none⟩) m' cap) v m' n xs' ys := by
  refine ⟨hown, h.2.1.kept hg h.off, fun g' e h2 => ?_⟩
  have e : g = g' := Option.some.inj e
  subst e
  rcases hat with h3 | h3
  · exact h.2.2 _ h3 h2
  · have := (h.2.1.lt g h2).2; omega
set_option maxHeartbeats 4000000 in
set_option maxRecDepth 100000 in
theorem tree_Path {A : Option Addr} {c : Nat} {l : List Nd} {cur k : Int} {w : World} (hx : Nds w A l) (hc : l.length ≤ c) (hm : l.length ≤ 2000) :
    Calls Try.prog 27 #[.agg #[.slice A l.length c, .int .i64 cur], .int .i64 k] w fun e w' => PathIs (path l cur k) w e w' := by
  have h0 := al (Below.refl w.heap.size w) (.cells #[.slice A l.length c, .int .i64 cur] 24)
  have hx2 := Lib.hid (hx.below h0)
  have R := Lib.hid (fun u (h : Nds u A l) => tree_Right (c := c) (cur := cur) h hc hm)
  have HAS := Lib.hid (fun u => held_has A l.length c cur k u)
  have HB := Lib.hid (fun u => blk1 w #[.slice A l.length c, .int .i64 cur] 24 (u := u))
  by_cases hR : Right l cur
  · rw [decide_eq_true hR] at R
    by_cases hk : 0 ≤ k ∧ k < l.length
    · rw [decide_eq_true hk] at HAS
      obtain ⟨m, rfl⟩ : ∃ m : Nat, cur = m := ⟨cur.toNat, by have := hR.low; omega⟩
      obtain ⟨i, rfl⟩ : ∃ i : Nat, k = i := ⟨k.toNat, by omega⟩
      have hml : m < l.length := by have := hR.high; omega
      have hil : i < l.length := by omega
      have H : Hid (path l (m : Int) (i : Int) = (apart l l.length m i, (apart l l.length i m).reverse, 0)) := by show _ = _; rw [path, if_neg (fun h => h hR), if_neg (fun h => h hk), Int.toNat_natCast, Int.toNat_natCast]
      have HL := Lib.hid (fun p q => apart_len l l.length p q)
      have HU := Lib.hid hR.ups
      obtain ⟨b, off, rfl, hbw, CC⟩ := hx.addr (by omega)
      have CE := Lib.hid CC
      obtain ⟨i0, hi, hz0, hz1, hz2⟩ := info_parts info_int
      clear CC hx hR hk
      go_enter Try.func27, Try.ntmps27
      go_wp2_with (first
        | (go_at_call 12; refine (R.out _ hx2.out).mono ?_; rintro e w1 ⟨rfl, hb1⟩; obtain ⟨z1, y0, y1⟩ := HB.out _ hb1; have t0 := y0.cell 0; have t1 := y0.cell 1)
        | (go_at_call 40; refine (HAS.out _).mono ?_; rintro e w2 ⟨rfl, hb2⟩; have S2 := hb1.trans (hb2.mono hb1.size); obtain ⟨z2, x0, x1⟩ := HB.out _ S2; have s0 := x0.cell 0; have s1 := x0.cell 1))
      have hS : (w.alloc (.cells #[.slice (some ⟨b, off, none⟩) l.length c, .int .i64 (m : Int)] 24)).heap.size = w.heap.size + 1 := World.size_alloc _ _
      generalize w.alloc (.cells #[.slice (some ⟨b, off, none⟩) l.length c, .int .i64 (m : Int)] 24) = wz at *
      rw [hS] at HB S2
      have W2 := Lib.hid S2
      have HS := Lib.hid hS
      clear hb1 hb2 y0 y1 t0 t1 x0 s0 s1 S2 hx2 h0 R HAS z1 x1 hS
      have Q0 : Hid (apart l l.length m i = [] ++ apart l l.length m i ∧ apart l l.length i m = [] ++ apart l l.length i m) := ⟨rfl, rfl⟩
      go_loopw [1, 7, 8, 9] (fun kv bv fv pv wr => ∃ (p q : Nat) (A1 A2 : Option Addr) (c1 c2 n1 n2 : Nat) (X Y : List Nat), kv = .int .i64 q ∧ bv = .slice A1 n1 c1 ∧ fv = .slice A2 n2 c2 ∧ pv = .int .i64 p ∧ Hid (n1 = X.length ∧ n2 = Y.length) ∧ p < l.length ∧ q < l.length ∧
        Hid (apart l l.length m i = X ++ apart l l.length p q ∧ apart l l.length i m = Y ++ apart l l.length q p) ∧ Hid (Two wr (w.heap.size + 1) (.slice A1 n1 c1) (.slice A2 n2 c2) n1 n2 (ints X) (ints Y)) ∧ Below (w.heap.size + 1) wz wr) (fun kv _ _ pv _ => (intOf kv).toNat + (intOf pv).toNat)
      case atStart => exact ⟨m, i, none, none, 0, 0, 0, 0, [], [], rfl, rfl, rfl, rfl, ⟨rfl, rfl⟩, hml, hil, Q0, ⟨World.ownsRow_nil _ _ _ _, World.ownsRow_nil _ _ _ _, fun g h => by cases h⟩, W2.out⟩
      case round =>
        clear W2 Q0 hml hil z2
        obtain ⟨p, q, A1, A2, c1, c2, n1, n2, X, Y, rfl, rfl, rfl, rfl, HN, hpl, hql, HE, HT, hW0⟩ := hrel
        obtain ⟨z1, y0, hW⟩ := HB.out _ hW0
        have t0 := y0.cell 0
        have hn1 : n1 ≤ l.length := by
          have h1 := HL.out m i
          rw [HE.out.1, List.length_append] at h1
          have := HN.out.1; omega
        have hn2 : n2 ≤ l.length := by
          have h1 := HL.out i m
          rw [HE.out.2, List.length_append] at h1
          have := HN.out.2; omega
        by_cases hpq : p = q
        · subst hpq
          have HE2 : Hid (apart l l.length m i = X ∧ apart l l.length i m = Y) := ⟨by rw [HE.out.1, apart_self, List.append_nil], by rw [HE.out.2, apart_self, List.append_nil]⟩
          have RV := Lib.hid (sl_reverse_any HT.out.2.1 (by rw [ints_length]; exact HN.out.2) (by rw [ints_length]; have := HN.out.2; omega))
          clear HE t0 y0
          go_wp2_with (go_at_call 46; (with_reducible refine RV.out.mono ?_); rintro e w5 ⟨rfl, hg5, hI5⟩)
          go_ret3
          rw [H.out, HE2.out.1, HE2.out.2]
          have o1 := (HT.out.1.kept hg5 HT.out.swap.off)
          obtain ⟨e1, e2⟩ := HN.out
          refine ⟨A1, A2, c1, c2, ?_, Ints.of_own (n := n1) (c := c1) (v := .slice A1 n1 c1) (by rw [ints_length, ← e1]; exact o1) rfl, by rw [ints_reverse]; exact hI5, (hW.grown hg5 hW.size (fun j e => by have := (HT.out.2.1.lt j e).1; omega))⟩
          simp only [ints_length, List.length_reverse, ← e1, ← e2]
          rfl
        · by_cases hlt : q < p
          · obtain ⟨y, hy⟩ : ∃ y, l[p]? = some y := ⟨_, List.getElem?_eq_getElem hpl⟩
            have CU : Hid (∀ u, Below w.heap.size w u → u.cell? ⟨b, off + p * 7, none⟩ = some (.int .i64 (abv l p : Nat))) := fun u hu => by
              have := (CE.out u _ hu (Nat.le_refl _) _ _ hy).1
              rwa [HU.out.abv_up hy (by omega)] at this
            have ha := HU.out.abv_lt (k := p) (by omega) hpl
            have HE2 : Hid (apart l l.length m i = (X ++ [p]) ++ apart l l.length (abv l p) q ∧ apart l l.length i m = Y ++ apart l l.length q (abv l p)) := ⟨by rw [HE.out.1, apart_step hpl hlt ha, List.append_assoc]; rfl, by rw [HE.out.2, apart_other hlt ha]⟩
            have g1 : ((p : Int) == (q : Int)) = false := by rw [beq_eq_false_iff_ne]; omega
            have g2 : decide ((q : Int) < (p : Int)) = true := decide_eq_true (by omega)
            clear hy HE
            generalize abv l p = u at *
            go_wp2_with (at_builtin; refine wpList_append_lies rfl _ _ 41 rfl (w.heap.size + 1) 3 i0 (.int .i64 0) 1 8 Try.underlying41 hi hz0 hz1 hz2 rfl (by decide) (.slice A1 n1 c1) n1 _ rfl (HT.out.alloc _).1 ⟨wr.heap.size, 0, none⟩ 1 1 [.int .i64 (p : Int)] rfl rfl ?c1 ?c2 (by decide) ?c3 ?c4 ?c5 ?_)
            case c1 =>
              intro j v hj
              have hb := Blk.new wr 3 #[.int .i64 (p : Int)]
              rw [add_plain, Nat.zero_add, hb.cell]
              simpa using hj
            case c2 => simp [Value.oneCell']
            case c3 => unfold maxLen; omega
            case c4 => omega
            case c5 => rw [World.size_alloc]; omega
            intro g4 cap4 w4 hown4 hgrow4 hat4 hlt4
            have HT2 := Lib.hid ((HT.out.alloc (.cells #[.int .i64 (p : Int)] 3)).grow (xs' := ints (X ++ [p])) hgrow4 (by rw [ints_snoc, List.map_append]; exact hown4) (by rw [World.size_alloc]; exact hat4))
            have W4 : Below (w.heap.size + 1) wz w4 := (hW0.alloc z1 (.cells #[.int .i64 (p : Int)] 3)).grown hgrow4 (by rw [World.size_alloc]; omega) (fun j e => (HT.out.1.lt j e).1)
            obtain ⟨_, y4, hW4⟩ := HB.out _ W4
            have t4 := y4.cell 0
            have d4 := CU.out _ hW4
            have hb4 := Nat.lt_of_lt_of_le hbw hW4.size
            have HN2 : Hid (n1 + 1 = (X ++ [p]).length ∧ n2 = Y.length) := ⟨by rw [List.length_append, ← HN.out.1]; rfl, HN.out.2⟩
            clear hown4 hgrow4 hat4 y4 t0 y0
            go_wp2
            go_roundw
            case rel => exact ⟨u, q, some ⟨g4, 0, none⟩, A2, cap4, c2, n1 + 1, n2, X ++ [p], Y, rfl, rfl, rfl, rfl, HN2, by omega, hql, HE2, HT2, W4⟩
            case measure => simp [intOf]; omega
          · obtain ⟨y, hy⟩ : ∃ y, l[q]? = some y := ⟨_, List.getElem?_eq_getElem hql⟩
            have CU : Hid (∀ u, Below w.heap.size w u → u.cell? ⟨b, off + q * 7, none⟩ = some (.int .i64 (abv l q : Nat))) := fun u hu => by
              have := (CE.out u _ hu (Nat.le_refl _) _ _ hy).1
              rwa [HU.out.abv_up hy (by omega)] at this
            have ha := HU.out.abv_lt (k := q) (by omega) hql
            have hlt2 : p < q := by omega
            have HE2 : Hid (apart l l.length m i = X ++ apart l l.length p (abv l q) ∧ apart l l.length i m = (Y ++ [q]) ++ apart l l.length (abv l q) p) := ⟨by rw [HE.out.1, apart_other hlt2 ha], by rw [HE.out.2, apart_step hql hlt2 ha, List.append_assoc]; rfl⟩
            have g1 : ((p : Int) == (q : Int)) = false := by rw [beq_eq_false_iff_ne]; omega
            have g2 : decide ((q : Int) < (p : Int)) = false := decide_eq_false (by omega)
            clear hy HE
            generalize abv l q = u at *
            go_wp2_with (at_builtin; refine wpList_append_lies rfl _ _ 41 rfl (w.heap.size + 1) 3 i0 (.int .i64 0) 1 8 Try.underlying41 hi hz0 hz1 hz2 rfl (by decide) (.slice A2 n2 c2) n2 _ rfl (HT.out.alloc _).2.1 ⟨wr.heap.size, 0, none⟩ 1 1 [.int .i64 (q : Int)] rfl rfl ?c1 ?c2 (by decide) ?c3 ?c4 ?c5 ?_)
            case c1 =>
              intro j v hj
              have hb := Blk.new wr 3 #[.int .i64 (q : Int)]
              rw [add_plain, Nat.zero_add, hb.cell]
              simpa using hj
            case c2 => simp [Value.oneCell']
            case c3 => unfold maxLen; omega
            case c4 => omega
            case c5 => rw [World.size_alloc]; omega
            intro g4 cap4 w4 hown4 hgrow4 hat4 hlt4
            have HT2 := Lib.hid ((HT.out.alloc (.cells #[.int .i64 (q : Int)] 3)).swap.grow (xs' := ints (Y ++ [q])) hgrow4 (by rw [ints_snoc, List.map_append]; exact hown4) (by rw [World.size_alloc]; exact hat4)).swap
            have W4 : Below (w.heap.size + 1) wz w4 := (hW0.alloc z1 (.cells #[.int .i64 (q : Int)] 3)).grown hgrow4 (by rw [World.size_alloc]; omega) (fun j e => (HT.out.2.1.lt j e).1)
            obtain ⟨_, y4, hW4⟩ := HB.out _ W4
            have t4 := y4.cell 0
            have d4 := CU.out _ hW4
            have hb4 := Nat.lt_of_lt_of_le hbw hW4.size
            have HN2 : Hid (n1 = X.length ∧ n2 + 1 = (Y ++ [q]).length) := ⟨HN.out.1, by rw [List.length_append, ← HN.out.2]; rfl⟩
            clear hown4 hgrow4 hat4 y4 t0 y0
            go_wp2
            go_roundw
            case rel => exact ⟨p, u, A1, some ⟨g4, 0, none⟩, c1, cap4, n1, n2 + 1, X, Y ++ [q], rfl, rfl, rfl, rfl, HN2, hpl, by omega, HE2, HT2, W4⟩
            case measure => simp [intOf]; omega
    · rw [decide_eq_false hk] at HAS
      have H : Hid (path l cur k = ([], [], 7)) := by show _ = _; rw [path, if_neg (fun h => h hR), if_pos hk]
      clear hx hR hk
      go_enter Try.func27, Try.ntmps27
      go_wp2_with (first
        | (go_at_call 12; refine (R.out _ hx2.out).mono ?_; rintro e w1 ⟨rfl, hb1⟩; obtain ⟨z1, y0, y1⟩ := HB.out _ hb1; have t0 := y0.cell 0; have t1 := y0.cell 1)
        | (go_at_call 40; refine (HAS.out _).mono ?_; rintro e w2 ⟨rfl, hb2⟩; have S2 := hb1.trans (hb2.mono hb1.size); obtain ⟨z2, x0, x1⟩ := HB.out _ S2))
      go_ret3
      rw [H.out]
      exact pathIs_nil x1
  · rw [decide_eq_false hR] at R
    have H : Hid (path l cur k = ([], [], 1)) := by show _ = _; rw [path, if_pos hR]
    clear hx hR
    go_enter Try.func27, Try.ntmps27
    go_wp2_with (go_at_call 12; refine (R.out _ hx2.out).mono ?_; rintro e w1 ⟨rfl, hb1⟩; obtain ⟨z1, y0, y1⟩ := HB.out _ hb1; have t0 := y0.cell 0; have t1 := y0.cell 1)
    go_ret3
    rw [H.out]
    exact pathIs_nil y1
end Go.Proofs.Ytffihchkmcddeaa
