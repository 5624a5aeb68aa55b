/-
  The document's row of registers, one place a name.
-/
import Derived.Test.YtopplkfbnpamdaaRegRef
import Derived.Test.YtopplkfbnpamdaaUtfRef
import Derived.BigQuiet
namespace Go.Proofs.Ytopplkfbnpamdaa
open Go.RowKit
open Reg
/-- What a place of the row holds. -/
def Ent (w : World) (g : Nat) : Option Rg → Value → Prop
  | none, v => v = .slice none 0 0
  | some r, v => ∃ b, v = .slice (some ⟨b, 0, none⟩) 1 1 ∧ b ≠ g ∧ b < w.heap.size ∧ RgAt w b 0 r
/-- Block g holds the row. -/
def RowIs (w : World) (g : Nat) (R : List (Option Rg)) : Prop := ∃ cs : Array Value, Blk w g 22 cs ∧ cs.size = 38 ∧ R.length = 38 ∧ ∀ (j : Nat) (o : Option Rg), R[j]? = some o → ∃ v, cs[j]? = some v ∧ Ent w g o v
theorem Ent.below {w w' : World} {g : Nat} {o : Option Rg} {v : Value} (h : Ent w g o v) (hb : Below w.heap.size w w') : Ent w' g o v := by
  cases o with
  | none => exact h
  | some r =>
    obtain ⟨b, e, h1, h2, h3⟩ := h
    exact ⟨b, e, h1, Nat.lt_of_lt_of_le h2 hb.size, h3.of_block (hb.block b h2)⟩
theorem RowIs.below {w w' : World} {g : Nat} {R : List (Option Rg)} (h : RowIs w g R) (hb : Below w.heap.size w w') : RowIs w' g R := by
  obtain ⟨cs, h1, h2, h3, h4⟩ := h
  refine ⟨cs, h1.below hb h1.lt, h2, h3, fun j o hj => ?_⟩
  obtain ⟨v, e1, e2⟩ := h4 j o hj
  exact ⟨v, e1, e2.below hb⟩
theorem RowIs.drewN {w : World} {g : Nat} {R : List (Option Rg)} (h : RowIs w g R) (n : Nat) : RowIs (w.drewN n) g R := h.below (below_gb (gb_drewN w n none))
theorem RowIs.lt {w : World} {g : Nat} {R : List (Option Rg)} (h : RowIs w g R) : g < w.heap.size := by obtain ⟨cs, h1, _⟩ := h; exact h1.lt
theorem RowIs.set {w : World} {g : Nat} {R : List (Option Rg)} (h : RowIs w g R) (j : Nat) {o : Option Rg} {v : Value} (he : Ent w g o v) : RowIs (w.setCell ⟨g, j, none⟩ v) g (R.set j o) := by
  obtain ⟨cs, h1, h2, h3, h4⟩ := h
  have ent : ∀ {o : Option Rg} {u : Value}, Ent w g o u → Ent (w.setCell ⟨g, j, none⟩ v) g o u := fun {o u} he => by
    cases o with
    | none => exact he
    | some r =>
      obtain ⟨b, e, k1, k2, k3⟩ := he
      refine ⟨b, e, k1, by simp only [World.setCell]; simpa using k2, k3.of_block (Below.heap_setCell _ _ _ _ k1)⟩
  refine ⟨cs.setIfInBounds j v, h1.set_ j v, by simpa using h2, by simpa using h3, fun i o' hi => ?_⟩
  rw [List.getElem?_set] at hi
  split at hi
  · rename_i e
    subst e
    split at hi
    · rename_i hl
      injection hi with hi
      subst hi
      refine ⟨v, ?_, ent he⟩
      rw [Array.getElem?_setIfInBounds, if_pos rfl, if_pos (by omega)]
    · cases hi
  · rename_i e
    obtain ⟨u, e1, e2⟩ := h4 i o' hi
    refine ⟨u, ?_, ent e2⟩
    rw [Array.getElem?_setIfInBounds, if_neg e]; exact e1
theorem RowIs.at_ {w : World} {g : Nat} {R : List (Option Rg)} (h : RowIs w g R) {j : Nat} {o : Option Rg} (hj : R[j]? = some o) : ∃ v, w.cell? ⟨g, j, none⟩ = some v ∧ Ent w g o v := by
  obtain ⟨cs, h1, h2, h3, h4⟩ := h
  obtain ⟨v, e1, e2⟩ := h4 j o hj
  exact ⟨v, by rw [h1.cell]; exact e1, e2⟩
theorem RowIs.frozen {w : World} {g : Nat} {R : List (Option Rg)} (h : RowIs w g R) (j : Nat) : w.frozen? ⟨g, j, none⟩ = false := by obtain ⟨cs, h1, _⟩ := h; exact h1.frozen j
theorem RowIs.some_ {w : World} {g : Nat} {R : List (Option Rg)} (h : RowIs w g R) {j : Nat} (hj : j < 38) : ∃ v, w.cell? ⟨g, j, none⟩ = some v := by
  obtain ⟨v, hv, _⟩ := h.at_ (List.getElem?_eq_getElem (by obtain ⟨cs, _, _, h3, _⟩ := h; omega : j < R.length))
  exact ⟨v, hv⟩
theorem Ent.new {w : World} {g : Nat} (k : Rg) (t : TypeId) (hg : g < w.heap.size) : Ent (w.alloc (.cells k.vals t)) g (some k) (.slice (some ⟨w.heap.size, 0, none⟩) 1 1) := by
  have hb := Blk.new w t k.vals
  exact ⟨w.heap.size, rfl, by omega, hb.lt, hb.cell 0, hb.cell 1, hb.cell 2⟩
def noRow : Array Value := Array.replicate 38 (.slice none 0 0)
theorem row_make (w : World) : (Instr.makeSlice 47 (.int .i64 38) (.int .i64 38)).run Try.prog w = .ok (.slice (some ⟨w.heap.size, 0, none⟩) 38 38) (w.alloc (.cells noRow 22)) := by kernel_rfl
theorem RowIs.new (w : World) : RowIs (w.alloc (.cells noRow 22)) w.heap.size (row []) := by
  refine ⟨noRow, Blk.new _ _ _, rfl, row_length _, fun j o hj => ?_⟩
  have hj38 : j < 38 := by have := (List.getElem?_eq_some_iff.1 hj).1; rwa [row_length] at this
  rw [row_get _ hj38] at hj
  injection hj with hj
  subst hj
  refine ⟨.slice none 0 0, ?_, rfl⟩
  rw [noRow, Array.getElem?_replicate, if_pos hj38]
namespace Reg
/-- One register more in the row. -/
theorem row_next {ks : List Rg} {k q : Nat} {x : Rg} (hk : ks[k]? = some x) (h : Right (ks.take (k + 1))) (hq : nm q = x.name) : row (ks.take (k + 1)) = (row (ks.take k)).set q (some x) := by
  have hn := ((right_succ hk).1 h).2.1
  have hp := h.1.2
  obtain ⟨hlt, rfl⟩ := List.getElem?_eq_some_iff.1 hk
  rw [List.take_succ_eq_append_getElem hlt] at hp ⊢
  have hno : look (ks.take k) ks[k].name = none := look_none fun y hy => by
    have := (List.pairwise_append.1 hp).2.2 y hy ks[k] (by simp)
    omega
  apply List.ext_getElem?
  intro j
  rcases Nat.lt_or_ge j 38 with hj | hj
  · rw [row_get _ hj, List.getElem?_set, look_append, look_cons]
    by_cases e : q = j
    · subst e
      rw [hq, hno, if_pos rfl, Option.none_or, if_pos rfl, if_pos (by rw [row_length]; exact hj)]
    · rw [if_neg e, row_get _ hj, if_neg (fun e2 => e (nm_inj (hq.trans e2)))]
      show some ((look (ks.take k) (nm j)).or none) = _
      rw [Option.or_none]
  · rw [List.getElem?_eq_none (by rw [row_length]; exact hj), List.getElem?_eq_none (by rw [List.length_set, row_length]; exact hj)]
/-- Where the place of the last one is known: the next one's place is not ahead of it. -/
theorem place_next {ks : List Rg} {k p : Nat} {x : Rg} (hk : ks[k]? = some x) (h0 : k = 0 → p = 0) (h1 : ∀ y, 0 < k → ks[k - 1]? = some y → spot y.name + 1 = p) (h : Right (ks.take (k + 1))) : ∃ s, p ≤ s ∧ s < 38 ∧ nm s = x.name := by
  obtain ⟨hr, hn, hy, _⟩ := (right_succ hk).1 h
  refine ⟨spot x.name, ?_, (nm_spot hn).2, (nm_spot hn).1⟩
  rcases Nat.eq_zero_or_pos k with h | h
  · rw [h0 h]; exact Nat.zero_le _
  · have hlt := (List.getElem?_eq_some_iff.1 hk).1
    obtain ⟨y, hky⟩ : ∃ y, ks[k - 1]? = some y := ⟨_, List.getElem?_eq_getElem (by omega)⟩
    have := h1 y h hky
    have hyn : IsName y.name := hr.1.1 y (List.mem_of_getElem? (i := k - 1) (by rw [List.getElem?_take, if_pos (by omega)]; exact hky))
    have := spot_mono hyn hn (hy y h hky)
    omega
/-- A register at such a place may be the next one. -/
theorem right_next {ks : List Rg} {k p q : Nat} {x : Rg} (hk : ks[k]? = some x) (h : Right (ks.take k)) (h1 : ∀ y, 0 < k → ks[k - 1]? = some y → spot y.name + 1 = p) (hpq : p ≤ q) (hq38 : q < 38) (hq : nm q = x.name) (hf : Fit x) : Right (ks.take (k + 1)) := by
  refine (right_succ hk).2 ⟨h, hq ▸ nm_is hq38, fun y h0 hky => ?_, hf⟩
  have hyn : IsName y.name := h.1.1 y (List.mem_of_getElem? (i := k - 1) (by rw [List.getElem?_take, if_pos (by omega)]; exact hky))
  rw [← hq, ← (nm_spot hyn).1]
  have := h1 y h0 hky
  exact nm_mono (by omega)
end Reg
/-- The row's answer. -/
def RowOf (ks : List Rg) (w : World) (e : Ending) (w' : World) : Prop :=
  Below w.heap.size w w' ∧ ((Right ks ∧ ∃ g, e = .returned (.slice (some ⟨g, 0, none⟩) 38 38) ∧ RowIs w' g (row ks) ∧ w.heap.size ≤ g) ∨ (¬ Right ks ∧ e = .returned (.slice none 0 0)))
set_option maxHeartbeats 4000000 in
set_option maxRecDepth 100000 in
theorem ref21_row {A : Option Addr} {c : Nat} {ks : List Rg} {w : World} (hx : Rgs w A ks) (hm : ks.length ≤ maxLen) :
    Calls Try.prog 25 #[.slice A ks.length c] w (RowOf ks w) := by
  have hm2 : ks.length ≤ 9223372036854775807 := by unfold maxLen at hm; exact hm
  clear hm
  have R0 := RowIs.new w
  have W0 : Below w.heap.size w (w.alloc (.cells noRow 22)) := (Below.refl _ w).alloc (Nat.le_refl _) _
  obtain ⟨m, hm⟩ : ∃ m, w.heap.size = m := ⟨_, rfl⟩
  have mk := row_make w
  rw [hm] at mk R0
  go_enter Try.func25, Try.ntmps25
  go_wp2_with (simp only [mk])
  go_loopw [4, 5] (fun av iv wr => ∃ k p : Nat, k ≤ ks.length ∧ p ≤ 38 ∧ iv = .int .i64 k ∧ av = .int .i64 p ∧ Hid (Right (ks.take k)) ∧ Hid (k = 0 → p = 0) ∧ Hid (∀ y, 0 < k → ks[k - 1]? = some y → spot y.name + 1 = p) ∧ RowIs wr m (row (ks.take k)) ∧ Below w.heap.size w wr) (fun _ iv _ => ks.length - (intOf iv).toNat)
  case atStart => exact ⟨0, 0, Nat.zero_le _, Nat.zero_le _, rfl, rfl, (right_nil : Right (ks.take 0)), (fun _ => rfl), (fun y h => absurd h (Nat.lt_irrefl 0)), R0, W0⟩
  case round =>
    clear R0 W0 mk
    obtain ⟨k, p, hkl, hp38, rfl, rfl, HR, HP0, HP1, hrow, hW⟩ := hrel
    by_cases hlt : k < ks.length
    · obtain ⟨x, hkx⟩ : ∃ x, ks[k]? = some x := ⟨_, List.getElem?_eq_getElem hlt⟩
      have hki : (k : Int) < ks.length := by omega
      have no : Hid (¬ Right (ks.take (k + 1)) → ¬ Right ks) := fun h => not_right h
      have NX := Lib.hid (fun h => place_next hkx HP0.out HP1.out h)
      have RX := Lib.hid (fun q hpq hq38 hq hf => right_next (q := q) hkx HR.out HP1.out hpq hq38 hq hf)
      have RW := Lib.hid (fun q h hq => row_next (q := q) hkx h hq)
      have CX : Hid (∀ u, Below w.heap.size w u → ∃ b off, A = some ⟨b, off, none⟩ ∧ b < w.heap.size ∧ u.cell? ⟨b, off + k * 3, none⟩ = some (.int .i64 x.name) ∧ u.cell? ⟨b, off + k * 3 + 1, none⟩ = some (.bool x.lines) ∧ u.cell? ⟨b, off + k * 3 + 2, none⟩ = some (.string x.text)) := fun u hu => hx.at_ hu (Nat.le_refl _) hkx
      have HK := Lib.hid hkx
      have VX : Hid (x.text.size ≤ 4096 → ∀ u, Calls Try.prog 32 #[.string x.text] u fun e u' => e = .returned (.bool (Utf.valid x.text.data.toList)) ∧ Below u.heap.size u u') := fun h u => ref_Valid x.text (by omega) u
      clear hkx
      go_wp2_with fail
      go_loopw [4] (fun av wi => ∃ q : Nat, p ≤ q ∧ q ≤ 38 ∧ av = .int .i64 q ∧ Hid (∀ j, p ≤ j → j < q → nm j ≠ x.name) ∧ RowIs wi m (row (ks.take k)) ∧ Below w.heap.size w wi) (fun av _ => 38 - (intOf av).toNat)
      case atStart => exact ⟨p, Nat.le_refl _, hp38, rfl, (fun j h1 h2 => absurd h2 (by omega)), hrow, hW⟩
      case round =>
        clear hrow hW
        obtain ⟨q, hpq, hq38, rfl, HN, hrow, hW⟩ := hrel
        obtain ⟨b, off, rfl, hbw, c0, c1, c2⟩ := CX.out _ hW
        have hdr : ∀ n, RowIs (wr.drewN n) m (row (ks.take k)) ∧ Below w.heap.size w (wr.drewN n) := fun n => ⟨hrow.drewN n, hW.trans ((below_gb (gb_drewN wr n none)).mono hW.size)⟩
        by_cases hlq : q < 38
        · have hb := names_byte hlq
          have hq2 : (q : Int) < 38 := by omega
          have hsz : q < namesT.size := hlq
          by_cases he : nm q = x.name
          · have hq : (wrap64 ((namesT[q]'hlq).toNat : Int) != x.name) = false := by rw [hb]; simpa using he
            have he38 : ((q : Int) == 38) = false := by simp; omega
            dsimp only [namesT] at hq hsz
            clear hb HN
            by_cases hs : x.text.size ≤ 4096
            · have f0 : decide ((4096 : Int) < (x.text.size : Int)) = false := decide_eq_false (by omega)
              have V := Lib.hid (VX.out hs)
              clear VX
              by_cases hv : Utf.valid x.text.data.toList = true
              · rw [hv] at V
                have HR2 := Lib.hid (RX.out q hpq hlq he ⟨hs, hv⟩)
                have HW2 := Lib.hid (RW.out q HR2.out he)
                have HS : Hid (∀ y, 0 < k + 1 → ks[k + 1 - 1]? = some y → spot y.name + 1 = q + 1) := fun y _ hy => by
                  rw [Nat.add_sub_cancel, HK.out] at hy
                  injection hy with hy
                  rw [← hy, ← he, spot_nm hlq]
                have hmn : m < wr.heap.size := hrow.lt
                clear he RX RW NX no hs hv hx
                go_wp2
                go_quiet (fail)
                go_wp2_with (go_at_call 32; (with_reducible refine (V.out _).mono ?_); rintro e u1 ⟨rfl, hb1⟩; have hW1 := (hdr nq).2.trans (hb1.mono (hdr nq).2.size); have hrow1 := (hdr nq).1.below hb1; obtain ⟨b', off', hA', hbw', d0, d1, d2⟩ := CX.out _ hW1; simp only [Option.some.injEq, Addr.mk.injEq, and_true] at hA'; obtain ⟨rfl, rfl⟩ := hA'; obtain ⟨v0, hv0⟩ := hrow1.some_ hlq; have fz := hrow1.frozen q; have hm1 := hrow1.lt)
                have hrow2 := (hrow1.below ((Below.refl _ u1).alloc (Nat.le_refl _) (.cells #[.int .i64 x.name, .bool x.lines, .string x.text] 32))).set q (Ent.new x 32 hm1)
                rw [← HW2.out] at hrow2
                have hW2 := (hW1.alloc hW1.size (.cells #[.int .i64 x.name, .bool x.lines, .string x.text] 32)).setCell (p := ⟨m, q, none⟩) (by show w.heap.size ≤ m; omega) (.slice (some ⟨u1.heap.size, 0, none⟩) 1 1)
                rw [World.setCell_alloc_past _ _ _ _ hm1] at hrow2 hW2
                go_roundw
                case rel => exact ⟨k + 1, q + 1, by omega, by omega, by go_num, by go_num, HR2, (fun h => absurd h (by omega)), HS, hrow2, hW2⟩
                case measure => simp [intOf]; omega
              · rw [Bool.eq_false_iff.2 hv] at V
                have H : Hid (¬ Right ks) := no.out fun h => hv ((right_succ HK.out).1 h).2.2.2.2
                clear he RX RW NX no hs hv hx
                go_wp2
                go_quiet (fail)
                go_wp2_with (go_at_call 32; (with_reducible refine (V.out _).mono ?_); rintro e u1 ⟨rfl, hb1⟩; have hW1 := (hdr nq).2.trans (hb1.mono (hdr nq).2.size))
                go_ret
                exact ⟨hW1, .inr ⟨H.out, rfl⟩⟩
            · have f0 : decide ((4096 : Int) < (x.text.size : Int)) = true := decide_eq_true (by omega)
              have H : Hid (¬ Right ks) := no.out fun h => hs ((right_succ HK.out).1 h).2.2.2.1
              clear he RX RW NX no hs hx VX
              go_wp2
              go_quiet (fail)
              go_wp2
              go_ret
              exact ⟨(hdr _).2, .inr ⟨H.out, rfl⟩⟩
          · have hq : (wrap64 ((namesT[q]'hlq).toNat : Int) != x.name) = true := by rw [hb]; simpa using he
            have HN2 : Hid (∀ j, p ≤ j → j < q + 1 → nm j ≠ x.name) := fun j h1 hj => by
              rcases Nat.lt_or_eq_of_le (Nat.lt_succ_iff.1 hj) with h | rfl
              · exact HN.out j h1 h
              · exact he
            dsimp only [namesT] at hq hsz
            clear hb he HN hx VX RX RW NX
            go_wp2
            go_quiet (fail)
            go_wp2
            go_roundw
            case rel => exact ⟨q + 1, by omega, by omega, by go_num, HN2, (hdr _).1, (hdr _).2⟩
            case measure => simp [intOf]; omega
        · obtain rfl : q = 38 := by omega
          have H : Hid (¬ Right ks) := no.out fun h => by
            obtain ⟨s, h1, h2, h3⟩ := NX.out h
            exact HN.out s h1 h2 h3
          clear hx VX RX RW NX HN no
          go_wp2
          go_quiet (fail)
          go_wp2
          go_ret
          exact ⟨(hdr _).2, .inr ⟨H.out, rfl⟩⟩
    · have H : Hid (Right ks) := by
        have := HR.out
        rw [List.take_of_length_le (by omega)] at this
        exact this
      rw [List.take_of_length_le (by omega)] at hrow
      clear hx
      go_wp2
      go_ret
      exact ⟨hW, .inl ⟨H.out, m, rfl, hrow, by omega⟩⟩
end Go.Proofs.Ytopplkfbnpamdaa
