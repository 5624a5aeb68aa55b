/-
  What undoes changes made at once, as package batch tells it.
-/
import Derived.Test.YtdnphdkiedkemaaBatchRight
import Derived.WalkLawsBesides
namespace Go.Proofs.Ytdnphdkiedkemaa
open Go.RowKit
open Utf Chg Btc
namespace Btc
/-- The cells of changes, one behind the other. -/
def rows (l : List Cg) : List Value := l.flatMap fun k => [.int .i64 k.at_, .string k.old, .string k.new]
theorem rows_append (a b : List Cg) : rows (a ++ b) = rows a ++ rows b := by simp [rows]
theorem rows_get : ∀ {l : List Cg} {j : Nat} {k : Cg}, l[j]? = some k → (rows l)[j * 3]? = some (.int .i64 k.at_) ∧ (rows l)[j * 3 + 1]? = some (.string k.old) ∧ (rows l)[j * 3 + 2]? = some (.string k.new)
  | [], _, _, h => by simp at h
  | x :: r, 0, k, h => by
    simp only [List.getElem?_cons_zero, Option.some.injEq] at h
    subst h
    exact ⟨rfl, rfl, rfl⟩
  | x :: r, j + 1, k, h => by
    have ih := rows_get (l := r) (j := j) (by simpa using h)
    have e : rows (x :: r) = .int .i64 x.at_ :: .string x.old :: .string x.new :: rows r := rfl
    rw [e, show (j + 1) * 3 = j * 3 + 1 + 1 + 1 by omega]
    exact ih
/-- What undoes changes: nothing, if they do not stand in their order. -/
def turns (ks : List Cg) : List Cg := if apart ks = true then turned 0 ks else []
end Btc
theorem info_cg : (Try.prog.info? 30).map (fun i => (i.zero, i.size, i.bytes)) = some (some (.agg #[.int .i64 0, .string ⟨#[]⟩, .string ⟨#[]⟩]), 3, 40) := by kernel_rfl
/-- Changes that the call has laid. -/
theorem own_cgs {w : World} {B : Nat} {e : TypeId} {A : Option Addr} {n c : Nat} {l : List Cg} (h : w.ownsRow B e 3 (.slice A n c) n (rows l)) (hn : l.length = n) : Cgs w A l := fun h0 => by
  rcases h.2 with ⟨_, h1⟩ | ⟨g, cap, cur, hv, _, hh, _⟩
  · omega
  · injection hv with e1 e2 e3
    subst e1
    have hc := h.cells (g := g) rfl
    have hp : ∀ j, (⟨g, 0, none⟩ : Addr).add j = ⟨g, 0 + j, none⟩ := fun j => add_plain g 0 j
    refine ⟨g, 0, rfl, Blk.lt (w := w) hh, fun j k hj => ?_⟩
    obtain ⟨h1, h2, h3⟩ := rows_get hj
    refine ⟨?_, ?_, ?_⟩
    · rw [← hp]; exact hc _ _ h1
    · rw [Nat.add_assoc, ← hp]; exact hc _ _ h2
    · rw [Nat.add_assoc, ← hp]; exact hc _ _ h3
/-- An answer of changes that the call has laid. -/
def TurnIs (l : List Cg) (w : World) (e : Ending) (w' : World) : Prop := ∃ (A : Option Addr) (c : Nat), e = .returned (.slice A l.length c) ∧ Cgs w' A l ∧ Below w.heap.size w w'
set_option maxHeartbeats 2000000 in
set_option maxRecDepth 100000 in
theorem batch_Turn {A : Option Addr} {c : Nat} {ks : List Cg} {w : World} (hx : Cgs w A ks) (hk : ∀ k ∈ ks, -1099511627776 ≤ k.at_ ∧ k.at_ ≤ 1099511627776) (hs : weigh ks ≤ 10000) (hm : ks.length ≤ 1000) :
    Calls Try.prog 9 #[.slice A ks.length c] w (TurnIs (turns ks) w) := by
  have HK := Lib.hid hk
  have O := Lib.hid (batch_ordered (c := c) hx hk (fun k hk => by
    have : k.old.size ≤ weigh ks := by
      obtain ⟨j, hj, rfl⟩ := List.getElem_of_mem hk
      have h2 := weigh_snoc (List.getElem?_eq_getElem hj)
      have h3 := weigh_take ks (j + 1)
      omega
    omega) (by omega))
  clear hk
  cases hap : apart ks with
  | false =>
    have H : Hid (turns ks = []) := by show _ = _; rw [turns, hap]; rfl
    rw [hap] at O
    clear hap hx
    go_enter Try.func9, Try.ntmps9
    go_wp2_with (go_at_call 17; refine O.out.mono ?_; rintro e w1 ⟨rfl, hb1⟩)
    go_ret
    exact ⟨none, 0, by rw [H.out]; rfl, by rw [H.out]; exact fun h => absurd h (by simp), hb1⟩
  | true =>
    have H0 : Hid (turns ks = turned 0 ks) := by show _ = _; rw [turns, hap]; rfl
    obtain ⟨i0, hi, hz0, hz1, hz2⟩ := info_parts info_cg
    rw [hap] at O
    clear hap
    go_enter Try.func9, Try.ntmps9
    go_wp2_with (first
      | (go_at_call 17; refine O.out.mono ?_; rintro e w1 ⟨rfl, hb1⟩)
      | (at_make; refine wpList_make_own _ rfl _ _ 22 rfl w.heap.size 30 i0 _ 3 Try.underlying22 hi hz0 hz1 .i64 .i64 _ ks.length rfl rfl rfl (by rw [hz2]; omega) (by unfold maxLen; omega) hb1.size ?_; intro w2 hown hgrow))
    have hW2 : Below w.heap.size w w2 := hb1.trans ((below_gb hgrow).mono hb1.size)
    clear hb1 hgrow O
    go_wp2
    go_loopw [3, 4, 16] (fun v q i wr => ∃ (k : Nat) (mv : Int) (A' : Option Addr) (c' : Nat), i = .int .i64 k ∧ q = .int .i64 mv ∧ v = .slice A' k c' ∧ k ≤ ks.length ∧ Hid (mv = grow (ks.take k)) ∧ wr.ownsRow w.heap.size 30 3 v k (rows (turned 0 (ks.take k))) ∧ Below w.heap.size w wr) (fun _ _ iv _ => ks.length - (intOf iv).toNat)
    case atStart => exact ⟨0, 0, _, _, rfl, rfl, rfl, Nat.zero_le _, rfl, hown, hW2⟩
    case round =>
      obtain ⟨k, mv, A', c', rfl, rfl, rfl, hkl, hmv, hown, hW⟩ := hrel
      clear hW2
      by_cases hlt : k < ks.length
      · obtain ⟨x, hkx⟩ : ∃ x, ks[k]? = some x := ⟨_, List.getElem?_eq_getElem hlt⟩
        obtain ⟨b, off, rfl, hbw, c0, c1, c2⟩ := hx.at_ hW (Nat.le_refl _) hkx
        have hsn := weigh_snoc hkx
        have htk := weigh_take ks (k + 1)
        have hgw := grow_weigh (ks.take k)
        rw [← hmv.out] at hgw
        obtain ⟨x1, x2⟩ := HK.out x (List.mem_of_getElem? hkx)
        have hgs : Hid (mv + ((x.new.size : Int) - x.old.size) = grow (ks.take (k + 1))) := by show _ = _; rw [grow_snoc hkx, hmv.out]
        have hts : Hid (turned 0 (ks.take (k + 1)) = turned 0 (ks.take k) ++ [⟨x.at_ + mv, x.new, x.old⟩]) := by
          show _ = _
          rw [turned_snoc hkx, ← hmv.out, Int.zero_add]
        have b0 := Blk.new wr 30 #[.int .i64 x.at_, .string x.old, .string x.new]
        have d0 : (wr.alloc (.cells #[.int .i64 x.at_, .string x.old, .string x.new] 30)).cell? ⟨wr.heap.size, 0, none⟩ = some (.int .i64 x.at_) := b0.cell 0
        have d1 : (wr.alloc (.cells #[.int .i64 x.at_, .string x.old, .string x.new] 30)).cell? ⟨wr.heap.size, 1, none⟩ = some (.string x.old) := b0.cell 1
        have d2 : (wr.alloc (.cells #[.int .i64 x.at_, .string x.old, .string x.new] 30)).cell? ⟨wr.heap.size, 2, none⟩ = some (.string x.new) := b0.cell 2
        have T := Lib.hid (fun w => change_Turn x.at_ x.old x.new (by omega) (by omega) w)
        have HX := Lib.hid hx
        clear hkx hx hmv
        have hA5 : Hid (∀ w3, Below (wr.alloc (.cells #[.int .i64 x.at_, .string x.old, .string x.new] 30)).heap.size (wr.alloc (.cells #[.int .i64 x.at_, .string x.old, .string x.new] 30)) w3 → Below wr.heap.size wr ((w3.alloc (.cells #[.int .i64 (x.at_ + mv), .string x.new, .string x.old] 30)).alloc (.cells #[.int .i64 (x.at_ + mv), .string x.new, .string x.old] 30)) ∧ ((w3.alloc (.cells #[.int .i64 (x.at_ + mv), .string x.new, .string x.old] 30)).alloc (.cells #[.int .i64 (x.at_ + mv), .string x.new, .string x.old] 30)).ownsRow w.heap.size 30 3 (Value.slice A' k c') k (rows (turned 0 (ks.take k))) ∧
            Blk ((w3.alloc (.cells #[.int .i64 (x.at_ + mv), .string x.new, .string x.old] 30)).alloc (.cells #[.int .i64 (x.at_ + mv), .string x.new, .string x.old] 30)) wr.heap.size 30 #[.int .i64 x.at_, .string x.old, .string x.new] ∧ Blk ((w3.alloc (.cells #[.int .i64 (x.at_ + mv), .string x.new, .string x.old] 30)).alloc (.cells #[.int .i64 (x.at_ + mv), .string x.new, .string x.old] 30)) (w3.heap.size + 1) 30 #[.int .i64 (x.at_ + mv), .string x.new, .string x.old]) := fun w3 hb3 => by
          have h1 : Below wr.heap.size wr w3 := ((Below.refl _ wr).alloc (Nat.le_refl _) _).trans (hb3.mono (by simp))
          have h5 : Below wr.heap.size wr ((w3.alloc (.cells #[.int .i64 (x.at_ + mv), .string x.new, .string x.old] 30)).alloc (.cells #[.int .i64 (x.at_ + mv), .string x.new, .string x.old] 30)) := (h1.alloc h1.size _).alloc (by have := h1.size; simp; omega) _
          have b7 := Blk.new (w3.alloc (.cells #[.int .i64 (x.at_ + mv), .string x.new, .string x.old] 30)) 30 #[.int .i64 (x.at_ + mv), .string x.new, .string x.old]
          rw [World.size_alloc] at b7
          exact ⟨h5, hown.kept (gb_below none h5) (by cases hv : (Value.slice A' k c').ownBlock <;> simp), ((b0.below hb3 (by simp)).alloc _).alloc _, b7⟩
        have hne : (Value.slice A' k c').ownBlock ≠ some wr.heap.size := fun e => by have := (hown.lt _ e).2; omega
        go_wp2_with (first
          | (go_at_call 18; refine (T.out _).mono ?_; rintro e w3 ⟨rfl, hb3⟩; obtain ⟨h5, hown5, b5, b7⟩ := hA5.out w3 hb3)
          | (at_builtin; refine wpList_append_own _ rfl _ _ 22 rfl w.heap.size 30 i0 _ 3 40 Try.underlying22 hi hz0 hz1 hz2 rfl (by decide) _ _ _ rfl hown5 ⟨w3.heap.size + 1, 0, none⟩ 1 1 [.int .i64 (x.at_ + mv), .string x.new, .string x.old] rfl rfl ?c1 ?c2 ?c3 ?c4 ?c5 ?_))
        case c1 =>
          intro j u hj
          rw [add_plain, Nat.zero_add, b7.cell]
          simpa using hj
        case c2 =>
          intro u hu
          simp only [List.mem_cons, List.not_mem_nil, or_false] at hu
          rcases hu with rfl | rfl | rfl <;> rfl
        case c3 => unfold maxLen; omega
        case c4 => omega
        case c5 => exact Nat.le_trans hW.size h5.size
        intro v' w6 hown6 hgrow6 _
        obtain ⟨a6, cap6, rfl⟩ := own_shape hown6
        have b6 : Blk w6 wr.heap.size 30 #[.int .i64 x.at_, .string x.old, .string x.new] := b5.grown hgrow6 (fun e => hne e.symm)
        have e0 : w6.cell? ⟨wr.heap.size, 0, none⟩ = some (.int .i64 x.at_) := b6.cell 0
        have e1 : w6.cell? ⟨wr.heap.size, 1, none⟩ = some (.string x.old) := b6.cell 1
        have e2 : w6.cell? ⟨wr.heap.size, 2, none⟩ = some (.string x.new) := b6.cell 2
        have hW6 : Below w.heap.size w w6 := (hW.trans (h5.mono hW.size)).grown hgrow6 (Nat.le_trans hW.size h5.size) (fun j hj => (hown5.lt j hj).1)
        have G := Lib.hid (batch_growth (c := 1) (cgs_one w6 x 30) (by simp [weigh]; omega) (by simp))
        have eg : grow [x] = (x.new.size : Int) - x.old.size := by simp [grow]
        rw [eg] at G
        clear hA5 b5 b7 hgrow6 hown5 h5 hb3 T d0 d1 d2 c0 c1 c2
        go_wp2_with (go_at_call 11; refine G.out.mono ?_; rintro e w7 ⟨rfl, hb7⟩)
        have h7 : Below w6.heap.size w6 w7 := ((Below.refl _ w6).alloc (Nat.le_refl _) (.cells #[.int .i64 x.at_, .string x.old, .string x.new] 30)).trans (hb7.mono (by simp))
        have hown7 := hown6.kept (gb_below none h7) (by cases hv : (Value.slice a6 (k + 1) cap6).ownBlock <;> simp)
        go_roundw
        case rel => exact ⟨k + 1, _, _, _, by go_num, by go_num, rfl, by omega, hgs, by rw [hts.out, rows_append]; exact hown7, hW6.trans (h7.mono hW6.size)⟩
        case measure => simp [intOf]; omega
      · have hkl2 : k = ks.length := by omega
        have H : Hid (turns ks = turned 0 (ks.take k)) := by show _ = _; rw [H0.out, hkl2, List.take_length]
        clear hx
        go_wp2
        go_ret
        refine ⟨A', c', ?_, ?_, hW⟩
        · rw [H.out, turned_length, List.length_take, Nat.min_eq_left hkl]; rfl
        · rw [H.out]
          exact own_cgs hown (by rw [turned_length, List.length_take, Nat.min_eq_left hkl])
end Go.Proofs.Ytdnphdkiedkemaa
