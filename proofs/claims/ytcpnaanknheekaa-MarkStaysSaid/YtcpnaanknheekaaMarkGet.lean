/-
  Where a mark is, and the marks ahead of a name and behind it, as package mark tells it.
-/
import Derived.Test.YtcpnaanknheekaaMarkFind
namespace Go.Proofs.Ytcpnaanknheekaa
open Go.RowKit
open Mrk
namespace Mrk
/-- Where there is a mark of a name, it stands at its place. -/
theorem has_at {ks : List Mk} (h : Right ks) {n : Int} (hh : has ks n = true) : ∃ x, ks[cnt ks n]? = some x ∧ get ks n = (x.at_, true) ∧ ks.drop (cnt ks n + 1) = behind ks n := by
  rcases at_cnt h.2 n with ⟨x, h1, _, h3, h4⟩ | ⟨_, h2, _⟩
  · exact ⟨x, h1, get_some h h3, h4⟩
  · rw [has, h2] at hh; cases hh
theorem has_not {ks : List Mk} (h : Right ks) {n : Int} (hh : has ks n = false) : get ks n = (0, false) ∧ ks.drop (cnt ks n) = behind ks n := by
  rcases at_cnt h.2 n with ⟨x, _, _, h3, _⟩ | ⟨_, h2, h3⟩
  · rw [has, h3] at hh; cases hh
  · exact ⟨get_none h2, h3⟩
end Mrk
theorem mark_find (n : Int) {A : Option Addr} {c : Nat} {ks : List Mk} {w : World} (hx : Mks w A ks) (hp : Right ks) :
    Calls Try.prog 25 #[.slice A ks.length c, .int .i64 n] w fun e w' => e = .returned (.tuple #[.int .i64 (cnt ks n : Nat), .bool (has ks n)]) ∧ Below w.heap.size w w' := by
  have C := Lib.hid (sl_search n (c := c) hx hp.2 (by have := hp.length_le; omega))
  clear hx hp
  go_enter Try.func25, Try.ntmps25
  go_wp2_with (go_at_call 28; refine C.out.mono ?_; rintro e w1 ⟨rfl, hb1⟩)
  go_ret2
  exact ⟨rfl, hb1⟩
set_option maxHeartbeats 1000000 in
set_option maxRecDepth 100000 in
theorem mark_Get (n : Int) {A : Option Addr} {c : Nat} {ks : List Mk} {w : World} (hx : Mks w A ks) (hm : ks.length ≤ maxLen) :
    Calls Try.prog 9 #[.slice A ks.length c, .int .i64 n] w fun e w' => e = .returned (.tuple #[.int .i64 (get ks n).1, .bool (get ks n).2]) ∧ Below w.heap.size w w' := by
  have R := Lib.hid (mark_Right (c := c) hx hm)
  by_cases hR : Right ks
  · rw [decide_eq_true hR] at R
    have F : Hid (∀ u, Below w.heap.size w u → Calls Try.prog 25 #[.slice A ks.length c, .int .i64 n] u fun e w' => e = .returned (.tuple #[.int .i64 (cnt ks n : Nat), .bool (has ks n)]) ∧ Below u.heap.size u w') := fun u hu => mark_find n (hx.below hu) hR
    cases hh : has ks n with
    | true =>
      rw [hh] at F
      obtain ⟨x, hkx, hg, _⟩ := has_at hR hh
      have hlt : cnt ks n < ks.length := (List.getElem?_eq_some_iff.1 hkx).1
      have CC : Hid (∀ u, Below w.heap.size w u → ∃ b off, A = some ⟨b, off, none⟩ ∧ b < w.heap.size ∧ u.cell? ⟨b, off + cnt ks n * 2, none⟩ = some (.int .i64 x.name) ∧ u.cell? ⟨b, off + cnt ks n * 2 + 1, none⟩ = some (.int .i64 x.at_)) := fun u hu => hx.at_ hu (Nat.le_refl _) hkx
      have H := Lib.hid hg
      generalize cnt ks n = i at *
      have hi : (i : Int) < ks.length := by omega
      clear hkx hx hR hh hg hm
      go_enter Try.func9, Try.ntmps9
      go_wp2_with (first
        | (go_at_call 11; refine R.out.mono ?_; rintro e w1 ⟨rfl, hb1⟩)
        | (go_at_call 25; refine (F.out _ hb1).mono ?_; rintro e w2 ⟨rfl, hb2⟩; have hW2 := hb1.trans (hb2.mono hb1.size); obtain ⟨b, off, rfl, hbw, c0, c1⟩ := CC.out _ hW2))
      go_ret2
      exact ⟨by rw [H.out]; rfl, hW2⟩
    | false =>
      rw [hh] at F
      have H := Lib.hid (has_not hR hh).1
      clear hx hR hh hm
      go_enter Try.func9, Try.ntmps9
      go_wp2_with (first
        | (go_at_call 11; refine R.out.mono ?_; rintro e w1 ⟨rfl, hb1⟩)
        | (go_at_call 25; refine (F.out _ hb1).mono ?_; rintro e w2 ⟨rfl, hb2⟩))
      go_ret2
      exact ⟨by rw [H.out]; rfl, hb1.trans (hb2.mono hb1.size)⟩
  · rw [decide_eq_false hR] at R
    have H := Lib.hid (get_not (n := n) hR)
    clear hx hR hm
    go_enter Try.func9, Try.ntmps9
    go_wp2_with (go_at_call 11; refine R.out.mono ?_; rintro e w1 ⟨rfl, hb1⟩)
    go_ret2
    exact ⟨by rw [H.out]; rfl, hb1⟩
/-- An answer of two parts of marks. -/
def AroundIs (ks : List Mk) (n : Int) (w : World) (e : Ending) (w' : World) : Prop := ∃ B1 c1 B2 c2, e = .returned (.tuple #[.slice B1 (Mrk.ahead ks n).length c1, .slice B2 (behind ks n).length c2]) ∧ Mks w' B1 (Mrk.ahead ks n) ∧ Mks w' B2 (behind ks n) ∧ Below w.heap.size w w'
set_option maxHeartbeats 1000000 in
set_option maxRecDepth 100000 in
theorem mark_around (n : Int) {A : Option Addr} {c : Nat} {ks : List Mk} {w : World} (hx : Mks w A ks) (hp : Right ks) (hc : ks.length ≤ c) :
    Calls Try.prog 23 #[.slice A ks.length c, .int .i64 n] w (AroundIs ks n w) := by
  have F := Lib.hid (mark_find n (c := c) hx hp)
  have h26 := hp.length_le
  have hle := cnt_le ks n
  have ha := (split hp.2 n).1
  have hla : (Mrk.ahead ks n).length = cnt ks n := by rw [← ha, List.length_take]; omega
  have D1 : Hid (∀ u, Below w.heap.size w u → Mks u A (Mrk.ahead ks n)) := fun u hu => by rw [← ha]; exact (hx.below hu).take _
  cases hh : has ks n with
  | true =>
    rw [hh] at F
    obtain ⟨x, hkx, _, hb⟩ := has_at hp hh
    have hlt : cnt ks n < ks.length := (List.getElem?_eq_some_iff.1 hkx).1
    have hlb : (behind ks n).length = ks.length - cnt ks n - 1 := by rw [← hb, List.length_drop]; omega
    have HL := Lib.hid (And.intro hla hlb)
    obtain ⟨b, off, rfl, _, _⟩ := hx (by omega)
    have D2 : Hid (∀ u, Below w.heap.size w u → Mks u (some ⟨b, off + cnt ks n * 2 + 2, none⟩) (behind ks n)) := fun u hu => by
      have := (hx.below hu).drop (cnt ks n + 1) (c := ks.length + cnt ks n + 2) (by omega)
      rw [hb, if_neg (by omega), Option.map_some, add_plain, show off + (cnt ks n + 1) * 2 = off + cnt ks n * 2 + 2 by omega] at this
      exact this
    clear hkx hh ha hb hla hlb hx hp
    generalize cnt ks n = i at *
    have hci : ¬ (c = i) := by omega
    by_cases h1 : c - i = 1
    · have HN : Hid (behind ks n = []) := List.eq_nil_of_length_eq_zero (by rw [HL.out.2]; omega)
      go_enter Try.func23, Try.ntmps23
      go_wp2_with (go_at_call 25; refine F.out.mono ?_; rintro e w1 ⟨rfl, hb1⟩)
      go_quiet (fail)
      go_wp2
      go_ret2
      have hW := hb1.trans ((below_gb (gb_drewN w1 nq none)).mono hb1.size)
      exact ⟨_, _, _, _, by rw [HL.out.1, HL.out.2]; rfl, D1.out _ hW, by rw [HN.out]; exact Mks.nil _ _, hW⟩
    · go_enter Try.func23, Try.ntmps23
      go_wp2_with (go_at_call 25; refine F.out.mono ?_; rintro e w1 ⟨rfl, hb1⟩)
      go_quiet (fail)
      go_wp2
      go_ret2
      have hW := hb1.trans ((below_gb (gb_drewN w1 nq none)).mono hb1.size)
      exact ⟨_, _, _, _, by rw [HL.out.1, HL.out.2]; rfl, D1.out _ hW, D2.out _ hW, hW⟩
  | false =>
    rw [hh] at F
    obtain ⟨_, hb⟩ := has_not hp hh
    have hlb : (behind ks n).length = ks.length - cnt ks n := by rw [← hb, List.length_drop]
    have HL := Lib.hid (And.intro hla hlb)
    have D2 : Hid (∀ u, Below w.heap.size w u → Mks u (A.map (fun x => x.add (cnt ks n * 2))) (behind ks n)) := fun u hu => by
      have := (hx.below hu).drop (cnt ks n) (c := ks.length + cnt ks n + 2) (by omega)
      rw [hb, if_neg (by omega)] at this
      exact this
    clear hh ha hb hla hlb hx hp
    generalize cnt ks n = i at *
    by_cases h1 : c = i
    · have HN : Hid (behind ks n = []) := List.eq_nil_of_length_eq_zero (by rw [HL.out.2]; omega)
      subst h1
      go_enter Try.func23, Try.ntmps23
      go_wp2_with (go_at_call 25; refine F.out.mono ?_; rintro e w1 ⟨rfl, hb1⟩)
      go_quiet (fail)
      go_wp2
      go_ret2
      have hW := hb1.trans ((below_gb (gb_drewN w1 nq none)).mono hb1.size)
      exact ⟨_, _, _, _, by rw [HL.out.1, HN.out]; rfl, D1.out _ hW, by rw [HN.out]; exact Mks.nil _ _, hW⟩
    · go_enter Try.func23, Try.ntmps23
      go_wp2_with (go_at_call 25; refine F.out.mono ?_; rintro e w1 ⟨rfl, hb1⟩)
      go_quiet (fail)
      go_wp2
      go_ret2
      have hW := hb1.trans ((below_gb (gb_drewN w1 nq none)).mono hb1.size)
      exact ⟨_, _, _, _, by rw [HL.out.1, HL.out.2]; rfl, D1.out _ hW, D2.out _ hW, hW⟩
end Go.Proofs.Ytcpnaanknheekaa
