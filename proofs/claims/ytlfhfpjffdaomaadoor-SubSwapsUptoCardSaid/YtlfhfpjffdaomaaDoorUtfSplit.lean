/-
  The document's places of any bytes.
-/
import Derived.Test.YtlfhfpjffdaomaaDoorUtfIs
import Derived.Test.YtlfhfpjffdaomaaDoorUtfPlaces
import Derived.Test.YtlfhfpjffdaomaaDoorInts
namespace Go.Proofs.YtlfhfpjffdaomaaDoor
open Go.RowKit
open Utf
theorem split_none {l : List UInt8} {done : List (List UInt8)} {p : Nat} (h : dec l = (dec (l.drop p)).map (done ++ ·)) (hp : p < l.length) (hn : ∀ m, 0 < m → m < 5 → ¬ (m ≤ l.length - p ∧ m = siz (l.drop p))) : places l = [] := by
  have h4 := siz_le (l.drop p)
  have h1 : dec (l.drop p) = none := dec_bad (by intro h1; have := congrArg List.length h1; simp at this; omega) (by
    rw [List.length_drop]
    rcases Nat.eq_zero_or_pos (siz (l.drop p)) with h0 | h0
    · exact Or.inl h0
    · have := hn _ h0 (by omega)
      omega)
  rw [h1] at h
  exact places_none h
theorem split_one {l : List UInt8} {done : List (List UInt8)} {p k : Nat} (h : dec l = (dec (l.drop p)).map (done ++ ·)) (h0 : 0 < k) (hk : k ≤ l.length - p) (hs : k = siz (l.drop p)) :
    dec l = (dec (l.drop (p + k))).map ((done ++ [(l.drop p).take k]) ++ ·) := by
  have h1 := dec_one ((l.drop p).drop k) (r := (l.drop p).take k) (by rw [hs]; exact one_take (by omega) (by rw [List.length_drop]; omega))
  rw [List.take_append_drop, List.drop_drop] at h1
  rw [h, h1]
  cases dec (l.drop (p + k)) <;> simp
theorem split_end {l : List UInt8} {done : List (List UInt8)} {p : Nat} (h : dec l = (dec (l.drop p)).map (done ++ ·)) (hp : l.length ≤ p) : places l = pl 0 done := by
  rw [List.drop_eq_nil_of_le hp, dec_nil] at h
  simpa using places_some h
theorem append_one_cell (w : World) (t : TypeId) (v : Value) (j : Nat) (u : Value) (h : [v][j]? = some u) : (w.alloc (.cells #[v] t)).cell? ((⟨w.heap.size, 0, none⟩ : Addr).add j) = some u := by
  have hb := Blk.new w t #[v]
  have e : (⟨w.heap.size, 0, none⟩ : Addr).add j = ⟨w.heap.size, j, none⟩ := by unfold Addr.add; split <;> simp_all
  rw [e, hb.cell]
  match j, h with
  | 0, h => simpa using h
theorem own_below {w w' : World} {base : Nat} {e : TypeId} {size n : Nat} {v : Value} {xs : List Value} (h : w.ownsRow base e size v n xs) (hb : Below w.heap.size w w') : w'.ownsRow base e size v n xs :=
  h.kept (gb_below (some w.heap.size) hb) (Or.inr (fun he => by have := (h.lt _ he).2; omega))
set_option maxHeartbeats 1000000 in
set_option maxRecDepth 100000 in
theorem ref_Split (s : ByteArray) (hs : s.size ≤ 17592186044000) (w : World) :
    Calls Tryd.prog 59 #[.string s] w fun e w' => GotInts w.heap.size (places s.data.toList) e w' ∧ Below w.heap.size w w' := by
  have hl : s.data.toList.length = s.size := by simp
  obtain ⟨R, HR⟩ : ∃ R, Hid (places s.data.toList = R) := ⟨_, rfl⟩
  rw [HR.out]
  obtain ⟨i0, hi, hz0, hz1, hz2⟩ := info_parts info_int
  go_enter Tryd.func59, Tryd.ntmps59
  go_wp2_with fail
  go_loopw [3, 4, 5] (fun v x _ wr => ∃ (a : Option Addr) (c : Nat) (done : List (List UInt8)) (p : Nat), v = .slice a (pl 0 done).length c ∧ wr.ownsRow w.heap.size 3 1 v (pl 0 done).length ((pl 0 done).map (Value.int .i64)) ∧ x = .int .i64 p ∧ Hid (p = done.flatten.length) ∧ p ≤ s.size ∧ done.length ≤ p ∧ Hid (dec s.data.toList = (dec (s.data.toList.drop p)).map (done ++ ·)) ∧ Below w.heap.size w wr)
    (fun _ x _ _ => s.size - (intOf x).toNat)
  case atStart => exact ⟨_, 1, [], 0, rfl, World.ownsRow_lit w #[.int .i64 0] 1 (Nat.le_refl _) (by decide) rfl, rfl, rfl, Nat.zero_le _, Nat.le_refl _, by show _ = _; simp, (Below.refl _ _).alloc (Nat.le_refl _) _⟩
  case round =>
    obtain ⟨a, c, done, p, rfl, hown, rfl, hpd, hp, hdl, K, hb⟩ := hrel
    rcases Nat.lt_or_ge p s.size with hlt | hge
    · go_wp2_with fail
      go_loopw [5] (fun x w2 => ∃ k : Nat, 0 < k ∧ k ≤ 5 ∧ x = .int .i64 k ∧ Hid (∀ m, 0 < m → m < k → ¬ (m ≤ s.data.toList.length - p ∧ m = siz (s.data.toList.drop p))) ∧ Below wr.heap.size wr w2) (fun x _ => 5 - (intOf x).toNat)
      case atStart => exact ⟨1, by omega, by omega, rfl, fun m h1 h2 => absurd h1 (by omega), Below.refl _ _⟩
      case round =>
        obtain ⟨k, hk0, hk5, rfl, N, hb2⟩ := hrel
        rcases Nat.lt_or_ge 4 k with h5 | h5
        · have H : Hid (R = []) := by
            show _ = _
            rw [← HR.out]
            exact split_none K.out (by omega) (fun m h1 h2 => N.out m h1 (by omega))
          clear N K hpd
          go_wp2
          go_ret
          rw [H.out]
          exact ⟨gotInts_nil _ _, hb.trans (hb2.mono hb.size)⟩
        · rcases Nat.lt_or_ge s.size (p + k) with h6 | h6
          · have N2 : Hid (∀ m, 0 < m → m < k + 1 → ¬ (m ≤ s.data.toList.length - p ∧ m = siz (s.data.toList.drop p))) := fun m h1 h2 h3 => by
              rcases Nat.lt_or_ge m k with h7 | h7
              · exact N.out m h1 h7 h3
              · omega
            clear N K hpd
            go_wp2
            go_roundw
            case rel => exact ⟨k + 1, by omega, by omega, by go_num, N2, hb2⟩
            case measure => simp [intOf]; omega
          · have e1 : s.extract p (p + k) = bs ((s.data.toList.drop p).take k) := by
              rw [Lib.extract_eq, show p + k - p = k by omega]; rfl
            have c1 := Lib.hid (fun w => ref_Is (s.extract p (p + k)) w)
            have h7 := one_of_take (s := s.data.toList.drop p) (n := k) (by rw [List.length_drop]; omega)
            rw [e1, bs_toList, ← e1] at c1
            cases ho : one ((s.data.toList.drop p).take k) with
            | false =>
              rw [ho] at c1 h7
              have N2 : Hid (∀ m, 0 < m → m < k + 1 → ¬ (m ≤ s.data.toList.length - p ∧ m = siz (s.data.toList.drop p))) := fun m h1 h2 h3 => by
                rcases Nat.lt_or_ge m k with h8 | h8
                · exact N.out m h1 h8 h3
                · have := h7.2 ⟨by omega, by omega⟩
                  cases this
              clear N K hpd e1 h7 ho
              go_wp2_with (go_at_call 72; refine (c1.out _).mono ?_; rintro e w3 ⟨rfl, hb3⟩)
              go_roundw
              case rel => exact ⟨k + 1, by omega, by omega, by go_num, N2, hb2.trans (hb3.mono hb2.size)⟩
              case measure => simp [intOf]; omega
            | true =>
              rw [ho] at c1
              have K2 := Lib.hid (split_one K.out hk0 (by omega) (h7.1 ho).2)
              have P2 : Hid (p + k = (done ++ [(s.data.toList.drop p).take k]).flatten.length) := by
                show _ = _
                rw [List.flatten_append, List.length_append, ← hpd.out]
                simp; omega
              have hsn := Lib.hid (pl_snoc 0 done ((s.data.toList.drop p).take k))
              have hsl : Hid (((s.data.toList.drop p).take k).length = k) := by show _ = _; rw [List.length_take, List.length_drop]; omega
              clear N K e1 h7 ho
              generalize (s.data.toList.drop p).take k = r at *
              have hpl := Lib.hid (pl_length 0 done)
              have hown2 := own_below hown hb2
              have hbb := hb.trans (hb2.mono hb.size)
              clear hown hb hb2
              go_wp2_with (first
                | (go_at_call 72; refine (c1.out _).mono ?_; rintro e w3 ⟨rfl, hb3⟩; have hown3 := own_below hown2 hb3; have hR := hbb.trans (hb3.mono hbb.size))
                | (at_builtin; refine wpList_append_own _ rfl _ _ 83 rfl w.heap.size 3 i0 (.int .i64 0) 1 8 Tryd.underlying83 hi hz0 hz1 hz2 rfl (by decide) _ _ _ rfl (hown3.alloc _) ⟨w3.heap.size, 0, none⟩ 1 1 [.int .i64 ((p : Int) + k)] rfl rfl ?c1 ?c2 ?c3 ?c4 ?c5 ?_))
              case c1 => exact append_one_cell _ _ _
              case c2 => intro u hu; simp at hu; subst hu; rfl
              case c3 => have := hpl.out; unfold maxLen; omega
              case c4 => first | omega | (have := hpl.out; omega)
              case c5 => have := hR.size; simp; omega
              intro v' w4 hown' hgrow _
              have hR4 : Below w.heap.size w w4 := (hR.alloc hR.size _).grown hgrow (by have := hR.size; simp; omega) (fun g hg => (hown3.lt g hg).1)
              have hown4 : w4.ownsRow w.heap.size 3 1 v' (pl 0 (done ++ [r])).length ((pl 0 (done ++ [r])).map (Value.int .i64)) := by
                rw [hsn.out]
                rw [show ((0 + done.flatten.length + r.length : Nat) : Int) = (p : Int) + k by have := hpd.out; have := hsl.out; omega]
                simpa using hown'
              obtain ⟨a', c', hv'⟩ := own_shape hown4
              clear hown' hgrow hown2 hown3 hR hbb hb3 hsn hpd hsl
              subst hv'
              go_wp2
              go_roundw
              case rel => exact ⟨a', c', done ++ [r], p + k, rfl, hown4, by go_num, P2, by omega, by simp; omega, K2, hR4⟩
              case measure => simp [intOf]; omega
    · have H : Hid (R = pl 0 done) := by show _ = _; rw [← HR.out]; exact split_end K.out (by omega)
      clear K
      go_wp2
      go_ret
      exact ⟨⟨_, rfl, by rw [H.out]; exact hown⟩, hb⟩
end Go.Proofs.YtlfhfpjffdaomaaDoor
