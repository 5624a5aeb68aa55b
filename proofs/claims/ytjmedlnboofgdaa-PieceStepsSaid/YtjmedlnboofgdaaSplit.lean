/-
  A piece is made to begin at an offset: split.
-/
import Derived.Test.YtjmedlnboofgdaaPart
import Derived.Test.YtjmedlnboofgdaaReplaceAll
import Derived.Deep.RegionWith
namespace Go.Proofs.Ytjmedlnboofgdaa
open Go.RowKit
open Pc
set_option maxHeartbeats 2000000 in
set_option maxRecDepth 100000 in
theorem tab_split {B p a : Nat} {ps : List (List UInt8)} {w : World} (hB : B ≤ w.heap.size) (hT : Tab B p ps a w) (x : Nat) (hx : x ≤ ps.flatten.length) (hl : ps.flatten.length ≤ 140737488355328) (hn : ps.length ≤ 1000000) :
    Calls Try.prog 31 #[.pointer (some ⟨p, 0, none⟩), .int .i64 x] w fun e w' => ∃ (k : Nat) (ps' : List (List UInt8)), e = .returned (.int .i64 k) ∧ Hid (Parted ps x ps' k) ∧ Tab B p ps' a w' ∧ Keeps B w w' := by
  obtain ⟨vp, va, us, xs, h⟩ := hT
  have F := tab_find (tab_looks h.self) h.rows (fun k l hk => by obtain ⟨u, h1, g, off, rfl, _⟩ := h.each k l hk; exact ⟨g, off, h1⟩) x (by omega) (by omega) (by omega)
  have H := Lib.hid h
  have HX := Lib.hid hx
  have HP := Lib.hid h.self
  clear h hx
  go_enter Try.func31, Try.ntmps31
  go_wp2_with fail
  refine F.mono ?_
  rintro e w1 ⟨k, ah, rfl, hka, hb⟩
  clear F
  rcases Nat.eq_zero_or_pos ah with h0 | h0
  · subst h0
    have hP : Hid (Parted ps x ps k) := by
      rcases hka.out with ⟨l, h1, h2, h3⟩ | ⟨h1, _, h3⟩
      · exact parted_same H.out.full (by have := (List.getElem?_eq_some_iff.1 h1).1; omega) h3
      · refine parted_same H.out.full (by omega) ?_
        have := HX.out
        rw [h1, pre_all (Nat.le_refl _)] at h3 ⊢
        omega
    clear hka
    go_wp2
    go_ret
    exact ⟨k, ps, rfl, hP, Tab.below ⟨vp, va, us, xs, H.out⟩ hb, Keeps.of_below hB hb⟩
  · obtain ⟨l, h1, h2, h3⟩ : ∃ l, ps[k]? = some l ∧ ah < l.length ∧ x = pre ps k + ah := by
      rcases hka.out with h | ⟨_, h, _⟩
      · exact h
      · omega
    have hkl := (List.getElem?_eq_some_iff.1 h1).1
    obtain ⟨u, e1, g', off, rfl, hby, hfr⟩ := H.out.each k l h1
    obtain ⟨A, c, rfl⟩ := own_shape H.out.rows
    obtain ⟨g, hA⟩ : ∃ g, A = some ⟨g, 0, none⟩ := by
      rcases H.out.rows.2 with ⟨_, e⟩ | ⟨g, cap, cur, he, _⟩
      · omega
      · injection he with e; exact ⟨g, e⟩
    subst hA
    obtain ⟨hbg, hnc, hcm, hul, cur, hrow, hcl, hct⟩ := row_of_own H.out.rows
    have cG := (Below.cell hb (p := ⟨g, k, none⟩) (Blk.lt (w := w) hrow)).trans (row_cell hrow hct e1)
    have hp1 := HP.out.below hb HP.out.lt
    have cP := hp1.cell 1
    simp at cP
    have hll : l.length ≤ 140737488355328 := by have := pre_succ h1; have := pre_le ps (k + 1); omega
    have P1 := fun u => pc_part g' off l.length l.length 0 ah u h0 (by omega)
    rw [show ((0 : Nat) : Int) = 0 from rfl, Nat.add_zero, Nat.sub_zero] at P1
    have Q1 := Lib.hid P1
    have Q2 := Lib.hid (fun u => pc_part g' off l.length l.length ah l.length u h2 (Nat.le_refl _))
    have hps := split1_length (a := ah) h1
    have CP : Hid (∀ u, Below w1.heap.size w1 u → u.cell? ⟨p, 1, none⟩ = some (.slice (some ⟨g, 0, none⟩) ps.length c)) := fun u hu => by
      have := (hp1.below hu hp1.lt).cell 1
      simpa using this
    have R : Hid (∀ u, Below w1.heap.size w1 u → Calls Try.prog 33 #[.slice (some ⟨g, 0, none⟩) ps.length c, .int .i64 k, .int .i64 ((k : Int) + 1), .slice (some ⟨u.heap.size, 0, none⟩) 2 2] (u.alloc (.cells #[.slice (some ⟨g', off, none⟩) ah ah, .slice (some ⟨g', off + ah, none⟩) (l.length - ah) (l.length - ah)] 50)) fun e w' =>
        ∃ v', e = .returned v' ∧ w'.ownsRow B 50 1 v' (split1 ps k ah l).length (us.take k ++ ([.slice (some ⟨g', off, none⟩) ah ah, .slice (some ⟨g', off + ah, none⟩) (l.length - ah) (l.length - ah)] ++ us.drop (k + 1))) ∧ w.grownBy w' (some g)) := fun u hu => by
      have hw : Below w.heap.size w u := hb.trans (hu.mono hb.size)
      have hwa : w.grownBy (u.alloc (.cells #[Value.slice (some ⟨g', off, none⟩) ah ah, .slice (some ⟨g', off + ah, none⟩) (l.length - ah) (l.length - ah)] 50)) none := gb_trans (gb_below none hw) (World.grownBy_alloc _ _ _)
      have S := sl_replace k (k + 1) u.heap.size 2 2 [.slice (some ⟨g', off, none⟩) ah ah, .slice (some ⟨g', off + ah, none⟩) (l.length - ah) (l.length - ah)] [.slice (some ⟨g', off, none⟩) ah ah, .slice (some ⟨g', off + ah, none⟩) (l.length - ah) (l.length - ah)]
        (u.alloc (.cells #[.slice (some ⟨g', off, none⟩) ah ah, .slice (some ⟨g', off + ah, none⟩) (l.length - ah) (l.length - ah)] 50)) (by have := hwa.size; omega) (H.out.rows.kept hwa (Or.inr (by simp [Value.ownBlock]))) (by omega) (by omega) (by omega) (by omega)
        (by have := Blk.lt (w := w) hrow; have := hw.size; simp [Value.ownBlock]; omega) (Blk.new u _ _) (Nat.le_refl _) rfl H.out.one_cell (by intro v hv; simp at hv; rcases hv with rfl | rfl <;> rfl)
      rw [show ((k + 1 : Nat) : Int) = (k : Int) + 1 by omega, show k + 2 + (ps.length - (k + 1)) = (split1 ps k ah l).length by omega] at S
      refine S.mono ?_
      rintro e w' ⟨v', rfl, ho, hg⟩
      exact ⟨v', rfl, ho, gb_trans (gb_none (some g) hwa) hg⟩
    have FIN : Hid (∀ v' w5, w5.ownsRow B 50 1 v' (split1 ps k ah l).length (us.take k ++ ([.slice (some ⟨g', off, none⟩) ah ah, .slice (some ⟨g', off + ah, none⟩) (l.length - ah) (l.length - ah)] ++ us.drop (k + 1))) → w.grownBy w5 (some g) →
        w5.cell? ⟨p, 1, none⟩ = some (.slice (some ⟨g, 0, none⟩) ps.length c) ∧ w5.frozen? ⟨p, 1, none⟩ = false ∧ Hid (Parted ps x (split1 ps k ah l) (k + 1)) ∧ Hid (Tab B p (split1 ps k ah l) a (w5.setCell ⟨p, 1, none⟩ v')) ∧ Hid (Keeps B w (w5.setCell ⟨p, 1, none⟩ v'))) := fun v' w5 ho hg => by
      obtain ⟨k1, _, k3⟩ := H.out.loose hg
      have hc := k1.cell 1
      simp at hc
      refine ⟨hc, k1.frozen 1, parted_cut H.out.full h1 h0 h2 h3, ⟨v', va, _, xs, H.out.put1 hg ho ?_ ?_ (by rw [split1_flat h1])⟩, (Keeps.of_own hB H.out.rows (Or.inr (Or.inl rfl)) hg).trans (Keeps.of_row (by have := hg.size; omega) H.out.low k1 (Or.inl rfl) rfl (gb_set _ p 1 _))⟩
      · intro l' hl'
        rw [split1, List.mem_append, List.mem_append] at hl'
        rcases hl' with hl' | hl' | hl'
        · exact H.out.full l' (List.mem_of_mem_take hl')
        · simp at hl'
          rcases hl' with rfl | rfl
          · exact fun e => by have := congrArg List.length e; rw [List.length_take, List.length_nil] at this; omega
          · exact fun e => by have := congrArg List.length e; rw [List.length_drop, List.length_nil] at this; omega
        · exact H.out.full l' (List.mem_of_mem_drop hl')
      · have hby5 : BytesAt w5 g' off l := hby.grown hg (by obtain ⟨cs, fr, e, _⟩ := hby; exact H.out.rows_ne e (by decide))
        refine get3 (by omega) rfl (by omega) k3 fun q l' hq => ?_
        match q, hq with
        | 0, hq =>
          simp at hq
          subst hq
          have := PieceAt.part hby5 hfr 0 ah (by omega)
          exact ⟨_, rfl, by simpa using this⟩
        | 1, hq =>
          simp at hq
          subst hq
          have := PieceAt.part hby5 hfr ah (l.length - ah) (by omega)
          rw [List.take_of_length_le (by rw [List.length_drop]; exact Nat.le_refl _)] at this
          exact ⟨_, rfl, this⟩
    have hneq : ¬ (ah = 0) := by omega
    have hwk : IntKind.i64.wrap ((k : Int) + 1) = (k : Int) + 1 := by rw [IntKind.wrap_i64]; omega
    have hlt1 := hp1.lt
    clear hka h1 h3 e1 hby hfr hbg hcm hul hrow hcl hct HX hps P1 HP hp1
    go_wp2
    have hW : Below w1.heap.size w1 w1.drew := (Below.refl _ _).drew
    go_region_with (first
      | (go_at_call 23; with_reducible refine (Q1.out _).mono ?_; rintro e w2 ⟨rfl, hb2⟩; replace hW := hW.trans (hb2.mono hW.size); have cP2 := CP.out _ hW; have lP2 := Nat.lt_of_lt_of_le hlt1 hW.size)
      | (go_at_call 23; with_reducible refine (Q2.out _).mono ?_; rintro e w2 ⟨rfl, hb2⟩; replace hW := hW.trans (hb2.mono hW.size); have cP2 := CP.out _ hW; have lP2 := Nat.lt_of_lt_of_le hlt1 hW.size)
      | (go_at_call 33; refine (R.out _ hW).mono ?_; rintro e w5 ⟨v', rfl, ho, hg⟩; obtain ⟨cP5, zP5, k1, k2, k3⟩ := FIN.out v' w5 ho hg; obtain ⟨a5, c5, rfl⟩ := own_shape ho))
    all_goals
      go_wp2
      go_ret
      exact ⟨k + 1, _, rfl, k1, k2.out, k3.out⟩
end Go.Proofs.Ytjmedlnboofgdaa
