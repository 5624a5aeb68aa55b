/-
  slices.Replace at pieces, as two contracts: something is put in; nothing is put in.
-/
import Derived.Test.YtjmedlnboofgdaaReplaceMid
import Derived.Test.YtjmedlnboofgdaaReplaceMid2
namespace Go.Proofs.Ytjmedlnboofgdaa
open Go.RowKit
theorem sl_replace {B : Nat} {v : Value} {n : Nat} {xs : List Value} (i j vb m vc : Nat) (vcur vs : List Value) (w : World) (hB : B ≤ w.heap.size) (hown : w.ownsRow B 50 1 v n xs) (hij : i ≤ j) (hj : j ≤ n) (hm : 0 < m) (hn : n + m ≤ 1000000000000) (hne : v.ownBlock ≠ some vb)
    (hv : w.heap[vb]? = some (.cells vcur.toArray 50 (0, 0))) (hvm : m ≤ vcur.length) (hvx : vcur.take m = vs) (h1x : ∀ v ∈ xs, v.oneCell' = true) (h1v : ∀ v ∈ vs, v.oneCell' = true) :
    Calls Try.prog 33 #[v, .int .i64 i, .int .i64 j, .slice (some ⟨vb, 0, none⟩) m vc] w fun e w' => ∃ v', e = .returned v' ∧ w'.ownsRow B 50 1 v' (i + m + (n - j)) (xs.take i ++ (vs ++ xs.drop j)) ∧ w.grownBy w' v.ownBlock := by
  have hxl : xs.length = n := by have := hown.1; omega
  rcases Nat.lt_or_ge i j with hlt | hge
  · obtain ⟨a, c, rfl⟩ := own_shape hown
    rcases hown.2 with ⟨_, rfl⟩ | ⟨g, cap, cur, he, _⟩
    · omega
    · injection he with e1 e2 e3
      subst e1 e3
      obtain ⟨hbg, hnc, hcm, _, cur, hg, hcl, hct⟩ := row_of_own hown
      have hgv : vb ≠ g := fun e => hne (by simp [Value.ownBlock, e])
      rcases Nat.lt_or_ge j n with hjn | hjn
      · obtain ⟨k, rfl⟩ : ∃ k, n = j + k := ⟨n - j, by omega⟩
        rw [show j + k - j = k by omega]
        rcases Nat.lt_or_ge j (i + m) with hmore | hless
        · rcases Nat.lt_or_ge c (i + m + k) with hroom | hroom
          · refine (rep_mid_grow g j k c i vb m vc cur vcur xs vs w hlt (by omega) hm hnc hroom hmore (by omega) hg hcl hct hv hvm hvx h1x h1v).mono ?_
            rintro e w' ⟨G, R, rfl, k1, k2, k3, k4, k5, k6⟩
            exact ⟨_, rfl, own_of_row (cur := R.toList) hB (by simpa using k3) (by simpa using k4) k1 k2 k5, gb_none _ k6⟩
          · refine (rep_mid_room g j k c i vb m vc cur vcur xs vs w hlt (by omega) hm hnc hroom hmore (by omega) hcm hgv hg hcl hct hv hvm hvx h1x h1v).mono ?_
            rintro e w' ⟨rfl, R, k1, k2, k3, k4⟩
            exact ⟨_, rfl, own_of_row hbg k1 k2 hroom hcm k3, k4⟩
        · refine (rep_mid_shrink g j k c i vb m vc cur vcur xs vs w hlt (by omega) hm hnc hless (by omega) hcm hg hcl hct hv hvm hvx h1x h1v).mono ?_
          rintro e w' ⟨rfl, R, k1, k2, k3, k4⟩
          exact ⟨_, rfl, own_of_row hbg k1 k2 (by omega) hcm k3, k4⟩
      · obtain rfl : j = n := by omega
        have e1 : xs.take i ++ (vs ++ xs.drop j) = xs.take i ++ vs := by rw [List.drop_eq_nil_of_le (by omega), List.append_nil]
        rw [e1, Nat.sub_self, Nat.add_zero]
        rcases Nat.lt_or_ge c (i + m) with hroom | hroom
        · exact rep_end_grow g j c i vb m vc vcur xs vs w hB hown hlt hroom (by omega) hv hvm hvx h1v
        · refine (rep_end_room g j c i vb m vc cur vcur xs vs w hlt hm hnc hroom hcm hg hcl hct hv hvm hvx h1v).mono ?_
          rintro e w' ⟨rfl, R, k1, k2, k3, k4⟩
          exact ⟨_, rfl, own_of_row hbg k1 k2 hroom hcm k3, k4⟩
  · obtain rfl : i = j := by omega
    rw [show i + m + (n - i) = n + m by omega]
    exact rep_ins i vb m vc vcur vs w hB hown hj hm hn hne hv hvm hvx h1x h1v
theorem sl_cut {B : Nat} {v : Value} {n : Nat} {xs : List Value} (i j : Nat) (w : World) (hown : w.ownsRow B 50 1 v n xs) (hij : i < j) (hj : j ≤ n) (h1x : ∀ v ∈ xs, v.oneCell' = true) :
    Calls Try.prog 33 #[v, .int .i64 i, .int .i64 j, .slice none 0 0] w fun e w' => ∃ v', e = .returned v' ∧ w'.ownsRow B 50 1 v' (i + (n - j)) (xs.take i ++ xs.drop j) ∧ w.grownBy w' v.ownBlock := by
  have hxl : xs.length = n := by have := hown.1; omega
  obtain ⟨a, c, rfl⟩ := own_shape hown
  rcases hown.2 with ⟨_, rfl⟩ | ⟨g, cap, cur, he, _⟩
  · omega
  · injection he with e1 e2 e3
    subst e1 e3
    obtain ⟨hbg, hnc, hcm, _, cur, hg, hcl, hct⟩ := row_of_own hown
    rcases Nat.lt_or_ge j n with hjn | hjn
    · obtain ⟨k, rfl⟩ : ∃ k, n = j + k := ⟨n - j, by omega⟩
      rw [show j + k - j = k by omega]
      refine (rep_mid_nil g j k c i cur xs w hij (by omega) hnc hcm hg hcl hct h1x).mono ?_
      rintro e w' ⟨rfl, R, k1, k2, k3, k4⟩
      exact ⟨_, rfl, own_of_row hbg k1 k2 (by omega) hcm k3, k4⟩
    · obtain rfl : j = n := by omega
      rw [List.drop_eq_nil_of_le (show xs.length ≤ j by omega), List.append_nil, Nat.sub_self, Nat.add_zero]
      refine (rep_end_nil g j c i cur xs w hij hnc hcm hg hcl hct).mono ?_
      rintro e w' ⟨rfl, R, k1, k2, k3, k4⟩
      exact ⟨_, rfl, own_of_row hbg k1 k2 (by omega) hcm k3, k4⟩
end Go.Proofs.Ytjmedlnboofgdaa
