/-
  slices.Replace at lists of numbers: as one contract.
-/
import Derived.Test.YtgjppkkifclanaaDoorReplaceI2
import Derived.Test.YtgjppkkifclanaaDoorReplaceI3
namespace Go.Proofs.YtgjppkkifclanaaDoor
open Go.RowKit
theorem sl_replaceI {B : Nat} {v : Value} {n : Nat} {xs : List Value} (i j vb m vc : Nat) (vcur vs : List Value) (w : World) (hB : B ≤ w.heap.size) (hown : w.ownsRow B 3 1 v n xs) (hij : i < j) (hj : j ≤ n) (hm : 0 < m) (hn : n + m ≤ 1000000000000) (hne : v.ownBlock ≠ some vb)
    (hv : w.heap[vb]? = some (.cells vcur.toArray 3 (0, 0))) (hvm : m ≤ vcur.length) (hvx : vcur.take m = vs) (h1x : ∀ v ∈ xs, v.oneCell' = true) (h1v : ∀ v ∈ vs, v.oneCell' = true) :
    Calls Tryd.prog 36 #[v, .int .i64 i, .int .i64 j, .slice (some ⟨vb, 0, none⟩) m vc] w fun e w' => ∃ v', e = .returned v' ∧ w'.ownsRow B 3 1 v' (i + m + (n - j)) (xs.take i ++ (vs ++ xs.drop j)) ∧ w.grownBy w' v.ownBlock := by
  have hxl : xs.length = n := by have := hown.1; omega
  rcases Nat.lt_or_ge i j with hlt | hge
  · obtain ⟨a, c, rfl⟩ := own_shape hown
    rcases hown.2 with ⟨_, rfl⟩ | ⟨g, cap, cur, he, _⟩
    · omega
    · injection he with e1 e2 e3
      subst e1 e3
      obtain ⟨hbg, hnc, hcm, _, cur, hg, hcl, hct⟩ := row_of_own hown
      have hgv : vb ≠ g := fun e => hne (by simp [Value.ownBlock, e])
      rcases Nat.lt_or_ge j n with hjn | hjn
      · obtain ⟨k, rfl⟩ : ∃ k, n = j + k := ⟨n - j, by omega⟩
        rw [show j + k - j = k by omega]
        rcases Nat.lt_or_ge j (i + m) with hmore | hless
        · rcases Nat.lt_or_ge c (i + m + k) with hroom | hroom
          · refine (rep_mid_growI g j k c i vb m vc cur vcur xs vs w hlt (by omega) hm hnc hroom hmore (by omega) hg hcl hct hv hvm hvx h1x h1v).mono ?_
            rintro e w' ⟨G, R, rfl, k1, k2, k3, k4, k5, k6⟩
            exact ⟨_, rfl, own_of_row (cur := R.toList) hB (by simpa using k3) (by simpa using k4) k1 k2 k5, gb_none _ k6⟩
          · refine (rep_mid_roomI g j k c i vb m vc cur vcur xs vs w hlt (by omega) hm hnc hroom hmore (by omega) hcm hgv hg hcl hct hv hvm hvx h1x h1v).mono ?_
            rintro e w' ⟨rfl, R, k1, k2, k3, k4⟩
            exact ⟨_, rfl, own_of_row hbg k1 k2 hroom hcm k3, k4⟩
        · refine (rep_mid_shrinkI g j k c i vb m vc cur vcur xs vs w hlt (by omega) hm hnc hless (by omega) hcm hg hcl hct hv hvm hvx h1x h1v).mono ?_
          rintro e w' ⟨rfl, R, k1, k2, k3, k4⟩
          exact ⟨_, rfl, own_of_row hbg k1 k2 (by omega) hcm k3, k4⟩
      · obtain rfl : j = n := by omega
        have e1 : xs.take i ++ (vs ++ xs.drop j) = xs.take i ++ vs := by rw [List.drop_eq_nil_of_le (by omega), List.append_nil]
        rw [e1, Nat.sub_self, Nat.add_zero]
        rcases Nat.lt_or_ge c (i + m) with hroom | hroom
        · exact rep_end_growI g j c i vb m vc vcur xs vs w hB hown hlt hroom (by omega) hv hvm hvx h1v
        · refine (rep_end_roomI g j c i vb m vc cur vcur xs vs w hlt hm hnc hroom hcm hg hcl hct hv hvm hvx h1v).mono ?_
          rintro e w' ⟨rfl, R, k1, k2, k3, k4⟩
          exact ⟨_, rfl, own_of_row hbg k1 k2 hroom hcm k3, k4⟩
  · omega
end Go.Proofs.YtgjppkkifclanaaDoor
