/-
  The document's answer: where words end.
-/
import Derived.Test.YtjkcdmlbnfibgaaHopRefStarts
namespace Go.Proofs.Ytjkcdmlbnfibgaa
open Go.RowKit
namespace Hop
def toldE (c d : Nat) : Prop := c ≠ 1 ∧ c ≠ 4 ∧ d ≠ c
instance (c d : Nat) : Decidable (toldE c d) := by unfold toldE; infer_instance
theorem EE_first (big : Bool) (rs : List (List UInt8)) : EE 4 (-1) (rows big 0 rs) = [] ++ EE (cls big rs 0) (Utf.off rs 0) ((rows big 0 rs).drop (0 + 1)) := by
  have h := rows_here big rs (Nat.zero_le _)
  rw [List.drop_zero] at h
  rw [h, EE]; rfl
theorem EE_step (big : Bool) (rs : List (List UInt8)) {k : Nat} (hk : k ≤ rs.length) : EE (cls big rs k) (Utf.off rs k) ((rows big 0 rs).drop (k + 1)) = (if toldE (cls big rs k) (cls big rs (k + 1)) then [(Utf.off rs k : Int)] else []) ++ EE (cls big rs (k + 1)) (Utf.off rs (k + 1)) ((rows big 0 rs).drop (k + 1 + 1)) := by
  rcases Nat.lt_or_ge k rs.length with h | h
  · rw [rows_here big rs (k := k + 1) h, EE]; rfl
  · rw [List.drop_of_length_le (by rw [rows_length]; omega), List.drop_of_length_le (by rw [rows_length]; omega), cls_end h, cls_end (by omega)]; rfl
theorem EE_end (big : Bool) (rs : List (List UInt8)) (la : Nat) (en : Int) : EE la en ((rows big 0 rs).drop (rs.length + 1 + 1)) = [] := by
  rw [List.drop_of_length_le (by rw [rows_length]; omega)]; rfl
end Hop
set_option maxHeartbeats 2000000 in
set_option maxRecDepth 100000 in
theorem ref15_Ends (s : ByteArray) (big : Bool) (hs : s.size ≤ 1000000000000) (w : World) :
    Calls Try.prog 12 #[.string s, .bool big] w fun e w' => GotInts w.heap.size (Hop.ends s.data.toList big) e w' ∧ Below w.heap.size w w' := by
  have hl : s.data.toList.length = s.size := by simp
  have hRl := Hop.R_len s.data.toList big
  have c1 := ref15_row s big hs w
  obtain ⟨i0, hi, hz0, hz1, hz2⟩ := info_parts info_int
  cases hd : Utf.dec s.data.toList with
  | none =>
    have HR := Lib.hid (Hop.R_bad hd big)
    have HS := Lib.hid (Hop.ends_bad hd big)
    rw [HR.out] at c1
    have C1 := Lib.hid c1
    clear c1 hd hRl
    go_enter Try.func12, Try.ntmps12
    go_wp2_with (go_at_call 20; refine C1.out.mono ?_; rintro e w1 ⟨A, c, A', c', rfl, hI, hK, hb⟩)
    go_loopw [7, 8] (fun v iv wr => v = .slice none 0 0 ∧ iv = .int .i64 0 ∧ wr = w1) (fun _ _ _ => 0)
    case atStart => exact ⟨rfl, rfl, rfl⟩
    case round =>
      obtain ⟨rfl, rfl, rfl⟩ := hrel
      go_wp2
      go_ret
      exact ⟨by rw [HS.out]; exact gotInts_nil _ _, hb⟩
  | some rs =>
    have hn : (Hop.R s.data.toList big).length = rs.length + 1 := by rw [Hop.R_ok hd, Hop.rows_length]
    have HD := Lib.hid hd
    have HS := Lib.hid (Hop.ends_rows hd big)
    rw [hn] at c1 hRl
    have C1 := Lib.hid c1
    clear c1 hd
    go_enter Try.func12, Try.ntmps12
    go_wp2_with (go_at_call 20; refine C1.out.mono ?_; rintro e w1 ⟨A, c, A', c', rfl, hI, hK, hb⟩)
    have HW := Lib.hid hb
    have hP0 : 0 < (Hop.P s.data.toList big).length := by rw [Hop.P_length, hn]; omega
    have hK0 : 0 < (Hop.K s.data.toList big).length := by rw [Hop.K_length, hn]; omega
    have HI := Lib.hid (And.intro hI (And.intro hK (And.intro hP0 hK0)))
    obtain ⟨ad, rfl, _⟩ := ints_cell hI hP0 (Below.refl _ _)
    obtain ⟨ad', rfl, _⟩ := ints_cell hK hK0 (Below.refl _ _)
    clear hb hI hK hn hP0 hK0
    go_loopw [7, 8] (fun v iv wr => ∃ (k m : Nat) (done : List Int) (a : Option Addr) (cc : Nat), k ≤ rs.length + 1 ∧ m ≤ k ∧ m = done.length ∧ iv = .int .i64 k ∧ v = .slice a m cc ∧ wr.ownsRow w1.heap.size 3 1 (.slice a m cc) m (done.map (Value.int .i64)) ∧ Hid (Hop.EE 4 (-1) (Hop.rows big 0 rs) = done ++ Hop.EE (Hop.cls big rs k) (Utf.off rs k) ((Hop.rows big 0 rs).drop (k + 1))) ∧ Below w1.heap.size w1 wr) (fun _ iv _ => rs.length + 1 - (intOf iv).toNat)
    case atStart => exact ⟨0, 0, [], none, 0, Nat.zero_le _, Nat.le_refl _, rfl, rfl, rfl, World.ownsRow_nil _ _ _ _, Lib.hid (Hop.EE_first big rs), Below.refl _ _⟩
    case round =>
      obtain ⟨k, m, done, a, cc, hk, hm, hmd, rfl, rfl, hown, hSS, hW⟩ := hrel
      have hwr : w1.heap.size ≤ wr.heap.size := hW.size
      by_cases hle : k ≤ rs.length
      · obtain ⟨ad2, e2, cP⟩ := ints_cell HI.out.1 HI.out.2.2.1 hW
        obtain ⟨ad3, e3, cK⟩ := ints_cell HI.out.2.1 HI.out.2.2.2 hW
        obtain rfl : ad = ad2 := by injection e2
        obtain rfl : ad' = ad3 := by injection e3
        have gP := cP k _ (Hop.P_get HD.out big hle)
        have gK := cK k _ (Hop.K_get HD.out big hle)
        have hc := Hop.cls_pos big HD.out k
        have hend : rs.length ≤ k → Hop.cls big rs k = 4 := Hop.cls_end
        have gK2 : k + 1 ≤ rs.length → wr.cell? (ad'.add (k + 1)) = some (.int .i64 (Hop.knd (Hop.cls big rs (k + 1)) : Nat)) := fun h => cK (k + 1) _ (Hop.K_get HD.out big h)
        have HSS : Hid (Hop.EE 4 (-1) (Hop.rows big 0 rs) = (done ++ (if Hop.toldE (Hop.cls big rs k) (Hop.cls big rs (k + 1)) then [(Utf.off rs k : Int)] else [])) ++ Hop.EE (Hop.cls big rs (k + 1)) (Utf.off rs (k + 1)) ((Hop.rows big 0 rs).drop (k + 1 + 1))) := by
          show _ = _
          rw [hSS.out, Hop.EE_step big rs hle, List.append_assoc]
        have b1 : (k : Int) < (rs.length : Int) + 1 := by omega
        have b2 : k < rs.length + 1 := by omega
        have b3 : IntKind.i64.wrap ((k : Int) + 1) = (k : Int) + 1 := by rw [IntKind.wrap_i64]; omega
        clear hSS cP cK e2 e3
        generalize Hop.cls big rs k = c at *
        generalize hdd : Hop.cls big rs (k + 1) = d at *
        have HDD := Lib.hid hdd
        clear hdd
        generalize Utf.off rs k = y at *
        by_cases hcw : c = 1 ∨ c = 4
        · rw [Hop.knd_zero (by omega)] at gK
          rw [show ((0 : Nat) : Int) = 0 from rfl] at gK
          rw [if_neg (show ¬ Hop.toldE _ _ from by unfold Hop.toldE; omega), List.append_nil] at HSS
          have HMD := Lib.hid hmd
          have HC := Lib.hid hcw
          clear hmd hc hend hcw
          go_wp2
          go_quiet (fail)
          have hW2 : Below w1.heap.size w1 (wr.drewN nq) := hW.trans ((below_gb (gb_drewN wr nq none)).mono hwr)
          have hown2 := own_below hown (below_gb (gb_drewN wr nq none))
          generalize wr.drewN nq = w3 at *
          have hwr3 : w1.heap.size ≤ w3.heap.size := hW2.size
          clear hown hW gP gK gK2
          go_wp2
          go_roundw
          case rel => exact ⟨k + 1, m, done, a, cc, by omega, by omega, HMD.out, by go_num, rfl, hown2, by rw [HDD.out]; exact HSS, hW2⟩
          case measure => simp [intOf] <;> omega
        · have hlt : k < rs.length := by
            rcases Nat.lt_or_ge k rs.length with h | h
            · exact h
            · exact absurd (hend h) (by omega)
          rw [Hop.knd_same hcw] at gK
          have f0 : ((c : Int) != 0) = true := by simp; omega
          have n1 : (0 : Int) ≤ (k : Int) + 1 := by omega
          have n2 : (k : Int) < (rs.length : Int) := by omega
          have n3 : (k : Int) + 1 < (rs.length : Int) + 1 := by omega
          have gK3 : wr.cell? { block := ad'.block, off := ad'.off + (k + 1) } = _ := gK2 hlt
          by_cases hcd : d = c
          · subst hcd
            rw [Hop.knd_same hcw] at gK3
            rw [if_neg (show ¬ Hop.toldE _ _ from by unfold Hop.toldE; omega), List.append_nil] at HSS
            have HMD := Lib.hid hmd
            have HC := Lib.hid hcw
            clear hmd hc hend hcw
            go_wp2
            go_quiet (fail)
            have hW2 : Below w1.heap.size w1 (wr.drewN nq) := hW.trans ((below_gb (gb_drewN wr nq none)).mono hwr)
            have hown2 := own_below hown (below_gb (gb_drewN wr nq none))
            generalize wr.drewN nq = w3 at *
            have hwr3 : w1.heap.size ≤ w3.heap.size := hW2.size
            clear hown hW gP gK gK2 gK3
            go_wp2
            go_roundw
            case rel => exact ⟨k + 1, m, done, a, cc, by omega, by omega, HMD.out, by go_num, rfl, hown2, by rw [HDD.out]; exact HSS, hW2⟩
            case measure => simp [intOf] <;> omega
          · have fc : (((Hop.knd d : Nat) : Int) != (c : Nat)) = true := by
              by_cases h : d = 1 ∨ d = 4
              · rw [Hop.knd_zero h]; simp; omega
              · rw [Hop.knd_same h]; simp; omega
            have hto : Hop.toldE c d := by unfold Hop.toldE; omega
            rw [if_pos hto] at HSS
            generalize Hop.knd d = kd at *
            clear hto hcd
            have HMD := Lib.hid hmd
            have HC := Lib.hid hcw
            clear hmd hc hend hcw
            go_wp2
            go_quiet (fail)
            have hW2 : Below w1.heap.size w1 (wr.drewN nq) := hW.trans ((below_gb (gb_drewN wr nq none)).mono hwr)
            have hown2 := own_below hown (below_gb (gb_drewN wr nq none))
            have gP3 : (wr.drewN nq).cell? (ad.add k) = some (.int .i64 (y : Nat)) := gP
            generalize wr.drewN nq = w3 at *
            have hwr3 : w1.heap.size ≤ w3.heap.size := hW2.size
            clear hown hW gP gK gK2 gK3
            go_wp2_with (at_builtin; refine wpList_append_own _ rfl _ _ 24 rfl w1.heap.size 3 i0 (.int .i64 0) 1 8 Try.underlying24 hi hz0 hz1 hz2 rfl (by decide) _ _ _ rfl (hown2.alloc _) ⟨w3.heap.size, 0, none⟩ 1 1 [.int .i64 (y : Nat)] rfl rfl (append_one_cell _ _ _) (by intro u hu; simp at hu; subst hu; rfl) (by unfold maxLen; omega) (by omega) (by simp; omega) ?_)
            intro v' w4 hown' hgrow _
            have hW4 : Below w1.heap.size w1 w4 := (hW2.alloc hwr3 _).grown hgrow (by simp; omega) (fun g hg => (hown2.lt g hg).1)
            obtain ⟨a', c', rfl⟩ := own_shape hown'
            have hown4 : w4.ownsRow w1.heap.size 3 1 (.slice a' (m + 1) c') (m + 1) ((done ++ [((y : Nat) : Int)]).map (Value.int .i64)) := by rw [List.map_append]; exact hown'
            clear hown' hgrow hown2 hW2
            go_wp2
            go_roundw
            case rel => exact ⟨k + 1, m + 1, done ++ [((y : Nat) : Int)], a', c', by omega, by omega, by simp [HMD.out], by go_num, rfl, hown4, by rw [HDD.out]; exact HSS, hW4⟩
            case measure => simp [intOf] <;> omega
      · obtain rfl : k = rs.length + 1 := by omega
        have hX := hSS.out
        rw [Hop.EE_end, List.append_nil] at hX
        rw [hmd] at hown
        have HX := Lib.hid (And.intro hown (And.intro hX (HW.out.trans (hW.mono HW.out.size))))
        have HMD := Lib.hid hmd
        clear hown hX hW hmd hle
        go_wp2
        go_ret
        refine ⟨⟨_, rfl, ?_⟩, HX.out.2.2⟩
        rw [HS.out, HX.out.2.1, HMD.out]
        obtain ⟨h1, h2⟩ := HX.out.1
        refine ⟨h1, h2.imp id ?_⟩
        rintro ⟨g, cap, cur, e1, e2, e3⟩
        exact ⟨g, cap, cur, e1, Nat.le_trans HW.out.size e2, e3⟩
end Go.Proofs.Ytjkcdmlbnfibgaa
