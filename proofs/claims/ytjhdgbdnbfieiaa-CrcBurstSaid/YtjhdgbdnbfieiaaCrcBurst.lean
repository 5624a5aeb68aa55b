/-
  'calamuslaw02.CrcBurst' answers true for every text, every number and every mask, and what came in reads as it did: where bits within 32 in a row are turned, the sum is another one, and what was sealed is not opened.
-/
import Derived.Test.YtjhdgbdnbfieiaaCrcTurn
import Derived.Test.YtjhdgbdnbfieiaaFrame
import Derived.Laws.IdiomStrings
namespace Go.Proofs.Ytjhdgbdnbfieiaa
open Go.RowKit
open Crc
/-- Block g begins with these bytes, none of them frozen. -/
def Held8 (w : World) (g : Nat) (B : List UInt8) : Prop := ∃ (cs : Array Value) (m : Nat), w.heap[g]? = some (.cells cs 5 (m, m + 1)) ∧ B.length ≤ m ∧ ∀ (i : Nat) (b : UInt8), B[i]? = some b → cs[i]? = some (Value.int .u8 (b.toNat : Int))
section
variable {w w' : World} {g : Nat} {B : List UInt8}
theorem Held8.cell (h : Held8 w g B) {i : Nat} {b : UInt8} (hb : B[i]? = some b) : w.cell? ⟨g, i, none⟩ = some (.int .u8 (b.toNat : Int)) := by
  obtain ⟨cs, m, hg, _, hc⟩ := h
  rw [cell_of_row w g i cs _ _ hg]
  exact hc i b hb
theorem Held8.frozen (h : Held8 w g B) {i : Nat} (hi : i < B.length) : w.frozen? ⟨g, i, none⟩ = false := by
  obtain ⟨cs, m, hg, hm, _⟩ := h
  simp only [World.frozen?, hg]
  simp
  omega
theorem Held8.drew (h : Held8 w g B) : Held8 w.drew g B := by
  obtain ⟨cs, m, h1, h2⟩ := h
  exact ⟨cs, m, h1, h2⟩
theorem Held8.below {n : Nat} (h : Held8 w g B) (hb : Below n w w') (hg : g < n) : Held8 w' g B := by
  obtain ⟨cs, m, h1, h2⟩ := h
  exact ⟨cs, m, (hb.block g hg).trans h1, h2⟩
theorem Held8.lt (h : Held8 w g B) : g < w.heap.size := by
  obtain ⟨cs, m, h1, _⟩ := h
  rcases Nat.lt_or_ge g w.heap.size with hlt | hge
  · exact hlt
  · rw [Array.getElem?_eq_none hge] at h1; cases h1
theorem Held8.set_ (h : Held8 w g B) (i : Nat) (b : UInt8) : Held8 (w.setCell ⟨g, i, none⟩ (.int .u8 (b.toNat : Int))) g (B.set i b) := by
  obtain ⟨cs, m, hg, hm, hc⟩ := h
  refine ⟨cs.setIfInBounds i (.int .u8 (b.toNat : Int)), m, ?_, by simpa using hm, fun j x hx => ?_⟩
  · simp [World.setCell, Array.getElem?_modify, hg]
  · rw [List.getElem?_set] at hx
    rw [Array.getElem?_setIfInBounds]
    by_cases e : i = j
    · subst e
      rw [if_pos rfl] at hx ⊢
      split at hx
      · rename_i hl
        have := hc i _ (List.getElem?_eq_getElem hl)
        have hlt : i < cs.size := (Array.getElem?_eq_some_iff.1 this).1
        rw [if_pos hlt]
        injection hx with hx
        rw [hx]
      · cases hx
    · rw [if_neg e] at hx ⊢
      exact hc j x hx
theorem Held8.made (w : World) (s : ByteArray) (cap : Nat) : Held8 (w.alloc (.cells (bytesRow s cap) 5 ((bytesRow s cap).size, (bytesRow s cap).size + 1))).drew w.heap.size s.data.toList := by
  refine ⟨_, _, heap_alloc_new w _, ?_, fun i b hb => ?_⟩
  · unfold bytesRow
    rw [Array.size_append, Array.size_map, Array.size_replicate, data_len]
    have : s.data.size = s.size := rfl
    omega
  · have hi : i < s.data.size := by
      rcases Nat.lt_or_ge i s.data.size with h | h
      · exact h
      · rw [List.getElem?_eq_none (by simpa using h)] at hb; cases hb
    rw [bytesRow_at s cap i hi]
    rw [Array.getElem?_toList, Array.getElem?_eq_getElem hi] at hb
    injection hb with hb
    rw [hb]
end
theorem Held8.text {w : World} {g : Nat} {B : List UInt8} (h : Held8 w g B) {n : Nat} (hn : n = B.length) (cap : Nat) :
    (convert 40 9 (.slice (some ⟨g, 0, none⟩) n cap)).run Try.prog w = .ok (.string (bs B)) w := by
  subst hn
  exact run_convert_bytes_back (P := Try.prog) w 40 9 5 ⟨g, 0, none⟩ cap B Try.underlying40 Try.underlying5 Try.underlying9 (fun j hj => by
    have e : (⟨g, 0, none⟩ : Addr).add j = ⟨g, j, none⟩ := by unfold Addr.add; split <;> simp_all
    rw [e]
    exact h.cell (List.getElem?_eq_getElem hj))
theorem seal_tail (s : ByteArray) : (bs (s.data.toList ++ tailB s.data.toList)).extract s.size (s.size + 4) = bs (tailB s.data.toList) := by
  rw [Lib.extract_eq, bs_toList]
  have h1 : (s.data.toList ++ tailB s.data.toList).drop s.size = tailB s.data.toList := by
    rw [← data_len s, List.drop_left]
  have h2 : (tailB s.data.toList).take (s.size + 4 - s.size) = tailB s.data.toList := List.take_of_length_le (by rw [tailB_length]; omega)
  rw [h1, h2]
  rfl
theorem turn_u8 (b : UInt8) (r : Nat) (hr : r < 8) : bits .xor .u8 (b.toNat : Int) (2 ^ r % 256) = ((b ^^^ UInt8.ofNat (2 ^ r)).toNat : Int) := by
  have h1 := turn_byte b r
  rw [Nat.mod_eq_of_lt hr] at h1
  have h2 := pow_lt8 r
  rw [Nat.mod_eq_of_lt hr] at h2
  have h3 : ((2 : Int) ^ r % 256) = ((2 ^ r : Nat) : Int) := by
    have : ((2 : Int) ^ r) = ((2 ^ r : Nat) : Int) := (Int.natCast_pow 2 r).symm
    rw [this]
    exact Int.emod_eq_of_lt (Int.natCast_nonneg _) (Int.ofNat_lt.2 h2)
  rw [h3, u8_xor_nat _ _ b.toNat_lt h2, h1]
set_option maxHeartbeats 800000 in
set_option maxRecDepth 100000 in
theorem burst_out (s : ByteArray) (n m : Int) {w : World} (hs : s.size ≤ 140737488351232) (h : 5000 < s.size ∨ n < 0 ∨ 8 * (s.size : Int) ≤ n) :
    Calls Try.prog 6 #[.string s, .int .i64 n, .int .u32 m] w fun e w' => e = .returned (.bool true) ∧ Below w.heap.size w w' := by
  by_cases h1 : 5000 < s.size
  · go_enter Try.func6, Try.ntmps6
    go_wp2_with (go_at_call 14; refine (crc_lives _).mono ?_; rintro e w1 ⟨rfl, hb⟩)
    go_ret
    exact ⟨rfl, hb⟩
  · by_cases h2 : n < 0
    · have g1 : decide (n < 0) = true := by simpa using h2
      go_enter Try.func6, Try.ntmps6
      go_wp2_with (go_at_call 14; refine (crc_lives _).mono ?_; rintro e w1 ⟨rfl, hb⟩)
      go_ret
      exact ⟨rfl, hb⟩
    · have g1 : decide (n < 0) = false := by simpa using h2
      have g2 : 8 * (s.size : Int) ≤ n := by omega
      clear h
      go_enter Try.func6, Try.ntmps6
      go_wp2_with (go_at_call 14; refine (crc_lives _).mono ?_; rintro e w1 ⟨rfl, hb⟩)
      go_ret
      exact ⟨rfl, hb⟩
set_option maxHeartbeats 1600000 in
set_option maxRecDepth 100000 in
theorem burst_in (s : ByteArray) (k m : Nat) {w : World} (hs : s.size ≤ 5000) (h : k < 8 * s.size) :
    Calls Try.prog 6 #[.string s, .int .i64 k, .int .u32 m] w fun e w' => e = .returned (.bool true) ∧ Below w.heap.size w w' := by
  have hcv := fun w => run_bytes_of_string (P := Try.prog) w 9 40 5 s Try.underlying9 Try.underlying40 Try.underlying5
  go_enter Try.func6, Try.ntmps6
  go_wp2
  clear hcv
  have hH : Held8 (w.alloc (.cells (bytesRow s (grownCap w s.size 0 5)) 5 ((bytesRow s (grownCap w s.size 0 5)).size, (bytesRow s (grownCap w s.size 0 5)).size + 1))).drew w.heap.size s.data.toList := Held8.made w s _
  have hW : Below w.heap.size w (w.alloc (.cells (bytesRow s (grownCap w s.size 0 5)) 5 ((bytesRow s (grownCap w s.size 0 5)).size, (bytesRow s (grownCap w s.size 0 5)).size + 1))).drew := ((Below.refl _ _).alloc (Nat.le_refl _) _).drew
  generalize (w.alloc (.cells (bytesRow s (grownCap w s.size 0 5)) 5 ((bytesRow s (grownCap w s.size 0 5)).size, (bytesRow s (grownCap w s.size 0 5)).size + 1))).drew = wo at hH hW ⊢
  generalize grownCap w s.size 0 5 = cap
  go_loopw [8, 9] (fun x i wr => ∃ (j : Nat) (B : List UInt8) (t : Bool), j ≤ 32 ∧ k + j ≤ 8 * s.size ∧ i = .int .i64 j ∧ x = .bool t ∧ Turned s.data.toList B k j t ∧ Held8 wr w.heap.size B ∧ Below w.heap.size w wr) (fun _ i _ => 32 - (intOf i).toNat)
  case atStart => exact ⟨0, s.data.toList, false, by omega, by omega, rfl, rfl, Turned.start _ _, hH, hW⟩
  case round =>
    obtain ⟨j, B, t, hj, hkj, rfl, rfl, hT, hB, hR⟩ := hrel
    clear hH hW
    by_cases hlt : j < 32 ∧ k + j < 8 * s.size
    · obtain ⟨h1, h2⟩ := hlt
      have g1 : decide ((j : Int) < 32) = true := by simp; omega
      obtain ⟨q, hq⟩ : ∃ q, q = k + j := ⟨_, rfl⟩
      obtain ⟨d, hd⟩ : ∃ d, d = q / 8 := ⟨_, rfl⟩
      obtain ⟨r, hr⟩ : ∃ r, r = q % 8 := ⟨_, rfl⟩
      have e1 : (k : Int) + (j : Int) = (q : Int) := by omega
      have e2 : (q : Int) / 8 = (d : Int) := by omega
      have e3 : (q : Int) % 8 = (r : Int) := by omega
      have h3 : d < s.size := by omega
      have h4 : r < 8 := by omega
      have h5 : (q : Int) < 8 * (s.size : Int) := by omega
      have hbd : ∃ b, B[d]? = some b := ⟨B[d]'(by rw [hT.len, data_len]; exact h3), List.getElem?_eq_getElem _⟩
      obtain ⟨b, hb⟩ := hbd
      have cb := hB.cell hb
      have zb := hB.frozen (i := d) (by rw [hT.len, data_len]; exact h3)
      have hq' := Lib.hid hq
      have hd' := Lib.hid hd
      have hr' := Lib.hid hr
      have hb' := Lib.hid hb
      clear hq hd hr hb
      go_wp2
      · go_region
        have hset := (hB.set_ d (b ^^^ UInt8.ofNat (2 ^ r))).drew
        have hturn : turnBit B (k + j) = B.set d (b ^^^ UInt8.ofNat (2 ^ r)) := by
          unfold turnBit
          rw [← hq'.out, ← hd'.out, ← hr'.out, List.getD_eq_getElem?_getD, hb'.out]
          rfl
        have hT2 := hT.turn (by rw [data_len, ← hq'.out]; omega)
        rw [hturn] at hT2
        rw [← turn_u8 b r h4] at hset
        have hR2 := (hR.setCell (p := ⟨w.heap.size, d, none⟩) (Nat.le_refl _) (.int .u8 (bits .xor .u8 (b.toNat : Int) (2 ^ r % 256)))).drew
        clear hturn hB hT hR
        go_wp2
        exact ⟨⟨j + 1, _, true, by omega, by omega, by go_num, rfl, hT2, hset, hR2⟩, by simp [intOf]; omega⟩
      · exact ⟨⟨j + 1, B, t, by omega, by omega, by go_num, rfl, hT.skip, hB, hR⟩, by simp [intOf]; omega⟩
    · have hlen : Hid (s.size = B.length) := by show _ = _; rw [hT.len, data_len]
      have hz : (bs (s.data.toList ++ tailB s.data.toList)).size = s.size + 4 := by rw [bs_size, List.length_append, tailB_length, data_len]
      have hx := seal_tail s
      have ha := bs_append B (tailB s.data.toList)
      have g2 : ¬ 9223372036854775807 < (bs B).size + (bs (tailB s.data.toList)).size := by rw [bs_size, bs_size, tailB_length, ← hlen.out]; omega
      have hO := hT.opened hj
      have hS := hT.sum hj
      have o2 := fun w => crc_open (bs (B ++ tailB s.data.toList)) (by rw [bs_size, List.length_append, tailB_length, ← hlen.out]; omega) w
      rw [bs_toList, hO] at o2
      have O1 := Lib.hid (fun w => crc_seal s (by omega) w)
      have O2 := Lib.hid o2
      have hT' := Lib.hid hT
      clear o2 hO hT
      have t1 : (((s.size + 4 : Nat) : Int) != (s.size : Int) + 4) = false := by simp
      have g0 : Hid (((decide ((j : Int) < 32) = true) ∧ 8 * (s.size : Int) ≤ (k : Int) + (j : Int)) ∨ decide ((j : Int) < 32) = false) := by
        show _ ∨ _
        by_cases h32 : j < 32
        · exact .inl ⟨by simp; omega, by omega⟩
        · exact .inr (by simp; omega)
      clear hlt hkj
      have S1 : Hid (∀ w : World, Calls Try.prog 7 #[.slice (some ⟨w.heap.size, 0, none⟩) 1 1] (w.alloc (.cells #[.string (bs B)] 9)) fun e w' => e = .returned (.int .i64 (Crc.sum B : Nat)) ∧ Below w.heap.size w w') := fun w => by
        refine (crc_sum_one (bs B) (by rw [bs_size, ← hlen.out]; omega) (strs_one w _)).mono ?_
        rintro e w' ⟨rfl, hb⟩
        exact ⟨rfl, ((Below.refl _ _).alloc (Nat.le_refl _) _).trans (hb.mono (by simp))⟩
      have S2 : Hid (∀ w : World, Calls Try.prog 7 #[.slice (some ⟨w.heap.size, 0, none⟩) 1 1] (w.alloc (.cells #[.string s] 9)) fun e w' => e = .returned (.int .i64 (Crc.sum s.data.toList : Nat)) ∧ Below w.heap.size w w') := fun w => by
        refine (crc_sum_one s (by omega) (strs_one w _)).mono ?_
        rintro e w' ⟨rfl, hb⟩
        exact ⟨rfl, ((Below.refl _ _).alloc (Nat.le_refl _) _).trans (hb.mono (by simp))⟩
      cases t with
      | false =>
        have g4 : (((Crc.sum B : Nat) : Int) != ((Crc.sum s.data.toList : Nat) : Int)) = false := by
          have hS' : Crc.sum B = Crc.sum s.data.toList := by simpa using hS
          rw [hS']; simp
        have O3 : Hid (∀ w : World, Calls Try.prog 15 #[.string (bs (B ++ tailB s.data.toList))] w fun e w' => e = .returned (.tuple #[.string (bs B), .int .i64 0]) ∧ Below w.heap.size w w') := O2
        clear hS O2 hT'
        rcases g0.out with ⟨g1, g3⟩ | g1
        all_goals
          go_wp2_with fail
          refine (O1.out _).mono ?_
          rintro e w1 ⟨rfl, hb1⟩
          have hB1 := hB.below hb1 hB.lt
          have hW1 := hR.trans (hb1.mono hR.size)
          clear hb1
          have v1 := hB1.text hlen.out cap
          have v2 := hB1.drew.text hlen.out cap
          go_wp2
          go_region_with (go_at_call 15; refine (O3.out _).mono ?_; rintro e w2 ⟨rfl, hb2⟩)
          all_goals
            have hb2' : Below w1.heap.size w1 w2 := ((Below.refl _ w1).drew).trans hb2
            have hB2 := hB1.below hb2' hB1.lt
            have hW2 := hW1.trans (hb2'.mono hW1.size)
            have v3 := hB2.text hlen.out cap
            clear hb2 hb2' v1 v2
            go_wp2_with fail
            refine (S1.out _).mono ?_
            rintro e w3 ⟨rfl, hb3⟩
            have hW3 := hW2.trans (hb3.mono hW2.size)
            clear hb3 v3
            go_wp2_with fail
            refine (S2.out _).mono ?_
            rintro e w4 ⟨rfl, hb4⟩
            have hW4 := hW3.trans (hb4.mono hW3.size)
            clear hb4
            go_wp2_with fail
            refine (crc_lives _).mono ?_
            rintro e w5 ⟨rfl, hb5⟩
            go_wp2
            go_ret
            exact ⟨rfl, hW4.trans (hb5.mono hW4.size)⟩
      | true =>
        have g4 : (((Crc.sum B : Nat) : Int) != ((Crc.sum s.data.toList : Nat) : Int)) = true := by
          have hS' : Crc.sum B ≠ Crc.sum s.data.toList := by simpa using hS
          simp only [bne_iff_ne]
          omega
        have O3 : Hid (∀ w : World, Calls Try.prog 15 #[.string (bs (B ++ tailB s.data.toList))] w fun e w' => e = .returned (.tuple #[.string (bs []), .int .i64 4]) ∧ Below w.heap.size w w') := O2
        clear hS O2 hT'
        rcases g0.out with ⟨g1, g3⟩ | g1
        all_goals
          go_wp2_with fail
          refine (O1.out _).mono ?_
          rintro e w1 ⟨rfl, hb1⟩
          have hB1 := hB.below hb1 hB.lt
          have hW1 := hR.trans (hb1.mono hR.size)
          clear hb1
          have v1 := hB1.text hlen.out cap
          have v2 := hB1.drew.text hlen.out cap
          go_wp2
          go_region_with (go_at_call 15; refine (O3.out _).mono ?_; rintro e w2 ⟨rfl, hb2⟩)
          all_goals
            have hb2' : Below w1.heap.size w1 w2 := ((Below.refl _ w1).drew).trans hb2
            have hB2 := hB1.below hb2' hB1.lt
            have hW2 := hW1.trans (hb2'.mono hW1.size)
            have v3 := hB2.text hlen.out cap
            clear hb2 hb2' v1 v2
            go_wp2_with fail
            refine (S1.out _).mono ?_
            rintro e w3 ⟨rfl, hb3⟩
            have hW3 := hW2.trans (hb3.mono hW2.size)
            clear hb3 v3
            go_wp2_with fail
            refine (S2.out _).mono ?_
            rintro e w4 ⟨rfl, hb4⟩
            have hW4 := hW3.trans (hb4.mono hW3.size)
            clear hb4
            go_wp2_with fail
            refine (crc_lives _).mono ?_
            rintro e w5 ⟨rfl, hb5⟩
            go_wp2
            go_ret
            exact ⟨rfl, hW4.trans (hb5.mono hW4.size)⟩
theorem burst_walk (s : ByteArray) (n m : Int) {w : World} (hs : s.size ≤ 140737488351232) (hm : (Lit.int .u32 m).wf = true) :
    Calls Try.prog 6 #[.string s, .int .i64 n, .int .u32 m] w fun e w' => e = .returned (.bool true) ∧ Below w.heap.size w w' := by
  by_cases h : 5000 < s.size ∨ n < 0 ∨ 8 * (s.size : Int) ≤ n
  · exact burst_out s n m hs h
  · have hb := bounds_u32 hm
    obtain ⟨k, rfl⟩ : ∃ k : Nat, n = k := ⟨n.toNat, by omega⟩
    obtain ⟨x, rfl⟩ : ∃ x : Nat, m = x := ⟨m.toNat, by omega⟩
    exact burst_in s k x (by omega) (by omega)
section
open Go.ChangeShapes Go.WideShapes Go.ChangeAt
open Go.ChangeMaps (open_string)
set_option maxRecDepth 100000 in
theorem crcBurst_lifted (os : Os) (started : os.Started) (H : Type) (enc : TypeId × Value → H) :
    ReturnsInHanded {} Try.checked os 6 .any (Rows.crcBurstSpec.pre6 enc Try.prog Try.f6 Rows.crcBurstRow.domain false) (Rows.crcBurstSpec.post enc Try.prog Try.f6 false true false false) := by
  refine returnsInHanded_of_change_sized (C := Try.checked) own_knob started (by kernel_rfl) Try.func6
    (ChangeSpec.witness6 (enc := enc) (C := Try.checked) false ⟨#[], #[.string .empty, .int .i64 0, .int .u32 0], []⟩ 8 (by kernel_rfl) (by kernel_rfl) (by kernel_rfl) (by kernel_rfl)) ?_
  intro W base args ds gs before hval0 hW _ hsz0 _
  have hsz : (DataW.weightsEach Try.prog (Try.f6.params.toList ++ Rows.crcBurstSpec.plain.varTypes Try.prog) (ds ++ gs)).all (· ≤ reachBytes) = true := hsz0
  clear hsz0
  have hval : ∀ (j : Nat) t v, Try.f6.params[j]? = some t → args[j]? = some v → Value.okWide Try.prog W .any base t v := hval0
  have hW' := hW
  obtain ⟨p, q, hA0, hV, rfl, hfz, hnd⟩ := hW
  have hA : DataW.TrodAll enc Try.prog W 0 (fun _ => true) true Try.f6.params.toList args.toList ds p := hA0
  rw [Try.params6] at hA hval hsz
  obtain ⟨v0, vs0, d0, ds0, p0, q0, hargs, rfl, rfl, h0, r0⟩ := trodAll_cons hA
  obtain ⟨v1, vs1, d1, ds1, p1, q1, rfl, rfl, rfl, h1, r1⟩ := trodAll_cons r0
  obtain ⟨v2, vs2, d2, ds2, p2, q2, rfl, rfl, rfl, h2, r2⟩ := trodAll_cons r1
  obtain ⟨rfl, rfl, rfl⟩ := trodAll_nil r2
  obtain rfl : args = #[v0, v1, v2] := by cases args; simp_all
  obtain ⟨rfl, rfl⟩ := trodVars_none hV
  obtain ⟨s0, rfl, rfl, rfl, hmax0⟩ := open_string Try.underlying9 (hval 0 9 v0 rfl rfl) h0
  have hs0 : s0.size ≤ 140737488351232 := by rw [← data_len]; exact sized_string hsz (j := 0) (t := 9) rfl rfl
  obtain ⟨n1, rfl, rfl, rfl, wn1⟩ := open_int Try.underlying3 (hval 1 3 v1 rfl rfl) h1
  obtain ⟨n2, rfl, rfl, rfl, wn2⟩ := open_int Try.underlying39 (hval 2 39 v2 rfl rfl) h2
  refine (burst_walk s0 n1 n2 hs0 wn2).mono fun e W' ⟨he, hb⟩ => ?_
  subst he
  exact ⟨_, rfl, law_post rfl rfl (by rw [Try.params6]; decide +kernel) ⟨rfl, rfl, rfl⟩ hW' hb⟩
theorem crcBurst_holds : Rows.CrcBurstSaid :=
  OpenClaim.holds_of_wide 6 Try.f6 rfl rfl rfl rfl rfl rfl rfl ⟨rfl, rfl, rfl, rfl, rfl⟩ rfl rfl rfl rfl rfl (by kernel_rfl) Try.func6 (by kernel_rfl)
    (of_decide_eq_true (by kernel_rfl)) (by unfold Func.isWrapper; first | (rw [if_pos (by decide +kernel)]; kernel_rfl) | (rw [if_neg (by decide +kernel)]; exact ⟨rfl, rfl⟩))
    (fun os started H enc _ => crcBurst_lifted os started H enc)
end
end Go.Proofs.Ytjhdgbdnbfieiaa
