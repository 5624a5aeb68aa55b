/-
  The document's runes of a text, one by one, and runes as a text.
-/
import Derived.Test.YtlkkajmmcdigoaaDiffs
import Derived.Test.YtlkkajmmcdigoaaStrsOwn
import Derived.Test.YtlkkajmmcdigoaaUtfRef
import Derived.Test.YtlkkajmmcdigoaaUtfRefs
import Derived.Deep.RegionHeld3
import Derived.Deep.AppendLies
namespace Go.Proofs.Ytlkkajmmcdigoaa
open Go.RowKit
open Utf Chg
theorem own_weaken {w : World} {B C : Nat} {e : TypeId} {size n : Nat} {v : Value} {xs : List Value} (h : w.ownsRow B e size v n xs) (hc : C ≤ B) : w.ownsRow C e size v n xs := by
  refine ⟨h.1, ?_⟩
  rcases h.2 with h2 | ⟨g, cap, cur, h3, h4, h5⟩
  · exact Or.inl h2
  · exact Or.inr ⟨g, cap, cur, h3, Nat.le_trans hc h4, h5⟩
set_option maxHeartbeats 1000000 in
set_option maxRecDepth 100000 in
theorem ref8_runes (s : ByteArray) {rs : List (List UInt8)} (hd : dec s.data.toList = some rs) (hs : s.size ≤ 1000000000) (w : World) :
    Calls Try.prog 29 #[.string s] w fun e w' => (∃ v, e = .returned v ∧ w'.ownsRow w.heap.size 9 1 v rs.length ((rs.map bs).map Value.string)) ∧ Below w.heap.size w w' := by
  have hl := data_len s
  have c1 := split_got s (by omega) w
  rw [places_some hd, pl_length] at c1
  have C1 := Lib.hid c1
  clear c1
  obtain ⟨i0, hi, hz0, hz1, hz2⟩ := info_parts info_string
  go_enter Try.func29, Try.ntmps29
  go_wp2_with (go_at_call 37; refine C1.out.mono ?_; rintro e w1 ⟨⟨A, c, rfl, hI⟩, hb⟩)
  have HW := Lib.hid hb
  clear hb
  have hrl : rs.length ≤ s.size := by
    have := off_ge hd (Nat.le_refl rs.length)
    have := off_in hd rs.length
    omega
  go_loopw [4, 5] (fun v iv wr => ∃ (a : Option Addr) (n : Nat) (k : Nat), k ≤ rs.length ∧ iv = .int .i64 k ∧ v = .slice a k n ∧ Hid (wr.ownsRow w1.heap.size 9 1 v k (((rs.take k).map bs).map Value.string)) ∧ Below w1.heap.size w1 wr) (fun _ iv _ => rs.length - (intOf iv).toNat)
  case atStart => exact ⟨_, 0, 0, Nat.zero_le _, rfl, rfl, World.ownsRow_nil _ _ _ _, Below.refl _ _⟩
  case round =>
    obtain ⟨a, n, k, hk, rfl, rfl, hown, hW⟩ := hrel
    by_cases hlt : k < rs.length
    · obtain ⟨r, hr⟩ : ∃ r, rs[k]? = some r := ⟨_, List.getElem?_eq_getElem hlt⟩
      have hg1 : (pl 0 rs)[k]? = some ((off rs k : Nat) : Int) := by rw [pl_get 0 (by omega), Nat.zero_add]
      have hg2 : (pl 0 rs)[k + 1]? = some ((off rs (k + 1) : Nat) : Int) := by rw [pl_get 0 (by omega), Nat.zero_add]
      obtain ⟨ad, rfl, hab, hcells⟩ := hI (by rw [pl_length]; omega)
      have L1 := hcells k _ hg1
      have L2 := hcells (k + 1) _ hg2
      have P1 : Hid (∀ u, Below w1.heap.size w1 u → u.cell? (ad.add k) = some (.int .i64 (off rs k : Nat)) ∧ u.cell? { block := ad.block, off := ad.off + (k + 1) } = some (.int .i64 (off rs (k + 1) : Nat))) := fun u hu =>
        ⟨(hu.cell (p := ad.add k) (by rw [block_of_add]; exact hab)).trans L1, (hu.cell (p := ad.add (k + 1)) (by rw [block_of_add]; exact hab)).trans L2⟩
      obtain ⟨q1, q2⟩ := P1.out _ hW
      have hin := off_in hd (k + 1)
      have hmo := off_mono (rs := rs) (i := k) (j := k + 1) (by omega)
      rw [hl] at hin
      have E1 : s.extract (off rs k) (off rs (k + 1)) = bs r := by
        have := off_piece hr
        rw [← (dec_some hd).2] at this
        rw [Lib.extract_eq, ← this, List.drop_take]
        rfl
      have hS : Hid (((rs.take (k + 1)).map bs).map Value.string = ((rs.take k).map bs).map Value.string ++ [Value.string (bs r)]) := by
        show _ = _
        rw [List.take_add_one, hr]
        simp
      have hwr : w1.heap.size ≤ wr.heap.size := hW.size
      have b1 : (k : Int) < (rs.length : Int) + 1 := by omega
      have b2 : k < rs.length + 1 := by omega
      have b4 : (0 : Int) ≤ (k : Int) + 1 := by omega
      have b5 : (k : Int) < (rs.length : Int) := by omega
      have b6 : (k : Int) + 1 < (rs.length : Int) + 1 := by omega
      have b3 : IntKind.i64.wrap ((k : Int) + 1) = (k : Int) + 1 := by rw [IntKind.wrap_i64]; omega
      have hb1 : ad.block < wr.heap.size := by omega
      have hbl : Hid (w1.heap.size ≤ wr.heap.size ∧ ad.block < w1.heap.size) := ⟨hwr, hab⟩
      have OB : Hid (∀ g, (Value.slice a k n).ownBlock = some g → w1.heap.size ≤ g) := fun g hg => (hown.out.lt g hg).1
      have HW1 := Lib.hid hW
      clear hr hg1 hg2 hcells L1 L2 hI hW hab
      generalize off rs (k + 1) = z at *
      generalize off rs k = y at *
      go_wp2
      go_region_held3 (fun u => u.cell? (ad.add k) = some (.int .i64 (y : Nat)) ∧ u.cell? { block := ad.block, off := ad.off + (k + 1) } = some (.int .i64 (z : Nat)))
        (first
          | exact ⟨by assumption, by assumption⟩
          | go_keep
          | exact hP)
        ((refine step_append_lies _ (by rfl) _ _ _ (by rfl) w1.heap.size 9 i0 _ 1 16 Try.underlying46 hi hz0 hz1 hz2 rfl (by omega) (.slice a k n) k _ (by rfl) ((hown.out.alloc _).drew)
              ⟨wr.heap.size, 0, none⟩ 1 1 [.string (bs r)] (by rfl) (by rfl) (World.news_of_block (cs := #[.string (bs r)]) (t := 9) (fr := (0, 0)) (heap_alloc_new wr _)) (by simp [Value.oneCell'])
              (by omega) (by unfold maxLen; omega) (by omega) (by simp; omega) (wr.heap.size + 1) (by simp) ?_; intro gg cap w4 hown1 hgrow hat hlt4; have hB4 : Below w1.heap.size w1 w4 := ((HW1.out.alloc hbl.out.1 _).drew).grown hgrow (by simp; omega) (fun g hg => OB.out g hg); have hP := P1.out _ hB4))
      all_goals
        have hS4 : Hid (w4.ownsRow w1.heap.size 9 1 (.slice (some ⟨gg, 0, none⟩) (k + 1) cap) (k + 1) (((rs.take (k + 1)).map bs).map Value.string)) := by
          show World.ownsRow _ _ _ _ _ _ _
          rw [hS.out]
          exact hown1
        clear hown1 hgrow hat hP
        go_wp2
        go_roundw
        case rel => exact ⟨some ⟨gg, 0, none⟩, cap, k + 1, by omega, by go_num, rfl, hS4, hB4⟩
        case measure => simp [intOf]; omega
    · have hkl : k = rs.length := by omega
      have d1 : decide ((k : Int) + 1 < (rs.length : Int) + 1) = false := decide_eq_false (by omega)
      subst hkl
      have hrow := hown.out
      rw [List.take_length] at hrow
      have HR := Lib.hid (own_weaken hrow HW.out.size)
      clear hrow hI hown
      go_wp2
      go_ret
      exact ⟨⟨_, rfl, HR.out⟩, HW.out.trans (hW.mono HW.out.size)⟩
/-- All bytes of runes, as texts. -/
theorem flat_bs (rs : List (List UInt8)) : flat (rs.map bs) = rs.flatten := by
  unfold flat
  induction rs with
  | nil => rfl
  | cons r rs ih => rw [List.map_cons, List.flatMap_cons, ih]; rfl
set_option maxHeartbeats 1000000 in
set_option maxRecDepth 100000 in
theorem ref8_glue {A : Option Addr} {c : Nat} {rs : List (List UInt8)} {w : World} (hx : Strs w A (rs.map bs)) (hl : rs.flatten.length ≤ 1000000000) (hn : rs.length ≤ 1000000000) :
    Calls Try.prog 30 #[.slice A rs.length c] w fun e w' => e = .returned (.string (bs rs.flatten)) ∧ w = w' := by
  go_enter Try.func30, Try.ntmps30
  go_wp2_with fail
  go_loop [3, 4] (fun sv iv => ∃ k : Nat, k ≤ rs.length ∧ iv = .int .i64 k ∧ sv = .string (bs (rs.take k).flatten)) (fun _ iv => rs.length - (intOf iv).toNat)
  case atStart => exact ⟨0, Nat.zero_le _, rfl, rfl⟩
  case round =>
    obtain ⟨k, hk, rfl, rfl⟩ := hrel
    by_cases hlt : k < rs.length
    · obtain ⟨r, hr⟩ : ∃ r, rs[k]? = some r := ⟨_, List.getElem?_eq_getElem hlt⟩
      obtain ⟨ad, rfl, h1⟩ := hx.at_ (k := k) (by simpa using hlt)
      have hg : (rs.map bs)[k]'(by simpa using hlt) = bs r := by
        rw [List.getElem_map]
        rw [List.getElem?_eq_getElem hlt] at hr
        injection hr with hr
        rw [hr]
      rw [hg] at h1
      have H : Hid (bs (rs.take k).flatten ++ bs r = bs (rs.take (k + 1)).flatten) := by
        show _ = _
        rw [bs_append, List.take_add_one, hr]
        simp
      have hb : ¬ 9223372036854775807 < (bs (rs.take k).flatten).size + (bs r).size := by
        have h2 := off_le rs (k + 1)
        have h3 := off_next hr
        rw [bs_size, bs_size]
        unfold off at h2 h3
        omega
      clear hr hg hx
      generalize bs (rs.take k).flatten = S at *
      generalize bs r = R at *
      go_wp2
      go_round
      case rel => exact ⟨k + 1, by omega, by go_num, by rw [← H.out]⟩
      case measure => simp [intOf]; omega
    · have hkl : k = rs.length := by omega
      subst hkl
      rw [List.take_length]
      clear hx
      go_wp2
      go_ret
      exact ⟨rfl, rfl⟩
end Go.Proofs.Ytlkkajmmcdigoaa
