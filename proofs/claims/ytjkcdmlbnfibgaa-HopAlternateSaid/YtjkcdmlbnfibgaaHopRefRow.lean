/-
  The document's places and the classes there: row.
-/
import Derived.Test.YtjkcdmlbnfibgaaHop
import Derived.Test.YtjkcdmlbnfibgaaKey
import Derived.Test.YtjkcdmlbnfibgaaClassRefs
import Derived.Test.YtjkcdmlbnfibgaaUtfRef
import Derived.Test.YtjkcdmlbnfibgaaUtfRefs
import Derived.Deep.RegionHeld3
namespace Go.Proofs.Ytjkcdmlbnfibgaa
open Go.RowKit
namespace Hop
/-- A class; none of blanks and of line feeds. -/
def knd (c : Nat) : Nat := if c = 1 ∨ c = 4 then 0 else c
/-- The places, and the classes there, as the document counts them. -/
def P (s : List UInt8) (big : Bool) : List Int := (R s big).map fun x => (x.1 : Int)
def K (s : List UInt8) (big : Bool) : List Int := (R s big).map fun x => (knd x.2 : Int)
theorem rows_places (big : Bool) (p : Nat) (rs : List (List UInt8)) : (rows big p rs).map (fun x => (x.1 : Int)) = Utf.pl p rs := by
  induction rs generalizing p with
  | nil => rfl
  | cons r rs ih => rw [rows, List.map_cons, ih, Utf.pl]
theorem P_places (s : List UInt8) (big : Bool) : P s big = Utf.places s := by
  cases h : Utf.dec s with
  | none => rw [P, R_bad h, Utf.places_none h]; rfl
  | some rs => rw [P, R_ok h, Utf.places_some h, rows_places]
theorem P_length (s : List UInt8) (big : Bool) : (P s big).length = (R s big).length := by simp [P]
theorem K_length (s : List UInt8) (big : Bool) : (K s big).length = (R s big).length := by simp [K]
theorem R_len (s : List UInt8) (big : Bool) : (R s big).length ≤ s.length + 1 := by
  have := Utf.places_size s
  rw [← P_places s big, P_length] at this
  exact this
theorem K_at {s : List UInt8} {rs : List (List UInt8)} (h : Utf.dec s = some rs) (big : Bool) {k : Nat} {r : List UInt8} (hr : rs[k]? = some r) : (K s big).take (k + 1) = (K s big).take k ++ [(knd (Class.head r big) : Int)] := by
  have := rows_take big 0 rs hr
  rw [K, R_ok h, ← List.map_take, this]; simp
theorem K_end {s : List UInt8} {rs : List (List UInt8)} (h : Utf.dec s = some rs) (big : Bool) : (K s big).take (rs.length + 1) = (K s big).take rs.length ++ [0] := by
  rw [List.take_of_length_le (by rw [K_length, R_ok h, rows_length]; exact Nat.le_refl _), K, R_ok h, ← List.map_take]
  have := congrArg (List.map fun x : Nat × Nat => (knd x.2 : Int)) (rows_all big 0 rs)
  rw [List.map_append] at this
  exact this
end Hop
set_option maxHeartbeats 2000000 in
set_option maxRecDepth 100000 in
theorem ref15_row (s : ByteArray) (big : Bool) (hs : s.size ≤ 1000000000000) (w : World) :
    Calls Try.prog 20 #[.string s, .bool big] w fun e w' => ∃ A c A' c', e = .returned (.tuple #[.slice A (Hop.R s.data.toList big).length c, .slice A' (Hop.R s.data.toList big).length c']) ∧ Ints w' A (Hop.P s.data.toList big) ∧ Ints w' A' (Hop.K s.data.toList big) ∧ Below w.heap.size w w' := by
  have hl : s.data.toList.length = s.size := by simp
  have hRl := Hop.R_len s.data.toList big
  have c1 := split_got s (by omega) w
  rw [← Hop.P_places s.data.toList big, Hop.P_length] at c1
  obtain ⟨i0, hi, hz0, hz1, hz2⟩ := info_parts info_int
  cases hd : Utf.dec s.data.toList with
  | none =>
    have HR := Lib.hid (Hop.R_bad hd big)
    have HK : Hid (Hop.K s.data.toList big = []) := by show _ = _; rw [Hop.K, HR.out]; rfl
    rw [HR.out] at c1
    have C1 := Lib.hid c1
    clear c1 hd hRl
    go_enter Try.func20, Try.ntmps20
    go_wp2_with (go_at_call 30; refine C1.out.mono ?_; rintro e w1 ⟨⟨A, c, rfl, hI⟩, hb⟩)
    go_loopw [7, 8] (fun v iv wr => v = .slice none 0 0 ∧ iv = .int .i64 0 ∧ wr = w1) (fun _ _ _ => 0)
    case atStart => exact ⟨rfl, rfl, rfl⟩
    case round =>
      obtain ⟨rfl, rfl, rfl⟩ := hrel
      go_wp2
      go_ret2
      refine ⟨A, c, none, 0, by rw [HR.out]; rfl, hI, ?_, hb⟩
      rw [HK.out]
      exact fun h => absurd h (Nat.not_lt_zero _)
  | some rs =>
    have hn : (Hop.R s.data.toList big).length = rs.length + 1 := by rw [Hop.R_ok hd, Hop.rows_length]
    have HP : Hid (Hop.P s.data.toList big = Utf.pl 0 rs) := by show _ = _; rw [Hop.P_places, Utf.places_some hd]
    have HD := Lib.hid hd
    have HK := Lib.hid (And.intro (fun (k : Nat) (r : List UInt8) (hr : rs[k]? = some r) => Hop.K_at hd big hr) (Hop.K_end hd big))
    have HKn : Hid ((Hop.K s.data.toList big).length = rs.length + 1) := by show _ = _; rw [Hop.K_length, hn]
    rw [hn] at c1 hRl ⊢
    have C1 := Lib.hid c1
    clear c1 hd hn
    generalize Hop.K s.data.toList big = KL at *
    go_enter Try.func20, Try.ntmps20
    go_wp2_with (go_at_call 30; refine C1.out.mono ?_; rintro e w1 ⟨⟨A, c, rfl, hI⟩, hb⟩)
    have HW := Lib.hid hb
    clear hb
    go_loopw [7, 8] (fun v iv wr => ∃ (k : Nat) (a : Option Addr) (cc : Nat), k ≤ rs.length + 1 ∧ iv = .int .i64 k ∧ v = .slice a k cc ∧ wr.ownsRow w1.heap.size 3 1 (.slice a k cc) k ((KL.take k).map (Value.int .i64)) ∧ Below w1.heap.size w1 wr) (fun _ iv _ => rs.length + 1 - (intOf iv).toNat)
    case atStart => exact ⟨0, none, 0, Nat.zero_le _, rfl, rfl, World.ownsRow_nil _ _ _ _, Below.refl _ _⟩
    case round =>
      obtain ⟨k, a, cc, hk, rfl, rfl, hown, hW⟩ := hrel
      have hwr : w1.heap.size ≤ wr.heap.size := hW.size
      by_cases hlt : k < rs.length
      · obtain ⟨r, hr⟩ : ∃ r, rs[k]? = some r := ⟨_, List.getElem?_eq_getElem hlt⟩
        have hg1 : (Utf.pl 0 rs)[k]? = some ((Utf.off rs k : Nat) : Int) := by rw [Utf.pl_get 0 (by omega), Nat.zero_add]
        have hg2 : (Utf.pl 0 rs)[k + 1]? = some ((Utf.off rs (k + 1) : Nat) : Int) := by rw [Utf.pl_get 0 (by omega), Nat.zero_add]
        rw [HP.out] at hI
        obtain ⟨ad, rfl, hab, hcells⟩ := hI (by rw [Utf.pl_length]; omega)
        have HI2 := Lib.hid hI
        have L1 : wr.cell? (ad.add k) = some (.int .i64 (Utf.off rs k : Nat)) := (hW.cell (p := ad.add k) (by rw [block_of_add]; exact hab)).trans (hcells k _ hg1)
        have L2 : wr.cell? { block := ad.block, off := ad.off + (k + 1) } = some (.int .i64 (Utf.off rs (k + 1) : Nat)) := (hW.cell (p := ad.add (k + 1)) (by rw [block_of_add]; exact hab)).trans (hcells (k + 1) _ hg2)
        have hin := Utf.off_in HD.out (k + 1)
        have hmo := Utf.off_mono (rs := rs) (i := k) (j := k + 1) (by omega)
        rw [hl] at hin
        have E1 := between s HD.out hr
        have b1 : (k : Int) < (rs.length : Int) + 1 := by omega
        have b2 : k < rs.length + 1 := by omega
        have b4 : (0 : Int) ≤ (k : Int) + 1 := by omega
        have b5 : (k : Int) < (rs.length : Int) := by omega
        have b6 : (k : Int) + 1 < (rs.length : Int) + 1 := by omega
        have b3 : IntKind.i64.wrap ((k : Int) + 1) = (k : Int) + 1 := by rw [IntKind.wrap_i64]; omega
        have ho : Utf.one r = true := (Utf.dec_some HD.out).1 r (List.mem_of_getElem? hr)
        have hr4 := Utf.one_le ho
        have c2 := Lib.hid (ref5_Kind (bs r) big (by rw [bs_size]; omega) (.inr (by rw [bs_toList]; exact ho)))
        rw [bs_toList] at c2
        have HT := Lib.hid (HK.out.1 k r hr)
        clear hr hg1 hg2 hcells ho hr4 hI HP
        generalize Utf.off rs (k + 1) = z at *
        generalize Utf.off rs k = y at *
        generalize Class.head r big = hd at *
        by_cases h1 : hd = 1
        · subst h1
          rw [show ((1 : Nat) : Int) = 1 from rfl] at c2
          rw [show ((Hop.knd 1 : Nat) : Int) = 0 from rfl] at HT
          go_wp2
          go_quiet ((first | (go_at_call 31; exact (c2.out _).mono fun e w1 h => ⟨h.1, _, h.2.symm⟩)))
          have hW2 : Below w1.heap.size w1 (wr.drewN nq) := hW.trans ((below_gb (gb_drewN wr nq none)).mono hwr)
          have hown2 := own_below hown (below_gb (gb_drewN wr nq none))
          generalize wr.drewN nq = w3 at *
          clear hown hW L1 L2
          have hwr3 : w1.heap.size ≤ w3.heap.size := hW2.size
          go_wp2_with (at_builtin; refine wpList_append_own _ rfl _ _ 24 rfl w1.heap.size 3 i0 (.int .i64 0) 1 8 Try.underlying24 hi hz0 hz1 hz2 rfl (by decide) _ _ _ rfl (hown2.alloc _) ⟨w3.heap.size, 0, none⟩ 1 1 [.int .i64 0] rfl rfl (append_one_cell _ _ _) (by intro u hu; simp at hu; subst hu; rfl) (by unfold maxLen; omega) (by omega) (by simp; omega) ?_)
          intro v' w4 hown' hgrow _
          have hW4 : Below w1.heap.size w1 w4 := (hW2.alloc hwr3 _).grown hgrow (by simp; omega) (fun g hg => (hown2.lt g hg).1)
          obtain ⟨a', c', rfl⟩ := own_shape hown'
          have hown4 : w4.ownsRow w1.heap.size 3 1 (.slice a' (k + 1) c') (k + 1) ((KL.take (k + 1)).map (Value.int .i64)) := by rw [HT.out, List.map_append, List.map_take]; exact hown'
          clear hown' hgrow hown2 hW2
          go_wp2
          go_roundw
          case rel => exact ⟨k + 1, a', c', by omega, by go_num, rfl, hown4, hW4⟩
          case measure => simp [intOf] <;> omega
        · by_cases h4 : hd = 4
          · subst h4
            rw [show ((4 : Nat) : Int) = 4 from rfl] at c2
            rw [show ((Hop.knd 4 : Nat) : Int) = 0 from rfl] at HT
            go_wp2
            go_quiet ((first | (go_at_call 31; exact (c2.out _).mono fun e w1 h => ⟨h.1, _, h.2.symm⟩)))
            have hW2 : Below w1.heap.size w1 (wr.drewN nq) := hW.trans ((below_gb (gb_drewN wr nq none)).mono hwr)
            have hown2 := own_below hown (below_gb (gb_drewN wr nq none))
            generalize wr.drewN nq = w3 at *
            clear hown hW L1 L2
            have hwr3 : w1.heap.size ≤ w3.heap.size := hW2.size
            go_wp2_with (at_builtin; refine wpList_append_own _ rfl _ _ 24 rfl w1.heap.size 3 i0 (.int .i64 0) 1 8 Try.underlying24 hi hz0 hz1 hz2 rfl (by decide) _ _ _ rfl (hown2.alloc _) ⟨w3.heap.size, 0, none⟩ 1 1 [.int .i64 0] rfl rfl (append_one_cell _ _ _) (by intro u hu; simp at hu; subst hu; rfl) (by unfold maxLen; omega) (by omega) (by simp; omega) ?_)
            intro v' w4 hown' hgrow _
            have hW4 : Below w1.heap.size w1 w4 := (hW2.alloc hwr3 _).grown hgrow (by simp; omega) (fun g hg => (hown2.lt g hg).1)
            obtain ⟨a', c', rfl⟩ := own_shape hown'
            have hown4 : w4.ownsRow w1.heap.size 3 1 (.slice a' (k + 1) c') (k + 1) ((KL.take (k + 1)).map (Value.int .i64)) := by rw [HT.out, List.map_append, List.map_take]; exact hown'
            clear hown' hgrow hown2 hW2
            go_wp2
            go_roundw
            case rel => exact ⟨k + 1, a', c', by omega, by go_num, rfl, hown4, hW4⟩
            case measure => simp [intOf] <;> omega
          · rw [show Hop.knd hd = hd from by rw [Hop.knd, if_neg (by omega)]] at HT
            have f1 : ((hd : Int) == 1) = false := by simp; omega
            have f4 : ((hd : Int) == 4) = false := by simp; omega
            go_wp2
            go_quiet ((first | (go_at_call 31; exact (c2.out _).mono fun e w1 h => ⟨h.1, _, h.2.symm⟩)))
            have hW2 : Below w1.heap.size w1 (wr.drewN nq) := hW.trans ((below_gb (gb_drewN wr nq none)).mono hwr)
            have hown2 := own_below hown (below_gb (gb_drewN wr nq none))
            generalize wr.drewN nq = w3 at *
            clear hown hW L1 L2
            have hwr3 : w1.heap.size ≤ w3.heap.size := hW2.size
            go_wp2_with (at_builtin; refine wpList_append_own _ rfl _ _ 24 rfl w1.heap.size 3 i0 (.int .i64 0) 1 8 Try.underlying24 hi hz0 hz1 hz2 rfl (by decide) _ _ _ rfl (hown2.alloc _) ⟨w3.heap.size, 0, none⟩ 1 1 [.int .i64 (hd : Nat)] rfl rfl (append_one_cell _ _ _) (by intro u hu; simp at hu; subst hu; rfl) (by unfold maxLen; omega) (by omega) (by simp; omega) ?_)
            intro v' w4 hown' hgrow _
            have hW4 : Below w1.heap.size w1 w4 := (hW2.alloc hwr3 _).grown hgrow (by simp; omega) (fun g hg => (hown2.lt g hg).1)
            obtain ⟨a', c', rfl⟩ := own_shape hown'
            have hown4 : w4.ownsRow w1.heap.size 3 1 (.slice a' (k + 1) c') (k + 1) ((KL.take (k + 1)).map (Value.int .i64)) := by rw [HT.out, List.map_append, List.map_take]; exact hown'
            clear hown' hgrow hown2 hW2
            go_wp2
            go_roundw
            case rel => exact ⟨k + 1, a', c', by omega, by go_num, rfl, hown4, hW4⟩
            case measure => simp [intOf] <;> omega
      · by_cases hend : k = rs.length
        · have b1 : (k : Int) < (rs.length : Int) + 1 := by omega
          have b3 : IntKind.i64.wrap ((k : Int) + 1) = (k : Int) + 1 := by rw [IntKind.wrap_i64]; omega
          have b5 : decide ((k : Int) + 1 < (rs.length : Int) + 1) = false := decide_eq_false (by omega)
          have HT := Lib.hid HK.out.2
          subst hend
          clear hlt
          have hW2 := hW
          have hown2 := hown
          obtain ⟨w3, hw3⟩ : ∃ w3, wr = w3 := ⟨_, rfl⟩
          subst hw3
          clear hown hW
          have hwr3 : w1.heap.size ≤ wr.heap.size := hW2.size
          go_wp2_with (at_builtin; refine wpList_append_own _ rfl _ _ 24 rfl w1.heap.size 3 i0 (.int .i64 0) 1 8 Try.underlying24 hi hz0 hz1 hz2 rfl (by decide) _ _ _ rfl (hown2.alloc _) ⟨wr.heap.size, 0, none⟩ 1 1 [.int .i64 0] rfl rfl (append_one_cell _ _ _) (by intro u hu; simp at hu; subst hu; rfl) (by unfold maxLen; omega) (by omega) (by simp; omega) ?_)
          intro v' w4 hown' hgrow _
          have hW4 : Below w1.heap.size w1 w4 := (hW2.alloc hwr3 _).grown hgrow (by simp; omega) (fun g hg => (hown2.lt g hg).1)
          obtain ⟨a', c', rfl⟩ := own_shape hown'
          have hown4 : w4.ownsRow w1.heap.size 3 1 (.slice a' (rs.length + 1) c') (rs.length + 1) ((KL.take (rs.length + 1)).map (Value.int .i64)) := by rw [HT.out, List.map_append, List.map_take]; exact hown'
          clear hown' hgrow hown2 hW2
          go_wp2
          go_roundw
          case rel => exact ⟨rs.length + 1, a', c', by omega, by go_num, rfl, hown4, hW4⟩
          case measure => simp [intOf] <;> omega
        · obtain rfl : k = rs.length + 1 := by omega
          have hI2 := hI.grown (gb_below none hW) (fun ad _ h => by cases h)
          have hI3 := Ints.of_own (xs := KL) (A := a) (n := rs.length + 1) (c := cc) (by rw [HKn.out]; rw [List.take_of_length_le (by rw [HKn.out]; exact Nat.le_refl _)] at hown; exact hown) rfl
          have HX := Lib.hid (And.intro hI2 (And.intro hI3 (HW.out.trans (hW.mono HW.out.size))))
          clear hI2 hI3 hown hW hI hlt hend
          go_wp2
          go_ret2
          exact ⟨A, c, a, cc, rfl, HX.out.1, HX.out.2.1, HX.out.2.2⟩
end Go.Proofs.Ytjkcdmlbnfibgaa
