/-
  A tree as lines: the document's answer.
-/
import Derived.Test.YtchmiigjiojiaaaDoorTrunkDraw
import Derived.Test.YtchmiigjiojiaaaDoorTreeRefRight
import Derived.Deep.RegionHeld3
namespace Go.Proofs.YtchmiigjiojiaaaDoor
open Go.RowKit
open Tre Trk
/-- The words of a row, one behind the other. -/
theorem rowB_eq (k : Nat) (x : Nd) : bs (Lib.itoa k) ++ ⟨#[32]⟩ ++ bs (Lib.itoa x.up) ++ ⟨#[32]⟩ ++ bs (Lib.itoa x.next) ++ ⟨#[32]⟩ ++ bs (Lib.itoa x.before) ++ ⟨#[32]⟩ ++ bs (Lib.itoa x.after) ++ ⟨#[32]⟩ ++ bs (Lib.itoa x.at_) ++ ⟨#[32]⟩ ++ bs (Lib.itoa x.old.size) ++ ⟨#[32]⟩ ++ bs (Lib.itoa x.new.size) = bs (rowB k x) := by
  rw [show (⟨#[32]⟩ : ByteArray) = bs [32] from rfl]
  simp only [bs_append]
  congr 1
  unfold rowB words
  simp [Lib.join_cons, Lib.joinTail]
set_option maxHeartbeats 4000000 in
set_option maxRecDepth 100000 in
theorem ref12_Draw {A : Option Addr} {c : Nat} {l : List Nd} {cur : Int} {w : World} (hx : Nds w A l) (hlen : l.length ≤ 2000) (hI : ∀ x ∈ l, NdI x) :
    Calls Tryd.prog 12 #[.agg #[.slice A l.length c, .int .i64 cur]] w (TextsIs (drawB l cur) w) := by
  have HR := Lib.hid (fun (u : World) (h : Below w.heap.size w u) => ref11_Right (c := c) (cur := cur) (hx.below h))
  have HB := Lib.hid (fun u => blk1 w #[.slice A l.length c, .int .i64 cur] 24 (u := u))
  have W1 := al (Below.refl w.heap.size w) (.cells #[.slice A l.length c, .int .i64 cur] 24)
  have Y1 := Blk.new w 24 #[.slice A l.length c, .int .i64 cur]
  by_cases hR : Right l cur
  · have H : Hid (drawB l cur = linesB l cur l.length) := if_pos hR
    rw [decide_eq_true hR] at HR
    have HW := Lib.hid (fun (k : Nat) (x : Nd) (h : l[k]? = some x) => right_i64 hR h)
    have HII := Lib.hid hI
    have DG := Lib.hid (fun (u : World) (n : Int) (h : I64 n) => digits_any n h u)
    have h0 := hR.one
    obtain ⟨i0, hi, hz0, hz1, hz2⟩ := info_parts info_string
    obtain ⟨b, off, rfl, hbw, CC⟩ := hx.addr (by omega)
    have CE := Lib.hid CC
    clear hR hI CC hx
    go_enter Tryd.func12, Tryd.ntmps12
    go_wp2_with fail
    generalize w.alloc (.cells #[.slice (some ⟨b, off, none⟩) l.length c, .int .i64 cur] 24) = w1 at *
    go_loopw [3, 4] (fun v i wr => ∃ (k : Nat) (A' : Option Addr) (c' : Nat), v = .slice A' k c' ∧ i = .int .i64 k ∧ k ≤ l.length ∧ wr.ownsRow w.heap.size 9 1 v k ((linesB l cur k).map wordV) ∧ Blk wr w.heap.size 24 #[.slice (some ⟨b, off, none⟩) l.length c, .int .i64 cur] ∧ Below w.heap.size w wr) (fun _ i _ => l.length - (intOf i).toNat)
    case atStart => exact ⟨0, none, 0, rfl, rfl, Nat.zero_le _, World.ownsRow_nil _ _ _ _, Y1, W1⟩
    case round =>
      obtain ⟨k, A', c', rfl, rfl, hk, hown, Y, hW⟩ := hrel
      clear W1 Y1
      have t0 := Y.cell 0
      have t1 := Y.cell 1
      by_cases hlt : k < l.length
      · obtain ⟨x, hx⟩ : ∃ x, l[k]? = some x := ⟨_, List.getElem?_eq_getElem hlt⟩
        obtain ⟨j1, j2⟩ := HW.out k x hx
        obtain ⟨j3, j4, j5, j6, j7⟩ := HII.out x (List.mem_of_getElem? hx)
        have j0 : I64 (k : Int) := by unfold I64; omega
        have HCC := Lib.hid (fun u (hu : Below w.heap.size w u) => CE.out u _ hu (Nat.le_refl _) _ _ hx)
        have HS := Lib.hid (linesB_succ (cur := cur) hx)
        have HQ := rowB_eq k x
        have hrz := rowB_size j0 j1 j2 ⟨j3, j4, j5, j6, j7⟩
        have hrs : (bs (rowB k x)).size ≤ 200 := by rw [bs_size]; exact hrz
        clear hrz
        have s0 := itoa_size _ j0
        have D0 := fun u => digits_any (k : Int) j0 u
        have s1 := itoa_size _ j1
        have D1 := fun u => digits_any x.up j1 u
        have s2 := itoa_size _ j2
        have D2 := fun u => digits_any x.next j2 u
        have s3 := itoa_size _ j3
        have D3 := fun u => digits_any x.before j3 u
        have s4 := itoa_size _ j4
        have D4 := fun u => digits_any x.after j4 u
        have s5 := itoa_size _ j5
        have D5 := fun u => digits_any x.at_ j5 u
        have s6 := itoa_size _ j6
        have D6 := fun u => digits_any (x.old.size : Int) j6 u
        have s7 := itoa_size _ j7
        have D7 := fun u => digits_any (x.new.size : Int) j7 u
        generalize bs (Lib.itoa (k : Int)) = a0 at HQ s0 D0
        generalize bs (Lib.itoa x.up) = a1 at HQ s1 D1
        generalize bs (Lib.itoa x.next) = a2 at HQ s2 D2
        generalize bs (Lib.itoa x.before) = a3 at HQ s3 D3
        generalize bs (Lib.itoa x.after) = a4 at HQ s4 D4
        generalize bs (Lib.itoa x.at_) = a5 at HQ s5 D5
        generalize bs (Lib.itoa (x.old.size : Int)) = a6 at HQ s6 D6
        generalize bs (Lib.itoa (x.new.size : Int)) = a7 at HQ s7 D7
        have HQ := Lib.hid HQ
        have D0 := Lib.hid D0
        have D1 := Lib.hid D1
        have D2 := Lib.hid D2
        have D3 := Lib.hid D3
        have D4 := Lib.hid D4
        have D5 := Lib.hid D5
        have D6 := Lib.hid D6
        have D7 := Lib.hid D7
        have f0 : ¬ 9223372036854775807 < a0.size + 1 := by omega
        have f1 : ¬ 9223372036854775807 < a0.size + 1 + a1.size := by omega
        have f2 : ¬ 9223372036854775807 < a0.size + 1 + a1.size + 1 := by omega
        have f3 : ¬ 9223372036854775807 < a0.size + 1 + a1.size + 1 + a2.size := by omega
        have f4 : ¬ 9223372036854775807 < a0.size + 1 + a1.size + 1 + a2.size + 1 := by omega
        have f5 : ¬ 9223372036854775807 < a0.size + 1 + a1.size + 1 + a2.size + 1 + a3.size := by omega
        have f6 : ¬ 9223372036854775807 < a0.size + 1 + a1.size + 1 + a2.size + 1 + a3.size + 1 := by omega
        have f7 : ¬ 9223372036854775807 < a0.size + 1 + a1.size + 1 + a2.size + 1 + a3.size + 1 + a4.size := by omega
        have f8 : ¬ 9223372036854775807 < a0.size + 1 + a1.size + 1 + a2.size + 1 + a3.size + 1 + a4.size + 1 := by omega
        have f9 : ¬ 9223372036854775807 < a0.size + 1 + a1.size + 1 + a2.size + 1 + a3.size + 1 + a4.size + 1 + a5.size := by omega
        have f10 : ¬ 9223372036854775807 < a0.size + 1 + a1.size + 1 + a2.size + 1 + a3.size + 1 + a4.size + 1 + a5.size + 1 := by omega
        have f11 : ¬ 9223372036854775807 < a0.size + 1 + a1.size + 1 + a2.size + 1 + a3.size + 1 + a4.size + 1 + a5.size + 1 + a6.size := by omega
        have f12 : ¬ 9223372036854775807 < a0.size + 1 + a1.size + 1 + a2.size + 1 + a3.size + 1 + a4.size + 1 + a5.size + 1 + a6.size + 1 := by omega
        have f13 : ¬ 9223372036854775807 < a0.size + 1 + a1.size + 1 + a2.size + 1 + a3.size + 1 + a4.size + 1 + a5.size + 1 + a6.size + 1 + a7.size := by omega
        clear j0 j1 j2 j3 j4 j5 j6 j7 s0 s1 s2 s3 s4 s5 s6 s7
        have g0 : decide ((k : Int) < (l.length : Int)) = true := decide_eq_true (by omega)
        clear hx
        go_wp2_with (go_at_call 22; ((with_reducible refine (HR.out _ hW).mono ?_); rintro e w3 ⟨rfl, hb3⟩; have W3 := hW.trans (hb3.mono hW.size); have Y3 := Y.below hb3 Y.lt; have O3 := hown.kept (gb_below none hb3) (by cases hv : (Value.slice A' k c').ownBlock <;> simp); obtain ⟨e0, e1, e2, e3, e4, e5, e6⟩ := HCC.out _ W3; have t2 := Y3.cell 0; have t3 := Y3.cell 1))
        have N4 := Blk.new w3 40 #[.int .i64 x.up, .int .i64 x.next, .int .i64 x.before, .int .i64 x.after, .int .i64 x.at_, .string x.old, .string x.new]
        have W4 := W3.alloc W3.size (.cells #[.int .i64 x.up, .int .i64 x.next, .int .i64 x.before, .int .i64 x.after, .int .i64 x.at_, .string x.old, .string x.new] 40)
        have Y4 := Y3.alloc (.cells #[.int .i64 x.up, .int .i64 x.next, .int .i64 x.before, .int .i64 x.after, .int .i64 x.at_, .string x.old, .string x.new] 40)
        have O4 := O3.alloc (.cells #[.int .i64 x.up, .int .i64 x.next, .int .i64 x.before, .int .i64 x.after, .int .i64 x.at_, .string x.old, .string x.new] 40)
        clear hown Y hW Y3 O3 hb3 W3 e0 e1 e2 e3 e4 e5 e6 t0 t1 t2 t3
        generalize w3.alloc (.cells #[.int .i64 x.up, .int .i64 x.next, .int .i64 x.before, .int .i64 x.after, .int .i64 x.at_, .string x.old, .string x.new] 40) = W at *
        generalize w3.heap.size = nb at *
        have P : Hid (∀ u, Below W.heap.size W u → (u.cell? ⟨nb, 0, none⟩ = some (.int .i64 x.up) ∧ u.cell? ⟨nb, 1, none⟩ = some (.int .i64 x.next) ∧ u.cell? ⟨nb, 2, none⟩ = some (.int .i64 x.before) ∧ u.cell? ⟨nb, 3, none⟩ = some (.int .i64 x.after) ∧ u.cell? ⟨nb, 4, none⟩ = some (.int .i64 x.at_) ∧ u.cell? ⟨nb, 5, none⟩ = some (.string x.old) ∧ u.cell? ⟨nb, 6, none⟩ = some (.string x.new)) ∧ Blk u w.heap.size 24 #[.slice (some ⟨b, off, none⟩) l.length c, .int .i64 cur] ∧ u.ownsRow w.heap.size 9 1 (.slice A' k c') k ((linesB l cur k).map wordV) ∧ Below w.heap.size w u) := fun u hu => by
          have n4 := N4.below hu N4.lt
          exact ⟨⟨n4.cell 0, n4.cell 1, n4.cell 2, n4.cell 3, n4.cell 4, n4.cell 5, n4.cell 6⟩, Y4.below hu Y4.lt, O4.kept (gb_below none hu) (by cases hv : (Value.slice A' k c').ownBlock <;> simp), W4.trans (hu.mono W4.size)⟩
        clear N4 W4 Y4 O4
        obtain ⟨⟨x0, x1, x2, x3, x4, x5, x6⟩, _⟩ := P.out W (Below.refl _ _)
        have V : Below W.heap.size W W.drew := (Below.refl _ _).drew
        go_region_held3 (fun u => u.cell? ⟨nb, 0, none⟩ = some (.int .i64 x.up) ∧ u.cell? ⟨nb, 1, none⟩ = some (.int .i64 x.next) ∧ u.cell? ⟨nb, 2, none⟩ = some (.int .i64 x.before) ∧ u.cell? ⟨nb, 3, none⟩ = some (.int .i64 x.after) ∧ u.cell? ⟨nb, 4, none⟩ = some (.int .i64 x.at_) ∧ u.cell? ⟨nb, 5, none⟩ = some (.string x.old) ∧ u.cell? ⟨nb, 6, none⟩ = some (.string x.new))
          (first | exact ⟨by assumption, by assumption, by assumption, by assumption, by assumption, by assumption, by assumption⟩ | go_keep)
          (first
            | (go_at_call 26; ((with_reducible refine (D0.out _).mono ?_); rintro e u ⟨rfl, hb6⟩; replace V := V.trans (hb6.mono V.size); obtain ⟨⟨x0, x1, x2, x3, x4, x5, x6⟩, _⟩ := P.out _ V))
            | (go_at_call 26; ((with_reducible refine (D1.out _).mono ?_); rintro e u ⟨rfl, hb6⟩; replace V := V.trans (hb6.mono V.size); obtain ⟨⟨x0, x1, x2, x3, x4, x5, x6⟩, _⟩ := P.out _ V))
            | (go_at_call 26; ((with_reducible refine (D2.out _).mono ?_); rintro e u ⟨rfl, hb6⟩; replace V := V.trans (hb6.mono V.size); obtain ⟨⟨x0, x1, x2, x3, x4, x5, x6⟩, _⟩ := P.out _ V))
            | (go_at_call 26; ((with_reducible refine (D3.out _).mono ?_); rintro e u ⟨rfl, hb6⟩; replace V := V.trans (hb6.mono V.size); obtain ⟨⟨x0, x1, x2, x3, x4, x5, x6⟩, _⟩ := P.out _ V))
            | (go_at_call 26; ((with_reducible refine (D4.out _).mono ?_); rintro e u ⟨rfl, hb6⟩; replace V := V.trans (hb6.mono V.size); obtain ⟨⟨x0, x1, x2, x3, x4, x5, x6⟩, _⟩ := P.out _ V))
            | (go_at_call 26; ((with_reducible refine (D5.out _).mono ?_); rintro e u ⟨rfl, hb6⟩; replace V := V.trans (hb6.mono V.size); obtain ⟨⟨x0, x1, x2, x3, x4, x5, x6⟩, _⟩ := P.out _ V))
            | (go_at_call 26; ((with_reducible refine (D6.out _).mono ?_); rintro e u ⟨rfl, hb6⟩; replace V := V.trans (hb6.mono V.size); obtain ⟨⟨x0, x1, x2, x3, x4, x5, x6⟩, _⟩ := P.out _ V))
            | (go_at_call 26; ((with_reducible refine (D7.out _).mono ?_); rintro e u ⟨rfl, hb6⟩; replace V := V.trans (hb6.mono V.size); obtain ⟨⟨x0, x1, x2, x3, x4, x5, x6⟩, _⟩ := P.out _ V)))
        obtain ⟨_, Y5, O5, W5⟩ := P.out _ V
        have y1 := Y5.cell 1
        clear x0 x1 x2 x3 x4 x5 x6 V P f0 f1 f2 f3 f4 f5 f6 f7 f8 f9 f10 f11 f12 f13 hb6
        by_cases hcur : (k : Int) = cur
        · have g1 : ((k : Int) == cur) = true := by rw [beq_iff_eq]; exact hcur
          have HV : Hid (bs (rowB k x) ++ ⟨#[32, 42]⟩ = bs (lineB cur k x)) := by
            show _ = _
            unfold lineB
            rw [if_pos hcur, ← bs_append]
            rfl
          have hlim : ¬ 9223372036854775807 < (bs (rowB k x)).size + 2 := by omega
          clear hcur
          go_wp2_with (at_builtin; refine wpList_append_own _ rfl _ _ 30 rfl w.heap.size 9 i0 (.string ⟨#[]⟩) 1 16 Tryd.underlying30 hi hz0 hz1 hz2 rfl (by decide) _ _ _ rfl (O5.alloc _) ⟨u.heap.size, 0, none⟩ 1 1 [.string (bs (rowB k x) ++ ⟨#[32, 42]⟩)] rfl rfl ?ca1 ?ca2 ?ca3 ?ca4 ?ca5 ?_)
          case ca1 =>
            intro i v hv
            have hb := Blk.new u 9 #[.string (bs (rowB k x) ++ ⟨#[32, 42]⟩)]
            rw [add_plain, Nat.zero_add, hb.cell]
            simpa using hv
          case ca2 => intro v hv; simp at hv; subst hv; rfl
          case ca3 => unfold maxLen; omega
          case ca4 => omega
          case ca5 => have := W5.size; rw [World.size_alloc]; omega
          intro v' w6 hown6 hgrow6 _
          obtain ⟨a6, cap6, rfl⟩ := own_shape hown6
          rw [HV.out, ← wordV_snoc, ← HS.out] at hown6
          have U2 := O5.alloc (.cells #[.string (bs (rowB k x) ++ ⟨#[32, 42]⟩)] 9)
          have W6 := (W5.alloc W5.size (.cells #[.string (bs (rowB k x) ++ ⟨#[32, 42]⟩)] 9)).grown hgrow6 (by have := W5.size; rw [World.size_alloc]; omega) (fun j hj => (U2.lt j hj).1)
          have Y6 := (Y5.alloc (.cells #[.string (bs (rowB k x) ++ ⟨#[32, 42]⟩)] 9)).grown hgrow6 (fun e => own_blk_ne U2 (Y5.alloc (.cells #[.string (bs (rowB k x) ++ ⟨#[32, 42]⟩)] 9)) (by decide) e.symm)
          clear hgrow6 U2 W5 Y5 O5 y1
          go_wp2
          go_roundw
          case rel => exact ⟨k + 1, a6, cap6, rfl, by go_num, by omega, hown6, Y6, W6⟩
          case measure => simp [intOf]; omega
        · have g1 : ((k : Int) == cur) = false := by rw [beq_eq_false_iff_ne]; exact hcur
          have HV : Hid (bs (rowB k x) = bs (lineB cur k x)) := by
            show _ = _
            unfold lineB
            rw [if_neg hcur]
          clear hcur
          go_wp2_with (at_builtin; refine wpList_append_own _ rfl _ _ 30 rfl w.heap.size 9 i0 (.string ⟨#[]⟩) 1 16 Tryd.underlying30 hi hz0 hz1 hz2 rfl (by decide) _ _ _ rfl (O5.alloc _) ⟨u.heap.size, 0, none⟩ 1 1 [.string (bs (rowB k x))] rfl rfl ?cb1 ?cb2 ?cb3 ?cb4 ?cb5 ?_)
          case cb1 =>
            intro i v hv
            have hb := Blk.new u 9 #[.string (bs (rowB k x))]
            rw [add_plain, Nat.zero_add, hb.cell]
            simpa using hv
          case cb2 => intro v hv; simp at hv; subst hv; rfl
          case cb3 => unfold maxLen; omega
          case cb4 => omega
          case cb5 => have := W5.size; rw [World.size_alloc]; omega
          intro v' w6 hown6 hgrow6 _
          obtain ⟨a6, cap6, rfl⟩ := own_shape hown6
          rw [HV.out, ← wordV_snoc, ← HS.out] at hown6
          have U2 := O5.alloc (.cells #[.string (bs (rowB k x))] 9)
          have W6 := (W5.alloc W5.size (.cells #[.string (bs (rowB k x))] 9)).grown hgrow6 (by have := W5.size; rw [World.size_alloc]; omega) (fun j hj => (U2.lt j hj).1)
          have Y6 := (Y5.alloc (.cells #[.string (bs (rowB k x))] 9)).grown hgrow6 (fun e => own_blk_ne U2 (Y5.alloc (.cells #[.string (bs (rowB k x))] 9)) (by decide) e.symm)
          clear hgrow6 U2 W5 Y5 O5 y1
          go_wp2
          go_roundw
          case rel => exact ⟨k + 1, a6, cap6, rfl, by go_num, by omega, hown6, Y6, W6⟩
          case measure => simp [intOf]; omega
      · obtain rfl : k = l.length := by omega
        go_wp2
        go_ret
        rw [H.out]
        exact textsIs_own (linesB_length _ _ _) hown hW
  · have H : Hid (drawB l cur = []) := if_neg hR
    rw [decide_eq_false hR] at HR
    clear hR hI hx
    go_enter Tryd.func12, Tryd.ntmps12
    go_wp2_with fail
    generalize w.alloc (.cells #[.slice A l.length c, .int .i64 cur] 24) = w1 at *
    go_loopw [3, 4] (fun v i wr => v = .slice none 0 0 ∧ i = .int .i64 0 ∧ wr = w1) (fun _ _ _ => 0)
    case atStart => exact ⟨rfl, rfl, rfl⟩
    case round =>
      obtain ⟨rfl, rfl, rfl⟩ := hrel
      have t0 := Y1.cell 0
      have t1 := Y1.cell 1
      by_cases h0 : l.length = 0
      · have g0 : decide ((0 : Int) < (l.length : Int)) = false := decide_eq_false (by omega)
        have g1 : ¬ 0 < l.length := by omega
        clear h0
        go_wp2
        go_ret
        rw [H.out]
        exact ⟨none, 0, rfl, fun h => absurd h (by simp), Nat.le_refl _, W1⟩
      · have g0 : decide ((0 : Int) < (l.length : Int)) = true := decide_eq_true (by omega)
        have g1 : 0 < l.length := by omega
        clear h0
        go_wp2_with (go_at_call 22; ((with_reducible refine (HR.out _ W1).mono ?_); rintro e w3 ⟨rfl, hb3⟩))
        go_ret
        rw [H.out]
        exact ⟨none, 0, rfl, fun h => absurd h (by simp), Nat.le_refl _, W1.trans (hb3.mono W1.size)⟩
end Go.Proofs.YtchmiigjiojiaaaDoor
