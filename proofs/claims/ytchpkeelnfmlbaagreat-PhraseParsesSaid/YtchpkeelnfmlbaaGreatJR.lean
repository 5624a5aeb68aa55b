/-
  Is a key a thing's, in the document's way?
-/
import Derived.Test.YtchpkeelnfmlbaaGreatThing
import Derived.Test.YtchpkeelnfmlbaaGreatJP
import Derived.Test.YtchpkeelnfmlbaaGreatUtfIs
import Derived.Test.YtchpkeelnfmlbaaGreatUtfPlaces
import Derived.Test.YtchpkeelnfmlbaaGreatInts
import Derived.Test.YtchpkeelnfmlbaaGreatKeyCheck
import Derived.Test.YtchpkeelnfmlbaaGreatKeySign
import Derived.Deep.RegionHeld3
import Derived.Test.YtchpkeelnfmlbaaGreatPhrase
namespace Go.Proofs.YtchpkeelnfmlbaaGreat
open Go.RowKit
open Thing (num)
namespace Thing
def keyL : List UInt8 := [119, 87, 112, 40, 41, 98, 91, 93, 123, 125, 66, 60, 62, 34, 39, 96]
def keyCells : Array Value := #[.string ⟨#[119]⟩, .string ⟨#[87]⟩, .string ⟨#[112]⟩, .string ⟨#[40]⟩, .string ⟨#[41]⟩, .string ⟨#[98]⟩, .string ⟨#[91]⟩, .string ⟨#[93]⟩, .string ⟨#[123]⟩, .string ⟨#[125]⟩, .string ⟨#[66]⟩, .string ⟨#[60]⟩, .string ⟨#[62]⟩, .string ⟨#[34]⟩, .string ⟨#[39]⟩, .string ⟨#[96]⟩]
theorem keyCells_at {j : Nat} {b : UInt8} (h : keyL[j]? = some b) : keyCells[j]? = some (.string (bs [b])) := by
  rcases j with _ | _ | _ | _ | _ | _ | _ | _ | _ | _ | _ | _ | _ | _ | _ | _ | j <;> first | (injection h with h; subst h; rfl) | (exact absurd h (by simp [keyL]))
theorem num_some {l : List UInt8} {i : Nat} {b : UInt8} (h : keyL[i]? = some b) (hb : [b] = l) : (num l).isSome = true := by
  subst hb
  rcases i with _ | _ | _ | _ | _ | _ | _ | _ | _ | _ | _ | _ | _ | _ | _ | _ | i <;> first | (injection h with h; subst h; rfl) | (exact absurd h (by simp [keyL]))
theorem num_none {l : List UInt8} (h : ∀ (i : Nat) b, i < 16 → keyL[i]? = some b → [b] ≠ l) : num l = none := by
  cases hn : num l with
  | none => rfl
  | some m =>
    have ht := num_tab.1 hn
    unfold tab at ht
    simp only [List.mem_cons, Prod.mk.injEq, List.not_mem_nil, or_false] at ht
    rcases ht with ⟨rfl, _⟩ | ⟨rfl, _⟩ | ⟨rfl, _⟩ | ⟨rfl, _⟩ | ⟨rfl, _⟩ | ⟨rfl, _⟩ | ⟨rfl, _⟩ | ⟨rfl, _⟩ | ⟨rfl, _⟩ | ⟨rfl, _⟩ | ⟨rfl, _⟩ | ⟨rfl, _⟩ | ⟨rfl, _⟩ | ⟨rfl, _⟩ | ⟨rfl, _⟩ | ⟨rfl, _⟩ <;> first | exact absurd rfl (h 0 _ (by omega) rfl) | exact absurd rfl (h 1 _ (by omega) rfl) | exact absurd rfl (h 2 _ (by omega) rfl) | exact absurd rfl (h 3 _ (by omega) rfl) | exact absurd rfl (h 4 _ (by omega) rfl) | exact absurd rfl (h 5 _ (by omega) rfl) | exact absurd rfl (h 6 _ (by omega) rfl) | exact absurd rfl (h 7 _ (by omega) rfl) | exact absurd rfl (h 8 _ (by omega) rfl) | exact absurd rfl (h 9 _ (by omega) rfl) | exact absurd rfl (h 10 _ (by omega) rfl) | exact absurd rfl (h 11 _ (by omega) rfl) | exact absurd rfl (h 12 _ (by omega) rfl) | exact absurd rfl (h 13 _ (by omega) rfl) | exact absurd rfl (h 14 _ (by omega) rfl) | exact absurd rfl (h 15 _ (by omega) rfl)
end Thing
set_option maxHeartbeats 1000000 in
set_option maxRecDepth 100000 in
theorem ref19_Has (key : ByteArray) (w : World) :
    Calls Tryz.prog 58 #[.string key] w fun e w' => e = .returned (.bool (num key.data.toList).isSome) ∧ Below w.heap.size w w' := by
  obtain ⟨W0, hW0⟩ : ∃ W0, w.alloc (.cells Thing.keyCells 9) = W0 := ⟨_, rfl⟩
  have hB : Blk W0 w.heap.size 9 Thing.keyCells := by rw [← hW0]; exact Blk.new w 9 _
  have hWb : Below w.heap.size w W0 := by rw [← hW0]; exact (Below.refl _ w).alloc (Nat.le_refl _) _
  have P4 : Hid (∀ j b, Thing.keyL[j]? = some b → W0.cell? ⟨w.heap.size, j, none⟩ = some (.string (bs [b]))) := fun j x hp => by rw [hB.cell, Thing.keyCells_at hp]
  unfold Thing.keyCells at hW0
  generalize hM : (num key.data.toList).isSome = M
  have HM := Lib.hid hM
  clear hM hB
  generalize hBB : w.heap.size = BB at P4
  go_enter Tryz.func58, Tryz.ntmps58
  go_wp2_with fail
  go_loop [7] (fun iv => ∃ j : Nat, j ≤ 16 ∧ iv = .int .i64 j ∧ Hid (∀ (i : Nat) b, i < j → Thing.keyL[i]? = some b → [b] ≠ key.data.toList)) (fun iv => 16 - (intOf iv).toNat)
  case atStart => exact ⟨0, by omega, rfl, Lib.hid (fun i x h => by omega)⟩
  case round =>
    obtain ⟨j, hj, rfl, HN⟩ := hrel
    by_cases hj8 : j < 16
    · obtain ⟨x, hp⟩ : ∃ x, Thing.keyL[j]? = some x := ⟨_, List.getElem?_eq_getElem (show j < Thing.keyL.length by show j < 16; omega)⟩
      have X1 := P4.out j x hp
      have a1 : (j : Int) < 16 := by omega
      by_cases hx : [x] = key.data.toList
      · have hE : ((bs [x]).toList == key.toList) = true := by rw [bs_tl, hx, beq_iff_eq]; exact (bs_tl key.data.toList).symm
        have H : Hid (true = M) := by show _ = _; rw [← HM.out, Thing.num_some hp hx]
        clear hp hx P4 hW0
        generalize bs [x] = LL at *
        go_wp2
        go_ret
        exact ⟨by rw [← H.out]; rfl, by rw [← hBB]; exact hWb⟩
      · have hE : ((bs [x]).toList == key.toList) = false := by rw [bs_tl, beq_eq_false_iff_ne]; intro h; exact hx (h.trans (bs_tl key.data.toList))
        have HN2 : Hid (∀ (i : Nat) b, i < j + 1 → Thing.keyL[i]? = some b → [b] ≠ key.data.toList) := fun i y hi hy => by
          rcases Nat.lt_or_ge i j with h | h
          · exact HN.out i y h hy
          · obtain rfl : i = j := by omega
            rw [hp] at hy; injection hy with hy; rw [← hy]; exact hx
        clear hp hx P4 hW0 HN
        generalize bs [x] = LL at *
        go_wp2
        go_round
        case rel => exact ⟨j + 1, by omega, by go_num, HN2⟩
        case measure => simp [intOf]; omega
    · obtain rfl : j = 16 := by omega
      have H : Hid (false = M) := by show _ = _; rw [← HM.out, Thing.num_none HN.out]; rfl
      clear P4 hW0
      go_wp2
      go_ret
      exact ⟨by rw [← H.out]; rfl, by rw [← hBB]; exact hWb⟩
end Go.Proofs.YtchpkeelnfmlbaaGreat
/-
  Names of registers, and where they stand in the row, as the document tells them.
-/
namespace Go.Proofs.YtchpkeelnfmlbaaGreat
open Go.RowKit
open Reg
theorem names_byte {k : Nat} (h : k < 38) : wrap64 ((namesT[k]'h).toNat : Int) = nm k := by
  have h1 := names_get k h
  have e : ((namesT[k]'h).toNat : Int) = nm k := h1
  rw [e]
  have := isName_pos (nm_is h)
  unfold wrap64
  omega
set_option maxHeartbeats 1000000 in
set_option maxRecDepth 100000 in
theorem ref21_Name (n : Int) (w : World) : Calls Tryz.prog 12 #[.int .i64 n] w fun e w' => e = .returned (.int .i64 (nameN n)) ∧ w = w' := by
  by_cases h0 : n = 0
  · subst h0
    have H : Hid (nameN 0 = 34) := rfl
    go_enter Tryz.func12, Tryz.ntmps12
    go_wp2
    go_ret
    exact ⟨by rw [H.out]; rfl, rfl⟩
  · have b0 : (n == 0) = false := by simpa using h0
    by_cases h1 : 65 ≤ n ∧ n ≤ 90
    · have H : Hid (nameN n = n + 32) := nameN_add h1
      have d0 : decide (65 ≤ n) = true := decide_eq_true h1.1
      have d1 : decide (n ≤ 90) = true := decide_eq_true h1.2
      have z : IntKind.i64.wrap (n + 32) = n + 32 := by rw [IntKind.wrap_i64]; omega
      clear h0
      go_enter Tryz.func12, Tryz.ntmps12
      go_wp2
      go_ret
      exact ⟨by rw [H.out]; rfl, rfl⟩
    · have fin : ∀ (b : Bool), decide (65 ≤ n) = b → (b = true → decide (n ≤ 90) = false) → Calls Tryz.prog 12 #[.int .i64 n] w fun e w' => e = .returned (.int .i64 (nameN n)) ∧ w = w' := fun b d0 d1 => by
        have H : Hid ((∀ j, j < 38 → nm j = n → nameN n = n) ∧ ((∀ j, j < 38 → nm j ≠ n) → nameN n = 0)) := ⟨fun j hj e => nameN_name (e ▸ nm_is hj), fun h => by
          unfold nameN
          rw [if_neg h0, if_neg h1, if_neg]
          intro hI
          exact h (spot n) (nm_spot hI).2 (nm_spot hI).1⟩
        clear h0 h1
        have walk : ∀ k : Nat, True := fun _ => trivial
        clear walk
        cases b with
        | true =>
          have d1 := d1 rfl
          go_enter Tryz.func12, Tryz.ntmps12
          go_wp2_with fail
          go_loopw [3] (fun iv wr => ∃ k : Nat, k ≤ 38 ∧ iv = .int .i64 k ∧ Hid (∀ j, j < k → nm j ≠ n) ∧ w = wr) (fun iv _ => 38 - (intOf iv).toNat)
          case atStart => exact ⟨0, Nat.zero_le _, rfl, (fun j hj => by omega), rfl⟩
          case round =>
            obtain ⟨k, hk, rfl, HN, rfl⟩ := hrel
            by_cases hlt : k < 38
            · have hb := names_byte hlt
              have hk2 : (k : Int) < 38 := by omega
              have hsz : k < namesT.size := hlt
              by_cases he : nm k = n
              · have hq : (wrap64 ((namesT[k]'hlt).toNat : Int) == n) = true := by rw [hb]; simpa using he
                have H2 : Hid (nameN n = n) := H.out.1 k hlt he
                dsimp only [namesT] at hq hsz
                clear hb he H
                go_wp2
                go_ret
                exact ⟨by rw [H2.out]; rfl, rfl⟩
              · have hq : (wrap64 ((namesT[k]'hlt).toNat : Int) == n) = false := by rw [hb]; simpa using he
                have HN2 : Hid (∀ j, j < k + 1 → nm j ≠ n) := fun j hj => by
                  rcases Nat.lt_or_eq_of_le (Nat.lt_succ_iff.1 hj) with h | rfl
                  · exact HN.out j h
                  · exact he
                dsimp only [namesT] at hq hsz
                clear hb he HN
                go_wp2
                go_roundw
                case rel => exact ⟨k + 1, by omega, by go_num, HN2, trivial⟩
                case measure => simp [intOf]; omega
            · have H2 : Hid (nameN n = 0) := H.out.2 fun j hj => HN.out j (by omega)
              have hk2 : ¬ (k : Int) < 38 := by omega
              clear H HN
              go_wp2
              go_ret
              exact ⟨by rw [H2.out]; rfl, rfl⟩
        | false =>
          go_enter Tryz.func12, Tryz.ntmps12
          go_wp2_with fail
          go_loopw [3] (fun iv wr => ∃ k : Nat, k ≤ 38 ∧ iv = .int .i64 k ∧ Hid (∀ j, j < k → nm j ≠ n) ∧ w = wr) (fun iv _ => 38 - (intOf iv).toNat)
          case atStart => exact ⟨0, Nat.zero_le _, rfl, (fun j hj => by omega), rfl⟩
          case round =>
            obtain ⟨k, hk, rfl, HN, rfl⟩ := hrel
            by_cases hlt : k < 38
            · have hb := names_byte hlt
              have hk2 : (k : Int) < 38 := by omega
              have hsz : k < namesT.size := hlt
              by_cases he : nm k = n
              · have hq : (wrap64 ((namesT[k]'hlt).toNat : Int) == n) = true := by rw [hb]; simpa using he
                have H2 : Hid (nameN n = n) := H.out.1 k hlt he
                dsimp only [namesT] at hq hsz
                clear hb he H
                go_wp2
                go_ret
                exact ⟨by rw [H2.out]; rfl, rfl⟩
              · have hq : (wrap64 ((namesT[k]'hlt).toNat : Int) == n) = false := by rw [hb]; simpa using he
                have HN2 : Hid (∀ j, j < k + 1 → nm j ≠ n) := fun j hj => by
                  rcases Nat.lt_or_eq_of_le (Nat.lt_succ_iff.1 hj) with h | rfl
                  · exact HN.out j h
                  · exact he
                dsimp only [namesT] at hq hsz
                clear hb he HN
                go_wp2
                go_roundw
                case rel => exact ⟨k + 1, by omega, by go_num, HN2, trivial⟩
                case measure => simp [intOf]; omega
            · have H2 : Hid (nameN n = 0) := H.out.2 fun j hj => HN.out j (by omega)
              have hk2 : ¬ (k : Int) < 38 := by omega
              clear H HN
              go_wp2
              go_ret
              exact ⟨by rw [H2.out]; rfl, rfl⟩
      exact fin _ rfl (fun hb => by
        have := of_decide_eq_true hb
        exact decide_eq_false (by omega))
end Go.Proofs.YtchpkeelnfmlbaaGreat
/-
  The document's places of any bytes.
-/
namespace Go.Proofs.YtchpkeelnfmlbaaGreat
open Go.RowKit
open Utf
theorem split_none {l : List UInt8} {done : List (List UInt8)} {p : Nat} (h : dec l = (dec (l.drop p)).map (done ++ ·)) (hp : p < l.length) (hn : ∀ m, 0 < m → m < 5 → ¬ (m ≤ l.length - p ∧ m = siz (l.drop p))) : places l = [] := by
  have h4 := siz_le (l.drop p)
  have h1 : dec (l.drop p) = none := dec_bad (by intro h1; have := congrArg List.length h1; simp at this; omega) (by
    rw [List.length_drop]
    rcases Nat.eq_zero_or_pos (siz (l.drop p)) with h0 | h0
    · exact Or.inl h0
    · have := hn _ h0 (by omega)
      omega)
  rw [h1] at h
  exact places_none h
theorem split_one {l : List UInt8} {done : List (List UInt8)} {p k : Nat} (h : dec l = (dec (l.drop p)).map (done ++ ·)) (h0 : 0 < k) (hk : k ≤ l.length - p) (hs : k = siz (l.drop p)) :
    dec l = (dec (l.drop (p + k))).map ((done ++ [(l.drop p).take k]) ++ ·) := by
  have h1 := dec_one ((l.drop p).drop k) (r := (l.drop p).take k) (by rw [hs]; exact one_take (by omega) (by rw [List.length_drop]; omega))
  rw [List.take_append_drop, List.drop_drop] at h1
  rw [h, h1]
  cases dec (l.drop (p + k)) <;> simp
theorem split_end {l : List UInt8} {done : List (List UInt8)} {p : Nat} (h : dec l = (dec (l.drop p)).map (done ++ ·)) (hp : l.length ≤ p) : places l = pl 0 done := by
  rw [List.drop_eq_nil_of_le hp, dec_nil] at h
  simpa using places_some h
theorem append_one_cell (w : World) (t : TypeId) (v : Value) (j : Nat) (u : Value) (h : [v][j]? = some u) : (w.alloc (.cells #[v] t)).cell? ((⟨w.heap.size, 0, none⟩ : Addr).add j) = some u := by
  have hb := Blk.new w t #[v]
  have e : (⟨w.heap.size, 0, none⟩ : Addr).add j = ⟨w.heap.size, j, none⟩ := by unfold Addr.add; split <;> simp_all
  rw [e, hb.cell]
  match j, h with
  | 0, h => simpa using h
theorem own_below {w w' : World} {base : Nat} {e : TypeId} {size n : Nat} {v : Value} {xs : List Value} (h : w.ownsRow base e size v n xs) (hb : Below w.heap.size w w') : w'.ownsRow base e size v n xs :=
  h.kept (gb_below (some w.heap.size) hb) (Or.inr (fun he => by have := (h.lt _ he).2; omega))
set_option maxHeartbeats 1000000 in
set_option maxRecDepth 100000 in
theorem ref_Split (s : ByteArray) (hs : s.size ≤ 17592186044000) (w : World) :
    Calls Tryz.prog 27 #[.string s] w fun e w' => GotInts w.heap.size (places s.data.toList) e w' ∧ Below w.heap.size w w' := by
  have hl : s.data.toList.length = s.size := by simp
  obtain ⟨R, HR⟩ : ∃ R, Hid (places s.data.toList = R) := ⟨_, rfl⟩
  rw [HR.out]
  obtain ⟨i0, hi, hz0, hz1, hz2⟩ := info_parts info_int
  go_enter Tryz.func27, Tryz.ntmps27
  go_wp2_with fail
  go_loopw [3, 4, 5] (fun v x _ wr => ∃ (a : Option Addr) (c : Nat) (done : List (List UInt8)) (p : Nat), v = .slice a (pl 0 done).length c ∧ wr.ownsRow w.heap.size 3 1 v (pl 0 done).length ((pl 0 done).map (Value.int .i64)) ∧ x = .int .i64 p ∧ Hid (p = done.flatten.length) ∧ p ≤ s.size ∧ done.length ≤ p ∧ Hid (dec s.data.toList = (dec (s.data.toList.drop p)).map (done ++ ·)) ∧ Below w.heap.size w wr)
    (fun _ x _ _ => s.size - (intOf x).toNat)
  case atStart => exact ⟨_, 1, [], 0, rfl, World.ownsRow_lit w #[.int .i64 0] 1 (Nat.le_refl _) (by decide) rfl, rfl, rfl, Nat.zero_le _, Nat.le_refl _, by show _ = _; simp, (Below.refl _ _).alloc (Nat.le_refl _) _⟩
  case round =>
    obtain ⟨a, c, done, p, rfl, hown, rfl, hpd, hp, hdl, K, hb⟩ := hrel
    rcases Nat.lt_or_ge p s.size with hlt | hge
    · go_wp2_with fail
      go_loopw [5] (fun x w2 => ∃ k : Nat, 0 < k ∧ k ≤ 5 ∧ x = .int .i64 k ∧ Hid (∀ m, 0 < m → m < k → ¬ (m ≤ s.data.toList.length - p ∧ m = siz (s.data.toList.drop p))) ∧ Below wr.heap.size wr w2) (fun x _ => 5 - (intOf x).toNat)
      case atStart => exact ⟨1, by omega, by omega, rfl, fun m h1 h2 => absurd h1 (by omega), Below.refl _ _⟩
      case round =>
        obtain ⟨k, hk0, hk5, rfl, N, hb2⟩ := hrel
        rcases Nat.lt_or_ge 4 k with h5 | h5
        · have H : Hid (R = []) := by
            show _ = _
            rw [← HR.out]
            exact split_none K.out (by omega) (fun m h1 h2 => N.out m h1 (by omega))
          clear N K hpd
          go_wp2
          go_ret
          rw [H.out]
          exact ⟨gotInts_nil _ _, hb.trans (hb2.mono hb.size)⟩
        · rcases Nat.lt_or_ge s.size (p + k) with h6 | h6
          · have N2 : Hid (∀ m, 0 < m → m < k + 1 → ¬ (m ≤ s.data.toList.length - p ∧ m = siz (s.data.toList.drop p))) := fun m h1 h2 h3 => by
              rcases Nat.lt_or_ge m k with h7 | h7
              · exact N.out m h1 h7 h3
              · omega
            clear N K hpd
            go_wp2
            go_roundw
            case rel => exact ⟨k + 1, by omega, by omega, by go_num, N2, hb2⟩
            case measure => simp [intOf]; omega
          · have e1 : s.extract p (p + k) = bs ((s.data.toList.drop p).take k) := by
              rw [Lib.extract_eq, show p + k - p = k by omega]; rfl
            have c1 := Lib.hid (fun w => ref_Is (s.extract p (p + k)) w)
            have h7 := one_of_take (s := s.data.toList.drop p) (n := k) (by rw [List.length_drop]; omega)
            rw [e1, bs_toList, ← e1] at c1
            cases ho : one ((s.data.toList.drop p).take k) with
            | false =>
              rw [ho] at c1 h7
              have N2 : Hid (∀ m, 0 < m → m < k + 1 → ¬ (m ≤ s.data.toList.length - p ∧ m = siz (s.data.toList.drop p))) := fun m h1 h2 h3 => by
                rcases Nat.lt_or_ge m k with h8 | h8
                · exact N.out m h1 h8 h3
                · have := h7.2 ⟨by omega, by omega⟩
                  cases this
              clear N K hpd e1 h7 ho
              go_wp2_with (go_at_call 31; refine (c1.out _).mono ?_; rintro e w3 ⟨rfl, hb3⟩)
              go_roundw
              case rel => exact ⟨k + 1, by omega, by omega, by go_num, N2, hb2.trans (hb3.mono hb2.size)⟩
              case measure => simp [intOf]; omega
            | true =>
              rw [ho] at c1
              have K2 := Lib.hid (split_one K.out hk0 (by omega) (h7.1 ho).2)
              have P2 : Hid (p + k = (done ++ [(s.data.toList.drop p).take k]).flatten.length) := by
                show _ = _
                rw [List.flatten_append, List.length_append, ← hpd.out]
                simp; omega
              have hsn := Lib.hid (pl_snoc 0 done ((s.data.toList.drop p).take k))
              have hsl : Hid (((s.data.toList.drop p).take k).length = k) := by show _ = _; rw [List.length_take, List.length_drop]; omega
              clear N K e1 h7 ho
              generalize (s.data.toList.drop p).take k = r at *
              have hpl := Lib.hid (pl_length 0 done)
              have hown2 := own_below hown hb2
              have hbb := hb.trans (hb2.mono hb.size)
              clear hown hb hb2
              go_wp2_with (first
                | (go_at_call 31; refine (c1.out _).mono ?_; rintro e w3 ⟨rfl, hb3⟩; have hown3 := own_below hown2 hb3; have hR := hbb.trans (hb3.mono hbb.size))
                | (at_builtin; refine wpList_append_own _ rfl _ _ 50 rfl w.heap.size 3 i0 (.int .i64 0) 1 8 Tryz.underlying50 hi hz0 hz1 hz2 rfl (by decide) _ _ _ rfl (hown3.alloc _) ⟨w3.heap.size, 0, none⟩ 1 1 [.int .i64 ((p : Int) + k)] rfl rfl ?c1 ?c2 ?c3 ?c4 ?c5 ?_))
              case c1 => exact append_one_cell _ _ _
              case c2 => intro u hu; simp at hu; subst hu; rfl
              case c3 => have := hpl.out; unfold maxLen; omega
              case c4 => first | omega | (have := hpl.out; omega)
              case c5 => have := hR.size; simp; omega
              intro v' w4 hown' hgrow _
              have hR4 : Below w.heap.size w w4 := (hR.alloc hR.size _).grown hgrow (by have := hR.size; simp; omega) (fun g hg => (hown3.lt g hg).1)
              have hown4 : w4.ownsRow w.heap.size 3 1 v' (pl 0 (done ++ [r])).length ((pl 0 (done ++ [r])).map (Value.int .i64)) := by
                rw [hsn.out]
                rw [show ((0 + done.flatten.length + r.length : Nat) : Int) = (p : Int) + k by have := hpd.out; have := hsl.out; omega]
                simpa using hown'
              obtain ⟨a', c', hv'⟩ := own_shape hown4
              clear hown' hgrow hown2 hown3 hR hbb hb3 hsn hpd hsl
              subst hv'
              go_wp2
              go_roundw
              case rel => exact ⟨a', c', done ++ [r], p + k, rfl, hown4, by go_num, P2, by omega, by simp; omega, K2, hR4⟩
              case measure => simp [intOf]; omega
    · have H : Hid (R = pl 0 done) := by show _ = _; rw [← HR.out]; exact split_end K.out (by omega)
      clear K
      go_wp2
      go_ret
      exact ⟨⟨_, rfl, by rw [H.out]; exact hown⟩, hb⟩
end Go.Proofs.YtchpkeelnfmlbaaGreat
/-
  The document's answers about any bytes, by their places.
-/
namespace Go.Proofs.YtchpkeelnfmlbaaGreat
open Go.RowKit
open Utf
namespace Utf
/-- Which of a list one is; -1: none. -/
def find (l : List Int) (x : Int) : Int := match idx l x with | none => -1 | some i => (i : Int)
theorem find_some {l : List Int} {x : Int} {i : Nat} (h : l[i]? = some x) (hn : ∀ j, j < i → l[j]? ≠ some x) : find l x = i := by rw [find, idx_some h hn]
theorem find_none {l : List Int} {x : Int} (hn : ∀ j : Nat, l[j]? ≠ some x) : find l x = -1 := by rw [find, idx_none hn]
theorem idx_lt {l : List Int} {x : Int} {i : Nat} (h : idx l x = some i) : i < l.length := by
  rw [idx, List.findIdx?_eq_some_iff_getElem] at h
  exact h.1
theorem places_size (s : List UInt8) : (places s).length ≤ s.length + 1 := by
  cases h : dec s with
  | none => simp [places_none h]
  | some rs =>
    rw [places_length h]
    have h1 := off_top h (Nat.le_refl _)
    have h2 : ∀ i, i ≤ rs.length → i ≤ off rs i := fun i hi => by
      induction i with
      | zero => omega
      | succ i ih =>
        have := ih (by omega)
        have := off_lt (dec_some h).1 (show i < i + 1 by omega) hi
        omega
    have := h2 _ (Nat.le_refl _)
    omega
end Utf
/-- The document's places, as memory holds them. -/
theorem split_got (s : ByteArray) (hs : s.size ≤ 17592186044000) (w : World) :
    Calls Tryz.prog 27 #[.string s] w fun e w' => (∃ A c, e = .returned (.slice A (places s.data.toList).length c) ∧ Ints w' A (places s.data.toList)) ∧ Below w.heap.size w w' := by
  refine (ref_Split s hs w).mono ?_
  rintro e w' ⟨⟨v, rfl, hown⟩, hb⟩
  obtain ⟨a, c, rfl⟩ := own_shape hown
  exact ⟨⟨a, c, rfl, Ints.of_own hown rfl⟩, hb⟩
end Go.Proofs.YtchpkeelnfmlbaaGreat
/-
  The document's answers about any bytes, by their places: next, prev, rune, count, offset, cut.
-/
namespace Go.Proofs.YtchpkeelnfmlbaaGreat
open Go.RowKit
open Utf
theorem add_succ (a : Addr) (i : Nat) : a.add (i + 1) = { block := a.block, off := a.off + (i + 1) } := rfl
theorem place_get {s : List UInt8} {k : Nat} {x : Int} (h : (places s)[k]? = some x) : 0 ≤ x ∧ x ≤ s.length := by
  cases hd : dec s with
  | none => rw [places_none hd] at h; simp at h
  | some rs =>
    have hk : k < (places s).length := (List.getElem?_eq_some_iff.1 h).1
    rw [places_length hd] at hk
    rw [places_get hd (by omega)] at h
    injection h with h
    have := off_in hd k
    omega
end Go.Proofs.YtchpkeelnfmlbaaGreat
/-
  The document's answer: signs, names, keys.
-/
namespace Go.Proofs.YtchpkeelnfmlbaaGreat
open Go.RowKit
theorem text_test (k : ByteArray) (m : UInt8) : (k.toList == [m]) = decide (k.data.toList = [m]) := by
  have e : k.toList = k.data.toList := bs_tl k.data.toList
  rw [e, Bool.eq_iff_iff]
  simp
/-- What the document's answer calls a name. -/
def Key.nameK (l : List UInt8) : List UInt8 := if Utf.one l then Key.nameR l else []
theorem Key.nameK_no {l : List UInt8} (h : ∀ c q, Key.nm c = some q → l ≠ [UInt8.ofNat c]) : Key.nameK l = if Utf.one l && Key.sgn l then l else [] := by
  unfold Key.nameK
  cases ho : Utf.one l with
  | false => rfl
  | true =>
    have hn : Key.nm (Key.cp l) = none := by
      cases hn : Key.nm (Key.cp l) with
      | none => rfl
      | some q => exact absurd (Key.nm_cp ho hn) (h _ q hn)
    simp only [if_true, Bool.true_and, Key.nameR, hn]
set_option maxHeartbeats 1000000 in
set_option maxRecDepth 100000 in
theorem ref13_Name (k : ByteArray) (w : World) :
    Calls Tryz.prog 49 #[.string k] w fun e w' => e = .returned (.string (bs (Key.nameK k.data.toList))) ∧ Below w.heap.size w w' := by
  have c1 := Lib.hid (ref13_Sign k)
  generalize hN : Key.nameK k.data.toList = ans
  have HN := Lib.hid hN
  clear hN
  by_cases h8 : k.data.toList = [8]
  · have H : Hid (ans = Key.nBack) := by show _ = _; rw [← HN.out, h8]; rfl
    have g8 : (k.toList == [8]) = true := by rw [text_test, h8]; decide
    clear h8 c1 HN
    go_enter Tryz.func49, Tryz.ntmps49
    go_wp2
    go_ret
    exact ⟨by rw [H.out]; rfl, Below.refl _ _⟩
  have g8 : (k.toList == [8]) = false := by rw [text_test]; simpa using h8
  by_cases h9 : k.data.toList = [9]
  · have H : Hid (ans = Key.nTab) := by show _ = _; rw [← HN.out, h9]; rfl
    have g9 : (k.toList == [9]) = true := by rw [text_test, h9]; decide
    clear h9 c1 HN
    go_enter Tryz.func49, Tryz.ntmps49
    go_wp2
    go_ret
    exact ⟨by rw [H.out]; rfl, Below.refl _ _⟩
  have g9 : (k.toList == [9]) = false := by rw [text_test]; simpa using h9
  by_cases h13 : k.data.toList = [13]
  · have H : Hid (ans = Key.nEnter) := by show _ = _; rw [← HN.out, h13]; rfl
    have g13 : (k.toList == [13]) = true := by rw [text_test, h13]; decide
    clear h13 c1 HN
    go_enter Tryz.func49, Tryz.ntmps49
    go_wp2
    go_ret
    exact ⟨by rw [H.out]; rfl, Below.refl _ _⟩
  have g13 : (k.toList == [13]) = false := by rw [text_test]; simpa using h13
  by_cases h18 : k.data.toList = [18]
  · have H : Hid (ans = Key.nRedo) := by show _ = _; rw [← HN.out, h18]; rfl
    have g18 : (k.toList == [18]) = true := by rw [text_test, h18]; decide
    clear h18 c1 HN
    go_enter Tryz.func49, Tryz.ntmps49
    go_wp2
    go_ret
    exact ⟨by rw [H.out]; rfl, Below.refl _ _⟩
  have g18 : (k.toList == [18]) = false := by rw [text_test]; simpa using h18
  by_cases h21 : k.data.toList = [21]
  · have H : Hid (ans = Key.nWipe) := by show _ = _; rw [← HN.out, h21]; rfl
    have g21 : (k.toList == [21]) = true := by rw [text_test, h21]; decide
    clear h21 c1 HN
    go_enter Tryz.func49, Tryz.ntmps49
    go_wp2
    go_ret
    exact ⟨by rw [H.out]; rfl, Below.refl _ _⟩
  have g21 : (k.toList == [21]) = false := by rw [text_test]; simpa using h21
  by_cases h23 : k.data.toList = [23]
  · have H : Hid (ans = Key.nChop) := by show _ = _; rw [← HN.out, h23]; rfl
    have g23 : (k.toList == [23]) = true := by rw [text_test, h23]; decide
    clear h23 c1 HN
    go_enter Tryz.func49, Tryz.ntmps49
    go_wp2
    go_ret
    exact ⟨by rw [H.out]; rfl, Below.refl _ _⟩
  have g23 : (k.toList == [23]) = false := by rw [text_test]; simpa using h23
  by_cases h27 : k.data.toList = [27]
  · have H : Hid (ans = Key.nEsc) := by show _ = _; rw [← HN.out, h27]; rfl
    have g27 : (k.toList == [27]) = true := by rw [text_test, h27]; decide
    clear h27 c1 HN
    go_enter Tryz.func49, Tryz.ntmps49
    go_wp2
    go_ret
    exact ⟨by rw [H.out]; rfl, Below.refl _ _⟩
  have g27 : (k.toList == [27]) = false := by rw [text_test]; simpa using h27
  by_cases h60 : k.data.toList = [60]
  · have H : Hid (ans = Key.nLt) := by show _ = _; rw [← HN.out, h60]; rfl
    have g60 : (k.toList == [60]) = true := by rw [text_test, h60]; decide
    clear h60 c1 HN
    go_enter Tryz.func49, Tryz.ntmps49
    go_wp2
    go_ret
    exact ⟨by rw [H.out]; rfl, Below.refl _ _⟩
  have g60 : (k.toList == [60]) = false := by rw [text_test]; simpa using h60
  have H := Lib.hid (Key.nameK_no (l := k.data.toList) (fun c q hc e => by
    have h2 := Key.nm_tab.1 hc
    simp only [Key.tab, List.mem_cons, Prod.mk.injEq, List.not_mem_nil, or_false] at h2
    rcases h2 with ⟨rfl, _⟩ | ⟨rfl, _⟩ | ⟨rfl, _⟩ | ⟨rfl, _⟩ | ⟨rfl, _⟩ | ⟨rfl, _⟩ | ⟨rfl, _⟩ | ⟨rfl, _⟩
    · exact h8 e
    · exact h9 e
    · exact h13 e
    · exact h18 e
    · exact h21 e
    · exact h23 e
    · exact h27 e
    · exact h60 e))
  cases hsg : (Utf.one k.data.toList && Key.sgn k.data.toList) with
  | true =>
    rw [hsg] at c1 H
    simp only [if_true] at H
    clear h8 h9 h13 h18 h21 h23 h27 h60 hsg
    go_enter Tryz.func49, Tryz.ntmps49
    go_wp2_with (go_at_call 11; refine (c1.out _).mono ?_; rintro e w1 ⟨rfl, hb⟩)
    go_ret
    exact ⟨by rw [← HN.out, H.out]; rfl, hb⟩
  | false =>
    rw [hsg] at c1 H
    simp only [Bool.false_eq_true, if_false] at H
    clear h8 h9 h13 h18 h21 h23 h27 h60 hsg
    go_enter Tryz.func49, Tryz.ntmps49
    go_wp2_with (go_at_call 11; refine (c1.out _).mono ?_; rintro e w1 ⟨rfl, hb⟩)
    go_ret
    exact ⟨by rw [← HN.out, H.out]; rfl, hb⟩
theorem Key.nameK_empty (l : List UInt8) : (bs (Key.nameK l)).toList.isEmpty = !(Utf.one l && Key.isKey l) := by
  rw [bs_tl]
  unfold Key.nameK
  cases ho : Utf.one l with
  | false => rfl
  | true =>
    simp only [if_true, Bool.true_and]
    have h := Key.nameR_key ho
    cases hk : Key.isKey l with
    | true =>
      rw [hk] at h
      cases hn : Key.nameR l with
      | nil => exact absurd (h.1 hn) (by simp)
      | cons a t => rfl
    | false => rw [h.2 hk]; rfl
set_option maxRecDepth 100000 in
theorem ref13_Right (k : ByteArray) (w : World) :
    Calls Tryz.prog 28 #[.string k] w fun e w' => e = .returned (.bool (Utf.one k.data.toList && Key.isKey k.data.toList)) ∧ Below w.heap.size w w' := by
  have c1 := Lib.hid (ref13_Name k)
  have h1 := Key.nameK_empty k.data.toList
  generalize Key.nameK k.data.toList = nn at *
  cases hk : (Utf.one k.data.toList && Key.isKey k.data.toList) with
  | true =>
    rw [hk] at h1
    simp only [Bool.not_true] at h1
    clear hk
    go_enter Tryz.func28, Tryz.ntmps28
    go_wp2_with (go_at_call 49; refine (c1.out _).mono ?_; rintro e w1 ⟨rfl, hb⟩)
    go_ret
    exact ⟨rfl, hb⟩
  | false =>
    rw [hk] at h1
    simp only [Bool.not_false] at h1
    clear hk
    go_enter Tryz.func28, Tryz.ntmps28
    go_wp2_with (go_at_call 49; refine (c1.out _).mono ?_; rintro e w1 ⟨rfl, hb⟩)
    go_ret
    exact ⟨rfl, hb⟩
end Go.Proofs.YtchpkeelnfmlbaaGreat
/-
  The document's answer: keys one by one, and their text; whether two lists of texts are the same.
-/
namespace Go.Proofs.YtchpkeelnfmlbaaGreat
open Go.RowKit
set_option maxHeartbeats 1000000 in
set_option maxRecDepth 100000 in
theorem ref13_Split_cap (s : ByteArray) (hs : s.size ≤ 1000000000000) (w : World) :
    Calls Tryz.prog 9 #[.string s] w fun e w' => ∃ A c, e = .returned (.tuple #[.slice A (Key.split s.data.toList).length c, .int .i64 (Key.err s.data.toList)]) ∧ (Key.split s.data.toList).length ≤ c ∧ Strs w' A ((Key.split s.data.toList).map bs) ∧ Below w.heap.size w w' := by
  obtain ⟨i0, hi, hz0, hz1, hz2⟩ := info_parts info_string
  have hl : s.data.toList.length = s.size := by simp
  have c1 := split_got s (by omega) w
  cases hd : Utf.dec s.data.toList with
  | none =>
    rw [Utf.places_none hd] at c1
    have C1 := Lib.hid c1
    have H := Lib.hid (Key.err_bad hd)
    have H2 : Hid (Key.split s.data.toList = []) := Lib.hid (by simp [Key.split, hd])
    clear c1 hd
    go_enter Tryz.func9, Tryz.ntmps9
    go_wp2_with (go_at_call 27; refine C1.out.mono ?_; rintro e w1 ⟨⟨A, c, rfl, hI⟩, hb⟩)
    go_ret2
    exact ⟨none, 0, by rw [H.out, H2.out]; rfl, by rw [H2.out]; exact Nat.le_refl _, by rw [H2.out]; exact Strs.none _, hb⟩
  | some rs =>
    rw [Utf.places_some hd, Utf.pl_length] at c1
    have C1 := Lib.hid c1
    have HD := Lib.hid hd
    have hrl : rs.length ≤ s.size := by
      have h3 := off_ge hd (i := rs.length) (Nat.le_refl _)
      rw [Utf.off_top hd (Nat.le_refl _), hl] at h3
      exact h3
    have g12 : ((rs.length : Int) + 1 == 0) = false := by rw [beq_eq_false_iff_ne]; omega
    clear c1 hd
    go_enter Tryz.func9, Tryz.ntmps9
    go_wp2_with (go_at_call 27; refine C1.out.mono ?_; rintro e w1 ⟨⟨A, c, rfl, hI⟩, hb⟩)
    have HW := Lib.hid hb
    clear hb
    go_loopw [5, 6] (fun v iv wr => ∃ (a : Option Addr) (n : Nat) (k : Nat), k ≤ rs.length ∧ iv = .int .i64 k ∧ v = .slice a k n ∧ Hid (wr.ownsRow w1.heap.size 9 1 v k (keyRow rs k)) ∧ Below w1.heap.size w1 wr ∧ Hid ((rs.take k).all Key.isKey = true)) (fun _ iv _ => rs.length - (intOf iv).toNat)
    case atStart => exact ⟨_, 0, 0, Nat.zero_le _, rfl, rfl, World.ownsRow_nil _ _ _ _, Below.refl _ _, Lib.hid (by simp)⟩
    case round =>
      obtain ⟨a, n, k, hk, rfl, rfl, hown, hW, hall⟩ := hrel
      by_cases hlt : k < rs.length
      · obtain ⟨r, hr⟩ : ∃ r, rs[k]? = some r := ⟨_, List.getElem?_eq_getElem hlt⟩
        have hg1 : (Utf.pl 0 rs)[k]? = some ((Utf.off rs k : Nat) : Int) := by rw [Utf.pl_get 0 (by omega), Nat.zero_add]
        have hg2 : (Utf.pl 0 rs)[k + 1]? = some ((Utf.off rs (k + 1) : Nat) : Int) := by rw [Utf.pl_get 0 (by omega), Nat.zero_add]
        obtain ⟨ad, rfl, hab, hcells⟩ := hI (by rw [Utf.pl_length]; omega)
        have L1 := (hW.cell (p := ad.add k) (by rw [block_of_add]; exact hab)).trans (hcells k _ hg1)
        have L2 : wr.cell? { block := ad.block, off := ad.off + (k + 1) } = some (.int .i64 (Utf.off rs (k + 1) : Nat)) := (hW.cell (p := ad.add (k + 1)) (by rw [block_of_add]; exact hab)).trans (hcells (k + 1) _ hg2)
        have hin := Utf.off_in HD.out (k + 1)
        have hmo := Utf.off_mono (rs := rs) (i := k) (j := k + 1) (by omega)
        rw [hl] at hin
        have E1 := between s HD.out hr
        have hS := Lib.hid (word_next hr)
        have hwr : w1.heap.size ≤ wr.heap.size := hW.size
        have b1 : (k : Int) < (rs.length : Int) + 1 := by omega
        have b2 : k < rs.length + 1 := by omega
        have b4 : (0 : Int) ≤ (k : Int) + 1 := by omega
        have b5 : (k : Int) < (rs.length : Int) := by omega
        have b6 : (k : Int) + 1 < (rs.length : Int) + 1 := by omega
        have b3 : IntKind.i64.wrap ((k : Int) + 1) = (k : Int) + 1 := by rw [IntKind.wrap_i64]; omega
        have ho : Utf.one r = true := (Utf.dec_some HD.out).1 r (List.mem_of_getElem? hr)
        have c2 := Lib.hid (ref13_Right (bs r))
        rw [bs_toList, ho, Bool.true_and] at c2
        have Hr := Lib.hid hr
        clear hr hg1 hg2 hcells ho hI
        generalize Utf.off rs (k + 1) = z at *
        generalize Utf.off rs k = y at *
        cases hkey : Key.isKey r with
        | false =>
          rw [hkey] at c2
          have H := Lib.hid (Key.err_key HD.out (Key.all_not Hr.out hkey))
          have H2 := Lib.hid (Key.split_no (s := s.data.toList) (by rw [H.out]; decide))
          clear hkey hall hown
          go_wp2
          go_region
          go_wp2_with (go_at_call 28; refine (c2.out _).mono ?_; rintro e w3 ⟨rfl, hb3⟩)
          go_ret2
          exact ⟨none, 0, by rw [H.out, H2.out]; rfl, by rw [H2.out]; exact Nat.le_refl _, by rw [H2.out]; exact Strs.none _, (HW.out.trans (hW.mono HW.out.size)).trans ((below_gb (gb_drew wr none)).trans hb3 |>.mono (Nat.le_trans HW.out.size hwr))⟩
        | true =>
          rw [hkey] at c2
          have hk2 := Lib.hid (Key.all_take Hr.out hall.out hkey)
          clear hkey hall
          go_wp2
          go_region
          go_wp2_with (first
            | (go_at_call 28; refine (c2.out _).mono ?_; rintro e w3 ⟨rfl, hb3⟩; have hg3 := (gb_drew wr none).andThen (gb_below none hb3) (by simp); have own3 := hown.out.kept hg3 (by cases hv : (Value.slice a k n).ownBlock <;> simp); have hB3 := hW.trans (below_gb hg3 |>.mono hwr))
            | (at_builtin; refine wpList_append_own _ rfl _ _ 31 rfl w1.heap.size 9 i0 (.string ⟨#[]⟩) 1 16 Tryz.underlying31 hi hz0 hz1 hz2 rfl (by decide) _ _ _ rfl (own3.alloc _) ⟨w3.heap.size, 0, none⟩ 1 1 [.string (bs r)] rfl rfl ?c1 ?c2 ?c3 ?c4 ?c5 ?_))
          case c1 =>
            intro j u hu
            have hb := Blk.new w3 9 #[.string (bs r)]
            have e : (⟨w3.heap.size, 0, none⟩ : Addr).add j = ⟨w3.heap.size, j, none⟩ := by unfold Addr.add; split <;> simp_all
            rw [e, hb.cell]
            simpa using hu
          case c2 => intro u hu; simp at hu; subst hu; rfl
          case c3 => unfold maxLen; omega
          case c4 => omega
          case c5 => have := hB3.size; simp; omega
          intro v' w6 hown6 hgrow6 _
          obtain ⟨a6, cap6, rfl⟩ := own_shape hown6
          rw [← hS.out] at hown6
          have W6 := (hB3.alloc hB3.size _).grown hgrow6 (by have := hB3.size; simp; omega) (fun j hj => (own3.lt j hj).1)
          have HO := Lib.hid hown6
          clear hgrow6 own3 hown6 hg3 hB3
          go_wp2
          go_roundw
          case rel => exact ⟨a6, cap6, k + 1, by omega, by go_num, rfl, HO, W6, hk2⟩
          case measure => simp [intOf]; omega
      · obtain rfl : k = rs.length := by omega
        have d1 : decide ((rs.length : Int) + 1 < (rs.length : Int) + 1) = false := decide_eq_false (by omega)
        have hrow := hown.out
        have hC := own_cap hrow
        rw [keyRow_all] at hrow
        have hS := Lib.hid (Strs.of_own (n := rs.length) (c := n) (A := a) (xs := rs.map bs) (by rw [List.length_map]; exact hrow) rfl)
        have ha := Key.all_end (Nat.le_refl _) hall.out
        have H := Lib.hid (Key.err_ok HD.out ha)
        have H2 := Lib.hid (Key.split_ok HD.out ha)
        clear hrow hI hown hall ha
        go_wp2
        go_ret2
        exact ⟨a, n, by rw [H.out, H2.out]; rfl, by rw [H2.out]; exact hC, by rw [H2.out]; exact hS.out, HW.out.trans (hW.mono HW.out.size)⟩
theorem ref13_Split (s : ByteArray) (hs : s.size ≤ 1000000000000) (w : World) :
    Calls Tryz.prog 9 #[.string s] w fun e w' => ∃ A c, e = .returned (.tuple #[.slice A (Key.split s.data.toList).length c, .int .i64 (Key.err s.data.toList)]) ∧ Strs w' A ((Key.split s.data.toList).map bs) ∧ Below w.heap.size w w' := by
  refine (ref13_Split_cap s hs w).mono ?_
  rintro e w' ⟨A, c, h1, _, h2, h3⟩
  exact ⟨A, c, h1, h2, h3⟩
end Go.Proofs.YtchpkeelnfmlbaaGreat
/-
  The document's commands: a key among some, counts, numbers, what may stand behind what.
-/
namespace Go.Proofs.YtchpkeelnfmlbaaGreat
open Go.RowKit
open Phr (Cmd Ans)
namespace Phr
/-- A list of keys in memory. -/
structure Ls (w : World) (A : Option Addr) (n : Nat) (ks : List (List UInt8)) : Prop where
  cap : ks.length ≤ n
  strs : Strs w A (ks.map bs)
  ones : ∀ k ∈ ks, Utf.one k = true
section
variable {w w' : World} {A : Option Addr} {n : Nat} {ks : List (List UInt8)}
theorem Ls.below (h : Ls w A n ks) (hb : Below w.heap.size w w') : Ls w' A n ks := ⟨h.cap, h.strs.below hb, h.ones⟩
theorem Ls.addr {k : List UInt8} {t : List (List UInt8)} (h : Ls w A n (k :: t)) : ∃ ad, A = some ad := by
  obtain ⟨ad, e, _⟩ := h.strs (by simp)
  exact ⟨ad, e⟩
theorem Ls.at_ {ad : Addr} (h : Ls w (some ad) n ks) {j : Nat} {k : List UInt8} (hk : ks[j]? = some k) {u : World} (hb : Below w.heap.size w u) : u.cell? (ad.add j) = some (.string (bs k)) := by
  obtain ⟨ad', e, hl, hx⟩ := (h.below hb).strs (by rw [List.length_map]; have := (List.getElem?_eq_some_iff.1 hk).1; omega)
  injection e with e
  subst e
  exact hx j (bs k) (by rw [List.getElem?_map, hk]; rfl)
theorem Ls.drop_all {B : Option Addr} (h : Ls w A n ks) : Ls w B 0 (ks.drop n) := by
  have : ks.drop n = [] := List.drop_eq_nil_of_le h.cap
  rw [this]
  exact ⟨Nat.le_refl _, fun h0 => by simp at h0, fun k hk => by cases hk⟩
theorem Ls.drop {ad : Addr} (h : Ls w (some ad) n ks) (i : Nat) (hi : 0 < i) : Ls w (some ⟨ad.block, ad.off + i, none⟩) (n - i) (ks.drop i) := by
  refine ⟨by rw [List.length_drop]; have := h.cap; omega, fun h0 => ?_, fun k hk => h.ones k (List.mem_of_mem_drop hk)⟩
  rw [List.length_map, List.length_drop] at h0
  obtain ⟨ad', e, hl, hx⟩ := h.strs (by rw [List.length_map]; omega)
  injection e with e
  subst e
  refine ⟨_, rfl, hl, fun j x hj => ?_⟩
  have e2 : (⟨ad.block, ad.off + i, none⟩ : Addr).add j = ad.add (i + j) := by
    unfold Addr.add
    rw [if_neg (by omega : ¬ i + j = 0)]
    split
    · subst_vars; rfl
    · simp; omega
  rw [e2]
  exact hx (i + j) x (by rw [List.getElem?_map, List.getElem?_drop] at hj; rw [List.getElem?_map]; exact hj)
end
end Phr
open Phr (Ls)
set_option maxHeartbeats 1000000 in
set_option maxRecDepth 100000 in
theorem ref26_in (k : List UInt8) (S : ByteArray) (hS : S.size ≤ 100) (w : World) :
    Calls Tryz.prog 29 #[.string (bs k), .string S] w fun e w' => e = .returned (.bool (decide (k ∈ S.data.toList.map ([·])))) ∧ w = w' := by
  have HM : Hid (∀ z, z = decide (k ∈ S.data.toList.map ([·])) → z = decide (k ∈ S.data.toList.map ([·]))) := Lib.hid (fun z h => h)
  generalize hM : decide (k ∈ S.data.toList.map ([·])) = M at HM
  replace HM := Lib.hid hM
  have P4 : Hid (∀ j (hj : j < S.size), S.extract j (j + 1) = bs [S[j]]) := Lib.hid (fun j hj => by
    rw [Lib.extract_eq]
    show bs _ = _
    congr 1
    rw [List.drop_eq_getElem_cons (by simpa using hj), show j + 1 - j = 1 by omega]
    rfl)
  clear hM
  go_enter Tryz.func29, Tryz.ntmps29
  go_wp2_with fail
  go_loop [5] (fun iv => ∃ j : Nat, j ≤ S.size ∧ iv = .int .i64 j ∧ Hid (∀ (i : Nat) (hi : i < S.size), i < j → [S[i]] ≠ k)) (fun iv => S.size - (intOf iv).toNat)
  case atStart => exact ⟨0, by omega, rfl, Lib.hid (fun i x h => by omega)⟩
  case round =>
    obtain ⟨j, hj, rfl, HN⟩ := hrel
    by_cases hlt : j < S.size
    · have X1 := P4.out j hlt
      have a1 : (j : Int) < S.size := by omega
      by_cases hx : [S[j]] = k
      · have hE : ((bs [S[j]]).toList == (bs k).toList) = true := by rw [bs_tl, bs_tl, hx, beq_iff_eq]
        have H : Hid (true = M) := by
          show _ = _
          rw [← HM.out, decide_eq_true]
          rw [← hx]
          exact List.mem_map.2 ⟨S[j], List.getElem_mem (by simpa using hlt), rfl⟩
        clear hx P4
        generalize bs [S[j]] = LL at *
        generalize bs k = KK at *
        go_wp2
        go_ret
        exact ⟨by rw [← H.out]; rfl, rfl⟩
      · have hE : ((bs [S[j]]).toList == (bs k).toList) = false := by rw [bs_tl, bs_tl, beq_eq_false_iff_ne]; exact hx
        have HN2 : Hid (∀ (i : Nat) (hi : i < S.size), i < j + 1 → [S[i]] ≠ k) := fun i hi h => by
          rcases Nat.lt_or_ge i j with h2 | h2
          · exact HN.out i hi h2
          · obtain rfl : i = j := by omega
            exact hx
        clear hx P4 HN
        generalize bs [S[j]] = LL at *
        generalize bs k = KK at *
        go_wp2
        go_round
        case rel => exact ⟨j + 1, by omega, by go_num, HN2⟩
        case measure => simp [intOf]; omega
    · obtain rfl : j = S.size := by omega
      have H : Hid (false = M) := by
        show _ = _
        rw [← HM.out, eq_comm, decide_eq_false_iff_not]
        intro hm
        obtain ⟨b, hb, e⟩ := List.mem_map.1 hm
        obtain ⟨i, hi, he⟩ := List.mem_iff_getElem.1 hb
        have hi2 : i < S.size := by simpa using hi
        exact HN.out i hi2 hi2 (by rw [← e, ← he]; rfl)
      clear P4
      go_wp2
      go_ret
      exact ⟨by rw [← H.out]; rfl, rfl⟩
theorem ref26_cut (n : Int) (w : World) : Calls Tryz.prog 30 #[.int .i64 n] w fun e w' => e = .returned (.int .i64 (min n 99)) ∧ w = w' := by
  by_cases h : 99 < n
  · rw [show min n 99 = 99 by omega]
    go_enter Tryz.func30, Tryz.ntmps30
    go_wp2
    go_ret
    exact ⟨rfl, rfl⟩
  · rw [show min n 99 = n by omega]
    go_enter Tryz.func30, Tryz.ntmps30
    go_wp2
    go_ret
    exact ⟨rfl, rfl⟩
set_option maxRecDepth 100000 in
theorem ref26_Count (a b : Int) (w : World) : Calls Tryz.prog 13 #[.int .i64 a, .int .i64 b] w fun e w' => e = .returned (.int .i64 (Phr.count a b)) ∧ w = w' := by
  have C := Lib.hid (fun (n : Int) (w : World) => ref26_cut n w)
  by_cases ha : a < 1
  · by_cases hb : b < 1
    · rw [show Phr.count a b = 0 by rw [Phr.count, if_pos (.inl ha)]; omega]
      go_enter Tryz.func13, Tryz.ntmps13
      go_wp2
      go_ret
      exact ⟨rfl, rfl⟩
    · rw [show Phr.count a b = min b 99 by rw [Phr.count, if_pos (.inl ha)]; omega]
      go_enter Tryz.func13, Tryz.ntmps13
      go_wp2_with (go_at_call 30; (with_reducible refine (C.out _ _).mono ?_); rintro e w1 ⟨rfl, rfl⟩)
      go_ret
      exact ⟨rfl, rfl⟩
  · by_cases hb : b < 1
    · rw [show Phr.count a b = min a 99 by rw [Phr.count, if_pos (.inr hb)]; omega]
      go_enter Tryz.func13, Tryz.ntmps13
      go_wp2_with (go_at_call 30; (with_reducible refine (C.out _ _).mono ?_); rintro e w1 ⟨rfl, rfl⟩)
      go_ret
      exact ⟨rfl, rfl⟩
    · rw [show Phr.count a b = min (min a 99 * min b 99) 99 by rw [Phr.count, if_neg (by omega)]]
      have m0 : 0 ≤ min a 99 * min b 99 := Int.mul_nonneg (by omega) (by omega)
      have m1 : min a 99 * min b 99 ≤ 99 * 99 := Int.mul_le_mul (by omega) (by omega) (by omega) (by omega)
      have z : wrap64 (min a 99 * min b 99) = min a 99 * min b 99 := by unfold wrap64; omega
      go_enter Tryz.func13, Tryz.ntmps13
      go_wp2_with (go_at_call 30; (with_reducible refine (C.out _ _).mono ?_); rintro e w1 ⟨rfl, rfl⟩)
      go_ret
      exact ⟨rfl, rfl⟩
namespace Phr
theorem digits_len (n : Int) (l : List (List UInt8)) : (digits n l).2.length ≤ l.length ∧ (digits n l).2 = l.drop (l.length - (digits n l).2.length) := by
  induction l generalizing n with
  | nil => exact ⟨Nat.le_refl _, rfl⟩
  | cons k t ih =>
    simp only [digits]
    split
    · obtain ⟨h1, h2⟩ := ih (min (n * 10 + val k) 99)
      refine ⟨by simp; omega, ?_⟩
      rw [List.length_cons, show t.length + 1 - (digits (min (n * 10 + val k) 99) t).2.length = (t.length - (digits (min (n * 10 + val k) 99) t).2.length) + 1 by omega, List.drop_succ_cons]
      exact h2
    · simp
theorem number_len (l : List (List UInt8)) : (number l).2.length ≤ l.length ∧ (number l).2 = l.drop (l.length - (number l).2.length) := by
  unfold number
  split
  · simp
  · split
    · simp
    · exact digits_len 0 _
/-- How many keys a number takes. -/
def took (l : List (List UInt8)) : Nat := l.length - (number l).2.length
theorem took_le (l : List (List UInt8)) : took l ≤ l.length := Nat.sub_le _ _
theorem took_drop (l : List (List UInt8)) : l.drop (took l) = (number l).2 := (number_len l).2.symm
def ten : List (List UInt8) := [[48], [49], [50], [51], [52], [53], [54], [55], [56], [57]]
theorem digit_ten (k : List UInt8) : decide (k ∈ ten) = digit k := by
  rw [Bool.eq_iff_iff, decide_eq_true_iff]
  constructor
  · intro h
    simp only [ten, List.mem_cons, List.not_mem_nil, or_false] at h
    rcases h with rfl | rfl | rfl | rfl | rfl | rfl | rfl | rfl | rfl | rfl <;> rfl
  · intro h
    obtain ⟨b, rfl, h0, h1⟩ := digit_byte h
    have hb : b = UInt8.ofNat b.toNat := by simp
    have : b.toNat = 48 ∨ b.toNat = 49 ∨ b.toNat = 50 ∨ b.toNat = 51 ∨ b.toNat = 52 ∨ b.toNat = 53 ∨ b.toNat = 54 ∨ b.toNat = 55 ∨ b.toNat = 56 ∨ b.toNat = 57 := by omega
    rcases this with h | h | h | h | h | h | h | h | h | h <;> rw [h] at hb <;> subst hb <;> decide
theorem letter_all (k : List UInt8) : decide (k ∈ ([97, 98, 99, 100, 101, 102, 103, 104, 105, 106, 107, 108, 109, 110, 111, 112, 113, 114, 115, 116, 117, 118, 119, 120, 121, 122] : List UInt8).map ([·])) = letter k := by
  rw [Bool.eq_iff_iff, decide_eq_true_iff]
  constructor
  · intro h
    simp only [List.map_cons, List.map_nil, List.mem_cons, List.not_mem_nil, or_false] at h
    rcases h with rfl | rfl | rfl | rfl | rfl | rfl | rfl | rfl | rfl | rfl | rfl | rfl | rfl | rfl | rfl | rfl | rfl | rfl | rfl | rfl | rfl | rfl | rfl | rfl | rfl | rfl <;> rfl
  · intro h
    unfold letter at h
    split at h
    · rename_i b
      simp at h
      have hb : b = UInt8.ofNat b.toNat := by simp
      have : b.toNat = 97 ∨ b.toNat = 98 ∨ b.toNat = 99 ∨ b.toNat = 100 ∨ b.toNat = 101 ∨ b.toNat = 102 ∨ b.toNat = 103 ∨ b.toNat = 104 ∨ b.toNat = 105 ∨ b.toNat = 106 ∨ b.toNat = 107 ∨ b.toNat = 108 ∨ b.toNat = 109 ∨ b.toNat = 110 ∨ b.toNat = 111 ∨ b.toNat = 112 ∨ b.toNat = 113 ∨ b.toNat = 114 ∨ b.toNat = 115 ∨ b.toNat = 116 ∨ b.toNat = 117 ∨ b.toNat = 118 ∨ b.toNat = 119 ∨ b.toNat = 120 ∨ b.toNat = 121 ∨ b.toNat = 122 := by omega
      rcases this with h | h | h | h | h | h | h | h | h | h | h | h | h | h | h | h | h | h | h | h | h | h | h | h | h | h <;> rw [h] at hb <;> subst hb <;> decide
    · cases h
/-- A step of the document's number. -/
theorem number_zero (t : List (List UInt8)) : number ([48] :: t) = (0, [48] :: t) := by simp [number]
theorem number_digits {l : List (List UInt8)} (h : l.headD [] ≠ [48]) : number l = digits 0 l := by
  cases l with
  | nil => rfl
  | cons k t => simp only [List.headD_cons] at h; simp [number, h]
end Phr
set_option maxHeartbeats 1000000 in
set_option maxRecDepth 100000 in
theorem ref26_number_zero {A : Option Addr} {n : Nat} {t : List (List UInt8)} {w : World} (h : Ls w A n ([48] :: t)) :
    Calls Tryz.prog 10 #[.slice A (t.length + 1) n] w fun e w' => e = .returned (.tuple #[.int .i64 0, .int .i64 0]) ∧ w = w' := by
  obtain ⟨ad, rfl⟩ := h.addr
  have x0 : w.cell? ad = some (.string (bs [48])) := h.at_ (j := 0) rfl (Below.refl _ _)
  have I := Lib.hid (fun (w : World) => ref26_in [48] ⟨#[48, 49, 50, 51, 52, 53, 54, 55, 56, 57]⟩ (by decide) w)
  rw [show decide (([48] : List UInt8) ∈ (⟨#[48, 49, 50, 51, 52, 53, 54, 55, 56, 57]⟩ : ByteArray).data.toList.map ([·])) = true from rfl] at I
  have q : ((bs [48]).toList == [48]) = true := by rw [bs_tl]; rfl
  clear h
  go_enter Tryz.func10, Tryz.ntmps10
  go_wp2_with fail
  go_loopw [4, 5] (fun nv iv wr => nv = .int .i64 0 ∧ iv = .int .i64 0 ∧ w = wr) (fun _ iv _ => (intOf iv).toNat)
  case atStart => exact ⟨rfl, rfl, rfl⟩
  case round =>
    obtain ⟨rfl, rfl, rfl⟩ := hrel
    go_wp2_with (go_at_call 29; (with_reducible refine (I.out _).mono ?_); rintro e w1 ⟨rfl, rfl⟩)
    go_ret2
    exact ⟨rfl, rfl⟩
set_option maxHeartbeats 1000000 in
set_option maxRecDepth 100000 in
theorem ref26_number_some {A : Option Addr} {n : Nat} {l : List (List UInt8)} {w : World} (h : Ls w A n l) (hm : l.length ≤ 1000) (h0 : l.headD [] ≠ [48]) :
    Calls Tryz.prog 10 #[.slice A l.length n] w fun e w' => e = .returned (.tuple #[.int .i64 (Phr.number l).1, .int .i64 (Phr.took l : Nat)]) ∧ w = w' := by
  have NL := Phr.number_len l
  rw [Phr.took]
  rw [Phr.number_digits h0] at NL ⊢
  obtain ⟨D, hD⟩ : ∃ D, Phr.digits 0 l = D := ⟨_, rfl⟩
  rw [hD] at NL ⊢
  have HD : Hid (Phr.digits 0 (l.drop 0) = D) := Lib.hid hD
  have I := Lib.hid (fun (k : List UInt8) (w : World) => ref26_in k ⟨#[48, 49, 50, 51, 52, 53, 54, 55, 56, 57]⟩ (by decide) w)
  have CU := Lib.hid (fun (n : Int) (w : World) => ref26_cut n w)
  have HL := Lib.hid (fun (i : Nat) (r : List (List UInt8)) (e : D = ((D.1 : Int), r)) (er : r = l.drop i) (hi : i ≤ l.length) => show l.length - D.2.length = i by
    rw [e, er, List.length_drop]; omega)
  clear hD
  go_enter Tryz.func10, Tryz.ntmps10
  go_wp2_with fail
  go_loopw [4, 5] (fun nv iv wr => ∃ (v : Int) (i : Nat), nv = .int .i64 v ∧ 0 ≤ v ∧ v ≤ 99 ∧ iv = .int .i64 i ∧ i ≤ l.length ∧ Hid (Phr.digits v (l.drop i) = D) ∧ w = wr) (fun _ iv _ => l.length - (intOf iv).toNat)
  case atStart => exact ⟨0, 0, rfl, by omega, by omega, rfl, by omega, HD, rfl⟩
  case round =>
    obtain ⟨v, i, rfl, v0, v1, rfl, hi, hd, rfl⟩ := hrel
    by_cases hlt : i < l.length
    · obtain ⟨k, hk⟩ : ∃ k, l[i]? = some k := ⟨_, List.getElem?_eq_getElem hlt⟩
      have hdr : l.drop i = k :: l.drop (i + 1) := by rw [List.drop_eq_getElem_cons hlt]; rw [List.getElem?_eq_getElem hlt] at hk; injection hk with hk; rw [hk]
      obtain ⟨ad, hA⟩ : ∃ ad, A = some ad := by obtain ⟨ad, e, _⟩ := h.strs (by rw [List.length_map]; omega); exact ⟨ad, e⟩
      subst hA
      have xi : w.cell? (ad.add i) = some (.string (bs k)) := h.at_ hk (Below.refl _ _)
      have I1 := Lib.hid (I.out k)
      have hdd := hd.out
      rw [hdr] at hdd
      rw [show decide (k ∈ (⟨#[48, 49, 50, 51, 52, 53, 54, 55, 56, 57]⟩ : ByteArray).data.toList.map ([·])) = Phr.digit k from Phr.digit_ten k] at I1
      have a1 : (i : Int) < l.length := by omega
      have a2 : ((i : Int) + 1) ≤ 1000 := by omega
      cases hdg : Phr.digit k with
      | true =>
        obtain ⟨b, e, b0, b1⟩ := Phr.digit_byte hdg
        subst e
        rw [hdg] at I1
        rw [Phr.digits_go hdg] at hdd
        have HD2 := Lib.hid hdd
        have ez : Phr.val [b] = (b.toNat : Int) - 48 := rfl
        have q0 : i = 0 → ((bs [b]).toList == [48]) = false := fun e => by
          subst e
          rw [bs_tl, beq_eq_false_iff_ne]
          intro e
          cases l with
          | nil => cases hk
          | cons x y =>
            rw [List.getElem?_cons_zero] at hk
            injection hk with hk
            exact h0 (by rw [hk]; exact e)
        obtain ⟨s, hS⟩ : ∃ s, bs [b] = s := ⟨_, rfl⟩
        have Q0 : 0 < s.size := by rw [← hS]; exact Nat.one_pos
        have Q1 : (s[0].toNat : Int) = (b.toNat : Int) := by subst hS; rfl
        rw [hS] at xi I1 q0
        have z1 : wrap64 (10 * v) = 10 * v := by unfold wrap64; omega
        have z2 : wrap64 (b.toNat : Int) = b.toNat := by unfold wrap64; omega
        have z3 : wrap64 (10 * v + (b.toNat : Int)) = 10 * v + b.toNat := by unfold wrap64; omega
        have z4 : wrap64 (10 * v + (b.toNat : Int) - 48) = 10 * v + b.toNat - 48 := by unfold wrap64; omega
        have HV : Hid (min (v * 10 + Phr.val [b]) 99 = min (10 * v + (b.toNat : Int) - 48) 99) := Lib.hid (by rw [ez]; omega)
        have hn0 : 0 ≤ min (10 * v + (b.toNat : Int) - 48) 99 := by omega
        have hn1 : min (10 * v + (b.toNat : Int) - 48) 99 ≤ 99 := by omega
        rw [HV.out] at HD2
        clear hS hk hdr hdd hdg hd ez HV HD I NL HL h0 h
        by_cases hi0 : 0 < i
        · have a3 : (0 : Int) < i := by omega
          clear q0
          go_wp2_with (first
            | (go_at_call 29; (with_reducible refine (I1.out _).mono ?_); rintro e w1 ⟨rfl, rfl⟩)
            | (go_at_call 30; (with_reducible refine (CU.out _ _).mono ?_); rintro e w1 ⟨rfl, rfl⟩))
          go_roundw
          case rel => exact ⟨_, i + 1, rfl, hn0, hn1, by go_num, by omega, HD2, trivial⟩
          case measure => simp [intOf]; omega
        · have q1 := q0 (by omega)
          have a3 : ¬ (0 : Int) < i := by omega
          clear q0
          go_wp2_with (first
            | (go_at_call 29; (with_reducible refine (I1.out _).mono ?_); rintro e w1 ⟨rfl, rfl⟩)
            | (go_at_call 30; (with_reducible refine (CU.out _ _).mono ?_); rintro e w1 ⟨rfl, rfl⟩))
          go_roundw
          case rel => exact ⟨_, i + 1, rfl, hn0, hn1, by go_num, by omega, HD2, trivial⟩
          case measure => simp [intOf]; omega
      | false =>
        rw [hdg] at I1
        rw [Phr.digits_stop hdg] at hdd
        have H1 : Hid (D.1 = v) := Lib.hid (by rw [← hdd])
        have H2 : Hid (l.length - D.2.length = i) := Lib.hid (HL.out i (k :: l.drop (i + 1)) (by rw [← hdd]) hdr.symm hi)
        clear hk hdr hdd hdg hd HD I NL HL h0 h
        generalize bs k = kk at *
        go_wp2_with (go_at_call 29; (with_reducible refine (I1.out _).mono ?_); rintro e w1 ⟨rfl, rfl⟩)
        go_ret2
        exact ⟨by rw [H1.out, H2.out]; rfl, rfl⟩
    · obtain rfl : i = l.length := by omega
      have hdd := hd.out
      rw [List.drop_length] at hdd
      have H1 : Hid (D.1 = v) := Lib.hid (by rw [← hdd]; rfl)
      have H2 : Hid (l.length - D.2.length = l.length) := Lib.hid (by rw [← hdd]; rfl)
      clear hdd hd HD I NL HL h0 h
      go_wp2
      go_ret2
      exact ⟨by rw [H1.out, H2.out]; rfl, rfl⟩
theorem ref26_number {A : Option Addr} {n : Nat} {l : List (List UInt8)} {w : World} (h : Ls w A n l) (hm : l.length ≤ 1000) :
    Calls Tryz.prog 10 #[.slice A l.length n] w fun e w' => e = .returned (.tuple #[.int .i64 (Phr.number l).1, .int .i64 (Phr.took l : Nat)]) ∧ w = w' := by
  by_cases h0 : l.headD [] = [48]
  · match l, h, h0 with
    | k :: t, h, h0 =>
      obtain rfl : k = [48] := h0
      have e : Phr.took ([48] :: t) = 0 := by rw [Phr.took, Phr.number_zero]; simp
      rw [e, Phr.number_zero]
      exact ref26_number_zero h
  · exact ref26_number_some h hm h0
set_option maxRecDepth 100000 in
theorem ref26_sign {k : List UInt8} (w : World) : Calls Tryz.prog 59 #[.string (bs k)] w fun e w' => e = .returned (.bool (Phr.sign k)) ∧ Below w.heap.size w w' := by
  have K := Lib.hid (fun w => ref13_Sign (bs k) w)
  rw [bs_toList] at K
  have H : Hid (Phr.sign k = ((Utf.one k && Key.sgn k) || ((bs k).toList == [9]))) := Lib.hid (by rw [Phr.sign, Bool.eq_iff_iff]; simp [bs_tl])
  cases hs : (Utf.one k && Key.sgn k) with
  | true =>
    rw [hs] at K H
    go_enter Tryz.func59, Tryz.ntmps59
    go_wp2_with (go_at_call 11; (with_reducible refine (K.out _).mono ?_); rintro e w1 ⟨rfl, hb⟩)
    go_ret
    exact ⟨by rw [H.out]; rfl, hb⟩
  | false =>
    rw [hs] at K H
    go_enter Tryz.func59, Tryz.ntmps59
    go_wp2_with (go_at_call 11; (with_reducible refine (K.out _).mono ?_); rintro e w1 ⟨rfl, hb⟩)
    go_ret
    exact ⟨by rw [H.out]; rfl, hb⟩
set_option maxRecDepth 100000 in
theorem ref26_small {k : List UInt8} (w : World) : Calls Tryz.prog 60 #[.string (bs k)] w fun e w' => e = .returned (.bool (Phr.letter k)) ∧ w = w' := by
  have I := Lib.hid (fun (w : World) => ref26_in k ⟨#[97, 98, 99, 100, 101, 102, 103, 104, 105, 106, 107, 108, 109, 110, 111, 112, 113, 114, 115, 116, 117, 118, 119, 120, 121, 122]⟩ (by decide) w)
  rw [show decide (k ∈ (⟨#[97, 98, 99, 100, 101, 102, 103, 104, 105, 106, 107, 108, 109, 110, 111, 112, 113, 114, 115, 116, 117, 118, 119, 120, 121, 122]⟩ : ByteArray).data.toList.map ([·])) = Phr.letter k from Phr.letter_all k] at I
  go_enter Tryz.func60, Tryz.ntmps60
  go_wp2_with (go_at_call 29; (with_reducible refine (I.out _).mono ?_); rintro e w1 ⟨rfl, rfl⟩)
  go_ret
  exact ⟨rfl, rfl⟩
set_option maxRecDepth 100000 in
theorem ref26_passes (m : Nat) {k : List UInt8} (hm : m = 1 ∨ m = 2 ∨ m = 3) (w : World) : Calls Tryz.prog 52 #[.int .i64 (m : Nat), .string (bs k)] w fun e w' => e = .returned (.bool (Phr.fits m k)) ∧ Below w.heap.size w w' := by
  rcases hm with rfl | rfl | rfl
  · have C := Lib.hid (fun w => ref19_Has (bs k) w)
    have H : Hid (Phr.fits 1 k = (Thing.num k).isSome) := Lib.hid rfl
    rw [bs_toList, ← H.out] at C
    clear H
    generalize Phr.fits 1 k = z at *
    show Calls Tryz.prog 52 #[.int .i64 1, .string (bs k)] w _
    go_enter Tryz.func52, Tryz.ntmps52
    go_wp2_with (go_at_call 58; (with_reducible refine (C.out _).mono ?_); rintro e w1 ⟨rfl, hb⟩)
    go_ret
    exact ⟨rfl, hb⟩
  · have C := Lib.hid (fun w => ref26_sign (k := k) w)
    have H : Hid (Phr.fits 2 k = Phr.sign k) := Lib.hid rfl
    rw [← H.out] at C
    clear H
    generalize Phr.fits 2 k = z at *
    show Calls Tryz.prog 52 #[.int .i64 2, .string (bs k)] w _
    go_enter Tryz.func52, Tryz.ntmps52
    go_wp2_with (go_at_call 59; (with_reducible refine (C.out _).mono ?_); rintro e w1 ⟨rfl, hb⟩)
    go_ret
    exact ⟨rfl, hb⟩
  · have C := Lib.hid (fun w => ref26_small (k := k) w)
    have H : Hid (Phr.fits 3 k = Phr.letter k) := Lib.hid rfl
    rw [← H.out] at C
    clear H
    generalize Phr.fits 3 k = z at *
    show Calls Tryz.prog 52 #[.int .i64 3, .string (bs k)] w _
    go_enter Tryz.func52, Tryz.ntmps52
    go_wp2_with (go_at_call 60; (with_reducible refine (C.out _).mono ?_); rintro e w1 ⟨rfl, rfl⟩)
    go_ret
    exact ⟨rfl, Below.refl _ _⟩
end Go.Proofs.YtchpkeelnfmlbaaGreat
/-
  The document's commands: what ends one, and what wants a key behind it; motions.
-/
namespace Go.Proofs.YtchpkeelnfmlbaaGreat
open Go.RowKit
open Phr (Cmd Ans Ls)
namespace Phr
/-- What a call of the document's answers. -/
def RefIs (X : Ans) (w : World) (e : Ending) (w' : World) : Prop :=
  e = .returned (.tuple #[.agg #[.int .i64 X.1.reg, .int .i64 X.1.count, .string (bs X.1.op), .string (bs X.1.key), .string (bs X.1.arg)], .int .i64 X.2]) ∧ Below w.heap.size w w'
/-- Where such a call begins: a box for the command that came in, and one for the answer. -/
theorem start {w W0 : World} (c : Cmd) (h : (w.alloc (.cells #[.int .i64 c.reg, .int .i64 c.count, .string (bs c.op), .string (bs c.key), .string (bs c.arg)] 27)).alloc (.cells #[.int .i64 0, .int .i64 0, .string ⟨#[]⟩, .string ⟨#[]⟩, .string ⟨#[]⟩] 27) = W0) : Blk W0 w.heap.size 27 #[.int .i64 c.reg, .int .i64 c.count, .string (bs c.op), .string (bs c.key), .string (bs c.arg)] ∧ Blk W0 (w.heap.size + 1) 27 #[.int .i64 0, .int .i64 0, .string ⟨#[]⟩, .string ⟨#[]⟩, .string ⟨#[]⟩] ∧ Below w.heap.size w W0 ∧ W0.heap.size = w.heap.size + 2 := by
  subst h
  have b2 := Blk.new (w.alloc (.cells #[.int .i64 c.reg, .int .i64 c.count, .string (bs c.op), .string (bs c.key), .string (bs c.arg)] 27)) 27 #[.int .i64 0, .int .i64 0, .string ⟨#[]⟩, .string ⟨#[]⟩, .string ⟨#[]⟩]
  rw [World.size_alloc] at b2
  refine ⟨(Blk.new w _ _).alloc _, b2, ((Below.refl _ w).alloc (Nat.le_refl _) _).alloc (by simp) _, by simp⟩
end Phr
open Phr (RefIs)
set_option maxHeartbeats 1000000 in
set_option maxRecDepth 100000 in
theorem ref26_last_nil {A : Option Addr} {n : Nat} {l : List (List UInt8)} (c : Cmd) (hl : l = []) (w : World) :
    Calls Tryz.prog 33 #[.agg #[.int .i64 c.reg, .int .i64 c.count, .string (bs c.op), .string (bs c.key), .string (bs c.arg)], .slice A l.length n] w (RefIs ((c, 2)) w) := by
  obtain ⟨W0, hW0⟩ : ∃ W0, (w.alloc (.cells #[.int .i64 c.reg, .int .i64 c.count, .string (bs c.op), .string (bs c.key), .string (bs c.arg)] 27)).alloc (.cells #[.int .i64 0, .int .i64 0, .string ⟨#[]⟩, .string ⟨#[]⟩, .string ⟨#[]⟩] 27) = W0 := ⟨_, rfl⟩
  obtain ⟨BP, BR, WB, SZ⟩ := Phr.start c hW0
  have pc0 := BP.cell 0
  have pc1 := BP.cell 1
  have pc2 := BP.cell 2
  have pc3 := BP.cell 3
  have pc4 := BP.cell 4
  simp at pc0 pc1 pc2 pc3 pc4
  obtain ⟨⟨vp0, vr0⟩, ⟨vp1, vr1⟩, ⟨vp2, vr2⟩, ⟨vp3, vr3⟩, ⟨vp4, vr4⟩, vB⟩ := Phr.blk5 BR (.int .i64 c.reg) (.int .i64 c.count) (.string (bs c.op)) (.string (bs c.key)) (.string (bs c.arg))
  have GG := Phr.put5_gb W0 (w.heap.size + 1) (.int .i64 c.reg) (.int .i64 c.count) (.string (bs c.op)) (.string (bs c.key)) (.string (bs c.arg))
  unfold Phr.put5 at GG vB
  generalize hv1 : W0.setCell ⟨w.heap.size + 1, 0, none⟩ (.int .i64 c.reg) = v1 at *
  generalize hv2 : v1.setCell ⟨w.heap.size + 1, 1, none⟩ (.int .i64 c.count) = v2 at *
  generalize hv3 : v2.setCell ⟨w.heap.size + 1, 2, none⟩ (.string (bs c.op)) = v3 at *
  generalize hv4 : v3.setCell ⟨w.heap.size + 1, 3, none⟩ (.string (bs c.key)) = v4 at *
  generalize hv5 : v4.setCell ⟨w.heap.size + 1, 4, none⟩ (.string (bs c.arg)) = v5 at *
  have BB := Lib.hid vB
  have W1 := WB.grown GG WB.size (fun j e => by injection e with e; omega)
  subst hl
  clear BP BR WB
  go_enter Tryz.func33, Tryz.ntmps33
  go_wp2
  refine ret_five1 rfl rfl BB.out rfl Tryz.underlying27 (by kernel_rfl) ?_
  exact ⟨rfl, W1⟩
set_option maxHeartbeats 1000000 in
set_option maxRecDepth 100000 in
theorem ref26_last_more {A : Option Addr} {n : Nat} {l : List (List UInt8)} (c : Cmd) (hl : l ≠ []) (w : World) :
    Calls Tryz.prog 33 #[.agg #[.int .i64 c.reg, .int .i64 c.count, .string (bs c.op), .string (bs c.key), .string (bs c.arg)], .slice A l.length n] w (RefIs (Phr.bad) w) := by
  obtain ⟨W0, hW0⟩ : ∃ W0, (w.alloc (.cells #[.int .i64 c.reg, .int .i64 c.count, .string (bs c.op), .string (bs c.key), .string (bs c.arg)] 27)).alloc (.cells #[.int .i64 0, .int .i64 0, .string ⟨#[]⟩, .string ⟨#[]⟩, .string ⟨#[]⟩] 27) = W0 := ⟨_, rfl⟩
  obtain ⟨BP, BR, WB, SZ⟩ := Phr.start c hW0
  have pc0 := BP.cell 0
  have pc1 := BP.cell 1
  have pc2 := BP.cell 2
  have pc3 := BP.cell 3
  have pc4 := BP.cell 4
  simp at pc0 pc1 pc2 pc3 pc4
  obtain ⟨⟨vp0, vr0⟩, ⟨vp1, vr1⟩, ⟨vp2, vr2⟩, ⟨vp3, vr3⟩, ⟨vp4, vr4⟩, vB⟩ := Phr.blk5 BR (.int .i64 0) (.int .i64 0) (.string ⟨#[]⟩) (.string ⟨#[]⟩) (.string ⟨#[]⟩)
  have GG := Phr.put5_gb W0 (w.heap.size + 1) (.int .i64 0) (.int .i64 0) (.string ⟨#[]⟩) (.string ⟨#[]⟩) (.string ⟨#[]⟩)
  unfold Phr.put5 at GG vB
  generalize hv1 : W0.setCell ⟨w.heap.size + 1, 0, none⟩ (.int .i64 0) = v1 at *
  generalize hv2 : v1.setCell ⟨w.heap.size + 1, 1, none⟩ (.int .i64 0) = v2 at *
  generalize hv3 : v2.setCell ⟨w.heap.size + 1, 2, none⟩ (.string ⟨#[]⟩) = v3 at *
  generalize hv4 : v3.setCell ⟨w.heap.size + 1, 3, none⟩ (.string ⟨#[]⟩) = v4 at *
  generalize hv5 : v4.setCell ⟨w.heap.size + 1, 4, none⟩ (.string ⟨#[]⟩) = v5 at *
  have BB := Lib.hid vB
  have W1 := WB.grown GG WB.size (fun j e => by injection e with e; omega)
  have hll : 0 < l.length := List.length_pos_iff.2 hl
  clear BP BR WB
  go_enter Tryz.func33, Tryz.ntmps33
  go_wp2
  refine ret_five1 rfl rfl BB.out rfl Tryz.underlying27 (by kernel_rfl) ?_
  exact ⟨rfl, W1⟩
theorem ref26_last {A : Option Addr} {n : Nat} {l : List (List UInt8)} (c : Cmd) (w : World) :
    Calls Tryz.prog 33 #[.agg #[.int .i64 c.reg, .int .i64 c.count, .string (bs c.op), .string (bs c.key), .string (bs c.arg)], .slice A l.length n] w (RefIs (Phr.last c l) w) := by
  unfold Phr.last
  by_cases hl : l = []
  · rw [if_pos hl]; exact ref26_last_nil c hl w
  · rw [if_neg hl]; exact ref26_last_more c hl w
set_option maxHeartbeats 1000000 in
set_option maxRecDepth 100000 in
theorem ref26_behind_nil {A : Option Addr} {n m : Nat} {w : World} (c : Cmd) (_hm : m = 1 ∨ m = 2 ∨ m = 3) :
    Calls Tryz.prog 34 #[.agg #[.int .i64 c.reg, .int .i64 c.count, .string (bs c.op), .string (bs c.key), .string (bs c.arg)], .slice A 0 n, .int .i64 (m : Nat)] w (RefIs (Phr.more) w) := by
  obtain ⟨W0, hW0⟩ : ∃ W0, (w.alloc (.cells #[.int .i64 c.reg, .int .i64 c.count, .string (bs c.op), .string (bs c.key), .string (bs c.arg)] 27)).alloc (.cells #[.int .i64 0, .int .i64 0, .string ⟨#[]⟩, .string ⟨#[]⟩, .string ⟨#[]⟩] 27) = W0 := ⟨_, rfl⟩
  obtain ⟨BP, BR, WB, SZ⟩ := Phr.start c hW0
  have pc0 := BP.cell 0
  have pc1 := BP.cell 1
  have pc2 := BP.cell 2
  have pc3 := BP.cell 3
  have pc4 := BP.cell 4
  simp at pc0 pc1 pc2 pc3 pc4
  obtain ⟨⟨vp0, vr0⟩, ⟨vp1, vr1⟩, ⟨vp2, vr2⟩, ⟨vp3, vr3⟩, ⟨vp4, vr4⟩, vB⟩ := Phr.blk5 BR (.int .i64 0) (.int .i64 0) (.string ⟨#[]⟩) (.string ⟨#[]⟩) (.string ⟨#[]⟩)
  have GG := Phr.put5_gb W0 (w.heap.size + 1) (.int .i64 0) (.int .i64 0) (.string ⟨#[]⟩) (.string ⟨#[]⟩) (.string ⟨#[]⟩)
  unfold Phr.put5 at GG vB
  generalize hv1 : W0.setCell ⟨w.heap.size + 1, 0, none⟩ (.int .i64 0) = v1 at *
  generalize hv2 : v1.setCell ⟨w.heap.size + 1, 1, none⟩ (.int .i64 0) = v2 at *
  generalize hv3 : v2.setCell ⟨w.heap.size + 1, 2, none⟩ (.string ⟨#[]⟩) = v3 at *
  generalize hv4 : v3.setCell ⟨w.heap.size + 1, 3, none⟩ (.string ⟨#[]⟩) = v4 at *
  generalize hv5 : v4.setCell ⟨w.heap.size + 1, 4, none⟩ (.string ⟨#[]⟩) = v5 at *
  have BB := Lib.hid vB
  have W3 := WB.grown GG WB.size (fun j e => by injection e with e; omega)
  clear BP BR WB
  go_enter Tryz.func34, Tryz.ntmps34
  go_wp2
  refine ret_five1 rfl rfl BB.out rfl Tryz.underlying27 (by kernel_rfl) ?_
  exact ⟨rfl, W3⟩
set_option maxHeartbeats 1000000 in
set_option maxRecDepth 100000 in
theorem ref26_behind_long {A : Option Addr} {n m : Nat} {t : List (List UInt8)} {w : World} (c : Cmd) (_hm : m = 1 ∨ m = 2 ∨ m = 3) :
    Calls Tryz.prog 34 #[.agg #[.int .i64 c.reg, .int .i64 c.count, .string (bs c.op), .string (bs c.key), .string (bs c.arg)], .slice A (t.length + 1 + 1) n, .int .i64 (m : Nat)] w (RefIs (Phr.bad) w) := by
  obtain ⟨W0, hW0⟩ : ∃ W0, (w.alloc (.cells #[.int .i64 c.reg, .int .i64 c.count, .string (bs c.op), .string (bs c.key), .string (bs c.arg)] 27)).alloc (.cells #[.int .i64 0, .int .i64 0, .string ⟨#[]⟩, .string ⟨#[]⟩, .string ⟨#[]⟩] 27) = W0 := ⟨_, rfl⟩
  obtain ⟨BP, BR, WB, SZ⟩ := Phr.start c hW0
  have pc0 := BP.cell 0
  have pc1 := BP.cell 1
  have pc2 := BP.cell 2
  have pc3 := BP.cell 3
  have pc4 := BP.cell 4
  simp at pc0 pc1 pc2 pc3 pc4
  obtain ⟨⟨vp0, vr0⟩, ⟨vp1, vr1⟩, ⟨vp2, vr2⟩, ⟨vp3, vr3⟩, ⟨vp4, vr4⟩, vB⟩ := Phr.blk5 BR (.int .i64 0) (.int .i64 0) (.string ⟨#[]⟩) (.string ⟨#[]⟩) (.string ⟨#[]⟩)
  have GG := Phr.put5_gb W0 (w.heap.size + 1) (.int .i64 0) (.int .i64 0) (.string ⟨#[]⟩) (.string ⟨#[]⟩) (.string ⟨#[]⟩)
  unfold Phr.put5 at GG vB
  generalize hv1 : W0.setCell ⟨w.heap.size + 1, 0, none⟩ (.int .i64 0) = v1 at *
  generalize hv2 : v1.setCell ⟨w.heap.size + 1, 1, none⟩ (.int .i64 0) = v2 at *
  generalize hv3 : v2.setCell ⟨w.heap.size + 1, 2, none⟩ (.string ⟨#[]⟩) = v3 at *
  generalize hv4 : v3.setCell ⟨w.heap.size + 1, 3, none⟩ (.string ⟨#[]⟩) = v4 at *
  generalize hv5 : v4.setCell ⟨w.heap.size + 1, 4, none⟩ (.string ⟨#[]⟩) = v5 at *
  have BB := Lib.hid vB
  have W3 := WB.grown GG WB.size (fun j e => by injection e with e; omega)
  clear BP BR WB
  go_enter Tryz.func34, Tryz.ntmps34
  go_wp2
  refine ret_five1 rfl rfl BB.out rfl Tryz.underlying27 (by kernel_rfl) ?_
  exact ⟨rfl, W3⟩
set_option maxHeartbeats 1000000 in
set_option maxRecDepth 100000 in
theorem ref26_behind_yes {A : Option Addr} {n m : Nat} {a : List UInt8} {w : World} (c : Cmd) (h : Ls w A n [a]) (hm : m = 1 ∨ m = 2 ∨ m = 3) (hf : Phr.fits m a = true) :
    Calls Tryz.prog 34 #[.agg #[.int .i64 c.reg, .int .i64 c.count, .string (bs c.op), .string (bs c.key), .string (bs c.arg)], .slice A 1 n, .int .i64 (m : Nat)] w (RefIs (({c with arg := a}, 2)) w) := by
  obtain ⟨W0, hW0⟩ : ∃ W0, (w.alloc (.cells #[.int .i64 c.reg, .int .i64 c.count, .string (bs c.op), .string (bs c.key), .string (bs c.arg)] 27)).alloc (.cells #[.int .i64 0, .int .i64 0, .string ⟨#[]⟩, .string ⟨#[]⟩, .string ⟨#[]⟩] 27) = W0 := ⟨_, rfl⟩
  obtain ⟨BP, BR, WB, SZ⟩ := Phr.start c hW0
  obtain ⟨ad, rfl⟩ := h.addr
  have X0 : Hid (∀ u, Below w.heap.size w u → u.cell? ad = some (.string (bs a))) := Lib.hid (fun u hu => h.at_ (j := 0) rfl hu)
  have x0 := X0.out W0 WB
  have P := Lib.hid (fun w => ref26_passes m (k := a) hm w)
  rw [hf] at P
  clear hf h
  go_enter Tryz.func34, Tryz.ntmps34
  go_wp2_with (go_at_call 52; (with_reducible refine (P.out _).mono ?_); rintro e w2 ⟨rfl, hb2⟩; have x2 := X0.out _ (WB.trans (hb2.mono WB.size)); have BR2 := BR.below hb2 BR.lt; have BP2 := BP.below hb2 BP.lt; have W2 := WB.trans (hb2.mono WB.size); have e4 := BP2.cell 4; have f4 := BP2.frozen 4; have BP3 := BP2.set_ 4 (.string (bs a)); have BR3 := BR2.far (p := ⟨w.heap.size, 4, none⟩) (by show w.heap.size + 1 ≠ w.heap.size; omega) (.string (bs a)); have W2s := W2.setCell (p := ⟨w.heap.size, 4, none⟩) (Nat.le_refl _) (.string (bs a)); generalize hs2 : w2.setCell ⟨w.heap.size, 4, none⟩ (.string (bs a)) = w3 at *; have g0 := BP3.cell 0; have g1 := BP3.cell 1; have g2 := BP3.cell 2; have g3 := BP3.cell 3; have g4 := BP3.cell 4; simp at g0 g1 g2 g3 g4 e4; obtain ⟨⟨vp0, vr0⟩, ⟨vp1, vr1⟩, ⟨vp2, vr2⟩, ⟨vp3, vr3⟩, ⟨vp4, vr4⟩, vB⟩ := Phr.blk5 BR3 (.int .i64 c.reg) (.int .i64 c.count) (.string (bs c.op)) (.string (bs c.key)) (.string (bs a)); have GG := Phr.put5_gb w3 (w.heap.size + 1) (.int .i64 c.reg) (.int .i64 c.count) (.string (bs c.op)) (.string (bs c.key)) (.string (bs a)); unfold Phr.put5 at GG vB; generalize hv1 : w3.setCell ⟨w.heap.size + 1, 0, none⟩ (.int .i64 c.reg) = v1 at *; generalize hv2 : v1.setCell ⟨w.heap.size + 1, 1, none⟩ (.int .i64 c.count) = v2 at *; generalize hv3 : v2.setCell ⟨w.heap.size + 1, 2, none⟩ (.string (bs c.op)) = v3 at *; generalize hv4 : v3.setCell ⟨w.heap.size + 1, 3, none⟩ (.string (bs c.key)) = v4 at *; generalize hv5 : v4.setCell ⟨w.heap.size + 1, 4, none⟩ (.string (bs a)) = v5 at *; have BB := Lib.hid vB; have W3 := W2s.grown GG W2s.size (fun j e => by injection e with e; omega); clear BP BR WB hb2 BR2 W2 W2s BP2 BP3 BR3)
  refine ret_five1 rfl rfl BB.out rfl Tryz.underlying27 (by kernel_rfl) ?_
  exact ⟨rfl, W3⟩
set_option maxHeartbeats 1000000 in
set_option maxRecDepth 100000 in
theorem ref26_behind_no {A : Option Addr} {n m : Nat} {a : List UInt8} {w : World} (c : Cmd) (h : Ls w A n [a]) (hm : m = 1 ∨ m = 2 ∨ m = 3) (hf : Phr.fits m a = false) :
    Calls Tryz.prog 34 #[.agg #[.int .i64 c.reg, .int .i64 c.count, .string (bs c.op), .string (bs c.key), .string (bs c.arg)], .slice A 1 n, .int .i64 (m : Nat)] w (RefIs (Phr.bad) w) := by
  obtain ⟨W0, hW0⟩ : ∃ W0, (w.alloc (.cells #[.int .i64 c.reg, .int .i64 c.count, .string (bs c.op), .string (bs c.key), .string (bs c.arg)] 27)).alloc (.cells #[.int .i64 0, .int .i64 0, .string ⟨#[]⟩, .string ⟨#[]⟩, .string ⟨#[]⟩] 27) = W0 := ⟨_, rfl⟩
  obtain ⟨BP, BR, WB, SZ⟩ := Phr.start c hW0
  have pc0 := BP.cell 0
  have pc1 := BP.cell 1
  have pc2 := BP.cell 2
  have pc3 := BP.cell 3
  have pc4 := BP.cell 4
  simp at pc0 pc1 pc2 pc3 pc4
  obtain ⟨ad, rfl⟩ := h.addr
  have X0 : Hid (∀ u, Below w.heap.size w u → u.cell? ad = some (.string (bs a))) := Lib.hid (fun u hu => h.at_ (j := 0) rfl hu)
  have x0 := X0.out W0 WB
  have P := Lib.hid (fun w => ref26_passes m (k := a) hm w)
  rw [hf] at P
  clear hf h
  go_enter Tryz.func34, Tryz.ntmps34
  go_wp2_with (go_at_call 52; (with_reducible refine (P.out _).mono ?_); rintro e w2 ⟨rfl, hb2⟩; have x2 := X0.out _ (WB.trans (hb2.mono WB.size)); have BR2 := BR.below hb2 BR.lt; have BP2 := BP.below hb2 BP.lt; have W2 := WB.trans (hb2.mono WB.size); obtain ⟨⟨vp0, vr0⟩, ⟨vp1, vr1⟩, ⟨vp2, vr2⟩, ⟨vp3, vr3⟩, ⟨vp4, vr4⟩, vB⟩ := Phr.blk5 BR2 (.int .i64 0) (.int .i64 0) (.string ⟨#[]⟩) (.string ⟨#[]⟩) (.string ⟨#[]⟩); have GG := Phr.put5_gb w2 (w.heap.size + 1) (.int .i64 0) (.int .i64 0) (.string ⟨#[]⟩) (.string ⟨#[]⟩) (.string ⟨#[]⟩); unfold Phr.put5 at GG vB; generalize hv1 : w2.setCell ⟨w.heap.size + 1, 0, none⟩ (.int .i64 0) = v1 at *; generalize hv2 : v1.setCell ⟨w.heap.size + 1, 1, none⟩ (.int .i64 0) = v2 at *; generalize hv3 : v2.setCell ⟨w.heap.size + 1, 2, none⟩ (.string ⟨#[]⟩) = v3 at *; generalize hv4 : v3.setCell ⟨w.heap.size + 1, 3, none⟩ (.string ⟨#[]⟩) = v4 at *; generalize hv5 : v4.setCell ⟨w.heap.size + 1, 4, none⟩ (.string ⟨#[]⟩) = v5 at *; have BB := Lib.hid vB; have W3 := W2.grown GG W2.size (fun j e => by injection e with e; omega); clear BP BR WB hb2 BR2 W2)
  refine ret_five1 rfl rfl BB.out rfl Tryz.underlying27 (by kernel_rfl) ?_
  exact ⟨rfl, W3⟩
theorem ref26_behind {A : Option Addr} {n m : Nat} {l : List (List UInt8)} {w : World} (c : Cmd) (h : Ls w A n l) (hm : m = 1 ∨ m = 2 ∨ m = 3) :
    Calls Tryz.prog 34 #[.agg #[.int .i64 c.reg, .int .i64 c.count, .string (bs c.op), .string (bs c.key), .string (bs c.arg)], .slice A l.length n, .int .i64 (m : Nat)] w (RefIs (Phr.behind c m l) w) := by
  match l, h with
  | [], h => exact ref26_behind_nil c hm
  | [a], h =>
    cases hf : Phr.fits m a with
    | true => rw [show Phr.behind c m [a] = ({c with arg := a}, 2) by simp [Phr.behind, hf]]; exact ref26_behind_yes c h hm hf
    | false => rw [show Phr.behind c m [a] = Phr.bad by simp [Phr.behind, hf]]; exact ref26_behind_no c h hm hf
  | a :: b :: t, h => exact ref26_behind_long c hm
end Go.Proofs.YtchpkeelnfmlbaaGreat
