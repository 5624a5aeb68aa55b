/-
  The document's Go, all ways together; the document's example, as layer 18's statements ask for it.
-/
import Derived.Test.YtjgfcnjnedgejaaParaRefGo
import Derived.Test.YtjgfcnjnedgejaaFrame
namespace Go.Proofs.Ytjgfcnjnedgejaa
open Go.RowKit
theorem para_run {w u v : World} (h : Below w.heap.size w u) (g : Below u.heap.size u v) : Below w.heap.size w v := h.trans (g.mono h.size)
set_option maxHeartbeats 1000000 in
set_option maxRecDepth 100000 in
theorem ref18_Go_no (s : ByteArray) (p : Int) (key : ByteArray) (n : Int) (hs : s.size ≤ 1000000000000) (h : Utf.place s.data.toList p = false ∨ Para.way key.data.toList = none ∨ ∃ back, Para.way key.data.toList = some back ∧ p = (Para.edge back s.data.toList : Nat)) (w : World) :
    Calls Try.prog 9 #[.string s, .int .i64 p, .string key, .int .i64 n] w fun e w' => e = .returned (.tuple #[.int .i64 0, .bool false]) ∧ Below w.heap.size w w' := by
  have hl := data_len s
  have c1 := Lib.hid (fun w => ref_Place s p (by omega) w)
  have hW := Below.refl w.heap.size w
  cases hp : Utf.place s.data.toList p with
  | false =>
    rw [hp] at c1
    clear h hp hl
    go_enter Try.func9, Try.ntmps9
    go_wp2_with (go_at_call 19; refine (c1.out _).mono ?_; rintro e w1 ⟨rfl, hbn⟩; replace hW := below_run hW hbn; clear hbn)
    go_ret2
    exact ⟨rfl, hW⟩
  | true =>
    rw [hp] at c1 h
    by_cases h125 : key.data.toList = [125]
    · have g1 := (Para.key_test key 125).trans (decide_eq_true h125)
      have g3 := Para.key_differs h125
      have he : p = s.size := by
        rcases h with h | h | ⟨back, hb, h⟩
        · cases h
        · rw [h125] at h; cases h
        · rw [h125] at hb; cases hb; rw [h]; show ((s.data.toList.length : Nat) : Int) = _; rw [hl]
      have g5 : ((s.size : Int) == (s.size : Int)) = true := by simp
      subst he
      clear h hp hl h125
      go_enter Try.func9, Try.ntmps9
      go_wp2_with (go_at_call 19; refine (c1.out _).mono ?_; rintro e w1 ⟨rfl, hbn⟩; replace hW := below_run hW hbn; clear hbn)
      go_ret2
      exact ⟨rfl, hW⟩
    · have g1 := (Para.key_test key 125).trans (decide_eq_false h125)
      have g3 := Para.key_alike h125
      by_cases h123 : key.data.toList = [123]
      · have g2 := (Para.key_test key 123).trans (decide_eq_true h123)
        have g4 := Para.key_differs h123
        have he : p = 0 := by
          rcases h with h | h | ⟨back, hb, h⟩
          · cases h
          · rw [h123] at h; cases h
          · rw [h123] at hb; cases hb; rw [h]; rfl
        subst he
        clear h hp hl h125 h123
        go_enter Try.func9, Try.ntmps9
        go_wp2_with (go_at_call 19; refine (c1.out _).mono ?_; rintro e w1 ⟨rfl, hbn⟩; replace hW := below_run hW hbn; clear hbn)
        go_ret2
        exact ⟨rfl, hW⟩
      · have g2 := (Para.key_test key 123).trans (decide_eq_false h123)
        have g4 := Para.key_alike h123
        clear h hp hl h125 h123
        go_enter Try.func9, Try.ntmps9
        go_wp2_with (go_at_call 19; refine (c1.out _).mono ?_; rintro e w1 ⟨rfl, hbn⟩; replace hW := below_run hW hbn; clear hbn)
        go_ret2
        exact ⟨rfl, hW⟩
theorem Para.way_some {key : List UInt8} {back : Bool} (h : way key = some back) : key = [if back then 123 else 125] := by
  unfold way at h
  split at h
  · cases h; assumption
  · split at h
    · cases h; assumption
    · cases h
theorem ref18_Go (s : ByteArray) (p : Int) (key : ByteArray) (n : Int) (hs : s.size ≤ 1000000000000) (hn : n ≤ 1000000) (w : World) :
    Calls Try.prog 9 #[.string s, .int .i64 p, .string key, .int .i64 n] w fun e w' => e = .returned (Para.res (Para.goV s.data.toList p key.data.toList n)) ∧ Below w.heap.size w w' := by
  cases hp : Utf.place s.data.toList p with
  | false => rw [Para.goV_out hp]; exact ref18_Go_no s p key n hs (.inl hp) w
  | true =>
    cases hk : Para.way key.data.toList with
    | none => rw [Para.goV_none hk]; exact ref18_Go_no s p key n hs (.inr (.inl hk)) w
    | some back =>
      obtain ⟨q, rfl, _⟩ := Line.place_nat hp
      by_cases he : q = Para.edge back s.data.toList
      · rw [Para.goV_edge hk he]; exact ref18_Go_no s q key n hs (.inr (.inr ⟨back, hk, by rw [he]⟩)) w
      · rw [Para.goV_at hp hk he, Para.res_at (by omega)]
        have hw := Para.way_some hk
        by_cases h1 : n < 1
        · rw [show (max n 1).toNat = 1 by omega]
          cases back with
          | true => exact ref18_Go_back_low s q key n hs hp hw he ⟨h1, rfl⟩ w
          | false => exact ref18_Go_on_low s q key n hs hp hw he ⟨h1, rfl⟩ w
        · cases back with
          | true => exact ref18_Go_back s q key n hs hp hw he ⟨by omega, by omega, by omega⟩ w
          | false => exact ref18_Go_on s q key n hs hp hw he ⟨by omega, by omega, by omega⟩ w
namespace Para
def exT : List UInt8 := [97, 10, 10, 98]
theorem ex_dec : Utf.dec exT = some [[97], [10], [10], [98]] := Utf.dec_of (rs := [[97], [10], [10], [98]]) (by decide)
theorem ex_valid : Utf.valid exT = true := by rw [Utf.valid, ex_dec]; rfl
theorem ex_all : all exT = [⟨false, 0, 0, 0, 0⟩, ⟨true, 1, 1, 2, 2⟩, ⟨false, 2, 2, 3, 3⟩] := by rw [all, S, Line.L_ok ex_valid]; rfl
theorem ex_one : goV exT 0 [125] 0 = 2 := by
  have hp : Utf.place exT (0 : Int) = true := Utf.place_at ex_dec (i := 0) (by decide)
  have := goV_at (s := exT) (p := 0) (key := [125]) (n := 0) (back := false) hp rfl (by decide)
  rw [show ((0 : Nat) : Int) = 0 from rfl] at this
  rw [this]
  show ((onN exT 0 _ : Nat) : Int) = 2
  rw [hitsOn_all, ex_all]
  rfl
theorem ex_two : goV exT 2 [125] 1 = 4 := by
  have hp : Utf.place exT (2 : Int) = true := Utf.place_at ex_dec (i := 2) (by decide)
  have := goV_at (s := exT) (p := 2) (key := [125]) (n := 1) (back := false) hp rfl (by decide)
  rw [show ((2 : Nat) : Int) = 2 from rfl] at this
  rw [this]
  show ((onN exT 2 _ : Nat) : Int) = 4
  rw [hitsOn_all, ex_all]
  rfl
theorem ex_line : (Line.L exT)[0]? = some (0, 1) := by rw [Line.L_ok ex_valid]; rfl
theorem ex_blk : blkT exT 0 true = .tuple #[.int .i64 0, .int .i64 1] := by
  have hp : Utf.place exT (0 : Int) = true := Utf.place_at ex_dec (i := 0) (by decide)
  have ho : Line.of_ exT ((0 : Nat) : Int) = (0 : Nat) := Line.of_at ex_line (by decide) (by decide)
  rw [show ((0 : Nat) : Int) = 0 from rfl] at ho
  rw [blkT, if_pos hp, ho, ex_all]
  rfl
end Para
set_option maxHeartbeats 1000000 in
set_option maxRecDepth 100000 in
theorem para_lives (w : World) : Calls Try.prog 7 #[] w fun e w' => e = .returned (.bool true) ∧ Below w.heap.size w w' := by
  have c0 := fun (w : World) => para_Go (⟨#[97, 10, 10, 98]⟩ : ByteArray) 0 ⟨#[125]⟩ 0 (by decide) (by decide) w
  have c1 := fun (w : World) => para_Go (⟨#[97, 10, 10, 98]⟩ : ByteArray) 2 ⟨#[125]⟩ 1 (by decide) (by decide) w
  have c2 := fun (w : World) => para_Block (⟨#[97, 10, 10, 98]⟩ : ByteArray) 0 true (by decide) w
  rw [show (⟨#[97, 10, 10, 98]⟩ : ByteArray).data.toList = Para.exT from rfl] at c0 c1 c2
  rw [show (⟨#[125]⟩ : ByteArray).data.toList = [125] from rfl] at c0 c1
  rw [Para.ex_one, show Para.res 2 = .tuple #[.int .i64 2, .bool true] from rfl] at c0
  rw [Para.ex_two, show Para.res 4 = .tuple #[.int .i64 4, .bool true] from rfl] at c1
  rw [Para.ex_blk] at c2
  have C0 := Lib.hid c0
  have C1 := Lib.hid c1
  have C2 := Lib.hid c2
  clear c0 c1 c2
  have hX := Below.refl w.heap.size w
  go_enter Try.func7, Try.ntmps7
  go_wp2_with (first
    | (go_at_call 8; (with_reducible refine (C0.out _).mono ?_); rintro e w1 ⟨rfl, hb⟩; replace hX := para_run hX hb; clear hb)
    | (go_at_call 8; (with_reducible refine (C1.out _).mono ?_); rintro e w2 ⟨rfl, hb⟩; replace hX := para_run hX hb; clear hb)
    | (go_at_call 10; (with_reducible refine (C2.out _).mono ?_); rintro e w3 ⟨rfl, hb⟩; replace hX := para_run hX hb; clear hb))
  go_ret
  exact ⟨rfl, hX⟩
end Go.Proofs.Ytjgfcnjnedgejaa
