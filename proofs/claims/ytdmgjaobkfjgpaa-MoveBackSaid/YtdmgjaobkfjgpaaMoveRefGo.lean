/-
  Where a key leads, as the document's answer tells it.
-/
import Derived.Test.YtdmgjaobkfjgpaaMoveRefA
import Derived.Test.YtdmgjaobkfjgpaaMoveRefB
import Derived.Test.YtdmgjaobkfjgpaaMoveRefC
namespace Go.Proofs.Ytdmgjaobkfjgpaa
open Go.RowKit
open Line (L of_ column)
open Utf (place)
set_option maxHeartbeats 1000000 in
set_option maxRecDepth 100000 in
theorem ref14_bad (s : ByteArray) (p : Int) (key : ByteArray) (n want : Int) (hs : s.size ≤ 1000000000000) (hp : place s.data.toList p = false) (w : World) :
    Calls Try.prog 9 #[.string s, .int .i64 p, .string key, .int .i64 n, .int .i64 want] w fun e w' => e = .returned (Move.res (Move.lead s.data.toList p key.data.toList n want)) ∧ Below w.heap.size w w' := by
  have C1 := Lib.hid (fun w => ref_Place s p (by omega) w)
  have H : Hid (Move.res (Move.lead s.data.toList p key.data.toList n want) = .tuple #[.int .i64 0, .bool false]) := by show _ = _; rw [Move.lead_bad hp]; rfl
  rw [hp] at C1
  clear hp
  go_enter Try.func9, Try.ntmps9
  go_wp2_with (go_at_call 17; refine (C1.out _).mono ?_; rintro e w1 ⟨rfl, hb⟩)
  go_ret2
  exact ⟨by rw [H.out]; rfl, hb⟩
set_option maxHeartbeats 1000000 in
set_option maxRecDepth 100000 in
theorem ref14_none (s : ByteArray) (p : Int) (key : ByteArray) (n want : Int) (hs : s.size ≤ 1000000000000) (hp : place s.data.toList p = true) (hm : Move.mot key.data.toList = none) (w : World) :
    Calls Try.prog 9 #[.string s, .int .i64 p, .string key, .int .i64 n, .int .i64 want] w fun e w' => e = .returned (Move.res (Move.lead s.data.toList p key.data.toList n want)) ∧ Below w.heap.size w w' := by
  have C1 := Lib.hid (fun w => ref_Place s p (by omega) w)
  have C2 := Lib.hid (fun w => ref14_Has key w)
  have H : Hid (Move.res (Move.lead s.data.toList p key.data.toList n want) = .tuple #[.int .i64 0, .bool false]) := by show _ = _; rw [Move.lead_no hm]; rfl
  rw [hp] at C1
  rw [hm, show (none : Option Nat).isSome = false from rfl] at C2
  clear hp hm
  go_enter Try.func9, Try.ntmps9
  go_wp2_with (first
    | (go_at_call 17; refine (C1.out _).mono ?_; rintro e w1 ⟨rfl, hb⟩)
    | (go_at_call 11; refine (C2.out _).mono ?_; rintro e w2 ⟨rfl, hb2⟩; replace hb := below_on hb hb2))
  go_ret2
  exact ⟨by rw [H.out]; rfl, hb⟩
theorem move_int_le {n : Int} (h : (Lit.int .i64 n).wf = true) : n ≤ 9223372036854775807 := by
  simp only [Lit.wf, Bool.and_eq_true, decide_eq_true_eq] at h
  exact h.2
theorem ref14_Go (s : ByteArray) (p : Int) (key : ByteArray) (n want : Int) (hs : s.size ≤ 1000000000000) (hn : n ≤ 9223372036854775807) (hwant : want ≤ 9223372036854775807) (w : World) :
    Calls Try.prog 9 #[.string s, .int .i64 p, .string key, .int .i64 n, .int .i64 want] w fun e w' => e = .returned (Move.res (Move.lead s.data.toList p key.data.toList n want)) ∧ Below w.heap.size w w' := by
  cases hp : place s.data.toList p with
  | false => exact ref14_bad s p key n want hs hp w
  | true =>
    cases hm : Move.mot key.data.toList with
    | none => exact ref14_none s p key n want hs hp hm w
    | some m =>
      rw [Move.lead_at hp hm]
      have h := Move.mot_tab.1 hm
      rw [← bs_data key] at h ⊢
      clear hm
      generalize key.data.toList = l at *
      rw [bs_toList] at h
      unfold Move.tab at h
      simp only [List.mem_cons, Prod.mk.injEq, List.not_mem_nil, or_false] at h
      rcases h with ⟨rfl, rfl⟩ | ⟨rfl, rfl⟩ | ⟨rfl, rfl⟩ | ⟨rfl, rfl⟩ | ⟨rfl, rfl⟩ | ⟨rfl, rfl⟩ | ⟨rfl, rfl⟩ | ⟨rfl, rfl⟩ | ⟨rfl, rfl⟩ | ⟨rfl, rfl⟩
      · by_cases h1 : n < 1
        · by_cases h2 : p = Line.start s.data.toList (of_ s.data.toList p)
          · exact ref14_left_no_lo s p n want hs hn hwant hp h1 h2 w
          · exact ref14_left_lo s p n want hs hn hwant hp h1 h2 w
        · by_cases h2 : p = Line.start s.data.toList (of_ s.data.toList p)
          · exact ref14_left_no_hi s p n want hs hn hwant hp h1 h2 w
          · exact ref14_left_hi s p n want hs hn hwant hp h1 h2 w
      · by_cases h1 : n < 1
        · by_cases h2 : p = Line.stop s.data.toList (of_ s.data.toList p)
          · exact ref14_right_no_lo s p n want hs hn hwant hp h1 h2 w
          · exact ref14_right_lo s p n want hs hn hwant hp h1 h2 w
        · by_cases h2 : p = Line.stop s.data.toList (of_ s.data.toList p)
          · exact ref14_right_no_hi s p n want hs hn hwant hp h1 h2 w
          · exact ref14_right_hi s p n want hs hn hwant hp h1 h2 w
      · by_cases h1 : n < 1
        · exact ref14_begin_lo s p n want hs hn hwant hp h1 w
        · exact ref14_begin_hi s p n want hs hn hwant hp h1 w
      · by_cases h1 : n < 1
        · exact ref14_first_lo s p n want hs hn hwant hp h1 w
        · exact ref14_first_hi s p n want hs hn hwant hp h1 w
      · by_cases h1 : n < 1
        · by_cases h2 : ((L s.data.toList).length : Int) - 1 - of_ s.data.toList p < max n 1 - 1
          · exact ref14_end_no_lo s p n want hs hn hwant hp h1 h2 w
          · exact ref14_end_lo s p n want hs hn hwant hp h1 h2 w
        · by_cases h2 : ((L s.data.toList).length : Int) - 1 - of_ s.data.toList p < max n 1 - 1
          · exact ref14_end_no_hi s p n want hs hn hwant hp h1 h2 w
          · exact ref14_end_hi s p n want hs hn hwant hp h1 h2 w
      · by_cases h1 : n < 1
        · exact ref14_column_lo s p n want hs hn hwant hp h1 w
        · exact ref14_column_hi s p n want hs hn hwant hp h1 w
      · by_cases h1 : n < 1
        · by_cases h2 : of_ s.data.toList p = ((L s.data.toList).length : Int) - 1
          · exact ref14_down_no_lo s p n want hs hn hwant hp h1 h2 w
          · exact ref14_down_lo s p n want hs hn hwant hp h1 h2 w
        · by_cases h2 : of_ s.data.toList p = ((L s.data.toList).length : Int) - 1
          · exact ref14_down_no_hi s p n want hs hn hwant hp h1 h2 w
          · exact ref14_down_hi s p n want hs hn hwant hp h1 h2 w
      · by_cases h1 : n < 1
        · by_cases h2 : of_ s.data.toList p = 0
          · exact ref14_up_no_lo s p n want hs hn hwant hp h1 h2 w
          · exact ref14_up_lo s p n want hs hn hwant hp h1 h2 w
        · by_cases h2 : of_ s.data.toList p = 0
          · exact ref14_up_no_hi s p n want hs hn hwant hp h1 h2 w
          · exact ref14_up_hi s p n want hs hn hwant hp h1 h2 w
      · by_cases h1 : n < 1
        · exact ref14_top_lo s p n want hs hn hwant hp h1 w
        · exact ref14_top_hi s p n want hs hn hwant hp h1 w
      · by_cases h1 : n < 1
        · exact ref14_bottom_lo s p n want hs hn hwant hp h1 w
        · exact ref14_bottom_hi s p n want hs hn hwant hp h1 w
end Go.Proofs.Ytdmgjaobkfjgpaa
