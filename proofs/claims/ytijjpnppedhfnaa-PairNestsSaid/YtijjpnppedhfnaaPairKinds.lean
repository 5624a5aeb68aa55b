/-
  Kinds of brackets: what closes what opens, and the other way, on both sides; the document's place where one is closed.
-/
import Derived.Test.YtijjpnppedhfnaaPair
namespace Go.Proofs.Ytijjpnppedhfnaa
open Go.RowKit
namespace Pair
theorem test (k : ByteArray) (m : UInt8) : (k.toList == [m]) = decide (k.data.toList = [m]) := by
  have e : k.toList = k.data.toList := bs_tl k.data.toList
  rw [e, Bool.eq_iff_iff]
  simp
/-- The text of what closes; none, if that is no kind. -/
def cloL (l : List UInt8) : List UInt8 := match clo l with | some c => [c] | none => []
/-- Its byte; 0, if that is no kind. -/
def cloB (l : List UInt8) : UInt8 := (clo l).getD 0
theorem clo_not {l : List UInt8} (h1 : l ≠ [40]) (h2 : l ≠ [91]) (h3 : l ≠ [123]) (h4 : l ≠ [60]) : clo l = none := by
  unfold clo
  split
  · exact absurd rfl h1
  · exact absurd rfl h2
  · exact absurd rfl h3
  · exact absurd rfl h4
  · rfl
/-- The kind of a bracket. -/
def opn : UInt8 → UInt8
  | 41 => 40
  | 93 => 91
  | 125 => 123
  | b => b
theorem opn_not {b : UInt8} (h1 : b ≠ 41) (h2 : b ≠ 93) (h3 : b ≠ 125) : opn b = b := by
  unfold opn
  split
  · exact absurd rfl h1
  · exact absurd rfl h2
  · exact absurd rfl h3
  · rfl
end Pair
open Pair
theorem pair_closer (k : ByteArray) (w : World) :
    Calls Try.prog 17 #[.string k] w fun e w' => e = .returned (.string (bs (cloL k.data.toList))) ∧ w = w' := by
  by_cases h40 : k.data.toList = [40]
  · have g40 := (test k 40).trans (decide_eq_true h40)
    have H : Hid (cloL k.data.toList = [41]) := by show _ = _; rw [h40]; rfl
    clear h40
    go_enter Try.func17, Try.ntmps17
    go_wp2
    go_ret
    exact ⟨by rw [H.out]; rfl, rfl⟩
  have g40 := (test k 40).trans (decide_eq_false h40)
  by_cases h91 : k.data.toList = [91]
  · have g91 := (test k 91).trans (decide_eq_true h91)
    have H : Hid (cloL k.data.toList = [93]) := by show _ = _; rw [h91]; rfl
    clear h91
    go_enter Try.func17, Try.ntmps17
    go_wp2
    go_ret
    exact ⟨by rw [H.out]; rfl, rfl⟩
  have g91 := (test k 91).trans (decide_eq_false h91)
  by_cases h123 : k.data.toList = [123]
  · have g123 := (test k 123).trans (decide_eq_true h123)
    have H : Hid (cloL k.data.toList = [125]) := by show _ = _; rw [h123]; rfl
    clear h123
    go_enter Try.func17, Try.ntmps17
    go_wp2
    go_ret
    exact ⟨by rw [H.out]; rfl, rfl⟩
  have g123 := (test k 123).trans (decide_eq_false h123)
  by_cases h60 : k.data.toList = [60]
  · have g60 := (test k 60).trans (decide_eq_true h60)
    have H : Hid (cloL k.data.toList = [62]) := by show _ = _; rw [h60]; rfl
    clear h60
    go_enter Try.func17, Try.ntmps17
    go_wp2
    go_ret
    exact ⟨by rw [H.out]; rfl, rfl⟩
  have g60 := (test k 60).trans (decide_eq_false h60)
  have H : Hid (cloL k.data.toList = []) := by show _ = _; rw [cloL, clo_not h40 h91 h123 h60]
  clear h40 h91 h123 h60
  go_enter Try.func17, Try.ntmps17
  go_wp2
  go_ret
  exact ⟨by rw [H.out]; rfl, rfl⟩
theorem ref17_closer (k : ByteArray) (w : World) :
    Calls Try.prog 22 #[.string k] w fun e w' => e = .returned (.int .u8 ((cloB k.data.toList).toNat : Nat)) ∧ w = w' := by
  by_cases h40 : k.data.toList = [40]
  · have g40 := (test k 40).trans (decide_eq_true h40)
    have H : Hid (cloB k.data.toList = 41) := by show _ = _; rw [h40]; rfl
    clear h40
    go_enter Try.func22, Try.ntmps22
    go_wp2
    go_ret
    exact ⟨by rw [H.out]; rfl, rfl⟩
  have g40 := (test k 40).trans (decide_eq_false h40)
  by_cases h91 : k.data.toList = [91]
  · have g91 := (test k 91).trans (decide_eq_true h91)
    have H : Hid (cloB k.data.toList = 93) := by show _ = _; rw [h91]; rfl
    clear h91
    go_enter Try.func22, Try.ntmps22
    go_wp2
    go_ret
    exact ⟨by rw [H.out]; rfl, rfl⟩
  have g91 := (test k 91).trans (decide_eq_false h91)
  by_cases h123 : k.data.toList = [123]
  · have g123 := (test k 123).trans (decide_eq_true h123)
    have H : Hid (cloB k.data.toList = 125) := by show _ = _; rw [h123]; rfl
    clear h123
    go_enter Try.func22, Try.ntmps22
    go_wp2
    go_ret
    exact ⟨by rw [H.out]; rfl, rfl⟩
  have g123 := (test k 123).trans (decide_eq_false h123)
  by_cases h60 : k.data.toList = [60]
  · have g60 := (test k 60).trans (decide_eq_true h60)
    have H : Hid (cloB k.data.toList = 62) := by show _ = _; rw [h60]; rfl
    clear h60
    go_enter Try.func22, Try.ntmps22
    go_wp2
    go_ret
    exact ⟨by rw [H.out]; rfl, rfl⟩
  have g60 := (test k 60).trans (decide_eq_false h60)
  have H : Hid (cloB k.data.toList = 0) := by show _ = _; rw [cloB, clo_not h40 h91 h123 h60]; rfl
  clear h40 h91 h123 h60
  go_enter Try.func22, Try.ntmps22
  go_wp2
  go_ret
  exact ⟨by rw [H.out]; rfl, rfl⟩
theorem pair_opener (b : UInt8) (w : World) :
    Calls Try.prog 28 #[.string (bs [b])] w fun e w' => e = .returned (.string (bs [opn b])) ∧ w = w' := by
  by_cases h41 : b = 41
  · subst h41
    have g := (test (bs [41]) 41).trans (decide_eq_true rfl)
    go_enter Try.func28, Try.ntmps28
    go_wp2
    go_ret
    exact ⟨rfl, rfl⟩
  have g41 := (test (bs [b]) 41).trans (decide_eq_false (fun e => h41 (by injection e)))
  by_cases h93 : b = 93
  · subst h93
    have g := (test (bs [93]) 93).trans (decide_eq_true rfl)
    go_enter Try.func28, Try.ntmps28
    go_wp2
    go_ret
    exact ⟨rfl, rfl⟩
  have g93 := (test (bs [b]) 93).trans (decide_eq_false (fun e => h93 (by injection e)))
  by_cases h125 : b = 125
  · subst h125
    have g := (test (bs [125]) 125).trans (decide_eq_true rfl)
    go_enter Try.func28, Try.ntmps28
    go_wp2
    go_ret
    exact ⟨rfl, rfl⟩
  have g125 := (test (bs [b]) 125).trans (decide_eq_false (fun e => h125 (by injection e)))
  have H := Lib.hid (opn_not h41 h93 h125)
  clear h41 h93 h125
  go_enter Try.func28, Try.ntmps28
  go_wp2
  go_ret
  exact ⟨by rw [H.out]; rfl, rfl⟩
set_option maxHeartbeats 1000000 in
theorem ref17_other (s : ByteArray) (p : Nat) (o c : UInt8) (hoc : o ≠ c) (hp : s.data.toList[p]? = some o) (hs : s.size ≤ 1000000) (w : World) :
    Calls Try.prog 24 #[.string s, .int .i64 (p : Nat), .int .u8 (o.toNat : Nat), .int .u8 (c.toNat : Nat)] w fun e w' => e = .returned (.int .i64 (num (oth o c (s.data.toList.drop (p + 1)) 1 (p + 1)))) ∧ w = w' := by
  have hl := data_len s
  have hpl := (List.getElem?_eq_some_iff.1 hp).1
  rw [hl] at hpl
  have HP := Lib.hid hp
  have hne : ((o.toNat : Int) == (c.toNat : Int)) = false := beq_eq_false_iff_ne.2 (fun e => hoc (UInt8.toNat_inj.1 (by omega)))
  have HOC := Lib.hid hoc
  clear hp hoc
  go_enter Try.func24, Try.ntmps24
  go_wp2
  go_loopw [9, 10] (fun dv iv wr => ∃ d i : Nat, dv = .int .i64 d ∧ iv = .int .i64 i ∧ i ≤ s.size ∧ d ≤ i ∧ wr = w ∧ ((i = p ∧ d = 0) ∨ (p < i ∧ 1 ≤ d ∧ Hid (oth o c (s.data.toList.drop (p + 1)) 1 (p + 1) = oth o c (s.data.toList.drop i) d i)))) (fun _ iv _ => s.size - (intOf iv).toNat)
  case atStart => exact ⟨0, p, rfl, rfl, by omega, by omega, rfl, .inl ⟨rfl, rfl⟩⟩
  case round =>
    obtain ⟨d, i, rfl, rfl, hi, hdi, rfl, ⟨rfl, rfl⟩ | ⟨hpi, hd, HO⟩⟩ := hrel
    · have hg := HP.out
      obtain ⟨b, hb⟩ : ∃ b, s[i]'hpl = b := ⟨_, rfl⟩
      have hg2 := byte_get s hpl
      rw [hg2] at hg
      injection hg with hg
      have hbo : s[i]'hpl = o := hg
      clear hg hg2 hb
      have g1 : (((s[i]'hpl).toNat : Int) == (o.toNat : Int)) = true := by rw [hbo]; simp
      have g2 : (((s[i]'hpl).toNat : Int) == (c.toNat : Int)) = false := by rw [hbo]; exact hne
      clear hbo
      go_wp2
      go_roundw
      case rel => exact ⟨1, i + 1, rfl, by go_num, by omega, by omega, by trivial, .inr ⟨by omega, Nat.le_refl _, rfl⟩⟩
      case measure => simp [intOf]; omega
    · by_cases hlt : i < s.size
      · have hg := byte_get s hlt
        have hdr : s.data.toList.drop i = s[i] :: s.data.toList.drop (i + 1) := by
          rw [List.drop_eq_getElem_cons (by rw [hl]; exact hlt)]
          congr 1
        have H2 : Hid (oth o c (s.data.toList.drop (p + 1)) 1 (p + 1) = (if s[i] = o then oth o c (s.data.toList.drop (i + 1)) (d + 1) (i + 1) else if s[i] = c then (if d ≤ 1 then some i else oth o c (s.data.toList.drop (i + 1)) (d - 1) (i + 1)) else oth o c (s.data.toList.drop (i + 1)) d (i + 1))) := by
          show _ = _
          rw [HO.out, hdr, oth]
        clear hdr hg HO
        by_cases ho : s[i] = o
        · have g1 : ((s[i].toNat : Int) == (o.toNat : Int)) = true := by rw [ho]; simp
          have g2 : ((s[i].toNat : Int) == (c.toNat : Int)) = false := by rw [ho]; exact hne
          have g3 : (((d : Int) + 1) == 0) = false := beq_eq_false_iff_ne.2 (by omega)
          have H3 := H2.out
          rw [if_pos ho] at H3
          have H4 := Lib.hid H3
          clear ho H2 H3
          go_wp2
          go_roundw
          case rel => exact ⟨d + 1, i + 1, by go_num, by go_num, by omega, by omega, by trivial, .inr ⟨by omega, by omega, H4⟩⟩
          case measure => simp [intOf]; omega
        · have g1 : ((s[i].toNat : Int) == (o.toNat : Int)) = false := beq_eq_false_iff_ne.2 (fun e => ho (UInt8.toNat_inj.1 (by omega)))
          have H3 := H2.out
          rw [if_neg ho] at H3
          by_cases hc : s[i] = c
          · have g2 : ((s[i].toNat : Int) == (c.toNat : Int)) = true := by rw [hc]; simp
            rw [if_pos hc] at H3
            by_cases h1 : d ≤ 1
            · obtain rfl : d = 1 := by omega
              rw [if_pos h1] at H3
              have H4 := Lib.hid H3
              clear ho hc H2 H3
              go_wp2
              go_ret
              exact ⟨by rw [H4.out]; rfl, rfl⟩
            · obtain ⟨m, rfl⟩ : ∃ m, d = m + 1 := ⟨d - 1, by omega⟩
              rw [if_neg h1, Nat.add_sub_cancel] at H3
              have g3 : ((m : Int) == 0) = false := beq_eq_false_iff_ne.2 (by omega)
              have g4 : IntKind.i64.wrap (m : Int) = (m : Int) := by rw [IntKind.wrap_i64]; omega
              have H4 := Lib.hid H3
              clear ho hc H2 H3
              go_wp2
              go_roundw
              case rel => exact ⟨m, i + 1, by go_num, by go_num, by omega, by omega, by trivial, .inr ⟨by omega, by omega, H4⟩⟩
              case measure => simp [intOf]; omega
          · have g2 : ((s[i].toNat : Int) == (c.toNat : Int)) = false := beq_eq_false_iff_ne.2 (fun e => hc (UInt8.toNat_inj.1 (by omega)))
            have g3 : ((d : Int) == 0) = false := beq_eq_false_iff_ne.2 (by omega)
            rw [if_neg hc] at H3
            have H4 := Lib.hid H3
            clear ho hc H2 H3
            go_wp2
            go_roundw
            case rel => exact ⟨d, i + 1, rfl, by go_num, by omega, by omega, by trivial, .inr ⟨by omega, hd, H4⟩⟩
            case measure => simp [intOf]; omega
      · obtain rfl : i = s.size := by omega
        have H2 : Hid (oth o c (s.data.toList.drop (p + 1)) 1 (p + 1) = none) := by
          show _ = _
          rw [HO.out, List.drop_eq_nil_of_le (by rw [hl]; exact Nat.le_refl _), oth]
        clear HO
        go_wp2
        go_ret
        exact ⟨by rw [H2.out]; rfl, rfl⟩
end Go.Proofs.Ytijjpnppedhfnaa
