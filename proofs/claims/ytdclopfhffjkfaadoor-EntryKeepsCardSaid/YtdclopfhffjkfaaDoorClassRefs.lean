/-
  The document's answers about classes: where a byte stands in a text, the class of a rune, of what begins at a place, and how many blanks lead.
-/
import Derived.Test.YtdclopfhffjkfaaDoorClassOf
import Derived.Test.YtdclopfhffjkfaaDoorUtfRefs
namespace Go.Proofs.YtdclopfhffjkfaaDoor
open Go.RowKit
attribute [local go_sem] Oper.semAt_some
namespace Class
def find (l : List UInt8) (b : UInt8) : Int := match l.findIdx? (· == b) with | none => -1 | some k => (k : Int)
theorem find_some {l : List UInt8} {b : UInt8} {k : Nat} (h : l[k]? = some b) (hn : ∀ j, j < k → l[j]? ≠ some b) : find l b = k := by
  have hk : k < l.length := (List.getElem?_eq_some_iff.1 h).1
  have : l.findIdx? (· == b) = some k := by
    rw [List.findIdx?_eq_some_iff_getElem]
    refine ⟨hk, by have := (List.getElem?_eq_some_iff.1 h).2; simpa using this, fun j hj => ?_⟩
    have h1 := hn j hj
    rw [List.getElem?_eq_getElem (by omega)] at h1
    simpa using h1
  rw [find, this]
theorem find_none {l : List UInt8} {b : UInt8} (hn : ∀ j : Nat, l[j]? ≠ some b) : find l b = -1 := by
  have : l.findIdx? (· == b) = none := by
    rw [List.findIdx?_eq_none_iff]
    intro y hy
    obtain ⟨j, hj, rfl⟩ := List.mem_iff_getElem.1 hy
    have h1 := hn j
    rw [List.getElem?_eq_getElem hj] at h1
    simpa using h1
  rw [find, this]
theorem find_lt (l : List UInt8) (b : UInt8) : find l b < l.length ∧ -1 ≤ find l b := by
  unfold find
  split
  · omega
  · next k h =>
    rw [List.findIdx?_eq_some_iff_getElem] at h
    obtain ⟨hk, _⟩ := h
    omega
def blanks : List UInt8 := [32, 9]
def words : List UInt8 := [97, 98, 99, 100, 101, 102, 103, 104, 105, 106, 107, 108, 109, 110, 111, 112, 113, 114, 115, 116, 117, 118, 119, 120, 121, 122, 65, 66, 67, 68, 69, 70, 71, 72, 73, 74, 75, 76, 77, 78, 79, 80, 81, 82, 83, 84, 85, 86, 87, 88, 89, 90, 48, 49, 50, 51, 52, 53, 54, 55, 56, 57, 95]
theorem blank_find (b : UInt8) : (plain b.toNat = 1 ∧ 0 ≤ find blanks b) ∨ (plain b.toNat ≠ 1 ∧ find blanks b < 0) :=
  flip_all (fun b => (plain b.toNat = 1 ∧ 0 ≤ find blanks b) ∨ (plain b.toNat ≠ 1 ∧ find blanks b < 0)) (by decide +kernel) b
theorem word_find (b : UInt8) : b.toNat < 128 → b.toNat ≠ 10 → plain b.toNat ≠ 1 → (plain b.toNat = 2 ∧ 0 ≤ find words b) ∨ (plain b.toNat = 3 ∧ find words b < 0) :=
  flip_all (fun b => b.toNat < 128 → b.toNat ≠ 10 → plain b.toNat ≠ 1 → (plain b.toNat = 2 ∧ 0 ≤ find words b) ∨ (plain b.toNat = 3 ∧ find words b < 0)) (by decide +kernel) b
/-- The class of a rune by its first byte. -/
def head (l : List UInt8) (big : Bool) : Nat := match l with | [] => 0 | a :: _ => of big a.toNat
theorem rune_kind (s : List UInt8) (x : Int) (big : Bool) : head (Utf.rune s x) big = kind s x big := by
  by_cases h : Utf.next s x < 0
  · rw [kind_none h, Utf.rune, if_pos h]; rfl
  · obtain ⟨rs, i, hd, hi, rfl⟩ := next_place h
    rw [kind_at hd hi, Utf.rune_at hd (List.getElem?_eq_getElem hi)]
    obtain ⟨ho, he⟩ := Utf.dec_some hd
    obtain ⟨a, t, hat, _⟩ := Utf.one_shape (ho _ (List.getElem_mem hi))
    have := Utf.off_drop rs i
    rw [List.drop_eq_getElem_cons hi, List.flatten_cons, ← he, hat] at this
    have h2 : (s.drop (Utf.off rs i))[0]? = some a := by rw [this]; rfl
    rw [List.getElem?_drop, Nat.add_zero] at h2
    rw [at_some h2, hat]; rfl
theorem rune_one (s : List UInt8) (x : Int) : Utf.rune s x = [] ∨ Utf.one (Utf.rune s x) = true := by
  by_cases h : Utf.next s x < 0
  · left; rw [Utf.rune, if_pos h]
  · obtain ⟨rs, i, hd, hi, rfl⟩ := next_place h
    right
    rw [Utf.rune_at hd (List.getElem?_eq_getElem hi)]
    exact (Utf.dec_some hd).1 _ (List.getElem_mem hi)
/-- A rune's first byte: below 128 it is the rune. -/
theorem one_first {l : List UInt8} (h : Utf.one l = true) : ∃ a t, l = a :: t ∧ (a.toNat < 128 → t = []) ∧ (127 < a.toNat → 1 < l.length) := by
  obtain ⟨a, t, rfl, hh, hl, _⟩ := Utf.one_shape h
  refine ⟨a, t, rfl, fun h1 => ?_, fun h1 => ?_⟩
  · have : Utf.len a.toNat = 1 := by
      unfold Utf.len
      rw [if_neg (by omega), if_neg (by omega), if_neg (by omega), if_neg (by omega), if_neg (by omega)]
    rw [this] at hl
    simp at hl
    exact hl
  · have h2 : 191 < a.toNat := by simp [Utf.heads] at hh; omega
    have h3 : Utf.len a.toNat ≠ 1 := by
      unfold Utf.len
      split
      · omega
      · split
        · omega
        · split
          · omega
          · split
            · omega
            · split <;> omega
    have h4 : 0 < Utf.len a.toNat := by rw [hl]; simp
    omega
theorem lead_find {s : List UInt8} {k : Nat} (h : k < s.length) : (0 ≤ find blanks s[k] → k + lead (s.drop k) = k + 1 + lead (s.drop (k + 1))) ∧ (find blanks s[k] < 0 → k + lead (s.drop k) = k) := by
  rcases blank_find s[k] with ⟨h1, h2⟩ | ⟨h1, h2⟩
  · exact ⟨fun _ => lead_step h h1, fun h3 => absurd h3 (by omega)⟩
  · exact ⟨fun h3 => absurd h3 (by omega), fun _ => lead_stop h h1⟩
end Class
set_option maxHeartbeats 400000 in
theorem ref5_in (s : ByteArray) (b : UInt8) (hs : s.size ≤ 9223372036854775807) (w : World) :
    Calls Tryd.prog 78 #[.string s, .int .u8 (b.toNat : Int)] w fun e w' => e = .returned (.int .i64 (Class.find s.data.toList b)) ∧ w = w' := by
  have hl : s.data.toList.length = s.size := by simp
  go_enter Tryd.func78, Tryd.ntmps78
  go_wp2_with fail
  go_loop [5] (fun i => ∃ k : Nat, k ≤ s.size ∧ i = .int .i64 k ∧ Hid (∀ j, j < k → s.data.toList[j]? ≠ some b)) (fun i => s.size - (intOf i).toNat)
  case atStart => exact ⟨0, Nat.zero_le _, rfl, fun j hj => absurd hj (by omega)⟩
  case round =>
    obtain ⟨k, hk, rfl, N⟩ := hrel
    by_cases hlt : k < s.size
    · have hg : s.data.toList[k]? = some s[k] := byte_get s hlt
      by_cases he : s[k] = b
      · have H : Hid (Class.find s.data.toList b = k) := Class.find_some (by rw [hg, he]) N.out
        have g : ((s[k].toNat : Int) == (b.toNat : Int)) = true := by simp [he]
        clear N hg he hl
        go_wp2
        go_ret
        exact ⟨by rw [H.out]; rfl, rfl⟩
      · have N2 : Hid (∀ j, j < k + 1 → s.data.toList[j]? ≠ some b) := fun j hj h => by
          rcases Nat.lt_or_ge j k with h2 | h2
          · exact N.out j h2 h
          · rw [show j = k by omega, hg] at h
            injection h with h
            exact he h
        have g : ((s[k].toNat : Int) == (b.toNat : Int)) = false := by
          have : s[k].toNat ≠ b.toNat := fun h => he (UInt8.toNat_inj.1 h)
          simp; omega
        clear N hg he hl
        go_wp2
        go_round
        case rel => exact ⟨k + 1, by omega, by go_num, N2⟩
        case measure => simp [intOf]; omega
    · have H : Hid (Class.find s.data.toList b = -1) := Class.find_none (fun j h => by
        rcases Nat.lt_or_ge j k with h2 | h2
        · exact N.out j h2 h
        · rw [List.getElem?_eq_none (by omega)] at h; cases h)
      clear N hl
      go_wp2
      go_ret
      exact ⟨by rw [H.out]; rfl, rfl⟩
theorem ref5_blanks (b : UInt8) (w : World) :
    Calls Tryd.prog 78 #[.string ⟨#[32, 9]⟩, .int .u8 (b.toNat : Int)] w fun e w' => e = .returned (.int .i64 (Class.find Class.blanks b)) ∧ w = w' :=
  ref5_in ⟨#[32, 9]⟩ b (by decide) w
theorem ref5_words (b : UInt8) (w : World) :
    Calls Tryd.prog 78 #[.string (bs Class.words), .int .u8 (b.toNat : Int)] w fun e w' => e = .returned (.int .i64 (Class.find Class.words b)) ∧ w = w' :=
  ref5_in (bs Class.words) b (by decide) w
set_option maxHeartbeats 400000 in
set_option maxRecDepth 100000 in
theorem ref5_Kind (s : ByteArray) (big : Bool) (hs : s.size ≤ 9223372036854775807) (hr : s.data.toList = [] ∨ Utf.one s.data.toList = true) (w : World) :
    Calls Tryd.prog 58 #[.string s, .bool big] w fun e w' => e = .returned (.int .i64 (Class.head s.data.toList big : Nat)) ∧ w = w' := by
  have hl : s.data.toList.length = s.size := by simp
  rcases hr with hr | hr
  · obtain rfl : s = bs [] := by rw [← bs_data s, hr]
    have H : Hid (Class.head (bs []).data.toList big = 0) := rfl
    have g : (bs []).toList.isEmpty = true := by rw [bs_tl]; rfl
    clear hr hl
    go_enter Tryd.func58, Tryd.ntmps58
    go_wp2
    go_ret
    exact ⟨by rw [H.out]; rfl, rfl⟩
  · obtain ⟨a, t, he, h1, h2⟩ := Class.one_first hr
    have hsz : 0 < s.size := by rw [← hl, he]; simp
    have hf : s[0] = a := by
      have := byte_get s hsz
      rw [he] at this
      simpa using this.symm
    have H : Hid (Class.head s.data.toList big = Class.of big s[0].toNat) := by show _ = _; rw [hf, he]; rfl
    have g1 : s.toList.isEmpty = false := by
      have : s.toList = a :: t := by rw [← he]; exact bs_tl s.data.toList
      rw [this]; rfl
    have g1b : (!s.toList.isEmpty) = true := by rw [g1]; rfl
    by_cases h10 : s[0].toNat = 10
    · have ht : t = [] := h1 (by rw [← hf, h10]; omega)
      have ha : a = 10 := by apply UInt8.toNat_inj.1; rw [← hf, h10]; rfl
      have g2 : (s.toList == [10]) = true := by
        have : s.toList = a :: t := by rw [← he]; exact bs_tl s.data.toList
        rw [this, ht, ha]; rfl
      have H2 : Hid (Class.head s.data.toList big = 4) := by show _ = _; rw [H.out, h10, Class.of_feed]
      clear H h10 hf h1 h2 he hr ha ht
      go_enter Tryd.func58, Tryd.ntmps58
      go_wp2
      go_ret
      exact ⟨by rw [H2.out]; rfl, rfl⟩
    · have c1 := Lib.hid (ref5_blanks s[0])
      have c2 := Lib.hid (ref5_words s[0])
      have g2 : (s.toList == [10]) = false := by
        have : s.toList = a :: t := by rw [← he]; exact bs_tl s.data.toList
        rw [this]
        have h3 : a ≠ 10 := by intro h; rw [hf, h] at h10; exact h10 rfl
        simp [h3]
      rcases Class.blank_find s[0] with ⟨p1, p2⟩ | ⟨p1, p2⟩
      · have H2 : Hid (Class.head s.data.toList big = 1) := by
          show _ = _
          rw [H.out]
          cases big
          · exact p1
          · rw [Class.of_true, Class.great, p1]; rfl
        clear H h10 hf h1 h2 he hr p1
        generalize Class.find Class.blanks s[0] = z at *
        go_enter Tryd.func58, Tryd.ntmps58
        go_wp2_with (go_at_call 78; refine (c1.out _).mono ?_; rintro e w1 ⟨rfl, rfl⟩)
        go_ret
        exact ⟨by rw [H2.out]; rfl, rfl⟩
      · by_cases hlong : 127 < s[0].toNat
        · have H2 : Hid (Class.head s.data.toList big = 2) := by show _ = _; rw [H.out]; exact Class.of_long _ hlong
          have h4 : 1 < s.size := by rw [← hl]; exact h2 (by rw [← hf]; exact hlong)
          clear H h10 hf h1 h2 he hr p1 hlong
          generalize Class.find Class.blanks s[0] = z at *
          go_enter Tryd.func58, Tryd.ntmps58
          go_wp2_with (go_at_call 78; refine (c1.out _).mono ?_; rintro e w1 ⟨rfl, rfl⟩)
          go_ret
          exact ⟨by rw [H2.out]; rfl, rfl⟩
        · have h4 : ¬ 1 < s.size := by rw [← hl, he, h1 (by rw [← hf]; omega)]; simp
          have W := Class.word_find s[0] (by omega) h10 p1
          cases big
          · clear h10 hf h1 h2 he hr p1 hlong
            rcases W with ⟨q1, q2⟩ | ⟨q1, q2⟩
            · have H2 : Hid (Class.head s.data.toList false = 2) := by show _ = _; rw [H.out]; exact q1
              clear H q1
              generalize Class.find Class.blanks s[0] = z at *
              generalize Class.find Class.words s[0] = z2 at *
              go_enter Tryd.func58, Tryd.ntmps58
              go_wp2_with fail
              refine (c1.out _).mono ?_
              rintro e w1 ⟨rfl, rfl⟩
              go_wp2_with fail
              refine (c2.out _).mono ?_
              rintro e w1 ⟨rfl, rfl⟩
              go_wp2
              go_ret
              exact ⟨by rw [H2.out]; rfl, rfl⟩
            · have H2 : Hid (Class.head s.data.toList false = 3) := by show _ = _; rw [H.out]; exact q1
              clear H q1
              generalize Class.find Class.blanks s[0] = z at *
              generalize Class.find Class.words s[0] = z2 at *
              go_enter Tryd.func58, Tryd.ntmps58
              go_wp2_with fail
              refine (c1.out _).mono ?_
              rintro e w1 ⟨rfl, rfl⟩
              go_wp2_with fail
              refine (c2.out _).mono ?_
              rintro e w1 ⟨rfl, rfl⟩
              go_wp2
              go_ret
              exact ⟨by rw [H2.out]; rfl, rfl⟩
          · have H2 : Hid (Class.head s.data.toList true = 2) := by
              show _ = _
              rw [H.out, Class.of_true, Class.great]
              rcases W with ⟨q1, _⟩ | ⟨q1, _⟩ <;> rw [q1] <;> rfl
            clear H h10 hf h1 h2 he hr p1 hlong W
            generalize Class.find Class.blanks s[0] = z at *
            go_enter Tryd.func58, Tryd.ntmps58
            go_wp2_with (go_at_call 78; refine (c1.out _).mono ?_; rintro e w1 ⟨rfl, rfl⟩)
            go_ret
            exact ⟨by rw [H2.out]; rfl, rfl⟩
theorem ref5_Of (s : ByteArray) (x : Int) (big : Bool) (hs : s.size ≤ 17592186044000) (w : World) :
    Calls Tryd.prog 34 #[.string s, .int .i64 x, .bool big] w fun e w' => e = .returned (.int .i64 (Class.kind s.data.toList x big : Nat)) ∧ Below w.heap.size w w' := by
  have c1 := Lib.hid (ref_Rune s x hs)
  have hsz : (bs (Utf.rune s.data.toList x)).size ≤ 9223372036854775807 := by
    rw [bs_size]
    rcases Class.rune_one s.data.toList x with h | h
    · rw [h]; simp
    · have := Utf.one_le h; omega
  have c2 := Lib.hid (ref5_Kind (bs (Utf.rune s.data.toList x)) big hsz (by rw [bs_toList]; exact Class.rune_one s.data.toList x))
  have H : Hid (Class.head (bs (Utf.rune s.data.toList x)).data.toList big = Class.kind s.data.toList x big) := by show _ = _; rw [bs_toList]; exact Class.rune_kind s.data.toList x big
  clear hsz
  generalize bs (Utf.rune s.data.toList x) = r at *
  go_enter Tryd.func34, Tryd.ntmps34
  go_wp2_with (first | (go_at_call 59; refine (c1.out _).mono ?_; rintro e w1 ⟨rfl, hb⟩) | (go_at_call 58; refine (c2.out _).mono ?_; rintro e w1 ⟨rfl, rfl⟩))
  go_ret
  exact ⟨by rw [← H.out]; rfl, hb⟩
end Go.Proofs.YtdclopfhffjkfaaDoor
