/-
  Package ex's Parse: which command any text is.
-/
import Derived.Test.YtcddbdefdenecaaGreatDoorExParseNothing
import Derived.Test.YtcddbdefdenecaaGreatDoorExParseSwap
import Derived.Test.YtcddbdefdenecaaGreatDoorExParseBehind
import Derived.Test.YtcddbdefdenecaaGreatDoorExParsePerhaps
namespace Go.Proofs.YtcddbdefdenecaaGreatDoor
open Go.RowKit Go.Shelf
open Ex (Ln)
theorem Ex.kind_le {n : List UInt8} {r : Bool} {k : Nat} (h : Ex.kind n = some (r, k)) : k ≤ 5 := by
  obtain ⟨i, x, h1, h2⟩ := Ex.kind_tab h
  have h3 := Ex.tab_kind x (List.mem_of_getElem? h1)
  rw [h2, h] at h3
  injection h3 with h3
  have h4 : ∀ x ∈ Ex.tabW, x.2.2 ≤ 5 := by decide
  have := h4 x (List.mem_of_getElem? h1)
  rw [← h3] at this
  exact this
theorem Ex.parse_bad {s : List UInt8} (h : Utf.valid s = false ∨ 10 ∈ s) : Ex.parse s = (Ex.zero, 5) := by unfold Ex.parse; rw [if_pos h]
theorem Ex.parse_none {s : List UInt8} (hv : Utf.valid s = true) (hf : ¬ 10 ∈ s) (h : Ex.front s = none) : Ex.parse s = (Ex.zero, 3) := by unfold Ex.parse; rw [if_neg (by simp [hv, hf]), h]
theorem Ex.parse_word {s t : List UInt8} {a b : Int} (hv : Utf.valid s = true) (hf : ¬ 10 ∈ s) (h : Ex.front s = some (a, b, t)) : Ex.parse s = Ex.word a b t := by unfold Ex.parse; rw [if_neg (by simp [hv, hf]), h]
/-- Which command a text is. -/
theorem ex_Parse (s : ByteArray) (hs : s.size ≤ 1000000000) (w : World) :
    Calls Tryz.prog 6 #[.string s] w fun e w' => e = .returned (Ex.ansV (Ex.parse s.data.toList)) ∧ Below w.heap.size w w' := by
  rcases Bool.eq_false_or_eq_true (Utf.valid s.data.toList) with hv | hv
  rotate_left
  · rw [Ex.parse_bad (.inl hv)]; exact ex_Parse_invalid s hs hv w
  by_cases hf : 10 ∈ s.data.toList
  · rw [Ex.parse_bad (.inr hf)]; exact ex_Parse_lines s hs hv hf w
  cases h : Ex.front s.data.toList with
  | none => rw [Ex.parse_none hv hf h]; exact ex_Parse_addr s hs hv hf h w
  | some x =>
    obtain ⟨a, b, t⟩ := x
    have hp := Ex.parse_word hv hf h
    have htd := Ex.take_drop_verb t
    cases hk : Ex.kind (Ex.verb t).1 with
    | none =>
      rw [hp, show Ex.word a b t = (Ex.zero, 16) by unfold Ex.word; rw [hk]]
      exact ex_Parse_none s hs hv hf h hk w
    | some x =>
      obtain ⟨r, k⟩ := x
      have hw : Ex.word a b t = if (Ex.verb t).1 = [] ∧ t ≠ [] then (Ex.zero, 16) else if a ≠ 0 ∧ r = false then (Ex.zero, 3) else Ex.rest ⟨a, b, (Ex.verb t).1, [], [], [], false⟩ k (Ex.verb t).2 := by
        conv => lhs; unfold Ex.word
        rw [hk]
      by_cases hx : (Ex.verb t).1 = []
      · by_cases hy : (Ex.verb t).2 = []
        · have ht : t = [] := by rw [← htd, hx, hy]; rfl
          have hrk : r = true ∧ k = 0 := by
            rw [hx] at hk
            have : Ex.kind [] = some (true, 0) := by decide
            rw [this] at hk
            injection hk with hk; injection hk with h1 h2
            exact ⟨h1.symm, h2.symm⟩
          have hm : Ex.rest ⟨a, b, (Ex.verb t).1, [], [], [], false⟩ k (Ex.verb t).2 = (⟨a, b, (Ex.verb t).1, [], [], [], false⟩, 0) := by rw [hy]; exact Ex.rest_void (.inl hrk.2)
          rw [hp, hw, if_neg (fun e => e.2 ht), if_neg (fun e => by rw [hrk.1] at e; cases e.2), hm]
          exact ex_Parse_void_nothing s hs hv hf h hk hrk.2 hx hy rfl (by rw [hrk.1]; simp) hm w
        · have ht : t ≠ [] := by intro e; rw [e] at hy; exact hy (by decide)
          rw [hp, hw, if_pos ⟨hx, ht⟩]
          exact ex_Parse_rest s hs hv hf h hk hx hy w
      · by_cases ha : a ≠ 0 ∧ r = false
        · obtain ⟨ha, rfl⟩ := ha
          rw [hp, hw, if_neg (fun e => hx e.1), if_pos ⟨ha, rfl⟩]
          exact ex_Parse_wide s hs hv hf h hk hx ha w
        · have hq : ((a != 0) && !r) = false := by
            by_cases h0 : a = 0
            · simp [h0]
            · cases r
              · exact absurd ⟨h0, rfl⟩ ha
              · simp
          rw [if_neg (fun e => hx e.1), if_neg ha] at hw
          have hpw := hp.trans hw
          obtain ⟨m, er, hm⟩ : ∃ m er, Ex.rest ⟨a, b, (Ex.verb t).1, [], [], [], false⟩ k (Ex.verb t).2 = (m, er) := ⟨_, _, rfl⟩
          have hk5 := Ex.kind_le hk
          by_cases her : er = 0
          · subst her
            rw [hpw, hm]
            by_cases k0 : k = 0
            · exact ex_Parse_ok_nothing s hs hv hf h hk k0 hx rfl hq hm w
            by_cases k5 : k = 5
            · exact ex_Parse_ok_swap s hs hv hf h hk k5 hx rfl hq hm w
            by_cases k2 : k = 2 ∨ k = 4
            · exact ex_Parse_ok_behind s hs hv hf h hk k2 hx rfl hq hm w
            · exact ex_Parse_ok_perhaps s hs hv hf h hk (by omega) hx rfl hq hm w
          · have hz := Ex.parse_zero (hpw.trans hm) her
            rw [hpw, hm, hz]
            by_cases k0 : k = 0
            · exact ex_Parse_fail_nothing s hs hv hf h hk k0 hx rfl hq hm her w
            by_cases k5 : k = 5
            · exact ex_Parse_fail_swap s hs hv hf h hk k5 hx rfl hq hm her w
            by_cases k2 : k = 2 ∨ k = 4
            · exact ex_Parse_fail_behind s hs hv hf h hk k2 hx rfl hq hm her w
            · exact ex_Parse_fail_perhaps s hs hv hf h hk (by omega) hx rfl hq hm her w
end Go.Proofs.YtcddbdefdenecaaGreatDoor
