/-
  The document's parts of a text between slashes: a list whose last text is made longer, or that gets one more.
-/
import Derived.Test.YtcddbdefdenecaaGreatDoorExRef2
import Derived.Test.YtcddbdefdenecaaGreatDoorStrsOwn
import Derived.Test.YtcddbdefdenecaaGreatDoorInts
import Derived.Laws.OwnMore
import Derived.BigQuiet
namespace Go.Proofs.YtcddbdefdenecaaGreatDoor
open Go.RowKit Go.Shelf
open Ex (Ln)
namespace Ex
def prow (R : List (List UInt8)) : List Value := (R.map bs).map Value.string
theorem prow_length (R : List (List UInt8)) : (prow R).length = R.length := by simp [prow]
theorem prow_append (A B : List (List UInt8)) : prow (A ++ B) = prow A ++ prow B := by simp [prow]
theorem prow_get {R : List (List UInt8)} {k : Nat} {x : List UInt8} (h : R[k]? = some x) : (prow R)[k]? = some (.string (bs x)) := by simp [prow, h]
theorem prow_set (R : List (List UInt8)) (k : Nat) (x : List UInt8) : (prow R).set k (.string (bs x)) = prow (R.set k x) := by
  simp only [prow, List.map_set]
theorem parts_slash (s : List UInt8) : parts (s ++ [47]) = parts s ++ [[]] := by
  induction s with
  | nil => rfl
  | cons x t ih =>
    rw [List.cons_append]
    by_cases hx : x = 47
    · subst hx
      rw [parts, if_pos rfl, ih, parts, if_pos rfl]; rfl
    · cases hp : parts t with
      | nil => exact absurd hp (parts_ne t)
      | cons p r => rw [parts, if_neg hx, ih, parts, if_neg hx, hp]; rfl
theorem parts_other {b : UInt8} (hb : b ≠ 47) : ∀ {s : List UInt8} {D : List (List UInt8)} {c : List UInt8}, parts s = D ++ [c] → parts (s ++ [b]) = D ++ [c ++ [b]] := by
  intro s
  induction s with
  | nil =>
    intro D c h
    have h2 : ([[]] : List (List UInt8)) = D ++ [c] := h
    cases D with
    | nil => injection h2 with h2; subst h2; show parts [b] = _; rw [parts, if_neg hb]; rfl
    | cons d D => simp at h2
  | cons x t ih =>
    intro D c h
    obtain ⟨E, e, he⟩ : ∃ E e, parts t = E ++ [e] := ⟨(parts t).dropLast, (parts t).getLast (parts_ne t), (List.dropLast_concat_getLast (parts_ne t)).symm⟩
    have i := ih he
    rw [List.cons_append]
    by_cases hx : x = 47
    · rw [parts, if_pos hx] at h
      rw [parts, if_pos hx, i]
      rw [he, ← List.cons_append] at h
      obtain ⟨h1, h2⟩ := List.append_inj' h rfl
      injection h2 with h2
      rw [← h1, h2]; rfl
    · rw [parts, if_neg hx, he] at h
      rw [parts, if_neg hx, i]
      cases E with
      | nil =>
        simp only [List.nil_append] at h ⊢
        have h2 : [] ++ [x :: e] = D ++ [c] := h
        obtain ⟨h1, h3⟩ := List.append_inj' h2 rfl
        injection h3 with h3
        rw [← h1, ← h3]; rfl
      | cons d E =>
        have h2 : ((x :: d) :: E) ++ [e] = D ++ [c] := h
        obtain ⟨h1, h3⟩ := List.append_inj' h2 rfl
        injection h3 with h3
        rw [← h1, ← h3]; rfl
theorem parts_len : ∀ (s : List UInt8), (parts s).length ≤ s.length + 1 := by
  intro s
  induction s with
  | nil => simp [parts]
  | cons x t ih =>
    rw [parts]
    split
    · simp; omega
    · cases hp : parts t with
      | nil => exact absurd hp (parts_ne t)
      | cons p r => rw [hp] at ih; simp at ih ⊢; omega
theorem glue_mem : ∀ {R : List (List UInt8)} {x : List UInt8}, x ∈ R → x.length ≤ (glue R).length := by
  intro R
  induction R with
  | nil => intro x h; cases h
  | cons p r ih =>
    intro x h
    cases r with
    | nil => simp at h; subst h; exact Nat.le_refl _
    | cons q u =>
      rw [glue, List.length_append, List.length_cons]
      rcases List.mem_cons.1 h with h | h
      · subst h; omega
      · have := ih h; omega
theorem parts_mem {s x : List UInt8} (h : x ∈ parts s) : x.length ≤ s.length := by
  have := glue_mem h
  rwa [glue_parts] at this
/-- What the document's parts tell: a list of these texts. -/
def PartsIs (R : List (List UInt8)) (w : World) (e : Ending) (w' : World) : Prop := ∃ (A : Option Addr) (c : Nat), e = .returned (.slice A R.length c) ∧ w'.ownsRow w.heap.size 9 1 (.slice A R.length c) R.length (prow R) ∧ Below w.heap.size w w'
end Ex
set_option maxHeartbeats 2000000 in
set_option maxRecDepth 100000 in
theorem ref27_parts (s : ByteArray) (hs : s.size ≤ 1000000000) (w : World) :
    Calls Tryz.prog 24 #[.string s] w (Ex.PartsIs (Ex.parts s.data.toList) w) := by
  have hl := data_len s
  obtain ⟨i0, hi, hz0, hz1, hz2⟩ := info_parts info_string
  go_enter Tryz.func24, Tryz.ntmps24
  go_wp2_with fail
  go_loopw [3, 4] (fun v iv wr => ∃ (g c m k : Nat) (D : List (List UInt8)) (cc : List UInt8), iv = .int .i64 k ∧ k ≤ s.size ∧ v = .slice (some ⟨g, 0, none⟩) (m + 1) c ∧ Hid (Ex.parts (s.data.toList.take k) = D ++ [cc] ∧ D.length = m) ∧ Hid (wr.ownsRow w.heap.size 9 1 v (m + 1) (Ex.prow (D ++ [cc]))) ∧ Below w.heap.size w wr) (fun _ iv _ => s.size - (intOf iv).toNat)
  case atStart => exact ⟨w.heap.size, 1, 0, 0, [], [], rfl, Nat.zero_le _, rfl, ⟨rfl, rfl⟩, World.ownsRow_lit w _ 1 (Nat.le_refl _) (by decide) rfl, (Below.refl _ w).alloc (Nat.le_refl _) _⟩
  case round =>
    obtain ⟨g, c, m, k, D, cc, rfl, hk, rfl, hP, hO, hW⟩ := hrel
    have hmk : m ≤ k := by
      have h1 := Ex.parts_len (s.data.toList.take k)
      rw [hP.out.1, List.length_append, hP.out.2, List.length_take] at h1
      simp only [List.length_cons, List.length_nil] at h1
      omega
    by_cases hlt : k < s.size
    · have g9 : decide ((k : Int) < (s.size : Int)) = true := by rw [decide_eq_true_iff]; omega
      have hb := byte_get s hlt
      have htk : s.data.toList.take (k + 1) = s.data.toList.take k ++ [s[k]] := by rw [List.take_add_one, hb]; rfl
      by_cases hs47 : s[k] = 47
      · have e1 : ((s[k].toNat : Int) == 47) = true := by rw [beq_iff_eq, hs47]; rfl
        have hP2 : Hid (Ex.parts (s.data.toList.take (k + 1)) = (D ++ [cc]) ++ [[]] ∧ (D ++ [cc]).length = m + 1) := by
          show _ ∧ _
          rw [htk, hs47, Ex.parts_slash, hP.out.1, List.length_append, hP.out.2]; exact ⟨rfl, rfl⟩
        have hO2 := hO.out.alloc (.cells #[.string ⟨#[]⟩] 9)
        have hN := Blk.new wr 9 #[.string ⟨#[]⟩]
        have hW2 := hW.alloc hW.size (.cells #[.string ⟨#[]⟩] 9)
        clear hb htk hs47 hP hO hl
        go_wp2_with (at_builtin; refine wpList_append_own _ rfl _ _ 57 rfl w.heap.size 9 i0 (.string ⟨#[]⟩) 1 16 Tryz.underlying57 hi hz0 hz1 hz2 rfl (by decide) _ _ _ rfl hO2 ⟨wr.heap.size, 0, none⟩ 1 1 [.string ⟨#[]⟩] rfl rfl ?c1 ?c2 ?c3 ?c4 ?c5 ?_)
        case c1 =>
          intro j y hj
          have e : (⟨wr.heap.size, 0, none⟩ : Addr).add j = ⟨wr.heap.size, j, none⟩ := by unfold Addr.add; split <;> simp_all
          rw [e, hN.cell]
          simpa using hj
        case c2 => intro y hy; simp at hy; subst hy; rfl
        case c3 => unfold maxLen; omega
        case c4 => omega
        case c5 => exact hW2.size
        intro v' w6 hown6 hgrow6 _
        obtain ⟨a6, cap6, rfl⟩ := own_shape hown6
        have W6 := hW2.grown hgrow6 hW2.size (fun j hj => (hO2.lt j hj).1)
        obtain ⟨g6, rfl⟩ : ∃ g6, a6 = some ⟨g6, 0, none⟩ := by
          rcases hown6.2 with ⟨_, h2⟩ | ⟨g6, cap, cur, hv, _⟩
          · simp at h2
          · injection hv with hA; exact ⟨g6, hA⟩
        have HO : Hid (w6.ownsRow w.heap.size 9 1 (.slice (some ⟨g6, 0, none⟩) (m + 1 + 1) cap6) (m + 1 + 1) (Ex.prow ((D ++ [cc]) ++ [[]]))) := by
          show World.ownsRow _ _ _ _ _ _ _
          rw [Ex.prow_append]; exact hown6
        clear hgrow6 hown6 hO2 hN
        go_wp2
        go_roundw
        case rel => exact ⟨g6, cap6, m + 1, k + 1, D ++ [cc], [], by go_num, by omega, rfl, hP2, HO, W6⟩
        case measure => simp [intOf]; omega
      · have e1 : ((s[k].toNat : Int) == 47) = false := by rw [beq_eq_false_iff_ne]; exact fun e => hs47 (UInt8.toNat_inj.1 (by have k1 : (47 : UInt8).toNat = 47 := rfl; omega))
        have hP2 : Hid (Ex.parts (s.data.toList.take (k + 1)) = D ++ [cc ++ [s[k]]] ∧ D.length = m) := by
          show _ ∧ _
          rw [htk]; exact ⟨Ex.parts_other hs47 hP.out.1, hP.out.2⟩
        have ex1 : s.extract k (k + 1) = bs [s[k]] := by
          rw [Lib.extract_eq, show k + 1 - k = 1 by omega]
          have : (s.data.toList.drop k).take 1 = [s[k]] := by
            rw [List.drop_eq_getElem_cons (by rw [hl]; exact hlt)]
            have := byte_get s hlt
            rw [List.getElem?_eq_getElem (by rw [hl]; exact hlt)] at this
            injection this with this
            rw [this]; rfl
          rw [this]; rfl
        have H2 : Hid (bs cc ++ bs [s[k]] = bs (cc ++ [s[k]])) := bs_append _ _
        have hcl : cc.length ≤ s.size := by
          have h1 := Ex.parts_mem (s := s.data.toList.take k) (x := cc) (by rw [hP.out.1]; simp)
          rw [List.length_take] at h1; omega
        have hz : (bs cc).size ≤ 1000000000 := by rw [bs_size]; omega
        have c1 : wr.cell? ⟨g, m, none⟩ = some (.string (bs cc)) := by
          rw [hO.out.cellAt m (by omega)]
          exact Ex.prow_get (by rw [List.getElem?_append_right (by rw [hP.out.2]; exact Nat.le_refl _), hP.out.2, Nat.sub_self]; rfl)
        have fz := hO.out.frozenAt m
        have hset : (D ++ [cc]).set m (cc ++ [s[k]]) = D ++ [cc ++ [s[k]]] := by
          rw [List.set_append_right _ _ (by rw [hP.out.2]; exact Nat.le_refl _), hP.out.2, Nat.sub_self]; rfl
        have HST := hO.out.stored m (.string (bs (cc ++ [s[k]])))
        rw [Ex.prow_set, hset] at HST
        have HS := Lib.hid HST
        have HG := Lib.hid ((hO.out.lt g rfl).1)
        have w1 : IntKind.i64.wrap (m : Int) = (m : Int) := by rw [IntKind.wrap_i64]; omega
        have w2 : IntKind.i64.wrap ((m : Int) + 1 - 1) = (m : Int) := by rw [IntKind.wrap_i64]; omega
        have w3 : IntKind.i64.wrap ((k : Int) + 1) = (k : Int) + 1 := by rw [IntKind.wrap_i64]; omega
        have k1 : ¬ 9223372036854775807 < (bs cc).size + (bs [s[k]]).size := by rw [bs_size [s[k]]]; simp only [List.length_cons, List.length_nil]; omega
        have q1 : (m : Int) < (m : Int) + 1 := by omega
        have hgb : g < wr.heap.size := by
          rcases hO.out.2 with ⟨h', _⟩ | ⟨g', cap', cur, h', hbb, hg, _⟩
          · simp at h'
          · simp only [Value.slice.injEq, Option.some.injEq, Addr.mk.injEq, and_true, true_and] at h'
            obtain ⟨rfl, rfl⟩ := h'
            rcases Nat.lt_or_ge g wr.heap.size with hh | hh
            · exact hh
            · rw [Array.getElem?_eq_none hh] at hg; cases hg
        clear hb htk hs47 hP hO hl hset HST hcl
        go_wp2
        go_region
        have HO : Hid ((wr.setCell ⟨g, m, none⟩ (.string (bs cc ++ bs [s[k]]))).drew.ownsRow w.heap.size 9 1 (.slice (some ⟨g, 0, none⟩) (m + 1) c) (m + 1) (Ex.prow (D ++ [cc ++ [s[k]]]))) := by
          show World.ownsRow (wr.setCell ⟨g, m, none⟩ (.string (bs cc ++ bs [s[k]]))) _ _ _ _ _ _
          rw [H2.out]; exact HS.out.1
        have W6 : Below w.heap.size w (wr.setCell ⟨g, m, none⟩ (.string (bs cc ++ bs [s[k]]))).drew := by
          have h1 := hW.grown HS.out.2 hW.size (fun j hj => by injection hj with hj; subst hj; exact HG.out)
          rw [← H2.out] at h1
          exact h1.trans ((below_gb (gb_drew _ none)).mono h1.size)
        clear HS H2
        go_wp2
        go_roundw
        case rel => exact ⟨g, c, m, k + 1, D, cc ++ [s[k]], by go_num, by omega, rfl, hP2, HO, W6⟩
        case measure => simp [intOf]; omega
    · have g9 : decide ((k : Int) < (s.size : Int)) = false := by rw [decide_eq_false_iff_not]; omega
      obtain rfl : k = s.size := by omega
      have hE : Ex.parts s.data.toList = D ++ [cc] := by
        have := hP.out.1
        rwa [← hl, List.take_length] at this
      have hlen : (D ++ [cc]).length = m + 1 := by rw [List.length_append, hP.out.2]; rfl
      have HE := Lib.hid (show _ ∧ _ from ⟨hE, hlen⟩)
      clear hP hl hE hlen
      go_wp2
      go_ret
      rw [HE.out.1]
      exact ⟨some ⟨g, 0, none⟩, c, by rw [HE.out.2]; rfl, by rw [HE.out.2]; exact hO.out, hW⟩
end Go.Proofs.YtcddbdefdenecaaGreatDoor
