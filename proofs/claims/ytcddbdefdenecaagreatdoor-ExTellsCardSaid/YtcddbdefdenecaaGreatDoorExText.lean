/-
  Package ex's Text: what might be a line's text is put together, and parsed again.
-/
import Derived.Test.YtcddbdefdenecaaGreatDoorExTell
namespace Go.Proofs.YtcddbdefdenecaaGreatDoor
open Go.RowKit Go.Shelf
open Ex (Ln)
/-- The text, put together step by step. -/
theorem Ex.told_steps (l : Ln) : ∃ A1 A2 : List UInt8,
    (l.arg = [] → A1 = Ex.spanP l.frm l.to ++ l.name) ∧ (l.arg ≠ [] → A1 = (Ex.spanP l.frm l.to ++ l.name) ++ ([32] ++ l.arg)) ∧
    (l.pat = [] → A2 = A1) ∧ (l.pat ≠ [] → A2 = A1 ++ (((([47] ++ l.pat) ++ [47]) ++ l.rep) ++ [47])) ∧
    (l.all = false → Ex.tellP l = A2) ∧ (l.all = true → Ex.tellP l = A2 ++ [103]) := by
  refine ⟨(Ex.spanP l.frm l.to ++ l.name) ++ (if l.arg ≠ [] then 32 :: l.arg else []), (Ex.spanP l.frm l.to ++ l.name) ++ (if l.arg ≠ [] then 32 :: l.arg else []) ++ (if l.pat ≠ [] then 47 :: l.pat ++ 47 :: l.rep ++ [47] else []), ?_, ?_, ?_, ?_, ?_, ?_⟩
  · intro h; rw [if_neg (fun e => e h), List.append_nil]
  · intro h; rw [if_pos h]; rfl
  · intro h; rw [if_neg (show ¬ (l.pat ≠ []) from fun e => e h), List.append_nil]
  · intro h; rw [if_pos h]; simp
  · intro h; unfold Ex.tellP; rw [h]; simp
  · intro h; unfold Ex.tellP; rw [h]; simp
theorem Ex.told_empty (l : List UInt8) : (bs l).toList.isEmpty = true ↔ l = [] := by rw [bs_tl]; exact List.isEmpty_iff
theorem Ex.told_full (l : List UInt8) : (bs l).toList.isEmpty = false ↔ l ≠ [] := by rw [bs_tl]; exact List.isEmpty_eq_false_iff
namespace Ex
end Ex
set_option maxHeartbeats 1000000 in
set_option maxRecDepth 100000 in
theorem ex_Text_fail (l : Ln) (hF : I64 l.frm) (hT : I64 l.to) (hz : (Ex.tellP l).length ≤ 1000000000) {m : Ln} {er : Int} (hpr : Ex.parse (Ex.tellP l) = (m, er)) (her : er ≠ 0) {B : Nat} {w : World} (hp : Pow B w) (hB : B ≤ w.heap.size) :
    Calls Tryz.prog 10 #[.agg #[.int .i64 l.frm, .int .i64 l.to, .string (bs l.name), .string (bs l.arg), .string (bs l.pat), .string (bs l.rep), .bool l.all]] w fun e w' => e = .returned (.tuple #[.string ⟨#[]⟩, .int .i64 3]) ∧ Below w.heap.size w w' := by
  have SP0 : Hid (∀ u : World, Below (w.alloc (.cells #[.int .i64 l.frm, .int .i64 l.to, .string (bs l.name), .string (bs l.arg), .string (bs l.pat), .string (bs l.rep), .bool l.all] 24)).heap.size (w.alloc (.cells #[.int .i64 l.frm, .int .i64 l.to, .string (bs l.name), .string (bs l.arg), .string (bs l.pat), .string (bs l.rep), .bool l.all] 24)) u → Calls Tryz.prog 29 #[.int .i64 l.frm, .int .i64 l.to] u fun e w' => e = .returned (.string (bs (Ex.spanP l.frm l.to))) ∧ Below u.heap.size u w') := Lib.hid (fun u h => by
    have h2 := ((Below.refl w.heap.size w).alloc (Nat.le_refl _) (.cells #[.int .i64 l.frm, .int .i64 l.to, .string (bs l.name), .string (bs l.arg), .string (bs l.pat), .string (bs l.rep), .bool l.all] 24)).trans (h.mono (by rw [World.size_alloc]; omega))
    exact ex_span l.frm l.to hF hT (hp.on (h2.mono hB)) (Nat.le_trans hB h2.size))
  have PP := Lib.hid (fun u => ex_Parse (bs (Ex.tellP l)) (by rw [bs_size]; exact hz) u)
  rw [bs_toList, hpr] at PP
  unfold Ex.ansV Ex.Ln.val at PP
  simp only at PP
  obtain ⟨A1, A2, a1, a2, a3, a4, a5, a6⟩ := Ex.told_steps l
  have B0 := Blk.new w 24 #[.int .i64 l.frm, .int .i64 l.to, .string (bs l.name), .string (bs l.arg), .string (bs l.pat), .string (bs l.rep), .bool l.all]
  have W0 := (Below.refl w.heap.size w).alloc (Nat.le_refl _) (.cells #[.int .i64 l.frm, .int .i64 l.to, .string (bs l.name), .string (bs l.arg), .string (bs l.pat), .string (bs l.rep), .bool l.all] 24)
  have CELL := Lib.hid (fun (u : World) (h : Below (w.alloc (.cells #[.int .i64 l.frm, .int .i64 l.to, .string (bs l.name), .string (bs l.arg), .string (bs l.pat), .string (bs l.rep), .bool l.all] 24)).heap.size (w.alloc (.cells #[.int .i64 l.frm, .int .i64 l.to, .string (bs l.name), .string (bs l.arg), .string (bs l.pat), .string (bs l.rep), .bool l.all] 24)) u) => Ex.cells7 (B0.below h B0.lt))
  obtain ⟨c0, c1, c2, c3, c4, c5, c6⟩ := Ex.cells7 B0
  have hX := Below.refl (w.alloc (.cells #[.int .i64 l.frm, .int .i64 l.to, .string (bs l.name), .string (bs l.arg), .string (bs l.pat), .string (bs l.rep), .bool l.all] 24)).heap.size (w.alloc (.cells #[.int .i64 l.frm, .int .i64 l.to, .string (bs l.name), .string (bs l.arg), .string (bs l.pat), .string (bs l.rep), .bool l.all] 24))
  have hsp := Ex.span_size hF hT
  have ge : (er != 0) = true := by rw [bne_iff_ne]; exact her
  clear her
  have Z : Hid ((bs (Ex.tellP l)).size ≤ 1000000000 ∧ (bs l.name).size ≤ (bs (Ex.tellP l)).size ∧ (bs l.arg).size ≤ (bs (Ex.tellP l)).size ∧ (bs A1).size ≤ (bs (Ex.tellP l)).size ∧ (bs A2).size ≤ (bs (Ex.tellP l)).size ∧ ((bs l.pat).toList.isEmpty = false → (bs l.pat).size + (bs l.rep).size ≤ (bs (Ex.tellP l)).size)) := Lib.hid (by
    simp only [bs_size]
    have e0 : A2.length ≤ (Ex.tellP l).length := by
      rcases Bool.eq_false_or_eq_true l.all with h | h
      · rw [a6 h, List.length_append]; omega
      · rw [a5 h]; exact Nat.le_refl _
    have e1 : A1.length ≤ A2.length ∧ ((bs l.pat).toList.isEmpty = false → l.pat.length + l.rep.length ≤ A2.length) := by
      by_cases h : l.pat = []
      · rw [a3 h]; exact ⟨Nat.le_refl _, fun e => absurd h ((Ex.told_full _).1 e)⟩
      · rw [a4 h]; simp only [List.length_append, List.length_cons, List.length_nil]; exact ⟨by omega, fun _ => by omega⟩
    have e2 : l.name.length ≤ A1.length ∧ l.arg.length ≤ A1.length := by
      by_cases h : l.arg = []
      · rw [a1 h, h]; simp only [List.length_append, List.length_nil]; exact ⟨by omega, by omega⟩
      · rw [a2 h]; simp only [List.length_append, List.length_cons, List.length_nil]; exact ⟨by omega, by omega⟩
    exact ⟨hz, by omega, by omega, by omega, by omega, fun h => by have := e1.2 h; omega⟩)
  have G1 : Hid (((bs l.arg).toList.isEmpty = true → bs (Ex.spanP l.frm l.to) ++ bs l.name = bs A1) ∧ ((bs l.arg).toList.isEmpty = false → (bs (Ex.spanP l.frm l.to) ++ bs l.name) ++ (⟨#[32]⟩ ++ bs l.arg) = bs A1)) := Lib.hid (by
    refine ⟨fun h => by rw [a1 ((Ex.told_empty _).1 h), bs_append], fun h => ?_⟩
    rw [a2 ((Ex.told_full _).1 h), show (⟨#[32]⟩ : ByteArray) = bs [32] from rfl]
    simp only [bs_append])
  have G2 : Hid (((bs l.pat).toList.isEmpty = true → bs A1 = bs A2) ∧ ((bs l.pat).toList.isEmpty = false → bs A1 ++ ((((⟨#[47]⟩ ++ bs l.pat) ++ ⟨#[47]⟩) ++ bs l.rep) ++ ⟨#[47]⟩) = bs A2)) := Lib.hid (by
    refine ⟨fun h => by rw [a3 ((Ex.told_empty _).1 h)], fun h => ?_⟩
    rw [a4 ((Ex.told_full _).1 h), show (⟨#[47]⟩ : ByteArray) = bs [47] from rfl]
    simp only [bs_append])
  have G3 : Hid ((l.all = false → bs A2 = bs (Ex.tellP l)) ∧ (l.all = true → bs A2 ++ ⟨#[103]⟩ = bs (Ex.tellP l))) := Lib.hid (by
    refine ⟨fun h => by rw [a5 h], fun h => ?_⟩
    rw [a6 h, show (⟨#[103]⟩ : ByteArray) = bs [103] from rfl, bs_append])
  clear a1 a2 a3 a4 a5 a6 hF hT hz hpr B0
  generalize bs (Ex.spanP l.frm l.to) = sp at *
  generalize bs (Ex.tellP l) = tt at *
  generalize bs A1 = A1 at *
  generalize bs A2 = A2 at *
  generalize hn1 : bs l.name = nm at *
  generalize hn2 : bs l.arg = ag at *
  generalize hn3 : bs l.pat = pt at *
  generalize hn4 : bs l.rep = rp at *
  generalize hn5 : l.all = al at *
  have HN := Lib.hid (show _ ∧ _ ∧ _ ∧ _ ∧ _ from ⟨hn1, hn2, hn3, hn4, hn5⟩)
  clear hn1 hn2 hn3 hn4 hn5
  obtain ⟨z0, z1, z2, z3, z4, z5⟩ := Z.out
  have k0 : ¬ 9223372036854775807 < sp.size + nm.size := by omega
  have k1 : ¬ 9223372036854775807 < 1 + ag.size := by omega
  have k2 : ¬ 9223372036854775807 < (sp ++ nm).size + (⟨#[32]⟩ ++ ag : ByteArray).size := by simp only [ByteArray.size_append]; show ¬ 9223372036854775807 < sp.size + nm.size + (1 + ag.size); omega
  have k3 : ¬ 9223372036854775807 < sp.size + nm.size + (1 + ag.size) := by omega
  clear Z
  go_enter Tryz.func10, Tryz.ntmps10
  go_wp2_with fail
  go_region_held3 (fun u => u.cell? ⟨w.heap.size, 0, none⟩ = some (.int .i64 l.frm) ∧ u.cell? ⟨w.heap.size, 1, none⟩ = some (.int .i64 l.to) ∧ u.cell? ⟨w.heap.size, 2, none⟩ = some (.string nm))
    (first | (with_reducible exact ⟨by assumption, by assumption, by assumption⟩) | go_keep)
    (first
      | (go_at_call 29; (with_reducible refine (SP0.out _ (by first | exact below_gb (gb_drew _ none) | exact Below.refl _ _)).mono ?_); rintro e u ⟨rfl, hb1⟩; (first | replace hX := Ex.below_on hX hb1 | replace hX := Ex.below_ond hX hb1); clear hb1; obtain ⟨d0, d1, d2, d3, d4, d5, d6⟩ := CELL.out _ hX))
  go_upto_if 17 with fail
  go_cut [4] from 15 (fun v wx => v = .string A1 ∧ wx = u)
  case first =>
    cases he : ag.toList.isEmpty
    · go_wp2
      go_meet
      exact ⟨by rw [← G1.out.2 he], rfl⟩
    · go_wp2
      go_meet
      exact ⟨by rw [← G1.out.1 he], rfl⟩
  case rest =>
  obtain ⟨rfl, hw⟩ := hcut
  have hw2 := hw.symm
  subst hw2
  clear hw
  clear G1 k0 k1 k2 k3
  go_upto_if 25 with fail
  go_cut [4] from 23 (fun v wx => v = .string A2 ∧ wx = u)
  case first =>
    cases he : pt.toList.isEmpty
    · have z6 := z5 he
      have k1 : ¬ 9223372036854775807 < 1 + pt.size := by omega
      have k2 : ¬ 9223372036854775807 < 1 + pt.size + 1 := by omega
      have k3 : ¬ 9223372036854775807 < 1 + pt.size + 1 + rp.size := by omega
      have k4 : ¬ 9223372036854775807 < 1 + pt.size + 1 + rp.size + 1 := by omega
      have k5 : ¬ 9223372036854775807 < A1.size + (1 + pt.size + 1 + rp.size + 1) := by omega
      go_wp2
      go_meet
      exact ⟨by rw [← G2.out.2 he], rfl⟩
    · go_wp2
      go_meet
      exact ⟨by rw [← G2.out.1 he], rfl⟩
  case rest =>
  obtain ⟨rfl, hw⟩ := hcut
  have hw2 := hw.symm
  subst hw2
  clear hw
  clear G2 z5
  go_upto_if 37 with fail
  go_cut [0, 4] from 36 (fun _ v wx => v = .string tt ∧ wx = u)
  case first =>
    have k1 : ¬ 9223372036854775807 < A2.size + 1 := by omega
    cases he : al
    · go_wp2
      go_meet
      exact ⟨by rw [← G3.out.1 he], rfl⟩
    · go_wp2
      go_meet
      exact ⟨by rw [← G3.out.2 he], rfl⟩
  case rest =>
  obtain ⟨rfl, hw⟩ := hcut
  have hw2 := hw.symm
  subst hw2
  clear hw
  clear G3
  go_wp2_with (first
    | (go_at_call 6; refine (PP.out _).mono ?_; rintro e w1 ⟨rfl, hb2⟩; replace hX := Ex.below_on hX hb2; clear hb2 d0 d1 d2 d3 d4 d5 d6; obtain ⟨d0, d1, d2, d3, d4, d5, d6⟩ := CELL.out _ (Ex.al hX (.cells #[.int .i64 m.frm, .int .i64 m.to, .string (bs m.name), .string (bs m.arg), .string (bs m.pat), .string (bs m.rep), .bool m.all] 24))))
  go_ret2
  exact ⟨rfl, W0.trans ((Ex.al hX _).mono W0.size)⟩
set_option maxHeartbeats 1000000 in
set_option maxRecDepth 100000 in
theorem ex_Text_other (l : Ln) (hF : I64 l.frm) (hT : I64 l.to) (hz : (Ex.tellP l).length ≤ 1000000000) {m : Ln} (hpr : Ex.parse (Ex.tellP l) = (m, 0)) (hml : m ≠ l) {B : Nat} {w : World} (hp : Pow B w) (hB : B ≤ w.heap.size) :
    Calls Tryz.prog 10 #[.agg #[.int .i64 l.frm, .int .i64 l.to, .string (bs l.name), .string (bs l.arg), .string (bs l.pat), .string (bs l.rep), .bool l.all]] w fun e w' => e = .returned (.tuple #[.string ⟨#[]⟩, .int .i64 3]) ∧ Below w.heap.size w w' := by
  have SP0 : Hid (∀ u : World, Below (w.alloc (.cells #[.int .i64 l.frm, .int .i64 l.to, .string (bs l.name), .string (bs l.arg), .string (bs l.pat), .string (bs l.rep), .bool l.all] 24)).heap.size (w.alloc (.cells #[.int .i64 l.frm, .int .i64 l.to, .string (bs l.name), .string (bs l.arg), .string (bs l.pat), .string (bs l.rep), .bool l.all] 24)) u → Calls Tryz.prog 29 #[.int .i64 l.frm, .int .i64 l.to] u fun e w' => e = .returned (.string (bs (Ex.spanP l.frm l.to))) ∧ Below u.heap.size u w') := Lib.hid (fun u h => by
    have h2 := ((Below.refl w.heap.size w).alloc (Nat.le_refl _) (.cells #[.int .i64 l.frm, .int .i64 l.to, .string (bs l.name), .string (bs l.arg), .string (bs l.pat), .string (bs l.rep), .bool l.all] 24)).trans (h.mono (by rw [World.size_alloc]; omega))
    exact ex_span l.frm l.to hF hT (hp.on (h2.mono hB)) (Nat.le_trans hB h2.size))
  have PP := Lib.hid (fun u => ex_Parse (bs (Ex.tellP l)) (by rw [bs_size]; exact hz) u)
  rw [bs_toList, hpr] at PP
  unfold Ex.ansV Ex.Ln.val at PP
  simp only at PP
  obtain ⟨A1, A2, a1, a2, a3, a4, a5, a6⟩ := Ex.told_steps l
  have B0 := Blk.new w 24 #[.int .i64 l.frm, .int .i64 l.to, .string (bs l.name), .string (bs l.arg), .string (bs l.pat), .string (bs l.rep), .bool l.all]
  have W0 := (Below.refl w.heap.size w).alloc (Nat.le_refl _) (.cells #[.int .i64 l.frm, .int .i64 l.to, .string (bs l.name), .string (bs l.arg), .string (bs l.pat), .string (bs l.rep), .bool l.all] 24)
  have CELL := Lib.hid (fun (u : World) (h : Below (w.alloc (.cells #[.int .i64 l.frm, .int .i64 l.to, .string (bs l.name), .string (bs l.arg), .string (bs l.pat), .string (bs l.rep), .bool l.all] 24)).heap.size (w.alloc (.cells #[.int .i64 l.frm, .int .i64 l.to, .string (bs l.name), .string (bs l.arg), .string (bs l.pat), .string (bs l.rep), .bool l.all] 24)) u) => Ex.cells7 (B0.below h B0.lt))
  obtain ⟨c0, c1, c2, c3, c4, c5, c6⟩ := Ex.cells7 B0
  have hX := Below.refl (w.alloc (.cells #[.int .i64 l.frm, .int .i64 l.to, .string (bs l.name), .string (bs l.arg), .string (bs l.pat), .string (bs l.rep), .bool l.all] 24)).heap.size (w.alloc (.cells #[.int .i64 l.frm, .int .i64 l.to, .string (bs l.name), .string (bs l.arg), .string (bs l.pat), .string (bs l.rep), .bool l.all] 24))
  have hsp := Ex.span_size hF hT
  have EN : ∀ w, (binOp .neq 24 (.agg #[.int .i64 m.frm, .int .i64 m.to, .string (bs m.name), .string (bs m.arg), .string (bs m.pat), .string (bs m.rep), .bool m.all]) (.agg #[.int .i64 l.frm, .int .i64 l.to, .string (bs l.name), .string (bs l.arg), .string (bs l.pat), .string (bs l.rep), .bool l.all])).run Tryz.prog w = .ok (.bool true) w := fun w => by rw [neq_ln]; simp [hml]
  clear hml
  have Z : Hid ((bs (Ex.tellP l)).size ≤ 1000000000 ∧ (bs l.name).size ≤ (bs (Ex.tellP l)).size ∧ (bs l.arg).size ≤ (bs (Ex.tellP l)).size ∧ (bs A1).size ≤ (bs (Ex.tellP l)).size ∧ (bs A2).size ≤ (bs (Ex.tellP l)).size ∧ ((bs l.pat).toList.isEmpty = false → (bs l.pat).size + (bs l.rep).size ≤ (bs (Ex.tellP l)).size)) := Lib.hid (by
    simp only [bs_size]
    have e0 : A2.length ≤ (Ex.tellP l).length := by
      rcases Bool.eq_false_or_eq_true l.all with h | h
      · rw [a6 h, List.length_append]; omega
      · rw [a5 h]; exact Nat.le_refl _
    have e1 : A1.length ≤ A2.length ∧ ((bs l.pat).toList.isEmpty = false → l.pat.length + l.rep.length ≤ A2.length) := by
      by_cases h : l.pat = []
      · rw [a3 h]; exact ⟨Nat.le_refl _, fun e => absurd h ((Ex.told_full _).1 e)⟩
      · rw [a4 h]; simp only [List.length_append, List.length_cons, List.length_nil]; exact ⟨by omega, fun _ => by omega⟩
    have e2 : l.name.length ≤ A1.length ∧ l.arg.length ≤ A1.length := by
      by_cases h : l.arg = []
      · rw [a1 h, h]; simp only [List.length_append, List.length_nil]; exact ⟨by omega, by omega⟩
      · rw [a2 h]; simp only [List.length_append, List.length_cons, List.length_nil]; exact ⟨by omega, by omega⟩
    exact ⟨hz, by omega, by omega, by omega, by omega, fun h => by have := e1.2 h; omega⟩)
  have G1 : Hid (((bs l.arg).toList.isEmpty = true → bs (Ex.spanP l.frm l.to) ++ bs l.name = bs A1) ∧ ((bs l.arg).toList.isEmpty = false → (bs (Ex.spanP l.frm l.to) ++ bs l.name) ++ (⟨#[32]⟩ ++ bs l.arg) = bs A1)) := Lib.hid (by
    refine ⟨fun h => by rw [a1 ((Ex.told_empty _).1 h), bs_append], fun h => ?_⟩
    rw [a2 ((Ex.told_full _).1 h), show (⟨#[32]⟩ : ByteArray) = bs [32] from rfl]
    simp only [bs_append])
  have G2 : Hid (((bs l.pat).toList.isEmpty = true → bs A1 = bs A2) ∧ ((bs l.pat).toList.isEmpty = false → bs A1 ++ ((((⟨#[47]⟩ ++ bs l.pat) ++ ⟨#[47]⟩) ++ bs l.rep) ++ ⟨#[47]⟩) = bs A2)) := Lib.hid (by
    refine ⟨fun h => by rw [a3 ((Ex.told_empty _).1 h)], fun h => ?_⟩
    rw [a4 ((Ex.told_full _).1 h), show (⟨#[47]⟩ : ByteArray) = bs [47] from rfl]
    simp only [bs_append])
  have G3 : Hid ((l.all = false → bs A2 = bs (Ex.tellP l)) ∧ (l.all = true → bs A2 ++ ⟨#[103]⟩ = bs (Ex.tellP l))) := Lib.hid (by
    refine ⟨fun h => by rw [a5 h], fun h => ?_⟩
    rw [a6 h, show (⟨#[103]⟩ : ByteArray) = bs [103] from rfl, bs_append])
  clear a1 a2 a3 a4 a5 a6 hF hT hz hpr B0
  generalize bs (Ex.spanP l.frm l.to) = sp at *
  generalize bs (Ex.tellP l) = tt at *
  generalize bs A1 = A1 at *
  generalize bs A2 = A2 at *
  generalize hn1 : bs l.name = nm at *
  generalize hn2 : bs l.arg = ag at *
  generalize hn3 : bs l.pat = pt at *
  generalize hn4 : bs l.rep = rp at *
  generalize hn5 : l.all = al at *
  have HN := Lib.hid (show _ ∧ _ ∧ _ ∧ _ ∧ _ from ⟨hn1, hn2, hn3, hn4, hn5⟩)
  clear hn1 hn2 hn3 hn4 hn5
  obtain ⟨z0, z1, z2, z3, z4, z5⟩ := Z.out
  have k0 : ¬ 9223372036854775807 < sp.size + nm.size := by omega
  have k1 : ¬ 9223372036854775807 < 1 + ag.size := by omega
  have k2 : ¬ 9223372036854775807 < (sp ++ nm).size + (⟨#[32]⟩ ++ ag : ByteArray).size := by simp only [ByteArray.size_append]; show ¬ 9223372036854775807 < sp.size + nm.size + (1 + ag.size); omega
  have k3 : ¬ 9223372036854775807 < sp.size + nm.size + (1 + ag.size) := by omega
  clear Z
  go_enter Tryz.func10, Tryz.ntmps10
  go_wp2_with fail
  go_region_held3 (fun u => u.cell? ⟨w.heap.size, 0, none⟩ = some (.int .i64 l.frm) ∧ u.cell? ⟨w.heap.size, 1, none⟩ = some (.int .i64 l.to) ∧ u.cell? ⟨w.heap.size, 2, none⟩ = some (.string nm))
    (first | (with_reducible exact ⟨by assumption, by assumption, by assumption⟩) | go_keep)
    (first
      | (go_at_call 29; (with_reducible refine (SP0.out _ (by first | exact below_gb (gb_drew _ none) | exact Below.refl _ _)).mono ?_); rintro e u ⟨rfl, hb1⟩; (first | replace hX := Ex.below_on hX hb1 | replace hX := Ex.below_ond hX hb1); clear hb1; obtain ⟨d0, d1, d2, d3, d4, d5, d6⟩ := CELL.out _ hX))
  go_upto_if 17 with fail
  go_cut [4] from 15 (fun v wx => v = .string A1 ∧ wx = u)
  case first =>
    cases he : ag.toList.isEmpty
    · go_wp2
      go_meet
      exact ⟨by rw [← G1.out.2 he], rfl⟩
    · go_wp2
      go_meet
      exact ⟨by rw [← G1.out.1 he], rfl⟩
  case rest =>
  obtain ⟨rfl, hw⟩ := hcut
  have hw2 := hw.symm
  subst hw2
  clear hw
  clear G1 k0 k1 k2 k3
  go_upto_if 25 with fail
  go_cut [4] from 23 (fun v wx => v = .string A2 ∧ wx = u)
  case first =>
    cases he : pt.toList.isEmpty
    · have z6 := z5 he
      have k1 : ¬ 9223372036854775807 < 1 + pt.size := by omega
      have k2 : ¬ 9223372036854775807 < 1 + pt.size + 1 := by omega
      have k3 : ¬ 9223372036854775807 < 1 + pt.size + 1 + rp.size := by omega
      have k4 : ¬ 9223372036854775807 < 1 + pt.size + 1 + rp.size + 1 := by omega
      have k5 : ¬ 9223372036854775807 < A1.size + (1 + pt.size + 1 + rp.size + 1) := by omega
      go_wp2
      go_meet
      exact ⟨by rw [← G2.out.2 he], rfl⟩
    · go_wp2
      go_meet
      exact ⟨by rw [← G2.out.1 he], rfl⟩
  case rest =>
  obtain ⟨rfl, hw⟩ := hcut
  have hw2 := hw.symm
  subst hw2
  clear hw
  clear G2 z5
  go_upto_if 37 with fail
  go_cut [0, 4] from 36 (fun _ v wx => v = .string tt ∧ wx = u)
  case first =>
    have k1 : ¬ 9223372036854775807 < A2.size + 1 := by omega
    cases he : al
    · go_wp2
      go_meet
      exact ⟨by rw [← G3.out.1 he], rfl⟩
    · go_wp2
      go_meet
      exact ⟨by rw [← G3.out.2 he], rfl⟩
  case rest =>
  obtain ⟨rfl, hw⟩ := hcut
  have hw2 := hw.symm
  subst hw2
  clear hw
  clear G3
  go_wp2_with (first
    | (go_at_call 6; refine (PP.out _).mono ?_; rintro e w1 ⟨rfl, hb2⟩; replace hX := Ex.below_on hX hb2; clear hb2 d0 d1 d2 d3 d4 d5 d6; obtain ⟨d0, d1, d2, d3, d4, d5, d6⟩ := CELL.out _ (Ex.al hX (.cells #[.int .i64 m.frm, .int .i64 m.to, .string (bs m.name), .string (bs m.arg), .string (bs m.pat), .string (bs m.rep), .bool m.all] 24))))
  go_ret2
  exact ⟨rfl, W0.trans ((Ex.al hX _).mono W0.size)⟩
set_option maxHeartbeats 1000000 in
set_option maxRecDepth 100000 in
theorem ex_Text_same (l : Ln) (hF : I64 l.frm) (hT : I64 l.to) (hz : (Ex.tellP l).length ≤ 1000000000) (hpr : Ex.parse (Ex.tellP l) = (l, 0)) {B : Nat} {w : World} (hp : Pow B w) (hB : B ≤ w.heap.size) :
    Calls Tryz.prog 10 #[.agg #[.int .i64 l.frm, .int .i64 l.to, .string (bs l.name), .string (bs l.arg), .string (bs l.pat), .string (bs l.rep), .bool l.all]] w fun e w' => e = .returned (.tuple #[.string (bs (Ex.tellP l)), .int .i64 0]) ∧ Below w.heap.size w w' := by
  have SP0 : Hid (∀ u : World, Below (w.alloc (.cells #[.int .i64 l.frm, .int .i64 l.to, .string (bs l.name), .string (bs l.arg), .string (bs l.pat), .string (bs l.rep), .bool l.all] 24)).heap.size (w.alloc (.cells #[.int .i64 l.frm, .int .i64 l.to, .string (bs l.name), .string (bs l.arg), .string (bs l.pat), .string (bs l.rep), .bool l.all] 24)) u → Calls Tryz.prog 29 #[.int .i64 l.frm, .int .i64 l.to] u fun e w' => e = .returned (.string (bs (Ex.spanP l.frm l.to))) ∧ Below u.heap.size u w') := Lib.hid (fun u h => by
    have h2 := ((Below.refl w.heap.size w).alloc (Nat.le_refl _) (.cells #[.int .i64 l.frm, .int .i64 l.to, .string (bs l.name), .string (bs l.arg), .string (bs l.pat), .string (bs l.rep), .bool l.all] 24)).trans (h.mono (by rw [World.size_alloc]; omega))
    exact ex_span l.frm l.to hF hT (hp.on (h2.mono hB)) (Nat.le_trans hB h2.size))
  have PP := Lib.hid (fun u => ex_Parse (bs (Ex.tellP l)) (by rw [bs_size]; exact hz) u)
  rw [bs_toList, hpr] at PP
  unfold Ex.ansV Ex.Ln.val at PP
  simp only at PP
  obtain ⟨A1, A2, a1, a2, a3, a4, a5, a6⟩ := Ex.told_steps l
  have B0 := Blk.new w 24 #[.int .i64 l.frm, .int .i64 l.to, .string (bs l.name), .string (bs l.arg), .string (bs l.pat), .string (bs l.rep), .bool l.all]
  have W0 := (Below.refl w.heap.size w).alloc (Nat.le_refl _) (.cells #[.int .i64 l.frm, .int .i64 l.to, .string (bs l.name), .string (bs l.arg), .string (bs l.pat), .string (bs l.rep), .bool l.all] 24)
  have CELL := Lib.hid (fun (u : World) (h : Below (w.alloc (.cells #[.int .i64 l.frm, .int .i64 l.to, .string (bs l.name), .string (bs l.arg), .string (bs l.pat), .string (bs l.rep), .bool l.all] 24)).heap.size (w.alloc (.cells #[.int .i64 l.frm, .int .i64 l.to, .string (bs l.name), .string (bs l.arg), .string (bs l.pat), .string (bs l.rep), .bool l.all] 24)) u) => Ex.cells7 (B0.below h B0.lt))
  obtain ⟨c0, c1, c2, c3, c4, c5, c6⟩ := Ex.cells7 B0
  have hX := Below.refl (w.alloc (.cells #[.int .i64 l.frm, .int .i64 l.to, .string (bs l.name), .string (bs l.arg), .string (bs l.pat), .string (bs l.rep), .bool l.all] 24)).heap.size (w.alloc (.cells #[.int .i64 l.frm, .int .i64 l.to, .string (bs l.name), .string (bs l.arg), .string (bs l.pat), .string (bs l.rep), .bool l.all] 24))
  have hsp := Ex.span_size hF hT
  have EN : ∀ w, (binOp .neq 24 (.agg #[.int .i64 l.frm, .int .i64 l.to, .string (bs l.name), .string (bs l.arg), .string (bs l.pat), .string (bs l.rep), .bool l.all]) (.agg #[.int .i64 l.frm, .int .i64 l.to, .string (bs l.name), .string (bs l.arg), .string (bs l.pat), .string (bs l.rep), .bool l.all])).run Tryz.prog w = .ok (.bool false) w := fun w => by rw [neq_ln]; simp
  have CL := Lib.hid (fun w => str_clone (bs (Ex.tellP l)) w (by rw [bs_size]; omega))
  have Z : Hid ((bs (Ex.tellP l)).size ≤ 1000000000 ∧ (bs l.name).size ≤ (bs (Ex.tellP l)).size ∧ (bs l.arg).size ≤ (bs (Ex.tellP l)).size ∧ (bs A1).size ≤ (bs (Ex.tellP l)).size ∧ (bs A2).size ≤ (bs (Ex.tellP l)).size ∧ ((bs l.pat).toList.isEmpty = false → (bs l.pat).size + (bs l.rep).size ≤ (bs (Ex.tellP l)).size)) := Lib.hid (by
    simp only [bs_size]
    have e0 : A2.length ≤ (Ex.tellP l).length := by
      rcases Bool.eq_false_or_eq_true l.all with h | h
      · rw [a6 h, List.length_append]; omega
      · rw [a5 h]; exact Nat.le_refl _
    have e1 : A1.length ≤ A2.length ∧ ((bs l.pat).toList.isEmpty = false → l.pat.length + l.rep.length ≤ A2.length) := by
      by_cases h : l.pat = []
      · rw [a3 h]; exact ⟨Nat.le_refl _, fun e => absurd h ((Ex.told_full _).1 e)⟩
      · rw [a4 h]; simp only [List.length_append, List.length_cons, List.length_nil]; exact ⟨by omega, fun _ => by omega⟩
    have e2 : l.name.length ≤ A1.length ∧ l.arg.length ≤ A1.length := by
      by_cases h : l.arg = []
      · rw [a1 h, h]; simp only [List.length_append, List.length_nil]; exact ⟨by omega, by omega⟩
      · rw [a2 h]; simp only [List.length_append, List.length_cons, List.length_nil]; exact ⟨by omega, by omega⟩
    exact ⟨hz, by omega, by omega, by omega, by omega, fun h => by have := e1.2 h; omega⟩)
  have G1 : Hid (((bs l.arg).toList.isEmpty = true → bs (Ex.spanP l.frm l.to) ++ bs l.name = bs A1) ∧ ((bs l.arg).toList.isEmpty = false → (bs (Ex.spanP l.frm l.to) ++ bs l.name) ++ (⟨#[32]⟩ ++ bs l.arg) = bs A1)) := Lib.hid (by
    refine ⟨fun h => by rw [a1 ((Ex.told_empty _).1 h), bs_append], fun h => ?_⟩
    rw [a2 ((Ex.told_full _).1 h), show (⟨#[32]⟩ : ByteArray) = bs [32] from rfl]
    simp only [bs_append])
  have G2 : Hid (((bs l.pat).toList.isEmpty = true → bs A1 = bs A2) ∧ ((bs l.pat).toList.isEmpty = false → bs A1 ++ ((((⟨#[47]⟩ ++ bs l.pat) ++ ⟨#[47]⟩) ++ bs l.rep) ++ ⟨#[47]⟩) = bs A2)) := Lib.hid (by
    refine ⟨fun h => by rw [a3 ((Ex.told_empty _).1 h)], fun h => ?_⟩
    rw [a4 ((Ex.told_full _).1 h), show (⟨#[47]⟩ : ByteArray) = bs [47] from rfl]
    simp only [bs_append])
  have G3 : Hid ((l.all = false → bs A2 = bs (Ex.tellP l)) ∧ (l.all = true → bs A2 ++ ⟨#[103]⟩ = bs (Ex.tellP l))) := Lib.hid (by
    refine ⟨fun h => by rw [a5 h], fun h => ?_⟩
    rw [a6 h, show (⟨#[103]⟩ : ByteArray) = bs [103] from rfl, bs_append])
  clear a1 a2 a3 a4 a5 a6 hF hT hz hpr B0
  generalize bs (Ex.spanP l.frm l.to) = sp at *
  generalize bs (Ex.tellP l) = tt at *
  generalize bs A1 = A1 at *
  generalize bs A2 = A2 at *
  generalize hn1 : bs l.name = nm at *
  generalize hn2 : bs l.arg = ag at *
  generalize hn3 : bs l.pat = pt at *
  generalize hn4 : bs l.rep = rp at *
  generalize hn5 : l.all = al at *
  have HN := Lib.hid (show _ ∧ _ ∧ _ ∧ _ ∧ _ from ⟨hn1, hn2, hn3, hn4, hn5⟩)
  clear hn1 hn2 hn3 hn4 hn5
  obtain ⟨z0, z1, z2, z3, z4, z5⟩ := Z.out
  have k0 : ¬ 9223372036854775807 < sp.size + nm.size := by omega
  have k1 : ¬ 9223372036854775807 < 1 + ag.size := by omega
  have k2 : ¬ 9223372036854775807 < (sp ++ nm).size + (⟨#[32]⟩ ++ ag : ByteArray).size := by simp only [ByteArray.size_append]; show ¬ 9223372036854775807 < sp.size + nm.size + (1 + ag.size); omega
  have k3 : ¬ 9223372036854775807 < sp.size + nm.size + (1 + ag.size) := by omega
  clear Z
  go_enter Tryz.func10, Tryz.ntmps10
  go_wp2_with fail
  go_region_held3 (fun u => u.cell? ⟨w.heap.size, 0, none⟩ = some (.int .i64 l.frm) ∧ u.cell? ⟨w.heap.size, 1, none⟩ = some (.int .i64 l.to) ∧ u.cell? ⟨w.heap.size, 2, none⟩ = some (.string nm))
    (first | (with_reducible exact ⟨by assumption, by assumption, by assumption⟩) | go_keep)
    (first
      | (go_at_call 29; (with_reducible refine (SP0.out _ (by first | exact below_gb (gb_drew _ none) | exact Below.refl _ _)).mono ?_); rintro e u ⟨rfl, hb1⟩; (first | replace hX := Ex.below_on hX hb1 | replace hX := Ex.below_ond hX hb1); clear hb1; obtain ⟨d0, d1, d2, d3, d4, d5, d6⟩ := CELL.out _ hX))
  go_upto_if 17 with fail
  go_cut [4] from 15 (fun v wx => v = .string A1 ∧ wx = u)
  case first =>
    cases he : ag.toList.isEmpty
    · go_wp2
      go_meet
      exact ⟨by rw [← G1.out.2 he], rfl⟩
    · go_wp2
      go_meet
      exact ⟨by rw [← G1.out.1 he], rfl⟩
  case rest =>
  obtain ⟨rfl, hw⟩ := hcut
  have hw2 := hw.symm
  subst hw2
  clear hw
  clear G1 k0 k1 k2 k3
  go_upto_if 25 with fail
  go_cut [4] from 23 (fun v wx => v = .string A2 ∧ wx = u)
  case first =>
    cases he : pt.toList.isEmpty
    · have z6 := z5 he
      have k1 : ¬ 9223372036854775807 < 1 + pt.size := by omega
      have k2 : ¬ 9223372036854775807 < 1 + pt.size + 1 := by omega
      have k3 : ¬ 9223372036854775807 < 1 + pt.size + 1 + rp.size := by omega
      have k4 : ¬ 9223372036854775807 < 1 + pt.size + 1 + rp.size + 1 := by omega
      have k5 : ¬ 9223372036854775807 < A1.size + (1 + pt.size + 1 + rp.size + 1) := by omega
      go_wp2
      go_meet
      exact ⟨by rw [← G2.out.2 he], rfl⟩
    · go_wp2
      go_meet
      exact ⟨by rw [← G2.out.1 he], rfl⟩
  case rest =>
  obtain ⟨rfl, hw⟩ := hcut
  have hw2 := hw.symm
  subst hw2
  clear hw
  clear G2 z5
  go_upto_if 37 with fail
  go_cut [0, 4] from 36 (fun _ v wx => v = .string tt ∧ wx = u)
  case first =>
    have k1 : ¬ 9223372036854775807 < A2.size + 1 := by omega
    cases he : al
    · go_wp2
      go_meet
      exact ⟨by rw [← G3.out.1 he], rfl⟩
    · go_wp2
      go_meet
      exact ⟨by rw [← G3.out.2 he], rfl⟩
  case rest =>
  obtain ⟨rfl, hw⟩ := hcut
  have hw2 := hw.symm
  subst hw2
  clear hw
  clear G3
  go_wp2_with (first
    | (go_at_call 6; refine (PP.out _).mono ?_; rintro e w1 ⟨rfl, hb2⟩; replace hX := Ex.below_on hX hb2; clear hb2 d0 d1 d2 d3 d4 d5 d6; obtain ⟨d0, d1, d2, d3, d4, d5, d6⟩ := CELL.out _ (Ex.al hX (.cells #[.int .i64 l.frm, .int .i64 l.to, .string nm, .string ag, .string pt, .string rp, .bool al] 24)))
    | (go_at_call 30; refine (CL.out _).mono ?_; rintro e w2 ⟨rfl, hb3⟩))
  go_ret2
  exact ⟨rfl, W0.trans ((Ex.below_on (Ex.al hX _) hb3).mono W0.size)⟩
/-- The text of a line. -/
theorem ex_Text (l : Ln) (hF : I64 l.frm) (hT : I64 l.to) (hz : (Ex.tellP l).length ≤ 1000000000) {B : Nat} {w : World} (hp : Pow B w) (hB : B ≤ w.heap.size) :
    Calls Tryz.prog 10 #[.agg #[.int .i64 l.frm, .int .i64 l.to, .string (bs l.name), .string (bs l.arg), .string (bs l.pat), .string (bs l.rep), .bool l.all]] w fun e w' => e = .returned (.tuple #[.string (bs (Ex.textP l).1), .int .i64 (Ex.textP l).2]) ∧ Below w.heap.size w w' := by
  unfold Ex.textP
  obtain ⟨m, er, hpr⟩ : ∃ m er, Ex.parse (Ex.tellP l) = (m, er) := ⟨_, _, rfl⟩
  rw [hpr]
  by_cases her : er = 0
  · subst her
    by_cases hml : m = l
    · subst hml
      rw [if_pos rfl]
      exact ex_Text_same m hF hT hz hpr hp hB
    · rw [if_neg (fun e => hml (by injection e))]
      exact ex_Text_other l hF hT hz hpr hml hp hB
  · rw [if_neg (fun e => her (by injection e))]
    exact ex_Text_fail l hF hT hz hpr her hp hB
end Go.Proofs.YtcddbdefdenecaaGreatDoor
