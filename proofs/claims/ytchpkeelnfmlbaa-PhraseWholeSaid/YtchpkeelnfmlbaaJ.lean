/-
  The reader of keys: what an operator works on, a command; package phrase's Parse.
-/
import Derived.Test.YtchpkeelnfmlbaaPhraseDo
import Derived.Test.YtchpkeelnfmlbaaRet3
import Derived.Laws.StructEq
namespace Go.Proofs.Ytchpkeelnfmlbaa
open Go.RowKit
open Phr (Cmd Ans Rdr EndsAs wet RegAs)
theorem phr_word_some {g : Nat} {c : Cmd} {dry : Bool} {ks t : List (List UInt8)} {x : List UInt8} (hx : Phr.word ks = some (x, t)) {w : World} (h : Rdr g w c ks dry) :
    Calls Try.prog 14 #[.pointer (some ⟨g, 0, none⟩)] w fun e w' => e = .returned (.string (bs x)) ∧ Rdr g w' c t dry ∧ w.grownBy w' (some g) := by
  refine (phr_word h).mono ?_
  rintro e w' ⟨g1, ⟨x', t', h1, rfl, h2⟩ | ⟨h1, _⟩⟩
  · rw [hx] at h1; injection h1 with h1; injection h1 with e1 e2; subst e1 e2; exact ⟨rfl, h2, g1⟩
  · rw [hx] at h1; cases h1
theorem phr_word_dry {ks : List (List UInt8)} (hx : Phr.word ks = none) : ∃ x : List UInt8, (x = [] ∨ x = [103]) ∧ ∀ (g : Nat) (c : Cmd) (dry : Bool) (w : World), Rdr g w c ks dry →
    Calls Try.prog 14 #[.pointer (some ⟨g, 0, none⟩)] w fun e w' => e = .returned (.string (bs x)) ∧ Rdr g w' c [] true ∧ w.grownBy w' (some g) := by
  match ks, hx with
  | [], _ => exact ⟨[], .inl rfl, fun g c dry w h => phr_word_nil h⟩
  | k :: t, hx =>
    simp only [Phr.word] at hx
    by_cases hk : k = [103]
    · subst hk
      rw [if_pos rfl] at hx
      cases t with
      | nil => exact ⟨[103], .inr rfl, fun g c dry w h => phr_word_g h⟩
      | cons a u => cases hx
    · rw [if_neg hk] at hx; cases hx
namespace Phr
theorem EndsAs.after {g : Nat} {w u w' : World} {F : Ans} {e : Ending} (g0 : w.grownBy u (some g)) (h : EndsAs g u F e w') : EndsAs g w F e w' := by
  obtain ⟨g1, rest⟩ := h
  exact ⟨gb_trans g0 g1, rest⟩
theorem tail_bs (op : List UInt8) : (bs op).extract (op.length - 1) op.length = bs (tail op) := by
  rw [Lib.extract_eq]
  show bs _ = _
  rw [bs_toList, tail, List.take_of_length_le]
  rw [List.length_drop]; omega
end Phr
set_option maxHeartbeats 1000000 in
set_option maxRecDepth 100000 in
theorem phr_operated_not {g : Nat} {w : World} {r n : Int} {ks : List (List UInt8)} {dry : Bool} {op : List UInt8} (h : Rdr g w ⟨r, n, [], [], []⟩ ks dry) (hop : op ∈ Phr.opers) (h0 : 0 ≤ n) (h1 : n ≤ 99) {x : List UInt8} {t : List (List UInt8)} (hw : Phr.word (Phr.number ks).2 = some (x, t)) (hm : Phr.mot x = none) (q0 : ((bs x).toList == [105]) = false) (q1 : ((bs x).toList == [97]) = false) (q2 : ((bs x).toList == (bs (Phr.tail op)).toList) = false) :
    Calls Try.prog 19 #[.pointer (some ⟨g, 0, none⟩), .string (bs op)] w (EndsAs g w (wet dry (Phr.work ⟨r, n, [], [], []⟩ op ks))) := by
  have tn : (x = Phr.tail op) = False := by rw [bs_tl, bs_tl] at q2; simpa using q2
  have c2 := h.cell2
  have f2 := h.frozen 2
  have S1 : Hid (Rdr g (w.setCell ⟨g, 2, none⟩ (.string (bs op))) ⟨r, n, op, [], []⟩ ks dry) := Lib.hid (h.set_ (fun v => rfl))
  have C := Lib.hid (phr_count S1.out h0 h1)
  have M := Lib.hid (fun u => phr_Motion x u)
  rw [show (Phr.mot x).isSome = false by rw [hm]; rfl] at M
  have WD := Lib.hid (fun u (hu : Rdr g u ⟨r, Phr.count n (Phr.number ks).1, op, [], []⟩ (Phr.number ks).2 dry) => phr_word_some hw hu)
  have HF : Hid (wet dry Phr.bad = wet dry (Phr.work ⟨r, n, [], [], []⟩ op ks)) := Lib.hid (by rw [Phr.work, hw]; simp only [Phr.on, hm, Phr.no q0, Phr.no q1, tn, or_self, if_false, Phr.does]; try rfl)
  have hsz : (bs op).size = op.length := bs_size op
  have hT := Phr.tail_bs op
  have hlen : 1 ≤ op.length := List.length_pos_iff.2 (Phr.opers_ne hop)
  have z : wrap64 ((op.length : Int) - 1) = (op.length : Int) - 1 := by
    have : op.length ≤ 2 := by
      simp only [Phr.opers, List.mem_cons, List.not_mem_nil, or_false] at hop
      rcases hop with rfl | rfl | rfl | rfl | rfl | rfl | rfl | rfl <;> decide
    unfold wrap64; omega
  have G1 := gb_set w g 2 (.string (bs op))
  clear h
  go_enter Try.func19, Try.ntmps19
  go_wp2_with (first
    | (go_at_call 12; refine C.out.mono ?_; rintro e w1 ⟨rfl, k1, g1⟩; have WD2 := Lib.hid (WD.out _ k1); clear k1)
    | (go_at_call 14; refine WD2.out.mono ?_; rintro e w2 ⟨rfl, k2, g2⟩)
    | (go_at_call 15; refine (M.out _).mono ?_; rintro e w3 ⟨rfl, rfl⟩))
  go_ret
  exact ⟨gb_trans (gb_trans G1 g1) g2, _, _, _, _, rfl, k2, (Phr.out_bad _ _ _).trans HF.out⟩
set_option maxHeartbeats 1000000 in
set_option maxRecDepth 100000 in
theorem phr_operated_line {g : Nat} {w : World} {r n : Int} {ks : List (List UInt8)} {dry : Bool} {op : List UInt8} (h : Rdr g w ⟨r, n, [], [], []⟩ ks dry) (hop : op ∈ Phr.opers) (h0 : 0 ≤ n) (h1 : n ≤ 99) {x : List UInt8} {t : List (List UInt8)} (hw : Phr.word (Phr.number ks).2 = some (x, t)) (hm : Phr.mot x = none) (q0 : ((bs x).toList == [105]) = false) (q1 : ((bs x).toList == [97]) = false) (q2 : ((bs x).toList == (bs (Phr.tail op)).toList) = true) :
    Calls Try.prog 19 #[.pointer (some ⟨g, 0, none⟩), .string (bs op)] w (EndsAs g w (wet dry (Phr.work ⟨r, n, [], [], []⟩ op ks))) := by
  have tn : (x = Phr.tail op) = True := by rw [bs_tl, bs_tl] at q2; simpa using q2
  have c2 := h.cell2
  have f2 := h.frozen 2
  have S1 : Hid (Rdr g (w.setCell ⟨g, 2, none⟩ (.string (bs op))) ⟨r, n, op, [], []⟩ ks dry) := Lib.hid (h.set_ (fun v => rfl))
  have C := Lib.hid (phr_count S1.out h0 h1)
  have M := Lib.hid (fun u => phr_Motion x u)
  rw [show (Phr.mot x).isSome = false by rw [hm]; rfl] at M
  have WD := Lib.hid (fun u (hu : Rdr g u ⟨r, Phr.count n (Phr.number ks).1, op, [], []⟩ (Phr.number ks).2 dry) => phr_word_some hw hu)
  have HF : Hid (wet dry (Phr.last ⟨r, Phr.count n (Phr.number ks).1, op, Phr.line, []⟩ t) = wet dry (Phr.work ⟨r, n, [], [], []⟩ op ks)) := Lib.hid (by rw [Phr.work, hw]; simp only [Phr.on, hm, Phr.no q0, Phr.no q1, tn, or_self, if_false, if_true, Phr.does]; try rfl)
  have hsz : (bs op).size = op.length := bs_size op
  have hT := Phr.tail_bs op
  have hlen : 1 ≤ op.length := List.length_pos_iff.2 (Phr.opers_ne hop)
  have z : wrap64 ((op.length : Int) - 1) = (op.length : Int) - 1 := by
    have : op.length ≤ 2 := by
      simp only [Phr.opers, List.mem_cons, List.not_mem_nil, or_false] at hop
      rcases hop with rfl | rfl | rfl | rfl | rfl | rfl | rfl | rfl <;> decide
    unfold wrap64; omega
  have G1 := gb_set w g 2 (.string (bs op))
  clear h
  go_enter Try.func19, Try.ntmps19
  go_wp2_with (first
    | (go_at_call 12; refine C.out.mono ?_; rintro e w1 ⟨rfl, k1, g1⟩; have WD2 := Lib.hid (WD.out _ k1); clear k1)
    | (go_at_call 14; refine WD2.out.mono ?_; rintro e w2 ⟨rfl, k2, g2⟩; have c3 := k2.cell3; have f3 := k2.frozen 3; have S3 : Hid (Rdr g (w2.setCell ⟨g, 3, none⟩ (.string ⟨#[108, 105, 110, 101]⟩)) ⟨r, Phr.count n (Phr.number ks).1, op, Phr.line, []⟩ t dry) := Lib.hid (k2.set_ (fun v => rfl)); clear k2)
    | (go_at_call 15; refine (M.out _).mono ?_; rintro e w3 ⟨rfl, rfl⟩))
  go_ret
  exact ⟨gb_trans (gb_trans (gb_trans G1 g1) g2) (gb_set w2 g 3 _), _, _, _, _, rfl, S3.out, (Phr.out_last _ _ _).trans HF.out⟩
set_option maxHeartbeats 1000000 in
set_option maxRecDepth 100000 in
theorem phr_operated_i {g : Nat} {w : World} {r n : Int} {ks : List (List UInt8)} {dry : Bool} {op : List UInt8} (h : Rdr g w ⟨r, n, [], [], []⟩ ks dry) (hop : op ∈ Phr.opers) (h0 : 0 ≤ n) (h1 : n ≤ 99) {x : List UInt8} {t : List (List UInt8)} (hw : Phr.word (Phr.number ks).2 = some (x, t)) (hm : Phr.mot x = none) (q0 : ((bs x).toList == [105]) = true) :
    Calls Try.prog 19 #[.pointer (some ⟨g, 0, none⟩), .string (bs op)] w (EndsAs g w (wet dry (Phr.work ⟨r, n, [], [], []⟩ op ks))) := by
  have tn : (x = [105]) = True := by simpa using Phr.yes q0
  have c2 := h.cell2
  have f2 := h.frozen 2
  have S1 : Hid (Rdr g (w.setCell ⟨g, 2, none⟩ (.string (bs op))) ⟨r, n, op, [], []⟩ ks dry) := Lib.hid (h.set_ (fun v => rfl))
  have C := Lib.hid (phr_count S1.out h0 h1)
  have M := Lib.hid (fun u => phr_Motion x u)
  rw [show (Phr.mot x).isSome = false by rw [hm]; rfl] at M
  have WD := Lib.hid (fun u (hu : Rdr g u ⟨r, Phr.count n (Phr.number ks).1, op, [], []⟩ (Phr.number ks).2 dry) => phr_word_some hw hu)
  have HF : Hid (wet dry (Phr.goes ⟨r, Phr.count n (Phr.number ks).1, op, x, []⟩ 1 t) = wet dry (Phr.work ⟨r, n, [], [], []⟩ op ks)) := Lib.hid (by rw [Phr.work, hw]; simp only [Phr.on, hm, tn, true_or, if_true, Phr.does]; try rfl)
  have hsz : (bs op).size = op.length := bs_size op
  have hT := Phr.tail_bs op
  have hlen : 1 ≤ op.length := List.length_pos_iff.2 (Phr.opers_ne hop)
  have z : wrap64 ((op.length : Int) - 1) = (op.length : Int) - 1 := by
    have : op.length ≤ 2 := by
      simp only [Phr.opers, List.mem_cons, List.not_mem_nil, or_false] at hop
      rcases hop with rfl | rfl | rfl | rfl | rfl | rfl | rfl | rfl <;> decide
    unfold wrap64; omega
  have G1 := gb_set w g 2 (.string (bs op))
  clear h
  go_enter Try.func19, Try.ntmps19
  go_wp2_with (first
    | (go_at_call 12; refine C.out.mono ?_; rintro e w1 ⟨rfl, k1, g1⟩; have WD2 := Lib.hid (WD.out _ k1); clear k1)
    | (go_at_call 14; refine WD2.out.mono ?_; rintro e w2 ⟨rfl, k2, g2⟩; have C2 := Lib.hid (phr_part x k2); clear k2)
    | (go_at_call 15; refine (M.out _).mono ?_; rintro e w3 ⟨rfl, rfl⟩)
    | (go_at_call 33; refine C2.out.mono ?_; rintro e w4 ⟨g4, read, d4, c4, l4, rfl, k4, o4⟩))
  go_ret
  exact ⟨gb_trans (gb_trans (gb_trans G1 g1) g2) g4, _, _, _, _, rfl, k4, o4.trans HF.out⟩
set_option maxHeartbeats 1000000 in
set_option maxRecDepth 100000 in
theorem phr_operated_a {g : Nat} {w : World} {r n : Int} {ks : List (List UInt8)} {dry : Bool} {op : List UInt8} (h : Rdr g w ⟨r, n, [], [], []⟩ ks dry) (hop : op ∈ Phr.opers) (h0 : 0 ≤ n) (h1 : n ≤ 99) {x : List UInt8} {t : List (List UInt8)} (hw : Phr.word (Phr.number ks).2 = some (x, t)) (hm : Phr.mot x = none) (q0 : ((bs x).toList == [105]) = false) (q1 : ((bs x).toList == [97]) = true) :
    Calls Try.prog 19 #[.pointer (some ⟨g, 0, none⟩), .string (bs op)] w (EndsAs g w (wet dry (Phr.work ⟨r, n, [], [], []⟩ op ks))) := by
  have tn : (x = [97]) = True := by simpa using Phr.yes q1
  have c2 := h.cell2
  have f2 := h.frozen 2
  have S1 : Hid (Rdr g (w.setCell ⟨g, 2, none⟩ (.string (bs op))) ⟨r, n, op, [], []⟩ ks dry) := Lib.hid (h.set_ (fun v => rfl))
  have C := Lib.hid (phr_count S1.out h0 h1)
  have M := Lib.hid (fun u => phr_Motion x u)
  rw [show (Phr.mot x).isSome = false by rw [hm]; rfl] at M
  have WD := Lib.hid (fun u (hu : Rdr g u ⟨r, Phr.count n (Phr.number ks).1, op, [], []⟩ (Phr.number ks).2 dry) => phr_word_some hw hu)
  have HF : Hid (wet dry (Phr.goes ⟨r, Phr.count n (Phr.number ks).1, op, x, []⟩ 1 t) = wet dry (Phr.work ⟨r, n, [], [], []⟩ op ks)) := Lib.hid (by rw [Phr.work, hw]; simp only [Phr.on, hm, tn, or_true, if_true, Phr.does]; try rfl)
  have hsz : (bs op).size = op.length := bs_size op
  have hT := Phr.tail_bs op
  have hlen : 1 ≤ op.length := List.length_pos_iff.2 (Phr.opers_ne hop)
  have z : wrap64 ((op.length : Int) - 1) = (op.length : Int) - 1 := by
    have : op.length ≤ 2 := by
      simp only [Phr.opers, List.mem_cons, List.not_mem_nil, or_false] at hop
      rcases hop with rfl | rfl | rfl | rfl | rfl | rfl | rfl | rfl <;> decide
    unfold wrap64; omega
  have G1 := gb_set w g 2 (.string (bs op))
  clear h
  go_enter Try.func19, Try.ntmps19
  go_wp2_with (first
    | (go_at_call 12; refine C.out.mono ?_; rintro e w1 ⟨rfl, k1, g1⟩; have WD2 := Lib.hid (WD.out _ k1); clear k1)
    | (go_at_call 14; refine WD2.out.mono ?_; rintro e w2 ⟨rfl, k2, g2⟩; have C2 := Lib.hid (phr_part x k2); clear k2)
    | (go_at_call 15; refine (M.out _).mono ?_; rintro e w3 ⟨rfl, rfl⟩)
    | (go_at_call 33; refine C2.out.mono ?_; rintro e w4 ⟨g4, read, d4, c4, l4, rfl, k4, o4⟩))
  go_ret
  exact ⟨gb_trans (gb_trans (gb_trans G1 g1) g2) g4, _, _, _, _, rfl, k4, o4.trans HF.out⟩
set_option maxHeartbeats 1000000 in
set_option maxRecDepth 100000 in
theorem phr_operated_mot {g : Nat} {w : World} {r n : Int} {ks : List (List UInt8)} {dry : Bool} {op : List UInt8} (h : Rdr g w ⟨r, n, [], [], []⟩ ks dry) (hop : op ∈ Phr.opers) (h0 : 0 ≤ n) (h1 : n ≤ 99) {x : List UInt8} {t : List (List UInt8)} {m : Nat} (hw : Phr.word (Phr.number ks).2 = some (x, t)) (hm : Phr.mot x = some m) :
    Calls Try.prog 19 #[.pointer (some ⟨g, 0, none⟩), .string (bs op)] w (EndsAs g w (wet dry (Phr.work ⟨r, n, [], [], []⟩ op ks))) := by
  have c2 := h.cell2
  have f2 := h.frozen 2
  have S1 : Hid (Rdr g (w.setCell ⟨g, 2, none⟩ (.string (bs op))) ⟨r, n, op, [], []⟩ ks dry) := Lib.hid (h.set_ (fun v => rfl))
  have C := Lib.hid (phr_count S1.out h0 h1)
  have M := Lib.hid (fun u => phr_Motion x u)
  rw [show (Phr.mot x).isSome = true by rw [hm]; rfl] at M
  have WD := Lib.hid (fun u (hu : Rdr g u ⟨r, Phr.count n (Phr.number ks).1, op, [], []⟩ (Phr.number ks).2 dry) => phr_word_some hw hu)
  have HF : Hid (wet dry (Phr.goes ⟨r, Phr.count n (Phr.number ks).1, op, x, []⟩ m t) = wet dry (Phr.work ⟨r, n, [], [], []⟩ op ks)) := Lib.hid (by rw [Phr.work, hw]; simp only [Phr.on, hm, Phr.does]; try rfl)
  have hsz : (bs op).size = op.length := bs_size op
  have hT := Phr.tail_bs op
  have hlen : 1 ≤ op.length := List.length_pos_iff.2 (Phr.opers_ne hop)
  have z : wrap64 ((op.length : Int) - 1) = (op.length : Int) - 1 := by
    have : op.length ≤ 2 := by
      simp only [Phr.opers, List.mem_cons, List.not_mem_nil, or_false] at hop
      rcases hop with rfl | rfl | rfl | rfl | rfl | rfl | rfl | rfl <;> decide
    unfold wrap64; omega
  have G1 := gb_set w g 2 (.string (bs op))
  clear h
  go_enter Try.func19, Try.ntmps19
  go_wp2_with (first
    | (go_at_call 12; refine C.out.mono ?_; rintro e w1 ⟨rfl, k1, g1⟩; have WD2 := Lib.hid (WD.out _ k1); clear k1)
    | (go_at_call 14; refine WD2.out.mono ?_; rintro e w2 ⟨rfl, k2, g2⟩; have C2 := Lib.hid (phr_motion k2 hm); clear k2)
    | (go_at_call 15; refine (M.out _).mono ?_; rintro e w3 ⟨rfl, rfl⟩)
    | (go_at_call 16; refine C2.out.mono ?_; rintro e w4 ⟨g4, read, d4, c4, l4, rfl, k4, o4⟩))
  go_ret
  exact ⟨gb_trans (gb_trans (gb_trans G1 g1) g2) g4, _, _, _, _, rfl, k4, o4.trans HF.out⟩
set_option maxHeartbeats 1000000 in
set_option maxRecDepth 100000 in
theorem phr_operated_dry {g : Nat} {w : World} {r n : Int} {ks : List (List UInt8)} {dry : Bool} {op : List UInt8} (h : Rdr g w ⟨r, n, [], [], []⟩ ks dry) (hop : op ∈ Phr.opers) (h0 : 0 ≤ n) (h1 : n ≤ 99) (hw : Phr.word (Phr.number ks).2 = none) :
    Calls Try.prog 19 #[.pointer (some ⟨g, 0, none⟩), .string (bs op)] w (EndsAs g w (wet dry (Phr.work ⟨r, n, [], [], []⟩ op ks))) := by
  obtain ⟨x, hx, WD0⟩ := phr_word_dry hw
  have hm : Phr.mot x = none := by rcases hx with rfl | rfl <;> rfl
  have q0 : ((bs x).toList == [105]) = false := by rw [Phr.bs_test]; rcases hx with rfl | rfl <;> rfl
  have q1 : ((bs x).toList == [97]) = false := by rw [Phr.bs_test]; rcases hx with rfl | rfl <;> rfl
  have q2 : ((bs x).toList == (bs (Phr.tail op)).toList) = false := by
    rw [Phr.bs_test, bs_tl]
    simp only [Phr.opers, List.mem_cons, List.not_mem_nil, or_false] at hop
    rcases hx with rfl | rfl <;> rcases hop with rfl | rfl | rfl | rfl | rfl | rfl | rfl | rfl <;> rfl
  have c2 := h.cell2
  have f2 := h.frozen 2
  have S1 : Hid (Rdr g (w.setCell ⟨g, 2, none⟩ (.string (bs op))) ⟨r, n, op, [], []⟩ ks dry) := Lib.hid (h.set_ (fun v => rfl))
  have C := Lib.hid (phr_count S1.out h0 h1)
  have M := Lib.hid (fun u => phr_Motion x u)
  rw [show (Phr.mot x).isSome = false by rw [hm]; rfl] at M
  have HF : Hid (Phr.more = wet dry (Phr.work ⟨r, n, [], [], []⟩ op ks)) := Lib.hid (by rw [Phr.work, hw]; exact (Phr.wet_more dry).symm)
  have WD := Lib.hid (fun u (hu : Rdr g u ⟨r, Phr.count n (Phr.number ks).1, op, [], []⟩ (Phr.number ks).2 dry) => WD0 g _ _ u hu)
  clear WD0
  have hsz : (bs op).size = op.length := bs_size op
  have hT := Phr.tail_bs op
  have hlen : 1 ≤ op.length := List.length_pos_iff.2 (Phr.opers_ne hop)
  have z : wrap64 ((op.length : Int) - 1) = (op.length : Int) - 1 := by
    have : op.length ≤ 2 := by
      simp only [Phr.opers, List.mem_cons, List.not_mem_nil, or_false] at hop
      rcases hop with rfl | rfl | rfl | rfl | rfl | rfl | rfl | rfl <;> decide
    unfold wrap64; omega
  have G1 := gb_set w g 2 (.string (bs op))
  clear h
  go_enter Try.func19, Try.ntmps19
  go_wp2_with (first
    | (go_at_call 12; refine C.out.mono ?_; rintro e w1 ⟨rfl, k1, g1⟩; have WD2 := Lib.hid (WD.out _ k1); clear k1)
    | (go_at_call 14; refine WD2.out.mono ?_; rintro e w2 ⟨rfl, k2, g2⟩)
    | (go_at_call 15; refine (M.out _).mono ?_; rintro e w3 ⟨rfl, rfl⟩))
  go_ret
  exact ⟨gb_trans (gb_trans G1 g1) g2, _, _, _, _, rfl, k2, HF.out⟩
theorem phr_operated {g : Nat} {w : World} {r n : Int} {ks : List (List UInt8)} {dry : Bool} {op : List UInt8} (h : Rdr g w ⟨r, n, [], [], []⟩ ks dry) (hop : op ∈ Phr.opers) (h0 : 0 ≤ n) (h1 : n ≤ 99) :
    Calls Try.prog 19 #[.pointer (some ⟨g, 0, none⟩), .string (bs op)] w (EndsAs g w (wet dry (Phr.work ⟨r, n, [], [], []⟩ op ks))) := by
  cases hw : Phr.word (Phr.number ks).2 with
  | none => exact phr_operated_dry h hop h0 h1 hw
  | some y =>
    obtain ⟨x, t⟩ := y
    cases hm : Phr.mot x with
    | some m => exact phr_operated_mot h hop h0 h1 hw hm
    | none =>
      rcases Bool.eq_false_or_eq_true ((bs x).toList == [105]) with q0 | q0
      · exact phr_operated_i h hop h0 h1 hw hm q0
      rcases Bool.eq_false_or_eq_true ((bs x).toList == [97]) with q1 | q1
      · exact phr_operated_a h hop h0 h1 hw hm q0 q1
      rcases Bool.eq_false_or_eq_true ((bs x).toList == (bs (Phr.tail op)).toList) with q2 | q2
      · exact phr_operated_line h hop h0 h1 hw hm q0 q1 q2
      · exact phr_operated_not h hop h0 h1 hw hm q0 q1 q2
theorem phr_Motion_yes {x : List UInt8} {m : Nat} (hm : Phr.mot x = some m) (w : World) :
    Calls Try.prog 15 #[.string (bs x)] w fun e w' => e = .returned (.bool true) ∧ w = w' := by
  have := phr_Motion x w
  rw [hm] at this
  exact this
theorem phr_Motion_no {x : List UInt8} (hm : Phr.mot x = none) (w : World) :
    Calls Try.prog 15 #[.string (bs x)] w fun e w' => e = .returned (.bool false) ∧ w = w' := by
  have := phr_Motion x w
  rw [hm] at this
  exact this
theorem phr_operator_yes {x : List UInt8} (hm : x ∈ Phr.opers) (w : World) :
    Calls Try.prog 18 #[.string (bs x)] w fun e w' => e = .returned (.bool true) ∧ w = w' := by
  have := phr_operator x w
  rw [decide_eq_true hm] at this
  exact this
theorem phr_operator_no {x : List UInt8} (hm : x ∉ Phr.opers) (w : World) :
    Calls Try.prog 18 #[.string (bs x)] w fun e w' => e = .returned (.bool false) ∧ w = w' := by
  have := phr_operator x w
  rw [decide_eq_false hm] at this
  exact this
/-- What may come of a word. -/
theorem phr_word_ways (l : List (List UInt8)) : (∃ x : List UInt8, Phr.word l = none ∧ Phr.mot x = none ∧ x ∉ Phr.opers ∧ ∀ (g : Nat) (c : Cmd) (dry : Bool) (w : World), Rdr g w c l dry →
    Calls Try.prog 14 #[.pointer (some ⟨g, 0, none⟩)] w fun e w' => e = .returned (.string (bs x)) ∧ Rdr g w' c [] true ∧ w.grownBy w' (some g)) ∨ (∃ x t m, Phr.word l = some (x, t) ∧ Phr.mot x = some m) ∨ (∃ x t, Phr.word l = some (x, t) ∧ Phr.mot x = none ∧ x ∈ Phr.opers) ∨ (∃ x t, Phr.word l = some (x, t) ∧ Phr.mot x = none ∧ x ∉ Phr.opers) := by
  cases hw : Phr.word l with
  | none =>
    obtain ⟨x, hx, WD⟩ := phr_word_dry hw
    exact .inl ⟨x, rfl, by rcases hx with rfl | rfl <;> rfl, by rcases hx with rfl | rfl <;> decide, WD⟩
  | some y =>
    obtain ⟨x, t⟩ := y
    cases hm : Phr.mot x with
    | some m => exact .inr (.inl ⟨x, t, m, rfl, hm⟩)
    | none =>
      by_cases ho : x ∈ Phr.opers
      · exact .inr (.inr (.inl ⟨x, t, rfl, hm, ho⟩))
      · exact .inr (.inr (.inr ⟨x, t, rfl, hm, ho⟩))
namespace Phr
theorem run_dry {visual : Bool} {c : Cmd} {l : List (List UInt8)} (hw : word l = none) : run visual c l = more := by rw [run, hw]
theorem run_mot {visual : Bool} {r n : Int} {l t : List (List UInt8)} {x : List UInt8} {m : Nat} (hw : word l = some (x, t)) (hm : mot x = some m) : run visual ⟨r, n, [], [], []⟩ l = goes ⟨r, n, [], x, []⟩ m t := by
  rw [run, hw]; simp only [act, hm]; rfl
theorem area_no (w : List UInt8) : ∀ op, area w ≠ .works op := by
  intro op
  unfold area
  repeat' split
  all_goals intro h; cases h
theorem run_area {r n : Int} {l t : List (List UInt8)} {x : List UInt8} (hw : word l = some (x, t)) (hm : mot x = none) : run true ⟨r, n, [], [], []⟩ l = does ⟨r, n, [], [], []⟩ (area x) t := by
  rw [run, hw]
  simp only [act, hm, if_true]
  split
  · rename_i op h; exact absurd h (area_no x op)
  · rfl
theorem run_work {r n : Int} {l t : List (List UInt8)} {x : List UInt8} (hw : word l = some (x, t)) (hm : mot x = none) (ho : x ∈ opers) : run false ⟨r, n, [], [], []⟩ l = work ⟨r, n, [], [], []⟩ x t := by
  rw [run, hw]
  simp only [act, hm, Bool.false_eq_true, if_false, plain, if_pos ho]
theorem plain_no {x : List UInt8} (ho : x ∉ opers) : ∀ op, plain x ≠ .works op := by
  intro op
  unfold plain
  rw [if_neg ho]
  repeat' split
  all_goals intro h; cases h
theorem run_plain {r n : Int} {l t : List (List UInt8)} {x : List UInt8} (hw : word l = some (x, t)) (hm : mot x = none) (ho : x ∉ opers) : run false ⟨r, n, [], [], []⟩ l = does ⟨r, n, [], [], []⟩ (plain x) t := by
  rw [run, hw]
  simp only [act, hm, Bool.false_eq_true, if_false]
  split
  · rename_i op h; exact absurd h (plain_no ho op)
  · rfl
end Phr
set_option maxHeartbeats 1000000 in
set_option maxRecDepth 100000 in
theorem phr_command_true {g : Nat} {w : World} {ks : List (List UInt8)} (h : Rdr g w ⟨0, 0, [], [], []⟩ ks false) :
    Calls Try.prog 8 #[.pointer (some ⟨g, 0, none⟩), .bool true] w (EndsAs g w (Phr.parse true ks)) := by
  have NI := Phr.number_in ks
  have C : Hid (Calls Try.prog 12 #[.pointer (some ⟨g, 0, none⟩)] w fun e w' => e = .returned (.tuple #[]) ∧ Rdr g w' ⟨0, (Phr.number ks).1, [], [], []⟩ (Phr.number ks).2 false ∧ w.grownBy w' (some g)) := by
    have := phr_count h (by decide) (by decide)
    simp only [Phr.count_zero NI.1 NI.2] at this
    exact Lib.hid this
  have HP : Hid (Phr.parse true ks = Phr.after true (Phr.number ks).1 (Phr.number ks).2) := Lib.hid rfl
  rw [HP.out]
  clear h HP
  generalize (Phr.number ks).1 = n at *
  generalize (Phr.number ks).2 = l0 at *
  go_enter Try.func8, Try.ntmps8
  go_wp2_with (first
    | (go_at_call 12; refine C.out.mono ?_; rintro e w1 ⟨rfl, k1, g1⟩; have R := Lib.hid (phr_register true k1 NI.1 NI.2); clear k1 C)
    | (go_at_call 13; refine R.out.mono ?_; rintro e w2 ⟨g2, (⟨rfl, d2, c2, l2, k2, o2⟩ | ⟨rfl, r, m, l, k2, m0, m1, o2⟩)⟩; rotate_left; rcases phr_word_ways l with ⟨x, hw, hm, ho, WD⟩ | ⟨x, t, j, hw, hm⟩ | ⟨x, t, hw, hm, ho⟩ | ⟨x, t, hw, hm, ho⟩)
    | (go_at_call 14; (first | (refine (WD _ _ _ _ k2).mono ?_; rintro e w3 ⟨rfl, k3, g3⟩; clear k2 WD) | (refine (phr_word_some hw k2).mono ?_; rintro e w3 ⟨rfl, k3, g3⟩; clear k2)))
    | (go_at_call 15; (first | refine (phr_Motion_yes hm _).mono ?_ | refine (phr_Motion_no hm _).mono ?_); rintro e w4 ⟨rfl, rfl⟩)
    | (go_at_call 16; refine (phr_motion k3 hm).mono ?_; rintro e w5 ⟨g5, read, d5, c5, l5, rfl, k5, o5⟩; replace o5 := o5.trans ((Phr.run_mot hw hm).symm.trans o2))
    | (go_at_call 17; refine (phr_area k3).mono ?_; rintro e w5 ⟨g5, read, d5, c5, l5, rfl, k5, o5⟩; (first | replace o5 := o5.trans ((Phr.run_dry hw).symm.trans o2) | replace o5 := o5.trans ((Phr.run_area hw hm).symm.trans o2))))
  all_goals (go_ret; first | exact ⟨gb_trans g1 g2, _, _, _, _, rfl, k2, o2⟩ | exact ⟨gb_trans (gb_trans (gb_trans g1 g2) g3) g5, _, _, _, _, rfl, k5, o5⟩)
set_option maxHeartbeats 1000000 in
set_option maxRecDepth 100000 in
theorem phr_command_false {g : Nat} {w : World} {ks : List (List UInt8)} (h : Rdr g w ⟨0, 0, [], [], []⟩ ks false) :
    Calls Try.prog 8 #[.pointer (some ⟨g, 0, none⟩), .bool false] w (EndsAs g w (Phr.parse false ks)) := by
  have NI := Phr.number_in ks
  have C : Hid (Calls Try.prog 12 #[.pointer (some ⟨g, 0, none⟩)] w fun e w' => e = .returned (.tuple #[]) ∧ Rdr g w' ⟨0, (Phr.number ks).1, [], [], []⟩ (Phr.number ks).2 false ∧ w.grownBy w' (some g)) := by
    have := phr_count h (by decide) (by decide)
    simp only [Phr.count_zero NI.1 NI.2] at this
    exact Lib.hid this
  have HP : Hid (Phr.parse false ks = Phr.after false (Phr.number ks).1 (Phr.number ks).2) := Lib.hid rfl
  rw [HP.out]
  clear h HP
  generalize (Phr.number ks).1 = n at *
  generalize (Phr.number ks).2 = l0 at *
  go_enter Try.func8, Try.ntmps8
  go_wp2_with (first
    | (go_at_call 12; refine C.out.mono ?_; rintro e w1 ⟨rfl, k1, g1⟩; have R := Lib.hid (phr_register false k1 NI.1 NI.2); clear k1 C)
    | (go_at_call 13; refine R.out.mono ?_; rintro e w2 ⟨g2, (⟨rfl, d2, c2, l2, k2, o2⟩ | ⟨rfl, r, m, l, k2, m0, m1, o2⟩)⟩; rotate_left; rcases phr_word_ways l with ⟨x, hw, hm, ho, WD⟩ | ⟨x, t, j, hw, hm⟩ | ⟨x, t, hw, hm, ho⟩ | ⟨x, t, hw, hm, ho⟩)
    | (go_at_call 14; (first | (refine (WD _ _ _ _ k2).mono ?_; rintro e w3 ⟨rfl, k3, g3⟩; clear k2 WD) | (refine (phr_word_some hw k2).mono ?_; rintro e w3 ⟨rfl, k3, g3⟩; clear k2)))
    | (go_at_call 15; (first | refine (phr_Motion_yes hm _).mono ?_ | refine (phr_Motion_no hm _).mono ?_); rintro e w4 ⟨rfl, rfl⟩)
    | (go_at_call 16; refine (phr_motion k3 hm).mono ?_; rintro e w5 ⟨g5, read, d5, c5, l5, rfl, k5, o5⟩; replace o5 := o5.trans ((Phr.run_mot hw hm).symm.trans o2))
    | (go_at_call 18; (first | refine (phr_operator_yes ho _).mono ?_ | refine (phr_operator_no ho _).mono ?_); rintro e w4 ⟨rfl, rfl⟩)
    | (go_at_call 19; refine (phr_operated k3 ho m0 m1).mono ?_; rintro e w5 ⟨g5, read, d5, c5, l5, rfl, k5, o5⟩; replace o5 := o5.trans ((Phr.run_work hw hm ho).symm.trans o2))
    | (go_at_call 20; refine (phr_plain k3 ho).mono ?_; rintro e w5 ⟨g5, read, d5, c5, l5, rfl, k5, o5⟩; (first | replace o5 := o5.trans ((Phr.run_dry hw).symm.trans o2) | replace o5 := o5.trans ((Phr.run_plain hw hm ho).symm.trans o2))))
  all_goals (go_ret; first | exact ⟨gb_trans g1 g2, _, _, _, _, rfl, k2, o2⟩ | exact ⟨gb_trans (gb_trans (gb_trans g1 g2) g3) g5, _, _, _, _, rfl, k5, o5⟩)
theorem phr_command {g : Nat} {w : World} {ks : List (List UInt8)} (visual : Bool) (h : Rdr g w ⟨0, 0, [], [], []⟩ ks false) :
    Calls Try.prog 8 #[.pointer (some ⟨g, 0, none⟩), .bool visual] w (EndsAs g w (Phr.parse visual ks)) := by
  cases visual with
  | true => exact phr_command_true h
  | false => exact phr_command_false h
end Go.Proofs.Ytchpkeelnfmlbaa
/-
  Package phrase's Parse.
-/
namespace Go.Proofs.Ytchpkeelnfmlbaa
open Go.RowKit
open Phr (Cmd Ans Rdr EndsAs)
namespace Phr
/-- A command as a value. -/
def Cmd.val (c : Cmd) : Value := .agg #[.int .i64 c.reg, .int .i64 c.count, .string (bs c.op), .string (bs c.key), .string (bs c.arg)]
def ansV (x : Ans) : Value := .tuple #[x.1.val, .int .i64 x.2]
/-- A world whose block g has been stored to, cell by cell. -/
def put5 (W : World) (g : Nat) (a b c d e : Value) : World := ((((W.setCell ⟨g, 0, none⟩ a).setCell ⟨g, 1, none⟩ b).setCell ⟨g, 2, none⟩ c).setCell ⟨g, 3, none⟩ d).setCell ⟨g, 4, none⟩ e
theorem blk5 {W : World} {g : Nat} {t : TypeId} {z0 z1 z2 z3 z4 : Value} (h : Blk W g t #[z0, z1, z2, z3, z4]) (a b c d e : Value) :
    (W.cell? ⟨g, 0, none⟩ = some z0 ∧ W.frozen? ⟨g, 0, none⟩ = false)
    ∧ ((W.setCell ⟨g, 0, none⟩ a).cell? ⟨g, 1, none⟩ = some z1 ∧ (W.setCell ⟨g, 0, none⟩ a).frozen? ⟨g, 1, none⟩ = false)
    ∧ (((W.setCell ⟨g, 0, none⟩ a).setCell ⟨g, 1, none⟩ b).cell? ⟨g, 2, none⟩ = some z2 ∧ ((W.setCell ⟨g, 0, none⟩ a).setCell ⟨g, 1, none⟩ b).frozen? ⟨g, 2, none⟩ = false)
    ∧ ((((W.setCell ⟨g, 0, none⟩ a).setCell ⟨g, 1, none⟩ b).setCell ⟨g, 2, none⟩ c).cell? ⟨g, 3, none⟩ = some z3 ∧ (((W.setCell ⟨g, 0, none⟩ a).setCell ⟨g, 1, none⟩ b).setCell ⟨g, 2, none⟩ c).frozen? ⟨g, 3, none⟩ = false)
    ∧ (((((W.setCell ⟨g, 0, none⟩ a).setCell ⟨g, 1, none⟩ b).setCell ⟨g, 2, none⟩ c).setCell ⟨g, 3, none⟩ d).cell? ⟨g, 4, none⟩ = some z4 ∧ ((((W.setCell ⟨g, 0, none⟩ a).setCell ⟨g, 1, none⟩ b).setCell ⟨g, 2, none⟩ c).setCell ⟨g, 3, none⟩ d).frozen? ⟨g, 4, none⟩ = false)
    ∧ Blk (put5 W g a b c d e) g t #[a, b, c, d, e] := by
  have h1 := h.set_ 0 a
  have h2 := h1.set_ 1 b
  have h3 := h2.set_ 2 c
  have h4 := h3.set_ 3 d
  have h5 := h4.set_ 4 e
  exact ⟨⟨h.cell 0, h.frozen 0⟩, ⟨h1.cell 1, h1.frozen 1⟩, ⟨h2.cell 2, h2.frozen 2⟩, ⟨h3.cell 3, h3.frozen 3⟩, ⟨h4.cell 4, h4.frozen 4⟩, h5⟩
theorem put5_cells {W : World} {g : Nat} {t : TypeId} {a b c d e : Value} (h : Blk (put5 W g a b c d e) g t #[a, b, c, d, e]) : (put5 W g a b c d e).cell? ⟨g, 0, none⟩ = some a ∧ (put5 W g a b c d e).cell? ⟨g, 1, none⟩ = some b ∧ (put5 W g a b c d e).cell? ⟨g, 2, none⟩ = some c ∧ (put5 W g a b c d e).cell? ⟨g, 3, none⟩ = some d ∧ (put5 W g a b c d e).cell? ⟨g, 4, none⟩ = some e :=
  ⟨h.cell 0, h.cell 1, h.cell 2, h.cell 3, h.cell 4⟩
theorem put5_gb (W : World) (g : Nat) (a b c d e : Value) : W.grownBy (put5 W g a b c d e) (some g) :=
  gb_trans (gb_trans (gb_trans (gb_trans (gb_set W g 0 a) (gb_set _ g 1 b)) (gb_set _ g 2 c)) (gb_set _ g 3 d)) (gb_set _ g 4 e)
end Phr
section
variable {P : Program} {fn : Func} {R : Ending → World → Prop} {a : Act} {w : World} {g : Nat} {t : TypeId} {v0 v1 v2 v3 v4 : Value} {p u : Tmp} {fs : Array Field} {ty : TypeId}
theorem ret_five1 (h : fn.results = #[.cell p ty, .tmp u]) (hp : a.tmps.getD p undef = .pointer (some ⟨g, 0, none⟩)) (hB : Blk w g t #[v0, v1, v2, v3, v4]) (hd : a.defers = []) (hu : P.underlying ty = some (.struct fs)) (hi : (P.info? ty).map (·.size) = some 5)
    (hR : R (.returned (.tuple #[.agg #[v0, v1, v2, v3, v4], a.tmps.getD u undef])) w) : bodyPost P fn R .ret a w :=
  bodyPost_ret (results_row_and h _ _ g t #[v0, v1, v2, v3, v4] (0, 0) _ hp hB hu rfl hi) hd hR
end
set_option maxHeartbeats 1000000 in
set_option maxRecDepth 100000 in
theorem phr_Parse_bad (s : ByteArray) (visual : Bool) (hs : s.size ≤ 1000000000000) (he : Key.err s.data.toList ≠ 0) (w : World) :
    Calls Try.prog 5 #[.string s, .bool visual] w fun e w' => e = .returned (Phr.ansV Phr.bad) ∧ Below w.heap.size w w' := by
  have C := Lib.hid (fun w => key_Split_cap s hs w)
  have q : (Key.err s.data.toList == 0) = false := by rw [beq_eq_false_iff_ne]; exact he
  have B0 := Blk.new w 24 #[.int .i64 0, .int .i64 0, .string ⟨#[]⟩, .string ⟨#[]⟩, .string ⟨#[]⟩]
  have W0 := (Below.refl w.heap.size w).alloc (Nat.le_refl _) (.cells #[.int .i64 0, .int .i64 0, .string ⟨#[]⟩, .string ⟨#[]⟩, .string ⟨#[]⟩] 24)
  generalize Key.err s.data.toList = z at *
  generalize Key.split s.data.toList = sp at *
  clear he
  go_enter Try.func5, Try.ntmps5
  go_wp2_with (first
    | (go_at_call 6; refine (C.out _).mono ?_; rintro e w1 ⟨A, n, rfl, hc, hS, hb1⟩; have B1 := B0.below hb1 B0.lt; have W1 := W0.trans (hb1.mono (by rw [World.size_alloc]; omega)); obtain ⟨⟨x0, y0⟩, ⟨x1, y1⟩, ⟨x2, y2⟩, ⟨x3, y3⟩, ⟨x4, y4⟩, B2⟩ := Phr.blk5 B1 (.int .i64 0) (.int .i64 0) (.string ⟨#[]⟩) (.string ⟨#[]⟩) (.string ⟨#[]⟩); obtain ⟨v0, v1, v2, v3, v4⟩ := Phr.put5_cells B2; have GG := Phr.put5_gb w1 w.heap.size (.int .i64 0) (.int .i64 0) (.string ⟨#[]⟩) (.string ⟨#[]⟩) (.string ⟨#[]⟩); unfold Phr.put5 at v0 v1 v2 v3 v4 GG B2; generalize hu1 : w1.setCell ⟨w.heap.size, 0, none⟩ (.int .i64 0) = u1 at *; generalize hu2 : u1.setCell ⟨w.heap.size, 1, none⟩ (.int .i64 0) = u2 at *; generalize hu3 : u2.setCell ⟨w.heap.size, 2, none⟩ (.string ⟨#[]⟩) = u3 at *; generalize hu4 : u3.setCell ⟨w.heap.size, 3, none⟩ (.string ⟨#[]⟩) = u4 at *; generalize hu5 : u4.setCell ⟨w.heap.size, 4, none⟩ (.string ⟨#[]⟩) = u5 at *; have BB := Lib.hid B2; clear hS hb1 B2 B1 C B0 W0))
  refine ret_five1 rfl rfl BB.out rfl Try.underlying24 (by kernel_rfl) ?_
  exact ⟨rfl, W1.grown GG W1.size (fun j e => by injection e with e; omega)⟩
/-- The reader that Parse lays. -/
theorem Phr.fresh7 {w w1 u0 : World} {A : Option Addr} {n : Nat} {sp : List (List UInt8)} (hu : w1.alloc (.cells #[.int .i64 0, .int .i64 0, .string ⟨#[]⟩, .string ⟨#[]⟩, .string ⟨#[]⟩, .slice none 0 0, .bool false] 34) = u0) (ho : ∀ k ∈ sp, Utf.one k = true) (hc : sp.length ≤ n) (hS : Strs w1 A (sp.map bs)) {cs : Array Value} (B1 : Blk w1 w.heap.size 24 cs) (W1 : Below w.heap.size w w1) :
    Blk u0 w1.heap.size 34 #[.int .i64 0, .int .i64 0, .string ⟨#[]⟩, .string ⟨#[]⟩, .string ⟨#[]⟩, .slice none 0 0, .bool false] ∧
    ((u0.cell? ⟨w1.heap.size, 0, none⟩ = some (.int .i64 0) ∧ u0.frozen? ⟨w1.heap.size, 0, none⟩ = false) ∧ ((u0.setCell ⟨w1.heap.size, 0, none⟩ (.int .i64 0)).cell? ⟨w1.heap.size, 1, none⟩ = some (.int .i64 0) ∧ (u0.setCell ⟨w1.heap.size, 0, none⟩ (.int .i64 0)).frozen? ⟨w1.heap.size, 1, none⟩ = false) ∧ (((u0.setCell ⟨w1.heap.size, 0, none⟩ (.int .i64 0)).setCell ⟨w1.heap.size, 1, none⟩ (.int .i64 0)).cell? ⟨w1.heap.size, 2, none⟩ = some (.string ⟨#[]⟩) ∧ ((u0.setCell ⟨w1.heap.size, 0, none⟩ (.int .i64 0)).setCell ⟨w1.heap.size, 1, none⟩ (.int .i64 0)).frozen? ⟨w1.heap.size, 2, none⟩ = false) ∧ ((((u0.setCell ⟨w1.heap.size, 0, none⟩ (.int .i64 0)).setCell ⟨w1.heap.size, 1, none⟩ (.int .i64 0)).setCell ⟨w1.heap.size, 2, none⟩ (.string ⟨#[]⟩)).cell? ⟨w1.heap.size, 3, none⟩ = some (.string ⟨#[]⟩) ∧ (((u0.setCell ⟨w1.heap.size, 0, none⟩ (.int .i64 0)).setCell ⟨w1.heap.size, 1, none⟩ (.int .i64 0)).setCell ⟨w1.heap.size, 2, none⟩ (.string ⟨#[]⟩)).frozen? ⟨w1.heap.size, 3, none⟩ = false) ∧ (((((u0.setCell ⟨w1.heap.size, 0, none⟩ (.int .i64 0)).setCell ⟨w1.heap.size, 1, none⟩ (.int .i64 0)).setCell ⟨w1.heap.size, 2, none⟩ (.string ⟨#[]⟩)).setCell ⟨w1.heap.size, 3, none⟩ (.string ⟨#[]⟩)).cell? ⟨w1.heap.size, 4, none⟩ = some (.string ⟨#[]⟩) ∧ ((((u0.setCell ⟨w1.heap.size, 0, none⟩ (.int .i64 0)).setCell ⟨w1.heap.size, 1, none⟩ (.int .i64 0)).setCell ⟨w1.heap.size, 2, none⟩ (.string ⟨#[]⟩)).setCell ⟨w1.heap.size, 3, none⟩ (.string ⟨#[]⟩)).frozen? ⟨w1.heap.size, 4, none⟩ = false) ∧ ((((((u0.setCell ⟨w1.heap.size, 0, none⟩ (.int .i64 0)).setCell ⟨w1.heap.size, 1, none⟩ (.int .i64 0)).setCell ⟨w1.heap.size, 2, none⟩ (.string ⟨#[]⟩)).setCell ⟨w1.heap.size, 3, none⟩ (.string ⟨#[]⟩)).setCell ⟨w1.heap.size, 4, none⟩ (.string ⟨#[]⟩)).cell? ⟨w1.heap.size, 5, none⟩ = some (.slice none 0 0) ∧ (((((u0.setCell ⟨w1.heap.size, 0, none⟩ (.int .i64 0)).setCell ⟨w1.heap.size, 1, none⟩ (.int .i64 0)).setCell ⟨w1.heap.size, 2, none⟩ (.string ⟨#[]⟩)).setCell ⟨w1.heap.size, 3, none⟩ (.string ⟨#[]⟩)).setCell ⟨w1.heap.size, 4, none⟩ (.string ⟨#[]⟩)).frozen? ⟨w1.heap.size, 5, none⟩ = false) ∧ (((((((u0.setCell ⟨w1.heap.size, 0, none⟩ (.int .i64 0)).setCell ⟨w1.heap.size, 1, none⟩ (.int .i64 0)).setCell ⟨w1.heap.size, 2, none⟩ (.string ⟨#[]⟩)).setCell ⟨w1.heap.size, 3, none⟩ (.string ⟨#[]⟩)).setCell ⟨w1.heap.size, 4, none⟩ (.string ⟨#[]⟩)).setCell ⟨w1.heap.size, 5, none⟩ (.slice A sp.length n)).cell? ⟨w1.heap.size, 6, none⟩ = some (.bool false) ∧ ((((((u0.setCell ⟨w1.heap.size, 0, none⟩ (.int .i64 0)).setCell ⟨w1.heap.size, 1, none⟩ (.int .i64 0)).setCell ⟨w1.heap.size, 2, none⟩ (.string ⟨#[]⟩)).setCell ⟨w1.heap.size, 3, none⟩ (.string ⟨#[]⟩)).setCell ⟨w1.heap.size, 4, none⟩ (.string ⟨#[]⟩)).setCell ⟨w1.heap.size, 5, none⟩ (.slice A sp.length n)).frozen? ⟨w1.heap.size, 6, none⟩ = false)) ∧
    Rdr w1.heap.size (((((((u0.setCell ⟨w1.heap.size, 0, none⟩ (.int .i64 0)).setCell ⟨w1.heap.size, 1, none⟩ (.int .i64 0)).setCell ⟨w1.heap.size, 2, none⟩ (.string ⟨#[]⟩)).setCell ⟨w1.heap.size, 3, none⟩ (.string ⟨#[]⟩)).setCell ⟨w1.heap.size, 4, none⟩ (.string ⟨#[]⟩)).setCell ⟨w1.heap.size, 5, none⟩ (.slice A sp.length n)).setCell ⟨w1.heap.size, 6, none⟩ (.bool false)) ⟨0, 0, [], [], []⟩ sp false ∧ Blk (((((((u0.setCell ⟨w1.heap.size, 0, none⟩ (.int .i64 0)).setCell ⟨w1.heap.size, 1, none⟩ (.int .i64 0)).setCell ⟨w1.heap.size, 2, none⟩ (.string ⟨#[]⟩)).setCell ⟨w1.heap.size, 3, none⟩ (.string ⟨#[]⟩)).setCell ⟨w1.heap.size, 4, none⟩ (.string ⟨#[]⟩)).setCell ⟨w1.heap.size, 5, none⟩ (.slice A sp.length n)).setCell ⟨w1.heap.size, 6, none⟩ (.bool false)) w.heap.size 24 cs ∧ Below w.heap.size w (((((((u0.setCell ⟨w1.heap.size, 0, none⟩ (.int .i64 0)).setCell ⟨w1.heap.size, 1, none⟩ (.int .i64 0)).setCell ⟨w1.heap.size, 2, none⟩ (.string ⟨#[]⟩)).setCell ⟨w1.heap.size, 3, none⟩ (.string ⟨#[]⟩)).setCell ⟨w1.heap.size, 4, none⟩ (.string ⟨#[]⟩)).setCell ⟨w1.heap.size, 5, none⟩ (.slice A sp.length n)).setCell ⟨w1.heap.size, 6, none⟩ (.bool false)) := by
  subst hu
  have b0 := Blk.new w1 34 #[.int .i64 0, .int .i64 0, .string ⟨#[]⟩, .string ⟨#[]⟩, .string ⟨#[]⟩, .slice none 0 0, .bool false]
  have hlt : w.heap.size < w1.heap.size := B1.lt
  have b1 := b0.set_ 0 (.int .i64 0)
  have b2 := b1.set_ 1 (.int .i64 0)
  have b3 := b2.set_ 2 (.string ⟨#[]⟩)
  have b4 := b3.set_ 3 (.string ⟨#[]⟩)
  have b5 := b4.set_ 4 (.string ⟨#[]⟩)
  have b6 := b5.set_ 5 (.slice A sp.length n)
  have b7 := b6.set_ 6 (.bool false)
  refine ⟨b0, ⟨⟨b0.cell 0, b0.frozen 0⟩, ⟨b1.cell 1, b1.frozen 1⟩, ⟨b2.cell 2, b2.frozen 2⟩, ⟨b3.cell 3, b3.frozen 3⟩, ⟨b4.cell 4, b4.frozen 4⟩, ⟨b5.cell 5, b5.frozen 5⟩, ⟨b6.cell 6, b6.frozen 6⟩⟩, ⟨A, n, b7, hc, ?_, ?_, ho⟩, ?_, ?_⟩
  · intro h0
    obtain ⟨ad, e, hl, hx⟩ := hS h0
    refine ⟨ad, e, by simp [World.setCell]; omega, fun j x hj => ?_⟩
    have hne : (ad.add j).block ≠ w1.heap.size := by rw [block_of_add]; omega
    rw [World.cell?_of_block (w := w1) ?_]
    · exact hx j x hj
    · rw [Below.heap_setCell _ _ _ _ hne, Below.heap_setCell _ _ _ _ hne, Below.heap_setCell _ _ _ _ hne, Below.heap_setCell _ _ _ _ hne, Below.heap_setCell _ _ _ _ hne, Below.heap_setCell _ _ _ _ hne, Below.heap_setCell _ _ _ _ hne]
      exact Below.heap_alloc w1 _ _ (by rw [block_of_add]; exact hl)
  · intro h0 ad e
    obtain ⟨ad', e', hl, _⟩ := hS (by rw [List.length_map]; exact List.length_pos_iff.2 h0)
    rw [e] at e'; injection e' with e'; subst e'; omega
  · exact ((((((((B1.alloc _).far (p := ⟨w1.heap.size, 0, none⟩) (by show w.heap.size ≠ w1.heap.size; omega) _).far (p := ⟨w1.heap.size, 1, none⟩) (by show w.heap.size ≠ w1.heap.size; omega) _).far (p := ⟨w1.heap.size, 2, none⟩) (by show w.heap.size ≠ w1.heap.size; omega) _).far (p := ⟨w1.heap.size, 3, none⟩) (by show w.heap.size ≠ w1.heap.size; omega) _).far (p := ⟨w1.heap.size, 4, none⟩) (by show w.heap.size ≠ w1.heap.size; omega) _).far (p := ⟨w1.heap.size, 5, none⟩) (by show w.heap.size ≠ w1.heap.size; omega) _).far (p := ⟨w1.heap.size, 6, none⟩) (by show w.heap.size ≠ w1.heap.size; omega) _)
  · exact ((((((((W1.alloc W1.size _).setCell (p := ⟨w1.heap.size, 0, none⟩) (by show w.heap.size ≤ w1.heap.size; omega) _).setCell (p := ⟨w1.heap.size, 1, none⟩) (by show w.heap.size ≤ w1.heap.size; omega) _).setCell (p := ⟨w1.heap.size, 2, none⟩) (by show w.heap.size ≤ w1.heap.size; omega) _).setCell (p := ⟨w1.heap.size, 3, none⟩) (by show w.heap.size ≤ w1.heap.size; omega) _).setCell (p := ⟨w1.heap.size, 4, none⟩) (by show w.heap.size ≤ w1.heap.size; omega) _).setCell (p := ⟨w1.heap.size, 5, none⟩) (by show w.heap.size ≤ w1.heap.size; omega) _).setCell (p := ⟨w1.heap.size, 6, none⟩) (by show w.heap.size ≤ w1.heap.size; omega) _)
set_option maxHeartbeats 1000000 in
set_option maxRecDepth 100000 in
theorem phr_Parse_ok (s : ByteArray) (visual : Bool) (hs : s.size ≤ 1000000000000) (he : Key.err s.data.toList = 0) (w : World) :
    Calls Try.prog 5 #[.string s, .bool visual] w fun e w' => e = .returned (Phr.ansV (Phr.parse visual (Key.split s.data.toList))) ∧ Below w.heap.size w w' := by
  have C := Lib.hid (fun w => key_Split_cap s hs w)
  rw [he] at C
  have HO : Hid (∀ k ∈ Key.split s.data.toList, Utf.one k = true) := Lib.hid (by
    obtain ⟨rs, hd, hk⟩ := Key.err_zero he
    rw [Key.split_ok hd hk]
    exact (Utf.dec_some hd).1)
  have B0 := Blk.new w 24 #[.int .i64 0, .int .i64 0, .string ⟨#[]⟩, .string ⟨#[]⟩, .string ⟨#[]⟩]
  have W0 := (Below.refl w.heap.size w).alloc (Nat.le_refl _) (.cells #[.int .i64 0, .int .i64 0, .string ⟨#[]⟩, .string ⟨#[]⟩, .string ⟨#[]⟩] 24)
  clear he
  generalize Key.split s.data.toList = sp at *
  generalize hF : Phr.parse visual sp = F
  go_enter Try.func5, Try.ntmps5
  go_wp2_with (first
    | (go_at_call 6; refine (C.out _).mono ?_; rintro e w1 ⟨A, n, rfl, hc, hS, hb1⟩; have B1 := B0.below hb1 B0.lt; have W1 := W0.trans (hb1.mono (by rw [World.size_alloc]; omega)); clear hb1 C B0 W0; generalize hu : w1.alloc (.cells #[.int .i64 0, .int .i64 0, .string ⟨#[]⟩, .string ⟨#[]⟩, .string ⟨#[]⟩, .slice none 0 0, .bool false] 34) = u0 at *; obtain ⟨BR, XR, YR, ZR, WR⟩ := Phr.fresh7 (A := A) (n := n) hu HO.out hc hS B1 W1; obtain ⟨x0, y0⟩ := XR.1; obtain ⟨x1, y1⟩ := XR.2.1; obtain ⟨x2, y2⟩ := XR.2.2.1; obtain ⟨x3, y3⟩ := XR.2.2.2.1; obtain ⟨x4, y4⟩ := XR.2.2.2.2.1; obtain ⟨x5, y5⟩ := XR.2.2.2.2.2.1; obtain ⟨x6, y6⟩ := XR.2.2.2.2.2.2; generalize hu1 : u0.setCell ⟨w1.heap.size, 0, none⟩ (.int .i64 0) = u1 at *; generalize hu2 : u1.setCell ⟨w1.heap.size, 1, none⟩ (.int .i64 0) = u2 at *; generalize hu3 : u2.setCell ⟨w1.heap.size, 2, none⟩ (.string ⟨#[]⟩) = u3 at *; generalize hu4 : u3.setCell ⟨w1.heap.size, 3, none⟩ (.string ⟨#[]⟩) = u4 at *; generalize hu5 : u4.setCell ⟨w1.heap.size, 4, none⟩ (.string ⟨#[]⟩) = u5 at *; generalize hu6 : u5.setCell ⟨w1.heap.size, 5, none⟩ (.slice A sp.length n) = u6 at *; generalize hu7 : u6.setCell ⟨w1.heap.size, 6, none⟩ (.bool false) = u7 at *; have C2 := Lib.hid (phr_command visual YR); have HL := B1.lt; clear XR YR BR B1 W1 hS)
    | (go_at_call 8; rw [hF] at C2; refine C2.out.mono ?_; rintro e w2 ⟨g2, read, dry, c, ks, rfl, k2, o2⟩; have B2 := ZR.grown g2 (by intro e; injection e with e; omega); have W2 := WR.grown g2 WR.size (fun k e => by injection e with e; omega); obtain ⟨A2, n2, hb2, _⟩ := k2; have d0 := hb2.cell 0; have d1 := hb2.cell 1; have d2 := hb2.cell 2; have d3 := hb2.cell 3; have d4 := hb2.cell 4; have d5 := hb2.cell 5; have d6 := hb2.cell 6; simp [Phr.cells] at d0 d1 d2 d3 d4 d5 d6; clear hb2 ZR WR g2 C2; rcases dry with _ | _; all_goals (first | (have o3 : Phr.more = F := o2; obtain ⟨⟨p0, r0⟩, ⟨p1, r1⟩, ⟨p2, r2⟩, ⟨p3, r3⟩, ⟨p4, r4⟩, B3⟩ := Phr.blk5 B2 (.int .i64 0) (.int .i64 0) (.string ⟨#[]⟩) (.string ⟨#[]⟩) (.string ⟨#[]⟩); have GG := Phr.put5_gb w2 w.heap.size (.int .i64 0) (.int .i64 0) (.string ⟨#[]⟩) (.string ⟨#[]⟩) (.string ⟨#[]⟩); unfold Phr.put5 at GG B3; generalize hv1 : w2.setCell ⟨w.heap.size, 0, none⟩ (.int .i64 0) = v1 at *; generalize hv2 : v1.setCell ⟨w.heap.size, 1, none⟩ (.int .i64 0) = v2 at *; generalize hv3 : v2.setCell ⟨w.heap.size, 2, none⟩ (.string ⟨#[]⟩) = v3 at *; generalize hv4 : v3.setCell ⟨w.heap.size, 3, none⟩ (.string ⟨#[]⟩) = v4 at *; generalize hv5 : v4.setCell ⟨w.heap.size, 4, none⟩ (.string ⟨#[]⟩) = v5 at *; have BB := Lib.hid B3; clear B3 B2) | (rcases read with _ | _; all_goals (first | (have o3 : Phr.bad = F := o2; obtain ⟨⟨p0, r0⟩, ⟨p1, r1⟩, ⟨p2, r2⟩, ⟨p3, r3⟩, ⟨p4, r4⟩, B3⟩ := Phr.blk5 B2 (.int .i64 0) (.int .i64 0) (.string ⟨#[]⟩) (.string ⟨#[]⟩) (.string ⟨#[]⟩); have GG := Phr.put5_gb w2 w.heap.size (.int .i64 0) (.int .i64 0) (.string ⟨#[]⟩) (.string ⟨#[]⟩) (.string ⟨#[]⟩); unfold Phr.put5 at GG B3; generalize hv1 : w2.setCell ⟨w.heap.size, 0, none⟩ (.int .i64 0) = v1 at *; generalize hv2 : v1.setCell ⟨w.heap.size, 1, none⟩ (.int .i64 0) = v2 at *; generalize hv3 : v2.setCell ⟨w.heap.size, 2, none⟩ (.string ⟨#[]⟩) = v3 at *; generalize hv4 : v3.setCell ⟨w.heap.size, 3, none⟩ (.string ⟨#[]⟩) = v4 at *; generalize hv5 : v4.setCell ⟨w.heap.size, 4, none⟩ (.string ⟨#[]⟩) = v5 at *; have BB := Lib.hid B3; clear B3 B2) | (rcases ks with _ | ⟨k0, ks⟩; all_goals (first | (have o3 : Phr.bad = F := o2; obtain ⟨⟨p0, r0⟩, ⟨p1, r1⟩, ⟨p2, r2⟩, ⟨p3, r3⟩, ⟨p4, r4⟩, B3⟩ := Phr.blk5 B2 (.int .i64 0) (.int .i64 0) (.string ⟨#[]⟩) (.string ⟨#[]⟩) (.string ⟨#[]⟩); have GG := Phr.put5_gb w2 w.heap.size (.int .i64 0) (.int .i64 0) (.string ⟨#[]⟩) (.string ⟨#[]⟩) (.string ⟨#[]⟩); unfold Phr.put5 at GG B3; generalize hv1 : w2.setCell ⟨w.heap.size, 0, none⟩ (.int .i64 0) = v1 at *; generalize hv2 : v1.setCell ⟨w.heap.size, 1, none⟩ (.int .i64 0) = v2 at *; generalize hv3 : v2.setCell ⟨w.heap.size, 2, none⟩ (.string ⟨#[]⟩) = v3 at *; generalize hv4 : v3.setCell ⟨w.heap.size, 3, none⟩ (.string ⟨#[]⟩) = v4 at *; generalize hv5 : v4.setCell ⟨w.heap.size, 4, none⟩ (.string ⟨#[]⟩) = v5 at *; have BB := Lib.hid B3; clear B3 B2) | (have o3 : ((c, 2) : Ans) = F := o2; obtain ⟨⟨p0, r0⟩, ⟨p1, r1⟩, ⟨p2, r2⟩, ⟨p3, r3⟩, ⟨p4, r4⟩, B3⟩ := Phr.blk5 B2 (.int .i64 c.reg) (.int .i64 c.count) (.string (bs c.op)) (.string (bs c.key)) (.string (bs c.arg)); have GG := Phr.put5_gb w2 w.heap.size (.int .i64 c.reg) (.int .i64 c.count) (.string (bs c.op)) (.string (bs c.key)) (.string (bs c.arg)); unfold Phr.put5 at GG B3; generalize hv1 : w2.setCell ⟨w.heap.size, 0, none⟩ (.int .i64 c.reg) = v1 at *; generalize hv2 : v1.setCell ⟨w.heap.size, 1, none⟩ (.int .i64 c.count) = v2 at *; generalize hv3 : v2.setCell ⟨w.heap.size, 2, none⟩ (.string (bs c.op)) = v3 at *; generalize hv4 : v3.setCell ⟨w.heap.size, 3, none⟩ (.string (bs c.key)) = v4 at *; generalize hv5 : v4.setCell ⟨w.heap.size, 4, none⟩ (.string (bs c.arg)) = v5 at *; have BB := Lib.hid B3; clear B3 B2))))))))
  all_goals (refine ret_five1 rfl rfl BB.out rfl Try.underlying24 (by kernel_rfl) ?_; exact ⟨by rw [← o3]; rfl, W2.grown GG W2.size (fun j e => by injection e with e; omega)⟩)
theorem phr_Parse (s : ByteArray) (visual : Bool) (hs : s.size ≤ 1000000000000) (w : World) :
    Calls Try.prog 5 #[.string s, .bool visual] w fun e w' => e = .returned (Phr.ansV (Phr.ans visual s.data.toList)) ∧ Below w.heap.size w w' := by
  unfold Phr.ans
  by_cases he : Key.err s.data.toList = 0
  · rw [if_pos he]; exact phr_Parse_ok s visual hs he w
  · rw [if_neg he]; exact phr_Parse_bad s visual hs he w
end Go.Proofs.Ytchpkeelnfmlbaa
/-
  '==' of commands; a command in a box of its own; the document's examples.
-/
namespace Go.Proofs.Ytchpkeelnfmlbaa
open Go.RowKit
open Phr (Cmd Ans)
theorem same_cmd (c d : Cmd) (w : World) : (Op.equalIn 10000 24 (.agg #[.int .i64 c.reg, .int .i64 c.count, .string (bs c.op), .string (bs c.key), .string (bs c.arg)]) (.agg #[.int .i64 d.reg, .int .i64 d.count, .string (bs d.op), .string (bs d.key), .string (bs d.arg)])).run Try.prog w = .ok (decide (c = d)) w := by
  rw [run_equalIn_struct w 9999 _ _ _ (by kernel_rfl) (by kernel_rfl)]
  have hi : ∀ (cs : Array Value) (j : Nat) (v : Value), cs[j]? = some v → ∀ w, (part 3 cs j).run Try.prog w = .ok v w := fun cs j v h w => by
    have ha : ∀ w, (isAgg 3).run Try.prog w = .ok false w := fun _ => by kernel_rfl
    simp [part, ha, h]
  have hs : ∀ (cs : Array Value) (j : Nat) (v : Value), cs[j]? = some v → ∀ w, (part 9 cs j).run Try.prog w = .ok v w := fun cs j v h w => by
    have ha : ∀ w, (isAgg 9).run Try.prog w = .ok false w := fun _ => by kernel_rfl
    simp [part, ha, h]
  have ei : ∀ (x y : Int) w, (Op.equalIn 9999 3 (.int .i64 x) (.int .i64 y)).run Try.prog w = .ok (x == y) w := fun x y w => run_equalIn_int w 9998 _ .i64 .i64 x y Try.underlying3
  have es : ∀ (x y : ByteArray) w, (Op.equalIn 9999 9 (.string x) (.string y)).run Try.prog w = .ok (x.toList == y.toList) w := fun x y w => run_equalIn_string w 9998 _ x y Try.underlying9
  have p0 : ∀ (a b : Int) (x y z : ByteArray) w, (part 3 #[.int .i64 a, .int .i64 b, .string x, .string y, .string z] 0).run Try.prog w = .ok (.int .i64 a) w := fun a b x y z => hi _ _ _ rfl
  have p1 : ∀ (a b : Int) (x y z : ByteArray) w, (part 3 #[.int .i64 a, .int .i64 b, .string x, .string y, .string z] 1).run Try.prog w = .ok (.int .i64 b) w := fun a b x y z => hi _ _ _ rfl
  have p2 : ∀ (a b : Int) (x y z : ByteArray) w, (part 9 #[.int .i64 a, .int .i64 b, .string x, .string y, .string z] 2).run Try.prog w = .ok (.string x) w := fun a b x y z => hs _ _ _ rfl
  have p3 : ∀ (a b : Int) (x y z : ByteArray) w, (part 9 #[.int .i64 a, .int .i64 b, .string x, .string y, .string z] 3).run Try.prog w = .ok (.string y) w := fun a b x y z => hs _ _ _ rfl
  have p4 : ∀ (a b : Int) (x y z : ByteArray) w, (part 9 #[.int .i64 a, .int .i64 b, .string x, .string y, .string z] 4).run Try.prog w = .ok (.string z) w := fun a b x y z => hs _ _ _ rfl
  have hd : decide (c = d) = (c.reg == d.reg && (c.count == d.count && ((bs c.op).toList == (bs d.op).toList && ((bs c.key).toList == (bs d.key).toList && (bs c.arg).toList == (bs d.arg).toList)))) := by
    simp only [bs_tl]
    rw [Bool.eq_iff_iff]
    obtain ⟨a, b, x, y, z⟩ := c
    obtain ⟨a', b', x', y', z'⟩ := d
    simp
  rw [hd]
  simp only [Op.eqFields, Program.fieldsOf, Try.underlying24, p0, p1, p2, p3, p4, ei, es, Sem.run_bind, Sem.run_ite, Sem.run_pure, Result.andThen_ok]
  cases (c.reg == d.reg) <;> cases (c.count == d.count) <;> cases ((bs c.op).toList == (bs d.op).toList) <;> cases ((bs c.key).toList == (bs d.key).toList) <;> cases ((bs c.arg).toList == (bs d.arg).toList) <;> simp
theorem eql_cmd (c d : Cmd) (w : World) : (binOp .eql 24 (.agg #[.int .i64 c.reg, .int .i64 c.count, .string (bs c.op), .string (bs c.key), .string (bs c.arg)]) (.agg #[.int .i64 d.reg, .int .i64 d.count, .string (bs d.op), .string (bs d.key), .string (bs d.arg)])).run Try.prog w = .ok (.bool (decide (c = d))) w := by
  rw [run_eql_struct, same_cmd]; rfl
theorem neq_cmd (c d : Cmd) (w : World) : (binOp .neq 24 (.agg #[.int .i64 c.reg, .int .i64 c.count, .string (bs c.op), .string (bs c.key), .string (bs c.arg)]) (.agg #[.int .i64 d.reg, .int .i64 d.count, .string (bs d.op), .string (bs d.key), .string (bs d.arg)])).run Try.prog w = .ok (.bool !(decide (c = d))) w := by
  rw [run_neq_struct, same_cmd]; rfl
/-- A command in a box of its own. -/
theorem Phr.box5 {W u0 : World} (c : Cmd) (hu : W.alloc (.cells #[.int .i64 0, .int .i64 0, .string ⟨#[]⟩, .string ⟨#[]⟩, .string ⟨#[]⟩] 24) = u0) :
    (u0.cell? ⟨W.heap.size, 0, none⟩ = some (.int .i64 0) ∧ u0.frozen? ⟨W.heap.size, 0, none⟩ = false) ∧
    ((u0.setCell ⟨W.heap.size, 0, none⟩ (.int .i64 c.reg)).cell? ⟨W.heap.size, 1, none⟩ = some (.int .i64 0) ∧ (u0.setCell ⟨W.heap.size, 0, none⟩ (.int .i64 c.reg)).frozen? ⟨W.heap.size, 1, none⟩ = false) ∧
    (((u0.setCell ⟨W.heap.size, 0, none⟩ (.int .i64 c.reg)).setCell ⟨W.heap.size, 1, none⟩ (.int .i64 c.count)).cell? ⟨W.heap.size, 2, none⟩ = some (.string ⟨#[]⟩) ∧ ((u0.setCell ⟨W.heap.size, 0, none⟩ (.int .i64 c.reg)).setCell ⟨W.heap.size, 1, none⟩ (.int .i64 c.count)).frozen? ⟨W.heap.size, 2, none⟩ = false) ∧
    ((((u0.setCell ⟨W.heap.size, 0, none⟩ (.int .i64 c.reg)).setCell ⟨W.heap.size, 1, none⟩ (.int .i64 c.count)).setCell ⟨W.heap.size, 2, none⟩ (.string (bs c.op))).cell? ⟨W.heap.size, 3, none⟩ = some (.string ⟨#[]⟩) ∧ (((u0.setCell ⟨W.heap.size, 0, none⟩ (.int .i64 c.reg)).setCell ⟨W.heap.size, 1, none⟩ (.int .i64 c.count)).setCell ⟨W.heap.size, 2, none⟩ (.string (bs c.op))).frozen? ⟨W.heap.size, 3, none⟩ = false) ∧
    (((((u0.setCell ⟨W.heap.size, 0, none⟩ (.int .i64 c.reg)).setCell ⟨W.heap.size, 1, none⟩ (.int .i64 c.count)).setCell ⟨W.heap.size, 2, none⟩ (.string (bs c.op))).setCell ⟨W.heap.size, 3, none⟩ (.string (bs c.key))).cell? ⟨W.heap.size, 4, none⟩ = some (.string ⟨#[]⟩) ∧ ((((u0.setCell ⟨W.heap.size, 0, none⟩ (.int .i64 c.reg)).setCell ⟨W.heap.size, 1, none⟩ (.int .i64 c.count)).setCell ⟨W.heap.size, 2, none⟩ (.string (bs c.op))).setCell ⟨W.heap.size, 3, none⟩ (.string (bs c.key))).frozen? ⟨W.heap.size, 4, none⟩ = false) ∧
    Blk (((((u0.setCell ⟨W.heap.size, 0, none⟩ (.int .i64 c.reg)).setCell ⟨W.heap.size, 1, none⟩ (.int .i64 c.count)).setCell ⟨W.heap.size, 2, none⟩ (.string (bs c.op))).setCell ⟨W.heap.size, 3, none⟩ (.string (bs c.key))).setCell ⟨W.heap.size, 4, none⟩ (.string (bs c.arg))) W.heap.size 24 #[.int .i64 c.reg, .int .i64 c.count, .string (bs c.op), .string (bs c.key), .string (bs c.arg)] ∧ Below W.heap.size W (((((u0.setCell ⟨W.heap.size, 0, none⟩ (.int .i64 c.reg)).setCell ⟨W.heap.size, 1, none⟩ (.int .i64 c.count)).setCell ⟨W.heap.size, 2, none⟩ (.string (bs c.op))).setCell ⟨W.heap.size, 3, none⟩ (.string (bs c.key))).setCell ⟨W.heap.size, 4, none⟩ (.string (bs c.arg))) := by
  subst hu
  have b0 := Blk.new W 24 #[.int .i64 0, .int .i64 0, .string ⟨#[]⟩, .string ⟨#[]⟩, .string ⟨#[]⟩]
  have b1 := b0.set_ 0 (.int .i64 c.reg)
  have b2 := b1.set_ 1 (.int .i64 c.count)
  have b3 := b2.set_ 2 (.string (bs c.op))
  have b4 := b3.set_ 3 (.string (bs c.key))
  have b5 := b4.set_ 4 (.string (bs c.arg))
  exact ⟨⟨b0.cell 0, b0.frozen 0⟩, ⟨b1.cell 1, b1.frozen 1⟩, ⟨b2.cell 2, b2.frozen 2⟩, ⟨b3.cell 3, b3.frozen 3⟩, ⟨b4.cell 4, b4.frozen 4⟩, b5, ((((((Below.refl _ W).alloc (Nat.le_refl _) _).setCell (p := ⟨W.heap.size, 0, none⟩) (Nat.le_refl _) _).setCell (p := ⟨W.heap.size, 1, none⟩) (Nat.le_refl _) _).setCell (p := ⟨W.heap.size, 2, none⟩) (Nat.le_refl _) _).setCell (p := ⟨W.heap.size, 3, none⟩) (Nat.le_refl _) _).setCell (p := ⟨W.heap.size, 4, none⟩) (Nat.le_refl _) _⟩
theorem phr_ans {s : ByteArray} {visual : Bool} {c : Cmd} {n : Int} (hs : s.size ≤ 1000000000000) (h : Phr.ans visual s.data.toList = (c, n)) (w : World) :
    Calls Try.prog 5 #[.string s, .bool visual] w fun e w' => e = .returned (.tuple #[.agg #[.int .i64 c.reg, .int .i64 c.count, .string (bs c.op), .string (bs c.key), .string (bs c.arg)], .int .i64 n]) ∧ Below w.heap.size w w' := by
  have := phr_Parse s visual hs w
  rw [h] at this
  exact this
namespace Phr
def ex1 : Cmd := ⟨0, 6, [100], [119], []⟩
def ex2 : Cmd := ⟨97, 0, [121], line, []⟩
theorem ans_ex1 : ans false [50, 100, 51, 119] = (ex1, 2) := by
  have h : Utf.dec [50, 100, 51, 119] = some [[50], [100], [51], [119]] := Utf.dec_of (rs := [[50], [100], [51], [119]]) (by decide)
  rw [ans_ok h (by decide)]
  rfl
theorem ans_ex2 : ans false [34, 97, 121, 121] = (ex2, 2) := by
  have h : Utf.dec [34, 97, 121, 121] = some [[34], [97], [121], [121]] := Utf.dec_of (rs := [[34], [97], [121], [121]]) (by decide)
  rw [ans_ok h (by decide)]
  rfl
end Phr
set_option maxHeartbeats 1000000 in
set_option maxRecDepth 100000 in
theorem phr_lives (w : World) : Calls Try.prog 4 #[] w fun e w' => e = .returned (.bool true) ∧ Below w.heap.size w w' := by
  have P1 := Lib.hid (fun w => phr_ans (s := ⟨#[50, 100, 51, 119]⟩) (visual := false) (by decide) Phr.ans_ex1 w)
  have P2 := Lib.hid (fun w => phr_ans (s := ⟨#[34, 97, 121, 121]⟩) (visual := false) (by decide) Phr.ans_ex2 w)
  have E1 : ∀ w, (binOp .eql 24 (.agg #[.int .i64 Phr.ex1.reg, .int .i64 Phr.ex1.count, .string (bs Phr.ex1.op), .string (bs Phr.ex1.key), .string (bs Phr.ex1.arg)]) (.agg #[.int .i64 0, .int .i64 6, .string ⟨#[100]⟩, .string ⟨#[119]⟩, .string ⟨#[]⟩])).run Try.prog w = .ok (.bool true) w := fun w => eql_cmd Phr.ex1 Phr.ex1 w
  have E2 : ∀ w, (binOp .eql 24 (.agg #[.int .i64 Phr.ex2.reg, .int .i64 Phr.ex2.count, .string (bs Phr.ex2.op), .string (bs Phr.ex2.key), .string (bs Phr.ex2.arg)]) (.agg #[.int .i64 97, .int .i64 0, .string ⟨#[121]⟩, .string ⟨#[108, 105, 110, 101]⟩, .string ⟨#[]⟩])).run Try.prog w = .ok (.bool true) w := fun w => eql_cmd Phr.ex2 Phr.ex2 w
  generalize Phr.ex1 = c at *
  generalize Phr.ex2 = d at *
  go_enter Try.func4, Try.ntmps4
  go_wp2_with (first
    | (go_at_call 5; refine (P1.out _).mono ?_; rintro e w1 ⟨rfl, hb1⟩; clear P1; generalize hu : w1.alloc (.cells #[.int .i64 0, .int .i64 0, .string ⟨#[]⟩, .string ⟨#[]⟩, .string ⟨#[]⟩] 24) = u0 at *; obtain ⟨⟨ux0, uy0⟩, ⟨ux1, uy1⟩, ⟨ux2, uy2⟩, ⟨ux3, uy3⟩, ⟨ux4, uy4⟩, uB, uW⟩ := Phr.box5 c hu; generalize hu1 : u0.setCell ⟨w1.heap.size, 0, none⟩ (.int .i64 c.reg) = u1 at *; generalize hu2 : u1.setCell ⟨w1.heap.size, 1, none⟩ (.int .i64 c.count) = u2 at *; generalize hu3 : u2.setCell ⟨w1.heap.size, 2, none⟩ (.string (bs c.op)) = u3 at *; generalize hu4 : u3.setCell ⟨w1.heap.size, 3, none⟩ (.string (bs c.key)) = u4 at *; generalize hu5 : u4.setCell ⟨w1.heap.size, 4, none⟩ (.string (bs c.arg)) = u5 at *)
    | (go_at_call 5; refine (P2.out _).mono ?_; rintro e w2 ⟨rfl, hb2⟩; clear P2; generalize hv : w2.alloc (.cells #[.int .i64 0, .int .i64 0, .string ⟨#[]⟩, .string ⟨#[]⟩, .string ⟨#[]⟩] 24) = v0 at *; obtain ⟨⟨vx0, vy0⟩, ⟨vx1, vy1⟩, ⟨vx2, vy2⟩, ⟨vx3, vy3⟩, ⟨vx4, vy4⟩, vB, vW⟩ := Phr.box5 d hv; generalize hv1 : v0.setCell ⟨w2.heap.size, 0, none⟩ (.int .i64 d.reg) = v1 at *; generalize hv2 : v1.setCell ⟨w2.heap.size, 1, none⟩ (.int .i64 d.count) = v2 at *; generalize hv3 : v2.setCell ⟨w2.heap.size, 2, none⟩ (.string (bs d.op)) = v3 at *; generalize hv4 : v3.setCell ⟨w2.heap.size, 3, none⟩ (.string (bs d.key)) = v4 at *; generalize hv5 : v4.setCell ⟨w2.heap.size, 4, none⟩ (.string (bs d.arg)) = v5 at *; have UB := (uB.below hb2 uB.lt).below vW (Nat.lt_of_lt_of_le uB.lt hb2.size); have i0 := UB.cell 0; have i1 := UB.cell 1; have i2 := UB.cell 2; have i3 := UB.cell 3; have i4 := UB.cell 4; have j0 := vB.cell 0; have j1 := vB.cell 1; have j2 := vB.cell 2; have j3 := vB.cell 3; have j4 := vB.cell 4; have WW := ((hb1.trans (uW.mono hb1.size)).trans (hb2.mono (Nat.le_trans hb1.size uW.size))).trans (vW.mono (Nat.le_trans (Nat.le_trans hb1.size uW.size) hb2.size)); simp at i0 i1 i2 i3 i4 j0 j1 j2 j3 j4; clear UB vB uB))
  go_ret
  exact ⟨rfl, WW⟩
end Go.Proofs.Ytchpkeelnfmlbaa
