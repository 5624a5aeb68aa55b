/-
  The document's commands: what an operator works on.
-/
import Derived.Test.YtchpkeelnfmlbaaGreatJM
import Derived.Test.YtchpkeelnfmlbaaGreatJP
namespace Go.Proofs.YtchpkeelnfmlbaaGreat
open Go.RowKit
open Phr (Cmd Ans Ls RefIs)
namespace Phr
theorem Ls.slice {u : World} {ad : Addr} {n i : Nat} {ks : List (List UInt8)} (h : Ls u (some ad) n ks) {AA : Option Addr} (hA : (if n = i then (some ad : Option Addr) else some (ad.add i)) = AA) : Ls u AA (n - i) (ks.drop i) := by
  subst hA
  by_cases hn : n = i
  · subst hn; rw [if_pos rfl, Nat.sub_self]; exact h.drop_all
  · rw [if_neg hn]
    by_cases hi : i = 0
    · subst hi; exact h
    · have e : ad.add i = ⟨ad.block, ad.off + i, none⟩ := by unfold Addr.add; rw [if_neg hi]
      rw [e]; exact h.drop i (by omega)
/-- What is none is wrong. -/
def fin (x : Ans) : Ans := if x.2 = 0 then bad else x
theorem fin_zero {c : Cmd} : fin (c, 0) = bad := rfl
theorem fin_goes {c : Cmd} {m : Nat} {l : List (List UInt8)} : fin (goes c m l) = goes c m l := by
  unfold fin
  rw [if_neg]
  unfold goes last behind
  split
  · split <;> simp [bad]
  · split
    · simp [more]
    · split <;> simp [bad]
    · simp [bad]
/-- The document's motion behind an operator, by words. -/
theorem work_motion {r n : Int} {op k : List UInt8} {t l : List (List UInt8)} (hop : op ∈ opers) (hk : (number l).2 = k :: t) (h1 : k ≠ tail op) (h2 : k ≠ [103] ∨ t ≠ []) (ho : Utf.one k = true) (hot : ∀ x ∈ t, Utf.one x = true) :
    fin (rmot ⟨r, count n (number l).1, op, [], []⟩ true k t) = work ⟨r, n, [], [], []⟩ op l := by
  unfold work
  rw [hk]
  generalize (number l).1 = v
  unfold rmot
  by_cases h0 : k = [105] ∨ k = [97]
  · rw [if_pos ⟨rfl, h0⟩]
    have hg : k ≠ [103] := by rintro rfl; rcases h0 with h | h <;> cases h
    have hm : mot k = none := by rcases h0 with rfl | rfl <;> rfl
    simp only [word, if_neg hg, on, hm, if_pos h0, does]
    exact fin_goes (m := 1)
  rw [if_neg (fun e => h0 e.2)]
  by_cases hf : k ∈ finds
  · rw [if_pos hf]
    have hg : k ≠ [103] := by rintro rfl; exact absurd hf (by decide)
    have hm : mot k = some 2 := by rw [mot, if_pos hf]
    simp only [word, if_neg hg, on, hm, does]
    exact fin_goes (m := 2)
  rw [if_neg hf]
  by_cases hma : k ∈ marks
  · rw [if_pos hma]
    have hg : k ≠ [103] := by rintro rfl; exact absurd hma (by decide)
    have hm : mot k = some 3 := by rw [mot, if_neg hf, if_pos hma]
    simp only [word, if_neg hg, on, hm, does]
    exact fin_goes (m := 3)
  rw [if_neg hma]
  by_cases hg : k = [103]
  · subst hg
    cases t with
    | nil => rcases h2 with h | h <;> exact absurd rfl h
    | cons x u =>
      by_cases hx : x = [103]
      · subst hx
        rw [if_pos ⟨rfl, rfl⟩]
        simp only [word, if_true, on, show mot [103, 103] = some 0 from rfl, does]
        exact fin_goes (m := 0)
      · rw [if_neg (by simp [hx]), if_neg (by simp)]
        have hox := hot x (by simp)
        have hx2 : (103 : UInt8) :: x ≠ [103, 103] := fun e => hx (by injection e)
        have hxn : x ≠ [] := Utf.one_ne hox
        have hm : mot (103 :: x) = none := by
          rw [mot, if_neg, if_neg, if_neg]
          · simp [bare, hx]
          · simp [marks]
          · simp [finds]
        have ht : (103 : UInt8) :: x ≠ tail op := by
          intro e
          simp only [opers, List.mem_cons, List.not_mem_nil, or_false] at hop
          rcases hop with rfl | rfl | rfl | rfl | rfl | rfl | rfl | rfl <;> simp [tail] at e
        simp only [word, if_true, on, hm, if_neg ht, does]
        rw [if_neg (by simp)]
        rfl
  · rw [if_neg (fun e => hg e.1)]
    simp only [word, if_neg hg, on]
    cases hm : mot k with
    | some m =>
      have hm0 : m = 0 := by
        rw [mot, if_neg hf, if_neg hma] at hm
        split at hm
        · injection hm with hm; exact hm.symm
        · cases hm
      subst hm0
      rw [if_pos ⟨hg, rfl⟩]
      exact fin_goes (m := 0)
    | none =>
      rw [if_neg (by simp)]
      simp only [if_neg h0, if_neg h1, does]
      rfl
end Phr
/-- A command of the document's in a box of its own. -/
theorem Phr.rbox {W u0 : World} (c : Cmd) (hu : W.alloc (.cells #[.int .i64 0, .int .i64 0, .string ⟨#[]⟩, .string ⟨#[]⟩, .string ⟨#[]⟩] 27) = u0) :
    (u0.cell? ⟨W.heap.size, 0, none⟩ = some (.int .i64 0) ∧ u0.frozen? ⟨W.heap.size, 0, none⟩ = false) ∧
    ((u0.setCell ⟨W.heap.size, 0, none⟩ (.int .i64 c.reg)).cell? ⟨W.heap.size, 1, none⟩ = some (.int .i64 0) ∧ (u0.setCell ⟨W.heap.size, 0, none⟩ (.int .i64 c.reg)).frozen? ⟨W.heap.size, 1, none⟩ = false) ∧
    (((u0.setCell ⟨W.heap.size, 0, none⟩ (.int .i64 c.reg)).setCell ⟨W.heap.size, 1, none⟩ (.int .i64 c.count)).cell? ⟨W.heap.size, 2, none⟩ = some (.string ⟨#[]⟩) ∧ ((u0.setCell ⟨W.heap.size, 0, none⟩ (.int .i64 c.reg)).setCell ⟨W.heap.size, 1, none⟩ (.int .i64 c.count)).frozen? ⟨W.heap.size, 2, none⟩ = false) ∧
    ((((u0.setCell ⟨W.heap.size, 0, none⟩ (.int .i64 c.reg)).setCell ⟨W.heap.size, 1, none⟩ (.int .i64 c.count)).setCell ⟨W.heap.size, 2, none⟩ (.string (bs c.op))).cell? ⟨W.heap.size, 3, none⟩ = some (.string ⟨#[]⟩) ∧ (((u0.setCell ⟨W.heap.size, 0, none⟩ (.int .i64 c.reg)).setCell ⟨W.heap.size, 1, none⟩ (.int .i64 c.count)).setCell ⟨W.heap.size, 2, none⟩ (.string (bs c.op))).frozen? ⟨W.heap.size, 3, none⟩ = false) ∧
    (((((u0.setCell ⟨W.heap.size, 0, none⟩ (.int .i64 c.reg)).setCell ⟨W.heap.size, 1, none⟩ (.int .i64 c.count)).setCell ⟨W.heap.size, 2, none⟩ (.string (bs c.op))).setCell ⟨W.heap.size, 3, none⟩ (.string (bs c.key))).cell? ⟨W.heap.size, 4, none⟩ = some (.string ⟨#[]⟩) ∧ ((((u0.setCell ⟨W.heap.size, 0, none⟩ (.int .i64 c.reg)).setCell ⟨W.heap.size, 1, none⟩ (.int .i64 c.count)).setCell ⟨W.heap.size, 2, none⟩ (.string (bs c.op))).setCell ⟨W.heap.size, 3, none⟩ (.string (bs c.key))).frozen? ⟨W.heap.size, 4, none⟩ = false) ∧
    Blk (((((u0.setCell ⟨W.heap.size, 0, none⟩ (.int .i64 c.reg)).setCell ⟨W.heap.size, 1, none⟩ (.int .i64 c.count)).setCell ⟨W.heap.size, 2, none⟩ (.string (bs c.op))).setCell ⟨W.heap.size, 3, none⟩ (.string (bs c.key))).setCell ⟨W.heap.size, 4, none⟩ (.string (bs c.arg))) W.heap.size 27 #[.int .i64 c.reg, .int .i64 c.count, .string (bs c.op), .string (bs c.key), .string (bs c.arg)] ∧ Below W.heap.size W (((((u0.setCell ⟨W.heap.size, 0, none⟩ (.int .i64 c.reg)).setCell ⟨W.heap.size, 1, none⟩ (.int .i64 c.count)).setCell ⟨W.heap.size, 2, none⟩ (.string (bs c.op))).setCell ⟨W.heap.size, 3, none⟩ (.string (bs c.key))).setCell ⟨W.heap.size, 4, none⟩ (.string (bs c.arg))) := by
  subst hu
  have b0 := Blk.new W 27 #[.int .i64 0, .int .i64 0, .string ⟨#[]⟩, .string ⟨#[]⟩, .string ⟨#[]⟩]
  have b1 := b0.set_ 0 (.int .i64 c.reg)
  have b2 := b1.set_ 1 (.int .i64 c.count)
  have b3 := b2.set_ 2 (.string (bs c.op))
  have b4 := b3.set_ 3 (.string (bs c.key))
  have b5 := b4.set_ 4 (.string (bs c.arg))
  exact ⟨⟨b0.cell 0, b0.frozen 0⟩, ⟨b1.cell 1, b1.frozen 1⟩, ⟨b2.cell 2, b2.frozen 2⟩, ⟨b3.cell 3, b3.frozen 3⟩, ⟨b4.cell 4, b4.frozen 4⟩, b5, ((((((Below.refl _ W).alloc (Nat.le_refl _) _).setCell (p := ⟨W.heap.size, 0, none⟩) (Nat.le_refl _) _).setCell (p := ⟨W.heap.size, 1, none⟩) (Nat.le_refl _) _).setCell (p := ⟨W.heap.size, 2, none⟩) (Nat.le_refl _) _).setCell (p := ⟨W.heap.size, 3, none⟩) (Nat.le_refl _) _).setCell (p := ⟨W.heap.size, 4, none⟩) (Nat.le_refl _) _⟩
set_option maxHeartbeats 1000000 in
set_option maxRecDepth 100000 in
theorem ref26_work_nil {A : Option Addr} {n : Nat} {r m : Int} {op : List UInt8} {w : World} (h : Ls w A n [])  :
    Calls Tryz.prog 32 #[.agg #[.int .i64 r, .int .i64 m, .string (bs op), .string (bs []), .string (bs [])], .slice A 0 n] w (RefIs (Phr.work ⟨r, m, [], [], []⟩ op []) w) := by
  have HF : (Phr.more : Ans) = Phr.work ⟨r, m, [], [], []⟩ op [] := rfl
  rw [← HF]
  clear HF
  have NU : Hid (∀ u, Below w.heap.size w u → Calls Tryz.prog 10 #[.slice A 0 n] u fun e w' => e = .returned (.tuple #[.int .i64 (Phr.number []).1, .int .i64 (Phr.took [] : Nat)]) ∧ u = w') := Lib.hid (fun u hu => ref26_number (h.below hu) (by decide))
  have CN := Lib.hid (fun (w : World) => ref26_Count m (Phr.number []).1 w)
  have ht : Phr.took [] = 0 := rfl
  rw [ht] at NU
  obtain ⟨v, hv⟩ : ∃ v, (Phr.number []).1 = v := ⟨_, rfl⟩
  rw [hv] at NU CN
  clear hv
  obtain ⟨cm, hcm⟩ : ∃ cm, Phr.count m v = cm := ⟨_, rfl⟩
  rw [hcm] at CN
  clear hcm
  obtain ⟨W0, hW0⟩ : ∃ W0, (w.alloc (.cells #[.int .i64 r, .int .i64 m, .string (bs op), .string (bs []), .string (bs [])] 27)).alloc (.cells #[.int .i64 0, .int .i64 0, .string ⟨#[]⟩, .string ⟨#[]⟩, .string ⟨#[]⟩] 27) = W0 := ⟨_, rfl⟩
  obtain ⟨BP, BR, WB, SZ⟩ := Phr.start (⟨r, m, op, [], []⟩ : Cmd) hW0
  simp only at BP
  have NU0 := Lib.hid (NU.out W0 WB)
  have pc1 := BP.cell 1
  have f1 := BP.frozen 1
  have BP1 := BP.set_ 1 (.int .i64 cm)
  have BR1 := BR.far (p := ⟨w.heap.size, 1, none⟩) (by show w.heap.size + 1 ≠ w.heap.size; omega) (.int .i64 cm)
  have WB1 := WB.setCell (p := ⟨w.heap.size, 1, none⟩) (Nat.le_refl _) (.int .i64 cm)
  generalize hs1 : W0.setCell ⟨w.heap.size, 1, none⟩ (.int .i64 cm) = W1 at *
  simp at pc1
  obtain ⟨⟨vp0, vr0⟩, ⟨vp1, vr1⟩, ⟨vp2, vr2⟩, ⟨vp3, vr3⟩, ⟨vp4, vr4⟩, vB⟩ := Phr.blk5 BR1 (.int .i64 0) (.int .i64 0) (.string ⟨#[]⟩) (.string ⟨#[]⟩) (.string ⟨#[]⟩)
  have GG := Phr.put5_gb W1 (w.heap.size + 1) (.int .i64 0) (.int .i64 0) (.string ⟨#[]⟩) (.string ⟨#[]⟩) (.string ⟨#[]⟩)
  unfold Phr.put5 at GG vB
  generalize hv1 : W1.setCell ⟨w.heap.size + 1, 0, none⟩ (.int .i64 0) = v1 at *
  generalize hv2 : v1.setCell ⟨w.heap.size + 1, 1, none⟩ (.int .i64 0) = v2 at *
  generalize hv3 : v2.setCell ⟨w.heap.size + 1, 2, none⟩ (.string ⟨#[]⟩) = v3 at *
  generalize hv4 : v3.setCell ⟨w.heap.size + 1, 3, none⟩ (.string ⟨#[]⟩) = v4 at *
  generalize hv5 : v4.setCell ⟨w.heap.size + 1, 4, none⟩ (.string ⟨#[]⟩) = v5 at *
  have BB := Lib.hid vB
  have W5 := WB1.grown GG WB1.size (fun j e => by injection e with e; omega)
  clear h NU BP BR WB BP1 BR1 WB1
  go_enter Tryz.func32, Tryz.ntmps32
  go_wp2_with (first
    | (go_at_call 10; (with_reducible refine NU0.out.mono ?_); rintro e w1 ⟨rfl, rfl⟩)
    | (go_at_call 13; (with_reducible refine (CN.out _).mono ?_); rintro e w1 ⟨rfl, rfl⟩))
  all_goals
    refine ret_five1 rfl rfl BB.out rfl Tryz.underlying27 (by kernel_rfl) ?_
    exact ⟨rfl, W5⟩
set_option maxHeartbeats 1000000 in
set_option maxRecDepth 100000 in
theorem ref26_work_end {A : Option Addr} {n : Nat} {r m : Int} {op : List UInt8} {l : List (List UInt8)} {w : World} (h : Ls w A n l) (hm : l.length ≤ 1000) (hl : l ≠ []) (hd : (Phr.number l).2 = []) :
    Calls Tryz.prog 32 #[.agg #[.int .i64 r, .int .i64 m, .string (bs op), .string (bs []), .string (bs [])], .slice A l.length n] w (RefIs (Phr.work ⟨r, m, [], [], []⟩ op l) w) := by
  have HF : (Phr.more : Ans) = Phr.work ⟨r, m, [], [], []⟩ op l := by rw [Phr.work, hd]; rfl
  rw [← HF]
  clear HF
  have NU : Hid (∀ u, Below w.heap.size w u → Calls Tryz.prog 10 #[.slice A l.length n] u fun e w' => e = .returned (.tuple #[.int .i64 (Phr.number l).1, .int .i64 (Phr.took l : Nat)]) ∧ u = w') := Lib.hid (fun u hu => ref26_number (h.below hu) hm)
  have CN := Lib.hid (fun (w : World) => ref26_Count m (Phr.number l).1 w)
  have hl0 : l ≠ [] := hl
  obtain ⟨ad, rfl⟩ : ∃ ad, A = some ad := by cases l with
    | nil => exact absurd rfl hl0
    | cons a b => exact h.addr
  have hdr := Phr.took_drop l
  have htl := Phr.took_le l
  have hli : (Phr.took l : Int) ≤ l.length := by omega
  have hz : l.length - Phr.took l = (Phr.number l).2.length := by rw [← hdr, List.length_drop]
  obtain ⟨AA, hAA⟩ : ∃ AA, (if n = Phr.took l then (some ad : Option Addr) else some (ad.add (Phr.took l))) = AA := ⟨_, rfl⟩
  have LL : Hid (∀ u, Below w.heap.size w u → Ls u AA (n - Phr.took l) (Phr.number l).2) := Lib.hid (fun u hu => by rw [← hdr]; exact (h.below hu).slice hAA)
  rw [hd] at hz LL
  clear hd hdr hl0 hl
  generalize Phr.took l = i at *
  obtain ⟨v, hv⟩ : ∃ v, (Phr.number l).1 = v := ⟨_, rfl⟩
  rw [hv] at NU CN
  clear hv
  obtain ⟨cm, hcm⟩ : ∃ cm, Phr.count m v = cm := ⟨_, rfl⟩
  rw [hcm] at CN
  clear hcm
  obtain ⟨W0, hW0⟩ : ∃ W0, (w.alloc (.cells #[.int .i64 r, .int .i64 m, .string (bs op), .string (bs []), .string (bs [])] 27)).alloc (.cells #[.int .i64 0, .int .i64 0, .string ⟨#[]⟩, .string ⟨#[]⟩, .string ⟨#[]⟩] 27) = W0 := ⟨_, rfl⟩
  obtain ⟨BP, BR, WB, SZ⟩ := Phr.start (⟨r, m, op, [], []⟩ : Cmd) hW0
  simp only at BP
  have NU0 := Lib.hid (NU.out W0 WB)
  have pc1 := BP.cell 1
  have f1 := BP.frozen 1
  have BP1 := BP.set_ 1 (.int .i64 cm)
  have BR1 := BR.far (p := ⟨w.heap.size, 1, none⟩) (by show w.heap.size + 1 ≠ w.heap.size; omega) (.int .i64 cm)
  have WB1 := WB.setCell (p := ⟨w.heap.size, 1, none⟩) (Nat.le_refl _) (.int .i64 cm)
  generalize hs1 : W0.setCell ⟨w.heap.size, 1, none⟩ (.int .i64 cm) = W1 at *
  simp at pc1
  obtain ⟨⟨vp0, vr0⟩, ⟨vp1, vr1⟩, ⟨vp2, vr2⟩, ⟨vp3, vr3⟩, ⟨vp4, vr4⟩, vB⟩ := Phr.blk5 BR1 (.int .i64 0) (.int .i64 0) (.string ⟨#[]⟩) (.string ⟨#[]⟩) (.string ⟨#[]⟩)
  have GG := Phr.put5_gb W1 (w.heap.size + 1) (.int .i64 0) (.int .i64 0) (.string ⟨#[]⟩) (.string ⟨#[]⟩) (.string ⟨#[]⟩)
  unfold Phr.put5 at GG vB
  generalize hv1 : W1.setCell ⟨w.heap.size + 1, 0, none⟩ (.int .i64 0) = v1 at *
  generalize hv2 : v1.setCell ⟨w.heap.size + 1, 1, none⟩ (.int .i64 0) = v2 at *
  generalize hv3 : v2.setCell ⟨w.heap.size + 1, 2, none⟩ (.string ⟨#[]⟩) = v3 at *
  generalize hv4 : v3.setCell ⟨w.heap.size + 1, 3, none⟩ (.string ⟨#[]⟩) = v4 at *
  generalize hv5 : v4.setCell ⟨w.heap.size + 1, 4, none⟩ (.string ⟨#[]⟩) = v5 at *
  have BB := Lib.hid vB
  have W5 := WB1.grown GG WB1.size (fun j e => by injection e with e; omega)
  clear h NU BP BR WB BP1 BR1 WB1 LL
  go_enter Tryz.func32, Tryz.ntmps32
  go_wp2_with (first
    | (go_at_call 10; (with_reducible refine NU0.out.mono ?_); rintro e w1 ⟨rfl, rfl⟩)
    | (go_at_call 13; (with_reducible refine (CN.out _).mono ?_); rintro e w1 ⟨rfl, rfl⟩))
  all_goals
    refine ret_five1 rfl rfl BB.out rfl Tryz.underlying27 (by kernel_rfl) ?_
    exact ⟨rfl, W5⟩
set_option maxHeartbeats 1000000 in
set_option maxRecDepth 100000 in
theorem ref26_work_line {A : Option Addr} {n : Nat} {r m : Int} {op : List UInt8} {l : List (List UInt8)} {w : World} (h : Ls w A n l) (hop : op ∈ Phr.opers) (hm : l.length ≤ 1000) {k : List UInt8} {t : List (List UInt8)} (hd : (Phr.number l).2 = k :: t) (hk : k = Phr.tail op) :
    Calls Tryz.prog 32 #[.agg #[.int .i64 r, .int .i64 m, .string (bs op), .string (bs []), .string (bs [])], .slice A l.length n] w (RefIs (Phr.work ⟨r, m, [], [], []⟩ op l) w) := by
  have HF : (Phr.last ⟨r, (Phr.count m (Phr.number l).1), op, Phr.line, []⟩ t : Ans) = Phr.work ⟨r, m, [], [], []⟩ op l := by
    have ho : Utf.one k = true := by rw [← Phr.took_drop] at hd; exact h.ones k (List.mem_of_mem_drop (by rw [hd]; simp))
    have hg : k ≠ [103] := by
      rw [hk]
      simp only [Phr.opers, List.mem_cons, List.not_mem_nil, or_false] at hop
      rcases hop with rfl | rfl | rfl | rfl | rfl | rfl | rfl | rfl <;> decide
    have hm0 : Phr.mot k = none := by
      rw [hk]
      simp only [Phr.opers, List.mem_cons, List.not_mem_nil, or_false] at hop
      rcases hop with rfl | rfl | rfl | rfl | rfl | rfl | rfl | rfl <;> rfl
    have hia : ¬ (k = [105] ∨ k = [97]) := by
      rw [hk]
      simp only [Phr.opers, List.mem_cons, List.not_mem_nil, or_false] at hop
      rcases hop with rfl | rfl | rfl | rfl | rfl | rfl | rfl | rfl <;> decide
    rw [Phr.work, hd]
    simp only [Phr.word, if_neg hg, Phr.on, hm0, if_neg hia, if_pos hk, Phr.does]
    rfl
  rw [← HF]
  clear HF
  have NU : Hid (∀ u, Below w.heap.size w u → Calls Tryz.prog 10 #[.slice A l.length n] u fun e w' => e = .returned (.tuple #[.int .i64 (Phr.number l).1, .int .i64 (Phr.took l : Nat)]) ∧ u = w') := Lib.hid (fun u hu => ref26_number (h.below hu) hm)
  have CN := Lib.hid (fun (w : World) => ref26_Count m (Phr.number l).1 w)
  have hl0 : l ≠ [] := by rintro rfl; cases hd
  obtain ⟨ad, rfl⟩ : ∃ ad, A = some ad := by cases l with
    | nil => exact absurd rfl hl0
    | cons a b => exact h.addr
  have hdr := Phr.took_drop l
  have htl := Phr.took_le l
  have hli : (Phr.took l : Int) ≤ l.length := by omega
  have hz : l.length - Phr.took l = (Phr.number l).2.length := by rw [← hdr, List.length_drop]
  obtain ⟨AA, hAA⟩ : ∃ AA, (if n = Phr.took l then (some ad : Option Addr) else some (ad.add (Phr.took l))) = AA := ⟨_, rfl⟩
  have LL : Hid (∀ u, Below w.heap.size w u → Ls u AA (n - Phr.took l) (Phr.number l).2) := Lib.hid (fun u hu => by rw [← hdr]; exact (h.below hu).slice hAA)
  rw [hd] at hz LL
  clear hd hdr hl0
  generalize Phr.took l = i at *
  obtain ⟨v, hv⟩ : ∃ v, (Phr.number l).1 = v := ⟨_, rfl⟩
  rw [hv] at NU CN ⊢
  clear hv
  obtain ⟨cm, hcm⟩ : ∃ cm, Phr.count m v = cm := ⟨_, rfl⟩
  rw [hcm] at CN ⊢
  clear hcm
  obtain ⟨W0, hW0⟩ : ∃ W0, (w.alloc (.cells #[.int .i64 r, .int .i64 m, .string (bs op), .string (bs []), .string (bs [])] 27)).alloc (.cells #[.int .i64 0, .int .i64 0, .string ⟨#[]⟩, .string ⟨#[]⟩, .string ⟨#[]⟩] 27) = W0 := ⟨_, rfl⟩
  obtain ⟨BP, BR, WB, SZ⟩ := Phr.start (⟨r, m, op, [], []⟩ : Cmd) hW0
  simp only at BP
  have NU0 := Lib.hid (NU.out W0 WB)
  have pc1 := BP.cell 1
  have f1 := BP.frozen 1
  have BP1 := BP.set_ 1 (.int .i64 cm)
  have BR1 := BR.far (p := ⟨w.heap.size, 1, none⟩) (by show w.heap.size + 1 ≠ w.heap.size; omega) (.int .i64 cm)
  have WB1 := WB.setCell (p := ⟨w.heap.size, 1, none⟩) (Nat.le_refl _) (.int .i64 cm)
  generalize hs1 : W0.setCell ⟨w.heap.size, 1, none⟩ (.int .i64 cm) = W1 at *
  simp at pc1
  obtain ⟨ae, rfl⟩ := (LL.out w (Below.refl _ w)).addr
  have X0 : Hid (∀ u, Below w.heap.size w u → u.cell? ae = some (.string (bs k))) := Lib.hid (fun u hu => (LL.out w (Below.refl _ w)).at_ (j := 0) rfl hu)
  have x0 := X0.out W1 WB1
  have y2 := BP1.cell 2
  simp at y2
  have hsz : (bs op).size = op.length := bs_size op
  have hT := Phr.tail_bs op
  have hlen : 1 ≤ op.length := List.length_pos_iff.2 (Phr.opers_ne hop)
  have z : wrap64 ((op.length : Int) - 1) = (op.length : Int) - 1 := by
    have : op.length ≤ 2 := by
      simp only [Phr.opers, List.mem_cons, List.not_mem_nil, or_false] at hop
      rcases hop with rfl | rfl | rfl | rfl | rfl | rfl | rfl | rfl <;> decide
    unfold wrap64; omega
  have qk : ((bs k).toList == (bs (Phr.tail op)).toList) = true := by rw [bs_tl, bs_tl, beq_iff_eq]; exact hk
  clear hk hop
  have e3 := BP1.drew.cell 3
  have f3 := BP1.drew.frozen 3
  have BP2 := BP1.drew.set_ 3 (.string ⟨#[108, 105, 110, 101]⟩)
  have BR2 := BR1.drew.far (p := ⟨w.heap.size, 3, none⟩) (by show w.heap.size + 1 ≠ w.heap.size; omega) (.string ⟨#[108, 105, 110, 101]⟩)
  have WB2 := WB1.drew.setCell (p := ⟨w.heap.size, 3, none⟩) (Nat.le_refl _) (.string ⟨#[108, 105, 110, 101]⟩)
  generalize hs2 : W1.drew.setCell ⟨w.heap.size, 3, none⟩ (.string ⟨#[108, 105, 110, 101]⟩) = W2 at *
  have pc0 := BP2.cell 0
  have pc1 := BP2.cell 1
  have pc2 := BP2.cell 2
  have pc3 := BP2.cell 3
  have pc4 := BP2.cell 4
  simp at e3 pc0 pc1 pc2 pc3 pc4
  obtain ⟨AB, hAB⟩ : ∃ AB, (if n - i = 1 then (some ae : Option Addr) else some ⟨ae.block, ae.off + 1, none⟩) = AB := ⟨_, rfl⟩
  have BH := Lib.hid (fun (u : World) (A : Option Addr) (n : Nat) => show Calls Tryz.prog 33 #[.agg #[.int .i64 r, .int .i64 cm, .string (bs op), .string ⟨#[108, 105, 110, 101]⟩, .string (bs [])], .slice A t.length n] u (RefIs (Phr.last ⟨r, cm, op, Phr.line, []⟩ t) u) from ref26_last ⟨r, cm, op, Phr.line, []⟩ u)
  obtain ⟨X, hX⟩ : ∃ X, Phr.last ⟨r, cm, op, Phr.line, []⟩ t = X := ⟨_, rfl⟩
  rw [hX] at BH ⊢
  clear hX h NU LL BP BR WB BP1 BR1 WB1
  go_enter Tryz.func32, Tryz.ntmps32
  go_wp2_with (first
    | (go_at_call 10; (with_reducible refine NU0.out.mono ?_); rintro e w1 ⟨rfl, rfl⟩)
    | (go_at_call 13; (with_reducible refine (CN.out _).mono ?_); rintro e w1 ⟨rfl, rfl⟩))
  go_region
  go_wp2_with fail
  go_region_with (go_at_call 33; refine (BH.out _ _ _).mono ?_; rintro e w4 ⟨rfl, hb4⟩; have BR4 := BR2.drew.below hb4 BR2.drew.lt; have W4 := WB2.drew.trans (hb4.mono WB2.drew.size); obtain ⟨⟨vp0, vr0⟩, ⟨vp1, vr1⟩, ⟨vp2, vr2⟩, ⟨vp3, vr3⟩, ⟨vp4, vr4⟩, vB⟩ := Phr.blk5 BR4 (.int .i64 X.1.reg) (.int .i64 X.1.count) (.string (bs X.1.op)) (.string (bs X.1.key)) (.string (bs X.1.arg)); have GG := Phr.put5_gb w4 (w.heap.size + 1) (.int .i64 X.1.reg) (.int .i64 X.1.count) (.string (bs X.1.op)) (.string (bs X.1.key)) (.string (bs X.1.arg)); unfold Phr.put5 at GG vB; generalize hv1 : w4.setCell ⟨w.heap.size + 1, 0, none⟩ (.int .i64 X.1.reg) = v1 at *; generalize hv2 : v1.setCell ⟨w.heap.size + 1, 1, none⟩ (.int .i64 X.1.count) = v2 at *; generalize hv3 : v2.setCell ⟨w.heap.size + 1, 2, none⟩ (.string (bs X.1.op)) = v3 at *; generalize hv4 : v3.setCell ⟨w.heap.size + 1, 3, none⟩ (.string (bs X.1.key)) = v4 at *; generalize hv5 : v4.setCell ⟨w.heap.size + 1, 4, none⟩ (.string (bs X.1.arg)) = v5 at *; have BB := Lib.hid vB; have W5 := W4.grown GG W4.size (fun j e => by injection e with e; omega); clear hb4 BR4 W4)
  all_goals
    go_wp2_with fail
    refine ret_five1 rfl rfl BB.out rfl Tryz.underlying27 (by kernel_rfl) ?_
    exact ⟨rfl, W5⟩
set_option maxHeartbeats 1000000 in
set_option maxRecDepth 100000 in
theorem ref26_work_g {A : Option Addr} {n : Nat} {r m : Int} {op : List UInt8} {l : List (List UInt8)} {w : World} (h : Ls w A n l) (hop : op ∈ Phr.opers) (hm : l.length ≤ 1000) (hd : (Phr.number l).2 = [[103]]) (hk : [103] ≠ Phr.tail op) :
    Calls Tryz.prog 32 #[.agg #[.int .i64 r, .int .i64 m, .string (bs op), .string (bs []), .string (bs [])], .slice A l.length n] w (RefIs (Phr.work ⟨r, m, [], [], []⟩ op l) w) := by
  have HF : (Phr.more : Ans) = Phr.work ⟨r, m, [], [], []⟩ op l := by rw [Phr.work, hd]; rfl
  rw [← HF]
  clear HF
  have NU : Hid (∀ u, Below w.heap.size w u → Calls Tryz.prog 10 #[.slice A l.length n] u fun e w' => e = .returned (.tuple #[.int .i64 (Phr.number l).1, .int .i64 (Phr.took l : Nat)]) ∧ u = w') := Lib.hid (fun u hu => ref26_number (h.below hu) hm)
  have CN := Lib.hid (fun (w : World) => ref26_Count m (Phr.number l).1 w)
  have hl0 : l ≠ [] := by rintro rfl; cases hd
  obtain ⟨ad, rfl⟩ : ∃ ad, A = some ad := by cases l with
    | nil => exact absurd rfl hl0
    | cons a b => exact h.addr
  have hdr := Phr.took_drop l
  have htl := Phr.took_le l
  have hli : (Phr.took l : Int) ≤ l.length := by omega
  have hz : l.length - Phr.took l = (Phr.number l).2.length := by rw [← hdr, List.length_drop]
  obtain ⟨AA, hAA⟩ : ∃ AA, (if n = Phr.took l then (some ad : Option Addr) else some (ad.add (Phr.took l))) = AA := ⟨_, rfl⟩
  have LL : Hid (∀ u, Below w.heap.size w u → Ls u AA (n - Phr.took l) (Phr.number l).2) := Lib.hid (fun u hu => by rw [← hdr]; exact (h.below hu).slice hAA)
  rw [hd] at hz LL
  clear hd hdr hl0
  generalize Phr.took l = i at *
  obtain ⟨v, hv⟩ : ∃ v, (Phr.number l).1 = v := ⟨_, rfl⟩
  rw [hv] at NU CN
  clear hv
  obtain ⟨cm, hcm⟩ : ∃ cm, Phr.count m v = cm := ⟨_, rfl⟩
  rw [hcm] at CN
  clear hcm
  obtain ⟨W0, hW0⟩ : ∃ W0, (w.alloc (.cells #[.int .i64 r, .int .i64 m, .string (bs op), .string (bs []), .string (bs [])] 27)).alloc (.cells #[.int .i64 0, .int .i64 0, .string ⟨#[]⟩, .string ⟨#[]⟩, .string ⟨#[]⟩] 27) = W0 := ⟨_, rfl⟩
  obtain ⟨BP, BR, WB, SZ⟩ := Phr.start (⟨r, m, op, [], []⟩ : Cmd) hW0
  simp only at BP
  have NU0 := Lib.hid (NU.out W0 WB)
  have pc1 := BP.cell 1
  have f1 := BP.frozen 1
  have BP1 := BP.set_ 1 (.int .i64 cm)
  have BR1 := BR.far (p := ⟨w.heap.size, 1, none⟩) (by show w.heap.size + 1 ≠ w.heap.size; omega) (.int .i64 cm)
  have WB1 := WB.setCell (p := ⟨w.heap.size, 1, none⟩) (Nat.le_refl _) (.int .i64 cm)
  generalize hs1 : W0.setCell ⟨w.heap.size, 1, none⟩ (.int .i64 cm) = W1 at *
  simp at pc1
  obtain ⟨ae, rfl⟩ := (LL.out w (Below.refl _ w)).addr
  have X0 : Hid (∀ u, Below w.heap.size w u → u.cell? ae = some (.string (bs [103]))) := Lib.hid (fun u hu => (LL.out w (Below.refl _ w)).at_ (j := 0) rfl hu)
  have x0 := X0.out W1 WB1
  have y2 := BP1.cell 2
  simp at y2
  have hsz : (bs op).size = op.length := bs_size op
  have hT := Phr.tail_bs op
  have hlen : 1 ≤ op.length := List.length_pos_iff.2 (Phr.opers_ne hop)
  have z : wrap64 ((op.length : Int) - 1) = (op.length : Int) - 1 := by
    have : op.length ≤ 2 := by
      simp only [Phr.opers, List.mem_cons, List.not_mem_nil, or_false] at hop
      rcases hop with rfl | rfl | rfl | rfl | rfl | rfl | rfl | rfl <;> decide
    unfold wrap64; omega
  have qk : ((bs [103]).toList == (bs (Phr.tail op)).toList) = false := by rw [bs_tl, bs_tl, beq_eq_false_iff_ne]; exact hk
  clear hk hop
  have q3 : ((bs [103]).toList == [103]) = true := by rw [bs_tl]; rfl
  obtain ⟨⟨vp0, vr0⟩, ⟨vp1, vr1⟩, ⟨vp2, vr2⟩, ⟨vp3, vr3⟩, ⟨vp4, vr4⟩, vB⟩ := Phr.blk5 BR1.drew (.int .i64 0) (.int .i64 0) (.string ⟨#[]⟩) (.string ⟨#[]⟩) (.string ⟨#[]⟩)
  have GG := Phr.put5_gb W1.drew (w.heap.size + 1) (.int .i64 0) (.int .i64 0) (.string ⟨#[]⟩) (.string ⟨#[]⟩) (.string ⟨#[]⟩)
  unfold Phr.put5 at GG vB
  generalize hv1 : W1.drew.setCell ⟨w.heap.size + 1, 0, none⟩ (.int .i64 0) = v1 at *
  generalize hv2 : v1.setCell ⟨w.heap.size + 1, 1, none⟩ (.int .i64 0) = v2 at *
  generalize hv3 : v2.setCell ⟨w.heap.size + 1, 2, none⟩ (.string ⟨#[]⟩) = v3 at *
  generalize hv4 : v3.setCell ⟨w.heap.size + 1, 3, none⟩ (.string ⟨#[]⟩) = v4 at *
  generalize hv5 : v4.setCell ⟨w.heap.size + 1, 4, none⟩ (.string ⟨#[]⟩) = v5 at *
  have BB := Lib.hid vB
  have W5 := WB1.drew.grown GG WB1.drew.size (fun j e => by injection e with e; omega)
  clear h NU BP BR WB BP1 BR1 WB1 LL
  go_enter Tryz.func32, Tryz.ntmps32
  go_wp2_with (first
    | (go_at_call 10; (with_reducible refine NU0.out.mono ?_); rintro e w1 ⟨rfl, rfl⟩)
    | (go_at_call 13; (with_reducible refine (CN.out _).mono ?_); rintro e w1 ⟨rfl, rfl⟩))
  go_region
  go_wp2_with fail
  all_goals
    refine ret_five1 rfl rfl BB.out rfl Tryz.underlying27 (by kernel_rfl) ?_
    exact ⟨rfl, W5⟩
set_option maxHeartbeats 1000000 in
set_option maxRecDepth 100000 in
theorem ref26_work_mot {A : Option Addr} {n : Nat} {r m : Int} {op : List UInt8} {l : List (List UInt8)} {w : World} (h : Ls w A n l) (hop : op ∈ Phr.opers) (hm : l.length ≤ 1000) {k : List UInt8} {t : List (List UInt8)} (hd : (Phr.number l).2 = k :: t) (hk : k ≠ Phr.tail op) (hg : k ≠ [103] ∨ t ≠ []) :
    Calls Tryz.prog 32 #[.agg #[.int .i64 r, .int .i64 m, .string (bs op), .string (bs []), .string (bs [])], .slice A l.length n] w (RefIs (Phr.work ⟨r, m, [], [], []⟩ op l) w) := by
  have HF : (Phr.fin (Phr.rmot ⟨r, (Phr.count m (Phr.number l).1), op, [], []⟩ true k t) : Ans) = Phr.work ⟨r, m, [], [], []⟩ op l := Phr.work_motion hop hd hk hg (by rw [← Phr.took_drop] at hd; exact h.ones k (List.mem_of_mem_drop (by rw [hd]; simp))) (fun x hx => by rw [← Phr.took_drop] at hd; exact h.ones x (List.mem_of_mem_drop (by rw [hd]; simp [hx])))
  rw [← HF]
  clear HF
  have NU : Hid (∀ u, Below w.heap.size w u → Calls Tryz.prog 10 #[.slice A l.length n] u fun e w' => e = .returned (.tuple #[.int .i64 (Phr.number l).1, .int .i64 (Phr.took l : Nat)]) ∧ u = w') := Lib.hid (fun u hu => ref26_number (h.below hu) hm)
  have CN := Lib.hid (fun (w : World) => ref26_Count m (Phr.number l).1 w)
  have hl0 : l ≠ [] := by rintro rfl; cases hd
  obtain ⟨ad, rfl⟩ : ∃ ad, A = some ad := by cases l with
    | nil => exact absurd rfl hl0
    | cons a b => exact h.addr
  have hdr := Phr.took_drop l
  have htl := Phr.took_le l
  have hli : (Phr.took l : Int) ≤ l.length := by omega
  have hz : l.length - Phr.took l = (Phr.number l).2.length := by rw [← hdr, List.length_drop]
  obtain ⟨AA, hAA⟩ : ∃ AA, (if n = Phr.took l then (some ad : Option Addr) else some (ad.add (Phr.took l))) = AA := ⟨_, rfl⟩
  have LL : Hid (∀ u, Below w.heap.size w u → Ls u AA (n - Phr.took l) (Phr.number l).2) := Lib.hid (fun u hu => by rw [← hdr]; exact (h.below hu).slice hAA)
  rw [hd] at hz LL
  clear hd hdr hl0
  generalize Phr.took l = i at *
  obtain ⟨v, hv⟩ : ∃ v, (Phr.number l).1 = v := ⟨_, rfl⟩
  rw [hv] at NU CN ⊢
  clear hv
  obtain ⟨cm, hcm⟩ : ∃ cm, Phr.count m v = cm := ⟨_, rfl⟩
  rw [hcm] at CN ⊢
  clear hcm
  obtain ⟨W0, hW0⟩ : ∃ W0, (w.alloc (.cells #[.int .i64 r, .int .i64 m, .string (bs op), .string (bs []), .string (bs [])] 27)).alloc (.cells #[.int .i64 0, .int .i64 0, .string ⟨#[]⟩, .string ⟨#[]⟩, .string ⟨#[]⟩] 27) = W0 := ⟨_, rfl⟩
  obtain ⟨BP, BR, WB, SZ⟩ := Phr.start (⟨r, m, op, [], []⟩ : Cmd) hW0
  simp only at BP
  have NU0 := Lib.hid (NU.out W0 WB)
  have pc1 := BP.cell 1
  have f1 := BP.frozen 1
  have BP1 := BP.set_ 1 (.int .i64 cm)
  have BR1 := BR.far (p := ⟨w.heap.size, 1, none⟩) (by show w.heap.size + 1 ≠ w.heap.size; omega) (.int .i64 cm)
  have WB1 := WB.setCell (p := ⟨w.heap.size, 1, none⟩) (Nat.le_refl _) (.int .i64 cm)
  generalize hs1 : W0.setCell ⟨w.heap.size, 1, none⟩ (.int .i64 cm) = W1 at *
  simp at pc1
  obtain ⟨ae, rfl⟩ := (LL.out w (Below.refl _ w)).addr
  have X0 : Hid (∀ u, Below w.heap.size w u → u.cell? ae = some (.string (bs k))) := Lib.hid (fun u hu => (LL.out w (Below.refl _ w)).at_ (j := 0) rfl hu)
  have x0 := X0.out W1 WB1
  have y2 := BP1.cell 2
  simp at y2
  have hsz : (bs op).size = op.length := bs_size op
  have hT := Phr.tail_bs op
  have hlen : 1 ≤ op.length := List.length_pos_iff.2 (Phr.opers_ne hop)
  have z : wrap64 ((op.length : Int) - 1) = (op.length : Int) - 1 := by
    have : op.length ≤ 2 := by
      simp only [Phr.opers, List.mem_cons, List.not_mem_nil, or_false] at hop
      rcases hop with rfl | rfl | rfl | rfl | rfl | rfl | rfl | rfl <;> decide
    unfold wrap64; omega
  have qk : ((bs k).toList == (bs (Phr.tail op)).toList) = false := by rw [bs_tl, bs_tl, beq_eq_false_iff_ne]; exact hk
  clear hk hop
  have pc0 := BP1.cell 0
  have pc1 := BP1.cell 1
  have pc2 := BP1.cell 2
  have pc3 := BP1.cell 3
  have pc4 := BP1.cell 4
  simp at pc0 pc1 pc2 pc3 pc4
  have qg : ((bs k).toList == [103]) = false ∨ ((bs k).toList == [103]) = true ∧ 1 ≤ t.length := by
    rw [bs_tl]
    rcases hg with hg | hg
    · left; rw [beq_eq_false_iff_ne]; exact hg
    · by_cases e : k = [103]
      · right; exact ⟨by rw [e]; rfl, by have := List.length_pos_iff.2 hg; omega⟩
      · left; rw [beq_eq_false_iff_ne]; exact e
  have MO := Lib.hid (fun (u : World) (hu : Below w.heap.size w u) => show Calls Tryz.prog 35 #[.agg #[.int .i64 r, .int .i64 cm, .string (bs op), .string (bs []), .string (bs [])], .slice (some ae) (t.length + 1) (n - i), .bool true] u (RefIs (Phr.rmot ⟨r, cm, op, [], []⟩ true k t) u) from ref26_motion ⟨r, cm, op, [], []⟩ true (LL.out u hu))
  obtain ⟨X, hX⟩ : ∃ X, Phr.rmot ⟨r, cm, op, [], []⟩ true k t = X := ⟨_, rfl⟩
  rw [hX] at MO ⊢
  have MO1 := Lib.hid (MO.out W1.drew WB1.drew)
  clear hX h NU LL hg BP BR WB MO
  obtain ⟨d, is⟩ := X
  rcases qg with qg | ⟨qg, hlt⟩
  · by_cases h0 : is = 0
    · subst h0
      rw [show Phr.fin (d, 0) = Phr.bad from rfl]
      go_enter Tryz.func32, Tryz.ntmps32
      go_wp2_with (first
        | (go_at_call 10; (with_reducible refine NU0.out.mono ?_); rintro e w1 ⟨rfl, rfl⟩)
        | (go_at_call 13; (with_reducible refine (CN.out _).mono ?_); rintro e w1 ⟨rfl, rfl⟩))
      go_region
      go_wp2_with (go_at_call 35; refine MO1.out.mono ?_; rintro e w4 ⟨rfl, hb4⟩; have BR4 := BR1.drew.below hb4 BR1.drew.lt; have W4 := WB1.drew.trans (hb4.mono WB1.drew.size); clear MO1 hb4; generalize hD : w4.alloc (.cells #[.int .i64 0, .int .i64 0, .string ⟨#[]⟩, .string ⟨#[]⟩, .string ⟨#[]⟩] 27) = d0 at *; obtain ⟨⟨dx0, dy0⟩, ⟨dx1, dy1⟩, ⟨dx2, dy2⟩, ⟨dx3, dy3⟩, ⟨dx4, dy4⟩, dB, dW⟩ := Phr.rbox d hD; generalize hd1 : d0.setCell ⟨w4.heap.size, 0, none⟩ (.int .i64 d.reg) = d1 at *; generalize hd2 : d1.setCell ⟨w4.heap.size, 1, none⟩ (.int .i64 d.count) = d2 at *; generalize hd3 : d2.setCell ⟨w4.heap.size, 2, none⟩ (.string (bs d.op)) = d3 at *; generalize hd4 : d3.setCell ⟨w4.heap.size, 3, none⟩ (.string (bs d.key)) = d4 at *; generalize hd5 : d4.setCell ⟨w4.heap.size, 4, none⟩ (.string (bs d.arg)) = d5 at *; have BR5 := BR4.below dW BR4.lt; have W6 := W4.trans (dW.mono W4.size); have i0 := dB.cell 0; have i1 := dB.cell 1; have i2 := dB.cell 2; have i3 := dB.cell 3; have i4 := dB.cell 4; simp at i0 i1 i2 i3 i4; clear dB dW BR4 W4; obtain ⟨⟨vp0, vr0⟩, ⟨vp1, vr1⟩, ⟨vp2, vr2⟩, ⟨vp3, vr3⟩, ⟨vp4, vr4⟩, vB⟩ := Phr.blk5 BR5 (.int .i64 0) (.int .i64 0) (.string ⟨#[]⟩) (.string ⟨#[]⟩) (.string ⟨#[]⟩); have GG := Phr.put5_gb d5 (w.heap.size + 1) (.int .i64 0) (.int .i64 0) (.string ⟨#[]⟩) (.string ⟨#[]⟩) (.string ⟨#[]⟩); unfold Phr.put5 at GG vB; generalize hv1 : d5.setCell ⟨w.heap.size + 1, 0, none⟩ (.int .i64 0) = v1 at *; generalize hv2 : v1.setCell ⟨w.heap.size + 1, 1, none⟩ (.int .i64 0) = v2 at *; generalize hv3 : v2.setCell ⟨w.heap.size + 1, 2, none⟩ (.string ⟨#[]⟩) = v3 at *; generalize hv4 : v3.setCell ⟨w.heap.size + 1, 3, none⟩ (.string ⟨#[]⟩) = v4 at *; generalize hv5 : v4.setCell ⟨w.heap.size + 1, 4, none⟩ (.string ⟨#[]⟩) = v5 at *; have BB := Lib.hid vB; have W5 := W6.grown GG W6.size (fun j e => by injection e with e; omega); clear BR5 W6)
      refine ret_five1 rfl rfl BB.out rfl Tryz.underlying27 (by kernel_rfl) ?_
      exact ⟨rfl, W5⟩
    · rw [show Phr.fin (d, is) = (d, is) from if_neg h0]
      have h0b : (is == 0) = false := by rw [beq_eq_false_iff_ne]; exact h0
      go_enter Tryz.func32, Tryz.ntmps32
      go_wp2_with (first
        | (go_at_call 10; (with_reducible refine NU0.out.mono ?_); rintro e w1 ⟨rfl, rfl⟩)
        | (go_at_call 13; (with_reducible refine (CN.out _).mono ?_); rintro e w1 ⟨rfl, rfl⟩))
      go_region
      go_wp2_with (go_at_call 35; refine MO1.out.mono ?_; rintro e w4 ⟨rfl, hb4⟩; have BR4 := BR1.drew.below hb4 BR1.drew.lt; have W4 := WB1.drew.trans (hb4.mono WB1.drew.size); clear MO1 hb4; generalize hD : w4.alloc (.cells #[.int .i64 0, .int .i64 0, .string ⟨#[]⟩, .string ⟨#[]⟩, .string ⟨#[]⟩] 27) = d0 at *; obtain ⟨⟨dx0, dy0⟩, ⟨dx1, dy1⟩, ⟨dx2, dy2⟩, ⟨dx3, dy3⟩, ⟨dx4, dy4⟩, dB, dW⟩ := Phr.rbox d hD; generalize hd1 : d0.setCell ⟨w4.heap.size, 0, none⟩ (.int .i64 d.reg) = d1 at *; generalize hd2 : d1.setCell ⟨w4.heap.size, 1, none⟩ (.int .i64 d.count) = d2 at *; generalize hd3 : d2.setCell ⟨w4.heap.size, 2, none⟩ (.string (bs d.op)) = d3 at *; generalize hd4 : d3.setCell ⟨w4.heap.size, 3, none⟩ (.string (bs d.key)) = d4 at *; generalize hd5 : d4.setCell ⟨w4.heap.size, 4, none⟩ (.string (bs d.arg)) = d5 at *; have BR5 := BR4.below dW BR4.lt; have W6 := W4.trans (dW.mono W4.size); have i0 := dB.cell 0; have i1 := dB.cell 1; have i2 := dB.cell 2; have i3 := dB.cell 3; have i4 := dB.cell 4; simp at i0 i1 i2 i3 i4; clear dB dW BR4 W4; obtain ⟨⟨vp0, vr0⟩, ⟨vp1, vr1⟩, ⟨vp2, vr2⟩, ⟨vp3, vr3⟩, ⟨vp4, vr4⟩, vB⟩ := Phr.blk5 BR5 (.int .i64 d.reg) (.int .i64 d.count) (.string (bs d.op)) (.string (bs d.key)) (.string (bs d.arg)); have GG := Phr.put5_gb d5 (w.heap.size + 1) (.int .i64 d.reg) (.int .i64 d.count) (.string (bs d.op)) (.string (bs d.key)) (.string (bs d.arg)); unfold Phr.put5 at GG vB; generalize hv1 : d5.setCell ⟨w.heap.size + 1, 0, none⟩ (.int .i64 d.reg) = v1 at *; generalize hv2 : v1.setCell ⟨w.heap.size + 1, 1, none⟩ (.int .i64 d.count) = v2 at *; generalize hv3 : v2.setCell ⟨w.heap.size + 1, 2, none⟩ (.string (bs d.op)) = v3 at *; generalize hv4 : v3.setCell ⟨w.heap.size + 1, 3, none⟩ (.string (bs d.key)) = v4 at *; generalize hv5 : v4.setCell ⟨w.heap.size + 1, 4, none⟩ (.string (bs d.arg)) = v5 at *; have BB := Lib.hid vB; have W5 := W6.grown GG W6.size (fun j e => by injection e with e; omega); clear BR5 W6)
      refine ret_five1 rfl rfl BB.out rfl Tryz.underlying27 (by kernel_rfl) ?_
      exact ⟨rfl, W5⟩
  · have hl2 : ((t.length : Int) + 1 == 1) = false := by rw [beq_eq_false_iff_ne]; omega
    by_cases h0 : is = 0
    · subst h0
      rw [show Phr.fin (d, 0) = Phr.bad from rfl]
      go_enter Tryz.func32, Tryz.ntmps32
      go_wp2_with (first
        | (go_at_call 10; (with_reducible refine NU0.out.mono ?_); rintro e w1 ⟨rfl, rfl⟩)
        | (go_at_call 13; (with_reducible refine (CN.out _).mono ?_); rintro e w1 ⟨rfl, rfl⟩))
      go_region
      go_wp2_with (go_at_call 35; refine MO1.out.mono ?_; rintro e w4 ⟨rfl, hb4⟩; have BR4 := BR1.drew.below hb4 BR1.drew.lt; have W4 := WB1.drew.trans (hb4.mono WB1.drew.size); clear MO1 hb4; generalize hD : w4.alloc (.cells #[.int .i64 0, .int .i64 0, .string ⟨#[]⟩, .string ⟨#[]⟩, .string ⟨#[]⟩] 27) = d0 at *; obtain ⟨⟨dx0, dy0⟩, ⟨dx1, dy1⟩, ⟨dx2, dy2⟩, ⟨dx3, dy3⟩, ⟨dx4, dy4⟩, dB, dW⟩ := Phr.rbox d hD; generalize hd1 : d0.setCell ⟨w4.heap.size, 0, none⟩ (.int .i64 d.reg) = d1 at *; generalize hd2 : d1.setCell ⟨w4.heap.size, 1, none⟩ (.int .i64 d.count) = d2 at *; generalize hd3 : d2.setCell ⟨w4.heap.size, 2, none⟩ (.string (bs d.op)) = d3 at *; generalize hd4 : d3.setCell ⟨w4.heap.size, 3, none⟩ (.string (bs d.key)) = d4 at *; generalize hd5 : d4.setCell ⟨w4.heap.size, 4, none⟩ (.string (bs d.arg)) = d5 at *; have BR5 := BR4.below dW BR4.lt; have W6 := W4.trans (dW.mono W4.size); have i0 := dB.cell 0; have i1 := dB.cell 1; have i2 := dB.cell 2; have i3 := dB.cell 3; have i4 := dB.cell 4; simp at i0 i1 i2 i3 i4; clear dB dW BR4 W4; obtain ⟨⟨vp0, vr0⟩, ⟨vp1, vr1⟩, ⟨vp2, vr2⟩, ⟨vp3, vr3⟩, ⟨vp4, vr4⟩, vB⟩ := Phr.blk5 BR5 (.int .i64 0) (.int .i64 0) (.string ⟨#[]⟩) (.string ⟨#[]⟩) (.string ⟨#[]⟩); have GG := Phr.put5_gb d5 (w.heap.size + 1) (.int .i64 0) (.int .i64 0) (.string ⟨#[]⟩) (.string ⟨#[]⟩) (.string ⟨#[]⟩); unfold Phr.put5 at GG vB; generalize hv1 : d5.setCell ⟨w.heap.size + 1, 0, none⟩ (.int .i64 0) = v1 at *; generalize hv2 : v1.setCell ⟨w.heap.size + 1, 1, none⟩ (.int .i64 0) = v2 at *; generalize hv3 : v2.setCell ⟨w.heap.size + 1, 2, none⟩ (.string ⟨#[]⟩) = v3 at *; generalize hv4 : v3.setCell ⟨w.heap.size + 1, 3, none⟩ (.string ⟨#[]⟩) = v4 at *; generalize hv5 : v4.setCell ⟨w.heap.size + 1, 4, none⟩ (.string ⟨#[]⟩) = v5 at *; have BB := Lib.hid vB; have W5 := W6.grown GG W6.size (fun j e => by injection e with e; omega); clear BR5 W6)
      refine ret_five1 rfl rfl BB.out rfl Tryz.underlying27 (by kernel_rfl) ?_
      exact ⟨rfl, W5⟩
    · rw [show Phr.fin (d, is) = (d, is) from if_neg h0]
      have h0b : (is == 0) = false := by rw [beq_eq_false_iff_ne]; exact h0
      go_enter Tryz.func32, Tryz.ntmps32
      go_wp2_with (first
        | (go_at_call 10; (with_reducible refine NU0.out.mono ?_); rintro e w1 ⟨rfl, rfl⟩)
        | (go_at_call 13; (with_reducible refine (CN.out _).mono ?_); rintro e w1 ⟨rfl, rfl⟩))
      go_region
      go_wp2_with (go_at_call 35; refine MO1.out.mono ?_; rintro e w4 ⟨rfl, hb4⟩; have BR4 := BR1.drew.below hb4 BR1.drew.lt; have W4 := WB1.drew.trans (hb4.mono WB1.drew.size); clear MO1 hb4; generalize hD : w4.alloc (.cells #[.int .i64 0, .int .i64 0, .string ⟨#[]⟩, .string ⟨#[]⟩, .string ⟨#[]⟩] 27) = d0 at *; obtain ⟨⟨dx0, dy0⟩, ⟨dx1, dy1⟩, ⟨dx2, dy2⟩, ⟨dx3, dy3⟩, ⟨dx4, dy4⟩, dB, dW⟩ := Phr.rbox d hD; generalize hd1 : d0.setCell ⟨w4.heap.size, 0, none⟩ (.int .i64 d.reg) = d1 at *; generalize hd2 : d1.setCell ⟨w4.heap.size, 1, none⟩ (.int .i64 d.count) = d2 at *; generalize hd3 : d2.setCell ⟨w4.heap.size, 2, none⟩ (.string (bs d.op)) = d3 at *; generalize hd4 : d3.setCell ⟨w4.heap.size, 3, none⟩ (.string (bs d.key)) = d4 at *; generalize hd5 : d4.setCell ⟨w4.heap.size, 4, none⟩ (.string (bs d.arg)) = d5 at *; have BR5 := BR4.below dW BR4.lt; have W6 := W4.trans (dW.mono W4.size); have i0 := dB.cell 0; have i1 := dB.cell 1; have i2 := dB.cell 2; have i3 := dB.cell 3; have i4 := dB.cell 4; simp at i0 i1 i2 i3 i4; clear dB dW BR4 W4; obtain ⟨⟨vp0, vr0⟩, ⟨vp1, vr1⟩, ⟨vp2, vr2⟩, ⟨vp3, vr3⟩, ⟨vp4, vr4⟩, vB⟩ := Phr.blk5 BR5 (.int .i64 d.reg) (.int .i64 d.count) (.string (bs d.op)) (.string (bs d.key)) (.string (bs d.arg)); have GG := Phr.put5_gb d5 (w.heap.size + 1) (.int .i64 d.reg) (.int .i64 d.count) (.string (bs d.op)) (.string (bs d.key)) (.string (bs d.arg)); unfold Phr.put5 at GG vB; generalize hv1 : d5.setCell ⟨w.heap.size + 1, 0, none⟩ (.int .i64 d.reg) = v1 at *; generalize hv2 : v1.setCell ⟨w.heap.size + 1, 1, none⟩ (.int .i64 d.count) = v2 at *; generalize hv3 : v2.setCell ⟨w.heap.size + 1, 2, none⟩ (.string (bs d.op)) = v3 at *; generalize hv4 : v3.setCell ⟨w.heap.size + 1, 3, none⟩ (.string (bs d.key)) = v4 at *; generalize hv5 : v4.setCell ⟨w.heap.size + 1, 4, none⟩ (.string (bs d.arg)) = v5 at *; have BB := Lib.hid vB; have W5 := W6.grown GG W6.size (fun j e => by injection e with e; omega); clear BR5 W6)
      refine ret_five1 rfl rfl BB.out rfl Tryz.underlying27 (by kernel_rfl) ?_
      exact ⟨rfl, W5⟩
theorem ref26_work {A : Option Addr} {n : Nat} {r m : Int} {op : List UInt8} {l : List (List UInt8)} {w : World} (h : Ls w A n l) (hop : op ∈ Phr.opers) (hm : l.length ≤ 1000) :
    Calls Tryz.prog 32 #[.agg #[.int .i64 r, .int .i64 m, .string (bs op), .string (bs []), .string (bs [])], .slice A l.length n] w (RefIs (Phr.work ⟨r, m, [], [], []⟩ op l) w) := by
  by_cases hl : l = []
  · subst hl; exact ref26_work_nil h
  · cases hd : (Phr.number l).2 with
    | nil => exact ref26_work_end h hm hl hd
    | cons k t =>
      by_cases hk : k = Phr.tail op
      · exact ref26_work_line h hop hm hd hk
      · by_cases hg : k = [103] ∧ t = []
        · obtain ⟨rfl, rfl⟩ := hg; exact ref26_work_g h hop hm hd hk
        · exact ref26_work_mot h hop hm hd hk (by by_cases e : k = [103]; exact .inr (fun e2 => hg ⟨e, e2⟩); exact .inl e)
end Go.Proofs.YtchpkeelnfmlbaaGreat
/-
  The document's commands by words, without a program: a motion, a key that stands alone, what is marked.
-/
namespace Go.Proofs.YtchpkeelnfmlbaaGreat
open Go.RowKit
open Phr (Cmd Ans Ls RefIs)
namespace Phr
/-- What a call answers that may find none. -/
def RefFin (F : Ans) (w : World) (e : Ending) (w' : World) : Prop := ∃ Y : Ans, fin Y = F ∧ RefIs Y w e w'
theorem fin_fine {x : Ans} (h : Fine x) : fin x = x := by
  unfold fin
  rw [if_neg]
  rcases h with h | h | h
  · rw [h]; simp [more]
  · rw [h]; simp [bad]
  · rw [h.1]; decide
theorem fin_work {c : Cmd} {op : List UInt8} {l : List (List UInt8)} (h : op ≠ []) : fin (work c op l) = work c op l := fin_fine (work_fine h)
def alone18 : List UInt8 := [112, 80, 74, 126, 117, 46, 105, 97, 73, 65, 111, 79, 118, 86, 58, 47, 63, 18]
def keysP : List (List UInt8) := [[100], [99], [121], [62], [60], [120], [88], [68], [67], [115], [83], [89], [114], [109]]
def keysM : List (List UInt8) := [[100], [120], [99], [115], [121], [62], [60], [126], [117], [85], [74], [111], [118], [86]]
/-- A motion by words: a key that is none's but a motion's, if any's. -/
theorem run_motion {visual : Bool} {r n : Int} {k : List UInt8} {t : List (List UInt8)} (ho : Utf.one k = true) (hot : ∀ x ∈ t, Utf.one x = true) (h2 : k ≠ [103] ∨ t ≠ [])
    (hia : visual = false → k ≠ [105] ∧ k ≠ [97]) (hnot : k ≠ [103] → mot k = none → ¬ (visual = true ∧ (k = [105] ∨ k = [97])) → act visual k = .not) (hgx : ∀ x u, k = [103] → t = x :: u → x ≠ [103] → mot (103 :: x) = none → act visual (103 :: x) = .not) :
    fin (rmot ⟨r, n, [], [], []⟩ visual k t) = run visual ⟨r, n, [], [], []⟩ (k :: t) := by
  unfold rmot
  by_cases h0 : visual = true ∧ (k = [105] ∨ k = [97])
  · rw [if_pos h0]
    obtain ⟨rfl, h0⟩ := h0
    have hg : k ≠ [103] := by rintro rfl; rcases h0 with h | h <;> cases h
    rcases h0 with rfl | rfl
    · exact (fin_goes (m := 1)).trans rfl
    · exact (fin_goes (m := 1)).trans rfl
  rw [if_neg h0]
  by_cases hf : k ∈ finds
  · rw [if_pos hf]
    have hg : k ≠ [103] := by rintro rfl; exact absurd hf (by decide)
    have hm : mot k = some 2 := by rw [mot, if_pos hf]
    rw [run_mot (l := k :: t) (t := t) (x := k) (by simp only [word, if_neg hg]) hm]
    exact fin_goes (m := 2)
  rw [if_neg hf]
  by_cases hma : k ∈ marks
  · rw [if_pos hma]
    have hg : k ≠ [103] := by rintro rfl; exact absurd hma (by decide)
    have hm : mot k = some 3 := by rw [mot, if_neg hf, if_pos hma]
    rw [run_mot (l := k :: t) (t := t) (x := k) (by simp only [word, if_neg hg]) hm]
    exact fin_goes (m := 3)
  rw [if_neg hma]
  by_cases hg : k = [103]
  · subst hg
    cases t with
    | nil => rcases h2 with h | h <;> exact absurd rfl h
    | cons x u =>
      by_cases hx : x = [103]
      · subst hx
        rw [if_pos ⟨rfl, rfl⟩]
        exact (fin_goes (m := 0)).trans rfl
      · rw [if_neg (by simp [hx]), if_neg (by simp)]
        have hxn : x ≠ [] := Utf.one_ne (hot x (by simp))
        have hm : mot (103 :: x) = none := by
          rw [mot, if_neg, if_neg, if_neg]
          · simp [bare, hx]
          · simp [marks]
          · simp [finds]
        have ha := hgx x u rfl rfl hx hm
        show bad = _
        rw [run]
        simp only [word, if_true, ha, does]
  · rw [if_neg (fun e => hg e.1)]
    cases hm : mot k with
    | some m =>
      have hm0 : m = 0 := by
        rw [mot, if_neg hf, if_neg hma] at hm
        split at hm
        · injection hm with hm; exact hm.symm
        · cases hm
      subst hm0
      rw [if_pos ⟨hg, rfl⟩, run_mot (l := k :: t) (t := t) (x := k) (by simp only [word, if_neg hg]) hm]
      exact fin_goes (m := 0)
    | none =>
      rw [if_neg (by simp)]
      have ha := hnot hg hm h0
      show bad = _
      rw [run]
      simp only [word, if_neg hg, ha, does]
theorem plain_motion {r n : Int} {k : List UInt8} {t : List (List UInt8)} (ho : Utf.one k = true) (hot : ∀ x ∈ t, Utf.one x = true) (h2 : k ≠ [103] ∨ t ≠ []) (hk : k ∉ keysP) (hal : k ∉ alone18.map ([·])) (hx : ∀ x ∈ t.head?, x ∉ ([117, 85, 126, 45, 43] : List UInt8).map ([·]) ∨ k ≠ [103]) :
    fin (rmot ⟨r, n, [], [], []⟩ false k t) = run false ⟨r, n, [], [], []⟩ (k :: t) := by
  simp only [keysP, alone18, List.map_cons, List.map_nil, List.mem_cons, List.not_mem_nil, or_false, not_or] at hk hal
  have htwo : ∀ b : UInt8, b.toNat < 128 → k ≠ [103, b] := fun b hb e => by
    subst e
    have := (Utf.one2 103 b).1 ho
    simp at this
  refine run_motion ho hot h2 (fun _ => ⟨by simp [hal], by simp [hal]⟩) (fun hg hm _ => ?_) (fun x u e1 e2 hxg hm => ?_)
  · simp only [act, hm, Bool.false_eq_true, if_false]
    simp [plain, opers, alone, hk, hal, htwo]
  · subst e2
    have h3 := (hx x (by simp)).resolve_right (fun h => h e1)
    simp only [List.map_cons, List.map_nil, List.mem_cons, List.not_mem_nil, or_false, not_or] at h3
    have hxn : x ≠ [] := Utf.one_ne (hot x (by simp))
    simp only [act, hm, Bool.false_eq_true, if_false]
    simp [plain, opers, alone, h3, hxn]
theorem marked_motion {r n : Int} {k : List UInt8} {t : List (List UInt8)} (ho : Utf.one k = true) (hot : ∀ x ∈ t, Utf.one x = true) (h2 : k ≠ [103] ∨ t ≠ []) (hk : k ∉ keysM) (hx : ∀ x ∈ t.head?, x ∉ ([117, 85, 126] : List UInt8).map ([·]) ∨ k ≠ [103]) :
    fin (rmot ⟨r, n, [], [], []⟩ true k t) = run true ⟨r, n, [], [], []⟩ (k :: t) := by
  simp only [keysM, List.mem_cons, List.not_mem_nil, or_false, not_or] at hk
  have htwo : ∀ b : UInt8, b.toNat < 128 → k ≠ [103, b] := fun b hb e => by
    subst e
    have := (Utf.one2 103 b).1 ho
    simp at this
  refine run_motion ho hot h2 (fun h => by cases h) (fun hg hm h0 => ?_) (fun x u e1 e2 hxg hm => ?_)
  · simp only [act, hm, if_true]
    have h5 : k ≠ [105] := fun e => h0 ⟨rfl, .inl e⟩
    have h6 : k ≠ [97] := fun e => h0 ⟨rfl, .inr e⟩
    simp [area, opers, hk, htwo, h5, h6]
  · subst e2
    have h3 := (hx x (by simp)).resolve_right (fun h => h e1)
    simp only [List.map_cons, List.map_nil, List.mem_cons, List.not_mem_nil, or_false, not_or] at h3
    have hxn : x ≠ [] := Utf.one_ne (hot x (by simp))
    simp only [act, hm, if_true]
    simp [area, opers, h3, hxn]
end Phr
end Go.Proofs.YtchpkeelnfmlbaaGreat
