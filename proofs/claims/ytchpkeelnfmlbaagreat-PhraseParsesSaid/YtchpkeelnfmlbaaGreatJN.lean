/-
  The document's commands without a motion.
-/
import Derived.Test.YtchpkeelnfmlbaaGreatJW
namespace Go.Proofs.YtchpkeelnfmlbaaGreat
open Go.RowKit
open Phr (Cmd Ans Ls RefIs RefFin)
set_option maxHeartbeats 1000000 in
set_option maxRecDepth 100000 in
theorem ref26_plain_gend {A : Option Addr} {n : Nat} {r m : Int}  {w : World} (h : Ls w A n ([[103]]))  :
    Calls Tryz.prog 14 #[.agg #[.int .i64 r, .int .i64 m, .string (bs []), .string (bs []), .string (bs [])], .slice A 1 n] w (RefFin (Phr.run false ⟨r, m, [], [], []⟩ ([[103]])) w) := by
  have HF : Phr.fin (Phr.more) = Phr.run false ⟨r, m, [], [], []⟩ ([[103]]) := rfl
  generalize Phr.run false ⟨r, m, [], [], []⟩ ([[103]]) = FF at HF ⊢
  obtain ⟨W0, hW0⟩ : ∃ W0, (w.alloc (.cells #[.int .i64 r, .int .i64 m, .string (bs []), .string (bs []), .string (bs [])] 27)).alloc (.cells #[.int .i64 0, .int .i64 0, .string ⟨#[]⟩, .string ⟨#[]⟩, .string ⟨#[]⟩] 27) = W0 := ⟨_, rfl⟩
  obtain ⟨BP, BR, WB, SZ⟩ := Phr.start (⟨r, m, [], [], []⟩ : Cmd) hW0
  simp only at BP
  obtain ⟨ad, rfl⟩ := h.addr
  have X0 : Hid (∀ u, Below w.heap.size w u → u.cell? ad = some (.string (bs [103]))) := Lib.hid (fun u hu => h.at_ (j := 0) rfl hu)
  have x0 := X0.out W0 WB
  have q0 : ((bs [103]).toList == [103]) = true := by rw [bs_tl]; rfl
  obtain ⟨⟨vp0, vr0⟩, ⟨vp1, vr1⟩, ⟨vp2, vr2⟩, ⟨vp3, vr3⟩, ⟨vp4, vr4⟩, vB⟩ := Phr.blk5 BR (.int .i64 0) (.int .i64 0) (.string ⟨#[]⟩) (.string ⟨#[]⟩) (.string ⟨#[]⟩)
  have GG := Phr.put5_gb W0 (w.heap.size + 1) (.int .i64 0) (.int .i64 0) (.string ⟨#[]⟩) (.string ⟨#[]⟩) (.string ⟨#[]⟩)
  unfold Phr.put5 at GG vB
  generalize hv1 : W0.setCell ⟨w.heap.size + 1, 0, none⟩ (.int .i64 0) = v1 at *
  generalize hv2 : v1.setCell ⟨w.heap.size + 1, 1, none⟩ (.int .i64 0) = v2 at *
  generalize hv3 : v2.setCell ⟨w.heap.size + 1, 2, none⟩ (.string ⟨#[]⟩) = v3 at *
  generalize hv4 : v3.setCell ⟨w.heap.size + 1, 3, none⟩ (.string ⟨#[]⟩) = v4 at *
  generalize hv5 : v4.setCell ⟨w.heap.size + 1, 4, none⟩ (.string ⟨#[]⟩) = v5 at *
  have BB := Lib.hid vB
  have W5 := WB.grown GG WB.size (fun j e => by injection e with e; omega)
  clear h BP BR WB
  go_enter Tryz.func14, Tryz.ntmps14
  go_wp2_with fail
  refine ret_five1 rfl rfl BB.out rfl Tryz.underlying27 (by kernel_rfl) ?_
  exact ⟨_, HF, rfl, W5⟩
set_option maxHeartbeats 1000000 in
set_option maxRecDepth 100000 in
theorem ref26_plain_g0 {A : Option Addr} {n : Nat} {r m : Int} {t : List (List UInt8)} {w : World} (h : Ls w A n ([103] :: [117] :: t)) (hm : t.length ≤ 1000) :
    Calls Tryz.prog 14 #[.agg #[.int .i64 r, .int .i64 m, .string (bs []), .string (bs []), .string (bs [])], .slice A (t.length + 1 + 1) n] w (RefFin (Phr.run false ⟨r, m, [], [], []⟩ ([103] :: [117] :: t)) w) := by
  have HF : Phr.fin (Phr.work ⟨r, m, [], [], []⟩ [103, 117] t) = Phr.run false ⟨r, m, [], [], []⟩ ([103] :: [117] :: t) := by rw [Phr.fin_work (by decide)]; rfl
  generalize Phr.run false ⟨r, m, [], [], []⟩ ([103] :: [117] :: t) = FF at HF ⊢
  obtain ⟨W0, hW0⟩ : ∃ W0, (w.alloc (.cells #[.int .i64 r, .int .i64 m, .string (bs []), .string (bs []), .string (bs [])] 27)).alloc (.cells #[.int .i64 0, .int .i64 0, .string ⟨#[]⟩, .string ⟨#[]⟩, .string ⟨#[]⟩] 27) = W0 := ⟨_, rfl⟩
  obtain ⟨BP, BR, WB, SZ⟩ := Phr.start (⟨r, m, [], [], []⟩ : Cmd) hW0
  simp only at BP
  obtain ⟨ad, rfl⟩ := h.addr
  have X0 : Hid (∀ u, Below w.heap.size w u → u.cell? ad = some (.string (bs [103]))) := Lib.hid (fun u hu => h.at_ (j := 0) rfl hu)
  have x0 := X0.out W0 WB
  have X1 : Hid (∀ u, Below w.heap.size w u → u.cell? ⟨ad.block, ad.off + 1, none⟩ = some (.string (bs [117]))) := Lib.hid (fun u hu => h.at_ (j := 1) rfl hu)
  have x1 := X1.out W0 WB
  obtain ⟨T2, hT2⟩ : ∃ T2, bs [103] ++ bs [117] = T2 := ⟨_, rfl⟩
  have hs103 : (bs [103]).size = 1 := rfl
  have hsx : (bs [117]).size = 1 := rfl
  have HT3 : Hid (T2 = bs [103, 117]) := Lib.hid (by rw [← hT2, bs_append]; rfl)
  have sc1 := BP.cell 2
  have sf1 := BP.frozen 2
  have BP1 := BP.set_ 2 (.string T2)
  have BR1 := BR.far (p := ⟨w.heap.size, 2, none⟩) (by show w.heap.size + 1 ≠ w.heap.size; omega) (.string T2)
  have WB1 := WB.setCell (p := ⟨w.heap.size, 2, none⟩) (Nat.le_refl _) (.string T2)
  generalize hs1 : W0.setCell ⟨w.heap.size, 2, none⟩ (.string T2) = W1 at *
  simp at sc1
  have q0 : ((bs [103]).toList == [103]) = true := by rw [bs_tl]; rfl
  have q1 : (T2.toList == [103, 117]) = true := by rw [← hT2, bs_append, bs_tl]; rfl
  have pc0 := BP1.cell 0
  have pc1 := BP1.cell 1
  have pc2 := BP1.cell 2
  have pc3 := BP1.cell 3
  have pc4 := BP1.cell 4
  try simp at pc0 pc1 pc2 pc3 pc4
  obtain ⟨AA, hAA⟩ : ∃ AA, (if n = 2 then (some ad : Option Addr) else some ⟨ad.block, ad.off + 2, none⟩) = AA := ⟨_, rfl⟩
  have L2 : Hid (∀ u, Below w.heap.size w u → Ls u AA (n - 2) (t)) := Lib.hid (fun u hu => (h.below hu).cut hAA)
  have BH : Hid (∀ (u : World) (A : Option Addr) (n : Nat) (h : Ls u A n (t)), Calls Tryz.prog 32 #[.agg #[.int .i64 r, .int .i64 m, .string T2, .string (bs []), .string (bs [])], .slice A (t).length n] u (RefIs (Phr.work ⟨r, m, [], [], []⟩ [103, 117] t) u)) := Lib.hid (by rw [HT3.out]; exact fun u A n h => ref26_work (op := [103, 117]) h (by decide) hm)
  obtain ⟨X, hX⟩ : ∃ X, Phr.work ⟨r, m, [], [], []⟩ [103, 117] t = X := ⟨_, rfl⟩
  rw [hX] at BH HF
  clear hX h BP BR WB BP1
  go_enter Tryz.func14, Tryz.ntmps14
  go_wp2_with fail
  go_region_with (go_at_call 32; refine (BH.out _ _ _ (L2.out _ WB1.drew)).mono ?_; rintro e w4 ⟨rfl, hb4⟩; have BR4 := BR1.drew.below hb4 BR1.drew.lt; have W4 := WB1.drew.trans (hb4.mono WB1.drew.size); obtain ⟨⟨vp0, vr0⟩, ⟨vp1, vr1⟩, ⟨vp2, vr2⟩, ⟨vp3, vr3⟩, ⟨vp4, vr4⟩, vB⟩ := Phr.blk5 BR4 (.int .i64 X.1.reg) (.int .i64 X.1.count) (.string (bs X.1.op)) (.string (bs X.1.key)) (.string (bs X.1.arg)); have GG := Phr.put5_gb w4 (w.heap.size + 1) (.int .i64 X.1.reg) (.int .i64 X.1.count) (.string (bs X.1.op)) (.string (bs X.1.key)) (.string (bs X.1.arg)); unfold Phr.put5 at GG vB; generalize hv1 : w4.setCell ⟨w.heap.size + 1, 0, none⟩ (.int .i64 X.1.reg) = v1 at *; generalize hv2 : v1.setCell ⟨w.heap.size + 1, 1, none⟩ (.int .i64 X.1.count) = v2 at *; generalize hv3 : v2.setCell ⟨w.heap.size + 1, 2, none⟩ (.string (bs X.1.op)) = v3 at *; generalize hv4 : v3.setCell ⟨w.heap.size + 1, 3, none⟩ (.string (bs X.1.key)) = v4 at *; generalize hv5 : v4.setCell ⟨w.heap.size + 1, 4, none⟩ (.string (bs X.1.arg)) = v5 at *; have BB := Lib.hid vB; have W5 := W4.grown GG W4.size (fun j e => by injection e with e; omega); clear hb4 BR4 W4)
  all_goals
    go_wp2_with fail
    refine ret_five1 rfl rfl BB.out rfl Tryz.underlying27 (by kernel_rfl) ?_
    exact ⟨_, HF, rfl, W5⟩
set_option maxHeartbeats 1000000 in
set_option maxRecDepth 100000 in
theorem ref26_plain_g1 {A : Option Addr} {n : Nat} {r m : Int} {t : List (List UInt8)} {w : World} (h : Ls w A n ([103] :: [85] :: t)) (hm : t.length ≤ 1000) :
    Calls Tryz.prog 14 #[.agg #[.int .i64 r, .int .i64 m, .string (bs []), .string (bs []), .string (bs [])], .slice A (t.length + 1 + 1) n] w (RefFin (Phr.run false ⟨r, m, [], [], []⟩ ([103] :: [85] :: t)) w) := by
  have HF : Phr.fin (Phr.work ⟨r, m, [], [], []⟩ [103, 85] t) = Phr.run false ⟨r, m, [], [], []⟩ ([103] :: [85] :: t) := by rw [Phr.fin_work (by decide)]; rfl
  generalize Phr.run false ⟨r, m, [], [], []⟩ ([103] :: [85] :: t) = FF at HF ⊢
  obtain ⟨W0, hW0⟩ : ∃ W0, (w.alloc (.cells #[.int .i64 r, .int .i64 m, .string (bs []), .string (bs []), .string (bs [])] 27)).alloc (.cells #[.int .i64 0, .int .i64 0, .string ⟨#[]⟩, .string ⟨#[]⟩, .string ⟨#[]⟩] 27) = W0 := ⟨_, rfl⟩
  obtain ⟨BP, BR, WB, SZ⟩ := Phr.start (⟨r, m, [], [], []⟩ : Cmd) hW0
  simp only at BP
  obtain ⟨ad, rfl⟩ := h.addr
  have X0 : Hid (∀ u, Below w.heap.size w u → u.cell? ad = some (.string (bs [103]))) := Lib.hid (fun u hu => h.at_ (j := 0) rfl hu)
  have x0 := X0.out W0 WB
  have X1 : Hid (∀ u, Below w.heap.size w u → u.cell? ⟨ad.block, ad.off + 1, none⟩ = some (.string (bs [85]))) := Lib.hid (fun u hu => h.at_ (j := 1) rfl hu)
  have x1 := X1.out W0 WB
  obtain ⟨T2, hT2⟩ : ∃ T2, bs [103] ++ bs [85] = T2 := ⟨_, rfl⟩
  have hs103 : (bs [103]).size = 1 := rfl
  have hsx : (bs [85]).size = 1 := rfl
  have HT3 : Hid (T2 = bs [103, 85]) := Lib.hid (by rw [← hT2, bs_append]; rfl)
  have sc1 := BP.cell 2
  have sf1 := BP.frozen 2
  have BP1 := BP.set_ 2 (.string T2)
  have BR1 := BR.far (p := ⟨w.heap.size, 2, none⟩) (by show w.heap.size + 1 ≠ w.heap.size; omega) (.string T2)
  have WB1 := WB.setCell (p := ⟨w.heap.size, 2, none⟩) (Nat.le_refl _) (.string T2)
  generalize hs1 : W0.setCell ⟨w.heap.size, 2, none⟩ (.string T2) = W1 at *
  simp at sc1
  have q0 : ((bs [103]).toList == [103]) = true := by rw [bs_tl]; rfl
  have q1 : (T2.toList == [103, 117]) = false := by rw [← hT2, bs_append, bs_tl]; rfl
  have q2 : (T2.toList == [103, 85]) = true := by rw [← hT2, bs_append, bs_tl]; rfl
  have pc0 := BP1.cell 0
  have pc1 := BP1.cell 1
  have pc2 := BP1.cell 2
  have pc3 := BP1.cell 3
  have pc4 := BP1.cell 4
  try simp at pc0 pc1 pc2 pc3 pc4
  obtain ⟨AA, hAA⟩ : ∃ AA, (if n = 2 then (some ad : Option Addr) else some ⟨ad.block, ad.off + 2, none⟩) = AA := ⟨_, rfl⟩
  have L2 : Hid (∀ u, Below w.heap.size w u → Ls u AA (n - 2) (t)) := Lib.hid (fun u hu => (h.below hu).cut hAA)
  have BH : Hid (∀ (u : World) (A : Option Addr) (n : Nat) (h : Ls u A n (t)), Calls Tryz.prog 32 #[.agg #[.int .i64 r, .int .i64 m, .string T2, .string (bs []), .string (bs [])], .slice A (t).length n] u (RefIs (Phr.work ⟨r, m, [], [], []⟩ [103, 85] t) u)) := Lib.hid (by rw [HT3.out]; exact fun u A n h => ref26_work (op := [103, 85]) h (by decide) hm)
  obtain ⟨X, hX⟩ : ∃ X, Phr.work ⟨r, m, [], [], []⟩ [103, 85] t = X := ⟨_, rfl⟩
  rw [hX] at BH HF
  clear hX h BP BR WB BP1
  go_enter Tryz.func14, Tryz.ntmps14
  go_wp2_with fail
  go_region_with (go_at_call 32; refine (BH.out _ _ _ (L2.out _ WB1.drew)).mono ?_; rintro e w4 ⟨rfl, hb4⟩; have BR4 := BR1.drew.below hb4 BR1.drew.lt; have W4 := WB1.drew.trans (hb4.mono WB1.drew.size); obtain ⟨⟨vp0, vr0⟩, ⟨vp1, vr1⟩, ⟨vp2, vr2⟩, ⟨vp3, vr3⟩, ⟨vp4, vr4⟩, vB⟩ := Phr.blk5 BR4 (.int .i64 X.1.reg) (.int .i64 X.1.count) (.string (bs X.1.op)) (.string (bs X.1.key)) (.string (bs X.1.arg)); have GG := Phr.put5_gb w4 (w.heap.size + 1) (.int .i64 X.1.reg) (.int .i64 X.1.count) (.string (bs X.1.op)) (.string (bs X.1.key)) (.string (bs X.1.arg)); unfold Phr.put5 at GG vB; generalize hv1 : w4.setCell ⟨w.heap.size + 1, 0, none⟩ (.int .i64 X.1.reg) = v1 at *; generalize hv2 : v1.setCell ⟨w.heap.size + 1, 1, none⟩ (.int .i64 X.1.count) = v2 at *; generalize hv3 : v2.setCell ⟨w.heap.size + 1, 2, none⟩ (.string (bs X.1.op)) = v3 at *; generalize hv4 : v3.setCell ⟨w.heap.size + 1, 3, none⟩ (.string (bs X.1.key)) = v4 at *; generalize hv5 : v4.setCell ⟨w.heap.size + 1, 4, none⟩ (.string (bs X.1.arg)) = v5 at *; have BB := Lib.hid vB; have W5 := W4.grown GG W4.size (fun j e => by injection e with e; omega); clear hb4 BR4 W4)
  all_goals
    go_wp2_with fail
    refine ret_five1 rfl rfl BB.out rfl Tryz.underlying27 (by kernel_rfl) ?_
    exact ⟨_, HF, rfl, W5⟩
set_option maxHeartbeats 1000000 in
set_option maxRecDepth 100000 in
theorem ref26_plain_g2 {A : Option Addr} {n : Nat} {r m : Int} {t : List (List UInt8)} {w : World} (h : Ls w A n ([103] :: [126] :: t)) (hm : t.length ≤ 1000) :
    Calls Tryz.prog 14 #[.agg #[.int .i64 r, .int .i64 m, .string (bs []), .string (bs []), .string (bs [])], .slice A (t.length + 1 + 1) n] w (RefFin (Phr.run false ⟨r, m, [], [], []⟩ ([103] :: [126] :: t)) w) := by
  have HF : Phr.fin (Phr.work ⟨r, m, [], [], []⟩ [103, 126] t) = Phr.run false ⟨r, m, [], [], []⟩ ([103] :: [126] :: t) := by rw [Phr.fin_work (by decide)]; rfl
  generalize Phr.run false ⟨r, m, [], [], []⟩ ([103] :: [126] :: t) = FF at HF ⊢
  obtain ⟨W0, hW0⟩ : ∃ W0, (w.alloc (.cells #[.int .i64 r, .int .i64 m, .string (bs []), .string (bs []), .string (bs [])] 27)).alloc (.cells #[.int .i64 0, .int .i64 0, .string ⟨#[]⟩, .string ⟨#[]⟩, .string ⟨#[]⟩] 27) = W0 := ⟨_, rfl⟩
  obtain ⟨BP, BR, WB, SZ⟩ := Phr.start (⟨r, m, [], [], []⟩ : Cmd) hW0
  simp only at BP
  obtain ⟨ad, rfl⟩ := h.addr
  have X0 : Hid (∀ u, Below w.heap.size w u → u.cell? ad = some (.string (bs [103]))) := Lib.hid (fun u hu => h.at_ (j := 0) rfl hu)
  have x0 := X0.out W0 WB
  have X1 : Hid (∀ u, Below w.heap.size w u → u.cell? ⟨ad.block, ad.off + 1, none⟩ = some (.string (bs [126]))) := Lib.hid (fun u hu => h.at_ (j := 1) rfl hu)
  have x1 := X1.out W0 WB
  obtain ⟨T2, hT2⟩ : ∃ T2, bs [103] ++ bs [126] = T2 := ⟨_, rfl⟩
  have hs103 : (bs [103]).size = 1 := rfl
  have hsx : (bs [126]).size = 1 := rfl
  have HT3 : Hid (T2 = bs [103, 126]) := Lib.hid (by rw [← hT2, bs_append]; rfl)
  have sc1 := BP.cell 2
  have sf1 := BP.frozen 2
  have BP1 := BP.set_ 2 (.string T2)
  have BR1 := BR.far (p := ⟨w.heap.size, 2, none⟩) (by show w.heap.size + 1 ≠ w.heap.size; omega) (.string T2)
  have WB1 := WB.setCell (p := ⟨w.heap.size, 2, none⟩) (Nat.le_refl _) (.string T2)
  generalize hs1 : W0.setCell ⟨w.heap.size, 2, none⟩ (.string T2) = W1 at *
  simp at sc1
  have q0 : ((bs [103]).toList == [103]) = true := by rw [bs_tl]; rfl
  have q1 : (T2.toList == [103, 117]) = false := by rw [← hT2, bs_append, bs_tl]; rfl
  have q2 : (T2.toList == [103, 85]) = false := by rw [← hT2, bs_append, bs_tl]; rfl
  have q3 : (T2.toList == [103, 126]) = true := by rw [← hT2, bs_append, bs_tl]; rfl
  have pc0 := BP1.cell 0
  have pc1 := BP1.cell 1
  have pc2 := BP1.cell 2
  have pc3 := BP1.cell 3
  have pc4 := BP1.cell 4
  try simp at pc0 pc1 pc2 pc3 pc4
  obtain ⟨AA, hAA⟩ : ∃ AA, (if n = 2 then (some ad : Option Addr) else some ⟨ad.block, ad.off + 2, none⟩) = AA := ⟨_, rfl⟩
  have L2 : Hid (∀ u, Below w.heap.size w u → Ls u AA (n - 2) (t)) := Lib.hid (fun u hu => (h.below hu).cut hAA)
  have BH : Hid (∀ (u : World) (A : Option Addr) (n : Nat) (h : Ls u A n (t)), Calls Tryz.prog 32 #[.agg #[.int .i64 r, .int .i64 m, .string T2, .string (bs []), .string (bs [])], .slice A (t).length n] u (RefIs (Phr.work ⟨r, m, [], [], []⟩ [103, 126] t) u)) := Lib.hid (by rw [HT3.out]; exact fun u A n h => ref26_work (op := [103, 126]) h (by decide) hm)
  obtain ⟨X, hX⟩ : ∃ X, Phr.work ⟨r, m, [], [], []⟩ [103, 126] t = X := ⟨_, rfl⟩
  rw [hX] at BH HF
  clear hX h BP BR WB BP1
  go_enter Tryz.func14, Tryz.ntmps14
  go_wp2_with fail
  go_region_with (go_at_call 32; refine (BH.out _ _ _ (L2.out _ WB1.drew)).mono ?_; rintro e w4 ⟨rfl, hb4⟩; have BR4 := BR1.drew.below hb4 BR1.drew.lt; have W4 := WB1.drew.trans (hb4.mono WB1.drew.size); obtain ⟨⟨vp0, vr0⟩, ⟨vp1, vr1⟩, ⟨vp2, vr2⟩, ⟨vp3, vr3⟩, ⟨vp4, vr4⟩, vB⟩ := Phr.blk5 BR4 (.int .i64 X.1.reg) (.int .i64 X.1.count) (.string (bs X.1.op)) (.string (bs X.1.key)) (.string (bs X.1.arg)); have GG := Phr.put5_gb w4 (w.heap.size + 1) (.int .i64 X.1.reg) (.int .i64 X.1.count) (.string (bs X.1.op)) (.string (bs X.1.key)) (.string (bs X.1.arg)); unfold Phr.put5 at GG vB; generalize hv1 : w4.setCell ⟨w.heap.size + 1, 0, none⟩ (.int .i64 X.1.reg) = v1 at *; generalize hv2 : v1.setCell ⟨w.heap.size + 1, 1, none⟩ (.int .i64 X.1.count) = v2 at *; generalize hv3 : v2.setCell ⟨w.heap.size + 1, 2, none⟩ (.string (bs X.1.op)) = v3 at *; generalize hv4 : v3.setCell ⟨w.heap.size + 1, 3, none⟩ (.string (bs X.1.key)) = v4 at *; generalize hv5 : v4.setCell ⟨w.heap.size + 1, 4, none⟩ (.string (bs X.1.arg)) = v5 at *; have BB := Lib.hid vB; have W5 := W4.grown GG W4.size (fun j e => by injection e with e; omega); clear hb4 BR4 W4)
  all_goals
    go_wp2_with fail
    refine ret_five1 rfl rfl BB.out rfl Tryz.underlying27 (by kernel_rfl) ?_
    exact ⟨_, HF, rfl, W5⟩
set_option maxHeartbeats 1000000 in
set_option maxRecDepth 100000 in
theorem ref26_plain_g3 {A : Option Addr} {n : Nat} {r m : Int} {t : List (List UInt8)} {w : World} (h : Ls w A n ([103] :: [45] :: t))  :
    Calls Tryz.prog 14 #[.agg #[.int .i64 r, .int .i64 m, .string (bs []), .string (bs []), .string (bs [])], .slice A (t.length + 1 + 1) n] w (RefFin (Phr.run false ⟨r, m, [], [], []⟩ ([103] :: [45] :: t)) w) := by
  have HF : Phr.fin (Phr.last ⟨r, m, [], [103, 45], []⟩ t) = Phr.run false ⟨r, m, [], [], []⟩ ([103] :: [45] :: t) := by show Phr.fin (Phr.goes ⟨r, m, [], [103, 45], []⟩ 0 (t)) = _; rw [Phr.fin_goes]; rfl
  generalize Phr.run false ⟨r, m, [], [], []⟩ ([103] :: [45] :: t) = FF at HF ⊢
  obtain ⟨W0, hW0⟩ : ∃ W0, (w.alloc (.cells #[.int .i64 r, .int .i64 m, .string (bs []), .string (bs []), .string (bs [])] 27)).alloc (.cells #[.int .i64 0, .int .i64 0, .string ⟨#[]⟩, .string ⟨#[]⟩, .string ⟨#[]⟩] 27) = W0 := ⟨_, rfl⟩
  obtain ⟨BP, BR, WB, SZ⟩ := Phr.start (⟨r, m, [], [], []⟩ : Cmd) hW0
  simp only at BP
  obtain ⟨ad, rfl⟩ := h.addr
  have X0 : Hid (∀ u, Below w.heap.size w u → u.cell? ad = some (.string (bs [103]))) := Lib.hid (fun u hu => h.at_ (j := 0) rfl hu)
  have x0 := X0.out W0 WB
  have X1 : Hid (∀ u, Below w.heap.size w u → u.cell? ⟨ad.block, ad.off + 1, none⟩ = some (.string (bs [45]))) := Lib.hid (fun u hu => h.at_ (j := 1) rfl hu)
  have x1 := X1.out W0 WB
  obtain ⟨T2, hT2⟩ : ∃ T2, bs [103] ++ bs [45] = T2 := ⟨_, rfl⟩
  have hs103 : (bs [103]).size = 1 := rfl
  have hsx : (bs [45]).size = 1 := rfl
  have HT3 : Hid (T2 = bs [103, 45]) := Lib.hid (by rw [← hT2, bs_append]; rfl)
  have sc1 := BP.cell 3
  have sf1 := BP.frozen 3
  have BP1 := BP.set_ 3 (.string T2)
  have BR1 := BR.far (p := ⟨w.heap.size, 3, none⟩) (by show w.heap.size + 1 ≠ w.heap.size; omega) (.string T2)
  have WB1 := WB.setCell (p := ⟨w.heap.size, 3, none⟩) (Nat.le_refl _) (.string T2)
  generalize hs1 : W0.setCell ⟨w.heap.size, 3, none⟩ (.string T2) = W1 at *
  simp at sc1
  have q0 : ((bs [103]).toList == [103]) = true := by rw [bs_tl]; rfl
  have q1 : (T2.toList == [103, 117]) = false := by rw [← hT2, bs_append, bs_tl]; rfl
  have q2 : (T2.toList == [103, 85]) = false := by rw [← hT2, bs_append, bs_tl]; rfl
  have q3 : (T2.toList == [103, 126]) = false := by rw [← hT2, bs_append, bs_tl]; rfl
  have q4 : (T2.toList == [103, 45]) = true := by rw [← hT2, bs_append, bs_tl]; rfl
  have pc0 := BP1.cell 0
  have pc1 := BP1.cell 1
  have pc2 := BP1.cell 2
  have pc3 := BP1.cell 3
  have pc4 := BP1.cell 4
  try simp at pc0 pc1 pc2 pc3 pc4
  obtain ⟨AA, hAA⟩ : ∃ AA, (if n = 2 then (some ad : Option Addr) else some ⟨ad.block, ad.off + 2, none⟩) = AA := ⟨_, rfl⟩
  have L2 : Hid (∀ u, Below w.heap.size w u → Ls u AA (n - 2) (t)) := Lib.hid (fun u hu => (h.below hu).cut hAA)
  have BH : Hid (∀ (u : World) (A : Option Addr) (n : Nat) (_ : Ls u A n (t)), Calls Tryz.prog 33 #[.agg #[.int .i64 r, .int .i64 m, .string (bs []), .string T2, .string (bs [])], .slice A (t).length n] u (RefIs (Phr.last ⟨r, m, [], [103, 45], []⟩ (t)) u)) := Lib.hid (by rw [HT3.out]; exact fun u A n _ => ref26_last ⟨r, m, [], [103, 45], []⟩ u)
  obtain ⟨X, hX⟩ : ∃ X, Phr.last ⟨r, m, [], [103, 45], []⟩ t = X := ⟨_, rfl⟩
  rw [hX] at BH HF
  clear hX h BP BR WB BP1
  go_enter Tryz.func14, Tryz.ntmps14
  go_wp2_with fail
  go_region_with (go_at_call 33; refine (BH.out _ _ _ (L2.out _ WB1.drew)).mono ?_; rintro e w4 ⟨rfl, hb4⟩; have BR4 := BR1.drew.below hb4 BR1.drew.lt; have W4 := WB1.drew.trans (hb4.mono WB1.drew.size); obtain ⟨⟨vp0, vr0⟩, ⟨vp1, vr1⟩, ⟨vp2, vr2⟩, ⟨vp3, vr3⟩, ⟨vp4, vr4⟩, vB⟩ := Phr.blk5 BR4 (.int .i64 X.1.reg) (.int .i64 X.1.count) (.string (bs X.1.op)) (.string (bs X.1.key)) (.string (bs X.1.arg)); have GG := Phr.put5_gb w4 (w.heap.size + 1) (.int .i64 X.1.reg) (.int .i64 X.1.count) (.string (bs X.1.op)) (.string (bs X.1.key)) (.string (bs X.1.arg)); unfold Phr.put5 at GG vB; generalize hv1 : w4.setCell ⟨w.heap.size + 1, 0, none⟩ (.int .i64 X.1.reg) = v1 at *; generalize hv2 : v1.setCell ⟨w.heap.size + 1, 1, none⟩ (.int .i64 X.1.count) = v2 at *; generalize hv3 : v2.setCell ⟨w.heap.size + 1, 2, none⟩ (.string (bs X.1.op)) = v3 at *; generalize hv4 : v3.setCell ⟨w.heap.size + 1, 3, none⟩ (.string (bs X.1.key)) = v4 at *; generalize hv5 : v4.setCell ⟨w.heap.size + 1, 4, none⟩ (.string (bs X.1.arg)) = v5 at *; have BB := Lib.hid vB; have W5 := W4.grown GG W4.size (fun j e => by injection e with e; omega); clear hb4 BR4 W4)
  all_goals
    go_wp2_with fail
    refine ret_five1 rfl rfl BB.out rfl Tryz.underlying27 (by kernel_rfl) ?_
    exact ⟨_, HF, rfl, W5⟩
set_option maxHeartbeats 1000000 in
set_option maxRecDepth 100000 in
theorem ref26_plain_g4 {A : Option Addr} {n : Nat} {r m : Int} {t : List (List UInt8)} {w : World} (h : Ls w A n ([103] :: [43] :: t))  :
    Calls Tryz.prog 14 #[.agg #[.int .i64 r, .int .i64 m, .string (bs []), .string (bs []), .string (bs [])], .slice A (t.length + 1 + 1) n] w (RefFin (Phr.run false ⟨r, m, [], [], []⟩ ([103] :: [43] :: t)) w) := by
  have HF : Phr.fin (Phr.last ⟨r, m, [], [103, 43], []⟩ t) = Phr.run false ⟨r, m, [], [], []⟩ ([103] :: [43] :: t) := by show Phr.fin (Phr.goes ⟨r, m, [], [103, 43], []⟩ 0 (t)) = _; rw [Phr.fin_goes]; rfl
  generalize Phr.run false ⟨r, m, [], [], []⟩ ([103] :: [43] :: t) = FF at HF ⊢
  obtain ⟨W0, hW0⟩ : ∃ W0, (w.alloc (.cells #[.int .i64 r, .int .i64 m, .string (bs []), .string (bs []), .string (bs [])] 27)).alloc (.cells #[.int .i64 0, .int .i64 0, .string ⟨#[]⟩, .string ⟨#[]⟩, .string ⟨#[]⟩] 27) = W0 := ⟨_, rfl⟩
  obtain ⟨BP, BR, WB, SZ⟩ := Phr.start (⟨r, m, [], [], []⟩ : Cmd) hW0
  simp only at BP
  obtain ⟨ad, rfl⟩ := h.addr
  have X0 : Hid (∀ u, Below w.heap.size w u → u.cell? ad = some (.string (bs [103]))) := Lib.hid (fun u hu => h.at_ (j := 0) rfl hu)
  have x0 := X0.out W0 WB
  have X1 : Hid (∀ u, Below w.heap.size w u → u.cell? ⟨ad.block, ad.off + 1, none⟩ = some (.string (bs [43]))) := Lib.hid (fun u hu => h.at_ (j := 1) rfl hu)
  have x1 := X1.out W0 WB
  obtain ⟨T2, hT2⟩ : ∃ T2, bs [103] ++ bs [43] = T2 := ⟨_, rfl⟩
  have hs103 : (bs [103]).size = 1 := rfl
  have hsx : (bs [43]).size = 1 := rfl
  have HT3 : Hid (T2 = bs [103, 43]) := Lib.hid (by rw [← hT2, bs_append]; rfl)
  have sc1 := BP.cell 3
  have sf1 := BP.frozen 3
  have BP1 := BP.set_ 3 (.string T2)
  have BR1 := BR.far (p := ⟨w.heap.size, 3, none⟩) (by show w.heap.size + 1 ≠ w.heap.size; omega) (.string T2)
  have WB1 := WB.setCell (p := ⟨w.heap.size, 3, none⟩) (Nat.le_refl _) (.string T2)
  generalize hs1 : W0.setCell ⟨w.heap.size, 3, none⟩ (.string T2) = W1 at *
  simp at sc1
  have q0 : ((bs [103]).toList == [103]) = true := by rw [bs_tl]; rfl
  have q1 : (T2.toList == [103, 117]) = false := by rw [← hT2, bs_append, bs_tl]; rfl
  have q2 : (T2.toList == [103, 85]) = false := by rw [← hT2, bs_append, bs_tl]; rfl
  have q3 : (T2.toList == [103, 126]) = false := by rw [← hT2, bs_append, bs_tl]; rfl
  have q4 : (T2.toList == [103, 45]) = false := by rw [← hT2, bs_append, bs_tl]; rfl
  have q5 : (T2.toList == [103, 43]) = true := by rw [← hT2, bs_append, bs_tl]; rfl
  have pc0 := BP1.cell 0
  have pc1 := BP1.cell 1
  have pc2 := BP1.cell 2
  have pc3 := BP1.cell 3
  have pc4 := BP1.cell 4
  try simp at pc0 pc1 pc2 pc3 pc4
  obtain ⟨AA, hAA⟩ : ∃ AA, (if n = 2 then (some ad : Option Addr) else some ⟨ad.block, ad.off + 2, none⟩) = AA := ⟨_, rfl⟩
  have L2 : Hid (∀ u, Below w.heap.size w u → Ls u AA (n - 2) (t)) := Lib.hid (fun u hu => (h.below hu).cut hAA)
  have BH : Hid (∀ (u : World) (A : Option Addr) (n : Nat) (_ : Ls u A n (t)), Calls Tryz.prog 33 #[.agg #[.int .i64 r, .int .i64 m, .string (bs []), .string T2, .string (bs [])], .slice A (t).length n] u (RefIs (Phr.last ⟨r, m, [], [103, 43], []⟩ (t)) u)) := Lib.hid (by rw [HT3.out]; exact fun u A n _ => ref26_last ⟨r, m, [], [103, 43], []⟩ u)
  obtain ⟨X, hX⟩ : ∃ X, Phr.last ⟨r, m, [], [103, 43], []⟩ t = X := ⟨_, rfl⟩
  rw [hX] at BH HF
  clear hX h BP BR WB BP1
  go_enter Tryz.func14, Tryz.ntmps14
  go_wp2_with fail
  go_region_with (go_at_call 33; refine (BH.out _ _ _ (L2.out _ WB1.drew)).mono ?_; rintro e w4 ⟨rfl, hb4⟩; have BR4 := BR1.drew.below hb4 BR1.drew.lt; have W4 := WB1.drew.trans (hb4.mono WB1.drew.size); obtain ⟨⟨vp0, vr0⟩, ⟨vp1, vr1⟩, ⟨vp2, vr2⟩, ⟨vp3, vr3⟩, ⟨vp4, vr4⟩, vB⟩ := Phr.blk5 BR4 (.int .i64 X.1.reg) (.int .i64 X.1.count) (.string (bs X.1.op)) (.string (bs X.1.key)) (.string (bs X.1.arg)); have GG := Phr.put5_gb w4 (w.heap.size + 1) (.int .i64 X.1.reg) (.int .i64 X.1.count) (.string (bs X.1.op)) (.string (bs X.1.key)) (.string (bs X.1.arg)); unfold Phr.put5 at GG vB; generalize hv1 : w4.setCell ⟨w.heap.size + 1, 0, none⟩ (.int .i64 X.1.reg) = v1 at *; generalize hv2 : v1.setCell ⟨w.heap.size + 1, 1, none⟩ (.int .i64 X.1.count) = v2 at *; generalize hv3 : v2.setCell ⟨w.heap.size + 1, 2, none⟩ (.string (bs X.1.op)) = v3 at *; generalize hv4 : v3.setCell ⟨w.heap.size + 1, 3, none⟩ (.string (bs X.1.key)) = v4 at *; generalize hv5 : v4.setCell ⟨w.heap.size + 1, 4, none⟩ (.string (bs X.1.arg)) = v5 at *; have BB := Lib.hid vB; have W5 := W4.grown GG W4.size (fun j e => by injection e with e; omega); clear hb4 BR4 W4)
  all_goals
    go_wp2_with fail
    refine ret_five1 rfl rfl BB.out rfl Tryz.underlying27 (by kernel_rfl) ?_
    exact ⟨_, HF, rfl, W5⟩
set_option maxHeartbeats 1000000 in
set_option maxRecDepth 100000 in
theorem ref26_plain_gx {A : Option Addr} {n : Nat} {r m : Int} {x : List UInt8} {t : List (List UInt8)} {w : World} (h : Ls w A n ([103] :: x :: t)) (hx0 : x ≠ [117]) (hx1 : x ≠ [85]) (hx2 : x ≠ [126]) (hx3 : x ≠ [45]) (hx4 : x ≠ [43]) :
    Calls Tryz.prog 14 #[.agg #[.int .i64 r, .int .i64 m, .string (bs []), .string (bs []), .string (bs [])], .slice A (t.length + 1 + 1) n] w (RefFin (Phr.run false ⟨r, m, [], [], []⟩ ([103] :: x :: t)) w) := by
  have HF : Phr.fin (Phr.rmot ⟨r, m, [], [], []⟩ false [103] (x :: t)) = Phr.run false ⟨r, m, [], [], []⟩ ([103] :: x :: t) := Phr.plain_motion (by decide) (fun y hy => h.ones y (List.mem_cons_of_mem _ hy)) (.inr (by simp)) (by decide) (by decide) (fun y hy => .inl (by simp at hy; subst hy; simp [hx0, hx1, hx2, hx3, hx4]))
  generalize Phr.run false ⟨r, m, [], [], []⟩ ([103] :: x :: t) = FF at HF ⊢
  obtain ⟨W0, hW0⟩ : ∃ W0, (w.alloc (.cells #[.int .i64 r, .int .i64 m, .string (bs []), .string (bs []), .string (bs [])] 27)).alloc (.cells #[.int .i64 0, .int .i64 0, .string ⟨#[]⟩, .string ⟨#[]⟩, .string ⟨#[]⟩] 27) = W0 := ⟨_, rfl⟩
  obtain ⟨BP, BR, WB, SZ⟩ := Phr.start (⟨r, m, [], [], []⟩ : Cmd) hW0
  simp only at BP
  obtain ⟨ad, rfl⟩ := h.addr
  have X0 : Hid (∀ u, Below w.heap.size w u → u.cell? ad = some (.string (bs [103]))) := Lib.hid (fun u hu => h.at_ (j := 0) rfl hu)
  have x0 := X0.out W0 WB
  have X1 : Hid (∀ u, Below w.heap.size w u → u.cell? ⟨ad.block, ad.off + 1, none⟩ = some (.string (bs x))) := Lib.hid (fun u hu => h.at_ (j := 1) rfl hu)
  have x1 := X1.out W0 WB
  obtain ⟨T2, hT2⟩ : ∃ T2, bs [103] ++ bs x = T2 := ⟨_, rfl⟩
  have hs103 : (bs [103]).size = 1 := rfl
  have hsx : (bs x).size ≤ 4 := by rw [bs_size]; exact Utf.one_le (h.ones x (by simp))
  have hxn : x ≠ [] := Utf.one_ne (h.ones x (by simp))
  have q0 : ((bs [103]).toList == [103]) = true := by rw [bs_tl]; rfl
  have q1 : (T2.toList == [103, 117]) = false := by rw [← hT2, bs_append, bs_tl, beq_eq_false_iff_ne]; intro e; exact hx0 (by injection e)
  have q2 : (T2.toList == [103, 85]) = false := by rw [← hT2, bs_append, bs_tl, beq_eq_false_iff_ne]; intro e; exact hx1 (by injection e)
  have q3 : (T2.toList == [103, 126]) = false := by rw [← hT2, bs_append, bs_tl, beq_eq_false_iff_ne]; intro e; exact hx2 (by injection e)
  have q4 : (T2.toList == [103, 45]) = false := by rw [← hT2, bs_append, bs_tl, beq_eq_false_iff_ne]; intro e; exact hx3 (by injection e)
  have q5 : (T2.toList == [103, 43]) = false := by rw [← hT2, bs_append, bs_tl, beq_eq_false_iff_ne]; intro e; exact hx4 (by injection e)
  have q6 : (T2.toList == [100]) = false := by rw [← hT2, bs_append, bs_tl, beq_eq_false_iff_ne]; intro e; cases e
  have q7 : (T2.toList == [99]) = false := by rw [← hT2, bs_append, bs_tl, beq_eq_false_iff_ne]; intro e; cases e
  have q8 : (T2.toList == [121]) = false := by rw [← hT2, bs_append, bs_tl, beq_eq_false_iff_ne]; intro e; cases e
  have q9 : (T2.toList == [62]) = false := by rw [← hT2, bs_append, bs_tl, beq_eq_false_iff_ne]; intro e; cases e
  have q10 : (T2.toList == [60]) = false := by rw [← hT2, bs_append, bs_tl, beq_eq_false_iff_ne]; intro e; cases e
  have q11 : (T2.toList == [120]) = false := by rw [← hT2, bs_append, bs_tl, beq_eq_false_iff_ne]; intro e; cases e
  have q12 : (T2.toList == [88]) = false := by rw [← hT2, bs_append, bs_tl, beq_eq_false_iff_ne]; intro e; cases e
  have q13 : (T2.toList == [68]) = false := by rw [← hT2, bs_append, bs_tl, beq_eq_false_iff_ne]; intro e; cases e
  have q14 : (T2.toList == [67]) = false := by rw [← hT2, bs_append, bs_tl, beq_eq_false_iff_ne]; intro e; cases e
  have q15 : (T2.toList == [115]) = false := by rw [← hT2, bs_append, bs_tl, beq_eq_false_iff_ne]; intro e; cases e
  have q16 : (T2.toList == [83]) = false := by rw [← hT2, bs_append, bs_tl, beq_eq_false_iff_ne]; intro e; cases e
  have q17 : (T2.toList == [89]) = false := by rw [← hT2, bs_append, bs_tl, beq_eq_false_iff_ne]; intro e; cases e
  have q18 : (T2.toList == [114]) = false := by rw [← hT2, bs_append, bs_tl, beq_eq_false_iff_ne]; intro e; cases e
  have q19 : (T2.toList == [109]) = false := by rw [← hT2, bs_append, bs_tl, beq_eq_false_iff_ne]; intro e; cases e
  have I := Lib.hid (fun (w : World) => ref26_in ([103]) ⟨#[112, 80, 74, 126, 117, 46, 105, 97, 73, 65, 111, 79, 118, 86, 58, 47, 63, 18]⟩ (by decide) w)
  rw [show decide (([103]) ∈ (⟨#[112, 80, 74, 126, 117, 46, 105, 97, 73, 65, 111, 79, 118, 86, 58, 47, 63, 18]⟩ : ByteArray).data.toList.map ([·])) = false from by decide] at I
  have pc0 := BP.cell 0
  have pc1 := BP.cell 1
  have pc2 := BP.cell 2
  have pc3 := BP.cell 3
  have pc4 := BP.cell 4
  try simp at pc0 pc1 pc2 pc3 pc4
  have BH := Lib.hid (fun (u : World) (hu : Below w.heap.size w u) => show Calls Tryz.prog 35 #[.agg #[.int .i64 r, .int .i64 m, .string (bs []), .string (bs []), .string (bs [])], .slice (some ad) (t.length + 1 + 1) n, .bool false] u (RefIs (Phr.rmot ⟨r, m, [], [], []⟩ false [103] (x :: t)) u) from ref26_motion ⟨r, m, [], [], []⟩ false (h.below hu))
  obtain ⟨X, hX⟩ : ∃ X, Phr.rmot ⟨r, m, [], [], []⟩ false [103] (x :: t) = X := ⟨_, rfl⟩
  rw [hX] at BH HF
  have BH1 := Lib.hid (BH.out W0 WB)
  clear hX h BP
  go_enter Tryz.func14, Tryz.ntmps14
  go_wp2_with (first
    | (go_at_call 29; (with_reducible refine (I.out _).mono ?_); rintro e w1 ⟨rfl, rfl⟩)
    | (go_at_call 35; refine BH1.out.mono ?_; rintro e w4 ⟨rfl, hb4⟩; have BR4 := BR.below hb4 BR.lt; have W4 := WB.trans (hb4.mono WB.size); obtain ⟨⟨vp0, vr0⟩, ⟨vp1, vr1⟩, ⟨vp2, vr2⟩, ⟨vp3, vr3⟩, ⟨vp4, vr4⟩, vB⟩ := Phr.blk5 BR4 (.int .i64 X.1.reg) (.int .i64 X.1.count) (.string (bs X.1.op)) (.string (bs X.1.key)) (.string (bs X.1.arg)); have GG := Phr.put5_gb w4 (w.heap.size + 1) (.int .i64 X.1.reg) (.int .i64 X.1.count) (.string (bs X.1.op)) (.string (bs X.1.key)) (.string (bs X.1.arg)); unfold Phr.put5 at GG vB; generalize hv1 : w4.setCell ⟨w.heap.size + 1, 0, none⟩ (.int .i64 X.1.reg) = v1 at *; generalize hv2 : v1.setCell ⟨w.heap.size + 1, 1, none⟩ (.int .i64 X.1.count) = v2 at *; generalize hv3 : v2.setCell ⟨w.heap.size + 1, 2, none⟩ (.string (bs X.1.op)) = v3 at *; generalize hv4 : v3.setCell ⟨w.heap.size + 1, 3, none⟩ (.string (bs X.1.key)) = v4 at *; generalize hv5 : v4.setCell ⟨w.heap.size + 1, 4, none⟩ (.string (bs X.1.arg)) = v5 at *; have BB := Lib.hid vB; have W5 := W4.grown GG W4.size (fun j e => by injection e with e; omega); clear BH1 hb4 BR4 W4))
  refine ret_five1 rfl rfl BB.out rfl Tryz.underlying27 (by kernel_rfl) ?_
  exact ⟨_, HF, rfl, W5⟩
set_option maxHeartbeats 1000000 in
set_option maxRecDepth 100000 in
theorem ref26_plain_k5 {A : Option Addr} {n : Nat} {r m : Int} {t : List (List UInt8)} {w : World} (h : Ls w A n ([100] :: t)) (hm : t.length ≤ 1000) :
    Calls Tryz.prog 14 #[.agg #[.int .i64 r, .int .i64 m, .string (bs []), .string (bs []), .string (bs [])], .slice A (t.length + 1) n] w (RefFin (Phr.run false ⟨r, m, [], [], []⟩ ([100] :: t)) w) := by
  have HF : Phr.fin (Phr.work ⟨r, m, [], [], []⟩ [100] t) = Phr.run false ⟨r, m, [], [], []⟩ ([100] :: t) := by rw [Phr.fin_work (by decide)]; rfl
  generalize Phr.run false ⟨r, m, [], [], []⟩ ([100] :: t) = FF at HF ⊢
  obtain ⟨W0, hW0⟩ : ∃ W0, (w.alloc (.cells #[.int .i64 r, .int .i64 m, .string (bs []), .string (bs []), .string (bs [])] 27)).alloc (.cells #[.int .i64 0, .int .i64 0, .string ⟨#[]⟩, .string ⟨#[]⟩, .string ⟨#[]⟩] 27) = W0 := ⟨_, rfl⟩
  obtain ⟨BP, BR, WB, SZ⟩ := Phr.start (⟨r, m, [], [], []⟩ : Cmd) hW0
  simp only at BP
  obtain ⟨ad, rfl⟩ := h.addr
  have X0 : Hid (∀ u, Below w.heap.size w u → u.cell? ad = some (.string (bs [100]))) := Lib.hid (fun u hu => h.at_ (j := 0) rfl hu)
  have x0 := X0.out W0 WB
  have sc1 := BP.cell 2
  have sf1 := BP.frozen 2
  have BP1 := BP.set_ 2 (.string (bs [100]))
  have BR1 := BR.far (p := ⟨w.heap.size, 2, none⟩) (by show w.heap.size + 1 ≠ w.heap.size; omega) (.string (bs [100]))
  have WB1 := WB.setCell (p := ⟨w.heap.size, 2, none⟩) (Nat.le_refl _) (.string (bs [100]))
  generalize hs1 : W0.setCell ⟨w.heap.size, 2, none⟩ (.string (bs [100])) = W1 at *
  simp at sc1
  have q0 : ((bs [100]).toList == [103]) = false := by rw [bs_tl]; rfl
  have q1 : ((bs [100]).toList == [103, 117]) = false := by rw [bs_tl]; rfl
  have q2 : ((bs [100]).toList == [103, 85]) = false := by rw [bs_tl]; rfl
  have q3 : ((bs [100]).toList == [103, 126]) = false := by rw [bs_tl]; rfl
  have q4 : ((bs [100]).toList == [103, 45]) = false := by rw [bs_tl]; rfl
  have q5 : ((bs [100]).toList == [103, 43]) = false := by rw [bs_tl]; rfl
  have q6 : ((bs [100]).toList == [100]) = true := by rw [bs_tl]; rfl
  have pc0 := BP1.cell 0
  have pc1 := BP1.cell 1
  have pc2 := BP1.cell 2
  have pc3 := BP1.cell 3
  have pc4 := BP1.cell 4
  try simp at pc0 pc1 pc2 pc3 pc4
  obtain ⟨AA, hAA⟩ : ∃ AA, (if n = 1 then (some ad : Option Addr) else some ⟨ad.block, ad.off + 1, none⟩) = AA := ⟨_, rfl⟩
  have L2 : Hid (∀ u, Below w.heap.size w u → Ls u AA (n - 1) (t)) := Lib.hid (fun u hu => (h.below hu).cut hAA)
  have BH := Lib.hid (fun (u : World) (A : Option Addr) (n : Nat) (h : Ls u A n (t)) => show Calls Tryz.prog 32 #[.agg #[.int .i64 r, .int .i64 m, .string (bs [100]), .string (bs []), .string (bs [])], .slice A (t).length n] u (RefIs (Phr.work ⟨r, m, [], [], []⟩ [100] t) u) from ref26_work (op := [100]) h (by decide) hm)
  obtain ⟨X, hX⟩ : ∃ X, Phr.work ⟨r, m, [], [], []⟩ [100] t = X := ⟨_, rfl⟩
  rw [hX] at BH HF
  clear hX h BP BR WB BP1
  go_enter Tryz.func14, Tryz.ntmps14
  go_wp2_with fail
  go_region_with (go_at_call 32; refine (BH.out _ _ _ (L2.out _ WB1.drew)).mono ?_; rintro e w4 ⟨rfl, hb4⟩; have BR4 := BR1.drew.below hb4 BR1.drew.lt; have W4 := WB1.drew.trans (hb4.mono WB1.drew.size); obtain ⟨⟨vp0, vr0⟩, ⟨vp1, vr1⟩, ⟨vp2, vr2⟩, ⟨vp3, vr3⟩, ⟨vp4, vr4⟩, vB⟩ := Phr.blk5 BR4 (.int .i64 X.1.reg) (.int .i64 X.1.count) (.string (bs X.1.op)) (.string (bs X.1.key)) (.string (bs X.1.arg)); have GG := Phr.put5_gb w4 (w.heap.size + 1) (.int .i64 X.1.reg) (.int .i64 X.1.count) (.string (bs X.1.op)) (.string (bs X.1.key)) (.string (bs X.1.arg)); unfold Phr.put5 at GG vB; generalize hv1 : w4.setCell ⟨w.heap.size + 1, 0, none⟩ (.int .i64 X.1.reg) = v1 at *; generalize hv2 : v1.setCell ⟨w.heap.size + 1, 1, none⟩ (.int .i64 X.1.count) = v2 at *; generalize hv3 : v2.setCell ⟨w.heap.size + 1, 2, none⟩ (.string (bs X.1.op)) = v3 at *; generalize hv4 : v3.setCell ⟨w.heap.size + 1, 3, none⟩ (.string (bs X.1.key)) = v4 at *; generalize hv5 : v4.setCell ⟨w.heap.size + 1, 4, none⟩ (.string (bs X.1.arg)) = v5 at *; have BB := Lib.hid vB; have W5 := W4.grown GG W4.size (fun j e => by injection e with e; omega); clear hb4 BR4 W4)
  all_goals
    go_wp2_with fail
    refine ret_five1 rfl rfl BB.out rfl Tryz.underlying27 (by kernel_rfl) ?_
    exact ⟨_, HF, rfl, W5⟩
set_option maxHeartbeats 1000000 in
set_option maxRecDepth 100000 in
theorem ref26_plain_k6 {A : Option Addr} {n : Nat} {r m : Int} {t : List (List UInt8)} {w : World} (h : Ls w A n ([99] :: t)) (hm : t.length ≤ 1000) :
    Calls Tryz.prog 14 #[.agg #[.int .i64 r, .int .i64 m, .string (bs []), .string (bs []), .string (bs [])], .slice A (t.length + 1) n] w (RefFin (Phr.run false ⟨r, m, [], [], []⟩ ([99] :: t)) w) := by
  have HF : Phr.fin (Phr.work ⟨r, m, [], [], []⟩ [99] t) = Phr.run false ⟨r, m, [], [], []⟩ ([99] :: t) := by rw [Phr.fin_work (by decide)]; rfl
  generalize Phr.run false ⟨r, m, [], [], []⟩ ([99] :: t) = FF at HF ⊢
  obtain ⟨W0, hW0⟩ : ∃ W0, (w.alloc (.cells #[.int .i64 r, .int .i64 m, .string (bs []), .string (bs []), .string (bs [])] 27)).alloc (.cells #[.int .i64 0, .int .i64 0, .string ⟨#[]⟩, .string ⟨#[]⟩, .string ⟨#[]⟩] 27) = W0 := ⟨_, rfl⟩
  obtain ⟨BP, BR, WB, SZ⟩ := Phr.start (⟨r, m, [], [], []⟩ : Cmd) hW0
  simp only at BP
  obtain ⟨ad, rfl⟩ := h.addr
  have X0 : Hid (∀ u, Below w.heap.size w u → u.cell? ad = some (.string (bs [99]))) := Lib.hid (fun u hu => h.at_ (j := 0) rfl hu)
  have x0 := X0.out W0 WB
  have sc1 := BP.cell 2
  have sf1 := BP.frozen 2
  have BP1 := BP.set_ 2 (.string (bs [99]))
  have BR1 := BR.far (p := ⟨w.heap.size, 2, none⟩) (by show w.heap.size + 1 ≠ w.heap.size; omega) (.string (bs [99]))
  have WB1 := WB.setCell (p := ⟨w.heap.size, 2, none⟩) (Nat.le_refl _) (.string (bs [99]))
  generalize hs1 : W0.setCell ⟨w.heap.size, 2, none⟩ (.string (bs [99])) = W1 at *
  simp at sc1
  have q0 : ((bs [99]).toList == [103]) = false := by rw [bs_tl]; rfl
  have q1 : ((bs [99]).toList == [103, 117]) = false := by rw [bs_tl]; rfl
  have q2 : ((bs [99]).toList == [103, 85]) = false := by rw [bs_tl]; rfl
  have q3 : ((bs [99]).toList == [103, 126]) = false := by rw [bs_tl]; rfl
  have q4 : ((bs [99]).toList == [103, 45]) = false := by rw [bs_tl]; rfl
  have q5 : ((bs [99]).toList == [103, 43]) = false := by rw [bs_tl]; rfl
  have q6 : ((bs [99]).toList == [100]) = false := by rw [bs_tl]; rfl
  have q7 : ((bs [99]).toList == [99]) = true := by rw [bs_tl]; rfl
  have pc0 := BP1.cell 0
  have pc1 := BP1.cell 1
  have pc2 := BP1.cell 2
  have pc3 := BP1.cell 3
  have pc4 := BP1.cell 4
  try simp at pc0 pc1 pc2 pc3 pc4
  obtain ⟨AA, hAA⟩ : ∃ AA, (if n = 1 then (some ad : Option Addr) else some ⟨ad.block, ad.off + 1, none⟩) = AA := ⟨_, rfl⟩
  have L2 : Hid (∀ u, Below w.heap.size w u → Ls u AA (n - 1) (t)) := Lib.hid (fun u hu => (h.below hu).cut hAA)
  have BH := Lib.hid (fun (u : World) (A : Option Addr) (n : Nat) (h : Ls u A n (t)) => show Calls Tryz.prog 32 #[.agg #[.int .i64 r, .int .i64 m, .string (bs [99]), .string (bs []), .string (bs [])], .slice A (t).length n] u (RefIs (Phr.work ⟨r, m, [], [], []⟩ [99] t) u) from ref26_work (op := [99]) h (by decide) hm)
  obtain ⟨X, hX⟩ : ∃ X, Phr.work ⟨r, m, [], [], []⟩ [99] t = X := ⟨_, rfl⟩
  rw [hX] at BH HF
  clear hX h BP BR WB BP1
  go_enter Tryz.func14, Tryz.ntmps14
  go_wp2_with fail
  go_region_with (go_at_call 32; refine (BH.out _ _ _ (L2.out _ WB1.drew)).mono ?_; rintro e w4 ⟨rfl, hb4⟩; have BR4 := BR1.drew.below hb4 BR1.drew.lt; have W4 := WB1.drew.trans (hb4.mono WB1.drew.size); obtain ⟨⟨vp0, vr0⟩, ⟨vp1, vr1⟩, ⟨vp2, vr2⟩, ⟨vp3, vr3⟩, ⟨vp4, vr4⟩, vB⟩ := Phr.blk5 BR4 (.int .i64 X.1.reg) (.int .i64 X.1.count) (.string (bs X.1.op)) (.string (bs X.1.key)) (.string (bs X.1.arg)); have GG := Phr.put5_gb w4 (w.heap.size + 1) (.int .i64 X.1.reg) (.int .i64 X.1.count) (.string (bs X.1.op)) (.string (bs X.1.key)) (.string (bs X.1.arg)); unfold Phr.put5 at GG vB; generalize hv1 : w4.setCell ⟨w.heap.size + 1, 0, none⟩ (.int .i64 X.1.reg) = v1 at *; generalize hv2 : v1.setCell ⟨w.heap.size + 1, 1, none⟩ (.int .i64 X.1.count) = v2 at *; generalize hv3 : v2.setCell ⟨w.heap.size + 1, 2, none⟩ (.string (bs X.1.op)) = v3 at *; generalize hv4 : v3.setCell ⟨w.heap.size + 1, 3, none⟩ (.string (bs X.1.key)) = v4 at *; generalize hv5 : v4.setCell ⟨w.heap.size + 1, 4, none⟩ (.string (bs X.1.arg)) = v5 at *; have BB := Lib.hid vB; have W5 := W4.grown GG W4.size (fun j e => by injection e with e; omega); clear hb4 BR4 W4)
  all_goals
    go_wp2_with fail
    refine ret_five1 rfl rfl BB.out rfl Tryz.underlying27 (by kernel_rfl) ?_
    exact ⟨_, HF, rfl, W5⟩
set_option maxHeartbeats 1000000 in
set_option maxRecDepth 100000 in
theorem ref26_plain_k7 {A : Option Addr} {n : Nat} {r m : Int} {t : List (List UInt8)} {w : World} (h : Ls w A n ([121] :: t)) (hm : t.length ≤ 1000) :
    Calls Tryz.prog 14 #[.agg #[.int .i64 r, .int .i64 m, .string (bs []), .string (bs []), .string (bs [])], .slice A (t.length + 1) n] w (RefFin (Phr.run false ⟨r, m, [], [], []⟩ ([121] :: t)) w) := by
  have HF : Phr.fin (Phr.work ⟨r, m, [], [], []⟩ [121] t) = Phr.run false ⟨r, m, [], [], []⟩ ([121] :: t) := by rw [Phr.fin_work (by decide)]; rfl
  generalize Phr.run false ⟨r, m, [], [], []⟩ ([121] :: t) = FF at HF ⊢
  obtain ⟨W0, hW0⟩ : ∃ W0, (w.alloc (.cells #[.int .i64 r, .int .i64 m, .string (bs []), .string (bs []), .string (bs [])] 27)).alloc (.cells #[.int .i64 0, .int .i64 0, .string ⟨#[]⟩, .string ⟨#[]⟩, .string ⟨#[]⟩] 27) = W0 := ⟨_, rfl⟩
  obtain ⟨BP, BR, WB, SZ⟩ := Phr.start (⟨r, m, [], [], []⟩ : Cmd) hW0
  simp only at BP
  obtain ⟨ad, rfl⟩ := h.addr
  have X0 : Hid (∀ u, Below w.heap.size w u → u.cell? ad = some (.string (bs [121]))) := Lib.hid (fun u hu => h.at_ (j := 0) rfl hu)
  have x0 := X0.out W0 WB
  have sc1 := BP.cell 2
  have sf1 := BP.frozen 2
  have BP1 := BP.set_ 2 (.string (bs [121]))
  have BR1 := BR.far (p := ⟨w.heap.size, 2, none⟩) (by show w.heap.size + 1 ≠ w.heap.size; omega) (.string (bs [121]))
  have WB1 := WB.setCell (p := ⟨w.heap.size, 2, none⟩) (Nat.le_refl _) (.string (bs [121]))
  generalize hs1 : W0.setCell ⟨w.heap.size, 2, none⟩ (.string (bs [121])) = W1 at *
  simp at sc1
  have q0 : ((bs [121]).toList == [103]) = false := by rw [bs_tl]; rfl
  have q1 : ((bs [121]).toList == [103, 117]) = false := by rw [bs_tl]; rfl
  have q2 : ((bs [121]).toList == [103, 85]) = false := by rw [bs_tl]; rfl
  have q3 : ((bs [121]).toList == [103, 126]) = false := by rw [bs_tl]; rfl
  have q4 : ((bs [121]).toList == [103, 45]) = false := by rw [bs_tl]; rfl
  have q5 : ((bs [121]).toList == [103, 43]) = false := by rw [bs_tl]; rfl
  have q6 : ((bs [121]).toList == [100]) = false := by rw [bs_tl]; rfl
  have q7 : ((bs [121]).toList == [99]) = false := by rw [bs_tl]; rfl
  have q8 : ((bs [121]).toList == [121]) = true := by rw [bs_tl]; rfl
  have pc0 := BP1.cell 0
  have pc1 := BP1.cell 1
  have pc2 := BP1.cell 2
  have pc3 := BP1.cell 3
  have pc4 := BP1.cell 4
  try simp at pc0 pc1 pc2 pc3 pc4
  obtain ⟨AA, hAA⟩ : ∃ AA, (if n = 1 then (some ad : Option Addr) else some ⟨ad.block, ad.off + 1, none⟩) = AA := ⟨_, rfl⟩
  have L2 : Hid (∀ u, Below w.heap.size w u → Ls u AA (n - 1) (t)) := Lib.hid (fun u hu => (h.below hu).cut hAA)
  have BH := Lib.hid (fun (u : World) (A : Option Addr) (n : Nat) (h : Ls u A n (t)) => show Calls Tryz.prog 32 #[.agg #[.int .i64 r, .int .i64 m, .string (bs [121]), .string (bs []), .string (bs [])], .slice A (t).length n] u (RefIs (Phr.work ⟨r, m, [], [], []⟩ [121] t) u) from ref26_work (op := [121]) h (by decide) hm)
  obtain ⟨X, hX⟩ : ∃ X, Phr.work ⟨r, m, [], [], []⟩ [121] t = X := ⟨_, rfl⟩
  rw [hX] at BH HF
  clear hX h BP BR WB BP1
  go_enter Tryz.func14, Tryz.ntmps14
  go_wp2_with fail
  go_region_with (go_at_call 32; refine (BH.out _ _ _ (L2.out _ WB1.drew)).mono ?_; rintro e w4 ⟨rfl, hb4⟩; have BR4 := BR1.drew.below hb4 BR1.drew.lt; have W4 := WB1.drew.trans (hb4.mono WB1.drew.size); obtain ⟨⟨vp0, vr0⟩, ⟨vp1, vr1⟩, ⟨vp2, vr2⟩, ⟨vp3, vr3⟩, ⟨vp4, vr4⟩, vB⟩ := Phr.blk5 BR4 (.int .i64 X.1.reg) (.int .i64 X.1.count) (.string (bs X.1.op)) (.string (bs X.1.key)) (.string (bs X.1.arg)); have GG := Phr.put5_gb w4 (w.heap.size + 1) (.int .i64 X.1.reg) (.int .i64 X.1.count) (.string (bs X.1.op)) (.string (bs X.1.key)) (.string (bs X.1.arg)); unfold Phr.put5 at GG vB; generalize hv1 : w4.setCell ⟨w.heap.size + 1, 0, none⟩ (.int .i64 X.1.reg) = v1 at *; generalize hv2 : v1.setCell ⟨w.heap.size + 1, 1, none⟩ (.int .i64 X.1.count) = v2 at *; generalize hv3 : v2.setCell ⟨w.heap.size + 1, 2, none⟩ (.string (bs X.1.op)) = v3 at *; generalize hv4 : v3.setCell ⟨w.heap.size + 1, 3, none⟩ (.string (bs X.1.key)) = v4 at *; generalize hv5 : v4.setCell ⟨w.heap.size + 1, 4, none⟩ (.string (bs X.1.arg)) = v5 at *; have BB := Lib.hid vB; have W5 := W4.grown GG W4.size (fun j e => by injection e with e; omega); clear hb4 BR4 W4)
  all_goals
    go_wp2_with fail
    refine ret_five1 rfl rfl BB.out rfl Tryz.underlying27 (by kernel_rfl) ?_
    exact ⟨_, HF, rfl, W5⟩
set_option maxHeartbeats 1000000 in
set_option maxRecDepth 100000 in
theorem ref26_plain_k8 {A : Option Addr} {n : Nat} {r m : Int} {t : List (List UInt8)} {w : World} (h : Ls w A n ([62] :: t)) (hm : t.length ≤ 1000) :
    Calls Tryz.prog 14 #[.agg #[.int .i64 r, .int .i64 m, .string (bs []), .string (bs []), .string (bs [])], .slice A (t.length + 1) n] w (RefFin (Phr.run false ⟨r, m, [], [], []⟩ ([62] :: t)) w) := by
  have HF : Phr.fin (Phr.work ⟨r, m, [], [], []⟩ [62] t) = Phr.run false ⟨r, m, [], [], []⟩ ([62] :: t) := by rw [Phr.fin_work (by decide)]; rfl
  generalize Phr.run false ⟨r, m, [], [], []⟩ ([62] :: t) = FF at HF ⊢
  obtain ⟨W0, hW0⟩ : ∃ W0, (w.alloc (.cells #[.int .i64 r, .int .i64 m, .string (bs []), .string (bs []), .string (bs [])] 27)).alloc (.cells #[.int .i64 0, .int .i64 0, .string ⟨#[]⟩, .string ⟨#[]⟩, .string ⟨#[]⟩] 27) = W0 := ⟨_, rfl⟩
  obtain ⟨BP, BR, WB, SZ⟩ := Phr.start (⟨r, m, [], [], []⟩ : Cmd) hW0
  simp only at BP
  obtain ⟨ad, rfl⟩ := h.addr
  have X0 : Hid (∀ u, Below w.heap.size w u → u.cell? ad = some (.string (bs [62]))) := Lib.hid (fun u hu => h.at_ (j := 0) rfl hu)
  have x0 := X0.out W0 WB
  have sc1 := BP.cell 2
  have sf1 := BP.frozen 2
  have BP1 := BP.set_ 2 (.string (bs [62]))
  have BR1 := BR.far (p := ⟨w.heap.size, 2, none⟩) (by show w.heap.size + 1 ≠ w.heap.size; omega) (.string (bs [62]))
  have WB1 := WB.setCell (p := ⟨w.heap.size, 2, none⟩) (Nat.le_refl _) (.string (bs [62]))
  generalize hs1 : W0.setCell ⟨w.heap.size, 2, none⟩ (.string (bs [62])) = W1 at *
  simp at sc1
  have q0 : ((bs [62]).toList == [103]) = false := by rw [bs_tl]; rfl
  have q1 : ((bs [62]).toList == [103, 117]) = false := by rw [bs_tl]; rfl
  have q2 : ((bs [62]).toList == [103, 85]) = false := by rw [bs_tl]; rfl
  have q3 : ((bs [62]).toList == [103, 126]) = false := by rw [bs_tl]; rfl
  have q4 : ((bs [62]).toList == [103, 45]) = false := by rw [bs_tl]; rfl
  have q5 : ((bs [62]).toList == [103, 43]) = false := by rw [bs_tl]; rfl
  have q6 : ((bs [62]).toList == [100]) = false := by rw [bs_tl]; rfl
  have q7 : ((bs [62]).toList == [99]) = false := by rw [bs_tl]; rfl
  have q8 : ((bs [62]).toList == [121]) = false := by rw [bs_tl]; rfl
  have q9 : ((bs [62]).toList == [62]) = true := by rw [bs_tl]; rfl
  have pc0 := BP1.cell 0
  have pc1 := BP1.cell 1
  have pc2 := BP1.cell 2
  have pc3 := BP1.cell 3
  have pc4 := BP1.cell 4
  try simp at pc0 pc1 pc2 pc3 pc4
  obtain ⟨AA, hAA⟩ : ∃ AA, (if n = 1 then (some ad : Option Addr) else some ⟨ad.block, ad.off + 1, none⟩) = AA := ⟨_, rfl⟩
  have L2 : Hid (∀ u, Below w.heap.size w u → Ls u AA (n - 1) (t)) := Lib.hid (fun u hu => (h.below hu).cut hAA)
  have BH := Lib.hid (fun (u : World) (A : Option Addr) (n : Nat) (h : Ls u A n (t)) => show Calls Tryz.prog 32 #[.agg #[.int .i64 r, .int .i64 m, .string (bs [62]), .string (bs []), .string (bs [])], .slice A (t).length n] u (RefIs (Phr.work ⟨r, m, [], [], []⟩ [62] t) u) from ref26_work (op := [62]) h (by decide) hm)
  obtain ⟨X, hX⟩ : ∃ X, Phr.work ⟨r, m, [], [], []⟩ [62] t = X := ⟨_, rfl⟩
  rw [hX] at BH HF
  clear hX h BP BR WB BP1
  go_enter Tryz.func14, Tryz.ntmps14
  go_wp2_with fail
  go_region_with (go_at_call 32; refine (BH.out _ _ _ (L2.out _ WB1.drew)).mono ?_; rintro e w4 ⟨rfl, hb4⟩; have BR4 := BR1.drew.below hb4 BR1.drew.lt; have W4 := WB1.drew.trans (hb4.mono WB1.drew.size); obtain ⟨⟨vp0, vr0⟩, ⟨vp1, vr1⟩, ⟨vp2, vr2⟩, ⟨vp3, vr3⟩, ⟨vp4, vr4⟩, vB⟩ := Phr.blk5 BR4 (.int .i64 X.1.reg) (.int .i64 X.1.count) (.string (bs X.1.op)) (.string (bs X.1.key)) (.string (bs X.1.arg)); have GG := Phr.put5_gb w4 (w.heap.size + 1) (.int .i64 X.1.reg) (.int .i64 X.1.count) (.string (bs X.1.op)) (.string (bs X.1.key)) (.string (bs X.1.arg)); unfold Phr.put5 at GG vB; generalize hv1 : w4.setCell ⟨w.heap.size + 1, 0, none⟩ (.int .i64 X.1.reg) = v1 at *; generalize hv2 : v1.setCell ⟨w.heap.size + 1, 1, none⟩ (.int .i64 X.1.count) = v2 at *; generalize hv3 : v2.setCell ⟨w.heap.size + 1, 2, none⟩ (.string (bs X.1.op)) = v3 at *; generalize hv4 : v3.setCell ⟨w.heap.size + 1, 3, none⟩ (.string (bs X.1.key)) = v4 at *; generalize hv5 : v4.setCell ⟨w.heap.size + 1, 4, none⟩ (.string (bs X.1.arg)) = v5 at *; have BB := Lib.hid vB; have W5 := W4.grown GG W4.size (fun j e => by injection e with e; omega); clear hb4 BR4 W4)
  all_goals
    go_wp2_with fail
    refine ret_five1 rfl rfl BB.out rfl Tryz.underlying27 (by kernel_rfl) ?_
    exact ⟨_, HF, rfl, W5⟩
set_option maxHeartbeats 1000000 in
set_option maxRecDepth 100000 in
theorem ref26_plain_k9 {A : Option Addr} {n : Nat} {r m : Int} {t : List (List UInt8)} {w : World} (h : Ls w A n ([60] :: t)) (hm : t.length ≤ 1000) :
    Calls Tryz.prog 14 #[.agg #[.int .i64 r, .int .i64 m, .string (bs []), .string (bs []), .string (bs [])], .slice A (t.length + 1) n] w (RefFin (Phr.run false ⟨r, m, [], [], []⟩ ([60] :: t)) w) := by
  have HF : Phr.fin (Phr.work ⟨r, m, [], [], []⟩ [60] t) = Phr.run false ⟨r, m, [], [], []⟩ ([60] :: t) := by rw [Phr.fin_work (by decide)]; rfl
  generalize Phr.run false ⟨r, m, [], [], []⟩ ([60] :: t) = FF at HF ⊢
  obtain ⟨W0, hW0⟩ : ∃ W0, (w.alloc (.cells #[.int .i64 r, .int .i64 m, .string (bs []), .string (bs []), .string (bs [])] 27)).alloc (.cells #[.int .i64 0, .int .i64 0, .string ⟨#[]⟩, .string ⟨#[]⟩, .string ⟨#[]⟩] 27) = W0 := ⟨_, rfl⟩
  obtain ⟨BP, BR, WB, SZ⟩ := Phr.start (⟨r, m, [], [], []⟩ : Cmd) hW0
  simp only at BP
  obtain ⟨ad, rfl⟩ := h.addr
  have X0 : Hid (∀ u, Below w.heap.size w u → u.cell? ad = some (.string (bs [60]))) := Lib.hid (fun u hu => h.at_ (j := 0) rfl hu)
  have x0 := X0.out W0 WB
  have sc1 := BP.cell 2
  have sf1 := BP.frozen 2
  have BP1 := BP.set_ 2 (.string (bs [60]))
  have BR1 := BR.far (p := ⟨w.heap.size, 2, none⟩) (by show w.heap.size + 1 ≠ w.heap.size; omega) (.string (bs [60]))
  have WB1 := WB.setCell (p := ⟨w.heap.size, 2, none⟩) (Nat.le_refl _) (.string (bs [60]))
  generalize hs1 : W0.setCell ⟨w.heap.size, 2, none⟩ (.string (bs [60])) = W1 at *
  simp at sc1
  have q0 : ((bs [60]).toList == [103]) = false := by rw [bs_tl]; rfl
  have q1 : ((bs [60]).toList == [103, 117]) = false := by rw [bs_tl]; rfl
  have q2 : ((bs [60]).toList == [103, 85]) = false := by rw [bs_tl]; rfl
  have q3 : ((bs [60]).toList == [103, 126]) = false := by rw [bs_tl]; rfl
  have q4 : ((bs [60]).toList == [103, 45]) = false := by rw [bs_tl]; rfl
  have q5 : ((bs [60]).toList == [103, 43]) = false := by rw [bs_tl]; rfl
  have q6 : ((bs [60]).toList == [100]) = false := by rw [bs_tl]; rfl
  have q7 : ((bs [60]).toList == [99]) = false := by rw [bs_tl]; rfl
  have q8 : ((bs [60]).toList == [121]) = false := by rw [bs_tl]; rfl
  have q9 : ((bs [60]).toList == [62]) = false := by rw [bs_tl]; rfl
  have q10 : ((bs [60]).toList == [60]) = true := by rw [bs_tl]; rfl
  have pc0 := BP1.cell 0
  have pc1 := BP1.cell 1
  have pc2 := BP1.cell 2
  have pc3 := BP1.cell 3
  have pc4 := BP1.cell 4
  try simp at pc0 pc1 pc2 pc3 pc4
  obtain ⟨AA, hAA⟩ : ∃ AA, (if n = 1 then (some ad : Option Addr) else some ⟨ad.block, ad.off + 1, none⟩) = AA := ⟨_, rfl⟩
  have L2 : Hid (∀ u, Below w.heap.size w u → Ls u AA (n - 1) (t)) := Lib.hid (fun u hu => (h.below hu).cut hAA)
  have BH := Lib.hid (fun (u : World) (A : Option Addr) (n : Nat) (h : Ls u A n (t)) => show Calls Tryz.prog 32 #[.agg #[.int .i64 r, .int .i64 m, .string (bs [60]), .string (bs []), .string (bs [])], .slice A (t).length n] u (RefIs (Phr.work ⟨r, m, [], [], []⟩ [60] t) u) from ref26_work (op := [60]) h (by decide) hm)
  obtain ⟨X, hX⟩ : ∃ X, Phr.work ⟨r, m, [], [], []⟩ [60] t = X := ⟨_, rfl⟩
  rw [hX] at BH HF
  clear hX h BP BR WB BP1
  go_enter Tryz.func14, Tryz.ntmps14
  go_wp2_with fail
  go_region_with (go_at_call 32; refine (BH.out _ _ _ (L2.out _ WB1.drew)).mono ?_; rintro e w4 ⟨rfl, hb4⟩; have BR4 := BR1.drew.below hb4 BR1.drew.lt; have W4 := WB1.drew.trans (hb4.mono WB1.drew.size); obtain ⟨⟨vp0, vr0⟩, ⟨vp1, vr1⟩, ⟨vp2, vr2⟩, ⟨vp3, vr3⟩, ⟨vp4, vr4⟩, vB⟩ := Phr.blk5 BR4 (.int .i64 X.1.reg) (.int .i64 X.1.count) (.string (bs X.1.op)) (.string (bs X.1.key)) (.string (bs X.1.arg)); have GG := Phr.put5_gb w4 (w.heap.size + 1) (.int .i64 X.1.reg) (.int .i64 X.1.count) (.string (bs X.1.op)) (.string (bs X.1.key)) (.string (bs X.1.arg)); unfold Phr.put5 at GG vB; generalize hv1 : w4.setCell ⟨w.heap.size + 1, 0, none⟩ (.int .i64 X.1.reg) = v1 at *; generalize hv2 : v1.setCell ⟨w.heap.size + 1, 1, none⟩ (.int .i64 X.1.count) = v2 at *; generalize hv3 : v2.setCell ⟨w.heap.size + 1, 2, none⟩ (.string (bs X.1.op)) = v3 at *; generalize hv4 : v3.setCell ⟨w.heap.size + 1, 3, none⟩ (.string (bs X.1.key)) = v4 at *; generalize hv5 : v4.setCell ⟨w.heap.size + 1, 4, none⟩ (.string (bs X.1.arg)) = v5 at *; have BB := Lib.hid vB; have W5 := W4.grown GG W4.size (fun j e => by injection e with e; omega); clear hb4 BR4 W4)
  all_goals
    go_wp2_with fail
    refine ret_five1 rfl rfl BB.out rfl Tryz.underlying27 (by kernel_rfl) ?_
    exact ⟨_, HF, rfl, W5⟩
set_option maxHeartbeats 1000000 in
set_option maxRecDepth 100000 in
theorem ref26_plain_k10 {A : Option Addr} {n : Nat} {r m : Int} {t : List (List UInt8)} {w : World} (h : Ls w A n ([120] :: t))  :
    Calls Tryz.prog 14 #[.agg #[.int .i64 r, .int .i64 m, .string (bs []), .string (bs []), .string (bs [])], .slice A (t.length + 1) n] w (RefFin (Phr.run false ⟨r, m, [], [], []⟩ ([120] :: t)) w) := by
  have HF : Phr.fin (Phr.last ⟨r, m, [100], [108], []⟩ t) = Phr.run false ⟨r, m, [], [], []⟩ ([120] :: t) := by show Phr.fin (Phr.goes ⟨r, m, [100], [108], []⟩ 0 (t)) = _; rw [Phr.fin_goes]; rfl
  generalize Phr.run false ⟨r, m, [], [], []⟩ ([120] :: t) = FF at HF ⊢
  obtain ⟨W0, hW0⟩ : ∃ W0, (w.alloc (.cells #[.int .i64 r, .int .i64 m, .string (bs []), .string (bs []), .string (bs [])] 27)).alloc (.cells #[.int .i64 0, .int .i64 0, .string ⟨#[]⟩, .string ⟨#[]⟩, .string ⟨#[]⟩] 27) = W0 := ⟨_, rfl⟩
  obtain ⟨BP, BR, WB, SZ⟩ := Phr.start (⟨r, m, [], [], []⟩ : Cmd) hW0
  simp only at BP
  obtain ⟨ad, rfl⟩ := h.addr
  have X0 : Hid (∀ u, Below w.heap.size w u → u.cell? ad = some (.string (bs [120]))) := Lib.hid (fun u hu => h.at_ (j := 0) rfl hu)
  have x0 := X0.out W0 WB
  have sc1 := BP.cell 2
  have sf1 := BP.frozen 2
  have BP1 := BP.set_ 2 (.string ⟨#[100]⟩)
  have BR1 := BR.far (p := ⟨w.heap.size, 2, none⟩) (by show w.heap.size + 1 ≠ w.heap.size; omega) (.string ⟨#[100]⟩)
  have WB1 := WB.setCell (p := ⟨w.heap.size, 2, none⟩) (Nat.le_refl _) (.string ⟨#[100]⟩)
  generalize hs1 : W0.setCell ⟨w.heap.size, 2, none⟩ (.string ⟨#[100]⟩) = W1 at *
  simp at sc1
  have sc2 := BP1.cell 3
  have sf2 := BP1.frozen 3
  have BP2 := BP1.set_ 3 (.string ⟨#[108]⟩)
  have BR2 := BR1.far (p := ⟨w.heap.size, 3, none⟩) (by show w.heap.size + 1 ≠ w.heap.size; omega) (.string ⟨#[108]⟩)
  have WB2 := WB1.setCell (p := ⟨w.heap.size, 3, none⟩) (Nat.le_refl _) (.string ⟨#[108]⟩)
  generalize hs2 : W1.setCell ⟨w.heap.size, 3, none⟩ (.string ⟨#[108]⟩) = W2 at *
  simp at sc2
  have q0 : ((bs [120]).toList == [103]) = false := by rw [bs_tl]; rfl
  have q1 : ((bs [120]).toList == [103, 117]) = false := by rw [bs_tl]; rfl
  have q2 : ((bs [120]).toList == [103, 85]) = false := by rw [bs_tl]; rfl
  have q3 : ((bs [120]).toList == [103, 126]) = false := by rw [bs_tl]; rfl
  have q4 : ((bs [120]).toList == [103, 45]) = false := by rw [bs_tl]; rfl
  have q5 : ((bs [120]).toList == [103, 43]) = false := by rw [bs_tl]; rfl
  have q6 : ((bs [120]).toList == [100]) = false := by rw [bs_tl]; rfl
  have q7 : ((bs [120]).toList == [99]) = false := by rw [bs_tl]; rfl
  have q8 : ((bs [120]).toList == [121]) = false := by rw [bs_tl]; rfl
  have q9 : ((bs [120]).toList == [62]) = false := by rw [bs_tl]; rfl
  have q10 : ((bs [120]).toList == [60]) = false := by rw [bs_tl]; rfl
  have q11 : ((bs [120]).toList == [120]) = true := by rw [bs_tl]; rfl
  have pc0 := BP2.cell 0
  have pc1 := BP2.cell 1
  have pc2 := BP2.cell 2
  have pc3 := BP2.cell 3
  have pc4 := BP2.cell 4
  try simp at pc0 pc1 pc2 pc3 pc4
  obtain ⟨AA, hAA⟩ : ∃ AA, (if n = 1 then (some ad : Option Addr) else some ⟨ad.block, ad.off + 1, none⟩) = AA := ⟨_, rfl⟩
  have L2 : Hid (∀ u, Below w.heap.size w u → Ls u AA (n - 1) (t)) := Lib.hid (fun u hu => (h.below hu).cut hAA)
  have BH := Lib.hid (fun (u : World) (A : Option Addr) (n : Nat) (_ : Ls u A n (t)) => show Calls Tryz.prog 33 #[.agg #[.int .i64 r, .int .i64 m, .string ⟨#[100]⟩, .string ⟨#[108]⟩, .string (bs [])], .slice A (t).length n] u (RefIs (Phr.last ⟨r, m, [100], [108], []⟩ (t)) u) from ref26_last ⟨r, m, [100], [108], []⟩ u)
  obtain ⟨X, hX⟩ : ∃ X, Phr.last ⟨r, m, [100], [108], []⟩ t = X := ⟨_, rfl⟩
  rw [hX] at BH HF
  clear hX h BP BR WB BP1 BR1 WB1 BP2
  go_enter Tryz.func14, Tryz.ntmps14
  go_wp2_with fail
  go_region_with (go_at_call 33; refine (BH.out _ _ _ (L2.out _ WB2.drew)).mono ?_; rintro e w4 ⟨rfl, hb4⟩; have BR4 := BR2.drew.below hb4 BR2.drew.lt; have W4 := WB2.drew.trans (hb4.mono WB2.drew.size); obtain ⟨⟨vp0, vr0⟩, ⟨vp1, vr1⟩, ⟨vp2, vr2⟩, ⟨vp3, vr3⟩, ⟨vp4, vr4⟩, vB⟩ := Phr.blk5 BR4 (.int .i64 X.1.reg) (.int .i64 X.1.count) (.string (bs X.1.op)) (.string (bs X.1.key)) (.string (bs X.1.arg)); have GG := Phr.put5_gb w4 (w.heap.size + 1) (.int .i64 X.1.reg) (.int .i64 X.1.count) (.string (bs X.1.op)) (.string (bs X.1.key)) (.string (bs X.1.arg)); unfold Phr.put5 at GG vB; generalize hv1 : w4.setCell ⟨w.heap.size + 1, 0, none⟩ (.int .i64 X.1.reg) = v1 at *; generalize hv2 : v1.setCell ⟨w.heap.size + 1, 1, none⟩ (.int .i64 X.1.count) = v2 at *; generalize hv3 : v2.setCell ⟨w.heap.size + 1, 2, none⟩ (.string (bs X.1.op)) = v3 at *; generalize hv4 : v3.setCell ⟨w.heap.size + 1, 3, none⟩ (.string (bs X.1.key)) = v4 at *; generalize hv5 : v4.setCell ⟨w.heap.size + 1, 4, none⟩ (.string (bs X.1.arg)) = v5 at *; have BB := Lib.hid vB; have W5 := W4.grown GG W4.size (fun j e => by injection e with e; omega); clear hb4 BR4 W4)
  all_goals
    go_wp2_with fail
    refine ret_five1 rfl rfl BB.out rfl Tryz.underlying27 (by kernel_rfl) ?_
    exact ⟨_, HF, rfl, W5⟩
set_option maxHeartbeats 1000000 in
set_option maxRecDepth 100000 in
theorem ref26_plain_k11 {A : Option Addr} {n : Nat} {r m : Int} {t : List (List UInt8)} {w : World} (h : Ls w A n ([88] :: t))  :
    Calls Tryz.prog 14 #[.agg #[.int .i64 r, .int .i64 m, .string (bs []), .string (bs []), .string (bs [])], .slice A (t.length + 1) n] w (RefFin (Phr.run false ⟨r, m, [], [], []⟩ ([88] :: t)) w) := by
  have HF : Phr.fin (Phr.last ⟨r, m, [100], [104], []⟩ t) = Phr.run false ⟨r, m, [], [], []⟩ ([88] :: t) := by show Phr.fin (Phr.goes ⟨r, m, [100], [104], []⟩ 0 (t)) = _; rw [Phr.fin_goes]; rfl
  generalize Phr.run false ⟨r, m, [], [], []⟩ ([88] :: t) = FF at HF ⊢
  obtain ⟨W0, hW0⟩ : ∃ W0, (w.alloc (.cells #[.int .i64 r, .int .i64 m, .string (bs []), .string (bs []), .string (bs [])] 27)).alloc (.cells #[.int .i64 0, .int .i64 0, .string ⟨#[]⟩, .string ⟨#[]⟩, .string ⟨#[]⟩] 27) = W0 := ⟨_, rfl⟩
  obtain ⟨BP, BR, WB, SZ⟩ := Phr.start (⟨r, m, [], [], []⟩ : Cmd) hW0
  simp only at BP
  obtain ⟨ad, rfl⟩ := h.addr
  have X0 : Hid (∀ u, Below w.heap.size w u → u.cell? ad = some (.string (bs [88]))) := Lib.hid (fun u hu => h.at_ (j := 0) rfl hu)
  have x0 := X0.out W0 WB
  have sc1 := BP.cell 2
  have sf1 := BP.frozen 2
  have BP1 := BP.set_ 2 (.string ⟨#[100]⟩)
  have BR1 := BR.far (p := ⟨w.heap.size, 2, none⟩) (by show w.heap.size + 1 ≠ w.heap.size; omega) (.string ⟨#[100]⟩)
  have WB1 := WB.setCell (p := ⟨w.heap.size, 2, none⟩) (Nat.le_refl _) (.string ⟨#[100]⟩)
  generalize hs1 : W0.setCell ⟨w.heap.size, 2, none⟩ (.string ⟨#[100]⟩) = W1 at *
  simp at sc1
  have sc2 := BP1.cell 3
  have sf2 := BP1.frozen 3
  have BP2 := BP1.set_ 3 (.string ⟨#[104]⟩)
  have BR2 := BR1.far (p := ⟨w.heap.size, 3, none⟩) (by show w.heap.size + 1 ≠ w.heap.size; omega) (.string ⟨#[104]⟩)
  have WB2 := WB1.setCell (p := ⟨w.heap.size, 3, none⟩) (Nat.le_refl _) (.string ⟨#[104]⟩)
  generalize hs2 : W1.setCell ⟨w.heap.size, 3, none⟩ (.string ⟨#[104]⟩) = W2 at *
  simp at sc2
  have q0 : ((bs [88]).toList == [103]) = false := by rw [bs_tl]; rfl
  have q1 : ((bs [88]).toList == [103, 117]) = false := by rw [bs_tl]; rfl
  have q2 : ((bs [88]).toList == [103, 85]) = false := by rw [bs_tl]; rfl
  have q3 : ((bs [88]).toList == [103, 126]) = false := by rw [bs_tl]; rfl
  have q4 : ((bs [88]).toList == [103, 45]) = false := by rw [bs_tl]; rfl
  have q5 : ((bs [88]).toList == [103, 43]) = false := by rw [bs_tl]; rfl
  have q6 : ((bs [88]).toList == [100]) = false := by rw [bs_tl]; rfl
  have q7 : ((bs [88]).toList == [99]) = false := by rw [bs_tl]; rfl
  have q8 : ((bs [88]).toList == [121]) = false := by rw [bs_tl]; rfl
  have q9 : ((bs [88]).toList == [62]) = false := by rw [bs_tl]; rfl
  have q10 : ((bs [88]).toList == [60]) = false := by rw [bs_tl]; rfl
  have q11 : ((bs [88]).toList == [120]) = false := by rw [bs_tl]; rfl
  have q12 : ((bs [88]).toList == [88]) = true := by rw [bs_tl]; rfl
  have pc0 := BP2.cell 0
  have pc1 := BP2.cell 1
  have pc2 := BP2.cell 2
  have pc3 := BP2.cell 3
  have pc4 := BP2.cell 4
  try simp at pc0 pc1 pc2 pc3 pc4
  obtain ⟨AA, hAA⟩ : ∃ AA, (if n = 1 then (some ad : Option Addr) else some ⟨ad.block, ad.off + 1, none⟩) = AA := ⟨_, rfl⟩
  have L2 : Hid (∀ u, Below w.heap.size w u → Ls u AA (n - 1) (t)) := Lib.hid (fun u hu => (h.below hu).cut hAA)
  have BH := Lib.hid (fun (u : World) (A : Option Addr) (n : Nat) (_ : Ls u A n (t)) => show Calls Tryz.prog 33 #[.agg #[.int .i64 r, .int .i64 m, .string ⟨#[100]⟩, .string ⟨#[104]⟩, .string (bs [])], .slice A (t).length n] u (RefIs (Phr.last ⟨r, m, [100], [104], []⟩ (t)) u) from ref26_last ⟨r, m, [100], [104], []⟩ u)
  obtain ⟨X, hX⟩ : ∃ X, Phr.last ⟨r, m, [100], [104], []⟩ t = X := ⟨_, rfl⟩
  rw [hX] at BH HF
  clear hX h BP BR WB BP1 BR1 WB1 BP2
  go_enter Tryz.func14, Tryz.ntmps14
  go_wp2_with fail
  go_region_with (go_at_call 33; refine (BH.out _ _ _ (L2.out _ WB2.drew)).mono ?_; rintro e w4 ⟨rfl, hb4⟩; have BR4 := BR2.drew.below hb4 BR2.drew.lt; have W4 := WB2.drew.trans (hb4.mono WB2.drew.size); obtain ⟨⟨vp0, vr0⟩, ⟨vp1, vr1⟩, ⟨vp2, vr2⟩, ⟨vp3, vr3⟩, ⟨vp4, vr4⟩, vB⟩ := Phr.blk5 BR4 (.int .i64 X.1.reg) (.int .i64 X.1.count) (.string (bs X.1.op)) (.string (bs X.1.key)) (.string (bs X.1.arg)); have GG := Phr.put5_gb w4 (w.heap.size + 1) (.int .i64 X.1.reg) (.int .i64 X.1.count) (.string (bs X.1.op)) (.string (bs X.1.key)) (.string (bs X.1.arg)); unfold Phr.put5 at GG vB; generalize hv1 : w4.setCell ⟨w.heap.size + 1, 0, none⟩ (.int .i64 X.1.reg) = v1 at *; generalize hv2 : v1.setCell ⟨w.heap.size + 1, 1, none⟩ (.int .i64 X.1.count) = v2 at *; generalize hv3 : v2.setCell ⟨w.heap.size + 1, 2, none⟩ (.string (bs X.1.op)) = v3 at *; generalize hv4 : v3.setCell ⟨w.heap.size + 1, 3, none⟩ (.string (bs X.1.key)) = v4 at *; generalize hv5 : v4.setCell ⟨w.heap.size + 1, 4, none⟩ (.string (bs X.1.arg)) = v5 at *; have BB := Lib.hid vB; have W5 := W4.grown GG W4.size (fun j e => by injection e with e; omega); clear hb4 BR4 W4)
  all_goals
    go_wp2_with fail
    refine ret_five1 rfl rfl BB.out rfl Tryz.underlying27 (by kernel_rfl) ?_
    exact ⟨_, HF, rfl, W5⟩
set_option maxHeartbeats 1000000 in
set_option maxRecDepth 100000 in
theorem ref26_plain_k12 {A : Option Addr} {n : Nat} {r m : Int} {t : List (List UInt8)} {w : World} (h : Ls w A n ([68] :: t))  :
    Calls Tryz.prog 14 #[.agg #[.int .i64 r, .int .i64 m, .string (bs []), .string (bs []), .string (bs [])], .slice A (t.length + 1) n] w (RefFin (Phr.run false ⟨r, m, [], [], []⟩ ([68] :: t)) w) := by
  have HF : Phr.fin (Phr.last ⟨r, m, [100], [36], []⟩ t) = Phr.run false ⟨r, m, [], [], []⟩ ([68] :: t) := by show Phr.fin (Phr.goes ⟨r, m, [100], [36], []⟩ 0 (t)) = _; rw [Phr.fin_goes]; rfl
  generalize Phr.run false ⟨r, m, [], [], []⟩ ([68] :: t) = FF at HF ⊢
  obtain ⟨W0, hW0⟩ : ∃ W0, (w.alloc (.cells #[.int .i64 r, .int .i64 m, .string (bs []), .string (bs []), .string (bs [])] 27)).alloc (.cells #[.int .i64 0, .int .i64 0, .string ⟨#[]⟩, .string ⟨#[]⟩, .string ⟨#[]⟩] 27) = W0 := ⟨_, rfl⟩
  obtain ⟨BP, BR, WB, SZ⟩ := Phr.start (⟨r, m, [], [], []⟩ : Cmd) hW0
  simp only at BP
  obtain ⟨ad, rfl⟩ := h.addr
  have X0 : Hid (∀ u, Below w.heap.size w u → u.cell? ad = some (.string (bs [68]))) := Lib.hid (fun u hu => h.at_ (j := 0) rfl hu)
  have x0 := X0.out W0 WB
  have sc1 := BP.cell 2
  have sf1 := BP.frozen 2
  have BP1 := BP.set_ 2 (.string ⟨#[100]⟩)
  have BR1 := BR.far (p := ⟨w.heap.size, 2, none⟩) (by show w.heap.size + 1 ≠ w.heap.size; omega) (.string ⟨#[100]⟩)
  have WB1 := WB.setCell (p := ⟨w.heap.size, 2, none⟩) (Nat.le_refl _) (.string ⟨#[100]⟩)
  generalize hs1 : W0.setCell ⟨w.heap.size, 2, none⟩ (.string ⟨#[100]⟩) = W1 at *
  simp at sc1
  have sc2 := BP1.cell 3
  have sf2 := BP1.frozen 3
  have BP2 := BP1.set_ 3 (.string ⟨#[36]⟩)
  have BR2 := BR1.far (p := ⟨w.heap.size, 3, none⟩) (by show w.heap.size + 1 ≠ w.heap.size; omega) (.string ⟨#[36]⟩)
  have WB2 := WB1.setCell (p := ⟨w.heap.size, 3, none⟩) (Nat.le_refl _) (.string ⟨#[36]⟩)
  generalize hs2 : W1.setCell ⟨w.heap.size, 3, none⟩ (.string ⟨#[36]⟩) = W2 at *
  simp at sc2
  have q0 : ((bs [68]).toList == [103]) = false := by rw [bs_tl]; rfl
  have q1 : ((bs [68]).toList == [103, 117]) = false := by rw [bs_tl]; rfl
  have q2 : ((bs [68]).toList == [103, 85]) = false := by rw [bs_tl]; rfl
  have q3 : ((bs [68]).toList == [103, 126]) = false := by rw [bs_tl]; rfl
  have q4 : ((bs [68]).toList == [103, 45]) = false := by rw [bs_tl]; rfl
  have q5 : ((bs [68]).toList == [103, 43]) = false := by rw [bs_tl]; rfl
  have q6 : ((bs [68]).toList == [100]) = false := by rw [bs_tl]; rfl
  have q7 : ((bs [68]).toList == [99]) = false := by rw [bs_tl]; rfl
  have q8 : ((bs [68]).toList == [121]) = false := by rw [bs_tl]; rfl
  have q9 : ((bs [68]).toList == [62]) = false := by rw [bs_tl]; rfl
  have q10 : ((bs [68]).toList == [60]) = false := by rw [bs_tl]; rfl
  have q11 : ((bs [68]).toList == [120]) = false := by rw [bs_tl]; rfl
  have q12 : ((bs [68]).toList == [88]) = false := by rw [bs_tl]; rfl
  have q13 : ((bs [68]).toList == [68]) = true := by rw [bs_tl]; rfl
  have pc0 := BP2.cell 0
  have pc1 := BP2.cell 1
  have pc2 := BP2.cell 2
  have pc3 := BP2.cell 3
  have pc4 := BP2.cell 4
  try simp at pc0 pc1 pc2 pc3 pc4
  obtain ⟨AA, hAA⟩ : ∃ AA, (if n = 1 then (some ad : Option Addr) else some ⟨ad.block, ad.off + 1, none⟩) = AA := ⟨_, rfl⟩
  have L2 : Hid (∀ u, Below w.heap.size w u → Ls u AA (n - 1) (t)) := Lib.hid (fun u hu => (h.below hu).cut hAA)
  have BH := Lib.hid (fun (u : World) (A : Option Addr) (n : Nat) (_ : Ls u A n (t)) => show Calls Tryz.prog 33 #[.agg #[.int .i64 r, .int .i64 m, .string ⟨#[100]⟩, .string ⟨#[36]⟩, .string (bs [])], .slice A (t).length n] u (RefIs (Phr.last ⟨r, m, [100], [36], []⟩ (t)) u) from ref26_last ⟨r, m, [100], [36], []⟩ u)
  obtain ⟨X, hX⟩ : ∃ X, Phr.last ⟨r, m, [100], [36], []⟩ t = X := ⟨_, rfl⟩
  rw [hX] at BH HF
  clear hX h BP BR WB BP1 BR1 WB1 BP2
  go_enter Tryz.func14, Tryz.ntmps14
  go_wp2_with fail
  go_region_with (go_at_call 33; refine (BH.out _ _ _ (L2.out _ WB2.drew)).mono ?_; rintro e w4 ⟨rfl, hb4⟩; have BR4 := BR2.drew.below hb4 BR2.drew.lt; have W4 := WB2.drew.trans (hb4.mono WB2.drew.size); obtain ⟨⟨vp0, vr0⟩, ⟨vp1, vr1⟩, ⟨vp2, vr2⟩, ⟨vp3, vr3⟩, ⟨vp4, vr4⟩, vB⟩ := Phr.blk5 BR4 (.int .i64 X.1.reg) (.int .i64 X.1.count) (.string (bs X.1.op)) (.string (bs X.1.key)) (.string (bs X.1.arg)); have GG := Phr.put5_gb w4 (w.heap.size + 1) (.int .i64 X.1.reg) (.int .i64 X.1.count) (.string (bs X.1.op)) (.string (bs X.1.key)) (.string (bs X.1.arg)); unfold Phr.put5 at GG vB; generalize hv1 : w4.setCell ⟨w.heap.size + 1, 0, none⟩ (.int .i64 X.1.reg) = v1 at *; generalize hv2 : v1.setCell ⟨w.heap.size + 1, 1, none⟩ (.int .i64 X.1.count) = v2 at *; generalize hv3 : v2.setCell ⟨w.heap.size + 1, 2, none⟩ (.string (bs X.1.op)) = v3 at *; generalize hv4 : v3.setCell ⟨w.heap.size + 1, 3, none⟩ (.string (bs X.1.key)) = v4 at *; generalize hv5 : v4.setCell ⟨w.heap.size + 1, 4, none⟩ (.string (bs X.1.arg)) = v5 at *; have BB := Lib.hid vB; have W5 := W4.grown GG W4.size (fun j e => by injection e with e; omega); clear hb4 BR4 W4)
  all_goals
    go_wp2_with fail
    refine ret_five1 rfl rfl BB.out rfl Tryz.underlying27 (by kernel_rfl) ?_
    exact ⟨_, HF, rfl, W5⟩
set_option maxHeartbeats 1000000 in
set_option maxRecDepth 100000 in
theorem ref26_plain_k13 {A : Option Addr} {n : Nat} {r m : Int} {t : List (List UInt8)} {w : World} (h : Ls w A n ([67] :: t))  :
    Calls Tryz.prog 14 #[.agg #[.int .i64 r, .int .i64 m, .string (bs []), .string (bs []), .string (bs [])], .slice A (t.length + 1) n] w (RefFin (Phr.run false ⟨r, m, [], [], []⟩ ([67] :: t)) w) := by
  have HF : Phr.fin (Phr.last ⟨r, m, [99], [36], []⟩ t) = Phr.run false ⟨r, m, [], [], []⟩ ([67] :: t) := by show Phr.fin (Phr.goes ⟨r, m, [99], [36], []⟩ 0 (t)) = _; rw [Phr.fin_goes]; rfl
  generalize Phr.run false ⟨r, m, [], [], []⟩ ([67] :: t) = FF at HF ⊢
  obtain ⟨W0, hW0⟩ : ∃ W0, (w.alloc (.cells #[.int .i64 r, .int .i64 m, .string (bs []), .string (bs []), .string (bs [])] 27)).alloc (.cells #[.int .i64 0, .int .i64 0, .string ⟨#[]⟩, .string ⟨#[]⟩, .string ⟨#[]⟩] 27) = W0 := ⟨_, rfl⟩
  obtain ⟨BP, BR, WB, SZ⟩ := Phr.start (⟨r, m, [], [], []⟩ : Cmd) hW0
  simp only at BP
  obtain ⟨ad, rfl⟩ := h.addr
  have X0 : Hid (∀ u, Below w.heap.size w u → u.cell? ad = some (.string (bs [67]))) := Lib.hid (fun u hu => h.at_ (j := 0) rfl hu)
  have x0 := X0.out W0 WB
  have sc1 := BP.cell 2
  have sf1 := BP.frozen 2
  have BP1 := BP.set_ 2 (.string ⟨#[99]⟩)
  have BR1 := BR.far (p := ⟨w.heap.size, 2, none⟩) (by show w.heap.size + 1 ≠ w.heap.size; omega) (.string ⟨#[99]⟩)
  have WB1 := WB.setCell (p := ⟨w.heap.size, 2, none⟩) (Nat.le_refl _) (.string ⟨#[99]⟩)
  generalize hs1 : W0.setCell ⟨w.heap.size, 2, none⟩ (.string ⟨#[99]⟩) = W1 at *
  simp at sc1
  have sc2 := BP1.cell 3
  have sf2 := BP1.frozen 3
  have BP2 := BP1.set_ 3 (.string ⟨#[36]⟩)
  have BR2 := BR1.far (p := ⟨w.heap.size, 3, none⟩) (by show w.heap.size + 1 ≠ w.heap.size; omega) (.string ⟨#[36]⟩)
  have WB2 := WB1.setCell (p := ⟨w.heap.size, 3, none⟩) (Nat.le_refl _) (.string ⟨#[36]⟩)
  generalize hs2 : W1.setCell ⟨w.heap.size, 3, none⟩ (.string ⟨#[36]⟩) = W2 at *
  simp at sc2
  have q0 : ((bs [67]).toList == [103]) = false := by rw [bs_tl]; rfl
  have q1 : ((bs [67]).toList == [103, 117]) = false := by rw [bs_tl]; rfl
  have q2 : ((bs [67]).toList == [103, 85]) = false := by rw [bs_tl]; rfl
  have q3 : ((bs [67]).toList == [103, 126]) = false := by rw [bs_tl]; rfl
  have q4 : ((bs [67]).toList == [103, 45]) = false := by rw [bs_tl]; rfl
  have q5 : ((bs [67]).toList == [103, 43]) = false := by rw [bs_tl]; rfl
  have q6 : ((bs [67]).toList == [100]) = false := by rw [bs_tl]; rfl
  have q7 : ((bs [67]).toList == [99]) = false := by rw [bs_tl]; rfl
  have q8 : ((bs [67]).toList == [121]) = false := by rw [bs_tl]; rfl
  have q9 : ((bs [67]).toList == [62]) = false := by rw [bs_tl]; rfl
  have q10 : ((bs [67]).toList == [60]) = false := by rw [bs_tl]; rfl
  have q11 : ((bs [67]).toList == [120]) = false := by rw [bs_tl]; rfl
  have q12 : ((bs [67]).toList == [88]) = false := by rw [bs_tl]; rfl
  have q13 : ((bs [67]).toList == [68]) = false := by rw [bs_tl]; rfl
  have q14 : ((bs [67]).toList == [67]) = true := by rw [bs_tl]; rfl
  have pc0 := BP2.cell 0
  have pc1 := BP2.cell 1
  have pc2 := BP2.cell 2
  have pc3 := BP2.cell 3
  have pc4 := BP2.cell 4
  try simp at pc0 pc1 pc2 pc3 pc4
  obtain ⟨AA, hAA⟩ : ∃ AA, (if n = 1 then (some ad : Option Addr) else some ⟨ad.block, ad.off + 1, none⟩) = AA := ⟨_, rfl⟩
  have L2 : Hid (∀ u, Below w.heap.size w u → Ls u AA (n - 1) (t)) := Lib.hid (fun u hu => (h.below hu).cut hAA)
  have BH := Lib.hid (fun (u : World) (A : Option Addr) (n : Nat) (_ : Ls u A n (t)) => show Calls Tryz.prog 33 #[.agg #[.int .i64 r, .int .i64 m, .string ⟨#[99]⟩, .string ⟨#[36]⟩, .string (bs [])], .slice A (t).length n] u (RefIs (Phr.last ⟨r, m, [99], [36], []⟩ (t)) u) from ref26_last ⟨r, m, [99], [36], []⟩ u)
  obtain ⟨X, hX⟩ : ∃ X, Phr.last ⟨r, m, [99], [36], []⟩ t = X := ⟨_, rfl⟩
  rw [hX] at BH HF
  clear hX h BP BR WB BP1 BR1 WB1 BP2
  go_enter Tryz.func14, Tryz.ntmps14
  go_wp2_with fail
  go_region_with (go_at_call 33; refine (BH.out _ _ _ (L2.out _ WB2.drew)).mono ?_; rintro e w4 ⟨rfl, hb4⟩; have BR4 := BR2.drew.below hb4 BR2.drew.lt; have W4 := WB2.drew.trans (hb4.mono WB2.drew.size); obtain ⟨⟨vp0, vr0⟩, ⟨vp1, vr1⟩, ⟨vp2, vr2⟩, ⟨vp3, vr3⟩, ⟨vp4, vr4⟩, vB⟩ := Phr.blk5 BR4 (.int .i64 X.1.reg) (.int .i64 X.1.count) (.string (bs X.1.op)) (.string (bs X.1.key)) (.string (bs X.1.arg)); have GG := Phr.put5_gb w4 (w.heap.size + 1) (.int .i64 X.1.reg) (.int .i64 X.1.count) (.string (bs X.1.op)) (.string (bs X.1.key)) (.string (bs X.1.arg)); unfold Phr.put5 at GG vB; generalize hv1 : w4.setCell ⟨w.heap.size + 1, 0, none⟩ (.int .i64 X.1.reg) = v1 at *; generalize hv2 : v1.setCell ⟨w.heap.size + 1, 1, none⟩ (.int .i64 X.1.count) = v2 at *; generalize hv3 : v2.setCell ⟨w.heap.size + 1, 2, none⟩ (.string (bs X.1.op)) = v3 at *; generalize hv4 : v3.setCell ⟨w.heap.size + 1, 3, none⟩ (.string (bs X.1.key)) = v4 at *; generalize hv5 : v4.setCell ⟨w.heap.size + 1, 4, none⟩ (.string (bs X.1.arg)) = v5 at *; have BB := Lib.hid vB; have W5 := W4.grown GG W4.size (fun j e => by injection e with e; omega); clear hb4 BR4 W4)
  all_goals
    go_wp2_with fail
    refine ret_five1 rfl rfl BB.out rfl Tryz.underlying27 (by kernel_rfl) ?_
    exact ⟨_, HF, rfl, W5⟩
set_option maxHeartbeats 1000000 in
set_option maxRecDepth 100000 in
theorem ref26_plain_k14 {A : Option Addr} {n : Nat} {r m : Int} {t : List (List UInt8)} {w : World} (h : Ls w A n ([115] :: t))  :
    Calls Tryz.prog 14 #[.agg #[.int .i64 r, .int .i64 m, .string (bs []), .string (bs []), .string (bs [])], .slice A (t.length + 1) n] w (RefFin (Phr.run false ⟨r, m, [], [], []⟩ ([115] :: t)) w) := by
  have HF : Phr.fin (Phr.last ⟨r, m, [99], [108], []⟩ t) = Phr.run false ⟨r, m, [], [], []⟩ ([115] :: t) := by show Phr.fin (Phr.goes ⟨r, m, [99], [108], []⟩ 0 (t)) = _; rw [Phr.fin_goes]; rfl
  generalize Phr.run false ⟨r, m, [], [], []⟩ ([115] :: t) = FF at HF ⊢
  obtain ⟨W0, hW0⟩ : ∃ W0, (w.alloc (.cells #[.int .i64 r, .int .i64 m, .string (bs []), .string (bs []), .string (bs [])] 27)).alloc (.cells #[.int .i64 0, .int .i64 0, .string ⟨#[]⟩, .string ⟨#[]⟩, .string ⟨#[]⟩] 27) = W0 := ⟨_, rfl⟩
  obtain ⟨BP, BR, WB, SZ⟩ := Phr.start (⟨r, m, [], [], []⟩ : Cmd) hW0
  simp only at BP
  obtain ⟨ad, rfl⟩ := h.addr
  have X0 : Hid (∀ u, Below w.heap.size w u → u.cell? ad = some (.string (bs [115]))) := Lib.hid (fun u hu => h.at_ (j := 0) rfl hu)
  have x0 := X0.out W0 WB
  have sc1 := BP.cell 2
  have sf1 := BP.frozen 2
  have BP1 := BP.set_ 2 (.string ⟨#[99]⟩)
  have BR1 := BR.far (p := ⟨w.heap.size, 2, none⟩) (by show w.heap.size + 1 ≠ w.heap.size; omega) (.string ⟨#[99]⟩)
  have WB1 := WB.setCell (p := ⟨w.heap.size, 2, none⟩) (Nat.le_refl _) (.string ⟨#[99]⟩)
  generalize hs1 : W0.setCell ⟨w.heap.size, 2, none⟩ (.string ⟨#[99]⟩) = W1 at *
  simp at sc1
  have sc2 := BP1.cell 3
  have sf2 := BP1.frozen 3
  have BP2 := BP1.set_ 3 (.string ⟨#[108]⟩)
  have BR2 := BR1.far (p := ⟨w.heap.size, 3, none⟩) (by show w.heap.size + 1 ≠ w.heap.size; omega) (.string ⟨#[108]⟩)
  have WB2 := WB1.setCell (p := ⟨w.heap.size, 3, none⟩) (Nat.le_refl _) (.string ⟨#[108]⟩)
  generalize hs2 : W1.setCell ⟨w.heap.size, 3, none⟩ (.string ⟨#[108]⟩) = W2 at *
  simp at sc2
  have q0 : ((bs [115]).toList == [103]) = false := by rw [bs_tl]; rfl
  have q1 : ((bs [115]).toList == [103, 117]) = false := by rw [bs_tl]; rfl
  have q2 : ((bs [115]).toList == [103, 85]) = false := by rw [bs_tl]; rfl
  have q3 : ((bs [115]).toList == [103, 126]) = false := by rw [bs_tl]; rfl
  have q4 : ((bs [115]).toList == [103, 45]) = false := by rw [bs_tl]; rfl
  have q5 : ((bs [115]).toList == [103, 43]) = false := by rw [bs_tl]; rfl
  have q6 : ((bs [115]).toList == [100]) = false := by rw [bs_tl]; rfl
  have q7 : ((bs [115]).toList == [99]) = false := by rw [bs_tl]; rfl
  have q8 : ((bs [115]).toList == [121]) = false := by rw [bs_tl]; rfl
  have q9 : ((bs [115]).toList == [62]) = false := by rw [bs_tl]; rfl
  have q10 : ((bs [115]).toList == [60]) = false := by rw [bs_tl]; rfl
  have q11 : ((bs [115]).toList == [120]) = false := by rw [bs_tl]; rfl
  have q12 : ((bs [115]).toList == [88]) = false := by rw [bs_tl]; rfl
  have q13 : ((bs [115]).toList == [68]) = false := by rw [bs_tl]; rfl
  have q14 : ((bs [115]).toList == [67]) = false := by rw [bs_tl]; rfl
  have q15 : ((bs [115]).toList == [115]) = true := by rw [bs_tl]; rfl
  have pc0 := BP2.cell 0
  have pc1 := BP2.cell 1
  have pc2 := BP2.cell 2
  have pc3 := BP2.cell 3
  have pc4 := BP2.cell 4
  try simp at pc0 pc1 pc2 pc3 pc4
  obtain ⟨AA, hAA⟩ : ∃ AA, (if n = 1 then (some ad : Option Addr) else some ⟨ad.block, ad.off + 1, none⟩) = AA := ⟨_, rfl⟩
  have L2 : Hid (∀ u, Below w.heap.size w u → Ls u AA (n - 1) (t)) := Lib.hid (fun u hu => (h.below hu).cut hAA)
  have BH := Lib.hid (fun (u : World) (A : Option Addr) (n : Nat) (_ : Ls u A n (t)) => show Calls Tryz.prog 33 #[.agg #[.int .i64 r, .int .i64 m, .string ⟨#[99]⟩, .string ⟨#[108]⟩, .string (bs [])], .slice A (t).length n] u (RefIs (Phr.last ⟨r, m, [99], [108], []⟩ (t)) u) from ref26_last ⟨r, m, [99], [108], []⟩ u)
  obtain ⟨X, hX⟩ : ∃ X, Phr.last ⟨r, m, [99], [108], []⟩ t = X := ⟨_, rfl⟩
  rw [hX] at BH HF
  clear hX h BP BR WB BP1 BR1 WB1 BP2
  go_enter Tryz.func14, Tryz.ntmps14
  go_wp2_with fail
  go_region_with (go_at_call 33; refine (BH.out _ _ _ (L2.out _ WB2.drew)).mono ?_; rintro e w4 ⟨rfl, hb4⟩; have BR4 := BR2.drew.below hb4 BR2.drew.lt; have W4 := WB2.drew.trans (hb4.mono WB2.drew.size); obtain ⟨⟨vp0, vr0⟩, ⟨vp1, vr1⟩, ⟨vp2, vr2⟩, ⟨vp3, vr3⟩, ⟨vp4, vr4⟩, vB⟩ := Phr.blk5 BR4 (.int .i64 X.1.reg) (.int .i64 X.1.count) (.string (bs X.1.op)) (.string (bs X.1.key)) (.string (bs X.1.arg)); have GG := Phr.put5_gb w4 (w.heap.size + 1) (.int .i64 X.1.reg) (.int .i64 X.1.count) (.string (bs X.1.op)) (.string (bs X.1.key)) (.string (bs X.1.arg)); unfold Phr.put5 at GG vB; generalize hv1 : w4.setCell ⟨w.heap.size + 1, 0, none⟩ (.int .i64 X.1.reg) = v1 at *; generalize hv2 : v1.setCell ⟨w.heap.size + 1, 1, none⟩ (.int .i64 X.1.count) = v2 at *; generalize hv3 : v2.setCell ⟨w.heap.size + 1, 2, none⟩ (.string (bs X.1.op)) = v3 at *; generalize hv4 : v3.setCell ⟨w.heap.size + 1, 3, none⟩ (.string (bs X.1.key)) = v4 at *; generalize hv5 : v4.setCell ⟨w.heap.size + 1, 4, none⟩ (.string (bs X.1.arg)) = v5 at *; have BB := Lib.hid vB; have W5 := W4.grown GG W4.size (fun j e => by injection e with e; omega); clear hb4 BR4 W4)
  all_goals
    go_wp2_with fail
    refine ret_five1 rfl rfl BB.out rfl Tryz.underlying27 (by kernel_rfl) ?_
    exact ⟨_, HF, rfl, W5⟩
set_option maxHeartbeats 1000000 in
set_option maxRecDepth 100000 in
theorem ref26_plain_k15 {A : Option Addr} {n : Nat} {r m : Int} {t : List (List UInt8)} {w : World} (h : Ls w A n ([83] :: t))  :
    Calls Tryz.prog 14 #[.agg #[.int .i64 r, .int .i64 m, .string (bs []), .string (bs []), .string (bs [])], .slice A (t.length + 1) n] w (RefFin (Phr.run false ⟨r, m, [], [], []⟩ ([83] :: t)) w) := by
  have HF : Phr.fin (Phr.last ⟨r, m, [99], [108, 105, 110, 101], []⟩ t) = Phr.run false ⟨r, m, [], [], []⟩ ([83] :: t) := by show Phr.fin (Phr.goes ⟨r, m, [99], [108, 105, 110, 101], []⟩ 0 (t)) = _; rw [Phr.fin_goes]; rfl
  generalize Phr.run false ⟨r, m, [], [], []⟩ ([83] :: t) = FF at HF ⊢
  obtain ⟨W0, hW0⟩ : ∃ W0, (w.alloc (.cells #[.int .i64 r, .int .i64 m, .string (bs []), .string (bs []), .string (bs [])] 27)).alloc (.cells #[.int .i64 0, .int .i64 0, .string ⟨#[]⟩, .string ⟨#[]⟩, .string ⟨#[]⟩] 27) = W0 := ⟨_, rfl⟩
  obtain ⟨BP, BR, WB, SZ⟩ := Phr.start (⟨r, m, [], [], []⟩ : Cmd) hW0
  simp only at BP
  obtain ⟨ad, rfl⟩ := h.addr
  have X0 : Hid (∀ u, Below w.heap.size w u → u.cell? ad = some (.string (bs [83]))) := Lib.hid (fun u hu => h.at_ (j := 0) rfl hu)
  have x0 := X0.out W0 WB
  have sc1 := BP.cell 2
  have sf1 := BP.frozen 2
  have BP1 := BP.set_ 2 (.string ⟨#[99]⟩)
  have BR1 := BR.far (p := ⟨w.heap.size, 2, none⟩) (by show w.heap.size + 1 ≠ w.heap.size; omega) (.string ⟨#[99]⟩)
  have WB1 := WB.setCell (p := ⟨w.heap.size, 2, none⟩) (Nat.le_refl _) (.string ⟨#[99]⟩)
  generalize hs1 : W0.setCell ⟨w.heap.size, 2, none⟩ (.string ⟨#[99]⟩) = W1 at *
  simp at sc1
  have sc2 := BP1.cell 3
  have sf2 := BP1.frozen 3
  have BP2 := BP1.set_ 3 (.string ⟨#[108, 105, 110, 101]⟩)
  have BR2 := BR1.far (p := ⟨w.heap.size, 3, none⟩) (by show w.heap.size + 1 ≠ w.heap.size; omega) (.string ⟨#[108, 105, 110, 101]⟩)
  have WB2 := WB1.setCell (p := ⟨w.heap.size, 3, none⟩) (Nat.le_refl _) (.string ⟨#[108, 105, 110, 101]⟩)
  generalize hs2 : W1.setCell ⟨w.heap.size, 3, none⟩ (.string ⟨#[108, 105, 110, 101]⟩) = W2 at *
  simp at sc2
  have q0 : ((bs [83]).toList == [103]) = false := by rw [bs_tl]; rfl
  have q1 : ((bs [83]).toList == [103, 117]) = false := by rw [bs_tl]; rfl
  have q2 : ((bs [83]).toList == [103, 85]) = false := by rw [bs_tl]; rfl
  have q3 : ((bs [83]).toList == [103, 126]) = false := by rw [bs_tl]; rfl
  have q4 : ((bs [83]).toList == [103, 45]) = false := by rw [bs_tl]; rfl
  have q5 : ((bs [83]).toList == [103, 43]) = false := by rw [bs_tl]; rfl
  have q6 : ((bs [83]).toList == [100]) = false := by rw [bs_tl]; rfl
  have q7 : ((bs [83]).toList == [99]) = false := by rw [bs_tl]; rfl
  have q8 : ((bs [83]).toList == [121]) = false := by rw [bs_tl]; rfl
  have q9 : ((bs [83]).toList == [62]) = false := by rw [bs_tl]; rfl
  have q10 : ((bs [83]).toList == [60]) = false := by rw [bs_tl]; rfl
  have q11 : ((bs [83]).toList == [120]) = false := by rw [bs_tl]; rfl
  have q12 : ((bs [83]).toList == [88]) = false := by rw [bs_tl]; rfl
  have q13 : ((bs [83]).toList == [68]) = false := by rw [bs_tl]; rfl
  have q14 : ((bs [83]).toList == [67]) = false := by rw [bs_tl]; rfl
  have q15 : ((bs [83]).toList == [115]) = false := by rw [bs_tl]; rfl
  have q16 : ((bs [83]).toList == [83]) = true := by rw [bs_tl]; rfl
  have pc0 := BP2.cell 0
  have pc1 := BP2.cell 1
  have pc2 := BP2.cell 2
  have pc3 := BP2.cell 3
  have pc4 := BP2.cell 4
  try simp at pc0 pc1 pc2 pc3 pc4
  obtain ⟨AA, hAA⟩ : ∃ AA, (if n = 1 then (some ad : Option Addr) else some ⟨ad.block, ad.off + 1, none⟩) = AA := ⟨_, rfl⟩
  have L2 : Hid (∀ u, Below w.heap.size w u → Ls u AA (n - 1) (t)) := Lib.hid (fun u hu => (h.below hu).cut hAA)
  have BH := Lib.hid (fun (u : World) (A : Option Addr) (n : Nat) (_ : Ls u A n (t)) => show Calls Tryz.prog 33 #[.agg #[.int .i64 r, .int .i64 m, .string ⟨#[99]⟩, .string ⟨#[108, 105, 110, 101]⟩, .string (bs [])], .slice A (t).length n] u (RefIs (Phr.last ⟨r, m, [99], [108, 105, 110, 101], []⟩ (t)) u) from ref26_last ⟨r, m, [99], [108, 105, 110, 101], []⟩ u)
  obtain ⟨X, hX⟩ : ∃ X, Phr.last ⟨r, m, [99], [108, 105, 110, 101], []⟩ t = X := ⟨_, rfl⟩
  rw [hX] at BH HF
  clear hX h BP BR WB BP1 BR1 WB1 BP2
  go_enter Tryz.func14, Tryz.ntmps14
  go_wp2_with fail
  go_region_with (go_at_call 33; refine (BH.out _ _ _ (L2.out _ WB2.drew)).mono ?_; rintro e w4 ⟨rfl, hb4⟩; have BR4 := BR2.drew.below hb4 BR2.drew.lt; have W4 := WB2.drew.trans (hb4.mono WB2.drew.size); obtain ⟨⟨vp0, vr0⟩, ⟨vp1, vr1⟩, ⟨vp2, vr2⟩, ⟨vp3, vr3⟩, ⟨vp4, vr4⟩, vB⟩ := Phr.blk5 BR4 (.int .i64 X.1.reg) (.int .i64 X.1.count) (.string (bs X.1.op)) (.string (bs X.1.key)) (.string (bs X.1.arg)); have GG := Phr.put5_gb w4 (w.heap.size + 1) (.int .i64 X.1.reg) (.int .i64 X.1.count) (.string (bs X.1.op)) (.string (bs X.1.key)) (.string (bs X.1.arg)); unfold Phr.put5 at GG vB; generalize hv1 : w4.setCell ⟨w.heap.size + 1, 0, none⟩ (.int .i64 X.1.reg) = v1 at *; generalize hv2 : v1.setCell ⟨w.heap.size + 1, 1, none⟩ (.int .i64 X.1.count) = v2 at *; generalize hv3 : v2.setCell ⟨w.heap.size + 1, 2, none⟩ (.string (bs X.1.op)) = v3 at *; generalize hv4 : v3.setCell ⟨w.heap.size + 1, 3, none⟩ (.string (bs X.1.key)) = v4 at *; generalize hv5 : v4.setCell ⟨w.heap.size + 1, 4, none⟩ (.string (bs X.1.arg)) = v5 at *; have BB := Lib.hid vB; have W5 := W4.grown GG W4.size (fun j e => by injection e with e; omega); clear hb4 BR4 W4)
  all_goals
    go_wp2_with fail
    refine ret_five1 rfl rfl BB.out rfl Tryz.underlying27 (by kernel_rfl) ?_
    exact ⟨_, HF, rfl, W5⟩
set_option maxHeartbeats 1000000 in
set_option maxRecDepth 100000 in
theorem ref26_plain_k16 {A : Option Addr} {n : Nat} {r m : Int} {t : List (List UInt8)} {w : World} (h : Ls w A n ([89] :: t))  :
    Calls Tryz.prog 14 #[.agg #[.int .i64 r, .int .i64 m, .string (bs []), .string (bs []), .string (bs [])], .slice A (t.length + 1) n] w (RefFin (Phr.run false ⟨r, m, [], [], []⟩ ([89] :: t)) w) := by
  have HF : Phr.fin (Phr.last ⟨r, m, [121], [108, 105, 110, 101], []⟩ t) = Phr.run false ⟨r, m, [], [], []⟩ ([89] :: t) := by show Phr.fin (Phr.goes ⟨r, m, [121], [108, 105, 110, 101], []⟩ 0 (t)) = _; rw [Phr.fin_goes]; rfl
  generalize Phr.run false ⟨r, m, [], [], []⟩ ([89] :: t) = FF at HF ⊢
  obtain ⟨W0, hW0⟩ : ∃ W0, (w.alloc (.cells #[.int .i64 r, .int .i64 m, .string (bs []), .string (bs []), .string (bs [])] 27)).alloc (.cells #[.int .i64 0, .int .i64 0, .string ⟨#[]⟩, .string ⟨#[]⟩, .string ⟨#[]⟩] 27) = W0 := ⟨_, rfl⟩
  obtain ⟨BP, BR, WB, SZ⟩ := Phr.start (⟨r, m, [], [], []⟩ : Cmd) hW0
  simp only at BP
  obtain ⟨ad, rfl⟩ := h.addr
  have X0 : Hid (∀ u, Below w.heap.size w u → u.cell? ad = some (.string (bs [89]))) := Lib.hid (fun u hu => h.at_ (j := 0) rfl hu)
  have x0 := X0.out W0 WB
  have sc1 := BP.cell 2
  have sf1 := BP.frozen 2
  have BP1 := BP.set_ 2 (.string ⟨#[121]⟩)
  have BR1 := BR.far (p := ⟨w.heap.size, 2, none⟩) (by show w.heap.size + 1 ≠ w.heap.size; omega) (.string ⟨#[121]⟩)
  have WB1 := WB.setCell (p := ⟨w.heap.size, 2, none⟩) (Nat.le_refl _) (.string ⟨#[121]⟩)
  generalize hs1 : W0.setCell ⟨w.heap.size, 2, none⟩ (.string ⟨#[121]⟩) = W1 at *
  simp at sc1
  have sc2 := BP1.cell 3
  have sf2 := BP1.frozen 3
  have BP2 := BP1.set_ 3 (.string ⟨#[108, 105, 110, 101]⟩)
  have BR2 := BR1.far (p := ⟨w.heap.size, 3, none⟩) (by show w.heap.size + 1 ≠ w.heap.size; omega) (.string ⟨#[108, 105, 110, 101]⟩)
  have WB2 := WB1.setCell (p := ⟨w.heap.size, 3, none⟩) (Nat.le_refl _) (.string ⟨#[108, 105, 110, 101]⟩)
  generalize hs2 : W1.setCell ⟨w.heap.size, 3, none⟩ (.string ⟨#[108, 105, 110, 101]⟩) = W2 at *
  simp at sc2
  have q0 : ((bs [89]).toList == [103]) = false := by rw [bs_tl]; rfl
  have q1 : ((bs [89]).toList == [103, 117]) = false := by rw [bs_tl]; rfl
  have q2 : ((bs [89]).toList == [103, 85]) = false := by rw [bs_tl]; rfl
  have q3 : ((bs [89]).toList == [103, 126]) = false := by rw [bs_tl]; rfl
  have q4 : ((bs [89]).toList == [103, 45]) = false := by rw [bs_tl]; rfl
  have q5 : ((bs [89]).toList == [103, 43]) = false := by rw [bs_tl]; rfl
  have q6 : ((bs [89]).toList == [100]) = false := by rw [bs_tl]; rfl
  have q7 : ((bs [89]).toList == [99]) = false := by rw [bs_tl]; rfl
  have q8 : ((bs [89]).toList == [121]) = false := by rw [bs_tl]; rfl
  have q9 : ((bs [89]).toList == [62]) = false := by rw [bs_tl]; rfl
  have q10 : ((bs [89]).toList == [60]) = false := by rw [bs_tl]; rfl
  have q11 : ((bs [89]).toList == [120]) = false := by rw [bs_tl]; rfl
  have q12 : ((bs [89]).toList == [88]) = false := by rw [bs_tl]; rfl
  have q13 : ((bs [89]).toList == [68]) = false := by rw [bs_tl]; rfl
  have q14 : ((bs [89]).toList == [67]) = false := by rw [bs_tl]; rfl
  have q15 : ((bs [89]).toList == [115]) = false := by rw [bs_tl]; rfl
  have q16 : ((bs [89]).toList == [83]) = false := by rw [bs_tl]; rfl
  have q17 : ((bs [89]).toList == [89]) = true := by rw [bs_tl]; rfl
  have pc0 := BP2.cell 0
  have pc1 := BP2.cell 1
  have pc2 := BP2.cell 2
  have pc3 := BP2.cell 3
  have pc4 := BP2.cell 4
  try simp at pc0 pc1 pc2 pc3 pc4
  obtain ⟨AA, hAA⟩ : ∃ AA, (if n = 1 then (some ad : Option Addr) else some ⟨ad.block, ad.off + 1, none⟩) = AA := ⟨_, rfl⟩
  have L2 : Hid (∀ u, Below w.heap.size w u → Ls u AA (n - 1) (t)) := Lib.hid (fun u hu => (h.below hu).cut hAA)
  have BH := Lib.hid (fun (u : World) (A : Option Addr) (n : Nat) (_ : Ls u A n (t)) => show Calls Tryz.prog 33 #[.agg #[.int .i64 r, .int .i64 m, .string ⟨#[121]⟩, .string ⟨#[108, 105, 110, 101]⟩, .string (bs [])], .slice A (t).length n] u (RefIs (Phr.last ⟨r, m, [121], [108, 105, 110, 101], []⟩ (t)) u) from ref26_last ⟨r, m, [121], [108, 105, 110, 101], []⟩ u)
  obtain ⟨X, hX⟩ : ∃ X, Phr.last ⟨r, m, [121], [108, 105, 110, 101], []⟩ t = X := ⟨_, rfl⟩
  rw [hX] at BH HF
  clear hX h BP BR WB BP1 BR1 WB1 BP2
  go_enter Tryz.func14, Tryz.ntmps14
  go_wp2_with fail
  go_region_with (go_at_call 33; refine (BH.out _ _ _ (L2.out _ WB2.drew)).mono ?_; rintro e w4 ⟨rfl, hb4⟩; have BR4 := BR2.drew.below hb4 BR2.drew.lt; have W4 := WB2.drew.trans (hb4.mono WB2.drew.size); obtain ⟨⟨vp0, vr0⟩, ⟨vp1, vr1⟩, ⟨vp2, vr2⟩, ⟨vp3, vr3⟩, ⟨vp4, vr4⟩, vB⟩ := Phr.blk5 BR4 (.int .i64 X.1.reg) (.int .i64 X.1.count) (.string (bs X.1.op)) (.string (bs X.1.key)) (.string (bs X.1.arg)); have GG := Phr.put5_gb w4 (w.heap.size + 1) (.int .i64 X.1.reg) (.int .i64 X.1.count) (.string (bs X.1.op)) (.string (bs X.1.key)) (.string (bs X.1.arg)); unfold Phr.put5 at GG vB; generalize hv1 : w4.setCell ⟨w.heap.size + 1, 0, none⟩ (.int .i64 X.1.reg) = v1 at *; generalize hv2 : v1.setCell ⟨w.heap.size + 1, 1, none⟩ (.int .i64 X.1.count) = v2 at *; generalize hv3 : v2.setCell ⟨w.heap.size + 1, 2, none⟩ (.string (bs X.1.op)) = v3 at *; generalize hv4 : v3.setCell ⟨w.heap.size + 1, 3, none⟩ (.string (bs X.1.key)) = v4 at *; generalize hv5 : v4.setCell ⟨w.heap.size + 1, 4, none⟩ (.string (bs X.1.arg)) = v5 at *; have BB := Lib.hid vB; have W5 := W4.grown GG W4.size (fun j e => by injection e with e; omega); clear hb4 BR4 W4)
  all_goals
    go_wp2_with fail
    refine ret_five1 rfl rfl BB.out rfl Tryz.underlying27 (by kernel_rfl) ?_
    exact ⟨_, HF, rfl, W5⟩
set_option maxHeartbeats 1000000 in
set_option maxRecDepth 100000 in
theorem ref26_plain_k17 {A : Option Addr} {n : Nat} {r m : Int} {t : List (List UInt8)} {w : World} (h : Ls w A n ([114] :: t))  :
    Calls Tryz.prog 14 #[.agg #[.int .i64 r, .int .i64 m, .string (bs []), .string (bs []), .string (bs [])], .slice A (t.length + 1) n] w (RefFin (Phr.run false ⟨r, m, [], [], []⟩ ([114] :: t)) w) := by
  have HF : Phr.fin (Phr.behind ⟨r, m, [], [114], []⟩ 2 t) = Phr.run false ⟨r, m, [], [], []⟩ ([114] :: t) := by show Phr.fin (Phr.goes ⟨r, m, [], [114], []⟩ 2 (t)) = _; rw [Phr.fin_goes]; rfl
  generalize Phr.run false ⟨r, m, [], [], []⟩ ([114] :: t) = FF at HF ⊢
  obtain ⟨W0, hW0⟩ : ∃ W0, (w.alloc (.cells #[.int .i64 r, .int .i64 m, .string (bs []), .string (bs []), .string (bs [])] 27)).alloc (.cells #[.int .i64 0, .int .i64 0, .string ⟨#[]⟩, .string ⟨#[]⟩, .string ⟨#[]⟩] 27) = W0 := ⟨_, rfl⟩
  obtain ⟨BP, BR, WB, SZ⟩ := Phr.start (⟨r, m, [], [], []⟩ : Cmd) hW0
  simp only at BP
  obtain ⟨ad, rfl⟩ := h.addr
  have X0 : Hid (∀ u, Below w.heap.size w u → u.cell? ad = some (.string (bs [114]))) := Lib.hid (fun u hu => h.at_ (j := 0) rfl hu)
  have x0 := X0.out W0 WB
  have sc1 := BP.cell 3
  have sf1 := BP.frozen 3
  have BP1 := BP.set_ 3 (.string (bs [114]))
  have BR1 := BR.far (p := ⟨w.heap.size, 3, none⟩) (by show w.heap.size + 1 ≠ w.heap.size; omega) (.string (bs [114]))
  have WB1 := WB.setCell (p := ⟨w.heap.size, 3, none⟩) (Nat.le_refl _) (.string (bs [114]))
  generalize hs1 : W0.setCell ⟨w.heap.size, 3, none⟩ (.string (bs [114])) = W1 at *
  simp at sc1
  have q0 : ((bs [114]).toList == [103]) = false := by rw [bs_tl]; rfl
  have q1 : ((bs [114]).toList == [103, 117]) = false := by rw [bs_tl]; rfl
  have q2 : ((bs [114]).toList == [103, 85]) = false := by rw [bs_tl]; rfl
  have q3 : ((bs [114]).toList == [103, 126]) = false := by rw [bs_tl]; rfl
  have q4 : ((bs [114]).toList == [103, 45]) = false := by rw [bs_tl]; rfl
  have q5 : ((bs [114]).toList == [103, 43]) = false := by rw [bs_tl]; rfl
  have q6 : ((bs [114]).toList == [100]) = false := by rw [bs_tl]; rfl
  have q7 : ((bs [114]).toList == [99]) = false := by rw [bs_tl]; rfl
  have q8 : ((bs [114]).toList == [121]) = false := by rw [bs_tl]; rfl
  have q9 : ((bs [114]).toList == [62]) = false := by rw [bs_tl]; rfl
  have q10 : ((bs [114]).toList == [60]) = false := by rw [bs_tl]; rfl
  have q11 : ((bs [114]).toList == [120]) = false := by rw [bs_tl]; rfl
  have q12 : ((bs [114]).toList == [88]) = false := by rw [bs_tl]; rfl
  have q13 : ((bs [114]).toList == [68]) = false := by rw [bs_tl]; rfl
  have q14 : ((bs [114]).toList == [67]) = false := by rw [bs_tl]; rfl
  have q15 : ((bs [114]).toList == [115]) = false := by rw [bs_tl]; rfl
  have q16 : ((bs [114]).toList == [83]) = false := by rw [bs_tl]; rfl
  have q17 : ((bs [114]).toList == [89]) = false := by rw [bs_tl]; rfl
  have q18 : ((bs [114]).toList == [114]) = true := by rw [bs_tl]; rfl
  have pc0 := BP1.cell 0
  have pc1 := BP1.cell 1
  have pc2 := BP1.cell 2
  have pc3 := BP1.cell 3
  have pc4 := BP1.cell 4
  try simp at pc0 pc1 pc2 pc3 pc4
  obtain ⟨AA, hAA⟩ : ∃ AA, (if n = 1 then (some ad : Option Addr) else some ⟨ad.block, ad.off + 1, none⟩) = AA := ⟨_, rfl⟩
  have L2 : Hid (∀ u, Below w.heap.size w u → Ls u AA (n - 1) (t)) := Lib.hid (fun u hu => (h.below hu).cut hAA)
  have BH := Lib.hid (fun (u : World) (A : Option Addr) (n : Nat) (h : Ls u A n (t)) => show Calls Tryz.prog 34 #[.agg #[.int .i64 r, .int .i64 m, .string (bs []), .string (bs [114]), .string (bs [])], .slice A (t).length n, .int .i64 2] u (RefIs (Phr.behind ⟨r, m, [], [114], []⟩ 2 (t)) u) from ref26_behind ⟨r, m, [], [114], []⟩ h (by decide))
  obtain ⟨X, hX⟩ : ∃ X, Phr.behind ⟨r, m, [], [114], []⟩ 2 t = X := ⟨_, rfl⟩
  rw [hX] at BH HF
  clear hX h BP BR WB BP1
  go_enter Tryz.func14, Tryz.ntmps14
  go_wp2_with fail
  go_region_with (go_at_call 34; refine (BH.out _ _ _ (L2.out _ WB1.drew)).mono ?_; rintro e w4 ⟨rfl, hb4⟩; have BR4 := BR1.drew.below hb4 BR1.drew.lt; have W4 := WB1.drew.trans (hb4.mono WB1.drew.size); obtain ⟨⟨vp0, vr0⟩, ⟨vp1, vr1⟩, ⟨vp2, vr2⟩, ⟨vp3, vr3⟩, ⟨vp4, vr4⟩, vB⟩ := Phr.blk5 BR4 (.int .i64 X.1.reg) (.int .i64 X.1.count) (.string (bs X.1.op)) (.string (bs X.1.key)) (.string (bs X.1.arg)); have GG := Phr.put5_gb w4 (w.heap.size + 1) (.int .i64 X.1.reg) (.int .i64 X.1.count) (.string (bs X.1.op)) (.string (bs X.1.key)) (.string (bs X.1.arg)); unfold Phr.put5 at GG vB; generalize hv1 : w4.setCell ⟨w.heap.size + 1, 0, none⟩ (.int .i64 X.1.reg) = v1 at *; generalize hv2 : v1.setCell ⟨w.heap.size + 1, 1, none⟩ (.int .i64 X.1.count) = v2 at *; generalize hv3 : v2.setCell ⟨w.heap.size + 1, 2, none⟩ (.string (bs X.1.op)) = v3 at *; generalize hv4 : v3.setCell ⟨w.heap.size + 1, 3, none⟩ (.string (bs X.1.key)) = v4 at *; generalize hv5 : v4.setCell ⟨w.heap.size + 1, 4, none⟩ (.string (bs X.1.arg)) = v5 at *; have BB := Lib.hid vB; have W5 := W4.grown GG W4.size (fun j e => by injection e with e; omega); clear hb4 BR4 W4)
  all_goals
    go_wp2_with fail
    refine ret_five1 rfl rfl BB.out rfl Tryz.underlying27 (by kernel_rfl) ?_
    exact ⟨_, HF, rfl, W5⟩
set_option maxHeartbeats 1000000 in
set_option maxRecDepth 100000 in
theorem ref26_plain_k18 {A : Option Addr} {n : Nat} {r m : Int} {t : List (List UInt8)} {w : World} (h : Ls w A n ([109] :: t))  :
    Calls Tryz.prog 14 #[.agg #[.int .i64 r, .int .i64 m, .string (bs []), .string (bs []), .string (bs [])], .slice A (t.length + 1) n] w (RefFin (Phr.run false ⟨r, m, [], [], []⟩ ([109] :: t)) w) := by
  have HF : Phr.fin (Phr.behind ⟨r, m, [], [109], []⟩ 3 t) = Phr.run false ⟨r, m, [], [], []⟩ ([109] :: t) := by show Phr.fin (Phr.goes ⟨r, m, [], [109], []⟩ 3 (t)) = _; rw [Phr.fin_goes]; rfl
  generalize Phr.run false ⟨r, m, [], [], []⟩ ([109] :: t) = FF at HF ⊢
  obtain ⟨W0, hW0⟩ : ∃ W0, (w.alloc (.cells #[.int .i64 r, .int .i64 m, .string (bs []), .string (bs []), .string (bs [])] 27)).alloc (.cells #[.int .i64 0, .int .i64 0, .string ⟨#[]⟩, .string ⟨#[]⟩, .string ⟨#[]⟩] 27) = W0 := ⟨_, rfl⟩
  obtain ⟨BP, BR, WB, SZ⟩ := Phr.start (⟨r, m, [], [], []⟩ : Cmd) hW0
  simp only at BP
  obtain ⟨ad, rfl⟩ := h.addr
  have X0 : Hid (∀ u, Below w.heap.size w u → u.cell? ad = some (.string (bs [109]))) := Lib.hid (fun u hu => h.at_ (j := 0) rfl hu)
  have x0 := X0.out W0 WB
  have sc1 := BP.cell 3
  have sf1 := BP.frozen 3
  have BP1 := BP.set_ 3 (.string (bs [109]))
  have BR1 := BR.far (p := ⟨w.heap.size, 3, none⟩) (by show w.heap.size + 1 ≠ w.heap.size; omega) (.string (bs [109]))
  have WB1 := WB.setCell (p := ⟨w.heap.size, 3, none⟩) (Nat.le_refl _) (.string (bs [109]))
  generalize hs1 : W0.setCell ⟨w.heap.size, 3, none⟩ (.string (bs [109])) = W1 at *
  simp at sc1
  have q0 : ((bs [109]).toList == [103]) = false := by rw [bs_tl]; rfl
  have q1 : ((bs [109]).toList == [103, 117]) = false := by rw [bs_tl]; rfl
  have q2 : ((bs [109]).toList == [103, 85]) = false := by rw [bs_tl]; rfl
  have q3 : ((bs [109]).toList == [103, 126]) = false := by rw [bs_tl]; rfl
  have q4 : ((bs [109]).toList == [103, 45]) = false := by rw [bs_tl]; rfl
  have q5 : ((bs [109]).toList == [103, 43]) = false := by rw [bs_tl]; rfl
  have q6 : ((bs [109]).toList == [100]) = false := by rw [bs_tl]; rfl
  have q7 : ((bs [109]).toList == [99]) = false := by rw [bs_tl]; rfl
  have q8 : ((bs [109]).toList == [121]) = false := by rw [bs_tl]; rfl
  have q9 : ((bs [109]).toList == [62]) = false := by rw [bs_tl]; rfl
  have q10 : ((bs [109]).toList == [60]) = false := by rw [bs_tl]; rfl
  have q11 : ((bs [109]).toList == [120]) = false := by rw [bs_tl]; rfl
  have q12 : ((bs [109]).toList == [88]) = false := by rw [bs_tl]; rfl
  have q13 : ((bs [109]).toList == [68]) = false := by rw [bs_tl]; rfl
  have q14 : ((bs [109]).toList == [67]) = false := by rw [bs_tl]; rfl
  have q15 : ((bs [109]).toList == [115]) = false := by rw [bs_tl]; rfl
  have q16 : ((bs [109]).toList == [83]) = false := by rw [bs_tl]; rfl
  have q17 : ((bs [109]).toList == [89]) = false := by rw [bs_tl]; rfl
  have q18 : ((bs [109]).toList == [114]) = false := by rw [bs_tl]; rfl
  have q19 : ((bs [109]).toList == [109]) = true := by rw [bs_tl]; rfl
  have pc0 := BP1.cell 0
  have pc1 := BP1.cell 1
  have pc2 := BP1.cell 2
  have pc3 := BP1.cell 3
  have pc4 := BP1.cell 4
  try simp at pc0 pc1 pc2 pc3 pc4
  obtain ⟨AA, hAA⟩ : ∃ AA, (if n = 1 then (some ad : Option Addr) else some ⟨ad.block, ad.off + 1, none⟩) = AA := ⟨_, rfl⟩
  have L2 : Hid (∀ u, Below w.heap.size w u → Ls u AA (n - 1) (t)) := Lib.hid (fun u hu => (h.below hu).cut hAA)
  have BH := Lib.hid (fun (u : World) (A : Option Addr) (n : Nat) (h : Ls u A n (t)) => show Calls Tryz.prog 34 #[.agg #[.int .i64 r, .int .i64 m, .string (bs []), .string (bs [109]), .string (bs [])], .slice A (t).length n, .int .i64 3] u (RefIs (Phr.behind ⟨r, m, [], [109], []⟩ 3 (t)) u) from ref26_behind ⟨r, m, [], [109], []⟩ h (by decide))
  obtain ⟨X, hX⟩ : ∃ X, Phr.behind ⟨r, m, [], [109], []⟩ 3 t = X := ⟨_, rfl⟩
  rw [hX] at BH HF
  clear hX h BP BR WB BP1
  go_enter Tryz.func14, Tryz.ntmps14
  go_wp2_with fail
  go_region_with (go_at_call 34; refine (BH.out _ _ _ (L2.out _ WB1.drew)).mono ?_; rintro e w4 ⟨rfl, hb4⟩; have BR4 := BR1.drew.below hb4 BR1.drew.lt; have W4 := WB1.drew.trans (hb4.mono WB1.drew.size); obtain ⟨⟨vp0, vr0⟩, ⟨vp1, vr1⟩, ⟨vp2, vr2⟩, ⟨vp3, vr3⟩, ⟨vp4, vr4⟩, vB⟩ := Phr.blk5 BR4 (.int .i64 X.1.reg) (.int .i64 X.1.count) (.string (bs X.1.op)) (.string (bs X.1.key)) (.string (bs X.1.arg)); have GG := Phr.put5_gb w4 (w.heap.size + 1) (.int .i64 X.1.reg) (.int .i64 X.1.count) (.string (bs X.1.op)) (.string (bs X.1.key)) (.string (bs X.1.arg)); unfold Phr.put5 at GG vB; generalize hv1 : w4.setCell ⟨w.heap.size + 1, 0, none⟩ (.int .i64 X.1.reg) = v1 at *; generalize hv2 : v1.setCell ⟨w.heap.size + 1, 1, none⟩ (.int .i64 X.1.count) = v2 at *; generalize hv3 : v2.setCell ⟨w.heap.size + 1, 2, none⟩ (.string (bs X.1.op)) = v3 at *; generalize hv4 : v3.setCell ⟨w.heap.size + 1, 3, none⟩ (.string (bs X.1.key)) = v4 at *; generalize hv5 : v4.setCell ⟨w.heap.size + 1, 4, none⟩ (.string (bs X.1.arg)) = v5 at *; have BB := Lib.hid vB; have W5 := W4.grown GG W4.size (fun j e => by injection e with e; omega); clear hb4 BR4 W4)
  all_goals
    go_wp2_with fail
    refine ret_five1 rfl rfl BB.out rfl Tryz.underlying27 (by kernel_rfl) ?_
    exact ⟨_, HF, rfl, W5⟩
set_option maxHeartbeats 1000000 in
set_option maxRecDepth 100000 in
theorem ref26_plain_alone {A : Option Addr} {n : Nat} {r m : Int} {k : List UInt8} {t : List (List UInt8)} {w : World} (h : Ls w A n (k :: t)) (ho : Utf.one k = true) (hg : k ≠ [103]) (hk : k ∉ Phr.keysP) (hal : k ∈ Phr.alone18.map ([·])) :
    Calls Tryz.prog 14 #[.agg #[.int .i64 r, .int .i64 m, .string (bs []), .string (bs []), .string (bs [])], .slice A (t.length + 1) n] w (RefFin (Phr.run false ⟨r, m, [], [], []⟩ (k :: t)) w) := by
  have HF : Phr.fin (Phr.last ⟨r, m, [], k, []⟩ t) = Phr.run false ⟨r, m, [], [], []⟩ (k :: t) := by
    show Phr.fin (Phr.goes ⟨r, m, [], k, []⟩ 0 t) = _
    rw [Phr.fin_goes]
    simp only [Phr.alone18, List.map_cons, List.map_nil, List.mem_cons, List.not_mem_nil, or_false] at hal
    rcases hal with rfl | rfl | rfl | rfl | rfl | rfl | rfl | rfl | rfl | rfl | rfl | rfl | rfl | rfl | rfl | rfl | rfl | rfl <;> rfl
  generalize Phr.run false ⟨r, m, [], [], []⟩ (k :: t) = FF at HF ⊢
  obtain ⟨W0, hW0⟩ : ∃ W0, (w.alloc (.cells #[.int .i64 r, .int .i64 m, .string (bs []), .string (bs []), .string (bs [])] 27)).alloc (.cells #[.int .i64 0, .int .i64 0, .string ⟨#[]⟩, .string ⟨#[]⟩, .string ⟨#[]⟩] 27) = W0 := ⟨_, rfl⟩
  obtain ⟨BP, BR, WB, SZ⟩ := Phr.start (⟨r, m, [], [], []⟩ : Cmd) hW0
  simp only at BP
  obtain ⟨ad, rfl⟩ := h.addr
  have X0 : Hid (∀ u, Below w.heap.size w u → u.cell? ad = some (.string (bs k))) := Lib.hid (fun u hu => h.at_ (j := 0) rfl hu)
  have x0 := X0.out W0 WB
  have sc1 := BP.cell 3
  have sf1 := BP.frozen 3
  have BP1 := BP.set_ 3 (.string (bs k))
  have BR1 := BR.far (p := ⟨w.heap.size, 3, none⟩) (by show w.heap.size + 1 ≠ w.heap.size; omega) (.string (bs k))
  have WB1 := WB.setCell (p := ⟨w.heap.size, 3, none⟩) (Nat.le_refl _) (.string (bs k))
  generalize hs1 : W0.setCell ⟨w.heap.size, 3, none⟩ (.string (bs k)) = W1 at *
  simp at sc1
  have q0 : ((bs k).toList == [103]) = false := by rw [bs_tl, beq_eq_false_iff_ne]; exact hg
  have q1 : ((bs k).toList == [103, 117]) = false := by rw [bs_tl, beq_eq_false_iff_ne]; exact (fun e => by subst e; exact absurd ho (by decide))
  have q2 : ((bs k).toList == [103, 85]) = false := by rw [bs_tl, beq_eq_false_iff_ne]; exact (fun e => by subst e; exact absurd ho (by decide))
  have q3 : ((bs k).toList == [103, 126]) = false := by rw [bs_tl, beq_eq_false_iff_ne]; exact (fun e => by subst e; exact absurd ho (by decide))
  have q4 : ((bs k).toList == [103, 45]) = false := by rw [bs_tl, beq_eq_false_iff_ne]; exact (fun e => by subst e; exact absurd ho (by decide))
  have q5 : ((bs k).toList == [103, 43]) = false := by rw [bs_tl, beq_eq_false_iff_ne]; exact (fun e => by subst e; exact absurd ho (by decide))
  have q6 : ((bs k).toList == [100]) = false := by rw [bs_tl, beq_eq_false_iff_ne]; exact (fun e => hk (by rw [e]; decide))
  have q7 : ((bs k).toList == [99]) = false := by rw [bs_tl, beq_eq_false_iff_ne]; exact (fun e => hk (by rw [e]; decide))
  have q8 : ((bs k).toList == [121]) = false := by rw [bs_tl, beq_eq_false_iff_ne]; exact (fun e => hk (by rw [e]; decide))
  have q9 : ((bs k).toList == [62]) = false := by rw [bs_tl, beq_eq_false_iff_ne]; exact (fun e => hk (by rw [e]; decide))
  have q10 : ((bs k).toList == [60]) = false := by rw [bs_tl, beq_eq_false_iff_ne]; exact (fun e => hk (by rw [e]; decide))
  have q11 : ((bs k).toList == [120]) = false := by rw [bs_tl, beq_eq_false_iff_ne]; exact (fun e => hk (by rw [e]; decide))
  have q12 : ((bs k).toList == [88]) = false := by rw [bs_tl, beq_eq_false_iff_ne]; exact (fun e => hk (by rw [e]; decide))
  have q13 : ((bs k).toList == [68]) = false := by rw [bs_tl, beq_eq_false_iff_ne]; exact (fun e => hk (by rw [e]; decide))
  have q14 : ((bs k).toList == [67]) = false := by rw [bs_tl, beq_eq_false_iff_ne]; exact (fun e => hk (by rw [e]; decide))
  have q15 : ((bs k).toList == [115]) = false := by rw [bs_tl, beq_eq_false_iff_ne]; exact (fun e => hk (by rw [e]; decide))
  have q16 : ((bs k).toList == [83]) = false := by rw [bs_tl, beq_eq_false_iff_ne]; exact (fun e => hk (by rw [e]; decide))
  have q17 : ((bs k).toList == [89]) = false := by rw [bs_tl, beq_eq_false_iff_ne]; exact (fun e => hk (by rw [e]; decide))
  have q18 : ((bs k).toList == [114]) = false := by rw [bs_tl, beq_eq_false_iff_ne]; exact (fun e => hk (by rw [e]; decide))
  have q19 : ((bs k).toList == [109]) = false := by rw [bs_tl, beq_eq_false_iff_ne]; exact (fun e => hk (by rw [e]; decide))
  have I := Lib.hid (fun (w : World) => ref26_in (k) ⟨#[112, 80, 74, 126, 117, 46, 105, 97, 73, 65, 111, 79, 118, 86, 58, 47, 63, 18]⟩ (by decide) w)
  rw [show decide ((k) ∈ (⟨#[112, 80, 74, 126, 117, 46, 105, 97, 73, 65, 111, 79, 118, 86, 58, 47, 63, 18]⟩ : ByteArray).data.toList.map ([·])) = true from decide_eq_true hal] at I
  have pc0 := BP1.cell 0
  have pc1 := BP1.cell 1
  have pc2 := BP1.cell 2
  have pc3 := BP1.cell 3
  have pc4 := BP1.cell 4
  try simp at pc0 pc1 pc2 pc3 pc4
  obtain ⟨AA, hAA⟩ : ∃ AA, (if n = 1 then (some ad : Option Addr) else some ⟨ad.block, ad.off + 1, none⟩) = AA := ⟨_, rfl⟩
  have L2 : Hid (∀ u, Below w.heap.size w u → Ls u AA (n - 1) (t)) := Lib.hid (fun u hu => (h.below hu).cut hAA)
  have BH := Lib.hid (fun (u : World) (A : Option Addr) (n : Nat) (_ : Ls u A n (t)) => show Calls Tryz.prog 33 #[.agg #[.int .i64 r, .int .i64 m, .string (bs []), .string (bs k), .string (bs [])], .slice A (t).length n] u (RefIs (Phr.last ⟨r, m, [], k, []⟩ (t)) u) from ref26_last ⟨r, m, [], k, []⟩ u)
  obtain ⟨X, hX⟩ : ∃ X, Phr.last ⟨r, m, [], k, []⟩ t = X := ⟨_, rfl⟩
  rw [hX] at BH HF
  clear hX h BP BR WB BP1
  go_enter Tryz.func14, Tryz.ntmps14
  go_wp2_with (first
    | (go_at_call 29; (with_reducible refine (I.out _).mono ?_); rintro e w1 ⟨rfl, rfl⟩))
  go_region_with (go_at_call 33; refine (BH.out _ _ _ (L2.out _ WB1.drew)).mono ?_; rintro e w4 ⟨rfl, hb4⟩; have BR4 := BR1.drew.below hb4 BR1.drew.lt; have W4 := WB1.drew.trans (hb4.mono WB1.drew.size); obtain ⟨⟨vp0, vr0⟩, ⟨vp1, vr1⟩, ⟨vp2, vr2⟩, ⟨vp3, vr3⟩, ⟨vp4, vr4⟩, vB⟩ := Phr.blk5 BR4 (.int .i64 X.1.reg) (.int .i64 X.1.count) (.string (bs X.1.op)) (.string (bs X.1.key)) (.string (bs X.1.arg)); have GG := Phr.put5_gb w4 (w.heap.size + 1) (.int .i64 X.1.reg) (.int .i64 X.1.count) (.string (bs X.1.op)) (.string (bs X.1.key)) (.string (bs X.1.arg)); unfold Phr.put5 at GG vB; generalize hv1 : w4.setCell ⟨w.heap.size + 1, 0, none⟩ (.int .i64 X.1.reg) = v1 at *; generalize hv2 : v1.setCell ⟨w.heap.size + 1, 1, none⟩ (.int .i64 X.1.count) = v2 at *; generalize hv3 : v2.setCell ⟨w.heap.size + 1, 2, none⟩ (.string (bs X.1.op)) = v3 at *; generalize hv4 : v3.setCell ⟨w.heap.size + 1, 3, none⟩ (.string (bs X.1.key)) = v4 at *; generalize hv5 : v4.setCell ⟨w.heap.size + 1, 4, none⟩ (.string (bs X.1.arg)) = v5 at *; have BB := Lib.hid vB; have W5 := W4.grown GG W4.size (fun j e => by injection e with e; omega); clear hb4 BR4 W4)
  all_goals
    go_wp2_with fail
    refine ret_five1 rfl rfl BB.out rfl Tryz.underlying27 (by kernel_rfl) ?_
    exact ⟨_, HF, rfl, W5⟩
set_option maxHeartbeats 1000000 in
set_option maxRecDepth 100000 in
theorem ref26_plain_rest {A : Option Addr} {n : Nat} {r m : Int} {k : List UInt8} {t : List (List UInt8)} {w : World} (h : Ls w A n (k :: t)) (ho : Utf.one k = true) (hg : k ≠ [103]) (hk : k ∉ Phr.keysP) (hal : k ∉ Phr.alone18.map ([·])) :
    Calls Tryz.prog 14 #[.agg #[.int .i64 r, .int .i64 m, .string (bs []), .string (bs []), .string (bs [])], .slice A (t.length + 1) n] w (RefFin (Phr.run false ⟨r, m, [], [], []⟩ (k :: t)) w) := by
  have HF : Phr.fin (Phr.rmot ⟨r, m, [], [], []⟩ false k t) = Phr.run false ⟨r, m, [], [], []⟩ (k :: t) := Phr.plain_motion ho (fun y hy => h.ones y (List.mem_cons_of_mem _ hy)) (.inl hg) hk hal (fun y hy => .inr hg)
  generalize Phr.run false ⟨r, m, [], [], []⟩ (k :: t) = FF at HF ⊢
  obtain ⟨W0, hW0⟩ : ∃ W0, (w.alloc (.cells #[.int .i64 r, .int .i64 m, .string (bs []), .string (bs []), .string (bs [])] 27)).alloc (.cells #[.int .i64 0, .int .i64 0, .string ⟨#[]⟩, .string ⟨#[]⟩, .string ⟨#[]⟩] 27) = W0 := ⟨_, rfl⟩
  obtain ⟨BP, BR, WB, SZ⟩ := Phr.start (⟨r, m, [], [], []⟩ : Cmd) hW0
  simp only at BP
  obtain ⟨ad, rfl⟩ := h.addr
  have X0 : Hid (∀ u, Below w.heap.size w u → u.cell? ad = some (.string (bs k))) := Lib.hid (fun u hu => h.at_ (j := 0) rfl hu)
  have x0 := X0.out W0 WB
  have q0 : ((bs k).toList == [103]) = false := by rw [bs_tl, beq_eq_false_iff_ne]; exact hg
  have q1 : ((bs k).toList == [103, 117]) = false := by rw [bs_tl, beq_eq_false_iff_ne]; exact (fun e => by subst e; exact absurd ho (by decide))
  have q2 : ((bs k).toList == [103, 85]) = false := by rw [bs_tl, beq_eq_false_iff_ne]; exact (fun e => by subst e; exact absurd ho (by decide))
  have q3 : ((bs k).toList == [103, 126]) = false := by rw [bs_tl, beq_eq_false_iff_ne]; exact (fun e => by subst e; exact absurd ho (by decide))
  have q4 : ((bs k).toList == [103, 45]) = false := by rw [bs_tl, beq_eq_false_iff_ne]; exact (fun e => by subst e; exact absurd ho (by decide))
  have q5 : ((bs k).toList == [103, 43]) = false := by rw [bs_tl, beq_eq_false_iff_ne]; exact (fun e => by subst e; exact absurd ho (by decide))
  have q6 : ((bs k).toList == [100]) = false := by rw [bs_tl, beq_eq_false_iff_ne]; exact (fun e => hk (by rw [e]; decide))
  have q7 : ((bs k).toList == [99]) = false := by rw [bs_tl, beq_eq_false_iff_ne]; exact (fun e => hk (by rw [e]; decide))
  have q8 : ((bs k).toList == [121]) = false := by rw [bs_tl, beq_eq_false_iff_ne]; exact (fun e => hk (by rw [e]; decide))
  have q9 : ((bs k).toList == [62]) = false := by rw [bs_tl, beq_eq_false_iff_ne]; exact (fun e => hk (by rw [e]; decide))
  have q10 : ((bs k).toList == [60]) = false := by rw [bs_tl, beq_eq_false_iff_ne]; exact (fun e => hk (by rw [e]; decide))
  have q11 : ((bs k).toList == [120]) = false := by rw [bs_tl, beq_eq_false_iff_ne]; exact (fun e => hk (by rw [e]; decide))
  have q12 : ((bs k).toList == [88]) = false := by rw [bs_tl, beq_eq_false_iff_ne]; exact (fun e => hk (by rw [e]; decide))
  have q13 : ((bs k).toList == [68]) = false := by rw [bs_tl, beq_eq_false_iff_ne]; exact (fun e => hk (by rw [e]; decide))
  have q14 : ((bs k).toList == [67]) = false := by rw [bs_tl, beq_eq_false_iff_ne]; exact (fun e => hk (by rw [e]; decide))
  have q15 : ((bs k).toList == [115]) = false := by rw [bs_tl, beq_eq_false_iff_ne]; exact (fun e => hk (by rw [e]; decide))
  have q16 : ((bs k).toList == [83]) = false := by rw [bs_tl, beq_eq_false_iff_ne]; exact (fun e => hk (by rw [e]; decide))
  have q17 : ((bs k).toList == [89]) = false := by rw [bs_tl, beq_eq_false_iff_ne]; exact (fun e => hk (by rw [e]; decide))
  have q18 : ((bs k).toList == [114]) = false := by rw [bs_tl, beq_eq_false_iff_ne]; exact (fun e => hk (by rw [e]; decide))
  have q19 : ((bs k).toList == [109]) = false := by rw [bs_tl, beq_eq_false_iff_ne]; exact (fun e => hk (by rw [e]; decide))
  have I := Lib.hid (fun (w : World) => ref26_in (k) ⟨#[112, 80, 74, 126, 117, 46, 105, 97, 73, 65, 111, 79, 118, 86, 58, 47, 63, 18]⟩ (by decide) w)
  rw [show decide ((k) ∈ (⟨#[112, 80, 74, 126, 117, 46, 105, 97, 73, 65, 111, 79, 118, 86, 58, 47, 63, 18]⟩ : ByteArray).data.toList.map ([·])) = false from decide_eq_false hal] at I
  have pc0 := BP.cell 0
  have pc1 := BP.cell 1
  have pc2 := BP.cell 2
  have pc3 := BP.cell 3
  have pc4 := BP.cell 4
  try simp at pc0 pc1 pc2 pc3 pc4
  have BH := Lib.hid (fun (u : World) (hu : Below w.heap.size w u) => show Calls Tryz.prog 35 #[.agg #[.int .i64 r, .int .i64 m, .string (bs []), .string (bs []), .string (bs [])], .slice (some ad) (t.length + 1) n, .bool false] u (RefIs (Phr.rmot ⟨r, m, [], [], []⟩ false k t) u) from ref26_motion ⟨r, m, [], [], []⟩ false (h.below hu))
  obtain ⟨X, hX⟩ : ∃ X, Phr.rmot ⟨r, m, [], [], []⟩ false k t = X := ⟨_, rfl⟩
  rw [hX] at BH HF
  have BH1 := Lib.hid (BH.out W0 WB)
  clear hX h BP
  go_enter Tryz.func14, Tryz.ntmps14
  go_wp2_with (first
    | (go_at_call 29; (with_reducible refine (I.out _).mono ?_); rintro e w1 ⟨rfl, rfl⟩)
    | (go_at_call 35; refine BH1.out.mono ?_; rintro e w4 ⟨rfl, hb4⟩; have BR4 := BR.below hb4 BR.lt; have W4 := WB.trans (hb4.mono WB.size); obtain ⟨⟨vp0, vr0⟩, ⟨vp1, vr1⟩, ⟨vp2, vr2⟩, ⟨vp3, vr3⟩, ⟨vp4, vr4⟩, vB⟩ := Phr.blk5 BR4 (.int .i64 X.1.reg) (.int .i64 X.1.count) (.string (bs X.1.op)) (.string (bs X.1.key)) (.string (bs X.1.arg)); have GG := Phr.put5_gb w4 (w.heap.size + 1) (.int .i64 X.1.reg) (.int .i64 X.1.count) (.string (bs X.1.op)) (.string (bs X.1.key)) (.string (bs X.1.arg)); unfold Phr.put5 at GG vB; generalize hv1 : w4.setCell ⟨w.heap.size + 1, 0, none⟩ (.int .i64 X.1.reg) = v1 at *; generalize hv2 : v1.setCell ⟨w.heap.size + 1, 1, none⟩ (.int .i64 X.1.count) = v2 at *; generalize hv3 : v2.setCell ⟨w.heap.size + 1, 2, none⟩ (.string (bs X.1.op)) = v3 at *; generalize hv4 : v3.setCell ⟨w.heap.size + 1, 3, none⟩ (.string (bs X.1.key)) = v4 at *; generalize hv5 : v4.setCell ⟨w.heap.size + 1, 4, none⟩ (.string (bs X.1.arg)) = v5 at *; have BB := Lib.hid vB; have W5 := W4.grown GG W4.size (fun j e => by injection e with e; omega); clear BH1 hb4 BR4 W4))
  refine ret_five1 rfl rfl BB.out rfl Tryz.underlying27 (by kernel_rfl) ?_
  exact ⟨_, HF, rfl, W5⟩
theorem ref26_plain {A : Option Addr} {n : Nat} {r m : Int} {k : List UInt8} {t : List (List UInt8)} {w : World} (h : Ls w A n (k :: t)) (hm : t.length ≤ 1000) :
    Calls Tryz.prog 14 #[.agg #[.int .i64 r, .int .i64 m, .string (bs []), .string (bs []), .string (bs [])], .slice A (t.length + 1) n] w (RefFin (Phr.run false ⟨r, m, [], [], []⟩ (k :: t)) w) := by
  have ho := h.ones k (by simp)
  by_cases hg : k = [103]
  · subst hg
    match t, h, hm with
    | [], h, _ => exact ref26_plain_gend h
    | x :: t, h, hm =>
      have hm2 : t.length ≤ 1000 := by rw [List.length_cons] at hm; omega
      by_cases hx0 : x = [117]
      · subst hx0; exact ref26_plain_g0 h hm2
      by_cases hx1 : x = [85]
      · subst hx1; exact ref26_plain_g1 h hm2
      by_cases hx2 : x = [126]
      · subst hx2; exact ref26_plain_g2 h hm2
      by_cases hx3 : x = [45]
      · subst hx3; exact ref26_plain_g3 h
      by_cases hx4 : x = [43]
      · subst hx4; exact ref26_plain_g4 h
      exact ref26_plain_gx h hx0 hx1 hx2 hx3 hx4
  by_cases h5 : k = [100]
  · subst h5; exact ref26_plain_k5 h hm
  by_cases h6 : k = [99]
  · subst h6; exact ref26_plain_k6 h hm
  by_cases h7 : k = [121]
  · subst h7; exact ref26_plain_k7 h hm
  by_cases h8 : k = [62]
  · subst h8; exact ref26_plain_k8 h hm
  by_cases h9 : k = [60]
  · subst h9; exact ref26_plain_k9 h hm
  by_cases h10 : k = [120]
  · subst h10; exact ref26_plain_k10 h
  by_cases h11 : k = [88]
  · subst h11; exact ref26_plain_k11 h
  by_cases h12 : k = [68]
  · subst h12; exact ref26_plain_k12 h
  by_cases h13 : k = [67]
  · subst h13; exact ref26_plain_k13 h
  by_cases h14 : k = [115]
  · subst h14; exact ref26_plain_k14 h
  by_cases h15 : k = [83]
  · subst h15; exact ref26_plain_k15 h
  by_cases h16 : k = [89]
  · subst h16; exact ref26_plain_k16 h
  by_cases h17 : k = [114]
  · subst h17; exact ref26_plain_k17 h
  by_cases h18 : k = [109]
  · subst h18; exact ref26_plain_k18 h
  have hk : k ∉ Phr.keysP := by simp [Phr.keysP, h5, h6, h7, h8, h9, h10, h11, h12, h13, h14, h15, h16, h17, h18]
  by_cases hal : k ∈ Phr.alone18.map ([·])
  · exact ref26_plain_alone h ho hg hk hal
  · exact ref26_plain_rest h ho hg hk hal
end Go.Proofs.YtchpkeelnfmlbaaGreat
