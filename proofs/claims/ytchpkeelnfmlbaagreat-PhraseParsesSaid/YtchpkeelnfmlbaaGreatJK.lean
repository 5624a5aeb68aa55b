/-
  The document's commands on what is marked.
-/
import Derived.Test.YtchpkeelnfmlbaaGreatJW
namespace Go.Proofs.YtchpkeelnfmlbaaGreat
open Go.RowKit
open Phr (Cmd Ans Ls RefIs RefFin)
set_option maxHeartbeats 1000000 in
set_option maxRecDepth 100000 in
theorem ref26_marked_k0 {A : Option Addr} {n : Nat} {r m : Int} {t : List (List UInt8)} {w : World} (h : Ls w A n ([100] :: t))  :
    Calls Tryz.prog 15 #[.agg #[.int .i64 r, .int .i64 m, .string (bs []), .string (bs []), .string (bs [])], .slice A (t.length + 1) n] w (RefFin (Phr.run true ⟨r, m, [], [], []⟩ ([100] :: t)) w) := by
  have HF : Phr.fin (Phr.last ⟨r, m, [100], [], []⟩ t) = Phr.run true ⟨r, m, [], [], []⟩ ([100] :: t) := by show Phr.fin (Phr.goes ⟨r, m, [100], [], []⟩ 0 (t)) = _; rw [Phr.fin_goes]; rfl
  generalize Phr.run true ⟨r, m, [], [], []⟩ ([100] :: t) = FF at HF ⊢
  obtain ⟨W0, hW0⟩ : ∃ W0, (w.alloc (.cells #[.int .i64 r, .int .i64 m, .string (bs []), .string (bs []), .string (bs [])] 27)).alloc (.cells #[.int .i64 0, .int .i64 0, .string ⟨#[]⟩, .string ⟨#[]⟩, .string ⟨#[]⟩] 27) = W0 := ⟨_, rfl⟩
  obtain ⟨BP, BR, WB, SZ⟩ := Phr.start (⟨r, m, [], [], []⟩ : Cmd) hW0
  simp only at BP
  obtain ⟨ad, rfl⟩ := h.addr
  have X0 : Hid (∀ u, Below w.heap.size w u → u.cell? ad = some (.string (bs [100]))) := Lib.hid (fun u hu => h.at_ (j := 0) rfl hu)
  have x0 := X0.out W0 WB
  have sc1 := BP.cell 2
  have sf1 := BP.frozen 2
  have BP1 := BP.set_ 2 (.string ⟨#[100]⟩)
  have BR1 := BR.far (p := ⟨w.heap.size, 2, none⟩) (by show w.heap.size + 1 ≠ w.heap.size; omega) (.string ⟨#[100]⟩)
  have WB1 := WB.setCell (p := ⟨w.heap.size, 2, none⟩) (Nat.le_refl _) (.string ⟨#[100]⟩)
  generalize hs1 : W0.setCell ⟨w.heap.size, 2, none⟩ (.string ⟨#[100]⟩) = W1 at *
  simp at sc1
  have q0 : ((bs [100]).toList == [100]) = true := by rw [bs_tl]; rfl
  have pc0 := BP1.cell 0
  have pc1 := BP1.cell 1
  have pc2 := BP1.cell 2
  have pc3 := BP1.cell 3
  have pc4 := BP1.cell 4
  try simp at pc0 pc1 pc2 pc3 pc4
  obtain ⟨AA, hAA⟩ : ∃ AA, (if n = 1 then (some ad : Option Addr) else some ⟨ad.block, ad.off + 1, none⟩) = AA := ⟨_, rfl⟩
  have L2 : Hid (∀ u, Below w.heap.size w u → Ls u AA (n - 1) (t)) := Lib.hid (fun u hu => (h.below hu).cut hAA)
  have BH := Lib.hid (fun (u : World) (A : Option Addr) (n : Nat) (_ : Ls u A n (t)) => show Calls Tryz.prog 33 #[.agg #[.int .i64 r, .int .i64 m, .string ⟨#[100]⟩, .string (bs []), .string (bs [])], .slice A (t).length n] u (RefIs (Phr.last ⟨r, m, [100], [], []⟩ (t)) u) from ref26_last ⟨r, m, [100], [], []⟩ u)
  obtain ⟨X, hX⟩ : ∃ X, Phr.last ⟨r, m, [100], [], []⟩ t = X := ⟨_, rfl⟩
  rw [hX] at BH HF
  clear hX h BP BR WB BP1
  go_enter Tryz.func15, Tryz.ntmps15
  go_wp2_with fail
  go_region_with (go_at_call 33; refine (BH.out _ _ _ (L2.out _ WB1.drew)).mono ?_; rintro e w4 ⟨rfl, hb4⟩; have BR4 := BR1.drew.below hb4 BR1.drew.lt; have W4 := WB1.drew.trans (hb4.mono WB1.drew.size); obtain ⟨⟨vp0, vr0⟩, ⟨vp1, vr1⟩, ⟨vp2, vr2⟩, ⟨vp3, vr3⟩, ⟨vp4, vr4⟩, vB⟩ := Phr.blk5 BR4 (.int .i64 X.1.reg) (.int .i64 X.1.count) (.string (bs X.1.op)) (.string (bs X.1.key)) (.string (bs X.1.arg)); have GG := Phr.put5_gb w4 (w.heap.size + 1) (.int .i64 X.1.reg) (.int .i64 X.1.count) (.string (bs X.1.op)) (.string (bs X.1.key)) (.string (bs X.1.arg)); unfold Phr.put5 at GG vB; generalize hv1 : w4.setCell ⟨w.heap.size + 1, 0, none⟩ (.int .i64 X.1.reg) = v1 at *; generalize hv2 : v1.setCell ⟨w.heap.size + 1, 1, none⟩ (.int .i64 X.1.count) = v2 at *; generalize hv3 : v2.setCell ⟨w.heap.size + 1, 2, none⟩ (.string (bs X.1.op)) = v3 at *; generalize hv4 : v3.setCell ⟨w.heap.size + 1, 3, none⟩ (.string (bs X.1.key)) = v4 at *; generalize hv5 : v4.setCell ⟨w.heap.size + 1, 4, none⟩ (.string (bs X.1.arg)) = v5 at *; have BB := Lib.hid vB; have W5 := W4.grown GG W4.size (fun j e => by injection e with e; omega); clear hb4 BR4 W4)
  all_goals
    go_wp2_with fail
    refine ret_five1 rfl rfl BB.out rfl Tryz.underlying27 (by kernel_rfl) ?_
    exact ⟨_, HF, rfl, W5⟩
set_option maxHeartbeats 1000000 in
set_option maxRecDepth 100000 in
theorem ref26_marked_k1 {A : Option Addr} {n : Nat} {r m : Int} {t : List (List UInt8)} {w : World} (h : Ls w A n ([120] :: t))  :
    Calls Tryz.prog 15 #[.agg #[.int .i64 r, .int .i64 m, .string (bs []), .string (bs []), .string (bs [])], .slice A (t.length + 1) n] w (RefFin (Phr.run true ⟨r, m, [], [], []⟩ ([120] :: t)) w) := by
  have HF : Phr.fin (Phr.last ⟨r, m, [100], [], []⟩ t) = Phr.run true ⟨r, m, [], [], []⟩ ([120] :: t) := by show Phr.fin (Phr.goes ⟨r, m, [100], [], []⟩ 0 (t)) = _; rw [Phr.fin_goes]; rfl
  generalize Phr.run true ⟨r, m, [], [], []⟩ ([120] :: t) = FF at HF ⊢
  obtain ⟨W0, hW0⟩ : ∃ W0, (w.alloc (.cells #[.int .i64 r, .int .i64 m, .string (bs []), .string (bs []), .string (bs [])] 27)).alloc (.cells #[.int .i64 0, .int .i64 0, .string ⟨#[]⟩, .string ⟨#[]⟩, .string ⟨#[]⟩] 27) = W0 := ⟨_, rfl⟩
  obtain ⟨BP, BR, WB, SZ⟩ := Phr.start (⟨r, m, [], [], []⟩ : Cmd) hW0
  simp only at BP
  obtain ⟨ad, rfl⟩ := h.addr
  have X0 : Hid (∀ u, Below w.heap.size w u → u.cell? ad = some (.string (bs [120]))) := Lib.hid (fun u hu => h.at_ (j := 0) rfl hu)
  have x0 := X0.out W0 WB
  have sc1 := BP.cell 2
  have sf1 := BP.frozen 2
  have BP1 := BP.set_ 2 (.string ⟨#[100]⟩)
  have BR1 := BR.far (p := ⟨w.heap.size, 2, none⟩) (by show w.heap.size + 1 ≠ w.heap.size; omega) (.string ⟨#[100]⟩)
  have WB1 := WB.setCell (p := ⟨w.heap.size, 2, none⟩) (Nat.le_refl _) (.string ⟨#[100]⟩)
  generalize hs1 : W0.setCell ⟨w.heap.size, 2, none⟩ (.string ⟨#[100]⟩) = W1 at *
  simp at sc1
  have q0 : ((bs [120]).toList == [100]) = false := by rw [bs_tl]; rfl
  have q1 : ((bs [120]).toList == [120]) = true := by rw [bs_tl]; rfl
  have pc0 := BP1.cell 0
  have pc1 := BP1.cell 1
  have pc2 := BP1.cell 2
  have pc3 := BP1.cell 3
  have pc4 := BP1.cell 4
  try simp at pc0 pc1 pc2 pc3 pc4
  obtain ⟨AA, hAA⟩ : ∃ AA, (if n = 1 then (some ad : Option Addr) else some ⟨ad.block, ad.off + 1, none⟩) = AA := ⟨_, rfl⟩
  have L2 : Hid (∀ u, Below w.heap.size w u → Ls u AA (n - 1) (t)) := Lib.hid (fun u hu => (h.below hu).cut hAA)
  have BH := Lib.hid (fun (u : World) (A : Option Addr) (n : Nat) (_ : Ls u A n (t)) => show Calls Tryz.prog 33 #[.agg #[.int .i64 r, .int .i64 m, .string ⟨#[100]⟩, .string (bs []), .string (bs [])], .slice A (t).length n] u (RefIs (Phr.last ⟨r, m, [100], [], []⟩ (t)) u) from ref26_last ⟨r, m, [100], [], []⟩ u)
  obtain ⟨X, hX⟩ : ∃ X, Phr.last ⟨r, m, [100], [], []⟩ t = X := ⟨_, rfl⟩
  rw [hX] at BH HF
  clear hX h BP BR WB BP1
  go_enter Tryz.func15, Tryz.ntmps15
  go_wp2_with fail
  go_region_with (go_at_call 33; refine (BH.out _ _ _ (L2.out _ WB1.drew)).mono ?_; rintro e w4 ⟨rfl, hb4⟩; have BR4 := BR1.drew.below hb4 BR1.drew.lt; have W4 := WB1.drew.trans (hb4.mono WB1.drew.size); obtain ⟨⟨vp0, vr0⟩, ⟨vp1, vr1⟩, ⟨vp2, vr2⟩, ⟨vp3, vr3⟩, ⟨vp4, vr4⟩, vB⟩ := Phr.blk5 BR4 (.int .i64 X.1.reg) (.int .i64 X.1.count) (.string (bs X.1.op)) (.string (bs X.1.key)) (.string (bs X.1.arg)); have GG := Phr.put5_gb w4 (w.heap.size + 1) (.int .i64 X.1.reg) (.int .i64 X.1.count) (.string (bs X.1.op)) (.string (bs X.1.key)) (.string (bs X.1.arg)); unfold Phr.put5 at GG vB; generalize hv1 : w4.setCell ⟨w.heap.size + 1, 0, none⟩ (.int .i64 X.1.reg) = v1 at *; generalize hv2 : v1.setCell ⟨w.heap.size + 1, 1, none⟩ (.int .i64 X.1.count) = v2 at *; generalize hv3 : v2.setCell ⟨w.heap.size + 1, 2, none⟩ (.string (bs X.1.op)) = v3 at *; generalize hv4 : v3.setCell ⟨w.heap.size + 1, 3, none⟩ (.string (bs X.1.key)) = v4 at *; generalize hv5 : v4.setCell ⟨w.heap.size + 1, 4, none⟩ (.string (bs X.1.arg)) = v5 at *; have BB := Lib.hid vB; have W5 := W4.grown GG W4.size (fun j e => by injection e with e; omega); clear hb4 BR4 W4)
  all_goals
    go_wp2_with fail
    refine ret_five1 rfl rfl BB.out rfl Tryz.underlying27 (by kernel_rfl) ?_
    exact ⟨_, HF, rfl, W5⟩
set_option maxHeartbeats 1000000 in
set_option maxRecDepth 100000 in
theorem ref26_marked_k2 {A : Option Addr} {n : Nat} {r m : Int} {t : List (List UInt8)} {w : World} (h : Ls w A n ([99] :: t))  :
    Calls Tryz.prog 15 #[.agg #[.int .i64 r, .int .i64 m, .string (bs []), .string (bs []), .string (bs [])], .slice A (t.length + 1) n] w (RefFin (Phr.run true ⟨r, m, [], [], []⟩ ([99] :: t)) w) := by
  have HF : Phr.fin (Phr.last ⟨r, m, [99], [], []⟩ t) = Phr.run true ⟨r, m, [], [], []⟩ ([99] :: t) := by show Phr.fin (Phr.goes ⟨r, m, [99], [], []⟩ 0 (t)) = _; rw [Phr.fin_goes]; rfl
  generalize Phr.run true ⟨r, m, [], [], []⟩ ([99] :: t) = FF at HF ⊢
  obtain ⟨W0, hW0⟩ : ∃ W0, (w.alloc (.cells #[.int .i64 r, .int .i64 m, .string (bs []), .string (bs []), .string (bs [])] 27)).alloc (.cells #[.int .i64 0, .int .i64 0, .string ⟨#[]⟩, .string ⟨#[]⟩, .string ⟨#[]⟩] 27) = W0 := ⟨_, rfl⟩
  obtain ⟨BP, BR, WB, SZ⟩ := Phr.start (⟨r, m, [], [], []⟩ : Cmd) hW0
  simp only at BP
  obtain ⟨ad, rfl⟩ := h.addr
  have X0 : Hid (∀ u, Below w.heap.size w u → u.cell? ad = some (.string (bs [99]))) := Lib.hid (fun u hu => h.at_ (j := 0) rfl hu)
  have x0 := X0.out W0 WB
  have sc1 := BP.cell 2
  have sf1 := BP.frozen 2
  have BP1 := BP.set_ 2 (.string ⟨#[99]⟩)
  have BR1 := BR.far (p := ⟨w.heap.size, 2, none⟩) (by show w.heap.size + 1 ≠ w.heap.size; omega) (.string ⟨#[99]⟩)
  have WB1 := WB.setCell (p := ⟨w.heap.size, 2, none⟩) (Nat.le_refl _) (.string ⟨#[99]⟩)
  generalize hs1 : W0.setCell ⟨w.heap.size, 2, none⟩ (.string ⟨#[99]⟩) = W1 at *
  simp at sc1
  have q0 : ((bs [99]).toList == [100]) = false := by rw [bs_tl]; rfl
  have q1 : ((bs [99]).toList == [120]) = false := by rw [bs_tl]; rfl
  have q2 : ((bs [99]).toList == [99]) = true := by rw [bs_tl]; rfl
  have pc0 := BP1.cell 0
  have pc1 := BP1.cell 1
  have pc2 := BP1.cell 2
  have pc3 := BP1.cell 3
  have pc4 := BP1.cell 4
  try simp at pc0 pc1 pc2 pc3 pc4
  obtain ⟨AA, hAA⟩ : ∃ AA, (if n = 1 then (some ad : Option Addr) else some ⟨ad.block, ad.off + 1, none⟩) = AA := ⟨_, rfl⟩
  have L2 : Hid (∀ u, Below w.heap.size w u → Ls u AA (n - 1) (t)) := Lib.hid (fun u hu => (h.below hu).cut hAA)
  have BH := Lib.hid (fun (u : World) (A : Option Addr) (n : Nat) (_ : Ls u A n (t)) => show Calls Tryz.prog 33 #[.agg #[.int .i64 r, .int .i64 m, .string ⟨#[99]⟩, .string (bs []), .string (bs [])], .slice A (t).length n] u (RefIs (Phr.last ⟨r, m, [99], [], []⟩ (t)) u) from ref26_last ⟨r, m, [99], [], []⟩ u)
  obtain ⟨X, hX⟩ : ∃ X, Phr.last ⟨r, m, [99], [], []⟩ t = X := ⟨_, rfl⟩
  rw [hX] at BH HF
  clear hX h BP BR WB BP1
  go_enter Tryz.func15, Tryz.ntmps15
  go_wp2_with fail
  go_region_with (go_at_call 33; refine (BH.out _ _ _ (L2.out _ WB1.drew)).mono ?_; rintro e w4 ⟨rfl, hb4⟩; have BR4 := BR1.drew.below hb4 BR1.drew.lt; have W4 := WB1.drew.trans (hb4.mono WB1.drew.size); obtain ⟨⟨vp0, vr0⟩, ⟨vp1, vr1⟩, ⟨vp2, vr2⟩, ⟨vp3, vr3⟩, ⟨vp4, vr4⟩, vB⟩ := Phr.blk5 BR4 (.int .i64 X.1.reg) (.int .i64 X.1.count) (.string (bs X.1.op)) (.string (bs X.1.key)) (.string (bs X.1.arg)); have GG := Phr.put5_gb w4 (w.heap.size + 1) (.int .i64 X.1.reg) (.int .i64 X.1.count) (.string (bs X.1.op)) (.string (bs X.1.key)) (.string (bs X.1.arg)); unfold Phr.put5 at GG vB; generalize hv1 : w4.setCell ⟨w.heap.size + 1, 0, none⟩ (.int .i64 X.1.reg) = v1 at *; generalize hv2 : v1.setCell ⟨w.heap.size + 1, 1, none⟩ (.int .i64 X.1.count) = v2 at *; generalize hv3 : v2.setCell ⟨w.heap.size + 1, 2, none⟩ (.string (bs X.1.op)) = v3 at *; generalize hv4 : v3.setCell ⟨w.heap.size + 1, 3, none⟩ (.string (bs X.1.key)) = v4 at *; generalize hv5 : v4.setCell ⟨w.heap.size + 1, 4, none⟩ (.string (bs X.1.arg)) = v5 at *; have BB := Lib.hid vB; have W5 := W4.grown GG W4.size (fun j e => by injection e with e; omega); clear hb4 BR4 W4)
  all_goals
    go_wp2_with fail
    refine ret_five1 rfl rfl BB.out rfl Tryz.underlying27 (by kernel_rfl) ?_
    exact ⟨_, HF, rfl, W5⟩
set_option maxHeartbeats 1000000 in
set_option maxRecDepth 100000 in
theorem ref26_marked_k3 {A : Option Addr} {n : Nat} {r m : Int} {t : List (List UInt8)} {w : World} (h : Ls w A n ([115] :: t))  :
    Calls Tryz.prog 15 #[.agg #[.int .i64 r, .int .i64 m, .string (bs []), .string (bs []), .string (bs [])], .slice A (t.length + 1) n] w (RefFin (Phr.run true ⟨r, m, [], [], []⟩ ([115] :: t)) w) := by
  have HF : Phr.fin (Phr.last ⟨r, m, [99], [], []⟩ t) = Phr.run true ⟨r, m, [], [], []⟩ ([115] :: t) := by show Phr.fin (Phr.goes ⟨r, m, [99], [], []⟩ 0 (t)) = _; rw [Phr.fin_goes]; rfl
  generalize Phr.run true ⟨r, m, [], [], []⟩ ([115] :: t) = FF at HF ⊢
  obtain ⟨W0, hW0⟩ : ∃ W0, (w.alloc (.cells #[.int .i64 r, .int .i64 m, .string (bs []), .string (bs []), .string (bs [])] 27)).alloc (.cells #[.int .i64 0, .int .i64 0, .string ⟨#[]⟩, .string ⟨#[]⟩, .string ⟨#[]⟩] 27) = W0 := ⟨_, rfl⟩
  obtain ⟨BP, BR, WB, SZ⟩ := Phr.start (⟨r, m, [], [], []⟩ : Cmd) hW0
  simp only at BP
  obtain ⟨ad, rfl⟩ := h.addr
  have X0 : Hid (∀ u, Below w.heap.size w u → u.cell? ad = some (.string (bs [115]))) := Lib.hid (fun u hu => h.at_ (j := 0) rfl hu)
  have x0 := X0.out W0 WB
  have sc1 := BP.cell 2
  have sf1 := BP.frozen 2
  have BP1 := BP.set_ 2 (.string ⟨#[99]⟩)
  have BR1 := BR.far (p := ⟨w.heap.size, 2, none⟩) (by show w.heap.size + 1 ≠ w.heap.size; omega) (.string ⟨#[99]⟩)
  have WB1 := WB.setCell (p := ⟨w.heap.size, 2, none⟩) (Nat.le_refl _) (.string ⟨#[99]⟩)
  generalize hs1 : W0.setCell ⟨w.heap.size, 2, none⟩ (.string ⟨#[99]⟩) = W1 at *
  simp at sc1
  have q0 : ((bs [115]).toList == [100]) = false := by rw [bs_tl]; rfl
  have q1 : ((bs [115]).toList == [120]) = false := by rw [bs_tl]; rfl
  have q2 : ((bs [115]).toList == [99]) = false := by rw [bs_tl]; rfl
  have q3 : ((bs [115]).toList == [115]) = true := by rw [bs_tl]; rfl
  have pc0 := BP1.cell 0
  have pc1 := BP1.cell 1
  have pc2 := BP1.cell 2
  have pc3 := BP1.cell 3
  have pc4 := BP1.cell 4
  try simp at pc0 pc1 pc2 pc3 pc4
  obtain ⟨AA, hAA⟩ : ∃ AA, (if n = 1 then (some ad : Option Addr) else some ⟨ad.block, ad.off + 1, none⟩) = AA := ⟨_, rfl⟩
  have L2 : Hid (∀ u, Below w.heap.size w u → Ls u AA (n - 1) (t)) := Lib.hid (fun u hu => (h.below hu).cut hAA)
  have BH := Lib.hid (fun (u : World) (A : Option Addr) (n : Nat) (_ : Ls u A n (t)) => show Calls Tryz.prog 33 #[.agg #[.int .i64 r, .int .i64 m, .string ⟨#[99]⟩, .string (bs []), .string (bs [])], .slice A (t).length n] u (RefIs (Phr.last ⟨r, m, [99], [], []⟩ (t)) u) from ref26_last ⟨r, m, [99], [], []⟩ u)
  obtain ⟨X, hX⟩ : ∃ X, Phr.last ⟨r, m, [99], [], []⟩ t = X := ⟨_, rfl⟩
  rw [hX] at BH HF
  clear hX h BP BR WB BP1
  go_enter Tryz.func15, Tryz.ntmps15
  go_wp2_with fail
  go_region_with (go_at_call 33; refine (BH.out _ _ _ (L2.out _ WB1.drew)).mono ?_; rintro e w4 ⟨rfl, hb4⟩; have BR4 := BR1.drew.below hb4 BR1.drew.lt; have W4 := WB1.drew.trans (hb4.mono WB1.drew.size); obtain ⟨⟨vp0, vr0⟩, ⟨vp1, vr1⟩, ⟨vp2, vr2⟩, ⟨vp3, vr3⟩, ⟨vp4, vr4⟩, vB⟩ := Phr.blk5 BR4 (.int .i64 X.1.reg) (.int .i64 X.1.count) (.string (bs X.1.op)) (.string (bs X.1.key)) (.string (bs X.1.arg)); have GG := Phr.put5_gb w4 (w.heap.size + 1) (.int .i64 X.1.reg) (.int .i64 X.1.count) (.string (bs X.1.op)) (.string (bs X.1.key)) (.string (bs X.1.arg)); unfold Phr.put5 at GG vB; generalize hv1 : w4.setCell ⟨w.heap.size + 1, 0, none⟩ (.int .i64 X.1.reg) = v1 at *; generalize hv2 : v1.setCell ⟨w.heap.size + 1, 1, none⟩ (.int .i64 X.1.count) = v2 at *; generalize hv3 : v2.setCell ⟨w.heap.size + 1, 2, none⟩ (.string (bs X.1.op)) = v3 at *; generalize hv4 : v3.setCell ⟨w.heap.size + 1, 3, none⟩ (.string (bs X.1.key)) = v4 at *; generalize hv5 : v4.setCell ⟨w.heap.size + 1, 4, none⟩ (.string (bs X.1.arg)) = v5 at *; have BB := Lib.hid vB; have W5 := W4.grown GG W4.size (fun j e => by injection e with e; omega); clear hb4 BR4 W4)
  all_goals
    go_wp2_with fail
    refine ret_five1 rfl rfl BB.out rfl Tryz.underlying27 (by kernel_rfl) ?_
    exact ⟨_, HF, rfl, W5⟩
set_option maxHeartbeats 1000000 in
set_option maxRecDepth 100000 in
theorem ref26_marked_k4 {A : Option Addr} {n : Nat} {r m : Int} {t : List (List UInt8)} {w : World} (h : Ls w A n ([121] :: t))  :
    Calls Tryz.prog 15 #[.agg #[.int .i64 r, .int .i64 m, .string (bs []), .string (bs []), .string (bs [])], .slice A (t.length + 1) n] w (RefFin (Phr.run true ⟨r, m, [], [], []⟩ ([121] :: t)) w) := by
  have HF : Phr.fin (Phr.last ⟨r, m, [121], [], []⟩ t) = Phr.run true ⟨r, m, [], [], []⟩ ([121] :: t) := by show Phr.fin (Phr.goes ⟨r, m, [121], [], []⟩ 0 (t)) = _; rw [Phr.fin_goes]; rfl
  generalize Phr.run true ⟨r, m, [], [], []⟩ ([121] :: t) = FF at HF ⊢
  obtain ⟨W0, hW0⟩ : ∃ W0, (w.alloc (.cells #[.int .i64 r, .int .i64 m, .string (bs []), .string (bs []), .string (bs [])] 27)).alloc (.cells #[.int .i64 0, .int .i64 0, .string ⟨#[]⟩, .string ⟨#[]⟩, .string ⟨#[]⟩] 27) = W0 := ⟨_, rfl⟩
  obtain ⟨BP, BR, WB, SZ⟩ := Phr.start (⟨r, m, [], [], []⟩ : Cmd) hW0
  simp only at BP
  obtain ⟨ad, rfl⟩ := h.addr
  have X0 : Hid (∀ u, Below w.heap.size w u → u.cell? ad = some (.string (bs [121]))) := Lib.hid (fun u hu => h.at_ (j := 0) rfl hu)
  have x0 := X0.out W0 WB
  have sc1 := BP.cell 2
  have sf1 := BP.frozen 2
  have BP1 := BP.set_ 2 (.string (bs [121]))
  have BR1 := BR.far (p := ⟨w.heap.size, 2, none⟩) (by show w.heap.size + 1 ≠ w.heap.size; omega) (.string (bs [121]))
  have WB1 := WB.setCell (p := ⟨w.heap.size, 2, none⟩) (Nat.le_refl _) (.string (bs [121]))
  generalize hs1 : W0.setCell ⟨w.heap.size, 2, none⟩ (.string (bs [121])) = W1 at *
  simp at sc1
  have q0 : ((bs [121]).toList == [100]) = false := by rw [bs_tl]; rfl
  have q1 : ((bs [121]).toList == [120]) = false := by rw [bs_tl]; rfl
  have q2 : ((bs [121]).toList == [99]) = false := by rw [bs_tl]; rfl
  have q3 : ((bs [121]).toList == [115]) = false := by rw [bs_tl]; rfl
  have q4 : ((bs [121]).toList == [121]) = true := by rw [bs_tl]; rfl
  have pc0 := BP1.cell 0
  have pc1 := BP1.cell 1
  have pc2 := BP1.cell 2
  have pc3 := BP1.cell 3
  have pc4 := BP1.cell 4
  try simp at pc0 pc1 pc2 pc3 pc4
  obtain ⟨AA, hAA⟩ : ∃ AA, (if n = 1 then (some ad : Option Addr) else some ⟨ad.block, ad.off + 1, none⟩) = AA := ⟨_, rfl⟩
  have L2 : Hid (∀ u, Below w.heap.size w u → Ls u AA (n - 1) (t)) := Lib.hid (fun u hu => (h.below hu).cut hAA)
  have BH := Lib.hid (fun (u : World) (A : Option Addr) (n : Nat) (_ : Ls u A n (t)) => show Calls Tryz.prog 33 #[.agg #[.int .i64 r, .int .i64 m, .string (bs [121]), .string (bs []), .string (bs [])], .slice A (t).length n] u (RefIs (Phr.last ⟨r, m, [121], [], []⟩ (t)) u) from ref26_last ⟨r, m, [121], [], []⟩ u)
  obtain ⟨X, hX⟩ : ∃ X, Phr.last ⟨r, m, [121], [], []⟩ t = X := ⟨_, rfl⟩
  rw [hX] at BH HF
  clear hX h BP BR WB BP1
  go_enter Tryz.func15, Tryz.ntmps15
  go_wp2_with fail
  go_region_with (go_at_call 33; refine (BH.out _ _ _ (L2.out _ WB1.drew)).mono ?_; rintro e w4 ⟨rfl, hb4⟩; have BR4 := BR1.drew.below hb4 BR1.drew.lt; have W4 := WB1.drew.trans (hb4.mono WB1.drew.size); obtain ⟨⟨vp0, vr0⟩, ⟨vp1, vr1⟩, ⟨vp2, vr2⟩, ⟨vp3, vr3⟩, ⟨vp4, vr4⟩, vB⟩ := Phr.blk5 BR4 (.int .i64 X.1.reg) (.int .i64 X.1.count) (.string (bs X.1.op)) (.string (bs X.1.key)) (.string (bs X.1.arg)); have GG := Phr.put5_gb w4 (w.heap.size + 1) (.int .i64 X.1.reg) (.int .i64 X.1.count) (.string (bs X.1.op)) (.string (bs X.1.key)) (.string (bs X.1.arg)); unfold Phr.put5 at GG vB; generalize hv1 : w4.setCell ⟨w.heap.size + 1, 0, none⟩ (.int .i64 X.1.reg) = v1 at *; generalize hv2 : v1.setCell ⟨w.heap.size + 1, 1, none⟩ (.int .i64 X.1.count) = v2 at *; generalize hv3 : v2.setCell ⟨w.heap.size + 1, 2, none⟩ (.string (bs X.1.op)) = v3 at *; generalize hv4 : v3.setCell ⟨w.heap.size + 1, 3, none⟩ (.string (bs X.1.key)) = v4 at *; generalize hv5 : v4.setCell ⟨w.heap.size + 1, 4, none⟩ (.string (bs X.1.arg)) = v5 at *; have BB := Lib.hid vB; have W5 := W4.grown GG W4.size (fun j e => by injection e with e; omega); clear hb4 BR4 W4)
  all_goals
    go_wp2_with fail
    refine ret_five1 rfl rfl BB.out rfl Tryz.underlying27 (by kernel_rfl) ?_
    exact ⟨_, HF, rfl, W5⟩
set_option maxHeartbeats 1000000 in
set_option maxRecDepth 100000 in
theorem ref26_marked_k5 {A : Option Addr} {n : Nat} {r m : Int} {t : List (List UInt8)} {w : World} (h : Ls w A n ([62] :: t))  :
    Calls Tryz.prog 15 #[.agg #[.int .i64 r, .int .i64 m, .string (bs []), .string (bs []), .string (bs [])], .slice A (t.length + 1) n] w (RefFin (Phr.run true ⟨r, m, [], [], []⟩ ([62] :: t)) w) := by
  have HF : Phr.fin (Phr.last ⟨r, m, [62], [], []⟩ t) = Phr.run true ⟨r, m, [], [], []⟩ ([62] :: t) := by show Phr.fin (Phr.goes ⟨r, m, [62], [], []⟩ 0 (t)) = _; rw [Phr.fin_goes]; rfl
  generalize Phr.run true ⟨r, m, [], [], []⟩ ([62] :: t) = FF at HF ⊢
  obtain ⟨W0, hW0⟩ : ∃ W0, (w.alloc (.cells #[.int .i64 r, .int .i64 m, .string (bs []), .string (bs []), .string (bs [])] 27)).alloc (.cells #[.int .i64 0, .int .i64 0, .string ⟨#[]⟩, .string ⟨#[]⟩, .string ⟨#[]⟩] 27) = W0 := ⟨_, rfl⟩
  obtain ⟨BP, BR, WB, SZ⟩ := Phr.start (⟨r, m, [], [], []⟩ : Cmd) hW0
  simp only at BP
  obtain ⟨ad, rfl⟩ := h.addr
  have X0 : Hid (∀ u, Below w.heap.size w u → u.cell? ad = some (.string (bs [62]))) := Lib.hid (fun u hu => h.at_ (j := 0) rfl hu)
  have x0 := X0.out W0 WB
  have sc1 := BP.cell 2
  have sf1 := BP.frozen 2
  have BP1 := BP.set_ 2 (.string (bs [62]))
  have BR1 := BR.far (p := ⟨w.heap.size, 2, none⟩) (by show w.heap.size + 1 ≠ w.heap.size; omega) (.string (bs [62]))
  have WB1 := WB.setCell (p := ⟨w.heap.size, 2, none⟩) (Nat.le_refl _) (.string (bs [62]))
  generalize hs1 : W0.setCell ⟨w.heap.size, 2, none⟩ (.string (bs [62])) = W1 at *
  simp at sc1
  have q0 : ((bs [62]).toList == [100]) = false := by rw [bs_tl]; rfl
  have q1 : ((bs [62]).toList == [120]) = false := by rw [bs_tl]; rfl
  have q2 : ((bs [62]).toList == [99]) = false := by rw [bs_tl]; rfl
  have q3 : ((bs [62]).toList == [115]) = false := by rw [bs_tl]; rfl
  have q4 : ((bs [62]).toList == [121]) = false := by rw [bs_tl]; rfl
  have q5 : ((bs [62]).toList == [62]) = true := by rw [bs_tl]; rfl
  have pc0 := BP1.cell 0
  have pc1 := BP1.cell 1
  have pc2 := BP1.cell 2
  have pc3 := BP1.cell 3
  have pc4 := BP1.cell 4
  try simp at pc0 pc1 pc2 pc3 pc4
  obtain ⟨AA, hAA⟩ : ∃ AA, (if n = 1 then (some ad : Option Addr) else some ⟨ad.block, ad.off + 1, none⟩) = AA := ⟨_, rfl⟩
  have L2 : Hid (∀ u, Below w.heap.size w u → Ls u AA (n - 1) (t)) := Lib.hid (fun u hu => (h.below hu).cut hAA)
  have BH := Lib.hid (fun (u : World) (A : Option Addr) (n : Nat) (_ : Ls u A n (t)) => show Calls Tryz.prog 33 #[.agg #[.int .i64 r, .int .i64 m, .string (bs [62]), .string (bs []), .string (bs [])], .slice A (t).length n] u (RefIs (Phr.last ⟨r, m, [62], [], []⟩ (t)) u) from ref26_last ⟨r, m, [62], [], []⟩ u)
  obtain ⟨X, hX⟩ : ∃ X, Phr.last ⟨r, m, [62], [], []⟩ t = X := ⟨_, rfl⟩
  rw [hX] at BH HF
  clear hX h BP BR WB BP1
  go_enter Tryz.func15, Tryz.ntmps15
  go_wp2_with fail
  go_region_with (go_at_call 33; refine (BH.out _ _ _ (L2.out _ WB1.drew)).mono ?_; rintro e w4 ⟨rfl, hb4⟩; have BR4 := BR1.drew.below hb4 BR1.drew.lt; have W4 := WB1.drew.trans (hb4.mono WB1.drew.size); obtain ⟨⟨vp0, vr0⟩, ⟨vp1, vr1⟩, ⟨vp2, vr2⟩, ⟨vp3, vr3⟩, ⟨vp4, vr4⟩, vB⟩ := Phr.blk5 BR4 (.int .i64 X.1.reg) (.int .i64 X.1.count) (.string (bs X.1.op)) (.string (bs X.1.key)) (.string (bs X.1.arg)); have GG := Phr.put5_gb w4 (w.heap.size + 1) (.int .i64 X.1.reg) (.int .i64 X.1.count) (.string (bs X.1.op)) (.string (bs X.1.key)) (.string (bs X.1.arg)); unfold Phr.put5 at GG vB; generalize hv1 : w4.setCell ⟨w.heap.size + 1, 0, none⟩ (.int .i64 X.1.reg) = v1 at *; generalize hv2 : v1.setCell ⟨w.heap.size + 1, 1, none⟩ (.int .i64 X.1.count) = v2 at *; generalize hv3 : v2.setCell ⟨w.heap.size + 1, 2, none⟩ (.string (bs X.1.op)) = v3 at *; generalize hv4 : v3.setCell ⟨w.heap.size + 1, 3, none⟩ (.string (bs X.1.key)) = v4 at *; generalize hv5 : v4.setCell ⟨w.heap.size + 1, 4, none⟩ (.string (bs X.1.arg)) = v5 at *; have BB := Lib.hid vB; have W5 := W4.grown GG W4.size (fun j e => by injection e with e; omega); clear hb4 BR4 W4)
  all_goals
    go_wp2_with fail
    refine ret_five1 rfl rfl BB.out rfl Tryz.underlying27 (by kernel_rfl) ?_
    exact ⟨_, HF, rfl, W5⟩
set_option maxHeartbeats 1000000 in
set_option maxRecDepth 100000 in
theorem ref26_marked_k6 {A : Option Addr} {n : Nat} {r m : Int} {t : List (List UInt8)} {w : World} (h : Ls w A n ([60] :: t))  :
    Calls Tryz.prog 15 #[.agg #[.int .i64 r, .int .i64 m, .string (bs []), .string (bs []), .string (bs [])], .slice A (t.length + 1) n] w (RefFin (Phr.run true ⟨r, m, [], [], []⟩ ([60] :: t)) w) := by
  have HF : Phr.fin (Phr.last ⟨r, m, [60], [], []⟩ t) = Phr.run true ⟨r, m, [], [], []⟩ ([60] :: t) := by show Phr.fin (Phr.goes ⟨r, m, [60], [], []⟩ 0 (t)) = _; rw [Phr.fin_goes]; rfl
  generalize Phr.run true ⟨r, m, [], [], []⟩ ([60] :: t) = FF at HF ⊢
  obtain ⟨W0, hW0⟩ : ∃ W0, (w.alloc (.cells #[.int .i64 r, .int .i64 m, .string (bs []), .string (bs []), .string (bs [])] 27)).alloc (.cells #[.int .i64 0, .int .i64 0, .string ⟨#[]⟩, .string ⟨#[]⟩, .string ⟨#[]⟩] 27) = W0 := ⟨_, rfl⟩
  obtain ⟨BP, BR, WB, SZ⟩ := Phr.start (⟨r, m, [], [], []⟩ : Cmd) hW0
  simp only at BP
  obtain ⟨ad, rfl⟩ := h.addr
  have X0 : Hid (∀ u, Below w.heap.size w u → u.cell? ad = some (.string (bs [60]))) := Lib.hid (fun u hu => h.at_ (j := 0) rfl hu)
  have x0 := X0.out W0 WB
  have sc1 := BP.cell 2
  have sf1 := BP.frozen 2
  have BP1 := BP.set_ 2 (.string (bs [60]))
  have BR1 := BR.far (p := ⟨w.heap.size, 2, none⟩) (by show w.heap.size + 1 ≠ w.heap.size; omega) (.string (bs [60]))
  have WB1 := WB.setCell (p := ⟨w.heap.size, 2, none⟩) (Nat.le_refl _) (.string (bs [60]))
  generalize hs1 : W0.setCell ⟨w.heap.size, 2, none⟩ (.string (bs [60])) = W1 at *
  simp at sc1
  have q0 : ((bs [60]).toList == [100]) = false := by rw [bs_tl]; rfl
  have q1 : ((bs [60]).toList == [120]) = false := by rw [bs_tl]; rfl
  have q2 : ((bs [60]).toList == [99]) = false := by rw [bs_tl]; rfl
  have q3 : ((bs [60]).toList == [115]) = false := by rw [bs_tl]; rfl
  have q4 : ((bs [60]).toList == [121]) = false := by rw [bs_tl]; rfl
  have q5 : ((bs [60]).toList == [62]) = false := by rw [bs_tl]; rfl
  have q6 : ((bs [60]).toList == [60]) = true := by rw [bs_tl]; rfl
  have pc0 := BP1.cell 0
  have pc1 := BP1.cell 1
  have pc2 := BP1.cell 2
  have pc3 := BP1.cell 3
  have pc4 := BP1.cell 4
  try simp at pc0 pc1 pc2 pc3 pc4
  obtain ⟨AA, hAA⟩ : ∃ AA, (if n = 1 then (some ad : Option Addr) else some ⟨ad.block, ad.off + 1, none⟩) = AA := ⟨_, rfl⟩
  have L2 : Hid (∀ u, Below w.heap.size w u → Ls u AA (n - 1) (t)) := Lib.hid (fun u hu => (h.below hu).cut hAA)
  have BH := Lib.hid (fun (u : World) (A : Option Addr) (n : Nat) (_ : Ls u A n (t)) => show Calls Tryz.prog 33 #[.agg #[.int .i64 r, .int .i64 m, .string (bs [60]), .string (bs []), .string (bs [])], .slice A (t).length n] u (RefIs (Phr.last ⟨r, m, [60], [], []⟩ (t)) u) from ref26_last ⟨r, m, [60], [], []⟩ u)
  obtain ⟨X, hX⟩ : ∃ X, Phr.last ⟨r, m, [60], [], []⟩ t = X := ⟨_, rfl⟩
  rw [hX] at BH HF
  clear hX h BP BR WB BP1
  go_enter Tryz.func15, Tryz.ntmps15
  go_wp2_with fail
  go_region_with (go_at_call 33; refine (BH.out _ _ _ (L2.out _ WB1.drew)).mono ?_; rintro e w4 ⟨rfl, hb4⟩; have BR4 := BR1.drew.below hb4 BR1.drew.lt; have W4 := WB1.drew.trans (hb4.mono WB1.drew.size); obtain ⟨⟨vp0, vr0⟩, ⟨vp1, vr1⟩, ⟨vp2, vr2⟩, ⟨vp3, vr3⟩, ⟨vp4, vr4⟩, vB⟩ := Phr.blk5 BR4 (.int .i64 X.1.reg) (.int .i64 X.1.count) (.string (bs X.1.op)) (.string (bs X.1.key)) (.string (bs X.1.arg)); have GG := Phr.put5_gb w4 (w.heap.size + 1) (.int .i64 X.1.reg) (.int .i64 X.1.count) (.string (bs X.1.op)) (.string (bs X.1.key)) (.string (bs X.1.arg)); unfold Phr.put5 at GG vB; generalize hv1 : w4.setCell ⟨w.heap.size + 1, 0, none⟩ (.int .i64 X.1.reg) = v1 at *; generalize hv2 : v1.setCell ⟨w.heap.size + 1, 1, none⟩ (.int .i64 X.1.count) = v2 at *; generalize hv3 : v2.setCell ⟨w.heap.size + 1, 2, none⟩ (.string (bs X.1.op)) = v3 at *; generalize hv4 : v3.setCell ⟨w.heap.size + 1, 3, none⟩ (.string (bs X.1.key)) = v4 at *; generalize hv5 : v4.setCell ⟨w.heap.size + 1, 4, none⟩ (.string (bs X.1.arg)) = v5 at *; have BB := Lib.hid vB; have W5 := W4.grown GG W4.size (fun j e => by injection e with e; omega); clear hb4 BR4 W4)
  all_goals
    go_wp2_with fail
    refine ret_five1 rfl rfl BB.out rfl Tryz.underlying27 (by kernel_rfl) ?_
    exact ⟨_, HF, rfl, W5⟩
set_option maxHeartbeats 1000000 in
set_option maxRecDepth 100000 in
theorem ref26_marked_k7 {A : Option Addr} {n : Nat} {r m : Int} {t : List (List UInt8)} {w : World} (h : Ls w A n ([126] :: t))  :
    Calls Tryz.prog 15 #[.agg #[.int .i64 r, .int .i64 m, .string (bs []), .string (bs []), .string (bs [])], .slice A (t.length + 1) n] w (RefFin (Phr.run true ⟨r, m, [], [], []⟩ ([126] :: t)) w) := by
  have HF : Phr.fin (Phr.last ⟨r, m, [103, 126], [], []⟩ t) = Phr.run true ⟨r, m, [], [], []⟩ ([126] :: t) := by show Phr.fin (Phr.goes ⟨r, m, [103, 126], [], []⟩ 0 (t)) = _; rw [Phr.fin_goes]; rfl
  generalize Phr.run true ⟨r, m, [], [], []⟩ ([126] :: t) = FF at HF ⊢
  obtain ⟨W0, hW0⟩ : ∃ W0, (w.alloc (.cells #[.int .i64 r, .int .i64 m, .string (bs []), .string (bs []), .string (bs [])] 27)).alloc (.cells #[.int .i64 0, .int .i64 0, .string ⟨#[]⟩, .string ⟨#[]⟩, .string ⟨#[]⟩] 27) = W0 := ⟨_, rfl⟩
  obtain ⟨BP, BR, WB, SZ⟩ := Phr.start (⟨r, m, [], [], []⟩ : Cmd) hW0
  simp only at BP
  obtain ⟨ad, rfl⟩ := h.addr
  have X0 : Hid (∀ u, Below w.heap.size w u → u.cell? ad = some (.string (bs [126]))) := Lib.hid (fun u hu => h.at_ (j := 0) rfl hu)
  have x0 := X0.out W0 WB
  obtain ⟨T2, hT2⟩ : ∃ T2, ⟨#[103]⟩ ++ bs [126] = T2 := ⟨_, rfl⟩
  have hs103 : (⟨#[103]⟩ : ByteArray).size = 1 := rfl
  have hsx : (bs [126]).size = 1 := rfl
  have HT3 : Hid (T2 = bs [103, 126]) := Lib.hid (by rw [← hT2]; show bs [103] ++ _ = _; rw [bs_append]; rfl)
  have sc1 := BP.cell 2
  have sf1 := BP.frozen 2
  have BP1 := BP.set_ 2 (.string T2)
  have BR1 := BR.far (p := ⟨w.heap.size, 2, none⟩) (by show w.heap.size + 1 ≠ w.heap.size; omega) (.string T2)
  have WB1 := WB.setCell (p := ⟨w.heap.size, 2, none⟩) (Nat.le_refl _) (.string T2)
  generalize hs1 : W0.setCell ⟨w.heap.size, 2, none⟩ (.string T2) = W1 at *
  simp at sc1
  have q0 : ((bs [126]).toList == [100]) = false := by rw [bs_tl]; rfl
  have q1 : ((bs [126]).toList == [120]) = false := by rw [bs_tl]; rfl
  have q2 : ((bs [126]).toList == [99]) = false := by rw [bs_tl]; rfl
  have q3 : ((bs [126]).toList == [115]) = false := by rw [bs_tl]; rfl
  have q4 : ((bs [126]).toList == [121]) = false := by rw [bs_tl]; rfl
  have q5 : ((bs [126]).toList == [62]) = false := by rw [bs_tl]; rfl
  have q6 : ((bs [126]).toList == [60]) = false := by rw [bs_tl]; rfl
  have q7 : ((bs [126]).toList == [126]) = true := by rw [bs_tl]; rfl
  have pc0 := BP1.cell 0
  have pc1 := BP1.cell 1
  have pc2 := BP1.cell 2
  have pc3 := BP1.cell 3
  have pc4 := BP1.cell 4
  try simp at pc0 pc1 pc2 pc3 pc4
  obtain ⟨AA, hAA⟩ : ∃ AA, (if n = 1 then (some ad : Option Addr) else some ⟨ad.block, ad.off + 1, none⟩) = AA := ⟨_, rfl⟩
  have L2 : Hid (∀ u, Below w.heap.size w u → Ls u AA (n - 1) (t)) := Lib.hid (fun u hu => (h.below hu).cut hAA)
  have BH : Hid (∀ (u : World) (A : Option Addr) (n : Nat) (_ : Ls u A n (t)), Calls Tryz.prog 33 #[.agg #[.int .i64 r, .int .i64 m, .string T2, .string (bs []), .string (bs [])], .slice A (t).length n] u (RefIs (Phr.last ⟨r, m, [103, 126], [], []⟩ (t)) u)) := Lib.hid (by rw [HT3.out]; exact fun u A n _ => ref26_last ⟨r, m, [103, 126], [], []⟩ u)
  obtain ⟨X, hX⟩ : ∃ X, Phr.last ⟨r, m, [103, 126], [], []⟩ t = X := ⟨_, rfl⟩
  rw [hX] at BH HF
  clear hX h BP BR WB BP1
  go_enter Tryz.func15, Tryz.ntmps15
  go_wp2_with fail
  go_region_with (go_at_call 33; refine (BH.out _ _ _ (L2.out _ WB1.drew)).mono ?_; rintro e w4 ⟨rfl, hb4⟩; have BR4 := BR1.drew.below hb4 BR1.drew.lt; have W4 := WB1.drew.trans (hb4.mono WB1.drew.size); obtain ⟨⟨vp0, vr0⟩, ⟨vp1, vr1⟩, ⟨vp2, vr2⟩, ⟨vp3, vr3⟩, ⟨vp4, vr4⟩, vB⟩ := Phr.blk5 BR4 (.int .i64 X.1.reg) (.int .i64 X.1.count) (.string (bs X.1.op)) (.string (bs X.1.key)) (.string (bs X.1.arg)); have GG := Phr.put5_gb w4 (w.heap.size + 1) (.int .i64 X.1.reg) (.int .i64 X.1.count) (.string (bs X.1.op)) (.string (bs X.1.key)) (.string (bs X.1.arg)); unfold Phr.put5 at GG vB; generalize hv1 : w4.setCell ⟨w.heap.size + 1, 0, none⟩ (.int .i64 X.1.reg) = v1 at *; generalize hv2 : v1.setCell ⟨w.heap.size + 1, 1, none⟩ (.int .i64 X.1.count) = v2 at *; generalize hv3 : v2.setCell ⟨w.heap.size + 1, 2, none⟩ (.string (bs X.1.op)) = v3 at *; generalize hv4 : v3.setCell ⟨w.heap.size + 1, 3, none⟩ (.string (bs X.1.key)) = v4 at *; generalize hv5 : v4.setCell ⟨w.heap.size + 1, 4, none⟩ (.string (bs X.1.arg)) = v5 at *; have BB := Lib.hid vB; have W5 := W4.grown GG W4.size (fun j e => by injection e with e; omega); clear hb4 BR4 W4)
  all_goals
    go_wp2_with fail
    refine ret_five1 rfl rfl BB.out rfl Tryz.underlying27 (by kernel_rfl) ?_
    exact ⟨_, HF, rfl, W5⟩
set_option maxHeartbeats 1000000 in
set_option maxRecDepth 100000 in
theorem ref26_marked_k8 {A : Option Addr} {n : Nat} {r m : Int} {t : List (List UInt8)} {w : World} (h : Ls w A n ([117] :: t))  :
    Calls Tryz.prog 15 #[.agg #[.int .i64 r, .int .i64 m, .string (bs []), .string (bs []), .string (bs [])], .slice A (t.length + 1) n] w (RefFin (Phr.run true ⟨r, m, [], [], []⟩ ([117] :: t)) w) := by
  have HF : Phr.fin (Phr.last ⟨r, m, [103, 117], [], []⟩ t) = Phr.run true ⟨r, m, [], [], []⟩ ([117] :: t) := by show Phr.fin (Phr.goes ⟨r, m, [103, 117], [], []⟩ 0 (t)) = _; rw [Phr.fin_goes]; rfl
  generalize Phr.run true ⟨r, m, [], [], []⟩ ([117] :: t) = FF at HF ⊢
  obtain ⟨W0, hW0⟩ : ∃ W0, (w.alloc (.cells #[.int .i64 r, .int .i64 m, .string (bs []), .string (bs []), .string (bs [])] 27)).alloc (.cells #[.int .i64 0, .int .i64 0, .string ⟨#[]⟩, .string ⟨#[]⟩, .string ⟨#[]⟩] 27) = W0 := ⟨_, rfl⟩
  obtain ⟨BP, BR, WB, SZ⟩ := Phr.start (⟨r, m, [], [], []⟩ : Cmd) hW0
  simp only at BP
  obtain ⟨ad, rfl⟩ := h.addr
  have X0 : Hid (∀ u, Below w.heap.size w u → u.cell? ad = some (.string (bs [117]))) := Lib.hid (fun u hu => h.at_ (j := 0) rfl hu)
  have x0 := X0.out W0 WB
  obtain ⟨T2, hT2⟩ : ∃ T2, ⟨#[103]⟩ ++ bs [117] = T2 := ⟨_, rfl⟩
  have hs103 : (⟨#[103]⟩ : ByteArray).size = 1 := rfl
  have hsx : (bs [117]).size = 1 := rfl
  have HT3 : Hid (T2 = bs [103, 117]) := Lib.hid (by rw [← hT2]; show bs [103] ++ _ = _; rw [bs_append]; rfl)
  have sc1 := BP.cell 2
  have sf1 := BP.frozen 2
  have BP1 := BP.set_ 2 (.string T2)
  have BR1 := BR.far (p := ⟨w.heap.size, 2, none⟩) (by show w.heap.size + 1 ≠ w.heap.size; omega) (.string T2)
  have WB1 := WB.setCell (p := ⟨w.heap.size, 2, none⟩) (Nat.le_refl _) (.string T2)
  generalize hs1 : W0.setCell ⟨w.heap.size, 2, none⟩ (.string T2) = W1 at *
  simp at sc1
  have q0 : ((bs [117]).toList == [100]) = false := by rw [bs_tl]; rfl
  have q1 : ((bs [117]).toList == [120]) = false := by rw [bs_tl]; rfl
  have q2 : ((bs [117]).toList == [99]) = false := by rw [bs_tl]; rfl
  have q3 : ((bs [117]).toList == [115]) = false := by rw [bs_tl]; rfl
  have q4 : ((bs [117]).toList == [121]) = false := by rw [bs_tl]; rfl
  have q5 : ((bs [117]).toList == [62]) = false := by rw [bs_tl]; rfl
  have q6 : ((bs [117]).toList == [60]) = false := by rw [bs_tl]; rfl
  have q7 : ((bs [117]).toList == [126]) = false := by rw [bs_tl]; rfl
  have q8 : ((bs [117]).toList == [117]) = true := by rw [bs_tl]; rfl
  have pc0 := BP1.cell 0
  have pc1 := BP1.cell 1
  have pc2 := BP1.cell 2
  have pc3 := BP1.cell 3
  have pc4 := BP1.cell 4
  try simp at pc0 pc1 pc2 pc3 pc4
  obtain ⟨AA, hAA⟩ : ∃ AA, (if n = 1 then (some ad : Option Addr) else some ⟨ad.block, ad.off + 1, none⟩) = AA := ⟨_, rfl⟩
  have L2 : Hid (∀ u, Below w.heap.size w u → Ls u AA (n - 1) (t)) := Lib.hid (fun u hu => (h.below hu).cut hAA)
  have BH : Hid (∀ (u : World) (A : Option Addr) (n : Nat) (_ : Ls u A n (t)), Calls Tryz.prog 33 #[.agg #[.int .i64 r, .int .i64 m, .string T2, .string (bs []), .string (bs [])], .slice A (t).length n] u (RefIs (Phr.last ⟨r, m, [103, 117], [], []⟩ (t)) u)) := Lib.hid (by rw [HT3.out]; exact fun u A n _ => ref26_last ⟨r, m, [103, 117], [], []⟩ u)
  obtain ⟨X, hX⟩ : ∃ X, Phr.last ⟨r, m, [103, 117], [], []⟩ t = X := ⟨_, rfl⟩
  rw [hX] at BH HF
  clear hX h BP BR WB BP1
  go_enter Tryz.func15, Tryz.ntmps15
  go_wp2_with fail
  go_region_with (go_at_call 33; refine (BH.out _ _ _ (L2.out _ WB1.drew)).mono ?_; rintro e w4 ⟨rfl, hb4⟩; have BR4 := BR1.drew.below hb4 BR1.drew.lt; have W4 := WB1.drew.trans (hb4.mono WB1.drew.size); obtain ⟨⟨vp0, vr0⟩, ⟨vp1, vr1⟩, ⟨vp2, vr2⟩, ⟨vp3, vr3⟩, ⟨vp4, vr4⟩, vB⟩ := Phr.blk5 BR4 (.int .i64 X.1.reg) (.int .i64 X.1.count) (.string (bs X.1.op)) (.string (bs X.1.key)) (.string (bs X.1.arg)); have GG := Phr.put5_gb w4 (w.heap.size + 1) (.int .i64 X.1.reg) (.int .i64 X.1.count) (.string (bs X.1.op)) (.string (bs X.1.key)) (.string (bs X.1.arg)); unfold Phr.put5 at GG vB; generalize hv1 : w4.setCell ⟨w.heap.size + 1, 0, none⟩ (.int .i64 X.1.reg) = v1 at *; generalize hv2 : v1.setCell ⟨w.heap.size + 1, 1, none⟩ (.int .i64 X.1.count) = v2 at *; generalize hv3 : v2.setCell ⟨w.heap.size + 1, 2, none⟩ (.string (bs X.1.op)) = v3 at *; generalize hv4 : v3.setCell ⟨w.heap.size + 1, 3, none⟩ (.string (bs X.1.key)) = v4 at *; generalize hv5 : v4.setCell ⟨w.heap.size + 1, 4, none⟩ (.string (bs X.1.arg)) = v5 at *; have BB := Lib.hid vB; have W5 := W4.grown GG W4.size (fun j e => by injection e with e; omega); clear hb4 BR4 W4)
  all_goals
    go_wp2_with fail
    refine ret_five1 rfl rfl BB.out rfl Tryz.underlying27 (by kernel_rfl) ?_
    exact ⟨_, HF, rfl, W5⟩
set_option maxHeartbeats 1000000 in
set_option maxRecDepth 100000 in
theorem ref26_marked_k9 {A : Option Addr} {n : Nat} {r m : Int} {t : List (List UInt8)} {w : World} (h : Ls w A n ([85] :: t))  :
    Calls Tryz.prog 15 #[.agg #[.int .i64 r, .int .i64 m, .string (bs []), .string (bs []), .string (bs [])], .slice A (t.length + 1) n] w (RefFin (Phr.run true ⟨r, m, [], [], []⟩ ([85] :: t)) w) := by
  have HF : Phr.fin (Phr.last ⟨r, m, [103, 85], [], []⟩ t) = Phr.run true ⟨r, m, [], [], []⟩ ([85] :: t) := by show Phr.fin (Phr.goes ⟨r, m, [103, 85], [], []⟩ 0 (t)) = _; rw [Phr.fin_goes]; rfl
  generalize Phr.run true ⟨r, m, [], [], []⟩ ([85] :: t) = FF at HF ⊢
  obtain ⟨W0, hW0⟩ : ∃ W0, (w.alloc (.cells #[.int .i64 r, .int .i64 m, .string (bs []), .string (bs []), .string (bs [])] 27)).alloc (.cells #[.int .i64 0, .int .i64 0, .string ⟨#[]⟩, .string ⟨#[]⟩, .string ⟨#[]⟩] 27) = W0 := ⟨_, rfl⟩
  obtain ⟨BP, BR, WB, SZ⟩ := Phr.start (⟨r, m, [], [], []⟩ : Cmd) hW0
  simp only at BP
  obtain ⟨ad, rfl⟩ := h.addr
  have X0 : Hid (∀ u, Below w.heap.size w u → u.cell? ad = some (.string (bs [85]))) := Lib.hid (fun u hu => h.at_ (j := 0) rfl hu)
  have x0 := X0.out W0 WB
  obtain ⟨T2, hT2⟩ : ∃ T2, ⟨#[103]⟩ ++ bs [85] = T2 := ⟨_, rfl⟩
  have hs103 : (⟨#[103]⟩ : ByteArray).size = 1 := rfl
  have hsx : (bs [85]).size = 1 := rfl
  have HT3 : Hid (T2 = bs [103, 85]) := Lib.hid (by rw [← hT2]; show bs [103] ++ _ = _; rw [bs_append]; rfl)
  have sc1 := BP.cell 2
  have sf1 := BP.frozen 2
  have BP1 := BP.set_ 2 (.string T2)
  have BR1 := BR.far (p := ⟨w.heap.size, 2, none⟩) (by show w.heap.size + 1 ≠ w.heap.size; omega) (.string T2)
  have WB1 := WB.setCell (p := ⟨w.heap.size, 2, none⟩) (Nat.le_refl _) (.string T2)
  generalize hs1 : W0.setCell ⟨w.heap.size, 2, none⟩ (.string T2) = W1 at *
  simp at sc1
  have q0 : ((bs [85]).toList == [100]) = false := by rw [bs_tl]; rfl
  have q1 : ((bs [85]).toList == [120]) = false := by rw [bs_tl]; rfl
  have q2 : ((bs [85]).toList == [99]) = false := by rw [bs_tl]; rfl
  have q3 : ((bs [85]).toList == [115]) = false := by rw [bs_tl]; rfl
  have q4 : ((bs [85]).toList == [121]) = false := by rw [bs_tl]; rfl
  have q5 : ((bs [85]).toList == [62]) = false := by rw [bs_tl]; rfl
  have q6 : ((bs [85]).toList == [60]) = false := by rw [bs_tl]; rfl
  have q7 : ((bs [85]).toList == [126]) = false := by rw [bs_tl]; rfl
  have q8 : ((bs [85]).toList == [117]) = false := by rw [bs_tl]; rfl
  have q9 : ((bs [85]).toList == [85]) = true := by rw [bs_tl]; rfl
  have pc0 := BP1.cell 0
  have pc1 := BP1.cell 1
  have pc2 := BP1.cell 2
  have pc3 := BP1.cell 3
  have pc4 := BP1.cell 4
  try simp at pc0 pc1 pc2 pc3 pc4
  obtain ⟨AA, hAA⟩ : ∃ AA, (if n = 1 then (some ad : Option Addr) else some ⟨ad.block, ad.off + 1, none⟩) = AA := ⟨_, rfl⟩
  have L2 : Hid (∀ u, Below w.heap.size w u → Ls u AA (n - 1) (t)) := Lib.hid (fun u hu => (h.below hu).cut hAA)
  have BH : Hid (∀ (u : World) (A : Option Addr) (n : Nat) (_ : Ls u A n (t)), Calls Tryz.prog 33 #[.agg #[.int .i64 r, .int .i64 m, .string T2, .string (bs []), .string (bs [])], .slice A (t).length n] u (RefIs (Phr.last ⟨r, m, [103, 85], [], []⟩ (t)) u)) := Lib.hid (by rw [HT3.out]; exact fun u A n _ => ref26_last ⟨r, m, [103, 85], [], []⟩ u)
  obtain ⟨X, hX⟩ : ∃ X, Phr.last ⟨r, m, [103, 85], [], []⟩ t = X := ⟨_, rfl⟩
  rw [hX] at BH HF
  clear hX h BP BR WB BP1
  go_enter Tryz.func15, Tryz.ntmps15
  go_wp2_with fail
  go_region_with (go_at_call 33; refine (BH.out _ _ _ (L2.out _ WB1.drew)).mono ?_; rintro e w4 ⟨rfl, hb4⟩; have BR4 := BR1.drew.below hb4 BR1.drew.lt; have W4 := WB1.drew.trans (hb4.mono WB1.drew.size); obtain ⟨⟨vp0, vr0⟩, ⟨vp1, vr1⟩, ⟨vp2, vr2⟩, ⟨vp3, vr3⟩, ⟨vp4, vr4⟩, vB⟩ := Phr.blk5 BR4 (.int .i64 X.1.reg) (.int .i64 X.1.count) (.string (bs X.1.op)) (.string (bs X.1.key)) (.string (bs X.1.arg)); have GG := Phr.put5_gb w4 (w.heap.size + 1) (.int .i64 X.1.reg) (.int .i64 X.1.count) (.string (bs X.1.op)) (.string (bs X.1.key)) (.string (bs X.1.arg)); unfold Phr.put5 at GG vB; generalize hv1 : w4.setCell ⟨w.heap.size + 1, 0, none⟩ (.int .i64 X.1.reg) = v1 at *; generalize hv2 : v1.setCell ⟨w.heap.size + 1, 1, none⟩ (.int .i64 X.1.count) = v2 at *; generalize hv3 : v2.setCell ⟨w.heap.size + 1, 2, none⟩ (.string (bs X.1.op)) = v3 at *; generalize hv4 : v3.setCell ⟨w.heap.size + 1, 3, none⟩ (.string (bs X.1.key)) = v4 at *; generalize hv5 : v4.setCell ⟨w.heap.size + 1, 4, none⟩ (.string (bs X.1.arg)) = v5 at *; have BB := Lib.hid vB; have W5 := W4.grown GG W4.size (fun j e => by injection e with e; omega); clear hb4 BR4 W4)
  all_goals
    go_wp2_with fail
    refine ret_five1 rfl rfl BB.out rfl Tryz.underlying27 (by kernel_rfl) ?_
    exact ⟨_, HF, rfl, W5⟩
set_option maxHeartbeats 1000000 in
set_option maxRecDepth 100000 in
theorem ref26_marked_k10 {A : Option Addr} {n : Nat} {r m : Int} {t : List (List UInt8)} {w : World} (h : Ls w A n ([74] :: t))  :
    Calls Tryz.prog 15 #[.agg #[.int .i64 r, .int .i64 m, .string (bs []), .string (bs []), .string (bs [])], .slice A (t.length + 1) n] w (RefFin (Phr.run true ⟨r, m, [], [], []⟩ ([74] :: t)) w) := by
  have HF : Phr.fin (Phr.last ⟨r, m, [], [74], []⟩ t) = Phr.run true ⟨r, m, [], [], []⟩ ([74] :: t) := by show Phr.fin (Phr.goes ⟨r, m, [], [74], []⟩ 0 (t)) = _; rw [Phr.fin_goes]; rfl
  generalize Phr.run true ⟨r, m, [], [], []⟩ ([74] :: t) = FF at HF ⊢
  obtain ⟨W0, hW0⟩ : ∃ W0, (w.alloc (.cells #[.int .i64 r, .int .i64 m, .string (bs []), .string (bs []), .string (bs [])] 27)).alloc (.cells #[.int .i64 0, .int .i64 0, .string ⟨#[]⟩, .string ⟨#[]⟩, .string ⟨#[]⟩] 27) = W0 := ⟨_, rfl⟩
  obtain ⟨BP, BR, WB, SZ⟩ := Phr.start (⟨r, m, [], [], []⟩ : Cmd) hW0
  simp only at BP
  obtain ⟨ad, rfl⟩ := h.addr
  have X0 : Hid (∀ u, Below w.heap.size w u → u.cell? ad = some (.string (bs [74]))) := Lib.hid (fun u hu => h.at_ (j := 0) rfl hu)
  have x0 := X0.out W0 WB
  have sc1 := BP.cell 3
  have sf1 := BP.frozen 3
  have BP1 := BP.set_ 3 (.string (bs [74]))
  have BR1 := BR.far (p := ⟨w.heap.size, 3, none⟩) (by show w.heap.size + 1 ≠ w.heap.size; omega) (.string (bs [74]))
  have WB1 := WB.setCell (p := ⟨w.heap.size, 3, none⟩) (Nat.le_refl _) (.string (bs [74]))
  generalize hs1 : W0.setCell ⟨w.heap.size, 3, none⟩ (.string (bs [74])) = W1 at *
  simp at sc1
  have q0 : ((bs [74]).toList == [100]) = false := by rw [bs_tl]; rfl
  have q1 : ((bs [74]).toList == [120]) = false := by rw [bs_tl]; rfl
  have q2 : ((bs [74]).toList == [99]) = false := by rw [bs_tl]; rfl
  have q3 : ((bs [74]).toList == [115]) = false := by rw [bs_tl]; rfl
  have q4 : ((bs [74]).toList == [121]) = false := by rw [bs_tl]; rfl
  have q5 : ((bs [74]).toList == [62]) = false := by rw [bs_tl]; rfl
  have q6 : ((bs [74]).toList == [60]) = false := by rw [bs_tl]; rfl
  have q7 : ((bs [74]).toList == [126]) = false := by rw [bs_tl]; rfl
  have q8 : ((bs [74]).toList == [117]) = false := by rw [bs_tl]; rfl
  have q9 : ((bs [74]).toList == [85]) = false := by rw [bs_tl]; rfl
  have q10 : ((bs [74]).toList == [74]) = true := by rw [bs_tl]; rfl
  have pc0 := BP1.cell 0
  have pc1 := BP1.cell 1
  have pc2 := BP1.cell 2
  have pc3 := BP1.cell 3
  have pc4 := BP1.cell 4
  try simp at pc0 pc1 pc2 pc3 pc4
  obtain ⟨AA, hAA⟩ : ∃ AA, (if n = 1 then (some ad : Option Addr) else some ⟨ad.block, ad.off + 1, none⟩) = AA := ⟨_, rfl⟩
  have L2 : Hid (∀ u, Below w.heap.size w u → Ls u AA (n - 1) (t)) := Lib.hid (fun u hu => (h.below hu).cut hAA)
  have BH := Lib.hid (fun (u : World) (A : Option Addr) (n : Nat) (_ : Ls u A n (t)) => show Calls Tryz.prog 33 #[.agg #[.int .i64 r, .int .i64 m, .string (bs []), .string (bs [74]), .string (bs [])], .slice A (t).length n] u (RefIs (Phr.last ⟨r, m, [], [74], []⟩ (t)) u) from ref26_last ⟨r, m, [], [74], []⟩ u)
  obtain ⟨X, hX⟩ : ∃ X, Phr.last ⟨r, m, [], [74], []⟩ t = X := ⟨_, rfl⟩
  rw [hX] at BH HF
  clear hX h BP BR WB BP1
  go_enter Tryz.func15, Tryz.ntmps15
  go_wp2_with fail
  go_region_with (go_at_call 33; refine (BH.out _ _ _ (L2.out _ WB1.drew)).mono ?_; rintro e w4 ⟨rfl, hb4⟩; have BR4 := BR1.drew.below hb4 BR1.drew.lt; have W4 := WB1.drew.trans (hb4.mono WB1.drew.size); obtain ⟨⟨vp0, vr0⟩, ⟨vp1, vr1⟩, ⟨vp2, vr2⟩, ⟨vp3, vr3⟩, ⟨vp4, vr4⟩, vB⟩ := Phr.blk5 BR4 (.int .i64 X.1.reg) (.int .i64 X.1.count) (.string (bs X.1.op)) (.string (bs X.1.key)) (.string (bs X.1.arg)); have GG := Phr.put5_gb w4 (w.heap.size + 1) (.int .i64 X.1.reg) (.int .i64 X.1.count) (.string (bs X.1.op)) (.string (bs X.1.key)) (.string (bs X.1.arg)); unfold Phr.put5 at GG vB; generalize hv1 : w4.setCell ⟨w.heap.size + 1, 0, none⟩ (.int .i64 X.1.reg) = v1 at *; generalize hv2 : v1.setCell ⟨w.heap.size + 1, 1, none⟩ (.int .i64 X.1.count) = v2 at *; generalize hv3 : v2.setCell ⟨w.heap.size + 1, 2, none⟩ (.string (bs X.1.op)) = v3 at *; generalize hv4 : v3.setCell ⟨w.heap.size + 1, 3, none⟩ (.string (bs X.1.key)) = v4 at *; generalize hv5 : v4.setCell ⟨w.heap.size + 1, 4, none⟩ (.string (bs X.1.arg)) = v5 at *; have BB := Lib.hid vB; have W5 := W4.grown GG W4.size (fun j e => by injection e with e; omega); clear hb4 BR4 W4)
  all_goals
    go_wp2_with fail
    refine ret_five1 rfl rfl BB.out rfl Tryz.underlying27 (by kernel_rfl) ?_
    exact ⟨_, HF, rfl, W5⟩
set_option maxHeartbeats 1000000 in
set_option maxRecDepth 100000 in
theorem ref26_marked_k11 {A : Option Addr} {n : Nat} {r m : Int} {t : List (List UInt8)} {w : World} (h : Ls w A n ([111] :: t))  :
    Calls Tryz.prog 15 #[.agg #[.int .i64 r, .int .i64 m, .string (bs []), .string (bs []), .string (bs [])], .slice A (t.length + 1) n] w (RefFin (Phr.run true ⟨r, m, [], [], []⟩ ([111] :: t)) w) := by
  have HF : Phr.fin (Phr.last ⟨r, m, [], [111], []⟩ t) = Phr.run true ⟨r, m, [], [], []⟩ ([111] :: t) := by show Phr.fin (Phr.goes ⟨r, m, [], [111], []⟩ 0 (t)) = _; rw [Phr.fin_goes]; rfl
  generalize Phr.run true ⟨r, m, [], [], []⟩ ([111] :: t) = FF at HF ⊢
  obtain ⟨W0, hW0⟩ : ∃ W0, (w.alloc (.cells #[.int .i64 r, .int .i64 m, .string (bs []), .string (bs []), .string (bs [])] 27)).alloc (.cells #[.int .i64 0, .int .i64 0, .string ⟨#[]⟩, .string ⟨#[]⟩, .string ⟨#[]⟩] 27) = W0 := ⟨_, rfl⟩
  obtain ⟨BP, BR, WB, SZ⟩ := Phr.start (⟨r, m, [], [], []⟩ : Cmd) hW0
  simp only at BP
  obtain ⟨ad, rfl⟩ := h.addr
  have X0 : Hid (∀ u, Below w.heap.size w u → u.cell? ad = some (.string (bs [111]))) := Lib.hid (fun u hu => h.at_ (j := 0) rfl hu)
  have x0 := X0.out W0 WB
  have sc1 := BP.cell 3
  have sf1 := BP.frozen 3
  have BP1 := BP.set_ 3 (.string (bs [111]))
  have BR1 := BR.far (p := ⟨w.heap.size, 3, none⟩) (by show w.heap.size + 1 ≠ w.heap.size; omega) (.string (bs [111]))
  have WB1 := WB.setCell (p := ⟨w.heap.size, 3, none⟩) (Nat.le_refl _) (.string (bs [111]))
  generalize hs1 : W0.setCell ⟨w.heap.size, 3, none⟩ (.string (bs [111])) = W1 at *
  simp at sc1
  have q0 : ((bs [111]).toList == [100]) = false := by rw [bs_tl]; rfl
  have q1 : ((bs [111]).toList == [120]) = false := by rw [bs_tl]; rfl
  have q2 : ((bs [111]).toList == [99]) = false := by rw [bs_tl]; rfl
  have q3 : ((bs [111]).toList == [115]) = false := by rw [bs_tl]; rfl
  have q4 : ((bs [111]).toList == [121]) = false := by rw [bs_tl]; rfl
  have q5 : ((bs [111]).toList == [62]) = false := by rw [bs_tl]; rfl
  have q6 : ((bs [111]).toList == [60]) = false := by rw [bs_tl]; rfl
  have q7 : ((bs [111]).toList == [126]) = false := by rw [bs_tl]; rfl
  have q8 : ((bs [111]).toList == [117]) = false := by rw [bs_tl]; rfl
  have q9 : ((bs [111]).toList == [85]) = false := by rw [bs_tl]; rfl
  have q10 : ((bs [111]).toList == [74]) = false := by rw [bs_tl]; rfl
  have q11 : ((bs [111]).toList == [111]) = true := by rw [bs_tl]; rfl
  have pc0 := BP1.cell 0
  have pc1 := BP1.cell 1
  have pc2 := BP1.cell 2
  have pc3 := BP1.cell 3
  have pc4 := BP1.cell 4
  try simp at pc0 pc1 pc2 pc3 pc4
  obtain ⟨AA, hAA⟩ : ∃ AA, (if n = 1 then (some ad : Option Addr) else some ⟨ad.block, ad.off + 1, none⟩) = AA := ⟨_, rfl⟩
  have L2 : Hid (∀ u, Below w.heap.size w u → Ls u AA (n - 1) (t)) := Lib.hid (fun u hu => (h.below hu).cut hAA)
  have BH := Lib.hid (fun (u : World) (A : Option Addr) (n : Nat) (_ : Ls u A n (t)) => show Calls Tryz.prog 33 #[.agg #[.int .i64 r, .int .i64 m, .string (bs []), .string (bs [111]), .string (bs [])], .slice A (t).length n] u (RefIs (Phr.last ⟨r, m, [], [111], []⟩ (t)) u) from ref26_last ⟨r, m, [], [111], []⟩ u)
  obtain ⟨X, hX⟩ : ∃ X, Phr.last ⟨r, m, [], [111], []⟩ t = X := ⟨_, rfl⟩
  rw [hX] at BH HF
  clear hX h BP BR WB BP1
  go_enter Tryz.func15, Tryz.ntmps15
  go_wp2_with fail
  go_region_with (go_at_call 33; refine (BH.out _ _ _ (L2.out _ WB1.drew)).mono ?_; rintro e w4 ⟨rfl, hb4⟩; have BR4 := BR1.drew.below hb4 BR1.drew.lt; have W4 := WB1.drew.trans (hb4.mono WB1.drew.size); obtain ⟨⟨vp0, vr0⟩, ⟨vp1, vr1⟩, ⟨vp2, vr2⟩, ⟨vp3, vr3⟩, ⟨vp4, vr4⟩, vB⟩ := Phr.blk5 BR4 (.int .i64 X.1.reg) (.int .i64 X.1.count) (.string (bs X.1.op)) (.string (bs X.1.key)) (.string (bs X.1.arg)); have GG := Phr.put5_gb w4 (w.heap.size + 1) (.int .i64 X.1.reg) (.int .i64 X.1.count) (.string (bs X.1.op)) (.string (bs X.1.key)) (.string (bs X.1.arg)); unfold Phr.put5 at GG vB; generalize hv1 : w4.setCell ⟨w.heap.size + 1, 0, none⟩ (.int .i64 X.1.reg) = v1 at *; generalize hv2 : v1.setCell ⟨w.heap.size + 1, 1, none⟩ (.int .i64 X.1.count) = v2 at *; generalize hv3 : v2.setCell ⟨w.heap.size + 1, 2, none⟩ (.string (bs X.1.op)) = v3 at *; generalize hv4 : v3.setCell ⟨w.heap.size + 1, 3, none⟩ (.string (bs X.1.key)) = v4 at *; generalize hv5 : v4.setCell ⟨w.heap.size + 1, 4, none⟩ (.string (bs X.1.arg)) = v5 at *; have BB := Lib.hid vB; have W5 := W4.grown GG W4.size (fun j e => by injection e with e; omega); clear hb4 BR4 W4)
  all_goals
    go_wp2_with fail
    refine ret_five1 rfl rfl BB.out rfl Tryz.underlying27 (by kernel_rfl) ?_
    exact ⟨_, HF, rfl, W5⟩
set_option maxHeartbeats 1000000 in
set_option maxRecDepth 100000 in
theorem ref26_marked_k12 {A : Option Addr} {n : Nat} {r m : Int} {t : List (List UInt8)} {w : World} (h : Ls w A n ([118] :: t))  :
    Calls Tryz.prog 15 #[.agg #[.int .i64 r, .int .i64 m, .string (bs []), .string (bs []), .string (bs [])], .slice A (t.length + 1) n] w (RefFin (Phr.run true ⟨r, m, [], [], []⟩ ([118] :: t)) w) := by
  have HF : Phr.fin (Phr.last ⟨r, m, [], [118], []⟩ t) = Phr.run true ⟨r, m, [], [], []⟩ ([118] :: t) := by show Phr.fin (Phr.goes ⟨r, m, [], [118], []⟩ 0 (t)) = _; rw [Phr.fin_goes]; rfl
  generalize Phr.run true ⟨r, m, [], [], []⟩ ([118] :: t) = FF at HF ⊢
  obtain ⟨W0, hW0⟩ : ∃ W0, (w.alloc (.cells #[.int .i64 r, .int .i64 m, .string (bs []), .string (bs []), .string (bs [])] 27)).alloc (.cells #[.int .i64 0, .int .i64 0, .string ⟨#[]⟩, .string ⟨#[]⟩, .string ⟨#[]⟩] 27) = W0 := ⟨_, rfl⟩
  obtain ⟨BP, BR, WB, SZ⟩ := Phr.start (⟨r, m, [], [], []⟩ : Cmd) hW0
  simp only at BP
  obtain ⟨ad, rfl⟩ := h.addr
  have X0 : Hid (∀ u, Below w.heap.size w u → u.cell? ad = some (.string (bs [118]))) := Lib.hid (fun u hu => h.at_ (j := 0) rfl hu)
  have x0 := X0.out W0 WB
  have sc1 := BP.cell 3
  have sf1 := BP.frozen 3
  have BP1 := BP.set_ 3 (.string (bs [118]))
  have BR1 := BR.far (p := ⟨w.heap.size, 3, none⟩) (by show w.heap.size + 1 ≠ w.heap.size; omega) (.string (bs [118]))
  have WB1 := WB.setCell (p := ⟨w.heap.size, 3, none⟩) (Nat.le_refl _) (.string (bs [118]))
  generalize hs1 : W0.setCell ⟨w.heap.size, 3, none⟩ (.string (bs [118])) = W1 at *
  simp at sc1
  have q0 : ((bs [118]).toList == [100]) = false := by rw [bs_tl]; rfl
  have q1 : ((bs [118]).toList == [120]) = false := by rw [bs_tl]; rfl
  have q2 : ((bs [118]).toList == [99]) = false := by rw [bs_tl]; rfl
  have q3 : ((bs [118]).toList == [115]) = false := by rw [bs_tl]; rfl
  have q4 : ((bs [118]).toList == [121]) = false := by rw [bs_tl]; rfl
  have q5 : ((bs [118]).toList == [62]) = false := by rw [bs_tl]; rfl
  have q6 : ((bs [118]).toList == [60]) = false := by rw [bs_tl]; rfl
  have q7 : ((bs [118]).toList == [126]) = false := by rw [bs_tl]; rfl
  have q8 : ((bs [118]).toList == [117]) = false := by rw [bs_tl]; rfl
  have q9 : ((bs [118]).toList == [85]) = false := by rw [bs_tl]; rfl
  have q10 : ((bs [118]).toList == [74]) = false := by rw [bs_tl]; rfl
  have q11 : ((bs [118]).toList == [111]) = false := by rw [bs_tl]; rfl
  have q12 : ((bs [118]).toList == [118]) = true := by rw [bs_tl]; rfl
  have pc0 := BP1.cell 0
  have pc1 := BP1.cell 1
  have pc2 := BP1.cell 2
  have pc3 := BP1.cell 3
  have pc4 := BP1.cell 4
  try simp at pc0 pc1 pc2 pc3 pc4
  obtain ⟨AA, hAA⟩ : ∃ AA, (if n = 1 then (some ad : Option Addr) else some ⟨ad.block, ad.off + 1, none⟩) = AA := ⟨_, rfl⟩
  have L2 : Hid (∀ u, Below w.heap.size w u → Ls u AA (n - 1) (t)) := Lib.hid (fun u hu => (h.below hu).cut hAA)
  have BH := Lib.hid (fun (u : World) (A : Option Addr) (n : Nat) (_ : Ls u A n (t)) => show Calls Tryz.prog 33 #[.agg #[.int .i64 r, .int .i64 m, .string (bs []), .string (bs [118]), .string (bs [])], .slice A (t).length n] u (RefIs (Phr.last ⟨r, m, [], [118], []⟩ (t)) u) from ref26_last ⟨r, m, [], [118], []⟩ u)
  obtain ⟨X, hX⟩ : ∃ X, Phr.last ⟨r, m, [], [118], []⟩ t = X := ⟨_, rfl⟩
  rw [hX] at BH HF
  clear hX h BP BR WB BP1
  go_enter Tryz.func15, Tryz.ntmps15
  go_wp2_with fail
  go_region_with (go_at_call 33; refine (BH.out _ _ _ (L2.out _ WB1.drew)).mono ?_; rintro e w4 ⟨rfl, hb4⟩; have BR4 := BR1.drew.below hb4 BR1.drew.lt; have W4 := WB1.drew.trans (hb4.mono WB1.drew.size); obtain ⟨⟨vp0, vr0⟩, ⟨vp1, vr1⟩, ⟨vp2, vr2⟩, ⟨vp3, vr3⟩, ⟨vp4, vr4⟩, vB⟩ := Phr.blk5 BR4 (.int .i64 X.1.reg) (.int .i64 X.1.count) (.string (bs X.1.op)) (.string (bs X.1.key)) (.string (bs X.1.arg)); have GG := Phr.put5_gb w4 (w.heap.size + 1) (.int .i64 X.1.reg) (.int .i64 X.1.count) (.string (bs X.1.op)) (.string (bs X.1.key)) (.string (bs X.1.arg)); unfold Phr.put5 at GG vB; generalize hv1 : w4.setCell ⟨w.heap.size + 1, 0, none⟩ (.int .i64 X.1.reg) = v1 at *; generalize hv2 : v1.setCell ⟨w.heap.size + 1, 1, none⟩ (.int .i64 X.1.count) = v2 at *; generalize hv3 : v2.setCell ⟨w.heap.size + 1, 2, none⟩ (.string (bs X.1.op)) = v3 at *; generalize hv4 : v3.setCell ⟨w.heap.size + 1, 3, none⟩ (.string (bs X.1.key)) = v4 at *; generalize hv5 : v4.setCell ⟨w.heap.size + 1, 4, none⟩ (.string (bs X.1.arg)) = v5 at *; have BB := Lib.hid vB; have W5 := W4.grown GG W4.size (fun j e => by injection e with e; omega); clear hb4 BR4 W4)
  all_goals
    go_wp2_with fail
    refine ret_five1 rfl rfl BB.out rfl Tryz.underlying27 (by kernel_rfl) ?_
    exact ⟨_, HF, rfl, W5⟩
set_option maxHeartbeats 1000000 in
set_option maxRecDepth 100000 in
theorem ref26_marked_k13 {A : Option Addr} {n : Nat} {r m : Int} {t : List (List UInt8)} {w : World} (h : Ls w A n ([86] :: t))  :
    Calls Tryz.prog 15 #[.agg #[.int .i64 r, .int .i64 m, .string (bs []), .string (bs []), .string (bs [])], .slice A (t.length + 1) n] w (RefFin (Phr.run true ⟨r, m, [], [], []⟩ ([86] :: t)) w) := by
  have HF : Phr.fin (Phr.last ⟨r, m, [], [86], []⟩ t) = Phr.run true ⟨r, m, [], [], []⟩ ([86] :: t) := by show Phr.fin (Phr.goes ⟨r, m, [], [86], []⟩ 0 (t)) = _; rw [Phr.fin_goes]; rfl
  generalize Phr.run true ⟨r, m, [], [], []⟩ ([86] :: t) = FF at HF ⊢
  obtain ⟨W0, hW0⟩ : ∃ W0, (w.alloc (.cells #[.int .i64 r, .int .i64 m, .string (bs []), .string (bs []), .string (bs [])] 27)).alloc (.cells #[.int .i64 0, .int .i64 0, .string ⟨#[]⟩, .string ⟨#[]⟩, .string ⟨#[]⟩] 27) = W0 := ⟨_, rfl⟩
  obtain ⟨BP, BR, WB, SZ⟩ := Phr.start (⟨r, m, [], [], []⟩ : Cmd) hW0
  simp only at BP
  obtain ⟨ad, rfl⟩ := h.addr
  have X0 : Hid (∀ u, Below w.heap.size w u → u.cell? ad = some (.string (bs [86]))) := Lib.hid (fun u hu => h.at_ (j := 0) rfl hu)
  have x0 := X0.out W0 WB
  have sc1 := BP.cell 3
  have sf1 := BP.frozen 3
  have BP1 := BP.set_ 3 (.string (bs [86]))
  have BR1 := BR.far (p := ⟨w.heap.size, 3, none⟩) (by show w.heap.size + 1 ≠ w.heap.size; omega) (.string (bs [86]))
  have WB1 := WB.setCell (p := ⟨w.heap.size, 3, none⟩) (Nat.le_refl _) (.string (bs [86]))
  generalize hs1 : W0.setCell ⟨w.heap.size, 3, none⟩ (.string (bs [86])) = W1 at *
  simp at sc1
  have q0 : ((bs [86]).toList == [100]) = false := by rw [bs_tl]; rfl
  have q1 : ((bs [86]).toList == [120]) = false := by rw [bs_tl]; rfl
  have q2 : ((bs [86]).toList == [99]) = false := by rw [bs_tl]; rfl
  have q3 : ((bs [86]).toList == [115]) = false := by rw [bs_tl]; rfl
  have q4 : ((bs [86]).toList == [121]) = false := by rw [bs_tl]; rfl
  have q5 : ((bs [86]).toList == [62]) = false := by rw [bs_tl]; rfl
  have q6 : ((bs [86]).toList == [60]) = false := by rw [bs_tl]; rfl
  have q7 : ((bs [86]).toList == [126]) = false := by rw [bs_tl]; rfl
  have q8 : ((bs [86]).toList == [117]) = false := by rw [bs_tl]; rfl
  have q9 : ((bs [86]).toList == [85]) = false := by rw [bs_tl]; rfl
  have q10 : ((bs [86]).toList == [74]) = false := by rw [bs_tl]; rfl
  have q11 : ((bs [86]).toList == [111]) = false := by rw [bs_tl]; rfl
  have q12 : ((bs [86]).toList == [118]) = false := by rw [bs_tl]; rfl
  have q13 : ((bs [86]).toList == [86]) = true := by rw [bs_tl]; rfl
  have pc0 := BP1.cell 0
  have pc1 := BP1.cell 1
  have pc2 := BP1.cell 2
  have pc3 := BP1.cell 3
  have pc4 := BP1.cell 4
  try simp at pc0 pc1 pc2 pc3 pc4
  obtain ⟨AA, hAA⟩ : ∃ AA, (if n = 1 then (some ad : Option Addr) else some ⟨ad.block, ad.off + 1, none⟩) = AA := ⟨_, rfl⟩
  have L2 : Hid (∀ u, Below w.heap.size w u → Ls u AA (n - 1) (t)) := Lib.hid (fun u hu => (h.below hu).cut hAA)
  have BH := Lib.hid (fun (u : World) (A : Option Addr) (n : Nat) (_ : Ls u A n (t)) => show Calls Tryz.prog 33 #[.agg #[.int .i64 r, .int .i64 m, .string (bs []), .string (bs [86]), .string (bs [])], .slice A (t).length n] u (RefIs (Phr.last ⟨r, m, [], [86], []⟩ (t)) u) from ref26_last ⟨r, m, [], [86], []⟩ u)
  obtain ⟨X, hX⟩ : ∃ X, Phr.last ⟨r, m, [], [86], []⟩ t = X := ⟨_, rfl⟩
  rw [hX] at BH HF
  clear hX h BP BR WB BP1
  go_enter Tryz.func15, Tryz.ntmps15
  go_wp2_with fail
  go_region_with (go_at_call 33; refine (BH.out _ _ _ (L2.out _ WB1.drew)).mono ?_; rintro e w4 ⟨rfl, hb4⟩; have BR4 := BR1.drew.below hb4 BR1.drew.lt; have W4 := WB1.drew.trans (hb4.mono WB1.drew.size); obtain ⟨⟨vp0, vr0⟩, ⟨vp1, vr1⟩, ⟨vp2, vr2⟩, ⟨vp3, vr3⟩, ⟨vp4, vr4⟩, vB⟩ := Phr.blk5 BR4 (.int .i64 X.1.reg) (.int .i64 X.1.count) (.string (bs X.1.op)) (.string (bs X.1.key)) (.string (bs X.1.arg)); have GG := Phr.put5_gb w4 (w.heap.size + 1) (.int .i64 X.1.reg) (.int .i64 X.1.count) (.string (bs X.1.op)) (.string (bs X.1.key)) (.string (bs X.1.arg)); unfold Phr.put5 at GG vB; generalize hv1 : w4.setCell ⟨w.heap.size + 1, 0, none⟩ (.int .i64 X.1.reg) = v1 at *; generalize hv2 : v1.setCell ⟨w.heap.size + 1, 1, none⟩ (.int .i64 X.1.count) = v2 at *; generalize hv3 : v2.setCell ⟨w.heap.size + 1, 2, none⟩ (.string (bs X.1.op)) = v3 at *; generalize hv4 : v3.setCell ⟨w.heap.size + 1, 3, none⟩ (.string (bs X.1.key)) = v4 at *; generalize hv5 : v4.setCell ⟨w.heap.size + 1, 4, none⟩ (.string (bs X.1.arg)) = v5 at *; have BB := Lib.hid vB; have W5 := W4.grown GG W4.size (fun j e => by injection e with e; omega); clear hb4 BR4 W4)
  all_goals
    go_wp2_with fail
    refine ret_five1 rfl rfl BB.out rfl Tryz.underlying27 (by kernel_rfl) ?_
    exact ⟨_, HF, rfl, W5⟩
set_option maxHeartbeats 1000000 in
set_option maxRecDepth 100000 in
theorem ref26_marked_gend {A : Option Addr} {n : Nat} {r m : Int}  {w : World} (h : Ls w A n ([[103]]))  :
    Calls Tryz.prog 15 #[.agg #[.int .i64 r, .int .i64 m, .string (bs []), .string (bs []), .string (bs [])], .slice A 1 n] w (RefFin (Phr.run true ⟨r, m, [], [], []⟩ ([[103]])) w) := by
  have HF : Phr.fin (Phr.more) = Phr.run true ⟨r, m, [], [], []⟩ ([[103]]) := rfl
  generalize Phr.run true ⟨r, m, [], [], []⟩ ([[103]]) = FF at HF ⊢
  obtain ⟨W0, hW0⟩ : ∃ W0, (w.alloc (.cells #[.int .i64 r, .int .i64 m, .string (bs []), .string (bs []), .string (bs [])] 27)).alloc (.cells #[.int .i64 0, .int .i64 0, .string ⟨#[]⟩, .string ⟨#[]⟩, .string ⟨#[]⟩] 27) = W0 := ⟨_, rfl⟩
  obtain ⟨BP, BR, WB, SZ⟩ := Phr.start (⟨r, m, [], [], []⟩ : Cmd) hW0
  simp only at BP
  obtain ⟨ad, rfl⟩ := h.addr
  have X0 : Hid (∀ u, Below w.heap.size w u → u.cell? ad = some (.string (bs [103]))) := Lib.hid (fun u hu => h.at_ (j := 0) rfl hu)
  have x0 := X0.out W0 WB
  have q0 : ((bs [103]).toList == [100]) = false := by rw [bs_tl]; rfl
  have q1 : ((bs [103]).toList == [120]) = false := by rw [bs_tl]; rfl
  have q2 : ((bs [103]).toList == [99]) = false := by rw [bs_tl]; rfl
  have q3 : ((bs [103]).toList == [115]) = false := by rw [bs_tl]; rfl
  have q4 : ((bs [103]).toList == [121]) = false := by rw [bs_tl]; rfl
  have q5 : ((bs [103]).toList == [62]) = false := by rw [bs_tl]; rfl
  have q6 : ((bs [103]).toList == [60]) = false := by rw [bs_tl]; rfl
  have q7 : ((bs [103]).toList == [126]) = false := by rw [bs_tl]; rfl
  have q8 : ((bs [103]).toList == [117]) = false := by rw [bs_tl]; rfl
  have q9 : ((bs [103]).toList == [85]) = false := by rw [bs_tl]; rfl
  have q10 : ((bs [103]).toList == [74]) = false := by rw [bs_tl]; rfl
  have q11 : ((bs [103]).toList == [111]) = false := by rw [bs_tl]; rfl
  have q12 : ((bs [103]).toList == [118]) = false := by rw [bs_tl]; rfl
  have q13 : ((bs [103]).toList == [86]) = false := by rw [bs_tl]; rfl
  have q14 : ((bs [103]).toList == [103]) = true := by rw [bs_tl]; rfl
  obtain ⟨⟨vp0, vr0⟩, ⟨vp1, vr1⟩, ⟨vp2, vr2⟩, ⟨vp3, vr3⟩, ⟨vp4, vr4⟩, vB⟩ := Phr.blk5 BR (.int .i64 0) (.int .i64 0) (.string ⟨#[]⟩) (.string ⟨#[]⟩) (.string ⟨#[]⟩)
  have GG := Phr.put5_gb W0 (w.heap.size + 1) (.int .i64 0) (.int .i64 0) (.string ⟨#[]⟩) (.string ⟨#[]⟩) (.string ⟨#[]⟩)
  unfold Phr.put5 at GG vB
  generalize hv1 : W0.setCell ⟨w.heap.size + 1, 0, none⟩ (.int .i64 0) = v1 at *
  generalize hv2 : v1.setCell ⟨w.heap.size + 1, 1, none⟩ (.int .i64 0) = v2 at *
  generalize hv3 : v2.setCell ⟨w.heap.size + 1, 2, none⟩ (.string ⟨#[]⟩) = v3 at *
  generalize hv4 : v3.setCell ⟨w.heap.size + 1, 3, none⟩ (.string ⟨#[]⟩) = v4 at *
  generalize hv5 : v4.setCell ⟨w.heap.size + 1, 4, none⟩ (.string ⟨#[]⟩) = v5 at *
  have BB := Lib.hid vB
  have W5 := WB.grown GG WB.size (fun j e => by injection e with e; omega)
  clear h BP BR WB
  go_enter Tryz.func15, Tryz.ntmps15
  go_wp2_with fail
  refine ret_five1 rfl rfl BB.out rfl Tryz.underlying27 (by kernel_rfl) ?_
  exact ⟨_, HF, rfl, W5⟩
set_option maxHeartbeats 1000000 in
set_option maxRecDepth 100000 in
theorem ref26_marked_g0 {A : Option Addr} {n : Nat} {r m : Int} {t : List (List UInt8)} {w : World} (h : Ls w A n ([103] :: [117] :: t))  :
    Calls Tryz.prog 15 #[.agg #[.int .i64 r, .int .i64 m, .string (bs []), .string (bs []), .string (bs [])], .slice A (t.length + 1 + 1) n] w (RefFin (Phr.run true ⟨r, m, [], [], []⟩ ([103] :: [117] :: t)) w) := by
  have HF : Phr.fin (Phr.last ⟨r, m, [103, 117], [], []⟩ t) = Phr.run true ⟨r, m, [], [], []⟩ ([103] :: [117] :: t) := by show Phr.fin (Phr.goes ⟨r, m, [103, 117], [], []⟩ 0 (t)) = _; rw [Phr.fin_goes]; rfl
  generalize Phr.run true ⟨r, m, [], [], []⟩ ([103] :: [117] :: t) = FF at HF ⊢
  obtain ⟨W0, hW0⟩ : ∃ W0, (w.alloc (.cells #[.int .i64 r, .int .i64 m, .string (bs []), .string (bs []), .string (bs [])] 27)).alloc (.cells #[.int .i64 0, .int .i64 0, .string ⟨#[]⟩, .string ⟨#[]⟩, .string ⟨#[]⟩] 27) = W0 := ⟨_, rfl⟩
  obtain ⟨BP, BR, WB, SZ⟩ := Phr.start (⟨r, m, [], [], []⟩ : Cmd) hW0
  simp only at BP
  obtain ⟨ad, rfl⟩ := h.addr
  have X0 : Hid (∀ u, Below w.heap.size w u → u.cell? ad = some (.string (bs [103]))) := Lib.hid (fun u hu => h.at_ (j := 0) rfl hu)
  have x0 := X0.out W0 WB
  have X1 : Hid (∀ u, Below w.heap.size w u → u.cell? ⟨ad.block, ad.off + 1, none⟩ = some (.string (bs [117]))) := Lib.hid (fun u hu => h.at_ (j := 1) rfl hu)
  have x1 := X1.out W0 WB
  obtain ⟨T2, hT2⟩ : ∃ T2, ⟨#[103]⟩ ++ bs [117] = T2 := ⟨_, rfl⟩
  have hs103 : (⟨#[103]⟩ : ByteArray).size = 1 := rfl
  have hsx : (bs [117]).size = 1 := rfl
  have HT3 : Hid (T2 = bs [103, 117]) := Lib.hid (by rw [← hT2]; show bs [103] ++ _ = _; rw [bs_append]; rfl)
  have sc1 := BP.cell 2
  have sf1 := BP.frozen 2
  have BP1 := BP.set_ 2 (.string T2)
  have BR1 := BR.far (p := ⟨w.heap.size, 2, none⟩) (by show w.heap.size + 1 ≠ w.heap.size; omega) (.string T2)
  have WB1 := WB.setCell (p := ⟨w.heap.size, 2, none⟩) (Nat.le_refl _) (.string T2)
  generalize hs1 : W0.setCell ⟨w.heap.size, 2, none⟩ (.string T2) = W1 at *
  simp at sc1
  have q0 : ((bs [103]).toList == [100]) = false := by rw [bs_tl]; rfl
  have q1 : ((bs [103]).toList == [120]) = false := by rw [bs_tl]; rfl
  have q2 : ((bs [103]).toList == [99]) = false := by rw [bs_tl]; rfl
  have q3 : ((bs [103]).toList == [115]) = false := by rw [bs_tl]; rfl
  have q4 : ((bs [103]).toList == [121]) = false := by rw [bs_tl]; rfl
  have q5 : ((bs [103]).toList == [62]) = false := by rw [bs_tl]; rfl
  have q6 : ((bs [103]).toList == [60]) = false := by rw [bs_tl]; rfl
  have q7 : ((bs [103]).toList == [126]) = false := by rw [bs_tl]; rfl
  have q8 : ((bs [103]).toList == [117]) = false := by rw [bs_tl]; rfl
  have q9 : ((bs [103]).toList == [85]) = false := by rw [bs_tl]; rfl
  have q10 : ((bs [103]).toList == [74]) = false := by rw [bs_tl]; rfl
  have q11 : ((bs [103]).toList == [111]) = false := by rw [bs_tl]; rfl
  have q12 : ((bs [103]).toList == [118]) = false := by rw [bs_tl]; rfl
  have q13 : ((bs [103]).toList == [86]) = false := by rw [bs_tl]; rfl
  have q14 : ((bs [103]).toList == [103]) = true := by rw [bs_tl]; rfl
  have I := Lib.hid (fun (w : World) => ref26_in ([117]) ⟨#[117, 85, 126]⟩ (by decide) w)
  rw [show decide (([117]) ∈ (⟨#[117, 85, 126]⟩ : ByteArray).data.toList.map ([·])) = true from by decide] at I
  have pc0 := BP1.cell 0
  have pc1 := BP1.cell 1
  have pc2 := BP1.cell 2
  have pc3 := BP1.cell 3
  have pc4 := BP1.cell 4
  try simp at pc0 pc1 pc2 pc3 pc4
  obtain ⟨AA, hAA⟩ : ∃ AA, (if n = 2 then (some ad : Option Addr) else some ⟨ad.block, ad.off + 2, none⟩) = AA := ⟨_, rfl⟩
  have L2 : Hid (∀ u, Below w.heap.size w u → Ls u AA (n - 2) (t)) := Lib.hid (fun u hu => (h.below hu).cut hAA)
  have BH : Hid (∀ (u : World) (A : Option Addr) (n : Nat) (_ : Ls u A n (t)), Calls Tryz.prog 33 #[.agg #[.int .i64 r, .int .i64 m, .string T2, .string (bs []), .string (bs [])], .slice A (t).length n] u (RefIs (Phr.last ⟨r, m, [103, 117], [], []⟩ (t)) u)) := Lib.hid (by rw [HT3.out]; exact fun u A n _ => ref26_last ⟨r, m, [103, 117], [], []⟩ u)
  obtain ⟨X, hX⟩ : ∃ X, Phr.last ⟨r, m, [103, 117], [], []⟩ t = X := ⟨_, rfl⟩
  rw [hX] at BH HF
  clear hX h BP BR WB BP1
  go_enter Tryz.func15, Tryz.ntmps15
  go_wp2_with (first
    | (go_at_call 29; (with_reducible refine (I.out _).mono ?_); rintro e w1 ⟨rfl, rfl⟩))
  go_region_with (go_at_call 33; refine (BH.out _ _ _ (L2.out _ WB1.drew)).mono ?_; rintro e w4 ⟨rfl, hb4⟩; have BR4 := BR1.drew.below hb4 BR1.drew.lt; have W4 := WB1.drew.trans (hb4.mono WB1.drew.size); obtain ⟨⟨vp0, vr0⟩, ⟨vp1, vr1⟩, ⟨vp2, vr2⟩, ⟨vp3, vr3⟩, ⟨vp4, vr4⟩, vB⟩ := Phr.blk5 BR4 (.int .i64 X.1.reg) (.int .i64 X.1.count) (.string (bs X.1.op)) (.string (bs X.1.key)) (.string (bs X.1.arg)); have GG := Phr.put5_gb w4 (w.heap.size + 1) (.int .i64 X.1.reg) (.int .i64 X.1.count) (.string (bs X.1.op)) (.string (bs X.1.key)) (.string (bs X.1.arg)); unfold Phr.put5 at GG vB; generalize hv1 : w4.setCell ⟨w.heap.size + 1, 0, none⟩ (.int .i64 X.1.reg) = v1 at *; generalize hv2 : v1.setCell ⟨w.heap.size + 1, 1, none⟩ (.int .i64 X.1.count) = v2 at *; generalize hv3 : v2.setCell ⟨w.heap.size + 1, 2, none⟩ (.string (bs X.1.op)) = v3 at *; generalize hv4 : v3.setCell ⟨w.heap.size + 1, 3, none⟩ (.string (bs X.1.key)) = v4 at *; generalize hv5 : v4.setCell ⟨w.heap.size + 1, 4, none⟩ (.string (bs X.1.arg)) = v5 at *; have BB := Lib.hid vB; have W5 := W4.grown GG W4.size (fun j e => by injection e with e; omega); clear hb4 BR4 W4)
  all_goals
    go_wp2_with fail
    refine ret_five1 rfl rfl BB.out rfl Tryz.underlying27 (by kernel_rfl) ?_
    exact ⟨_, HF, rfl, W5⟩
set_option maxHeartbeats 1000000 in
set_option maxRecDepth 100000 in
theorem ref26_marked_g1 {A : Option Addr} {n : Nat} {r m : Int} {t : List (List UInt8)} {w : World} (h : Ls w A n ([103] :: [85] :: t))  :
    Calls Tryz.prog 15 #[.agg #[.int .i64 r, .int .i64 m, .string (bs []), .string (bs []), .string (bs [])], .slice A (t.length + 1 + 1) n] w (RefFin (Phr.run true ⟨r, m, [], [], []⟩ ([103] :: [85] :: t)) w) := by
  have HF : Phr.fin (Phr.last ⟨r, m, [103, 85], [], []⟩ t) = Phr.run true ⟨r, m, [], [], []⟩ ([103] :: [85] :: t) := by show Phr.fin (Phr.goes ⟨r, m, [103, 85], [], []⟩ 0 (t)) = _; rw [Phr.fin_goes]; rfl
  generalize Phr.run true ⟨r, m, [], [], []⟩ ([103] :: [85] :: t) = FF at HF ⊢
  obtain ⟨W0, hW0⟩ : ∃ W0, (w.alloc (.cells #[.int .i64 r, .int .i64 m, .string (bs []), .string (bs []), .string (bs [])] 27)).alloc (.cells #[.int .i64 0, .int .i64 0, .string ⟨#[]⟩, .string ⟨#[]⟩, .string ⟨#[]⟩] 27) = W0 := ⟨_, rfl⟩
  obtain ⟨BP, BR, WB, SZ⟩ := Phr.start (⟨r, m, [], [], []⟩ : Cmd) hW0
  simp only at BP
  obtain ⟨ad, rfl⟩ := h.addr
  have X0 : Hid (∀ u, Below w.heap.size w u → u.cell? ad = some (.string (bs [103]))) := Lib.hid (fun u hu => h.at_ (j := 0) rfl hu)
  have x0 := X0.out W0 WB
  have X1 : Hid (∀ u, Below w.heap.size w u → u.cell? ⟨ad.block, ad.off + 1, none⟩ = some (.string (bs [85]))) := Lib.hid (fun u hu => h.at_ (j := 1) rfl hu)
  have x1 := X1.out W0 WB
  obtain ⟨T2, hT2⟩ : ∃ T2, ⟨#[103]⟩ ++ bs [85] = T2 := ⟨_, rfl⟩
  have hs103 : (⟨#[103]⟩ : ByteArray).size = 1 := rfl
  have hsx : (bs [85]).size = 1 := rfl
  have HT3 : Hid (T2 = bs [103, 85]) := Lib.hid (by rw [← hT2]; show bs [103] ++ _ = _; rw [bs_append]; rfl)
  have sc1 := BP.cell 2
  have sf1 := BP.frozen 2
  have BP1 := BP.set_ 2 (.string T2)
  have BR1 := BR.far (p := ⟨w.heap.size, 2, none⟩) (by show w.heap.size + 1 ≠ w.heap.size; omega) (.string T2)
  have WB1 := WB.setCell (p := ⟨w.heap.size, 2, none⟩) (Nat.le_refl _) (.string T2)
  generalize hs1 : W0.setCell ⟨w.heap.size, 2, none⟩ (.string T2) = W1 at *
  simp at sc1
  have q0 : ((bs [103]).toList == [100]) = false := by rw [bs_tl]; rfl
  have q1 : ((bs [103]).toList == [120]) = false := by rw [bs_tl]; rfl
  have q2 : ((bs [103]).toList == [99]) = false := by rw [bs_tl]; rfl
  have q3 : ((bs [103]).toList == [115]) = false := by rw [bs_tl]; rfl
  have q4 : ((bs [103]).toList == [121]) = false := by rw [bs_tl]; rfl
  have q5 : ((bs [103]).toList == [62]) = false := by rw [bs_tl]; rfl
  have q6 : ((bs [103]).toList == [60]) = false := by rw [bs_tl]; rfl
  have q7 : ((bs [103]).toList == [126]) = false := by rw [bs_tl]; rfl
  have q8 : ((bs [103]).toList == [117]) = false := by rw [bs_tl]; rfl
  have q9 : ((bs [103]).toList == [85]) = false := by rw [bs_tl]; rfl
  have q10 : ((bs [103]).toList == [74]) = false := by rw [bs_tl]; rfl
  have q11 : ((bs [103]).toList == [111]) = false := by rw [bs_tl]; rfl
  have q12 : ((bs [103]).toList == [118]) = false := by rw [bs_tl]; rfl
  have q13 : ((bs [103]).toList == [86]) = false := by rw [bs_tl]; rfl
  have q14 : ((bs [103]).toList == [103]) = true := by rw [bs_tl]; rfl
  have I := Lib.hid (fun (w : World) => ref26_in ([85]) ⟨#[117, 85, 126]⟩ (by decide) w)
  rw [show decide (([85]) ∈ (⟨#[117, 85, 126]⟩ : ByteArray).data.toList.map ([·])) = true from by decide] at I
  have pc0 := BP1.cell 0
  have pc1 := BP1.cell 1
  have pc2 := BP1.cell 2
  have pc3 := BP1.cell 3
  have pc4 := BP1.cell 4
  try simp at pc0 pc1 pc2 pc3 pc4
  obtain ⟨AA, hAA⟩ : ∃ AA, (if n = 2 then (some ad : Option Addr) else some ⟨ad.block, ad.off + 2, none⟩) = AA := ⟨_, rfl⟩
  have L2 : Hid (∀ u, Below w.heap.size w u → Ls u AA (n - 2) (t)) := Lib.hid (fun u hu => (h.below hu).cut hAA)
  have BH : Hid (∀ (u : World) (A : Option Addr) (n : Nat) (_ : Ls u A n (t)), Calls Tryz.prog 33 #[.agg #[.int .i64 r, .int .i64 m, .string T2, .string (bs []), .string (bs [])], .slice A (t).length n] u (RefIs (Phr.last ⟨r, m, [103, 85], [], []⟩ (t)) u)) := Lib.hid (by rw [HT3.out]; exact fun u A n _ => ref26_last ⟨r, m, [103, 85], [], []⟩ u)
  obtain ⟨X, hX⟩ : ∃ X, Phr.last ⟨r, m, [103, 85], [], []⟩ t = X := ⟨_, rfl⟩
  rw [hX] at BH HF
  clear hX h BP BR WB BP1
  go_enter Tryz.func15, Tryz.ntmps15
  go_wp2_with (first
    | (go_at_call 29; (with_reducible refine (I.out _).mono ?_); rintro e w1 ⟨rfl, rfl⟩))
  go_region_with (go_at_call 33; refine (BH.out _ _ _ (L2.out _ WB1.drew)).mono ?_; rintro e w4 ⟨rfl, hb4⟩; have BR4 := BR1.drew.below hb4 BR1.drew.lt; have W4 := WB1.drew.trans (hb4.mono WB1.drew.size); obtain ⟨⟨vp0, vr0⟩, ⟨vp1, vr1⟩, ⟨vp2, vr2⟩, ⟨vp3, vr3⟩, ⟨vp4, vr4⟩, vB⟩ := Phr.blk5 BR4 (.int .i64 X.1.reg) (.int .i64 X.1.count) (.string (bs X.1.op)) (.string (bs X.1.key)) (.string (bs X.1.arg)); have GG := Phr.put5_gb w4 (w.heap.size + 1) (.int .i64 X.1.reg) (.int .i64 X.1.count) (.string (bs X.1.op)) (.string (bs X.1.key)) (.string (bs X.1.arg)); unfold Phr.put5 at GG vB; generalize hv1 : w4.setCell ⟨w.heap.size + 1, 0, none⟩ (.int .i64 X.1.reg) = v1 at *; generalize hv2 : v1.setCell ⟨w.heap.size + 1, 1, none⟩ (.int .i64 X.1.count) = v2 at *; generalize hv3 : v2.setCell ⟨w.heap.size + 1, 2, none⟩ (.string (bs X.1.op)) = v3 at *; generalize hv4 : v3.setCell ⟨w.heap.size + 1, 3, none⟩ (.string (bs X.1.key)) = v4 at *; generalize hv5 : v4.setCell ⟨w.heap.size + 1, 4, none⟩ (.string (bs X.1.arg)) = v5 at *; have BB := Lib.hid vB; have W5 := W4.grown GG W4.size (fun j e => by injection e with e; omega); clear hb4 BR4 W4)
  all_goals
    go_wp2_with fail
    refine ret_five1 rfl rfl BB.out rfl Tryz.underlying27 (by kernel_rfl) ?_
    exact ⟨_, HF, rfl, W5⟩
set_option maxHeartbeats 1000000 in
set_option maxRecDepth 100000 in
theorem ref26_marked_g2 {A : Option Addr} {n : Nat} {r m : Int} {t : List (List UInt8)} {w : World} (h : Ls w A n ([103] :: [126] :: t))  :
    Calls Tryz.prog 15 #[.agg #[.int .i64 r, .int .i64 m, .string (bs []), .string (bs []), .string (bs [])], .slice A (t.length + 1 + 1) n] w (RefFin (Phr.run true ⟨r, m, [], [], []⟩ ([103] :: [126] :: t)) w) := by
  have HF : Phr.fin (Phr.last ⟨r, m, [103, 126], [], []⟩ t) = Phr.run true ⟨r, m, [], [], []⟩ ([103] :: [126] :: t) := by show Phr.fin (Phr.goes ⟨r, m, [103, 126], [], []⟩ 0 (t)) = _; rw [Phr.fin_goes]; rfl
  generalize Phr.run true ⟨r, m, [], [], []⟩ ([103] :: [126] :: t) = FF at HF ⊢
  obtain ⟨W0, hW0⟩ : ∃ W0, (w.alloc (.cells #[.int .i64 r, .int .i64 m, .string (bs []), .string (bs []), .string (bs [])] 27)).alloc (.cells #[.int .i64 0, .int .i64 0, .string ⟨#[]⟩, .string ⟨#[]⟩, .string ⟨#[]⟩] 27) = W0 := ⟨_, rfl⟩
  obtain ⟨BP, BR, WB, SZ⟩ := Phr.start (⟨r, m, [], [], []⟩ : Cmd) hW0
  simp only at BP
  obtain ⟨ad, rfl⟩ := h.addr
  have X0 : Hid (∀ u, Below w.heap.size w u → u.cell? ad = some (.string (bs [103]))) := Lib.hid (fun u hu => h.at_ (j := 0) rfl hu)
  have x0 := X0.out W0 WB
  have X1 : Hid (∀ u, Below w.heap.size w u → u.cell? ⟨ad.block, ad.off + 1, none⟩ = some (.string (bs [126]))) := Lib.hid (fun u hu => h.at_ (j := 1) rfl hu)
  have x1 := X1.out W0 WB
  obtain ⟨T2, hT2⟩ : ∃ T2, ⟨#[103]⟩ ++ bs [126] = T2 := ⟨_, rfl⟩
  have hs103 : (⟨#[103]⟩ : ByteArray).size = 1 := rfl
  have hsx : (bs [126]).size = 1 := rfl
  have HT3 : Hid (T2 = bs [103, 126]) := Lib.hid (by rw [← hT2]; show bs [103] ++ _ = _; rw [bs_append]; rfl)
  have sc1 := BP.cell 2
  have sf1 := BP.frozen 2
  have BP1 := BP.set_ 2 (.string T2)
  have BR1 := BR.far (p := ⟨w.heap.size, 2, none⟩) (by show w.heap.size + 1 ≠ w.heap.size; omega) (.string T2)
  have WB1 := WB.setCell (p := ⟨w.heap.size, 2, none⟩) (Nat.le_refl _) (.string T2)
  generalize hs1 : W0.setCell ⟨w.heap.size, 2, none⟩ (.string T2) = W1 at *
  simp at sc1
  have q0 : ((bs [103]).toList == [100]) = false := by rw [bs_tl]; rfl
  have q1 : ((bs [103]).toList == [120]) = false := by rw [bs_tl]; rfl
  have q2 : ((bs [103]).toList == [99]) = false := by rw [bs_tl]; rfl
  have q3 : ((bs [103]).toList == [115]) = false := by rw [bs_tl]; rfl
  have q4 : ((bs [103]).toList == [121]) = false := by rw [bs_tl]; rfl
  have q5 : ((bs [103]).toList == [62]) = false := by rw [bs_tl]; rfl
  have q6 : ((bs [103]).toList == [60]) = false := by rw [bs_tl]; rfl
  have q7 : ((bs [103]).toList == [126]) = false := by rw [bs_tl]; rfl
  have q8 : ((bs [103]).toList == [117]) = false := by rw [bs_tl]; rfl
  have q9 : ((bs [103]).toList == [85]) = false := by rw [bs_tl]; rfl
  have q10 : ((bs [103]).toList == [74]) = false := by rw [bs_tl]; rfl
  have q11 : ((bs [103]).toList == [111]) = false := by rw [bs_tl]; rfl
  have q12 : ((bs [103]).toList == [118]) = false := by rw [bs_tl]; rfl
  have q13 : ((bs [103]).toList == [86]) = false := by rw [bs_tl]; rfl
  have q14 : ((bs [103]).toList == [103]) = true := by rw [bs_tl]; rfl
  have I := Lib.hid (fun (w : World) => ref26_in ([126]) ⟨#[117, 85, 126]⟩ (by decide) w)
  rw [show decide (([126]) ∈ (⟨#[117, 85, 126]⟩ : ByteArray).data.toList.map ([·])) = true from by decide] at I
  have pc0 := BP1.cell 0
  have pc1 := BP1.cell 1
  have pc2 := BP1.cell 2
  have pc3 := BP1.cell 3
  have pc4 := BP1.cell 4
  try simp at pc0 pc1 pc2 pc3 pc4
  obtain ⟨AA, hAA⟩ : ∃ AA, (if n = 2 then (some ad : Option Addr) else some ⟨ad.block, ad.off + 2, none⟩) = AA := ⟨_, rfl⟩
  have L2 : Hid (∀ u, Below w.heap.size w u → Ls u AA (n - 2) (t)) := Lib.hid (fun u hu => (h.below hu).cut hAA)
  have BH : Hid (∀ (u : World) (A : Option Addr) (n : Nat) (_ : Ls u A n (t)), Calls Tryz.prog 33 #[.agg #[.int .i64 r, .int .i64 m, .string T2, .string (bs []), .string (bs [])], .slice A (t).length n] u (RefIs (Phr.last ⟨r, m, [103, 126], [], []⟩ (t)) u)) := Lib.hid (by rw [HT3.out]; exact fun u A n _ => ref26_last ⟨r, m, [103, 126], [], []⟩ u)
  obtain ⟨X, hX⟩ : ∃ X, Phr.last ⟨r, m, [103, 126], [], []⟩ t = X := ⟨_, rfl⟩
  rw [hX] at BH HF
  clear hX h BP BR WB BP1
  go_enter Tryz.func15, Tryz.ntmps15
  go_wp2_with (first
    | (go_at_call 29; (with_reducible refine (I.out _).mono ?_); rintro e w1 ⟨rfl, rfl⟩))
  go_region_with (go_at_call 33; refine (BH.out _ _ _ (L2.out _ WB1.drew)).mono ?_; rintro e w4 ⟨rfl, hb4⟩; have BR4 := BR1.drew.below hb4 BR1.drew.lt; have W4 := WB1.drew.trans (hb4.mono WB1.drew.size); obtain ⟨⟨vp0, vr0⟩, ⟨vp1, vr1⟩, ⟨vp2, vr2⟩, ⟨vp3, vr3⟩, ⟨vp4, vr4⟩, vB⟩ := Phr.blk5 BR4 (.int .i64 X.1.reg) (.int .i64 X.1.count) (.string (bs X.1.op)) (.string (bs X.1.key)) (.string (bs X.1.arg)); have GG := Phr.put5_gb w4 (w.heap.size + 1) (.int .i64 X.1.reg) (.int .i64 X.1.count) (.string (bs X.1.op)) (.string (bs X.1.key)) (.string (bs X.1.arg)); unfold Phr.put5 at GG vB; generalize hv1 : w4.setCell ⟨w.heap.size + 1, 0, none⟩ (.int .i64 X.1.reg) = v1 at *; generalize hv2 : v1.setCell ⟨w.heap.size + 1, 1, none⟩ (.int .i64 X.1.count) = v2 at *; generalize hv3 : v2.setCell ⟨w.heap.size + 1, 2, none⟩ (.string (bs X.1.op)) = v3 at *; generalize hv4 : v3.setCell ⟨w.heap.size + 1, 3, none⟩ (.string (bs X.1.key)) = v4 at *; generalize hv5 : v4.setCell ⟨w.heap.size + 1, 4, none⟩ (.string (bs X.1.arg)) = v5 at *; have BB := Lib.hid vB; have W5 := W4.grown GG W4.size (fun j e => by injection e with e; omega); clear hb4 BR4 W4)
  all_goals
    go_wp2_with fail
    refine ret_five1 rfl rfl BB.out rfl Tryz.underlying27 (by kernel_rfl) ?_
    exact ⟨_, HF, rfl, W5⟩
set_option maxHeartbeats 1000000 in
set_option maxRecDepth 100000 in
theorem ref26_marked_gx {A : Option Addr} {n : Nat} {r m : Int} {x : List UInt8} {t : List (List UInt8)} {w : World} (h : Ls w A n ([103] :: x :: t)) (hx : x ∉ ([117, 85, 126] : List UInt8).map ([·])) :
    Calls Tryz.prog 15 #[.agg #[.int .i64 r, .int .i64 m, .string (bs []), .string (bs []), .string (bs [])], .slice A (t.length + 1 + 1) n] w (RefFin (Phr.run true ⟨r, m, [], [], []⟩ ([103] :: x :: t)) w) := by
  have HF : Phr.fin (Phr.rmot ⟨r, m, [], [], []⟩ true [103] (x :: t)) = Phr.run true ⟨r, m, [], [], []⟩ ([103] :: x :: t) := Phr.marked_motion (by decide) (fun y hy => h.ones y (List.mem_cons_of_mem _ hy)) (.inr (by simp)) (by decide) (fun y hy => .inl (by simp at hy; subst hy; exact hx))
  generalize Phr.run true ⟨r, m, [], [], []⟩ ([103] :: x :: t) = FF at HF ⊢
  obtain ⟨W0, hW0⟩ : ∃ W0, (w.alloc (.cells #[.int .i64 r, .int .i64 m, .string (bs []), .string (bs []), .string (bs [])] 27)).alloc (.cells #[.int .i64 0, .int .i64 0, .string ⟨#[]⟩, .string ⟨#[]⟩, .string ⟨#[]⟩] 27) = W0 := ⟨_, rfl⟩
  obtain ⟨BP, BR, WB, SZ⟩ := Phr.start (⟨r, m, [], [], []⟩ : Cmd) hW0
  simp only at BP
  obtain ⟨ad, rfl⟩ := h.addr
  have X0 : Hid (∀ u, Below w.heap.size w u → u.cell? ad = some (.string (bs [103]))) := Lib.hid (fun u hu => h.at_ (j := 0) rfl hu)
  have x0 := X0.out W0 WB
  have X1 : Hid (∀ u, Below w.heap.size w u → u.cell? ⟨ad.block, ad.off + 1, none⟩ = some (.string (bs x))) := Lib.hid (fun u hu => h.at_ (j := 1) rfl hu)
  have x1 := X1.out W0 WB
  have q0 : ((bs [103]).toList == [100]) = false := by rw [bs_tl]; rfl
  have q1 : ((bs [103]).toList == [120]) = false := by rw [bs_tl]; rfl
  have q2 : ((bs [103]).toList == [99]) = false := by rw [bs_tl]; rfl
  have q3 : ((bs [103]).toList == [115]) = false := by rw [bs_tl]; rfl
  have q4 : ((bs [103]).toList == [121]) = false := by rw [bs_tl]; rfl
  have q5 : ((bs [103]).toList == [62]) = false := by rw [bs_tl]; rfl
  have q6 : ((bs [103]).toList == [60]) = false := by rw [bs_tl]; rfl
  have q7 : ((bs [103]).toList == [126]) = false := by rw [bs_tl]; rfl
  have q8 : ((bs [103]).toList == [117]) = false := by rw [bs_tl]; rfl
  have q9 : ((bs [103]).toList == [85]) = false := by rw [bs_tl]; rfl
  have q10 : ((bs [103]).toList == [74]) = false := by rw [bs_tl]; rfl
  have q11 : ((bs [103]).toList == [111]) = false := by rw [bs_tl]; rfl
  have q12 : ((bs [103]).toList == [118]) = false := by rw [bs_tl]; rfl
  have q13 : ((bs [103]).toList == [86]) = false := by rw [bs_tl]; rfl
  have q14 : ((bs [103]).toList == [103]) = true := by rw [bs_tl]; rfl
  have I := Lib.hid (fun (w : World) => ref26_in (x) ⟨#[117, 85, 126]⟩ (by decide) w)
  rw [show decide ((x) ∈ (⟨#[117, 85, 126]⟩ : ByteArray).data.toList.map ([·])) = false from decide_eq_false hx] at I
  have pc0 := BP.cell 0
  have pc1 := BP.cell 1
  have pc2 := BP.cell 2
  have pc3 := BP.cell 3
  have pc4 := BP.cell 4
  try simp at pc0 pc1 pc2 pc3 pc4
  have BH := Lib.hid (fun (u : World) (hu : Below w.heap.size w u) => show Calls Tryz.prog 35 #[.agg #[.int .i64 r, .int .i64 m, .string (bs []), .string (bs []), .string (bs [])], .slice (some ad) (t.length + 1 + 1) n, .bool true] u (RefIs (Phr.rmot ⟨r, m, [], [], []⟩ true [103] (x :: t)) u) from ref26_motion ⟨r, m, [], [], []⟩ true (h.below hu))
  obtain ⟨X, hX⟩ : ∃ X, Phr.rmot ⟨r, m, [], [], []⟩ true [103] (x :: t) = X := ⟨_, rfl⟩
  rw [hX] at BH HF
  have BH1 := Lib.hid (BH.out W0 WB)
  clear hX h BP
  go_enter Tryz.func15, Tryz.ntmps15
  go_wp2_with (first
    | (go_at_call 29; (with_reducible refine (I.out _).mono ?_); rintro e w1 ⟨rfl, rfl⟩)
    | (go_at_call 35; refine BH1.out.mono ?_; rintro e w4 ⟨rfl, hb4⟩; have BR4 := BR.below hb4 BR.lt; have W4 := WB.trans (hb4.mono WB.size); obtain ⟨⟨vp0, vr0⟩, ⟨vp1, vr1⟩, ⟨vp2, vr2⟩, ⟨vp3, vr3⟩, ⟨vp4, vr4⟩, vB⟩ := Phr.blk5 BR4 (.int .i64 X.1.reg) (.int .i64 X.1.count) (.string (bs X.1.op)) (.string (bs X.1.key)) (.string (bs X.1.arg)); have GG := Phr.put5_gb w4 (w.heap.size + 1) (.int .i64 X.1.reg) (.int .i64 X.1.count) (.string (bs X.1.op)) (.string (bs X.1.key)) (.string (bs X.1.arg)); unfold Phr.put5 at GG vB; generalize hv1 : w4.setCell ⟨w.heap.size + 1, 0, none⟩ (.int .i64 X.1.reg) = v1 at *; generalize hv2 : v1.setCell ⟨w.heap.size + 1, 1, none⟩ (.int .i64 X.1.count) = v2 at *; generalize hv3 : v2.setCell ⟨w.heap.size + 1, 2, none⟩ (.string (bs X.1.op)) = v3 at *; generalize hv4 : v3.setCell ⟨w.heap.size + 1, 3, none⟩ (.string (bs X.1.key)) = v4 at *; generalize hv5 : v4.setCell ⟨w.heap.size + 1, 4, none⟩ (.string (bs X.1.arg)) = v5 at *; have BB := Lib.hid vB; have W5 := W4.grown GG W4.size (fun j e => by injection e with e; omega); clear BH1 hb4 BR4 W4))
  refine ret_five1 rfl rfl BB.out rfl Tryz.underlying27 (by kernel_rfl) ?_
  exact ⟨_, HF, rfl, W5⟩
set_option maxHeartbeats 1000000 in
set_option maxRecDepth 100000 in
theorem ref26_marked_rest {A : Option Addr} {n : Nat} {r m : Int} {k : List UInt8} {t : List (List UInt8)} {w : World} (h : Ls w A n (k :: t)) (ho : Utf.one k = true) (hg : k ≠ [103]) (hk : k ∉ Phr.keysM) :
    Calls Tryz.prog 15 #[.agg #[.int .i64 r, .int .i64 m, .string (bs []), .string (bs []), .string (bs [])], .slice A (t.length + 1) n] w (RefFin (Phr.run true ⟨r, m, [], [], []⟩ (k :: t)) w) := by
  have HF : Phr.fin (Phr.rmot ⟨r, m, [], [], []⟩ true k t) = Phr.run true ⟨r, m, [], [], []⟩ (k :: t) := Phr.marked_motion ho (fun y hy => h.ones y (List.mem_cons_of_mem _ hy)) (.inl hg) hk (fun y hy => .inr hg)
  generalize Phr.run true ⟨r, m, [], [], []⟩ (k :: t) = FF at HF ⊢
  obtain ⟨W0, hW0⟩ : ∃ W0, (w.alloc (.cells #[.int .i64 r, .int .i64 m, .string (bs []), .string (bs []), .string (bs [])] 27)).alloc (.cells #[.int .i64 0, .int .i64 0, .string ⟨#[]⟩, .string ⟨#[]⟩, .string ⟨#[]⟩] 27) = W0 := ⟨_, rfl⟩
  obtain ⟨BP, BR, WB, SZ⟩ := Phr.start (⟨r, m, [], [], []⟩ : Cmd) hW0
  simp only at BP
  obtain ⟨ad, rfl⟩ := h.addr
  have X0 : Hid (∀ u, Below w.heap.size w u → u.cell? ad = some (.string (bs k))) := Lib.hid (fun u hu => h.at_ (j := 0) rfl hu)
  have x0 := X0.out W0 WB
  have q0 : ((bs k).toList == [100]) = false := by rw [bs_tl, beq_eq_false_iff_ne]; exact (fun e => hk (by rw [e]; decide))
  have q1 : ((bs k).toList == [120]) = false := by rw [bs_tl, beq_eq_false_iff_ne]; exact (fun e => hk (by rw [e]; decide))
  have q2 : ((bs k).toList == [99]) = false := by rw [bs_tl, beq_eq_false_iff_ne]; exact (fun e => hk (by rw [e]; decide))
  have q3 : ((bs k).toList == [115]) = false := by rw [bs_tl, beq_eq_false_iff_ne]; exact (fun e => hk (by rw [e]; decide))
  have q4 : ((bs k).toList == [121]) = false := by rw [bs_tl, beq_eq_false_iff_ne]; exact (fun e => hk (by rw [e]; decide))
  have q5 : ((bs k).toList == [62]) = false := by rw [bs_tl, beq_eq_false_iff_ne]; exact (fun e => hk (by rw [e]; decide))
  have q6 : ((bs k).toList == [60]) = false := by rw [bs_tl, beq_eq_false_iff_ne]; exact (fun e => hk (by rw [e]; decide))
  have q7 : ((bs k).toList == [126]) = false := by rw [bs_tl, beq_eq_false_iff_ne]; exact (fun e => hk (by rw [e]; decide))
  have q8 : ((bs k).toList == [117]) = false := by rw [bs_tl, beq_eq_false_iff_ne]; exact (fun e => hk (by rw [e]; decide))
  have q9 : ((bs k).toList == [85]) = false := by rw [bs_tl, beq_eq_false_iff_ne]; exact (fun e => hk (by rw [e]; decide))
  have q10 : ((bs k).toList == [74]) = false := by rw [bs_tl, beq_eq_false_iff_ne]; exact (fun e => hk (by rw [e]; decide))
  have q11 : ((bs k).toList == [111]) = false := by rw [bs_tl, beq_eq_false_iff_ne]; exact (fun e => hk (by rw [e]; decide))
  have q12 : ((bs k).toList == [118]) = false := by rw [bs_tl, beq_eq_false_iff_ne]; exact (fun e => hk (by rw [e]; decide))
  have q13 : ((bs k).toList == [86]) = false := by rw [bs_tl, beq_eq_false_iff_ne]; exact (fun e => hk (by rw [e]; decide))
  have q14 : ((bs k).toList == [103]) = false := by rw [bs_tl, beq_eq_false_iff_ne]; exact hg
  have pc0 := BP.cell 0
  have pc1 := BP.cell 1
  have pc2 := BP.cell 2
  have pc3 := BP.cell 3
  have pc4 := BP.cell 4
  try simp at pc0 pc1 pc2 pc3 pc4
  have BH := Lib.hid (fun (u : World) (hu : Below w.heap.size w u) => show Calls Tryz.prog 35 #[.agg #[.int .i64 r, .int .i64 m, .string (bs []), .string (bs []), .string (bs [])], .slice (some ad) (t.length + 1) n, .bool true] u (RefIs (Phr.rmot ⟨r, m, [], [], []⟩ true k t) u) from ref26_motion ⟨r, m, [], [], []⟩ true (h.below hu))
  obtain ⟨X, hX⟩ : ∃ X, Phr.rmot ⟨r, m, [], [], []⟩ true k t = X := ⟨_, rfl⟩
  rw [hX] at BH HF
  have BH1 := Lib.hid (BH.out W0 WB)
  clear hX h BP
  go_enter Tryz.func15, Tryz.ntmps15
  go_wp2_with (first
    | (go_at_call 35; refine BH1.out.mono ?_; rintro e w4 ⟨rfl, hb4⟩; have BR4 := BR.below hb4 BR.lt; have W4 := WB.trans (hb4.mono WB.size); obtain ⟨⟨vp0, vr0⟩, ⟨vp1, vr1⟩, ⟨vp2, vr2⟩, ⟨vp3, vr3⟩, ⟨vp4, vr4⟩, vB⟩ := Phr.blk5 BR4 (.int .i64 X.1.reg) (.int .i64 X.1.count) (.string (bs X.1.op)) (.string (bs X.1.key)) (.string (bs X.1.arg)); have GG := Phr.put5_gb w4 (w.heap.size + 1) (.int .i64 X.1.reg) (.int .i64 X.1.count) (.string (bs X.1.op)) (.string (bs X.1.key)) (.string (bs X.1.arg)); unfold Phr.put5 at GG vB; generalize hv1 : w4.setCell ⟨w.heap.size + 1, 0, none⟩ (.int .i64 X.1.reg) = v1 at *; generalize hv2 : v1.setCell ⟨w.heap.size + 1, 1, none⟩ (.int .i64 X.1.count) = v2 at *; generalize hv3 : v2.setCell ⟨w.heap.size + 1, 2, none⟩ (.string (bs X.1.op)) = v3 at *; generalize hv4 : v3.setCell ⟨w.heap.size + 1, 3, none⟩ (.string (bs X.1.key)) = v4 at *; generalize hv5 : v4.setCell ⟨w.heap.size + 1, 4, none⟩ (.string (bs X.1.arg)) = v5 at *; have BB := Lib.hid vB; have W5 := W4.grown GG W4.size (fun j e => by injection e with e; omega); clear BH1 hb4 BR4 W4))
  refine ret_five1 rfl rfl BB.out rfl Tryz.underlying27 (by kernel_rfl) ?_
  exact ⟨_, HF, rfl, W5⟩
theorem ref26_marked {A : Option Addr} {n : Nat} {r m : Int} {k : List UInt8} {t : List (List UInt8)} {w : World} (h : Ls w A n (k :: t)) :
    Calls Tryz.prog 15 #[.agg #[.int .i64 r, .int .i64 m, .string (bs []), .string (bs []), .string (bs [])], .slice A (t.length + 1) n] w (RefFin (Phr.run true ⟨r, m, [], [], []⟩ (k :: t)) w) := by
  have ho := h.ones k (by simp)
  by_cases hg : k = [103]
  · subst hg
    match t, h with
    | [], h => exact ref26_marked_gend h
    | x :: t, h =>
      by_cases hx0 : x = [117]
      · subst hx0; exact ref26_marked_g0 h
      by_cases hx1 : x = [85]
      · subst hx1; exact ref26_marked_g1 h
      by_cases hx2 : x = [126]
      · subst hx2; exact ref26_marked_g2 h
      exact ref26_marked_gx h (by simp [hx0, hx1, hx2])
  by_cases h0 : k = [100]
  · subst h0; exact ref26_marked_k0 h
  by_cases h1 : k = [120]
  · subst h1; exact ref26_marked_k1 h
  by_cases h2 : k = [99]
  · subst h2; exact ref26_marked_k2 h
  by_cases h3 : k = [115]
  · subst h3; exact ref26_marked_k3 h
  by_cases h4 : k = [121]
  · subst h4; exact ref26_marked_k4 h
  by_cases h5 : k = [62]
  · subst h5; exact ref26_marked_k5 h
  by_cases h6 : k = [60]
  · subst h6; exact ref26_marked_k6 h
  by_cases h7 : k = [126]
  · subst h7; exact ref26_marked_k7 h
  by_cases h8 : k = [117]
  · subst h8; exact ref26_marked_k8 h
  by_cases h9 : k = [85]
  · subst h9; exact ref26_marked_k9 h
  by_cases h10 : k = [74]
  · subst h10; exact ref26_marked_k10 h
  by_cases h11 : k = [111]
  · subst h11; exact ref26_marked_k11 h
  by_cases h12 : k = [118]
  · subst h12; exact ref26_marked_k12 h
  by_cases h13 : k = [86]
  · subst h13; exact ref26_marked_k13 h
  have hk : k ∉ Phr.keysM := by simp [Phr.keysM, h0, h1, h2, h3, h4, h5, h6, h7, h8, h9, h10, h11, h12, h13]
  exact ref26_marked_rest h ho hg hk
end Go.Proofs.YtchpkeelnfmlbaaGreat
