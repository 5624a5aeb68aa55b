/-
  The document's commands: motions.
-/
import Derived.Test.YtchpkeelnfmlbaaGreatJR
import Derived.Test.YtchpkeelnfmlbaaGreatJP
import Derived.Deep.RegionWith
namespace Go.Proofs.YtchpkeelnfmlbaaGreat
open Go.RowKit
open Phr (Cmd Ans Ls RefIs)
namespace Phr
/-- The document's motion, of a key and what is behind it; whether things are told, too. -/
def rmot (c : Cmd) (th : Bool) (k : List UInt8) (t : List (List UInt8)) : Ans :=
  if th = true ∧ (k = [105] ∨ k = [97]) then behind {c with key := k} 1 t
  else if k ∈ finds then behind {c with key := k} 2 t
  else if k ∈ marks then behind {c with key := k} 3 t
  else if k = [103] ∧ t.head? = some [103] then last {c with key := [103, 103]} t.tail
  else if k ≠ [103] ∧ (mot k).isSome = true then last {c with key := k} t
  else (zero, 0)
def keys28 : List UInt8 := [104, 108, 48, 94, 36, 124, 106, 107, 71, 119, 98, 101, 87, 66, 69, 123, 125, 37, 110, 78, 59, 44, 102, 70, 116, 84, 39, 96]
theorem mot_keys {k : List UInt8} (ho : Utf.one k = true) : decide (k ∈ keys28.map ([·])) = (mot k).isSome := by
  rw [Bool.eq_iff_iff, decide_eq_true_iff, mot_some]
  constructor
  · intro h
    simp only [keys28, List.map_cons, List.map_nil, List.mem_cons, List.not_mem_nil, or_false] at h
    rcases h with rfl | rfl | rfl | rfl | rfl | rfl | rfl | rfl | rfl | rfl | rfl | rfl | rfl | rfl | rfl | rfl | rfl | rfl | rfl | rfl | rfl | rfl | rfl | rfl | rfl | rfl | rfl | rfl <;> decide
  · intro h
    simp only [finds, marks, bare, List.mem_cons, List.not_mem_nil, or_false] at h
    rcases h with (rfl | rfl | rfl | rfl) | (rfl | rfl) | h <;> try decide
    rcases h with rfl | rfl | rfl | rfl | rfl | rfl | rfl | rfl | rfl | rfl | rfl | rfl | rfl | rfl | rfl | rfl | rfl | rfl | rfl | rfl | rfl | rfl | rfl <;> first | decide | exact absurd ho (by decide)
theorem Ls.cut {u : World} {ad : Addr} {n i : Nat} {ks : List (List UInt8)} (h : Ls u (some ad) n ks) {AA : Option Addr} (hA : (if n = i + 1 then (some ad : Option Addr) else some ⟨ad.block, ad.off + (i + 1), none⟩) = AA) : Ls u AA (n - (i + 1)) (ks.drop (i + 1)) := by
  subst hA
  by_cases hn : n = i + 1
  · subst hn; rw [if_pos rfl, Nat.sub_self]; exact h.drop_all
  · rw [if_neg hn]; exact h.drop (i + 1) (by omega)
theorem one_gg {k : List UInt8} (ho : Utf.one k = true) : k ≠ [103, 103] := by rintro rfl; exact absurd ho (by decide)
end Phr
set_option maxHeartbeats 1000000 in
set_option maxRecDepth 100000 in
theorem ref26_Motion {k : List UInt8} (ho : Utf.one k = true) (w : World) : Calls Tryz.prog 53 #[.string (bs k)] w fun e w' => e = .returned (.bool (Phr.mot k).isSome) ∧ w = w' := by
  have I := Lib.hid (fun (w : World) => ref26_in k ⟨#[104, 108, 48, 94, 36, 124, 106, 107, 71, 119, 98, 101, 87, 66, 69, 123, 125, 37, 110, 78, 59, 44, 102, 70, 116, 84, 39, 96]⟩ (by decide) w)
  rw [show decide (k ∈ (⟨#[104, 108, 48, 94, 36, 124, 106, 107, 71, 119, 98, 101, 87, 66, 69, 123, 125, 37, 110, 78, 59, 44, 102, 70, 116, 84, 39, 96]⟩ : ByteArray).data.toList.map ([·])) = (Phr.mot k).isSome from Phr.mot_keys ho] at I
  have q : ((bs k).toList == [103, 103]) = false := by rw [bs_tl, beq_eq_false_iff_ne]; exact Phr.one_gg ho
  clear ho
  cases hm : (Phr.mot k).isSome with
  | true =>
    rw [hm] at I
    go_enter Tryz.func53, Tryz.ntmps53
    go_wp2_with (go_at_call 29; (with_reducible refine (I.out _).mono ?_); rintro e w1 ⟨rfl, rfl⟩)
    go_ret
    exact ⟨rfl, rfl⟩
  | false =>
    rw [hm] at I
    go_enter Tryz.func53, Tryz.ntmps53
    go_wp2_with (go_at_call 29; (with_reducible refine (I.out _).mono ?_); rintro e w1 ⟨rfl, rfl⟩)
    go_ret
    exact ⟨rfl, rfl⟩
set_option maxHeartbeats 1000000 in
set_option maxRecDepth 100000 in
theorem ref26_motion_finds_yes {A : Option Addr} {n : Nat} {k : List UInt8} {t : List (List UInt8)} {w : World} (c : Cmd) (h : Ls w A n (k :: t)) (h0 : k ∉ ([105, 97] : List UInt8).map ([·])) (h1 : k ∈ Phr.finds) :
    Calls Tryz.prog 35 #[.agg #[.int .i64 c.reg, .int .i64 c.count, .string (bs c.op), .string (bs c.key), .string (bs c.arg)], .slice A (t.length + 1) n, .bool true] w (RefIs (Phr.behind {c with key := k} 2 t) w) := by
  obtain ⟨W0, hW0⟩ : ∃ W0, (w.alloc (.cells #[.int .i64 c.reg, .int .i64 c.count, .string (bs c.op), .string (bs c.key), .string (bs c.arg)] 27)).alloc (.cells #[.int .i64 0, .int .i64 0, .string ⟨#[]⟩, .string ⟨#[]⟩, .string ⟨#[]⟩] 27) = W0 := ⟨_, rfl⟩
  obtain ⟨BP, BR, WB, SZ⟩ := Phr.start c hW0
  obtain ⟨ad, rfl⟩ := h.addr
  have X0 : Hid (∀ u, Below w.heap.size w u → u.cell? ad = some (.string (bs k))) := Lib.hid (fun u hu => h.at_ (j := 0) rfl hu)
  have x0 := X0.out W0 WB
  have e3 := BP.cell 3
  have f3 := BP.frozen 3
  have BP1 := BP.set_ 3 (.string (bs k))
  have BR1 := BR.far (p := ⟨w.heap.size, 3, none⟩) (by show w.heap.size + 1 ≠ w.heap.size; omega) (.string (bs k))
  have WB1 := WB.setCell (p := ⟨w.heap.size, 3, none⟩) (Nat.le_refl _) (.string (bs k))
  generalize hs1 : W0.setCell ⟨w.heap.size, 3, none⟩ (.string (bs k)) = W1 at *
  have pc0 := BP1.cell 0
  have pc1 := BP1.cell 1
  have pc2 := BP1.cell 2
  have pc3 := BP1.cell 3
  have pc4 := BP1.cell 4
  simp at e3 pc0 pc1 pc2 pc3 pc4
  have I0 := Lib.hid (fun (w : World) => ref26_in (k) ⟨#[105, 97]⟩ (by decide) w)
  rw [show decide ((k) ∈ (⟨#[105, 97]⟩ : ByteArray).data.toList.map ([·])) = false from decide_eq_false h0] at I0
  have I1 := Lib.hid (fun (w : World) => ref26_in (k) ⟨#[102, 70, 116, 84]⟩ (by decide) w)
  rw [show decide ((k) ∈ (⟨#[102, 70, 116, 84]⟩ : ByteArray).data.toList.map ([·])) = true from decide_eq_true h1] at I1
  obtain ⟨AA, hAA⟩ : ∃ AA, (if n = 1 then (some ad : Option Addr) else some ⟨ad.block, ad.off + 1, none⟩) = AA := ⟨_, rfl⟩
  have BH := Lib.hid (fun (u : World) (A : Option Addr) (n : Nat) (h : Ls u A n (t)) => show Calls Tryz.prog 34 #[.agg #[.int .i64 c.reg, .int .i64 c.count, .string (bs c.op), .string (bs (k)), .string (bs c.arg)], .slice A (t).length n, .int .i64 2] u (RefIs (Phr.behind {c with key := k} 2 (t)) u) from ref26_behind {c with key := k} h (by decide))
  have L2 : Hid (∀ u, Below w.heap.size w u → Ls u AA (n - 1) (t)) := Lib.hid (fun u hu => (h.below hu).cut hAA)
  obtain ⟨X, hX⟩ : ∃ X, Phr.behind {c with key := k} 2 (t) = X := ⟨_, rfl⟩
  rw [hX] at BH ⊢
  clear hX h
  have hcap := SZ
  clear BP BR WB
  go_enter Tryz.func35, Tryz.ntmps35
  go_wp2_with (first
    | (go_at_call 29; (with_reducible refine (I0.out _).mono ?_); rintro e w1 ⟨rfl, rfl⟩)
    | (go_at_call 29; (with_reducible refine (I1.out _).mono ?_); rintro e w1 ⟨rfl, rfl⟩))
  go_region_with (go_at_call 34; refine (BH.out _ _ _ (L2.out _ WB1.drew)).mono ?_; rintro e w4 ⟨rfl, hb4⟩; have BR4 := BR1.drew.below hb4 BR1.drew.lt; have W4 := WB1.drew.trans (hb4.mono WB1.drew.size); obtain ⟨⟨vp0, vr0⟩, ⟨vp1, vr1⟩, ⟨vp2, vr2⟩, ⟨vp3, vr3⟩, ⟨vp4, vr4⟩, vB⟩ := Phr.blk5 BR4 (.int .i64 X.1.reg) (.int .i64 X.1.count) (.string (bs X.1.op)) (.string (bs X.1.key)) (.string (bs X.1.arg)); have GG := Phr.put5_gb w4 (w.heap.size + 1) (.int .i64 X.1.reg) (.int .i64 X.1.count) (.string (bs X.1.op)) (.string (bs X.1.key)) (.string (bs X.1.arg)); unfold Phr.put5 at GG vB; generalize hv1 : w4.setCell ⟨w.heap.size + 1, 0, none⟩ (.int .i64 X.1.reg) = v1 at *; generalize hv2 : v1.setCell ⟨w.heap.size + 1, 1, none⟩ (.int .i64 X.1.count) = v2 at *; generalize hv3 : v2.setCell ⟨w.heap.size + 1, 2, none⟩ (.string (bs X.1.op)) = v3 at *; generalize hv4 : v3.setCell ⟨w.heap.size + 1, 3, none⟩ (.string (bs X.1.key)) = v4 at *; generalize hv5 : v4.setCell ⟨w.heap.size + 1, 4, none⟩ (.string (bs X.1.arg)) = v5 at *; have BB := Lib.hid vB; have W5 := W4.grown GG W4.size (fun j e => by injection e with e; omega); clear hb4 BR4 W4)
  all_goals
    go_wp2_with fail
    refine ret_five1 rfl rfl BB.out rfl Tryz.underlying27 (by kernel_rfl) ?_
    exact ⟨rfl, W5⟩
set_option maxHeartbeats 1000000 in
set_option maxRecDepth 100000 in
theorem ref26_motion_marks_yes {A : Option Addr} {n : Nat} {k : List UInt8} {t : List (List UInt8)} {w : World} (c : Cmd) (h : Ls w A n (k :: t)) (h0 : k ∉ ([105, 97] : List UInt8).map ([·])) (h1 : k ∉ Phr.finds) (h2 : k ∈ Phr.marks) :
    Calls Tryz.prog 35 #[.agg #[.int .i64 c.reg, .int .i64 c.count, .string (bs c.op), .string (bs c.key), .string (bs c.arg)], .slice A (t.length + 1) n, .bool true] w (RefIs (Phr.behind {c with key := k} 3 t) w) := by
  obtain ⟨W0, hW0⟩ : ∃ W0, (w.alloc (.cells #[.int .i64 c.reg, .int .i64 c.count, .string (bs c.op), .string (bs c.key), .string (bs c.arg)] 27)).alloc (.cells #[.int .i64 0, .int .i64 0, .string ⟨#[]⟩, .string ⟨#[]⟩, .string ⟨#[]⟩] 27) = W0 := ⟨_, rfl⟩
  obtain ⟨BP, BR, WB, SZ⟩ := Phr.start c hW0
  obtain ⟨ad, rfl⟩ := h.addr
  have X0 : Hid (∀ u, Below w.heap.size w u → u.cell? ad = some (.string (bs k))) := Lib.hid (fun u hu => h.at_ (j := 0) rfl hu)
  have x0 := X0.out W0 WB
  have e3 := BP.cell 3
  have f3 := BP.frozen 3
  have BP1 := BP.set_ 3 (.string (bs k))
  have BR1 := BR.far (p := ⟨w.heap.size, 3, none⟩) (by show w.heap.size + 1 ≠ w.heap.size; omega) (.string (bs k))
  have WB1 := WB.setCell (p := ⟨w.heap.size, 3, none⟩) (Nat.le_refl _) (.string (bs k))
  generalize hs1 : W0.setCell ⟨w.heap.size, 3, none⟩ (.string (bs k)) = W1 at *
  have pc0 := BP1.cell 0
  have pc1 := BP1.cell 1
  have pc2 := BP1.cell 2
  have pc3 := BP1.cell 3
  have pc4 := BP1.cell 4
  simp at e3 pc0 pc1 pc2 pc3 pc4
  have I0 := Lib.hid (fun (w : World) => ref26_in (k) ⟨#[105, 97]⟩ (by decide) w)
  rw [show decide ((k) ∈ (⟨#[105, 97]⟩ : ByteArray).data.toList.map ([·])) = false from decide_eq_false h0] at I0
  have I1 := Lib.hid (fun (w : World) => ref26_in (k) ⟨#[102, 70, 116, 84]⟩ (by decide) w)
  rw [show decide ((k) ∈ (⟨#[102, 70, 116, 84]⟩ : ByteArray).data.toList.map ([·])) = false from decide_eq_false h1] at I1
  have I2 := Lib.hid (fun (w : World) => ref26_in (k) ⟨#[39, 96]⟩ (by decide) w)
  rw [show decide ((k) ∈ (⟨#[39, 96]⟩ : ByteArray).data.toList.map ([·])) = true from decide_eq_true h2] at I2
  obtain ⟨AA, hAA⟩ : ∃ AA, (if n = 1 then (some ad : Option Addr) else some ⟨ad.block, ad.off + 1, none⟩) = AA := ⟨_, rfl⟩
  have BH := Lib.hid (fun (u : World) (A : Option Addr) (n : Nat) (h : Ls u A n (t)) => show Calls Tryz.prog 34 #[.agg #[.int .i64 c.reg, .int .i64 c.count, .string (bs c.op), .string (bs (k)), .string (bs c.arg)], .slice A (t).length n, .int .i64 3] u (RefIs (Phr.behind {c with key := k} 3 (t)) u) from ref26_behind {c with key := k} h (by decide))
  have L2 : Hid (∀ u, Below w.heap.size w u → Ls u AA (n - 1) (t)) := Lib.hid (fun u hu => (h.below hu).cut hAA)
  obtain ⟨X, hX⟩ : ∃ X, Phr.behind {c with key := k} 3 (t) = X := ⟨_, rfl⟩
  rw [hX] at BH ⊢
  clear hX h
  have hcap := SZ
  clear BP BR WB
  go_enter Tryz.func35, Tryz.ntmps35
  go_wp2_with (first
    | (go_at_call 29; (with_reducible refine (I0.out _).mono ?_); rintro e w1 ⟨rfl, rfl⟩)
    | (go_at_call 29; (with_reducible refine (I1.out _).mono ?_); rintro e w1 ⟨rfl, rfl⟩)
    | (go_at_call 29; (with_reducible refine (I2.out _).mono ?_); rintro e w1 ⟨rfl, rfl⟩))
  go_region_with (go_at_call 34; refine (BH.out _ _ _ (L2.out _ WB1.drew)).mono ?_; rintro e w4 ⟨rfl, hb4⟩; have BR4 := BR1.drew.below hb4 BR1.drew.lt; have W4 := WB1.drew.trans (hb4.mono WB1.drew.size); obtain ⟨⟨vp0, vr0⟩, ⟨vp1, vr1⟩, ⟨vp2, vr2⟩, ⟨vp3, vr3⟩, ⟨vp4, vr4⟩, vB⟩ := Phr.blk5 BR4 (.int .i64 X.1.reg) (.int .i64 X.1.count) (.string (bs X.1.op)) (.string (bs X.1.key)) (.string (bs X.1.arg)); have GG := Phr.put5_gb w4 (w.heap.size + 1) (.int .i64 X.1.reg) (.int .i64 X.1.count) (.string (bs X.1.op)) (.string (bs X.1.key)) (.string (bs X.1.arg)); unfold Phr.put5 at GG vB; generalize hv1 : w4.setCell ⟨w.heap.size + 1, 0, none⟩ (.int .i64 X.1.reg) = v1 at *; generalize hv2 : v1.setCell ⟨w.heap.size + 1, 1, none⟩ (.int .i64 X.1.count) = v2 at *; generalize hv3 : v2.setCell ⟨w.heap.size + 1, 2, none⟩ (.string (bs X.1.op)) = v3 at *; generalize hv4 : v3.setCell ⟨w.heap.size + 1, 3, none⟩ (.string (bs X.1.key)) = v4 at *; generalize hv5 : v4.setCell ⟨w.heap.size + 1, 4, none⟩ (.string (bs X.1.arg)) = v5 at *; have BB := Lib.hid vB; have W5 := W4.grown GG W4.size (fun j e => by injection e with e; omega); clear hb4 BR4 W4)
  all_goals
    go_wp2_with fail
    refine ret_five1 rfl rfl BB.out rfl Tryz.underlying27 (by kernel_rfl) ?_
    exact ⟨rfl, W5⟩
set_option maxHeartbeats 1000000 in
set_option maxRecDepth 100000 in
theorem ref26_motion_gg_yes {A : Option Addr} {n : Nat} {t : List (List UInt8)} {w : World} (c : Cmd) (h : Ls w A n ([103] :: [103] :: t))  :
    Calls Tryz.prog 35 #[.agg #[.int .i64 c.reg, .int .i64 c.count, .string (bs c.op), .string (bs c.key), .string (bs c.arg)], .slice A (t.length + 1 + 1) n, .bool true] w (RefIs (Phr.last {c with key := [103, 103]} t) w) := by
  obtain ⟨W0, hW0⟩ : ∃ W0, (w.alloc (.cells #[.int .i64 c.reg, .int .i64 c.count, .string (bs c.op), .string (bs c.key), .string (bs c.arg)] 27)).alloc (.cells #[.int .i64 0, .int .i64 0, .string ⟨#[]⟩, .string ⟨#[]⟩, .string ⟨#[]⟩] 27) = W0 := ⟨_, rfl⟩
  obtain ⟨BP, BR, WB, SZ⟩ := Phr.start c hW0
  obtain ⟨ad, rfl⟩ := h.addr
  have X0 : Hid (∀ u, Below w.heap.size w u → u.cell? ad = some (.string (bs [103]))) := Lib.hid (fun u hu => h.at_ (j := 0) rfl hu)
  have x0 := X0.out W0 WB
  have e3 := BP.cell 3
  have f3 := BP.frozen 3
  have BP1 := BP.set_ 3 (.string (bs [103]))
  have BR1 := BR.far (p := ⟨w.heap.size, 3, none⟩) (by show w.heap.size + 1 ≠ w.heap.size; omega) (.string (bs [103]))
  have WB1 := WB.setCell (p := ⟨w.heap.size, 3, none⟩) (Nat.le_refl _) (.string (bs [103]))
  generalize hs1 : W0.setCell ⟨w.heap.size, 3, none⟩ (.string (bs [103])) = W1 at *
  have e3' := BP1.cell 3
  have f3' := BP1.frozen 3
  have BP2 := BP1.set_ 3 (.string ⟨#[103, 103]⟩)
  have BR2 := BR1.far (p := ⟨w.heap.size, 3, none⟩) (by show w.heap.size + 1 ≠ w.heap.size; omega) (.string ⟨#[103, 103]⟩)
  have WB2 := WB1.setCell (p := ⟨w.heap.size, 3, none⟩) (Nat.le_refl _) (.string ⟨#[103, 103]⟩)
  generalize hs2 : W1.setCell ⟨w.heap.size, 3, none⟩ (.string ⟨#[103, 103]⟩) = W2 at *
  simp at e3'
  have pc0 := BP2.cell 0
  have pc1 := BP2.cell 1
  have pc2 := BP2.cell 2
  have pc3 := BP2.cell 3
  have pc4 := BP2.cell 4
  simp at e3 pc0 pc1 pc2 pc3 pc4
  have X1 : Hid (∀ u, Below w.heap.size w u → u.cell? ⟨ad.block, ad.off + 1, none⟩ = some (.string (bs [103]))) := Lib.hid (fun u hu => h.at_ (j := 1) rfl hu)
  have x1 := X1.out W1 WB1
  have q : ((bs [103]).toList == [103]) = true := by rw [bs_tl]; rfl
  have I0 := Lib.hid (fun (w : World) => ref26_in ([103]) ⟨#[105, 97]⟩ (by decide) w)
  rw [show decide (([103]) ∈ (⟨#[105, 97]⟩ : ByteArray).data.toList.map ([·])) = false from by decide] at I0
  have I1 := Lib.hid (fun (w : World) => ref26_in ([103]) ⟨#[102, 70, 116, 84]⟩ (by decide) w)
  rw [show decide (([103]) ∈ (⟨#[102, 70, 116, 84]⟩ : ByteArray).data.toList.map ([·])) = false from by decide] at I1
  have I2 := Lib.hid (fun (w : World) => ref26_in ([103]) ⟨#[39, 96]⟩ (by decide) w)
  rw [show decide (([103]) ∈ (⟨#[39, 96]⟩ : ByteArray).data.toList.map ([·])) = false from by decide] at I2
  obtain ⟨AA, hAA⟩ : ∃ AA, (if n = 2 then (some ad : Option Addr) else some ⟨ad.block, ad.off + 2, none⟩) = AA := ⟨_, rfl⟩
  have BH := Lib.hid (fun (u : World) (A : Option Addr) (n : Nat) => show Calls Tryz.prog 33 #[.agg #[.int .i64 c.reg, .int .i64 c.count, .string (bs c.op), .string ⟨#[103, 103]⟩, .string (bs c.arg)], .slice A (t).length n] u (RefIs (Phr.last {c with key := [103, 103]} (t)) u) from ref26_last {c with key := [103, 103]} u)
  obtain ⟨X, hX⟩ : ∃ X, Phr.last {c with key := [103, 103]} (t) = X := ⟨_, rfl⟩
  rw [hX] at BH ⊢
  clear hX h
  have hcap := SZ
  clear BP BR WB BP1 BR1 WB1
  go_enter Tryz.func35, Tryz.ntmps35
  go_wp2_with (first
    | (go_at_call 29; (with_reducible refine (I0.out _).mono ?_); rintro e w1 ⟨rfl, rfl⟩)
    | (go_at_call 29; (with_reducible refine (I1.out _).mono ?_); rintro e w1 ⟨rfl, rfl⟩)
    | (go_at_call 29; (with_reducible refine (I2.out _).mono ?_); rintro e w1 ⟨rfl, rfl⟩))
  go_region_with (go_at_call 33; refine (BH.out _ _ _).mono ?_; rintro e w4 ⟨rfl, hb4⟩; have BR4 := BR2.drew.below hb4 BR2.drew.lt; have W4 := WB2.drew.trans (hb4.mono WB2.drew.size); obtain ⟨⟨vp0, vr0⟩, ⟨vp1, vr1⟩, ⟨vp2, vr2⟩, ⟨vp3, vr3⟩, ⟨vp4, vr4⟩, vB⟩ := Phr.blk5 BR4 (.int .i64 X.1.reg) (.int .i64 X.1.count) (.string (bs X.1.op)) (.string (bs X.1.key)) (.string (bs X.1.arg)); have GG := Phr.put5_gb w4 (w.heap.size + 1) (.int .i64 X.1.reg) (.int .i64 X.1.count) (.string (bs X.1.op)) (.string (bs X.1.key)) (.string (bs X.1.arg)); unfold Phr.put5 at GG vB; generalize hv1 : w4.setCell ⟨w.heap.size + 1, 0, none⟩ (.int .i64 X.1.reg) = v1 at *; generalize hv2 : v1.setCell ⟨w.heap.size + 1, 1, none⟩ (.int .i64 X.1.count) = v2 at *; generalize hv3 : v2.setCell ⟨w.heap.size + 1, 2, none⟩ (.string (bs X.1.op)) = v3 at *; generalize hv4 : v3.setCell ⟨w.heap.size + 1, 3, none⟩ (.string (bs X.1.key)) = v4 at *; generalize hv5 : v4.setCell ⟨w.heap.size + 1, 4, none⟩ (.string (bs X.1.arg)) = v5 at *; have BB := Lib.hid vB; have W5 := W4.grown GG W4.size (fun j e => by injection e with e; omega); clear hb4 BR4 W4)
  all_goals
    go_wp2_with fail
    refine ret_five1 rfl rfl BB.out rfl Tryz.underlying27 (by kernel_rfl) ?_
    exact ⟨rfl, W5⟩
set_option maxHeartbeats 1000000 in
set_option maxRecDepth 100000 in
theorem ref26_motion_bare_yes {A : Option Addr} {n : Nat} {k : List UInt8} {t : List (List UInt8)} {w : World} (c : Cmd) (h : Ls w A n (k :: t)) (h0 : k ∉ ([105, 97] : List UInt8).map ([·])) (ho : Utf.one k = true) (h1 : k ∉ Phr.finds) (h2 : k ∉ Phr.marks) (h3 : k ≠ [103]) (h4 : (Phr.mot k).isSome = true) :
    Calls Tryz.prog 35 #[.agg #[.int .i64 c.reg, .int .i64 c.count, .string (bs c.op), .string (bs c.key), .string (bs c.arg)], .slice A (t.length + 1) n, .bool true] w (RefIs (Phr.last {c with key := k} t) w) := by
  obtain ⟨W0, hW0⟩ : ∃ W0, (w.alloc (.cells #[.int .i64 c.reg, .int .i64 c.count, .string (bs c.op), .string (bs c.key), .string (bs c.arg)] 27)).alloc (.cells #[.int .i64 0, .int .i64 0, .string ⟨#[]⟩, .string ⟨#[]⟩, .string ⟨#[]⟩] 27) = W0 := ⟨_, rfl⟩
  obtain ⟨BP, BR, WB, SZ⟩ := Phr.start c hW0
  obtain ⟨ad, rfl⟩ := h.addr
  have X0 : Hid (∀ u, Below w.heap.size w u → u.cell? ad = some (.string (bs k))) := Lib.hid (fun u hu => h.at_ (j := 0) rfl hu)
  have x0 := X0.out W0 WB
  have e3 := BP.cell 3
  have f3 := BP.frozen 3
  have BP1 := BP.set_ 3 (.string (bs k))
  have BR1 := BR.far (p := ⟨w.heap.size, 3, none⟩) (by show w.heap.size + 1 ≠ w.heap.size; omega) (.string (bs k))
  have WB1 := WB.setCell (p := ⟨w.heap.size, 3, none⟩) (Nat.le_refl _) (.string (bs k))
  generalize hs1 : W0.setCell ⟨w.heap.size, 3, none⟩ (.string (bs k)) = W1 at *
  have pc0 := BP1.cell 0
  have pc1 := BP1.cell 1
  have pc2 := BP1.cell 2
  have pc3 := BP1.cell 3
  have pc4 := BP1.cell 4
  simp at e3 pc0 pc1 pc2 pc3 pc4
  have q : ((bs k).toList == [103]) = false := by rw [bs_tl, beq_eq_false_iff_ne]; exact h3
  have M := Lib.hid (fun w => ref26_Motion ho w)
  rw [h4] at M
  clear ho h4
  have I0 := Lib.hid (fun (w : World) => ref26_in (k) ⟨#[105, 97]⟩ (by decide) w)
  rw [show decide ((k) ∈ (⟨#[105, 97]⟩ : ByteArray).data.toList.map ([·])) = false from decide_eq_false h0] at I0
  have I1 := Lib.hid (fun (w : World) => ref26_in (k) ⟨#[102, 70, 116, 84]⟩ (by decide) w)
  rw [show decide ((k) ∈ (⟨#[102, 70, 116, 84]⟩ : ByteArray).data.toList.map ([·])) = false from decide_eq_false h1] at I1
  have I2 := Lib.hid (fun (w : World) => ref26_in (k) ⟨#[39, 96]⟩ (by decide) w)
  rw [show decide ((k) ∈ (⟨#[39, 96]⟩ : ByteArray).data.toList.map ([·])) = false from decide_eq_false h2] at I2
  obtain ⟨AA, hAA⟩ : ∃ AA, (if n = 1 then (some ad : Option Addr) else some ⟨ad.block, ad.off + 1, none⟩) = AA := ⟨_, rfl⟩
  have BH := Lib.hid (fun (u : World) (A : Option Addr) (n : Nat) => show Calls Tryz.prog 33 #[.agg #[.int .i64 c.reg, .int .i64 c.count, .string (bs c.op), .string (bs (k)), .string (bs c.arg)], .slice A (t).length n] u (RefIs (Phr.last {c with key := k} (t)) u) from ref26_last {c with key := k} u)
  obtain ⟨X, hX⟩ : ∃ X, Phr.last {c with key := k} (t) = X := ⟨_, rfl⟩
  rw [hX] at BH ⊢
  clear hX h
  have hcap := SZ
  clear BP BR WB
  go_enter Tryz.func35, Tryz.ntmps35
  go_wp2_with (first
    | (go_at_call 53; (with_reducible refine (M.out _).mono ?_); rintro e w1 ⟨rfl, rfl⟩)
    | (go_at_call 29; (with_reducible refine (I0.out _).mono ?_); rintro e w1 ⟨rfl, rfl⟩)
    | (go_at_call 29; (with_reducible refine (I1.out _).mono ?_); rintro e w1 ⟨rfl, rfl⟩)
    | (go_at_call 29; (with_reducible refine (I2.out _).mono ?_); rintro e w1 ⟨rfl, rfl⟩))
  go_region_with (go_at_call 33; refine (BH.out _ _ _).mono ?_; rintro e w4 ⟨rfl, hb4⟩; have BR4 := BR1.drew.below hb4 BR1.drew.lt; have W4 := WB1.drew.trans (hb4.mono WB1.drew.size); obtain ⟨⟨vp0, vr0⟩, ⟨vp1, vr1⟩, ⟨vp2, vr2⟩, ⟨vp3, vr3⟩, ⟨vp4, vr4⟩, vB⟩ := Phr.blk5 BR4 (.int .i64 X.1.reg) (.int .i64 X.1.count) (.string (bs X.1.op)) (.string (bs X.1.key)) (.string (bs X.1.arg)); have GG := Phr.put5_gb w4 (w.heap.size + 1) (.int .i64 X.1.reg) (.int .i64 X.1.count) (.string (bs X.1.op)) (.string (bs X.1.key)) (.string (bs X.1.arg)); unfold Phr.put5 at GG vB; generalize hv1 : w4.setCell ⟨w.heap.size + 1, 0, none⟩ (.int .i64 X.1.reg) = v1 at *; generalize hv2 : v1.setCell ⟨w.heap.size + 1, 1, none⟩ (.int .i64 X.1.count) = v2 at *; generalize hv3 : v2.setCell ⟨w.heap.size + 1, 2, none⟩ (.string (bs X.1.op)) = v3 at *; generalize hv4 : v3.setCell ⟨w.heap.size + 1, 3, none⟩ (.string (bs X.1.key)) = v4 at *; generalize hv5 : v4.setCell ⟨w.heap.size + 1, 4, none⟩ (.string (bs X.1.arg)) = v5 at *; have BB := Lib.hid vB; have W5 := W4.grown GG W4.size (fun j e => by injection e with e; omega); clear hb4 BR4 W4)
  all_goals
    go_wp2_with fail
    refine ret_five1 rfl rfl BB.out rfl Tryz.underlying27 (by kernel_rfl) ?_
    exact ⟨rfl, W5⟩
set_option maxHeartbeats 1000000 in
set_option maxRecDepth 100000 in
theorem ref26_motion_none_yes {A : Option Addr} {n : Nat} {k : List UInt8} {t : List (List UInt8)} {w : World} (c : Cmd) (h : Ls w A n (k :: t)) (h0 : k ∉ ([105, 97] : List UInt8).map ([·])) (ho : Utf.one k = true) (h1 : k ∉ Phr.finds) (h2 : k ∉ Phr.marks) (h3 : k ≠ [103]) (h4 : (Phr.mot k).isSome = false) :
    Calls Tryz.prog 35 #[.agg #[.int .i64 c.reg, .int .i64 c.count, .string (bs c.op), .string (bs c.key), .string (bs c.arg)], .slice A (t.length + 1) n, .bool true] w (RefIs ((Phr.zero, 0)) w) := by
  obtain ⟨W0, hW0⟩ : ∃ W0, (w.alloc (.cells #[.int .i64 c.reg, .int .i64 c.count, .string (bs c.op), .string (bs c.key), .string (bs c.arg)] 27)).alloc (.cells #[.int .i64 0, .int .i64 0, .string ⟨#[]⟩, .string ⟨#[]⟩, .string ⟨#[]⟩] 27) = W0 := ⟨_, rfl⟩
  obtain ⟨BP, BR, WB, SZ⟩ := Phr.start c hW0
  obtain ⟨ad, rfl⟩ := h.addr
  have X0 : Hid (∀ u, Below w.heap.size w u → u.cell? ad = some (.string (bs k))) := Lib.hid (fun u hu => h.at_ (j := 0) rfl hu)
  have x0 := X0.out W0 WB
  have e3 := BP.cell 3
  have f3 := BP.frozen 3
  have BP1 := BP.set_ 3 (.string (bs k))
  have BR1 := BR.far (p := ⟨w.heap.size, 3, none⟩) (by show w.heap.size + 1 ≠ w.heap.size; omega) (.string (bs k))
  have WB1 := WB.setCell (p := ⟨w.heap.size, 3, none⟩) (Nat.le_refl _) (.string (bs k))
  generalize hs1 : W0.setCell ⟨w.heap.size, 3, none⟩ (.string (bs k)) = W1 at *
  have pc0 := BP1.cell 0
  have pc1 := BP1.cell 1
  have pc2 := BP1.cell 2
  have pc3 := BP1.cell 3
  have pc4 := BP1.cell 4
  simp at e3 pc0 pc1 pc2 pc3 pc4
  have q : ((bs k).toList == [103]) = false := by rw [bs_tl, beq_eq_false_iff_ne]; exact h3
  have M := Lib.hid (fun w => ref26_Motion ho w)
  rw [h4] at M
  clear ho h4
  have I0 := Lib.hid (fun (w : World) => ref26_in (k) ⟨#[105, 97]⟩ (by decide) w)
  rw [show decide ((k) ∈ (⟨#[105, 97]⟩ : ByteArray).data.toList.map ([·])) = false from decide_eq_false h0] at I0
  have I1 := Lib.hid (fun (w : World) => ref26_in (k) ⟨#[102, 70, 116, 84]⟩ (by decide) w)
  rw [show decide ((k) ∈ (⟨#[102, 70, 116, 84]⟩ : ByteArray).data.toList.map ([·])) = false from decide_eq_false h1] at I1
  have I2 := Lib.hid (fun (w : World) => ref26_in (k) ⟨#[39, 96]⟩ (by decide) w)
  rw [show decide ((k) ∈ (⟨#[39, 96]⟩ : ByteArray).data.toList.map ([·])) = false from decide_eq_false h2] at I2
  obtain ⟨⟨vp0, vr0⟩, ⟨vp1, vr1⟩, ⟨vp2, vr2⟩, ⟨vp3, vr3⟩, ⟨vp4, vr4⟩, vB⟩ := Phr.blk5 BR1 (.int .i64 0) (.int .i64 0) (.string ⟨#[]⟩) (.string ⟨#[]⟩) (.string ⟨#[]⟩)
  have GG := Phr.put5_gb W1 (w.heap.size + 1) (.int .i64 0) (.int .i64 0) (.string ⟨#[]⟩) (.string ⟨#[]⟩) (.string ⟨#[]⟩)
  unfold Phr.put5 at GG vB
  generalize hv1 : W1.setCell ⟨w.heap.size + 1, 0, none⟩ (.int .i64 0) = v1 at *
  generalize hv2 : v1.setCell ⟨w.heap.size + 1, 1, none⟩ (.int .i64 0) = v2 at *
  generalize hv3 : v2.setCell ⟨w.heap.size + 1, 2, none⟩ (.string ⟨#[]⟩) = v3 at *
  generalize hv4 : v3.setCell ⟨w.heap.size + 1, 3, none⟩ (.string ⟨#[]⟩) = v4 at *
  generalize hv5 : v4.setCell ⟨w.heap.size + 1, 4, none⟩ (.string ⟨#[]⟩) = v5 at *
  have BB := Lib.hid vB
  have W5 := WB1.grown GG WB1.size (fun j e => by injection e with e; omega)
  clear h BP BR WB BP1 BR1 WB1
  go_enter Tryz.func35, Tryz.ntmps35
  go_wp2_with (first
    | (go_at_call 53; (with_reducible refine (M.out _).mono ?_); rintro e w1 ⟨rfl, rfl⟩)
    | (go_at_call 29; (with_reducible refine (I0.out _).mono ?_); rintro e w1 ⟨rfl, rfl⟩)
    | (go_at_call 29; (with_reducible refine (I1.out _).mono ?_); rintro e w1 ⟨rfl, rfl⟩)
    | (go_at_call 29; (with_reducible refine (I2.out _).mono ?_); rintro e w1 ⟨rfl, rfl⟩))
  refine ret_five1 rfl rfl BB.out rfl Tryz.underlying27 (by kernel_rfl) ?_
  exact ⟨rfl, W5⟩
set_option maxHeartbeats 1000000 in
set_option maxRecDepth 100000 in
theorem ref26_motion_gend_yes {A : Option Addr} {n : Nat}  {w : World} (c : Cmd) (h : Ls w A n ([[103]]))  :
    Calls Tryz.prog 35 #[.agg #[.int .i64 c.reg, .int .i64 c.count, .string (bs c.op), .string (bs c.key), .string (bs c.arg)], .slice A (1) n, .bool true] w (RefIs ((Phr.zero, 0)) w) := by
  obtain ⟨W0, hW0⟩ : ∃ W0, (w.alloc (.cells #[.int .i64 c.reg, .int .i64 c.count, .string (bs c.op), .string (bs c.key), .string (bs c.arg)] 27)).alloc (.cells #[.int .i64 0, .int .i64 0, .string ⟨#[]⟩, .string ⟨#[]⟩, .string ⟨#[]⟩] 27) = W0 := ⟨_, rfl⟩
  obtain ⟨BP, BR, WB, SZ⟩ := Phr.start c hW0
  obtain ⟨ad, rfl⟩ := h.addr
  have X0 : Hid (∀ u, Below w.heap.size w u → u.cell? ad = some (.string (bs [103]))) := Lib.hid (fun u hu => h.at_ (j := 0) rfl hu)
  have x0 := X0.out W0 WB
  have e3 := BP.cell 3
  have f3 := BP.frozen 3
  have BP1 := BP.set_ 3 (.string (bs [103]))
  have BR1 := BR.far (p := ⟨w.heap.size, 3, none⟩) (by show w.heap.size + 1 ≠ w.heap.size; omega) (.string (bs [103]))
  have WB1 := WB.setCell (p := ⟨w.heap.size, 3, none⟩) (Nat.le_refl _) (.string (bs [103]))
  generalize hs1 : W0.setCell ⟨w.heap.size, 3, none⟩ (.string (bs [103])) = W1 at *
  have pc0 := BP1.cell 0
  have pc1 := BP1.cell 1
  have pc2 := BP1.cell 2
  have pc3 := BP1.cell 3
  have pc4 := BP1.cell 4
  simp at e3 pc0 pc1 pc2 pc3 pc4
  have q : ((bs [103]).toList == [103]) = true := by rw [bs_tl]; rfl
  have I0 := Lib.hid (fun (w : World) => ref26_in ([103]) ⟨#[105, 97]⟩ (by decide) w)
  rw [show decide (([103]) ∈ (⟨#[105, 97]⟩ : ByteArray).data.toList.map ([·])) = false from by decide] at I0
  have I1 := Lib.hid (fun (w : World) => ref26_in ([103]) ⟨#[102, 70, 116, 84]⟩ (by decide) w)
  rw [show decide (([103]) ∈ (⟨#[102, 70, 116, 84]⟩ : ByteArray).data.toList.map ([·])) = false from by decide] at I1
  have I2 := Lib.hid (fun (w : World) => ref26_in ([103]) ⟨#[39, 96]⟩ (by decide) w)
  rw [show decide (([103]) ∈ (⟨#[39, 96]⟩ : ByteArray).data.toList.map ([·])) = false from by decide] at I2
  obtain ⟨⟨vp0, vr0⟩, ⟨vp1, vr1⟩, ⟨vp2, vr2⟩, ⟨vp3, vr3⟩, ⟨vp4, vr4⟩, vB⟩ := Phr.blk5 BR1 (.int .i64 0) (.int .i64 0) (.string ⟨#[]⟩) (.string ⟨#[]⟩) (.string ⟨#[]⟩)
  have GG := Phr.put5_gb W1 (w.heap.size + 1) (.int .i64 0) (.int .i64 0) (.string ⟨#[]⟩) (.string ⟨#[]⟩) (.string ⟨#[]⟩)
  unfold Phr.put5 at GG vB
  generalize hv1 : W1.setCell ⟨w.heap.size + 1, 0, none⟩ (.int .i64 0) = v1 at *
  generalize hv2 : v1.setCell ⟨w.heap.size + 1, 1, none⟩ (.int .i64 0) = v2 at *
  generalize hv3 : v2.setCell ⟨w.heap.size + 1, 2, none⟩ (.string ⟨#[]⟩) = v3 at *
  generalize hv4 : v3.setCell ⟨w.heap.size + 1, 3, none⟩ (.string ⟨#[]⟩) = v4 at *
  generalize hv5 : v4.setCell ⟨w.heap.size + 1, 4, none⟩ (.string ⟨#[]⟩) = v5 at *
  have BB := Lib.hid vB
  have W5 := WB1.grown GG WB1.size (fun j e => by injection e with e; omega)
  clear h BP BR WB BP1 BR1 WB1
  go_enter Tryz.func35, Tryz.ntmps35
  go_wp2_with (first
    | (go_at_call 29; (with_reducible refine (I0.out _).mono ?_); rintro e w1 ⟨rfl, rfl⟩)
    | (go_at_call 29; (with_reducible refine (I1.out _).mono ?_); rintro e w1 ⟨rfl, rfl⟩)
    | (go_at_call 29; (with_reducible refine (I2.out _).mono ?_); rintro e w1 ⟨rfl, rfl⟩))
  refine ret_five1 rfl rfl BB.out rfl Tryz.underlying27 (by kernel_rfl) ?_
  exact ⟨rfl, W5⟩
set_option maxHeartbeats 1000000 in
set_option maxRecDepth 100000 in
theorem ref26_motion_gx_yes {A : Option Addr} {n : Nat} {x : List UInt8} {t : List (List UInt8)} {w : World} (c : Cmd) (h : Ls w A n ([103] :: x :: t)) (hx : x ≠ [103]) :
    Calls Tryz.prog 35 #[.agg #[.int .i64 c.reg, .int .i64 c.count, .string (bs c.op), .string (bs c.key), .string (bs c.arg)], .slice A (t.length + 1 + 1) n, .bool true] w (RefIs ((Phr.zero, 0)) w) := by
  obtain ⟨W0, hW0⟩ : ∃ W0, (w.alloc (.cells #[.int .i64 c.reg, .int .i64 c.count, .string (bs c.op), .string (bs c.key), .string (bs c.arg)] 27)).alloc (.cells #[.int .i64 0, .int .i64 0, .string ⟨#[]⟩, .string ⟨#[]⟩, .string ⟨#[]⟩] 27) = W0 := ⟨_, rfl⟩
  obtain ⟨BP, BR, WB, SZ⟩ := Phr.start c hW0
  obtain ⟨ad, rfl⟩ := h.addr
  have X0 : Hid (∀ u, Below w.heap.size w u → u.cell? ad = some (.string (bs [103]))) := Lib.hid (fun u hu => h.at_ (j := 0) rfl hu)
  have x0 := X0.out W0 WB
  have e3 := BP.cell 3
  have f3 := BP.frozen 3
  have BP1 := BP.set_ 3 (.string (bs [103]))
  have BR1 := BR.far (p := ⟨w.heap.size, 3, none⟩) (by show w.heap.size + 1 ≠ w.heap.size; omega) (.string (bs [103]))
  have WB1 := WB.setCell (p := ⟨w.heap.size, 3, none⟩) (Nat.le_refl _) (.string (bs [103]))
  generalize hs1 : W0.setCell ⟨w.heap.size, 3, none⟩ (.string (bs [103])) = W1 at *
  have pc0 := BP1.cell 0
  have pc1 := BP1.cell 1
  have pc2 := BP1.cell 2
  have pc3 := BP1.cell 3
  have pc4 := BP1.cell 4
  simp at e3 pc0 pc1 pc2 pc3 pc4
  have X1 : Hid (∀ u, Below w.heap.size w u → u.cell? ⟨ad.block, ad.off + 1, none⟩ = some (.string (bs x))) := Lib.hid (fun u hu => h.at_ (j := 1) rfl hu)
  have x1 := X1.out W1 WB1
  have q : ((bs [103]).toList == [103]) = true := by rw [bs_tl]; rfl
  have q1 : ((bs x).toList == [103]) = false := by rw [bs_tl, beq_eq_false_iff_ne]; exact hx
  have I0 := Lib.hid (fun (w : World) => ref26_in ([103]) ⟨#[105, 97]⟩ (by decide) w)
  rw [show decide (([103]) ∈ (⟨#[105, 97]⟩ : ByteArray).data.toList.map ([·])) = false from by decide] at I0
  have I1 := Lib.hid (fun (w : World) => ref26_in ([103]) ⟨#[102, 70, 116, 84]⟩ (by decide) w)
  rw [show decide (([103]) ∈ (⟨#[102, 70, 116, 84]⟩ : ByteArray).data.toList.map ([·])) = false from by decide] at I1
  have I2 := Lib.hid (fun (w : World) => ref26_in ([103]) ⟨#[39, 96]⟩ (by decide) w)
  rw [show decide (([103]) ∈ (⟨#[39, 96]⟩ : ByteArray).data.toList.map ([·])) = false from by decide] at I2
  obtain ⟨⟨vp0, vr0⟩, ⟨vp1, vr1⟩, ⟨vp2, vr2⟩, ⟨vp3, vr3⟩, ⟨vp4, vr4⟩, vB⟩ := Phr.blk5 BR1 (.int .i64 0) (.int .i64 0) (.string ⟨#[]⟩) (.string ⟨#[]⟩) (.string ⟨#[]⟩)
  have GG := Phr.put5_gb W1 (w.heap.size + 1) (.int .i64 0) (.int .i64 0) (.string ⟨#[]⟩) (.string ⟨#[]⟩) (.string ⟨#[]⟩)
  unfold Phr.put5 at GG vB
  generalize hv1 : W1.setCell ⟨w.heap.size + 1, 0, none⟩ (.int .i64 0) = v1 at *
  generalize hv2 : v1.setCell ⟨w.heap.size + 1, 1, none⟩ (.int .i64 0) = v2 at *
  generalize hv3 : v2.setCell ⟨w.heap.size + 1, 2, none⟩ (.string ⟨#[]⟩) = v3 at *
  generalize hv4 : v3.setCell ⟨w.heap.size + 1, 3, none⟩ (.string ⟨#[]⟩) = v4 at *
  generalize hv5 : v4.setCell ⟨w.heap.size + 1, 4, none⟩ (.string ⟨#[]⟩) = v5 at *
  have BB := Lib.hid vB
  have W5 := WB1.grown GG WB1.size (fun j e => by injection e with e; omega)
  clear h BP BR WB BP1 BR1 WB1
  go_enter Tryz.func35, Tryz.ntmps35
  go_wp2_with (first
    | (go_at_call 29; (with_reducible refine (I0.out _).mono ?_); rintro e w1 ⟨rfl, rfl⟩)
    | (go_at_call 29; (with_reducible refine (I1.out _).mono ?_); rintro e w1 ⟨rfl, rfl⟩)
    | (go_at_call 29; (with_reducible refine (I2.out _).mono ?_); rintro e w1 ⟨rfl, rfl⟩))
  refine ret_five1 rfl rfl BB.out rfl Tryz.underlying27 (by kernel_rfl) ?_
  exact ⟨rfl, W5⟩
set_option maxHeartbeats 1000000 in
set_option maxRecDepth 100000 in
theorem ref26_motion_finds_no {A : Option Addr} {n : Nat} {k : List UInt8} {t : List (List UInt8)} {w : World} (c : Cmd) (h : Ls w A n (k :: t)) (h1 : k ∈ Phr.finds) :
    Calls Tryz.prog 35 #[.agg #[.int .i64 c.reg, .int .i64 c.count, .string (bs c.op), .string (bs c.key), .string (bs c.arg)], .slice A (t.length + 1) n, .bool false] w (RefIs (Phr.behind {c with key := k} 2 t) w) := by
  obtain ⟨W0, hW0⟩ : ∃ W0, (w.alloc (.cells #[.int .i64 c.reg, .int .i64 c.count, .string (bs c.op), .string (bs c.key), .string (bs c.arg)] 27)).alloc (.cells #[.int .i64 0, .int .i64 0, .string ⟨#[]⟩, .string ⟨#[]⟩, .string ⟨#[]⟩] 27) = W0 := ⟨_, rfl⟩
  obtain ⟨BP, BR, WB, SZ⟩ := Phr.start c hW0
  obtain ⟨ad, rfl⟩ := h.addr
  have X0 : Hid (∀ u, Below w.heap.size w u → u.cell? ad = some (.string (bs k))) := Lib.hid (fun u hu => h.at_ (j := 0) rfl hu)
  have x0 := X0.out W0 WB
  have e3 := BP.cell 3
  have f3 := BP.frozen 3
  have BP1 := BP.set_ 3 (.string (bs k))
  have BR1 := BR.far (p := ⟨w.heap.size, 3, none⟩) (by show w.heap.size + 1 ≠ w.heap.size; omega) (.string (bs k))
  have WB1 := WB.setCell (p := ⟨w.heap.size, 3, none⟩) (Nat.le_refl _) (.string (bs k))
  generalize hs1 : W0.setCell ⟨w.heap.size, 3, none⟩ (.string (bs k)) = W1 at *
  have pc0 := BP1.cell 0
  have pc1 := BP1.cell 1
  have pc2 := BP1.cell 2
  have pc3 := BP1.cell 3
  have pc4 := BP1.cell 4
  simp at e3 pc0 pc1 pc2 pc3 pc4
  have I1 := Lib.hid (fun (w : World) => ref26_in (k) ⟨#[102, 70, 116, 84]⟩ (by decide) w)
  rw [show decide ((k) ∈ (⟨#[102, 70, 116, 84]⟩ : ByteArray).data.toList.map ([·])) = true from decide_eq_true h1] at I1
  obtain ⟨AA, hAA⟩ : ∃ AA, (if n = 1 then (some ad : Option Addr) else some ⟨ad.block, ad.off + 1, none⟩) = AA := ⟨_, rfl⟩
  have BH := Lib.hid (fun (u : World) (A : Option Addr) (n : Nat) (h : Ls u A n (t)) => show Calls Tryz.prog 34 #[.agg #[.int .i64 c.reg, .int .i64 c.count, .string (bs c.op), .string (bs (k)), .string (bs c.arg)], .slice A (t).length n, .int .i64 2] u (RefIs (Phr.behind {c with key := k} 2 (t)) u) from ref26_behind {c with key := k} h (by decide))
  have L2 : Hid (∀ u, Below w.heap.size w u → Ls u AA (n - 1) (t)) := Lib.hid (fun u hu => (h.below hu).cut hAA)
  obtain ⟨X, hX⟩ : ∃ X, Phr.behind {c with key := k} 2 (t) = X := ⟨_, rfl⟩
  rw [hX] at BH ⊢
  clear hX h
  have hcap := SZ
  clear BP BR WB
  go_enter Tryz.func35, Tryz.ntmps35
  go_wp2_with (first
    | (go_at_call 29; (with_reducible refine (I1.out _).mono ?_); rintro e w1 ⟨rfl, rfl⟩))
  go_region_with (go_at_call 34; refine (BH.out _ _ _ (L2.out _ WB1.drew)).mono ?_; rintro e w4 ⟨rfl, hb4⟩; have BR4 := BR1.drew.below hb4 BR1.drew.lt; have W4 := WB1.drew.trans (hb4.mono WB1.drew.size); obtain ⟨⟨vp0, vr0⟩, ⟨vp1, vr1⟩, ⟨vp2, vr2⟩, ⟨vp3, vr3⟩, ⟨vp4, vr4⟩, vB⟩ := Phr.blk5 BR4 (.int .i64 X.1.reg) (.int .i64 X.1.count) (.string (bs X.1.op)) (.string (bs X.1.key)) (.string (bs X.1.arg)); have GG := Phr.put5_gb w4 (w.heap.size + 1) (.int .i64 X.1.reg) (.int .i64 X.1.count) (.string (bs X.1.op)) (.string (bs X.1.key)) (.string (bs X.1.arg)); unfold Phr.put5 at GG vB; generalize hv1 : w4.setCell ⟨w.heap.size + 1, 0, none⟩ (.int .i64 X.1.reg) = v1 at *; generalize hv2 : v1.setCell ⟨w.heap.size + 1, 1, none⟩ (.int .i64 X.1.count) = v2 at *; generalize hv3 : v2.setCell ⟨w.heap.size + 1, 2, none⟩ (.string (bs X.1.op)) = v3 at *; generalize hv4 : v3.setCell ⟨w.heap.size + 1, 3, none⟩ (.string (bs X.1.key)) = v4 at *; generalize hv5 : v4.setCell ⟨w.heap.size + 1, 4, none⟩ (.string (bs X.1.arg)) = v5 at *; have BB := Lib.hid vB; have W5 := W4.grown GG W4.size (fun j e => by injection e with e; omega); clear hb4 BR4 W4)
  all_goals
    go_wp2_with fail
    refine ret_five1 rfl rfl BB.out rfl Tryz.underlying27 (by kernel_rfl) ?_
    exact ⟨rfl, W5⟩
set_option maxHeartbeats 1000000 in
set_option maxRecDepth 100000 in
theorem ref26_motion_marks_no {A : Option Addr} {n : Nat} {k : List UInt8} {t : List (List UInt8)} {w : World} (c : Cmd) (h : Ls w A n (k :: t)) (h1 : k ∉ Phr.finds) (h2 : k ∈ Phr.marks) :
    Calls Tryz.prog 35 #[.agg #[.int .i64 c.reg, .int .i64 c.count, .string (bs c.op), .string (bs c.key), .string (bs c.arg)], .slice A (t.length + 1) n, .bool false] w (RefIs (Phr.behind {c with key := k} 3 t) w) := by
  obtain ⟨W0, hW0⟩ : ∃ W0, (w.alloc (.cells #[.int .i64 c.reg, .int .i64 c.count, .string (bs c.op), .string (bs c.key), .string (bs c.arg)] 27)).alloc (.cells #[.int .i64 0, .int .i64 0, .string ⟨#[]⟩, .string ⟨#[]⟩, .string ⟨#[]⟩] 27) = W0 := ⟨_, rfl⟩
  obtain ⟨BP, BR, WB, SZ⟩ := Phr.start c hW0
  obtain ⟨ad, rfl⟩ := h.addr
  have X0 : Hid (∀ u, Below w.heap.size w u → u.cell? ad = some (.string (bs k))) := Lib.hid (fun u hu => h.at_ (j := 0) rfl hu)
  have x0 := X0.out W0 WB
  have e3 := BP.cell 3
  have f3 := BP.frozen 3
  have BP1 := BP.set_ 3 (.string (bs k))
  have BR1 := BR.far (p := ⟨w.heap.size, 3, none⟩) (by show w.heap.size + 1 ≠ w.heap.size; omega) (.string (bs k))
  have WB1 := WB.setCell (p := ⟨w.heap.size, 3, none⟩) (Nat.le_refl _) (.string (bs k))
  generalize hs1 : W0.setCell ⟨w.heap.size, 3, none⟩ (.string (bs k)) = W1 at *
  have pc0 := BP1.cell 0
  have pc1 := BP1.cell 1
  have pc2 := BP1.cell 2
  have pc3 := BP1.cell 3
  have pc4 := BP1.cell 4
  simp at e3 pc0 pc1 pc2 pc3 pc4
  have I1 := Lib.hid (fun (w : World) => ref26_in (k) ⟨#[102, 70, 116, 84]⟩ (by decide) w)
  rw [show decide ((k) ∈ (⟨#[102, 70, 116, 84]⟩ : ByteArray).data.toList.map ([·])) = false from decide_eq_false h1] at I1
  have I2 := Lib.hid (fun (w : World) => ref26_in (k) ⟨#[39, 96]⟩ (by decide) w)
  rw [show decide ((k) ∈ (⟨#[39, 96]⟩ : ByteArray).data.toList.map ([·])) = true from decide_eq_true h2] at I2
  obtain ⟨AA, hAA⟩ : ∃ AA, (if n = 1 then (some ad : Option Addr) else some ⟨ad.block, ad.off + 1, none⟩) = AA := ⟨_, rfl⟩
  have BH := Lib.hid (fun (u : World) (A : Option Addr) (n : Nat) (h : Ls u A n (t)) => show Calls Tryz.prog 34 #[.agg #[.int .i64 c.reg, .int .i64 c.count, .string (bs c.op), .string (bs (k)), .string (bs c.arg)], .slice A (t).length n, .int .i64 3] u (RefIs (Phr.behind {c with key := k} 3 (t)) u) from ref26_behind {c with key := k} h (by decide))
  have L2 : Hid (∀ u, Below w.heap.size w u → Ls u AA (n - 1) (t)) := Lib.hid (fun u hu => (h.below hu).cut hAA)
  obtain ⟨X, hX⟩ : ∃ X, Phr.behind {c with key := k} 3 (t) = X := ⟨_, rfl⟩
  rw [hX] at BH ⊢
  clear hX h
  have hcap := SZ
  clear BP BR WB
  go_enter Tryz.func35, Tryz.ntmps35
  go_wp2_with (first
    | (go_at_call 29; (with_reducible refine (I1.out _).mono ?_); rintro e w1 ⟨rfl, rfl⟩)
    | (go_at_call 29; (with_reducible refine (I2.out _).mono ?_); rintro e w1 ⟨rfl, rfl⟩))
  go_region_with (go_at_call 34; refine (BH.out _ _ _ (L2.out _ WB1.drew)).mono ?_; rintro e w4 ⟨rfl, hb4⟩; have BR4 := BR1.drew.below hb4 BR1.drew.lt; have W4 := WB1.drew.trans (hb4.mono WB1.drew.size); obtain ⟨⟨vp0, vr0⟩, ⟨vp1, vr1⟩, ⟨vp2, vr2⟩, ⟨vp3, vr3⟩, ⟨vp4, vr4⟩, vB⟩ := Phr.blk5 BR4 (.int .i64 X.1.reg) (.int .i64 X.1.count) (.string (bs X.1.op)) (.string (bs X.1.key)) (.string (bs X.1.arg)); have GG := Phr.put5_gb w4 (w.heap.size + 1) (.int .i64 X.1.reg) (.int .i64 X.1.count) (.string (bs X.1.op)) (.string (bs X.1.key)) (.string (bs X.1.arg)); unfold Phr.put5 at GG vB; generalize hv1 : w4.setCell ⟨w.heap.size + 1, 0, none⟩ (.int .i64 X.1.reg) = v1 at *; generalize hv2 : v1.setCell ⟨w.heap.size + 1, 1, none⟩ (.int .i64 X.1.count) = v2 at *; generalize hv3 : v2.setCell ⟨w.heap.size + 1, 2, none⟩ (.string (bs X.1.op)) = v3 at *; generalize hv4 : v3.setCell ⟨w.heap.size + 1, 3, none⟩ (.string (bs X.1.key)) = v4 at *; generalize hv5 : v4.setCell ⟨w.heap.size + 1, 4, none⟩ (.string (bs X.1.arg)) = v5 at *; have BB := Lib.hid vB; have W5 := W4.grown GG W4.size (fun j e => by injection e with e; omega); clear hb4 BR4 W4)
  all_goals
    go_wp2_with fail
    refine ret_five1 rfl rfl BB.out rfl Tryz.underlying27 (by kernel_rfl) ?_
    exact ⟨rfl, W5⟩
set_option maxHeartbeats 1000000 in
set_option maxRecDepth 100000 in
theorem ref26_motion_gg_no {A : Option Addr} {n : Nat} {t : List (List UInt8)} {w : World} (c : Cmd) (h : Ls w A n ([103] :: [103] :: t))  :
    Calls Tryz.prog 35 #[.agg #[.int .i64 c.reg, .int .i64 c.count, .string (bs c.op), .string (bs c.key), .string (bs c.arg)], .slice A (t.length + 1 + 1) n, .bool false] w (RefIs (Phr.last {c with key := [103, 103]} t) w) := by
  obtain ⟨W0, hW0⟩ : ∃ W0, (w.alloc (.cells #[.int .i64 c.reg, .int .i64 c.count, .string (bs c.op), .string (bs c.key), .string (bs c.arg)] 27)).alloc (.cells #[.int .i64 0, .int .i64 0, .string ⟨#[]⟩, .string ⟨#[]⟩, .string ⟨#[]⟩] 27) = W0 := ⟨_, rfl⟩
  obtain ⟨BP, BR, WB, SZ⟩ := Phr.start c hW0
  obtain ⟨ad, rfl⟩ := h.addr
  have X0 : Hid (∀ u, Below w.heap.size w u → u.cell? ad = some (.string (bs [103]))) := Lib.hid (fun u hu => h.at_ (j := 0) rfl hu)
  have x0 := X0.out W0 WB
  have e3 := BP.cell 3
  have f3 := BP.frozen 3
  have BP1 := BP.set_ 3 (.string (bs [103]))
  have BR1 := BR.far (p := ⟨w.heap.size, 3, none⟩) (by show w.heap.size + 1 ≠ w.heap.size; omega) (.string (bs [103]))
  have WB1 := WB.setCell (p := ⟨w.heap.size, 3, none⟩) (Nat.le_refl _) (.string (bs [103]))
  generalize hs1 : W0.setCell ⟨w.heap.size, 3, none⟩ (.string (bs [103])) = W1 at *
  have e3' := BP1.cell 3
  have f3' := BP1.frozen 3
  have BP2 := BP1.set_ 3 (.string ⟨#[103, 103]⟩)
  have BR2 := BR1.far (p := ⟨w.heap.size, 3, none⟩) (by show w.heap.size + 1 ≠ w.heap.size; omega) (.string ⟨#[103, 103]⟩)
  have WB2 := WB1.setCell (p := ⟨w.heap.size, 3, none⟩) (Nat.le_refl _) (.string ⟨#[103, 103]⟩)
  generalize hs2 : W1.setCell ⟨w.heap.size, 3, none⟩ (.string ⟨#[103, 103]⟩) = W2 at *
  simp at e3'
  have pc0 := BP2.cell 0
  have pc1 := BP2.cell 1
  have pc2 := BP2.cell 2
  have pc3 := BP2.cell 3
  have pc4 := BP2.cell 4
  simp at e3 pc0 pc1 pc2 pc3 pc4
  have X1 : Hid (∀ u, Below w.heap.size w u → u.cell? ⟨ad.block, ad.off + 1, none⟩ = some (.string (bs [103]))) := Lib.hid (fun u hu => h.at_ (j := 1) rfl hu)
  have x1 := X1.out W1 WB1
  have q : ((bs [103]).toList == [103]) = true := by rw [bs_tl]; rfl
  have I1 := Lib.hid (fun (w : World) => ref26_in ([103]) ⟨#[102, 70, 116, 84]⟩ (by decide) w)
  rw [show decide (([103]) ∈ (⟨#[102, 70, 116, 84]⟩ : ByteArray).data.toList.map ([·])) = false from by decide] at I1
  have I2 := Lib.hid (fun (w : World) => ref26_in ([103]) ⟨#[39, 96]⟩ (by decide) w)
  rw [show decide (([103]) ∈ (⟨#[39, 96]⟩ : ByteArray).data.toList.map ([·])) = false from by decide] at I2
  obtain ⟨AA, hAA⟩ : ∃ AA, (if n = 2 then (some ad : Option Addr) else some ⟨ad.block, ad.off + 2, none⟩) = AA := ⟨_, rfl⟩
  have BH := Lib.hid (fun (u : World) (A : Option Addr) (n : Nat) => show Calls Tryz.prog 33 #[.agg #[.int .i64 c.reg, .int .i64 c.count, .string (bs c.op), .string ⟨#[103, 103]⟩, .string (bs c.arg)], .slice A (t).length n] u (RefIs (Phr.last {c with key := [103, 103]} (t)) u) from ref26_last {c with key := [103, 103]} u)
  obtain ⟨X, hX⟩ : ∃ X, Phr.last {c with key := [103, 103]} (t) = X := ⟨_, rfl⟩
  rw [hX] at BH ⊢
  clear hX h
  have hcap := SZ
  clear BP BR WB BP1 BR1 WB1
  go_enter Tryz.func35, Tryz.ntmps35
  go_wp2_with (first
    | (go_at_call 29; (with_reducible refine (I1.out _).mono ?_); rintro e w1 ⟨rfl, rfl⟩)
    | (go_at_call 29; (with_reducible refine (I2.out _).mono ?_); rintro e w1 ⟨rfl, rfl⟩))
  go_region_with (go_at_call 33; refine (BH.out _ _ _).mono ?_; rintro e w4 ⟨rfl, hb4⟩; have BR4 := BR2.drew.below hb4 BR2.drew.lt; have W4 := WB2.drew.trans (hb4.mono WB2.drew.size); obtain ⟨⟨vp0, vr0⟩, ⟨vp1, vr1⟩, ⟨vp2, vr2⟩, ⟨vp3, vr3⟩, ⟨vp4, vr4⟩, vB⟩ := Phr.blk5 BR4 (.int .i64 X.1.reg) (.int .i64 X.1.count) (.string (bs X.1.op)) (.string (bs X.1.key)) (.string (bs X.1.arg)); have GG := Phr.put5_gb w4 (w.heap.size + 1) (.int .i64 X.1.reg) (.int .i64 X.1.count) (.string (bs X.1.op)) (.string (bs X.1.key)) (.string (bs X.1.arg)); unfold Phr.put5 at GG vB; generalize hv1 : w4.setCell ⟨w.heap.size + 1, 0, none⟩ (.int .i64 X.1.reg) = v1 at *; generalize hv2 : v1.setCell ⟨w.heap.size + 1, 1, none⟩ (.int .i64 X.1.count) = v2 at *; generalize hv3 : v2.setCell ⟨w.heap.size + 1, 2, none⟩ (.string (bs X.1.op)) = v3 at *; generalize hv4 : v3.setCell ⟨w.heap.size + 1, 3, none⟩ (.string (bs X.1.key)) = v4 at *; generalize hv5 : v4.setCell ⟨w.heap.size + 1, 4, none⟩ (.string (bs X.1.arg)) = v5 at *; have BB := Lib.hid vB; have W5 := W4.grown GG W4.size (fun j e => by injection e with e; omega); clear hb4 BR4 W4)
  all_goals
    go_wp2_with fail
    refine ret_five1 rfl rfl BB.out rfl Tryz.underlying27 (by kernel_rfl) ?_
    exact ⟨rfl, W5⟩
set_option maxHeartbeats 1000000 in
set_option maxRecDepth 100000 in
theorem ref26_motion_bare_no {A : Option Addr} {n : Nat} {k : List UInt8} {t : List (List UInt8)} {w : World} (c : Cmd) (h : Ls w A n (k :: t)) (ho : Utf.one k = true) (h1 : k ∉ Phr.finds) (h2 : k ∉ Phr.marks) (h3 : k ≠ [103]) (h4 : (Phr.mot k).isSome = true) :
    Calls Tryz.prog 35 #[.agg #[.int .i64 c.reg, .int .i64 c.count, .string (bs c.op), .string (bs c.key), .string (bs c.arg)], .slice A (t.length + 1) n, .bool false] w (RefIs (Phr.last {c with key := k} t) w) := by
  obtain ⟨W0, hW0⟩ : ∃ W0, (w.alloc (.cells #[.int .i64 c.reg, .int .i64 c.count, .string (bs c.op), .string (bs c.key), .string (bs c.arg)] 27)).alloc (.cells #[.int .i64 0, .int .i64 0, .string ⟨#[]⟩, .string ⟨#[]⟩, .string ⟨#[]⟩] 27) = W0 := ⟨_, rfl⟩
  obtain ⟨BP, BR, WB, SZ⟩ := Phr.start c hW0
  obtain ⟨ad, rfl⟩ := h.addr
  have X0 : Hid (∀ u, Below w.heap.size w u → u.cell? ad = some (.string (bs k))) := Lib.hid (fun u hu => h.at_ (j := 0) rfl hu)
  have x0 := X0.out W0 WB
  have e3 := BP.cell 3
  have f3 := BP.frozen 3
  have BP1 := BP.set_ 3 (.string (bs k))
  have BR1 := BR.far (p := ⟨w.heap.size, 3, none⟩) (by show w.heap.size + 1 ≠ w.heap.size; omega) (.string (bs k))
  have WB1 := WB.setCell (p := ⟨w.heap.size, 3, none⟩) (Nat.le_refl _) (.string (bs k))
  generalize hs1 : W0.setCell ⟨w.heap.size, 3, none⟩ (.string (bs k)) = W1 at *
  have pc0 := BP1.cell 0
  have pc1 := BP1.cell 1
  have pc2 := BP1.cell 2
  have pc3 := BP1.cell 3
  have pc4 := BP1.cell 4
  simp at e3 pc0 pc1 pc2 pc3 pc4
  have q : ((bs k).toList == [103]) = false := by rw [bs_tl, beq_eq_false_iff_ne]; exact h3
  have M := Lib.hid (fun w => ref26_Motion ho w)
  rw [h4] at M
  clear ho h4
  have I1 := Lib.hid (fun (w : World) => ref26_in (k) ⟨#[102, 70, 116, 84]⟩ (by decide) w)
  rw [show decide ((k) ∈ (⟨#[102, 70, 116, 84]⟩ : ByteArray).data.toList.map ([·])) = false from decide_eq_false h1] at I1
  have I2 := Lib.hid (fun (w : World) => ref26_in (k) ⟨#[39, 96]⟩ (by decide) w)
  rw [show decide ((k) ∈ (⟨#[39, 96]⟩ : ByteArray).data.toList.map ([·])) = false from decide_eq_false h2] at I2
  obtain ⟨AA, hAA⟩ : ∃ AA, (if n = 1 then (some ad : Option Addr) else some ⟨ad.block, ad.off + 1, none⟩) = AA := ⟨_, rfl⟩
  have BH := Lib.hid (fun (u : World) (A : Option Addr) (n : Nat) => show Calls Tryz.prog 33 #[.agg #[.int .i64 c.reg, .int .i64 c.count, .string (bs c.op), .string (bs (k)), .string (bs c.arg)], .slice A (t).length n] u (RefIs (Phr.last {c with key := k} (t)) u) from ref26_last {c with key := k} u)
  obtain ⟨X, hX⟩ : ∃ X, Phr.last {c with key := k} (t) = X := ⟨_, rfl⟩
  rw [hX] at BH ⊢
  clear hX h
  have hcap := SZ
  clear BP BR WB
  go_enter Tryz.func35, Tryz.ntmps35
  go_wp2_with (first
    | (go_at_call 53; (with_reducible refine (M.out _).mono ?_); rintro e w1 ⟨rfl, rfl⟩)
    | (go_at_call 29; (with_reducible refine (I1.out _).mono ?_); rintro e w1 ⟨rfl, rfl⟩)
    | (go_at_call 29; (with_reducible refine (I2.out _).mono ?_); rintro e w1 ⟨rfl, rfl⟩))
  go_region_with (go_at_call 33; refine (BH.out _ _ _).mono ?_; rintro e w4 ⟨rfl, hb4⟩; have BR4 := BR1.drew.below hb4 BR1.drew.lt; have W4 := WB1.drew.trans (hb4.mono WB1.drew.size); obtain ⟨⟨vp0, vr0⟩, ⟨vp1, vr1⟩, ⟨vp2, vr2⟩, ⟨vp3, vr3⟩, ⟨vp4, vr4⟩, vB⟩ := Phr.blk5 BR4 (.int .i64 X.1.reg) (.int .i64 X.1.count) (.string (bs X.1.op)) (.string (bs X.1.key)) (.string (bs X.1.arg)); have GG := Phr.put5_gb w4 (w.heap.size + 1) (.int .i64 X.1.reg) (.int .i64 X.1.count) (.string (bs X.1.op)) (.string (bs X.1.key)) (.string (bs X.1.arg)); unfold Phr.put5 at GG vB; generalize hv1 : w4.setCell ⟨w.heap.size + 1, 0, none⟩ (.int .i64 X.1.reg) = v1 at *; generalize hv2 : v1.setCell ⟨w.heap.size + 1, 1, none⟩ (.int .i64 X.1.count) = v2 at *; generalize hv3 : v2.setCell ⟨w.heap.size + 1, 2, none⟩ (.string (bs X.1.op)) = v3 at *; generalize hv4 : v3.setCell ⟨w.heap.size + 1, 3, none⟩ (.string (bs X.1.key)) = v4 at *; generalize hv5 : v4.setCell ⟨w.heap.size + 1, 4, none⟩ (.string (bs X.1.arg)) = v5 at *; have BB := Lib.hid vB; have W5 := W4.grown GG W4.size (fun j e => by injection e with e; omega); clear hb4 BR4 W4)
  all_goals
    go_wp2_with fail
    refine ret_five1 rfl rfl BB.out rfl Tryz.underlying27 (by kernel_rfl) ?_
    exact ⟨rfl, W5⟩
set_option maxHeartbeats 1000000 in
set_option maxRecDepth 100000 in
theorem ref26_motion_none_no {A : Option Addr} {n : Nat} {k : List UInt8} {t : List (List UInt8)} {w : World} (c : Cmd) (h : Ls w A n (k :: t)) (ho : Utf.one k = true) (h1 : k ∉ Phr.finds) (h2 : k ∉ Phr.marks) (h3 : k ≠ [103]) (h4 : (Phr.mot k).isSome = false) :
    Calls Tryz.prog 35 #[.agg #[.int .i64 c.reg, .int .i64 c.count, .string (bs c.op), .string (bs c.key), .string (bs c.arg)], .slice A (t.length + 1) n, .bool false] w (RefIs ((Phr.zero, 0)) w) := by
  obtain ⟨W0, hW0⟩ : ∃ W0, (w.alloc (.cells #[.int .i64 c.reg, .int .i64 c.count, .string (bs c.op), .string (bs c.key), .string (bs c.arg)] 27)).alloc (.cells #[.int .i64 0, .int .i64 0, .string ⟨#[]⟩, .string ⟨#[]⟩, .string ⟨#[]⟩] 27) = W0 := ⟨_, rfl⟩
  obtain ⟨BP, BR, WB, SZ⟩ := Phr.start c hW0
  obtain ⟨ad, rfl⟩ := h.addr
  have X0 : Hid (∀ u, Below w.heap.size w u → u.cell? ad = some (.string (bs k))) := Lib.hid (fun u hu => h.at_ (j := 0) rfl hu)
  have x0 := X0.out W0 WB
  have e3 := BP.cell 3
  have f3 := BP.frozen 3
  have BP1 := BP.set_ 3 (.string (bs k))
  have BR1 := BR.far (p := ⟨w.heap.size, 3, none⟩) (by show w.heap.size + 1 ≠ w.heap.size; omega) (.string (bs k))
  have WB1 := WB.setCell (p := ⟨w.heap.size, 3, none⟩) (Nat.le_refl _) (.string (bs k))
  generalize hs1 : W0.setCell ⟨w.heap.size, 3, none⟩ (.string (bs k)) = W1 at *
  have pc0 := BP1.cell 0
  have pc1 := BP1.cell 1
  have pc2 := BP1.cell 2
  have pc3 := BP1.cell 3
  have pc4 := BP1.cell 4
  simp at e3 pc0 pc1 pc2 pc3 pc4
  have q : ((bs k).toList == [103]) = false := by rw [bs_tl, beq_eq_false_iff_ne]; exact h3
  have M := Lib.hid (fun w => ref26_Motion ho w)
  rw [h4] at M
  clear ho h4
  have I1 := Lib.hid (fun (w : World) => ref26_in (k) ⟨#[102, 70, 116, 84]⟩ (by decide) w)
  rw [show decide ((k) ∈ (⟨#[102, 70, 116, 84]⟩ : ByteArray).data.toList.map ([·])) = false from decide_eq_false h1] at I1
  have I2 := Lib.hid (fun (w : World) => ref26_in (k) ⟨#[39, 96]⟩ (by decide) w)
  rw [show decide ((k) ∈ (⟨#[39, 96]⟩ : ByteArray).data.toList.map ([·])) = false from decide_eq_false h2] at I2
  obtain ⟨⟨vp0, vr0⟩, ⟨vp1, vr1⟩, ⟨vp2, vr2⟩, ⟨vp3, vr3⟩, ⟨vp4, vr4⟩, vB⟩ := Phr.blk5 BR1 (.int .i64 0) (.int .i64 0) (.string ⟨#[]⟩) (.string ⟨#[]⟩) (.string ⟨#[]⟩)
  have GG := Phr.put5_gb W1 (w.heap.size + 1) (.int .i64 0) (.int .i64 0) (.string ⟨#[]⟩) (.string ⟨#[]⟩) (.string ⟨#[]⟩)
  unfold Phr.put5 at GG vB
  generalize hv1 : W1.setCell ⟨w.heap.size + 1, 0, none⟩ (.int .i64 0) = v1 at *
  generalize hv2 : v1.setCell ⟨w.heap.size + 1, 1, none⟩ (.int .i64 0) = v2 at *
  generalize hv3 : v2.setCell ⟨w.heap.size + 1, 2, none⟩ (.string ⟨#[]⟩) = v3 at *
  generalize hv4 : v3.setCell ⟨w.heap.size + 1, 3, none⟩ (.string ⟨#[]⟩) = v4 at *
  generalize hv5 : v4.setCell ⟨w.heap.size + 1, 4, none⟩ (.string ⟨#[]⟩) = v5 at *
  have BB := Lib.hid vB
  have W5 := WB1.grown GG WB1.size (fun j e => by injection e with e; omega)
  clear h BP BR WB BP1 BR1 WB1
  go_enter Tryz.func35, Tryz.ntmps35
  go_wp2_with (first
    | (go_at_call 53; (with_reducible refine (M.out _).mono ?_); rintro e w1 ⟨rfl, rfl⟩)
    | (go_at_call 29; (with_reducible refine (I1.out _).mono ?_); rintro e w1 ⟨rfl, rfl⟩)
    | (go_at_call 29; (with_reducible refine (I2.out _).mono ?_); rintro e w1 ⟨rfl, rfl⟩))
  refine ret_five1 rfl rfl BB.out rfl Tryz.underlying27 (by kernel_rfl) ?_
  exact ⟨rfl, W5⟩
set_option maxHeartbeats 1000000 in
set_option maxRecDepth 100000 in
theorem ref26_motion_gend_no {A : Option Addr} {n : Nat}  {w : World} (c : Cmd) (h : Ls w A n ([[103]]))  :
    Calls Tryz.prog 35 #[.agg #[.int .i64 c.reg, .int .i64 c.count, .string (bs c.op), .string (bs c.key), .string (bs c.arg)], .slice A (1) n, .bool false] w (RefIs ((Phr.zero, 0)) w) := by
  obtain ⟨W0, hW0⟩ : ∃ W0, (w.alloc (.cells #[.int .i64 c.reg, .int .i64 c.count, .string (bs c.op), .string (bs c.key), .string (bs c.arg)] 27)).alloc (.cells #[.int .i64 0, .int .i64 0, .string ⟨#[]⟩, .string ⟨#[]⟩, .string ⟨#[]⟩] 27) = W0 := ⟨_, rfl⟩
  obtain ⟨BP, BR, WB, SZ⟩ := Phr.start c hW0
  obtain ⟨ad, rfl⟩ := h.addr
  have X0 : Hid (∀ u, Below w.heap.size w u → u.cell? ad = some (.string (bs [103]))) := Lib.hid (fun u hu => h.at_ (j := 0) rfl hu)
  have x0 := X0.out W0 WB
  have e3 := BP.cell 3
  have f3 := BP.frozen 3
  have BP1 := BP.set_ 3 (.string (bs [103]))
  have BR1 := BR.far (p := ⟨w.heap.size, 3, none⟩) (by show w.heap.size + 1 ≠ w.heap.size; omega) (.string (bs [103]))
  have WB1 := WB.setCell (p := ⟨w.heap.size, 3, none⟩) (Nat.le_refl _) (.string (bs [103]))
  generalize hs1 : W0.setCell ⟨w.heap.size, 3, none⟩ (.string (bs [103])) = W1 at *
  have pc0 := BP1.cell 0
  have pc1 := BP1.cell 1
  have pc2 := BP1.cell 2
  have pc3 := BP1.cell 3
  have pc4 := BP1.cell 4
  simp at e3 pc0 pc1 pc2 pc3 pc4
  have q : ((bs [103]).toList == [103]) = true := by rw [bs_tl]; rfl
  have I1 := Lib.hid (fun (w : World) => ref26_in ([103]) ⟨#[102, 70, 116, 84]⟩ (by decide) w)
  rw [show decide (([103]) ∈ (⟨#[102, 70, 116, 84]⟩ : ByteArray).data.toList.map ([·])) = false from by decide] at I1
  have I2 := Lib.hid (fun (w : World) => ref26_in ([103]) ⟨#[39, 96]⟩ (by decide) w)
  rw [show decide (([103]) ∈ (⟨#[39, 96]⟩ : ByteArray).data.toList.map ([·])) = false from by decide] at I2
  obtain ⟨⟨vp0, vr0⟩, ⟨vp1, vr1⟩, ⟨vp2, vr2⟩, ⟨vp3, vr3⟩, ⟨vp4, vr4⟩, vB⟩ := Phr.blk5 BR1 (.int .i64 0) (.int .i64 0) (.string ⟨#[]⟩) (.string ⟨#[]⟩) (.string ⟨#[]⟩)
  have GG := Phr.put5_gb W1 (w.heap.size + 1) (.int .i64 0) (.int .i64 0) (.string ⟨#[]⟩) (.string ⟨#[]⟩) (.string ⟨#[]⟩)
  unfold Phr.put5 at GG vB
  generalize hv1 : W1.setCell ⟨w.heap.size + 1, 0, none⟩ (.int .i64 0) = v1 at *
  generalize hv2 : v1.setCell ⟨w.heap.size + 1, 1, none⟩ (.int .i64 0) = v2 at *
  generalize hv3 : v2.setCell ⟨w.heap.size + 1, 2, none⟩ (.string ⟨#[]⟩) = v3 at *
  generalize hv4 : v3.setCell ⟨w.heap.size + 1, 3, none⟩ (.string ⟨#[]⟩) = v4 at *
  generalize hv5 : v4.setCell ⟨w.heap.size + 1, 4, none⟩ (.string ⟨#[]⟩) = v5 at *
  have BB := Lib.hid vB
  have W5 := WB1.grown GG WB1.size (fun j e => by injection e with e; omega)
  clear h BP BR WB BP1 BR1 WB1
  go_enter Tryz.func35, Tryz.ntmps35
  go_wp2_with (first
    | (go_at_call 29; (with_reducible refine (I1.out _).mono ?_); rintro e w1 ⟨rfl, rfl⟩)
    | (go_at_call 29; (with_reducible refine (I2.out _).mono ?_); rintro e w1 ⟨rfl, rfl⟩))
  refine ret_five1 rfl rfl BB.out rfl Tryz.underlying27 (by kernel_rfl) ?_
  exact ⟨rfl, W5⟩
set_option maxHeartbeats 1000000 in
set_option maxRecDepth 100000 in
theorem ref26_motion_gx_no {A : Option Addr} {n : Nat} {x : List UInt8} {t : List (List UInt8)} {w : World} (c : Cmd) (h : Ls w A n ([103] :: x :: t)) (hx : x ≠ [103]) :
    Calls Tryz.prog 35 #[.agg #[.int .i64 c.reg, .int .i64 c.count, .string (bs c.op), .string (bs c.key), .string (bs c.arg)], .slice A (t.length + 1 + 1) n, .bool false] w (RefIs ((Phr.zero, 0)) w) := by
  obtain ⟨W0, hW0⟩ : ∃ W0, (w.alloc (.cells #[.int .i64 c.reg, .int .i64 c.count, .string (bs c.op), .string (bs c.key), .string (bs c.arg)] 27)).alloc (.cells #[.int .i64 0, .int .i64 0, .string ⟨#[]⟩, .string ⟨#[]⟩, .string ⟨#[]⟩] 27) = W0 := ⟨_, rfl⟩
  obtain ⟨BP, BR, WB, SZ⟩ := Phr.start c hW0
  obtain ⟨ad, rfl⟩ := h.addr
  have X0 : Hid (∀ u, Below w.heap.size w u → u.cell? ad = some (.string (bs [103]))) := Lib.hid (fun u hu => h.at_ (j := 0) rfl hu)
  have x0 := X0.out W0 WB
  have e3 := BP.cell 3
  have f3 := BP.frozen 3
  have BP1 := BP.set_ 3 (.string (bs [103]))
  have BR1 := BR.far (p := ⟨w.heap.size, 3, none⟩) (by show w.heap.size + 1 ≠ w.heap.size; omega) (.string (bs [103]))
  have WB1 := WB.setCell (p := ⟨w.heap.size, 3, none⟩) (Nat.le_refl _) (.string (bs [103]))
  generalize hs1 : W0.setCell ⟨w.heap.size, 3, none⟩ (.string (bs [103])) = W1 at *
  have pc0 := BP1.cell 0
  have pc1 := BP1.cell 1
  have pc2 := BP1.cell 2
  have pc3 := BP1.cell 3
  have pc4 := BP1.cell 4
  simp at e3 pc0 pc1 pc2 pc3 pc4
  have X1 : Hid (∀ u, Below w.heap.size w u → u.cell? ⟨ad.block, ad.off + 1, none⟩ = some (.string (bs x))) := Lib.hid (fun u hu => h.at_ (j := 1) rfl hu)
  have x1 := X1.out W1 WB1
  have q : ((bs [103]).toList == [103]) = true := by rw [bs_tl]; rfl
  have q1 : ((bs x).toList == [103]) = false := by rw [bs_tl, beq_eq_false_iff_ne]; exact hx
  have I1 := Lib.hid (fun (w : World) => ref26_in ([103]) ⟨#[102, 70, 116, 84]⟩ (by decide) w)
  rw [show decide (([103]) ∈ (⟨#[102, 70, 116, 84]⟩ : ByteArray).data.toList.map ([·])) = false from by decide] at I1
  have I2 := Lib.hid (fun (w : World) => ref26_in ([103]) ⟨#[39, 96]⟩ (by decide) w)
  rw [show decide (([103]) ∈ (⟨#[39, 96]⟩ : ByteArray).data.toList.map ([·])) = false from by decide] at I2
  obtain ⟨⟨vp0, vr0⟩, ⟨vp1, vr1⟩, ⟨vp2, vr2⟩, ⟨vp3, vr3⟩, ⟨vp4, vr4⟩, vB⟩ := Phr.blk5 BR1 (.int .i64 0) (.int .i64 0) (.string ⟨#[]⟩) (.string ⟨#[]⟩) (.string ⟨#[]⟩)
  have GG := Phr.put5_gb W1 (w.heap.size + 1) (.int .i64 0) (.int .i64 0) (.string ⟨#[]⟩) (.string ⟨#[]⟩) (.string ⟨#[]⟩)
  unfold Phr.put5 at GG vB
  generalize hv1 : W1.setCell ⟨w.heap.size + 1, 0, none⟩ (.int .i64 0) = v1 at *
  generalize hv2 : v1.setCell ⟨w.heap.size + 1, 1, none⟩ (.int .i64 0) = v2 at *
  generalize hv3 : v2.setCell ⟨w.heap.size + 1, 2, none⟩ (.string ⟨#[]⟩) = v3 at *
  generalize hv4 : v3.setCell ⟨w.heap.size + 1, 3, none⟩ (.string ⟨#[]⟩) = v4 at *
  generalize hv5 : v4.setCell ⟨w.heap.size + 1, 4, none⟩ (.string ⟨#[]⟩) = v5 at *
  have BB := Lib.hid vB
  have W5 := WB1.grown GG WB1.size (fun j e => by injection e with e; omega)
  clear h BP BR WB BP1 BR1 WB1
  go_enter Tryz.func35, Tryz.ntmps35
  go_wp2_with (first
    | (go_at_call 29; (with_reducible refine (I1.out _).mono ?_); rintro e w1 ⟨rfl, rfl⟩)
    | (go_at_call 29; (with_reducible refine (I2.out _).mono ?_); rintro e w1 ⟨rfl, rfl⟩))
  refine ret_five1 rfl rfl BB.out rfl Tryz.underlying27 (by kernel_rfl) ?_
  exact ⟨rfl, W5⟩
set_option maxHeartbeats 1000000 in
set_option maxRecDepth 100000 in
theorem ref26_motion_thing_yes {A : Option Addr} {n : Nat} {k : List UInt8} {t : List (List UInt8)} {w : World} (c : Cmd) (h : Ls w A n (k :: t)) (h0 : k ∈ ([105, 97] : List UInt8).map ([·])) :
    Calls Tryz.prog 35 #[.agg #[.int .i64 c.reg, .int .i64 c.count, .string (bs c.op), .string (bs c.key), .string (bs c.arg)], .slice A (t.length + 1) n, .bool true] w (RefIs (Phr.behind {c with key := k} 1 t) w) := by
  obtain ⟨W0, hW0⟩ : ∃ W0, (w.alloc (.cells #[.int .i64 c.reg, .int .i64 c.count, .string (bs c.op), .string (bs c.key), .string (bs c.arg)] 27)).alloc (.cells #[.int .i64 0, .int .i64 0, .string ⟨#[]⟩, .string ⟨#[]⟩, .string ⟨#[]⟩] 27) = W0 := ⟨_, rfl⟩
  obtain ⟨BP, BR, WB, SZ⟩ := Phr.start c hW0
  obtain ⟨ad, rfl⟩ := h.addr
  have X0 : Hid (∀ u, Below w.heap.size w u → u.cell? ad = some (.string (bs k))) := Lib.hid (fun u hu => h.at_ (j := 0) rfl hu)
  have x0 := X0.out W0 WB
  have e3 := BP.cell 3
  have f3 := BP.frozen 3
  have BP1 := BP.set_ 3 (.string (bs k))
  have BR1 := BR.far (p := ⟨w.heap.size, 3, none⟩) (by show w.heap.size + 1 ≠ w.heap.size; omega) (.string (bs k))
  have WB1 := WB.setCell (p := ⟨w.heap.size, 3, none⟩) (Nat.le_refl _) (.string (bs k))
  generalize hs1 : W0.setCell ⟨w.heap.size, 3, none⟩ (.string (bs k)) = W1 at *
  have pc0 := BP1.cell 0
  have pc1 := BP1.cell 1
  have pc2 := BP1.cell 2
  have pc3 := BP1.cell 3
  have pc4 := BP1.cell 4
  simp at e3 pc0 pc1 pc2 pc3 pc4
  have I0 := Lib.hid (fun (w : World) => ref26_in (k) ⟨#[105, 97]⟩ (by decide) w)
  rw [show decide ((k) ∈ (⟨#[105, 97]⟩ : ByteArray).data.toList.map ([·])) = true from decide_eq_true h0] at I0
  obtain ⟨AA, hAA⟩ : ∃ AA, (if n = 1 then (some ad : Option Addr) else some ⟨ad.block, ad.off + 1, none⟩) = AA := ⟨_, rfl⟩
  have BH := Lib.hid (fun (u : World) (A : Option Addr) (n : Nat) (h : Ls u A n (t)) => show Calls Tryz.prog 34 #[.agg #[.int .i64 c.reg, .int .i64 c.count, .string (bs c.op), .string (bs (k)), .string (bs c.arg)], .slice A (t).length n, .int .i64 1] u (RefIs (Phr.behind {c with key := k} 1 (t)) u) from ref26_behind {c with key := k} h (by decide))
  have L2 : Hid (∀ u, Below w.heap.size w u → Ls u AA (n - 1) (t)) := Lib.hid (fun u hu => (h.below hu).cut hAA)
  obtain ⟨X, hX⟩ : ∃ X, Phr.behind {c with key := k} 1 (t) = X := ⟨_, rfl⟩
  rw [hX] at BH ⊢
  clear hX h
  have hcap := SZ
  clear BP BR WB
  go_enter Tryz.func35, Tryz.ntmps35
  go_wp2_with (first
    | (go_at_call 29; (with_reducible refine (I0.out _).mono ?_); rintro e w1 ⟨rfl, rfl⟩))
  go_region_with (go_at_call 34; refine (BH.out _ _ _ (L2.out _ WB1.drew)).mono ?_; rintro e w4 ⟨rfl, hb4⟩; have BR4 := BR1.drew.below hb4 BR1.drew.lt; have W4 := WB1.drew.trans (hb4.mono WB1.drew.size); obtain ⟨⟨vp0, vr0⟩, ⟨vp1, vr1⟩, ⟨vp2, vr2⟩, ⟨vp3, vr3⟩, ⟨vp4, vr4⟩, vB⟩ := Phr.blk5 BR4 (.int .i64 X.1.reg) (.int .i64 X.1.count) (.string (bs X.1.op)) (.string (bs X.1.key)) (.string (bs X.1.arg)); have GG := Phr.put5_gb w4 (w.heap.size + 1) (.int .i64 X.1.reg) (.int .i64 X.1.count) (.string (bs X.1.op)) (.string (bs X.1.key)) (.string (bs X.1.arg)); unfold Phr.put5 at GG vB; generalize hv1 : w4.setCell ⟨w.heap.size + 1, 0, none⟩ (.int .i64 X.1.reg) = v1 at *; generalize hv2 : v1.setCell ⟨w.heap.size + 1, 1, none⟩ (.int .i64 X.1.count) = v2 at *; generalize hv3 : v2.setCell ⟨w.heap.size + 1, 2, none⟩ (.string (bs X.1.op)) = v3 at *; generalize hv4 : v3.setCell ⟨w.heap.size + 1, 3, none⟩ (.string (bs X.1.key)) = v4 at *; generalize hv5 : v4.setCell ⟨w.heap.size + 1, 4, none⟩ (.string (bs X.1.arg)) = v5 at *; have BB := Lib.hid vB; have W5 := W4.grown GG W4.size (fun j e => by injection e with e; omega); clear hb4 BR4 W4)
  all_goals
    go_wp2_with fail
    refine ret_five1 rfl rfl BB.out rfl Tryz.underlying27 (by kernel_rfl) ?_
    exact ⟨rfl, W5⟩
theorem ref26_motion_yes {A : Option Addr} {n : Nat} {k : List UInt8} {t : List (List UInt8)} {w : World} (c : Cmd) (h : Ls w A n (k :: t)) :
    Calls Tryz.prog 35 #[.agg #[.int .i64 c.reg, .int .i64 c.count, .string (bs c.op), .string (bs c.key), .string (bs c.arg)], .slice A (t.length + 1) n, .bool true] w (RefIs (Phr.rmot c true k t) w) := by
  have ho := h.ones k (by simp)
  unfold Phr.rmot
  by_cases h0 : k ∈ ([105, 97] : List UInt8).map ([·])
  · rw [if_pos ⟨rfl, by simpa using h0⟩]; exact ref26_motion_thing_yes c h h0
  rw [if_neg (fun e => h0 (by simpa using e.2))]
  by_cases h1 : k ∈ Phr.finds
  · rw [if_pos h1]; exact ref26_motion_finds_yes c h h0 h1
  rw [if_neg h1]
  by_cases h2 : k ∈ Phr.marks
  · rw [if_pos h2]; exact ref26_motion_marks_yes c h h0 h1 h2
  rw [if_neg h2]
  by_cases h3 : k = [103]
  · subst h3
    match t, h with
    | [], h => rw [if_neg (by simp), if_neg (by simp)]; exact ref26_motion_gend_yes c h
    | x :: t, h =>
      by_cases hx : x = [103]
      · subst hx; rw [if_pos (by simp)]; exact ref26_motion_gg_yes c h
      · rw [if_neg (by simp [hx]), if_neg (by simp)]; exact ref26_motion_gx_yes c h hx
  rw [if_neg (by simp [h3])]
  cases h4 : (Phr.mot k).isSome with
  | true => rw [if_pos ⟨h3, rfl⟩]; exact ref26_motion_bare_yes c h h0 ho h1 h2 h3 h4
  | false => rw [if_neg (by simp)]; exact ref26_motion_none_yes c h h0 ho h1 h2 h3 h4
theorem ref26_motion_no {A : Option Addr} {n : Nat} {k : List UInt8} {t : List (List UInt8)} {w : World} (c : Cmd) (h : Ls w A n (k :: t)) :
    Calls Tryz.prog 35 #[.agg #[.int .i64 c.reg, .int .i64 c.count, .string (bs c.op), .string (bs c.key), .string (bs c.arg)], .slice A (t.length + 1) n, .bool false] w (RefIs (Phr.rmot c false k t) w) := by
  have ho := h.ones k (by simp)
  unfold Phr.rmot
  rw [if_neg (fun e => by cases e.1)]
  by_cases h1 : k ∈ Phr.finds
  · rw [if_pos h1]; exact ref26_motion_finds_no c h h1
  rw [if_neg h1]
  by_cases h2 : k ∈ Phr.marks
  · rw [if_pos h2]; exact ref26_motion_marks_no c h h1 h2
  rw [if_neg h2]
  by_cases h3 : k = [103]
  · subst h3
    match t, h with
    | [], h => rw [if_neg (by simp), if_neg (by simp)]; exact ref26_motion_gend_no c h
    | x :: t, h =>
      by_cases hx : x = [103]
      · subst hx; rw [if_pos (by simp)]; exact ref26_motion_gg_no c h
      · rw [if_neg (by simp [hx]), if_neg (by simp)]; exact ref26_motion_gx_no c h hx
  rw [if_neg (by simp [h3])]
  cases h4 : (Phr.mot k).isSome with
  | true => rw [if_pos ⟨h3, rfl⟩]; exact ref26_motion_bare_no c h ho h1 h2 h3 h4
  | false => rw [if_neg (by simp)]; exact ref26_motion_none_no c h ho h1 h2 h3 h4
theorem ref26_motion {A : Option Addr} {n : Nat} {k : List UInt8} {t : List (List UInt8)} {w : World} (c : Cmd) (th : Bool) (h : Ls w A n (k :: t)) :
    Calls Tryz.prog 35 #[.agg #[.int .i64 c.reg, .int .i64 c.count, .string (bs c.op), .string (bs c.key), .string (bs c.arg)], .slice A (t.length + 1) n, .bool th] w (RefIs (Phr.rmot c th k t) w) := by
  cases th with
  | true => exact ref26_motion_yes c h
  | false => exact ref26_motion_no c h
end Go.Proofs.YtchpkeelnfmlbaaGreat
