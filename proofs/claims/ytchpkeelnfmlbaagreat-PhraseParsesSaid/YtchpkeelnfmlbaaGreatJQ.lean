/-
  The document's commands: Parse.
-/
import Derived.Test.YtchpkeelnfmlbaaGreatJN
import Derived.Test.YtchpkeelnfmlbaaGreatJK
namespace Go.Proofs.YtchpkeelnfmlbaaGreat
open Go.RowKit
open Phr (Cmd Ans Ls RefIs RefFin)
namespace Phr
theorem name_sign {b : UInt8} (h : Key.isKey [b] = true) (hn : Reg.nameN (b.toNat : Int) ≠ 0) : (Utf.one [b] && Key.sgn [b]) = true := by
  have hb : 32 ≤ b.toNat ∧ b.toNat < 127 := by
    have h0 : b.toNat ≠ 0 := by
      intro e
      have : b = 0 := UInt8.toNat_inj.1 e
      subst this
      exact absurd h (by decide)
    unfold Reg.nameN at hn
    rw [if_neg (by omega)] at hn
    by_cases h1 : 65 ≤ (b.toNat : Int) ∧ (b.toNat : Int) ≤ 90
    · omega
    · rw [if_neg h1] at hn
      by_cases h2 : Reg.IsName (b.toNat : Int)
      · unfold Reg.IsName at h2; omega
      · rw [if_neg h2] at hn; exact absurd rfl hn
  rw [Bool.and_eq_true]
  refine ⟨(Utf.one1 b).2 (by omega), ?_⟩
  simp only [Key.sgn, Bool.and_eq_true, decide_eq_true_eq]
  show 32 ≤ b.toNat ∧ b.toNat ≠ 127
  omega
theorem name_no {b : UInt8} (h : Key.isKey [b] = true) (hs : (Utf.one [b] && Key.sgn [b]) = false) : name [b] = false := by
  cases hn : name [b] with
  | false => rfl
  | true =>
    have : Reg.nameN (b.toNat : Int) ≠ 0 := by simpa [name] using hn
    rw [name_sign h this] at hs
    cases hs
theorem name_long {k : List UInt8} (h : k.length ≠ 1) : name k = false := by
  unfold name
  split
  · exact absurd rfl h
  · rfl
end Phr
set_option maxHeartbeats 1000000 in
set_option maxRecDepth 100000 in
theorem ref26_Parse_bad {s : ByteArray} {v : Bool} {w : World} (hs : s.size ≤ 1000000000000) (he : Key.err s.data.toList ≠ 0) :
    Calls Tryz.prog 6 #[.string s, .bool v] w (RefIs Phr.bad w) := by
  have SP := Lib.hid (fun w => ref13_Split_cap s hs w)
  have q : (Key.err s.data.toList == 0) = false := by rw [beq_eq_false_iff_ne]; exact he
  have R0 := Blk.new w 27 #[.int .i64 0, .int .i64 0, .string ⟨#[]⟩, .string ⟨#[]⟩, .string ⟨#[]⟩]
  have B0 := (Below.refl w.heap.size w).alloc (Nat.le_refl _) (.cells #[.int .i64 0, .int .i64 0, .string ⟨#[]⟩, .string ⟨#[]⟩, .string ⟨#[]⟩] 27)
  generalize Key.err s.data.toList = er at *
  generalize Key.split s.data.toList = l at *
  clear he
  go_enter Tryz.func6, Tryz.ntmps6
  go_wp2_with (first
    | (go_at_call 9; refine (SP.out _).mono ?_; rintro e w1 ⟨A, n, rfl, hcap, hS, hb1⟩; have R1 := R0.below hb1 R0.lt; have hRP := R1.lt; have B1 := B0.trans (hb1.mono (by rw [World.size_alloc]; omega)); clear hb1 SP R0 B0; obtain ⟨⟨vp0, vr0⟩, ⟨vp1, vr1⟩, ⟨vp2, vr2⟩, ⟨vp3, vr3⟩, ⟨vp4, vr4⟩, vB⟩ := Phr.blk5 R1 (.int .i64 0) (.int .i64 0) (.string ⟨#[]⟩) (.string ⟨#[]⟩) (.string ⟨#[]⟩); have GG := Phr.put5_gb w1 w.heap.size (.int .i64 0) (.int .i64 0) (.string ⟨#[]⟩) (.string ⟨#[]⟩) (.string ⟨#[]⟩); unfold Phr.put5 at GG vB; generalize hv1 : w1.setCell ⟨w.heap.size, 0, none⟩ (.int .i64 0) = v1 at *; generalize hv2 : v1.setCell ⟨w.heap.size, 1, none⟩ (.int .i64 0) = v2 at *; generalize hv3 : v2.setCell ⟨w.heap.size, 2, none⟩ (.string ⟨#[]⟩) = v3 at *; generalize hv4 : v3.setCell ⟨w.heap.size, 3, none⟩ (.string ⟨#[]⟩) = v4 at *; generalize hv5 : v4.setCell ⟨w.heap.size, 4, none⟩ (.string ⟨#[]⟩) = v5 at *; have BB := Lib.hid vB; have W5 := B1.grown GG B1.size (fun j e => by injection e with e; omega); clear vB))
  all_goals
    refine ret_five1 rfl rfl BB.out rfl Tryz.underlying27 (by kernel_rfl) ?_
    exact ⟨rfl, W5⟩
set_option maxHeartbeats 1000000 in
set_option maxRecDepth 100000 in
theorem ref26_Parse_a0 {s : ByteArray} {v : Bool} {l : List (List UInt8)} {w : World} (hs : s.size ≤ 1000000000000) (he : Key.err s.data.toList = 0) (hl : Key.split s.data.toList = l) (hm : l.length ≤ 900) (hO : ∀ k ∈ l, Utf.one k = true) (h0 : l = []) :
    Calls Tryz.prog 6 #[.string s, .bool v] w (RefIs (Phr.parse v l) w) := by
  have HF : (Phr.more : Ans) = Phr.parse v l := by subst h0; rfl
  rw [← HF]
  clear HF
  have SP := Lib.hid (fun w => ref13_Split_cap s hs w)
  rw [he, hl] at SP
  have HO := Lib.hid hO
  have NUM := Lib.hid (fun (A : Option Addr) (n : Nat) (u : World) (h : Ls u A n l) => ref26_number h (by omega))
  have e1 : (Phr.number l).1 = 0 := by subst h0; rfl
  have e2 : Phr.took l = 0 := by subst h0; rfl
  have e3 : l.length = 0 := by subst h0; rfl
  rw [e1, e2, e3] at NUM
  obtain ⟨n1, hn1⟩ : ∃ n1 : Int, n1 = 0 := ⟨_, rfl⟩
  rw [← hn1] at NUM
  clear e1 e2 h0 hn1
  have R0 := Blk.new w 27 #[.int .i64 0, .int .i64 0, .string ⟨#[]⟩, .string ⟨#[]⟩, .string ⟨#[]⟩]
  have B0 := (Below.refl w.heap.size w).alloc (Nat.le_refl _) (.cells #[.int .i64 0, .int .i64 0, .string ⟨#[]⟩, .string ⟨#[]⟩, .string ⟨#[]⟩] 27)
  clear he hl hO
  go_enter Tryz.func6, Tryz.ntmps6
  go_wp2_with (first
    | (go_at_call 9; refine (SP.out _).mono ?_; rintro e w1 ⟨A, n, rfl, hcap, hS, hb1⟩; have R1 := R0.below hb1 R0.lt; have hRP := R1.lt; have B1 := B0.trans (hb1.mono (by rw [World.size_alloc]; omega)); clear hb1 SP R0 B0; have HL : Ls w1 A n l := ⟨hcap, hS, HO.out⟩; generalize hp0 : w1.alloc (.cells #[.int .i64 0, .int .i64 0, .string ⟨#[]⟩, .string ⟨#[]⟩, .string ⟨#[]⟩] 27) = p0 at *; have P0 := Blk.new w1 27 #[.int .i64 0, .int .i64 0, .string ⟨#[]⟩, .string ⟨#[]⟩, .string ⟨#[]⟩]; rw [hp0] at P0; have R2 : Blk p0 w.heap.size 27 #[.int .i64 0, .int .i64 0, .string ⟨#[]⟩, .string ⟨#[]⟩, .string ⟨#[]⟩] := (by rw [← hp0]; exact R1.alloc _); have K0 : Below w1.heap.size w1 p0 := (by rw [← hp0]; exact (Below.refl _ w1).alloc (Nat.le_refl _) _); have B2 : Below w.heap.size w p0 := (by rw [← hp0]; exact B1.alloc B1.size _); have NU := Lib.hid (NUM.out A n p0 (HL.below K0)); clear NUM hS hcap; have sc1 := P0.cell 1; have sf1 := P0.frozen 1; simp at sc1; have P1 := P0.set_ 1 (.int .i64 n1); have R2_1 := R2.far (p := ⟨w1.heap.size, 1, none⟩) (by show w.heap.size ≠ w1.heap.size; omega) (.int .i64 n1); have K1 := K0.setCell (p := ⟨w1.heap.size, 1, none⟩) (Nat.le_refl _) (.int .i64 n1); have B2_1 := B2.setCell (p := ⟨w1.heap.size, 1, none⟩) (by show w.heap.size ≤ w1.heap.size; omega) (.int .i64 n1); generalize hw1 : p0.setCell ⟨w1.heap.size, 1, none⟩ (.int .i64 n1) = p1 at *; obtain ⟨⟨vp0, vr0⟩, ⟨vp1, vr1⟩, ⟨vp2, vr2⟩, ⟨vp3, vr3⟩, ⟨vp4, vr4⟩, vB⟩ := Phr.blk5 R2_1 (.int .i64 0) (.int .i64 0) (.string ⟨#[]⟩) (.string ⟨#[]⟩) (.string ⟨#[]⟩); have GG := Phr.put5_gb p1 w.heap.size (.int .i64 0) (.int .i64 0) (.string ⟨#[]⟩) (.string ⟨#[]⟩) (.string ⟨#[]⟩); unfold Phr.put5 at GG vB; generalize hv1 : p1.setCell ⟨w.heap.size, 0, none⟩ (.int .i64 0) = v1 at *; generalize hv2 : v1.setCell ⟨w.heap.size, 1, none⟩ (.int .i64 0) = v2 at *; generalize hv3 : v2.setCell ⟨w.heap.size, 2, none⟩ (.string ⟨#[]⟩) = v3 at *; generalize hv4 : v3.setCell ⟨w.heap.size, 3, none⟩ (.string ⟨#[]⟩) = v4 at *; generalize hv5 : v4.setCell ⟨w.heap.size, 4, none⟩ (.string ⟨#[]⟩) = v5 at *; have BB := Lib.hid vB; have W5 := B2_1.grown GG B2_1.size (fun j e => by injection e with e; omega); clear vB)
    | (go_at_call 10; (with_reducible refine NU.out.mono ?_); rintro e w2 ⟨rfl, rfl⟩; clear NU))
  all_goals
    refine ret_five1 rfl rfl BB.out rfl Tryz.underlying27 (by kernel_rfl) ?_
    exact ⟨rfl, W5⟩
set_option maxHeartbeats 1000000 in
set_option maxRecDepth 100000 in
theorem ref26_Parse_a1 {s : ByteArray} {v : Bool} {l : List (List UInt8)} {w : World} (hs : s.size ≤ 1000000000000) (he : Key.err s.data.toList = 0) (hl : Key.split s.data.toList = l) (hm : l.length ≤ 900) (hO : ∀ k ∈ l, Utf.one k = true) (hne : l ≠ []) (hd : (Phr.number l).2 = []) :
    Calls Tryz.prog 6 #[.string s, .bool v] w (RefIs (Phr.parse v l) w) := by
  have HF : (Phr.more : Ans) = Phr.parse v l := by rw [Phr.parse, hd]; rfl
  rw [← HF]
  clear HF
  have SP := Lib.hid (fun w => ref13_Split_cap s hs w)
  rw [he, hl] at SP
  have HO := Lib.hid hO
  have NUM := Lib.hid (fun (A : Option Addr) (n : Nat) (u : World) (h : Ls u A n l) => ref26_number h (by omega))
  have hdr := Phr.took_drop l
  have htl := Phr.took_le l
  have hz : l.length - Phr.took l = (Phr.number l).2.length := by rw [← hdr, List.length_drop]
  rw [hd] at hz hdr
  clear hd
  generalize (Phr.number l).1 = n1 at *
  generalize Phr.took l = i at *
  have hti : (i : Int) ≤ l.length := by omega
  have R0 := Blk.new w 27 #[.int .i64 0, .int .i64 0, .string ⟨#[]⟩, .string ⟨#[]⟩, .string ⟨#[]⟩]
  have B0 := (Below.refl w.heap.size w).alloc (Nat.le_refl _) (.cells #[.int .i64 0, .int .i64 0, .string ⟨#[]⟩, .string ⟨#[]⟩, .string ⟨#[]⟩] 27)
  clear he hl hO
  go_enter Tryz.func6, Tryz.ntmps6
  go_wp2_with (first
    | (go_at_call 9; refine (SP.out _).mono ?_; rintro e w1 ⟨A, n, rfl, hcap, hS, hb1⟩; have R1 := R0.below hb1 R0.lt; have hRP := R1.lt; have B1 := B0.trans (hb1.mono (by rw [World.size_alloc]; omega)); clear hb1 SP R0 B0; have HL : Ls w1 A n l := ⟨hcap, hS, HO.out⟩; generalize hp0 : w1.alloc (.cells #[.int .i64 0, .int .i64 0, .string ⟨#[]⟩, .string ⟨#[]⟩, .string ⟨#[]⟩] 27) = p0 at *; have P0 := Blk.new w1 27 #[.int .i64 0, .int .i64 0, .string ⟨#[]⟩, .string ⟨#[]⟩, .string ⟨#[]⟩]; rw [hp0] at P0; have R2 : Blk p0 w.heap.size 27 #[.int .i64 0, .int .i64 0, .string ⟨#[]⟩, .string ⟨#[]⟩, .string ⟨#[]⟩] := (by rw [← hp0]; exact R1.alloc _); have K0 : Below w1.heap.size w1 p0 := (by rw [← hp0]; exact (Below.refl _ w1).alloc (Nat.le_refl _) _); have B2 : Below w.heap.size w p0 := (by rw [← hp0]; exact B1.alloc B1.size _); have NU := Lib.hid (NUM.out A n p0 (HL.below K0)); clear NUM hS hcap; have sc1 := P0.cell 1; have sf1 := P0.frozen 1; simp at sc1; have P1 := P0.set_ 1 (.int .i64 n1); have R2_1 := R2.far (p := ⟨w1.heap.size, 1, none⟩) (by show w.heap.size ≠ w1.heap.size; omega) (.int .i64 n1); have K1 := K0.setCell (p := ⟨w1.heap.size, 1, none⟩) (Nat.le_refl _) (.int .i64 n1); have B2_1 := B2.setCell (p := ⟨w1.heap.size, 1, none⟩) (by show w.heap.size ≤ w1.heap.size; omega) (.int .i64 n1); generalize hw1 : p0.setCell ⟨w1.heap.size, 1, none⟩ (.int .i64 n1) = p1 at *; obtain ⟨ad, e⟩ : ∃ ad, A = some ad := (by obtain ⟨ad, e, _⟩ := HL.strs (by rw [List.length_map]; exact List.length_pos_iff.2 hne); exact ⟨ad, e⟩); subst e; obtain ⟨AA, hAA⟩ : ∃ AA, (if n = i then (some ad : Option Addr) else some (ad.add i)) = AA := ⟨_, rfl⟩; have LL : Hid (∀ u, Below w1.heap.size w1 u → Ls u AA (n - i) ([])) := Lib.hid (fun u hu => by rw [← hdr]; exact (HL.below hu).slice hAA); obtain ⟨⟨vp0, vr0⟩, ⟨vp1, vr1⟩, ⟨vp2, vr2⟩, ⟨vp3, vr3⟩, ⟨vp4, vr4⟩, vB⟩ := Phr.blk5 R2_1 (.int .i64 0) (.int .i64 0) (.string ⟨#[]⟩) (.string ⟨#[]⟩) (.string ⟨#[]⟩); have GG := Phr.put5_gb p1 w.heap.size (.int .i64 0) (.int .i64 0) (.string ⟨#[]⟩) (.string ⟨#[]⟩) (.string ⟨#[]⟩); unfold Phr.put5 at GG vB; generalize hv1 : p1.setCell ⟨w.heap.size, 0, none⟩ (.int .i64 0) = v1 at *; generalize hv2 : v1.setCell ⟨w.heap.size, 1, none⟩ (.int .i64 0) = v2 at *; generalize hv3 : v2.setCell ⟨w.heap.size, 2, none⟩ (.string ⟨#[]⟩) = v3 at *; generalize hv4 : v3.setCell ⟨w.heap.size, 3, none⟩ (.string ⟨#[]⟩) = v4 at *; generalize hv5 : v4.setCell ⟨w.heap.size, 4, none⟩ (.string ⟨#[]⟩) = v5 at *; have BB := Lib.hid vB; have W5 := B2_1.grown GG B2_1.size (fun j e => by injection e with e; omega); clear vB)
    | (go_at_call 10; (with_reducible refine NU.out.mono ?_); rintro e w2 ⟨rfl, rfl⟩; clear NU))
  all_goals
    refine ret_five1 rfl rfl BB.out rfl Tryz.underlying27 (by kernel_rfl) ?_
    exact ⟨rfl, W5⟩
set_option maxHeartbeats 1000000 in
set_option maxRecDepth 100000 in
theorem ref26_Parse_b {s : ByteArray} {v : Bool} {l : List (List UInt8)} {w : World} (hs : s.size ≤ 1000000000000) (he : Key.err s.data.toList = 0) (hl : Key.split s.data.toList = l) (hm : l.length ≤ 900) (hO : ∀ k ∈ l, Utf.one k = true) (hd : (Phr.number l).2 = [[34]]) :
    Calls Tryz.prog 6 #[.string s, .bool v] w (RefIs (Phr.parse v l) w) := by
  have HF : (Phr.more : Ans) = Phr.parse v l := by rw [Phr.parse, hd]; rfl
  rw [← HF]
  clear HF
  have SP := Lib.hid (fun w => ref13_Split_cap s hs w)
  rw [he, hl] at SP
  have HO := Lib.hid hO
  have NUM := Lib.hid (fun (A : Option Addr) (n : Nat) (u : World) (h : Ls u A n l) => ref26_number h (by omega))
  have hne : l ≠ [] := by rintro rfl; cases hd
  have hdr := Phr.took_drop l
  have htl := Phr.took_le l
  have hz : l.length - Phr.took l = (Phr.number l).2.length := by rw [← hdr, List.length_drop]
  rw [hd] at hz hdr
  clear hd
  generalize (Phr.number l).1 = n1 at *
  generalize Phr.took l = i at *
  have hti : (i : Int) ≤ l.length := by omega
  have q34 : ((bs [34]).toList == [34]) = true := by rw [bs_tl]; rfl
  have R0 := Blk.new w 27 #[.int .i64 0, .int .i64 0, .string ⟨#[]⟩, .string ⟨#[]⟩, .string ⟨#[]⟩]
  have B0 := (Below.refl w.heap.size w).alloc (Nat.le_refl _) (.cells #[.int .i64 0, .int .i64 0, .string ⟨#[]⟩, .string ⟨#[]⟩, .string ⟨#[]⟩] 27)
  clear he hl hO
  go_enter Tryz.func6, Tryz.ntmps6
  go_wp2_with (first
    | (go_at_call 9; refine (SP.out _).mono ?_; rintro e w1 ⟨A, n, rfl, hcap, hS, hb1⟩; have R1 := R0.below hb1 R0.lt; have hRP := R1.lt; have B1 := B0.trans (hb1.mono (by rw [World.size_alloc]; omega)); clear hb1 SP R0 B0; have HL : Ls w1 A n l := ⟨hcap, hS, HO.out⟩; generalize hp0 : w1.alloc (.cells #[.int .i64 0, .int .i64 0, .string ⟨#[]⟩, .string ⟨#[]⟩, .string ⟨#[]⟩] 27) = p0 at *; have P0 := Blk.new w1 27 #[.int .i64 0, .int .i64 0, .string ⟨#[]⟩, .string ⟨#[]⟩, .string ⟨#[]⟩]; rw [hp0] at P0; have R2 : Blk p0 w.heap.size 27 #[.int .i64 0, .int .i64 0, .string ⟨#[]⟩, .string ⟨#[]⟩, .string ⟨#[]⟩] := (by rw [← hp0]; exact R1.alloc _); have K0 : Below w1.heap.size w1 p0 := (by rw [← hp0]; exact (Below.refl _ w1).alloc (Nat.le_refl _) _); have B2 : Below w.heap.size w p0 := (by rw [← hp0]; exact B1.alloc B1.size _); have NU := Lib.hid (NUM.out A n p0 (HL.below K0)); clear NUM hS hcap; have sc1 := P0.cell 1; have sf1 := P0.frozen 1; simp at sc1; have P1 := P0.set_ 1 (.int .i64 n1); have R2_1 := R2.far (p := ⟨w1.heap.size, 1, none⟩) (by show w.heap.size ≠ w1.heap.size; omega) (.int .i64 n1); have K1 := K0.setCell (p := ⟨w1.heap.size, 1, none⟩) (Nat.le_refl _) (.int .i64 n1); have B2_1 := B2.setCell (p := ⟨w1.heap.size, 1, none⟩) (by show w.heap.size ≤ w1.heap.size; omega) (.int .i64 n1); generalize hw1 : p0.setCell ⟨w1.heap.size, 1, none⟩ (.int .i64 n1) = p1 at *; obtain ⟨ad, e⟩ : ∃ ad, A = some ad := (by obtain ⟨ad, e, _⟩ := HL.strs (by rw [List.length_map]; exact List.length_pos_iff.2 hne); exact ⟨ad, e⟩); subst e; obtain ⟨AA, hAA⟩ : ∃ AA, (if n = i then (some ad : Option Addr) else some (ad.add i)) = AA := ⟨_, rfl⟩; have LL : Hid (∀ u, Below w1.heap.size w1 u → Ls u AA (n - i) ([[34]])) := Lib.hid (fun u hu => by rw [← hdr]; exact (HL.below hu).slice hAA); obtain ⟨ae, rfl⟩ := (LL.out w1 (Below.refl _ _)).addr; have x0 : p1.cell? ae = some (.string (bs [34])) := (LL.out w1 (Below.refl _ _)).at_ (j := 0) (k := [34]) rfl K1; obtain ⟨⟨vp0, vr0⟩, ⟨vp1, vr1⟩, ⟨vp2, vr2⟩, ⟨vp3, vr3⟩, ⟨vp4, vr4⟩, vB⟩ := Phr.blk5 R2_1 (.int .i64 0) (.int .i64 0) (.string ⟨#[]⟩) (.string ⟨#[]⟩) (.string ⟨#[]⟩); have GG := Phr.put5_gb p1 w.heap.size (.int .i64 0) (.int .i64 0) (.string ⟨#[]⟩) (.string ⟨#[]⟩) (.string ⟨#[]⟩); unfold Phr.put5 at GG vB; generalize hv1 : p1.setCell ⟨w.heap.size, 0, none⟩ (.int .i64 0) = v1 at *; generalize hv2 : v1.setCell ⟨w.heap.size, 1, none⟩ (.int .i64 0) = v2 at *; generalize hv3 : v2.setCell ⟨w.heap.size, 2, none⟩ (.string ⟨#[]⟩) = v3 at *; generalize hv4 : v3.setCell ⟨w.heap.size, 3, none⟩ (.string ⟨#[]⟩) = v4 at *; generalize hv5 : v4.setCell ⟨w.heap.size, 4, none⟩ (.string ⟨#[]⟩) = v5 at *; have BB := Lib.hid vB; have W5 := B2_1.grown GG B2_1.size (fun j e => by injection e with e; omega); clear vB)
    | (go_at_call 10; (with_reducible refine NU.out.mono ?_); rintro e w2 ⟨rfl, rfl⟩; clear NU))
  all_goals
    refine ret_five1 rfl rfl BB.out rfl Tryz.underlying27 (by kernel_rfl) ?_
    exact ⟨rfl, W5⟩
set_option maxHeartbeats 1000000 in
set_option maxRecDepth 100000 in
theorem ref26_Parse_c1 {s : ByteArray} {v : Bool} {l : List (List UInt8)} {k : List UInt8} {t : List (List UInt8)} {w : World} (hs : s.size ≤ 1000000000000) (he : Key.err s.data.toList = 0) (hl : Key.split s.data.toList = l) (hm : l.length ≤ 900) (hO : ∀ k ∈ l, Utf.one k = true) (hd : (Phr.number l).2 = [34] :: k :: t) (hk : k.length ≠ 1) :
    Calls Tryz.prog 6 #[.string s, .bool v] w (RefIs (Phr.parse v l) w) := by
  have HF : (Phr.bad : Ans) = Phr.parse v l := by rw [Phr.parse, hd]; simp [Phr.reg, Phr.name_long hk]
  rw [← HF]
  clear HF
  have SP := Lib.hid (fun w => ref13_Split_cap s hs w)
  rw [he, hl] at SP
  have HO := Lib.hid hO
  have NUM := Lib.hid (fun (A : Option Addr) (n : Nat) (u : World) (h : Ls u A n l) => ref26_number h (by omega))
  have hne : l ≠ [] := by rintro rfl; cases hd
  have hdr := Phr.took_drop l
  have htl := Phr.took_le l
  have hz : l.length - Phr.took l = (Phr.number l).2.length := by rw [← hdr, List.length_drop]
  rw [hd] at hz hdr
  clear hd
  generalize (Phr.number l).1 = n1 at *
  generalize Phr.took l = i at *
  have hti : (i : Int) ≤ l.length := by omega
  have q34 : ((bs [34]).toList == [34]) = true := by rw [bs_tl]; rfl
  have s0 : ((bs k).size : Int) ≠ 1 := by rw [bs_size]; omega
  clear hk
  have R0 := Blk.new w 27 #[.int .i64 0, .int .i64 0, .string ⟨#[]⟩, .string ⟨#[]⟩, .string ⟨#[]⟩]
  have B0 := (Below.refl w.heap.size w).alloc (Nat.le_refl _) (.cells #[.int .i64 0, .int .i64 0, .string ⟨#[]⟩, .string ⟨#[]⟩, .string ⟨#[]⟩] 27)
  clear he hl hO
  go_enter Tryz.func6, Tryz.ntmps6
  go_wp2_with (first
    | (go_at_call 9; refine (SP.out _).mono ?_; rintro e w1 ⟨A, n, rfl, hcap, hS, hb1⟩; have R1 := R0.below hb1 R0.lt; have hRP := R1.lt; have B1 := B0.trans (hb1.mono (by rw [World.size_alloc]; omega)); clear hb1 SP R0 B0; have HL : Ls w1 A n l := ⟨hcap, hS, HO.out⟩; generalize hp0 : w1.alloc (.cells #[.int .i64 0, .int .i64 0, .string ⟨#[]⟩, .string ⟨#[]⟩, .string ⟨#[]⟩] 27) = p0 at *; have P0 := Blk.new w1 27 #[.int .i64 0, .int .i64 0, .string ⟨#[]⟩, .string ⟨#[]⟩, .string ⟨#[]⟩]; rw [hp0] at P0; have R2 : Blk p0 w.heap.size 27 #[.int .i64 0, .int .i64 0, .string ⟨#[]⟩, .string ⟨#[]⟩, .string ⟨#[]⟩] := (by rw [← hp0]; exact R1.alloc _); have K0 : Below w1.heap.size w1 p0 := (by rw [← hp0]; exact (Below.refl _ w1).alloc (Nat.le_refl _) _); have B2 : Below w.heap.size w p0 := (by rw [← hp0]; exact B1.alloc B1.size _); have NU := Lib.hid (NUM.out A n p0 (HL.below K0)); clear NUM hS hcap; have sc1 := P0.cell 1; have sf1 := P0.frozen 1; simp at sc1; have P1 := P0.set_ 1 (.int .i64 n1); have R2_1 := R2.far (p := ⟨w1.heap.size, 1, none⟩) (by show w.heap.size ≠ w1.heap.size; omega) (.int .i64 n1); have K1 := K0.setCell (p := ⟨w1.heap.size, 1, none⟩) (Nat.le_refl _) (.int .i64 n1); have B2_1 := B2.setCell (p := ⟨w1.heap.size, 1, none⟩) (by show w.heap.size ≤ w1.heap.size; omega) (.int .i64 n1); generalize hw1 : p0.setCell ⟨w1.heap.size, 1, none⟩ (.int .i64 n1) = p1 at *; obtain ⟨ad, e⟩ : ∃ ad, A = some ad := (by obtain ⟨ad, e, _⟩ := HL.strs (by rw [List.length_map]; exact List.length_pos_iff.2 hne); exact ⟨ad, e⟩); subst e; obtain ⟨AA, hAA⟩ : ∃ AA, (if n = i then (some ad : Option Addr) else some (ad.add i)) = AA := ⟨_, rfl⟩; have LL : Hid (∀ u, Below w1.heap.size w1 u → Ls u AA (n - i) ([34] :: k :: t)) := Lib.hid (fun u hu => by rw [← hdr]; exact (HL.below hu).slice hAA); obtain ⟨ae, rfl⟩ := (LL.out w1 (Below.refl _ _)).addr; have x0 : p1.cell? ae = some (.string (bs [34])) := (LL.out w1 (Below.refl _ _)).at_ (j := 0) (k := [34]) rfl K1; have x1 : p1.cell? ⟨ae.block, ae.off + 1, none⟩ = some (.string (bs k)) := (LL.out w1 (Below.refl _ _)).at_ (j := 1) (k := k) rfl K1; obtain ⟨⟨vp0, vr0⟩, ⟨vp1, vr1⟩, ⟨vp2, vr2⟩, ⟨vp3, vr3⟩, ⟨vp4, vr4⟩, vB⟩ := Phr.blk5 R2_1 (.int .i64 0) (.int .i64 0) (.string ⟨#[]⟩) (.string ⟨#[]⟩) (.string ⟨#[]⟩); have GG := Phr.put5_gb p1 w.heap.size (.int .i64 0) (.int .i64 0) (.string ⟨#[]⟩) (.string ⟨#[]⟩) (.string ⟨#[]⟩); unfold Phr.put5 at GG vB; generalize hv1 : p1.setCell ⟨w.heap.size, 0, none⟩ (.int .i64 0) = v1 at *; generalize hv2 : v1.setCell ⟨w.heap.size, 1, none⟩ (.int .i64 0) = v2 at *; generalize hv3 : v2.setCell ⟨w.heap.size, 2, none⟩ (.string ⟨#[]⟩) = v3 at *; generalize hv4 : v3.setCell ⟨w.heap.size, 3, none⟩ (.string ⟨#[]⟩) = v4 at *; generalize hv5 : v4.setCell ⟨w.heap.size, 4, none⟩ (.string ⟨#[]⟩) = v5 at *; have BB := Lib.hid vB; have W5 := B2_1.grown GG B2_1.size (fun j e => by injection e with e; omega); clear vB)
    | (go_at_call 10; (with_reducible refine NU.out.mono ?_); rintro e w2 ⟨rfl, rfl⟩; clear NU))
  all_goals
    refine ret_five1 rfl rfl BB.out rfl Tryz.underlying27 (by kernel_rfl) ?_
    exact ⟨rfl, W5⟩
set_option maxHeartbeats 1000000 in
set_option maxRecDepth 100000 in
theorem ref26_Parse_c2a {s : ByteArray} {v : Bool} {l : List (List UInt8)} {b : UInt8} {t : List (List UInt8)} {w : World} (hs : s.size ≤ 1000000000000) (he : Key.err s.data.toList = 0) (hl : Key.split s.data.toList = l) (hm : l.length ≤ 900) (hO : ∀ k ∈ l, Utf.one k = true) (hd : (Phr.number l).2 = [34] :: [b] :: t) (hk : Key.isKey [b] = true) (hsg : (Utf.one [b] && Key.sgn [b]) = false) :
    Calls Tryz.prog 6 #[.string s, .bool v] w (RefIs (Phr.parse v l) w) := by
  have HF : (Phr.bad : Ans) = Phr.parse v l := by rw [Phr.parse, hd]; simp [Phr.reg, Phr.name_no hk hsg]
  rw [← HF]
  clear HF
  have SP := Lib.hid (fun w => ref13_Split_cap s hs w)
  rw [he, hl] at SP
  have HO := Lib.hid hO
  have NUM := Lib.hid (fun (A : Option Addr) (n : Nat) (u : World) (h : Ls u A n l) => ref26_number h (by omega))
  have hne : l ≠ [] := by rintro rfl; cases hd
  have hdr := Phr.took_drop l
  have htl := Phr.took_le l
  have hz : l.length - Phr.took l = (Phr.number l).2.length := by rw [← hdr, List.length_drop]
  rw [hd] at hz hdr
  clear hd
  generalize (Phr.number l).1 = n1 at *
  generalize Phr.took l = i at *
  have hti : (i : Int) ≤ l.length := by omega
  have q34 : ((bs [34]).toList == [34]) = true := by rw [bs_tl]; rfl
  obtain ⟨S, hS0⟩ : ∃ S, bs [b] = S := ⟨_, rfl⟩
  have Q0 : 0 < S.size := by rw [← hS0]; exact Nat.one_pos
  have s0 : (S.size : Int) = 1 := by rw [← hS0]; rfl
  have Q1 : (S[0].toNat : Int) = (b.toNat : Int) := by subst hS0; rfl
  have zb : wrap64 (b.toNat : Int) = (b.toNat : Int) := by have := b.toNat_lt; unfold wrap64; omega
  have SG := Lib.hid (fun w => ref13_Sign S w)
  have NM := Lib.hid (fun w => ref21_Name (b.toNat : Int) w)
  have hSb := Lib.hid hS0
  rw [show (Utf.one S.data.toList && Key.sgn S.data.toList) = false by rw [← hS0]; exact hsg] at SG
  clear hS0 hsg hk
  have R0 := Blk.new w 27 #[.int .i64 0, .int .i64 0, .string ⟨#[]⟩, .string ⟨#[]⟩, .string ⟨#[]⟩]
  have B0 := (Below.refl w.heap.size w).alloc (Nat.le_refl _) (.cells #[.int .i64 0, .int .i64 0, .string ⟨#[]⟩, .string ⟨#[]⟩, .string ⟨#[]⟩] 27)
  clear he hl hO
  go_enter Tryz.func6, Tryz.ntmps6
  go_wp2_with (first
    | (go_at_call 9; refine (SP.out _).mono ?_; rintro e w1 ⟨A, n, rfl, hcap, hS, hb1⟩; have R1 := R0.below hb1 R0.lt; have hRP := R1.lt; have B1 := B0.trans (hb1.mono (by rw [World.size_alloc]; omega)); clear hb1 SP R0 B0; have HL : Ls w1 A n l := ⟨hcap, hS, HO.out⟩; generalize hp0 : w1.alloc (.cells #[.int .i64 0, .int .i64 0, .string ⟨#[]⟩, .string ⟨#[]⟩, .string ⟨#[]⟩] 27) = p0 at *; have P0 := Blk.new w1 27 #[.int .i64 0, .int .i64 0, .string ⟨#[]⟩, .string ⟨#[]⟩, .string ⟨#[]⟩]; rw [hp0] at P0; have R2 : Blk p0 w.heap.size 27 #[.int .i64 0, .int .i64 0, .string ⟨#[]⟩, .string ⟨#[]⟩, .string ⟨#[]⟩] := (by rw [← hp0]; exact R1.alloc _); have K0 : Below w1.heap.size w1 p0 := (by rw [← hp0]; exact (Below.refl _ w1).alloc (Nat.le_refl _) _); have B2 : Below w.heap.size w p0 := (by rw [← hp0]; exact B1.alloc B1.size _); have NU := Lib.hid (NUM.out A n p0 (HL.below K0)); clear NUM hS hcap; have sc1 := P0.cell 1; have sf1 := P0.frozen 1; simp at sc1; have P1 := P0.set_ 1 (.int .i64 n1); have R2_1 := R2.far (p := ⟨w1.heap.size, 1, none⟩) (by show w.heap.size ≠ w1.heap.size; omega) (.int .i64 n1); have K1 := K0.setCell (p := ⟨w1.heap.size, 1, none⟩) (Nat.le_refl _) (.int .i64 n1); have B2_1 := B2.setCell (p := ⟨w1.heap.size, 1, none⟩) (by show w.heap.size ≤ w1.heap.size; omega) (.int .i64 n1); generalize hw1 : p0.setCell ⟨w1.heap.size, 1, none⟩ (.int .i64 n1) = p1 at *; obtain ⟨ad, e⟩ : ∃ ad, A = some ad := (by obtain ⟨ad, e, _⟩ := HL.strs (by rw [List.length_map]; exact List.length_pos_iff.2 hne); exact ⟨ad, e⟩); subst e; obtain ⟨AA, hAA⟩ : ∃ AA, (if n = i then (some ad : Option Addr) else some (ad.add i)) = AA := ⟨_, rfl⟩; have LL : Hid (∀ u, Below w1.heap.size w1 u → Ls u AA (n - i) ([34] :: [b] :: t)) := Lib.hid (fun u hu => by rw [← hdr]; exact (HL.below hu).slice hAA); obtain ⟨ae, rfl⟩ := (LL.out w1 (Below.refl _ _)).addr; have x0 : p1.cell? ae = some (.string (bs [34])) := (LL.out w1 (Below.refl _ _)).at_ (j := 0) (k := [34]) rfl K1; have x1 : p1.cell? ⟨ae.block, ae.off + 1, none⟩ = some (.string S) := (by rw [← hSb.out]; exact (LL.out w1 (Below.refl _ _)).at_ (j := 1) (k := [b]) rfl K1))
    | (go_at_call 10; (with_reducible refine NU.out.mono ?_); rintro e w2 ⟨rfl, rfl⟩; clear NU)
    | (go_at_call 11; (with_reducible refine (SG.out _).mono ?_); rintro e w3 ⟨rfl, hb3⟩; have P2 := P1.below hb3 P1.lt; have R2_2 := R2_1.below hb3 R2_1.lt; have K2 := K1.trans (hb3.mono K1.size); have B2_2 := B2_1.trans (hb3.mono B2_1.size); obtain ⟨⟨vp0, vr0⟩, ⟨vp1, vr1⟩, ⟨vp2, vr2⟩, ⟨vp3, vr3⟩, ⟨vp4, vr4⟩, vB⟩ := Phr.blk5 R2_2 (.int .i64 0) (.int .i64 0) (.string ⟨#[]⟩) (.string ⟨#[]⟩) (.string ⟨#[]⟩); have GG := Phr.put5_gb w3 w.heap.size (.int .i64 0) (.int .i64 0) (.string ⟨#[]⟩) (.string ⟨#[]⟩) (.string ⟨#[]⟩); unfold Phr.put5 at GG vB; generalize hv1 : w3.setCell ⟨w.heap.size, 0, none⟩ (.int .i64 0) = v1 at *; generalize hv2 : v1.setCell ⟨w.heap.size, 1, none⟩ (.int .i64 0) = v2 at *; generalize hv3 : v2.setCell ⟨w.heap.size, 2, none⟩ (.string ⟨#[]⟩) = v3 at *; generalize hv4 : v3.setCell ⟨w.heap.size, 3, none⟩ (.string ⟨#[]⟩) = v4 at *; generalize hv5 : v4.setCell ⟨w.heap.size, 4, none⟩ (.string ⟨#[]⟩) = v5 at *; have BB := Lib.hid vB; have W5 := B2_2.grown GG B2_2.size (fun j e => by injection e with e; omega); clear vB))
  all_goals
    refine ret_five1 rfl rfl BB.out rfl Tryz.underlying27 (by kernel_rfl) ?_
    exact ⟨rfl, W5⟩
set_option maxHeartbeats 1000000 in
set_option maxRecDepth 100000 in
theorem ref26_Parse_c2b {s : ByteArray} {v : Bool} {l : List (List UInt8)} {b : UInt8} {t : List (List UInt8)} {w : World} (hs : s.size ≤ 1000000000000) (he : Key.err s.data.toList = 0) (hl : Key.split s.data.toList = l) (hm : l.length ≤ 900) (hO : ∀ k ∈ l, Utf.one k = true) (hd : (Phr.number l).2 = [34] :: [b] :: t) (hsg : (Utf.one [b] && Key.sgn [b]) = true) (hn : Reg.nameN (b.toNat : Int) = 0) :
    Calls Tryz.prog 6 #[.string s, .bool v] w (RefIs (Phr.parse v l) w) := by
  have HF : (Phr.bad : Ans) = Phr.parse v l := by rw [Phr.parse, hd]; simp [Phr.reg, Phr.name, hn]
  rw [← HF]
  clear HF
  have SP := Lib.hid (fun w => ref13_Split_cap s hs w)
  rw [he, hl] at SP
  have HO := Lib.hid hO
  have NUM := Lib.hid (fun (A : Option Addr) (n : Nat) (u : World) (h : Ls u A n l) => ref26_number h (by omega))
  have hne : l ≠ [] := by rintro rfl; cases hd
  have hdr := Phr.took_drop l
  have htl := Phr.took_le l
  have hz : l.length - Phr.took l = (Phr.number l).2.length := by rw [← hdr, List.length_drop]
  rw [hd] at hz hdr
  clear hd
  generalize (Phr.number l).1 = n1 at *
  generalize Phr.took l = i at *
  have hti : (i : Int) ≤ l.length := by omega
  have q34 : ((bs [34]).toList == [34]) = true := by rw [bs_tl]; rfl
  obtain ⟨S, hS0⟩ : ∃ S, bs [b] = S := ⟨_, rfl⟩
  have Q0 : 0 < S.size := by rw [← hS0]; exact Nat.one_pos
  have s0 : (S.size : Int) = 1 := by rw [← hS0]; rfl
  have Q1 : (S[0].toNat : Int) = (b.toNat : Int) := by subst hS0; rfl
  have zb : wrap64 (b.toNat : Int) = (b.toNat : Int) := by have := b.toNat_lt; unfold wrap64; omega
  have SG := Lib.hid (fun w => ref13_Sign S w)
  have NM := Lib.hid (fun w => ref21_Name (b.toNat : Int) w)
  have hSb := Lib.hid hS0
  rw [show (Utf.one S.data.toList && Key.sgn S.data.toList) = true by rw [← hS0]; exact hsg] at SG
  rw [hn] at NM
  clear hS0 hsg hn
  have R0 := Blk.new w 27 #[.int .i64 0, .int .i64 0, .string ⟨#[]⟩, .string ⟨#[]⟩, .string ⟨#[]⟩]
  have B0 := (Below.refl w.heap.size w).alloc (Nat.le_refl _) (.cells #[.int .i64 0, .int .i64 0, .string ⟨#[]⟩, .string ⟨#[]⟩, .string ⟨#[]⟩] 27)
  clear he hl hO
  go_enter Tryz.func6, Tryz.ntmps6
  go_wp2_with (first
    | (go_at_call 9; refine (SP.out _).mono ?_; rintro e w1 ⟨A, n, rfl, hcap, hS, hb1⟩; have R1 := R0.below hb1 R0.lt; have hRP := R1.lt; have B1 := B0.trans (hb1.mono (by rw [World.size_alloc]; omega)); clear hb1 SP R0 B0; have HL : Ls w1 A n l := ⟨hcap, hS, HO.out⟩; generalize hp0 : w1.alloc (.cells #[.int .i64 0, .int .i64 0, .string ⟨#[]⟩, .string ⟨#[]⟩, .string ⟨#[]⟩] 27) = p0 at *; have P0 := Blk.new w1 27 #[.int .i64 0, .int .i64 0, .string ⟨#[]⟩, .string ⟨#[]⟩, .string ⟨#[]⟩]; rw [hp0] at P0; have R2 : Blk p0 w.heap.size 27 #[.int .i64 0, .int .i64 0, .string ⟨#[]⟩, .string ⟨#[]⟩, .string ⟨#[]⟩] := (by rw [← hp0]; exact R1.alloc _); have K0 : Below w1.heap.size w1 p0 := (by rw [← hp0]; exact (Below.refl _ w1).alloc (Nat.le_refl _) _); have B2 : Below w.heap.size w p0 := (by rw [← hp0]; exact B1.alloc B1.size _); have NU := Lib.hid (NUM.out A n p0 (HL.below K0)); clear NUM hS hcap; have sc1 := P0.cell 1; have sf1 := P0.frozen 1; simp at sc1; have P1 := P0.set_ 1 (.int .i64 n1); have R2_1 := R2.far (p := ⟨w1.heap.size, 1, none⟩) (by show w.heap.size ≠ w1.heap.size; omega) (.int .i64 n1); have K1 := K0.setCell (p := ⟨w1.heap.size, 1, none⟩) (Nat.le_refl _) (.int .i64 n1); have B2_1 := B2.setCell (p := ⟨w1.heap.size, 1, none⟩) (by show w.heap.size ≤ w1.heap.size; omega) (.int .i64 n1); generalize hw1 : p0.setCell ⟨w1.heap.size, 1, none⟩ (.int .i64 n1) = p1 at *; obtain ⟨ad, e⟩ : ∃ ad, A = some ad := (by obtain ⟨ad, e, _⟩ := HL.strs (by rw [List.length_map]; exact List.length_pos_iff.2 hne); exact ⟨ad, e⟩); subst e; obtain ⟨AA, hAA⟩ : ∃ AA, (if n = i then (some ad : Option Addr) else some (ad.add i)) = AA := ⟨_, rfl⟩; have LL : Hid (∀ u, Below w1.heap.size w1 u → Ls u AA (n - i) ([34] :: [b] :: t)) := Lib.hid (fun u hu => by rw [← hdr]; exact (HL.below hu).slice hAA); obtain ⟨ae, rfl⟩ := (LL.out w1 (Below.refl _ _)).addr; have x0 : p1.cell? ae = some (.string (bs [34])) := (LL.out w1 (Below.refl _ _)).at_ (j := 0) (k := [34]) rfl K1; have x1 : p1.cell? ⟨ae.block, ae.off + 1, none⟩ = some (.string S) := (by rw [← hSb.out]; exact (LL.out w1 (Below.refl _ _)).at_ (j := 1) (k := [b]) rfl K1))
    | (go_at_call 10; (with_reducible refine NU.out.mono ?_); rintro e w2 ⟨rfl, rfl⟩; clear NU)
    | (go_at_call 11; (with_reducible refine (SG.out _).mono ?_); rintro e w3 ⟨rfl, hb3⟩; have P2 := P1.below hb3 P1.lt; have R2_2 := R2_1.below hb3 R2_1.lt; have K2 := K1.trans (hb3.mono K1.size); have B2_2 := B2_1.trans (hb3.mono B2_1.size); have x1b : w3.cell? ⟨ae.block, ae.off + 1, none⟩ = some (.string S) := (by rw [← hSb.out]; exact (LL.out w1 (Below.refl _ _)).at_ (j := 1) (k := [b]) rfl K2); obtain ⟨⟨vp0, vr0⟩, ⟨vp1, vr1⟩, ⟨vp2, vr2⟩, ⟨vp3, vr3⟩, ⟨vp4, vr4⟩, vB⟩ := Phr.blk5 R2_2 (.int .i64 0) (.int .i64 0) (.string ⟨#[]⟩) (.string ⟨#[]⟩) (.string ⟨#[]⟩); have GG := Phr.put5_gb w3 w.heap.size (.int .i64 0) (.int .i64 0) (.string ⟨#[]⟩) (.string ⟨#[]⟩) (.string ⟨#[]⟩); unfold Phr.put5 at GG vB; generalize hv1 : w3.setCell ⟨w.heap.size, 0, none⟩ (.int .i64 0) = v1 at *; generalize hv2 : v1.setCell ⟨w.heap.size, 1, none⟩ (.int .i64 0) = v2 at *; generalize hv3 : v2.setCell ⟨w.heap.size, 2, none⟩ (.string ⟨#[]⟩) = v3 at *; generalize hv4 : v3.setCell ⟨w.heap.size, 3, none⟩ (.string ⟨#[]⟩) = v4 at *; generalize hv5 : v4.setCell ⟨w.heap.size, 4, none⟩ (.string ⟨#[]⟩) = v5 at *; have BB := Lib.hid vB; have W5 := B2_2.grown GG B2_2.size (fun j e => by injection e with e; omega); clear vB)
    | (go_at_call 12; (with_reducible refine (NM.out _).mono ?_); rintro e w4 ⟨rfl, rfl⟩))
  all_goals
    refine ret_five1 rfl rfl BB.out rfl Tryz.underlying27 (by kernel_rfl) ?_
    exact ⟨rfl, W5⟩
set_option maxHeartbeats 1000000 in
set_option maxRecDepth 100000 in
theorem ref26_Parse_df {s : ByteArray} {l : List (List UInt8)} {k : List UInt8} {t : List (List UInt8)} {w : World} (hs : s.size ≤ 1000000000000) (he : Key.err s.data.toList = 0) (hl : Key.split s.data.toList = l) (hm : l.length ≤ 900) (hO : ∀ k ∈ l, Utf.one k = true) (hd : (Phr.number l).2 = k :: t) (hk : k ≠ [34]) :
    Calls Tryz.prog 6 #[.string s, .bool false] w (RefIs (Phr.parse false l) w) := by
  have HF : (Phr.run false ⟨0, (Phr.number l).1, [], [], []⟩ (k :: t) : Ans) = Phr.parse false l := by rw [Phr.parse, hd]; simp [hk]
  rw [← HF]
  clear HF
  have SP := Lib.hid (fun w => ref13_Split_cap s hs w)
  rw [he, hl] at SP
  have HO := Lib.hid hO
  have NUM := Lib.hid (fun (A : Option Addr) (n : Nat) (u : World) (h : Ls u A n l) => ref26_number h (by omega))
  have hne : l ≠ [] := by rintro rfl; cases hd
  have hdr := Phr.took_drop l
  have htl := Phr.took_le l
  have hz : l.length - Phr.took l = (Phr.number l).2.length := by rw [← hdr, List.length_drop]
  rw [hd] at hz hdr
  clear hd
  generalize (Phr.number l).1 = n1 at *
  generalize Phr.took l = i at *
  have hti : (i : Int) ≤ l.length := by omega
  have HT : Hid (t.length ≤ 1000) := Lib.hid (by rw [List.length_cons] at hz; omega)
  have q34 : ((bs k).toList == [34]) = false := by rw [bs_tl, beq_eq_false_iff_ne]; exact hk
  generalize hRUN : Phr.run false ⟨0, n1, [], [], []⟩ (k :: t) = FF
  clear hk
  have R0 := Blk.new w 27 #[.int .i64 0, .int .i64 0, .string ⟨#[]⟩, .string ⟨#[]⟩, .string ⟨#[]⟩]
  have B0 := (Below.refl w.heap.size w).alloc (Nat.le_refl _) (.cells #[.int .i64 0, .int .i64 0, .string ⟨#[]⟩, .string ⟨#[]⟩, .string ⟨#[]⟩] 27)
  clear he hl hO
  go_enter Tryz.func6, Tryz.ntmps6
  go_wp2_with (first
    | (go_at_call 9; refine (SP.out _).mono ?_; rintro e w1 ⟨A, n, rfl, hcap, hS, hb1⟩; have R1 := R0.below hb1 R0.lt; have hRP := R1.lt; have B1 := B0.trans (hb1.mono (by rw [World.size_alloc]; omega)); clear hb1 SP R0 B0; have HL : Ls w1 A n l := ⟨hcap, hS, HO.out⟩; generalize hp0 : w1.alloc (.cells #[.int .i64 0, .int .i64 0, .string ⟨#[]⟩, .string ⟨#[]⟩, .string ⟨#[]⟩] 27) = p0 at *; have P0 := Blk.new w1 27 #[.int .i64 0, .int .i64 0, .string ⟨#[]⟩, .string ⟨#[]⟩, .string ⟨#[]⟩]; rw [hp0] at P0; have R2 : Blk p0 w.heap.size 27 #[.int .i64 0, .int .i64 0, .string ⟨#[]⟩, .string ⟨#[]⟩, .string ⟨#[]⟩] := (by rw [← hp0]; exact R1.alloc _); have K0 : Below w1.heap.size w1 p0 := (by rw [← hp0]; exact (Below.refl _ w1).alloc (Nat.le_refl _) _); have B2 : Below w.heap.size w p0 := (by rw [← hp0]; exact B1.alloc B1.size _); have NU := Lib.hid (NUM.out A n p0 (HL.below K0)); clear NUM hS hcap; have sc1 := P0.cell 1; have sf1 := P0.frozen 1; simp at sc1; have P1 := P0.set_ 1 (.int .i64 n1); have R2_1 := R2.far (p := ⟨w1.heap.size, 1, none⟩) (by show w.heap.size ≠ w1.heap.size; omega) (.int .i64 n1); have K1 := K0.setCell (p := ⟨w1.heap.size, 1, none⟩) (Nat.le_refl _) (.int .i64 n1); have B2_1 := B2.setCell (p := ⟨w1.heap.size, 1, none⟩) (by show w.heap.size ≤ w1.heap.size; omega) (.int .i64 n1); generalize hw1 : p0.setCell ⟨w1.heap.size, 1, none⟩ (.int .i64 n1) = p1 at *; obtain ⟨ad, e⟩ : ∃ ad, A = some ad := (by obtain ⟨ad, e, _⟩ := HL.strs (by rw [List.length_map]; exact List.length_pos_iff.2 hne); exact ⟨ad, e⟩); subst e; obtain ⟨AA, hAA⟩ : ∃ AA, (if n = i then (some ad : Option Addr) else some (ad.add i)) = AA := ⟨_, rfl⟩; have LL : Hid (∀ u, Below w1.heap.size w1 u → Ls u AA (n - i) (k :: t)) := Lib.hid (fun u hu => by rw [← hdr]; exact (HL.below hu).slice hAA); obtain ⟨af, rfl⟩ := (LL.out w1 (Below.refl _ _)).addr; have x0 : p1.cell? af = some (.string (bs k)) := (LL.out w1 (Below.refl _ _)).at_ (j := 0) (k := k) rfl K1; obtain ⟨nf, hnf⟩ : ∃ nf, n - i = nf := ⟨_, rfl⟩; rw [hnf] at LL; have y0 := P1.cell 0; have y1 := P1.cell 1; have y2 := P1.cell 2; have y3 := P1.cell 3; have y4 := P1.cell 4; simp at y0 y1 y2 y3 y4; have PL := Lib.hid (show Calls Tryz.prog 14 #[.agg #[.int .i64 0, .int .i64 n1, .string ⟨#[]⟩, .string ⟨#[]⟩, .string ⟨#[]⟩], .slice (some af) (t.length + 1) nf] p1 (RefFin (Phr.run false ⟨0, n1, [], [], []⟩ (k :: t)) p1) from ref26_plain (LL.out p1 K1) HT.out))
    | (go_at_call 10; (with_reducible refine NU.out.mono ?_); rintro e w2 ⟨rfl, rfl⟩; clear NU)
    | (go_at_call 14; refine PL.out.mono ?_; rintro e w6 ⟨⟨d, is⟩, hY, rfl, hb6⟩; rw [hRUN] at hY; have P2 := P1.below hb6 P1.lt; have R2_2 := R2_1.below hb6 R2_1.lt; have K2 := K1.trans (hb6.mono K1.size); have B2_2 := B2_1.trans (hb6.mono B2_1.size); generalize hD : w6.alloc (.cells #[.int .i64 0, .int .i64 0, .string ⟨#[]⟩, .string ⟨#[]⟩, .string ⟨#[]⟩] 27) = d0 at *; obtain ⟨⟨dx0, dy0⟩, ⟨dx1, dy1⟩, ⟨dx2, dy2⟩, ⟨dx3, dy3⟩, ⟨dx4, dy4⟩, dB, dW⟩ := Phr.rbox d hD; generalize hd1 : d0.setCell ⟨w6.heap.size, 0, none⟩ (.int .i64 d.reg) = d1 at *; generalize hd2 : d1.setCell ⟨w6.heap.size, 1, none⟩ (.int .i64 d.count) = d2 at *; generalize hd3 : d2.setCell ⟨w6.heap.size, 2, none⟩ (.string (bs d.op)) = d3 at *; generalize hd4 : d3.setCell ⟨w6.heap.size, 3, none⟩ (.string (bs d.key)) = d4 at *; generalize hd5 : d4.setCell ⟨w6.heap.size, 4, none⟩ (.string (bs d.arg)) = d5 at *; have P3 := P2.below dW P2.lt; have R2_3 := R2_2.below dW R2_2.lt; have K3 := K2.trans (dW.mono K2.size); have B2_3 := B2_2.trans (dW.mono B2_2.size); have i0 := dB.cell 0; have i1 := dB.cell 1; have i2 := dB.cell 2; have i3 := dB.cell 3; have i4 := dB.cell 4; simp at i0 i1 i2 i3 i4; by_cases his : is = 0; all_goals (first | (subst his; replace hY : Phr.bad = FF := hY; subst hY; obtain ⟨⟨vp0, vr0⟩, ⟨vp1, vr1⟩, ⟨vp2, vr2⟩, ⟨vp3, vr3⟩, ⟨vp4, vr4⟩, vB⟩ := Phr.blk5 R2_3 (.int .i64 0) (.int .i64 0) (.string ⟨#[]⟩) (.string ⟨#[]⟩) (.string ⟨#[]⟩); have GG := Phr.put5_gb d5 w.heap.size (.int .i64 0) (.int .i64 0) (.string ⟨#[]⟩) (.string ⟨#[]⟩) (.string ⟨#[]⟩); unfold Phr.put5 at GG vB; generalize hv1 : d5.setCell ⟨w.heap.size, 0, none⟩ (.int .i64 0) = v1 at *; generalize hv2 : v1.setCell ⟨w.heap.size, 1, none⟩ (.int .i64 0) = v2 at *; generalize hv3 : v2.setCell ⟨w.heap.size, 2, none⟩ (.string ⟨#[]⟩) = v3 at *; generalize hv4 : v3.setCell ⟨w.heap.size, 3, none⟩ (.string ⟨#[]⟩) = v4 at *; generalize hv5 : v4.setCell ⟨w.heap.size, 4, none⟩ (.string ⟨#[]⟩) = v5 at *; have BB := Lib.hid vB; have W5 := B2_3.grown GG B2_3.size (fun j e => by injection e with e; omega); clear vB) | (have hi0 : (is == 0) = false := (by rw [beq_eq_false_iff_ne]; exact his); replace hY : (d, is) = FF := (by rw [← hY, Phr.fin, if_neg his]); subst hY; obtain ⟨⟨vp0, vr0⟩, ⟨vp1, vr1⟩, ⟨vp2, vr2⟩, ⟨vp3, vr3⟩, ⟨vp4, vr4⟩, vB⟩ := Phr.blk5 R2_3 (.int .i64 d.reg) (.int .i64 d.count) (.string (bs d.op)) (.string (bs d.key)) (.string (bs d.arg)); have GG := Phr.put5_gb d5 w.heap.size (.int .i64 d.reg) (.int .i64 d.count) (.string (bs d.op)) (.string (bs d.key)) (.string (bs d.arg)); unfold Phr.put5 at GG vB; generalize hv1 : d5.setCell ⟨w.heap.size, 0, none⟩ (.int .i64 d.reg) = v1 at *; generalize hv2 : v1.setCell ⟨w.heap.size, 1, none⟩ (.int .i64 d.count) = v2 at *; generalize hv3 : v2.setCell ⟨w.heap.size, 2, none⟩ (.string (bs d.op)) = v3 at *; generalize hv4 : v3.setCell ⟨w.heap.size, 3, none⟩ (.string (bs d.key)) = v4 at *; generalize hv5 : v4.setCell ⟨w.heap.size, 4, none⟩ (.string (bs d.arg)) = v5 at *; have BB := Lib.hid vB; have W5 := B2_3.grown GG B2_3.size (fun j e => by injection e with e; omega); clear vB))))
  all_goals
    refine ret_five1 rfl rfl BB.out rfl Tryz.underlying27 (by kernel_rfl) ?_
    exact ⟨rfl, W5⟩
set_option maxHeartbeats 1000000 in
set_option maxRecDepth 100000 in
theorem ref26_Parse_dt {s : ByteArray} {l : List (List UInt8)} {k : List UInt8} {t : List (List UInt8)} {w : World} (hs : s.size ≤ 1000000000000) (he : Key.err s.data.toList = 0) (hl : Key.split s.data.toList = l) (hm : l.length ≤ 900) (hO : ∀ k ∈ l, Utf.one k = true) (hd : (Phr.number l).2 = k :: t) (hk : k ≠ [34]) :
    Calls Tryz.prog 6 #[.string s, .bool true] w (RefIs (Phr.parse true l) w) := by
  have HF : (Phr.run true ⟨0, (Phr.number l).1, [], [], []⟩ (k :: t) : Ans) = Phr.parse true l := by rw [Phr.parse, hd]; simp [hk]
  rw [← HF]
  clear HF
  have SP := Lib.hid (fun w => ref13_Split_cap s hs w)
  rw [he, hl] at SP
  have HO := Lib.hid hO
  have NUM := Lib.hid (fun (A : Option Addr) (n : Nat) (u : World) (h : Ls u A n l) => ref26_number h (by omega))
  have hne : l ≠ [] := by rintro rfl; cases hd
  have hdr := Phr.took_drop l
  have htl := Phr.took_le l
  have hz : l.length - Phr.took l = (Phr.number l).2.length := by rw [← hdr, List.length_drop]
  rw [hd] at hz hdr
  clear hd
  generalize (Phr.number l).1 = n1 at *
  generalize Phr.took l = i at *
  have hti : (i : Int) ≤ l.length := by omega
  have HT : Hid (t.length ≤ 1000) := Lib.hid (by rw [List.length_cons] at hz; omega)
  have q34 : ((bs k).toList == [34]) = false := by rw [bs_tl, beq_eq_false_iff_ne]; exact hk
  generalize hRUN : Phr.run true ⟨0, n1, [], [], []⟩ (k :: t) = FF
  clear hk
  have R0 := Blk.new w 27 #[.int .i64 0, .int .i64 0, .string ⟨#[]⟩, .string ⟨#[]⟩, .string ⟨#[]⟩]
  have B0 := (Below.refl w.heap.size w).alloc (Nat.le_refl _) (.cells #[.int .i64 0, .int .i64 0, .string ⟨#[]⟩, .string ⟨#[]⟩, .string ⟨#[]⟩] 27)
  clear he hl hO
  go_enter Tryz.func6, Tryz.ntmps6
  go_wp2_with (first
    | (go_at_call 9; refine (SP.out _).mono ?_; rintro e w1 ⟨A, n, rfl, hcap, hS, hb1⟩; have R1 := R0.below hb1 R0.lt; have hRP := R1.lt; have B1 := B0.trans (hb1.mono (by rw [World.size_alloc]; omega)); clear hb1 SP R0 B0; have HL : Ls w1 A n l := ⟨hcap, hS, HO.out⟩; generalize hp0 : w1.alloc (.cells #[.int .i64 0, .int .i64 0, .string ⟨#[]⟩, .string ⟨#[]⟩, .string ⟨#[]⟩] 27) = p0 at *; have P0 := Blk.new w1 27 #[.int .i64 0, .int .i64 0, .string ⟨#[]⟩, .string ⟨#[]⟩, .string ⟨#[]⟩]; rw [hp0] at P0; have R2 : Blk p0 w.heap.size 27 #[.int .i64 0, .int .i64 0, .string ⟨#[]⟩, .string ⟨#[]⟩, .string ⟨#[]⟩] := (by rw [← hp0]; exact R1.alloc _); have K0 : Below w1.heap.size w1 p0 := (by rw [← hp0]; exact (Below.refl _ w1).alloc (Nat.le_refl _) _); have B2 : Below w.heap.size w p0 := (by rw [← hp0]; exact B1.alloc B1.size _); have NU := Lib.hid (NUM.out A n p0 (HL.below K0)); clear NUM hS hcap; have sc1 := P0.cell 1; have sf1 := P0.frozen 1; simp at sc1; have P1 := P0.set_ 1 (.int .i64 n1); have R2_1 := R2.far (p := ⟨w1.heap.size, 1, none⟩) (by show w.heap.size ≠ w1.heap.size; omega) (.int .i64 n1); have K1 := K0.setCell (p := ⟨w1.heap.size, 1, none⟩) (Nat.le_refl _) (.int .i64 n1); have B2_1 := B2.setCell (p := ⟨w1.heap.size, 1, none⟩) (by show w.heap.size ≤ w1.heap.size; omega) (.int .i64 n1); generalize hw1 : p0.setCell ⟨w1.heap.size, 1, none⟩ (.int .i64 n1) = p1 at *; obtain ⟨ad, e⟩ : ∃ ad, A = some ad := (by obtain ⟨ad, e, _⟩ := HL.strs (by rw [List.length_map]; exact List.length_pos_iff.2 hne); exact ⟨ad, e⟩); subst e; obtain ⟨AA, hAA⟩ : ∃ AA, (if n = i then (some ad : Option Addr) else some (ad.add i)) = AA := ⟨_, rfl⟩; have LL : Hid (∀ u, Below w1.heap.size w1 u → Ls u AA (n - i) (k :: t)) := Lib.hid (fun u hu => by rw [← hdr]; exact (HL.below hu).slice hAA); obtain ⟨af, rfl⟩ := (LL.out w1 (Below.refl _ _)).addr; have x0 : p1.cell? af = some (.string (bs k)) := (LL.out w1 (Below.refl _ _)).at_ (j := 0) (k := k) rfl K1; obtain ⟨nf, hnf⟩ : ∃ nf, n - i = nf := ⟨_, rfl⟩; rw [hnf] at LL; have y0 := P1.cell 0; have y1 := P1.cell 1; have y2 := P1.cell 2; have y3 := P1.cell 3; have y4 := P1.cell 4; simp at y0 y1 y2 y3 y4; have PL := Lib.hid (show Calls Tryz.prog 14 #[.agg #[.int .i64 0, .int .i64 n1, .string ⟨#[]⟩, .string ⟨#[]⟩, .string ⟨#[]⟩], .slice (some af) (t.length + 1) nf] p1 (RefFin (Phr.run false ⟨0, n1, [], [], []⟩ (k :: t)) p1) from ref26_plain (LL.out p1 K1) HT.out); have ML := Lib.hid (fun (u : World) (hu : Below w1.heap.size w1 u) => show Calls Tryz.prog 15 #[.agg #[.int .i64 0, .int .i64 n1, .string ⟨#[]⟩, .string ⟨#[]⟩, .string ⟨#[]⟩], .slice (some af) (t.length + 1) nf] u (RefFin (Phr.run true ⟨0, n1, [], [], []⟩ (k :: t)) u) from ref26_marked (LL.out u hu)))
    | (go_at_call 10; (with_reducible refine NU.out.mono ?_); rintro e w2 ⟨rfl, rfl⟩; clear NU)
    | (go_at_call 14; refine PL.out.mono ?_; rintro e w6 ⟨⟨d, is⟩, hY, rfl, hb6⟩; clear PL; have P2 := P1.below hb6 P1.lt; have R2_2 := R2_1.below hb6 R2_1.lt; have K2 := K1.trans (hb6.mono K1.size); have B2_2 := B2_1.trans (hb6.mono B2_1.size); generalize hD : w6.alloc (.cells #[.int .i64 0, .int .i64 0, .string ⟨#[]⟩, .string ⟨#[]⟩, .string ⟨#[]⟩] 27) = d0 at *; obtain ⟨⟨dx0, dy0⟩, ⟨dx1, dy1⟩, ⟨dx2, dy2⟩, ⟨dx3, dy3⟩, ⟨dx4, dy4⟩, dB, dW⟩ := Phr.rbox d hD; generalize hd1 : d0.setCell ⟨w6.heap.size, 0, none⟩ (.int .i64 d.reg) = d1 at *; generalize hd2 : d1.setCell ⟨w6.heap.size, 1, none⟩ (.int .i64 d.count) = d2 at *; generalize hd3 : d2.setCell ⟨w6.heap.size, 2, none⟩ (.string (bs d.op)) = d3 at *; generalize hd4 : d3.setCell ⟨w6.heap.size, 3, none⟩ (.string (bs d.key)) = d4 at *; generalize hd5 : d4.setCell ⟨w6.heap.size, 4, none⟩ (.string (bs d.arg)) = d5 at *; have P3 := P2.below dW P2.lt; have R2_3 := R2_2.below dW R2_2.lt; have K3 := K2.trans (dW.mono K2.size); have B2_3 := B2_2.trans (dW.mono B2_2.size); have ML1 := Lib.hid (ML.out d5 K3); have z0 := P3.cell 0; have z1 := P3.cell 1; have z2 := P3.cell 2; have z3 := P3.cell 3; have z4 := P3.cell 4; simp at z0 z1 z2 z3 z4; clear ML hY)
    | (go_at_call 15; refine ML1.out.mono ?_; rintro e w7 ⟨⟨d2, is2⟩, hY2, rfl, hb7⟩; rw [hRUN] at hY2; clear ML1; have P4 := P3.below hb7 P3.lt; have R2_4 := R2_3.below hb7 R2_3.lt; have K4 := K3.trans (hb7.mono K3.size); have B2_4 := B2_3.trans (hb7.mono B2_3.size); have dB2 := dB.below hb7 dB.lt; have hDR := Nat.lt_of_lt_of_le hRP (K2).size; obtain ⟨⟨ex0, ey0⟩, ⟨ex1, ey1⟩, ⟨ex2, ey2⟩, ⟨ex3, ey3⟩, ⟨ex4, ey4⟩, eB⟩ := Phr.blk5 dB2 (.int .i64 d2.reg) (.int .i64 d2.count) (.string (bs d2.op)) (.string (bs d2.key)) (.string (bs d2.arg)); have eG := Phr.put5_gb w7 w6.heap.size (.int .i64 d2.reg) (.int .i64 d2.count) (.string (bs d2.op)) (.string (bs d2.key)) (.string (bs d2.arg)); unfold Phr.put5 at eG eB; generalize he1 : w7.setCell ⟨w6.heap.size, 0, none⟩ (.int .i64 d2.reg) = e1 at *; generalize he2 : e1.setCell ⟨w6.heap.size, 1, none⟩ (.int .i64 d2.count) = e2 at *; generalize he3 : e2.setCell ⟨w6.heap.size, 2, none⟩ (.string (bs d2.op)) = e3 at *; generalize he4 : e3.setCell ⟨w6.heap.size, 3, none⟩ (.string (bs d2.key)) = e4 at *; generalize he5 : e4.setCell ⟨w6.heap.size, 4, none⟩ (.string (bs d2.arg)) = e5 at *; have R9 := R2_4.grown eG (by intro e; injection e with e; omega); have B9 := B2_4.grown eG B2_4.size (fun j e => by injection e with e; omega); have i0 := eB.cell 0; have i1 := eB.cell 1; have i2 := eB.cell 2; have i3 := eB.cell 3; have i4 := eB.cell 4; simp at i0 i1 i2 i3 i4; by_cases his : is2 = 0; all_goals (first | (subst his; replace hY2 : Phr.bad = FF := hY2; subst hY2; obtain ⟨⟨vp0, vr0⟩, ⟨vp1, vr1⟩, ⟨vp2, vr2⟩, ⟨vp3, vr3⟩, ⟨vp4, vr4⟩, vB⟩ := Phr.blk5 R9 (.int .i64 0) (.int .i64 0) (.string ⟨#[]⟩) (.string ⟨#[]⟩) (.string ⟨#[]⟩); have GG := Phr.put5_gb e5 w.heap.size (.int .i64 0) (.int .i64 0) (.string ⟨#[]⟩) (.string ⟨#[]⟩) (.string ⟨#[]⟩); unfold Phr.put5 at GG vB; generalize hv1 : e5.setCell ⟨w.heap.size, 0, none⟩ (.int .i64 0) = v1 at *; generalize hv2 : v1.setCell ⟨w.heap.size, 1, none⟩ (.int .i64 0) = v2 at *; generalize hv3 : v2.setCell ⟨w.heap.size, 2, none⟩ (.string ⟨#[]⟩) = v3 at *; generalize hv4 : v3.setCell ⟨w.heap.size, 3, none⟩ (.string ⟨#[]⟩) = v4 at *; generalize hv5 : v4.setCell ⟨w.heap.size, 4, none⟩ (.string ⟨#[]⟩) = v5 at *; have BB := Lib.hid vB; have W5 := B9.grown GG B9.size (fun j e => by injection e with e; omega); clear vB) | (have hi0 : (is2 == 0) = false := (by rw [beq_eq_false_iff_ne]; exact his); replace hY2 : (d2, is2) = FF := (by rw [← hY2, Phr.fin, if_neg his]); subst hY2; obtain ⟨⟨vp0, vr0⟩, ⟨vp1, vr1⟩, ⟨vp2, vr2⟩, ⟨vp3, vr3⟩, ⟨vp4, vr4⟩, vB⟩ := Phr.blk5 R9 (.int .i64 d2.reg) (.int .i64 d2.count) (.string (bs d2.op)) (.string (bs d2.key)) (.string (bs d2.arg)); have GG := Phr.put5_gb e5 w.heap.size (.int .i64 d2.reg) (.int .i64 d2.count) (.string (bs d2.op)) (.string (bs d2.key)) (.string (bs d2.arg)); unfold Phr.put5 at GG vB; generalize hv1 : e5.setCell ⟨w.heap.size, 0, none⟩ (.int .i64 d2.reg) = v1 at *; generalize hv2 : v1.setCell ⟨w.heap.size, 1, none⟩ (.int .i64 d2.count) = v2 at *; generalize hv3 : v2.setCell ⟨w.heap.size, 2, none⟩ (.string (bs d2.op)) = v3 at *; generalize hv4 : v3.setCell ⟨w.heap.size, 3, none⟩ (.string (bs d2.key)) = v4 at *; generalize hv5 : v4.setCell ⟨w.heap.size, 4, none⟩ (.string (bs d2.arg)) = v5 at *; have BB := Lib.hid vB; have W5 := B9.grown GG B9.size (fun j e => by injection e with e; omega); clear vB))))
  all_goals
    refine ret_five1 rfl rfl BB.out rfl Tryz.underlying27 (by kernel_rfl) ?_
    exact ⟨rfl, W5⟩
set_option maxHeartbeats 1000000 in
set_option maxRecDepth 100000 in
theorem ref26_Parse_rnil {s : ByteArray} {v : Bool} {l : List (List UInt8)} {b : UInt8} {t : List (List UInt8)} {w : World} (hs : s.size ≤ 1000000000000) (he : Key.err s.data.toList = 0) (hl : Key.split s.data.toList = l) (hm : l.length ≤ 900) (hO : ∀ k ∈ l, Utf.one k = true) (hd : (Phr.number l).2 = [34] :: [b] :: t) (hk : Key.isKey [b] = true) (hn : Reg.nameN (b.toNat : Int) ≠ 0) (h0 : t = []) :
    Calls Tryz.prog 6 #[.string s, .bool v] w (RefIs (Phr.parse v l) w) := by
  have HF : (Phr.more : Ans) = Phr.parse v l := by subst h0; rw [Phr.parse, hd]; simp [Phr.reg, Phr.name, hn]; rfl
  rw [← HF]
  clear HF
  have SP := Lib.hid (fun w => ref13_Split_cap s hs w)
  rw [he, hl] at SP
  have HO := Lib.hid hO
  have NUM := Lib.hid (fun (A : Option Addr) (n : Nat) (u : World) (h : Ls u A n l) => ref26_number h (by omega))
  have hne : l ≠ [] := by rintro rfl; cases hd
  have htl2 : t.length ≤ 900 := by
    have h1 := (Phr.number_len l).1
    rw [hd] at h1
    simp at h1
    omega
  have hdr := Phr.took_drop l
  have htl := Phr.took_le l
  have hz : l.length - Phr.took l = (Phr.number l).2.length := by rw [← hdr, List.length_drop]
  rw [hd] at hz hdr
  clear hd
  generalize (Phr.number l).1 = n1 at *
  generalize Phr.took l = i at *
  have hti : (i : Int) ≤ l.length := by omega
  have q34 : ((bs [34]).toList == [34]) = true := by rw [bs_tl]; rfl
  obtain ⟨S, hS0⟩ : ∃ S, bs [b] = S := ⟨_, rfl⟩
  have Q0 : 0 < S.size := by rw [← hS0]; exact Nat.one_pos
  have s0 : (S.size : Int) = 1 := by rw [← hS0]; rfl
  have Q1 : (S[0].toNat : Int) = (b.toNat : Int) := by subst hS0; rfl
  have zb : wrap64 (b.toNat : Int) = (b.toNat : Int) := by have := b.toNat_lt; unfold wrap64; omega
  have SG := Lib.hid (fun w => ref13_Sign S w)
  have NM := Lib.hid (fun w => ref21_Name (b.toNat : Int) w)
  have hSb := Lib.hid hS0
  rw [show (Utf.one S.data.toList && Key.sgn S.data.toList) = true by rw [← hS0]; exact Phr.name_sign hk hn] at SG
  have hn2 : (Reg.nameN (b.toNat : Int) == 0) = false := by rw [beq_eq_false_iff_ne]; exact hn
  have NUM2 := Lib.hid (fun (A : Option Addr) (n : Nat) (u : World) (h : Ls u A n t) => ref26_number h (by omega))
  have CN := Lib.hid (fun (w : World) => ref26_Count n1 (Phr.number t).1 w)
  generalize Reg.nameN (b.toNat : Int) = nn at *
  clear hS0 hk hn
  have e1 : (Phr.number t).1 = 0 := by subst h0; rfl
  have e2 : Phr.took t = 0 := by subst h0; rfl
  have e3 : t.length = 0 := by subst h0; rfl
  rw [e1] at CN NUM2
  rw [e2, e3] at NUM2
  obtain ⟨cm, hcm⟩ : ∃ cm, Phr.count n1 0 = cm := ⟨_, rfl⟩
  rw [hcm] at CN
  rw [List.length_cons, List.length_cons, e3] at hz
  clear hcm e1 e2 h0
  have R0 := Blk.new w 27 #[.int .i64 0, .int .i64 0, .string ⟨#[]⟩, .string ⟨#[]⟩, .string ⟨#[]⟩]
  have B0 := (Below.refl w.heap.size w).alloc (Nat.le_refl _) (.cells #[.int .i64 0, .int .i64 0, .string ⟨#[]⟩, .string ⟨#[]⟩, .string ⟨#[]⟩] 27)
  clear he hl hO
  go_enter Tryz.func6, Tryz.ntmps6
  go_wp2_with (first
    | (go_at_call 9; refine (SP.out _).mono ?_; rintro e w1 ⟨A, n, rfl, hcap, hS, hb1⟩; have R1 := R0.below hb1 R0.lt; have hRP := R1.lt; have B1 := B0.trans (hb1.mono (by rw [World.size_alloc]; omega)); clear hb1 SP R0 B0; have HL : Ls w1 A n l := ⟨hcap, hS, HO.out⟩; generalize hp0 : w1.alloc (.cells #[.int .i64 0, .int .i64 0, .string ⟨#[]⟩, .string ⟨#[]⟩, .string ⟨#[]⟩] 27) = p0 at *; have P0 := Blk.new w1 27 #[.int .i64 0, .int .i64 0, .string ⟨#[]⟩, .string ⟨#[]⟩, .string ⟨#[]⟩]; rw [hp0] at P0; have R2 : Blk p0 w.heap.size 27 #[.int .i64 0, .int .i64 0, .string ⟨#[]⟩, .string ⟨#[]⟩, .string ⟨#[]⟩] := (by rw [← hp0]; exact R1.alloc _); have K0 : Below w1.heap.size w1 p0 := (by rw [← hp0]; exact (Below.refl _ w1).alloc (Nat.le_refl _) _); have B2 : Below w.heap.size w p0 := (by rw [← hp0]; exact B1.alloc B1.size _); have NU := Lib.hid (NUM.out A n p0 (HL.below K0)); clear NUM hS hcap; have sc1 := P0.cell 1; have sf1 := P0.frozen 1; simp at sc1; have P1 := P0.set_ 1 (.int .i64 n1); have R2_1 := R2.far (p := ⟨w1.heap.size, 1, none⟩) (by show w.heap.size ≠ w1.heap.size; omega) (.int .i64 n1); have K1 := K0.setCell (p := ⟨w1.heap.size, 1, none⟩) (Nat.le_refl _) (.int .i64 n1); have B2_1 := B2.setCell (p := ⟨w1.heap.size, 1, none⟩) (by show w.heap.size ≤ w1.heap.size; omega) (.int .i64 n1); generalize hw1 : p0.setCell ⟨w1.heap.size, 1, none⟩ (.int .i64 n1) = p1 at *; obtain ⟨ad, e⟩ : ∃ ad, A = some ad := (by obtain ⟨ad, e, _⟩ := HL.strs (by rw [List.length_map]; exact List.length_pos_iff.2 hne); exact ⟨ad, e⟩); subst e; obtain ⟨AA, hAA⟩ : ∃ AA, (if n = i then (some ad : Option Addr) else some (ad.add i)) = AA := ⟨_, rfl⟩; have LL : Hid (∀ u, Below w1.heap.size w1 u → Ls u AA (n - i) ([34] :: [b] :: t)) := Lib.hid (fun u hu => by rw [← hdr]; exact (HL.below hu).slice hAA); obtain ⟨ae, rfl⟩ := (LL.out w1 (Below.refl _ _)).addr; have x0 : p1.cell? ae = some (.string (bs [34])) := (LL.out w1 (Below.refl _ _)).at_ (j := 0) (k := [34]) rfl K1; have x1 : p1.cell? ⟨ae.block, ae.off + 1, none⟩ = some (.string S) := (by rw [← hSb.out]; exact (LL.out w1 (Below.refl _ _)).at_ (j := 1) (k := [b]) rfl K1))
    | (go_at_call 10; (with_reducible refine NU.out.mono ?_); rintro e w2 ⟨rfl, rfl⟩; clear NU)
    | (go_at_call 11; (with_reducible refine (SG.out _).mono ?_); rintro e w3 ⟨rfl, hb3⟩; have P2 := P1.below hb3 P1.lt; have R2_2 := R2_1.below hb3 R2_1.lt; have K2 := K1.trans (hb3.mono K1.size); have B2_2 := B2_1.trans (hb3.mono B2_1.size); have x1b : w3.cell? ⟨ae.block, ae.off + 1, none⟩ = some (.string S) := (by rw [← hSb.out]; exact (LL.out w1 (Below.refl _ _)).at_ (j := 1) (k := [b]) rfl K2); have x0b : w3.cell? ae = some (.string (bs [34])) := (LL.out w1 (Below.refl _ _)).at_ (j := 0) (k := [34]) rfl K2; have sc3 := P2.cell 0; have sf3 := P2.frozen 0; simp at sc3; have P3 := P2.set_ 0 (.int .i64 (b.toNat : Int)); have R2_3 := R2_2.far (p := ⟨w1.heap.size, 0, none⟩) (by show w.heap.size ≠ w1.heap.size; omega) (.int .i64 (b.toNat : Int)); have K3 := K2.setCell (p := ⟨w1.heap.size, 0, none⟩) (Nat.le_refl _) (.int .i64 (b.toNat : Int)); have B2_3 := B2_2.setCell (p := ⟨w1.heap.size, 0, none⟩) (by show w.heap.size ≤ w1.heap.size; omega) (.int .i64 (b.toNat : Int)); generalize hw3 : w3.setCell ⟨w1.heap.size, 0, none⟩ (.int .i64 (b.toNat : Int)) = p3 at *; obtain ⟨AB, hAB⟩ : ∃ AB, (if n - i = 2 then (some ae : Option Addr) else some ⟨ae.block, ae.off + 2, none⟩) = AB := ⟨_, rfl⟩; have L2 : Hid (∀ u, Below w1.heap.size w1 u → Ls u AB (n - i - 2) t) := Lib.hid (fun u hu => (LL.out u hu).cut hAB); have NU2 := Lib.hid (NUM2.out AB (n - i - 2) p3 (L2.out _ K3)); have cc1 := P3.cell 1; simp at cc1; clear NUM2; have sc4 := P3.cell 1; have sf4 := P3.frozen 1; simp at sc4; have P4 := P3.set_ 1 (.int .i64 cm); have R2_4 := R2_3.far (p := ⟨w1.heap.size, 1, none⟩) (by show w.heap.size ≠ w1.heap.size; omega) (.int .i64 cm); have K4 := K3.setCell (p := ⟨w1.heap.size, 1, none⟩) (Nat.le_refl _) (.int .i64 cm); have B2_4 := B2_3.setCell (p := ⟨w1.heap.size, 1, none⟩) (by show w.heap.size ≤ w1.heap.size; omega) (.int .i64 cm); generalize hw4 : p3.setCell ⟨w1.heap.size, 1, none⟩ (.int .i64 cm) = p4 at *; obtain ⟨⟨vp0, vr0⟩, ⟨vp1, vr1⟩, ⟨vp2, vr2⟩, ⟨vp3, vr3⟩, ⟨vp4, vr4⟩, vB⟩ := Phr.blk5 R2_4 (.int .i64 0) (.int .i64 0) (.string ⟨#[]⟩) (.string ⟨#[]⟩) (.string ⟨#[]⟩); have GG := Phr.put5_gb p4 w.heap.size (.int .i64 0) (.int .i64 0) (.string ⟨#[]⟩) (.string ⟨#[]⟩) (.string ⟨#[]⟩); unfold Phr.put5 at GG vB; generalize hv1 : p4.setCell ⟨w.heap.size, 0, none⟩ (.int .i64 0) = v1 at *; generalize hv2 : v1.setCell ⟨w.heap.size, 1, none⟩ (.int .i64 0) = v2 at *; generalize hv3 : v2.setCell ⟨w.heap.size, 2, none⟩ (.string ⟨#[]⟩) = v3 at *; generalize hv4 : v3.setCell ⟨w.heap.size, 3, none⟩ (.string ⟨#[]⟩) = v4 at *; generalize hv5 : v4.setCell ⟨w.heap.size, 4, none⟩ (.string ⟨#[]⟩) = v5 at *; have BB := Lib.hid vB; have W5 := B2_4.grown GG B2_4.size (fun j e => by injection e with e; omega); clear vB)
    | (go_at_call 12; (with_reducible refine (NM.out _).mono ?_); rintro e w4 ⟨rfl, rfl⟩)
    | (go_at_call 10; (with_reducible refine NU2.out.mono ?_); rintro e w4 ⟨rfl, rfl⟩; clear NU2)
    | (go_at_call 13; (with_reducible refine (CN.out _).mono ?_); rintro e w5 ⟨rfl, rfl⟩))
  all_goals
    refine ret_five1 rfl rfl BB.out rfl Tryz.underlying27 (by kernel_rfl) ?_
    exact ⟨rfl, W5⟩
set_option maxHeartbeats 1000000 in
set_option maxRecDepth 100000 in
theorem ref26_Parse_rend {s : ByteArray} {v : Bool} {l : List (List UInt8)} {b : UInt8} {t : List (List UInt8)} {w : World} (hs : s.size ≤ 1000000000000) (he : Key.err s.data.toList = 0) (hl : Key.split s.data.toList = l) (hm : l.length ≤ 900) (hO : ∀ k ∈ l, Utf.one k = true) (hd : (Phr.number l).2 = [34] :: [b] :: t) (hk : Key.isKey [b] = true) (hn : Reg.nameN (b.toNat : Int) ≠ 0) (hne2 : t ≠ []) (hd2 : (Phr.number t).2 = []) :
    Calls Tryz.prog 6 #[.string s, .bool v] w (RefIs (Phr.parse v l) w) := by
  have HF : (Phr.more : Ans) = Phr.parse v l := by rw [Phr.parse, hd]; simp [Phr.reg, Phr.name, hn, hd2]; rfl
  rw [← HF]
  clear HF
  have SP := Lib.hid (fun w => ref13_Split_cap s hs w)
  rw [he, hl] at SP
  have HO := Lib.hid hO
  have NUM := Lib.hid (fun (A : Option Addr) (n : Nat) (u : World) (h : Ls u A n l) => ref26_number h (by omega))
  have hne : l ≠ [] := by rintro rfl; cases hd
  have htl2 : t.length ≤ 900 := by
    have h1 := (Phr.number_len l).1
    rw [hd] at h1
    simp at h1
    omega
  have hdr := Phr.took_drop l
  have htl := Phr.took_le l
  have hz : l.length - Phr.took l = (Phr.number l).2.length := by rw [← hdr, List.length_drop]
  rw [hd] at hz hdr
  clear hd
  generalize (Phr.number l).1 = n1 at *
  generalize Phr.took l = i at *
  have hti : (i : Int) ≤ l.length := by omega
  have q34 : ((bs [34]).toList == [34]) = true := by rw [bs_tl]; rfl
  obtain ⟨S, hS0⟩ : ∃ S, bs [b] = S := ⟨_, rfl⟩
  have Q0 : 0 < S.size := by rw [← hS0]; exact Nat.one_pos
  have s0 : (S.size : Int) = 1 := by rw [← hS0]; rfl
  have Q1 : (S[0].toNat : Int) = (b.toNat : Int) := by subst hS0; rfl
  have zb : wrap64 (b.toNat : Int) = (b.toNat : Int) := by have := b.toNat_lt; unfold wrap64; omega
  have SG := Lib.hid (fun w => ref13_Sign S w)
  have NM := Lib.hid (fun w => ref21_Name (b.toNat : Int) w)
  have hSb := Lib.hid hS0
  rw [show (Utf.one S.data.toList && Key.sgn S.data.toList) = true by rw [← hS0]; exact Phr.name_sign hk hn] at SG
  have hn2 : (Reg.nameN (b.toNat : Int) == 0) = false := by rw [beq_eq_false_iff_ne]; exact hn
  have NUM2 := Lib.hid (fun (A : Option Addr) (n : Nat) (u : World) (h : Ls u A n t) => ref26_number h (by omega))
  have CN := Lib.hid (fun (w : World) => ref26_Count n1 (Phr.number t).1 w)
  generalize Reg.nameN (b.toNat : Int) = nn at *
  clear hS0 hk hn
  have hdr2 := Phr.took_drop t
  have htk2 := Phr.took_le t
  have hz2 : t.length - Phr.took t = (Phr.number t).2.length := by rw [← hdr2, List.length_drop]
  rw [hd2] at hz2 hdr2
  clear hd2
  obtain ⟨n2, hn22⟩ : ∃ n2, (Phr.number t).1 = n2 := ⟨_, rfl⟩
  rw [hn22] at NUM2 CN
  clear hn22
  generalize Phr.took t = i2 at *
  have hti2 : (i2 : Int) ≤ t.length := by omega
  obtain ⟨cm, hcm⟩ : ∃ cm, Phr.count n1 n2 = cm := ⟨_, rfl⟩
  rw [hcm] at CN
  clear hcm
  have R0 := Blk.new w 27 #[.int .i64 0, .int .i64 0, .string ⟨#[]⟩, .string ⟨#[]⟩, .string ⟨#[]⟩]
  have B0 := (Below.refl w.heap.size w).alloc (Nat.le_refl _) (.cells #[.int .i64 0, .int .i64 0, .string ⟨#[]⟩, .string ⟨#[]⟩, .string ⟨#[]⟩] 27)
  clear he hl hO
  go_enter Tryz.func6, Tryz.ntmps6
  go_wp2_with (first
    | (go_at_call 9; refine (SP.out _).mono ?_; rintro e w1 ⟨A, n, rfl, hcap, hS, hb1⟩; have R1 := R0.below hb1 R0.lt; have hRP := R1.lt; have B1 := B0.trans (hb1.mono (by rw [World.size_alloc]; omega)); clear hb1 SP R0 B0; have HL : Ls w1 A n l := ⟨hcap, hS, HO.out⟩; generalize hp0 : w1.alloc (.cells #[.int .i64 0, .int .i64 0, .string ⟨#[]⟩, .string ⟨#[]⟩, .string ⟨#[]⟩] 27) = p0 at *; have P0 := Blk.new w1 27 #[.int .i64 0, .int .i64 0, .string ⟨#[]⟩, .string ⟨#[]⟩, .string ⟨#[]⟩]; rw [hp0] at P0; have R2 : Blk p0 w.heap.size 27 #[.int .i64 0, .int .i64 0, .string ⟨#[]⟩, .string ⟨#[]⟩, .string ⟨#[]⟩] := (by rw [← hp0]; exact R1.alloc _); have K0 : Below w1.heap.size w1 p0 := (by rw [← hp0]; exact (Below.refl _ w1).alloc (Nat.le_refl _) _); have B2 : Below w.heap.size w p0 := (by rw [← hp0]; exact B1.alloc B1.size _); have NU := Lib.hid (NUM.out A n p0 (HL.below K0)); clear NUM hS hcap; have sc1 := P0.cell 1; have sf1 := P0.frozen 1; simp at sc1; have P1 := P0.set_ 1 (.int .i64 n1); have R2_1 := R2.far (p := ⟨w1.heap.size, 1, none⟩) (by show w.heap.size ≠ w1.heap.size; omega) (.int .i64 n1); have K1 := K0.setCell (p := ⟨w1.heap.size, 1, none⟩) (Nat.le_refl _) (.int .i64 n1); have B2_1 := B2.setCell (p := ⟨w1.heap.size, 1, none⟩) (by show w.heap.size ≤ w1.heap.size; omega) (.int .i64 n1); generalize hw1 : p0.setCell ⟨w1.heap.size, 1, none⟩ (.int .i64 n1) = p1 at *; obtain ⟨ad, e⟩ : ∃ ad, A = some ad := (by obtain ⟨ad, e, _⟩ := HL.strs (by rw [List.length_map]; exact List.length_pos_iff.2 hne); exact ⟨ad, e⟩); subst e; obtain ⟨AA, hAA⟩ : ∃ AA, (if n = i then (some ad : Option Addr) else some (ad.add i)) = AA := ⟨_, rfl⟩; have LL : Hid (∀ u, Below w1.heap.size w1 u → Ls u AA (n - i) ([34] :: [b] :: t)) := Lib.hid (fun u hu => by rw [← hdr]; exact (HL.below hu).slice hAA); obtain ⟨ae, rfl⟩ := (LL.out w1 (Below.refl _ _)).addr; have x0 : p1.cell? ae = some (.string (bs [34])) := (LL.out w1 (Below.refl _ _)).at_ (j := 0) (k := [34]) rfl K1; have x1 : p1.cell? ⟨ae.block, ae.off + 1, none⟩ = some (.string S) := (by rw [← hSb.out]; exact (LL.out w1 (Below.refl _ _)).at_ (j := 1) (k := [b]) rfl K1))
    | (go_at_call 10; (with_reducible refine NU.out.mono ?_); rintro e w2 ⟨rfl, rfl⟩; clear NU)
    | (go_at_call 11; (with_reducible refine (SG.out _).mono ?_); rintro e w3 ⟨rfl, hb3⟩; have P2 := P1.below hb3 P1.lt; have R2_2 := R2_1.below hb3 R2_1.lt; have K2 := K1.trans (hb3.mono K1.size); have B2_2 := B2_1.trans (hb3.mono B2_1.size); have x1b : w3.cell? ⟨ae.block, ae.off + 1, none⟩ = some (.string S) := (by rw [← hSb.out]; exact (LL.out w1 (Below.refl _ _)).at_ (j := 1) (k := [b]) rfl K2); have x0b : w3.cell? ae = some (.string (bs [34])) := (LL.out w1 (Below.refl _ _)).at_ (j := 0) (k := [34]) rfl K2; have sc3 := P2.cell 0; have sf3 := P2.frozen 0; simp at sc3; have P3 := P2.set_ 0 (.int .i64 (b.toNat : Int)); have R2_3 := R2_2.far (p := ⟨w1.heap.size, 0, none⟩) (by show w.heap.size ≠ w1.heap.size; omega) (.int .i64 (b.toNat : Int)); have K3 := K2.setCell (p := ⟨w1.heap.size, 0, none⟩) (Nat.le_refl _) (.int .i64 (b.toNat : Int)); have B2_3 := B2_2.setCell (p := ⟨w1.heap.size, 0, none⟩) (by show w.heap.size ≤ w1.heap.size; omega) (.int .i64 (b.toNat : Int)); generalize hw3 : w3.setCell ⟨w1.heap.size, 0, none⟩ (.int .i64 (b.toNat : Int)) = p3 at *; obtain ⟨AB, hAB⟩ : ∃ AB, (if n - i = 2 then (some ae : Option Addr) else some ⟨ae.block, ae.off + 2, none⟩) = AB := ⟨_, rfl⟩; have L2 : Hid (∀ u, Below w1.heap.size w1 u → Ls u AB (n - i - 2) t) := Lib.hid (fun u hu => (LL.out u hu).cut hAB); have NU2 := Lib.hid (NUM2.out AB (n - i - 2) p3 (L2.out _ K3)); have cc1 := P3.cell 1; simp at cc1; clear NUM2; have sc4 := P3.cell 1; have sf4 := P3.frozen 1; simp at sc4; have P4 := P3.set_ 1 (.int .i64 cm); have R2_4 := R2_3.far (p := ⟨w1.heap.size, 1, none⟩) (by show w.heap.size ≠ w1.heap.size; omega) (.int .i64 cm); have K4 := K3.setCell (p := ⟨w1.heap.size, 1, none⟩) (Nat.le_refl _) (.int .i64 cm); have B2_4 := B2_3.setCell (p := ⟨w1.heap.size, 1, none⟩) (by show w.heap.size ≤ w1.heap.size; omega) (.int .i64 cm); generalize hw4 : p3.setCell ⟨w1.heap.size, 1, none⟩ (.int .i64 cm) = p4 at *; obtain ⟨ag, e⟩ : ∃ ag, AB = some ag := (by obtain ⟨ag, e, _⟩ := (L2.out w1 (Below.refl _ _)).strs (by rw [List.length_map]; exact List.length_pos_iff.2 hne2); exact ⟨ag, e⟩); subst e; obtain ⟨AC, hAC⟩ : ∃ AC, (if n - i - 2 = i2 then (some ag : Option Addr) else some (ag.add i2)) = AC := ⟨_, rfl⟩; have L3 : Hid (∀ u, Below w1.heap.size w1 u → Ls u AC (n - i - 2 - i2) ([])) := Lib.hid (fun u hu => by rw [← hdr2]; exact (L2.out u hu).slice hAC); obtain ⟨⟨vp0, vr0⟩, ⟨vp1, vr1⟩, ⟨vp2, vr2⟩, ⟨vp3, vr3⟩, ⟨vp4, vr4⟩, vB⟩ := Phr.blk5 R2_4 (.int .i64 0) (.int .i64 0) (.string ⟨#[]⟩) (.string ⟨#[]⟩) (.string ⟨#[]⟩); have GG := Phr.put5_gb p4 w.heap.size (.int .i64 0) (.int .i64 0) (.string ⟨#[]⟩) (.string ⟨#[]⟩) (.string ⟨#[]⟩); unfold Phr.put5 at GG vB; generalize hv1 : p4.setCell ⟨w.heap.size, 0, none⟩ (.int .i64 0) = v1 at *; generalize hv2 : v1.setCell ⟨w.heap.size, 1, none⟩ (.int .i64 0) = v2 at *; generalize hv3 : v2.setCell ⟨w.heap.size, 2, none⟩ (.string ⟨#[]⟩) = v3 at *; generalize hv4 : v3.setCell ⟨w.heap.size, 3, none⟩ (.string ⟨#[]⟩) = v4 at *; generalize hv5 : v4.setCell ⟨w.heap.size, 4, none⟩ (.string ⟨#[]⟩) = v5 at *; have BB := Lib.hid vB; have W5 := B2_4.grown GG B2_4.size (fun j e => by injection e with e; omega); clear vB)
    | (go_at_call 12; (with_reducible refine (NM.out _).mono ?_); rintro e w4 ⟨rfl, rfl⟩)
    | (go_at_call 10; (with_reducible refine NU2.out.mono ?_); rintro e w4 ⟨rfl, rfl⟩; clear NU2)
    | (go_at_call 13; (with_reducible refine (CN.out _).mono ?_); rintro e w5 ⟨rfl, rfl⟩))
  all_goals
    refine ret_five1 rfl rfl BB.out rfl Tryz.underlying27 (by kernel_rfl) ?_
    exact ⟨rfl, W5⟩
set_option maxHeartbeats 1000000 in
set_option maxRecDepth 100000 in
theorem ref26_Parse_rf {s : ByteArray} {l : List (List UInt8)} {b : UInt8} {t : List (List UInt8)} {k2 : List UInt8} {t2 : List (List UInt8)} {w : World} (hs : s.size ≤ 1000000000000) (he : Key.err s.data.toList = 0) (hl : Key.split s.data.toList = l) (hm : l.length ≤ 900) (hO : ∀ k ∈ l, Utf.one k = true) (hd : (Phr.number l).2 = [34] :: [b] :: t) (hk : Key.isKey [b] = true) (hn : Reg.nameN (b.toNat : Int) ≠ 0) (hd2 : (Phr.number t).2 = k2 :: t2) :
    Calls Tryz.prog 6 #[.string s, .bool false] w (RefIs (Phr.parse false l) w) := by
  have HF : (Phr.run false ⟨(b.toNat : Int), Phr.count (Phr.number l).1 (Phr.number t).1, [], [], []⟩ (k2 :: t2) : Ans) = Phr.parse false l := by rw [Phr.parse, hd]; simp [Phr.reg, Phr.name, hn, hd2, Phr.byte]
  rw [← HF]
  clear HF
  have SP := Lib.hid (fun w => ref13_Split_cap s hs w)
  rw [he, hl] at SP
  have HO := Lib.hid hO
  have NUM := Lib.hid (fun (A : Option Addr) (n : Nat) (u : World) (h : Ls u A n l) => ref26_number h (by omega))
  have hne2 : t ≠ [] := by rintro rfl; cases hd2
  have hne : l ≠ [] := by rintro rfl; cases hd
  have htl2 : t.length ≤ 900 := by
    have h1 := (Phr.number_len l).1
    rw [hd] at h1
    simp at h1
    omega
  have hdr := Phr.took_drop l
  have htl := Phr.took_le l
  have hz : l.length - Phr.took l = (Phr.number l).2.length := by rw [← hdr, List.length_drop]
  rw [hd] at hz hdr
  clear hd
  generalize (Phr.number l).1 = n1 at *
  generalize Phr.took l = i at *
  have hti : (i : Int) ≤ l.length := by omega
  have q34 : ((bs [34]).toList == [34]) = true := by rw [bs_tl]; rfl
  obtain ⟨S, hS0⟩ : ∃ S, bs [b] = S := ⟨_, rfl⟩
  have Q0 : 0 < S.size := by rw [← hS0]; exact Nat.one_pos
  have s0 : (S.size : Int) = 1 := by rw [← hS0]; rfl
  have Q1 : (S[0].toNat : Int) = (b.toNat : Int) := by subst hS0; rfl
  have zb : wrap64 (b.toNat : Int) = (b.toNat : Int) := by have := b.toNat_lt; unfold wrap64; omega
  have SG := Lib.hid (fun w => ref13_Sign S w)
  have NM := Lib.hid (fun w => ref21_Name (b.toNat : Int) w)
  have hSb := Lib.hid hS0
  rw [show (Utf.one S.data.toList && Key.sgn S.data.toList) = true by rw [← hS0]; exact Phr.name_sign hk hn] at SG
  have hn2 : (Reg.nameN (b.toNat : Int) == 0) = false := by rw [beq_eq_false_iff_ne]; exact hn
  have NUM2 := Lib.hid (fun (A : Option Addr) (n : Nat) (u : World) (h : Ls u A n t) => ref26_number h (by omega))
  have CN := Lib.hid (fun (w : World) => ref26_Count n1 (Phr.number t).1 w)
  generalize Reg.nameN (b.toNat : Int) = nn at *
  clear hS0 hk hn
  have hdr2 := Phr.took_drop t
  have htk2 := Phr.took_le t
  have hz2 : t.length - Phr.took t = (Phr.number t).2.length := by rw [← hdr2, List.length_drop]
  rw [hd2] at hz2 hdr2
  clear hd2
  obtain ⟨n2, hn22⟩ : ∃ n2, (Phr.number t).1 = n2 := ⟨_, rfl⟩
  rw [hn22] at NUM2 CN ⊢
  clear hn22
  generalize Phr.took t = i2 at *
  have hti2 : (i2 : Int) ≤ t.length := by omega
  obtain ⟨cm, hcm⟩ : ∃ cm, Phr.count n1 n2 = cm := ⟨_, rfl⟩
  rw [hcm] at CN ⊢
  clear hcm
  have HT : Hid (t2.length ≤ 1000) := Lib.hid (by rw [List.length_cons] at hz2; omega)
  generalize hRUN : Phr.run false ⟨(b.toNat : Int), cm, [], [], []⟩ (k2 :: t2) = FF
  have R0 := Blk.new w 27 #[.int .i64 0, .int .i64 0, .string ⟨#[]⟩, .string ⟨#[]⟩, .string ⟨#[]⟩]
  have B0 := (Below.refl w.heap.size w).alloc (Nat.le_refl _) (.cells #[.int .i64 0, .int .i64 0, .string ⟨#[]⟩, .string ⟨#[]⟩, .string ⟨#[]⟩] 27)
  clear he hl hO
  go_enter Tryz.func6, Tryz.ntmps6
  go_wp2_with (first
    | (go_at_call 9; refine (SP.out _).mono ?_; rintro e w1 ⟨A, n, rfl, hcap, hS, hb1⟩; have R1 := R0.below hb1 R0.lt; have hRP := R1.lt; have B1 := B0.trans (hb1.mono (by rw [World.size_alloc]; omega)); clear hb1 SP R0 B0; have HL : Ls w1 A n l := ⟨hcap, hS, HO.out⟩; generalize hp0 : w1.alloc (.cells #[.int .i64 0, .int .i64 0, .string ⟨#[]⟩, .string ⟨#[]⟩, .string ⟨#[]⟩] 27) = p0 at *; have P0 := Blk.new w1 27 #[.int .i64 0, .int .i64 0, .string ⟨#[]⟩, .string ⟨#[]⟩, .string ⟨#[]⟩]; rw [hp0] at P0; have R2 : Blk p0 w.heap.size 27 #[.int .i64 0, .int .i64 0, .string ⟨#[]⟩, .string ⟨#[]⟩, .string ⟨#[]⟩] := (by rw [← hp0]; exact R1.alloc _); have K0 : Below w1.heap.size w1 p0 := (by rw [← hp0]; exact (Below.refl _ w1).alloc (Nat.le_refl _) _); have B2 : Below w.heap.size w p0 := (by rw [← hp0]; exact B1.alloc B1.size _); have NU := Lib.hid (NUM.out A n p0 (HL.below K0)); clear NUM hS hcap; have sc1 := P0.cell 1; have sf1 := P0.frozen 1; simp at sc1; have P1 := P0.set_ 1 (.int .i64 n1); have R2_1 := R2.far (p := ⟨w1.heap.size, 1, none⟩) (by show w.heap.size ≠ w1.heap.size; omega) (.int .i64 n1); have K1 := K0.setCell (p := ⟨w1.heap.size, 1, none⟩) (Nat.le_refl _) (.int .i64 n1); have B2_1 := B2.setCell (p := ⟨w1.heap.size, 1, none⟩) (by show w.heap.size ≤ w1.heap.size; omega) (.int .i64 n1); generalize hw1 : p0.setCell ⟨w1.heap.size, 1, none⟩ (.int .i64 n1) = p1 at *; obtain ⟨ad, e⟩ : ∃ ad, A = some ad := (by obtain ⟨ad, e, _⟩ := HL.strs (by rw [List.length_map]; exact List.length_pos_iff.2 hne); exact ⟨ad, e⟩); subst e; obtain ⟨AA, hAA⟩ : ∃ AA, (if n = i then (some ad : Option Addr) else some (ad.add i)) = AA := ⟨_, rfl⟩; have LL : Hid (∀ u, Below w1.heap.size w1 u → Ls u AA (n - i) ([34] :: [b] :: t)) := Lib.hid (fun u hu => by rw [← hdr]; exact (HL.below hu).slice hAA); obtain ⟨ae, rfl⟩ := (LL.out w1 (Below.refl _ _)).addr; have x0 : p1.cell? ae = some (.string (bs [34])) := (LL.out w1 (Below.refl _ _)).at_ (j := 0) (k := [34]) rfl K1; have x1 : p1.cell? ⟨ae.block, ae.off + 1, none⟩ = some (.string S) := (by rw [← hSb.out]; exact (LL.out w1 (Below.refl _ _)).at_ (j := 1) (k := [b]) rfl K1))
    | (go_at_call 10; (with_reducible refine NU.out.mono ?_); rintro e w2 ⟨rfl, rfl⟩; clear NU)
    | (go_at_call 11; (with_reducible refine (SG.out _).mono ?_); rintro e w3 ⟨rfl, hb3⟩; have P2 := P1.below hb3 P1.lt; have R2_2 := R2_1.below hb3 R2_1.lt; have K2 := K1.trans (hb3.mono K1.size); have B2_2 := B2_1.trans (hb3.mono B2_1.size); have x1b : w3.cell? ⟨ae.block, ae.off + 1, none⟩ = some (.string S) := (by rw [← hSb.out]; exact (LL.out w1 (Below.refl _ _)).at_ (j := 1) (k := [b]) rfl K2); have x0b : w3.cell? ae = some (.string (bs [34])) := (LL.out w1 (Below.refl _ _)).at_ (j := 0) (k := [34]) rfl K2; have sc3 := P2.cell 0; have sf3 := P2.frozen 0; simp at sc3; have P3 := P2.set_ 0 (.int .i64 (b.toNat : Int)); have R2_3 := R2_2.far (p := ⟨w1.heap.size, 0, none⟩) (by show w.heap.size ≠ w1.heap.size; omega) (.int .i64 (b.toNat : Int)); have K3 := K2.setCell (p := ⟨w1.heap.size, 0, none⟩) (Nat.le_refl _) (.int .i64 (b.toNat : Int)); have B2_3 := B2_2.setCell (p := ⟨w1.heap.size, 0, none⟩) (by show w.heap.size ≤ w1.heap.size; omega) (.int .i64 (b.toNat : Int)); generalize hw3 : w3.setCell ⟨w1.heap.size, 0, none⟩ (.int .i64 (b.toNat : Int)) = p3 at *; obtain ⟨AB, hAB⟩ : ∃ AB, (if n - i = 2 then (some ae : Option Addr) else some ⟨ae.block, ae.off + 2, none⟩) = AB := ⟨_, rfl⟩; have L2 : Hid (∀ u, Below w1.heap.size w1 u → Ls u AB (n - i - 2) t) := Lib.hid (fun u hu => (LL.out u hu).cut hAB); have NU2 := Lib.hid (NUM2.out AB (n - i - 2) p3 (L2.out _ K3)); have cc1 := P3.cell 1; simp at cc1; clear NUM2; have sc4 := P3.cell 1; have sf4 := P3.frozen 1; simp at sc4; have P4 := P3.set_ 1 (.int .i64 cm); have R2_4 := R2_3.far (p := ⟨w1.heap.size, 1, none⟩) (by show w.heap.size ≠ w1.heap.size; omega) (.int .i64 cm); have K4 := K3.setCell (p := ⟨w1.heap.size, 1, none⟩) (Nat.le_refl _) (.int .i64 cm); have B2_4 := B2_3.setCell (p := ⟨w1.heap.size, 1, none⟩) (by show w.heap.size ≤ w1.heap.size; omega) (.int .i64 cm); generalize hw4 : p3.setCell ⟨w1.heap.size, 1, none⟩ (.int .i64 cm) = p4 at *; obtain ⟨ag, e⟩ : ∃ ag, AB = some ag := (by obtain ⟨ag, e, _⟩ := (L2.out w1 (Below.refl _ _)).strs (by rw [List.length_map]; exact List.length_pos_iff.2 hne2); exact ⟨ag, e⟩); subst e; obtain ⟨AC, hAC⟩ : ∃ AC, (if n - i - 2 = i2 then (some ag : Option Addr) else some (ag.add i2)) = AC := ⟨_, rfl⟩; have L3 : Hid (∀ u, Below w1.heap.size w1 u → Ls u AC (n - i - 2 - i2) (k2 :: t2)) := Lib.hid (fun u hu => by rw [← hdr2]; exact (L2.out u hu).slice hAC); obtain ⟨af, rfl⟩ := (L3.out w1 (Below.refl _ _)).addr; obtain ⟨nf, hnf⟩ : ∃ nf, n - i - 2 - i2 = nf := ⟨_, rfl⟩; rw [hnf] at L3; have y0 := P4.cell 0; have y1 := P4.cell 1; have y2 := P4.cell 2; have y3 := P4.cell 3; have y4 := P4.cell 4; simp at y0 y1 y2 y3 y4; have PL := Lib.hid (show Calls Tryz.prog 14 #[.agg #[.int .i64 (b.toNat : Int), .int .i64 cm, .string ⟨#[]⟩, .string ⟨#[]⟩, .string ⟨#[]⟩], .slice (some af) (t2.length + 1) nf] p4 (RefFin (Phr.run false ⟨(b.toNat : Int), cm, [], [], []⟩ (k2 :: t2)) p4) from ref26_plain (L3.out p4 K4) HT.out))
    | (go_at_call 12; (with_reducible refine (NM.out _).mono ?_); rintro e w4 ⟨rfl, rfl⟩)
    | (go_at_call 10; (with_reducible refine NU2.out.mono ?_); rintro e w4 ⟨rfl, rfl⟩; clear NU2)
    | (go_at_call 13; (with_reducible refine (CN.out _).mono ?_); rintro e w5 ⟨rfl, rfl⟩)
    | (go_at_call 14; refine PL.out.mono ?_; rintro e w6 ⟨⟨d, is⟩, hY, rfl, hb6⟩; rw [hRUN] at hY; have P5 := P4.below hb6 P4.lt; have R2_5 := R2_4.below hb6 R2_4.lt; have K5 := K4.trans (hb6.mono K4.size); have B2_5 := B2_4.trans (hb6.mono B2_4.size); generalize hD : w6.alloc (.cells #[.int .i64 0, .int .i64 0, .string ⟨#[]⟩, .string ⟨#[]⟩, .string ⟨#[]⟩] 27) = d0 at *; obtain ⟨⟨dx0, dy0⟩, ⟨dx1, dy1⟩, ⟨dx2, dy2⟩, ⟨dx3, dy3⟩, ⟨dx4, dy4⟩, dB, dW⟩ := Phr.rbox d hD; generalize hd1 : d0.setCell ⟨w6.heap.size, 0, none⟩ (.int .i64 d.reg) = d1 at *; generalize hd2 : d1.setCell ⟨w6.heap.size, 1, none⟩ (.int .i64 d.count) = d2 at *; generalize hd3 : d2.setCell ⟨w6.heap.size, 2, none⟩ (.string (bs d.op)) = d3 at *; generalize hd4 : d3.setCell ⟨w6.heap.size, 3, none⟩ (.string (bs d.key)) = d4 at *; generalize hd5 : d4.setCell ⟨w6.heap.size, 4, none⟩ (.string (bs d.arg)) = d5 at *; have P6 := P5.below dW P5.lt; have R2_6 := R2_5.below dW R2_5.lt; have K6 := K5.trans (dW.mono K5.size); have B2_6 := B2_5.trans (dW.mono B2_5.size); have i0 := dB.cell 0; have i1 := dB.cell 1; have i2 := dB.cell 2; have i3 := dB.cell 3; have i4 := dB.cell 4; simp at i0 i1 i2 i3 i4; by_cases his : is = 0; all_goals (first | (subst his; replace hY : Phr.bad = FF := hY; subst hY; obtain ⟨⟨vp0, vr0⟩, ⟨vp1, vr1⟩, ⟨vp2, vr2⟩, ⟨vp3, vr3⟩, ⟨vp4, vr4⟩, vB⟩ := Phr.blk5 R2_6 (.int .i64 0) (.int .i64 0) (.string ⟨#[]⟩) (.string ⟨#[]⟩) (.string ⟨#[]⟩); have GG := Phr.put5_gb d5 w.heap.size (.int .i64 0) (.int .i64 0) (.string ⟨#[]⟩) (.string ⟨#[]⟩) (.string ⟨#[]⟩); unfold Phr.put5 at GG vB; generalize hv1 : d5.setCell ⟨w.heap.size, 0, none⟩ (.int .i64 0) = v1 at *; generalize hv2 : v1.setCell ⟨w.heap.size, 1, none⟩ (.int .i64 0) = v2 at *; generalize hv3 : v2.setCell ⟨w.heap.size, 2, none⟩ (.string ⟨#[]⟩) = v3 at *; generalize hv4 : v3.setCell ⟨w.heap.size, 3, none⟩ (.string ⟨#[]⟩) = v4 at *; generalize hv5 : v4.setCell ⟨w.heap.size, 4, none⟩ (.string ⟨#[]⟩) = v5 at *; have BB := Lib.hid vB; have W5 := B2_6.grown GG B2_6.size (fun j e => by injection e with e; omega); clear vB) | (have hi0 : (is == 0) = false := (by rw [beq_eq_false_iff_ne]; exact his); replace hY : (d, is) = FF := (by rw [← hY, Phr.fin, if_neg his]); subst hY; obtain ⟨⟨vp0, vr0⟩, ⟨vp1, vr1⟩, ⟨vp2, vr2⟩, ⟨vp3, vr3⟩, ⟨vp4, vr4⟩, vB⟩ := Phr.blk5 R2_6 (.int .i64 d.reg) (.int .i64 d.count) (.string (bs d.op)) (.string (bs d.key)) (.string (bs d.arg)); have GG := Phr.put5_gb d5 w.heap.size (.int .i64 d.reg) (.int .i64 d.count) (.string (bs d.op)) (.string (bs d.key)) (.string (bs d.arg)); unfold Phr.put5 at GG vB; generalize hv1 : d5.setCell ⟨w.heap.size, 0, none⟩ (.int .i64 d.reg) = v1 at *; generalize hv2 : v1.setCell ⟨w.heap.size, 1, none⟩ (.int .i64 d.count) = v2 at *; generalize hv3 : v2.setCell ⟨w.heap.size, 2, none⟩ (.string (bs d.op)) = v3 at *; generalize hv4 : v3.setCell ⟨w.heap.size, 3, none⟩ (.string (bs d.key)) = v4 at *; generalize hv5 : v4.setCell ⟨w.heap.size, 4, none⟩ (.string (bs d.arg)) = v5 at *; have BB := Lib.hid vB; have W5 := B2_6.grown GG B2_6.size (fun j e => by injection e with e; omega); clear vB))))
  all_goals
    refine ret_five1 rfl rfl BB.out rfl Tryz.underlying27 (by kernel_rfl) ?_
    exact ⟨rfl, W5⟩
set_option maxHeartbeats 1000000 in
set_option maxRecDepth 100000 in
theorem ref26_Parse_rt {s : ByteArray} {l : List (List UInt8)} {b : UInt8} {t : List (List UInt8)} {k2 : List UInt8} {t2 : List (List UInt8)} {w : World} (hs : s.size ≤ 1000000000000) (he : Key.err s.data.toList = 0) (hl : Key.split s.data.toList = l) (hm : l.length ≤ 900) (hO : ∀ k ∈ l, Utf.one k = true) (hd : (Phr.number l).2 = [34] :: [b] :: t) (hk : Key.isKey [b] = true) (hn : Reg.nameN (b.toNat : Int) ≠ 0) (hd2 : (Phr.number t).2 = k2 :: t2) :
    Calls Tryz.prog 6 #[.string s, .bool true] w (RefIs (Phr.parse true l) w) := by
  have HF : (Phr.run true ⟨(b.toNat : Int), Phr.count (Phr.number l).1 (Phr.number t).1, [], [], []⟩ (k2 :: t2) : Ans) = Phr.parse true l := by rw [Phr.parse, hd]; simp [Phr.reg, Phr.name, hn, hd2, Phr.byte]
  rw [← HF]
  clear HF
  have SP := Lib.hid (fun w => ref13_Split_cap s hs w)
  rw [he, hl] at SP
  have HO := Lib.hid hO
  have NUM := Lib.hid (fun (A : Option Addr) (n : Nat) (u : World) (h : Ls u A n l) => ref26_number h (by omega))
  have hne2 : t ≠ [] := by rintro rfl; cases hd2
  have hne : l ≠ [] := by rintro rfl; cases hd
  have htl2 : t.length ≤ 900 := by
    have h1 := (Phr.number_len l).1
    rw [hd] at h1
    simp at h1
    omega
  have hdr := Phr.took_drop l
  have htl := Phr.took_le l
  have hz : l.length - Phr.took l = (Phr.number l).2.length := by rw [← hdr, List.length_drop]
  rw [hd] at hz hdr
  clear hd
  generalize (Phr.number l).1 = n1 at *
  generalize Phr.took l = i at *
  have hti : (i : Int) ≤ l.length := by omega
  have q34 : ((bs [34]).toList == [34]) = true := by rw [bs_tl]; rfl
  obtain ⟨S, hS0⟩ : ∃ S, bs [b] = S := ⟨_, rfl⟩
  have Q0 : 0 < S.size := by rw [← hS0]; exact Nat.one_pos
  have s0 : (S.size : Int) = 1 := by rw [← hS0]; rfl
  have Q1 : (S[0].toNat : Int) = (b.toNat : Int) := by subst hS0; rfl
  have zb : wrap64 (b.toNat : Int) = (b.toNat : Int) := by have := b.toNat_lt; unfold wrap64; omega
  have SG := Lib.hid (fun w => ref13_Sign S w)
  have NM := Lib.hid (fun w => ref21_Name (b.toNat : Int) w)
  have hSb := Lib.hid hS0
  rw [show (Utf.one S.data.toList && Key.sgn S.data.toList) = true by rw [← hS0]; exact Phr.name_sign hk hn] at SG
  have hn2 : (Reg.nameN (b.toNat : Int) == 0) = false := by rw [beq_eq_false_iff_ne]; exact hn
  have NUM2 := Lib.hid (fun (A : Option Addr) (n : Nat) (u : World) (h : Ls u A n t) => ref26_number h (by omega))
  have CN := Lib.hid (fun (w : World) => ref26_Count n1 (Phr.number t).1 w)
  generalize Reg.nameN (b.toNat : Int) = nn at *
  clear hS0 hk hn
  have hdr2 := Phr.took_drop t
  have htk2 := Phr.took_le t
  have hz2 : t.length - Phr.took t = (Phr.number t).2.length := by rw [← hdr2, List.length_drop]
  rw [hd2] at hz2 hdr2
  clear hd2
  obtain ⟨n2, hn22⟩ : ∃ n2, (Phr.number t).1 = n2 := ⟨_, rfl⟩
  rw [hn22] at NUM2 CN ⊢
  clear hn22
  generalize Phr.took t = i2 at *
  have hti2 : (i2 : Int) ≤ t.length := by omega
  obtain ⟨cm, hcm⟩ : ∃ cm, Phr.count n1 n2 = cm := ⟨_, rfl⟩
  rw [hcm] at CN ⊢
  clear hcm
  have HT : Hid (t2.length ≤ 1000) := Lib.hid (by rw [List.length_cons] at hz2; omega)
  generalize hRUN : Phr.run true ⟨(b.toNat : Int), cm, [], [], []⟩ (k2 :: t2) = FF
  have R0 := Blk.new w 27 #[.int .i64 0, .int .i64 0, .string ⟨#[]⟩, .string ⟨#[]⟩, .string ⟨#[]⟩]
  have B0 := (Below.refl w.heap.size w).alloc (Nat.le_refl _) (.cells #[.int .i64 0, .int .i64 0, .string ⟨#[]⟩, .string ⟨#[]⟩, .string ⟨#[]⟩] 27)
  clear he hl hO
  go_enter Tryz.func6, Tryz.ntmps6
  go_wp2_with (first
    | (go_at_call 9; refine (SP.out _).mono ?_; rintro e w1 ⟨A, n, rfl, hcap, hS, hb1⟩; have R1 := R0.below hb1 R0.lt; have hRP := R1.lt; have B1 := B0.trans (hb1.mono (by rw [World.size_alloc]; omega)); clear hb1 SP R0 B0; have HL : Ls w1 A n l := ⟨hcap, hS, HO.out⟩; generalize hp0 : w1.alloc (.cells #[.int .i64 0, .int .i64 0, .string ⟨#[]⟩, .string ⟨#[]⟩, .string ⟨#[]⟩] 27) = p0 at *; have P0 := Blk.new w1 27 #[.int .i64 0, .int .i64 0, .string ⟨#[]⟩, .string ⟨#[]⟩, .string ⟨#[]⟩]; rw [hp0] at P0; have R2 : Blk p0 w.heap.size 27 #[.int .i64 0, .int .i64 0, .string ⟨#[]⟩, .string ⟨#[]⟩, .string ⟨#[]⟩] := (by rw [← hp0]; exact R1.alloc _); have K0 : Below w1.heap.size w1 p0 := (by rw [← hp0]; exact (Below.refl _ w1).alloc (Nat.le_refl _) _); have B2 : Below w.heap.size w p0 := (by rw [← hp0]; exact B1.alloc B1.size _); have NU := Lib.hid (NUM.out A n p0 (HL.below K0)); clear NUM hS hcap; have sc1 := P0.cell 1; have sf1 := P0.frozen 1; simp at sc1; have P1 := P0.set_ 1 (.int .i64 n1); have R2_1 := R2.far (p := ⟨w1.heap.size, 1, none⟩) (by show w.heap.size ≠ w1.heap.size; omega) (.int .i64 n1); have K1 := K0.setCell (p := ⟨w1.heap.size, 1, none⟩) (Nat.le_refl _) (.int .i64 n1); have B2_1 := B2.setCell (p := ⟨w1.heap.size, 1, none⟩) (by show w.heap.size ≤ w1.heap.size; omega) (.int .i64 n1); generalize hw1 : p0.setCell ⟨w1.heap.size, 1, none⟩ (.int .i64 n1) = p1 at *; obtain ⟨ad, e⟩ : ∃ ad, A = some ad := (by obtain ⟨ad, e, _⟩ := HL.strs (by rw [List.length_map]; exact List.length_pos_iff.2 hne); exact ⟨ad, e⟩); subst e; obtain ⟨AA, hAA⟩ : ∃ AA, (if n = i then (some ad : Option Addr) else some (ad.add i)) = AA := ⟨_, rfl⟩; have LL : Hid (∀ u, Below w1.heap.size w1 u → Ls u AA (n - i) ([34] :: [b] :: t)) := Lib.hid (fun u hu => by rw [← hdr]; exact (HL.below hu).slice hAA); obtain ⟨ae, rfl⟩ := (LL.out w1 (Below.refl _ _)).addr; have x0 : p1.cell? ae = some (.string (bs [34])) := (LL.out w1 (Below.refl _ _)).at_ (j := 0) (k := [34]) rfl K1; have x1 : p1.cell? ⟨ae.block, ae.off + 1, none⟩ = some (.string S) := (by rw [← hSb.out]; exact (LL.out w1 (Below.refl _ _)).at_ (j := 1) (k := [b]) rfl K1))
    | (go_at_call 10; (with_reducible refine NU.out.mono ?_); rintro e w2 ⟨rfl, rfl⟩; clear NU)
    | (go_at_call 11; (with_reducible refine (SG.out _).mono ?_); rintro e w3 ⟨rfl, hb3⟩; have P2 := P1.below hb3 P1.lt; have R2_2 := R2_1.below hb3 R2_1.lt; have K2 := K1.trans (hb3.mono K1.size); have B2_2 := B2_1.trans (hb3.mono B2_1.size); have x1b : w3.cell? ⟨ae.block, ae.off + 1, none⟩ = some (.string S) := (by rw [← hSb.out]; exact (LL.out w1 (Below.refl _ _)).at_ (j := 1) (k := [b]) rfl K2); have x0b : w3.cell? ae = some (.string (bs [34])) := (LL.out w1 (Below.refl _ _)).at_ (j := 0) (k := [34]) rfl K2; have sc3 := P2.cell 0; have sf3 := P2.frozen 0; simp at sc3; have P3 := P2.set_ 0 (.int .i64 (b.toNat : Int)); have R2_3 := R2_2.far (p := ⟨w1.heap.size, 0, none⟩) (by show w.heap.size ≠ w1.heap.size; omega) (.int .i64 (b.toNat : Int)); have K3 := K2.setCell (p := ⟨w1.heap.size, 0, none⟩) (Nat.le_refl _) (.int .i64 (b.toNat : Int)); have B2_3 := B2_2.setCell (p := ⟨w1.heap.size, 0, none⟩) (by show w.heap.size ≤ w1.heap.size; omega) (.int .i64 (b.toNat : Int)); generalize hw3 : w3.setCell ⟨w1.heap.size, 0, none⟩ (.int .i64 (b.toNat : Int)) = p3 at *; obtain ⟨AB, hAB⟩ : ∃ AB, (if n - i = 2 then (some ae : Option Addr) else some ⟨ae.block, ae.off + 2, none⟩) = AB := ⟨_, rfl⟩; have L2 : Hid (∀ u, Below w1.heap.size w1 u → Ls u AB (n - i - 2) t) := Lib.hid (fun u hu => (LL.out u hu).cut hAB); have NU2 := Lib.hid (NUM2.out AB (n - i - 2) p3 (L2.out _ K3)); have cc1 := P3.cell 1; simp at cc1; clear NUM2; have sc4 := P3.cell 1; have sf4 := P3.frozen 1; simp at sc4; have P4 := P3.set_ 1 (.int .i64 cm); have R2_4 := R2_3.far (p := ⟨w1.heap.size, 1, none⟩) (by show w.heap.size ≠ w1.heap.size; omega) (.int .i64 cm); have K4 := K3.setCell (p := ⟨w1.heap.size, 1, none⟩) (Nat.le_refl _) (.int .i64 cm); have B2_4 := B2_3.setCell (p := ⟨w1.heap.size, 1, none⟩) (by show w.heap.size ≤ w1.heap.size; omega) (.int .i64 cm); generalize hw4 : p3.setCell ⟨w1.heap.size, 1, none⟩ (.int .i64 cm) = p4 at *; obtain ⟨ag, e⟩ : ∃ ag, AB = some ag := (by obtain ⟨ag, e, _⟩ := (L2.out w1 (Below.refl _ _)).strs (by rw [List.length_map]; exact List.length_pos_iff.2 hne2); exact ⟨ag, e⟩); subst e; obtain ⟨AC, hAC⟩ : ∃ AC, (if n - i - 2 = i2 then (some ag : Option Addr) else some (ag.add i2)) = AC := ⟨_, rfl⟩; have L3 : Hid (∀ u, Below w1.heap.size w1 u → Ls u AC (n - i - 2 - i2) (k2 :: t2)) := Lib.hid (fun u hu => by rw [← hdr2]; exact (L2.out u hu).slice hAC); obtain ⟨af, rfl⟩ := (L3.out w1 (Below.refl _ _)).addr; obtain ⟨nf, hnf⟩ : ∃ nf, n - i - 2 - i2 = nf := ⟨_, rfl⟩; rw [hnf] at L3; have y0 := P4.cell 0; have y1 := P4.cell 1; have y2 := P4.cell 2; have y3 := P4.cell 3; have y4 := P4.cell 4; simp at y0 y1 y2 y3 y4; have PL := Lib.hid (show Calls Tryz.prog 14 #[.agg #[.int .i64 (b.toNat : Int), .int .i64 cm, .string ⟨#[]⟩, .string ⟨#[]⟩, .string ⟨#[]⟩], .slice (some af) (t2.length + 1) nf] p4 (RefFin (Phr.run false ⟨(b.toNat : Int), cm, [], [], []⟩ (k2 :: t2)) p4) from ref26_plain (L3.out p4 K4) HT.out); have ML := Lib.hid (fun (u : World) (hu : Below w1.heap.size w1 u) => show Calls Tryz.prog 15 #[.agg #[.int .i64 (b.toNat : Int), .int .i64 cm, .string ⟨#[]⟩, .string ⟨#[]⟩, .string ⟨#[]⟩], .slice (some af) (t2.length + 1) nf] u (RefFin (Phr.run true ⟨(b.toNat : Int), cm, [], [], []⟩ (k2 :: t2)) u) from ref26_marked (L3.out u hu)))
    | (go_at_call 12; (with_reducible refine (NM.out _).mono ?_); rintro e w4 ⟨rfl, rfl⟩)
    | (go_at_call 10; (with_reducible refine NU2.out.mono ?_); rintro e w4 ⟨rfl, rfl⟩; clear NU2)
    | (go_at_call 13; (with_reducible refine (CN.out _).mono ?_); rintro e w5 ⟨rfl, rfl⟩)
    | (go_at_call 14; refine PL.out.mono ?_; rintro e w6 ⟨⟨d, is⟩, hY, rfl, hb6⟩; clear PL; have P5 := P4.below hb6 P4.lt; have R2_5 := R2_4.below hb6 R2_4.lt; have K5 := K4.trans (hb6.mono K4.size); have B2_5 := B2_4.trans (hb6.mono B2_4.size); generalize hD : w6.alloc (.cells #[.int .i64 0, .int .i64 0, .string ⟨#[]⟩, .string ⟨#[]⟩, .string ⟨#[]⟩] 27) = d0 at *; obtain ⟨⟨dx0, dy0⟩, ⟨dx1, dy1⟩, ⟨dx2, dy2⟩, ⟨dx3, dy3⟩, ⟨dx4, dy4⟩, dB, dW⟩ := Phr.rbox d hD; generalize hd1 : d0.setCell ⟨w6.heap.size, 0, none⟩ (.int .i64 d.reg) = d1 at *; generalize hd2 : d1.setCell ⟨w6.heap.size, 1, none⟩ (.int .i64 d.count) = d2 at *; generalize hd3 : d2.setCell ⟨w6.heap.size, 2, none⟩ (.string (bs d.op)) = d3 at *; generalize hd4 : d3.setCell ⟨w6.heap.size, 3, none⟩ (.string (bs d.key)) = d4 at *; generalize hd5 : d4.setCell ⟨w6.heap.size, 4, none⟩ (.string (bs d.arg)) = d5 at *; have P6 := P5.below dW P5.lt; have R2_6 := R2_5.below dW R2_5.lt; have K6 := K5.trans (dW.mono K5.size); have B2_6 := B2_5.trans (dW.mono B2_5.size); have ML1 := Lib.hid (ML.out d5 K6); have z0 := P6.cell 0; have z1 := P6.cell 1; have z2 := P6.cell 2; have z3 := P6.cell 3; have z4 := P6.cell 4; simp at z0 z1 z2 z3 z4; clear ML hY)
    | (go_at_call 15; refine ML1.out.mono ?_; rintro e w7 ⟨⟨d2, is2⟩, hY2, rfl, hb7⟩; rw [hRUN] at hY2; clear ML1; have P7 := P6.below hb7 P6.lt; have R2_7 := R2_6.below hb7 R2_6.lt; have K7 := K6.trans (hb7.mono K6.size); have B2_7 := B2_6.trans (hb7.mono B2_6.size); have dB2 := dB.below hb7 dB.lt; have hDR := Nat.lt_of_lt_of_le hRP (K5).size; obtain ⟨⟨ex0, ey0⟩, ⟨ex1, ey1⟩, ⟨ex2, ey2⟩, ⟨ex3, ey3⟩, ⟨ex4, ey4⟩, eB⟩ := Phr.blk5 dB2 (.int .i64 d2.reg) (.int .i64 d2.count) (.string (bs d2.op)) (.string (bs d2.key)) (.string (bs d2.arg)); have eG := Phr.put5_gb w7 w6.heap.size (.int .i64 d2.reg) (.int .i64 d2.count) (.string (bs d2.op)) (.string (bs d2.key)) (.string (bs d2.arg)); unfold Phr.put5 at eG eB; generalize he1 : w7.setCell ⟨w6.heap.size, 0, none⟩ (.int .i64 d2.reg) = e1 at *; generalize he2 : e1.setCell ⟨w6.heap.size, 1, none⟩ (.int .i64 d2.count) = e2 at *; generalize he3 : e2.setCell ⟨w6.heap.size, 2, none⟩ (.string (bs d2.op)) = e3 at *; generalize he4 : e3.setCell ⟨w6.heap.size, 3, none⟩ (.string (bs d2.key)) = e4 at *; generalize he5 : e4.setCell ⟨w6.heap.size, 4, none⟩ (.string (bs d2.arg)) = e5 at *; have R9 := R2_7.grown eG (by intro e; injection e with e; omega); have B9 := B2_7.grown eG B2_7.size (fun j e => by injection e with e; omega); have i0 := eB.cell 0; have i1 := eB.cell 1; have i2 := eB.cell 2; have i3 := eB.cell 3; have i4 := eB.cell 4; simp at i0 i1 i2 i3 i4; by_cases his : is2 = 0; all_goals (first | (subst his; replace hY2 : Phr.bad = FF := hY2; subst hY2; obtain ⟨⟨vp0, vr0⟩, ⟨vp1, vr1⟩, ⟨vp2, vr2⟩, ⟨vp3, vr3⟩, ⟨vp4, vr4⟩, vB⟩ := Phr.blk5 R9 (.int .i64 0) (.int .i64 0) (.string ⟨#[]⟩) (.string ⟨#[]⟩) (.string ⟨#[]⟩); have GG := Phr.put5_gb e5 w.heap.size (.int .i64 0) (.int .i64 0) (.string ⟨#[]⟩) (.string ⟨#[]⟩) (.string ⟨#[]⟩); unfold Phr.put5 at GG vB; generalize hv1 : e5.setCell ⟨w.heap.size, 0, none⟩ (.int .i64 0) = v1 at *; generalize hv2 : v1.setCell ⟨w.heap.size, 1, none⟩ (.int .i64 0) = v2 at *; generalize hv3 : v2.setCell ⟨w.heap.size, 2, none⟩ (.string ⟨#[]⟩) = v3 at *; generalize hv4 : v3.setCell ⟨w.heap.size, 3, none⟩ (.string ⟨#[]⟩) = v4 at *; generalize hv5 : v4.setCell ⟨w.heap.size, 4, none⟩ (.string ⟨#[]⟩) = v5 at *; have BB := Lib.hid vB; have W5 := B9.grown GG B9.size (fun j e => by injection e with e; omega); clear vB) | (have hi0 : (is2 == 0) = false := (by rw [beq_eq_false_iff_ne]; exact his); replace hY2 : (d2, is2) = FF := (by rw [← hY2, Phr.fin, if_neg his]); subst hY2; obtain ⟨⟨vp0, vr0⟩, ⟨vp1, vr1⟩, ⟨vp2, vr2⟩, ⟨vp3, vr3⟩, ⟨vp4, vr4⟩, vB⟩ := Phr.blk5 R9 (.int .i64 d2.reg) (.int .i64 d2.count) (.string (bs d2.op)) (.string (bs d2.key)) (.string (bs d2.arg)); have GG := Phr.put5_gb e5 w.heap.size (.int .i64 d2.reg) (.int .i64 d2.count) (.string (bs d2.op)) (.string (bs d2.key)) (.string (bs d2.arg)); unfold Phr.put5 at GG vB; generalize hv1 : e5.setCell ⟨w.heap.size, 0, none⟩ (.int .i64 d2.reg) = v1 at *; generalize hv2 : v1.setCell ⟨w.heap.size, 1, none⟩ (.int .i64 d2.count) = v2 at *; generalize hv3 : v2.setCell ⟨w.heap.size, 2, none⟩ (.string (bs d2.op)) = v3 at *; generalize hv4 : v3.setCell ⟨w.heap.size, 3, none⟩ (.string (bs d2.key)) = v4 at *; generalize hv5 : v4.setCell ⟨w.heap.size, 4, none⟩ (.string (bs d2.arg)) = v5 at *; have BB := Lib.hid vB; have W5 := B9.grown GG B9.size (fun j e => by injection e with e; omega); clear vB))))
  all_goals
    refine ret_five1 rfl rfl BB.out rfl Tryz.underlying27 (by kernel_rfl) ?_
    exact ⟨rfl, W5⟩
theorem ref26_Parse (s : ByteArray) (v : Bool) (hs : s.size ≤ 900) (w : World) :
    Calls Tryz.prog 6 #[.string s, .bool v] w (RefIs (Phr.ans v s.data.toList) w) := by
  have hs2 : s.size ≤ 1000000000000 := by omega
  by_cases he : Key.err s.data.toList = 0
  · obtain ⟨l, hl⟩ : ∃ l, Key.split s.data.toList = l := ⟨_, rfl⟩
    obtain ⟨rs, hdc, hk⟩ := Key.err_zero he
    have hsp := Key.split_ok hdc hk
    have hrl : rs = l := by rw [← hsp, hl]
    have hO : ∀ k ∈ l, Utf.one k = true := by rw [← hrl]; exact (Utf.dec_some hdc).1
    have hK : ∀ k ∈ l, Key.isKey k = true := by rw [← hrl]; exact List.all_eq_true.1 hk
    have hm : l.length ≤ 900 := by
      have h3 := off_ge hdc (i := rs.length) (Nat.le_refl _)
      rw [Utf.off_top hdc (Nat.le_refl _)] at h3
      rw [← hrl]
      have : s.data.toList.length = s.size := by simp
      omega
    rw [Phr.ans, if_pos he, hl]
    cases hd : (Phr.number l).2 with
    | nil =>
      by_cases h0 : l = []
      · exact ref26_Parse_a0 hs2 he hl hm hO h0
      · exact ref26_Parse_a1 hs2 he hl hm hO h0 hd
    | cons k t =>
      by_cases hq : k = [34]
      · subst hq
        cases t with
        | nil => exact ref26_Parse_b hs2 he hl hm hO hd
        | cons k t =>
          have hki : Key.isKey k = true := hK k (by
            have h1 := Phr.took_drop l
            rw [hd] at h1
            exact List.mem_of_mem_drop (by rw [h1]; simp))
          by_cases hk1 : k.length = 1
          · obtain ⟨b, rfl⟩ := List.length_eq_one_iff.1 hk1
            by_cases hn : Reg.nameN (b.toNat : Int) = 0
            · cases hsg : (Utf.one [b] && Key.sgn [b]) with
              | false => exact ref26_Parse_c2a hs2 he hl hm hO hd hki hsg
              | true => exact ref26_Parse_c2b hs2 he hl hm hO hd hsg hn
            · cases hd2 : (Phr.number t).2 with
              | nil =>
                by_cases h0 : t = []
                · exact ref26_Parse_rnil hs2 he hl hm hO hd hki hn h0
                · exact ref26_Parse_rend hs2 he hl hm hO hd hki hn h0 hd2
              | cons k2 t2 =>
                cases v with
                | false => exact ref26_Parse_rf hs2 he hl hm hO hd hki hn hd2
                | true => exact ref26_Parse_rt hs2 he hl hm hO hd hki hn hd2
          · exact ref26_Parse_c1 hs2 he hl hm hO hd hk1
      · cases v with
        | false => exact ref26_Parse_df hs2 he hl hm hO hd hq
        | true => exact ref26_Parse_dt hs2 he hl hm hO hd hq
  · rw [Phr.ans_no he]
    exact ref26_Parse_bad hs2 he
end Go.Proofs.YtchpkeelnfmlbaaGreat
