/-
  Package reg: a text kept: yanked, and taken out.
-/
import Derived.Test.YtopplkfbnpamdaaRegAlso
namespace Go.Proofs.Ytopplkfbnpamdaa
open Go.RowKit
open Reg
/-- An answer of registers and an error. -/
def KeepIs (r : List Rg × Int) (w : World) (e : Ending) (w' : World) : Prop := ∃ (A : Option Addr) (c : Nat), e = .returned (.tuple #[.slice A r.1.length c, .int .i64 r.2]) ∧ Rgs w' A r.1 ∧ r.1.length ≤ c ∧ Below w.heap.size w w'
/-- The box of the text that is kept. -/
structure KBox (w u : World) (b : Bool) (s : ByteArray) : Prop where
  below : Below w.heap.size w u
  blk : Blk u w.heap.size 32 #[.int .i64 0, .bool b, .string s]
theorem KBox.drew {w u : World} {b : Bool} {s : ByteArray} (h : KBox w u b s) : KBox w u.drew b s := ⟨h.below.trans ((below_gb (gb_drew u none)).mono h.below.size), h.blk⟩
theorem KBox.on {w u v : World} {b : Bool} {s : ByteArray} (h : KBox w u b s) (hb : Below u.heap.size u v) : KBox w v b s := ⟨h.below.trans (hb.mono h.below.size), h.blk.below hb h.blk.lt⟩
theorem KBox.ond {w u v : World} {b : Bool} {s : ByteArray} (h : KBox w u b s) (hb : Below u.drew.heap.size u.drew v) : KBox w v b s := h.drew.on hb
theorem KBox.lt {w u : World} {b : Bool} {s : ByteArray} (h : KBox w u b s) : w.heap.size + 1 ≤ u.heap.size := h.blk.lt
theorem KBox.cells {w u : World} {b : Bool} {s : ByteArray} (h : KBox w u b s) : u.cell? ⟨w.heap.size, 0, none⟩ = some (.int .i64 0) ∧ u.cell? ⟨w.heap.size, 1, none⟩ = some (.bool b) ∧ u.cell? ⟨w.heap.size, 2, none⟩ = some (.string s) := ⟨h.blk.cell 0, h.blk.cell 1, h.blk.cell 2⟩
theorem KBox.new (w : World) (b : Bool) (s : ByteArray) : KBox w (w.alloc (.cells #[.int .i64 0, .bool b, .string s] 32)) b s := ⟨(Below.refl _ w).alloc (Nat.le_refl _) _, Blk.new _ _ _⟩
theorem KBox.three {w u : World} {b b' : Bool} {s s' : ByteArray} (h : KBox w u b s) : KBox w (((u.setCell ⟨w.heap.size, 0, none⟩ (.int .i64 0)).setCell ⟨w.heap.size, 1, none⟩ (.bool b')).setCell ⟨w.heap.size, 2, none⟩ (.string s')) b' s' :=
  ⟨below_three h.below (Nat.le_refl _), three_row h.blk⟩
theorem KBox.alloc {w u : World} {b : Bool} {s : ByteArray} (h : KBox w u b s) (o : Obj) : KBox w (u.alloc o) b s := ⟨h.below.alloc h.below.size o, h.blk.alloc o⟩
/-- A list of the call's own, and the box. -/
def KeptAt (w : World) (b : Bool) (s : ByteArray) (l : List Rg) (e : Ending) (u : World) : Prop := ∃ v, e = .returned v ∧ KBox w u b s ∧ u.ownsRow (w.heap.size + 1) 32 3 v l.length (rrows l)
theorem keep_clone {w u : World} {b : Bool} {s : ByteArray} {A : Option Addr} {c : Nat} {ks : List Rg} (h : KBox w u b s) (hx : Rgs w A ks) (hm : ks.length ≤ 1000) :
    Calls Try.prog 31 #[.slice A ks.length c] u (KeptAt w b s ks) := by
  refine (rg_clone (hx.below h.below) hm).mono ?_
  rintro e u' ⟨v, rfl, ho, hb⟩
  exact ⟨v, rfl, h.on hb, rg_lower ho h.lt⟩
theorem kept_put {w u u' : World} {b : Bool} {s : ByteArray} {v v' : Value} {l l' : List Rg} (h : KBox w u b s) (ho : u.ownsRow (w.heap.size + 1) 32 3 v l.length (rrows l)) (ho' : u'.ownsRow (w.heap.size + 1) 32 3 v' l'.length (rrows l')) (hg : u.grownBy u' v.ownBlock) :
    KeptAt w b s l' (.returned v') u' := by
  refine ⟨v', rfl, ⟨?_, h.blk.grown hg (fun e => by have := (ho.lt _ e.symm).1; omega)⟩, ho'⟩
  exact below_gb (gb_own (gb_below none h.below) hg (fun i hi => by have := (ho.lt i hi).1; omega))
theorem keep_put {w u : World} {b : Bool} {s : ByteArray} {v : Value} {l : List Rg} (name : Int) (h : KBox w u b s) (ho : u.ownsRow (w.heap.size + 1) 32 3 v l.length (rrows l)) (hN : Nam l) :
    Calls Try.prog 30 #[v, .int .i64 name, .agg #[.int .i64 0, .bool b, .string s]] u (KeptAt w b s (put l ⟨name, b, s⟩)) := by
  refine (reg_put (k := ⟨0, b, s⟩) h.lt ho hN).mono ?_
  rintro e u' ⟨v', rfl, ho', hg⟩
  exact kept_put h ho ho' hg
theorem keep_yank {w u : World} {b : Bool} {s : ByteArray} {v : Value} {l : List Rg} (h : KBox w u b s) (ho : u.ownsRow (w.heap.size + 1) 32 3 v l.length (rrows l)) (hN : Nam l) :
    Calls Try.prog 20 #[v, .agg #[.int .i64 0, .bool b, .string s]] u (KeptAt w b s (also l b s false)) := by
  refine (reg_yank (k := ⟨0, b, s⟩) h.lt ho hN).mono ?_
  rintro e u' ⟨v', rfl, ho', hg⟩
  exact kept_put h ho ho' hg
theorem keep_remove {w u : World} {b : Bool} {s : ByteArray} {v : Value} {l : List Rg} (h : KBox w u b s) (ho : u.ownsRow (w.heap.size + 1) 32 3 v l.length (rrows l)) (hN : Nam l) :
    Calls Try.prog 22 #[v, .agg #[.int .i64 0, .bool b, .string s]] u (KeptAt w b s (also l b s true)) := by
  refine (reg_remove (k := ⟨0, b, s⟩) h.lt ho hN).mono ?_
  rintro e u' ⟨v', rfl, ho', hg⟩
  exact kept_put h ho ho' hg
namespace Reg
theorem fit_of {ks : List Rg} {n : Int} {t : ByteArray} {lines taken : Bool} {b : Bool} {s : ByteArray} {z : Int} (hR : Right ks) (ht : Utf.valid t.data.toList = true) (hz : nameN n = z) (h0 : z ≠ 0) (ha : added ks n t lines = (b, s)) (hs : s.size ≤ 4096) :
    kept ks n t lines taken = (if z = 34 then also (put (put ks ⟨z, b, s⟩) ⟨34, b, s⟩) b s taken else put (put ks ⟨z, b, s⟩) ⟨34, b, s⟩, 0) ∧ Nam (put ks ⟨z, b, s⟩) ∧ Nam (put (put ks ⟨z, b, s⟩) ⟨34, b, s⟩) ∧ Fit ⟨0, b, s⟩ := by
  have hI : IsName z := hz ▸ nameN_is (by rw [hz]; exact h0)
  have n1 := put_nam hR.1 (k := ⟨z, b, s⟩) hI
  have hv := added_valid (n := n) (lines := lines) hR.2 ht
  rw [ha] at hv
  refine ⟨?_, n1, put_nam n1 (k := ⟨34, b, s⟩) (.inl rfl), hs, hv⟩
  unfold kept
  rw [if_pos ⟨hR, ht⟩, hz, if_neg h0, ha, if_pos hs]
  unfold into
  simp only [hz, ha]
theorem big_of {ks : List Rg} {n : Int} {t : ByteArray} {lines taken : Bool} {b : Bool} {s : ByteArray} {z : Int} (hR : Right ks) (ht : Utf.valid t.data.toList = true) (hz : nameN n = z) (h0 : z ≠ 0) (ha : added ks n t lines = (b, s)) (hs : ¬ s.size ≤ 4096) :
    kept ks n t lines taken = ([], 8) := by
  unfold kept
  rw [if_pos ⟨hR, ht⟩, hz, if_neg h0, ha, if_neg hs]
theorem put_fit {l : List Rg} {k : Rg} (h : ∀ x ∈ l, Fit x) (hk : Fit k) : ∀ x ∈ put l k, Fit x := fun x hx => by
  rcases put_mem hx with rfl | hx
  · exact hk
  · exact h x hx
end Reg
set_option maxHeartbeats 4000000 in
set_option maxRecDepth 100000 in
theorem reg_keep_yank_wrong (n : Int) (t : ByteArray) (lines : Bool) {A : Option Addr} {c : Nat} {ks : List Rg} {w : World} (hx : Rgs w A ks) (hm : ks.length ≤ 1000) (ht : t.size ≤ 140737488355327) (h : ¬ Right ks) :
    Calls Try.prog 19 #[.slice A ks.length c, .int .i64 n, .agg #[.int .i64 0, .bool lines, .string t], .func (.func 20) #[] #[]] w (KeepIs (kept ks n t lines false) w) := by
  have K0 := KBox.new w lines t
  obtain ⟨q0, q1, q2⟩ := K0.cells
  have RC : Hid (∀ u b s, KBox w u b s → Calls Try.prog 15 #[.slice A ks.length c] u fun e u' => e = .returned (.bool (decide (Right ks))) ∧ KBox w u' b s) := fun u b s h => (reg_Right (hx.below h.below) (by unfold maxLen; omega)).mono fun e u' h' => ⟨h'.1, h.on h'.2⟩
  have VC := Lib.hid (fun w => utf_Valid t (by omega) w)
  have NC := Lib.hid (reg_Name n)
  rw [decide_eq_false h] at RC
  have H : Hid (kept ks n t lines false = ([], 1)) := by show _ = _; rw [kept, if_neg (fun e => h e.1)]
  clear hx hm ht h VC NC
  go_enter Try.func19, Try.ntmps19
  go_wp2_with (go_at_call 15; (with_reducible refine (RC.out _ _ _ K0).mono ?_); rintro e u1 ⟨rfl, K1⟩; obtain ⟨q0, q1, q2⟩ := K1.cells)
  go_ret2
  exact ⟨none, 0, by rw [H.out]; rfl, by rw [H.out]; exact Rgs.nil _ _, by rw [H.out]; exact Nat.zero_le _, K1.below⟩
set_option maxHeartbeats 4000000 in
set_option maxRecDepth 100000 in
theorem reg_keep_yank_invalid (n : Int) (t : ByteArray) (lines : Bool) {A : Option Addr} {c : Nat} {ks : List Rg} {w : World} (hx : Rgs w A ks) (hm : ks.length ≤ 1000) (ht : t.size ≤ 140737488355327) (h : Right ks) (hv : ¬ Utf.valid t.data.toList = true) :
    Calls Try.prog 19 #[.slice A ks.length c, .int .i64 n, .agg #[.int .i64 0, .bool lines, .string t], .func (.func 20) #[] #[]] w (KeepIs (kept ks n t lines false) w) := by
  have K0 := KBox.new w lines t
  obtain ⟨q0, q1, q2⟩ := K0.cells
  have RC : Hid (∀ u b s, KBox w u b s → Calls Try.prog 15 #[.slice A ks.length c] u fun e u' => e = .returned (.bool (decide (Right ks))) ∧ KBox w u' b s) := fun u b s h => (reg_Right (hx.below h.below) (by unfold maxLen; omega)).mono fun e u' h' => ⟨h'.1, h.on h'.2⟩
  have VC := Lib.hid (fun w => utf_Valid t (by omega) w)
  have NC := Lib.hid (reg_Name n)
  rw [decide_eq_true h] at RC
  rw [Bool.eq_false_iff.2 hv] at VC
  have H : Hid (kept ks n t lines false = ([], 1)) := by show _ = _; rw [kept, if_neg (fun e => hv e.2)]
  clear hx hm ht h hv NC
  go_enter Try.func19, Try.ntmps19
  go_wp2_with (first
    | (go_at_call 15; (with_reducible refine (RC.out _ _ _ K0).mono ?_); rintro e u1 ⟨rfl, K1⟩; obtain ⟨q0, q1, q2⟩ := K1.cells)
    | (go_at_call 27; (with_reducible refine (VC.out _).mono ?_); rintro e u9 ⟨rfl, rfl⟩))
  go_ret2
  exact ⟨none, 0, by rw [H.out]; rfl, by rw [H.out]; exact Rgs.nil _ _, by rw [H.out]; exact Nat.zero_le _, K1.below⟩
set_option maxHeartbeats 4000000 in
set_option maxRecDepth 100000 in
theorem reg_keep_yank_noname (n : Int) (t : ByteArray) (lines : Bool) {A : Option Addr} {c : Nat} {ks : List Rg} {w : World} (hx : Rgs w A ks) (hm : ks.length ≤ 1000) (ht : t.size ≤ 140737488355327) (h : Right ks) (hv : Utf.valid t.data.toList = true) (h0 : nameN n = 0) :
    Calls Try.prog 19 #[.slice A ks.length c, .int .i64 n, .agg #[.int .i64 0, .bool lines, .string t], .func (.func 20) #[] #[]] w (KeepIs (kept ks n t lines false) w) := by
  have K0 := KBox.new w lines t
  obtain ⟨q0, q1, q2⟩ := K0.cells
  have RC : Hid (∀ u b s, KBox w u b s → Calls Try.prog 15 #[.slice A ks.length c] u fun e u' => e = .returned (.bool (decide (Right ks))) ∧ KBox w u' b s) := fun u b s h => (reg_Right (hx.below h.below) (by unfold maxLen; omega)).mono fun e u' h' => ⟨h'.1, h.on h'.2⟩
  have VC := Lib.hid (fun w => utf_Valid t (by omega) w)
  have NC := Lib.hid (reg_Name n)
  rw [decide_eq_true h] at RC
  rw [hv] at VC
  rw [h0] at NC
  have H : Hid (kept ks n t lines false = ([], 11)) := by show _ = _; rw [kept, if_pos ⟨h, hv⟩, if_pos h0]
  clear hx hm ht h hv h0
  go_enter Try.func19, Try.ntmps19
  go_wp2_with (first
    | (go_at_call 15; (with_reducible refine (RC.out _ _ _ K0).mono ?_); rintro e u1 ⟨rfl, K1⟩; obtain ⟨q0, q1, q2⟩ := K1.cells)
    | (go_at_call 27; (with_reducible refine (VC.out _).mono ?_); rintro e u9 ⟨rfl, rfl⟩)
    | (go_at_call 17; (with_reducible refine (NC.out _).mono ?_); rintro e u9 ⟨rfl, rfl⟩))
  go_ret2
  exact ⟨none, 0, by rw [H.out]; rfl, by rw [H.out]; exact Rgs.nil _ _, by rw [H.out]; exact Nat.zero_le _, K1.below⟩
set_option maxHeartbeats 4000000 in
set_option maxRecDepth 100000 in
theorem reg_keep_yank_add_big (n : Int) (t : ByteArray) (lines : Bool) {A : Option Addr} {c : Nat} {ks : List Rg} {w : World} (hx : Rgs w A ks) (hm : ks.length ≤ 1000) (ht : t.size ≤ 140737488355327) {z : Int} (h : Right ks) (hv : Utf.valid t.data.toList = true) (hz : nameN n = z) (h0 : z ≠ 0) (ha : 65 ≤ n ∧ n ≤ 90) {old : Rg} (hl : Reg.look ks z = some old) (hs : ¬ (joined old lines t).2.size ≤ 4096) :
    Calls Try.prog 19 #[.slice A ks.length c, .int .i64 n, .agg #[.int .i64 0, .bool lines, .string t], .func (.func 20) #[] #[]] w (KeepIs (kept ks n t lines false) w) := by
  have K0 := KBox.new w lines t
  obtain ⟨q0, q1, q2⟩ := K0.cells
  have RC : Hid (∀ u b s, KBox w u b s → Calls Try.prog 15 #[.slice A ks.length c] u fun e u' => e = .returned (.bool (decide (Right ks))) ∧ KBox w u' b s) := fun u b s h => (reg_Right (hx.below h.below) (by unfold maxLen; omega)).mono fun e u' h' => ⟨h'.1, h.on h'.2⟩
  have VC := Lib.hid (fun w => utf_Valid t (by omega) w)
  have NC := Lib.hid (reg_Name n)
  rw [decide_eq_true h] at RC
  rw [hv] at VC
  rw [hz] at NC
  have AD : added ks n t lines = ((joined old lines t).1, (joined old lines t).2) := by rw [added, if_pos ha, hz, hl]
  have H : Hid (kept ks n t lines false = ([], 8)) := big_of h hv hz h0 AD hs
  have hzz : nameN z = z := nameN_name (hz ▸ nameN_is (by rw [hz]; exact h0))
  have hg : get ks z = (old, true) := get_some h (by rw [hzz]; exact hl)
  have ho4 := (h.2 old (look_mem hl)).1
  have GC : Hid (∀ u b s, KBox w u b s → Calls Try.prog 13 #[.slice A ks.length c, .int .i64 z] u fun e u' => e = .returned (.tuple #[(.agg #[.int .i64 old.name, .bool old.lines, .string old.text]), .bool true]) ∧ KBox w u' b s) := fun u b s hu => (reg_Get z (hx.below hu.below) (by unfold maxLen; omega)).mono fun e u' h' => ⟨by have := h'.1; rw [hg] at this; exact this, hu.on h'.2⟩
  have g0 : (z == 0) = false := by simpa using h0
  have AC := Lib.hid (reg_adds n)
  rw [show decide (65 ≤ n ∧ n ≤ 90) = true from decide_eq_true ha] at AC
  have DC : Hid (∀ u b s, KBox w u b s → Calls Try.prog 29 #[.agg #[.int .i64 old.name, .bool old.lines, .string old.text], .agg #[.int .i64 0, .bool lines, .string t]] u fun e u' => e = .returned (.agg #[.int .i64 0, .bool (joined old lines t).1, .string (joined old lines t).2]) ∧ KBox w u' b s) := fun u b s hu => (reg_add old ⟨0, lines, t⟩ u ho4 ht).mono fun e u' h' => ⟨h'.1, hu.on h'.2⟩
  generalize hjb : (joined old lines t).1 = jb at *
  generalize hjs : (joined old lines t).2 = js at *
  have g1 : decide ((4096 : Int) < (js.size : Int)) = true := decide_eq_true (by omega)
  clear hx hm ht h hv hz h0 AD hzz hg hs hl ha ho4 hjb hjs
  go_enter Try.func19, Try.ntmps19
  go_wp2_with (first
    | (go_at_call 15; (with_reducible refine (RC.out _ _ _ K0).mono ?_); rintro e u1 ⟨rfl, K1⟩; obtain ⟨q0, q1, q2⟩ := K1.cells)
    | (go_at_call 27; (with_reducible refine (VC.out _).mono ?_); rintro e u9 ⟨rfl, rfl⟩)
    | (go_at_call 17; (with_reducible refine (NC.out _).mono ?_); rintro e u9 ⟨rfl, rfl⟩)
    | (go_at_call 13; (with_reducible refine (GC.out _ _ _ K1).mono ?_); rintro e u2 ⟨rfl, K2⟩; replace K2 := K2.alloc (.cells #[.int .i64 old.name, .bool old.lines, .string old.text] 32); obtain ⟨q0, q1, q2⟩ := K2.cells)
    | (go_at_call 28; (with_reducible refine (AC.out _).mono ?_); rintro e u9 ⟨rfl, rfl⟩)
    | (go_at_call 29; (with_reducible refine (DC.out _ _ _ K2).mono ?_); rintro e u3 ⟨rfl, K3⟩; obtain ⟨q0, q1, q2⟩ := K3.cells; have f0 := K3.blk.frozen 0; have f1 := K3.blk.frozen 1; have f2 := K3.blk.frozen 2))
  go_ret2
  exact ⟨none, 0, by rw [H.out]; rfl, by rw [H.out]; exact Rgs.nil _ _, by rw [H.out]; exact Nat.zero_le _, K3.three.below⟩
set_option maxHeartbeats 4000000 in
set_option maxRecDepth 100000 in
theorem reg_keep_yank_add (n : Int) (t : ByteArray) (lines : Bool) {A : Option Addr} {c : Nat} {ks : List Rg} {w : World} (hx : Rgs w A ks) (hm : ks.length ≤ 1000) (ht : t.size ≤ 140737488355327) {z : Int} (h : Right ks) (hv : Utf.valid t.data.toList = true) (hz : nameN n = z) (h0 : z ≠ 0) (ha : 65 ≤ n ∧ n ≤ 90) {old : Rg} (hl : Reg.look ks z = some old) (hs : (joined old lines t).2.size ≤ 4096) :
    Calls Try.prog 19 #[.slice A ks.length c, .int .i64 n, .agg #[.int .i64 0, .bool lines, .string t], .func (.func 20) #[] #[]] w (KeepIs (kept ks n t lines false) w) := by
  have K0 := KBox.new w lines t
  obtain ⟨q0, q1, q2⟩ := K0.cells
  have RC : Hid (∀ u b s, KBox w u b s → Calls Try.prog 15 #[.slice A ks.length c] u fun e u' => e = .returned (.bool (decide (Right ks))) ∧ KBox w u' b s) := fun u b s h => (reg_Right (hx.below h.below) (by unfold maxLen; omega)).mono fun e u' h' => ⟨h'.1, h.on h'.2⟩
  have VC := Lib.hid (fun w => utf_Valid t (by omega) w)
  have NC := Lib.hid (reg_Name n)
  rw [decide_eq_true h] at RC
  rw [hv] at VC
  rw [hz] at NC
  have AD : added ks n t lines = ((joined old lines t).1, (joined old lines t).2) := by rw [added, if_pos ha, hz, hl]
  obtain ⟨HK, n1, n2, hfit⟩ := fit_of (taken := false) h hv hz h0 AD hs
  have hzz : nameN z = z := nameN_name (hz ▸ nameN_is (by rw [hz]; exact h0))
  have hg : get ks z = (old, true) := get_some h (by rw [hzz]; exact hl)
  have ho4 := (h.2 old (look_mem hl)).1
  have GC : Hid (∀ u b s, KBox w u b s → Calls Try.prog 13 #[.slice A ks.length c, .int .i64 z] u fun e u' => e = .returned (.tuple #[(.agg #[.int .i64 old.name, .bool old.lines, .string old.text]), .bool true]) ∧ KBox w u' b s) := fun u b s hu => (reg_Get z (hx.below hu.below) (by unfold maxLen; omega)).mono fun e u' h' => ⟨by have := h'.1; rw [hg] at this; exact this, hu.on h'.2⟩
  have g0 : (z == 0) = false := by simpa using h0
  have AC := Lib.hid (reg_adds n)
  rw [show decide (65 ≤ n ∧ n ≤ 90) = true from decide_eq_true ha] at AC
  have DC : Hid (∀ u b s, KBox w u b s → Calls Try.prog 29 #[.agg #[.int .i64 old.name, .bool old.lines, .string old.text], .agg #[.int .i64 0, .bool lines, .string t]] u fun e u' => e = .returned (.agg #[.int .i64 0, .bool (joined old lines t).1, .string (joined old lines t).2]) ∧ KBox w u' b s) := fun u b s hu => (reg_add old ⟨0, lines, t⟩ u ho4 ht).mono fun e u' h' => ⟨h'.1, hu.on h'.2⟩
  generalize hjb : (joined old lines t).1 = jb at *
  generalize hjs : (joined old lines t).2 = js at *
  have g1 : decide ((4096 : Int) < (js.size : Int)) = false := decide_eq_false (by omega)
  have h34 : ¬ z = 34 := by rw [← hz, nameN_add ha]; omega
  have g2 : (z == 34) = false := by simpa using h34
  rw [if_neg h34] at HK
  have H := Lib.hid HK
  have CC : Hid (∀ u b s, KBox w u b s → Calls Try.prog 31 #[.slice A ks.length c] u (KeptAt w b s ks)) := fun u b s hu => keep_clone hu hx hm
  have PC1 : Hid (∀ u b s v, KBox w u b s → u.ownsRow (w.heap.size + 1) 32 3 v ks.length (rrows ks) → Calls Try.prog 30 #[v, .int .i64 z, .agg #[.int .i64 0, .bool b, .string s]] u (KeptAt w b s (put ks ⟨z, b, s⟩))) := fun u b s v hu ho => keep_put z hu ho h.1
  have PC2 : Hid (∀ u v, KBox w u jb js → u.ownsRow (w.heap.size + 1) 32 3 v (put ks ⟨z, jb, js⟩).length (rrows (put ks ⟨z, jb, js⟩)) → Calls Try.prog 30 #[v, .int .i64 34, .agg #[.int .i64 0, .bool jb, .string js]] u (KeptAt w jb js (put (put ks ⟨z, jb, js⟩) ⟨34, jb, js⟩))) := fun u v hu ho => keep_put 34 hu ho n1
  have hlf : ∀ x ∈ (put (put ks ⟨z, jb, js⟩) ⟨34, jb, js⟩), Fit x := put_fit (put_fit h.2 hfit) hfit
  have hll : (put (put ks ⟨z, jb, js⟩) ⟨34, jb, js⟩).length ≤ 89 := Nam.length_le n2
  generalize hL : (put (put ks ⟨z, jb, js⟩) ⟨34, jb, js⟩) = L at *
  have KC : Hid (∀ x ∈ L, ∀ u, Calls Try.prog 24 #[.string x.text] u fun e u' => e = .returned (.string x.text) ∧ Below u.heap.size u u') := fun x hx u => str_clone x.text u (by have := (hlf x hx).1; omega)
  clear hx hm ht h hv hz h0 AD hzz hg hs hl hfit HK hlf n1 n2 h34 ha ho4 hjb hjs
  go_enter Try.func19, Try.ntmps19
  go_wp2_with (first
    | (go_at_call 15; (with_reducible refine (RC.out _ _ _ K0).mono ?_); rintro e u1 ⟨rfl, K1⟩; obtain ⟨q0, q1, q2⟩ := K1.cells)
    | (go_at_call 27; (with_reducible refine (VC.out _).mono ?_); rintro e u9 ⟨rfl, rfl⟩)
    | (go_at_call 17; (with_reducible refine (NC.out _).mono ?_); rintro e u9 ⟨rfl, rfl⟩)
    | (go_at_call 13; (with_reducible refine (GC.out _ _ _ K1).mono ?_); rintro e u2 ⟨rfl, K2⟩; replace K2 := K2.alloc (.cells #[.int .i64 old.name, .bool old.lines, .string old.text] 32); obtain ⟨q0, q1, q2⟩ := K2.cells)
    | (go_at_call 28; (with_reducible refine (AC.out _).mono ?_); rintro e u9 ⟨rfl, rfl⟩)
    | (go_at_call 29; (with_reducible refine (DC.out _ _ _ K2).mono ?_); rintro e u3 ⟨rfl, K3⟩; obtain ⟨q0, q1, q2⟩ := K3.cells; have f0 := K3.blk.frozen 0; have f1 := K3.blk.frozen 1; have f2 := K3.blk.frozen 2))
  have K4 := K3.three (b' := jb) (s' := js)
  generalize (((u3.setCell ⟨w.heap.size, 0, none⟩ (.int .i64 0)).setCell ⟨w.heap.size, 1, none⟩ (.bool jb)).setCell ⟨w.heap.size, 2, none⟩ (.string js)) = U at *
  clear q0 q1 q2
  obtain ⟨q0, q1, q2⟩ := K4.cells
  go_region_held3 (fun u => u.cell? ⟨w.heap.size, 0, none⟩ = some (.int .i64 0) ∧ u.cell? ⟨w.heap.size, 1, none⟩ = some (.bool jb) ∧ u.cell? ⟨w.heap.size, 2, none⟩ = some (.string js)) (first | (with_reducible exact ⟨by assumption, by assumption, by assumption⟩) | go_keep)
    (first
      | (go_at_call 31; (first | (with_reducible refine (CC.out _ _ _ K4).mono ?_) | (with_reducible refine (CC.out _ _ _ K4.drew).mono ?_)); rintro e u5 ⟨v5, rfl, K5, ho5⟩; obtain ⟨A5, c5, rfl⟩ := own_shape ho5; obtain ⟨q0, q1, q2⟩ := K5.cells)
      | (go_at_call 30; (with_reducible refine (PC1.out _ _ _ _ K5 ho5).mono ?_); rintro e u6 ⟨v6, rfl, K6, ho6⟩; obtain ⟨A6, c6, rfl⟩ := own_shape ho6; obtain ⟨q0, q1, q2⟩ := K6.cells)
      | (go_at_call 30; (with_reducible refine (PC2.out _ _ K6 ho6).mono ?_); rintro e u7 ⟨v7, rfl, K7, ho7⟩; obtain ⟨A7, c7, rfl⟩ := own_shape ho7; obtain ⟨q0, q1, q2⟩ := K7.cells))
  go_wp2
  generalize hLn : L.length = Ln at *
  clear q0 q1 q2
  go_loopw [61] (fun iv wr => ∃ k : Nat, k ≤ Ln ∧ iv = .int .i64 k ∧ wr.ownsRow (w.heap.size + 1) 32 3 (.slice A7 Ln c7) Ln (rrows L) ∧ Below w.heap.size w wr) (fun iv _ => Ln - (intOf iv).toNat)
  case atStart => exact ⟨0, Nat.zero_le _, rfl, ho7, K7.below⟩
  case round =>
    obtain ⟨k, hkl, rfl, ho, hW⟩ := hrel
    clear ho7
    by_cases hlt : k < Ln
    · obtain ⟨x, hkx⟩ : ∃ x, L[k]? = some x := ⟨_, List.getElem?_eq_getElem (by omega)⟩
      obtain ⟨g, c', e1, hgw, hBg, hfz⟩ := rg_addr ho (by omega)
      injection e1 with e1 _ e2
      subst e1 e2
      have KX := Lib.hid (KC.out x (List.mem_of_getElem? hkx))
      have HT := Lib.hid (rrows_text hkx)
      have cell : ∀ u : World, u.ownsRow (w.heap.size + 1) 32 3 (.slice (some ⟨g, 0, none⟩) Ln c7) Ln (rrows L) → u.cell? ⟨g, k * 3 + 2, none⟩ = some (.string x.text) := fun u hu => by
        obtain ⟨b', off', e2, _, hc⟩ := (own_rgs hu hLn).1 (by omega)
        injection e2 with e2
        injection e2 with e2 e3 _
        subst e2 e3
        have := (hc _ _ hkx).2.2
        rwa [Nat.zero_add] at this
      have c2 := cell _ ho
      have CELL := Lib.hid cell
      have hki : (k : Int) < Ln := by omega
      clear hkx hfz cell
      go_wp2_with (go_at_call 24; (with_reducible refine (KX.out _).mono ?_); rintro e ur ⟨rfl, hbr⟩; have ho2 := ho.kept (gb_below none hbr) (by simp [Value.ownBlock]); have hW2 := hW.trans (hbr.mono hW.size); have d2 := CELL.out _ ho2; have fz := (rg_frozen ho2) (k * 3 + 2))
      have ho3 := rg_setCell ho2 (k * 3 + 2) (.string x.text)
      rw [HT.out] at ho3
      have hW3 := hW2.setCell (p := ⟨g, k * 3 + 2, none⟩) (by show w.heap.size ≤ g; omega) (.string x.text)
      go_roundw
      case rel => exact ⟨k + 1, by omega, by go_num, ho3, hW3⟩
      case measure => simp [intOf]; omega
    · go_wp2
      go_ret2
      subst hLn
      obtain ⟨o1, o2⟩ := own_rgs ho rfl
      exact ⟨_, _, by rw [H.out]; rfl, by rw [H.out]; exact o1, by rw [H.out]; exact o2, hW⟩
set_option maxHeartbeats 4000000 in
set_option maxRecDepth 100000 in
theorem reg_keep_yank_has_big (n : Int) (t : ByteArray) (lines : Bool) {A : Option Addr} {c : Nat} {ks : List Rg} {w : World} (hx : Rgs w A ks) (hm : ks.length ≤ 1000) (ht : t.size ≤ 140737488355327) {z : Int} (h : Right ks) (hv : Utf.valid t.data.toList = true) (hz : nameN n = z) (h0 : z ≠ 0) (ha : ¬ (65 ≤ n ∧ n ≤ 90)) {old : Rg} (hl : Reg.look ks z = some old) (hs : ¬ t.size ≤ 4096) :
    Calls Try.prog 19 #[.slice A ks.length c, .int .i64 n, .agg #[.int .i64 0, .bool lines, .string t], .func (.func 20) #[] #[]] w (KeepIs (kept ks n t lines false) w) := by
  have K0 := KBox.new w lines t
  obtain ⟨q0, q1, q2⟩ := K0.cells
  have RC : Hid (∀ u b s, KBox w u b s → Calls Try.prog 15 #[.slice A ks.length c] u fun e u' => e = .returned (.bool (decide (Right ks))) ∧ KBox w u' b s) := fun u b s h => (reg_Right (hx.below h.below) (by unfold maxLen; omega)).mono fun e u' h' => ⟨h'.1, h.on h'.2⟩
  have VC := Lib.hid (fun w => utf_Valid t (by omega) w)
  have NC := Lib.hid (reg_Name n)
  rw [decide_eq_true h] at RC
  rw [hv] at VC
  rw [hz] at NC
  have AD : added ks n t lines = (lines, t) := by rw [added, if_neg ha]
  have H : Hid (kept ks n t lines false = ([], 8)) := big_of h hv hz h0 AD hs
  have hzz : nameN z = z := nameN_name (hz ▸ nameN_is (by rw [hz]; exact h0))
  have hg : get ks z = (old, true) := get_some h (by rw [hzz]; exact hl)
  have ho4 := (h.2 old (look_mem hl)).1
  have GC : Hid (∀ u b s, KBox w u b s → Calls Try.prog 13 #[.slice A ks.length c, .int .i64 z] u fun e u' => e = .returned (.tuple #[(.agg #[.int .i64 old.name, .bool old.lines, .string old.text]), .bool true]) ∧ KBox w u' b s) := fun u b s hu => (reg_Get z (hx.below hu.below) (by unfold maxLen; omega)).mono fun e u' h' => ⟨by have := h'.1; rw [hg] at this; exact this, hu.on h'.2⟩
  have g0 : (z == 0) = false := by simpa using h0
  have AC := Lib.hid (reg_adds n)
  rw [show decide (65 ≤ n ∧ n ≤ 90) = false from decide_eq_false ha] at AC
  have g1 : decide ((4096 : Int) < (t.size : Int)) = true := decide_eq_true (by omega)
  clear hx hm ht h hv hz h0 AD hzz hg hs hl ha ho4
  go_enter Try.func19, Try.ntmps19
  go_wp2_with (first
    | (go_at_call 15; (with_reducible refine (RC.out _ _ _ K0).mono ?_); rintro e u1 ⟨rfl, K1⟩; obtain ⟨q0, q1, q2⟩ := K1.cells)
    | (go_at_call 27; (with_reducible refine (VC.out _).mono ?_); rintro e u9 ⟨rfl, rfl⟩)
    | (go_at_call 17; (with_reducible refine (NC.out _).mono ?_); rintro e u9 ⟨rfl, rfl⟩)
    | (go_at_call 13; (with_reducible refine (GC.out _ _ _ K1).mono ?_); rintro e u2 ⟨rfl, K2⟩; replace K2 := K2.alloc (.cells #[.int .i64 old.name, .bool old.lines, .string old.text] 32); obtain ⟨q0, q1, q2⟩ := K2.cells)
    | (go_at_call 28; (with_reducible refine (AC.out _).mono ?_); rintro e u9 ⟨rfl, rfl⟩))
  go_ret2
  exact ⟨none, 0, by rw [H.out]; rfl, by rw [H.out]; exact Rgs.nil _ _, by rw [H.out]; exact Nat.zero_le _, K2.below⟩
set_option maxHeartbeats 4000000 in
set_option maxRecDepth 100000 in
theorem reg_keep_yank_has (n : Int) (t : ByteArray) (lines : Bool) {A : Option Addr} {c : Nat} {ks : List Rg} {w : World} (hx : Rgs w A ks) (hm : ks.length ≤ 1000) (ht : t.size ≤ 140737488355327) {z : Int} (h : Right ks) (hv : Utf.valid t.data.toList = true) (hz : nameN n = z) (h0 : z ≠ 0) (ha : ¬ (65 ≤ n ∧ n ≤ 90)) {old : Rg} (hl : Reg.look ks z = some old) (hs : t.size ≤ 4096) (h34 : ¬ z = 34) :
    Calls Try.prog 19 #[.slice A ks.length c, .int .i64 n, .agg #[.int .i64 0, .bool lines, .string t], .func (.func 20) #[] #[]] w (KeepIs (kept ks n t lines false) w) := by
  have K0 := KBox.new w lines t
  obtain ⟨q0, q1, q2⟩ := K0.cells
  have RC : Hid (∀ u b s, KBox w u b s → Calls Try.prog 15 #[.slice A ks.length c] u fun e u' => e = .returned (.bool (decide (Right ks))) ∧ KBox w u' b s) := fun u b s h => (reg_Right (hx.below h.below) (by unfold maxLen; omega)).mono fun e u' h' => ⟨h'.1, h.on h'.2⟩
  have VC := Lib.hid (fun w => utf_Valid t (by omega) w)
  have NC := Lib.hid (reg_Name n)
  rw [decide_eq_true h] at RC
  rw [hv] at VC
  rw [hz] at NC
  have AD : added ks n t lines = (lines, t) := by rw [added, if_neg ha]
  obtain ⟨HK, n1, n2, hfit⟩ := fit_of (taken := false) h hv hz h0 AD hs
  have hzz : nameN z = z := nameN_name (hz ▸ nameN_is (by rw [hz]; exact h0))
  have hg : get ks z = (old, true) := get_some h (by rw [hzz]; exact hl)
  have ho4 := (h.2 old (look_mem hl)).1
  have GC : Hid (∀ u b s, KBox w u b s → Calls Try.prog 13 #[.slice A ks.length c, .int .i64 z] u fun e u' => e = .returned (.tuple #[(.agg #[.int .i64 old.name, .bool old.lines, .string old.text]), .bool true]) ∧ KBox w u' b s) := fun u b s hu => (reg_Get z (hx.below hu.below) (by unfold maxLen; omega)).mono fun e u' h' => ⟨by have := h'.1; rw [hg] at this; exact this, hu.on h'.2⟩
  have g0 : (z == 0) = false := by simpa using h0
  have AC := Lib.hid (reg_adds n)
  rw [show decide (65 ≤ n ∧ n ≤ 90) = false from decide_eq_false ha] at AC
  have g1 : decide ((4096 : Int) < (t.size : Int)) = false := decide_eq_false (by omega)
  have g2 : (z == 34) = false := by simpa using h34
  rw [if_neg h34] at HK
  have H := Lib.hid HK
  have CC : Hid (∀ u b s, KBox w u b s → Calls Try.prog 31 #[.slice A ks.length c] u (KeptAt w b s ks)) := fun u b s hu => keep_clone hu hx hm
  have PC1 : Hid (∀ u b s v, KBox w u b s → u.ownsRow (w.heap.size + 1) 32 3 v ks.length (rrows ks) → Calls Try.prog 30 #[v, .int .i64 z, .agg #[.int .i64 0, .bool b, .string s]] u (KeptAt w b s (put ks ⟨z, b, s⟩))) := fun u b s v hu ho => keep_put z hu ho h.1
  have PC2 : Hid (∀ u v, KBox w u lines t → u.ownsRow (w.heap.size + 1) 32 3 v (put ks ⟨z, lines, t⟩).length (rrows (put ks ⟨z, lines, t⟩)) → Calls Try.prog 30 #[v, .int .i64 34, .agg #[.int .i64 0, .bool lines, .string t]] u (KeptAt w lines t (put (put ks ⟨z, lines, t⟩) ⟨34, lines, t⟩))) := fun u v hu ho => keep_put 34 hu ho n1
  have hlf : ∀ x ∈ (put (put ks ⟨z, lines, t⟩) ⟨34, lines, t⟩), Fit x := put_fit (put_fit h.2 hfit) hfit
  have hll : (put (put ks ⟨z, lines, t⟩) ⟨34, lines, t⟩).length ≤ 89 := Nam.length_le n2
  generalize hL : (put (put ks ⟨z, lines, t⟩) ⟨34, lines, t⟩) = L at *
  have KC : Hid (∀ x ∈ L, ∀ u, Calls Try.prog 24 #[.string x.text] u fun e u' => e = .returned (.string x.text) ∧ Below u.heap.size u u') := fun x hx u => str_clone x.text u (by have := (hlf x hx).1; omega)
  clear hx hm ht h hv hz h0 AD hzz hg hs hl hfit HK hlf n1 n2 h34 ha ho4
  go_enter Try.func19, Try.ntmps19
  go_wp2_with (first
    | (go_at_call 15; (with_reducible refine (RC.out _ _ _ K0).mono ?_); rintro e u1 ⟨rfl, K1⟩; obtain ⟨q0, q1, q2⟩ := K1.cells)
    | (go_at_call 27; (with_reducible refine (VC.out _).mono ?_); rintro e u9 ⟨rfl, rfl⟩)
    | (go_at_call 17; (with_reducible refine (NC.out _).mono ?_); rintro e u9 ⟨rfl, rfl⟩)
    | (go_at_call 13; (with_reducible refine (GC.out _ _ _ K1).mono ?_); rintro e u2 ⟨rfl, K2⟩; replace K2 := K2.alloc (.cells #[.int .i64 old.name, .bool old.lines, .string old.text] 32); obtain ⟨q0, q1, q2⟩ := K2.cells)
    | (go_at_call 28; (with_reducible refine (AC.out _).mono ?_); rintro e u9 ⟨rfl, rfl⟩))
  have K4 := K2
  generalize (u2.alloc (.cells #[.int .i64 old.name, .bool old.lines, .string old.text] 32)) = U at *
  clear q0 q1 q2
  obtain ⟨q0, q1, q2⟩ := K4.cells
  go_region_held3 (fun u => u.cell? ⟨w.heap.size, 0, none⟩ = some (.int .i64 0) ∧ u.cell? ⟨w.heap.size, 1, none⟩ = some (.bool lines) ∧ u.cell? ⟨w.heap.size, 2, none⟩ = some (.string t)) (first | (with_reducible exact ⟨by assumption, by assumption, by assumption⟩) | go_keep)
    (first
      | (go_at_call 31; (first | (with_reducible refine (CC.out _ _ _ K4).mono ?_) | (with_reducible refine (CC.out _ _ _ K4.drew).mono ?_)); rintro e u5 ⟨v5, rfl, K5, ho5⟩; obtain ⟨A5, c5, rfl⟩ := own_shape ho5; obtain ⟨q0, q1, q2⟩ := K5.cells)
      | (go_at_call 30; (with_reducible refine (PC1.out _ _ _ _ K5 ho5).mono ?_); rintro e u6 ⟨v6, rfl, K6, ho6⟩; obtain ⟨A6, c6, rfl⟩ := own_shape ho6; obtain ⟨q0, q1, q2⟩ := K6.cells)
      | (go_at_call 30; (with_reducible refine (PC2.out _ _ K6 ho6).mono ?_); rintro e u7 ⟨v7, rfl, K7, ho7⟩; obtain ⟨A7, c7, rfl⟩ := own_shape ho7; obtain ⟨q0, q1, q2⟩ := K7.cells))
  go_wp2
  generalize hLn : L.length = Ln at *
  clear q0 q1 q2
  go_loopw [61] (fun iv wr => ∃ k : Nat, k ≤ Ln ∧ iv = .int .i64 k ∧ wr.ownsRow (w.heap.size + 1) 32 3 (.slice A7 Ln c7) Ln (rrows L) ∧ Below w.heap.size w wr) (fun iv _ => Ln - (intOf iv).toNat)
  case atStart => exact ⟨0, Nat.zero_le _, rfl, ho7, K7.below⟩
  case round =>
    obtain ⟨k, hkl, rfl, ho, hW⟩ := hrel
    clear ho7
    by_cases hlt : k < Ln
    · obtain ⟨x, hkx⟩ : ∃ x, L[k]? = some x := ⟨_, List.getElem?_eq_getElem (by omega)⟩
      obtain ⟨g, c', e1, hgw, hBg, hfz⟩ := rg_addr ho (by omega)
      injection e1 with e1 _ e2
      subst e1 e2
      have KX := Lib.hid (KC.out x (List.mem_of_getElem? hkx))
      have HT := Lib.hid (rrows_text hkx)
      have cell : ∀ u : World, u.ownsRow (w.heap.size + 1) 32 3 (.slice (some ⟨g, 0, none⟩) Ln c7) Ln (rrows L) → u.cell? ⟨g, k * 3 + 2, none⟩ = some (.string x.text) := fun u hu => by
        obtain ⟨b', off', e2, _, hc⟩ := (own_rgs hu hLn).1 (by omega)
        injection e2 with e2
        injection e2 with e2 e3 _
        subst e2 e3
        have := (hc _ _ hkx).2.2
        rwa [Nat.zero_add] at this
      have c2 := cell _ ho
      have CELL := Lib.hid cell
      have hki : (k : Int) < Ln := by omega
      clear hkx hfz cell
      go_wp2_with (go_at_call 24; (with_reducible refine (KX.out _).mono ?_); rintro e ur ⟨rfl, hbr⟩; have ho2 := ho.kept (gb_below none hbr) (by simp [Value.ownBlock]); have hW2 := hW.trans (hbr.mono hW.size); have d2 := CELL.out _ ho2; have fz := (rg_frozen ho2) (k * 3 + 2))
      have ho3 := rg_setCell ho2 (k * 3 + 2) (.string x.text)
      rw [HT.out] at ho3
      have hW3 := hW2.setCell (p := ⟨g, k * 3 + 2, none⟩) (by show w.heap.size ≤ g; omega) (.string x.text)
      go_roundw
      case rel => exact ⟨k + 1, by omega, by go_num, ho3, hW3⟩
      case measure => simp [intOf]; omega
    · go_wp2
      go_ret2
      subst hLn
      obtain ⟨o1, o2⟩ := own_rgs ho rfl
      exact ⟨_, _, by rw [H.out]; rfl, by rw [H.out]; exact o1, by rw [H.out]; exact o2, hW⟩
set_option maxHeartbeats 4000000 in
set_option maxRecDepth 100000 in
theorem reg_keep_yank_has_plain (n : Int) (t : ByteArray) (lines : Bool) {A : Option Addr} {c : Nat} {ks : List Rg} {w : World} (hx : Rgs w A ks) (hm : ks.length ≤ 1000) (ht : t.size ≤ 140737488355327) {z : Int} (h : Right ks) (hv : Utf.valid t.data.toList = true) (hz : nameN n = z) (h0 : z ≠ 0) (ha : ¬ (65 ≤ n ∧ n ≤ 90)) {old : Rg} (hl : Reg.look ks z = some old) (hs : t.size ≤ 4096) (h34 : z = 34) :
    Calls Try.prog 19 #[.slice A ks.length c, .int .i64 n, .agg #[.int .i64 0, .bool lines, .string t], .func (.func 20) #[] #[]] w (KeepIs (kept ks n t lines false) w) := by
  have K0 := KBox.new w lines t
  obtain ⟨q0, q1, q2⟩ := K0.cells
  have RC : Hid (∀ u b s, KBox w u b s → Calls Try.prog 15 #[.slice A ks.length c] u fun e u' => e = .returned (.bool (decide (Right ks))) ∧ KBox w u' b s) := fun u b s h => (reg_Right (hx.below h.below) (by unfold maxLen; omega)).mono fun e u' h' => ⟨h'.1, h.on h'.2⟩
  have VC := Lib.hid (fun w => utf_Valid t (by omega) w)
  have NC := Lib.hid (reg_Name n)
  rw [decide_eq_true h] at RC
  rw [hv] at VC
  rw [hz] at NC
  have AD : added ks n t lines = (lines, t) := by rw [added, if_neg ha]
  obtain ⟨HK, n1, n2, hfit⟩ := fit_of (taken := false) h hv hz h0 AD hs
  have hzz : nameN z = z := nameN_name (hz ▸ nameN_is (by rw [hz]; exact h0))
  have hg : get ks z = (old, true) := get_some h (by rw [hzz]; exact hl)
  have ho4 := (h.2 old (look_mem hl)).1
  have GC : Hid (∀ u b s, KBox w u b s → Calls Try.prog 13 #[.slice A ks.length c, .int .i64 z] u fun e u' => e = .returned (.tuple #[(.agg #[.int .i64 old.name, .bool old.lines, .string old.text]), .bool true]) ∧ KBox w u' b s) := fun u b s hu => (reg_Get z (hx.below hu.below) (by unfold maxLen; omega)).mono fun e u' h' => ⟨by have := h'.1; rw [hg] at this; exact this, hu.on h'.2⟩
  have g0 : (z == 0) = false := by simpa using h0
  have AC := Lib.hid (reg_adds n)
  rw [show decide (65 ≤ n ∧ n ≤ 90) = false from decide_eq_false ha] at AC
  have g1 : decide ((4096 : Int) < (t.size : Int)) = false := decide_eq_false (by omega)
  have g2 : (z == 34) = true := by subst h34; rfl
  rw [if_pos h34] at HK
  have H := Lib.hid HK
  have CC : Hid (∀ u b s, KBox w u b s → Calls Try.prog 31 #[.slice A ks.length c] u (KeptAt w b s ks)) := fun u b s hu => keep_clone hu hx hm
  have PC1 : Hid (∀ u b s v, KBox w u b s → u.ownsRow (w.heap.size + 1) 32 3 v ks.length (rrows ks) → Calls Try.prog 30 #[v, .int .i64 z, .agg #[.int .i64 0, .bool b, .string s]] u (KeptAt w b s (put ks ⟨z, b, s⟩))) := fun u b s v hu ho => keep_put z hu ho h.1
  have PC2 : Hid (∀ u v, KBox w u lines t → u.ownsRow (w.heap.size + 1) 32 3 v (put ks ⟨z, lines, t⟩).length (rrows (put ks ⟨z, lines, t⟩)) → Calls Try.prog 30 #[v, .int .i64 34, .agg #[.int .i64 0, .bool lines, .string t]] u (KeptAt w lines t (put (put ks ⟨z, lines, t⟩) ⟨34, lines, t⟩))) := fun u v hu ho => keep_put 34 hu ho n1
  have hlf : ∀ x ∈ (also (put (put ks ⟨z, lines, t⟩) ⟨34, lines, t⟩) lines t false), Fit x := (also_right ⟨n2, put_fit (put_fit h.2 hfit) hfit⟩ (hfit) false).2
  have hll : (also (put (put ks ⟨z, lines, t⟩) ⟨34, lines, t⟩) lines t false).length ≤ 89 := Nam.length_le (also_nam n2 _ _ _)
  have YC : Hid (∀ u v, KBox w u lines t → u.ownsRow (w.heap.size + 1) 32 3 v (put (put ks ⟨z, lines, t⟩) ⟨34, lines, t⟩).length (rrows (put (put ks ⟨z, lines, t⟩) ⟨34, lines, t⟩)) → Calls Try.prog 20 #[v, .agg #[.int .i64 0, .bool lines, .string t]] u (KeptAt w lines t (also (put (put ks ⟨z, lines, t⟩) ⟨34, lines, t⟩) lines t false))) := fun u v hu ho => keep_yank hu ho n2
  generalize hL : (also (put (put ks ⟨z, lines, t⟩) ⟨34, lines, t⟩) lines t false) = L at *
  have KC : Hid (∀ x ∈ L, ∀ u, Calls Try.prog 24 #[.string x.text] u fun e u' => e = .returned (.string x.text) ∧ Below u.heap.size u u') := fun x hx u => str_clone x.text u (by have := (hlf x hx).1; omega)
  clear hx hm ht h hv hz h0 AD hzz hg hs hl hfit HK hlf n1 n2 h34 ha ho4
  go_enter Try.func19, Try.ntmps19
  go_wp2_with (first
    | (go_at_call 15; (with_reducible refine (RC.out _ _ _ K0).mono ?_); rintro e u1 ⟨rfl, K1⟩; obtain ⟨q0, q1, q2⟩ := K1.cells)
    | (go_at_call 27; (with_reducible refine (VC.out _).mono ?_); rintro e u9 ⟨rfl, rfl⟩)
    | (go_at_call 17; (with_reducible refine (NC.out _).mono ?_); rintro e u9 ⟨rfl, rfl⟩)
    | (go_at_call 13; (with_reducible refine (GC.out _ _ _ K1).mono ?_); rintro e u2 ⟨rfl, K2⟩; replace K2 := K2.alloc (.cells #[.int .i64 old.name, .bool old.lines, .string old.text] 32); obtain ⟨q0, q1, q2⟩ := K2.cells)
    | (go_at_call 28; (with_reducible refine (AC.out _).mono ?_); rintro e u9 ⟨rfl, rfl⟩))
  have K4 := K2
  generalize (u2.alloc (.cells #[.int .i64 old.name, .bool old.lines, .string old.text] 32)) = U at *
  clear q0 q1 q2
  obtain ⟨q0, q1, q2⟩ := K4.cells
  go_region_held3 (fun u => u.cell? ⟨w.heap.size, 0, none⟩ = some (.int .i64 0) ∧ u.cell? ⟨w.heap.size, 1, none⟩ = some (.bool lines) ∧ u.cell? ⟨w.heap.size, 2, none⟩ = some (.string t)) (first | (with_reducible exact ⟨by assumption, by assumption, by assumption⟩) | go_keep)
    (first
      | (go_at_call 31; (first | (with_reducible refine (CC.out _ _ _ K4).mono ?_) | (with_reducible refine (CC.out _ _ _ K4.drew).mono ?_)); rintro e u5 ⟨v5, rfl, K5, ho5⟩; obtain ⟨A5, c5, rfl⟩ := own_shape ho5; obtain ⟨q0, q1, q2⟩ := K5.cells)
      | (go_at_call 30; (with_reducible refine (PC1.out _ _ _ _ K5 ho5).mono ?_); rintro e u6 ⟨v6, rfl, K6, ho6⟩; obtain ⟨A6, c6, rfl⟩ := own_shape ho6; obtain ⟨q0, q1, q2⟩ := K6.cells)
      | (go_at_call 30; (with_reducible refine (PC2.out _ _ K6 ho6).mono ?_); rintro e u7 ⟨v7, rfl, K7, ho7⟩; obtain ⟨A7, c7, rfl⟩ := own_shape ho7; obtain ⟨q0, q1, q2⟩ := K7.cells))
  go_wp2_with (go_at_call 20; (with_reducible refine (YC.out _ _ K7 ho7).mono ?_); rintro e u8 ⟨v8, rfl, K8, ho8⟩; obtain ⟨A8, c8, rfl⟩ := own_shape ho8; obtain ⟨q0, q1, q2⟩ := K8.cells)
  generalize hLn : L.length = Ln at *
  clear q0 q1 q2
  go_loopw [61] (fun iv wr => ∃ k : Nat, k ≤ Ln ∧ iv = .int .i64 k ∧ wr.ownsRow (w.heap.size + 1) 32 3 (.slice A8 Ln c8) Ln (rrows L) ∧ Below w.heap.size w wr) (fun iv _ => Ln - (intOf iv).toNat)
  case atStart => exact ⟨0, Nat.zero_le _, rfl, ho8, K8.below⟩
  case round =>
    obtain ⟨k, hkl, rfl, ho, hW⟩ := hrel
    clear ho8
    by_cases hlt : k < Ln
    · obtain ⟨x, hkx⟩ : ∃ x, L[k]? = some x := ⟨_, List.getElem?_eq_getElem (by omega)⟩
      obtain ⟨g, c', e1, hgw, hBg, hfz⟩ := rg_addr ho (by omega)
      injection e1 with e1 _ e2
      subst e1 e2
      have KX := Lib.hid (KC.out x (List.mem_of_getElem? hkx))
      have HT := Lib.hid (rrows_text hkx)
      have cell : ∀ u : World, u.ownsRow (w.heap.size + 1) 32 3 (.slice (some ⟨g, 0, none⟩) Ln c8) Ln (rrows L) → u.cell? ⟨g, k * 3 + 2, none⟩ = some (.string x.text) := fun u hu => by
        obtain ⟨b', off', e2, _, hc⟩ := (own_rgs hu hLn).1 (by omega)
        injection e2 with e2
        injection e2 with e2 e3 _
        subst e2 e3
        have := (hc _ _ hkx).2.2
        rwa [Nat.zero_add] at this
      have c2 := cell _ ho
      have CELL := Lib.hid cell
      have hki : (k : Int) < Ln := by omega
      clear hkx hfz cell
      go_wp2_with (go_at_call 24; (with_reducible refine (KX.out _).mono ?_); rintro e ur ⟨rfl, hbr⟩; have ho2 := ho.kept (gb_below none hbr) (by simp [Value.ownBlock]); have hW2 := hW.trans (hbr.mono hW.size); have d2 := CELL.out _ ho2; have fz := (rg_frozen ho2) (k * 3 + 2))
      have ho3 := rg_setCell ho2 (k * 3 + 2) (.string x.text)
      rw [HT.out] at ho3
      have hW3 := hW2.setCell (p := ⟨g, k * 3 + 2, none⟩) (by show w.heap.size ≤ g; omega) (.string x.text)
      go_roundw
      case rel => exact ⟨k + 1, by omega, by go_num, ho3, hW3⟩
      case measure => simp [intOf]; omega
    · go_wp2
      go_ret2
      subst hLn
      obtain ⟨o1, o2⟩ := own_rgs ho rfl
      exact ⟨_, _, by rw [H.out]; rfl, by rw [H.out]; exact o1, by rw [H.out]; exact o2, hW⟩
set_option maxHeartbeats 4000000 in
set_option maxRecDepth 100000 in
theorem reg_keep_yank_not_big (n : Int) (t : ByteArray) (lines : Bool) {A : Option Addr} {c : Nat} {ks : List Rg} {w : World} (hx : Rgs w A ks) (hm : ks.length ≤ 1000) (ht : t.size ≤ 140737488355327) {z : Int} (h : Right ks) (hv : Utf.valid t.data.toList = true) (hz : nameN n = z) (h0 : z ≠ 0) (hl : Reg.look ks z = none) (hs : ¬ t.size ≤ 4096) :
    Calls Try.prog 19 #[.slice A ks.length c, .int .i64 n, .agg #[.int .i64 0, .bool lines, .string t], .func (.func 20) #[] #[]] w (KeepIs (kept ks n t lines false) w) := by
  have K0 := KBox.new w lines t
  obtain ⟨q0, q1, q2⟩ := K0.cells
  have RC : Hid (∀ u b s, KBox w u b s → Calls Try.prog 15 #[.slice A ks.length c] u fun e u' => e = .returned (.bool (decide (Right ks))) ∧ KBox w u' b s) := fun u b s h => (reg_Right (hx.below h.below) (by unfold maxLen; omega)).mono fun e u' h' => ⟨h'.1, h.on h'.2⟩
  have VC := Lib.hid (fun w => utf_Valid t (by omega) w)
  have NC := Lib.hid (reg_Name n)
  rw [decide_eq_true h] at RC
  rw [hv] at VC
  rw [hz] at NC
  have AD : added ks n t lines = (lines, t) := by rw [added, hz, hl]; split <;> rfl
  have H : Hid (kept ks n t lines false = ([], 8)) := big_of h hv hz h0 AD hs
  have hzz : nameN z = z := nameN_name (hz ▸ nameN_is (by rw [hz]; exact h0))
  have hg : get ks z = (Reg.zero, false) := get_none (by rw [hzz]; exact hl)
  have GC : Hid (∀ u b s, KBox w u b s → Calls Try.prog 13 #[.slice A ks.length c, .int .i64 z] u fun e u' => e = .returned (.tuple #[(.agg #[.int .i64 0, .bool false, .string { data := #[] }]), .bool false]) ∧ KBox w u' b s) := fun u b s hu => (reg_Get z (hx.below hu.below) (by unfold maxLen; omega)).mono fun e u' h' => ⟨by have := h'.1; rw [hg] at this; exact this, hu.on h'.2⟩
  have g0 : (z == 0) = false := by simpa using h0
  have g1 : decide ((4096 : Int) < (t.size : Int)) = true := decide_eq_true (by omega)
  clear hx hm ht h hv hz h0 AD hzz hg hs hl
  go_enter Try.func19, Try.ntmps19
  go_wp2_with (first
    | (go_at_call 15; (with_reducible refine (RC.out _ _ _ K0).mono ?_); rintro e u1 ⟨rfl, K1⟩; obtain ⟨q0, q1, q2⟩ := K1.cells)
    | (go_at_call 27; (with_reducible refine (VC.out _).mono ?_); rintro e u9 ⟨rfl, rfl⟩)
    | (go_at_call 17; (with_reducible refine (NC.out _).mono ?_); rintro e u9 ⟨rfl, rfl⟩)
    | (go_at_call 13; (with_reducible refine (GC.out _ _ _ K1).mono ?_); rintro e u2 ⟨rfl, K2⟩; replace K2 := K2.alloc (.cells #[.int .i64 0, .bool false, .string { data := #[] }] 32); obtain ⟨q0, q1, q2⟩ := K2.cells))
  go_ret2
  exact ⟨none, 0, by rw [H.out]; rfl, by rw [H.out]; exact Rgs.nil _ _, by rw [H.out]; exact Nat.zero_le _, K2.below⟩
set_option maxHeartbeats 4000000 in
set_option maxRecDepth 100000 in
theorem reg_keep_yank_not (n : Int) (t : ByteArray) (lines : Bool) {A : Option Addr} {c : Nat} {ks : List Rg} {w : World} (hx : Rgs w A ks) (hm : ks.length ≤ 1000) (ht : t.size ≤ 140737488355327) {z : Int} (h : Right ks) (hv : Utf.valid t.data.toList = true) (hz : nameN n = z) (h0 : z ≠ 0) (hl : Reg.look ks z = none) (hs : t.size ≤ 4096) (h34 : ¬ z = 34) :
    Calls Try.prog 19 #[.slice A ks.length c, .int .i64 n, .agg #[.int .i64 0, .bool lines, .string t], .func (.func 20) #[] #[]] w (KeepIs (kept ks n t lines false) w) := by
  have K0 := KBox.new w lines t
  obtain ⟨q0, q1, q2⟩ := K0.cells
  have RC : Hid (∀ u b s, KBox w u b s → Calls Try.prog 15 #[.slice A ks.length c] u fun e u' => e = .returned (.bool (decide (Right ks))) ∧ KBox w u' b s) := fun u b s h => (reg_Right (hx.below h.below) (by unfold maxLen; omega)).mono fun e u' h' => ⟨h'.1, h.on h'.2⟩
  have VC := Lib.hid (fun w => utf_Valid t (by omega) w)
  have NC := Lib.hid (reg_Name n)
  rw [decide_eq_true h] at RC
  rw [hv] at VC
  rw [hz] at NC
  have AD : added ks n t lines = (lines, t) := by rw [added, hz, hl]; split <;> rfl
  obtain ⟨HK, n1, n2, hfit⟩ := fit_of (taken := false) h hv hz h0 AD hs
  have hzz : nameN z = z := nameN_name (hz ▸ nameN_is (by rw [hz]; exact h0))
  have hg : get ks z = (Reg.zero, false) := get_none (by rw [hzz]; exact hl)
  have GC : Hid (∀ u b s, KBox w u b s → Calls Try.prog 13 #[.slice A ks.length c, .int .i64 z] u fun e u' => e = .returned (.tuple #[(.agg #[.int .i64 0, .bool false, .string { data := #[] }]), .bool false]) ∧ KBox w u' b s) := fun u b s hu => (reg_Get z (hx.below hu.below) (by unfold maxLen; omega)).mono fun e u' h' => ⟨by have := h'.1; rw [hg] at this; exact this, hu.on h'.2⟩
  have g0 : (z == 0) = false := by simpa using h0
  have g1 : decide ((4096 : Int) < (t.size : Int)) = false := decide_eq_false (by omega)
  have g2 : (z == 34) = false := by simpa using h34
  rw [if_neg h34] at HK
  have H := Lib.hid HK
  have CC : Hid (∀ u b s, KBox w u b s → Calls Try.prog 31 #[.slice A ks.length c] u (KeptAt w b s ks)) := fun u b s hu => keep_clone hu hx hm
  have PC1 : Hid (∀ u b s v, KBox w u b s → u.ownsRow (w.heap.size + 1) 32 3 v ks.length (rrows ks) → Calls Try.prog 30 #[v, .int .i64 z, .agg #[.int .i64 0, .bool b, .string s]] u (KeptAt w b s (put ks ⟨z, b, s⟩))) := fun u b s v hu ho => keep_put z hu ho h.1
  have PC2 : Hid (∀ u v, KBox w u lines t → u.ownsRow (w.heap.size + 1) 32 3 v (put ks ⟨z, lines, t⟩).length (rrows (put ks ⟨z, lines, t⟩)) → Calls Try.prog 30 #[v, .int .i64 34, .agg #[.int .i64 0, .bool lines, .string t]] u (KeptAt w lines t (put (put ks ⟨z, lines, t⟩) ⟨34, lines, t⟩))) := fun u v hu ho => keep_put 34 hu ho n1
  have hlf : ∀ x ∈ (put (put ks ⟨z, lines, t⟩) ⟨34, lines, t⟩), Fit x := put_fit (put_fit h.2 hfit) hfit
  have hll : (put (put ks ⟨z, lines, t⟩) ⟨34, lines, t⟩).length ≤ 89 := Nam.length_le n2
  generalize hL : (put (put ks ⟨z, lines, t⟩) ⟨34, lines, t⟩) = L at *
  have KC : Hid (∀ x ∈ L, ∀ u, Calls Try.prog 24 #[.string x.text] u fun e u' => e = .returned (.string x.text) ∧ Below u.heap.size u u') := fun x hx u => str_clone x.text u (by have := (hlf x hx).1; omega)
  clear hx hm ht h hv hz h0 AD hzz hg hs hl hfit HK hlf n1 n2 h34
  go_enter Try.func19, Try.ntmps19
  go_wp2_with (first
    | (go_at_call 15; (with_reducible refine (RC.out _ _ _ K0).mono ?_); rintro e u1 ⟨rfl, K1⟩; obtain ⟨q0, q1, q2⟩ := K1.cells)
    | (go_at_call 27; (with_reducible refine (VC.out _).mono ?_); rintro e u9 ⟨rfl, rfl⟩)
    | (go_at_call 17; (with_reducible refine (NC.out _).mono ?_); rintro e u9 ⟨rfl, rfl⟩)
    | (go_at_call 13; (with_reducible refine (GC.out _ _ _ K1).mono ?_); rintro e u2 ⟨rfl, K2⟩; replace K2 := K2.alloc (.cells #[.int .i64 0, .bool false, .string { data := #[] }] 32); obtain ⟨q0, q1, q2⟩ := K2.cells))
  have K4 := K2
  generalize (u2.alloc (.cells #[.int .i64 0, .bool false, .string { data := #[] }] 32)) = U at *
  clear q0 q1 q2
  obtain ⟨q0, q1, q2⟩ := K4.cells
  go_region_held3 (fun u => u.cell? ⟨w.heap.size, 0, none⟩ = some (.int .i64 0) ∧ u.cell? ⟨w.heap.size, 1, none⟩ = some (.bool lines) ∧ u.cell? ⟨w.heap.size, 2, none⟩ = some (.string t)) (first | (with_reducible exact ⟨by assumption, by assumption, by assumption⟩) | go_keep)
    (first
      | (go_at_call 31; (first | (with_reducible refine (CC.out _ _ _ K4).mono ?_) | (with_reducible refine (CC.out _ _ _ K4.drew).mono ?_)); rintro e u5 ⟨v5, rfl, K5, ho5⟩; obtain ⟨A5, c5, rfl⟩ := own_shape ho5; obtain ⟨q0, q1, q2⟩ := K5.cells)
      | (go_at_call 30; (with_reducible refine (PC1.out _ _ _ _ K5 ho5).mono ?_); rintro e u6 ⟨v6, rfl, K6, ho6⟩; obtain ⟨A6, c6, rfl⟩ := own_shape ho6; obtain ⟨q0, q1, q2⟩ := K6.cells)
      | (go_at_call 30; (with_reducible refine (PC2.out _ _ K6 ho6).mono ?_); rintro e u7 ⟨v7, rfl, K7, ho7⟩; obtain ⟨A7, c7, rfl⟩ := own_shape ho7; obtain ⟨q0, q1, q2⟩ := K7.cells))
  go_wp2
  generalize hLn : L.length = Ln at *
  clear q0 q1 q2
  go_loopw [61] (fun iv wr => ∃ k : Nat, k ≤ Ln ∧ iv = .int .i64 k ∧ wr.ownsRow (w.heap.size + 1) 32 3 (.slice A7 Ln c7) Ln (rrows L) ∧ Below w.heap.size w wr) (fun iv _ => Ln - (intOf iv).toNat)
  case atStart => exact ⟨0, Nat.zero_le _, rfl, ho7, K7.below⟩
  case round =>
    obtain ⟨k, hkl, rfl, ho, hW⟩ := hrel
    clear ho7
    by_cases hlt : k < Ln
    · obtain ⟨x, hkx⟩ : ∃ x, L[k]? = some x := ⟨_, List.getElem?_eq_getElem (by omega)⟩
      obtain ⟨g, c', e1, hgw, hBg, hfz⟩ := rg_addr ho (by omega)
      injection e1 with e1 _ e2
      subst e1 e2
      have KX := Lib.hid (KC.out x (List.mem_of_getElem? hkx))
      have HT := Lib.hid (rrows_text hkx)
      have cell : ∀ u : World, u.ownsRow (w.heap.size + 1) 32 3 (.slice (some ⟨g, 0, none⟩) Ln c7) Ln (rrows L) → u.cell? ⟨g, k * 3 + 2, none⟩ = some (.string x.text) := fun u hu => by
        obtain ⟨b', off', e2, _, hc⟩ := (own_rgs hu hLn).1 (by omega)
        injection e2 with e2
        injection e2 with e2 e3 _
        subst e2 e3
        have := (hc _ _ hkx).2.2
        rwa [Nat.zero_add] at this
      have c2 := cell _ ho
      have CELL := Lib.hid cell
      have hki : (k : Int) < Ln := by omega
      clear hkx hfz cell
      go_wp2_with (go_at_call 24; (with_reducible refine (KX.out _).mono ?_); rintro e ur ⟨rfl, hbr⟩; have ho2 := ho.kept (gb_below none hbr) (by simp [Value.ownBlock]); have hW2 := hW.trans (hbr.mono hW.size); have d2 := CELL.out _ ho2; have fz := (rg_frozen ho2) (k * 3 + 2))
      have ho3 := rg_setCell ho2 (k * 3 + 2) (.string x.text)
      rw [HT.out] at ho3
      have hW3 := hW2.setCell (p := ⟨g, k * 3 + 2, none⟩) (by show w.heap.size ≤ g; omega) (.string x.text)
      go_roundw
      case rel => exact ⟨k + 1, by omega, by go_num, ho3, hW3⟩
      case measure => simp [intOf]; omega
    · go_wp2
      go_ret2
      subst hLn
      obtain ⟨o1, o2⟩ := own_rgs ho rfl
      exact ⟨_, _, by rw [H.out]; rfl, by rw [H.out]; exact o1, by rw [H.out]; exact o2, hW⟩
set_option maxHeartbeats 4000000 in
set_option maxRecDepth 100000 in
theorem reg_keep_yank_not_plain (n : Int) (t : ByteArray) (lines : Bool) {A : Option Addr} {c : Nat} {ks : List Rg} {w : World} (hx : Rgs w A ks) (hm : ks.length ≤ 1000) (ht : t.size ≤ 140737488355327) {z : Int} (h : Right ks) (hv : Utf.valid t.data.toList = true) (hz : nameN n = z) (h0 : z ≠ 0) (hl : Reg.look ks z = none) (hs : t.size ≤ 4096) (h34 : z = 34) :
    Calls Try.prog 19 #[.slice A ks.length c, .int .i64 n, .agg #[.int .i64 0, .bool lines, .string t], .func (.func 20) #[] #[]] w (KeepIs (kept ks n t lines false) w) := by
  have K0 := KBox.new w lines t
  obtain ⟨q0, q1, q2⟩ := K0.cells
  have RC : Hid (∀ u b s, KBox w u b s → Calls Try.prog 15 #[.slice A ks.length c] u fun e u' => e = .returned (.bool (decide (Right ks))) ∧ KBox w u' b s) := fun u b s h => (reg_Right (hx.below h.below) (by unfold maxLen; omega)).mono fun e u' h' => ⟨h'.1, h.on h'.2⟩
  have VC := Lib.hid (fun w => utf_Valid t (by omega) w)
  have NC := Lib.hid (reg_Name n)
  rw [decide_eq_true h] at RC
  rw [hv] at VC
  rw [hz] at NC
  have AD : added ks n t lines = (lines, t) := by rw [added, hz, hl]; split <;> rfl
  obtain ⟨HK, n1, n2, hfit⟩ := fit_of (taken := false) h hv hz h0 AD hs
  have hzz : nameN z = z := nameN_name (hz ▸ nameN_is (by rw [hz]; exact h0))
  have hg : get ks z = (Reg.zero, false) := get_none (by rw [hzz]; exact hl)
  have GC : Hid (∀ u b s, KBox w u b s → Calls Try.prog 13 #[.slice A ks.length c, .int .i64 z] u fun e u' => e = .returned (.tuple #[(.agg #[.int .i64 0, .bool false, .string { data := #[] }]), .bool false]) ∧ KBox w u' b s) := fun u b s hu => (reg_Get z (hx.below hu.below) (by unfold maxLen; omega)).mono fun e u' h' => ⟨by have := h'.1; rw [hg] at this; exact this, hu.on h'.2⟩
  have g0 : (z == 0) = false := by simpa using h0
  have g1 : decide ((4096 : Int) < (t.size : Int)) = false := decide_eq_false (by omega)
  have g2 : (z == 34) = true := by subst h34; rfl
  rw [if_pos h34] at HK
  have H := Lib.hid HK
  have CC : Hid (∀ u b s, KBox w u b s → Calls Try.prog 31 #[.slice A ks.length c] u (KeptAt w b s ks)) := fun u b s hu => keep_clone hu hx hm
  have PC1 : Hid (∀ u b s v, KBox w u b s → u.ownsRow (w.heap.size + 1) 32 3 v ks.length (rrows ks) → Calls Try.prog 30 #[v, .int .i64 z, .agg #[.int .i64 0, .bool b, .string s]] u (KeptAt w b s (put ks ⟨z, b, s⟩))) := fun u b s v hu ho => keep_put z hu ho h.1
  have PC2 : Hid (∀ u v, KBox w u lines t → u.ownsRow (w.heap.size + 1) 32 3 v (put ks ⟨z, lines, t⟩).length (rrows (put ks ⟨z, lines, t⟩)) → Calls Try.prog 30 #[v, .int .i64 34, .agg #[.int .i64 0, .bool lines, .string t]] u (KeptAt w lines t (put (put ks ⟨z, lines, t⟩) ⟨34, lines, t⟩))) := fun u v hu ho => keep_put 34 hu ho n1
  have hlf : ∀ x ∈ (also (put (put ks ⟨z, lines, t⟩) ⟨34, lines, t⟩) lines t false), Fit x := (also_right ⟨n2, put_fit (put_fit h.2 hfit) hfit⟩ (hfit) false).2
  have hll : (also (put (put ks ⟨z, lines, t⟩) ⟨34, lines, t⟩) lines t false).length ≤ 89 := Nam.length_le (also_nam n2 _ _ _)
  have YC : Hid (∀ u v, KBox w u lines t → u.ownsRow (w.heap.size + 1) 32 3 v (put (put ks ⟨z, lines, t⟩) ⟨34, lines, t⟩).length (rrows (put (put ks ⟨z, lines, t⟩) ⟨34, lines, t⟩)) → Calls Try.prog 20 #[v, .agg #[.int .i64 0, .bool lines, .string t]] u (KeptAt w lines t (also (put (put ks ⟨z, lines, t⟩) ⟨34, lines, t⟩) lines t false))) := fun u v hu ho => keep_yank hu ho n2
  generalize hL : (also (put (put ks ⟨z, lines, t⟩) ⟨34, lines, t⟩) lines t false) = L at *
  have KC : Hid (∀ x ∈ L, ∀ u, Calls Try.prog 24 #[.string x.text] u fun e u' => e = .returned (.string x.text) ∧ Below u.heap.size u u') := fun x hx u => str_clone x.text u (by have := (hlf x hx).1; omega)
  clear hx hm ht h hv hz h0 AD hzz hg hs hl hfit HK hlf n1 n2 h34
  go_enter Try.func19, Try.ntmps19
  go_wp2_with (first
    | (go_at_call 15; (with_reducible refine (RC.out _ _ _ K0).mono ?_); rintro e u1 ⟨rfl, K1⟩; obtain ⟨q0, q1, q2⟩ := K1.cells)
    | (go_at_call 27; (with_reducible refine (VC.out _).mono ?_); rintro e u9 ⟨rfl, rfl⟩)
    | (go_at_call 17; (with_reducible refine (NC.out _).mono ?_); rintro e u9 ⟨rfl, rfl⟩)
    | (go_at_call 13; (with_reducible refine (GC.out _ _ _ K1).mono ?_); rintro e u2 ⟨rfl, K2⟩; replace K2 := K2.alloc (.cells #[.int .i64 0, .bool false, .string { data := #[] }] 32); obtain ⟨q0, q1, q2⟩ := K2.cells))
  have K4 := K2
  generalize (u2.alloc (.cells #[.int .i64 0, .bool false, .string { data := #[] }] 32)) = U at *
  clear q0 q1 q2
  obtain ⟨q0, q1, q2⟩ := K4.cells
  go_region_held3 (fun u => u.cell? ⟨w.heap.size, 0, none⟩ = some (.int .i64 0) ∧ u.cell? ⟨w.heap.size, 1, none⟩ = some (.bool lines) ∧ u.cell? ⟨w.heap.size, 2, none⟩ = some (.string t)) (first | (with_reducible exact ⟨by assumption, by assumption, by assumption⟩) | go_keep)
    (first
      | (go_at_call 31; (first | (with_reducible refine (CC.out _ _ _ K4).mono ?_) | (with_reducible refine (CC.out _ _ _ K4.drew).mono ?_)); rintro e u5 ⟨v5, rfl, K5, ho5⟩; obtain ⟨A5, c5, rfl⟩ := own_shape ho5; obtain ⟨q0, q1, q2⟩ := K5.cells)
      | (go_at_call 30; (with_reducible refine (PC1.out _ _ _ _ K5 ho5).mono ?_); rintro e u6 ⟨v6, rfl, K6, ho6⟩; obtain ⟨A6, c6, rfl⟩ := own_shape ho6; obtain ⟨q0, q1, q2⟩ := K6.cells)
      | (go_at_call 30; (with_reducible refine (PC2.out _ _ K6 ho6).mono ?_); rintro e u7 ⟨v7, rfl, K7, ho7⟩; obtain ⟨A7, c7, rfl⟩ := own_shape ho7; obtain ⟨q0, q1, q2⟩ := K7.cells))
  go_wp2_with (go_at_call 20; (with_reducible refine (YC.out _ _ K7 ho7).mono ?_); rintro e u8 ⟨v8, rfl, K8, ho8⟩; obtain ⟨A8, c8, rfl⟩ := own_shape ho8; obtain ⟨q0, q1, q2⟩ := K8.cells)
  generalize hLn : L.length = Ln at *
  clear q0 q1 q2
  go_loopw [61] (fun iv wr => ∃ k : Nat, k ≤ Ln ∧ iv = .int .i64 k ∧ wr.ownsRow (w.heap.size + 1) 32 3 (.slice A8 Ln c8) Ln (rrows L) ∧ Below w.heap.size w wr) (fun iv _ => Ln - (intOf iv).toNat)
  case atStart => exact ⟨0, Nat.zero_le _, rfl, ho8, K8.below⟩
  case round =>
    obtain ⟨k, hkl, rfl, ho, hW⟩ := hrel
    clear ho8
    by_cases hlt : k < Ln
    · obtain ⟨x, hkx⟩ : ∃ x, L[k]? = some x := ⟨_, List.getElem?_eq_getElem (by omega)⟩
      obtain ⟨g, c', e1, hgw, hBg, hfz⟩ := rg_addr ho (by omega)
      injection e1 with e1 _ e2
      subst e1 e2
      have KX := Lib.hid (KC.out x (List.mem_of_getElem? hkx))
      have HT := Lib.hid (rrows_text hkx)
      have cell : ∀ u : World, u.ownsRow (w.heap.size + 1) 32 3 (.slice (some ⟨g, 0, none⟩) Ln c8) Ln (rrows L) → u.cell? ⟨g, k * 3 + 2, none⟩ = some (.string x.text) := fun u hu => by
        obtain ⟨b', off', e2, _, hc⟩ := (own_rgs hu hLn).1 (by omega)
        injection e2 with e2
        injection e2 with e2 e3 _
        subst e2 e3
        have := (hc _ _ hkx).2.2
        rwa [Nat.zero_add] at this
      have c2 := cell _ ho
      have CELL := Lib.hid cell
      have hki : (k : Int) < Ln := by omega
      clear hkx hfz cell
      go_wp2_with (go_at_call 24; (with_reducible refine (KX.out _).mono ?_); rintro e ur ⟨rfl, hbr⟩; have ho2 := ho.kept (gb_below none hbr) (by simp [Value.ownBlock]); have hW2 := hW.trans (hbr.mono hW.size); have d2 := CELL.out _ ho2; have fz := (rg_frozen ho2) (k * 3 + 2))
      have ho3 := rg_setCell ho2 (k * 3 + 2) (.string x.text)
      rw [HT.out] at ho3
      have hW3 := hW2.setCell (p := ⟨g, k * 3 + 2, none⟩) (by show w.heap.size ≤ g; omega) (.string x.text)
      go_roundw
      case rel => exact ⟨k + 1, by omega, by go_num, ho3, hW3⟩
      case measure => simp [intOf]; omega
    · go_wp2
      go_ret2
      subst hLn
      obtain ⟨o1, o2⟩ := own_rgs ho rfl
      exact ⟨_, _, by rw [H.out]; rfl, by rw [H.out]; exact o1, by rw [H.out]; exact o2, hW⟩
theorem reg_keep_yank (n : Int) (t : ByteArray) (lines : Bool) {A : Option Addr} {c : Nat} {ks : List Rg} {w : World} (hx : Rgs w A ks) (hm : ks.length ≤ 1000) (ht : t.size ≤ 140737488355327) :
    Calls Try.prog 19 #[.slice A ks.length c, .int .i64 n, .agg #[.int .i64 0, .bool lines, .string t], .func (.func 20) #[] #[]] w (KeepIs (kept ks n t lines false) w) := by
  by_cases h : Right ks
  · by_cases hv : Utf.valid t.data.toList = true
    · by_cases h0 : nameN n = 0
      · exact reg_keep_yank_noname n t lines hx hm ht h hv h0
      · by_cases ha : 65 ≤ n ∧ n ≤ 90
        · cases hl : Reg.look ks (nameN n) with
          | some old =>
            by_cases hs : (joined old lines t).2.size ≤ 4096
            · exact reg_keep_yank_add n t lines hx hm ht h hv rfl h0 ha hl hs
            · exact reg_keep_yank_add_big n t lines hx hm ht h hv rfl h0 ha hl hs
          | none =>
            by_cases hs : t.size ≤ 4096
            · by_cases h34 : nameN n = 34
              · exact reg_keep_yank_not_plain n t lines hx hm ht h hv rfl h0 hl hs h34
              · exact reg_keep_yank_not n t lines hx hm ht h hv rfl h0 hl hs h34
            · exact reg_keep_yank_not_big n t lines hx hm ht h hv rfl h0 hl hs
        · cases hl : Reg.look ks (nameN n) with
          | some old =>
            by_cases hs : t.size ≤ 4096
            · by_cases h34 : nameN n = 34
              · exact reg_keep_yank_has_plain n t lines hx hm ht h hv rfl h0 ha hl hs h34
              · exact reg_keep_yank_has n t lines hx hm ht h hv rfl h0 ha hl hs h34
            · exact reg_keep_yank_has_big n t lines hx hm ht h hv rfl h0 ha hl hs
          | none =>
            by_cases hs : t.size ≤ 4096
            · by_cases h34 : nameN n = 34
              · exact reg_keep_yank_not_plain n t lines hx hm ht h hv rfl h0 hl hs h34
              · exact reg_keep_yank_not n t lines hx hm ht h hv rfl h0 hl hs h34
            · exact reg_keep_yank_not_big n t lines hx hm ht h hv rfl h0 hl hs
    · exact reg_keep_yank_invalid n t lines hx hm ht h hv
  · exact reg_keep_yank_wrong n t lines hx hm ht h
theorem reg_Yank (n : Int) (t : ByteArray) (lines : Bool) {A : Option Addr} {c : Nat} {ks : List Rg} {w : World} (hx : Rgs w A ks) (hm : ks.length ≤ 1000) (ht : t.size ≤ 140737488355327) :
    Calls Try.prog 8 #[.slice A ks.length c, .int .i64 n, .string t, .bool lines] w (KeepIs (kept ks n t lines false) w) := by
  have C := Lib.hid (reg_keep_yank (c := c) n t lines hx hm ht)
  clear hx hm ht
  go_enter Try.func8, Try.ntmps8
  go_wp2_with (go_at_call 19; (with_reducible refine C.out.mono ?_); rintro e w1 ⟨A1, c1, rfl, h1, h2, h3⟩)
  go_ret2
  exact ⟨A1, c1, rfl, h1, h2, h3⟩
set_option maxHeartbeats 4000000 in
set_option maxRecDepth 100000 in
theorem reg_keep_remove_wrong (n : Int) (t : ByteArray) (lines : Bool) {A : Option Addr} {c : Nat} {ks : List Rg} {w : World} (hx : Rgs w A ks) (hm : ks.length ≤ 1000) (ht : t.size ≤ 140737488355327) (h : ¬ Right ks) :
    Calls Try.prog 19 #[.slice A ks.length c, .int .i64 n, .agg #[.int .i64 0, .bool lines, .string t], .func (.func 22) #[] #[]] w (KeepIs (kept ks n t lines true) w) := by
  have K0 := KBox.new w lines t
  obtain ⟨q0, q1, q2⟩ := K0.cells
  have RC : Hid (∀ u b s, KBox w u b s → Calls Try.prog 15 #[.slice A ks.length c] u fun e u' => e = .returned (.bool (decide (Right ks))) ∧ KBox w u' b s) := fun u b s h => (reg_Right (hx.below h.below) (by unfold maxLen; omega)).mono fun e u' h' => ⟨h'.1, h.on h'.2⟩
  have VC := Lib.hid (fun w => utf_Valid t (by omega) w)
  have NC := Lib.hid (reg_Name n)
  rw [decide_eq_false h] at RC
  have H : Hid (kept ks n t lines true = ([], 1)) := by show _ = _; rw [kept, if_neg (fun e => h e.1)]
  clear hx hm ht h VC NC
  go_enter Try.func19, Try.ntmps19
  go_wp2_with (go_at_call 15; (with_reducible refine (RC.out _ _ _ K0).mono ?_); rintro e u1 ⟨rfl, K1⟩; obtain ⟨q0, q1, q2⟩ := K1.cells)
  go_ret2
  exact ⟨none, 0, by rw [H.out]; rfl, by rw [H.out]; exact Rgs.nil _ _, by rw [H.out]; exact Nat.zero_le _, K1.below⟩
set_option maxHeartbeats 4000000 in
set_option maxRecDepth 100000 in
theorem reg_keep_remove_invalid (n : Int) (t : ByteArray) (lines : Bool) {A : Option Addr} {c : Nat} {ks : List Rg} {w : World} (hx : Rgs w A ks) (hm : ks.length ≤ 1000) (ht : t.size ≤ 140737488355327) (h : Right ks) (hv : ¬ Utf.valid t.data.toList = true) :
    Calls Try.prog 19 #[.slice A ks.length c, .int .i64 n, .agg #[.int .i64 0, .bool lines, .string t], .func (.func 22) #[] #[]] w (KeepIs (kept ks n t lines true) w) := by
  have K0 := KBox.new w lines t
  obtain ⟨q0, q1, q2⟩ := K0.cells
  have RC : Hid (∀ u b s, KBox w u b s → Calls Try.prog 15 #[.slice A ks.length c] u fun e u' => e = .returned (.bool (decide (Right ks))) ∧ KBox w u' b s) := fun u b s h => (reg_Right (hx.below h.below) (by unfold maxLen; omega)).mono fun e u' h' => ⟨h'.1, h.on h'.2⟩
  have VC := Lib.hid (fun w => utf_Valid t (by omega) w)
  have NC := Lib.hid (reg_Name n)
  rw [decide_eq_true h] at RC
  rw [Bool.eq_false_iff.2 hv] at VC
  have H : Hid (kept ks n t lines true = ([], 1)) := by show _ = _; rw [kept, if_neg (fun e => hv e.2)]
  clear hx hm ht h hv NC
  go_enter Try.func19, Try.ntmps19
  go_wp2_with (first
    | (go_at_call 15; (with_reducible refine (RC.out _ _ _ K0).mono ?_); rintro e u1 ⟨rfl, K1⟩; obtain ⟨q0, q1, q2⟩ := K1.cells)
    | (go_at_call 27; (with_reducible refine (VC.out _).mono ?_); rintro e u9 ⟨rfl, rfl⟩))
  go_ret2
  exact ⟨none, 0, by rw [H.out]; rfl, by rw [H.out]; exact Rgs.nil _ _, by rw [H.out]; exact Nat.zero_le _, K1.below⟩
set_option maxHeartbeats 4000000 in
set_option maxRecDepth 100000 in
theorem reg_keep_remove_noname (n : Int) (t : ByteArray) (lines : Bool) {A : Option Addr} {c : Nat} {ks : List Rg} {w : World} (hx : Rgs w A ks) (hm : ks.length ≤ 1000) (ht : t.size ≤ 140737488355327) (h : Right ks) (hv : Utf.valid t.data.toList = true) (h0 : nameN n = 0) :
    Calls Try.prog 19 #[.slice A ks.length c, .int .i64 n, .agg #[.int .i64 0, .bool lines, .string t], .func (.func 22) #[] #[]] w (KeepIs (kept ks n t lines true) w) := by
  have K0 := KBox.new w lines t
  obtain ⟨q0, q1, q2⟩ := K0.cells
  have RC : Hid (∀ u b s, KBox w u b s → Calls Try.prog 15 #[.slice A ks.length c] u fun e u' => e = .returned (.bool (decide (Right ks))) ∧ KBox w u' b s) := fun u b s h => (reg_Right (hx.below h.below) (by unfold maxLen; omega)).mono fun e u' h' => ⟨h'.1, h.on h'.2⟩
  have VC := Lib.hid (fun w => utf_Valid t (by omega) w)
  have NC := Lib.hid (reg_Name n)
  rw [decide_eq_true h] at RC
  rw [hv] at VC
  rw [h0] at NC
  have H : Hid (kept ks n t lines true = ([], 11)) := by show _ = _; rw [kept, if_pos ⟨h, hv⟩, if_pos h0]
  clear hx hm ht h hv h0
  go_enter Try.func19, Try.ntmps19
  go_wp2_with (first
    | (go_at_call 15; (with_reducible refine (RC.out _ _ _ K0).mono ?_); rintro e u1 ⟨rfl, K1⟩; obtain ⟨q0, q1, q2⟩ := K1.cells)
    | (go_at_call 27; (with_reducible refine (VC.out _).mono ?_); rintro e u9 ⟨rfl, rfl⟩)
    | (go_at_call 17; (with_reducible refine (NC.out _).mono ?_); rintro e u9 ⟨rfl, rfl⟩))
  go_ret2
  exact ⟨none, 0, by rw [H.out]; rfl, by rw [H.out]; exact Rgs.nil _ _, by rw [H.out]; exact Nat.zero_le _, K1.below⟩
set_option maxHeartbeats 4000000 in
set_option maxRecDepth 100000 in
theorem reg_keep_remove_add_big (n : Int) (t : ByteArray) (lines : Bool) {A : Option Addr} {c : Nat} {ks : List Rg} {w : World} (hx : Rgs w A ks) (hm : ks.length ≤ 1000) (ht : t.size ≤ 140737488355327) {z : Int} (h : Right ks) (hv : Utf.valid t.data.toList = true) (hz : nameN n = z) (h0 : z ≠ 0) (ha : 65 ≤ n ∧ n ≤ 90) {old : Rg} (hl : Reg.look ks z = some old) (hs : ¬ (joined old lines t).2.size ≤ 4096) :
    Calls Try.prog 19 #[.slice A ks.length c, .int .i64 n, .agg #[.int .i64 0, .bool lines, .string t], .func (.func 22) #[] #[]] w (KeepIs (kept ks n t lines true) w) := by
  have K0 := KBox.new w lines t
  obtain ⟨q0, q1, q2⟩ := K0.cells
  have RC : Hid (∀ u b s, KBox w u b s → Calls Try.prog 15 #[.slice A ks.length c] u fun e u' => e = .returned (.bool (decide (Right ks))) ∧ KBox w u' b s) := fun u b s h => (reg_Right (hx.below h.below) (by unfold maxLen; omega)).mono fun e u' h' => ⟨h'.1, h.on h'.2⟩
  have VC := Lib.hid (fun w => utf_Valid t (by omega) w)
  have NC := Lib.hid (reg_Name n)
  rw [decide_eq_true h] at RC
  rw [hv] at VC
  rw [hz] at NC
  have AD : added ks n t lines = ((joined old lines t).1, (joined old lines t).2) := by rw [added, if_pos ha, hz, hl]
  have H : Hid (kept ks n t lines true = ([], 8)) := big_of h hv hz h0 AD hs
  have hzz : nameN z = z := nameN_name (hz ▸ nameN_is (by rw [hz]; exact h0))
  have hg : get ks z = (old, true) := get_some h (by rw [hzz]; exact hl)
  have ho4 := (h.2 old (look_mem hl)).1
  have GC : Hid (∀ u b s, KBox w u b s → Calls Try.prog 13 #[.slice A ks.length c, .int .i64 z] u fun e u' => e = .returned (.tuple #[(.agg #[.int .i64 old.name, .bool old.lines, .string old.text]), .bool true]) ∧ KBox w u' b s) := fun u b s hu => (reg_Get z (hx.below hu.below) (by unfold maxLen; omega)).mono fun e u' h' => ⟨by have := h'.1; rw [hg] at this; exact this, hu.on h'.2⟩
  have g0 : (z == 0) = false := by simpa using h0
  have AC := Lib.hid (reg_adds n)
  rw [show decide (65 ≤ n ∧ n ≤ 90) = true from decide_eq_true ha] at AC
  have DC : Hid (∀ u b s, KBox w u b s → Calls Try.prog 29 #[.agg #[.int .i64 old.name, .bool old.lines, .string old.text], .agg #[.int .i64 0, .bool lines, .string t]] u fun e u' => e = .returned (.agg #[.int .i64 0, .bool (joined old lines t).1, .string (joined old lines t).2]) ∧ KBox w u' b s) := fun u b s hu => (reg_add old ⟨0, lines, t⟩ u ho4 ht).mono fun e u' h' => ⟨h'.1, hu.on h'.2⟩
  generalize hjb : (joined old lines t).1 = jb at *
  generalize hjs : (joined old lines t).2 = js at *
  have g1 : decide ((4096 : Int) < (js.size : Int)) = true := decide_eq_true (by omega)
  clear hx hm ht h hv hz h0 AD hzz hg hs hl ha ho4 hjb hjs
  go_enter Try.func19, Try.ntmps19
  go_wp2_with (first
    | (go_at_call 15; (with_reducible refine (RC.out _ _ _ K0).mono ?_); rintro e u1 ⟨rfl, K1⟩; obtain ⟨q0, q1, q2⟩ := K1.cells)
    | (go_at_call 27; (with_reducible refine (VC.out _).mono ?_); rintro e u9 ⟨rfl, rfl⟩)
    | (go_at_call 17; (with_reducible refine (NC.out _).mono ?_); rintro e u9 ⟨rfl, rfl⟩)
    | (go_at_call 13; (with_reducible refine (GC.out _ _ _ K1).mono ?_); rintro e u2 ⟨rfl, K2⟩; replace K2 := K2.alloc (.cells #[.int .i64 old.name, .bool old.lines, .string old.text] 32); obtain ⟨q0, q1, q2⟩ := K2.cells)
    | (go_at_call 28; (with_reducible refine (AC.out _).mono ?_); rintro e u9 ⟨rfl, rfl⟩)
    | (go_at_call 29; (with_reducible refine (DC.out _ _ _ K2).mono ?_); rintro e u3 ⟨rfl, K3⟩; obtain ⟨q0, q1, q2⟩ := K3.cells; have f0 := K3.blk.frozen 0; have f1 := K3.blk.frozen 1; have f2 := K3.blk.frozen 2))
  go_ret2
  exact ⟨none, 0, by rw [H.out]; rfl, by rw [H.out]; exact Rgs.nil _ _, by rw [H.out]; exact Nat.zero_le _, K3.three.below⟩
set_option maxHeartbeats 4000000 in
set_option maxRecDepth 100000 in
theorem reg_keep_remove_add (n : Int) (t : ByteArray) (lines : Bool) {A : Option Addr} {c : Nat} {ks : List Rg} {w : World} (hx : Rgs w A ks) (hm : ks.length ≤ 1000) (ht : t.size ≤ 140737488355327) {z : Int} (h : Right ks) (hv : Utf.valid t.data.toList = true) (hz : nameN n = z) (h0 : z ≠ 0) (ha : 65 ≤ n ∧ n ≤ 90) {old : Rg} (hl : Reg.look ks z = some old) (hs : (joined old lines t).2.size ≤ 4096) :
    Calls Try.prog 19 #[.slice A ks.length c, .int .i64 n, .agg #[.int .i64 0, .bool lines, .string t], .func (.func 22) #[] #[]] w (KeepIs (kept ks n t lines true) w) := by
  have K0 := KBox.new w lines t
  obtain ⟨q0, q1, q2⟩ := K0.cells
  have RC : Hid (∀ u b s, KBox w u b s → Calls Try.prog 15 #[.slice A ks.length c] u fun e u' => e = .returned (.bool (decide (Right ks))) ∧ KBox w u' b s) := fun u b s h => (reg_Right (hx.below h.below) (by unfold maxLen; omega)).mono fun e u' h' => ⟨h'.1, h.on h'.2⟩
  have VC := Lib.hid (fun w => utf_Valid t (by omega) w)
  have NC := Lib.hid (reg_Name n)
  rw [decide_eq_true h] at RC
  rw [hv] at VC
  rw [hz] at NC
  have AD : added ks n t lines = ((joined old lines t).1, (joined old lines t).2) := by rw [added, if_pos ha, hz, hl]
  obtain ⟨HK, n1, n2, hfit⟩ := fit_of (taken := true) h hv hz h0 AD hs
  have hzz : nameN z = z := nameN_name (hz ▸ nameN_is (by rw [hz]; exact h0))
  have hg : get ks z = (old, true) := get_some h (by rw [hzz]; exact hl)
  have ho4 := (h.2 old (look_mem hl)).1
  have GC : Hid (∀ u b s, KBox w u b s → Calls Try.prog 13 #[.slice A ks.length c, .int .i64 z] u fun e u' => e = .returned (.tuple #[(.agg #[.int .i64 old.name, .bool old.lines, .string old.text]), .bool true]) ∧ KBox w u' b s) := fun u b s hu => (reg_Get z (hx.below hu.below) (by unfold maxLen; omega)).mono fun e u' h' => ⟨by have := h'.1; rw [hg] at this; exact this, hu.on h'.2⟩
  have g0 : (z == 0) = false := by simpa using h0
  have AC := Lib.hid (reg_adds n)
  rw [show decide (65 ≤ n ∧ n ≤ 90) = true from decide_eq_true ha] at AC
  have DC : Hid (∀ u b s, KBox w u b s → Calls Try.prog 29 #[.agg #[.int .i64 old.name, .bool old.lines, .string old.text], .agg #[.int .i64 0, .bool lines, .string t]] u fun e u' => e = .returned (.agg #[.int .i64 0, .bool (joined old lines t).1, .string (joined old lines t).2]) ∧ KBox w u' b s) := fun u b s hu => (reg_add old ⟨0, lines, t⟩ u ho4 ht).mono fun e u' h' => ⟨h'.1, hu.on h'.2⟩
  generalize hjb : (joined old lines t).1 = jb at *
  generalize hjs : (joined old lines t).2 = js at *
  have g1 : decide ((4096 : Int) < (js.size : Int)) = false := decide_eq_false (by omega)
  have h34 : ¬ z = 34 := by rw [← hz, nameN_add ha]; omega
  have g2 : (z == 34) = false := by simpa using h34
  rw [if_neg h34] at HK
  have H := Lib.hid HK
  have CC : Hid (∀ u b s, KBox w u b s → Calls Try.prog 31 #[.slice A ks.length c] u (KeptAt w b s ks)) := fun u b s hu => keep_clone hu hx hm
  have PC1 : Hid (∀ u b s v, KBox w u b s → u.ownsRow (w.heap.size + 1) 32 3 v ks.length (rrows ks) → Calls Try.prog 30 #[v, .int .i64 z, .agg #[.int .i64 0, .bool b, .string s]] u (KeptAt w b s (put ks ⟨z, b, s⟩))) := fun u b s v hu ho => keep_put z hu ho h.1
  have PC2 : Hid (∀ u v, KBox w u jb js → u.ownsRow (w.heap.size + 1) 32 3 v (put ks ⟨z, jb, js⟩).length (rrows (put ks ⟨z, jb, js⟩)) → Calls Try.prog 30 #[v, .int .i64 34, .agg #[.int .i64 0, .bool jb, .string js]] u (KeptAt w jb js (put (put ks ⟨z, jb, js⟩) ⟨34, jb, js⟩))) := fun u v hu ho => keep_put 34 hu ho n1
  have hlf : ∀ x ∈ (put (put ks ⟨z, jb, js⟩) ⟨34, jb, js⟩), Fit x := put_fit (put_fit h.2 hfit) hfit
  have hll : (put (put ks ⟨z, jb, js⟩) ⟨34, jb, js⟩).length ≤ 89 := Nam.length_le n2
  generalize hL : (put (put ks ⟨z, jb, js⟩) ⟨34, jb, js⟩) = L at *
  have KC : Hid (∀ x ∈ L, ∀ u, Calls Try.prog 24 #[.string x.text] u fun e u' => e = .returned (.string x.text) ∧ Below u.heap.size u u') := fun x hx u => str_clone x.text u (by have := (hlf x hx).1; omega)
  clear hx hm ht h hv hz h0 AD hzz hg hs hl hfit HK hlf n1 n2 h34 ha ho4 hjb hjs
  go_enter Try.func19, Try.ntmps19
  go_wp2_with (first
    | (go_at_call 15; (with_reducible refine (RC.out _ _ _ K0).mono ?_); rintro e u1 ⟨rfl, K1⟩; obtain ⟨q0, q1, q2⟩ := K1.cells)
    | (go_at_call 27; (with_reducible refine (VC.out _).mono ?_); rintro e u9 ⟨rfl, rfl⟩)
    | (go_at_call 17; (with_reducible refine (NC.out _).mono ?_); rintro e u9 ⟨rfl, rfl⟩)
    | (go_at_call 13; (with_reducible refine (GC.out _ _ _ K1).mono ?_); rintro e u2 ⟨rfl, K2⟩; replace K2 := K2.alloc (.cells #[.int .i64 old.name, .bool old.lines, .string old.text] 32); obtain ⟨q0, q1, q2⟩ := K2.cells)
    | (go_at_call 28; (with_reducible refine (AC.out _).mono ?_); rintro e u9 ⟨rfl, rfl⟩)
    | (go_at_call 29; (with_reducible refine (DC.out _ _ _ K2).mono ?_); rintro e u3 ⟨rfl, K3⟩; obtain ⟨q0, q1, q2⟩ := K3.cells; have f0 := K3.blk.frozen 0; have f1 := K3.blk.frozen 1; have f2 := K3.blk.frozen 2))
  have K4 := K3.three (b' := jb) (s' := js)
  generalize (((u3.setCell ⟨w.heap.size, 0, none⟩ (.int .i64 0)).setCell ⟨w.heap.size, 1, none⟩ (.bool jb)).setCell ⟨w.heap.size, 2, none⟩ (.string js)) = U at *
  clear q0 q1 q2
  obtain ⟨q0, q1, q2⟩ := K4.cells
  go_region_held3 (fun u => u.cell? ⟨w.heap.size, 0, none⟩ = some (.int .i64 0) ∧ u.cell? ⟨w.heap.size, 1, none⟩ = some (.bool jb) ∧ u.cell? ⟨w.heap.size, 2, none⟩ = some (.string js)) (first | (with_reducible exact ⟨by assumption, by assumption, by assumption⟩) | go_keep)
    (first
      | (go_at_call 31; (first | (with_reducible refine (CC.out _ _ _ K4).mono ?_) | (with_reducible refine (CC.out _ _ _ K4.drew).mono ?_)); rintro e u5 ⟨v5, rfl, K5, ho5⟩; obtain ⟨A5, c5, rfl⟩ := own_shape ho5; obtain ⟨q0, q1, q2⟩ := K5.cells)
      | (go_at_call 30; (with_reducible refine (PC1.out _ _ _ _ K5 ho5).mono ?_); rintro e u6 ⟨v6, rfl, K6, ho6⟩; obtain ⟨A6, c6, rfl⟩ := own_shape ho6; obtain ⟨q0, q1, q2⟩ := K6.cells)
      | (go_at_call 30; (with_reducible refine (PC2.out _ _ K6 ho6).mono ?_); rintro e u7 ⟨v7, rfl, K7, ho7⟩; obtain ⟨A7, c7, rfl⟩ := own_shape ho7; obtain ⟨q0, q1, q2⟩ := K7.cells))
  go_wp2
  generalize hLn : L.length = Ln at *
  clear q0 q1 q2
  go_loopw [61] (fun iv wr => ∃ k : Nat, k ≤ Ln ∧ iv = .int .i64 k ∧ wr.ownsRow (w.heap.size + 1) 32 3 (.slice A7 Ln c7) Ln (rrows L) ∧ Below w.heap.size w wr) (fun iv _ => Ln - (intOf iv).toNat)
  case atStart => exact ⟨0, Nat.zero_le _, rfl, ho7, K7.below⟩
  case round =>
    obtain ⟨k, hkl, rfl, ho, hW⟩ := hrel
    clear ho7
    by_cases hlt : k < Ln
    · obtain ⟨x, hkx⟩ : ∃ x, L[k]? = some x := ⟨_, List.getElem?_eq_getElem (by omega)⟩
      obtain ⟨g, c', e1, hgw, hBg, hfz⟩ := rg_addr ho (by omega)
      injection e1 with e1 _ e2
      subst e1 e2
      have KX := Lib.hid (KC.out x (List.mem_of_getElem? hkx))
      have HT := Lib.hid (rrows_text hkx)
      have cell : ∀ u : World, u.ownsRow (w.heap.size + 1) 32 3 (.slice (some ⟨g, 0, none⟩) Ln c7) Ln (rrows L) → u.cell? ⟨g, k * 3 + 2, none⟩ = some (.string x.text) := fun u hu => by
        obtain ⟨b', off', e2, _, hc⟩ := (own_rgs hu hLn).1 (by omega)
        injection e2 with e2
        injection e2 with e2 e3 _
        subst e2 e3
        have := (hc _ _ hkx).2.2
        rwa [Nat.zero_add] at this
      have c2 := cell _ ho
      have CELL := Lib.hid cell
      have hki : (k : Int) < Ln := by omega
      clear hkx hfz cell
      go_wp2_with (go_at_call 24; (with_reducible refine (KX.out _).mono ?_); rintro e ur ⟨rfl, hbr⟩; have ho2 := ho.kept (gb_below none hbr) (by simp [Value.ownBlock]); have hW2 := hW.trans (hbr.mono hW.size); have d2 := CELL.out _ ho2; have fz := (rg_frozen ho2) (k * 3 + 2))
      have ho3 := rg_setCell ho2 (k * 3 + 2) (.string x.text)
      rw [HT.out] at ho3
      have hW3 := hW2.setCell (p := ⟨g, k * 3 + 2, none⟩) (by show w.heap.size ≤ g; omega) (.string x.text)
      go_roundw
      case rel => exact ⟨k + 1, by omega, by go_num, ho3, hW3⟩
      case measure => simp [intOf]; omega
    · go_wp2
      go_ret2
      subst hLn
      obtain ⟨o1, o2⟩ := own_rgs ho rfl
      exact ⟨_, _, by rw [H.out]; rfl, by rw [H.out]; exact o1, by rw [H.out]; exact o2, hW⟩
set_option maxHeartbeats 4000000 in
set_option maxRecDepth 100000 in
theorem reg_keep_remove_has_big (n : Int) (t : ByteArray) (lines : Bool) {A : Option Addr} {c : Nat} {ks : List Rg} {w : World} (hx : Rgs w A ks) (hm : ks.length ≤ 1000) (ht : t.size ≤ 140737488355327) {z : Int} (h : Right ks) (hv : Utf.valid t.data.toList = true) (hz : nameN n = z) (h0 : z ≠ 0) (ha : ¬ (65 ≤ n ∧ n ≤ 90)) {old : Rg} (hl : Reg.look ks z = some old) (hs : ¬ t.size ≤ 4096) :
    Calls Try.prog 19 #[.slice A ks.length c, .int .i64 n, .agg #[.int .i64 0, .bool lines, .string t], .func (.func 22) #[] #[]] w (KeepIs (kept ks n t lines true) w) := by
  have K0 := KBox.new w lines t
  obtain ⟨q0, q1, q2⟩ := K0.cells
  have RC : Hid (∀ u b s, KBox w u b s → Calls Try.prog 15 #[.slice A ks.length c] u fun e u' => e = .returned (.bool (decide (Right ks))) ∧ KBox w u' b s) := fun u b s h => (reg_Right (hx.below h.below) (by unfold maxLen; omega)).mono fun e u' h' => ⟨h'.1, h.on h'.2⟩
  have VC := Lib.hid (fun w => utf_Valid t (by omega) w)
  have NC := Lib.hid (reg_Name n)
  rw [decide_eq_true h] at RC
  rw [hv] at VC
  rw [hz] at NC
  have AD : added ks n t lines = (lines, t) := by rw [added, if_neg ha]
  have H : Hid (kept ks n t lines true = ([], 8)) := big_of h hv hz h0 AD hs
  have hzz : nameN z = z := nameN_name (hz ▸ nameN_is (by rw [hz]; exact h0))
  have hg : get ks z = (old, true) := get_some h (by rw [hzz]; exact hl)
  have ho4 := (h.2 old (look_mem hl)).1
  have GC : Hid (∀ u b s, KBox w u b s → Calls Try.prog 13 #[.slice A ks.length c, .int .i64 z] u fun e u' => e = .returned (.tuple #[(.agg #[.int .i64 old.name, .bool old.lines, .string old.text]), .bool true]) ∧ KBox w u' b s) := fun u b s hu => (reg_Get z (hx.below hu.below) (by unfold maxLen; omega)).mono fun e u' h' => ⟨by have := h'.1; rw [hg] at this; exact this, hu.on h'.2⟩
  have g0 : (z == 0) = false := by simpa using h0
  have AC := Lib.hid (reg_adds n)
  rw [show decide (65 ≤ n ∧ n ≤ 90) = false from decide_eq_false ha] at AC
  have g1 : decide ((4096 : Int) < (t.size : Int)) = true := decide_eq_true (by omega)
  clear hx hm ht h hv hz h0 AD hzz hg hs hl ha ho4
  go_enter Try.func19, Try.ntmps19
  go_wp2_with (first
    | (go_at_call 15; (with_reducible refine (RC.out _ _ _ K0).mono ?_); rintro e u1 ⟨rfl, K1⟩; obtain ⟨q0, q1, q2⟩ := K1.cells)
    | (go_at_call 27; (with_reducible refine (VC.out _).mono ?_); rintro e u9 ⟨rfl, rfl⟩)
    | (go_at_call 17; (with_reducible refine (NC.out _).mono ?_); rintro e u9 ⟨rfl, rfl⟩)
    | (go_at_call 13; (with_reducible refine (GC.out _ _ _ K1).mono ?_); rintro e u2 ⟨rfl, K2⟩; replace K2 := K2.alloc (.cells #[.int .i64 old.name, .bool old.lines, .string old.text] 32); obtain ⟨q0, q1, q2⟩ := K2.cells)
    | (go_at_call 28; (with_reducible refine (AC.out _).mono ?_); rintro e u9 ⟨rfl, rfl⟩))
  go_ret2
  exact ⟨none, 0, by rw [H.out]; rfl, by rw [H.out]; exact Rgs.nil _ _, by rw [H.out]; exact Nat.zero_le _, K2.below⟩
set_option maxHeartbeats 4000000 in
set_option maxRecDepth 100000 in
theorem reg_keep_remove_has (n : Int) (t : ByteArray) (lines : Bool) {A : Option Addr} {c : Nat} {ks : List Rg} {w : World} (hx : Rgs w A ks) (hm : ks.length ≤ 1000) (ht : t.size ≤ 140737488355327) {z : Int} (h : Right ks) (hv : Utf.valid t.data.toList = true) (hz : nameN n = z) (h0 : z ≠ 0) (ha : ¬ (65 ≤ n ∧ n ≤ 90)) {old : Rg} (hl : Reg.look ks z = some old) (hs : t.size ≤ 4096) (h34 : ¬ z = 34) :
    Calls Try.prog 19 #[.slice A ks.length c, .int .i64 n, .agg #[.int .i64 0, .bool lines, .string t], .func (.func 22) #[] #[]] w (KeepIs (kept ks n t lines true) w) := by
  have K0 := KBox.new w lines t
  obtain ⟨q0, q1, q2⟩ := K0.cells
  have RC : Hid (∀ u b s, KBox w u b s → Calls Try.prog 15 #[.slice A ks.length c] u fun e u' => e = .returned (.bool (decide (Right ks))) ∧ KBox w u' b s) := fun u b s h => (reg_Right (hx.below h.below) (by unfold maxLen; omega)).mono fun e u' h' => ⟨h'.1, h.on h'.2⟩
  have VC := Lib.hid (fun w => utf_Valid t (by omega) w)
  have NC := Lib.hid (reg_Name n)
  rw [decide_eq_true h] at RC
  rw [hv] at VC
  rw [hz] at NC
  have AD : added ks n t lines = (lines, t) := by rw [added, if_neg ha]
  obtain ⟨HK, n1, n2, hfit⟩ := fit_of (taken := true) h hv hz h0 AD hs
  have hzz : nameN z = z := nameN_name (hz ▸ nameN_is (by rw [hz]; exact h0))
  have hg : get ks z = (old, true) := get_some h (by rw [hzz]; exact hl)
  have ho4 := (h.2 old (look_mem hl)).1
  have GC : Hid (∀ u b s, KBox w u b s → Calls Try.prog 13 #[.slice A ks.length c, .int .i64 z] u fun e u' => e = .returned (.tuple #[(.agg #[.int .i64 old.name, .bool old.lines, .string old.text]), .bool true]) ∧ KBox w u' b s) := fun u b s hu => (reg_Get z (hx.below hu.below) (by unfold maxLen; omega)).mono fun e u' h' => ⟨by have := h'.1; rw [hg] at this; exact this, hu.on h'.2⟩
  have g0 : (z == 0) = false := by simpa using h0
  have AC := Lib.hid (reg_adds n)
  rw [show decide (65 ≤ n ∧ n ≤ 90) = false from decide_eq_false ha] at AC
  have g1 : decide ((4096 : Int) < (t.size : Int)) = false := decide_eq_false (by omega)
  have g2 : (z == 34) = false := by simpa using h34
  rw [if_neg h34] at HK
  have H := Lib.hid HK
  have CC : Hid (∀ u b s, KBox w u b s → Calls Try.prog 31 #[.slice A ks.length c] u (KeptAt w b s ks)) := fun u b s hu => keep_clone hu hx hm
  have PC1 : Hid (∀ u b s v, KBox w u b s → u.ownsRow (w.heap.size + 1) 32 3 v ks.length (rrows ks) → Calls Try.prog 30 #[v, .int .i64 z, .agg #[.int .i64 0, .bool b, .string s]] u (KeptAt w b s (put ks ⟨z, b, s⟩))) := fun u b s v hu ho => keep_put z hu ho h.1
  have PC2 : Hid (∀ u v, KBox w u lines t → u.ownsRow (w.heap.size + 1) 32 3 v (put ks ⟨z, lines, t⟩).length (rrows (put ks ⟨z, lines, t⟩)) → Calls Try.prog 30 #[v, .int .i64 34, .agg #[.int .i64 0, .bool lines, .string t]] u (KeptAt w lines t (put (put ks ⟨z, lines, t⟩) ⟨34, lines, t⟩))) := fun u v hu ho => keep_put 34 hu ho n1
  have hlf : ∀ x ∈ (put (put ks ⟨z, lines, t⟩) ⟨34, lines, t⟩), Fit x := put_fit (put_fit h.2 hfit) hfit
  have hll : (put (put ks ⟨z, lines, t⟩) ⟨34, lines, t⟩).length ≤ 89 := Nam.length_le n2
  generalize hL : (put (put ks ⟨z, lines, t⟩) ⟨34, lines, t⟩) = L at *
  have KC : Hid (∀ x ∈ L, ∀ u, Calls Try.prog 24 #[.string x.text] u fun e u' => e = .returned (.string x.text) ∧ Below u.heap.size u u') := fun x hx u => str_clone x.text u (by have := (hlf x hx).1; omega)
  clear hx hm ht h hv hz h0 AD hzz hg hs hl hfit HK hlf n1 n2 h34 ha ho4
  go_enter Try.func19, Try.ntmps19
  go_wp2_with (first
    | (go_at_call 15; (with_reducible refine (RC.out _ _ _ K0).mono ?_); rintro e u1 ⟨rfl, K1⟩; obtain ⟨q0, q1, q2⟩ := K1.cells)
    | (go_at_call 27; (with_reducible refine (VC.out _).mono ?_); rintro e u9 ⟨rfl, rfl⟩)
    | (go_at_call 17; (with_reducible refine (NC.out _).mono ?_); rintro e u9 ⟨rfl, rfl⟩)
    | (go_at_call 13; (with_reducible refine (GC.out _ _ _ K1).mono ?_); rintro e u2 ⟨rfl, K2⟩; replace K2 := K2.alloc (.cells #[.int .i64 old.name, .bool old.lines, .string old.text] 32); obtain ⟨q0, q1, q2⟩ := K2.cells)
    | (go_at_call 28; (with_reducible refine (AC.out _).mono ?_); rintro e u9 ⟨rfl, rfl⟩))
  have K4 := K2
  generalize (u2.alloc (.cells #[.int .i64 old.name, .bool old.lines, .string old.text] 32)) = U at *
  clear q0 q1 q2
  obtain ⟨q0, q1, q2⟩ := K4.cells
  go_region_held3 (fun u => u.cell? ⟨w.heap.size, 0, none⟩ = some (.int .i64 0) ∧ u.cell? ⟨w.heap.size, 1, none⟩ = some (.bool lines) ∧ u.cell? ⟨w.heap.size, 2, none⟩ = some (.string t)) (first | (with_reducible exact ⟨by assumption, by assumption, by assumption⟩) | go_keep)
    (first
      | (go_at_call 31; (first | (with_reducible refine (CC.out _ _ _ K4).mono ?_) | (with_reducible refine (CC.out _ _ _ K4.drew).mono ?_)); rintro e u5 ⟨v5, rfl, K5, ho5⟩; obtain ⟨A5, c5, rfl⟩ := own_shape ho5; obtain ⟨q0, q1, q2⟩ := K5.cells)
      | (go_at_call 30; (with_reducible refine (PC1.out _ _ _ _ K5 ho5).mono ?_); rintro e u6 ⟨v6, rfl, K6, ho6⟩; obtain ⟨A6, c6, rfl⟩ := own_shape ho6; obtain ⟨q0, q1, q2⟩ := K6.cells)
      | (go_at_call 30; (with_reducible refine (PC2.out _ _ K6 ho6).mono ?_); rintro e u7 ⟨v7, rfl, K7, ho7⟩; obtain ⟨A7, c7, rfl⟩ := own_shape ho7; obtain ⟨q0, q1, q2⟩ := K7.cells))
  go_wp2
  generalize hLn : L.length = Ln at *
  clear q0 q1 q2
  go_loopw [61] (fun iv wr => ∃ k : Nat, k ≤ Ln ∧ iv = .int .i64 k ∧ wr.ownsRow (w.heap.size + 1) 32 3 (.slice A7 Ln c7) Ln (rrows L) ∧ Below w.heap.size w wr) (fun iv _ => Ln - (intOf iv).toNat)
  case atStart => exact ⟨0, Nat.zero_le _, rfl, ho7, K7.below⟩
  case round =>
    obtain ⟨k, hkl, rfl, ho, hW⟩ := hrel
    clear ho7
    by_cases hlt : k < Ln
    · obtain ⟨x, hkx⟩ : ∃ x, L[k]? = some x := ⟨_, List.getElem?_eq_getElem (by omega)⟩
      obtain ⟨g, c', e1, hgw, hBg, hfz⟩ := rg_addr ho (by omega)
      injection e1 with e1 _ e2
      subst e1 e2
      have KX := Lib.hid (KC.out x (List.mem_of_getElem? hkx))
      have HT := Lib.hid (rrows_text hkx)
      have cell : ∀ u : World, u.ownsRow (w.heap.size + 1) 32 3 (.slice (some ⟨g, 0, none⟩) Ln c7) Ln (rrows L) → u.cell? ⟨g, k * 3 + 2, none⟩ = some (.string x.text) := fun u hu => by
        obtain ⟨b', off', e2, _, hc⟩ := (own_rgs hu hLn).1 (by omega)
        injection e2 with e2
        injection e2 with e2 e3 _
        subst e2 e3
        have := (hc _ _ hkx).2.2
        rwa [Nat.zero_add] at this
      have c2 := cell _ ho
      have CELL := Lib.hid cell
      have hki : (k : Int) < Ln := by omega
      clear hkx hfz cell
      go_wp2_with (go_at_call 24; (with_reducible refine (KX.out _).mono ?_); rintro e ur ⟨rfl, hbr⟩; have ho2 := ho.kept (gb_below none hbr) (by simp [Value.ownBlock]); have hW2 := hW.trans (hbr.mono hW.size); have d2 := CELL.out _ ho2; have fz := (rg_frozen ho2) (k * 3 + 2))
      have ho3 := rg_setCell ho2 (k * 3 + 2) (.string x.text)
      rw [HT.out] at ho3
      have hW3 := hW2.setCell (p := ⟨g, k * 3 + 2, none⟩) (by show w.heap.size ≤ g; omega) (.string x.text)
      go_roundw
      case rel => exact ⟨k + 1, by omega, by go_num, ho3, hW3⟩
      case measure => simp [intOf]; omega
    · go_wp2
      go_ret2
      subst hLn
      obtain ⟨o1, o2⟩ := own_rgs ho rfl
      exact ⟨_, _, by rw [H.out]; rfl, by rw [H.out]; exact o1, by rw [H.out]; exact o2, hW⟩
set_option maxHeartbeats 4000000 in
set_option maxRecDepth 100000 in
theorem reg_keep_remove_has_plain (n : Int) (t : ByteArray) (lines : Bool) {A : Option Addr} {c : Nat} {ks : List Rg} {w : World} (hx : Rgs w A ks) (hm : ks.length ≤ 1000) (ht : t.size ≤ 140737488355327) {z : Int} (h : Right ks) (hv : Utf.valid t.data.toList = true) (hz : nameN n = z) (h0 : z ≠ 0) (ha : ¬ (65 ≤ n ∧ n ≤ 90)) {old : Rg} (hl : Reg.look ks z = some old) (hs : t.size ≤ 4096) (h34 : z = 34) :
    Calls Try.prog 19 #[.slice A ks.length c, .int .i64 n, .agg #[.int .i64 0, .bool lines, .string t], .func (.func 22) #[] #[]] w (KeepIs (kept ks n t lines true) w) := by
  have K0 := KBox.new w lines t
  obtain ⟨q0, q1, q2⟩ := K0.cells
  have RC : Hid (∀ u b s, KBox w u b s → Calls Try.prog 15 #[.slice A ks.length c] u fun e u' => e = .returned (.bool (decide (Right ks))) ∧ KBox w u' b s) := fun u b s h => (reg_Right (hx.below h.below) (by unfold maxLen; omega)).mono fun e u' h' => ⟨h'.1, h.on h'.2⟩
  have VC := Lib.hid (fun w => utf_Valid t (by omega) w)
  have NC := Lib.hid (reg_Name n)
  rw [decide_eq_true h] at RC
  rw [hv] at VC
  rw [hz] at NC
  have AD : added ks n t lines = (lines, t) := by rw [added, if_neg ha]
  obtain ⟨HK, n1, n2, hfit⟩ := fit_of (taken := true) h hv hz h0 AD hs
  have hzz : nameN z = z := nameN_name (hz ▸ nameN_is (by rw [hz]; exact h0))
  have hg : get ks z = (old, true) := get_some h (by rw [hzz]; exact hl)
  have ho4 := (h.2 old (look_mem hl)).1
  have GC : Hid (∀ u b s, KBox w u b s → Calls Try.prog 13 #[.slice A ks.length c, .int .i64 z] u fun e u' => e = .returned (.tuple #[(.agg #[.int .i64 old.name, .bool old.lines, .string old.text]), .bool true]) ∧ KBox w u' b s) := fun u b s hu => (reg_Get z (hx.below hu.below) (by unfold maxLen; omega)).mono fun e u' h' => ⟨by have := h'.1; rw [hg] at this; exact this, hu.on h'.2⟩
  have g0 : (z == 0) = false := by simpa using h0
  have AC := Lib.hid (reg_adds n)
  rw [show decide (65 ≤ n ∧ n ≤ 90) = false from decide_eq_false ha] at AC
  have g1 : decide ((4096 : Int) < (t.size : Int)) = false := decide_eq_false (by omega)
  have g2 : (z == 34) = true := by subst h34; rfl
  rw [if_pos h34] at HK
  have H := Lib.hid HK
  have CC : Hid (∀ u b s, KBox w u b s → Calls Try.prog 31 #[.slice A ks.length c] u (KeptAt w b s ks)) := fun u b s hu => keep_clone hu hx hm
  have PC1 : Hid (∀ u b s v, KBox w u b s → u.ownsRow (w.heap.size + 1) 32 3 v ks.length (rrows ks) → Calls Try.prog 30 #[v, .int .i64 z, .agg #[.int .i64 0, .bool b, .string s]] u (KeptAt w b s (put ks ⟨z, b, s⟩))) := fun u b s v hu ho => keep_put z hu ho h.1
  have PC2 : Hid (∀ u v, KBox w u lines t → u.ownsRow (w.heap.size + 1) 32 3 v (put ks ⟨z, lines, t⟩).length (rrows (put ks ⟨z, lines, t⟩)) → Calls Try.prog 30 #[v, .int .i64 34, .agg #[.int .i64 0, .bool lines, .string t]] u (KeptAt w lines t (put (put ks ⟨z, lines, t⟩) ⟨34, lines, t⟩))) := fun u v hu ho => keep_put 34 hu ho n1
  have hlf : ∀ x ∈ (also (put (put ks ⟨z, lines, t⟩) ⟨34, lines, t⟩) lines t true), Fit x := (also_right ⟨n2, put_fit (put_fit h.2 hfit) hfit⟩ (hfit) true).2
  have hll : (also (put (put ks ⟨z, lines, t⟩) ⟨34, lines, t⟩) lines t true).length ≤ 89 := Nam.length_le (also_nam n2 _ _ _)
  have YC : Hid (∀ u v, KBox w u lines t → u.ownsRow (w.heap.size + 1) 32 3 v (put (put ks ⟨z, lines, t⟩) ⟨34, lines, t⟩).length (rrows (put (put ks ⟨z, lines, t⟩) ⟨34, lines, t⟩)) → Calls Try.prog 22 #[v, .agg #[.int .i64 0, .bool lines, .string t]] u (KeptAt w lines t (also (put (put ks ⟨z, lines, t⟩) ⟨34, lines, t⟩) lines t true))) := fun u v hu ho => keep_remove hu ho n2
  generalize hL : (also (put (put ks ⟨z, lines, t⟩) ⟨34, lines, t⟩) lines t true) = L at *
  have KC : Hid (∀ x ∈ L, ∀ u, Calls Try.prog 24 #[.string x.text] u fun e u' => e = .returned (.string x.text) ∧ Below u.heap.size u u') := fun x hx u => str_clone x.text u (by have := (hlf x hx).1; omega)
  clear hx hm ht h hv hz h0 AD hzz hg hs hl hfit HK hlf n1 n2 h34 ha ho4
  go_enter Try.func19, Try.ntmps19
  go_wp2_with (first
    | (go_at_call 15; (with_reducible refine (RC.out _ _ _ K0).mono ?_); rintro e u1 ⟨rfl, K1⟩; obtain ⟨q0, q1, q2⟩ := K1.cells)
    | (go_at_call 27; (with_reducible refine (VC.out _).mono ?_); rintro e u9 ⟨rfl, rfl⟩)
    | (go_at_call 17; (with_reducible refine (NC.out _).mono ?_); rintro e u9 ⟨rfl, rfl⟩)
    | (go_at_call 13; (with_reducible refine (GC.out _ _ _ K1).mono ?_); rintro e u2 ⟨rfl, K2⟩; replace K2 := K2.alloc (.cells #[.int .i64 old.name, .bool old.lines, .string old.text] 32); obtain ⟨q0, q1, q2⟩ := K2.cells)
    | (go_at_call 28; (with_reducible refine (AC.out _).mono ?_); rintro e u9 ⟨rfl, rfl⟩))
  have K4 := K2
  generalize (u2.alloc (.cells #[.int .i64 old.name, .bool old.lines, .string old.text] 32)) = U at *
  clear q0 q1 q2
  obtain ⟨q0, q1, q2⟩ := K4.cells
  go_region_held3 (fun u => u.cell? ⟨w.heap.size, 0, none⟩ = some (.int .i64 0) ∧ u.cell? ⟨w.heap.size, 1, none⟩ = some (.bool lines) ∧ u.cell? ⟨w.heap.size, 2, none⟩ = some (.string t)) (first | (with_reducible exact ⟨by assumption, by assumption, by assumption⟩) | go_keep)
    (first
      | (go_at_call 31; (first | (with_reducible refine (CC.out _ _ _ K4).mono ?_) | (with_reducible refine (CC.out _ _ _ K4.drew).mono ?_)); rintro e u5 ⟨v5, rfl, K5, ho5⟩; obtain ⟨A5, c5, rfl⟩ := own_shape ho5; obtain ⟨q0, q1, q2⟩ := K5.cells)
      | (go_at_call 30; (with_reducible refine (PC1.out _ _ _ _ K5 ho5).mono ?_); rintro e u6 ⟨v6, rfl, K6, ho6⟩; obtain ⟨A6, c6, rfl⟩ := own_shape ho6; obtain ⟨q0, q1, q2⟩ := K6.cells)
      | (go_at_call 30; (with_reducible refine (PC2.out _ _ K6 ho6).mono ?_); rintro e u7 ⟨v7, rfl, K7, ho7⟩; obtain ⟨A7, c7, rfl⟩ := own_shape ho7; obtain ⟨q0, q1, q2⟩ := K7.cells))
  go_wp2_with (go_at_call 22; (with_reducible refine (YC.out _ _ K7 ho7).mono ?_); rintro e u8 ⟨v8, rfl, K8, ho8⟩; obtain ⟨A8, c8, rfl⟩ := own_shape ho8; obtain ⟨q0, q1, q2⟩ := K8.cells)
  generalize hLn : L.length = Ln at *
  clear q0 q1 q2
  go_loopw [61] (fun iv wr => ∃ k : Nat, k ≤ Ln ∧ iv = .int .i64 k ∧ wr.ownsRow (w.heap.size + 1) 32 3 (.slice A8 Ln c8) Ln (rrows L) ∧ Below w.heap.size w wr) (fun iv _ => Ln - (intOf iv).toNat)
  case atStart => exact ⟨0, Nat.zero_le _, rfl, ho8, K8.below⟩
  case round =>
    obtain ⟨k, hkl, rfl, ho, hW⟩ := hrel
    clear ho8
    by_cases hlt : k < Ln
    · obtain ⟨x, hkx⟩ : ∃ x, L[k]? = some x := ⟨_, List.getElem?_eq_getElem (by omega)⟩
      obtain ⟨g, c', e1, hgw, hBg, hfz⟩ := rg_addr ho (by omega)
      injection e1 with e1 _ e2
      subst e1 e2
      have KX := Lib.hid (KC.out x (List.mem_of_getElem? hkx))
      have HT := Lib.hid (rrows_text hkx)
      have cell : ∀ u : World, u.ownsRow (w.heap.size + 1) 32 3 (.slice (some ⟨g, 0, none⟩) Ln c8) Ln (rrows L) → u.cell? ⟨g, k * 3 + 2, none⟩ = some (.string x.text) := fun u hu => by
        obtain ⟨b', off', e2, _, hc⟩ := (own_rgs hu hLn).1 (by omega)
        injection e2 with e2
        injection e2 with e2 e3 _
        subst e2 e3
        have := (hc _ _ hkx).2.2
        rwa [Nat.zero_add] at this
      have c2 := cell _ ho
      have CELL := Lib.hid cell
      have hki : (k : Int) < Ln := by omega
      clear hkx hfz cell
      go_wp2_with (go_at_call 24; (with_reducible refine (KX.out _).mono ?_); rintro e ur ⟨rfl, hbr⟩; have ho2 := ho.kept (gb_below none hbr) (by simp [Value.ownBlock]); have hW2 := hW.trans (hbr.mono hW.size); have d2 := CELL.out _ ho2; have fz := (rg_frozen ho2) (k * 3 + 2))
      have ho3 := rg_setCell ho2 (k * 3 + 2) (.string x.text)
      rw [HT.out] at ho3
      have hW3 := hW2.setCell (p := ⟨g, k * 3 + 2, none⟩) (by show w.heap.size ≤ g; omega) (.string x.text)
      go_roundw
      case rel => exact ⟨k + 1, by omega, by go_num, ho3, hW3⟩
      case measure => simp [intOf]; omega
    · go_wp2
      go_ret2
      subst hLn
      obtain ⟨o1, o2⟩ := own_rgs ho rfl
      exact ⟨_, _, by rw [H.out]; rfl, by rw [H.out]; exact o1, by rw [H.out]; exact o2, hW⟩
set_option maxHeartbeats 4000000 in
set_option maxRecDepth 100000 in
theorem reg_keep_remove_not_big (n : Int) (t : ByteArray) (lines : Bool) {A : Option Addr} {c : Nat} {ks : List Rg} {w : World} (hx : Rgs w A ks) (hm : ks.length ≤ 1000) (ht : t.size ≤ 140737488355327) {z : Int} (h : Right ks) (hv : Utf.valid t.data.toList = true) (hz : nameN n = z) (h0 : z ≠ 0) (hl : Reg.look ks z = none) (hs : ¬ t.size ≤ 4096) :
    Calls Try.prog 19 #[.slice A ks.length c, .int .i64 n, .agg #[.int .i64 0, .bool lines, .string t], .func (.func 22) #[] #[]] w (KeepIs (kept ks n t lines true) w) := by
  have K0 := KBox.new w lines t
  obtain ⟨q0, q1, q2⟩ := K0.cells
  have RC : Hid (∀ u b s, KBox w u b s → Calls Try.prog 15 #[.slice A ks.length c] u fun e u' => e = .returned (.bool (decide (Right ks))) ∧ KBox w u' b s) := fun u b s h => (reg_Right (hx.below h.below) (by unfold maxLen; omega)).mono fun e u' h' => ⟨h'.1, h.on h'.2⟩
  have VC := Lib.hid (fun w => utf_Valid t (by omega) w)
  have NC := Lib.hid (reg_Name n)
  rw [decide_eq_true h] at RC
  rw [hv] at VC
  rw [hz] at NC
  have AD : added ks n t lines = (lines, t) := by rw [added, hz, hl]; split <;> rfl
  have H : Hid (kept ks n t lines true = ([], 8)) := big_of h hv hz h0 AD hs
  have hzz : nameN z = z := nameN_name (hz ▸ nameN_is (by rw [hz]; exact h0))
  have hg : get ks z = (Reg.zero, false) := get_none (by rw [hzz]; exact hl)
  have GC : Hid (∀ u b s, KBox w u b s → Calls Try.prog 13 #[.slice A ks.length c, .int .i64 z] u fun e u' => e = .returned (.tuple #[(.agg #[.int .i64 0, .bool false, .string { data := #[] }]), .bool false]) ∧ KBox w u' b s) := fun u b s hu => (reg_Get z (hx.below hu.below) (by unfold maxLen; omega)).mono fun e u' h' => ⟨by have := h'.1; rw [hg] at this; exact this, hu.on h'.2⟩
  have g0 : (z == 0) = false := by simpa using h0
  have g1 : decide ((4096 : Int) < (t.size : Int)) = true := decide_eq_true (by omega)
  clear hx hm ht h hv hz h0 AD hzz hg hs hl
  go_enter Try.func19, Try.ntmps19
  go_wp2_with (first
    | (go_at_call 15; (with_reducible refine (RC.out _ _ _ K0).mono ?_); rintro e u1 ⟨rfl, K1⟩; obtain ⟨q0, q1, q2⟩ := K1.cells)
    | (go_at_call 27; (with_reducible refine (VC.out _).mono ?_); rintro e u9 ⟨rfl, rfl⟩)
    | (go_at_call 17; (with_reducible refine (NC.out _).mono ?_); rintro e u9 ⟨rfl, rfl⟩)
    | (go_at_call 13; (with_reducible refine (GC.out _ _ _ K1).mono ?_); rintro e u2 ⟨rfl, K2⟩; replace K2 := K2.alloc (.cells #[.int .i64 0, .bool false, .string { data := #[] }] 32); obtain ⟨q0, q1, q2⟩ := K2.cells))
  go_ret2
  exact ⟨none, 0, by rw [H.out]; rfl, by rw [H.out]; exact Rgs.nil _ _, by rw [H.out]; exact Nat.zero_le _, K2.below⟩
set_option maxHeartbeats 4000000 in
set_option maxRecDepth 100000 in
theorem reg_keep_remove_not (n : Int) (t : ByteArray) (lines : Bool) {A : Option Addr} {c : Nat} {ks : List Rg} {w : World} (hx : Rgs w A ks) (hm : ks.length ≤ 1000) (ht : t.size ≤ 140737488355327) {z : Int} (h : Right ks) (hv : Utf.valid t.data.toList = true) (hz : nameN n = z) (h0 : z ≠ 0) (hl : Reg.look ks z = none) (hs : t.size ≤ 4096) (h34 : ¬ z = 34) :
    Calls Try.prog 19 #[.slice A ks.length c, .int .i64 n, .agg #[.int .i64 0, .bool lines, .string t], .func (.func 22) #[] #[]] w (KeepIs (kept ks n t lines true) w) := by
  have K0 := KBox.new w lines t
  obtain ⟨q0, q1, q2⟩ := K0.cells
  have RC : Hid (∀ u b s, KBox w u b s → Calls Try.prog 15 #[.slice A ks.length c] u fun e u' => e = .returned (.bool (decide (Right ks))) ∧ KBox w u' b s) := fun u b s h => (reg_Right (hx.below h.below) (by unfold maxLen; omega)).mono fun e u' h' => ⟨h'.1, h.on h'.2⟩
  have VC := Lib.hid (fun w => utf_Valid t (by omega) w)
  have NC := Lib.hid (reg_Name n)
  rw [decide_eq_true h] at RC
  rw [hv] at VC
  rw [hz] at NC
  have AD : added ks n t lines = (lines, t) := by rw [added, hz, hl]; split <;> rfl
  obtain ⟨HK, n1, n2, hfit⟩ := fit_of (taken := true) h hv hz h0 AD hs
  have hzz : nameN z = z := nameN_name (hz ▸ nameN_is (by rw [hz]; exact h0))
  have hg : get ks z = (Reg.zero, false) := get_none (by rw [hzz]; exact hl)
  have GC : Hid (∀ u b s, KBox w u b s → Calls Try.prog 13 #[.slice A ks.length c, .int .i64 z] u fun e u' => e = .returned (.tuple #[(.agg #[.int .i64 0, .bool false, .string { data := #[] }]), .bool false]) ∧ KBox w u' b s) := fun u b s hu => (reg_Get z (hx.below hu.below) (by unfold maxLen; omega)).mono fun e u' h' => ⟨by have := h'.1; rw [hg] at this; exact this, hu.on h'.2⟩
  have g0 : (z == 0) = false := by simpa using h0
  have g1 : decide ((4096 : Int) < (t.size : Int)) = false := decide_eq_false (by omega)
  have g2 : (z == 34) = false := by simpa using h34
  rw [if_neg h34] at HK
  have H := Lib.hid HK
  have CC : Hid (∀ u b s, KBox w u b s → Calls Try.prog 31 #[.slice A ks.length c] u (KeptAt w b s ks)) := fun u b s hu => keep_clone hu hx hm
  have PC1 : Hid (∀ u b s v, KBox w u b s → u.ownsRow (w.heap.size + 1) 32 3 v ks.length (rrows ks) → Calls Try.prog 30 #[v, .int .i64 z, .agg #[.int .i64 0, .bool b, .string s]] u (KeptAt w b s (put ks ⟨z, b, s⟩))) := fun u b s v hu ho => keep_put z hu ho h.1
  have PC2 : Hid (∀ u v, KBox w u lines t → u.ownsRow (w.heap.size + 1) 32 3 v (put ks ⟨z, lines, t⟩).length (rrows (put ks ⟨z, lines, t⟩)) → Calls Try.prog 30 #[v, .int .i64 34, .agg #[.int .i64 0, .bool lines, .string t]] u (KeptAt w lines t (put (put ks ⟨z, lines, t⟩) ⟨34, lines, t⟩))) := fun u v hu ho => keep_put 34 hu ho n1
  have hlf : ∀ x ∈ (put (put ks ⟨z, lines, t⟩) ⟨34, lines, t⟩), Fit x := put_fit (put_fit h.2 hfit) hfit
  have hll : (put (put ks ⟨z, lines, t⟩) ⟨34, lines, t⟩).length ≤ 89 := Nam.length_le n2
  generalize hL : (put (put ks ⟨z, lines, t⟩) ⟨34, lines, t⟩) = L at *
  have KC : Hid (∀ x ∈ L, ∀ u, Calls Try.prog 24 #[.string x.text] u fun e u' => e = .returned (.string x.text) ∧ Below u.heap.size u u') := fun x hx u => str_clone x.text u (by have := (hlf x hx).1; omega)
  clear hx hm ht h hv hz h0 AD hzz hg hs hl hfit HK hlf n1 n2 h34
  go_enter Try.func19, Try.ntmps19
  go_wp2_with (first
    | (go_at_call 15; (with_reducible refine (RC.out _ _ _ K0).mono ?_); rintro e u1 ⟨rfl, K1⟩; obtain ⟨q0, q1, q2⟩ := K1.cells)
    | (go_at_call 27; (with_reducible refine (VC.out _).mono ?_); rintro e u9 ⟨rfl, rfl⟩)
    | (go_at_call 17; (with_reducible refine (NC.out _).mono ?_); rintro e u9 ⟨rfl, rfl⟩)
    | (go_at_call 13; (with_reducible refine (GC.out _ _ _ K1).mono ?_); rintro e u2 ⟨rfl, K2⟩; replace K2 := K2.alloc (.cells #[.int .i64 0, .bool false, .string { data := #[] }] 32); obtain ⟨q0, q1, q2⟩ := K2.cells))
  have K4 := K2
  generalize (u2.alloc (.cells #[.int .i64 0, .bool false, .string { data := #[] }] 32)) = U at *
  clear q0 q1 q2
  obtain ⟨q0, q1, q2⟩ := K4.cells
  go_region_held3 (fun u => u.cell? ⟨w.heap.size, 0, none⟩ = some (.int .i64 0) ∧ u.cell? ⟨w.heap.size, 1, none⟩ = some (.bool lines) ∧ u.cell? ⟨w.heap.size, 2, none⟩ = some (.string t)) (first | (with_reducible exact ⟨by assumption, by assumption, by assumption⟩) | go_keep)
    (first
      | (go_at_call 31; (first | (with_reducible refine (CC.out _ _ _ K4).mono ?_) | (with_reducible refine (CC.out _ _ _ K4.drew).mono ?_)); rintro e u5 ⟨v5, rfl, K5, ho5⟩; obtain ⟨A5, c5, rfl⟩ := own_shape ho5; obtain ⟨q0, q1, q2⟩ := K5.cells)
      | (go_at_call 30; (with_reducible refine (PC1.out _ _ _ _ K5 ho5).mono ?_); rintro e u6 ⟨v6, rfl, K6, ho6⟩; obtain ⟨A6, c6, rfl⟩ := own_shape ho6; obtain ⟨q0, q1, q2⟩ := K6.cells)
      | (go_at_call 30; (with_reducible refine (PC2.out _ _ K6 ho6).mono ?_); rintro e u7 ⟨v7, rfl, K7, ho7⟩; obtain ⟨A7, c7, rfl⟩ := own_shape ho7; obtain ⟨q0, q1, q2⟩ := K7.cells))
  go_wp2
  generalize hLn : L.length = Ln at *
  clear q0 q1 q2
  go_loopw [61] (fun iv wr => ∃ k : Nat, k ≤ Ln ∧ iv = .int .i64 k ∧ wr.ownsRow (w.heap.size + 1) 32 3 (.slice A7 Ln c7) Ln (rrows L) ∧ Below w.heap.size w wr) (fun iv _ => Ln - (intOf iv).toNat)
  case atStart => exact ⟨0, Nat.zero_le _, rfl, ho7, K7.below⟩
  case round =>
    obtain ⟨k, hkl, rfl, ho, hW⟩ := hrel
    clear ho7
    by_cases hlt : k < Ln
    · obtain ⟨x, hkx⟩ : ∃ x, L[k]? = some x := ⟨_, List.getElem?_eq_getElem (by omega)⟩
      obtain ⟨g, c', e1, hgw, hBg, hfz⟩ := rg_addr ho (by omega)
      injection e1 with e1 _ e2
      subst e1 e2
      have KX := Lib.hid (KC.out x (List.mem_of_getElem? hkx))
      have HT := Lib.hid (rrows_text hkx)
      have cell : ∀ u : World, u.ownsRow (w.heap.size + 1) 32 3 (.slice (some ⟨g, 0, none⟩) Ln c7) Ln (rrows L) → u.cell? ⟨g, k * 3 + 2, none⟩ = some (.string x.text) := fun u hu => by
        obtain ⟨b', off', e2, _, hc⟩ := (own_rgs hu hLn).1 (by omega)
        injection e2 with e2
        injection e2 with e2 e3 _
        subst e2 e3
        have := (hc _ _ hkx).2.2
        rwa [Nat.zero_add] at this
      have c2 := cell _ ho
      have CELL := Lib.hid cell
      have hki : (k : Int) < Ln := by omega
      clear hkx hfz cell
      go_wp2_with (go_at_call 24; (with_reducible refine (KX.out _).mono ?_); rintro e ur ⟨rfl, hbr⟩; have ho2 := ho.kept (gb_below none hbr) (by simp [Value.ownBlock]); have hW2 := hW.trans (hbr.mono hW.size); have d2 := CELL.out _ ho2; have fz := (rg_frozen ho2) (k * 3 + 2))
      have ho3 := rg_setCell ho2 (k * 3 + 2) (.string x.text)
      rw [HT.out] at ho3
      have hW3 := hW2.setCell (p := ⟨g, k * 3 + 2, none⟩) (by show w.heap.size ≤ g; omega) (.string x.text)
      go_roundw
      case rel => exact ⟨k + 1, by omega, by go_num, ho3, hW3⟩
      case measure => simp [intOf]; omega
    · go_wp2
      go_ret2
      subst hLn
      obtain ⟨o1, o2⟩ := own_rgs ho rfl
      exact ⟨_, _, by rw [H.out]; rfl, by rw [H.out]; exact o1, by rw [H.out]; exact o2, hW⟩
set_option maxHeartbeats 4000000 in
set_option maxRecDepth 100000 in
theorem reg_keep_remove_not_plain (n : Int) (t : ByteArray) (lines : Bool) {A : Option Addr} {c : Nat} {ks : List Rg} {w : World} (hx : Rgs w A ks) (hm : ks.length ≤ 1000) (ht : t.size ≤ 140737488355327) {z : Int} (h : Right ks) (hv : Utf.valid t.data.toList = true) (hz : nameN n = z) (h0 : z ≠ 0) (hl : Reg.look ks z = none) (hs : t.size ≤ 4096) (h34 : z = 34) :
    Calls Try.prog 19 #[.slice A ks.length c, .int .i64 n, .agg #[.int .i64 0, .bool lines, .string t], .func (.func 22) #[] #[]] w (KeepIs (kept ks n t lines true) w) := by
  have K0 := KBox.new w lines t
  obtain ⟨q0, q1, q2⟩ := K0.cells
  have RC : Hid (∀ u b s, KBox w u b s → Calls Try.prog 15 #[.slice A ks.length c] u fun e u' => e = .returned (.bool (decide (Right ks))) ∧ KBox w u' b s) := fun u b s h => (reg_Right (hx.below h.below) (by unfold maxLen; omega)).mono fun e u' h' => ⟨h'.1, h.on h'.2⟩
  have VC := Lib.hid (fun w => utf_Valid t (by omega) w)
  have NC := Lib.hid (reg_Name n)
  rw [decide_eq_true h] at RC
  rw [hv] at VC
  rw [hz] at NC
  have AD : added ks n t lines = (lines, t) := by rw [added, hz, hl]; split <;> rfl
  obtain ⟨HK, n1, n2, hfit⟩ := fit_of (taken := true) h hv hz h0 AD hs
  have hzz : nameN z = z := nameN_name (hz ▸ nameN_is (by rw [hz]; exact h0))
  have hg : get ks z = (Reg.zero, false) := get_none (by rw [hzz]; exact hl)
  have GC : Hid (∀ u b s, KBox w u b s → Calls Try.prog 13 #[.slice A ks.length c, .int .i64 z] u fun e u' => e = .returned (.tuple #[(.agg #[.int .i64 0, .bool false, .string { data := #[] }]), .bool false]) ∧ KBox w u' b s) := fun u b s hu => (reg_Get z (hx.below hu.below) (by unfold maxLen; omega)).mono fun e u' h' => ⟨by have := h'.1; rw [hg] at this; exact this, hu.on h'.2⟩
  have g0 : (z == 0) = false := by simpa using h0
  have g1 : decide ((4096 : Int) < (t.size : Int)) = false := decide_eq_false (by omega)
  have g2 : (z == 34) = true := by subst h34; rfl
  rw [if_pos h34] at HK
  have H := Lib.hid HK
  have CC : Hid (∀ u b s, KBox w u b s → Calls Try.prog 31 #[.slice A ks.length c] u (KeptAt w b s ks)) := fun u b s hu => keep_clone hu hx hm
  have PC1 : Hid (∀ u b s v, KBox w u b s → u.ownsRow (w.heap.size + 1) 32 3 v ks.length (rrows ks) → Calls Try.prog 30 #[v, .int .i64 z, .agg #[.int .i64 0, .bool b, .string s]] u (KeptAt w b s (put ks ⟨z, b, s⟩))) := fun u b s v hu ho => keep_put z hu ho h.1
  have PC2 : Hid (∀ u v, KBox w u lines t → u.ownsRow (w.heap.size + 1) 32 3 v (put ks ⟨z, lines, t⟩).length (rrows (put ks ⟨z, lines, t⟩)) → Calls Try.prog 30 #[v, .int .i64 34, .agg #[.int .i64 0, .bool lines, .string t]] u (KeptAt w lines t (put (put ks ⟨z, lines, t⟩) ⟨34, lines, t⟩))) := fun u v hu ho => keep_put 34 hu ho n1
  have hlf : ∀ x ∈ (also (put (put ks ⟨z, lines, t⟩) ⟨34, lines, t⟩) lines t true), Fit x := (also_right ⟨n2, put_fit (put_fit h.2 hfit) hfit⟩ (hfit) true).2
  have hll : (also (put (put ks ⟨z, lines, t⟩) ⟨34, lines, t⟩) lines t true).length ≤ 89 := Nam.length_le (also_nam n2 _ _ _)
  have YC : Hid (∀ u v, KBox w u lines t → u.ownsRow (w.heap.size + 1) 32 3 v (put (put ks ⟨z, lines, t⟩) ⟨34, lines, t⟩).length (rrows (put (put ks ⟨z, lines, t⟩) ⟨34, lines, t⟩)) → Calls Try.prog 22 #[v, .agg #[.int .i64 0, .bool lines, .string t]] u (KeptAt w lines t (also (put (put ks ⟨z, lines, t⟩) ⟨34, lines, t⟩) lines t true))) := fun u v hu ho => keep_remove hu ho n2
  generalize hL : (also (put (put ks ⟨z, lines, t⟩) ⟨34, lines, t⟩) lines t true) = L at *
  have KC : Hid (∀ x ∈ L, ∀ u, Calls Try.prog 24 #[.string x.text] u fun e u' => e = .returned (.string x.text) ∧ Below u.heap.size u u') := fun x hx u => str_clone x.text u (by have := (hlf x hx).1; omega)
  clear hx hm ht h hv hz h0 AD hzz hg hs hl hfit HK hlf n1 n2 h34
  go_enter Try.func19, Try.ntmps19
  go_wp2_with (first
    | (go_at_call 15; (with_reducible refine (RC.out _ _ _ K0).mono ?_); rintro e u1 ⟨rfl, K1⟩; obtain ⟨q0, q1, q2⟩ := K1.cells)
    | (go_at_call 27; (with_reducible refine (VC.out _).mono ?_); rintro e u9 ⟨rfl, rfl⟩)
    | (go_at_call 17; (with_reducible refine (NC.out _).mono ?_); rintro e u9 ⟨rfl, rfl⟩)
    | (go_at_call 13; (with_reducible refine (GC.out _ _ _ K1).mono ?_); rintro e u2 ⟨rfl, K2⟩; replace K2 := K2.alloc (.cells #[.int .i64 0, .bool false, .string { data := #[] }] 32); obtain ⟨q0, q1, q2⟩ := K2.cells))
  have K4 := K2
  generalize (u2.alloc (.cells #[.int .i64 0, .bool false, .string { data := #[] }] 32)) = U at *
  clear q0 q1 q2
  obtain ⟨q0, q1, q2⟩ := K4.cells
  go_region_held3 (fun u => u.cell? ⟨w.heap.size, 0, none⟩ = some (.int .i64 0) ∧ u.cell? ⟨w.heap.size, 1, none⟩ = some (.bool lines) ∧ u.cell? ⟨w.heap.size, 2, none⟩ = some (.string t)) (first | (with_reducible exact ⟨by assumption, by assumption, by assumption⟩) | go_keep)
    (first
      | (go_at_call 31; (first | (with_reducible refine (CC.out _ _ _ K4).mono ?_) | (with_reducible refine (CC.out _ _ _ K4.drew).mono ?_)); rintro e u5 ⟨v5, rfl, K5, ho5⟩; obtain ⟨A5, c5, rfl⟩ := own_shape ho5; obtain ⟨q0, q1, q2⟩ := K5.cells)
      | (go_at_call 30; (with_reducible refine (PC1.out _ _ _ _ K5 ho5).mono ?_); rintro e u6 ⟨v6, rfl, K6, ho6⟩; obtain ⟨A6, c6, rfl⟩ := own_shape ho6; obtain ⟨q0, q1, q2⟩ := K6.cells)
      | (go_at_call 30; (with_reducible refine (PC2.out _ _ K6 ho6).mono ?_); rintro e u7 ⟨v7, rfl, K7, ho7⟩; obtain ⟨A7, c7, rfl⟩ := own_shape ho7; obtain ⟨q0, q1, q2⟩ := K7.cells))
  go_wp2_with (go_at_call 22; (with_reducible refine (YC.out _ _ K7 ho7).mono ?_); rintro e u8 ⟨v8, rfl, K8, ho8⟩; obtain ⟨A8, c8, rfl⟩ := own_shape ho8; obtain ⟨q0, q1, q2⟩ := K8.cells)
  generalize hLn : L.length = Ln at *
  clear q0 q1 q2
  go_loopw [61] (fun iv wr => ∃ k : Nat, k ≤ Ln ∧ iv = .int .i64 k ∧ wr.ownsRow (w.heap.size + 1) 32 3 (.slice A8 Ln c8) Ln (rrows L) ∧ Below w.heap.size w wr) (fun iv _ => Ln - (intOf iv).toNat)
  case atStart => exact ⟨0, Nat.zero_le _, rfl, ho8, K8.below⟩
  case round =>
    obtain ⟨k, hkl, rfl, ho, hW⟩ := hrel
    clear ho8
    by_cases hlt : k < Ln
    · obtain ⟨x, hkx⟩ : ∃ x, L[k]? = some x := ⟨_, List.getElem?_eq_getElem (by omega)⟩
      obtain ⟨g, c', e1, hgw, hBg, hfz⟩ := rg_addr ho (by omega)
      injection e1 with e1 _ e2
      subst e1 e2
      have KX := Lib.hid (KC.out x (List.mem_of_getElem? hkx))
      have HT := Lib.hid (rrows_text hkx)
      have cell : ∀ u : World, u.ownsRow (w.heap.size + 1) 32 3 (.slice (some ⟨g, 0, none⟩) Ln c8) Ln (rrows L) → u.cell? ⟨g, k * 3 + 2, none⟩ = some (.string x.text) := fun u hu => by
        obtain ⟨b', off', e2, _, hc⟩ := (own_rgs hu hLn).1 (by omega)
        injection e2 with e2
        injection e2 with e2 e3 _
        subst e2 e3
        have := (hc _ _ hkx).2.2
        rwa [Nat.zero_add] at this
      have c2 := cell _ ho
      have CELL := Lib.hid cell
      have hki : (k : Int) < Ln := by omega
      clear hkx hfz cell
      go_wp2_with (go_at_call 24; (with_reducible refine (KX.out _).mono ?_); rintro e ur ⟨rfl, hbr⟩; have ho2 := ho.kept (gb_below none hbr) (by simp [Value.ownBlock]); have hW2 := hW.trans (hbr.mono hW.size); have d2 := CELL.out _ ho2; have fz := (rg_frozen ho2) (k * 3 + 2))
      have ho3 := rg_setCell ho2 (k * 3 + 2) (.string x.text)
      rw [HT.out] at ho3
      have hW3 := hW2.setCell (p := ⟨g, k * 3 + 2, none⟩) (by show w.heap.size ≤ g; omega) (.string x.text)
      go_roundw
      case rel => exact ⟨k + 1, by omega, by go_num, ho3, hW3⟩
      case measure => simp [intOf]; omega
    · go_wp2
      go_ret2
      subst hLn
      obtain ⟨o1, o2⟩ := own_rgs ho rfl
      exact ⟨_, _, by rw [H.out]; rfl, by rw [H.out]; exact o1, by rw [H.out]; exact o2, hW⟩
theorem reg_keep_remove (n : Int) (t : ByteArray) (lines : Bool) {A : Option Addr} {c : Nat} {ks : List Rg} {w : World} (hx : Rgs w A ks) (hm : ks.length ≤ 1000) (ht : t.size ≤ 140737488355327) :
    Calls Try.prog 19 #[.slice A ks.length c, .int .i64 n, .agg #[.int .i64 0, .bool lines, .string t], .func (.func 22) #[] #[]] w (KeepIs (kept ks n t lines true) w) := by
  by_cases h : Right ks
  · by_cases hv : Utf.valid t.data.toList = true
    · by_cases h0 : nameN n = 0
      · exact reg_keep_remove_noname n t lines hx hm ht h hv h0
      · by_cases ha : 65 ≤ n ∧ n ≤ 90
        · cases hl : Reg.look ks (nameN n) with
          | some old =>
            by_cases hs : (joined old lines t).2.size ≤ 4096
            · exact reg_keep_remove_add n t lines hx hm ht h hv rfl h0 ha hl hs
            · exact reg_keep_remove_add_big n t lines hx hm ht h hv rfl h0 ha hl hs
          | none =>
            by_cases hs : t.size ≤ 4096
            · by_cases h34 : nameN n = 34
              · exact reg_keep_remove_not_plain n t lines hx hm ht h hv rfl h0 hl hs h34
              · exact reg_keep_remove_not n t lines hx hm ht h hv rfl h0 hl hs h34
            · exact reg_keep_remove_not_big n t lines hx hm ht h hv rfl h0 hl hs
        · cases hl : Reg.look ks (nameN n) with
          | some old =>
            by_cases hs : t.size ≤ 4096
            · by_cases h34 : nameN n = 34
              · exact reg_keep_remove_has_plain n t lines hx hm ht h hv rfl h0 ha hl hs h34
              · exact reg_keep_remove_has n t lines hx hm ht h hv rfl h0 ha hl hs h34
            · exact reg_keep_remove_has_big n t lines hx hm ht h hv rfl h0 ha hl hs
          | none =>
            by_cases hs : t.size ≤ 4096
            · by_cases h34 : nameN n = 34
              · exact reg_keep_remove_not_plain n t lines hx hm ht h hv rfl h0 hl hs h34
              · exact reg_keep_remove_not n t lines hx hm ht h hv rfl h0 hl hs h34
            · exact reg_keep_remove_not_big n t lines hx hm ht h hv rfl h0 hl hs
    · exact reg_keep_remove_invalid n t lines hx hm ht h hv
  · exact reg_keep_remove_wrong n t lines hx hm ht h
theorem reg_Delete (n : Int) (t : ByteArray) (lines : Bool) {A : Option Addr} {c : Nat} {ks : List Rg} {w : World} (hx : Rgs w A ks) (hm : ks.length ≤ 1000) (ht : t.size ≤ 140737488355327) :
    Calls Try.prog 10 #[.slice A ks.length c, .int .i64 n, .string t, .bool lines] w (KeepIs (kept ks n t lines true) w) := by
  have C := Lib.hid (reg_keep_remove (c := c) n t lines hx hm ht)
  clear hx hm ht
  go_enter Try.func10, Try.ntmps10
  go_wp2_with (go_at_call 19; (with_reducible refine C.out.mono ?_); rintro e w1 ⟨A1, c1, rfl, h1, h2, h3⟩)
  go_ret2
  exact ⟨A1, c1, rfl, h1, h2, h3⟩
end Go.Proofs.Ytopplkfbnpamdaa
