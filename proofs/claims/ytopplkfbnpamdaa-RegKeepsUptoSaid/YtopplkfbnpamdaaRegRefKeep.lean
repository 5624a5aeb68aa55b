/-
  A text kept, as the document tells it: yanked, and taken out.
-/
import Derived.Test.YtopplkfbnpamdaaRegFlat
import Derived.Test.YtopplkfbnpamdaaRegKeep
namespace Go.Proofs.Ytopplkfbnpamdaa
open Go.RowKit
open Reg
/-- The document's row, in memory of the call's own. -/
structure RBox (w u : World) (g : Nat) (R : List (Option Rg)) : Prop where
  below : Below w.heap.size w u
  row : RowIs u g R
  le : w.heap.size ≤ g
theorem RBox.on {w u v : World} {g : Nat} {R : List (Option Rg)} (h : RBox w u g R) (hb : Below u.heap.size u v) : RBox w v g R := ⟨h.below.trans (hb.mono h.below.size), h.row.below hb, h.le⟩
theorem RBox.alloc {w u : World} {g : Nat} {R : List (Option Rg)} (h : RBox w u g R) (o : Obj) : RBox w (u.alloc o) g R := h.on ((Below.refl _ u).alloc (Nat.le_refl _) o)
theorem RBox.drew {w u : World} {g : Nat} {R : List (Option Rg)} (h : RBox w u g R) : RBox w u.drew g R := h.on (below_gb (gb_drew u none))
theorem RBox.set {w u : World} {g : Nat} {R : List (Option Rg)} (h : RBox w u g R) (j : Nat) {o : Option Rg} {v : Value} (he : Ent u g o v) : RBox w (u.setCell ⟨g, j, none⟩ v) g (R.set j o) := ⟨h.below.setCell (p := ⟨g, j, none⟩) h.le v, h.row.set j he, h.le⟩
theorem rbox_put {w u : World} {g : Nat} {l : List Rg} (n : Int) (b : Bool) (s : ByteArray) (h : RBox w u g (row l)) (hn : IsName n) :
    Calls Try.prog 33 #[.slice (some ⟨g, 0, none⟩) 38 38, .int .i64 n, .bool b, .string s] u fun e u' => e = .returned (.tuple #[]) ∧ RBox w u' g (row (put l ⟨n, b, s⟩)) := by
  refine (ref21_put b s h.row hn).mono ?_
  rintro e u' ⟨rfl, h1, h2⟩
  have hle := h.le
  refine ⟨rfl, ⟨below_gb (gb_own (gb_below none h.below) h2 (fun i hi => by injection hi with hi; omega)), ?_, h.le⟩⟩
  rw [row_put _ (show IsName (Rg.name ⟨n, b, s⟩) from hn)]
  exact h1
theorem rbox_end {w u : World} {g : Nat} {l : List Rg} {k : Rg} (h : RBox w u g (shiftR l 49)) (hk : k.name = 49) :
    Calls Try.prog 33 #[.slice (some ⟨g, 0, none⟩) 38 38, .int .i64 49, .bool k.lines, .string k.text] u fun e u' => e = .returned (.tuple #[]) ∧ RBox w u' g (row (put (age l) k)) := by
  refine (ref21_put k.lines k.text h.row (n := 49) (by decide)).mono ?_
  rintro e u' ⟨rfl, h1, h2⟩
  have hle := h.le
  refine ⟨rfl, ⟨below_gb (gb_own (gb_below none h.below) h2 (fun i hi => by injection hi with hi; omega)), ?_, h.le⟩⟩
  rw [← shiftR_end l k hk]
  obtain ⟨kn, kl, kt⟩ := k
  simp only at hk
  subst hk
  exact h1
theorem rbox_flat {w u : World} {g : Nat} {l : List Rg} (h : RBox w u g (row l)) (hN : Nam l) :
    Calls Try.prog 34 #[.slice (some ⟨g, 0, none⟩) 38 38] u fun e u' => ∃ (A : Option Addr) (c : Nat), e = .returned (.slice A l.length c) ∧ Rgs u' A l ∧ l.length ≤ c ∧ Below w.heap.size w u' := by
  refine (ref21_flat h.row hN).mono ?_
  rintro e u' ⟨A, c, rfl, h1, h2, h3⟩
  exact ⟨A, c, rfl, h1, h2, h.below.trans (h3.mono h.below.size)⟩
namespace Reg
/-- Whether there is a line feed in the first bytes. -/
def feed (t : ByteArray) (k : Nat) : Bool := decide ((10 : UInt8) ∈ t.data.toList.take k)
theorem feed_zero (t : ByteArray) : feed t 0 = false := by unfold feed; simp
theorem feed_all (t : ByteArray) : feed t t.size = decide ((10 : UInt8) ∈ t.data.toList) := by unfold feed; rw [List.take_of_length_le (by simp)]
theorem feed_succ (t : ByteArray) {k : Nat} (h : k < t.size) : feed t (k + 1) = (feed t k || (t[k].toNat == 10)) := by
  have hg := byte_get t h
  unfold feed
  have hk : k < t.data.toList.length := by simpa using h
  rw [List.take_succ_eq_append_getElem hk]
  have e : t.data.toList[k] = t[k] := by
    rw [List.getElem?_eq_getElem hk] at hg; injection hg
  rw [e]
  have e2 : (t[k].toNat == 10) = decide (t[k] = 10) := by
    rw [Bool.eq_iff_iff]
    simp only [beq_iff_eq, decide_eq_true_eq]
    constructor
    · intro h; exact UInt8.toNat_inj.1 h
    · intro h; rw [h]; rfl
  rw [e2, Bool.eq_iff_iff]
  simp only [List.mem_append, List.mem_singleton, Bool.or_eq_true, decide_eq_true_eq]
  constructor
  · rintro (h | h)
    · exact .inl h
    · exact .inr h.symm
  · rintro (h | h)
    · exact .inl h
    · exact .inr h.symm
end Reg
set_option maxHeartbeats 4000000 in
set_option maxRecDepth 100000 in
theorem ref21_keep_wrong (n : Int) (t : ByteArray) (lines taken : Bool) {A : Option Addr} {c : Nat} {ks : List Rg} {w : World} (hx : Rgs w A ks) (hm : ks.length ≤ 1000) (_ht : t.size ≤ 1048576) (h : ¬ Right ks) :
    Calls Try.prog 21 #[.slice A ks.length c, .int .i64 n, .string t, .bool lines, .bool taken] w (KeepIs (kept ks n t lines taken) w) := by
  have NC := Lib.hid (ref21_Name n)
  have RC : Hid (Calls Try.prog 25 #[.slice A ks.length c] w fun e u => e = .returned (.slice none 0 0) ∧ Below w.heap.size w u) := ref21_row_not (c := c) hx (by unfold maxLen; omega) h (Below.refl _ w)
  have H : Hid (kept ks n t lines taken = ([], 1)) := by show _ = _; rw [kept, if_neg (fun e => h e.1)]
  clear hx hm h NC
  go_enter Try.func21, Try.ntmps21
  go_wp2_with (go_at_call 25; (with_reducible refine RC.out.mono ?_); rintro e u1 ⟨rfl, K1⟩)
  go_ret2
  exact ⟨none, 0, by rw [H.out]; rfl, by rw [H.out]; exact Rgs.nil _ _, by rw [H.out]; exact Nat.zero_le _, K1⟩
set_option maxHeartbeats 4000000 in
set_option maxRecDepth 100000 in
theorem ref21_keep_invalid (n : Int) (t : ByteArray) (lines taken : Bool) {A : Option Addr} {c : Nat} {ks : List Rg} {w : World} (hx : Rgs w A ks) (hm : ks.length ≤ 1000) (ht : t.size ≤ 1048576) (h : Right ks) (hv : ¬ Utf.valid t.data.toList = true) :
    Calls Try.prog 21 #[.slice A ks.length c, .int .i64 n, .string t, .bool lines, .bool taken] w (KeepIs (kept ks n t lines taken) w) := by
  have NC := Lib.hid (ref21_Name n)
  have RC : Hid (Calls Try.prog 25 #[.slice A ks.length c] w fun e u => ∃ g, e = .returned (.slice (some ⟨g, 0, none⟩) 38 38) ∧ RBox w u g (row ks)) := (ref21_row_ok (c := c) hx (by unfold maxLen; omega) h (Below.refl _ w)).mono fun e u ⟨g, h1, h2, h3, h4⟩ => ⟨g, h1, h4, h2, h3⟩
  have VC : Hid (∀ u g R, RBox w u g R → Calls Try.prog 32 #[.string t] u fun e u' => e = .returned (.bool (Utf.valid t.data.toList)) ∧ RBox w u' g R) := fun u g R hu => (ref_Valid t (by omega) u).mono fun e u' h' => ⟨h'.1, hu.on h'.2⟩
  rw [Bool.eq_false_iff.2 hv] at VC
  have H : Hid (kept ks n t lines taken = ([], 1)) := by show _ = _; rw [kept, if_neg (fun e => hv e.2)]
  clear hx hm ht h hv NC
  go_enter Try.func21, Try.ntmps21
  go_wp2_with (first
    | (go_at_call 25; (with_reducible refine RC.out.mono ?_); rintro e u1 ⟨g, rfl, K1⟩)
    | (go_at_call 32; (with_reducible refine (VC.out _ _ _ K1).mono ?_); rintro e u2 ⟨rfl, K2⟩))
  go_ret2
  exact ⟨none, 0, by rw [H.out]; rfl, by rw [H.out]; exact Rgs.nil _ _, by rw [H.out]; exact Nat.zero_le _, K2.below⟩
set_option maxHeartbeats 4000000 in
set_option maxRecDepth 100000 in
theorem ref21_keep_noname (n : Int) (t : ByteArray) (lines taken : Bool) {A : Option Addr} {c : Nat} {ks : List Rg} {w : World} (hx : Rgs w A ks) (hm : ks.length ≤ 1000) (ht : t.size ≤ 1048576) (h : Right ks) (hv : Utf.valid t.data.toList = true) (h0 : nameN n = 0) :
    Calls Try.prog 21 #[.slice A ks.length c, .int .i64 n, .string t, .bool lines, .bool taken] w (KeepIs (kept ks n t lines taken) w) := by
  have NC := Lib.hid (ref21_Name n)
  have RC : Hid (Calls Try.prog 25 #[.slice A ks.length c] w fun e u => ∃ g, e = .returned (.slice (some ⟨g, 0, none⟩) 38 38) ∧ RBox w u g (row ks)) := (ref21_row_ok (c := c) hx (by unfold maxLen; omega) h (Below.refl _ w)).mono fun e u ⟨g, h1, h2, h3, h4⟩ => ⟨g, h1, h4, h2, h3⟩
  have VC : Hid (∀ u g R, RBox w u g R → Calls Try.prog 32 #[.string t] u fun e u' => e = .returned (.bool (Utf.valid t.data.toList)) ∧ RBox w u' g R) := fun u g R hu => (ref_Valid t (by omega) u).mono fun e u' h' => ⟨h'.1, hu.on h'.2⟩
  rw [hv] at VC
  rw [h0] at NC
  have H : Hid (kept ks n t lines taken = ([], 11)) := by show _ = _; rw [kept, if_pos ⟨h, hv⟩, if_pos h0]
  clear hx hm ht h hv h0
  go_enter Try.func21, Try.ntmps21
  go_wp2_with (first
    | (go_at_call 25; (with_reducible refine RC.out.mono ?_); rintro e u1 ⟨g, rfl, K1⟩)
    | (go_at_call 32; (with_reducible refine (VC.out _ _ _ K1).mono ?_); rintro e u2 ⟨rfl, K2⟩)
    | (go_at_call 18; (with_reducible refine (NC.out _).mono ?_); rintro e u9 ⟨rfl, rfl⟩))
  go_ret2
  exact ⟨none, 0, by rw [H.out]; rfl, by rw [H.out]; exact Rgs.nil _ _, by rw [H.out]; exact Nat.zero_le _, K2.below⟩
set_option maxHeartbeats 4000000 in
set_option maxRecDepth 100000 in
theorem ref21_keep_addT_big (n : Int) (t : ByteArray) (lines taken : Bool) {A : Option Addr} {c : Nat} {ks : List Rg} {w : World} (hx : Rgs w A ks) (hm : ks.length ≤ 1000) (ht : t.size ≤ 1048576) {z : Int} (h : Right ks) (hv : Utf.valid t.data.toList = true) (hz : nameN n = z) (h0 : z ≠ 0) (ha : 65 ≤ n ∧ n ≤ 90) {old : Rg} (hl : Reg.look ks z = some old) (hL : lines = true) (hs : ¬ (old.text ++ ({ data := #[10] } : ByteArray) ++ t).size ≤ 4096) :
    Calls Try.prog 21 #[.slice A ks.length c, .int .i64 n, .string t, .bool lines, .bool taken] w (KeepIs (kept ks n t lines taken) w) := by
  have NC := Lib.hid (ref21_Name n)
  subst hL
  have RC : Hid (Calls Try.prog 25 #[.slice A ks.length c] w fun e u => ∃ g, e = .returned (.slice (some ⟨g, 0, none⟩) 38 38) ∧ RBox w u g (row ks)) := (ref21_row_ok (c := c) hx (by unfold maxLen; omega) h (Below.refl _ w)).mono fun e u ⟨g, h1, h2, h3, h4⟩ => ⟨g, h1, h4, h2, h3⟩
  have VC : Hid (∀ u g R, RBox w u g R → Calls Try.prog 32 #[.string t] u fun e u' => e = .returned (.bool (Utf.valid t.data.toList)) ∧ RBox w u' g R) := fun u g R hu => (ref_Valid t (by omega) u).mono fun e u' h' => ⟨h'.1, hu.on h'.2⟩
  rw [hv] at VC
  rw [hz] at NC
  have AD : added ks n t true = (true, (old.text ++ ({ data := #[10] } : ByteArray) ++ t)) := by rw [added, if_pos ha, hz, hl]; show joined old true t = _; rw [joined, Bool.or_true, if_pos rfl]; rfl
  have H : Hid (kept ks n t true taken = ([], 8)) := big_of h hv hz h0 AD hs
  have hI : IsName z := hz ▸ nameN_is (by rw [hz]; exact h0)
  have hg : get ks n = (old, true) := get_some h (by rw [hz]; exact hl)
  have GC : Hid (∀ u g R, RBox w u g R → Calls Try.prog 14 #[.slice A ks.length c, .int .i64 n] u fun e u' => e = .returned (.tuple #[.agg #[.int .i64 old.name, .bool old.lines, .string old.text], .bool true]) ∧ RBox w u' g R) := fun u g R hu => (ref21_Get n (hx.below hu.below) (by unfold maxLen; omega)).mono fun e u' h' => ⟨by have := h'.1; rw [hg] at this; exact this, hu.on h'.2⟩
  have g0 : (z == 0) = false := by simpa using h0
  have d0 : decide (65 ≤ n) = true := decide_eq_true ha.1
  have d1 : decide (n ≤ 90) = true := decide_eq_true ha.2
  have ho4 : old.text.size ≤ 4096 := (h.2 old (look_mem hl)).1
  have g1 : decide ((4096 : Int) < ((old.text ++ ({ data := #[10] } : ByteArray) ++ t).size : Int)) = true := decide_eq_true (by omega)
  have hsz : (old.text ++ ({ data := #[10] } : ByteArray) ++ t).size = old.text.size + 1 + t.size := by rw [ByteArray.size_append, ByteArray.size_append]; rfl
  have g1b : decide ((4096 : Int) < (old.text.size : Int) + 1 + (t.size : Int)) = true := decide_eq_true (by omega)
  clear hx hm h hv hz h0 AD hg hs hl hI ha hsz
  go_enter Try.func21, Try.ntmps21
  go_wp2_with (first
    | (go_at_call 25; (with_reducible refine RC.out.mono ?_); rintro e u1 ⟨g, rfl, K1⟩)
    | (go_at_call 32; (with_reducible refine (VC.out _ _ _ K1).mono ?_); rintro e u2 ⟨rfl, K2⟩)
    | (go_at_call 18; (with_reducible refine (NC.out _).mono ?_); rintro e u9 ⟨rfl, rfl⟩)
    | (go_at_call 14; (with_reducible refine (GC.out _ _ _ K2).mono ?_); rintro e u3 ⟨rfl, K3⟩; replace K3 := K3.alloc (.cells #[.int .i64 old.name, .bool old.lines, .string old.text] 32)))
  go_ret2
  exact ⟨none, 0, by rw [H.out]; rfl, by rw [H.out]; exact Rgs.nil _ _, by rw [H.out]; exact Nat.zero_le _, K3.below⟩
set_option maxHeartbeats 4000000 in
set_option maxRecDepth 100000 in
theorem ref21_keep_addT (n : Int) (t : ByteArray) (lines taken : Bool) {A : Option Addr} {c : Nat} {ks : List Rg} {w : World} (hx : Rgs w A ks) (hm : ks.length ≤ 1000) (ht : t.size ≤ 1048576) {z : Int} (h : Right ks) (hv : Utf.valid t.data.toList = true) (hz : nameN n = z) (h0 : z ≠ 0) (ha : 65 ≤ n ∧ n ≤ 90) {old : Rg} (hl : Reg.look ks z = some old) (hL : lines = true) (hs : (old.text ++ ({ data := #[10] } : ByteArray) ++ t).size ≤ 4096) :
    Calls Try.prog 21 #[.slice A ks.length c, .int .i64 n, .string t, .bool lines, .bool taken] w (KeepIs (kept ks n t lines taken) w) := by
  have NC := Lib.hid (ref21_Name n)
  subst hL
  have RC : Hid (Calls Try.prog 25 #[.slice A ks.length c] w fun e u => ∃ g, e = .returned (.slice (some ⟨g, 0, none⟩) 38 38) ∧ RBox w u g (row ks)) := (ref21_row_ok (c := c) hx (by unfold maxLen; omega) h (Below.refl _ w)).mono fun e u ⟨g, h1, h2, h3, h4⟩ => ⟨g, h1, h4, h2, h3⟩
  have VC : Hid (∀ u g R, RBox w u g R → Calls Try.prog 32 #[.string t] u fun e u' => e = .returned (.bool (Utf.valid t.data.toList)) ∧ RBox w u' g R) := fun u g R hu => (ref_Valid t (by omega) u).mono fun e u' h' => ⟨h'.1, hu.on h'.2⟩
  rw [hv] at VC
  rw [hz] at NC
  have AD : added ks n t true = (true, (old.text ++ ({ data := #[10] } : ByteArray) ++ t)) := by rw [added, if_pos ha, hz, hl]; show joined old true t = _; rw [joined, Bool.or_true, if_pos rfl]; rfl
  obtain ⟨HK, n1, n2, hfit⟩ := fit_of (taken := taken) h hv hz h0 AD hs
  have hI : IsName z := hz ▸ nameN_is (by rw [hz]; exact h0)
  have hg : get ks n = (old, true) := get_some h (by rw [hz]; exact hl)
  have GC : Hid (∀ u g R, RBox w u g R → Calls Try.prog 14 #[.slice A ks.length c, .int .i64 n] u fun e u' => e = .returned (.tuple #[.agg #[.int .i64 old.name, .bool old.lines, .string old.text], .bool true]) ∧ RBox w u' g R) := fun u g R hu => (ref21_Get n (hx.below hu.below) (by unfold maxLen; omega)).mono fun e u' h' => ⟨by have := h'.1; rw [hg] at this; exact this, hu.on h'.2⟩
  have g0 : (z == 0) = false := by simpa using h0
  have d0 : decide (65 ≤ n) = true := decide_eq_true ha.1
  have d1 : decide (n ≤ 90) = true := decide_eq_true ha.2
  have ho4 : old.text.size ≤ 4096 := (h.2 old (look_mem hl)).1
  have g1 : decide ((4096 : Int) < ((old.text ++ ({ data := #[10] } : ByteArray) ++ t).size : Int)) = false := decide_eq_false (by omega)
  have hsz : (old.text ++ ({ data := #[10] } : ByteArray) ++ t).size = old.text.size + 1 + t.size := by rw [ByteArray.size_append, ByteArray.size_append]; rfl
  have g1b : decide ((4096 : Int) < (old.text.size : Int) + 1 + (t.size : Int)) = false := decide_eq_false (by omega)
  have h34 : ¬ z = 34 := by rw [← hz, nameN_add ha]; omega
  have g2 : (z != 34) = true := by simpa using h34
  have g3 : (z == 34) = false := by simpa using h34
  rw [if_neg h34] at HK
  have H := Lib.hid HK
  have PC1 : Hid (∀ u g, RBox w u g (row ks) → Calls Try.prog 33 #[.slice (some ⟨g, 0, none⟩) 38 38, .int .i64 z, .bool true, .string (old.text ++ ({ data := #[10] } : ByteArray) ++ t)] u fun e u' => e = .returned (.tuple #[]) ∧ RBox w u' g (row (put ks ⟨z, true, (old.text ++ ({ data := #[10] } : ByteArray) ++ t)⟩))) := fun u g hu => rbox_put z _ _ hu hI
  have PC2 : Hid (∀ u g, RBox w u g (row (put ks ⟨z, true, (old.text ++ ({ data := #[10] } : ByteArray) ++ t)⟩)) → Calls Try.prog 33 #[.slice (some ⟨g, 0, none⟩) 38 38, .int .i64 34, .bool true, .string (old.text ++ ({ data := #[10] } : ByteArray) ++ t)] u fun e u' => e = .returned (.tuple #[]) ∧ RBox w u' g (row (put (put ks ⟨z, true, (old.text ++ ({ data := #[10] } : ByteArray) ++ t)⟩) ⟨34, true, (old.text ++ ({ data := #[10] } : ByteArray) ++ t)⟩))) := fun u g hu => rbox_put 34 _ _ hu (.inl rfl)
  have FC : Hid (∀ u g, RBox w u g (row (put (put ks ⟨z, true, (old.text ++ ({ data := #[10] } : ByteArray) ++ t)⟩) ⟨34, true, (old.text ++ ({ data := #[10] } : ByteArray) ++ t)⟩)) → Calls Try.prog 34 #[.slice (some ⟨g, 0, none⟩) 38 38] u fun e u' => ∃ (A : Option Addr) (c : Nat), e = .returned (.slice A (put (put ks ⟨z, true, (old.text ++ ({ data := #[10] } : ByteArray) ++ t)⟩) ⟨34, true, (old.text ++ ({ data := #[10] } : ByteArray) ++ t)⟩).length c) ∧ Rgs u' A (put (put ks ⟨z, true, (old.text ++ ({ data := #[10] } : ByteArray) ++ t)⟩) ⟨34, true, (old.text ++ ({ data := #[10] } : ByteArray) ++ t)⟩) ∧ (put (put ks ⟨z, true, (old.text ++ ({ data := #[10] } : ByteArray) ++ t)⟩) ⟨34, true, (old.text ++ ({ data := #[10] } : ByteArray) ++ t)⟩).length ≤ c ∧ Below w.heap.size w u') := fun u g hu => rbox_flat hu n2
  clear hx hm h hv hz h0 AD hg hs hl hI ha hsz HK n1 n2 hfit h34
  generalize hLg : (put (put ks ⟨z, true, (old.text ++ ({ data := #[10] } : ByteArray) ++ t)⟩) ⟨34, true, (old.text ++ ({ data := #[10] } : ByteArray) ++ t)⟩) = L at *
  go_enter Try.func21, Try.ntmps21
  go_wp2_with (first
    | (go_at_call 25; (with_reducible refine RC.out.mono ?_); rintro e u1 ⟨g, rfl, K1⟩)
    | (go_at_call 32; (with_reducible refine (VC.out _ _ _ K1).mono ?_); rintro e u2 ⟨rfl, K2⟩)
    | (go_at_call 18; (with_reducible refine (NC.out _).mono ?_); rintro e u9 ⟨rfl, rfl⟩)
    | (go_at_call 14; (with_reducible refine (GC.out _ _ _ K2).mono ?_); rintro e u3 ⟨rfl, K3⟩; replace K3 := K3.alloc (.cells #[.int .i64 old.name, .bool old.lines, .string old.text] 32))
    | (go_at_call 33; (with_reducible refine (PC1.out _ _ K3).mono ?_); rintro e u4 ⟨rfl, K4⟩)
    | (go_at_call 33; (with_reducible refine (PC2.out _ _ K4).mono ?_); rintro e u5 ⟨rfl, K5⟩)
    | (go_at_call 34; (with_reducible refine (FC.out _ _ K5).mono ?_); rintro e u7 ⟨A7, c7, rfl, h1, h2, h3⟩))
  go_ret2
  exact ⟨A7, c7, by rw [H.out]; rfl, by rw [H.out]; exact h1, by rw [H.out]; exact h2, h3⟩
set_option maxHeartbeats 4000000 in
set_option maxRecDepth 100000 in
theorem ref21_keep_addF_big (n : Int) (t : ByteArray) (lines taken : Bool) {A : Option Addr} {c : Nat} {ks : List Rg} {w : World} (hx : Rgs w A ks) (hm : ks.length ≤ 1000) (ht : t.size ≤ 1048576) {z : Int} (h : Right ks) (hv : Utf.valid t.data.toList = true) (hz : nameN n = z) (h0 : z ≠ 0) (ha : 65 ≤ n ∧ n ≤ 90) {on : Int} {ot : ByteArray} (hl : Reg.look ks z = some ⟨on, true, ot⟩) (hL : lines = false) (hs : ¬ (ot ++ ({ data := #[10] } : ByteArray) ++ t).size ≤ 4096) :
    Calls Try.prog 21 #[.slice A ks.length c, .int .i64 n, .string t, .bool lines, .bool taken] w (KeepIs (kept ks n t lines taken) w) := by
  have NC := Lib.hid (ref21_Name n)
  subst hL
  have RC : Hid (Calls Try.prog 25 #[.slice A ks.length c] w fun e u => ∃ g, e = .returned (.slice (some ⟨g, 0, none⟩) 38 38) ∧ RBox w u g (row ks)) := (ref21_row_ok (c := c) hx (by unfold maxLen; omega) h (Below.refl _ w)).mono fun e u ⟨g, h1, h2, h3, h4⟩ => ⟨g, h1, h4, h2, h3⟩
  have VC : Hid (∀ u g R, RBox w u g R → Calls Try.prog 32 #[.string t] u fun e u' => e = .returned (.bool (Utf.valid t.data.toList)) ∧ RBox w u' g R) := fun u g R hu => (ref_Valid t (by omega) u).mono fun e u' h' => ⟨h'.1, hu.on h'.2⟩
  rw [hv] at VC
  rw [hz] at NC
  have AD : added ks n t false = (true, (ot ++ ({ data := #[10] } : ByteArray) ++ t)) := by rw [added, if_pos ha, hz, hl]; rfl
  have H : Hid (kept ks n t false taken = ([], 8)) := big_of h hv hz h0 AD hs
  have hI : IsName z := hz ▸ nameN_is (by rw [hz]; exact h0)
  have hg : get ks n = (⟨on, true, ot⟩, true) := get_some h (by rw [hz]; exact hl)
  have GC : Hid (∀ u g R, RBox w u g R → Calls Try.prog 14 #[.slice A ks.length c, .int .i64 n] u fun e u' => e = .returned (.tuple #[.agg #[.int .i64 on, .bool true, .string ot], .bool true]) ∧ RBox w u' g R) := fun u g R hu => (ref21_Get n (hx.below hu.below) (by unfold maxLen; omega)).mono fun e u' h' => ⟨by have := h'.1; rw [hg] at this; exact this, hu.on h'.2⟩
  have g0 : (z == 0) = false := by simpa using h0
  have d0 : decide (65 ≤ n) = true := decide_eq_true ha.1
  have d1 : decide (n ≤ 90) = true := decide_eq_true ha.2
  have ho4 : ot.size ≤ 4096 := (h.2 ⟨on, true, ot⟩ (look_mem hl)).1
  have g1 : decide ((4096 : Int) < ((ot ++ ({ data := #[10] } : ByteArray) ++ t).size : Int)) = true := decide_eq_true (by omega)
  have hsz : (ot ++ ({ data := #[10] } : ByteArray) ++ t).size = ot.size + 1 + t.size := by rw [ByteArray.size_append, ByteArray.size_append]; rfl
  have g1b : decide ((4096 : Int) < (ot.size : Int) + 1 + (t.size : Int)) = true := decide_eq_true (by omega)
  clear hx hm h hv hz h0 AD hg hs hl hI ha hsz
  go_enter Try.func21, Try.ntmps21
  go_wp2_with (first
    | (go_at_call 25; (with_reducible refine RC.out.mono ?_); rintro e u1 ⟨g, rfl, K1⟩)
    | (go_at_call 32; (with_reducible refine (VC.out _ _ _ K1).mono ?_); rintro e u2 ⟨rfl, K2⟩)
    | (go_at_call 18; (with_reducible refine (NC.out _).mono ?_); rintro e u9 ⟨rfl, rfl⟩)
    | (go_at_call 14; (with_reducible refine (GC.out _ _ _ K2).mono ?_); rintro e u3 ⟨rfl, K3⟩; replace K3 := K3.alloc (.cells #[.int .i64 on, .bool true, .string ot] 32)))
  go_ret2
  exact ⟨none, 0, by rw [H.out]; rfl, by rw [H.out]; exact Rgs.nil _ _, by rw [H.out]; exact Nat.zero_le _, K3.below⟩
set_option maxHeartbeats 4000000 in
set_option maxRecDepth 100000 in
theorem ref21_keep_addF (n : Int) (t : ByteArray) (lines taken : Bool) {A : Option Addr} {c : Nat} {ks : List Rg} {w : World} (hx : Rgs w A ks) (hm : ks.length ≤ 1000) (ht : t.size ≤ 1048576) {z : Int} (h : Right ks) (hv : Utf.valid t.data.toList = true) (hz : nameN n = z) (h0 : z ≠ 0) (ha : 65 ≤ n ∧ n ≤ 90) {on : Int} {ot : ByteArray} (hl : Reg.look ks z = some ⟨on, true, ot⟩) (hL : lines = false) (hs : (ot ++ ({ data := #[10] } : ByteArray) ++ t).size ≤ 4096) :
    Calls Try.prog 21 #[.slice A ks.length c, .int .i64 n, .string t, .bool lines, .bool taken] w (KeepIs (kept ks n t lines taken) w) := by
  have NC := Lib.hid (ref21_Name n)
  subst hL
  have RC : Hid (Calls Try.prog 25 #[.slice A ks.length c] w fun e u => ∃ g, e = .returned (.slice (some ⟨g, 0, none⟩) 38 38) ∧ RBox w u g (row ks)) := (ref21_row_ok (c := c) hx (by unfold maxLen; omega) h (Below.refl _ w)).mono fun e u ⟨g, h1, h2, h3, h4⟩ => ⟨g, h1, h4, h2, h3⟩
  have VC : Hid (∀ u g R, RBox w u g R → Calls Try.prog 32 #[.string t] u fun e u' => e = .returned (.bool (Utf.valid t.data.toList)) ∧ RBox w u' g R) := fun u g R hu => (ref_Valid t (by omega) u).mono fun e u' h' => ⟨h'.1, hu.on h'.2⟩
  rw [hv] at VC
  rw [hz] at NC
  have AD : added ks n t false = (true, (ot ++ ({ data := #[10] } : ByteArray) ++ t)) := by rw [added, if_pos ha, hz, hl]; rfl
  obtain ⟨HK, n1, n2, hfit⟩ := fit_of (taken := taken) h hv hz h0 AD hs
  have hI : IsName z := hz ▸ nameN_is (by rw [hz]; exact h0)
  have hg : get ks n = (⟨on, true, ot⟩, true) := get_some h (by rw [hz]; exact hl)
  have GC : Hid (∀ u g R, RBox w u g R → Calls Try.prog 14 #[.slice A ks.length c, .int .i64 n] u fun e u' => e = .returned (.tuple #[.agg #[.int .i64 on, .bool true, .string ot], .bool true]) ∧ RBox w u' g R) := fun u g R hu => (ref21_Get n (hx.below hu.below) (by unfold maxLen; omega)).mono fun e u' h' => ⟨by have := h'.1; rw [hg] at this; exact this, hu.on h'.2⟩
  have g0 : (z == 0) = false := by simpa using h0
  have d0 : decide (65 ≤ n) = true := decide_eq_true ha.1
  have d1 : decide (n ≤ 90) = true := decide_eq_true ha.2
  have ho4 : ot.size ≤ 4096 := (h.2 ⟨on, true, ot⟩ (look_mem hl)).1
  have g1 : decide ((4096 : Int) < ((ot ++ ({ data := #[10] } : ByteArray) ++ t).size : Int)) = false := decide_eq_false (by omega)
  have hsz : (ot ++ ({ data := #[10] } : ByteArray) ++ t).size = ot.size + 1 + t.size := by rw [ByteArray.size_append, ByteArray.size_append]; rfl
  have g1b : decide ((4096 : Int) < (ot.size : Int) + 1 + (t.size : Int)) = false := decide_eq_false (by omega)
  have h34 : ¬ z = 34 := by rw [← hz, nameN_add ha]; omega
  have g2 : (z != 34) = true := by simpa using h34
  have g3 : (z == 34) = false := by simpa using h34
  rw [if_neg h34] at HK
  have H := Lib.hid HK
  have PC1 : Hid (∀ u g, RBox w u g (row ks) → Calls Try.prog 33 #[.slice (some ⟨g, 0, none⟩) 38 38, .int .i64 z, .bool true, .string (ot ++ ({ data := #[10] } : ByteArray) ++ t)] u fun e u' => e = .returned (.tuple #[]) ∧ RBox w u' g (row (put ks ⟨z, true, (ot ++ ({ data := #[10] } : ByteArray) ++ t)⟩))) := fun u g hu => rbox_put z _ _ hu hI
  have PC2 : Hid (∀ u g, RBox w u g (row (put ks ⟨z, true, (ot ++ ({ data := #[10] } : ByteArray) ++ t)⟩)) → Calls Try.prog 33 #[.slice (some ⟨g, 0, none⟩) 38 38, .int .i64 34, .bool true, .string (ot ++ ({ data := #[10] } : ByteArray) ++ t)] u fun e u' => e = .returned (.tuple #[]) ∧ RBox w u' g (row (put (put ks ⟨z, true, (ot ++ ({ data := #[10] } : ByteArray) ++ t)⟩) ⟨34, true, (ot ++ ({ data := #[10] } : ByteArray) ++ t)⟩))) := fun u g hu => rbox_put 34 _ _ hu (.inl rfl)
  have FC : Hid (∀ u g, RBox w u g (row (put (put ks ⟨z, true, (ot ++ ({ data := #[10] } : ByteArray) ++ t)⟩) ⟨34, true, (ot ++ ({ data := #[10] } : ByteArray) ++ t)⟩)) → Calls Try.prog 34 #[.slice (some ⟨g, 0, none⟩) 38 38] u fun e u' => ∃ (A : Option Addr) (c : Nat), e = .returned (.slice A (put (put ks ⟨z, true, (ot ++ ({ data := #[10] } : ByteArray) ++ t)⟩) ⟨34, true, (ot ++ ({ data := #[10] } : ByteArray) ++ t)⟩).length c) ∧ Rgs u' A (put (put ks ⟨z, true, (ot ++ ({ data := #[10] } : ByteArray) ++ t)⟩) ⟨34, true, (ot ++ ({ data := #[10] } : ByteArray) ++ t)⟩) ∧ (put (put ks ⟨z, true, (ot ++ ({ data := #[10] } : ByteArray) ++ t)⟩) ⟨34, true, (ot ++ ({ data := #[10] } : ByteArray) ++ t)⟩).length ≤ c ∧ Below w.heap.size w u') := fun u g hu => rbox_flat hu n2
  clear hx hm h hv hz h0 AD hg hs hl hI ha hsz HK n1 n2 hfit h34
  generalize hLg : (put (put ks ⟨z, true, (ot ++ ({ data := #[10] } : ByteArray) ++ t)⟩) ⟨34, true, (ot ++ ({ data := #[10] } : ByteArray) ++ t)⟩) = L at *
  go_enter Try.func21, Try.ntmps21
  go_wp2_with (first
    | (go_at_call 25; (with_reducible refine RC.out.mono ?_); rintro e u1 ⟨g, rfl, K1⟩)
    | (go_at_call 32; (with_reducible refine (VC.out _ _ _ K1).mono ?_); rintro e u2 ⟨rfl, K2⟩)
    | (go_at_call 18; (with_reducible refine (NC.out _).mono ?_); rintro e u9 ⟨rfl, rfl⟩)
    | (go_at_call 14; (with_reducible refine (GC.out _ _ _ K2).mono ?_); rintro e u3 ⟨rfl, K3⟩; replace K3 := K3.alloc (.cells #[.int .i64 on, .bool true, .string ot] 32))
    | (go_at_call 33; (with_reducible refine (PC1.out _ _ K3).mono ?_); rintro e u4 ⟨rfl, K4⟩)
    | (go_at_call 33; (with_reducible refine (PC2.out _ _ K4).mono ?_); rintro e u5 ⟨rfl, K5⟩)
    | (go_at_call 34; (with_reducible refine (FC.out _ _ K5).mono ?_); rintro e u7 ⟨A7, c7, rfl, h1, h2, h3⟩))
  go_ret2
  exact ⟨A7, c7, by rw [H.out]; rfl, by rw [H.out]; exact h1, by rw [H.out]; exact h2, h3⟩
set_option maxHeartbeats 4000000 in
set_option maxRecDepth 100000 in
theorem ref21_keep_addN_big (n : Int) (t : ByteArray) (lines taken : Bool) {A : Option Addr} {c : Nat} {ks : List Rg} {w : World} (hx : Rgs w A ks) (hm : ks.length ≤ 1000) (ht : t.size ≤ 1048576) {z : Int} (h : Right ks) (hv : Utf.valid t.data.toList = true) (hz : nameN n = z) (h0 : z ≠ 0) (ha : 65 ≤ n ∧ n ≤ 90) {on : Int} {ot : ByteArray} (hl : Reg.look ks z = some ⟨on, false, ot⟩) (hL : lines = false) (hs : ¬ (ot ++ t).size ≤ 4096) :
    Calls Try.prog 21 #[.slice A ks.length c, .int .i64 n, .string t, .bool lines, .bool taken] w (KeepIs (kept ks n t lines taken) w) := by
  have NC := Lib.hid (ref21_Name n)
  subst hL
  have RC : Hid (Calls Try.prog 25 #[.slice A ks.length c] w fun e u => ∃ g, e = .returned (.slice (some ⟨g, 0, none⟩) 38 38) ∧ RBox w u g (row ks)) := (ref21_row_ok (c := c) hx (by unfold maxLen; omega) h (Below.refl _ w)).mono fun e u ⟨g, h1, h2, h3, h4⟩ => ⟨g, h1, h4, h2, h3⟩
  have VC : Hid (∀ u g R, RBox w u g R → Calls Try.prog 32 #[.string t] u fun e u' => e = .returned (.bool (Utf.valid t.data.toList)) ∧ RBox w u' g R) := fun u g R hu => (ref_Valid t (by omega) u).mono fun e u' h' => ⟨h'.1, hu.on h'.2⟩
  rw [hv] at VC
  rw [hz] at NC
  have AD : added ks n t false = (false, (ot ++ t)) := by rw [added, if_pos ha, hz, hl]; rfl
  have H : Hid (kept ks n t false taken = ([], 8)) := big_of h hv hz h0 AD hs
  have hI : IsName z := hz ▸ nameN_is (by rw [hz]; exact h0)
  have hg : get ks n = (⟨on, false, ot⟩, true) := get_some h (by rw [hz]; exact hl)
  have GC : Hid (∀ u g R, RBox w u g R → Calls Try.prog 14 #[.slice A ks.length c, .int .i64 n] u fun e u' => e = .returned (.tuple #[.agg #[.int .i64 on, .bool false, .string ot], .bool true]) ∧ RBox w u' g R) := fun u g R hu => (ref21_Get n (hx.below hu.below) (by unfold maxLen; omega)).mono fun e u' h' => ⟨by have := h'.1; rw [hg] at this; exact this, hu.on h'.2⟩
  have g0 : (z == 0) = false := by simpa using h0
  have d0 : decide (65 ≤ n) = true := decide_eq_true ha.1
  have d1 : decide (n ≤ 90) = true := decide_eq_true ha.2
  have ho4 : ot.size ≤ 4096 := (h.2 ⟨on, false, ot⟩ (look_mem hl)).1
  have g1 : decide ((4096 : Int) < ((ot ++ t).size : Int)) = true := decide_eq_true (by omega)
  have hsz : (ot ++ t).size = ot.size + t.size := by rw [ByteArray.size_append]
  have g1b : decide ((4096 : Int) < (ot.size : Int) + (t.size : Int)) = true := decide_eq_true (by omega)
  clear hx hm h hv hz h0 AD hg hs hl hI ha hsz
  go_enter Try.func21, Try.ntmps21
  go_wp2_with (first
    | (go_at_call 25; (with_reducible refine RC.out.mono ?_); rintro e u1 ⟨g, rfl, K1⟩)
    | (go_at_call 32; (with_reducible refine (VC.out _ _ _ K1).mono ?_); rintro e u2 ⟨rfl, K2⟩)
    | (go_at_call 18; (with_reducible refine (NC.out _).mono ?_); rintro e u9 ⟨rfl, rfl⟩)
    | (go_at_call 14; (with_reducible refine (GC.out _ _ _ K2).mono ?_); rintro e u3 ⟨rfl, K3⟩; replace K3 := K3.alloc (.cells #[.int .i64 on, .bool false, .string ot] 32)))
  go_ret2
  exact ⟨none, 0, by rw [H.out]; rfl, by rw [H.out]; exact Rgs.nil _ _, by rw [H.out]; exact Nat.zero_le _, K3.below⟩
set_option maxHeartbeats 4000000 in
set_option maxRecDepth 100000 in
theorem ref21_keep_addN (n : Int) (t : ByteArray) (lines taken : Bool) {A : Option Addr} {c : Nat} {ks : List Rg} {w : World} (hx : Rgs w A ks) (hm : ks.length ≤ 1000) (ht : t.size ≤ 1048576) {z : Int} (h : Right ks) (hv : Utf.valid t.data.toList = true) (hz : nameN n = z) (h0 : z ≠ 0) (ha : 65 ≤ n ∧ n ≤ 90) {on : Int} {ot : ByteArray} (hl : Reg.look ks z = some ⟨on, false, ot⟩) (hL : lines = false) (hs : (ot ++ t).size ≤ 4096) :
    Calls Try.prog 21 #[.slice A ks.length c, .int .i64 n, .string t, .bool lines, .bool taken] w (KeepIs (kept ks n t lines taken) w) := by
  have NC := Lib.hid (ref21_Name n)
  subst hL
  have RC : Hid (Calls Try.prog 25 #[.slice A ks.length c] w fun e u => ∃ g, e = .returned (.slice (some ⟨g, 0, none⟩) 38 38) ∧ RBox w u g (row ks)) := (ref21_row_ok (c := c) hx (by unfold maxLen; omega) h (Below.refl _ w)).mono fun e u ⟨g, h1, h2, h3, h4⟩ => ⟨g, h1, h4, h2, h3⟩
  have VC : Hid (∀ u g R, RBox w u g R → Calls Try.prog 32 #[.string t] u fun e u' => e = .returned (.bool (Utf.valid t.data.toList)) ∧ RBox w u' g R) := fun u g R hu => (ref_Valid t (by omega) u).mono fun e u' h' => ⟨h'.1, hu.on h'.2⟩
  rw [hv] at VC
  rw [hz] at NC
  have AD : added ks n t false = (false, (ot ++ t)) := by rw [added, if_pos ha, hz, hl]; rfl
  obtain ⟨HK, n1, n2, hfit⟩ := fit_of (taken := taken) h hv hz h0 AD hs
  have hI : IsName z := hz ▸ nameN_is (by rw [hz]; exact h0)
  have hg : get ks n = (⟨on, false, ot⟩, true) := get_some h (by rw [hz]; exact hl)
  have GC : Hid (∀ u g R, RBox w u g R → Calls Try.prog 14 #[.slice A ks.length c, .int .i64 n] u fun e u' => e = .returned (.tuple #[.agg #[.int .i64 on, .bool false, .string ot], .bool true]) ∧ RBox w u' g R) := fun u g R hu => (ref21_Get n (hx.below hu.below) (by unfold maxLen; omega)).mono fun e u' h' => ⟨by have := h'.1; rw [hg] at this; exact this, hu.on h'.2⟩
  have g0 : (z == 0) = false := by simpa using h0
  have d0 : decide (65 ≤ n) = true := decide_eq_true ha.1
  have d1 : decide (n ≤ 90) = true := decide_eq_true ha.2
  have ho4 : ot.size ≤ 4096 := (h.2 ⟨on, false, ot⟩ (look_mem hl)).1
  have g1 : decide ((4096 : Int) < ((ot ++ t).size : Int)) = false := decide_eq_false (by omega)
  have hsz : (ot ++ t).size = ot.size + t.size := by rw [ByteArray.size_append]
  have g1b : decide ((4096 : Int) < (ot.size : Int) + (t.size : Int)) = false := decide_eq_false (by omega)
  have h34 : ¬ z = 34 := by rw [← hz, nameN_add ha]; omega
  have g2 : (z != 34) = true := by simpa using h34
  have g3 : (z == 34) = false := by simpa using h34
  rw [if_neg h34] at HK
  have H := Lib.hid HK
  have PC1 : Hid (∀ u g, RBox w u g (row ks) → Calls Try.prog 33 #[.slice (some ⟨g, 0, none⟩) 38 38, .int .i64 z, .bool false, .string (ot ++ t)] u fun e u' => e = .returned (.tuple #[]) ∧ RBox w u' g (row (put ks ⟨z, false, (ot ++ t)⟩))) := fun u g hu => rbox_put z _ _ hu hI
  have PC2 : Hid (∀ u g, RBox w u g (row (put ks ⟨z, false, (ot ++ t)⟩)) → Calls Try.prog 33 #[.slice (some ⟨g, 0, none⟩) 38 38, .int .i64 34, .bool false, .string (ot ++ t)] u fun e u' => e = .returned (.tuple #[]) ∧ RBox w u' g (row (put (put ks ⟨z, false, (ot ++ t)⟩) ⟨34, false, (ot ++ t)⟩))) := fun u g hu => rbox_put 34 _ _ hu (.inl rfl)
  have FC : Hid (∀ u g, RBox w u g (row (put (put ks ⟨z, false, (ot ++ t)⟩) ⟨34, false, (ot ++ t)⟩)) → Calls Try.prog 34 #[.slice (some ⟨g, 0, none⟩) 38 38] u fun e u' => ∃ (A : Option Addr) (c : Nat), e = .returned (.slice A (put (put ks ⟨z, false, (ot ++ t)⟩) ⟨34, false, (ot ++ t)⟩).length c) ∧ Rgs u' A (put (put ks ⟨z, false, (ot ++ t)⟩) ⟨34, false, (ot ++ t)⟩) ∧ (put (put ks ⟨z, false, (ot ++ t)⟩) ⟨34, false, (ot ++ t)⟩).length ≤ c ∧ Below w.heap.size w u') := fun u g hu => rbox_flat hu n2
  clear hx hm h hv hz h0 AD hg hs hl hI ha hsz HK n1 n2 hfit h34
  generalize hLg : (put (put ks ⟨z, false, (ot ++ t)⟩) ⟨34, false, (ot ++ t)⟩) = L at *
  go_enter Try.func21, Try.ntmps21
  go_wp2_with (first
    | (go_at_call 25; (with_reducible refine RC.out.mono ?_); rintro e u1 ⟨g, rfl, K1⟩)
    | (go_at_call 32; (with_reducible refine (VC.out _ _ _ K1).mono ?_); rintro e u2 ⟨rfl, K2⟩)
    | (go_at_call 18; (with_reducible refine (NC.out _).mono ?_); rintro e u9 ⟨rfl, rfl⟩)
    | (go_at_call 14; (with_reducible refine (GC.out _ _ _ K2).mono ?_); rintro e u3 ⟨rfl, K3⟩; replace K3 := K3.alloc (.cells #[.int .i64 on, .bool false, .string ot] 32))
    | (go_at_call 33; (with_reducible refine (PC1.out _ _ K3).mono ?_); rintro e u4 ⟨rfl, K4⟩)
    | (go_at_call 33; (with_reducible refine (PC2.out _ _ K4).mono ?_); rintro e u5 ⟨rfl, K5⟩)
    | (go_at_call 34; (with_reducible refine (FC.out _ _ K5).mono ?_); rintro e u7 ⟨A7, c7, rfl, h1, h2, h3⟩))
  go_ret2
  exact ⟨A7, c7, by rw [H.out]; rfl, by rw [H.out]; exact h1, by rw [H.out]; exact h2, h3⟩
set_option maxHeartbeats 4000000 in
set_option maxRecDepth 100000 in
theorem ref21_keep_hasL_big (n : Int) (t : ByteArray) (lines taken : Bool) {A : Option Addr} {c : Nat} {ks : List Rg} {w : World} (hx : Rgs w A ks) (hm : ks.length ≤ 1000) (ht : t.size ≤ 1048576) {z : Int} (h : Right ks) (hv : Utf.valid t.data.toList = true) (hz : nameN n = z) (h0 : z ≠ 0) (ha : n < 65) {old : Rg} (hl : Reg.look ks z = some old) (hs : ¬ t.size ≤ 4096) :
    Calls Try.prog 21 #[.slice A ks.length c, .int .i64 n, .string t, .bool lines, .bool taken] w (KeepIs (kept ks n t lines taken) w) := by
  have NC := Lib.hid (ref21_Name n)
  have RC : Hid (Calls Try.prog 25 #[.slice A ks.length c] w fun e u => ∃ g, e = .returned (.slice (some ⟨g, 0, none⟩) 38 38) ∧ RBox w u g (row ks)) := (ref21_row_ok (c := c) hx (by unfold maxLen; omega) h (Below.refl _ w)).mono fun e u ⟨g, h1, h2, h3, h4⟩ => ⟨g, h1, h4, h2, h3⟩
  have VC : Hid (∀ u g R, RBox w u g R → Calls Try.prog 32 #[.string t] u fun e u' => e = .returned (.bool (Utf.valid t.data.toList)) ∧ RBox w u' g R) := fun u g R hu => (ref_Valid t (by omega) u).mono fun e u' h' => ⟨h'.1, hu.on h'.2⟩
  rw [hv] at VC
  rw [hz] at NC
  have AD : added ks n t lines = (lines, t) := by rw [added, if_neg (by omega)]
  have H : Hid (kept ks n t lines taken = ([], 8)) := big_of h hv hz h0 AD hs
  have hI : IsName z := hz ▸ nameN_is (by rw [hz]; exact h0)
  have hg : get ks n = (old, true) := get_some h (by rw [hz]; exact hl)
  have GC : Hid (∀ u g R, RBox w u g R → Calls Try.prog 14 #[.slice A ks.length c, .int .i64 n] u fun e u' => e = .returned (.tuple #[.agg #[.int .i64 old.name, .bool old.lines, .string old.text], .bool true]) ∧ RBox w u' g R) := fun u g R hu => (ref21_Get n (hx.below hu.below) (by unfold maxLen; omega)).mono fun e u' h' => ⟨by have := h'.1; rw [hg] at this; exact this, hu.on h'.2⟩
  have g0 : (z == 0) = false := by simpa using h0
  have d0 : decide (65 ≤ n) = false := decide_eq_false (by omega)
  have g1 : decide ((4096 : Int) < (t.size : Int)) = true := decide_eq_true (by omega)
  clear hx hm ht h hv hz h0 AD hg hs hl hI ha
  go_enter Try.func21, Try.ntmps21
  go_wp2_with (first
    | (go_at_call 25; (with_reducible refine RC.out.mono ?_); rintro e u1 ⟨g, rfl, K1⟩)
    | (go_at_call 32; (with_reducible refine (VC.out _ _ _ K1).mono ?_); rintro e u2 ⟨rfl, K2⟩)
    | (go_at_call 18; (with_reducible refine (NC.out _).mono ?_); rintro e u9 ⟨rfl, rfl⟩)
    | (go_at_call 14; (with_reducible refine (GC.out _ _ _ K2).mono ?_); rintro e u3 ⟨rfl, K3⟩; replace K3 := K3.alloc (.cells #[.int .i64 old.name, .bool old.lines, .string old.text] 32)))
  go_ret2
  exact ⟨none, 0, by rw [H.out]; rfl, by rw [H.out]; exact Rgs.nil _ _, by rw [H.out]; exact Nat.zero_le _, K3.below⟩
set_option maxHeartbeats 4000000 in
set_option maxRecDepth 100000 in
theorem ref21_keep_hasL (n : Int) (t : ByteArray) (lines taken : Bool) {A : Option Addr} {c : Nat} {ks : List Rg} {w : World} (hx : Rgs w A ks) (hm : ks.length ≤ 1000) (ht : t.size ≤ 1048576) {z : Int} (h : Right ks) (hv : Utf.valid t.data.toList = true) (hz : nameN n = z) (h0 : z ≠ 0) (ha : n < 65) {old : Rg} (hl : Reg.look ks z = some old) (hs : t.size ≤ 4096) (h34 : ¬ z = 34) :
    Calls Try.prog 21 #[.slice A ks.length c, .int .i64 n, .string t, .bool lines, .bool taken] w (KeepIs (kept ks n t lines taken) w) := by
  have NC := Lib.hid (ref21_Name n)
  have RC : Hid (Calls Try.prog 25 #[.slice A ks.length c] w fun e u => ∃ g, e = .returned (.slice (some ⟨g, 0, none⟩) 38 38) ∧ RBox w u g (row ks)) := (ref21_row_ok (c := c) hx (by unfold maxLen; omega) h (Below.refl _ w)).mono fun e u ⟨g, h1, h2, h3, h4⟩ => ⟨g, h1, h4, h2, h3⟩
  have VC : Hid (∀ u g R, RBox w u g R → Calls Try.prog 32 #[.string t] u fun e u' => e = .returned (.bool (Utf.valid t.data.toList)) ∧ RBox w u' g R) := fun u g R hu => (ref_Valid t (by omega) u).mono fun e u' h' => ⟨h'.1, hu.on h'.2⟩
  rw [hv] at VC
  rw [hz] at NC
  have AD : added ks n t lines = (lines, t) := by rw [added, if_neg (by omega)]
  obtain ⟨HK, n1, n2, hfit⟩ := fit_of (taken := taken) h hv hz h0 AD hs
  have hI : IsName z := hz ▸ nameN_is (by rw [hz]; exact h0)
  have hg : get ks n = (old, true) := get_some h (by rw [hz]; exact hl)
  have GC : Hid (∀ u g R, RBox w u g R → Calls Try.prog 14 #[.slice A ks.length c, .int .i64 n] u fun e u' => e = .returned (.tuple #[.agg #[.int .i64 old.name, .bool old.lines, .string old.text], .bool true]) ∧ RBox w u' g R) := fun u g R hu => (ref21_Get n (hx.below hu.below) (by unfold maxLen; omega)).mono fun e u' h' => ⟨by have := h'.1; rw [hg] at this; exact this, hu.on h'.2⟩
  have g0 : (z == 0) = false := by simpa using h0
  have d0 : decide (65 ≤ n) = false := decide_eq_false (by omega)
  have g1 : decide ((4096 : Int) < (t.size : Int)) = false := decide_eq_false (by omega)
  have g2 : (z != 34) = true := by simpa using h34
  have g3 : (z == 34) = false := by simpa using h34
  rw [if_neg h34] at HK
  have H := Lib.hid HK
  have PC1 : Hid (∀ u g, RBox w u g (row ks) → Calls Try.prog 33 #[.slice (some ⟨g, 0, none⟩) 38 38, .int .i64 z, .bool lines, .string t] u fun e u' => e = .returned (.tuple #[]) ∧ RBox w u' g (row (put ks ⟨z, lines, t⟩))) := fun u g hu => rbox_put z _ _ hu hI
  have PC2 : Hid (∀ u g, RBox w u g (row (put ks ⟨z, lines, t⟩)) → Calls Try.prog 33 #[.slice (some ⟨g, 0, none⟩) 38 38, .int .i64 34, .bool lines, .string t] u fun e u' => e = .returned (.tuple #[]) ∧ RBox w u' g (row (put (put ks ⟨z, lines, t⟩) ⟨34, lines, t⟩))) := fun u g hu => rbox_put 34 _ _ hu (.inl rfl)
  have FC : Hid (∀ u g, RBox w u g (row (put (put ks ⟨z, lines, t⟩) ⟨34, lines, t⟩)) → Calls Try.prog 34 #[.slice (some ⟨g, 0, none⟩) 38 38] u fun e u' => ∃ (A : Option Addr) (c : Nat), e = .returned (.slice A (put (put ks ⟨z, lines, t⟩) ⟨34, lines, t⟩).length c) ∧ Rgs u' A (put (put ks ⟨z, lines, t⟩) ⟨34, lines, t⟩) ∧ (put (put ks ⟨z, lines, t⟩) ⟨34, lines, t⟩).length ≤ c ∧ Below w.heap.size w u') := fun u g hu => rbox_flat hu n2
  clear hx hm ht h hv hz h0 AD hg hs hl hI ha HK n1 n2 hfit h34
  generalize hLg : (put (put ks ⟨z, lines, t⟩) ⟨34, lines, t⟩) = L at *
  go_enter Try.func21, Try.ntmps21
  go_wp2_with (first
    | (go_at_call 25; (with_reducible refine RC.out.mono ?_); rintro e u1 ⟨g, rfl, K1⟩)
    | (go_at_call 32; (with_reducible refine (VC.out _ _ _ K1).mono ?_); rintro e u2 ⟨rfl, K2⟩)
    | (go_at_call 18; (with_reducible refine (NC.out _).mono ?_); rintro e u9 ⟨rfl, rfl⟩)
    | (go_at_call 14; (with_reducible refine (GC.out _ _ _ K2).mono ?_); rintro e u3 ⟨rfl, K3⟩; replace K3 := K3.alloc (.cells #[.int .i64 old.name, .bool old.lines, .string old.text] 32))
    | (go_at_call 33; (with_reducible refine (PC1.out _ _ K3).mono ?_); rintro e u4 ⟨rfl, K4⟩)
    | (go_at_call 33; (with_reducible refine (PC2.out _ _ K4).mono ?_); rintro e u5 ⟨rfl, K5⟩)
    | (go_at_call 34; (with_reducible refine (FC.out _ _ K5).mono ?_); rintro e u7 ⟨A7, c7, rfl, h1, h2, h3⟩))
  go_ret2
  exact ⟨A7, c7, by rw [H.out]; rfl, by rw [H.out]; exact h1, by rw [H.out]; exact h2, h3⟩
set_option maxHeartbeats 4000000 in
set_option maxRecDepth 100000 in
theorem ref21_keep_hasL_yank (n : Int) (t : ByteArray) (lines taken : Bool) {A : Option Addr} {c : Nat} {ks : List Rg} {w : World} (hx : Rgs w A ks) (hm : ks.length ≤ 1000) (ht : t.size ≤ 1048576) {z : Int} (h : Right ks) (hv : Utf.valid t.data.toList = true) (hz : nameN n = z) (h0 : z ≠ 0) (ha : n < 65) {old : Rg} (hl : Reg.look ks z = some old) (hs : t.size ≤ 4096) (h34 : z = 34) (hT : taken = false) :
    Calls Try.prog 21 #[.slice A ks.length c, .int .i64 n, .string t, .bool lines, .bool taken] w (KeepIs (kept ks n t lines taken) w) := by
  have NC := Lib.hid (ref21_Name n)
  subst hT
  have RC : Hid (Calls Try.prog 25 #[.slice A ks.length c] w fun e u => ∃ g, e = .returned (.slice (some ⟨g, 0, none⟩) 38 38) ∧ RBox w u g (row ks)) := (ref21_row_ok (c := c) hx (by unfold maxLen; omega) h (Below.refl _ w)).mono fun e u ⟨g, h1, h2, h3, h4⟩ => ⟨g, h1, h4, h2, h3⟩
  have VC : Hid (∀ u g R, RBox w u g R → Calls Try.prog 32 #[.string t] u fun e u' => e = .returned (.bool (Utf.valid t.data.toList)) ∧ RBox w u' g R) := fun u g R hu => (ref_Valid t (by omega) u).mono fun e u' h' => ⟨h'.1, hu.on h'.2⟩
  rw [hv] at VC
  rw [hz] at NC
  have AD : added ks n t lines = (lines, t) := by rw [added, if_neg (by omega)]
  obtain ⟨HK, n1, n2, hfit⟩ := fit_of (taken := false) h hv hz h0 AD hs
  have hI : IsName z := hz ▸ nameN_is (by rw [hz]; exact h0)
  have hg : get ks n = (old, true) := get_some h (by rw [hz]; exact hl)
  have GC : Hid (∀ u g R, RBox w u g R → Calls Try.prog 14 #[.slice A ks.length c, .int .i64 n] u fun e u' => e = .returned (.tuple #[.agg #[.int .i64 old.name, .bool old.lines, .string old.text], .bool true]) ∧ RBox w u' g R) := fun u g R hu => (ref21_Get n (hx.below hu.below) (by unfold maxLen; omega)).mono fun e u' h' => ⟨by have := h'.1; rw [hg] at this; exact this, hu.on h'.2⟩
  have g0 : (z == 0) = false := by simpa using h0
  have d0 : decide (65 ≤ n) = false := decide_eq_false (by omega)
  have g1 : decide ((4096 : Int) < (t.size : Int)) = false := decide_eq_false (by omega)
  have g2 : (z != 34) = false := by subst h34; rfl
  have g3 : (z == 34) = true := by subst h34; rfl
  rw [if_pos h34] at HK
  have H := Lib.hid HK
  have PC1 : Hid (∀ u g, RBox w u g (row ks) → Calls Try.prog 33 #[.slice (some ⟨g, 0, none⟩) 38 38, .int .i64 z, .bool lines, .string t] u fun e u' => e = .returned (.tuple #[]) ∧ RBox w u' g (row (put ks ⟨z, lines, t⟩))) := fun u g hu => rbox_put z _ _ hu hI
  have PC2 : Hid (∀ u g, RBox w u g (row (put ks ⟨z, lines, t⟩)) → Calls Try.prog 33 #[.slice (some ⟨g, 0, none⟩) 38 38, .int .i64 34, .bool lines, .string t] u fun e u' => e = .returned (.tuple #[]) ∧ RBox w u' g (row (put (put ks ⟨z, lines, t⟩) ⟨34, lines, t⟩))) := fun u g hu => rbox_put 34 _ _ hu (.inl rfl)
  have FC : Hid (∀ u g, RBox w u g (row (also (put (put ks ⟨z, lines, t⟩) ⟨34, lines, t⟩) lines t false)) → Calls Try.prog 34 #[.slice (some ⟨g, 0, none⟩) 38 38] u fun e u' => ∃ (A : Option Addr) (c : Nat), e = .returned (.slice A (also (put (put ks ⟨z, lines, t⟩) ⟨34, lines, t⟩) lines t false).length c) ∧ Rgs u' A (also (put (put ks ⟨z, lines, t⟩) ⟨34, lines, t⟩) lines t false) ∧ (also (put (put ks ⟨z, lines, t⟩) ⟨34, lines, t⟩) lines t false).length ≤ c ∧ Below w.heap.size w u') := fun u g hu => rbox_flat hu (also_nam n2 lines t false)
  have hA : also (put (put ks ⟨z, lines, t⟩) ⟨34, lines, t⟩) lines t false = put (put (put ks ⟨z, lines, t⟩) ⟨34, lines, t⟩) ⟨48, lines, t⟩ := rfl
  have PC3 : Hid (∀ u g, RBox w u g (row (put (put ks ⟨z, lines, t⟩) ⟨34, lines, t⟩)) → Calls Try.prog 33 #[.slice (some ⟨g, 0, none⟩) 38 38, .int .i64 48, .bool lines, .string t] u fun e u' => e = .returned (.tuple #[]) ∧ RBox w u' g (row (also (put (put ks ⟨z, lines, t⟩) ⟨34, lines, t⟩) lines t false))) := fun u g hu => by rw [hA]; exact rbox_put 48 _ _ hu (by decide)
  clear hA
  generalize hLg : (also (put (put ks ⟨z, lines, t⟩) ⟨34, lines, t⟩) lines t false) = L at *
  generalize hMg : (put (put ks ⟨z, lines, t⟩) ⟨34, lines, t⟩) = M at *
  have ht2 : t.size ≤ 9223372036854775807 := by omega
  clear hx hm ht h hv hz h0 AD hg hs hl hI ha HK n1 n2 hfit hLg hMg h34
  go_enter Try.func21, Try.ntmps21
  go_wp2_with (first
    | (go_at_call 25; (with_reducible refine RC.out.mono ?_); rintro e u1 ⟨g, rfl, K1⟩)
    | (go_at_call 32; (with_reducible refine (VC.out _ _ _ K1).mono ?_); rintro e u2 ⟨rfl, K2⟩)
    | (go_at_call 18; (with_reducible refine (NC.out _).mono ?_); rintro e u9 ⟨rfl, rfl⟩)
    | (go_at_call 14; (with_reducible refine (GC.out _ _ _ K2).mono ?_); rintro e u3 ⟨rfl, K3⟩; replace K3 := K3.alloc (.cells #[.int .i64 old.name, .bool old.lines, .string old.text] 32))
    | (go_at_call 33; (with_reducible refine (PC1.out _ _ K3).mono ?_); rintro e u4 ⟨rfl, K4⟩)
    | (go_at_call 33; (with_reducible refine (PC2.out _ _ K4).mono ?_); rintro e u5 ⟨rfl, K5⟩))
  go_loopw [18, 19] (fun fv iv wr => ∃ k : Nat, k ≤ t.size ∧ iv = .int .i64 k ∧ fv = .bool (feed t k) ∧ u5 = wr) (fun _ iv _ => t.size - (intOf iv).toNat)
  case atStart => exact ⟨0, Nat.zero_le _, rfl, by rw [feed_zero], rfl⟩
  case round =>
    obtain ⟨k, hk, rfl, rfl, rfl⟩ := hrel
    by_cases hlt : k < t.size
    · have hki : (k : Int) < t.size := by omega
      have hfs := feed_succ t hlt
      generalize hfk : feed t k = fk at *
      cases fk with
      | true =>
        rw [Bool.true_or] at hfs
        have HS := Lib.hid hfs
        clear hfs hfk
        go_wp2
        go_roundw
        case rel => exact ⟨k + 1, by omega, by go_num, by rw [HS.out], trivial⟩
        case measure => simp [intOf]; omega
      | false =>
        rw [Bool.false_or] at hfs
        by_cases hb : t[k].toNat = 10
        · have HS : Hid (feed t (k + 1) = true) := by show _ = _; rw [hfs, hb]; rfl
          have e1 : ((t[k].toNat : Int) == 10) = true := by rw [hb]; rfl
          clear hfs hfk hb
          go_wp2
          go_roundw
          case rel => exact ⟨k + 1, by omega, by go_num, by rw [HS.out], trivial⟩
          case measure => simp [intOf]; omega
        · have HS : Hid (feed t (k + 1) = false) := by show _ = _; rw [hfs]; simpa using hb
          have e1 : ((t[k].toNat : Int) == 10) = false := by simp; omega
          clear hfs hfk hb
          go_wp2
          go_roundw
          case rel => exact ⟨k + 1, by omega, by go_num, by rw [HS.out], trivial⟩
          case measure => simp [intOf]; omega
    · obtain rfl : k = t.size := by omega
      generalize feed t t.size = fd at *
      have KK := K5
      go_wp2_with (first
        | (go_at_call 33; (with_reducible refine (PC3.out _ _ KK).mono ?_); rintro e u6 ⟨rfl, K6⟩)
        | (go_at_call 34; (with_reducible refine (FC.out _ _ K6).mono ?_); rintro e u7 ⟨A7, c7, rfl, h1, h2, h3⟩))
      go_ret2
      exact ⟨A7, c7, by rw [H.out]; rfl, by rw [H.out]; exact h1, by rw [H.out]; exact h2, h3⟩
set_option maxHeartbeats 4000000 in
set_option maxRecDepth 100000 in
theorem ref21_keep_hasL_lines (n : Int) (t : ByteArray) (lines taken : Bool) {A : Option Addr} {c : Nat} {ks : List Rg} {w : World} (hx : Rgs w A ks) (hm : ks.length ≤ 1000) (ht : t.size ≤ 1048576) {z : Int} (h : Right ks) (hv : Utf.valid t.data.toList = true) (hz : nameN n = z) (h0 : z ≠ 0) (ha : n < 65) {old : Rg} (hl : Reg.look ks z = some old) (hs : t.size ≤ 4096) (h34 : z = 34) (hT : taken = true) (hL : lines = true) :
    Calls Try.prog 21 #[.slice A ks.length c, .int .i64 n, .string t, .bool lines, .bool taken] w (KeepIs (kept ks n t lines taken) w) := by
  have NC := Lib.hid (ref21_Name n)
  subst hT hL
  have RC : Hid (Calls Try.prog 25 #[.slice A ks.length c] w fun e u => ∃ g, e = .returned (.slice (some ⟨g, 0, none⟩) 38 38) ∧ RBox w u g (row ks)) := (ref21_row_ok (c := c) hx (by unfold maxLen; omega) h (Below.refl _ w)).mono fun e u ⟨g, h1, h2, h3, h4⟩ => ⟨g, h1, h4, h2, h3⟩
  have VC : Hid (∀ u g R, RBox w u g R → Calls Try.prog 32 #[.string t] u fun e u' => e = .returned (.bool (Utf.valid t.data.toList)) ∧ RBox w u' g R) := fun u g R hu => (ref_Valid t (by omega) u).mono fun e u' h' => ⟨h'.1, hu.on h'.2⟩
  rw [hv] at VC
  rw [hz] at NC
  have AD : added ks n t true = (true, t) := by rw [added, if_neg (by omega)]
  obtain ⟨HK, n1, n2, hfit⟩ := fit_of (taken := true) h hv hz h0 AD hs
  have hI : IsName z := hz ▸ nameN_is (by rw [hz]; exact h0)
  have hg : get ks n = (old, true) := get_some h (by rw [hz]; exact hl)
  have GC : Hid (∀ u g R, RBox w u g R → Calls Try.prog 14 #[.slice A ks.length c, .int .i64 n] u fun e u' => e = .returned (.tuple #[.agg #[.int .i64 old.name, .bool old.lines, .string old.text], .bool true]) ∧ RBox w u' g R) := fun u g R hu => (ref21_Get n (hx.below hu.below) (by unfold maxLen; omega)).mono fun e u' h' => ⟨by have := h'.1; rw [hg] at this; exact this, hu.on h'.2⟩
  have g0 : (z == 0) = false := by simpa using h0
  have d0 : decide (65 ≤ n) = false := decide_eq_false (by omega)
  have g1 : decide ((4096 : Int) < (t.size : Int)) = false := decide_eq_false (by omega)
  have g2 : (z != 34) = false := by subst h34; rfl
  have g3 : (z == 34) = true := by subst h34; rfl
  rw [if_pos h34] at HK
  have H := Lib.hid HK
  have PC1 : Hid (∀ u g, RBox w u g (row ks) → Calls Try.prog 33 #[.slice (some ⟨g, 0, none⟩) 38 38, .int .i64 z, .bool true, .string t] u fun e u' => e = .returned (.tuple #[]) ∧ RBox w u' g (row (put ks ⟨z, true, t⟩))) := fun u g hu => rbox_put z _ _ hu hI
  have PC2 : Hid (∀ u g, RBox w u g (row (put ks ⟨z, true, t⟩)) → Calls Try.prog 33 #[.slice (some ⟨g, 0, none⟩) 38 38, .int .i64 34, .bool true, .string t] u fun e u' => e = .returned (.tuple #[]) ∧ RBox w u' g (row (put (put ks ⟨z, true, t⟩) ⟨34, true, t⟩))) := fun u g hu => rbox_put 34 _ _ hu (.inl rfl)
  have FC : Hid (∀ u g, RBox w u g (row (also (put (put ks ⟨z, true, t⟩) ⟨34, true, t⟩) true t true)) → Calls Try.prog 34 #[.slice (some ⟨g, 0, none⟩) 38 38] u fun e u' => ∃ (A : Option Addr) (c : Nat), e = .returned (.slice A (also (put (put ks ⟨z, true, t⟩) ⟨34, true, t⟩) true t true).length c) ∧ Rgs u' A (also (put (put ks ⟨z, true, t⟩) ⟨34, true, t⟩) true t true) ∧ (also (put (put ks ⟨z, true, t⟩) ⟨34, true, t⟩) true t true).length ≤ c ∧ Below w.heap.size w u') := fun u g hu => rbox_flat hu (also_nam n2 true t true)
  have hA : also (put (put ks ⟨z, true, t⟩) ⟨34, true, t⟩) true t true = put (age (put (put ks ⟨z, true, t⟩) ⟨34, true, t⟩)) ⟨49, true, t⟩ := by unfold also; rw [if_pos rfl, if_pos (by rw [Bool.true_or])]
  have PC3 : Hid (∀ u g, RBox w u g (shiftR (put (put ks ⟨z, true, t⟩) ⟨34, true, t⟩) 49) → Calls Try.prog 33 #[.slice (some ⟨g, 0, none⟩) 38 38, .int .i64 49, .bool true, .string t] u fun e u' => e = .returned (.tuple #[]) ∧ RBox w u' g (row (also (put (put ks ⟨z, true, t⟩) ⟨34, true, t⟩) true t true))) := fun u g hu => by rw [hA]; exact rbox_end (k := ⟨49, true, t⟩) hu rfl
  clear hA
  generalize hLg : (also (put (put ks ⟨z, true, t⟩) ⟨34, true, t⟩) true t true) = L at *
  generalize hMg : (put (put ks ⟨z, true, t⟩) ⟨34, true, t⟩) = M at *
  have ht2 : t.size ≤ 9223372036854775807 := by omega
  clear hx hm ht h hv hz h0 AD hg hs hl hI ha HK n1 n2 hfit hLg hMg h34
  go_enter Try.func21, Try.ntmps21
  go_wp2_with (first
    | (go_at_call 25; (with_reducible refine RC.out.mono ?_); rintro e u1 ⟨g, rfl, K1⟩)
    | (go_at_call 32; (with_reducible refine (VC.out _ _ _ K1).mono ?_); rintro e u2 ⟨rfl, K2⟩)
    | (go_at_call 18; (with_reducible refine (NC.out _).mono ?_); rintro e u9 ⟨rfl, rfl⟩)
    | (go_at_call 14; (with_reducible refine (GC.out _ _ _ K2).mono ?_); rintro e u3 ⟨rfl, K3⟩; replace K3 := K3.alloc (.cells #[.int .i64 old.name, .bool old.lines, .string old.text] 32))
    | (go_at_call 33; (with_reducible refine (PC1.out _ _ K3).mono ?_); rintro e u4 ⟨rfl, K4⟩)
    | (go_at_call 33; (with_reducible refine (PC2.out _ _ K4).mono ?_); rintro e u5 ⟨rfl, K5⟩))
  go_loopw [18, 19] (fun fv iv wr => ∃ k : Nat, k ≤ t.size ∧ iv = .int .i64 k ∧ fv = .bool (feed t k) ∧ u5 = wr) (fun _ iv _ => t.size - (intOf iv).toNat)
  case atStart => exact ⟨0, Nat.zero_le _, rfl, by rw [feed_zero], rfl⟩
  case round =>
    obtain ⟨k, hk, rfl, rfl, rfl⟩ := hrel
    by_cases hlt : k < t.size
    · have hki : (k : Int) < t.size := by omega
      have hfs := feed_succ t hlt
      generalize hfk : feed t k = fk at *
      cases fk with
      | true =>
        rw [Bool.true_or] at hfs
        have HS := Lib.hid hfs
        clear hfs hfk
        go_wp2
        go_roundw
        case rel => exact ⟨k + 1, by omega, by go_num, by rw [HS.out], trivial⟩
        case measure => simp [intOf]; omega
      | false =>
        rw [Bool.false_or] at hfs
        by_cases hb : t[k].toNat = 10
        · have HS : Hid (feed t (k + 1) = true) := by show _ = _; rw [hfs, hb]; rfl
          have e1 : ((t[k].toNat : Int) == 10) = true := by rw [hb]; rfl
          clear hfs hfk hb
          go_wp2
          go_roundw
          case rel => exact ⟨k + 1, by omega, by go_num, by rw [HS.out], trivial⟩
          case measure => simp [intOf]; omega
        · have HS : Hid (feed t (k + 1) = false) := by show _ = _; rw [hfs]; simpa using hb
          have e1 : ((t[k].toNat : Int) == 10) = false := by simp; omega
          clear hfs hfk hb
          go_wp2
          go_roundw
          case rel => exact ⟨k + 1, by omega, by go_num, by rw [HS.out], trivial⟩
          case measure => simp [intOf]; omega
    · obtain rfl : k = t.size := by omega
      generalize feed t t.size = fd at *
      rw [← shiftR_start] at K5
      go_wp2
      go_loopw [20] (fun iv wr => ∃ i : Int, iv = .int .i64 i ∧ 49 ≤ i ∧ i ≤ 57 ∧ RBox w wr g (shiftR M i)) (fun iv _ => (intOf iv - 49).toNat)
      case atStart => exact ⟨57, rfl, by omega, by omega, K5⟩
      case round =>
        clear K5
        obtain ⟨i, rfl, hi1, hi2, KK⟩ := hrel
        by_cases hgt : 49 < i
        · have h50 : 50 ≤ i ∧ i ≤ 57 := ⟨by omega, hi2⟩
          have NX := Lib.hid (shiftR_next M h50)
          have RD := Lib.hid (shiftR_read M h50)
          have SP1 := Lib.hid (ref21_spot (is_num (i := i) (by omega)))
          have SP2 := Lib.hid (ref21_spot (is_num (i := i - 1) (by omega)))
          have hne := spot_ne h50
          have s1 := (nm_spot (is_num (i := i) (by omega))).2
          have s2 := (nm_spot (is_num (i := i - 1) (by omega))).2
          generalize spot (i - 1) = j2 at *
          generalize spot i = j1 at *
          obtain ⟨v0, hv0⟩ := KK.row.some_ s1
          have fz := KK.row.frozen j1
          have hgl := KK.row.lt
          have KS := KK.set j1 (o := none) (v := .slice none 0 0) rfl
          have RD2 : ((shiftR M i).set j1 none)[j2]? = some (Reg.look M (i - 1)) := by rw [List.getElem?_set_ne hne]; exact RD.out
          obtain ⟨v2, hv2, he2⟩ := KS.row.at_ RD2
          have hj1 : (j1 : Int) < 38 := by omega
          have hj2 : (j2 : Int) < 38 := by omega
          have hnj : ¬ j2 = j1 := fun e => hne e.symm
          have hg2 : decide (49 < i) = true := decide_eq_true hgt
          clear RD RD2
          cases hl : Reg.look M (i - 1) with
          | none =>
            rw [hl] at he2
            have hve : v2 = .slice none 0 0 := he2
            rw [hve] at hv2
            have HN : Hid (shiftR M (i - 1) = (shiftR M i).set j1 none) := by show _ = _; rw [NX.out, hl]; rfl
            rw [← HN.out] at KS
            have hv3 : wr.cell? ⟨g, j2, none⟩ = some (.slice none 0 0) := by rw [World.cell?_setCell_other _ _ _ _ (by simp <;> omega)] at hv2; exact hv2
            clear he2 hve NX hl
            go_wp2_with (first
            | (go_at_call 26; (with_reducible refine (SP1.out _).mono ?_); rintro e u9 ⟨rfl, rfl⟩)
            | (go_at_call 26; (with_reducible refine (SP2.out _).mono ?_); rintro e u9 ⟨rfl, rfl⟩))
            go_roundw
            case rel => exact ⟨i - 1, by go_num, by omega, by omega, KS⟩
            case measure => simp [intOf]; omega
          | some x =>
            rw [hl] at he2
            obtain ⟨bb, hve, hbg, hbl, c0, c1, c2⟩ := he2
            rw [hve] at hv2
            have HN : Hid (shiftR M (i - 1) = (shiftR M i).set j1 (some ⟨i, x.lines, x.text⟩)) := by show _ = _; rw [NX.out, hl]; rfl
            have hv3 : wr.cell? ⟨g, j2, none⟩ = some (.slice (some ⟨bb, 0, none⟩) 1 1) := by rw [World.cell?_setCell_other _ _ _ _ (by simp <;> omega)] at hv2; exact hv2
            rw [Nat.zero_add] at c1 c2
            have cc : ∀ q, (wr.setCell ⟨g, j1, none⟩ (.slice none 0 0)).cell? ⟨bb, q, none⟩ = wr.cell? ⟨bb, q, none⟩ := fun q => World.cell?_setCell_other _ _ _ _ (fun e => hbg (Addr.mk.inj e).1.symm)
            rw [cc] at c0 c1 c2
            clear hve NX hl cc
            go_wp2_with (first
            | (go_at_call 26; (with_reducible refine (SP1.out _).mono ?_); rintro e u9 ⟨rfl, rfl⟩)
            | (go_at_call 26; (with_reducible refine (SP2.out _).mono ?_); rintro e u9 ⟨rfl, rfl⟩))
            have KB := KS.alloc (.cells #[.int .i64 i, .bool x.lines, .string x.text] 32)
            have hBB := Blk.new (wr.setCell ⟨g, j1, none⟩ (.slice none 0 0)) 32 #[.int .i64 i, .bool x.lines, .string x.text]
            rw [World.size_setCell] at hBB
            have y0 := hBB.cell 0
            have y1 := hBB.cell 1
            have y2 := hBB.cell 2
            simp at y0 y1 y2
            have hBC := ((Blk.new ((wr.setCell ⟨g, j1, none⟩ (.slice none 0 0)).setCell ⟨g, j1, none⟩ (.slice (some ⟨wr.heap.size + 1, 0, none⟩) 1 1)) 32 #[.int .i64 i, .bool x.lines, .string x.text]).alloc (.cells #[.int .i64 i, .bool x.lines, .string x.text] 32)).drew
            rw [World.size_setCell, World.size_setCell] at hBC
            have x0 := hBC.cell 0
            have x1 := hBC.cell 1
            have x2 := hBC.cell 2
            simp only [List.getElem?_toArray, List.getElem?_cons_zero, List.getElem?_cons_succ] at x0 x1 x2
            have he := Ent.new (w := (wr.setCell ⟨g, j1, none⟩ (.slice none 0 0)).alloc (.cells #[.int .i64 i, .bool x.lines, .string x.text] 32)) (g := g) ⟨i, x.lines, x.text⟩ 32 (by rw [World.size_alloc, World.size_setCell]; omega)
            have KF := (KB.alloc (.cells (Rg.vals ⟨i, x.lines, x.text⟩) 32)).set j1 he
            rw [World.setCell_alloc_past _ _ _ _ (by rw [World.size_alloc, World.size_setCell]; omega), World.setCell_alloc_past _ _ _ _ (by rw [World.size_setCell]; omega), List.set_set, ← HN.out, World.size_alloc, World.size_setCell] at KF
            have KG := Lib.hid KF.drew
            clear he KF KB hBC hBB
            go_region_held3 (fun u => u.cell? ⟨wr.heap.size, 0, none⟩ = some (.int .i64 i) ∧ u.cell? ⟨wr.heap.size, 1, none⟩ = some (.bool x.lines) ∧ u.cell? ⟨wr.heap.size, 2, none⟩ = some (.string x.text)) (first | (with_reducible exact ⟨by assumption, by assumption, by assumption⟩) | go_keep)
              (first | (go_at_call 26; (with_reducible refine (SP1.out _).mono ?_); rintro e u9 ⟨rfl, rfl⟩))
            go_wp2
            go_roundw
            case rel => exact ⟨i - 1, by go_num, by omega, by omega, KG.out⟩
            case measure => simp [intOf]; omega
            case roundEnd => exact ⟨⟨i - 1, rfl, by omega, by omega, KG.out⟩, by simp [intOf]; omega⟩
        · obtain rfl : i = 49 := by omega
          go_wp2_with (first
            | (go_at_call 33; (with_reducible refine (PC3.out _ _ KK).mono ?_); rintro e u6 ⟨rfl, K6⟩)
            | (go_at_call 34; (with_reducible refine (FC.out _ _ K6).mono ?_); rintro e u7 ⟨A7, c7, rfl, h1, h2, h3⟩))
          go_ret2
          exact ⟨A7, c7, by rw [H.out]; rfl, by rw [H.out]; exact h1, by rw [H.out]; exact h2, h3⟩
set_option maxHeartbeats 4000000 in
set_option maxRecDepth 100000 in
theorem ref21_keep_hasL_feed (n : Int) (t : ByteArray) (lines taken : Bool) {A : Option Addr} {c : Nat} {ks : List Rg} {w : World} (hx : Rgs w A ks) (hm : ks.length ≤ 1000) (ht : t.size ≤ 1048576) {z : Int} (h : Right ks) (hv : Utf.valid t.data.toList = true) (hz : nameN n = z) (h0 : z ≠ 0) (ha : n < 65) {old : Rg} (hl : Reg.look ks z = some old) (hs : t.size ≤ 4096) (h34 : z = 34) (hT : taken = true) (hL : lines = false) (hF : feed t t.size = true) :
    Calls Try.prog 21 #[.slice A ks.length c, .int .i64 n, .string t, .bool lines, .bool taken] w (KeepIs (kept ks n t lines taken) w) := by
  have NC := Lib.hid (ref21_Name n)
  subst hT hL
  have RC : Hid (Calls Try.prog 25 #[.slice A ks.length c] w fun e u => ∃ g, e = .returned (.slice (some ⟨g, 0, none⟩) 38 38) ∧ RBox w u g (row ks)) := (ref21_row_ok (c := c) hx (by unfold maxLen; omega) h (Below.refl _ w)).mono fun e u ⟨g, h1, h2, h3, h4⟩ => ⟨g, h1, h4, h2, h3⟩
  have VC : Hid (∀ u g R, RBox w u g R → Calls Try.prog 32 #[.string t] u fun e u' => e = .returned (.bool (Utf.valid t.data.toList)) ∧ RBox w u' g R) := fun u g R hu => (ref_Valid t (by omega) u).mono fun e u' h' => ⟨h'.1, hu.on h'.2⟩
  rw [hv] at VC
  rw [hz] at NC
  have AD : added ks n t false = (false, t) := by rw [added, if_neg (by omega)]
  obtain ⟨HK, n1, n2, hfit⟩ := fit_of (taken := true) h hv hz h0 AD hs
  have hI : IsName z := hz ▸ nameN_is (by rw [hz]; exact h0)
  have hg : get ks n = (old, true) := get_some h (by rw [hz]; exact hl)
  have GC : Hid (∀ u g R, RBox w u g R → Calls Try.prog 14 #[.slice A ks.length c, .int .i64 n] u fun e u' => e = .returned (.tuple #[.agg #[.int .i64 old.name, .bool old.lines, .string old.text], .bool true]) ∧ RBox w u' g R) := fun u g R hu => (ref21_Get n (hx.below hu.below) (by unfold maxLen; omega)).mono fun e u' h' => ⟨by have := h'.1; rw [hg] at this; exact this, hu.on h'.2⟩
  have g0 : (z == 0) = false := by simpa using h0
  have d0 : decide (65 ≤ n) = false := decide_eq_false (by omega)
  have g1 : decide ((4096 : Int) < (t.size : Int)) = false := decide_eq_false (by omega)
  have g2 : (z != 34) = false := by subst h34; rfl
  have g3 : (z == 34) = true := by subst h34; rfl
  rw [if_pos h34] at HK
  have H := Lib.hid HK
  have PC1 : Hid (∀ u g, RBox w u g (row ks) → Calls Try.prog 33 #[.slice (some ⟨g, 0, none⟩) 38 38, .int .i64 z, .bool false, .string t] u fun e u' => e = .returned (.tuple #[]) ∧ RBox w u' g (row (put ks ⟨z, false, t⟩))) := fun u g hu => rbox_put z _ _ hu hI
  have PC2 : Hid (∀ u g, RBox w u g (row (put ks ⟨z, false, t⟩)) → Calls Try.prog 33 #[.slice (some ⟨g, 0, none⟩) 38 38, .int .i64 34, .bool false, .string t] u fun e u' => e = .returned (.tuple #[]) ∧ RBox w u' g (row (put (put ks ⟨z, false, t⟩) ⟨34, false, t⟩))) := fun u g hu => rbox_put 34 _ _ hu (.inl rfl)
  have FC : Hid (∀ u g, RBox w u g (row (also (put (put ks ⟨z, false, t⟩) ⟨34, false, t⟩) false t true)) → Calls Try.prog 34 #[.slice (some ⟨g, 0, none⟩) 38 38] u fun e u' => ∃ (A : Option Addr) (c : Nat), e = .returned (.slice A (also (put (put ks ⟨z, false, t⟩) ⟨34, false, t⟩) false t true).length c) ∧ Rgs u' A (also (put (put ks ⟨z, false, t⟩) ⟨34, false, t⟩) false t true) ∧ (also (put (put ks ⟨z, false, t⟩) ⟨34, false, t⟩) false t true).length ≤ c ∧ Below w.heap.size w u') := fun u g hu => rbox_flat hu (also_nam n2 false t true)
  have hA : also (put (put ks ⟨z, false, t⟩) ⟨34, false, t⟩) false t true = put (age (put (put ks ⟨z, false, t⟩) ⟨34, false, t⟩)) ⟨49, false, t⟩ := by rw [feed_all] at hF; unfold also; rw [if_pos rfl, if_pos (by rw [hF]; rfl)]
  have PC3 : Hid (∀ u g, RBox w u g (shiftR (put (put ks ⟨z, false, t⟩) ⟨34, false, t⟩) 49) → Calls Try.prog 33 #[.slice (some ⟨g, 0, none⟩) 38 38, .int .i64 49, .bool false, .string t] u fun e u' => e = .returned (.tuple #[]) ∧ RBox w u' g (row (also (put (put ks ⟨z, false, t⟩) ⟨34, false, t⟩) false t true))) := fun u g hu => by rw [hA]; exact rbox_end (k := ⟨49, false, t⟩) hu rfl
  clear hA
  generalize hLg : (also (put (put ks ⟨z, false, t⟩) ⟨34, false, t⟩) false t true) = L at *
  generalize hMg : (put (put ks ⟨z, false, t⟩) ⟨34, false, t⟩) = M at *
  have ht2 : t.size ≤ 9223372036854775807 := by omega
  clear hx hm ht h hv hz h0 AD hg hs hl hI ha HK n1 n2 hfit hLg hMg h34
  have HF := Lib.hid hF
  clear hF
  go_enter Try.func21, Try.ntmps21
  go_wp2_with (first
    | (go_at_call 25; (with_reducible refine RC.out.mono ?_); rintro e u1 ⟨g, rfl, K1⟩)
    | (go_at_call 32; (with_reducible refine (VC.out _ _ _ K1).mono ?_); rintro e u2 ⟨rfl, K2⟩)
    | (go_at_call 18; (with_reducible refine (NC.out _).mono ?_); rintro e u9 ⟨rfl, rfl⟩)
    | (go_at_call 14; (with_reducible refine (GC.out _ _ _ K2).mono ?_); rintro e u3 ⟨rfl, K3⟩; replace K3 := K3.alloc (.cells #[.int .i64 old.name, .bool old.lines, .string old.text] 32))
    | (go_at_call 33; (with_reducible refine (PC1.out _ _ K3).mono ?_); rintro e u4 ⟨rfl, K4⟩)
    | (go_at_call 33; (with_reducible refine (PC2.out _ _ K4).mono ?_); rintro e u5 ⟨rfl, K5⟩))
  go_loopw [18, 19] (fun fv iv wr => ∃ k : Nat, k ≤ t.size ∧ iv = .int .i64 k ∧ fv = .bool (feed t k) ∧ u5 = wr) (fun _ iv _ => t.size - (intOf iv).toNat)
  case atStart => exact ⟨0, Nat.zero_le _, rfl, by rw [feed_zero], rfl⟩
  case round =>
    obtain ⟨k, hk, rfl, rfl, rfl⟩ := hrel
    by_cases hlt : k < t.size
    · have hki : (k : Int) < t.size := by omega
      have hfs := feed_succ t hlt
      generalize hfk : feed t k = fk at *
      cases fk with
      | true =>
        rw [Bool.true_or] at hfs
        have HS := Lib.hid hfs
        clear hfs hfk
        go_wp2
        go_roundw
        case rel => exact ⟨k + 1, by omega, by go_num, by rw [HS.out], trivial⟩
        case measure => simp [intOf]; omega
      | false =>
        rw [Bool.false_or] at hfs
        by_cases hb : t[k].toNat = 10
        · have HS : Hid (feed t (k + 1) = true) := by show _ = _; rw [hfs, hb]; rfl
          have e1 : ((t[k].toNat : Int) == 10) = true := by rw [hb]; rfl
          clear hfs hfk hb
          go_wp2
          go_roundw
          case rel => exact ⟨k + 1, by omega, by go_num, by rw [HS.out], trivial⟩
          case measure => simp [intOf]; omega
        · have HS : Hid (feed t (k + 1) = false) := by show _ = _; rw [hfs]; simpa using hb
          have e1 : ((t[k].toNat : Int) == 10) = false := by simp; omega
          clear hfs hfk hb
          go_wp2
          go_roundw
          case rel => exact ⟨k + 1, by omega, by go_num, by rw [HS.out], trivial⟩
          case measure => simp [intOf]; omega
    · obtain rfl : k = t.size := by omega
      rw [HF.out]
      rw [← shiftR_start] at K5
      go_wp2
      go_loopw [20] (fun iv wr => ∃ i : Int, iv = .int .i64 i ∧ 49 ≤ i ∧ i ≤ 57 ∧ RBox w wr g (shiftR M i)) (fun iv _ => (intOf iv - 49).toNat)
      case atStart => exact ⟨57, rfl, by omega, by omega, K5⟩
      case round =>
        clear K5
        obtain ⟨i, rfl, hi1, hi2, KK⟩ := hrel
        by_cases hgt : 49 < i
        · have h50 : 50 ≤ i ∧ i ≤ 57 := ⟨by omega, hi2⟩
          have NX := Lib.hid (shiftR_next M h50)
          have RD := Lib.hid (shiftR_read M h50)
          have SP1 := Lib.hid (ref21_spot (is_num (i := i) (by omega)))
          have SP2 := Lib.hid (ref21_spot (is_num (i := i - 1) (by omega)))
          have hne := spot_ne h50
          have s1 := (nm_spot (is_num (i := i) (by omega))).2
          have s2 := (nm_spot (is_num (i := i - 1) (by omega))).2
          generalize spot (i - 1) = j2 at *
          generalize spot i = j1 at *
          obtain ⟨v0, hv0⟩ := KK.row.some_ s1
          have fz := KK.row.frozen j1
          have hgl := KK.row.lt
          have KS := KK.set j1 (o := none) (v := .slice none 0 0) rfl
          have RD2 : ((shiftR M i).set j1 none)[j2]? = some (Reg.look M (i - 1)) := by rw [List.getElem?_set_ne hne]; exact RD.out
          obtain ⟨v2, hv2, he2⟩ := KS.row.at_ RD2
          have hj1 : (j1 : Int) < 38 := by omega
          have hj2 : (j2 : Int) < 38 := by omega
          have hnj : ¬ j2 = j1 := fun e => hne e.symm
          have hg2 : decide (49 < i) = true := decide_eq_true hgt
          clear RD RD2
          cases hl : Reg.look M (i - 1) with
          | none =>
            rw [hl] at he2
            have hve : v2 = .slice none 0 0 := he2
            rw [hve] at hv2
            have HN : Hid (shiftR M (i - 1) = (shiftR M i).set j1 none) := by show _ = _; rw [NX.out, hl]; rfl
            rw [← HN.out] at KS
            have hv3 : wr.cell? ⟨g, j2, none⟩ = some (.slice none 0 0) := by rw [World.cell?_setCell_other _ _ _ _ (by simp <;> omega)] at hv2; exact hv2
            clear he2 hve NX hl
            go_wp2_with (first
            | (go_at_call 26; (with_reducible refine (SP1.out _).mono ?_); rintro e u9 ⟨rfl, rfl⟩)
            | (go_at_call 26; (with_reducible refine (SP2.out _).mono ?_); rintro e u9 ⟨rfl, rfl⟩))
            go_roundw
            case rel => exact ⟨i - 1, by go_num, by omega, by omega, KS⟩
            case measure => simp [intOf]; omega
          | some x =>
            rw [hl] at he2
            obtain ⟨bb, hve, hbg, hbl, c0, c1, c2⟩ := he2
            rw [hve] at hv2
            have HN : Hid (shiftR M (i - 1) = (shiftR M i).set j1 (some ⟨i, x.lines, x.text⟩)) := by show _ = _; rw [NX.out, hl]; rfl
            have hv3 : wr.cell? ⟨g, j2, none⟩ = some (.slice (some ⟨bb, 0, none⟩) 1 1) := by rw [World.cell?_setCell_other _ _ _ _ (by simp <;> omega)] at hv2; exact hv2
            rw [Nat.zero_add] at c1 c2
            have cc : ∀ q, (wr.setCell ⟨g, j1, none⟩ (.slice none 0 0)).cell? ⟨bb, q, none⟩ = wr.cell? ⟨bb, q, none⟩ := fun q => World.cell?_setCell_other _ _ _ _ (fun e => hbg (Addr.mk.inj e).1.symm)
            rw [cc] at c0 c1 c2
            clear hve NX hl cc
            go_wp2_with (first
            | (go_at_call 26; (with_reducible refine (SP1.out _).mono ?_); rintro e u9 ⟨rfl, rfl⟩)
            | (go_at_call 26; (with_reducible refine (SP2.out _).mono ?_); rintro e u9 ⟨rfl, rfl⟩))
            have KB := KS.alloc (.cells #[.int .i64 i, .bool x.lines, .string x.text] 32)
            have hBB := Blk.new (wr.setCell ⟨g, j1, none⟩ (.slice none 0 0)) 32 #[.int .i64 i, .bool x.lines, .string x.text]
            rw [World.size_setCell] at hBB
            have y0 := hBB.cell 0
            have y1 := hBB.cell 1
            have y2 := hBB.cell 2
            simp at y0 y1 y2
            have hBC := ((Blk.new ((wr.setCell ⟨g, j1, none⟩ (.slice none 0 0)).setCell ⟨g, j1, none⟩ (.slice (some ⟨wr.heap.size + 1, 0, none⟩) 1 1)) 32 #[.int .i64 i, .bool x.lines, .string x.text]).alloc (.cells #[.int .i64 i, .bool x.lines, .string x.text] 32)).drew
            rw [World.size_setCell, World.size_setCell] at hBC
            have x0 := hBC.cell 0
            have x1 := hBC.cell 1
            have x2 := hBC.cell 2
            simp only [List.getElem?_toArray, List.getElem?_cons_zero, List.getElem?_cons_succ] at x0 x1 x2
            have he := Ent.new (w := (wr.setCell ⟨g, j1, none⟩ (.slice none 0 0)).alloc (.cells #[.int .i64 i, .bool x.lines, .string x.text] 32)) (g := g) ⟨i, x.lines, x.text⟩ 32 (by rw [World.size_alloc, World.size_setCell]; omega)
            have KF := (KB.alloc (.cells (Rg.vals ⟨i, x.lines, x.text⟩) 32)).set j1 he
            rw [World.setCell_alloc_past _ _ _ _ (by rw [World.size_alloc, World.size_setCell]; omega), World.setCell_alloc_past _ _ _ _ (by rw [World.size_setCell]; omega), List.set_set, ← HN.out, World.size_alloc, World.size_setCell] at KF
            have KG := Lib.hid KF.drew
            clear he KF KB hBC hBB
            go_region_held3 (fun u => u.cell? ⟨wr.heap.size, 0, none⟩ = some (.int .i64 i) ∧ u.cell? ⟨wr.heap.size, 1, none⟩ = some (.bool x.lines) ∧ u.cell? ⟨wr.heap.size, 2, none⟩ = some (.string x.text)) (first | (with_reducible exact ⟨by assumption, by assumption, by assumption⟩) | go_keep)
              (first | (go_at_call 26; (with_reducible refine (SP1.out _).mono ?_); rintro e u9 ⟨rfl, rfl⟩))
            go_wp2
            go_roundw
            case rel => exact ⟨i - 1, by go_num, by omega, by omega, KG.out⟩
            case measure => simp [intOf]; omega
            case roundEnd => exact ⟨⟨i - 1, rfl, by omega, by omega, KG.out⟩, by simp [intOf]; omega⟩
        · obtain rfl : i = 49 := by omega
          go_wp2_with (first
            | (go_at_call 33; (with_reducible refine (PC3.out _ _ KK).mono ?_); rintro e u6 ⟨rfl, K6⟩)
            | (go_at_call 34; (with_reducible refine (FC.out _ _ K6).mono ?_); rintro e u7 ⟨A7, c7, rfl, h1, h2, h3⟩))
          go_ret2
          exact ⟨A7, c7, by rw [H.out]; rfl, by rw [H.out]; exact h1, by rw [H.out]; exact h2, h3⟩
set_option maxHeartbeats 4000000 in
set_option maxRecDepth 100000 in
theorem ref21_keep_hasL_none (n : Int) (t : ByteArray) (lines taken : Bool) {A : Option Addr} {c : Nat} {ks : List Rg} {w : World} (hx : Rgs w A ks) (hm : ks.length ≤ 1000) (ht : t.size ≤ 1048576) {z : Int} (h : Right ks) (hv : Utf.valid t.data.toList = true) (hz : nameN n = z) (h0 : z ≠ 0) (ha : n < 65) {old : Rg} (hl : Reg.look ks z = some old) (hs : t.size ≤ 4096) (h34 : z = 34) (hT : taken = true) (hL : lines = false) (hF : feed t t.size = false) :
    Calls Try.prog 21 #[.slice A ks.length c, .int .i64 n, .string t, .bool lines, .bool taken] w (KeepIs (kept ks n t lines taken) w) := by
  have NC := Lib.hid (ref21_Name n)
  subst hT hL
  have RC : Hid (Calls Try.prog 25 #[.slice A ks.length c] w fun e u => ∃ g, e = .returned (.slice (some ⟨g, 0, none⟩) 38 38) ∧ RBox w u g (row ks)) := (ref21_row_ok (c := c) hx (by unfold maxLen; omega) h (Below.refl _ w)).mono fun e u ⟨g, h1, h2, h3, h4⟩ => ⟨g, h1, h4, h2, h3⟩
  have VC : Hid (∀ u g R, RBox w u g R → Calls Try.prog 32 #[.string t] u fun e u' => e = .returned (.bool (Utf.valid t.data.toList)) ∧ RBox w u' g R) := fun u g R hu => (ref_Valid t (by omega) u).mono fun e u' h' => ⟨h'.1, hu.on h'.2⟩
  rw [hv] at VC
  rw [hz] at NC
  have AD : added ks n t false = (false, t) := by rw [added, if_neg (by omega)]
  obtain ⟨HK, n1, n2, hfit⟩ := fit_of (taken := true) h hv hz h0 AD hs
  have hI : IsName z := hz ▸ nameN_is (by rw [hz]; exact h0)
  have hg : get ks n = (old, true) := get_some h (by rw [hz]; exact hl)
  have GC : Hid (∀ u g R, RBox w u g R → Calls Try.prog 14 #[.slice A ks.length c, .int .i64 n] u fun e u' => e = .returned (.tuple #[.agg #[.int .i64 old.name, .bool old.lines, .string old.text], .bool true]) ∧ RBox w u' g R) := fun u g R hu => (ref21_Get n (hx.below hu.below) (by unfold maxLen; omega)).mono fun e u' h' => ⟨by have := h'.1; rw [hg] at this; exact this, hu.on h'.2⟩
  have g0 : (z == 0) = false := by simpa using h0
  have d0 : decide (65 ≤ n) = false := decide_eq_false (by omega)
  have g1 : decide ((4096 : Int) < (t.size : Int)) = false := decide_eq_false (by omega)
  have g2 : (z != 34) = false := by subst h34; rfl
  have g3 : (z == 34) = true := by subst h34; rfl
  rw [if_pos h34] at HK
  have H := Lib.hid HK
  have PC1 : Hid (∀ u g, RBox w u g (row ks) → Calls Try.prog 33 #[.slice (some ⟨g, 0, none⟩) 38 38, .int .i64 z, .bool false, .string t] u fun e u' => e = .returned (.tuple #[]) ∧ RBox w u' g (row (put ks ⟨z, false, t⟩))) := fun u g hu => rbox_put z _ _ hu hI
  have PC2 : Hid (∀ u g, RBox w u g (row (put ks ⟨z, false, t⟩)) → Calls Try.prog 33 #[.slice (some ⟨g, 0, none⟩) 38 38, .int .i64 34, .bool false, .string t] u fun e u' => e = .returned (.tuple #[]) ∧ RBox w u' g (row (put (put ks ⟨z, false, t⟩) ⟨34, false, t⟩))) := fun u g hu => rbox_put 34 _ _ hu (.inl rfl)
  have FC : Hid (∀ u g, RBox w u g (row (also (put (put ks ⟨z, false, t⟩) ⟨34, false, t⟩) false t true)) → Calls Try.prog 34 #[.slice (some ⟨g, 0, none⟩) 38 38] u fun e u' => ∃ (A : Option Addr) (c : Nat), e = .returned (.slice A (also (put (put ks ⟨z, false, t⟩) ⟨34, false, t⟩) false t true).length c) ∧ Rgs u' A (also (put (put ks ⟨z, false, t⟩) ⟨34, false, t⟩) false t true) ∧ (also (put (put ks ⟨z, false, t⟩) ⟨34, false, t⟩) false t true).length ≤ c ∧ Below w.heap.size w u') := fun u g hu => rbox_flat hu (also_nam n2 false t true)
  have hA : also (put (put ks ⟨z, false, t⟩) ⟨34, false, t⟩) false t true = put (put (put ks ⟨z, false, t⟩) ⟨34, false, t⟩) ⟨45, false, t⟩ := by rw [feed_all] at hF; unfold also; rw [if_pos rfl, hF]; rfl
  have PC3 : Hid (∀ u g, RBox w u g (row (put (put ks ⟨z, false, t⟩) ⟨34, false, t⟩)) → Calls Try.prog 33 #[.slice (some ⟨g, 0, none⟩) 38 38, .int .i64 45, .bool false, .string t] u fun e u' => e = .returned (.tuple #[]) ∧ RBox w u' g (row (also (put (put ks ⟨z, false, t⟩) ⟨34, false, t⟩) false t true))) := fun u g hu => by rw [hA]; exact rbox_put 45 _ _ hu (by decide)
  clear hA
  generalize hLg : (also (put (put ks ⟨z, false, t⟩) ⟨34, false, t⟩) false t true) = L at *
  generalize hMg : (put (put ks ⟨z, false, t⟩) ⟨34, false, t⟩) = M at *
  have ht2 : t.size ≤ 9223372036854775807 := by omega
  clear hx hm ht h hv hz h0 AD hg hs hl hI ha HK n1 n2 hfit hLg hMg h34
  have HF := Lib.hid hF
  clear hF
  go_enter Try.func21, Try.ntmps21
  go_wp2_with (first
    | (go_at_call 25; (with_reducible refine RC.out.mono ?_); rintro e u1 ⟨g, rfl, K1⟩)
    | (go_at_call 32; (with_reducible refine (VC.out _ _ _ K1).mono ?_); rintro e u2 ⟨rfl, K2⟩)
    | (go_at_call 18; (with_reducible refine (NC.out _).mono ?_); rintro e u9 ⟨rfl, rfl⟩)
    | (go_at_call 14; (with_reducible refine (GC.out _ _ _ K2).mono ?_); rintro e u3 ⟨rfl, K3⟩; replace K3 := K3.alloc (.cells #[.int .i64 old.name, .bool old.lines, .string old.text] 32))
    | (go_at_call 33; (with_reducible refine (PC1.out _ _ K3).mono ?_); rintro e u4 ⟨rfl, K4⟩)
    | (go_at_call 33; (with_reducible refine (PC2.out _ _ K4).mono ?_); rintro e u5 ⟨rfl, K5⟩))
  go_loopw [18, 19] (fun fv iv wr => ∃ k : Nat, k ≤ t.size ∧ iv = .int .i64 k ∧ fv = .bool (feed t k) ∧ u5 = wr) (fun _ iv _ => t.size - (intOf iv).toNat)
  case atStart => exact ⟨0, Nat.zero_le _, rfl, by rw [feed_zero], rfl⟩
  case round =>
    obtain ⟨k, hk, rfl, rfl, rfl⟩ := hrel
    by_cases hlt : k < t.size
    · have hki : (k : Int) < t.size := by omega
      have hfs := feed_succ t hlt
      generalize hfk : feed t k = fk at *
      cases fk with
      | true =>
        rw [Bool.true_or] at hfs
        have HS := Lib.hid hfs
        clear hfs hfk
        go_wp2
        go_roundw
        case rel => exact ⟨k + 1, by omega, by go_num, by rw [HS.out], trivial⟩
        case measure => simp [intOf]; omega
      | false =>
        rw [Bool.false_or] at hfs
        by_cases hb : t[k].toNat = 10
        · have HS : Hid (feed t (k + 1) = true) := by show _ = _; rw [hfs, hb]; rfl
          have e1 : ((t[k].toNat : Int) == 10) = true := by rw [hb]; rfl
          clear hfs hfk hb
          go_wp2
          go_roundw
          case rel => exact ⟨k + 1, by omega, by go_num, by rw [HS.out], trivial⟩
          case measure => simp [intOf]; omega
        · have HS : Hid (feed t (k + 1) = false) := by show _ = _; rw [hfs]; simpa using hb
          have e1 : ((t[k].toNat : Int) == 10) = false := by simp; omega
          clear hfs hfk hb
          go_wp2
          go_roundw
          case rel => exact ⟨k + 1, by omega, by go_num, by rw [HS.out], trivial⟩
          case measure => simp [intOf]; omega
    · obtain rfl : k = t.size := by omega
      rw [HF.out]
      have KK := K5
      go_wp2_with (first
        | (go_at_call 33; (with_reducible refine (PC3.out _ _ KK).mono ?_); rintro e u6 ⟨rfl, K6⟩)
        | (go_at_call 34; (with_reducible refine (FC.out _ _ K6).mono ?_); rintro e u7 ⟨A7, c7, rfl, h1, h2, h3⟩))
      go_ret2
      exact ⟨A7, c7, by rw [H.out]; rfl, by rw [H.out]; exact h1, by rw [H.out]; exact h2, h3⟩
set_option maxHeartbeats 4000000 in
set_option maxRecDepth 100000 in
theorem ref21_keep_hasG_big (n : Int) (t : ByteArray) (lines taken : Bool) {A : Option Addr} {c : Nat} {ks : List Rg} {w : World} (hx : Rgs w A ks) (hm : ks.length ≤ 1000) (ht : t.size ≤ 1048576) {z : Int} (h : Right ks) (hv : Utf.valid t.data.toList = true) (hz : nameN n = z) (h0 : z ≠ 0) (ha : 90 < n) {old : Rg} (hl : Reg.look ks z = some old) (hs : ¬ t.size ≤ 4096) :
    Calls Try.prog 21 #[.slice A ks.length c, .int .i64 n, .string t, .bool lines, .bool taken] w (KeepIs (kept ks n t lines taken) w) := by
  have NC := Lib.hid (ref21_Name n)
  have RC : Hid (Calls Try.prog 25 #[.slice A ks.length c] w fun e u => ∃ g, e = .returned (.slice (some ⟨g, 0, none⟩) 38 38) ∧ RBox w u g (row ks)) := (ref21_row_ok (c := c) hx (by unfold maxLen; omega) h (Below.refl _ w)).mono fun e u ⟨g, h1, h2, h3, h4⟩ => ⟨g, h1, h4, h2, h3⟩
  have VC : Hid (∀ u g R, RBox w u g R → Calls Try.prog 32 #[.string t] u fun e u' => e = .returned (.bool (Utf.valid t.data.toList)) ∧ RBox w u' g R) := fun u g R hu => (ref_Valid t (by omega) u).mono fun e u' h' => ⟨h'.1, hu.on h'.2⟩
  rw [hv] at VC
  rw [hz] at NC
  have AD : added ks n t lines = (lines, t) := by rw [added, if_neg (by omega)]
  have H : Hid (kept ks n t lines taken = ([], 8)) := big_of h hv hz h0 AD hs
  have hI : IsName z := hz ▸ nameN_is (by rw [hz]; exact h0)
  have hg : get ks n = (old, true) := get_some h (by rw [hz]; exact hl)
  have GC : Hid (∀ u g R, RBox w u g R → Calls Try.prog 14 #[.slice A ks.length c, .int .i64 n] u fun e u' => e = .returned (.tuple #[.agg #[.int .i64 old.name, .bool old.lines, .string old.text], .bool true]) ∧ RBox w u' g R) := fun u g R hu => (ref21_Get n (hx.below hu.below) (by unfold maxLen; omega)).mono fun e u' h' => ⟨by have := h'.1; rw [hg] at this; exact this, hu.on h'.2⟩
  have g0 : (z == 0) = false := by simpa using h0
  have d0 : decide (65 ≤ n) = true := decide_eq_true (by omega)
  have d1 : decide (n ≤ 90) = false := decide_eq_false (by omega)
  have g1 : decide ((4096 : Int) < (t.size : Int)) = true := decide_eq_true (by omega)
  clear hx hm ht h hv hz h0 AD hg hs hl hI ha
  go_enter Try.func21, Try.ntmps21
  go_wp2_with (first
    | (go_at_call 25; (with_reducible refine RC.out.mono ?_); rintro e u1 ⟨g, rfl, K1⟩)
    | (go_at_call 32; (with_reducible refine (VC.out _ _ _ K1).mono ?_); rintro e u2 ⟨rfl, K2⟩)
    | (go_at_call 18; (with_reducible refine (NC.out _).mono ?_); rintro e u9 ⟨rfl, rfl⟩)
    | (go_at_call 14; (with_reducible refine (GC.out _ _ _ K2).mono ?_); rintro e u3 ⟨rfl, K3⟩; replace K3 := K3.alloc (.cells #[.int .i64 old.name, .bool old.lines, .string old.text] 32)))
  go_ret2
  exact ⟨none, 0, by rw [H.out]; rfl, by rw [H.out]; exact Rgs.nil _ _, by rw [H.out]; exact Nat.zero_le _, K3.below⟩
set_option maxHeartbeats 4000000 in
set_option maxRecDepth 100000 in
theorem ref21_keep_hasG (n : Int) (t : ByteArray) (lines taken : Bool) {A : Option Addr} {c : Nat} {ks : List Rg} {w : World} (hx : Rgs w A ks) (hm : ks.length ≤ 1000) (ht : t.size ≤ 1048576) {z : Int} (h : Right ks) (hv : Utf.valid t.data.toList = true) (hz : nameN n = z) (h0 : z ≠ 0) (ha : 90 < n) {old : Rg} (hl : Reg.look ks z = some old) (hs : t.size ≤ 4096) (h34 : ¬ z = 34) :
    Calls Try.prog 21 #[.slice A ks.length c, .int .i64 n, .string t, .bool lines, .bool taken] w (KeepIs (kept ks n t lines taken) w) := by
  have NC := Lib.hid (ref21_Name n)
  have RC : Hid (Calls Try.prog 25 #[.slice A ks.length c] w fun e u => ∃ g, e = .returned (.slice (some ⟨g, 0, none⟩) 38 38) ∧ RBox w u g (row ks)) := (ref21_row_ok (c := c) hx (by unfold maxLen; omega) h (Below.refl _ w)).mono fun e u ⟨g, h1, h2, h3, h4⟩ => ⟨g, h1, h4, h2, h3⟩
  have VC : Hid (∀ u g R, RBox w u g R → Calls Try.prog 32 #[.string t] u fun e u' => e = .returned (.bool (Utf.valid t.data.toList)) ∧ RBox w u' g R) := fun u g R hu => (ref_Valid t (by omega) u).mono fun e u' h' => ⟨h'.1, hu.on h'.2⟩
  rw [hv] at VC
  rw [hz] at NC
  have AD : added ks n t lines = (lines, t) := by rw [added, if_neg (by omega)]
  obtain ⟨HK, n1, n2, hfit⟩ := fit_of (taken := taken) h hv hz h0 AD hs
  have hI : IsName z := hz ▸ nameN_is (by rw [hz]; exact h0)
  have hg : get ks n = (old, true) := get_some h (by rw [hz]; exact hl)
  have GC : Hid (∀ u g R, RBox w u g R → Calls Try.prog 14 #[.slice A ks.length c, .int .i64 n] u fun e u' => e = .returned (.tuple #[.agg #[.int .i64 old.name, .bool old.lines, .string old.text], .bool true]) ∧ RBox w u' g R) := fun u g R hu => (ref21_Get n (hx.below hu.below) (by unfold maxLen; omega)).mono fun e u' h' => ⟨by have := h'.1; rw [hg] at this; exact this, hu.on h'.2⟩
  have g0 : (z == 0) = false := by simpa using h0
  have d0 : decide (65 ≤ n) = true := decide_eq_true (by omega)
  have d1 : decide (n ≤ 90) = false := decide_eq_false (by omega)
  have g1 : decide ((4096 : Int) < (t.size : Int)) = false := decide_eq_false (by omega)
  have g2 : (z != 34) = true := by simpa using h34
  have g3 : (z == 34) = false := by simpa using h34
  rw [if_neg h34] at HK
  have H := Lib.hid HK
  have PC1 : Hid (∀ u g, RBox w u g (row ks) → Calls Try.prog 33 #[.slice (some ⟨g, 0, none⟩) 38 38, .int .i64 z, .bool lines, .string t] u fun e u' => e = .returned (.tuple #[]) ∧ RBox w u' g (row (put ks ⟨z, lines, t⟩))) := fun u g hu => rbox_put z _ _ hu hI
  have PC2 : Hid (∀ u g, RBox w u g (row (put ks ⟨z, lines, t⟩)) → Calls Try.prog 33 #[.slice (some ⟨g, 0, none⟩) 38 38, .int .i64 34, .bool lines, .string t] u fun e u' => e = .returned (.tuple #[]) ∧ RBox w u' g (row (put (put ks ⟨z, lines, t⟩) ⟨34, lines, t⟩))) := fun u g hu => rbox_put 34 _ _ hu (.inl rfl)
  have FC : Hid (∀ u g, RBox w u g (row (put (put ks ⟨z, lines, t⟩) ⟨34, lines, t⟩)) → Calls Try.prog 34 #[.slice (some ⟨g, 0, none⟩) 38 38] u fun e u' => ∃ (A : Option Addr) (c : Nat), e = .returned (.slice A (put (put ks ⟨z, lines, t⟩) ⟨34, lines, t⟩).length c) ∧ Rgs u' A (put (put ks ⟨z, lines, t⟩) ⟨34, lines, t⟩) ∧ (put (put ks ⟨z, lines, t⟩) ⟨34, lines, t⟩).length ≤ c ∧ Below w.heap.size w u') := fun u g hu => rbox_flat hu n2
  clear hx hm ht h hv hz h0 AD hg hs hl hI ha HK n1 n2 hfit h34
  generalize hLg : (put (put ks ⟨z, lines, t⟩) ⟨34, lines, t⟩) = L at *
  go_enter Try.func21, Try.ntmps21
  go_wp2_with (first
    | (go_at_call 25; (with_reducible refine RC.out.mono ?_); rintro e u1 ⟨g, rfl, K1⟩)
    | (go_at_call 32; (with_reducible refine (VC.out _ _ _ K1).mono ?_); rintro e u2 ⟨rfl, K2⟩)
    | (go_at_call 18; (with_reducible refine (NC.out _).mono ?_); rintro e u9 ⟨rfl, rfl⟩)
    | (go_at_call 14; (with_reducible refine (GC.out _ _ _ K2).mono ?_); rintro e u3 ⟨rfl, K3⟩; replace K3 := K3.alloc (.cells #[.int .i64 old.name, .bool old.lines, .string old.text] 32))
    | (go_at_call 33; (with_reducible refine (PC1.out _ _ K3).mono ?_); rintro e u4 ⟨rfl, K4⟩)
    | (go_at_call 33; (with_reducible refine (PC2.out _ _ K4).mono ?_); rintro e u5 ⟨rfl, K5⟩)
    | (go_at_call 34; (with_reducible refine (FC.out _ _ K5).mono ?_); rintro e u7 ⟨A7, c7, rfl, h1, h2, h3⟩))
  go_ret2
  exact ⟨A7, c7, by rw [H.out]; rfl, by rw [H.out]; exact h1, by rw [H.out]; exact h2, h3⟩
set_option maxHeartbeats 4000000 in
set_option maxRecDepth 100000 in
theorem ref21_keep_not_big (n : Int) (t : ByteArray) (lines taken : Bool) {A : Option Addr} {c : Nat} {ks : List Rg} {w : World} (hx : Rgs w A ks) (hm : ks.length ≤ 1000) (ht : t.size ≤ 1048576) {z : Int} (h : Right ks) (hv : Utf.valid t.data.toList = true) (hz : nameN n = z) (h0 : z ≠ 0) (hl : Reg.look ks z = none) (hs : ¬ t.size ≤ 4096) :
    Calls Try.prog 21 #[.slice A ks.length c, .int .i64 n, .string t, .bool lines, .bool taken] w (KeepIs (kept ks n t lines taken) w) := by
  have NC := Lib.hid (ref21_Name n)
  have RC : Hid (Calls Try.prog 25 #[.slice A ks.length c] w fun e u => ∃ g, e = .returned (.slice (some ⟨g, 0, none⟩) 38 38) ∧ RBox w u g (row ks)) := (ref21_row_ok (c := c) hx (by unfold maxLen; omega) h (Below.refl _ w)).mono fun e u ⟨g, h1, h2, h3, h4⟩ => ⟨g, h1, h4, h2, h3⟩
  have VC : Hid (∀ u g R, RBox w u g R → Calls Try.prog 32 #[.string t] u fun e u' => e = .returned (.bool (Utf.valid t.data.toList)) ∧ RBox w u' g R) := fun u g R hu => (ref_Valid t (by omega) u).mono fun e u' h' => ⟨h'.1, hu.on h'.2⟩
  rw [hv] at VC
  rw [hz] at NC
  have AD : added ks n t lines = (lines, t) := by rw [added, hz, hl]; split <;> rfl
  have H : Hid (kept ks n t lines taken = ([], 8)) := big_of h hv hz h0 AD hs
  have hI : IsName z := hz ▸ nameN_is (by rw [hz]; exact h0)
  have hg : get ks n = (Reg.zero, false) := get_none (by rw [hz]; exact hl)
  have GC : Hid (∀ u g R, RBox w u g R → Calls Try.prog 14 #[.slice A ks.length c, .int .i64 n] u fun e u' => e = .returned (.tuple #[.agg #[.int .i64 0, .bool false, .string { data := #[] }], .bool false]) ∧ RBox w u' g R) := fun u g R hu => (ref21_Get n (hx.below hu.below) (by unfold maxLen; omega)).mono fun e u' h' => ⟨by have := h'.1; rw [hg] at this; exact this, hu.on h'.2⟩
  have g0 : (z == 0) = false := by simpa using h0
  have g1 : decide ((4096 : Int) < (t.size : Int)) = true := decide_eq_true (by omega)
  clear hx hm ht h hv hz h0 AD hg hs hl hI
  go_enter Try.func21, Try.ntmps21
  go_wp2_with (first
    | (go_at_call 25; (with_reducible refine RC.out.mono ?_); rintro e u1 ⟨g, rfl, K1⟩)
    | (go_at_call 32; (with_reducible refine (VC.out _ _ _ K1).mono ?_); rintro e u2 ⟨rfl, K2⟩)
    | (go_at_call 18; (with_reducible refine (NC.out _).mono ?_); rintro e u9 ⟨rfl, rfl⟩)
    | (go_at_call 14; (with_reducible refine (GC.out _ _ _ K2).mono ?_); rintro e u3 ⟨rfl, K3⟩; replace K3 := K3.alloc (.cells #[.int .i64 0, .bool false, .string { data := #[] }] 32)))
  go_ret2
  exact ⟨none, 0, by rw [H.out]; rfl, by rw [H.out]; exact Rgs.nil _ _, by rw [H.out]; exact Nat.zero_le _, K3.below⟩
set_option maxHeartbeats 4000000 in
set_option maxRecDepth 100000 in
theorem ref21_keep_not (n : Int) (t : ByteArray) (lines taken : Bool) {A : Option Addr} {c : Nat} {ks : List Rg} {w : World} (hx : Rgs w A ks) (hm : ks.length ≤ 1000) (ht : t.size ≤ 1048576) {z : Int} (h : Right ks) (hv : Utf.valid t.data.toList = true) (hz : nameN n = z) (h0 : z ≠ 0) (hl : Reg.look ks z = none) (hs : t.size ≤ 4096) (h34 : ¬ z = 34) :
    Calls Try.prog 21 #[.slice A ks.length c, .int .i64 n, .string t, .bool lines, .bool taken] w (KeepIs (kept ks n t lines taken) w) := by
  have NC := Lib.hid (ref21_Name n)
  have RC : Hid (Calls Try.prog 25 #[.slice A ks.length c] w fun e u => ∃ g, e = .returned (.slice (some ⟨g, 0, none⟩) 38 38) ∧ RBox w u g (row ks)) := (ref21_row_ok (c := c) hx (by unfold maxLen; omega) h (Below.refl _ w)).mono fun e u ⟨g, h1, h2, h3, h4⟩ => ⟨g, h1, h4, h2, h3⟩
  have VC : Hid (∀ u g R, RBox w u g R → Calls Try.prog 32 #[.string t] u fun e u' => e = .returned (.bool (Utf.valid t.data.toList)) ∧ RBox w u' g R) := fun u g R hu => (ref_Valid t (by omega) u).mono fun e u' h' => ⟨h'.1, hu.on h'.2⟩
  rw [hv] at VC
  rw [hz] at NC
  have AD : added ks n t lines = (lines, t) := by rw [added, hz, hl]; split <;> rfl
  obtain ⟨HK, n1, n2, hfit⟩ := fit_of (taken := taken) h hv hz h0 AD hs
  have hI : IsName z := hz ▸ nameN_is (by rw [hz]; exact h0)
  have hg : get ks n = (Reg.zero, false) := get_none (by rw [hz]; exact hl)
  have GC : Hid (∀ u g R, RBox w u g R → Calls Try.prog 14 #[.slice A ks.length c, .int .i64 n] u fun e u' => e = .returned (.tuple #[.agg #[.int .i64 0, .bool false, .string { data := #[] }], .bool false]) ∧ RBox w u' g R) := fun u g R hu => (ref21_Get n (hx.below hu.below) (by unfold maxLen; omega)).mono fun e u' h' => ⟨by have := h'.1; rw [hg] at this; exact this, hu.on h'.2⟩
  have g0 : (z == 0) = false := by simpa using h0
  have g1 : decide ((4096 : Int) < (t.size : Int)) = false := decide_eq_false (by omega)
  have g2 : (z != 34) = true := by simpa using h34
  have g3 : (z == 34) = false := by simpa using h34
  rw [if_neg h34] at HK
  have H := Lib.hid HK
  have PC1 : Hid (∀ u g, RBox w u g (row ks) → Calls Try.prog 33 #[.slice (some ⟨g, 0, none⟩) 38 38, .int .i64 z, .bool lines, .string t] u fun e u' => e = .returned (.tuple #[]) ∧ RBox w u' g (row (put ks ⟨z, lines, t⟩))) := fun u g hu => rbox_put z _ _ hu hI
  have PC2 : Hid (∀ u g, RBox w u g (row (put ks ⟨z, lines, t⟩)) → Calls Try.prog 33 #[.slice (some ⟨g, 0, none⟩) 38 38, .int .i64 34, .bool lines, .string t] u fun e u' => e = .returned (.tuple #[]) ∧ RBox w u' g (row (put (put ks ⟨z, lines, t⟩) ⟨34, lines, t⟩))) := fun u g hu => rbox_put 34 _ _ hu (.inl rfl)
  have FC : Hid (∀ u g, RBox w u g (row (put (put ks ⟨z, lines, t⟩) ⟨34, lines, t⟩)) → Calls Try.prog 34 #[.slice (some ⟨g, 0, none⟩) 38 38] u fun e u' => ∃ (A : Option Addr) (c : Nat), e = .returned (.slice A (put (put ks ⟨z, lines, t⟩) ⟨34, lines, t⟩).length c) ∧ Rgs u' A (put (put ks ⟨z, lines, t⟩) ⟨34, lines, t⟩) ∧ (put (put ks ⟨z, lines, t⟩) ⟨34, lines, t⟩).length ≤ c ∧ Below w.heap.size w u') := fun u g hu => rbox_flat hu n2
  clear hx hm ht h hv hz h0 AD hg hs hl hI HK n1 n2 hfit h34
  generalize hLg : (put (put ks ⟨z, lines, t⟩) ⟨34, lines, t⟩) = L at *
  go_enter Try.func21, Try.ntmps21
  go_wp2_with (first
    | (go_at_call 25; (with_reducible refine RC.out.mono ?_); rintro e u1 ⟨g, rfl, K1⟩)
    | (go_at_call 32; (with_reducible refine (VC.out _ _ _ K1).mono ?_); rintro e u2 ⟨rfl, K2⟩)
    | (go_at_call 18; (with_reducible refine (NC.out _).mono ?_); rintro e u9 ⟨rfl, rfl⟩)
    | (go_at_call 14; (with_reducible refine (GC.out _ _ _ K2).mono ?_); rintro e u3 ⟨rfl, K3⟩; replace K3 := K3.alloc (.cells #[.int .i64 0, .bool false, .string { data := #[] }] 32))
    | (go_at_call 33; (with_reducible refine (PC1.out _ _ K3).mono ?_); rintro e u4 ⟨rfl, K4⟩)
    | (go_at_call 33; (with_reducible refine (PC2.out _ _ K4).mono ?_); rintro e u5 ⟨rfl, K5⟩)
    | (go_at_call 34; (with_reducible refine (FC.out _ _ K5).mono ?_); rintro e u7 ⟨A7, c7, rfl, h1, h2, h3⟩))
  go_ret2
  exact ⟨A7, c7, by rw [H.out]; rfl, by rw [H.out]; exact h1, by rw [H.out]; exact h2, h3⟩
set_option maxHeartbeats 4000000 in
set_option maxRecDepth 100000 in
theorem ref21_keep_not_yank (n : Int) (t : ByteArray) (lines taken : Bool) {A : Option Addr} {c : Nat} {ks : List Rg} {w : World} (hx : Rgs w A ks) (hm : ks.length ≤ 1000) (ht : t.size ≤ 1048576) {z : Int} (h : Right ks) (hv : Utf.valid t.data.toList = true) (hz : nameN n = z) (h0 : z ≠ 0) (hl : Reg.look ks z = none) (hs : t.size ≤ 4096) (h34 : z = 34) (hT : taken = false) :
    Calls Try.prog 21 #[.slice A ks.length c, .int .i64 n, .string t, .bool lines, .bool taken] w (KeepIs (kept ks n t lines taken) w) := by
  have NC := Lib.hid (ref21_Name n)
  subst hT
  have RC : Hid (Calls Try.prog 25 #[.slice A ks.length c] w fun e u => ∃ g, e = .returned (.slice (some ⟨g, 0, none⟩) 38 38) ∧ RBox w u g (row ks)) := (ref21_row_ok (c := c) hx (by unfold maxLen; omega) h (Below.refl _ w)).mono fun e u ⟨g, h1, h2, h3, h4⟩ => ⟨g, h1, h4, h2, h3⟩
  have VC : Hid (∀ u g R, RBox w u g R → Calls Try.prog 32 #[.string t] u fun e u' => e = .returned (.bool (Utf.valid t.data.toList)) ∧ RBox w u' g R) := fun u g R hu => (ref_Valid t (by omega) u).mono fun e u' h' => ⟨h'.1, hu.on h'.2⟩
  rw [hv] at VC
  rw [hz] at NC
  have AD : added ks n t lines = (lines, t) := by rw [added, hz, hl]; split <;> rfl
  obtain ⟨HK, n1, n2, hfit⟩ := fit_of (taken := false) h hv hz h0 AD hs
  have hI : IsName z := hz ▸ nameN_is (by rw [hz]; exact h0)
  have hg : get ks n = (Reg.zero, false) := get_none (by rw [hz]; exact hl)
  have GC : Hid (∀ u g R, RBox w u g R → Calls Try.prog 14 #[.slice A ks.length c, .int .i64 n] u fun e u' => e = .returned (.tuple #[.agg #[.int .i64 0, .bool false, .string { data := #[] }], .bool false]) ∧ RBox w u' g R) := fun u g R hu => (ref21_Get n (hx.below hu.below) (by unfold maxLen; omega)).mono fun e u' h' => ⟨by have := h'.1; rw [hg] at this; exact this, hu.on h'.2⟩
  have g0 : (z == 0) = false := by simpa using h0
  have g1 : decide ((4096 : Int) < (t.size : Int)) = false := decide_eq_false (by omega)
  have g2 : (z != 34) = false := by subst h34; rfl
  have g3 : (z == 34) = true := by subst h34; rfl
  rw [if_pos h34] at HK
  have H := Lib.hid HK
  have PC1 : Hid (∀ u g, RBox w u g (row ks) → Calls Try.prog 33 #[.slice (some ⟨g, 0, none⟩) 38 38, .int .i64 z, .bool lines, .string t] u fun e u' => e = .returned (.tuple #[]) ∧ RBox w u' g (row (put ks ⟨z, lines, t⟩))) := fun u g hu => rbox_put z _ _ hu hI
  have PC2 : Hid (∀ u g, RBox w u g (row (put ks ⟨z, lines, t⟩)) → Calls Try.prog 33 #[.slice (some ⟨g, 0, none⟩) 38 38, .int .i64 34, .bool lines, .string t] u fun e u' => e = .returned (.tuple #[]) ∧ RBox w u' g (row (put (put ks ⟨z, lines, t⟩) ⟨34, lines, t⟩))) := fun u g hu => rbox_put 34 _ _ hu (.inl rfl)
  have FC : Hid (∀ u g, RBox w u g (row (also (put (put ks ⟨z, lines, t⟩) ⟨34, lines, t⟩) lines t false)) → Calls Try.prog 34 #[.slice (some ⟨g, 0, none⟩) 38 38] u fun e u' => ∃ (A : Option Addr) (c : Nat), e = .returned (.slice A (also (put (put ks ⟨z, lines, t⟩) ⟨34, lines, t⟩) lines t false).length c) ∧ Rgs u' A (also (put (put ks ⟨z, lines, t⟩) ⟨34, lines, t⟩) lines t false) ∧ (also (put (put ks ⟨z, lines, t⟩) ⟨34, lines, t⟩) lines t false).length ≤ c ∧ Below w.heap.size w u') := fun u g hu => rbox_flat hu (also_nam n2 lines t false)
  have hA : also (put (put ks ⟨z, lines, t⟩) ⟨34, lines, t⟩) lines t false = put (put (put ks ⟨z, lines, t⟩) ⟨34, lines, t⟩) ⟨48, lines, t⟩ := rfl
  have PC3 : Hid (∀ u g, RBox w u g (row (put (put ks ⟨z, lines, t⟩) ⟨34, lines, t⟩)) → Calls Try.prog 33 #[.slice (some ⟨g, 0, none⟩) 38 38, .int .i64 48, .bool lines, .string t] u fun e u' => e = .returned (.tuple #[]) ∧ RBox w u' g (row (also (put (put ks ⟨z, lines, t⟩) ⟨34, lines, t⟩) lines t false))) := fun u g hu => by rw [hA]; exact rbox_put 48 _ _ hu (by decide)
  clear hA
  generalize hLg : (also (put (put ks ⟨z, lines, t⟩) ⟨34, lines, t⟩) lines t false) = L at *
  generalize hMg : (put (put ks ⟨z, lines, t⟩) ⟨34, lines, t⟩) = M at *
  have ht2 : t.size ≤ 9223372036854775807 := by omega
  clear hx hm ht h hv hz h0 AD hg hs hl hI HK n1 n2 hfit hLg hMg h34
  go_enter Try.func21, Try.ntmps21
  go_wp2_with (first
    | (go_at_call 25; (with_reducible refine RC.out.mono ?_); rintro e u1 ⟨g, rfl, K1⟩)
    | (go_at_call 32; (with_reducible refine (VC.out _ _ _ K1).mono ?_); rintro e u2 ⟨rfl, K2⟩)
    | (go_at_call 18; (with_reducible refine (NC.out _).mono ?_); rintro e u9 ⟨rfl, rfl⟩)
    | (go_at_call 14; (with_reducible refine (GC.out _ _ _ K2).mono ?_); rintro e u3 ⟨rfl, K3⟩; replace K3 := K3.alloc (.cells #[.int .i64 0, .bool false, .string { data := #[] }] 32))
    | (go_at_call 33; (with_reducible refine (PC1.out _ _ K3).mono ?_); rintro e u4 ⟨rfl, K4⟩)
    | (go_at_call 33; (with_reducible refine (PC2.out _ _ K4).mono ?_); rintro e u5 ⟨rfl, K5⟩))
  go_loopw [18, 19] (fun fv iv wr => ∃ k : Nat, k ≤ t.size ∧ iv = .int .i64 k ∧ fv = .bool (feed t k) ∧ u5 = wr) (fun _ iv _ => t.size - (intOf iv).toNat)
  case atStart => exact ⟨0, Nat.zero_le _, rfl, by rw [feed_zero], rfl⟩
  case round =>
    obtain ⟨k, hk, rfl, rfl, rfl⟩ := hrel
    by_cases hlt : k < t.size
    · have hki : (k : Int) < t.size := by omega
      have hfs := feed_succ t hlt
      generalize hfk : feed t k = fk at *
      cases fk with
      | true =>
        rw [Bool.true_or] at hfs
        have HS := Lib.hid hfs
        clear hfs hfk
        go_wp2
        go_roundw
        case rel => exact ⟨k + 1, by omega, by go_num, by rw [HS.out], trivial⟩
        case measure => simp [intOf]; omega
      | false =>
        rw [Bool.false_or] at hfs
        by_cases hb : t[k].toNat = 10
        · have HS : Hid (feed t (k + 1) = true) := by show _ = _; rw [hfs, hb]; rfl
          have e1 : ((t[k].toNat : Int) == 10) = true := by rw [hb]; rfl
          clear hfs hfk hb
          go_wp2
          go_roundw
          case rel => exact ⟨k + 1, by omega, by go_num, by rw [HS.out], trivial⟩
          case measure => simp [intOf]; omega
        · have HS : Hid (feed t (k + 1) = false) := by show _ = _; rw [hfs]; simpa using hb
          have e1 : ((t[k].toNat : Int) == 10) = false := by simp; omega
          clear hfs hfk hb
          go_wp2
          go_roundw
          case rel => exact ⟨k + 1, by omega, by go_num, by rw [HS.out], trivial⟩
          case measure => simp [intOf]; omega
    · obtain rfl : k = t.size := by omega
      generalize feed t t.size = fd at *
      have KK := K5
      go_wp2_with (first
        | (go_at_call 33; (with_reducible refine (PC3.out _ _ KK).mono ?_); rintro e u6 ⟨rfl, K6⟩)
        | (go_at_call 34; (with_reducible refine (FC.out _ _ K6).mono ?_); rintro e u7 ⟨A7, c7, rfl, h1, h2, h3⟩))
      go_ret2
      exact ⟨A7, c7, by rw [H.out]; rfl, by rw [H.out]; exact h1, by rw [H.out]; exact h2, h3⟩
set_option maxHeartbeats 4000000 in
set_option maxRecDepth 100000 in
theorem ref21_keep_not_lines (n : Int) (t : ByteArray) (lines taken : Bool) {A : Option Addr} {c : Nat} {ks : List Rg} {w : World} (hx : Rgs w A ks) (hm : ks.length ≤ 1000) (ht : t.size ≤ 1048576) {z : Int} (h : Right ks) (hv : Utf.valid t.data.toList = true) (hz : nameN n = z) (h0 : z ≠ 0) (hl : Reg.look ks z = none) (hs : t.size ≤ 4096) (h34 : z = 34) (hT : taken = true) (hL : lines = true) :
    Calls Try.prog 21 #[.slice A ks.length c, .int .i64 n, .string t, .bool lines, .bool taken] w (KeepIs (kept ks n t lines taken) w) := by
  have NC := Lib.hid (ref21_Name n)
  subst hT hL
  have RC : Hid (Calls Try.prog 25 #[.slice A ks.length c] w fun e u => ∃ g, e = .returned (.slice (some ⟨g, 0, none⟩) 38 38) ∧ RBox w u g (row ks)) := (ref21_row_ok (c := c) hx (by unfold maxLen; omega) h (Below.refl _ w)).mono fun e u ⟨g, h1, h2, h3, h4⟩ => ⟨g, h1, h4, h2, h3⟩
  have VC : Hid (∀ u g R, RBox w u g R → Calls Try.prog 32 #[.string t] u fun e u' => e = .returned (.bool (Utf.valid t.data.toList)) ∧ RBox w u' g R) := fun u g R hu => (ref_Valid t (by omega) u).mono fun e u' h' => ⟨h'.1, hu.on h'.2⟩
  rw [hv] at VC
  rw [hz] at NC
  have AD : added ks n t true = (true, t) := by rw [added, hz, hl]; split <;> rfl
  obtain ⟨HK, n1, n2, hfit⟩ := fit_of (taken := true) h hv hz h0 AD hs
  have hI : IsName z := hz ▸ nameN_is (by rw [hz]; exact h0)
  have hg : get ks n = (Reg.zero, false) := get_none (by rw [hz]; exact hl)
  have GC : Hid (∀ u g R, RBox w u g R → Calls Try.prog 14 #[.slice A ks.length c, .int .i64 n] u fun e u' => e = .returned (.tuple #[.agg #[.int .i64 0, .bool false, .string { data := #[] }], .bool false]) ∧ RBox w u' g R) := fun u g R hu => (ref21_Get n (hx.below hu.below) (by unfold maxLen; omega)).mono fun e u' h' => ⟨by have := h'.1; rw [hg] at this; exact this, hu.on h'.2⟩
  have g0 : (z == 0) = false := by simpa using h0
  have g1 : decide ((4096 : Int) < (t.size : Int)) = false := decide_eq_false (by omega)
  have g2 : (z != 34) = false := by subst h34; rfl
  have g3 : (z == 34) = true := by subst h34; rfl
  rw [if_pos h34] at HK
  have H := Lib.hid HK
  have PC1 : Hid (∀ u g, RBox w u g (row ks) → Calls Try.prog 33 #[.slice (some ⟨g, 0, none⟩) 38 38, .int .i64 z, .bool true, .string t] u fun e u' => e = .returned (.tuple #[]) ∧ RBox w u' g (row (put ks ⟨z, true, t⟩))) := fun u g hu => rbox_put z _ _ hu hI
  have PC2 : Hid (∀ u g, RBox w u g (row (put ks ⟨z, true, t⟩)) → Calls Try.prog 33 #[.slice (some ⟨g, 0, none⟩) 38 38, .int .i64 34, .bool true, .string t] u fun e u' => e = .returned (.tuple #[]) ∧ RBox w u' g (row (put (put ks ⟨z, true, t⟩) ⟨34, true, t⟩))) := fun u g hu => rbox_put 34 _ _ hu (.inl rfl)
  have FC : Hid (∀ u g, RBox w u g (row (also (put (put ks ⟨z, true, t⟩) ⟨34, true, t⟩) true t true)) → Calls Try.prog 34 #[.slice (some ⟨g, 0, none⟩) 38 38] u fun e u' => ∃ (A : Option Addr) (c : Nat), e = .returned (.slice A (also (put (put ks ⟨z, true, t⟩) ⟨34, true, t⟩) true t true).length c) ∧ Rgs u' A (also (put (put ks ⟨z, true, t⟩) ⟨34, true, t⟩) true t true) ∧ (also (put (put ks ⟨z, true, t⟩) ⟨34, true, t⟩) true t true).length ≤ c ∧ Below w.heap.size w u') := fun u g hu => rbox_flat hu (also_nam n2 true t true)
  have hA : also (put (put ks ⟨z, true, t⟩) ⟨34, true, t⟩) true t true = put (age (put (put ks ⟨z, true, t⟩) ⟨34, true, t⟩)) ⟨49, true, t⟩ := by unfold also; rw [if_pos rfl, if_pos (by rw [Bool.true_or])]
  have PC3 : Hid (∀ u g, RBox w u g (shiftR (put (put ks ⟨z, true, t⟩) ⟨34, true, t⟩) 49) → Calls Try.prog 33 #[.slice (some ⟨g, 0, none⟩) 38 38, .int .i64 49, .bool true, .string t] u fun e u' => e = .returned (.tuple #[]) ∧ RBox w u' g (row (also (put (put ks ⟨z, true, t⟩) ⟨34, true, t⟩) true t true))) := fun u g hu => by rw [hA]; exact rbox_end (k := ⟨49, true, t⟩) hu rfl
  clear hA
  generalize hLg : (also (put (put ks ⟨z, true, t⟩) ⟨34, true, t⟩) true t true) = L at *
  generalize hMg : (put (put ks ⟨z, true, t⟩) ⟨34, true, t⟩) = M at *
  have ht2 : t.size ≤ 9223372036854775807 := by omega
  clear hx hm ht h hv hz h0 AD hg hs hl hI HK n1 n2 hfit hLg hMg h34
  go_enter Try.func21, Try.ntmps21
  go_wp2_with (first
    | (go_at_call 25; (with_reducible refine RC.out.mono ?_); rintro e u1 ⟨g, rfl, K1⟩)
    | (go_at_call 32; (with_reducible refine (VC.out _ _ _ K1).mono ?_); rintro e u2 ⟨rfl, K2⟩)
    | (go_at_call 18; (with_reducible refine (NC.out _).mono ?_); rintro e u9 ⟨rfl, rfl⟩)
    | (go_at_call 14; (with_reducible refine (GC.out _ _ _ K2).mono ?_); rintro e u3 ⟨rfl, K3⟩; replace K3 := K3.alloc (.cells #[.int .i64 0, .bool false, .string { data := #[] }] 32))
    | (go_at_call 33; (with_reducible refine (PC1.out _ _ K3).mono ?_); rintro e u4 ⟨rfl, K4⟩)
    | (go_at_call 33; (with_reducible refine (PC2.out _ _ K4).mono ?_); rintro e u5 ⟨rfl, K5⟩))
  go_loopw [18, 19] (fun fv iv wr => ∃ k : Nat, k ≤ t.size ∧ iv = .int .i64 k ∧ fv = .bool (feed t k) ∧ u5 = wr) (fun _ iv _ => t.size - (intOf iv).toNat)
  case atStart => exact ⟨0, Nat.zero_le _, rfl, by rw [feed_zero], rfl⟩
  case round =>
    obtain ⟨k, hk, rfl, rfl, rfl⟩ := hrel
    by_cases hlt : k < t.size
    · have hki : (k : Int) < t.size := by omega
      have hfs := feed_succ t hlt
      generalize hfk : feed t k = fk at *
      cases fk with
      | true =>
        rw [Bool.true_or] at hfs
        have HS := Lib.hid hfs
        clear hfs hfk
        go_wp2
        go_roundw
        case rel => exact ⟨k + 1, by omega, by go_num, by rw [HS.out], trivial⟩
        case measure => simp [intOf]; omega
      | false =>
        rw [Bool.false_or] at hfs
        by_cases hb : t[k].toNat = 10
        · have HS : Hid (feed t (k + 1) = true) := by show _ = _; rw [hfs, hb]; rfl
          have e1 : ((t[k].toNat : Int) == 10) = true := by rw [hb]; rfl
          clear hfs hfk hb
          go_wp2
          go_roundw
          case rel => exact ⟨k + 1, by omega, by go_num, by rw [HS.out], trivial⟩
          case measure => simp [intOf]; omega
        · have HS : Hid (feed t (k + 1) = false) := by show _ = _; rw [hfs]; simpa using hb
          have e1 : ((t[k].toNat : Int) == 10) = false := by simp; omega
          clear hfs hfk hb
          go_wp2
          go_roundw
          case rel => exact ⟨k + 1, by omega, by go_num, by rw [HS.out], trivial⟩
          case measure => simp [intOf]; omega
    · obtain rfl : k = t.size := by omega
      generalize feed t t.size = fd at *
      rw [← shiftR_start] at K5
      go_wp2
      go_loopw [20] (fun iv wr => ∃ i : Int, iv = .int .i64 i ∧ 49 ≤ i ∧ i ≤ 57 ∧ RBox w wr g (shiftR M i)) (fun iv _ => (intOf iv - 49).toNat)
      case atStart => exact ⟨57, rfl, by omega, by omega, K5⟩
      case round =>
        clear K5
        obtain ⟨i, rfl, hi1, hi2, KK⟩ := hrel
        by_cases hgt : 49 < i
        · have h50 : 50 ≤ i ∧ i ≤ 57 := ⟨by omega, hi2⟩
          have NX := Lib.hid (shiftR_next M h50)
          have RD := Lib.hid (shiftR_read M h50)
          have SP1 := Lib.hid (ref21_spot (is_num (i := i) (by omega)))
          have SP2 := Lib.hid (ref21_spot (is_num (i := i - 1) (by omega)))
          have hne := spot_ne h50
          have s1 := (nm_spot (is_num (i := i) (by omega))).2
          have s2 := (nm_spot (is_num (i := i - 1) (by omega))).2
          generalize spot (i - 1) = j2 at *
          generalize spot i = j1 at *
          obtain ⟨v0, hv0⟩ := KK.row.some_ s1
          have fz := KK.row.frozen j1
          have hgl := KK.row.lt
          have KS := KK.set j1 (o := none) (v := .slice none 0 0) rfl
          have RD2 : ((shiftR M i).set j1 none)[j2]? = some (Reg.look M (i - 1)) := by rw [List.getElem?_set_ne hne]; exact RD.out
          obtain ⟨v2, hv2, he2⟩ := KS.row.at_ RD2
          have hj1 : (j1 : Int) < 38 := by omega
          have hj2 : (j2 : Int) < 38 := by omega
          have hnj : ¬ j2 = j1 := fun e => hne e.symm
          have hg2 : decide (49 < i) = true := decide_eq_true hgt
          clear RD RD2
          cases hl : Reg.look M (i - 1) with
          | none =>
            rw [hl] at he2
            have hve : v2 = .slice none 0 0 := he2
            rw [hve] at hv2
            have HN : Hid (shiftR M (i - 1) = (shiftR M i).set j1 none) := by show _ = _; rw [NX.out, hl]; rfl
            rw [← HN.out] at KS
            have hv3 : wr.cell? ⟨g, j2, none⟩ = some (.slice none 0 0) := by rw [World.cell?_setCell_other _ _ _ _ (by simp <;> omega)] at hv2; exact hv2
            clear he2 hve NX hl
            go_wp2_with (first
            | (go_at_call 26; (with_reducible refine (SP1.out _).mono ?_); rintro e u9 ⟨rfl, rfl⟩)
            | (go_at_call 26; (with_reducible refine (SP2.out _).mono ?_); rintro e u9 ⟨rfl, rfl⟩))
            go_roundw
            case rel => exact ⟨i - 1, by go_num, by omega, by omega, KS⟩
            case measure => simp [intOf]; omega
          | some x =>
            rw [hl] at he2
            obtain ⟨bb, hve, hbg, hbl, c0, c1, c2⟩ := he2
            rw [hve] at hv2
            have HN : Hid (shiftR M (i - 1) = (shiftR M i).set j1 (some ⟨i, x.lines, x.text⟩)) := by show _ = _; rw [NX.out, hl]; rfl
            have hv3 : wr.cell? ⟨g, j2, none⟩ = some (.slice (some ⟨bb, 0, none⟩) 1 1) := by rw [World.cell?_setCell_other _ _ _ _ (by simp <;> omega)] at hv2; exact hv2
            rw [Nat.zero_add] at c1 c2
            have cc : ∀ q, (wr.setCell ⟨g, j1, none⟩ (.slice none 0 0)).cell? ⟨bb, q, none⟩ = wr.cell? ⟨bb, q, none⟩ := fun q => World.cell?_setCell_other _ _ _ _ (fun e => hbg (Addr.mk.inj e).1.symm)
            rw [cc] at c0 c1 c2
            clear hve NX hl cc
            go_wp2_with (first
            | (go_at_call 26; (with_reducible refine (SP1.out _).mono ?_); rintro e u9 ⟨rfl, rfl⟩)
            | (go_at_call 26; (with_reducible refine (SP2.out _).mono ?_); rintro e u9 ⟨rfl, rfl⟩))
            have KB := KS.alloc (.cells #[.int .i64 i, .bool x.lines, .string x.text] 32)
            have hBB := Blk.new (wr.setCell ⟨g, j1, none⟩ (.slice none 0 0)) 32 #[.int .i64 i, .bool x.lines, .string x.text]
            rw [World.size_setCell] at hBB
            have y0 := hBB.cell 0
            have y1 := hBB.cell 1
            have y2 := hBB.cell 2
            simp at y0 y1 y2
            have hBC := ((Blk.new ((wr.setCell ⟨g, j1, none⟩ (.slice none 0 0)).setCell ⟨g, j1, none⟩ (.slice (some ⟨wr.heap.size + 1, 0, none⟩) 1 1)) 32 #[.int .i64 i, .bool x.lines, .string x.text]).alloc (.cells #[.int .i64 i, .bool x.lines, .string x.text] 32)).drew
            rw [World.size_setCell, World.size_setCell] at hBC
            have x0 := hBC.cell 0
            have x1 := hBC.cell 1
            have x2 := hBC.cell 2
            simp only [List.getElem?_toArray, List.getElem?_cons_zero, List.getElem?_cons_succ] at x0 x1 x2
            have he := Ent.new (w := (wr.setCell ⟨g, j1, none⟩ (.slice none 0 0)).alloc (.cells #[.int .i64 i, .bool x.lines, .string x.text] 32)) (g := g) ⟨i, x.lines, x.text⟩ 32 (by rw [World.size_alloc, World.size_setCell]; omega)
            have KF := (KB.alloc (.cells (Rg.vals ⟨i, x.lines, x.text⟩) 32)).set j1 he
            rw [World.setCell_alloc_past _ _ _ _ (by rw [World.size_alloc, World.size_setCell]; omega), World.setCell_alloc_past _ _ _ _ (by rw [World.size_setCell]; omega), List.set_set, ← HN.out, World.size_alloc, World.size_setCell] at KF
            have KG := Lib.hid KF.drew
            clear he KF KB hBC hBB
            go_region_held3 (fun u => u.cell? ⟨wr.heap.size, 0, none⟩ = some (.int .i64 i) ∧ u.cell? ⟨wr.heap.size, 1, none⟩ = some (.bool x.lines) ∧ u.cell? ⟨wr.heap.size, 2, none⟩ = some (.string x.text)) (first | (with_reducible exact ⟨by assumption, by assumption, by assumption⟩) | go_keep)
              (first | (go_at_call 26; (with_reducible refine (SP1.out _).mono ?_); rintro e u9 ⟨rfl, rfl⟩))
            go_wp2
            go_roundw
            case rel => exact ⟨i - 1, by go_num, by omega, by omega, KG.out⟩
            case measure => simp [intOf]; omega
            case roundEnd => exact ⟨⟨i - 1, rfl, by omega, by omega, KG.out⟩, by simp [intOf]; omega⟩
        · obtain rfl : i = 49 := by omega
          go_wp2_with (first
            | (go_at_call 33; (with_reducible refine (PC3.out _ _ KK).mono ?_); rintro e u6 ⟨rfl, K6⟩)
            | (go_at_call 34; (with_reducible refine (FC.out _ _ K6).mono ?_); rintro e u7 ⟨A7, c7, rfl, h1, h2, h3⟩))
          go_ret2
          exact ⟨A7, c7, by rw [H.out]; rfl, by rw [H.out]; exact h1, by rw [H.out]; exact h2, h3⟩
set_option maxHeartbeats 4000000 in
set_option maxRecDepth 100000 in
theorem ref21_keep_not_feed (n : Int) (t : ByteArray) (lines taken : Bool) {A : Option Addr} {c : Nat} {ks : List Rg} {w : World} (hx : Rgs w A ks) (hm : ks.length ≤ 1000) (ht : t.size ≤ 1048576) {z : Int} (h : Right ks) (hv : Utf.valid t.data.toList = true) (hz : nameN n = z) (h0 : z ≠ 0) (hl : Reg.look ks z = none) (hs : t.size ≤ 4096) (h34 : z = 34) (hT : taken = true) (hL : lines = false) (hF : feed t t.size = true) :
    Calls Try.prog 21 #[.slice A ks.length c, .int .i64 n, .string t, .bool lines, .bool taken] w (KeepIs (kept ks n t lines taken) w) := by
  have NC := Lib.hid (ref21_Name n)
  subst hT hL
  have RC : Hid (Calls Try.prog 25 #[.slice A ks.length c] w fun e u => ∃ g, e = .returned (.slice (some ⟨g, 0, none⟩) 38 38) ∧ RBox w u g (row ks)) := (ref21_row_ok (c := c) hx (by unfold maxLen; omega) h (Below.refl _ w)).mono fun e u ⟨g, h1, h2, h3, h4⟩ => ⟨g, h1, h4, h2, h3⟩
  have VC : Hid (∀ u g R, RBox w u g R → Calls Try.prog 32 #[.string t] u fun e u' => e = .returned (.bool (Utf.valid t.data.toList)) ∧ RBox w u' g R) := fun u g R hu => (ref_Valid t (by omega) u).mono fun e u' h' => ⟨h'.1, hu.on h'.2⟩
  rw [hv] at VC
  rw [hz] at NC
  have AD : added ks n t false = (false, t) := by rw [added, hz, hl]; split <;> rfl
  obtain ⟨HK, n1, n2, hfit⟩ := fit_of (taken := true) h hv hz h0 AD hs
  have hI : IsName z := hz ▸ nameN_is (by rw [hz]; exact h0)
  have hg : get ks n = (Reg.zero, false) := get_none (by rw [hz]; exact hl)
  have GC : Hid (∀ u g R, RBox w u g R → Calls Try.prog 14 #[.slice A ks.length c, .int .i64 n] u fun e u' => e = .returned (.tuple #[.agg #[.int .i64 0, .bool false, .string { data := #[] }], .bool false]) ∧ RBox w u' g R) := fun u g R hu => (ref21_Get n (hx.below hu.below) (by unfold maxLen; omega)).mono fun e u' h' => ⟨by have := h'.1; rw [hg] at this; exact this, hu.on h'.2⟩
  have g0 : (z == 0) = false := by simpa using h0
  have g1 : decide ((4096 : Int) < (t.size : Int)) = false := decide_eq_false (by omega)
  have g2 : (z != 34) = false := by subst h34; rfl
  have g3 : (z == 34) = true := by subst h34; rfl
  rw [if_pos h34] at HK
  have H := Lib.hid HK
  have PC1 : Hid (∀ u g, RBox w u g (row ks) → Calls Try.prog 33 #[.slice (some ⟨g, 0, none⟩) 38 38, .int .i64 z, .bool false, .string t] u fun e u' => e = .returned (.tuple #[]) ∧ RBox w u' g (row (put ks ⟨z, false, t⟩))) := fun u g hu => rbox_put z _ _ hu hI
  have PC2 : Hid (∀ u g, RBox w u g (row (put ks ⟨z, false, t⟩)) → Calls Try.prog 33 #[.slice (some ⟨g, 0, none⟩) 38 38, .int .i64 34, .bool false, .string t] u fun e u' => e = .returned (.tuple #[]) ∧ RBox w u' g (row (put (put ks ⟨z, false, t⟩) ⟨34, false, t⟩))) := fun u g hu => rbox_put 34 _ _ hu (.inl rfl)
  have FC : Hid (∀ u g, RBox w u g (row (also (put (put ks ⟨z, false, t⟩) ⟨34, false, t⟩) false t true)) → Calls Try.prog 34 #[.slice (some ⟨g, 0, none⟩) 38 38] u fun e u' => ∃ (A : Option Addr) (c : Nat), e = .returned (.slice A (also (put (put ks ⟨z, false, t⟩) ⟨34, false, t⟩) false t true).length c) ∧ Rgs u' A (also (put (put ks ⟨z, false, t⟩) ⟨34, false, t⟩) false t true) ∧ (also (put (put ks ⟨z, false, t⟩) ⟨34, false, t⟩) false t true).length ≤ c ∧ Below w.heap.size w u') := fun u g hu => rbox_flat hu (also_nam n2 false t true)
  have hA : also (put (put ks ⟨z, false, t⟩) ⟨34, false, t⟩) false t true = put (age (put (put ks ⟨z, false, t⟩) ⟨34, false, t⟩)) ⟨49, false, t⟩ := by rw [feed_all] at hF; unfold also; rw [if_pos rfl, if_pos (by rw [hF]; rfl)]
  have PC3 : Hid (∀ u g, RBox w u g (shiftR (put (put ks ⟨z, false, t⟩) ⟨34, false, t⟩) 49) → Calls Try.prog 33 #[.slice (some ⟨g, 0, none⟩) 38 38, .int .i64 49, .bool false, .string t] u fun e u' => e = .returned (.tuple #[]) ∧ RBox w u' g (row (also (put (put ks ⟨z, false, t⟩) ⟨34, false, t⟩) false t true))) := fun u g hu => by rw [hA]; exact rbox_end (k := ⟨49, false, t⟩) hu rfl
  clear hA
  generalize hLg : (also (put (put ks ⟨z, false, t⟩) ⟨34, false, t⟩) false t true) = L at *
  generalize hMg : (put (put ks ⟨z, false, t⟩) ⟨34, false, t⟩) = M at *
  have ht2 : t.size ≤ 9223372036854775807 := by omega
  clear hx hm ht h hv hz h0 AD hg hs hl hI HK n1 n2 hfit hLg hMg h34
  have HF := Lib.hid hF
  clear hF
  go_enter Try.func21, Try.ntmps21
  go_wp2_with (first
    | (go_at_call 25; (with_reducible refine RC.out.mono ?_); rintro e u1 ⟨g, rfl, K1⟩)
    | (go_at_call 32; (with_reducible refine (VC.out _ _ _ K1).mono ?_); rintro e u2 ⟨rfl, K2⟩)
    | (go_at_call 18; (with_reducible refine (NC.out _).mono ?_); rintro e u9 ⟨rfl, rfl⟩)
    | (go_at_call 14; (with_reducible refine (GC.out _ _ _ K2).mono ?_); rintro e u3 ⟨rfl, K3⟩; replace K3 := K3.alloc (.cells #[.int .i64 0, .bool false, .string { data := #[] }] 32))
    | (go_at_call 33; (with_reducible refine (PC1.out _ _ K3).mono ?_); rintro e u4 ⟨rfl, K4⟩)
    | (go_at_call 33; (with_reducible refine (PC2.out _ _ K4).mono ?_); rintro e u5 ⟨rfl, K5⟩))
  go_loopw [18, 19] (fun fv iv wr => ∃ k : Nat, k ≤ t.size ∧ iv = .int .i64 k ∧ fv = .bool (feed t k) ∧ u5 = wr) (fun _ iv _ => t.size - (intOf iv).toNat)
  case atStart => exact ⟨0, Nat.zero_le _, rfl, by rw [feed_zero], rfl⟩
  case round =>
    obtain ⟨k, hk, rfl, rfl, rfl⟩ := hrel
    by_cases hlt : k < t.size
    · have hki : (k : Int) < t.size := by omega
      have hfs := feed_succ t hlt
      generalize hfk : feed t k = fk at *
      cases fk with
      | true =>
        rw [Bool.true_or] at hfs
        have HS := Lib.hid hfs
        clear hfs hfk
        go_wp2
        go_roundw
        case rel => exact ⟨k + 1, by omega, by go_num, by rw [HS.out], trivial⟩
        case measure => simp [intOf]; omega
      | false =>
        rw [Bool.false_or] at hfs
        by_cases hb : t[k].toNat = 10
        · have HS : Hid (feed t (k + 1) = true) := by show _ = _; rw [hfs, hb]; rfl
          have e1 : ((t[k].toNat : Int) == 10) = true := by rw [hb]; rfl
          clear hfs hfk hb
          go_wp2
          go_roundw
          case rel => exact ⟨k + 1, by omega, by go_num, by rw [HS.out], trivial⟩
          case measure => simp [intOf]; omega
        · have HS : Hid (feed t (k + 1) = false) := by show _ = _; rw [hfs]; simpa using hb
          have e1 : ((t[k].toNat : Int) == 10) = false := by simp; omega
          clear hfs hfk hb
          go_wp2
          go_roundw
          case rel => exact ⟨k + 1, by omega, by go_num, by rw [HS.out], trivial⟩
          case measure => simp [intOf]; omega
    · obtain rfl : k = t.size := by omega
      rw [HF.out]
      rw [← shiftR_start] at K5
      go_wp2
      go_loopw [20] (fun iv wr => ∃ i : Int, iv = .int .i64 i ∧ 49 ≤ i ∧ i ≤ 57 ∧ RBox w wr g (shiftR M i)) (fun iv _ => (intOf iv - 49).toNat)
      case atStart => exact ⟨57, rfl, by omega, by omega, K5⟩
      case round =>
        clear K5
        obtain ⟨i, rfl, hi1, hi2, KK⟩ := hrel
        by_cases hgt : 49 < i
        · have h50 : 50 ≤ i ∧ i ≤ 57 := ⟨by omega, hi2⟩
          have NX := Lib.hid (shiftR_next M h50)
          have RD := Lib.hid (shiftR_read M h50)
          have SP1 := Lib.hid (ref21_spot (is_num (i := i) (by omega)))
          have SP2 := Lib.hid (ref21_spot (is_num (i := i - 1) (by omega)))
          have hne := spot_ne h50
          have s1 := (nm_spot (is_num (i := i) (by omega))).2
          have s2 := (nm_spot (is_num (i := i - 1) (by omega))).2
          generalize spot (i - 1) = j2 at *
          generalize spot i = j1 at *
          obtain ⟨v0, hv0⟩ := KK.row.some_ s1
          have fz := KK.row.frozen j1
          have hgl := KK.row.lt
          have KS := KK.set j1 (o := none) (v := .slice none 0 0) rfl
          have RD2 : ((shiftR M i).set j1 none)[j2]? = some (Reg.look M (i - 1)) := by rw [List.getElem?_set_ne hne]; exact RD.out
          obtain ⟨v2, hv2, he2⟩ := KS.row.at_ RD2
          have hj1 : (j1 : Int) < 38 := by omega
          have hj2 : (j2 : Int) < 38 := by omega
          have hnj : ¬ j2 = j1 := fun e => hne e.symm
          have hg2 : decide (49 < i) = true := decide_eq_true hgt
          clear RD RD2
          cases hl : Reg.look M (i - 1) with
          | none =>
            rw [hl] at he2
            have hve : v2 = .slice none 0 0 := he2
            rw [hve] at hv2
            have HN : Hid (shiftR M (i - 1) = (shiftR M i).set j1 none) := by show _ = _; rw [NX.out, hl]; rfl
            rw [← HN.out] at KS
            have hv3 : wr.cell? ⟨g, j2, none⟩ = some (.slice none 0 0) := by rw [World.cell?_setCell_other _ _ _ _ (by simp <;> omega)] at hv2; exact hv2
            clear he2 hve NX hl
            go_wp2_with (first
            | (go_at_call 26; (with_reducible refine (SP1.out _).mono ?_); rintro e u9 ⟨rfl, rfl⟩)
            | (go_at_call 26; (with_reducible refine (SP2.out _).mono ?_); rintro e u9 ⟨rfl, rfl⟩))
            go_roundw
            case rel => exact ⟨i - 1, by go_num, by omega, by omega, KS⟩
            case measure => simp [intOf]; omega
          | some x =>
            rw [hl] at he2
            obtain ⟨bb, hve, hbg, hbl, c0, c1, c2⟩ := he2
            rw [hve] at hv2
            have HN : Hid (shiftR M (i - 1) = (shiftR M i).set j1 (some ⟨i, x.lines, x.text⟩)) := by show _ = _; rw [NX.out, hl]; rfl
            have hv3 : wr.cell? ⟨g, j2, none⟩ = some (.slice (some ⟨bb, 0, none⟩) 1 1) := by rw [World.cell?_setCell_other _ _ _ _ (by simp <;> omega)] at hv2; exact hv2
            rw [Nat.zero_add] at c1 c2
            have cc : ∀ q, (wr.setCell ⟨g, j1, none⟩ (.slice none 0 0)).cell? ⟨bb, q, none⟩ = wr.cell? ⟨bb, q, none⟩ := fun q => World.cell?_setCell_other _ _ _ _ (fun e => hbg (Addr.mk.inj e).1.symm)
            rw [cc] at c0 c1 c2
            clear hve NX hl cc
            go_wp2_with (first
            | (go_at_call 26; (with_reducible refine (SP1.out _).mono ?_); rintro e u9 ⟨rfl, rfl⟩)
            | (go_at_call 26; (with_reducible refine (SP2.out _).mono ?_); rintro e u9 ⟨rfl, rfl⟩))
            have KB := KS.alloc (.cells #[.int .i64 i, .bool x.lines, .string x.text] 32)
            have hBB := Blk.new (wr.setCell ⟨g, j1, none⟩ (.slice none 0 0)) 32 #[.int .i64 i, .bool x.lines, .string x.text]
            rw [World.size_setCell] at hBB
            have y0 := hBB.cell 0
            have y1 := hBB.cell 1
            have y2 := hBB.cell 2
            simp at y0 y1 y2
            have hBC := ((Blk.new ((wr.setCell ⟨g, j1, none⟩ (.slice none 0 0)).setCell ⟨g, j1, none⟩ (.slice (some ⟨wr.heap.size + 1, 0, none⟩) 1 1)) 32 #[.int .i64 i, .bool x.lines, .string x.text]).alloc (.cells #[.int .i64 i, .bool x.lines, .string x.text] 32)).drew
            rw [World.size_setCell, World.size_setCell] at hBC
            have x0 := hBC.cell 0
            have x1 := hBC.cell 1
            have x2 := hBC.cell 2
            simp only [List.getElem?_toArray, List.getElem?_cons_zero, List.getElem?_cons_succ] at x0 x1 x2
            have he := Ent.new (w := (wr.setCell ⟨g, j1, none⟩ (.slice none 0 0)).alloc (.cells #[.int .i64 i, .bool x.lines, .string x.text] 32)) (g := g) ⟨i, x.lines, x.text⟩ 32 (by rw [World.size_alloc, World.size_setCell]; omega)
            have KF := (KB.alloc (.cells (Rg.vals ⟨i, x.lines, x.text⟩) 32)).set j1 he
            rw [World.setCell_alloc_past _ _ _ _ (by rw [World.size_alloc, World.size_setCell]; omega), World.setCell_alloc_past _ _ _ _ (by rw [World.size_setCell]; omega), List.set_set, ← HN.out, World.size_alloc, World.size_setCell] at KF
            have KG := Lib.hid KF.drew
            clear he KF KB hBC hBB
            go_region_held3 (fun u => u.cell? ⟨wr.heap.size, 0, none⟩ = some (.int .i64 i) ∧ u.cell? ⟨wr.heap.size, 1, none⟩ = some (.bool x.lines) ∧ u.cell? ⟨wr.heap.size, 2, none⟩ = some (.string x.text)) (first | (with_reducible exact ⟨by assumption, by assumption, by assumption⟩) | go_keep)
              (first | (go_at_call 26; (with_reducible refine (SP1.out _).mono ?_); rintro e u9 ⟨rfl, rfl⟩))
            go_wp2
            go_roundw
            case rel => exact ⟨i - 1, by go_num, by omega, by omega, KG.out⟩
            case measure => simp [intOf]; omega
            case roundEnd => exact ⟨⟨i - 1, rfl, by omega, by omega, KG.out⟩, by simp [intOf]; omega⟩
        · obtain rfl : i = 49 := by omega
          go_wp2_with (first
            | (go_at_call 33; (with_reducible refine (PC3.out _ _ KK).mono ?_); rintro e u6 ⟨rfl, K6⟩)
            | (go_at_call 34; (with_reducible refine (FC.out _ _ K6).mono ?_); rintro e u7 ⟨A7, c7, rfl, h1, h2, h3⟩))
          go_ret2
          exact ⟨A7, c7, by rw [H.out]; rfl, by rw [H.out]; exact h1, by rw [H.out]; exact h2, h3⟩
set_option maxHeartbeats 4000000 in
set_option maxRecDepth 100000 in
theorem ref21_keep_not_none (n : Int) (t : ByteArray) (lines taken : Bool) {A : Option Addr} {c : Nat} {ks : List Rg} {w : World} (hx : Rgs w A ks) (hm : ks.length ≤ 1000) (ht : t.size ≤ 1048576) {z : Int} (h : Right ks) (hv : Utf.valid t.data.toList = true) (hz : nameN n = z) (h0 : z ≠ 0) (hl : Reg.look ks z = none) (hs : t.size ≤ 4096) (h34 : z = 34) (hT : taken = true) (hL : lines = false) (hF : feed t t.size = false) :
    Calls Try.prog 21 #[.slice A ks.length c, .int .i64 n, .string t, .bool lines, .bool taken] w (KeepIs (kept ks n t lines taken) w) := by
  have NC := Lib.hid (ref21_Name n)
  subst hT hL
  have RC : Hid (Calls Try.prog 25 #[.slice A ks.length c] w fun e u => ∃ g, e = .returned (.slice (some ⟨g, 0, none⟩) 38 38) ∧ RBox w u g (row ks)) := (ref21_row_ok (c := c) hx (by unfold maxLen; omega) h (Below.refl _ w)).mono fun e u ⟨g, h1, h2, h3, h4⟩ => ⟨g, h1, h4, h2, h3⟩
  have VC : Hid (∀ u g R, RBox w u g R → Calls Try.prog 32 #[.string t] u fun e u' => e = .returned (.bool (Utf.valid t.data.toList)) ∧ RBox w u' g R) := fun u g R hu => (ref_Valid t (by omega) u).mono fun e u' h' => ⟨h'.1, hu.on h'.2⟩
  rw [hv] at VC
  rw [hz] at NC
  have AD : added ks n t false = (false, t) := by rw [added, hz, hl]; split <;> rfl
  obtain ⟨HK, n1, n2, hfit⟩ := fit_of (taken := true) h hv hz h0 AD hs
  have hI : IsName z := hz ▸ nameN_is (by rw [hz]; exact h0)
  have hg : get ks n = (Reg.zero, false) := get_none (by rw [hz]; exact hl)
  have GC : Hid (∀ u g R, RBox w u g R → Calls Try.prog 14 #[.slice A ks.length c, .int .i64 n] u fun e u' => e = .returned (.tuple #[.agg #[.int .i64 0, .bool false, .string { data := #[] }], .bool false]) ∧ RBox w u' g R) := fun u g R hu => (ref21_Get n (hx.below hu.below) (by unfold maxLen; omega)).mono fun e u' h' => ⟨by have := h'.1; rw [hg] at this; exact this, hu.on h'.2⟩
  have g0 : (z == 0) = false := by simpa using h0
  have g1 : decide ((4096 : Int) < (t.size : Int)) = false := decide_eq_false (by omega)
  have g2 : (z != 34) = false := by subst h34; rfl
  have g3 : (z == 34) = true := by subst h34; rfl
  rw [if_pos h34] at HK
  have H := Lib.hid HK
  have PC1 : Hid (∀ u g, RBox w u g (row ks) → Calls Try.prog 33 #[.slice (some ⟨g, 0, none⟩) 38 38, .int .i64 z, .bool false, .string t] u fun e u' => e = .returned (.tuple #[]) ∧ RBox w u' g (row (put ks ⟨z, false, t⟩))) := fun u g hu => rbox_put z _ _ hu hI
  have PC2 : Hid (∀ u g, RBox w u g (row (put ks ⟨z, false, t⟩)) → Calls Try.prog 33 #[.slice (some ⟨g, 0, none⟩) 38 38, .int .i64 34, .bool false, .string t] u fun e u' => e = .returned (.tuple #[]) ∧ RBox w u' g (row (put (put ks ⟨z, false, t⟩) ⟨34, false, t⟩))) := fun u g hu => rbox_put 34 _ _ hu (.inl rfl)
  have FC : Hid (∀ u g, RBox w u g (row (also (put (put ks ⟨z, false, t⟩) ⟨34, false, t⟩) false t true)) → Calls Try.prog 34 #[.slice (some ⟨g, 0, none⟩) 38 38] u fun e u' => ∃ (A : Option Addr) (c : Nat), e = .returned (.slice A (also (put (put ks ⟨z, false, t⟩) ⟨34, false, t⟩) false t true).length c) ∧ Rgs u' A (also (put (put ks ⟨z, false, t⟩) ⟨34, false, t⟩) false t true) ∧ (also (put (put ks ⟨z, false, t⟩) ⟨34, false, t⟩) false t true).length ≤ c ∧ Below w.heap.size w u') := fun u g hu => rbox_flat hu (also_nam n2 false t true)
  have hA : also (put (put ks ⟨z, false, t⟩) ⟨34, false, t⟩) false t true = put (put (put ks ⟨z, false, t⟩) ⟨34, false, t⟩) ⟨45, false, t⟩ := by rw [feed_all] at hF; unfold also; rw [if_pos rfl, hF]; rfl
  have PC3 : Hid (∀ u g, RBox w u g (row (put (put ks ⟨z, false, t⟩) ⟨34, false, t⟩)) → Calls Try.prog 33 #[.slice (some ⟨g, 0, none⟩) 38 38, .int .i64 45, .bool false, .string t] u fun e u' => e = .returned (.tuple #[]) ∧ RBox w u' g (row (also (put (put ks ⟨z, false, t⟩) ⟨34, false, t⟩) false t true))) := fun u g hu => by rw [hA]; exact rbox_put 45 _ _ hu (by decide)
  clear hA
  generalize hLg : (also (put (put ks ⟨z, false, t⟩) ⟨34, false, t⟩) false t true) = L at *
  generalize hMg : (put (put ks ⟨z, false, t⟩) ⟨34, false, t⟩) = M at *
  have ht2 : t.size ≤ 9223372036854775807 := by omega
  clear hx hm ht h hv hz h0 AD hg hs hl hI HK n1 n2 hfit hLg hMg h34
  have HF := Lib.hid hF
  clear hF
  go_enter Try.func21, Try.ntmps21
  go_wp2_with (first
    | (go_at_call 25; (with_reducible refine RC.out.mono ?_); rintro e u1 ⟨g, rfl, K1⟩)
    | (go_at_call 32; (with_reducible refine (VC.out _ _ _ K1).mono ?_); rintro e u2 ⟨rfl, K2⟩)
    | (go_at_call 18; (with_reducible refine (NC.out _).mono ?_); rintro e u9 ⟨rfl, rfl⟩)
    | (go_at_call 14; (with_reducible refine (GC.out _ _ _ K2).mono ?_); rintro e u3 ⟨rfl, K3⟩; replace K3 := K3.alloc (.cells #[.int .i64 0, .bool false, .string { data := #[] }] 32))
    | (go_at_call 33; (with_reducible refine (PC1.out _ _ K3).mono ?_); rintro e u4 ⟨rfl, K4⟩)
    | (go_at_call 33; (with_reducible refine (PC2.out _ _ K4).mono ?_); rintro e u5 ⟨rfl, K5⟩))
  go_loopw [18, 19] (fun fv iv wr => ∃ k : Nat, k ≤ t.size ∧ iv = .int .i64 k ∧ fv = .bool (feed t k) ∧ u5 = wr) (fun _ iv _ => t.size - (intOf iv).toNat)
  case atStart => exact ⟨0, Nat.zero_le _, rfl, by rw [feed_zero], rfl⟩
  case round =>
    obtain ⟨k, hk, rfl, rfl, rfl⟩ := hrel
    by_cases hlt : k < t.size
    · have hki : (k : Int) < t.size := by omega
      have hfs := feed_succ t hlt
      generalize hfk : feed t k = fk at *
      cases fk with
      | true =>
        rw [Bool.true_or] at hfs
        have HS := Lib.hid hfs
        clear hfs hfk
        go_wp2
        go_roundw
        case rel => exact ⟨k + 1, by omega, by go_num, by rw [HS.out], trivial⟩
        case measure => simp [intOf]; omega
      | false =>
        rw [Bool.false_or] at hfs
        by_cases hb : t[k].toNat = 10
        · have HS : Hid (feed t (k + 1) = true) := by show _ = _; rw [hfs, hb]; rfl
          have e1 : ((t[k].toNat : Int) == 10) = true := by rw [hb]; rfl
          clear hfs hfk hb
          go_wp2
          go_roundw
          case rel => exact ⟨k + 1, by omega, by go_num, by rw [HS.out], trivial⟩
          case measure => simp [intOf]; omega
        · have HS : Hid (feed t (k + 1) = false) := by show _ = _; rw [hfs]; simpa using hb
          have e1 : ((t[k].toNat : Int) == 10) = false := by simp; omega
          clear hfs hfk hb
          go_wp2
          go_roundw
          case rel => exact ⟨k + 1, by omega, by go_num, by rw [HS.out], trivial⟩
          case measure => simp [intOf]; omega
    · obtain rfl : k = t.size := by omega
      rw [HF.out]
      have KK := K5
      go_wp2_with (first
        | (go_at_call 33; (with_reducible refine (PC3.out _ _ KK).mono ?_); rintro e u6 ⟨rfl, K6⟩)
        | (go_at_call 34; (with_reducible refine (FC.out _ _ K6).mono ?_); rintro e u7 ⟨A7, c7, rfl, h1, h2, h3⟩))
      go_ret2
      exact ⟨A7, c7, by rw [H.out]; rfl, by rw [H.out]; exact h1, by rw [H.out]; exact h2, h3⟩
theorem ref21_keep (n : Int) (t : ByteArray) (lines taken : Bool) {A : Option Addr} {c : Nat} {ks : List Rg} {w : World} (hx : Rgs w A ks) (hm : ks.length ≤ 1000) (ht : t.size ≤ 1048576) :
    Calls Try.prog 21 #[.slice A ks.length c, .int .i64 n, .string t, .bool lines, .bool taken] w (KeepIs (kept ks n t lines taken) w) := by
  by_cases h : Right ks
  · by_cases hv : Utf.valid t.data.toList = true
    · by_cases h0 : nameN n = 0
      · exact ref21_keep_noname n t lines taken hx hm ht h hv h0
      · cases hl : Reg.look ks (nameN n) with
        | none =>
          by_cases hs : t.size ≤ 4096
          · by_cases h34 : nameN n = 34
            · cases hT : taken with
              | false => subst hT; exact ref21_keep_not_yank n t lines false hx hm ht h hv rfl h0 hl hs h34 rfl
              | true =>
                subst hT
                cases hL : lines with
                | true => subst hL; exact ref21_keep_not_lines n t true true hx hm ht h hv rfl h0 hl hs h34 rfl rfl
                | false =>
                  subst hL
                  cases hF : feed t t.size with
                  | true => exact ref21_keep_not_feed n t false true hx hm ht h hv rfl h0 hl hs h34 rfl rfl hF
                  | false => exact ref21_keep_not_none n t false true hx hm ht h hv rfl h0 hl hs h34 rfl rfl hF
            · exact ref21_keep_not n t lines taken hx hm ht h hv rfl h0 hl hs h34
          · exact ref21_keep_not_big n t lines taken hx hm ht h hv rfl h0 hl hs
        | some old =>
          by_cases ha : 65 ≤ n ∧ n ≤ 90
          · obtain ⟨on, ol, ot⟩ := old
            cases hL : lines with
            | true =>
              subst hL
              by_cases hs : (ot ++ ({ data := #[10] } : ByteArray) ++ t).size ≤ 4096
              · exact ref21_keep_addT n t true taken hx hm ht h hv rfl h0 ha hl rfl hs
              · exact ref21_keep_addT_big n t true taken hx hm ht h hv rfl h0 ha hl rfl hs
            | false =>
              subst hL
              cases ol with
              | true =>
                by_cases hs : (ot ++ ({ data := #[10] } : ByteArray) ++ t).size ≤ 4096
                · exact ref21_keep_addF n t false taken hx hm ht h hv rfl h0 ha hl rfl hs
                · exact ref21_keep_addF_big n t false taken hx hm ht h hv rfl h0 ha hl rfl hs
              | false =>
                by_cases hs : (ot ++ t).size ≤ 4096
                · exact ref21_keep_addN n t false taken hx hm ht h hv rfl h0 ha hl rfl hs
                · exact ref21_keep_addN_big n t false taken hx hm ht h hv rfl h0 ha hl rfl hs
          · by_cases h65 : n < 65
            · by_cases hs : t.size ≤ 4096
              · by_cases h34 : nameN n = 34
                · cases hT : taken with
                  | false => subst hT; exact ref21_keep_hasL_yank n t lines false hx hm ht h hv rfl h0 h65 hl hs h34 rfl
                  | true =>
                    subst hT
                    cases hL : lines with
                    | true => subst hL; exact ref21_keep_hasL_lines n t true true hx hm ht h hv rfl h0 h65 hl hs h34 rfl rfl
                    | false =>
                      subst hL
                      cases hF : feed t t.size with
                      | true => exact ref21_keep_hasL_feed n t false true hx hm ht h hv rfl h0 h65 hl hs h34 rfl rfl hF
                      | false => exact ref21_keep_hasL_none n t false true hx hm ht h hv rfl h0 h65 hl hs h34 rfl rfl hF
                · exact ref21_keep_hasL n t lines taken hx hm ht h hv rfl h0 h65 hl hs h34
              · exact ref21_keep_hasL_big n t lines taken hx hm ht h hv rfl h0 h65 hl hs
            · have h90 : 90 < n := by omega
              by_cases hs : t.size ≤ 4096
              · by_cases h34 : nameN n = 34
                · exfalso
                  unfold nameN at h34
                  rw [if_neg (by omega), if_neg (by omega)] at h34
                  split at h34 <;> omega
                · exact ref21_keep_hasG n t lines taken hx hm ht h hv rfl h0 h90 hl hs h34
              · exact ref21_keep_hasG_big n t lines taken hx hm ht h hv rfl h0 h90 hl hs
    · exact ref21_keep_invalid n t lines taken hx hm ht h hv
  · exact ref21_keep_wrong n t lines taken hx hm ht h
theorem ref21_Yank (n : Int) (t : ByteArray) (lines : Bool) {A : Option Addr} {c : Nat} {ks : List Rg} {w : World} (hx : Rgs w A ks) (hm : ks.length ≤ 1000) (ht : t.size ≤ 1048576) :
    Calls Try.prog 9 #[.slice A ks.length c, .int .i64 n, .string t, .bool lines] w (KeepIs (kept ks n t lines false) w) := by
  have C := Lib.hid (ref21_keep (c := c) n t lines false hx hm ht)
  clear hx hm ht
  go_enter Try.func9, Try.ntmps9
  go_wp2_with (go_at_call 21; (with_reducible refine C.out.mono ?_); rintro e w1 ⟨A1, c1, rfl, h1, h2, h3⟩)
  go_ret2
  exact ⟨A1, c1, rfl, h1, h2, h3⟩
theorem ref21_Delete (n : Int) (t : ByteArray) (lines : Bool) {A : Option Addr} {c : Nat} {ks : List Rg} {w : World} (hx : Rgs w A ks) (hm : ks.length ≤ 1000) (ht : t.size ≤ 1048576) :
    Calls Try.prog 11 #[.slice A ks.length c, .int .i64 n, .string t, .bool lines] w (KeepIs (kept ks n t lines true) w) := by
  have C := Lib.hid (ref21_keep (c := c) n t lines true hx hm ht)
  clear hx hm ht
  go_enter Try.func11, Try.ntmps11
  go_wp2_with (go_at_call 21; (with_reducible refine C.out.mono ?_); rintro e w1 ⟨A1, c1, rfl, h1, h2, h3⟩)
  go_ret2
  exact ⟨A1, c1, rfl, h1, h2, h3⟩
end Go.Proofs.Ytopplkfbnpamdaa
