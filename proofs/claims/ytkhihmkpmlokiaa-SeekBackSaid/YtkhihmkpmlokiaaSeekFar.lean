/-
  Going on n times by a method that is handed on as a value; and where a find of each kind leads.
-/
import Derived.Test.YtkhihmkpmlokiaaSeekRow
namespace Go.Proofs.Ytkhihmkpmlokiaa
open Go.RowKit
namespace Seek
open Utf (dec off one rune)
/-- What is found is a place of the line. -/
theorem step_good {s r : List UInt8} {rs : List (List UInt8)} (hd : dec s = some rs) (h1 : one r = true) {on : Bool} {a b : Nat} {p : Int} (h : ¬ nth on (hits s r a b) p 1 < 0) : ∃ q k : Nat, nth on (hits s r a b) p 1 = q ∧ a ≤ q ∧ q ≤ b ∧ off rs k = q := by
  obtain ⟨n, e, g1, g2, g3⟩ := mem_hits.1 (mem_side (nth_mem (Int.not_lt.1 h))).1
  obtain ⟨u, hu, he⟩ := (rune_iff hd (Utf.one_ne h1) _).1 g3
  exact ⟨n, u, e, g1, by omega, by omega⟩
/-- What is so of a place on the way. -/
def Way (rs : List (List UInt8)) (a b : Nat) (f : Int → Int) (N V : Int) (i cur : Nat) : Prop := (i : Int) ≤ N ∧ a ≤ cur ∧ cur ≤ b ∧ (∃ k, off rs k = cur) ∧ itr f (N - i).toNat cur = V
end Seek
abbrev fnBehind (s r : ByteArray) (a b : Nat) : Value := .func (.func 39) #[rowV s r a b] #[]
abbrev fnAhead (s r : ByteArray) (a b : Nat) : Value := .func (.func 40) #[rowV s r a b] #[]
set_option maxHeartbeats 1000000 in
set_option maxRecDepth 100000 in
theorem seek_far_behind (s r : ByteArray) {rs : List (List UInt8)} (hd : Utf.dec s.data.toList = some rs) (h1 : Utf.one r.data.toList = true) {a b p j k0 : Nat} (ha : a ≤ p) (hp : p ≤ b) (hb : b ≤ s.size) (hs : s.size < 4294967281) (hj : Utf.off rs j = b) (hk : Utf.off rs k0 = p) (n : Int) (hn : n ≤ 9223372036854775807) (w : World) (hm : MaxAt w) :
    Calls Try.prog 38 #[.int .i64 p, .int .i64 n, fnBehind s r a b] w fun e w' => e = .returned (.int .i64 (Seek.nth true (Seek.hits s.data.toList r.data.toList a b) p (Seek.times n))) ∧ Below w.heap.size w w' := by
  have C0 := Lib.hid (fun (q k : Nat) (h2 : a ≤ q) (h3 : q ≤ b) (h4 : Utf.off rs k = q) (w : World) (hm : MaxAt w) => seek_behind s r hd h1 h2 h3 hb hs hj w hm)
  have hV := Seek.itr_nth (on := true) (Seek.hits_up s.data.toList r.data.toList a b) (fun x hx => by obtain ⟨y, rfl, _⟩ := Seek.mem_hits.1 hx; omega) (Seek.times n - 1) p
  have ht := Seek.times_pos n
  rw [show Seek.times n - 1 + 1 = Seek.times n by omega] at hV
  rw [← hV]
  have G0 := Lib.hid (fun (q : Int) (h : ¬ Seek.nth true (Seek.hits s.data.toList r.data.toList a b) q 1 < 0) => Seek.step_good hd h1 h)
  have GE0 := Lib.hid (fun (q : Int) => Seek.nth_ge (on := true) (l := Seek.hits s.data.toList r.data.toList a b) (fun x hx => by obtain ⟨y, rfl, _⟩ := Seek.mem_hits.1 hx; omega) q 1)
  obtain ⟨f, hf⟩ : ∃ f : Int → Int, f = fun q => Seek.nth true (Seek.hits s.data.toList r.data.toList a b) q 1 := ⟨_, rfl⟩
  have C : Hid (∀ (q k : Nat), a ≤ q → q ≤ b → Utf.off rs k = q → ∀ (w : World), MaxAt w → Calls Try.prog 39 #[rowV s r a b, .int .i64 q] w fun e w' => e = .returned (.int .i64 (f q)) ∧ Below w.heap.size w w') := by rw [hf]; exact C0.out
  have G : Hid (∀ q : Int, 0 ≤ f q → ∃ x k : Nat, f q = x ∧ a ≤ x ∧ x ≤ b ∧ Utf.off rs k = x) := by rw [hf]; exact fun q h => G0.out q (Int.not_lt.2 h)
  have GE : Hid (∀ q : Int, -1 ≤ f q) := by rw [hf]; exact GE0.out
  rw [← hf]
  obtain ⟨V, hVV⟩ : ∃ V, Seek.itr f (Seek.times n) p = V := ⟨_, rfl⟩
  have hN : (Seek.times n : Int) = max n 1 := by unfold Seek.times; omega
  have h0 : Hid (Seek.Way rs a b f (max n 1) V 0 p) := ⟨by omega, ha, hp, ⟨k0, hk⟩, by rw [show (max n 1 - ((0 : Nat) : Int)).toNat = Seek.times n by omega]; exact hVV⟩
  rw [hVV]
  have hNb : max n 1 ≤ 9223372036854775807 := by omega
  clear hd h1 ha hp hb hs hj hk hV ht hf hVV hN C0 G0 GE0
  generalize hNN : max n 1 = N at *
  go_enter Try.func38, Try.ntmps38
  go_wp2_with fail
  go_loopw [0, 9] (fun pv iv wr => ∃ i cur : Nat, pv = .int .i64 cur ∧ iv = .int .i64 i ∧ Hid (Seek.Way rs a b f N V i cur) ∧ Below w.heap.size w wr) (fun _ iv _ => (N - intOf iv).toNat)
  case atStart => exact ⟨0, p, rfl, rfl, h0, Below.refl _ _⟩
  case round =>
    obtain ⟨i, cur, rfl, rfl, HW, hW⟩ := hrel
    obtain ⟨g1, g2, g3, ⟨k, g4⟩, g5⟩ := HW.out
    by_cases hlt : (i : Int) < N
    · have gi : decide ((i : Int) < N) = true := by simp [hlt]
      have hwi : IntKind.i64.wrap ((i : Int) + 1) = (i : Int) + 1 := seek_wrap (by omega) (by omega)
      have CC := Lib.hid (C.out cur k g2 g3 g4 wr (hm.below hW))
      rw [show (N - (i : Int)).toNat = (N - ((i + 1 : Nat) : Int)).toNat + 1 by omega] at g5
      have HL := Lib.hid hlt
      by_cases hneg : f cur < 0
      · rw [Seek.itr_no hneg] at g5
        have hc : f cur = -1 := by have := GE.out cur; omega
        rw [hc] at CC
        have H := Lib.hid g5
        clear h0 g1 g2 g3 g4 g5 hneg hc hlt HW hNb hm
        go_wp2_with fail
        refine (CC.out).mono ?_
        rintro e w1 ⟨rfl, hb1⟩
        go_wp2
        go_ret
        exact ⟨by rw [← H.out]; rfl, seek_below hW hb1⟩
      · rw [Seek.itr_yes hneg] at g5
        obtain ⟨x, k2, e, e1, e2, e3⟩ := G.out cur (Int.not_lt.1 hneg)
        rw [e] at g5 CC
        have H : Hid (Seek.Way rs a b f N V (i + 1) x) := ⟨by omega, e1, e2, ⟨k2, e3⟩, g5⟩
        clear h0 g1 g2 g3 g4 g5 hneg hlt HW hNb hm e e1 e2 e3
        go_wp2_with fail
        refine (CC.out).mono ?_
        rintro e w1 ⟨rfl, hb1⟩
        have hW1 := seek_below hW hb1
        go_wp2
        go_roundw
        case rel => exact ⟨i + 1, x, rfl, by go_num, H, hW1⟩
        case measure => have := HL.out; simp [intOf] <;> omega
    · have gi : decide ((i : Int) < N) = false := by simp; omega
      rw [show (N - (i : Int)).toNat = 0 by omega, Seek.itr_zero] at g5
      have H := Lib.hid g5
      clear h0 g1 g2 g3 g4 g5 hlt HW hNb hm
      go_wp2
      go_ret
      exact ⟨by rw [← H.out]; rfl, hW⟩
set_option maxHeartbeats 1000000 in
set_option maxRecDepth 100000 in
theorem seek_far_ahead (s r : ByteArray) {rs : List (List UInt8)} (hd : Utf.dec s.data.toList = some rs) (h1 : Utf.one r.data.toList = true) {a b p k0 : Nat} (ha : a ≤ p) (hp : p ≤ b) (hb : b ≤ s.size) (hs : s.size < 4294967281) (hk : Utf.off rs k0 = p) (n : Int) (hn : n ≤ 9223372036854775807) (w : World) (hm : MaxAt w) :
    Calls Try.prog 38 #[.int .i64 p, .int .i64 n, fnAhead s r a b] w fun e w' => e = .returned (.int .i64 (Seek.nth false (Seek.hits s.data.toList r.data.toList a b) p (Seek.times n))) ∧ Below w.heap.size w w' := by
  have C0 := Lib.hid (fun (q k : Nat) (h2 : a ≤ q) (h3 : q ≤ b) (h4 : Utf.off rs k = q) (w : World) (hm : MaxAt w) => seek_ahead s r hd h1 h2 h3 hb hs h4 w)
  have hV := Seek.itr_nth (on := false) (Seek.hits_up s.data.toList r.data.toList a b) (fun x hx => by obtain ⟨y, rfl, _⟩ := Seek.mem_hits.1 hx; omega) (Seek.times n - 1) p
  have ht := Seek.times_pos n
  rw [show Seek.times n - 1 + 1 = Seek.times n by omega] at hV
  rw [← hV]
  have G0 := Lib.hid (fun (q : Int) (h : ¬ Seek.nth false (Seek.hits s.data.toList r.data.toList a b) q 1 < 0) => Seek.step_good hd h1 h)
  have GE0 := Lib.hid (fun (q : Int) => Seek.nth_ge (on := false) (l := Seek.hits s.data.toList r.data.toList a b) (fun x hx => by obtain ⟨y, rfl, _⟩ := Seek.mem_hits.1 hx; omega) q 1)
  obtain ⟨f, hf⟩ : ∃ f : Int → Int, f = fun q => Seek.nth false (Seek.hits s.data.toList r.data.toList a b) q 1 := ⟨_, rfl⟩
  have C : Hid (∀ (q k : Nat), a ≤ q → q ≤ b → Utf.off rs k = q → ∀ (w : World), MaxAt w → Calls Try.prog 40 #[rowV s r a b, .int .i64 q] w fun e w' => e = .returned (.int .i64 (f q)) ∧ Below w.heap.size w w') := by rw [hf]; exact C0.out
  have G : Hid (∀ q : Int, 0 ≤ f q → ∃ x k : Nat, f q = x ∧ a ≤ x ∧ x ≤ b ∧ Utf.off rs k = x) := by rw [hf]; exact fun q h => G0.out q (Int.not_lt.2 h)
  have GE : Hid (∀ q : Int, -1 ≤ f q) := by rw [hf]; exact GE0.out
  rw [← hf]
  obtain ⟨V, hVV⟩ : ∃ V, Seek.itr f (Seek.times n) p = V := ⟨_, rfl⟩
  have hN : (Seek.times n : Int) = max n 1 := by unfold Seek.times; omega
  have h0 : Hid (Seek.Way rs a b f (max n 1) V 0 p) := ⟨by omega, ha, hp, ⟨k0, hk⟩, by rw [show (max n 1 - ((0 : Nat) : Int)).toNat = Seek.times n by omega]; exact hVV⟩
  rw [hVV]
  have hNb : max n 1 ≤ 9223372036854775807 := by omega
  clear hd h1 ha hp hb hs hk hV ht hf hVV hN C0 G0 GE0
  generalize hNN : max n 1 = N at *
  go_enter Try.func38, Try.ntmps38
  go_wp2_with fail
  go_loopw [0, 9] (fun pv iv wr => ∃ i cur : Nat, pv = .int .i64 cur ∧ iv = .int .i64 i ∧ Hid (Seek.Way rs a b f N V i cur) ∧ Below w.heap.size w wr) (fun _ iv _ => (N - intOf iv).toNat)
  case atStart => exact ⟨0, p, rfl, rfl, h0, Below.refl _ _⟩
  case round =>
    obtain ⟨i, cur, rfl, rfl, HW, hW⟩ := hrel
    obtain ⟨g1, g2, g3, ⟨k, g4⟩, g5⟩ := HW.out
    by_cases hlt : (i : Int) < N
    · have gi : decide ((i : Int) < N) = true := by simp [hlt]
      have hwi : IntKind.i64.wrap ((i : Int) + 1) = (i : Int) + 1 := seek_wrap (by omega) (by omega)
      have CC := Lib.hid (C.out cur k g2 g3 g4 wr (hm.below hW))
      rw [show (N - (i : Int)).toNat = (N - ((i + 1 : Nat) : Int)).toNat + 1 by omega] at g5
      have HL := Lib.hid hlt
      by_cases hneg : f cur < 0
      · rw [Seek.itr_no hneg] at g5
        have hc : f cur = -1 := by have := GE.out cur; omega
        rw [hc] at CC
        have H := Lib.hid g5
        clear h0 g1 g2 g3 g4 g5 hneg hc hlt HW hNb hm
        go_wp2_with fail
        refine (CC.out).mono ?_
        rintro e w1 ⟨rfl, hb1⟩
        go_wp2
        go_ret
        exact ⟨by rw [← H.out]; rfl, seek_below hW hb1⟩
      · rw [Seek.itr_yes hneg] at g5
        obtain ⟨x, k2, e, e1, e2, e3⟩ := G.out cur (Int.not_lt.1 hneg)
        rw [e] at g5 CC
        have H : Hid (Seek.Way rs a b f N V (i + 1) x) := ⟨by omega, e1, e2, ⟨k2, e3⟩, g5⟩
        clear h0 g1 g2 g3 g4 g5 hneg hlt HW hNb hm e e1 e2 e3
        go_wp2_with fail
        refine (CC.out).mono ?_
        rintro e w1 ⟨rfl, hb1⟩
        have hW1 := seek_below hW hb1
        go_wp2
        go_roundw
        case rel => exact ⟨i + 1, x, rfl, by go_num, H, hW1⟩
        case measure => have := HL.out; simp [intOf] <;> omega
    · have gi : decide ((i : Int) < N) = false := by simp; omega
      rw [show (N - (i : Int)).toNat = 0 by omega, Seek.itr_zero] at g5
      have H := Lib.hid g5
      clear h0 g1 g2 g3 g4 g5 hlt HW hNb hm
      go_wp2
      go_ret
      exact ⟨by rw [← H.out]; rfl, hW⟩
theorem row_after {w u : World} {s r : ByteArray} {a b : Nat} (h : Below (w.alloc (rowO s r a b)).heap.size (w.alloc (rowO s r a b)) u) : u.cell? ⟨w.heap.size, 0, none⟩ = some (.string s) ∧ u.cell? ⟨w.heap.size, 1, none⟩ = some (.int .i64 a) ∧ u.cell? ⟨w.heap.size, 2, none⟩ = some (.int .i64 b) ∧ u.cell? ⟨w.heap.size, 3, none⟩ = some (.string r) := by
  have b0 := Blk.new w 34 #[.string s, .int .i64 a, .int .i64 b, .string r]
  have b1 := b0.below h b0.lt
  exact ⟨b1.cell 0, b1.cell 1, b1.cell 2, b1.cell 3⟩
theorem below_onr {w u v : World} (h : Below w.heap.size w u) (g : Below u.heap.size u v) : Below w.heap.size w v := h.trans (g.mono h.size)
theorem below_onrd {w u v : World} (h : Below w.heap.size w u) (g : Below u.drew.heap.size u.drew v) : Below w.heap.size w v := h.trans (((below_gb (gb_drew u none)).trans g).mono h.size)
set_option maxHeartbeats 1000000 in
set_option maxRecDepth 100000 in
theorem seek_lead_f (s r : ByteArray) {rs : List (List UInt8)} (hd : Utf.dec s.data.toList = some rs) (h1 : Utf.one r.data.toList = true) {a b p j k0 : Nat} (ha : a ≤ p) (hp : p ≤ b) (hb : b ≤ s.size) (hs : s.size < 4294967281) (hj : Utf.off rs j = b) (hk : Utf.off rs k0 = p) (n : Int) (hn : n ≤ 9223372036854775807) (w : World) (hm : MaxAt w) :
    Calls Try.prog 21 #[rowV s r a b, .int .i64 p, .int .i64 102, .int .i64 n] w fun e w' => e = .returned (.int .i64 (Seek.beside s.data.toList 102 (Seek.nth true (Seek.hits s.data.toList r.data.toList a b) p (Seek.times n)))) ∧ Below w.heap.size w w' := by
  have hmf : ∀ (fn : Fn) (first cap : Array Value) (w : World), (Instr.makeFunc fn first cap).run Try.prog w = .ok (.func fn first cap) w := fun _ _ _ _ => rfl
  obtain ⟨c0, c1, c2, c3⟩ := row_cells w s r a b
  have h0 := row_new w s r a b
  have hX := Below.refl (w.alloc (rowO s r a b)).heap.size (w.alloc (rowO s r a b))
  have hM := hm.below h0
  have hMd : MaxAt (w.alloc (rowO s r a b)).drew := hM
  have C := Lib.hid (fun (w : World) (hm : MaxAt w) => seek_far_behind s r hd h1 ha hp hb hs hj hk n hn w hm)
  rw [show ∀ v, Seek.beside s.data.toList 102 v = v from fun _ => rfl]
  generalize Seek.nth true (Seek.hits s.data.toList r.data.toList a b) p (Seek.times n) = v at *
  clear hd h1 ha hp hb hs hj hk hn hm
  go_enter Try.func21, Try.ntmps21
  go_wp2_with (go_at_call 38; refine (C.out _ hM).mono ?_; rintro e w1 ⟨rfl, hb1⟩)
  go_ret
  exact ⟨rfl, h0.trans (hb1.mono h0.size)⟩
set_option maxHeartbeats 1000000 in
set_option maxRecDepth 100000 in
theorem seek_lead_bigF (s r : ByteArray) {rs : List (List UInt8)} (hd : Utf.dec s.data.toList = some rs) (h1 : Utf.one r.data.toList = true) {a b p k0 : Nat} (ha : a ≤ p) (hp : p ≤ b) (hb : b ≤ s.size) (hs : s.size < 4294967281) (hk : Utf.off rs k0 = p) (n : Int) (hn : n ≤ 9223372036854775807) (w : World) (hm : MaxAt w) :
    Calls Try.prog 21 #[rowV s r a b, .int .i64 p, .int .i64 70, .int .i64 n] w fun e w' => e = .returned (.int .i64 (Seek.beside s.data.toList 70 (Seek.nth false (Seek.hits s.data.toList r.data.toList a b) p (Seek.times n)))) ∧ Below w.heap.size w w' := by
  have hmf : ∀ (fn : Fn) (first cap : Array Value) (w : World), (Instr.makeFunc fn first cap).run Try.prog w = .ok (.func fn first cap) w := fun _ _ _ _ => rfl
  obtain ⟨c0, c1, c2, c3⟩ := row_cells w s r a b
  have h0 := row_new w s r a b
  have hX := Below.refl (w.alloc (rowO s r a b)).heap.size (w.alloc (rowO s r a b))
  have hM := hm.below h0
  have hMd : MaxAt (w.alloc (rowO s r a b)).drew := hM
  have C := Lib.hid (fun (w : World) (hm : MaxAt w) => seek_far_ahead s r hd h1 ha hp hb hs hk n hn w hm)
  rw [show ∀ v, Seek.beside s.data.toList 70 v = v from fun _ => rfl]
  generalize Seek.nth false (Seek.hits s.data.toList r.data.toList a b) p (Seek.times n) = v at *
  clear hd h1 ha hp hb hs hk hn hm
  go_enter Try.func21, Try.ntmps21
  go_wp2_with (go_at_call 38; refine (C.out _ hM).mono ?_; rintro e w1 ⟨rfl, hb1⟩)
  go_ret
  exact ⟨rfl, h0.trans (hb1.mono h0.size)⟩
set_option maxHeartbeats 1000000 in
set_option maxRecDepth 100000 in
theorem seek_lead_t (s r : ByteArray) {rs : List (List UInt8)} (hd : Utf.dec s.data.toList = some rs) (h1 : Utf.one r.data.toList = true) {a b p j k0 : Nat} (ha : a ≤ p) (hp : p ≤ b) (hb : b ≤ s.size) (hs : s.size < 4294967281) (hj : Utf.off rs j = b) (hk : Utf.off rs k0 = p) (n : Int) (hn : n ≤ 9223372036854775807) (w : World) (hm : MaxAt w) :
    Calls Try.prog 21 #[rowV s r a b, .int .i64 p, .int .i64 116, .int .i64 n] w fun e w' => e = .returned (.int .i64 (Seek.beside s.data.toList 116 (Seek.nth true (Seek.hits s.data.toList r.data.toList a b) p (Seek.times n)))) ∧ Below w.heap.size w w' := by
  have hmf : ∀ (fn : Fn) (first cap : Array Value) (w : World), (Instr.makeFunc fn first cap).run Try.prog w = .ok (.func fn first cap) w := fun _ _ _ _ => rfl
  obtain ⟨c0, c1, c2, c3⟩ := row_cells w s r a b
  have h0 := row_new w s r a b
  have hX := Below.refl (w.alloc (rowO s r a b)).heap.size (w.alloc (rowO s r a b))
  have hM := hm.below h0
  have hMd : MaxAt (w.alloc (rowO s r a b)).drew := hM
  have C := Lib.hid (fun (w : World) (hm : MaxAt w) => seek_far_behind s r hd h1 ha hp hb hs hj hk n hn w hm)
  have CB := Lib.hid (fun (w : World) => utf_Prev s (Seek.nth true (Seek.hits s.data.toList r.data.toList a b) p (Seek.times n)) (by omega) w)
  rw [show Seek.beside s.data.toList 116 (Seek.nth true (Seek.hits s.data.toList r.data.toList a b) p (Seek.times n)) = Utf.prev s.data.toList (Seek.nth true (Seek.hits s.data.toList r.data.toList a b) p (Seek.times n)) from rfl]
  generalize Seek.nth true (Seek.hits s.data.toList r.data.toList a b) p (Seek.times n) = v at *
  generalize Utf.prev s.data.toList v = V at *
  clear hd h1 ha hp hb hs hj hk hn hm
  go_enter Try.func21, Try.ntmps21
  go_wp2_with fail
  go_region_held3 (fun u => u.cell? ⟨w.heap.size, 0, none⟩ = some (.string s) ∧ u.cell? ⟨w.heap.size, 1, none⟩ = some (.int .i64 a) ∧ u.cell? ⟨w.heap.size, 2, none⟩ = some (.int .i64 b) ∧ u.cell? ⟨w.heap.size, 3, none⟩ = some (.string r))
    (first | exact ⟨by assumption, by assumption, by assumption, by assumption⟩ | go_keep)
    (first
      | (go_at_call 38; (with_reducible refine (C.out _ (by first | exact hM | exact hMd)).mono ?_); rintro e u ⟨rfl, hb1⟩; (first | replace hX := below_onr hX hb1 | replace hX := below_onrd hX hb1); obtain ⟨d0, d1, d2, d3⟩ := row_after hX)
      | (go_at_call 17; (with_reducible refine (CB.out _).mono ?_); rintro e u ⟨rfl, rfl⟩))
  all_goals go_wp2
  all_goals go_ret
  all_goals exact ⟨rfl, h0.trans (hX.mono h0.size)⟩
set_option maxHeartbeats 1000000 in
set_option maxRecDepth 100000 in
theorem seek_lead_bigT (s r : ByteArray) {rs : List (List UInt8)} (hd : Utf.dec s.data.toList = some rs) (h1 : Utf.one r.data.toList = true) {a b p k0 : Nat} (ha : a ≤ p) (hp : p ≤ b) (hb : b ≤ s.size) (hs : s.size < 4294967281) (hk : Utf.off rs k0 = p) (n : Int) (hn : n ≤ 9223372036854775807) (w : World) (hm : MaxAt w) :
    Calls Try.prog 21 #[rowV s r a b, .int .i64 p, .int .i64 84, .int .i64 n] w fun e w' => e = .returned (.int .i64 (Seek.beside s.data.toList 84 (Seek.nth false (Seek.hits s.data.toList r.data.toList a b) p (Seek.times n)))) ∧ Below w.heap.size w w' := by
  have hmf : ∀ (fn : Fn) (first cap : Array Value) (w : World), (Instr.makeFunc fn first cap).run Try.prog w = .ok (.func fn first cap) w := fun _ _ _ _ => rfl
  obtain ⟨c0, c1, c2, c3⟩ := row_cells w s r a b
  have h0 := row_new w s r a b
  have hX := Below.refl (w.alloc (rowO s r a b)).heap.size (w.alloc (rowO s r a b))
  have hM := hm.below h0
  have hMd : MaxAt (w.alloc (rowO s r a b)).drew := hM
  have C := Lib.hid (fun (w : World) (hm : MaxAt w) => seek_far_ahead s r hd h1 ha hp hb hs hk n hn w hm)
  have CB := Lib.hid (fun (w : World) => utf_Next s (Seek.nth false (Seek.hits s.data.toList r.data.toList a b) p (Seek.times n)) (by omega) w)
  rw [show Seek.beside s.data.toList 84 (Seek.nth false (Seek.hits s.data.toList r.data.toList a b) p (Seek.times n)) = Utf.next s.data.toList (Seek.nth false (Seek.hits s.data.toList r.data.toList a b) p (Seek.times n)) from rfl]
  generalize Seek.nth false (Seek.hits s.data.toList r.data.toList a b) p (Seek.times n) = v at *
  generalize Utf.next s.data.toList v = V at *
  clear hd h1 ha hp hb hs hk hn hm
  go_enter Try.func21, Try.ntmps21
  go_wp2_with fail
  go_region_held3 (fun u => u.cell? ⟨w.heap.size, 0, none⟩ = some (.string s) ∧ u.cell? ⟨w.heap.size, 1, none⟩ = some (.int .i64 a) ∧ u.cell? ⟨w.heap.size, 2, none⟩ = some (.int .i64 b) ∧ u.cell? ⟨w.heap.size, 3, none⟩ = some (.string r))
    (first | exact ⟨by assumption, by assumption, by assumption, by assumption⟩ | go_keep)
    (first
      | (go_at_call 38; (with_reducible refine (C.out _ (by first | exact hM | exact hMd)).mono ?_); rintro e u ⟨rfl, hb1⟩; (first | replace hX := below_onr hX hb1 | replace hX := below_onrd hX hb1); obtain ⟨d0, d1, d2, d3⟩ := row_after hX)
      | (go_at_call 16; (with_reducible refine (CB.out _).mono ?_); rintro e u ⟨rfl, rfl⟩))
  all_goals go_wp2
  all_goals go_ret
  all_goals exact ⟨rfl, h0.trans (hX.mono h0.size)⟩
end Go.Proofs.Ytkhihmkpmlokiaa
