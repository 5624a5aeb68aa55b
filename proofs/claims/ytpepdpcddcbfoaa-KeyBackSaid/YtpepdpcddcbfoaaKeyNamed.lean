/-
  The map of names turned: which key each name is of, whatever the order in which the names come.
-/
import Derived.Test.YtpepdpcddcbfoaaKeyMap
import Derived.Maps.Views
namespace Go.Proofs.Ytpepdpcddcbfoaa
open Go.RowKit
open Go.Maps (Keyed)
theorem zeroInt32 (w : World) : (zeroValue 21).run Try.prog w = .ok (.int .i32 0) w := by kernel_rfl
/-- The map D has each name whose key is not to come any more, and nothing else. -/
def Back (left : Lit → Bool) (D : DataW Unit) : Prop :=
  ∀ l : List UInt8, Maps.has D (.string l) = (match Key.code l with | some c => !left (.int .i32 (c : Int)) | none => false) ∧
    ∀ c z, Key.code l = some c → left (.int .i32 (c : Int)) = false → D.atKey (.string l) z = .lit (.int .i32 (c : Int))
theorem back_start : Back (Maps.has D0) (.map []) := by
  intro l
  refine ⟨?_, ?_⟩
  · cases h : Key.code l with
    | none => rfl
    | some c => simp only [D0_has, Key.code_nm.1 h]; rfl
  · intro c z h h0
    rw [D0_has, Key.code_nm.1 h] at h0
    cases h0
theorem back_step {left : Lit → Bool} {D : DataW Unit} {n : Nat} {l : List UInt8} (h : Back left D) (hm : Maps.IsMap D) (hn : Key.nm n = some l) :
    Back (fun z => left z && !z.sameKey (.int .i32 (n : Int))) (D.put (.string l) (.lit (.int .i32 (n : Int)))) := by
  have hk : WideAt.IsKeyLit (.string l) := by trivial
  intro q
  by_cases hq : q = l
  · subst hq
    have hc := Key.code_nm.2 hn
    refine ⟨?_, ?_⟩
    · rw [Maps.has_put_same hm hk, hc]
      simp [Lit.sameKey]
    · intro c z h1 _
      rw [hc] at h1
      cases h1
      exact Maps.atKey_put_same hm hk _ _
  · have hne : (Lit.string q) ≠ .string l := by intro e; injection e with e; exact hq e
    have hs : ∀ c, Key.code q = some c → (Lit.int .i32 (c : Int)).sameKey (.int .i32 (n : Int)) = false := by
      intro c h1
      simp only [Lit.sameKey, true_and, decide_eq_false_iff_not, Int.natCast_inj]
      rintro rfl
      rw [Key.code_nm, hn] at h1
      injection h1 with h1
      exact hq h1.symm
    refine ⟨?_, ?_⟩
    · rw [Maps.has_put_other hne, (h q).1]
      cases h1 : Key.code q with
      | none => rfl
      | some c => simp only [hs c h1, Bool.not_false, Bool.and_true]
    · intro c z h1 h2
      rw [Maps.atKey_put_other hne]
      simp only [hs c h1, Bool.not_false, Bool.and_true] at h2
      exact (h q).2 c z h1 h2
theorem D0_int {x : Int} (h : Maps.has D0 (.int .i32 x) = true) : ∃ (n : Nat) (l : List UInt8), x = n ∧ Key.nm n = some l := by
  simp only [Maps.has, D0, List.any_map, List.any_eq_true, Function.comp, Lit.sameKey, decide_eq_true_eq, true_and, Prod.exists] at h
  obtain ⟨n, l, h1, h2⟩ := h
  exact ⟨n, l, h2.symm, Key.nm_tab.2 h1⟩
/-- An entry that comes is a key with its name. -/
theorem name_comes {x : Int} {s : ByteArray} {kl : Lit} {y : DataW Unit × List MemPlace} (hk : keyOf Try.prog 21 (.int .i32 x) = some kl) (hv : nameElem (.agg #[.string s]) = some y) (hat : ∀ zd, D0.atKey kl zd = y.1) :
    ∃ (n : Nat) (l : List UInt8), x = n ∧ kl = .int .i32 n ∧ Key.nm n = some l ∧ s = bs l := by
  obtain ⟨x', e, rfl, _⟩ := Maps.keyOf_int_inv Try.underlying21 hk
  injection e with e1 e2
  subst e2
  obtain ⟨n, l, rfl, hn⟩ := D0_int (Maps.has_true_of_atKey hat)
  refine ⟨n, l, rfl, rfl, hn, ?_⟩
  have h1 := hat (.map [])
  rw [nameElem_mk] at hv
  cases hv
  rw [D0_at, hn] at h1
  have h2 : l = s.data.toList := by simpa using h1
  rw [h2]
  rfl
/-- Block b is the map of names turned. -/
def Inv (w : World) (b : Nat) : Prop := ∃ n D, w.ownsMap Try.prog 9 (plainElem Try.prog 21) b n D ∧ Back (fun _ => false) D
theorem Inv.lt {w : World} {b : Nat} (h : Inv w b) : b < w.heap.size := by
  obtain ⟨n, D, h, _⟩ := h
  exact h.lt
theorem Inv.alloc {w : World} {b : Nat} (h : Inv w b) (o : Obj) : Inv (w.alloc o) b := by
  obtain ⟨n, D, h, k⟩ := h
  exact ⟨n, D, h.alloc o, k⟩
theorem Inv.others {w w' : World} {b c : Nat} {e : TypeId} (h : Inv w b) (hk : Lib.OthersKept e (some c) w w') (hne : b ≠ c) : Inv w' b := by
  obtain ⟨n, D, ⟨es, clock, hh, r⟩, k⟩ := h
  exact ⟨n, D, ⟨es, clock, hk b _ hh (fun e => hne (Option.some.inj e)) (fun _ _ e => by cases e), r⟩, k⟩
theorem Inv.iterAt {w : World} {b k : Nat} (h : Inv w b) (s : ByteArray) (pos : Nat) (hne : b ≠ k) : Inv (w.iterAt k s pos) b := by
  obtain ⟨n, D, ⟨es, clock, hh, r⟩, q⟩ := h
  exact ⟨n, D, ⟨es, clock, (Lib.iterAt_other w k b s pos hne).trans hh, r⟩, q⟩
theorem Inv.look {w : World} {b : Nat} (h : Inv w b) (s : ByteArray) (hs : s.size ≤ maxLen) :
    (Instr.lookup 58 (.map (some b)) (.string s) true).run Try.prog w = .ok (.tuple #[.int .i32 (((Key.code s.data.toList).getD 0 : Nat) : Int), .bool (Key.code s.data.toList).isSome]) w := by
  obtain ⟨n, D, h, k⟩ := h
  obtain ⟨v, ps, hrun, hv⟩ := World.ownsMap.look_ok (t := 58) h keyText Try.underlying58 (zeroInt32 w) (plainElem_int Try.underlying21 (by decide)) (WideMaps.keyOf_string_mk Try.underlying9 hs)
  obtain ⟨c, rfl, hc, _⟩ := plainElem_int_inv Try.underlying21 hv
  have h1 := (k s.data.toList).1
  have h2 := (k s.data.toList).2
  rw [h1] at hrun
  cases hcode : Key.code s.data.toList with
  | none =>
    rw [hcode] at hrun h1
    rw [hrun]
    have h3 := congrArg Prod.fst hc
    rw [Maps.atKey_of_not_has h1] at h3
    have h4 : (0 : Int) = c := by simpa using h3
    rw [← h4]
    rfl
  | some q =>
    rw [hcode] at hrun h1
    rw [hrun]
    have h3 := congrArg Prod.fst hc
    rw [h2 q _ hcode rfl] at h3
    have h4 : (q : Int) = c := by simpa using h3
    rw [← h4]
    rfl
theorem D0_size : Maps.size D0 = 8 := rfl
set_option maxHeartbeats 1000000 in
set_option maxRecDepth 100000 in
theorem key_named (w : World) :
    Calls Try.prog 33 #[] w fun e w' => e = .returned (.map (some w.heap.size)) ∧ Inv w' w.heap.size ∧ Below w.heap.size w w' := by
  have hmm := @run_makeMap Try.prog
  have c1 := Lib.hid key_names
  have O0 := World.ownsMap_made w Try.prog 9 (plainElem (H := Unit) Try.prog 21)
  have B0 : Below w.heap.size w (w.alloc (.map #[] 0)) := (Below.refl _ w).alloc (Nat.le_refl _) _
  have e0 : (w.alloc (.map #[] 0)).heap.size = w.heap.size + 1 := by simp
  go_enter Try.func33, Try.ntmps33
  go_wp2_with (first
    | (go_at_call 28; refine (c1.out _).mono ?_; rintro e w2 ⟨rfl, ht, hb2⟩; rw [e0] at ht)
    | (at_range; refine wpList_range_own _ rfl _ 43 rfl 21 50 keyInt Try.underlying43 nameElem (w.heap.size + 1) 8 D0 rfl ht ?_; intro w0 hrg0 hg0 hs0))
  go_frame
  have O1 := (O0.kept (gb_below none hb2) (by simp)).kept hg0 (by simp)
  have W0 := (B0.trans (hb2.mono B0.size)).trans (below_gb hg0 |>.mono (Nat.le_trans B0.size hb2.size))
  rw [e0] at hb2
  go_loopw [] (fun wr => ∃ left cnt n D, wr.ranges Try.prog 21 nameElem (w.heap.size + 1) w2.heap.size 8 D0 left cnt ∧ wr.ownsMap Try.prog 9 (plainElem Try.prog 21) w.heap.size n D ∧ Hid (Back left D) ∧ n + cnt ≤ 8 ∧ Below w.heap.size w wr) (fun wr => wr.rangeLeft (w.heap.size + 1) w2.heap.size)
  case atStart => exact ⟨_, _, 0, _, hrg0, O1, Lib.hid back_start, by rw [D0_size]; omega, W0⟩
  case round =>
    obtain ⟨left, cnt, n, D, hrg, hown, hback, hnc, hbr⟩ := hrel
    have hlt2 : w.heap.size + 1 ≤ w2.heap.size := by have h := hb2.size; simp at h; omega
    have hwr := hrg.lt
    go_wp2_with (at_next; refine wpList_next_ranges _ rfl _ rfl 21 keyInt nameElem (Value.int .i32) (fun s : ByteArray => .agg #[.string s]) (fun key kl h => by obtain ⟨x, rfl, _⟩ := Maps.keyOf_int_inv Try.underlying21 h; exact ⟨x, rfl⟩) (fun v y h => by obtain ⟨s, rfl, _⟩ := nameElem_inv h; exact ⟨s, rfl⟩) (w.heap.size + 1) w2.heap.size 8 D0 left cnt rfl hrg ?_ ?_)
    · intro hc0 hl0
      have e1 : left = fun _ => false := funext hl0
      have HB := hback
      rw [e1] at HB
      clear hl0 e1
      go_wp2
      go_ret
      exact ⟨rfl, ⟨n, D, hown, HB.out⟩, hbr⟩
    · intro x s kl y1 y2 w1 cnt1 hkey hlk hRv hat hrg1 hlt hg1 hs1 hen
      obtain ⟨m, l, rfl, rfl, hn, rfl⟩ := name_comes (y := (y1, y2)) hkey hRv hat
      have hl7 := (Key.nm_len hn).2
      have hm1 : m ≤ 1114111 := by
        have h2 := Key.nm_tab.1 hn
        simp only [Key.tab, List.mem_cons, Prod.mk.injEq, List.not_mem_nil, or_false] at h2
        omega
      have hown2 := (hown.kept hg1 (by simp; omega)).alloc (.cells #[.string (bs l)] 50)
      obtain ⟨w3, R3, O3, G3⟩ := hown2.update (t := 58) keyText Try.underlying58 (by unfold maxLen; omega) (WideMaps.keyOf_string_mk Try.underlying9 (s := bs l) (by rw [bs_size]; unfold maxLen; omega)) (plainElem_int Try.underlying21 (wf32 hm1))
      have hrg2 := (hrg1.alloc (.cells #[.string (bs l)] 50)).kept G3 (by simp) (by simp; omega)
      have hback2 := Lib.hid (back_step hback.out hown.isMap hn)
      have hcell := (Blk.new w1 50 #[.string (bs l)]).cell 0
      have hb1 : Below w.heap.size w w1 := hbr.grown hg1 hbr.size (fun g hg => by cases hg; omega)
      have hb3 := (hb1.alloc hb1.size (.cells #[.string (bs l)] 50)).grown G3 (by simp; have := hb1.size; omega) (fun g hg => by cases hg; exact Nat.le_refl _)
      have e2 := hrg2.left_eq
      have e3 := hrg.left_eq
      clear hkey hlk hRv hat hown2 hn hback hown hrg1 hg1 G3 hl7 hm1 hrg
      go_wp2
      go_roundw
      case rel => exact ⟨_, cnt1, n + 1, _, hrg2, O3, hback2, by omega, hb3⟩
      case measure => rw [e2, e3]; omega
end Go.Proofs.Ytpepdpcddcbfoaa
