/-
  Runes from the last one on, as the library decodes them; what stops at runes of some classes, and how far one goes back: without a program.
-/
import Derived.Test.YtdclopfhffjkfaaDoorJP
import Derived.Test.YtdclopfhffjkfaaDoorKey
import Derived.Shelf.Strings.FuncGrows
import Derived.LoopTactic
import Derived.Test.YtdclopfhffjkfaaDoorClassBytes
import Derived.Test.YtdclopfhffjkfaaDoorUtfPlaces
import Derived.Test.YtdclopfhffjkfaaDoorShelf
import Derived.Test.YtdclopfhffjkfaaDoorLineCalls
import Derived.BigQuiet
import Derived.Deep.RegionHeld3
import Derived.Test.YtdclopfhffjkfaaDoorJT
import Derived.Test.YtdclopfhffjkfaaDoorFrame
import Derived.Lib.LaidU8T
import Derived.PinnedBridge
namespace Go.Proofs.YtdclopfhffjkfaaDoor
namespace Ent
open Utf (dec off valid place next prev one one1 one2 one3 one4)
open Key (cp one_cases low_high)

/-- What Go writes for a number of a rune is a rune, of the number's class. -/
theorem encode_one (x : Nat) (hx : x ≤ 1114111) : ∃ b t, Utf8.encode (x : Int) = bs (b :: t) ∧ one (b :: t) = true ∧ Class.plain b.toNat = Class.plain x := by
  by_cases hv : Utf8.valid (x : Int) = true
  · have hs : ¬ (55296 ≤ x ∧ x < 57344) := by
      simp [Utf8.valid] at hv; omega
    by_cases h1 : x < 128
    · refine ⟨UInt8.ofNat x, [], ?_, ?_, ?_⟩
      · simp only [Utf8.encode, hv, if_true, Int.toNat_natCast]
        rw [if_pos h1]; rfl
      · rw [one1, UInt8.toNat_ofNat']; omega
      · rw [UInt8.toNat_ofNat', Nat.mod_eq_of_lt (by omega)]
    · have hp : Class.plain x = 2 := Class.plain_long (by omega)
      by_cases h2 : x < 2048
      · refine ⟨UInt8.ofNat (0xC0 + x / 64), [UInt8.ofNat (0x80 + x % 64)], ?_, ?_, ?_⟩
        · simp only [Utf8.encode, hv, if_true, Int.toNat_natCast]
          rw [if_neg (by omega), if_pos (by omega)]; rfl
        · rw [one2, UInt8.toNat_ofNat', UInt8.toNat_ofNat']; omega
        · rw [hp]; exact Class.plain_long (by rw [UInt8.toNat_ofNat']; omega)
      · by_cases h3 : x < 65536
        · refine ⟨UInt8.ofNat (0xE0 + x / 4096), [UInt8.ofNat (0x80 + x / 64 % 64), UInt8.ofNat (0x80 + x % 64)], ?_, ?_, ?_⟩
          · simp only [Utf8.encode, hv, if_true, Int.toNat_natCast]
            rw [if_neg (by omega), if_neg (by omega), if_pos (by omega)]; rfl
          · rw [one3]
            simp only [UInt8.toNat_ofNat']
            unfold Utf.low Utf.high
            refine ⟨by omega, ⟨?_, ?_⟩, by omega⟩
            · split <;> (try split) <;> omega
            · split <;> (try split) <;> omega
          · rw [hp]; exact Class.plain_long (by rw [UInt8.toNat_ofNat']; omega)
        · refine ⟨UInt8.ofNat (0xF0 + x / 262144), [UInt8.ofNat (0x80 + x / 4096 % 64), UInt8.ofNat (0x80 + x / 64 % 64), UInt8.ofNat (0x80 + x % 64)], ?_, ?_, ?_⟩
          · simp only [Utf8.encode, hv, if_true, Int.toNat_natCast]
            rw [if_neg (by omega), if_neg (by omega), if_neg (by omega)]; rfl
          · rw [one4]
            simp only [UInt8.toNat_ofNat']
            unfold Utf.low Utf.high
            refine ⟨by omega, ⟨?_, ?_⟩, by omega⟩
            · split <;> (try split) <;> omega
            · split <;> (try split) <;> omega
          · rw [hp]; exact Class.plain_long (by rw [UInt8.toNat_ofNat']; omega)
  · have hs : 55296 ≤ x := by
      simp [Utf8.valid] at hv; omega
    refine ⟨239, [191, 189], ?_, by decide, ?_⟩
    · simp only [Utf8.encode, hv, Bool.false_eq_true, if_false]
      rfl
    · rw [Class.plain_long (b := x) (by omega)]; rfl
theorem kind_rune {b : UInt8} {t : List UInt8} (ho : one (b :: t) = true) : Class.kind (b :: t) 0 false = Class.plain b.toNat := by
  have hd : dec (b :: t) = some [b :: t] := by
    have := Utf.dec_of (rs := [b :: t]) (by simp [ho])
    simpa using this
  have := Class.kind_at hd (i := 0) (by simp) false
  rw [Utf.off_zero] at this
  exact this
/-- A rune's class is that of its number. -/
theorem plain_cp {b : UInt8} {t : List UInt8} (ho : one (b :: t) = true) : Class.plain (cp (b :: t)) = Class.plain b.toNat := by
  rcases one_cases ho with ⟨a, e⟩ | ⟨a, c, e⟩ | ⟨a, c, d, e⟩ | ⟨a, c, d, f, e⟩
  · injection e with e1 e2; subst e1 e2; rfl
  · injection e with e1 e2; subst e1 e2
    have h1 := Key.cp2 ho
    have h2 := (one2 b c).1 ho
    rw [Class.plain_long (by omega), Class.plain_long (by omega)]
  · injection e with e1 e2; subst e1 e2
    have h1 := Key.cp3 ho
    have h2 := (one3 b c d).1 ho
    rw [Class.plain_long (by omega), Class.plain_long (by omega)]
  · injection e with e1 e2; subst e1 e2
    have h1 := Key.cp4 ho
    have h2 := (one4 b c d f).1 ho
    rw [Class.plain_long (by omega), Class.plain_long (by omega)]
theorem decode_list {r : List UInt8} (ho : one r = true) : Lib.decodeL r = (cp r, r.length) := by
  have := Key.decode_at (bs r) (p := 0) (r := r) (by rw [bs_toList]; simp) ho
  exact this
theorem getD_app (A : List UInt8) (r : List UInt8) (k : Nat) : (A ++ r).getD (A.length + k) 0 = r.getD k 0 := by
  simp [List.getD_eq_getElem?_getD, List.getElem?_append_right]
theorem start_no {b : UInt8} (h : 128 ≤ b.toNat) (h2 : b.toNat ≤ 191) : Lib.runeStartB b = false := by
  unfold Lib.runeStartB
  have : b.toNat / 64 = 2 := by omega
  simp [this]
theorem start_yes {b : UInt8} (h : 192 ≤ b.toNat) : Lib.runeStartB b = true := by
  unfold Lib.runeStartB
  have := b.toNat_lt
  have : b.toNat / 64 = 3 := by omega
  simp [this]
theorem last_long (A : List UInt8) {r : List UInt8} (ho : one r = true) (h2 : 2 ≤ r.length) (hst : Lib.lastStart (A ++ r) = A.length) (hl : 128 ≤ (r.getD (r.length - 1) 0).toNat) : Lib.decodeLastL (A ++ r) = (cp r, r.length) := by
  have hne : A ++ r ≠ [] := by
    intro e
    have := congrArg List.length e
    rw [List.length_append] at this
    have h0 : ([] : List UInt8).length = 0 := rfl
    omega
  unfold Lib.decodeLastL
  rw [if_neg hne, List.length_append, show A.length + r.length - 1 = A.length + (r.length - 1) by omega, getD_app, if_neg (by omega), hst, List.drop_left, decode_list ho]
  simp
/-- The library decodes a text's last rune. -/
theorem decodeLast_rune (A : List UInt8) {r : List UInt8} (ho : one r = true) : Lib.decodeLastL (A ++ r) = (cp r, r.length) := by
  have g := fun k => getD_app A r k
  have g0 : (A ++ r).getD A.length 0 = r.getD 0 0 := g 0
  rcases one_cases ho with ⟨a, rfl⟩ | ⟨a, b, rfl⟩ | ⟨a, b, c, rfl⟩ | ⟨a, b, c, d, rfl⟩
  · have ha := (Key.cp1 ho).2
    have hne : A ++ [a] ≠ [] := by simp
    unfold Lib.decodeLastL
    rw [if_neg hne, List.length_append, show A.length + [a].length - 1 = A.length by simp, g0, if_pos (by show a.toNat < 128; exact ha)]
    rfl
  · have h2 := (one2 a b).1 ho
    exact last_long A ho (by simp) (Lib.lastStart_at2 _ A.length (by simp) (by rw [g0]; exact start_yes (by show 192 ≤ a.toNat; omega))) (by show 128 ≤ b.toNat; omega)
  · obtain ⟨h2, h3, h4⟩ := (one3 a b c).1 ho
    have h5 := low_high h3
    exact last_long A ho (by simp) (Lib.lastStart_at3 _ A.length (by simp) (by rw [g 1]; exact start_no (by show 128 ≤ b.toNat; omega) (by show b.toNat ≤ 191; omega)) (by rw [g0]; exact start_yes (by show 192 ≤ a.toNat; omega))) (by show 128 ≤ c.toNat; omega)
  · obtain ⟨h2, h3, h4⟩ := (one4 a b c d).1 ho
    have h5 := low_high h3
    exact last_long A ho (by simp) (Lib.lastStart_at4 _ A.length (by simp) (by rw [g 2]; exact start_no (by show 128 ≤ c.toNat; omega) (by show c.toNat ≤ 191; omega)) (by rw [g 1]; exact start_no (by show 128 ≤ b.toNat; omega) (by show b.toNat ≤ 191; omega)) (by rw [g0]; exact start_yes (by show 192 ≤ a.toNat; omega))) (by show 128 ≤ d.toNat; omega)
/-- Does a rune pass? -/
def pass (p : Nat → Bool) (rs : List (List UInt8)) (k : Nat) : Bool := !(p (cp (rs.getD k [])))
/-- The library's last index, rune by rune. -/
theorem lastIdx_runes (p : Nat → Bool) (s : ByteArray) {rs : List (List UInt8)} (hd : dec s.data.toList = some rs) (i : Nat) : ∀ f, i ≤ rs.length → off rs i ≤ f →
    Lib.lastIdxFuncFrom p true s f (off rs i) = if Class.lft (pass p rs) i = 0 then -1 else (off rs (Class.lft (pass p rs) i - 1) : Int) := by
  induction i with
  | zero =>
    intro f _ _
    rw [Utf.off_zero, Lib.lastIdxFuncFrom_zero, Class.lft_zero, if_pos rfl]
  | succ i ih =>
    intro f hi hf
    have hlt : i < rs.length := by omega
    have hr : rs[i]? = some rs[i] := List.getElem?_eq_getElem hlt
    have ho := (Utf.dec_some hd).1 _ (List.getElem_mem hlt)
    have h0 := Utf.one_pos ho
    have hn := Utf.off_next hr
    obtain ⟨f, rfl⟩ : ∃ g, f = g + 1 := ⟨f - 1, by omega⟩
    have ht : s.data.toList.take (off rs (i + 1)) = (rs.take i).flatten ++ rs[i] := by
      rw [Pst.take_runes hd, List.take_succ_eq_append_getElem hlt, List.flatten_append, List.flatten_cons, List.flatten_nil, List.append_nil]
    rw [Lib.lastIdxFuncFrom, if_pos (by omega), ht, decodeLast_rune _ ho]
    have hg : rs.getD i [] = rs[i] := by simp [List.getD_eq_getElem?_getD, hr]
    simp only
    rw [show off rs (i + 1) - rs[i].length = off rs i by omega]
    cases hp : p (cp rs[i]) with
    | true =>
      rw [if_pos rfl, Class.lft_no (by rw [pass, hg, hp]; rfl), if_neg (by omega), Nat.add_sub_cancel]
    | false =>
      rw [if_neg (by decide), Class.lft_yes (by rw [pass, hg, hp]; rfl)]
      exact ih f (by omega) (by omega)
/-- Back from rune a + m, not ahead of rune a. -/
theorem lef_shift {s : List UInt8} {rs : List (List UInt8)} {g : Nat → Bool} {a : Nat} {F : Nat → Bool} {m : Nat} (h : ∀ k, k < m → F k = g (cl s rs (a + k))) : lef s rs g a (a + m) = a + Class.lft F m := by
  induction m with
  | zero => rw [Nat.add_zero, Class.lft_zero, lef_stay (Nat.le_refl _)]; rfl
  | succ m ih =>
    have hm := h m (Nat.lt_succ_self m)
    cases hF : F m with
    | true =>
      rw [Class.lft_yes hF, ← ih (fun k hk => h k (by omega))]
      exact lef_yes (i := a + m) (by omega) (by rw [← hm, hF])
    | false =>
      rw [Class.lft_no hF]
      exact lef_no (i := a + m) (by rw [← hm, hF])
theorem cl_cp {s : List UInt8} {rs : List (List UInt8)} (hd : dec s = some rs) {i : Nat} (hi : i < rs.length) : Class.plain (cp rs[i]) = cl s rs i := by
  have ho := (Utf.dec_some hd).1 _ (List.getElem_mem hi)
  have h0 := Utf.one_pos ho
  have h1 := rune_first hd hi h0
  rw [Nat.add_zero] at h1
  rw [cl, Class.at_some h1, Class.of_false]
  generalize rs[i] = r at ho h0
  match r, h0 with
  | b :: t, _ => exact plain_cp ho
/-- How far one goes back in a part of a text, by the library's last index. -/
theorem lastIdx_seg {s : List UInt8} {rs : List (List UInt8)} (hd : dec s = some rs) {a i : Nat} (ha : a ≤ i) (hi : i ≤ rs.length) (g : Nat → Bool) :
    (Lib.lastIdxFunc (fun x => !(g (Class.plain x))) true (bs (Line.seg s (off rs a) (off rs i))) = -1 ∧ lef s rs g a i = a) ∨
    ∃ j, a + j < i ∧ Lib.lastIdxFunc (fun x => !(g (Class.plain x))) true (bs (Line.seg s (off rs a) (off rs i))) = (off ((rs.take i).drop a) j : Int) ∧ off rs a + off ((rs.take i).drop a) j = off rs (a + j) ∧ lef s rs g a i = a + j + 1 := by
  obtain ⟨m, rfl⟩ : ∃ m, i = a + m := ⟨i - a, by omega⟩
  have hds := Line.seg_dec hd a (a + m)
  have hl : ((rs.take (a + m)).drop a).length = m := by rw [List.length_drop, List.length_take]; omega
  have hdb : dec (bs (Line.seg s (off rs a) (off rs (a + m)))).data.toList = some ((rs.take (a + m)).drop a) := by rw [bs_toList]; exact hds
  have hz : off ((rs.take (a + m)).drop a) m = (bs (Line.seg s (off rs a) (off rs (a + m)))).size := by
    rw [Utf.off_top hds (by omega), bs_size]
  have hq := lastIdx_runes (fun x => !(g (Class.plain x))) _ hdb m _ (by omega) (Nat.le_of_eq hz)
  rw [hz] at hq
  have hsh := lef_shift (s := s) (rs := rs) (g := g) (a := a) (F := pass (fun x => !(g (Class.plain x))) ((rs.take (a + m)).drop a)) (m := m) (fun k hk => by
    have hk2 : a + k < rs.length := by omega
    have e : ((rs.take (a + m)).drop a).getD k [] = rs[a + k] := by
      rw [List.getD_eq_getElem?_getD, List.getElem?_drop, List.getElem?_take, if_pos (by omega), List.getElem?_eq_getElem hk2]; rfl
    rw [pass, e, cl_cp hd hk2, Bool.not_not])
  have hle := Class.lft_le (pass (fun x => !(g (Class.plain x))) ((rs.take (a + m)).drop a)) m
  show (Lib.lastIdxFuncFrom _ _ _ _ _ = -1 ∧ _) ∨ ∃ j, _ ∧ Lib.lastIdxFuncFrom _ _ _ _ _ = _ ∧ _ ∧ _
  rw [hq, hsh]
  generalize Class.lft (pass (fun x => !(g (Class.plain x))) ((rs.take (a + m)).drop a)) m = j at *
  rcases Nat.eq_zero_or_pos j with h0 | h0
  · left
    rw [if_pos h0, h0]; exact ⟨rfl, rfl⟩
  · right
    refine ⟨j - 1, by omega, by rw [if_neg (by omega)], ?_, by omega⟩
    exact (Line.seg_off (by omega)).symm
end Ent
end Go.Proofs.YtdclopfhffjkfaaDoor
/-
  Package class: at and Of, where no great class is asked for.
-/
namespace Go.Proofs.YtdclopfhffjkfaaDoor
open Go.RowKit
attribute [local go_sem] Oper.semAt_some
theorem class_at_plain (s : ByteArray) (x : Int) (hs : s.size ≤ 9223372036854775807) (w : World) :
    Calls Tryd.prog 76 #[.string s, .int .i64 x, .func (.func 77) #[] #[]] w fun e w' => e = .returned (.int .i64 (Class.kind s.data.toList x false : Nat)) ∧ w = w' := by
  have hl : s.data.toList.length = s.size := by simp
  have c1 := Lib.hid (utf_Next s x hs)
  by_cases hn : Utf.next s.data.toList x < 0
  · have H : Hid (Class.kind s.data.toList x false = 0) := Class.kind_none hn false
    generalize Utf.next s.data.toList x = z at *
    go_enter Tryd.func76, Tryd.ntmps76
    go_wp2_with (go_at_call 74; refine (c1.out _).mono ?_; rintro e w1 ⟨rfl, rfl⟩)
    go_ret
    exact ⟨by rw [H.out]; rfl, rfl⟩
  · obtain ⟨rs, i, hd, hi, rfl⟩ := Class.next_place hn
    have hk := Class.kind_at hd hi false
    have hlt : Utf.off rs i < s.size := by have := Class.off_below hd hi; omega
    rw [Class.at_some (byte_get s hlt)] at hk
    have H := Lib.hid hk
    clear hk hd hi
    have hz : 0 ≤ Utf.next s.data.toList (Utf.off rs i : Int) := by omega
    clear hn
    generalize Utf.next s.data.toList (Utf.off rs i : Int) = z at *
    generalize Class.kind s.data.toList (Utf.off rs i : Int) false = m at *
    generalize Utf.off rs i = y at *
    have c2 := Lib.hid (class_plain s[y].toNat)
    go_enter Tryd.func76, Tryd.ntmps76
    go_wp2_with (first | (go_at_call 74; refine (c1.out _).mono ?_; rintro e w1 ⟨rfl, rfl⟩) | (go_at_call 77; refine (c2.out _).mono ?_; rintro e w1 ⟨rfl, rfl⟩))
    go_ret
    exact ⟨by rw [H.out]; rfl, rfl⟩
theorem class_Of_plain (s : ByteArray) (x : Int) (hs : s.size ≤ 9223372036854775807) (w : World) :
    Calls Tryd.prog 57 #[.string s, .int .i64 x] w fun e w' => e = .returned (.int .i64 (Class.kind s.data.toList x false : Nat)) ∧ w = w' := by
  have c1 := Lib.hid (class_at_plain s x hs)
  generalize Class.kind s.data.toList x false = m at *
  go_enter Tryd.func57, Tryd.ntmps57
  go_wp2_with (go_at_call 76; refine (c1.out _).mono ?_; rintro e w1 ⟨rfl, rfl⟩)
  go_ret
  exact ⟨rfl, rfl⟩
end Go.Proofs.YtdclopfhffjkfaaDoor
/-
  Package entry: far, at whatever function is handed on; what stops at other classes; word, row.
-/
namespace Go.Proofs.YtdclopfhffjkfaaDoor
open Go.RowKit Go.Shelf
open Ent (cl lef wordQ)
/-- The library's tables of UTF-8, as its initialisers lay them. -/
abbrev Tabs (w : World) : Prop := Lib.Utf8Tabs (Tryd.lays273_ren.g 3) (Tryd.lays273_ren.g 4) w
theorem strings_LastIndexFunc (g : Nat) (lb : Array Value) (eg : ∀ args w, (callFunc g args).run Tryd.prog w = .ok (.enter g args) w) (p : Nat → Bool) (s : ByteArray) (hs : s.size ≤ 9223372036854775807) (w : World) (hT : Tabs w) (hp : PredGrows Tryd.prog g lb p w) :
    Calls Tryd.prog 73 #[.string s, .func (.func g) #[] lb] w fun e w' => e = .returned (.int .i64 (Lib.lastIdxFunc p true s)) ∧ Below w.heap.size w w' := by
  have C := Lib.hid (Tryd.strings_lastIndexFunc_grows g lb eg p true s w hs hT hp)
  generalize Lib.lastIdxFunc p true s = n at *
  clear hT hp eg
  go_enter Tryd.func73, Tryd.ntmps73
  go_wp2_with (go_at_call 87; (with_reducible refine C.out.mono ?_); rintro e u ⟨rfl, hb⟩)
  go_ret
  exact ⟨rfl, hb⟩
set_option maxHeartbeats 1000000 in
set_option maxRecDepth 100000 in
theorem entry_far (s : ByteArray) {rs : List (List UInt8)} (hd : Utf.dec s.data.toList = some rs) {a i : Nat} (ha : a ≤ i) (hi : i ≤ rs.length) (f : Nat) (lb : Array Value) (eg : ∀ args w, (callFunc f args).run Tryd.prog w = .ok (.enter f args) w) (g : Nat → Bool) (hs : s.size ≤ 1000000000000) (w : World) (hT : Tabs w) (hp : PredGrows Tryd.prog f lb (fun x => !(g (Class.plain x))) w) :
    Calls Tryd.prog 55 #[.string s, .int .i64 (Utf.off rs i : Nat), .int .i64 (Utf.off rs a : Nat), .func (.func f) #[] lb] w fun e w' => e = .returned (.int .i64 (Utf.off rs (lef s.data.toList rs g a i) : Nat)) ∧ Below w.heap.size w w' := by
  have hl := data_len s
  have hii := Utf.off_in hd i
  have hai := Utf.off_mono (rs := rs) ha
  have hsz : (bs (Line.seg s.data.toList (Utf.off rs a) (Utf.off rs i))).size ≤ 9223372036854775807 := by
    rw [bs_size, Line.seg, List.length_drop, List.length_take]; omega
  have C1 := strings_LastIndexFunc f lb eg (fun x => !(g (Class.plain x))) (bs (Line.seg s.data.toList (Utf.off rs a) (Utf.off rs i))) hsz w hT hp
  have hex : s.extract (Utf.off rs a) (Utf.off rs i) = bs (Line.seg s.data.toList (Utf.off rs a) (Utf.off rs i)) := ext_seg s _ _
  have hq := Ent.lastIdx_seg hd ha hi g
  have C2 := Lib.hid (fun x => utf_Next s x (by omega))
  have g1 : (Utf.off rs a : Int) ≤ (Utf.off rs i : Int) := by omega
  have g2 : (Utf.off rs i : Int) ≤ (s.size : Int) := by omega
  clear hT hp eg
  rcases hq with ⟨e1, e2⟩ | ⟨j, hj, e1, e2, e3⟩
  · rw [e1] at C1
    rw [e2]
    have C1 := Lib.hid C1
    generalize bs (Line.seg s.data.toList (Utf.off rs a) (Utf.off rs i)) = X at *
    clear C2 e1 e2 hsz hl hai ha hi hii
    generalize Utf.off rs a = A at *
    generalize Utf.off rs i = B at *
    clear hd
    go_enter Tryd.func55, Tryd.ntmps55
    go_wp2_with (go_at_call 73; (with_reducible refine C1.out.mono ?_); rintro e u ⟨rfl, hb⟩)
    go_ret
    exact ⟨rfl, hb⟩
  · have hjl : a + j < rs.length := by omega
    have hn := Utf.next_at hd hjl
    rw [e1] at C1
    rw [e3]
    have hoz : Utf.off rs (a + j) ≤ s.data.toList.length := Utf.off_in hd _
    generalize Utf.off ((rs.take i).drop a) j = J at *
    have hnz : ((Utf.off rs a : Int) + (J : Int)) = ((Utf.off rs (a + j) : Nat) : Int) := by omega
    have C3 := C2.out ((Utf.off rs a : Int) + (J : Int))
    rw [hnz, hn] at C3
    rw [← hnz] at C3
    have C1 := Lib.hid C1
    have C3 := Lib.hid C3
    have hJ : (J : Int) ≤ (s.size : Int) := by omega
    have hA : (Utf.off rs a : Int) ≤ (s.size : Int) := by omega
    generalize bs (Line.seg s.data.toList (Utf.off rs a) (Utf.off rs i)) = X at *
    generalize Utf.off rs (a + j + 1) = R at *
    clear C2 e1 e2 e3 hsz hl hai ha hi hii hn hnz hoz hjl
    generalize Utf.off rs a = A at *
    generalize Utf.off rs i = B at *
    clear hd
    go_enter Tryd.func55, Tryd.ntmps55
    go_wp2_with (first
      | (go_at_call 73; (with_reducible refine C1.out.mono ?_); rintro e u ⟨rfl, hb⟩)
      | (go_at_call 74; (with_reducible refine (C3.out _).mono ?_); rintro e u2 ⟨rfl, rfl⟩))
    go_ret
    exact ⟨rfl, hb⟩
/-- What stops at a line feed. -/
theorem row_pays (w : World) : PredGrows Tryd.prog 60 #[] (fun x => !((· != 4) (Class.plain x))) w := fun W x hx _ => by
  show Calls _ _ #[.int .i32 x] W fun e w' => e = .returned (.bool (!((· != 4) (Class.plain x)))) ∧ Below W.heap.size W w'
  have hb : (!((· != 4) (Class.plain x))) = decide ((x : Int) = 10) := by
    by_cases h : x = 10
    · subst h; rfl
    · have h2 : Class.plain x ≠ 4 := fun e => h ((Class.of_feed_iff false x).1 e)
      have h3 : ¬ ((x : Int) = 10) := by omega
      simp [h2, h3]
  rw [hb]
  clear hb
  go_enter Tryd.func60, Tryd.ntmps60
  go_wp2
  go_ret
  exact ⟨rfl, Below.refl _ _⟩
set_option maxHeartbeats 1000000 in
set_option maxRecDepth 100000 in
/-- What stops at runes of other classes. -/
theorem other_pays (c : Nat) {w : World} {B : Nat} (hB : Blk w B 3 #[.int .i64 (c : Nat)]) : PredGrows Tryd.prog 75 #[.pointer (some ⟨B, 0, none⟩)] (fun x => !((· == c) (Class.plain x))) w := fun W x hx hb => by
  show Calls _ _ #[.int .i32 x, .pointer (some ⟨B, 0, none⟩)] W fun e w' => e = .returned (.bool (!((· == c) (Class.plain x)))) ∧ Below W.heap.size W w'
  have hBW : Blk W B 3 #[.int .i64 (c : Nat)] := (hb.block B hB.lt).trans hB
  have hc : W.cell? ⟨B, 0, none⟩ = some (.int .i64 (c : Nat)) := hBW.cell 0
  clear hBW
  obtain ⟨b, t, he, ho, hk⟩ := Ent.encode_one x hx
  have hk2 := Ent.kind_rune ho
  have hb4 := Utf.one_le ho
  have C1 := Lib.hid (fun w => class_Of_plain (bs (b :: t)) 0 (by rw [bs_size]; omega) w)
  rw [bs_toList, hk2, hk] at C1
  generalize bs (b :: t) = X at *
  have hr : (!((· == c) (Class.plain x))) = (!decide ((Class.plain x : Int) = (c : Int))) := by
    by_cases h : Class.plain x = c
    · simp [h]
    · have : ¬ ((Class.plain x : Int) = (c : Int)) := by omega
      simp [h, this]
  rw [hr]
  clear hr hk hk2 ho hb4 hB hb
  generalize Class.plain x = K at *
  go_enter Tryd.func75, Tryd.ntmps75
  go_wp2_with fail
  go_region_held3 (fun u => u.cell? ⟨B, 0, none⟩ = some (.int .i64 (c : Nat))) (first | (with_reducible assumption) | go_keep)
    ((go_at_call 57; (with_reducible refine (C1.out _).mono ?_); rintro e u ⟨rfl, rfl⟩))
  all_goals go_wp2
  all_goals go_ret
  all_goals exact ⟨rfl, (Below.refl _ _).drew⟩
theorem entry_other (c : Nat) (w : World) :
    Calls Tryd.prog 56 #[.int .i64 (c : Nat)] w fun e w' => e = .returned (.func (.func 75) #[] #[.pointer (some ⟨w.heap.size, 0, none⟩)]) ∧ w' = w.alloc (.cells #[.int .i64 (c : Nat)] 3) := by
  go_enter Tryd.func56, Tryd.ntmps56
  go_wp2
  go_ret
  exact ⟨rfl, rfl⟩
end Go.Proofs.YtdclopfhffjkfaaDoor
/-
  Package entry: the rune ahead, a word, a line; what is taken out.
-/
namespace Go.Proofs.YtdclopfhffjkfaaDoor
open Go.RowKit Go.Shelf
open Ent (cl lef wordQ backQ chopQ wipeQ cut)
theorem tabs_below {w u : World} (h : Tabs w) (hb : Below w.heap.size w u) : Tabs u := Utf8Tabs_below h hb
theorem entry_one (s : ByteArray) (x b : Int) (hs : s.size ≤ 1000000000000) (w : World) :
    Calls Tryd.prog 29 #[.string s, .int .i64 x, .int .i64 b] w fun e w' => e = .returned (.int .i64 (Utf.prev s.data.toList x)) ∧ Below w.heap.size w w' := by
  have c1 := Lib.hid (utf_Prev s x (by omega))
  generalize Utf.prev s.data.toList x = z at *
  go_enter Tryd.func29, Tryd.ntmps29
  go_wp2_with (go_at_call 38; (with_reducible refine (c1.out _).mono ?_); rintro e w1 ⟨rfl, rfl⟩)
  go_ret
  exact ⟨rfl, Below.refl _ _⟩
theorem row_enters : ∀ args w, (callFunc 60 args).run Tryd.prog w = .ok (.enter 60 args) w := enters_of Tryd.func60 (by kernel_rfl) rfl
theorem other_enters : ∀ args w, (callFunc 75 args).run Tryd.prog w = .ok (.enter 75 args) w := enters_of Tryd.func75 (by kernel_rfl) rfl
set_option maxHeartbeats 1000000 in
set_option maxRecDepth 100000 in
theorem entry_row (s : ByteArray) {rs : List (List UInt8)} (hd : Utf.dec s.data.toList = some rs) {a i : Nat} (ha : a ≤ i) (hi : i ≤ rs.length) (hs : s.size ≤ 1000000000000) (w : World) (hT : Tabs w) :
    Calls Tryd.prog 35 #[.string s, .int .i64 (Utf.off rs i : Nat), .int .i64 (Utf.off rs a : Nat)] w fun e w' => e = .returned (.int .i64 (Utf.off rs (lef s.data.toList rs (· != 4) a i) : Nat)) ∧ Below w.heap.size w w' := by
  have C := Lib.hid (entry_far s hd ha hi 60 #[] row_enters (· != 4) hs w hT (row_pays w))
  generalize Utf.off rs (lef s.data.toList rs (· != 4) a i) = R at *
  generalize Utf.off rs i = I at *
  generalize Utf.off rs a = A at *
  clear hT hd ha hi
  go_enter Tryd.func35, Tryd.ntmps35
  go_wp2_with (go_at_call 55; (with_reducible refine C.out.mono ?_); rintro e u ⟨rfl, hb⟩)
  go_ret
  exact ⟨rfl, hb⟩
/-- far, handed what has just been made of a class. -/
theorem entry_far_other (s : ByteArray) {rs : List (List UInt8)} (hd : Utf.dec s.data.toList = some rs) {a i : Nat} (ha : a ≤ i) (hi : i ≤ rs.length) (c : Nat) (hs : s.size ≤ 1000000000000) (w : World) (hT : Tabs w) :
    Calls Tryd.prog 55 #[.string s, .int .i64 (Utf.off rs i : Nat), .int .i64 (Utf.off rs a : Nat), .func (.func 75) #[] #[.pointer (some ⟨w.heap.size, 0, none⟩)]] (w.alloc (.cells #[.int .i64 (c : Nat)] 3)) fun e w' => e = .returned (.int .i64 (Utf.off rs (lef s.data.toList rs (· == c) a i) : Nat)) ∧ Below w.heap.size w w' := by
  have h1 : Below w.heap.size w (w.alloc (.cells #[.int .i64 (c : Nat)] 3)) := (Below.refl _ w).alloc (Nat.le_refl _) _
  refine (entry_far s hd ha hi 75 #[.pointer (some ⟨w.heap.size, 0, none⟩)] other_enters (· == c) hs _ (tabs_below hT h1) (other_pays c (Blk.new w _ _))).mono ?_
  rintro e u ⟨rfl, hb⟩
  exact ⟨rfl, h1.trans (hb.mono h1.size)⟩
/-- Which class stands ahead of rune j. -/
def Ent.ahead (s : List UInt8) (rs : List (List UInt8)) (j : Nat) : Nat := if j = 0 then 0 else cl s rs (j - 1)
theorem Ent.ahead_kind {s : List UInt8} {rs : List (List UInt8)} (hd : Utf.dec s = some rs) {j : Nat} (hj : j ≤ rs.length) : Class.kind s (Utf.prev s (Utf.off rs j : Int)) false = Ent.ahead s rs j := by
  rcases Nat.eq_zero_or_pos j with h | h
  · subst h
    rw [Utf.off_zero, Ent.ahead, if_pos rfl]
    have e : Utf.prev s ((0 : Nat) : Int) = -1 := Utf.prev_zero hd
    rw [e]
    refine Class.kind_none ?_ false
    rw [Utf.next_no (Utf.place_no hd (fun i _ => by omega))]
    decide
  · obtain ⟨k, rfl⟩ : ∃ k, j = k + 1 := ⟨j - 1, by omega⟩
    rw [Utf.prev_at hd (by omega), Ent.cl_kind hd (by omega), Ent.ahead, if_neg (by omega), Nat.add_sub_cancel]
theorem Ent.word_ahead {s : List UInt8} {rs : List (List UInt8)} {a j : Nat} : wordQ s rs a j = if Ent.ahead s rs j = 4 then j else lef s rs (· == Ent.ahead s rs j) a j := by
  rw [wordQ, Ent.ahead]
  rcases Nat.eq_zero_or_pos j with h | h
  · subst h
    rw [if_pos rfl, if_neg (show ¬ (0 = 4) by decide)]
    have e : ∀ g, lef s rs g a 0 = 0 := fun g => rfl
    rw [e, e]
    split <;> rfl
  · rw [if_neg (show ¬ (j = 0) by omega)]

set_option maxHeartbeats 2000000 in
set_option maxRecDepth 100000 in
theorem entry_word_feed (s : ByteArray) {rs : List (List UInt8)} (hd : Utf.dec s.data.toList = some rs) {a i : Nat} (ha : a ≤ i) (hi : i ≤ rs.length) (h4 : Ent.ahead s.data.toList rs (lef s.data.toList rs (· == 1) a i) = 4) (hs : s.size ≤ 1000000000000) (w : World) (hT : Tabs w) :
    Calls Tryd.prog 33 #[.string s, .int .i64 (Utf.off rs i : Nat), .int .i64 (Utf.off rs a : Nat)] w fun e w' => e = .returned (.int .i64 (Utf.off rs (wordQ s.data.toList rs a (lef s.data.toList rs (· == 1) a i)) : Nat)) ∧ Below w.heap.size w w' := by
  have O : Hid (∀ w, Calls Tryd.prog 56 #[.int .i64 1] w fun e w' => e = .returned (.func (.func 75) #[] #[.pointer (some ⟨w.heap.size, 0, none⟩)]) ∧ w' = w.alloc (.cells #[.int .i64 1] 3)) := fun w => entry_other 1 w
  have F1 : Hid (Calls Tryd.prog 55 #[.string s, .int .i64 (Utf.off rs i : Nat), .int .i64 (Utf.off rs a : Nat), .func (.func 75) #[] #[.pointer (some ⟨w.heap.size, 0, none⟩)]] (w.alloc (.cells #[.int .i64 1] 3)) fun e w' => e = .returned (.int .i64 (Utf.off rs (lef s.data.toList rs (· == 1) a i) : Nat)) ∧ Below w.heap.size w w') := entry_far_other s hd ha hi 1 hs w hT
  have hle := Ent.lef_le (s := s.data.toList) (rs := rs) (g := (· == 1)) (a := a) (i := i)
  have hge := Ent.lef_ge (s := s.data.toList) (rs := rs) (g := (· == 1)) (a := a) (i := i) ha
  rw [Ent.word_ahead]
  generalize lef s.data.toList rs (· == 1) a i = j at *
  have K := Lib.hid (fun w => class_Of_plain s (Utf.prev s.data.toList (Utf.off rs j : Int)) (by omega) w)
  rw [Ent.ahead_kind hd (by omega)] at K
  have P := Lib.hid (fun w => utf_Prev s (Utf.off rs j : Int) (by omega) w)

  rw [if_pos h4]
  rw [h4] at K
  have F : Hid (∀ u : World, Below w.heap.size w u → True) := fun _ _ => trivial

  generalize Utf.prev s.data.toList (Utf.off rs j : Int) = z at *
  generalize Utf.off rs j = J at *
  generalize Utf.off rs i = I at *
  generalize Utf.off rs a = A at *
  clear hT hd ha hi hle hge h4
  go_enter Tryd.func33, Tryd.ntmps33
  go_wp2_with (first
    | (go_at_call 56; (with_reducible refine (O.out _).mono ?_); rintro e u ⟨rfl, rfl⟩)
    | (go_at_call 55; (with_reducible refine F1.out.mono ?_); rintro e u ⟨rfl, hb⟩; have F2 := Lib.hid (F.out u hb))
    | (go_at_call 38; (with_reducible refine (P.out _).mono ?_); rintro e v ⟨rfl, rfl⟩)
    | (go_at_call 57; (with_reducible refine (K.out _).mono ?_); rintro e v ⟨rfl, rfl⟩))
  go_ret
  exact ⟨rfl, hb⟩

set_option maxHeartbeats 2000000 in
set_option maxRecDepth 100000 in
theorem entry_word_runes (s : ByteArray) {rs : List (List UInt8)} (hd : Utf.dec s.data.toList = some rs) {a i : Nat} (ha : a ≤ i) (hi : i ≤ rs.length) (h4 : Ent.ahead s.data.toList rs (lef s.data.toList rs (· == 1) a i) ≠ 4) (hs : s.size ≤ 1000000000000) (w : World) (hT : Tabs w) :
    Calls Tryd.prog 33 #[.string s, .int .i64 (Utf.off rs i : Nat), .int .i64 (Utf.off rs a : Nat)] w fun e w' => e = .returned (.int .i64 (Utf.off rs (wordQ s.data.toList rs a (lef s.data.toList rs (· == 1) a i)) : Nat)) ∧ Below w.heap.size w w' := by
  have O : Hid (∀ w, Calls Tryd.prog 56 #[.int .i64 1] w fun e w' => e = .returned (.func (.func 75) #[] #[.pointer (some ⟨w.heap.size, 0, none⟩)]) ∧ w' = w.alloc (.cells #[.int .i64 1] 3)) := fun w => entry_other 1 w
  have F1 : Hid (Calls Tryd.prog 55 #[.string s, .int .i64 (Utf.off rs i : Nat), .int .i64 (Utf.off rs a : Nat), .func (.func 75) #[] #[.pointer (some ⟨w.heap.size, 0, none⟩)]] (w.alloc (.cells #[.int .i64 1] 3)) fun e w' => e = .returned (.int .i64 (Utf.off rs (lef s.data.toList rs (· == 1) a i) : Nat)) ∧ Below w.heap.size w w') := entry_far_other s hd ha hi 1 hs w hT
  have hle := Ent.lef_le (s := s.data.toList) (rs := rs) (g := (· == 1)) (a := a) (i := i)
  have hge := Ent.lef_ge (s := s.data.toList) (rs := rs) (g := (· == 1)) (a := a) (i := i) ha
  rw [Ent.word_ahead]
  generalize lef s.data.toList rs (· == 1) a i = j at *
  have K := Lib.hid (fun w => class_Of_plain s (Utf.prev s.data.toList (Utf.off rs j : Int)) (by omega) w)
  rw [Ent.ahead_kind hd (by omega)] at K
  have P := Lib.hid (fun w => utf_Prev s (Utf.off rs j : Int) (by omega) w)

  rw [if_neg h4]
  have F : Hid (∀ u : World, Below w.heap.size w u → Calls Tryd.prog 55 #[.string s, .int .i64 (Utf.off rs j : Nat), .int .i64 (Utf.off rs a : Nat), .func (.func 75) #[] #[.pointer (some ⟨u.heap.size, 0, none⟩)]] (u.alloc (.cells #[.int .i64 (Ent.ahead s.data.toList rs j : Nat)] 3)) fun e w' => e = .returned (.int .i64 (Utf.off rs (lef s.data.toList rs (· == Ent.ahead s.data.toList rs j) a j) : Nat)) ∧ Below w.heap.size w w') := fun u hu => by
    refine (entry_far_other s hd hge (by omega) _ hs u (tabs_below hT hu)).mono ?_
    rintro e v ⟨rfl, hb⟩
    exact ⟨rfl, hu.trans (hb.mono hu.size)⟩
  generalize Utf.off rs (lef s.data.toList rs (· == Ent.ahead s.data.toList rs j) a j) = R at *
  have O2 := Lib.hid (fun w => entry_other (Ent.ahead s.data.toList rs j) w)
  generalize Ent.ahead s.data.toList rs j = c at *
  have g4 : ((c : Int) == 4) = false := by simp; omega

  generalize Utf.prev s.data.toList (Utf.off rs j : Int) = z at *
  generalize Utf.off rs j = J at *
  generalize Utf.off rs i = I at *
  generalize Utf.off rs a = A at *
  clear hT hd ha hi hle hge h4
  go_enter Tryd.func33, Tryd.ntmps33
  go_wp2_with (first
    | (go_at_call 56; (with_reducible refine (O.out _).mono ?_); rintro e u ⟨rfl, rfl⟩)
    | (go_at_call 55; (with_reducible refine F1.out.mono ?_); rintro e u ⟨rfl, hb⟩; have F2 := Lib.hid (F.out u hb))
    | (go_at_call 38; (with_reducible refine (P.out _).mono ?_); rintro e v ⟨rfl, rfl⟩)
    | (go_at_call 57; (with_reducible refine (K.out _).mono ?_); rintro e v ⟨rfl, rfl⟩)
    | (go_at_call 56; (with_reducible refine (O2.out _).mono ?_); rintro e u2 ⟨rfl, rfl⟩)
    | (go_at_call 55; (with_reducible refine F2.out.mono ?_); rintro e u ⟨rfl, hb2⟩))
  go_ret
  exact ⟨rfl, hb2⟩

theorem entry_word (s : ByteArray) {rs : List (List UInt8)} (hd : Utf.dec s.data.toList = some rs) {a i : Nat} (ha : a ≤ i) (hi : i ≤ rs.length) (hs : s.size ≤ 1000000000000) (w : World) (hT : Tabs w) :
    Calls Tryd.prog 33 #[.string s, .int .i64 (Utf.off rs i : Nat), .int .i64 (Utf.off rs a : Nat)] w fun e w' => e = .returned (.int .i64 (Utf.off rs (wordQ s.data.toList rs a (lef s.data.toList rs (· == 1) a i)) : Nat)) ∧ Below w.heap.size w w' := by
  by_cases h4 : Ent.ahead s.data.toList rs (lef s.data.toList rs (· == 1) a i) = 4
  · exact entry_word_feed s hd ha hi h4 hs w hT
  · exact entry_word_runes s hd ha hi h4 hs w hT

set_option maxHeartbeats 2000000 in
set_option maxRecDepth 100000 in
theorem entry_out_one_no1 (s : ByteArray) (x b : Int) (h : Utf.place s.data.toList x = false) (hs : s.size ≤ 1000000000000) (w : World) :
    Calls Tryd.prog 28 #[.string s, .int .i64 x, .int .i64 b, .func (.func 29) #[] #[]] w fun e w' => e = .returned (.tuple #[.string ⟨#[]⟩, .int .i64 0, .int .i64 1]) ∧ Below w.heap.size w w' := by
  have c1 := Lib.hid (utf_Place s x (by omega))
  rw [h] at c1
  clear h
  go_enter Tryd.func28, Tryd.ntmps28
  go_wp2_with (go_at_call 21; (with_reducible refine (c1.out _).mono ?_); rintro e w1 ⟨rfl, rfl⟩)
  go_ret3
  exact ⟨rfl, Below.refl _ _⟩

set_option maxHeartbeats 2000000 in
set_option maxRecDepth 100000 in
theorem entry_out_one_no2 (s : ByteArray) (x b : Int) (h1 : Utf.place s.data.toList x = true) (h : Utf.place s.data.toList b = false) (hs : s.size ≤ 1000000000000) (w : World) :
    Calls Tryd.prog 28 #[.string s, .int .i64 x, .int .i64 b, .func (.func 29) #[] #[]] w fun e w' => e = .returned (.tuple #[.string ⟨#[]⟩, .int .i64 0, .int .i64 1]) ∧ Below w.heap.size w w' := by
  have c1 := Lib.hid (utf_Place s x (by omega))
  have c2 := Lib.hid (utf_Place s b (by omega))
  rw [h1] at c1
  rw [h] at c2
  clear h h1
  go_enter Tryd.func28, Tryd.ntmps28
  go_wp2_with (first
    | (go_at_call 21; (with_reducible refine (c1.out _).mono ?_); rintro e w1 ⟨rfl, rfl⟩)
    | (go_at_call 21; (with_reducible refine (c2.out _).mono ?_); rintro e w1 ⟨rfl, rfl⟩))
  go_ret3
  exact ⟨rfl, Below.refl _ _⟩

set_option maxHeartbeats 2000000 in
set_option maxRecDepth 100000 in
theorem entry_out_one_move (s : ByteArray) (x b : Int) (h1 : Utf.place s.data.toList x = true) (h2 : Utf.place s.data.toList b = true) (h : x ≤ b) (hs : s.size ≤ 1000000000000) (w : World) :
    Calls Tryd.prog 28 #[.string s, .int .i64 x, .int .i64 b, .func (.func 29) #[] #[]] w fun e w' => e = .returned (.tuple #[.string ⟨#[]⟩, .int .i64 0, .int .i64 10]) ∧ Below w.heap.size w w' := by
  have c1 := Lib.hid (utf_Place s x (by omega))
  have c2 := Lib.hid (utf_Place s b (by omega))
  rw [h1] at c1
  rw [h2] at c2
  clear h1 h2
  go_enter Tryd.func28, Tryd.ntmps28
  go_wp2_with (first
    | (go_at_call 21; (with_reducible refine (c1.out _).mono ?_); rintro e w1 ⟨rfl, rfl⟩)
    | (go_at_call 21; (with_reducible refine (c2.out _).mono ?_); rintro e w1 ⟨rfl, rfl⟩))
  go_ret3
  exact ⟨rfl, Below.refl _ _⟩

set_option maxHeartbeats 2000000 in
set_option maxRecDepth 100000 in
theorem entry_out_one_feed (s : ByteArray) {rs : List (List UInt8)} (hd : Utf.dec s.data.toList = some rs) {a i : Nat} (ha : a < i) (hi : i ≤ rs.length) (h4 : cl s.data.toList rs (i - 1) = 4) (hs : s.size ≤ 1000000000000) (w : World) :
    Calls Tryd.prog 28 #[.string s, .int .i64 (Utf.off rs i : Nat), .int .i64 (Utf.off rs a : Nat), .func (.func 29) #[] #[]] w fun e w' => e = .returned (.tuple #[.string (bs (Pst.mid s.data.toList (Utf.off rs (backQ s.data.toList rs a i)) (Utf.off rs i) [])), .int .i64 (Utf.off rs (backQ s.data.toList rs a i) : Nat), .int .i64 0]) ∧ Below w.heap.size w w' := by
  have hl := data_len s
  have c1 := Lib.hid (utf_Place s (Utf.off rs i : Int) (by omega))
  have c2 := Lib.hid (utf_Place s (Utf.off rs a : Int) (by omega))
  rw [Utf.place_at hd hi] at c1
  rw [Utf.place_at hd (by omega)] at c2
  have hlt := Utf.off_lt (Utf.dec_some hd).1 ha hi
  have hil := Utf.off_in hd i
  obtain ⟨k, rfl⟩ : ∃ k, i = k + 1 := ⟨i - 1, by omega⟩
  rw [Nat.add_sub_cancel] at h4
  have hb : Utf.off rs (k + 1) - 1 < s.size := by omega
  have h10 := Ent.cl_last hd (i := k) (by omega)
  rw [byte_get s hb] at h10
  have hQ : backQ s.data.toList rs a (k + 1) = k := by
    unfold backQ
    omega
  rw [hQ]
  have hk := Ent.feed_one hd (by omega) h4
  have hkb : Utf.off rs k < s.size := by omega
  have h11 := (Ent.cl_first (s := s.data.toList) (rs := rs) (i := k)).1 h4
  rw [byte_get s hkb] at h11
  have g10 : s[Utf.off rs k].toNat = 10 := by
    injection h11 with h11
    rw [h11]; rfl
  clear h11
  have gk : (Utf.off rs (k + 1) : Int) - 1 = (Utf.off rs k : Nat) := by omega
  have hkl : Utf.off rs k ≤ s.size := by omega
  have PT := Lib.hid (fun w => entry_put s (Utf.off rs k) (Utf.off rs (k + 1)) ⟨#[]⟩ hkl (by omega) hs (by decide) w)
  rw [show (⟨#[]⟩ : ByteArray).data.toList = [] from rfl] at PT
  generalize bs (Pst.mid s.data.toList (Utf.off rs k) (Utf.off rs (k + 1)) []) = R at *
  have g1 : (0 : Int) ≤ (Utf.off rs (k + 1) : Int) - 1 := by omega
  have g2 : (Utf.off rs (k + 1) : Int) - 1 < (s.size : Int) := by omega
  have g3 : ¬ ((Utf.off rs (k + 1) : Int) ≤ (Utf.off rs a : Int)) := by omega
  have g5 : ((Utf.off rs (k + 1) : Int) - 1).toNat = Utf.off rs (k + 1) - 1 := by omega
  clear h10 h4 hlt hil hl hQ hk
  have hB := Below.refl w.heap.size w
  generalize Utf.off rs k = Q at *
  generalize Utf.off rs (k + 1) = I at *
  generalize Utf.off rs a = A at *
  clear hd ha hi
  go_enter Tryd.func28, Tryd.ntmps28
  go_wp2_with (first
    | (go_at_call 21; (with_reducible refine (c1.out _).mono ?_); rintro e w1 ⟨rfl, rfl⟩)
    | (go_at_call 21; (with_reducible refine (c2.out _).mono ?_); rintro e w1 ⟨rfl, rfl⟩)
    | (go_at_call 24; (with_reducible refine (PT.out _).mono ?_); rintro e u ⟨rfl, hbn⟩; replace hB := hB.trans (hbn.mono hB.size); clear hbn))
  go_ret3
  exact ⟨rfl, hB⟩

set_option maxHeartbeats 2000000 in
set_option maxRecDepth 100000 in
theorem entry_out_one_else (s : ByteArray) {rs : List (List UInt8)} (hd : Utf.dec s.data.toList = some rs) {a i : Nat} (ha : a < i) (hi : i ≤ rs.length) (h4 : cl s.data.toList rs (i - 1) ≠ 4) (hs : s.size ≤ 1000000000000) (w : World) :
    Calls Tryd.prog 28 #[.string s, .int .i64 (Utf.off rs i : Nat), .int .i64 (Utf.off rs a : Nat), .func (.func 29) #[] #[]] w fun e w' => e = .returned (.tuple #[.string (bs (Pst.mid s.data.toList (Utf.off rs (backQ s.data.toList rs a i)) (Utf.off rs i) [])), .int .i64 (Utf.off rs (backQ s.data.toList rs a i) : Nat), .int .i64 0]) ∧ Below w.heap.size w w' := by
  have hl := data_len s
  have c1 := Lib.hid (utf_Place s (Utf.off rs i : Int) (by omega))
  have c2 := Lib.hid (utf_Place s (Utf.off rs a : Int) (by omega))
  rw [Utf.place_at hd hi] at c1
  rw [Utf.place_at hd (by omega)] at c2
  have hlt := Utf.off_lt (Utf.dec_some hd).1 ha hi
  have hil := Utf.off_in hd i
  obtain ⟨k, rfl⟩ : ∃ k, i = k + 1 := ⟨i - 1, by omega⟩
  rw [Nat.add_sub_cancel] at h4
  have hb : Utf.off rs (k + 1) - 1 < s.size := by omega
  have h10 := Ent.cl_last hd (i := k) (by omega)
  rw [byte_get s hb] at h10
  have g10 : s[Utf.off rs (k + 1) - 1].toNat ≠ 10 := fun e => h4 (h10.2 (by rw [show s[Utf.off rs (k + 1) - 1] = 10 from UInt8.toNat_inj.1 (by rw [e]; rfl)]))
  have hQ : backQ s.data.toList rs a (k + 1) = k := by unfold backQ; omega
  rw [hQ]
  have T := Lib.hid (fun w => entry_one s (Utf.off rs (k + 1) : Int) (Utf.off rs a : Int) hs w)
  rw [Utf.prev_at hd (by omega)] at T
  have hkl : Utf.off rs k ≤ s.size := by have := Utf.off_in hd k; omega
  have PT := Lib.hid (fun w => entry_put s (Utf.off rs k) (Utf.off rs (k + 1)) ⟨#[]⟩ hkl (by omega) hs (by decide) w)
  rw [show (⟨#[]⟩ : ByteArray).data.toList = [] from rfl] at PT
  generalize bs (Pst.mid s.data.toList (Utf.off rs k) (Utf.off rs (k + 1)) []) = R at *
  have g1 : (0 : Int) ≤ (Utf.off rs (k + 1) : Int) - 1 := by omega
  have g2 : (Utf.off rs (k + 1) : Int) - 1 < (s.size : Int) := by omega
  have g3 : ¬ ((Utf.off rs (k + 1) : Int) ≤ (Utf.off rs a : Int)) := by omega
  have g5 : ((Utf.off rs (k + 1) : Int) - 1).toNat = Utf.off rs (k + 1) - 1 := by omega
  clear h10 h4 hlt hil hl hQ
  have hB := Below.refl w.heap.size w
  generalize Utf.off rs k = Q at *
  generalize Utf.off rs (k + 1) = I at *
  generalize Utf.off rs a = A at *
  clear hd ha hi
  go_enter Tryd.func28, Tryd.ntmps28
  go_wp2_with (first
    | (go_at_call 21; (with_reducible refine (c1.out _).mono ?_); rintro e w1 ⟨rfl, rfl⟩)
    | (go_at_call 21; (with_reducible refine (c2.out _).mono ?_); rintro e w1 ⟨rfl, rfl⟩)
    | (go_at_call 29; (with_reducible refine (T.out _).mono ?_); rintro e u ⟨rfl, hbn⟩; replace hB := hB.trans (hbn.mono hB.size); clear hbn)
    | (go_at_call 24; (with_reducible refine (PT.out _).mono ?_); rintro e u ⟨rfl, hbn⟩; replace hB := hB.trans (hbn.mono hB.size); clear hbn))
  go_ret3
  exact ⟨rfl, hB⟩

theorem entry_out_one (s : ByteArray) (x b : Int) (hs : s.size ≤ 1000000000000) (w : World) :
    Calls Tryd.prog 28 #[.string s, .int .i64 x, .int .i64 b, .func (.func 29) #[] #[]] w fun e w' => e = .returned (Pst.val (cut backQ s.data.toList x b)) ∧ Below w.heap.size w w' := by
  cases h1 : Utf.place s.data.toList x with
  | false => rw [Ent.cut_no _ (.inl h1)]; exact entry_out_one_no1 s x b h1 hs w
  | true =>
    cases h2 : Utf.place s.data.toList b with
    | false => rw [Ent.cut_no _ (.inr h2)]; exact entry_out_one_no2 s x b h1 h2 hs w
    | true =>
      obtain ⟨rs, hd⟩ := Utf.valid_of (Line.place_ok h1)
      obtain ⟨i, hi, rfl⟩ := (Utf.place_iff hd).1 h1
      obtain ⟨a, ha, rfl⟩ := (Utf.place_iff hd).1 h2
      rw [Ent.cut_at _ hd hi ha]
      by_cases h : i ≤ a
      · rw [if_pos h]
        exact entry_out_one_move s _ _ h1 h2 (by have := Utf.off_mono (rs := rs) h; omega) hs w
      · rw [if_neg h]
        by_cases h4 : cl s.data.toList rs (i - 1) = 4
        · exact entry_out_one_feed s hd (by omega) hi h4 hs w
        · exact entry_out_one_else s hd (by omega) hi h4 hs w
set_option maxHeartbeats 1000000 in
set_option maxRecDepth 100000 in
theorem entry_Back (s : ByteArray) (x b : Int) (hs : s.size ≤ 1000000000000) (w : World) :
    Calls Tryd.prog 12 #[.string s, .int .i64 x, .int .i64 b] w fun e w' => e = .returned (Pst.val (cut backQ s.data.toList x b)) ∧ Below w.heap.size w w' := by
  have C := Lib.hid (entry_out_one s x b hs w)
  rw [Pst.val] at C
  rw [Pst.val]
  generalize bs (cut backQ s.data.toList x b).1 = R at *
  generalize (cut backQ s.data.toList x b).2.1 = R1 at *
  generalize (cut backQ s.data.toList x b).2.2 = R2 at *
  go_enter Tryd.func12, Tryd.ntmps12
  go_wp2_with (go_at_call 28; (with_reducible refine C.out.mono ?_); rintro e u ⟨rfl, hb⟩)
  go_ret3
  exact ⟨rfl, hb⟩

set_option maxHeartbeats 2000000 in
set_option maxRecDepth 100000 in
theorem entry_out_word_no1 (s : ByteArray) (x b : Int) (h : Utf.place s.data.toList x = false) (hs : s.size ≤ 1000000000000) (w : World) :
    Calls Tryd.prog 28 #[.string s, .int .i64 x, .int .i64 b, .func (.func 33) #[] #[]] w fun e w' => e = .returned (.tuple #[.string ⟨#[]⟩, .int .i64 0, .int .i64 1]) ∧ Below w.heap.size w w' := by
  have c1 := Lib.hid (utf_Place s x (by omega))
  rw [h] at c1
  clear h
  go_enter Tryd.func28, Tryd.ntmps28
  go_wp2_with (go_at_call 21; (with_reducible refine (c1.out _).mono ?_); rintro e w1 ⟨rfl, rfl⟩)
  go_ret3
  exact ⟨rfl, Below.refl _ _⟩

set_option maxHeartbeats 2000000 in
set_option maxRecDepth 100000 in
theorem entry_out_word_no2 (s : ByteArray) (x b : Int) (h1 : Utf.place s.data.toList x = true) (h : Utf.place s.data.toList b = false) (hs : s.size ≤ 1000000000000) (w : World) :
    Calls Tryd.prog 28 #[.string s, .int .i64 x, .int .i64 b, .func (.func 33) #[] #[]] w fun e w' => e = .returned (.tuple #[.string ⟨#[]⟩, .int .i64 0, .int .i64 1]) ∧ Below w.heap.size w w' := by
  have c1 := Lib.hid (utf_Place s x (by omega))
  have c2 := Lib.hid (utf_Place s b (by omega))
  rw [h1] at c1
  rw [h] at c2
  clear h h1
  go_enter Tryd.func28, Tryd.ntmps28
  go_wp2_with (first
    | (go_at_call 21; (with_reducible refine (c1.out _).mono ?_); rintro e w1 ⟨rfl, rfl⟩)
    | (go_at_call 21; (with_reducible refine (c2.out _).mono ?_); rintro e w1 ⟨rfl, rfl⟩))
  go_ret3
  exact ⟨rfl, Below.refl _ _⟩

set_option maxHeartbeats 2000000 in
set_option maxRecDepth 100000 in
theorem entry_out_word_move (s : ByteArray) (x b : Int) (h1 : Utf.place s.data.toList x = true) (h2 : Utf.place s.data.toList b = true) (h : x ≤ b) (hs : s.size ≤ 1000000000000) (w : World) :
    Calls Tryd.prog 28 #[.string s, .int .i64 x, .int .i64 b, .func (.func 33) #[] #[]] w fun e w' => e = .returned (.tuple #[.string ⟨#[]⟩, .int .i64 0, .int .i64 10]) ∧ Below w.heap.size w w' := by
  have c1 := Lib.hid (utf_Place s x (by omega))
  have c2 := Lib.hid (utf_Place s b (by omega))
  rw [h1] at c1
  rw [h2] at c2
  clear h1 h2
  go_enter Tryd.func28, Tryd.ntmps28
  go_wp2_with (first
    | (go_at_call 21; (with_reducible refine (c1.out _).mono ?_); rintro e w1 ⟨rfl, rfl⟩)
    | (go_at_call 21; (with_reducible refine (c2.out _).mono ?_); rintro e w1 ⟨rfl, rfl⟩))
  go_ret3
  exact ⟨rfl, Below.refl _ _⟩

set_option maxHeartbeats 2000000 in
set_option maxRecDepth 100000 in
theorem entry_out_word_feed (s : ByteArray) {rs : List (List UInt8)} (hd : Utf.dec s.data.toList = some rs) {a i : Nat} (ha : a < i) (hi : i ≤ rs.length) (h4 : cl s.data.toList rs (i - 1) = 4) (hs : s.size ≤ 1000000000000) (w : World) :
    Calls Tryd.prog 28 #[.string s, .int .i64 (Utf.off rs i : Nat), .int .i64 (Utf.off rs a : Nat), .func (.func 33) #[] #[]] w fun e w' => e = .returned (.tuple #[.string (bs (Pst.mid s.data.toList (Utf.off rs (chopQ s.data.toList rs a i)) (Utf.off rs i) [])), .int .i64 (Utf.off rs (chopQ s.data.toList rs a i) : Nat), .int .i64 0]) ∧ Below w.heap.size w w' := by
  have hl := data_len s
  have c1 := Lib.hid (utf_Place s (Utf.off rs i : Int) (by omega))
  have c2 := Lib.hid (utf_Place s (Utf.off rs a : Int) (by omega))
  rw [Utf.place_at hd hi] at c1
  rw [Utf.place_at hd (by omega)] at c2
  have hlt := Utf.off_lt (Utf.dec_some hd).1 ha hi
  have hil := Utf.off_in hd i
  obtain ⟨k, rfl⟩ : ∃ k, i = k + 1 := ⟨i - 1, by omega⟩
  rw [Nat.add_sub_cancel] at h4
  have hb : Utf.off rs (k + 1) - 1 < s.size := by omega
  have h10 := Ent.cl_last hd (i := k) (by omega)
  rw [byte_get s hb] at h10
  have hQ : chopQ s.data.toList rs a (k + 1) = k := by
    unfold chopQ
    rw [Nat.add_sub_cancel, if_pos h4]
  rw [hQ]
  have hk := Ent.feed_one hd (by omega) h4
  have hkb : Utf.off rs k < s.size := by omega
  have h11 := (Ent.cl_first (s := s.data.toList) (rs := rs) (i := k)).1 h4
  rw [byte_get s hkb] at h11
  have g10 : s[Utf.off rs k].toNat = 10 := by
    injection h11 with h11
    rw [h11]; rfl
  clear h11
  have gk : (Utf.off rs (k + 1) : Int) - 1 = (Utf.off rs k : Nat) := by omega
  have hkl : Utf.off rs k ≤ s.size := by omega
  have PT := Lib.hid (fun w => entry_put s (Utf.off rs k) (Utf.off rs (k + 1)) ⟨#[]⟩ hkl (by omega) hs (by decide) w)
  rw [show (⟨#[]⟩ : ByteArray).data.toList = [] from rfl] at PT
  generalize bs (Pst.mid s.data.toList (Utf.off rs k) (Utf.off rs (k + 1)) []) = R at *
  have g1 : (0 : Int) ≤ (Utf.off rs (k + 1) : Int) - 1 := by omega
  have g2 : (Utf.off rs (k + 1) : Int) - 1 < (s.size : Int) := by omega
  have g3 : ¬ ((Utf.off rs (k + 1) : Int) ≤ (Utf.off rs a : Int)) := by omega
  have g5 : ((Utf.off rs (k + 1) : Int) - 1).toNat = Utf.off rs (k + 1) - 1 := by omega
  clear h10 h4 hlt hil hl hQ hk
  have hB := Below.refl w.heap.size w
  generalize Utf.off rs k = Q at *
  generalize Utf.off rs (k + 1) = I at *
  generalize Utf.off rs a = A at *
  clear hd ha hi
  go_enter Tryd.func28, Tryd.ntmps28
  go_wp2_with (first
    | (go_at_call 21; (with_reducible refine (c1.out _).mono ?_); rintro e w1 ⟨rfl, rfl⟩)
    | (go_at_call 21; (with_reducible refine (c2.out _).mono ?_); rintro e w1 ⟨rfl, rfl⟩)
    | (go_at_call 24; (with_reducible refine (PT.out _).mono ?_); rintro e u ⟨rfl, hbn⟩; replace hB := hB.trans (hbn.mono hB.size); clear hbn))
  go_ret3
  exact ⟨rfl, hB⟩

set_option maxHeartbeats 2000000 in
set_option maxRecDepth 100000 in
theorem entry_out_word_else (s : ByteArray) {rs : List (List UInt8)} (hd : Utf.dec s.data.toList = some rs) {a i : Nat} (ha : a < i) (hi : i ≤ rs.length) (h4 : cl s.data.toList rs (i - 1) ≠ 4) (hs : s.size ≤ 1000000000000) (w : World) (hT : Tabs w) :
    Calls Tryd.prog 28 #[.string s, .int .i64 (Utf.off rs i : Nat), .int .i64 (Utf.off rs a : Nat), .func (.func 33) #[] #[]] w fun e w' => e = .returned (.tuple #[.string (bs (Pst.mid s.data.toList (Utf.off rs (chopQ s.data.toList rs a i)) (Utf.off rs i) [])), .int .i64 (Utf.off rs (chopQ s.data.toList rs a i) : Nat), .int .i64 0]) ∧ Below w.heap.size w w' := by
  have hl := data_len s
  have c1 := Lib.hid (utf_Place s (Utf.off rs i : Int) (by omega))
  have c2 := Lib.hid (utf_Place s (Utf.off rs a : Int) (by omega))
  rw [Utf.place_at hd hi] at c1
  rw [Utf.place_at hd (by omega)] at c2
  have hlt := Utf.off_lt (Utf.dec_some hd).1 ha hi
  have hil := Utf.off_in hd i
  obtain ⟨k, rfl⟩ : ∃ k, i = k + 1 := ⟨i - 1, by omega⟩
  rw [Nat.add_sub_cancel] at h4
  have hb : Utf.off rs (k + 1) - 1 < s.size := by omega
  have h10 := Ent.cl_last hd (i := k) (by omega)
  rw [byte_get s hb] at h10
  have g10 : s[Utf.off rs (k + 1) - 1].toNat ≠ 10 := fun e => h4 (h10.2 (by rw [show s[Utf.off rs (k + 1) - 1] = 10 from UInt8.toNat_inj.1 (by rw [e]; rfl)]))
  have hQ : chopQ s.data.toList rs a (k + 1) = wordQ s.data.toList rs a (lef s.data.toList rs (· == 1) a (k + 1)) := by unfold chopQ; rw [Nat.add_sub_cancel, if_neg h4]
  rw [hQ]
  have T := Lib.hid (entry_word s hd (Nat.le_of_lt ha) hi hs w hT)
  generalize wordQ s.data.toList rs a (lef s.data.toList rs (· == 1) a (k + 1)) = q at *
  have hkl : Utf.off rs q ≤ s.size := by have := Utf.off_in hd q; omega
  have PT := Lib.hid (fun w => entry_put s (Utf.off rs q) (Utf.off rs (k + 1)) ⟨#[]⟩ hkl (by omega) hs (by decide) w)
  rw [show (⟨#[]⟩ : ByteArray).data.toList = [] from rfl] at PT
  generalize bs (Pst.mid s.data.toList (Utf.off rs q) (Utf.off rs (k + 1)) []) = R at *
  have g1 : (0 : Int) ≤ (Utf.off rs (k + 1) : Int) - 1 := by omega
  have g2 : (Utf.off rs (k + 1) : Int) - 1 < (s.size : Int) := by omega
  have g3 : ¬ ((Utf.off rs (k + 1) : Int) ≤ (Utf.off rs a : Int)) := by omega
  have g5 : ((Utf.off rs (k + 1) : Int) - 1).toNat = Utf.off rs (k + 1) - 1 := by omega
  clear h10 h4 hlt hil hl hQ
  have hB := Below.refl w.heap.size w
  generalize Utf.off rs q = Q at *
  generalize Utf.off rs (k + 1) = I at *
  generalize Utf.off rs a = A at *
  clear hd ha hi hT
  go_enter Tryd.func28, Tryd.ntmps28
  go_wp2_with (first
    | (go_at_call 21; (with_reducible refine (c1.out _).mono ?_); rintro e w1 ⟨rfl, rfl⟩)
    | (go_at_call 21; (with_reducible refine (c2.out _).mono ?_); rintro e w1 ⟨rfl, rfl⟩)
    | (go_at_call 33; (with_reducible refine (T.out).mono ?_); rintro e u ⟨rfl, hbn⟩; replace hB := hB.trans (hbn.mono hB.size); clear hbn)
    | (go_at_call 24; (with_reducible refine (PT.out _).mono ?_); rintro e u ⟨rfl, hbn⟩; replace hB := hB.trans (hbn.mono hB.size); clear hbn))
  go_ret3
  exact ⟨rfl, hB⟩

theorem entry_out_word (s : ByteArray) (x b : Int) (hs : s.size ≤ 1000000000000) (w : World) (hT : Tabs w) :
    Calls Tryd.prog 28 #[.string s, .int .i64 x, .int .i64 b, .func (.func 33) #[] #[]] w fun e w' => e = .returned (Pst.val (cut chopQ s.data.toList x b)) ∧ Below w.heap.size w w' := by
  cases h1 : Utf.place s.data.toList x with
  | false => rw [Ent.cut_no _ (.inl h1)]; exact entry_out_word_no1 s x b h1 hs w
  | true =>
    cases h2 : Utf.place s.data.toList b with
    | false => rw [Ent.cut_no _ (.inr h2)]; exact entry_out_word_no2 s x b h1 h2 hs w
    | true =>
      obtain ⟨rs, hd⟩ := Utf.valid_of (Line.place_ok h1)
      obtain ⟨i, hi, rfl⟩ := (Utf.place_iff hd).1 h1
      obtain ⟨a, ha, rfl⟩ := (Utf.place_iff hd).1 h2
      rw [Ent.cut_at _ hd hi ha]
      by_cases h : i ≤ a
      · rw [if_pos h]
        exact entry_out_word_move s _ _ h1 h2 (by have := Utf.off_mono (rs := rs) h; omega) hs w
      · rw [if_neg h]
        by_cases h4 : cl s.data.toList rs (i - 1) = 4
        · exact entry_out_word_feed s hd (by omega) hi h4 hs w
        · exact entry_out_word_else s hd (by omega) hi h4 hs w hT
set_option maxHeartbeats 1000000 in
set_option maxRecDepth 100000 in
theorem entry_Chop (s : ByteArray) (x b : Int) (hs : s.size ≤ 1000000000000) (w : World) (hT : Tabs w) :
    Calls Tryd.prog 14 #[.string s, .int .i64 x, .int .i64 b] w fun e w' => e = .returned (Pst.val (cut chopQ s.data.toList x b)) ∧ Below w.heap.size w w' := by
  have C := Lib.hid (entry_out_word s x b hs w hT)
  rw [Pst.val] at C
  rw [Pst.val]
  generalize bs (cut chopQ s.data.toList x b).1 = R at *
  generalize (cut chopQ s.data.toList x b).2.1 = R1 at *
  generalize (cut chopQ s.data.toList x b).2.2 = R2 at *
  go_enter Tryd.func14, Tryd.ntmps14
  go_wp2_with (go_at_call 28; (with_reducible refine C.out.mono ?_); rintro e u ⟨rfl, hb⟩)
  go_ret3
  exact ⟨rfl, hb⟩

set_option maxHeartbeats 2000000 in
set_option maxRecDepth 100000 in
theorem entry_out_row_no1 (s : ByteArray) (x b : Int) (h : Utf.place s.data.toList x = false) (hs : s.size ≤ 1000000000000) (w : World) :
    Calls Tryd.prog 28 #[.string s, .int .i64 x, .int .i64 b, .func (.func 35) #[] #[]] w fun e w' => e = .returned (.tuple #[.string ⟨#[]⟩, .int .i64 0, .int .i64 1]) ∧ Below w.heap.size w w' := by
  have c1 := Lib.hid (utf_Place s x (by omega))
  rw [h] at c1
  clear h
  go_enter Tryd.func28, Tryd.ntmps28
  go_wp2_with (go_at_call 21; (with_reducible refine (c1.out _).mono ?_); rintro e w1 ⟨rfl, rfl⟩)
  go_ret3
  exact ⟨rfl, Below.refl _ _⟩

set_option maxHeartbeats 2000000 in
set_option maxRecDepth 100000 in
theorem entry_out_row_no2 (s : ByteArray) (x b : Int) (h1 : Utf.place s.data.toList x = true) (h : Utf.place s.data.toList b = false) (hs : s.size ≤ 1000000000000) (w : World) :
    Calls Tryd.prog 28 #[.string s, .int .i64 x, .int .i64 b, .func (.func 35) #[] #[]] w fun e w' => e = .returned (.tuple #[.string ⟨#[]⟩, .int .i64 0, .int .i64 1]) ∧ Below w.heap.size w w' := by
  have c1 := Lib.hid (utf_Place s x (by omega))
  have c2 := Lib.hid (utf_Place s b (by omega))
  rw [h1] at c1
  rw [h] at c2
  clear h h1
  go_enter Tryd.func28, Tryd.ntmps28
  go_wp2_with (first
    | (go_at_call 21; (with_reducible refine (c1.out _).mono ?_); rintro e w1 ⟨rfl, rfl⟩)
    | (go_at_call 21; (with_reducible refine (c2.out _).mono ?_); rintro e w1 ⟨rfl, rfl⟩))
  go_ret3
  exact ⟨rfl, Below.refl _ _⟩

set_option maxHeartbeats 2000000 in
set_option maxRecDepth 100000 in
theorem entry_out_row_move (s : ByteArray) (x b : Int) (h1 : Utf.place s.data.toList x = true) (h2 : Utf.place s.data.toList b = true) (h : x ≤ b) (hs : s.size ≤ 1000000000000) (w : World) :
    Calls Tryd.prog 28 #[.string s, .int .i64 x, .int .i64 b, .func (.func 35) #[] #[]] w fun e w' => e = .returned (.tuple #[.string ⟨#[]⟩, .int .i64 0, .int .i64 10]) ∧ Below w.heap.size w w' := by
  have c1 := Lib.hid (utf_Place s x (by omega))
  have c2 := Lib.hid (utf_Place s b (by omega))
  rw [h1] at c1
  rw [h2] at c2
  clear h1 h2
  go_enter Tryd.func28, Tryd.ntmps28
  go_wp2_with (first
    | (go_at_call 21; (with_reducible refine (c1.out _).mono ?_); rintro e w1 ⟨rfl, rfl⟩)
    | (go_at_call 21; (with_reducible refine (c2.out _).mono ?_); rintro e w1 ⟨rfl, rfl⟩))
  go_ret3
  exact ⟨rfl, Below.refl _ _⟩

set_option maxHeartbeats 2000000 in
set_option maxRecDepth 100000 in
theorem entry_out_row_feed (s : ByteArray) {rs : List (List UInt8)} (hd : Utf.dec s.data.toList = some rs) {a i : Nat} (ha : a < i) (hi : i ≤ rs.length) (h4 : cl s.data.toList rs (i - 1) = 4) (hs : s.size ≤ 1000000000000) (w : World) :
    Calls Tryd.prog 28 #[.string s, .int .i64 (Utf.off rs i : Nat), .int .i64 (Utf.off rs a : Nat), .func (.func 35) #[] #[]] w fun e w' => e = .returned (.tuple #[.string (bs (Pst.mid s.data.toList (Utf.off rs (wipeQ s.data.toList rs a i)) (Utf.off rs i) [])), .int .i64 (Utf.off rs (wipeQ s.data.toList rs a i) : Nat), .int .i64 0]) ∧ Below w.heap.size w w' := by
  have hl := data_len s
  have c1 := Lib.hid (utf_Place s (Utf.off rs i : Int) (by omega))
  have c2 := Lib.hid (utf_Place s (Utf.off rs a : Int) (by omega))
  rw [Utf.place_at hd hi] at c1
  rw [Utf.place_at hd (by omega)] at c2
  have hlt := Utf.off_lt (Utf.dec_some hd).1 ha hi
  have hil := Utf.off_in hd i
  obtain ⟨k, rfl⟩ : ∃ k, i = k + 1 := ⟨i - 1, by omega⟩
  rw [Nat.add_sub_cancel] at h4
  have hb : Utf.off rs (k + 1) - 1 < s.size := by omega
  have h10 := Ent.cl_last hd (i := k) (by omega)
  rw [byte_get s hb] at h10
  have hQ : wipeQ s.data.toList rs a (k + 1) = k := by
    unfold wipeQ
    rw [Nat.add_sub_cancel, if_pos h4]
  rw [hQ]
  have hk := Ent.feed_one hd (by omega) h4
  have hkb : Utf.off rs k < s.size := by omega
  have h11 := (Ent.cl_first (s := s.data.toList) (rs := rs) (i := k)).1 h4
  rw [byte_get s hkb] at h11
  have g10 : s[Utf.off rs k].toNat = 10 := by
    injection h11 with h11
    rw [h11]; rfl
  clear h11
  have gk : (Utf.off rs (k + 1) : Int) - 1 = (Utf.off rs k : Nat) := by omega
  have hkl : Utf.off rs k ≤ s.size := by omega
  have PT := Lib.hid (fun w => entry_put s (Utf.off rs k) (Utf.off rs (k + 1)) ⟨#[]⟩ hkl (by omega) hs (by decide) w)
  rw [show (⟨#[]⟩ : ByteArray).data.toList = [] from rfl] at PT
  generalize bs (Pst.mid s.data.toList (Utf.off rs k) (Utf.off rs (k + 1)) []) = R at *
  have g1 : (0 : Int) ≤ (Utf.off rs (k + 1) : Int) - 1 := by omega
  have g2 : (Utf.off rs (k + 1) : Int) - 1 < (s.size : Int) := by omega
  have g3 : ¬ ((Utf.off rs (k + 1) : Int) ≤ (Utf.off rs a : Int)) := by omega
  have g5 : ((Utf.off rs (k + 1) : Int) - 1).toNat = Utf.off rs (k + 1) - 1 := by omega
  clear h10 h4 hlt hil hl hQ hk
  have hB := Below.refl w.heap.size w
  generalize Utf.off rs k = Q at *
  generalize Utf.off rs (k + 1) = I at *
  generalize Utf.off rs a = A at *
  clear hd ha hi
  go_enter Tryd.func28, Tryd.ntmps28
  go_wp2_with (first
    | (go_at_call 21; (with_reducible refine (c1.out _).mono ?_); rintro e w1 ⟨rfl, rfl⟩)
    | (go_at_call 21; (with_reducible refine (c2.out _).mono ?_); rintro e w1 ⟨rfl, rfl⟩)
    | (go_at_call 24; (with_reducible refine (PT.out _).mono ?_); rintro e u ⟨rfl, hbn⟩; replace hB := hB.trans (hbn.mono hB.size); clear hbn))
  go_ret3
  exact ⟨rfl, hB⟩

set_option maxHeartbeats 2000000 in
set_option maxRecDepth 100000 in
theorem entry_out_row_else (s : ByteArray) {rs : List (List UInt8)} (hd : Utf.dec s.data.toList = some rs) {a i : Nat} (ha : a < i) (hi : i ≤ rs.length) (h4 : cl s.data.toList rs (i - 1) ≠ 4) (hs : s.size ≤ 1000000000000) (w : World) (hT : Tabs w) :
    Calls Tryd.prog 28 #[.string s, .int .i64 (Utf.off rs i : Nat), .int .i64 (Utf.off rs a : Nat), .func (.func 35) #[] #[]] w fun e w' => e = .returned (.tuple #[.string (bs (Pst.mid s.data.toList (Utf.off rs (wipeQ s.data.toList rs a i)) (Utf.off rs i) [])), .int .i64 (Utf.off rs (wipeQ s.data.toList rs a i) : Nat), .int .i64 0]) ∧ Below w.heap.size w w' := by
  have hl := data_len s
  have c1 := Lib.hid (utf_Place s (Utf.off rs i : Int) (by omega))
  have c2 := Lib.hid (utf_Place s (Utf.off rs a : Int) (by omega))
  rw [Utf.place_at hd hi] at c1
  rw [Utf.place_at hd (by omega)] at c2
  have hlt := Utf.off_lt (Utf.dec_some hd).1 ha hi
  have hil := Utf.off_in hd i
  obtain ⟨k, rfl⟩ : ∃ k, i = k + 1 := ⟨i - 1, by omega⟩
  rw [Nat.add_sub_cancel] at h4
  have hb : Utf.off rs (k + 1) - 1 < s.size := by omega
  have h10 := Ent.cl_last hd (i := k) (by omega)
  rw [byte_get s hb] at h10
  have g10 : s[Utf.off rs (k + 1) - 1].toNat ≠ 10 := fun e => h4 (h10.2 (by rw [show s[Utf.off rs (k + 1) - 1] = 10 from UInt8.toNat_inj.1 (by rw [e]; rfl)]))
  have hQ : wipeQ s.data.toList rs a (k + 1) = lef s.data.toList rs (· != 4) a (k + 1) := by unfold wipeQ; rw [Nat.add_sub_cancel, if_neg h4]
  rw [hQ]
  have T := Lib.hid (entry_row s hd (Nat.le_of_lt ha) hi hs w hT)
  generalize lef s.data.toList rs (· != 4) a (k + 1) = q at *
  have hkl : Utf.off rs q ≤ s.size := by have := Utf.off_in hd q; omega
  have PT := Lib.hid (fun w => entry_put s (Utf.off rs q) (Utf.off rs (k + 1)) ⟨#[]⟩ hkl (by omega) hs (by decide) w)
  rw [show (⟨#[]⟩ : ByteArray).data.toList = [] from rfl] at PT
  generalize bs (Pst.mid s.data.toList (Utf.off rs q) (Utf.off rs (k + 1)) []) = R at *
  have g1 : (0 : Int) ≤ (Utf.off rs (k + 1) : Int) - 1 := by omega
  have g2 : (Utf.off rs (k + 1) : Int) - 1 < (s.size : Int) := by omega
  have g3 : ¬ ((Utf.off rs (k + 1) : Int) ≤ (Utf.off rs a : Int)) := by omega
  have g5 : ((Utf.off rs (k + 1) : Int) - 1).toNat = Utf.off rs (k + 1) - 1 := by omega
  clear h10 h4 hlt hil hl hQ
  have hB := Below.refl w.heap.size w
  generalize Utf.off rs q = Q at *
  generalize Utf.off rs (k + 1) = I at *
  generalize Utf.off rs a = A at *
  clear hd ha hi hT
  go_enter Tryd.func28, Tryd.ntmps28
  go_wp2_with (first
    | (go_at_call 21; (with_reducible refine (c1.out _).mono ?_); rintro e w1 ⟨rfl, rfl⟩)
    | (go_at_call 21; (with_reducible refine (c2.out _).mono ?_); rintro e w1 ⟨rfl, rfl⟩)
    | (go_at_call 35; (with_reducible refine (T.out).mono ?_); rintro e u ⟨rfl, hbn⟩; replace hB := hB.trans (hbn.mono hB.size); clear hbn)
    | (go_at_call 24; (with_reducible refine (PT.out _).mono ?_); rintro e u ⟨rfl, hbn⟩; replace hB := hB.trans (hbn.mono hB.size); clear hbn))
  go_ret3
  exact ⟨rfl, hB⟩

theorem entry_out_row (s : ByteArray) (x b : Int) (hs : s.size ≤ 1000000000000) (w : World) (hT : Tabs w) :
    Calls Tryd.prog 28 #[.string s, .int .i64 x, .int .i64 b, .func (.func 35) #[] #[]] w fun e w' => e = .returned (Pst.val (cut wipeQ s.data.toList x b)) ∧ Below w.heap.size w w' := by
  cases h1 : Utf.place s.data.toList x with
  | false => rw [Ent.cut_no _ (.inl h1)]; exact entry_out_row_no1 s x b h1 hs w
  | true =>
    cases h2 : Utf.place s.data.toList b with
    | false => rw [Ent.cut_no _ (.inr h2)]; exact entry_out_row_no2 s x b h1 h2 hs w
    | true =>
      obtain ⟨rs, hd⟩ := Utf.valid_of (Line.place_ok h1)
      obtain ⟨i, hi, rfl⟩ := (Utf.place_iff hd).1 h1
      obtain ⟨a, ha, rfl⟩ := (Utf.place_iff hd).1 h2
      rw [Ent.cut_at _ hd hi ha]
      by_cases h : i ≤ a
      · rw [if_pos h]
        exact entry_out_row_move s _ _ h1 h2 (by have := Utf.off_mono (rs := rs) h; omega) hs w
      · rw [if_neg h]
        by_cases h4 : cl s.data.toList rs (i - 1) = 4
        · exact entry_out_row_feed s hd (by omega) hi h4 hs w
        · exact entry_out_row_else s hd (by omega) hi h4 hs w hT
set_option maxHeartbeats 1000000 in
set_option maxRecDepth 100000 in
theorem entry_Wipe (s : ByteArray) (x b : Int) (hs : s.size ≤ 1000000000000) (w : World) (hT : Tabs w) :
    Calls Tryd.prog 16 #[.string s, .int .i64 x, .int .i64 b] w fun e w' => e = .returned (Pst.val (cut wipeQ s.data.toList x b)) ∧ Below w.heap.size w w' := by
  have C := Lib.hid (entry_out_row s x b hs w hT)
  rw [Pst.val] at C
  rw [Pst.val]
  generalize bs (cut wipeQ s.data.toList x b).1 = R at *
  generalize (cut wipeQ s.data.toList x b).2.1 = R1 at *
  generalize (cut wipeQ s.data.toList x b).2.2 = R2 at *
  go_enter Tryd.func16, Tryd.ntmps16
  go_wp2_with (go_at_call 28; (with_reducible refine C.out.mono ?_); rintro e u ⟨rfl, hb⟩)
  go_ret3
  exact ⟨rfl, hb⟩

end Go.Proofs.YtdclopfhffjkfaaDoor
/-
  The library's tables of UTF-8, out of what the row lists as laid.
-/
namespace Go.Proofs.YtdclopfhffjkfaaDoor
open Go.RowKit Go.Shelf
theorem accept_data : (Rows.laid_unicode_utf8_acceptRanges : DataW Unit) = Lib.acceptData := by kernel_rfl
theorem first_data : (Rows.laid_unicode_utf8_first : DataW Unit) = Lib.firstData := Pinned.utf8First_eq
theorem tabs_of_laid {W : World} (h : laidMet Tryd.prog [("unicode/utf8.acceptRanges", Rows.laid_unicode_utf8_acceptRanges), ("unicode/utf8.first", Rows.laid_unicode_utf8_first)] W) : Tabs W := by
  rw [accept_data, first_data] at h
  exact utf8Tabs_of_readsT (ρ := Tryd.lays273_ren) { Tryd.lays273 with } ⟨by kernel_rfl, by kernel_rfl, by kernel_rfl, by kernel_rfl, by kernel_rfl, by kernel_rfl, by kernel_rfl⟩ (Lib.laidMet.reads h (.tail _ (.head _))) (Lib.laidMet.reads h (.head _))
end Go.Proofs.YtdclopfhffjkfaaDoor
/-
  The document's example, as layer 25's statements ask for it.
-/
namespace Go.Proofs.YtdclopfhffjkfaaDoor
open Go.RowKit
set_option maxRecDepth 100000
namespace Ent
def exT : List UInt8 := [97, 98, 32, 32, 99, 100, 32]
theorem ex_chop : cut chopQ exT 7 0 = ([97, 98, 32, 32], 4, 0) := by
  have d1 : Utf.dec exT = some [[97], [98], [32], [32], [99], [100], [32]] := Utf.dec_of (rs := [[97], [98], [32], [32], [99], [100], [32]]) (by decide)
  have hc := cut_at chopQ d1 (i := 7) (a := 0) (by decide) (by decide)
  have hq : chopQ exT [[97], [98], [32], [32], [99], [100], [32]] 0 7 = 4 := by decide
  rw [hq, if_neg (by decide)] at hc
  exact hc.trans (by decide)
end Ent
set_option maxHeartbeats 1000000 in
theorem entry_lives (w : World) (hT : Tabs w) : Calls Tryd.prog 7 #[] w fun e w' => e = .returned (.bool true) ∧ Below w.heap.size w w' := by
  have C0 : Hid (Calls Tryd.prog 14 #[.string ⟨#[97, 98, 32, 32, 99, 100, 32]⟩, .int .i64 7, .int .i64 0] w fun e w' => e = .returned (.tuple #[.string ⟨#[97, 98, 32, 32]⟩, .int .i64 4, .int .i64 0]) ∧ Below w.heap.size w w') := by
    have := entry_Chop ⟨#[97, 98, 32, 32, 99, 100, 32]⟩ 7 0 (by decide) w hT
    rw [show Ent.cut Ent.chopQ (⟨#[97, 98, 32, 32, 99, 100, 32]⟩ : ByteArray).data.toList 7 0 = ([97, 98, 32, 32], 4, 0) from Ent.ex_chop] at this
    exact this
  have g0 : ((⟨#[97, 98, 32, 32]⟩ : ByteArray).toList == (⟨#[97, 98, 32, 32]⟩ : ByteArray).toList) = true := by simp
  clear hT
  go_enter Tryd.func7, Tryd.ntmps7
  go_wp2_with (go_at_call 14; (with_reducible refine C0.out.mono ?_); rintro e u ⟨rfl, hb⟩)
  go_ret
  exact ⟨rfl, hb⟩
end Go.Proofs.YtdclopfhffjkfaaDoor
