/-
  Package ex's words: how each reads what stands behind it, the table of them, and a word by its name.
-/
import Derived.Test.YtcddbdefdenecaaGreatDoorExBox
namespace Go.Proofs.YtcddbdefdenecaaGreatDoor
open Go.RowKit
open Ex (Ln)
namespace Ex
/-- Words, whether with addresses, and what stands behind them. -/
def tabW : List (List UInt8 × Bool × Nat) := [([], true, 0), ([119], false, 1), ([101], false, 2), ([115, 121, 110, 99], false, 0), ([114, 101, 99, 111, 118, 101, 114], false, 0), ([117, 110, 100, 111], false, 4), ([101, 97, 114, 108, 105, 101, 114], false, 3), ([108, 97, 116, 101, 114], false, 3), ([100], true, 0), ([121], true, 0), ([62], true, 0), ([60], true, 0), ([106], true, 0), ([115], true, 5)]
theorem tab_kind : ∀ x ∈ tabW, kind x.1 = some x.2 := by decide
theorem kind_tab {n : List UInt8} {y : Bool × Nat} (h : kind n = some y) : ∃ (i : Nat) (x : List UInt8 × Bool × Nat), tabW[i]? = some x ∧ x.1 = n := by
  unfold kind at h
  simp only [List.mem_cons, List.not_mem_nil, or_false] at h
  repeat' split at h
  all_goals first
    | (cases h; done)
    | (rename_i e; rcases e with rfl | rfl | rfl | rfl | rfl | rfl <;> first | exact ⟨0, _, rfl, rfl⟩ | exact ⟨1, _, rfl, rfl⟩ | exact ⟨2, _, rfl, rfl⟩ | exact ⟨3, _, rfl, rfl⟩ | exact ⟨4, _, rfl, rfl⟩ | exact ⟨5, _, rfl, rfl⟩ | exact ⟨6, _, rfl, rfl⟩ | exact ⟨7, _, rfl, rfl⟩ | exact ⟨8, _, rfl, rfl⟩ | exact ⟨9, _, rfl, rfl⟩ | exact ⟨10, _, rfl, rfl⟩ | exact ⟨11, _, rfl, rfl⟩ | exact ⟨12, _, rfl, rfl⟩ | exact ⟨13, _, rfl, rfl⟩)
    | (rename_i e; rcases e with rfl | rfl <;> first | exact ⟨0, _, rfl, rfl⟩ | exact ⟨1, _, rfl, rfl⟩ | exact ⟨2, _, rfl, rfl⟩ | exact ⟨3, _, rfl, rfl⟩ | exact ⟨4, _, rfl, rfl⟩ | exact ⟨5, _, rfl, rfl⟩ | exact ⟨6, _, rfl, rfl⟩ | exact ⟨7, _, rfl, rfl⟩ | exact ⟨8, _, rfl, rfl⟩ | exact ⟨9, _, rfl, rfl⟩ | exact ⟨10, _, rfl, rfl⟩ | exact ⟨11, _, rfl, rfl⟩ | exact ⟨12, _, rfl, rfl⟩ | exact ⟨13, _, rfl, rfl⟩)
    | (rename_i e; subst e; first | exact ⟨0, _, rfl, rfl⟩ | exact ⟨1, _, rfl, rfl⟩ | exact ⟨2, _, rfl, rfl⟩ | exact ⟨3, _, rfl, rfl⟩ | exact ⟨4, _, rfl, rfl⟩ | exact ⟨5, _, rfl, rfl⟩ | exact ⟨6, _, rfl, rfl⟩ | exact ⟨7, _, rfl, rfl⟩ | exact ⟨8, _, rfl, rfl⟩ | exact ⟨9, _, rfl, rfl⟩ | exact ⟨10, _, rfl, rfl⟩ | exact ⟨11, _, rfl, rfl⟩ | exact ⟨12, _, rfl, rfl⟩ | exact ⟨13, _, rfl, rfl⟩)
/-- A function that reads a blank and a text that function f takes; c is its error where it does not. -/
def Kb (w : World) (v : Value) (f : Nat) (c : Int) : Prop := ∃ a b : Nat, v = .func (.func 75) #[] #[.pointer (some ⟨a, 0, none⟩), .pointer (some ⟨b, 0, none⟩)] ∧ Blk w a 31 #[.func (.func f) #[] #[]] ∧ Blk w b 25 #[.int .i64 c]
/-- One that reads nothing, or that. -/
def Kp (w : World) (v : Value) (f : Nat) (c : Int) : Prop := ∃ (a : Nat) (u : Value), v = .func (.func 76) #[] #[.pointer (some ⟨a, 0, none⟩)] ∧ Blk w a 46 #[u] ∧ Kb w u f c
/-- One that reads what a word of kind k has. -/
def Kd (w : World) (v : Value) : Nat → Prop
  | 0 => v = .func (.func 63) #[] #[]
  | 1 => Kp w v 8 11
  | 2 => Kb w v 8 11
  | 3 => Kp w v 62 3
  | 4 => Kb w v 62 3
  | 5 => v = .func (.func 65) #[] #[]
  | _ => False
theorem Kb.on {w w' : World} {v : Value} {f : Nat} {c : Int} (h : Kb w v f c) (hb : Below w.heap.size w w') : Kb w' v f c := by
  obtain ⟨a, b, e, h1, h2⟩ := h
  exact ⟨a, b, e, h1.below hb h1.lt, h2.below hb h2.lt⟩
theorem Kp.on {w w' : World} {v : Value} {f : Nat} {c : Int} (h : Kp w v f c) (hb : Below w.heap.size w w') : Kp w' v f c := by
  obtain ⟨a, u, e, h1, h2⟩ := h
  exact ⟨a, u, e, h1.below hb h1.lt, h2.on hb⟩
theorem Kd.on {w w' : World} {v : Value} {k : Nat} (h : Kd w v k) (hb : Below w.heap.size w w') : Kd w' v k := by
  match k, h with
  | 0, h => exact h
  | 1, h => exact Kp.on h hb
  | 2, h => exact Kb.on h hb
  | 3, h => exact Kp.on h hb
  | 4, h => exact Kb.on h hb
  | 5, h => exact h
  | _ + 6, h => exact h
theorem Kb.grown {w w' : World} {v : Value} {f : Nat} {c : Int} {n : Nat} {t : TypeId} {cs : Array Value} (h : Kb w v f c) (g : w.grownBy w' (some n)) (hn : Blk w n t cs) (ht : 31 ≠ t ∧ 25 ≠ t ∧ 46 ≠ t) : Kb w' v f c := by
  obtain ⟨a, b, e, h1, h2⟩ := h
  exact ⟨a, b, e, h1.grown g (fun e => by injection e with e; exact h1.ne_ hn ht.1 e), h2.grown g (fun e => by injection e with e; exact h2.ne_ hn ht.2.1 e)⟩
theorem Kp.grown {w w' : World} {v : Value} {f : Nat} {c : Int} {n : Nat} {t : TypeId} {cs : Array Value} (h : Kp w v f c) (g : w.grownBy w' (some n)) (hn : Blk w n t cs) (ht : 31 ≠ t ∧ 25 ≠ t ∧ 46 ≠ t) : Kp w' v f c := by
  obtain ⟨a, u, e, h1, h2⟩ := h
  exact ⟨a, u, e, h1.grown g (fun e => by injection e with e; exact h1.ne_ hn ht.2.2 e), h2.grown g hn ht⟩
theorem Kd.grown {w w' : World} {v : Value} {k : Nat} {n : Nat} {t : TypeId} {cs : Array Value} (h : Kd w v k) (g : w.grownBy w' (some n)) (hn : Blk w n t cs) (ht : 31 ≠ t ∧ 25 ≠ t ∧ 46 ≠ t) : Kd w' v k := by
  match k, h with
  | 0, h => exact h
  | 1, h => exact Kp.grown h g hn ht
  | 2, h => exact Kb.grown h g hn ht
  | 3, h => exact Kp.grown h g hn ht
  | 4, h => exact Kb.grown h g hn ht
  | 5, h => exact h
  | _ + 6, h => exact h
theorem Kd.shape {w : World} {v : Value} {k : Nat} (h : Kd w v k) : ∃ (f : Nat) (c : Array Value), v = .func (.func f) #[] c := by
  match k, h with
  | 0, h => exact ⟨_, _, h⟩
  | 1, h => obtain ⟨a, u, e, _⟩ := h; exact ⟨_, _, e⟩
  | 2, h => obtain ⟨a, b, e, _⟩ := h; exact ⟨_, _, e⟩
  | 3, h => obtain ⟨a, u, e, _⟩ := h; exact ⟨_, _, e⟩
  | 4, h => obtain ⟨a, b, e, _⟩ := h; exact ⟨_, _, e⟩
  | 5, h => exact ⟨_, _, h⟩
  | _ + 6, h => exact h.elim
/-- The table of words in memory. -/
def WordsAt (w : World) (b off : Nat) : Prop := ∀ (j : Nat) (x : List UInt8 × Bool × Nat), tabW[j]? = some x → ∃ v, w.cell? ⟨b, off + j * 3, none⟩ = some (.string (bs x.1)) ∧ w.cell? ⟨b, off + j * 3 + 1, none⟩ = some (.bool x.2.1) ∧ w.cell? ⟨b, off + j * 3 + 2, none⟩ = some v ∧ Kd w v x.2.2
theorem WordsAt.on {w w' : World} {b off : Nat} (h : WordsAt w b off) (hlt : b < w.heap.size) (hb : Below w.heap.size w w') : WordsAt w' b off := by
  intro j x hj
  obtain ⟨v, h1, h2, h3, h4⟩ := h j x hj
  have e := hb.block b hlt
  exact ⟨v, by rw [World.cell?_of_block (w := w) (w' := w') e]; exact h1, by rw [World.cell?_of_block (w := w) (w' := w') e]; exact h2, by rw [World.cell?_of_block (w := w) (w' := w') e]; exact h3, h4.on hb⟩
def WordsIs (w : World) (e : Ending) (w' : World) : Prop := ∃ b off : Nat, e = .returned (.slice (some ⟨b, off, none⟩) 14 14) ∧ b < w'.heap.size ∧ WordsAt w' b off ∧ Below w.heap.size w w'
def FoundIs (name : ByteArray) (r : Bool) (k : Nat) (w : World) (e : Ending) (w' : World) : Prop := ∃ v : Value, e = .returned (.tuple #[.agg #[.string name, .bool r, v], .bool true]) ∧ Kd w' v k ∧ Below w.heap.size w w'
theorem al {w w' : World} (h : Below w.heap.size w w') (o : Obj) : Below w.heap.size w (w'.alloc o) := h.alloc h.size o
end Ex
theorem ex_behind (f : Nat) (c : Int) (w : World) :
    Calls Tryz.prog 61 #[.func (.func f) #[] #[], .int .i64 c] w fun e w' => ∃ a b : Nat, e = .returned (.func (.func 75) #[] #[.pointer (some ⟨a, 0, none⟩), .pointer (some ⟨b, 0, none⟩)]) ∧ Ex.Kb w' (.func (.func 75) #[] #[.pointer (some ⟨a, 0, none⟩), .pointer (some ⟨b, 0, none⟩)]) f c ∧ Below w.heap.size w w' := by
  have b0 := Blk.new w 31 #[.func (.func f) #[] #[]]
  have b1 := Blk.new (w.alloc (.cells #[.func (.func f) #[] #[]] 31)) 25 #[.int .i64 c]
  have b2 := b0.alloc (.cells #[.int .i64 c] 25)
  have hW := ((Below.refl w.heap.size w).alloc (Nat.le_refl _) (.cells #[.func (.func f) #[] #[]] 31)).alloc (by simp) (.cells #[.int .i64 c] 25)
  rw [World.size_alloc] at b1
  have H := Lib.hid (show _ ∧ _ ∧ _ from ⟨b2, b1, hW⟩)
  clear b0 b1 b2 hW
  go_enter Tryz.func61, Tryz.ntmps61
  go_wp2
  go_ret
  exact ⟨_, _, rfl, ⟨_, _, rfl, H.out.1, H.out.2.1⟩, H.out.2.2⟩
theorem ex_perhaps {w : World} {u : Value} {f : Nat} {c : Int} (h : Ex.Kb w u f c) :
    Calls Tryz.prog 64 #[u] w fun e w' => ∃ a : Nat, e = .returned (.func (.func 76) #[] #[.pointer (some ⟨a, 0, none⟩)]) ∧ Ex.Kp w' (.func (.func 76) #[] #[.pointer (some ⟨a, 0, none⟩)]) f c ∧ Below w.heap.size w w' := by
  have hW := (Below.refl w.heap.size w).alloc (Nat.le_refl _) (.cells #[u] 46)
  have H := Lib.hid (show _ ∧ _ ∧ _ from ⟨Blk.new w 46 #[u], h.on hW, hW⟩)
  obtain ⟨a, b, rfl, h1, h2⟩ := h
  clear hW h1 h2
  go_enter Tryz.func64, Tryz.ntmps64
  go_wp2
  go_ret
  exact ⟨_, rfl, ⟨_, _, rfl, H.out.1, H.out.2.1⟩, H.out.2.2⟩
set_option maxHeartbeats 1000000 in
set_option maxRecDepth 100000 in
theorem ex_words (w : World) : Calls Tryz.prog 40 #[] w (Ex.WordsIs w) := by
  have CN := Lib.hid (fun w => ex_behind 8 11 w)
  have CM := Lib.hid (fun w => ex_behind 62 3 w)
  have CP := Lib.hid (fun (w : World) (u : Value) (f : Nat) (c : Int) (h : Ex.Kb w u f c) => ex_perhaps h)
  go_enter Tryz.func40, Tryz.ntmps40
  go_wp2_with (first
    | (go_at_call 61; (with_reducible refine (CN.out _).mono ?_); rintro e w1 ⟨a1, b1, rfl, k1, W1⟩; have K1 := Lib.hid k1; clear k1)
    | (go_at_call 61; (with_reducible refine (CM.out _).mono ?_); rintro e w2 ⟨a2, b2, rfl, k2, hb2⟩; have K2 := Lib.hid k2; have K1' := Lib.hid (K1.out.on hb2); have W2 := W1.trans (hb2.mono W1.size); clear k2 hb2 K1 W1)
    | (go_at_call 64; (with_reducible refine (CP.out _ _ _ _ K1'.out).mono ?_); rintro e w3 ⟨c1, rfl, k3, hb3⟩; have P1 := Lib.hid k3; have K2' := Lib.hid (K2.out.on hb3); have K1'' := Lib.hid (K1'.out.on hb3); have W3 := W2.trans (hb3.mono W2.size); clear k3 hb3 K1' K2 W2)
    | (go_at_call 64; (with_reducible refine (CP.out _ _ _ _ K2'.out).mono ?_); rintro e w4 ⟨c2, rfl, k4, hb4⟩; have P2 := Lib.hid k4; have K2'' := Lib.hid (K2'.out.on hb4); have K13 := Lib.hid (K1''.out.on hb4); have P1' := Lib.hid (P1.out.on hb4); have W4 := W3.trans (hb4.mono W3.size); clear k4 hb4 K1'' K2' W3 P1)
    | (go_at_call 64; (with_reducible refine (CP.out _ _ _ _ K2''.out).mono ?_); rintro e w5 ⟨c3, rfl, k5, hb5⟩; have P3 := k5; have K23 := K2''.out.on hb5; have K14 := K13.out.on hb5; have P1'' := P1'.out.on hb5; have P2' := P2.out.on hb5; have W5 := W4.trans (hb5.mono W4.size); clear k5 hb5 K13 K2'' W4 P1' P2; have hA := Ex.al (Below.refl w5.heap.size w5) (.cells #[.string ⟨#[]⟩, .bool true, .func (.func 63) #[] #[], .string ⟨#[119]⟩, .bool false, (.func (.func 76) #[] #[.pointer (some ⟨c1, 0, none⟩)]), .string ⟨#[101]⟩, .bool false, (.func (.func 75) #[] #[.pointer (some ⟨a1, 0, none⟩), .pointer (some ⟨b1, 0, none⟩)]), .string ⟨#[115, 121, 110, 99]⟩, .bool false, .func (.func 63) #[] #[], .string ⟨#[114, 101, 99, 111, 118, 101, 114]⟩, .bool false, .func (.func 63) #[] #[], .string ⟨#[117, 110, 100, 111]⟩, .bool false, (.func (.func 75) #[] #[.pointer (some ⟨a2, 0, none⟩), .pointer (some ⟨b2, 0, none⟩)]), .string ⟨#[101, 97, 114, 108, 105, 101, 114]⟩, .bool false, (.func (.func 76) #[] #[.pointer (some ⟨c2, 0, none⟩)]), .string ⟨#[108, 97, 116, 101, 114]⟩, .bool false, (.func (.func 76) #[] #[.pointer (some ⟨c3, 0, none⟩)]), .string ⟨#[100]⟩, .bool true, .func (.func 63) #[] #[], .string ⟨#[121]⟩, .bool true, .func (.func 63) #[] #[], .string ⟨#[62]⟩, .bool true, .func (.func 63) #[] #[], .string ⟨#[60]⟩, .bool true, .func (.func 63) #[] #[], .string ⟨#[106]⟩, .bool true, .func (.func 63) #[] #[], .string ⟨#[115]⟩, .bool true, .func (.func 65) #[] #[]] 48); have hB := Blk.new w5 48 #[.string ⟨#[]⟩, .bool true, .func (.func 63) #[] #[], .string ⟨#[119]⟩, .bool false, (.func (.func 76) #[] #[.pointer (some ⟨c1, 0, none⟩)]), .string ⟨#[101]⟩, .bool false, (.func (.func 75) #[] #[.pointer (some ⟨a1, 0, none⟩), .pointer (some ⟨b1, 0, none⟩)]), .string ⟨#[115, 121, 110, 99]⟩, .bool false, .func (.func 63) #[] #[], .string ⟨#[114, 101, 99, 111, 118, 101, 114]⟩, .bool false, .func (.func 63) #[] #[], .string ⟨#[117, 110, 100, 111]⟩, .bool false, (.func (.func 75) #[] #[.pointer (some ⟨a2, 0, none⟩), .pointer (some ⟨b2, 0, none⟩)]), .string ⟨#[101, 97, 114, 108, 105, 101, 114]⟩, .bool false, (.func (.func 76) #[] #[.pointer (some ⟨c2, 0, none⟩)]), .string ⟨#[108, 97, 116, 101, 114]⟩, .bool false, (.func (.func 76) #[] #[.pointer (some ⟨c3, 0, none⟩)]), .string ⟨#[100]⟩, .bool true, .func (.func 63) #[] #[], .string ⟨#[121]⟩, .bool true, .func (.func 63) #[] #[], .string ⟨#[62]⟩, .bool true, .func (.func 63) #[] #[], .string ⟨#[60]⟩, .bool true, .func (.func 63) #[] #[], .string ⟨#[106]⟩, .bool true, .func (.func 63) #[] #[], .string ⟨#[115]⟩, .bool true, .func (.func 65) #[] #[]]; have HH := Lib.hid (show _ ∧ _ ∧ _ ∧ _ ∧ _ ∧ _ ∧ _ from ⟨hB, P1''.on hA, P2'.on hA, P3.on hA, K14.on hA, K23.on hA, Ex.al W5 (.cells #[.string ⟨#[]⟩, .bool true, .func (.func 63) #[] #[], .string ⟨#[119]⟩, .bool false, (.func (.func 76) #[] #[.pointer (some ⟨c1, 0, none⟩)]), .string ⟨#[101]⟩, .bool false, (.func (.func 75) #[] #[.pointer (some ⟨a1, 0, none⟩), .pointer (some ⟨b1, 0, none⟩)]), .string ⟨#[115, 121, 110, 99]⟩, .bool false, .func (.func 63) #[] #[], .string ⟨#[114, 101, 99, 111, 118, 101, 114]⟩, .bool false, .func (.func 63) #[] #[], .string ⟨#[117, 110, 100, 111]⟩, .bool false, (.func (.func 75) #[] #[.pointer (some ⟨a2, 0, none⟩), .pointer (some ⟨b2, 0, none⟩)]), .string ⟨#[101, 97, 114, 108, 105, 101, 114]⟩, .bool false, (.func (.func 76) #[] #[.pointer (some ⟨c2, 0, none⟩)]), .string ⟨#[108, 97, 116, 101, 114]⟩, .bool false, (.func (.func 76) #[] #[.pointer (some ⟨c3, 0, none⟩)]), .string ⟨#[100]⟩, .bool true, .func (.func 63) #[] #[], .string ⟨#[121]⟩, .bool true, .func (.func 63) #[] #[], .string ⟨#[62]⟩, .bool true, .func (.func 63) #[] #[], .string ⟨#[60]⟩, .bool true, .func (.func 63) #[] #[], .string ⟨#[106]⟩, .bool true, .func (.func 63) #[] #[], .string ⟨#[115]⟩, .bool true, .func (.func 65) #[] #[]] 48)⟩); clear hB hA P1'' P2' P3 K14 K23 W5))
  go_ret
  obtain ⟨hB, q1, q2, q3, r1, r2, W6⟩ := HH.out
  refine ⟨_, 0, rfl, by simp, ?_, W6⟩
  intro j x hj
  match j, hj with
  | 0, hj => obtain rfl := Option.some.inj (show some ([], true, 0) = some x from hj); exact ⟨_, hB.cell 0, hB.cell 1, hB.cell 2, rfl⟩
  | 1, hj => obtain rfl := Option.some.inj (show some ([119], false, 1) = some x from hj); exact ⟨_, hB.cell 3, hB.cell 4, hB.cell 5, q1⟩
  | 2, hj => obtain rfl := Option.some.inj (show some ([101], false, 2) = some x from hj); exact ⟨_, hB.cell 6, hB.cell 7, hB.cell 8, r1⟩
  | 3, hj => obtain rfl := Option.some.inj (show some ([115, 121, 110, 99], false, 0) = some x from hj); exact ⟨_, hB.cell 9, hB.cell 10, hB.cell 11, rfl⟩
  | 4, hj => obtain rfl := Option.some.inj (show some ([114, 101, 99, 111, 118, 101, 114], false, 0) = some x from hj); exact ⟨_, hB.cell 12, hB.cell 13, hB.cell 14, rfl⟩
  | 5, hj => obtain rfl := Option.some.inj (show some ([117, 110, 100, 111], false, 4) = some x from hj); exact ⟨_, hB.cell 15, hB.cell 16, hB.cell 17, r2⟩
  | 6, hj => obtain rfl := Option.some.inj (show some ([101, 97, 114, 108, 105, 101, 114], false, 3) = some x from hj); exact ⟨_, hB.cell 18, hB.cell 19, hB.cell 20, q2⟩
  | 7, hj => obtain rfl := Option.some.inj (show some ([108, 97, 116, 101, 114], false, 3) = some x from hj); exact ⟨_, hB.cell 21, hB.cell 22, hB.cell 23, q3⟩
  | 8, hj => obtain rfl := Option.some.inj (show some ([100], true, 0) = some x from hj); exact ⟨_, hB.cell 24, hB.cell 25, hB.cell 26, rfl⟩
  | 9, hj => obtain rfl := Option.some.inj (show some ([121], true, 0) = some x from hj); exact ⟨_, hB.cell 27, hB.cell 28, hB.cell 29, rfl⟩
  | 10, hj => obtain rfl := Option.some.inj (show some ([62], true, 0) = some x from hj); exact ⟨_, hB.cell 30, hB.cell 31, hB.cell 32, rfl⟩
  | 11, hj => obtain rfl := Option.some.inj (show some ([60], true, 0) = some x from hj); exact ⟨_, hB.cell 33, hB.cell 34, hB.cell 35, rfl⟩
  | 12, hj => obtain rfl := Option.some.inj (show some ([106], true, 0) = some x from hj); exact ⟨_, hB.cell 36, hB.cell 37, hB.cell 38, rfl⟩
  | 13, hj => obtain rfl := Option.some.inj (show some ([115], true, 5) = some x from hj); exact ⟨_, hB.cell 39, hB.cell 40, hB.cell 41, rfl⟩
  | j + 14, hj => simp [Ex.tabW] at hj
set_option maxHeartbeats 1000000 in
set_option maxRecDepth 100000 in
theorem ex_find_some (name : ByteArray) {r : Bool} {k : Nat} (h : Ex.kind name.data.toList = some (r, k)) (w : World) :
    Calls Tryz.prog 18 #[.string name] w (Ex.FoundIs name r k w) := by
  have C := Lib.hid (fun w => ex_words w)
  have B0 := Blk.new w 48 #[.string ⟨#[]⟩, .bool false, .nilFunc]
  have W0 := Ex.al (Below.refl w.heap.size w) (.cells #[.string ⟨#[]⟩, .bool false, .nilFunc] 48)
  have HK := Lib.hid h
  clear h
  go_enter Tryz.func18, Tryz.ntmps18
  go_wp2_with (go_at_call 40; refine (C.out _).mono ?_; rintro e w1 ⟨b, off, rfl, hlt, T, hb1⟩; have B1 := B0.below hb1 B0.lt; have W1 := W0.trans (hb1.mono W0.size); have T1 := Lib.hid T; clear hb1 B0 W0 T C)
  go_loopw [8] (fun iv wr => ∃ j : Nat, iv = .int .i64 j ∧ j ≤ 14 ∧ Hid (∀ (i : Nat) (x : List UInt8 × Bool × Nat), i < j → Ex.tabW[i]? = some x → x.1 ≠ name.data.toList) ∧ Below w1.heap.size w1 wr) (fun iv _ => 14 - (intOf iv).toNat)
  case atStart => exact ⟨0, rfl, Nat.zero_le _, fun i _ h => absurd h (Nat.not_lt_zero _), Below.refl _ _⟩
  case round =>
    obtain ⟨j, rfl, hj, hno, hW⟩ := hrel
    by_cases h14 : j < 14
    · obtain ⟨⟨xn, xr, xk⟩, hx⟩ : ∃ x, Ex.tabW[j]? = some x := ⟨_, List.getElem?_eq_getElem (show j < Ex.tabW.length from h14)⟩
      obtain ⟨v, c0, c1, c2, kv⟩ := T1.out.on hlt hW j _ hx
      obtain ⟨vf, vc, rfl⟩ := kv.shape
      have hx' := Lib.hid hx
      have hbl : b < wr.heap.size := Nat.lt_of_lt_of_le hlt hW.size
      have g1 : decide ((j : Int) < 14) = true := by rw [decide_eq_true_iff]; omega
      have W3 := Ex.al hW (.cells #[.string (bs xn), .bool xr, .func (.func vf) #[] vc] 48)
      have B2 := (B1.below hW B1.lt).alloc (.cells #[.string (bs xn), .bool xr, .func (.func vf) #[] vc] 48)
      have KV := Lib.hid (kv.on (Ex.al (Below.refl wr.heap.size wr) (.cells #[.string (bs xn), .bool xr, .func (.func vf) #[] vc] 48)))
      obtain ⟨q0, q1, q2, f0, f1, f2⟩ := row_three B2
      have BB := Lib.hid B2
      clear hx kv B2
      by_cases hn : xn = name.data.toList
      · have e1 : ((bs xn).toList == name.toList) = true := by rw [bs_tl, Lib.toList_data, beq_iff_eq]; exact hn
        have hz : Hid (bs xn = name) := by show _ = _; rw [hn]; rfl
        have hrk : Hid (r = xr ∧ k = xk) := Lib.hid (by
          have h1 := Ex.tab_kind _ (List.mem_of_getElem? hx'.out)
          rw [hn, HK.out] at h1
          injection h1 with h1; injection h1 with h1 h2
          exact ⟨h1, h2⟩)
        generalize bs xn = z at *
        clear hn hx' hno hlt
        go_wp2
        refine ret_three1 rfl rfl (three_row BB.out) rfl Tryz.underlying48 (by kernel_rfl) ?_
        obtain ⟨rfl, rfl⟩ := hrk.out
        exact ⟨_, by rw [hz.out]; rfl, KV.out.grown (gb_trans (gb_trans (gb_set _ _ 0 _) (gb_set _ _ 1 _)) (gb_set _ _ 2 _)) BB.out (by decide), below_three (W1.trans (W3.mono W1.size)) (Nat.le_refl _)⟩
      · have e1 : ((bs xn).toList == name.toList) = false := by rw [bs_tl, Lib.toList_data, beq_eq_false_iff_ne]; exact hn
        have hno2 : Hid (∀ (i : Nat) (x : List UInt8 × Bool × Nat), i < j + 1 → Ex.tabW[i]? = some x → x.1 ≠ name.data.toList) := Lib.hid (fun i x hi h2 => by
          by_cases he : i = j
          · subst he; rw [hx'.out] at h2; injection h2 with h2; subst h2; exact hn
          · exact hno.out i x (by omega) h2)
        generalize bs xn = z at *
        clear hn hx' hno
        go_wp2
        go_roundw
        case rel => exact ⟨j + 1, by go_num, by omega, hno2, W3⟩
        case measure => simp [intOf]; omega
    · obtain rfl : j = 14 := by omega
      exfalso
      obtain ⟨i, x, h1, h2⟩ := Ex.kind_tab HK.out
      exact hno.out i x (List.getElem?_eq_some_iff.1 h1).1 h1 h2
set_option maxHeartbeats 1000000 in
set_option maxRecDepth 100000 in
theorem ex_find_none (name : ByteArray) (h : Ex.kind name.data.toList = none) (w : World) :
    Calls Tryz.prog 18 #[.string name] w fun e w' => e = .returned (.tuple #[.agg #[.string ⟨#[]⟩, .bool false, .nilFunc], .bool false]) ∧ Below w.heap.size w w' := by
  have C := Lib.hid (fun w => ex_words w)
  have B0 := Blk.new w 48 #[.string ⟨#[]⟩, .bool false, .nilFunc]
  have W0 := Ex.al (Below.refl w.heap.size w) (.cells #[.string ⟨#[]⟩, .bool false, .nilFunc] 48)
  have HK := Lib.hid h
  clear h
  go_enter Tryz.func18, Tryz.ntmps18
  go_wp2_with (go_at_call 40; refine (C.out _).mono ?_; rintro e w1 ⟨b, off, rfl, hlt, T, hb1⟩; have B1 := B0.below hb1 B0.lt; have W1 := W0.trans (hb1.mono W0.size); have T1 := Lib.hid T; clear hb1 B0 W0 T C)
  go_loopw [8] (fun iv wr => ∃ j : Nat, iv = .int .i64 j ∧ j ≤ 14 ∧ Hid (∀ (i : Nat) (x : List UInt8 × Bool × Nat), i < j → Ex.tabW[i]? = some x → x.1 ≠ name.data.toList) ∧ Below w1.heap.size w1 wr) (fun iv _ => 14 - (intOf iv).toNat)
  case atStart => exact ⟨0, rfl, Nat.zero_le _, fun i _ h => absurd h (Nat.not_lt_zero _), Below.refl _ _⟩
  case round =>
    obtain ⟨j, rfl, hj, hno, hW⟩ := hrel
    by_cases h14 : j < 14
    · obtain ⟨⟨xn, xr, xk⟩, hx⟩ : ∃ x, Ex.tabW[j]? = some x := ⟨_, List.getElem?_eq_getElem (show j < Ex.tabW.length from h14)⟩
      obtain ⟨v, c0, c1, c2, kv⟩ := T1.out.on hlt hW j _ hx
      obtain ⟨vf, vc, rfl⟩ := kv.shape
      have hx' := Lib.hid hx
      have hbl : b < wr.heap.size := Nat.lt_of_lt_of_le hlt hW.size
      have g1 : decide ((j : Int) < 14) = true := by rw [decide_eq_true_iff]; omega
      have W3 := Ex.al hW (.cells #[.string (bs xn), .bool xr, .func (.func vf) #[] vc] 48)
      have B2 := (B1.below hW B1.lt).alloc (.cells #[.string (bs xn), .bool xr, .func (.func vf) #[] vc] 48)
      have KV := Lib.hid (kv.on (Ex.al (Below.refl wr.heap.size wr) (.cells #[.string (bs xn), .bool xr, .func (.func vf) #[] vc] 48)))
      obtain ⟨q0, q1, q2, f0, f1, f2⟩ := row_three B2
      have BB := Lib.hid B2
      clear hx kv B2
      by_cases hn : xn = name.data.toList
      · have e1 : ((bs xn).toList == name.toList) = true := by rw [bs_tl, Lib.toList_data, beq_iff_eq]; exact hn
        have hz : Hid (bs xn = name) := by show _ = _; rw [hn]; rfl
        exfalso
        have h1 := Ex.tab_kind _ (List.mem_of_getElem? hx'.out)
        rw [hn, HK.out] at h1
        cases h1
      · have e1 : ((bs xn).toList == name.toList) = false := by rw [bs_tl, Lib.toList_data, beq_eq_false_iff_ne]; exact hn
        have hno2 : Hid (∀ (i : Nat) (x : List UInt8 × Bool × Nat), i < j + 1 → Ex.tabW[i]? = some x → x.1 ≠ name.data.toList) := Lib.hid (fun i x hi h2 => by
          by_cases he : i = j
          · subst he; rw [hx'.out] at h2; injection h2 with h2; subst h2; exact hn
          · exact hno.out i x (by omega) h2)
        generalize bs xn = z at *
        clear hn hx' hno
        go_wp2
        go_roundw
        case rel => exact ⟨j + 1, by go_num, by omega, hno2, W3⟩
        case measure => simp [intOf]; omega
    · obtain rfl : j = 14 := by omega
      have g1 : decide ((14 : Int) < 14) = false := by decide
      have B3 := B1.below hW B1.lt
      obtain ⟨q0, q1, q2, f0, f1, f2⟩ := row_three B3
      have BB := Lib.hid B3
      clear B3 hno
      go_wp2
      refine ret_three1 rfl rfl (three_row BB.out) rfl Tryz.underlying48 (by kernel_rfl) ?_
      exact ⟨rfl, below_three (W1.trans (hW.mono W1.size)) (Nat.le_refl _)⟩
end Go.Proofs.YtcddbdefdenecaaGreatDoor
