/-
  What a node's fields are in the program: functions that stand in a struct's fields, and what they have captured.
-/
import Derived.Test.YtchmiigjiojiaaaDoorNds
namespace Go.Proofs.YtchmiigjiojiaaaDoor
open Go.RowKit
set_option maxRecDepth 100000
theorem get_0 (b : Nat) (w : World) : Calls Tryd.prog 37 #[.pointer (some ⟨b, 0, none⟩)] w fun e w' => e = .returned (.pointer (some ⟨b, 0, none⟩)) ∧ w = w' := by
  go_enter Tryd.func37, Tryd.ntmps37
  go_wp2
  go_ret
  exact ⟨rfl, rfl⟩
theorem get_1 (b : Nat) (w : World) : Calls Tryd.prog 38 #[.pointer (some ⟨b, 0, none⟩)] w fun e w' => e = .returned (.pointer (some ⟨b, 1, none⟩)) ∧ w = w' := by
  go_enter Tryd.func38, Tryd.ntmps38
  go_wp2
  go_ret
  exact ⟨rfl, rfl⟩
theorem get_2 (b : Nat) (w : World) : Calls Tryd.prog 39 #[.pointer (some ⟨b, 0, none⟩)] w fun e w' => e = .returned (.pointer (some ⟨b, 2, none⟩)) ∧ w = w' := by
  go_enter Tryd.func39, Tryd.ntmps39
  go_wp2
  go_ret
  exact ⟨rfl, rfl⟩
theorem get_3 (b : Nat) (w : World) : Calls Tryd.prog 40 #[.pointer (some ⟨b, 0, none⟩)] w fun e w' => e = .returned (.pointer (some ⟨b, 3, none⟩)) ∧ w = w' := by
  go_enter Tryd.func40, Tryd.ntmps40
  go_wp2
  go_ret
  exact ⟨rfl, rfl⟩
theorem get_4 (b : Nat) (w : World) : Calls Tryd.prog 41 #[.pointer (some ⟨b, 0, none⟩)] w fun e w' => e = .returned (.pointer (some ⟨b, 4, none⟩)) ∧ w = w' := by
  go_enter Tryd.func41, Tryd.ntmps41
  go_wp2
  go_ret
  exact ⟨rfl, rfl⟩
theorem get_5 (b : Nat) (w : World) : Calls Tryd.prog 43 #[.pointer (some ⟨b, 0, none⟩)] w fun e w' => e = .returned (.pointer (some ⟨b, 5, none⟩)) ∧ w = w' := by
  go_enter Tryd.func43, Tryd.ntmps43
  go_wp2
  go_ret
  exact ⟨rfl, rfl⟩
theorem get_6 (b : Nat) (w : World) : Calls Tryd.prog 44 #[.pointer (some ⟨b, 0, none⟩)] w fun e w' => e = .returned (.pointer (some ⟨b, 6, none⟩)) ∧ w = w' := by
  go_enter Tryd.func44, Tryd.ntmps44
  go_wp2
  go_ret
  exact ⟨rfl, rfl⟩
/-- The function that a field of a number writes with, and the one that it reads with. -/
def wnum (o m : Nat) : Value := .func (.func 51) #[] #[.pointer (some ⟨o, 0, none⟩), .pointer (some ⟨m, 0, none⟩)]
def rnum (m o : Nat) : Value := .func (.func 52) #[] #[.pointer (some ⟨m, 0, none⟩), .pointer (some ⟨o, 0, none⟩)]
/-- Those of a text. -/
def wtxt (o : Nat) : Value := .func (.func 53) #[] #[.pointer (some ⟨o, 0, none⟩)]
def rtxt (o : Nat) : Value := .func (.func 55) #[] #[.pointer (some ⟨o, 0, none⟩)]
def fn (k : Nat) : Value := .func (.func k) #[] #[]
set_option maxHeartbeats 400000 in
theorem trunk_number (more : Int) (k : Nat) (w : World) :
    Calls Tryd.prog 36 #[.int .i64 more, .func (.func k) #[] #[]] w fun e w' => e = .returned (.agg #[wnum (w.heap.size + 1) w.heap.size, rnum w.heap.size (w.heap.size + 1)]) ∧ Blk w' w.heap.size 3 #[.int .i64 more] ∧ Blk w' (w.heap.size + 1) 71 #[fn k] ∧ Below w.heap.size w w' := by
  have hmf : ∀ (fn : Fn) (first cap : Array Value) (w : World), (Instr.makeFunc fn first cap).run Tryd.prog w = .ok (.func fn first cap) w := fun _ _ _ _ => rfl
  go_enter Tryd.func36, Tryd.ntmps36
  go_wp2
  have b0 := ((Blk.new w 3 #[.int .i64 more]).alloc (.cells #[fn k] 71)).alloc (.cells #[wnum (w.heap.size + 1) w.heap.size, rnum w.heap.size (w.heap.size + 1)] 51)
  have b1 := (Blk.new (w.alloc (.cells #[.int .i64 more] 3)) 71 #[fn k]).alloc (.cells #[wnum (w.heap.size + 1) w.heap.size, rnum w.heap.size (w.heap.size + 1)] 51)
  have b2 := Blk.new ((w.alloc (.cells #[.int .i64 more] 3)).alloc (.cells #[fn k] 71)) 51 #[wnum (w.heap.size + 1) w.heap.size, rnum w.heap.size (w.heap.size + 1)]
  simp only [World.size_alloc] at b1 b2
  exact bodyPost_ret (v := .agg #[wnum (w.heap.size + 1) w.heap.size, rnum w.heap.size (w.heap.size + 1)]) (results_cell_row rfl _ _ (w.heap.size + 1 + 1) 51 #[wnum (w.heap.size + 1) w.heap.size, rnum w.heap.size (w.heap.size + 1)] (0, 0) _ rfl b2 Tryd.underlying51 rfl rfl) rfl
    ⟨rfl, b0, b1, (((Below.refl _ w).alloc (Nat.le_refl _) _).alloc (by simp) _).alloc (by simp; omega) _⟩
set_option maxHeartbeats 400000 in
theorem trunk_text (k : Nat) (w : World) :
    Calls Tryd.prog 42 #[.func (.func k) #[] #[]] w fun e w' => e = .returned (.agg #[wtxt w.heap.size, rtxt w.heap.size]) ∧ Blk w' w.heap.size 74 #[fn k] ∧ Below w.heap.size w w' := by
  have hmf : ∀ (fn : Fn) (first cap : Array Value) (w : World), (Instr.makeFunc fn first cap).run Tryd.prog w = .ok (.func fn first cap) w := fun _ _ _ _ => rfl
  go_enter Tryd.func42, Tryd.ntmps42
  go_wp2
  have b0 := (Blk.new w 74 #[fn k]).alloc (.cells #[wtxt w.heap.size, rtxt w.heap.size] 51)
  have b1 := Blk.new (w.alloc (.cells #[fn k] 74)) 51 #[wtxt w.heap.size, rtxt w.heap.size]
  simp only [World.size_alloc] at b1
  exact bodyPost_ret (v := .agg #[wtxt w.heap.size, rtxt w.heap.size]) (results_cell_row rfl _ _ (w.heap.size + 1) 51 #[wtxt w.heap.size, rtxt w.heap.size] (0, 0) _ rfl b1 Tryd.underlying51 rfl rfl) rfl
    ⟨rfl, b0, ((Below.refl _ w).alloc (Nat.le_refl _) _).alloc (by simp) _⟩
/-- The blocks in which the seven fields have what they captured. -/
structure FB where
  m0 : Nat
  o0 : Nat
  m1 : Nat
  o1 : Nat
  m2 : Nat
  o2 : Nat
  m3 : Nat
  o3 : Nat
  m4 : Nat
  o4 : Nat
  o5 : Nat
  o6 : Nat
def FB.cells (f : FB) : Array Value := #[wnum f.o0 f.m0, rnum f.m0 f.o0, wnum f.o1 f.m1, rnum f.m1 f.o1, wnum f.o2 f.m2, rnum f.m2 f.o2, wnum f.o3 f.m3, rnum f.m3 f.o3, wnum f.o4 f.m4, rnum f.m4 f.o4, wtxt f.o5, rtxt f.o5, wtxt f.o6, rtxt f.o6]
/-- A field of a number: what it has captured. -/
def NumF (w : World) (m o k : Nat) (more : Int) : Prop := Blk w m 3 #[.int .i64 more] ∧ Blk w o 71 #[fn k]
def TxtF (w : World) (o k : Nat) : Prop := Blk w o 74 #[fn k]
/-- The program's fields of a node, at block g. -/
structure FieldsAt (w : World) (g : Nat) (f : FB) : Prop where
  self : Blk w g 51 f.cells
  f0 : NumF w f.m0 f.o0 37 1
  f1 : NumF w f.m1 f.o1 38 1
  f2 : NumF w f.m2 f.o2 39 0
  f3 : NumF w f.m3 f.o3 40 0
  f4 : NumF w f.m4 f.o4 41 0
  f5 : TxtF w f.o5 43
  f6 : TxtF w f.o6 44
/-- A block of another type than theirs may be written. -/
theorem FieldsAt.other {w w' : World} {g q : Nat} {f : FB} {t : TypeId} {cs : Array Value} (h : FieldsAt w g f) (k : Blk w q t cs) (hg : w.grownBy w' (some q)) (h0 : t ≠ 51) (h1 : t ≠ 3) (h2 : t ≠ 71) (h3 : t ≠ 74) : FieldsAt w' g f := by
  have n1 : ∀ {m o k : Nat} {more : Int}, NumF w m o k more → NumF w' m o k more := fun x =>
    ⟨x.1.grown hg fun e => k.ne_ x.1 h1 (Option.some.inj e).symm, x.2.grown hg fun e => k.ne_ x.2 h2 (Option.some.inj e).symm⟩
  have n2 : ∀ {o k : Nat}, TxtF w o k → TxtF w' o k := fun x => Blk.grown x hg fun e => k.ne_ x h3 (Option.some.inj e).symm
  exact ⟨h.self.grown hg fun e => k.ne_ h.self h0 (Option.some.inj e).symm, n1 h.f0, n1 h.f1, n1 h.f2, n1 h.f3, n1 h.f4, n2 h.f5, n2 h.f6⟩
theorem FieldsAt.grown {w w' : World} {g : Nat} {f : FB} (h : FieldsAt w g f) (hg : w.grownBy w' none) : FieldsAt w' g f := by
  have n1 : ∀ {m o k : Nat} {more : Int}, NumF w m o k more → NumF w' m o k more := fun x => ⟨x.1.grown hg (by simp), x.2.grown hg (by simp)⟩
  have n2 : ∀ {o k : Nat}, TxtF w o k → TxtF w' o k := fun x => Blk.grown x hg (by simp)
  exact ⟨h.self.grown hg (by simp), n1 h.f0, n1 h.f1, n1 h.f2, n1 h.f3, n1 h.f4, n2 h.f5, n2 h.f6⟩
theorem FieldsAt.below {w w' : World} {g : Nat} {f : FB} (h : FieldsAt w g f) (hb : Below w.heap.size w w') : FieldsAt w' g f := h.grown (gb_below none hb)
/-- An answer of the fields. -/
def FieldsIs (w : World) (e : Ending) (w' : World) : Prop := ∃ (g : Nat) (f : FB), e = .returned (.slice (some ⟨g, 0, none⟩) 7 7) ∧ FieldsAt w' g f ∧ w.heap.size ≤ g ∧ Below w.heap.size w w'
theorem numF_below {w w' : World} {m o k : Nat} {more : Int} (h : NumF w m o k more) (hb : Below w.heap.size w w') : NumF w' m o k more := ⟨h.1.below hb h.1.lt, h.2.below hb h.2.lt⟩
theorem txtF_below {w w' : World} {o k : Nat} (h : TxtF w o k) (hb : Below w.heap.size w w') : TxtF w' o k := Blk.below h hb (Blk.lt h)
theorem number_some (more : Int) (k : Nat) (w : World) :
    Calls Tryd.prog 36 #[.int .i64 more, .func (.func k) #[] #[]] w fun e w' => ∃ m o, e = .returned (.agg #[wnum o m, rnum m o]) ∧ NumF w' m o k more ∧ Below w.heap.size w w' := by
  refine (trunk_number more k w).mono ?_
  rintro e w' ⟨rfl, h0, h1, h2⟩
  exact ⟨_, _, rfl, ⟨h0, h1⟩, h2⟩
theorem text_some (k : Nat) (w : World) :
    Calls Tryd.prog 42 #[.func (.func k) #[] #[]] w fun e w' => ∃ o, e = .returned (.agg #[wtxt o, rtxt o]) ∧ TxtF w' o k ∧ Below w.heap.size w w' := by
  refine (trunk_text k w).mono ?_
  rintro e w' ⟨rfl, h0, h2⟩
  exact ⟨_, rfl, h0, h2⟩
set_option maxHeartbeats 1000000 in
set_option maxRecDepth 100000 in
theorem trunk_fields (w : World) : Calls Tryd.prog 20 #[] w (FieldsIs w) := by
  go_enter Tryd.func20, Tryd.ntmps20
  go_wp2_with fail
  refine (number_some _ _ _).mono ?_
  rintro e w0 ⟨m0, o0, rfl, F0, h0⟩
  simp only [wnum, rnum]
  go_wp2_with fail
  refine (number_some _ _ _).mono ?_
  rintro e w1 ⟨m1, o1, rfl, F1, h1⟩
  replace F0 := numF_below F0 h1
  replace h1 := h0.trans (h1.mono h0.size)
  simp only [wnum, rnum]
  go_wp2_with fail
  refine (number_some _ _ _).mono ?_
  rintro e w2 ⟨m2, o2, rfl, F2, h2⟩
  replace F0 := numF_below F0 h2
  replace F1 := numF_below F1 h2
  replace h2 := h1.trans (h2.mono h1.size)
  simp only [wnum, rnum]
  go_wp2_with fail
  refine (number_some _ _ _).mono ?_
  rintro e w3 ⟨m3, o3, rfl, F3, h3⟩
  replace F0 := numF_below F0 h3
  replace F1 := numF_below F1 h3
  replace F2 := numF_below F2 h3
  replace h3 := h2.trans (h3.mono h2.size)
  simp only [wnum, rnum]
  go_wp2_with fail
  refine (number_some _ _ _).mono ?_
  rintro e w4 ⟨m4, o4, rfl, F4, h4⟩
  replace F0 := numF_below F0 h4
  replace F1 := numF_below F1 h4
  replace F2 := numF_below F2 h4
  replace F3 := numF_below F3 h4
  replace h4 := h3.trans (h4.mono h3.size)
  simp only [wnum, rnum]
  go_wp2_with fail
  refine (text_some _ _).mono ?_
  rintro e w5 ⟨o5, rfl, F5, h5⟩
  replace F0 := numF_below F0 h5
  replace F1 := numF_below F1 h5
  replace F2 := numF_below F2 h5
  replace F3 := numF_below F3 h5
  replace F4 := numF_below F4 h5
  replace h5 := h4.trans (h5.mono h4.size)
  simp only [wtxt, rtxt]
  go_wp2_with fail
  refine (text_some _ _).mono ?_
  rintro e w6 ⟨o6, rfl, F6, h6⟩
  replace F0 := numF_below F0 h6
  replace F1 := numF_below F1 h6
  replace F2 := numF_below F2 h6
  replace F3 := numF_below F3 h6
  replace F4 := numF_below F4 h6
  replace F5 := txtF_below F5 h6
  replace h6 := h5.trans (h6.mono h5.size)
  simp only [wtxt, rtxt]
  go_wp2_with fail
  go_ret
  have hb : Below w6.heap.size w6 (w6.alloc (.cells (FB.cells ⟨m0, o0, m1, o1, m2, o2, m3, o3, m4, o4, o5, o6⟩) 51)) := (Below.refl _ w6).alloc (Nat.le_refl _) _
  exact ⟨w6.heap.size, ⟨m0, o0, m1, o1, m2, o2, m3, o3, m4, o4, o5, o6⟩, rfl, ⟨Blk.new _ _ _, numF_below F0 hb, numF_below F1 hb, numF_below F2 hb, numF_below F3 hb, numF_below F4 hb, txtF_below F5 hb, txtF_below F6 hb⟩, h6.size, h6.alloc h6.size _⟩
end Go.Proofs.YtchmiigjiojiaaaDoor
