/-
  Package reg: lists of registers that a call makes: copied, aged, with one more where no name is given; what is added.
-/
import Derived.Test.YtopplkfbnpamdaaRegPut
import Derived.Test.YtopplkfbnpamdaaRet3
import Derived.Test.YtopplkfbnpamdaaShelf
import Derived.Lib.SliceRun
namespace Go.Proofs.Ytopplkfbnpamdaa
open Go.RowKit
open Reg
theorem Reg.index_has (l : List UInt8) (c : UInt8) : decide (0 ≤ Lib.indexByte l c) = decide (c ∈ l) := by
  induction l with
  | nil => rfl
  | cons b r ih =>
    have hge := Lib.indexByte_ge r c
    unfold Lib.indexByte
    by_cases hb : b = c
    · subst hb; simp
    · have : (b == c) = false := by simpa using hb
      rw [this]
      simp only [Bool.false_eq_true, if_false]
      have hc : decide (c ∈ b :: r) = decide (c ∈ r) := by
        rw [decide_eq_decide, List.mem_cons]
        exact ⟨fun h => h.resolve_left (fun e => hb e.symm), .inr⟩
      rw [hc, ← ih]
      by_cases hi : Lib.indexByte r c = -1
      · rw [hi]; rfl
      · have : (Lib.indexByte r c == -1) = false := by simpa using hi
        rw [this]
        simp only [Bool.false_eq_true, if_false]
        rw [decide_eq_decide]
        omega
theorem str_feed (s : ByteArray) (w : World) : Calls Try.prog 35 #[.string s, .string ⟨#[10]⟩] w fun e w' => e = .returned (.bool (decide ((10 : UInt8) ∈ s.data.toList))) ∧ w = w' := by
  have C := Lib.hid (Try.strings_Index_one s 10)
  have H : Hid (decide (0 ≤ Lib.indexByte s.data.toList 10) = decide ((10 : UInt8) ∈ s.data.toList)) := Reg.index_has _ _
  generalize Lib.indexByte s.data.toList 10 = z at *
  go_enter Try.func35, Try.ntmps35
  go_wp2_with (go_at_call 44; refine (C.out _).mono ?_; rintro e w1 ⟨rfl, rfl⟩)
  go_ret
  exact ⟨by rw [← H.out]; rfl, rfl⟩
/-- A list in memory of the call's own. -/
def OwnIs (l : List Rg) (w : World) (e : Ending) (w' : World) : Prop :=
  ∃ v', e = .returned v' ∧ w'.ownsRow w.heap.size 32 3 v' l.length (rrows l) ∧ Below w.heap.size w w'
set_option maxHeartbeats 1000000 in
set_option maxRecDepth 100000 in
theorem rg_clone {A : Option Addr} {c : Nat} {ks : List Rg} {w : World} (hx : Rgs w A ks) (hm : ks.length ≤ 1000) :
    Calls Try.prog 31 #[.slice A ks.length c] w (OwnIs ks w) := by
  obtain ⟨i0, hi, hz0, hz1, hz2⟩ := info_parts info_reg
  have hq : ∀ w, (binOp .eql 22 (.slice A ks.length c) (.slice none 0 0)).run Try.prog w = .ok (.bool A.isNone) w := fun w => Lib.run_eql_slice_nil w _ _ A ks.length c 0 0 Try.underlying22
  cases A with
  | none =>
    rw [Option.isNone_none] at hq
    have hl0 : ks = [] := by
      rcases Nat.eq_zero_or_pos ks.length with h | h
      · exact List.eq_nil_of_length_eq_zero h
      · obtain ⟨_, _, e, _⟩ := hx h; cases e
    subst hl0
    rw [List.length_nil] at hq
    go_enter Try.func31, Try.ntmps31
    go_wp2
    go_ret
    exact ⟨_, rfl, World.ownsRow_nil _ _ _ _, Below.refl _ _⟩
  | some ad =>
    rw [Option.isNone_some] at hq
    have h2 : Below w.heap.size w (w.alloc (.cells #[] 32)) := (Below.refl _ w).alloc (Nat.le_refl _) _
    have hown : (w.alloc (.cells #[] 32)).ownsRow w.heap.size 32 3 (.slice (some ⟨w.heap.size, 0, none⟩) 0 0) 0 [] := World.ownsRow_lit w #[] 0 (Nat.le_refl _) (Nat.zero_le _) rfl
    have hnews := Lib.hid (hx.below h2).rows_any
    clear hx
    go_enter Try.func31, Try.ntmps31
    go_wp2_with (at_builtin; refine wpList_append_own _ rfl _ _ 22 rfl w.heap.size 32 i0 _ 3 32 Try.underlying22 hi hz0 hz1 hz2 rfl (by decide) _ _ _ rfl hown ad ks.length c (rrows ks) rfl (rrows_length ks) hnews.out rrows_one (by unfold maxLen; omega) (by omega) h2.size ?_; intro v' w3 hown3 hgrow3 _)
    go_ret
    rw [Nat.zero_add, List.nil_append] at hown3
    exact ⟨_, rfl, hown3, h2.grown hgrow3 h2.size (fun j hj => (hown.lt j hj).1)⟩
theorem Reg.append_none (a : ByteArray) : a ++ (⟨#[]⟩ : ByteArray) = a := by
  apply ByteArray.ext; simp
theorem rg_blk3 (w : World) (o1 o2 : Obj) (t : TypeId) (cs : Array Value) : Blk (((w.alloc o1).alloc o2).alloc (.cells cs t)) (w.heap.size + 1 + 1) t cs := by
  have := Blk.new ((w.alloc o1).alloc o2) t cs
  rw [World.size_alloc, World.size_alloc] at this
  exact this
set_option maxHeartbeats 1000000 in
set_option maxRecDepth 100000 in
theorem reg_add (old r : Rg) (w : World) (ho : old.text.size ≤ 4096) (hr : r.text.size ≤ 140737488355327) :
    Calls Try.prog 29 #[.agg old.vals, .agg r.vals] w fun e w' => e = .returned (.agg #[.int .i64 0, .bool (joined old r.lines r.text).1, .string (joined old r.lines r.text).2]) ∧ Below w.heap.size w w' := by
  obtain ⟨on, ol, ot⟩ := old
  obtain ⟨rn, rl, rt⟩ := r
  unfold Rg.vals
  simp only at ho hr ⊢
  have hW : ∀ o1 o2 o3, Below w.heap.size w (((w.alloc o1).alloc o2).alloc o3) := fun o1 o2 o3 => by
    have h1 := (Below.refl _ w).alloc (Nat.le_refl _) o1
    have h2 := h1.alloc h1.size o2
    exact h2.alloc h2.size o3
  cases ol with
  | true =>
    have H : Hid (joined ⟨on, true, ot⟩ rl rt = (true, ot ++ nl ++ rt)) := rfl
    go_enter Try.func29, Try.ntmps29
    go_wp2
    exact ret_three rfl rfl (rg_blk3 _ _ _ _ _) rfl Try.underlying32 rfl ⟨by rw [H.out]; rfl, hW _ _ _⟩
  | false =>
    cases rl with
    | true =>
      have H : Hid (joined ⟨on, false, ot⟩ true rt = (true, ot ++ nl ++ rt)) := rfl
      go_enter Try.func29, Try.ntmps29
      go_wp2
      exact ret_three rfl rfl (rg_blk3 _ _ _ _ _) rfl Try.underlying32 rfl ⟨by rw [H.out]; rfl, hW _ _ _⟩
    | false =>
      have H : Hid (joined ⟨on, false, ot⟩ false rt = (false, ot ++ ⟨#[]⟩ ++ rt)) := by show _ = _; rw [Reg.append_none]; rfl
      go_enter Try.func29, Try.ntmps29
      go_wp2
      exact ret_three rfl rfl (rg_blk3 _ _ _ _ _) rfl Try.underlying32 rfl ⟨by rw [H.out], hW _ _ _⟩
end Go.Proofs.Ytopplkfbnpamdaa
