/-
  The program tells the example of the document.
-/
import Derived.Test.YtdeilomdinmonaaRefWrites
namespace Go.Proofs.Ytdeilomdinmonaa
open Go.RowKit
/-- An answer that is a new reader of these bytes. -/
def GotRd (l : List UInt8) (B : Nat) (e : Ending) (w' : World) : Prop := ∃ p, e = .returned (.pointer (some ⟨p, 0, none⟩)) ∧ B ≤ p ∧ Rd p l 0 w'
set_option maxHeartbeats 400000 in
theorem new_reader (s : ByteArray) (w : World) (hs : s.size ≤ maxLen) :
    Calls Try.prog 14 #[.string s] w fun e w' => GotRd s.data.toList w.heap.size e w' ∧ Below w.heap.size w w' := by
  go_enter Try.func14, Try.ntmps14
  go_wp2_with fail
  refine (rd_begin w.heap.size _ _ _ _ s _ hs (Blk.new w _ _)).mono ?_
  rintro e w1 ⟨rfl, hr, hg⟩
  go_wp2
  go_ret
  exact ⟨⟨_, rfl, Nat.le_refl _, hr⟩, ((Below.refl _ w).alloc (Nat.le_refl _) _).trans ((Below.refl _ _).grown hg (by simp) (fun k hk => by injection hk with hk; omega))⟩
theorem of_row {B p : Nat} {w w' : World} (h : Below B w w') {w2 : World} (g : w'.grownBy w2 (some p)) (hp : B ≤ p) (hB : B ≤ w.heap.size) : Below B w w2 :=
  h.grown g (Nat.le_trans hB h.size) (fun k hk => by injection hk with hk; omega)
set_option maxHeartbeats 800000 in
theorem lives_true (w : World) :
    Calls Try.prog 13 #[] w fun e w' => e = .returned (.bool true) ∧ Below w.heap.size w w' := by
  go_enter Try.func13, Try.ntmps13
  go_wp2_with fail
  refine (new_reader _ _ (by decide)).mono ?_
  rintro e w1 ⟨⟨p, rfl, hp, hr⟩, hb1⟩
  have h2 := rd_text 2 hr
  have e2 : rdText 2 (⟨#[2, 0, 0, 0, 97, 98, 1]⟩ : ByteArray).data.toList 0 = ([97, 98], [1], 0) := by decide
  rw [e2] at h2
  clear e2
  go_wp2_with fail
  refine h2.mono ?_
  rintro e w2 ⟨rfl, hr2, hg2⟩
  have h3 := rd_num hr2
  have e3 : rdNum [1] 0 = (0, [], 2) := by decide
  rw [e3] at h3
  clear e3
  go_wp2_with fail
  refine h3.mono ?_
  rintro e w3 ⟨rfl, hr3, hg3⟩
  have hW : Below w.heap.size w w3 := of_row (of_row hb1 hg2 hp (Nat.le_refl _)) hg3 hp (Nat.le_refl _)
  go_wp2_with fail
  refine (code_num _ _).mono ?_
  rintro e w4 ⟨rfl, hb4⟩
  have n258 : numB 258 = [2, 1, 0, 0] := by decide
  have hr4 := hr3.below (gb_below none hb4)
  have hW4 := hW.trans (hb4.mono hW.size)
  rw [n258]
  clear n258
  have tl := bs_tl
  go_wp2_with fail
  refine (code_text _ _ (by decide)).mono ?_
  rintro e w5 ⟨rfl, hb5⟩
  have n2 : numB ((⟨#[97, 98]⟩ : ByteArray).size : Int) ++ (⟨#[97, 98]⟩ : ByteArray).data.toList = [2, 0, 0, 0, 97, 98] := by decide
  have hr5 := hr4.below (gb_below none hb5)
  have hW5 := hW4.trans (hb5.mono hW4.size)
  rw [n2]
  clear n2
  go_wp2_with fail
  refine (rd_err hr5).mono ?_
  rintro e w6 ⟨rfl, rfl⟩
  go_wp2
  go_ret
  exact ⟨rfl, hW5⟩
end Go.Proofs.Ytdeilomdinmonaa
