/-
  Numbers in decimal digits, with a blank between each two: the program's.
-/
import Derived.Test.YtchmiigjiojiaaaDoorDigits
import Derived.Test.YtchmiigjiojiaaaDoorJoined
import Derived.Test.YtchmiigjiojiaaaDoorStrsOwn
import Derived.WalkLawsBesides
namespace Go.Proofs.YtchmiigjiojiaaaDoor
open Go.RowKit
open Trk
/-- Numbers as words. -/
def words (ns : List Int) : List (List UInt8) := ns.map Lib.itoa
theorem words_snoc {ns : List Int} {k : Nat} {n : Int} (h : ns[k]? = some n) : words (ns.take (k + 1)) = words (ns.take k) ++ [Lib.itoa n] := by
  obtain ⟨hm, rfl⟩ := List.getElem?_eq_some_iff.1 h
  unfold words
  rw [List.take_succ_eq_append_getElem hm, List.map_append]
  rfl
theorem words_length (ns : List Int) : (words ns).length = ns.length := by simp [words]
/-- A text, as a cell holds it. -/
def wordV (t : List UInt8) : Value := .string (bs t)
theorem wordV_snoc (ts : List (List UInt8)) (t : List UInt8) : (ts ++ [t]).map wordV = ts.map wordV ++ [.string (bs t)] := by simp [wordV]
theorem lens_le {B : Nat} : ∀ {us : List (List UInt8)}, (∀ t ∈ us, t.length ≤ B) → Lib.lens us ≤ us.length * B
  | [], _ => by simp [Lib.lens]
  | u :: us, h => by
    have h1 := h u (by simp)
    have h2 := lens_le (us := us) fun v hv => h v (by simp [hv])
    have e : Lib.lens (u :: us) = u.length + Lib.lens us := by simp [Lib.lens]
    rw [e, List.length_cons, Nat.add_mul]
    omega
theorem join_len_le (ts : List (List UInt8)) (B : Nat) (h : ∀ t ∈ ts, t.length ≤ B) : (Lib.join ts [32]).length ≤ ts.length * (B + 1) := by
  match ts, h with
  | [], _ => simp [Lib.join_nil]
  | t :: r, h =>
    have hl := lens_le h
    rw [Lib.join_length, Nat.mul_add]
    simp only [List.length_cons, List.length_nil] at hl ⊢
    omega
set_option maxHeartbeats 2000000 in
set_option maxRecDepth 100000 in
theorem trunk_row {g c : Nat} {ns : List Int} {w : World} (hp : Pow w.heap.size w) (hx : ∀ (j : Nat) n, ns[j]? = some n → w.cell? ⟨g, 0 + j, none⟩ = some (.int .i64 n)) (hg : g < w.heap.size) (hn : ns.length ≤ 100) (h0 : 0 < ns.length) (hw : ∀ n ∈ ns, I64 n) :
    Calls Tryd.prog 25 #[.slice (some ⟨g, 0, none⟩) ns.length c] w fun e w' => e = .returned (.string (bs (Lib.join (words ns) [32]))) ∧ Below w.heap.size w w' := by
  obtain ⟨i0, hi, hz0, hz1, hz2⟩ := info_parts info_string
  have HP := Lib.hid hp
  have HX := Lib.hid (fun (u : World) (hb : Below w.heap.size w u) (j : Nat) (n : Int) (h : ns[j]? = some n) => (hb.cell (p := ⟨g, 0 + j, none⟩) hg).trans (hx j n h))
  have HW := Lib.hid hw
  clear hp hx hw
  go_enter Tryd.func25, Tryd.ntmps25
  go_wp2_with (at_make; refine wpList_make_own _ rfl _ _ 30 rfl w.heap.size 9 i0 (.string ⟨#[]⟩) 1 Tryd.underlying30 hi hz0 hz1 .i64 .i64 _ ns.length rfl rfl rfl (by rw [hz2]; omega) (by unfold maxLen; omega) (Nat.le_refl _) ?_; intro w2 hown hgrow)
  have hW2 : Below w.heap.size w w2 := below_gb hgrow
  clear hgrow
  go_wp2
  go_loopw [3, 11] (fun v i wr => ∃ (k : Nat) (A' : Option Addr) (c' : Nat), v = .slice A' k c' ∧ i = .int .i64 k ∧ k ≤ ns.length ∧ wr.ownsRow w.heap.size 9 1 v k ((words (ns.take k)).map wordV) ∧ Below w.heap.size w wr) (fun _ i _ => ns.length - (intOf i).toNat)
  case atStart => exact ⟨0, _, _, rfl, rfl, Nat.zero_le _, hown, hW2⟩
  case round =>
    obtain ⟨k, A', c', rfl, rfl, hk, hown2, hW⟩ := hrel
    clear hown hW2
    by_cases hlt : k < ns.length
    · obtain ⟨n, hn2⟩ : ∃ n, ns[k]? = some n := ⟨_, List.getElem?_eq_getElem hlt⟩
      have c0 := HX.out wr hW k n hn2
      rw [Nat.zero_add] at c0
      have D := Lib.hid (fun u (hu : Below w.heap.size w u) => itoa_any n (HW.out n (List.mem_of_getElem? hn2)) (HP.out.on hu))
      have HS := Lib.hid (words_snoc hn2)
      clear hn2
      go_wp2_with (first
        | (go_at_call 47; ((with_reducible refine (D.out _ hW).mono ?_); rintro e w5 ⟨rfl, hb5⟩; have U2 := (hown2.kept (gb_below none hb5) (by cases hv : (Value.slice A' k c').ownBlock <;> simp)).alloc (.cells #[.string (bs (Lib.itoa n))] 9); have W5 := (hW.trans (hb5.mono hW.size)).alloc (Nat.le_trans hW.size hb5.size) (.cells #[.string (bs (Lib.itoa n))] 9)))
        | (at_builtin; refine wpList_append_own _ rfl _ _ 30 rfl w.heap.size 9 i0 (.string ⟨#[]⟩) 1 16 Tryd.underlying30 hi hz0 hz1 hz2 rfl (by decide) _ _ _ rfl U2 ⟨w5.heap.size, 0, none⟩ 1 1 [.string (bs (Lib.itoa n))] rfl rfl ?c1 ?c2 ?c3 ?c4 ?c5 ?_))
      case c1 =>
        intro i u hu
        have hb := Blk.new w5 9 #[.string (bs (Lib.itoa n))]
        rw [add_plain, Nat.zero_add, hb.cell]
        simpa using hu
      case c2 => intro u hu; simp at hu; subst hu; rfl
      case c3 => unfold maxLen; omega
      case c4 => omega
      case c5 => exact W5.size
      intro v' w6 hown6 hgrow6 _
      obtain ⟨a6, cap6, rfl⟩ := own_shape hown6
      rw [← wordV_snoc, ← HS.out] at hown6
      have W6 := W5.grown hgrow6 W5.size (fun j hj => (U2.lt j hj).1)
      clear hgrow6 U2 W5 hb5 c0
      go_wp2
      go_roundw
      case rel => exact ⟨k + 1, a6, cap6, rfl, by go_num, by omega, hown6, W6⟩
      case measure => simp [intOf]; omega
    · obtain rfl : k = ns.length := by omega
      rw [List.take_length] at hown2
      obtain ⟨g6, cap6, he, hlt6, _, _⟩ := own_addr hown2 h0
      injection he with e1 _ e3
      subst e1 e3
      have hcap : ns.length ≤ c' := by
        rcases hown2.2 with ⟨hv, _⟩ | ⟨g', cap, cur', hv, _, _, h, _⟩
        · cases hv
        · injection hv with _ _ e3; rw [e3]; exact h
      have J := Tryd.strings_Join g6 0 c' ((words ns).map bs) ⟨#[32]⟩ wr (fun j x hj => by
        have hk := hown2.cells (g := g6) rfl j (.string x) (by
          rw [List.getElem?_map] at hj ⊢
          cases ht : (words ns)[j]? with
          | none => rw [ht] at hj; cases hj
          | some t => rw [ht] at hj; injection hj with hj; rw [← hj]; rfl)
        rw [add_plain] at hk
        exact hk) hlt6 (by rw [List.length_map, words_length]; omega) (by rw [List.length_map, words_length]; exact hcap) (by
        rw [texts_data]
        have := join_len_le (words ns) 21 (fun t ht => by
          obtain ⟨n, hn3, rfl⟩ := List.mem_map.1 ht
          have := HW.out n hn3
          exact Lib.itoa_length_le n this.1 this.2)
        rw [words_length] at this
        show (Lib.join (words ns) [32]).length ≤ _
        omega)
      rw [texts_data, List.length_map, words_length] at J
      have HJ := Lib.hid J
      clear J hcap hlt6
      go_wp2_with (go_at_call 45; ((with_reducible refine HJ.out.mono ?_); rintro e w7 ⟨rfl, hb7⟩))
      go_ret
      exact ⟨rfl, hW.trans (hb7.mono hW.size)⟩
end Go.Proofs.YtchmiigjiojiaaaDoor
