/-
  What keeps a text from being keys: the program's own check, rune by rune.
-/
import Derived.Test.YtchpkeelnfmlbaaGreatKeyMap
import Derived.Test.YtchpkeelnfmlbaaGreatUtfCounts
import Derived.BigCall
namespace Go.Proofs.YtchpkeelnfmlbaaGreat
open Go.RowKit
namespace Key
open Utf
theorem all_take {rs : List (List UInt8)} {i : Nat} {r : List UInt8} (h : rs[i]? = some r) (k : (rs.take i).all isKey = true) (hr : isKey r = true) : (rs.take (i + 1)).all isKey = true := by
  rw [List.take_add_one, h]
  simp [List.all_append, k, hr]
theorem all_end {rs : List (List UInt8)} {i : Nat} (h : rs.length ≤ i) (k : (rs.take i).all isKey = true) : rs.all isKey = true := by rwa [List.take_of_length_le h] at k
theorem all_not {rs : List (List UInt8)} {i : Nat} {r : List UInt8} (h : rs[i]? = some r) (hr : isKey r = false) : rs.all isKey = false := by
  rw [List.all_eq_false]
  exact ⟨r, List.mem_of_getElem? h, by simp [hr]⟩
end Key
set_option maxHeartbeats 1000000 in
set_option maxRecDepth 100000 in
theorem key_check (s : ByteArray) (hs : s.size ≤ 9223372036854775807) (w : World) :
    Calls Tryz.prog 16 #[.string s] w fun e w' => e = .returned (.int .i64 (Key.err s.data.toList)) ∧ Below w.heap.size w w' := by
  have c1 := Lib.hid (utf_Valid s hs)
  cases hd : Utf.dec s.data.toList with
  | none =>
    rw [Utf.valid_bad hd] at c1
    have H := Lib.hid (Key.err_bad hd)
    clear hd
    go_enter Tryz.func16, Tryz.ntmps16
    go_wp2_with (go_at_call 36; refine (c1.out _).mono ?_; rintro e w1 ⟨rfl, rfl⟩)
    go_ret
    exact ⟨by rw [H.out]; rfl, Below.refl _ _⟩
  | some rs =>
    rw [Utf.valid_ok hd] at c1
    have c2 := Lib.hid (key_names w)
    have HD := Lib.hid hd
    clear hd
    go_enter Tryz.func16, Tryz.ntmps16
    go_wp2_with (first
      | (go_at_call 36; refine (c1.out _).mono ?_; rintro e w1 ⟨rfl, rfl⟩)
      | (go_at_call 37; refine c2.out.mono ?_; rintro e w1 ⟨rfl, ht, hb⟩))
    have hlt := ht.lt
    go_loopw [] (fun wr => ∃ i, i ≤ rs.length ∧ wr.heap[w1.heap.size]? = some (.stringIter s (Utf.off rs i)) ∧ Tbl wr w.heap.size ∧ Below w.heap.size w wr ∧ Hid ((rs.take i).all Key.isKey = true)) (fun wr => s.size - wr.iterPos w1.heap.size)
    case atStart =>
      refine ⟨0, Nat.zero_le _, ?_, ht.alloc _, hb.alloc hb.size _, Lib.hid (by simp)⟩
      rw [Utf.off_zero]
      exact World.iter_heap w1 s 0
    case round =>
      obtain ⟨i, hi, hit, htr, hbr, hall⟩ := hrel
      have hsz : w1.heap.size < wr.heap.size := (Array.getElem?_eq_some_iff.1 hit).1
      rcases rune_or_end (rs := rs) i with ⟨r, hr⟩ | hend
      · obtain ⟨hdc, hp, hoff, hle, ho⟩ := Key.decode_rune s HD.out hr
        have hcp := Key.cp_le ho
        have hpos := Utf.one_pos ho
        have hnx : ∀ ty, (Instr.next (.pointer (some ⟨w1.heap.size, 0, none⟩)) true ty).run Tryz.prog wr = _ := fun ty => Lib.run_next_any_at wr w1.heap.size s _ ty hit hp
        rw [hdc] at hnx
        simp only [] at hnx
        rw [← hoff] at hnx
        have hit2 := Lib.iterAt_heap wr w1.heap.size s _ (Utf.off rs (i + 1)) hit
        have hbr2 := Lib.below_iterAt hbr (k := w1.heap.size) hb.size s (Utf.off rs (i + 1))
        have htr2 := htr.iterAt s (Utf.off rs (i + 1)) (Nat.ne_of_lt hlt)
        have hlook := htr2.look hcp
        have c3 := Lib.hid (fun w => key_sign_rune hcp w)
        have hsz2 := Lib.iterAt_size wr w1.heap.size s (Utf.off rs (i + 1))
        have Hr := Lib.hid hr
        have Hoff := Lib.hid hoff
        clear hr hdc ho
        cases hn : Key.nm (Key.cp r) with
        | some l =>
          rw [hn] at hlook
          simp only [Option.isSome_some, Option.getD_some] at hlook
          have hk := Lib.hid (Key.all_take Hr.out hall.out (show Key.isKey r = true by simp [Key.isKey, hn]))
          clear hn hlt htr hall c1 c2 hoff
          go_wp2
          go_roundw
          case rel => exact ⟨i + 1, by have := (List.getElem?_eq_some_iff.1 Hr.out).1; omega, by rw [Below.heap_alloc _ _ _ (by rw [hsz2]; exact hsz)]; exact hit2, htr2.alloc _, hbr2.alloc hbr2.size _, hk⟩
          case measure =>
            have h1 := Below.heap_alloc (wr.iterAt w1.heap.size s (Utf.off rs (i + 1))) (.cells #[.string (bs l)] 58) w1.heap.size (by rw [hsz2]; exact hsz)
            simp only [World.iterPos, h1, hit2, hit]
            have := Hoff.out
            omega
        | none =>
          rw [hn] at hlook
          simp only [Option.isSome_none, Option.getD_none] at hlook
          cases hsg : Key.sgn r with
          | true =>
            rw [hsg] at c3
            have hk := Lib.hid (Key.all_take Hr.out hall.out (show Key.isKey r = true by simp [Key.isKey, hn, hsg]))
            clear hn hlt htr hall c1 c2 hoff hsg
            go_wp2_with (go_at_call 38; refine (c3.out _).mono ?_; rintro e w2 ⟨rfl, rfl⟩)
            go_roundw
            case rel => exact ⟨i + 1, by have := (List.getElem?_eq_some_iff.1 Hr.out).1; omega, by rw [Below.heap_alloc _ _ _ (by rw [hsz2]; exact hsz)]; exact hit2, htr2.alloc _, hbr2.alloc hbr2.size _, hk⟩
            case measure =>
              have h1 := Below.heap_alloc (wr.iterAt w1.heap.size s (Utf.off rs (i + 1))) (.cells #[.string (bs [])] 58) w1.heap.size (by rw [hsz2]; exact hsz)
              simp only [World.iterPos, h1, hit2, hit]
              have := Hoff.out
              omega
          | false =>
            rw [hsg] at c3
            have H := Lib.hid (Key.err_key HD.out (Key.all_not Hr.out (show Key.isKey r = false by simp [Key.isKey, hn, hsg])))
            clear hn hlt htr hall c1 c2 hoff hsg
            go_wp2_with (go_at_call 38; refine (c3.out _).mono ?_; rintro e w2 ⟨rfl, rfl⟩)
            go_ret
            exact ⟨by rw [H.out]; rfl, hbr2.alloc hbr2.size _⟩
      · have hnx : ∀ ty, (Instr.next (.pointer (some ⟨w1.heap.size, 0, none⟩)) true ty).run Tryz.prog wr = _ := fun ty => Lib.run_next_end_at wr w1.heap.size s _ ty hit (by rw [off_len HD.out hend]; omega)
        have H := Lib.hid (Key.err_ok HD.out (Key.all_end hend hall.out))
        clear hlt htr hall c1 c2
        go_wp2
        go_ret
        exact ⟨by rw [H.out]; rfl, hbr⟩
namespace Key
open Utf
theorem err_zero {s : List UInt8} (h : err s = 0) : ∃ rs, dec s = some rs ∧ rs.all isKey = true := by
  cases hd : dec s with
  | none => rw [err_bad hd] at h; cases h
  | some rs =>
    cases hk : rs.all isKey with
    | true => exact ⟨rs, rfl, hk⟩
    | false => rw [err_key hd hk] at h; cases h
end Key
end Go.Proofs.YtchpkeelnfmlbaaGreat
