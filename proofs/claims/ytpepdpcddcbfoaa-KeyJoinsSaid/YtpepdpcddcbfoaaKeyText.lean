/-
  The text of keys, as the program writes it; a key's name.
-/
import Derived.Test.YtpepdpcddcbfoaaKeyOne
import Derived.Test.YtpepdpcddcbfoaaKeyBuild
namespace Go.Proofs.Ytpepdpcddcbfoaa
open Go.RowKit
namespace Key
open Utf
theorem err_zero {s : List UInt8} (h : err s = 0) : ∃ rs, dec s = some rs ∧ rs.all isKey = true := by
  cases hd : dec s with
  | none => rw [err_bad hd] at h; cases h
  | some rs =>
    cases hk : rs.all isKey with
    | true => exact ⟨rs, rfl, hk⟩
    | false => rw [err_key hd hk] at h; cases h
theorem err_range (s : List UInt8) : err s = 0 ∨ err s = 5 ∨ err s = 9 := by
  cases hd : dec s with
  | none => rw [err_bad hd]; simp
  | some rs =>
    cases hk : rs.all isKey with
    | true => rw [err_ok hd hk]; simp
    | false => rw [err_key hd hk]; simp
theorem names_next {rs : List (List UInt8)} {i : Nat} {r : List UInt8} (h : rs[i]? = some r) : ((rs.take (i + 1)).map nameR).flatten = ((rs.take i).map nameR).flatten ++ nameR r := by
  rw [List.take_add_one, h]
  simp
theorem key_at {rs : List (List UInt8)} {i : Nat} {r : List UInt8} (h : rs[i]? = some r) (k : rs.all isKey = true) : isKey r = true := List.all_eq_true.1 k r (List.mem_of_getElem? h)
theorem names_most {s : List UInt8} {rs : List (List UInt8)} (hd : dec s = some rs) (i : Nat) : ((rs.take i).map nameR).flatten.length ≤ 7 * s.length := by
  have h1 := names_le (rs := rs.take i) (fun r hr => (dec_some hd).1 r (List.mem_of_mem_take hr))
  have h2 : (rs.take i).length ≤ rs.length := by rw [List.length_take]; omega
  have h3 := off_ge hd (i := rs.length) (Nat.le_refl _)
  rw [off_top hd (Nat.le_refl _)] at h3
  omega
end Key
set_option maxHeartbeats 1000000 in
set_option maxRecDepth 100000 in
theorem key_Text (s : ByteArray) (hs : s.size ≤ 1000000000000) (w : World) :
    Calls Try.prog 16 #[.string s] w fun e w' => e = .returned (.tuple #[.string (bs (Key.text s.data.toList)), .int .i64 (Key.err s.data.toList)]) ∧ Below w.heap.size w w' := by
  have hl : s.data.toList.length = s.size := by simp
  have c1 := Lib.hid (key_check s (by omega) w)
  by_cases h0 : Key.err s.data.toList = 0
  · obtain ⟨rs, hd, hall⟩ := Key.err_zero h0
    rw [h0] at c1
    have H := Lib.hid (Key.text_ok hd hall)
    have H0 := Lib.hid h0
    have HD := Lib.hid hd
    have HA := Lib.hid hall
    have hmost := Lib.hid (Key.names_most hd)
    rw [hl] at hmost
    clear h0 hd hall hl
    have c2 := Lib.hid key_names
    go_enter Try.func16, Try.ntmps16
    go_wp2_with (first
      | (go_at_call 22; refine c1.out.mono ?_; rintro e w1 ⟨rfl, hb1⟩)
      | (go_at_call 28; refine (c2.out _).mono ?_; rintro e w2 ⟨rfl, ht, hb2⟩))
    have hlt := ht.lt
    have hbb := hb1.trans (hb2.mono hb1.size)
    have hF := Holds.fresh w2
    go_loopw [] (fun wr => ∃ i acc, i ≤ rs.length ∧ Holds w2.heap.size w2.heap.size acc wr ∧ wr.heap[w2.heap.size + 1]? = some (.stringIter s (Utf.off rs i)) ∧ Tbl wr w1.heap.size ∧ Below w.heap.size w wr ∧ Hid (acc = ((rs.take i).map Key.nameR).flatten)) (fun wr => s.size - wr.iterPos (w2.heap.size + 1))
    case atStart =>
      refine ⟨0, [], Nat.zero_le _, hF.alloc _, ?_, (ht.alloc _).alloc _, (hbb.alloc hbb.size _).alloc (by simp; have := hbb.size; omega) _, Lib.hid (by simp)⟩
      rw [Utf.off_zero]
      have := World.iter_heap (w2.alloc (.cells #[.pointer none, .slice none 0 0] 48)) s 0
      simpa using this
    case round =>
      obtain ⟨i, acc, hi, hI, hit, htr, hbr, hacc⟩ := hrel
      have hsz : w2.heap.size + 1 < wr.heap.size := (Array.getElem?_eq_some_iff.1 hit).1
      have hlen : acc.length ≤ 7 * s.size := by rw [hacc.out]; exact hmost.out i
      rcases rune_or_end (rs := rs) i with ⟨r, hr⟩ | hend
      · obtain ⟨hdc, hp, hoff, hle, ho⟩ := Key.decode_rune s HD.out hr
        have hcp := Key.cp_le ho
        have hpos := Utf.one_pos ho
        have hnx : ∀ ty, (Instr.next (.pointer (some ⟨w2.heap.size + 1, 0, none⟩)) true ty).run Try.prog wr = _ := fun ty => Lib.run_next_any_at wr (w2.heap.size + 1) s _ ty hit hp
        rw [hdc] at hnx
        simp only [] at hnx
        rw [← hoff] at hnx
        have hit2 := Lib.iterAt_heap wr (w2.heap.size + 1) s _ (Utf.off rs (i + 1)) hit
        have hbr2 := Lib.below_iterAt hbr (k := w2.heap.size + 1) (by have := hbb.size; omega) s (Utf.off rs (i + 1))
        have htr2 := htr.iterAt s (Utf.off rs (i + 1)) (k := w2.heap.size + 1) (by omega)
        have hI2 := hI.iterAt hit (Utf.off rs (i + 1))
        have hsz2 := Lib.iterAt_size wr (w2.heap.size + 1) s (Utf.off rs (i + 1))
        have hlook := htr2.look hcp
        have Hr := Lib.hid hr
        have Hoff := Lib.hid hoff
        have hi1 : i + 1 ≤ rs.length := (List.getElem?_eq_some_iff.1 hr).1
        have hkey := Key.key_at hr HA.out
        have hnext := Key.names_next hr
        generalize hw2 : wr.iterAt (w2.heap.size + 1) s (Utf.off rs (i + 1)) = wi at *
        have hbw := hbb.size
        cases hn : Key.nm (Key.cp r) with
        | some l =>
          rw [hn] at hlook
          simp only [Option.isSome_some, Option.getD_some] at hlook
          have hl7 := (Key.nm_len hn).2
          have hk : Hid (acc ++ l = ((rs.take (i + 1)).map Key.nameR).flatten) := Lib.hid (by rw [hnext, Key.nameR_some hn, hacc.out])
          have hcell := (Blk.new wi 50 #[.string (bs l)]).cell 0
          have c3 := Lib.hid ((hI2.alloc (.cells #[.string (bs l)] 50)).write l (by omega) (by simp; omega))
          have hal := Below.heap_alloc wi (.cells #[.string (bs l)] 50) (w2.heap.size + 1) (by omega)
          rw [hit2] at hal
          have htr3 := htr2.alloc (.cells #[.string (bs l)] 50)
          have hbr3 := hbr2.alloc (by omega) (.cells #[.string (bs l)] 50)
          clear hn htr hr hdc hoff c1 c2 hw2 hkey hnext ho
          go_wp2_with (go_at_call 29; refine c3.out.mono ?_; rintro e W1 ⟨rfl, h1, b1, k1⟩)
          have hit3 := k1.iter hal (by omega)
          go_roundw
          case rel => exact ⟨i + 1, acc ++ l, hi1, h1, hit3, htr3.others k1 (by omega), hbr3.trans (b1.mono (by omega)), hk⟩
          case measure =>
            simp only [World.iterPos, hit3, hit]
            have := Hoff.out
            omega
        | none =>
          rw [hn] at hlook
          simp only [Option.isSome_none, Option.getD_none] at hlook
          have hsg : Key.sgn r = true := by simpa [Key.isKey, hn] using hkey
          have hk : Hid (acc ++ r = ((rs.take (i + 1)).map Key.nameR).flatten) := Lib.hid (by rw [hnext, Key.nameR_sgn hn hsg, hacc.out])
          have c3 := Lib.hid ((hI2.alloc (.cells #[.string (bs [])] 50)).rune ho (by omega) (by simp; omega))
          have hal := Below.heap_alloc wi (.cells #[.string (bs [])] 50) (w2.heap.size + 1) (by omega)
          rw [hit2] at hal
          have htr3 := htr2.alloc (.cells #[.string (bs [])] 50)
          have hbr3 := hbr2.alloc (by omega) (.cells #[.string (bs [])] 50)
          clear hn htr hr hdc hoff c1 c2 hw2 hkey hnext ho hsg
          go_wp2_with (go_at_call 30; refine c3.out.mono ?_; rintro e W1 ⟨rfl, h1, b1, k1⟩)
          have hit3 := k1.iter hal (by omega)
          go_roundw
          case rel => exact ⟨i + 1, acc ++ r, hi1, h1, hit3, htr3.others k1 (by omega), hbr3.trans (b1.mono (by omega)), hk⟩
          case measure =>
            simp only [World.iterPos, hit3, hit]
            have := Hoff.out
            omega
      · have hnx : ∀ ty, (Instr.next (.pointer (some ⟨w2.heap.size + 1, 0, none⟩)) true ty).run Try.prog wr = _ := fun ty => Lib.run_next_end_at wr (w2.heap.size + 1) s _ ty hit (by rw [off_len HD.out hend]; omega)
        have c3 := Lib.hid (hI.text (by omega))
        have hk : Hid (acc = Key.text s.data.toList) := Lib.hid (by rw [hacc.out, H.out, List.take_of_length_le hend])
        have hbw := hbb.size
        clear hlt htr c1 c2
        go_wp2_with (go_at_call 31; refine c3.out.mono ?_; rintro e W1 ⟨rfl, b1⟩)
        go_ret2
        exact ⟨by rw [H0.out, ← hk.out]; rfl, hbr.trans (b1.mono (by omega))⟩
  · have g : (Key.err s.data.toList != 0) = true := by rw [bne_iff_ne]; exact h0
    have H := Lib.hid (Key.text_no h0)
    generalize Key.err s.data.toList = n at *
    clear h0
    go_enter Try.func16, Try.ntmps16
    go_wp2_with (go_at_call 22; refine c1.out.mono ?_; rintro e w1 ⟨rfl, hb1⟩)
    go_ret2
    exact ⟨by rw [H.out]; rfl, hb1⟩
set_option maxRecDepth 100000 in
theorem key_Name (k : ByteArray) (hs : k.size ≤ 9223372036854775807) (w : World) :
    Calls Try.prog 11 #[.string k] w fun e w' => e = .returned (.string (bs (if Utf.one k.data.toList then Key.nameR k.data.toList else []))) ∧ Below w.heap.size w w' := by
  have hl : k.data.toList.length = k.size := by simp
  have c1 := Lib.hid (key_single k hs)
  cases ho : Utf.one k.data.toList with
  | false =>
    rw [ho] at c1
    go_enter Try.func11, Try.ntmps11
    go_wp2_with (go_at_call 21; refine (c1.out _).mono ?_; rintro e w1 ⟨rfl, rfl⟩)
    go_ret
    exact ⟨rfl, Below.refl _ _⟩
  | true =>
    have h4 := Utf.one_le ho
    have c2 := Lib.hid (key_Text k (by omega) w)
    have h1 : Key.text k.data.toList = Key.nameR k.data.toList := by
      unfold Key.text
      rw [Key.dec_single ho]
      simp only [List.all_cons, List.all_nil, Bool.and_true, List.map_cons, List.map_nil, List.flatten_cons, List.flatten_nil, List.append_nil]
      cases hk : Key.isKey k.data.toList with
      | true => rfl
      | false => exact ((Key.nameR_key ho).2 hk).symm
    rw [h1] at c2
    rw [ho] at c1
    simp only [if_true]
    generalize Key.nameR k.data.toList = nn at *
    generalize Key.err k.data.toList = er at *
    clear h1 ho
    go_enter Try.func11, Try.ntmps11
    go_wp2_with (first
      | (go_at_call 21; refine (c1.out _).mono ?_; rintro e w1 ⟨rfl, rfl⟩)
      | (go_at_call 16; refine c2.out.mono ?_; rintro e w1 ⟨rfl, hb⟩))
    go_ret
    exact ⟨rfl, hb⟩
end Go.Proofs.Ytpepdpcddcbfoaa
