/-
  The keys of a text, as the program tells them.
-/
import Derived.Test.YtpepdpcddcbfoaaKeyText
import Derived.Test.YtpepdpcddcbfoaaKeyNamed
namespace Go.Proofs.Ytpepdpcddcbfoaa
open Go.RowKit
namespace Key
open Utf
theorem take_join {s : List UInt8} {a b c : Nat} (h1 : a ≤ b) (h2 : b ≤ c) (h3 : c ≤ s.length) : (s.take c).drop a = (s.take b).drop a ++ (s.take c).drop b := by
  have e : s.take c = s.take b ++ (s.take c).drop b := by
    conv => lhs; rw [← List.take_append_drop b (s.take c)]
    rw [List.take_take, Nat.min_eq_left h2]
  conv => lhs; rw [e]
  rw [List.drop_append_of_le_length (by rw [List.length_take]; omega)]
theorem drop_rune {rs : List (List UInt8)} {i : Nat} {r : List UInt8} (h : rs[i]? = some r) : rs.drop i = r :: rs.drop (i + 1) := by
  have hi : i < rs.length := (List.getElem?_eq_some_iff.1 h).1
  have h1 : rs[i] = r := (List.getElem?_eq_some_iff.1 h).2
  rw [List.drop_eq_getElem_cons hi, h1]
/-- How long what stands in a bracket is. -/
def stLen : Option (List UInt8) → Nat | none => 0 | some p => p.length
/-- Behind i runes of a text: in which bracket, which keys are told, and their bytes. -/
structure PL (s : List UInt8) (rs : List (List UInt8)) (i : Nat) (st : Option (List UInt8)) (done : List (List UInt8)) (acc : List UInt8) : Prop where
  run : go none rs = (go st (rs.drop i)).map (done ++ ·)
  bytes : acc = done.flatten
  len : acc.length + stLen st ≤ off rs i
  piece : ∀ p, st = some p → (s.take (off rs i)).drop (off rs i - p.length) = p ∧ 0 < p.length
section
variable {s : List UInt8} {rs : List (List UInt8)} (hd : dec s = some rs) {i : Nat} {st : Option (List UInt8)} {done : List (List UInt8)} {acc : List UInt8}
theorem PL.start (s : List UInt8) (rs : List (List UInt8)) : PL s rs 0 none [] [] := ⟨by simp, rfl, by simp [stLen], fun p h => by cases h⟩
include hd in
theorem PL.lt (h : PL s rs i none done acc) (hr : rs[i]? = some [60]) : PL s rs (i + 1) (some [60]) done acc := by
  have hn := off_next hr
  have hp := off_piece hr
  rw [← (dec_some hd).2] at hp
  refine ⟨by rw [h.run, drop_rune hr, go_lt], h.bytes, ?_, ?_⟩
  · have := h.len; simp only [stLen, List.length_cons, List.length_nil] at this hn ⊢; omega
  · intro p e
    cases e
    refine ⟨?_, by simp⟩
    rw [show off rs (i + 1) - [(60 : UInt8)].length = off rs i by rw [hn]; simp]
    exact hp
theorem PL.sgn {r : List UInt8} (h : PL s rs i none done acc) (hr : rs[i]? = some r) (hne : r ≠ [60]) (hs : Key.sgn r = true) : PL s rs (i + 1) none (done ++ [r]) (acc ++ r) := by
  have hn := off_next hr
  refine ⟨?_, by rw [h.bytes]; simp, ?_, fun p h => by cases h⟩
  · rw [h.run, drop_rune hr, go_sgn _ hne hs]
    cases go none (rs.drop (i + 1)) <;> simp
  · have := h.len; simp only [stLen, List.length_append] at this ⊢; omega
theorem PL.bad {r : List UInt8} (h : PL s rs i none done acc) (hr : rs[i]? = some r) (hne : r ≠ [60]) (hs : Key.sgn r = false) : go none rs = none := by
  rw [h.run, drop_rune hr, go_bad _ hne hs]; rfl
theorem PL.gt {p : List UInt8} {c : Nat} (h : PL s rs i (some p) done acc) (hr : rs[i]? = some [62]) (hc : code (p ++ [62]) = some c) : PL s rs (i + 1) none (done ++ [[UInt8.ofNat c]]) (acc ++ [UInt8.ofNat c]) := by
  have hn := off_next hr
  have hp := (h.piece p rfl).2
  refine ⟨?_, by rw [h.bytes]; simp, ?_, fun p h => by cases h⟩
  · rw [h.run, drop_rune hr, go_gt _ hc]
    cases go none (rs.drop (i + 1)) <;> simp
  · have := h.len; simp only [stLen, List.length_append, List.length_cons, List.length_nil] at this hn ⊢; omega
theorem PL.no {p : List UInt8} (h : PL s rs i (some p) done acc) (hr : rs[i]? = some [62]) (hc : code (p ++ [62]) = none) : go none rs = none := by
  rw [h.run, drop_rune hr, go_none _ hc]; rfl
include hd in
theorem PL.more {p r : List UInt8} (h : PL s rs i (some p) done acc) (hr : rs[i]? = some r) (hne : r ≠ [62]) : PL s rs (i + 1) (some (p ++ r)) done acc := by
  have hn := off_next hr
  have hpr := off_piece hr
  have hle := off_in hd (i + 1)
  rw [← (dec_some hd).2] at hpr
  obtain ⟨h1, h2⟩ := h.piece p rfl
  have h3 := h.len
  simp only [stLen] at h3
  refine ⟨by rw [h.run, drop_rune hr, go_in _ _ hne], h.bytes, by simp only [stLen, List.length_append]; omega, ?_⟩
  intro q e
  cases e
  refine ⟨?_, by rw [List.length_append]; omega⟩
  rw [List.length_append, show off rs (i + 1) - (p.length + r.length) = off rs i - p.length by omega, take_join (b := off rs i) (by omega) (by omega) hle, h1, hpr]
theorem PL.open_ {p : List UInt8} (h : PL s rs i (some p) done acc) (hi : rs.length ≤ i) : go none rs = none := by
  rw [h.run, List.drop_of_length_le hi]; rfl
theorem PL.ok (h : PL s rs i none done acc) (hi : rs.length ≤ i) : go none rs = some done := by
  rw [h.run, List.drop_of_length_le hi, go_nil]; simp
include hd in
/-- The name in brackets that ends at the rune i. -/
theorem PL.name {p : List UInt8} (h : PL s rs i (some p) done acc) (hr : rs[i]? = some [62]) : (s.take (off rs i + 1)).drop (off rs i - p.length) = p ++ [62] := by
  have hn := off_next hr
  have hpr := off_piece hr
  have hle := off_in hd (i + 1)
  rw [← (dec_some hd).2] at hpr
  simp only [List.length_cons, List.length_nil, Nat.zero_add] at hn
  rw [hn] at hpr hle
  obtain ⟨h1, h2⟩ := h.piece p rfl
  rw [take_join (b := off rs i) (by omega) (by omega) hle, h1, hpr]
end
/-- The variable that says where a bracket began. -/
def fromV (st : Option (List UInt8)) (o : Nat) : Int := match st with | none => -1 | some p => (o : Int) - p.length
end Key
set_option maxHeartbeats 2000000 in
set_option maxRecDepth 100000 in
theorem key_Parse (s : ByteArray) (hs : s.size ≤ 1000000000000) (w : World) :
    Calls Try.prog 18 #[.string s] w fun e w' => e = .returned (.tuple #[.string (bs (Key.parseK s.data.toList)), .int .i64 (Key.parseE s.data.toList)]) ∧ Below w.heap.size w w' := by
  have hl : s.data.toList.length = s.size := by simp
  have c1 := Lib.hid (utf_Valid s (by omega))
  cases hd : Utf.dec s.data.toList with
  | none =>
    rw [Utf.valid_bad hd] at c1
    have H := Lib.hid (Key.parse_bad hd)
    clear hd
    go_enter Try.func18, Try.ntmps18
    go_wp2_with (go_at_call 32; refine (c1.out _).mono ?_; rintro e w1 ⟨rfl, rfl⟩)
    go_ret2
    exact ⟨by rw [H.out.1, H.out.2]; rfl, Below.refl _ _⟩
  | some rs =>
    rw [Utf.valid_ok hd] at c1
    have c2 := Lib.hid (key_named w)
    have HD := Lib.hid hd
    clear hd
    go_enter Try.func18, Try.ntmps18
    go_wp2_with (first
      | (go_at_call 32; refine (c1.out _).mono ?_; rintro e w1' ⟨rfl, rfl⟩)
      | (go_at_call 33; refine c2.out.mono ?_; rintro e w1 ⟨rfl, ht, hb1⟩))
    have hlt := ht.lt
    have hbw := hb1.size
    have hF := Holds.fresh w1
    go_loopw [6] (fun v wr => ∃ i st done acc q, v = .int .i64 q ∧ Hid (q = Key.fromV st (Utf.off rs i)) ∧ i ≤ rs.length ∧ Holds w1.heap.size w1.heap.size acc wr ∧ wr.heap[w1.heap.size + 1]? = some (.stringIter s (Utf.off rs i)) ∧ Inv wr w.heap.size ∧ Below w.heap.size w wr ∧ Hid (Key.PL s.data.toList rs i st done acc)) (fun _ wr => s.size - wr.iterPos (w1.heap.size + 1))
    case atStart =>
      refine ⟨0, none, [], [], -1, rfl, Lib.hid rfl, Nat.zero_le _, hF.alloc _, ?_, (ht.alloc _).alloc _, (hb1.alloc hb1.size _).alloc (by simp; omega) _, Lib.hid (Key.PL.start _ _)⟩
      rw [Utf.off_zero]
      have := World.iter_heap (w1.alloc (.cells #[.pointer none, .slice none 0 0] 48)) s 0
      simpa using this
    case round =>
      obtain ⟨i, st, done, acc, q, rfl, hq, hi, hI, hit, htr, hbr, hP⟩ := hrel
      have hsz : w1.heap.size + 1 < wr.heap.size := (Array.getElem?_eq_some_iff.1 hit).1
      have hlen : acc.length ≤ s.size := by have := hP.out.len; have := Utf.off_in HD.out i; omega
      rcases rune_or_end (rs := rs) i with ⟨r, hr⟩ | hend
      · obtain ⟨hdc, hp, hoff, hle, ho⟩ := Key.decode_rune s HD.out hr
        have hcp := Key.cp_le ho
        have hpos := Utf.one_pos ho
        have hnx : ∀ ty, (Instr.next (.pointer (some ⟨w1.heap.size + 1, 0, none⟩)) true ty).run Try.prog wr = _ := fun ty => Lib.run_next_any_at wr (w1.heap.size + 1) s _ ty hit hp
        rw [hdc] at hnx
        simp only [] at hnx
        rw [← hoff] at hnx
        have hit2 := Lib.iterAt_heap wr (w1.heap.size + 1) s _ (Utf.off rs (i + 1)) hit
        have hbr2 := Lib.below_iterAt hbr (k := w1.heap.size + 1) (by omega) s (Utf.off rs (i + 1))
        have htr2 := htr.iterAt s (Utf.off rs (i + 1)) (k := w1.heap.size + 1) (by omega)
        have hI2 := hI.iterAt hit (Utf.off rs (i + 1))
        have hsz2 := Lib.iterAt_size wr (w1.heap.size + 1) s (Utf.off rs (i + 1))
        have Hr := Lib.hid hr
        have Ho := Lib.hid ho
        have Hoff := Lib.hid hoff
        have hi1 : i + 1 ≤ rs.length := (List.getElem?_eq_some_iff.1 hr).1
        generalize hw2 : wr.iterAt (w1.heap.size + 1) s (Utf.off rs (i + 1)) = wi at *
        have hit2l : w1.heap.size < wi.heap.size := by omega
        have c3 := Lib.hid (fun w => key_sign_rune hcp w)
        clear hr hdc hw2 hsz2 hI htr hbr ho c1 c2
        have hmap := htr2.lt
        cases st with
        | none =>
          obtain rfl : q = -1 := hq.out
          by_cases h60 : r = [60]
          · subst h60
            have e60 : ((Key.cp [60] : Nat) : Int) = 60 := rfl
            rw [e60] at hnx
            have HP2 := Lib.hid (hP.out.lt HD.out Hr.out)
            have hq2 : Hid ((Utf.off rs i : Int) = Key.fromV (some [60]) (Utf.off rs (i + 1))) := Lib.hid (by rw [Hoff.out]; simp [Key.fromV])
            clear c3 e60 hP hq hoff
            go_wp2
            go_roundw
            case rel => exact ⟨i + 1, some [60], done, acc, _, rfl, hq2, hi1, hI2, hit2, htr2, hbr2, HP2⟩
            case measure =>
              simp only [World.iterPos, hit2, hit]
              have := Hoff.out
              simp only [List.length_cons, List.length_nil] at this
              omega
          · have hn60 : Key.cp r ≠ 60 := fun e => h60 ((Key.cp_small Ho.out 60 (by decide)).1 e)
            have g60 : ((Key.cp r : Int) == 60) = false := by rw [beq_eq_false_iff_ne]; omega
            have c4 := Lib.hid (hI2.rune Ho.out (by omega) (by omega))
            cases hsg : Key.sgn r with
            | true =>
              rw [hsg] at c3
              have HP2 := Lib.hid (hP.out.sgn Hr.out h60 hsg)
              clear hP hq hoff hsg h60 hn60
              generalize Key.cp r = n at *
              go_wp2_with (first
                | (go_at_call 24; refine (c3.out _).mono ?_; rintro e w2 ⟨rfl, rfl⟩)
                | (go_at_call 30; refine c4.out.mono ?_; rintro e W1 ⟨rfl, h1, b1, k1⟩))
              have hit3 := k1.iter hit2 (by omega)
              go_roundw
              case rel => exact ⟨i + 1, none, _, acc ++ r, -1, rfl, Lib.hid rfl, hi1, h1, hit3, htr2.others k1 (by omega), hbr2.trans (b1.mono (by omega)), HP2⟩
              case measure =>
                simp only [World.iterPos, hit3, hit]
                have := Hoff.out
                omega
            | false =>
              rw [hsg] at c3
              have H := Lib.hid (Key.parse_no HD.out (hP.out.bad Hr.out h60 hsg))
              clear hP hq hoff hsg h60 hn60 c4
              generalize Key.cp r = n at *
              go_wp2_with (go_at_call 24; refine (c3.out _).mono ?_; rintro e w2 ⟨rfl, rfl⟩)
              go_ret2
              exact ⟨by rw [H.out.1, H.out.2]; rfl, hbr2⟩
        | some p =>
          obtain ⟨f, hf⟩ : ∃ f : Nat, q = f ∧ f = Utf.off rs i - p.length ∧ p.length ≤ Utf.off rs i := by
            have h1 := hP.out.len
            simp only [Key.stLen] at h1
            exact ⟨Utf.off rs i - p.length, by rw [hq.out]; simp only [Key.fromV]; omega, rfl, by omega⟩
          obtain ⟨rfl, hf2, hf3⟩ := hf
          have Hf := Lib.hid hf2
          have hfi : f ≤ Utf.off rs i := by omega
          clear hf2 c3
          by_cases h62 : r = [62]
          · subst h62
            have e62 : ((Key.cp [62] : Nat) : Int) = 62 := rfl
            rw [e62] at hnx
            have hname := hP.out.name HD.out Hr.out
            have hs1 : Utf.off rs i + 1 ≤ s.size := by simp only [List.length_cons, List.length_nil] at hoff; omega
            have hext : (s.extract f (Utf.off rs i + 1)).data.toList = p ++ [62] := by
              rw [← hname, ← Hf.out, Lib.extract_eq]
              show (s.data.toList.drop f).take (Utf.off rs i + 1 - f) = _
              rw [List.drop_take]
            have hlook := htr2.look (s.extract f (Utf.off rs i + 1)) (by rw [ByteArray.size_extract]; unfold maxLen; omega)
            rw [hext] at hlook
            cases hc : Key.code (p ++ [62]) with
            | none =>
              rw [hc] at hlook
              simp only [Option.isSome_none, Option.getD_none] at hlook
              have H := Lib.hid (Key.parse_no HD.out (hP.out.no Hr.out hc))
              clear hP hq hoff hc hext hname e62 hf3
              go_wp2
              go_ret2
              exact ⟨by rw [H.out.1, H.out.2]; rfl, hbr2⟩
            | some c =>
              rw [hc] at hlook
              simp only [Option.isSome_some, Option.getD_some] at hlook
              have hc128 : c < 128 := by
                have h2 := Key.code_tab.1 hc
                simp only [Key.tab, List.mem_cons, Prod.mk.injEq, List.not_mem_nil, or_false] at h2
                omega
              have hcp1 : Key.cp [UInt8.ofNat c] = c := by simp only [Key.cp, UInt8.toNat_ofNat']; omega
              have c4 := Lib.hid (hI2.rune (r := [UInt8.ofNat c]) ((Utf.one1 _).2 (by rw [UInt8.toNat_ofNat']; omega)) (by omega) (by omega))
              rw [hcp1] at c4
              have HP2 := Lib.hid (hP.out.gt Hr.out hc)
              clear hP hq hoff hc hext hname e62 hf3 hcp1 hc128
              go_wp2_with (go_at_call 30; refine c4.out.mono ?_; rintro e W1 ⟨rfl, h1, b1, k1⟩)
              have hit3 := k1.iter hit2 (by omega)
              go_roundw
              case rel => exact ⟨i + 1, none, _, _, -1, rfl, Lib.hid rfl, hi1, h1, hit3, htr2.others k1 (by omega), hbr2.trans (b1.mono (by omega)), HP2⟩
              case measure =>
                simp only [World.iterPos, hit3, hit]
                have := Hoff.out
                simp only [List.length_cons, List.length_nil] at this
                omega
          · have hn62 : Key.cp r ≠ 62 := fun e => h62 ((Key.cp_small Ho.out 62 (by decide)).1 e)
            have g62 : ((Key.cp r : Int) == 62) = false := by rw [beq_eq_false_iff_ne]; omega
            have HP2 := Lib.hid (hP.out.more HD.out Hr.out h62)
            have hq2 : Hid ((f : Int) = Key.fromV (some (p ++ r)) (Utf.off rs (i + 1))) := Lib.hid (by
              have h1 := Hoff.out
              have h2 := Hf.out
              simp only [Key.fromV, List.length_append]
              omega)
            clear hP hq hoff h62 hn62 hf3
            generalize Key.cp r = n at *
            go_wp2
            go_roundw
            case rel => exact ⟨i + 1, some (p ++ r), done, acc, _, rfl, hq2, hi1, hI2, hit2, htr2, hbr2, HP2⟩
            case measure =>
              simp only [World.iterPos, hit2, hit]
              have := Hoff.out
              omega
      · have hnx : ∀ ty, (Instr.next (.pointer (some ⟨w1.heap.size + 1, 0, none⟩)) true ty).run Try.prog wr = _ := fun ty => Lib.run_next_end_at wr (w1.heap.size + 1) s _ ty hit (by rw [off_len HD.out hend]; omega)
        cases st with
        | none =>
          obtain rfl : q = -1 := hq.out
          have c3 := Lib.hid (hI.text (by omega))
          have H := Lib.hid (Key.parse_ok HD.out (hP.out.ok hend))
          have HB := Lib.hid hP.out.bytes
          clear hP hq c1 c2 hlt htr
          go_wp2_with (go_at_call 31; refine c3.out.mono ?_; rintro e W1 ⟨rfl, b1⟩)
          go_ret2
          exact ⟨by rw [H.out.1, H.out.2, ← HB.out]; rfl, hbr.trans (b1.mono (by omega))⟩
        | some p =>
          obtain ⟨f, rfl⟩ : ∃ f : Nat, q = f := by
            have h1 := hP.out.len
            simp only [Key.stLen] at h1
            exact ⟨Utf.off rs i - p.length, by rw [hq.out]; simp only [Key.fromV]; omega⟩
          have H := Lib.hid (Key.parse_no HD.out (hP.out.open_ hend))
          clear hP hq c1 c2 hlt htr
          go_wp2
          go_ret2
          exact ⟨by rw [H.out.1, H.out.2]; rfl, hbr⟩
end Go.Proofs.Ytpepdpcddcbfoaa
