/-
  The places of a text with the classes of the runes there, one by one: the iterator over them.
-/
import Derived.Test.YtjkcdmlbnfibgaaHop
import Derived.Test.YtjkcdmlbnfibgaaKey
import Derived.Test.YtjkcdmlbnfibgaaSeqList
import Derived.Test.YtjkcdmlbnfibgaaClassOf
import Derived.BigCall
import Derived.Lib.OthersKept
namespace Go.Proofs.Ytjkcdmlbnfibgaa
open Go.RowKit Go.Shelf
attribute [local go_sem] Oper.semAt_some
namespace Hop
/-- The function that tells classes, or great ones. -/
def tell (big : Bool) : Value := match big with | true => .func (.func 40) #[] #[] | false => .func (.func 39) #[] #[]
/-- What is handed on of a row. -/
abbrev encR (x : Nat × Nat) : Array Value := #[.int .i64 (x.1 : Nat), .int .i64 (x.2 : Nat)]
theorem kind_one {r : List UInt8} (h : Utf.one r = true) (big : Bool) : Class.kind r 0 big = Class.head r big := by
  have hd : Utf.dec r = some [r] := by
    have := Utf.dec_of (rs := [r]) (by simpa using h)
    simpa using this
  have h1 := Class.kind_at hd (i := 0) (by simp) big
  rw [Utf.off_zero] at h1
  rw [show ((0 : Nat) : Int) = 0 from rfl] at h1
  rw [h1]
  obtain ⟨a, t, rfl, _⟩ := Class.one_first h
  rfl
end Hop
theorem class_tell_plain (r : List UInt8) (h : Utf.one r = true) (w : World) :
    Calls Try.prog 39 #[.string (bs r), .int .i64 0] w fun e w' => e = .returned (.int .i64 (Class.head r false : Nat)) ∧ w = w' := by
  have hl : r.length ≤ 4 := Utf.one_le h
  have C := class_Of (bs r) 0 (by rw [bs_size]; omega) w
  rw [bs_toList, Hop.kind_one h] at C
  exact C
theorem class_tell_great (r : List UInt8) (h : Utf.one r = true) (w : World) :
    Calls Try.prog 40 #[.string (bs r), .int .i64 0] w fun e w' => e = .returned (.int .i64 (Class.head r true : Nat)) ∧ w = w' := by
  have hl : r.length ≤ 4 := Utf.one_le h
  have C := class_Big (bs r) 0 (by rw [bs_size]; omega) w
  rw [bs_toList, Hop.kind_one h] at C
  exact C
theorem hop_classes (s : ByteArray) (big : Bool) (w : World) :
    Calls Try.prog 29 #[.string s, .bool big] w fun e w' => e = .returned (.func (.func 41) #[] #[.pointer (some ⟨w.heap.size, 0, none⟩), .pointer (some ⟨w.heap.size + 1, 0, none⟩)]) ∧
      w'.heap.size = w.heap.size + 2 ∧ Boxed w' w.heap.size 9 (.string s) ∧ Boxed w' (w.heap.size + 1) 51 (Hop.tell big) ∧ Below w.heap.size w w' := by
  have hb := ((Below.refl w.heap.size w).alloc (Nat.le_refl _) (.cells #[.string s] 9)).alloc (by simp)
  have b1 := fun v => (Boxed.new w 9 (.string s)).alloc (.cells #[v] 51)
  have b2 := fun v => Boxed.new (w.alloc (.cells #[.string s] 9)) 51 v
  simp only [World.size_alloc] at b2
  have H := Lib.hid (And.intro hb (And.intro b1 b2))
  clear hb b1 b2
  cases big with
  | false =>
    go_enter Try.func29, Try.ntmps29
    go_wp2
    go_ret
    exact ⟨rfl, by simp, H.out.2.1 _, H.out.2.2 _, H.out.1 _⟩
  | true =>
    go_enter Try.func29, Try.ntmps29
    go_wp2
    go_ret
    exact ⟨rfl, by simp, H.out.2.1 _, H.out.2.2 _, H.out.1 _⟩
set_option maxHeartbeats 1000000 in
set_option maxRecDepth 100000 in
theorem hop_class_seq (n : Nat) (hn : 1 ≤ n) (tB oB : Nat) (s : ByteArray) (big : Bool) (hs : s.size ≤ 1000000000000) (w : World) (hT : Boxed w tB 9 (.string s)) (hO : Boxed w oB 51 (Hop.tell big)) :
    SeqList Fence.wide n Try.prog 41 #[.pointer (some ⟨tB, 0, none⟩), .pointer (some ⟨oB, 0, none⟩)] Hop.encR 0 (Stays 0 [tB, oB]) (Steps 0) (Hop.R s.data.toList big) w := by
  intro l J W hW hJ hY h0
  have hlt := hT.lt
  have hlo := hO.lt
  have bT : Boxed W tB 9 (.string s) := (hW.block tB hT.lt).trans hT
  have bO : Boxed W oB 51 (Hop.tell big) := (hW.block oB hO.lt).trans hO
  have hsz := hW.size
  refine callsIn_of_wp Try.func41 rfl trivial ?_ rfl
  simp only [Try.ntmps41, List.size_toArray, List.length_cons, List.length_nil, Nat.reduceAdd, Nat.reduceSub, Array.replicate_succ, Array.replicate_zero, List.push_toArray, List.append_toArray, List.nil_append, List.cons_append]
  have cv := Lib.hid (fun w => utf_Valid s (by omega) w)
  have cT := bT.cell
  cases hd : Utf.dec s.data.toList with
  | none =>
    rw [Utf.valid_bad hd] at cv
    have e0 := Hop.R_bad hd big
    rw [e0]
    clear hY e0 hd hsz hlt hlo
    gi_wp2_with (refine ⟨trivial, ?_⟩; gi_at_call 18; refine (callsIn_wide.2 (cv.out _)).mono ?_; rintro e w' ⟨rfl, rfl⟩)
    refine bodyPost_ret (results_none rfl _ _ _) rfl ?_
    exact ⟨⟨_, rfl⟩, h0⟩
  | some rs =>
    rw [Utf.valid_ok hd] at cv
    have HR := Lib.hid (Hop.R_ok hd big)
    have HD := Lib.hid hd
    clear hd
    have h0' : J ((Hop.R s.data.toList big).take 0) (W.alloc (.stringIter s 0)) := hJ _ _ _ h0 (Steps.alloc _ _ _ _)
    have bT1 := bT.alloc (.stringIter s 0)
    have bO1 := bO.alloc (.stringIter s 0)
    have hi0 : (W.alloc (.stringIter s 0)).heap[W.heap.size]? = some (.stringIter s (Utf.off rs 0)) := by rw [Utf.off_zero]; exact World.iter_heap W s 0
    have H0 := Lib.hid (And.intro h0' (And.intro bT1 (And.intro bO1 hi0)))
    have HL := Lib.hid (And.intro hlt (And.intro hlo hsz))
    clear h0' bT1 bO1 hi0 h0 bT bO hlt hlo hsz
    gi_wp2_with (refine ⟨trivial, ?_⟩; gi_at_call 18; refine (callsIn_wide.2 (cv.out _)).mono ?_; rintro e w' ⟨rfl, rfl⟩)
    gi_loopw [] (fun wr => ∃ i, i ≤ rs.length ∧ wr.heap[W.heap.size]? = some (.stringIter s (Utf.off rs i)) ∧ J ((Hop.R s.data.toList big).take i) wr ∧ Boxed wr tB 9 (.string s) ∧ Boxed wr oB 51 (Hop.tell big)) (fun wr => s.size - wr.iterPos W.heap.size)
    case atStart => exact ⟨0, Nat.zero_le _, H0.out.2.2.2, H0.out.1, H0.out.2.1, H0.out.2.2.1⟩
    case round =>
      obtain ⟨i, hi, hit, hj, bT, bO⟩ := hrel
      have hsz : W.heap.size < wr.heap.size := (Array.getElem?_eq_some_iff.1 hit).1
      rcases rune_or_end (rs := rs) i with ⟨r, hr⟩ | hend
      · obtain ⟨hdc, hp, hoff, hle, ho⟩ := Key.decode_rune s HD.out hr
        have hnx : ∀ ty, (Instr.next (.pointer (some ⟨W.heap.size, 0, none⟩)) true ty).run Try.prog wr = _ := fun ty => Lib.run_next_any_at wr W.heap.size s _ ty hit hp
        rw [hdc] at hnx
        simp only [] at hnx
        rw [← hoff] at hnx
        have hS : Steps 0 W.heap.size wr (wr.iterAt W.heap.size s (Utf.off rs (i + 1))) := Steps.iterAt _ (Nat.le_refl _) hit
        have hj2 := hJ _ _ _ hj hS
        have bT2 := hS.boxed (.inl (Nat.lt_of_lt_of_le HL.out.1 HL.out.2.2)) bT
        have bO2 := hS.boxed (.inl (Nat.lt_of_lt_of_le HL.out.2.1 HL.out.2.2)) bO
        have hit2 := Lib.iterAt_heap wr W.heap.size s _ (Utf.off rs (i + 1)) hit
        have hsz2 := Lib.iterAt_size wr W.heap.size s (Utf.off rs (i + 1))
        have hx : (Hop.R s.data.toList big).take (i + 1) = (Hop.R s.data.toList big).take i ++ [(Utf.off rs i, Class.head r big)] := by
          have := Hop.rows_take big 0 rs hr
          rw [Nat.zero_add] at this
          rw [HR.out]; exact this
        obtain ⟨fn, tmps, assign, body, hy, hR⟩ := hY _ _ _ hj2 (by rw [← hx]; exact List.take_prefix _ _) (by omega)
        rw [← hx] at hR
        have hlen := (List.getElem?_eq_some_iff.1 hr).1
        have hpos := Utf.one_pos ho
        have c0 := fun w => class_tell_plain r ho w
        have c1 := fun w => class_tell_great r ho w
        have hen := Key.utf8_cp ho
        have H := Lib.hid (And.intro hlen (And.intro hoff (And.intro hpos (And.intro hle (And.intro hit (And.intro hit2 (And.intro bT2 bO2)))))))
        clear hlen hoff hpos hit hit2 bT2 hx hr hdc hle ho hY hj hj2 hS hi bT bO hsz cT hsz2 H0
        dsimp only [Hop.encR] at hy
        generalize wr.iterAt W.heap.size s (Utf.off rs (i + 1)) = wi at *
        generalize Key.cp r = z at *
        cases big with
        | false =>
          have cO : wi.cell? ⟨oB, 0, none⟩ = some (.func (.func 39) #[] #[]) := bO2.cell
          clear c1 bO2
          have C := Lib.hid c0
          clear c0
          gi_wp2_with (refine ⟨trivial, ?_⟩; gi_at_call 39; refine (callsIn_wide.2 (C.out _)).mono ?_; rintro e w' ⟨rfl, rfl⟩)
          refine hR.mono ?_
          rintro e W3 ⟨rfl, hJ3, hk3⟩
          gi_wp2
          go_roundw
          case rel => exact ⟨i + 1, H.out.1, hk3.same _ _ H.out.2.2.2.2.2.1 (.inl ⟨Nat.le_refl _, rfl⟩), hJ3, hk3.boxed (.inr (by simp)) H.out.2.2.2.2.2.2.1, hk3.boxed (.inr (by simp)) H.out.2.2.2.2.2.2.2⟩
          case measure =>
            have h3 := hk3.same _ _ H.out.2.2.2.2.2.1 (.inl ⟨Nat.le_refl _, rfl⟩)
            simp only [World.iterPos, h3, H.out.2.2.2.2.1]
            have := H.out.2.1; have := H.out.2.2.1; have := H.out.2.2.2.1
            omega
        | true =>
          have cO : wi.cell? ⟨oB, 0, none⟩ = some (.func (.func 40) #[] #[]) := bO2.cell
          clear c0 bO2
          have C := Lib.hid c1
          clear c1
          gi_wp2_with (refine ⟨trivial, ?_⟩; gi_at_call 40; refine (callsIn_wide.2 (C.out _)).mono ?_; rintro e w' ⟨rfl, rfl⟩)
          refine hR.mono ?_
          rintro e W3 ⟨rfl, hJ3, hk3⟩
          gi_wp2
          go_roundw
          case rel => exact ⟨i + 1, H.out.1, hk3.same _ _ H.out.2.2.2.2.2.1 (.inl ⟨Nat.le_refl _, rfl⟩), hJ3, hk3.boxed (.inr (by simp)) H.out.2.2.2.2.2.2.1, hk3.boxed (.inr (by simp)) H.out.2.2.2.2.2.2.2⟩
          case measure =>
            have h3 := hk3.same _ _ H.out.2.2.2.2.2.1 (.inl ⟨Nat.le_refl _, rfl⟩)
            simp only [World.iterPos, h3, H.out.2.2.2.2.1]
            have := H.out.2.1; have := H.out.2.2.1; have := H.out.2.2.2.1
            omega
      · obtain rfl : i = rs.length := by omega
        have hnx : ∀ ty, (Instr.next (.pointer (some ⟨W.heap.size, 0, none⟩)) true ty).run Try.prog wr = _ := fun ty => Lib.run_next_end_at wr W.heap.size s _ ty hit (by rw [off_len HD.out hend]; omega)
        have hx : (Hop.R s.data.toList big) = (Hop.R s.data.toList big).take rs.length ++ [(s.size, 4)] := by
          have := Hop.rows_all big 0 rs
          rw [Nat.zero_add, off_len HD.out hend] at this
          rw [HR.out]; exact this
        obtain ⟨fn, tmps, assign, body, hy, hR⟩ := hY _ (s.size, 4) _ hj (by rw [← hx]; exact List.prefix_refl _) (by omega)
        rw [← hx] at hR
        have cT2 := bT.cell
        dsimp only [Hop.encR] at hy
        rw [show ((4 : Nat) : Int) = 4 from rfl] at hy
        clear hY hj hit hx cT H0 bT bO hsz hend hi
        gi_wp2
        refine hR.mono ?_
        rintro e W3 ⟨rfl, hJ3, hk3⟩
        gi_wp2
        go_end0
        exact ⟨⟨_, rfl⟩, hJ3⟩
end Go.Proofs.Ytjkcdmlbnfibgaa
