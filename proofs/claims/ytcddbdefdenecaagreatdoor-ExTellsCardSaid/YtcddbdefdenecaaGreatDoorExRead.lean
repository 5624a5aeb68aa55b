/-
  What stands behind a word of package ex, as its function reads it: nothing, a file's name or a number, perhaps.
-/
import Derived.Test.YtcddbdefdenecaaGreatDoorExWords
import Derived.Test.YtcddbdefdenecaaGreatDoorExNums
namespace Go.Proofs.YtcddbdefdenecaaGreatDoor
open Go.RowKit
open Ex (Ln)
namespace Ex
/-- What a word's function has read into the line in block p. -/
def ReadIs (p : Nat) (x : Ln × Int) (w : World) (e : Ending) (w' : World) : Prop := e = .returned (.int .i64 x.2) ∧ (x.2 = 0 → Blk w' p 24 x.1.cells) ∧ w.grownBy w' (some p)
theorem rest_one {l : Ln} {s : List UInt8} (h : s ≠ []) : rest l 1 s = rest l 2 s := by
  unfold rest
  by_cases h32 : s.head? = some 32 <;> simp [h, h32]
theorem rest_three {l : Ln} {s : List UInt8} (h : s ≠ []) : rest l 3 s = rest l 4 s := by
  unfold rest
  by_cases h32 : s.head? = some 32 <;> simp [h, h32]
theorem rest_void {l : Ln} {k : Nat} (h : k = 0 ∨ k = 1 ∨ k = 3) : rest l k [] = (l, 0) := by
  unfold rest
  rw [if_neg (by omega), if_pos rfl, if_neg (by omega)]
theorem rest_zero {l : Ln} {s : List UInt8} (h : s ≠ []) : rest l 0 s = (zero, 3) := by
  unfold rest
  rw [if_neg (by decide), if_neg h, if_pos (.inl rfl)]
theorem rest_blank {l : Ln} {k : Nat} {s : List UInt8} (hk : k = 2 ∨ k = 4) (h : s.head? ≠ some 32) : rest l k s = (zero, 3) := by
  unfold rest
  rw [if_neg (by omega)]
  by_cases hs : s = []
  · rw [if_pos hs, if_pos hk]
  · rw [if_neg hs, if_pos (.inr h)]
theorem rest_name {l : Ln} {s : List UInt8} (h : s.head? = some 32) : rest l 2 s = if isName s.tail = true then ({l with arg := s.tail}, 0) else (zero, 11) := by
  unfold rest
  rw [if_neg (by decide), if_neg (by rintro rfl; cases h), if_neg (by simp [h])]
  by_cases hn : isName s.tail = true
  · rw [if_pos hn, if_neg (by simp [hn]), if_neg (by simp)]
  · rw [if_neg hn, if_pos ⟨by decide, by simpa using hn⟩]
theorem rest_number {l : Ln} {s : List UInt8} (h : s.head? = some 32) : rest l 4 s = if decide (0 ≤ number s.tail) = true then ({l with arg := s.tail}, 0) else (zero, 3) := by
  unfold rest
  rw [if_neg (by decide), if_neg (by rintro rfl; cases h), if_neg (by simp [h]), if_neg (by simp)]
  by_cases hn : 0 ≤ number s.tail
  · rw [if_pos (decide_eq_true hn), if_neg (by omega)]
  · rw [if_neg (show ¬ (decide (0 ≤ number s.tail) = true) by simpa using hn), if_pos ⟨by decide, by omega⟩]
end Ex
set_option maxHeartbeats 1000000 in
set_option maxRecDepth 100000 in
theorem ex_nothing_void {l : Ln} {p : Nat} {w : World} (hp : Blk w p 24 l.cells) :
    Calls Tryz.prog 63 #[.string ⟨#[]⟩, .pointer (some ⟨p, 0, none⟩)] w (Ex.ReadIs p (l, 0) w) := by
  have HP := Lib.hid hp
  clear hp
  go_enter Tryz.func63, Tryz.ntmps63
  go_wp2
  go_ret
  exact ⟨rfl, fun _ => HP.out, gb_none _ (gb_below none (Below.refl _ _))⟩
set_option maxHeartbeats 1000000 in
set_option maxRecDepth 100000 in
theorem ex_nothing_more {s : ByteArray} (p : Nat) (h : s.data.toList ≠ []) (w : World) :
    Calls Tryz.prog 63 #[.string s, .pointer (some ⟨p, 0, none⟩)] w (Ex.ReadIs p (Ex.zero, 3) w) := by
  have h0 : s.toList.isEmpty = false := by rw [Lib.toList_data]; simpa using h
  clear h
  go_enter Tryz.func63, Tryz.ntmps63
  go_wp2
  go_ret
  exact ⟨rfl, (fun h => by cases h), gb_below _ (Below.refl _ _)⟩
theorem ex_nothing {s : ByteArray} {l : Ln} {p : Nat} {w : World} (hp : Blk w p 24 l.cells) :
    Calls Tryz.prog 63 #[.string s, .pointer (some ⟨p, 0, none⟩)] w (Ex.ReadIs p (Ex.rest l 0 s.data.toList) w) := by
  by_cases h : s.data.toList = []
  · rw [h, Ex.rest_void (.inl rfl)]
    have e : s = ⟨#[]⟩ := by rw [← bs_data s, h]; rfl
    subst e
    exact ex_nothing_void hp
  · rw [Ex.rest_zero h]
    exact ex_nothing_more p h w
set_option maxHeartbeats 1000000 in
set_option maxRecDepth 100000 in
theorem ex_name_blank {s : ByteArray} (p a b : Nat) (w : World) (h : s.data.toList.head? ≠ some 32) :
    Calls Tryz.prog 75 #[.string s, .pointer (some ⟨p, 0, none⟩), .pointer (some ⟨a, 0, none⟩), .pointer (some ⟨b, 0, none⟩)] w (Ex.ReadIs p (Ex.zero, 3) w) := by
  have C := Lib.hid (fun w => cut_miss h w)
  clear h
  go_enter Tryz.func75, Tryz.ntmps75
  go_wp2_with (go_at_call 36; refine (C.out _).mono ?_; rintro e w1 ⟨rfl, rfl⟩)
  go_ret
  exact ⟨rfl, (fun h => by cases h), gb_below _ (Below.refl _ _)⟩
set_option maxHeartbeats 1000000 in
set_option maxRecDepth 100000 in
theorem ex_name_wrong {s : ByteArray} (p : Nat) {a b : Nat} {w : World} (ha : Blk w a 31 #[.func (.func 8) #[] #[]]) (hb : Blk w b 25 #[.int .i64 11]) (h : s.data.toList.head? = some 32) (hn : (Ex.isName s.data.toList.tail) = false) :
    Calls Tryz.prog 75 #[.string s, .pointer (some ⟨p, 0, none⟩), .pointer (some ⟨a, 0, none⟩), .pointer (some ⟨b, 0, none⟩)] w (Ex.ReadIs p (Ex.zero, 11) w) := by
  have C := Lib.hid (fun w => cut_hit h w)
  have D := Lib.hid (fun w => ex_Name (bs s.data.toList.tail) w)
  rw [bs_toList, hn] at D
  generalize bs s.data.toList.tail = t at *
  have c0 : w.cell? ⟨a, 0, none⟩ = some (.func (.func 8) #[] #[]) := ha.cell 0
  have HB := Lib.hid hb
  clear h ha hn hb
  go_enter Tryz.func75, Tryz.ntmps75
  go_wp2_with (first
    | (go_at_call 36; refine (C.out _).mono ?_; rintro e w1 ⟨rfl, rfl⟩)
    | (go_at_call 8; refine (D.out _).mono ?_; rintro e w2 ⟨rfl, hb2⟩; have b0 := (HB.out.below hb2 HB.out.lt).cell 0; simp only [List.getElem?_toArray, List.getElem?_cons_zero] at b0))
  go_ret
  exact ⟨rfl, (fun h => by cases h), gb_below _ hb2⟩
set_option maxHeartbeats 1000000 in
set_option maxRecDepth 100000 in
theorem ex_name_ok {s : ByteArray} {l : Ln} {p a b : Nat} {w : World} (hp : Blk w p 24 l.cells) (ha : Blk w a 31 #[.func (.func 8) #[] #[]]) (hs : s.size ≤ 1000000000000) (h : s.data.toList.head? = some 32) (hn : (Ex.isName s.data.toList.tail) = true) :
    Calls Tryz.prog 75 #[.string s, .pointer (some ⟨p, 0, none⟩), .pointer (some ⟨a, 0, none⟩), .pointer (some ⟨b, 0, none⟩)] w (Ex.ReadIs p ({l with arg := s.data.toList.tail}, 0) w) := by
  have C := Lib.hid (fun w => cut_hit h w)
  have D := Lib.hid (fun w => ex_Name (bs s.data.toList.tail) w)
  rw [bs_toList, hn] at D
  have E := Lib.hid (fun w => str_clone (bs s.data.toList.tail) w (by rw [bs_size, List.length_tail, data_len]; omega))
  have HT : Hid (bs s.data.toList.tail = bs s.data.toList.tail) := rfl
  generalize hT : bs s.data.toList.tail = t at *
  have c0 : w.cell? ⟨a, 0, none⟩ = some (.func (.func 8) #[] #[]) := ha.cell 0
  have HP := Lib.hid hp
  have hT' := Lib.hid hT
  clear h hp ha hn HT hT
  go_enter Tryz.func75, Tryz.ntmps75
  go_wp2_with (first
    | (go_at_call 36; refine (C.out _).mono ?_; rintro e w1 ⟨rfl, rfl⟩)
    | (go_at_call 8; refine (D.out _).mono ?_; rintro e w2 ⟨rfl, hb2⟩)
    | (go_at_call 30; refine (E.out _).mono ?_; rintro e w3 ⟨rfl, hb3⟩; have W3 := hb2.trans (hb3.mono hb2.size); have P3 := HP.out.below W3 HP.out.lt; have p3 : w3.cell? ⟨p, 3, none⟩ = some (.string (bs l.arg)) := P3.cell 3; have f3 := P3.frozen 3; have PP := Lib.hid P3; clear P3 hb2 hb3))
  go_ret
  refine ⟨rfl, fun _ => ?_, gb_trans (gb_below _ W3) (gb_set _ p 3 _)⟩
  have := PP.out.set_ 3 (.string t)
  rw [← hT'.out] at this ⊢
  exact this
theorem ex_read_name {s : ByteArray} {l : Ln} {p : Nat} {w : World} {v : Value} (hs : s.size ≤ 1000000000000) (hp : Blk w p 24 l.cells) (hv : Ex.Kb w v 8 11) :
    ∃ a b : Nat, v = .func (.func 75) #[] #[.pointer (some ⟨a, 0, none⟩), .pointer (some ⟨b, 0, none⟩)] ∧ Calls Tryz.prog 75 #[.string s, .pointer (some ⟨p, 0, none⟩), .pointer (some ⟨a, 0, none⟩), .pointer (some ⟨b, 0, none⟩)] w (Ex.ReadIs p (Ex.rest l 2 s.data.toList) w) := by
  obtain ⟨a, b, e, h1, h2⟩ := hv
  refine ⟨a, b, e, ?_⟩
  by_cases h : s.data.toList.head? = some 32
  · rw [Ex.rest_name h]
    by_cases hn : (Ex.isName s.data.toList.tail) = true
    · rw [if_pos hn]; exact ex_name_ok hp h1 hs h hn
    · rw [if_neg hn]; exact ex_name_wrong p h1 h2 h (by simpa using hn)
  · rw [Ex.rest_blank (by decide) h]; exact ex_name_blank p a b w h
set_option maxHeartbeats 1000000 in
set_option maxRecDepth 100000 in
theorem ex_perhaps_name_void {l : Ln} {p a : Nat} {w : World} (hp : Blk w p 24 l.cells) :
    Calls Tryz.prog 76 #[.string ⟨#[]⟩, .pointer (some ⟨p, 0, none⟩), .pointer (some ⟨a, 0, none⟩)] w (Ex.ReadIs p (l, 0) w) := by
  have HP := Lib.hid hp
  clear hp
  go_enter Tryz.func76, Tryz.ntmps76
  go_wp2
  go_ret
  exact ⟨rfl, fun _ => HP.out, gb_below _ (Below.refl _ _)⟩
set_option maxHeartbeats 1000000 in
set_option maxRecDepth 100000 in
theorem ex_perhaps_name_more {s : ByteArray} {l : Ln} {p a : Nat} {u : Value} {w : World} (hs : s.size ≤ 1000000000000) (hp : Blk w p 24 l.cells) (ha : Blk w a 46 #[u]) (hu : Ex.Kb w u 8 11) (h : s.data.toList ≠ []) :
    Calls Tryz.prog 76 #[.string s, .pointer (some ⟨p, 0, none⟩), .pointer (some ⟨a, 0, none⟩)] w (Ex.ReadIs p (Ex.rest l 2 s.data.toList) w) := by
  obtain ⟨b, c, rfl, C⟩ := ex_read_name hs hp hu
  have C1 := Lib.hid C
  have c0 : w.cell? ⟨a, 0, none⟩ = some (.func (.func 75) #[] #[.pointer (some ⟨b, 0, none⟩), .pointer (some ⟨c, 0, none⟩)]) := ha.cell 0
  have h0 : s.toList.isEmpty = false := by rw [Lib.toList_data]; simpa using h
  generalize Ex.rest l 2 s.data.toList = x at *
  clear C hp ha hu h
  go_enter Tryz.func76, Tryz.ntmps76
  go_wp2_with (go_at_call 75; refine C1.out.mono ?_; rintro e w1 ⟨rfl, hx, hb⟩; have HX := Lib.hid hx; clear hx)
  go_ret
  exact ⟨rfl, HX.out, hb⟩
theorem ex_reads_name {s : ByteArray} {l : Ln} {p : Nat} {w : World} {v : Value} (hs : s.size ≤ 1000000000000) (hp : Blk w p 24 l.cells) (hv : Ex.Kp w v 8 11) :
    ∃ a : Nat, v = .func (.func 76) #[] #[.pointer (some ⟨a, 0, none⟩)] ∧ Calls Tryz.prog 76 #[.string s, .pointer (some ⟨p, 0, none⟩), .pointer (some ⟨a, 0, none⟩)] w (Ex.ReadIs p (Ex.rest l 1 s.data.toList) w) := by
  obtain ⟨a, u, e, h1, h2⟩ := hv
  refine ⟨a, e, ?_⟩
  by_cases h : s.data.toList = []
  · rw [h, Ex.rest_void (by decide)]
    have e : s = ⟨#[]⟩ := by rw [← bs_data s, h]; rfl
    subst e
    exact ex_perhaps_name_void hp
  · rw [Ex.rest_one h]; exact ex_perhaps_name_more hs hp h1 h2 h
set_option maxHeartbeats 1000000 in
set_option maxRecDepth 100000 in
theorem ex_number_blank {s : ByteArray} (p a b : Nat) (w : World) (h : s.data.toList.head? ≠ some 32) :
    Calls Tryz.prog 75 #[.string s, .pointer (some ⟨p, 0, none⟩), .pointer (some ⟨a, 0, none⟩), .pointer (some ⟨b, 0, none⟩)] w (Ex.ReadIs p (Ex.zero, 3) w) := by
  have C := Lib.hid (fun w => cut_miss h w)
  clear h
  go_enter Tryz.func75, Tryz.ntmps75
  go_wp2_with (go_at_call 36; refine (C.out _).mono ?_; rintro e w1 ⟨rfl, rfl⟩)
  go_ret
  exact ⟨rfl, (fun h => by cases h), gb_below _ (Below.refl _ _)⟩
set_option maxHeartbeats 1000000 in
set_option maxRecDepth 100000 in
theorem ex_number_wrong {s : ByteArray} (p : Nat) {a b : Nat} {w : World} (ha : Blk w a 31 #[.func (.func 62) #[] #[]]) (hb : Blk w b 25 #[.int .i64 3]) (h : s.data.toList.head? = some 32) (hn : (decide (0 ≤ Ex.number s.data.toList.tail)) = false) :
    Calls Tryz.prog 75 #[.string s, .pointer (some ⟨p, 0, none⟩), .pointer (some ⟨a, 0, none⟩), .pointer (some ⟨b, 0, none⟩)] w (Ex.ReadIs p (Ex.zero, 3) w) := by
  have C := Lib.hid (fun w => cut_hit h w)
  have D := Lib.hid (fun w => ex_number (bs s.data.toList.tail) w)
  rw [bs_toList, hn] at D
  generalize bs s.data.toList.tail = t at *
  have c0 : w.cell? ⟨a, 0, none⟩ = some (.func (.func 62) #[] #[]) := ha.cell 0
  have HB := Lib.hid hb
  clear h ha hn hb
  go_enter Tryz.func75, Tryz.ntmps75
  go_wp2_with (first
    | (go_at_call 36; refine (C.out _).mono ?_; rintro e w1 ⟨rfl, rfl⟩)
    | (go_at_call 62; refine (D.out _).mono ?_; rintro e w2 ⟨rfl, hb2⟩; have b0 := (HB.out.below hb2 HB.out.lt).cell 0; simp only [List.getElem?_toArray, List.getElem?_cons_zero] at b0))
  go_ret
  exact ⟨rfl, (fun h => by cases h), gb_below _ hb2⟩
set_option maxHeartbeats 1000000 in
set_option maxRecDepth 100000 in
theorem ex_number_ok {s : ByteArray} {l : Ln} {p a b : Nat} {w : World} (hp : Blk w p 24 l.cells) (ha : Blk w a 31 #[.func (.func 62) #[] #[]]) (hs : s.size ≤ 1000000000000) (h : s.data.toList.head? = some 32) (hn : (decide (0 ≤ Ex.number s.data.toList.tail)) = true) :
    Calls Tryz.prog 75 #[.string s, .pointer (some ⟨p, 0, none⟩), .pointer (some ⟨a, 0, none⟩), .pointer (some ⟨b, 0, none⟩)] w (Ex.ReadIs p ({l with arg := s.data.toList.tail}, 0) w) := by
  have C := Lib.hid (fun w => cut_hit h w)
  have D := Lib.hid (fun w => ex_number (bs s.data.toList.tail) w)
  rw [bs_toList, hn] at D
  have E := Lib.hid (fun w => str_clone (bs s.data.toList.tail) w (by rw [bs_size, List.length_tail, data_len]; omega))
  have HT : Hid (bs s.data.toList.tail = bs s.data.toList.tail) := rfl
  generalize hT : bs s.data.toList.tail = t at *
  have c0 : w.cell? ⟨a, 0, none⟩ = some (.func (.func 62) #[] #[]) := ha.cell 0
  have HP := Lib.hid hp
  have hT' := Lib.hid hT
  clear h hp ha hn HT hT
  go_enter Tryz.func75, Tryz.ntmps75
  go_wp2_with (first
    | (go_at_call 36; refine (C.out _).mono ?_; rintro e w1 ⟨rfl, rfl⟩)
    | (go_at_call 62; refine (D.out _).mono ?_; rintro e w2 ⟨rfl, hb2⟩)
    | (go_at_call 30; refine (E.out _).mono ?_; rintro e w3 ⟨rfl, hb3⟩; have W3 := hb2.trans (hb3.mono hb2.size); have P3 := HP.out.below W3 HP.out.lt; have p3 : w3.cell? ⟨p, 3, none⟩ = some (.string (bs l.arg)) := P3.cell 3; have f3 := P3.frozen 3; have PP := Lib.hid P3; clear P3 hb2 hb3))
  go_ret
  refine ⟨rfl, fun _ => ?_, gb_trans (gb_below _ W3) (gb_set _ p 3 _)⟩
  have := PP.out.set_ 3 (.string t)
  rw [← hT'.out] at this ⊢
  exact this
theorem ex_read_number {s : ByteArray} {l : Ln} {p : Nat} {w : World} {v : Value} (hs : s.size ≤ 1000000000000) (hp : Blk w p 24 l.cells) (hv : Ex.Kb w v 62 3) :
    ∃ a b : Nat, v = .func (.func 75) #[] #[.pointer (some ⟨a, 0, none⟩), .pointer (some ⟨b, 0, none⟩)] ∧ Calls Tryz.prog 75 #[.string s, .pointer (some ⟨p, 0, none⟩), .pointer (some ⟨a, 0, none⟩), .pointer (some ⟨b, 0, none⟩)] w (Ex.ReadIs p (Ex.rest l 4 s.data.toList) w) := by
  obtain ⟨a, b, e, h1, h2⟩ := hv
  refine ⟨a, b, e, ?_⟩
  by_cases h : s.data.toList.head? = some 32
  · rw [Ex.rest_number h]
    by_cases hn : (decide (0 ≤ Ex.number s.data.toList.tail)) = true
    · rw [if_pos hn]; exact ex_number_ok hp h1 hs h hn
    · rw [if_neg hn]; exact ex_number_wrong p h1 h2 h (by simpa using hn)
  · rw [Ex.rest_blank (by decide) h]; exact ex_number_blank p a b w h
set_option maxHeartbeats 1000000 in
set_option maxRecDepth 100000 in
theorem ex_perhaps_number_void {l : Ln} {p a : Nat} {w : World} (hp : Blk w p 24 l.cells) :
    Calls Tryz.prog 76 #[.string ⟨#[]⟩, .pointer (some ⟨p, 0, none⟩), .pointer (some ⟨a, 0, none⟩)] w (Ex.ReadIs p (l, 0) w) := by
  have HP := Lib.hid hp
  clear hp
  go_enter Tryz.func76, Tryz.ntmps76
  go_wp2
  go_ret
  exact ⟨rfl, fun _ => HP.out, gb_below _ (Below.refl _ _)⟩
set_option maxHeartbeats 1000000 in
set_option maxRecDepth 100000 in
theorem ex_perhaps_number_more {s : ByteArray} {l : Ln} {p a : Nat} {u : Value} {w : World} (hs : s.size ≤ 1000000000000) (hp : Blk w p 24 l.cells) (ha : Blk w a 46 #[u]) (hu : Ex.Kb w u 62 3) (h : s.data.toList ≠ []) :
    Calls Tryz.prog 76 #[.string s, .pointer (some ⟨p, 0, none⟩), .pointer (some ⟨a, 0, none⟩)] w (Ex.ReadIs p (Ex.rest l 4 s.data.toList) w) := by
  obtain ⟨b, c, rfl, C⟩ := ex_read_number hs hp hu
  have C1 := Lib.hid C
  have c0 : w.cell? ⟨a, 0, none⟩ = some (.func (.func 75) #[] #[.pointer (some ⟨b, 0, none⟩), .pointer (some ⟨c, 0, none⟩)]) := ha.cell 0
  have h0 : s.toList.isEmpty = false := by rw [Lib.toList_data]; simpa using h
  generalize Ex.rest l 4 s.data.toList = x at *
  clear C hp ha hu h
  go_enter Tryz.func76, Tryz.ntmps76
  go_wp2_with (go_at_call 75; refine C1.out.mono ?_; rintro e w1 ⟨rfl, hx, hb⟩; have HX := Lib.hid hx; clear hx)
  go_ret
  exact ⟨rfl, HX.out, hb⟩
theorem ex_reads_number {s : ByteArray} {l : Ln} {p : Nat} {w : World} {v : Value} (hs : s.size ≤ 1000000000000) (hp : Blk w p 24 l.cells) (hv : Ex.Kp w v 62 3) :
    ∃ a : Nat, v = .func (.func 76) #[] #[.pointer (some ⟨a, 0, none⟩)] ∧ Calls Tryz.prog 76 #[.string s, .pointer (some ⟨p, 0, none⟩), .pointer (some ⟨a, 0, none⟩)] w (Ex.ReadIs p (Ex.rest l 3 s.data.toList) w) := by
  obtain ⟨a, u, e, h1, h2⟩ := hv
  refine ⟨a, e, ?_⟩
  by_cases h : s.data.toList = []
  · rw [h, Ex.rest_void (by decide)]
    have e : s = ⟨#[]⟩ := by rw [← bs_data s, h]; rfl
    subst e
    exact ex_perhaps_number_void hp
  · rw [Ex.rest_three h]; exact ex_perhaps_number_more hs hp h1 h2 h
end Go.Proofs.YtcddbdefdenecaaGreatDoor
