/-
  'calamuslaw27.ExBack' answers true for every text, and for any numbers of lines.
-/
import Derived.Test.YtcddbdefdenecaaDoorExText
import Derived.Test.YtcddbdefdenecaaDoorExLines
import Derived.Test.YtcddbdefdenecaaDoorExLives
import Derived.Test.YtcddbdefdenecaaDoorExTabs
import Derived.Test.YtcddbdefdenecaaDoorFrame
import Derived.Test.YtcddbdefdenecaaDoorCards
import Derived.Test.YtcddbdefdenecaaDoorTie
import Derived.Lay
import Derived.SevenTiedAt
import Derived.MakeChecks
namespace Go.Proofs.YtcddbdefdenecaaDoor
open Go.RowKit Go.Shelf
open Ex (Ln)
theorem ex_told {l : Ln} (hF : I64 l.frm) (hT : I64 l.to) {t : List UInt8} {er : Int} (hz : (Ex.tellP l).length ≤ 1000000000) (h : Ex.textP l = (t, er)) {B : Nat} {w : World} (hp : Pow B w) (hB : B ≤ w.heap.size) :
    Calls Tryd.prog 6 #[.agg #[.int .i64 l.frm, .int .i64 l.to, .string (bs l.name), .string (bs l.arg), .string (bs l.pat), .string (bs l.rep), .bool l.all]] w fun e w' => e = .returned (.tuple #[.string (bs t), .int .i64 er]) ∧ Below w.heap.size w w' := by
  have := ex_Text l hF hT hz hp hB
  rw [h] at this
  exact this
theorem Ex.int_le {n : Int} (h : (Lit.int .i64 n).wf = true) : n ≤ 9223372036854775807 := by
  simp only [Lit.wf, Bool.and_eq_true, decide_eq_true_eq] at h
  exact h.2
theorem Ex.adr_i64 {a : Int} (h : Ex.Adr a) : I64 a := by unfold Ex.Adr at h; unfold I64; omega
set_option maxHeartbeats 2000000 in
set_option maxRecDepth 100000 in
theorem ex_back_long {s : ByteArray} {here count : Int} (hs : 500 < s.size) {w : World} :
    Calls Tryd.prog 3 #[.string s, .int .i64 here, .int .i64 count] w fun e w' => e = .returned (.bool true) ∧ Below w.heap.size w w' := by
  have LV := Lib.hid (fun w => ex_lives w)
  go_enter Tryd.func3, Tryd.ntmps3
  go_wp2_with (first
    | (go_at_call 4; refine (LV.out _).mono ?_; rintro e w5 ⟨rfl, hb5⟩))
  go_ret
  exact ⟨rfl, hb5⟩
set_option maxHeartbeats 2000000 in
set_option maxRecDepth 100000 in
theorem ex_back_bad {s : ByteArray} {here count : Int} (hs : s.size ≤ 500) {er : Int} (hP : Ex.parse s.data.toList = (Ex.zero, er)) (her : er ≠ 0) {w : World} :
    Calls Tryd.prog 3 #[.string s, .int .i64 here, .int .i64 count] w fun e w' => e = .returned (.bool true) ∧ Below w.heap.size w w' := by
  have LV := Lib.hid (fun w => ex_lives w)
  have PS : Hid (∀ w : World, Calls Tryd.prog 5 #[.string s] w fun e w' => e = .returned (.tuple #[.agg #[.int .i64 0, .int .i64 0, .string ⟨#[]⟩, .string ⟨#[]⟩, .string ⟨#[]⟩, .string ⟨#[]⟩, .bool false], .int .i64 er]) ∧ Below w.heap.size w w') := Lib.hid (fun w => ex_parsed (by omega) hP w)
  have E1 : ∀ w, (binOp .eql 24 (.agg #[.int .i64 0, .int .i64 0, .string ⟨#[]⟩, .string ⟨#[]⟩, .string ⟨#[]⟩, .string ⟨#[]⟩, .bool false]) (.agg #[.int .i64 0, .int .i64 0, .string ⟨#[]⟩, .string ⟨#[]⟩, .string ⟨#[]⟩, .string ⟨#[]⟩, .bool false])).run Tryd.prog w = .ok (.bool true) w := fun w => eql_ln Ex.zero Ex.zero w
  have ge : (er != 0) = true := by rw [bne_iff_ne]; exact her
  clear her hP
  go_enter Tryd.func3, Tryd.ntmps3
  go_wp2_with (first
    | (go_at_call 5; refine (PS.out _).mono ?_; rintro e w1 ⟨rfl, hb1⟩; have W1 := hb1.alloc hb1.size (.cells #[.int .i64 0, .int .i64 0, .string ⟨#[]⟩, .string ⟨#[]⟩, .string ⟨#[]⟩, .string ⟨#[]⟩, .bool false] 24))
    | (go_at_call 4; refine (LV.out _).mono ?_; rintro e w5 ⟨rfl, hb5⟩))
  go_ret
  exact ⟨rfl, Ex.below_on W1 hb5⟩
set_option maxHeartbeats 2000000 in
set_option maxRecDepth 100000 in
theorem ex_back_same_err {s : ByteArray} {here count : Int} (hs : s.size ≤ 500) (hc : count ≤ 9223372036854775807) {l : Ln} (hP : Ex.parse s.data.toList = (l, 0)) {t : ByteArray} (hPt : Ex.parse t.data.toList = (l, 0)) (ht : t.size ≤ 500) (hX : Ex.textP l = (t.data.toList, 0)) (hz : (Ex.tellP l).length ≤ 1000000000) (hts : t = s) {er : Int} (hL : Ex.lines l.frm l.to here count = (0, 0, er)) (her : er ≠ 0) {w : World} (hp : Pow w.heap.size w) :
    Calls Tryd.prog 3 #[.string s, .int .i64 here, .int .i64 count] w fun e w' => e = .returned (.bool true) ∧ Below w.heap.size w w' := by
  have LV := Lib.hid (fun w => ex_lives w)
  have I := Ex.parse_img hP
  have PS := Lib.hid (fun w => ex_parsed (s := s) (by omega) hP w)
  have PT := Lib.hid (fun w => ex_parsed (s := t) (by omega) hPt w)
  have TX : Hid (∀ u : World, Below w.heap.size w u → Calls Tryd.prog 6 #[.agg #[.int .i64 l.frm, .int .i64 l.to, .string (bs l.name), .string (bs l.arg), .string (bs l.pat), .string (bs l.rep), .bool l.all]] u fun e w' => e = .returned (.tuple #[.string t, .int .i64 0]) ∧ Below u.heap.size u w') := Lib.hid (fun u hu => ex_told (Ex.adr_i64 I.frm) (Ex.adr_i64 I.to) hz hX (hp.on hu) hu.size)
  have LN := Lib.hid (fun w => ex_Lines l here count hc hL w)
  have EN : ∀ w, (binOp .neq 24 (.agg #[.int .i64 l.frm, .int .i64 l.to, .string (bs l.name), .string (bs l.arg), .string (bs l.pat), .string (bs l.rep), .bool l.all]) (.agg #[.int .i64 l.frm, .int .i64 l.to, .string (bs l.name), .string (bs l.arg), .string (bs l.pat), .string (bs l.rep), .bool l.all])).run Tryd.prog w = .ok (.bool false) w := fun w => by rw [neq_ln]; simp
  have t1 : (t.toList == s.toList) = true := by rw [hts]; simp
  have t2 : (t.toList != s.toList) = false := by rw [hts]; simp
  have ge : (er != 0) = true := by rw [bne_iff_ne]; exact her
  clear I hP hPt hX hz hc hL hp hts her
  go_enter Tryd.func3, Tryd.ntmps3
  go_wp2_with (first
    | (go_at_call 5; (with_reducible refine (PS.out _).mono ?_); rintro e w1 ⟨rfl, hb1⟩; have W1 := hb1.alloc hb1.size (.cells #[.int .i64 l.frm, .int .i64 l.to, .string (bs l.name), .string (bs l.arg), .string (bs l.pat), .string (bs l.rep), .bool l.all] 24); have BL := Blk.new w1 24 #[.int .i64 l.frm, .int .i64 l.to, .string (bs l.name), .string (bs l.arg), .string (bs l.pat), .string (bs l.rep), .bool l.all]; have CELL := Lib.hid (fun (u : World) (h : Below (w1.alloc (.cells #[.int .i64 l.frm, .int .i64 l.to, .string (bs l.name), .string (bs l.arg), .string (bs l.pat), .string (bs l.rep), .bool l.all] 24)).heap.size (w1.alloc (.cells #[.int .i64 l.frm, .int .i64 l.to, .string (bs l.name), .string (bs l.arg), .string (bs l.pat), .string (bs l.rep), .bool l.all] 24)) u) => Ex.cells7 (BL.below h BL.lt)); have hX := Below.refl (w1.alloc (.cells #[.int .i64 l.frm, .int .i64 l.to, .string (bs l.name), .string (bs l.arg), .string (bs l.pat), .string (bs l.rep), .bool l.all] 24)).heap.size (w1.alloc (.cells #[.int .i64 l.frm, .int .i64 l.to, .string (bs l.name), .string (bs l.arg), .string (bs l.pat), .string (bs l.rep), .bool l.all] 24)); clear BL hb1 PS)
    | (go_at_call 6; (with_reducible refine (TX.out _ W1).mono ?_); rintro e w2 ⟨rfl, hb2⟩; replace hX := Ex.below_on hX hb2; clear hb2)
    | (go_at_call 5; (with_reducible refine (PT.out _).mono ?_); rintro e w3 ⟨rfl, hb3⟩; replace hX := Ex.al (Ex.below_on hX hb3) (.cells #[.int .i64 l.frm, .int .i64 l.to, .string (bs l.name), .string (bs l.arg), .string (bs l.pat), .string (bs l.rep), .bool l.all] 24); clear hb3; obtain ⟨d0, d1, d2, d3, d4, d5, d6⟩ := CELL.out _ hX)
    | (go_at_call 7; (with_reducible refine (LN.out _).mono ?_); rintro e w4 ⟨rfl, hb4⟩; replace hX := Ex.below_on hX hb4; clear hb4 d0 d1 d2 d3 d4 d5 d6; obtain ⟨d0, d1, d2, d3, d4, d5, d6⟩ := CELL.out _ hX)
    | (go_at_call 4; refine (LV.out _).mono ?_; rintro e w5 ⟨rfl, hb5⟩; replace hX := Ex.below_on hX hb5; clear hb5))
  go_ret
  exact ⟨rfl, W1.trans (hX.mono W1.size)⟩
set_option maxHeartbeats 2000000 in
set_option maxRecDepth 100000 in
theorem ex_back_same_from {s : ByteArray} {here count : Int} (hs : s.size ≤ 500) (hc : count ≤ 9223372036854775807) {l : Ln} (hP : Ex.parse s.data.toList = (l, 0)) {t : ByteArray} (hPt : Ex.parse t.data.toList = (l, 0)) (ht : t.size ≤ 500) (hX : Ex.textP l = (t.data.toList, 0)) (hz : (Ex.tellP l).length ≤ 1000000000) (hts : t = s) {x y : Int} (hL : Ex.lines l.frm l.to here count = (x, y, 0)) (q1 : 0 ≤ x) (q2 : x ≤ y) (q3 : y < count) (q4 : l.frm ≠ 0) {w : World} (hp : Pow w.heap.size w) :
    Calls Tryd.prog 3 #[.string s, .int .i64 here, .int .i64 count] w fun e w' => e = .returned (.bool true) ∧ Below w.heap.size w w' := by
  have LV := Lib.hid (fun w => ex_lives w)
  have I := Ex.parse_img hP
  have PS := Lib.hid (fun w => ex_parsed (s := s) (by omega) hP w)
  have PT := Lib.hid (fun w => ex_parsed (s := t) (by omega) hPt w)
  have TX : Hid (∀ u : World, Below w.heap.size w u → Calls Tryd.prog 6 #[.agg #[.int .i64 l.frm, .int .i64 l.to, .string (bs l.name), .string (bs l.arg), .string (bs l.pat), .string (bs l.rep), .bool l.all]] u fun e w' => e = .returned (.tuple #[.string t, .int .i64 0]) ∧ Below u.heap.size u w') := Lib.hid (fun u hu => ex_told (Ex.adr_i64 I.frm) (Ex.adr_i64 I.to) hz hX (hp.on hu) hu.size)
  have LN := Lib.hid (fun w => ex_Lines l here count hc hL w)
  have EN : ∀ w, (binOp .neq 24 (.agg #[.int .i64 l.frm, .int .i64 l.to, .string (bs l.name), .string (bs l.arg), .string (bs l.pat), .string (bs l.rep), .bool l.all]) (.agg #[.int .i64 l.frm, .int .i64 l.to, .string (bs l.name), .string (bs l.arg), .string (bs l.pat), .string (bs l.rep), .bool l.all])).run Tryd.prog w = .ok (.bool false) w := fun w => by rw [neq_ln]; simp
  have t1 : (t.toList == s.toList) = true := by rw [hts]; simp
  have t2 : (t.toList != s.toList) = false := by rw [hts]; simp
  have p1 : decide ((0 : Int) ≤ x) = true := decide_eq_true q1
  have p2 : decide (x ≤ y) = true := decide_eq_true q2
  have p3 : decide (y < count) = true := decide_eq_true q3
  have p4 : (l.frm != 0) = true := by rw [bne_iff_ne]; exact q4
  clear I hP hPt hX hz hc hL hp hts q1 q2 q3 q4
  go_enter Tryd.func3, Tryd.ntmps3
  go_wp2_with (first
    | (go_at_call 5; (with_reducible refine (PS.out _).mono ?_); rintro e w1 ⟨rfl, hb1⟩; have W1 := hb1.alloc hb1.size (.cells #[.int .i64 l.frm, .int .i64 l.to, .string (bs l.name), .string (bs l.arg), .string (bs l.pat), .string (bs l.rep), .bool l.all] 24); have BL := Blk.new w1 24 #[.int .i64 l.frm, .int .i64 l.to, .string (bs l.name), .string (bs l.arg), .string (bs l.pat), .string (bs l.rep), .bool l.all]; have CELL := Lib.hid (fun (u : World) (h : Below (w1.alloc (.cells #[.int .i64 l.frm, .int .i64 l.to, .string (bs l.name), .string (bs l.arg), .string (bs l.pat), .string (bs l.rep), .bool l.all] 24)).heap.size (w1.alloc (.cells #[.int .i64 l.frm, .int .i64 l.to, .string (bs l.name), .string (bs l.arg), .string (bs l.pat), .string (bs l.rep), .bool l.all] 24)) u) => Ex.cells7 (BL.below h BL.lt)); have hX := Below.refl (w1.alloc (.cells #[.int .i64 l.frm, .int .i64 l.to, .string (bs l.name), .string (bs l.arg), .string (bs l.pat), .string (bs l.rep), .bool l.all] 24)).heap.size (w1.alloc (.cells #[.int .i64 l.frm, .int .i64 l.to, .string (bs l.name), .string (bs l.arg), .string (bs l.pat), .string (bs l.rep), .bool l.all] 24)); clear BL hb1 PS)
    | (go_at_call 6; (with_reducible refine (TX.out _ W1).mono ?_); rintro e w2 ⟨rfl, hb2⟩; replace hX := Ex.below_on hX hb2; clear hb2)
    | (go_at_call 5; (with_reducible refine (PT.out _).mono ?_); rintro e w3 ⟨rfl, hb3⟩; replace hX := Ex.al (Ex.below_on hX hb3) (.cells #[.int .i64 l.frm, .int .i64 l.to, .string (bs l.name), .string (bs l.arg), .string (bs l.pat), .string (bs l.rep), .bool l.all] 24); clear hb3; obtain ⟨d0, d1, d2, d3, d4, d5, d6⟩ := CELL.out _ hX)
    | (go_at_call 7; (with_reducible refine (LN.out _).mono ?_); rintro e w4 ⟨rfl, hb4⟩; replace hX := Ex.below_on hX hb4; clear hb4 d0 d1 d2 d3 d4 d5 d6; obtain ⟨d0, d1, d2, d3, d4, d5, d6⟩ := CELL.out _ hX)
    | (go_at_call 4; refine (LV.out _).mono ?_; rintro e w5 ⟨rfl, hb5⟩; replace hX := Ex.below_on hX hb5; clear hb5))
  go_ret
  exact ⟨rfl, W1.trans (hX.mono W1.size)⟩
set_option maxHeartbeats 2000000 in
set_option maxRecDepth 100000 in
theorem ex_back_same_here {s : ByteArray} {here count : Int} (hs : s.size ≤ 500) (hc : count ≤ 9223372036854775807) {l : Ln} (hP : Ex.parse s.data.toList = (l, 0)) {t : ByteArray} (hPt : Ex.parse t.data.toList = (l, 0)) (ht : t.size ≤ 500) (hX : Ex.textP l = (t.data.toList, 0)) (hz : (Ex.tellP l).length ≤ 1000000000) (hts : t = s) (hL : Ex.lines l.frm l.to here count = (here, here, 0)) (q1 : 0 ≤ here) (q3 : here < count) (q4 : l.frm = 0) {w : World} (hp : Pow w.heap.size w) :
    Calls Tryd.prog 3 #[.string s, .int .i64 here, .int .i64 count] w fun e w' => e = .returned (.bool true) ∧ Below w.heap.size w w' := by
  have LV := Lib.hid (fun w => ex_lives w)
  have I := Ex.parse_img hP
  have PS := Lib.hid (fun w => ex_parsed (s := s) (by omega) hP w)
  have PT := Lib.hid (fun w => ex_parsed (s := t) (by omega) hPt w)
  have TX : Hid (∀ u : World, Below w.heap.size w u → Calls Tryd.prog 6 #[.agg #[.int .i64 l.frm, .int .i64 l.to, .string (bs l.name), .string (bs l.arg), .string (bs l.pat), .string (bs l.rep), .bool l.all]] u fun e w' => e = .returned (.tuple #[.string t, .int .i64 0]) ∧ Below u.heap.size u w') := Lib.hid (fun u hu => ex_told (Ex.adr_i64 I.frm) (Ex.adr_i64 I.to) hz hX (hp.on hu) hu.size)
  have LN := Lib.hid (fun w => ex_Lines l here count hc hL w)
  have EN : ∀ w, (binOp .neq 24 (.agg #[.int .i64 l.frm, .int .i64 l.to, .string (bs l.name), .string (bs l.arg), .string (bs l.pat), .string (bs l.rep), .bool l.all]) (.agg #[.int .i64 l.frm, .int .i64 l.to, .string (bs l.name), .string (bs l.arg), .string (bs l.pat), .string (bs l.rep), .bool l.all])).run Tryd.prog w = .ok (.bool false) w := fun w => by rw [neq_ln]; simp
  have t1 : (t.toList == s.toList) = true := by rw [hts]; simp
  have t2 : (t.toList != s.toList) = false := by rw [hts]; simp
  have p1 : decide ((0 : Int) ≤ here) = true := decide_eq_true q1
  have p3 : decide (here < count) = true := decide_eq_true q3
  have p4 : (l.frm != 0) = false := by simp [q4]
  clear I hP hPt hX hz hc hL hp hts q1 q3 q4
  go_enter Tryd.func3, Tryd.ntmps3
  go_wp2_with (first
    | (go_at_call 5; (with_reducible refine (PS.out _).mono ?_); rintro e w1 ⟨rfl, hb1⟩; have W1 := hb1.alloc hb1.size (.cells #[.int .i64 l.frm, .int .i64 l.to, .string (bs l.name), .string (bs l.arg), .string (bs l.pat), .string (bs l.rep), .bool l.all] 24); have BL := Blk.new w1 24 #[.int .i64 l.frm, .int .i64 l.to, .string (bs l.name), .string (bs l.arg), .string (bs l.pat), .string (bs l.rep), .bool l.all]; have CELL := Lib.hid (fun (u : World) (h : Below (w1.alloc (.cells #[.int .i64 l.frm, .int .i64 l.to, .string (bs l.name), .string (bs l.arg), .string (bs l.pat), .string (bs l.rep), .bool l.all] 24)).heap.size (w1.alloc (.cells #[.int .i64 l.frm, .int .i64 l.to, .string (bs l.name), .string (bs l.arg), .string (bs l.pat), .string (bs l.rep), .bool l.all] 24)) u) => Ex.cells7 (BL.below h BL.lt)); have hX := Below.refl (w1.alloc (.cells #[.int .i64 l.frm, .int .i64 l.to, .string (bs l.name), .string (bs l.arg), .string (bs l.pat), .string (bs l.rep), .bool l.all] 24)).heap.size (w1.alloc (.cells #[.int .i64 l.frm, .int .i64 l.to, .string (bs l.name), .string (bs l.arg), .string (bs l.pat), .string (bs l.rep), .bool l.all] 24)); clear BL hb1 PS)
    | (go_at_call 6; (with_reducible refine (TX.out _ W1).mono ?_); rintro e w2 ⟨rfl, hb2⟩; replace hX := Ex.below_on hX hb2; clear hb2)
    | (go_at_call 5; (with_reducible refine (PT.out _).mono ?_); rintro e w3 ⟨rfl, hb3⟩; replace hX := Ex.al (Ex.below_on hX hb3) (.cells #[.int .i64 l.frm, .int .i64 l.to, .string (bs l.name), .string (bs l.arg), .string (bs l.pat), .string (bs l.rep), .bool l.all] 24); clear hb3; obtain ⟨d0, d1, d2, d3, d4, d5, d6⟩ := CELL.out _ hX)
    | (go_at_call 7; (with_reducible refine (LN.out _).mono ?_); rintro e w4 ⟨rfl, hb4⟩; replace hX := Ex.below_on hX hb4; clear hb4 d0 d1 d2 d3 d4 d5 d6; obtain ⟨d0, d1, d2, d3, d4, d5, d6⟩ := CELL.out _ hX)
    | (go_at_call 4; refine (LV.out _).mono ?_; rintro e w5 ⟨rfl, hb5⟩; replace hX := Ex.below_on hX hb5; clear hb5))
  go_ret
  exact ⟨rfl, W1.trans (hX.mono W1.size)⟩
set_option maxHeartbeats 2000000 in
set_option maxRecDepth 100000 in
theorem ex_back_other_err {s : ByteArray} {here count : Int} (hs : s.size ≤ 500) (hc : count ≤ 9223372036854775807) {l : Ln} (hP : Ex.parse s.data.toList = (l, 0)) {t : ByteArray} (hPt : Ex.parse t.data.toList = (l, 0)) (ht : t.size ≤ 500) (hX : Ex.textP l = (t.data.toList, 0)) (hz : (Ex.tellP l).length ≤ 1000000000) (hts : t ≠ s) (h3 : 3 ≤ s.size) (e3 : s.extract 0 3 = ⟨#[49, 44, 36]⟩) (e4 : t = ⟨#[37]⟩ ++ s.extract 3 s.size) {er : Int} (hL : Ex.lines l.frm l.to here count = (0, 0, er)) (her : er ≠ 0) {w : World} (hp : Pow w.heap.size w) :
    Calls Tryd.prog 3 #[.string s, .int .i64 here, .int .i64 count] w fun e w' => e = .returned (.bool true) ∧ Below w.heap.size w w' := by
  have LV := Lib.hid (fun w => ex_lives w)
  have I := Ex.parse_img hP
  have PS := Lib.hid (fun w => ex_parsed (s := s) (by omega) hP w)
  have PT := Lib.hid (fun w => ex_parsed (s := t) (by omega) hPt w)
  have TX : Hid (∀ u : World, Below w.heap.size w u → Calls Tryd.prog 6 #[.agg #[.int .i64 l.frm, .int .i64 l.to, .string (bs l.name), .string (bs l.arg), .string (bs l.pat), .string (bs l.rep), .bool l.all]] u fun e w' => e = .returned (.tuple #[.string t, .int .i64 0]) ∧ Below u.heap.size u w') := Lib.hid (fun u hu => ex_told (Ex.adr_i64 I.frm) (Ex.adr_i64 I.to) hz hX (hp.on hu) hu.size)
  have LN := Lib.hid (fun w => ex_Lines l here count hc hL w)
  have EN : ∀ w, (binOp .neq 24 (.agg #[.int .i64 l.frm, .int .i64 l.to, .string (bs l.name), .string (bs l.arg), .string (bs l.pat), .string (bs l.rep), .bool l.all]) (.agg #[.int .i64 l.frm, .int .i64 l.to, .string (bs l.name), .string (bs l.arg), .string (bs l.pat), .string (bs l.rep), .bool l.all])).run Tryd.prog w = .ok (.bool false) w := fun w => by rw [neq_ln]; simp
  have hne : t.toList ≠ s.toList := fun e => hts (by rw [Lib.toList_data, Lib.toList_data] at e; rw [← bs_data t, e]; rfl)
  have t1 : (t.toList == s.toList) = false := by rw [beq_eq_false_iff_ne]; exact hne
  have t2 : (t.toList != s.toList) = true := by rw [bne_iff_ne]; exact hne
  have g3 : decide ((s.size : Int) < 3) = false := by rw [decide_eq_false_iff_not]; omega
  have t3 : ((s.extract 0 3).toList == [49, 44, 36]) = true := by rw [e3, Lib.toList_data]; rfl
  have t4 : ((s.extract 0 3).toList != [49, 44, 36]) = false := by rw [e3, Lib.toList_data]; rfl
  have hq : (s.extract 3 s.size).size = s.size - 3 := by rw [ByteArray.size_extract]; omega
  have k1 : ¬ 9223372036854775807 < 1 + (s.extract 3 s.size).size := by omega
  have k2 : ¬ 9223372036854775807 < 1 + (s.size - 3) := by omega
  have t5 : (t.toList == (⟨#[37]⟩ ++ s.extract 3 s.size : ByteArray).toList) = true := by rw [← e4]; simp
  have t6 : (t.toList != (⟨#[37]⟩ ++ s.extract 3 s.size : ByteArray).toList) = false := by rw [← e4]; simp
  have ge : (er != 0) = true := by rw [bne_iff_ne]; exact her
  clear I hP hPt hX hz hc hL hp hts hne e3 e4 hq her
  go_enter Tryd.func3, Tryd.ntmps3
  go_wp2_with (first
    | (go_at_call 5; (with_reducible refine (PS.out _).mono ?_); rintro e w1 ⟨rfl, hb1⟩; have W1 := hb1.alloc hb1.size (.cells #[.int .i64 l.frm, .int .i64 l.to, .string (bs l.name), .string (bs l.arg), .string (bs l.pat), .string (bs l.rep), .bool l.all] 24); have BL := Blk.new w1 24 #[.int .i64 l.frm, .int .i64 l.to, .string (bs l.name), .string (bs l.arg), .string (bs l.pat), .string (bs l.rep), .bool l.all]; have CELL := Lib.hid (fun (u : World) (h : Below (w1.alloc (.cells #[.int .i64 l.frm, .int .i64 l.to, .string (bs l.name), .string (bs l.arg), .string (bs l.pat), .string (bs l.rep), .bool l.all] 24)).heap.size (w1.alloc (.cells #[.int .i64 l.frm, .int .i64 l.to, .string (bs l.name), .string (bs l.arg), .string (bs l.pat), .string (bs l.rep), .bool l.all] 24)) u) => Ex.cells7 (BL.below h BL.lt)); have hX := Below.refl (w1.alloc (.cells #[.int .i64 l.frm, .int .i64 l.to, .string (bs l.name), .string (bs l.arg), .string (bs l.pat), .string (bs l.rep), .bool l.all] 24)).heap.size (w1.alloc (.cells #[.int .i64 l.frm, .int .i64 l.to, .string (bs l.name), .string (bs l.arg), .string (bs l.pat), .string (bs l.rep), .bool l.all] 24)); clear BL hb1 PS)
    | (go_at_call 6; (with_reducible refine (TX.out _ W1).mono ?_); rintro e w2 ⟨rfl, hb2⟩; replace hX := Ex.below_on hX hb2; clear hb2)
    | (go_at_call 5; (with_reducible refine (PT.out _).mono ?_); rintro e w3 ⟨rfl, hb3⟩; replace hX := Ex.al (Ex.below_on hX hb3) (.cells #[.int .i64 l.frm, .int .i64 l.to, .string (bs l.name), .string (bs l.arg), .string (bs l.pat), .string (bs l.rep), .bool l.all] 24); clear hb3; obtain ⟨d0, d1, d2, d3, d4, d5, d6⟩ := CELL.out _ hX)
    | (go_at_call 7; (with_reducible refine (LN.out _).mono ?_); rintro e w4 ⟨rfl, hb4⟩; replace hX := Ex.below_on hX hb4; clear hb4 d0 d1 d2 d3 d4 d5 d6; obtain ⟨d0, d1, d2, d3, d4, d5, d6⟩ := CELL.out _ hX)
    | (go_at_call 4; refine (LV.out _).mono ?_; rintro e w5 ⟨rfl, hb5⟩; replace hX := Ex.below_on hX hb5; clear hb5))
  go_ret
  exact ⟨rfl, W1.trans (hX.mono W1.size)⟩
set_option maxHeartbeats 2000000 in
set_option maxRecDepth 100000 in
theorem ex_back_other_from {s : ByteArray} {here count : Int} (hs : s.size ≤ 500) (hc : count ≤ 9223372036854775807) {l : Ln} (hP : Ex.parse s.data.toList = (l, 0)) {t : ByteArray} (hPt : Ex.parse t.data.toList = (l, 0)) (ht : t.size ≤ 500) (hX : Ex.textP l = (t.data.toList, 0)) (hz : (Ex.tellP l).length ≤ 1000000000) (hts : t ≠ s) (h3 : 3 ≤ s.size) (e3 : s.extract 0 3 = ⟨#[49, 44, 36]⟩) (e4 : t = ⟨#[37]⟩ ++ s.extract 3 s.size) {x y : Int} (hL : Ex.lines l.frm l.to here count = (x, y, 0)) (q1 : 0 ≤ x) (q2 : x ≤ y) (q3 : y < count) (q4 : l.frm ≠ 0) {w : World} (hp : Pow w.heap.size w) :
    Calls Tryd.prog 3 #[.string s, .int .i64 here, .int .i64 count] w fun e w' => e = .returned (.bool true) ∧ Below w.heap.size w w' := by
  have LV := Lib.hid (fun w => ex_lives w)
  have I := Ex.parse_img hP
  have PS := Lib.hid (fun w => ex_parsed (s := s) (by omega) hP w)
  have PT := Lib.hid (fun w => ex_parsed (s := t) (by omega) hPt w)
  have TX : Hid (∀ u : World, Below w.heap.size w u → Calls Tryd.prog 6 #[.agg #[.int .i64 l.frm, .int .i64 l.to, .string (bs l.name), .string (bs l.arg), .string (bs l.pat), .string (bs l.rep), .bool l.all]] u fun e w' => e = .returned (.tuple #[.string t, .int .i64 0]) ∧ Below u.heap.size u w') := Lib.hid (fun u hu => ex_told (Ex.adr_i64 I.frm) (Ex.adr_i64 I.to) hz hX (hp.on hu) hu.size)
  have LN := Lib.hid (fun w => ex_Lines l here count hc hL w)
  have EN : ∀ w, (binOp .neq 24 (.agg #[.int .i64 l.frm, .int .i64 l.to, .string (bs l.name), .string (bs l.arg), .string (bs l.pat), .string (bs l.rep), .bool l.all]) (.agg #[.int .i64 l.frm, .int .i64 l.to, .string (bs l.name), .string (bs l.arg), .string (bs l.pat), .string (bs l.rep), .bool l.all])).run Tryd.prog w = .ok (.bool false) w := fun w => by rw [neq_ln]; simp
  have hne : t.toList ≠ s.toList := fun e => hts (by rw [Lib.toList_data, Lib.toList_data] at e; rw [← bs_data t, e]; rfl)
  have t1 : (t.toList == s.toList) = false := by rw [beq_eq_false_iff_ne]; exact hne
  have t2 : (t.toList != s.toList) = true := by rw [bne_iff_ne]; exact hne
  have g3 : decide ((s.size : Int) < 3) = false := by rw [decide_eq_false_iff_not]; omega
  have t3 : ((s.extract 0 3).toList == [49, 44, 36]) = true := by rw [e3, Lib.toList_data]; rfl
  have t4 : ((s.extract 0 3).toList != [49, 44, 36]) = false := by rw [e3, Lib.toList_data]; rfl
  have hq : (s.extract 3 s.size).size = s.size - 3 := by rw [ByteArray.size_extract]; omega
  have k1 : ¬ 9223372036854775807 < 1 + (s.extract 3 s.size).size := by omega
  have k2 : ¬ 9223372036854775807 < 1 + (s.size - 3) := by omega
  have t5 : (t.toList == (⟨#[37]⟩ ++ s.extract 3 s.size : ByteArray).toList) = true := by rw [← e4]; simp
  have t6 : (t.toList != (⟨#[37]⟩ ++ s.extract 3 s.size : ByteArray).toList) = false := by rw [← e4]; simp
  have p1 : decide ((0 : Int) ≤ x) = true := decide_eq_true q1
  have p2 : decide (x ≤ y) = true := decide_eq_true q2
  have p3 : decide (y < count) = true := decide_eq_true q3
  have p4 : (l.frm != 0) = true := by rw [bne_iff_ne]; exact q4
  clear I hP hPt hX hz hc hL hp hts hne e3 e4 hq q1 q2 q3 q4
  go_enter Tryd.func3, Tryd.ntmps3
  go_wp2_with (first
    | (go_at_call 5; (with_reducible refine (PS.out _).mono ?_); rintro e w1 ⟨rfl, hb1⟩; have W1 := hb1.alloc hb1.size (.cells #[.int .i64 l.frm, .int .i64 l.to, .string (bs l.name), .string (bs l.arg), .string (bs l.pat), .string (bs l.rep), .bool l.all] 24); have BL := Blk.new w1 24 #[.int .i64 l.frm, .int .i64 l.to, .string (bs l.name), .string (bs l.arg), .string (bs l.pat), .string (bs l.rep), .bool l.all]; have CELL := Lib.hid (fun (u : World) (h : Below (w1.alloc (.cells #[.int .i64 l.frm, .int .i64 l.to, .string (bs l.name), .string (bs l.arg), .string (bs l.pat), .string (bs l.rep), .bool l.all] 24)).heap.size (w1.alloc (.cells #[.int .i64 l.frm, .int .i64 l.to, .string (bs l.name), .string (bs l.arg), .string (bs l.pat), .string (bs l.rep), .bool l.all] 24)) u) => Ex.cells7 (BL.below h BL.lt)); have hX := Below.refl (w1.alloc (.cells #[.int .i64 l.frm, .int .i64 l.to, .string (bs l.name), .string (bs l.arg), .string (bs l.pat), .string (bs l.rep), .bool l.all] 24)).heap.size (w1.alloc (.cells #[.int .i64 l.frm, .int .i64 l.to, .string (bs l.name), .string (bs l.arg), .string (bs l.pat), .string (bs l.rep), .bool l.all] 24)); clear BL hb1 PS)
    | (go_at_call 6; (with_reducible refine (TX.out _ W1).mono ?_); rintro e w2 ⟨rfl, hb2⟩; replace hX := Ex.below_on hX hb2; clear hb2)
    | (go_at_call 5; (with_reducible refine (PT.out _).mono ?_); rintro e w3 ⟨rfl, hb3⟩; replace hX := Ex.al (Ex.below_on hX hb3) (.cells #[.int .i64 l.frm, .int .i64 l.to, .string (bs l.name), .string (bs l.arg), .string (bs l.pat), .string (bs l.rep), .bool l.all] 24); clear hb3; obtain ⟨d0, d1, d2, d3, d4, d5, d6⟩ := CELL.out _ hX)
    | (go_at_call 7; (with_reducible refine (LN.out _).mono ?_); rintro e w4 ⟨rfl, hb4⟩; replace hX := Ex.below_on hX hb4; clear hb4 d0 d1 d2 d3 d4 d5 d6; obtain ⟨d0, d1, d2, d3, d4, d5, d6⟩ := CELL.out _ hX)
    | (go_at_call 4; refine (LV.out _).mono ?_; rintro e w5 ⟨rfl, hb5⟩; replace hX := Ex.below_on hX hb5; clear hb5))
  go_ret
  exact ⟨rfl, W1.trans (hX.mono W1.size)⟩
set_option maxHeartbeats 2000000 in
set_option maxRecDepth 100000 in
theorem ex_back_other_here {s : ByteArray} {here count : Int} (hs : s.size ≤ 500) (hc : count ≤ 9223372036854775807) {l : Ln} (hP : Ex.parse s.data.toList = (l, 0)) {t : ByteArray} (hPt : Ex.parse t.data.toList = (l, 0)) (ht : t.size ≤ 500) (hX : Ex.textP l = (t.data.toList, 0)) (hz : (Ex.tellP l).length ≤ 1000000000) (hts : t ≠ s) (h3 : 3 ≤ s.size) (e3 : s.extract 0 3 = ⟨#[49, 44, 36]⟩) (e4 : t = ⟨#[37]⟩ ++ s.extract 3 s.size) (hL : Ex.lines l.frm l.to here count = (here, here, 0)) (q1 : 0 ≤ here) (q3 : here < count) (q4 : l.frm = 0) {w : World} (hp : Pow w.heap.size w) :
    Calls Tryd.prog 3 #[.string s, .int .i64 here, .int .i64 count] w fun e w' => e = .returned (.bool true) ∧ Below w.heap.size w w' := by
  have LV := Lib.hid (fun w => ex_lives w)
  have I := Ex.parse_img hP
  have PS := Lib.hid (fun w => ex_parsed (s := s) (by omega) hP w)
  have PT := Lib.hid (fun w => ex_parsed (s := t) (by omega) hPt w)
  have TX : Hid (∀ u : World, Below w.heap.size w u → Calls Tryd.prog 6 #[.agg #[.int .i64 l.frm, .int .i64 l.to, .string (bs l.name), .string (bs l.arg), .string (bs l.pat), .string (bs l.rep), .bool l.all]] u fun e w' => e = .returned (.tuple #[.string t, .int .i64 0]) ∧ Below u.heap.size u w') := Lib.hid (fun u hu => ex_told (Ex.adr_i64 I.frm) (Ex.adr_i64 I.to) hz hX (hp.on hu) hu.size)
  have LN := Lib.hid (fun w => ex_Lines l here count hc hL w)
  have EN : ∀ w, (binOp .neq 24 (.agg #[.int .i64 l.frm, .int .i64 l.to, .string (bs l.name), .string (bs l.arg), .string (bs l.pat), .string (bs l.rep), .bool l.all]) (.agg #[.int .i64 l.frm, .int .i64 l.to, .string (bs l.name), .string (bs l.arg), .string (bs l.pat), .string (bs l.rep), .bool l.all])).run Tryd.prog w = .ok (.bool false) w := fun w => by rw [neq_ln]; simp
  have hne : t.toList ≠ s.toList := fun e => hts (by rw [Lib.toList_data, Lib.toList_data] at e; rw [← bs_data t, e]; rfl)
  have t1 : (t.toList == s.toList) = false := by rw [beq_eq_false_iff_ne]; exact hne
  have t2 : (t.toList != s.toList) = true := by rw [bne_iff_ne]; exact hne
  have g3 : decide ((s.size : Int) < 3) = false := by rw [decide_eq_false_iff_not]; omega
  have t3 : ((s.extract 0 3).toList == [49, 44, 36]) = true := by rw [e3, Lib.toList_data]; rfl
  have t4 : ((s.extract 0 3).toList != [49, 44, 36]) = false := by rw [e3, Lib.toList_data]; rfl
  have hq : (s.extract 3 s.size).size = s.size - 3 := by rw [ByteArray.size_extract]; omega
  have k1 : ¬ 9223372036854775807 < 1 + (s.extract 3 s.size).size := by omega
  have k2 : ¬ 9223372036854775807 < 1 + (s.size - 3) := by omega
  have t5 : (t.toList == (⟨#[37]⟩ ++ s.extract 3 s.size : ByteArray).toList) = true := by rw [← e4]; simp
  have t6 : (t.toList != (⟨#[37]⟩ ++ s.extract 3 s.size : ByteArray).toList) = false := by rw [← e4]; simp
  have p1 : decide ((0 : Int) ≤ here) = true := decide_eq_true q1
  have p3 : decide (here < count) = true := decide_eq_true q3
  have p4 : (l.frm != 0) = false := by simp [q4]
  clear I hP hPt hX hz hc hL hp hts hne e3 e4 hq q1 q3 q4
  go_enter Tryd.func3, Tryd.ntmps3
  go_wp2_with (first
    | (go_at_call 5; (with_reducible refine (PS.out _).mono ?_); rintro e w1 ⟨rfl, hb1⟩; have W1 := hb1.alloc hb1.size (.cells #[.int .i64 l.frm, .int .i64 l.to, .string (bs l.name), .string (bs l.arg), .string (bs l.pat), .string (bs l.rep), .bool l.all] 24); have BL := Blk.new w1 24 #[.int .i64 l.frm, .int .i64 l.to, .string (bs l.name), .string (bs l.arg), .string (bs l.pat), .string (bs l.rep), .bool l.all]; have CELL := Lib.hid (fun (u : World) (h : Below (w1.alloc (.cells #[.int .i64 l.frm, .int .i64 l.to, .string (bs l.name), .string (bs l.arg), .string (bs l.pat), .string (bs l.rep), .bool l.all] 24)).heap.size (w1.alloc (.cells #[.int .i64 l.frm, .int .i64 l.to, .string (bs l.name), .string (bs l.arg), .string (bs l.pat), .string (bs l.rep), .bool l.all] 24)) u) => Ex.cells7 (BL.below h BL.lt)); have hX := Below.refl (w1.alloc (.cells #[.int .i64 l.frm, .int .i64 l.to, .string (bs l.name), .string (bs l.arg), .string (bs l.pat), .string (bs l.rep), .bool l.all] 24)).heap.size (w1.alloc (.cells #[.int .i64 l.frm, .int .i64 l.to, .string (bs l.name), .string (bs l.arg), .string (bs l.pat), .string (bs l.rep), .bool l.all] 24)); clear BL hb1 PS)
    | (go_at_call 6; (with_reducible refine (TX.out _ W1).mono ?_); rintro e w2 ⟨rfl, hb2⟩; replace hX := Ex.below_on hX hb2; clear hb2)
    | (go_at_call 5; (with_reducible refine (PT.out _).mono ?_); rintro e w3 ⟨rfl, hb3⟩; replace hX := Ex.al (Ex.below_on hX hb3) (.cells #[.int .i64 l.frm, .int .i64 l.to, .string (bs l.name), .string (bs l.arg), .string (bs l.pat), .string (bs l.rep), .bool l.all] 24); clear hb3; obtain ⟨d0, d1, d2, d3, d4, d5, d6⟩ := CELL.out _ hX)
    | (go_at_call 7; (with_reducible refine (LN.out _).mono ?_); rintro e w4 ⟨rfl, hb4⟩; replace hX := Ex.below_on hX hb4; clear hb4 d0 d1 d2 d3 d4 d5 d6; obtain ⟨d0, d1, d2, d3, d4, d5, d6⟩ := CELL.out _ hX)
    | (go_at_call 4; refine (LV.out _).mono ?_; rintro e w5 ⟨rfl, hb5⟩; replace hX := Ex.below_on hX hb5; clear hb5))
  go_ret
  exact ⟨rfl, W1.trans (hX.mono W1.size)⟩
theorem exBack_walk (s : ByteArray) (here count : Int) (hc : count ≤ 9223372036854775807) {w : World} (hp : Pow w.heap.size w) :
    Calls Tryd.prog 3 #[.string s, .int .i64 here, .int .i64 count] w fun e w' => e = .returned (.bool true) ∧ Below w.heap.size w w' := by
  by_cases hs : s.size ≤ 500
  · obtain ⟨l, er, hP⟩ : ∃ l er, Ex.parse s.data.toList = (l, er) := ⟨_, _, rfl⟩
    by_cases her : er = 0
    · subst her
      obtain ⟨h1, h2, h3⟩ := Ex.back hP
      have hi := Ex.tell_img (Ex.parse_img hP)
      have hX : Ex.textP l = ((bs (Ex.tell l)).data.toList, 0) := by rw [Ex.text_is, h1]; rfl
      have hl := data_len s
      have ht : (bs (Ex.tell l)).size ≤ 500 := by
        rw [bs_size]
        rcases h3 with e | ⟨r, e, e'⟩
        · rw [e]; omega
        · rw [e'] ; rw [e] at hl; simp only [List.length_append, List.length_cons, List.length_nil] at hl ⊢; omega
      have hz : (Ex.tellP l).length ≤ 1000000000 := by rw [hi]; rw [bs_size] at ht; omega
      obtain ⟨x, y, e, hL⟩ : ∃ x y e, Ex.lines l.frm l.to here count = (x, y, e) := ⟨_, _, _, rfl⟩
      by_cases hts : bs (Ex.tell l) = s
      · by_cases he : e = 0
        · subst he
          obtain ⟨q1, q2, q3, q4⟩ := Ex.lines_in hL
          by_cases h0 : l.frm = 0
          · obtain ⟨rfl, rfl⟩ := q4.resolve_left (fun e => e h0)
            exact ex_back_same_here hs hc hP h2 ht hX hz hts hL q1 q3 h0 hp
          · exact ex_back_same_from hs hc hP h2 ht hX hz hts hL q1 q2 q3 h0 hp
        · obtain ⟨rfl, rfl⟩ := Ex.lines_zero hL he
          exact ex_back_same_err hs hc hP h2 ht hX hz hts hL he hp
      · obtain ⟨r, e1, e2⟩ : ∃ r, s.data.toList = [49, 44, 36] ++ r ∧ Ex.tell l = 37 :: r := h3.resolve_left (fun e => hts (by rw [e]; rfl))
        have k3 : 3 ≤ s.size := by rw [← hl, e1]; simp
        have e3 : s.extract 0 3 = ⟨#[49, 44, 36]⟩ := by
          rw [Lib.extract_eq, e1]; rfl
        have e4 : bs (Ex.tell l) = ⟨#[37]⟩ ++ s.extract 3 s.size := by
          have : s.extract 3 s.size = bs r := by
            rw [Lib.extract_eq, ← hl, e1]
            show ByteArray.mk (List.take _ ([49, 44, 36] ++ r).tail.tail.tail).toArray = bs r
            rw [List.take_of_length_le (by simp)]; rfl
          rw [this, e2, show (⟨#[37]⟩ : ByteArray) = bs [37] from rfl, bs_append]; rfl
        by_cases he : e = 0
        · subst he
          obtain ⟨q1, q2, q3, q4⟩ := Ex.lines_in hL
          by_cases h0 : l.frm = 0
          · obtain ⟨rfl, rfl⟩ := q4.resolve_left (fun e => e h0)
            exact ex_back_other_here hs hc hP h2 ht hX hz hts k3 e3 e4 hL q1 q3 h0 hp
          · exact ex_back_other_from hs hc hP h2 ht hX hz hts k3 e3 e4 hL q1 q2 q3 h0 hp
        · obtain ⟨rfl, rfl⟩ := Ex.lines_zero hL he
          exact ex_back_other_err hs hc hP h2 ht hX hz hts k3 e3 e4 hL he hp
    · have hz := Ex.parse_zero hP her
      subst hz
      exact ex_back_bad hs hP her
  · exact ex_back_long (by omega)
section
open Go.ChangeShapes Go.WideShapes Go.ChangeAt
open Go.ChangeMaps (open_string)
set_option maxRecDepth 100000 in
theorem exBack_lifted (os : Os) (started : os.Started) (H : Type) (enc : TypeId × Value → H) :
    ReturnsInHanded {} Tryd.checked os 3 .any (fun w args => (Rows.exBackSpec.pre enc Tryd.prog Tryd.f3 [] false w args ∧ laidMetH Tryd.prog Rows.exBackRow.laid w) ∧ sizedMet enc Tryd.prog Tryd.f3 (OpenSpec.ofChange Rows.exBackSpec) false w args) (Rows.exBackSpec.post enc Tryd.prog Tryd.f3 false true false false) := by
  refine returnsInHanded_of_change_and (C := Tryd.checked) (X := fun w _ => laidMetH Tryd.prog Rows.exBackRow.laid w) (fun _ _ _ hh h => h.of_heap hh) own_knob started (by kernel_rfl) Tryd.func3
    (ChangeSpec.witness_shaped (enc := enc) (C := Tryd.checked) (os := os) (X := fun w _ => laidMetH Tryd.prog Rows.exBackRow.laid w) false (World.laidAll Tryd.prog os Rows.exBackRow.laid) #[.string .empty, .int .i64 0, .int .i64 0] 8 (World.laidAll_os _ _ _)
      (World.shaped_of_ZipB (by kernel_rfl) (by kernel_rfl)) (by kernel_rfl) (by kernel_rfl) (by kernel_rfl)
      (by rw [MakeChecks.laidMetH_plain _ _ _ (by kernel_rfl)]; exact laidMet_laidAll _ (by kernel_rfl) (by kernel_rfl))) ?_
  intro W base args ds gs before hval0 hW _ hsz0 hL0 _
  have hL : laidMetH Tryd.prog Rows.exBackRow.laid W := hL0
  rw [MakeChecks.laidMetH_plain _ _ _ (by kernel_rfl)] at hL
  have hsz : (DataW.weightsEach Tryd.prog (Tryd.f3.params.toList ++ Rows.exBackSpec.plain.varTypes Tryd.prog) (ds ++ gs)).all (· ≤ reachBytes) = true := hsz0
  clear hsz0
  have hval : ∀ (j : Nat) t v, Tryd.f3.params[j]? = some t → args[j]? = some v → Value.okWide Tryd.prog W .any base t v := hval0
  have hW' := hW
  obtain ⟨p, q, hA0, hV, rfl, hfz, hnd⟩ := hW
  have hA : DataW.TrodAll enc Tryd.prog W 0 (fun _ => true) true Tryd.f3.params.toList args.toList ds p := hA0
  rw [Tryd.params3] at hA hval hsz
  obtain ⟨v0, vs0, d0, ds0, p0, q0, hargs, rfl, rfl, h0, r0⟩ := trodAll_cons hA
  obtain ⟨v1, vs1, d1, ds1, p1, q1, rfl, rfl, rfl, h1, r1⟩ := trodAll_cons r0
  obtain ⟨v2, vs2, d2, ds2, p2, q2, rfl, rfl, rfl, h2, r2⟩ := trodAll_cons r1
  obtain ⟨rfl, rfl, rfl⟩ := trodAll_nil r2
  obtain rfl : args = #[v0, v1, v2] := by cases args; simp_all
  obtain ⟨rfl, rfl⟩ := trodVars_none hV
  obtain ⟨s0, rfl, rfl, rfl, hmax0⟩ := open_string Tryd.underlying9 (hval 0 9 v0 rfl rfl) h0
  have hs0 : s0.size ≤ 140737488351232 := by rw [← data_len]; exact sized_string hsz (j := 0) (t := 9) rfl rfl
  obtain ⟨n1, rfl, rfl, rfl, wn1⟩ := open_int Tryd.underlying3 (hval 1 3 v1 rfl rfl) h1
  obtain ⟨n2, rfl, rfl, rfl, wn2⟩ := open_int Tryd.underlying3 (hval 2 3 v2 rfl rfl) h2
  refine (exBack_walk s0 n1 n2 (Ex.int_le wn2) (pow_of_laid hL)).mono fun e W' ⟨he, hb⟩ => ?_
  subst he
  exact ⟨_, rfl, law_post rfl rfl (by rw [Tryd.params3]; decide +kernel) ⟨rfl, rfl, rfl⟩ hW' hb⟩
theorem exBack_row : Rows.ExBackSaid :=
  OpenClaim.holds_of_wide 3 Tryd.f3 rfl rfl rfl rfl rfl rfl rfl ⟨rfl, rfl, rfl, rfl, rfl⟩ rfl rfl rfl rfl rfl (by kernel_rfl) Tryd.func3 (by kernel_rfl)
    (of_decide_eq_true (by kernel_rfl)) (by unfold Func.isWrapper; first | (rw [if_pos (by decide +kernel)]; kernel_rfl) | (rw [if_neg (by decide +kernel)]; exact ⟨rfl, rfl⟩))
    (fun os started H enc _ => exBack_lifted os started H enc)
theorem exBack_holds : Rows.ExBackCardSaid :=
  Claim7.holds_tied_plain_at .later [] [.data, .data, .data, .data, .sentinel, .sentinel, .pinned] true (true, _) true exBack_row (fun _ h => by cases h) (by kernel_rfl) (fun _ h => by cases h) exBack_row_tie rfl ⟨rfl, rfl⟩ (by kernel_rfl) rfl
    (fun f fn hf hfn => by
      obtain rfl : f = 3 := Option.some.inj ((show Tryd.prog.funcNamed "calamus/calamuslaw27.ExBack" = some 3 by kernel_rfl).symm.trans hf) |>.symm
      obtain rfl : fn = Tryd.f3 := (Option.some.inj (Tryd.func3.symm.trans hfn)).symm
      exact ⟨by kernel_rfl, fun j t ht => by
        rw [Tryd.params3] at ht
        have hm := Array.mem_of_getElem? ht
        have hall : (#[9, 3, 3].toList.all fun u => !Tryd.prog.wantsStandIn u) = true := by kernel_rfl
        exact (show Tryd.prog.wantsStandIn t = false by simpa using List.all_eq_true.1 hall t (by simpa using hm))⟩)
    (by kernel_rfl)
end
end Go.Proofs.YtcddbdefdenecaaDoor
