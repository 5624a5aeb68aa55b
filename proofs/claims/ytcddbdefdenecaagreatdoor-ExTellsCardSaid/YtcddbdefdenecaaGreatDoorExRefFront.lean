/-
  The document's Parse of package ex: no text, more than one line, wrong addresses.
-/
import Derived.Test.YtcddbdefdenecaaGreatDoorExRefParts
import Derived.Test.YtcddbdefdenecaaGreatDoorUtfRef
import Derived.Deep.Cut
namespace Go.Proofs.YtcddbdefdenecaaGreatDoor
open Go.RowKit Go.Shelf
open Ex (Ln)
namespace Ex
theorem front_ways {s t : List UInt8} {a b : Int} (h : front s = some (a, b, t)) :
    (s.head? = some 37 ∧ a = 1 ∧ b = -2 ∧ t = s.tail) ∨
    (s.head? ≠ some 37 ∧ (addr s).2.2 = true ∧ a = (addr s).1 ∧ b = 0 ∧ t = s.drop (addrK s) ∧ ¬ (a ≠ 0 ∧ t.head? = some 44)) ∨
    (s.head? ≠ some 37 ∧ (addr s).2.2 = true ∧ a = (addr s).1 ∧ a ≠ 0 ∧ (s.drop (addrK s)).head? = some 44 ∧ (addr (s.drop (addrK s)).tail).2.2 = true ∧ b = (addr (s.drop (addrK s)).tail).1 ∧ b ≠ 0 ∧ t = (s.drop (addrK s)).tail.drop (addrK (s.drop (addrK s)).tail)) := by
  unfold front at h
  by_cases h1 : s.head? = some 37
  · rw [if_pos h1] at h
    injection h with h; injection h with e1 h; injection h with e2 e3
    exact .inl ⟨h1, e1.symm, e2.symm, e3.symm⟩
  rw [if_neg h1] at h
  by_cases h2 : (addr s).2.2 = false
  · rw [if_pos h2] at h; cases h
  rw [if_neg h2] at h
  have h2 : (addr s).2.2 = true := by simpa using h2
  have r1 := (addr_rest s).1
  rw [r1] at h
  by_cases h3 : (addr s).1 ≠ 0 ∧ (s.drop (addrK s)).head? = some 44
  · rw [if_pos h3] at h
    by_cases h4 : (addr (s.drop (addrK s)).tail).2.2 = false ∨ (addr (s.drop (addrK s)).tail).1 = 0
    · rw [if_pos h4] at h; cases h
    rw [if_neg h4] at h
    simp only [not_or] at h4
    injection h with h; injection h with e1 h; injection h with e2 e3
    rw [(addr_rest _).1] at e3
    exact .inr (.inr ⟨h1, h2, e1.symm, by rw [← e1]; exact h3.1, h3.2, by simpa using h4.1, e2.symm, by rw [← e2]; exact h4.2, e3.symm⟩)
  · rw [if_neg h3] at h
    injection h with h; injection h with e1 h; injection h with e2 e3
    exact .inr (.inl ⟨h1, h2, e1.symm, e2.symm, e3.symm, by rw [← e1, ← e3]; exact h3⟩)
theorem front_fails {s : List UInt8} (h : front s = none) :
    s.head? ≠ some 37 ∧ ((addr s).2.2 = false ∨ ((addr s).2.2 = true ∧ (addr s).1 ≠ 0 ∧ (s.drop (addrK s)).head? = some 44 ∧ ((addr (s.drop (addrK s)).tail).2.2 = false ∨ ((addr (s.drop (addrK s)).tail).2.2 = true ∧ (addr (s.drop (addrK s)).tail).1 = 0)))) := by
  unfold front at h
  by_cases h1 : s.head? = some 37
  · rw [if_pos h1] at h; cases h
  rw [if_neg h1] at h
  refine ⟨h1, ?_⟩
  by_cases h2 : (addr s).2.2 = false
  · exact .inl h2
  rw [if_neg h2] at h
  have h2 : (addr s).2.2 = true := by simpa using h2
  rw [(addr_rest s).1] at h
  refine .inr ⟨h2, ?_⟩
  by_cases h3 : (addr s).1 ≠ 0 ∧ (s.drop (addrK s)).head? = some 44
  · rw [if_pos h3] at h
    refine ⟨h3.1, h3.2, ?_⟩
    rcases Bool.eq_false_or_eq_true (addr (s.drop (addrK s)).tail).2.2 with h5 | h5
    · right
      refine ⟨h5, ?_⟩
      by_cases h4 : (addr (s.drop (addrK s)).tail).1 = 0
      · exact h4
      · rw [if_neg (not_or.2 ⟨by rw [h5]; decide, h4⟩)] at h; cases h
    · exact .inl h5
  · rw [if_neg h3] at h; cases h
theorem ext_drop (s : ByteArray) (k : Nat) : s.extract k s.size = bs (s.data.toList.drop k) := by
  have hl := data_len s
  rw [Lib.extract_eq, List.take_of_length_le (by rw [List.length_drop]; omega)]; rfl
end Ex
theorem ref27_addr {s : ByteArray} (hs : s.size ≤ 1000000000) {n : Int} {k : Nat} {ok : Bool} (h1 : (Ex.addr s.data.toList).1 = n) (h2 : Ex.addrK s.data.toList = k) (h3 : (Ex.addr s.data.toList).2.2 = ok) (w : World) :
    Calls Tryz.prog 21 #[.string s] w fun e w' => e = .returned (.tuple #[.int .i64 n, .int .i64 (k : Int), .bool ok]) ∧ w = w' := by
  have := ref27_address s hs w
  rw [h1, h2, h3] at this
  exact this
set_option maxHeartbeats 8000000 in
set_option maxRecDepth 100000 in
theorem ref27_Parse_invalid (s : ByteArray) (hs : s.size ≤ 1000000000) (hv : Utf.valid s.data.toList = false) (w : World) :
    Calls Tryz.prog 7 #[.string s] w fun e w' => e = .returned (Ex.ansV (Ex.zero, 5)) ∧ Below w.heap.size w w' := by
  have V := Lib.hid (fun w => ref_Valid s (by omega) w)
  rw [hv] at V
  clear hv
  have B0 := Blk.new w 28 #[.int .i64 0, .int .i64 0, .string ⟨#[]⟩, .string ⟨#[]⟩, .string ⟨#[]⟩, .string ⟨#[]⟩, .bool false]
  have W0 := (Below.refl w.heap.size w).alloc (Nat.le_refl _) (.cells #[.int .i64 0, .int .i64 0, .string ⟨#[]⟩, .string ⟨#[]⟩, .string ⟨#[]⟩, .string ⟨#[]⟩, .bool false] 28)
  go_enter Tryz.func7, Tryz.ntmps7
  go_wp2_with (first
    | (go_at_call 19; refine (V.out _).mono ?_; rintro e u ⟨rfl, hb1⟩; have B1 := B0.below hb1 (by rw [World.size_alloc]; omega); have W1 := W0.trans (hb1.mono W0.size); clear hb1 B0 W0; obtain ⟨⟨xu0, yu0⟩, ⟨xu1, yu1⟩, ⟨xu2, yu2⟩, ⟨xu3, yu3⟩, ⟨xu4, yu4⟩, ⟨xu5, yu5⟩, ⟨xu6, yu6⟩, BB⟩ := Ex.blk7 B1 (.int .i64 0) (.int .i64 0) (.string ⟨#[]⟩) (.string ⟨#[]⟩) (.string ⟨#[]⟩) (.string ⟨#[]⟩) (.bool false); have GGu := Ex.put7_gb (u) (w.heap.size) (.int .i64 0) (.int .i64 0) (.string ⟨#[]⟩) (.string ⟨#[]⟩) (.string ⟨#[]⟩) (.string ⟨#[]⟩) (.bool false); unfold Ex.put7 at GGu BB; generalize hu1 : World.setCell (u) ⟨w.heap.size, 0, none⟩ (.int .i64 0) = u1 at *; generalize hu2 : World.setCell u1 ⟨w.heap.size, 1, none⟩ (.int .i64 0) = u2 at *; generalize hu3 : World.setCell u2 ⟨w.heap.size, 2, none⟩ (.string ⟨#[]⟩) = u3 at *; generalize hu4 : World.setCell u3 ⟨w.heap.size, 3, none⟩ (.string ⟨#[]⟩) = u4 at *; generalize hu5 : World.setCell u4 ⟨w.heap.size, 4, none⟩ (.string ⟨#[]⟩) = u5 at *; generalize hu6 : World.setCell u5 ⟨w.heap.size, 5, none⟩ (.string ⟨#[]⟩) = u6 at *; generalize hu7 : World.setCell u6 ⟨w.heap.size, 6, none⟩ (.bool false) = u7 at *; replace BB := Lib.hid BB))
  refine ret_seven1 rfl rfl BB.out rfl Tryz.underlying28 (by kernel_rfl) ?_
  exact ⟨rfl, W1.grown GGu W1.size (fun j e => by injection e with e; omega)⟩
set_option maxHeartbeats 8000000 in
set_option maxRecDepth 100000 in
theorem ref27_Parse_feed (s : ByteArray) (hs : s.size ≤ 1000000000) (hv : Utf.valid s.data.toList = true) (hf : 10 ∈ s.data.toList) (w : World) :
    Calls Tryz.prog 7 #[.string s] w fun e w' => e = .returned (Ex.ansV (Ex.zero, 5)) ∧ Below w.heap.size w w' := by
  have V := Lib.hid (fun w => ref_Valid s (by omega) w)
  rw [hv] at V
  have FD := Lib.hid (fun w => ref27_feed s hs w)
  rw [decide_eq_true hf] at FD
  clear hv hf
  have B0 := Blk.new w 28 #[.int .i64 0, .int .i64 0, .string ⟨#[]⟩, .string ⟨#[]⟩, .string ⟨#[]⟩, .string ⟨#[]⟩, .bool false]
  have W0 := (Below.refl w.heap.size w).alloc (Nat.le_refl _) (.cells #[.int .i64 0, .int .i64 0, .string ⟨#[]⟩, .string ⟨#[]⟩, .string ⟨#[]⟩, .string ⟨#[]⟩, .bool false] 28)
  go_enter Tryz.func7, Tryz.ntmps7
  go_wp2_with (first
    | (go_at_call 19; refine (V.out _).mono ?_; rintro e u ⟨rfl, hb1⟩; have B1 := B0.below hb1 (by rw [World.size_alloc]; omega); have W1 := W0.trans (hb1.mono W0.size); clear hb1 B0 W0; obtain ⟨⟨xu0, yu0⟩, ⟨xu1, yu1⟩, ⟨xu2, yu2⟩, ⟨xu3, yu3⟩, ⟨xu4, yu4⟩, ⟨xu5, yu5⟩, ⟨xu6, yu6⟩, BB⟩ := Ex.blk7 B1 (.int .i64 0) (.int .i64 0) (.string ⟨#[]⟩) (.string ⟨#[]⟩) (.string ⟨#[]⟩) (.string ⟨#[]⟩) (.bool false); have GGu := Ex.put7_gb (u) (w.heap.size) (.int .i64 0) (.int .i64 0) (.string ⟨#[]⟩) (.string ⟨#[]⟩) (.string ⟨#[]⟩) (.string ⟨#[]⟩) (.bool false); unfold Ex.put7 at GGu BB; generalize hu1 : World.setCell (u) ⟨w.heap.size, 0, none⟩ (.int .i64 0) = u1 at *; generalize hu2 : World.setCell u1 ⟨w.heap.size, 1, none⟩ (.int .i64 0) = u2 at *; generalize hu3 : World.setCell u2 ⟨w.heap.size, 2, none⟩ (.string ⟨#[]⟩) = u3 at *; generalize hu4 : World.setCell u3 ⟨w.heap.size, 3, none⟩ (.string ⟨#[]⟩) = u4 at *; generalize hu5 : World.setCell u4 ⟨w.heap.size, 4, none⟩ (.string ⟨#[]⟩) = u5 at *; generalize hu6 : World.setCell u5 ⟨w.heap.size, 5, none⟩ (.string ⟨#[]⟩) = u6 at *; generalize hu7 : World.setCell u6 ⟨w.heap.size, 6, none⟩ (.bool false) = u7 at *; replace BB := Lib.hid BB)
    | (go_at_call 20; refine (FD.out _).mono ?_; rintro e v ⟨rfl, rfl⟩))
  refine ret_seven1 rfl rfl BB.out rfl Tryz.underlying28 (by kernel_rfl) ?_
  exact ⟨rfl, W1.grown GGu W1.size (fun j e => by injection e with e; omega)⟩
set_option maxHeartbeats 8000000 in
set_option maxRecDepth 100000 in
theorem ref27_Parse_wrong (s : ByteArray) (hs : s.size ≤ 1000000000) (hv : Utf.valid s.data.toList = true) (hf : ¬ 10 ∈ s.data.toList) (hp : s.data.toList.head? ≠ some 37) (ha : (Ex.addr s.data.toList).2.2 = false) (w : World) :
    Calls Tryz.prog 7 #[.string s] w fun e w' => e = .returned (Ex.ansV (Ex.zero, 3)) ∧ Below w.heap.size w w' := by
  have hl := data_len s
  have h1 : 0 < s.size := by
    rw [← hl]
    refine List.length_pos_iff.2 (fun e => ?_)
    rw [e] at ha
    exact absurd ha (by decide)
  have e0 : s.toList.isEmpty = false := by rw [Lib.toList_data]; cases hl : s.data.toList with | nil => rw [← data_len, hl] at h1; simp at h1 | cons b t => rfl
  have ep : ((s[0].toNat : Int) == 37) = false := by
    rw [beq_eq_false_iff_ne]
    exact fun e => hp (by rw [Ex.head_byte h1, show s[0] = 37 from UInt8.toNat_inj.1 (by have k1 : (37 : UInt8).toNat = 37 := rfl; omega)])
  have A1 := Lib.hid (fun w => ref27_addr (s := s) hs rfl rfl ha w)
  generalize (Ex.addr s.data.toList).1 = n at *
  generalize Ex.addrK s.data.toList = k at *
  clear hl hp ha
  have V := Lib.hid (fun w => ref_Valid s (by omega) w)
  rw [hv] at V
  have FD := Lib.hid (fun w => ref27_feed s hs w)
  rw [decide_eq_false hf] at FD
  clear hv hf
  have B0 := Blk.new w 28 #[.int .i64 0, .int .i64 0, .string ⟨#[]⟩, .string ⟨#[]⟩, .string ⟨#[]⟩, .string ⟨#[]⟩, .bool false]
  have W0 := (Below.refl w.heap.size w).alloc (Nat.le_refl _) (.cells #[.int .i64 0, .int .i64 0, .string ⟨#[]⟩, .string ⟨#[]⟩, .string ⟨#[]⟩, .string ⟨#[]⟩, .bool false] 28)
  go_enter Tryz.func7, Tryz.ntmps7
  go_upto_region 9 with (first
    | (go_at_call 19; refine (V.out _).mono ?_; rintro e u ⟨rfl, hb1⟩; have B1 := B0.below hb1 (by rw [World.size_alloc]; omega); have W1 := W0.trans (hb1.mono W0.size); clear hb1 B0 W0)
    | (go_at_call 20; refine (FD.out _).mono ?_; rintro e v ⟨rfl, rfl⟩)
    | (go_at_call 21; (with_reducible refine (A1.out _).mono ?_); rintro e v ⟨rfl, rfl⟩))
  have B2 := B1.alloc (.cells #[.int .i64 0, .int .i64 0, .string ⟨#[]⟩, .string ⟨#[]⟩, .string ⟨#[]⟩, .string ⟨#[]⟩, .bool false] 28)
  have W2 := W1.alloc W1.size (.cells #[.int .i64 0, .int .i64 0, .string ⟨#[]⟩, .string ⟨#[]⟩, .string ⟨#[]⟩, .string ⟨#[]⟩, .bool false] 28)
  generalize u.alloc (.cells #[.int .i64 0, .int .i64 0, .string ⟨#[]⟩, .string ⟨#[]⟩, .string ⟨#[]⟩, .string ⟨#[]⟩, .bool false] 28) = U at *
  clear B1 W1
  obtain ⟨⟨xu0, yu0⟩, ⟨xu1, yu1⟩, ⟨xu2, yu2⟩, ⟨xu3, yu3⟩, ⟨xu4, yu4⟩, ⟨xu5, yu5⟩, ⟨xu6, yu6⟩, BB⟩ := Ex.blk7 B2 (.int .i64 0) (.int .i64 0) (.string ⟨#[]⟩) (.string ⟨#[]⟩) (.string ⟨#[]⟩) (.string ⟨#[]⟩) (.bool false)
  have GGu := Ex.put7_gb (U) (w.heap.size) (.int .i64 0) (.int .i64 0) (.string ⟨#[]⟩) (.string ⟨#[]⟩) (.string ⟨#[]⟩) (.string ⟨#[]⟩) (.bool false)
  unfold Ex.put7 at GGu BB
  generalize hu1 : World.setCell (U) ⟨w.heap.size, 0, none⟩ (.int .i64 0) = u1 at *
  generalize hu2 : World.setCell u1 ⟨w.heap.size, 1, none⟩ (.int .i64 0) = u2 at *
  generalize hu3 : World.setCell u2 ⟨w.heap.size, 2, none⟩ (.string ⟨#[]⟩) = u3 at *
  generalize hu4 : World.setCell u3 ⟨w.heap.size, 3, none⟩ (.string ⟨#[]⟩) = u4 at *
  generalize hu5 : World.setCell u4 ⟨w.heap.size, 4, none⟩ (.string ⟨#[]⟩) = u5 at *
  generalize hu6 : World.setCell u5 ⟨w.heap.size, 5, none⟩ (.string ⟨#[]⟩) = u6 at *
  generalize hu7 : World.setCell u6 ⟨w.heap.size, 6, none⟩ (.bool false) = u7 at *
  replace BB := Lib.hid BB
  go_wp2
  refine ret_seven1 rfl rfl BB.out rfl Tryz.underlying28 (by kernel_rfl) ?_
  exact ⟨rfl, W2.grown GGu W2.size (fun j e => by injection e with e; omega)⟩
set_option maxHeartbeats 8000000 in
set_option maxRecDepth 100000 in
theorem ref27_Parse_second (s : ByteArray) (hs : s.size ≤ 1000000000) (hv : Utf.valid s.data.toList = true) (hf : ¬ 10 ∈ s.data.toList) (hp : s.data.toList.head? ≠ some 37) (ha : (Ex.addr s.data.toList).2.2 = true) (hn : (Ex.addr s.data.toList).1 ≠ 0) (h44 : (s.data.toList.drop (Ex.addrK s.data.toList)).head? = some 44) (hb : (Ex.addr (s.data.toList.drop (Ex.addrK s.data.toList)).tail).2.2 = false) (w : World) :
    Calls Tryz.prog 7 #[.string s] w fun e w' => e = .returned (Ex.ansV (Ex.zero, 3)) ∧ Below w.heap.size w w' := by
  have hl := data_len s
  have h1 : 0 < s.size := by
    rw [← hl]
    refine List.length_pos_iff.2 (fun e => ?_)
    rw [e] at hn
    exact absurd hn (by decide)
  have e0 : s.toList.isEmpty = false := by rw [Lib.toList_data]; cases hl : s.data.toList with | nil => rw [← data_len, hl] at h1; simp at h1 | cons b t => rfl
  have ep : ((s[0].toNat : Int) == 37) = false := by
    rw [beq_eq_false_iff_ne]
    exact fun e => hp (by rw [Ex.head_byte h1, show s[0] = 37 from UInt8.toNat_inj.1 (by have k1 : (37 : UInt8).toNat = 37 := rfl; omega)])
  have hk := (Ex.addr_rest s.data.toList).2
  rw [hl] at hk
  have A1 := Lib.hid (fun w => ref27_addr (s := s) hs rfl rfl ha w)
  have X1 := Ex.ext_drop s (Ex.addrK s.data.toList)
  have gn : ((Ex.addr s.data.toList).1 != 0) = true := by rw [bne_iff_ne]; exact hn
  have hlt2 : (bs (s.data.toList.drop (Ex.addrK s.data.toList))).size ≤ 1000000000 := by rw [bs_size, List.length_drop]; omega
  rw [show s.data.toList.drop (Ex.addrK s.data.toList) = (bs (s.data.toList.drop (Ex.addrK s.data.toList))).data.toList from rfl] at h44 hb
  generalize (Ex.addr s.data.toList).1 = n at *
  generalize Ex.addrK s.data.toList = k at *
  generalize bs (s.data.toList.drop k) = t at *
  have h2 : 0 < t.size := by rw [← data_len]; exact List.length_pos_iff.2 (fun e => by rw [e] at h44; cases h44)
  have e1 : t.toList.isEmpty = false := by rw [Lib.toList_data]; cases hl : t.data.toList with | nil => rw [← data_len, hl] at h2; simp at h2 | cons b t => rfl
  have e2 : ((t[0].toNat : Int) == 44) = true := by
    have := Ex.head_byte h2
    rw [this] at h44; injection h44 with h44; rw [h44]; rfl
  have X2 := Ex.ext_drop t 1
  rw [List.drop_one] at X2
  have h3 : 1 ≤ t.size := h2
  have hk2 : (k : Int) ≤ (s.size : Int) := by omega
  have A2 := Lib.hid (fun w => ref27_addr (s := bs t.data.toList.tail) (by rw [bs_size, List.length_tail, data_len]; omega) rfl rfl hb w)
  rw [bs_toList] at A2
  generalize (Ex.addr t.data.toList.tail).1 = m at *
  generalize Ex.addrK t.data.toList.tail = j at *
  generalize bs t.data.toList.tail = q at *
  clear hl hp ha hn h44 hb hk
  have V := Lib.hid (fun w => ref_Valid s (by omega) w)
  rw [hv] at V
  have FD := Lib.hid (fun w => ref27_feed s hs w)
  rw [decide_eq_false hf] at FD
  clear hv hf
  have B0 := Blk.new w 28 #[.int .i64 0, .int .i64 0, .string ⟨#[]⟩, .string ⟨#[]⟩, .string ⟨#[]⟩, .string ⟨#[]⟩, .bool false]
  have W0 := (Below.refl w.heap.size w).alloc (Nat.le_refl _) (.cells #[.int .i64 0, .int .i64 0, .string ⟨#[]⟩, .string ⟨#[]⟩, .string ⟨#[]⟩, .string ⟨#[]⟩, .bool false] 28)
  go_enter Tryz.func7, Tryz.ntmps7
  go_upto_region 15 with (first
    | (go_at_call 19; refine (V.out _).mono ?_; rintro e u ⟨rfl, hb1⟩; have B1 := B0.below hb1 (by rw [World.size_alloc]; omega); have W1 := W0.trans (hb1.mono W0.size); clear hb1 B0 W0)
    | (go_at_call 20; refine (FD.out _).mono ?_; rintro e v ⟨rfl, rfl⟩)
    | (go_at_call 21; (with_reducible refine (A1.out _).mono ?_); rintro e v ⟨rfl, rfl⟩)
    | (go_at_call 21; (with_reducible refine (A2.out _).mono ?_); rintro e v ⟨rfl, rfl⟩))
  have B2 := B1.alloc (.cells #[.int .i64 n, .int .i64 0, .string ⟨#[]⟩, .string ⟨#[]⟩, .string ⟨#[]⟩, .string ⟨#[]⟩, .bool false] 28)
  have W2 := W1.alloc W1.size (.cells #[.int .i64 n, .int .i64 0, .string ⟨#[]⟩, .string ⟨#[]⟩, .string ⟨#[]⟩, .string ⟨#[]⟩, .bool false] 28)
  generalize u.alloc (.cells #[.int .i64 n, .int .i64 0, .string ⟨#[]⟩, .string ⟨#[]⟩, .string ⟨#[]⟩, .string ⟨#[]⟩, .bool false] 28) = U at *
  clear B1 W1
  obtain ⟨⟨xu0, yu0⟩, ⟨xu1, yu1⟩, ⟨xu2, yu2⟩, ⟨xu3, yu3⟩, ⟨xu4, yu4⟩, ⟨xu5, yu5⟩, ⟨xu6, yu6⟩, BB⟩ := Ex.blk7 B2 (.int .i64 0) (.int .i64 0) (.string ⟨#[]⟩) (.string ⟨#[]⟩) (.string ⟨#[]⟩) (.string ⟨#[]⟩) (.bool false)
  have GGu := Ex.put7_gb (U) (w.heap.size) (.int .i64 0) (.int .i64 0) (.string ⟨#[]⟩) (.string ⟨#[]⟩) (.string ⟨#[]⟩) (.string ⟨#[]⟩) (.bool false)
  unfold Ex.put7 at GGu BB
  generalize hu1 : World.setCell (U) ⟨w.heap.size, 0, none⟩ (.int .i64 0) = u1 at *
  generalize hu2 : World.setCell u1 ⟨w.heap.size, 1, none⟩ (.int .i64 0) = u2 at *
  generalize hu3 : World.setCell u2 ⟨w.heap.size, 2, none⟩ (.string ⟨#[]⟩) = u3 at *
  generalize hu4 : World.setCell u3 ⟨w.heap.size, 3, none⟩ (.string ⟨#[]⟩) = u4 at *
  generalize hu5 : World.setCell u4 ⟨w.heap.size, 4, none⟩ (.string ⟨#[]⟩) = u5 at *
  generalize hu6 : World.setCell u5 ⟨w.heap.size, 5, none⟩ (.string ⟨#[]⟩) = u6 at *
  generalize hu7 : World.setCell u6 ⟨w.heap.size, 6, none⟩ (.bool false) = u7 at *
  replace BB := Lib.hid BB
  go_wp2
  refine ret_seven1 rfl rfl BB.out rfl Tryz.underlying28 (by kernel_rfl) ?_
  exact ⟨rfl, W2.grown GGu W2.size (fun j e => by injection e with e; omega)⟩
set_option maxHeartbeats 8000000 in
set_option maxRecDepth 100000 in
theorem ref27_Parse_nought (s : ByteArray) (hs : s.size ≤ 1000000000) (hv : Utf.valid s.data.toList = true) (hf : ¬ 10 ∈ s.data.toList) (hp : s.data.toList.head? ≠ some 37) (ha : (Ex.addr s.data.toList).2.2 = true) (hn : (Ex.addr s.data.toList).1 ≠ 0) (h44 : (s.data.toList.drop (Ex.addrK s.data.toList)).head? = some 44) (hb : (Ex.addr (s.data.toList.drop (Ex.addrK s.data.toList)).tail).2.2 = true) (hm : (Ex.addr (s.data.toList.drop (Ex.addrK s.data.toList)).tail).1 = 0) (w : World) :
    Calls Tryz.prog 7 #[.string s] w fun e w' => e = .returned (Ex.ansV (Ex.zero, 3)) ∧ Below w.heap.size w w' := by
  have hl := data_len s
  have h1 : 0 < s.size := by
    rw [← hl]
    refine List.length_pos_iff.2 (fun e => ?_)
    rw [e] at hn
    exact absurd hn (by decide)
  have e0 : s.toList.isEmpty = false := by rw [Lib.toList_data]; cases hl : s.data.toList with | nil => rw [← data_len, hl] at h1; simp at h1 | cons b t => rfl
  have ep : ((s[0].toNat : Int) == 37) = false := by
    rw [beq_eq_false_iff_ne]
    exact fun e => hp (by rw [Ex.head_byte h1, show s[0] = 37 from UInt8.toNat_inj.1 (by have k1 : (37 : UInt8).toNat = 37 := rfl; omega)])
  have hk := (Ex.addr_rest s.data.toList).2
  rw [hl] at hk
  have A1 := Lib.hid (fun w => ref27_addr (s := s) hs rfl rfl ha w)
  have X1 := Ex.ext_drop s (Ex.addrK s.data.toList)
  have gn : ((Ex.addr s.data.toList).1 != 0) = true := by rw [bne_iff_ne]; exact hn
  have hlt2 : (bs (s.data.toList.drop (Ex.addrK s.data.toList))).size ≤ 1000000000 := by rw [bs_size, List.length_drop]; omega
  rw [show s.data.toList.drop (Ex.addrK s.data.toList) = (bs (s.data.toList.drop (Ex.addrK s.data.toList))).data.toList from rfl] at h44 hb hm
  generalize (Ex.addr s.data.toList).1 = n at *
  generalize Ex.addrK s.data.toList = k at *
  generalize bs (s.data.toList.drop k) = t at *
  have h2 : 0 < t.size := by rw [← data_len]; exact List.length_pos_iff.2 (fun e => by rw [e] at h44; cases h44)
  have e1 : t.toList.isEmpty = false := by rw [Lib.toList_data]; cases hl : t.data.toList with | nil => rw [← data_len, hl] at h2; simp at h2 | cons b t => rfl
  have e2 : ((t[0].toNat : Int) == 44) = true := by
    have := Ex.head_byte h2
    rw [this] at h44; injection h44 with h44; rw [h44]; rfl
  have X2 := Ex.ext_drop t 1
  rw [List.drop_one] at X2
  have h3 : 1 ≤ t.size := h2
  have hk2 : (k : Int) ≤ (s.size : Int) := by omega
  have A2 := Lib.hid (fun w => ref27_addr (s := bs t.data.toList.tail) (by rw [bs_size, List.length_tail, data_len]; omega) hm rfl hb w)
  rw [bs_toList] at A2
  generalize Ex.addrK t.data.toList.tail = j at *
  generalize bs t.data.toList.tail = q at *
  clear hl hp ha hn h44 hb hk hm
  have V := Lib.hid (fun w => ref_Valid s (by omega) w)
  rw [hv] at V
  have FD := Lib.hid (fun w => ref27_feed s hs w)
  rw [decide_eq_false hf] at FD
  clear hv hf
  have B0 := Blk.new w 28 #[.int .i64 0, .int .i64 0, .string ⟨#[]⟩, .string ⟨#[]⟩, .string ⟨#[]⟩, .string ⟨#[]⟩, .bool false]
  have W0 := (Below.refl w.heap.size w).alloc (Nat.le_refl _) (.cells #[.int .i64 0, .int .i64 0, .string ⟨#[]⟩, .string ⟨#[]⟩, .string ⟨#[]⟩, .string ⟨#[]⟩, .bool false] 28)
  go_enter Tryz.func7, Tryz.ntmps7
  go_upto_region 15 with (first
    | (go_at_call 19; refine (V.out _).mono ?_; rintro e u ⟨rfl, hb1⟩; have B1 := B0.below hb1 (by rw [World.size_alloc]; omega); have W1 := W0.trans (hb1.mono W0.size); clear hb1 B0 W0)
    | (go_at_call 20; refine (FD.out _).mono ?_; rintro e v ⟨rfl, rfl⟩)
    | (go_at_call 21; (with_reducible refine (A1.out _).mono ?_); rintro e v ⟨rfl, rfl⟩)
    | (go_at_call 21; (with_reducible refine (A2.out _).mono ?_); rintro e v ⟨rfl, rfl⟩))
  have B2 := B1.alloc (.cells #[.int .i64 n, .int .i64 0, .string ⟨#[]⟩, .string ⟨#[]⟩, .string ⟨#[]⟩, .string ⟨#[]⟩, .bool false] 28)
  have W2 := W1.alloc W1.size (.cells #[.int .i64 n, .int .i64 0, .string ⟨#[]⟩, .string ⟨#[]⟩, .string ⟨#[]⟩, .string ⟨#[]⟩, .bool false] 28)
  generalize u.alloc (.cells #[.int .i64 n, .int .i64 0, .string ⟨#[]⟩, .string ⟨#[]⟩, .string ⟨#[]⟩, .string ⟨#[]⟩, .bool false] 28) = U at *
  clear B1 W1
  obtain ⟨⟨xu0, yu0⟩, ⟨xu1, yu1⟩, ⟨xu2, yu2⟩, ⟨xu3, yu3⟩, ⟨xu4, yu4⟩, ⟨xu5, yu5⟩, ⟨xu6, yu6⟩, BB⟩ := Ex.blk7 B2 (.int .i64 0) (.int .i64 0) (.string ⟨#[]⟩) (.string ⟨#[]⟩) (.string ⟨#[]⟩) (.string ⟨#[]⟩) (.bool false)
  have GGu := Ex.put7_gb (U) (w.heap.size) (.int .i64 0) (.int .i64 0) (.string ⟨#[]⟩) (.string ⟨#[]⟩) (.string ⟨#[]⟩) (.string ⟨#[]⟩) (.bool false)
  unfold Ex.put7 at GGu BB
  generalize hu1 : World.setCell (U) ⟨w.heap.size, 0, none⟩ (.int .i64 0) = u1 at *
  generalize hu2 : World.setCell u1 ⟨w.heap.size, 1, none⟩ (.int .i64 0) = u2 at *
  generalize hu3 : World.setCell u2 ⟨w.heap.size, 2, none⟩ (.string ⟨#[]⟩) = u3 at *
  generalize hu4 : World.setCell u3 ⟨w.heap.size, 3, none⟩ (.string ⟨#[]⟩) = u4 at *
  generalize hu5 : World.setCell u4 ⟨w.heap.size, 4, none⟩ (.string ⟨#[]⟩) = u5 at *
  generalize hu6 : World.setCell u5 ⟨w.heap.size, 5, none⟩ (.string ⟨#[]⟩) = u6 at *
  generalize hu7 : World.setCell u6 ⟨w.heap.size, 6, none⟩ (.bool false) = u7 at *
  replace BB := Lib.hid BB
  go_wp2
  refine ret_seven1 rfl rfl BB.out rfl Tryz.underlying28 (by kernel_rfl) ?_
  exact ⟨rfl, W2.grown GGu W2.size (fun j e => by injection e with e; omega)⟩
end Go.Proofs.YtcddbdefdenecaaGreatDoor
