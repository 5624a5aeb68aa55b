/-
  strings.Join at three texts that have just been laid.
-/
import Derived.Test.YtdclopfhffjkfaaDoorBase
import Derived.Test.YtdclopfhffjkfaaDoorShelf
import Derived.Test.YtdclopfhffjkfaaDoorJP
import Derived.Test.YtdclopfhffjkfaaDoorUtfPlaces
import Derived.Deep.RegionHeld3
namespace Go.Proofs.YtdclopfhffjkfaaDoor
open Go.RowKit
/-- strings.Join at three texts that have just been laid. -/
theorem join_three (x y z : List UInt8) (h : x.length + y.length + z.length ≤ 140737488355328) {g : Nat} {v : World} (hg : Blk v g 9 #[.string (bs x), .string (bs y), .string (bs z)]) :
    Calls Tryd.prog 46 #[.slice (some ⟨g, 0, none⟩) 3 3, .string ⟨#[]⟩] v fun e w' => e = .returned (.string (bs (x ++ (y ++ z)))) ∧ Below v.heap.size v w' := by
  have e : Lib.join ([bs x, bs y, bs z].map (·.data.toList)) (⟨#[]⟩ : ByteArray).data.toList = x ++ (y ++ z) := by
    show Lib.join [x, y, z] [] = _
    simp [Lib.join_cons, Lib.joinTail]
  have J := Tryd.strings_Join g 0 3 [bs x, bs y, bs z] ⟨#[]⟩ v (fun j t hj => by
    rw [Nat.zero_add, hg.cell]
    match j, hj with
    | 0, hj => simpa using hj
    | 1, hj => simpa using hj
    | 2, hj => simpa using hj) hg.lt (by simp) (by simp) (by rw [e]; simp only [List.length_append]; omega)
  rw [e] at J
  exact J
end Go.Proofs.YtdclopfhffjkfaaDoor
/-
  Package entry: a text with another one in the place of what stands between two offsets; what is typed, and typed again.
-/
namespace Go.Proofs.YtdclopfhffjkfaaDoor
open Go.RowKit
theorem Ent.ext_from (s : ByteArray) (i : Nat) : s.extract i s.size = bs (s.data.toList.drop i) := by
  rw [Lib.extract_eq, List.take_of_length_le (by rw [List.length_drop, data_len]; exact Nat.le_refl _)]
  rfl
theorem Ent.ext_to (s : ByteArray) (k : Nat) : s.extract 0 k = bs (s.data.toList.take k) := by
  rw [Lib.extract_eq, List.drop_zero, Nat.sub_zero]
  rfl
set_option maxHeartbeats 2000000 in
set_option maxRecDepth 100000 in
theorem entry_put (s : ByteArray) (a b : Nat) (t : ByteArray) (ha : a ≤ s.size) (hb : b ≤ s.size) (hs : s.size ≤ 1000000000000) (ht : t.size ≤ 1000000000000) (w : World) :
    Calls Tryd.prog 24 #[.string s, .int .i64 a, .int .i64 b, .string t] w fun e w' => e = .returned (.string (bs (Pst.mid s.data.toList a b t.data.toList))) ∧ Below w.heap.size w w' := by
  have hl := data_len s
  have ht2 := data_len t
  have J : Hid (∀ (v : World) (g : Nat), Blk v g 9 #[.string (bs (s.data.toList.take a)), .string t, .string (bs (s.data.toList.drop b))] → Calls Tryd.prog 46 #[.slice (some ⟨g, 0, none⟩) 3 3, .string ⟨#[]⟩] v fun e w' => e = .returned (.string (bs (Pst.mid s.data.toList a b t.data.toList))) ∧ Below v.heap.size v w') := fun v g h =>
    join_three (s.data.toList.take a) t.data.toList (s.data.toList.drop b) (by rw [List.length_take, List.length_drop]; omega) h
  have e1 := Ent.ext_to s a
  have e2 := Ent.ext_from s b
  generalize bs (s.data.toList.take a) = X at *
  generalize bs (s.data.toList.drop b) = Z at *
  generalize bs (Pst.mid s.data.toList a b t.data.toList) = R at *
  have c1 : (a : Int) ≤ (s.size : Int) := by omega
  have c2 : (b : Int) ≤ (s.size : Int) := by omega
  have HB : Blk ((w.alloc (.cells #[.string X, .string t, .string Z] 9)).drew) w.heap.size 9 #[.string X, .string t, .string Z] := Blk.new w 9 #[.string X, .string t, .string Z]
  have HK : Hid (∀ u, Below ((w.alloc (.cells #[.string X, .string t, .string Z] 9)).drew).heap.size ((w.alloc (.cells #[.string X, .string t, .string Z] 9)).drew) u → Below w.heap.size w u) := fun u hu => (((Below.refl w.heap.size w).alloc (Nat.le_refl _) (.cells #[.string X, .string t, .string Z] 9)).drew).trans (hu.mono (((Below.refl w.heap.size w).alloc (Nat.le_refl _) (.cells #[.string X, .string t, .string Z] 9)).drew).size)
  clear hl ht2
  go_enter Tryd.func24, Tryd.ntmps24
  go_wp2_with fail
  go_region_held3 (fun _ => True) (exact trivial)
    ((go_at_call 46; (with_reducible refine (J.out _ _ HB).mono ?_); rintro e u ⟨rfl, hbn⟩; have hX := HK.out u hbn; clear hbn))
  all_goals go_wp2
  all_goals go_ret
  all_goals exact ⟨rfl, hX⟩
theorem Ent.typ_no {s : List UInt8} {p : Int} {y : List UInt8} (h : Utf.place s p = false ∨ Utf.valid y = false) : Ent.typ s p y = Pst.no 1 := by
  rw [Ent.typ, if_neg]
  rcases h with h | h <;> simp [h]
theorem Ent.typ_yes {s : List UInt8} {p : Int} {y : List UInt8} (hp : Utf.place s p = true) (hy : Utf.valid y = true) : Ent.typ s p y = if s.length + y.length ≤ 4096 then (Pst.mid s p.toNat p.toNat y, p + y.length, 0) else Pst.no 8 := by
  rw [Ent.typ, if_pos ⟨hp, hy⟩]
set_option maxHeartbeats 1000000 in
set_option maxRecDepth 100000 in
theorem entry_Type_no (s : ByteArray) (x : Int) (y : ByteArray) (h : Utf.place s.data.toList x = false) (hs : s.size ≤ 1000000000000) (w : World) :
    Calls Tryd.prog 8 #[.string s, .int .i64 x, .string y] w fun e w' => e = .returned (.tuple #[.string ⟨#[]⟩, .int .i64 0, .int .i64 1]) ∧ Below w.heap.size w w' := by
  have c1 := Lib.hid (utf_Place s x (by omega))
  rw [h] at c1
  clear h
  go_enter Tryd.func8, Tryd.ntmps8
  go_wp2_with (go_at_call 21; (with_reducible refine (c1.out _).mono ?_); rintro e w1 ⟨rfl, rfl⟩)
  go_ret3
  exact ⟨rfl, Below.refl _ _⟩
set_option maxHeartbeats 1000000 in
set_option maxRecDepth 100000 in
theorem entry_Type_bad (s : ByteArray) (x : Int) (y : ByteArray) (h : Utf.place s.data.toList x = true) (hv : Utf.valid y.data.toList = false) (hs : s.size ≤ 1000000000000) (hy : y.size ≤ 1000000000000) (w : World) :
    Calls Tryd.prog 8 #[.string s, .int .i64 x, .string y] w fun e w' => e = .returned (.tuple #[.string ⟨#[]⟩, .int .i64 0, .int .i64 1]) ∧ Below w.heap.size w w' := by
  have c1 := Lib.hid (utf_Place s x (by omega))
  have c2 := Lib.hid (utf_Valid y (by omega))
  rw [h] at c1
  rw [hv] at c2
  clear h hv
  go_enter Tryd.func8, Tryd.ntmps8
  go_wp2_with (first
    | (go_at_call 21; (with_reducible refine (c1.out _).mono ?_); rintro e w1 ⟨rfl, rfl⟩)
    | (go_at_call 23; (with_reducible refine (c2.out _).mono ?_); rintro e w1 ⟨rfl, rfl⟩))
  go_ret3
  exact ⟨rfl, Below.refl _ _⟩
set_option maxHeartbeats 1000000 in
set_option maxRecDepth 100000 in
theorem entry_Type_room (s : ByteArray) (x : Int) (y : ByteArray) (h : Utf.place s.data.toList x = true) (hv : Utf.valid y.data.toList = true) (hr : 4096 < s.size + y.size) (hs : s.size ≤ 1000000000000) (hy : y.size ≤ 1000000000000) (w : World) :
    Calls Tryd.prog 8 #[.string s, .int .i64 x, .string y] w fun e w' => e = .returned (.tuple #[.string ⟨#[]⟩, .int .i64 0, .int .i64 8]) ∧ Below w.heap.size w w' := by
  have c1 := Lib.hid (utf_Place s x (by omega))
  have c2 := Lib.hid (utf_Valid y (by omega))
  rw [h] at c1
  rw [hv] at c2
  clear h hv
  go_enter Tryd.func8, Tryd.ntmps8
  go_wp2_with (first
    | (go_at_call 21; (with_reducible refine (c1.out _).mono ?_); rintro e w1 ⟨rfl, rfl⟩)
    | (go_at_call 23; (with_reducible refine (c2.out _).mono ?_); rintro e w1 ⟨rfl, rfl⟩))
  go_ret3
  exact ⟨rfl, Below.refl _ _⟩
set_option maxHeartbeats 1000000 in
set_option maxRecDepth 100000 in
theorem entry_Type_ok (s : ByteArray) (n : Nat) (y : ByteArray) (hn : n ≤ s.size) (h : Utf.place s.data.toList (n : Int) = true) (hv : Utf.valid y.data.toList = true) (hr : s.size + y.size ≤ 4096) (w : World) :
    Calls Tryd.prog 8 #[.string s, .int .i64 n, .string y] w fun e w' => e = .returned (.tuple #[.string (bs (Pst.mid s.data.toList n n y.data.toList)), .int .i64 ((n : Int) + y.size), .int .i64 0]) ∧ Below w.heap.size w w' := by
  have c1 := Lib.hid (utf_Place s (n : Int) (by omega))
  have c2 := Lib.hid (utf_Valid y (by omega))
  have c3 := Lib.hid (fun w => entry_put s n n y hn hn (by omega) (by omega) w)
  rw [h] at c1
  rw [hv] at c2
  clear h hv
  generalize bs (Pst.mid s.data.toList n n y.data.toList) = R at *
  go_enter Tryd.func8, Tryd.ntmps8
  go_wp2_with (first
    | (go_at_call 21; (with_reducible refine (c1.out _).mono ?_); rintro e w1 ⟨rfl, rfl⟩)
    | (go_at_call 23; (with_reducible refine (c2.out _).mono ?_); rintro e w1 ⟨rfl, rfl⟩)
    | (go_at_call 24; (with_reducible refine (c3.out _).mono ?_); rintro e w1 ⟨rfl, hb⟩))
  go_ret3
  exact ⟨rfl, hb⟩
theorem entry_Type (s : ByteArray) (x : Int) (y : ByteArray) (hs : s.size ≤ 1000000000000) (hy : y.size ≤ 1000000000000) (w : World) :
    Calls Tryd.prog 8 #[.string s, .int .i64 x, .string y] w fun e w' => e = .returned (Pst.val (Ent.typ s.data.toList x y.data.toList)) ∧ Below w.heap.size w w' := by
  have hl := data_len s
  have hl2 := data_len y
  cases h : Utf.place s.data.toList x with
  | false => rw [Ent.typ_no (.inl h)]; exact entry_Type_no s x y h hs w
  | true =>
    cases hv : Utf.valid y.data.toList with
    | false => rw [Ent.typ_no (.inr hv)]; exact entry_Type_bad s x y h hv hs hy w
    | true =>
      rw [Ent.typ_yes h hv, hl, hl2]
      by_cases hr : s.size + y.size ≤ 4096
      · rw [if_pos hr]
        obtain ⟨n, rfl, hn⟩ := Line.place_nat h
        rw [Int.toNat_natCast]
        exact entry_Type_ok s n y (by omega) h hv hr w
      · rw [if_neg hr]
        exact entry_Type_room s x y h hv (by omega) hs hy w
end Go.Proofs.YtdclopfhffjkfaaDoor
