/-
  Package look: which of the offsets is next, past both ends.
-/
import Derived.Test.YtpgonbibekffhaaLookAll
import Derived.Test.YtpgonbibekffhaaSearch
import Derived.Test.YtpgonbibekffhaaUtfPlaces
import Derived.BigCall
import Derived.BigQuiet
namespace Go.Proofs.Ytpgonbibekffhaa
open Go.RowKit Go.Shelf
namespace Look
theorem on {w u v : World} (h : Below w.heap.size w u) (g : Below u.heap.size u v) : Below w.heap.size w v := h.trans (g.mono h.size)
theorem res_no {s p : List UInt8} {x : Int} (h : all s p = [] ∨ Utf.place s x = false) (back : Bool) (n : Int) : res s p x back n = .tuple #[.int .i64 0, .bool false] := by
  rw [res, if_neg]
  rintro ⟨h1, h2⟩
  rcases h with h | h
  · exact h1 h
  · rw [h] at h2; cases h2
theorem res_at {s p : List UInt8} {x : Int} (h : all s p ≠ []) (hp : Utf.place s x = true) (back : Bool) (n : Int) : res s p x back n = .tuple #[.int .i64 (nx (all s p) x back (max n 1).toNat), .bool true] := by
  rw [res, if_pos ⟨h, hp⟩]
theorem place_between {s : List UInt8} {x : Int} (h : Utf.place s x = true) : 0 ≤ x ∧ x ≤ (s.length : Int) := by
  by_cases h1 : x < 0
  · rw [Utf.place_out (.inl h1)] at h; cases h
  · by_cases h2 : (s.length : Int) < x
    · rw [Utf.place_out (.inr h2)] at h; cases h
    · omega
theorem all_le (s p : List UInt8) : (all s p).Pairwise (· ≤ ·) := (all_up s p).imp (by intro x y h; omega)
end Look
/-- The cells of a list that a function has made. -/
theorem own_list {w : World} {B : Nat} {v : Value} {xs : List Int} (hr : w.ownsRow B 3 1 v xs.length (xs.map (Value.int .i64))) (h0 : 0 < xs.length) :
    ∃ g c, v = .slice (some ⟨g, 0, none⟩) xs.length c ∧ g < w.heap.size ∧ ∀ (k : Nat) (x : Int), xs[k]? = some x → w.cell? ⟨g, k, none⟩ = some (.int .i64 x) := by
  rcases hr.2 with ⟨_, h2⟩ | ⟨g, cap, cur, rfl, hB, hg, _⟩
  · omega
  · refine ⟨g, cap, rfl, (Array.getElem?_eq_some_iff.1 hg).1, fun k x hx => ?_⟩
    have := hr.cells (g := g) rfl k (.int .i64 x) (by simp [hx])
    have e : (⟨g, 0, none⟩ : Addr).add k = ⟨g, k, none⟩ := by unfold Addr.add; split <;> simp_all
    rw [e] at this
    exact this
set_option maxHeartbeats 1000000 in
set_option maxRecDepth 100000 in
theorem look_Next_no (s : ByteArray) (x : Int) (p : ByteArray) (back : Bool) (n : Int) (hs : s.size ≤ 1000000000000) (hp : p.size ≤ 140737488355328) (h : Look.all s.data.toList p.data.toList = [] ∨ Utf.place s.data.toList x = false) (w : World) :
    Calls Try.prog 10 #[.string s, .int .i64 x, .string p, .bool back, .int .i64 n] w fun e w' => e = .returned (.tuple #[.int .i64 0, .bool false]) ∧ Below w.heap.size w w' := by
  have A := Lib.hid (fun w => look_All s p hs hp w)
  have P := Lib.hid (fun w => utf_Place s x (by omega) w)
  by_cases h0 : Look.all s.data.toList p.data.toList = []
  · rw [h0] at A
    clear h h0
    go_enter Try.func10, Try.ntmps10
    go_wp2_with (go_at_call 8; refine (A.out _).mono ?_; rintro e w1 ⟨⟨v, rfl, hr⟩, hb⟩; obtain ⟨a, c, rfl⟩ := own_shape hr)
    go_ret2
    exact ⟨rfl, hb⟩
  · have hx := h.resolve_left h0
    have hlen : ((Look.all s.data.toList p.data.toList).length == 0) = false := by simpa using h0
    have hlen2 : (((Look.all s.data.toList p.data.toList).length : Int) == 0) = false := by have := List.length_pos_iff.2 h0; simp; omega
    rw [hx] at P
    generalize Look.all s.data.toList p.data.toList = L at *
    clear h hx h0
    go_enter Try.func10, Try.ntmps10
    go_wp2_with (first
      | (go_at_call 8; refine (A.out _).mono ?_; rintro e w1 ⟨⟨v, rfl, hr⟩, hb⟩; obtain ⟨a, c, rfl⟩ := own_shape hr)
      | (go_at_call 12; refine (P.out _).mono ?_; rintro e w2 ⟨rfl, rfl⟩))
    go_ret2
    exact ⟨rfl, hb⟩
theorem Look.steps_eq {n : Int} {q L : Nat} (h : max n 1 = (q : Int) + 1) : ((max n 1).toNat - 1) % L = q % L := by rw [h]; congr 1
set_option maxHeartbeats 1000000 in
set_option maxRecDepth 100000 in
theorem look_Next_on (s : ByteArray) (x : Int) (p : ByteArray) (n : Int) (hs : s.size ≤ 1000000000000) (hp : p.size ≤ 140737488355328) (hn : n ≤ 9223372036854775807) (h0 : Look.all s.data.toList p.data.toList ≠ []) (hx : Utf.place s.data.toList x = true) (w : World) :
    Calls Try.prog 10 #[.string s, .int .i64 x, .string p, .bool false, .int .i64 n] w fun e w' => e = .returned (.tuple #[.int .i64 (Look.nx (Look.all s.data.toList p.data.toList) x false (max n 1).toNat), .bool true]) ∧ Below w.heap.size w w' := by
  have A := Lib.hid (fun w => look_All s p hs hp w)
  have P := Lib.hid (fun w => utf_Place s x (by omega) w)
  have hxb : 0 ≤ x ∧ x ≤ s.size := by
    have := Look.place_between hx
    rw [data_len] at this
    exact this
  rw [hx] at P
  obtain ⟨q, hq⟩ : ∃ q : Nat, max n 1 = (q : Int) + 1 := ⟨(max n 1 - 1).toNat, by omega⟩
  have hal := Look.all_length s.data.toList p.data.toList
  rw [data_len] at hal
  have hle := Look.all_le s.data.toList p.data.toList
  have hnx := Look.nx_at h0 x false (max n 1).toNat
  rw [Look.ix, if_neg (by simp), Look.steps_eq hq] at hnx
  have hL := List.length_pos_iff.2 h0
  generalize Look.nx (Look.all s.data.toList p.data.toList) x false (max n 1).toNat = V at *
  generalize Look.all s.data.toList p.data.toList = L at *
  have hci := Look.cut_le L (x + 1)
  have S := Lib.hid (fun (w : World) (B : Nat) (v : Value) (hr : w.ownsRow B 3 1 v L.length (L.map (Value.int .i64))) =>
    show Calls Try.prog 15 #[v, .int .i64 (x + 1)] w fun e w' => (∃ b, e = .returned (.tuple #[.int .i64 (Look.cut L (x + 1) : Nat), .bool b])) ∧ Below w.heap.size w w' from search_int hr (by omega) hle (x + 1))
  have hwx : IntKind.i64.wrap (x + 1) = x + 1 := wrap_in (by omega) (by omega)
  have hm1 : (q : Int).tmod (L.length : Int) = ((q % L.length : Nat) : Int) := (Int.ofNat_tmod _ _).symm
  have hst := Nat.mod_lt q hL
  generalize q % L.length = st at *
  generalize Look.cut L (x + 1) = i at *
  have hm2 : ((i : Int) + (st : Int)).tmod (L.length : Int) = (((i + st) % L.length : Nat) : Int) := by rw [← Int.natCast_add]; exact (Int.ofNat_tmod _ _).symm
  have hkt := Nat.mod_lt (i + st) hL
  generalize (i + st) % L.length = k at *
  have hw1 : IntKind.i64.wrap (q : Int) = q := wrap_in (by omega) (by omega)
  have hw2 : IntKind.i64.wrap ((i : Int) + (st : Int)) = (i : Int) + (st : Int) := wrap_in (by omega) (by omega)
  have hw3 : IntKind.i64.wrap (st : Int) = st := wrap_in (by omega) (by omega)
  have hw4 : IntKind.i64.wrap (k : Int) = k := wrap_in (by omega) (by omega)
  have g0 : ((L.length : Int) == 0) = false := by simp; omega
  have g1 : ¬ (L.length : Int) = 0 := by omega
  have hki : (k : Int) < (L.length : Int) := by omega
  have HN := Lib.hid hnx
  have HL := Lib.hid hL
  clear hx hle hal hci h0 hnx hL
  go_enter Try.func10, Try.ntmps10
  go_wp2_with (first
    | (go_at_call 8; refine (A.out _).mono ?_; rintro e w1 ⟨⟨v, rfl, hr⟩, hb⟩; obtain ⟨g, c, rfl, hg, hcl⟩ := own_list hr HL.out; have HR := Lib.hid (And.intro hr (And.intro hb (And.intro hg (hcl k V HN.out)))); clear hr hb hg hcl)
    | (go_at_call 12; refine (P.out _).mono ?_; rintro e w2 ⟨rfl, rfl⟩)
    | (go_at_call 15; refine (S.out _ _ _ HR.out.1).mono ?_; rintro e w3 ⟨⟨b, rfl⟩, hb3⟩; have hc3 := (hb3.cell (p := ⟨g, k, none⟩) HR.out.2.2.1).trans HR.out.2.2.2))
  go_ret2
  exact ⟨rfl, Look.on HR.out.2.1 hb3⟩
set_option maxHeartbeats 1000000 in
set_option maxRecDepth 100000 in
theorem look_Next_back (s : ByteArray) (x : Int) (p : ByteArray) (n : Int) (hs : s.size ≤ 1000000000000) (hp : p.size ≤ 140737488355328) (hn : n ≤ 9223372036854775807) (h0 : Look.all s.data.toList p.data.toList ≠ []) (hx : Utf.place s.data.toList x = true) (w : World) :
    Calls Try.prog 10 #[.string s, .int .i64 x, .string p, .bool true, .int .i64 n] w fun e w' => e = .returned (.tuple #[.int .i64 (Look.nx (Look.all s.data.toList p.data.toList) x true (max n 1).toNat), .bool true]) ∧ Below w.heap.size w w' := by
  have A := Lib.hid (fun w => look_All s p hs hp w)
  have P := Lib.hid (fun w => utf_Place s x (by omega) w)
  have hxb : 0 ≤ x ∧ x ≤ s.size := by
    have := Look.place_between hx
    rw [data_len] at this
    exact this
  rw [hx] at P
  obtain ⟨q, hq⟩ : ∃ q : Nat, max n 1 = (q : Int) + 1 := ⟨(max n 1 - 1).toNat, by omega⟩
  have hal := Look.all_length s.data.toList p.data.toList
  rw [data_len] at hal
  have hle := Look.all_le s.data.toList p.data.toList
  have hnx := Look.nx_at h0 x true (max n 1).toNat
  rw [Look.ix, if_pos rfl, Look.steps_eq hq] at hnx
  have hL := List.length_pos_iff.2 h0
  generalize Look.nx (Look.all s.data.toList p.data.toList) x true (max n 1).toNat = V at *
  generalize Look.all s.data.toList p.data.toList = L at *
  have hci := Look.cut_le L x
  have S := Lib.hid (fun (w : World) (B : Nat) (v : Value) (hr : w.ownsRow B 3 1 v L.length (L.map (Value.int .i64))) =>
    show Calls Try.prog 15 #[v, .int .i64 x] w fun e w' => (∃ b, e = .returned (.tuple #[.int .i64 (Look.cut L x : Nat), .bool b])) ∧ Below w.heap.size w w' from search_int hr (by omega) hle x)
  have hm1 : (q : Int).tmod (L.length : Int) = ((q % L.length : Nat) : Int) := (Int.ofNat_tmod _ _).symm
  have hst := Nat.mod_lt q hL
  generalize q % L.length = st at *
  generalize Look.cut L x = i at *
  have hcast : (i : Int) + (L.length : Int) - 1 - (st : Int) = ((i + L.length - 1 - st : Nat) : Int) := by omega
  have hm2 : ((i : Int) + (L.length : Int) - 1 - (st : Int)).tmod (L.length : Int) = (((i + L.length - 1 - st) % L.length : Nat) : Int) := by rw [hcast]; exact (Int.ofNat_tmod _ _).symm
  have hkt := Nat.mod_lt (i + L.length - 1 - st) hL
  generalize (i + L.length - 1 - st) % L.length = k at *
  have hw1 : IntKind.i64.wrap (q : Int) = q := wrap_in (by omega) (by omega)
  have hw2 : IntKind.i64.wrap ((i : Int) + (L.length : Int)) = (i : Int) + (L.length : Int) := wrap_in (by omega) (by omega)
  have hw5 : IntKind.i64.wrap ((i : Int) + (L.length : Int) - 1) = (i : Int) + (L.length : Int) - 1 := wrap_in (by omega) (by omega)
  have hw6 : IntKind.i64.wrap ((i : Int) + (L.length : Int) - 1 - (st : Int)) = (i : Int) + (L.length : Int) - 1 - (st : Int) := wrap_in (by omega) (by omega)
  have hw3 : IntKind.i64.wrap (st : Int) = st := wrap_in (by omega) (by omega)
  have hw4 : IntKind.i64.wrap (k : Int) = k := wrap_in (by omega) (by omega)
  have g0 : ((L.length : Int) == 0) = false := by simp; omega
  have g1 : ¬ (L.length : Int) = 0 := by omega
  have hki : (k : Int) < (L.length : Int) := by omega
  have HN := Lib.hid hnx
  have HL := Lib.hid hL
  clear hx hle hal hci h0 hnx hL hcast
  go_enter Try.func10, Try.ntmps10
  go_wp2_with (first
    | (go_at_call 8; refine (A.out _).mono ?_; rintro e w1 ⟨⟨v, rfl, hr⟩, hb⟩; obtain ⟨g, c, rfl, hg, hcl⟩ := own_list hr HL.out; have HR := Lib.hid (And.intro hr (And.intro hb (And.intro hg (hcl k V HN.out)))); clear hr hb hg hcl)
    | (go_at_call 12; refine (P.out _).mono ?_; rintro e w2 ⟨rfl, rfl⟩)
    | (go_at_call 15; refine (S.out _ _ _ HR.out.1).mono ?_; rintro e w3 ⟨⟨b, rfl⟩, hb3⟩; have hc3 := (hb3.cell (p := ⟨g, k, none⟩) HR.out.2.2.1).trans HR.out.2.2.2))
  go_ret2
  exact ⟨rfl, Look.on HR.out.2.1 hb3⟩
theorem look_Next (s : ByteArray) (x : Int) (p : ByteArray) (back : Bool) (n : Int) (hs : s.size ≤ 1000000000000) (hp : p.size ≤ 140737488355328) (hn : n ≤ 9223372036854775807) (w : World) :
    Calls Try.prog 10 #[.string s, .int .i64 x, .string p, .bool back, .int .i64 n] w fun e w' => e = .returned (Look.res s.data.toList p.data.toList x back n) ∧ Below w.heap.size w w' := by
  by_cases h : Look.all s.data.toList p.data.toList = [] ∨ Utf.place s.data.toList x = false
  · rw [Look.res_no h]
    exact look_Next_no s x p back n hs hp h w
  · have h0 : Look.all s.data.toList p.data.toList ≠ [] := fun h1 => h (.inl h1)
    have hx : Utf.place s.data.toList x = true := by
      cases h1 : Utf.place s.data.toList x with
      | true => rfl
      | false => exact absurd (.inr h1) h
    rw [Look.res_at h0 hx]
    cases back with
    | false => exact look_Next_on s x p n hs hp hn h0 hx w
    | true => exact look_Next_back s x p n hs hp hn h0 hx w
end Go.Proofs.Ytpgonbibekffhaa
