/-
  Keys without a program: a rune's number, signs, names, the text of keys, and the keys of a text.
-/
import Derived.Test.YtchpkeelnfmlbaaGreatUtfIs
import Derived.Lib.RuneBytes
namespace Go.Proofs.YtchpkeelnfmlbaaGreat
namespace Key
open Utf

/-- A rune's number. -/
def cp : List UInt8 → Nat
  | [a] => a.toNat
  | [a, b] => (a.toNat % 32) * 64 + b.toNat % 64
  | [a, b, c] => (a.toNat % 16) * 4096 + (b.toNat % 64) * 64 + c.toNat % 64
  | [a, b, c, d] => (a.toNat % 8) * 262144 + (b.toNat % 64) * 4096 + (c.toNat % 64) * 64 + d.toNat % 64
  | _ => 0

theorem one_cases {r : List UInt8} (h : one r = true) : (∃ a, r = [a]) ∨ (∃ a b, r = [a, b]) ∨ (∃ a b c, r = [a, b, c]) ∨ (∃ a b c d, r = [a, b, c, d]) := by
  have h0 := one_pos h
  have h4 := one_le h
  match r, h0, h4 with
  | [a], _, _ => exact .inl ⟨a, rfl⟩
  | [a, b], _, _ => exact .inr (.inl ⟨a, b, rfl⟩)
  | [a, b, c], _, _ => exact .inr (.inr (.inl ⟨a, b, c, rfl⟩))
  | [a, b, c, d], _, _ => exact .inr (.inr (.inr ⟨a, b, c, d, rfl⟩))
  | _ :: _ :: _ :: _ :: _ :: _, _, h => simp at h

theorem low_high {a b : Nat} (h : low a ≤ b ∧ b ≤ high a) : 128 ≤ b ∧ b ≤ 191 ∧ (a = 224 → 160 ≤ b) ∧ (a = 240 → 144 ≤ b) ∧ (a = 237 → b ≤ 159) ∧ (a = 244 → b ≤ 143) := by
  unfold low high at h
  split at h <;> (try split at h) <;> (try split at h) <;> (try split at h) <;> omega

theorem cp1 {a : UInt8} (h : one [a] = true) : cp [a] = a.toNat ∧ a.toNat < 128 := ⟨rfl, (one1 a).1 h⟩
theorem cp2 {a b : UInt8} (h : one [a, b] = true) : 128 ≤ cp [a, b] ∧ cp [a, b] < 2048 := by
  have := (one2 a b).1 h
  simp only [cp]; omega
theorem cp3 {a b c : UInt8} (h : one [a, b, c] = true) : 2048 ≤ cp [a, b, c] ∧ cp [a, b, c] < 65536 ∧ ¬ (55296 ≤ cp [a, b, c] ∧ cp [a, b, c] < 57344) := by
  obtain ⟨h1, h2, h3⟩ := (one3 a b c).1 h
  have := low_high h2
  simp only [cp]; omega
theorem cp4 {a b c d : UInt8} (h : one [a, b, c, d] = true) : 65536 ≤ cp [a, b, c, d] ∧ cp [a, b, c, d] ≤ 1114111 := by
  obtain ⟨h1, h2, h3⟩ := (one4 a b c d).1 h
  have := low_high h2
  simp only [cp]; omega
theorem cp_le {r : List UInt8} (h : one r = true) : cp r ≤ 1114111 := by
  rcases one_cases h with ⟨a, rfl⟩ | ⟨a, b, rfl⟩ | ⟨a, b, c, rfl⟩ | ⟨a, b, c, d, rfl⟩
  · have := cp1 h; omega
  · have := cp2 h; omega
  · have := cp3 h; omega
  · have := cp4 h; omega
/-- A number below 128 is that of a rune of one byte. -/
theorem cp_small {r : List UInt8} (h : one r = true) (n : UInt8) (hn : n.toNat < 128) : cp r = n.toNat ↔ r = [n] := by
  constructor
  · intro e
    rcases one_cases h with ⟨a, rfl⟩ | ⟨a, b, rfl⟩ | ⟨a, b, c, rfl⟩ | ⟨a, b, c, d, rfl⟩
    · have h1 : a.toNat = n.toNat := e
      rw [UInt8.toNat_inj.1 h1]
    · have := cp2 h; omega
    · have := cp3 h; omega
    · have := cp4 h; omega
  · rintro rfl; rfl

/-- Go's own encoding of a rune's number is the rune. -/
theorem encode_cp {r : List UInt8} (h : one r = true) : Lib.encodeRune (cp r) = r := by
  rcases one_cases h with ⟨a, rfl⟩ | ⟨a, b, rfl⟩ | ⟨a, b, c, rfl⟩ | ⟨a, b, c, d, rfl⟩
  · have h1 := cp1 h
    rw [Lib.encodeRune, Lib.encodeRuneZ_one (by omega) (by omega)]
    simp [h1.1]
  · have h1 := cp2 h
    have h2 := (one2 a b).1 h
    rw [Lib.encodeRune, Lib.encodeRuneZ_two (by omega) (by omega)]
    simp only [List.map_cons, List.map_nil, List.cons.injEq, and_true]
    constructor <;> apply UInt8.toNat_inj.1 <;> simp only [cp, Nat.toUInt8, UInt8.toNat_ofNat'] <;> omega
  · have h1 := cp3 h
    obtain ⟨h2, h3, h4⟩ := (one3 a b c).1 h
    have h5 := low_high h3
    rw [Lib.encodeRune, Lib.encodeRuneZ_three (by omega)]
    simp only [List.map_cons, List.map_nil, List.cons.injEq, and_true]
    refine ⟨?_, ?_, ?_⟩ <;> apply UInt8.toNat_inj.1 <;> simp only [cp, Nat.toUInt8, UInt8.toNat_ofNat'] <;> omega
  · have h1 := cp4 h
    obtain ⟨h2, h3, h4⟩ := (one4 a b c d).1 h
    have h5 := low_high h3
    rw [Lib.encodeRune, Lib.encodeRuneZ_four (by omega) (by omega)]
    simp only [List.map_cons, List.map_nil, List.cons.injEq, and_true]
    refine ⟨?_, ?_, ?_, ?_⟩ <;> apply UInt8.toNat_inj.1 <;> simp only [cp, Nat.toUInt8, UInt8.toNat_ofNat'] <;> omega

/-- So does the model's. -/
theorem utf8_cp {r : List UInt8} (h : one r = true) : Utf8.encode (cp r) = bs r := by
  rcases one_cases h with ⟨a, rfl⟩ | ⟨a, b, rfl⟩ | ⟨a, b, c, rfl⟩ | ⟨a, b, c, d, rfl⟩
  · have h1 := cp1 h
    have hv : Utf8.valid ((cp [a] : Nat) : Int) = true := by simp [Utf8.valid]; omega
    simp only [Utf8.encode, hv, if_true, Int.toNat_natCast]
    rw [if_pos (by omega)]
    simp [bs, h1.1]
  · have h1 := cp2 h
    have h2 := (one2 a b).1 h
    have hv : Utf8.valid ((cp [a, b] : Nat) : Int) = true := by simp [Utf8.valid]; omega
    simp only [Utf8.encode, hv, if_true, Int.toNat_natCast]
    rw [if_neg (by omega), if_pos (by omega)]
    simp only [bs, List.toArray, ByteArray.mk.injEq, Array.mk.injEq, List.cons.injEq, and_true]
    constructor <;> apply UInt8.toNat_inj.1 <;> simp only [cp, UInt8.toNat_ofNat'] <;> omega
  · have h1 := cp3 h
    obtain ⟨h2, h3, h4⟩ := (one3 a b c).1 h
    have h5 := low_high h3
    have hv : Utf8.valid ((cp [a, b, c] : Nat) : Int) = true := by simp [Utf8.valid]; omega
    simp only [Utf8.encode, hv, if_true, Int.toNat_natCast]
    rw [if_neg (by omega), if_neg (by omega), if_pos (by omega)]
    simp only [bs, List.toArray, ByteArray.mk.injEq, Array.mk.injEq, List.cons.injEq, and_true]
    refine ⟨?_, ?_, ?_⟩ <;> apply UInt8.toNat_inj.1 <;> simp only [cp, UInt8.toNat_ofNat'] <;> omega
  · have h1 := cp4 h
    obtain ⟨h2, h3, h4⟩ := (one4 a b c d).1 h
    have h5 := low_high h3
    have hv : Utf8.valid ((cp [a, b, c, d] : Nat) : Int) = true := by simp [Utf8.valid]; omega
    simp only [Utf8.encode, hv, if_true, Int.toNat_natCast]
    rw [if_neg (by omega), if_neg (by omega), if_neg (by omega)]
    simp only [bs, List.toArray, ByteArray.mk.injEq, Array.mk.injEq, List.cons.injEq, and_true]
    refine ⟨?_, ?_, ?_, ?_⟩ <;> apply UInt8.toNat_inj.1 <;> simp only [cp, UInt8.toNat_ofNat'] <;> omega

theorem get_bang (s : ByteArray) (k : Nat) (h : k < s.size) : s.get! k = s[k] := by
  simp [ByteArray.get!, getElem!_pos, h]
  rfl
/-- The byte of a rune of a text. -/
theorem rune_byte (s : ByteArray) {p : Nat} {r : List UInt8} (h : (s.data.toList.drop p).take r.length = r) {k : Nat} {b : UInt8} (hb : r[k]? = some b) : p + k < s.size ∧ s.get! (p + k) = b := by
  have hk : k < r.length := (List.getElem?_eq_some_iff.1 hb).1
  have h1 : s.data.toList[p + k]? = some b := by
    rw [← hb, ← h, List.getElem?_take, if_pos hk, List.getElem?_drop]
  have h2 : p + k < s.data.toList.length := (List.getElem?_eq_some_iff.1 h1).1
  have h3 : p + k < s.size := by simpa using h2
  rw [byte_get s h3] at h1
  exact ⟨h3, by rw [get_bang s _ h3]; injection h1⟩
/-- What the model decodes where a rune stands. -/
theorem decode_at (s : ByteArray) {p : Nat} {r : List UInt8} (h : (s.data.toList.drop p).take r.length = r) (ho : one r = true) : Utf8.decode s p = (cp r, r.length) := by
  rcases one_cases ho with ⟨a, rfl⟩ | ⟨a, b, rfl⟩ | ⟨a, b, c, rfl⟩ | ⟨a, b, c, d, rfl⟩
  · have h0 := rune_byte s h (k := 0) (b := a) rfl
    have h1 := cp1 ho
    simp only [Utf8.decode, h0.2]
    rw [if_pos (by omega)]
    rfl
  · have h0 := rune_byte s h (k := 0) (b := a) rfl
    have h1 := rune_byte s h (k := 1) (b := b) rfl
    have h2 := (one2 a b).1 ho
    have h3 := cp2 ho
    simp only [Utf8.decode, h0.2, h1.2]
    rw [if_neg (by omega), if_pos (by simp [h1.1]; omega)]
    have : a.toNat % 32 * 64 + b.toNat % 64 = cp [a, b] := rfl
    rw [this, if_pos (by omega)]
    rfl
  · have h0 := rune_byte s h (k := 0) (b := a) rfl
    have h1 := rune_byte s h (k := 1) (b := b) rfl
    have h1' := rune_byte s h (k := 2) (b := c) rfl
    obtain ⟨h2, h4, h5⟩ := (one3 a b c).1 ho
    have h6 := low_high h4
    have h3 := cp3 ho
    have hv : Utf8.valid ((cp [a, b, c] : Nat) : Int) = true := by simp [Utf8.valid]; omega
    simp only [Utf8.decode, h0.2, h1.2, h1'.2]
    rw [if_neg (by omega), if_neg (by simp; omega), if_pos (by simp [h1.1, h1'.1]; omega)]
    have : a.toNat % 16 * 4096 + b.toNat % 64 * 64 + c.toNat % 64 = cp [a, b, c] := rfl
    rw [this, hv, if_pos (by simp; omega)]
    rfl
  · have h0 := rune_byte s h (k := 0) (b := a) rfl
    have h1 := rune_byte s h (k := 1) (b := b) rfl
    have h1' := rune_byte s h (k := 2) (b := c) rfl
    have h1'' := rune_byte s h (k := 3) (b := d) rfl
    obtain ⟨h2, h4, h5⟩ := (one4 a b c d).1 ho
    have h6 := low_high h4
    have h3 := cp4 ho
    have hv : Utf8.valid ((cp [a, b, c, d] : Nat) : Int) = true := by simp [Utf8.valid]; omega
    simp only [Utf8.decode, h0.2, h1.2, h1'.2, h1''.2]
    rw [if_neg (by omega), if_neg (by simp; omega), if_neg (by simp; omega), if_pos (by simp [h1.1, h1'.1, h1''.1]; omega)]
    have : a.toNat % 8 * 262144 + b.toNat % 64 * 4096 + c.toNat % 64 * 64 + d.toNat % 64 = cp [a, b, c, d] := rfl
    rw [this, hv, if_pos (by simp; omega)]
    rfl
/-- The rune i of a valid text. -/
theorem decode_rune (s : ByteArray) {rs : List (List UInt8)} (hd : dec s.data.toList = some rs) {i : Nat} {r : List UInt8} (hr : rs[i]? = some r) :
    Utf8.decode s (off rs i) = (cp r, r.length) ∧ off rs i < s.size ∧ off rs (i + 1) = off rs i + r.length ∧ off rs (i + 1) ≤ s.size ∧ one r = true := by
  have hl : s.data.toList.length = s.size := by simp
  have ho : one r = true := (dec_some hd).1 r (List.mem_of_getElem? hr)
  have hs := (dec_some hd).2
  have hn := off_next hr
  have hle := off_le rs (i + 1)
  have hp := one_pos ho
  rw [← hs, hl] at hle
  refine ⟨decode_at s ?_ ho, by omega, hn, hle, ho⟩
  have hi : i < rs.length := (List.getElem?_eq_some_iff.1 hr).1
  have h1 : rs[i] = r := (List.getElem?_eq_some_iff.1 hr).2
  rw [hs, off_drop, List.drop_eq_getElem_cons hi, h1, List.flatten_cons, List.take_left' rfl]

/-- The names. -/
def nBack : List UInt8 := [60, 66, 97, 99, 107, 62]
def nTab : List UInt8 := [60, 84, 97, 98, 62]
def nEnter : List UInt8 := [60, 69, 110, 116, 101, 114, 62]
def nRedo : List UInt8 := [60, 82, 101, 100, 111, 62]
def nWipe : List UInt8 := [60, 87, 105, 112, 101, 62]
def nChop : List UInt8 := [60, 67, 104, 111, 112, 62]
def nEsc : List UInt8 := [60, 69, 115, 99, 62]
def nLt : List UInt8 := [60, 108, 116, 62]
/-- The name in brackets of a key by its number. -/
def nm (n : Nat) : Option (List UInt8) :=
  if n = 8 then some nBack else if n = 9 then some nTab else if n = 13 then some nEnter else if n = 18 then some nRedo else if n = 21 then some nWipe else if n = 23 then some nChop else if n = 27 then some nEsc else if n = 60 then some nLt else none
/-- The number of the key of a name. -/
def code (l : List UInt8) : Option Nat :=
  if l = nBack then some 8 else if l = nTab then some 9 else if l = nEnter then some 13 else if l = nRedo then some 18 else if l = nWipe then some 21 else if l = nChop then some 23 else if l = nEsc then some 27 else if l = nLt then some 60 else none
/-- The eight names with their keys. -/
def tab : List (Nat × List UInt8) := [(8, nBack), (9, nTab), (13, nEnter), (18, nRedo), (21, nWipe), (23, nChop), (27, nEsc), (60, nLt)]
theorem nm_tab {n : Nat} {l : List UInt8} : nm n = some l ↔ (n, l) ∈ tab := by
  unfold nm tab
  constructor
  · intro h
    repeat' split at h
    all_goals first | (cases h; simp_all) | cases h
  · intro h
    simp only [List.mem_cons, Prod.mk.injEq, List.not_mem_nil, or_false] at h
    rcases h with ⟨rfl, rfl⟩ | ⟨rfl, rfl⟩ | ⟨rfl, rfl⟩ | ⟨rfl, rfl⟩ | ⟨rfl, rfl⟩ | ⟨rfl, rfl⟩ | ⟨rfl, rfl⟩ | ⟨rfl, rfl⟩ <;> rfl
theorem code_tab {n : Nat} {l : List UInt8} : code l = some n ↔ (n, l) ∈ tab := by
  unfold code tab
  constructor
  · intro h
    repeat' split at h
    all_goals first | (cases h; simp_all) | cases h
  · intro h
    simp only [List.mem_cons, Prod.mk.injEq, List.not_mem_nil, or_false] at h
    rcases h with ⟨rfl, rfl⟩ | ⟨rfl, rfl⟩ | ⟨rfl, rfl⟩ | ⟨rfl, rfl⟩ | ⟨rfl, rfl⟩ | ⟨rfl, rfl⟩ | ⟨rfl, rfl⟩ | ⟨rfl, rfl⟩ <;> rfl
theorem code_nm {n : Nat} {l : List UInt8} : code l = some n ↔ nm n = some l := by rw [code_tab, nm_tab]
/-- Is a rune a sign? -/
def sgn (r : List UInt8) : Bool := decide (32 ≤ cp r) && decide (cp r ≠ 127)
/-- Is a rune a key? -/
def isKey (r : List UInt8) : Bool := (nm (cp r)).isSome || sgn r
/-- A rune's name; nothing: it is no key. -/
def nameR (r : List UInt8) : List UInt8 := match nm (cp r) with | some l => l | none => if sgn r then r else []
theorem nameR_some {r l : List UInt8} (h : nm (cp r) = some l) : nameR r = l := by simp [nameR, h]
theorem nameR_sgn {r : List UInt8} (h : nm (cp r) = none) (hs : sgn r = true) : nameR r = r := by simp [nameR, h, hs]
theorem nameR_no {r : List UInt8} (h : nm (cp r) = none) (hs : sgn r = false) : nameR r = [] := by simp [nameR, h, hs]
theorem nm_len {n : Nat} {l : List UInt8} (h : nm n = some l) : 4 ≤ l.length ∧ l.length ≤ 7 := by
  rw [nm_tab] at h
  simp only [tab, List.mem_cons, Prod.mk.injEq, List.not_mem_nil, or_false] at h
  rcases h with ⟨rfl, rfl⟩ | ⟨rfl, rfl⟩ | ⟨rfl, rfl⟩ | ⟨rfl, rfl⟩ | ⟨rfl, rfl⟩ | ⟨rfl, rfl⟩ | ⟨rfl, rfl⟩ | ⟨rfl, rfl⟩ <;> decide
theorem nameR_key {r : List UInt8} (ho : one r = true) : (nameR r = []) ↔ isKey r = false := by
  unfold nameR isKey
  cases h : nm (cp r) with
  | some l => have := nm_len h; simp; intro h0; subst h0; simp at this
  | none =>
    cases hs : sgn r with
    | true => have := one_pos ho; simp; intro h0; subst h0; simp at this
    | false => simp
theorem nameR_le {r : List UInt8} (ho : one r = true) : (nameR r).length ≤ 7 := by
  unfold nameR
  cases h : nm (cp r) with
  | some l => exact (nm_len h).2
  | none =>
    have := one_le ho
    simp only []
    split
    · omega
    · simp
theorem names_le {rs : List (List UInt8)} (h : ∀ r ∈ rs, one r = true) : (rs.map nameR).flatten.length ≤ 7 * rs.length := by
  induction rs with
  | nil => simp
  | cons r rs ih =>
    have h1 := nameR_le (h r (by simp))
    have h2 := ih (fun x hx => h x (by simp [hx]))
    simp only [List.map_cons, List.flatten_cons, List.length_append, List.length_cons]; omega

/-- What keeps a text from being keys. -/
def err (s : List UInt8) : Int := match dec s with | none => 5 | some rs => if rs.all isKey then 0 else 9
/-- The text of keys; nothing, if they are none. -/
def text (s : List UInt8) : List UInt8 := match dec s with | none => [] | some rs => if rs.all isKey then (rs.map nameR).flatten else []
/-- The keys, one by one. -/
def split (s : List UInt8) : List (List UInt8) := match dec s with | none => [] | some rs => if rs.all isKey then rs else []
theorem err_bad {s : List UInt8} (h : dec s = none) : err s = 5 := by simp [err, h]
theorem err_ok {s : List UInt8} {rs} (h : dec s = some rs) (k : rs.all isKey = true) : err s = 0 := by simp [err, h, k]
theorem err_key {s : List UInt8} {rs} (h : dec s = some rs) (k : rs.all isKey = false) : err s = 9 := by simp [err, h, k]
theorem text_ok {s : List UInt8} {rs} (h : dec s = some rs) (k : rs.all isKey = true) : text s = (rs.map nameR).flatten := by simp [text, h, k]
theorem text_no {s : List UInt8} (h : err s ≠ 0) : text s = [] := by
  cases hd : dec s with
  | none => simp [text, hd]
  | some rs =>
    cases k : rs.all isKey with
    | true => exact absurd (err_ok hd k) h
    | false => simp [text, hd, k]
theorem split_ok {s : List UInt8} {rs} (h : dec s = some rs) (k : rs.all isKey = true) : split s = rs := by simp [split, h, k]
theorem split_no {s : List UInt8} (h : err s ≠ 0) : split s = [] := by
  cases hd : dec s with
  | none => simp [split, hd]
  | some rs =>
    cases k : rs.all isKey with
    | true => exact absurd (err_ok hd k) h
    | false => simp [split, hd, k]

/-- The keys of a text's runes: outside of brackets, or inside, behind these bytes. -/
def go : Option (List UInt8) → List (List UInt8) → Option (List (List UInt8))
  | none, [] => some []
  | some _, [] => none
  | none, r :: t => if r = [60] then go (some [60]) t else if sgn r then (go none t).map (r :: ·) else none
  | some p, r :: t => if r = [62] then (match code (p ++ [62]) with | some c => (go none t).map ([UInt8.ofNat c] :: ·) | none => none) else go (some (p ++ r)) t
theorem go_nil : go none [] = some [] := rfl
theorem go_open (p : List UInt8) : go (some p) [] = none := rfl
theorem go_lt (t : List (List UInt8)) : go none ([60] :: t) = go (some [60]) t := by simp [go]
theorem go_sgn {r : List UInt8} (t : List (List UInt8)) (h : r ≠ [60]) (hs : sgn r = true) : go none (r :: t) = (go none t).map (r :: ·) := by simp [go, h, hs]
theorem go_bad {r : List UInt8} (t : List (List UInt8)) (h : r ≠ [60]) (hs : sgn r = false) : go none (r :: t) = none := by simp [go, h, hs]
theorem go_in {r : List UInt8} (p : List UInt8) (t : List (List UInt8)) (h : r ≠ [62]) : go (some p) (r :: t) = go (some (p ++ r)) t := by simp [go, h]
theorem go_gt {p : List UInt8} {c : Nat} (t : List (List UInt8)) (h : code (p ++ [62]) = some c) : go (some p) ([62] :: t) = (go none t).map ([UInt8.ofNat c] :: ·) := by simp [go, h]
theorem go_none {p : List UInt8} (t : List (List UInt8)) (h : code (p ++ [62]) = none) : go (some p) ([62] :: t) = none := by simp [go, h]
/-- A name's runes: each is a byte. -/
def sing (l : List UInt8) : List (List UInt8) := l.map ([·])
theorem sing_flat (l : List UInt8) : (sing l).flatten = l := by induction l with | nil => rfl | cons a l ih => simp only [sing, List.map_cons, List.flatten_cons] at ih ⊢; rw [ih]; rfl
theorem go_name {n : Nat} {l : List UInt8} (h : nm n = some l) (t : List (List UInt8)) : go none (sing l ++ t) = (go none t).map ([UInt8.ofNat n] :: ·) := by
  rw [nm_tab] at h
  simp only [tab, List.mem_cons, Prod.mk.injEq, List.not_mem_nil, or_false] at h
  rcases h with ⟨rfl, rfl⟩ | ⟨rfl, rfl⟩ | ⟨rfl, rfl⟩ | ⟨rfl, rfl⟩ | ⟨rfl, rfl⟩ | ⟨rfl, rfl⟩ | ⟨rfl, rfl⟩ | ⟨rfl, rfl⟩ <;> rfl
/-- What ends inside of brackets begins with a name. -/
theorem go_some {ts : List (List UInt8)} {p : List UInt8} {ks : List (List UInt8)} (h : go (some p) ts = some ks) : ∃ n l, nm n = some l ∧ l <+: p ++ ts.flatten := by
  induction ts generalizing p with
  | nil => cases h
  | cons r t ih =>
    by_cases hr : r = [62]
    · subst hr
      cases hc : code (p ++ [62]) with
      | none => rw [go_none t hc] at h; cases h
      | some c =>
        refine ⟨c, p ++ [62], code_nm.1 hc, ⟨t.flatten, ?_⟩⟩
        simp
    · rw [go_in p t hr] at h
      obtain ⟨n, l, h1, h2⟩ := ih h
      exact ⟨n, l, h1, by simpa using h2⟩
theorem go_no {t : List (List UInt8)} (h : ∀ n l, nm n = some l → ¬ l <+: ([60] :: t).flatten) : go none ([60] :: t) = none := by
  rw [go_lt]
  cases hg : go (some [60]) t with
  | none => rfl
  | some ks =>
    obtain ⟨n, l, h1, h2⟩ := go_some hg
    exact absurd (by simpa using h2) (h n l h1)
/-- Runes that begin with the bytes of a name begin with its runes. -/
theorem sing_take {l : List UInt8} {rs : List (List UInt8)} (h : ∀ r ∈ rs, one r = true) (hl : ∀ a ∈ l, a.toNat < 128) (hp : l <+: rs.flatten) : ∃ t, rs = sing l ++ t := by
  induction l generalizing rs with
  | nil => exact ⟨rs, rfl⟩
  | cons a l ih =>
    obtain ⟨z, hz⟩ := hp
    cases rs with
    | nil => cases hz
    | cons r rs =>
      have ho := h r (by simp)
      have h1 : one (a :: []) = true := (one1 a).2 (hl a (by simp))
      have h2 := one_more (rs.flatten) ho
      have h3 := one_more (l ++ z) h1
      rw [List.flatten_cons] at hz
      rw [← hz] at h2
      have h4 : r.length = 1 := by
        have e : (a :: l ++ z) = [a] ++ (l ++ z) := rfl
        rw [e, h3] at h2
        simpa using h2.symm
      obtain ⟨b, rfl⟩ := List.length_eq_one_iff.1 h4
      simp only [List.cons_append, List.nil_append, List.cons.injEq] at hz
      obtain ⟨t, ht⟩ := ih (fun x hx => h x (by simp [hx])) (fun x hx => hl x (by simp [hx])) ⟨z, hz.2⟩
      exact ⟨t, by simp [sing, hz.1, ht]⟩
theorem nm_ascii {n : Nat} {l : List UInt8} (h : nm n = some l) : ∀ a ∈ l, a.toNat < 128 := by
  rw [nm_tab] at h
  simp only [tab, List.mem_cons, Prod.mk.injEq, List.not_mem_nil, or_false] at h
  rcases h with ⟨rfl, rfl⟩ | ⟨rfl, rfl⟩ | ⟨rfl, rfl⟩ | ⟨rfl, rfl⟩ | ⟨rfl, rfl⟩ | ⟨rfl, rfl⟩ | ⟨rfl, rfl⟩ | ⟨rfl, rfl⟩ <;> decide
theorem nm_prefix {n m : Nat} {l k : List UInt8} {s : List UInt8} (h : nm n = some l) (g : nm m = some k) (hl : l <+: s) (hk : k <+: s) : n = m := by
  have key : ∀ p ∈ tab, ∀ q ∈ tab, p.2 <+: q.2 → p.1 = q.1 := by decide
  rcases List.prefix_or_prefix_of_prefix hl hk with h1 | h1
  · exact key (n, l) (nm_tab.1 h) (m, k) (nm_tab.1 g) h1
  · exact (key (m, k) (nm_tab.1 g) (n, l) (nm_tab.1 h) h1).symm
/-- The keys of a text. -/
def keys (s : List UInt8) : Option (List (List UInt8)) := (dec s).bind (go none)
/-- What Parse answers: the keys, or nothing; and the error. -/
def parseK (s : List UInt8) : List UInt8 := match keys s with | some ks => ks.flatten | none => []
def parseE (s : List UInt8) : Int := match dec s with | none => 5 | some rs => match go none rs with | some _ => 0 | none => 3
theorem parse_bad {s : List UInt8} (h : dec s = none) : parseK s = [] ∧ parseE s = 5 := by simp [parseK, parseE, keys, h]
theorem parse_no {s : List UInt8} {rs} (h : dec s = some rs) (g : go none rs = none) : parseK s = [] ∧ parseE s = 3 := by simp [parseK, parseE, keys, h, g]
theorem parse_ok {s : List UInt8} {rs ks} (h : dec s = some rs) (g : go none rs = some ks) : parseK s = ks.flatten ∧ parseE s = 0 := by simp [parseK, parseE, keys, h, g]

/-! ### Back -/
/-- The runes of a key's name. -/
def nameRs (r : List UInt8) : List (List UInt8) := match nm (cp r) with | some l => sing l | none => [r]
theorem sing_one {l : List UInt8} (hl : ∀ a ∈ l, a.toNat < 128) : ∀ r ∈ sing l, one r = true := by
  intro r hr
  simp only [sing, List.mem_map] at hr
  obtain ⟨a, ha, rfl⟩ := hr
  exact (one1 a).2 (hl a ha)
theorem nameRs_one {r : List UInt8} (ho : one r = true) : ∀ x ∈ nameRs r, one x = true := by
  unfold nameRs
  cases h : nm (cp r) with
  | some l => exact sing_one (nm_ascii h)
  | none => intro x hx; simp at hx; rw [hx]; exact ho
theorem nameRs_flat {r : List UInt8} (hk : isKey r = true) : (nameRs r).flatten = nameR r := by
  unfold nameRs nameR
  cases h : nm (cp r) with
  | some l => simp [sing_flat]
  | none =>
    have : sgn r = true := by simpa [isKey, h] using hk
    simp [this]
theorem nm_cp {r : List UInt8} {l : List UInt8} (ho : one r = true) (h : nm (cp r) = some l) : r = [UInt8.ofNat (cp r)] := by
  have h1 := nm_tab.1 h
  have hlt : cp r < 128 := by
    simp only [tab, List.mem_cons, Prod.mk.injEq, List.not_mem_nil, or_false] at h1
    omega
  exact (cp_small ho (UInt8.ofNat (cp r)) (by rw [UInt8.toNat_ofNat']; omega)).1 (by rw [UInt8.toNat_ofNat']; omega)
theorem nm60 : nm 60 = some nLt := rfl
theorem go_key {r : List UInt8} (ho : one r = true) (hk : isKey r = true) (t : List (List UInt8)) : go none (nameRs r ++ t) = (go none t).map (r :: ·) := by
  cases h : nm (cp r) with
  | some l =>
    have e : nameRs r = sing l := by simp [nameRs, h]
    rw [e, go_name h]
    rw [← nm_cp ho h]
  | none =>
    have hs : sgn r = true := by simpa [isKey, h] using hk
    have e : nameRs r = [r] := by simp [nameRs, h]
    have hne : r ≠ [60] := by rintro rfl; rw [show cp [60] = 60 from rfl, nm60] at h; cases h
    rw [e]
    exact go_sgn t hne hs
theorem back_one {ks : List (List UInt8)} (ho : ∀ r ∈ ks, one r = true) (hk : ks.all isKey = true) : dec (ks.map nameR).flatten = some (ks.map nameRs).flatten ∧ go none (ks.map nameRs).flatten = some ks := by
  induction ks with
  | nil => exact ⟨dec_nil, rfl⟩
  | cons r ks ih =>
    have hk' : isKey r = true ∧ ks.all isKey = true := by simpa using hk
    obtain ⟨h1, h2⟩ := ih (fun x hx => ho x (by simp [hx])) hk'.2
    simp only [List.map_cons, List.flatten_cons]
    constructor
    · rw [← nameRs_flat hk'.1, dec_all _ (nameRs_one (ho r (by simp))), h1]
      rfl
    · rw [go_key (ho r (by simp)) hk'.1, h2]
      rfl
/-- The keys that are told are keys, and the text is theirs. -/
theorem go_back {ts : List (List UInt8)} (ho : ∀ r ∈ ts, one r = true) :
    (∀ ks, go none ts = some ks → (∀ r ∈ ks, one r = true) ∧ ks.all isKey = true ∧ (ks.map nameR).flatten = ts.flatten)
    ∧ (∀ p ks, go (some p) ts = some ks → (∀ r ∈ ks, one r = true) ∧ ks.all isKey = true ∧ (ks.map nameR).flatten = p ++ ts.flatten) := by
  induction ts with
  | nil =>
    constructor
    · intro ks h; cases h; simp
    · intro p ks h; cases h
  | cons r t ih =>
    obtain ⟨i1, i2⟩ := ih (fun x hx => ho x (by simp [hx]))
    constructor
    · intro ks h
      by_cases h1 : r = [60]
      · subst h1
        rw [go_lt] at h
        have := i2 _ _ h
        simpa using this
      · cases hs : sgn r with
        | false => rw [go_bad t h1 hs] at h; cases h
        | true =>
          rw [go_sgn t h1 hs] at h
          cases hg : go none t with
          | none => rw [hg] at h; cases h
          | some qs =>
            rw [hg] at h
            cases h
            obtain ⟨j1, j2, j3⟩ := i1 qs hg
            have hor := ho r (by simp)
            have hn : nm (cp r) = none := by
              cases hn : nm (cp r) with
              | none => rfl
              | some l =>
                exfalso
                have h2 := nm_tab.1 hn
                have h3 := nm_cp hor hn
                simp only [sgn, Bool.and_eq_true, decide_eq_true_eq] at hs
                simp only [tab, List.mem_cons, Prod.mk.injEq, List.not_mem_nil, or_false] at h2
                have h4 : cp r = 60 := by omega
                rw [h4] at h3
                exact h1 h3
            refine ⟨?_, ?_, ?_⟩
            · intro x hx
              rcases List.mem_cons.1 hx with rfl | hx
              · exact hor
              · exact j1 x hx
            · simp [isKey, hs, j2]
            · simp [nameR_sgn hn hs, j3]
    · intro p ks h
      by_cases h1 : r = [62]
      · subst h1
        cases hc : code (p ++ [62]) with
        | none => rw [go_none t hc] at h; cases h
        | some c =>
          rw [go_gt t hc] at h
          cases hg : go none t with
          | none => rw [hg] at h; cases h
          | some qs =>
            rw [hg] at h
            cases h
            obtain ⟨j1, j2, j3⟩ := i1 qs hg
            have h2 := code_nm.1 hc
            have h3 := nm_tab.1 h2
            have h4 : c < 128 := by
              simp only [tab, List.mem_cons, Prod.mk.injEq, List.not_mem_nil, or_false] at h3
              omega
            have h5 : cp [UInt8.ofNat c] = c := by simp only [cp, UInt8.toNat_ofNat']; omega
            refine ⟨?_, ?_, ?_⟩
            · intro x hx
              rcases List.mem_cons.1 hx with rfl | hx
              · exact (one1 _).2 (by rw [UInt8.toNat_ofNat']; omega)
              · exact j1 x hx
            · simp [isKey, h5, h2, j2]
            · have : nameR [UInt8.ofNat c] = p ++ [62] := nameR_some (by rw [h5]; exact h2)
              simp [this, j3]
      · rw [go_in p t h1] at h
        have := i2 _ _ h
        simpa using this
/-- Keys behind keys. -/
theorem dec_join {a b : List UInt8} {rs qs : List (List UInt8)} (ha : dec a = some rs) (hb : dec b = some qs) : dec (a ++ b) = some (rs ++ qs) := by
  rw [(dec_some ha).2, dec_all b (dec_some ha).1, hb]
  rfl
end Key
/-- Is the rune i there? -/
theorem rune_or_end {rs : List (List UInt8)} (i : Nat) : (∃ r, rs[i]? = some r) ∨ rs.length ≤ i := by
  rcases Nat.lt_or_ge i rs.length with h | h
  · exact .inl ⟨_, List.getElem?_eq_getElem h⟩
  · exact .inr h
theorem off_len {s : ByteArray} {rs : List (List UInt8)} (hd : Utf.dec s.data.toList = some rs) {i : Nat} (h : rs.length ≤ i) : Utf.off rs i = s.size := by
  rw [Utf.off_all h, ← (Utf.dec_some hd).2]; simp
/-- Two places of a list of places, one behind the other, and the rune between them. -/
theorem between (s : ByteArray) {rs : List (List UInt8)} (hd : Utf.dec s.data.toList = some rs) {k : Nat} {r : List UInt8} (hr : rs[k]? = some r) : s.extract (Utf.off rs k) (Utf.off rs (k + 1)) = bs r := by
  have := Utf.off_piece hr
  rw [← (Utf.dec_some hd).2] at this
  rw [Lib.extract_eq, ← this, List.drop_take]
  rfl
end Go.Proofs.YtchpkeelnfmlbaaGreat
