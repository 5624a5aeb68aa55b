/-
  Plain facts on registers of 32 bits: a step keeps apart what is apart, steps go over sums of bits, eight steps by a table are eight steps, and bits that are turned within 32 in a row lead to another register.
-/
import Derived.Test.YtjhdgbdnbfieiaaRows
namespace Go.Proofs.Ytjhdgbdnbfieiaa.Crc

/-- The polynomial. -/
def poly : Nat := 3988292384
/-- One step of a register. -/
def step1 (r : Nat) : Nat := if r % 2 = 1 then (r / 2) ^^^ poly else r / 2
def steps : Nat → Nat → Nat
  | 0, r => r
  | k + 1, r => steps k (step1 r)
def step8 (r : Nat) : Nat := steps 8 r

theorem poly_lt : poly < 2 ^ 32 := by decide
theorem poly_top : poly.testBit 31 = true := by decide
theorem step1_lt {r : Nat} (h : r < 2 ^ 32) : step1 r < 2 ^ 32 := by
  unfold step1
  split
  · exact Nat.xor_lt_two_pow (by omega) poly_lt
  · omega
theorem steps_lt : ∀ (k : Nat) {r : Nat}, r < 2 ^ 32 → steps k r < 2 ^ 32
  | 0, _, h => h
  | k + 1, _, h => steps_lt k (step1_lt h)
theorem step8_lt {r : Nat} (h : r < 2 ^ 32) : step8 r < 2 ^ 32 := steps_lt 8 h

theorem xor_mod2 (a b : Nat) : (a ^^^ b) % 2 = (a % 2 + b % 2) % 2 := by
  have h := Nat.testBit_xor (x := a) (y := b) (i := 0)
  simp only [Nat.testBit_zero] at h
  have ha := Nat.mod_two_eq_zero_or_one a
  have hb := Nat.mod_two_eq_zero_or_one b
  have hc := Nat.mod_two_eq_zero_or_one (a ^^^ b)
  rcases ha with ha | ha <;> rcases hb with hb | hb <;> rcases hc with hc | hc <;> simp_all
theorem xor_div2 (a b : Nat) : (a ^^^ b) / 2 = (a / 2) ^^^ (b / 2) := by
  apply Nat.eq_of_testBit_eq
  intro i
  simp [Nat.testBit_div_two, Nat.testBit_xor]
theorem step1_xor (a b : Nat) : step1 (a ^^^ b) = step1 a ^^^ step1 b := by
  unfold step1
  rw [xor_mod2, xor_div2]
  have ha := Nat.mod_two_eq_zero_or_one a
  have hb := Nat.mod_two_eq_zero_or_one b
  rcases ha with ha | ha <;> rcases hb with hb | hb <;> simp only [ha, hb]
  · simp
  · simp [Nat.xor_assoc]
  · have e : (a / 2 ^^^ b / 2) ^^^ poly = (a / 2 ^^^ poly) ^^^ b / 2 := by rw [Nat.xor_assoc, Nat.xor_comm (b / 2), ← Nat.xor_assoc]
    simpa using e
  · simp only [if_true]
    have : (a / 2 ^^^ poly) ^^^ (b / 2 ^^^ poly) = a / 2 ^^^ b / 2 := by
      rw [Nat.xor_assoc, Nat.xor_comm poly, Nat.xor_assoc, Nat.xor_self, Nat.xor_zero]
    rw [this]
    simp
theorem steps_xor : ∀ (k a b : Nat), steps k (a ^^^ b) = steps k a ^^^ steps k b
  | 0, _, _ => rfl
  | k + 1, a, b => by rw [steps, step1_xor, steps_xor k]; rfl
theorem step1_double (z : Nat) : step1 (2 * z) = z := by
  unfold step1
  rw [if_neg (by omega)]
  omega
theorem step1_top {r : Nat} (h : r < 2 ^ 32) : (step1 r).testBit 31 = decide (r % 2 = 1) := by
  have h0 : (r / 2).testBit 31 = false := Nat.testBit_lt_two_pow (by omega)
  unfold step1
  split
  · rw [Nat.testBit_xor, h0, poly_top]; simp [*]
  · rw [h0]; simp [*]
theorem step1_inj {a b : Nat} (ha : a < 2 ^ 32) (hb : b < 2 ^ 32) (h : step1 a = step1 b) : a = b := by
  have ht : decide (a % 2 = 1) = decide (b % 2 = 1) := by rw [← step1_top ha, ← step1_top hb, h]
  have hm : a % 2 = b % 2 := by
    have h1 := Nat.mod_two_eq_zero_or_one a
    have h2 := Nat.mod_two_eq_zero_or_one b
    rcases h1 with h1 | h1 <;> rcases h2 with h2 | h2 <;> simp_all
  have hd : a / 2 = b / 2 := by
    unfold step1 at h
    rw [hm] at h
    split at h
    · have := congrArg (· ^^^ poly) h
      simpa [Nat.xor_assoc] using this
    · exact h
  omega
theorem steps_inj : ∀ (k : Nat) {a b : Nat}, a < 2 ^ 32 → b < 2 ^ 32 → steps k a = steps k b → a = b
  | 0, _, _, _, _, h => h
  | k + 1, _, _, ha, hb, h => step1_inj ha hb (steps_inj k (step1_lt ha) (step1_lt hb) h)

/-- Of a register that is a multiple of 256 eight steps leave the rest. -/
theorem step8_high (h : Nat) : step8 (256 * h) = h := by
  unfold step8
  simp only [steps]
  rw [show 256 * h = 2 * (2 * (2 * (2 * (2 * (2 * (2 * (2 * h))))))) from by omega]
  simp only [step1_double]
theorem split256 (r : Nat) : r = (256 * (r / 256)) ^^^ (r % 256) := by
  have h1 : r = 2 ^ 8 * (r / 256) + r % 256 := by omega
  have h2 := Nat.two_pow_add_eq_or_of_lt (i := 8) (show r % 256 < 2 ^ 8 by omega) (r / 256)
  have h3 : (2 ^ 8 * (r / 256)) ^^^ (r % 256) = (2 ^ 8 * (r / 256)) ||| (r % 256) := by
    apply Nat.eq_of_testBit_eq
    intro i
    rw [Nat.testBit_xor, Nat.testBit_or]
    by_cases hi : i < 8
    · have : (2 ^ 8 * (r / 256)).testBit i = false := by
        rw [Nat.testBit_two_pow_mul]; simp; omega
      simp [this]
    · have : (r % 256).testBit i = false := Nat.testBit_lt_two_pow (Nat.lt_of_lt_of_le (show r % 256 < 2 ^ 8 by omega) (Nat.pow_le_pow_right (by omega) (by omega)))
      simp [this]
  show r = (2 ^ 8 * (r / 256)) ^^^ (r % 256)
  rw [h3, ← h2]
  exact h1
/-- Eight steps by a table of them: the lowest byte is looked up, the others move down. -/
theorem step8_table (r : Nat) : step8 r = step8 (r % 256) ^^^ (r / 256) := by
  have h : step8 r = step8 ((256 * (r / 256)) ^^^ (r % 256)) := congrArg step8 (split256 r)
  rw [h]
  unfold step8
  rw [steps_xor]
  have := step8_high (r / 256)
  unfold step8 at this
  rw [this, Nat.xor_comm]

/-- The register behind bytes. -/
def over (r : Nat) (l : List UInt8) : Nat := l.foldl (fun r b => step8 (r ^^^ b.toNat)) r
theorem byte_lt (b : UInt8) : b.toNat < 2 ^ 32 := by have := b.toNat_lt; omega
theorem over_lt : ∀ (l : List UInt8) {r : Nat}, r < 2 ^ 32 → over r l < 2 ^ 32
  | [], _, h => h
  | b :: l, _, h => over_lt l (step8_lt (Nat.xor_lt_two_pow h (byte_lt b)))
theorem over_append (r : Nat) (a b : List UInt8) : over r (a ++ b) = over (over r a) b := by simp [over, List.foldl_append]
def full : Nat := 4294967295
/-- The sum of bytes behind others of this sum. -/
def more (sum : Nat) (l : List UInt8) : Nat := over (sum ^^^ full) l ^^^ full
def sum (l : List UInt8) : Nat := more 0 l
theorem full_lt : full < 2 ^ 32 := by decide
theorem more_lt {s : Nat} (h : s < 2 ^ 32) (l : List UInt8) : more s l < 2 ^ 32 := Nat.xor_lt_two_pow (over_lt l (Nat.xor_lt_two_pow h full_lt)) full_lt
theorem sum_lt (l : List UInt8) : sum l < 2 ^ 32 := more_lt (by decide) l
theorem more_more (s : Nat) (a b : List UInt8) : more (more s a) b = more s (a ++ b) := by
  unfold more
  rw [over_append, Nat.xor_assoc, Nat.xor_self, Nat.xor_zero]
theorem more_sum (a b : List UInt8) : more (sum a) b = sum (a ++ b) := more_more 0 a b

/-! bits -/
def bit (b : Bool) : Nat := if b then 1 else 0
/-- The register behind bits. -/
def overBits (r : Nat) (u : List Bool) : Nat := u.foldl (fun r b => step1 (r ^^^ bit b)) r
/-- The number that bits tell, the lowest first. -/
def val : List Bool → Nat
  | [] => 0
  | b :: u => bit b + 2 * val u
theorem val_lt : ∀ u : List Bool, val u < 2 ^ u.length
  | [] => by simp [val]
  | b :: u => by have := val_lt u; simp only [val, List.length_cons, Nat.pow_succ]; cases b <;> simp [bit] <;> omega
theorem val_inj : ∀ (u v : List Bool), u.length = v.length → val u = val v → u = v
  | [], [], _, _ => rfl
  | [], _ :: _, h, _ => by simp at h
  | _ :: _, [], h, _ => by simp at h
  | a :: u, b :: v, h, hv => by
    simp only [val] at hv
    simp only [List.length_cons, Nat.add_right_cancel_iff] at h
    have hab : a = b := by cases a <;> cases b <;> simp [bit] at hv ⊢ <;> omega
    subst hab
    rw [val_inj u v h (by omega)]
theorem bit_double (b : Bool) (z : Nat) : bit b + 2 * z = bit b ^^^ (2 * z) := by
  apply Nat.eq_of_testBit_eq
  intro i
  cases i with
  | zero => cases b <;> simp [bit, Nat.testBit_zero, Nat.add_mod]
  | succ i =>
    rw [Nat.testBit_xor, Nat.testBit_succ, Nat.testBit_succ, Nat.testBit_succ]
    have h1 : (bit b + 2 * z) / 2 = z := by cases b <;> simp [bit] <;> omega
    have h2 : bit b / 2 = 0 := by cases b <;> simp [bit]
    have h3 : 2 * z / 2 = z := by omega
    rw [h1, h2, h3]
    simp
theorem overBits_val : ∀ (u : List Bool) (r : Nat), overBits r u = steps u.length (r ^^^ val u)
  | [], r => by simp [overBits, val, steps]
  | b :: u, r => by
    have ih := overBits_val u (step1 (r ^^^ bit b))
    show overBits (step1 (r ^^^ bit b)) u = _
    rw [ih, List.length_cons, steps, val, bit_double, ← Nat.xor_assoc, step1_xor (r ^^^ bit b), step1_double]
theorem bit_lt (b : Bool) : bit b < 2 ^ 32 := by cases b <;> decide
theorem overBits_lt : ∀ (u : List Bool) {r : Nat}, r < 2 ^ 32 → overBits r u < 2 ^ 32
  | [], _, h => h
  | b :: u, _, h => overBits_lt u (step1_lt (Nat.xor_lt_two_pow h (bit_lt b)))
theorem overBits_append (r : Nat) (u v : List Bool) : overBits r (u ++ v) = overBits (overBits r u) v := by simp [overBits, List.foldl_append]
theorem xor_inj {a b c : Nat} (h : a ^^^ c = b ^^^ c) : a = b := by
  have := congrArg (· ^^^ c) h
  simpa [Nat.xor_assoc] using this
theorem overBits_inj : ∀ (u : List Bool) {a b : Nat}, a < 2 ^ 32 → b < 2 ^ 32 → overBits a u = overBits b u → a = b
  | [], _, _, _, _, h => h
  | c :: u, _, _, ha, hb, h =>
    xor_inj (step1_inj (Nat.xor_lt_two_pow ha (bit_lt c)) (Nat.xor_lt_two_pow hb (bit_lt c)) (overBits_inj u (step1_lt (Nat.xor_lt_two_pow ha (bit_lt c))) (step1_lt (Nat.xor_lt_two_pow hb (bit_lt c))) h))
/-- Bits within 32 in a row that are others lead to another register. -/
theorem burst {r : Nat} (hr : r < 2 ^ 32) (p u v q : List Bool) (hl : u.length = v.length) (h32 : u.length ≤ 32) (h : overBits r (p ++ (u ++ q)) = overBits r (p ++ (v ++ q))) : u = v := by
  rw [overBits_append, overBits_append, overBits_append _ _ (v ++ q), overBits_append _ v] at h
  have hp := overBits_lt p hr
  generalize overBits r p = s at hp h
  have h1 := overBits_inj q (overBits_lt u hp) (overBits_lt v hp) h
  rw [overBits_val, overBits_val, ← hl] at h1
  have hu : val u < 2 ^ 32 := Nat.lt_of_lt_of_le (val_lt u) (Nat.pow_le_pow_right (by omega) h32)
  have hv : val v < 2 ^ 32 := Nat.lt_of_lt_of_le (val_lt v) (Nat.pow_le_pow_right (by omega) (by omega))
  have h2 := steps_inj _ (Nat.xor_lt_two_pow hp hu) (Nat.xor_lt_two_pow hp hv) h1
  rw [Nat.xor_comm, Nat.xor_comm _ (val v)] at h2
  exact val_inj u v hl (xor_inj h2)

/-- The bits of a byte, the lowest first. -/
def bitsOf (b : UInt8) : List Bool := (List.range 8).map fun i => b.toNat.testBit i
def bitsAll (l : List UInt8) : List Bool := l.flatMap bitsOf
theorem val_bitsOf (b : UInt8) : val (bitsOf b) = b.toNat := by
  have h : ∀ n, n < 256 → val ((List.range 8).map fun i => n.testBit i) = n := by decide +kernel
  exact h _ b.toNat_lt
theorem overBits_byte (r : Nat) (b : UInt8) : overBits r (bitsOf b) = step8 (r ^^^ b.toNat) := by
  rw [overBits_val, val_bitsOf]
  rfl
theorem over_bits : ∀ (l : List UInt8) (r : Nat), overBits r (bitsAll l) = over r l
  | [], _ => rfl
  | b :: l, r => by
    show overBits r (bitsOf b ++ bitsAll l) = over (step8 (r ^^^ b.toNat)) l
    rw [overBits_append, overBits_byte, over_bits l]
theorem bitsOf_length (b : UInt8) : (bitsOf b).length = 8 := by simp [bitsOf]
theorem bitsAll_length : ∀ l : List UInt8, (bitsAll l).length = 8 * l.length
  | [] => rfl
  | b :: l => by
    show (bitsOf b ++ bitsAll l).length = _
    rw [List.length_append, bitsOf_length, bitsAll_length l, List.length_cons]; omega
theorem bitsOf_inj {a b : UInt8} (h : bitsOf a = bitsOf b) : a = b := by
  have := congrArg val h
  rw [val_bitsOf, val_bitsOf] at this
  exact UInt8.toNat_inj.1 this
theorem bitsAll_inj : ∀ (a b : List UInt8), a.length = b.length → bitsAll a = bitsAll b → a = b
  | [], [], _, _ => rfl
  | [], _ :: _, h, _ => by simp at h
  | _ :: _, [], h, _ => by simp at h
  | x :: a, y :: b, hl, h => by
    have h' : bitsOf x ++ bitsAll a = bitsOf y ++ bitsAll b := h
    obtain ⟨h1, h2⟩ := List.append_inj h' (by rw [bitsOf_length, bitsOf_length])
    rw [bitsOf_inj h1, bitsAll_inj a b (by simpa using hl) h2]
theorem bitsAll_get : ∀ (l : List UInt8) (i : Nat), i < 8 * l.length → (bitsAll l)[i]? = some ((l.getD (i / 8) 0).toNat.testBit (i % 8))
  | [], i, h => by simp at h
  | b :: l, i, h => by
    show (bitsOf b ++ bitsAll l)[i]? = _
    by_cases hi : i < 8
    · rw [List.getElem?_append_left (by rw [bitsOf_length]; exact hi)]
      have e1 : i / 8 = 0 := by omega
      have e2 : i % 8 = i := by omega
      rw [e1, e2]
      simp [bitsOf, List.getElem?_map, List.getElem?_range hi]
    · rw [List.getElem?_append_right (by rw [bitsOf_length]; omega), bitsOf_length, bitsAll_get l (i - 8) (by simp only [List.length_cons] at h; omega)]
      have e1 : i / 8 = (i - 8) / 8 + 1 := by omega
      have e2 : (i - 8) % 8 = i % 8 := by omega
      rw [e1, e2]
      simp [List.getD]
/-- Bytes that are others only within 32 bits in a row from bit 'at' on have the same sum only if they are the same. -/
theorem sum_burst {a b : List UInt8} {k : Nat} (hl : a.length = b.length) (h : ∀ i, (i < k ∨ k + 32 ≤ i) → i < 8 * a.length → (bitsAll a)[i]? = (bitsAll b)[i]?) (hs : sum a = sum b) : a = b := by
  have hlen : (bitsAll a).length = (bitsAll b).length := by rw [bitsAll_length, bitsAll_length, hl]
  have h1 : overBits (0 ^^^ full) (bitsAll a) = overBits (0 ^^^ full) (bitsAll b) := by
    rw [over_bits, over_bits]
    exact xor_inj hs
  apply bitsAll_inj a b hl
  have hp : (bitsAll a).take k = (bitsAll b).take k := by
    apply List.ext_getElem?
    intro i
    rw [List.getElem?_take, List.getElem?_take]
    split
    · by_cases hi : i < 8 * a.length
      · exact h i (by omega) hi
      · rw [List.getElem?_eq_none (by rw [bitsAll_length]; omega), List.getElem?_eq_none (by rw [bitsAll_length, ← hl]; omega)]
    · rfl
  have hq : (bitsAll a).drop (k + 32) = (bitsAll b).drop (k + 32) := by
    apply List.ext_getElem?
    intro i
    rw [List.getElem?_drop, List.getElem?_drop]
    by_cases hi : k + 32 + i < 8 * a.length
    · exact h _ (by omega) hi
    · rw [List.getElem?_eq_none (by rw [bitsAll_length]; omega), List.getElem?_eq_none (by rw [bitsAll_length, ← hl]; omega)]
  have cut : ∀ l : List Bool, l = l.take k ++ ((l.drop k).take 32 ++ l.drop (k + 32)) := fun l => by
    rw [← List.drop_drop, List.take_append_drop, List.take_append_drop]
  rw [cut (bitsAll a), cut (bitsAll b), ← hp, ← hq] at h1
  have hm := burst (Nat.xor_lt_two_pow (by decide) full_lt) _ _ _ _ (by rw [List.length_take, List.length_take, List.length_drop, List.length_drop, hlen]) (by rw [List.length_take]; omega) h1
  rw [cut (bitsAll a), cut (bitsAll b), hp, hq, hm]
end Go.Proofs.Ytjhdgbdnbfieiaa.Crc
