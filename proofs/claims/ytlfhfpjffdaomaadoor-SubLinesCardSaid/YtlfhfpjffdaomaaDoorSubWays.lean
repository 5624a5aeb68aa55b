/-
  A text in the place of another one by changes, without a program: the changes that are laid, line by line, and what they make of the text; how often a text stands in lines, at once.
-/
import Derived.Test.YtlfhfpjffdaomaaDoorSub
import Derived.Test.YtlfhfpjffdaomaaDoorBatch
import Derived.Lib.SplitLaws
namespace Go.Proofs.YtlfhfpjffdaomaaDoor
namespace Sb
open Utf (valid place dec off)
open Line (L seg)
open Gl
open Chg (fits make)
open Btc (In made right)
theorem make_cat {u : List UInt8} (v : List UInt8) {i : Nat} {o n : List UInt8} (h : i + o.length ≤ u.length) : make (u ++ v) i o n = make u i o n ++ v := by
  rw [make, make, List.take_append_of_le_length (by omega), List.drop_append_of_le_length h]
  simp
theorem made_cat {u : List UInt8} (v : List UInt8) : ∀ {ks : List Cg} {f : Nat}, In u.length f ks → made (u ++ v) ks = made u ks ++ v
  | [], _, _ => rfl
  | k :: r, f, h => by
    have h2 := (Btc.made_length h).2 k r rfl
    obtain ⟨a, ha, hf, hr⟩ := h
    rw [made, made, made_cat v hr, make_cat v (by rw [data_len]; exact h2)]
theorem made_snoc (u : List UInt8) (ks : List Cg) (k : Cg) : made u (ks ++ [k]) = made (make u k.at_.toNat k.old.data.toList k.new.data.toList) ks := by
  induction ks with
  | nil => rfl
  | cons x r ih => rw [List.cons_append, made, ih, made]
theorem In_snoc {N M : Nat} : ∀ {ks : List Cg} {f a : Nat} {o n : ByteArray}, In N f ks → N ≤ a → a + o.size ≤ M → In M f (ks ++ [⟨a, o, n⟩])
  | [], _, a, _, _, h, h1, h2 => ⟨a, rfl, Nat.le_trans h h1, h2⟩
  | _ :: _, _, _, _, _, ⟨b, hb, hf, hr⟩, h1, h2 => ⟨b, hb, hf, In_snoc hr h1 h2⟩
theorem In_init {N : Nat} : ∀ {ks : List Cg} {f : Nat} {k : Cg}, In N f (ks ++ [k]) → ∃ b : Nat, k.at_ = b ∧ In b f ks ∧ b + k.old.size ≤ N
  | [], _, _, ⟨b, hb, hf, hN⟩ => ⟨b, hb, hf, hN⟩
  | _ :: _, _, _, ⟨b, hb, hf, hr⟩ => by
    obtain ⟨c, h1, h2, h3⟩ := In_init hr
    exact ⟨c, h1, ⟨b, hb, hf, h2⟩, h3⟩
theorem In_more {N M : Nat} : ∀ {ks : List Cg} {f : Nat}, In N f ks → N ≤ M → In M f ks
  | [], _, h, hm => Nat.le_trans h hm
  | _ :: _, _, ⟨b, hb, hf, hr⟩, hm => ⟨b, hb, hf, In_more hr hm⟩
theorem In_count {N : Nat} : ∀ {ks : List Cg} {f : Nat}, In N f ks → (∀ k ∈ ks, 1 ≤ k.old.size) → f + ks.length ≤ N ∧ f + (ks.map fun k => k.old.size).sum ≤ N
  | [], _, h, _ => ⟨h, h⟩
  | k :: r, f, ⟨b, hb, hf, hr⟩, h => by
    have h1 := In_count hr (fun x hx => h x (by simp [hx]))
    have h2 := h k (by simp)
    rw [List.length_cons, List.map_cons, List.sum_cons]
    omega
theorem In_apart {N : Nat} : ∀ {ks : List Cg} {f : Nat}, In N f ks → Btc.apart ks = true
  | [], _, _ => rfl
  | [_], _, _ => rfl
  | a :: b :: r, _, ⟨x, hx, _, hr⟩ => by
    have h2 := In_apart hr
    obtain ⟨y, hy, hf, _⟩ := hr
    rw [Btc.apart, h2, Bool.and_true, decide_eq_true_eq]
    omega
/-- Changes within the first f bytes of a text, each of which puts r in: what they make of these bytes. -/
structure Sw (t : List UInt8) (r : ByteArray) (ks : List Cg) (f : Nat) (X : List UInt8) : Prop where
  le : f ≤ t.length
  inn : In f 0 ks
  fit : ∀ k ∈ ks, fits t k.at_ k.old.data.toList k.new.data.toList = true
  new : ∀ k ∈ ks, k.new = r
  old : ∀ k ∈ ks, 1 ≤ k.old.size
  made : Btc.made (t.take f) ks = X
theorem Sw.nil {t : List UInt8} {r : ByteArray} {f : Nat} (h : f ≤ t.length) : Sw t r [] f (t.take f) :=
  ⟨h, Nat.zero_le f, fun _ hk => absurd hk (by simp), fun _ hk => absurd hk (by simp), fun _ hk => absurd hk (by simp), rfl⟩
theorem Sw.skip {t : List UInt8} {r : ByteArray} {ks : List Cg} {f : Nat} {X : List UInt8} (S : Sw t r ks f X) {n : Nat} (h : f + n ≤ t.length) : Sw t r ks (f + n) (X ++ (t.drop f).take n) := by
  refine ⟨h, In_more S.inn (by omega), S.fit, S.new, S.old, ?_⟩
  have hl : (t.take f).length = f := by rw [List.length_take]; omega
  rw [List.take_add, made_cat _ (u := t.take f) (f := 0) (by rw [hl]; exact S.inn), S.made]
theorem Sw.push {t : List UInt8} {r p : ByteArray} {ks : List Cg} {f : Nat} {X : List UInt8} (S : Sw t r ks f X) (hp : p.data.toList <+: t.drop f) (h1 : 1 ≤ p.size) (hf : fits t f p.data.toList r.data.toList = true) : Sw t r (ks ++ [⟨f, p, r⟩]) (f + p.size) (X ++ r.data.toList) := by
  have hle := hp.length_le
  rw [data_len, List.length_drop] at hle
  have hle' := S.le
  have hl : (t.take f).length = f := by rw [List.length_take]; omega
  refine ⟨by omega, In_snoc S.inn (Nat.le_refl f) (Nat.le_refl _), ?_, ?_, ?_, ?_⟩
  · intro k hk
    rcases List.mem_append.1 hk with h | h
    · exact S.fit k h
    · rw [List.mem_singleton] at h; subst h; exact hf
  · intro k hk
    rcases List.mem_append.1 hk with h | h
    · exact S.new k h
    · rw [List.mem_singleton] at h; subst h; rfl
  · intro k hk
    rcases List.mem_append.1 hk with h | h
    · exact S.old k h
    · rw [List.mem_singleton] at h; subst h; exact h1
  · rw [made_snoc]
    have e : make (t.take (f + p.size)) ((f : Int)).toNat p.data.toList r.data.toList = t.take f ++ r.data.toList := by
      rw [make, Int.toNat_natCast, data_len, List.take_take, Nat.min_eq_left (by omega), List.drop_eq_nil_of_le (by rw [List.length_take]; omega), List.append_nil]
    show Btc.made (make (t.take (f + p.size)) ((f : Int)).toNat p.data.toList r.data.toList) ks = _
    rw [e, made_cat _ (u := t.take f) (f := 0) (by rw [hl]; exact S.inn), S.made]
theorem fits_join {t o p r : List UInt8} {b f : Nat} (h1 : fits t b o r = true) (hf : b + o.length = f) (h2 : p <+: t.drop f) (hp : valid p = true) : seg t b (f + p.length) = o ++ p ∧ fits t b (seg t b (f + p.length)) r = true := by
  simp only [fits, Bool.and_eq_true] at h1
  obtain ⟨⟨⟨k1, k2⟩, k3⟩, k4⟩ := h1
  rw [Int.toNat_natCast] at k4
  obtain ⟨u, hu⟩ := List.isPrefixOf_iff_prefix.1 k4
  obtain ⟨v, hv⟩ := h2
  have e1 : t.drop f = u := by rw [← hf, ← List.drop_drop, ← hu, List.drop_left]
  rw [e1] at hv
  have e2 : seg t b (f + p.length) = o ++ p := by
    rw [seg, List.drop_take, ← hu, ← hv, show f + p.length - b = (o ++ p).length by rw [List.length_append]; omega, ← List.append_assoc, List.take_left]
  refine ⟨e2, ?_⟩
  rw [e2]
  simp only [fits, Bool.and_eq_true]
  refine ⟨⟨⟨k1, by rw [valid_all _ k2]; exact hp⟩, k3⟩, ?_⟩
  rw [Int.toNat_natCast]
  exact List.isPrefixOf_iff_prefix.2 ⟨v, by rw [← hu, ← hv, List.append_assoc]⟩
theorem Sw.join {t : List UInt8} {r p : ByteArray} {ks : List Cg} {k : Cg} {f : Nat} {X : List UInt8} (S : Sw t r (ks ++ [k]) f X) (hr : r.size = 0) (he : k.at_ + k.old.size = f) (hp : p.data.toList <+: t.drop f) (hv : valid p.data.toList = true) : Sw t r (ks ++ [⟨k.at_, bs (seg t k.at_.toNat (f + p.size)), k.new⟩]) (f + p.size) (X ++ r.data.toList) := by
  have hle := hp.length_le
  rw [data_len, List.length_drop] at hle
  have hle' := S.le
  have hr0 : r.data.toList = [] := List.length_eq_zero_iff.1 (by rw [data_len]; exact hr)
  obtain ⟨b, hb, hin, hbN⟩ := In_init S.inn
  have hk1 := S.fit k (by simp)
  have hkn := S.new k (by simp)
  have hko := S.old k (by simp)
  have hl : (t.take b).length = b := by rw [List.length_take]; omega
  rw [hb] at hk1 he
  obtain ⟨e1, e2⟩ := fits_join hk1 (f := f) (by rw [data_len]; omega) hp hv
  rw [data_len] at e1 e2
  have hsz : (seg t b (f + p.size)).length = k.old.size + p.size := by rw [e1, List.length_append, data_len, data_len]
  have hbn : k.at_.toNat = b := by omega
  refine ⟨by omega, ?_, ?_, ?_, ?_, ?_⟩
  · rw [hbn, hb]
    exact In_snoc hin (Nat.le_refl _) (by rw [bs_size, hsz]; omega)
  · intro x hx
    rcases List.mem_append.1 hx with h | h
    · exact S.fit x (by simp [h])
    · rw [List.mem_singleton] at h
      subst h
      show fits t k.at_ (bs (seg t k.at_.toNat (f + p.size))).data.toList k.new.data.toList = true
      rw [bs_toList, hbn, hb]
      exact e2
  · intro x hx
    rcases List.mem_append.1 hx with h | h
    · exact S.new x (by simp [h])
    · rw [List.mem_singleton] at h; subst h; exact hkn
  · intro x hx
    rcases List.mem_append.1 hx with h | h
    · exact S.old x (by simp [h])
    · rw [List.mem_singleton] at h
      subst h
      show 1 ≤ (bs (seg t k.at_.toNat (f + p.size))).size
      rw [bs_size, hbn, hsz]; omega
  · have hm := S.made
    rw [made_snoc] at hm
    have e3 : make (t.take f) k.at_.toNat k.old.data.toList k.new.data.toList = t.take b := by
      rw [make, hbn, hkn, hr0, data_len, List.take_take, Nat.min_eq_left (by omega), List.drop_eq_nil_of_le (by rw [List.length_take]; omega)]
      simp
    rw [e3] at hm
    rw [made_snoc]
    have e4 : make (t.take (f + p.size)) k.at_.toNat (bs (seg t k.at_.toNat (f + p.size))).data.toList k.new.data.toList = t.take b := by
      rw [make, hbn, hkn, hr0, bs_toList, hsz, List.take_take, Nat.min_eq_left (by omega), List.drop_eq_nil_of_le (by rw [List.length_take]; omega)]
      simp
    show Btc.made (make (t.take (f + p.size)) k.at_.toNat (bs (seg t k.at_.toNat (f + p.size))).data.toList k.new.data.toList) ks = _
    rw [e4, hm, hr0, List.append_nil]
/-- A change behind others, where p stands at f and r is put in: what is taken out one behind the other is one. -/
def addC (t : List UInt8) (ks : List Cg) (f : Nat) (p r : ByteArray) : List Cg :=
  match ks.getLast? with
  | some k => if r.size = 0 ∧ k.at_ + k.old.size = f then ks.dropLast ++ [⟨k.at_, bs (seg t k.at_.toNat (f + p.size)), k.new⟩] else ks ++ [⟨f, p, r⟩]
  | none => ks ++ [⟨f, p, r⟩]
theorem addC_nil (t : List UInt8) (f : Nat) (p r : ByteArray) : addC t [] f p r = [⟨f, p, r⟩] := rfl
theorem addC_join {t : List UInt8} {ks : List Cg} {k : Cg} {f : Nat} {p r : ByteArray} (h : r.size = 0 ∧ k.at_ + k.old.size = f) : addC t (ks ++ [k]) f p r = ks ++ [⟨k.at_, bs (seg t k.at_.toNat (f + p.size)), k.new⟩] := by
  unfold addC
  rw [List.getLast?_concat]
  show (if _ then _ else _) = _
  rw [if_pos h, List.dropLast_concat]
theorem addC_not {t : List UInt8} {ks : List Cg} {k : Cg} {f : Nat} {p r : ByteArray} (h : ¬ (r.size = 0 ∧ k.at_ + k.old.size = f)) : addC t (ks ++ [k]) f p r = ks ++ [k] ++ [⟨f, p, r⟩] := by
  unfold addC
  rw [List.getLast?_concat]
  show (if _ then _ else _) = _
  rw [if_neg h]
theorem addC_length (t : List UInt8) (ks : List Cg) (f : Nat) (p r : ByteArray) : (addC t ks f p r).length ≤ ks.length + 1 ∧ 1 ≤ (addC t ks f p r).length := by
  rcases List.eq_nil_or_concat ks with rfl | ⟨q, k, rfl⟩
  · rw [addC_nil]; simp
  · rw [List.concat_eq_append]
    by_cases h : r.size = 0 ∧ k.at_ + k.old.size = f
    · rw [addC_join h]; simp
    · rw [addC_not h]; simp
theorem Sw.add {t : List UInt8} {r p : ByteArray} {ks : List Cg} {f : Nat} {X : List UInt8} (S : Sw t r ks f X) (hp : p.data.toList <+: t.drop f) (h1 : 1 ≤ p.size) (hf : fits t f p.data.toList r.data.toList = true) : Sw t r (addC t ks f p r) (f + p.size) (X ++ r.data.toList) := by
  rcases List.eq_nil_or_concat ks with rfl | ⟨q, k, rfl⟩
  · exact S.push hp h1 hf
  · rw [List.concat_eq_append] at S ⊢
    by_cases h : r.size = 0 ∧ k.at_ + k.old.size = f
    · rw [addC_join h]
      have hv : valid p.data.toList = true := by
        simp only [fits, Bool.and_eq_true] at hf
        exact hf.1.1.2
      exact S.join h.1 h.2 hp hv
    · rw [addC_not h]; exact S.push hp h1 hf
theorem Sw.right {t : List UInt8} {r : ByteArray} {ks : List Cg} {f : Nat} {X : List UInt8} (S : Sw t r ks f X) : right t ks = true := by
  rw [Btc.right, In_apart S.inn, Bool.true_and, List.all_eq_true]
  exact S.fit
theorem Sw.done {t : List UInt8} {r : ByteArray} {ks : List Cg} {f : Nat} {X : List UInt8} (S : Sw t r ks f X) : Btc.made t ks = X ++ t.drop f := by
  have hle := S.le
  have hl : (t.take f).length = f := by rw [List.length_take]; omega
  conv => lhs; rw [← List.take_append_drop f t]
  rw [made_cat _ (u := t.take f) (f := 0) (by rw [hl]; exact S.inn), S.made]
theorem Sw.grow {t : List UInt8} {r : ByteArray} {ks : List Cg} {f : Nat} {X : List UInt8} (S : Sw t r ks f X) : ((Btc.made t ks).length : Int) = t.length + Btc.grow ks := (Btc.made_length (In_more S.inn S.le)).1
theorem Sw.heavy {t : List UInt8} {r : ByteArray} {ks : List Cg} {f : Nat} {X : List UInt8} (S : Sw t r ks f X) : ks.length ≤ t.length ∧ (weigh ks : Int) ≤ 2 * t.length + Btc.grow ks ∧ weigh ks ≤ t.length + ks.length * r.size := by
  obtain ⟨h1, h2⟩ := In_count S.inn S.old
  have hle := S.le
  have e1 : (weigh ks : Int) = 2 * ((ks.map fun k => k.old.size).sum : Nat) + Btc.grow ks := by
    clear S h1 h2
    induction ks with
    | nil => simp [weigh, Btc.grow]
    | cons k q ih =>
      simp only [weigh, Btc.grow, List.map_cons, List.sum_cons] at ih ⊢
      omega
  have e2 : weigh ks = (ks.map fun k => k.old.size).sum + ks.length * r.size := by
    have hn := S.new
    clear S h1 h2 e1
    induction ks with
    | nil => simp [weigh]
    | cons k q ih =>
      have ih2 := ih (fun x hx => hn x (by simp [hx]))
      have hk := hn k (by simp)
      simp only [weigh, List.map_cons, List.sum_cons, List.length_cons, Nat.succ_mul] at ih2 ⊢
      rw [hk]
      omega
  omega
/-- The last change stands ahead of a, or from a to f. -/
def Ap (a : Nat) (ks : List Cg) : Prop := ∀ (i : List Cg) (k : Cg), ks = i ++ [k] → k.at_ + k.old.size < (a : Int)
def Tl (a f : Nat) (ks : List Cg) : Prop := ∃ (i : List Cg) (k : Cg), ks = i ++ [k] ∧ ∃ b : Nat, k.at_ = b ∧ a ≤ b ∧ b ≤ f
theorem Tl.more {a f g : Nat} {ks : List Cg} (h : Tl a f ks) (hg : f ≤ g) : Tl a g ks := by
  obtain ⟨i, k, e, b, h1, h2, h3⟩ := h
  exact ⟨i, k, e, b, h1, h2, by omega⟩
theorem tl_add {t : List UInt8} {a f : Nat} {ks : List Cg} {p r : ByteArray} (h : Ap a ks ∨ Tl a f ks) (ha : a ≤ f) : Tl a f (addC t ks f p r) := by
  rcases List.eq_nil_or_concat ks with rfl | ⟨q, k, rfl⟩
  · exact ⟨[], _, rfl, f, rfl, ha, Nat.le_refl _⟩
  · rw [List.concat_eq_append] at h ⊢
    by_cases hc : r.size = 0 ∧ k.at_ + k.old.size = f
    · rw [addC_join hc]
      rcases h with h | ⟨i, k', e, b, h1, h2, h3⟩
      · have := h q k rfl
        omega
      · obtain ⟨_, e2⟩ := List.append_inj' e rfl
        injection e2 with e2
        subst e2
        exact ⟨q, _, rfl, b, h1, h2, h3⟩
    · rw [addC_not hc]
      exact ⟨_, _, rfl, f, rfl, ha, Nat.le_refl _⟩
theorem ap_of {a f : Nat} {ks : List Cg} (h : In f 0 ks) (hf : f < a) : Ap a ks := fun i k e => by
  subst e
  obtain ⟨b, hb, _, h2⟩ := In_init h
  omega
theorem ap_nil (a : Nat) : Ap a [] := fun i k e => by
  have := congrArg List.length e
  simp at this
/-- In the midst of a line: what is put in up to f, and what still stands there. -/
structure Mid (t : List UInt8) (p r : ByteArray) (rest G : List UInt8) (Q : List (List UInt8)) (ks : List Cg) (f : Nat) (X : List UInt8) : Prop where
  sw : Sw t r ks f X
  text : t.drop f = jn p.data.toList Q ++ rest
  out : X ++ jn r.data.toList Q = G
theorem Mid.step {t : List UInt8} {p r : ByteArray} {rest G x y : List UInt8} {q : List (List UInt8)} {ks : List Cg} {f : Nat} {X : List UInt8} (M : Mid t p r rest G (x :: y :: q) ks f X)
    (ht : valid t = true) (hp : valid p.data.toList = true) (hr : valid r.data.toList = true) (h1 : 1 ≤ p.size) :
    Mid t p r rest G (y :: q) (addC t ks (f + x.length) p r) (f + x.length + p.size) (X ++ x ++ r.data.toList) := by
  have htx := M.text
  have hne : (y :: q) ≠ [] := by simp
  rw [jn_cons _ _ hne, List.append_assoc, List.append_assoc] at htx
  have hd : t.drop (f + x.length) = p.data.toList ++ (jn p.data.toList (y :: q) ++ rest) := by rw [← List.drop_drop, htx, List.drop_left]
  have hd2 : t.drop (f + x.length + p.size) = jn p.data.toList (y :: q) ++ rest := by rw [← List.drop_drop, hd, ← data_len p, List.drop_left]
  have hpx : p.data.toList <+: t.drop (f + x.length) := by rw [hd]; exact List.prefix_append _ _
  have hlen := congrArg List.length hd
  rw [List.length_drop, List.length_append, data_len] at hlen
  have hpl : place t ((f + x.length : Nat) : Int) = true := by
    obtain ⟨rs, hdec⟩ := Utf.valid_of ht
    obtain ⟨i, hi, he⟩ := Look.at_place hdec hp (fun e => by have := data_len p; rw [e] at this; simp at this; omega) (x := f + x.length) (by rw [Look.at_]; exact decide_eq_true hpx)
    rw [← he]
    exact Utf.place_at hdec (Nat.le_of_lt hi)
  have hfit : fits t ((f + x.length : Nat) : Int) p.data.toList r.data.toList = true := by
    simp only [fits, Bool.and_eq_true]
    exact ⟨⟨⟨hpl, hp⟩, hr⟩, by rw [Int.toNat_natCast]; exact List.isPrefixOf_iff_prefix.2 hpx⟩
  have hs := M.sw.skip (n := x.length) (by have := M.sw.le; omega)
  rw [htx, List.take_left] at hs
  refine ⟨hs.add hpx h1 hfit, hd2, ?_⟩
  rw [← M.out, jn_cons _ _ hne]
  simp
theorem Mid.stop {t : List UInt8} {p r : ByteArray} {rest G x : List UInt8} {ks : List Cg} {f : Nat} {X : List UInt8} (M : Mid t p r rest G [x] ks f X) : Sw t r ks (f + x.length) G ∧ t.drop (f + x.length) = rest := by
  have htx := M.text
  rw [jn_one] at htx
  have hlen := congrArg List.length htx
  rw [List.length_drop, List.length_append] at hlen
  have hs := M.sw.skip (n := x.length) (by have := M.sw.le; omega)
  rw [htx, List.take_left] at hs
  have ho := M.out
  rw [jn_one] at ho
  rw [ho] at hs
  exact ⟨hs, by rw [← List.drop_drop, htx, List.drop_left]⟩
/-- About to go into the first of some lines, at a; or behind them all. -/
def Ent (t : List UInt8) (r : ByteArray) (sw : List UInt8 → List UInt8) (tl G : List UInt8) (R : List (List UInt8)) (ks : List Cg) (a : Nat) : Prop :=
  match R with
  | [] => ∃ g, a = g + 1 ∧ Sw t r ks g G ∧ t.drop g = tl
  | x :: R' => ∃ X, Sw t r ks a X ∧ t.drop a = x ++ (aft R' ++ tl) ∧ X ++ (sw x ++ aft (R'.map sw)) = G ∧ Ap a ks
theorem Ent.next {t : List UInt8} {r : ByteArray} {sw : List UInt8 → List UInt8} {tl G X : List UInt8} {R : List (List UInt8)} {ks : List Cg} {g : Nat} (S : Sw t r ks g X) (ht : t.drop g = aft R ++ tl) (ho : X ++ aft (R.map sw) = G) : Ent t r sw tl G R ks (g + 1) := by
  cases R with
  | nil =>
    simp only [aft, List.map_nil, List.flatMap_nil, List.nil_append, List.append_nil] at ht ho
    exact ⟨g, rfl, by rw [← ho]; exact S, ht⟩
  | cons y q =>
    rw [aft_cons] at ht
    rw [List.map_cons, aft_cons] at ho
    have hlen := congrArg List.length ht
    rw [List.length_drop, List.length_append, List.length_cons] at hlen
    have hs := S.skip (n := 1) (by omega)
    rw [ht] at hs
    refine ⟨X ++ [10], hs, ?_, ?_, ap_of S.inn (by omega)⟩
    · rw [← List.drop_drop, ht]; simp
    · rw [← ho]; simp
theorem Ent.mid {t : List UInt8} {p r : ByteArray} {m : Nat} {tl G x : List UInt8} {R : List (List UInt8)} {ks : List Cg} {a : Nat} (h0 : 1 ≤ p.size) (h : Ent t r (fun l => jn r.data.toList (ps p.data.toList 0 m l)) tl G (x :: R) ks a) :
    ∃ X, Mid t p r (aft R ++ tl) (X ++ jn r.data.toList (ps p.data.toList 0 m x)) (ps p.data.toList 0 m x) ks a X ∧ Ap a ks ∧ (X ++ jn r.data.toList (ps p.data.toList 0 m x)) ++ aft (R.map fun l => jn r.data.toList (ps p.data.toList 0 m l)) = G := by
  obtain ⟨X, hs, ht, ho, ha⟩ := h
  refine ⟨X, ⟨hs, ?_, rfl⟩, ha, by rw [← ho]; simp⟩
  rw [ps_join (fun e => by have := data_len p; rw [e] at this; simp at this; omega)]
  exact ht
/-- The line of the last change. -/
def Lst (t : List UInt8) (ks : List Cg) (z : Int) : Prop := (ks = [] ∧ z = -1) ∨ ∃ (i : List Cg) (k : Cg), ks = i ++ [k] ∧ Line.of_ t k.at_ = z ∧ 0 ≤ z
theorem lst_tl {t : List UInt8} {a f j : Nat} {x : Nat × Nat} {ks : List Cg} (h : Tl a f ks) (hx : (L t)[j]? = some x) (ha : x.1 ≤ a) (hf : f ≤ x.2) : Lst t ks (j : Int) := by
  obtain ⟨i, k, e, b, h1, h2, h3⟩ := h
  exact .inr ⟨i, k, e, by rw [h1]; exact Line.of_at hx (by omega) (by omega), by omega⟩
/-- How often p stands in bytes, its places apart from one another. -/
theorem ps_at {p a t : List UInt8} (h0 : p ≠ []) (m : Nat) (h : ∀ x, x < a.length → ¬ p <+: (a ++ (p ++ t)).drop x) : ps p 0 (m + 1) (a ++ (p ++ t)) = a :: ps p 0 m t := by
  rcases ps_first h0 (m + 1) (a ++ (p ++ t)) with ⟨_, h2⟩ | ⟨_, a', t', e, h2, e2⟩
  · refine absurd ?_ (h2.resolve_left (by omega) a.length)
    rw [List.drop_left]
    exact List.prefix_append p t
  · have hal : a.length = a'.length := by
      rcases Nat.lt_trichotomy a.length a'.length with hh | hh | hh
      · refine absurd ?_ (h2 _ hh)
        rw [List.drop_left]; exact List.prefix_append p t
      · exact hh
      · refine absurd ?_ (h _ hh)
        rw [e, List.drop_left]; exact List.prefix_append p t'
    obtain ⟨rfl, e5⟩ := List.append_inj e hal
    obtain rfl := List.append_cancel_left e5
    exact e2
theorem ps_exact {p : List UInt8} (h0 : p ≠ []) (m : Nat) (s : List UInt8) : ps p 0 ((ps p 0 m s).length - 1) s = ps p 0 m s := by
  refine ps_rec h0 (P := fun m s q => ps p 0 (q.length - 1) s = q) (fun m s _ => ps_zero p s) (fun m a t h ih => ?_) m s
  have hl := List.length_pos_iff.2 (ps_ne p 0 m t)
  rw [List.length_cons, show (ps p 0 m t).length + 1 - 1 = (ps p 0 m t).length - 1 + 1 by omega, ps_at h0 _ h, ih]
theorem first_of {p s : List UInt8} (h0 : p ≠ []) : (Lib.index s p = -1 ∧ ∀ x, ¬ p <+: s.drop x) ∨ (∃ a t, Lib.index s p = (a.length : Nat) ∧ s = a ++ (p ++ t) ∧ ∀ x, x < a.length → ¬ p <+: s.drop x) := by
  have hpl := List.length_pos_iff.2 h0
  rcases Lib.index_spec s p with ⟨e, hn⟩ | ⟨i, e, hi, ho, hno⟩
  · refine .inl ⟨e, fun x hx => ?_⟩
    have hl := hx.length_le
    rw [List.length_drop] at hl
    have := hn x (by omega)
    rw [Lib.occAt, List.isPrefixOf_iff_prefix.2 hx] at this
    cases this
  · obtain ⟨t, ht⟩ := List.isPrefixOf_iff_prefix.1 ho
    have hl : (s.take i).length = i := by rw [List.length_take]; omega
    refine .inr ⟨s.take i, t, by rw [hl]; exact e, by rw [ht, List.take_append_drop], fun x hx hp => ?_⟩
    have := hno x (by omega)
    rw [Lib.occAt, List.isPrefixOf_iff_prefix.2 hp] at this
    cases this
theorem split_ps {p : List UInt8} (h0 : p ≠ []) : ∀ (k : Nat) (s : List UInt8), Lib.splitK p 0 k s = ps p 0 k s := by
  intro k
  induction k with
  | zero => intro s; rw [ps_zero]; rfl
  | succ k ih =>
    intro s
    rcases first_of (s := s) h0 with ⟨e, h⟩ | ⟨a, t, e, hs, h⟩
    · rw [Lib.splitK, e, if_pos (by decide)]
      rcases ps_first h0 (k + 1) s with ⟨e2, _⟩ | ⟨_, a, t, hs, _, _⟩
      · exact e2.symm
      · exact absurd (by rw [hs, List.drop_left]; exact List.prefix_append p t) (h a.length)
    · have e2 : ps p 0 (k + 1) s = a :: ps p 0 k t := by rw [hs]; exact ps_at h0 k (by rw [← hs]; exact h)
      rw [Lib.splitK, e, if_neg (by intro h; rw [beq_iff_eq] at h; omega), Int.toNat_natCast, ih, e2]
      congr 1
      · rw [hs]; simp
      · rw [hs, ← List.drop_drop, List.drop_left, List.drop_left]
theorem count_ps {p : List UInt8} (h0 : p ≠ []) : ∀ (m : Nat) (s : List UInt8), s.length ≤ m → Lib.count s p = (ps p 0 m s).length - 1 := by
  have hpl := List.length_pos_iff.2 h0
  intro m
  induction m with
  | zero =>
    intro s hs
    obtain rfl : s = [] := List.length_eq_zero_iff.1 (by omega)
    rcases first_of (s := ([] : List UInt8)) h0 with ⟨e, _⟩ | ⟨a, t, _, hs, _⟩
    · rw [Lib.count_miss e]; rfl
    · have := congrArg List.length hs
      simp only [List.length_nil, List.length_append] at this
      omega
  | succ m ih =>
    intro s hs
    rcases first_of (s := s) h0 with ⟨e, h⟩ | ⟨a, t, e, hst, h⟩
    · rw [Lib.count_miss e]
      rcases ps_first h0 (m + 1) s with ⟨e2, _⟩ | ⟨_, a, t, hst, _, _⟩
      · rw [e2]; rfl
      · exact absurd (by rw [hst, List.drop_left]; exact List.prefix_append p t) (h a.length)
    · have e2 : ps p 0 (m + 1) s = a :: ps p 0 m t := by rw [hst]; exact ps_at h0 m (by rw [← hst]; exact h)
      have hlen := congrArg List.length hst
      simp only [List.length_append] at hlen
      have hl := List.length_pos_iff.2 (ps_ne p 0 m t)
      have e3 : s.drop (a.length + p.length) = t := by rw [hst, ← List.drop_drop, List.drop_left, List.drop_left]
      rw [Lib.count_hit h0 e, e2, List.length_cons, e3, ih t (by omega)]
      omega
/-- A line's end parts the places. -/
theorem ps_feed {p : List UInt8} (h0 : p ≠ []) (hp : (10 : UInt8) ∉ p) (y : List UInt8) : ∀ (x : List UInt8) (k m m1 m2 : Nat), k ≤ x.length → x.length + 1 + y.length ≤ m → x.length ≤ m1 → y.length ≤ m2 →
    (ps p k m (x ++ 10 :: y)).length + 1 = (ps p k m1 x).length + (ps p 0 m2 y).length := by
  have hpl := List.length_pos_iff.2 h0
  have hpre : ∀ u : List UInt8, p <+: u ++ 10 :: y ↔ p <+: u := by
    intro u
    constructor
    · rintro ⟨v, hv⟩
      rcases Nat.lt_or_ge u.length p.length with hl | hl
      · exfalso
        apply hp
        have e : (p ++ v)[u.length]? = (u ++ 10 :: y)[u.length]? := by rw [hv]
        rw [List.getElem?_append_left hl, List.getElem?_append_right (Nat.le_refl _), Nat.sub_self] at e
        exact List.mem_of_getElem? e
      · have e := congrArg (List.take p.length) hv
        rw [List.take_left, List.take_append_of_le_length hl] at e
        rw [e]
        exact List.take_prefix _ _
    · exact fun h => h.trans (List.prefix_append _ _)
  intro x
  induction x with
  | nil =>
    intro k m m1 m2 hk hm h1 h2
    obtain rfl : k = 0 := by simpa using hk
    have hmiss : ¬ (0 < m ∧ p <+: 10 :: y) := fun h => by
      have h3 := (hpre []).1 h.2
      exact h0 (List.prefix_nil.1 h3)
    obtain ⟨x', q, e1, e2⟩ := ps_miss hmiss
    rw [List.nil_append, e2, ps_nil]
    have h3 : ps p 0 m y = ps p 0 m2 y := ps_more h0 (by simp at hm; omega) h2
    rw [← h3, e1]
    simp only [List.length_cons, List.length_nil]
    omega
  | cons b x ih =>
    intro k m m1 m2 hk hm h1 h2
    simp only [List.length_cons] at hk hm h1
    cases k with
    | succ k =>
      rw [List.cons_append, ps, ps]
      exact ih k m m1 m2 (by omega) (by omega) (by omega) h2
    | zero =>
      have hpb := hpre (b :: x)
      rw [List.cons_append] at hpb
      by_cases h : p <+: b :: x
      · have hl := h.length_le
        rw [List.length_cons] at hl
        rw [List.cons_append, ps, if_pos ⟨by omega, hpb.2 h⟩, ps, if_pos ⟨by omega, h⟩]
        have := ih (p.length - 1) (m - 1) (m1 - 1) m2 (by omega) (by omega) (by omega) h2
        rw [List.length_cons, List.length_cons]
        omega
      · obtain ⟨u1, q1, e1, e2⟩ := ps_miss (p := p) (m := m) (b := b) (t := x ++ 10 :: y) (fun hh => h (hpb.1 hh.2))
        obtain ⟨u2, q2, e3, e4⟩ := ps_miss (p := p) (m := m1) (b := b) (t := x) (fun hh => h hh.2)
        have := ih 0 m m1 m2 (by omega) (by omega) (by omega) h2
        rw [e1, e3] at this
        rw [List.cons_append, e2, e4]
        exact this
theorem cnt_more {p : List UInt8} (h0 : p ≠ []) {m n : Nat} : ∀ {Q : List (List UInt8)}, (∀ x ∈ Q, x.length ≤ m ∧ x.length ≤ n) → cnt p m Q = cnt p n Q
  | [], _ => rfl
  | x :: q, h => by
    have ih := cnt_more h0 (m := m) (n := n) (Q := q) (fun y hy => h y (by simp [hy]))
    have hx := h x (by simp)
    rw [cnt, cnt, List.map_cons, List.map_cons, List.sum_cons, List.sum_cons, ps_more h0 hx.1 hx.2]
    rw [cnt, cnt] at ih
    rw [ih]
/-- Lines at once, and one by one. -/
theorem count_glue {p : List UInt8} (h0 : p ≠ []) (hp : (10 : UInt8) ∉ p) : ∀ {Q : List (List UInt8)} {m : Nat}, (glue Q).length ≤ m → Lib.count (glue Q) p = cnt p m Q
  | [], m, _ => by
    rw [count_ps h0 m _ (by simp [glue])]
    show (ps p 0 m []).length - 1 = _
    rw [ps_nil]
    rfl
  | [x], m, h => by
    rw [glue_one] at h ⊢
    rw [count_ps h0 m x h]
    simp [cnt]
  | x :: y :: q, m, h => by
    have e : glue (x :: y :: q) = x ++ 10 :: glue (y :: q) := by rw [glue_cons, aft_glue (by simp)]
    rw [e, List.length_append, List.length_cons] at h
    have ih := count_glue h0 hp (Q := y :: q) (m := m) (by omega)
    have hf := ps_feed h0 hp (glue (y :: q)) x 0 m m m (Nat.zero_le _) (by omega) (by omega) (by omega)
    have h1 := List.length_pos_iff.2 (ps_ne p 0 m x)
    have h2 := List.length_pos_iff.2 (ps_ne p 0 m (glue (y :: q)))
    rw [count_ps h0 m _ (by omega)] at ih
    rw [e, count_ps h0 m _ (by rw [List.length_append, List.length_cons]; omega)]
    have ec : cnt p m (x :: y :: q) = ((ps p 0 m x).length - 1) + cnt p m (y :: q) := by
      rw [cnt, List.map_cons, List.sum_cons]; rfl
    rw [ec, ← ih]
    omega
end Sb
end Go.Proofs.YtlfhfpjffdaomaaDoor
