/-
  A text in the place of another one by changes, without a program: the changes that are laid, line by line, and what they make of the text; how often a text stands in lines, at once.
-/
import Derived.Test.YtlfhfpjffdaomaaDoorJP
import Derived.Test.YtlfhfpjffdaomaaDoorJB
import Derived.Lib.SplitLaws
import Derived.Test.YtlfhfpjffdaomaaDoorLineCount
import Derived.Test.YtlfhfpjffdaomaaDoorLineCalls
import Derived.Test.YtlfhfpjffdaomaaDoorJO
import Derived.Test.YtlfhfpjffdaomaaDoorMaxAt
import Derived.Test.YtlfhfpjffdaomaaDoorShelf
import Derived.Laws.OwnMore
import Derived.Test.YtlfhfpjffdaomaaDoorStrs
import Derived.Shelf.Strings.SplitCore
import Derived.Lib.IndexBytes
import Derived.Shelf.Strings.Split
import Derived.Test.YtlfhfpjffdaomaaDoorLineClamp
import Derived.Test.YtlfhfpjffdaomaaDoorFrame
namespace Go.Proofs.YtlfhfpjffdaomaaDoor
namespace Sb
open Utf (valid place dec off)
open Line (L seg)
open Gl
open Chg (fits make)
open Btc (In made right)
theorem make_cat {u : List UInt8} (v : List UInt8) {i : Nat} {o n : List UInt8} (h : i + o.length ≤ u.length) : make (u ++ v) i o n = make u i o n ++ v := by
  rw [make, make, List.take_append_of_le_length (by omega), List.drop_append_of_le_length h]
  simp
theorem made_cat {u : List UInt8} (v : List UInt8) : ∀ {ks : List Cg} {f : Nat}, In u.length f ks → made (u ++ v) ks = made u ks ++ v
  | [], _, _ => rfl
  | k :: r, f, h => by
    have h2 := (Btc.made_length h).2 k r rfl
    obtain ⟨a, ha, hf, hr⟩ := h
    rw [made, made, made_cat v hr, make_cat v (by rw [data_len]; exact h2)]
theorem made_snoc (u : List UInt8) (ks : List Cg) (k : Cg) : made u (ks ++ [k]) = made (make u k.at_.toNat k.old.data.toList k.new.data.toList) ks := by
  induction ks with
  | nil => rfl
  | cons x r ih => rw [List.cons_append, made, ih, made]
theorem In_snoc {N M : Nat} : ∀ {ks : List Cg} {f a : Nat} {o n : ByteArray}, In N f ks → N ≤ a → a + o.size ≤ M → In M f (ks ++ [⟨a, o, n⟩])
  | [], _, a, _, _, h, h1, h2 => ⟨a, rfl, Nat.le_trans h h1, h2⟩
  | _ :: _, _, _, _, _, ⟨b, hb, hf, hr⟩, h1, h2 => ⟨b, hb, hf, In_snoc hr h1 h2⟩
theorem In_init {N : Nat} : ∀ {ks : List Cg} {f : Nat} {k : Cg}, In N f (ks ++ [k]) → ∃ b : Nat, k.at_ = b ∧ In b f ks ∧ b + k.old.size ≤ N
  | [], _, _, ⟨b, hb, hf, hN⟩ => ⟨b, hb, hf, hN⟩
  | _ :: _, _, _, ⟨b, hb, hf, hr⟩ => by
    obtain ⟨c, h1, h2, h3⟩ := In_init hr
    exact ⟨c, h1, ⟨b, hb, hf, h2⟩, h3⟩
theorem In_more {N M : Nat} : ∀ {ks : List Cg} {f : Nat}, In N f ks → N ≤ M → In M f ks
  | [], _, h, hm => Nat.le_trans h hm
  | _ :: _, _, ⟨b, hb, hf, hr⟩, hm => ⟨b, hb, hf, In_more hr hm⟩
theorem In_count {N : Nat} : ∀ {ks : List Cg} {f : Nat}, In N f ks → (∀ k ∈ ks, 1 ≤ k.old.size) → f + ks.length ≤ N ∧ f + (ks.map fun k => k.old.size).sum ≤ N
  | [], _, h, _ => ⟨h, h⟩
  | k :: r, f, ⟨b, hb, hf, hr⟩, h => by
    have h1 := In_count hr (fun x hx => h x (by simp [hx]))
    have h2 := h k (by simp)
    rw [List.length_cons, List.map_cons, List.sum_cons]
    omega
theorem In_apart {N : Nat} : ∀ {ks : List Cg} {f : Nat}, In N f ks → Btc.apart ks = true
  | [], _, _ => rfl
  | [_], _, _ => rfl
  | a :: b :: r, _, ⟨x, hx, _, hr⟩ => by
    have h2 := In_apart hr
    obtain ⟨y, hy, hf, _⟩ := hr
    rw [Btc.apart, h2, Bool.and_true, decide_eq_true_eq]
    omega
/-- Changes within the first f bytes of a text, each of which puts r in: what they make of these bytes. -/
structure Sw (t : List UInt8) (r : ByteArray) (ks : List Cg) (f : Nat) (X : List UInt8) : Prop where
  le : f ≤ t.length
  inn : In f 0 ks
  fit : ∀ k ∈ ks, fits t k.at_ k.old.data.toList k.new.data.toList = true
  new : ∀ k ∈ ks, k.new = r
  old : ∀ k ∈ ks, 1 ≤ k.old.size
  made : Btc.made (t.take f) ks = X
theorem Sw.nil {t : List UInt8} {r : ByteArray} {f : Nat} (h : f ≤ t.length) : Sw t r [] f (t.take f) :=
  ⟨h, Nat.zero_le f, fun _ hk => absurd hk (by simp), fun _ hk => absurd hk (by simp), fun _ hk => absurd hk (by simp), rfl⟩
theorem Sw.skip {t : List UInt8} {r : ByteArray} {ks : List Cg} {f : Nat} {X : List UInt8} (S : Sw t r ks f X) {n : Nat} (h : f + n ≤ t.length) : Sw t r ks (f + n) (X ++ (t.drop f).take n) := by
  refine ⟨h, In_more S.inn (by omega), S.fit, S.new, S.old, ?_⟩
  have hl : (t.take f).length = f := by rw [List.length_take]; omega
  rw [List.take_add, made_cat _ (u := t.take f) (f := 0) (by rw [hl]; exact S.inn), S.made]
theorem Sw.push {t : List UInt8} {r p : ByteArray} {ks : List Cg} {f : Nat} {X : List UInt8} (S : Sw t r ks f X) (hp : p.data.toList <+: t.drop f) (h1 : 1 ≤ p.size) (hf : fits t f p.data.toList r.data.toList = true) : Sw t r (ks ++ [⟨f, p, r⟩]) (f + p.size) (X ++ r.data.toList) := by
  have hle := hp.length_le
  rw [data_len, List.length_drop] at hle
  have hle' := S.le
  have hl : (t.take f).length = f := by rw [List.length_take]; omega
  refine ⟨by omega, In_snoc S.inn (Nat.le_refl f) (Nat.le_refl _), ?_, ?_, ?_, ?_⟩
  · intro k hk
    rcases List.mem_append.1 hk with h | h
    · exact S.fit k h
    · rw [List.mem_singleton] at h; subst h; exact hf
  · intro k hk
    rcases List.mem_append.1 hk with h | h
    · exact S.new k h
    · rw [List.mem_singleton] at h; subst h; rfl
  · intro k hk
    rcases List.mem_append.1 hk with h | h
    · exact S.old k h
    · rw [List.mem_singleton] at h; subst h; exact h1
  · rw [made_snoc]
    have e : make (t.take (f + p.size)) ((f : Int)).toNat p.data.toList r.data.toList = t.take f ++ r.data.toList := by
      rw [make, Int.toNat_natCast, data_len, List.take_take, Nat.min_eq_left (by omega), List.drop_eq_nil_of_le (by rw [List.length_take]; omega), List.append_nil]
    show Btc.made (make (t.take (f + p.size)) ((f : Int)).toNat p.data.toList r.data.toList) ks = _
    rw [e, made_cat _ (u := t.take f) (f := 0) (by rw [hl]; exact S.inn), S.made]
theorem fits_join {t o p r : List UInt8} {b f : Nat} (h1 : fits t b o r = true) (hf : b + o.length = f) (h2 : p <+: t.drop f) (hp : valid p = true) : seg t b (f + p.length) = o ++ p ∧ fits t b (seg t b (f + p.length)) r = true := by
  simp only [fits, Bool.and_eq_true] at h1
  obtain ⟨⟨⟨k1, k2⟩, k3⟩, k4⟩ := h1
  rw [Int.toNat_natCast] at k4
  obtain ⟨u, hu⟩ := List.isPrefixOf_iff_prefix.1 k4
  obtain ⟨v, hv⟩ := h2
  have e1 : t.drop f = u := by rw [← hf, ← List.drop_drop, ← hu, List.drop_left]
  rw [e1] at hv
  have e2 : seg t b (f + p.length) = o ++ p := by
    rw [seg, List.drop_take, ← hu, ← hv, show f + p.length - b = (o ++ p).length by rw [List.length_append]; omega, ← List.append_assoc, List.take_left]
  refine ⟨e2, ?_⟩
  rw [e2]
  simp only [fits, Bool.and_eq_true]
  refine ⟨⟨⟨k1, by rw [valid_all _ k2]; exact hp⟩, k3⟩, ?_⟩
  rw [Int.toNat_natCast]
  exact List.isPrefixOf_iff_prefix.2 ⟨v, by rw [← hu, ← hv, List.append_assoc]⟩
theorem Sw.join {t : List UInt8} {r p : ByteArray} {ks : List Cg} {k : Cg} {f : Nat} {X : List UInt8} (S : Sw t r (ks ++ [k]) f X) (hr : r.size = 0) (he : k.at_ + k.old.size = f) (hp : p.data.toList <+: t.drop f) (hv : valid p.data.toList = true) : Sw t r (ks ++ [⟨k.at_, bs (seg t k.at_.toNat (f + p.size)), k.new⟩]) (f + p.size) (X ++ r.data.toList) := by
  have hle := hp.length_le
  rw [data_len, List.length_drop] at hle
  have hle' := S.le
  have hr0 : r.data.toList = [] := List.length_eq_zero_iff.1 (by rw [data_len]; exact hr)
  obtain ⟨b, hb, hin, hbN⟩ := In_init S.inn
  have hk1 := S.fit k (by simp)
  have hkn := S.new k (by simp)
  have hko := S.old k (by simp)
  have hl : (t.take b).length = b := by rw [List.length_take]; omega
  rw [hb] at hk1 he
  obtain ⟨e1, e2⟩ := fits_join hk1 (f := f) (by rw [data_len]; omega) hp hv
  rw [data_len] at e1 e2
  have hsz : (seg t b (f + p.size)).length = k.old.size + p.size := by rw [e1, List.length_append, data_len, data_len]
  have hbn : k.at_.toNat = b := by omega
  refine ⟨by omega, ?_, ?_, ?_, ?_, ?_⟩
  · rw [hbn, hb]
    exact In_snoc hin (Nat.le_refl _) (by rw [bs_size, hsz]; omega)
  · intro x hx
    rcases List.mem_append.1 hx with h | h
    · exact S.fit x (by simp [h])
    · rw [List.mem_singleton] at h
      subst h
      show fits t k.at_ (bs (seg t k.at_.toNat (f + p.size))).data.toList k.new.data.toList = true
      rw [bs_toList, hbn, hb]
      exact e2
  · intro x hx
    rcases List.mem_append.1 hx with h | h
    · exact S.new x (by simp [h])
    · rw [List.mem_singleton] at h; subst h; exact hkn
  · intro x hx
    rcases List.mem_append.1 hx with h | h
    · exact S.old x (by simp [h])
    · rw [List.mem_singleton] at h
      subst h
      show 1 ≤ (bs (seg t k.at_.toNat (f + p.size))).size
      rw [bs_size, hbn, hsz]; omega
  · have hm := S.made
    rw [made_snoc] at hm
    have e3 : make (t.take f) k.at_.toNat k.old.data.toList k.new.data.toList = t.take b := by
      rw [make, hbn, hkn, hr0, data_len, List.take_take, Nat.min_eq_left (by omega), List.drop_eq_nil_of_le (by rw [List.length_take]; omega)]
      simp
    rw [e3] at hm
    rw [made_snoc]
    have e4 : make (t.take (f + p.size)) k.at_.toNat (bs (seg t k.at_.toNat (f + p.size))).data.toList k.new.data.toList = t.take b := by
      rw [make, hbn, hkn, hr0, bs_toList, hsz, List.take_take, Nat.min_eq_left (by omega), List.drop_eq_nil_of_le (by rw [List.length_take]; omega)]
      simp
    show Btc.made (make (t.take (f + p.size)) k.at_.toNat (bs (seg t k.at_.toNat (f + p.size))).data.toList k.new.data.toList) ks = _
    rw [e4, hm, hr0, List.append_nil]
/-- A change behind others, where p stands at f and r is put in: what is taken out one behind the other is one. -/
def addC (t : List UInt8) (ks : List Cg) (f : Nat) (p r : ByteArray) : List Cg :=
  match ks.getLast? with
  | some k => if r.size = 0 ∧ k.at_ + k.old.size = f then ks.dropLast ++ [⟨k.at_, bs (seg t k.at_.toNat (f + p.size)), k.new⟩] else ks ++ [⟨f, p, r⟩]
  | none => ks ++ [⟨f, p, r⟩]
theorem addC_nil (t : List UInt8) (f : Nat) (p r : ByteArray) : addC t [] f p r = [⟨f, p, r⟩] := rfl
theorem addC_join {t : List UInt8} {ks : List Cg} {k : Cg} {f : Nat} {p r : ByteArray} (h : r.size = 0 ∧ k.at_ + k.old.size = f) : addC t (ks ++ [k]) f p r = ks ++ [⟨k.at_, bs (seg t k.at_.toNat (f + p.size)), k.new⟩] := by
  unfold addC
  rw [List.getLast?_concat]
  show (if _ then _ else _) = _
  rw [if_pos h, List.dropLast_concat]
theorem addC_not {t : List UInt8} {ks : List Cg} {k : Cg} {f : Nat} {p r : ByteArray} (h : ¬ (r.size = 0 ∧ k.at_ + k.old.size = f)) : addC t (ks ++ [k]) f p r = ks ++ [k] ++ [⟨f, p, r⟩] := by
  unfold addC
  rw [List.getLast?_concat]
  show (if _ then _ else _) = _
  rw [if_neg h]
theorem addC_length (t : List UInt8) (ks : List Cg) (f : Nat) (p r : ByteArray) : (addC t ks f p r).length ≤ ks.length + 1 ∧ 1 ≤ (addC t ks f p r).length := by
  rcases List.eq_nil_or_concat ks with rfl | ⟨q, k, rfl⟩
  · rw [addC_nil]; simp
  · rw [List.concat_eq_append]
    by_cases h : r.size = 0 ∧ k.at_ + k.old.size = f
    · rw [addC_join h]; simp
    · rw [addC_not h]; simp
theorem Sw.add {t : List UInt8} {r p : ByteArray} {ks : List Cg} {f : Nat} {X : List UInt8} (S : Sw t r ks f X) (hp : p.data.toList <+: t.drop f) (h1 : 1 ≤ p.size) (hf : fits t f p.data.toList r.data.toList = true) : Sw t r (addC t ks f p r) (f + p.size) (X ++ r.data.toList) := by
  rcases List.eq_nil_or_concat ks with rfl | ⟨q, k, rfl⟩
  · exact S.push hp h1 hf
  · rw [List.concat_eq_append] at S ⊢
    by_cases h : r.size = 0 ∧ k.at_ + k.old.size = f
    · rw [addC_join h]
      have hv : valid p.data.toList = true := by
        simp only [fits, Bool.and_eq_true] at hf
        exact hf.1.1.2
      exact S.join h.1 h.2 hp hv
    · rw [addC_not h]; exact S.push hp h1 hf
theorem Sw.right {t : List UInt8} {r : ByteArray} {ks : List Cg} {f : Nat} {X : List UInt8} (S : Sw t r ks f X) : right t ks = true := by
  rw [Btc.right, In_apart S.inn, Bool.true_and, List.all_eq_true]
  exact S.fit
theorem Sw.done {t : List UInt8} {r : ByteArray} {ks : List Cg} {f : Nat} {X : List UInt8} (S : Sw t r ks f X) : Btc.made t ks = X ++ t.drop f := by
  have hle := S.le
  have hl : (t.take f).length = f := by rw [List.length_take]; omega
  conv => lhs; rw [← List.take_append_drop f t]
  rw [made_cat _ (u := t.take f) (f := 0) (by rw [hl]; exact S.inn), S.made]
theorem Sw.grow {t : List UInt8} {r : ByteArray} {ks : List Cg} {f : Nat} {X : List UInt8} (S : Sw t r ks f X) : ((Btc.made t ks).length : Int) = t.length + Btc.grow ks := (Btc.made_length (In_more S.inn S.le)).1
theorem Sw.heavy {t : List UInt8} {r : ByteArray} {ks : List Cg} {f : Nat} {X : List UInt8} (S : Sw t r ks f X) : ks.length ≤ t.length ∧ (weigh ks : Int) ≤ 2 * t.length + Btc.grow ks ∧ weigh ks ≤ t.length + ks.length * r.size := by
  obtain ⟨h1, h2⟩ := In_count S.inn S.old
  have hle := S.le
  have e1 : (weigh ks : Int) = 2 * ((ks.map fun k => k.old.size).sum : Nat) + Btc.grow ks := by
    clear S h1 h2
    induction ks with
    | nil => simp [weigh, Btc.grow]
    | cons k q ih =>
      simp only [weigh, Btc.grow, List.map_cons, List.sum_cons] at ih ⊢
      omega
  have e2 : weigh ks = (ks.map fun k => k.old.size).sum + ks.length * r.size := by
    have hn := S.new
    clear S h1 h2 e1
    induction ks with
    | nil => simp [weigh]
    | cons k q ih =>
      have ih2 := ih (fun x hx => hn x (by simp [hx]))
      have hk := hn k (by simp)
      simp only [weigh, List.map_cons, List.sum_cons, List.length_cons, Nat.succ_mul] at ih2 ⊢
      rw [hk]
      omega
  omega
/-- The last change stands ahead of a, or from a to f. -/
def Ap (a : Nat) (ks : List Cg) : Prop := ∀ (i : List Cg) (k : Cg), ks = i ++ [k] → k.at_ + k.old.size < (a : Int)
def Tl (a f : Nat) (ks : List Cg) : Prop := ∃ (i : List Cg) (k : Cg), ks = i ++ [k] ∧ ∃ b : Nat, k.at_ = b ∧ a ≤ b ∧ b ≤ f
theorem Tl.more {a f g : Nat} {ks : List Cg} (h : Tl a f ks) (hg : f ≤ g) : Tl a g ks := by
  obtain ⟨i, k, e, b, h1, h2, h3⟩ := h
  exact ⟨i, k, e, b, h1, h2, by omega⟩
theorem tl_add {t : List UInt8} {a f : Nat} {ks : List Cg} {p r : ByteArray} (h : Ap a ks ∨ Tl a f ks) (ha : a ≤ f) : Tl a f (addC t ks f p r) := by
  rcases List.eq_nil_or_concat ks with rfl | ⟨q, k, rfl⟩
  · exact ⟨[], _, rfl, f, rfl, ha, Nat.le_refl _⟩
  · rw [List.concat_eq_append] at h ⊢
    by_cases hc : r.size = 0 ∧ k.at_ + k.old.size = f
    · rw [addC_join hc]
      rcases h with h | ⟨i, k', e, b, h1, h2, h3⟩
      · have := h q k rfl
        omega
      · obtain ⟨_, e2⟩ := List.append_inj' e rfl
        injection e2 with e2
        subst e2
        exact ⟨q, _, rfl, b, h1, h2, h3⟩
    · rw [addC_not hc]
      exact ⟨_, _, rfl, f, rfl, ha, Nat.le_refl _⟩
theorem ap_of {a f : Nat} {ks : List Cg} (h : In f 0 ks) (hf : f < a) : Ap a ks := fun i k e => by
  subst e
  obtain ⟨b, hb, _, h2⟩ := In_init h
  omega
theorem ap_nil (a : Nat) : Ap a [] := fun i k e => by
  have := congrArg List.length e
  simp at this
/-- In the midst of a line: what is put in up to f, and what still stands there. -/
structure Mid (t : List UInt8) (p r : ByteArray) (rest G : List UInt8) (Q : List (List UInt8)) (ks : List Cg) (f : Nat) (X : List UInt8) : Prop where
  sw : Sw t r ks f X
  text : t.drop f = jn p.data.toList Q ++ rest
  out : X ++ jn r.data.toList Q = G
theorem Mid.step {t : List UInt8} {p r : ByteArray} {rest G x y : List UInt8} {q : List (List UInt8)} {ks : List Cg} {f : Nat} {X : List UInt8} (M : Mid t p r rest G (x :: y :: q) ks f X)
    (ht : valid t = true) (hp : valid p.data.toList = true) (hr : valid r.data.toList = true) (h1 : 1 ≤ p.size) :
    Mid t p r rest G (y :: q) (addC t ks (f + x.length) p r) (f + x.length + p.size) (X ++ x ++ r.data.toList) := by
  have htx := M.text
  have hne : (y :: q) ≠ [] := by simp
  rw [jn_cons _ _ hne, List.append_assoc, List.append_assoc] at htx
  have hd : t.drop (f + x.length) = p.data.toList ++ (jn p.data.toList (y :: q) ++ rest) := by rw [← List.drop_drop, htx, List.drop_left]
  have hd2 : t.drop (f + x.length + p.size) = jn p.data.toList (y :: q) ++ rest := by rw [← List.drop_drop, hd, ← data_len p, List.drop_left]
  have hpx : p.data.toList <+: t.drop (f + x.length) := by rw [hd]; exact List.prefix_append _ _
  have hlen := congrArg List.length hd
  rw [List.length_drop, List.length_append, data_len] at hlen
  have hpl : place t ((f + x.length : Nat) : Int) = true := by
    obtain ⟨rs, hdec⟩ := Utf.valid_of ht
    obtain ⟨i, hi, he⟩ := Look.at_place hdec hp (fun e => by have := data_len p; rw [e] at this; simp at this; omega) (x := f + x.length) (by rw [Look.at_]; exact decide_eq_true hpx)
    rw [← he]
    exact Utf.place_at hdec (Nat.le_of_lt hi)
  have hfit : fits t ((f + x.length : Nat) : Int) p.data.toList r.data.toList = true := by
    simp only [fits, Bool.and_eq_true]
    exact ⟨⟨⟨hpl, hp⟩, hr⟩, by rw [Int.toNat_natCast]; exact List.isPrefixOf_iff_prefix.2 hpx⟩
  have hs := M.sw.skip (n := x.length) (by have := M.sw.le; omega)
  rw [htx, List.take_left] at hs
  refine ⟨hs.add hpx h1 hfit, hd2, ?_⟩
  rw [← M.out, jn_cons _ _ hne]
  simp
theorem Mid.stop {t : List UInt8} {p r : ByteArray} {rest G x : List UInt8} {ks : List Cg} {f : Nat} {X : List UInt8} (M : Mid t p r rest G [x] ks f X) : Sw t r ks (f + x.length) G ∧ t.drop (f + x.length) = rest := by
  have htx := M.text
  rw [jn_one] at htx
  have hlen := congrArg List.length htx
  rw [List.length_drop, List.length_append] at hlen
  have hs := M.sw.skip (n := x.length) (by have := M.sw.le; omega)
  rw [htx, List.take_left] at hs
  have ho := M.out
  rw [jn_one] at ho
  rw [ho] at hs
  exact ⟨hs, by rw [← List.drop_drop, htx, List.drop_left]⟩
/-- About to go into the first of some lines, at a; or behind them all. -/
def Ent (t : List UInt8) (r : ByteArray) (sw : List UInt8 → List UInt8) (tl G : List UInt8) (R : List (List UInt8)) (ks : List Cg) (a : Nat) : Prop :=
  match R with
  | [] => ∃ g, a = g + 1 ∧ Sw t r ks g G ∧ t.drop g = tl
  | x :: R' => ∃ X, Sw t r ks a X ∧ t.drop a = x ++ (aft R' ++ tl) ∧ X ++ (sw x ++ aft (R'.map sw)) = G ∧ Ap a ks
theorem Ent.next {t : List UInt8} {r : ByteArray} {sw : List UInt8 → List UInt8} {tl G X : List UInt8} {R : List (List UInt8)} {ks : List Cg} {g : Nat} (S : Sw t r ks g X) (ht : t.drop g = aft R ++ tl) (ho : X ++ aft (R.map sw) = G) : Ent t r sw tl G R ks (g + 1) := by
  cases R with
  | nil =>
    simp only [aft, List.map_nil, List.flatMap_nil, List.nil_append, List.append_nil] at ht ho
    exact ⟨g, rfl, by rw [← ho]; exact S, ht⟩
  | cons y q =>
    rw [aft_cons] at ht
    rw [List.map_cons, aft_cons] at ho
    have hlen := congrArg List.length ht
    rw [List.length_drop, List.length_append, List.length_cons] at hlen
    have hs := S.skip (n := 1) (by omega)
    rw [ht] at hs
    refine ⟨X ++ [10], hs, ?_, ?_, ap_of S.inn (by omega)⟩
    · rw [← List.drop_drop, ht]; simp
    · rw [← ho]; simp
theorem Ent.mid {t : List UInt8} {p r : ByteArray} {m : Nat} {tl G x : List UInt8} {R : List (List UInt8)} {ks : List Cg} {a : Nat} (h0 : 1 ≤ p.size) (h : Ent t r (fun l => jn r.data.toList (ps p.data.toList 0 m l)) tl G (x :: R) ks a) :
    ∃ X, Mid t p r (aft R ++ tl) (X ++ jn r.data.toList (ps p.data.toList 0 m x)) (ps p.data.toList 0 m x) ks a X ∧ Ap a ks ∧ (X ++ jn r.data.toList (ps p.data.toList 0 m x)) ++ aft (R.map fun l => jn r.data.toList (ps p.data.toList 0 m l)) = G := by
  obtain ⟨X, hs, ht, ho, ha⟩ := h
  refine ⟨X, ⟨hs, ?_, rfl⟩, ha, by rw [← ho]; simp⟩
  rw [ps_join (fun e => by have := data_len p; rw [e] at this; simp at this; omega)]
  exact ht
/-- The line of the last change. -/
def Lst (t : List UInt8) (ks : List Cg) (z : Int) : Prop := (ks = [] ∧ z = -1) ∨ ∃ (i : List Cg) (k : Cg), ks = i ++ [k] ∧ Line.of_ t k.at_ = z ∧ 0 ≤ z
theorem lst_tl {t : List UInt8} {a f j : Nat} {x : Nat × Nat} {ks : List Cg} (h : Tl a f ks) (hx : (L t)[j]? = some x) (ha : x.1 ≤ a) (hf : f ≤ x.2) : Lst t ks (j : Int) := by
  obtain ⟨i, k, e, b, h1, h2, h3⟩ := h
  exact .inr ⟨i, k, e, by rw [h1]; exact Line.of_at hx (by omega) (by omega), by omega⟩
/-- How often p stands in bytes, its places apart from one another. -/
theorem ps_at {p a t : List UInt8} (h0 : p ≠ []) (m : Nat) (h : ∀ x, x < a.length → ¬ p <+: (a ++ (p ++ t)).drop x) : ps p 0 (m + 1) (a ++ (p ++ t)) = a :: ps p 0 m t := by
  rcases ps_first h0 (m + 1) (a ++ (p ++ t)) with ⟨_, h2⟩ | ⟨_, a', t', e, h2, e2⟩
  · refine absurd ?_ (h2.resolve_left (by omega) a.length)
    rw [List.drop_left]
    exact List.prefix_append p t
  · have hal : a.length = a'.length := by
      rcases Nat.lt_trichotomy a.length a'.length with hh | hh | hh
      · refine absurd ?_ (h2 _ hh)
        rw [List.drop_left]; exact List.prefix_append p t
      · exact hh
      · refine absurd ?_ (h _ hh)
        rw [e, List.drop_left]; exact List.prefix_append p t'
    obtain ⟨rfl, e5⟩ := List.append_inj e hal
    obtain rfl := List.append_cancel_left e5
    exact e2
theorem ps_exact {p : List UInt8} (h0 : p ≠ []) (m : Nat) (s : List UInt8) : ps p 0 ((ps p 0 m s).length - 1) s = ps p 0 m s := by
  refine ps_rec h0 (P := fun m s q => ps p 0 (q.length - 1) s = q) (fun m s _ => ps_zero p s) (fun m a t h ih => ?_) m s
  have hl := List.length_pos_iff.2 (ps_ne p 0 m t)
  rw [List.length_cons, show (ps p 0 m t).length + 1 - 1 = (ps p 0 m t).length - 1 + 1 by omega, ps_at h0 _ h, ih]
theorem first_of {p s : List UInt8} (h0 : p ≠ []) : (Lib.index s p = -1 ∧ ∀ x, ¬ p <+: s.drop x) ∨ (∃ a t, Lib.index s p = (a.length : Nat) ∧ s = a ++ (p ++ t) ∧ ∀ x, x < a.length → ¬ p <+: s.drop x) := by
  have hpl := List.length_pos_iff.2 h0
  rcases Lib.index_spec s p with ⟨e, hn⟩ | ⟨i, e, hi, ho, hno⟩
  · refine .inl ⟨e, fun x hx => ?_⟩
    have hl := hx.length_le
    rw [List.length_drop] at hl
    have := hn x (by omega)
    rw [Lib.occAt, List.isPrefixOf_iff_prefix.2 hx] at this
    cases this
  · obtain ⟨t, ht⟩ := List.isPrefixOf_iff_prefix.1 ho
    have hl : (s.take i).length = i := by rw [List.length_take]; omega
    refine .inr ⟨s.take i, t, by rw [hl]; exact e, by rw [ht, List.take_append_drop], fun x hx hp => ?_⟩
    have := hno x (by omega)
    rw [Lib.occAt, List.isPrefixOf_iff_prefix.2 hp] at this
    cases this
theorem split_ps {p : List UInt8} (h0 : p ≠ []) : ∀ (k : Nat) (s : List UInt8), Lib.splitK p 0 k s = ps p 0 k s := by
  intro k
  induction k with
  | zero => intro s; rw [ps_zero]; rfl
  | succ k ih =>
    intro s
    rcases first_of (s := s) h0 with ⟨e, h⟩ | ⟨a, t, e, hs, h⟩
    · rw [Lib.splitK, e, if_pos (by decide)]
      rcases ps_first h0 (k + 1) s with ⟨e2, _⟩ | ⟨_, a, t, hs, _, _⟩
      · exact e2.symm
      · exact absurd (by rw [hs, List.drop_left]; exact List.prefix_append p t) (h a.length)
    · have e2 : ps p 0 (k + 1) s = a :: ps p 0 k t := by rw [hs]; exact ps_at h0 k (by rw [← hs]; exact h)
      rw [Lib.splitK, e, if_neg (by intro h; rw [beq_iff_eq] at h; omega), Int.toNat_natCast, ih, e2]
      congr 1
      · rw [hs]; simp
      · rw [hs, ← List.drop_drop, List.drop_left, List.drop_left]
theorem count_ps {p : List UInt8} (h0 : p ≠ []) : ∀ (m : Nat) (s : List UInt8), s.length ≤ m → Lib.count s p = (ps p 0 m s).length - 1 := by
  have hpl := List.length_pos_iff.2 h0
  intro m
  induction m with
  | zero =>
    intro s hs
    obtain rfl : s = [] := List.length_eq_zero_iff.1 (by omega)
    rcases first_of (s := ([] : List UInt8)) h0 with ⟨e, _⟩ | ⟨a, t, _, hs, _⟩
    · rw [Lib.count_miss e]; rfl
    · have := congrArg List.length hs
      simp only [List.length_nil, List.length_append] at this
      omega
  | succ m ih =>
    intro s hs
    rcases first_of (s := s) h0 with ⟨e, h⟩ | ⟨a, t, e, hst, h⟩
    · rw [Lib.count_miss e]
      rcases ps_first h0 (m + 1) s with ⟨e2, _⟩ | ⟨_, a, t, hst, _, _⟩
      · rw [e2]; rfl
      · exact absurd (by rw [hst, List.drop_left]; exact List.prefix_append p t) (h a.length)
    · have e2 : ps p 0 (m + 1) s = a :: ps p 0 m t := by rw [hst]; exact ps_at h0 m (by rw [← hst]; exact h)
      have hlen := congrArg List.length hst
      simp only [List.length_append] at hlen
      have hl := List.length_pos_iff.2 (ps_ne p 0 m t)
      have e3 : s.drop (a.length + p.length) = t := by rw [hst, ← List.drop_drop, List.drop_left, List.drop_left]
      rw [Lib.count_hit h0 e, e2, List.length_cons, e3, ih t (by omega)]
      omega
/-- A line's end parts the places. -/
theorem ps_feed {p : List UInt8} (h0 : p ≠ []) (hp : (10 : UInt8) ∉ p) (y : List UInt8) : ∀ (x : List UInt8) (k m m1 m2 : Nat), k ≤ x.length → x.length + 1 + y.length ≤ m → x.length ≤ m1 → y.length ≤ m2 →
    (ps p k m (x ++ 10 :: y)).length + 1 = (ps p k m1 x).length + (ps p 0 m2 y).length := by
  have hpl := List.length_pos_iff.2 h0
  have hpre : ∀ u : List UInt8, p <+: u ++ 10 :: y ↔ p <+: u := by
    intro u
    constructor
    · rintro ⟨v, hv⟩
      rcases Nat.lt_or_ge u.length p.length with hl | hl
      · exfalso
        apply hp
        have e : (p ++ v)[u.length]? = (u ++ 10 :: y)[u.length]? := by rw [hv]
        rw [List.getElem?_append_left hl, List.getElem?_append_right (Nat.le_refl _), Nat.sub_self] at e
        exact List.mem_of_getElem? e
      · have e := congrArg (List.take p.length) hv
        rw [List.take_left, List.take_append_of_le_length hl] at e
        rw [e]
        exact List.take_prefix _ _
    · exact fun h => h.trans (List.prefix_append _ _)
  intro x
  induction x with
  | nil =>
    intro k m m1 m2 hk hm h1 h2
    obtain rfl : k = 0 := by simpa using hk
    have hmiss : ¬ (0 < m ∧ p <+: 10 :: y) := fun h => by
      have h3 := (hpre []).1 h.2
      exact h0 (List.prefix_nil.1 h3)
    obtain ⟨x', q, e1, e2⟩ := ps_miss hmiss
    rw [List.nil_append, e2, ps_nil]
    have h3 : ps p 0 m y = ps p 0 m2 y := ps_more h0 (by simp at hm; omega) h2
    rw [← h3, e1]
    simp only [List.length_cons, List.length_nil]
    omega
  | cons b x ih =>
    intro k m m1 m2 hk hm h1 h2
    simp only [List.length_cons] at hk hm h1
    cases k with
    | succ k =>
      rw [List.cons_append, ps, ps]
      exact ih k m m1 m2 (by omega) (by omega) (by omega) h2
    | zero =>
      have hpb := hpre (b :: x)
      rw [List.cons_append] at hpb
      by_cases h : p <+: b :: x
      · have hl := h.length_le
        rw [List.length_cons] at hl
        rw [List.cons_append, ps, if_pos ⟨by omega, hpb.2 h⟩, ps, if_pos ⟨by omega, h⟩]
        have := ih (p.length - 1) (m - 1) (m1 - 1) m2 (by omega) (by omega) (by omega) h2
        rw [List.length_cons, List.length_cons]
        omega
      · obtain ⟨u1, q1, e1, e2⟩ := ps_miss (p := p) (m := m) (b := b) (t := x ++ 10 :: y) (fun hh => h (hpb.1 hh.2))
        obtain ⟨u2, q2, e3, e4⟩ := ps_miss (p := p) (m := m1) (b := b) (t := x) (fun hh => h hh.2)
        have := ih 0 m m1 m2 (by omega) (by omega) (by omega) h2
        rw [e1, e3] at this
        rw [List.cons_append, e2, e4]
        exact this
theorem cnt_more {p : List UInt8} (h0 : p ≠ []) {m n : Nat} : ∀ {Q : List (List UInt8)}, (∀ x ∈ Q, x.length ≤ m ∧ x.length ≤ n) → cnt p m Q = cnt p n Q
  | [], _ => rfl
  | x :: q, h => by
    have ih := cnt_more h0 (m := m) (n := n) (Q := q) (fun y hy => h y (by simp [hy]))
    have hx := h x (by simp)
    rw [cnt, cnt, List.map_cons, List.map_cons, List.sum_cons, List.sum_cons, ps_more h0 hx.1 hx.2]
    rw [cnt, cnt] at ih
    rw [ih]
/-- Lines at once, and one by one. -/
theorem count_glue {p : List UInt8} (h0 : p ≠ []) (hp : (10 : UInt8) ∉ p) : ∀ {Q : List (List UInt8)} {m : Nat}, (glue Q).length ≤ m → Lib.count (glue Q) p = cnt p m Q
  | [], m, _ => by
    rw [count_ps h0 m _ (by simp [glue])]
    show (ps p 0 m []).length - 1 = _
    rw [ps_nil]
    rfl
  | [x], m, h => by
    rw [glue_one] at h ⊢
    rw [count_ps h0 m x h]
    simp [cnt]
  | x :: y :: q, m, h => by
    have e : glue (x :: y :: q) = x ++ 10 :: glue (y :: q) := by rw [glue_cons, aft_glue (by simp)]
    rw [e, List.length_append, List.length_cons] at h
    have ih := count_glue h0 hp (Q := y :: q) (m := m) (by omega)
    have hf := ps_feed h0 hp (glue (y :: q)) x 0 m m m (Nat.zero_le _) (by omega) (by omega) (by omega)
    have h1 := List.length_pos_iff.2 (ps_ne p 0 m x)
    have h2 := List.length_pos_iff.2 (ps_ne p 0 m (glue (y :: q)))
    rw [count_ps h0 m _ (by omega)] at ih
    rw [e, count_ps h0 m _ (by rw [List.length_append, List.length_cons]; omega)]
    have ec : cnt p m (x :: y :: q) = ((ps p 0 m x).length - 1) + cnt p m (y :: q) := by
      rw [cnt, List.map_cons, List.sum_cons]; rfl
    rw [ec, ← ih]
    omega
end Sb
end Go.Proofs.YtlfhfpjffdaomaaDoor
/-
  Package sub: Range, plain, pattern, Count.
-/
namespace Go.Proofs.YtlfhfpjffdaomaaDoor
open Go.RowKit
open Gl
namespace Sb
theorem plain_count (s : List UInt8) : (Line.L s).length = 1 ↔ plain s := by
  unfold plain
  cases hv : Utf.valid s with
  | false => rw [Line.L_bad hv]; simp
  | true =>
    rw [L_len hv, Ix.parts_length]
    rw [Nat.add_eq_right, List.count_eq_zero]
    simp
theorem range_none {s : List UInt8} {a b : Int} (h : ¬ there s a b) : range s a b = (0, 0, false) := if_neg h
theorem range_some {s : List UInt8} {a b : Int} (h : there s a b) : range s a b = (Line.start s a, Line.stop s b, true) := if_pos h
/-- Where lines there are begin and end. -/
theorem there_at {s : List UInt8} {a b : Int} (h : there s a b) : ∃ (i j : Nat) (x y : Nat × Nat), a = i ∧ b = j ∧ i ≤ j ∧ (Line.L s)[i]? = some x ∧ (Line.L s)[j]? = some y ∧ Line.start s a = x.1 ∧ Line.stop s b = y.2 := by
  obtain ⟨h1, h2, h3⟩ := h
  obtain ⟨i, rfl⟩ : ∃ i : Nat, a = i := ⟨a.toNat, by omega⟩
  obtain ⟨j, rfl⟩ : ∃ j : Nat, b = j := ⟨b.toNat, by omega⟩
  have hi : i < (Line.L s).length := by omega
  have hj : j < (Line.L s).length := by omega
  exact ⟨i, j, _, _, rfl, rfl, by omega, List.getElem?_eq_getElem hi, List.getElem?_eq_getElem hj, Line.start_some (by rw [Line.line_nat]; exact List.getElem?_eq_getElem hi), Line.stop_some (by rw [Line.line_nat]; exact List.getElem?_eq_getElem hj)⟩
/-- The program's way: where the first begins, where the last ends, and their order. -/
theorem there_way (s : List UInt8) (a b : Int) : there s a b ↔ ¬ Line.start s a < 0 ∧ ¬ Line.stop s b < 0 ∧ ¬ b < a := by
  constructor
  · intro h
    obtain ⟨i, j, x, y, rfl, rfl, hij, _, _, e1, e2⟩ := there_at h
    rw [e1, e2]
    omega
  · rintro ⟨h1, h2, h3⟩
    have k1 : 0 ≤ a := by
      rcases Int.lt_or_le a 0 with h | h
      · rw [Line.start_none (Line.line_low h)] at h1; omega
      · exact h
    have k2 : b < (Line.L s).length := by
      rcases Int.lt_or_le b (Line.L s).length with h | h
      · exact h
      · rw [Line.stop_none (Line.line_past h)] at h2; omega
    exact ⟨k1, by omega, k2⟩
/-- What stands in lines that are there: the bytes from their beginning to their end. -/
theorem there_glue {s : List UInt8} {i j : Nat} {x y : Nat × Nat} (hij : i ≤ j) (hx : (Line.L s)[i]? = some x) (hy : (Line.L s)[j]? = some y) :
    Line.seg s x.1 y.2 = glue (mids i j (Ix.parts s)) ∧ x.1 + (glue (mids i j (Ix.parts s))).length = y.2 ∧ y.2 ≤ s.length ∧ mids i j (Ix.parts s) ≠ [] ∧
    s.take x.1 = fore ((Ix.parts s).take i) ∧ s.drop y.2 = aft ((Ix.parts s).drop (j + 1)) ∧ s.drop x.1 = glue (mids i j (Ix.parts s)) ++ aft ((Ix.parts s).drop (j + 1)) := by
  obtain ⟨A, B, C, h1, h2, h3, h4, h5, h6, h7⟩ := three hij hx hy
  have eA : (Ix.parts s).take i = A := by rw [h1, ← h3, List.take_left]
  have eB : mids i j (Ix.parts s) = B := by rw [mids, h1, ← h3, List.drop_left, h3, ← h4, List.take_left]
  have eC : (Ix.parts s).drop (j + 1) = C := by
    rw [h1, ← List.append_assoc, List.drop_left' (by rw [List.length_append]; omega)]
  have hl := congrArg List.length h5
  simp only [List.length_append] at hl
  have h5' : s = (fore A ++ glue B) ++ aft C := by rw [List.append_assoc]; exact h5
  have hyl : y.2 = (fore A ++ glue B).length := by rw [List.length_append]; exact h7
  rw [eA, eB, eC]
  refine ⟨?_, by omega, by omega, h2, take_of h5 h6, drop_of h5' hyl, drop_of h5 h6⟩
  rw [Line.seg, take_of h5' hyl, List.drop_left' h6.symm]
theorem count_way {s p : List UInt8} {i j : Nat} {x y : Nat × Nat} (hij : i ≤ j) (hx : (Line.L s)[i]? = some x) (hy : (Line.L s)[j]? = some y) (h0 : p ≠ []) (hp : plain p) : (count s (i : Int) (j : Int) p : Nat) = Lib.count (Line.seg s x.1 y.2) p := by
  obtain ⟨e1, e2, e3, _⟩ := there_glue hij hx hy
  have hj := (List.getElem?_eq_some_iff.1 hy).1
  rw [count, if_pos ⟨⟨by omega, by omega, by omega⟩, h0, hp⟩, Int.toNat_natCast, Int.toNat_natCast, e1, count_glue h0 hp.2 (m := s.length) (by omega)]
end Sb
/-- A range as a function answers it beside whether it is there. -/
def Sb.rangeV (r : Int × Int × Bool) : Value := .tuple #[.agg #[.int .i64 r.1, .int .i64 r.2.1, .bool r.2.2], .bool r.2.2]
set_option maxHeartbeats 1000000 in
set_option maxRecDepth 100000 in
theorem sub_Range_ok (s : ByteArray) (a b : Int) (hs : s.size ≤ 1000000000000) (h1 : ¬ Line.start s.data.toList a < 0) (h2 : ¬ Line.stop s.data.toList b < 0) (h3 : ¬ b < a) (w : World) :
    Calls Tryd.prog 10 #[.string s, .int .i64 a, .int .i64 b] w fun e w' => e = .returned (Sb.rangeV (Sb.range s.data.toList a b)) ∧ Below w.heap.size w w' := by
  have A1 := Lib.hid (fun w => line_Start s a hs w)
  have B1 := Lib.hid (fun w => line_End s b hs w)
  have K := RBox.new w 0 0 false
  obtain ⟨q0, q1, q2, f0, f1, f2⟩ := K.cells
  have H := Lib.hid (Sb.range_some ((Sb.there_way s.data.toList a b).2 ⟨h1, h2, h3⟩))
  generalize Line.start s.data.toList a = x at *
  generalize Line.stop s.data.toList b = y at *
  have d1 : decide (x < 0) = false := decide_eq_false h1
  have d2 : decide (y < 0) = false := decide_eq_false h2
  have d3 : decide (b < a) = false := decide_eq_false h3
  clear hs
  go_enter Tryd.func10, Tryd.ntmps10
  go_wp2_with (first
    | (go_at_call 16; (with_reducible refine (A1.out _).mono ?_); rintro e u ⟨rfl, hb⟩; replace K := K.on hb; clear hb q0 q1 q2 f0 f1 f2; obtain ⟨q0, q1, q2, f0, f1, f2⟩ := K.cells)
    | (go_at_call 17; (with_reducible refine (B1.out _).mono ?_); rintro e u ⟨rfl, hb⟩; replace K := K.on hb; clear hb q0 q1 q2 f0 f1 f2; obtain ⟨q0, q1, q2, f0, f1, f2⟩ := K.cells))
  exact ret_three1 rfl rfl (three_row K.blk) rfl Tryd.underlying32 rfl ⟨by rw [H.out]; rfl, below_three K.below (Nat.le_refl _)⟩
set_option maxHeartbeats 1000000 in
set_option maxRecDepth 100000 in
theorem sub_Range_a (s : ByteArray) (a b : Int) (hs : s.size ≤ 1000000000000) (h1 : Line.start s.data.toList a < 0) (w : World) :
    Calls Tryd.prog 10 #[.string s, .int .i64 a, .int .i64 b] w fun e w' => e = .returned (Sb.rangeV (Sb.range s.data.toList a b)) ∧ Below w.heap.size w w' := by
  have A1 := Lib.hid (fun w => line_Start s a hs w)
  have B1 := Lib.hid (fun w => line_End s b hs w)
  have K := RBox.new w 0 0 false
  obtain ⟨q0, q1, q2, f0, f1, f2⟩ := K.cells
  have H := Lib.hid (Sb.range_none fun h => ((Sb.there_way s.data.toList a b).1 h).1 h1)
  generalize Line.start s.data.toList a = x at *
  generalize Line.stop s.data.toList b = y at *
  have d1 : decide (x < 0) = true := decide_eq_true h1
  clear hs
  go_enter Tryd.func10, Tryd.ntmps10
  go_wp2_with (first
    | (go_at_call 16; (with_reducible refine (A1.out _).mono ?_); rintro e u ⟨rfl, hb⟩; replace K := K.on hb; clear hb q0 q1 q2 f0 f1 f2; obtain ⟨q0, q1, q2, f0, f1, f2⟩ := K.cells)
    | (go_at_call 17; (with_reducible refine (B1.out _).mono ?_); rintro e u ⟨rfl, hb⟩; replace K := K.on hb; clear hb q0 q1 q2 f0 f1 f2; obtain ⟨q0, q1, q2, f0, f1, f2⟩ := K.cells))
  exact ret_three1 rfl rfl (three_row K.blk) rfl Tryd.underlying32 rfl ⟨by rw [H.out]; rfl, below_three K.below (Nat.le_refl _)⟩
set_option maxHeartbeats 1000000 in
set_option maxRecDepth 100000 in
theorem sub_Range_b (s : ByteArray) (a b : Int) (hs : s.size ≤ 1000000000000) (h1 : ¬ Line.start s.data.toList a < 0) (h2 : Line.stop s.data.toList b < 0) (w : World) :
    Calls Tryd.prog 10 #[.string s, .int .i64 a, .int .i64 b] w fun e w' => e = .returned (Sb.rangeV (Sb.range s.data.toList a b)) ∧ Below w.heap.size w w' := by
  have A1 := Lib.hid (fun w => line_Start s a hs w)
  have B1 := Lib.hid (fun w => line_End s b hs w)
  have K := RBox.new w 0 0 false
  obtain ⟨q0, q1, q2, f0, f1, f2⟩ := K.cells
  have H := Lib.hid (Sb.range_none fun h => ((Sb.there_way s.data.toList a b).1 h).2.1 h2)
  generalize Line.start s.data.toList a = x at *
  generalize Line.stop s.data.toList b = y at *
  have d1 : decide (x < 0) = false := decide_eq_false h1
  have d2 : decide (y < 0) = true := decide_eq_true h2
  clear hs
  go_enter Tryd.func10, Tryd.ntmps10
  go_wp2_with (first
    | (go_at_call 16; (with_reducible refine (A1.out _).mono ?_); rintro e u ⟨rfl, hb⟩; replace K := K.on hb; clear hb q0 q1 q2 f0 f1 f2; obtain ⟨q0, q1, q2, f0, f1, f2⟩ := K.cells)
    | (go_at_call 17; (with_reducible refine (B1.out _).mono ?_); rintro e u ⟨rfl, hb⟩; replace K := K.on hb; clear hb q0 q1 q2 f0 f1 f2; obtain ⟨q0, q1, q2, f0, f1, f2⟩ := K.cells))
  exact ret_three1 rfl rfl (three_row K.blk) rfl Tryd.underlying32 rfl ⟨by rw [H.out]; rfl, below_three K.below (Nat.le_refl _)⟩
set_option maxHeartbeats 1000000 in
set_option maxRecDepth 100000 in
theorem sub_Range_c (s : ByteArray) (a b : Int) (hs : s.size ≤ 1000000000000) (h1 : ¬ Line.start s.data.toList a < 0) (h2 : ¬ Line.stop s.data.toList b < 0) (h3 : b < a) (w : World) :
    Calls Tryd.prog 10 #[.string s, .int .i64 a, .int .i64 b] w fun e w' => e = .returned (Sb.rangeV (Sb.range s.data.toList a b)) ∧ Below w.heap.size w w' := by
  have A1 := Lib.hid (fun w => line_Start s a hs w)
  have B1 := Lib.hid (fun w => line_End s b hs w)
  have K := RBox.new w 0 0 false
  obtain ⟨q0, q1, q2, f0, f1, f2⟩ := K.cells
  have H := Lib.hid (Sb.range_none fun h => ((Sb.there_way s.data.toList a b).1 h).2.2 h3)
  generalize Line.start s.data.toList a = x at *
  generalize Line.stop s.data.toList b = y at *
  have d1 : decide (x < 0) = false := decide_eq_false h1
  have d2 : decide (y < 0) = false := decide_eq_false h2
  have d3 : decide (b < a) = true := decide_eq_true h3
  clear hs
  go_enter Tryd.func10, Tryd.ntmps10
  go_wp2_with (first
    | (go_at_call 16; (with_reducible refine (A1.out _).mono ?_); rintro e u ⟨rfl, hb⟩; replace K := K.on hb; clear hb q0 q1 q2 f0 f1 f2; obtain ⟨q0, q1, q2, f0, f1, f2⟩ := K.cells)
    | (go_at_call 17; (with_reducible refine (B1.out _).mono ?_); rintro e u ⟨rfl, hb⟩; replace K := K.on hb; clear hb q0 q1 q2 f0 f1 f2; obtain ⟨q0, q1, q2, f0, f1, f2⟩ := K.cells))
  exact ret_three1 rfl rfl (three_row K.blk) rfl Tryd.underlying32 rfl ⟨by rw [H.out]; rfl, below_three K.below (Nat.le_refl _)⟩
theorem sub_Range (s : ByteArray) (a b : Int) (hs : s.size ≤ 1000000000000) (w : World) :
    Calls Tryd.prog 10 #[.string s, .int .i64 a, .int .i64 b] w fun e w' => e = .returned (Sb.rangeV (Sb.range s.data.toList a b)) ∧ Below w.heap.size w w' := by
  by_cases h1 : Line.start s.data.toList a < 0
  · exact sub_Range_a s a b hs h1 w
  · by_cases h2 : Line.stop s.data.toList b < 0
    · exact sub_Range_b s a b hs h1 h2 w
    · by_cases h3 : b < a
      · exact sub_Range_c s a b hs h1 h2 h3 w
      · exact sub_Range_ok s a b hs h1 h2 h3 w
theorem sub_plain (p : ByteArray) (hp : p.size ≤ 281474976710656) (w : World) :
    Calls Tryd.prog 20 #[.string p] w fun e w' => e = .returned (.bool (decide (Sb.plain p.data.toList))) ∧ Below w.heap.size w w' := by
  have C := Lib.hid (fun w => line_Count_wide p hp w)
  have g : ((((Line.L p.data.toList).length : Nat) : Int) == 1) = decide (Sb.plain p.data.toList) := by
    rw [Bool.eq_iff_iff, beq_iff_eq, decide_eq_true_eq, ← Sb.plain_count]
    omega
  generalize (Line.L p.data.toList).length = n at *
  generalize decide (Sb.plain p.data.toList) = z at *
  go_enter Tryd.func20, Tryd.ntmps20
  go_wp2_with (go_at_call 14; (with_reducible refine (C.out _).mono ?_); rintro e u ⟨rfl, hb⟩)
  go_ret
  exact ⟨rfl, hb⟩
theorem sub_pattern (p : ByteArray) (hp : p.size ≤ 281474976710656) (w : World) :
    Calls Tryd.prog 19 #[.string p] w fun e w' => e = .returned (.bool (decide (p.data.toList ≠ [] ∧ Sb.plain p.data.toList))) ∧ Below w.heap.size w w' := by
  have C := Lib.hid (fun w => sub_plain p hp w)
  by_cases h0 : p.data.toList = []
  · have H : Hid (decide (p.data.toList ≠ [] ∧ Sb.plain p.data.toList) = false) := decide_eq_false (fun h => h.1 h0)
    have g0 : p.toList.isEmpty = true := by rw [Lib.toList_data, h0]; rfl
    clear h0 C
    go_enter Tryd.func19, Tryd.ntmps19
    go_wp2
    go_ret
    exact ⟨by rw [H.out]; rfl, Below.refl _ _⟩
  · have H : Hid (decide (p.data.toList ≠ [] ∧ Sb.plain p.data.toList) = decide (Sb.plain p.data.toList)) := by
      show _ = _
      rw [decide_eq_decide]
      exact ⟨fun h => h.2, fun h => ⟨h0, h⟩⟩
    have g0 : p.toList.isEmpty = false := by
      rw [Lib.toList_data]
      cases hl : p.data.toList with
      | nil => exact absurd hl h0
      | cons _ _ => rfl
    generalize decide (Sb.plain p.data.toList) = z at *
    clear h0
    go_enter Tryd.func19, Tryd.ntmps19
    go_wp2_with (go_at_call 20; (with_reducible refine (C.out _).mono ?_); rintro e u ⟨rfl, hb⟩)
    go_ret
    exact ⟨by rw [H.out]; rfl, hb⟩
theorem str_count {w : World} (hm : MaxAt w) (s p : ByteArray) (hs : s.size < 4294967281) (h1 : 1 ≤ p.size) :
    Calls Tryd.prog 32 #[.string s, .string p] w fun e w' => e = .returned (.int .i64 (Lib.count s.data.toList p.data.toList : Nat)) ∧ w' = w := by
  obtain ⟨m, hm⟩ := hm
  exact Any.strings_Count_any { Tryd.lays138 with } s p m w hs hm h1
set_option maxHeartbeats 1000000 in
set_option maxRecDepth 100000 in
theorem sub_Count_no (s : ByteArray) (a b : Int) (p : ByteArray) (hs : s.size ≤ 1000000000000) (h : ¬ Sb.there s.data.toList a b) (w : World) :
    Calls Tryd.prog 12 #[.string s, .int .i64 a, .int .i64 b, .string p] w fun e w' => e = .returned (.int .i64 (Sb.count s.data.toList a b p.data.toList : Nat)) ∧ Below w.heap.size w w' := by
  have R := Lib.hid (fun w => sub_Range s a b hs w)
  rw [Sb.range_none h, Sb.rangeV] at R
  have H : Hid (Sb.count s.data.toList a b p.data.toList = 0) := by show _ = _; rw [Sb.count, if_neg (fun hh => h hh.1)]
  clear h
  go_enter Tryd.func12, Tryd.ntmps12
  go_wp2_with (go_at_call 10; (with_reducible refine (R.out _).mono ?_); rintro e u ⟨rfl, hb⟩)
  go_ret
  exact ⟨by rw [H.out]; rfl, hb.alloc hb.size _⟩
set_option maxHeartbeats 1000000 in
set_option maxRecDepth 100000 in
theorem sub_Count_pat (s : ByteArray) (a b : Int) (p : ByteArray) (hs : s.size ≤ 1000000000000) (hp : p.size ≤ 281474976710656) (h : Sb.there s.data.toList a b) (h2 : ¬ (p.data.toList ≠ [] ∧ Sb.plain p.data.toList)) (w : World) :
    Calls Tryd.prog 12 #[.string s, .int .i64 a, .int .i64 b, .string p] w fun e w' => e = .returned (.int .i64 (Sb.count s.data.toList a b p.data.toList : Nat)) ∧ Below w.heap.size w w' := by
  have R := Lib.hid (fun w => sub_Range s a b hs w)
  have P := Lib.hid (fun w => sub_pattern p hp w)
  rw [Sb.range_some h, Sb.rangeV] at R
  rw [decide_eq_false h2] at P
  have H : Hid (Sb.count s.data.toList a b p.data.toList = 0) := by show _ = _; rw [Sb.count, if_neg (fun hh => h2 hh.2)]
  clear h h2
  generalize Line.start s.data.toList a = x at *
  generalize Line.stop s.data.toList b = y at *
  go_enter Tryd.func12, Tryd.ntmps12
  go_wp2_with (first
    | (go_at_call 10; (with_reducible refine (R.out _).mono ?_); rintro e u ⟨rfl, hb⟩; have hX := hb.alloc hb.size (.cells #[.int .i64 x, .int .i64 y, .bool true] 32))
    | (go_at_call 19; (with_reducible refine (P.out _).mono ?_); rintro e u2 ⟨rfl, hb2⟩; replace hX := hX.trans (hb2.mono hX.size)))
  go_ret
  exact ⟨by rw [H.out]; rfl, hX⟩
set_option maxHeartbeats 1000000 in
set_option maxRecDepth 100000 in
theorem sub_Count_ok (s : ByteArray) (a b : Int) (p : ByteArray) (hs : s.size < 4294967281) (hp : p.size ≤ 281474976710656) (h : Sb.there s.data.toList a b) (h2 : p.data.toList ≠ [] ∧ Sb.plain p.data.toList) {w : World} (hm : MaxAt w) :
    Calls Tryd.prog 12 #[.string s, .int .i64 a, .int .i64 b, .string p] w fun e w' => e = .returned (.int .i64 (Sb.count s.data.toList a b p.data.toList : Nat)) ∧ Below w.heap.size w w' := by
  have R := Lib.hid (fun w => sub_Range s a b (by omega) w)
  have P := Lib.hid (fun w => sub_pattern p hp w)
  rw [Sb.range_some h, Sb.rangeV] at R
  rw [decide_eq_true h2] at P
  obtain ⟨i, j, x, y, rfl, rfl, hij, hx, hy, e1, e2⟩ := Sb.there_at h
  rw [e1, e2] at R
  have H := Lib.hid (Sb.count_way hij hx hy h2.1 h2.2)
  obtain ⟨g1, g2, g3, _⟩ := Sb.there_glue hij hx hy
  rw [data_len] at g3
  have hp1 : 1 ≤ p.size := by
    rcases Nat.eq_zero_or_pos p.size with h0 | h0
    · exact absurd (List.length_eq_zero_iff.1 (by rw [data_len]; exact h0)) h2.1
    · exact h0
  have es : (s.extract x.1 y.2).data.toList = Line.seg s.data.toList x.1 y.2 := by rw [ext_seg]; rfl
  have hsz : (s.extract x.1 y.2).size ≤ s.size := by rw [ByteArray.size_extract]; omega
  have C : Hid (∀ u, MaxAt u → Calls Tryd.prog 32 #[.string (s.extract x.1 y.2), .string p] u fun e w' => e = .returned (.int .i64 (Lib.count (Line.seg s.data.toList x.1 y.2) p.data.toList : Nat)) ∧ w' = u) := fun u hu => by
    have := str_count hu (s.extract x.1 y.2) p (by omega) hp1
    rwa [es] at this
  have i1 : (x.1 : Int) ≤ (y.2 : Int) := by omega
  have i2 : (y.2 : Int) ≤ (s.size : Int) := by omega
  clear h h2 hx hy e1 e2 g1 g2 hij hp1 es hsz
  generalize Lib.count (Line.seg s.data.toList x.1 y.2) p.data.toList = n at *
  generalize x.1 = x at *
  generalize y.2 = y at *
  have CC : Hid (∀ (u v : World), Below (u.alloc (.cells #[.int .i64 x, .int .i64 y, .bool true] 32)).heap.size (u.alloc (.cells #[.int .i64 x, .int .i64 y, .bool true] 32)) v → v.cell? ⟨u.heap.size, 0, none⟩ = some (.int .i64 x) ∧ v.cell? ⟨u.heap.size, 1, none⟩ = some (.int .i64 y)) := fun u v hv => by
    have b0 := (Blk.new u 32 #[.int .i64 x, .int .i64 y, .bool true]).below hv (by simp)
    exact ⟨b0.cell 0, b0.cell 1⟩
  go_enter Tryd.func12, Tryd.ntmps12
  go_wp2_with (first
    | (go_at_call 10; (with_reducible refine (R.out _).mono ?_); rintro e u ⟨rfl, hb⟩; have hX := hb.alloc hb.size (.cells #[.int .i64 x, .int .i64 y, .bool true] 32); replace hm := hm.below hX)
    | (go_at_call 19; (with_reducible refine (P.out _).mono ?_); rintro e u2 ⟨rfl, hb2⟩; obtain ⟨c0, c1⟩ := CC.out _ _ hb2; replace hX := hX.trans (hb2.mono hX.size); replace hm := hm.below hb2)
    | (go_at_call 32; (with_reducible refine (C.out _ hm).mono ?_); rintro e u3 ⟨rfl, rfl⟩))
  go_ret
  exact ⟨by rw [H.out]; rfl, hX⟩
theorem sub_Count (s : ByteArray) (a b : Int) (p : ByteArray) (hs : s.size < 4294967281) (hp : p.size ≤ 281474976710656) {w : World} (hm : MaxAt w) :
    Calls Tryd.prog 12 #[.string s, .int .i64 a, .int .i64 b, .string p] w fun e w' => e = .returned (.int .i64 (Sb.count s.data.toList a b p.data.toList : Nat)) ∧ Below w.heap.size w w' := by
  by_cases h : Sb.there s.data.toList a b
  · by_cases h2 : p.data.toList ≠ [] ∧ Sb.plain p.data.toList
    · exact sub_Count_ok s a b p hs hp h h2 hm
    · exact sub_Count_pat s a b p (by omega) hp h h2 w
  · exact sub_Count_no s a b p (by omega) h w
end Go.Proofs.YtlfhfpjffdaomaaDoor
/-
  A text in the place of another one by changes, without a program: from line to line, and from place to place in a line.
-/
namespace Go.Proofs.YtlfhfpjffdaomaaDoor
namespace Sb
open Utf (valid)
open Line (L seg)
open Gl
/-- A line with the one in the other's place. -/
def sws (p r : ByteArray) (m : Nat) (l : List UInt8) : List UInt8 := jn r.data.toList (ps p.data.toList 0 m l)
/-- What stands up to the end of the lines, then. -/
def goal (t : List UInt8) (p r : ByteArray) (m i j : Nat) : List UInt8 := fore ((Ix.parts t).take i) ++ glue ((mids i j (Ix.parts t)).map (sws p r m))
/-- About to go into line q of the lines i to j, at f. -/
structure Cur (t : List UInt8) (p r : ByteArray) (m i j q f : Nat) (ks : List Cg) (z : Int) : Prop where
  ent : Ent t r (sws p r m) (aft ((Ix.parts t).drop (j + 1))) (goal t p r m i j) ((mids i j (Ix.parts t)).drop q) ks f
  at_ : f = (fore ((Ix.parts t).take (i + q))).length
  last : Lst t ks z
  rest : lst p.data.toList m ((i + q : Nat) : Int) z ((mids i j (Ix.parts t)).drop q) = lst p.data.toList m (i : Nat) (-1) (mids i j (Ix.parts t))
theorem Cur.start {t : List UInt8} (p r : ByteArray) (m : Nat) {i j : Nat} {x y : Nat × Nat} (hij : i ≤ j) (hx : (L t)[i]? = some x) (hy : (L t)[j]? = some y) : Cur t p r m i j 0 x.1 [] (-1) := by
  obtain ⟨_, _, h3, hne, h4, _, h6⟩ := there_glue hij hx hy
  have hx2 := (Line.L_each hx)
  refine ⟨?_, ?_, .inl ⟨rfl, rfl⟩, rfl⟩
  · rw [List.drop_zero]
    cases hB : mids i j (Ix.parts t) with
    | nil => exact absurd hB hne
    | cons b B =>
      rw [hB, glue_cons, List.append_assoc] at h6
      refine ⟨t.take x.1, Sw.nil (by omega), h6, ?_, ap_nil _⟩
      rw [goal, hB, h4, List.map_cons, glue_cons]
  · rw [Nat.add_zero, ← h4, List.length_take]; omega
theorem mids_get {t : List UInt8} {i j q : Nat} (hq : q < j + 1 - i) : (mids i j (Ix.parts t))[q]? = (Ix.parts t)[i + q]? := by
  rw [mids, List.getElem?_take, if_pos hq, List.getElem?_drop]
/-- In a line that begins at a, behind u places. -/
def Row (t : List UInt8) (p r : ByteArray) (m i j q : Nat) (x : List UInt8) (a : Nat) (z : Int) (u f : Nat) (ks : List Cg) : Prop :=
  ∃ ks0 X X', Cur t p r m i j q a ks0 z ∧ Mid t p r (aft ((mids i j (Ix.parts t)).drop (q + 1)) ++ aft ((Ix.parts t).drop (j + 1))) (X ++ sws p r m x) ((ps p.data.toList 0 m x).drop u) ks f X' ∧
    ((u = 0 ∧ ks = ks0) ∨ (0 < u ∧ Tl a f ks)) ∧ Ap a ks0 ∧ a ≤ f ∧ X ++ sws p r m x ++ aft (((mids i j (Ix.parts t)).drop (q + 1)).map (sws p r m)) = goal t p r m i j
theorem Cur.row {t : List UInt8} {p r : ByteArray} {m i j q f : Nat} {ks : List Cg} {z : Int} {x : List UInt8} (C : Cur t p r m i j q f ks z) (hx : (mids i j (Ix.parts t))[q]? = some x) (h1 : 1 ≤ p.size) : Row t p r m i j q x f z 0 f ks := by
  have he := C.ent
  obtain ⟨hq, hx2⟩ := List.getElem?_eq_some_iff.1 hx
  rw [List.drop_eq_getElem_cons hq, hx2] at he
  obtain ⟨X, hM, ha, ho⟩ := Ent.mid h1 he
  exact ⟨ks, X, X, C, hM, .inl ⟨rfl, rfl⟩, ha, Nat.le_refl _, ho⟩
theorem Row.get {t : List UInt8} {p r : ByteArray} {m i j q a u f : Nat} {x : List UInt8} {ks : List Cg} {z : Int} (R : Row t p r m i j q x a z u f ks) : Btc.In f 0 ks ∧ ks.length ≤ t.length ∧ f ≤ t.length := by
  obtain ⟨_, _, _, _, M, _⟩ := R
  exact ⟨M.sw.inn, M.sw.heavy.1, M.sw.le⟩
theorem Row.step {t : List UInt8} {p r : ByteArray} {m i j q a u f : Nat} {x b : List UInt8} {ks : List Cg} {z : Int} (R : Row t p r m i j q x a z u f ks) (hb : (ps p.data.toList 0 m x)[u]? = some b) (hu : u + 1 < (ps p.data.toList 0 m x).length)
    (ht : valid t = true) (hp : valid p.data.toList = true) (hr : valid r.data.toList = true) (h1 : 1 ≤ p.size) :
    f + b.length + p.size ≤ t.length ∧ Btc.In (f + b.length) 0 ks ∧ Row t p r m i j q x a z (u + 1) (f + b.length + p.size) (addC t ks (f + b.length) p r) := by
  obtain ⟨ks0, X, X', C, M, h2, h3, h4, h5⟩ := R
  obtain ⟨hu0, hb2⟩ := List.getElem?_eq_some_iff.1 hb
  rw [List.drop_eq_getElem_cons hu0, hb2, List.drop_eq_getElem_cons hu] at M
  have M2 := M.step ht hp hr h1
  refine ⟨M2.sw.le, In_more M.sw.inn (by omega), ks0, X, _, C, by rw [List.drop_eq_getElem_cons hu]; exact M2, .inr ⟨by omega, ?_⟩, h3, by omega, h5⟩
  refine (tl_add (a := a) (f := f + b.length) ?_ (by omega)).more (by omega)
  rcases h2 with ⟨_, rfl⟩ | ⟨_, h⟩
  · exact .inl h3
  · exact .inr (h.more (by omega))
theorem Row.stop {t : List UInt8} {p r : ByteArray} {m i j q a u f : Nat} {x b : List UInt8} {ks : List Cg} {z : Int} (R : Row t p r m i j q x a z u f ks) (hx : (mids i j (Ix.parts t))[q]? = some x) (hb : (ps p.data.toList 0 m x)[u]? = some b) (hu : u + 1 = (ps p.data.toList 0 m x).length) (ht : valid t = true) :
    f + b.length ≤ t.length ∧ ∃ z', Cur t p r m i j (q + 1) (f + b.length + 1) ks z' := by
  obtain ⟨ks0, X, X', C, M, h2, h3, h4, h5⟩ := R
  obtain ⟨hu0, hb2⟩ := List.getElem?_eq_some_iff.1 hb
  obtain ⟨hq, hx2⟩ := List.getElem?_eq_some_iff.1 hx
  have hnil : (ps p.data.toList 0 m x).drop (u + 1) = [] := List.drop_eq_nil_of_le (by omega)
  rw [List.drop_eq_getElem_cons hu0, hb2, hnil] at M
  obtain ⟨S, hd⟩ := M.stop
  have hq2 : q < j + 1 - i := by rw [mids, List.length_take] at hq; omega
  have hxp : (Ix.parts t)[i + q]? = some x := by rw [← mids_get hq2]; exact hx
  have hL := L_at ht hxp
  rw [← C.at_] at hL
  have he := C.ent
  rw [List.drop_eq_getElem_cons hq, hx2] at he
  obtain ⟨X0, S0, hd0, _, _⟩ := he
  have e1 := congrArg List.length hd
  have e2 := congrArg List.length hd0
  have e3 := (Line.L_each hL).2
  have e4 := S.le
  have e5 := S0.le
  rw [List.length_drop] at e1 e2
  simp only [List.length_append] at e1 e2
  have hfb : f + b.length = a + x.length := by omega
  have hnext := fore_append ((Ix.parts t).take (i + q)) [x]
  have htk : (Ix.parts t).take (i + (q + 1)) = (Ix.parts t).take (i + q) ++ [x] := by
    rw [← Nat.add_assoc, List.take_add_one, hxp]; rfl
  refine ⟨e4, if 0 < (ps p.data.toList 0 m x).length - 1 then ((i + q : Nat) : Int) else z, Ent.next S hd h5, ?_, ?_, ?_⟩
  · rw [htk, hnext, List.length_append, ← C.at_, fore_cons]
    simp [fore]
    omega
  · by_cases hl : 0 < (ps p.data.toList 0 m x).length - 1
    · rw [if_pos hl]
      rcases h2 with ⟨h, _⟩ | ⟨_, h⟩
      · omega
      · exact lst_tl h hL (Nat.le_refl _) (by show f ≤ a + x.length; omega)
    · rw [if_neg hl]
      rcases h2 with ⟨_, rfl⟩ | ⟨h, _⟩
      · exact C.last
      · omega
  · rw [← C.rest, List.drop_eq_getElem_cons hq, hx2, lst]
    rw [show ((i + (q + 1) : Nat) : Int) = ((i + q : Nat) : Int) + 1 by omega]
/-- All changes that are laid. -/
structure Good (t : List UInt8) (p r : ByteArray) (m i j : Nat) (ks : List Cg) : Prop where
  sw : ∃ g X, Sw t r ks g X ∧ X ++ t.drop g = glue (rows p.data.toList r.data.toList m i j (Ix.parts t))
  last : Lst t ks (lst p.data.toList m (i : Nat) (-1) (mids i j (Ix.parts t)))
theorem Cur.good {t : List UInt8} {p r : ByteArray} {m i j q f : Nat} {ks : List Cg} {z : Int} (C : Cur t p r m i j q f ks z) (hij : i ≤ j) (hj : j < (Ix.parts t).length) (hq : (mids i j (Ix.parts t)).length ≤ q) : Good t p r m i j ks := by
  have he := C.ent
  have hr := C.rest
  rw [List.drop_eq_nil_of_le hq] at he hr
  obtain ⟨g, _, S, hd⟩ := he
  refine ⟨⟨g, _, S, ?_⟩, by rw [← hr]; exact C.last⟩
  have hne : (mids i j (Ix.parts t)).map (sws p r m) ≠ [] := fun h => by
    have h1 := congrArg List.length h
    rw [List.length_map, mids_length hij hj, List.length_nil] at h1
    omega
  rw [hd, goal, rows, List.append_assoc]
  exact (glue_mid hne).symm
theorem Good.none {t : List UInt8} {p r : ByteArray} {m i j : Nat} {ks : List Cg} (G : Good t p r m i j ks) : ks = [] ↔ cnt p.data.toList m (mids i j (Ix.parts t)) = 0 := by
  constructor
  · rintro rfl
    rcases G.last with ⟨_, h⟩ | ⟨i', k, h, _⟩
    · rcases lst_some (p := p.data.toList) (m := m) (Q := mids i j (Ix.parts t)) (i : Nat) (-1) with ⟨_, h2⟩ | ⟨h2, _⟩
      · exact h2
      · omega
    · have := congrArg List.length h
      simp at this
  · intro h
    rcases G.last with ⟨h1, _⟩ | ⟨i', k, _, _, h2⟩
    · exact h1
    · rw [lst_none h] at h2; omega
theorem Good.made {t : List UInt8} {p r : ByteArray} {m i j : Nat} {ks : List Cg} (G : Good t p r m i j ks) : Btc.right t ks = true ∧ Btc.made t ks = glue (rows p.data.toList r.data.toList m i j (Ix.parts t)) ∧ ((Btc.made t ks).length : Int) = t.length + Btc.grow ks ∧ ks.length ≤ t.length ∧ (weigh ks : Int) ≤ 2 * t.length + Btc.grow ks ∧ weigh ks ≤ t.length + ks.length * r.size ∧ (∀ k ∈ ks, 0 ≤ k.at_ ∧ k.at_ ≤ t.length) := by
  obtain ⟨g, X, S, h⟩ := G.sw
  obtain ⟨h1, h2, h3⟩ := S.heavy
  refine ⟨S.right, by rw [S.done, h], S.grow, h1, h2, h3, fun k hk => ?_⟩
  obtain ⟨a, ha, hl⟩ := Chg.fits_off (S.fit k hk)
  omega
theorem Good.last_at {t : List UInt8} {p r : ByteArray} {m i j : Nat} {ks : List Cg} (G : Good t p r m i j ks) {n : Nat} (hn : ks.length = n + 1) : ∃ k, ks[n]? = some k ∧ Line.of_ t k.at_ = lst p.data.toList m (i : Nat) (-1) (mids i j (Ix.parts t)) := by
  rcases G.last with ⟨rfl, _⟩ | ⟨i', k, rfl, h, _⟩
  · cases hn
  · rw [List.length_append, List.length_singleton] at hn
    exact ⟨k, by rw [List.getElem?_append_right (by omega), show n - i'.length = 0 by omega]; rfl, h⟩
end Sb
end Go.Proofs.YtlfhfpjffdaomaaDoor
/-
  Package sub: a change put behind others; what is taken out one behind the other is one.
-/
namespace Go.Proofs.YtlfhfpjffdaomaaDoor
open Go.RowKit
open Gl Btc
/-- A list of changes of the call's own, behind what may write into its row. -/
def SubAddIs (B : Nat) (l : List Cg) (v : Value) (w : World) (e : Ending) (w' : World) : Prop :=
  ∃ (A : Option Addr) (c : Nat), e = .returned (.slice A l.length c) ∧ w'.ownsRow B 48 3 (.slice A l.length c) l.length (rows l) ∧ w.grownBy w' v.ownBlock
theorem own_addr {w : World} {B : Nat} {e : TypeId} {size n : Nat} {v : Value} {xs : List Value} (h : w.ownsRow B e size v n xs) (hn : 0 < n) : ∃ g c, v = .slice (some ⟨g, 0, none⟩) n c ∧ g < w.heap.size ∧ B ≤ g ∧ (∀ i, w.frozen? ⟨g, i, none⟩ = false) := by
  rcases h.2 with ⟨_, h1⟩ | ⟨g, cap, cur, hv, hB, hh, _⟩
  · omega
  · exact ⟨g, cap, hv, Blk.lt (w := w) hh, hB, fun i => Blk.frozen (w := w) hh i⟩
theorem rows_length (l : List Cg) : (rows l).length = l.length * 3 := by
  induction l with
  | nil => rfl
  | cons y r ih => show (_ :: _ :: _ :: rows r).length = _; simp only [List.length_cons, ih]; omega
theorem rows_old {l : List Cg} {k : Cg} (x : ByteArray) : (rows (l ++ [k])).set (l.length * 3 + 1) (.string x) = rows (l ++ [⟨k.at_, x, k.new⟩]) := by
  rw [rows_append, rows_append, List.set_append_right _ _ (by rw [rows_length]; omega), rows_length]
  congr 1
  rw [show l.length * 3 + 1 - l.length * 3 = 1 by omega]
  rfl
theorem sub_wrap {x : Int} (h1 : -9223372036854775808 ≤ x) (h2 : x ≤ 9223372036854775807) : IntKind.i64.wrap x = x := by rw [IntKind.wrap_i64]; omega
theorem sub_wrap64 {x : Int} (h1 : -9223372036854775808 ≤ x) (h2 : x ≤ 9223372036854775807) : wrap64 x = x := by unfold wrap64; omega
theorem sub_sum {x y : Nat} (h : x + y ≤ 1000000000000) : IntKind.i64.wrap ((x : Int) + (y : Int)) = (x : Int) + (y : Int) := sub_wrap (by omega) (by omega)
theorem sub_sum64 {x y : Nat} (h : x + y ≤ 1000000000000) : wrap64 ((x : Int) + (y : Int)) = (x : Int) + (y : Int) := sub_wrap64 (by omega) (by omega)
theorem sub_ond {w u : World} (h : Below w.heap.size w u) (n : Nat) : Below w.heap.size w (u.drewN n) := h.trans ((below_gb (gb_drewN u n none)).mono h.size)
set_option maxHeartbeats 2000000 in
set_option maxRecDepth 100000 in
theorem sub_add_nil (s p r : ByteArray) {A : Option Addr} {c B f n : Nat} {w : World} (hn : n = 0) (hown : w.ownsRow B 48 3 (.slice A n c) n []) (hB : B ≤ w.heap.size) :
    Calls Tryd.prog 39 #[.slice A n c, .string s, .agg #[.int .i64 f, .string p, .string r]] w (SubAddIs B [⟨f, p, r⟩] (.slice A n c) w) := by
  obtain ⟨i0, hi, hz0, hz1, hz2⟩ := info_parts info_cg
  have b0 := Blk.new w 48 #[.int .i64 f, .string p, .string r]
  have q0 : (w.alloc (.cells #[.int .i64 f, .string p, .string r] 48)).cell? ⟨w.heap.size, 0, none⟩ = some (.int .i64 f) := b0.cell 0
  have q1 : (w.alloc (.cells #[.int .i64 f, .string p, .string r] 48)).cell? ⟨w.heap.size, 1, none⟩ = some (.string p) := b0.cell 1
  have q2 : (w.alloc (.cells #[.int .i64 f, .string p, .string r] 48)).cell? ⟨w.heap.size, 2, none⟩ = some (.string r) := b0.cell 2
  subst hn
  go_enter Tryd.func39, Tryd.ntmps39
  go_wp2_with fail
  go_big_quiet (fail)
  have h5 : Below w.heap.size w (((w.alloc (.cells #[.int .i64 f, .string p, .string r] 48)).drewN nq).alloc (.cells #[.int .i64 f, .string p, .string r] 48)) := (sub_ond ((Below.refl _ w).alloc (Nat.le_refl _) (.cells #[.int .i64 f, .string p, .string r] 48)) _).alloc (by simp) _
  have b7 : Blk (((w.alloc (.cells #[.int .i64 f, .string p, .string r] 48)).drewN nq).alloc (.cells #[.int .i64 f, .string p, .string r] 48)) (w.heap.size + 1) 48 #[.int .i64 f, .string p, .string r] := by
    have := Blk.new ((w.alloc (.cells #[.int .i64 f, .string p, .string r] 48)).drewN nq) 48 #[.int .i64 f, .string p, .string r]
    simpa using this
  have ho5 := hown.kept (gb_below none h5) (by cases hv : (Value.slice A 0 c).ownBlock <;> simp)
  go_wp2_with (first
    | (at_builtin; refine wpList_append_own _ rfl _ _ 43 rfl B 48 i0 _ 3 40 Tryd.underlying43 hi hz0 hz1 hz2 rfl (by decide) _ _ _ rfl ho5 ⟨w.heap.size + 1, 0, none⟩ 1 1 [.int .i64 f, .string p, .string r] rfl rfl ?c1 ?c2 ?c3 ?c4 ?c5 ?_))
  case c1 =>
    intro j u hj
    rw [add_plain, Nat.zero_add]
    exact (b7.cell j).trans (by simpa using hj)
  case c2 =>
    intro u hu
    simp only [List.mem_cons, List.not_mem_nil, or_false] at hu
    rcases hu with rfl | rfl | rfl <;> rfl
  case c3 => unfold maxLen; omega
  case c4 => omega
  case c5 => exact Nat.le_trans hB h5.size
  intro v' w6 hown6 hgrow6 _
  obtain ⟨a6, cap6, rfl⟩ := own_shape hown6
  go_wp2
  go_ret
  refine ⟨a6, cap6, rfl, hown6, gb_trans (gb_below _ h5) hgrow6⟩
set_option maxHeartbeats 2000000 in
set_option maxRecDepth 100000 in
theorem sub_add_put (s p r : ByteArray) {A : Option Addr} {c B f n m : Nat} {ks : List Cg} {k : Cg} {w : World} (hm : ks.length = m) (hn : n = m + 1) (hmx : m ≤ 1000000) (hown : w.ownsRow B 48 3 (.slice A n c) n (rows (ks ++ [k]))) (hB : B ≤ w.heap.size) (h : r.toList.isEmpty = false) :
    Calls Tryd.prog 39 #[.slice A n c, .string s, .agg #[.int .i64 f, .string p, .string r]] w (SubAddIs B (ks ++ [k] ++ [⟨f, p, r⟩]) (.slice A n c) w) := by
  obtain ⟨i0, hi, hz0, hz1, hz2⟩ := info_parts info_cg
  have b0 := Blk.new w 48 #[.int .i64 f, .string p, .string r]
  have q0 : (w.alloc (.cells #[.int .i64 f, .string p, .string r] 48)).cell? ⟨w.heap.size, 0, none⟩ = some (.int .i64 f) := b0.cell 0
  have q1 : (w.alloc (.cells #[.int .i64 f, .string p, .string r] 48)).cell? ⟨w.heap.size, 1, none⟩ = some (.string p) := b0.cell 1
  have q2 : (w.alloc (.cells #[.int .i64 f, .string p, .string r] 48)).cell? ⟨w.heap.size, 2, none⟩ = some (.string r) := b0.cell 2
  subst hn
  obtain ⟨g, cc, hv, hgw, hBg, hfz⟩ := own_addr hown (by omega)
  injection hv with hv hl hcc
  subst hv hcc
  clear hl
  have hC := own_cgs hown (by rw [List.length_append, List.length_singleton]; omega)
  have CC : Hid (∀ u, Below w.heap.size w u → u.cell? ⟨g, m * 3, none⟩ = some (.int .i64 k.at_) ∧ u.cell? ⟨g, m * 3 + 1, none⟩ = some (.string k.old)) := fun u hu => by
    obtain ⟨b', off', e2, _, hc⟩ := (hC.below hu) (by simp)
    injection e2 with e2
    injection e2 with e2 e3 _
    subst e2 e3
    obtain ⟨a0, a1, _⟩ := hc m k (by rw [List.getElem?_append_right (by omega), hm, Nat.sub_self]; rfl)
    rw [Nat.zero_add] at a0 a1
    exact ⟨a0, a1⟩
  obtain ⟨c0, c1⟩ := CC.out (w.alloc (.cells #[.int .i64 f, .string p, .string r] 48)) ((Below.refl _ w).alloc (Nat.le_refl _) _)
  have w1 : IntKind.i64.wrap (m : Int) = (m : Int) := sub_wrap (by omega) (by omega)
  have g0 : decide ((0 : Int) ≤ (m : Int)) = true := by simp
  go_enter Tryd.func39, Tryd.ntmps39
  go_wp2_with fail
  go_big_quiet (fail)
  have h5 : Below w.heap.size w (((w.alloc (.cells #[.int .i64 f, .string p, .string r] 48)).drewN nq).alloc (.cells #[.int .i64 f, .string p, .string r] 48)) := (sub_ond ((Below.refl _ w).alloc (Nat.le_refl _) (.cells #[.int .i64 f, .string p, .string r] 48)) _).alloc (by simp) _
  have b7 : Blk (((w.alloc (.cells #[.int .i64 f, .string p, .string r] 48)).drewN nq).alloc (.cells #[.int .i64 f, .string p, .string r] 48)) (w.heap.size + 1) 48 #[.int .i64 f, .string p, .string r] := by
    have := Blk.new ((w.alloc (.cells #[.int .i64 f, .string p, .string r] 48)).drewN nq) 48 #[.int .i64 f, .string p, .string r]
    simpa using this
  have ho5 := hown.kept (gb_below none h5) (by cases hv : (Value.slice (some ⟨g, 0, none⟩) (m + 1) c).ownBlock <;> simp)
  go_wp2_with (first
    | (at_builtin; refine wpList_append_own _ rfl _ _ 43 rfl B 48 i0 _ 3 40 Tryd.underlying43 hi hz0 hz1 hz2 rfl (by decide) _ _ _ rfl ho5 ⟨w.heap.size + 1, 0, none⟩ 1 1 [.int .i64 f, .string p, .string r] rfl rfl ?c1 ?c2 ?c3 ?c4 ?c5 ?_))
  case c1 =>
    intro j u hj
    rw [add_plain, Nat.zero_add]
    exact (b7.cell j).trans (by simpa using hj)
  case c2 =>
    intro u hu
    simp only [List.mem_cons, List.not_mem_nil, or_false] at hu
    rcases hu with rfl | rfl | rfl <;> rfl
  case c3 => unfold maxLen; omega
  case c4 => omega
  case c5 => exact Nat.le_trans hB h5.size
  intro v' w6 hown6 hgrow6 _
  obtain ⟨a6, cap6, rfl⟩ := own_shape hown6
  go_wp2
  go_ret
  have HL : (ks ++ [k] ++ [(⟨f, p, r⟩ : Cg)]).length = m + 1 + 1 := by subst hm; simp
  have HR : rows (ks ++ [k] ++ [⟨f, p, r⟩]) = rows (ks ++ [k]) ++ [.int .i64 f, .string p, .string r] := rows_append _ _
  refine ⟨a6, cap6, by rw [HL]; rfl, by rw [HL, HR]; exact hown6, gb_trans (gb_below _ h5) hgrow6⟩
set_option maxHeartbeats 2000000 in
set_option maxRecDepth 100000 in
theorem sub_add_far (s p r : ByteArray) {A : Option Addr} {c B f n m : Nat} {ks : List Cg} {k : Cg} {w : World} (hm : ks.length = m) (hn : n = m + 1) (hmx : m ≤ 1000000) (hown : w.ownsRow B 48 3 (.slice A n c) n (rows (ks ++ [k]))) (hB : B ≤ w.heap.size) (h : r.toList.isEmpty = true) {b : Nat} (hb : k.at_ = b) (hbf : b + k.old.size ≤ 1000000000000) (hne : b + k.old.size ≠ f) :
    Calls Tryd.prog 39 #[.slice A n c, .string s, .agg #[.int .i64 f, .string p, .string r]] w (SubAddIs B (ks ++ [k] ++ [⟨f, p, r⟩]) (.slice A n c) w) := by
  obtain ⟨i0, hi, hz0, hz1, hz2⟩ := info_parts info_cg
  have b0 := Blk.new w 48 #[.int .i64 f, .string p, .string r]
  have q0 : (w.alloc (.cells #[.int .i64 f, .string p, .string r] 48)).cell? ⟨w.heap.size, 0, none⟩ = some (.int .i64 f) := b0.cell 0
  have q1 : (w.alloc (.cells #[.int .i64 f, .string p, .string r] 48)).cell? ⟨w.heap.size, 1, none⟩ = some (.string p) := b0.cell 1
  have q2 : (w.alloc (.cells #[.int .i64 f, .string p, .string r] 48)).cell? ⟨w.heap.size, 2, none⟩ = some (.string r) := b0.cell 2
  subst hn
  obtain ⟨g, cc, hv, hgw, hBg, hfz⟩ := own_addr hown (by omega)
  injection hv with hv hl hcc
  subst hv hcc
  clear hl
  have hC := own_cgs hown (by rw [List.length_append, List.length_singleton]; omega)
  have CC : Hid (∀ u, Below w.heap.size w u → u.cell? ⟨g, m * 3, none⟩ = some (.int .i64 k.at_) ∧ u.cell? ⟨g, m * 3 + 1, none⟩ = some (.string k.old)) := fun u hu => by
    obtain ⟨b', off', e2, _, hc⟩ := (hC.below hu) (by simp)
    injection e2 with e2
    injection e2 with e2 e3 _
    subst e2 e3
    obtain ⟨a0, a1, _⟩ := hc m k (by rw [List.getElem?_append_right (by omega), hm, Nat.sub_self]; rfl)
    rw [Nat.zero_add] at a0 a1
    exact ⟨a0, a1⟩
  obtain ⟨c0, c1⟩ := CC.out (w.alloc (.cells #[.int .i64 f, .string p, .string r] 48)) ((Below.refl _ w).alloc (Nat.le_refl _) _)
  have w1 : IntKind.i64.wrap (m : Int) = (m : Int) := sub_wrap (by omega) (by omega)
  have g0 : decide ((0 : Int) ≤ (m : Int)) = true := by simp
  rw [hb] at c0
  have g1 : ((b : Int) + (k.old.size : Int) == (f : Int)) = false := by rw [beq_eq_false_iff_ne]; omega
  have g2 : (b + k.old.size == f) = false := by rw [beq_eq_false_iff_ne]; omega
  have g3 : decide ((m : Int) < (m : Int) + 1) = true := decide_eq_true (by omega)
  have g4 : (m : Int) < (m : Int) + 1 := by omega
  have w3 : IntKind.i64.wrap ((b : Int) + (k.old.size : Int)) = (b : Int) + (k.old.size : Int) := sub_sum hbf
  have HL : (ks ++ [k] ++ [(⟨f, p, r⟩ : Cg)]).length = m + 1 + 1 := by subst hm; simp
  have HR : rows (ks ++ [k] ++ [⟨f, p, r⟩]) = rows (ks ++ [k]) ++ [.int .i64 f, .string p, .string r] := rows_append _ _
  clear hb hne hC CC hm b0 hbf
  go_enter Tryd.func39, Tryd.ntmps39
  go_wp2_with fail
  go_big_quiet (fail)
  have h5 : Below w.heap.size w (((w.alloc (.cells #[.int .i64 f, .string p, .string r] 48)).drewN nq).alloc (.cells #[.int .i64 f, .string p, .string r] 48)) := (sub_ond ((Below.refl _ w).alloc (Nat.le_refl _) (.cells #[.int .i64 f, .string p, .string r] 48)) _).alloc (by simp) _
  have b7 : Blk (((w.alloc (.cells #[.int .i64 f, .string p, .string r] 48)).drewN nq).alloc (.cells #[.int .i64 f, .string p, .string r] 48)) (w.heap.size + 1) 48 #[.int .i64 f, .string p, .string r] := by
    have := Blk.new ((w.alloc (.cells #[.int .i64 f, .string p, .string r] 48)).drewN nq) 48 #[.int .i64 f, .string p, .string r]
    simpa using this
  have ho5 := hown.kept (gb_below none h5) (by cases hv : (Value.slice (some ⟨g, 0, none⟩) (m + 1) c).ownBlock <;> simp)
  go_wp2_with (first
    | (at_builtin; refine wpList_append_own _ rfl _ _ 43 rfl B 48 i0 _ 3 40 Tryd.underlying43 hi hz0 hz1 hz2 rfl (by decide) _ _ _ rfl ho5 ⟨w.heap.size + 1, 0, none⟩ 1 1 [.int .i64 f, .string p, .string r] rfl rfl ?c1 ?c2 ?c3 ?c4 ?c5 ?_))
  case c1 =>
    intro j u hj
    rw [add_plain, Nat.zero_add]
    exact (b7.cell j).trans (by simpa using hj)
  case c2 =>
    intro u hu
    simp only [List.mem_cons, List.not_mem_nil, or_false] at hu
    rcases hu with rfl | rfl | rfl <;> rfl
  case c3 => unfold maxLen; omega
  case c4 => omega
  case c5 => exact Nat.le_trans hB h5.size
  intro v' w6 hown6 hgrow6 _
  obtain ⟨a6, cap6, rfl⟩ := own_shape hown6
  go_wp2
  go_ret
  refine ⟨a6, cap6, by rw [HL]; rfl, by rw [HL, HR]; exact hown6, gb_trans (gb_below _ h5) hgrow6⟩
set_option maxHeartbeats 2000000 in
set_option maxRecDepth 100000 in
theorem sub_add_join (s p r : ByteArray) {A : Option Addr} {c B f n m : Nat} {ks : List Cg} {k : Cg} {w : World} (hm : ks.length = m) (hn : n = m + 1) (hmx : m ≤ 1000000) (hown : w.ownsRow B 48 3 (.slice A n c) n (rows (ks ++ [k]))) (h : r.toList.isEmpty = true) {b : Nat} (hb : k.at_ = b) (hbf : b + k.old.size = f) (hfs : f + p.size ≤ s.size) (hs : s.size ≤ 1000000000000) :
    Calls Tryd.prog 39 #[.slice A n c, .string s, .agg #[.int .i64 f, .string p, .string r]] w (SubAddIs B (ks ++ [⟨k.at_, s.extract b (f + p.size), k.new⟩]) (.slice A n c) w) := by
  obtain ⟨i0, hi, hz0, hz1, hz2⟩ := info_parts info_cg
  have b0 := Blk.new w 48 #[.int .i64 f, .string p, .string r]
  have q0 : (w.alloc (.cells #[.int .i64 f, .string p, .string r] 48)).cell? ⟨w.heap.size, 0, none⟩ = some (.int .i64 f) := b0.cell 0
  have q1 : (w.alloc (.cells #[.int .i64 f, .string p, .string r] 48)).cell? ⟨w.heap.size, 1, none⟩ = some (.string p) := b0.cell 1
  have q2 : (w.alloc (.cells #[.int .i64 f, .string p, .string r] 48)).cell? ⟨w.heap.size, 2, none⟩ = some (.string r) := b0.cell 2
  subst hn
  obtain ⟨g, cc, hv, hgw, hBg, hfz⟩ := own_addr hown (by omega)
  injection hv with hv hl hcc
  subst hv hcc
  clear hl
  have hC := own_cgs hown (by rw [List.length_append, List.length_singleton]; omega)
  have CC : Hid (∀ u, Below w.heap.size w u → u.cell? ⟨g, m * 3, none⟩ = some (.int .i64 k.at_) ∧ u.cell? ⟨g, m * 3 + 1, none⟩ = some (.string k.old)) := fun u hu => by
    obtain ⟨b', off', e2, _, hc⟩ := (hC.below hu) (by simp)
    injection e2 with e2
    injection e2 with e2 e3 _
    subst e2 e3
    obtain ⟨a0, a1, _⟩ := hc m k (by rw [List.getElem?_append_right (by omega), hm, Nat.sub_self]; rfl)
    rw [Nat.zero_add] at a0 a1
    exact ⟨a0, a1⟩
  obtain ⟨c0, c1⟩ := CC.out (w.alloc (.cells #[.int .i64 f, .string p, .string r] 48)) ((Below.refl _ w).alloc (Nat.le_refl _) _)
  have w1 : IntKind.i64.wrap (m : Int) = (m : Int) := sub_wrap (by omega) (by omega)
  have g0 : decide ((0 : Int) ≤ (m : Int)) = true := by simp
  rw [hb] at c0
  have g1 : ((b : Int) + (k.old.size : Int) == (f : Int)) = true := by rw [beq_iff_eq]; omega
  have g2 : (b + k.old.size == f) = true := by rw [beq_iff_eq]; omega
  have g3 : decide ((m : Int) < (m : Int) + 1) = true := decide_eq_true (by omega)
  have g4 : (m : Int) < (m : Int) + 1 := by omega
  have w3 : IntKind.i64.wrap ((b : Int) + (k.old.size : Int)) = (b : Int) + (k.old.size : Int) := sub_sum (by rw [hbf]; exact Nat.le_trans (Nat.le_add_right _ _) (Nat.le_trans hfs hs))
  have w5 : IntKind.i64.wrap ((f : Int) + (p.size : Int)) = (f : Int) + (p.size : Int) := sub_sum (Nat.le_trans hfs hs)
  have i1 : (b : Int) ≤ (f : Int) + (p.size : Int) := by omega
  have i2 : (f : Int) + (p.size : Int) ≤ (s.size : Int) := by omega
  have f1 : (w.alloc (.cells #[.int .i64 f, .string p, .string r] 48)).frozen? ⟨g, m * 3 + 1, none⟩ = false := by
    have := own_addr (hown.alloc (.cells #[.int .i64 f, .string p, .string r] 48)) (by omega)
    obtain ⟨g', c', hv', _, _, hfz'⟩ := this
    injection hv' with hv' _ _
    injection hv' with hv'
    injection hv' with hv' _ _
    subst hv'
    exact hfz' _
  have HL : (ks ++ [(⟨k.at_, s.extract b (f + p.size), k.new⟩ : Cg)]).length = m + 1 := by subst hm; simp
  have HR : (rows (ks ++ [k])).set (m * 3 + 1) (.string (s.extract b (f + p.size))) = rows (ks ++ [⟨k.at_, s.extract b (f + p.size), k.new⟩]) := by subst hm; exact rows_old _
  clear hb hC CC hm b0 hbf
  go_enter Tryd.func39, Tryd.ntmps39
  go_wp2_with fail
  go_big_quiet (fail)
  go_wp2_with fail
  go_region
  go_wp2
  go_ret
  have hY : Below w.heap.size w ((w.alloc (.cells #[.int .i64 f, .string p, .string r] 48)).drewN (nq + 1)) := sub_ond ((Below.refl _ w).alloc (Nat.le_refl _) _) _
  have ho := hown.kept (gb_below none hY) (by simp [Value.ownBlock])
  obtain ⟨ho2, hg2⟩ := ho.stored (m * 3 + 1) (.string (s.extract b (f + p.size)))
  rw [HR] at ho2
  exact ⟨some ⟨g, 0, none⟩, c, by rw [HL]; rfl, by rw [HL]; exact ho2, gb_trans (gb_below _ hY) hg2⟩
theorem Sb.addC_is {s p r : ByteArray} {ks : List Cg} {k : Cg} {f b : Nat} (hb : k.at_ = b) (h : r.size = 0 ∧ k.at_ + k.old.size = f) : Sb.addC s.data.toList (ks ++ [k]) f p r = ks ++ [⟨k.at_, s.extract b (f + p.size), k.new⟩] := by
  rw [Sb.addC_join h, ext_seg, hb, Int.toNat_natCast]
theorem sub_add (s p r : ByteArray) {A : Option Addr} {c B f n : Nat} {ks : List Cg} {w : World} (hn : ks.length = n) (hmx : n ≤ 1000000) (hown : w.ownsRow B 48 3 (.slice A n c) n (rows ks)) (hB : B ≤ w.heap.size) (hin : Btc.In f 0 ks) (hfs : f + p.size ≤ s.size) (hs : s.size ≤ 1000000000000) :
    Calls Tryd.prog 39 #[.slice A n c, .string s, .agg #[.int .i64 f, .string p, .string r]] w (SubAddIs B (Sb.addC s.data.toList ks f p r) (.slice A n c) w) := by
  rcases List.eq_nil_or_concat ks with rfl | ⟨q, k, rfl⟩
  · rw [Sb.addC_nil]
    exact sub_add_nil s p r (by simpa using hn.symm) hown hB
  · rw [List.concat_eq_append] at *
    rw [List.length_append, List.length_singleton] at hn
    obtain ⟨b, hb, _, hbf⟩ := Sb.In_init hin
    cases hr : r.toList.isEmpty with
    | false =>
      have h0 : ¬ (r.size = 0 ∧ k.at_ + k.old.size = f) := fun h => by
        have : r.data.toList = [] := List.length_eq_zero_iff.1 (by rw [data_len]; exact h.1)
        rw [Lib.toList_data, this] at hr
        cases hr
      rw [Sb.addC_not h0]
      exact sub_add_put s p r (m := q.length) rfl hn.symm (by omega) hown hB hr
    | true =>
      have hr0 : r.size = 0 := by
        rw [Lib.toList_data, List.isEmpty_iff] at hr
        rw [← data_len, hr]; rfl
      by_cases he : b + k.old.size = f
      · rw [Sb.addC_is hb ⟨hr0, by rw [hb]; omega⟩]
        exact sub_add_join s p r (m := q.length) rfl hn.symm (by omega) hown hr hb he hfs hs
      · rw [Sb.addC_not (fun h => he (by have := h.2; rw [hb] at this; omega))]
        exact sub_add_far s p r (m := q.length) rfl hn.symm (by omega) hown hB hr hb (by omega) he
end Go.Proofs.YtlfhfpjffdaomaaDoor
/-
  strings.Split at a line feed: a text's lines, one by one.
-/
namespace Go.Proofs.YtlfhfpjffdaomaaDoor
open Go.RowKit Go.Shelf
namespace Gl
theorem split_parts : ∀ (n : Nat) (s : ByteArray), s.size ≤ n → ∀ k, s.data.toList.count 10 ≤ k → Lib.splitB ⟨#[10]⟩ 0 k s = (Ix.parts s.data.toList).map bs := by
  intro n
  induction n with
  | zero =>
    intro s hs k _
    have h0 : s.data.toList = [] := List.length_eq_zero_iff.1 (by rw [data_len]; omega)
    have h : Lib.indexB s ⟨#[10]⟩ = -1 := by
      show Lib.index s.data.toList [10] = -1
      rw [h0]; rfl
    rw [Lib.splitB_miss _ _ _ _ h, h0]
    show [s] = [bs []]
    rw [← h0]; rfl
  | succ n ih =>
    intro s hs k hk
    have hl := data_len s
    have e : Lib.indexB s ⟨#[10]⟩ = Lib.indexByte s.data.toList 10 := Lib.index_one s.data.toList 10
    have hge := Lib.indexByte_ge s.data.toList 10
    by_cases hi : Lib.indexByte s.data.toList 10 = -1
    · rw [Lib.splitB_miss _ _ _ _ (e.trans hi), Ix.parts_none hi]
      rfl
    · obtain ⟨o, ho⟩ : ∃ o : Nat, Lib.indexByte s.data.toList 10 = o := ⟨(Lib.indexByte s.data.toList 10).toNat, by omega⟩
      obtain ⟨hlt, hp⟩ := Ix.parts_some ho
      obtain ⟨h10, _⟩ := Lib.indexByte_some ho
      have hc : s.data.toList.count 10 = (s.data.toList.take (o + 1)).count 10 + (s.data.toList.drop (o + 1)).count 10 := by rw [← List.count_append, List.take_append_drop]
      have hc1 : 1 ≤ (s.data.toList.take (o + 1)).count 10 := by
        rw [List.take_add_one, h10, List.count_append]
        simp
      obtain ⟨k, rfl⟩ : ∃ j, k = j + 1 := ⟨k - 1, by omega⟩
      rw [Lib.splitB_hit _ _ _ _ _ (e.trans ho), hp, List.map_cons]
      have e1 : s.extract 0 (o + 0) = bs (s.data.toList.take o) := by rw [Lib.extract_eq]; simp [bs]
      have e2 : s.extract (o + (⟨#[10]⟩ : ByteArray).size) s.size = bs (s.data.toList.drop (o + 1)) := by
        rw [Lib.extract_eq, List.take_of_length_le (by rw [List.length_drop]; omega)]; rfl
      rw [e1, e2, ih _ (by rw [bs_size, List.length_drop]; omega) k (by rw [bs_toList]; omega), bs_toList]
end Gl
set_option maxHeartbeats 1000000 in
theorem str_split (s : ByteArray) (hs : s.size < 4294967281) (w : World) :
    Calls Tryd.prog 37 #[.string s, .string ⟨#[10]⟩] w fun e w' =>
      e = .returned (.slice (some ⟨w.heap.size, 0, none⟩) (Ix.parts s.data.toList).length (Ix.parts s.data.toList).length) ∧ w' = w.alloc (.cells (((Ix.parts s.data.toList).map bs).map Value.string).toArray 9) := by
  have hn := Ix.parts_length s.data.toList
  have hcb : Lib.countB s ⟨#[10]⟩ = s.data.toList.count 10 := Lib.count_one 10 _
  have C := Any.strings_genSplit_core { Tryd.lays146 with } (by kernel_rfl) s ⟨#[10]⟩ 0 (-1) (Ix.parts s.data.toList).length w hs (by decide) (Nat.zero_le _)
    (fun x c _ => by
      have := Tryd.strings_Index_one x 10 (w.alloc (.cells c 9))
      refine this.mono fun e w' h => ⟨?_, h.2⟩
      rw [h.1]
      show _ = Ending.returned (Value.int .i64 (Lib.index x.data.toList [10]))
      rw [Lib.index_one])
    (by
      refine (Tryd.strings_Count_one s 10 w).mono fun e w' h => ⟨?_, h.2⟩
      rw [h.1, hcb]
      first | rfl | skip)
    (by decide) (by decide) (by rw [if_pos (by decide), hcb, hn]; have := List.count_le_length (a := (10 : UInt8)) (l := s.data.toList); rw [data_len] at this; omega)
  have hsp := Gl.split_parts s.size s (Nat.le_refl _) ((Ix.parts s.data.toList).length - 1) (by omega)
  rw [hsp] at C
  have hl : ((Ix.parts s.data.toList).map bs).length = (Ix.parts s.data.toList).length := List.length_map _
  have hcells : Lib.cellsOf ((Ix.parts s.data.toList).map bs) (Ix.parts s.data.toList).length = (((Ix.parts s.data.toList).map bs).map Value.string).toArray := by
    have := Lib.cellsOf_full ((Ix.parts s.data.toList).map bs)
    rwa [hl] at this
  rw [hcells, hl] at C
  have C1 := Lib.hid C
  clear C hsp hcells hn hcb hl
  generalize (Ix.parts s.data.toList).length = m at *
  go_enter Tryd.func37, Tryd.ntmps37
  go_wp2_with (go_at_call 52; refine C1.out.mono ?_; rintro e w' ⟨rfl, rfl⟩)
  go_ret
  exact ⟨rfl, by rw [List.map_map]; rfl⟩
/-- Lists that a call has just laid. -/
theorem strs_new (w : World) (xs : List ByteArray) : Strs (w.alloc (.cells (xs.map Value.string).toArray 9)) (some ⟨w.heap.size, 0, none⟩) xs := fun _ => by
  refine ⟨_, rfl, by simp, fun j x hx => ?_⟩
  have hb := Blk.new w 9 (xs.map Value.string).toArray
  have e : (⟨w.heap.size, 0, none⟩ : Addr).add j = ⟨w.heap.size, j, none⟩ := by unfold Addr.add; split <;> simp_all
  rw [e, hb.cell]
  simp [hx]
end Go.Proofs.YtlfhfpjffdaomaaDoor
/-
  Package sub: the changes that put a text in the place of another one, line by line (strings.Split, strings.SplitN).
-/
namespace Go.Proofs.YtlfhfpjffdaomaaDoor
open Go.RowKit Go.Shelf
open Gl Btc
/-- Pieces of a line, as a call that has just laid them answers them. -/
def SplitIs (Q : List (List UInt8)) (w : World) (e : Ending) (w' : World) : Prop := ∃ n, Q.length ≤ n ∧ e = .returned (.slice (some ⟨w.heap.size, 0, none⟩) Q.length n) ∧ w' = w.alloc (.cells (Lib.cellsOf (Q.map bs) n) 9)
theorem splitB_ps {p : ByteArray} (h0 : p.data.toList ≠ []) (k : Nat) (x : List UInt8) : Lib.splitB p 0 k (bs x) = (Sb.ps p.data.toList 0 k x).map bs := by
  have h := Lib.splitB_data p 0 k (bs x)
  rw [bs_toList, Sb.split_ps h0] at h
  rw [← h, List.map_map]
  conv => lhs; rw [← List.map_id (Lib.splitB p 0 k (bs x))]
  exact List.map_congr_left fun y _ => (bs_data y).symm
set_option maxHeartbeats 1000000 in
theorem str_splitn_two {w : World} (hm : MaxAt w) (x : List UInt8) (p : ByteArray) (hx : x.length < 4294967281) (h0 : p.data.toList ≠ []) :
    Calls Tryd.prog 38 #[.string (bs x), .string p, .int .i64 2] w (SplitIs (Sb.ps p.data.toList 0 1 x) w) := by
  obtain ⟨m, hm⟩ := hm
  have hp1 : 1 ≤ p.size := by rw [← data_len]; exact List.length_pos_iff.2 h0
  have C := Any.strings_genSplit { Tryd.lays147 with } (by kernel_rfl) (bs x) p 0 2 (min 2 (x.length + 1)) m w (by rw [bs_size]; exact hx) hm hp1 (Nat.zero_le _) (by decide) (by decide) (by rw [if_neg (by decide), bs_size]; omega)
  have hq : Lib.splitB p 0 (min 2 (x.length + 1) - 1) (bs x) = (Sb.ps p.data.toList 0 1 x).map bs := by
    rw [splitB_ps h0]
    by_cases hx0 : x = []
    · subst hx0; rfl
    · have : 0 < x.length := List.length_pos_iff.2 hx0
      rw [show min 2 (x.length + 1) - 1 = 1 by omega]
  have hl := (Sb.ps_few h0 1 x)
  have hpos := List.length_pos_iff.2 (Sb.ps_ne p.data.toList 0 1 x)
  rw [hq, List.length_map] at C
  have C1 := Lib.hid C
  have HN : Hid ((Sb.ps p.data.toList 0 1 x).length ≤ min 2 (x.length + 1)) := by show _ ≤ _; omega
  clear C hq hl hpos
  generalize Sb.ps p.data.toList 0 1 x = Q at *
  generalize min 2 (x.length + 1) = n at *
  go_enter Tryd.func38, Tryd.ntmps38
  go_wp2_with (go_at_call 52; refine C1.out.mono ?_; rintro e w1 ⟨rfl, rfl⟩)
  go_ret
  exact ⟨n, HN.out, rfl, rfl⟩
set_option maxHeartbeats 1000000 in
theorem str_splitn_all {w : World} (hm : MaxAt w) (x : List UInt8) (p : ByteArray) (hx : x.length < 4294967281) (h0 : p.data.toList ≠ []) {M : Nat} (hM : x.length ≤ M) :
    Calls Tryd.prog 38 #[.string (bs x), .string p, .int .i64 (-1)] w (SplitIs (Sb.ps p.data.toList 0 M x) w) := by
  obtain ⟨m, hm⟩ := hm
  have hp1 : 1 ≤ p.size := by rw [← data_len]; exact List.length_pos_iff.2 h0
  have hc : Lib.countB (bs x) p = (Sb.ps p.data.toList 0 M x).length - 1 := by
    show Lib.count (bs x).data.toList p.data.toList = _
    rw [bs_toList]; exact Sb.count_ps h0 M x hM
  have hl := (Sb.ps_few h0 M x)
  have hpos := List.length_pos_iff.2 (Sb.ps_ne p.data.toList 0 M x)
  have C := Any.strings_genSplit { Tryd.lays147 with } (by kernel_rfl) (bs x) p 0 (-1) (Sb.ps p.data.toList 0 M x).length m w (by rw [bs_size]; exact hx) hm hp1 (Nat.zero_le _) (by decide) (by decide) (by rw [if_pos (by decide), bs_size, hc]; omega)
  have hq : Lib.splitB p 0 ((Sb.ps p.data.toList 0 M x).length - 1) (bs x) = (Sb.ps p.data.toList 0 M x).map bs := by
    rw [splitB_ps h0, Sb.ps_exact h0]
  rw [hq, List.length_map] at C
  have C1 := Lib.hid C
  clear C hq hl hpos hc
  generalize Sb.ps p.data.toList 0 M x = Q at *
  go_enter Tryd.func38, Tryd.ntmps38
  go_wp2_with (go_at_call 52; refine C1.out.mono ?_; rintro e w1 ⟨rfl, rfl⟩)
  go_ret
  exact ⟨_, Nat.le_refl _, rfl, rfl⟩
theorem cells_of {Q : List (List UInt8)} {n u : Nat} {b : List UInt8} (h : Q[u]? = some b) : (Lib.cellsOf (Q.map bs) n)[u]? = some (.string (bs b)) := by
  have hl := (List.getElem?_eq_some_iff.1 h).1
  unfold Lib.cellsOf
  rw [List.getElem?_toArray, List.getElem?_append_left (by simpa using hl)]
  simp [h]
/-- The changes that are laid, as a call answers them. -/
def SwapsIs (s : List UInt8) (p r : ByteArray) (m i j : Nat) (w : World) (e : Ending) (w' : World) : Prop :=
  ∃ (ks : List Cg) (A : Option Addr) (c : Nat), e = .returned (.slice A ks.length c) ∧ Cgs w' A ks ∧ Below w.heap.size w w' ∧ Sb.Good s p r m i j ks
set_option maxHeartbeats 4000000 in
set_option maxRecDepth 100000 in
theorem sub_swaps_two (s p r : ByteArray) {i j : Nat} {x y : Nat × Nat} (hij : i ≤ j) (hx : (Line.L s.data.toList)[i]? = some x) (hy : (Line.L s.data.toList)[j]? = some y) (hs : s.size ≤ 100000) (h0 : p.data.toList ≠ []) (hp : Utf.valid p.data.toList = true) (hr : Utf.valid r.data.toList = true) {w : World} (hm : MaxAt w) :
    Calls Tryd.prog 21 #[.string s, .agg #[.int .i64 x.1, .int .i64 y.2, .bool true], .string p, .string r, .bool false] w (SwapsIs s.data.toList p r 1 i j w) := by
  have hp1 : 1 ≤ p.size := by rw [← data_len]; exact List.length_pos_iff.2 h0
  have ht := Line.L_valid hx
  have TG := Sb.there_glue hij hx hy
  have e1 := TG.1
  have e2 := TG.2.1
  have e3 := TG.2.2.1
  have hne := TG.2.2.2.1
  clear TG
  have hjl : j < (Ix.parts s.data.toList).length := by rw [← L_len ht]; exact (List.getElem?_eq_some_iff.1 hy).1
  have hC0 := Lib.hid (Sb.Cur.start p r 1 hij hx hy)
  have hxy := (Line.L_each hx).1
  have hxm := (Line.L_each hx).2
  rw [data_len] at e3 hxm
  have hfree : ∀ z ∈ Sb.mids i j (Ix.parts s.data.toList), Free z := fun z hz => parts_free s.data.toList z (List.mem_of_mem_drop (List.mem_of_mem_take hz))
  have HB : Hid (∀ (q : Nat) z, (Sb.mids i j (Ix.parts s.data.toList))[q]? = some z → z.length ≤ s.size) := fun q z hz => by
    rw [← data_len]; exact Sb.row_len (List.mem_of_mem_drop (List.mem_of_mem_take (List.mem_of_getElem? hz)))
  have SP := fun w => str_split (bs (glue (Sb.mids i j (Ix.parts s.data.toList)))) (by rw [bs_size]; omega) w
  rw [bs_toList, parts_glue hne hfree] at SP
  have X1 := ext_seg s x.1 y.2
  rw [e1] at X1
  have hRl := Sb.mids_length hij hjl
  have hpl : (Ix.parts s.data.toList).length ≤ s.size + 1 := by
    have := Line.L_length s.data.toList
    rw [data_len] at this
    rw [← L_len ht]; exact this
  obtain ⟨Mr, hMr⟩ : ∃ Mr, (Sb.mids i j (Ix.parts s.data.toList)).length = Mr := ⟨_, rfl⟩
  have hMrl : Mr ≤ 100001 := by omega
  have HM := Lib.hid hMr
  have SN : Hid (∀ u, MaxAt u → ∀ z, z.length ≤ s.size → Calls Tryd.prog 38 #[.string (bs z), .string p, .int .i64 2] u (SplitIs (Sb.ps p.data.toList 0 1 z) u)) := fun u hu z hz => str_splitn_two hu z p (by omega) h0
  have hCS : Hid (∀ (q : Nat) X, (Sb.mids i j (Ix.parts s.data.toList))[q]? = some X → ((Sb.mids i j (Ix.parts s.data.toList)).map (Value.string ∘ bs)).toArray[q]? = some (.string (bs X))) := fun q X h => by
    rw [List.getElem?_toArray, List.getElem?_map, h]; rfl
  have HV := Lib.hid (And.intro ht (And.intro hp hr))
  have HJ := Lib.hid (And.intro hij hjl)
  have b0 := Blk.new w 32 #[.int .i64 x.1, .int .i64 y.2, .bool true]
  have q0 : (w.alloc (.cells #[.int .i64 x.1, .int .i64 y.2, .bool true] 32)).cell? ⟨w.heap.size, 0, none⟩ = some (.int .i64 x.1) := b0.cell 0
  have q1 : (w.alloc (.cells #[.int .i64 x.1, .int .i64 y.2, .bool true] 32)).cell? ⟨w.heap.size, 1, none⟩ = some (.int .i64 y.2) := b0.cell 1
  have hX := (Below.refl w.heap.size w).alloc (Nat.le_refl _) (.cells #[.int .i64 x.1, .int .i64 y.2, .bool true] 32)
  have i1 : (x.1 : Int) ≤ (y.2 : Int) := by omega
  have i2 : (y.2 : Int) ≤ (s.size : Int) := by omega
  have ha0 : x.1 ≤ s.size := by omega
  rw [hMr] at SP
  have SP2 := Lib.hid SP
  clear hx hy e1 e2 e3 hne hfree SP hRl hpl hMr ht hp hr hij hjl hxy hxm
  generalize x.1 = a at *
  generalize y.2 = b at *
  go_enter Tryd.func21, Tryd.ntmps21
  go_wp2_with (first
    | (go_at_call 37; (with_reducible refine (SP2.out _).mono ?_); rintro e w3 ⟨rfl, rfl⟩))
  have hB := Blk.new (w.alloc (.cells #[.int .i64 a, .int .i64 b, .bool true] 32)) 9 ((Sb.mids i j (Ix.parts s.data.toList)).map (Value.string ∘ bs)).toArray
  replace hX := hX.alloc hX.size (.cells ((Sb.mids i j (Ix.parts s.data.toList)).map (Value.string ∘ bs)).toArray 9)
  rw [World.size_alloc] at hB
  generalize ((Sb.mids i j (Ix.parts s.data.toList)).map (Value.string ∘ bs)).toArray = CS at *
  generalize hRB : w.heap.size + 1 = RB at *
  clear q0 q1 b0 SP2 i1 i2 X1
  go_loopw [12, 13, 31] (fun lv av iv wr => ∃ (q n f : Nat) (A' : Option Addr) (c' : Nat) (ks : List Cg) (z : Int), av = .int .i64 f ∧ lv = .slice A' n c' ∧ iv = .int .i64 q ∧ q ≤ Mr ∧ f ≤ s.size + 1 ∧ n ≤ s.size ∧ Hid (ks.length = n) ∧ Hid (Sb.Cur s.data.toList p r 1 i j q f ks z) ∧ wr.ownsRow w.heap.size 48 3 lv n (rows ks) ∧ Blk wr RB 9 CS ∧ Below w.heap.size w wr) (fun _ _ iv _ => Mr - (intOf iv).toNat)
  case atStart => exact ⟨0, 0, a, none, 0, [], -1, rfl, rfl, rfl, Nat.zero_le _, by omega, Nat.zero_le _, rfl, hC0, World.ownsRow_nil _ _ _ _, hB, hX⟩
  case round =>
    clear hB hX hC0
    obtain ⟨q, n, f, A', c', ks, z, rfl, rfl, rfl, hqm, hfs, hns, hkn, hC, hown, hB, hW⟩ := hrel
    by_cases hlt : q < Mr
    · obtain ⟨X, hX⟩ : ∃ X, (Sb.mids i j (Ix.parts s.data.toList))[q]? = some X := ⟨_, List.getElem?_eq_getElem (by have := HM.out; omega)⟩
      have c0 : wr.cell? ⟨RB, q, none⟩ = some (.string (bs X)) := by rw [hB.cell]; exact hCS.out q X hX
      have hXl := HB.out q X hX
      have hR0 := Lib.hid (hC.out.row hX hp1)
      have HX := Lib.hid hX
      have hlt2 : (q : Int) < (Mr : Int) := by omega
      have hpos := List.length_pos_iff.2 (Sb.ps_ne p.data.toList 0 1 X)
      have hfew := (Sb.ps_few h0 1 X).1
      have S1 := Lib.hid (SN.out wr (hm.below hW) X hXl)
      obtain ⟨L, hL⟩ : ∃ L, (Sb.ps p.data.toList 0 1 X).length = L + 1 := ⟨(Sb.ps p.data.toList 0 1 X).length - 1, by omega⟩
      have S2 : Hid (Calls Tryd.prog 38 #[.string (bs X), .string p, .int .i64 2] wr fun e w' => ∃ N, L + 1 ≤ N ∧ e = .returned (.slice (some ⟨wr.heap.size, 0, none⟩) (L + 1) N) ∧ w' = wr.alloc (.cells (Lib.cellsOf ((Sb.ps p.data.toList 0 1 X).map bs) N) 9)) := S1.out.mono (by
        rintro e w' ⟨N, h1, h2, h3⟩
        rw [hL] at h1 h2
        exact ⟨N, h1, h2, h3⟩)
      have HL := Lib.hid hL
      have hL2 : L ≤ 100000 := by omega
      have w1 : IntKind.i64.wrap (L : Int) = (L : Int) := sub_wrap (by omega) (by omega)
      clear hX hC hpos hfew S1 hL hXl
      go_wp2_with (first
        | (go_at_call 38; (with_reducible refine S2.out.mono ?_); rintro e w3 ⟨N, hN, rfl, rfl⟩; have iN : (L : Int) ≤ (N : Int) := (by omega)))
      have hP := Blk.new wr 9 (Lib.cellsOf ((Sb.ps p.data.toList 0 1 X).map bs) N)
      have hB2 := hB.alloc (.cells (Lib.cellsOf ((Sb.ps p.data.toList 0 1 X).map bs) N) 9)
      have hown2 := hown.alloc (.cells (Lib.cellsOf ((Sb.ps p.data.toList 0 1 X).map bs) N) 9)
      have hW2 := hW.alloc hW.size (.cells (Lib.cellsOf ((Sb.ps p.data.toList 0 1 X).map bs) N) 9)
      have HP : Hid (∀ (u : Nat) b, (Sb.ps p.data.toList 0 1 X)[u]? = some b → (Lib.cellsOf ((Sb.ps p.data.toList 0 1 X).map bs) N)[u]? = some (.string (bs b))) := fun u b h => cells_of h
      generalize Lib.cellsOf ((Sb.ps p.data.toList 0 1 X).map bs) N = CP at *
      generalize hPB : wr.heap.size = PB at *
      clear hB hown hW S2 hPB
      go_loopw [12, 13, 46] (fun lv av iv wq => ∃ (u n' g : Nat) (A'' : Option Addr) (c'' : Nat) (ks' : List Cg), av = .int .i64 g ∧ lv = .slice A'' n' c'' ∧ iv = .int .i64 u ∧ u ≤ L ∧ g ≤ s.size ∧ n' ≤ s.size ∧ Hid (ks'.length = n') ∧ Hid (Sb.Row s.data.toList p r 1 i j q X f z u g ks') ∧ wq.ownsRow w.heap.size 48 3 lv n' (rows ks') ∧ Blk wq RB 9 CS ∧ Blk wq PB 9 CP ∧ Below w.heap.size w wq) (fun _ _ iv _ => L - (intOf iv).toNat)
      case atStart => exact ⟨0, n, f, A', c', ks, rfl, rfl, rfl, Nat.zero_le _, (by have := hR0.out.get.2.2; rw [data_len] at this; exact this), hns, hkn, hR0, hown2, hB2, hP, hW2⟩
      case round =>
        obtain ⟨u, n', g, A'', c'', ks', rfl, rfl, rfl, huL, hgs, hns', hkn', hR, hown', hB', hP', hW'⟩ := hrel
        clear hP hB2 hown2 hW2 hR0
        by_cases hul : u < L
        · obtain ⟨b', hb'⟩ : ∃ b', (Sb.ps p.data.toList 0 1 X)[u]? = some b' := ⟨_, List.getElem?_eq_getElem (by have := HL.out; omega)⟩
          have c1 : wr.cell? ⟨PB, u, none⟩ = some (.string (bs b')) := by rw [hP'.cell]; exact HP.out u b' hb'
          obtain ⟨hroom, hin, hR2⟩ := hR.out.step hb' (by have := HL.out; omega) HV.out.1 HV.out.2.1 HV.out.2.2 hp1
          rw [data_len] at hroom
          have hR3 := Lib.hid hR2
          have hlen := (Sb.addC_length s.data.toList ks' (g + b'.length) p r).1
          have hks2 := hR2.get.2.1
          rw [data_len] at hks2
          have AD := sub_add s p r (c := c'') (f := g + b'.length) hkn'.out (by omega) hown' hW'.size hin hroom (by omega)
          obtain ⟨bl, hbl⟩ : ∃ bl, b'.length = bl := ⟨_, rfl⟩
          have hsz : (bs b').size = bl := by rw [bs_size, hbl]
          have hne1 := own_blk_ne hown' hB' (by decide)
          have hne2 := own_blk_ne hown' hP' (by decide)
          rw [hbl] at AD hroom hR3 hlen hks2
          rw [Int.natCast_add] at AD
          have A1 := Lib.hid AD
          have HK : Hid (∃ n4, (Sb.addC s.data.toList ks' (g + bl) p r).length = n4) := ⟨_, rfl⟩
          have hul2 : (u : Int) < (L : Int) := by omega
          have w2 : IntKind.i64.wrap ((g : Int) + (bl : Int)) = (g : Int) + (bl : Int) := sub_wrap (by omega) (by omega)
          have w3 : IntKind.i64.wrap ((g : Int) + (bl : Int) + (p.size : Int)) = (g : Int) + (bl : Int) + (p.size : Int) := sub_wrap (by omega) (by omega)
          clear hR hR2 hin AD hb' hlen hbl
          go_wp2_with (first
            | (go_at_call 39; (with_reducible refine A1.out.mono ?_); rintro e w4 ⟨A4, c4, rfl, hown4, hgrow4⟩; have hB4 := hB'.grown hgrow4 (fun e => hne1 e.symm); have hP4 := hP'.grown hgrow4 (fun e => hne2 e.symm); have hW4 := hW'.grown hgrow4 hW'.size (fun j hj => (hown'.lt j hj).1)))
          go_roundw
          case rel => exact ⟨u + 1, _, g + bl + p.size, A4, c4, _, by go_num, rfl, by go_num, by omega, hroom, hks2, rfl, hR3, hown4, hB4, hP4, hW4⟩
          case measure => simp [intOf]; omega
        · obtain rfl : u = L := by omega
          obtain ⟨b', hb'⟩ : ∃ b', (Sb.ps p.data.toList 0 1 X)[u]? = some b' := ⟨_, List.getElem?_eq_getElem (by have := HL.out; omega)⟩
          have c1 : wr.cell? ⟨PB, u, none⟩ = some (.string (bs b')) := by rw [hP'.cell]; exact HP.out u b' hb'
          obtain ⟨hroom, z', hC2⟩ := hR.out.stop HX.out hb' HL.out.symm HV.out.1
          rw [data_len] at hroom
          have hC3 := Lib.hid hC2
          obtain ⟨bl, hbl⟩ : ∃ bl, b'.length = bl := ⟨_, rfl⟩
          have hsz : (bs b').size = bl := by rw [bs_size, hbl]
          rw [hbl] at hroom hC3
          have hul2 : ¬ (u : Int) < (u : Int) := by omega
          have hul3 : (u : Int) < (u : Int) + 1 := by omega
          have w2 : IntKind.i64.wrap ((bl : Int) + 1) = (bl : Int) + 1 := sub_wrap (by omega) (by omega)
          have w3 : IntKind.i64.wrap ((g : Int) + ((bl : Int) + 1)) = (g : Int) + ((bl : Int) + 1) := sub_wrap (by omega) (by omega)
          clear hR hC2 hb' hbl
          go_wp2
          go_roundw
          case rel => exact ⟨q + 1, n', g + bl + 1, A'', c'', ks', z', by go_num, rfl, by go_num, by omega, by omega, hns', hkn', hC3, hown', hB', hW'⟩
          case measure => simp [intOf]; omega
    · obtain rfl : q = Mr := by omega
      have hG := Lib.hid (hC.out.good HJ.out.1 HJ.out.2 (Nat.le_of_eq HM.out))
      have hlt2 : ¬ (q : Int) < (q : Int) := by omega
      have hkn2 := hkn.out
      clear hC HB hCS SN HV HM
      go_wp2
      go_ret
      exact ⟨ks, A', c', by rw [hkn2]; rfl, own_cgs hown hkn2, hW, hG.out⟩
set_option maxHeartbeats 4000000 in
set_option maxRecDepth 100000 in
theorem sub_swaps_all (s p r : ByteArray) {i j : Nat} {x y : Nat × Nat} (hij : i ≤ j) (hx : (Line.L s.data.toList)[i]? = some x) (hy : (Line.L s.data.toList)[j]? = some y) (hs : s.size ≤ 100000) {M : Nat} (hMs : s.size ≤ M) (h0 : p.data.toList ≠ []) (hp : Utf.valid p.data.toList = true) (hr : Utf.valid r.data.toList = true) {w : World} (hm : MaxAt w) :
    Calls Tryd.prog 21 #[.string s, .agg #[.int .i64 x.1, .int .i64 y.2, .bool true], .string p, .string r, .bool true] w (SwapsIs s.data.toList p r M i j w) := by
  have hp1 : 1 ≤ p.size := by rw [← data_len]; exact List.length_pos_iff.2 h0
  have ht := Line.L_valid hx
  have TG := Sb.there_glue hij hx hy
  have e1 := TG.1
  have e2 := TG.2.1
  have e3 := TG.2.2.1
  have hne := TG.2.2.2.1
  clear TG
  have hjl : j < (Ix.parts s.data.toList).length := by rw [← L_len ht]; exact (List.getElem?_eq_some_iff.1 hy).1
  have hC0 := Lib.hid (Sb.Cur.start p r M hij hx hy)
  have hxy := (Line.L_each hx).1
  have hxm := (Line.L_each hx).2
  rw [data_len] at e3 hxm
  have hfree : ∀ z ∈ Sb.mids i j (Ix.parts s.data.toList), Free z := fun z hz => parts_free s.data.toList z (List.mem_of_mem_drop (List.mem_of_mem_take hz))
  have HB : Hid (∀ (q : Nat) z, (Sb.mids i j (Ix.parts s.data.toList))[q]? = some z → z.length ≤ s.size) := fun q z hz => by
    rw [← data_len]; exact Sb.row_len (List.mem_of_mem_drop (List.mem_of_mem_take (List.mem_of_getElem? hz)))
  have SP := fun w => str_split (bs (glue (Sb.mids i j (Ix.parts s.data.toList)))) (by rw [bs_size]; omega) w
  rw [bs_toList, parts_glue hne hfree] at SP
  have X1 := ext_seg s x.1 y.2
  rw [e1] at X1
  have hRl := Sb.mids_length hij hjl
  have hpl : (Ix.parts s.data.toList).length ≤ s.size + 1 := by
    have := Line.L_length s.data.toList
    rw [data_len] at this
    rw [← L_len ht]; exact this
  obtain ⟨Mr, hMr⟩ : ∃ Mr, (Sb.mids i j (Ix.parts s.data.toList)).length = Mr := ⟨_, rfl⟩
  have hMrl : Mr ≤ 100001 := by omega
  have HM := Lib.hid hMr
  have SN : Hid (∀ u, MaxAt u → ∀ z, z.length ≤ s.size → Calls Tryd.prog 38 #[.string (bs z), .string p, .int .i64 (-1)] u (SplitIs (Sb.ps p.data.toList 0 M z) u)) := fun u hu z hz => str_splitn_all hu z p (by omega) h0 (Nat.le_trans hz hMs)
  have hCS : Hid (∀ (q : Nat) X, (Sb.mids i j (Ix.parts s.data.toList))[q]? = some X → ((Sb.mids i j (Ix.parts s.data.toList)).map (Value.string ∘ bs)).toArray[q]? = some (.string (bs X))) := fun q X h => by
    rw [List.getElem?_toArray, List.getElem?_map, h]; rfl
  have HV := Lib.hid (And.intro ht (And.intro hp hr))
  have HJ := Lib.hid (And.intro hij hjl)
  have b0 := Blk.new w 32 #[.int .i64 x.1, .int .i64 y.2, .bool true]
  have q0 : (w.alloc (.cells #[.int .i64 x.1, .int .i64 y.2, .bool true] 32)).cell? ⟨w.heap.size, 0, none⟩ = some (.int .i64 x.1) := b0.cell 0
  have q1 : (w.alloc (.cells #[.int .i64 x.1, .int .i64 y.2, .bool true] 32)).cell? ⟨w.heap.size, 1, none⟩ = some (.int .i64 y.2) := b0.cell 1
  have hX := (Below.refl w.heap.size w).alloc (Nat.le_refl _) (.cells #[.int .i64 x.1, .int .i64 y.2, .bool true] 32)
  have i1 : (x.1 : Int) ≤ (y.2 : Int) := by omega
  have i2 : (y.2 : Int) ≤ (s.size : Int) := by omega
  have ha0 : x.1 ≤ s.size := by omega
  rw [hMr] at SP
  have SP2 := Lib.hid SP
  clear hx hy e1 e2 e3 hne hfree SP hRl hpl hMr ht hp hr hij hjl hxy hxm
  generalize x.1 = a at *
  generalize y.2 = b at *
  go_enter Tryd.func21, Tryd.ntmps21
  go_wp2_with (first
    | (go_at_call 37; (with_reducible refine (SP2.out _).mono ?_); rintro e w3 ⟨rfl, rfl⟩))
  have hB := Blk.new (w.alloc (.cells #[.int .i64 a, .int .i64 b, .bool true] 32)) 9 ((Sb.mids i j (Ix.parts s.data.toList)).map (Value.string ∘ bs)).toArray
  replace hX := hX.alloc hX.size (.cells ((Sb.mids i j (Ix.parts s.data.toList)).map (Value.string ∘ bs)).toArray 9)
  rw [World.size_alloc] at hB
  generalize ((Sb.mids i j (Ix.parts s.data.toList)).map (Value.string ∘ bs)).toArray = CS at *
  generalize hRB : w.heap.size + 1 = RB at *
  clear q0 q1 b0 SP2 i1 i2 X1
  go_loopw [12, 13, 31] (fun lv av iv wr => ∃ (q n f : Nat) (A' : Option Addr) (c' : Nat) (ks : List Cg) (z : Int), av = .int .i64 f ∧ lv = .slice A' n c' ∧ iv = .int .i64 q ∧ q ≤ Mr ∧ f ≤ s.size + 1 ∧ n ≤ s.size ∧ Hid (ks.length = n) ∧ Hid (Sb.Cur s.data.toList p r M i j q f ks z) ∧ wr.ownsRow w.heap.size 48 3 lv n (rows ks) ∧ Blk wr RB 9 CS ∧ Below w.heap.size w wr) (fun _ _ iv _ => Mr - (intOf iv).toNat)
  case atStart => exact ⟨0, 0, a, none, 0, [], -1, rfl, rfl, rfl, Nat.zero_le _, by omega, Nat.zero_le _, rfl, hC0, World.ownsRow_nil _ _ _ _, hB, hX⟩
  case round =>
    clear hB hX hC0
    obtain ⟨q, n, f, A', c', ks, z, rfl, rfl, rfl, hqm, hfs, hns, hkn, hC, hown, hB, hW⟩ := hrel
    by_cases hlt : q < Mr
    · obtain ⟨X, hX⟩ : ∃ X, (Sb.mids i j (Ix.parts s.data.toList))[q]? = some X := ⟨_, List.getElem?_eq_getElem (by have := HM.out; omega)⟩
      have c0 : wr.cell? ⟨RB, q, none⟩ = some (.string (bs X)) := by rw [hB.cell]; exact hCS.out q X hX
      have hXl := HB.out q X hX
      have hR0 := Lib.hid (hC.out.row hX hp1)
      have HX := Lib.hid hX
      have hlt2 : (q : Int) < (Mr : Int) := by omega
      have hpos := List.length_pos_iff.2 (Sb.ps_ne p.data.toList 0 M X)
      have hfew := (Sb.ps_few h0 M X).1
      have S1 := Lib.hid (SN.out wr (hm.below hW) X hXl)
      obtain ⟨L, hL⟩ : ∃ L, (Sb.ps p.data.toList 0 M X).length = L + 1 := ⟨(Sb.ps p.data.toList 0 M X).length - 1, by omega⟩
      have S2 : Hid (Calls Tryd.prog 38 #[.string (bs X), .string p, .int .i64 (-1)] wr fun e w' => ∃ N, L + 1 ≤ N ∧ e = .returned (.slice (some ⟨wr.heap.size, 0, none⟩) (L + 1) N) ∧ w' = wr.alloc (.cells (Lib.cellsOf ((Sb.ps p.data.toList 0 M X).map bs) N) 9)) := S1.out.mono (by
        rintro e w' ⟨N, h1, h2, h3⟩
        rw [hL] at h1 h2
        exact ⟨N, h1, h2, h3⟩)
      have HL := Lib.hid hL
      have hL2 : L ≤ 100000 := by omega
      have w1 : IntKind.i64.wrap (L : Int) = (L : Int) := sub_wrap (by omega) (by omega)
      clear hX hC hpos hfew S1 hL hXl
      go_wp2_with (first
        | (go_at_call 38; (with_reducible refine S2.out.mono ?_); rintro e w3 ⟨N, hN, rfl, rfl⟩; have iN : (L : Int) ≤ (N : Int) := (by omega)))
      have hP := Blk.new wr 9 (Lib.cellsOf ((Sb.ps p.data.toList 0 M X).map bs) N)
      have hB2 := hB.alloc (.cells (Lib.cellsOf ((Sb.ps p.data.toList 0 M X).map bs) N) 9)
      have hown2 := hown.alloc (.cells (Lib.cellsOf ((Sb.ps p.data.toList 0 M X).map bs) N) 9)
      have hW2 := hW.alloc hW.size (.cells (Lib.cellsOf ((Sb.ps p.data.toList 0 M X).map bs) N) 9)
      have HP : Hid (∀ (u : Nat) b, (Sb.ps p.data.toList 0 M X)[u]? = some b → (Lib.cellsOf ((Sb.ps p.data.toList 0 M X).map bs) N)[u]? = some (.string (bs b))) := fun u b h => cells_of h
      generalize Lib.cellsOf ((Sb.ps p.data.toList 0 M X).map bs) N = CP at *
      generalize hPB : wr.heap.size = PB at *
      clear hB hown hW S2 hPB
      go_loopw [12, 13, 46] (fun lv av iv wq => ∃ (u n' g : Nat) (A'' : Option Addr) (c'' : Nat) (ks' : List Cg), av = .int .i64 g ∧ lv = .slice A'' n' c'' ∧ iv = .int .i64 u ∧ u ≤ L ∧ g ≤ s.size ∧ n' ≤ s.size ∧ Hid (ks'.length = n') ∧ Hid (Sb.Row s.data.toList p r M i j q X f z u g ks') ∧ wq.ownsRow w.heap.size 48 3 lv n' (rows ks') ∧ Blk wq RB 9 CS ∧ Blk wq PB 9 CP ∧ Below w.heap.size w wq) (fun _ _ iv _ => L - (intOf iv).toNat)
      case atStart => exact ⟨0, n, f, A', c', ks, rfl, rfl, rfl, Nat.zero_le _, (by have := hR0.out.get.2.2; rw [data_len] at this; exact this), hns, hkn, hR0, hown2, hB2, hP, hW2⟩
      case round =>
        obtain ⟨u, n', g, A'', c'', ks', rfl, rfl, rfl, huL, hgs, hns', hkn', hR, hown', hB', hP', hW'⟩ := hrel
        clear hP hB2 hown2 hW2 hR0
        by_cases hul : u < L
        · obtain ⟨b', hb'⟩ : ∃ b', (Sb.ps p.data.toList 0 M X)[u]? = some b' := ⟨_, List.getElem?_eq_getElem (by have := HL.out; omega)⟩
          have c1 : wr.cell? ⟨PB, u, none⟩ = some (.string (bs b')) := by rw [hP'.cell]; exact HP.out u b' hb'
          obtain ⟨hroom, hin, hR2⟩ := hR.out.step hb' (by have := HL.out; omega) HV.out.1 HV.out.2.1 HV.out.2.2 hp1
          rw [data_len] at hroom
          have hR3 := Lib.hid hR2
          have hlen := (Sb.addC_length s.data.toList ks' (g + b'.length) p r).1
          have hks2 := hR2.get.2.1
          rw [data_len] at hks2
          have AD := sub_add s p r (c := c'') (f := g + b'.length) hkn'.out (by omega) hown' hW'.size hin hroom (by omega)
          obtain ⟨bl, hbl⟩ : ∃ bl, b'.length = bl := ⟨_, rfl⟩
          have hsz : (bs b').size = bl := by rw [bs_size, hbl]
          have hne1 := own_blk_ne hown' hB' (by decide)
          have hne2 := own_blk_ne hown' hP' (by decide)
          rw [hbl] at AD hroom hR3 hlen hks2
          rw [Int.natCast_add] at AD
          have A1 := Lib.hid AD
          have HK : Hid (∃ n4, (Sb.addC s.data.toList ks' (g + bl) p r).length = n4) := ⟨_, rfl⟩
          have hul2 : (u : Int) < (L : Int) := by omega
          have w2 : IntKind.i64.wrap ((g : Int) + (bl : Int)) = (g : Int) + (bl : Int) := sub_wrap (by omega) (by omega)
          have w3 : IntKind.i64.wrap ((g : Int) + (bl : Int) + (p.size : Int)) = (g : Int) + (bl : Int) + (p.size : Int) := sub_wrap (by omega) (by omega)
          clear hR hR2 hin AD hb' hlen hbl
          go_wp2_with (first
            | (go_at_call 39; (with_reducible refine A1.out.mono ?_); rintro e w4 ⟨A4, c4, rfl, hown4, hgrow4⟩; have hB4 := hB'.grown hgrow4 (fun e => hne1 e.symm); have hP4 := hP'.grown hgrow4 (fun e => hne2 e.symm); have hW4 := hW'.grown hgrow4 hW'.size (fun j hj => (hown'.lt j hj).1)))
          go_roundw
          case rel => exact ⟨u + 1, _, g + bl + p.size, A4, c4, _, by go_num, rfl, by go_num, by omega, hroom, hks2, rfl, hR3, hown4, hB4, hP4, hW4⟩
          case measure => simp [intOf]; omega
        · obtain rfl : u = L := by omega
          obtain ⟨b', hb'⟩ : ∃ b', (Sb.ps p.data.toList 0 M X)[u]? = some b' := ⟨_, List.getElem?_eq_getElem (by have := HL.out; omega)⟩
          have c1 : wr.cell? ⟨PB, u, none⟩ = some (.string (bs b')) := by rw [hP'.cell]; exact HP.out u b' hb'
          obtain ⟨hroom, z', hC2⟩ := hR.out.stop HX.out hb' HL.out.symm HV.out.1
          rw [data_len] at hroom
          have hC3 := Lib.hid hC2
          obtain ⟨bl, hbl⟩ : ∃ bl, b'.length = bl := ⟨_, rfl⟩
          have hsz : (bs b').size = bl := by rw [bs_size, hbl]
          rw [hbl] at hroom hC3
          have hul2 : ¬ (u : Int) < (u : Int) := by omega
          have hul3 : (u : Int) < (u : Int) + 1 := by omega
          have w2 : IntKind.i64.wrap ((bl : Int) + 1) = (bl : Int) + 1 := sub_wrap (by omega) (by omega)
          have w3 : IntKind.i64.wrap ((g : Int) + ((bl : Int) + 1)) = (g : Int) + ((bl : Int) + 1) := sub_wrap (by omega) (by omega)
          clear hR hC2 hb' hbl
          go_wp2
          go_roundw
          case rel => exact ⟨q + 1, n', g + bl + 1, A'', c'', ks', z', by go_num, rfl, by go_num, by omega, by omega, hns', hkn', hC3, hown', hB', hW'⟩
          case measure => simp [intOf]; omega
    · obtain rfl : q = Mr := by omega
      have hG := Lib.hid (hC.out.good HJ.out.1 HJ.out.2 (Nat.le_of_eq HM.out))
      have hlt2 : ¬ (q : Int) < (q : Int) := by omega
      have hkn2 := hkn.out
      clear hC HB hCS SN HV HM
      go_wp2
      go_ret
      exact ⟨ks, A', c', by rw [hkn2]; rfl, own_cgs hown hkn2, hW, hG.out⟩
theorem sub_swaps (s p r : ByteArray) (all : Bool) {i j : Nat} {x y : Nat × Nat} (hij : i ≤ j) (hx : (Line.L s.data.toList)[i]? = some x) (hy : (Line.L s.data.toList)[j]? = some y) (hs : s.size ≤ 100000) (h0 : p.data.toList ≠ []) (hp : Utf.valid p.data.toList = true) (hr : Utf.valid r.data.toList = true) {w : World} (hm : MaxAt w) :
    Calls Tryd.prog 21 #[.string s, .agg #[.int .i64 x.1, .int .i64 y.2, .bool true], .string p, .string r, .bool all] w (SwapsIs s.data.toList p r (Sb.most s.data.toList all) i j w) := by
  cases all with
  | false => exact sub_swaps_two s p r hij hx hy hs h0 hp hr hm
  | true => exact sub_swaps_all s p r hij hx hy hs (Nat.le_of_eq (data_len s).symm) h0 hp hr hm
end Go.Proofs.YtlfhfpjffdaomaaDoor
/-
  Package sub: changes made at once, where there is room.
-/
namespace Go.Proofs.YtlfhfpjffdaomaaDoor
open Go.RowKit
open Utf Chg Btc
set_option maxHeartbeats 1000000 in
set_option maxRecDepth 100000 in
theorem sub_put (s : ByteArray) {A : Option Addr} {c : Nat} {ks : List Cg} {w : World} (hx : Cgs w A ks) (hs : s.size ≤ 100000) (hwe : weigh ks ≤ 1000000000000000) (hm : ks.length ≤ 100000) {V : ByteArray} {e : Int}
    (hbig : 4096 < (s.size : Int) + grow ks → V = ⟨#[]⟩ ∧ e = 8)
    (hdo : ¬ 4096 < (s.size : Int) + grow ks → ∀ u, Below w.heap.size w u → Calls Tryd.prog 40 #[.string s, .slice A ks.length c] u fun e' w' => e' = .returned (.tuple #[.string V, .int .i64 e]) ∧ Below u.heap.size u w') :
    Calls Tryd.prog 22 #[.string s, .slice A ks.length c] w fun e' w' => e' = .returned (.tuple #[.string V, .int .i64 e]) ∧ Below w.heap.size w w' := by
  have HB := Lib.hid hbig
  have HD := Lib.hid hdo
  have H0 : Hid ((s.size : Int) = s.size + grow (ks.take 0)) := by show _ = _; simp [grow]
  clear hbig hdo
  go_enter Tryd.func22, Tryd.ntmps22
  go_wp2_with fail
  go_loopw [6, 13] (fun nv iv wr => ∃ (k : Nat) (q : Int), k ≤ ks.length ∧ iv = .int .i64 k ∧ nv = .int .i64 q ∧ Hid (q = s.size + grow (ks.take k)) ∧ Below w.heap.size w wr) (fun _ iv _ => ks.length - (intOf iv).toNat)
  case atStart => exact ⟨0, s.size, Nat.zero_le _, rfl, rfl, H0, Below.refl _ _⟩
  case round =>
    obtain ⟨k, q, hkl, rfl, rfl, hq, hW⟩ := hrel
    clear H0
    have hgw := grow_weigh (ks.take k)
    have htk0 := weigh_take ks k
    have hqq := hq.out
    by_cases hlt : k < ks.length
    · obtain ⟨x, hkx⟩ : ∃ x, ks[k]? = some x := ⟨_, List.getElem?_eq_getElem hlt⟩
      obtain ⟨b, off, rfl, hbw, c0, c1, c2⟩ := hx.at_ hW (Nat.le_refl _) hkx
      have hsn := weigh_snoc hkx
      have htk := weigh_take ks (k + 1)
      have hgs : Hid (q + ((x.new.size : Int) - x.old.size) = s.size + grow (ks.take (k + 1))) := by show _ = _; rw [grow_snoc hkx, hq.out]; omega
      have hW2 : Below w.heap.size w (wr.alloc (.cells #[.int .i64 x.at_, .string x.old, .string x.new] 48)) := hW.alloc hW.size _
      have b0 := Blk.new wr 48 #[.int .i64 x.at_, .string x.old, .string x.new]
      have d0 : (wr.alloc (.cells #[.int .i64 x.at_, .string x.old, .string x.new] 48)).cell? ⟨wr.heap.size, 0, none⟩ = some (.int .i64 x.at_) := b0.cell 0
      have d1 : (wr.alloc (.cells #[.int .i64 x.at_, .string x.old, .string x.new] 48)).cell? ⟨wr.heap.size, 1, none⟩ = some (.string x.old) := b0.cell 1
      have d2 : (wr.alloc (.cells #[.int .i64 x.at_, .string x.old, .string x.new] 48)).cell? ⟨wr.heap.size, 2, none⟩ = some (.string x.new) := b0.cell 2
      have hb1 : -2000000000000000 ≤ q ∧ q ≤ 2000000000000000 := by omega
      clear hkx b0 hx hq hqq hgw htk0 HB HD
      go_wp2
      go_roundw
      case rel => exact ⟨k + 1, _, by omega, by go_num, by go_num, hgs, hW2⟩
      case measure => simp [intOf]; omega
    · rw [List.take_of_length_le (by omega)] at hqq
      clear hx hq hgw htk0
      by_cases h : 4096 < (s.size : Int) + grow ks
      · obtain ⟨rfl, rfl⟩ := HB.out h
        rw [← hqq] at h
        have g0 : decide ((4096 : Int) < q) = true := decide_eq_true h
        clear hqq HD HB
        go_wp2
        go_ret2
        exact ⟨rfl, hW⟩
      · have D := Lib.hid (HD.out (by omega))
        rw [← hqq] at h
        have g0 : decide ((4096 : Int) < q) = false := decide_eq_false h
        clear hqq HD HB
        go_wp2_with (go_at_call 40; (with_reducible refine (D.out _ hW).mono ?_); rintro e w1 ⟨rfl, hb⟩)
        go_ret2
        exact ⟨rfl, hW.trans (hb.mono hW.size)⟩
end Go.Proofs.YtlfhfpjffdaomaaDoor
/-
  Package sub: Swap.
-/
namespace Go.Proofs.YtlfhfpjffdaomaaDoor
open Go.RowKit
open Gl Btc
namespace Sb
/-- What Swap answers. -/
def swapV (v : List UInt8 × Int × Int) : Value := .tuple #[.string (bs v.1), .int .i64 v.2.1, .int .i64 v.2.2]
theorem swap_arg {s : List UInt8} {a b : Int} {p r : List UInt8} {all : Bool} (h : ¬ (there s a b ∧ p ≠ [] ∧ plain p ∧ plain r)) : swap s a b p r all = ([], 0, 1) := if_neg h
theorem swap_no {s : List UInt8} {i j : Nat} {p r : List UInt8} {all : Bool} (h : there s (i : Int) (j : Int) ∧ p ≠ [] ∧ plain p ∧ plain r) (hc : cnt p (most s all) (mids i j (Ix.parts s)) = 0) : swap s (i : Int) (j : Int) p r all = ([], 0, 7) := by
  rw [swap, if_pos h, Int.toNat_natCast, Int.toNat_natCast, if_pos hc]
theorem swap_big {s : List UInt8} {i j : Nat} {p r : List UInt8} {all : Bool} (h : there s (i : Int) (j : Int) ∧ p ≠ [] ∧ plain p ∧ plain r) (hc : cnt p (most s all) (mids i j (Ix.parts s)) ≠ 0) (hb : 4096 < (glue (rows p r (most s all) i j (Ix.parts s))).length) : swap s (i : Int) (j : Int) p r all = ([], 0, 8) := by
  rw [swap, if_pos h, Int.toNat_natCast, Int.toNat_natCast, if_neg hc, if_pos hb]
theorem swap_ok {s : List UInt8} {i j : Nat} {p r : List UInt8} {all : Bool} (h : there s (i : Int) (j : Int) ∧ p ≠ [] ∧ plain p ∧ plain r) (hc : cnt p (most s all) (mids i j (Ix.parts s)) ≠ 0) (hb : ¬ 4096 < (glue (rows p r (most s all) i j (Ix.parts s))).length) :
    swap s (i : Int) (j : Int) p r all = (glue (rows p r (most s all) i j (Ix.parts s)), Line.first (glue (rows p r (most s all) i j (Ix.parts s))) (lst p (most s all) (i : Nat) (-1) (mids i j (Ix.parts s))), 0) := by
  rw [swap, if_pos h, Int.toNat_natCast, Int.toNat_natCast, if_neg hc, if_neg hb]
end Sb
set_option maxHeartbeats 1000000 in
set_option maxRecDepth 100000 in
theorem sub_Swap_there (s p r : ByteArray) (a b : Int) (all : Bool) (hs : s.size ≤ 10000) (h : ¬ Sb.there s.data.toList a b) (w : World) :
    Calls Tryd.prog 8 #[.string s, .int .i64 a, .int .i64 b, .string p, .string r, .bool all] w fun e w' => e = .returned (Sb.swapV (Sb.swap s.data.toList a b p.data.toList r.data.toList all)) ∧ Below w.heap.size w w' := by
  have R := Lib.hid (fun w => sub_Range s a b (by omega) w)
  rw [Sb.range_none h, Sb.rangeV] at R
  have H := Lib.hid (Sb.swap_arg (p := p.data.toList) (r := r.data.toList) (all := all) (fun hh : Sb.there s.data.toList a b ∧ _ => h hh.1))
  clear h
  go_enter Tryd.func8, Tryd.ntmps8
  go_wp2_with (first
    | (go_at_call 10; (with_reducible refine (R.out _).mono ?_); rintro e u ⟨rfl, hb⟩; have hX := hb.alloc hb.size (.cells #[.int .i64 0, .int .i64 0, .bool false] 32)))
  go_ret3
  exact ⟨by rw [H.out]; rfl, hX⟩
set_option maxHeartbeats 1000000 in
set_option maxRecDepth 100000 in
theorem sub_Swap_pattern (s p r : ByteArray) (a b : Int) (all : Bool) (hs : s.size ≤ 10000) (hp : p.size ≤ 281474976710656) (h : Sb.there s.data.toList a b) (h2 : ¬ (p.data.toList ≠ [] ∧ Sb.plain p.data.toList)) (w : World) :
    Calls Tryd.prog 8 #[.string s, .int .i64 a, .int .i64 b, .string p, .string r, .bool all] w fun e w' => e = .returned (Sb.swapV (Sb.swap s.data.toList a b p.data.toList r.data.toList all)) ∧ Below w.heap.size w w' := by
  have R := Lib.hid (fun w => sub_Range s a b (by omega) w)
  have P := Lib.hid (fun w => sub_pattern p hp w)
  rw [Sb.range_some h, Sb.rangeV] at R
  rw [decide_eq_false h2] at P
  have H := Lib.hid (Sb.swap_arg (r := r.data.toList) (all := all) (fun hh : Sb.there s.data.toList a b ∧ p.data.toList ≠ [] ∧ Sb.plain p.data.toList ∧ _ => h2 ⟨hh.2.1, hh.2.2.1⟩))
  clear h h2
  generalize Line.start s.data.toList a = x at *
  generalize Line.stop s.data.toList b = y at *
  go_enter Tryd.func8, Tryd.ntmps8
  go_wp2_with (first
    | (go_at_call 10; (with_reducible refine (R.out _).mono ?_); rintro e u ⟨rfl, hb⟩; have hX := hb.alloc hb.size (.cells #[.int .i64 x, .int .i64 y, .bool true] 32))
    | (go_at_call 19; (with_reducible refine (P.out _).mono ?_); rintro e u2 ⟨rfl, hb2⟩; replace hX := hX.trans (hb2.mono hX.size)))
  go_ret3
  exact ⟨by rw [H.out]; rfl, hX⟩
set_option maxHeartbeats 1000000 in
set_option maxRecDepth 100000 in
theorem sub_Swap_plain (s p r : ByteArray) (a b : Int) (all : Bool) (hs : s.size ≤ 10000) (hp : p.size ≤ 281474976710656) (hr : r.size ≤ 1000000000) (h : Sb.there s.data.toList a b) (h2 : p.data.toList ≠ [] ∧ Sb.plain p.data.toList) (h3 : ¬ Sb.plain r.data.toList) (w : World) :
    Calls Tryd.prog 8 #[.string s, .int .i64 a, .int .i64 b, .string p, .string r, .bool all] w fun e w' => e = .returned (Sb.swapV (Sb.swap s.data.toList a b p.data.toList r.data.toList all)) ∧ Below w.heap.size w w' := by
  have R := Lib.hid (fun w => sub_Range s a b (by omega) w)
  have P := Lib.hid (fun w => sub_pattern p hp w)
  rw [Sb.range_some h, Sb.rangeV] at R
  have Q := Lib.hid (fun w => sub_plain r (by omega) w)
  rw [decide_eq_true h2] at P
  rw [decide_eq_false h3] at Q
  have H := Lib.hid (Sb.swap_arg (all := all) (fun hh : Sb.there s.data.toList a b ∧ p.data.toList ≠ [] ∧ Sb.plain p.data.toList ∧ Sb.plain r.data.toList => h3 hh.2.2.2))
  clear h h2 h3
  generalize Line.start s.data.toList a = x at *
  generalize Line.stop s.data.toList b = y at *
  go_enter Tryd.func8, Tryd.ntmps8
  go_wp2_with (first
    | (go_at_call 10; (with_reducible refine (R.out _).mono ?_); rintro e u ⟨rfl, hb⟩; have hX := hb.alloc hb.size (.cells #[.int .i64 x, .int .i64 y, .bool true] 32))
    | (go_at_call 19; (with_reducible refine (P.out _).mono ?_); rintro e u2 ⟨rfl, hb2⟩; replace hX := hX.trans (hb2.mono hX.size))
    | (go_at_call 20; (with_reducible refine (Q.out _).mono ?_); rintro e u3 ⟨rfl, hb3⟩; replace hX := hX.trans (hb3.mono hX.size)))
  go_ret3
  exact ⟨by rw [H.out]; rfl, hX⟩
set_option maxHeartbeats 1000000 in
set_option maxRecDepth 100000 in
theorem sub_Swap_none (s p r : ByteArray) {i j : Nat} {x y : Nat × Nat} (all : Bool) (hs : s.size ≤ 10000) (hp : p.size ≤ 281474976710656) (hr : r.size ≤ 1000000000) (h : Sb.there s.data.toList (i : Int) (j : Int) ∧ p.data.toList ≠ [] ∧ Sb.plain p.data.toList ∧ Sb.plain r.data.toList) (hx : (Line.L s.data.toList)[i]? = some x) (hy : (Line.L s.data.toList)[j]? = some y) (hc : Sb.cnt p.data.toList (Sb.most s.data.toList all) (Sb.mids i j (Ix.parts s.data.toList)) = 0) {w : World} (hm : MaxAt w) :
    Calls Tryd.prog 8 #[.string s, .int .i64 i, .int .i64 j, .string p, .string r, .bool all] w fun e w' => e = .returned (Sb.swapV (Sb.swap s.data.toList (i : Int) (j : Int) p.data.toList r.data.toList all)) ∧ Below w.heap.size w w' := by
  have R := Lib.hid (fun w => sub_Range s (i : Int) (j : Int) (by omega) w)
  have P := Lib.hid (fun w => sub_pattern p hp w)
  have Q := Lib.hid (fun w => sub_plain r (by omega) w)
  have hij : i ≤ j := by have := h.1.2.1; omega
  have ht : Utf.valid s.data.toList = true := Line.L_valid hx
  rw [Sb.range_some h.1, Sb.rangeV, Line.start_some (by rw [Line.line_nat]; exact hx), Line.stop_some (by rw [Line.line_nat]; exact hy)] at R
  rw [decide_eq_true (And.intro h.2.1 h.2.2.1)] at P
  rw [decide_eq_true h.2.2.2] at Q
  have BX : Hid (∀ (u v : World), Below (u.alloc (.cells #[.int .i64 x.1, .int .i64 y.2, .bool true] 32)).heap.size (u.alloc (.cells #[.int .i64 x.1, .int .i64 y.2, .bool true] 32)) v → v.cell? ⟨u.heap.size, 0, none⟩ = some (.int .i64 x.1) ∧ v.cell? ⟨u.heap.size, 1, none⟩ = some (.int .i64 y.2) ∧ v.cell? ⟨u.heap.size, 2, none⟩ = some (.bool true)) := fun u v hv => by
    have b0 := (Blk.new u 32 #[.int .i64 x.1, .int .i64 y.2, .bool true]).below hv (by simp)
    exact ⟨b0.cell 0, b0.cell 1, b0.cell 2⟩
  have SW : Hid (∀ u, MaxAt u → Calls Tryd.prog 21 #[.string s, .agg #[.int .i64 x.1, .int .i64 y.2, .bool true], .string p, .string r, .bool all] u fun e w' => ∃ A c, e = .returned (.slice A 0 c) ∧ Below u.heap.size u w') := fun u hu => (sub_swaps s p r all hij hx hy (by omega) h.2.1 h.2.2.1.1 h.2.2.2.1 hu).mono (by
    rintro e w' ⟨ks, A, c, rfl, _, hb, hG⟩
    obtain rfl := hG.none.2 hc
    exact ⟨A, c, rfl, hb⟩)
  have H := Lib.hid (Sb.swap_no (all := all) h hc)
  clear h hx hy hc ht hij
  generalize x.1 = x at *
  generalize y.2 = y at *
  go_enter Tryd.func8, Tryd.ntmps8
  go_wp2_with (first
    | (go_at_call 10; (with_reducible refine (R.out _).mono ?_); rintro e u ⟨rfl, hb⟩; have hX := hb.alloc hb.size (.cells #[.int .i64 x, .int .i64 y, .bool true] 32); replace hm := hm.below hX)
    | (go_at_call 19; (with_reducible refine (P.out _).mono ?_); rintro e u2 ⟨rfl, hb2⟩; replace hX := hX.trans (hb2.mono hX.size); have hY := hb2; replace hm := hm.below hb2)
    | (go_at_call 20; (with_reducible refine (Q.out _).mono ?_); rintro e u3 ⟨rfl, hb3⟩; replace hX := hX.trans (hb3.mono hX.size); obtain ⟨c0, c1, c2⟩ := BX.out _ _ (hY.trans (hb3.mono hY.size)); replace hm := hm.below hb3)
    | (go_at_call 21; (with_reducible refine (SW.out _ hm).mono ?_); rintro e u4 ⟨A, c, rfl, hb4⟩; replace hX := hX.trans (hb4.mono hX.size)))
  go_ret3
  exact ⟨by rw [H.out]; rfl, hX⟩
set_option maxHeartbeats 1000000 in
set_option maxRecDepth 100000 in
theorem sub_Swap_big (s p r : ByteArray) {i j : Nat} {x y : Nat × Nat} (all : Bool) (hs : s.size ≤ 10000) (hp : p.size ≤ 281474976710656) (hr : r.size ≤ 1000000000) (h : Sb.there s.data.toList (i : Int) (j : Int) ∧ p.data.toList ≠ [] ∧ Sb.plain p.data.toList ∧ Sb.plain r.data.toList) (hx : (Line.L s.data.toList)[i]? = some x) (hy : (Line.L s.data.toList)[j]? = some y) (hc : Sb.cnt p.data.toList (Sb.most s.data.toList all) (Sb.mids i j (Ix.parts s.data.toList)) ≠ 0) (hbg : 4096 < (glue (Sb.rows p.data.toList r.data.toList (Sb.most s.data.toList all) i j (Ix.parts s.data.toList))).length) {w : World} (hm : MaxAt w) :
    Calls Tryd.prog 8 #[.string s, .int .i64 i, .int .i64 j, .string p, .string r, .bool all] w fun e w' => e = .returned (Sb.swapV (Sb.swap s.data.toList (i : Int) (j : Int) p.data.toList r.data.toList all)) ∧ Below w.heap.size w w' := by
  have R := Lib.hid (fun w => sub_Range s (i : Int) (j : Int) (by omega) w)
  have P := Lib.hid (fun w => sub_pattern p hp w)
  have Q := Lib.hid (fun w => sub_plain r (by omega) w)
  have hij : i ≤ j := by have := h.1.2.1; omega
  have ht : Utf.valid s.data.toList = true := Line.L_valid hx
  rw [Sb.range_some h.1, Sb.rangeV, Line.start_some (by rw [Line.line_nat]; exact hx), Line.stop_some (by rw [Line.line_nat]; exact hy)] at R
  rw [decide_eq_true (And.intro h.2.1 h.2.2.1)] at P
  rw [decide_eq_true h.2.2.2] at Q
  have BX : Hid (∀ (u v : World), Below (u.alloc (.cells #[.int .i64 x.1, .int .i64 y.2, .bool true] 32)).heap.size (u.alloc (.cells #[.int .i64 x.1, .int .i64 y.2, .bool true] 32)) v → v.cell? ⟨u.heap.size, 0, none⟩ = some (.int .i64 x.1) ∧ v.cell? ⟨u.heap.size, 1, none⟩ = some (.int .i64 y.2) ∧ v.cell? ⟨u.heap.size, 2, none⟩ = some (.bool true)) := fun u v hv => by
    have b0 := (Blk.new u 32 #[.int .i64 x.1, .int .i64 y.2, .bool true]).below hv (by simp)
    exact ⟨b0.cell 0, b0.cell 1, b0.cell 2⟩
  have SW : Hid (∀ u, MaxAt u → Calls Tryd.prog 21 #[.string s, .agg #[.int .i64 x.1, .int .i64 y.2, .bool true], .string p, .string r, .bool all] u fun e w' => ∃ n b' off c z, n ≤ 10000 ∧ e = .returned (.slice (some ⟨b', off, none⟩) (n + 1) c) ∧ Below u.heap.size u w' ∧
      (∀ v, Below w'.heap.size w' v → Calls Tryd.prog 22 #[.string s, .slice (some ⟨b', off, none⟩) (n + 1) c] v fun e' v' => e' = .returned (.tuple #[.string ⟨#[]⟩, .int .i64 8]) ∧ Below v.heap.size v v') ∧
      (∀ v, Below w'.heap.size w' v → v.cell? ⟨b', off + n * 3, none⟩ = some (.int .i64 z)) ∧ (∀ v, Calls Tryd.prog 18 #[.string s, .int .i64 z] v fun e' v' => e' = .returned (.int .i64 (Sb.lst p.data.toList (Sb.most s.data.toList all) (i : Nat) (-1) (Sb.mids i j (Ix.parts s.data.toList)))) ∧ Below v.heap.size v v')) := fun u hu => (sub_swaps s p r all hij hx hy (by omega) h.2.1 h.2.2.1.1 h.2.2.2.1 hu).mono (by
    rintro e w' ⟨ks, A, c, rfl, hC, hb, hG⟩
    obtain ⟨hm1, hm2, hm3, hm4, hm5, hm6, hm7⟩ := hG.made
    rw [data_len] at hm3 hm4 hm5 hm6
    have hne : ks ≠ [] := fun e => hc (hG.none.1 e)
    obtain ⟨n, hn⟩ : ∃ n, ks.length = n + 1 := ⟨ks.length - 1, by have := List.length_pos_iff.2 hne; omega⟩
    obtain ⟨k, hk, hz⟩ := hG.last_at hn
    obtain ⟨b', off, rfl, _, hcell⟩ := hC (by omega)
    have hwm : ks.length * r.size ≤ 10000 * 1000000000 := Nat.mul_le_mul (by omega) hr
    have PU := fun v (hv : Below w'.heap.size w' v) => sub_put s (V := ⟨#[]⟩) (e := 8) (c := c) (hC.below hv) (by omega) (by omega) (by omega) (fun _ => ⟨rfl, rfl⟩) (fun hh => absurd (by rw [← hm3, hm2]; omega) hh)
    refine ⟨n, b', off, c, k.at_, by omega, by rw [hn], hb, ?_, fun v hv => ?_, fun v => ?_⟩
    · rw [hn] at PU; exact fun v hv => PU v hv
    · obtain ⟨b2, off2, e2, _, hc2⟩ := (hC.below hv) (by omega)
      injection e2 with e2
      injection e2 with e2 e3 _
      subst e2 e3
      exact (hc2 n k hk).1
    · have := line_Of s k.at_ (by omega) v
      rwa [hz] at this)
  have H := Lib.hid (Sb.swap_big (all := all) h hc hbg)
  have hTl : Hid (4096 < (glue (Sb.rows p.data.toList r.data.toList (Sb.most s.data.toList all) i j (Ix.parts s.data.toList))).length ∨ True) := .inr trivial
  clear h hx hy hc ht hij hbg hTl
  generalize Sb.lst p.data.toList (Sb.most s.data.toList all) (i : Nat) (-1) (Sb.mids i j (Ix.parts s.data.toList)) = Z at *
  generalize x.1 = x at *
  generalize y.2 = y at *
  go_enter Tryd.func8, Tryd.ntmps8
  go_wp2_with (first
    | (go_at_call 10; (with_reducible refine (R.out _).mono ?_); rintro e u ⟨rfl, hb⟩; have hX := hb.alloc hb.size (.cells #[.int .i64 x, .int .i64 y, .bool true] 32); replace hm := hm.below hX)
    | (go_at_call 19; (with_reducible refine (P.out _).mono ?_); rintro e u2 ⟨rfl, hb2⟩; replace hX := hX.trans (hb2.mono hX.size); have hY := hb2; replace hm := hm.below hb2)
    | (go_at_call 20; (with_reducible refine (Q.out _).mono ?_); rintro e u3 ⟨rfl, hb3⟩; replace hX := hX.trans (hb3.mono hX.size); obtain ⟨c0, c1, c2⟩ := BX.out _ _ (hY.trans (hb3.mono hY.size)); replace hm := hm.below hb3)
    | (go_at_call 21; (with_reducible refine (SW.out _ hm).mono ?_); rintro e u4 ⟨n, b', off, c, z, hn, rfl, hb4, hPU, hCE, hOF⟩; have w1 : IntKind.i64.wrap (n : Int) = (n : Int) := sub_wrap (by omega) (by omega); have PU := Lib.hid hPU; have CE := Lib.hid hCE; have OF := Lib.hid hOF; clear hPU hCE hOF; replace hX := hX.trans (hb4.mono hX.size); have n1 : ((n : Int) + 1 == 0) = false := (by rw [beq_eq_false_iff_ne]; omega))
    | (go_at_call 22; (with_reducible refine (PU.out _ (Below.refl _ _)).mono ?_); rintro e u5 ⟨rfl, hb5⟩; have c5 := CE.out _ hb5; replace hX := hX.trans (hb5.mono hX.size)))
  go_ret3
  exact ⟨by rw [H.out]; rfl, hX⟩
set_option maxHeartbeats 1000000 in
set_option maxRecDepth 100000 in
theorem sub_Swap_ok (s p r : ByteArray) {i j : Nat} {x y : Nat × Nat} (all : Bool) (hs : s.size ≤ 10000) (hp : p.size ≤ 281474976710656) (hr : r.size ≤ 1000000000) (h : Sb.there s.data.toList (i : Int) (j : Int) ∧ p.data.toList ≠ [] ∧ Sb.plain p.data.toList ∧ Sb.plain r.data.toList) (hx : (Line.L s.data.toList)[i]? = some x) (hy : (Line.L s.data.toList)[j]? = some y) (hc : Sb.cnt p.data.toList (Sb.most s.data.toList all) (Sb.mids i j (Ix.parts s.data.toList)) ≠ 0) (hbg : ¬ 4096 < (glue (Sb.rows p.data.toList r.data.toList (Sb.most s.data.toList all) i j (Ix.parts s.data.toList))).length) {w : World} (hm : MaxAt w) :
    Calls Tryd.prog 8 #[.string s, .int .i64 i, .int .i64 j, .string p, .string r, .bool all] w fun e w' => e = .returned (Sb.swapV (Sb.swap s.data.toList (i : Int) (j : Int) p.data.toList r.data.toList all)) ∧ Below w.heap.size w w' := by
  have R := Lib.hid (fun w => sub_Range s (i : Int) (j : Int) (by omega) w)
  have P := Lib.hid (fun w => sub_pattern p hp w)
  have Q := Lib.hid (fun w => sub_plain r (by omega) w)
  have hij : i ≤ j := by have := h.1.2.1; omega
  have ht : Utf.valid s.data.toList = true := Line.L_valid hx
  rw [Sb.range_some h.1, Sb.rangeV, Line.start_some (by rw [Line.line_nat]; exact hx), Line.stop_some (by rw [Line.line_nat]; exact hy)] at R
  rw [decide_eq_true (And.intro h.2.1 h.2.2.1)] at P
  rw [decide_eq_true h.2.2.2] at Q
  have BX : Hid (∀ (u v : World), Below (u.alloc (.cells #[.int .i64 x.1, .int .i64 y.2, .bool true] 32)).heap.size (u.alloc (.cells #[.int .i64 x.1, .int .i64 y.2, .bool true] 32)) v → v.cell? ⟨u.heap.size, 0, none⟩ = some (.int .i64 x.1) ∧ v.cell? ⟨u.heap.size, 1, none⟩ = some (.int .i64 y.2) ∧ v.cell? ⟨u.heap.size, 2, none⟩ = some (.bool true)) := fun u v hv => by
    have b0 := (Blk.new u 32 #[.int .i64 x.1, .int .i64 y.2, .bool true]).below hv (by simp)
    exact ⟨b0.cell 0, b0.cell 1, b0.cell 2⟩
  have SW : Hid (∀ u, MaxAt u → Calls Tryd.prog 21 #[.string s, .agg #[.int .i64 x.1, .int .i64 y.2, .bool true], .string p, .string r, .bool all] u fun e w' => ∃ n b' off c z, n ≤ 10000 ∧ e = .returned (.slice (some ⟨b', off, none⟩) (n + 1) c) ∧ Below u.heap.size u w' ∧
      (∀ v, Below w'.heap.size w' v → Calls Tryd.prog 22 #[.string s, .slice (some ⟨b', off, none⟩) (n + 1) c] v fun e' v' => e' = .returned (.tuple #[.string (bs (glue (Sb.rows p.data.toList r.data.toList (Sb.most s.data.toList all) i j (Ix.parts s.data.toList)))), .int .i64 0]) ∧ Below v.heap.size v v') ∧
      (∀ v, Below w'.heap.size w' v → v.cell? ⟨b', off + n * 3, none⟩ = some (.int .i64 z)) ∧ (∀ v, Calls Tryd.prog 18 #[.string s, .int .i64 z] v fun e' v' => e' = .returned (.int .i64 (Sb.lst p.data.toList (Sb.most s.data.toList all) (i : Nat) (-1) (Sb.mids i j (Ix.parts s.data.toList)))) ∧ Below v.heap.size v v')) := fun u hu => (sub_swaps s p r all hij hx hy (by omega) h.2.1 h.2.2.1.1 h.2.2.2.1 hu).mono (by
    rintro e w' ⟨ks, A, c, rfl, hC, hb, hG⟩
    obtain ⟨hm1, hm2, hm3, hm4, hm5, hm6, hm7⟩ := hG.made
    rw [data_len] at hm3 hm4 hm5 hm6
    have hne : ks ≠ [] := fun e => hc (hG.none.1 e)
    obtain ⟨n, hn⟩ : ∃ n, ks.length = n + 1 := ⟨ks.length - 1, by have := List.length_pos_iff.2 hne; omega⟩
    obtain ⟨k, hk, hz⟩ := hG.last_at hn
    obtain ⟨b', off, rfl, _, hcell⟩ := hC (by omega)
    have hwm : ks.length * r.size ≤ 10000 * 1000000000 := Nat.mul_le_mul (by omega) hr
    have PU := fun v (hv : Below w'.heap.size w' v) => sub_put s (V := (bs (glue (Sb.rows p.data.toList r.data.toList (Sb.most s.data.toList all) i j (Ix.parts s.data.toList))))) (e := 0) (c := c) (hC.below hv) (by omega) (by omega) (by omega) (fun hh => absurd hh (by rw [← hm3, hm2]; omega)) (fun hh v2 hv2 => by
        have := batch_Do s (c := c) ((hC.below hv).below hv2) (by omega) (fun k hk => by have := hm7 k hk; rw [data_len] at this; omega) (by omega) (by omega)
        rwa [done_ok hm1 (by rw [hm2]; exact hbg), hm2] at this)
    refine ⟨n, b', off, c, k.at_, by omega, by rw [hn], hb, ?_, fun v hv => ?_, fun v => ?_⟩
    · rw [hn] at PU; exact fun v hv => PU v hv
    · obtain ⟨b2, off2, e2, _, hc2⟩ := (hC.below hv) (by omega)
      injection e2 with e2
      injection e2 with e2 e3 _
      subst e2 e3
      exact (hc2 n k hk).1
    · have := line_Of s k.at_ (by omega) v
      rwa [hz] at this)
  have H := Lib.hid (Sb.swap_ok (all := all) h hc hbg)
  have hTl : Hid (4096 < (glue (Sb.rows p.data.toList r.data.toList (Sb.most s.data.toList all) i j (Ix.parts s.data.toList))).length ∨ True) := .inr trivial
  have F := Lib.hid (fun z w => line_First (bs (glue (Sb.rows p.data.toList r.data.toList (Sb.most s.data.toList all) i j (Ix.parts s.data.toList)))) z (by rw [bs_size]; omega) w)
  rw [bs_toList] at F
  clear h hx hy hc ht hij hbg hTl
  generalize glue (Sb.rows p.data.toList r.data.toList (Sb.most s.data.toList all) i j (Ix.parts s.data.toList)) = T at *
  generalize Sb.lst p.data.toList (Sb.most s.data.toList all) (i : Nat) (-1) (Sb.mids i j (Ix.parts s.data.toList)) = Z at *
  generalize x.1 = x at *
  generalize y.2 = y at *
  go_enter Tryd.func8, Tryd.ntmps8
  go_wp2_with (first
    | (go_at_call 10; (with_reducible refine (R.out _).mono ?_); rintro e u ⟨rfl, hb⟩; have hX := hb.alloc hb.size (.cells #[.int .i64 x, .int .i64 y, .bool true] 32); replace hm := hm.below hX)
    | (go_at_call 19; (with_reducible refine (P.out _).mono ?_); rintro e u2 ⟨rfl, hb2⟩; replace hX := hX.trans (hb2.mono hX.size); have hY := hb2; replace hm := hm.below hb2)
    | (go_at_call 20; (with_reducible refine (Q.out _).mono ?_); rintro e u3 ⟨rfl, hb3⟩; replace hX := hX.trans (hb3.mono hX.size); obtain ⟨c0, c1, c2⟩ := BX.out _ _ (hY.trans (hb3.mono hY.size)); replace hm := hm.below hb3)
    | (go_at_call 21; (with_reducible refine (SW.out _ hm).mono ?_); rintro e u4 ⟨n, b', off, c, z, hn, rfl, hb4, hPU, hCE, hOF⟩; have w1 : IntKind.i64.wrap (n : Int) = (n : Int) := sub_wrap (by omega) (by omega); have PU := Lib.hid hPU; have CE := Lib.hid hCE; have OF := Lib.hid hOF; clear hPU hCE hOF; replace hX := hX.trans (hb4.mono hX.size); have n1 : ((n : Int) + 1 == 0) = false := (by rw [beq_eq_false_iff_ne]; omega))
    | (go_at_call 22; (with_reducible refine (PU.out _ (Below.refl _ _)).mono ?_); rintro e u5 ⟨rfl, hb5⟩; have c5 := CE.out _ hb5; replace hX := hX.trans (hb5.mono hX.size))
    | (go_at_call 18; (with_reducible refine (OF.out _).mono ?_); rintro e u6 ⟨rfl, hb6⟩; replace hX := hX.trans (hb6.mono hX.size))
    | (go_at_call 23; (with_reducible refine (F.out _ _).mono ?_); rintro e u7 ⟨rfl, hb7⟩; replace hX := hX.trans (hb7.mono hX.size)))
  go_ret3
  exact ⟨by rw [H.out]; rfl, hX⟩
theorem sub_Swap (s p r : ByteArray) (a b : Int) (all : Bool) (hs : s.size ≤ 10000) (hp : p.size ≤ 281474976710656) (hr : r.size ≤ 1000000000) {w : World} (hm : MaxAt w) :
    Calls Tryd.prog 8 #[.string s, .int .i64 a, .int .i64 b, .string p, .string r, .bool all] w fun e w' => e = .returned (Sb.swapV (Sb.swap s.data.toList a b p.data.toList r.data.toList all)) ∧ Below w.heap.size w w' := by
  by_cases h : Sb.there s.data.toList a b
  · by_cases h2 : p.data.toList ≠ [] ∧ Sb.plain p.data.toList
    · by_cases h3 : Sb.plain r.data.toList
      · obtain ⟨i, j, x, y, rfl, rfl, _, hx, hy, _, _⟩ := Sb.there_at h
        by_cases hc : Sb.cnt p.data.toList (Sb.most s.data.toList all) (Sb.mids i j (Ix.parts s.data.toList)) = 0
        · exact sub_Swap_none s p r all hs hp hr ⟨h, h2.1, h2.2, h3⟩ hx hy hc hm
        · by_cases hbg : 4096 < (glue (Sb.rows p.data.toList r.data.toList (Sb.most s.data.toList all) i j (Ix.parts s.data.toList))).length
          · exact sub_Swap_big s p r all hs hp hr ⟨h, h2.1, h2.2, h3⟩ hx hy hc hbg hm
          · exact sub_Swap_ok s p r all hs hp hr ⟨h, h2.1, h2.2, h3⟩ hx hy hc hbg hm
      · exact sub_Swap_plain s p r a b all hs hp hr h h2 h3 w
    · exact sub_Swap_pattern s p r a b all hs hp h h2 w
  · exact sub_Swap_there s p r a b all hs h w
end Go.Proofs.YtlfhfpjffdaomaaDoor
/-
  The document's example, as layer 28's statements ask for it; lines that come in.
-/
namespace Go.Proofs.YtlfhfpjffdaomaaDoor
open Go.RowKit
set_option maxRecDepth 100000
namespace Sb
open Gl
def exT : List UInt8 := [97, 88, 97, 10, 98, 10, 97]
def exR : List (List UInt8) := [[97], [88], [97], [10], [98], [10], [97]]
def exU : List UInt8 := [88, 97, 10, 98, 10]
def exV : List (List UInt8) := [[88], [97], [10], [98], [10]]
theorem ex_swap : swap exT 0 2 [97] [] false = (exU, 5, 0) := by
  have hT : Utf.dec exT = some exR := Utf.dec_of (rs := exR) (by decide)
  have hv : Utf.valid exT = true := by rw [Utf.valid, hT]; rfl
  have hL : Line.L exT = [(0, 3), (4, 5), (6, 7)] := by rw [Line.L_ok hv]; rfl
  have hU : Utf.dec exU = some exV := Utf.dec_of (rs := exV) (by decide)
  have hu : Utf.valid exU = true := by rw [Utf.valid, hU]; rfl
  have hM : Line.L exU = [(0, 2), (3, 4), (5, 5)] := by rw [Line.L_ok hu]; rfl
  have h2 : (Line.L exU)[2]? = some (5, 5) := by rw [hM]; rfl
  have hg : glue (rows [97] [] (most exT false) 0 2 (Ix.parts exT)) = exU := by decide
  have hl : lst [97] (most exT false) ((0 : Nat) : Int) (-1) (mids 0 2 (Ix.parts exT)) = ((2 : Nat) : Int) := by decide
  have h := swap_ok (s := exT) (i := 0) (j := 2) (p := [97]) (r := []) (all := false) ⟨⟨by decide, by decide, by rw [hL]; decide⟩, by decide, plain_sign (by decide) (by decide), valid_nil, by decide⟩ (by decide) (by rw [hg]; decide)
  obtain ⟨c, e1, _, e3, e4⟩ := Line.first_ok h2
  rw [hg, hl, e1] at h
  have hc : c = 5 := by omega
  rw [hc] at h
  exact h
end Sb
set_option maxHeartbeats 1000000 in
set_option maxRecDepth 100000 in
theorem sub_lives {w : World} (hm : MaxAt w) : Calls Tryd.prog 7 #[] w fun e w' => e = .returned (.bool true) ∧ Below w.heap.size w w' := by
  have C0 : Hid (Calls Tryd.prog 8 #[.string ⟨#[97, 88, 97, 10, 98, 10, 97]⟩, .int .i64 0, .int .i64 2, .string ⟨#[97]⟩, .string ⟨#[]⟩, .bool false] w fun e w' => e = .returned (.tuple #[.string ⟨#[88, 97, 10, 98, 10]⟩, .int .i64 5, .int .i64 0]) ∧ Below w.heap.size w w') := Lib.hid (by
    have := sub_Swap ⟨#[97, 88, 97, 10, 98, 10, 97]⟩ ⟨#[97]⟩ ⟨#[]⟩ 0 2 false (by decide) (by decide) (by decide) hm
    rw [show Sb.swap (⟨#[97, 88, 97, 10, 98, 10, 97]⟩ : ByteArray).data.toList 0 2 (⟨#[97]⟩ : ByteArray).data.toList (⟨#[]⟩ : ByteArray).data.toList false = (Sb.exU, 5, 0) from Sb.ex_swap] at this
    exact this)
  have g0 : ((⟨#[88, 97, 10, 98, 10]⟩ : ByteArray).toList == (⟨#[88, 97, 10, 98, 10]⟩ : ByteArray).toList) = true := by simp
  go_enter Tryd.func7, Tryd.ntmps7
  go_wp2_with (go_at_call 8; (with_reducible refine C0.out.mono ?_); rintro e u ⟨rfl, hb⟩)
  go_ret
  exact ⟨rfl, hb⟩
/-- The box that a law lays for its lines. -/
structure LBox (w u : World) (a b : Int) : Prop where
  below : Below w.heap.size w u
  blk : Blk u w.heap.size 23 #[.int .i64 a, .int .i64 b]
theorem LBox.new (w : World) (a b : Int) : LBox w (w.alloc (.cells #[.int .i64 a, .int .i64 b] 23)) a b := ⟨(Below.refl _ w).alloc (Nat.le_refl _) _, Blk.new _ _ _⟩
theorem LBox.on {w u v : World} {a b : Int} (h : LBox w u a b) (hb : Below u.heap.size u v) : LBox w v a b := ⟨h.below.trans (hb.mono h.below.size), h.blk.below hb h.blk.lt⟩
theorem LBox.cells {w u : World} {a b : Int} (h : LBox w u a b) : u.cell? ⟨w.heap.size, 0, none⟩ = some (.int .i64 a) ∧ u.cell? ⟨w.heap.size, 1, none⟩ = some (.int .i64 b) := ⟨h.blk.cell 0, h.blk.cell 1⟩
section
open Go.ChangeShapes Go.WideShapes Go.ChangeAt
variable {H : Type} {enc : TypeId × Value → H} {W : World}
theorem cells_lines28 : Tryd.prog.cellsOf 23 = 2 := by kernel_rfl
/-- An argument that is the first and the last of some lines. -/
theorem open_lines28 {base : Nat} {v : Value} {d : DataW H} {p : List MemPlace} (ho : Value.okWide Tryd.prog W .any base 23 v)
    (h : DataW.Trod enc Tryd.prog W 0 (fun _ => true) true 23 v d p) :
    ∃ (a b : Int), v = .agg #[.int .i64 a, .int .i64 b] := by
  simp only [Value.okWide, Tryd.underlying23] at ho
  obtain ⟨cs, rfl, _, _⟩ := ho
  obtain ⟨fuel, hf⟩ := h
  obtain ⟨xs, n, _, hx, hlen0, hlen, hf⟩ := DataW.trod_struct Tryd.underlying23 hf
  rw [cells_lines28] at hlen0
  simp only [Value.cells] at hlen0 hf
  obtain ⟨L⟩ := cs
  match L, hlen0 with
  | [c0, c1], _ =>
    match xs, hlen with
    | [x0, x1], _ =>
      have f0 := hf 0 _ rfl
      have f1 := hf 1 _ rfl
      have hi : Tryd.prog.cellsOf 3 = 1 := by kernel_rfl
      simp only [List.getElem_toArray, List.getElem_cons_zero, List.getElem_cons_succ, hi, List.drop_succ_cons, List.drop_zero, List.take_succ_cons, List.take_zero, List.getElem?_cons_zero, List.getElem?_cons_succ] at f0 f1
      obtain ⟨m, e0, _, _⟩ := DataW.trod_int Tryd.underlying3 f0
      obtain ⟨k, e1, _, _⟩ := DataW.trod_int Tryd.underlying3 f1
      simp at e0 e1
      subst e0 e1
      exact ⟨m, k, rfl⟩
end
end Go.Proofs.YtlfhfpjffdaomaaDoor
