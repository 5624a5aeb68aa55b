/-
  Package para: where a motion on leads (a loop over the blocks that returns out of a round).
-/
import Derived.Test.YtjgfcnjnedgejaaParaBlocks
import Derived.Test.YtjgfcnjnedgejaaParaWays
namespace Go.Proofs.Ytjgfcnjnedgejaa
open Go.RowKit Go.Shelf
attribute [local go_sem] Oper.semAt_some
namespace Para
theorem blk_abide {B : Nat} {t : TypeId} {cs : Array Value} {X Y : World} {row : Option Nat} (h : Blk X B t cs) (hg : X.grownBy Y row) (hr : ∀ r, row = some r → ∃ o : Obj, X.heap[r]? = some o ∧ o.isCells = false) : Blk Y B t cs :=
  h.grown hg fun e => by
    obtain ⟨o, ho, hc⟩ := hr B e.symm
    rw [show X.heap[B]? = _ from h] at ho; cases ho; cases hc
/-- What on and back answer. -/
def resN (back : Bool) (s : List UInt8) (p n : Nat) : Value := if p = edge back s then .tuple #[.int .i64 0, .bool false] else .tuple #[.int .i64 (goN back s p n : Nat), .bool true]
/-- What on's loop keeps: where it stands, how many are left to come, what it answers. -/
structure On (b : Nat) (w : World) (p c r : Nat) (ok : Bool) (W : World) : Prop where
  p : Boxed W b 3 (.int .i64 (p : Nat))
  n : Boxed W (b + 1) 3 (.int .i64 (c : Nat))
  r : Boxed W (b + 1 + 1) 3 (.int .i64 (r : Nat))
  ok : Boxed W (b + 1 + 1 + 1) 4 (.bool ok)
  below : Below b w W
section
variable {b : Nat} {w : World} {p c r : Nat} {ok : Bool} {A B : World}
theorem On.steps (h : On b w p c r ok A) {q m : Nat} (hs : Steps q m A B) (h1 : b + 3 < m) (h2 : b ≤ w.heap.size) : On b w p c r ok B :=
  ⟨hs.boxed (.inl (by omega)) h.p, hs.boxed (.inl (by omega)) h.n, hs.boxed (.inl (by omega)) h.r, hs.boxed (.inl (by omega)) h.ok, hs.below h.below (by omega) h2⟩
theorem On.alloc (h : On b w p c r ok A) (hb : b = w.heap.size) (o : Obj) : On b w p c r ok (A.alloc o) :=
  ⟨h.p.alloc _, h.n.alloc _, h.r.alloc _, h.ok.alloc _, h.below.alloc (by rw [hb]; exact h.below.size) _⟩
theorem On.less (h : On b w p c r ok A) (d : Nat) : On b w p d r ok (A.setCell ⟨b + 1, 0, none⟩ (.int .i64 (d : Nat))) :=
  ⟨h.p.other (by omega) _, h.n.set _, h.r.other (by omega) _, h.ok.other (by omega) _, h.below.setCell (by simp) _⟩
theorem On.told (h : On b w p c r ok A) (d : Nat) (k : Bool) : On b w p c d k ((A.setCell ⟨b + 1 + 1, 0, none⟩ (.int .i64 (d : Nat))).setCell ⟨b + 1 + 1 + 1, 0, none⟩ (.bool k)) :=
  ⟨(h.p.other (by omega) _).other (by omega) _, (h.n.other (by omega) _).other (by omega) _, (h.r.set _).other (by omega) _, (h.ok.other (by omega) _).set _, (h.below.setCell (by simp; omega) _).setCell (by simp; omega) _⟩
end
theorem on_keeps {b m : Nat} {W : World} {n tB : Nat} (h1 : b + 1 + 1 + 1 < tB) (h2 : tB < m) (k : Nat) (hk : b ≤ k ∧ k ≤ b + 1 + 1 + 1) {W' : World} (h : KeepsFrom n W W' ∧ Stays 4 [tB] m W W') (v : Value) : KeepsFrom n W (W'.setCell ⟨k, 0, none⟩ v) ∧ Stays 4 [tB] m W (W'.setCell ⟨k, 0, none⟩ v) :=
  ⟨h.1.trans ((KeepsOthers.setCell W' ⟨k, 0, none⟩ v).from n), h.2.trans (Stays.setCell W' ⟨k, 0, none⟩ v (by simp; omega) (by simp; omega))⟩
end Para
set_option maxRecDepth 100000 in
set_option maxHeartbeats 2000000 in
theorem para_on (s : ByteArray) (p n : Nat) (hs : s.size ≤ 1000000000000) (hv : Utf.valid s.data.toList = true) (hn : 1 ≤ n) (hn2 : n ≤ 1000000) (w : World) :
    Calls Try.prog 17 #[.string s, .int .i64 (p : Nat), .int .i64 (n : Nat)] w fun e w' => e = .returned (Para.resN false s.data.toList p n) ∧ Below w.heap.size w w' := by
  have hl := data_len s
  refine (callsIn_wide (n := 6)).1 ?_
  refine callsIn_of_wp_marks Try.func17 rfl trivial ?_ rfl
  simp only [Try.ntmps17, List.size_toArray, List.length_cons, List.length_nil, Nat.reduceAdd, Nat.reduceSub, Array.replicate_succ, Array.replicate_zero, List.push_toArray, List.append_toArray, List.nil_append, List.cons_append]
  have b0 := Boxed.new w 3 (.int .i64 (p : Nat))
  have hB0 := (Below.refl w.heap.size w).alloc (Nat.le_refl _) (.cells #[.int .i64 (p : Nat)] 3)
  have b1 := Boxed.new (w.alloc (.cells #[.int .i64 (p : Nat)] 3)) 3 (.int .i64 (n : Nat))
  have hB1 := hB0.alloc (by simp) (.cells #[.int .i64 (n : Nat)] 3)
  have b2 := Boxed.new ((w.alloc (.cells #[.int .i64 (p : Nat)] 3)).alloc (.cells #[.int .i64 (n : Nat)] 3)) 3 (.int .i64 0)
  have hB2 := hB1.alloc (by simp; omega) (.cells #[.int .i64 0] 3)
  have b3 := Boxed.new (((w.alloc (.cells #[.int .i64 (p : Nat)] 3)).alloc (.cells #[.int .i64 (n : Nat)] 3)).alloc (.cells #[.int .i64 0] 3)) 4 (.bool false)
  have hB3 := hB2.alloc (by simp; omega) (.cells #[.bool false] 4)
  simp only [World.size_alloc] at b1 b2 b3
  have hO : Para.On w.heap.size w p n 0 false ((((w.alloc (.cells #[.int .i64 (p : Nat)] 3)).alloc (.cells #[.int .i64 (n : Nat)] 3)).alloc (.cells #[.int .i64 0] 3)).alloc (.cells #[.bool false] 4)) :=
    ⟨((b0.alloc _).alloc _).alloc _, (b1.alloc _).alloc _, b2.alloc _, b3, hB3⟩
  have hz : ((((w.alloc (.cells #[.int .i64 (p : Nat)] 3)).alloc (.cells #[.int .i64 (n : Nat)] 3)).alloc (.cells #[.int .i64 0] 3)).alloc (.cells #[.bool false] 4)).heap.size = w.heap.size + 4 := by simp
  clear b0 b1 b2 b3 hB0 hB1 hB2 hB3
  have c2 := Lib.hid (fun w => para_blocks s w)
  have cp := hO.p.cell
  by_cases he : p = s.size
  · have H : Hid (Para.resN false s.data.toList p n = .tuple #[.int .i64 0, .bool false]) := by show _ = _; rw [Para.resN, if_pos (by rw [he]; exact hl.symm)]
    have g1 : ((p : Int) == (s.size : Int)) = true := by simp [he]
    have e1 := hO.r.cell
    have e2 := hO.ok.cell
    have q1 := hO.r.frozen
    have q2 := hO.ok.frozen
    have HB := Lib.hid hO.below
    clear he hO hl
    gi_wp2
    refine ⟨.tuple #[.int .i64 0, .bool false], ?_, by rw [H.out], HB.out⟩
    simp only [results, Try.f17]
    simp [go_sem]
  · have H : Hid (Para.resN false s.data.toList p n = .tuple #[.int .i64 (Para.onN s.data.toList p n : Nat), .bool true]) := by
      show _ = _
      rw [Para.resN, if_neg (by intro h; exact he (h.trans hl))]
      rfl
    have g1 : ((p : Int) == (s.size : Int)) = false := by simp; omega
    have bT := Boxed.new ((((w.alloc (.cells #[.int .i64 (p : Nat)] 3)).alloc (.cells #[.int .i64 (n : Nat)] 3)).alloc (.cells #[.int .i64 0] 3)).alloc (.cells #[.bool false] 4)) 9 (.string s)
    rw [hz] at bT
    have hO5 := hO.alloc rfl (.cells #[.string s] 9)
    have hz5 : (((((w.alloc (.cells #[.int .i64 (p : Nat)] 3)).alloc (.cells #[.int .i64 (n : Nat)] 3)).alloc (.cells #[.int .i64 0] 3)).alloc (.cells #[.bool false] 4)).alloc (.cells #[.string s] 9)).heap.size = w.heap.size + 5 := by simp
    clear hO he
    gi_wp2_with (refine ⟨trivial, ?_⟩; gi_at_call 26; refine (callsIn_wide.2 (c2.out _)).mono ?_; rintro e w' ⟨rfl, rfl⟩)
    clear cp c2 hz g1
    generalize ((((w.alloc (.cells #[.int .i64 (p : Nat)] 3)).alloc (.cells #[.int .i64 (n : Nat)] 3)).alloc (.cells #[.int .i64 0] 3)).alloc (.cells #[.bool false] 4)).alloc (.cells #[.string s] 9) = w5 at *
    refine wpIn_seqUpto rfl (by decide) (gf := 40) (lb := #[.pointer (some ⟨w.heap.size + 1 + 1 + 1 + 1, 0, none⟩)]) rfl trivial (enters_of Try.func40 (by kernel_rfl) rfl)
      (para_block_seq _ (w.heap.size + 4) s hs hv w5 bT) (fun _ _ _ h k o hk ho _ => h.block k o hk ho) (fun h k => h.trans k)
      (fun W2 l2 o h1 h2 => Stays.putObj (n := w5.heap.size) (by intro k hk; simp at hk; omega) W2 l2 o h1 h2) (fun _ _ h => h.size) (Below.refl _ _) (fun _ => rfl)
      (fun pre Wr => (Para.hitsOn p pre).length < n ∧ Para.On w.heap.size w p (n - (Para.hitsOn p pre).length) 0 false Wr)
      (fun Wr => ∃ c, Para.On w.heap.size w p c (Para.onN s.data.toList p n) true Wr)
      (steps_own (q := 4) (m := w5.heap.size) (fun _ _ _ h hs => ⟨h.1, h.2.steps hs (by omega) (Nat.le_refl _)⟩) (Nat.le_refl _))
      (steps_own (q := 4) (m := w5.heap.size) (fun _ _ _ h hs => by obtain ⟨c, h⟩ := h; exact ⟨c, h.steps hs (by omega) (Nat.le_refl _)⟩) (Nat.le_refl _))
      (fun _ _ _ h hs => ⟨h.1, h.2.steps hs (by omega) (Nat.le_refl _)⟩) (fun A B h hs => by obtain ⟨c, h⟩ := h; exact ⟨c, h.steps hs (by omega) (Nat.le_refl _)⟩) ⟨by simp [Para.hitsOn]; omega, hO5⟩
      (fun x a' W => ∃ Bx, w5.heap.size ≤ Bx ∧ Blk W Bx 37 (Para.cellsB x) ∧ a' = { tmps := #[.string s, .int .i64 (p : Nat), .int .i64 (n : Nat), undef, .pointer (some ⟨w.heap.size, 0, none⟩), .pointer (some ⟨w.heap.size + 1, 0, none⟩), .pointer (some ⟨w.heap.size + 1 + 1, 0, none⟩), .pointer (some ⟨w.heap.size + 1 + 1 + 1, 0, none⟩), .pointer (some ⟨Bx, 0, none⟩), .int .i64 (p : Nat), .string s, .int .i64 (s.size : Nat), .bool false, .string s, .func (.func 40) #[] #[.pointer (some ⟨w.heap.size + 1 + 1 + 1 + 1, 0, none⟩)], .agg (Para.cellsB x), undef, undef, undef, undef, undef, undef, undef, undef, undef, undef, undef, undef, undef, undef, undef, undef, undef], defers := [] })
      (fun x a' _ X Y row hs hg hr => by obtain ⟨Bx, e1, e2, e3⟩ := hs; exact ⟨Bx, e1, Para.blk_abide e2 hg (fun r e => (hr r e).2), e3⟩)
      ?assign ?body ?done ?stop
    case assign =>
      rintro l pre x W K ⟨hi, hO⟩ _ hsz hK
      have H0 := Lib.hid (hK _ _ ((KeepsOthers.alloc W (.cells (Para.cellsB x) 37)).from _) (Stays.alloc _ _ _ _ _) ⟨hi, hO.alloc rfl _⟩ ⟨W.heap.size, by omega, Blk.new W 37 (Para.cellsB x), rfl⟩)
      clear hi hO hK
      gi_wp2
      exact H0.out
    case body =>
      rintro l pre x a' W ⟨hi, hO⟩ ⟨Bx, hBx, hx, rfl⟩ hpre hsz
      have HS := Para.hitsOn_snoc p pre x
      have hk0 : KeepsFrom w5.heap.size W W ∧ Stays 4 [w.heap.size + 4] (w5.heap.size + 2) W W := ⟨KeepsFrom.refl _ _, Stays.refl _ _ _ _⟩
      have x0 : W.cell? ⟨Bx, 0, none⟩ = some (.bool x.e) := hx.cell 0
      have x3 : W.cell? ⟨Bx, 3, none⟩ = some (.int .i64 (x.fa : Nat)) := hx.cell 3
      have cp := hO.p.cell
      cases hxe : x.e with
      | false =>
        rw [hxe] at x0
        rw [hxe, if_neg (by simp), List.append_nil] at HS
        have HI : Hid ((Para.hitsOn p (pre ++ [x])).length < n ∧ Para.On w.heap.size w p (n - (Para.hitsOn p (pre ++ [x])).length) 0 false W) := by rw [HS]; exact ⟨hi, hO⟩
        have HK := Lib.hid hk0
        clear hk0 HS hi hO hx hpre
        gi_wp2
        exact ⟨HK.out.1, HK.out.2, HI.out⟩
      | true =>
        rw [hxe] at x0
        by_cases hf : x.fa ≤ p
        · rw [if_neg (by omega), List.append_nil] at HS
          have HI : Hid ((Para.hitsOn p (pre ++ [x])).length < n ∧ Para.On w.heap.size w p (n - (Para.hitsOn p (pre ++ [x])).length) 0 false W) := by rw [HS]; exact ⟨hi, hO⟩
          have HK := Lib.hid hk0
          have g2 : decide ((x.fa : Int) ≤ (p : Int)) = true := by simp [hf]
          clear hk0 HS hi hO hx hpre
          gi_wp2
          exact ⟨HK.out.1, HK.out.2, HI.out⟩
        · rw [if_pos ⟨hxe, by omega⟩] at HS
          have g2 : decide ((x.fa : Int) ≤ (p : Int)) = false := by simp; omega
          obtain ⟨c, hc⟩ : ∃ c, n - (Para.hitsOn p pre).length = c + 1 := ⟨n - (Para.hitsOn p pre).length - 1, by omega⟩
          rw [hc] at hO
          have hO1 := hO.less c
          have cn := hO.n.cell
          have fn := hO.n.frozen
          have x3b : (W.setCell ⟨w.heap.size + 1, 0, none⟩ (.int .i64 (c : Nat))).cell? ⟨Bx, 3, none⟩ = some (.int .i64 (x.fa : Nat)) := (hx.far (p := ⟨w.heap.size + 1, 0, none⟩) (by simp; omega) _).cell 3
          have hk1 := Para.on_keeps (b := w.heap.size) (tB := w.heap.size + 4) (by omega) (by omega) (w.heap.size + 1) (by omega) hk0 (.int .i64 (c : Nat))
          have hc9 : c ≤ 1000000 := by omega
          rcases Nat.eq_zero_or_pos c with h0 | h0
          · have HF : Hid (Para.onN s.data.toList p n = x.fa) := Para.onN_found hpre ⟨hxe, by omega⟩ (by omega)
            have g3 : ((c : Int) == 0) = true := by simp [h0]
            have cr := hO1.r.cell
            have fr := hO1.r.frozen
            have co := hO1.ok.cell
            have fo := hO1.ok.frozen
            have hO2 := hO1.told x.fa true
            have hk2 := Para.on_keeps (b := w.heap.size) (tB := w.heap.size + 4) (by omega) (by omega) (w.heap.size + 1 + 1) (by omega) hk1 (.int .i64 (x.fa : Nat))
            have hk3 := Para.on_keeps (b := w.heap.size) (tB := w.heap.size + 4) (by omega) (by omega) (w.heap.size + 1 + 1 + 1) (by omega) hk2 (.bool true)
            have HI := Lib.hid (And.intro hO2 hk3)
            clear hk0 hk1 hk2 hk3 hO hO1 hO2 HS hi hx hpre hc h0
            gi_wp2
            refine ⟨HI.out.2.1, HI.out.2.2, c, ?_⟩
            rw [HF.out]
            exact HI.out.1
          · have g3 : ((c : Int) == 0) = false := by simp; omega
            have HI : Hid ((Para.hitsOn p (pre ++ [x])).length < n ∧ Para.On w.heap.size w p (n - (Para.hitsOn p (pre ++ [x])).length) 0 false (W.setCell ⟨w.heap.size + 1, 0, none⟩ (.int .i64 (c : Nat)))) := by
              rw [HS, List.length_append, List.length_singleton, show n - ((Para.hitsOn p pre).length + 1) = c by omega]
              exact ⟨by omega, hO1⟩
            have HK := Lib.hid hk1
            clear hk0 hk1 hO hO1 HS hi hx hpre hc h0
            gi_wp2
            exact ⟨HK.out.1, HK.out.2, HI.out⟩
    case done =>
      rintro D W hD ⟨hi, hO⟩ hK
      have HF : Hid (Para.onN s.data.toList p n = s.size) := by show _ = _; rw [Para.onN_end hi, hl]
      have cr := hO.r.cell
      have fr := hO.r.frozen
      have co := hO.ok.cell
      have fo := hO.ok.frozen
      have hO2 := hO.told s.size true
      have hK' := ((KeepsOthers.setCell W ⟨w.heap.size + 1 + 1, 0, none⟩ (.int .i64 (s.size : Nat))).trans (KeepsOthers.setCell _ ⟨w.heap.size + 1 + 1 + 1, 0, none⟩ (.bool true))).same D _ hK rfl
      have HI := Lib.hid (And.intro hO2 hK')
      clear hO hO2 hK' hi
      gi_wp2
      have d1 := (putObj_boxed (o' := .deferred none) HI.out.1.r HI.out.2 rfl).cell
      have d2 := (putObj_boxed (o' := .deferred none) HI.out.1.ok HI.out.2 rfl).cell
      refine ⟨by simp, .inl ⟨_, _, rfl, run_takeDeferred HI.out.2, ?_⟩⟩
      refine ⟨.tuple #[.int .i64 (s.size : Nat), .bool true], ?_, by rw [H.out, HF.out], HI.out.1.below.trans (belowK_b (w := w) (Nat.le_refl _) _ D _ _ (by omega) HI.out.2 rfl rfl)⟩
      simp [results, Try.f17, go_sem, d1, d2]
    case stop =>
      rintro D W hD ⟨c, hO⟩ hK
      gi_wp2
      have d1 := (putObj_boxed (o' := .deferred none) hO.r hK rfl).cell
      have d2 := (putObj_boxed (o' := .deferred none) hO.ok hK rfl).cell
      refine ⟨by simp, .inl ⟨_, _, rfl, run_takeDeferred hK, ?_⟩⟩
      refine ⟨.tuple #[.int .i64 (Para.onN s.data.toList p n : Nat), .bool true], ?_, by rw [H.out], hO.below.trans (belowK_b (w := w) (Nat.le_refl _) _ D _ _ (by omega) hK rfl rfl)⟩
      simp [results, Try.f17, go_sem, d1, d2]
end Go.Proofs.Ytjgfcnjnedgejaa
