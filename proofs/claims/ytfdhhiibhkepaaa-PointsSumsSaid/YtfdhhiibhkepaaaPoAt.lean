/-
  Package poly: At.
-/
import Derived.Test.YtfdhhiibhkepaaaPoBack
import Derived.Deep.RegionHeld
namespace Go.Proofs.Ytfdhhiibhkepaaa
open Go.RowKit Go.Shelf
open Pr Po

attribute [local go_sem] Oper.semAt_some

/-- HORNER, so far. -/
def hv (p y : Int) (l : List At1) : Int := l.foldl (fun s x => (s * y + x.1.2) % p) 0
theorem hv_snoc (p y : Int) (l : List At1) (x : At1) : hv p y (l ++ [x]) = (hv p y l * y + x.1.2) % p := by simp [hv]
theorem hv_bound {p : Int} (hp : 0 < p) (y : Int) (l : List At1) : 0 ≤ hv p y l ∧ hv p y l < p := by
  rcases List.eq_nil_or_concat l with rfl | ⟨l2, x, rfl⟩
  · exact ⟨Int.le_refl _, hp⟩
  · rw [List.concat_eq_append, hv_snoc]
    exact ⟨Int.emod_nonneg _ (by omega), Int.emod_lt_of_pos _ hp⟩
theorem hv_backs {p : Int} (x : Int) (f : List Int) (h : ∀ i, 0 ≤ nth f i ∧ nth f i ≤ 1000) : ∀ k, k ≤ f.length → hv p (x % p) (backs f h k) = ev (f.drop (f.length - k)) x % p := by
  intro k
  induction k with
  | zero =>
    intro _
    rw [Nat.sub_zero, List.drop_length]
    show (0 : Int) = ev [] x % p
    simp [ev]
  | succ k ih =>
    intro hk
    rw [backs_succ, hv_snoc, ih (by omega)]
    have h1 := (horner (p := p) (f := f) (k := f.length - 1 - k) (by omega) x (y := ev (f.drop (f.length - k)) x % p) (by rw [show f.length - 1 - k + 1 = f.length - k by omega])).2.2
    rw [show f.length - (k + 1) = f.length - 1 - k by omega, ← h1]
    rfl

theorem ex_set (w : World) (k b : Nat) (v : Value) (h : k ≠ b) : (w.setCell ⟨b, 0, none⟩ v).heap[k]? = w.heap[k]? := Below.heap_setCell _ _ _ _ h

set_option maxRecDepth 100000 in
set_option maxHeartbeats 2000000 in
theorem pat_no (p : Int) (f : List Int) (x : Int) (a : Option Addr) (ca : Nat) (w : World) (hl : f.length ≤ maxLen) (hr : Reads w .i64 a f) (h : polyE p f ≠ 0) :
    Calls Try.prog 29 #[.int .i64 p, .slice a f.length ca, .int .i64 x] w (Says (.tuple #[.int .i64 0, .int .i64 (polyE p f)]) w) := by
  have HC := Lib.hid fun w2 (hx : Ex w w2) => pcheck_any p f a ca w2 hl (hr.ex hx)
  have HX1 := Lib.hid (((Ex.refl w).alloc (.cells #[.int .i64 p] 3)).alloc (.cells #[.int .i64 x] 3))
  have b1 : Boxed ((w.alloc (.cells #[.int .i64 p] 3)).alloc (.cells #[.int .i64 x] 3)) w.heap.size 3 (.int .i64 p) := (Boxed.new w 3 _).alloc _
  have c1 := b1.cell
  obtain ⟨c, hc⟩ : ∃ c, polyE p f = c := ⟨_, rfl⟩
  rw [hc] at HC h ⊢
  have hb : (c != 0) = true := by simpa using h
  clear hl hr h hc b1
  go_enter Try.func29, Try.ntmps29
  go_wp2_with (go_at_call 49; (with_reducible refine (HC.out _ HX1.out).mono ?_); rintro e w2 ⟨rfl, hw2⟩)
  go_ret2
  exact ⟨rfl, HX1.out.trans hw2⟩

set_option maxRecDepth 100000 in
set_option maxHeartbeats 4000000 in
theorem pat_ok (p : Int) (f : List Int) (x : Int) (a : Option Addr) (ca : Nat) (w : World) (hr : Reads w .i64 a f) (h : polyE p f = 0) :
    Calls Try.prog 29 #[.int .i64 p, .slice a f.length ca, .int .i64 x] w (Says (.tuple #[.int .i64 (ev f x % p), .int .i64 0]) w) := by
  obtain ⟨hp, hp9, hl, hcf⟩ := polyE_zero.mp h
  have p2 := hp.1
  have HC := Lib.hid fun w2 (hx : Ex w w2) => pcheck_any p f a ca w2 (by unfold maxLen; omega) (hr.ex hx)
  rw [h] at HC
  have HO := Lib.hid fun w2 => of_ok x p w2 (by omega) (by omega)
  have HX1 := Lib.hid (((Ex.refl w).alloc (.cells #[.int .i64 p] 3)).alloc (.cells #[.int .i64 x] 3))
  have b1 : Boxed ((w.alloc (.cells #[.int .i64 p] 3)).alloc (.cells #[.int .i64 x] 3)) w.heap.size 3 (.int .i64 p) := (Boxed.new w 3 _).alloc _
  have b2 : Boxed ((w.alloc (.cells #[.int .i64 p] 3)).alloc (.cells #[.int .i64 x] 3)) (w.heap.size + 1) 3 (.int .i64 x) := by
    have := Boxed.new (w.alloc (.cells #[.int .i64 p] 3)) 3 (.int .i64 x)
    rwa [World.size_alloc] at this
  have c1 := b1.cell
  have HB1 := Lib.hid b1
  have HB2 := Lib.hid b2
  have y0 := Int.emod_nonneg x (b := p) (by omega)
  have y1 := Int.emod_lt_of_pos x (b := p) (by omega)
  have hFB : ∀ i, 0 ≤ nth f i ∧ nth f i ≤ 1000 := fun i => by
    have := hcf.bnd.at (by omega) i
    omega
  have HEND : Hid (hv p (x % p) (backs f hFB f.length) = ev f x % p) := Lib.hid (by
    rw [hv_backs x f hFB f.length (Nat.le_refl _), Nat.sub_self, List.drop_zero])
  obtain ⟨y, hy⟩ : ∃ y, x % p = y := ⟨_, rfl⟩
  have HRD := Lib.hid hr
  rw [hy] at y0 y1 HEND HO
  clear h hp hcf b1 b2 hy hr
  refine (callsIn_wide (n := 3)).1 ?_
  refine callsIn_of_wp_marks Try.func29 rfl trivial ?_ rfl
  simp only [Try.ntmps29, List.size_toArray, List.length_cons, List.length_nil, Nat.reduceAdd, Nat.reduceSub, Array.replicate_succ, Array.replicate_zero, List.push_toArray, List.append_toArray, List.nil_append, List.cons_append]
  gi_wp2_with (first
    | (refine ⟨trivial, ?_⟩; gi_at_call 49; refine (callsIn_wide.2 (HC.out _ HX1.out)).mono ?_; rintro e w2 ⟨rfl, hw2⟩
       have HW2 := Lib.hid hw2
       have d1 : Boxed w2 w.heap.size 3 (.int .i64 p) := (hw2.block _ HB1.out.lt).trans HB1.out
       have d2 : Boxed w2 (w.heap.size + 1) 3 (.int .i64 x) := (hw2.block _ HB2.out.lt).trans HB2.out
       have d1c := d1.cell
       have d2c := d2.cell)
    | (refine ⟨trivial, ?_⟩; gi_at_call 50; refine (callsIn_wide.2 (HO.out _)).mono ?_; rintro e w3 ⟨rfl, hw3⟩
       have e1 : Boxed w3 w.heap.size 3 (.int .i64 p) := (hw3.block _ d1.lt).trans d1
       have e2 : Boxed w3 (w.heap.size + 1) 3 (.int .i64 x) := (hw3.block _ d2.lt).trans d2
       have e2c := e2.cell
       have e2f := e2.frozen)
    | (refine ⟨trivial, ?_⟩; gi_at_call 51; refine (callsIn_wide.2 (back_any _ _ _ _)).mono ?_; rintro e w4 ⟨rfl, rfl⟩))
  have hx3 : Ex w w3 := HX1.out.trans (hw2.trans hw3)
  have HX3 := Lib.hid hx3
  have hsz2 := e2.lt
  obtain ⟨W4, hW4⟩ : ∃ W4, w3.setCell ⟨w.heap.size + 1, 0, none⟩ (.int .i64 y) = W4 := ⟨_, rfl⟩
  rw [hW4]
  have g1 : Boxed W4 w.heap.size 3 (.int .i64 p) := by
    rw [← hW4]
    refine e1.kept (row := some (w.heap.size + 1)) ⟨rfl, rfl, rfl, by simp, fun k hk hne => ?_⟩ (by intro h; have := Option.some.inj h; omega)
    exact (ex_set w3 k (w.heap.size + 1) _ (fun h => hne (by rw [h])))
  have g2 : Boxed W4 (w.heap.size + 1) 3 (.int .i64 y) := by rw [← hW4]; exact e2.set _
  have gsz : W4.heap.size = w3.heap.size := by rw [← hW4]; simp
  have gx : Ex w W4 := by rw [← hW4]; exact hx3.setCell (Nat.le_succ _) _
  rw [← gsz]
  have g3 : Boxed ((W4.alloc (.cells #[.int .i64 0] 3)).alloc (.cells #[.slice a f.length ca] 23)) W4.heap.size 3 (.int .i64 0) := (Boxed.new W4 3 _).alloc _
  have g4 : Boxed ((W4.alloc (.cells #[.int .i64 0] 3)).alloc (.cells #[.slice a f.length ca] 23)) (W4.heap.size + 1) 23 (.slice a f.length ca) := by
    have := Boxed.new (W4.alloc (.cells #[.int .i64 0] 3)) 23 (.slice a f.length ca)
    rwa [World.size_alloc] at this
  have g1a := (g1.alloc (.cells #[.int .i64 0] 3)).alloc (.cells #[.slice a f.length ca] 23)
  have g2a := (g2.alloc (.cells #[.int .i64 0] 3)).alloc (.cells #[.slice a f.length ca] 23)
  have gxa := (gx.alloc (.cells #[.int .i64 0] 3)).alloc (.cells #[.slice a f.length ca] 23)
  have hlt : w.heap.size + 1 < W4.heap.size := by rw [gsz]; exact hsz2
  have hszE : ((W4.alloc (.cells #[.int .i64 0] 3)).alloc (.cells #[.slice a f.length ca] 23)).heap.size = W4.heap.size + 2 := by simp
  obtain ⟨W5, hW5⟩ : ∃ W5, (W4.alloc (.cells #[.int .i64 0] 3)).alloc (.cells #[.slice a f.length ca] 23) = W5 := ⟨_, rfl⟩
  rw [hW5] at g3 g4 g1a g2a gxa hszE ⊢
  obtain ⟨bv, hbv⟩ : ∃ bv, W4.heap.size = bv := ⟨_, rfl⟩
  rw [hbv] at g3 g4 hlt hszE ⊢
  have hsrc : Src W5 (bv + 1) a ca f := by
    refine ⟨g4.cell, ?_⟩
    rcases HRD.out.ex gxa with h | ⟨b, off, h1, h2⟩
    · exact .inl h
    · exact .inr ⟨b, off, h1, h2⟩
  have hfar : ∀ b off, a = some ⟨b, off, none⟩ → f ≠ [] → b < w.heap.size := fun b off ha hne => by
    rcases HRD.out with h | ⟨b2, off2, h1, h2⟩
    · exact absurd h hne
    · rw [ha] at h1
      simp only [Option.some.injEq, Addr.mk.injEq, and_true] at h1
      have h3 := World.block_lt_of_cell? w _ (h2 0 (List.length_pos_iff.mpr hne))
      dsimp only at h3
      omega
  clear HX1 HB1 HB2 HW2 e1 e2 e2c e2f d1 d2 d1c d2c c1 hw2 hw3 HX3 hx3 g1 g2 hW5 hW4 hbv gsz gx hsz2 HC HO
  refine wpIn_rangeFunc_ownF rfl (by omega) (gf := 60) (lb := #[.pointer (some ⟨bv + 1, 0, none⟩)]) rfl trivial (enters_of Try.func60 (by kernel_rfl) rfl)
    (back_stops Fence.wide (3 - 1) trivial rfl (by omega) (bv + 1) ca a f hFB (by omega) W5 hsrc) (fun h k hs => k (h hs)) (fun W l o o' _ ho hco _ hs => hs.kept fun x v hx _ => cell_kept hx (grownBy_putObj' W l o') (fun r e => by cases e; exact ⟨o, ho, hco⟩)) (Below.refl _ _) (fun _ => rfl)
    (fun pre W => (W.cell? ⟨bv, 0, none⟩ = some (.int .i64 (hv p y pre)) ∧ W.frozen? ⟨bv, 0, none⟩ = false ∧ W.cell? ⟨w.heap.size, 0, none⟩ = some (.int .i64 p) ∧ W.cell? ⟨w.heap.size + 1, 0, none⟩ = some (.int .i64 y)) ∧ Below w.heap.size w W)
    (fun _ _ _ => False)
    (OwnFrom.and (Own.from (fun s A B row hs hg hr => ⟨cell_kept hs.1 hg hr, (frozen_kept hs.1 hg hr).trans hs.2.1, cell_kept hs.2.2.1 hg hr, cell_kept hs.2.2.2 hg hr⟩) _) (ownFrom_below (Nat.le_refl _) (by omega)))
    (fun _ _ _ _ _ hs _ _ => hs)
    ⟨⟨g3.cell, g3.frozen, g1a.cell, g2a.cell⟩, gxa⟩
    (fun x2 => { tmps := #[.int .i64 p, .slice a f.length ca, .int .i64 x, .pointer (some ⟨w.heap.size, 0, none⟩), undef, .pointer (some ⟨w.heap.size + 1, 0, none⟩), .int .i64 0, .int .i64 0, .int .i64 0, .int .i64 0, .pointer (some ⟨bv, 0, none⟩), undef, .int .i64 x2.1.2, .int .i64 p, .slice a f.length ca, .int .i64 0, .int .i64 0, .bool false, undef, .tuple #[.int .i64 y, .int .i64 0], .int .i64 x, .int .i64 p, .tuple #[.int .i64 y, .int .i64 0], .int .i64 y, .int .i64 0, .int .i64 0, .bool false, undef, .slice a f.length ca, .func (.func 60) #[] #[.pointer (some ⟨bv + 1, 0, none⟩)], .int .i64 x2.1.1, .int .i64 x2.1.2, undef, undef, undef, undef, undef, undef, undef, undef], defers := [] }) ?assign ?body ?done ?stop
  case assign =>
    intro l x2 W K hK
    dsimp only [encAt]
    gi_wp2
    exact hK
  case body =>
    rintro l pre ⟨⟨xi, xc⟩, hxc0, hxc1⟩ W ⟨⟨hc, hf, hcp, hcy⟩, hB⟩ _
    obtain ⟨s0, s1⟩ := hv_bound (p := p) (by omega) y pre
    have HSN := Lib.hid (hv_snoc p y pre ⟨(xi, xc), hxc0, hxc1⟩)
    obtain ⟨V, hV⟩ : ∃ V, hv p y pre = V := ⟨_, rfl⟩
    rw [hV] at hc s0 s1 HSN
    have mm := mul_bound (A := 997) (B := 997) s0 (by omega) y0 (by omega)
    obtain ⟨m0, m1⟩ := mm
    have hcK := Lib.hid hc
    have hbx : w.heap.size ≤ bv := by omega
    dsimp only at hxc0 hxc1
    gi_wp2
    refine ⟨KeepsOthers.setCell _ _ _, fun hs => ?_, ⟨?_, ?_, ?_, ?_⟩, hB.setCell (p := ⟨bv, 0, none⟩) hbx _⟩
    · refine ⟨?_, ?_⟩
      · rw [World.cell?_setCell_far _ _ _ _ (by simp)]
        exact hs.1
      · rcases hs.2 with h | ⟨b, off, h1, h2⟩
        · exact .inl h
        · by_cases hne : f = []
          · exact .inl hne
          · have := hfar b off h1 hne
            refine .inr ⟨b, off, h1, fun j hj => ?_⟩
            rw [World.cell?_setCell_far _ _ _ _ (by simp; omega)]
            exact h2 j hj
    · rw [HSN.out]
      exact World.cell?_setCell_same' _ _ _ (by rw [hcK.out]; rfl)
    · rw [World.frozen?_setCell]; exact hf
    · rw [World.cell?_setCell_far _ _ _ _ (by simp; omega)]; exact hcp
    · rw [World.cell?_setCell_far _ _ _ _ (by simp; omega)]; exact hcy
  case done =>
    rintro D ys W hD rfl ⟨⟨hc, hf, _, _⟩, hB⟩ hK
    rw [HEND.out] at hc
    gi_wp2
    refine ⟨by simp, .inl ⟨_, _, rfl, run_takeDeferred hK, ?_⟩⟩
    exact ⟨_, results_tmp2 rfl _ _ _, rfl, hB.trans (belowK_b (w := w) (Nat.le_refl _) W D _ _ (by omega) hK rfl rfl)⟩
  case stop =>
    rintro D c pre W _ _ h _
    exact h.elim

end Go.Proofs.Ytfdhhiibhkepaaa
