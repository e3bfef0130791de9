/-
  PointsMore, walked: one more point, the others from behind.
-/
import Derived.Test.YtfdhhiibhkepaaaPtKeep
import Derived.Test.YtfdhhiibhkepaaaChRev
import Derived.RangeFuncBox
namespace Go.Proofs.Ytfdhhiibhkepaaa
open Go.RowKit
open Eu Pr Po Rs

theorem pts_iff {p : Int} {l : List (Int × Int)} : Pts p l l.length ↔ (∀ a ∈ l, (0 ≤ a.1 ∧ a.1 < p) ∧ 0 ≤ a.2 ∧ a.2 < p) ∧ (l.map (·.1)).Nodup := by
  constructor
  · intro h
    refine ⟨fun a ha => ?_, ?_⟩
    · obtain ⟨j, hj, rfl⟩ := List.getElem_of_mem ha
      have := h.1 j hj
      unfold px py at this
      rwa [nthR_eq hj] at this
    · rw [List.Nodup, List.pairwise_iff_getElem]
      intro i j hi hj hij
      simp only [List.length_map] at hi hj
      have := h.2 i j hi hj (by omega)
      unfold px at this
      rw [nthR_eq hi, nthR_eq hj] at this
      simpa using this
  · rintro ⟨h1, h2⟩
    refine ⟨fun i hi => ?_, fun i j hi hj hne => ?_⟩
    · unfold px py
      exact h1 _ (nthR_mem hi)
    · rw [List.Nodup, List.pairwise_iff_getElem] at h2
      unfold px
      rw [nthR_eq hi, nthR_eq hj]
      rcases Nat.lt_or_gt_of_ne hne with h | h
      · have := h2 i j (by simpa using hi) (by simpa using hj) h
        simpa using this
      · have := h2 j i (by simpa using hj) (by simpa using hi) h
        exact fun e => this (by simpa using e.symm)

theorem th_iff {p : Int} {l : List (Int × Int)} {f : List Int} : IsTh p l l.length f ↔ Po.Can p f ∧ f.length ≤ l.length ∧ ∀ a ∈ l, p ∣ ev f a.1 - a.2 := by
  constructor
  · rintro ⟨h1, h2, h3⟩
    refine ⟨h1, h2, fun a ha => ?_⟩
    obtain ⟨j, hj, rfl⟩ := List.getElem_of_mem ha
    have := h3 j hj
    unfold px py at this
    rwa [nthR_eq hj] at this
  · rintro ⟨h1, h2, h3⟩
    exact ⟨h1, h2, fun i hi => h3 _ (nthR_mem hi)⟩

theorem nthR_front {l m : List (Int × Int)} {i : Nat} (h : i < l.length) : nthR (l ++ m) i = nthR l i := by
  rw [nthR_eq (by rw [List.length_append]; omega), nthR_eq h, List.getElem_append_left h]
theorem nthR_last {l : List (Int × Int)} {q : Int × Int} : nthR (l ++ [q]) l.length = q := by
  rw [nthR_eq (by simp)]; simp
theorem Pts.front {p : Int} {l m : List (Int × Int)} (h : Pts p l l.length) : Pts p (l ++ m) l.length := by
  refine ⟨fun i hi => ?_, fun i j hi hj hne => ?_⟩
  · have := h.1 i hi
    unfold px py at *
    rwa [nthR_front hi]
  · have := h.2 i j hi hj hne
    unfold px at *
    rwa [nthR_front hi, nthR_front hj]

theorem nodup_rev {l : List Int} (h : l.Nodup) : l.reverse.Nodup := by
  rw [List.Nodup, List.pairwise_reverse]
  exact List.Pairwise.imp (fun h e => h e.symm) h

theorem Pts.rev {p : Int} {l : List (Int × Int)} (h : Pts p l l.length) : Pts p l.reverse l.reverse.length := by
  rw [pts_iff] at h ⊢
  refine ⟨fun a ha => h.1 a (List.mem_reverse.mp ha), ?_⟩
  rw [List.map_reverse]
  exact nodup_rev h.2

/-- One point more than there may be. -/
theorem more_large {p : Int} {l : List (Int × Int)} {q : Int × Int} (h : ptE p l = 0) (hl : l.length = 12) : ptE p (l.reverse ++ [q]) = 2 := by
  obtain ⟨hp, p9, _, _⟩ := ptE_zero.mp h
  exact ptE_large (fieldE_zero.mpr ⟨hp, p9⟩) (by simp [hl])

theorem more_there {p : Int} {l : List (Int × Int)} {q : Int × Int} (h : ptE p l = 0) (hl : l.length < 12) (q1 : 0 ≤ q.1 ∧ q.1 < p) (q2 : 0 ≤ q.2 ∧ q.2 < p) (hh : hasP l q.1 = true) : ptE p (l.reverse ++ [q]) = 6 := by
  obtain ⟨hp, p9, _, hP⟩ := ptE_zero.mp h
  have e1 : px (l.reverse ++ [q]) l.reverse.length = q.1 := by unfold px; rw [nthR_last]
  have e2 : py (l.reverse ++ [q]) l.reverse.length = q.2 := by unfold py; rw [nthR_last]
  refine scan_there (i := l.reverse.length) (fieldE_zero.mpr ⟨hp, p9⟩) (by simp; omega) (by simp) ((ptS_zero _ (by simp)).mpr hP.rev.front) (by rw [e1]; exact outB_no.mpr q1) (by rw [e2]; exact outB_no.mpr q2) ?_
  rw [e1, List.take_left' rfl]
  unfold hasP at hh ⊢
  rw [List.any_reverse]
  exact hh

theorem more_ok {p : Int} {l : List (Int × Int)} {q : Int × Int} {F : List Int} (h : ptE p l = 0) (hF : IsTh p l l.length F) (hl : l.length < 12) (q1 : 0 ≤ q.1 ∧ q.1 < p) (hq : q.2 = ev F q.1 % p) (hh : hasP l q.1 = false) :
    ptE p (l.reverse ++ [q]) = 0 ∧ IsTh p (l.reverse ++ [q]) (l.reverse ++ [q]).length F := by
  obtain ⟨hp, p9, _, hP⟩ := ptE_zero.mp h
  have p2 := hp.1
  rw [ptE_zero]
  rw [th_iff] at hF ⊢
  rw [pts_iff] at hP ⊢
  refine ⟨⟨hp, p9, by simp; omega, fun a ha => ?_, ?_⟩, hF.1, by simp; omega, fun a ha => ?_⟩
  · rcases List.mem_append.mp ha with ha | ha
    · exact hP.1 a (List.mem_reverse.mp ha)
    · obtain rfl : a = q := by simpa using ha
      exact ⟨q1, by rw [hq]; exact ⟨Int.emod_nonneg _ (by omega), Int.emod_lt_of_pos _ (by omega)⟩⟩
  · rw [List.map_append, List.map_reverse, List.nodup_append]
    refine ⟨nodup_rev hP.2, by simp, fun x hx y hy => ?_⟩
    have hy : y = q.1 := by simpa using hy
    subst hy
    intro e
    subst e
    obtain ⟨b, hb, hbx⟩ := List.mem_map.mp (List.mem_reverse.mp hx)
    unfold hasP at hh
    rw [List.any_eq_false] at hh
    exact hh b hb (by simpa using hbx)
  · rcases List.mem_append.mp ha with ha | ha
    · exact hF.2.2 a (List.mem_reverse.mp ha)
    · obtain rfl : a = q := by simpa using ha
      rw [hq]
      have := Int.dvd_neg.mpr (dvd_mod p (ev F a.1))
      rwa [Int.neg_sub] at this

theorem more_any {p : Int} {l : List (Int × Int)} {F : List Int} {x y : Int} (h : ptE p l = 0) (hF : IsTh p l l.length F) (hy : y = ev F x % p) (hh : hasP l x = true) : (l.any fun a => a.1 == x && a.2 == y) = true := by
  obtain ⟨hp, p9, _, hP⟩ := ptE_zero.mp h
  rw [th_iff] at hF
  rw [pts_iff] at hP
  unfold hasP at hh
  obtain ⟨a, ha, hx⟩ := List.any_eq_true.mp hh
  have hx : a.1 = x := by simpa using hx
  refine List.any_eq_true.mpr ⟨a, ha, ?_⟩
  have h1 := emod_of_dvd (hF.2.2 a ha)
  have h2 := hP.1 a ha
  rw [hx] at h1
  rw [hx, hy, h1, Int.emod_eq_of_lt h2.2.1 h2.2.2]
  simp

set_option maxHeartbeats 400000 in
theorem moreOne_any (u v x y : Int) (b1 b2 : Nat) (w : World) (h1 : w.cell? ⟨b1, 0, none⟩ = some (.int .i64 x)) (h2 : w.cell? ⟨b2, 0, none⟩ = some (.int .i64 y)) :
    Calls Try.prog 26 #[.agg #[.int .i64 u, .int .i64 v], .pointer (some ⟨b1, 0, none⟩), .pointer (some ⟨b2, 0, none⟩)] w (Says (.bool (u == x && v == y)) w) := by
  have HX := Lib.hid ((Ex.refl w).alloc (.cells #[.int .i64 u, .int .i64 v] 33))
  have g1 := HX.out.cell h1
  have g2 := HX.out.cell h2
  clear h1 h2
  by_cases hu : u = x
  · have hb : (u == x) = true := by simpa using hu
    by_cases hv : v = y
    · have hc : (v == y) = true := by simpa using hv
      subst hu
      subst hv
      go_enter Try.func26, Try.ntmps26
      go_wp2
      go_ret
      exact ⟨by simp, HX.out⟩
    · have hc : (v == y) = false := by simpa using hv
      have HC := Lib.hid hc
      subst hu
      clear hv
      go_enter Try.func26, Try.ntmps26
      go_wp2
      go_ret
      exact ⟨by rw [HC.out]; simp, HX.out⟩
  · have hb : (u == x) = false := by simpa using hu
    have HC := Lib.hid hb
    clear hu
    go_enter Try.func26, Try.ntmps26
    go_wp2
    go_ret
    exact ⟨by rw [HC.out]; simp, HX.out⟩

theorem entered_more : Entered Try.prog 26 := fun _ _ => by kernel_rfl

set_option maxRecDepth 100000 in
set_option maxHeartbeats 1000000 in
theorem pointsMore_no (p : Int) (l : List (Int × Int)) (x : Int) (a : Option Addr) (cap : Nat) (w : World) (hcap : l.length ≤ cap) (hl : l.length ≤ 140737488355328) (hr : ReadsR w a l) (h : ptE p l ≠ 0) :
    Calls Try.prog 6 #[.int .i64 p, .slice a l.length cap, .int .i64 x] w (Says (.bool true) w) := by
  have HT := Lib.hid fun w2 (hx : Ex w w2) => through_no p l a cap w2 hcap hl (hr.ex hx) h
  have HLI := Lib.hid lines_yes
  have HX := Lib.hid ((Ex.refl w).alloc (.cells #[.int .i64 x] 3))
  obtain ⟨c, hc⟩ : ∃ c, ptE p l = c := ⟨_, rfl⟩
  rw [hc] at HT h
  have hb : (c != 0) = true := by simpa using h
  clear hr hl h hc
  go_enter Try.func6, Try.ntmps6
  go_wp2_with (first
    | (go_at_call 14; (with_reducible refine (HLI.out _).mono ?_); rintro e w1 ⟨rfl, hw1⟩)
    | (go_at_call 7; (with_reducible refine (HT.out _ (HX.out.trans hw1)).mono ?_); rintro e w2 ⟨rfl, hw2⟩))
  go_ret
  exact ⟨rfl, HX.out.trans (hw1.trans hw2)⟩

theorem set_grown (w : World) (b : Nat) (v : Value) : w.grownBy (w.setCell ⟨b, 0, none⟩ v) (some b) := ⟨rfl, rfl, rfl, by simp, fun k _ hne => ex_set w k b _ (fun h => hne (by rw [h]))⟩

theorem row_past {e : TypeId} {k : IntKind} {w : World} {base b : Nat} {v : Value} {xs : List Int} (h : Row e k w base v xs) (hb : b < base) (u : Value) : Row e k (w.setCell ⟨b, 0, none⟩ u) base v xs :=
  h.kept (set_grown w b u) (by
    cases hv : v.ownBlock with
    | none => exact .inl rfl
    | some j =>
      refine .inr fun e => ?_
      have := (h.lt j hv).1
      have := Option.some.inj e
      omega)

theorem RowR.read {e : TypeId} {w : World} {base n cap : Nat} {a : Option Addr} {l : List (Int × Int)} (h : RowR e w base (.slice a n cap) l) : ReadsR w a l := by
  obtain ⟨a2, cap2, h1, _, h2, _⟩ := h.reads
  simp only [Value.slice.injEq] at h1
  rw [h1.1]; exact h2

set_option maxRecDepth 100000 in
set_option maxHeartbeats 1000000 in
theorem pointsMore_large (p : Int) (l : List (Int × Int)) (F : List Int) (x : Int) (a : Option Addr) (cap L : Nat) (w : World) (hL : l.length = L) (hcap : L ≤ cap) (hr : ReadsR w a l) (hnil : a = none → l = [] ∧ cap = 0) (h : ptE p l = 0) (hF : IsTh p l l.length F) (h12 : L = 12) :
    Calls Try.prog 6 #[.int .i64 p, .slice a L cap, .int .i64 x] w (Says (.bool true) w) := by
  obtain ⟨hp, p9, l12, hP⟩ := ptE_zero.mp h
  have p2 := hp.1
  have lF := hF.2.1
  have HLL := Lib.hid hL
  have HT := Lib.hid fun w2 (hx : Ex w w2) => through_ok p l F a cap w2 (by omega) (hr.ex hx) h hF
  obtain ⟨X, hX⟩ : ∃ X, x % p = X := ⟨_, rfl⟩
  have HA := Lib.hid fun w2 (hx : Ex w w2) => ptAt_ok p l F X a cap w2 (by omega) (hr.ex hx) h hF
  obtain ⟨y, hy⟩ : ∃ y, ev F X % p = y := ⟨_, rfl⟩
  rw [hy] at HA
  have HWI := Lib.hid fun w2 => within_any x p w2 (by omega) (by omega)
  rw [hX] at HWI
  have x0 : 0 ≤ X := by rw [← hX]; exact Int.emod_nonneg _ (by omega)
  have x1 : X < p := by rw [← hX]; exact Int.emod_lt_of_pos _ (by omega)
  have y0 : 0 ≤ y := by rw [← hy]; exact Int.emod_nonneg _ (by omega)
  have y1 : y < p := by rw [← hy]; exact Int.emod_lt_of_pos _ (by omega)
  have HLI := Lib.hid lines_yes
  have HCL := Lib.hid fun w2 (hx : Ex w w2) => clone_points l a cap w2 (by omega) (hr.ex hx) hnil
  have HRV := Lib.hid fun (v : Value) (base : Nat) w2 (hx : RowR 33 w2 base v l) => reverse_points 33 base v l w2 hx (by omega)
  have HL2 : Hid ((l.reverse ++ [(X, y)]).length = L + 1) := Lib.hid (by simp [hL])
  obtain ⟨N, hN⟩ : ∃ N, F.length = N := ⟨_, rfl⟩
  rw [hN] at HT lF
  rw [hL] at HT HA HCL lF
  have hE := more_large (q := (X, y)) h (by omega)
  have HT2 : Hid (∀ (w2 : World) (b : Option Addr) (c : Nat), L + 1 ≤ c → ReadsR w2 b (l.reverse ++ [(X, y)]) → Calls Try.prog 7 #[.int .i64 p, .slice b (L + 1) c] w2 (Says (.tuple #[.slice none 0 0, .int .i64 2]) w2)) := Lib.hid fun w2 b c hc hrb => by
    have := through_no p (l.reverse ++ [(X, y)]) b c w2 (by rw [HL2.out]; exact hc) (by rw [HL2.out]; omega) hrb (by rw [hE]; decide)
    rw [HL2.out, hE] at this
    exact this
  clear hr h hF hP hX hy hN hE hp hnil hL l12
  subst h12
  have HX0 := Lib.hid ((Ex.refl w).alloc (.cells #[.int .i64 x] 3))
  have HB0 := Lib.hid (Boxed.new w 3 (.int .i64 x))
  go_enter Try.func6, Try.ntmps6
  go_wp2_with (first
    | (go_at_call 14; (with_reducible refine (HLI.out _).mono ?_); rintro e w1 ⟨rfl, hw1⟩
       have HX1 := Lib.hid (HX0.out.trans hw1)
       have HB1 : Hid (Boxed w1 w.heap.size 3 (.int .i64 x)) := Lib.hid ((hw1.block _ HB0.out.lt).trans HB0.out)
       clear hw1)
    | (go_at_call 7; (with_reducible refine (HT.out _ HX1.out).mono ?_); rintro e w2 ⟨b2, d2, rfl, hrow2, hr2, hn2, hw2⟩
       have HX2 := Lib.hid (HX1.out.trans hw2)
       have HB2 : Hid (Boxed w2 w.heap.size 3 (.int .i64 x)) := Lib.hid ((hw2.block _ HB1.out.lt).trans HB1.out)
       have c2 := HB2.out.cell
       have f2 := HB2.out.frozen
       have HX3 := Lib.hid (HX2.out.setCell (p := ⟨w.heap.size, 0, none⟩) (Nat.le_refl _) (.int .i64 X))
       have HB3 := Lib.hid (HB2.out.set (.int .i64 X))
       have c3 := HB3.out.cell
       have HR3 := Lib.hid (row_past hrow2.out HB1.out.lt (.int .i64 X)).read
       clear hw2 hr2 hrow2)
    | (go_at_call 19; (with_reducible refine (HWI.out _).mono ?_); rintro e w' ⟨rfl, rfl⟩)
    | (go_at_call 8; (with_reducible refine (HA.out _ HX3.out).mono ?_); rintro e w4 ⟨rfl, hw4⟩
       have HX5 := Lib.hid ((HX3.out.trans hw4).alloc (.cells #[.int .i64 y] 3))
       have HB5 : Hid (Boxed (w4.alloc (.cells #[.int .i64 y] 3)) w.heap.size 3 (.int .i64 X)) := Lib.hid (Boxed.alloc ((hw4.block _ HB3.out.lt).trans HB3.out) _)
       have HC5 := Lib.hid (Boxed.new w4 3 (.int .i64 y))
       have HR5 := Lib.hid ((HR3.out.ex hw4).ex ((Ex.refl w4).alloc (.cells #[.int .i64 y] 3)))
       clear hw4)
    | (go_at_call 23; (with_reducible refine (HCL.out _ HX5.out).mono ?_); rintro e w6 ⟨v6, rfl, hrow6, hw6⟩
       have HW6 := Lib.hid hw6
       clear hw6)
    | (go_at_call 24; (with_reducible refine (HRV.out _ _ _ hrow6.out).mono ?_); rintro e w7 ⟨rfl, hrow7, hgrow7⟩
       have HW7 := Lib.hid (RowR.grown hrow6.out HW6.out hgrow7)
       have HB7 : Hid (Boxed w7 w.heap.size 3 (.int .i64 X)) := Lib.hid ((HW7.out.block _ HB5.out.lt).trans HB5.out)
       have HC7 : Hid (Boxed w7 w4.heap.size 3 (.int .i64 y)) := Lib.hid ((HW7.out.block _ HC5.out.lt).trans HC5.out)
       have c71 := HB7.out.cell
       have c72 := HC7.out.cell
       have HW8 := Lib.hid (HW7.out.alloc (.cells #[.int .i64 X, .int .i64 y] 33))
       have HR8 := Lib.hid (RowR.ex hrow7 ((Ex.refl w7).alloc (.cells #[.int .i64 X, .int .i64 y] 33)))
       clear hrow7 hgrow7)
    | (at_builtin; refine wpList_append_pair rfl _ _ 22 rfl _ 33 Try.underlying22 info_pt _ l.reverse rfl HR8.out (X, y) w7.heap.size rfl (by simp) (by simp) (by rw [List.length_reverse, HLL.out]; unfold maxLen; omega) (by rw [List.length_reverse, HLL.out]; omega) HW8.out.size ?_; intro v9 w9 hown9 hgrow9 hat9
       have HW9 := Lib.hid (RowR.grown HR8.out HW8.out hgrow9)
       have HX9 := Lib.hid (HX5.out.trans HW9.out)
       have HB9 : Hid (Boxed w9 w.heap.size 3 (.int .i64 X)) := Lib.hid ((HW9.out.block _ HB5.out.lt).trans HB5.out)
       have HC9 : Hid (Boxed w9 w4.heap.size 3 (.int .i64 y)) := Lib.hid ((HW9.out.block _ HC5.out.lt).trans HC5.out)
       have HR9 := Lib.hid (HR5.out.ex HW9.out)
       obtain ⟨a9, c9, rfl, hc9, hr9, _⟩ := hown9.reads
       rw [HL2.out] at hc9 ⊢
       have HRR := Lib.hid hr9
       have HCC := Lib.hid hc9
       clear hown9 hgrow9 hat9 hc9 hr9)
    | (go_at_call 7; (with_reducible refine (HT2.out _ _ _ HCC.out HRR.out).mono ?_); rintro e w10 ⟨rfl, hw10⟩; have HX10 := HX9.out.trans hw10))
  go_ret
  exact ⟨rfl, HX9.out.trans hw10⟩

set_option maxRecDepth 100000 in
set_option maxHeartbeats 1000000 in
theorem pointsMore_there (p : Int) (l : List (Int × Int)) (F : List Int) (x : Int) (a : Option Addr) (cap L : Nat) (w : World) (hL : l.length = L) (hcap : L ≤ cap) (hr : ReadsR w a l) (hnil : a = none → l = [] ∧ cap = 0) (h : ptE p l = 0) (hF : IsTh p l l.length F) (h12 : L < 12) (hh : hasP l (x % p) = true) :
    Calls Try.prog 6 #[.int .i64 p, .slice a L cap, .int .i64 x] w (Says (.bool true) w) := by
  obtain ⟨hp, p9, l12, hP⟩ := ptE_zero.mp h
  have p2 := hp.1
  have lF := hF.2.1
  have HLL := Lib.hid hL
  have HT := Lib.hid fun w2 (hx : Ex w w2) => through_ok p l F a cap w2 (by omega) (hr.ex hx) h hF
  obtain ⟨X, hX⟩ : ∃ X, x % p = X := ⟨_, rfl⟩
  have HA := Lib.hid fun w2 (hx : Ex w w2) => ptAt_ok p l F X a cap w2 (by omega) (hr.ex hx) h hF
  obtain ⟨y, hy⟩ : ∃ y, ev F X % p = y := ⟨_, rfl⟩
  rw [hy] at HA
  have HWI := Lib.hid fun w2 => within_any x p w2 (by omega) (by omega)
  rw [hX] at HWI
  have x0 : 0 ≤ X := by rw [← hX]; exact Int.emod_nonneg _ (by omega)
  have x1 : X < p := by rw [← hX]; exact Int.emod_lt_of_pos _ (by omega)
  have y0 : 0 ≤ y := by rw [← hy]; exact Int.emod_nonneg _ (by omega)
  have y1 : y < p := by rw [← hy]; exact Int.emod_lt_of_pos _ (by omega)
  have HLI := Lib.hid lines_yes
  have HCL := Lib.hid fun w2 (hx : Ex w w2) => clone_points l a cap w2 (by omega) (hr.ex hx) hnil
  have HRV := Lib.hid fun (v : Value) (base : Nat) w2 (hx : RowR 33 w2 base v l) => reverse_points 33 base v l w2 hx (by omega)
  have HL2 : Hid ((l.reverse ++ [(X, y)]).length = L + 1) := Lib.hid (by simp [hL])
  obtain ⟨N, hN⟩ : ∃ N, F.length = N := ⟨_, rfl⟩
  rw [hN] at HT lF
  rw [hL] at HT HA HCL lF
  rw [hX] at hh
  have hE := more_there (q := (X, y)) h (by omega) ⟨x0, x1⟩ ⟨y0, y1⟩ hh
  have HT2 : Hid (∀ (w2 : World) (b : Option Addr) (c : Nat), L + 1 ≤ c → ReadsR w2 b (l.reverse ++ [(X, y)]) → Calls Try.prog 7 #[.int .i64 p, .slice b (L + 1) c] w2 (Says (.tuple #[.slice none 0 0, .int .i64 6]) w2)) := Lib.hid fun w2 b c hc hrb => by
    have := through_no p (l.reverse ++ [(X, y)]) b c w2 (by rw [HL2.out]; exact hc) (by rw [HL2.out]; omega) hrb (by rw [hE]; decide)
    rw [HL2.out, hE] at this
    exact this
  have hany := more_any h hF hy.symm hh
  have HCF : Hid (∀ (w2 : World) (b : Nat), Ex w w2 → Boxed w2 w.heap.size 3 (.int .i64 X) → Boxed w2 b 3 (.int .i64 y) → Calls Try.prog 25 #[.slice a L cap, .func (.func 26) #[] #[.pointer (some ⟨w.heap.size, 0, none⟩), .pointer (some ⟨b, 0, none⟩)]] w2 (Says (.bool true) w2)) := Lib.hid fun w2 b hx h1 h2 => by
    have := points_contains 26 #[.pointer (some ⟨w.heap.size, 0, none⟩), .pointer (some ⟨b, 0, none⟩)] (fun a => a.1 == X && a.2 == y) l a cap w2 (by omega) (hr.ex hx) entered_more (fun q _ w3 hx3 => moreOne_any q.1 q.2 X y _ _ w3 (hx3.cell h1.cell) (hx3.cell h2.cell))
    rw [hany, hL] at this
    exact this
  have hlb : ((L : Int) == 12) = false := by simp; omega
  clear hr h hF hP hX hy hN hE hp hnil hL l12 hh hany
  have HX0 := Lib.hid ((Ex.refl w).alloc (.cells #[.int .i64 x] 3))
  have HB0 := Lib.hid (Boxed.new w 3 (.int .i64 x))
  go_enter Try.func6, Try.ntmps6
  go_wp2_with (first
    | (go_at_call 14; (with_reducible refine (HLI.out _).mono ?_); rintro e w1 ⟨rfl, hw1⟩
       have HX1 := Lib.hid (HX0.out.trans hw1)
       have HB1 : Hid (Boxed w1 w.heap.size 3 (.int .i64 x)) := Lib.hid ((hw1.block _ HB0.out.lt).trans HB0.out)
       clear hw1)
    | (go_at_call 7; (with_reducible refine (HT.out _ HX1.out).mono ?_); rintro e w2 ⟨b2, d2, rfl, hrow2, hr2, hn2, hw2⟩
       have HX2 := Lib.hid (HX1.out.trans hw2)
       have HB2 : Hid (Boxed w2 w.heap.size 3 (.int .i64 x)) := Lib.hid ((hw2.block _ HB1.out.lt).trans HB1.out)
       have c2 := HB2.out.cell
       have f2 := HB2.out.frozen
       have HX3 := Lib.hid (HX2.out.setCell (p := ⟨w.heap.size, 0, none⟩) (Nat.le_refl _) (.int .i64 X))
       have HB3 := Lib.hid (HB2.out.set (.int .i64 X))
       have c3 := HB3.out.cell
       have HR3 := Lib.hid (row_past hrow2.out HB1.out.lt (.int .i64 X)).read
       clear hw2 hr2 hrow2)
    | (go_at_call 19; (with_reducible refine (HWI.out _).mono ?_); rintro e w' ⟨rfl, rfl⟩)
    | (go_at_call 8; (with_reducible refine (HA.out _ HX3.out).mono ?_); rintro e w4 ⟨rfl, hw4⟩
       have HX5 := Lib.hid ((HX3.out.trans hw4).alloc (.cells #[.int .i64 y] 3))
       have HB5 : Hid (Boxed (w4.alloc (.cells #[.int .i64 y] 3)) w.heap.size 3 (.int .i64 X)) := Lib.hid (Boxed.alloc ((hw4.block _ HB3.out.lt).trans HB3.out) _)
       have HC5 := Lib.hid (Boxed.new w4 3 (.int .i64 y))
       have HR5 := Lib.hid ((HR3.out.ex hw4).ex ((Ex.refl w4).alloc (.cells #[.int .i64 y] 3)))
       clear hw4)
    | (go_at_call 23; (with_reducible refine (HCL.out _ HX5.out).mono ?_); rintro e w6 ⟨v6, rfl, hrow6, hw6⟩
       have HW6 := Lib.hid hw6
       clear hw6)
    | (go_at_call 24; (with_reducible refine (HRV.out _ _ _ hrow6.out).mono ?_); rintro e w7 ⟨rfl, hrow7, hgrow7⟩
       have HW7 := Lib.hid (RowR.grown hrow6.out HW6.out hgrow7)
       have HB7 : Hid (Boxed w7 w.heap.size 3 (.int .i64 X)) := Lib.hid ((HW7.out.block _ HB5.out.lt).trans HB5.out)
       have HC7 : Hid (Boxed w7 w4.heap.size 3 (.int .i64 y)) := Lib.hid ((HW7.out.block _ HC5.out.lt).trans HC5.out)
       have c71 := HB7.out.cell
       have c72 := HC7.out.cell
       have HW8 := Lib.hid (HW7.out.alloc (.cells #[.int .i64 X, .int .i64 y] 33))
       have HR8 := Lib.hid (RowR.ex hrow7 ((Ex.refl w7).alloc (.cells #[.int .i64 X, .int .i64 y] 33)))
       clear hrow7 hgrow7)
    | (at_builtin; refine wpList_append_pair rfl _ _ 22 rfl _ 33 Try.underlying22 info_pt _ l.reverse rfl HR8.out (X, y) w7.heap.size rfl (by simp) (by simp) (by rw [List.length_reverse, HLL.out]; unfold maxLen; omega) (by rw [List.length_reverse, HLL.out]; omega) HW8.out.size ?_; intro v9 w9 hown9 hgrow9 hat9
       have HW9 := Lib.hid (RowR.grown HR8.out HW8.out hgrow9)
       have HX9 := Lib.hid (HX5.out.trans HW9.out)
       have HB9 : Hid (Boxed w9 w.heap.size 3 (.int .i64 X)) := Lib.hid ((HW9.out.block _ HB5.out.lt).trans HB5.out)
       have HC9 : Hid (Boxed w9 w4.heap.size 3 (.int .i64 y)) := Lib.hid ((HW9.out.block _ HC5.out.lt).trans HC5.out)
       have HR9 := Lib.hid (HR5.out.ex HW9.out)
       obtain ⟨a9, c9, rfl, hc9, hr9, _⟩ := hown9.reads
       rw [HL2.out] at hc9 ⊢
       have HRR := Lib.hid hr9
       have HCC := Lib.hid hc9
       clear hown9 hgrow9 hat9 hc9 hr9)
    | (go_at_call 7; (with_reducible refine (HT2.out _ _ _ HCC.out HRR.out).mono ?_); rintro e w10 ⟨rfl, hw10⟩; have HX10 := Lib.hid (HX9.out.trans hw10); have HB10 : Hid (Boxed w10 w.heap.size 3 (.int .i64 X)) := Lib.hid ((hw10.block _ HB9.out.lt).trans HB9.out); have HC10 : Hid (Boxed w10 w4.heap.size 3 (.int .i64 y)) := Lib.hid ((hw10.block _ HC9.out.lt).trans HC9.out)) | (go_at_call 25; (with_reducible refine (HCF.out _ _ HX10.out HB10.out HC10.out).mono ?_); rintro e w11 ⟨rfl, hw11⟩))
  go_ret
  exact ⟨rfl, HX10.out.trans hw11⟩

set_option maxRecDepth 100000 in
set_option maxHeartbeats 1000000 in
theorem pointsMore_new (p : Int) (l : List (Int × Int)) (F : List Int) (x : Int) (a : Option Addr) (cap L : Nat) (w : World) (hL : l.length = L) (hcap : L ≤ cap) (hr : ReadsR w a l) (hnil : a = none → l = [] ∧ cap = 0) (h : ptE p l = 0) (hF : IsTh p l l.length F) (h12 : L < 12) (hh : hasP l (x % p) = false) :
    Calls Try.prog 6 #[.int .i64 p, .slice a L cap, .int .i64 x] w (Says (.bool true) w) := by
  obtain ⟨hp, p9, l12, hP⟩ := ptE_zero.mp h
  have p2 := hp.1
  have lF := hF.2.1
  have HLL := Lib.hid hL
  have HT := Lib.hid fun w2 (hx : Ex w w2) => through_ok p l F a cap w2 (by omega) (hr.ex hx) h hF
  obtain ⟨X, hX⟩ : ∃ X, x % p = X := ⟨_, rfl⟩
  have HA := Lib.hid fun w2 (hx : Ex w w2) => ptAt_ok p l F X a cap w2 (by omega) (hr.ex hx) h hF
  obtain ⟨y, hy⟩ : ∃ y, ev F X % p = y := ⟨_, rfl⟩
  rw [hy] at HA
  have HWI := Lib.hid fun w2 => within_any x p w2 (by omega) (by omega)
  rw [hX] at HWI
  have x0 : 0 ≤ X := by rw [← hX]; exact Int.emod_nonneg _ (by omega)
  have x1 : X < p := by rw [← hX]; exact Int.emod_lt_of_pos _ (by omega)
  have y0 : 0 ≤ y := by rw [← hy]; exact Int.emod_nonneg _ (by omega)
  have y1 : y < p := by rw [← hy]; exact Int.emod_lt_of_pos _ (by omega)
  have HLI := Lib.hid lines_yes
  have HCL := Lib.hid fun w2 (hx : Ex w w2) => clone_points l a cap w2 (by omega) (hr.ex hx) hnil
  have HRV := Lib.hid fun (v : Value) (base : Nat) w2 (hx : RowR 33 w2 base v l) => reverse_points 33 base v l w2 hx (by omega)
  have HL2 : Hid ((l.reverse ++ [(X, y)]).length = L + 1) := Lib.hid (by simp [hL])
  obtain ⟨N, hN⟩ : ∃ N, F.length = N := ⟨_, rfl⟩
  rw [hN] at HT lF
  rw [hL] at HT HA HCL lF
  rw [hX] at hh
  obtain ⟨hE, hF2⟩ := more_ok (q := (X, y)) h hF (by omega) ⟨x0, x1⟩ hy.symm hh
  have HT2 : Hid (∀ (w2 : World) (b : Option Addr) (c : Nat), L + 1 ≤ c → ReadsR w2 b (l.reverse ++ [(X, y)]) → Calls Try.prog 7 #[.int .i64 p, .slice b (L + 1) c] w2 (Rowd F N w2)) := Lib.hid fun w2 b c hc hrb => by
    have := through_ok p (l.reverse ++ [(X, y)]) F b c w2 (by rw [HL2.out]; exact hc) hrb hE hF2
    rw [HL2.out, hN] at this
    exact this
  have HQ := Lib.hid (eqS hN (by omega))
  have hlb : ((L : Int) == 12) = false := by simp; omega
  clear hr h hF hP hX hy hN hE hp hnil hL l12 hh hF2
  have HX0 := Lib.hid ((Ex.refl w).alloc (.cells #[.int .i64 x] 3))
  have HB0 := Lib.hid (Boxed.new w 3 (.int .i64 x))
  go_enter Try.func6, Try.ntmps6
  go_wp2_with (first
    | (go_at_call 14; (with_reducible refine (HLI.out _).mono ?_); rintro e w1 ⟨rfl, hw1⟩
       have HX1 := Lib.hid (HX0.out.trans hw1)
       have HB1 : Hid (Boxed w1 w.heap.size 3 (.int .i64 x)) := Lib.hid ((hw1.block _ HB0.out.lt).trans HB0.out)
       clear hw1)
    | (go_at_call 7; (with_reducible refine (HT.out _ HX1.out).mono ?_); rintro e w2 ⟨b2, d2, rfl, hrow2, hr2, hn2, hw2⟩
       have HX2 := Lib.hid (HX1.out.trans hw2)
       have HB2 : Hid (Boxed w2 w.heap.size 3 (.int .i64 x)) := Lib.hid ((hw2.block _ HB1.out.lt).trans HB1.out)
       have c2 := HB2.out.cell
       have f2 := HB2.out.frozen
       have HX3 := Lib.hid (HX2.out.setCell (p := ⟨w.heap.size, 0, none⟩) (Nat.le_refl _) (.int .i64 X))
       have HB3 := Lib.hid (HB2.out.set (.int .i64 X))
       have c3 := HB3.out.cell
       have HR3 := Lib.hid (row_past hrow2.out HB1.out.lt (.int .i64 X)).read
       clear hw2 hr2 hrow2)
    | (go_at_call 19; (with_reducible refine (HWI.out _).mono ?_); rintro e w' ⟨rfl, rfl⟩)
    | (go_at_call 8; (with_reducible refine (HA.out _ HX3.out).mono ?_); rintro e w4 ⟨rfl, hw4⟩
       have HX5 := Lib.hid ((HX3.out.trans hw4).alloc (.cells #[.int .i64 y] 3))
       have HB5 : Hid (Boxed (w4.alloc (.cells #[.int .i64 y] 3)) w.heap.size 3 (.int .i64 X)) := Lib.hid (Boxed.alloc ((hw4.block _ HB3.out.lt).trans HB3.out) _)
       have HC5 := Lib.hid (Boxed.new w4 3 (.int .i64 y))
       have HR5 := Lib.hid ((HR3.out.ex hw4).ex ((Ex.refl w4).alloc (.cells #[.int .i64 y] 3)))
       clear hw4)
    | (go_at_call 23; (with_reducible refine (HCL.out _ HX5.out).mono ?_); rintro e w6 ⟨v6, rfl, hrow6, hw6⟩
       have HW6 := Lib.hid hw6
       clear hw6)
    | (go_at_call 24; (with_reducible refine (HRV.out _ _ _ hrow6.out).mono ?_); rintro e w7 ⟨rfl, hrow7, hgrow7⟩
       have HW7 := Lib.hid (RowR.grown hrow6.out HW6.out hgrow7)
       have HB7 : Hid (Boxed w7 w.heap.size 3 (.int .i64 X)) := Lib.hid ((HW7.out.block _ HB5.out.lt).trans HB5.out)
       have HC7 : Hid (Boxed w7 w4.heap.size 3 (.int .i64 y)) := Lib.hid ((HW7.out.block _ HC5.out.lt).trans HC5.out)
       have c71 := HB7.out.cell
       have c72 := HC7.out.cell
       have HW8 := Lib.hid (HW7.out.alloc (.cells #[.int .i64 X, .int .i64 y] 33))
       have HR8 := Lib.hid (RowR.ex hrow7 ((Ex.refl w7).alloc (.cells #[.int .i64 X, .int .i64 y] 33)))
       clear hrow7 hgrow7)
    | (at_builtin; refine wpList_append_pair rfl _ _ 22 rfl _ 33 Try.underlying22 info_pt _ l.reverse rfl HR8.out (X, y) w7.heap.size rfl (by simp) (by simp) (by rw [List.length_reverse, HLL.out]; unfold maxLen; omega) (by rw [List.length_reverse, HLL.out]; omega) HW8.out.size ?_; intro v9 w9 hown9 hgrow9 hat9
       have HW9 := Lib.hid (RowR.grown HR8.out HW8.out hgrow9)
       have HX9 := Lib.hid (HX5.out.trans HW9.out)
       have HB9 : Hid (Boxed w9 w.heap.size 3 (.int .i64 X)) := Lib.hid ((HW9.out.block _ HB5.out.lt).trans HB5.out)
       have HC9 : Hid (Boxed w9 w4.heap.size 3 (.int .i64 y)) := Lib.hid ((HW9.out.block _ HC5.out.lt).trans HC5.out)
       have HR9 := Lib.hid (HR5.out.ex HW9.out)
       obtain ⟨a9, c9, rfl, hc9, hr9, _⟩ := hown9.reads
       rw [HL2.out] at hc9 ⊢
       have HRR := Lib.hid hr9
       have HCC := Lib.hid hc9
       clear hown9 hgrow9 hat9 hc9 hr9)
    | (go_at_call 7; (with_reducible refine (HT2.out _ _ _ HCC.out HRR.out).mono ?_); rintro e w10 ⟨b10, d10, rfl, _, hr10, _, hw10⟩; have HX10 := Lib.hid (HX9.out.trans hw10); have HR10 := Lib.hid (HR9.out.ex hw10)) | (go_at_call 20; (with_reducible refine (HQ.out _ _ _ _ _ HR10.out hr10.out).mono ?_); rintro e w11 ⟨rfl, hw11⟩))
  go_ret
  exact ⟨rfl, HX10.out.trans hw11⟩

theorem pointsMore_walk (p : Int) (a : Option Addr) (len cap : Nat) (l : List (Int × Int)) (x : Int) (w : World) (_ : I64 p) (hz : IsPairs w a len cap l) (_ : I64 x) :
    Calls Try.prog 6 #[.int .i64 p, .slice a len cap, .int .i64 x] w (Says (.bool true) w) := by
  obtain ⟨hL, hl, hcap, hr, hnil, _⟩ := hz
  by_cases h : ptE p l = 0
  · obtain ⟨hp, _, l12, hP⟩ := ptE_zero.mp h
    obtain ⟨F, hF⟩ := isTh_some hp hP
    have hnil2 : a = none → l = [] ∧ cap = 0 := fun e => ⟨List.length_eq_zero_iff.mp (by have := hnil e; omega), hnil e⟩
    by_cases h12 : len = 12
    · exact pointsMore_large p l F x a cap len w hL hl hr hnil2 h hF h12
    · cases hh : hasP l (x % p)
      · exact pointsMore_new p l F x a cap len w hL hl hr hnil2 h hF (by omega) hh
      · exact pointsMore_there p l F x a cap len w hL hl hr hnil2 h hF (by omega) hh
  · subst hL
    exact pointsMore_no p l x a cap w hl (by omega) hr h

end Go.Proofs.Ytfdhhiibhkepaaa
