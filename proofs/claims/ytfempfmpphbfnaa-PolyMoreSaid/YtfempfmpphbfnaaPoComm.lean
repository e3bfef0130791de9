/-
  PolyCommon, walked.
-/
import Derived.Test.YtfempfmpphbfnaaPoTool
namespace Go.Proofs.Ytfempfmpphbfnaa
open Go.RowKit
open Pr Po

theorem isG_cg {p : Int} {d f g f' g' : List Int} (h : IsG p d f g) (k1 : Cg p f f') (k2 : Cg p g g') : IsG p d f' g' := by
  obtain ⟨u, v, hb⟩ := h.bez
  exact ⟨h.mon, h.l.cg k1, h.r.cg k2, ⟨u, v, ((Cg.mul_right u k1.symm).add (Cg.mul_right v k2.symm)).trans hb⟩⟩

theorem di_dv {p : Int} {d f : List Int} (hp : 0 < p) (h : Di p d f) (hd : d ≠ []) : ∃ q, IsDv p f d q [] := by
  obtain ⟨q, hq⟩ := h
  refine ⟨red p q, can_red hp q, Can.nil p, List.length_pos_iff.mpr hd, (Cg.of_eq fun i => ?_).trans (((cg_red p q).mul (Cg.refl p d)).trans hq)⟩
  rw [c_add, c_nil, Int.add_zero]

theorem di_nil {p : Int} {f : List Int} (hp : 0 < p) (hf : Po.Can p f) (h : Di p [] f) : f = [] := by
  obtain ⟨q, hq⟩ := h
  refine hf.ext hp (Can.nil p) ((hq.symm).trans (Cg.of_eq fun i => ?_))
  rw [c_mul_nil_right, c_nil]

theorem isG_len {p : Int} {d f g : List Int} (hp : Prm p) (hf : Po.Can p f) (hg : Po.Can p g) (h : IsG p d f g) : d.length ≤ max f.length g.length := by
  by_cases h0 : f = []
  · by_cases h1 : g = []
    · subst h0 h1
      rw [h.zero hp]
      simp
    · obtain ⟨q, _, q2, _, _, q5⟩ := h.r.length hp h.mon.1 hg h1
      have := List.length_pos_iff.mpr q2
      omega
  · obtain ⟨q, _, q2, _, _, q5⟩ := h.l.length hp h.mon.1 hf h0
    have := List.length_pos_iff.mpr q2
    omega

/-- A division with nothing left. -/
theorem divZ {p : Int} (hp : Prm p) (p9 : p ≤ 997) {F G : List Int} {L M : Nat} (hF : Po.Can p F) (hG : Po.Can p G) (hL : F.length = L) (hM : G.length = M) (hm : L ≤ 40 ∧ M ≤ 40) (h0 : M ≠ 0) (hd : Di p G F) :
    ∃ (Q : List Int) (N : Nat), Q.length = N ∧
      ∀ (w : World) (a b : Option Addr) (ca cb : Nat), Reads w .i64 a F → (a = none → ca = 0) → Reads w .i64 b G → Calls Try.prog 13 #[.int .i64 p, .slice a L ca, .slice b M cb] w (Slc2 Q [] N 0 w) := by
  have p2 := hp.1
  have hg0 : G ≠ [] := fun h => h0 (by rw [← hM, h]; rfl)
  obtain ⟨q, hD⟩ := di_dv (by omega) hd hg0
  exact ⟨q, _, rfl, fun w a b ca cb hr hn hr2 => divS hp p9 hF hG hL hM hm.1 hm.2 hg0 hD rfl rfl w a b ca cb hr hn hr2⟩

theorem last_cell {w : World} {b : Option Addr} {D : List Int} {E : Nat} {y : Int} (h : Reads w .i64 b D) (hl : D.length = E + 1) (hy : nth D E = y) : ∃ g o, b = some ⟨g, o, none⟩ ∧ w.cell? ⟨g, o + E, none⟩ = some (.int .i64 y) := by
  rcases h with h | ⟨g, o, h1, h2⟩
  · rw [h] at hl; simp at hl
  · exact ⟨g, o, h1, by rw [← hy]; exact h2 E (by omega)⟩

theorem isG_lit : IsG 5 [1, 1] [4, 0, 1] [1, 1] := by
  refine ⟨⟨⟨by decide, fun _ => by decide⟩, fun _ => by decide⟩, ⟨[4, 1], fun i => ?_⟩, Di.self _ _, ⟨[], [1], Cg.of_eq fun i => ?_⟩⟩
  · match i with
    | 0 => decide
    | 1 => decide
    | 2 => decide
    | i + 3 => exact ⟨0, rfl⟩
  · rw [c_add, c_mul_nil, one_mul, Int.zero_add]

theorem gcd_lit (w : World) : Calls Try.prog 23 #[.int .i64 5, .slice (some ⟨w.heap.size, 0, none⟩) 3 3, .slice (some ⟨w.heap.size + 1, 0, none⟩) 2 2] ((w.alloc (.cells #[.int .i64 4, .int .i64 0, .int .i64 1] 3)).alloc (.cells #[.int .i64 1, .int .i64 1] 3))
    (Slc [1, 1] 2 ((w.alloc (.cells #[.int .i64 4, .int .i64 0, .int .i64 1] 3)).alloc (.cells #[.int .i64 1, .int .i64 1] 3))) := by
  have h1 := (reads_new .i64 [4, 0, 1] #[.int .i64 4, .int .i64 0, .int .i64 1] rfl 3 w).ex ((Ex.refl _).alloc (.cells #[.int .i64 1, .int .i64 1] 3))
  have h2 := reads_new .i64 [1, 1] #[.int .i64 1, .int .i64 1] rfl 3 (w.alloc (.cells #[.int .i64 4, .int .i64 0, .int .i64 1] 3))
  rw [World.size_alloc] at h2
  exact (pgcd_ok 5 [4, 0, 1] [1, 1] _ _ 3 2 _ h1 (by intro h; cases h) h2 (by intro h; cases h) (both_can ((pb_iff 5).mp (by decide)) (by omega) ⟨by decide, fun _ => by decide⟩ ⟨by decide, fun _ => by decide⟩ (by decide) (by decide)) [1, 1] isG_lit).mono fun e w3 k => Rowed.slc k rfl

theorem good2z (T : TypeId) (w : World) : Calls Try.prog 30 #[.slice (some ⟨w.heap.size, 0, none⟩) 2 2] (w.alloc (.cells #[.int .i64 0, .int .i64 0] T)) (Says (.bool true) w) := good_zeros 2 (by omega) _ rfl T w
theorem good3z (T : TypeId) (w : World) : Calls Try.prog 30 #[.slice (some ⟨w.heap.size, 0, none⟩) 3 3] (w.alloc (.cells #[.int .i64 0, .int .i64 0, .int .i64 0] T)) (Says (.bool true) w) := good_zeros 3 (by omega) _ rfl T w

set_option maxRecDepth 100000 in
set_option maxHeartbeats 1000000 in
theorem polyCommon_walk (n : Int) (a1 : Option Addr) (l1 c1 : Nat) (z1 : List Int) (a2 : Option Addr) (l2 c2 : Nat) (z2 : List Int) (a3 : Option Addr) (l3 c3 : Nat) (z3 : List Int) (w : World)
    (_ : I64 n) (h1 : IsInts .i64 8 w a1 l1 c1 z1) (h2 : IsInts .i64 8 w a2 l2 c2 z2) (h3 : IsInts .i64 8 w a3 l3 c3 z3) :
    Calls Try.prog 9 #[.int .i64 n, .slice a1 l1 c1, .slice a2 l2 c2, .slice a3 l3 c3] w (Says (.bool true) w) := by
  obtain ⟨p, hp, p9, hfo⟩ := fieldOf_some n
  have p2 := hp.1
  obtain ⟨F, LF, lF, mF, cF, hF⟩ := polyL hp p9 15 15 rfl (by omega) h1
  obtain ⟨G, LG, lG, mG, cG, hG⟩ := polyL hp p9 15 15 rfl (by omega) h2
  obtain ⟨H, LH, lH, mH, cH, hH⟩ := polyL hp p9 8 8 rfl (by omega) h3
  obtain ⟨D, ND, gD, lD, hGD⟩ := gcdL hp p9 cF cG lF lG (by omega)
  have HGL := Lib.hid gcd_lit
  have HE2 : Hid (∀ (w : World) (a b : Option Addr) (ca cb : Nat), Reads w .i64 a [1, 1] → Reads w .i64 b [1, 1] → Calls Try.prog 31 #[.slice a 2 ca, .slice b 2 cb] w (Says (.bool true) w)) := Lib.hid (eqS rfl (by omega))
  have HPO := Lib.hid polys_yes
  have HFO := Lib.hid hfo
  have HF := Lib.hid hF
  have HG := Lib.hid hG
  have HH := Lib.hid hH
  have HGD := Lib.hid hGD
  by_cases h0 : ND = 0
  · have e0 : D = [] := List.length_eq_zero_iff.mp (by omega)
    subst e0
    obtain rfl := di_nil (by omega) cF gD.l
    obtain rfl := di_nil (by omega) cG gD.r
    obtain rfl : LF = 0 := by rw [← lF]; rfl
    obtain rfl : LG = 0 := by rw [← lG]; rfl
    subst h0
    clear h1 h2 h3 hfo hF hG hH hGD hp cF cG cH gD lF lG lH lD
    go_enter Try.func9, Try.ntmps9
    go_wp2_with (first
      | (go_at_call 23; (with_reducible refine (HGL.out _).mono ?_); rintro e w0 ⟨b0, d0, rfl, hr0, hn0, hw0⟩
         have hx0 : Ex w w0 := ((Ex.refl w).alloc _).alloc _ |>.trans hw0
         have HR1 := Lib.hid (hr0.out.ex ((Ex.refl w0).alloc (.cells #[.int .i64 1, .int .i64 1] 3)))
         have HR2 : Hid (Reads (w0.alloc (.cells #[.int .i64 1, .int .i64 1] 3)) .i64 (some ⟨w0.heap.size, 0, none⟩) [1, 1]) := Lib.hid (reads_new .i64 [1, 1] _ rfl _ _)
         have hx1 := hx0.alloc (.cells #[.int .i64 1, .int .i64 1] 3)
         clear hr0 hw0 hx0 hn0)
      | (go_at_call 31; (with_reducible refine (HE2.out _ _ _ _ _ HR1.out HR2.out).mono ?_); rintro e w1 ⟨rfl, hw1⟩)
      | (go_at_call 27; (with_reducible refine (HPO.out _).mono ?_); rintro e w1 ⟨rfl, hw2⟩)
      | (go_at_call 28; (with_reducible refine (HFO.out _).mono ?_); rintro e w2 ⟨rfl, hw3⟩)
      | (go_at_call 29; (with_reducible refine (HF.out _ (by repeat (first | assumption | exact Ex.refl _ | refine Ex.trans ?_ (by assumption)))).mono ?_); rintro e w3 ⟨b3, d3, rfl, hr3, hn3, hw4⟩)
      | (go_at_call 29; (with_reducible refine (HG.out _ (by repeat (first | assumption | exact Ex.refl _ | refine Ex.trans ?_ (by assumption)))).mono ?_); rintro e w4 ⟨b4, d4, rfl, hr4, hn4, hw5⟩)
      | (go_at_call 29; (with_reducible refine (HH.out _ (by repeat (first | assumption | exact Ex.refl _ | refine Ex.trans ?_ (by assumption)))).mono ?_); rintro e w5 ⟨b5, d5, rfl, hr5, hn5, hw6⟩)
      | (go_at_call 23; (with_reducible refine (HGD.out _ _ _ _ _ (hr3.out.ex (by repeat (first | assumption | exact Ex.refl _ | refine Ex.trans ?_ (by assumption)))) hn3.out (hr4.out.ex (by repeat (first | assumption | exact Ex.refl _ | refine Ex.trans ?_ (by assumption)))) hn4.out).mono ?_); rintro e w6 ⟨b6, d6, rfl, hr6, hn6, hw7⟩)
      | (fail))
    go_ret
    exact ⟨rfl, (by repeat (first | assumption | exact Ex.refl _ | refine Ex.trans ?_ (by assumption)))⟩
  obtain ⟨E, rfl⟩ : ∃ E, ND = E + 1 := ⟨ND - 1, by omega⟩
  have hd0 : D ≠ [] := fun h => by rw [h] at lD; simp at lD
  have hDl := isG_len hp cF cG gD
  obtain ⟨Q1, N1, n1, hD1⟩ := divZ hp p9 cF gD.mon.1 lF lD (by omega) (by omega) gD.l
  obtain ⟨Q2, N2, n2, hD2⟩ := divZ hp p9 cG gD.mon.1 lG lD (by omega) (by omega) gD.r
  obtain ⟨X, N3, e3, n3, m3, k3, y3, _, hX⟩ := mulL hp p9 cF cH lF lH (by omega)
  obtain ⟨Y, N4, e4, n4, m4, k4, y4, _, hY⟩ := mulL hp p9 cG cH lG lH (by omega)
  obtain ⟨Z, NZ, gZ, lZ, hGZ⟩ := gcdL hp p9 k3 k4 n3 n4 (by omega)
  have hlast : nth D E = 1 := by
    have := gD.mon.2 hd0
    rwa [lD, Nat.add_sub_cancel] at this
  have HLC := Lib.hid fun (w2 : World) (b : Option Addr) (h : Reads w2 .i64 b D) => last_cell h lD hlast
  have HD1 := Lib.hid hD1
  have HD2 := Lib.hid hD2
  have HX := Lib.hid hX
  have HY := Lib.hid hY
  have HGZ := Lib.hid hGZ
  have hb0 : ((E : Int) + 1 == 0) = false := by simp; omega
  have mE : E ≤ 14 := by omega
  by_cases h5 : LH = 0
  · obtain rfl : X = [] := List.length_eq_zero_iff.mp (by rw [n3]; exact y3 (.inr h5))
    obtain rfl : Y = [] := List.length_eq_zero_iff.mp (by rw [n4]; exact y4 (.inr h5))
    obtain rfl := gZ.zero hp
    obtain rfl : NZ = 0 := by rw [← lZ]; rfl
    subst h5
    clear h1 h2 h3 hfo hF hG hH hGD hp cF cG cH gD lF lG lH lD hd0 hlast hD1 hD2 hX hY hGZ gZ lZ n3 n4 e3 e4 k3 k4 y3 y4 h0 hDl n1 n2 m3 m4
    go_enter Try.func9, Try.ntmps9
    go_wp2_with (first
      | (go_at_call 23; (with_reducible refine (HGL.out _).mono ?_); rintro e w0 ⟨b0, d0, rfl, hr0, hn0, hw0⟩
         have hx0 : Ex w w0 := ((Ex.refl w).alloc _).alloc _ |>.trans hw0
         have HR1 := Lib.hid (hr0.out.ex ((Ex.refl w0).alloc (.cells #[.int .i64 1, .int .i64 1] 3)))
         have HR2 : Hid (Reads (w0.alloc (.cells #[.int .i64 1, .int .i64 1] 3)) .i64 (some ⟨w0.heap.size, 0, none⟩) [1, 1]) := Lib.hid (reads_new .i64 [1, 1] _ rfl _ _)
         have hx1 := hx0.alloc (.cells #[.int .i64 1, .int .i64 1] 3)
         clear hr0 hw0 hx0 hn0)
      | (go_at_call 31; (with_reducible refine (HE2.out _ _ _ _ _ HR1.out HR2.out).mono ?_); rintro e w1 ⟨rfl, hw1⟩)
      | (go_at_call 27; (with_reducible refine (HPO.out _).mono ?_); rintro e w1 ⟨rfl, hw2⟩)
      | (go_at_call 28; (with_reducible refine (HFO.out _).mono ?_); rintro e w2 ⟨rfl, hw3⟩)
      | (go_at_call 29; (with_reducible refine (HF.out _ (by repeat (first | assumption | exact Ex.refl _ | refine Ex.trans ?_ (by assumption)))).mono ?_); rintro e w3 ⟨b3, d3, rfl, hr3, hn3, hw4⟩)
      | (go_at_call 29; (with_reducible refine (HG.out _ (by repeat (first | assumption | exact Ex.refl _ | refine Ex.trans ?_ (by assumption)))).mono ?_); rintro e w4 ⟨b4, d4, rfl, hr4, hn4, hw5⟩)
      | (go_at_call 29; (with_reducible refine (HH.out _ (by repeat (first | assumption | exact Ex.refl _ | refine Ex.trans ?_ (by assumption)))).mono ?_); rintro e w5 ⟨b5, d5, rfl, hr5, hn5, hw6⟩)
      | (go_at_call 23; (with_reducible refine (HGD.out _ _ _ _ _ (hr3.out.ex (by repeat (first | assumption | exact Ex.refl _ | refine Ex.trans ?_ (by assumption)))) hn3.out (hr4.out.ex (by repeat (first | assumption | exact Ex.refl _ | refine Ex.trans ?_ (by assumption)))) hn4.out).mono ?_); rintro e w6 ⟨b6, d6, rfl, hr6, hn6, hw7⟩)
      | (go_at_call 13; (with_reducible refine (HD1.out _ _ _ _ _ (hr3.out.ex (by repeat (first | assumption | exact Ex.refl _ | refine Ex.trans ?_ (by assumption)))) hn3.out (hr6.out.ex (by repeat (first | assumption | exact Ex.refl _ | refine Ex.trans ?_ (by assumption))))).mono ?_); rintro e w7 ⟨b7, d7, b8, d8, rfl, _, _, _, _, hw8⟩) | (go_at_call 13; (with_reducible refine (HD2.out _ _ _ _ _ (hr4.out.ex (by repeat (first | assumption | exact Ex.refl _ | refine Ex.trans ?_ (by assumption)))) hn4.out (hr6.out.ex (by repeat (first | assumption | exact Ex.refl _ | refine Ex.trans ?_ (by assumption))))).mono ?_); rintro e w8 ⟨b9, d9, b10, d10, rfl, _, _, _, _, hw9⟩) | (go_at_call 30; (with_reducible refine (good2z _ _).mono ?_); rintro e w9 ⟨rfl, hw10⟩; have hg := HLC.out _ _ (hr6.out.ex (show Ex w6 w9 from (by repeat (first | assumption | exact Ex.refl _ | refine Ex.trans ?_ (by assumption))))); obtain ⟨g6, o6, hb6, hc6⟩ := hg; subst hb6) | (go_at_call 12; (with_reducible refine (HX.out _ _ _ _ _ (hr3.out.ex (by repeat (first | assumption | exact Ex.refl _ | refine Ex.trans ?_ (by assumption)))) (hr5.out.ex (by repeat (first | assumption | exact Ex.refl _ | refine Ex.trans ?_ (by assumption))))).mono ?_); rintro e w10 ⟨b11, d11, rfl, hr11, hn11, hw11⟩; clear hc6) | (go_at_call 12; (with_reducible refine (HY.out _ _ _ _ _ (hr4.out.ex (by repeat (first | assumption | exact Ex.refl _ | refine Ex.trans ?_ (by assumption)))) (hr5.out.ex (by repeat (first | assumption | exact Ex.refl _ | refine Ex.trans ?_ (by assumption))))).mono ?_); rintro e w11 ⟨b12, d12, rfl, hr12, hn12, hw12⟩) | (go_at_call 23; (with_reducible refine (HGZ.out _ _ _ _ _ (hr11.out.ex (by repeat (first | assumption | exact Ex.refl _ | refine Ex.trans ?_ (by assumption)))) hn11.out (hr12.out.ex (by repeat (first | assumption | exact Ex.refl _ | refine Ex.trans ?_ (by assumption)))) hn12.out).mono ?_); rintro e w12 ⟨b13, d13, rfl, hr13, hn13, hw13⟩) | (go_at_call 30; (with_reducible refine (good3z _ _).mono ?_); rintro e w13 ⟨rfl, hw14⟩))
    go_ret
    exact ⟨rfl, (by repeat (first | assumption | exact Ex.refl _ | refine Ex.trans ?_ (by assumption)))⟩
  · obtain ⟨T, rfl⟩ : ∃ T, LH = T + 1 := ⟨LH - 1, by omega⟩
    have hh0 : H ≠ [] := fun h => by rw [h] at lH; simp at lH
    have gZ2 : IsG p Z (mul F H) (mul G H) := isG_cg gZ (by rw [← e3]; exact cg_red p _) (by rw [← e4]; exact cg_red p _)
    obtain ⟨t1, t2, t3⟩ := gD.times hp cH hh0 hd0 gZ2
    have hz : ((NZ : Int) == (E : Int) + 1 + ((T : Int) + 1) - 1) = true := by simp; omega
    obtain ⟨Q3, N5, n5, hD3⟩ := divZ hp p9 gZ.mon.1 cH lZ lH (by omega) (by omega) t1
    have HD3 := Lib.hid hD3
    have hb1 : ((T : Int) + 1 == 0) = false := by simp; omega
    clear h1 h2 h3 hfo hF hG hH hGD hp cF cG cH gD lF lG lH lD hd0 hlast hD1 hD2 hX hY hGZ gZ lZ n3 n4 e3 e4 k3 k4 y3 y4 h0 hDl n1 n2 m3 m4 h5 hh0 gZ2 t1 t2 t3 hD3 n5
    go_enter Try.func9, Try.ntmps9
    go_wp2_with (first
      | (go_at_call 23; (with_reducible refine (HGL.out _).mono ?_); rintro e w0 ⟨b0, d0, rfl, hr0, hn0, hw0⟩
         have hx0 : Ex w w0 := ((Ex.refl w).alloc _).alloc _ |>.trans hw0
         have HR1 := Lib.hid (hr0.out.ex ((Ex.refl w0).alloc (.cells #[.int .i64 1, .int .i64 1] 3)))
         have HR2 : Hid (Reads (w0.alloc (.cells #[.int .i64 1, .int .i64 1] 3)) .i64 (some ⟨w0.heap.size, 0, none⟩) [1, 1]) := Lib.hid (reads_new .i64 [1, 1] _ rfl _ _)
         have hx1 := hx0.alloc (.cells #[.int .i64 1, .int .i64 1] 3)
         clear hr0 hw0 hx0 hn0)
      | (go_at_call 31; (with_reducible refine (HE2.out _ _ _ _ _ HR1.out HR2.out).mono ?_); rintro e w1 ⟨rfl, hw1⟩)
      | (go_at_call 27; (with_reducible refine (HPO.out _).mono ?_); rintro e w1 ⟨rfl, hw2⟩)
      | (go_at_call 28; (with_reducible refine (HFO.out _).mono ?_); rintro e w2 ⟨rfl, hw3⟩)
      | (go_at_call 29; (with_reducible refine (HF.out _ (by repeat (first | assumption | exact Ex.refl _ | refine Ex.trans ?_ (by assumption)))).mono ?_); rintro e w3 ⟨b3, d3, rfl, hr3, hn3, hw4⟩)
      | (go_at_call 29; (with_reducible refine (HG.out _ (by repeat (first | assumption | exact Ex.refl _ | refine Ex.trans ?_ (by assumption)))).mono ?_); rintro e w4 ⟨b4, d4, rfl, hr4, hn4, hw5⟩)
      | (go_at_call 29; (with_reducible refine (HH.out _ (by repeat (first | assumption | exact Ex.refl _ | refine Ex.trans ?_ (by assumption)))).mono ?_); rintro e w5 ⟨b5, d5, rfl, hr5, hn5, hw6⟩)
      | (go_at_call 23; (with_reducible refine (HGD.out _ _ _ _ _ (hr3.out.ex (by repeat (first | assumption | exact Ex.refl _ | refine Ex.trans ?_ (by assumption)))) hn3.out (hr4.out.ex (by repeat (first | assumption | exact Ex.refl _ | refine Ex.trans ?_ (by assumption)))) hn4.out).mono ?_); rintro e w6 ⟨b6, d6, rfl, hr6, hn6, hw7⟩)
      | (go_at_call 13; (with_reducible refine (HD1.out _ _ _ _ _ (hr3.out.ex (by repeat (first | assumption | exact Ex.refl _ | refine Ex.trans ?_ (by assumption)))) hn3.out (hr6.out.ex (by repeat (first | assumption | exact Ex.refl _ | refine Ex.trans ?_ (by assumption))))).mono ?_); rintro e w7 ⟨b7, d7, b8, d8, rfl, _, _, _, _, hw8⟩) | (go_at_call 13; (with_reducible refine (HD2.out _ _ _ _ _ (hr4.out.ex (by repeat (first | assumption | exact Ex.refl _ | refine Ex.trans ?_ (by assumption)))) hn4.out (hr6.out.ex (by repeat (first | assumption | exact Ex.refl _ | refine Ex.trans ?_ (by assumption))))).mono ?_); rintro e w8 ⟨b9, d9, b10, d10, rfl, _, _, _, _, hw9⟩) | (go_at_call 30; (with_reducible refine (good2z _ _).mono ?_); rintro e w9 ⟨rfl, hw10⟩; have hg := HLC.out _ _ (hr6.out.ex (show Ex w6 w9 from (by repeat (first | assumption | exact Ex.refl _ | refine Ex.trans ?_ (by assumption))))); obtain ⟨g6, o6, hb6, hc6⟩ := hg; subst hb6) | (go_at_call 12; (with_reducible refine (HX.out _ _ _ _ _ (hr3.out.ex (by repeat (first | assumption | exact Ex.refl _ | refine Ex.trans ?_ (by assumption)))) (hr5.out.ex (by repeat (first | assumption | exact Ex.refl _ | refine Ex.trans ?_ (by assumption))))).mono ?_); rintro e w10 ⟨b11, d11, rfl, hr11, hn11, hw11⟩; clear hc6) | (go_at_call 12; (with_reducible refine (HY.out _ _ _ _ _ (hr4.out.ex (by repeat (first | assumption | exact Ex.refl _ | refine Ex.trans ?_ (by assumption)))) (hr5.out.ex (by repeat (first | assumption | exact Ex.refl _ | refine Ex.trans ?_ (by assumption))))).mono ?_); rintro e w11 ⟨b12, d12, rfl, hr12, hn12, hw12⟩) | (go_at_call 23; (with_reducible refine (HGZ.out _ _ _ _ _ (hr11.out.ex (by repeat (first | assumption | exact Ex.refl _ | refine Ex.trans ?_ (by assumption)))) hn11.out (hr12.out.ex (by repeat (first | assumption | exact Ex.refl _ | refine Ex.trans ?_ (by assumption)))) hn12.out).mono ?_); rintro e w12 ⟨b13, d13, rfl, hr13, hn13, hw13⟩) | (go_at_call 30; (with_reducible refine (good3z _ _).mono ?_); rintro e w13 ⟨rfl, hw14⟩) | (go_at_call 13; (with_reducible refine (HD3.out _ _ _ _ _ (hr13.out.ex (by repeat (first | assumption | exact Ex.refl _ | refine Ex.trans ?_ (by assumption)))) hn13.out (hr5.out.ex (by repeat (first | assumption | exact Ex.refl _ | refine Ex.trans ?_ (by assumption))))).mono ?_); rintro e w14 ⟨b15, d15, b16, d16, rfl, _, _, _, _, hw15⟩))
    go_ret
    exact ⟨rfl, (by repeat (first | assumption | exact Ex.refl _ | refine Ex.trans ?_ (by assumption)))⟩

end Go.Proofs.Ytfempfmpphbfnaa
