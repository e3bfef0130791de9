/-
  IrredField, walked.
-/
import Derived.Test.YtimehaolaeedhaaIrTimes
import Derived.Test.YtimehaolaeedhaaIrMuch
namespace Go.Proofs.Ytimehaolaeedhaa
open Go.RowKit
open Pr Po

theorem irr_1101 : Irr 2 [1, 1, 0, 1] := by
  have hp := prm_two
  refine (irr_trial hp ⟨by decide, by decide⟩ (by decide)).mpr fun m g h1 h2 hg hd => ?_
  have hm : m = 1 := by simp at h2; omega
  subst hm
  have e := mo_code (q := 2) hp hg
  have hc := code_lt (q := 2) hg
  have h3 : code 2 1 g = 0 ∨ code 2 1 g = 1 := by omega
  rcases h3 with h3 | h3
  · rw [h3, show mo 2 1 0 = [0, 1] by decide] at e
    subst e
    have := di_ev (x := 0) hd (by decide)
    exact absurd this (by decide)
  · rw [h3, show mo 2 1 1 = [1, 1] by decide] at e
    subst e
    have := di_ev (x := 1) hd (by decide)
    exact absurd this (by decide)

theorem di_short {p : Int} {s d f : List Int} (hl : (mul s d).length ≤ 4) (hf : f.length ≤ 4) (h : ∀ i, i < 4 → p ∣ c (mul s d) i - c f i) : Di p d f := ⟨s, fun i => by
  by_cases hi : i < 4
  · exact h i hi
  · rw [c_over (by omega), c_over (by omega)]; exact Int.dvd_zero _⟩

theorem not_first : ∀ y, y < 3 → ¬ Irr 2 (mo 2 3 y) := fun y hy hI => by
  have hm := mo_is prm_two 3 y
  match y, hy with
  | 0, _ =>
    refine hI.2.2 [0, 1] ⟨by decide, by decide⟩ (by decide) (by decide) (di_short (s := [0, 0, 1]) (by decide) (by decide) (by decide))
  | 1, _ =>
    refine hI.2.2 [1, 1] ⟨by decide, by decide⟩ (by decide) (by decide) (di_short (s := [1, 1, 1]) (by decide) (by decide) (by decide))
  | 2, _ =>
    refine hI.2.2 [0, 1] ⟨by decide, by decide⟩ (by decide) (by decide) (di_short (s := [1, 0, 1]) (by decide) (by decide) (by decide))

theorem first_23 (w : World) : Calls Try.prog 8 #[.int .i64 2, .int .i64 3] w (Slc [1, 1, 0, 1] 4 w) := by
  have := first_ok 2 2 3 3 w rfl (cmE_zero.mpr ⟨prm_two, by omega, by omega, by omega, by decide⟩) (by decide) irr_1101 not_first
  exact this.mono fun e w2 k => Rowed.slc k rfl

theorem can_xx {p : Int} (hp : 2 ≤ p) : Po.Can p xx := ⟨fun x hx => by simp [xx] at hx; omega, fun _ => by show (1 : Int) ≠ 0; decide⟩

theorem not_di_xx {p : Int} {F : List Int} (hp : Prm p) (hF : Po.Can p F) (hl : 3 ≤ F.length) : ¬ Di p F xx := fun h => by
  obtain ⟨q, _, q2, _, _, q5⟩ := h.length hp hF (can_xx hp.1) (by simp [xx])
  have := List.length_pos_iff.mpr q2
  simp [xx] at q5
  omega

theorem field_end {q K : Nat} {F X : List Int} (hp : Prm q) (hI : Irr q F) (hl : F.length = K + 1) (hK : 2 ≤ K) (hX : Po.Can q X) (hXl : X.length ≤ K) (h : Cf q F (pwl xx (q ^ K)) X) : X = xx := by
  have h1 := frob hp hI hl (not_di_xx hp hI.1 (by omega))
  exact cf_one hp hI.1 hX (can_xx hp.1) (by omega) (by rw [hl]; show 2 < K + 1; omega) (h.symm.trans h1)

theorem pwl_next {p : Int} {F X Y R : List Int} {j : Nat} (h : Cf p F (pwl X j) Y) (hR : Cf p F (mul Y X) R) : Cf p F (pwl X (j + 1)) R :=
  (h.mul X).trans ((cf_of (Cg.comm p X Y)).trans hR)

theorem field_step {p : Int} (hp : Prm p) (p9 : p ≤ 997) {F : List Int} {K : Nat} (hF : Po.Can p F) (hl : F.length = K + 1) (hK : K ≤ 6) {Y X : List Int} {L M : Nat} (hY : Po.Can p Y) (hX : Po.Can p X) (hL : Y.length = L) (hM : X.length = M) (h1 : L ≤ K) (h2 : M ≤ K) :
    ∃ (H Q R : List Int) (N A B : Nat), H.length = N ∧ R.length = B ∧ B ≤ K ∧ Po.Can p R ∧ Cf p F (mul Y X) R ∧
      (∀ (w : World) (a b : Option Addr) (ca cb : Nat), Reads w .i64 a Y → Reads w .i64 b X → Calls Try.prog 19 #[.int .i64 p, .slice a L ca, .slice b M cb] w (Slc H N w)) ∧
      ∀ (w : World) (a b : Option Addr) (ca cb : Nat), Reads w .i64 a H → (a = none → ca = 0) → Reads w .i64 b F → Calls Try.prog 22 #[.int .i64 p, .slice a N ca, .slice b (K + 1) cb] w (Slc2 Q R A B w) := by
  obtain ⟨H, N, e1, n1, m1, k1, _, _, hM1⟩ := mulL hp p9 hY hX hL hM (by omega)
  obtain ⟨Q, R, A, B, hD, _, l2, l3, _, hD1⟩ := divL hp p9 k1 hF n1 hl (by omega) (by omega)
  refine ⟨H, Q, R, N, A, B, n1, l2, by omega, hD.2.1, ?_, hM1, hD1⟩
  rw [← e1] at hD
  exact (cf_of (cg_red p _).symm).trans (cf_rest hD.2.2.2)

theorem gcd_field {p : Int} {F G D : List Int} {K : Nat} (hp : Prm p) (hI : Irr p F) (mF : Mo p K F) (hG : Po.Can p G) (hGl : G.length ≤ K) (hD : IsG p D F G) : (G = [] → D.length = K + 1) ∧ (G ≠ [] → D = [1]) := by
  constructor
  · rintro rfl
    have : IsG p F F [] := ⟨mF.mon, Di.self p F, Di.none p F, [1], [], Cg.of_eq fun i => by rw [c_add, one_mul, c_mul_nil, Int.add_zero]⟩
    rw [hD.uniq hp this]
    exact mF.2.1
  · intro h0
    exact irr_gcd hp hI hG h0 (by rw [mF.2.1]; omega) hD

set_option maxRecDepth 100000 in
set_option maxHeartbeats 4000000 in
theorem irredField_walk (n k : Int) (a1 : Option Addr) (l1 c1 : Nat) (z1 : List Int) (w : World) (_ : I64 n) (hk : I64 k) (h1 : IsInts .i64 8 w a1 l1 c1 z1) :
    Calls Try.prog 6 #[.int .i64 n, .int .i64 k, .slice a1 l1 c1] w (Says (.bool true) w) := by
  obtain ⟨p, hp, p9, hfo⟩ := fieldOf_some n
  have p2 := hp.1
  obtain ⟨q, hq⟩ : ∃ q : Nat, (q : Int) = p := ⟨p.toNat, by omega⟩
  obtain ⟨hk0, hk1⟩ := hk
  have HW := Lib.hid fun w2 => within_any k 4 w2 (by omega) (by omega)
  obtain ⟨T, ht⟩ : ∃ T : Nat, k % 4 = (T : Int) := ⟨(k % 4).toNat, by omega⟩
  have T3 : T ≤ 3 := by omega
  obtain ⟨K, hK⟩ : ∃ K : Nat, T + 2 = K := ⟨_, rfl⟩
  have K2 : 2 ≤ K := by omega
  have K5 : K ≤ 5 := by omega
  rw [ht] at HW
  have HF0 := Lib.hid first_23
  have HE4 : Hid (∀ (w : World) (a b : Option Addr) (ca cb : Nat), Reads w .i64 a [1, 1, 0, 1] → Reads w .i64 b [1, 1, 0, 1] → Calls Try.prog 21 #[.slice a 4 ca, .slice b 4 cb] w (Says (.bool true) w)) := Lib.hid (eqS rfl (by omega))
  have HPO := Lib.hid polys_yes
  have HFO := Lib.hid hfo
  have HTK : Hid (2 + (T : Int) = (K : Int)) := Lib.hid (by omega)
  have HKT := Lib.hid hK
  by_cases hE : cmE p K = 0
  · have hpq : Prm (q : Int) := by rw [hq]; exact hp
    obtain ⟨x0, x1, x2, x3⟩ := ir_first hpq (n := K) (by omega)
    have HFK : Hid (∀ (x : Int) (w2 : World), x = K → Calls Try.prog 8 #[.int .i64 p, .int .i64 x] w2 (Slc (mo q K x0) (K + 1) w2)) := Lib.hid fun x w2 hx => by
      subst hx
      subst hq
      exact (first_ok q q K x0 w2 rfl hE x1 x2 x3).mono fun e w3 k => Rowed.slc k (mo_is hpq K x0).2.1
    have mF := mo_is hpq K x0
    rw [hq] at x2 mF
    obtain ⟨F, hFd⟩ : ∃ F, mo q K x0 = F := ⟨_, rfl⟩
    rw [hFd] at HFK x2 mF
    have HST : Hid (∀ (Y X : List Int) (L M : Nat), Po.Can p Y → Po.Can p X → Y.length = L → X.length = M → L ≤ K → M ≤ K →
        ∃ (H Q R : List Int) (N A B : Nat), H.length = N ∧ R.length = B ∧ B ≤ K ∧ Po.Can p R ∧ Cf p F (mul Y X) R ∧
        (∀ (w : World) (a b : Option Addr) (ca cb : Nat), Reads w .i64 a Y → Reads w .i64 b X → Calls Try.prog 19 #[.int .i64 p, .slice a L ca, .slice b M cb] w (Slc H N w)) ∧
        ∀ (w : World) (a b : Option Addr) (ca cb : Nat), Reads w .i64 a H → (a = none → ca = 0) → Reads w .i64 b F → Calls Try.prog 22 #[.int .i64 p, .slice a N ca, .slice b (K + 1) cb] w (Slc2 Q R A B w)) :=
      Lib.hid fun Y X L M h1 h2 h3 h4 h5 h6 => field_step hp p9 mF.1 mF.2.1 (by omega) h1 h2 h3 h4 h5 h6
    have HNX : Hid (∀ X Y R j, Cf p F (pwl X j) Y → Cf p F (mul Y X) R → Cf p F (pwl X (j + 1)) R) := Lib.hid fun X Y R j h1 h2 => pwl_next h1 h2
    have HUP : Hid (∀ X Y i, Cf p F (pwl xx (q ^ i)) X → Cf p F (pwl X q) Y → Cf p F (pwl xx (q ^ (i + 1))) Y) := Lib.hid fun X Y i h1 h2 => fx_next h1 h2
    have HEN : Hid (∀ X, Po.Can p X → X.length ≤ K → Cf p F (pwl xx (q ^ K)) X → X = [0, 1]) := Lib.hid fun X h1 h2 h3 => by
      subst hq
      exact field_end hp x2 mF.2.1 K2 h1 h2 h3
    have HX0 : Hid (Cf p F (pwl xx (q ^ 0)) [0, 1]) := Lib.hid (cf_of (Cg.of_eq fun i => by rw [Nat.pow_zero, show pwl xx 1 = mul xx [1] from rfl, mul_comm]; exact one_mul xx i))
    have HCX : Hid (Po.Can p [0, 1]) := Lib.hid (can_xx p2)
    have HC1 : Hid (Po.Can p [1]) := Lib.hid (can_one (by omega) (by omega))
    have HY0 : Hid (∀ X, Cf p F (pwl X 0) [1]) := Lib.hid fun X => Cf.refl _ _ _
    obtain ⟨G, LG, lG, mG, cG, hG⟩ := polyL hp p9 K (2 + (T : Int)) (by omega) (by omega) h1
    obtain ⟨D, LD, hD, lD, hGc⟩ := gcdL hp p9 mF.1 cG mF.2.1 lG (by omega)
    obtain ⟨hg0, hg1⟩ := gcd_field hp x2 mF cG (by omega) hD
    have HG := Lib.hid hG
    have HGC := Lib.hid hGc
    have HE2 : Hid (∀ (w : World) (a b : Option Addr) (ca cb : Nat), Reads w .i64 a [0, 1] → Reads w .i64 b [0, 1] → Calls Try.prog 21 #[.slice a 2 ca, .slice b 2 cb] w (Says (.bool true) w)) := Lib.hid (eqS rfl (by omega))
    have HE1 : Hid (∀ (w : World) (a b : Option Addr) (ca cb : Nat), Reads w .i64 a [1] → Reads w .i64 b [1] → Calls Try.prog 21 #[.slice a 1 ca, .slice b 1 cb] w (Says (.bool true) w)) := Lib.hid (eqS rfl (by omega))
    have hqp : ∀ j : Nat, (j : Int) < p → j < q := fun j h => by omega
    have HQP := Lib.hid hq
    have q997 : q ≤ 997 := by omega
    have hcase : (LG = 0 ∧ LD = K + 1) ∨ (1 ≤ LG ∧ LD = 1 ∧ D = [1]) := by
      by_cases h : G = []
      · exact .inl ⟨by rw [← lG, h]; rfl, by rw [← lD, hg0 h]⟩
      · exact .inr ⟨by have := List.length_pos_iff.mpr h; omega, by rw [← lD, hg1 h]; rfl, hg1 h⟩
    have HCASE := Lib.hid hcase
    clear hfo hp hpq hE hFd x1 x2 x3 mF hD lD lG cG hG hGc hg0 hg1 hcase hk0 hk1 ht hK h1 hqp hq
    go_enter Try.func6, Try.ntmps6
    go_wp2_with (first
    | (go_at_call 8; (with_reducible refine (HF0.out _).mono ?_); rintro e w1 ⟨b1, d1, rfl, hr1, hn1, hw1⟩
       have HR1 := Lib.hid (hr1.out.ex ((Ex.refl w1).alloc (.cells #[.int .i64 1, .int .i64 1, .int .i64 0, .int .i64 1] 3)))
       have HR2 : Hid (Reads (w1.alloc (.cells #[.int .i64 1, .int .i64 1, .int .i64 0, .int .i64 1] 3)) .i64 (some ⟨w1.heap.size, 0, none⟩) [1, 1, 0, 1]) := Lib.hid (reads_new .i64 [1, 1, 0, 1] _ rfl _ _)
       have hx1 := hw1.alloc (.cells #[.int .i64 1, .int .i64 1, .int .i64 0, .int .i64 1] 3)
       clear hr1 hw1)
    | (go_at_call 21; (with_reducible refine (HE4.out _ _ _ _ _ HR1.out HR2.out).mono ?_); rintro e w2 ⟨rfl, hw2⟩)
    | (go_at_call 16; (with_reducible refine (HPO.out _).mono ?_); rintro e w3 ⟨rfl, hw3⟩)
    | (go_at_call 17; (with_reducible refine (HFO.out _).mono ?_); rintro e w4 ⟨rfl, hw4⟩)
    | (go_at_call 20; (with_reducible refine (HW.out _).mono ?_); rintro e w5 ⟨rfl, rfl⟩)
    | (go_at_call 8; (with_reducible refine (HFK.out _ _ HTK.out).mono ?_); rintro e w6 ⟨b6, d6, rfl, hr6, hn6, hw6⟩
       have HX6 : Hid (Ex w w6) := Lib.hid (by repeat (first | assumption | exact Ex.refl _ | refine Ex.trans ?_ (by assumption)))
       have HRF := Lib.hid hr6.out
       have HNF := Lib.hid hn6.out
       have HA6 := Lib.hid ((Ex.refl w6).alloc (.cells #[.int .i64 0, .int .i64 1] 3))
       have HRX : Hid (Reads (w6.alloc (.cells #[.int .i64 0, .int .i64 1] 3)) .i64 (some ⟨w6.heap.size, 0, none⟩) [0, 1]) := Lib.hid (reads_new .i64 [0, 1] _ rfl _ _)
       clear hw2 hw3 hw4 hw6 hr6 hn6 hx1))
    go_loopg [12, 56] K (fun m v12 v56 wr => ∃ (i : Nat) (X : List Int) (N : Nat) (ax : Option Addr) (cx : Nat), i ≤ K ∧ v12 = .slice ax N cx ∧ v56 = .int .i64 i ∧ N ≤ K ∧ Hid (X.length = N) ∧ Hid (Po.Can p X) ∧ Hid (Cf p F (pwl xx (q ^ i)) X) ∧ Hid (Reads wr .i64 ax X) ∧ Hid (m = K - i) ∧ Ex w6 wr)
    case atStart => exact ⟨0, [0, 1], 2, _, _, by omega, rfl, rfl, K2, Lib.hid rfl, HCX, HX0, HRX, Lib.hid rfl, HA6.out⟩
    case round =>
      rename World => wo
      obtain ⟨i, X, N, ax, cx, hi, rfl, rfl, hNK, hXl, hXc, hXf, hXr, hm, hx⟩ := hrel
      by_cases hlt : i < K
      · have hlt2 : (i : Int) < 2 + (T : Int) := by have := HKT.out; omega
        have HAW := Lib.hid ((Ex.refl wo).alloc (.cells #[.int .i64 1] 3))
        have HRY : Hid (Reads (wo.alloc (.cells #[.int .i64 1] 3)) .i64 (some ⟨wo.heap.size, 0, none⟩) [1]) := Lib.hid (reads_new .i64 [1] _ rfl _ _)
        go_wp2
        go_loopg [13, 14] q (fun m v13 v14 y => ∃ (j u : Nat) (Y : List Int) (M : Nat) (ay : Option Addr) (cy : Nat), j + u = q ∧ v13 = .slice ay M cy ∧ v14 = .int .i64 u ∧ M ≤ K ∧ Hid (Y.length = M) ∧ Hid (Po.Can p Y) ∧ Hid (Cf p F (pwl X j) Y) ∧ Hid (Reads y .i64 ay Y) ∧ Hid (m = u) ∧ Ex wo y)
        case atStart => exact ⟨0, q, [1], 1, _, _, by omega, rfl, by rw [HQP.out], by omega, Lib.hid rfl, HC1, Lib.hid (HY0.out X), HRY, Lib.hid rfl, HAW.out⟩
        case round =>
          obtain ⟨j, u, Y, M, ay, cy, hju, rfl, rfl, hMK, hYl, hYc, hYf, hYr, hmu, hy⟩ := hrel
          cases u with
          | zero =>
            obtain rfl : j = q := by omega
            have HXN := Lib.hid (HUP.out X Y i hXf.out hYf.out)
            go_wp2
            go_roundg (K - (i + 1))
            case measure => have := hm.out; omega
            case rel => exact ⟨i + 1, Y, M, ay, cy, by omega, rfl, by go_num, hMK, hYl, hYc, HXN, hYr, Lib.hid rfl, hx.trans hy⟩
          | succ u =>
            obtain ⟨H, Q, R, NH, A, B, s1, s2, s3, s4, s5, s6, s7⟩ := HST.out Y X M N hYc.out hXc.out hYl.out hXl.out hMK hNK
            have HMU := Lib.hid (s6 wr ay ax cy cx hYr.out (hXr.out.ex hy))
            have HDI := Lib.hid s7
            have HRL := Lib.hid s2
            have HRC := Lib.hid s4
            have HYN := Lib.hid (HNX.out X Y R j hYf.out s5)
            clear s1 s2 s4 s5 s6 s7
            go_wp2_with (first
              | (go_at_call 19; (with_reducible refine (HMU.out).mono ?_); rintro e w7 ⟨b7, d7, rfl, hr7, hn7, hw7⟩)
              | (go_at_call 22; (with_reducible refine (HDI.out _ _ _ _ _ hr7.out hn7.out (HRF.out.ex ((hx.trans hy).trans hw7))).mono ?_); rintro e w8 ⟨b8, d8, b9, d9, rfl, hr8, hn8, hr9, hn9, hw8⟩)
              | (go_at_call 23; refine (good_zeros 2 (by omega) _ rfl _ _).mono ?_; rintro e w15 ⟨rfl, hw9⟩
                 have HR9 := Lib.hid (hr9.out.ex hw9)))
            go_roundg u
            case measure => have := hmu.out; omega
            case rel => exact ⟨j + 1, u, R, B, b9, d9, by omega, rfl, by go_num, s3, HRL, HRC, HYN, HR9, Lib.hid rfl, ((hy.trans hw7).trans hw8).trans hw9⟩
      · have e : i = K := by omega
        subst e
        have hnl : ¬ ((i : Int) < 2 + (T : Int)) := by have := HKT.out; omega
        have eX := HEN.out X hXc.out (by rw [hXl.out]; exact hNK) hXf.out
        subst eX
        have eN : N = 2 := by have := hXl.out; simpa using this.symm
        subst eN
        have hx0 := HX6.out
        have hkk : ((i : Int) + 1 == 2 + (T : Int) + 1) = true := by have := HTK.out; simp; omega
        rcases HCASE.out with ⟨q1, q2⟩ | ⟨q1, q2, q3⟩
        · subst q1
          subst q2
          clear HCASE
          go_wp2_with (first
            | (go_at_call 18; (with_reducible refine (HG.out _ (hx0.trans hx)).mono ?_); rintro e w7 ⟨b7, d7, rfl, hr7, hn7, hw7⟩)
            | (go_at_call 24; (with_reducible refine (HGC.out _ _ _ _ _ (HRF.out.ex (hx.trans hw7)) HNF.out hr7.out hn7.out).mono ?_); rintro e w8 ⟨b8, d8, rfl, hr8, hn8, hw8⟩
               have HRA := Lib.hid (((hXr.out.ex hw7).ex hw8).ex ((Ex.refl w8).alloc (.cells #[.int .i64 0, .int .i64 1] 3)))
               have HRB : Hid (Reads (w8.alloc (.cells #[.int .i64 0, .int .i64 1] 3)) .i64 (some ⟨w8.heap.size, 0, none⟩) [0, 1]) := Lib.hid (reads_new .i64 [0, 1] _ rfl _ _)
               have hxa := ((hx0.trans hx).trans hw7).trans hw8 |>.alloc (.cells #[.int .i64 0, .int .i64 1] 3))
            | (go_at_call 21; (with_reducible refine (HE2.out _ _ _ _ _ HRA.out HRB.out).mono ?_); rintro e w9 ⟨rfl, hw9⟩))
          go_ret
          exact ⟨rfl, hxa.trans hw9⟩
        · have hg0 : ((LG : Int) == 0) = false := by simp; omega
          have hg1 : decide ((0 : Int) < (LG : Int)) = true := decide_eq_true (by omega)
          subst q2
          clear HCASE
          go_wp2_with (first
            | (go_at_call 18; (with_reducible refine (HG.out _ (hx0.trans hx)).mono ?_); rintro e w7 ⟨b7, d7, rfl, hr7, hn7, hw7⟩)
            | (go_at_call 24; (with_reducible refine (HGC.out _ _ _ _ _ (HRF.out.ex (hx.trans hw7)) HNF.out hr7.out hn7.out).mono ?_); rintro e w8 ⟨b8, d8, rfl, hr8, hn8, hw8⟩
               have HRA := Lib.hid (((hXr.out.ex hw7).ex hw8).ex ((Ex.refl w8).alloc (.cells #[.int .i64 0, .int .i64 1] 3)))
               have HRB : Hid (Reads (w8.alloc (.cells #[.int .i64 0, .int .i64 1] 3)) .i64 (some ⟨w8.heap.size, 0, none⟩) [0, 1]) := Lib.hid (reads_new .i64 [0, 1] _ rfl _ _)
               have hxa := ((hx0.trans hx).trans hw7).trans hw8 |>.alloc (.cells #[.int .i64 0, .int .i64 1] 3)
               have HRC := Lib.hid (hr8.out.ex ((Ex.refl w8).alloc (.cells #[.int .i64 0, .int .i64 1] 3))))
            | (go_at_call 21; (with_reducible refine (HE2.out _ _ _ _ _ HRA.out HRB.out).mono ?_); rintro e w9 ⟨rfl, hw9⟩
               have HRD := Lib.hid ((HRC.out.ex hw9).ex ((Ex.refl w9).alloc (.cells #[.int .i64 1] 3)))
               rw [q3] at HRD
               have HRE : Hid (Reads (w9.alloc (.cells #[.int .i64 1] 3)) .i64 (some ⟨w9.heap.size, 0, none⟩) [1]) := Lib.hid (reads_new .i64 [1] _ rfl _ _)
               have hxb := (hxa.trans hw9).alloc (.cells #[.int .i64 1] 3)
               clear HRA HRB)
            | (go_at_call 21; (with_reducible refine (HE1.out _ _ _ _ _ HRD.out HRE.out).mono ?_); rintro e w10 ⟨rfl, hw10⟩))
          go_ret
          exact ⟨rfl, hxb.trans hw10⟩
  · have hE2 : cmE p K = 2 := (cmE_two hp p9 (by omega) (by omega)).resolve_left hE
    have HCN : Hid (∀ (x : Int) (w2 : World), x = K → Calls Try.prog 8 #[.int .i64 p, .int .i64 x] w2 (Says (.tuple #[.slice none 0 0, .int .i64 2]) w2)) := Lib.hid fun x w2 hx => by
      subst hx
      have := first_no p K w2 (by unfold I64; omega) hE
      rwa [hE2] at this
    clear hfo hp hE hE2 hk0 hk1 ht hK h1
    go_enter Try.func6, Try.ntmps6
    go_wp2_with (first
    | (go_at_call 8; (with_reducible refine (HF0.out _).mono ?_); rintro e w1 ⟨b1, d1, rfl, hr1, hn1, hw1⟩
       have HR1 := Lib.hid (hr1.out.ex ((Ex.refl w1).alloc (.cells #[.int .i64 1, .int .i64 1, .int .i64 0, .int .i64 1] 3)))
       have HR2 : Hid (Reads (w1.alloc (.cells #[.int .i64 1, .int .i64 1, .int .i64 0, .int .i64 1] 3)) .i64 (some ⟨w1.heap.size, 0, none⟩) [1, 1, 0, 1]) := Lib.hid (reads_new .i64 [1, 1, 0, 1] _ rfl _ _)
       have hx1 := hw1.alloc (.cells #[.int .i64 1, .int .i64 1, .int .i64 0, .int .i64 1] 3)
       clear hr1 hw1)
    | (go_at_call 21; (with_reducible refine (HE4.out _ _ _ _ _ HR1.out HR2.out).mono ?_); rintro e w2 ⟨rfl, hw2⟩)
    | (go_at_call 16; (with_reducible refine (HPO.out _).mono ?_); rintro e w3 ⟨rfl, hw3⟩)
    | (go_at_call 17; (with_reducible refine (HFO.out _).mono ?_); rintro e w4 ⟨rfl, hw4⟩)
    | (go_at_call 20; (with_reducible refine (HW.out _).mono ?_); rintro e w5 ⟨rfl, rfl⟩)
    | (go_at_call 8; (with_reducible refine (HCN.out _ _ HTK.out).mono ?_); rintro e w6 ⟨rfl, hw6⟩))
    go_ret
    exact ⟨rfl, (by repeat (first | assumption | exact Ex.refl _ | refine Ex.trans ?_ (by assumption)))⟩

end Go.Proofs.Ytimehaolaeedhaa
