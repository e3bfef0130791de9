/-
  The document's answers: Powered, Alone, AloneMany.
-/
import Derived.Test.YtimehaolaeedhaaIrFirst
import Derived.Test.YtimehaolaeedhaaDvOff
import Derived.Test.YtimehaolaeedhaaPoRem
namespace Go.Proofs.Ytimehaolaeedhaa
open Go.RowKit
open Pr Po Dd

/-- What Powered answers. -/
def pdV (p : Int) (n : Nat) : Int := if p ^ n < 1000001 then p ^ n else 1000001

theorem pdV_zero (p : Int) : pdV p 0 = 1 := by unfold pdV; rw [Int.pow_zero]; rfl
theorem pdV_pos {p : Int} (hp : 1 ≤ p) (n : Nat) : 1 ≤ pdV p n ∧ pdV p n ≤ 1000001 := by
  have := Int.pow_pos (n := p) (m := n) (by omega)
  unfold pdV
  split <;> omega
theorem pdV_step {p : Int} (hp : 1 ≤ p) (n : Nat) : (if 1000001 < pdV p n * p then 1000001 else pdV p n * p) = pdV p (n + 1) := by
  have h := Int.pow_pos (n := p) (m := n) (by omega)
  have e : p ^ (n + 1) = p ^ n * p := Int.pow_succ p n
  have h1 := Int.mul_le_mul_of_nonneg_left hp (show 0 ≤ p ^ n by omega)
  rw [Int.mul_one] at h1
  unfold pdV
  by_cases h2 : p ^ n < 1000001
  · rw [if_pos h2, e]
    by_cases h3 : 1000001 < p ^ n * p
    · rw [if_pos h3, if_neg (by omega)]
    · rw [if_neg h3]
      by_cases h4 : p ^ n * p < 1000001
      · rw [if_pos h4]
      · rw [if_neg h4]; omega
  · have h5 : ¬ p ^ (n + 1) < 1000001 := by omega
    rw [if_neg h2, if_neg h5]
    split <;> omega
theorem pdV_large {p : Int} {n : Nat} : 1000000 < pdV p n ↔ 1000000 < p ^ n := by
  unfold pdV
  split <;> omega

set_option maxHeartbeats 1000000 in
theorem powered_any (p : Int) (n : Nat) (w : World) (p1 : 1 ≤ p) (p9 : p ≤ 997) (hn : n ≤ 1000000) : Calls Try.prog 11 #[.int .i64 p, .int .i64 n] w (Says (.int .i64 (pdV p n)) w) := by
  have HS := Lib.hid fun i => pdV_step p1 i
  have HP := Lib.hid fun i => pdV_pos p1 i
  have H0 := Lib.hid (pdV_zero p)
  obtain ⟨V, hV⟩ : ∃ V, pdV p = V := ⟨_, rfl⟩
  rw [hV] at H0 ⊢
  simp only [hV] at HS HP
  clear hV
  go_enter Try.func11, Try.ntmps11
  go_wp2
  go_loopg [5, 7] n (fun k v5 v7 wr => ∃ (i : Nat) (x : Int), i ≤ n ∧ v5 = .int .i64 x ∧ v7 = .int .i64 i ∧ Hid (x = V i) ∧ Hid (k = n - i) ∧ Ex w wr)
  case atStart => exact ⟨0, 1, by omega, rfl, rfl, Lib.hid H0.out.symm, Lib.hid rfl, Ex.refl _⟩
  case round =>
    obtain ⟨i, x, hi, rfl, rfl, hx, hk, hw⟩ := hrel
    by_cases hlt : i < n
    · obtain ⟨x1, x2⟩ := HP.out i
      have HN := Lib.hid (HS.out i)
      rw [← hx.out] at x1 x2 HN
      obtain ⟨m0, m1⟩ := mul_bound (a := x) (b := p) (A := 1000001) (B := 997) (by omega) x2 (by omega) p9
      obtain ⟨y, hy⟩ : ∃ y, x * p = y := ⟨_, rfl⟩
      rw [hy] at m0 m1 HN
      have HY := Lib.hid hy
      by_cases hl : 1000001 < y
      · have hif : (if (1000001 : Int) < y then 1000001 else y) = 1000001 := if_pos hl
        rw [hif] at HN
        go_wp2
        all_goals try omega
        all_goals go_roundg (n - (i + 1))
        case measure => have := hk.out; omega
        case rel => exact ⟨i + 1, _, by omega, rfl, by go_num, HN, Lib.hid rfl, hw⟩
      · have hif : (if (1000001 : Int) < y then 1000001 else y) = y := if_neg hl
        rw [hif] at HN
        go_wp2
        all_goals try omega
        all_goals go_roundg (n - (i + 1))
        case measure => have := hk.out; omega
        case rel => exact ⟨i + 1, _, by omega, rfl, by go_num, HN, Lib.hid rfl, hw⟩
    · have e : i = n := by omega
      subst e
      go_wp2
      go_ret
      exact ⟨by rw [hx.out]; rfl, hw⟩

/-- So many times as many as there are. -/
noncomputable def irF (q : Nat) (d : Nat) : Int := (d : Int) * ((ir q d).length : Int)
theorem irF_sum {q d : Nat} (hp : Prm q) (hd : 1 ≤ d) : sm (irF q) (dv d) = (q : Int) ^ d := by
  have := gauss_many hp hd
  rw [Int.natCast_pow] at this
  exact this
theorem irF_bound {q d : Nat} (hp : Prm q) (hd : 1 ≤ d) : 0 ≤ irF q d ∧ irF q d ≤ (q : Int) ^ d := by
  have := many_le hp hd
  rw [Int.natCast_pow] at this
  exact ⟨Int.mul_nonneg (by omega) (by omega), this⟩

set_option maxRecDepth 100000 in
set_option maxHeartbeats 4000000 in
theorem aloneMany_any (p : Int) (q n : Nat) (w : World) (hp : Prm p) (hq : (q : Int) = p) (p9 : p ≤ 997) (h1 : 1 ≤ n) (h2 : n ≤ 1000) (hle : p ^ n ≤ 1000000) :
    Calls Try.prog 14 #[.int .i64 p, .int .i64 n] w (Says (.int .i64 ((ir q n).length : Int)) w) := by
  subst hq
  have p2 := hp.1
  have hG : ∀ i, i ≤ n → 1 ≤ (q : Int) ^ i ∧ (q : Int) ^ i ≤ 1000000 := fun i hi => by
    have h1 := pow_grows (p := (q : Int)) (by omega) hi
    have h2 := Int.pow_pos (n := (q : Int)) (m := i) (by omega)
    omega
  have hGb : ∀ d ∈ dv n, -1000000 ≤ irF q d ∧ irF q d ≤ 1000000 := fun d hd => by
    have h3 := (mem_dv h1).mp hd
    have h4 := irF_bound hp h3.1
    have h5 := hG d (Nat.le_of_dvd h1 h3.2)
    omega
  have HG := Lib.hid hG
  have HGb := Lib.hid hGb
  have HMB : Hid (∀ d, 1 ≤ d → d ≤ n → 0 ≤ ((ir q d).length : Int) ∧ ((ir q d).length : Int) ≤ 1000000) := Lib.hid fun d d1 d2 => by
    have h4 := irF_bound hp d1
    have h5 := hG d d2
    unfold irF at h4
    have h6 := Int.mul_le_mul_of_nonneg_right (show (1 : Int) ≤ d by omega) (show (0 : Int) ≤ ((ir q d).length : Int) by omega)
    omega
  have HS := Lib.hid fun i => Int.pow_succ (q : Int) i
  have HP0 : Hid ((q : Int) ^ 0 = 1) := Lib.hid (Int.pow_zero _)
  have hL1 := (dv_last h1).1
  have hL2 := dv_length n
  have HFR : Hid (∀ i, i < (dv n).length → (q : Int) ^ (dat n i) - off (irF q) n i i = (dat n i : Int) * ((ir q (dat n i)).length : Int)) := Lib.hid fun i hi => by
    have h3 := sm_front (irF q) h1 hi
    rw [irF_sum hp (dv_at h1 hi).1] at h3
    unfold off
    rw [dat_eq hi, ← h3]
    show _ = irF q (dv n)[i]
    omega
  have HLAST : Hid (dat n ((dv n).length - 1) = n) := Lib.hid (by rw [dat_eq (by omega)]; exact (dv_last h1).2 (by omega))
  have HDB : Hid (∀ i, i < (dv n).length → 1 ≤ dat n i ∧ dat n i ≤ n) := Lib.hid fun i hi => dat_bound h1 hi
  have HFL := Lib.hid (dvZ_fl n)
  have HOZ := Lib.hid fun i => off_zero (irF q) n i
  have HLL := Lib.hid (rfl : (dv n).length = (dv n).length)
  have HOY : Hid (∀ i k, k < (dv n).length → dat n i % dat n k = 0 → off (irF q) n i (k + 1) = off (irF q) n i k + (dat n k : Int) * ((ir q (dat n k)).length : Int)) := Lib.hid fun i k hk hd => off_yes hk hd
  have HON : Hid (∀ i k, k < (dv n).length → dat n i % dat n k ≠ 0 → off (irF q) n i (k + 1) = off (irF q) n i k) := Lib.hid fun i k hk hd => off_no hk hd
  have HOB : Hid (∀ i k, -1000000000000 ≤ off (irF q) n i k ∧ off (irF q) n i k ≤ 1000000000000) := Lib.hid fun i k => off_bound (by omega) hGb
  clear hGb hG hp hle HLL
  obtain ⟨M, hM⟩ : ∃ M : Nat → Int, (fun d => ((ir q d).length : Int)) = M := ⟨_, rfl⟩
  have eM : ∀ d, ((ir q d).length : Int) = M d := fun d => congrFun hM d
  simp only [eM] at HMB HFR HOY ⊢
  clear eM hM
  obtain ⟨O, hO⟩ : ∃ O, off (irF q) n = O := ⟨_, rfl⟩
  simp only [hO] at HFR HOZ HOY HON HOB
  clear hO HGb
  obtain ⟨p, hpq⟩ : ∃ p : Int, (q : Int) = p := ⟨_, rfl⟩
  rw [hpq] at HG HS HP0 HFR p9 p2 ⊢
  clear hpq
  obtain ⟨L, hL⟩ : ∃ L, (dv n).length = L := ⟨_, rfl⟩
  rw [hL] at hL1 hL2 HFR HLAST HDB HFL HOY HON
  clear hL
  go_enter Try.func14, Try.ntmps14
  go_wp2_with (first
    | (go_at_call 35; refine (divisorsOf_any n _ h1 (by omega)).mono ?_; rintro e w1 ⟨v, rfl, hrow, hx1⟩
       have hf := hrow.out.form
       rw [HFL.out, fl_length] at hf
       rcases hf with ⟨hf1, hf2⟩ | ⟨g, cap, rfl, hg1, hg2, hc1, hc2, hc, hf⟩
       · have := congrArg List.length hf2
         rw [fl_length] at this
         simp at this
         omega
       have HC : Hid (∀ i, i < L → w1.cell? ⟨g, i, none⟩ = some (.int .i64 (dat n i))) := Lib.hid fun i hi => by
         have := hc i hi
         rwa [fl_nth hi] at this
       have HX1 := Lib.hid hx1
       clear hc hf hx1 hrow)
    | (at_make; refine wpList_make_ints rfl _ _ 22 rfl w1.heap.size 3 .i64 8 Try.underlying22 info_int _ _ L rfl rfl (by omega) (by unfold maxLen; omega) (Nat.le_refl _) ?_; intro w2 hown2 hgrow2
       have HX2 : Hid (Ex w1 w2) := Lib.hid (ex_grown (Ex.refl w1) hgrow2 (by intro k hk; cases hk))
       have HR2 : Hid (Row 3 .i64 w2 w1.heap.size (.slice (some ⟨w1.heap.size, 0, none⟩) L L) (fl L fun _ => 0)) := Lib.hid (by rw [fl_zero] at hown2; exact hown2)
       clear hown2 hgrow2))
  unfold maxLen at hc2
  obtain ⟨b, hb⟩ : ∃ b, w1.heap.size = b := ⟨_, rfl⟩
  rw [hb] at HR2 hg2 ⊢
  have HB := Lib.hid hb
  clear hb
  go_loopg [19] L (fun k v19 x => ∃ (i : Nat) (F : Nat → Int), i ≤ L ∧ v19 = .int .i64 i ∧ Hid (∀ t, t < i → F t = M (dat n t)) ∧ Hid (Row 3 .i64 x b (.slice (some ⟨b, 0, none⟩) L L) (fl L F)) ∧ Hid (k = L - i) ∧ Ex w1 x)
  case atStart => exact ⟨0, _, by omega, rfl, Lib.hid (fun t ht => absurd ht (Nat.not_lt_zero _)), HR2, Lib.hid rfl, HX2.out⟩
  case round =>
    rename World => wo
    obtain ⟨i, F, hi, rfl, hF, hR, hk, hx⟩ := hrel
    by_cases hlt : i < L
    · have hcl := hx.cell (HC.out i hlt)
      obtain ⟨d1, d2⟩ := HDB.out i hlt
      have HFRi := Lib.hid (HFR.out i hlt)
      have HOZi := Lib.hid (HOZ.out i)
      have HOYi := Lib.hid (HOY.out i)
      have HONi := Lib.hid (HON.out i)
      have HOBi := Lib.hid (HOB.out i)
      have HMD := Lib.hid (HMB.out (dat n i) d1 d2)
      obtain ⟨D, hD⟩ : ∃ D, dat n i = D := ⟨_, rfl⟩
      have HD := Lib.hid hD
      rw [hD] at hcl d1 d2 HFRi HOYi HONi HMD
      obtain ⟨Oi, hOi⟩ : ∃ Oi, O i = Oi := ⟨_, rfl⟩
      rw [hOi] at HFRi HOZi HOYi HONi
      simp only [hOi] at HOBi
      clear hD hOi
      go_wp2
      go_loopg [9, 25] D (fun m v9 v25 y => ∃ (j : Nat) (x : Int), j ≤ D ∧ 1 ≤ x ∧ x ≤ 1000000 ∧ v9 = .int .i64 x ∧ v25 = .int .i64 j ∧ Hid (x = p ^ j) ∧ Hid (m = D - j) ∧ y = wo)
      case atStart => exact ⟨0, 1, by omega, by omega, by omega, rfl, rfl, Lib.hid HP0.out.symm, Lib.hid rfl, rfl⟩
      case round =>
        obtain ⟨j, x, hj, x1, x9, rfl, rfl, hxp, hkj, rfl⟩ := hrel
        by_cases hjl : j < D
        · have HN : Hid (x * p = p ^ (j + 1)) := Lib.hid (by rw [HS.out, hxp.out])
          obtain ⟨y1, y9⟩ := HG.out (j + 1) (by omega)
          rw [← HN.out] at y1 y9
          go_wp2
          go_roundg (D - (j + 1))
          case measure => have := hkj.out; omega
          case rel => exact ⟨j + 1, x * p, by omega, y1, y9, rfl, by go_num, HN, Lib.hid rfl, rfl⟩
        · have e : j = D := by omega
          subst e
          go_wp2
          go_loopg [9, 35] i (fun m v9 v35 y => ∃ (k : Nat) (X : Int), k ≤ i ∧ v9 = .int .i64 X ∧ v35 = .int .i64 k ∧ Hid (X = p ^ j - Oi k) ∧ Hid (m = i - k) ∧ y = wr)
          case atStart => exact ⟨0, x, by omega, rfl, rfl, Lib.hid (by rw [HOZi.out, hxp.out]; omega), Lib.hid rfl, rfl⟩
          case round =>
            obtain ⟨k, X, hki, rfl, rfl, hX, hkk, rfl⟩ := hrel
            by_cases hkl : k < i
            · have hckl := hx.cell (HC.out k (by omega))
              obtain ⟨_, _, hcf, hfr⟩ := hR.out.flat
              have hck2 := hcf k (by omega)
              rw [hF.out k hkl] at hck2
              obtain ⟨e1, e2⟩ := HDB.out k (by omega)
              obtain ⟨c1, c2⟩ := HMB.out _ e1 e2
              have ob := HOBi.out k
              have OY := Lib.hid (HOYi.out k (by omega))
              have ON := Lib.hid (HONi.out k (by omega))
              obtain ⟨E, hE⟩ : ∃ E, dat n k = E := ⟨_, rfl⟩
              rw [hE] at hckl e1 e2 OY ON c1 c2 hck2
              obtain ⟨Y, hY⟩ : ∃ Y, M E = Y := ⟨_, rfl⟩
              rw [hY] at OY c1 c2 hck2
              have hXb : -1000001000000 ≤ X ∧ X ≤ 1000001000000 := by have := hX.out; have := hxp.out; omega
              obtain ⟨X1, X2⟩ := hXb
              obtain ⟨m0, m1⟩ := mul_bound (a := (E : Int)) (b := Y) (A := 1000) (B := 1000000) (by omega) (by omega) c1 c2
              clear hcf hfr hE ob hY
              by_cases hm : (j : Int) % (E : Int) = 0
              · have HO2 := Lib.hid (OY.out (by omega))
                go_wp2
                go_roundg (i - (k + 1))
                case measure => have := hkk.out; omega
                case rel => exact ⟨k + 1, _, by omega, rfl, by go_num, Lib.hid (by rw [HO2.out, hX.out]; omega), Lib.hid rfl, rfl⟩
              · have hmb : ((j : Int) % (E : Int) == 0) = false := by simpa using hm
                have HO2 := Lib.hid (ON.out (fun h => hm (by omega)))
                go_wp2
                go_roundg (i - (k + 1))
                case measure => have := hkk.out; omega
                case rel => exact ⟨k + 1, X, by omega, rfl, by go_num, Lib.hid (by rw [HO2.out]; exact hX.out), Lib.hid rfl, rfl⟩
            · have e : k = i := by omega
              subst e
              have HXV : Hid (X = (j : Int) * M j) := Lib.hid (by rw [hX.out, HFRi.out])
              obtain ⟨c1, c2⟩ := HMD.out
              obtain ⟨m0, m1⟩ := mul_bound (a := (j : Int)) (b := M j) (A := 1000) (B := 1000000) (by omega) (by omega) c1 c2
              have hX0 : 0 ≤ X := by have := HXV.out; omega
              have hX9 : X ≤ 1000000000 := by have := HXV.out; omega
              have HQ : Hid (X / (j : Int) = M j) := Lib.hid (by rw [HXV.out]; exact Int.mul_ediv_cancel_left _ (by omega))
              obtain ⟨_, _, hcf, hfr⟩ := hR.out.flat
              have hcs := hcf k hlt
              have hfs := hfr k
              have HS0 := hR.out.flset k (X / (j : Int))
              have HX3 := Lib.hid (ex_grown hx HS0.2 (by intro k hk; cases hk; rw [HB.out]; exact Nat.le_refl _))
              have HSR := Lib.hid HS0.1
              have HF2 : Hid (∀ t, t < k + 1 → upd F k (X / (j : Int)) t = M (dat n t)) := Lib.hid fun t ht => by
                by_cases e : t = k
                · subst e; rw [upd_at, HQ.out, HD.out]
                · rw [upd_ne e]; exact hF.out t (by omega)
              have q0 := Int.ediv_nonneg (a := X) (b := (j : Int)) hX0 (by omega)
              have q1 := Int.ediv_le_self (a := X) (j : Int) hX0
              clear hcf hfr HS0 m0 m1
              go_wp2
              go_roundg (L - (k + 1))
              case measure => have := hk.out; omega
              case rel => exact ⟨k + 1, _, by omega, by go_num, HF2, HSR, Lib.hid rfl, HX3.out⟩
    · have e : i = L := by omega
      subst e
      obtain ⟨K, rfl⟩ : ∃ K, i = K + 1 := ⟨i - 1, by omega⟩
      obtain ⟨_, _, hcf, hfr⟩ := hR.out.flat
      have hcm := hcf K (by omega)
      rw [hF.out K (by omega)] at hcm
      have hlast := HLAST.out
      rw [Nat.add_sub_cancel] at hlast
      rw [hlast] at hcm
      clear hcf hfr hlast
      go_wp2
      go_ret
      exact ⟨rfl, HX1.out.trans hx⟩

/-- What is left is nothing if and only if it divides. -/
theorem rest_di {p : Int} {f g q r : List Int} (hp : Prm p) (hg : Po.Can p g) (h0 : g ≠ []) (hD : IsDv p f g q r) : r = [] ↔ Di p g f := by
  have p2 := hp.1
  constructor
  · rintro rfl
    refine ⟨q, fun i => ?_⟩
    have := hD.2.2.2 i
    rwa [c_add, c_nil, Int.add_zero] at this
  · rintro ⟨s, hs⟩
    have h1 : IsDv p f g (red p s) [] := ⟨can_red (by omega) s, Can.nil p, by have := List.length_pos_iff.mpr h0; simpa using this, fun i => by
      rw [c_add, c_nil, Int.add_zero]
      exact ((cg_red p s).mul (Cg.refl p g)).trans hs i⟩
    exact (IsDv.uniq hp hg h0 hD h1).2

/-- No monic one of degree below m divides it. -/
def NoLow (p : Int) (f : List Int) (m : Nat) : Prop := ∀ k g, 1 ≤ k → k < m → Mo p k g → ¬ Di p g f

theorem noLow_step {q m : Nat} {f : List Int} (hp : Prm q) (h : NoLow q f m) (hn : ∀ y, y < q ^ m → ¬ Di q (mo q m y) f) : NoLow q f (m + 1) := by
  intro k g h1 h2 hg hd
  by_cases e : k = m
  · subst e
    have := hn (code q k g) (code_lt hg)
    rw [mo_code hp hg] at this
    exact this hd
  · exact h k g h1 (by omega) hg hd

theorem noLow_irr {p : Int} {m : Nat} {f : List Int} (hp : Prm p) (hf : Po.Can p f) (hl : 2 ≤ f.length) (h : NoLow p f m) (hm : f.length - 1 < 2 * m) : Irr p f :=
  (irr_trial hp hf hl).mpr fun k g h1 h2 hg => h k g h1 (by omega) hg

theorem low_not {q m y : Nat} {f : List Int} (hp : Prm q) (hm : 1 ≤ m) (hm2 : m + 1 < f.length) (hd : Di q (mo q m y) f) : ¬ Irr q f := fun h =>
  h.2.2 _ (mo_is hp m y).1 (by rw [(mo_is hp m y).2.1]; omega) (by rw [(mo_is hp m y).2.1]; omega) hd

theorem dg_take {q m y t : Nat} (h : t < m) : (dg q m y).take t ++ [((dgt q y t : Nat) : Int)] = (dg q m y).take (t + 1) := by
  have hl : t < (dg q m y).length := by rw [dg_length]; exact h
  rw [← nth_dg q m y t h, nth_eq hl, List.take_append_getElem hl]

set_option maxRecDepth 100000 in
set_option maxHeartbeats 8000000 in
theorem alone_any (p : Int) (q : Nat) (f : List Int) (a : Option Addr) (N ca : Nat) (w : World) (hp : Prm p) (hq : (q : Int) = p) (p9 : p ≤ 997) (hf : Po.Can p f) (hN : f.length = N) (hl : N ≤ 40) (hbig : ∀ m, m + 2 ≤ N → 2 * m ≤ N + 1 → p ^ m ≤ 1000000)
    (hr : Reads w .i64 a f) (hnil : a = none → ca = 0) (hcap : N ≤ ca) (hc9 : ca ≤ 9223372036854775807) (b : Bool) (hb : b = true ↔ Irr p f) :
    Calls Try.prog 12 #[.int .i64 p, .slice a N ca] w (Says (.bool b) w) := by
  subst hq
  have p2 := hp.1
  by_cases h2 : N < 2
  · have hb2 : b = false := by
      have : b ≠ true := fun h => irr_not (by omega) (hb.mp h)
      simpa using this
    subst hb2
    clear hb hf hr hnil hN hbig hp
    go_enter Try.func12, Try.ntmps12
    go_wp2
    go_ret
    exact ⟨rfl, Ex.refl _⟩
  · have hN2 : 2 ≤ N := by omega
    have HYS : Hid (∀ m, NoLow q f m → N - 1 < 2 * m → b = true) := Lib.hid fun m h1 h2 => hb.mpr (noLow_irr hp hf (by omega) h1 (by omega))
    have HST : Hid (∀ m, NoLow q f m → (∀ y, y < q ^ m → ¬ Di q (mo q m y) f) → NoLow q f (m + 1)) := Lib.hid fun m h1 h2 => noLow_step hp h1 h2
    have HNO : Hid (∀ m y, 1 ≤ m → m + 1 < N → Di q (mo q m y) f → b = false) := Lib.hid fun m y h1 h2 h3 => by
      have : b ≠ true := fun h => low_not hp h1 (by omega) h3 (hb.mp h)
      simpa using this
    have H0 : Hid (NoLow q f 1) := Lib.hid fun k g h1 h2 => by omega
    have HRM : Hid (∀ m y, ∃ r : List Int, (r = [] ↔ Di q (mo q m y) f) ∧ (m ≤ 50 → ∀ (ad : Option Addr) (cp : Nat) (w2 : World), Ex w w2 → Reads w2 .i64 ad (mo q m y) → Calls Try.prog 33 #[.int .i64 (q : Int), .slice a N ca, .slice ad (m + 1) cp] w2 (Row1 r w2))) := Lib.hid fun m y => by
      have hm := mo_is hp m y
      obtain ⟨s, r, hD⟩ := dv_some hp hf hm.1 hm.ne
      refine ⟨r, rest_di hp hm.1 hm.ne hD, fun hm5 ad cp w2 hx hr2 => ?_⟩
      have := refRemain_any q f (mo q m y) a ad ca cp w2 hp p9 hf hm.1 hm.ne (by omega) (by rw [hm.2.1]; omega) (hr.ex hx) hnil (by omega) hc9 hr2 s r hD
      rw [hN, hm.2.1] at this
      exact this
    have HBG : Hid (∀ m, m + 2 ≤ N → 2 * m ≤ N + 1 → ∀ j, j ≤ m → 1 ≤ (q : Int) ^ j ∧ (q : Int) ^ j ≤ 1000000) := Lib.hid fun m h1 h2 j hj => by
      have h3 := pow_grows (p := (q : Int)) (by omega) hj
      have h4 := Int.pow_pos (n := (q : Int)) (m := j) (by omega)
      have h5 := hbig m h1 h2
      omega
    have HS := Lib.hid fun i => Int.pow_succ (q : Int) i
    have HP0 : Hid ((q : Int) ^ 0 = 1) := Lib.hid (Int.pow_zero _)
    have HNP : Hid (∀ m, (q : Int) ^ m = ((q ^ m : Nat) : Int)) := Lib.hid fun m => (Int.natCast_pow q m).symm
    have HD : Hid (∀ y t, ((y / q ^ t : Nat) : Int) % (q : Int) = ((dgt q y t : Nat) : Int)) := Lib.hid fun y t => by unfold dgt; rw [Int.natCast_emod]
    have HQ : Hid (∀ y t, ((y / q ^ t : Nat) : Int) / (q : Int) = ((y / q ^ (t + 1) : Nat) : Int)) := Lib.hid fun y t => by rw [Nat.pow_succ, ← Nat.div_div_eq_div_mul]; exact (Int.natCast_ediv (y / q ^ t) q).symm
    have HQB : Hid (∀ y t, y / q ^ t ≤ y) := Lib.hid fun y t => Nat.div_le_self _ _
    have HQ0 : Hid (∀ y, ((y / q ^ 0 : Nat) : Int) = y) := Lib.hid fun y => by rw [Nat.pow_zero, Nat.div_one]
    have HTK : Hid (∀ m y t, t < m → (dg q m y).take t ++ [((dgt q y t : Nat) : Int)] = (dg q m y).take (t + 1)) := Lib.hid fun m y t h => dg_take h
    have HTL : Hid (∀ m y t, t ≤ m → ((dg q m y).take t).length = t) := Lib.hid fun m y t h => by rw [List.length_take, dg_length]; omega
    have HTE : Hid (∀ m y, (dg q m y).take m ++ [1] = mo q m y) := Lib.hid fun m y => by
      have : (dg q m y).take m = dg q m y := List.take_of_length_le (by rw [dg_length]; exact Nat.le_refl _)
      rw [this]; rfl
    have HML : Hid (∀ m y, (mo q m y).length = m + 1) := Lib.hid fun m y => (mo_is hp m y).2.1
    have HT0 : Hid (∀ m y, (dg q m y).take 0 = []) := Lib.hid fun m y => List.take_zero
    obtain ⟨p, hpq⟩ : ∃ p : Int, (q : Int) = p := ⟨_, rfl⟩
    rw [hpq] at HYS HST HNO H0 HRM HBG HS HP0 HNP HD HQ p2 p9 ⊢
    clear hb hf hr hnil hN hbig hp hpq h2
    go_enter Try.func12, Try.ntmps12
    go_wp2
    go_loopg [5] N (fun k v5 wr => ∃ (m : Nat), 1 ≤ m ∧ m ≤ N ∧ 2 * m ≤ N + 1 ∧ v5 = .int .i64 ((m : Int) + 1) ∧ Hid (NoLow p f m) ∧ Hid (k = N + 1 - m) ∧ Ex w wr)
    case atStart => exact ⟨1, by omega, by omega, by omega, by go_num, H0, Lib.hid (by omega), Ex.refl _⟩
    case round =>
      rename World => wo
      obtain ⟨m, m1, mN, m2, rfl, hNL, hk, hx⟩ := hrel
      by_cases hlt : m + 1 < N
      · have hd1 : decide ((m : Int) + 1 < (N : Int)) = true := decide_eq_true (by omega)
        go_wp2
        go_loopg [6, 20] m (fun k v6 v20 y => ∃ (j : Nat) (x : Int), j ≤ m ∧ 1 ≤ x ∧ x ≤ 1000000 ∧ v6 = .int .i64 x ∧ v20 = .int .i64 j ∧ Hid (x = p ^ j) ∧ Hid (k = m - j) ∧ y = wo)
        case atStart => exact ⟨0, 1, by omega, by omega, by omega, rfl, rfl, Lib.hid HP0.out.symm, Lib.hid rfl, rfl⟩
        case round =>
          obtain ⟨j, x, hj, x1, x9, rfl, rfl, hxp, hkj, rfl⟩ := hrel
          by_cases hjl : j < m
          · have HN : Hid (x * p = p ^ (j + 1)) := Lib.hid (by rw [HS.out, hxp.out])
            obtain ⟨y1, y9⟩ := HBG.out m (by omega) (by omega) (j + 1) (by omega)
            rw [← HN.out] at y1 y9
            go_wp2
            go_roundg (m - (j + 1))
            case measure => have := hkj.out; omega
            case rel => exact ⟨j + 1, x * p, by omega, y1, y9, rfl, by go_num, HN, Lib.hid rfl, rfl⟩
          · have e : j = m := by omega
            subst e
            obtain ⟨K, hK⟩ : ∃ K : Nat, q ^ j = K := ⟨_, rfl⟩
            have hxK : x = (K : Int) := by rw [hxp.out, HNP.out, hK]
            have HK := Lib.hid hK
            subst hxK
            clear hK
            by_cases hbr : N - 1 < 2 * j
            · have HF := Lib.hid (HYS.out j hNL.out hbr)
              go_wp2
              go_ret
              exact ⟨by rw [HF.out]; rfl, hx⟩
            · have hd2 : decide ((N : Int) - 1 < 2 * (j : Int)) = false := decide_eq_false (by omega)
              go_wp2
              go_loopg [34] K (fun k v34 y => ∃ (i : Nat), i ≤ K ∧ v34 = .int .i64 i ∧ Hid (∀ z, z < i → ¬ Di p (mo q j z) f) ∧ Hid (k = K - i) ∧ Ex w y)
              case atStart => exact ⟨0, by omega, rfl, Lib.hid (fun z hz => absurd hz (Nat.not_lt_zero _)), Lib.hid rfl, hx⟩
              case round =>
                rename World => w4
                obtain ⟨i, hi, rfl, hNo, hki, hx4⟩ := hrel
                by_cases hil : i < K
                · obtain ⟨r, hr1, hr2⟩ := HRM.out j i
                  have HR1 := Lib.hid hr1
                  have HR2 := Lib.hid (hr2 (by omega))
                  have hil2 : (i : Int) < (K : Int) := by omega
                  have hTK := Lib.hid (HTK.out j i)
                  have hTL := Lib.hid (HTL.out j i)
                  have hTE := Lib.hid (HTE.out j i)
                  have hT0 := Lib.hid (HT0.out j i)
                  have hDi := Lib.hid (HD.out i)
                  have hQi := Lib.hid (HQ.out i)
                  have hQB := Lib.hid (HQB.out i)
                  clear hr1 hr2
                  obtain ⟨T, hT⟩ : ∃ T : Nat → List Int, (fun t => (dg q j i).take t) = T := ⟨_, rfl⟩
                  have eT : ∀ t, (dg q j i).take t = T t := fun t => congrFun hT t
                  simp only [eT] at hTK hTL hTE hT0
                  clear eT hT
                  go_wp2
                  go_loopg [7, 8, 39] j (fun k v7 v8 v39 y => ∃ (t Y : Nat) (ad : Option Addr) (cp : Nat), t ≤ j ∧ v7 = .int .i64 Y ∧ v8 = .slice ad t cp ∧ v39 = .int .i64 t ∧ Hid (Y = i / q ^ t) ∧ Hid (Row 3 .i64 y w.heap.size (.slice ad t cp) (T t)) ∧ Hid (k = j - t) ∧ Ex w y)
                  case atStart => exact ⟨0, i, none, 0, by omega, rfl, rfl, rfl, Lib.hid (by rw [Nat.pow_zero, Nat.div_one]), Lib.hid (by rw [hT0.out]; exact Row.nil _ _ _ _), Lib.hid rfl, hx4⟩
                  case round =>
                    obtain ⟨t, Y, ad, cp, ht, rfl, rfl, rfl, hY, hR, hkt, hx5⟩ := hrel
                    by_cases htl : t < j
                    · have d0 : (Y : Int) % p = ((dgt q i t : Nat) : Int) := by rw [hY.out]; exact hDi.out t
                      have dq : (Y : Int) / p = ((i / q ^ (t + 1) : Nat) : Int) := by rw [hY.out]; exact hQi.out t
                      have yb : Y ≤ i := by rw [hY.out]; exact hQB.out t
                      have HDQ := Lib.hid dq
                      have HTK2 := Lib.hid (hTK.out t htl)
                      rw [← d0] at HTK2
                      have q0 := Int.ediv_nonneg (a := (Y : Int)) (b := p) (by omega) (by omega)
                      have q1 := Int.ediv_le_self (a := (Y : Int)) p (by omega)
                      have c1 := cell_fresh wr (.int .i64 ((Y : Int) % p)) 3
                      have HX := Lib.hid (hx5.alloc (.cells #[.int .i64 ((Y : Int) % p)] 3))
                      have HRA := Lib.hid (hR.out.ex ((Ex.refl wr).alloc (.cells #[.int .i64 ((Y : Int) % p)] 3)))
                      have HLE := Lib.hid (hTL.out t (by omega))
                      have HLE2 := Lib.hid (hTL.out (t + 1) (by omega))
                      clear d0 dq
                      go_wp2_with (first
                        | (at_builtin; refine wpList_append_int rfl _ _ 22 rfl w.heap.size 3 .i64 8 Try.underlying22 info_int _ (T t) rfl HRA.out ((Y : Int) % p) wr.heap.size rfl c1 (by rw [HLE.out]; unfold maxLen; omega) (by rw [HLE.out]; omega) HX.out.size ?_; intro v1 w6 hown3 hgrow3 hat3
                           have HX3 := Lib.hid (HRA.out.grown HX.out hgrow3)
                           rw [HTK2.out] at hown3
                           obtain ⟨ad3, cp3, rfl, _, _, _⟩ := hown3.reads
                           rw [HLE2.out] at hown3 ⊢
                           have HR3 := Lib.hid hown3
                           clear hown3 hgrow3 hat3 c1))
                      go_roundg (j - (t + 1))
                      case measure => have := hkt.out; omega
                      case rel => exact ⟨t + 1, i / q ^ (t + 1), ad3, cp3, by omega, by rw [← HDQ.out], rfl, by go_num, Lib.hid rfl, HR3, Lib.hid rfl, HX3.out⟩
                    · have e : t = j := by omega
                      subst e
                      have c1 := cell_fresh wr (.int .i64 1) 3
                      have HX := Lib.hid (hx5.alloc (.cells #[.int .i64 1] 3))
                      have HRA := Lib.hid (hR.out.ex ((Ex.refl wr).alloc (.cells #[.int .i64 1] 3)))
                      have HLE := Lib.hid (hTL.out t (by omega))
                      have HLE2 := Lib.hid (HML.out t i)
                      go_wp2_with (first
                        | (at_builtin; refine wpList_append_int rfl _ _ 22 rfl w.heap.size 3 .i64 8 Try.underlying22 info_int _ (T t) rfl HRA.out 1 wr.heap.size rfl c1 (by rw [HLE.out]; unfold maxLen; omega) (by rw [HLE.out]; omega) HX.out.size ?_; intro v1 w6 hown3 hgrow3 hat3
                           have HX3 := Lib.hid (HRA.out.grown HX.out hgrow3)
                           rw [hTE.out] at hown3
                           obtain ⟨ad3, cp3, rfl, _, hr3, _⟩ := hown3.reads
                           rw [HLE2.out]
                           have HT := Lib.hid (HR2.out ad3 cp3 w6 HX3.out hr3)
                           clear hown3 hgrow3 hat3 c1 hr3)
                        | (go_at_call 33; (with_reducible refine (HT.out).mono ?_); rintro e w7 ⟨v7, rfl, hrow7, hw7⟩
                           obtain ⟨a7, c7, rfl, _, _, _⟩ := hrow7.out.reads
                           have HX7 := Lib.hid (HX3.out.trans hw7)
                           obtain ⟨Z, hZ⟩ : ∃ Z, r.length = Z := ⟨_, rfl⟩
                           have HZ := Lib.hid hZ
                           rw [hZ]
                           clear hrow7 hZ))
                      · rename_i hz0
                        have hz : Z = 0 := by simpa using hz0
                        have hd := HR1.out.mp (List.length_eq_zero_iff.mp (HZ.out.trans hz))
                        have HF := Lib.hid (HNO.out t i (by omega) (by omega) hd)
                        go_ret
                        exact ⟨by rw [HF.out]; rfl, HX7.out⟩
                      · rename_i hz0
                        have hz : Z ≠ 0 := by simpa using hz0
                        have hnd : ¬ Di p (mo q t i) f := fun h => hz (by rw [← HZ.out, HR1.out.mpr h]; rfl)
                        have HNN : Hid (∀ z, z < i + 1 → ¬ Di p (mo q t z) f) := Lib.hid fun z hz => by
                          by_cases e : z = i
                          · rw [e]; exact hnd
                          · exact hNo.out z (by omega)
                        clear hnd
                        go_roundg (K - (i + 1))
                        case measure => have := hki.out; omega
                        case rel => exact ⟨i + 1, by omega, by go_num, HNN, Lib.hid rfl, HX7.out⟩
                · have e : i = K := by omega
                  subst e
                  have HNX := Lib.hid (HST.out j hNL.out (by rw [HK.out]; exact hNo.out))
                  go_wp2
                  go_roundg (N - j)
                  case measure => have := hk.out; omega
                  case rel => exact ⟨j + 1, by omega, by omega, by omega, by go_num, HNX, Lib.hid (by omega), hx4⟩
      · have HF := Lib.hid (HYS.out m hNL.out (by omega))
        go_wp2
        go_ret
        exact ⟨by rw [HF.out]; rfl, hx⟩

end Go.Proofs.Ytimehaolaeedhaa
