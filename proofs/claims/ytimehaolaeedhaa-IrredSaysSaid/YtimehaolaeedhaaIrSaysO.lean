/-
  IrredSays where there are such: walked.
-/
import Derived.Test.YtimehaolaeedhaaIrSays
namespace Go.Proofs.Ytimehaolaeedhaa
open Go.RowKit
open Pr Po

set_option maxRecDepth 100000 in
set_option maxHeartbeats 8000000 in
theorem irredSays_ok (p : Int) (a1 : Option Addr) (l1 c1 : Nat) (xs : List Int) (n : Int) (w : World) (h1 : IsInts .i64 8 w a1 l1 c1 xs) (hE : cmE p n = 0) :
    Calls Try.prog 3 #[.int .i64 p, .slice a1 l1 c1, .int .i64 n] w (Says (.bool true) w) := by
  obtain ⟨e1, k1, m1, r1, n1, _⟩ := h1
  obtain ⟨hp, p9, nn1, nn4, hle⟩ := cmE_zero.mp hE
  have p2 := hp.1
  obtain ⟨q, hqp⟩ : ∃ q : Nat, (q : Int) = p := ⟨p.toNat, by omega⟩
  obtain ⟨K, hnK⟩ : ∃ K : Nat, n = K := ⟨n.toNat, by omega⟩
  subst hnK
  have hpq : Prm (q : Int) := by rw [hqp]; exact hp
  obtain ⟨x0, hx, hI, hno⟩ := ir_first hpq (n := K) (by omega)
  have hm := mo_is hpq K x0
  have hmy := fun y => mo_is hpq K y
  rw [Int.toNat_natCast] at hle
  have hxq : x0 ≤ 1000000 := by
    rw [← hqp, ← Int.natCast_pow] at hle
    omega
  have HVS : Hid (∀ t, ((x0 / q ^ (t + 1) : Nat) : Int) * p + ((dgt q x0 t : Nat) : Int) = ((x0 / q ^ t : Nat) : Int)) := Lib.hid fun t => by
    rw [← hqp]
    unfold dgt
    rw [Nat.pow_succ, ← Nat.div_div_eq_div_mul, ← Int.natCast_mul, ← Int.natCast_add, Nat.mul_comm, Nat.div_add_mod]
  have HD : Hid (∀ y t, ((y / q ^ t : Nat) : Int) % p = ((dgt q y t : Nat) : Int)) := Lib.hid fun y t => by rw [← hqp]; unfold dgt; rw [Int.natCast_emod]
  have HQ : Hid (∀ y t, ((y / q ^ t : Nat) : Int) / p = ((y / q ^ (t + 1) : Nat) : Int)) := Lib.hid fun y t => by rw [← hqp, Nat.pow_succ, ← Nat.div_div_eq_div_mul]; exact (Int.natCast_ediv (y / q ^ t) q).symm
  rw [hqp] at hI hno hm hmy
  obtain ⟨G, hGd⟩ : ∃ G : List Int, mo q K x0 = G := ⟨_, rfl⟩
  obtain ⟨N, hNd⟩ : ∃ N : Nat, K + 1 = N := ⟨_, rfl⟩
  obtain ⟨cE, hcE⟩ : ∃ cE : Int, cE = 0 := ⟨_, rfl⟩
  have hFI : ∀ w2, Calls Try.prog 8 #[.int .i64 p, .int .i64 K] w2 (FirstR cE N G w2) := fun w2 => by
    refine (first_ok p q K x0 w2 hqp hE hx hI hno).mono ?_
    rintro e w3 ⟨v, rfl, hrow, hx⟩
    have hl := hm.2.1
    rw [← hGd, hcE]
    obtain ⟨a2, c2, rfl, _, hr, hnil⟩ := hrow.out.reads
    rcases hrow.out.cases with ⟨_, h2⟩ | ⟨g, cap, h2, h3, h4⟩
    · rw [h2] at hl; simp at hl
    · simp only [Value.slice.injEq] at h2
      obtain ⟨rfl, _, rfl⟩ := h2
      rw [hl, hNd] at h3 ⊢
      exact ⟨_, _, rfl, Lib.hid fun _ => ⟨hr, hnil, h3, h4⟩, hx⟩
  have hCO := fun w2 => count_ok p q K w2 hqp hE
  have HAM := Lib.hid fun w2 => aloneMany_any p q K w2 hp hqp p9 (by omega) (by omega) hle
  obtain ⟨C, hCd⟩ : ∃ C : Int, ((ir q K).length : Int) = C := ⟨_, rfl⟩
  rw [hCd] at hCO HAM
  replace hCO : ∀ w2, Calls Try.prog 9 #[.int .i64 p, .int .i64 K] w2 (Says (.tuple #[.int .i64 C, .int .i64 cE]) w2) := fun w2 => by rw [hcE]; exact hCO w2
  have HCE := Lib.hid hcE
  have HFZ : Hid (∀ w2, Calls Try.prog 13 #[.int .i64 p] w2 (Says (.int .i64 0) w2)) := Lib.hid fun w2 => by
    have := fieldErr_any p w2
    rwa [fieldE_zero.mpr ⟨hp, p9⟩] at this
  have HPW2 := Lib.hid fun w2 => powered_any p K w2 (by omega) p9 (by omega)
  have hZ2 : ¬ 1000000 < pdV p K := by rw [pdV_large]; omega
  obtain ⟨Z2, hZ2d⟩ : ∃ Z2, pdV p K = Z2 := ⟨_, rfl⟩
  rw [hZ2d] at HPW2 hZ2
  have HZ2 := Lib.hid hZ2
  have HPG : Hid (∀ (ag : Option Addr) (cg : Nat) (w2 : World), Reads w2 .i64 ag G → Calls Try.prog 10 #[.int .i64 p, .slice ag N cg] w2 (Says (.int .i64 0) w2)) := Lib.hid fun ag cg w2 hr => by
    have := polyErr_any p (mo q K x0) ag cg w2 (by rw [hm.2.1]; unfold maxLen; omega) (by rw [hGd]; exact hr)
    rw [polyE_zero.mpr ⟨hp, p9, by rw [hm.2.1]; omega, hm.1⟩, hm.2.1, hNd] at this
    exact this
  have hbig : ∀ m, m + 2 ≤ K + 1 → 2 * m ≤ K + 1 + 1 → p ^ m ≤ 1000000 := fun m h3 _ => by
    have := pow_grows (p := p) (i := m) (n := K) (by omega) (by omega)
    omega
  have HAG : Hid (∀ (ag : Option Addr) (cg : Nat) (w2 : World), Reads w2 .i64 ag G → (ag = none → cg = 0) → N ≤ cg → cg ≤ 9223372036854775807 → Calls Try.prog 12 #[.int .i64 p, .slice ag N cg] w2 (Says (.bool true) w2)) := Lib.hid fun ag cg w2 g1 g2 g3 g4 => by
    rw [← hNd]
    exact alone_any p q (mo q K x0) ag (K + 1) cg w2 hp hqp p9 hm.1 hm.2.1 (by omega) hbig (by rw [hGd]; exact g1) g2 (by omega) g4 true ⟨fun _ => hI, fun _ => rfl⟩
  have HAN : Hid (∀ y, y < x0 → ∀ (ad : Option Addr) (cp : Nat) (w2 : World), Reads w2 .i64 ad (mo q K y) → (ad = none → cp = 0) → K + 1 ≤ cp → cp ≤ 9223372036854775807 → Calls Try.prog 12 #[.int .i64 p, .slice ad (K + 1) cp] w2 (Says (.bool false) w2)) := Lib.hid fun y hy ad cp w2 g1 g2 g3 g4 =>
    alone_any p q (mo q K y) ad (K + 1) cp w2 hp hqp p9 (hmy y).1 (hmy y).2.1 (by omega) hbig g1 g2 g3 g4 false ⟨fun h => by simp at h, fun h => absurd h (hno y hy)⟩
  have HNT : Hid (∀ t, t < K → nth G t = ((dgt q x0 t : Nat) : Int)) := Lib.hid fun t ht => by rw [← hGd, mo_fl, fl_nth (by omega), if_pos ht]
  have HNL : Hid (nth G K = 1) := Lib.hid (by rw [← hGd, mo_fl, fl_nth (by omega), if_neg (by omega)])
  have HML : Hid (G.length = K + 1) := Lib.hid (by rw [← hGd]; exact hm.2.1)
  have HV0 : Hid (((x0 / q ^ 0 : Nat) : Int) = x0) := Lib.hid (by rw [Nat.pow_zero, Nat.div_one])
  have HVK : Hid (((x0 / q ^ K : Nat) : Int) = 0) := Lib.hid (by rw [Nat.div_eq_of_lt hx]; rfl)
  have HDB : Hid (∀ t, dgt q x0 t < q) := Lib.hid fun t => Nat.mod_lt _ (by omega)
  have HQB : Hid (∀ y t, y / q ^ t ≤ y) := Lib.hid fun y t => Nat.div_le_self _ _
  have HQ0 : Hid (∀ y, y / q ^ 0 = y) := Lib.hid fun y => by rw [Nat.pow_zero, Nat.div_one]
  have HTK : Hid (∀ y t, t < K → (dg q K y).take t ++ [((dgt q y t : Nat) : Int)] = (dg q K y).take (t + 1)) := Lib.hid fun y t h => dg_take h
  have HTL : Hid (∀ y t, t ≤ K → ((dg q K y).take t).length = t) := Lib.hid fun y t h => by rw [List.length_take, dg_length]; omega
  have HTE : Hid (∀ y, (dg q K y).take K ++ [1] = mo q K y) := Lib.hid fun y => by
    have : (dg q K y).take K = dg q K y := List.take_of_length_le (by rw [dg_length]; exact Nat.le_refl _)
    rw [this]; rfl
  have HMY : Hid (∀ y, (mo q K y).length = K + 1) := Lib.hid fun y => (hmy y).2.1
  have HT0 : Hid (∀ y, (dg q K y).take 0 = []) := Lib.hid fun y => List.take_zero
  have HNK := Lib.hid hNd
  have hq9 : (q : Int) ≤ 997 := by omega
  have HQP := Lib.hid hqp
  clear hp hpq hx hI hno hm hmy hle hGd hNd hcE hCd hE hZ2 hZ2d hbig hqp
  have HFI := Lib.hid hFI
  have HCO := Lib.hid hCO
  obtain ⟨b, hb, hb'⟩ : ∃ b : Bool, (isE p xs ≠ 0 → b = false) ∧ (isE p xs = 0 → (b = true ↔ Irr p xs)) := by
    by_cases h : isE p xs = 0
    · exact ⟨yes (Irr p xs), fun h2 => absurd h h2, fun _ => yes_iff⟩
    · exact ⟨false, fun _ => rfl, fun h2 => absurd h2 h⟩
  have HIS := Lib.hid (is_any p xs a1 l1 c1 w e1 (by unfold maxLen; omega) r1 n1 b hb hb')
  have HPE := Lib.hid fun w2 (hx : Ex w w2) => polyErr_any p xs a1 c1 w2 (by unfold maxLen; omega) (r1.ex hx)
  rw [e1] at HPE
  have HFE := Lib.hid fun w2 => fieldErr_any p w2
  have hE1 : isE p xs = if polyE p xs ≠ 0 then polyE p xs else pwE p (l1 / 2 + 1) := by unfold isE; rw [e1]
  have HPW : Hid (polyE p xs = 0 → ∀ (x : Int) (w2 : World), x = (l1 : Int) / 2 + 1 → Calls Try.prog 11 #[.int .i64 p, .int .i64 x] w2 (Says (.int .i64 (pdV p (l1 / 2 + 1))) w2)) := Lib.hid fun h x w2 hx => by
    obtain ⟨hp, p9, hl, _⟩ := polyE_zero.mp h
    have := hp.1
    rw [show x = ((l1 / 2 + 1 : Nat) : Int) by omega]
    exact powered_any p (l1 / 2 + 1) w2 (by omega) p9 (by omega)
  have HPZ : Hid (polyE p xs = 0 → l1 ≤ 40) := Lib.hid fun h => by rw [← e1]; exact (polyE_zero.mp h).2.2.1
  have HAL : Hid (isE p xs = 0 → ∀ w2, Ex w w2 → Calls Try.prog 12 #[.int .i64 p, .slice a1 l1 c1] w2 (Says (.bool b) w2)) := Lib.hid fun h w2 hx => by
    obtain ⟨h2, hle⟩ := isE_zero.mp h
    obtain ⟨hp, p9, hl, hf⟩ := polyE_zero.mp h2
    have p2 := hp.1
    obtain ⟨r, hr⟩ : ∃ r : Nat, (r : Int) = p := ⟨p.toNat, by omega⟩
    refine alone_any p r xs a1 l1 c1 w2 hp hr p9 hf e1 (by omega) (fun m h3 h4 => ?_) (r1.ex hx) n1 k1 (by omega) b (hb' h)
    have := pow_grows (p := p) (i := m) (n := xs.length / 2 + 1) (by omega) (by omega)
    omega
  obtain ⟨bl, hbl, hbl'⟩ := bool_if (polyE p xs = 0 ∧ 1000000 < p ^ (l1 / 2 + 1))
  have HBL := Lib.hid hbl
  have HBL' := Lib.hid hbl'
  have HE1 : Hid ((bl = true → isE p xs = 2) ∧ (bl = false → isE p xs = polyE p xs)) := Lib.hid ⟨fun h => by
      have h2 : polyE p xs = 0 ∧ 1000000 < p ^ (l1 / 2 + 1) := Classical.byContradiction fun hc => by rw [hbl' hc] at h; cases h
      rw [hE1, if_neg (by simpa using h2.1)]
      unfold pwE
      exact if_pos h2.2, fun h => by
      rw [hE1]
      by_cases h2 : polyE p xs = 0
      · rw [if_neg (by simpa using h2), h2]
        unfold pwE
        refine if_neg fun h3 => ?_
        rw [hbl ⟨h2, h3⟩] at h; cases h
      · exact if_pos h2⟩
  have HLG : Hid (1000000 < pdV p (l1 / 2 + 1) ↔ 1000000 < p ^ (l1 / 2 + 1)) := Lib.hid pdV_large
  have HBE := Lib.hid hb
  obtain ⟨E1, hE1d⟩ : ∃ E1, isE p xs = E1 := ⟨_, rfl⟩
  obtain ⟨P1, hP1d⟩ : ∃ P1, polyE p xs = P1 := ⟨_, rfl⟩
  obtain ⟨Z1, hZ1d⟩ : ∃ Z1, pdV p (l1 / 2 + 1) = Z1 := ⟨_, rfl⟩
  obtain ⟨Y1, hY1d⟩ : ∃ Y1, p ^ (l1 / 2 + 1) = Y1 := ⟨_, rfl⟩
  rw [hE1d] at HIS HAL HE1 HBE
  rw [hP1d] at HPE HPW HPZ HBL HBL' HE1
  rw [hZ1d] at HPW HLG
  rw [hY1d] at HLG HBL HBL'
  have hl1 : l1 ≤ 140737488351232 := by omega
  clear hE1d hP1d hZ1d hY1d hb hb' hbl hbl' hE1 hFI hCO r1 n1 k1 e1
  go_enter Try.func3, Try.ntmps3
  go_upto_region 5 with (first
    | (go_at_call 7; (with_reducible refine (HIS.out).mono ?_); rintro e w1 ⟨rfl, hw1⟩)
    | (go_at_call 8; (with_reducible refine (HFI.out _).mono ?_); rintro e w2 ⟨ag, cg, rfl, hFR, hw2⟩)
    | (go_at_call 9; (with_reducible refine (HCO.out _).mono ?_); rintro e w3 ⟨rfl, hw3⟩)
    | (go_at_call 10; (with_reducible refine (HPE.out _ (by repeat (first | assumption | exact Ex.refl _ | refine Ex.trans ?_ (by assumption)))).mono ?_); rintro e w4 ⟨rfl, hw4⟩))
  have HX4 : Hid (Ex w w4) := Lib.hid (by repeat (first | assumption | exact Ex.refl _ | refine Ex.trans ?_ (by assumption)))
  have HFR : Hid (cE = 0 → Reads w4 .i64 ag G ∧ (ag = none → cg = 0) ∧ N ≤ cg ∧ cg ≤ 9223372036854775807) := Lib.hid fun h => by
    obtain ⟨f1, f2, f3, f4⟩ := hFR.out h
    exact ⟨f1.ex (hw3.trans hw4), f2, f3, f4⟩
  clear hw1 hw2 hw3 hw4 hFR HIS HFI HCO HPE
  go_cut [49] (fun v49 wx => v49 = .bool bl ∧ Ex w4 wx)
  case first =>
    by_cases h0 : P1 = 0
    · have HPP := Lib.hid (HPW.out h0)
      have hl40 := HPZ.out h0
      subst h0
      by_cases h2 : 1000000 < Z1
      · have hbt := HBL.out ⟨rfl, HLG.out.mp h2⟩
        go_wp2_with (go_at_call 11; (with_reducible refine (HPP.out _ _ (by omega)).mono ?_); rintro e w5 ⟨rfl, hw5⟩)
        go_meet
        exact ⟨by rw [hbt], hw5⟩
      · have hbt := HBL'.out (fun h => h2 (HLG.out.mpr h.2))
        go_wp2_with (go_at_call 11; (with_reducible refine (HPP.out _ _ (by omega)).mono ?_); rintro e w5 ⟨rfl, hw5⟩)
        go_meet
        exact ⟨by rw [hbt, decide_eq_false (by omega)], hw5⟩
    · have hbt := HBL'.out (fun h => h0 h.1)
      have hne : (P1 == 0) = false := by simpa using h0
      go_wp2
      go_meet
      exact ⟨by rw [hbt], Ex.refl _⟩
  case rest =>
  obtain ⟨rfl, hx5⟩ := hcut
  rename World => w5
  have HX5 := Lib.hid (HX4.out.trans hx5)
  have HFR5 : Hid (cE = 0 → Reads w5 .i64 ag G ∧ (ag = none → cg = 0) ∧ N ≤ cg ∧ cg ≤ 9223372036854775807) := Lib.hid fun h => by
    obtain ⟨f1, f2, f3, f4⟩ := HFR.out h
    exact ⟨f1.ex hx5, f2, f3, f4⟩
  clear hx5 HFR HX4 HPW HPZ HLG HBL HBL'
  go_upto_if 49 with fail
  go_cut [13] (fun v13 wx => v13 = .int .i64 E1 ∧ w5 = wx)
  case first =>
    cases bl with
    | true =>
      have h := Lib.hid (HE1.out.1 rfl)
      go_wp2
      go_meet
      exact ⟨by rw [h.out], rfl⟩
    | false =>
      have h := Lib.hid (HE1.out.2 rfl)
      go_wp2
      go_meet
      exact ⟨by rw [h.out], rfl⟩
  case rest =>
  obtain ⟨rfl, rfl⟩ := hcut
  clear HE1
  go_upto_region 7 with fail
  go_cut [70] (fun v70 wx => v70 = .bool false ∧ Ex w5 wx)
  case first =>
    by_cases h0 : E1 = 0
    · have HAA := Lib.hid (HAL.out h0 w5 HX5.out)
      subst h0
      cases b with
      | true =>
        go_wp2_with (go_at_call 12; (with_reducible refine (HAA.out).mono ?_); rintro e w6 ⟨rfl, hw6⟩)
        go_meet
        exact ⟨by simp, hw6⟩
      | false =>
        go_wp2_with (go_at_call 12; (with_reducible refine (HAA.out).mono ?_); rintro e w6 ⟨rfl, hw6⟩)
        go_meet
        exact ⟨by simp, hw6⟩
    · have hbf := HBE.out h0
      have hne : (E1 == 0) = false := by simpa using h0
      have hne2 : (E1 != 0) = true := by simpa using h0
      subst hbf
      go_wp2
      go_meet
      exact ⟨by simp, Ex.refl _⟩
  case rest =>
  obtain ⟨rfl, hx6⟩ := hcut
  rename World => w6
  have HX6 := Lib.hid (HX5.out.trans hx6)
  have HFR6 : Hid (cE = 0 → Reads w6 .i64 ag G ∧ (ag = none → cg = 0) ∧ N ≤ cg ∧ cg ≤ 9223372036854775807) := Lib.hid fun h => by
    obtain ⟨f1, f2, f3, f4⟩ := HFR5.out h
    exact ⟨f1.ex hx6, f2, f3, f4⟩
  clear hx6 HFR5 HX5 HAL HBE
  have h0 := HCE.out
  have h2 := HNK.out
  obtain ⟨f1, f2, f3, f4⟩ := HFR6.out h0
  subst h0
  subst h2
  have HFG := Lib.hid f1
  have HF2 := Lib.hid f2
  clear HFR6 HCE HNK f1 f2 HFE
  rcases HFG.out with hn | ⟨gb, go', rfl, hc⟩
  · have := HML.out; rw [hn] at this; simp at this
  have HCG : Hid (∀ w2, Ex w6 w2 → ∀ t, t < K + 1 → w2.cell? ⟨gb, go' + t, none⟩ = some (.int .i64 (nth G t))) := Lib.hid fun w2 hx t ht => hx.cell (hc t (by rw [HML.out]; exact ht))
  have HCK : Hid (∀ w2, Ex w6 w2 → w2.cell? ⟨gb, go' + K, none⟩ = some (.int .i64 1)) := Lib.hid fun w2 hx => by
    have := HCG.out w2 hx K (by omega)
    rwa [HNL.out] at this
  have hz2 := HZ2.out
  clear hc HZ2 HNL HML
  go_wp2_with (first
    | (go_at_call 13; (with_reducible refine (HFZ.out _).mono ?_); rintro e w7 ⟨rfl, hw7⟩)
    | (go_at_call 11; (with_reducible refine (HPW2.out _).mono ?_); rintro e w8 ⟨rfl, hw8⟩)
    | (go_at_call 14; (with_reducible refine (HAM.out _).mono ?_); rintro e w9 ⟨rfl, hw9⟩
       have hx9 := hw7.trans (hw8.trans hw9))
    | (go_at_call 10; (with_reducible refine (HPG.out _ _ _ (HFG.out.ex hx9)).mono ?_); rintro e w10 ⟨rfl, hw10⟩
       have hx10 := hx9.trans hw10
       have hck := HCK.out w10 hx10)
    | (go_at_call 12; (with_reducible refine (HAG.out _ _ _ (HFG.out.ex hx10) HF2.out f3 f4).mono ?_); rintro e w11 ⟨rfl, hw11⟩
       have hx11 := hx10.trans hw11))
  have HX11 : Hid (Ex w6 w11) := Lib.hid hx11
  clear hw7 hw8 hw9 hw10 hw11 hx9 hx10 hx11 hck HPG HAG HAM HPW2 HFZ HF2 HFG HCK hz2 f3 f4
  go_loopg [14, 15] K (fun k v14 v15 wr => ∃ (j : Nat) (i al : Int), j ≤ K ∧ i = (j : Int) - 1 ∧ 0 ≤ al ∧ al ≤ 1000000 ∧ v14 = .int .i64 al ∧ v15 = .int .i64 i ∧ Hid (al = ((x0 / q ^ j : Nat) : Int)) ∧ Hid (k = j) ∧ wr = w11)
  case atStart => exact ⟨K, (K : Int) - 1, 0, by omega, rfl, by omega, by omega, rfl, by go_num, Lib.hid HVK.out.symm, Lib.hid rfl, rfl⟩
  case round =>
    obtain ⟨j, i, al, hj, hij, a0, a9, rfl, rfl, hal, hk, rfl⟩ := hrel
    cases j with
    | succ j =>
      have i0 : 0 ≤ i := by omega
      have eij : i = (j : Int) := by omega
      subst eij
      clear hij
      have hcj := HCG.out _ HX11.out j (by omega)
      rw [HNT.out j (by omega)] at hcj
      have hdb := HDB.out j
      have hvs := HVS.out j
      have hqb := HQB.out x0 j
      rw [← hal.out] at hvs
      obtain ⟨d, hd⟩ : ∃ d : Nat, dgt q x0 j = d := ⟨_, rfl⟩
      rw [hd] at hcj hdb hvs
      have m0 := Int.mul_nonneg (a := al) (b := p) a0 (by omega)
      obtain ⟨y, hy⟩ : ∃ y : Int, al * p = y := ⟨_, rfl⟩
      have HY := Lib.hid hy
      rw [hy] at hvs m0
      have HVN := Lib.hid hvs
      have m9 : y + (d : Int) ≤ 1000000 := by omega
      clear hvs hqb hd
      go_wp2
      go_roundg j
      case measure => have := hk.out; omega
      case rel => exact ⟨j, (j : Int) - 1, y + (d : Int), by omega, by omega, by omega, m9, rfl, by go_num, HVN, Lib.hid rfl, rfl⟩
    | zero =>
      have hneg : i < 0 := by omega
      have hal0 : al = (x0 : Int) := by rw [hal.out, HV0.out]
      subst hal0
      clear hij hal HCG HNT HVS HVK HDB
      go_wp2
      go_loopg [164] x0 (fun k v164 y => ∃ i : Nat, i ≤ x0 ∧ v164 = .int .i64 i ∧ Hid (k = x0 - i) ∧ Ex w6 y)
      case atStart => exact ⟨0, by omega, rfl, Lib.hid rfl, HX11.out⟩
      case round =>
        rename World => wo
        obtain ⟨i, hi, rfl, hki, hx⟩ := hrel
        by_cases hil : i < x0
        · have hil2 : (i : Int) < (x0 : Int) := by omega
          have HANi := Lib.hid (HAN.out i hil)
          have hTK := Lib.hid (HTK.out i)
          have hTL := Lib.hid (HTL.out i)
          have hTE := Lib.hid (HTE.out i)
          have hT0 := Lib.hid (HT0.out i)
          have hDi := Lib.hid (HD.out i)
          have hQi := Lib.hid (HQ.out i)
          have hQB := Lib.hid (HQB.out i)
          have hQ0 := Lib.hid (HQ0.out i)
          have HML := Lib.hid (HMY.out i)
          obtain ⟨T, hT⟩ : ∃ T : Nat → List Int, (fun t => (dg q K i).take t) = T := ⟨_, rfl⟩
          have eT : ∀ t, (dg q K i).take t = T t := fun t => congrFun hT t
          simp only [eT] at hTK hTL hTE hT0
          clear eT hT
          have HA0 := Lib.hid (hx.alloc (.cells #[] 3))
          have HR0 : Hid (Row 3 .i64 (wo.alloc (.cells #[] 3)) w6.heap.size (.slice (some ⟨wo.heap.size, 0, none⟩) 0 0) (T 0)) := Lib.hid (by rw [hT0.out]; exact row_new 3 .i64 wo w6.heap.size hx.size [] #[] rfl (by simp))
          go_wp2
          go_loopg [16, 17, 169] K (fun k v16 v17 v169 y => ∃ (t Y : Nat) (ad : Option Addr) (cp : Nat), t ≤ K ∧ v16 = .int .i64 Y ∧ v17 = .slice ad t cp ∧ v169 = .int .i64 t ∧ Hid (Y = i / q ^ t) ∧ Hid (Row 3 .i64 y w6.heap.size (.slice ad t cp) (T t)) ∧ Hid (k = K - t) ∧ Ex w6 y)
          case atStart => exact ⟨0, i, _, 0, by omega, rfl, rfl, rfl, Lib.hid hQ0.out.symm, HR0, Lib.hid rfl, HA0.out⟩
          case round =>
            obtain ⟨t, Y, ad, cp, ht, rfl, rfl, rfl, hY, hR, hkt, hx5⟩ := hrel
            by_cases htl : t < K
            · have d0 : (Y : Int) % p = ((dgt q i t : Nat) : Int) := by rw [hY.out]; exact hDi.out t
              have dq : (Y : Int) / p = ((i / q ^ (t + 1) : Nat) : Int) := by rw [hY.out]; exact hQi.out t
              have yb : Y ≤ i := by rw [hY.out]; exact hQB.out t
              have HDQ := Lib.hid dq
              have HTK2 := Lib.hid (hTK.out t htl)
              rw [← d0] at HTK2
              have q0 := Int.ediv_nonneg (a := (Y : Int)) (b := p) (by omega) (by omega)
              have q1 := Int.ediv_le_self (a := (Y : Int)) p (by omega)
              have c1 := cell_fresh wr (.int .i64 ((Y : Int) % p)) 3
              have HX := Lib.hid (hx5.alloc (.cells #[.int .i64 ((Y : Int) % p)] 3))
              have HRA := Lib.hid (hR.out.ex ((Ex.refl wr).alloc (.cells #[.int .i64 ((Y : Int) % p)] 3)))
              have HLE := Lib.hid (hTL.out t (by omega))
              have HLE2 := Lib.hid (hTL.out (t + 1) (by omega))
              clear d0 dq
              go_wp2_with (first
                | (at_builtin; refine wpList_append_int rfl _ _ 22 rfl w6.heap.size 3 .i64 8 Try.underlying22 info_int _ (T t) rfl HRA.out ((Y : Int) % p) wr.heap.size rfl c1 (by rw [HLE.out]; unfold maxLen; omega) (by rw [HLE.out]; omega) HX.out.size ?_; intro v1 w8 hown3 hgrow3 hat3
                   have HX3 := Lib.hid (HRA.out.grown HX.out hgrow3)
                   rw [HTK2.out] at hown3
                   obtain ⟨ad3, cp3, rfl, _, _, _⟩ := hown3.reads
                   rw [HLE2.out] at hown3 ⊢
                   have HR3 := Lib.hid hown3
                   clear hown3 hgrow3 hat3 c1))
              go_roundg (K - (t + 1))
              case measure => have := hkt.out; omega
              case rel => exact ⟨t + 1, i / q ^ (t + 1), ad3, cp3, by omega, by rw [← HDQ.out], rfl, by go_num, Lib.hid rfl, HR3, Lib.hid rfl, HX3.out⟩
            · have e : t = K := by omega
              subst e
              have c1 := cell_fresh wr (.int .i64 1) 3
              have HX := Lib.hid (hx5.alloc (.cells #[.int .i64 1] 3))
              have HRA := Lib.hid (hR.out.ex ((Ex.refl wr).alloc (.cells #[.int .i64 1] 3)))
              have HLE := Lib.hid (hTL.out t (by omega))
              go_wp2_with (first
                | (at_builtin; refine wpList_append_int rfl _ _ 22 rfl w6.heap.size 3 .i64 8 Try.underlying22 info_int _ (T t) rfl HRA.out 1 wr.heap.size rfl c1 (by rw [HLE.out]; unfold maxLen; omega) (by rw [HLE.out]; omega) HX.out.size ?_; intro v1 w8 hown3 hgrow3 hat3
                   have HX3 := Lib.hid (HRA.out.grown HX.out hgrow3)
                   rw [hTE.out] at hown3
                   have hcs := hown3.cases
                   obtain ⟨ad3, cp3, rfl, _, hr3, hn3⟩ := hown3.reads
                   rw [HML.out] at hcs ⊢
                   have HCS : Hid (t + 1 ≤ cp3 ∧ cp3 ≤ 9223372036854775807) := Lib.hid (by
                     rcases hcs with ⟨h4, _⟩ | ⟨g4, c4, h4, h5, h6⟩
                     · simp only [Value.slice.injEq] at h4; omega
                     · simp only [Value.slice.injEq] at h4; omega)
                   have HT := Lib.hid (HANi.out ad3 cp3 w8 hr3 hn3 HCS.out.1 HCS.out.2)
                   clear hown3 hgrow3 hat3 c1 hr3 hn3 hcs)
                | (go_at_call 12; (with_reducible refine (HT.out).mono ?_); rintro e w9 ⟨rfl, hw9⟩
                   have HX9 := Lib.hid (HX3.out.trans hw9)))
              go_roundg (x0 - (i + 1))
              case measure => have := hki.out; omega
              case rel => exact ⟨i + 1, by omega, by go_num, Lib.hid rfl, HX9.out⟩
        · have e : i = x0 := by omega
          subst e
          go_wp2
          go_ret
          exact ⟨rfl, HX6.out.trans hx⟩

theorem irredSays_walk (p : Int) (a1 : Option Addr) (l1 c1 : Nat) (xs : List Int) (n : Int) (w : World) (_ : I64 p) (h1 : IsInts .i64 8 w a1 l1 c1 xs) (hn : I64 n) :
    Calls Try.prog 3 #[.int .i64 p, .slice a1 l1 c1, .int .i64 n] w (Says (.bool true) w) := by
  by_cases h : cmE p n = 0
  · exact irredSays_ok p a1 l1 c1 xs n w h1 h
  · exact irredSays_no p a1 l1 c1 xs n w h1 hn h

end Go.Proofs.Ytimehaolaeedhaa
