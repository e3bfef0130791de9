/-
  IrredSays, walked.
-/
import Derived.Test.YtimehaolaeedhaaIrRef
import Derived.Test.YtimehaolaeedhaaGro
import Derived.Deep.CutRange
import Derived.Deep.DeepCutAuto
namespace Go.Proofs.Ytimehaolaeedhaa
open Go.RowKit
open Pr Po

theorem bool_if (A : Prop) : ∃ b : Bool, (A → b = true) ∧ (¬ A → b = false) := by
  by_cases h : A
  · exact ⟨true, fun _ => rfl, fun h2 => absurd h h2⟩
  · exact ⟨false, fun h2 => absurd h2 h, fun _ => rfl⟩

/-- What First hands back. -/
def FirstR (E : Int) (N : Nat) (g : List Int) (w : World) (e : Ending) (w2 : World) : Prop :=
  ∃ a2 c2, e = .returned (.tuple #[.slice a2 N c2, .int .i64 E]) ∧ Hid (E = 0 → Reads w2 .i64 a2 g ∧ (a2 = none → c2 = 0) ∧ N ≤ c2 ∧ c2 ≤ 9223372036854775807) ∧ Ex w w2

set_option maxRecDepth 100000 in
set_option maxHeartbeats 4000000 in
theorem irredSays_no (p : Int) (a1 : Option Addr) (l1 c1 : Nat) (xs : List Int) (n : Int) (w : World) (h1 : IsInts .i64 8 w a1 l1 c1 xs) (hn : I64 n) (hE : cmE p n ≠ 0) :
    Calls Try.prog 3 #[.int .i64 p, .slice a1 l1 c1, .int .i64 n] w (Says (.bool true) w) := by
  obtain ⟨e1, k1, m1, r1, n1, _⟩ := h1
  have hFI := fun w2 => first_no p n w2 hn hE
  have hCO := fun w2 => count_no p n w2 hn hE
  obtain ⟨n0, n9⟩ := hn
  obtain ⟨cE, hcE⟩ : ∃ cE, cmE p n = cE := ⟨_, rfl⟩
  rw [hcE] at hFI hCO hE
  obtain ⟨G, hGd⟩ : ∃ G : List Int, G = [] := ⟨_, rfl⟩
  obtain ⟨N, hNd⟩ : ∃ N : Nat, N = 0 := ⟨_, rfl⟩
  replace hFI : ∀ w2, Calls Try.prog 8 #[.int .i64 p, .int .i64 n] w2 (FirstR cE N G w2) := fun w2 => (hFI w2).mono fun e w3 ⟨he, hx⟩ => ⟨none, 0, by rw [he, hNd], Lib.hid fun h => absurd h hE, hx⟩
  have HCE := Lib.hid hcE
  have HNE := Lib.hid hE
  have HN0 := Lib.hid hNd
  clear hcE hE hGd hNd
  have HFI := Lib.hid hFI
  have HCO := Lib.hid hCO
  obtain ⟨b, hb, hb'⟩ : ∃ b : Bool, (isE p xs ≠ 0 → b = false) ∧ (isE p xs = 0 → (b = true ↔ Irr p xs)) := by
    by_cases h : isE p xs = 0
    · exact ⟨yes (Irr p xs), fun h2 => absurd h h2, fun _ => yes_iff⟩
    · exact ⟨false, fun _ => rfl, fun h2 => absurd h2 h⟩
  have HIS := Lib.hid (is_any p xs a1 l1 c1 w e1 (by unfold maxLen; omega) r1 n1 b hb hb')
  have HPE := Lib.hid fun w2 (hx : Ex w w2) => polyErr_any p xs a1 c1 w2 (by unfold maxLen; omega) (r1.ex hx)
  rw [e1] at HPE
  have HFE := Lib.hid fun w2 => fieldErr_any p w2
  have hE1 : isE p xs = if polyE p xs ≠ 0 then polyE p xs else pwE p (l1 / 2 + 1) := by unfold isE; rw [e1]
  have HPW : Hid (polyE p xs = 0 → ∀ (x : Int) (w2 : World), x = (l1 : Int) / 2 + 1 → Calls Try.prog 11 #[.int .i64 p, .int .i64 x] w2 (Says (.int .i64 (pdV p (l1 / 2 + 1))) w2)) := Lib.hid fun h x w2 hx => by
    obtain ⟨hp, p9, hl, _⟩ := polyE_zero.mp h
    have := hp.1
    rw [show x = ((l1 / 2 + 1 : Nat) : Int) by omega]
    exact powered_any p (l1 / 2 + 1) w2 (by omega) p9 (by omega)
  have HPZ : Hid (polyE p xs = 0 → l1 ≤ 40) := Lib.hid fun h => by rw [← e1]; exact (polyE_zero.mp h).2.2.1
  have HAL : Hid (isE p xs = 0 → ∀ w2, Ex w w2 → Calls Try.prog 12 #[.int .i64 p, .slice a1 l1 c1] w2 (Says (.bool b) w2)) := Lib.hid fun h w2 hx => by
    obtain ⟨h2, hle⟩ := isE_zero.mp h
    obtain ⟨hp, p9, hl, hf⟩ := polyE_zero.mp h2
    have p2 := hp.1
    obtain ⟨r, hr⟩ : ∃ r : Nat, (r : Int) = p := ⟨p.toNat, by omega⟩
    refine alone_any p r xs a1 l1 c1 w2 hp hr p9 hf e1 (by omega) (fun m h3 h4 => ?_) (r1.ex hx) n1 k1 (by omega) b (hb' h)
    have := pow_grows (p := p) (i := m) (n := xs.length / 2 + 1) (by omega) (by omega)
    omega
  obtain ⟨bl, hbl, hbl'⟩ := bool_if (polyE p xs = 0 ∧ 1000000 < p ^ (l1 / 2 + 1))
  have HBL := Lib.hid hbl
  have HBL' := Lib.hid hbl'
  have HE1 : Hid ((bl = true → isE p xs = 2) ∧ (bl = false → isE p xs = polyE p xs)) := Lib.hid ⟨fun h => by
      have h2 : polyE p xs = 0 ∧ 1000000 < p ^ (l1 / 2 + 1) := Classical.byContradiction fun hc => by rw [hbl' hc] at h; cases h
      rw [hE1, if_neg (by simpa using h2.1)]
      unfold pwE
      exact if_pos h2.2, fun h => by
      rw [hE1]
      by_cases h2 : polyE p xs = 0
      · rw [if_neg (by simpa using h2), h2]
        unfold pwE
        refine if_neg fun h3 => ?_
        rw [hbl ⟨h2, h3⟩] at h; cases h
      · exact if_pos h2⟩
  have HLG : Hid (1000000 < pdV p (l1 / 2 + 1) ↔ 1000000 < p ^ (l1 / 2 + 1)) := Lib.hid pdV_large
  have HBE := Lib.hid hb
  obtain ⟨E1, hE1d⟩ : ∃ E1, isE p xs = E1 := ⟨_, rfl⟩
  obtain ⟨P1, hP1d⟩ : ∃ P1, polyE p xs = P1 := ⟨_, rfl⟩
  obtain ⟨Z1, hZ1d⟩ : ∃ Z1, pdV p (l1 / 2 + 1) = Z1 := ⟨_, rfl⟩
  obtain ⟨Y1, hY1d⟩ : ∃ Y1, p ^ (l1 / 2 + 1) = Y1 := ⟨_, rfl⟩
  rw [hE1d] at HIS HAL HE1 HBE
  rw [hP1d] at HPE HPW HPZ HBL HBL' HE1
  rw [hZ1d] at HPW HLG
  rw [hY1d] at HLG HBL HBL'
  have hl1 : l1 ≤ 140737488351232 := by omega
  clear hE1d hP1d hZ1d hY1d hb hb' hbl hbl' hE1 hFI hCO r1 n1 k1 e1
  go_enter Try.func3, Try.ntmps3
  go_upto_region 5 with (first
    | (go_at_call 7; (with_reducible refine (HIS.out).mono ?_); rintro e w1 ⟨rfl, hw1⟩)
    | (go_at_call 8; (with_reducible refine (HFI.out _).mono ?_); rintro e w2 ⟨ag, cg, rfl, hFR, hw2⟩)
    | (go_at_call 9; (with_reducible refine (HCO.out _).mono ?_); rintro e w3 ⟨rfl, hw3⟩)
    | (go_at_call 10; (with_reducible refine (HPE.out _ (by repeat (first | assumption | exact Ex.refl _ | refine Ex.trans ?_ (by assumption)))).mono ?_); rintro e w4 ⟨rfl, hw4⟩))
  have HX4 : Hid (Ex w w4) := Lib.hid (by repeat (first | assumption | exact Ex.refl _ | refine Ex.trans ?_ (by assumption)))
  have HFR : Hid (cE = 0 → Reads w4 .i64 ag G ∧ (ag = none → cg = 0) ∧ N ≤ cg ∧ cg ≤ 9223372036854775807) := Lib.hid fun h => by
    obtain ⟨f1, f2, f3, f4⟩ := hFR.out h
    exact ⟨f1.ex (hw3.trans hw4), f2, f3, f4⟩
  clear hw1 hw2 hw3 hw4 hFR HIS HFI HCO HPE
  go_cut [49] (fun v49 wx => v49 = .bool bl ∧ Ex w4 wx)
  case first =>
    by_cases h0 : P1 = 0
    · have HPP := Lib.hid (HPW.out h0)
      have hl40 := HPZ.out h0
      subst h0
      by_cases h2 : 1000000 < Z1
      · have hbt := HBL.out ⟨rfl, HLG.out.mp h2⟩
        go_wp2_with (go_at_call 11; (with_reducible refine (HPP.out _ _ (by omega)).mono ?_); rintro e w5 ⟨rfl, hw5⟩)
        go_meet
        exact ⟨by rw [hbt], hw5⟩
      · have hbt := HBL'.out (fun h => h2 (HLG.out.mpr h.2))
        go_wp2_with (go_at_call 11; (with_reducible refine (HPP.out _ _ (by omega)).mono ?_); rintro e w5 ⟨rfl, hw5⟩)
        go_meet
        exact ⟨by rw [hbt, decide_eq_false (by omega)], hw5⟩
    · have hbt := HBL'.out (fun h => h0 h.1)
      have hne : (P1 == 0) = false := by simpa using h0
      go_wp2
      go_meet
      exact ⟨by rw [hbt], Ex.refl _⟩
  case rest =>
  obtain ⟨rfl, hx5⟩ := hcut
  rename World => w5
  have HX5 := Lib.hid (HX4.out.trans hx5)
  have HFR5 : Hid (cE = 0 → Reads w5 .i64 ag G ∧ (ag = none → cg = 0) ∧ N ≤ cg ∧ cg ≤ 9223372036854775807) := Lib.hid fun h => by
    obtain ⟨f1, f2, f3, f4⟩ := HFR.out h
    exact ⟨f1.ex hx5, f2, f3, f4⟩
  clear hx5 HFR HX4 HPW HPZ HLG HBL HBL'
  go_upto_if 49 with fail
  go_cut [13] (fun v13 wx => v13 = .int .i64 E1 ∧ w5 = wx)
  case first =>
    cases bl with
    | true =>
      have h := Lib.hid (HE1.out.1 rfl)
      go_wp2
      go_meet
      exact ⟨by rw [h.out], rfl⟩
    | false =>
      have h := Lib.hid (HE1.out.2 rfl)
      go_wp2
      go_meet
      exact ⟨by rw [h.out], rfl⟩
  case rest =>
  obtain ⟨rfl, rfl⟩ := hcut
  clear HE1
  go_upto_region 7 with fail
  go_cut [70] (fun v70 wx => v70 = .bool false ∧ Ex w5 wx)
  case first =>
    by_cases h0 : E1 = 0
    · have HAA := Lib.hid (HAL.out h0 w5 HX5.out)
      subst h0
      cases b with
      | true =>
        go_wp2_with (go_at_call 12; (with_reducible refine (HAA.out).mono ?_); rintro e w6 ⟨rfl, hw6⟩)
        go_meet
        exact ⟨by simp, hw6⟩
      | false =>
        go_wp2_with (go_at_call 12; (with_reducible refine (HAA.out).mono ?_); rintro e w6 ⟨rfl, hw6⟩)
        go_meet
        exact ⟨by simp, hw6⟩
    · have hbf := HBE.out h0
      have hne : (E1 == 0) = false := by simpa using h0
      have hne2 : (E1 != 0) = true := by simpa using h0
      subst hbf
      go_wp2
      go_meet
      exact ⟨by simp, Ex.refl _⟩
  case rest =>
  obtain ⟨rfl, hx6⟩ := hcut
  rename World => w6
  have HX6 := Lib.hid (HX5.out.trans hx6)
  have HFR6 : Hid (cE = 0 → Reads w6 .i64 ag G ∧ (ag = none → cg = 0) ∧ N ≤ cg ∧ cg ≤ 9223372036854775807) := Lib.hid fun h => by
    obtain ⟨f1, f2, f3, f4⟩ := HFR5.out h
    exact ⟨f1.ex hx6, f2, f3, f4⟩
  clear hx6 HFR5 HX5 HAL HBE
  clear HFR6
  have hcE := HCE.out
  have hNE := HNE.out
  have hN := HN0.out
  subst hN
  unfold cmE at hcE
  by_cases g0 : fieldE p = 0
  · rw [if_neg (by simpa using g0)] at hcE
    obtain ⟨hp, p9⟩ := fieldE_zero.mp g0
    have p2 := hp.1
    rw [g0] at HFE
    clear hp g0
    by_cases g1 : n < 1
    · rw [if_pos (.inl g1)] at hcE
      subst hcE
      clear HCE HNE hNE HN0
      go_wp2_with (go_at_call 13; (with_reducible refine (HFE.out _).mono ?_); rintro e w7 ⟨rfl, hw7⟩)
      go_ret
      exact ⟨rfl, HX6.out.trans hw7⟩
    by_cases g2 : 39 < n
    · rw [if_pos (by omega)] at hcE
      subst hcE
      clear HCE HNE hNE HN0
      go_wp2_with (go_at_call 13; (with_reducible refine (HFE.out _).mono ?_); rintro e w7 ⟨rfl, hw7⟩)
      go_ret
      exact ⟨rfl, HX6.out.trans hw7⟩
    rw [if_neg (by omega)] at hcE
    have hc2 : cE = 2 := by
      rcases pwE_two p n.toNat with h | h
      · exact absurd (hcE.symm.trans h) hNE
      · omega
    have hbig : 1000000 < pdV p n.toNat := by
      rw [pdV_large]
      refine Classical.byContradiction fun h => hNE ?_
      rw [← hcE]
      exact pwE_zero.mpr (by omega)
    have HPW2 := Lib.hid fun w2 => powered_any p n.toNat w2 (by omega) p9 (by omega)
    rw [show ((n.toNat : Nat) : Int) = n by omega] at HPW2
    obtain ⟨Z2, hZ2⟩ : ∃ Z2, pdV p n.toNat = Z2 := ⟨_, rfl⟩
    rw [hZ2] at HPW2 hbig
    subst hc2
    clear hcE HCE HNE hNE HN0 hZ2
    go_wp2_with (first
      | (go_at_call 13; (with_reducible refine (HFE.out _).mono ?_); rintro e w7 ⟨rfl, hw7⟩)
      | (go_at_call 11; (with_reducible refine (HPW2.out _).mono ?_); rintro e w8 ⟨rfl, hw8⟩))
    go_ret
    exact ⟨rfl, (HX6.out.trans hw7).trans hw8⟩
  · rw [if_pos g0] at hcE
    subst hcE
    rw [(fieldE_two p).resolve_left g0] at HFE
    clear HCE HNE hNE HN0 g0
    go_wp2_with (go_at_call 13; (with_reducible refine (HFE.out _).mono ?_); rintro e w7 ⟨rfl, hw7⟩)
    go_ret
    exact ⟨rfl, HX6.out.trans hw7⟩

end Go.Proofs.Ytimehaolaeedhaa
