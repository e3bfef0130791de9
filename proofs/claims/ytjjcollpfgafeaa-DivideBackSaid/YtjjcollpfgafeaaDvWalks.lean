/-
  Divisors, Phi, Moebius, walked.
-/
import Derived.Test.YtjjcollpfgafeaaDvRow
import Derived.Test.YtjjcollpfgafeaaDvStep
namespace Go.Proofs.Ytjjcollpfgafeaa
open Go.RowKit
open Pr Dd

set_option maxRecDepth 100000 in
set_option maxHeartbeats 2000000 in
theorem withPower_ok (D : List Int) (q : Int) (k : Nat) (base : Nat) (v : Value) (w : World) (hrow : Row 3 .i64 w base v D) (hk : k ≤ 1000000) (hqk : ∀ j, j ≤ k → 1 ≤ q ^ j ∧ q ^ j ≤ 1000000)
    (hD : ∀ j, j ≤ k → ∀ x ∈ D, 0 ≤ x * q ^ j ∧ x * q ^ j ≤ 1000000) (hlen : (k + 1) * D.length ≤ 1000000) :
    Calls Try.prog 35 #[v, .agg #[.int .i64 q, .int .i64 (k : Nat)]] w (fun e w2 => ∃ v2, e = .returned v2 ∧ Hid (Row 3 .i64 w2 w.heap.size v2 (tms D q (k + 1))) ∧ Ex w w2) := by
  obtain ⟨a, cap, rfl, hm, hr, hnil⟩ := hrow.reads
  have hDl : D.length ≤ 1000000 := by
    have : 1 * D.length ≤ (k + 1) * D.length := Nat.mul_le_mul_right _ (by omega)
    omega
  obtain ⟨wb, hwb⟩ : ∃ wb, wb = w.alloc (.cells #[.int .i64 q, .int .i64 (k : Nat)] 55) := ⟨_, rfl⟩
  have HXB : Hid (Ex w wb) := Lib.hid (by rw [hwb]; exact (Ex.refl w).alloc _)
  have HBH : Hid (wb.heap[w.heap.size]? = some (.cells #[.int .i64 q, .int .i64 (k : Nat)] 55 (0, 0))) := Lib.hid (by rw [hwb]; exact heap_alloc_new _ _)
  have HSZ : Hid (w.heap.size ≤ wb.heap.size) := Lib.hid HXB.out.size
  have HR := Lib.hid (hr.ex HXB.out)
  have HC : Hid (Calls Try.prog 29 #[.slice a D.length cap] (w.alloc (.cells #[.int .i64 q, .int .i64 (k : Nat)] 55)) (fun e w2 => ∃ v, e = .returned v ∧ Hid (Row 3 .i64 w2 wb.heap.size v D) ∧ Ex wb w2)) := Lib.hid (by rw [← hwb]; exact clone_ints D a cap wb (by omega) HR.out hnil)
  have HQK := Lib.hid hqk
  have HDD := Lib.hid hD
  have HL := Lib.hid hlen
  clear hwb hrow hr hnil hm hqk hD hlen
  go_enter Try.func35, Try.ntmps35
  go_wp2_with (go_at_call 29; refine (HC.out).mono ?_; rintro e w1 ⟨v1, rfl, hrow1, hx1⟩; have hq0 := hx1.cell (cell_two0 HBH.out); have hq1 := hx1.cell (cell_two1 HBH.out))
  have HQ0 := Lib.hid (cell_two0 HBH.out)
  clear hq0 hq1
  go_loopg [5, 6, 13] k (fun m v5 v6 v13 x => ∃ (j : Nat) (F : Int), j ≤ k ∧ 1 ≤ F ∧ F ≤ 1000000 ∧ v5 = .int .i64 F ∧ v13 = .int .i64 j ∧ Hid (F = q ^ j) ∧ Hid (Row 3 .i64 x wb.heap.size v6 (tms D q (j + 1))) ∧ Hid (m = k - j) ∧ Ex wb x)
  case atStart => exact ⟨0, 1, by omega, by omega, by omega, rfl, rfl, Lib.hid (by simp), Lib.hid (by rw [tms_one]; exact hrow1.out), Lib.hid rfl, hx1⟩
  case round =>
    rename World => wo
    obtain ⟨j, F, hj, f1, f2, rfl, rfl, hF, hR, hk2, hx⟩ := hrel
    by_cases hjt : j < k
    · have hq0 := hx.cell HQ0.out
      have hF2 : F * q = q ^ (j + 1) := by rw [hF.out, Int.pow_succ]
      have g1 := (HQK.out (j + 1) hjt).1
      have g2 := (HQK.out (j + 1) hjt).2
      rw [← hF2] at g1 g2
      have HF2 := Lib.hid hF2
      clear hF2
      go_wp2
      go_loopg [6, 21] D.length (fun m v6 v21 y => ∃ (t : Nat), t ≤ D.length ∧ v21 = .int .i64 t ∧ Hid (Row 3 .i64 y wb.heap.size v6 (tms D q (j + 1) ++ (D.take t).map (· * q ^ (j + 1)))) ∧ Hid (m = D.length - t) ∧ Ex wb y)
      case atStart => exact ⟨0, by omega, rfl, Lib.hid (by simpa using hR.out), Lib.hid rfl, hx⟩
      case round =>
        obtain ⟨t, ht, rfl, hRt, hkt, hy⟩ := hrel
        by_cases htl : t < D.length
        · rcases (HR.out.ex hy) with hn | ⟨b, off, rfl, hc⟩
          · rw [hn] at htl; exact absurd htl (Nat.not_lt_zero _)
          have hct := hc t htl
          clear hc
          have d12 := HDD.out (j + 1) hjt _ (nth_mem htl)
          rw [← HF2.out] at d12
          obtain ⟨d1, d2⟩ := d12
          have HSTEP : Hid ((D.take (t + 1)).map (· * q ^ (j + 1)) = (D.take t).map (· * q ^ (j + 1)) ++ [nth D t * (F * q)]) := Lib.hid (by rw [tms_take htl, HF2.out])
          obtain ⟨d, hd⟩ : ∃ d, d = nth D t := ⟨_, rfl⟩
          rw [← hd] at hct d1 d2 HSTEP
          clear hd
          have HLN : Hid ((tms D q (j + 1) ++ (D.take t).map (· * q ^ (j + 1))).length + 1 ≤ 1000000) := Lib.hid (by
            have h1 : (j + 1 + 1) * D.length ≤ (k + 1) * D.length := Nat.mul_le_mul_right _ (by omega)
            have h2 := HL.out
            rw [Nat.succ_mul] at h1
            rw [List.length_append, tms_length, List.length_map, List.length_take]
            omega)
          have HX2 := Lib.hid (hy.alloc (.cells #[.int .i64 (d * (F * q))] 3))
          have HR2 := Lib.hid (hRt.out.ex ((Ex.refl wr).alloc (.cells #[.int .i64 (d * (F * q))] 3)))
          have c1 := cell_new1 wr (.int .i64 (d * (F * q))) 3
          go_wp2_with (
            (at_builtin; refine wpList_append_int rfl _ _ 22 rfl wb.heap.size 3 .i64 8 Try.underlying22 info_int _ _ rfl HR2.out (d * (F * q)) wr.heap.size rfl c1 (by have := HLN.out; unfold maxLen; omega) (by have := HLN.out; omega) HX2.out.size ?_; intro v3 w3 hown3 hgrow3 hat3))
          have HX3 := Lib.hid (HR2.out.grown HX2.out hgrow3)
          clear hgrow3 hat3 c1
          go_roundg (D.length - (t + 1))
          case measure => have := hkt.out; omega
          case rel => exact ⟨t + 1, by omega, by go_num, Lib.hid (by rw [HSTEP.out, ← List.append_assoc]; exact hown3), Lib.hid rfl, HX3.out⟩
        · have e : t = D.length := by omega
          subst e
          go_wp2
          go_roundg (k - (j + 1))
          case measure => have := hk2.out; omega
          case rel => exact ⟨j + 1, F * q, by omega, g1, g2, rfl, by go_num, HF2, Lib.hid (by rw [tms_succ]; simpa using hRt.out), Lib.hid rfl, hy⟩
    · have e : j = k := by omega
      subst e
      have hq0 := hx.cell HQ0.out
      go_wp2
      go_ret
      exact ⟨_, rfl, Lib.hid (hR.out.less HSZ.out), HXB.out.trans hx⟩

/-- What the divisors' list needs to be told of the next prime. -/
theorem withPower_at {n : Nat} {l : List (Int × Nat)} {i m P : Nat} {Z : List Nat} (hn : 1 ≤ n) (h2 : n ≤ 1000000) (hd : Done n l i m) (hp : Prm (P : Int)) (hnm : ¬ P ∣ m) (hle : P ^ (nthP l i).2 * m ≤ n) (hZ : Z.Perm (dv m)) :
    (nthP l i).2 ≤ 1000000 ∧ (∀ j, j ≤ (nthP l i).2 → 1 ≤ (P : Int) ^ j ∧ (P : Int) ^ j ≤ 1000000) ∧ (∀ j, j ≤ (nthP l i).2 → ∀ x ∈ Z.map Int.ofNat, 0 ≤ x * (P : Int) ^ j ∧ x * (P : Int) ^ j ≤ 1000000) ∧
    ((nthP l i).2 + 1) * (Z.map Int.ofNat).length ≤ 1000000 := by
  have hm := hd.1
  have hp2 := hp.1
  have hP : 2 ≤ P := by omega
  generalize (nthP l i).2 = k at *
  have hpk : P ^ k ≤ n := by
    have : P ^ k * 1 ≤ P ^ k * m := Nat.mul_le_mul_left _ hm
    omega
  have hpj : ∀ j, j ≤ k → 1 ≤ P ^ j ∧ P ^ j ≤ P ^ k := fun j hj => ⟨Nat.pow_pos (by omega), Nat.pow_le_pow_right (by omega) hj⟩
  have hkk : (k : Int) + 1 ≤ (P : Int) ^ k := pow_gt hp2 k
  rw [← Int.natCast_pow] at hkk
  refine ⟨by omega, fun j hj => ?_, fun j hj x hx => ?_, ?_⟩
  · have := hpj j hj
    rw [← Int.natCast_pow]
    omega
  · simp only [List.mem_map] at hx
    obtain ⟨e, he, rfl⟩ := hx
    have h1 := (mem_dv hm).mp ((hZ.mem_iff).mp he)
    have h3 := Nat.le_of_dvd hm h1.2
    have h4 := Nat.mul_le_mul h3 (hpj j hj).2
    rw [Nat.mul_comm m] at h4
    show 0 ≤ (e : Int) * _ ∧ (e : Int) * _ ≤ 1000000
    rw [← Int.natCast_pow, ← Int.natCast_mul]
    omega
  · have h1 := (flat_perm hZ P (k + 1)).trans (dv_cut (k := k) hp hm hnm).symm
    have h3 := h1.length_eq
    have h4 := dv_length (P ^ k * m)
    have h5 := congrArg List.length (tms_nat Z P (k + 1))
    rw [tms_length] at h5
    simp only [List.length_map] at h5 ⊢
    rw [h3] at h5
    omega

set_option maxRecDepth 100000 in
set_option maxHeartbeats 2000000 in
theorem divisors_of (n : Nat) (w : World) (h1 : 1 ≤ n) (h2 : n ≤ 1000000) :
    Calls Try.prog 12 #[.int .i64 n] w (fun e w2 => ∃ v, e = .returned (.tuple #[v, .int .i64 0]) ∧ Hid (Row 3 .i64 w2 w.heap.size v (dvZ n)) ∧ Ex w w2) := by
  go_enter Try.func12, Try.ntmps12
  go_wp2_with (go_at_call 34; refine (factor_reads n _ (by omega) (by omega)).mono ?_; rintro e w1 ⟨a, cap, l, rfl, hF, hl, hr, hx1⟩)
  have hll := hl.out
  have HS : Hid (w.heap.size ≤ w1.heap.size) := Lib.hid hx1.size
  have hd1 : dv 1 = [1] := by decide
  have HX1 := Lib.hid hx1
  go_loopg [6, 20] l.length (fun k v6 v20 x => ∃ (i m : Nat) (Z : List Nat), i ≤ l.length ∧ v20 = .int .i64 i ∧ Hid (Done n l i m) ∧ Hid (Z.Perm (dv m)) ∧ Hid (Row 3 .i64 x w1.heap.size v6 (Z.map Int.ofNat)) ∧ Hid (k = l.length - i) ∧ Ex w1 x)
  case atStart => exact ⟨0, 1, [1], by omega, rfl, Lib.hid (done_start h1 hF.out), Lib.hid (by rw [hd1]), Lib.hid (row_new 3 .i64 w1 w1.heap.size (Nat.le_refl _) [1] _ rfl (by decide)), Lib.hid rfl, (Ex.refl w1).alloc _⟩
  case round =>
    obtain ⟨i, m, Z, hi, rfl, hD, hZ, hR, hk, hx⟩ := hrel
    by_cases hlt : i < l.length
    · rcases (hr.out.ex hx) with ⟨rfl, rfl, rfl⟩ | ⟨g, rfl, hc⟩
      · exact absurd hlt (Nat.not_lt_zero _)
      have hc0 := (hc i hlt).1
      have hc1 := (hc i hlt).2
      clear hc
      obtain ⟨P, hP, hp, hk1, hnm, hle, hD2⟩ := done_step hD.out hlt
      obtain ⟨b1, b2, b3, b4⟩ := withPower_at h1 h2 hD.out hp hnm hle hZ.out
      obtain ⟨Y, hY, hYp⟩ := divs_step (k := (nthP l i).2) hp hD.out.1 hnm hZ.out
      rw [hP] at hc0
      have HY := Lib.hid hY
      have HYp := Lib.hid hYp
      have HD2 := Lib.hid hD2
      have HW := Lib.hid (withPower_ok (Z.map Int.ofNat) P (nthP l i).2 w1.heap.size _ (wr.alloc (.cells #[.int .i64 (P : Int), .int .i64 ((nthP l i).2 : Nat)] 55)) (hR.out.ex ((Ex.refl wr).alloc _)) b1 b2 b3 b4)
      obtain ⟨K, hK⟩ : ∃ K : Nat, (nthP l i).2 = K := ⟨_, rfl⟩
      rw [hK] at hc1 HY HYp HD2 HW
      have HXA := Lib.hid (hx.alloc (.cells #[.int .i64 (P : Int), .int .i64 (K : Nat)] 55))
      have HSZ : Hid (w1.heap.size ≤ (wr.alloc (.cells #[.int .i64 (P : Int), .int .i64 (K : Nat)] 55)).heap.size) := Lib.hid HXA.out.size
      clear hK hp hk1 hnm hle hD2 b1 b2 b3 b4 hY hYp hP
      go_wp2_with (go_at_call 35; refine (HW.out).mono ?_; rintro e w2 ⟨v2, rfl, hrow2, hx2⟩)
      have HX2 := Lib.hid (HXA.out.trans hx2)
      have HR2 := Lib.hid (hrow2.out.less HSZ.out)
      clear hx2 hrow2
      go_roundg (l.length - (i + 1))
      case measure => have := hk.out; omega
      case rel => exact ⟨i + 1, P ^ K * m, Y, by omega, by go_num, HD2, HYp, Lib.hid (by rw [← HY.out]; exact HR2.out), Lib.hid rfl, HX2.out⟩
    · have e : i = l.length := by omega
      subst e
      have em := done_end hD.out
      subst em
      have HSd := Lib.hid (sorted_dv hZ.out)
      have HZl : Hid ((Z.map Int.ofNat).length ≤ 1000000 ∧ Z.map Int.ofNat ≠ []) := Lib.hid (by
        have h3 := hZ.out.length_eq
        have h4 := dv_length m
        have h5 := (dv_last h1).1
        refine ⟨by rw [List.length_map]; omega, fun h => ?_⟩
        rw [List.map_eq_nil_iff] at h
        rw [h] at h3
        simp at h3
        omega)
      go_wp2_with (go_at_call 36; refine (sort_row 3 w1.heap.size _ _ _ hR.out HZl.out.2 (by have := HZl.out.1; omega)).mono ?_; rintro e w2 ⟨rfl, hrow2, hgrow2⟩)
      have HX2 := Lib.hid (HX1.out.trans (hR.out.grown hx hgrow2))
      go_ret2
      exact ⟨_, rfl, Lib.hid (by rw [HSd.out] at hrow2; exact hrow2.less HS.out), HX2.out⟩

theorem divisors_no (n : Int) (w : World) (h : n < 1 ∨ 1000000 < n) :
    Calls Try.prog 12 #[.int .i64 n] w (Says (.tuple #[.slice none 0 0, .int .i64 1]) w) := by
  go_enter Try.func12, Try.ntmps12
  go_wp2_with (go_at_call 34; refine (factor_no n _ h).mono ?_; rintro e w1 ⟨rfl, hx1⟩)
  go_ret2
  exact ⟨rfl, hx1⟩

set_option maxRecDepth 100000 in
set_option maxHeartbeats 2000000 in
theorem phi_of (n : Nat) (w : World) (h1 : 1 ≤ n) (h2 : n ≤ 1000000) :
    Calls Try.prog 13 #[.int .i64 n] w (Says (.tuple #[.int .i64 (ph n), .int .i64 0]) w) := by
  go_enter Try.func13, Try.ntmps13
  go_wp2_with (go_at_call 34; refine (factor_reads n _ (by omega) (by omega)).mono ?_; rintro e w1 ⟨a, cap, l, rfl, hF, hl, hr, hx1⟩)
  have hll := hl.out
  have HX1 := Lib.hid hx1
  go_loopg [6, 20] l.length (fun k v6 v20 x => ∃ (i : Nat) (c : Int), i ≤ l.length ∧ 0 ≤ c ∧ c ≤ n ∧ v20 = .int .i64 i ∧ v6 = .int .i64 c ∧ Hid (PhiAt l i c) ∧ Hid (k = l.length - i) ∧ Ex w1 x)
  case atStart => exact ⟨0, n, by omega, by omega, by omega, rfl, rfl, Lib.hid (phiAt_start h1 hF.out), Lib.hid rfl, Ex.refl w1⟩
  case round =>
    obtain ⟨i, c, hi, c1, c2, rfl, rfl, hP, hk, hx⟩ := hrel
    by_cases hlt : i < l.length
    · rcases (hr.out.ex hx) with ⟨rfl, rfl, rfl⟩ | ⟨g, rfl, hc⟩
      · exact absurd hlt (Nat.not_lt_zero _)
      have hc0 := (hc i hlt).1
      have hc1 := (hc i hlt).2
      clear hc
      obtain ⟨b1, b2, b3, b4, hP2⟩ := phiAt_step hP.out hlt
      have HP2 := Lib.hid hP2
      obtain ⟨K, hK⟩ : ∃ K : Nat, (nthP l i).2 = K := ⟨_, rfl⟩
      obtain ⟨q, hq⟩ : ∃ q : Int, (nthP l i).1 = q := ⟨_, rfl⟩
      rw [hK] at hc1
      rw [hq] at hc0 b1 b3 b4 HP2
      have q1 := Int.ediv_nonneg (a := c) (b := q) c1 (by omega)
      have q2 := Int.ediv_le_self (a := c) q c1
      have HX2 := Lib.hid (hx.alloc (.cells #[.int .i64 q, .int .i64 (K : Nat)] 55))
      clear hP2 hK hq
      go_wp2
      go_roundg (l.length - (i + 1))
      case measure => have := hk.out; omega
      case rel => exact ⟨i + 1, c - c / q, by omega, b3, by omega, by go_num, rfl, HP2, Lib.hid rfl, HX2.out⟩
    · have e : i = l.length := by omega
      subst e
      have he := phiAt_end hP.out
      have HE : Hid (c = ph n) := Lib.hid (by rw [he, ph_fac hF.out h1])
      clear he
      go_wp2
      go_ret2
      exact ⟨by rw [HE.out]; rfl, HX1.out.trans hx⟩

theorem phi_no (n : Int) (w : World) (h : n < 1 ∨ 1000000 < n) :
    Calls Try.prog 13 #[.int .i64 n] w (Says (.tuple #[.int .i64 0, .int .i64 1]) w) := by
  go_enter Try.func13, Try.ntmps13
  go_wp2_with (go_at_call 34; refine (factor_no n _ h).mono ?_; rintro e w1 ⟨rfl, hx1⟩)
  go_ret2
  exact ⟨rfl, hx1⟩

set_option maxRecDepth 100000 in
set_option maxHeartbeats 2000000 in
theorem moebius_of (n : Nat) (w : World) (h1 : 1 ≤ n) (h2 : n ≤ 1000000) :
    Calls Try.prog 14 #[.int .i64 n] w (Says (.tuple #[.int .i64 (mu n), .int .i64 0]) w) := by
  go_enter Try.func14, Try.ntmps14
  go_wp2_with (go_at_call 34; refine (factor_reads n _ (by omega) (by omega)).mono ?_; rintro e w1 ⟨a, cap, l, rfl, hF, hl, hr, hx1⟩)
  have hll := hl.out
  have HX1 := Lib.hid hx1
  have HMU := Lib.hid (mu_fac hF.out h1)
  have HK : Hid (∀ i, i < l.length → 1 ≤ (nthP l i).2) := Lib.hid fun i hi => (hF.out.dvd _ _ (nthP_mem hi)).2.1
  go_loopg [6, 19] l.length (fun k v6 v19 x => ∃ (i : Nat) (s : Int), i ≤ l.length ∧ -1 ≤ s ∧ s ≤ 1 ∧ v19 = .int .i64 i ∧ v6 = .int .i64 s ∧ Hid (MuAt l i s) ∧ Hid (k = l.length - i) ∧ Ex w1 x)
  case atStart => exact ⟨0, 1, by omega, by omega, by omega, rfl, rfl, Lib.hid (muAt_start l), Lib.hid rfl, Ex.refl w1⟩
  case round =>
    obtain ⟨i, s, hi, s1, s2, rfl, rfl, hM, hk, hx⟩ := hrel
    by_cases hlt : i < l.length
    · rcases (hr.out.ex hx) with ⟨rfl, rfl, rfl⟩ | ⟨g, rfl, hc⟩
      · exact absurd hlt (Nat.not_lt_zero _)
      have hc0 := (hc i hlt).1
      have hc1 := (hc i hlt).2
      clear hc
      have hk1 := HK.out i hlt
      have HZ : Hid (1 < (nthP l i).2 → val muF l = 0) := Lib.hid fun h => muAt_zero hM.out hlt h
      have HT : Hid ((nthP l i).2 = 1 → MuAt l (i + 1) (-s)) := Lib.hid fun h => muAt_step hM.out hlt h
      obtain ⟨K, hK⟩ : ∃ K : Nat, (nthP l i).2 = K := ⟨_, rfl⟩
      obtain ⟨q, hq⟩ : ∃ q : Int, (nthP l i).1 = q := ⟨_, rfl⟩
      rw [hK] at hc1 hk1 HZ HT
      rw [hq] at hc0
      have HX2 := Lib.hid (hx.alloc (.cells #[.int .i64 q, .int .i64 (K : Nat)] 55))
      clear hK hq
      by_cases h1K : 1 < K
      · have hKi : (1 : Int) < (K : Int) := by omega
        have HZ2 := Lib.hid (HZ.out h1K)
        go_wp2
        go_ret2
        exact ⟨by rw [HMU.out, HZ2.out]; rfl, HX1.out.trans HX2.out⟩
      · have eK : K = 1 := by omega
        subst eK
        obtain ⟨s', hs'⟩ : ∃ s' : Int, -s = s' := ⟨_, rfl⟩
        have HT2 := Lib.hid (HT.out rfl)
        rw [hs'] at HT2
        have t1 : -1 ≤ s' := by omega
        have t2 : s' ≤ 1 := by omega
        go_wp2
        go_roundg (l.length - (i + 1))
        case measure => have := hk.out; omega
        case rel => exact ⟨i + 1, s', by omega, t1, t2, by go_num, rfl, HT2, Lib.hid rfl, HX2.out⟩
    · have e : i = l.length := by omega
      subst e
      have he := muAt_end hM.out
      have HE : Hid (s = mu n) := Lib.hid (by rw [he, HMU.out])
      clear he
      go_wp2
      go_ret2
      exact ⟨by rw [HE.out]; rfl, HX1.out.trans hx⟩

theorem moebius_no (n : Int) (w : World) (h : n < 1 ∨ 1000000 < n) :
    Calls Try.prog 14 #[.int .i64 n] w (Says (.tuple #[.int .i64 0, .int .i64 1]) w) := by
  go_enter Try.func14, Try.ntmps14
  go_wp2_with (go_at_call 34; refine (factor_no n _ h).mono ?_; rintro e w1 ⟨rfl, hx1⟩)
  go_ret2
  exact ⟨rfl, hx1⟩

end Go.Proofs.Ytjjcollpfgafeaa
