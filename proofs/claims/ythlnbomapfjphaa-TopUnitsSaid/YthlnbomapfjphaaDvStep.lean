/-
  Plain mathematics for package divide's walks: a number's factorisation gone through prime by prime. No Go in sight.
-/
import Derived.Test.YthlnbomapfjphaaDvPairs
import Derived.Test.YthlnbomapfjphaaDvDivs
import Derived.Test.YthlnbomapfjphaaPowers
namespace Go.Proofs.Ythlnbomapfjphaa.Dd
open Eu Pr Rs

/-- The list as far as place i: its numbers multiplied are m. -/
def Done (n : Nat) (l : List (Int × Nat)) (i m : Nat) : Prop := 1 ≤ m ∧ ∃ r : Nat, 1 ≤ r ∧ m * r = n ∧ Fac (r : Int) (l.drop i) ∧ Nat.Coprime m r

theorem done_start {n : Nat} {l : List (Int × Nat)} (hn : 1 ≤ n) (h : Fac (n : Int) l) : Done n l 0 1 := ⟨by omega, n, hn, by simp, h, by simp⟩

theorem done_step {n : Nat} {l : List (Int × Nat)} {i m : Nat} (h : Done n l i m) (hi : i < l.length) :
    ∃ P : Nat, (nthP l i).1 = (P : Int) ∧ Prm (P : Int) ∧ 1 ≤ (nthP l i).2 ∧ ¬ P ∣ m ∧ P ^ (nthP l i).2 * m ≤ n ∧ Done n l (i + 1) (P ^ (nthP l i).2 * m) := by
  obtain ⟨hm, r, hr, hmr, hF, hco⟩ := h
  rw [List.drop_eq_getElem_cons hi] at hF
  rw [nthP_eq hi]
  generalize l[i] = x at *
  obtain ⟨q, k⟩ := x
  obtain ⟨hq, hk, r2, hr2, hrr, hnd, hF2⟩ := hF
  have hq2 := hq.1
  obtain ⟨P, rfl⟩ : ∃ P : Nat, q = P := ⟨q.toNat, by omega⟩
  obtain ⟨s, rfl⟩ : ∃ s : Nat, r2 = s := ⟨r2.toNat, by omega⟩
  have er : r = P ^ k * s := by
    have : (r : Int) = ((P ^ k * s : Nat) : Int) := by rw [hrr, Int.natCast_mul, Int.natCast_pow]
    omega
  have hs : 1 ≤ s := by omega
  have hnd2 : ¬ P ∣ s := fun h => hnd (Int.natCast_dvd_natCast.mpr h)
  have hpk : 1 ≤ P ^ k := Nat.pow_pos (by omega)
  have hPr : P ∣ r := by
    rw [er]
    refine Nat.dvd_trans ?_ (Nat.dvd_mul_right _ _)
    have := Nat.pow_dvd_pow P hk
    rwa [Nat.pow_one] at this
  have hnm : ¬ P ∣ m := fun h => by
    have h1 := Nat.dvd_gcd h hPr
    rw [hco] at h1
    have := Nat.le_of_dvd (by omega) h1
    omega
  have e1 : P ^ k * m * s = n := by rw [← hmr, er, Nat.mul_comm (P ^ k) m, Nat.mul_assoc]
  have hle : P ^ k * m * 1 ≤ P ^ k * m * s := Nat.mul_le_mul_left _ hs
  refine ⟨P, rfl, hq.prm, hk, hnm, by show P ^ k * m ≤ n; omega, Nat.mul_pos hpk hm, s, hs, e1, hF2, ?_⟩
  have c1 : Nat.Coprime m s := by
    have : s ∣ r := by rw [er]; exact Nat.dvd_mul_left _ _
    exact Nat.Coprime.coprime_dvd_right this hco
  have c2 : Nat.Coprime (P ^ k) s := (prm_coprime hq.prm hnd2).pow_left k
  exact Nat.Coprime.mul_left c2 c1

theorem done_end {n : Nat} {l : List (Int × Nat)} {m : Nat} (h : Done n l l.length m) : m = n := by
  obtain ⟨_, r, _, hmr, hF, _⟩ := h
  rw [List.drop_length] at hF
  have : (r : Int) = 1 := hF
  have : r = 1 := by omega
  subst this
  omega

/-- All products of D's numbers with the first j powers of q. -/
def tms (D : List Int) (q : Int) (j : Nat) : List Int := (List.range j).flatMap fun i => D.map (· * q ^ i)

theorem tms_one (D : List Int) (q : Int) : tms D q 1 = D := by
  simp [tms]
theorem tms_succ (D : List Int) (q : Int) (j : Nat) : tms D q (j + 1) = tms D q j ++ D.map (· * q ^ j) := by
  unfold tms
  rw [List.range_succ, List.flatMap_append]
  simp
theorem tms_length (D : List Int) (q : Int) (j : Nat) : (tms D q j).length = j * D.length := by
  induction j with
  | zero => simp [tms]
  | succ j ih => rw [tms_succ, List.length_append, ih, List.length_map, Nat.succ_mul]

theorem tms_take {D : List Int} {f : Int} {t : Nat} (h : t < D.length) : (D.take (t + 1)).map (· * f) = (D.take t).map (· * f) ++ [nth D t * f] := by
  rw [List.take_succ_eq_append_getElem h, List.map_append, nth_eq h]
  rfl

theorem tms_nat (Z : List Nat) (P k : Nat) : tms (Z.map Int.ofNat) (P : Int) k = ((List.range k).flatMap fun j => Z.map fun e => P ^ j * e).map Int.ofNat := by
  unfold tms
  rw [List.map_flatMap]
  congr 1
  funext j
  rw [List.map_map, List.map_map]
  apply List.map_congr_left
  intro e _
  show (e : Int) * (P : Int) ^ j = ((P ^ j * e : Nat) : Int)
  rw [Int.natCast_mul, Int.natCast_pow, Int.mul_comm]

theorem flat_perm {Z Y : List Nat} (h : Z.Perm Y) (P : Nat) : ∀ k : Nat, ((List.range k).flatMap fun j => Z.map fun e => P ^ j * e).Perm ((List.range k).flatMap fun j => Y.map fun e => P ^ j * e) := by
  intro k
  induction k with
  | zero => simp
  | succ k ih =>
    rw [List.range_succ, List.flatMap_append, List.flatMap_append]
    refine ih.append ?_
    simp only [List.flatMap_cons, List.flatMap_nil, List.append_nil]
    exact h.map _

/-- The divisors so far, with the next prime's powers. -/
theorem divs_step {Z : List Nat} {P k m : Nat} (hp : Prm (P : Int)) (hm : 1 ≤ m) (hnd : ¬ P ∣ m) (h : Z.Perm (dv m)) :
    ∃ Y : List Nat, tms (Z.map Int.ofNat) (P : Int) (k + 1) = Y.map Int.ofNat ∧ Y.Perm (dv (P ^ k * m)) :=
  ⟨_, tms_nat Z P (k + 1), (flat_perm h P (k + 1)).trans (dv_cut hp hm hnd).symm⟩

theorem sorted_dv {Z : List Nat} {n : Nat} (h : Z.Perm (dv n)) : ((Z.map Int.ofNat).mergeSort fun x y => decide (x ≤ y)) = dvZ n := by
  refine List.Perm.eq_of_pairwise (le := (· ≤ ·)) (fun a b _ _ h1 h2 => by omega) ?_ ?_ ?_
  · have := List.pairwise_mergeSort (le := fun x y : Int => decide (x ≤ y)) (by intro a b c h1 h2; simp at *; omega) (by intro a b; simp; omega) (Z.map Int.ofNat)
    exact this.imp (fun h => by simpa using h)
  · unfold dvZ
    rw [List.pairwise_map]
    exact (dv_lt n).imp (fun h => by show (_ : Int) ≤ _; exact Int.ofNat_le.mpr (Nat.le_of_lt h))
  · exact (List.mergeSort_perm _ _).trans (h.map _)

/-- What EULER's count is where the list has been gone through as far as place i. -/
def PhiAt (l : List (Int × Nat)) (i : Nat) (c : Int) : Prop := ∃ A r : Nat, c = ((A * r : Nat) : Int) ∧ 1 ≤ r ∧ Fac (r : Int) (l.drop i) ∧ A * phiL (l.drop i) = phiL l

theorem phiAt_start {n : Nat} {l : List (Int × Nat)} (hn : 1 ≤ n) (h : Fac (n : Int) l) : PhiAt l 0 n := ⟨1, n, by simp, hn, h, by simp⟩

theorem phiAt_step {l : List (Int × Nat)} {i : Nat} {c : Int} (h : PhiAt l i c) (hi : i < l.length) :
    2 ≤ (nthP l i).1 ∧ 0 ≤ c ∧ 0 ≤ c - c / (nthP l i).1 ∧ c - c / (nthP l i).1 ≤ c ∧ PhiAt l (i + 1) (c - c / (nthP l i).1) := by
  obtain ⟨A, r, hc, hr, hF, hA⟩ := h
  rw [List.drop_eq_getElem_cons hi] at hF hA
  rw [nthP_eq hi]
  generalize l[i] = x at *
  obtain ⟨q, k⟩ := x
  obtain ⟨hq, hk, r2, hr2, hrr, hnd, hF2⟩ := hF
  have hq2 := hq.1
  obtain ⟨P, rfl⟩ : ∃ P : Nat, q = P := ⟨q.toNat, by omega⟩
  obtain ⟨s, rfl⟩ : ∃ s : Nat, r2 = s := ⟨r2.toNat, by omega⟩
  obtain ⟨k, rfl⟩ : ∃ j, k = j + 1 := ⟨k - 1, by omega⟩
  have er : r = P * (P ^ k * s) := by
    have : (r : Int) = ((P * (P ^ k * s) : Nat) : Int) := by
      rw [hrr, Int.natCast_mul, Int.natCast_mul, Int.natCast_pow, Int.pow_succ, Int.mul_comm ((P : Int) ^ k), Int.mul_assoc]
    omega
  have e1 : A * r = P * (A * (P ^ k * s)) := by rw [er, Nat.mul_left_comm]
  have e2 : c / (P : Int) = ((A * (P ^ k * s) : Nat) : Int) := by
    rw [hc, e1, Int.natCast_mul]
    exact Int.mul_ediv_cancel_left _ (by omega)
  have e3 : c - c / (P : Int) = ((A * (P ^ k * (P - 1)) * s : Nat) : Int) := by
    rw [e2, hc, e1]
    have h1 : A * (P ^ k * (P - 1)) * s = (P - 1) * (A * (P ^ k * s)) := by
      rw [Nat.mul_assoc, Nat.mul_comm (P ^ k) (P - 1), Nat.mul_assoc (P - 1), Nat.mul_left_comm]
    have h2 : (P - 1) * (A * (P ^ k * s)) + A * (P ^ k * s) = P * (A * (P ^ k * s)) := by
      have : (P - 1 + 1) * (A * (P ^ k * s)) = P * (A * (P ^ k * s)) := by rw [show P - 1 + 1 = P by omega]
      rw [← this, Nat.succ_mul]
    rw [h1]
    omega
  have hpos : (0 : Int) ≤ c / (P : Int) := by rw [e2]; omega
  refine ⟨by simpa using hq2, by omega, by show 0 ≤ c - c / (P : Int); omega, by show c - c / (P : Int) ≤ c; omega, A * (P ^ k * (P - 1)), s, by exact e3, by omega, hF2, ?_⟩
  rw [← hA]
  simp only [phiL, Int.toNat_natCast, Nat.add_sub_cancel]
  rw [Nat.mul_assoc]

theorem phiAt_end {l : List (Int × Nat)} {c : Int} (h : PhiAt l l.length c) : c = (phiL l : Nat) := by
  obtain ⟨A, r, hc, _, hF, hA⟩ := h
  rw [List.drop_length] at hF hA
  have : (r : Int) = 1 := hF
  have : r = 1 := by omega
  subst this
  simp [phiL] at hA
  rw [hc, ← hA]; simp

/-- MOEBIUS's sign where the list has been gone through as far as place i. -/
def MuAt (l : List (Int × Nat)) (i : Nat) (s : Int) : Prop := (s = 1 ∨ s = -1) ∧ s * val muF (l.drop i) = val muF l

theorem muAt_start (l : List (Int × Nat)) : MuAt l 0 1 := ⟨.inl rfl, by simp⟩

theorem muAt_zero {l : List (Int × Nat)} {i : Nat} {s : Int} (h : MuAt l i s) (hi : i < l.length) (hk : 1 < (nthP l i).2) : val muF l = 0 := by
  obtain ⟨_, h⟩ := h
  rw [List.drop_eq_getElem_cons hi] at h
  rw [nthP_eq hi] at hk
  generalize l[i] = x at *
  obtain ⟨q, k⟩ := x
  simp only at hk
  simp only [val, muF] at h
  rw [if_neg (by omega)] at h
  rw [← h]; simp

theorem muAt_step {l : List (Int × Nat)} {i : Nat} {s : Int} (h : MuAt l i s) (hi : i < l.length) (hk : (nthP l i).2 = 1) : MuAt l (i + 1) (-s) := by
  obtain ⟨hs, h⟩ := h
  rw [List.drop_eq_getElem_cons hi] at h
  rw [nthP_eq hi] at hk
  generalize l[i] = x at *
  obtain ⟨q, k⟩ := x
  simp only at hk
  subst hk
  simp only [val, muF, if_true] at h
  refine ⟨by omega, ?_⟩
  rw [← h, Int.neg_mul, Int.neg_mul, Int.mul_neg]; simp

theorem muAt_end {l : List (Int × Nat)} {s : Int} (h : MuAt l l.length s) : s = val muF l := by
  obtain ⟨_, h⟩ := h
  rw [List.drop_length] at h
  rw [← h]; simp [val]

theorem mu_fac {n : Nat} {l : List (Int × Nat)} (h : Fac (n : Int) l) (hn : 1 ≤ n) : mu n = val muF l := by
  unfold mu mult; rw [fc_eq h hn]

end Go.Proofs.Ythlnbomapfjphaa.Dd
