/-
  JACOBI's symbol: multiplied below, at primes LEGENDRE's (EULER's rule), of -1 and of 2. No Go in sight.
-/
import Derived.Test.YthlnbomapfjphaaDoorSqMath
namespace Go.Proofs.YthlnbomapfjphaaDoor.Sq
open Eu Pr Rs Dd

theorem gcd_mul_one {n a b : Int} : Int.gcd n (a * b) = 1 ↔ Int.gcd n a = 1 ∧ Int.gcd n b = 1 := by
  unfold Int.gcd
  rw [Int.natAbs_mul]
  exact Nat.coprime_mul_iff_right

theorem gcd_add_one {n a t : Int} : Int.gcd n (a + n * t) = Int.gcd n a := by
  rw [Int.gcd_comm, Int.mul_comm n t, Int.gcd_add_mul_right_left, Int.gcd_comm]

theorem sy_turn {g h : Nat} (hg : Int.gcd (2 * (h : Int) + 1) (2 * g + 1) = 1) : sy (2 * g + 1) h = sn (g * h) * sy (2 * h + 1) g := by
  rw [← sy_recip hg, Int.mul_assoc, sy_sq, Int.mul_one]

theorem odd_mul (x y : Nat) : (2 * x + 1) * (2 * y + 1) = 2 * (2 * x * y + x + y) + 1 := by
  rw [Nat.add_mul, Nat.mul_add, Nat.mul_one, Nat.one_mul]
  have : 2 * x * (2 * y) = 2 * (2 * x * y) := by ac_rfl
  omega

theorem odd_mul_int (x y : Nat) : (2 * ((2 * x * y + x + y : Nat) : Int) + 1) = (2 * x + 1) * (2 * y + 1) := by
  have h3 : (((2 * x + 1) * (2 * y + 1) : Nat) : Int) = ((2 * (2 * x * y + x + y) + 1 : Nat) : Int) := by rw [odd_mul]
  rw [Int.natCast_mul] at h3
  have a1 : ((2 * x + 1 : Nat) : Int) = 2 * x + 1 := by omega
  have a2 : ((2 * y + 1 : Nat) : Int) = 2 * y + 1 := by omega
  rw [a1, a2] at h3
  rw [h3]
  generalize 2 * x * y + x + y = z
  omega

/-- Multiplied below. -/
theorem sy_low {a : Int} {h i : Nat} (h1 : Int.gcd (2 * h + 1) a = 1) (h2 : Int.gcd (2 * i + 1) a = 1) : sy a (2 * h * i + h + i) = sy a h * sy a i := by
  have eN := odd_mul_int h i
  obtain ⟨g, t, hgt⟩ : ∃ (g : Nat) (t : Int), (2 * (g : Int) + 1) = a + (2 * ((2 * h * i + h + i : Nat) : Int) + 1) * t := by
    have r1 := Int.emod_nonneg a (b := 2 * ((2 * h * i + h + i : Nat) : Int) + 1) (by omega)
    have r3 := Int.mul_ediv_add_emod a (2 * ((2 * h * i + h + i : Nat) : Int) + 1)
    generalize 2 * h * i + h + i = H at *
    generalize hr : a % (2 * (H : Int) + 1) = r at *
    generalize hq : a / (2 * (H : Int) + 1) = q at *
    by_cases ho : r % 2 = 1
    · refine ⟨(r / 2).toNat, -q, ?_⟩
      rw [Int.mul_neg]
      omega
    · refine ⟨((r + (2 * H + 1)) / 2).toNat, 1 - q, ?_⟩
      rw [Int.mul_sub, Int.mul_one]
      omega
  have m1 := sy_mod a t (2 * h * i + h + i)
  rw [← hgt] at m1
  have e2 : a + (2 * ((2 * h * i + h + i : Nat) : Int) + 1) * t = a + (2 * (h : Int) + 1) * ((2 * i + 1) * t) := by rw [eN, Int.mul_assoc]
  have e3 : a + (2 * ((2 * h * i + h + i : Nat) : Int) + 1) * t = a + (2 * (i : Int) + 1) * ((2 * h + 1) * t) := by rw [eN, Int.mul_comm (2 * (h : Int) + 1), Int.mul_assoc]
  have m2 := sy_mod a ((2 * (i : Int) + 1) * t) h
  have m3 := sy_mod a ((2 * (h : Int) + 1) * t) i
  rw [← e2, ← hgt] at m2
  rw [← e3, ← hgt] at m3
  have c2 : Int.gcd (2 * (h : Int) + 1) (2 * g + 1) = 1 := by rw [hgt, e2, gcd_add_one]; exact h1
  have c3 : Int.gcd (2 * (i : Int) + 1) (2 * g + 1) = 1 := by rw [hgt, e3, gcd_add_one]; exact h2
  have c1 : Int.gcd (2 * ((2 * h * i + h + i : Nat) : Int) + 1) (2 * g + 1) = 1 := by
    rw [eN, Int.gcd_comm, gcd_mul_one]
    exact ⟨by rw [Int.gcd_comm]; exact c2, by rw [Int.gcd_comm]; exact c3⟩
  rw [← m1, ← m2, ← m3, sy_turn c1, sy_turn c2, sy_turn c3, eN, sy_mul (by rw [Int.gcd_comm]; exact c2) (by rw [Int.gcd_comm]; exact c3)]
  have : sn ((g : Int) * ((2 * h * i + h + i : Nat) : Int)) = sn (g * h) * sn (g * i) := by
    rw [← sn_add]
    refine sn_congr ?_
    rw [Int.natCast_add, Int.natCast_add, Int.natCast_mul, Int.natCast_mul, Int.mul_add, Int.mul_add]
    have : (g : Int) * (((2 : Nat) : Int) * h * i) = 2 * (g * h * i) := by
      show (g : Int) * (2 * h * i) = _
      ac_rfl
    omega
  rw [this]
  ac_rfl

/-- JACOBI's symbol, of an odd number below. -/
def jac (a : Int) (n : Nat) : Int := if Int.gcd n a = 1 then sy a (n / 2) else 0

theorem odd_form {n : Nat} (h : n % 2 = 1) : (n : Int) = 2 * ((n / 2 : Nat) : Int) + 1 := by omega

theorem jac_yes {a : Int} {n : Nat} (hg : Int.gcd n a = 1) : jac a n = sy a (n / 2) := if_pos hg
theorem jac_no {a : Int} {n : Nat} (hg : Int.gcd n a ≠ 1) : jac a n = 0 := if_neg hg
theorem jac_sign (a : Int) (n : Nat) : jac a n = 0 ∨ jac a n = 1 ∨ jac a n = -1 := by
  unfold jac
  split
  · exact .inr (sy_sign _ _)
  · exact .inl rfl
theorem jac_zero {a : Int} {n : Nat} : jac a n = 0 ↔ Int.gcd n a ≠ 1 := by
  unfold jac
  split
  · rename_i hg
    rcases sy_sign a (n / 2) with e | e <;> rw [e] <;> simp [hg]
  · rename_i hg
    simp [hg]

theorem jac_mod (a t : Int) {n : Nat} (hn : n % 2 = 1) : jac (a + n * t) n = jac a n := by
  unfold jac
  rw [gcd_add_one, odd_form hn, sy_mod]

theorem jac_emod (a : Int) {n : Nat} (hn : n % 2 = 1) : jac (a % n) n = jac a n := by
  have := jac_mod (a % n) (a / n) hn
  rw [Int.emod_add_mul_ediv] at this
  exact this.symm

theorem jac_mul {a b : Int} {n : Nat} (hn : n % 2 = 1) : jac (a * b) n = jac a n * jac b n := by
  by_cases ha : Int.gcd n a = 1
  · by_cases hb : Int.gcd n b = 1
    · rw [jac_yes ha, jac_yes hb, jac_yes (gcd_mul_one.mpr ⟨ha, hb⟩)]
      rw [odd_form hn] at ha hb
      exact sy_mul ha hb
    · rw [jac_no hb, jac_no (fun h => hb (gcd_mul_one.mp h).2), Int.mul_zero]
  · rw [jac_no ha, jac_no (fun h => ha (gcd_mul_one.mp h).1), Int.zero_mul]

theorem jac_low {a : Int} {m n : Nat} (hm : m % 2 = 1) (hn : n % 2 = 1) : jac a (m * n) = jac a m * jac a n := by
  have hc : Int.gcd ((m * n : Nat) : Int) a = 1 ↔ Int.gcd m a = 1 ∧ Int.gcd n a = 1 := by
    rw [Int.gcd_comm, Int.natCast_mul, gcd_mul_one, Int.gcd_comm, Int.gcd_comm a n]
  by_cases h1 : Int.gcd m a = 1
  · by_cases h2 : Int.gcd n a = 1
    · rw [jac_yes h1, jac_yes h2, jac_yes (hc.mpr ⟨h1, h2⟩)]
      rw [odd_form hm] at h1
      rw [odd_form hn] at h2
      rw [← sy_low h1 h2]
      congr 1
      obtain ⟨x, rfl⟩ : ∃ x, m = 2 * x + 1 := ⟨m / 2, by omega⟩
      obtain ⟨y, rfl⟩ : ∃ y, n = 2 * y + 1 := ⟨n / 2, by omega⟩
      have e1 : (2 * x + 1) / 2 = x := by omega
      have e2 : (2 * y + 1) / 2 = y := by omega
      rw [e1, e2, odd_mul]
      omega
    · rw [jac_no h2, jac_no (fun h => h2 (hc.mp h).2), Int.mul_zero]
  · rw [jac_no h1, jac_no (fun h => h1 (hc.mp h).1), Int.zero_mul]

theorem jac_turn {m n : Nat} (hm : m % 2 = 1) (hn : n % 2 = 1) : jac m n = (if m % 4 = 3 ∧ n % 4 = 3 then -1 else 1) * jac n m := by
  by_cases hg : Int.gcd n m = 1
  · have hg2 : Int.gcd m n = 1 := by rw [Int.gcd_comm]; exact hg
    rw [jac_yes hg, jac_yes hg2]
    rw [odd_form hm, odd_form hn] at hg
    rw [odd_form hm, odd_form hn, sy_turn hg]
    congr 1
    unfold sn
    by_cases h3 : m % 4 = 3 ∧ n % 4 = 3
    · rw [if_pos h3, if_neg]
      obtain ⟨x, hx⟩ : ∃ x, m / 2 = 2 * x + 1 := ⟨m / 4, by omega⟩
      obtain ⟨y, hy⟩ : ∃ y, n / 2 = 2 * y + 1 := ⟨n / 4, by omega⟩
      rw [hx, hy, Int.natCast_add, Int.natCast_add, Int.natCast_mul, Int.natCast_mul, Int.add_mul, Int.mul_assoc]
      omega
    · rw [if_neg h3, if_pos]
      rcases (show m % 4 = 1 ∨ n % 4 = 1 by omega) with h | h
      · obtain ⟨x, hx⟩ : ∃ x, m / 2 = 2 * x := ⟨m / 4, by omega⟩
        rw [hx, Int.natCast_mul, Int.mul_assoc]
        omega
      · obtain ⟨y, hy⟩ : ∃ y, n / 2 = 2 * y := ⟨n / 4, by omega⟩
        rw [hy, Int.natCast_mul, Int.mul_left_comm]
        omega
  · have hg2 : Int.gcd m n ≠ 1 := by rw [Int.gcd_comm]; exact hg
    rw [jac_no hg, jac_no hg2, Int.mul_zero]

theorem jac_one (a : Int) : jac a 1 = 1 := by
  rw [jac_yes (by simp)]
  rfl

/-- Of -1. -/
theorem jac_neg {n : Nat} (hn : n % 2 = 1) : jac (-1) n = if n % 4 = 3 then -1 else 1 := by
  have hg : Int.gcd n (-1) = 1 := by simp
  rw [jac_yes hg]
  have e1 : sy (-1) (n / 2) = sn ((n / 2 : Nat) : Int) := by
    unfold sy
    have e2 : ((n / 2 : Nat) : Int) = sm (fun _ => 1) (upto (n / 2)) := by rw [sm_one, upto_length]
    rw [e2, sn_sm]
    refine pr_congr fun k hk => ?_
    obtain ⟨k1, k2⟩ := mem_upto.mp hk
    generalize n / 2 = h at *
    have : (-1 * (k : Int)) % (2 * h + 1) = 2 * h + 1 - k := by
      have e3 : -1 * (k : Int) = (2 * h + 1 - k) + (2 * h + 1) * (-1) := by omega
      rw [e3, Int.add_mul_emod_self_left, Int.emod_eq_of_lt (by omega) (by omega)]
    unfold sg
    rw [this, if_neg (by omega)]
    rfl
  rw [e1]
  unfold sn
  split <;> split <;> omega

theorem count_half (H : Nat) : ∀ h : Nat, sm (fun k => if 2 * k ≤ H then 0 else 1) (upto h) = if h ≤ H / 2 then 0 else (h : Int) - (H / 2 : Nat) := by
  intro h
  induction h with
  | zero => rw [if_pos (by omega)]; rfl
  | succ g ih =>
    have e : upto (g + 1) = upto g ++ [g + 1] := by
      unfold upto
      rw [List.range'_concat]
      simp [Nat.add_comm]
    rw [e, sm_append, ih]
    simp only [sm]
    split <;> split <;> split <;> omega

/-- Of 2. -/
theorem jac_two {n : Nat} (hn : n % 2 = 1) : jac 2 n = if n % 8 = 3 ∨ n % 8 = 5 then -1 else 1 := by
  have hg : Int.gcd n 2 = 1 := by
    show Nat.gcd n 2 = 1
    rw [Nat.gcd_comm, Nat.gcd_rec, hn]
    rfl
  rw [jac_yes hg]
  have e1 : sy 2 (n / 2) = sn (sm (fun k => if 2 * k ≤ n / 2 then 0 else 1) (upto (n / 2))) := by
    unfold sy
    rw [sn_sm]
    refine pr_congr fun k hk => ?_
    obtain ⟨k1, k2⟩ := mem_upto.mp hk
    generalize n / 2 = h at *
    have : (2 * (k : Int)) % (2 * h + 1) = 2 * k := Int.emod_eq_of_lt (by omega) (by omega)
    unfold sg
    rw [this]
    by_cases hc : 2 * k ≤ h
    · rw [if_pos (by omega), if_pos hc]; rfl
    · rw [if_neg (by omega), if_neg hc]; rfl
  rw [e1, count_half]
  unfold sn
  split <;> split <;> split <;> omega

end Go.Proofs.YthlnbomapfjphaaDoor.Sq
