/-
  Of an odd prime's rests but 0 the half are squares. No Go in sight.
-/
import Derived.Test.YthlnbomapfjphaaDoorSqWay
import Derived.Test.YthlnbomapfjphaaDoorSqEuler
namespace Go.Proofs.YthlnbomapfjphaaDoor
open Eu Pr Rs Dd Sq

/-- How many of the first i have the symbol 1. -/
def sqs (p i : Nat) : Int := sm (fun b => if jac (b : Int) p = 1 then 1 else 0) (upto i)
theorem sqs_zero (p : Nat) : sqs p 0 = 0 := rfl
theorem upto_snoc (i : Nat) : upto (i + 1) = upto i ++ [i + 1] := by
  unfold upto
  rw [List.range'_1_concat, Nat.add_comm 1 i]
theorem sqs_succ (p i : Nat) : sqs p (i + 1) = sqs p i + if jac ((i + 1 : Nat) : Int) p = 1 then 1 else 0 := by
  unfold sqs
  rw [upto_snoc, sm_append]
  congr 1
  show (if jac ((i + 1 : Nat) : Int) p = 1 then (1 : Int) else 0) + 0 = _
  rw [Int.add_zero]
theorem sqs_bound (p i : Nat) : 0 ≤ sqs p i ∧ sqs p i ≤ i := by
  induction i with
  | zero => rw [sqs_zero]; omega
  | succ i ih =>
    rw [sqs_succ]
    split <;> omega

theorem sqs_half {p : Nat} (hp : Prm (p : Int)) (h2 : p ≠ 2) : 2 * sqs p (p - 1) = (p : Int) - 1 := by
  obtain ⟨ho, h3⟩ := prm_odd hp h2
  obtain ⟨z, z1, z2, hz⟩ := nonsq_some hp h2
  have hzp : ¬ (p : Int) ∣ (z : Int) := small_not (by omega) z2
  obtain ⟨l, hl⟩ : ∃ l, upto (p - 1) = l := ⟨_, rfl⟩
  have hmem : ∀ x, x ∈ l ↔ 1 ≤ x ∧ x < p := fun x => by rw [← hl, mem_upto]; omega
  let f : Nat → Nat := fun x => z * x % p
  have hfi : ∀ x, ((f x : Nat) : Int) = (z : Int) * (x : Int) % (p : Int) := fun x => by
    show ((z * x % p : Nat) : Int) = _
    rw [Int.natCast_emod, Int.natCast_mul]
  have hnd : ∀ x, x ∈ l → ¬ (p : Int) ∣ (z : Int) * (x : Int) := fun x hx hd => by
    obtain ⟨x1, x2⟩ := (hmem x).mp hx
    rcases Pr.euclid hp hd with h | h
    · exact hzp h
    · exact small_not x1 x2 h
  have hf : ∀ x ∈ l, f x ∈ l := fun x hx => by
    rw [hmem]
    refine ⟨Nat.pos_of_ne_zero fun h0 => hnd x hx ?_, Nat.mod_lt _ (by omega)⟩
    have := hfi x
    rw [h0] at this
    exact Int.dvd_of_emod_eq_zero this.symm
  have hi : ∀ x ∈ l, ∀ y ∈ l, f x = f y → x = y := fun x hx y hy he => by
    obtain ⟨x1, x2⟩ := (hmem x).mp hx
    obtain ⟨y1, y2⟩ := (hmem y).mp hy
    have e1 : ((f x : Nat) : Int) = ((f y : Nat) : Int) := by rw [he]
    rw [hfi, hfi] at e1
    have hd : (p : Int) ∣ (z : Int) * ((x : Int) - (y : Int)) := by
      rw [Int.mul_sub]
      exact Int.dvd_of_emod_eq_zero (Int.emod_eq_emod_iff_emod_sub_eq_zero.mp e1)
    rcases Pr.euclid hp hd with h | h
    · exact absurd h hzp
    · exact same_of x2 y2 h
  have hperm := map_perm (l := l) (hl ▸ upto_nodup _) hf hi
  have hT : sm (fun b => jac (b : Int) p) l = - sm (fun b => jac (b : Int) p) l := by
    have h1 := sm_perm (fun b => jac (b : Int) p) hperm
    rw [sm_map] at h1
    have h4 : sm (fun b => jac ((f b : Nat) : Int) p) l = sm (fun b => jac (b : Int) p) l := h1
    have h2 : sm (fun b => jac ((f b : Nat) : Int) p) l = sm (fun b => (-1) * jac (b : Int) p) l := sm_congr fun b _ => by
      rw [hfi, jac_emod _ ho, jac_mul ho, hz]
    have h3 : sm (fun b => (-1) * jac (b : Int) p) l = (-1) * sm (fun b => jac (b : Int) p) l := sm_mul (-1) (fun b => jac (b : Int) p) l
    rw [h2, h3] at h4
    omega
  have hT0 : sm (fun b => jac (b : Int) p) l = 0 := by omega
  have hS : sm (fun b => jac (b : Int) p) l = sm (fun b => (2 * if jac (b : Int) p = 1 then 1 else 0) + (-1)) l := sm_congr fun b hb => by
    obtain ⟨b1, b2⟩ := (hmem b).mp hb
    have hne : jac (b : Int) p ≠ 0 := fun h0 => jac_zero.mp h0 (prm_gcd hp (small_not b1 b2))
    rcases jac_sign (b : Int) p with h | h | h
    · exact absurd h hne
    · rw [h]; rfl
    · rw [h]; rfl
  have hadd : ∀ (F H : Nat → Int) (k : List Nat), sm (fun d => F d + H d) k = sm F k + sm H k := fun F H k => by
    induction k with
    | nil => rfl
    | cons a k ih =>
      show F a + H a + sm (fun d => F d + H d) k = (F a + sm F k) + (H a + sm H k)
      rw [ih]; omega
  have hneg : sm (fun _ => (-1 : Int)) l = -((p : Int) - 1) := by
    have := sm_mul (-1) (fun _ => 1) l
    rw [sm_one] at this
    have hlen : l.length = p - 1 := by rw [← hl, upto_length]
    rw [hlen] at this
    have e : sm (fun _ => (-1 : Int)) l = sm (fun _ => -1 * 1) l := rfl
    rw [e, this]
    omega
  rw [hS, hadd, sm_mul, hneg] at hT0
  have : sqs p (p - 1) = sm (fun b => if jac (b : Int) p = 1 then 1 else 0) l := by unfold sqs; rw [hl]
  rw [this]
  omega

end Go.Proofs.YthlnbomapfjphaaDoor
