/-
  What a row of bits leaves is the remainder of polynomials modulo 2. No Go in sight.
-/
import Derived.Test.YtlpnopliblaknaaDoorCyMath
import Derived.Test.YtlpnopliblaknaaDoorGma
namespace Go.Proofs.YtlpnopliblaknaaDoor.Cy
open Pr Ln Po

/-- The bits of a row, the last first; the bits of a number, the lowest first. -/
def nu (l : List Bool) : List Int := (l.map fun b => ((b.toNat : Nat) : Int)).reverse
def bl (n w : Nat) : List Int := (List.range n).map fun i => ((bt i w : Nat) : Int)
theorem c_bl (n w i : Nat) : c (bl n w) i = if i < n then ((bt i w : Nat) : Int) else 0 := by
  unfold bl c
  by_cases h : i < n
  · rw [if_pos h]; simp [h]
  · rw [if_neg h]; simp [Nat.le_of_not_lt h]
theorem c_bl_all {n w : Nat} (h : w < 2 ^ n) (i : Nat) : c (bl n w) i = ((bt i w : Nat) : Int) := by
  rw [c_bl]
  split
  · rfl
  · rw [bt_high h (by omega)]; rfl
theorem nu_snoc (l : List Bool) (b : Bool) : nu (l ++ [b]) = ((b.toNat : Nat) : Int) :: nu l := by simp [nu]
theorem bt_zero_two (r : Nat) (b : Bool) : bt 0 (2 * r + b.toNat) = b.toNat := by
  have hb : b.toNat < 2 := Bool.toNat_lt b
  unfold bt
  omega
theorem bt_succ_two (r : Nat) (b : Bool) (i : Nat) : bt (i + 1) (2 * r + b.toNat) = bt i r := by
  have hb : b.toNat < 2 := Bool.toNat_lt b
  unfold bt
  rw [Nat.pow_succ, Nat.mul_comm (2 ^ i), ← Nat.div_div_eq_div_mul, show (2 * r + b.toNat) / 2 = r by omega]
theorem c_two {n r : Nat} (b : Bool) (hr : r < 2 ^ n) (i : Nat) : c (((b.toNat : Nat) : Int) :: bl n r) i = ((bt i (2 * r + b.toNat) : Nat) : Int) := by
  match i with
  | 0 => rw [c_zero, bt_zero_two]
  | i + 1 => rw [c_succ, c_bl_all hr, bt_succ_two]
/-- A row's bits are those of its number. -/
theorem c_nu (l : List Bool) (i : Nat) : c (nu l) i = ((bt i (vl 0 l) : Nat) : Int) := by
  have : ∀ (k : List Bool) (i : Nat), c (nu k.reverse) i = ((bt i (vl 0 k.reverse) : Nat) : Int) := by
    intro k
    induction k with
    | nil => intro i; simp [nu, c, vl, bt]
    | cons b k ih =>
      intro i
      rw [List.reverse_cons, nu_snoc, vl_append]
      show _ = ((bt i (2 * vl 0 k.reverse + b.toNat) : Nat) : Int)
      match i with
      | 0 => rw [c_zero, bt_zero_two]
      | i + 1 => rw [c_succ, ih, bt_succ_two]
  have h := this l.reverse i
  rwa [List.reverse_reverse] at h

/-- What a row leaves differs from it by a multiple. -/
theorem rs_dv {d g : Nat} (hg : Top d g) (l : List Bool) : ∃ q, Dv 2 (nu l) (bl (d + 1) g) q (bl d (rs d g 0 l)) := by
  have hp : 0 < 2 ^ d := Nat.pow_pos (by decide)
  have : ∀ k : List Bool, ∃ q, Dv 2 (nu k.reverse) (bl (d + 1) g) q (bl d (rs d g 0 k.reverse)) := by
    intro k
    induction k with
    | nil =>
      refine ⟨[], Cg.of_eq fun i => ?_⟩
      rw [c_add, c_mul_nil]
      simp only [List.reverse_nil, rs_nil]
      rw [c_bl_all hp]
      simp [nu, c, bt]
    | cons b k ih =>
      obtain ⟨q, hq⟩ := ih
      rw [List.reverse_cons, nu_snoc, rs_append, rs_cons, rs_nil]
      have hR : rs d g 0 k.reverse < 2 ^ d := rs_lt hg _ hp
      generalize rs d g 0 k.reverse = R at hq hR ⊢
      have hS : st d g R b < 2 ^ d := st_lt hg hR b
      have h1 : ∀ i, (2 : Int) ∣ pre (c (mul q (bl (d + 1) g))) i + ((bt i (2 * R + b.toNat) : Nat) : Int) - c (((b.toNat : Nat) : Int) :: nu k.reverse) i := by
        intro i
        match i with
        | 0 => rw [c_zero, bt_zero_two]; simp [pre]
        | i + 1 =>
          have := hq i
          rw [c_add, c_bl_all hR] at this
          rw [c_succ, bt_succ_two]
          exact this
      by_cases ht : 2 * R + b.toNat < 2 ^ d
      · refine ⟨0 :: q, fun i => ?_⟩
        rw [c_add, sh_mul, c_bl_all hS, show st d g R b = 2 * R + b.toNat from if_pos ht]
        exact h1 i
      · refine ⟨Po.add (0 :: q) [1], fun i => ?_⟩
        have h2 := h1 i
        rw [c_add, Po.add_mul, sh_mul, one_mul, c_bl_all hS, c_bl_all hg.2, show st d g R b = (2 * R + b.toNat) ^^^ g from if_neg ht, bt_xor]
        omega
  have h := this l.reverse
  rwa [List.reverse_reverse] at h

/-- So it is THE remainder. -/
theorem rs_rem {d g : Nat} (hg : Top d g) (l : List Bool) {q r : List Int} (hq : Can 2 q) (hr : Can 2 r) (hl : r.length < d + 1) (hD : Dv 2 (nu l) (bl (d + 1) g) q r) (i : Nat) :
    c r i = ((bt i (rs d g 0 l) : Nat) : Int) := by
  obtain ⟨q2, h2⟩ := rs_dv hg l
  have hp : (0 : Int) < 2 := by decide
  have hb : ∀ j, c (bl (d + 1) g) j = ((bt j g : Nat) : Int) := c_bl_all hg.2
  have hlen : (bl (d + 1) g).length = d + 1 := by simp [bl]
  have h0 : bl (d + 1) g ≠ [] := fun e => by rw [e] at hlen; cases hlen
  have hcan : Can 2 (bl (d + 1) g) := by
    refine ⟨fun x hx => ?_, fun _ => ?_⟩
    · obtain ⟨j, _, rfl⟩ := List.mem_map.mp hx
      have := bt_two j g
      omega
    · rw [hlen, hb, show d + 1 - 1 = d by omega, hg.bt]
      decide
  have hrl : (red 2 (bl d (rs d g 0 l))).length < (bl (d + 1) g).length := by
    have := red_length 2 (bl d (rs d g 0 l))
    rw [hlen]
    have : (bl d (rs d g 0 l)).length = d := by simp [bl]
    omega
  have hu := div_uniq prm_two hcan h0 hq hr (can_red hp q2) (can_red hp (bl d (rs d g 0 l))) (by rw [hlen]; exact hl) hrl hD
    ((((cg_red 2 q2).mul (Cg.refl 2 _)).add (cg_red 2 _)).trans h2)
  rw [hu.2, c_red, c_bl_all (rs_lt hg l (Nat.pow_pos (by decide)))]
  have := bt_two i (rs d g 0 l)
  omega

end Go.Proofs.YtlpnopliblaknaaDoor.Cy
