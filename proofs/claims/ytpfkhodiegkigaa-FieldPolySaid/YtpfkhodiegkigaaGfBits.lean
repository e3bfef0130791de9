/-
  A byte as a polynomial by 2: its product by the field's own polynomial. No Go in sight.
-/
import Derived.Test.YtpfkhodiegkigaaGgf
import Derived.Test.YtpfkhodiegkigaaGir
namespace Go.Proofs.Ytpfkhodiegkigaa.Po
open Pr Rs Dd Gf

/-- The lowest n bits. -/
def bx (n x : Nat) : List Int := (List.range n).map fun k => ((bi x k : Nat) : Int)
theorem bx_length (n x : Nat) : (bx n x).length = n := by simp [bx]
theorem bx_c (n x k : Nat) : c (bx n x) k = if k < n then ((bi x k : Nat) : Int) else 0 := by
  by_cases h : k < n
  · rw [if_pos h, c_at (by rw [bx_length]; exact h)]
    simp [bx]
  · rw [if_neg h, c_over (by rw [bx_length]; omega)]
theorem bx_bound (n x : Nat) : ∀ a ∈ bx n x, 0 ≤ a ∧ a < 2 := fun a ha => by
  unfold bx at ha
  obtain ⟨k, _, rfl⟩ := List.mem_map.mp ha
  have := bi_lt x k
  omega

theorem bx_xor (n x y : Nat) : Cg 2 (bx n (x ^^^ y)) (add (bx n x) (bx n y)) := fun k => by
  rw [c_add, bx_c, bx_c, bx_c]
  by_cases h : k < n
  · rw [if_pos h, if_pos h, if_pos h, bi_xor]
    rcases bi_cases x k with h1 | h1 <;> rcases bi_cases y k with h2 | h2 <;> rw [h1, h2] <;> decide
  · rw [if_neg h, if_neg h, if_neg h]; decide

theorem bi_over {x k : Nat} (h : x < 2 ^ k) : bi x k = 0 := by unfold bi; rw [Nat.div_eq_of_lt h]
theorem bi_half (x k : Nat) : bi (x / 2) k = bi x (k + 1) := by
  unfold bi
  rw [Nat.div_div_eq_div_mul, Nat.pow_succ, Nat.mul_comm]
theorem bi_zero (x : Nat) : bi x 0 = x % 2 := by unfold bi; rw [Nat.pow_zero, Nat.div_one]
theorem bi_double (x k : Nat) : bi (2 * x) (k + 1) = bi x k := by rw [← bi_half, Nat.mul_div_cancel_left _ (by decide)]
theorem bi_mod {x k : Nat} (h : k < 8) : bi (x % 256) k = bi x k := by
  have := Nat.testBit_mod_two_pow x 8 k
  have e : ∀ y, bi y k = (y.testBit k).toNat := fun y => by
    unfold bi
    rw [Nat.testBit_eq_decide_div_mod_eq]
    have := Nat.mod_lt (y / 2 ^ k) (show 2 > 0 by decide)
    by_cases h1 : y / 2 ^ k % 2 = 1
    · simp [h1]
    · have h2 : y / 2 ^ k % 2 = 0 := by omega
      simp [h2]
  rw [e, e, show (256 : Nat) = 2 ^ 8 by decide, this]
  simp [h]

/-- The field's own polynomial. -/
def f11d : List Int := [1, 0, 1, 1, 1, 0, 0, 0, 1]

theorem bx_mul_bit {x t : Nat} (ht : t < 2) (n : Nat) : ∀ k, c (bx n (x * t)) k = (t : Int) * c (bx n x) k := fun k => by
  rw [bx_c, bx_c]
  have h : t = 0 ∨ t = 1 := by omega
  rcases h with rfl | rfl
  · rw [Nat.mul_zero]
    by_cases h : k < n
    · rw [if_pos h, if_pos h]; simp [bi]
    · rw [if_neg h, if_neg h]; rfl
  · rw [Nat.mul_one, Int.natCast_one, Int.one_mul]

/-- Times x. -/
theorem bx_xt {a : Nat} (ha : a < 256) : Cf 2 f11d (mul xx (bx 8 a)) (bx 8 (xt a)) := by
  refine (shift_cf (p := 2) (d := 8) (f := f11d) (h := bx 8 a) (h' := bx 8 (xt a)) ⟨⟨by decide, by decide⟩, by decide, by decide⟩ (bx_length _ _) (by decide) (bx_length _ _) fun i hi => ?_)
  have h7 : bi a 7 = a / 128 := by unfold bi; omega
  have hp : pre (c (bx 8 a)) i = ((bi (2 * a) i : Nat) : Int) := by
    cases i with
    | zero => rw [bi_zero]; show (0 : Int) = _; omega
    | succ i => rw [bi_double]; show c (bx 8 a) i = _; rw [bx_c, if_pos (by omega)]
  have hf : c f11d i = ((bi 29 i : Nat) : Int) := by
    have : allB (fun i => decide (c f11d i = ((bi 29 i : Nat) : Int))) 8 = true := by decide
    simpa using allB_iff this i hi
  rw [hp, hf, bx_c, if_pos hi, bx_c, if_pos (by decide), show 8 - 1 = 7 from rfl]
  unfold xt
  rw [bi_xor, bi_mod hi, ← h7]
  have e : bi (29 * bi a 7) i = bi 29 i * bi a 7 := by
    rcases bi_cases a 7 with h | h
    · rw [h, Nat.mul_zero, Nat.mul_zero]; unfold bi; simp
    · rw [h, Nat.mul_one, Nat.mul_one]
  rw [e]
  rcases bi_cases (2 * a) i with h1 | h1 <;> rcases bi_cases 29 i with h2 | h2 <;> rcases bi_cases a 7 with h3 | h3 <;> rw [h1, h2, h3] <;> decide

theorem bx_succ (n x : Nat) : bx (n + 1) x = ((x % 2 : Nat) : Int) :: bx n (x / 2) := by
  refine c_ext (by rw [List.length_cons, bx_length, bx_length]) fun k => ?_
  cases k with
  | zero => rw [bx_c, if_pos (by omega), bi_zero]; rfl
  | succ k =>
    rw [c_succ, bx_c, bx_c]
    by_cases h : k < n
    · rw [if_pos h, if_pos (by omega), bi_half]
    · rw [if_neg h, if_neg (by omega)]

theorem congr_mul_left {f f' g : List Int} (he : ∀ i, c f i = c f' i) (i : Nat) : c (mul f g) i = c (mul f' g) i := by
  rw [mul_comm f g, mul_comm f' g]
  exact congr_mul_right g he i

theorem bx_gmf : ∀ n a b, a < 256 → Cf 2 f11d (mul (bx n b) (bx 8 a)) (bx 8 (gmf n a b)) := by
  intro n
  induction n with
  | zero =>
    intro a b _
    refine cf_of (Cg.of_eq fun k => ?_)
    rw [gmf, show bx 0 b = [] from rfl, c_mul_nil, bx_c]
    by_cases h : k < 8
    · rw [if_pos h]; simp [bi]
    · rw [if_neg h]
  | succ n ih =>
    intro a b ha
    have h1 := ih (xt a) (b / 2) (xt_lt ha)
    have h2 : Cf 2 f11d (mul (bx n (b / 2)) (mul xx (bx 8 a))) (bx 8 (gmf n (xt a) (b / 2))) := ((bx_xt ha).mul _).trans h1
    rw [gmf, bx_succ]
    refine Cf.trans ?_ (cf_of (bx_xor 8 _ _).symm)
    refine Di.cg h2 (Cg.of_eq fun k => ?_)
    have e1 : c (mul (bx n (b / 2)) (mul xx (bx 8 a))) k = pre (c (mul (bx n (b / 2)) (bx 8 a))) k := by
      rw [← mul_assoc, congr_mul_left]
      · exact sh_mul (bx n (b / 2)) (bx 8 a) k
      · intro i
        rw [mul_comm, xx_mul]
        cases i with
        | zero => rfl
        | succ i => rfl
    rw [c_add, c_sc, c_add, c_sc, c_add, c_mul, e1, bx_mul_bit (Nat.mod_lt _ (by decide))]
    omega

/-- As a polynomial. -/
def bp (x : Nat) : List Int := short (bx 9 x)
theorem bp_can (x : Nat) : Can 2 (bp x) := ⟨fun a ha => bx_bound 9 x a (short_mem _ _ ha), short_last _⟩
theorem bp_c {x : Nat} (hx : x < 256) (k : Nat) : c (bp x) k = c (bx 8 x) k := by
  unfold bp
  rw [c_short, bx_c, bx_c]
  by_cases h : k < 8
  · rw [if_pos h, if_pos (by omega)]
  · rw [if_neg h]
    by_cases h9 : k < 9
    · have : k = 8 := by omega
      subst this
      rw [if_pos h9, bi_over hx]; rfl
    · rw [if_neg h9]
theorem bp_length {x : Nat} (hx : x < 256) : (bp x).length ≤ 8 := by
  refine Decidable.byContradiction fun hc => ?_
  have h0 : bp x ≠ [] := fun e => by rw [e] at hc; simp at hc
  have h1 := (bp_can x).2 h0
  rw [bp_c hx, bx_c, if_neg (by omega)] at h1
  exact h1 rfl
theorem bp_11d : bp 285 = f11d := by decide

/-- The field's product is what is left by its own polynomial. -/
theorem bp_rest {a b : Nat} (ha : a < 256) (hb : b < 256) {M Q R : List Int} (hM : Cg 2 M (mul (bp a) (bp b))) (hD : IsDv 2 M f11d Q R) : R = bp (gm a b) := by
  have hp : Prm 2 := (pb_iff 2).mp (by decide)
  have hg := gm_lt (b := b) ha
  refine cf_one hp (f := f11d) ⟨by decide, by decide⟩ hD.2.1 (bp_can _) hD.2.2.1 (by have := bp_length hg; show _ < 9; omega) ?_
  refine (cf_rest hD.2.2.2).symm.trans ((cf_of hM).trans ?_)
  refine Cf.trans (cf_of ?_) ((bx_gmf 8 a b ha).trans (cf_of (Cg.of_eq fun k => (bp_c hg k).symm)))
  refine (Cg.comm 2 _ _).trans (Cg.mul (Cg.of_eq (bp_c hb)) (Cg.of_eq (bp_c ha)))

end Go.Proofs.Ytpfkhodiegkigaa.Po
