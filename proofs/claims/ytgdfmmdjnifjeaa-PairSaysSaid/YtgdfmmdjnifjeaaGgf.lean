/-
  Several texts in one:
  - The field of 256 elements as natural numbers: multiplied by x, and by bits; its laws by what is alike at single bits. No Go in sight.
  - The document's own product of bytes (all bits, and then what is over), its powers; logarithms: no Go in sight.
-/
import Derived.Test.YtgdfmmdjnifjeaaGma
namespace Go.Proofs.Ytgdfmmdjnifjeaa.Gf

/-- Multiplied by x. -/
def xt (a : Nat) : Nat := (2 * a % 256) ^^^ (29 * (a / 128))

/-- By the lowest n bits of b. -/
def gmf : Nat → Nat → Nat → Nat
  | 0, _, _ => 0
  | n + 1, a, b => (a * (b % 2)) ^^^ gmf n (xt a) (b / 2)

/-- The product. -/
def gm (a b : Nat) : Nat := gmf 8 a b

/-- All below n, reckoned. -/
def allB (p : Nat → Bool) : Nat → Bool
  | 0 => true
  | n + 1 => p n && allB p n
theorem allB_iff {p : Nat → Bool} : ∀ {n : Nat}, allB p n = true → ∀ a, a < n → p a = true := by
  intro n
  induction n with
  | zero => intro _ a h; omega
  | succ n ih =>
    intro h a ha
    rw [allB, Bool.and_eq_true] at h
    by_cases e : a = n
    · rw [e]; exact h.1
    · exact ih h.2 a (by omega)

theorem xor_lt {a b : Nat} (ha : a < 256) (hb : b < 256) : a ^^^ b < 256 := Nat.xor_lt_two_pow (n := 8) ha hb

theorem xt_lt {a : Nat} (h : a < 256) : xt a < 256 := xor_lt (Nat.mod_lt _ (by decide)) (by omega)

theorem xor_four (a b c d : Nat) : (a ^^^ b) ^^^ (c ^^^ d) = (a ^^^ c) ^^^ (b ^^^ d) := by
  rw [Nat.xor_assoc, Nat.xor_assoc, ← Nat.xor_assoc b c d, Nat.xor_comm b c, Nat.xor_assoc c b d]

theorem pow8 {k : Nat} (h : k < 8) : 2 ^ k < 256 := by
  have : allB (fun k => decide (2 ^ k < 256)) 8 = true := by decide +kernel
  simpa using allB_iff this k h

/-- What is told bit by bit: two that go over sums, and are alike at single bits, are alike. -/
theorem by_bits {F H : Nat → Nat} (hF : ∀ a b, a < 256 → b < 256 → F (a ^^^ b) = F a ^^^ F b) (hH : ∀ a b, a < 256 → b < 256 → H (a ^^^ b) = H a ^^^ H b) (h0 : F 0 = H 0) (h : ∀ k, k < 8 → F (2 ^ k) = H (2 ^ k)) : ∀ a, a < 256 → F a = H a := by
  have : ∀ n, n ≤ 8 → ∀ a, a < 2 ^ n → F a = H a := by
    intro n
    induction n with
    | zero =>
      intro _ a ha
      have : a = 0 := by simpa using ha
      rw [this]; exact h0
    | succ n ih =>
      intro hn a ha
      by_cases hlt : a < 2 ^ n
      · exact ih (by omega) a hlt
      · have hr : a - 2 ^ n < 2 ^ n := by rw [Nat.pow_succ] at ha; omega
        have hn8 : 2 ^ n < 256 := pow8 (by omega)
        have e : a = 2 ^ n ^^^ (a - 2 ^ n) := by
          have h1 : 2 ^ n + (a - 2 ^ n) = 2 ^ n ^^^ (a - 2 ^ n) := by
            apply Nat.eq_of_testBit_eq
            intro i
            rw [Nat.testBit_xor, Nat.testBit_two_pow]
            by_cases hi : n = i
            · subst hi
              rw [Nat.testBit_two_pow_add_eq, Nat.testBit_lt_two_pow hr]
              simp
            · by_cases hi2 : i < n
              · rw [Nat.testBit_two_pow_add_gt hi2]
                simp [hi]
              · rw [Nat.testBit_lt_two_pow (Nat.lt_of_lt_of_le (show 2 ^ n + (a - 2 ^ n) < 2 ^ (n + 1) by omega) (Nat.pow_le_pow_right (by decide) (by omega))), Nat.testBit_lt_two_pow (Nat.lt_of_lt_of_le hr (Nat.pow_le_pow_right (by decide) (by omega)))]
                simp [hi]
          omega
        rw [e, hF _ _ hn8 (by omega), hH _ _ hn8 (by omega), h n (by omega), ih (by omega) _ hr]
  exact fun a ha => this 8 (Nat.le_refl _) a ha

theorem xor_half (b c : Nat) : (b ^^^ c) / 2 = b / 2 ^^^ c / 2 := Nat.xor_div_two
theorem xor_odd (b c : Nat) : (b ^^^ c) % 2 = (b % 2) ^^^ (c % 2) := by
  have := Nat.xor_mod_two_pow (a := b) (b := c) (n := 1)
  simpa using this

theorem bit_mul (a : Nat) {x y : Nat} (hx : x < 2) (hy : y < 2) : a * (x ^^^ y) = a * x ^^^ a * y := by
  match x, y, hx, hy with
  | 0, 0, _, _ => simp
  | 0, 1, _, _ => simp
  | 1, 0, _, _ => simp
  | 1, 1, _, _ => simp

theorem xt_add {a b : Nat} (ha : a < 256) (hb : b < 256) : xt (a ^^^ b) = xt a ^^^ xt b := by
  have h1 : (a ^^^ b) / 128 = a / 128 ^^^ b / 128 := Nat.xor_div_two_pow (n := 7)
  have h2 : 2 * (a ^^^ b) % 256 = (2 * a % 256) ^^^ (2 * b % 256) := by
    have e1 : 2 * (a ^^^ b) = 2 * a ^^^ 2 * b := by
      have := Nat.shiftLeft_xor_distrib (a := a) (b := b) (i := 1)
      rw [Nat.shiftLeft_eq, Nat.shiftLeft_eq, Nat.shiftLeft_eq] at this
      rw [Nat.mul_comm 2, Nat.mul_comm 2 a, Nat.mul_comm 2 b]
      exact this
    rw [e1]
    exact Nat.xor_mod_two_pow (n := 8)
  unfold xt
  rw [h1, h2, bit_mul 29 (by omega) (by omega), xor_four]

theorem gmf_lt : ∀ n a b, a < 256 → gmf n a b < 256 := by
  intro n
  induction n with
  | zero => intro a b _; simp [gmf]
  | succ n ih =>
    intro a b ha
    rw [gmf]
    refine xor_lt ?_ (ih _ _ (xt_lt ha))
    rcases Nat.mod_two_eq_zero_or_one b with h | h
    · rw [h]; simp
    · rw [h]; simpa using ha
theorem gm_lt {a b : Nat} (ha : a < 256) : gm a b < 256 := gmf_lt 8 a b ha

theorem gmf_right : ∀ n a b c, gmf n a (b ^^^ c) = gmf n a b ^^^ gmf n a c := by
  intro n
  induction n with
  | zero => intro a b c; simp [gmf]
  | succ n ih =>
    intro a b c
    rw [gmf, gmf, gmf, xor_half, ih, xor_odd, bit_mul a (by omega) (by omega), xor_four]

theorem gmf_left : ∀ n a b c, a < 256 → b < 256 → gmf n (a ^^^ b) c = gmf n a c ^^^ gmf n b c := by
  intro n
  induction n with
  | zero => intro a b c _ _; simp [gmf]
  | succ n ih =>
    intro a b c ha hb
    rw [gmf, gmf, gmf, xt_add ha hb, ih _ _ _ (xt_lt ha) (xt_lt hb), xor_four]
    congr 1
    rcases Nat.mod_two_eq_zero_or_one c with h | h
    · rw [h]; simp
    · rw [h]; simp

theorem gm_add (a b c : Nat) : gm a (b ^^^ c) = gm a b ^^^ gm a c := gmf_right 8 a b c
theorem gm_add' {a b : Nat} (ha : a < 256) (hb : b < 256) (c : Nat) : gm (a ^^^ b) c = gm a c ^^^ gm b c := gmf_left 8 a b c ha hb

theorem gm_zero (a : Nat) : gm a 0 = 0 := by
  have := gm_add a 0 0
  rw [Nat.xor_self, Nat.xor_self] at this
  exact this
theorem zero_gm (a : Nat) : gm 0 a = 0 := by
  have := gm_add' (a := 0) (b := 0) (by decide) (by decide) a
  rw [Nat.xor_self, Nat.xor_self] at this
  exact this

theorem gm_one (a : Nat) : gm a 1 = a := by
  show (a * (1 % 2)) ^^^ gmf 7 (xt a) (1 / 2) = a
  have h0 : ∀ n a, gmf n a 0 = 0 := by
    intro n
    induction n with
    | zero => intro a; rfl
    | succ n ih => intro a; rw [gmf, Nat.zero_mod, Nat.mul_zero, Nat.zero_div, ih]; rfl
  rw [show 1 / 2 = 0 by decide, h0, Nat.xor_zero]
  omega

theorem gm_comm {a b : Nat} (ha : a < 256) (hb : b < 256) : gm a b = gm b a := by
  refine by_bits (F := fun a => gm a b) (H := fun a => gm b a) (fun x y hx hy => gm_add' hx hy b) (fun x y _ _ => gm_add b x y) (by show gm 0 b = gm b 0; rw [zero_gm, gm_zero]) (fun k hk => ?_) a ha
  refine by_bits (F := fun b => gm (2 ^ k) b) (H := fun b => gm b (2 ^ k)) (fun x y _ _ => gm_add _ x y) (fun x y hx hy => gm_add' hx hy _) (by show gm _ 0 = gm 0 _; rw [zero_gm, gm_zero]) (fun j hj => ?_) b hb
  have : allB (fun k => allB (fun j => gm (2 ^ k) (2 ^ j) == gm (2 ^ j) (2 ^ k)) 8) 8 = true := by decide +kernel
  simpa using allB_iff (allB_iff this k hk) j hj

theorem gm_xt {a b : Nat} (ha : a < 256) (hb : b < 256) : gm a (xt b) = xt (gm a b) := by
  refine by_bits (F := fun a => gm a (xt b)) (H := fun a => xt (gm a b)) (fun x y hx hy => gm_add' hx hy _) (fun x y hx hy => ?_) (by show gm 0 _ = xt (gm 0 b); rw [zero_gm, zero_gm]; rfl) (fun k hk => ?_) a ha
  · show xt (gm (x ^^^ y) b) = _
    rw [gm_add' hx hy, xt_add (gm_lt hx) (gm_lt hy)]
  have hk8 : 2 ^ k < 256 := pow8 hk
  refine by_bits (F := fun b => gm (2 ^ k) (xt b)) (H := fun b => xt (gm (2 ^ k) b)) (fun x y hx hy => ?_) (fun x y _ _ => ?_) (by show gm _ (xt 0) = xt (gm _ 0); rw [gm_zero, show xt 0 = 0 by rfl, gm_zero]) (fun j hj => ?_) b hb
  · show gm (2 ^ k) (xt (x ^^^ y)) = _
    rw [xt_add hx hy, gm_add]
  · show xt (gm (2 ^ k) (x ^^^ y)) = _
    rw [gm_add, xt_add (gm_lt hk8) (gm_lt hk8)]
  have : allB (fun k => allB (fun j => gm (2 ^ k) (xt (2 ^ j)) == xt (gm (2 ^ k) (2 ^ j))) 8) 8 = true := by decide +kernel
  simpa using allB_iff (allB_iff this k hk) j hj

theorem gm_assoc {a b c : Nat} (ha : a < 256) (hb : b < 256) (hc : c < 256) : gm (gm a b) c = gm a (gm b c) := by
  have hk : ∀ k, k < 8 → ∀ a, a < 256 → ∀ b, b < 256 → gm (gm a b) (2 ^ k) = gm a (gm b (2 ^ k)) := by
    intro k
    induction k with
    | zero => intro _ a ha b hb; rw [Nat.pow_zero, gm_one, gm_one]
    | succ k ih =>
      intro hk a ha b hb
      have e : 2 ^ (k + 1) = xt (2 ^ k) := by
        have : allB (fun k => 2 ^ (k + 1) == xt (2 ^ k)) 7 = true := by decide +kernel
        simpa using allB_iff this k (by omega)
      have h3 : 2 ^ k < 256 := pow8 (by omega)
      rw [e, gm_xt (gm_lt ha) h3, ih (by omega) a ha b hb, gm_xt hb h3, gm_xt ha (gm_lt hb)]
  refine by_bits (F := fun c => gm (gm a b) c) (H := fun c => gm a (gm b c)) (fun x y _ _ => gm_add _ x y) (fun x y _ _ => ?_) ?_ (fun k h => hk k h a ha b hb) c hc
  · show gm a (gm b (x ^^^ y)) = _
    rw [gm_add, gm_add]
  · show gm (gm a b) 0 = gm a (gm b 0)
    rw [gm_zero, gm_zero, gm_zero]

/-- Multiplied so often. -/
def gp (a : Nat) : Nat → Nat
  | 0 => 1
  | n + 1 => gm (gp a n) a

theorem gp_lt {a : Nat} : ∀ n, gp a n < 256 := by
  intro n
  induction n with
  | zero => exact (by decide : 1 < 256)
  | succ n ih => exact gm_lt ih

theorem gp_add {a : Nat} (ha : a < 256) (m : Nat) : ∀ n, gp a (m + n) = gm (gp a m) (gp a n) := by
  intro n
  induction n with
  | zero => rw [Nat.add_zero, gp, gm_one]
  | succ n ih => rw [← Nat.add_assoc, gp, ih, gp, gm_assoc (gp_lt m) (gp_lt n) ha]

theorem gp_one {a : Nat} (ha : a < 256) : gp a 1 = a := by
  show gm 1 a = a
  rw [gm_comm (by decide) ha, gm_one]

theorem gp_mul {a : Nat} (ha : a < 256) (m : Nat) : ∀ n, gp a (m * n) = gp (gp a m) n := by
  intro n
  induction n with
  | zero => rfl
  | succ n ih => rw [Nat.mul_succ, gp_add ha, ih, gp]

theorem gp_times {a b : Nat} (ha : a < 256) (hb : b < 256) : ∀ n, gp (gm a b) n = gm (gp a n) (gp b n) := by
  intro n
  induction n with
  | zero => exact (by decide +kernel : (1 : Nat) = gm 1 1)
  | succ n ih =>
    rw [gp, gp, gp, ih, gm_assoc (gp_lt n) (gp_lt n) (gm_lt ha), ← gm_assoc (gp_lt n) ha hb, gm_comm (gp_lt n) ha, gm_assoc ha (gp_lt n) hb, ← gm_assoc (gp_lt n) ha (gm_lt (gp_lt n))]

/-- Squared n times, all multiplied: from the first square on. -/
def sqs : Nat → Nat → Nat
  | 0, _ => 1
  | n + 1, a => gm (gm a a) (sqs n (gm a a))

/-- What undoes a: its power 254. -/
def gi (a : Nat) : Nat := sqs 7 a
theorem sqs_gp : ∀ n a, a < 256 → sqs n a = gp a (2 ^ (n + 1) - 2) := by
  intro n
  induction n with
  | zero => intro a _; rfl
  | succ n ih =>
    intro a ha
    have e2 : gp a 2 = gm a a := by rw [show 2 = 1 + 1 from rfl, gp_add ha, gp_one ha]
    rw [sqs, ih _ (gm_lt ha), ← e2, ← gp_mul ha, ← gp_add ha]
    congr 1
    have h1 : 2 ^ (n + 1 + 1) = 2 * 2 ^ (n + 1) := by rw [Nat.pow_succ, Nat.mul_comm]
    have h2 : 2 ≤ 2 ^ (n + 1) := by
      have := Nat.pow_le_pow_right (n := 2) (by decide) (show 1 ≤ n + 1 by omega)
      simpa using this
    omega
theorem gi_gp {a : Nat} (ha : a < 256) : gi a = gp a 254 := by
  unfold gi
  rw [sqs_gp 7 a ha]
theorem gi_lt {a : Nat} (ha : a < 256) : gi a < 256 := by rw [gi_gp ha]; exact gp_lt 254
theorem gi_inv {a : Nat} (ha : a < 256) (h0 : a ≠ 0) : gm a (gi a) = 1 := by
  have : allB (fun a => (a == 0) || (gm a (gi a) == 1)) 256 = true := by decide +kernel
  have := allB_iff this a ha
  simp only [Bool.or_eq_true, beq_iff_eq] at this
  exact this.resolve_left h0
/-- FERMAT. -/
theorem gp_all {a : Nat} (ha : a < 256) (h0 : a ≠ 0) : gp a 255 = 1 := by
  show gm (gp a 254) a = 1
  rw [← gi_gp ha, gm_comm (gi_lt ha) ha, gi_inv ha h0]

/-- Nothing but 0 makes 0. -/
theorem gm_none {a b : Nat} (ha : a < 256) (hb : b < 256) (h : gm a b = 0) : a = 0 ∨ b = 0 := by
  by_cases h0 : a = 0
  · exact .inl h0
  · refine .inr ?_
    have h1 : gm (gi a) (gm a b) = b := by
      rw [← gm_assoc (gi_lt ha) ha hb, gm_comm (gi_lt ha) ha, gi_inv ha h0, gm_comm (by decide) hb, gm_one]
    rw [h, gm_zero] at h1
    exact h1.symm

/-- What undoes is told. -/
theorem gi_uniq {a b : Nat} (ha : a < 256) (hb : b < 256) (h : gm a b = 1) : b = gi a := by
  have h0 : a ≠ 0 := fun e => by rw [e, zero_gm] at h; cases h
  have h1 : gm (gi a) (gm a b) = b := by
    rw [← gm_assoc (gi_lt ha) ha hb, gm_comm (gi_lt ha) ha, gi_inv ha h0, gm_comm (by decide) hb, gm_one]
  rw [h, gm_one] at h1
  exact h1.symm

/-- The sum's square. -/
theorem gm_twice {a b : Nat} (ha : a < 256) (hb : b < 256) : gm (a ^^^ b) (a ^^^ b) = gm a a ^^^ gm b b := by
  rw [gm_add, gm_add' ha hb, gm_add' ha hb, gm_comm hb ha, xor_four]
  rw [Nat.xor_comm (gm a b) (gm b b)]
  rw [xor_four, Nat.xor_self, Nat.xor_zero]

/-- Powers of 2, one after the other. -/
def p2 : Nat → Nat
  | 0 => 1
  | n + 1 => xt (p2 n)
theorem p2_gp : ∀ n, p2 n = gp 2 n := by
  intro n
  induction n with
  | zero => rfl
  | succ n ih =>
    have h2 : gm (gp 2 n) 2 = xt (gp 2 n) := by
      rw [show (2 : Nat) = xt 1 by decide, gm_xt (by rw [show xt 1 = 2 by decide]; exact gp_lt n) (by decide), gm_one]
    rw [p2, ih, gp, h2]

end Go.Proofs.Ytgdfmmdjnifjeaa.Gf

namespace Go.Proofs.Ytgdfmmdjnifjeaa.Gf

/-- A bit. -/
def bi (a i : Nat) : Nat := a / 2 ^ i % 2
theorem bi_lt (a i : Nat) : bi a i < 2 := Nat.mod_lt _ (by decide)
theorem bi_xor (a b i : Nat) : bi (a ^^^ b) i = bi a i ^^^ bi b i := by
  unfold bi
  rw [Nat.xor_div_two_pow, xor_odd]
theorem bi_cases (a i : Nat) : bi a i = 0 ∨ bi a i = 1 := by have := bi_lt a i; omega

theorem mul_bit {x y : Nat} (hx : x < 2) (hy : y < 2) (a : Nat) : (x ^^^ y) * a = x * a ^^^ y * a := by
  rw [Nat.mul_comm, bit_mul a hx hy, Nat.mul_comm a x, Nat.mul_comm a y]

/-- By bit i of a and the lowest k bits of b. -/
def trow (a b i : Nat) : Nat → Nat → Nat
  | 0, x => x
  | k + 1, x => trow a b i k x ^^^ (bi a i * bi b k) * 2 ^ (i + k)
/-- By the lowest i bits of a. -/
def trows (a b : Nat) : Nat → Nat
  | 0 => 0
  | i + 1 => trow a b i 8 (trows a b i)
/-- What is over at place k is taken off. -/
def tdown : Nat → Nat → Nat
  | 0, x => x
  | j + 1, x => tdown j x ^^^ bi (tdown j x) (14 - j) * (285 * 2 ^ (6 - j))

theorem trow_split (a b i : Nat) : ∀ k x, trow a b i k x = x ^^^ trow a b i k 0 := by
  intro k
  induction k with
  | zero => intro x; rw [trow, trow, Nat.xor_zero]
  | succ k ih => intro x; rw [trow, ih, trow, Nat.xor_assoc]

theorem trow_left (a a' b i : Nat) : ∀ k, trow (a ^^^ a') b i k 0 = trow a b i k 0 ^^^ trow a' b i k 0 := by
  intro k
  induction k with
  | zero => rw [trow, trow, trow, Nat.xor_self]
  | succ k ih =>
    rw [trow, trow, trow, ih, bi_xor, xor_four]
    congr 1
    rw [Nat.mul_assoc, Nat.mul_assoc, Nat.mul_assoc, mul_bit (bi_lt _ _) (bi_lt _ _)]
theorem trow_right (a b b' i : Nat) : ∀ k, trow a (b ^^^ b') i k 0 = trow a b i k 0 ^^^ trow a b' i k 0 := by
  intro k
  induction k with
  | zero => rw [trow, trow, trow, Nat.xor_self]
  | succ k ih =>
    rw [trow, trow, trow, ih, bi_xor, xor_four]
    congr 1
    rw [bit_mul _ (bi_lt _ _) (bi_lt _ _)]
    rcases bi_cases a i with h | h <;> rcases bi_cases b k with h1 | h1 <;> rcases bi_cases b' k with h2 | h2 <;> simp [h, h1, h2]

theorem trows_left (a a' b : Nat) : ∀ i, trows (a ^^^ a') b i = trows a b i ^^^ trows a' b i := by
  intro i
  induction i with
  | zero => rw [trows, trows, trows, Nat.xor_self]
  | succ i ih => rw [trows, trows, trows, trow_split, trow_split a, trow_split a', ih, trow_left, xor_four]
theorem trows_right (a b b' : Nat) : ∀ i, trows a (b ^^^ b') i = trows a b i ^^^ trows a b' i := by
  intro i
  induction i with
  | zero => rw [trows, trows, trows, Nat.xor_self]
  | succ i ih => rw [trows, trows, trows, trow_split, trow_split a b, trow_split a b', ih, trow_right, xor_four]
theorem tdown_xor (x y : Nat) : ∀ j, tdown j (x ^^^ y) = tdown j x ^^^ tdown j y := by
  intro j
  induction j with
  | zero => rfl
  | succ j ih => rw [tdown, tdown, tdown, ih, bi_xor, mul_bit (bi_lt _ _) (bi_lt _ _), xor_four]

/-- The document's product. -/
def tmr (a b : Nat) : Nat := tdown 7 (trows a b 8)
theorem tmr_left (a a' b : Nat) : tmr (a ^^^ a') b = tmr a b ^^^ tmr a' b := by unfold tmr; rw [trows_left, tdown_xor]
theorem tmr_right (a b b' : Nat) : tmr a (b ^^^ b') = tmr a b ^^^ tmr a b' := by unfold tmr; rw [trows_right, tdown_xor]
theorem tmr_gm {a b : Nat} (ha : a < 256) (hb : b < 256) : tmr a b = gm a b := by
  have z1 : ∀ c, tmr 0 c = 0 := fun c => by have := tmr_left 0 0 c; rw [Nat.xor_self, Nat.xor_self] at this; exact this
  have z2 : ∀ c, tmr c 0 = 0 := fun c => by have := tmr_right c 0 0; rw [Nat.xor_self, Nat.xor_self] at this; exact this
  refine by_bits (F := fun a => tmr a b) (H := fun a => gm a b) (fun x y _ _ => tmr_left x y b) (fun x y hx hy => gm_add' hx hy b) (by show tmr 0 b = gm 0 b; rw [z1, zero_gm]) (fun k hk => ?_) a ha
  refine by_bits (F := fun b => tmr (2 ^ k) b) (H := fun b => gm (2 ^ k) b) (fun x y _ _ => tmr_right _ x y) (fun x y _ _ => gm_add _ x y) (by show tmr _ 0 = gm _ 0; rw [z2, gm_zero]) (fun j hj => ?_) b hb
  have : allB (fun k => allB (fun j => tmr (2 ^ k) (2 ^ j) == gm (2 ^ k) (2 ^ j)) 8) 8 = true := by decide +kernel
  simpa using allB_iff (allB_iff this k hk) j hj

theorem trows_lt (a b : Nat) : trows a b 8 < 2 ^ 16 := by
  have h : ∀ i, i ≤ 8 → ∀ k, k ≤ 8 → ∀ x, x < 2 ^ 16 → trow a b i k x < 2 ^ 16 := fun i hi k => by
    induction k with
    | zero => intro _ x hx; exact hx
    | succ k ih =>
      intro hk x hx
      rw [trow]
      refine Nat.xor_lt_two_pow (ih (by omega) x hx) ?_
      have h1 : bi a i * bi b k ≤ 1 := by rcases bi_cases a i with h | h <;> rcases bi_cases b k with h1 | h1 <;> simp [h, h1]
      have h2 : 2 ^ (i + k) ≤ 2 ^ 15 := Nat.pow_le_pow_right (by decide) (by omega)
      have h3 := Nat.mul_le_mul h1 h2
      have : (1 : Nat) * 2 ^ 15 < 2 ^ 16 := by decide
      omega
  have : ∀ i, i ≤ 8 → trows a b i < 2 ^ 16 := fun i => by
    induction i with
    | zero => intro _; rw [trows]; decide
    | succ i ih => intro hi; rw [trows]; exact h i (by omega) 8 (by omega) _ (ih (by omega))
  exact this 8 (by omega)

/-- Powers beyond 255 come round. -/
theorem gp_round {a n : Nat} (ha : a < 256) (hn : 1 ≤ n) : gp a ((n - 1) % 255 + 1) = gp a n := by
  by_cases h0 : a = 0
  · subst h0
    have : ∀ m, gp 0 (m + 1) = 0 := fun m => gm_zero _
    obtain ⟨m, rfl⟩ : ∃ m, n = m + 1 := ⟨n - 1, by omega⟩
    rw [this, this]
  · have h1 : ∀ k, gp a (255 * k) = 1 := fun k => by
      rw [gp_mul ha, gp_all ha h0]
      induction k with
      | zero => rfl
      | succ k ih => rw [gp, ih]; exact gm_one 1
    have e : n = 255 * ((n - 1) / 255) + ((n - 1) % 255 + 1) := by omega
    have h2 := gp_add ha (255 * ((n - 1) / 255)) ((n - 1) % 255 + 1)
    rw [← e, h1, gm_comm (by decide) (gp_lt _), gm_one] at h2
    exact h2.symm

/-- 255 of them, and then the same again. -/
theorem gp_per {a : Nat} (ha : a < 256) (h0 : a ≠ 0) (n : Nat) : gp a (n % 255) = gp a n := by
  by_cases h : n % 255 = 0
  · have e : n = 255 * (n / 255) := by omega
    have h1 : ∀ k, gp 1 k = 1 := fun k => by
      induction k with
      | zero => rfl
      | succ k ih => rw [gp, ih]; exact gm_one 1
    rw [h, e, gp_mul ha, gp_all ha h0, h1]
    rfl
  · have h1 := gp_round ha (n := n) (by omega)
    rw [← h1]
    congr 1
    omega

theorem gp_not {a : Nat} (ha : a < 256) (h0 : a ≠ 0) : ∀ n, gp a n ≠ 0 := by
  intro n
  induction n with
  | zero => exact (by decide : (1 : Nat) ≠ 0)
  | succ n ih => intro h; rcases gm_none (gp_lt n) ha h with h | h
                 · exact ih h
                 · exact h0 h

/-- What may be struck. -/
theorem gm_strike {a b c : Nat} (ha : a < 256) (hb : b < 256) (hc : c < 256) (h0 : a ≠ 0) (h : gm a b = gm a c) : b = c := by
  have h1 : ∀ x, x < 256 → gm (gi a) (gm a x) = x := fun x hx => by
    rw [← gm_assoc (gi_lt ha) ha hx, gm_comm (gi_lt ha) ha, gi_inv ha h0, gm_comm (by decide) hx, gm_one]
  rw [← h1 b hb, h, h1 c hc]

/-- No power of 2 below 255 is 1, but the first. -/
theorem two_order {n : Nat} (h1 : 1 ≤ n) (h2 : n < 255) : gp 2 n ≠ 1 := by
  have : allB (fun n => (n == 0) || (p2 n != 1)) 255 = true := by decide +kernel
  have := allB_iff this n h2
  rw [← p2_gp]
  intro h
  rw [h] at this
  simp at this
  omega

/-- Powers of 2 below 255 are apart. -/
theorem two_apart {m n : Nat} (hm : m < 255) (hn : n < 255) (h : gp 2 m = gp 2 n) : m = n := by
  have key : ∀ m n, m < n → n < 255 → gp 2 m ≠ gp 2 n := fun m n h1 h2 h => by
    obtain ⟨k, rfl⟩ : ∃ k, n = m + k := ⟨n - m, by omega⟩
    rw [gp_add (by decide)] at h
    have : gm (gp 2 m) 1 = gm (gp 2 m) (gp 2 k) := by rw [gm_one]; exact h
    have := gm_strike (gp_lt m) (by decide) (gp_lt k) (gp_not (by decide) (by decide) m) this
    exact two_order (by omega) (by omega) this.symm
  by_cases h1 : m < n
  · exact absurd h (key m n h1 hn)
  · by_cases h2 : n < m
    · exact absurd h.symm (key n m h2 hm)
    · omega

/-- Is it among the first n? -/
def amid (a : Nat) : Nat → Bool
  | 0 => false
  | n + 1 => amid a n || (p2 n == a)
theorem amid_some {a : Nat} : ∀ {n}, amid a n = true → ∃ m, m < n ∧ gp 2 m = a := by
  intro n
  induction n with
  | zero => intro h; cases h
  | succ n ih =>
    intro h
    rw [amid, Bool.or_eq_true] at h
    rcases h with h | h
    · obtain ⟨m, h1, h2⟩ := ih h
      exact ⟨m, by omega, h2⟩
    · exact ⟨n, by omega, by rw [← p2_gp]; simpa using h⟩
/-- NAPIER: each byte but 0 is one of them. -/
theorem log_some {a : Nat} (ha : a < 256) (h0 : a ≠ 0) : ∃ n, n < 255 ∧ gp 2 n = a ∧ ∀ m, m < n → gp 2 m ≠ a := by
  have : allB (fun a => (a == 0) || amid a 255) 256 = true := by decide +kernel
  have := allB_iff this a ha
  simp only [Bool.or_eq_true, beq_iff_eq] at this
  obtain ⟨n, h1, h2⟩ := amid_some (this.resolve_left h0)
  refine ⟨n, h1, h2, fun m hm h => ?_⟩
  have := two_apart (by omega) h1 (h.trans h2.symm)
  omega
theorem log_times {x y z a b : Nat} (hx : gp 2 x = a) (hy : gp 2 y = b) (hz : z < 255) (h : gp 2 z = gm a b) : z = (x + y) % 255 := by
  refine two_apart hz (Nat.mod_lt _ (by decide)) ?_
  rw [gp_per (by decide) (by decide), gp_add (by decide), hx, hy, h]

end Go.Proofs.Ytgdfmmdjnifjeaa.Gf
