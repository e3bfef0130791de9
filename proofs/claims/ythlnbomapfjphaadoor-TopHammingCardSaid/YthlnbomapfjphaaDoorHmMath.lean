/-
  HAMMING's words of 15 bits. No Go in sight.
-/
import Derived.Test.YthlnbomapfjphaaDoorCyMath
import Derived.Test.YthlnbomapfjphaaDoorGln
namespace Go.Proofs.YthlnbomapfjphaaDoor.Hm
open Ln

/-- The numbers of the places that have a 1, of the first n, together. -/
def sy : Nat → Nat → Nat
  | 0, _ => 0
  | n + 1, w => sy n w ^^^ ((n + 1) * bt n w)
theorem sy_zero : ∀ n, sy n 0 = 0 := by
  intro n
  induction n with
  | zero => rfl
  | succ n ih => rw [sy, ih]; simp [bt]
theorem mul_bit (k a b : Nat) (ha : a = 0 ∨ a = 1) (hb : b = 0 ∨ b = 1) : k * ((a + b) % 2) = k * a ^^^ k * b := by
  rcases ha with rfl | rfl <;> rcases hb with rfl | rfl <;> simp
theorem sy_xor : ∀ n v w, sy n (v ^^^ w) = sy n v ^^^ sy n w := by
  intro n
  induction n with
  | zero => intro v w; exact (Nat.xor_self 0).symm
  | succ n ih =>
    intro v w
    rw [sy, sy, sy, ih, bt_xor, mul_bit _ _ _ (bt_two n v) (bt_two n w), Nat.xor_assoc, Nat.xor_assoc]
    congr 1
    rw [← Nat.xor_assoc, ← Nat.xor_assoc, Nat.xor_comm (sy n w)]
theorem sy_lt : ∀ n m w, n < 2 ^ m → sy n w < 2 ^ m := by
  intro n
  induction n with
  | zero => intro m w h; exact h
  | succ n ih =>
    intro m w h
    rw [sy]
    refine Nat.xor_lt_two_pow (ih m w (by omega)) ?_
    rcases bt_two n w with e | e <;> rw [e] <;> omega
theorem bt_pow (k j : Nat) : bt k (2 ^ j) = if k = j then 1 else 0 := by
  have ht : Top j (2 ^ j) := ⟨Nat.le_refl _, by rw [Nat.pow_succ]; have : 0 < 2 ^ j := Nat.pow_pos (by decide)
                                                omega⟩
  by_cases h : k = j
  · rw [h, ht.bt, if_pos rfl]
  · rw [if_neg h]
    rcases Nat.lt_or_gt_of_ne h with h | h
    · unfold bt
      rw [Nat.pow_div (by omega) (by decide)]
      obtain ⟨m, hm⟩ : ∃ m, j - k = m + 1 := ⟨j - k - 1, by omega⟩
      rw [hm, Nat.pow_succ]
      omega
    · exact bt_high ht.2 (by omega)
theorem sy_pow : ∀ n j, sy n (2 ^ j) = if j < n then j + 1 else 0 := by
  intro n
  induction n with
  | zero => intro j; rfl
  | succ n ih =>
    intro j
    rw [sy, ih, bt_pow]
    by_cases h1 : n = j
    · subst h1; simp
    · rw [if_neg h1, Nat.mul_zero, Nat.xor_zero]
      by_cases h2 : j < n
      · rw [if_pos h2, if_pos (by omega)]
      · rw [if_neg h2, if_neg (by omega)]

/-- One bit, by its place; 0 for none. -/
def fl (k : Nat) : Nat := if k = 0 then 0 else 2 ^ (k - 1)
theorem sy_fl {n k : Nat} (h : k ≤ n) : sy n (fl k) = k := by
  unfold fl
  split
  · rename_i e; rw [sy_zero, e]
  · rw [sy_pow, if_pos (by omega)]; omega
theorem fl_lt {n k : Nat} (h : k ≤ n) : fl k < 2 ^ n := by
  unfold fl
  split
  · exact Nat.pow_pos (by decide)
  · exact Nat.pow_lt_pow_right (by decide) (by omega)
/-- One bit turned makes it right, and just the one that the places tell. -/
theorem mend {n w k : Nat} (h : k ≤ n) : sy n (w ^^^ fl k) = 0 ↔ k = sy n w := by
  rw [sy_xor, sy_fl h]
  constructor
  · intro e
    have := congrArg (· ^^^ k) e
    simp [Nat.xor_assoc] at this
    exact this.symm
  · intro e; rw [← e, Nat.xor_self]

/-- The bits at some places. -/
def dt : List Nat → Nat → Nat
  | [], _ => 0
  | a :: l, w => bt (a - 1) w + 2 * dt l w
theorem dt_lt : ∀ l w, dt l w < 2 ^ l.length := by
  intro l
  induction l with
  | nil => intro w; exact Nat.one_pos
  | cons a l ih =>
    intro w
    have h1 := ih w
    have h2 := bt_two (a - 1) w
    rw [dt, List.length_cons, Nat.pow_succ]
    omega
theorem dt_xor : ∀ l v w, dt l (v ^^^ w) = dt l v ^^^ dt l w := by
  intro l
  induction l with
  | nil => intro v w; exact (Nat.xor_self 0).symm
  | cons a l ih =>
    intro v w
    rw [dt, dt, dt, ih, bt_xor]
    have h1 := Cy.two_xor (dt l v) (dt l w) (decide (bt (a - 1) v = 1)) (decide (bt (a - 1) w = 1))
    have e : ∀ x, (decide (bt (a - 1) x = 1)).toNat = bt (a - 1) x := fun x => by
      rcases bt_two (a - 1) x with h | h <;> rw [h] <;> rfl
    have e2 : (decide (bt (a - 1) v = 1) ^^ decide (bt (a - 1) w = 1)).toNat = (bt (a - 1) v + bt (a - 1) w) % 2 := by
      rcases bt_two (a - 1) v with h | h <;> rcases bt_two (a - 1) w with h3 | h3 <;> rw [h, h3] <;> rfl
    rw [e, e, e2] at h1
    rw [Nat.add_comm, h1, Nat.add_comm, Nat.add_comm (bt (a - 1) w)]
theorem dt_none : ∀ l w, dt l w = 0 → ∀ a ∈ l, bt (a - 1) w = 0 := by
  intro l
  induction l with
  | nil => intro w _ a ha; cases ha
  | cons b l ih =>
    intro w h a ha
    rw [dt] at h
    rcases List.mem_cons.mp ha with rfl | ha
    · omega
    · exact ih w (by omega) a ha

/-- The document's places. -/
def pl : List Nat := [3, 5, 6, 7, 9, 10, 11, 12, 13, 14, 15]
/-- The four others, by a number. -/
def pb (s : Nat) : Nat := s % 2 + 2 * (s / 2 % 2) + 8 * (s / 4 % 2) + 128 * (s / 8 % 2)
theorem pb_all : ∀ s < 16, sy 15 (pb s) = s ∧ dt pl (pb s) = 0 ∧ pb s < 2 ^ 15 := by decide +kernel

theorem bits_of {w : Nat} (h : w < 2 ^ 15) : w = bt 0 w + 2 * bt 1 w + 4 * bt 2 w + 8 * bt 3 w + 16 * bt 4 w + 32 * bt 5 w + 64 * bt 6 w + 128 * bt 7 w + 256 * bt 8 w + 512 * bt 9 w + 1024 * bt 10 w + 2048 * bt 11 w + 4096 * bt 12 w + 8192 * bt 13 w + 16384 * bt 14 w := by
  unfold bt
  simp only [Nat.reducePow] at h ⊢
  omega
/-- What has no data and is right is 0. -/
theorem right_none {w : Nat} (h : w < 2 ^ 15) (h1 : dt pl w = 0) (h2 : sy 15 w = 0) : w = 0 := by
  have hb := fun a (ha : a ∈ pl) => dt_none pl w h1 a ha
  have e := bits_of h
  have p1 := hb 3 (by decide)
  have p2 := hb 5 (by decide)
  have p3 := hb 6 (by decide)
  have p4 := hb 7 (by decide)
  have p5 := hb 9 (by decide)
  have p6 := hb 10 (by decide)
  have p7 := hb 11 (by decide)
  have p8 := hb 12 (by decide)
  have p9 := hb 13 (by decide)
  have p10 := hb 14 (by decide)
  have p11 := hb 15 (by decide)
  simp only [Nat.reduceSub] at p1 p2 p3 p4 p5 p6 p7 p8 p9 p10 p11
  simp only [sy, p1, p2, p3, p4, p5, p6, p7, p8, p9, p10, p11] at h2
  rw [p1, p2, p3, p4, p5, p6, p7, p8, p9, p10, p11] at e
  rcases bt_two 0 w with a | a <;> rcases bt_two 1 w with b | b <;> rcases bt_two 3 w with c | c <;> rcases bt_two 7 w with d | d <;>
    rw [a, b, c, d] at h2 e <;> first | omega | (exact absurd h2 (by decide))
/-- So what is right is told by its data. -/
theorem right_one {v w : Nat} (hv : v < 2 ^ 15) (hw : w < 2 ^ 15) (h1 : sy 15 v = 0) (h2 : sy 15 w = 0) (h : dt pl v = dt pl w) : v = w := by
  have := right_none (Nat.xor_lt_two_pow hv hw) (by rw [dt_xor, h, Nat.xor_self]) (by rw [sy_xor, h1, h2]; rfl)
  have := congrArg (· ^^^ w) this
  simpa [Nat.xor_assoc] using this

/-- Data at their places. -/
def ly : List Nat → Nat → Nat
  | [], _ => 0
  | a :: l, d => (d % 2) * 2 ^ (a - 1) ^^^ ly l (d / 2)
theorem ly_lt {n : Nat} : ∀ (l : List Nat) (d : Nat), (∀ a ∈ l, a - 1 < n) → ly l d < 2 ^ n := by
  intro l
  induction l with
  | nil => intro d _; exact Nat.pow_pos (by decide)
  | cons a l ih =>
    intro d h
    rw [ly]
    refine Nat.xor_lt_two_pow ?_ (ih _ fun b hb => h b (List.mem_cons_of_mem _ hb))
    have := Nat.pow_lt_pow_right (a := 2) (by decide) (h a List.mem_cons_self)
    have hp : 0 < 2 ^ n := Nat.pow_pos (by decide)
    rcases Nat.mod_two_eq_zero_or_one d with e | e <;> rw [e] <;> omega
theorem bt_ly : ∀ (l : List Nat) (d k : Nat), (∀ a ∈ l, a - 1 ≠ k) → bt k (ly l d) = 0 := by
  intro l
  induction l with
  | nil => intro d k _; simp [ly, bt]
  | cons a l ih =>
    intro d k h
    rw [ly, bt_xor, ih _ k fun b hb => h b (List.mem_cons_of_mem _ hb)]
    have h1 := h a List.mem_cons_self
    rcases Nat.mod_two_eq_zero_or_one d with e | e <;> rw [e]
    · simp [bt]
    · rw [Nat.one_mul, bt_pow, if_neg (fun e2 => h1 e2.symm)]
theorem dt_skip : ∀ (l : List Nat) (k w : Nat), (∀ a ∈ l, a - 1 ≠ k) → ∀ x, (x = 0 ∨ x = 1) → dt l (x * 2 ^ k ^^^ w) = dt l w := by
  intro l
  induction l with
  | nil => intro k w _ x _; rfl
  | cons a l ih =>
    intro k w h x hx
    have h1 := h a List.mem_cons_self
    rw [dt, dt, ih k w (fun b hb => h b (List.mem_cons_of_mem _ hb)) x hx, bt_xor]
    have h2 := bt_two (a - 1) w
    have h3 : bt (a - 1) (x * 2 ^ k) = 0 := by
      rcases hx with rfl | rfl
      · simp [bt]
      · rw [Nat.one_mul, bt_pow, if_neg h1]
    rw [h3]
    omega
theorem dt_ly : ∀ (l : List Nat) (d : Nat), l.Pairwise (fun a b => a - 1 ≠ b - 1) → d < 2 ^ l.length → dt l (ly l d) = d := by
  intro l
  induction l with
  | nil => intro d _ h; have : d = 0 := by simpa using h
           subst this; rfl
  | cons a l ih =>
    intro d hp hd
    have hp2 := List.pairwise_cons.mp hp
    rw [List.length_cons, Nat.pow_succ] at hd
    rw [ly, dt, dt_skip l (a - 1) _ (fun b hb => (hp2.1 b hb).symm) _ (Nat.mod_two_eq_zero_or_one d), ih (d / 2) hp2.2 (by omega), bt_xor, bt_ly l _ _ fun b hb => (hp2.1 b hb).symm]
    have : bt (a - 1) (d % 2 * 2 ^ (a - 1)) = d % 2 := by
      rcases Nat.mod_two_eq_zero_or_one d with e | e <;> rw [e]
      · simp [bt]
      · rw [Nat.one_mul, bt_pow, if_pos rfl]
    rw [this]
    omega

/-- The right word of some data. -/
def en (d : Nat) : Nat := ly pl d ^^^ pb (sy 15 (ly pl d))
theorem en_ok {d : Nat} (h : d < 2048) : en d < 2 ^ 15 ∧ sy 15 (en d) = 0 ∧ dt pl (en d) = d := by
  have h1 := pb_all _ (sy_lt 15 4 (ly pl d) (by decide))
  have h2 := dt_ly pl d (by decide) h
  refine ⟨Nat.xor_lt_two_pow (ly_lt pl d (by decide)) h1.2.2, ?_, ?_⟩
  · rw [en, sy_xor, h1.1, Nat.xor_self]
  · rw [en, dt_xor, h1.2.1, Nat.xor_zero, h2]
theorem en_one {d w : Nat} (hw : w < 2 ^ 15) (h : sy 15 w = 0) (hd : dt pl w = d) : w = en d := by
  have hl : d < 2048 := by rw [← hd]; exact dt_lt pl w
  have h1 := en_ok hl
  exact right_one hw h1.1 h h1.2.1 (by rw [hd, h1.2.2])
theorem en_xor {a b : Nat} (ha : a < 2048) (hb : b < 2048) : en (a ^^^ b) = en a ^^^ en b := by
  have h1 := en_ok ha
  have h2 := en_ok hb
  refine (en_one (Nat.xor_lt_two_pow h1.1 h2.1) ?_ ?_).symm
  · rw [sy_xor, h1.2.1, h2.2.1]; rfl
  · rw [dt_xor, h1.2.2, h2.2.2]

/-- A bit struck. -/
theorem on_some : ∀ (n w : Nat), 0 < on n w → ∃ j, j < n ∧ bt j w = 1 := by
  intro n
  induction n with
  | zero => intro w h; cases h
  | succ n ih =>
    intro w h
    rw [on] at h
    by_cases h1 : w % 2 = 1
    · exact ⟨0, by omega, by unfold bt; simpa using h1⟩
    · obtain ⟨j, hj, hb⟩ := ih (w / 2) (by omega)
      refine ⟨j + 1, by omega, ?_⟩
      unfold bt at hb ⊢
      rwa [Nat.pow_succ, Nat.mul_comm, ← Nat.div_div_eq_div_mul]
theorem on_strike : ∀ (n w j : Nat), j < n → bt j w = 1 → on n w = on n (w ^^^ 2 ^ j) + 1 := by
  intro n
  induction n with
  | zero => intro w j h; cases h
  | succ n ih =>
    intro w j h hb
    rw [on, on, Ln.xor_half, Ln.xor_odd]
    match j with
    | 0 =>
      have h1 : w % 2 = 1 := by unfold bt at hb; simpa using hb
      rw [h1]
      simp
      omega
    | j + 1 =>
      have h1 : bt j (w / 2) = 1 := by
        unfold bt at hb ⊢
        rwa [Nat.pow_succ, Nat.mul_comm, ← Nat.div_div_eq_div_mul] at hb
      rw [Nat.pow_succ, show 2 ^ j * 2 % 2 = 0 by omega, show 2 ^ j * 2 / 2 = 2 ^ j by omega, Nat.xor_zero, ih (w / 2) j (by omega) h1]
      omega
/-- What is right and not 0 has three bits. -/
theorem three {n w : Nat} (h : w < 2 ^ n) (hs : sy n w = 0) (h0 : w ≠ 0) : 3 ≤ on n w := by
  have a1 : 0 < on n w := Nat.pos_of_ne_zero fun e => h0 (on_none n w h e)
  obtain ⟨i, hi, hb⟩ := on_some n w a1
  have a2 := on_strike n w i hi hb
  have p1 : 2 ^ i < 2 ^ n := Nat.pow_lt_pow_right (by decide) hi
  have s1 : sy n (w ^^^ 2 ^ i) = i + 1 := by rw [sy_xor, hs, sy_pow, if_pos hi, Nat.zero_xor]
  have b1 : 0 < on n (w ^^^ 2 ^ i) := Nat.pos_of_ne_zero fun e => by
    rw [on_none n _ (Nat.xor_lt_two_pow h p1) e, sy_zero] at s1
    cases s1
  obtain ⟨j, hj, hc⟩ := on_some n _ b1
  have b2 := on_strike n _ j hj hc
  have p2 : 2 ^ j < 2 ^ n := Nat.pow_lt_pow_right (by decide) hj
  have hne : i ≠ j := fun e => by
    rw [bt_xor, ← e, hb, bt_pow, if_pos rfl] at hc
    cases hc
  have s2 : sy n (w ^^^ 2 ^ i ^^^ 2 ^ j) = (i + 1) ^^^ (j + 1) := by rw [sy_xor, s1, sy_pow, if_pos hj]
  have c1 : 0 < on n (w ^^^ 2 ^ i ^^^ 2 ^ j) := Nat.pos_of_ne_zero fun e => by
    rw [on_none n _ (Nat.xor_lt_two_pow (Nat.xor_lt_two_pow h p1) p2) e, sy_zero] at s2
    have := congrArg (· ^^^ (j + 1)) s2
    simp [Nat.xor_assoc] at this
    omega
  omega

end Go.Proofs.YthlnbomapfjphaaDoor.Hm
