/-
  Polynomials through points: alike where they agree at as many places as numbers; what LAGRANGE sums; NEWTON's step. No Go in sight.
-/
import Derived.Test.YtfdhhiibhkepaaaPoDiv
namespace Go.Proofs.Ytfdhhiibhkepaaa.Po
open Pr

/-- Places told apart. -/
def Apart (p : Int) (X : Nat → Int) (n : Nat) : Prop := (∀ i, i < n → 0 ≤ X i ∧ X i < p) ∧ ∀ i j, i < n → j < n → i ≠ j → X i ≠ X j

theorem Apart.less {p : Int} {X : Nat → Int} {m n : Nat} (h : Apart p X n) (hm : m ≤ n) : Apart p X m :=
  ⟨fun i hi => h.1 i (by omega), fun i j hi hj => h.2 i j (by omega) (by omega)⟩

theorem Apart.not {p : Int} {X : Nat → Int} {n : Nat} (h : Apart p X n) {i j : Nat} (hi : i < n) (hj : j < n) (hne : i ≠ j) : ¬ p ∣ X i - X j := by
  intro ⟨k, hk⟩
  have h1 := h.1 i hi
  have h2 := h.1 j hj
  have h3 := h.2 i j hi hj hne
  have : k = 0 := by
    refine Decidable.byContradiction fun hc2 => ?_
    rcases Int.lt_or_gt_of_ne hc2 with h5 | h5
    · have : p * k ≤ p * (-1) := Int.mul_le_mul_of_nonneg_left (by omega) (by omega)
      omega
    · have : p * 1 ≤ p * k := Int.mul_le_mul_of_nonneg_left (by omega) (by omega)
      omega
  subst this
  omega

/-- Two that agree at as many places as they have numbers are alike. -/
theorem alike {p : Int} (hp : Prm p) {f g : List Int} {X : Nat → Int} {n : Nat} (hX : Apart p X n) (hf : f.length ≤ n) (hg : g.length ≤ n) (h : ∀ i, i < n → p ∣ ev f (X i) - ev g (X i)) : Cg p f g := by
  intro i
  refine Decidable.byContradiction fun hc => ?_
  have hlen : (add f (sc (-1) g)).length ≤ n := by rw [add_length, sc_length]; omega
  have hn : 0 < n := by
    refine Nat.pos_of_ne_zero fun h0 => hc ?_
    subst h0
    rw [c_over (f := f) (by omega), c_over (f := g) (by omega)]
    exact Int.dvd_zero p
  have hne : ¬ ∀ i, p ∣ c (add f (sc (-1) g)) i := fun hall => hc (by
    have := hall i
    rw [c_add, c_sc] at this
    rwa [show c f i - c g i = c f i + -1 * c g i from by omega])
  have := roots_le hp (n - 1) (add f (sc (-1) g)) (by omega) hne ((List.range n).map X) (by
    rw [List.Nodup, List.pairwise_map]
    refine List.Pairwise.imp_of_mem ?_ (List.nodup_range (n := n))
    intro a b ha hb hab
    exact hX.2 a b (List.mem_range.mp ha) (List.mem_range.mp hb) hab) (by
    intro x hx
    obtain ⟨k, hk, rfl⟩ := List.mem_map.mp hx
    have hk := List.mem_range.mp hk
    refine ⟨(hX.1 k hk).1, (hX.1 k hk).2, ?_⟩
    rw [ev_add, ev_sc, show ev f (X k) + -1 * ev g (X k) = ev f (X k) - ev g (X k) from by omega]
    exact h k hk)
  rw [List.length_map, List.length_range] at this
  omega

/-- So they are one, in lowest form. -/
theorem alike_one {p : Int} (hp : Prm p) {f g : List Int} {X : Nat → Int} {n : Nat} (hX : Apart p X n) (cf : Can p f) (cg : Can p g) (hf : f.length ≤ n) (hg : g.length ≤ n) (h : ∀ i, i < n → p ∣ ev f (X i) - ev g (X i)) : f = g :=
  cf.ext (by have := hp.1; omega) cg (alike hp hX hf hg h)

/-- And what they are at any place is one. -/
theorem alike_at {p : Int} (hp : Prm p) {f g : List Int} {X : Nat → Int} {n : Nat} (hX : Apart p X n) (hf : f.length ≤ n) (hg : g.length ≤ n) (h : ∀ i, i < n → p ∣ ev f (X i) - ev g (X i)) (x : Int) : p ∣ ev f x - ev g x :=
  ev_cg (alike hp hX hf hg h) x

/-- What vanishes at the places before k, but not at i. -/
def bs (X : Nat → Int) (i : Nat) : Nat → List Int
  | 0 => [1]
  | k + 1 => if k = i then bs X i k else mul [- X k, 1] (bs X i k)

/-- Its value: a product. -/
def bv (X : Nat → Int) (i : Nat) (x : Int) : Nat → Int
  | 0 => 1
  | k + 1 => if k = i then bv X i x k else bv X i x k * (x - X k)

theorem line_length (a : Int) {g : List Int} (h : g ≠ []) : (mul [a, 1] g).length = g.length + 1 := by
  have : 0 < g.length := List.length_pos_iff.mpr h
  simp only [mul, add_length, sc_length, List.length_cons, List.length_nil]
  omega

theorem line_ev (a : Int) (g : List Int) (x : Int) : ev (mul [- a, 1] g) x = (x - a) * ev g x := by
  rw [ev_mul]
  simp only [ev, Int.mul_zero, Int.add_zero, Int.mul_one]
  grind

theorem bs_ne (X : Nat → Int) (i : Nat) : ∀ k, bs X i k ≠ [] := by
  intro k
  induction k with
  | zero => simp [bs]
  | succ k ih =>
    rw [bs]
    split
    · exact ih
    · exact fun h => by
        have := line_length (- X k) ih
        rw [h] at this
        simp at this

theorem bs_length (X : Nat → Int) (i : Nat) : ∀ k, (bs X i k).length = if i < k then k else k + 1 := by
  intro k
  induction k with
  | zero => simp [bs]
  | succ k ih =>
    rw [bs]
    split
    · rename_i h
      subst h
      rw [ih, if_neg (by omega), if_pos (by omega)]
    · rw [line_length _ (bs_ne X i k), ih]
      split <;> split <;> omega

theorem bs_ev (X : Nat → Int) (i : Nat) (x : Int) : ∀ k, ev (bs X i k) x = bv X i x k := by
  intro k
  induction k with
  | zero => simp [bs, bv, ev]
  | succ k ih =>
    rw [bs, bv]
    split
    · exact ih
    · rw [line_ev, ih, Int.mul_comm]

theorem bv_zero {X : Nat → Int} {i j : Nat} (hne : j ≠ i) : ∀ k, j < k → bv X i (X j) k = 0 := by
  intro k
  induction k with
  | zero => intro h; omega
  | succ k ih =>
    intro h
    rw [bv]
    by_cases hk : j = k
    · subst hk
      rw [if_neg hne, Int.sub_self, Int.mul_zero]
    · have := ih (by omega)
      split
      · exact this
      · rw [this, Int.zero_mul]

theorem bv_not {p : Int} (hp : Prm p) {X : Nat → Int} {n i : Nat} (hX : Apart p X n) (hi : i < n) : ∀ k, k ≤ n → ¬ p ∣ bv X i (X i) k := by
  intro k
  induction k with
  | zero =>
    intro _ h
    have h1 := Int.le_of_dvd (by omega) (show p ∣ 1 from h)
    have := hp.1
    omega
  | succ k ih =>
    intro hk h
    rw [bv] at h
    split at h
    · exact ih (by omega) h
    · rcases euclid hp h with h | h
      · exact ih (by omega) h
      · exact hX.not hi (by omega) (by omega) h

/-- What is summed. -/
def su (g : Nat → Int) : Nat → Int
  | 0 => 0
  | k + 1 => su g k + g k

theorem su_congr {p : Int} {g h : Nat → Int} : ∀ k, (∀ i, i < k → p ∣ g i - h i) → p ∣ su g k - su h k := by
  intro k
  induction k with
  | zero => intro _; simp [su]
  | succ k ih =>
    intro hh
    have h1 := ih fun i hi => hh i (by omega)
    have h2 := hh k (by omega)
    rw [su, su, show su g k + g k - (su h k + h k) = (su g k - su h k) + (g k - h k) from by omega]
    exact Int.dvd_add h1 h2

theorem su_one {p : Int} {g : Nat → Int} {j : Nat} : ∀ k, (∀ i, i < k → i ≠ j → p ∣ g i) → p ∣ su g k - (if j < k then g j else 0) := by
  intro k
  induction k with
  | zero => intro _; simp [su]
  | succ k ih =>
    intro hh
    have h1 := ih fun i hi => hh i (by omega)
    rw [su]
    by_cases hk : j = k
    · subst hk
      rw [if_neg (by omega)] at h1
      rw [if_pos (by omega), show su g j + g j - g j = su g j - 0 from by omega]
      exact h1
    · have h2 := hh k (by omega) (by omega)
      have : (if j < k + 1 then g j else 0) = (if j < k then g j else 0) := by split <;> split <;> first | rfl | omega
      rw [this, show su g k + g k - (if j < k then g j else 0) = (su g k - (if j < k then g j else 0)) + g k from by omega]
      exact Int.dvd_add h1 h2

/-- LAGRANGE's sum, as numbers in a row. -/
def lg (X t : Nat → Int) (n : Nat) : Nat → List Int
  | 0 => []
  | k + 1 => add (lg X t n k) (sc (t k) (bs X k n))

theorem lg_length (X t : Nat → Int) (n : Nat) : ∀ k, k ≤ n → (lg X t n k).length ≤ n := by
  intro k
  induction k with
  | zero => intro _; simp [lg]
  | succ k ih =>
    intro hk
    have h1 := ih (by omega)
    have h2 := bs_length X k n
    rw [if_pos (by omega)] at h2
    rw [lg, add_length, sc_length, h2]
    omega

theorem lg_ev (X t : Nat → Int) (n : Nat) (x : Int) : ∀ k, ev (lg X t n k) x = su (fun i => t i * bv X i x n) k := by
  intro k
  induction k with
  | zero => rfl
  | succ k ih => rw [lg, ev_add, ev_sc, bs_ev, ih, su]

/-- It goes through the points. -/
theorem lg_through {p : Int} {X Y t : Nat → Int} {n : Nat} (ht : ∀ i, i < n → p ∣ t i * bv X i (X i) n - Y i) {j : Nat} (hj : j < n) : p ∣ ev (lg X t n n) (X j) - Y j := by
  rw [lg_ev]
  have h1 := su_one (p := p) (g := fun i => t i * bv X i (X j) n) (j := j) n fun i _ hne => by
    show p ∣ t i * bv X i (X j) n
    rw [bv_zero (Ne.symm hne) n hj, Int.mul_zero]
    exact Int.dvd_zero p
  rw [if_pos hj] at h1
  have h2 := Int.dvd_add h1 (ht j hj)
  rwa [show su (fun i => t i * bv X i (X j) n) n - t j * bv X j (X j) n + (t j * bv X j (X j) n - Y j) = su (fun i => t i * bv X i (X j) n) n - Y j from by omega] at h2

/-- LAGRANGE: whatever goes through the points, and has no more numbers than points, is at any place what is summed. -/
theorem lagrange {p : Int} (hp : Prm p) {f : List Int} {X Y t : Nat → Int} {n : Nat} (hX : Apart p X n) (hf : f.length ≤ n) (hY : ∀ i, i < n → p ∣ ev f (X i) - Y i) (ht : ∀ i, i < n → p ∣ t i * bv X i (X i) n - Y i) (x : Int) : p ∣ ev f x - su (fun i => t i * bv X i x n) n := by
  rw [← lg_ev]
  refine alike_at hp hX hf (lg_length X t n n (Nat.le_refl n)) (fun i hi => ?_) x
  have h1 := hY i hi
  have h2 := lg_through (X := X) (Y := Y) ht hi
  have := Int.dvd_sub h1 h2
  rwa [show ev f (X i) - Y i - (ev (lg X t n n) (X i) - Y i) = ev f (X i) - ev (lg X t n n) (X i) from by omega] at this

/-- The product one factor at a time, each with what turns its other round. -/
def bq (X : Nat → Int) (v : Nat → Int) (i : Nat) (y x : Int) : Nat → Int
  | 0 => y
  | k + 1 => if k = i then bq X v i y x k else bq X v i y x k * (x - X k) * v k

theorem bq_bv (X v : Nat → Int) (i : Nat) (y x : Int) : ∀ k, ∃ w, bq X v i y x k = y * w * bv X i x k ∧ (∀ x', bq X v i y x' k = y * w * bv X i x' k) := by
  intro k
  induction k with
  | zero => exact ⟨1, by simp [bq, bv], fun x' => by simp [bq, bv]⟩
  | succ k ih =>
    obtain ⟨w, h1, h2⟩ := ih
    by_cases hk : k = i
    · exact ⟨w, by rw [bq, bv, if_pos hk, if_pos hk, h1], fun x' => by rw [bq, bv, if_pos hk, if_pos hk, h2]⟩
    · refine ⟨w * v k, ?_, fun x' => ?_⟩
      · rw [bq, bv, if_neg hk, if_neg hk, h1]; grind
      · rw [bq, bv, if_neg hk, if_neg hk, h2]; grind

theorem bq_self {p : Int} {X v : Nat → Int} {i n : Nat} {y : Int} (hv : ∀ k, k < n → k ≠ i → p ∣ (X i - X k) * v k - 1) : ∀ k, k ≤ n → p ∣ bq X v i y (X i) k - y := by
  intro k
  induction k with
  | zero => intro _; simp [bq]
  | succ k ih =>
    intro hk
    have h1 := ih (by omega)
    rw [bq]
    split
    · exact h1
    · rename_i hne
      have h2 : p ∣ bq X v i y (X i) k * ((X i - X k) * v k - 1) + (bq X v i y (X i) k - y) := Int.dvd_add (Int.dvd_mul_of_dvd_right (hv k (by omega) hne)) h1
      rwa [show bq X v i y (X i) k * ((X i - X k) * v k - 1) + (bq X v i y (X i) k - y) = bq X v i y (X i) k * (X i - X k) * v k - y from by grind] at h2

/-- LAGRANGE, as it is summed with what turns each round: v i k for X i - X k. -/
theorem lagrange_sum {p : Int} (hp : Prm p) {f : List Int} {X Y : Nat → Int} {v : Nat → Nat → Int} {n : Nat} (hX : Apart p X n) (hf : f.length ≤ n) (hY : ∀ i, i < n → p ∣ ev f (X i) - Y i) (hv : ∀ i, i < n → ∀ k, k < n → k ≠ i → p ∣ (X i - X k) * v i k - 1) (x : Int) : p ∣ ev f x - su (fun i => bq X (v i) i (Y i) x n) n := by
  have hw : ∀ i, ∃ w, ∀ x', bq X (v i) i (Y i) x' n = Y i * w * bv X i x' n := fun i => by
    obtain ⟨w, _, h⟩ := bq_bv X (v i) i (Y i) 0 n
    exact ⟨w, h⟩
  have hw' := Classical.axiomOfChoice hw
  obtain ⟨w, hw'⟩ := hw'
  have h1 := lagrange hp (t := fun i => Y i * w i) hX hf hY (fun i hi => by
    have := bq_self (y := Y i) (hv i hi) n (Nat.le_refl n)
    rw [hw'] at this
    exact this) x
  have h2 : (fun i => bq X (v i) i (Y i) x n) = fun i => Y i * w i * bv X i x n := by
    funext i
    exact hw' i x
  rw [h2]
  exact h1

/-- NEWTON's step: one more point. -/
theorem newton {p : Int} {f : List Int} {X Y : Nat → Int} {n : Nat} (hf : f.length ≤ n) (hY : ∀ i, i < n → p ∣ ev f (X i) - Y i) {t : Int} (ht : p ∣ t * bv X (n + 1) (X n) n - (Y n - ev f (X n))) : (add f (sc t (bs X (n + 1) n))).length ≤ n + 1 ∧ ∀ i, i < n + 1 → p ∣ ev (add f (sc t (bs X (n + 1) n))) (X i) - Y i := by
  refine ⟨?_, fun i hi => ?_⟩
  · have := bs_length X (n + 1) n
    rw [if_neg (by omega)] at this
    rw [add_length, sc_length]
    omega
  · rw [ev_add, ev_sc, bs_ev]
    by_cases h : i = n
    · subst h
      rwa [show ev f (X i) + t * bv X (i + 1) (X i) i - Y i = t * bv X (i + 1) (X i) i - (Y i - ev f (X i)) from by omega]
    · rw [bv_zero (by omega) n (by omega), Int.mul_zero, Int.add_zero]
      exact hY i (by omega)

/-- Points of a sum. -/
theorem sums_at {p : Int} {f g : List Int} {x y z : Int} (hf : p ∣ ev f x - y) (hg : p ∣ ev g x - z) : p ∣ ev (add f g) x - (y + z) := by
  rw [ev_add, show ev f x + ev g x - (y + z) = (ev f x - y) + (ev g x - z) from by omega]
  exact Int.dvd_add hf hg

end Go.Proofs.Ytfdhhiibhkepaaa.Po
