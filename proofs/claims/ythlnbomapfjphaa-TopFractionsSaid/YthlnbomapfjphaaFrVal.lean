/-
  What a continued fraction is worth, from behind and with a bound; the convergents' steps; what is nearest, told by two convergents. No Go in sight.
-/
import Derived.Test.YthlnbomapfjphaaFrMath
import Derived.Test.YthlnbomapfjphaaFrNear
namespace Go.Proofs.Ythlnbomapfjphaa.Fr
open Eu

/-- The worth from behind; none, where a numerator is above a million. -/
def vr : List Int → Option (Int × Int)
  | [] => some (1, 0)
  | a :: l => match vr l with
    | none => none
    | some v => if 1000000 < a * v.1 + v.2 then none else some (a * v.1 + v.2, v.1)

theorem vr_none {l : List Int} {i : Nat} (h : vr (l.drop i) = none) : vr l = none := by
  induction l generalizing i with
  | nil => simpa using h
  | cons a l ih =>
    match i with
    | 0 => simpa using h
    | i + 1 =>
      have := ih (i := i) (by simpa using h)
      simp only [vr, this]

theorem vr_drop {l : List Int} {i : Nat} (h : i < l.length) {x y : Int} (hv : vr (l.drop (i + 1)) = some (x, y)) :
    (1000000 < l.getD i 0 * x + y → vr l = none) ∧ (l.getD i 0 * x + y ≤ 1000000 → vr (l.drop i) = some (l.getD i 0 * x + y, x)) := by
  have e : l.drop i = l.getD i 0 :: l.drop (i + 1) := by
    rw [List.drop_eq_getElem_cons h]; simp [h]
  constructor
  · intro hb
    refine vr_none (i := i) ?_
    rw [e]
    simp only [vr, hv]
    rw [if_pos hb]
  · intro hb
    rw [e]
    simp only [vr, hv]
    rw [if_neg (by omega)]

theorem vr_vp {l : List Int} (h : ∀ i, (vp (l.drop i)).1 ≤ 1000000) : vr l = some (vp l) := by
  induction l with
  | nil => rfl
  | cons a l ih =>
    have h2 := ih fun i => by have := h (i + 1); simpa using this
    have h0 := h 0
    simp only [List.drop_zero, vp_cons] at h0
    simp only [vr, h2, vp_cons]
    rw [if_neg (by omega)]

/-- The next convergent. -/
theorem vp_snoc (l : List Int) (a : Int) : vp (l ++ [a]) = (a * (vp l).1 + (vq l).1, a * (vp l).2 + (vq l).2) := by
  induction l with
  | nil => simp [vp, vq]
  | cons b l ih =>
    rw [List.cons_append, vp_cons, vp_cons, vq_cons, ih]
    generalize (vp l).1 = p1
    generalize (vp l).2 = p2
    generalize (vq l).1 = q1
    generalize (vq l).2 = q2
    refine Prod.ext ?_ rfl
    show b * (a * p1 + q1) + (a * p2 + q2) = a * (b * p1 + p2) + (b * q1 + q2)
    grind

/-- Two that differ by one part of both, x between, and no smaller denominators: they are the nearest. -/
theorem nearest {P Q N a b c d s t : Int} (hb : 1 ≤ b) (hd : 1 ≤ d) (hbN : b ≤ N) (hdN : d ≤ N) (hbd : N < b + d) (hs : 0 < s) (ht : 0 < t) (hdet : c * b - a * d = 1)
    (hP : P = a * s + c * t) (hQ : Q = b * s + d * t) : IsLow P Q N a b ∧ IsHigh P Q N c d := by
  have g1 : G a b = 1 := by
    have h1 := G_dvd_left a b
    have h2 := G_dvd_right a b
    have h3 : G a b ∣ 1 := by
      rw [← hdet]
      exact Int.dvd_sub (Int.dvd_trans h2 (Int.dvd_mul_left _ _)) (Int.dvd_trans h1 (Int.dvd_mul_right _ _))
    have h4 := Int.le_of_dvd (by decide) h3
    have h5 := G_pos (a := a) (b := b) (.inr (by omega))
    omega
  have g2 : G c d = 1 := by
    have h1 := G_dvd_left c d
    have h2 := G_dvd_right c d
    have h3 : G c d ∣ 1 := by
      rw [← hdet]
      exact Int.dvd_sub (Int.dvd_trans h1 (Int.dvd_mul_right _ _)) (Int.dvd_trans h2 (Int.dvd_mul_left _ _))
    have h4 := Int.le_of_dvd (by decide) h3
    have h5 := G_pos (a := c) (b := d) (.inr (by omega))
    omega
  have e1 : P * b - a * Q = t := by
    have : P * b - a * Q = (c * b - a * d) * t := by rw [hP, hQ]; grind
    rw [this, hdet, Int.one_mul]
  have e2 : c * Q - P * d = s := by
    have : c * Q - P * d = (c * b - a * d) * s := by rw [hP, hQ]; grind
    rw [this, hdet, Int.one_mul]
  have key : ∀ p q : Int, 1 ≤ q → q ≤ N → 1 ≤ p * b - a * q → 1 ≤ c * q - p * d → False := fun p q q1 q2 h1 h2 => by
    have hid : q = (p * b - a * q) * d + (c * q - p * d) * b := by
      have : (p * b - a * q) * d + (c * q - p * d) * b = q * (c * b - a * d) := by grind
      rw [this, hdet, Int.mul_one]
    have f1 : 1 * d ≤ (p * b - a * q) * d := Int.mul_le_mul_of_nonneg_right h1 (by omega)
    have f2 : 1 * b ≤ (c * q - p * d) * b := Int.mul_le_mul_of_nonneg_right h2 (by omega)
    omega
  have hQ1 : 0 < Q := by
    rw [hQ]
    have f1 := Int.mul_pos (a := b) (b := s) (by omega) hs
    have f2 := Int.mul_pos (a := d) (b := t) (by omega) ht
    omega
  refine ⟨⟨⟨hb, hbN, by omega, fun p q q1 q2 hpq => ?_⟩, g1⟩, ⟨⟨hd, hdN, by rw [Int.neg_mul, Int.neg_mul]; omega, fun p q q1 q2 hpq => ?_⟩, by rw [G_neg]; exact g2⟩⟩
  · refine Decidable.byContradiction fun hc => key p q q1 q2 (by omega) ?_
    -- p / q ≤ P / Q < c / d
    have f1 : p * Q * d ≤ P * q * d := Int.mul_le_mul_of_nonneg_right hpq (by omega)
    have f2 : P * d * q < c * Q * q := Int.mul_lt_mul_of_pos_right (by omega) (by omega)
    have f3 : P * q * d = P * d * q := by ac_rfl
    have f4 : p * Q * d = Q * (p * d) := by ac_rfl
    have f5 : c * Q * q = Q * (c * q) := by ac_rfl
    have := Int.lt_of_mul_lt_mul_left (a := Q) (b := p * d) (c := c * q) (by omega) (by omega)
    omega
  · rw [Int.neg_mul] at hpq ⊢
    refine Decidable.byContradiction fun hc => key (-p) q q1 q2 ?_ (by rw [Int.neg_mul]; omega)
    rw [Int.neg_mul]
    have f1 : P * q * b ≤ -(p * Q) * b := Int.mul_le_mul_of_nonneg_right (by omega) (by omega)
    have f2 : a * Q * q < P * b * q := Int.mul_lt_mul_of_pos_right (by omega) (by omega)
    have f3 : P * q * b = P * b * q := by ac_rfl
    have f4 : -(p * Q) * b = Q * (-(p * b)) := by grind
    have f5 : a * Q * q = Q * (a * q) := by ac_rfl
    have := Int.lt_of_mul_lt_mul_left (a := Q) (b := a * q) (c := -(p * b)) (by omega) (by omega)
    omega

/-- The fraction itself, in lowest terms. -/
theorem nearest_self {P Q N a b g : Int} (hg : 1 ≤ g) (hb : 1 ≤ b) (hbN : b ≤ N) (hG : G a b = 1) (hP : P = a * g) (hQ : Q = b * g) : IsLow P Q N a b ∧ IsHigh P Q N a b := by
  subst hP hQ
  refine ⟨⟨⟨hb, hbN, by apply Int.le_of_eq; ac_rfl, fun p q q1 q2 h => ?_⟩, hG⟩, ⟨⟨hb, hbN, by apply Int.le_of_eq; grind, fun p q q1 q2 h => ?_⟩, by rw [G_neg]; exact hG⟩⟩
  · have e1 : p * (b * g) = g * (p * b) := by ac_rfl
    have e2 : a * g * q = g * (a * q) := by ac_rfl
    exact Int.le_of_mul_le_mul_left (a := g) (by omega) (by omega)
  · have e1 : p * (b * g) = g * (p * b) := by ac_rfl
    have e2 : -(a * g) * q = g * (-a * q) := by grind
    exact Int.le_of_mul_le_mul_left (a := g) (by omega) (by omega)

/-- Near's loop, where the next convergent is too large: what is less of its number. -/
theorem near_end {P Q N t : Int} {l l2 : List Int} (h0 : 0 ≤ P) (h1 : 0 ≤ Q) (hN : 1 ≤ N) (h : cf P Q = l ++ t :: l2) (hlN : (vp l).2 ≤ N) (hbig : N < t * (vp l).2 + (vq l).2) (hl : l ≠ []) :
    1 ≤ (vp l).2 ∧ 0 ≤ (vq l).2 ∧ (vq l).2 ≤ N ∧ 0 ≤ (N - (vq l).2) / (vp l).2 ∧ (N - (vq l).2) / (vp l).2 < t ∧
    (l.length % 2 = 0 → IsLow P Q N ((vq l).1 + (N - (vq l).2) / (vp l).2 * (vp l).1) ((vq l).2 + (N - (vq l).2) / (vp l).2 * (vp l).2) ∧ IsHigh P Q N (vp l).1 (vp l).2) ∧
    (l.length % 2 ≠ 0 → IsHigh P Q N ((vq l).1 + (N - (vq l).2) / (vp l).2 * (vp l).1) ((vq l).2 + (N - (vq l).2) / (vp l).2 * (vp l).2) ∧ IsLow P Q N (vp l).1 (vp l).2) := by
  have hn := cf_nonneg h0 h1
  rw [h] at hn
  obtain ⟨a0, l0, hl0⟩ : ∃ a t, l = a :: t := by
    cases l with
    | nil => exact absurd rfl hl
    | cons a t => exact ⟨a, t, rfl⟩
  have hQ : 0 < Q := by
    refine Decidable.byContradiction fun hc => ?_
    rw [cf_none (by omega)] at h
    simp at h
  have hpos : ∀ x ∈ l0, 1 ≤ x := by
    obtain ⟨a2, l3, e, _, _, _, h5⟩ := cf_entries h0 hQ
    rw [h, hl0, List.cons_append, List.cons.injEq] at e
    intro x hx
    exact (h5 x (by rw [← e.2]; exact List.mem_append_left _ hx)).1
  have hb1 : 1 ≤ (vp l).2 := by
    rw [hl0, vp_cons]
    exact (vp_pos l0 hpos).1
  obtain ⟨p', q', c1, c2, c3, c4, c5, _, _, _⟩ := cf_at l (t :: l2) P Q h0 h1 h
  have hq' : 0 < q' := by
    refine Decidable.byContradiction fun hc => ?_
    rw [cf_none (by omega)] at c1
    cases c1
  rw [cf_step hq', List.cons.injEq] at c1
  have htp : t * q' ≤ p' := by rw [← c1.1]; exact Int.ediv_mul_le _ (by omega)
  have hdet := det l
  -- the one before is not larger
  have hv : 0 ≤ (vq l).2 ∧ (vq l).2 ≤ (vp l).2 := by
    have hlast : ∃ l4 a4, l = l4 ++ [a4] := ⟨l.dropLast, l.getLast hl, (List.dropLast_concat_getLast hl).symm⟩
    obtain ⟨l4, a4, rfl⟩ := hlast
    rw [vq_snoc]
    have hn4 : ∀ x ∈ l4, 0 ≤ x := fun x hx => hn x (List.mem_append_left _ (List.mem_append_left _ hx))
    refine ⟨(vp_nonneg l4 hn4).2, ?_⟩
    match l4, hl0 with
    | [], _ => simp [vp]
    | b :: l5, hl0 =>
      rw [List.cons_append, List.cons.injEq] at hl0
      exact (vp_mono (b :: l5) [a4] hn4 (fun x hx => hpos x (by rw [← hl0.2]; simp only [List.mem_append]; exact .inr hx))).2
  generalize hA : (vp l).1 = A at *
  generalize hB : (vp l).2 = B at *
  generalize hC : (vq l).1 = C at *
  generalize hD : (vq l).2 = D at *
  have hk0 : 0 ≤ (N - D) / B := Int.ediv_nonneg (by omega) (by omega)
  have hk1 := Int.ediv_mul_le (N - D) (b := B) (by omega)
  have hk2 := Int.lt_ediv_add_one_mul_self (N - D) (b := B) (by omega)
  generalize (N - D) / B = k at *
  rw [Int.add_mul, Int.one_mul] at hk2
  have hkt : k < t := by
    refine Decidable.byContradiction fun hc => ?_
    have : t * B ≤ k * B := Int.mul_le_mul_of_nonneg_right (by omega) (by omega)
    omega
  have hs : 0 < p' - k * q' := by
    have : (k + 1) * q' ≤ t * q' := Int.mul_le_mul_of_nonneg_right (by omega) (by omega)
    rw [Int.add_mul, Int.one_mul] at this
    omega
  have hkB : 0 ≤ k * B := Int.mul_nonneg hk0 (by omega)
  have hE1 : 1 ≤ D + k * B := by
    refine Decidable.byContradiction fun hc => ?_
    have hD0 : D = 0 := by omega
    have hB1 : B = 1 := by
      have h2 : B ∣ 1 := by
        rw [hD0] at hdet
        unfold sg at hdet
        split at hdet
        · exact ⟨-C, by grind⟩
        · exact ⟨C, by grind⟩
      have := Int.le_of_dvd (by decide) h2
      omega
    subst hB1
    omega
  refine ⟨hb1, hv.1, by omega, hk0, hkt, fun he => ?_, fun he => ?_⟩
  · unfold sg at hdet
    rw [if_pos he] at hdet
    exact nearest (s := q') (t := p' - k * q') hE1 hb1 (by omega) hlN (by omega) hq' hs (by grind) (by rw [c4]; grind) (by rw [c5]; grind)
  · unfold sg at hdet
    rw [if_neg he] at hdet
    have := nearest (P := P) (Q := Q) (N := N) (a := A) (b := B) (c := C + k * A) (d := D + k * B) (s := p' - k * q') (t := q') hb1 hE1 hlN (by omega) (by omega) hs hq' (by grind) (by rw [c4]; grind) (by rw [c5]; grind)
    exact ⟨this.2, this.1⟩

end Go.Proofs.Ythlnbomapfjphaa.Fr
