/-
  Plain mathematics for package chinese: systems of remainders. No Go in sight.
-/
import Derived.Test.YtfdhhiibhkepaaaRsMath
namespace Go.Proofs.Ytfdhhiibhkepaaa.Ch
open Eu Rs

/-- A congruence (R, M) that Check lets through. -/
def OkR (r : Int × Int) : Prop := 1 ≤ r.2 ∧ r.2 ≤ 1000 ∧ 0 ≤ r.1 ∧ r.1 < r.2
/-- The same, the other way and by program. -/
def badR (r : Int × Int) : Bool := decide (r.2 < 1) || decide (1000 < r.2) || decide (r.1 < 0) || decide (r.2 ≤ r.1)
theorem badR_iff (r : Int × Int) : badR r = false ↔ OkR r := by
  unfold badR OkR
  simp only [Bool.or_eq_false_iff, decide_eq_false_iff_not]
  omega
/-- What Check answers. -/
def chk (l : List (Int × Int)) : Int := if 6 < l.length then 2 else if l.any badR then 1 else 0
theorem chk_zero {l : List (Int × Int)} : chk l = 0 ↔ l.length ≤ 6 ∧ ∀ r ∈ l, OkR r := by
  unfold chk
  by_cases h : 6 < l.length
  · rw [if_pos h]
    constructor
    · intro h2; omega
    · intro h2; omega
  · rw [if_neg h]
    cases h2 : l.any badR
    · simp only [Bool.false_eq_true, if_false, true_iff]
      refine ⟨by omega, fun r hr => (badR_iff r).mp ?_⟩
      have := List.any_eq_false.mp h2 r hr
      simpa using this
    · simp only [if_true]
      obtain ⟨r, hr, hb⟩ := List.any_eq_true.mp h2
      constructor
      · intro h3; omega
      · rintro ⟨_, h3⟩
        have := (badR_iff r).mpr (h3 r hr)
        rw [this] at hb; cases hb

/-- y leaves all these remainders. -/
def Sol (l : List (Int × Int)) (y : Int) : Prop := ∀ r ∈ l, y % r.2 = r.1

/-- The numbers that leave all these remainders are those that leave n by M. -/
def Joined (l : List (Int × Int)) (n M : Int) : Prop := 1 ≤ M ∧ 0 ≤ n ∧ n < M ∧ ∀ y, Sol l y ↔ y % M = n

/-- What all moduli divide. -/
def lcs (l : List (Int × Int)) : Int := l.foldl (fun M r => L M r.2) 1

theorem lcs_snoc (l : List (Int × Int)) (r : Int × Int) : lcs (l ++ [r]) = L (lcs l) r.2 := by simp [lcs]

theorem Sol.nil (y : Int) : Sol [] y := fun _ h => by cases h
theorem Sol.snoc {l : List (Int × Int)} {r : Int × Int} {y : Int} : Sol (l ++ [r]) y ↔ Sol l y ∧ y % r.2 = r.1 := by
  unfold Sol
  constructor
  · intro h
    exact ⟨fun q hq => h q (by simp [hq]), h r (by simp)⟩
  · rintro ⟨h1, h2⟩ q hq
    rcases List.mem_append.mp hq with h | h
    · exact h1 q h
    · obtain rfl := List.mem_singleton.mp h
      exact h2

theorem Joined.nil : Joined [] 0 1 := ⟨by omega, by omega, by omega, fun y => ⟨fun _ => Int.emod_one y, fun _ => Sol.nil y⟩⟩

theorem Joined.sol {l : List (Int × Int)} {n M : Int} (h : Joined l n M) : Sol l n := (h.2.2.2 n).mpr (Int.emod_eq_of_lt h.2.1 h.2.2.1)

/-- One set of numbers has one smallest number and one step. -/
theorem Joined.uniq {l k : List (Int × Int)} {n M x N : Int} (h : Joined l n M) (g : Joined k x N) (hs : ∀ y, Sol l y ↔ Sol k y) : n = x ∧ M = N := by
  have e : ∀ y, y % M = n ↔ y % N = x := fun y => by rw [← h.2.2.2 y, hs y, g.2.2.2 y]
  have h0 := h.1
  have g0 := g.1
  have e1 := (e n).mp (Int.emod_eq_of_lt h.2.1 h.2.2.1)
  have e2 := (e x).mpr (Int.emod_eq_of_lt g.2.1 g.2.2.1)
  have d1 := (e (n + M)).mp (by rw [Int.add_emod_right]; exact Int.emod_eq_of_lt h.2.1 h.2.2.1)
  have d2 := (e (x + N)).mpr (by rw [Int.add_emod_right]; exact Int.emod_eq_of_lt g.2.1 g.2.2.1)
  have hM : N ∣ M := by
    have : (n + M - n) % N = 0 := Int.emod_eq_emod_iff_emod_sub_eq_zero.mp (d1.trans e1.symm)
    exact Int.dvd_of_emod_eq_zero (by rw [show n + M - n = M by omega] at this; exact this)
  have hN : M ∣ N := by
    have : (x + N - x) % M = 0 := Int.emod_eq_emod_iff_emod_sub_eq_zero.mp (d2.trans e2.symm)
    exact Int.dvd_of_emod_eq_zero (by rw [show x + N - x = N by omega] at this; exact this)
  have l1 := Int.le_of_dvd (by omega) hM
  have l2 := Int.le_of_dvd (by omega) hN
  have eM : M = N := by omega
  subst eM
  refine ⟨?_, rfl⟩
  rw [← e1, Int.emod_eq_of_lt h.2.1 h.2.2.1]

theorem dvd_sub_of_mod {y m r : Int} (h : y % m = r) : m ∣ y - r := by
  have := Int.dvd_self_sub_emod (x := y) (m := m)
  rwa [h] at this

theorem mod_of_dvd {y m r : Int} (h : m ∣ y - r) (h0 : 0 ≤ r) (h1 : r < m) : y % m = r := by
  have := Int.emod_eq_emod_iff_emod_sub_eq_zero.mpr (Int.emod_eq_zero_of_dvd h)
  rw [this, Int.emod_eq_of_lt h0 h1]

/-- No number fits both. -/
theorem Joined.none {l : List (Int × Int)} {n M : Int} (h : Joined l n M) {r : Int × Int} (hd : ¬ G M r.2 ∣ r.1 - n) : ∀ y, ¬ Sol (l ++ [r]) y := by
  intro y hy
  obtain ⟨h1, h2⟩ := Sol.snoc.mp hy
  have h3 := dvd_sub_of_mod ((h.2.2.2 y).mp h1)
  have h4 := dvd_sub_of_mod h2
  have h5 := Int.dvd_sub (Int.dvd_trans (G_dvd_left M r.2) h3) (Int.dvd_trans (G_dvd_right M r.2) h4)
  exact hd (by rw [show y - n - (y - r.1) = r.1 - n by omega] at h5; exact h5)

theorem L_div {M m : Int} (hM : 1 ≤ M) (hm : 1 ≤ m) : L M m = M * (m / G M m) := by
  have hg := G_pos (a := M) (b := m) (.inl (by omega))
  obtain ⟨A, hA⟩ := G_dvd_left M m
  obtain ⟨B, hB⟩ := G_dvd_right M m
  rw [L_val]
  have e1 : (M.natAbs : Int) = M := by omega
  have e2 : (m.natAbs : Int) = m := by omega
  rw [e1, e2]
  have d1 : M / G M m = A := by
    refine Int.ediv_eq_of_eq_mul_right (by omega) hA
  have d2 : m / G M m = B := by
    refine Int.ediv_eq_of_eq_mul_right (by omega) hB
  rw [d1, d2]
  calc A * m = A * (G M m * B) := by rw [← hB]
    _ = G M m * A * B := by rw [← Int.mul_assoc, Int.mul_comm A]
    _ = M * B := by rw [← hA]

theorem dvd_L {a b c : Int} (h : a ∣ c) (k : b ∣ c) : L a b ∣ c := by unfold L; exact Int.coe_lcm_dvd h k
theorem dvd_L_left (a b : Int) : a ∣ L a b := by unfold L; exact Int.dvd_lcm_left a b
theorem dvd_L_right (a b : Int) : b ∣ L a b := by unfold L; exact Int.dvd_lcm_right a b

theorem G_div {M m : Int} (hM : 1 ≤ M) : G (M / G M m) (m / G M m) = 1 := by
  have hg := G_pos (a := M) (b := m) (.inl (by omega))
  unfold G at hg ⊢
  have := Int.gcd_ediv_gcd_ediv_gcd (i := M) (j := m) (by omega)
  omega

/-- The step: how often the first step is taken until the new remainder is met. -/
theorem met {M m n r x : Int} (hM : 1 ≤ M) (hd : G M m ∣ r - n) (hx : x * (M / G M m) % (m / G M m) = 1 % (m / G M m)) :
    m ∣ n + M * ((r - n) / G M m * x % (m / G M m)) - r := by
  have hg := G_pos (a := M) (b := m) (.inl (by omega))
  obtain ⟨g, hge⟩ : ∃ g, G M m = g := ⟨_, rfl⟩
  obtain ⟨A, hA⟩ := G_dvd_left M m
  obtain ⟨B, hB⟩ := G_dvd_right M m
  obtain ⟨e, he⟩ := hd
  rw [hge] at hA hB he hg
  have d1 : M / g = A := Int.ediv_eq_of_eq_mul_right (by omega) hA
  have d2 : m / g = B := Int.ediv_eq_of_eq_mul_right (by omega) hB
  have d3 : (r - n) / g = e := Int.ediv_eq_of_eq_mul_right (by omega) he
  rw [hge, d1, d2] at hx
  rw [hge, d2, d3]
  obtain ⟨s, hs⟩ : B ∣ x * A - 1 := Int.dvd_of_emod_eq_zero (Int.emod_eq_emod_iff_emod_sub_eq_zero.mp hx)
  obtain ⟨q, hq⟩ : B ∣ e * x - e * x % B := Int.dvd_self_sub_emod
  obtain ⟨k, hk⟩ : ∃ k, e * x % B = k := ⟨_, rfl⟩
  rw [hk] at hq ⊢
  have hk2 : k = e * x - B * q := by omega
  refine ⟨e * s - A * q, ?_⟩
  have hxa : x * A = 1 + B * s := by omega
  have e1 : M * k = g * (e * (x * A)) - (g * B) * (A * q) := by
    rw [hk2, hA, Int.mul_sub]
    congr 1
    · rw [Int.mul_assoc]; congr 1
      rw [Int.mul_left_comm, Int.mul_comm A]
    · rw [Int.mul_assoc, Int.mul_assoc]; congr 1
      rw [Int.mul_left_comm]
  rw [e1, hxa, Int.mul_add, Int.mul_one, Int.mul_add, ← he, ← hB, Int.mul_sub]
  have e2 : g * (e * (B * s)) = m * (e * s) := by
    rw [hB, Int.mul_assoc]; congr 1
    rw [Int.mul_left_comm]
  rw [e2]; omega

theorem lt_step {M B n k : Int} (hM : 1 ≤ M) (hn : 0 ≤ n) (hn1 : n < M) (hk : 0 ≤ k) (hk1 : k < B) : 0 ≤ n + M * k ∧ n + M * k < M * B := by
  have h1 : M * (k + 1) ≤ M * B := Int.mul_le_mul_of_nonneg_left (by omega) (by omega)
  have h2 : 0 ≤ M * k := Int.mul_nonneg (by omega) hk
  rw [Int.mul_add, Int.mul_one] at h1
  omega

theorem Joined.step {l : List (Int × Int)} {n M : Int} (h : Joined l n M) {r : Int × Int} (hr : OkR r) {k : Int} (hk : 0 ≤ k) (hk1 : k < r.2 / G M r.2) (hm : r.2 ∣ n + M * k - r.1) :
    Joined (l ++ [r]) (n + M * k) (M * (r.2 / G M r.2)) := by
  obtain ⟨h1, h2, h3, h4⟩ := h
  obtain ⟨r1, r2, r3, r4⟩ := hr
  have hl := L_div h1 r1
  have hb : 1 ≤ r.2 / G M r.2 := by omega
  have hs := lt_step h1 h2 h3 hk hk1
  have hM1 := (Eu.mul_le (a := 1) (b := 1) (A := M) (B := r.2 / G M r.2) (by omega) (by omega) h1 hb).2
  refine ⟨by omega, hs.1, hs.2, fun y => ?_⟩
  rw [Sol.snoc, h4]
  constructor
  · rintro ⟨a, b⟩
    refine mod_of_dvd ?_ hs.1 hs.2
    rw [← hl]
    refine dvd_L ?_ ?_
    · have := Int.dvd_sub (dvd_sub_of_mod a) (Int.dvd_mul_right M k)
      rw [show y - n - M * k = y - (n + M * k) by omega] at this
      exact this
    · have := Int.dvd_sub (dvd_sub_of_mod b) hm
      rw [show y - r.1 - (n + M * k - r.1) = y - (n + M * k) by omega] at this
      exact this
  · intro a
    have a2 := dvd_sub_of_mod a
    rw [← hl] at a2
    constructor
    · refine mod_of_dvd ?_ h2 h3
      have := Int.dvd_add (Int.dvd_trans (dvd_L_left M r.2) a2) (Int.dvd_mul_right M k)
      rw [show y - (n + M * k) + M * k = y - n by omega] at this
      exact this
    · refine mod_of_dvd ?_ r3 r4
      have := Int.dvd_add (Int.dvd_trans (dvd_L_right M r.2) a2) hm
      rw [show y - (n + M * k) + (n + M * k - r.1) = y - r.1 by omega] at this
      exact this

/-- Any two agree: then all do. -/
def Agree (l : List (Int × Int)) : Prop := ∀ a ∈ l, ∀ b ∈ l, G a.2 b.2 ∣ a.1 - b.1

theorem Sol.agree {l : List (Int × Int)} {y : Int} (h : Sol l y) : Agree l := by
  intro a ha b hb
  have h1 := dvd_sub_of_mod (h a ha)
  have h2 := dvd_sub_of_mod (h b hb)
  have := Int.dvd_sub (Int.dvd_trans (G_dvd_right a.2 b.2) h2) (Int.dvd_trans (G_dvd_left a.2 b.2) h1)
  rw [show y - b.1 - (y - a.1) = a.1 - b.1 by omega] at this
  exact this

/-- What divides all r - y by what m has in common with each modulus, by what it has in common with them all. -/
theorem G_lcs_dvd (m c : Int) : ∀ (l : List (Int × Int)) (M : Int), G m M ∣ c → (∀ r ∈ l, G m r.2 ∣ c) → G m (l.foldl (fun M r => L M r.2) M) ∣ c := by
  intro l
  induction l with
  | nil => intro M h _; exact h
  | cons r l ih =>
    intro M h hr
    refine ih _ ?_ (fun q hq => hr q (by simp [hq]))
    rw [G_L]
    exact dvd_L h (hr r (by simp))

theorem lcs_dvd {l : List (Int × Int)} {c : Int} : ∀ M : Int, M ∣ c → (∀ r ∈ l, r.2 ∣ c) → l.foldl (fun M r => L M r.2) M ∣ c := by
  induction l with
  | nil => intro M h _; exact h
  | cons r l ih => intro M h hr; exact ih _ (dvd_L h (hr r (by simp))) (fun q hq => hr q (by simp [hq]))

theorem dvd_lcs_start : ∀ (l : List (Int × Int)) (M : Int), M ∣ l.foldl (fun M r => L M r.2) M := by
  intro l
  induction l with
  | nil => intro M; exact Int.dvd_refl M
  | cons r l ih => intro M; exact Int.dvd_trans (dvd_L_left M r.2) (ih _)

theorem dvd_lcs : ∀ (l : List (Int × Int)) (M : Int) (r : Int × Int), r ∈ l → r.2 ∣ l.foldl (fun M r => L M r.2) M := by
  intro l
  induction l with
  | nil => intro M r h; cases h
  | cons q l ih =>
    intro M r h
    rcases List.mem_cons.mp h with h | h
    · subst h
      exact Int.dvd_trans (dvd_L_right M r.2) (dvd_lcs_start l _)
    · exact ih _ r h

/-- The step of a system that agrees goes on. -/
theorem Joined.goes {l : List (Int × Int)} {n : Int} (h : Joined l n (lcs l)) {r : Int × Int} (ha : ∀ b ∈ l, G r.2 b.2 ∣ r.1 - b.1) : G (lcs l) r.2 ∣ r.1 - n := by
  rw [G_comm]
  refine G_lcs_dvd r.2 (r.1 - n) l 1 ?_ (fun b hb => ?_)
  · have : G r.2 1 = 1 := by unfold G; simp
    rw [this]; exact Int.one_dvd _
  · have h1 := dvd_sub_of_mod (h.sol b hb)
    have := Int.dvd_sub (ha b hb) (Int.dvd_trans (G_dvd_right r.2 b.2) h1)
    rw [show r.1 - b.1 - (n - b.1) = r.1 - n by omega] at this
    exact this

theorem Sol.sub {l k : List (Int × Int)} {y : Int} (h : Sol l y) (hs : ∀ r ∈ k, r ∈ l) : Sol k y := fun r hr => h r (hs r hr)

/-- A front of the system: its step divides, its number is what is left. -/
theorem Joined.front {l k : List (Int × Int)} {n M z o : Int} (h : Joined l n M) (g : Joined k z o) (hs : ∀ r ∈ k, r ∈ l) : M % o = 0 ∧ n % o = z := by
  have e1 := (g.2.2.2 n).mp (h.sol.sub hs)
  have hn : Sol l (n + M) := (h.2.2.2 _).mpr (by rw [Int.add_emod_right]; exact Int.emod_eq_of_lt h.2.1 h.2.2.1)
  have e2 := (g.2.2.2 _).mp (hn.sub hs)
  have := Int.emod_eq_emod_iff_emod_sub_eq_zero.mp (e2.trans e1.symm)
  rw [show n + M - n = M by omega] at this
  exact ⟨this, e1⟩

theorem L_pos {a b : Int} (ha : 1 ≤ a) (hb : 1 ≤ b) : 1 ≤ L a b := by
  have hg := G_pos (a := a) (b := b) (.inl (by omega))
  rw [L_div ha hb]
  have h1 : 1 ≤ b / G a b := Int.ediv_pos_of_pos_of_dvd (by omega) (by omega) (G_dvd_right a b)
  have := (Eu.mul_le (a := 1) (b := 1) (A := a) (B := b / G a b) (by omega) (by omega) ha h1).2
  omega

theorem lcs_pos_from : ∀ (l : List (Int × Int)) (M : Int), 1 ≤ M → (∀ r ∈ l, OkR r) → 1 ≤ l.foldl (fun M r => L M r.2) M := by
  intro l
  induction l with
  | nil => intro M h _; exact h
  | cons r l ih => intro M h ho; exact ih _ (L_pos h (ho r (by simp)).1) (fun q hq => ho q (by simp [hq]))

theorem lcs_pos {l : List (Int × Int)} (ho : ∀ r ∈ l, OkR r) : 1 ≤ lcs l := lcs_pos_from l 1 (by omega) ho

/-- One number that fits: then the numbers that fit are told by the least common multiple. -/
theorem Joined.of_sol {l : List (Int × Int)} {y0 : Int} (ho : ∀ r ∈ l, OkR r) (h : Sol l y0) : Joined l (y0 % lcs l) (lcs l) := by
  have hp := lcs_pos ho
  refine ⟨hp, Int.emod_nonneg _ (by omega), Int.emod_lt_of_pos _ (by omega), fun y => ?_⟩
  constructor
  · intro hy
    refine Int.emod_eq_emod_iff_emod_sub_eq_zero.mpr (Int.emod_eq_zero_of_dvd (lcs_dvd 1 (Int.one_dvd _) fun r hr => ?_))
    exact Int.dvd_of_emod_eq_zero (Int.emod_eq_emod_iff_emod_sub_eq_zero.mp ((hy r hr).trans (h r hr).symm))
  · intro hy r hr
    have h1 := Int.dvd_of_emod_eq_zero (Int.emod_eq_emod_iff_emod_sub_eq_zero.mp hy)
    have h2 := Int.dvd_trans (dvd_lcs l 1 r hr) h1
    rw [← h r hr]
    exact Int.emod_eq_emod_iff_emod_sub_eq_zero.mpr (Int.emod_eq_zero_of_dvd h2)

/-- What Join answers. -/
def Jn (l : List (Int × Int)) (x M er : Int) : Prop :=
  (chk l ≠ 0 ∧ x = 0 ∧ M = 0 ∧ er = chk l) ∨ (chk l = 0 ∧ x = 0 ∧ M = 0 ∧ er = 4 ∧ ∀ y, ¬ Sol l y) ∨ (chk l = 0 ∧ er = 0 ∧ M = lcs l ∧ Joined l x M)

theorem jn_some (l : List (Int × Int)) : ∃ x M er, Jn l x M er := by
  by_cases hc : chk l = 0
  · by_cases hs : ∃ y, Sol l y
    · obtain ⟨y, hy⟩ := hs
      exact ⟨_, _, 0, .inr (.inr ⟨hc, rfl, rfl, Joined.of_sol (chk_zero.mp hc).2 hy⟩)⟩
    · exact ⟨0, 0, 4, .inr (.inl ⟨hc, rfl, rfl, rfl, fun y hy => hs ⟨y, hy⟩⟩)⟩
  · exact ⟨0, 0, chk l, .inl ⟨hc, rfl, rfl, rfl⟩⟩

theorem Jn.bad {l : List (Int × Int)} {x M er : Int} (h : Jn l x M er) (hc : chk l ≠ 0) : x = 0 ∧ M = 0 ∧ er = chk l := by
  rcases h with h | h | h
  · exact h.2
  · exact absurd h.1 hc
  · exact absurd h.1 hc

theorem Jn.no {l : List (Int × Int)} {x M er : Int} (h : Jn l x M er) (hc : chk l = 0) (hn : ∀ y, ¬ Sol l y) : x = 0 ∧ M = 0 ∧ er = 4 := by
  rcases h with h | h | h
  · exact absurd hc h.1
  · exact ⟨h.2.1, h.2.2.1, h.2.2.2.1⟩
  · exact absurd h.2.2.2.sol (hn x)

theorem Jn.yes {l : List (Int × Int)} {x M er n N : Int} (h : Jn l x M er) (hc : chk l = 0) (hn : Joined l n N) : x = n ∧ M = N ∧ er = 0 := by
  rcases h with h | h | h
  · exact absurd hc h.1
  · exact absurd hn.sol (h.2.2.2.2 n)
  · have := h.2.2.2.uniq hn (fun _ => Iff.rfl)
    exact ⟨this.1, this.2, h.2.1⟩

theorem Jn.ok {l : List (Int × Int)} {x M er : Int} (h : Jn l x M er) (he : er = 0) : chk l = 0 ∧ M = lcs l ∧ Joined l x M := by
  rcases h with h | h | h
  · exact absurd (h.2.2.2 ▸ he) h.1
  · have := h.2.2.2.1; omega
  · exact ⟨h.1, h.2.2⟩

theorem Jn.err {l : List (Int × Int)} {x M er : Int} (h : Jn l x M er) (he : er ≠ 0) : x = 0 ∧ M = 0 := by
  rcases h with h | h | h
  · exact ⟨h.2.1, h.2.2.1⟩
  · exact ⟨h.2.1, h.2.2.1⟩
  · exact absurd h.2.1 he

theorem p1000 {i : Nat} (h : i ≤ 5) : (1000 : Int) ^ i ≤ 1000000000000000 := by
  match i, h with
  | 0, _ | 1, _ | 2, _ | 3, _ | 4, _ | 5, _ => decide

theorem p1000_step {M B : Int} {i : Nat} (h : M ≤ 1000 ^ i) (hM : 1 ≤ M) (hB : 1 ≤ B) (hB2 : B ≤ 1000) : M * B ≤ 1000 ^ (i + 1) := by
  rw [Int.pow_succ]
  exact (Eu.mul_le (by omega) (by omega) h hB2).2

theorem L_le {M m : Int} (hM : 1 ≤ M) (hm : 1 ≤ m) : L M m ≤ M * m := by
  rw [L_div hM hm]
  have hg := G_pos (a := M) (b := m) (.inl (by omega))
  exact Int.mul_le_mul_of_nonneg_left (Int.ediv_le_self _ (by omega)) (by omega)

theorem lcs_le_from : ∀ (l : List (Int × Int)) (M : Int), 1 ≤ M → (∀ r ∈ l, OkR r) → l.foldl (fun M r => L M r.2) M ≤ M * 1000 ^ l.length := by
  intro l
  induction l with
  | nil => intro M h _; simp
  | cons r l ih =>
    intro M h ho
    have hr := ho r (by simp)
    have h1 := ih _ (L_pos h hr.1) (fun q hq => ho q (by simp [hq]))
    have h2 : L M r.2 ≤ M * 1000 := Int.le_trans (L_le h hr.1) (Int.mul_le_mul_of_nonneg_left hr.2.1 (by omega))
    have h3 : (0 : Int) ≤ 1000 ^ l.length := Int.le_of_lt (Int.pow_pos (by omega))
    have h4 := Int.mul_le_mul_of_nonneg_right h2 h3
    rw [List.length_cons, Int.pow_succ, Int.mul_comm (1000 ^ l.length), ← Int.mul_assoc]
    exact Int.le_trans h1 h4

theorem p1000' {i : Nat} (h : i ≤ 6) : (1000 : Int) ^ i ≤ 1000000000000000000 := by
  match i, h with
  | 0, _ | 1, _ | 2, _ | 3, _ | 4, _ | 5, _ | 6, _ => decide

theorem lcs_le {l : List (Int × Int)} (h : l.length ≤ 6) (ho : ∀ r ∈ l, OkR r) : lcs l ≤ 1000000000000000000 := by
  have h1 := lcs_le_from l 1 (by omega) ho
  rw [Int.one_mul] at h1
  exact Int.le_trans h1 (p1000' h)

theorem chk_reverse (l : List (Int × Int)) : chk l.reverse = chk l := by
  have : l.reverse.any badR = l.any badR := by
    rw [Bool.eq_iff_iff]
    simp only [List.any_eq_true, List.mem_reverse]
  unfold chk
  rw [this, List.length_reverse]

theorem Jn.rev {l : List (Int × Int)} {x M er : Int} (h : Jn l x M er) : Jn l.reverse x M er := by
  have hs : ∀ y, Sol l.reverse y ↔ Sol l y := fun y => ⟨fun g => g.sub fun r hr => by simpa using hr, fun g => g.sub fun r hr => by simpa using hr⟩
  obtain ⟨x', M', er', h'⟩ := jn_some l.reverse
  rcases h with ⟨hc, rfl, rfl, rfl⟩ | ⟨hc, rfl, rfl, rfl, hn⟩ | ⟨hc, rfl, hM, hj⟩
  · exact .inl ⟨by rw [chk_reverse]; exact hc, rfl, rfl, (chk_reverse l).symm⟩
  · exact .inr (.inl ⟨by rw [chk_reverse]; exact hc, rfl, rfl, rfl, fun y hy => hn y ((hs y).mp hy)⟩)
  · have hc2 : chk l.reverse = 0 := by rw [chk_reverse]; exact hc
    have hj2 := Joined.of_sol (chk_zero.mp hc2).2 ((hs x).mpr hj.sol)
    have hu := hj2.uniq hj hs
    rw [hu.1, hu.2] at hj2
    exact .inr (.inr ⟨hc2, rfl, hu.2.symm, hj2⟩)

/-- The front of a system that can be joined. -/
theorem Jn.front {l : List (Int × Int)} {x M z o g : Int} (h : Jn l x M 0) (k : Nat) (hk : Jn (l.take k) z o g) : g = 0 ∧ 1 ≤ o ∧ M % o = 0 ∧ x % o = z := by
  obtain ⟨hc, _, hj⟩ := h.ok rfl
  obtain ⟨h6, ho⟩ := chk_zero.mp hc
  have hc2 : chk (l.take k) = 0 := chk_zero.mpr ⟨by rw [List.length_take]; omega, fun r hr => ho r (List.mem_of_mem_take hr)⟩
  have hs : Sol (l.take k) x := hj.sol.sub fun r hr => List.mem_of_mem_take hr
  have hj2 := Joined.of_sol (chk_zero.mp hc2).2 hs
  have hy := hk.yes hc2 hj2
  rw [← hy.1, ← hy.2.1] at hj2
  have := hj.front hj2 (fun r hr => List.mem_of_mem_take hr)
  exact ⟨hy.2.2, hj2.1, this⟩

/-- Two numbers reach what they have in common (BEZOUT). -/
theorem bez : ∀ (b : Nat) (a : Int), ∃ u v : Int, u * a + v * (b : Int) = G a b := by
  intro b
  induction b using Nat.strongRecOn with
  | _ b ih =>
    intro a
    by_cases h : b = 0
    · subst h
      rw [show ((0 : Nat) : Int) = 0 from rfl, G_zero']
      by_cases ha : a < 0
      · exact ⟨-1, 0, by omega⟩
      · exact ⟨1, 0, by omega⟩
    · have h1 := Int.emod_nonneg a (b := (b : Int)) (by omega)
      have h2 := Int.emod_lt_of_pos a (b := (b : Int)) (by omega)
      obtain ⟨u, v, huv⟩ := ih (a % (b : Int)).toNat (by omega) b
      have e1 : (((a % (b : Int)).toNat : Nat) : Int) = a % (b : Int) := by omega
      rw [e1, G_step] at huv
      refine ⟨v, u - v * (a / (b : Int)), ?_⟩
      rw [← huv]
      have e2 := Int.emod_add_mul_ediv a (b : Int)
      have e3 : a % (b : Int) = a - (b : Int) * (a / (b : Int)) := by omega
      rw [e3, Int.mul_sub, Int.sub_mul, Int.mul_comm (b : Int), ← Int.mul_assoc]
      omega

/-- Any two agree, the later with each before it: then all have a number. -/
theorem solvable {l : List (Int × Int)} (ho : ∀ r ∈ l, OkR r) (hp : ∀ k r, l[k]? = some r → ∀ b ∈ l.take k, G r.2 b.2 ∣ r.1 - b.1) : ∃ y, Sol l y := by
  have H : ∀ i, i ≤ l.length → ∃ y, Sol (l.take i) y := by
    intro i
    induction i with
    | zero => intro _; exact ⟨0, by simp; exact Sol.nil 0⟩
    | succ i ih =>
      intro hi
      obtain ⟨y, hy⟩ := ih (by omega)
      have hj := Joined.of_sol (fun r hr => ho r (List.mem_of_mem_take hr)) hy
      have hget : l[i]? = some l[i] := List.getElem?_eq_getElem (by omega)
      have hgo := hj.goes (hp i l[i] hget)
      obtain ⟨r, hr⟩ : ∃ r, l[i] = r := ⟨_, rfl⟩
      rw [hr] at hgo hget
      have hrok : OkR r := ho r (by rw [← hr]; exact List.getElem_mem _)
      obtain ⟨e, he⟩ := hgo
      obtain ⟨n, hn⟩ : ∃ n, y % lcs (l.take i) = n := ⟨_, rfl⟩
      obtain ⟨M, hM⟩ : ∃ M, lcs (l.take i) = M := ⟨_, rfl⟩
      rw [hn, hM] at hj
      rw [hn, hM] at he
      obtain ⟨u, v, huv⟩ := bez r.2.toNat M
      have e2 : ((r.2.toNat : Nat) : Int) = r.2 := by have := hrok.1; omega
      rw [e2] at huv
      refine ⟨n + M * (u * e), ?_⟩
      rw [List.take_add_one, hget]
      refine Sol.snoc.mpr ⟨(hj.2.2.2 _).mpr ?_, ?_⟩
      · rw [Int.add_mul_emod_self_left]; exact Int.emod_eq_of_lt hj.2.1 hj.2.2.1
      · refine mod_of_dvd ⟨-(v * e), ?_⟩ hrok.2.2.1 hrok.2.2.2
        have e3 : M * (u * e) + r.2 * (v * e) = G M r.2 * e := by
          rw [← huv, Int.add_mul, Int.mul_comm u M, Int.mul_comm v r.2, Int.mul_assoc, Int.mul_assoc]
        rw [Int.mul_neg]
        omega
  have := H l.length (Nat.le_refl _)
  rwa [List.take_length] at this

end Go.Proofs.Ytfdhhiibhkepaaa.Ch
