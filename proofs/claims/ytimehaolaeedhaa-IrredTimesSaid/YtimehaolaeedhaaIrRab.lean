/-
  A polynomial by its own powers: FROBENIUS (a p-th power is what x to the p makes), and RABIN's trial: what has nothing in common with x to the p to the i less x, for each i up to half its degree, is irreducible, and no other. No Go in sight.
-/
import Derived.Test.YtimehaolaeedhaaIrFrob
namespace Go.Proofs.Ytimehaolaeedhaa.Po
open Pr Rs Dd

-- Powers.
theorem pwl_cg {p : Int} {a b : List Int} (h : Cg p a b) : ∀ n, Cg p (pwl a n) (pwl b n) := by
  intro n
  induction n with
  | zero => exact Cg.refl _ _
  | succ n ih => exact h.mul ih

theorem pwl_times {p : Int} (a b : List Int) : ∀ n, Cg p (pwl (mul a b) n) (mul (pwl a n) (pwl b n)) := by
  intro n
  induction n with
  | zero => exact Cg.of_eq fun i => (one_mul [1] i).symm
  | succ n ih =>
    refine (Cg.mul_right (mul a b) ih).trans (Cg.of_eq fun i => ?_)
    show c (mul (mul a b) (mul (pwl a n) (pwl b n))) i = c (mul (mul a (pwl a n)) (mul b (pwl b n))) i
    rw [mul_assoc, mul_assoc]
    refine congr_mul_right a (fun j => ?_) i
    rw [← mul_assoc, ← mul_assoc, mul_comm (mul b (pwl a n)), mul_comm (mul (pwl a n) b)]
    exact congr_mul_right _ (mul_comm b (pwl a n)) j

theorem add_mul_c (f g h : List Int) (i : Nat) : c (mul (add f g) h) i = c (mul f h) i + c (mul g h) i := add_mul f g h i

/-- The first terms of 1 and g, so often multiplied. -/
def bsl (g : List Int) (n : Nat) : Nat → List Int
  | 0 => []
  | j + 1 => add (bsl g n j) (sc (ch n j : Nat) (pwl g j))

theorem bsl_c (g : List Int) (n j i : Nat) : c (bsl g n (j + 1)) i = c (bsl g n j) i + (ch n j : Nat) * c (pwl g j) i := by
  rw [bsl, c_add, c_sc]

theorem bsl_mul (g : List Int) (n j i : Nat) : c (mul g (bsl g n (j + 1))) i = c (mul g (bsl g n j)) i + (ch n j : Nat) * c (pwl g (j + 1)) i := by
  rw [bsl, mul_add, mul_sc]
  rfl

theorem bsl_step (g : List Int) (n : Nat) : ∀ j i, c (bsl g (n + 1) (j + 1)) i = c (bsl g n (j + 1)) i + c (mul g (bsl g n j)) i := by
  intro j
  induction j with
  | zero =>
    intro i
    rw [bsl_c, bsl_c, ch_zero, ch_zero]
    show c [] i + _ = c [] i + _ + c (mul g []) i
    rw [c_mul_nil_right, Int.add_zero]
  | succ j ih =>
    intro i
    rw [bsl_c, ih, bsl_c g n (j + 1), bsl_mul, show ch (n + 1) (j + 1) = ch n j + ch n (j + 1) from rfl, Int.natCast_add, Int.add_mul]
    omega

theorem bsl_all (g : List Int) : ∀ n i, c (pwl (add [1] g) n) i = c (bsl g n (n + 1)) i := by
  intro n
  induction n with
  | zero =>
    intro i
    rw [bsl_c, ch_zero]
    show c [1] i = c [] i + ((1 : Nat) : Int) * c [1] i
    rw [c_nil]
    omega
  | succ n ih =>
    intro i
    show c (mul (add [1] g) (pwl (add [1] g) n)) i = _
    rw [add_mul, one_mul, congr_mul_right g ih i, ih i, bsl_step, bsl_c g n (n + 1), ch_big n (n + 1) (by omega)]
    simp

/-- FROBENIUS: 1 and g, multiplied q times. -/
theorem fresh_one {q : Nat} (hp : Prm q) (g : List Int) : Cg q (pwl (add [1] g) q) (add [1] (pwl g q)) := by
  have p2 := hp.1
  have h : ∀ j, 1 ≤ j → j ≤ q → ∀ i, (q : Int) ∣ c (bsl g q j) i - c [1] i := by
    intro j
    induction j with
    | zero => intro h; omega
    | succ j ih =>
      intro _ hj i
      rw [bsl_c]
      by_cases e : j = 0
      · subst e
        rw [ch_zero]
        show (q : Int) ∣ c [] i + ((1 : Nat) : Int) * c [1] i - c [1] i
        rw [c_nil, show 0 + ((1 : Nat) : Int) * c [1] i - c [1] i = 0 by omega]
        exact Int.dvd_zero _
      · have h1 := ih (by omega) (by omega) i
        have h2 := Int.dvd_mul_of_dvd_left (c := c (pwl g j) i) (prm_dvd_ch hp (k := j) (by omega) (by omega))
        have := Int.dvd_add h1 h2
        rwa [show c (bsl g q j) i - c [1] i + (ch q j : Nat) * c (pwl g j) i = c (bsl g q j) i + (ch q j : Nat) * c (pwl g j) i - c [1] i by omega] at this
  intro i
  rw [bsl_all, bsl_c, ch_self, c_add]
  have := h q (by omega) (Nat.le_refl _) i
  rwa [show c (bsl g q q) i + ((1 : Nat) : Int) * c (pwl g q) i - (c [1] i + c (pwl g q) i) = c (bsl g q q) i - c [1] i by omega]

theorem c_one_add (a : Int) (g : List Int) (i : Nat) : c (add [1] (add [a] g)) i = c (add [1 + a] g) i := by
  rw [c_add, c_add, c_add]
  cases i with
  | zero => rw [c_zero, c_zero, c_zero]; omega
  | succ i => rw [c_succ, c_succ, c_succ, c_nil]; omega

theorem fresh {q : Nat} (hp : Prm q) (g : List Int) (a : Nat) : Cg q (pwl (add [(a : Int)] g) q) (add [(a : Int)] (pwl g q)) := by
  induction a with
  | zero =>
    have e : ∀ h : List Int, Cg (q : Int) (add [((0 : Nat) : Int)] h) h := fun h => Cg.of_eq fun i => by
      rw [c_add]
      cases i with
      | zero => rw [c_zero]; omega
      | succ i => rw [c_succ, c_nil]; omega
    exact (pwl_cg (e g) q).trans (e _).symm
  | succ a ih =>
    have e : ((a + 1 : Nat) : Int) = 1 + (a : Int) := by omega
    rw [e]
    have h1 : Cg (q : Int) (add [1 + (a : Int)] g) (add [1] (add [(a : Int)] g)) := Cg.of_eq fun i => (c_one_add a g i).symm
    refine (pwl_cg h1 q).trans ((fresh_one hp _).trans (((Cg.refl _ _).add ih).trans (Cg.of_eq fun i => ?_)))
    exact c_one_add a _ i

/-- x. -/
def xx : List Int := [0, 1]
theorem xx_mul (h : List Int) (i : Nat) : c (mul xx h) i = pre (c h) i := by
  rw [xx, sh_mul]
  cases i with
  | zero => rfl
  | succ i => exact one_mul h i

/-- h at x to the m. -/
def up (m : Nat) : List Int → List Int
  | [] => []
  | a :: h => add [a] (mul (pwl xx m) (up m h))

/-- A q-th power is what x to the q makes. -/
theorem pwl_up {q : Nat} (hp : Prm q) : ∀ h : List Int, (∀ a ∈ h, 0 ≤ a ∧ a < q) → Cg q (pwl h q) (up q h) := by
  have p2 := hp.1
  intro h
  induction h with
  | nil =>
    intro _
    obtain ⟨m, rfl⟩ : ∃ m, q = m + 1 := ⟨q - 1, by omega⟩
    exact Cg.of_eq fun i => rfl
  | cons a h ih =>
    intro hb
    have ha := hb a List.mem_cons_self
    obtain ⟨a, rfl⟩ : ∃ n : Nat, a = n := ⟨a.toNat, by omega⟩
    have e : Cg (q : Int) ((a : Int) :: h) (add [(a : Int)] (mul xx h)) := Cg.of_eq fun i => by
      rw [c_add, xx_mul]
      cases i with
      | zero => rw [c_zero, c_zero]; show (a : Int) = a + 0; omega
      | succ i => rw [c_succ, c_succ, c_nil]; show c h i = 0 + c h i; omega
    refine (pwl_cg e q).trans ((fresh hp _ a).trans ((Cg.refl _ _).add ?_))
    exact (pwl_times xx h q).trans (Cg.mul_right _ (ih fun b hb2 => hb b (List.mem_cons_of_mem _ hb2)))

theorem pwl_xx : ∀ m i, c (pwl xx m) i = if i = m then 1 else 0 := by
  intro m
  induction m with
  | zero =>
    intro i
    show c [1] i = _
    cases i with
    | zero => rfl
    | succ i => rw [c_succ, c_nil, if_neg (by omega)]
  | succ m ih =>
    intro i
    show c (mul xx (pwl xx m)) i = _
    rw [xx_mul]
    cases i with
    | zero => rw [if_neg (by omega)]; rfl
    | succ i =>
      show c (pwl xx m) i = _
      rw [ih]
      by_cases h : i = m
      · rw [if_pos h, if_pos (by omega)]
      · rw [if_neg h, if_neg (by omega)]

/-- Once more by x, less so often f. -/
theorem shift_cf {p : Int} {f h h' : List Int} {d : Nat} (hf : Mo p d f) (hl : h.length = d) (hd : 1 ≤ d) (hl' : h'.length = d) (he : ∀ i, i < d → c h' i = (pre (c h) i + (p - c h (d - 1)) * c f i) % p) : Cf p f (mul xx h) h' := by
  have h1 : Cg p h' (add (mul xx h) (mul [- c h (d - 1)] f)) := fun i => by
    rw [c_add, xx_mul, one_c]
    by_cases hi : i < d
    · rw [he i hi]
      have e := Int.mul_ediv_add_emod (pre (c h) i + (p - c h (d - 1)) * c f i) p
      refine ⟨c f i - (pre (c h) i + (p - c h (d - 1)) * c f i) / p, ?_⟩
      rw [Int.mul_sub]
      rw [Int.sub_mul] at e ⊢
      rw [Int.neg_mul]
      omega
    · rw [c_over (f := h') (by omega)]
      by_cases hid : i = d
      · subst hid
        obtain ⟨j, rfl⟩ : ∃ j, i = j + 1 := ⟨i - 1, by omega⟩
        rw [hf.2.2, Nat.add_sub_cancel]
        show p ∣ 0 - (c h j + - c h j * 1)
        rw [show 0 - (c h j + - c h j * 1) = 0 by omega]
        exact Int.dvd_zero _
      · obtain ⟨j, rfl⟩ : ∃ j, i = j + 1 := ⟨i - 1, by omega⟩
        rw [c_over (f := f) (by rw [hf.2.1]; omega)]
        show p ∣ 0 - (c h j + _ * 0)
        rw [c_over (f := h) (by omega)]
        simp
  refine Cf.trans ?_ (cf_of h1.symm)
  refine ⟨[c h (d - 1)], Cg.of_eq fun i => ?_⟩
  have e := Int.neg_mul (c h (d - 1)) (c f i)
  rw [one_c, c_add, c_sc, c_add, one_c]
  omega

/-- What divides f as one with the same greatest divisor. -/
theorem IsG.alike {p : Int} {d f g g' : List Int} (h : IsG p d f g) (k : Cf p f g g') : IsG p d f g' := by
  obtain ⟨u, v, hb⟩ := h.bez
  obtain ⟨s, hs⟩ := k
  refine ⟨h.mon, h.l, ?_, ⟨add u (mul v s), v, ?_⟩⟩
  · have h1 : Di p d (add g (mul [-1] (mul s f))) := h.r.add ((h.l.times s).times [-1])
    refine h1.cg fun i => ?_
    have := hs i
    rw [c_add, c_sc] at this
    rw [c_add, one_c]
    have := Int.dvd_neg.mpr this
    rwa [show -(c (mul s f) i - (c g i + -1 * c g' i)) = c g i + -1 * c (mul s f) i - c g' i by omega] at this
  · refine Cg.trans ?_ hb
    have h1 : Cg p (mul v (mul s f)) (mul v (add g (sc (-1) g'))) := Cg.mul_right v hs
    intro i
    have := h1 i
    rw [mul_add, mul_sc] at this
    rw [c_add, c_add, add_mul, mul_assoc]
    rwa [show c (mul u f) i + c (mul v (mul s f)) i + c (mul v g') i - (c (mul u f) i + c (mul v g) i) = c (mul v (mul s f)) i - (c (mul v g) i + -1 * c (mul v g') i) by omega]

/-- x to the q to the i, less x. -/
def fx (q i : Nat) : List Int := add (pwl xx (q ^ i)) [0, -1]
theorem fx_cf (p : Int) (f : List Int) (q i : Nat) : Cf p f (fx q i) [] ↔ Cf p f (pwl xx (q ^ i)) xx := by
  have e : Cg p (add (fx q i) (sc (-1) [])) (add (pwl xx (q ^ i)) (sc (-1) xx)) := Cg.of_eq fun j => by
    unfold fx xx
    rw [c_add, c_add, c_add, c_sc, c_sc, c_nil]
    match j with
    | 0 => rw [c_zero, c_zero]; omega
    | 1 => rw [c_succ, c_succ, c_zero, c_zero]; omega
    | j + 2 => rw [c_succ, c_succ, c_succ, c_succ, c_nil]; omega
  exact ⟨fun h => Di.cg h e, fun h => Di.cg h e.symm⟩
theorem fx_di {p : Int} {f : List Int} {q i : Nat} : Di p f (fx q i) ↔ Cf p f (pwl xx (q ^ i)) xx := by
  rw [← fx_cf]
  have e : Cg p (add (fx q i) (sc (-1) [])) (fx q i) := Cg.of_eq fun j => by rw [c_add, c_sc, c_nil]; omega
  exact ⟨fun h => Di.cg h e.symm, fun h => Di.cg h e⟩

theorem fx_c {q i : Nat} (hq : 2 ≤ q) (hi : 1 ≤ i) : c (fx q i) (q ^ i) = 1 ∧ ∀ j, q ^ i < j → c (fx q i) j = 0 := by
  have h2 : 2 ≤ q ^ i := by
    have := Nat.pow_le_pow_right (n := q) (by omega) hi
    rw [Nat.pow_one] at this
    omega
  constructor
  · unfold fx
    rw [c_add, pwl_xx, if_pos rfl, c_over (by show 2 ≤ _; omega)]
    omega
  · intro j hj
    unfold fx
    rw [c_add, pwl_xx, if_neg (by omega), c_over (by show 2 ≤ _; omega)]
    omega

/-- Irreducible ones that divide it: those whose degree divides i. -/
theorem fx_all {q d i : Nat} {P : List Int} (hp : Prm q) (hP : Irr q P) (hl : P.length = d + 1) (hd : d ∣ i) (hi : 1 ≤ i) : Di q P (fx q i) := by
  have p2 := hp.1
  rw [fx_di]
  by_cases hx : Di q P xx
  · obtain ⟨m, hm⟩ : ∃ m, q ^ i = m + 1 := ⟨q ^ i - 1, by have := Nat.pow_pos (n := i) (show 0 < q by omega); omega⟩
    rw [hm]
    have h1 : Di q P (pwl xx (m + 1)) := (hx.times (pwl xx m)).cg (Cg.comm _ _ _)
    refine (h1.add (hx.times [-1])).cg (Cg.of_eq fun j => ?_)
    rw [c_add, c_add, one_c, c_sc]
  · obtain ⟨k, rfl⟩ := hd
    have hf := frob hp hP hl hx
    have : ∀ k, Cf q P (pwl xx (q ^ (d * k))) xx := by
      intro k
      induction k with
      | zero =>
        refine cf_of (Cg.of_eq fun j => ?_)
        show c (mul xx [1]) j = _
        rw [mul_comm]
        exact one_mul xx j
      | succ k ih =>
        rw [Nat.mul_succ, Nat.pow_add, Nat.mul_comm]
        exact (cf_of (pwl_mul xx (q ^ d) (q ^ (d * k))).symm).trans ((pwl_cf hf _).trans ih)
    exact this k

/-- All that irreducible ones make, if they divide what is not nought. -/
theorem many_deg {p : Int} (hp : Prm p) : ∀ (L : List (List Int)), L.Nodup → (∀ P ∈ L, Irr p P ∧ Mon p P) → ∀ W, Can p W → W ≠ [] → (∀ P ∈ L, Di p P W) → ((L.map fun P => P.length - 1).sum) + 1 ≤ W.length := by
  intro L
  induction L with
  | nil => intro _ _ W _ h _; have := List.length_pos_iff.mpr h; simp; omega
  | cons P L ih =>
    intro hn hL W hW h0 hd
    rw [List.nodup_cons] at hn
    obtain ⟨hP, mP⟩ := hL P List.mem_cons_self
    obtain ⟨s, s1, s2, _, s4, s5⟩ := (hd P List.mem_cons_self).length hp hP.1 hW h0
    have h1 := ih hn.2 (fun Q hQ => hL Q (List.mem_cons_of_mem _ hQ)) s s1 s2 fun Q hQ => by
      obtain ⟨iQ, mQ⟩ := hL Q (List.mem_cons_of_mem _ hQ)
      have h2 : Di p Q (mul s P) := (hd Q (List.mem_cons_of_mem _ hQ)).cg s4.symm
      rcases irr_euclid hp iQ h2 with h3 | h3
      · exact h3
      · exact absurd (irr_same hp iQ hP mQ mP h3) fun e => hn.1 (e ▸ hQ)
    have := hP.2.1
    simp only [List.map_cons, List.sum_cons]
    omega

theorem sum_sm (F : Nat → Nat) (l : List Nat) : (((l.map F).sum : Nat) : Int) = sm (fun x => (F x : Int)) l := by
  induction l with
  | nil => rfl
  | cons x l ih => simp only [List.map_cons, List.sum_cons, sm, Int.natCast_add, ih]

/-- No other one divides it. -/
theorem fx_not {q n i : Nat} {f : List Int} (hp : Prm q) (hf : Irr q f) (mf : Mo q n f) (hi : 1 ≤ i) (hn : ¬ n ∣ i) : ¬ Di q f (fx q i) := by
  intro hd
  have p2 := hp.1
  have hN : ((dv i).flatMap fun d => (ir q d).map (mo q d)).Nodup := by
    unfold List.Nodup
    rw [List.pairwise_flatMap]
    refine ⟨fun d _ => ?_, ?_⟩
    · rw [List.pairwise_map]
      exact (ir_nodup q d).imp_of_mem fun {x y} hx hy hne he => hne (mo_inj (mem_ir.mp hx).1 (mem_ir.mp hy).1 he)
    · refine (dv_lt i).imp fun {a b} hab => ?_
      rintro P h1 _ h2 rfl
      obtain ⟨x, _, rfl⟩ := List.mem_map.mp h1
      obtain ⟨y, _, hy⟩ := List.mem_map.mp h2
      have e1 := (mo_is hp a x).2.1
      have e2 := (mo_is hp b y).2.1
      rw [hy] at e2
      omega
  have hmem : ∀ P ∈ (dv i).flatMap fun d => (ir q d).map (mo q d), ∃ d, d ∣ i ∧ Irr q P ∧ Mo q d P := fun P hP => by
    obtain ⟨d, h1, h2⟩ := List.mem_flatMap.mp hP
    obtain ⟨x, h3, rfl⟩ := List.mem_map.mp h2
    exact ⟨d, ((mem_dv hi).mp h1).2, (mem_ir.mp h3).2, mo_is hp d x⟩
  have hW0 : red q (fx q i) ≠ [] := fun e => by
    have := c_red q (fx q i) (q ^ i)
    rw [e, (fx_c (by omega) hi).1, c_nil, Int.emod_eq_of_lt (by omega) (by omega)] at this
    omega
  have hWl : (red q (fx q i)).length ≤ q ^ i + 1 := by
    refine Decidable.byContradiction fun hc => ?_
    have h1 := (can_red (p := (q : Int)) (by omega) (fx q i)).2 hW0
    rw [c_red, (fx_c (by omega) hi).2 _ (by omega), Int.zero_emod] at h1
    exact h1 rfl
  have h1 := many_deg hp (f :: (dv i).flatMap fun d => (ir q d).map (mo q d)) (List.nodup_cons.mpr ⟨fun h => by
      obtain ⟨d, h1, _, h3⟩ := hmem f h
      have e1 := h3.2.1
      have e2 := mf.2.1
      exact hn ((show d = n by omega) ▸ h1), hN⟩) (fun P hP => by
      rcases List.mem_cons.mp hP with rfl | hP
      · exact ⟨hf, mf.mon⟩
      · obtain ⟨d, _, h2, h3⟩ := hmem P hP
        exact ⟨h2, h3.mon⟩) (red q (fx q i)) (can_red (by omega) _) hW0 fun P hP => by
      refine Di.cg ?_ (cg_red _ _).symm
      rcases List.mem_cons.mp hP with rfl | hP
      · exact hd
      · obtain ⟨d, h1, h2, h3⟩ := hmem P hP
        exact fx_all hp h2 h3.2.1 h1 hi
  rw [List.map_cons, List.sum_cons] at h1
  have h2 : ((((dv i).flatMap fun d => (ir q d).map (mo q d)).map fun P => P.length - 1).sum : Nat) = ((q ^ i : Nat) : Int) := by
    rw [← gauss_many hp hi]
    generalize dv i = l
    induction l with
    | nil => rfl
    | cons d l ih =>
      rw [List.flatMap_cons, List.map_append, List.sum_append, Int.natCast_add, ih]
      simp only [sm]
      congr 1
      rw [List.map_map, sum_sm]
      have : sm (fun x => ((((fun P => P.length - 1) ∘ mo q d) x : Nat) : Int)) (ir q d) = sm (fun _ => (d : Int)) (ir q d) := sm_congr fun x _ => by
        show (((mo q d x).length - 1 : Nat) : Int) = d
        rw [(mo_is hp d x).2.1, Nat.add_sub_cancel]
      rw [this]
      clear ih this
      generalize ir q d = k
      induction k with
      | nil => simp [sm]
      | cons x k ih => rw [sm, ih, List.length_cons, Int.natCast_add, Int.mul_add]; omega
  have h3 := mf.2.1
  have h4 := hf.2.1
  omega

/-- RABIN: nothing in common. -/
theorem rabin_yes {q n i : Nat} {f g d : List Int} (hp : Prm q) (hf : Irr q f) (mf : Mo q n f) (hi : 1 ≤ i) (hn : i < n) (hg : Cf q f (fx q i) g) (hd : IsG q d f g) : d.length = 1 := by
  have hf0 := mf.ne
  obtain ⟨s, s1, s2, s3, s4, s5⟩ := hd.l.length hp hd.mon.1 hf.1 hf0
  have a1 := List.length_pos_iff.mpr s2
  have a2 := List.length_pos_iff.mpr s3
  refine Decidable.byContradiction fun hc => ?_
  by_cases h : d.length < f.length
  · exact hf.2.2 d hd.mon.1 (by omega) h hd.l
  · have h1 := hd.l.back hp hd.mon.1 hf.1 hf0 (by omega)
    have h2 : Di q f g := h1.trans hd.r
    refine fx_not hp hf mf hi (fun hdv => by have := Nat.le_of_dvd (by omega) hdv; omega) ?_
    have h3 := Di.add hg h2
    refine h3.cg (Cg.of_eq fun j => ?_)
    rw [c_add, c_add, c_sc]
    omega

/-- RABIN: something in common. -/
theorem rabin_no {q n : Nat} {f : List Int} (hp : Prm q) (mf : Mo q n f) (hn : 1 ≤ n) (hf : ¬ Irr q f) : ∃ i, 1 ≤ i ∧ 2 * i ≤ n ∧ ∀ g d, Cf q f (fx q i) g → IsG q d f g → 2 ≤ d.length := by
  have hl := mf.2.1
  rw [irr_trial hp mf.1 (by omega)] at hf
  have : ∃ m g, 1 ≤ m ∧ 2 * m ≤ f.length - 1 ∧ Mo q m g ∧ Di q g f := by
    refine Classical.byContradiction fun hc => hf fun m g h1 h2 h3 h4 => hc ⟨m, g, h1, h2, h3, h4⟩
  obtain ⟨m, g, h1, h2, h3, h4⟩ := this
  obtain ⟨P, p1, p2, p3⟩ := irr_some hp g.length g (Nat.le_refl _) h3.1 (by rw [h3.2.1]; omega)
  have hP0 : P ≠ [] := fun e => by have := p1.2.1; rw [e] at this; simp at this
  obtain ⟨s, _, s2, _, _, s5⟩ := p3.length hp p1.1 h3.1 h3.ne
  have a1 := List.length_pos_iff.mpr s2
  have a2 := p1.2.1
  have a3 := h3.2.1
  refine ⟨P.length - 1, by omega, by omega, fun g2 d hg hd => ?_⟩
  have q1 : Di q P (fx q (P.length - 1)) := fx_all hp p1 (by omega) (Nat.dvd_refl _) (by omega)
  have q2 : Di q P f := p3.trans h4
  have q3 : Di q P g2 := by
    have h5 := (q1.add ((q2.trans hg).times [-1]))
    refine h5.cg (Cg.of_eq fun j => ?_)
    rw [c_add, one_c, c_add, c_sc]
    omega
  have q4 := hd.great q2 q3
  have d0 : d ≠ [] := fun e => by
    have := hd.l
    rw [e] at this
    obtain ⟨_, _, _, h, _⟩ := this.length hp (Can.nil _) mf.1 mf.ne
    exact h rfl
  obtain ⟨t, _, t2, _, _, t5⟩ := q4.length hp p1.1 hd.mon.1 d0
  have := List.length_pos_iff.mpr t2
  omega

/-- Made monic, it is so as it was. -/
theorem irr_both {p : Int} {f g : List Int} (hp : Prm p) (hf : Can p f) (hg : Can p g) (hl : f.length = g.length) (h : Di p f g) : Irr p f ↔ Irr p g := by
  by_cases h0 : g = []
  · subst h0
    have : f = [] := List.length_eq_zero_iff.mp (by simpa using hl)
    rw [this]
  · have hb := h.back hp hf hg h0 hl
    exact ⟨fun ⟨_, k2, k3⟩ => ⟨hg, by omega, fun e h1 h2 h3 h4 => k3 e h1 h2 (by omega) (h4.trans hb)⟩, fun ⟨_, k2, k3⟩ => ⟨hf, by omega, fun e h1 h2 h3 h4 => k3 e h1 h2 (by omega) (h4.trans h)⟩⟩

end Go.Proofs.Ytimehaolaeedhaa.Po
