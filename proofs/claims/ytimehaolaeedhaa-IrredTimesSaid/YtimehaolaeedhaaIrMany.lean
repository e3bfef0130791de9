/-
  How many polynomials are no products of smaller ones: GAUSS: of all degrees d that divide n, d times how many there are make q to the n. No Go in sight.
-/
import Derived.Test.YtimehaolaeedhaaIrMath
import Derived.Test.YtimehaolaeedhaaDvMath
namespace Go.Proofs.Ytimehaolaeedhaa.Po
open Pr Rs Dd

/-- The lowest n digits of x, to the base q. -/
def dg (q : Nat) : Nat → Nat → List Int
  | 0, _ => []
  | n + 1, x => ((x % q : Nat) : Int) :: dg q n (x / q)

/-- The number with these digits. -/
def vl (q : Nat) : List Int → Nat
  | [] => 0
  | a :: l => a.toNat + q * vl q l

theorem dg_length (q : Nat) : ∀ n x, (dg q n x).length = n := by
  intro n
  induction n with
  | zero => intro x; rfl
  | succ n ih => intro x; rw [dg, List.length_cons, ih]

theorem dg_bound {q : Nat} (hq : 0 < q) : ∀ n x, ∀ a ∈ dg q n x, 0 ≤ a ∧ a < q := by
  intro n
  induction n with
  | zero => intro x a h; cases h
  | succ n ih =>
    intro x a h
    rcases List.mem_cons.mp h with rfl | h
    · have := Nat.mod_lt x hq
      omega
    · exact ih _ a h

theorem vl_dg {q : Nat} : ∀ n x, x < q ^ n → vl q (dg q n x) = x := by
  intro n
  induction n with
  | zero => intro x h; simp at h; subst h; rfl
  | succ n ih =>
    intro x h
    rw [dg, vl, ih (x / q) (by rw [Nat.pow_succ, Nat.mul_comm] at h; exact Nat.div_lt_of_lt_mul h)]
    have := Nat.mod_add_div x q
    omega

theorem dg_vl {q : Nat} (hq : 0 < q) : ∀ l : List Int, (∀ a ∈ l, 0 ≤ a ∧ a < q) → dg q l.length (vl q l) = l := by
  intro l
  induction l with
  | nil => intro _; rfl
  | cons a l ih =>
    intro h
    have ha := h a List.mem_cons_self
    rw [List.length_cons, dg, vl]
    have e1 : (a.toNat + q * vl q l) % q = a.toNat := by rw [Nat.add_mul_mod_self_left, Nat.mod_eq_of_lt (by omega)]
    have e2 : (a.toNat + q * vl q l) / q = vl q l := by rw [Nat.add_mul_div_left _ _ hq, Nat.div_eq_of_lt (by omega), Nat.zero_add]
    rw [e1, e2, ih fun b hb => h b (List.mem_cons_of_mem _ hb)]
    congr 1
    omega

theorem vl_lt {q : Nat} : ∀ l : List Int, (∀ a ∈ l, 0 ≤ a ∧ a < q) → vl q l < q ^ l.length := by
  intro l
  induction l with
  | nil => intro _; simp [vl]
  | cons a l ih =>
    intro h
    have ha := h a List.mem_cons_self
    have h2 := ih fun b hb => h b (List.mem_cons_of_mem _ hb)
    rw [List.length_cons, Nat.pow_succ, vl]
    have : q * (vl q l + 1) ≤ q * q ^ l.length := Nat.mul_le_mul_left q h2
    rw [Nat.mul_add, Nat.mul_comm q (q ^ l.length)] at this
    omega

/-- The monic polynomial of degree n with these digits. -/
def mo (q n x : Nat) : List Int := dg q n x ++ [1]

theorem mo_is {q : Nat} (hp : Prm q) (n x : Nat) : Mo q n (mo q n x) := by
  have p2 := hp.1
  have e : c (mo q n x) n = 1 := by
    rw [c_at (by simp [mo, dg_length])]
    simp [mo, dg_length]
  refine ⟨⟨fun a ha => ?_, fun _ => ?_⟩, by simp [mo, dg_length], e⟩
  · rcases List.mem_append.mp ha with h | h
    · exact dg_bound (by omega) n x a h
    · have : a = 1 := by simpa using h
      omega
  · rw [show (mo q n x).length - 1 = n by simp [mo, dg_length], e]
    decide

/-- The digits of a monic one. -/
def code (q n : Nat) (f : List Int) : Nat := vl q (f.take n)

theorem code_lt {q n : Nat} {f : List Int} (h : Mo q n f) : code q n f < q ^ n := by
  have := vl_lt (q := q) (f.take n) fun a ha => h.1.1 a (List.mem_of_mem_take ha)
  rwa [List.length_take, h.2.1, Nat.min_eq_left (by omega)] at this

theorem mo_code {q n : Nat} {f : List Int} (hp : Prm q) (h : Mo q n f) : mo q n (code q n f) = f := by
  have p2 := hp.1
  have h1 := dg_vl (q := q) (by omega) (f.take n) fun a ha => h.1.1 a (List.mem_of_mem_take ha)
  rw [List.length_take, h.2.1, Nat.min_eq_left (by omega)] at h1
  unfold mo code
  rw [h1]
  have h2 : f = f.take n ++ [f[n]'(by rw [h.2.1]; omega)] := by
    rw [List.take_append_getElem, List.take_of_length_le (by rw [h.2.1]; omega)]
  have h3 := h.2.2
  rw [c_at (by rw [h.2.1]; omega)] at h3
  rw [h3] at h2
  exact h2.symm

theorem mo_inj {q n x y : Nat} (hx : x < q ^ n) (hy : y < q ^ n) (h : mo q n x = mo q n y) : x = y := by
  have h1 : dg q n x = dg q n y := List.append_cancel_right h
  rw [← vl_dg n x hx, ← vl_dg n y hy, h1]

/-- Is it so? -/
noncomputable def yes (P : Prop) : Bool := @decide P (Classical.propDecidable P)
theorem yes_iff {P : Prop} : yes P = true ↔ P := by unfold yes; exact @decide_eq_true_iff P (Classical.propDecidable P)
theorem yes_no {P : Prop} (h : ¬ P) : yes P = false := by
  cases hy : yes P
  · rfl
  · exact absurd (yes_iff.mp hy) h
theorem yes_congr {P Q : Prop} (h : P ↔ Q) : yes P = yes Q := by
  cases hy : yes Q
  · exact yes_no fun hp => by rw [yes_iff.mpr (h.mp hp)] at hy; cases hy
  · exact yes_iff.mpr (h.mpr (yes_iff.mp hy))

/-- 1 if it is so, or else 0. -/
noncomputable def ind (P : Prop) : Int := if yes P = true then 1 else 0
theorem ind_yes {P : Prop} (h : P) : ind P = 1 := if_pos (yes_iff.mpr h)
theorem ind_no {P : Prop} (h : ¬ P) : ind P = 0 := if_neg (by rw [yes_no h]; decide)
theorem ind_congr {P Q : Prop} (h : P ↔ Q) : ind P = ind Q := by unfold ind; rw [yes_congr h]

theorem sm_count (b : Nat → Bool) (l : List Nat) : sm (fun x => if b x = true then 1 else 0) l = ((l.filter b).length : Int) := by
  induction l with
  | nil => rfl
  | cons x l ih =>
    rw [sm, ih]
    cases h : b x
    · rw [List.filter_cons_of_neg (by simp [h])]; simp
    · rw [List.filter_cons_of_pos h, List.length_cons]; simp; omega

theorem sm_add (F H : Nat → Int) (l : List Nat) : sm (fun d => F d + H d) l = sm F l + sm H l := by
  induction l with
  | nil => rfl
  | cons d l ih => simp only [sm, ih]; omega

theorem sm_zero (l : List Nat) : sm (fun _ => 0) l = 0 := by
  induction l with
  | nil => rfl
  | cons d l ih => simp only [sm, ih]; omega

theorem sm_swap (F : Nat → Nat → Int) (l k : List Nat) : sm (fun x => sm (F x) k) l = sm (fun y => sm (fun x => F x y) l) k := by
  induction l with
  | nil => simp only [sm]; exact (sm_zero k).symm
  | cons x l ih => simp only [sm, ih]; exact (sm_add _ _ k).symm

theorem sm_single {l : List Nat} (hl : l.Nodup) {a : Nat} (ha : a ∈ l) (F : Nat → Int) : sm (fun x => if x = a then F x else 0) l = F a := by
  induction l with
  | nil => cases ha
  | cons x l ih =>
    rw [List.nodup_cons] at hl
    rw [sm]
    rcases List.mem_cons.mp ha with rfl | h
    · rw [if_pos rfl, sm_congr (H := fun _ => 0) fun d hd => if_neg fun e => hl.1 (by rw [← e]; exact hd), sm_zero]
      omega
    · rw [if_neg fun e => hl.1 (by rw [e]; exact h), ih hl.2 h]
      omega

theorem nodup_map {l : List Nat} (hn : l.Nodup) {f : Nat → Nat} (hi : ∀ x ∈ l, ∀ y ∈ l, f x = f y → x = y) : (l.map f).Nodup := by
  unfold List.Nodup at *
  rw [List.pairwise_map]
  have : l.Pairwise (fun x y => x ∈ l ∧ y ∈ l ∧ x ≠ y) := by
    refine (List.pairwise_iff_getElem.mpr fun i j hi hj hij => ⟨List.getElem_mem hi, List.getElem_mem hj, ?_⟩)
    exact List.pairwise_iff_getElem.mp hn i j hi hj hij
  exact this.imp fun {a b} ⟨ha, hb, hne⟩ he => hne (hi a ha b hb he)

/-- How many monic ones of degree n a monic one of degree m divides. -/
theorem multiples {q m n : Nat} {g : List Int} (hp : Prm q) (hg : Mo q m g) (hmn : m ≤ n) : sm (fun x => ind (Di q g (mo q n x))) (List.range (q ^ n)) = ((q ^ (n - m) : Nat) : Int) := by
  have p2 := hp.1
  show sm (fun x => if yes (Di q g (mo q n x)) = true then 1 else 0) (List.range (q ^ n)) = _
  rw [sm_count fun x => yes (Di q g (mo q n x))]
  have hT : ∀ y, Mo q n (red q (mul (mo q (n - m) y) g)) := fun y => by
    have := Mo.times hp (mo_is hp (n - m) y) hg
    rwa [show n - m + m = n by omega] at this
  have hperm : ((List.range (q ^ (n - m))).map fun y => code q n (red q (mul (mo q (n - m) y) g))).Perm ((List.range (q ^ n)).filter fun x => yes (Di q g (mo q n x))) := by
    refine (List.perm_ext_iff_of_nodup (nodup_map List.nodup_range fun x hx y hy he => ?_) (List.Pairwise.filter _ List.nodup_range)).mpr fun x => ?_
    · have hx := List.mem_range.mp hx
      have hy := List.mem_range.mp hy
      have e1 : red q (mul (mo q (n - m) x) g) = red q (mul (mo q (n - m) y) g) := by
        rw [← mo_code hp (hT x), ← mo_code hp (hT y), he]
      have e2 : Cg q (mul (mo q (n - m) x) g) (mul (mo q (n - m) y) g) := (cg_red _ _).symm.trans (by rw [e1]; exact cg_red _ _)
      have e3 := mul_cancel hp hg.1 hg.ne e2
      exact mo_inj hx hy ((mo_is hp _ _).1.ext (by omega) (mo_is hp _ _).1 e3)
    · simp only [List.mem_map, List.mem_range, List.mem_filter, yes_iff]
      constructor
      · rintro ⟨y, _, rfl⟩
        refine ⟨code_lt (hT y), ?_⟩
        rw [mo_code hp (hT y)]
        exact ⟨mo q (n - m) y, (cg_red _ _).symm⟩
      · rintro ⟨hx, hd⟩
        obtain ⟨h, hh, hc, _⟩ := Mo.other hp hg (mo_is hp n x) hd
        refine ⟨code q (n - m) h, code_lt hh, ?_⟩
        rw [mo_code hp hh]
        have e : red q (mul h g) = mo q n x := by
          rw [red_cg (by omega) hc, red_can (by omega) (mo_is hp n x).1]
        rw [e]
        exact mo_inj (code_lt (mo_is hp n x)) hx (mo_code hp (mo_is hp n x))
  rw [← hperm.length_eq, List.length_map, List.length_range]

/-- The irreducible monic ones of degree d. -/
noncomputable def ir (q d : Nat) : List Nat := (List.range (q ^ d)).filter fun x => yes (Irr q (mo q d x))
theorem mem_ir {q d x : Nat} : x ∈ ir q d ↔ x < q ^ d ∧ Irr q (mo q d x) := by
  unfold ir
  rw [List.mem_filter, List.mem_range, yes_iff]
theorem ir_nodup (q d : Nat) : (ir q d).Nodup := List.Pairwise.filter _ List.nodup_range

/-- From 1 to n. -/
def to (n : Nat) : List Nat := List.range' 1 n
theorem mem_to {n k : Nat} : k ∈ to n ↔ 1 ≤ k ∧ k ≤ n := by
  unfold to
  rw [List.mem_range'_1]
  omega
theorem to_nodup (n : Nat) : (to n).Nodup := List.nodup_range' 1
theorem to_shift (G : Nat → Int) (n : Nat) : sm (fun k => G (k - 1)) (to n) = G 0 + sm G (to n) - G n := by
  induction n with
  | zero => simp [to, sm]
  | succ n ih =>
    have e : to (n + 1) = to n ++ [n + 1] := by
      unfold to
      rw [List.range'_concat]
      simp [Nat.add_comm]
    rw [e, sm_append, sm_append, ih]
    simp only [sm, Nat.add_sub_cancel]
    omega

theorem di_pws {p : Int} {P f : List Int} {k : Nat} : Di p (red p (pws P k)) f ↔ Di p (pws P k) f := by
  constructor
  · rintro ⟨t, ht⟩
    exact ⟨t, (Cg.mul_right t (cg_red p _).symm).trans ht⟩
  · rintro ⟨t, ht⟩
    exact ⟨t, (Cg.mul_right t (cg_red p _)).trans ht⟩

theorem di_both {p : Int} {d f f' : List Int} (h : Cg p f f') : Di p d f ↔ Di p d f' := ⟨fun k => k.cg h, fun k => k.cg h.symm⟩

/-- What one irreducible polynomial makes in f. -/
noncomputable def part (q M d x : Nat) (f : List Int) : Int := sm (fun k => ind (Di q (pws (mo q d x) k) f)) (to M)
/-- All of them, by degrees. -/
noncomputable def whole (q M : Nat) (f : List Int) : Int := sm (fun d => d * sm (fun x => part q M d x f) (ir q d)) (to M)

theorem part_one {q M d x : Nat} (hp : Prm q) (hd : 1 ≤ d) : part q M d x [1] = 0 := by
  unfold part
  rw [sm_congr (H := fun _ => 0) fun k hk => ?_, sm_zero]
  refine ind_no fun h => ?_
  have hk := mem_to.mp hk
  obtain ⟨_, _, _, hle⟩ := Mo.other hp (pws_mo hp (mo_is hp d x) k) (mo_one hp) (di_pws.mpr h)
  have : 1 * 1 ≤ k * d := Nat.mul_le_mul hk.1 hd
  omega

theorem part_step {q M d x m e : Nat} {Q f g : List Int} (hp : Prm q) (hx : Irr q (mo q d x)) (hQ : Irr q Q) (mQ : Mo q e Q) (hg : Mo q m g) (hf : Cg q (mul g Q) f) (hM : m < M) :
    part q M d x f = part q M d x g + if mo q d x = Q then 1 else 0 := by
  have e1 := hQ.2.1
  rw [mQ.2.1] at e1
  by_cases h : mo q d x = Q
  · rw [if_pos h]
    unfold part
    rw [h, sm_congr (H := fun k => (fun j => ind (Di q (pws Q j) g)) (k - 1)) fun k hk => ?_, to_shift (fun j => ind (Di q (pws Q j) g)) M]
    · have h0 : ind (Di q (pws Q 0) g) = 1 := ind_yes ⟨g, Cg.of_eq fun i => by rw [mul_comm]; exact one_mul g i⟩
      have h1 : ind (Di q (pws Q M) g) = 0 := ind_no fun hd => by
        obtain ⟨_, _, _, hle⟩ := Mo.other hp (pws_mo hp mQ M) hg (di_pws.mpr hd)
        have : M * 1 ≤ M * e := Nat.mul_le_mul_left M (by omega)
        omega
      rw [h0, h1]
      omega
    · have hk := mem_to.mp hk
      obtain ⟨j, rfl⟩ : ∃ j, k = j + 1 := ⟨k - 1, by omega⟩
      show ind (Di q (pws Q (j + 1)) f) = ind (Di q (pws Q j) g)
      rw [← ind_congr (di_both hf)]
      exact ind_congr (pws_own hp mQ j)
  · rw [if_neg h, Int.add_zero]
    unfold part
    refine sm_congr fun k _ => ?_
    rw [← ind_congr (di_both hf)]
    refine ind_congr ⟨fun hd => pws_other hp hx hQ (mo_is hp d x).mon mQ.mon h k hd, fun hd => ?_⟩
    exact (hd.times Q).cg (Cg.comm q Q g)

/-- What all make in f is its degree. -/
theorem whole_deg {q M : Nat} (hp : Prm q) : ∀ (n m : Nat) (f : List Int), m ≤ n → Mo q m f → m ≤ M → whole q M f = m := by
  intro n
  induction n with
  | zero =>
    intro m f hm hf _
    obtain rfl : m = 0 := by omega
    rw [mo_zero hf]
    unfold whole
    rw [sm_congr (H := fun _ => 0) fun d hd => ?_, sm_zero]
    · rfl
    · rw [sm_congr (H := fun _ => 0) fun x _ => part_one hp (mem_to.mp hd).1, sm_zero, Int.mul_zero]
  | succ n ih =>
    intro m f hm hf hM
    by_cases h0 : m = 0
    · subst h0
      exact ih 0 f (by omega) hf hM
    · obtain ⟨Q, hQ, mQ0, hd⟩ := irr_some hp f.length f (Nat.le_refl _) hf.1 (by rw [hf.2.1]; omega)
      have hQ0 : Q ≠ [] := fun e => by have := hQ.2.1; rw [e] at this; simp at this
      have mQ := mon_mo mQ0 hQ0
      obtain ⟨e, he⟩ : ∃ e, Q.length - 1 = e := ⟨_, rfl⟩
      rw [he] at mQ
      have e1 : 1 ≤ e := by have := hQ.2.1; omega
      obtain ⟨g, hg, hc, hle⟩ := Mo.other hp mQ hf hd
      have h1 := ih (m - e) g (by omega) hg (by omega)
      have h2 : whole q M f = whole q M g + sm (fun d => d * sm (fun x => if mo q d x = Q then 1 else 0) (ir q d)) (to M) := by
        unfold whole
        rw [← sm_add]
        refine sm_congr fun d _ => ?_
        rw [← Int.mul_add, ← sm_add]
        congr 1
        refine sm_congr fun x hx => ?_
        exact part_step hp (mem_ir.mp hx).2 hQ mQ hg hc (by omega)
      have h3 : sm (fun d => d * sm (fun x => if mo q d x = Q then (1 : Int) else 0) (ir q d)) (to M) = e := by
        rw [sm_congr (H := fun d => if d = e then (d : Int) else 0) fun d _ => ?_, sm_single (to_nodup M) (a := e) (mem_to.mpr ⟨e1, by omega⟩) fun d => (d : Int)]
        by_cases hde : d = e
        · subst hde
          rw [if_pos rfl]
          have hcm : code q d Q ∈ ir q d := mem_ir.mpr ⟨code_lt mQ, by rw [mo_code hp mQ]; exact hQ⟩
          rw [sm_congr (H := fun x => if x = code q d Q then 1 else 0) fun x hx => ?_, sm_single (ir_nodup q d) hcm fun _ => 1, Int.mul_one]
          by_cases hxc : x = code q d Q
          · rw [if_pos hxc, hxc, if_pos (mo_code hp mQ)]
          · rw [if_neg hxc, if_neg fun e => hxc (mo_inj (mem_ir.mp hx).1 (code_lt mQ) (by rw [mo_code hp mQ]; exact e))]
        · rw [if_neg hde, sm_congr (H := fun _ => 0) fun x _ => if_neg fun e2 => hde ?_, sm_zero, Int.mul_zero]
          have h4 := (mo_is hp d x).2.1
          rw [e2, mQ.2.1] at h4
          omega
      rw [h2, h1, h3]
      omega

/-- How many monic ones of degree n one of degree j divides. -/
def cn (q n j : Nat) : Int := if j ≤ n then ((q ^ (n - j) : Nat) : Int) else 0

theorem cn_step {q n j : Nat} (hn : 1 ≤ n) : cn q n j - q * cn q (n - 1) j = if j = n then 1 else 0 := by
  unfold cn
  by_cases h : j = n
  · subst h
    rw [if_pos (Nat.le_refl _), if_neg (by omega), if_pos rfl]
    simp
  · by_cases h1 : j ≤ n
    · rw [if_pos h1, if_pos (by omega), if_neg h, show n - j = (n - 1 - j) + 1 by omega, Nat.pow_succ]
      rw [Int.natCast_mul, Int.mul_comm]
      omega
    · rw [if_neg h1, if_neg (by omega), if_neg h]
      simp

theorem all_parts {q M n : Nat} (hp : Prm q) (hn : n ≤ M) : sm (fun d => d * ((ir q d).length * sm (fun k => cn q n (k * d)) (to M))) (to M) = n * ((q ^ n : Nat) : Int) := by
  have h1 : sm (fun x => whole q M (mo q n x)) (List.range (q ^ n)) = n * ((q ^ n : Nat) : Int) := by
    rw [sm_congr (H := fun _ => (n : Int) * 1) fun x _ => by rw [Int.mul_one]; exact whole_deg hp n n _ (Nat.le_refl _) (mo_is hp n x) hn, sm_mul, sm_one, List.length_range]
  rw [← h1]
  unfold whole
  rw [sm_swap]
  refine sm_congr fun d hd => ?_
  rw [sm_mul, sm_swap]
  congr 1
  have h2 : ∀ x, sm (fun y => part q M d x (mo q n y)) (List.range (q ^ n)) = sm (fun k => cn q n (k * d)) (to M) := fun x => by
    unfold part
    rw [sm_swap]
    refine sm_congr fun k _ => ?_
    have hm := pws_mo hp (mo_is hp d x) k
    rw [sm_congr (H := fun y => ind (Di q (red q (pws (mo q d x) k)) (mo q n y))) fun y _ => ind_congr di_pws.symm]
    unfold cn
    by_cases h : k * d ≤ n
    · rw [if_pos h]
      exact multiples hp hm h
    · rw [if_neg h, sm_congr (H := fun _ => 0) fun y _ => ind_no fun hd => ?_, sm_zero]
      obtain ⟨_, _, _, hle⟩ := Mo.other hp hm (mo_is hp n y) hd
      omega
  refine Eq.symm ?_
  rw [sm_congr (H := fun _ => sm (fun k => cn q n (k * d)) (to M) * 1) fun x _ => by rw [Int.mul_one]; exact h2 x, sm_mul, sm_one, Int.mul_comm]

/-- GAUSS. -/
theorem gauss_many {q n : Nat} (hp : Prm q) (hn : 1 ≤ n) : sm (fun d => d * ((ir q d).length : Int)) (dv n) = ((q ^ n : Nat) : Int) := by
  have h1 := all_parts hp (Nat.le_refl n)
  have h2 := all_parts hp (M := n) (n := n - 1) (by omega)
  have h3 : sm (fun d => d * ((ir q d).length * sm (fun k => cn q n (k * d)) (to n))) (to n) - q * sm (fun d => d * ((ir q d).length * sm (fun k => cn q (n - 1) (k * d)) (to n))) (to n)
      = sm (fun d => if n % d = 0 then (d : Int) * (ir q d).length else 0) (to n) := by
    rw [← sm_mul, show ∀ a b : Int, a - b = a + (-1) * b by intros; omega, ← sm_mul, ← sm_add]
    refine sm_congr fun d hd => ?_
    have hd := mem_to.mp hd
    have h4 : sm (fun k => cn q n (k * d)) (to n) - q * sm (fun k => cn q (n - 1) (k * d)) (to n) = if n % d = 0 then 1 else 0 := by
      rw [← sm_mul, show ∀ a b : Int, a - b = a + (-1) * b by intros; omega, ← sm_mul, ← sm_add]
      by_cases hdv : n % d = 0
      · rw [if_pos hdv]
        obtain ⟨k0, hk0⟩ := Nat.dvd_of_mod_eq_zero hdv
        have hk1 : 1 ≤ k0 := Nat.pos_of_ne_zero fun e => by rw [e] at hk0; simp at hk0; omega
        have hk2 : k0 ≤ n := by
          have : 1 * k0 ≤ d * k0 := Nat.mul_le_mul_right k0 hd.1
          omega
        rw [sm_congr (H := fun k => if k = k0 then 1 else 0) fun k _ => ?_, sm_single (to_nodup n) (mem_to.mpr ⟨hk1, hk2⟩) fun _ => 1]
        have := cn_step (q := q) (j := k * d) hn
        rw [show cn q n (k * d) + -1 * (q * cn q (n - 1) (k * d)) = cn q n (k * d) - q * cn q (n - 1) (k * d) by omega, this]
        by_cases hk : k = k0
        · rw [if_pos hk, if_pos (by rw [hk, hk0, Nat.mul_comm])]
        · rw [if_neg hk, if_neg fun e => hk ?_]
          rw [hk0, Nat.mul_comm] at e
          exact Nat.eq_of_mul_eq_mul_left (by omega) e
      · rw [if_neg hdv, sm_congr (H := fun _ => 0) fun k _ => ?_, sm_zero]
        have := cn_step (q := q) (j := k * d) hn
        rw [show cn q n (k * d) + -1 * (q * cn q (n - 1) (k * d)) = cn q n (k * d) - q * cn q (n - 1) (k * d) by omega, this]
        exact if_neg fun e => hdv (by rw [← e]; exact Nat.mul_mod_left k d)
    rw [show ∀ a b N A B : Int, a * (N * A) + -1 * (b * (a * (N * B))) = a * N * (A - b * B) by intros; grind, h4]
    split
    · rw [Int.mul_one]
    · rw [Int.mul_zero]
  rw [h1, h2] at h3
  have h5 : (n : Int) * ((q ^ n : Nat) : Int) - q * (((n - 1 : Nat) : Int) * ((q ^ (n - 1) : Nat) : Int)) = ((q ^ n : Nat) : Int) := by
    obtain ⟨m, rfl⟩ : ∃ m, n = m + 1 := ⟨n - 1, by omega⟩
    rw [Nat.add_sub_cancel, Nat.pow_succ, Int.natCast_mul]
    generalize ((q ^ m : Nat) : Int) = t
    have : ((m + 1 : Nat) : Int) = (m : Int) + 1 := by omega
    rw [this]
    grind
  rw [h5] at h3
  rw [h3]
  have h6 : ∀ l : List Nat, sm (fun d => if n % d = 0 then (d : Int) * (ir q d).length else 0) l = sm (fun d => d * ((ir q d).length : Int)) (l.filter fun d => n % d == 0) := fun l => by
    induction l with
    | nil => rfl
    | cons d l ih =>
      rw [sm, ih]
      by_cases h : n % d = 0
      · rw [if_pos h, List.filter_cons_of_pos (by simpa using h)]; rfl
      · rw [if_neg h, List.filter_cons_of_neg (by simpa using h)]; omega
  rw [h6]
  refine congrArg (sm _) ?_
  unfold dv to
  congr 1
  rw [List.range'_eq_map_range]
  exact congrArg (fun f => List.map f (List.range n)) (funext fun x => Nat.add_comm x 1)

theorem sm_le {F H : Nat → Int} {l : List Nat} (h : ∀ d ∈ l, F d ≤ H d) : sm F l ≤ sm H l := by
  induction l with
  | nil => exact Int.le_refl _
  | cons d l ih =>
    have h1 := h d List.mem_cons_self
    have h2 := ih fun e he => h e (List.mem_cons_of_mem _ he)
    simp only [sm]
    omega

theorem sm_ge {F : Nat → Int} {l : List Nat} (h : ∀ d ∈ l, 0 ≤ F d) {a : Nat} (ha : a ∈ l) : F a ≤ sm F l := by
  induction l with
  | nil => cases ha
  | cons d l ih =>
    have h0 : 0 ≤ sm F l := by
      have := sm_le (F := fun _ => 0) (H := F) (l := l) fun e he => h e (List.mem_cons_of_mem _ he)
      rwa [sm_zero] at this
    have h1 := h d List.mem_cons_self
    simp only [sm]
    rcases List.mem_cons.mp ha with rfl | ha
    · omega
    · have := ih (fun e he => h e (List.mem_cons_of_mem _ he)) ha
      omega

theorem many_le {q n : Nat} (hp : Prm q) (hn : 1 ≤ n) : (n : Int) * (ir q n).length ≤ ((q ^ n : Nat) : Int) := by
  rw [← gauss_many hp hn]
  exact sm_ge (F := fun d => (d : Int) * (ir q d).length) (fun d _ => Int.mul_nonneg (by omega) (by omega)) ((mem_dv hn).mpr ⟨hn, Nat.dvd_refl n⟩)

theorem geo {q : Nat} (hq : 2 ≤ q) : ∀ m, sm (fun d => ((q ^ d : Nat) : Int)) (to m) < ((q ^ (m + 1) : Nat) : Int) := by
  intro m
  induction m with
  | zero =>
    have : 0 < q ^ (0 + 1) := Nat.pow_pos (by omega)
    simp only [to, List.range'_zero, sm]
    omega
  | succ m ih =>
    have e : to (m + 1) = to m ++ [m + 1] := by
      unfold to
      rw [List.range'_concat]
      simp [Nat.add_comm]
    rw [e, sm_append]
    simp only [sm]
    have h1 : q ^ (m + 1 + 1) = q ^ (m + 1) * q := Nat.pow_succ q (m + 1)
    have h2 : q ^ (m + 1) * 2 ≤ q ^ (m + 1) * q := Nat.mul_le_mul_left _ hq
    omega

/-- There is one of each degree. -/
theorem ir_some {q n : Nat} (hp : Prm q) (hn : 1 ≤ n) : 1 ≤ (ir q n).length := by
  have p2 := hp.1
  refine Decidable.byContradiction fun hc => ?_
  have h0 : (ir q n).length = 0 := by omega
  have h1 := gauss_many hp hn
  have h2 : sm (fun d => (d : Int) * (ir q d).length) (dv n) ≤ sm (fun d => if d < n then ((q ^ d : Nat) : Int) else 0) (dv n) := sm_le fun d hd => by
    have hd := (mem_dv hn).mp hd
    by_cases h : d < n
    · rw [if_pos h]
      exact many_le hp hd.1
    · have := Nat.le_of_dvd hn hd.2
      obtain rfl : d = n := by omega
      rw [if_neg (by omega), h0]
      simp
  have h3 : ∀ l : List Nat, sm (fun d => if d < n then ((q ^ d : Nat) : Int) else 0) (l.filter fun d => n % d == 0) ≤ sm (fun d => if d < n then ((q ^ d : Nat) : Int) else 0) l := fun l => by
    induction l with
    | nil => exact Int.le_refl _
    | cons d l ih =>
      have h4 : (0 : Int) ≤ if d < n then ((q ^ d : Nat) : Int) else 0 := by split <;> omega
      by_cases h : n % d = 0
      · rw [List.filter_cons_of_pos (by simpa using h), sm, sm]; omega
      · rw [List.filter_cons_of_neg (by simpa using h), sm]; omega
  have h4 : sm (fun d => if d < n then ((q ^ d : Nat) : Int) else 0) (dv n) ≤ sm (fun d => if d < n then ((q ^ d : Nat) : Int) else 0) (to n) := by
    have := h3 (to n)
    refine Int.le_trans (Int.le_of_eq ?_) this
    refine congrArg (sm _) ?_
    unfold dv to
    congr 1
    rw [List.range'_eq_map_range]
    exact congrArg (fun f => List.map f (List.range n)) (funext fun x => Nat.add_comm x 1)
  obtain ⟨m, rfl⟩ : ∃ m, n = m + 1 := ⟨n - 1, by omega⟩
  have h5 : sm (fun d => if d < m + 1 then ((q ^ d : Nat) : Int) else 0) (to (m + 1)) = sm (fun d => ((q ^ d : Nat) : Int)) (to m) := by
    have e : to (m + 1) = to m ++ [m + 1] := by
      unfold to
      rw [List.range'_concat]
      simp [Nat.add_comm]
    rw [e, sm_append]
    simp only [sm]
    rw [if_neg (by omega), sm_congr (H := fun d => ((q ^ d : Nat) : Int)) fun d hd => if_pos (by have := mem_to.mp hd; omega)]
    omega
  have h6 := geo (q := q) (by omega) m
  omega

/-- The first one. -/
theorem ir_first {q n : Nat} (hp : Prm q) (hn : 1 ≤ n) : ∃ x, x < q ^ n ∧ Irr q (mo q n x) ∧ ∀ y, y < x → ¬ Irr q (mo q n y) := by
  have h := ir_some hp hn
  have hne : ir q n ≠ [] := fun e => by rw [e] at h; simp at h
  obtain ⟨x, hx⟩ := List.exists_mem_of_ne_nil _ hne
  have hx := mem_ir.mp hx
  have : ∀ k x, x ≤ k → x < q ^ n → Irr q (mo q n x) → ∃ x, x < q ^ n ∧ Irr q (mo q n x) ∧ ∀ y, y < x → ¬ Irr q (mo q n y) := by
    intro k
    induction k with
    | zero => intro x h0 h1 h2; exact ⟨x, h1, h2, fun y hy => by omega⟩
    | succ k ih =>
      intro x h0 h1 h2
      by_cases hm : ∃ y, y < x ∧ Irr q (mo q n y)
      · obtain ⟨y, hy, hi⟩ := hm
        exact ih y (by omega) (by omega) hi
      · exact ⟨x, h1, h2, fun y hy hi => hm ⟨y, hy, hi⟩⟩
  exact this x x (Nat.le_refl _) hx.1 hx.2

end Go.Proofs.Ytimehaolaeedhaa.Po
