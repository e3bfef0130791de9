/-
  Two sums over blocks: any two blocks that are lost are told. No Go in sight.
-/
import Derived.Test.YtgdfmmdjnifjeaaGmx
namespace Go.Proofs.Ytgdfmmdjnifjeaa.Gf

theorem E.of_sum {a b : E} (h : a + b = 0) : a = b := by
  have := congrArg (a + ·) h
  simp only [← E.add_assoc, E.add_self, E.zero_add, E.add_zero] at this
  exact this.symm
theorem E.sum_of {a b : E} (h : a = b) : a + b = 0 := by rw [h, E.add_self]

/-- The powers of 2. -/
def tw (i : Nat) : E := ⟨gp 2 i, gp_lt i⟩
theorem tw_all : ∀ i < 10, ∀ k < 10, gp 2 i = gp 2 k → i = k := by decide +kernel
theorem tw_ne {i k : Nat} (hi : i < 10) (hk : k < 10) (h : i ≠ k) : tw i + tw k ≠ 0 := fun e => h (tw_all i hi k hk (congrArg E.v (E.of_sum e)))
theorem tw_pos {i : Nat} (hi : i < 10) : tw i ≠ 0 := by
  have : ∀ i < 10, gp 2 i ≠ 0 := by decide +kernel
  exact fun e => this i hi (congrArg E.v e)

/-- P; and Q, from a place on. -/
def pE : List E → E
  | [] => 0
  | b :: l => b + pE l
def qE : Nat → List E → E
  | _, [] => 0
  | i, b :: l => tw i * b + qE (i + 1) l

theorem pE_set : ∀ (l : List E) (i : Nat) (h : i < l.length) (v : E), pE (l.set i v) = pE l + (l[i] + v) := by
  intro l
  induction l with
  | nil => intro i h; cases h
  | cons b l ih =>
    intro i h v
    match i with
    | 0 =>
      rw [List.set_cons_zero, pE, pE, List.getElem_cons_zero, show b + pE l + (b + v) = b + b + (v + pE l) by ac_rfl, E.add_self, E.zero_add]
    | i + 1 =>
      rw [List.set_cons_succ, pE, pE, List.getElem_cons_succ, ih i (by simpa using h), E.add_assoc]
theorem qE_set : ∀ (l : List E) (j i : Nat) (h : i < l.length) (v : E), qE j (l.set i v) = qE j l + tw (j + i) * (l[i] + v) := by
  intro l
  induction l with
  | nil => intro j i h; cases h
  | cons b l ih =>
    intro j i h v
    match i with
    | 0 =>
      rw [List.set_cons_zero, qE, qE, List.getElem_cons_zero, show j + 0 = j from rfl, E.mul_add,
        show tw j * b + qE (j + 1) l + (tw j * b + tw j * v) = tw j * b + tw j * b + (tw j * v + qE (j + 1) l) by ac_rfl, E.add_self, E.zero_add]
    | i + 1 =>
      rw [List.set_cons_succ, qE, qE, List.getElem_cons_succ, ih (j + 1) i (by simpa using h), E.add_assoc, show j + 1 + i = j + (i + 1) by omega]

/-- Sums of blocks have the sums. -/
theorem pE_add : ∀ (l k : List E), l.length = k.length → pE (List.zipWith (· + ·) l k) = pE l + pE k := by
  intro l
  induction l with
  | nil => intro k h; match k, h with
           | [], _ => exact (E.add_zero 0).symm
  | cons b l ih =>
    intro k h
    match k, h with
    | c :: k, h =>
      rw [List.zipWith_cons_cons, pE, pE, pE, ih k (by simpa using h)]
      ac_rfl
theorem qE_add : ∀ (l k : List E) (j : Nat), l.length = k.length → qE j (List.zipWith (· + ·) l k) = qE j l + qE j k := by
  intro l
  induction l with
  | nil => intro k j h; match k, h with
           | [], _ => exact (E.add_zero 0).symm
  | cons b l ih =>
    intro k j h
    match k, h with
    | c :: k, h =>
      rw [List.zipWith_cons_cons, qE, qE, qE, ih k (j + 1) (by simpa using h), E.mul_add]
      ac_rfl

/-- Two errors, at two places, that neither sum tells: none. -/
theorem two_none {i k : Nat} (hi : i < 10) (hk : k < 10) (h : i ≠ k) {e f : E} (h1 : e + f = 0) (h2 : tw i * e + tw k * f = 0) : e = 0 ∧ f = 0 := by
  have he := E.of_sum h1
  subst he
  rw [← E.add_mul] at h2
  rcases E.none h2 with h3 | h3
  · exact absurd h3 (tw_ne hi hk h)
  · exact ⟨h3, h3⟩
/-- Whatever the sums lack, two blocks make it. -/
theorem two_some {i k : Nat} (hi : i < 10) (hk : k < 10) (h : i ≠ k) (p q : E) : ∃ e f : E, e + f = p ∧ tw i * e + tw k * f = q := by
  have hn := tw_ne hi hk h
  have hm := E.mul_inv hn
  have hx : (tw i + tw k) * ((tw i + tw k).inv * (q + tw k * p)) = q + tw k * p := by rw [← E.mul_assoc, hm, E.one_mul]
  revert hx
  generalize (tw i + tw k).inv * (q + tw k * p) = e
  intro hx
  refine ⟨e, p + e, ?_, ?_⟩
  · rw [show e + (p + e) = e + e + p by ac_rfl, E.add_self, E.zero_add]
  · rw [E.mul_add, show tw i * e + (tw k * p + tw k * e) = tw i * e + tw k * e + tw k * p by ac_rfl, ← E.add_mul, hx, E.add_assoc, E.add_self, E.add_zero]

/-- PATTERSON, GIBSON and KATZ: two blocks that are put anew so that both sums are as they were are as they were. -/
theorem pair_back {l : List E} {i k : Nat} (hl : l.length ≤ 10) (hi : i < l.length) (hk : k < l.length) (h : i ≠ k) {a b : E}
    (h1 : pE ((l.set i a).set k b) = pE l) (h2 : qE 0 ((l.set i a).set k b) = qE 0 l) : a = l[i] ∧ b = l[k] := by
  have hg : ((l.set i a)[k]'(by simpa using hk)) = l[k] := List.getElem_set_ne h _
  rw [pE_set _ k (by simpa using hk), pE_set l i hi, hg] at h1
  rw [qE_set _ 0 k (by simpa using hk), qE_set l 0 i hi, hg, Nat.zero_add, Nat.zero_add] at h2
  have c : ∀ {x y z : E}, x + y + z = x → y + z = 0 := fun {x y z} e => by
    have := congrArg (x + ·) e
    simpa only [← E.add_assoc, E.add_self, E.zero_add] using this
  have h3 := two_none (by omega) (by omega) h (c h1) (c h2)
  exact ⟨(E.of_sum h3.1).symm, (E.of_sum h3.2).symm⟩
/-- And one, by either sum. -/
theorem pair_one {l : List E} {i : Nat} (hi : i < l.length) {a : E} (h1 : pE (l.set i a) = pE l) : a = l[i] := by
  rw [pE_set l i hi] at h1
  have := congrArg (pE l + ·) h1
  rw [← E.add_assoc, E.add_self, E.zero_add] at this
  exact (E.of_sum this).symm
/-- Where one is wrong and another is lost, nothing that is put for that one has both sums. -/
theorem pair_tells {l : List E} {i k : Nat} (hl : l.length ≤ 10) (hi : i < l.length) (hk : k < l.length) (h : i ≠ k) {a b : E} (ha : a ≠ l[i])
    (h1 : pE ((l.set i a).set k b) = pE l) (h2 : qE 0 ((l.set i a).set k b) = qE 0 l) : False := ha (pair_back hl hi hk h h1 h2).1
/-- There is always something to put for two. -/
theorem pair_some {l : List E} {i k : Nat} (hl : l.length ≤ 10) (hi : i < l.length) (hk : k < l.length) (h : i ≠ k) (p q : E) :
    ∃ a b : E, pE ((l.set i a).set k b) = p ∧ qE 0 ((l.set i a).set k b) = q := by
  obtain ⟨e, f, h1, h2⟩ := two_some (show i < 10 by omega) (show k < 10 by omega) h (pE l + p) (qE 0 l + q)
  refine ⟨l[i] + e, l[k] + f, ?_, ?_⟩
  · have hg : ((l.set i (l[i] + e))[k]'(by simpa using hk)) = l[k] := List.getElem_set_ne h _
    rw [pE_set _ k (by simpa using hk), pE_set l i hi, hg, ← E.add_assoc (l[i]), E.add_self, E.zero_add, ← E.add_assoc (l[k]), E.add_self, E.zero_add, E.add_assoc, h1, ← E.add_assoc, E.add_self, E.zero_add]
  · have hg : ((l.set i (l[i] + e))[k]'(by simpa using hk)) = l[k] := List.getElem_set_ne h _
    rw [qE_set _ 0 k (by simpa using hk), qE_set l 0 i hi, hg, ← E.add_assoc (l[i]), E.add_self, E.zero_add, ← E.add_assoc (l[k]), E.add_self, E.zero_add, E.add_assoc, Nat.zero_add, Nat.zero_add, h2, ← E.add_assoc, E.add_self, E.zero_add]

end Go.Proofs.Ytgdfmmdjnifjeaa.Gf
