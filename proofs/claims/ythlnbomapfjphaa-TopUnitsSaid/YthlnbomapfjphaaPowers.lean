/-
  Slices of powers as memory holds them; Go's library at them: IndexFunc, ContainsFunc, Equal.
-/
import Derived.Test.YthlnbomapfjphaaGnu
namespace Go.Proofs.Ythlnbomapfjphaa
open Go.RowKit
open Pr

/-- The power at place i; (0, 0) behind the end. -/
def nthP (l : List (Int × Nat)) (i : Nat) : Int × Nat := l.getD i (0, 0)
theorem nthP_eq {l : List (Int × Nat)} {i : Nat} (h : i < l.length) : nthP l i = l[i] := by
  unfold nthP; rw [List.getD_eq_getElem?_getD, List.getElem?_eq_getElem h]; rfl
theorem nthP_mem {l : List (Int × Nat)} {i : Nat} (h : i < l.length) : nthP l i ∈ l := by rw [nthP_eq h]; exact List.getElem_mem h

/-- The slice (a, cap) reads as l, in the world w. -/
def ReadsP (w : World) (a : Option Addr) (cap : Nat) (l : List (Int × Nat)) : Prop :=
  (a = none ∧ cap = 0 ∧ l = []) ∨ ∃ g, a = some ⟨g, 0, none⟩ ∧ ∀ i, i < l.length → w.cell? ⟨g, i * 2, none⟩ = some (.int .i64 (nthP l i).1) ∧ w.cell? ⟨g, i * 2 + 1, none⟩ = some (.int .i64 ((nthP l i).2 : Nat))

theorem ReadsP.ex {w w2 : World} {a : Option Addr} {cap : Nat} {l : List (Int × Nat)} (h : ReadsP w a cap l) (hx : Ex w w2) : ReadsP w2 a cap l := by
  rcases h with h | ⟨g, h1, h2⟩
  · exact .inl h
  · exact .inr ⟨g, h1, fun i hi => ⟨hx.cell (h2 i hi).1, hx.cell (h2 i hi).2⟩⟩

theorem pcs_at : ∀ (l : List (Int × Nat)) (i : Nat), i < l.length → (pcs l)[i * 2]? = some (.int .i64 (nthP l i).1) ∧ (pcs l)[i * 2 + 1]? = some (.int .i64 ((nthP l i).2 : Nat)) := by
  intro l
  induction l with
  | nil => intro i h; cases h
  | cons x l ih =>
    intro i h
    have e : pcs (x :: l) = .int .i64 x.1 :: .int .i64 (x.2 : Nat) :: pcs l := rfl
    rw [e]
    match i with
    | 0 => exact ⟨rfl, rfl⟩
    | i + 1 =>
      have h2 := ih i (by simpa using h)
      rw [show (i + 1) * 2 = i * 2 + 1 + 1 by omega, show i * 2 + 1 + 1 + 1 = (i * 2 + 1) + 1 + 1 by omega]
      simp only [List.getElem?_cons_succ]
      exact h2

theorem pcs_length (l : List (Int × Nat)) : (pcs l).length = l.length * 2 := by
  induction l with
  | nil => rfl
  | cons x l ih => show (pcs l).length + 1 + 1 = _; rw [ih, List.length_cons]; omega

theorem pcs_append (l m : List (Int × Nat)) : pcs (l ++ m) = pcs l ++ pcs m := by simp [pcs]

theorem pcs_one (l : List (Int × Nat)) : ∀ u ∈ pcs l, u.oneCell' = true := by
  intro u hu
  simp only [pcs, List.mem_flatMap] at hu
  obtain ⟨x, _, hx⟩ := hu
  exact two_oneCell _ _ _ u hx

theorem ReadsP.own {w : World} {base : Nat} {e : TypeId} {v : Value} {l : List (Int × Nat)} (h : w.ownsRow base e 2 v l.length (pcs l)) : ∃ a cap, v = .slice a l.length cap ∧ ReadsP w a cap l := by
  rcases h.2 with ⟨rfl, hn⟩ | ⟨g, cap, cur, rfl, _, _, _, _, _, _⟩
  · refine ⟨none, 0, by rw [hn], .inl ⟨rfl, rfl, List.length_eq_zero_iff.mp hn⟩⟩
  · refine ⟨_, cap, rfl, .inr ⟨g, rfl, fun i hi => ?_⟩⟩
    have hp := pcs_at l i hi
    exact ⟨(h.cellAt (i * 2) (by omega)).trans hp.1, (h.cellAt (i * 2 + 1) (by omega)).trans hp.2⟩

theorem ReadsP.cells {w : World} {g : Nat} {l : List (Int × Nat)} (h : ∀ i, i < l.length → w.cell? ⟨g, i * 2, none⟩ = some (.int .i64 (nthP l i).1) ∧ w.cell? ⟨g, i * 2 + 1, none⟩ = some (.int .i64 ((nthP l i).2 : Nat))) :
    ∀ j u, (pcs l)[j]? = some u → w.cell? ((⟨g, 0, none⟩ : Addr).add j) = some u := by
  intro j u hj
  have e : (⟨g, 0, none⟩ : Addr).add j = ⟨g, j, none⟩ := by unfold Addr.add; split <;> simp_all
  have hjl : j < l.length * 2 := by rw [← pcs_length]; exact (List.getElem?_eq_some_iff.mp hj).1
  rw [e]
  have h1 := h (j / 2) (by omega)
  have h2 := pcs_at l (j / 2) (by omega)
  rcases Nat.mod_two_eq_zero_or_one j with hm | hm
  · have e2 : j / 2 * 2 = j := by omega
    rw [e2] at h1 h2
    rw [h1.1, ← h2.1, hj]
  · have e2 : j / 2 * 2 + 1 = j := by omega
    rw [e2] at h1 h2
    rw [h1.2, ← h2.2, hj]

/-- A power as a value. -/
def pw (x : Int × Nat) : Value := .agg #[.int .i64 x.1, .int .i64 (x.2 : Nat)]

/-- A function value (f, over what it has captured) that says p of each of xs, in whatever world has grown out of w. -/
def SaysP (P : Program) (f : FuncId) (cs : Array Value) (p : Int × Nat → Bool) (xs : List (Int × Nat)) (w : World) : Prop :=
  ∀ x ∈ xs, ∀ w2, Ex w w2 → Calls P f (#[.agg #[.int .i64 x.1, .int .i64 (x.2 : Nat)]] ++ cs) w2 (Says (.bool (p x)) w2)

/-- The first place where p says yes; -1 if there is none. -/
def placeP (p : Int × Nat → Bool) (xs : List (Int × Nat)) : Int := match xs.findIdx? p with | some i => (i : Int) | none => -1

theorem placeP_at {p : Int × Nat → Bool} {xs : List (Int × Nat)} {k : Nat} (hk : k < xs.length) (hp : p (nthP xs k) = true) (hn : ∀ j, j < k → p (nthP xs j) = false) : placeP p xs = (k : Int) := by
  have : xs.findIdx? p = some k := by
    rw [List.findIdx?_eq_some_iff_getElem]
    refine ⟨hk, ?_, fun j hj => ?_⟩
    · rw [nthP_eq hk] at hp; exact hp
    · have := hn j hj
      rw [nthP_eq (by omega)] at this
      simpa using this
  unfold placeP; rw [this]

theorem placeP_none {p : Int × Nat → Bool} {xs : List (Int × Nat)} (hn : ∀ j, j < xs.length → p (nthP xs j) = false) : placeP p xs = -1 := by
  have : xs.findIdx? p = none := by
    rw [List.findIdx?_eq_none_iff]
    intro x hx
    obtain ⟨j, hj, rfl⟩ := List.getElem_of_mem hx
    have := hn j hj
    rw [nthP_eq hj] at this
    exact this
  unfold placeP; rw [this]

theorem placeP_any (p : Int × Nat → Bool) (xs : List (Int × Nat)) : decide (0 ≤ placeP p xs) = xs.any p := by
  unfold placeP
  cases h : xs.findIdx? p with
  | none =>
    rw [List.findIdx?_eq_none_iff] at h
    have : xs.any p = false := by rw [List.any_eq_false]; intro x hx; simpa using h x hx
    rw [this]; rfl
  | some i =>
    have := List.findIdx?_eq_some_iff_getElem.mp h
    obtain ⟨hi, hp, _⟩ := this
    have h2 : xs.any p = true := List.any_eq_true.mpr ⟨_, List.getElem_mem hi, hp⟩
    rw [h2]; simp



theorem factor_reads (n : Int) (w : World) (h1 : 1 ≤ n) (h2 : n ≤ 1000000) :
    Calls Try.prog 71 #[.int .i64 n] w (fun e w2 => ∃ (a : Option Addr) (cap : Nat) (l : List (Int × Nat)), e = .returned (.tuple #[.slice a l.length cap, .int .i64 0]) ∧ Hid (Fac n l) ∧ Hid (l.length ≤ 1000000) ∧ Hid (ReadsP w2 a cap l) ∧ Ex w w2) := by
  refine (factor_ok n w h1 h2).mono ?_
  rintro e w2 ⟨v, rfl, l, hF, hl, hown, hx⟩
  obtain ⟨a, cap, rfl, hr⟩ := ReadsP.own hown
  exact ⟨a, cap, l, rfl, Lib.hid hF, Lib.hid hl, Lib.hid hr, hx⟩

theorem pow_gt {q : Int} (h : 2 ≤ q) (k : Nat) : (k : Int) + 1 ≤ q ^ k := by
  induction k with
  | zero => simp
  | succ k ih =>
    rw [Int.pow_succ]
    have : q ^ k * 2 ≤ q ^ k * q := Int.mul_le_mul_of_nonneg_left h (by omega)
    omega

theorem fac_k {n : Int} {l : List (Int × Nat)} (h : Fac n l) (hn : 1 ≤ n) {p : Int} {k : Nat} (hm : (p, k) ∈ l) : (k : Int) ≤ n ∧ 2 ≤ p ∧ p ≤ n := by
  induction l generalizing n with
  | nil => cases hm
  | cons x l ih =>
    obtain ⟨q, j⟩ := x
    obtain ⟨hq, hj, m, hm1, hn', hnd, hF⟩ := h
    have hp := pow_gt hq.1 j
    have h1 : q ^ j * 1 ≤ q ^ j * m := Int.mul_le_mul_of_nonneg_left hm1 (by omega)
    have h2 : 1 * m ≤ q ^ j * m := Int.mul_le_mul_of_nonneg_right (by omega) (by omega)
    rcases List.mem_cons.mp hm with h3 | h3
    · obtain ⟨rfl, rfl⟩ := Prod.mk.inj h3
      have := hq.le hn
      have := hq.1
      omega
    · have := ih hF hm1 h3
      omega

end Go.Proofs.Ythlnbomapfjphaa
