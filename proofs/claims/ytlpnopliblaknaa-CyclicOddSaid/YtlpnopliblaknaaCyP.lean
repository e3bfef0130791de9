/-
  Texts of 0 and 1 with their checks: what turning bits does.
-/
import Derived.Test.YtlpnopliblaknaaCyT
import Derived.Test.YtlpnopliblaknaaLnBnd
namespace Go.Proofs.Ytlpnopliblaknaa
open Ln Cy

/-- A row of n bits that has b from place t on. -/
def ext (n t : Nat) (b : List Bool) : List Bool := List.replicate t false ++ b ++ List.replicate (n - t - b.length) false
theorem ext_length {n t : Nat} {b : List Bool} (h : t + b.length ≤ n) : (ext n t b).length = n := by simp [ext]; omega
theorem ext_get {n t : Nat} {b : List Bool} {j : Nat} (h : t + b.length ≤ n) (hj : j < n) : (ext n t b)[j]'(by rw [ext_length h]; exact hj) = (decide (t ≤ j ∧ j < t + b.length) && b.getD (j - t) false) := by
  unfold ext
  by_cases h1 : j < t
  · rw [decide_eq_false (by omega), List.getElem_append_left (by simp; omega), List.getElem_append_left (by simp; omega), List.getElem_replicate]
    rfl
  · by_cases h2 : j < t + b.length
    · rw [decide_eq_true (by omega), List.getElem_append_left (by simp; omega), List.getElem_append_right (by simp; omega), bits_get (by omega)]
      simp
    · rw [decide_eq_false (by omega), List.getElem_append_right (by simp; omega), List.getElem_replicate]
      rfl
theorem tn_zip {l b : List Bool} {t : Nat} (h : t + b.length ≤ l.length) : tn l b t = List.zipWith (fun b c => (b ^^ c)) l (ext l.length t b) := by
  apply List.ext_getElem
  · rw [tn_length, List.length_zipWith, ext_length h, Nat.min_self]
  · intro j h1 h2
    rw [tn_length] at h1
    rw [List.getElem_zipWith, ext_get h h1]
    show ((List.range l.length).map (tnF l b t b.length))[j]'(by simpa using h1) = _
    rw [List.getElem_map, List.getElem_range]
    unfold tnF
    rw [bits_get h1]
theorem lf_zip {b l k : List Bool} (h : IsBy b) (hl : l.length = k.length) : lf b (List.zipWith (fun b c => (b ^^ c)) l k) = lf b l ^^^ lf b k := by
  unfold lf
  have hp : 0 < 2 ^ dg' b := Nat.pow_pos (by decide)
  have := rs_xor h.top l k (r := 0) (q := 0) hl hp hp
  rwa [Nat.xor_self] at this
/-- A burst is told. -/
theorem lf_burst {b l e : List Bool} {t : Nat} (h : IsBy b) (h0 : lf b l = 0) (ht : t + e.length ≤ l.length) (he : e.length ≤ dg' b) (h1 : true ∈ e) : lf b (tn l e t) ≠ 0 := by
  rw [tn_zip ht, lf_zip h (ext_length ht).symm, h0, Nat.zero_xor]
  exact burst h.top h.odd t _ e he h1

theorem zip_append {l1 l2 k1 k2 : List Bool} (h : l1.length = k1.length) : List.zipWith (fun b c => (b ^^ c)) (l1 ++ l2) (k1 ++ k2) = List.zipWith (fun b c => (b ^^ c)) l1 k1 ++ List.zipWith (fun b c => (b ^^ c)) l2 k2 := List.zipWith_append h
theorem ext_self (b : List Bool) : ext b.length 0 b = b := by simp [ext]
theorem tn_same {l b : List Bool} (h : b.length = l.length) : tn l b 0 = List.zipWith (fun b c => (b ^^ c)) l b := by
  rw [tn_zip (by omega), ← h, ext_self]
/-- Behind a row nothing but the check leaves nothing. -/
theorem chk_one {b l c : List Bool} (h : IsBy b) (hc : c.length = dg' b) (h0 : lf b (l ++ c) = 0) : c = chk b l := by
  have ht := h.top
  have hp : 0 < 2 ^ dg' b := Nat.pow_pos (by decide)
  unfold lf at h0
  rw [rs_append] at h0
  have := (rs_check ht (rs_lt ht l hp) c hc).mp h0
  unfold chk lf
  rw [rs_append]
  exact this
/-- Two of one length, together. -/
theorem chk_sum {b l k : List Bool} (h : IsBy b) (hl : l.length = k.length) : tn l k 0 ++ chk b (tn l k 0) = tn (l ++ chk b l) (k ++ chk b k) 0 := by
  have hc : (chk b l).length = (chk b k).length := by rw [chk_length, chk_length]
  rw [tn_same (l := l ++ chk b l) (b := k ++ chk b k) (by rw [List.length_append, List.length_append, hl, hc]), zip_append hl, tn_same hl.symm]
  congr 1
  refine (chk_one h (by rw [List.length_zipWith, chk_length, chk_length, Nat.min_self]) ?_).symm
  rw [← zip_append hl, lf_zip h (by rw [List.length_append, List.length_append, hl, hc]), h.none, h.none, Nat.xor_self]

-- Ones.
theorem on_vl : ∀ (l : List Bool) (n r : Nat), r < 2 ^ n → on (n + l.length) (vl r l) = on n r + l.count true := by
  intro l
  induction l with
  | nil => intro n r _; rfl
  | cons b l ih =>
    intro n r hr
    have hlt : 2 * r + b.toNat < 2 ^ (n + 1) := by
      have := Bool.toNat_le b
      rw [Nat.pow_succ]; omega
    have h1 := ih (n + 1) (2 * r + b.toNat) hlt
    rw [vl_cons, List.length_cons, show n + (l.length + 1) = n + 1 + l.length by omega, h1, on, List.count_cons]
    have e1 : (2 * r + b.toNat) % 2 = b.toNat := by have := Bool.toNat_le b; omega
    have e2 : (2 * r + b.toNat) / 2 = r := by have := Bool.toNat_le b; omega
    rw [e1, e2]
    cases b <;> simp <;> omega
theorem IsBy.ones {b : List Bool} (h : IsBy b) : on (dg' b + 1) (gn b) = b.count true := by
  have := on_vl b 0 0 (by decide)
  rw [Nat.zero_add] at this
  have hl := h.lo
  unfold gn dg'
  rw [show b.length - 1 + 1 = b.length by omega, this, show on 0 0 = 0 from rfl, Nat.zero_add]
theorem lf_odd {b l : List Bool} (h : IsBy b) (he : b.count true % 2 = 0) (h0 : lf b l = 0) : l.count true % 2 = 0 := by
  have hp : 0 < 2 ^ dg' b := Nat.pow_pos (by decide)
  have := rs_odd (d := dg' b) (g := gn b) (by rw [h.ones]; exact he) h.top l (r := 0) hp
  unfold lf at h0
  rw [h0, on_zero, Nat.zero_add] at this
  omega
theorem count_zip : ∀ (l k : List Bool), l.length = k.length → (List.zipWith (fun b c => (b ^^ c)) l k).count true % 2 = (l.count true + k.count true) % 2 := by
  intro l
  induction l with
  | nil => intro k h; cases k with
    | nil => rfl
    | cons c k => cases h
  | cons b l ih => intro k h; cases k with
    | nil => cases h
    | cons c k =>
      have h1 := ih k (by simpa using h)
      rw [List.zipWith_cons_cons, List.count_cons, List.count_cons, List.count_cons]
      cases b <;> cases c <;> simp <;> omega
theorem count_ext (n t : Nat) (b : List Bool) : (ext n t b).count true = b.count true := by
  unfold ext
  rw [List.count_append, List.count_append, List.count_replicate, List.count_replicate]
  simp
/-- An odd number of bits is told. -/
theorem lf_flip {b l e : List Bool} (h : IsBy b) (he : b.count true % 2 = 0) (h0 : lf b l = 0) (hl : e.length ≤ l.length) (h1 : e.count true % 2 = 1) : lf b (tn l e 0) ≠ 0 := by
  intro h2
  have h3 := lf_odd h he h2
  have h4 := lf_odd h he h0
  rw [tn_zip (by omega), count_zip _ _ (ext_length (by omega)).symm, count_ext] at h3
  omega

end Go.Proofs.Ytlpnopliblaknaa
