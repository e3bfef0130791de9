/-
  What package cyclic answers, as structures of contracts; wholekeep.bitsOf, byOf, turn.
-/
import Derived.Test.YtlpnopliblaknaaDoorTx
import Derived.Test.YtlpnopliblaknaaDoorCyMath
import Derived.Test.YtlpnopliblaknaaDoorGro
import Derived.Test.YtlpnopliblaknaaDoorConvTx
namespace Go.Proofs.YtlpnopliblaknaaDoor
open Go.RowKit
open Ln Cy

/-- A generator, as bits. -/
structure IsBy (b : List Bool) : Prop where
  lo : 2 ≤ b.length
  hi : b.length ≤ 17
  head : b.head? = some true
  last : b.getLast? = some true
/-- Its degree, its number. -/
def dg' (b : List Bool) : Nat := b.length - 1
def gn (b : List Bool) : Nat := vl 0 b
/-- What a row leaves. -/
def lf (b l : List Bool) : Nat := rs (dg' b) (gn b) 0 l
/-- The check. -/
def chk (b l : List Bool) : List Bool := ck (dg' b) (lf b (l ++ List.replicate (dg' b) false))
theorem chk_length (b l : List Bool) : (chk b l).length = dg' b := ck_length _ _
theorem vl_top : ∀ (l : List Bool), Top l.length (vl 1 l) := by
  intro l
  have h1 := vl_lt l 1
  have : ∀ (l : List Bool) (r : Nat), 2 ^ l.length * r ≤ vl r l := by
    intro l
    induction l with
    | nil => intro r; rw [List.length_nil, Nat.pow_zero, Nat.one_mul]; exact Nat.le_refl _
    | cons b l ih =>
      intro r
      rw [vl_cons, List.length_cons, Nat.pow_succ, Nat.mul_assoc]
      exact Nat.le_trans (Nat.mul_le_mul_left _ (by omega)) (ih (2 * r + b.toNat))
  have h2 := this l 1
  rw [Nat.mul_one] at h2
  exact ⟨h2, by rw [Nat.pow_succ]; exact h1⟩
theorem IsBy.top {b : List Bool} (h : IsBy b) : Top (dg' b) (gn b) := by
  cases b with
  | nil => have := h.lo; simp at this
  | cons a b =>
    have := h.head
    rw [List.head?_cons, Option.some.injEq] at this
    subst this
    exact vl_top b
theorem vl_last : ∀ (l : List Bool) (r : Nat), l.getLast? = some true → vl r l % 2 = 1 := by
  intro l r h
  obtain ⟨k, rfl⟩ := List.getLast?_eq_some_iff.mp h
  rw [vl_append]
  show (2 * vl r k + 1) % 2 = 1
  omega
theorem IsBy.odd {b : List Bool} (h : IsBy b) : gn b % 2 = 1 := vl_last b 0 h.last
theorem IsBy.deg {b : List Bool} (h : IsBy b) : 1 ≤ dg' b ∧ dg' b ≤ 16 := by
  have := h.lo
  have := h.hi
  unfold dg'
  omega
/-- A row with its check leaves nothing. -/
theorem IsBy.none {b : List Bool} (h : IsBy b) (l : List Bool) : lf b (l ++ chk b l) = 0 := by
  have ht := h.top
  have hp : 0 < 2 ^ dg' b := Nat.pow_pos (by decide)
  unfold lf
  rw [rs_append]
  refine (rs_check ht (rs_lt ht l hp) (chk b l) (chk_length b l)).mpr ?_
  unfold chk lf
  rw [rs_append]

structure CyPutC : Prop where
  ok : ∀ {l b : List Bool} {w : World}, l.length ≤ 200 → IsBy b → Calls Tryd.prog 4 #[.string (tx l), .string (tx b)] w (Says (.tuple #[.string (tx (l ++ chk b l)), .int .i64 0]) w)

structure CyGetC : Prop where
  ok : ∀ {l b : List Bool} {w : World}, l.length ≤ 216 → IsBy b → dg' b ≤ l.length → lf b l = 0 → Calls Tryd.prog 5 #[.string (tx l), .string (tx b)] w (Says (.tuple #[.string (tx (l.take (l.length - dg' b))), .int .i64 0]) w)
  sum : ∀ {l b : List Bool} {w : World}, l.length ≤ 216 → IsBy b → dg' b ≤ l.length → lf b l ≠ 0 → Calls Tryd.prog 5 #[.string (tx l), .string (tx b)] w (Says (.tuple #[.string (ByteArray.mk #[]), .int .i64 8]) w)

/-- Of numbers, the odd ones. -/
def fb (z : List Int) (m : Nat) : List Bool := (z.take m).map fun n => n % 2 == 1
theorem fb_length (z : List Int) (m : Nat) : (fb z m).length = min m z.length := by simp [fb]
theorem fb_snoc {z : List Int} {i : Nat} (h : i < z.length) : fb z (i + 1) = fb z i ++ [nth z i % 2 == 1] := by
  unfold fb
  rw [List.take_add_one, List.map_append, List.getElem?_eq_getElem h, nth_eq h]
  rfl
theorem fb_all {z : List Int} {m : Nat} (h : z.length ≤ m) : fb z m = fb z z.length := by unfold fb; rw [List.take_of_length_le h, List.take_of_length_le (Nat.le_refl _)]


end Go.Proofs.YtlpnopliblaknaaDoor
