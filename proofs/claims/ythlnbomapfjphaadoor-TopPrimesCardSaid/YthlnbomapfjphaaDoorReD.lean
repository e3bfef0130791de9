/-
  What reed.Mend and reed.Check answer, as structures of contracts.
-/
import Derived.Test.YthlnbomapfjphaaDoorReFar
import Derived.Test.YthlnbomapfjphaaDoorCels
namespace Go.Proofs.YthlnbomapfjphaaDoor
open Go.RowKit
open Gf

/-- How many cells are there. -/
def cnt (H : Nat → Bool) (n : Nat) : Nat := ((List.range n).filter H).length
theorem cnt_succ (H : Nat → Bool) (n : Nat) : cnt H (n + 1) = if H n = true then cnt H n + 1 else cnt H n := by
  unfold cnt; rw [List.range_succ, List.filter_append]
  by_cases h : H n = true <;> simp [h]
theorem cnt_le (H : Nat → Bool) (n : Nat) : cnt H n ≤ n := by
  have := List.length_filter_le H (List.range n)
  rw [List.length_range] at this
  exact this
/-- What Check says. -/
def meE (n : Nat) (k : Int) : Int := if 20 < n then 2 else if k < 1 ∨ (n : Int) < k then 1 else 0
theorem meE_zero {n : Nat} {k : Int} : meE n k = 0 ↔ n ≤ 20 ∧ 1 ≤ k ∧ k ≤ (n : Int) := by
  unfold meE
  by_cases h : 20 < n
  · rw [if_pos h]; exact ⟨fun h => (by cases h), fun h => by omega⟩
  · rw [if_neg h]
    by_cases h2 : k < 1 ∨ (n : Int) < k
    · rw [if_pos h2]; exact ⟨fun h => (by cases h), fun h => by omega⟩
    · rw [if_neg h2]; exact ⟨fun _ => by omega, fun _ => rfl⟩

theorem ReadsF.reads {w : World} {a : Option Addr} {n : Nat} {F : Nat → E} (h : ReadsF w a n F) : Reads w .u8 a (bl F n) := by
  obtain ⟨b, off, h1, h2⟩ := h
  exact .inr ⟨b, off, h1, fun k hk => by rw [bl_length] at hk; rw [h2 k hk, bl_nth hk]⟩

structure MendC : Prop where
  no : ∀ {n : Nat} {H : Nat → Bool} {B : Nat → Nat} {a : Option Addr} {ca : Nat} {k : Int} {w : World}, n ≤ ca → ca ≤ 9223372036854775807 → ReadsC w a n H B → (∀ i, B i < 256) → (Lit.int .i64 k).wf = true → meE n k ≠ 0 → Calls Tryd.prog 47 #[.slice a n ca, .int .i64 k] w (Nil2 (meE n k) w)
  few : ∀ {n k : Nat} {H : Nat → Bool} {B : Nat → Nat} {a : Option Addr} {ca : Nat} {w : World}, n ≤ ca → ca ≤ 9223372036854775807 → ReadsC w a n H B → (∀ i, B i < 256) → n ≤ 20 → 1 ≤ k → k ≤ n → cnt H n < k → Calls Tryd.prog 47 #[.slice a n ca, .int .i64 (k : Int)] w (Nil2 9 w)
  sum : ∀ {n k : Nat} {H : Nat → Bool} {B : Nat → Nat} {a : Option Addr} {ca : Nat} {w : World}, n ≤ ca → ca ≤ 9223372036854775807 → ReadsC w a n H B → (∀ i, B i < 256) → n ≤ 20 → 1 ≤ k → k ≤ n → k ≤ cnt H n → (∀ F : Nat → E, ∃ i, i < n ∧ H i = true ∧ B i ≠ (cr k F i).v) → Calls Tryd.prog 47 #[.slice a n ca, .int .i64 (k : Int)] w (Nil2 8 w)
  ok : ∀ {n k : Nat} {H : Nat → Bool} {B : Nat → Nat} {a : Option Addr} {ca : Nat} {w : World} {F : Nat → E}, n ≤ ca → ca ≤ 9223372036854775807 → ReadsC w a n H B → (∀ i, B i < 256) → n ≤ 20 → 1 ≤ k → k ≤ n → k ≤ cnt H n → (∀ i, i < n → H i = true → B i = (cr k F i).v) → Calls Tryd.prog 47 #[.slice a n ca, .int .i64 (k : Int)] w (Vec2 n (cr k F) w)

structure ReCheckC : Prop where
  all : ∀ {n : Nat} {H : Nat → Bool} {B : Nat → Nat} {a : Option Addr} {ca : Nat} {k : Int} {w : World}, n ≤ ca → ca ≤ 9223372036854775807 → ReadsC w a n H B → (Lit.int .i64 k).wf = true → Calls Tryd.prog 59 #[.slice a n ca, .int .i64 k] w (Says (.int .i64 (meE n k)) w)

end Go.Proofs.YthlnbomapfjphaaDoor
