/-
  Several texts in one:
  - The small helpers of the statements: Rest, Within, small.
  - Package prime, walked: smallestFactor, isPrime, Is, Next; and the document's Prime by sixes.
  - The walks over package euclid: what Gcd, Lcm, Steps, Bezout answer.
  - Package rest, walked: isModulus, mod, power, Of, Pow, Inverse.
  - The document's powers.
  - Factor, walked.
-/
import Derived.Test.YtgdfmmdjnifjeaaGma
import Derived.Test.YtgdfmmdjnifjeaaGro
import Derived.Test.YtgdfmmdjnifjeaaChecked
import Derived.Laws.OwnMore
namespace Go.Proofs.Ytgdfmmdjnifjeaa
open Go.RowKit
open Eu

set_option maxHeartbeats 400000 in
theorem rest_any (n m : Int) (w : World) (hm : 0 < m) (hm' : m ≤ 4611686018427387904) :
    Calls Try.prog 27 #[.int .i64 n, .int .i64 m] w (fun e w' => e = .returned (.int .i64 (n % m)) ∧ w = w') := by
  have h3 := Int.tmod_lt_of_pos n hm
  have h4 := Int.lt_tmod_of_pos n hm
  by_cases h : n.tmod m < 0
  · have e1 : n.tmod m + m = n % m := by
      have := tmod_mod n m
      rw [Int.emod_eq_of_lt (by omega) (by omega)] at this
      exact this
    have H := Lib.hid e1
    clear e1
    go_enter Try.func27, Try.ntmps27
    go_wp2
    go_ret
    exact ⟨by simp [H.out], rfl⟩
  · have e1 : n.tmod m = n % m := by
      have := tmod_mod' n m
      rw [Int.emod_eq_of_lt (by omega) (by omega)] at this
      exact this
    have H := Lib.hid e1
    clear e1
    go_enter Try.func27, Try.ntmps27
    go_wp2
    go_ret
    exact ⟨by simp [H.out], rfl⟩

set_option maxHeartbeats 400000 in
theorem within_any (n m : Int) (w : World) (hm : 0 < m) (hm' : m ≤ 4611686018427387904) :
    Calls Try.prog 13 #[.int .i64 n, .int .i64 m] w (fun e w' => e = .returned (.int .i64 (n % m)) ∧ w = w') := by
  have h1 := Int.emod_nonneg n (b := m) (by omega)
  have h2 := Int.emod_lt_of_pos n hm
  go_enter Try.func13, Try.ntmps13
  go_wp2_with (
    (go_at_call 27; refine (rest_any _ _ _ (by omega) (by omega)).mono ?_; rintro e w' ⟨rfl, rfl⟩))
  go_ret
  exact ⟨rfl, rfl⟩

end Go.Proofs.Ytgdfmmdjnifjeaa

namespace Go.Proofs.Ytgdfmmdjnifjeaa
open Go.RowKit
open Pr

theorem sq_le {d : Int} (h : 1001 ≤ d) : 1002001 ≤ d * d := by
  have h1 : 1001 * d ≤ d * d := Int.mul_le_mul_of_nonneg_right h (by omega)
  omega

theorem tmod_dvd {n d : Int} (h : n.tmod d = 0) : d ∣ n := Int.dvd_of_tmod_eq_zero h
theorem emod_dvd {n d : Int} (h : n % d = 0) : d ∣ n := Int.dvd_of_emod_eq_zero h

end Go.Proofs.Ytgdfmmdjnifjeaa

namespace Go.Proofs.Ytgdfmmdjnifjeaa
open Go.RowKit
open Eu

/-- In the range of the package. -/
def Fit (a : Int) : Prop := -1000000000 ≤ a ∧ a ≤ 1000000000

/-- What Bezout says where b is not 0. -/
def BezoutSays (a b : Int) (w : World) (e : Ending) (w2 : World) : Prop :=
  ∃ x y : Int, 0 ≤ x ∧ x < (b.natAbs : Int) / G a b ∧ x * a + y * b = G a b ∧ Says (.tuple #[.int .i64 x, .int .i64 y, .int .i64 (G a b), .int .i64 0]) w e w2

end Go.Proofs.Ytgdfmmdjnifjeaa

namespace Go.Proofs.Ytgdfmmdjnifjeaa
open Go.RowKit
open Eu Rs

/-- A number to reckon by. -/
def Md (m : Int) : Prop := 1 ≤ m ∧ m ≤ 1000000

end Go.Proofs.Ytgdfmmdjnifjeaa

namespace Go.Proofs.Ytgdfmmdjnifjeaa
open Go.RowKit
open Eu Rs Pr

end Go.Proofs.Ytgdfmmdjnifjeaa

namespace Go.Proofs.Ytgdfmmdjnifjeaa
open Go.RowKit
open Pr

/-- The cells of a list of powers. -/
def pcs (l : List (Int × Nat)) : List Value := l.flatMap fun x => [.int .i64 x.1, .int .i64 (x.2 : Nat)]

theorem owns_ex {w w2 : World} {base : Nat} {e : TypeId} {size : Nat} {v : Value} {n : Nat} {xs : List Value} (h : w.ownsRow base e size v n xs) (hx : Ex w w2) : w2.ownsRow base e size v n xs := by
  refine ⟨h.1, ?_⟩
  rcases h.2 with hn | ⟨g, cap, cur, rfl, hb, hgg, rest⟩
  · exact .inl hn
  · refine .inr ⟨g, cap, cur, rfl, hb, ?_, rest⟩
    rw [hx.block g (Array.getElem?_eq_some_iff.1 hgg).1]
    exact hgg

theorem cell_two0 {w : World} {b : Nat} {u v : Value} {t : TypeId} (h : w.heap[b]? = some (.cells #[u, v] t (0, 0))) : w.cell? ⟨b, 0, none⟩ = some u := by simp [World.cell?, h]
theorem cell_two1 {w : World} {b : Nat} {u v : Value} {t : TypeId} (h : w.heap[b]? = some (.cells #[u, v] t (0, 0))) : w.cell? ⟨b, 1, none⟩ = some v := by simp [World.cell?, h]
theorem free_two {w : World} {b : Nat} {u v : Value} {t : TypeId} (h : w.heap[b]? = some (.cells #[u, v] t (0, 0))) (i : Nat) : w.frozen? ⟨b, i, none⟩ = false := by simp [World.frozen?, h]
theorem two_set1 {w : World} {b : Nat} {u v x : Value} {t : TypeId} (h : w.heap[b]? = some (.cells #[u, v] t (0, 0))) : (w.setCell ⟨b, 1, none⟩ x).heap[b]? = some (.cells #[u, x] t (0, 0)) := by
  have hb := lt_of_block h
  unfold World.setCell
  simp only [Array.getElem?_modify, if_true, h]
  simp

theorem news_two (w : World) (u v : Value) (t : TypeId) : ∀ j x, [u, v][j]? = some x → (w.alloc (.cells #[u, v] t)).cell? ((⟨w.heap.size, 0, none⟩ : Addr).add j) = some x := by
  intro j x hj
  have hb : (w.alloc (.cells #[u, v] t)).heap[w.heap.size]? = some (.cells #[u, v] t (0, 0)) := heap_alloc_new _ _
  match j, hj with
  | 0, hj => simp at hj; subst hj; exact cell_two0 hb
  | 1, hj => simp at hj; subst hj; exact cell_two1 hb

theorem two_oneCell (k : IntKind) (a b : Int) : ∀ u ∈ [Value.int k a, Value.int k b], u.oneCell' = true := by
  intro u hu
  simp at hu
  rcases hu with rfl | rfl <;> rfl

theorem pcs_snoc (l : List (Int × Nat)) (q : Int) (j : Nat) : pcs (l ++ [(q, j)]) = pcs l ++ [.int .i64 q, .int .i64 (j : Nat)] := by simp [pcs]

/-- What an append leaves has grown out of what was before the call. -/
theorem ex_append {w a b : World} {v : Value} {e : TypeId} {size n : Nat} {xs : List Value} (h : Ex w a) (hown : a.ownsRow w.heap.size e size v n xs) (hg : a.grownBy b v.ownBlock) : Ex w b :=
  Below.grown h hg h.size fun k hk => (hown.lt k hk).1

end Go.Proofs.Ytgdfmmdjnifjeaa
