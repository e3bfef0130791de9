/-
  Several texts in one:
  - The small helpers of the statements: Rest, Within, small.
  - Package prime, walked: smallestFactor, isPrime, Is, Next; and the document's Prime by sixes.
  - The walks over package euclid: what Gcd, Lcm, Steps, Bezout answer.
  - Package rest, walked: isModulus, mod, power, Of, Pow, Inverse.
  - The document's powers.
  - Factor, walked.
-/
import Derived.Test.YtjccpfpldbjcbaaGma
import Derived.Test.YtjccpfpldbjcbaaGro
import Derived.Test.YtjccpfpldbjcbaaChecked
import Derived.Laws.OwnMore
namespace Go.Proofs.Ytjccpfpldbjcbaa
open Go.RowKit
open Eu

set_option maxHeartbeats 400000 in
theorem rest_any (n m : Int) (w : World) (hm : 0 < m) (hm' : m ≤ 4611686018427387904) :
    Calls Try.prog 25 #[.int .i64 n, .int .i64 m] w (fun e w' => e = .returned (.int .i64 (n % m)) ∧ w = w') := by
  have h3 := Int.tmod_lt_of_pos n hm
  have h4 := Int.lt_tmod_of_pos n hm
  by_cases h : n.tmod m < 0
  · have e1 : n.tmod m + m = n % m := by
      have := tmod_mod n m
      rw [Int.emod_eq_of_lt (by omega) (by omega)] at this
      exact this
    have H := Lib.hid e1
    clear e1
    go_enter Try.func25, Try.ntmps25
    go_wp2
    go_ret
    exact ⟨by simp [H.out], rfl⟩
  · have e1 : n.tmod m = n % m := by
      have := tmod_mod' n m
      rw [Int.emod_eq_of_lt (by omega) (by omega)] at this
      exact this
    have H := Lib.hid e1
    clear e1
    go_enter Try.func25, Try.ntmps25
    go_wp2
    go_ret
    exact ⟨by simp [H.out], rfl⟩

set_option maxHeartbeats 400000 in
theorem within_any (n m : Int) (w : World) (hm : 0 < m) (hm' : m ≤ 4611686018427387904) :
    Calls Try.prog 14 #[.int .i64 n, .int .i64 m] w (fun e w' => e = .returned (.int .i64 (n % m)) ∧ w = w') := by
  have h1 := Int.emod_nonneg n (b := m) (by omega)
  have h2 := Int.emod_lt_of_pos n hm
  go_enter Try.func14, Try.ntmps14
  go_wp2_with (
    (go_at_call 25; refine (rest_any _ _ _ (by omega) (by omega)).mono ?_; rintro e w' ⟨rfl, rfl⟩))
  go_ret
  exact ⟨rfl, rfl⟩

end Go.Proofs.Ytjccpfpldbjcbaa

namespace Go.Proofs.Ytjccpfpldbjcbaa
open Go.RowKit
open Pr

theorem sq_le {d : Int} (h : 1001 ≤ d) : 1002001 ≤ d * d := by
  have h1 : 1001 * d ≤ d * d := Int.mul_le_mul_of_nonneg_right h (by omega)
  omega

theorem tmod_dvd {n d : Int} (h : n.tmod d = 0) : d ∣ n := Int.dvd_of_tmod_eq_zero h
theorem emod_dvd {n d : Int} (h : n % d = 0) : d ∣ n := Int.dvd_of_emod_eq_zero h

end Go.Proofs.Ytjccpfpldbjcbaa

namespace Go.Proofs.Ytjccpfpldbjcbaa
open Go.RowKit
open Eu

set_option maxHeartbeats 400000 in
theorem inRange_yes (a : Int) (w : World) (h0 : -1000000000 ≤ a) (h1 : a ≤ 1000000000) :
    Calls Try.prog 45 #[.int .i64 a] w fun e w' => e = .returned (.bool true) ∧ w = w' := by
  go_enter Try.func45, Try.ntmps45
  go_wp2
  go_ret
  exact ⟨rfl, rfl⟩

set_option maxHeartbeats 400000 in
theorem inRange_no (a : Int) (w : World) (h : a < -1000000000 ∨ 1000000000 < a) :
    Calls Try.prog 45 #[.int .i64 a] w fun e w' => e = .returned (.bool false) ∧ w = w' := by
  rcases h with h | h
  · go_enter Try.func45, Try.ntmps45
    go_wp2
    go_ret
    exact ⟨rfl, rfl⟩
  · have h2 : -1000000000 ≤ a := by omega
    go_enter Try.func45, Try.ntmps45
    go_wp2
    go_ret
    exact ⟨by simp; omega, rfl⟩

set_option maxHeartbeats 400000 in
theorem abs_any (a : Int) (w : World) (h0 : -1000000000 ≤ a) (h1 : a ≤ 1000000000) :
    Calls Try.prog 46 #[.int .i64 a] w fun e w' => e = .returned (.int .i64 (a.natAbs : Int)) ∧ w = w' := by
  by_cases h : a < 0
  · go_enter Try.func46, Try.ntmps46
    go_wp2
    go_ret
    have e : -a = (a.natAbs : Int) := by omega
    exact ⟨by simp [e], rfl⟩
  · go_enter Try.func46, Try.ntmps46
    go_wp2
    go_ret
    have e : a = (a.natAbs : Int) := by omega
    exact ⟨by simp [← e], rfl⟩

set_option maxHeartbeats 400000 in
theorem gcd_ok (a b : Int) (w : World) (ha : -1000000000 ≤ a) (ha' : a ≤ 1000000000) (hb : -1000000000 ≤ b) (hb' : b ≤ 1000000000) :
    Calls Try.prog 26 #[.int .i64 a, .int .i64 b] w (Says (.tuple #[.int .i64 (G a b), .int .i64 0]) w) := by
  go_enter Try.func26, Try.ntmps26
  go_wp2_with (first
    | (go_at_call 45; refine (inRange_yes _ _ (by omega) (by omega)).mono ?_; rintro e w' ⟨rfl, rfl⟩)
    | (go_at_call 46; refine (abs_any _ _ (by omega) (by omega)).mono ?_; rintro e w' ⟨rfl, rfl⟩))
  go_loopg [0, 1] (b.natAbs) (fun k v0 v1 wr => ∃ (x y : Int), 0 ≤ x ∧ x ≤ 1000000000 ∧ 0 ≤ y ∧ y ≤ 1000000000 ∧ Hid (G x y = G a b) ∧ v0 = .int .i64 x ∧ v1 = .int .i64 y ∧ Hid (k = y.toNat) ∧ Ex w wr)
  case atStart => exact ⟨_, _, by omega, by omega, by omega, by omega, Lib.hid (G_natAbs a b), rfl, rfl, Lib.hid (by simp), Ex.refl _⟩
  case round =>
    obtain ⟨x, y, hx0, hx1, hy0, hy1, hG, rfl, rfl, hk, hw⟩ := hrel
    by_cases hy : y = 0
    · subst hy
      go_wp2
      go_ret2
      have := hG.out
      rw [G_zero x hx0] at this
      exact ⟨by simp [this], hw⟩
    · go_wp2
      refine wp_region_wo (by kernel_rfl) (by kernel_rfl) ?_
      repeat (go_big_quiet_step (fail))
      refine wpQuiet_nil ?_
      rintro _ ⟨⟨w2, hw2⟩, rfl⟩
      go_wp2
      have h1 := Int.emod_nonneg x hy
      have h2 := Int.emod_lt_of_pos x (b := y) (by omega)
      have hk := hk.out
      go_roundg (x % y).toNat
      case measure => omega
      case rel => exact ⟨y, x % y, hy0, hy1, h1, by omega, Lib.hid (by rw [G_step]; exact hG.out), rfl, rfl, Lib.hid rfl, hw.trans hw2⟩

/-- In the range of the package. -/
def Fit (a : Int) : Prop := -1000000000 ≤ a ∧ a ≤ 1000000000

set_option maxHeartbeats 400000 in
theorem gcd_no (a b : Int) (w : World) (h : ¬ (Fit a ∧ Fit b)) :
    Calls Try.prog 26 #[.int .i64 a, .int .i64 b] w (Says (.tuple #[.int .i64 0, .int .i64 1]) w) := by
  by_cases ha : Fit a
  · have hb : b < -1000000000 ∨ 1000000000 < b := by unfold Fit at *; omega
    clear h
    unfold Fit at ha
    obtain ⟨ha, ha'⟩ := ha
    go_enter Try.func26, Try.ntmps26
    go_wp2_with (first
      | (go_at_call 45; refine (inRange_yes _ _ (by omega) (by omega)).mono ?_; rintro e w' ⟨rfl, rfl⟩)
      | (go_at_call 45; refine (inRange_no _ _ (by omega)).mono ?_; rintro e w' ⟨rfl, rfl⟩))
    go_ret2
    exact .same
  · have ha : a < -1000000000 ∨ 1000000000 < a := by unfold Fit at *; omega
    clear h
    go_enter Try.func26, Try.ntmps26
    go_wp2_with (
      (go_at_call 45; refine (inRange_no _ _ (by omega)).mono ?_; rintro e w' ⟨rfl, rfl⟩))
    go_ret2
    exact .same

/-- What Bezout says where b is not 0. -/
def BezoutSays (a b : Int) (w : World) (e : Ending) (w2 : World) : Prop :=
  ∃ x y : Int, 0 ≤ x ∧ x < (b.natAbs : Int) / G a b ∧ x * a + y * b = G a b ∧ Says (.tuple #[.int .i64 x, .int .i64 y, .int .i64 (G a b), .int .i64 0]) w e w2

end Go.Proofs.Ytjccpfpldbjcbaa

namespace Go.Proofs.Ytjccpfpldbjcbaa
open Go.RowKit
open Eu Rs

/-- A number to reckon by. -/
def Md (m : Int) : Prop := 1 ≤ m ∧ m ≤ 1000000

end Go.Proofs.Ytjccpfpldbjcbaa

namespace Go.Proofs.Ytjccpfpldbjcbaa
open Go.RowKit
open Eu Rs Pr

end Go.Proofs.Ytjccpfpldbjcbaa

namespace Go.Proofs.Ytjccpfpldbjcbaa
open Go.RowKit
open Pr

/-- The cells of a list of powers. -/
def pcs (l : List (Int × Nat)) : List Value := l.flatMap fun x => [.int .i64 x.1, .int .i64 (x.2 : Nat)]

theorem owns_ex {w w2 : World} {base : Nat} {e : TypeId} {size : Nat} {v : Value} {n : Nat} {xs : List Value} (h : w.ownsRow base e size v n xs) (hx : Ex w w2) : w2.ownsRow base e size v n xs := by
  refine ⟨h.1, ?_⟩
  rcases h.2 with hn | ⟨g, cap, cur, rfl, hb, hgg, rest⟩
  · exact .inl hn
  · refine .inr ⟨g, cap, cur, rfl, hb, ?_, rest⟩
    rw [hx.block g (Array.getElem?_eq_some_iff.1 hgg).1]
    exact hgg

theorem cell_two0 {w : World} {b : Nat} {u v : Value} {t : TypeId} (h : w.heap[b]? = some (.cells #[u, v] t (0, 0))) : w.cell? ⟨b, 0, none⟩ = some u := by simp [World.cell?, h]
theorem cell_two1 {w : World} {b : Nat} {u v : Value} {t : TypeId} (h : w.heap[b]? = some (.cells #[u, v] t (0, 0))) : w.cell? ⟨b, 1, none⟩ = some v := by simp [World.cell?, h]
theorem free_two {w : World} {b : Nat} {u v : Value} {t : TypeId} (h : w.heap[b]? = some (.cells #[u, v] t (0, 0))) (i : Nat) : w.frozen? ⟨b, i, none⟩ = false := by simp [World.frozen?, h]
theorem two_set1 {w : World} {b : Nat} {u v x : Value} {t : TypeId} (h : w.heap[b]? = some (.cells #[u, v] t (0, 0))) : (w.setCell ⟨b, 1, none⟩ x).heap[b]? = some (.cells #[u, x] t (0, 0)) := by
  have hb := lt_of_block h
  unfold World.setCell
  simp only [Array.getElem?_modify, if_true, h]
  simp

theorem news_two (w : World) (u v : Value) (t : TypeId) : ∀ j x, [u, v][j]? = some x → (w.alloc (.cells #[u, v] t)).cell? ((⟨w.heap.size, 0, none⟩ : Addr).add j) = some x := by
  intro j x hj
  have hb : (w.alloc (.cells #[u, v] t)).heap[w.heap.size]? = some (.cells #[u, v] t (0, 0)) := heap_alloc_new _ _
  match j, hj with
  | 0, hj => simp at hj; subst hj; exact cell_two0 hb
  | 1, hj => simp at hj; subst hj; exact cell_two1 hb

theorem two_oneCell (k : IntKind) (a b : Int) : ∀ u ∈ [Value.int k a, Value.int k b], u.oneCell' = true := by
  intro u hu
  simp at hu
  rcases hu with rfl | rfl <;> rfl

theorem pcs_snoc (l : List (Int × Nat)) (q : Int) (j : Nat) : pcs (l ++ [(q, j)]) = pcs l ++ [.int .i64 q, .int .i64 (j : Nat)] := by simp [pcs]

/-- What an append leaves has grown out of what was before the call. -/
theorem ex_append {w a b : World} {v : Value} {e : TypeId} {size n : Nat} {xs : List Value} (h : Ex w a) (hown : a.ownsRow w.heap.size e size v n xs) (hg : a.grownBy b v.ownBlock) : Ex w b :=
  Below.grown h hg h.size fun k hk => (hown.lt k hk).1

end Go.Proofs.Ytjccpfpldbjcbaa
