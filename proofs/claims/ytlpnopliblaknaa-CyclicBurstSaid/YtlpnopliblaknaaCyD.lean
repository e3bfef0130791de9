/-
  What package cyclic answers, as structures of contracts; wholekeep.bitsOf, byOf, turn.
-/
import Derived.Test.YtlpnopliblaknaaTx
import Derived.Test.YtlpnopliblaknaaCyMath
import Derived.Test.YtlpnopliblaknaaGro
import Derived.Test.YtlpnopliblaknaaConvTx
namespace Go.Proofs.Ytlpnopliblaknaa
open Go.RowKit
open Ln Cy

/-- A generator, as bits. -/
structure IsBy (b : List Bool) : Prop where
  lo : 2 ≤ b.length
  hi : b.length ≤ 17
  head : b.head? = some true
  last : b.getLast? = some true
/-- Its degree, its number. -/
def dg' (b : List Bool) : Nat := b.length - 1
def gn (b : List Bool) : Nat := vl 0 b
/-- What a row leaves. -/
def lf (b l : List Bool) : Nat := rs (dg' b) (gn b) 0 l
/-- The check. -/
def chk (b l : List Bool) : List Bool := ck (dg' b) (lf b (l ++ List.replicate (dg' b) false))
theorem chk_length (b l : List Bool) : (chk b l).length = dg' b := ck_length _ _
theorem vl_top : ∀ (l : List Bool), Top l.length (vl 1 l) := by
  intro l
  have h1 := vl_lt l 1
  have : ∀ (l : List Bool) (r : Nat), 2 ^ l.length * r ≤ vl r l := by
    intro l
    induction l with
    | nil => intro r; rw [List.length_nil, Nat.pow_zero, Nat.one_mul]; exact Nat.le_refl _
    | cons b l ih =>
      intro r
      rw [vl_cons, List.length_cons, Nat.pow_succ, Nat.mul_assoc]
      exact Nat.le_trans (Nat.mul_le_mul_left _ (by omega)) (ih (2 * r + b.toNat))
  have h2 := this l 1
  rw [Nat.mul_one] at h2
  exact ⟨h2, by rw [Nat.pow_succ]; exact h1⟩
theorem IsBy.top {b : List Bool} (h : IsBy b) : Top (dg' b) (gn b) := by
  cases b with
  | nil => have := h.lo; simp at this
  | cons a b =>
    have := h.head
    rw [List.head?_cons, Option.some.injEq] at this
    subst this
    exact vl_top b
theorem vl_last : ∀ (l : List Bool) (r : Nat), l.getLast? = some true → vl r l % 2 = 1 := by
  intro l r h
  obtain ⟨k, rfl⟩ := List.getLast?_eq_some_iff.mp h
  rw [vl_append]
  show (2 * vl r k + 1) % 2 = 1
  omega
theorem IsBy.odd {b : List Bool} (h : IsBy b) : gn b % 2 = 1 := vl_last b 0 h.last
theorem IsBy.deg {b : List Bool} (h : IsBy b) : 1 ≤ dg' b ∧ dg' b ≤ 16 := by
  have := h.lo
  have := h.hi
  unfold dg'
  omega
/-- A row with its check leaves nothing. -/
theorem IsBy.none {b : List Bool} (h : IsBy b) (l : List Bool) : lf b (l ++ chk b l) = 0 := by
  have ht := h.top
  have hp : 0 < 2 ^ dg' b := Nat.pow_pos (by decide)
  unfold lf
  rw [rs_append]
  refine (rs_check ht (rs_lt ht l hp) (chk b l) (chk_length b l)).mpr ?_
  unfold chk lf
  rw [rs_append]

structure CyPutC : Prop where
  ok : ∀ {l b : List Bool} {w : World}, l.length ≤ 200 → IsBy b → Calls Try.prog 10 #[.string (tx l), .string (tx b)] w (Says (.tuple #[.string (tx (l ++ chk b l)), .int .i64 0]) w)

structure CyGetC : Prop where
  ok : ∀ {l b : List Bool} {w : World}, l.length ≤ 216 → IsBy b → dg' b ≤ l.length → lf b l = 0 → Calls Try.prog 11 #[.string (tx l), .string (tx b)] w (Says (.tuple #[.string (tx (l.take (l.length - dg' b))), .int .i64 0]) w)
  sum : ∀ {l b : List Bool} {w : World}, l.length ≤ 216 → IsBy b → dg' b ≤ l.length → lf b l ≠ 0 → Calls Try.prog 11 #[.string (tx l), .string (tx b)] w (Says (.tuple #[.string (ByteArray.mk #[]), .int .i64 8]) w)

/-- Of numbers, the odd ones. -/
def fb (z : List Int) (m : Nat) : List Bool := (z.take m).map fun n => n % 2 == 1
theorem fb_length (z : List Int) (m : Nat) : (fb z m).length = min m z.length := by simp [fb]
theorem fb_snoc {z : List Int} {i : Nat} (h : i < z.length) : fb z (i + 1) = fb z i ++ [nth z i % 2 == 1] := by
  unfold fb
  rw [List.take_add_one, List.map_append, List.getElem?_eq_getElem h, nth_eq h]
  rfl
theorem fb_all {z : List Int} {m : Nat} (h : z.length ≤ m) : fb z m = fb z z.length := by unfold fb; rw [List.take_of_length_le h, List.take_of_length_le (Nat.le_refl _)]

set_option maxRecDepth 100000 in
set_option maxHeartbeats 1000000 in
theorem bitsOf_any {z : List Int} {a : Option Addr} {la ca : Nat} (m : Nat) {w : World} (h : IsInts .u8 1 w a la ca z) (hm : m ≤ 216) :
    Calls Try.prog 8 #[.slice a la ca, .int .i64 (m : Int)] w (Says (.string (tx (fb z m))) w) := by
  obtain ⟨h1, h2, h3, h4, _, h6⟩ := h
  by_cases hc : m < la
  · have hc2 : m ≤ la := by omega
    have HC : Hid (∀ i, i < m → ∃ g o, a = some ⟨g, o, none⟩ ∧ w.cell? ⟨g, o + i, none⟩ = some (.int .u8 (nth z i)) ∧ 0 ≤ nth z i ∧ nth z i ≤ 255) := Lib.hid fun i hi => by
      rcases h4 with h | ⟨g, o, e, hc⟩
      · rw [h] at h1; simp at h1; omega
      · have := wf_u8 (h6 _ (nth_mem (xs := z) (i := i) (by omega)))
        exact ⟨g, o, e, hc i (by omega), this.1, this.2⟩
    have HS : Hid (∀ i, i < m → fb z (i + 1) = fb z i ++ [nth z i % 2 == 1]) := Lib.hid fun i hi => fb_snoc (by omega)
    have HL : Hid (∀ i, i ≤ m → (tx (fb z i)).size ≤ 216) := Lib.hid fun i hi => by rw [tx_size, fb_length]; omega
    clear h1 h4 h6
    go_enter Try.func8, Try.ntmps8
    go_wp2
    go_loopg [5, 15] m (fun k v5 v15 wr => ∃ (i : Nat) (s : ByteArray), i ≤ m ∧ v5 = .string s ∧ v15 = .int .i64 (i : Int) ∧ Hid (s = tx (fb z i)) ∧ Hid (k = m - i) ∧ w = wr)
    case atStart => exact ⟨0, _, by omega, rfl, rfl, Lib.hid rfl, Lib.hid rfl, rfl⟩
    case round =>
      obtain ⟨i, s, hi, rfl, rfl, hs, hk, rfl⟩ := hrel
      by_cases hlt : i < m
      · obtain ⟨g, o, rfl, q1, b1, b2⟩ := HC.out i hlt
        have hst := HS.out i hlt
        obtain ⟨x, hx⟩ : ∃ x, nth z i = x := ⟨_, rfl⟩
        rw [hx] at q1 b1 b2 hst
        have hsz : s.size ≤ 216 := by rw [hs.out]; exact HL.out i hi
        have e0 := enc_0
        have e1 := enc_1
        have f0 := tx_size [false]
        have f1 := tx_size [true]
        rw [List.length_singleton] at f0 f1
        clear hx
        by_cases ho : x % 2 = 1
        · have HN : Hid (s ++ tx [true] = tx (fb z (i + 1))) := Lib.hid (by rw [hs.out, hst, tx_append, ho]; rfl)
          clear hst
          go_wp2
          go_roundg (m - (i + 1))
          case measure => have := hk.out; omega
          case rel => exact ⟨i + 1, _, by omega, rfl, by go_num, HN, Lib.hid rfl, rfl⟩
        · have hz : x % 2 = 0 := by omega
          have HN : Hid (s ++ tx [false] = tx (fb z (i + 1))) := Lib.hid (by rw [hs.out, hst, tx_append, hz]; rfl)
          clear hst ho
          go_wp2
          go_roundg (m - (i + 1))
          case measure => have := hk.out; omega
          case rel => exact ⟨i + 1, _, by omega, rfl, by go_num, HN, Lib.hid rfl, rfl⟩
      · have e : i = m := by omega
        have HE : Hid (s = tx (fb z m)) := Lib.hid (by rw [hs.out, e])
        clear hs
        subst e
        go_wp2
        go_ret
        exact ⟨by rw [HE.out]; rfl, Ex.refl _⟩
  · have hfb : fb z m = fb z la := by rw [fb_all (by omega), h1]
    rw [hfb]
    clear hfb
    have HC : Hid (∀ i, i < la → ∃ g o, a = some ⟨g, o, none⟩ ∧ w.cell? ⟨g, o + i, none⟩ = some (.int .u8 (nth z i)) ∧ 0 ≤ nth z i ∧ nth z i ≤ 255) := Lib.hid fun i hi => by
      rcases h4 with h | ⟨g, o, e, hc⟩
      · rw [h] at h1; simp at h1; omega
      · have := wf_u8 (h6 _ (nth_mem (xs := z) (i := i) (by omega)))
        exact ⟨g, o, e, hc i (by omega), this.1, this.2⟩
    have HS : Hid (∀ i, i < la → fb z (i + 1) = fb z i ++ [nth z i % 2 == 1]) := Lib.hid fun i hi => fb_snoc (by omega)
    have HL : Hid (∀ i, i ≤ la → (tx (fb z i)).size ≤ 216) := Lib.hid fun i hi => by rw [tx_size, fb_length]; omega
    clear h1 h4 h6
    go_enter Try.func8, Try.ntmps8
    go_wp2
    go_loopg [5, 15] la (fun k v5 v15 wr => ∃ (i : Nat) (s : ByteArray), i ≤ la ∧ v5 = .string s ∧ v15 = .int .i64 (i : Int) ∧ Hid (s = tx (fb z i)) ∧ Hid (k = la - i) ∧ w = wr)
    case atStart => exact ⟨0, _, by omega, rfl, rfl, Lib.hid rfl, Lib.hid rfl, rfl⟩
    case round =>
      obtain ⟨i, s, hi, rfl, rfl, hs, hk, rfl⟩ := hrel
      by_cases hlt : i < la
      · obtain ⟨g, o, rfl, q1, b1, b2⟩ := HC.out i hlt
        have hst := HS.out i hlt
        obtain ⟨x, hx⟩ : ∃ x, nth z i = x := ⟨_, rfl⟩
        rw [hx] at q1 b1 b2 hst
        have hsz : s.size ≤ 216 := by rw [hs.out]; exact HL.out i hi
        have e0 := enc_0
        have e1 := enc_1
        have f0 := tx_size [false]
        have f1 := tx_size [true]
        rw [List.length_singleton] at f0 f1
        clear hx
        by_cases ho : x % 2 = 1
        · have HN : Hid (s ++ tx [true] = tx (fb z (i + 1))) := Lib.hid (by rw [hs.out, hst, tx_append, ho]; rfl)
          clear hst
          go_wp2
          go_roundg (la - (i + 1))
          case measure => have := hk.out; omega
          case rel => exact ⟨i + 1, _, by omega, rfl, by go_num, HN, Lib.hid rfl, rfl⟩
        · have hz : x % 2 = 0 := by omega
          have HN : Hid (s ++ tx [false] = tx (fb z (i + 1))) := Lib.hid (by rw [hs.out, hst, tx_append, hz]; rfl)
          clear hst ho
          go_wp2
          go_roundg (la - (i + 1))
          case measure => have := hk.out; omega
          case rel => exact ⟨i + 1, _, by omega, rfl, by go_num, HN, Lib.hid rfl, rfl⟩
      · have e : i = la := by omega
        have HE : Hid (s = tx (fb z la)) := Lib.hid (by rw [hs.out, e])
        clear hs
        subst e
        go_wp2
        go_ret
        exact ⟨by rw [HE.out]; rfl, Ex.refl _⟩

end Go.Proofs.Ytlpnopliblaknaa
