/-
  wholeref.WordErr.
-/
import Derived.Test.YtgmhbkfjabmkgaaLnD
import Derived.Test.YtgmhbkfjabmkgaaAnyP
import Derived.Test.YtgmhbkfjabmkgaaU16
namespace Go.Proofs.Ytgmhbkfjabmkgaa
open Go.RowKit
open Ln

theorem box_one (w : World) (v : Value) (T : TypeId) : (w.alloc (.cells #[v] T)).cell? ⟨w.heap.size, 0, none⟩ = some v := by
  have := heap_alloc_new w (.cells #[v] T)
  unfold World.cell?
  simp only [this]
  simp
theorem ReadsV.of {k : IntKind} {w : World} {a : Option Addr} {xs : List Int} {n : Nat} (h : Reads w k a xs) (hn : xs.length = n) : ReadsV w a n (fun i => .int k (nth xs i)) := by
  rcases h with h | ⟨b, off, h1, h2⟩
  · left; rw [← hn, h]; rfl
  · exact .inr ⟨b, off, h1, fun i hi => h2 i (by rw [hn]; exact hi)⟩

theorem entered_we1 : Entered Try.prog 38 := fun _ _ => by kernel_rfl

set_option maxHeartbeats 1000000 in
theorem we1_any (x : Int) (n bx : Nat) (w : World) (hx : 0 ≤ x ∧ x ≤ 65535) (hn : n ≤ 12) (hbx : w.cell? ⟨bx, 0, none⟩ = some (.int .i64 (n : Int))) :
    Calls Try.prog 38 (#[.int .u16 x] ++ #[.pointer (some ⟨bx, 0, none⟩)]) w (Says (.bool (decide (((2 ^ n : Nat) : Int) ≤ x))) w) := by
  have hp : wrap64 ((2 : Int) ^ n) = ((2 ^ n : Nat) : Int) := by
    have h1 : 2 ^ n ≤ 2 ^ 12 := Nat.pow_le_pow_right (by decide) hn
    rw [show ((2 : Int) ^ n) = ((2 ^ n : Nat) : Int) by rw [Int.natCast_pow]; rfl]
    generalize 2 ^ n = q at h1 ⊢
    exact IntWalk.wrap64_in _ (by omega)
  have HP := Lib.hid hp
  clear hp
  go_enter Try.func38, Try.ntmps38
  go_wp2
  go_ret
  exact ⟨by rw [← HP.out]; simp, Ex.refl _⟩

set_option maxHeartbeats 1000000 in
theorem wordErr_any {n : Int} {z : List Int} {a : Option Addr} {la ca : Nat} {w : World} (ha : IsInts .u16 2 w a la ca z) (hn : I64 n) :
    Calls Try.prog 14 #[.int .i64 n, .slice a la ca] w (Says (.int .i64 (lnE n z)) w) := by
  obtain ⟨k1, k2, k3, k4, _, k6⟩ := ha
  have HX := Lib.hid ((Ex.refl w).alloc (.cells #[.int .i64 n] 3))
  have HB := Lib.hid (box_one w (.int .i64 n) 3)
  by_cases h1 : n < 1
  · have e : lnE n z = 1 := by unfold lnE; rw [if_pos (.inl h1)]
    rw [e]
    clear k4 k6
    go_enter Try.func14, Try.ntmps14
    go_wp2
    go_ret
    exact ⟨rfl, HX.out⟩
  by_cases h2 : 12 < n
  · have e : lnE n z = 1 := by unfold lnE; rw [if_pos (.inr h2)]
    rw [e]
    clear k4 k6
    go_enter Try.func14, Try.ntmps14
    go_wp2
    go_ret
    exact ⟨rfl, HX.out⟩
  obtain ⟨m, rfl⟩ : ∃ m : Nat, n = (m : Int) := ⟨n.toNat, by omega⟩
  by_cases h3 : 6 < la
  · have e : lnE (m : Int) z = 2 := by unfold lnE; rw [if_neg (by omega), if_pos (by omega)]
    rw [e]
    clear k4 k6
    go_enter Try.func14, Try.ntmps14
    go_wp2
    go_ret
    exact ⟨rfl, HX.out⟩
  have HCF : Hid (Calls Try.prog 29 #[.slice a la ca, .func (.func 38) #[] #[.pointer (some ⟨w.heap.size, 0, none⟩)]] (w.alloc (.cells #[.int .i64 (m : Int)] 3)) (Says (.bool (anyP (fun i => decide (((2 ^ m : Nat) : Int) ≤ nth z i)) la)) (w.alloc (.cells #[.int .i64 (m : Int)] 3)))) := Lib.hid (by
    refine wrds_contains 38 #[.pointer (some ⟨w.heap.size, 0, none⟩)] (fun i => decide (((2 ^ m : Nat) : Int) ≤ nth z i)) (fun i => .int .u16 (nth z i)) la a ca _ (by unfold maxLen; omega) (ReadsV.of (k4.ex HX.out) k1) entered_we1 fun i hi w6 k => ?_
    exact we1_any (nth z i) m w.heap.size w6 (wf_u16 (k6 _ (nth_mem (by omega)))) (by omega) (k.cell HB.out))
  obtain ⟨b, hb⟩ : ∃ b, anyP (fun i => decide (((2 ^ m : Nat) : Int) ≤ nth z i)) la = b := ⟨_, rfl⟩
  have e : lnE (m : Int) z = if b then 3 else 0 := by
    unfold lnE
    rw [if_neg (by omega), if_neg (by omega), Int.toNat_natCast]
    by_cases h4 : ∃ x ∈ z, ((2 ^ m : Nat) : Int) ≤ x
    · rw [if_pos h4, ← hb, anyP_iff.mpr]
      · rfl
      · obtain ⟨x, hx, h5⟩ := h4
        obtain ⟨i, hi, rfl⟩ := List.getElem_of_mem hx
        exact ⟨i, by omega, decide_eq_true (by rw [nth_eq hi]; exact h5)⟩
    · rw [if_neg h4]
      cases b
      · rfl
      · obtain ⟨i, hi, h5⟩ := anyP_iff.mp hb
        exact absurd ⟨_, nth_mem (by omega), of_decide_eq_true h5⟩ h4
  rw [hb] at HCF
  rw [e]
  clear k4 k6 hb e
  cases b with
  | true =>
    go_enter Try.func14, Try.ntmps14
    go_wp2_with (go_at_call 29; (with_reducible refine (HCF.out).mono ?_); rintro e w2 ⟨rfl, hw2⟩)
    go_ret
    exact ⟨rfl, HX.out.trans hw2⟩
  | false =>
    go_enter Try.func14, Try.ntmps14
    go_wp2_with (go_at_call 29; (with_reducible refine (HCF.out).mono ?_); rintro e w2 ⟨rfl, hw2⟩)
    go_ret
    exact ⟨rfl, HX.out.trans hw2⟩

end Go.Proofs.Ytgmhbkfjabmkgaa
