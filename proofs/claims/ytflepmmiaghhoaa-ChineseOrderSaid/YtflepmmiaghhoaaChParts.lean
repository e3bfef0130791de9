/-
  Package chinese, walked: Parts.
-/
import Derived.Test.YtflepmmiaghhoaaChJoin
import Derived.OwnWalk
namespace Go.Proofs.Ytflepmmiaghhoaa
open Go.RowKit
open Eu Rs Ch

/-- Not a modulus. -/
def badM (m : Int) : Bool := decide (m < 1) || decide (1000 < m)
theorem badM_iff (m : Int) : badM m = false ↔ 1 ≤ m ∧ m ≤ 1000 := by
  unfold badM; simp only [Bool.or_eq_false_iff, decide_eq_false_iff_not]; omega
/-- What Parts answers for an error. -/
def pchk (n : Int) (ms : List Int) : Int := if n < 0 then 1 else if 6 < ms.length then 2 else if ms.any badM then 1 else 0
/-- What is left of n. -/
def ptsOf (n : Int) (ms : List Int) : List (Int × Int) := ms.map fun m => (n % m, m)

theorem info_rest : (Try.prog.info? 32).map (fun i => (i.zero, i.size, i.bytes)) = some (some (.agg #[.int .i64 0, .int .i64 0]), 2, 16) := by kernel_rfl

theorem rcs_snoc (l : List (Int × Int)) (a b : Int) : rcs (l ++ [(a, b)]) = rcs l ++ [.int .i64 a, .int .i64 b] := by simp [rcs]

theorem itake_snoc {l : List Int} {i : Nat} (h : i < l.length) : l.take (i + 1) = l.take i ++ [nth l i] := by
  rw [List.take_add_one, nth_eq h, List.getElem?_eq_getElem h]; rfl

theorem ptsOf_snoc (n : Int) (l : List Int) (m : Int) : ptsOf n (l ++ [m]) = ptsOf n l ++ [(n % m, m)] := by simp [ptsOf]
theorem ptsOf_length (n : Int) (l : List Int) : (ptsOf n l).length = l.length := by simp [ptsOf]

set_option maxHeartbeats 1000000 in
theorem parts_any (n : Int) (ms : List Int) (c : Int) (a : Option Addr) (cap : Nat) (w : World) (hl : ms.length ≤ 140737488355328) (hr : Reads w .i64 a ms) (hc : pchk n ms = c) :
    Calls Try.prog 8 #[.int .i64 n, .slice a ms.length cap] w (fun e w2 => ∃ v, e = .returned (.tuple #[v, .int .i64 c]) ∧ Hid (RowR 32 w2 w.heap.size v (if c = 0 then ptsOf n ms else [])) ∧ Ex w w2) := by
  have HC := Lib.hid hc
  have HR := Lib.hid hr
  clear hr hc
  by_cases h0 : n < 0
  · have e1 : c = 1 := by have := HC.out; unfold pchk at this; rw [if_pos h0] at this; exact this.symm
    subst e1
    go_enter Try.func8, Try.ntmps8
    go_wp2
    go_ret2
    exact ⟨_, rfl, Lib.hid (RowR.nil _ _ _), Ex.refl _⟩
  · by_cases h6 : 6 < ms.length
    · have e1 : c = 2 := by have := HC.out; unfold pchk at this; rw [if_neg h0, if_pos h6] at this; exact this.symm
      subst e1
      go_enter Try.func8, Try.ntmps8
      go_wp2
      go_ret2
      exact ⟨_, rfl, Lib.hid (RowR.nil _ _ _), Ex.refl _⟩
    · have h7 : ms.length ≤ 6 := by omega
      have HC2 : Hid (c = if ms.any badM then 1 else 0) := Lib.hid (by have := HC.out; unfold pchk at this; rw [if_neg h0, if_neg h6] at this; exact this.symm)
      obtain ⟨i0, hi, hz0, hz1, hz2⟩ := info_parts info_rest
      have HI := Lib.hid hi
      have HZ0 := Lib.hid hz0
      have HZ1 := Lib.hid hz1
      have HZ2 := Lib.hid hz2
      clear hi hz0 hz1 hz2 h6
      go_enter Try.func8, Try.ntmps8
      go_wp2_with (
        (refine wpList_make_own _ rfl _ _ 22 rfl w.heap.size 32 i0 _ 2 Try.underlying22 HI.out HZ0.out HZ1.out .i64 .i64 _ ms.length rfl rfl rfl (by rw [HZ2.out]; omega) (by unfold maxLen; omega) (Nat.le_refl _) ?_; intro w1 hown1 hgrow1))
      have HG1 := Lib.hid (ex_grown (Ex.refl w) hgrow1 (fun k h => by cases h))
      have HW1 : Hid (RowR 32 w1 w.heap.size (.slice (some ⟨w.heap.size, 0, none⟩) 0 ms.length) (ptsOf n (ms.take 0))) := Lib.hid hown1
      clear hown1 hgrow1
      go_loopg [6, 21] ms.length (fun k v6 v21 wr => ∃ i : Nat, i ≤ ms.length ∧ v21 = .int .i64 i ∧ Hid (k = ms.length - i) ∧ Hid (RowR 32 wr w.heap.size v6 (ptsOf n (ms.take i))) ∧ Hid (∀ j, j < i → badM (nth ms j) = false) ∧ Ex w wr)
      case atStart => exact ⟨0, Nat.zero_le _, rfl, Lib.hid rfl, HW1, Lib.hid (fun j hj => absurd hj (Nat.not_lt_zero _)), HG1.out⟩
      case round =>
        obtain ⟨i, hi, rfl, hk, hrow, hnb, hw⟩ := hrel
        clear HW1
        by_cases hlt : i < ms.length
        · rcases HR.out with h | ⟨b, off, rfl, hcells⟩
          · rw [h] at hlt; simp at hlt
          have hc0 := hw.cell (hcells i hlt)
          have HT := Lib.hid (itake_snoc hlt)
          have HMEM := Lib.hid (nth_mem hlt)
          clear hcells
          obtain ⟨m, hm⟩ : ∃ m, nth ms i = m := ⟨_, rfl⟩
          have HM := Lib.hid hm
          rw [hm] at hc0 HT HMEM
          clear hm
          by_cases hb : m < 1 ∨ 1000 < m
          · have e1 : c = 1 := by
              have h1 : badM m = true := by unfold badM; simp; omega
              have := HC2.out
              rw [if_pos (List.any_eq_true.mpr ⟨m, HMEM.out, h1⟩)] at this
              exact this
            subst e1
            go_wp2_with (
              (go_at_call 22; refine (cmod_no _ _ hb).mono ?_; rintro e w' ⟨rfl, rfl⟩))
            go_ret2
            exact ⟨_, rfl, Lib.hid (RowR.nil _ _ _), hw⟩
          · have m1 : 1 ≤ m := by omega
            have m2 : m ≤ 1000 := by omega
            clear hb
            go_wp2_with (first
              | (go_at_call 22; refine (cmod_yes _ _ (by omega) (by omega)).mono ?_; rintro e w' ⟨rfl, rfl⟩)
              | (go_at_call 23; refine (of_ok _ _ _ (by omega) (by omega)).mono ?_; rintro e w2 ⟨rfl, hw2⟩; have HX := Lib.hid ((hw.trans hw2).alloc (.cells #[.int .i64 (n % m), .int .i64 m] 32)); have HOWN := Lib.hid (((hrow.out).ex hw2).ex ((Ex.refl w2).alloc (.cells #[.int .i64 (n % m), .int .i64 m] 32))))
              | (at_builtin; refine wpList_append_own _ rfl _ _ 22 rfl w.heap.size 32 i0 _ 2 16 Try.underlying22 HI.out HZ0.out HZ1.out HZ2.out rfl (by decide) _ _ _ rfl HOWN.out ⟨w2.heap.size, 0, none⟩ 1 1 [.int .i64 (n % m), .int .i64 m] rfl rfl (news_two _ _ _ _) (two_oneCell _ _ _) (by rw [ptsOf_length, List.length_take]; unfold maxLen; omega) (by rw [ptsOf_length, List.length_take]; omega) HX.out.size ?_; intro v' w3 hown3 hgrow3 _; have HX3 := Lib.hid (ex_append HX.out HOWN.out hgrow3); have HW3 : Hid (RowR 32 w3 w.heap.size v' (ptsOf n (ms.take (i + 1)))) := Lib.hid (by rw [HT.out, ptsOf_snoc]; unfold RowR; rw [rcs_snoc, List.length_append]; exact hown3); clear hown3 hgrow3))
            go_roundg (ms.length - (i + 1))
            case measure => have := hk.out; omega
            case rel => exact ⟨i + 1, by omega, by go_num, Lib.hid rfl, HW3, Lib.hid (fun j hj => by
              rcases Nat.lt_succ_iff_lt_or_eq.mp hj with h | h
              · exact hnb.out j h
              · rw [h, HM.out]; exact (badM_iff m).mpr ⟨m1, m2⟩), HX3.out⟩
        · obtain rfl : i = ms.length := by omega
          have e1 : c = 0 := by
            have := HC2.out
            rw [if_neg] at this
            · exact this
            · intro h
              obtain ⟨q, hq, hbq⟩ := List.any_eq_true.mp h
              obtain ⟨j, hj, rfl⟩ := List.getElem_of_mem hq
              have h2 := hnb.out j hj
              rw [nth_eq hj] at h2
              rw [h2] at hbq; cases hbq
          subst e1
          rw [List.take_length] at hrow
          go_wp2
          go_ret2
          exact ⟨_, rfl, hrow, hw⟩

theorem parts_ok (n : Int) (ms : List Int) (a : Option Addr) (cap : Nat) (w : World) (hl : ms.length ≤ 140737488355328) (hr : Reads w .i64 a ms) (hc : pchk n ms = 0) :
    Calls Try.prog 8 #[.int .i64 n, .slice a ms.length cap] w (fun e w2 => ∃ (a2 : Option Addr) (cap2 : Nat), e = .returned (.tuple #[.slice a2 ms.length cap2, .int .i64 0]) ∧ ms.length ≤ cap2 ∧ Hid (ReadsR w2 a2 (ptsOf n ms)) ∧ Ex w w2) := by
  refine (parts_any n ms 0 a cap w hl hr hc).mono ?_
  rintro e w2 ⟨v, rfl, hrow, hx⟩
  have hrow := hrow.out
  rw [if_pos rfl] at hrow
  obtain ⟨a2, cap2, rfl, hle, hrd, _⟩ := hrow.reads
  rw [ptsOf_length] at hle ⊢
  exact ⟨a2, cap2, rfl, hle, Lib.hid hrd, hx⟩

theorem parts_no (n : Int) (ms : List Int) (c : Int) (a : Option Addr) (cap : Nat) (w : World) (hl : ms.length ≤ 140737488355328) (hr : Reads w .i64 a ms) (hc : pchk n ms = c) (h0 : c ≠ 0) :
    Calls Try.prog 8 #[.int .i64 n, .slice a ms.length cap] w (fun e w2 => ∃ (a2 : Option Addr) (cap2 : Nat), e = .returned (.tuple #[.slice a2 0 cap2, .int .i64 c]) ∧ Ex w w2) := by
  refine (parts_any n ms c a cap w hl hr hc).mono ?_
  rintro e w2 ⟨v, rfl, hrow, hx⟩
  have hrow := hrow.out
  rw [if_neg h0] at hrow
  obtain ⟨a2, cap2, rfl, hle, hrd, _⟩ := hrow.reads
  exact ⟨a2, cap2, rfl, hx⟩

end Go.Proofs.Ytflepmmiaghhoaa
