/-
  Rank, Det and Inverse of package matrix.
-/
import Derived.Test.YtmmfclkkncbgfaaMcPure
import Derived.Test.YtmmfclkkncbgfaaMatUndone
namespace Go.Proofs.Ytmmfclkkncbgfaa
open Go.RowKit
open Gf

/-- reduce, where it is known what comes. -/
theorem reduce_at {A M : Nat → Nat → E} {R C n p : Nat} {P : List (Nat × Nat)} {d : E} {a : Option Addr} {ca : Nat} {w : World} (hR : 1 ≤ R) (hR2 : R ≤ 20) (hC : 1 ≤ C) (hC2 : C ≤ 40) (hn : n ≤ C) (ha : ReadsT w a R C A) (hS : redu A R n = (M, P, d)) (hp : P.length = p) :
    Calls Try.prog 30 #[.slice a R ca, .int .i64 (n : Int)] w (fun e w2 => ∃ (G cl : Nat) (al : Option Addr), e = .returned (.tuple #[.agg #[.slice (some ⟨G, 0, none⟩) R R, .slice al p cl, .int .u8 ((d.v : Nat) : Int)], .int .i64 0]) ∧ Hid (ReadsT w2 (some ⟨G, 0, none⟩) R C M) ∧ Hid (Reads w2 .i64 al (intsOf (P.map (·.2))) ∧ ∀ w3 b, b < w.heap.size → Mo1 b w2 w3 → ReadsT w3 (some ⟨G, 0, none⟩) R C M ∧ Reads w3 .i64 al (intsOf (P.map (·.2)))) ∧ Hid (p ≤ cl ∧ cl ≤ 9223372036854775807) ∧ Ex w w2) := by
  subst hp
  refine (reduce_any A R C n a ca w hR hR2 hC hC2 hn ha).mono ?_
  rintro e w2 ⟨G, cl, al, M2, P2, d2, rfl, h1, _, h3, h4, hx⟩
  have h1 := hS.symm.trans h1.out
  simp only [Prod.mk.injEq] at h1
  obtain ⟨rfl, rfl, rfl⟩ := h1
  exact ⟨G, cl, al, rfl, h3, Lib.hid h4.out.1, Lib.hid h4.out.2, hx⟩

set_option maxRecDepth 100000 in
set_option maxHeartbeats 1000000 in
theorem mrank_ok {A : Nat → Nat → E} {R C r : Nat} {a : Option Addr} {ca : Nat} {w : World} (hR : 1 ≤ R) (hR2 : R ≤ 12) (hC : 1 ≤ C) (hC2 : C ≤ 12) (ha : ReadsT w a R C A) (hr : Rk A (List.range R) (List.range C) r) :
    Calls Try.prog 11 #[.slice a R ca] w (Says (.tuple #[.int .i64 (r : Int), .int .i64 0]) w) := by
  obtain ⟨M, P, d, hS⟩ : ∃ M P d, redu A R C = (M, P, d) := ⟨_, _, _, rfl⟩
  have hJ := redu_jor A R C C M P d (Nat.le_refl _) hS
  have hp : P.length = r := (hJ.jor.rank (Nat.le_refl _)).uniq hr
  have hrR : r ≤ R := by rw [← hp]; exact hJ.jor.few
  have dl := d.lt
  obtain ⟨bA, oA, bA0, oA0, cA0, rfl, hA0, hA0c, hA0m, _⟩ := ha.at (r := 0) (by omega)
  rw [Nat.add_zero] at hA0
  have HCA := Lib.hid (mcheck_ok hR hR2 hC hC2 ha ca)
  have HRD := Lib.hid fun w2 (k : Ex w w2) => reduce_at (ca := ca) hR (by omega) hC (by omega) (Nat.le_refl C) (ha.ex k) hS hp
  clear ha hr hJ hS hp
  go_enter Try.func11, Try.ntmps11
  go_wp2_with (first
    | (go_at_call 14; (with_reducible refine (HCA.out).mono ?_); rintro e w1 ⟨rfl, hw1⟩; have q1 := hw1.cell hA0)
    | (go_at_call 30; (with_reducible refine (HRD.out _ hw1).mono ?_); rintro e w2 ⟨G, cl, al, rfl, _, _, hcl, hw2⟩))
  go_ret2
  exact ⟨rfl, (hw1.trans hw2).alloc _⟩

set_option maxHeartbeats 1000000 in
theorem mrank_no {m : List (List Int)} {a : Option Addr} {la ca : Nat} {w : World} (ha : IsMat .u8 w a la ca m) (h : tabE m ≠ 0) :
    Calls Try.prog 11 #[.slice a la ca] w (Says (.tuple #[.int .i64 0, .int .i64 (tabE m)]) w) := by
  have HCA := Lib.hid (checkC.any ha)
  obtain ⟨t, ht⟩ : ∃ t, tabE m = t := ⟨_, rfl⟩
  rw [ht] at HCA h ⊢
  have q2 : (t != 0) = true := by simpa using h
  clear ht h ha
  go_enter Try.func11, Try.ntmps11
  go_wp2_with (go_at_call 14; (with_reducible refine (HCA.out).mono ?_); rintro e w1 ⟨rfl, hw1⟩)
  go_ret2
  exact ⟨rfl, hw1⟩
theorem rankC : RankC := ⟨mrank_no, mrank_ok⟩

theorem squareC {m : List (List Int)} {a : Option Addr} {la ca : Nat} {w : World} (h : IsMat .u8 w a la ca m) : Calls Try.prog 31 #[.slice a la ca] w (Says (.int .i64 (detE m)) w) :=
  msquare_any _ _ _ _ _ h.1 (by have := h.2.1; have := h.2.2.1; unfold maxLen; omega) h.2.2.2.1 fun r hr => (h.2.2.2.2.2 r hr).2

set_option maxHeartbeats 1000000 in
theorem mdet_no {m : List (List Int)} {a : Option Addr} {la ca : Nat} {w : World} (ha : IsMat .u8 w a la ca m) (h : detE m ≠ 0) :
    Calls Try.prog 12 #[.slice a la ca] w (Says (.tuple #[.int .u8 0, .int .i64 (detE m)]) w) := by
  have HCA := Lib.hid (squareC ha)
  obtain ⟨t, ht⟩ : ∃ t, detE m = t := ⟨_, rfl⟩
  rw [ht] at HCA h ⊢
  have q2 : (t != 0) = true := by simpa using h
  clear ht h ha
  go_enter Try.func12, Try.ntmps12
  go_wp2_with (go_at_call 31; (with_reducible refine (HCA.out).mono ?_); rintro e w1 ⟨rfl, hw1⟩)
  go_ret2
  exact ⟨rfl, hw1⟩

set_option maxRecDepth 100000 in
set_option maxHeartbeats 1000000 in
theorem mdet_ok {A : Nat → Nat → E} {n : Nat} {a : Option Addr} {ca : Nat} {w : World} (h1 : 1 ≤ n) (h2 : n ≤ 12) (ha : ReadsT w a n n A) :
    Calls Try.prog 12 #[.slice a n ca] w (Says (.tuple #[.int .u8 (((det A n).v : Nat) : Int), .int .i64 0]) w) := by
  obtain ⟨M, P, d, hS⟩ : ∃ M P d, redu A n n = (M, P, d) := ⟨_, _, _, rfl⟩
  have hJ := redu_jor A n n n M P d (Nat.le_refl _) hS
  obtain ⟨p, hp⟩ : ∃ p, P.length = p := ⟨_, rfl⟩
  have hpn : p ≤ n := by rw [← hp]; exact hJ.jor.few
  have dl := d.lt
  have HCA := Lib.hid (msquare_ok h1 h2 ha ca)
  have HRD := Lib.hid fun w2 (k : Ex w w2) => reduce_at (ca := ca) h1 (by omega) h1 (by omega) (Nat.le_refl n) (ha.ex k) hS hp
  by_cases hlt : p < n
  · rw [hJ.few (Nat.le_refl _) (by omega)]
    clear ha hJ hS hp
    go_enter Try.func12, Try.ntmps12
    go_wp2_with (first
      | (go_at_call 31; (with_reducible refine (HCA.out).mono ?_); rintro e w1 ⟨rfl, hw1⟩)
      | (go_at_call 30; (with_reducible refine (HRD.out _ hw1).mono ?_); rintro e w2 ⟨G, cl, al, rfl, _, _, hcl, hw2⟩))
    go_ret2
    exact ⟨rfl, (hw1.trans hw2).alloc _⟩
  · rw [hJ.all (Nat.le_refl _) (by omega)]
    clear ha hJ hS hp
    go_enter Try.func12, Try.ntmps12
    go_wp2_with (first
      | (go_at_call 31; (with_reducible refine (HCA.out).mono ?_); rintro e w1 ⟨rfl, hw1⟩)
      | (go_at_call 30; (with_reducible refine (HRD.out _ hw1).mono ?_); rintro e w2 ⟨G, cl, al, rfl, _, _, hcl, hw2⟩))
    go_ret2
    exact ⟨rfl, (hw1.trans hw2).alloc _⟩
theorem detC : DetC := ⟨mdet_no, mdet_ok⟩

set_option maxHeartbeats 1000000 in
theorem minv_no {m : List (List Int)} {a : Option Addr} {la ca : Nat} {w : World} (ha : IsMat .u8 w a la ca m) (h : detE m ≠ 0) :
    Calls Try.prog 19 #[.slice a la ca] w (Nil2 (detE m) w) := by
  have HCA := Lib.hid (squareC ha)
  obtain ⟨t, ht⟩ : ∃ t, detE m = t := ⟨_, rfl⟩
  rw [ht] at HCA h ⊢
  have q2 : (t != 0) = true := by simpa using h
  clear ht h ha
  go_enter Try.func19, Try.ntmps19
  go_wp2_with (go_at_call 31; (with_reducible refine (HCA.out).mono ?_); rintro e w1 ⟨rfl, hw1⟩)
  go_ret2
  exact ⟨_, _, rfl, hw1⟩

/-- What the walk of Inverse is told. -/
theorem inv_told {A M : Nat → Nat → E} {n : Nat} {P : List (Nat × Nat)} {d : E} (hS : redu (sideBy A un n) n n = (M, P, d)) : P.length ≤ n ∧ (P.length < n → det A n = 0) ∧ (P.length = n → det A n ≠ 0 ∧ InvOf A (fun i j => M i (n + j)) n) := by
  have hJ := redu_jor _ n (n + n) n M P d (by omega) hS
  have hd := side_det A un n
  exact ⟨hJ.jor.few, fun h => by rw [← hd]; exact hJ.few (by omega) h, fun h => ⟨by rw [← hd, hJ.all (by omega) h]; exact hJ.nz, side_inv hJ.jor h⟩⟩

set_option maxRecDepth 100000 in
set_option maxHeartbeats 1000000 in
theorem minv_none {A : Nat → Nat → E} {n : Nat} {a : Option Addr} {ca : Nat} {w : World} (h1 : 1 ≤ n) (h2 : n ≤ 12) (ha : ReadsT w a n n A) (h0 : det A n = 0) :
    Calls Try.prog 19 #[.slice a n ca] w (Nil2 5 w) := by
  obtain ⟨M, P, d, hS⟩ : ∃ M P d, redu (sideBy A un n) n n = (M, P, d) := ⟨_, _, _, rfl⟩
  obtain ⟨p, hp⟩ : ∃ p, P.length = p := ⟨_, rfl⟩
  have ht := inv_told hS
  rw [hp] at ht
  have hpn : p < n := by
    have := ht.1
    rcases Nat.lt_or_ge p n with h | h
    · exact h
    · exact absurd h0 (ht.2.2 (by omega)).1
  have dl := d.lt
  have HCA := Lib.hid (msquare_ok h1 h2 ha ca)
  have HID := Lib.hid fun w2 => identity_any n w2 h1 (by omega)
  have HBS := Lib.hid fun w2 G2 (k : Ex w w2) (hr : ReadsT w2 (some ⟨G2, 0, none⟩) n n un) => beside_any (ca := ca) (cb := n) h1 (by omega) h1 (by omega) h1 (by omega) (ha.ex k) hr
  have HRD := Lib.hid fun w2 G2 (hr : ReadsT w2 (some ⟨G2, 0, none⟩) n (n + n) (sideBy A un n)) => reduce_at (ca := n) (w := w2) h1 (by omega) (by omega) (by omega) (show n ≤ n + n by omega) hr hS hp
  clear ha hS hp ht h0
  go_enter Try.func19, Try.ntmps19
  go_wp2_with (first
    | (go_at_call 31; (with_reducible refine (HCA.out).mono ?_); rintro e w1 ⟨rfl, hw1⟩)
    | (go_at_call 41; (with_reducible refine (HID.out _).mono ?_); rintro e w2 ⟨G2, rfl, hr2, hw2⟩)
    | (go_at_call 40; (with_reducible refine (HBS.out _ _ (hw1.trans hw2) hr2.out).mono ?_); rintro e w3 ⟨G3, rfl, hr3, hw3⟩)
    | (go_at_call 30; (with_reducible refine (HRD.out _ _ hr3.out).mono ?_); rintro e w4 ⟨G, cl, al, rfl, hT, _, hcl, hw4⟩)
    | fail)
  go_ret2
  exact ⟨_, _, rfl, (((hw1.trans hw2).trans hw3).trans hw4).alloc _⟩

end Go.Proofs.Ytmmfclkkncbgfaa
