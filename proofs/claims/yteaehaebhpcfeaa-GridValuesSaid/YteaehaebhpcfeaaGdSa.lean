/-
  GridSays: what is asked of bytes; Powers and Crossed, each in one.
-/
import Derived.Test.YteaehaebhpcfeaaGdUn
import Derived.Test.YteaehaebhpcfeaaByteIn
namespace Go.Proofs.Yteaehaebhpcfeaa
open Go.RowKit
open Gf

theorem wf_of {n : Int} (h : I64 n) : (Lit.int .i64 n).wf = true := by
  have h1 : IntKind.i64.min = -9223372036854775808 := rfl
  have h2 : IntKind.i64.max = 9223372036854775807 := rfl
  obtain ⟨h3, h4⟩ := h
  simp [Lit.wf, h1, h2]
  omega

theorem entered_gs : Entered Try.prog 13 := fun _ _ => by kernel_rfl

theorem gs1_any (x : Int) (xs : List Int) (a : Option Addr) (cap n bx : Nat) (w : World) (hn : xs.length = n) (hl : n ≤ 9223372036854775807) (hr : Reads w .u8 a xs) (hbx : w.cell? ⟨bx, 0, none⟩ = some (.slice a n cap)) (b : Bool) (hb : b = true ↔ x ∈ xs) :
    Calls Try.prog 13 (#[.int .u8 x] ++ #[.pointer (some ⟨bx, 0, none⟩)]) w (Says (.bool b) w) := by
  have HC := Lib.hid (byte_contains x xs a cap n w hn hl hr b hb)
  clear hr hb
  go_enter Try.func13, Try.ntmps13
  go_wp2_with (go_at_call 14; (with_reducible refine (HC.out).mono ?_); rintro e w2 ⟨rfl, hw2⟩)
  go_ret
  exact ⟨rfl, hw2⟩

/-- Powers, in one. -/
theorem pow_in (HP : PowersC) {a : Option Addr} {la ca : Nat} {z : List Int} {n : Int} {w : World} (ha : IsInts .u8 1 w a la ca z) (hn : (Lit.int .i64 n).wf = true) :
    Calls Try.prog 7 #[.slice a la ca, .int .i64 n] w (fun e w2 => ∃ (ap : Option Addr) (lp cp : Nat), e = .returned (.tuple #[.slice ap lp cp, .int .i64 (powE z n)]) ∧ Hid ((powE z n ≠ 0 → lp = 0) ∧ (powE z n = 0 → lp = la ∧ lp ≤ cp ∧ ReadsT w2 ap la n.toNat (fun r k => ep (rwb z r) k))) ∧ Ex w w2) := by
  by_cases h : powE z n = 0
  · obtain ⟨h1, h2, h3⟩ := powE_zero.mp h
    obtain ⟨h4, h5, h6⟩ := unE_zero.mp h1
    have hl := ha.1
    obtain ⟨m, rfl⟩ : ∃ m : Nat, n = (m : Int) := ⟨n.toNat, by omega⟩
    have hk1 := ha.2.1
    have hk2 : ca ≤ 140737488351232 := by have := ha.2.2.1; omega
    refine (HP.ok (n := m) (by omega) (by omega) hk1 hk2 (by omega) (by omega) (fun i k hk hi => ha.unlike h6 i k hk hi) (ha.vec (by omega))).mono ?_
    rintro e w2 ⟨a2, c2, rfl, h7, h8, hx⟩
    exact ⟨a2, la, c2, by rw [h], Lib.hid ⟨fun hc => absurd h hc, fun _ => ⟨rfl, h7.out.1, h8.out⟩⟩, hx⟩
  · refine (HP.no ha hn h).mono ?_
    rintro e w2 ⟨a2, c2, rfl, hx⟩
    exact ⟨a2, 0, c2, rfl, Lib.hid ⟨fun _ => rfl, fun hc => absurd hc h⟩, hx⟩

/-- Crossed, in one. -/
theorem cross_in (HC : CrossC) {a b : Option Addr} {la ca lb cb : Nat} {y z : List Int} {w : World} (ha : IsInts .u8 1 w a la ca y) (hb : IsInts .u8 1 w b lb cb z) :
    Calls Try.prog 8 #[.slice a la ca, .slice b lb cb] w (fun e w2 => ∃ (ap : Option Addr) (lp cp : Nat), e = .returned (.tuple #[.slice ap lp cp, .int .i64 (crE y z)]) ∧ Hid ((crE y z ≠ 0 → lp = 0) ∧ (crE y z = 0 → lp = la ∧ lp ≤ cp ∧ ReadsT w2 ap la lb (fun r k => (rwb y r + rwb z k).inv))) ∧ Ex w w2) := by
  by_cases h : crE y z = 0
  · obtain ⟨h1, h2, h3⟩ := crE_zero.mp h
    obtain ⟨h4, h5, h6⟩ := unE_zero.mp h1
    obtain ⟨g4, g5, g6⟩ := unE_zero.mp h2
    have hl := ha.1
    have hl2 := hb.1
    have hk1 := ha.2.1
    have hk2 : ca ≤ 140737488351232 := by have := ha.2.2.1; omega
    have hk3 := hb.2.1
    have hk4 : cb ≤ 140737488351232 := by have := hb.2.2.1; omega
    refine (HC.ok (by omega) (by omega) hk1 hk2 (by omega) (by omega) hk3 hk4 (fun i k hk hi => ha.unlike h6 i k hk hi) (fun i k hk hi => hb.unlike g6 i k hk hi) (fun i k hi hk e => ?_) (ha.vec (by omega)) (hb.vec (by omega))).mono ?_
    · have e1 := ha.rwb_v (i := i) (by omega)
      have e2 := hb.rwb_v (i := k) (by omega)
      rw [e] at e1
      have e3 : nth z k = nth y i := e2.symm.trans e1
      exact h3 (nth z k) (nth_mem (by omega)) (by rw [e3]; exact nth_mem (by omega))
    · rintro e w2 ⟨a2, c2, rfl, h7, h8, hx⟩
      exact ⟨a2, la, c2, by rw [h], Lib.hid ⟨fun hc => absurd h hc, fun _ => ⟨rfl, h7.out.1, h8.out⟩⟩, hx⟩
  · refine (HC.no ha hb h).mono ?_
    rintro e w2 ⟨a2, c2, rfl, hx⟩
    exact ⟨a2, 0, c2, rfl, Lib.hid ⟨fun _ => rfl, fun hc => absurd hc h⟩, hx⟩

end Go.Proofs.Yteaehaebhpcfeaa
