/-
  wholelaw, wholekeep: sameRows, of two tables that read alike.
-/
import Derived.Test.YteaehaebhpcfeaaTabTurn
import Derived.Test.YteaehaebhpcfeaaGro
namespace Go.Proofs.Yteaehaebhpcfeaa
open Go.RowKit
open Gf

theorem sameBytes_any (F : Nat → E) (C : Nat) (hC : C ≤ 100) (b1 o1 b2 o2 c1 c2 : Nat) (w : World) (h1 : ∀ k, k < C → w.cell? ⟨b1, o1 + k, none⟩ = some (.int .u8 (((F k).v : Nat) : Int))) (h2 : ∀ k, k < C → w.cell? ⟨b2, o2 + k, none⟩ = some (.int .u8 (((F k).v : Nat) : Int))) :
    Calls Try.prog 36 #[.slice (some ⟨b1, o1, none⟩) C c1, .slice (some ⟨b2, o2, none⟩) C c2] w (Says (.bool true) w) := by
  have hl := bl_length F C
  have := bytes_equal (bl F C) (bl F C) (some ⟨b1, o1, none⟩) (some ⟨b2, o2, none⟩) c1 c2 w (by rw [hl]; unfold maxLen; omega) (by rw [hl]; unfold maxLen; omega)
    (.inr ⟨b1, o1, rfl, fun i hi => by rw [hl] at hi; rw [bl_nth hi]; exact h1 i hi⟩) (.inr ⟨b2, o2, rfl, fun i hi => by rw [hl] at hi; rw [bl_nth hi]; exact h2 i hi⟩) true (by simp)
  rw [hl] at this
  exact this
theorem entered_bytes : Entered Try.prog 36 := fun _ _ => by kernel_rfl

theorem same_any (F : Nat → E) (C : Nat) (hC : C ≤ 100) (b1 o1 b2 o2 c1 c2 : Nat) (w : World) (h1 : ∀ k, k < C → w.cell? ⟨b1, o1 + k, none⟩ = some (.int .u8 (((F k).v : Nat) : Int))) (h2 : ∀ k, k < C → w.cell? ⟨b2, o2 + k, none⟩ = some (.int .u8 (((F k).v : Nat) : Int))) :
    Calls Try.prog 33 #[.slice (some ⟨b1, o1, none⟩) C c1, .slice (some ⟨b2, o2, none⟩) C c2] w (Says (.bool true) w) := by
  have HS := Lib.hid (sameBytes_any F C hC b1 o1 b2 o2 c1 c2 w h1 h2)
  clear h1 h2
  go_enter Try.func33, Try.ntmps33
  go_wp2_with (go_at_call 36; (with_reducible refine (HS.out).mono ?_); rintro e w2 ⟨rfl, hw2⟩)
  go_ret
  exact ⟨rfl, hw2⟩
theorem entered_same : Entered Try.prog 33 := fun _ _ => by kernel_rfl

set_option maxHeartbeats 1000000 in
theorem equalRows_any (f : FuncId) (R C : Nat) (M : Nat → Nat → E) (hR : R ≤ 100) (h1R : 1 ≤ R) (a b : Option Addr) (ca cb : Nat) (w : World) (ha : ReadsT w a R C M) (hb : ReadsT w b R C M) (hf : Entered Try.prog f)
    (hq : ∀ (F : Nat → E) (b1 o1 b2 o2 c1 c2 : Nat) (w : World), (∀ k, k < C → w.cell? ⟨b1, o1 + k, none⟩ = some (.int .u8 (((F k).v : Nat) : Int))) → (∀ k, k < C → w.cell? ⟨b2, o2 + k, none⟩ = some (.int .u8 (((F k).v : Nat) : Int))) →
      Calls Try.prog f #[.slice (some ⟨b1, o1, none⟩) C c1, .slice (some ⟨b2, o2, none⟩) C c2] w (Says (.bool true) w)) :
    Calls Try.prog 32 #[.slice a R ca, .slice b R cb, .func (.func f) #[] #[]] w (Says (.bool true) w) := by
  obtain ⟨bA, oA, _, _, _, rfl, _⟩ := ha.at (r := 0) (by omega)
  obtain ⟨bB, oB, _, _, _, rfl, _⟩ := hb.at (r := 0) (by omega)
  have HA := Lib.hid ha
  have HB := Lib.hid hb
  have HQ := Lib.hid hq
  clear ha hb hq
  go_enter Try.func32, Try.ntmps32
  go_wp2
  go_loopg [17] R (fun k v17 wr => ∃ i : Nat, i ≤ R ∧ v17 = .int .i64 (i : Int) ∧ Hid (k = R - i) ∧ Ex w wr)
  case atStart => exact ⟨0, by omega, rfl, Lib.hid rfl, Ex.refl _⟩
  case round =>
    obtain ⟨i, hi, rfl, hk, hx⟩ := hrel
    by_cases hlt : i < R
    · obtain ⟨bA2, oA2, bAi, oAi, cAi, eA, hAi, hAic, hAim, hAik⟩ := HA.out.at hlt
      obtain ⟨rfl, rfl⟩ : bA = bA2 ∧ oA = oA2 := by have := congrArg (fun x => (x.getD ⟨0, 0, none⟩ : Addr)) eA; simp at this; exact this
      obtain ⟨bB2, oB2, bBi, oBi, cBi, eB, hBi, hBic, hBim, hBik⟩ := HB.out.at hlt
      obtain ⟨rfl, rfl⟩ : bB = bB2 ∧ oB = oB2 := by have := congrArg (fun x => (x.getD ⟨0, 0, none⟩ : Addr)) eB; simp at this; exact this
      have q1 := hx.cell hAi
      have q2 := hx.cell hBi
      have HCall := Lib.hid (HQ.out (M i) bAi oAi bBi oBi cAi cBi wr (fun k hk => hx.cell (hAik k hk)) fun k hk => hx.cell (hBik k hk))
      have hent := hf #[.slice (some ⟨bAi, oAi, none⟩) C cAi, .slice (some ⟨bBi, oBi, none⟩) C cBi]
      clear eA eB hAi hBi hAik hBik
      go_wp2_with (first
        | (refine (HCall.out).mono ?_; rintro e w2 ⟨rfl, hw2⟩))
      go_roundg (R - (i + 1))
      case measure => have := hk.out; omega
      case rel => exact ⟨i + 1, by omega, by go_num, Lib.hid rfl, hx.trans hw2⟩
    · have e : i = R := by omega
      subst e
      go_wp2
      go_ret
      exact ⟨rfl, hx⟩

theorem lawSame_any (R C : Nat) (M : Nat → Nat → E) (hR : R ≤ 100) (h1R : 1 ≤ R) (hC : C ≤ 100) (a b : Option Addr) (ca cb : Nat) (w : World) (ha : ReadsT w a R C M) (hb : ReadsT w b R C M) :
    Calls Try.prog 11 #[.slice a R ca, .slice b R cb] w (Says (.bool true) w) := by
  have HS := Lib.hid (equalRows_any 33 R C M hR h1R a b ca cb w ha hb entered_same fun F b1 o1 b2 o2 c1 c2 w h1 h2 => same_any F C hC b1 o1 b2 o2 c1 c2 w h1 h2)
  clear ha hb
  go_enter Try.func11, Try.ntmps11
  go_wp2_with (go_at_call 32; (with_reducible refine (HS.out).mono ?_); rintro e w2 ⟨rfl, hw2⟩)
  go_ret
  exact ⟨rfl, hw2⟩

theorem keepSame_any (R C : Nat) (M : Nat → Nat → E) (hR : R ≤ 100) (h1R : 1 ≤ R) (hC : C ≤ 100) (a b : Option Addr) (ca cb : Nat) (w : World) (ha : ReadsT w a R C M) (hb : ReadsT w b R C M) :
    Calls Try.prog 16 #[.slice a R ca, .slice b R cb] w (Says (.bool true) w) := by
  have HS := Lib.hid (equalRows_any 36 R C M hR h1R a b ca cb w ha hb entered_bytes fun F b1 o1 b2 o2 c1 c2 w h1 h2 => sameBytes_any F C hC b1 o1 b2 o2 c1 c2 w h1 h2)
  clear ha hb
  go_enter Try.func16, Try.ntmps16
  go_wp2_with (go_at_call 32; (with_reducible refine (HS.out).mono ?_); rintro e w2 ⟨rfl, hw2⟩)
  go_ret
  exact ⟨rfl, hw2⟩

end Go.Proofs.Yteaehaebhpcfeaa
