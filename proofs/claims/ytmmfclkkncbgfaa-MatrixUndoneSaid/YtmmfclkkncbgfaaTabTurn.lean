/-
  wholekeep: turned.
-/
import Derived.Test.YtmmfclkkncbgfaaTabMul
namespace Go.Proofs.Ytmmfclkkncbgfaa
open Go.RowKit
open Gf

set_option maxRecDepth 100000 in
set_option maxHeartbeats 2000000 in
theorem turned_any (A : Nat → Nat → E) (R C : Nat) (a : Option Addr) (ca : Nat) (w : World) (hR : 1 ≤ R) (hR2 : R ≤ 12) (hC : 1 ≤ C) (hC2 : C ≤ 12) (ha : ReadsT w a R C A) :
    Calls Try.prog 27 #[.slice a R ca] w (Tabd C R (fun j i => A i j) w) := by
  obtain ⟨bA, oA, bA0, oA0, cA0, rfl, hA0, hA0c, hA0m, _⟩ := ha.at (r := 0) (by omega)
  rw [Nat.add_zero] at hA0
  have HA := Lib.hid ha
  clear ha
  go_enter Try.func27, Try.ntmps27
  go_wp2
  go_loopg [3, 11] C (fun k v3 v11 wr => ∃ (j : Nat) (V : Value), j ≤ C ∧ v3 = V ∧ v11 = .int .i64 j ∧ Hid (OwnT 32 wr w.heap.size V R j (fun j i => A i j)) ∧ Hid (k = C - j) ∧ Ex w wr)
  case atStart => exact ⟨0, _, by omega, rfl, rfl, Lib.hid (OwnT.nil _ _ _ _ _), Lib.hid rfl, Ex.refl _⟩
  case round =>
    obtain ⟨j, V, hj, rfl, rfl, hO, hk, hx⟩ := hrel
    by_cases hlt : j < C
    · rename World => wo
      go_wp2
      go_loopg [5, 16] R (fun k v5 v16 wr => ∃ (i : Nat) (U : Value), i ≤ R ∧ v5 = U ∧ v16 = .int .i64 i ∧ Hid (Row 5 .u8 wr wo.heap.size U (bl (fun i => A i j) i)) ∧ Hid (k = R - i) ∧ Ex wo wr)
      case atStart => exact ⟨0, _, by omega, rfl, rfl, Lib.hid (Row.nil _ _ _ _), Lib.hid rfl, Ex.refl _⟩
      case round =>
        obtain ⟨i, U, hi, rfl, rfl, hRow, hk2, hx2⟩ := hrel
        by_cases hit : i < R
        · obtain ⟨bA2, oA2, bAi, oAi, cAi, eA, hAi, hAic, hAim, hAik⟩ := HA.out.at hit
          obtain ⟨rfl, rfl⟩ : bA = bA2 ∧ oA = oA2 := by have := congrArg (fun x => (x.getD ⟨0, 0, none⟩ : Addr)) eA; simp at this; exact this
          have hAI := (hx.trans hx2).cell hAi
          have hAIJ := (hx.trans hx2).cell (hAik j hlt)
          obtain ⟨X, hXX⟩ : ∃ X, A i j = X := ⟨_, rfl⟩
          have HXF : Hid (X = (fun i => A i j) i) := Lib.hid hXX.symm
          rw [hXX] at hAIJ
          have xl := X.lt
          clear eA hAi hAik hXX
          have c1 := cell_fresh1 wr (.int .u8 ((X.v : Nat) : Int)) 5
          have HXw := Lib.hid ((hx2).alloc (.cells #[.int .u8 ((X.v : Nat) : Int)] 5))
          have HRA := Lib.hid ((hRow.out.ex (Ex.refl wr)).ex ((Ex.refl wr).alloc (.cells #[.int .u8 ((X.v : Nat) : Int)] 5)))
          go_wp2_with (at_builtin; refine wpList_append_int rfl _ _ 32 rfl wo.heap.size 5 .u8 1 Try.underlying32 info_u8 _ (bl (fun i => A i j) i) rfl HRA.out ((X.v : Nat) : Int) wr.heap.size rfl c1 (by rw [bl_length]; unfold maxLen; omega) (by rw [bl_length]; omega) HXw.out.size ?_
                       intro v1 w3 hown3 hgrow3 hat3
                       have HX3 := Lib.hid (HRA.out.grown HXw.out hgrow3)
                       rw [HXF.out, bl_snoc] at hown3
                       have HR3 := Lib.hid hown3
                       clear hown3 hgrow3 hat3 c1)
          go_roundg (R - (i + 1))
          case measure => have := hk2.out; omega
          case rel => exact ⟨i + 1, v1, by omega, rfl, by go_num, HR3, Lib.hid rfl, HX3.out⟩
        · have e : R = i := by omega
          subst e
          obtain ⟨ar, cr, eRow⟩ : ∃ ar cr, u5 = .slice ar R cr := by
            obtain ⟨ar, cr, e, _⟩ := hRow.out.reads
            rw [bl_length] at e
            exact ⟨_, _, e⟩
          subst eRow
          have c1 := cell_fresh1 wr (.slice ar R cr) 32
          have HXa := Lib.hid ((Ex.refl wr).alloc (.cells #[.slice ar R cr] 32))
          have HRA := Lib.hid (hRow.out.ex HXa.out)
          have HOA := Lib.hid ((hO.out.ex (hx2)).ex HXa.out)
          have HXz := Lib.hid ((hx2).trans HXa.out)
          have HXw := Lib.hid (((hx).trans (hx2)).trans HXa.out)
          have HBB := Lib.hid (hx).size
          go_wp2_with (at_builtin; refine wpList_append_row rfl _ _ 22 rfl w.heap.size 32 Try.underlying22 info_bytes _ rfl hO.out HXz.out HRA.out (by omega) HBB.out wr.heap.size rfl c1 (by omega) ?_
                       intro v1 w3 hown3 hgrow3
                       have HX3 := Lib.hid (HOA.out.grown HXw.out hgrow3)
                       have HOWN3 := Lib.hid hown3
                       clear hown3 hgrow3 c1)
          go_roundg (C - (j + 1))
          case measure => have := hk.out; omega
          case rel => exact ⟨j + 1, v1, by omega, rfl, by go_num, Lib.hid (HOWN3.out.congr fun r _ k _ => by by_cases h : r = j <;> simp [h]), Lib.hid rfl, HX3.out⟩
    · have e : C = j := by omega
      subst e
      obtain ⟨a2, c2, rfl, h1, h2, h3⟩ := hO.out.reads hC
      have HT := Lib.hid h3
      have HC2 := Lib.hid (And.intro h1 h2)
      clear h3 h1 h2
      go_wp2
      go_ret
      exact ⟨a2, c2, rfl, HC2, HT, hx⟩

end Go.Proofs.Ytmmfclkkncbgfaa
