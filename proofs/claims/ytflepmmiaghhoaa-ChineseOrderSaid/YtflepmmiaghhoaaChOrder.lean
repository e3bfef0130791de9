/-
  ChineseOrder, walked.
-/
import Derived.Test.YtflepmmiaghhoaaChKeep
import Derived.Test.YtflepmmiaghhoaaChRev
namespace Go.Proofs.Ytflepmmiaghhoaa
open Go.RowKit
open Eu Rs Ch

theorem RowR.read {e : TypeId} {w : World} {base n cap : Nat} {a : Option Addr} {l : List (Int × Int)} (h : RowR e w base (.slice a n cap) l) : ReadsR w a l := by
  obtain ⟨a2, cap2, h1, _, h2, _⟩ := h.reads
  simp only [Value.slice.injEq] at h1
  rw [h1.1]; exact h2

set_option maxHeartbeats 1000000 in
theorem chineseOrder_walk (a : Option Addr) (len cap : Nat) (l : List (Int × Int)) (k : Int) (w : World) (hz : IsPairs w a len cap l) (_ : I64 k) : Calls Try.prog 6 #[.slice a len cap, .int .i64 k] w (Says (.bool true) w) := by
  obtain ⟨rfl, hl, hcap, hr, hnil, _⟩ := hz
  obtain ⟨x, M, er, hJ⟩ := jn_some l
  have HJ := Lib.hid (fun w2 (hx : Ex w w2) => join_any l x M er a cap w2 (by omega) (hr.ex hx) hJ)
  have HCL := Lib.hid (fun w2 (hx : Ex w w2) => clone_rests l a cap w2 (by omega) (hr.ex hx) (fun h => by have := hnil h; exact ⟨List.length_eq_zero_iff.mp (by omega), this⟩))
  have HRV := Lib.hid (fun (v : Value) (base : Nat) w2 (hx : RowR 32 w2 base v l) => reverse_rests 32 base v l w2 hx (by omega))
  have HJ2 : Hid (∀ (a2 : Option Addr) (cap2 : Nat) (w2 : World), ReadsR w2 a2 l.reverse → Calls Try.prog 7 #[.slice a2 l.length cap2] w2 (Says (.tuple #[.int .i64 x, .int .i64 M, .int .i64 er]) w2)) :=
    Lib.hid fun a2 cap2 w2 h2 => by
      have := join_any l.reverse x M er a2 cap2 w2 (by rw [List.length_reverse]; omega) h2 hJ.rev
      rw [List.length_reverse] at this
      exact this
  obtain ⟨K, hK⟩ : ∃ K : Nat, k % ((l.length : Int) + 1) = K := ⟨(k % ((l.length : Int) + 1)).toNat, by have := Int.emod_nonneg k (b := (l.length : Int) + 1) (by omega); omega⟩
  have K2 : K ≤ l.length := by have := Int.emod_lt_of_pos k (b := (l.length : Int) + 1) (by omega); omega
  obtain ⟨z, o, g, hP⟩ := jn_some (l.take K)
  have HJ3 : Hid (∀ w2 : World, Ex w w2 → Calls Try.prog 7 #[.slice a K cap] w2 (Says (.tuple #[.int .i64 z, .int .i64 o, .int .i64 g]) w2)) :=
    Lib.hid fun w2 hx => by
      have := join_any (l.take K) z o g a cap w2 (by rw [List.length_take]; omega) ((hr.ex hx).take K) hP
      rw [List.length_take, Nat.min_eq_left K2] at this
      exact this
  have HKK := Lib.hid hK
  by_cases he : er = 0
  · subst he
    obtain ⟨rfl, o1, hMo, hxo⟩ := hJ.front K hP
    obtain ⟨hc, hM, hJ5⟩ := hJ.ok rfl
    have hMb : M ≤ 1000000000000000000 := by
      rw [hM]
      exact lcs_le (chk_zero.mp hc).1 (chk_zero.mp hc).2
    obtain ⟨M1, x0, x1, _⟩ := hJ5
    clear hJ hP hr hc hM hK hnil
    go_enter Try.func6, Try.ntmps6
    go_wp2_with (first
      | (go_at_call 15; refine (joins_yes _).mono ?_; rintro e w1 ⟨rfl, hw1⟩)
      | (go_at_call 7; (with_reducible refine (HJ.out _ hw1).mono ?_); rintro e w2 ⟨rfl, hw2⟩; have hx2 := hw1.trans hw2)
      | (go_at_call 19; (with_reducible refine (HCL.out _ hx2).mono ?_); rintro e w3 ⟨v, rfl, hrow3, hw3⟩; obtain ⟨a2, cap2, rfl, _, _, _⟩ := hrow3.out.reads)
      | (go_at_call 20; (with_reducible refine (HRV.out _ _ _ hrow3.out).mono ?_); rintro e w4 ⟨rfl, hrow4, hgrow⟩; have hx4 := hx2.trans (RowR.grown hrow3.out hw3 hgrow); have HR4 := Lib.hid hrow4.read)
      | (go_at_call 7; (with_reducible refine (HJ2.out _ _ _ HR4.out).mono ?_); rintro e w5 ⟨rfl, hw5⟩; have hx5 := hx4.trans hw5)
      | (go_at_call 16; refine (within_any _ _ _ (by omega) (by omega)).mono ?_; rintro e w' ⟨rfl, rfl⟩; rw [HKK.out])
      | (go_at_call 7; (with_reducible refine (HJ3.out _ hx5).mono ?_); rintro e w6 ⟨rfl, hw6⟩))
    go_ret
    exact ⟨rfl, hx5.trans hw6⟩
  · have heb : (er != 0) = true := by simpa using he
    clear hJ hP hr hK hnil he
    go_enter Try.func6, Try.ntmps6
    go_wp2_with (first
      | (go_at_call 15; refine (joins_yes _).mono ?_; rintro e w1 ⟨rfl, hw1⟩)
      | (go_at_call 7; (with_reducible refine (HJ.out _ hw1).mono ?_); rintro e w2 ⟨rfl, hw2⟩; have hx2 := hw1.trans hw2)
      | (go_at_call 19; (with_reducible refine (HCL.out _ hx2).mono ?_); rintro e w3 ⟨v, rfl, hrow3, hw3⟩; obtain ⟨a2, cap2, rfl, _, _, _⟩ := hrow3.out.reads)
      | (go_at_call 20; (with_reducible refine (HRV.out _ _ _ hrow3.out).mono ?_); rintro e w4 ⟨rfl, hrow4, hgrow⟩; have hx4 := hx2.trans (RowR.grown hrow3.out hw3 hgrow); have HR4 := Lib.hid hrow4.read)
      | (go_at_call 7; (with_reducible refine (HJ2.out _ _ _ HR4.out).mono ?_); rintro e w5 ⟨rfl, hw5⟩; have hx5 := hx4.trans hw5)
      | (go_at_call 16; refine (within_any _ _ _ (by omega) (by omega)).mono ?_; rintro e w' ⟨rfl, rfl⟩; rw [HKK.out])
      | (go_at_call 7; (with_reducible refine (HJ3.out _ hx5).mono ?_); rintro e w6 ⟨rfl, hw6⟩))
    go_ret
    exact ⟨rfl, hx5.trans hw6⟩

end Go.Proofs.Ytflepmmiaghhoaa
