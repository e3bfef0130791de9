/-
  ChineseOne, walked.
-/
import Derived.Test.YtflepmmiaghhoaaChKeep
namespace Go.Proofs.Ytflepmmiaghhoaa
open Go.RowKit
open Eu Rs Ch

/-- n does not fit r. -/
def misfit (n : Int) (r : Int × Int) : Bool := decide (r.2 < 1) || !(n % r.2 == r.1)
theorem misfit_iff {l : List (Int × Int)} (ho : ∀ r ∈ l, OkR r) (n : Int) : l.any (misfit n) = false ↔ Sol l n := by
  rw [List.any_eq_false]
  constructor
  · intro h r hr
    have := h r hr
    unfold misfit at this
    simp at this
    exact this.2
  · intro h r hr
    unfold misfit
    have h1 := h r hr
    have h2 := (ho r hr).1
    simp [h1]
    omega

set_option maxHeartbeats 1000000 in
theorem fitOne_any (n r m : Int) (b : Nat) (w : World) (hn : 0 ≤ n) (hn2 : n ≤ 9223372036854775807) (m1 : 1 ≤ m) (m2 : m ≤ 1000) (hc : w.cell? ⟨b, 0, none⟩ = some (.int .i64 n)) :
    Calls Try.prog 18 #[.agg #[.int .i64 r, .int .i64 m], .pointer (some ⟨b, 0, none⟩)] w (Says (.bool (misfit n (r, m))) w) := by
  have hx0 := ((Ex.refl w).alloc (.cells #[.int .i64 r, .int .i64 m] 32)).cell hc
  have hc0 := cell_two0 (heap_alloc_new w (.cells #[.int .i64 r, .int .i64 m] 32))
  have hc1 := cell_two1 (heap_alloc_new w (.cells #[.int .i64 r, .int .i64 m] 32))
  have e1 : misfit n (r, m) = !(n % m == r) := by unfold misfit; simp; omega
  rw [e1]
  clear e1
  have hd : decide (m < 1) = false := by simp; omega
  cases hq : (n % m == r)
  all_goals
    have hq2 : (n % m != r) = !(n % m == r) := rfl
    rw [hq] at hq2
    go_enter Try.func18, Try.ntmps18
    go_wp2
    go_quiet (fail)
    go_wp2
    go_ret
    exact ⟨rfl, ((Ex.refl w).alloc _).drewN _⟩

theorem entered_fitOne : Entered Try.prog 18 := fun _ _ => by kernel_rfl

set_option maxHeartbeats 1000000 in
theorem fits_any (n : Int) (l : List (Int × Int)) (a : Option Addr) (cap b : Nat) (w : World) (hn : 0 ≤ n) (hn2 : n ≤ 9223372036854775807) (ho : ∀ r ∈ l, OkR r) (hl : l.length ≤ 140737488355328) (hr : ReadsR w a l) (hc : w.cell? ⟨b, 0, none⟩ = some (.slice a l.length cap)) (v : Bool) (hv : l.any (misfit n) = !v) :
    Calls Try.prog 17 #[.int .i64 n, .pointer (some ⟨b, 0, none⟩)] w (Says (.bool v) w) := by
  have hx0 := ((Ex.refl w).alloc (.cells #[.int .i64 n] 3)).cell hc
  have hx1 : (w.alloc (.cells #[.int .i64 n] 3)).cell? ⟨w.heap.size, 0, none⟩ = some (.int .i64 n) := by
    have := heap_alloc_new w (.cells #[.int .i64 n] 3)
    unfold World.cell?
    simp only [this]
    simp
  have HI := Lib.hid (rests_contains 18 #[.pointer (some ⟨w.heap.size, 0, none⟩)] (misfit n) l a cap (w.alloc (.cells #[.int .i64 n] 3)) hl (hr.ex ((Ex.refl w).alloc _)) entered_fitOne
    (fun x hx2 w2 hx => fitOne_any n x.1 x.2 _ w2 hn hn2 (ho x hx2).1 (ho x hx2).2.1 (hx.cell hx1)))
  rw [hv] at HI
  clear hr hx1
  go_enter Try.func17, Try.ntmps17
  go_wp2_with ((go_at_call 11; refine (HI.out).mono ?_; rintro e w2 ⟨rfl, hw2⟩))
  go_ret
  exact ⟨by simp, ((Ex.refl w).alloc _).trans hw2⟩

set_option maxHeartbeats 1000000 in
theorem chineseOne_walk (a : Option Addr) (len cap : Nat) (l : List (Int × Int)) (n : Int) (w : World) (hz : IsPairs w a len cap l) (_ : I64 n) : Calls Try.prog 5 #[.slice a len cap, .int .i64 n] w (Says (.bool true) w) := by
  obtain ⟨rfl, hl, hcap, hr, _, _⟩ := hz
  obtain ⟨x, M, er, hJ⟩ := jn_some l
  have HJ := Lib.hid (fun w2 (hx : Ex w w2) => join_any l x M er a cap w2 (by omega) (hr.ex hx) hJ)
  have hb : (w.alloc (.cells #[.slice a l.length cap] 22)).cell? ⟨w.heap.size, 0, none⟩ = some (.slice a l.length cap) := by
    have := heap_alloc_new w (.cells #[.slice a l.length cap] 22)
    unfold World.cell?
    simp only [this]
    simp
  have HA := Lib.hid ((Ex.refl w).alloc (.cells #[.slice a l.length cap] 22))
  by_cases he : er = 0
  · subst he
    obtain ⟨hc, hM, hJ2⟩ := hJ.ok rfl
    have ho := (chk_zero.mp hc).2
    obtain ⟨M1, x0, x1, hs⟩ := hJ2
    have HSX : Hid (l.any (misfit x) = !true) := Lib.hid ((misfit_iff ho x).mpr ((hs x).mpr (Int.emod_eq_of_lt x0 x1)))
    obtain ⟨N, hN⟩ : ∃ N, n % 1099511627776 = N := ⟨_, rfl⟩
    have N1 : 0 ≤ N := by omega
    have N2 : N < 1099511627776 := by omega
    have hMb : M ≤ 1000000000000000000 := by
      rw [hM]
      exact lcs_le (chk_zero.mp hc).1 ho
    have HSN : Hid (l.any (misfit N) = !(N % M == x)) := Lib.hid (by
      cases h : (N % M == x)
      · cases h2 : l.any (misfit N)
        · have := (hs N).mp ((misfit_iff ho N).mp h2)
          simp [this] at h
        · rfl
      · have := (misfit_iff ho N).mpr ((hs N).mpr (by simpa using h))
        rw [this]; rfl)
    have HO := Lib.hid ho
    have HR := Lib.hid hr
    have g1 : decide (0 < M) = true := by simp; omega
    have g2 : decide (0 ≤ x) = true := by simp; omega
    have g3 : decide (x < M) = true := by simp; omega
    clear hs ho hc hM hJ hr
    cases hq : (N % M == x)
    all_goals
      rw [hq] at HSN
      go_enter Try.func5, Try.ntmps5
      go_wp2_with (first
        | (go_at_call 15; refine (joins_yes _).mono ?_; rintro e w1 ⟨rfl, hw1⟩; have hb1 := hw1.cell hb)
        | (go_at_call 7; refine (HJ.out _ (HA.out.trans hw1)).mono ?_; rintro e w2 ⟨rfl, hw2⟩)
        | (go_at_call 16; refine (within_any _ _ _ (by omega) (by omega)).mono ?_; rintro e w' ⟨rfl, rfl⟩; rw [hN]))
      have HW := Lib.hid ((HA.out.trans hw1).trans hw2)
      have HF1 := Lib.hid (fun y : Wo w2 => fits_any x l a cap w.heap.size y.val x0 (by omega) HO.out (by omega) (HR.out.ex (HW.out.trans y.ex)) (y.ex.cell (hw2.cell hb1)) _ HSX.out)
      have HF2 := Lib.hid (fun y : Wo w2 => fits_any N l a cap w.heap.size y.val N1 (by omega) HO.out (by omega) (HR.out.ex (HW.out.trans y.ex)) (y.ex.cell (hw2.cell hb1)) _ HSN.out)
      refine wp_region_wo (by kernel_rfl) (by kernel_rfl) ?_
      repeat (go_big_quiet_step (first
        | (go_at_call 17; exact says_wo (HF1.out _))
        | (go_at_call 17; exact says_wo (HF2.out _))))
      refine wpQuiet_nil ?_
      rintro _ ⟨⟨w4, hw4⟩, rfl⟩
      go_wp2
      go_ret
      exact ⟨rfl, HW.out.trans hw4⟩
  · obtain ⟨rfl, rfl⟩ := hJ.err he
    have heb : (er != 0) = true := by simpa using he
    clear hJ he hr
    go_enter Try.func5, Try.ntmps5
    go_wp2_with (first
      | (go_at_call 15; refine (joins_yes _).mono ?_; rintro e w1 ⟨rfl, hw1⟩; have hb1 := hw1.cell hb)
      | (go_at_call 7; refine (HJ.out _ (HA.out.trans hw1)).mono ?_; rintro e w2 ⟨rfl, hw2⟩))
    go_ret
    exact ⟨rfl, (HA.out.trans hw1).trans hw2⟩

end Go.Proofs.Ytflepmmiaghhoaa
