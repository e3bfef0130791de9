/-
  IrredTimes, walked.
-/
import Derived.Test.YtimehaolaeedhaaIrFirst
import Derived.Test.YtimehaolaeedhaaGpb
namespace Go.Proofs.Ytimehaolaeedhaa
open Go.RowKit
open Pr Po

theorem prm_two : Prm ((2 : Nat) : Int) := (pb_iff 2).mp (by decide)

/-- Where a divisor is nought, so is what it divides. -/
theorem di_ev {p : Int} {g f : List Int} {x : Int} (h : Di p g f) (hx : p ∣ ev g x) : p ∣ ev f x := by
  obtain ⟨s, hs⟩ := h
  have h1 := ev_cg hs x
  rw [ev_mul] at h1
  have h2 := Int.dvd_mul_of_dvd_right (b := ev s x) hx
  have := Int.dvd_sub h2 h1
  rwa [show ev s x * ev g x - (ev s x * ev g x - ev f x) = ev f x by omega] at this

theorem irr_111 : Irr 2 [1, 1, 1] := by
  have hp := prm_two
  refine (irr_trial hp ⟨by decide, by decide⟩ (by decide)).mpr fun m g h1 h2 hg hd => ?_
  have hm : m = 1 := by simp at h2; omega
  subst hm
  have e := mo_code (q := 2) hp hg
  have hc := code_lt (q := 2) hg
  have h3 : code 2 1 g = 0 ∨ code 2 1 g = 1 := by omega
  rcases h3 with h3 | h3
  · rw [h3, show mo 2 1 0 = [0, 1] by decide] at e
    subst e
    have := di_ev (x := 0) hd (by decide)
    exact absurd this (by decide)
  · rw [h3, show mo 2 1 1 = [1, 1] by decide] at e
    subst e
    have := di_ev (x := 1) hd (by decide)
    exact absurd this (by decide)
theorem not_101 : ¬ Irr 2 [1, 0, 1] := fun h => by
  refine h.2.2 [1, 1] ⟨by decide, by decide⟩ (by decide) (by decide) ⟨[1, 1], fun i => ?_⟩
  match i with
  | 0 => decide
  | 1 => decide
  | 2 => decide
  | i + 3 =>
    have h3 : (mul [1, 1] [1, 1]).length = 3 := by decide
    rw [c_over (by omega), c_over (by simp)]
    exact Int.dvd_zero _

theorem is_111 (w : World) : Calls Try.prog 7 #[.int .i64 2, .slice (some ⟨w.heap.size, 0, none⟩) 3 3] (w.alloc (.cells #[.int .i64 1, .int .i64 1, .int .i64 1] 3)) (Says (.tuple #[.bool true, .int .i64 0]) (w.alloc (.cells #[.int .i64 1, .int .i64 1, .int .i64 1] 3))) := by
  have h1 := reads_new .i64 [1, 1, 1] #[.int .i64 1, .int .i64 1, .int .i64 1] rfl 3 w
  have h0 : isE 2 [1, 1, 1] = 0 := isE_zero.mpr ⟨polyE_zero.mpr ⟨prm_two, by omega, by decide, ⟨by decide, by decide⟩⟩, by decide⟩
  have := is_any 2 [1, 1, 1] _ 3 3 _ rfl (by decide) h1 (fun h => by cases h) true (fun h => absurd h0 h) (fun _ => ⟨fun _ => irr_111, fun _ => rfl⟩)
  rw [h0] at this
  exact this
theorem is_101 (w : World) : Calls Try.prog 7 #[.int .i64 2, .slice (some ⟨w.heap.size, 0, none⟩) 3 3] (w.alloc (.cells #[.int .i64 1, .int .i64 0, .int .i64 1] 3)) (Says (.tuple #[.bool false, .int .i64 0]) (w.alloc (.cells #[.int .i64 1, .int .i64 0, .int .i64 1] 3))) := by
  have h1 := reads_new .i64 [1, 0, 1] #[.int .i64 1, .int .i64 0, .int .i64 1] rfl 3 w
  have h0 : isE 2 [1, 0, 1] = 0 := isE_zero.mpr ⟨polyE_zero.mpr ⟨prm_two, by omega, by decide, ⟨by decide, by decide⟩⟩, by decide⟩
  have := is_any 2 [1, 0, 1] _ 3 3 _ rfl (by decide) h1 (fun h => by cases h) false (fun h => absurd h0 h) (fun _ => ⟨fun h => by simp at h, fun h => absurd h not_101⟩)
  rw [h0] at this
  exact this

set_option maxRecDepth 100000 in
set_option maxHeartbeats 1000000 in
theorem irreds_yes (w : World) : Calls Try.prog 15 #[] w (Says (.bool true) w) := by
  have H1 := Lib.hid is_111
  have H2 := Lib.hid is_101
  go_enter Try.func15, Try.ntmps15
  go_wp2_with (first
    | (go_at_call 7; (with_reducible refine (H1.out _).mono ?_); rintro e w1 ⟨rfl, hw1⟩
       have hx1 : Ex w w1 := ((Ex.refl w).alloc _).trans hw1
       clear hw1)
    | (go_at_call 7; (with_reducible refine (H2.out _).mono ?_); rintro e w2 ⟨rfl, hw2⟩
       have hx2 : Ex w w2 := (hx1.alloc _).trans hw2
       clear hw2)
    | (go_at_call 23; refine (good_zeros 2 (by omega) _ rfl _ _).mono ?_; rintro e w15 ⟨rfl, hw15⟩))
  go_ret
  exact ⟨rfl, hx2.trans hw15⟩

theorem isL {p : Int} (hp : Prm p) (p9 : p ≤ 997) {F : List Int} {N : Nat} (hF : Po.Can p F) (hL : F.length = N) (hm : N ≤ 40) :
    ∃ (b : Bool) (E : Int), (E = 0 ∨ E = 2) ∧ (E = 0 → (b = true ↔ Irr p F)) ∧ ∀ (w : World) (a : Option Addr) (ca : Nat), Reads w .i64 a F → (a = none → ca = 0) → Calls Try.prog 7 #[.int .i64 p, .slice a N ca] w (Says (.tuple #[.bool b, .int .i64 E]) w) := by
  have hP : polyE p F = 0 := polyE_zero.mpr ⟨hp, p9, by omega, hF⟩
  have hE : isE p F = 0 ∨ isE p F = 2 := by
    unfold isE
    rw [if_neg (by simpa using hP)]
    exact pwE_two _ _
  rcases hE with hE | hE
  · refine ⟨yes (Irr p F), 0, .inl rfl, fun _ => yes_iff, fun w a ca hr hn => ?_⟩
    have := is_any p F a N ca w hL (by unfold maxLen; omega) hr hn (yes (Irr p F)) (fun h => absurd hE h) (fun _ => yes_iff)
    rwa [hE] at this
  · refine ⟨false, 2, .inr rfl, fun h => by simp at h, fun w a ca hr hn => ?_⟩
    have := is_any p F a N ca w hL (by unfold maxLen; omega) hr hn false (fun _ => rfl) (fun h => by rw [hE] at h; simp at h)
    rwa [hE] at this

set_option maxRecDepth 100000 in
set_option maxHeartbeats 1000000 in
theorem irredTimes_walk (n : Int) (a1 : Option Addr) (l1 c1 : Nat) (z1 : List Int) (a2 : Option Addr) (l2 c2 : Nat) (z2 : List Int) (w : World)
    (_ : I64 n) (h1 : IsInts .i64 8 w a1 l1 c1 z1) (h2 : IsInts .i64 8 w a2 l2 c2 z2) :
    Calls Try.prog 4 #[.int .i64 n, .slice a1 l1 c1, .slice a2 l2 c2] w (Says (.bool true) w) := by
  obtain ⟨p, hp, p9, hfo⟩ := fieldOf_some n
  have p2 := hp.1
  obtain ⟨F, LF, lF, mF, cF, hF⟩ := polyL hp p9 5 5 rfl (by omega) h1
  obtain ⟨G, LG, lG, mG, cG, hG⟩ := polyL hp p9 5 5 rfl (by omega) h2
  obtain ⟨M, N2, e2, n2, m2, k2, y2, z2', hM⟩ := mulL hp p9 cF cG lF lG (by omega)
  obtain ⟨b, E, hE, hb, hI⟩ := isL hp p9 k2 n2 (by omega)
  have HIR := Lib.hid irreds_yes
  have HPO := Lib.hid polys_yes
  have HFO := Lib.hid hfo
  have HF := Lib.hid hF
  have HG := Lib.hid hG
  have HM := Lib.hid hM
  have HI := Lib.hid hI
  by_cases c1' : LF < 2
  · have hd1 : decide ((LF : Int) < 2) = true := decide_eq_true (by omega)
    clear h1 h2 hfo hF hG cF cG lF lG hp hM hI hb e2 k2 n2 y2 z2' hE
    go_enter Try.func4, Try.ntmps4
    go_wp2_with (first
      | (go_at_call 15; (with_reducible refine (HIR.out _).mono ?_); rintro e w0 ⟨rfl, hw0⟩)
      | (go_at_call 16; (with_reducible refine (HPO.out _).mono ?_); rintro e w1 ⟨rfl, hw1⟩)
      | (go_at_call 17; (with_reducible refine (HFO.out _).mono ?_); rintro e w2 ⟨rfl, hw2⟩)
      | (go_at_call 18; (with_reducible refine (HF.out _ (by repeat (first | assumption | exact Ex.refl _ | refine Ex.trans ?_ (by assumption)))).mono ?_); rintro e w3 ⟨b3, d3, rfl, hr3, hn3, hw3⟩)
      | (go_at_call 18; (with_reducible refine (HG.out _ (by repeat (first | assumption | exact Ex.refl _ | refine Ex.trans ?_ (by assumption)))).mono ?_); rintro e w4 ⟨b4, d4, rfl, hr4, hn4, hw4⟩)
      | (go_at_call 19; (with_reducible refine (HM.out _ _ _ _ _ (hr3.out.ex (by repeat (first | assumption | exact Ex.refl _ | refine Ex.trans ?_ (by assumption)))) (hr4.out.ex (by repeat (first | assumption | exact Ex.refl _ | refine Ex.trans ?_ (by assumption))))).mono ?_); rintro e w6 ⟨b6, d6, rfl, hr6, hn6, hw6⟩)
      | (go_at_call 7; (with_reducible refine (HI.out _ _ _ hr6.out hn6.out).mono ?_); rintro e w7 ⟨rfl, hw7⟩))
    go_ret
    exact ⟨rfl, (by repeat (first | assumption | exact Ex.refl _ | refine Ex.trans ?_ (by assumption)))⟩
  by_cases c2' : LG < 2
  · have hd1 : decide ((LF : Int) < 2) = false := decide_eq_false (by omega)
    have hd2 : decide ((LG : Int) < 2) = true := decide_eq_true (by omega)
    clear h1 h2 hfo hF hG cF cG lF lG hp hM hI hb e2 k2 n2 y2 z2' hE
    go_enter Try.func4, Try.ntmps4
    go_wp2_with (first
      | (go_at_call 15; (with_reducible refine (HIR.out _).mono ?_); rintro e w0 ⟨rfl, hw0⟩)
      | (go_at_call 16; (with_reducible refine (HPO.out _).mono ?_); rintro e w1 ⟨rfl, hw1⟩)
      | (go_at_call 17; (with_reducible refine (HFO.out _).mono ?_); rintro e w2 ⟨rfl, hw2⟩)
      | (go_at_call 18; (with_reducible refine (HF.out _ (by repeat (first | assumption | exact Ex.refl _ | refine Ex.trans ?_ (by assumption)))).mono ?_); rintro e w3 ⟨b3, d3, rfl, hr3, hn3, hw3⟩)
      | (go_at_call 18; (with_reducible refine (HG.out _ (by repeat (first | assumption | exact Ex.refl _ | refine Ex.trans ?_ (by assumption)))).mono ?_); rintro e w4 ⟨b4, d4, rfl, hr4, hn4, hw4⟩)
      | (go_at_call 19; (with_reducible refine (HM.out _ _ _ _ _ (hr3.out.ex (by repeat (first | assumption | exact Ex.refl _ | refine Ex.trans ?_ (by assumption)))) (hr4.out.ex (by repeat (first | assumption | exact Ex.refl _ | refine Ex.trans ?_ (by assumption))))).mono ?_); rintro e w6 ⟨b6, d6, rfl, hr6, hn6, hw6⟩)
      | (go_at_call 7; (with_reducible refine (HI.out _ _ _ hr6.out hn6.out).mono ?_); rintro e w7 ⟨rfl, hw7⟩))
    go_ret
    exact ⟨rfl, (by repeat (first | assumption | exact Ex.refl _ | refine Ex.trans ?_ (by assumption)))⟩
  have hd1 : decide ((LF : Int) < 2) = false := decide_eq_false (by omega)
  have hd2 : decide ((LG : Int) < 2) = false := decide_eq_false (by omega)
  rcases hE with rfl | rfl
  · have hbf : b = false := by
      have : b ≠ true := fun h => by
        have hI := (hb rfl).mp h
        refine hI.2.2 F cF (by omega) (by omega) ?_
        rw [← e2]
        exact ⟨G, (Cg.comm p G F).trans (cg_red p _).symm⟩
      simpa using this
    subst hbf
    clear h1 h2 hfo hF hG cF cG lF lG hp hM hI hb e2 k2 n2 y2 z2'
    go_enter Try.func4, Try.ntmps4
    go_wp2_with (first
      | (go_at_call 15; (with_reducible refine (HIR.out _).mono ?_); rintro e w0 ⟨rfl, hw0⟩)
      | (go_at_call 16; (with_reducible refine (HPO.out _).mono ?_); rintro e w1 ⟨rfl, hw1⟩)
      | (go_at_call 17; (with_reducible refine (HFO.out _).mono ?_); rintro e w2 ⟨rfl, hw2⟩)
      | (go_at_call 18; (with_reducible refine (HF.out _ (by repeat (first | assumption | exact Ex.refl _ | refine Ex.trans ?_ (by assumption)))).mono ?_); rintro e w3 ⟨b3, d3, rfl, hr3, hn3, hw3⟩)
      | (go_at_call 18; (with_reducible refine (HG.out _ (by repeat (first | assumption | exact Ex.refl _ | refine Ex.trans ?_ (by assumption)))).mono ?_); rintro e w4 ⟨b4, d4, rfl, hr4, hn4, hw4⟩)
      | (go_at_call 19; (with_reducible refine (HM.out _ _ _ _ _ (hr3.out.ex (by repeat (first | assumption | exact Ex.refl _ | refine Ex.trans ?_ (by assumption)))) (hr4.out.ex (by repeat (first | assumption | exact Ex.refl _ | refine Ex.trans ?_ (by assumption))))).mono ?_); rintro e w6 ⟨b6, d6, rfl, hr6, hn6, hw6⟩)
      | (go_at_call 7; (with_reducible refine (HI.out _ _ _ hr6.out hn6.out).mono ?_); rintro e w7 ⟨rfl, hw7⟩))
    go_ret
    exact ⟨rfl, (by repeat (first | assumption | exact Ex.refl _ | refine Ex.trans ?_ (by assumption)))⟩
  · clear h1 h2 hfo hF hG cF cG lF lG hp hM hI hb e2 k2 n2 y2 z2'
    go_enter Try.func4, Try.ntmps4
    go_wp2_with (first
      | (go_at_call 15; (with_reducible refine (HIR.out _).mono ?_); rintro e w0 ⟨rfl, hw0⟩)
      | (go_at_call 16; (with_reducible refine (HPO.out _).mono ?_); rintro e w1 ⟨rfl, hw1⟩)
      | (go_at_call 17; (with_reducible refine (HFO.out _).mono ?_); rintro e w2 ⟨rfl, hw2⟩)
      | (go_at_call 18; (with_reducible refine (HF.out _ (by repeat (first | assumption | exact Ex.refl _ | refine Ex.trans ?_ (by assumption)))).mono ?_); rintro e w3 ⟨b3, d3, rfl, hr3, hn3, hw3⟩)
      | (go_at_call 18; (with_reducible refine (HG.out _ (by repeat (first | assumption | exact Ex.refl _ | refine Ex.trans ?_ (by assumption)))).mono ?_); rintro e w4 ⟨b4, d4, rfl, hr4, hn4, hw4⟩)
      | (go_at_call 19; (with_reducible refine (HM.out _ _ _ _ _ (hr3.out.ex (by repeat (first | assumption | exact Ex.refl _ | refine Ex.trans ?_ (by assumption)))) (hr4.out.ex (by repeat (first | assumption | exact Ex.refl _ | refine Ex.trans ?_ (by assumption))))).mono ?_); rintro e w6 ⟨b6, d6, rfl, hr6, hn6, hw6⟩)
      | (go_at_call 7; (with_reducible refine (HI.out _ _ _ hr6.out hn6.out).mono ?_); rintro e w7 ⟨rfl, hw7⟩))
    go_ret
    exact ⟨rfl, (by repeat (first | assumption | exact Ex.refl _ | refine Ex.trans ?_ (by assumption)))⟩

end Go.Proofs.Ytimehaolaeedhaa
