/-
  check, Lift and Lower, walked.
-/
import Derived.Test.YtimehaolaeedhaaLift
namespace Go.Proofs.Ytimehaolaeedhaa
open Go.RowKit
open Eu Pr Rs Dd

theorem any_at {f : List Int} {t : Nat} (ht : t < f.length) (h : badV (nth f t) = true) : f.any badV = true := List.any_eq_true.mpr ⟨_, nth_mem ht, h⟩
theorem any_not {f : List Int} (h : ∀ t, t < f.length → badV (nth f t) = false) : f.any badV = false := by
  rw [List.any_eq_false]
  intro x hx
  obtain ⟨t, ht, rfl⟩ := List.getElem_of_mem hx
  have := h t ht
  rw [nth_eq ht] at this
  simp [this]

set_option maxHeartbeats 1000000 in
theorem dcheck_any (f : List Int) (a : Option Addr) (cap : Nat) (w : World) (hl : f.length ≤ maxLen) (hr : Reads w .i64 a f) :
    Calls Try.prog 48 #[.slice a f.length cap] w (Says (.int .i64 (dchk f)) w) := by
  unfold maxLen at hl
  by_cases h6 : 60 < f.length
  · have HE : Hid (dchk f = 2) := Lib.hid (if_pos h6)
    have hb : decide ((60 : Int) < (f.length : Int)) = true := decide_eq_true (by omega)
    clear hr
    go_enter Try.func48, Try.ntmps48
    go_wp2
    go_ret
    exact ⟨by rw [HE.out]; rfl, Ex.refl _⟩
  · have HR := Lib.hid hr
    have H1 : Hid (f.any badV = true → dchk f = 1) := Lib.hid fun h => by unfold dchk; rw [if_neg h6, if_pos h]
    have H0 : Hid (f.any badV = false → dchk f = 0) := Lib.hid fun h => by unfold dchk; rw [if_neg h6, if_neg (by rw [h]; decide)]
    have h7 : f.length ≤ 60 := by omega
    clear hr h6
    go_enter Try.func48, Try.ntmps48
    go_wp2
    go_loopg [10] f.length (fun k v10 x => ∃ (t : Nat), t ≤ f.length ∧ v10 = .int .i64 t ∧ Hid (∀ j, j < t → badV (nth f j) = false) ∧ Hid (k = f.length - t) ∧ Ex w x)
    case atStart => exact ⟨0, by omega, rfl, Lib.hid (fun j hj => absurd hj (Nat.not_lt_zero _)), Lib.hid rfl, Ex.refl _⟩
    case round =>
      obtain ⟨t, ht, rfl, hB, hk, hx⟩ := hrel
      by_cases hlt : t < f.length
      · rcases (HR.out.ex hx) with hn | ⟨b, off, rfl, hc⟩
        · rw [hn] at hlt; exact absurd hlt (Nat.not_lt_zero _)
        have hct := hc t hlt
        have HB1 : Hid (badV (nth f t) = true → dchk f = 1) := Lib.hid fun h => H1.out (any_at hlt h)
        have HB0 : Hid (badV (nth f t) = false → ∀ j, j < t + 1 → badV (nth f j) = false) := Lib.hid fun h j hj => by
          rcases Nat.lt_succ_iff_lt_or_eq.mp hj with h2 | h2
          · exact hB.out j h2
          · rw [h2]; exact h
        have HIN := Lib.hid (nth_mem hlt)
        obtain ⟨x, hxx⟩ : ∃ x, nth f t = x := ⟨_, rfl⟩
        rw [hxx] at hct HB1 HB0
        clear hc hxx
        by_cases x1 : x < -1000000000
        · have HE := Lib.hid (HB1.out (by unfold badV; simp; omega))
          go_wp2
          go_ret
          exact ⟨by rw [HE.out]; rfl, hx⟩
        · by_cases x2 : 1000000000 < x
          · have HE := Lib.hid (HB1.out (by unfold badV; simp; omega))
            have g1 : decide (x < -1000000000) = false := by simpa using x1
            go_wp2
            go_ret
            exact ⟨by rw [HE.out]; rfl, hx⟩
          · have HE := Lib.hid (HB0.out (by unfold badV; simp; omega))
            have g1 : decide (x < -1000000000) = false := by simpa using x1
            have g2 : decide (1000000000 < x) = false := by simpa using x2
            go_wp2
            go_roundg (f.length - (t + 1))
            case measure => have := hk.out; omega
            case rel => exact ⟨t + 1, by omega, by go_num, HE, Lib.hid rfl, hx⟩
      · have e : t = f.length := by omega
        have HE : Hid (dchk f = 0) := Lib.hid (H0.out (any_not (by rw [← e]; exact hB.out)))
        have hnl : ¬ ((t : Int) < (f.length : Int)) := by omega
        go_wp2
        go_ret
        exact ⟨by rw [HE.out]; rfl, hx⟩

theorem lower_no (f : List Int) (a : Option Addr) (cap : Nat) (w : World) (hl : f.length ≤ maxLen) (hr : Reads w .i64 a f) (h : dchk f ≠ 0) :
    Calls Try.prog 30 #[.slice a f.length cap] w (Says (.tuple #[.slice none 0 0, .int .i64 (dchk f)]) w) := by
  have HC := Lib.hid (dcheck_any f a cap w hl hr)
  obtain ⟨c, hc⟩ : ∃ c, dchk f = c := ⟨_, rfl⟩
  rw [hc] at HC h ⊢
  have hb : (c != 0) = true := by simpa using h
  clear hc hl hr h
  go_enter Try.func30, Try.ntmps30
  go_wp2_with (go_at_call 48; (with_reducible refine (HC.out).mono ?_); rintro e w1 ⟨rfl, hw1⟩)
  go_ret2
  exact ⟨rfl, hw1⟩

set_option maxRecDepth 100000 in
set_option maxHeartbeats 4000000 in
theorem lower_of (f : List Int) (a : Option Addr) (cap : Nat) (w : World) (hr : Reads w .i64 a f) (hnil : a = none → cap = 0) (h : dchk f = 0) :
    Calls Try.prog 30 #[.slice a f.length cap] w (fun e w2 => ∃ v, e = .returned (.tuple #[v, .int .i64 0]) ∧ Hid (Row 3 .i64 w2 w.heap.size v (lowerL f)) ∧ Ex w w2) := by
  obtain ⟨hl, hv⟩ := dchk_zero.mp h
  have HC := Lib.hid (dcheck_any f a cap w (by unfold maxLen; omega) hr)
  rw [h] at HC
  have HR := Lib.hid hr
  have hF := at1_bound hv
  obtain ⟨F, hFd⟩ : ∃ F, at1 f = F := ⟨_, rfl⟩
  have HFN : Hid (∀ t, nth f t = F (t + 1)) := Lib.hid fun t => by rw [← hFd]; unfold at1; rw [Nat.add_sub_cancel]
  rw [hFd] at hF
  have HF := Lib.hid hF
  have HEND : Hid (fl f.length (lowRow F f.length) = lowerL f) := Lib.hid (by
    unfold lowerL
    rw [hFd]
    exact fl_congr fun t ht => if_pos (by omega))
  have HSTART : Hid (f = fl f.length (lowRow F 0)) := Lib.hid (by
    refine (fl_of f).symm.trans (fl_congr fun t _ => ?_)
    rw [lowRow_zero]
    exact HFN.out t)
  have HCL := Lib.hid fun w2 (hx : Ex w w2) => clone_ints f a cap w2 (by omega) (hr.ex hx) hnil
  obtain ⟨L, hL⟩ : ∃ L, f.length = L := ⟨_, rfl⟩
  have HLL := Lib.hid hL
  rw [hL] at HC hl HEND HSTART HCL ⊢
  clear hr h hv hFd hF hL hnil
  go_enter Try.func30, Try.ntmps30
  go_wp2_with (first
    | (go_at_call 48; (with_reducible refine (HC.out).mono ?_); rintro e w1 ⟨rfl, hw1⟩)
    | (go_at_call 49; (with_reducible refine (HCL.out _ hw1).mono ?_); rintro e w2 ⟨v, rfl, hrow2, hx2⟩
       obtain ⟨ad, cp, rfl, _, _, _⟩ := hrow2.out.reads
       have HX2 := Lib.hid hx2
       have HR2 : Hid (Row 3 .i64 w2 w1.heap.size (.slice ad L cp) (fl L (lowRow F 0))) := Lib.hid (by rw [← HSTART.out, ← HLL.out]; exact hrow2.out)
       rw [HLL.out]
       clear hrow2 hx2))
  have HX1 := Lib.hid hw1
  have HS1 : Hid (w.heap.size ≤ w1.heap.size) := Lib.hid hw1.size
  go_loopg [18] L (fun k v18 x => ∃ (i : Nat), i ≤ L ∧ v18 = .int .i64 i ∧ Hid (Row 3 .i64 x w1.heap.size (.slice ad L cp) (fl L (lowRow F i))) ∧ Hid (k = L - i) ∧ Ex w1 x)
  case atStart => exact ⟨0, by omega, rfl, HR2, Lib.hid rfl, HX2.out⟩
  case round =>
    rename World => wo
    obtain ⟨i, hi, rfl, hR, hk, hx⟩ := hrel
    by_cases hlt : i < L
    · have hform := hR.out.form
      rw [fl_length] at hform
      rcases hform with ⟨_, f2⟩ | ⟨b, cp2, f1, fb1, fb2, fc1, fc2, fx, fy⟩
      · have := congrArg List.length f2
        rw [fl_length] at this
        simp at this
        omega
      simp only [Value.slice.injEq, true_and] at f1
      obtain ⟨rfl, rfl⟩ := f1
      have HB := Lib.hid fb1
      obtain ⟨_, _, hcf, _⟩ := hR.out.flat
      have hci := hcf i hlt
      rw [lowRow_here] at hci
      have vb := undo_bound HF.out (n := i + 1) (by omega)
      have HBND := Lib.hid fun n t (ht : t < 60) => lowAt_bound HF.out i n ht
      have HR3 : Hid (Row 3 .i64 wo w1.heap.size (.slice (some ⟨b, 0, none⟩) L cp) (fl L (lowAt F i ((i + 1) * 2)))) := Lib.hid (by
        rw [fl_congr (H := lowRow F i) (fun t _ => lowAt_start F i)]; exact hR.out)
      have HSTEP := Lib.hid fun c (hc : 2 ≤ c) => fl_congr (L := L) fun t _ => lowAt_step F i c hc (t := t)
      have HLAST := Lib.hid fun n (hn : L < n) => fl_congr (L := L) fun t ht => lowAt_end F i n hn ht
      obtain ⟨V, hV⟩ : ∃ V, undo F (i + 1) = V := ⟨_, rfl⟩
      rw [hV] at hci vb HSTEP
      obtain ⟨S, hS⟩ : ∃ S, lowAt F i = S := ⟨_, rfl⟩
      rw [hS] at HBND HR3 HSTEP HLAST
      obtain ⟨vb1, vb2⟩ := vb
      unfold maxLen at fc2
      clear hcf hV hS fb1 fx fy
      go_wp2
      go_loopg [8] (122 - (i + 1) * 2) (fun m v8 y => ∃ (c n : Nat), 2 ≤ c ∧ Hid (n = (i + 1) * c) ∧ i + 1 < n ∧ n ≤ L + i + 1 ∧ v8 = .int .i64 n ∧ Hid (Row 3 .i64 y w1.heap.size (.slice (some ⟨b, 0, none⟩) L cp) (fl L (S n))) ∧ Hid (m = 122 - n) ∧ Ex w1 y)
      case atStart => exact ⟨2, (i + 1) * 2, by omega, Lib.hid rfl, by omega, by omega, by go_num, HR3, Lib.hid rfl, hx⟩
      case round =>
        obtain ⟨c, n, c1, hn, n1, n2, rfl, hRn, hkn, hy⟩ := hrel
        by_cases hnl : n ≤ L
        · obtain ⟨_, _, hcf, hfr⟩ := hRn.out.flat
          have hcn := hcf (n - 1) (by omega)
          have hfn := hfr (n - 1)
          obtain ⟨x1, x2⟩ := HBND.out n (n - 1) (by omega)
          have HS0 := hRn.out.flset (n - 1) (S n (n - 1) - V)
          have HX4 := Lib.hid (ex_grown hy HS0.2 (by intro k hk; cases hk; exact HB.out))
          have HS3 : Hid (Row 3 .i64 (wr.setCell ⟨b, n - 1, none⟩ (.int .i64 (S n (n - 1) - V))) w1.heap.size (.slice (some ⟨b, 0, none⟩) L cp) (fl L (S (n + (i + 1))))) := Lib.hid (by
            have e1 := HSTEP.out c c1
            rw [← hn.out] at e1
            rw [← e1]
            exact HS0.1)
          have HN2 : Hid (n + (i + 1) = (i + 1) * (c + 1)) := Lib.hid (by rw [Nat.mul_succ, ← hn.out])
          obtain ⟨X, hX⟩ : ∃ X, S n (n - 1) = X := ⟨_, rfl⟩
          rw [hX] at hcn x1 x2 HX4 HS3
          clear hcf hfr HS0 hX
          go_wp2
          go_roundg (122 - (n + (i + 1)))
          case measure => have := hkn.out; omega
          case rel => exact ⟨c + 1, n + (i + 1), by omega, HN2, by omega, by omega, by go_num, HS3, Lib.hid rfl, HX4.out⟩
        · have HL2 := Lib.hid (HLAST.out n (by omega))
          go_wp2
          go_roundg (L - (i + 1))
          case measure => have := hk.out; omega
          case rel => exact ⟨i + 1, by omega, by go_num, Lib.hid (by rw [← HL2.out]; exact hRn.out), Lib.hid rfl, hy⟩
    · have e : i = L := by omega
      subst e
      go_wp2
      go_ret2
      exact ⟨_, rfl, Lib.hid (by rw [← HEND.out]; exact hR.out.less HS1.out), HX1.out.trans hx⟩

end Go.Proofs.Ytimehaolaeedhaa
