/-
  FracBack, walked.
-/
import Derived.Test.YtbomiohgdlcmdaaFrBack
namespace Go.Proofs.Ytbomiohgdlcmdaa
open Go.RowKit
open Eu Fr

theorem okT_cf {P Q : Int} (h : OkFr P Q) : OkT (cf P Q) := by
  obtain ⟨h1, h2, h3, h4⟩ := h
  obtain ⟨a, l, e, _, e1, e2, e3⟩ := cf_entries h3 (q := Q) (by omega)
  intro i hi
  match i, hi with
  | 0, hi =>
    have : nth (cf P Q) 0 = a := by rw [e]; rfl
    unfold okAt
    rw [this]
    exact ⟨e1, by omega, fun h => absurd h (by omega)⟩
  | i + 1, hi =>
    have hm : nth (cf P Q) (i + 1) ∈ l := by
      have h5 : i < l.length := by rw [e] at hi; simpa using hi
      have : nth (cf P Q) (i + 1) = l[i] := by rw [nth_eq hi]; simp [e]
      rw [this]; exact List.getElem_mem h5
    have := e3 _ hm
    exact ⟨by omega, by omega, fun _ => by omega⟩

theorem cf_ne {P Q : Int} (h : OkFr P Q) : cf P Q ≠ [] := by
  rw [cf_step (by have := h.1; omega)]
  exact List.cons_ne_nil _ _

/-- A beginning of the row. -/
theorem okT_take {l : List Int} (h : OkT l) (k : Nat) : OkT (l.take k) := by
  intro i hi
  have hi2 : i < k ∧ i < l.length := by simp at hi; omega
  have e : nth (l.take k) i = nth l i := by
    rw [nth_eq hi, nth_eq hi2.2]; simp
  unfold okAt
  rw [e]
  exact h i hi2.2

theorem vr_take {P Q : Int} (h : OkFr P Q) (k : Nat) : vr ((cf P Q).take k) = some (vp ((cf P Q).take k)) := by
  obtain ⟨h1, h2, h3, h4⟩ := h
  exact vr_vp fun i => (front_small (l := (cf P Q).take k) (l2 := (cf P Q).drop k) h3 (by omega) (B := 1000000) (by omega) h4 h2 (by simp) i).1

theorem vr_cf {P Q : Int} (h : OkFr P Q) : vr (cf P Q) = some (P / G P Q, Q / G P Q) := by
  have := vr_take h (cf P Q).length
  rw [List.take_length, cf_val h.2.2.1 (by have := h.1; omega)] at this
  exact this

theorem G_low {a b : Int} (h : 1 ≤ b) : G (a / G a b) (b / G a b) = 1 := by
  have hg := G_pos (a := a) (b := b) (.inr (by omega))
  have e1 : a / G a b * G a b = a := Int.ediv_mul_cancel (G_dvd_left a b)
  have e2 : b / G a b * G a b = b := Int.ediv_mul_cancel (G_dvd_right a b)
  have e3 : G (a / G a b * G a b) (b / G a b * G a b) = G (a / G a b) (b / G a b) * G a b := by
    generalize G a b = g at *
    unfold G
    rw [Int.gcd_mul_right, Int.natCast_mul, Int.natAbs_of_nonneg (by omega)]
  rw [e1, e2] at e3
  exact (Int.eq_of_mul_eq_mul_right (a := G a b) (by omega) (by omega : 1 * G a b = G (a / G a b) (b / G a b) * G a b)).symm

theorem cf_tail {P Q : Int} (h : OkFr P Q) (hl : 1 < (cf P Q).length) : 2 ≤ nth (cf P Q) ((cf P Q).length - 1) := by
  have hs : cf P Q = (cf P Q).take ((cf P Q).length - 1) ++ [nth (cf P Q) ((cf P Q).length - 1)] := by
    have h1 : (cf P Q).length - 1 < (cf P Q).length := by omega
    have h2 : (cf P Q).take ((cf P Q).length - 1 + 1) = (cf P Q).take ((cf P Q).length - 1) ++ [nth (cf P Q) ((cf P Q).length - 1)] := by rw [nth_eq h1, List.take_append_getElem h1]
    rw [show (cf P Q).length - 1 + 1 = (cf P Q).length by omega, List.take_length] at h2
    exact h2
  refine cf_last h.2.2.1 (by have := h.1; omega) hs fun e => ?_
  have : ((cf P Q).take ((cf P Q).length - 1)).length = 0 := by rw [e]; rfl
  simp at this
  omega

set_option maxHeartbeats 1000000 in
theorem back_bad (P Q : Int) (w : World) (h : ¬ OkFr P Q) : Calls Try.prog 5 #[.agg #[.int .i64 P, .int .i64 Q]] w (Says (.bool true) w) := by
  have H1 := Lib.hid fun w => of_no P Q w h
  have HX := Lib.hid ((Ex.refl w).alloc (.cells #[.int .i64 P, .int .i64 Q] 23))
  have HA : Hid (Two 23 (w.alloc (.cells #[.int .i64 P, .int .i64 Q] 23)) w.heap.size P Q) := Lib.hid (Two.at rfl)
  clear h
  go_enter Try.func5, Try.ntmps5
  go_wp2_with (first
    | (go_at_call 17; (with_reducible refine (fracs_yes _).mono ?_); rintro e w1 ⟨rfl, hw1⟩; have ca0 := (HA.out.ex hw1).c0; have ca1 := (HA.out.ex hw1).c1)
    | (go_at_call 9; (with_reducible refine (H1.out _).mono ?_); rintro e w2 ⟨rfl, hw2⟩))
  go_ret
  exact ⟨by first | rfl | (simp; done) | (simp; omega), (HX.out.trans hw1).trans hw2⟩

set_option maxRecDepth 100000 in
set_option maxHeartbeats 4000000 in
theorem back_ok (P Q : Int) (w : World) (h : OkFr P Q) : Calls Try.prog 5 #[.agg #[.int .i64 P, .int .i64 Q]] w (Says (.bool true) w) := by
  have H1 := Lib.hid fun w => of_ok P Q w h
  obtain ⟨n, hn⟩ : ∃ n, n = (cf P Q).length := ⟨_, rfl⟩
  have hne := cf_ne h
  have hn0 : 0 < n := by rw [hn]; exact List.length_pos_iff.mpr hne
  have hlen : (cf P Q).length ≤ 1000000 := by have := cf_len Q.toNat P Q rfl; have := h.2.1; omega
  have hn6 : n ≤ 1000000 := by omega
  have HN := Lib.hid hn
  have HT := Lib.hid fun hl => cf_tail h hl
  have hvr := vr_cf h
  have H2 : Hid (∀ w a cap, Reads w .i64 a (cf P Q) → Calls Try.prog 10 #[.slice a n cap] w (Says (.tuple #[.agg #[.int .i64 (P / G P Q), .int .i64 (Q / G P Q)], .int .i64 0]) w)) := Lib.hid fun w a cap hr => by
    have h2 := value_ok (cf P Q) a cap w (by unfold maxLen; omega) hr hne (okT_cf h)
    rw [hvr, ← hn] at h2
    exact h2
  have hlow := G_low (a := P) (b := Q) h.1
  obtain ⟨h1, h2, h3, h4⟩ := h
  have hg := G_pos (a := P) (b := Q) (.inr (by omega))
  have y0 := Int.ediv_nonneg (a := P) (b := G P Q) h3 (by omega)
  have y1 := Int.ediv_le_self (a := P) (G P Q) h3
  have z0 := Int.ediv_nonneg (a := Q) (b := G P Q) (by omega) (by omega)
  have z1 := Int.ediv_le_self (a := Q) (G P Q) (by omega)
  have t1 : P.tdiv (G P Q) = P / G P Q := Int.tdiv_eq_ediv_of_nonneg h3
  have t2 : Q.tdiv (G P Q) = Q / G P Q := Int.tdiv_eq_ediv_of_nonneg (by omega)
  have H3 := Lib.hid fun w => gcd_ok P Q w (by omega) (by omega) (by omega) (by omega)
  have H4 := Lib.hid fun w => gcd_ok (P / G P Q) (Q / G P Q) w (by omega) (by omega) (by omega) (by omega)
  rw [hlow] at H4
  have g0 : G P Q ≠ 0 := by omega
  clear hne hlen hvr hlow hn
  obtain ⟨y, hy⟩ : ∃ y, P / G P Q = y := ⟨_, rfl⟩
  obtain ⟨z, hz⟩ : ∃ y, Q / G P Q = y := ⟨_, rfl⟩
  rw [hy] at H2 H4 y0 y1 t1
  rw [hz] at H2 H4 z0 z1 t2
  obtain ⟨g, hgg⟩ : ∃ g, G P Q = g := ⟨_, rfl⟩
  rw [hgg] at H3 hg t1 t2 g0
  clear hy hz hgg
  have HX := Lib.hid ((Ex.refl w).alloc (.cells #[.int .i64 P, .int .i64 Q] 23))
  have HA : Hid (Two 23 (w.alloc (.cells #[.int .i64 P, .int .i64 Q] 23)) w.heap.size P Q) := Lib.hid (Two.at rfl)
  have hn1 : ((n : Int) == 0) = false := by simp; omega
  have H5 := Lib.hid good3_dr
  by_cases hn2 : n = 1
  · subst hn2
    have g1 : decide (0 < g) = true := decide_eq_true (by omega)
    go_enter Try.func5, Try.ntmps5
    go_wp2_with (first
      | (go_at_call 17; (with_reducible refine (fracs_yes _).mono ?_); rintro e w1 ⟨rfl, hw1⟩; have HX1 := Lib.hid (HX.out.trans hw1); have HA1 := Lib.hid (HA.out.ex hw1); have ca0 := HA1.out.c0; have ca1 := HA1.out.c1)
      | (go_at_call 9; (with_reducible refine (H1.out _).mono ?_); rintro e w2 ⟨v, rfl, HR, hw2⟩
         obtain ⟨at1, cp1, rfl, hmax, hreads, _⟩ := HR.out.reads
         rw [← HN.out] at hmax
         rw [← HN.out]
         have HRD := Lib.hid hreads
         have HX2 := Lib.hid (HX1.out.trans hw2)
         have HA2 := Lib.hid (HA1.out.ex hw2)
         clear hreads ca0 ca1)
      | (go_at_call 10; (with_reducible refine (H2.out _ _ _ HRD.out).mono ?_); rintro e w3 ⟨rfl, hw3⟩
         have HX3 := Lib.hid (HX2.out.trans hw3)
         have HA3 := Lib.hid ((HA2.out.ex hw3).ex ((Ex.refl _).alloc (.cells #[.int .i64 y, .int .i64 z] 23)))
         have HY3 : Hid (Two 23 (w3.alloc (.cells #[.int .i64 y, .int .i64 z] 23)) w3.heap.size y z) := Lib.hid (Two.at rfl)
         have HRD3 := Lib.hid ((HRD.out.ex hw3).ex ((Ex.refl _).alloc (.cells #[.int .i64 y, .int .i64 z] 23)))
         have ca0 := HA3.out.c0
         have ca1 := HA3.out.c1)
      | (go_at_call 18; (with_reducible refine (H3.out _).mono ?_); rintro e w4 ⟨rfl, hw4⟩; clear H3; have HA4 := Lib.hid (HA3.out.ex hw4); have HY4 := Lib.hid (HY3.out.ex hw4); have cb0 := HY4.out.c0; have cb1 := HY4.out.c1)
      | (go_at_call 18; (with_reducible refine (H4.out _).mono ?_); rintro e w5 ⟨rfl, hw5⟩; have HA5 := Lib.hid (HA4.out.ex hw5); have HY5 := Lib.hid (HY4.out.ex hw5)))
    have hx5 : Ex w5 w5.drew := (Ex.refl _).drew
    have KX : Hid (Ex w5 w5.drew) := Lib.hid hx5
    haveI : Nonempty (Kp (fun x => Two 23 x w.heap.size P Q ∧ Two 23 x w3.heap.size y z)) := ⟨⟨w5, HA5.out, HY5.out⟩⟩
    have q0 : ∀ x : Kp (fun x => Two 23 x w.heap.size P Q ∧ Two 23 x w3.heap.size y z), x.val.cell? ⟨w.heap.size, 0, none⟩ = some (.int .i64 P) := fun x => x.ok.1.c0
    have q1 : ∀ x : Kp (fun x => Two 23 x w.heap.size P Q ∧ Two 23 x w3.heap.size y z), x.val.cell? ⟨w.heap.size, 1, none⟩ = some (.int .i64 Q) := fun x => x.ok.1.c1
    have q2 : ∀ x : Kp (fun x => Two 23 x w.heap.size P Q ∧ Two 23 x w3.heap.size y z), x.val.cell? ⟨w3.heap.size, 0, none⟩ = some (.int .i64 y) := fun x => x.ok.2.c0
    have q3 : ∀ x : Kp (fun x => Two 23 x w.heap.size P Q ∧ Two 23 x w3.heap.size y z), x.val.cell? ⟨w3.heap.size, 1, none⟩ = some (.int .i64 z) := fun x => x.ok.2.c1
    refine wp_region_scr (fun w2 => ∃ x : Kp (fun x => Two 23 x w.heap.size P Q ∧ Two 23 x w3.heap.size y z), w2 = x.val) (.take 0 (.take 1 (.take 2 (.one 3 (.one 4 (.take 5 (.take 6 (.take 7 (.take 8 (.take 9 (.take 10 (.take 11 (.take 12 (.take 13 (.take 14 (.take 15 (.take 16 (.take 17 (.take 18 (.take 19 (.take 20 (.take 21 (.take 22 (.take 23 (.take 24 (.take 25 (.take 26 (.take 27 (.take 28 (.take 29 (.take 30 (.take 31 (.take 32 (.take 33 (.take 34 (.take 35 (.take 36 (.take 37 (.take 38 (.take 39 (.take 40 (.take 41 (.take 42 (.take 43 (.take 44 (.take 45 (.fin))))))))))))))))))))))))))))))))))))))))))))))) (by kernel_rfl) (by kernel_rfl) (by intro _ _ d _ _ h; cases d <;> exact h) ⟨⟨_, (by constructor <;> first | exact HA5.out.ex (by first | exact KX.out | exact ((Ex.refl _).alloc _).drew) | exact HY5.out.ex (by first | exact KX.out | exact ((Ex.refl _).alloc _).drew))⟩, rfl⟩ ?_
    simp only [fillS, List.getD_cons_zero, List.getD_cons_succ]
    repeat' (first
      | ((with_reducible refine wpScr_pure ?_); go_big_quiet_step (fail); (with_reducible refine scrQ_on ?_))
      | ((with_reducible refine wpScr_turn ?_); intro K hK; go_wp2_with (first | fail |(go_at_call 19; (with_reducible refine (H5.out _ _ _ (by simp)).mono ?_); rintro e2 w6 ⟨rfl, hw6⟩; have KX : Hid (Ex w5 w6) := Lib.hid hw6)); refine hK _ _ ⟨⟨_, (by constructor <;> first | exact HA5.out.ex (by first | exact KX.out | exact ((Ex.refl _).alloc _).drew) | exact HY5.out.ex (by first | exact KX.out | exact ((Ex.refl _).alloc _).drew))⟩, rfl⟩ ?_; clear hK K)
      | (with_reducible refine wpScr_two ?_ ?_)
      | (with_reducible refine wpScr_nil ?_))
    go_wp2
    go_ret
    exact ⟨by first | rfl | (simp; done) | (simp; omega), ((((HX3.out.alloc _).trans hw4).trans hw5).trans KX.out)⟩
  · obtain ⟨k, hk⟩ : ∃ k, n = k + 1 := ⟨n - 1, by omega⟩
    have hlast := HT.out (by rw [← HN.out]; omega)
    rw [← HN.out, show n - 1 = k by omega] at hlast
    obtain ⟨l, hl⟩ : ∃ l, nth (cf P Q) k = l := ⟨_, rfl⟩
    rw [hl] at hlast
    have HLST := Lib.hid hl
    clear hl
    have g1 : decide (0 < g) = true := decide_eq_true (by omega)
    have g2 : ((n : Int) == 1) = false := by simp; omega
    have g3 : decide (1 < l) = true := decide_eq_true (by omega)
    have g4 : (n : Int) - 1 = (k : Int) := by omega
    have i1 : (0 : Int) ≤ (k : Int) := by omega
    have i2 : (k : Int) < (n : Int) := by omega
    have i3 : k < n := by omega
    have HK : Hid (n = k + 1) := Lib.hid hk
    clear hk
    go_enter Try.func5, Try.ntmps5
    go_wp2_with (first
      | (go_at_call 17; (with_reducible refine (fracs_yes _).mono ?_); rintro e w1 ⟨rfl, hw1⟩; have HX1 := Lib.hid (HX.out.trans hw1); have HA1 := Lib.hid (HA.out.ex hw1); have ca0 := HA1.out.c0; have ca1 := HA1.out.c1)
      | (go_at_call 9; (with_reducible refine (H1.out _).mono ?_); rintro e w2 ⟨v, rfl, HR, hw2⟩
         obtain ⟨at1, cp1, rfl, hmax, hreads, _⟩ := HR.out.reads
         rw [← HN.out] at hmax
         rw [← HN.out]
         have HRD := Lib.hid hreads
         have HX2 := Lib.hid (HX1.out.trans hw2)
         have HA2 := Lib.hid (HA1.out.ex hw2)
         clear hreads ca0 ca1)
      | (go_at_call 10; (with_reducible refine (H2.out _ _ _ HRD.out).mono ?_); rintro e w3 ⟨rfl, hw3⟩
         have HX3 := Lib.hid (HX2.out.trans hw3)
         have HA3 := Lib.hid ((HA2.out.ex hw3).ex ((Ex.refl _).alloc (.cells #[.int .i64 y, .int .i64 z] 23)))
         have HY3 : Hid (Two 23 (w3.alloc (.cells #[.int .i64 y, .int .i64 z] 23)) w3.heap.size y z) := Lib.hid (Two.at rfl)
         have HRD3 := Lib.hid ((HRD.out.ex hw3).ex ((Ex.refl _).alloc (.cells #[.int .i64 y, .int .i64 z] 23)))
         have ca0 := HA3.out.c0
         have ca1 := HA3.out.c1)
      | (go_at_call 18; (with_reducible refine (H3.out _).mono ?_); rintro e w4 ⟨rfl, hw4⟩; clear H3; have HA4 := Lib.hid (HA3.out.ex hw4); have HY4 := Lib.hid (HY3.out.ex hw4); have cb0 := HY4.out.c0; have cb1 := HY4.out.c1)
      | (go_at_call 18; (with_reducible refine (H4.out _).mono ?_); rintro e w5 ⟨rfl, hw5⟩; have HA5 := Lib.hid (HA4.out.ex hw5); have HY5 := Lib.hid (HY4.out.ex hw5)))
    have HRD5 := Lib.hid ((HRD3.out.ex hw4).ex hw5)
    rcases HRD5.out with h0 | ⟨tb, toff, rfl, hcell⟩
    · exfalso
      have := HN.out
      rw [h0] at this
      simp at this
      omega
    have hck := hcell k (by rw [← HN.out]; exact i3)
    rw [HLST.out] at hck
    have HCK := Lib.hid hck
    clear hcell hck
    have hx5 : Ex w5 w5.drew := (Ex.refl _).drew
    have KX : Hid (Ex w5 w5.drew) := Lib.hid hx5
    haveI : Nonempty (Kp (fun x => Two 23 x w.heap.size P Q ∧ Two 23 x w3.heap.size y z ∧ x.cell? ⟨tb, toff + k, none⟩ = some (.int .i64 l))) := ⟨⟨w5, HA5.out, HY5.out, HCK.out⟩⟩
    have q0 : ∀ x : Kp (fun x => Two 23 x w.heap.size P Q ∧ Two 23 x w3.heap.size y z ∧ x.cell? ⟨tb, toff + k, none⟩ = some (.int .i64 l)), x.val.cell? ⟨w.heap.size, 0, none⟩ = some (.int .i64 P) := fun x => x.ok.1.c0
    have q1 : ∀ x : Kp (fun x => Two 23 x w.heap.size P Q ∧ Two 23 x w3.heap.size y z ∧ x.cell? ⟨tb, toff + k, none⟩ = some (.int .i64 l)), x.val.cell? ⟨w.heap.size, 1, none⟩ = some (.int .i64 Q) := fun x => x.ok.1.c1
    have q2 : ∀ x : Kp (fun x => Two 23 x w.heap.size P Q ∧ Two 23 x w3.heap.size y z ∧ x.cell? ⟨tb, toff + k, none⟩ = some (.int .i64 l)), x.val.cell? ⟨w3.heap.size, 0, none⟩ = some (.int .i64 y) := fun x => x.ok.2.1.c0
    have q3 : ∀ x : Kp (fun x => Two 23 x w.heap.size P Q ∧ Two 23 x w3.heap.size y z ∧ x.cell? ⟨tb, toff + k, none⟩ = some (.int .i64 l)), x.val.cell? ⟨w3.heap.size, 1, none⟩ = some (.int .i64 z) := fun x => x.ok.2.1.c1
    have q4 : ∀ x : Kp (fun x => Two 23 x w.heap.size P Q ∧ Two 23 x w3.heap.size y z ∧ x.cell? ⟨tb, toff + k, none⟩ = some (.int .i64 l)), x.val.cell? ⟨tb, toff + k, none⟩ = some (.int .i64 l) := fun x => x.ok.2.2
    refine wp_region_scr (fun w2 => ∃ x : Kp (fun x => Two 23 x w.heap.size P Q ∧ Two 23 x w3.heap.size y z ∧ x.cell? ⟨tb, toff + k, none⟩ = some (.int .i64 l)), w2 = x.val) (.take 0 (.take 1 (.take 2 (.one 3 (.one 4 (.take 5 (.take 6 (.take 7 (.take 8 (.take 9 (.take 10 (.take 11 (.take 12 (.take 13 (.take 14 (.take 15 (.take 16 (.take 17 (.take 18 (.take 19 (.take 20 (.take 21 (.take 22 (.take 23 (.take 24 (.take 25 (.take 26 (.take 27 (.take 28 (.take 29 (.take 30 (.take 31 (.take 32 (.take 33 (.take 34 (.take 35 (.take 36 (.take 37 (.take 38 (.take 39 (.take 40 (.take 41 (.take 42 (.take 43 (.take 44 (.take 45 (.fin))))))))))))))))))))))))))))))))))))))))))))))) (by kernel_rfl) (by kernel_rfl) (by intro _ _ d _ _ h; cases d <;> exact h) ⟨⟨_, (by refine ⟨?_, ?_, ?_⟩ <;> first | exact HA5.out.ex (by first | exact KX.out | exact ((Ex.refl _).alloc _).drew) | exact HY5.out.ex (by first | exact KX.out | exact ((Ex.refl _).alloc _).drew) | exact Ex.cell (by first | exact KX.out | exact ((Ex.refl _).alloc _).drew) HCK.out)⟩, rfl⟩ ?_
    simp only [fillS, List.getD_cons_zero, List.getD_cons_succ]
    repeat' (first
      | ((with_reducible refine wpScr_pure ?_); go_big_quiet_step (fail); (with_reducible refine scrQ_on ?_))
      | ((with_reducible refine wpScr_turn ?_); intro K hK; go_wp2_with (first | fail |(go_at_call 19; (with_reducible refine (H5.out _ _ _ (by simp)).mono ?_); rintro e2 w6 ⟨rfl, hw6⟩; have KX : Hid (Ex w5 w6) := Lib.hid hw6)); refine hK _ _ ⟨⟨_, (by refine ⟨?_, ?_, ?_⟩ <;> first | exact HA5.out.ex (by first | exact KX.out | exact ((Ex.refl _).alloc _).drew) | exact HY5.out.ex (by first | exact KX.out | exact ((Ex.refl _).alloc _).drew) | exact Ex.cell (by first | exact KX.out | exact ((Ex.refl _).alloc _).drew) HCK.out)⟩, rfl⟩ ?_; clear hK K)
      | (with_reducible refine wpScr_two ?_ ?_)
      | (with_reducible refine wpScr_nil ?_))
    go_wp2
    go_ret
    exact ⟨by first | rfl | (simp; done) | (simp; omega), ((((HX3.out.alloc _).trans hw4).trans hw5).trans KX.out)⟩

theorem fracBack_walk (p q : Int) (w : World) (_ : I64 p ∧ I64 q) : Calls Try.prog 5 #[.agg #[.int .i64 p, .int .i64 q]] w (Says (.bool true) w) := by
  by_cases h : OkFr p q
  · exact back_ok p q w h
  · exact back_bad p q w h

end Go.Proofs.Ytbomiohgdlcmdaa
