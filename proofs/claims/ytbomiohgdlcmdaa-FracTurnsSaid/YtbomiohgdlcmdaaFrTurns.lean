/-
  FracTurns, walked.
-/
import Derived.Test.YtbomiohgdlcmdaaFrBackW
import Derived.Test.YtbomiohgdlcmdaaSmall
namespace Go.Proofs.Ytbomiohgdlcmdaa
open Go.RowKit
open Eu Fr

theorem Reads.front {w : World} {k : IntKind} {a : Option Addr} {xs : List Int} (h : Reads w k a xs) (n : Nat) : Reads w k a (xs.take n) := by
  rcases h with h | ⟨b, off, h1, h2⟩
  · exact .inl (by rw [h]; simp)
  · refine .inr ⟨b, off, h1, fun i hi => ?_⟩
    have hi2 : i < n ∧ i < xs.length := by simp at hi; omega
    have e : nth (xs.take n) i = nth xs i := by rw [nth_eq hi, nth_eq hi2.2]; simp
    rw [e]
    exact h2 i hi2.2

/-- LAGRANGE, at the place K. -/
theorem turns_at {P Q : Int} {K : Nat} (h : OkFr P Q) (hK : K < (cf P Q).length) :
    (vp ((cf P Q).take K)).1 * (vp ((cf P Q).take (K + 1))).2 - (vp ((cf P Q).take (K + 1))).1 * (vp ((cf P Q).take K)).2 = sg K ∧
    ((K % 2 = 0 → 0 ≤ (vp ((cf P Q).take K)).1 * Q - P * (vp ((cf P Q).take K)).2) ∧ (K % 2 ≠ 0 → (vp ((cf P Q).take K)).1 * Q - P * (vp ((cf P Q).take K)).2 ≤ 0)) ∧
    (0 ≤ (vp ((cf P Q).take K)).1 ∧ (vp ((cf P Q).take K)).1 ≤ 1000000 ∧ 0 ≤ (vp ((cf P Q).take K)).2 ∧ (vp ((cf P Q).take K)).2 ≤ 1000000) ∧
    (0 ≤ (vp ((cf P Q).take (K + 1))).1 ∧ (vp ((cf P Q).take (K + 1))).1 ≤ 1000000 ∧ 0 ≤ (vp ((cf P Q).take (K + 1))).2 ∧ (vp ((cf P Q).take (K + 1))).2 ≤ 1000000) := by
  obtain ⟨h1, h2, h3, h4⟩ := h
  have e : (cf P Q).take (K + 1) = (cf P Q).take K ++ [nth (cf P Q) K] := by rw [nth_eq hK, List.take_append_getElem hK]
  have hs : cf P Q = ((cf P Q).take K ++ [nth (cf P Q) K]) ++ (cf P Q).drop (K + 1) := by rw [← e, List.take_append_drop]
  have hlen : ((cf P Q).take K).length = K := by simp; omega
  obtain ⟨t1, q', hq', t2⟩ := turns h3 (by omega) hs
  rw [hlen, ← e] at t1
  rw [hlen] at t2
  have hn := cf_nonneg h3 (q := Q) (by omega)
  have hb : ∀ k, 0 ≤ (vp ((cf P Q).take k)).1 ∧ (vp ((cf P Q).take k)).1 ≤ 1000000 ∧ 0 ≤ (vp ((cf P Q).take k)).2 ∧ (vp ((cf P Q).take k)).2 ≤ 1000000 := fun k => by
    have f := front_small (l := (cf P Q).take k) (l2 := (cf P Q).drop k) h3 (by omega) (B := 1000000) (by omega) h4 h2 (by simp) 0
    rw [List.drop_zero] at f
    have g := vp_nonneg ((cf P Q).take k) fun x hx => hn x (List.mem_of_mem_take hx)
    exact ⟨g.1, f.1, g.2, f.2⟩
  refine ⟨t1, ⟨fun hk => ?_, fun hk => ?_⟩, hb K, hb (K + 1)⟩
  · rw [t2]; unfold sg; rw [if_pos hk]; omega
  · rw [t2]; unfold sg; rw [if_neg hk]; omega

set_option maxHeartbeats 1000000 in
theorem turns_bad (P Q k : Int) (w : World) (h : ¬ OkFr P Q) : Calls Try.prog 6 #[.agg #[.int .i64 P, .int .i64 Q], .int .i64 k] w (Says (.bool true) w) := by
  have H1 := Lib.hid fun w => of_no P Q w h
  have HX := Lib.hid ((Ex.refl w).alloc (.cells #[.int .i64 P, .int .i64 Q] 23))
  have HA : Hid (Two 23 (w.alloc (.cells #[.int .i64 P, .int .i64 Q] 23)) w.heap.size P Q) := Lib.hid (Two.at rfl)
  clear h
  go_enter Try.func6, Try.ntmps6
  go_wp2_with (first
    | (go_at_call 17; (with_reducible refine (fracs_yes _).mono ?_); rintro e w1 ⟨rfl, hw1⟩; have ca0 := (HA.out.ex hw1).c0; have ca1 := (HA.out.ex hw1).c1)
    | (go_at_call 9; (with_reducible refine (H1.out _).mono ?_); rintro e w2 ⟨rfl, hw2⟩))
  go_ret
  exact ⟨by first | rfl | (simp; done) | (simp; omega), (HX.out.trans hw1).trans hw2⟩

set_option maxHeartbeats 1000000 in
theorem turns_short (P Q k : Int) (w : World) (h : OkFr P Q) (hs : (cf P Q).length < 2) : Calls Try.prog 6 #[.agg #[.int .i64 P, .int .i64 Q], .int .i64 k] w (Says (.bool true) w) := by
  have H1 := Lib.hid fun w => of_ok P Q w h
  have HX := Lib.hid ((Ex.refl w).alloc (.cells #[.int .i64 P, .int .i64 Q] 23))
  have HA : Hid (Two 23 (w.alloc (.cells #[.int .i64 P, .int .i64 Q] 23)) w.heap.size P Q) := Lib.hid (Two.at rfl)
  obtain ⟨n, hn⟩ : ∃ n, n = (cf P Q).length := ⟨_, rfl⟩
  have hlen : (cf P Q).length ≤ 1000000 := by have := cf_len Q.toNat P Q rfl; have := h.2.1; omega
  have hn6 : n ≤ 1000000 := by omega
  have HN := Lib.hid hn
  have g1 : (n : Int) < 2 := by omega
  clear h hs hn hlen
  go_enter Try.func6, Try.ntmps6
  go_wp2_with (first
    | (go_at_call 17; (with_reducible refine (fracs_yes _).mono ?_); rintro e w1 ⟨rfl, hw1⟩; have HX1 := Lib.hid (HX.out.trans hw1); have HA1 := Lib.hid (HA.out.ex hw1); have ca0 := HA1.out.c0; have ca1 := HA1.out.c1)
    | (go_at_call 9; (with_reducible refine (H1.out _).mono ?_); rintro e w2 ⟨v, rfl, HR, hw2⟩
       obtain ⟨at1, cp1, rfl, hmax, hreads, _⟩ := HR.out.reads
       rw [← HN.out] at hmax
       rw [← HN.out]
       have HRD := Lib.hid hreads
       have HX2 := Lib.hid (HX1.out.trans hw2)
       have HA2 := Lib.hid (HA1.out.ex hw2)
       clear hreads ca0 ca1
       ))
  go_ret
  exact ⟨by first | rfl | (simp; done) | (simp; omega), HX2.out⟩

set_option maxRecDepth 100000 in
set_option maxHeartbeats 4000000 in
theorem turns_ok (P Q k : Int) (w : World) (h : OkFr P Q) (hs : ¬ (cf P Q).length < 2) : Calls Try.prog 6 #[.agg #[.int .i64 P, .int .i64 Q], .int .i64 k] w (Says (.bool true) w) := by
  have H1 := Lib.hid fun w => of_ok P Q w h
  have HX := Lib.hid ((Ex.refl w).alloc (.cells #[.int .i64 P, .int .i64 Q] 23))
  have HA : Hid (Two 23 (w.alloc (.cells #[.int .i64 P, .int .i64 Q] 23)) w.heap.size P Q) := Lib.hid (Two.at rfl)
  obtain ⟨n, hn⟩ : ∃ n, n = (cf P Q).length := ⟨_, rfl⟩
  have hlen : (cf P Q).length ≤ 1000000 := by have := cf_len Q.toNat P Q rfl; have := h.2.1; omega
  have hn6 : n ≤ 1000000 := by omega
  have HN := Lib.hid hn
  obtain ⟨M, hM⟩ : ∃ M, n = M + 1 := ⟨n - 1, by omega⟩
  have m1 := Int.emod_nonneg k (b := (M : Int)) (by omega)
  have m2 := Int.emod_lt_of_pos k (b := (M : Int)) (by omega)
  obtain ⟨J, hJ⟩ : ∃ J : Nat, k % (M : Int) = (J : Int) := ⟨(k % (M : Int)).toNat, by omega⟩
  rw [hJ] at m1 m2
  obtain ⟨K, hK⟩ : ∃ K, K = J + 1 := ⟨_, rfl⟩
  have hKn : K < n := by omega
  have g4 : (n : Int) - 1 = (M : Int) := by omega
  have g5 : 1 + (J : Int) = (K : Int) := by omega
  have g6 : ¬ (n : Int) < 2 := by omega
  have g7 : 1 ≤ (M : Int) := by omega
  obtain ⟨t1, ⟨t2, t3⟩, ⟨a0, a1, b0, b1⟩, c0, c1, d0, d1⟩ := turns_at h (K := K) (by omega)
  have hv1 := vr_take h K
  have hv2 := vr_take h (K + 1)
  have hl1 : ((cf P Q).take K).length = K := by simp; omega
  have hl2 : ((cf P Q).take (K + 1)).length = K + 1 := by simp; omega
  have hn1 : (cf P Q).take K ≠ [] := fun e => by rw [e] at hl1; simp at hl1; omega
  have hn2 : (cf P Q).take (K + 1) ≠ [] := fun e => by rw [e] at hl2; simp at hl2
  have H2 : Hid (∀ w a cap, Reads w .i64 a ((cf P Q).take K) → Calls Try.prog 10 #[.slice a K cap] w (Says (vres (some (vp ((cf P Q).take K)))) w)) := Lib.hid fun w a cap hr => by
    have h2 := value_ok ((cf P Q).take K) a cap w (by unfold maxLen; omega) hr hn1 (okT_take (okT_cf h) K)
    rw [hv1, hl1] at h2
    exact h2
  have H3 : Hid (∀ w a cap, Reads w .i64 a ((cf P Q).take (K + 1)) → Calls Try.prog 10 #[.slice a (K + 1) cap] w (Says (vres (some (vp ((cf P Q).take (K + 1))))) w)) := Lib.hid fun w a cap hr => by
    have h2 := value_ok ((cf P Q).take (K + 1)) a cap w (by unfold maxLen; omega) hr hn2 (okT_take (okT_cf h) (K + 1))
    rw [hv2, hl2] at h2
    exact h2
  simp only [vres] at H2 H3
  obtain ⟨h1, h2, h3, h4⟩ := h
  generalize (vp ((cf P Q).take K)).1 = A at *
  generalize (vp ((cf P Q).take K)).2 = B at *
  generalize (vp ((cf P Q).take (K + 1))).1 = C at *
  generalize (vp ((cf P Q).take (K + 1))).2 = D at *
  have x1 : 0 ≤ A * D := Int.mul_nonneg a0 d0
  have x2 : A * D ≤ 1000000 * D := Int.mul_le_mul_of_nonneg_right a1 d0
  have x3 : 0 ≤ C * B := Int.mul_nonneg c0 b0
  have x4 : C * B ≤ 1000000 * B := Int.mul_le_mul_of_nonneg_right c1 b0
  have x5 : 0 ≤ A * Q := Int.mul_nonneg a0 (by omega)
  have x6 : A * Q ≤ 1000000 * Q := Int.mul_le_mul_of_nonneg_right a1 (by omega)
  have x7 : 0 ≤ P * B := Int.mul_nonneg h3 b0
  have x8 : P * B ≤ 1000000 * B := Int.mul_le_mul_of_nonneg_right h4 b0
  have H4 := Lib.hid good2
  have HKJ : Hid (K = J + 1) := Lib.hid hK
  clear hK hM hn hs hlen hv1 hv2 hl1 hl2 hn1 hn2
  by_cases hp : K % 2 = 0
  · have u1 := t2 hp
    have u2 : A * D - C * B = 1 := by rw [t1]; unfold sg; rw [if_pos hp]
    have u3 : (K : Int) % 2 = 0 := by omega
    clear t1 t2 t3
    go_enter Try.func6, Try.ntmps6
    go_wp2_with (first
      | (go_at_call 17; (with_reducible refine (fracs_yes _).mono ?_); rintro e w1 ⟨rfl, hw1⟩; have HX1 := Lib.hid (HX.out.trans hw1); have HA1 := Lib.hid (HA.out.ex hw1); have ca0 := HA1.out.c0; have ca1 := HA1.out.c1)
      | (go_at_call 9; (with_reducible refine (H1.out _).mono ?_); rintro e w2 ⟨v, rfl, HR, hw2⟩
         obtain ⟨at1, cp1, rfl, hmax, hreads, _⟩ := HR.out.reads
         rw [← HN.out] at hmax
         rw [← HN.out]
         have hcap : n ≤ cp1 := by
           rcases HR.out.form with ⟨e1, _⟩ | ⟨g, c, e1, _, _, e3, _⟩
           · simp only [Value.slice.injEq] at e1
             have := HN.out
             omega
           · simp only [Value.slice.injEq] at e1
             have := HN.out
             omega
         have HRD := Lib.hid hreads
         obtain ⟨tb, toff, rfl⟩ : ∃ tb toff, at1 = some ⟨tb, toff, none⟩ := by
           rcases hreads with h0 | ⟨tb, toff, e1, _⟩
           · have := HN.out
             rw [h0] at this
             simp at this
             omega
           · exact ⟨tb, toff, e1⟩
         have HX2 := Lib.hid (HX1.out.trans hw2)
         have HA2 := Lib.hid (HA1.out.ex hw2)
         clear hreads ca0 ca1)
      | (go_at_call 20; (with_reducible refine (within_any k _ _ (by omega) (by omega)).mono ?_); rintro e w' ⟨rfl, rfl⟩; rw [hJ])
      | (go_at_call 10; (with_reducible refine (H2.out _ _ _ (HRD.out.front K)).mono ?_); rintro e w3 ⟨rfl, hw3⟩
         have HX3 := Lib.hid (HX2.out.trans hw3)
         have HA3 := Lib.hid ((HA2.out.ex hw3).ex ((Ex.refl _).alloc (.cells #[.int .i64 A, .int .i64 B] 23)))
         have HY3 : Hid (Two 23 (w3.alloc (.cells #[.int .i64 A, .int .i64 B] 23)) w3.heap.size A B) := Lib.hid (Two.at rfl)
         have HRD3 := Lib.hid ((HRD.out.ex hw3).ex ((Ex.refl _).alloc (.cells #[.int .i64 A, .int .i64 B] 23))))
      | (go_at_call 10; (with_reducible refine (H3.out _ _ _ (HRD3.out.front (K + 1))).mono ?_); rintro e w4 ⟨rfl, hw4⟩
         have HX4 := Lib.hid (((HX3.out.alloc (.cells #[.int .i64 A, .int .i64 B] 23)).trans hw4).alloc (.cells #[.int .i64 C, .int .i64 D] 23))
         have HA4 := Lib.hid ((HA3.out.ex hw4).ex ((Ex.refl _).alloc (.cells #[.int .i64 C, .int .i64 D] 23)))
         have HY4 := Lib.hid ((HY3.out.ex hw4).ex ((Ex.refl _).alloc (.cells #[.int .i64 C, .int .i64 D] 23)))
         have ca0 := HA4.out.c0
         have ca1 := HA4.out.c1
         have cb0 := HY4.out.c0
         have cb1 := HY4.out.c1)
      | (go_at_call 19; (with_reducible refine (H4.out _ _ _ (by simp)).mono ?_); rintro e w5 ⟨rfl, hw5⟩))
    go_ret
    exact ⟨by first | rfl | (simp; done) | (simp; omega), HX4.out.trans hw5⟩
  · have u1 := t3 hp
    have u2 : A * D - C * B = -1 := by rw [t1]; unfold sg; rw [if_neg hp]
    have u3 : (K : Int) % 2 = 1 := by omega
    clear t1 t2 t3
    go_enter Try.func6, Try.ntmps6
    go_wp2_with (first
      | (go_at_call 17; (with_reducible refine (fracs_yes _).mono ?_); rintro e w1 ⟨rfl, hw1⟩; have HX1 := Lib.hid (HX.out.trans hw1); have HA1 := Lib.hid (HA.out.ex hw1); have ca0 := HA1.out.c0; have ca1 := HA1.out.c1)
      | (go_at_call 9; (with_reducible refine (H1.out _).mono ?_); rintro e w2 ⟨v, rfl, HR, hw2⟩
         obtain ⟨at1, cp1, rfl, hmax, hreads, _⟩ := HR.out.reads
         rw [← HN.out] at hmax
         rw [← HN.out]
         have hcap : n ≤ cp1 := by
           rcases HR.out.form with ⟨e1, _⟩ | ⟨g, c, e1, _, _, e3, _⟩
           · simp only [Value.slice.injEq] at e1
             have := HN.out
             omega
           · simp only [Value.slice.injEq] at e1
             have := HN.out
             omega
         have HRD := Lib.hid hreads
         obtain ⟨tb, toff, rfl⟩ : ∃ tb toff, at1 = some ⟨tb, toff, none⟩ := by
           rcases hreads with h0 | ⟨tb, toff, e1, _⟩
           · have := HN.out
             rw [h0] at this
             simp at this
             omega
           · exact ⟨tb, toff, e1⟩
         have HX2 := Lib.hid (HX1.out.trans hw2)
         have HA2 := Lib.hid (HA1.out.ex hw2)
         clear hreads ca0 ca1)
      | (go_at_call 20; (with_reducible refine (within_any k _ _ (by omega) (by omega)).mono ?_); rintro e w' ⟨rfl, rfl⟩; rw [hJ])
      | (go_at_call 10; (with_reducible refine (H2.out _ _ _ (HRD.out.front K)).mono ?_); rintro e w3 ⟨rfl, hw3⟩
         have HX3 := Lib.hid (HX2.out.trans hw3)
         have HA3 := Lib.hid ((HA2.out.ex hw3).ex ((Ex.refl _).alloc (.cells #[.int .i64 A, .int .i64 B] 23)))
         have HY3 : Hid (Two 23 (w3.alloc (.cells #[.int .i64 A, .int .i64 B] 23)) w3.heap.size A B) := Lib.hid (Two.at rfl)
         have HRD3 := Lib.hid ((HRD.out.ex hw3).ex ((Ex.refl _).alloc (.cells #[.int .i64 A, .int .i64 B] 23))))
      | (go_at_call 10; (with_reducible refine (H3.out _ _ _ (HRD3.out.front (K + 1))).mono ?_); rintro e w4 ⟨rfl, hw4⟩
         have HX4 := Lib.hid (((HX3.out.alloc (.cells #[.int .i64 A, .int .i64 B] 23)).trans hw4).alloc (.cells #[.int .i64 C, .int .i64 D] 23))
         have HA4 := Lib.hid ((HA3.out.ex hw4).ex ((Ex.refl _).alloc (.cells #[.int .i64 C, .int .i64 D] 23)))
         have HY4 := Lib.hid ((HY3.out.ex hw4).ex ((Ex.refl _).alloc (.cells #[.int .i64 C, .int .i64 D] 23)))
         have ca0 := HA4.out.c0
         have ca1 := HA4.out.c1
         have cb0 := HY4.out.c0
         have cb1 := HY4.out.c1)
      | (go_at_call 19; (with_reducible refine (H4.out _ _ _ (by simp)).mono ?_); rintro e w5 ⟨rfl, hw5⟩))
    go_ret
    exact ⟨by first | rfl | (simp; done) | (simp; omega), HX4.out.trans hw5⟩

theorem fracTurns_walk (p q k : Int) (w : World) (_ : I64 p ∧ I64 q) (_ : I64 k) : Calls Try.prog 6 #[.agg #[.int .i64 p, .int .i64 q], .int .i64 k] w (Says (.bool true) w) := by
  by_cases h : OkFr p q
  · by_cases hs : (cf p q).length < 2
    · exact turns_short p q k w h hs
    · exact turns_ok p q k w h hs
  · exact turns_bad p q k w h

end Go.Proofs.Ytbomiohgdlcmdaa
