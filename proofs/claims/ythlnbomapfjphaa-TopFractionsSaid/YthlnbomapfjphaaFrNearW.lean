/-
  The walk of Near where all is allowed.
-/
import Derived.Test.YthlnbomapfjphaaFrSums
namespace Go.Proofs.Ythlnbomapfjphaa
open Go.RowKit
open Eu Fr

/-- What is known of the loop at place i. -/
structure NrInv (P Q : Int) (i : Nat) (A B C D : Int) : Prop where
  vp : vp ((cf P Q).take i) = (A, B)
  vq : vq ((cf P Q).take i) = (C, D)
  a0 : 0 ≤ A
  a1 : A ≤ 1000000
  b0 : 0 ≤ B
  b1 : B ≤ 1000000
  c0 : 0 ≤ C
  c1 : C ≤ 1000000
  d0 : 0 ≤ D
  d1 : D ≤ 1000000

theorem NrInv.start (P Q : Int) : NrInv P Q 0 1 0 0 1 := ⟨by simp [Fr.vp], by simp [Fr.vq], by omega, by omega, by omega, by omega, by omega, by omega, by omega, by omega⟩

theorem take_step {l : List Int} {i : Nat} (h : i < l.length) : l.take (i + 1) = l.take i ++ [nth l i] := by
  rw [nth_eq h, List.take_append_getElem h]

theorem NrInv.step {P Q : Int} {i : Nat} {A B C D : Int} (hI : NrInv P Q i A B C D) (h : OkFr P Q) (hi : i < (cf P Q).length) :
    NrInv P Q (i + 1) (C + nth (cf P Q) i * A) (D + nth (cf P Q) i * B) A B ∧ 0 ≤ nth (cf P Q) i ∧ nth (cf P Q) i ≤ 1000000 ∧ 0 ≤ nth (cf P Q) i * A ∧ 0 ≤ nth (cf P Q) i * B := by
  obtain ⟨h1, h2, h3, h4⟩ := h
  have ht0 : 0 ≤ nth (cf P Q) i := cf_nonneg h3 (by omega) _ (nth_mem hi)
  have ht1 : nth (cf P Q) i ≤ 1000000 := by
    obtain ⟨a, l, e, _, e1, e2, e3⟩ := cf_entries h3 (q := Q) (by omega)
    have hm := nth_mem hi
    rw [e] at hm
    rcases List.mem_cons.mp hm with hh | hh
    · rw [← e] at hh; omega
    · have := e3 _ hh; rw [← e] at this; omega
  have hv : Fr.vp ((cf P Q).take (i + 1)) = (C + nth (cf P Q) i * A, D + nth (cf P Q) i * B) := by
    rw [take_step hi, vp_snoc, hI.vp, hI.vq, Int.add_comm, Int.add_comm (nth (cf P Q) i * B)]
  have hq : Fr.vq ((cf P Q).take (i + 1)) = (A, B) := by rw [take_step hi, vq_snoc, hI.vp]
  have hs := front_small (l := (cf P Q).take (i + 1)) (l2 := (cf P Q).drop (i + 1)) h3 (by omega) (B := 1000000) (by omega) h4 h2 (by simp) 0
  rw [List.drop_zero, hv] at hs
  have p0 := Int.mul_nonneg ht0 hI.a0
  have p1 := Int.mul_nonneg ht0 hI.b0
  have c0 := hI.c0
  have d0 := hI.d0
  simp only at hs
  exact ⟨⟨hv, hq, by omega, hs.1, by omega, hs.2, hI.a0, hI.a1, hI.b0, hI.b1⟩, ht0, ht1, p0, p1⟩

/-- Where the next one is too large. -/
theorem NrInv.over {P Q m : Int} {i : Nat} {A B C D : Int} (hI : NrInv P Q i A B C D) (h : OkFr P Q) (hi : i < (cf P Q).length) (m1 : 1 ≤ m) (hB : B ≤ m) (hbig : m < D + nth (cf P Q) i * B) :
    1 ≤ B ∧ D ≤ m ∧ 0 ≤ (m - D) / B ∧ (m - D) / B ≤ 1000000 ∧ 0 ≤ (m - D) / B * A ∧ 0 ≤ (m - D) / B * B ∧ C + (m - D) / B * A ≤ 1000000 ∧ D + (m - D) / B * B ≤ 1000000 ∧
    ((i : Int) % 2 = 0 → IsLow P Q m (C + (m - D) / B * A) (D + (m - D) / B * B) ∧ IsHigh P Q m A B) ∧
    ((i : Int) % 2 ≠ 0 → IsHigh P Q m (C + (m - D) / B * A) (D + (m - D) / B * B) ∧ IsLow P Q m A B) := by
  have hS := (hI.step h hi).1
  have ht := (hI.step h hi).2
  obtain ⟨h1, h2, h3, h4⟩ := h
  have hne : (cf P Q).take i ≠ [] := fun e => by
    have h5 := hI.vp
    have h6 := hI.vq
    rw [e] at h5 h6
    simp [Fr.vp, Fr.vq] at h5 h6
    obtain ⟨rfl, rfl⟩ := h5
    obtain ⟨rfl, rfl⟩ := h6
    simp at hbig
    omega
  have hlen : ((cf P Q).take i).length = i := by simp; omega
  have hsplit : cf P Q = (cf P Q).take i ++ nth (cf P Q) i :: (cf P Q).drop (i + 1) := by
    rw [nth_eq hi, ← List.drop_eq_getElem_cons hi, List.take_append_drop]
  have hN := near_end (N := m) h3 (by omega) m1 hsplit (by rw [hI.vp]; exact hB) (by rw [hI.vp, hI.vq]; show m < nth (cf P Q) i * B + D; omega) hne
  rw [hlen, hI.vp, hI.vq] at hN
  simp only at hN
  obtain ⟨n1, n2, n3, n4, n5, n6, n7⟩ := hN
  have p1 := Int.mul_nonneg n4 hI.a0
  have p2 := Int.mul_nonneg n4 hI.b0
  have q1 : (m - D) / B * A ≤ nth (cf P Q) i * A := Int.mul_le_mul_of_nonneg_right (by omega) hI.a0
  have q2 : (m - D) / B * B ≤ nth (cf P Q) i * B := Int.mul_le_mul_of_nonneg_right (by omega) hI.b0
  have s1 := hS.a1
  have s2 := hS.b1
  exact ⟨n1, n3, n4, by omega, p1, p2, by omega, by omega, fun e => n6 (by omega), fun e => n7 (by omega)⟩

/-- At the end. -/
theorem NrInv.all {P Q m : Int} {A B C D : Int} (hI : NrInv P Q (cf P Q).length A B C D) (h : OkFr P Q) (hB : B ≤ m) : IsLow P Q m A B ∧ IsHigh P Q m A B := by
  obtain ⟨h1, h2, h3, h4⟩ := h
  have hv := hI.vp
  rw [List.take_length] at hv
  obtain ⟨e1, e2⟩ := cf_gcd h3 (q := Q) (by omega)
  rw [hv] at e1 e2
  simp only at e1 e2
  have hg := G_pos (a := P) (b := Q) (.inr (by omega))
  have hv2 := cf_val h3 (q := Q) (by omega)
  rw [hv] at hv2
  simp only [Prod.mk.injEq] at hv2
  have hb1 : 1 ≤ B := by
    refine Decidable.byContradiction fun hc => ?_
    have h5 := hI.b0
    obtain rfl : B = 0 := by omega
    omega
  have hG1 : G A B = 1 := by
    have hd := det (cf P Q)
    rw [hv] at hd
    simp only at hd
    generalize (Fr.vq (cf P Q)).1 = C at *
    generalize (Fr.vq (cf P Q)).2 = D at *
    have k1 := G_dvd_left A B
    have k2 := G_dvd_right A B
    have k3 : G A B ∣ sg (cf P Q).length := by
      rw [← hd]
      exact Int.dvd_sub (Int.dvd_trans k1 (Int.dvd_mul_right _ _)) (Int.dvd_trans k2 (Int.dvd_mul_left _ _))
    have k5 := G_pos (a := A) (b := B) (.inr (by omega))
    have k4 : G A B ∣ 1 := by
      unfold sg at k3
      split at k3
      · exact k3
      · exact Int.dvd_neg.mp k3
    have := Int.le_of_dvd (by decide) k4
    omega
  exact nearest_self (g := G P Q) (by omega) hb1 hB hG1 e1 e2

set_option maxRecDepth 100000 in
set_option maxHeartbeats 4000000 in
theorem near_ok (P Q m : Int) (w : World) (h : OkFr P Q) (m1 : 1 ≤ m) (m2 : m ≤ 1000000) :
    Calls Try.prog 47 #[.agg #[.int .i64 P, .int .i64 Q], .int .i64 m] w (NearSays P Q m w) := by
  have HX := Lib.hid ((((Ex.refl w).alloc (.cells #[.int .i64 P, .int .i64 Q] 75)).alloc (.cells #[.int .i64 0, .int .i64 0] 75)).alloc (.cells #[.int .i64 0, .int .i64 0] 75))
  have H := Lib.hid fun w => frOf_ok P Q w h
  have HOK := Lib.hid h
  have HA : Hid (Two 75 (((w.alloc (.cells #[.int .i64 P, .int .i64 Q] 75)).alloc (.cells #[.int .i64 0, .int .i64 0] 75)).alloc (.cells #[.int .i64 0, .int .i64 0] 75)) (w.heap.size + 1) 0 0) := Lib.hid ((Two.at (by simp)).ex ((Ex.refl _).alloc _))
  have HB : Hid (Two 75 (((w.alloc (.cells #[.int .i64 P, .int .i64 Q] 75)).alloc (.cells #[.int .i64 0, .int .i64 0] 75)).alloc (.cells #[.int .i64 0, .int .i64 0] 75)) (w.heap.size + 1 + 1) 0 0) := Lib.hid (Two.at (by simp))
  clear h
  go_enter Try.func47, Try.ntmps47
  go_wp2_with (
    (go_at_call 45; (with_reducible refine (H.out _).mono ?_); rintro e w2 ⟨v, rfl, HROW, hw2⟩
     obtain ⟨at1, cp1, rfl, hmax, hreads, _⟩ := HROW.out.reads
     have HRD := Lib.hid hreads
     have HMX := Lib.hid hmax
     have HA2 := Lib.hid (HA.out.ex hw2)
     have HB2 := Lib.hid (HB.out.ex hw2)
     have HX2 := Lib.hid (HX.out.trans hw2)
     clear hreads hmax))
  have s1 := HB2.out.lt
  have e1 : w.heap.size + 1 ≠ w.heap.size + 1 + 1 := by omega
  have e2 : w.heap.size + 1 ≠ w2.heap.size := by omega
  have e3 : w.heap.size + 1 ≠ w2.heap.size + 1 := by omega
  have e4 : w.heap.size + 1 + 1 ≠ w2.heap.size := by omega
  have e5 : w.heap.size + 1 + 1 ≠ w2.heap.size + 1 := by omega
  have e6 : w2.heap.size ≠ w2.heap.size + 1 := by omega
  have e7 : w.heap.size + 1 + 1 ≠ w.heap.size + 1 := by omega
  have e8 : w2.heap.size ≠ w.heap.size + 1 := by omega
  have e9 : w2.heap.size + 1 ≠ w.heap.size + 1 := by omega
  have e10 : w2.heap.size ≠ w.heap.size + 1 + 1 := by omega
  have e11 : w2.heap.size + 1 ≠ w.heap.size + 1 + 1 := by omega
  have e12 : w2.heap.size + 1 ≠ w2.heap.size := by omega
  have HS1 : Hid (w.heap.size + 1 + 1 < w2.heap.size) := s1
  clear s1
  have hlm : (cf P Q).length ≤ 9223372036854775807 := by have := HMX.out; unfold maxLen at this; omega
  rcases HRD.out with hnil | ⟨tb, toff, rfl, hcell⟩
  · exfalso
    have hq := HOK.out
    unfold OkFr at hq
    rw [cf_step (by omega)] at hnil
    cases hnil
  have HCELL := Lib.hid hcell
  clear hcell
  go_loopg [36] (cf P Q).length (fun k v36 wr => ∃ (i : Nat) (A B C D : Int), i ≤ (cf P Q).length ∧ v36 = .int .i64 i ∧ Hid (k = (cf P Q).length - i) ∧ Hid (NrInv P Q i A B C D) ∧ Hid (B ≤ m) ∧ Hid (Two 75 wr w2.heap.size C D) ∧ Hid (Two 75 wr (w2.heap.size + 1) A B) ∧ Hid (Ex w2 wr))
  case atStart => exact ⟨0, 1, 0, 0, 1, Nat.zero_le _, rfl, Lib.hid rfl, Lib.hid (NrInv.start P Q), Lib.hid (by omega), Lib.hid ((Two.at rfl).ex ((Ex.refl _).alloc _)), Lib.hid (Two.at (by simp)), Lib.hid (((Ex.refl _).alloc _).alloc _)⟩
  case round =>
    obtain ⟨i, A, B, C, D, hi, rfl, hk, hI, hBm, h9, h10, hx⟩ := hrel
    have HA3 := Lib.hid (HA2.out.ex hx.out)
    have HB3 := Lib.hid (HB2.out.ex hx.out)
    have ca0 := HA3.out.c0
    have ca1 := HA3.out.c1
    have caf0 := HA3.out.free 0
    have caf1 := HA3.out.free 1
    have cb0 := HB3.out.c0
    have cb1 := HB3.out.c1
    have cbf0 := HB3.out.free 0
    have cbf1 := HB3.out.free 1
    have cc0 := h9.out.c0
    have cc1 := h9.out.c1
    have ccf0 := h9.out.free 0
    have ccf1 := h9.out.free 1
    have cd0 := h10.out.c0
    have cd1 := h10.out.c1
    have cdf0 := h10.out.free 0
    have cdf1 := h10.out.free 1
    have b1 := hI.out.a0
    have b2 := hI.out.a1
    have b3 := hI.out.b0
    have b4 := hI.out.b1
    have b5 := hI.out.c0
    have b6 := hI.out.c1
    have b7 := hI.out.d0
    have b8 := hI.out.d1
    by_cases hlt : i < (cf P Q).length
    · have hcx := hx.out.cell (HCELL.out i hlt)
      obtain ⟨hS, t0, t1, p0, p1⟩ := hI.out.step HOK.out hlt
      have hO := hI.out.over (m := m) HOK.out hlt m1 hBm.out
      have HS := Lib.hid hS
      have s1 := hS.a1
      have s2 := hS.b1
      have s3 := hS.a0
      have s4 := hS.b0
      obtain ⟨t, ht⟩ : ∃ t, nth (cf P Q) i = t := ⟨_, rfl⟩
      rw [ht] at hcx t0 t1 p0 p1 HS hO s1 s2 s3 s4
      have HO := Lib.hid hO
      clear hS hO ht
      by_cases hbig : m < D + t * B
      · obtain ⟨o1, o2, o3, o4, o5, o6, o7, o8, o9, o10⟩ := HO.out hbig
        obtain ⟨k, hkk⟩ : ∃ k, (m - D) / B = k := ⟨_, rfl⟩
        have o1b : B ≠ 0 := by omega
        have o3b : (m - D).tdiv B = k := by rw [← hkk]; exact Int.tdiv_eq_ediv_of_nonneg (by omega)
        rw [hkk] at o3 o4 o5 o6 o7 o8 o9 o10
        have HE := Lib.hid o9
        have HU := Lib.hid o10
        clear o9 o10 hkk
        go_wp2_with (
          (go_at_call 90; (with_reducible refine (plus_any _ _ _ _ _ _ (by omega) (by omega) (by omega) (by omega)).mono ?_); rintro e w3 ⟨rfl, hw3⟩))
        clear ca0 ca1 caf0 caf1 cb0 cb1 cbf0 cbf1 cc0 cc1 ccf0 ccf1 cd0 cd1 cdf0 cdf1
        have s13 : w2.heap.size + 1 < w3.heap.size := by have := (h10.out.ex hw3).lt; omega
        have HN : Hid (Two 75 (w3.alloc (Obj.cells #[.int .i64 (C + t * A), .int .i64 (D + t * B)] 75)) w3.heap.size (C + t * A) (D + t * B)) := Lib.hid (Two.at rfl)
        have HXW : Hid (Ex wr (w3.alloc (Obj.cells #[.int .i64 (C + t * A), .int .i64 (D + t * B)] 75))) := Lib.hid (hw3.alloc _)
        generalize w3.alloc (Obj.cells #[.int .i64 (C + t * A), .int .i64 (D + t * B)] 75) = wn at *
        have H9 := Lib.hid (h9.out.ex HXW.out)
        have H10 := Lib.hid (h10.out.ex HXW.out)
        have H4 := Lib.hid (HA3.out.ex HXW.out)
        have H5 := Lib.hid (HB3.out.ex HXW.out)
        have HXN := Lib.hid (hx.out.trans HXW.out)
        clear HA3 HB3 h9 h10
        have f1 : w3.heap.size ≠ w2.heap.size := by omega
        have f2 : w3.heap.size ≠ w2.heap.size + 1 := by omega
        have f3 : w2.heap.size ≠ w3.heap.size := by omega
        have f4 : w2.heap.size + 1 ≠ w3.heap.size := by omega
        have f5 : w3.heap.size ≠ w.heap.size + 1 := by have := HS1.out; omega
        have f6 : w3.heap.size ≠ w.heap.size + 1 + 1 := by have := HS1.out; omega
        have f7 : w.heap.size + 1 ≠ w3.heap.size := by omega
        have f8 : w.heap.size + 1 + 1 ≠ w3.heap.size := by omega
        have H9d := Lib.hid (H9.out.ex (Ex.refl _).drew)
        have H10d := Lib.hid (H10.out.ex (Ex.refl _).drew)
        have HNd := Lib.hid (HN.out.ex (Ex.refl _).drew)
        have H4d := Lib.hid (H4.out.ex (Ex.refl _).drew)
        have H5d := Lib.hid (H5.out.ex (Ex.refl _).drew)
        have HXd := Lib.hid (HXN.out.drew)
        have cc0 := H9.out.c0
        have cc1 := H9.out.c1
        have ccf0 := H9.out.free 0
        have ccf1 := H9.out.free 1
        have cd0 := H10.out.c0
        have cd1 := H10.out.c1
        have cdf0 := H10.out.free 0
        have cdf1 := H10.out.free 1
        go_still_tail 9, (by kernel_rfl)
        change wpList _ _ _ _ _ wn.drew
        clear cc0 cc1 ccf0 ccf1 cd0 cd1 cdf0 cdf1
        generalize wn.drew = w4 at *
        have cc0 := H9d.out.c0
        have cc1 := H9d.out.c1
        have ccf0 := H9d.out.free 0
        have ccf1 := H9d.out.free 1
        have cd0 := H10d.out.c0
        have cd1 := H10d.out.c1
        have cdf0 := H10d.out.free 0
        have cdf1 := H10d.out.free 1
        have cn0 := HNd.out.c0
        have cn1 := HNd.out.c1
        have cnf0 := HNd.out.free 0
        have cnf1 := HNd.out.free 1
        by_cases hpar : (i : Int) % 2 = 0
        · have hL := HE.out hpar
          have HL := Lib.hid hL
          clear hL
          go_wp2_with (
            (go_at_call 90; rw [o3b]; (with_reducible refine (plus_any _ _ _ _ _ _ (by omega) (by omega) (by omega) (by omega)).mono ?_); rintro e w5 ⟨rfl, hw5⟩
             clear cc0 cc1 ccf0 ccf1 cd0 cd1 cdf0 cdf1 cn0 cn1 cnf0 cnf1
             have HN5 := Lib.hid (HNd.out.ex hw5)
             have H105 := Lib.hid (H10d.out.ex hw5)
             have H45 := Lib.hid (H4d.out.ex hw5)
             have H55 := Lib.hid (H5d.out.ex hw5)
             have HX5 := Lib.hid (HXd.out.trans hw5)
             have cn0 := HN5.out.c0
             have cn1 := HN5.out.c1
             have cnf0 := HN5.out.free 0
             have cnf1 := HN5.out.free 1
             have cd0 := H105.out.c0
             have cd1 := H105.out.c1
             have cdf0 := H105.out.free 0
             have cdf1 := H105.out.free 1
             have ca0 := H45.out.c0
             have ca1 := H45.out.c1
             have caf0 := H45.out.free 0
             have caf1 := H45.out.free 1
             have cb0 := H55.out.c0
             have cb1 := H55.out.c1
             have cbf0 := H55.out.free 0
             have cbf1 := H55.out.free 1
             ))
          go_region
          go_wp2
          have s20 := HS1.out
          (try simp only [Exit.inBlock, Exit.then])
          refine bodyPost_ret (res_twos1 rfl _ _ _ _ _ _ _ _ _ rfl ((((H45.out.off2 (by omega)).set).off2 (by omega)).ex (Ex.refl _).drew) rfl ((((H55.out.off2 (by omega)).off2 (by omega)).set).ex (Ex.refl _).drew) Try.underlying75 (by kernel_rfl) _ rfl) rfl ?_
          exact ⟨_, _, _, _, HL.out.1, HL.out.2, by omega, by omega, by omega, by omega, by omega, by omega, rfl, ((((HX2.out.trans HX5.out).set2 (by omega) _ _).set2 (by omega) _ _).set2 (by omega) _ _).drew⟩
        · have hL := HU.out hpar
          have HL := Lib.hid hL
          clear hL
          go_wp2_with (
            (go_at_call 90; rw [o3b]; (with_reducible refine (plus_any _ _ _ _ _ _ (by omega) (by omega) (by omega) (by omega)).mono ?_); rintro e w5 ⟨rfl, hw5⟩
             clear cc0 cc1 ccf0 ccf1 cd0 cd1 cdf0 cdf1 cn0 cn1 cnf0 cnf1
             have HN5 := Lib.hid (HNd.out.ex hw5)
             have H105 := Lib.hid (H10d.out.ex hw5)
             have H45 := Lib.hid (H4d.out.ex hw5)
             have H55 := Lib.hid (H5d.out.ex hw5)
             have HX5 := Lib.hid (HXd.out.trans hw5)
             have cn0 := HN5.out.c0
             have cn1 := HN5.out.c1
             have cnf0 := HN5.out.free 0
             have cnf1 := HN5.out.free 1
             have cd0 := H105.out.c0
             have cd1 := H105.out.c1
             have cdf0 := H105.out.free 0
             have cdf1 := H105.out.free 1
             have ca0 := H45.out.c0
             have ca1 := H45.out.c1
             have caf0 := H45.out.free 0
             have caf1 := H45.out.free 1
             have cb0 := H55.out.c0
             have cb1 := H55.out.c1
             have cbf0 := H55.out.free 0
             have cbf1 := H55.out.free 1
             ))
          go_region
          go_wp2
          have s20 := HS1.out
          (try simp only [Exit.inBlock, Exit.then])
          refine bodyPost_ret (res_twos1 rfl _ _ _ _ _ _ _ _ _ rfl ((((H45.out.off2 (by omega)).set).off2 (by omega)).ex (Ex.refl _).drew) rfl ((((H55.out.off2 (by omega)).off2 (by omega)).set).ex (Ex.refl _).drew) Try.underlying75 (by kernel_rfl) _ rfl) rfl ?_
          exact ⟨_, _, _, _, HL.out.2, HL.out.1, by omega, by omega, by omega, by omega, by omega, by omega, rfl, ((((HX2.out.trans HX5.out).set2 (by omega) _ _).set2 (by omega) _ _).set2 (by omega) _ _).drew⟩
      · go_wp2_with (
          (go_at_call 90; (with_reducible refine (plus_any _ _ _ _ _ _ (by omega) (by omega) (by omega) (by omega)).mono ?_); rintro e w3 ⟨rfl, hw3⟩))
        clear ca0 ca1 caf0 caf1 cb0 cb1 cbf0 cbf1 cc0 cc1 ccf0 ccf1 cd0 cd1 cdf0 cdf1
        have s13 : w2.heap.size + 1 < w3.heap.size := by have := (h10.out.ex hw3).lt; omega
        have HN : Hid (Two 75 (w3.alloc (Obj.cells #[.int .i64 (C + t * A), .int .i64 (D + t * B)] 75)) w3.heap.size (C + t * A) (D + t * B)) := Lib.hid (Two.at rfl)
        have HXW : Hid (Ex wr (w3.alloc (Obj.cells #[.int .i64 (C + t * A), .int .i64 (D + t * B)] 75))) := Lib.hid (hw3.alloc _)
        generalize w3.alloc (Obj.cells #[.int .i64 (C + t * A), .int .i64 (D + t * B)] 75) = wn at *
        have H9 := Lib.hid (h9.out.ex HXW.out)
        have H10 := Lib.hid (h10.out.ex HXW.out)
        have H4 := Lib.hid (HA3.out.ex HXW.out)
        have H5 := Lib.hid (HB3.out.ex HXW.out)
        have HXN := Lib.hid (hx.out.trans HXW.out)
        clear HA3 HB3 h9 h10
        have f1 : w3.heap.size ≠ w2.heap.size := by omega
        have f2 : w3.heap.size ≠ w2.heap.size + 1 := by omega
        have f3 : w2.heap.size ≠ w3.heap.size := by omega
        have f4 : w2.heap.size + 1 ≠ w3.heap.size := by omega
        have f5 : w3.heap.size ≠ w.heap.size + 1 := by have := HS1.out; omega
        have f6 : w3.heap.size ≠ w.heap.size + 1 + 1 := by have := HS1.out; omega
        have f7 : w.heap.size + 1 ≠ w3.heap.size := by omega
        have f8 : w.heap.size + 1 + 1 ≠ w3.heap.size := by omega
        have HF9 : Hid (Two 75 (((wn.setCell ⟨w2.heap.size, 0, none⟩ (.int .i64 A)).setCell ⟨w2.heap.size, 1, none⟩ (.int .i64 B)).setCell ⟨w2.heap.size + 1, 0, none⟩ (.int .i64 (C + t * A))|>.setCell ⟨w2.heap.size + 1, 1, none⟩ (.int .i64 (D + t * B))).drew w2.heap.size A B) := Lib.hid (((H9.out.set).off2 (by omega)).ex (Ex.refl _).drew)
        have HF10 : Hid (Two 75 (((wn.setCell ⟨w2.heap.size, 0, none⟩ (.int .i64 A)).setCell ⟨w2.heap.size, 1, none⟩ (.int .i64 B)).setCell ⟨w2.heap.size + 1, 0, none⟩ (.int .i64 (C + t * A))|>.setCell ⟨w2.heap.size + 1, 1, none⟩ (.int .i64 (D + t * B))).drew (w2.heap.size + 1) (C + t * A) (D + t * B)) := Lib.hid (((H10.out.off2 (by omega)).set).ex (Ex.refl _).drew)
        have HFX := Lib.hid (((HXN.out.set2 (c := w2.heap.size) (Nat.le_refl _) (.int .i64 A) (.int .i64 B)).set2 (c := w2.heap.size + 1) (by omega) (.int .i64 (C + t * A)) (.int .i64 (D + t * B))).drew)
        have cc0 := H9.out.c0
        have cc1 := H9.out.c1
        have ccf0 := H9.out.free 0
        have ccf1 := H9.out.free 1
        have cd0 := H10.out.c0
        have cd1 := H10.out.c1
        have cdf0 := H10.out.free 0
        have cdf1 := H10.out.free 1
        have cn0 := HN.out.c0
        have cn1 := HN.out.c1
        have cnf0 := HN.out.free 0
        have cnf1 := HN.out.free 1
        go_region
        go_wp2
        go_roundg ((cf P Q).length - (i + 1))
        case measure => have := hk.out; omega
        case rel => exact ⟨i + 1, _, _, _, _, hlt, by go_num, Lib.hid rfl, HS, Lib.hid (by omega), HF9, HF10, HFX⟩
    · obtain rfl : i = (cf P Q).length := by omega
      have hS := hI.out.all HOK.out hBm.out
      have HS := Lib.hid hS
      clear hS
      go_wp2
      go_region
      go_wp2
      (try simp only [Exit.inBlock, Exit.then])
      refine bodyPost_ret (res_twos1 rfl _ _ _ _ _ _ _ _ _ rfl ((HA3.out.set.off2 (by omega)).ex (Ex.refl _).drew) rfl (((HB3.out.off2 (by omega)).set).ex (Ex.refl _).drew) Try.underlying75 (by kernel_rfl) _ rfl) rfl ?_
      exact ⟨A, B, A, B, HS.out.1, HS.out.2, b4, b4, b1, b2, b1, b2, rfl, (((HX2.out.trans hx.out).set2 (by omega) _ _).set2 (by omega) _ _).drew⟩

end Go.Proofs.Ythlnbomapfjphaa
