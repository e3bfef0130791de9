/-
  PointsSums, walked.
-/
import Derived.Test.YtfdhhiibhkepaaaPtKeep
import Derived.Test.YtfdhhiibhkepaaaPtRows
namespace Go.Proofs.Ytfdhhiibhkepaaa
open Go.RowKit
open Eu Pr Po Rs

/-- builtin min of four. -/
theorem run_min4 {P : Program} (w : World) (ts : Array TypeId) (t : TypeId) {x y z u m : Int} (h : (if u < (if z < (if y < x then y else x) then z else (if y < x then y else x)) then u else (if z < (if y < x then y else x) then z else (if y < x then y else x))) = m) :
    (Builtin.min_ ts t #[.int .i64 x, .int .i64 y, .int .i64 z, .int .i64 u]).run P w = .ok (.int .i64 m) w := by
  subst h
  simp [Builtin.min_, Builtin.min2]

/-- Points at places from 0 on. -/
def plc (Y : Nat → Int) (K : Nat) : List (Int × Int) := (List.range K).map fun (i : Nat) => ((i : Int), Y i)
theorem plc_length (Y : Nat → Int) (K : Nat) : (plc Y K).length = K := by simp [plc]
theorem plc_next (Y : Nat → Int) (K : Nat) : plc Y K ++ [((K : Int), Y K)] = plc Y (K + 1) := by simp [plc, List.range_succ]
theorem plc_at {Y : Nat → Int} {K i : Nat} (h : i < K) : px (plc Y K) i = i ∧ py (plc Y K) i = Y i := by
  unfold px py
  rw [nthR_eq (by rw [plc_length]; exact h)]
  simp [plc]
theorem plc_pts {p : Int} {Y : Nat → Int} {K : Nat} (hK : (K : Int) ≤ p) (hY : ∀ i, 0 ≤ Y i ∧ Y i < p) : Pts p (plc Y K) K := by
  refine ⟨fun i hi => ?_, fun i j hi hj hne => ?_⟩
  · rw [(plc_at hi).1, (plc_at hi).2]
    exact ⟨by omega, hY i⟩
  · rw [(plc_at hi).1, (plc_at hj).1]
    omega
theorem plc_sum {p : Int} {Y Z : Nat → Int} {K : Nat} {F G : List Int} (hp : Prm p) (hF : IsTh p (plc Y K) K F) (hG : IsTh p (plc Z K) K G) : IsTh p (plc (fun i => (Y i + Z i) % p) K) K (red p (add F G)) := by
  have p2 := hp.1
  refine ⟨can_red (by omega) _, ?_, fun i hi => ?_⟩
  · have h1 := red_length p (add F G)
    rw [add_length] at h1
    have := hF.2.1
    have := hG.2.1
    omega
  · have h1 := hF.2.2 i hi
    have h2 := hG.2.2 i hi
    rw [(plc_at hi).1, (plc_at hi).2] at h1 h2 ⊢
    have h3 := Int.dvd_add (ev_cg (cg_red p (add F G)) i) (sums_at h1 h2)
    have h4 := Int.dvd_sub h3 (dvd_mod p (Y i + Z i))
    refine (congrArg (p ∣ ·) ?_).mp h4
    omega

set_option maxRecDepth 100000 in
set_option maxHeartbeats 4000000 in
theorem pointsSums_walk (n : Int) (a1 : Option Addr) (l1 c1 : Nat) (z1 : List Int) (a2 : Option Addr) (l2 c2 : Nat) (z2 : List Int) (x : Int) (w : World)
    (_ : I64 n) (h1 : IsInts .i64 8 w a1 l1 c1 z1) (h2 : IsInts .i64 8 w a2 l2 c2 z2) (_ : I64 x) :
    Calls Try.prog 5 #[.int .i64 n, .slice a1 l1 c1, .slice a2 l2 c2, .int .i64 x] w (Says (.bool true) w) := by
  obtain ⟨p, hp, p9, hfo⟩ := fieldOf_some n
  have p2 := hp.1
  obtain ⟨e1, le1, lc1, r1, n1, _⟩ := h1
  obtain ⟨e2, le2, lc2, r2, n2, _⟩ := h2
  have HR1 := Lib.hid fun w2 (hx : Ex w w2) => r1.ex hx
  have HR2 := Lib.hid fun w2 (hx : Ex w w2) => r2.ex hx
  have HE1 := Lib.hid e1
  have HE2 := Lib.hid e2
  have HFO := Lib.hid hfo
  have HPO := Lib.hid polys_yes
  have HLI := Lib.hid lines_yes
  have HWI := Lib.hid fun (y : Int) w2 => within_any y p w2 (by omega) (by omega)
  obtain ⟨Y, hY⟩ : ∃ Y : Nat → Int, ∀ i, nth z1 i % p = Y i := ⟨_, fun _ => rfl⟩
  obtain ⟨Z, hZ⟩ : ∃ Z : Nat → Int, ∀ i, nth z2 i % p = Z i := ⟨_, fun _ => rfl⟩
  have HY := Lib.hid hY
  have HZ := Lib.hid hZ
  have HYB : Hid (∀ i, 0 ≤ Y i ∧ Y i < p) := Lib.hid fun i => by rw [← hY i]; exact ⟨Int.emod_nonneg _ (by omega), Int.emod_lt_of_pos _ (by omega)⟩
  have HZB : Hid (∀ i, 0 ≤ Z i ∧ Z i < p) := Lib.hid fun i => by rw [← hZ i]; exact ⟨Int.emod_nonneg _ (by omega), Int.emod_lt_of_pos _ (by omega)⟩
  obtain ⟨K, hK⟩ : ∃ K : Nat, (K : Int) = min (min (min (l1 : Int) l2) p) 12 := ⟨(min (min (min (l1 : Int) l2) p) 12).toNat, by omega⟩
  have hK1 : K ≤ l1 := by omega
  have hK2 : K ≤ l2 := by omega
  have hK3 : (K : Int) ≤ p := by omega
  have hK4 : K ≤ 12 := by omega
  have hmin : ∀ w2 : World, (Builtin.min_ #[3, 3, 3, 3] 3 #[.int .i64 l1, .int .i64 l2, .int .i64 p, .int .i64 12]).run Try.prog w2 = .ok (.int .i64 K) w2 := fun w2 => by
    refine run_min4 _ _ _ ?_
    rw [hK]
    repeat' split
    all_goals omega
  obtain ⟨S, hS⟩ : ∃ S : Nat → Int, ∀ i, (Y i + Z i) % p = S i := ⟨_, fun _ => rfl⟩
  have HS := Lib.hid hS
  have hPY := plc_pts hK3 HYB.out
  have hPZ := plc_pts hK3 HZB.out
  have hPS : Pts p (plc S K) K := plc_pts hK3 fun i => by rw [← hS i]; exact ⟨Int.emod_nonneg _ (by omega), Int.emod_lt_of_pos _ (by omega)⟩
  obtain ⟨F, hF⟩ := isTh_some hp hPY
  obtain ⟨G, hG⟩ := isTh_some hp hPZ
  have hH : IsTh p (plc S K) K (red p (add F G)) := by
    have := plc_sum hp hF hG
    rwa [show (fun i => (Y i + Z i) % p) = S from funext hS] at this
  obtain ⟨H, eH⟩ : ∃ H, red p (add F G) = H := ⟨_, rfl⟩
  rw [eH] at hH
  have lF := hF.2.1
  have lG := hG.2.1
  have lH := hH.2.1
  obtain ⟨NF, hNF⟩ : ∃ NF, F.length = NF := ⟨_, rfl⟩
  obtain ⟨NG, hNG⟩ : ∃ NG, G.length = NG := ⟨_, rfl⟩
  obtain ⟨NH, hNH⟩ : ∃ NH, H.length = NH := ⟨_, rfl⟩
  obtain ⟨u, hu⟩ : ∃ u, ev F x % p = u := ⟨_, rfl⟩
  obtain ⟨v, hv⟩ : ∃ v, ev G x % p = v := ⟨_, rfl⟩
  obtain ⟨t, ht⟩ : ∃ t, ev H x % p = t := ⟨_, rfl⟩
  have u0 : 0 ≤ u := by rw [← hu]; exact Int.emod_nonneg _ (by omega)
  have u1 : u < p := by rw [← hu]; exact Int.emod_lt_of_pos _ (by omega)
  have v0 : 0 ≤ v := by rw [← hv]; exact Int.emod_nonneg _ (by omega)
  have v1 : v < p := by rw [← hv]; exact Int.emod_lt_of_pos _ (by omega)
  have hsum : (u + v) % p = t := by rw [← hu, ← hv, ← ht, ← eH, ev_red, ev_add, ← Int.add_emod]
  have HSUM := Lib.hid hsum
  have thr : ∀ {V : Nat → Int} {F : List Int} {N : Nat}, Pts p (plc V K) K → IsTh p (plc V K) K F → F.length = N → ∀ (w2 : World) (a : Option Addr) (c : Nat), K ≤ c → ReadsR w2 a (plc V K) → Calls Try.prog 7 #[.int .i64 p, .slice a K c] w2 (Rowd F N w2) := fun {V F N} hP hF hN w2 a c hc hr => by
    have := through_ok p (plc V K) F a c w2 (by rw [plc_length]; exact hc) hr (ptE_zero.mpr ⟨hp, p9, by rw [plc_length]; omega, by rw [plc_length]; exact hP⟩) (by rw [plc_length]; exact hF)
    rw [plc_length, hN] at this
    exact this
  have att : ∀ {V : Nat → Int} {F : List Int} {y : Int}, Pts p (plc V K) K → IsTh p (plc V K) K F → ev F x % p = y → ∀ (w2 : World) (a : Option Addr) (c : Nat), K ≤ c → ReadsR w2 a (plc V K) → Calls Try.prog 8 #[.int .i64 p, .slice a K c, .int .i64 x] w2 (Says (.tuple #[.int .i64 y, .int .i64 0]) w2) := fun {V F y} hP hF hy w2 a c hc hr => by
    have := ptAt_ok p (plc V K) F x a c w2 (by rw [plc_length]; exact hc) hr (ptE_zero.mpr ⟨hp, p9, by rw [plc_length]; omega, by rw [plc_length]; exact hP⟩) (by rw [plc_length]; exact hF)
    rw [plc_length, hy] at this
    exact this
  have HT1 := Lib.hid (thr hPY hF hNF)
  have HT2 := Lib.hid (thr hPZ hG hNG)
  have HT3 := Lib.hid (thr hPS hH hNH)
  have HA1 := Lib.hid (att hPY hF hu)
  have HA2 := Lib.hid (att hPZ hG hv)
  have HA3 := Lib.hid (att hPS hH ht)
  have HAD := Lib.hid (addS hp p9 hF.1 hG.1 hNF hNG (by omega) (by omega) eH hNH)
  have HQ := Lib.hid (eqS hNH (by omega))
  have HKK := Lib.hid hK
  clear hfo hY hZ hK e1 e2 r1 r2 n1 n2 hS hPY hPZ hPS hF hG hH eH lF lG lH hNF hNG hNH hu hv ht thr att hp hsum
  go_enter Try.func5, Try.ntmps5
  go_wp2_with (first
    | (go_at_call 14; (with_reducible refine (HLI.out _).mono ?_); rintro e w1 ⟨rfl, hw1⟩)
    | (go_at_call 15; (with_reducible refine (HPO.out _).mono ?_); rintro e w2 ⟨rfl, hw2⟩)
    | (go_at_call 16; (with_reducible refine (HFO.out _).mono ?_); rintro e w3 ⟨rfl, hw3⟩))
  have HX3 := Lib.hid (hw1.trans (hw2.trans hw3))
  have HST := Lib.hid (St3.start 33 w HX3.out)
  have HZP : Hid (∀ V : Nat → Int, plc V 0 = []) := Lib.hid fun V => rfl
  have HNX := Lib.hid plc_next
  have HLN := Lib.hid plc_length
  clear hw1 hw2 hw3
  go_loopg [10, 11, 12, 44] K (fun k v10 v11 v12 v44 x => ∃ (i : Nat) (u1 u2 u3 : Value), i ≤ K ∧ v10 = u1 ∧ v11 = u2 ∧ v12 = u3 ∧ v44 = .int .i64 i ∧ Hid (St3 33 w x u1 u2 u3 (plc Y i) (plc Z i) (plc S i)) ∧ Hid (k = K - i))
  case atStart => exact ⟨0, _, _, _, by omega, rfl, rfl, rfl, rfl, Lib.hid (by rw [HZP.out, HZP.out, HZP.out]; exact HST.out), Lib.hid rfl⟩
  case round =>
    obtain ⟨i, u1, u2, u3, hi, rfl, rfl, rfl, rfl, hT, hk⟩ := hrel
    by_cases hlt : i < K
    · have hx := hT.out.ex
      rcases HR1.out _ hx with hn | ⟨b1, o1, rfl, hc1⟩
      · have := HE1.out; rw [hn] at this; simp at this; omega
      rcases HR2.out _ hx with hn | ⟨b2, o2, rfl, hc2⟩
      · have := HE2.out; rw [hn] at this; simp at this; omega
      have q1 : ∀ x : Wo wr, x.val.cell? ⟨b1, o1 + i, none⟩ = some (.int .i64 (nth z1 i)) := fun x => x.ex.cell (hc1 i (by have := HE1.out; omega))
      have q2 : ∀ x : Wo wr, x.val.cell? ⟨b2, o2 + i, none⟩ = some (.int .i64 (nth z2 i)) := fun x => x.ex.cell (hc2 i (by have := HE2.out; omega))
      have HW1 := Lib.hid fun w2 => HWI.out (nth z1 i) w2
      have HW2 := Lib.hid fun w2 => HWI.out (nth z2 i) w2
      rw [HY.out i] at HW1
      rw [HZ.out i] at HW2
      obtain ⟨A, hA⟩ : ∃ A, nth z1 i = A := ⟨_, rfl⟩
      obtain ⟨B, hB⟩ : ∃ B, nth z2 i = B := ⟨_, rfl⟩
      rw [hA] at q1 HW1
      rw [hB] at q2 HW2
      have il1 : (i : Int) < (l1 : Int) := by omega
      have il2 : (i : Int) < (l2 : Int) := by omega
      have HN1 := Lib.hid (HNX.out Y i)
      have HN2 := Lib.hid (HNX.out Z i)
      have HN3 := Lib.hid (HNX.out S i)
      obtain ⟨y0, y1⟩ := HYB.out i
      obtain ⟨z0, z1'⟩ := HZB.out i
      have hs := HS.out i
      obtain ⟨y, hy⟩ : ∃ y, Y i = y := ⟨_, rfl⟩
      obtain ⟨z, hz⟩ : ∃ z, Z i = z := ⟨_, rfl⟩
      obtain ⟨s, hsi⟩ : ∃ s, S i = s := ⟨_, rfl⟩
      rw [hy] at HW1 HN1 y0 y1 hs
      rw [hz] at HW2 HN2 z0 z1' hs
      rw [hsi] at HN3 hs
      have hlen1 : (plc Y i).length ≤ 1000 := by rw [HLN.out]; omega
      have hlen2 : (plc Z i).length ≤ 1000 := by rw [HLN.out]; omega
      have hlen3 : (plc S i).length ≤ 1000 := by rw [HLN.out]; omega
      clear hc1 hc2 hA hB hy hz hsi hx
      go_wp2
      refine wp_region_wo (by kernel_rfl) (by kernel_rfl) ?_
      repeat (go_big_quiet_step (first | (go_at_call 19; exact says_wo (says_same (HW1.out _))) | (go_at_call 19; exact says_wo (says_same (HW2.out _)))))
      refine wpQuiet_nil ?_
      rintro _ ⟨⟨w4, hw4⟩, rfl⟩
      have hT4 := hT.out.to hw4
      clear q1 q2
      go_wp2
      rename World => w4
      haveI : Nonempty (Kp (fun _ => True)) := ⟨⟨w4, trivial⟩⟩
      have hT5 := hT4.drew
      refine wp_region_scr (fun w2 => ∃ x : Kp (fun _ => True), w2 = x.val) (.take 0 (.take 1 (.take 2 (.take 3 (.take 6 (.take 7 (.take 8 (.take 9 (.take 12 (.take 13 (.take 14 (.take 15 (.take 16 (.take 17 (.take 18 (.take 19 (.three 4 (.three 5 (.two 10 (.two 11 (.one 20 (.one 21 (.take 22 (.take 23 (.take 24 (.fin)))))) 20 (.one 11 (.one 21 (.take 22 (.take 23 (.take 24 (.fin))))))) 20 (.one 10 (.one 11 (.one 21 (.take 22 (.take 23 (.take 24 (.fin)))))))) 10 (.two 5 (.two 11 (.one 20 (.one 21 (.take 22 (.take 23 (.take 24 (.fin)))))) 20 (.one 11 (.one 21 (.take 22 (.take 23 (.take 24 (.fin))))))) 20 (.one 5 (.one 11 (.one 21 (.take 22 (.take 23 (.take 24 (.fin)))))))) 20 (.two 5 (.one 10 (.one 11 (.one 21 (.take 22 (.take 23 (.take 24 (.fin))))))) 10 (.one 5 (.one 11 (.one 21 (.take 22 (.take 23 (.take 24 (.fin))))))))) 10 (.two 4 (.two 5 (.two 11 (.one 20 (.one 21 (.take 22 (.take 23 (.take 24 (.fin)))))) 20 (.one 11 (.one 21 (.take 22 (.take 23 (.take 24 (.fin))))))) 20 (.one 5 (.one 11 (.one 21 (.take 22 (.take 23 (.take 24 (.fin)))))))) 20 (.one 4 (.one 5 (.one 11 (.one 21 (.take 22 (.take 23 (.take 24 (.fin))))))))) 20 (.two 4 (.two 5 (.one 10 (.one 11 (.one 21 (.take 22 (.take 23 (.take 24 (.fin))))))) 10 (.one 5 (.one 11 (.one 21 (.take 22 (.take 23 (.take 24 (.fin)))))))) 10 (.one 4 (.one 5 (.one 11 (.one 21 (.take 22 (.take 23 (.take 24 (.fin)))))))))))))))))))))))))) (by kernel_rfl) (by kernel_rfl) (by intro _ _ d _ _ h; cases d <;> exact h) ⟨⟨_, (by trivial)⟩, rfl⟩ ?_
      generalize w4.drew = wd at hT5 ⊢
      simp only [fillS, List.getD_cons_zero, List.getD_cons_succ]
      repeat' (first
        | ((with_reducible refine wpScr_pure ?_); go_big_quiet_step (fail); (with_reducible refine scrQ_on ?_))
        | ((with_reducible refine wpScr_turn ?_); intro K hK; go_wp2_with (first | fail |(at_builtin; refine wpList_append_st3 rfl _ _ 22 rfl w 33 Try.underlying22 info_pt t1 t2 u12 (plc Y i ++ [((i : Int), y)]) (plc Z i ++ [((i : Int), z)]) (plc S i) rfl (i : Int) s _ rfl (by with_reducible repeat (first | assumption | refine St3.alloc ?_ _)) (by repeat (first | with_reducible assumption | (with_reducible refine Bx3.new ?_ (by with_reducible repeat (first | exact hT3.low | exact hT2.low | exact hT1.low | exact hT5.low | refine Low3.alloc ?_ _)); (simp; done)) | (with_reducible refine Bx3.alloc ?_ _) | (with_reducible apply kb3) | (with_reducible apply kb2) | (with_reducible apply kb1))) hlen3 ?_; intro t3 W3 hT3 kb3) | (at_builtin; refine wpList_append_st2 rfl _ _ 22 rfl w 33 Try.underlying22 info_pt t1 u11 u12 (plc Y i ++ [((i : Int), y)]) (plc Z i) (plc S i) rfl (i : Int) z _ rfl (by with_reducible repeat (first | assumption | refine St3.alloc ?_ _)) (by repeat (first | with_reducible assumption | (with_reducible refine Bx3.new ?_ (by with_reducible repeat (first | exact hT3.low | exact hT2.low | exact hT1.low | exact hT5.low | refine Low3.alloc ?_ _)); (simp; done)) | (with_reducible refine Bx3.alloc ?_ _) | (with_reducible apply kb3) | (with_reducible apply kb2) | (with_reducible apply kb1))) hlen2 ?_; intro t2 W2 hT2 kb2) | (at_builtin; refine wpList_append_st1 rfl _ _ 22 rfl w 33 Try.underlying22 info_pt u10 u11 u12 (plc Y i) (plc Z i) (plc S i) rfl (i : Int) y _ rfl (by with_reducible repeat (first | assumption | refine St3.alloc ?_ _)) (by repeat (first | with_reducible assumption | (with_reducible refine Bx3.new ?_ (by with_reducible repeat (first | exact hT3.low | exact hT2.low | exact hT1.low | exact hT5.low | refine Low3.alloc ?_ _)); (simp; done)) | (with_reducible refine Bx3.alloc ?_ _) | (with_reducible apply kb3) | (with_reducible apply kb2) | (with_reducible apply kb1))) hlen1 ?_; intro t1 W1 hT1 kb1)); refine hK _ _ ⟨⟨_, (by trivial)⟩, rfl⟩ ?_; clear hK K)
        | (with_reducible refine wpScr_two ?_ ?_)
        | (with_reducible refine wpScr_three ?_ ?_ ?_)
        | (with_reducible refine wpScr_nil ?_))
      all_goals rw [HN1.out, HN2.out, HN3.out] at hT3
      all_goals go_wp2
      all_goals go_roundg (K - (i + 1))
      all_goals first
        | exact ⟨i + 1, t1, t2, t3, by omega, rfl, rfl, rfl, by go_num, Lib.hid hT3, Lib.hid rfl⟩
        | (have := hk.out; omega)
    · have e : i = K := by omega
      subst e
      have h1 := hT.out.r1.reads
      have h2 := hT.out.r2.reads
      have h3 := hT.out.r3.reads
      rw [HLN.out] at h1 h2 h3
      obtain ⟨p1, d1, rfl, k1, m1, _⟩ := h1
      obtain ⟨p2', d2, rfl, k2, m2, _⟩ := h2
      obtain ⟨p3, d3, rfl, k3, m3, _⟩ := h3
      have HX := Lib.hid hT.out.ex
      have M1 := Lib.hid fun w2 (hx : Ex wr w2) => m1.ex hx
      have M2 := Lib.hid fun w2 (hx : Ex wr w2) => m2.ex hx
      have M3 := Lib.hid fun w2 (hx : Ex wr w2) => m3.ex hx
      have hsm := HSUM.out
      clear m1 m2 m3
      go_wp2_with (first
        | (go_at_call 7; (with_reducible refine (HT1.out _ _ _ k1 (M1.out _ (Ex.refl _))).mono ?_); rintro e w5 ⟨b5, g5, rfl, _, hr5, hn5, hw5⟩)
        | (go_at_call 7; (with_reducible refine (HT2.out _ _ _ k2 (M2.out _ (by repeat (first | assumption | exact Ex.refl _ | refine Ex.trans ?_ (by assumption))))).mono ?_); rintro e w6 ⟨b6, g6, rfl, _, hr6, hn6, hw6⟩)
        | (go_at_call 7; (with_reducible refine (HT3.out _ _ _ k3 (M3.out _ (by repeat (first | assumption | exact Ex.refl _ | refine Ex.trans ?_ (by assumption))))).mono ?_); rintro e w7 ⟨b7, g7, rfl, _, hr7, hn7, hw7⟩)
        | (go_at_call 21; (with_reducible refine (HAD.out _ _ _ _ _ (hr5.out.ex (by repeat (first | assumption | exact Ex.refl _ | refine Ex.trans ?_ (by assumption)))) (hr6.out.ex (by repeat (first | assumption | exact Ex.refl _ | refine Ex.trans ?_ (by assumption))))).mono ?_); rintro e w8 ⟨b8, g8, rfl, hr8, hn8, hw8⟩)
        | (go_at_call 8; (with_reducible refine (HA1.out _ _ _ k1 (M1.out _ (by repeat (first | assumption | exact Ex.refl _ | refine Ex.trans ?_ (by assumption))))).mono ?_); rintro e w9 ⟨rfl, hw9⟩)
        | (go_at_call 8; (with_reducible refine (HA2.out _ _ _ k2 (M2.out _ (by repeat (first | assumption | exact Ex.refl _ | refine Ex.trans ?_ (by assumption))))).mono ?_); rintro e w10 ⟨rfl, hw10⟩)
        | (go_at_call 8; (with_reducible refine (HA3.out _ _ _ k3 (M3.out _ (by repeat (first | assumption | exact Ex.refl _ | refine Ex.trans ?_ (by assumption))))).mono ?_); rintro e w11 ⟨rfl, hw11⟩)
        | (go_at_call 22; refine (good_zeros 7 (by omega) _ rfl _ _).mono ?_; rintro e w12 ⟨rfl, hw12⟩)
        | (go_at_call 20; (with_reducible refine (HQ.out _ _ _ _ _ (hr7.out.ex (by repeat (first | assumption | exact Ex.refl _ | refine Ex.trans ?_ (by assumption)))) (hr8.out.ex (by repeat (first | assumption | exact Ex.refl _ | refine Ex.trans ?_ (by assumption))))).mono ?_); rintro e w13 ⟨rfl, hw13⟩))
      go_ret
      exact ⟨rfl, HX.out.trans (by repeat (first | assumption | exact Ex.refl _ | refine Ex.trans ?_ (by assumption)))⟩

end Go.Proofs.Ytfdhhiibhkepaaa
