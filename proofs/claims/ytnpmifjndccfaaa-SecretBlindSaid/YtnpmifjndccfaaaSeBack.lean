/-
  SecretBack, walked: SHAMIR, any so many.
-/
import Derived.Test.YtnpmifjndccfaaaSeDeals
import Derived.Test.YtnpmifjndccfaaaPtMore
namespace Go.Proofs.Ytnpmifjndccfaaa
open Go.RowKit
open Eu Pr Po Rs

theorem swap_perm {l : List (Int × Int)} {i j : Nat} (hi : i < l.length) (hj : j < l.length) : ((l.set i (nthR l j)).set j (nthR l i)).Perm l := by
  rw [nthR_eq hi, nthR_eq hj]
  exact List.set_set_perm hi hj

theorem shr_mem {p : Int} {f : List Int} {n : Nat} {a : Int × Int} (h : a ∈ shr p f n) : ∃ i, i < n ∧ a.1 = (i : Int) + 1 ∧ a.2 = ev f ((i : Int) + 1) % p := by
  unfold shr at h
  obtain ⟨i, hi, rfl⟩ := List.mem_map.mp h
  exact ⟨i, List.mem_range.mp hi, rfl, rfl⟩

/-- So many of the shares, in any order. -/
theorem some_shares {p : Int} {f : List Int} {n k : Nat} {l : List (Int × Int)} (hp : Prm p) (p9 : p ≤ 997) (hn : (n : Int) < p) (hl : l.Perm (shr p f n)) (hf : f.length ≤ k) (hk : k ≤ n) (hk12 : k ≤ 12) (hk0 : 0 < k) :
    joinE p (l.take k) = 0 ∧ IsTh p (l.take k) (l.take k).length (red p f) := by
  have p2 := hp.1
  have hlen : l.length = n := by rw [hl.length_eq, shr_length]
  have hlk : (l.take k).length = k := by rw [List.length_take]; omega
  have hpts0 : Pts p (shr p f n) (shr p f n).length := by rw [shr_length]; exact shr_pts hp f hn
  rw [pts_iff] at hpts0
  have hmem : ∀ a ∈ l.take k, a ∈ shr p f n := fun a ha => hl.mem_iff.mp (List.mem_of_mem_take ha)
  have hpts : Pts p (l.take k) (l.take k).length := by
    rw [pts_iff]
    refine ⟨fun a ha => hpts0.1 a (hmem a ha), ?_⟩
    have h1 : (l.map (·.1)).Nodup := (hl.map (·.1)).nodup_iff.mpr hpts0.2
    exact h1.sublist ((List.take_sublist k l).map _)
  refine ⟨joinE_zero.mpr ⟨ptE_zero.mpr ⟨hp, p9, by omega, hpts⟩, by omega, ?_⟩, ?_⟩
  · unfold hasP
    rw [List.any_eq_false]
    intro a ha
    obtain ⟨i, _, h1, _⟩ := shr_mem (hmem a ha)
    simp only [beq_iff_eq]
    omega
  · refine isTh_on (by omega) (by omega) fun i hi => ?_
    have ha : nthR (l.take k) i ∈ l.take k := nthR_mem hi
    obtain ⟨j, _, h1, h2⟩ := shr_mem (hmem _ ha)
    unfold px py
    rw [h1, h2]
    have := Int.dvd_neg.mpr (dvd_mod p (ev f ((j : Int) + 1)))
    rwa [Int.neg_sub] at this

theorem mods_bnd {p : Int} (hp : 0 < p) (xs : List Int) (k : Nat) : Bnd p ((xs.take k).map (· % p)) := fun x hx => by
  obtain ⟨y, _, rfl⟩ := List.mem_map.mp hx
  exact ⟨Int.emod_nonneg _ (by omega), Int.emod_lt_of_pos _ hp⟩

theorem join_shares {p : Int} {f : List Int} {n k : Nat} {l : List (Int × Int)} {s : Int} (hp : Prm p) (p9 : p ≤ 997) (hn : (n : Int) < p) (hl : l.Perm (shr p f n)) (hf : f.length ≤ k) (hk : k ≤ n) (hk12 : k ≤ 12) (hk0 : 0 < k) (hs : c f 0 % p = s)
    (w : World) (a : Option Addr) (cap : Nat) (hc : k ≤ cap) (hr : ReadsR w a (l.take k)) : Calls Try.prog 8 #[.int .i64 p, .slice a k cap] w (Says (.tuple #[.int .i64 s, .int .i64 0]) w) := by
  obtain ⟨h1, h2⟩ := some_shares hp p9 hn hl hf hk hk12 hk0
  have hlk : (l.take k).length = k := by rw [List.length_take, hl.length_eq, shr_length]; omega
  have := join_ok p (l.take k) (red p f) a cap w (by omega) hr h1 h2
  rw [hlk, red_zero, hs] at this
  exact this

theorem deal_tape {p s : Int} {ts : List Int} {T n : Nat} (hp : Prm p) (p9 : p ≤ 997) (hT : ts.length = T) (h11 : T ≤ 11) (hn : n ≤ 12) (hnp : (n : Int) < p) (hs : 0 ≤ s ∧ s < p) (hB : Bnd p ts) (w : World) (a : Option Addr) (cap : Nat) (hr : Reads w .i64 a ts) (hnil : a = none → cap = 0) :
    Calls Try.prog 7 #[.int .i64 p, .int .i64 s, .slice a T cap, .int .i64 n] w (Dealt (shr p (s :: ts) n) n w) := by
  subst hT
  exact deal_ok p s ts n a cap w hr hnil (dealE_zero.mpr ⟨hp, p9, h11, by omega, hs, hB⟩)

set_option maxRecDepth 100000 in
set_option maxHeartbeats 4000000 in
theorem secretBack_walk (n s : Int) (a1 : Option Addr) (l1 c1 : Nat) (z1 : List Int) (a2 : Option Addr) (l2 c2 : Nat) (z2 : List Int) (w : World)
    (_ : I64 n) (_ : I64 s) (h1 : IsInts .i64 8 w a1 l1 c1 z1) (h2 : IsInts .i64 8 w a2 l2 c2 z2) :
    Calls Try.prog 4 #[.int .i64 n, .int .i64 s, .slice a1 l1 c1, .slice a2 l2 c2] w (Says (.bool true) w) := by
  obtain ⟨p, hp, p9, hfo⟩ := fieldOf_some n
  have p2 := hp.1
  obtain ⟨e1, le1, lc1, r1, n1, _⟩ := h1
  obtain ⟨e2, le2, lc2, r2, n2, _⟩ := h2
  have HR1 := Lib.hid fun w2 (hx : Ex w w2) => r1.ex hx
  have HR2 := Lib.hid fun w2 (hx : Ex w w2) => r2.ex hx
  have HE1 := Lib.hid e1
  have HE2 := Lib.hid e2
  have HFO := Lib.hid hfo
  have HPO := Lib.hid polys_yes
  have HDE := Lib.hid deals_yes
  have HWI := Lib.hid fun (y : Int) w2 => within_any y p w2 (by omega) (by omega)
  obtain ⟨K, hK⟩ : ∃ K, min l1 11 = K := ⟨_, rfl⟩
  have hif : (if (11 : Int) < (l1 : Int) then (11 : Int) else (l1 : Int)) = (K : Int) := by split <;> omega
  have hif2 : (if 11 < l1 then (11 : Int) else (l1 : Int)) = (K : Int) := by split <;> omega
  have k1 : K ≤ l1 := by omega
  have k2 : K ≤ 11 := by omega
  obtain ⟨M, hM⟩ : ∃ M : Nat, (M : Int) = min (p - 1) 12 := ⟨(min (p - 1) 12).toNat, by omega⟩
  have hifm : (if (12 : Int) < p - 1 then (12 : Int) else p - 1) = (M : Int) := by split <;> omega
  have m1 : (M : Int) < p := by omega
  have m2 : M ≤ 12 := by omega
  have m3 : 1 ≤ M := by omega
  have s0 := Int.emod_nonneg s (b := p) (by omega)
  have s1 := Int.emod_lt_of_pos s (b := p) (by omega)
  have HWS := Lib.hid fun w2 => HWI.out s w2
  obtain ⟨S, hS⟩ : ∃ S, s % p = S := ⟨_, rfl⟩
  rw [hS] at s0 s1 HWS
  have HST := Lib.hid fun i (h : i < z1.length) => mods_step (p := p) h
  have HLEN := Lib.hid fun i (h : i ≤ z1.length) => mods_length z1 p i h
  have H0 : Hid ((z1.take 0).map (· % p) = []) := Lib.hid (by simp)
  have HDL := Lib.hid (deal_tape (s := S) (ts := (z1.take K).map (· % p)) (n := M) hp p9 (mods_length z1 p K (by omega)) k2 m2 m1 ⟨s0, s1⟩ (mods_bnd (by omega) z1 K))
  have HPM : Hid (∀ l : List (Int × Int), l.Perm (shr p (S :: (z1.take K).map (· % p)) M) → l.length = M) := Lib.hid fun l h => by rw [h.length_eq, shr_length]
  have HJ : Hid (∀ l : List (Int × Int), l.Perm (shr p (S :: (z1.take K).map (· % p)) M) → K + 1 ≤ M → ∀ (w2 : World) (a : Option Addr) (cap : Nat), K + 1 ≤ cap → ReadsR w2 a (l.take (K + 1)) → Calls Try.prog 8 #[.int .i64 p, .slice a (K + 1 : Nat) cap] w2 (Says (.tuple #[.int .i64 S, .int .i64 0]) w2)) := Lib.hid fun l hl hk w2 a cap hc hr =>
    join_shares hp p9 m1 hl (by rw [List.length_cons, mods_length z1 p K (by omega)]; omega) hk (by omega) (by omega) (by show S % p = S; rw [← hS, Int.emod_emod]) w2 a cap hc hr
  have HRF := Lib.hid (List.Perm.refl (shr p (S :: (z1.take K).map (· % p)) M))
  obtain ⟨R, hR⟩ : ∃ R, shr p (S :: (z1.take K).map (· % p)) M = R := ⟨_, rfl⟩
  rw [hR] at HPM HJ HDL HRF
  clear hfo r1 r2 n1 n2 hK hM hS hR hp e1 e2
  go_enter Try.func4, Try.ntmps4
  go_wp2_with (first
    | (go_at_call 19; (with_reducible refine (HDE.out _).mono ?_); rintro e w1 ⟨rfl, hw1⟩)
    | (go_at_call 20; (with_reducible refine (HPO.out _).mono ?_); rintro e w2 ⟨rfl, hw2⟩)
    | (go_at_call 21; (with_reducible refine (HFO.out _).mono ?_); rintro e w3 ⟨rfl, hw3⟩))
  have HX3 := Lib.hid (hw1.trans (hw2.trans hw3))
  clear hw1 hw2 hw3
  go_loopg [10, 33] K (fun k v10 v33 x => ∃ (i : Nat) (ad : Option Addr) (cp : Nat), i ≤ K ∧ v10 = .slice ad i cp ∧ v33 = .int .i64 i ∧ Hid (Row 3 .i64 x w.heap.size (.slice ad i cp) ((z1.take i).map (· % p))) ∧ Hid (k = K - i) ∧ Ex w x)
  case atStart => exact ⟨0, none, 0, by omega, rfl, rfl, Lib.hid (by rw [H0.out]; exact Row.nil _ _ _ _), Lib.hid rfl, HX3.out⟩
  case round =>
    obtain ⟨i, ad, cp, hi, rfl, rfl, hR, hk, hx⟩ := hrel
    by_cases hlt : i < K
    · rcases (HR1.out _ hx) with hn | ⟨bf, of_, rfl, hc⟩
      · have := HE1.out; rw [hn] at this; simp at this; omega
      have hci := hc i (by have := HE1.out; omega)
      have HST2 := Lib.hid (HST.out i (by have := HE1.out; omega))
      obtain ⟨X, hX⟩ : ∃ X, nth z1 i = X := ⟨_, rfl⟩
      rw [hX] at hci HST2
      have c1 := cell_fresh wr (.int .i64 (X % p)) 3
      have HX := Lib.hid (hx.alloc (.cells #[.int .i64 (X % p)] 3))
      have HRA := Lib.hid (hR.out.ex ((Ex.refl wr).alloc (.cells #[.int .i64 (X % p)] 3)))
      have hle := HLEN.out i (by have := HE1.out; omega)
      have HLE := Lib.hid hle
      clear hc hX hle
      go_wp2_with (first
        | (go_at_call 22; (with_reducible refine (HWI.out _ _).mono ?_); rintro e w' ⟨rfl, rfl⟩)
        | (at_builtin; refine wpList_append_int rfl _ _ 22 rfl w.heap.size 3 .i64 8 Try.underlying22 info_int _ ((z1.take i).map (· % p)) rfl HRA.out (X % p) wr.heap.size rfl c1 (by rw [HLE.out]; unfold maxLen; omega) (by rw [HLE.out]; omega) HX.out.size ?_; intro v1 w3 hown3 hgrow3 hat3
           have HX4 := Lib.hid (HRA.out.grown HX.out hgrow3)
           rw [HST2.out] at hown3
           obtain ⟨ad3, cp3, rfl, _, _, _⟩ := hown3.reads
           rw [HLEN.out (i + 1) (by have := HE1.out; omega)] at hown3 ⊢
           have HR3 := Lib.hid hown3
           clear hown3 hgrow3 hat3 c1))
      go_roundg (K - (i + 1))
      case measure => have := hk.out; omega
      case rel => exact ⟨i + 1, ad3, cp3, by omega, rfl, by go_num, HR3, Lib.hid rfl, HX4.out⟩
    · have e : i = K := by omega
      subst e
      rename World => wt
      have hform := hR.out.reads
      rw [HLEN.out i (by have := HE1.out; omega)] at hform
      obtain ⟨ad2, cp2, hf1, _, hf2, hf3⟩ := hform
      simp only [Value.slice.injEq, true_and] at hf1
      obtain ⟨rfl, rfl⟩ := hf1
      have HRT := Lib.hid hf2
      have HNT := Lib.hid hf3
      have HXT := Lib.hid hx
      clear hf2 hf3 hR hx
      go_wp2_with (first
        | (go_at_call 22; (with_reducible refine (HWS.out _).mono ?_); rintro e w' ⟨rfl, rfl⟩)
        | (go_at_call 7; (with_reducible refine (HDL.out _ _ _ HRT.out HNT.out).mono ?_); rintro e w4 ⟨g, rfl, hrow4, hw4⟩))
      have HX4 := Lib.hid (HXT.out.trans hw4)
      have HR4 : Hid (RowR 32 w4 w.heap.size (.slice (some ⟨g, 0, none⟩) M M) R) := Lib.hid (hrow4.out.less HXT.out.size)
      clear hrow4 hw4
      go_loopg [61] M (fun k v61 x => ∃ (j : Nat) (l : List (Int × Int)), j ≤ M ∧ v61 = .int .i64 j ∧ Hid (l.Perm R) ∧ Hid (RowR 32 x w.heap.size (.slice (some ⟨g, 0, none⟩) M M) l) ∧ Hid (k = M - j) ∧ Ex w x)
      case atStart => exact ⟨0, R, by omega, rfl, HRF, HR4, Lib.hid rfl, HX4.out⟩
      case round =>
        obtain ⟨j, l, hj, rfl, hP, hR, hk, hx⟩ := hrel
        by_cases hjl : j < M
        · by_cases hjo : j < l2
          · rcases (HR2.out _ hx) with hn | ⟨bf, of_, rfl, hc⟩
            · have := HE2.out; rw [hn] at this; simp at this; omega
            have hcj := hc j (by have := HE2.out; omega)
            obtain ⟨X, hX⟩ : ∃ X, nth z2 j = X := ⟨_, rfl⟩
            rw [hX] at hcj
            have q0 := Int.emod_nonneg X (b := (M : Int)) (by omega)
            have q1 := Int.emod_lt_of_pos X (b := (M : Int)) (by omega)
            have HWM := Lib.hid fun w2 => within_any X M w2 (by omega) (by omega)
            obtain ⟨t, ht⟩ : ∃ t : Nat, X % (M : Int) = (t : Int) := ⟨(X % (M : Int)).toNat, by omega⟩
            rw [ht] at q0 q1 HWM
            have htM : t < M := by omega
            have hlen := HPM.out l hP.out
            have F := hR.out.form
            rw [hlen] at F
            rcases F with ⟨F1, _⟩ | ⟨g2, cap2, F1, hgb, _, _, _, hcc, hf⟩
            · simp at F1
            simp only [Value.slice.injEq, Option.some.injEq, Addr.mk.injEq, and_true, true_and] at F1
            obtain ⟨rfl, rfl⟩ := F1
            obtain ⟨ci, ci2⟩ := hcc j hjl
            obtain ⟨cj, cj2⟩ := hcc t htM
            have fi := hf (j * 2)
            have fj := hf (t * 2)
            have fi2 := hf (j * 2 + 1)
            have fj2 := hf (t * 2 + 1)
            have s1 := hR.out.set hlen.symm j (nthR l t) (by omega)
            have s2 := s1.1.set (by rw [List.length_set]; exact hlen.symm) t (nthR l j) (by rw [List.length_set]; omega)
            have HS := Lib.hid s2.1
            have HXS := Lib.hid (ex_grown hx (s1.2.trans s2.2) (fun k hk => by cases hk; exact hgb))
            have HPS : Hid (((l.set j (nthR l t)).set t (nthR l j)).Perm R) := Lib.hid ((swap_perm (by omega) (by omega)).trans hP.out)
            obtain ⟨A, hA⟩ : ∃ A, nthR l j = A := ⟨_, rfl⟩
            obtain ⟨B, hB⟩ : ∃ B, nthR l t = B := ⟨_, rfl⟩
            rw [hA] at ci ci2 HS HPS HXS
            rw [hB] at cj cj2 HS HPS HXS
            obtain ⟨A1, A2⟩ := A
            obtain ⟨B1, B2⟩ := B
            simp only at ci ci2 cj cj2
            clear hc hcc hf s1 s2 hA hB hX ht hlen hgb
            by_cases hjt : t = j
            · subst hjt
              have e1 := ci.symm.trans cj
              have e2 := ci2.symm.trans cj2
              simp only [Option.some.injEq, Value.int.injEq, true_and] at e1 e2
              subst e1
              subst e2
              go_wp2_with (go_at_call 22; (with_reducible refine (HWM.out _).mono ?_); rintro e w' ⟨rfl, rfl⟩)
              go_region
              go_wp2
              go_roundg (M - (t + 1))
              case measure => have := hk.out; omega
              case rel => exact ⟨t + 1, _, by omega, by go_num, HPS, Lib.hid HS.out, Lib.hid rfl, HXS.out.drew⟩
            · have hjt2 : ¬ j = t := fun h => hjt h.symm
              go_wp2_with (go_at_call 22; (with_reducible refine (HWM.out _).mono ?_); rintro e w' ⟨rfl, rfl⟩)
              go_region
              go_wp2
              go_roundg (M - (j + 1))
              case measure => have := hk.out; omega
              case rel => exact ⟨j + 1, _, by omega, by go_num, HPS, Lib.hid HS.out, Lib.hid rfl, HXS.out.drew⟩
          · have hjo2 : decide ((j : Int) < (l2 : Int)) = false := decide_eq_false (by omega)
            go_wp2
            go_roundg (M - (j + 1))
            case measure => have := hk.out; omega
            case rel => exact ⟨j + 1, l, by omega, by go_num, hP, hR, Lib.hid rfl, hx⟩
        · have e : j = M := by omega
          subst e
          by_cases hle : j ≤ i
          · go_wp2
            go_ret
            exact ⟨rfl, hx⟩
          · have HJJ := Lib.hid (HJ.out l hP.out (by omega))
            have HRJ : Hid (ReadsR wr (some ⟨g, 0, none⟩) (l.take (i + 1))) := Lib.hid (ReadsR.take (by
              obtain ⟨a, c, h2, _, h3, _⟩ := hR.out.reads
              simp only [Value.slice.injEq] at h2
              obtain ⟨rfl, _, rfl⟩ := h2
              exact h3) _)
            go_wp2_with (go_at_call 8; (with_reducible refine (HJJ.out _ _ _ (by omega) HRJ.out).mono ?_); rintro e w5 ⟨rfl, hw5⟩)
            go_ret
            exact ⟨rfl, hx.trans hw5⟩

end Go.Proofs.Ytnpmifjndccfaaa
