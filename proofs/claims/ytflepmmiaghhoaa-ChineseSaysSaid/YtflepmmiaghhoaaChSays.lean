/-
  ChineseSays, walked.
-/
import Derived.Test.YtflepmmiaghhoaaChKeep
import Derived.Test.YtflepmmiaghhoaaGcdOf
import Derived.Test.YtflepmmiaghhoaaChAdd
import Derived.Deep.CutRange
import Derived.Deep.DeepCutAuto
namespace Go.Proofs.Ytflepmmiaghhoaa
open Go.RowKit
open Eu Rs Ch

set_option maxHeartbeats 400000 in
theorem badM_any (m : Int) (w : World) : Calls Try.prog 10 #[.int .i64 m] w (Says (.bool (badM m)) w) := by
  by_cases h1 : m < 1
  · have e1 : badM m = true := by unfold badM; simp [h1]
    rw [e1]
    go_enter Try.func10, Try.ntmps10
    go_wp2
    go_ret
    exact .same
  · have e1 : badM m = decide (1000 < m) := by unfold badM; simp [h1]
    rw [e1]
    go_enter Try.func10, Try.ntmps10
    go_wp2
    go_ret
    exact .same

theorem entered_badM : Entered Try.prog 10 := fun _ _ => by kernel_rfl

set_option maxHeartbeats 400000 in
theorem badR_any (r m : Int) (w : World) : Calls Try.prog 12 #[.agg #[.int .i64 r, .int .i64 m]] w (Says (.bool (badR (r, m))) w) := by
  by_cases h1 : m < 1
  · have e1 : badR (r, m) = true := by unfold badR; simp [h1]
    rw [e1]
    go_enter Try.func12, Try.ntmps12
    go_wp2
    go_ret
    exact ⟨rfl, (Ex.refl w).alloc _⟩
  · by_cases h2 : 1000 < m
    · have e1 : badR (r, m) = true := by unfold badR; simp [h2]
      rw [e1]
      go_enter Try.func12, Try.ntmps12
      go_wp2
      go_ret
      exact ⟨rfl, (Ex.refl w).alloc _⟩
    · by_cases h3 : r < 0
      · have e1 : badR (r, m) = true := by unfold badR; simp [h3]
        rw [e1]
        go_enter Try.func12, Try.ntmps12
        go_wp2
        go_ret
        exact ⟨rfl, (Ex.refl w).alloc _⟩
      · have e1 : badR (r, m) = decide (m ≤ r) := by unfold badR; simp [h1, h2, h3]
        rw [e1]
        go_enter Try.func12, Try.ntmps12
        go_wp2
        go_ret
        exact ⟨rfl, (Ex.refl w).alloc _⟩

theorem entered_badR : Entered Try.prog 12 := fun _ _ => by kernel_rfl

/-- Two of them agree. -/
def Ag (l : List (Int × Int)) (s t : Nat) : Prop := G (nthR l s).2 (nthR l t).2 ∣ (nthR l s).1 - (nthR l t).1
/-- What is known of the answer when i rounds, and j within the next, lie behind. -/
def Wnt (l : List (Int × Int)) (i j : Nat) (wv : Int) : Prop :=
  (wv = 0 ∧ chk l = 0 ∧ (∀ s t, t < s → s < i → Ag l s t) ∧ ∀ t, t < j → Ag l i t) ∨ (wv ≠ 0 ∧ ((chk l ≠ 0 ∧ wv = chk l) ∨ (chk l = 0 ∧ wv = 4 ∧ ∀ y, ¬ Sol l y)))

theorem Wnt.start (l : List (Int × Int)) : Wnt l 0 0 (chk l) := by
  by_cases h : chk l = 0
  · exact .inl ⟨h, h, fun s t _ hs => absurd hs (Nat.not_lt_zero _), fun t ht => absurd ht (Nat.not_lt_zero _)⟩
  · exact .inr ⟨h, .inl ⟨h, rfl⟩⟩
theorem Wnt.keep {l : List (Int × Int)} {i j i' j' : Nat} {wv : Int} (h : Wnt l i j wv) (hn : wv ≠ 0) : Wnt l i' j' wv := by
  rcases h with h | h
  · exact absurd h.1 hn
  · exact .inr h
theorem Wnt.next {l : List (Int × Int)} {i j : Nat} (h : Wnt l i j 0) (ha : Ag l i j) : Wnt l i (j + 1) 0 := by
  rcases h with h | h
  · exact .inl ⟨rfl, h.2.1, h.2.2.1, fun t ht => by
      rcases Nat.lt_succ_iff_lt_or_eq.mp ht with h2 | h2
      · exact h.2.2.2 t h2
      · rw [h2]; exact ha⟩
  · exact absurd rfl h.1
theorem Wnt.fall {l : List (Int × Int)} {i j : Nat} (h : Wnt l i j 0) (hi : i < l.length) (hj : j < l.length) (ha : ¬ Ag l i j) (i' j' : Nat) : Wnt l i' j' 4 := by
  rcases h with h | h
  · exact .inr ⟨by omega, .inr ⟨h.2.1, rfl, fun y hy => ha (hy.agree _ (nthR_mem hi) _ (nthR_mem hj))⟩⟩
  · exact absurd rfl h.1
theorem Wnt.row {l : List (Int × Int)} {i : Nat} {wv : Int} (h : Wnt l i i wv) : Wnt l (i + 1) 0 wv := by
  rcases h with h | h
  · exact .inl ⟨h.1, h.2.1, fun s t hts hs => by
      rcases Nat.lt_succ_iff_lt_or_eq.mp hs with h2 | h2
      · exact h.2.2.1 s t hts h2
      · subst h2; exact h.2.2.2 t hts, fun t ht => absurd ht (Nat.not_lt_zero _)⟩
  · exact .inr h
theorem Wnt.zero {l : List (Int × Int)} {i j : Nat} (h : Wnt l i j 0) : chk l = 0 := by
  rcases h with h | h
  · exact h.2.1
  · exact absurd rfl h.1
theorem Wnt.ends {l : List (Int × Int)} {wv x M er : Int} (h : Wnt l l.length 0 wv) (hJ : Jn l x M er) : er = wv ∧ (wv ≠ 0 → x = 0 ∧ M = 0) := by
  rcases h with ⟨h1, h2, h3, _⟩ | ⟨h1, h2⟩
  · have ho := (chk_zero.mp h2).2
    obtain ⟨y, hy⟩ := solvable ho (fun k r hk b hb => by
      obtain ⟨hk2, rfl⟩ := List.getElem?_eq_some_iff.mp hk
      obtain ⟨t, ht, rfl⟩ := List.getElem_of_mem hb
      have ht2 : t < k := by simp at ht; omega
      have := h3 k t ht2 hk2
      unfold Ag at this
      rw [nthR_eq hk2, nthR_eq (by omega)] at this
      simpa using this)
    exact ⟨by rw [(hJ.yes h2 (Joined.of_sol ho hy)).2.2, h1], fun h => absurd h1 h⟩
  · rcases h2 with ⟨h2, h3⟩ | ⟨h2, h3, h4⟩
    · have := hJ.bad h2
      exact ⟨by rw [this.2.2, h3], fun _ => ⟨this.1, this.2.1⟩⟩
    · have := hJ.no h2 h4
      exact ⟨by rw [this.2.2, h3], fun _ => ⟨this.1, this.2.1⟩⟩

set_option maxRecDepth 100000 in
set_option maxHeartbeats 1000000 in
theorem chineseSays_walk (a : Option Addr) (len cap : Nat) (l : List (Int × Int)) (n : Int) (a2 : Option Addr) (len2 cap2 : Nat) (z : List Int) (w : World) (hz : IsPairs w a len cap l) (hn : I64 n) (hz2 : IsInts .i64 8 w a2 len2 cap2 z) :
    Calls Try.prog 3 #[.slice a len cap, .int .i64 n, .slice a2 len2 cap2] w (Says (.bool true) w) := by
  obtain ⟨rfl, hl, hcap, hr, _, _⟩ := hz
  obtain ⟨rfl, hl2, hcap2, hr2, _, _⟩ := hz2
  have hn2 := hn.2
  obtain ⟨x, M, er, hJ⟩ := jn_some l
  have HJ := Lib.hid (join_any l x M er a cap w (by omega) hr hJ)
  obtain ⟨c, hc⟩ : ∃ c, pchk n z = c := ⟨_, rfl⟩
  have HP : Hid (∀ w2, Ex w w2 → Calls Try.prog 8 #[.int .i64 n, .slice a2 z.length cap2] w2 (fun e w3 => ∃ (a3 : Option Addr) (cap3 : Nat) (P : List (Int × Int)), e = .returned (.tuple #[.slice a3 P.length cap3, .int .i64 c]) ∧ P.length ≤ 6 ∧ P.length ≤ cap3 ∧ Hid (c = 0 → P.length = z.length) ∧ Hid (c ≠ 0 → P.length = 0) ∧ Hid (∀ i, i < P.length → 0 ≤ n ∧ i < z.length ∧ nthR P i = (n % nth z i, nth z i) ∧ 1 ≤ nth z i ∧ nth z i ≤ 1000) ∧ Hid (ReadsR w3 a3 P) ∧ Ex w2 w3)) := Lib.hid fun w2 hx => by
    by_cases h0 : c = 0
    · subst h0
      refine (parts_ok n z a2 cap2 w2 (by omega) (hr2.ex hx) hc).mono ?_
      rintro e w3 ⟨a3, cap3, rfl, hle, hrd, hx3⟩
      obtain ⟨n0, h6, hm⟩ := pchk_zero hc
      have hlen := ptsOf_length n z
      refine ⟨a3, cap3, ptsOf n z, by rw [hlen], by omega, by omega, Lib.hid (fun _ => hlen), Lib.hid (fun h => absurd rfl h), Lib.hid fun i hi => ?_, hrd, hx3⟩
      have hi2 : i < z.length := by omega
      refine ⟨n0, hi2, ?_, hm _ (nth_mem hi2)⟩
      rw [nthR_eq hi, nth_eq hi2]
      simp [ptsOf]
    · refine (parts_no n z c a2 cap2 w2 (by omega) (hr2.ex hx) hc h0).mono ?_
      rintro e w3 ⟨a3, cap3, rfl, hx3⟩
      exact ⟨a3, cap3, [], rfl, by simp, by simp, Lib.hid (fun h => absurd h h0), Lib.hid (fun _ => rfl), Lib.hid fun i hi => absurd hi (Nat.not_lt_zero _), Lib.hid (.inl rfl), hx3⟩
  have HZ : Hid (∀ w2, Ex w w2 → Calls Try.prog 9 #[.slice a2 z.length cap2, .func (.func 10) #[] #[]] w2 (Says (.bool (z.any badM)) w2)) :=
    Lib.hid fun w2 hx => ints_contains 10 #[] badM z a2 cap2 w2 (by unfold maxLen; omega) (hr2.ex hx) entered_badM (fun y _ w3 _ => badM_any y w3)
  have HR : Hid (∀ w2, Ex w w2 → Calls Try.prog 11 #[.slice a l.length cap, .func (.func 12) #[] #[]] w2 (Says (.bool (l.any badR)) w2)) :=
    Lib.hid fun w2 hx => rests_contains 12 #[] badR l a cap w2 (by omega) (hr.ex hx) entered_badR (fun y _ w3 _ => badR_any y.1 y.2 w3)
  have HCK := Lib.hid (fun w2 (hx : Ex w w2) => check_any l a cap w2 (by omega) (hr.ex hx))
  have HC := Lib.hid hc
  have HJN := Lib.hid hJ
  have HRL := Lib.hid hr
  have HRZ := Lib.hid hr2
  clear hc hJ hr hr2
  go_enter Try.func3, Try.ntmps3
  go_upto_if 35 with (first
    | (go_at_call 7; (with_reducible refine (HJ.out).mono ?_); rintro e w1 ⟨rfl, hw1⟩)
    | (go_at_call 8; (with_reducible refine (HP.out _ hw1).mono ?_); rintro e w2 ⟨a3, cap3, P, rfl, P6, Pcap, P0, P1, HPE, HPR, hw2⟩))
  have hx2 := Lib.hid (hw1.trans hw2)
  go_cut [12] (fun s12 wx => s12 = .int .i64 c ∧ Ex w2 wx)
  case first =>
    by_cases h0 : n < 0
    · have e1 : c = 1 := by have := HC.out; unfold pchk at this; rw [if_pos h0] at this; exact this.symm
      subst e1
      go_wp2
      go_meet
      exact ⟨rfl, Ex.refl _⟩
    · by_cases h6 : 6 < z.length
      · have e1 : c = 2 := by have := HC.out; unfold pchk at this; rw [if_neg h0, if_pos h6] at this; exact this.symm
        subst e1
        go_wp2
        go_meet
        exact ⟨rfl, Ex.refl _⟩
      · have HC2 : Hid (c = if z.any badM then 1 else 0) := Lib.hid (by have := HC.out; unfold pchk at this; rw [if_neg h0, if_neg h6] at this; exact this.symm)
        have HZ2 := Lib.hid (HZ.out w2 hx2.out)
        cases hb : z.any badM
        · rw [hb] at HC2 HZ2
          have e1 : c = 0 := HC2.out
          subst e1
          clear hb HC2
          go_wp2_with (
            (go_at_call 9; (with_reducible refine (HZ2.out).mono ?_); rintro e w3 ⟨rfl, hw3⟩))
          go_meet
          exact ⟨rfl, hw3⟩
        · rw [hb] at HC2 HZ2
          have e1 : c = 1 := HC2.out
          subst e1
          clear hb HC2
          go_wp2_with (
            (go_at_call 9; (with_reducible refine (HZ2.out).mono ?_); rintro e w3 ⟨rfl, hw3⟩))
          go_meet
          exact ⟨rfl, hw3⟩
  case rest =>
    obtain ⟨rfl, hx3⟩ := hcut
    go_upto_region 10 with fail
    go_cut [63] (fun s63 wx => s63 = .bool false ∧ wc = wx)
    case first =>
      by_cases h0 : c = 0
      · subst h0
        have hpb : ((P.length : Int) != (z.length : Int)) = false := by simp [P0.out rfl]
        go_wp2
        go_meet
        exact ⟨rfl, rfl⟩
      · have hcb : (c != 0) = true := by simpa using h0
        have hcb2 : (c == 0) = false := by simpa using h0
        obtain rfl : P = [] := List.length_eq_zero_iff.mp (P1.out h0)
        go_wp2
        go_meet
        exact ⟨rfl, rfl⟩
    case rest =>
      obtain ⟨rfl, rfl⟩ := hcut
      clear P0 P1
      go_upto_if 92 with fail
      go_loopg [66] P.length (fun k v66 wr => ∃ i : Nat, i ≤ P.length ∧ v66 = .int .i64 i ∧ Hid (k = P.length - i) ∧ Ex wc wr)
      case atStart => exact ⟨0, Nat.zero_le _, rfl, Lib.hid rfl, Ex.refl _⟩
      case round =>
        obtain ⟨i, hi, rfl, hk, hw⟩ := hrel
        have HW := Lib.hid (hx2.out.trans (hx3.trans hw))
        by_cases hlt : i < P.length
        · obtain ⟨n0, hiz, hpe, m1, m2⟩ := HPE.out i hlt
          rcases HPR.out with h | ⟨b, off, rfl, hcells⟩
          · rw [h] at hlt; simp at hlt
          rcases HRZ.out with h | ⟨b2, off2, rfl, hcells2⟩
          · rw [h] at hiz; simp at hiz
          have hc0 := (hx3.trans hw).cell (hcells i hlt).1
          have hc1 := (hx3.trans hw).cell (hcells i hlt).2
          have hc2 := HW.out.cell (hcells2 i hiz)
          rw [hpe] at hc0 hc1
          simp only at hc0 hc1
          obtain ⟨m, hm⟩ : ∃ m, nth z i = m := ⟨_, rfl⟩
          rw [hm] at hc0 hc1 hc2 m1 m2
          have hc3 := ((Ex.refl wr).alloc (.cells #[.int .i64 (n % m), .int .i64 m] 32)).cell hc2
          clear hcells hcells2 hpe hm
          go_wp2
          go_quiet (fail)
          go_wp2
          go_roundg (P.length - (i + 1))
          case measure => have := hk.out; omega
          case rel => exact ⟨i + 1, by omega, by go_num, Lib.hid rfl, (hw.alloc _).drewN _⟩
        · obtain rfl : i = P.length := by omega
          clear HPE HPR HRZ HC HP HZ hk
          go_upto_if 92 with fail
          obtain ⟨cl, hcl⟩ : ∃ cl, chk l = cl := ⟨_, rfl⟩
          have HCL := Lib.hid hcl
          clear hcl
          go_cut [12] (fun s12 wx => s12 = .int .i64 cl ∧ Ex wr wx)
          case first =>
            by_cases h6 : 6 < l.length
            · have e1 : cl = 2 := by have := HCL.out; rw [chk_big h6] at this; exact this.symm
              subst e1
              go_wp2
              go_meet
              exact ⟨rfl, Ex.refl _⟩
            · have HC2 : Hid (cl = if l.any badR then 1 else 0) := Lib.hid (by have := HCL.out; unfold chk at this; rw [if_neg h6] at this; exact this.symm)
              have HR2 := Lib.hid (HR.out wr HW.out)
              cases hb : l.any badR
              · rw [hb] at HC2 HR2
                have e1 : cl = 0 := HC2.out
                subst e1
                clear hb HC2
                go_wp2_with (
                  (go_at_call 11; (with_reducible refine (HR2.out).mono ?_); rintro e w3 ⟨rfl, hw3⟩))
                go_meet
                exact ⟨rfl, hw3⟩
              · rw [hb] at HC2 HR2
                have e1 : cl = 1 := HC2.out
                subst e1
                clear hb HC2
                go_wp2_with (
                  (go_at_call 11; (with_reducible refine (HR2.out).mono ?_); rintro e w3 ⟨rfl, hw3⟩))
                go_meet
                exact ⟨rfl, hw3⟩
          case rest =>
            obtain ⟨rfl, hx4⟩ := hcut
            have HW2 := Lib.hid (HW.out.trans hx4)
            have HCK2 := Lib.hid (HCK.out wc HW2.out)
            rw [HCL.out] at HCK2
            clear HCK HR HW
            go_wp2_with (
              (go_at_call 13; (with_reducible refine (HCK2.out).mono ?_); rintro e w5 ⟨rfl, hw5⟩))
            have HW5 := Lib.hid (HW2.out.trans hw5)
            have HST : Hid (Wnt l 0 0 cl) := Lib.hid (by rw [← HCL.out]; exact Wnt.start l)
            clear HCK2 HW2 hw hx4 hx2 hx3 hw1 hw2 hi hlt
            go_loopg [12, 101] l.length (fun k v12 v101 wr => ∃ (i : Nat) (wv : Int), i ≤ l.length ∧ v12 = .int .i64 wv ∧ v101 = .int .i64 i ∧ Hid (k = l.length - i) ∧ Hid (Wnt l i 0 wv) ∧ Ex w5 wr)
            case atStart => exact ⟨0, cl, Nat.zero_le _, rfl, rfl, Lib.hid rfl, HST, Ex.refl _⟩
            case round =>
              rename World => wo
              clear HST HCL
              obtain ⟨i, wv, hi, rfl, rfl, hk, hwn, hw⟩ := hrel
              have HWR := Lib.hid (HW5.out.trans hw)
              by_cases hlt : i < l.length
              · rcases HRL.out with h | ⟨b, off, rfl, hcells⟩
                · rw [h] at hlt; simp at hlt
                have HCells := Lib.hid hcells
                have hc0 := HWR.out.cell (hcells i hlt).1
                have hc1 := HWR.out.cell (hcells i hlt).2
                clear hcells
                obtain ⟨q, hq⟩ : ∃ q, nthR l i = q := ⟨_, rfl⟩
                have HQ := Lib.hid hq
                rw [hq] at hc0 hc1
                obtain ⟨ra, ma⟩ := q
                simp only at hc0 hc1
                clear hq
                go_wp2
                go_loopg [12, 110] i (fun k v12 v110 x3 => ∃ (j : Nat) (wv : Int), j ≤ i ∧ v12 = .int .i64 wv ∧ v110 = .int .i64 j ∧ Hid (k = i - j) ∧ Hid (Wnt l i j wv) ∧ Ex (wo.alloc (.cells #[.int .i64 ra, .int .i64 ma] 32)) x3)
                case atStart => exact ⟨0, wv, Nat.zero_le _, rfl, rfl, Lib.hid rfl, hwn, Ex.refl _⟩
                case round =>
                  rename World => wi
                  clear hwn
                  obtain ⟨j, wv, hj, rfl, rfl, hk2, hwn, hx⟩ := hrel
                  by_cases hjl : j < i
                  · have HX := Lib.hid ((HWR.out.alloc (.cells #[.int .i64 ra, .int .i64 ma] 32)).trans hx)
                    have hd0 := HX.out.cell (HCells.out j (by omega)).1
                    have hd1 := HX.out.cell (HCells.out j (by omega)).2
                    obtain ⟨q2, hq2⟩ : ∃ q2, nthR l j = q2 := ⟨_, rfl⟩
                    have HQ2 := Lib.hid hq2
                    rw [hq2] at hd0 hd1
                    obtain ⟨rb, mb⟩ := q2
                    simp only at hd0 hd1
                    clear hq2
                    have hxa := hx.alloc (.cells #[.int .i64 rb, .int .i64 mb] 32)
                    have qa0 := wo_cell (hxa.cell (cell_two0 (heap_alloc_new wo (.cells #[.int .i64 ra, .int .i64 ma] 32))))
                    have qa1 := wo_cell (hxa.cell (cell_two1 (heap_alloc_new wo (.cells #[.int .i64 ra, .int .i64 ma] 32))))
                    have qb0 := wo_cell (cell_two0 (heap_alloc_new wi (.cells #[.int .i64 rb, .int .i64 mb] 32)))
                    have qb1 := wo_cell (cell_two1 (heap_alloc_new wi (.cells #[.int .i64 rb, .int .i64 mb] 32)))
                    by_cases h0 : wv = 0
                    · subst h0
                      have hcz := hwn.out.zero
                      obtain ⟨l6, hok⟩ := chk_zero.mp hcz
                      have oa := hok _ (nthR_mem hlt)
                      have ob := hok _ (nthR_mem (l := l) (i := j) (by omega))
                      rw [HQ.out] at oa
                      rw [HQ2.out] at ob
                      obtain ⟨oa1, oa2, oa3, oa4⟩ := oa
                      obtain ⟨ob1, ob2, ob3, ob4⟩ := ob
                      simp only at oa1 oa2 oa3 oa4 ob1 ob2 ob3 ob4
                      have g1 := G_pos (a := ma) (b := mb) (.inl (by omega))
                      have g2 := Int.le_of_dvd (by omega) (G_dvd_left ma mb)
                      have HG := Lib.hid (fun w => gcdOf_any ma mb w (by omega) (by omega) (by omega) (by omega))
                      have HAG : Hid (Ag l i j ↔ G ma mb ∣ ra - rb) := Lib.hid (by unfold Ag; rw [HQ.out, HQ2.out])
                      obtain ⟨g, hg⟩ : ∃ g, G ma mb = g := ⟨_, rfl⟩
                      rw [hg] at HG g1 g2 HAG
                      clear hg hcz hok
                      by_cases hd : g ∣ ra - rb
                      · have hT : (ra - rb).tmod g = 0 := by
                          obtain ⟨e, he⟩ := hd
                          rw [he]; exact Int.mul_tmod_right _ _
                        have HWN := Lib.hid (hwn.out.next (HAG.out.mpr hd))
                        clear hd
                        go_wp2
                        refine wp_region_wo (by kernel_rfl) (by kernel_rfl) ?_
                        repeat (go_big_quiet_step ((go_at_call 14; exact says_wo (HG.out _))))
                        refine wpQuiet_nil ?_
                        rintro _ ⟨⟨w7, hw7⟩, rfl⟩
                        go_wp2
                        go_roundg (i - (j + 1))
                        case measure => have := hk2.out; omega
                        case rel => exact ⟨j + 1, 0, by omega, rfl, by go_num, Lib.hid rfl, HWN, hxa.trans hw7⟩
                      · have hT : ((ra - rb).tmod g != 0) = true := by
                          have : (ra - rb).tmod g ≠ 0 := fun h => hd (Int.dvd_of_tmod_eq_zero h)
                          simpa using this
                        have HWN := Lib.hid (hwn.out.fall hlt (by omega) (fun h => hd (HAG.out.mp h)) i (j + 1))
                        clear hd
                        go_wp2
                        refine wp_region_wo (by kernel_rfl) (by kernel_rfl) ?_
                        repeat (go_big_quiet_step ((go_at_call 14; exact says_wo (HG.out _))))
                        refine wpQuiet_nil ?_
                        rintro _ ⟨⟨w7, hw7⟩, rfl⟩
                        go_wp2
                        go_roundg (i - (j + 1))
                        case measure => have := hk2.out; omega
                        case rel => exact ⟨j + 1, 4, by omega, rfl, by go_num, Lib.hid rfl, HWN, hxa.trans hw7⟩
                    · have hwb : (wv == 0) = false := by simpa using h0
                      have HWN := Lib.hid (hwn.out.keep (i' := i) (j' := j + 1) h0)
                      clear h0
                      go_wp2
                      refine wp_region_wo (by kernel_rfl) (by kernel_rfl) ?_
                      repeat (go_big_quiet_step (fail))
                      refine wpQuiet_nil ?_
                      rintro _ ⟨⟨w7, hw7⟩, rfl⟩
                      go_wp2
                      go_roundg (i - (j + 1))
                      case measure => have := hk2.out; omega
                      case rel => exact ⟨j + 1, wv, by omega, rfl, by go_num, Lib.hid rfl, HWN, hxa.trans hw7⟩
                  · obtain rfl : j = i := by omega
                    go_wp2
                    go_roundg (l.length - (j + 1))
                    case measure => have := hk.out; omega
                    case rel => exact ⟨j + 1, wv, by omega, rfl, by go_num, Lib.hid rfl, Lib.hid hwn.out.row, (hw.alloc _).trans hx⟩
              · obtain rfl : i = l.length := by omega
                obtain ⟨hew, hz0⟩ := hwn.out.ends HJN.out
                subst hew
                clear hwn
                by_cases h0 : er = 0
                · subst h0
                  obtain ⟨hcz, hM, hJ5⟩ := HJN.out.ok rfl
                  obtain ⟨l6, hok⟩ := chk_zero.mp hcz
                  obtain ⟨M1, x0, x1, _⟩ := hJ5
                  have hMb : M ≤ 1000000000000000000 := by rw [hM]; exact lcs_le l6 hok
                  have HSX := Lib.hid (HJN.out.ok rfl).2.2.sol
                  have HM := Lib.hid hM
                  have HOK := Lib.hid hok
                  clear hz0 hcz hok hM
                  go_wp2
                  go_loopg [15, 147] l.length (fun k v15 v147 x3 => ∃ (i : Nat) (A : Int), i ≤ l.length ∧ v15 = .int .i64 A ∧ v147 = .int .i64 i ∧ 1 ≤ A ∧ Hid (k = l.length - i) ∧ Hid (A = lcs (l.take i)) ∧ Hid (A ≤ 1000 ^ i) ∧ Ex wo x3)
                  case atStart => exact ⟨0, 1, Nat.zero_le _, rfl, rfl, by omega, Lib.hid rfl, Lib.hid rfl, Lib.hid (by simp), Ex.refl _⟩
                  case round =>
                    rename World => wi
                    obtain ⟨i, A, hi, rfl, rfl, A1, hk, hA, hA2, hw3⟩ := hrel
                    by_cases hlt : i < l.length
                    · rcases HRL.out with h | ⟨b, off, rfl, hcells⟩
                      · rw [h] at hlt; simp at hlt
                      have A2 : A ≤ 1000000000000000 := Int.le_trans hA2.out (p1000 (by omega))
                      have HX := Lib.hid (HWR.out.trans hw3)
                      have hc0 := HX.out.cell (hcells i hlt).1
                      have hc1 := HX.out.cell (hcells i hlt).2
                      have HT := Lib.hid (take_snoc hlt)
                      have oa := HOK.out _ (nthR_mem hlt)
                      have hxm := HSX.out _ (nthR_mem hlt)
                      clear hcells
                      obtain ⟨q, hq⟩ : ∃ q, nthR l i = q := ⟨_, rfl⟩
                      rw [hq] at hc0 hc1 HT oa hxm
                      obtain ⟨r, m⟩ := q
                      simp only at hc0 hc1 hxm
                      obtain ⟨m1, m2, r1, r2⟩ := oa
                      simp only at m1 m2 r1 r2
                      clear hq
                      have g1 := G_pos (a := A) (b := m) (.inl (by omega))
                      have g2 := Int.le_of_dvd (by omega) (G_dvd_right A m)
                      have g3 := Int.ediv_nonneg (a := A) (b := G A m) (by omega) (by omega)
                      have g4 := Int.ediv_le_self (a := A) (G A m) (by omega)
                      have HG := Lib.hid (fun w => gcdOf_any A m w (by omega) (by omega) (by omega) (by omega))
                      have HLV : Hid (L A m = A / G A m * m) := Lib.hid (by rw [L_val, show (A.natAbs : Int) = A by omega, show (m.natAbs : Int) = m by omega])
                      have HLP := Lib.hid (L_pos A1 m1)
                      obtain ⟨g, hg⟩ : ∃ g, G A m = g := ⟨_, rfl⟩
                      rw [hg] at HG g1 g2 g3 g4 HLV
                      obtain ⟨d, hd⟩ : ∃ d, A / g = d := ⟨_, rfl⟩
                      rw [hd] at g3 g4 HLV
                      rw [HLV.out] at HLP
                      obtain ⟨p1, p2⟩ := Eu.mul_le (a := d) (b := m) (A := 1000000000000000) (B := 1000) (by omega) (by omega) (by omega) (by omega)
                      have HB : Hid (d * m ≤ 1000 ^ (i + 1)) := Lib.hid (by
                        rw [Int.pow_succ]
                        exact (Eu.mul_le (by omega) (by omega) (Int.le_trans g4 hA2.out) m2).2)
                      have q0 := wo_cell (cell_two0 (heap_alloc_new wi (.cells #[.int .i64 r, .int .i64 m] 32)))
                      have q1 := wo_cell (cell_two1 (heap_alloc_new wi (.cells #[.int .i64 r, .int .i64 m] 32)))
                      clear hg
                      go_wp2
                      refine wp_region_wo (by kernel_rfl) (by kernel_rfl) ?_
                      repeat (go_big_quiet_step ((go_at_call 14; exact says_wo (HG.out _))))
                      refine wpQuiet_nil ?_
                      rintro _ ⟨⟨w7, hw7⟩, rfl⟩
                      have q2 := wo_cell (hw7.cell (cell_two0 (heap_alloc_new wi (.cells #[.int .i64 r, .int .i64 m] 32))))
                      have q3 := wo_cell (hw7.cell (cell_two1 (heap_alloc_new wi (.cells #[.int .i64 r, .int .i64 m] 32))))
                      clear q0 q1
                      go_wp2
                      refine wp_region_wo (by kernel_rfl) (by kernel_rfl) ?_
                      repeat (go_big_quiet_step (fail))
                      refine wpQuiet_nil ?_
                      rintro _ ⟨⟨w8, hw8⟩, rfl⟩
                      go_wp2
                      go_roundg (l.length - (i + 1))
                      case measure => have := hk.out; omega
                      case rel => exact ⟨i + 1, d * m, by omega, rfl, by go_num, HLP.out, Lib.hid rfl, Lib.hid (by rw [HT.out, lcs_snoc, ← hA.out, HLV.out]), HB, ((hw3.alloc _).trans hw7).trans hw8⟩
                    · obtain rfl : i = l.length := by omega
                      have e1 : A = M := by have := hA.out; rw [List.take_length] at this; rw [this, HM.out]
                      subst e1
                      go_wp2
                      go_ret
                      exact ⟨rfl, HWR.out.trans hw3⟩
                · obtain ⟨rfl, rfl⟩ := hz0 h0
                  have hwb : (er != 0) = true := by simpa using h0
                  clear hz0 h0
                  go_wp2
                  go_ret
                  exact ⟨rfl, HWR.out⟩

end Go.Proofs.Ytflepmmiaghhoaa
