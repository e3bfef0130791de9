/-
  DivideSays, DivideGauss, DivideNone, DivideTimes, walked.
-/
import Derived.Test.YtjjcollpfgafeaaDvWalks
import Derived.Test.YtjjcollpfgafeaaDvRef
import Derived.Test.YtjjcollpfgafeaaEqual
import Derived.Test.YtjjcollpfgafeaaSmall
import Derived.Test.YtjjcollpfgafeaaEuWalks
namespace Go.Proofs.Ytjjcollpfgafeaa
open Go.RowKit
open Eu Pr Dd

theorem divisors_reads (n : Nat) (w : World) (h1 : 1 ≤ n) (h2 : n ≤ 1000000) :
    Calls Try.prog 12 #[.int .i64 n] w (fun e w2 => ∃ a cap, e = .returned (.tuple #[.slice a (dvZ n).length cap, .int .i64 0]) ∧ Hid (Reads w2 .i64 a (dvZ n)) ∧ Ex w w2) := by
  refine (divisors_of n w h1 h2).mono ?_
  rintro e w2 ⟨v, rfl, hrow, hx⟩
  obtain ⟨a, cap, rfl, _, hr, _⟩ := hrow.out.reads
  exact ⟨a, cap, rfl, Lib.hid hr, hx⟩

theorem dvZ_len_le {n : Nat} (h2 : n ≤ 1000000) : (dvZ n).length ≤ 1000000 := by
  rw [dvZ_length]; have := dv_length n; omega

set_option maxHeartbeats 400000 in
theorem divides_yes (w : World) : Calls Try.prog 26 #[] w (Says (.bool true) w) := by
  have e12 : dvZ 12 = [1, 2, 3, 4, 6, 12] := by decide
  have HD : Hid (∀ w : World, Calls Try.prog 12 #[.int .i64 12] w (fun e w2 => ∃ a cap, e = .returned (.tuple #[.slice a 6 cap, .int .i64 0]) ∧ Hid (Reads w2 .i64 a [1, 2, 3, 4, 6, 12]) ∧ Ex w w2)) := Lib.hid fun w => by
    have := divisors_reads 12 w (by omega) (by omega)
    rw [e12] at this
    exact this
  have HE : Hid (∀ (w : World) (a b : Option Addr) (ca cb : Nat), Reads w .i64 a [1, 2, 3, 4, 6, 12] → Reads w .i64 b [1, 2, 3, 4, 6, 12] → Calls Try.prog 15 #[.slice a 6 ca, .slice b 6 cb] w (Says (.bool true) w)) := Lib.hid fun w a b ca cb h1 h2 =>
    ints_equal [1, 2, 3, 4, 6, 12] [1, 2, 3, 4, 6, 12] a b ca cb w (by decide) (by decide) h1 h2 true (by decide)
  clear e12
  go_enter Try.func26, Try.ntmps26
  go_wp2_with (first
    | (go_at_call 12; (with_reducible refine (HD.out _).mono ?_); rintro e w1 ⟨a, cap, rfl, hr, hx1⟩
       have HR := Lib.hid (hr.out.ex ((Ex.refl w1).alloc (.cells #[.int .i64 1, .int .i64 2, .int .i64 3, .int .i64 4, .int .i64 6, .int .i64 12] 3)))
       have HR2 : Hid (Reads (w1.alloc (.cells #[.int .i64 1, .int .i64 2, .int .i64 3, .int .i64 4, .int .i64 6, .int .i64 12] 3)) .i64 (some ⟨w1.heap.size, 0, none⟩) [1, 2, 3, 4, 6, 12]) := Lib.hid (reads_new .i64 [1, 2, 3, 4, 6, 12] _ rfl 3 w1)
       have HX2 := Lib.hid (hx1.alloc (.cells #[.int .i64 1, .int .i64 2, .int .i64 3, .int .i64 4, .int .i64 6, .int .i64 12] 3)))
    | (go_at_call 15; (with_reducible refine (HE.out _ _ _ _ _ HR.out HR2.out).mono ?_); rintro e w2 ⟨rfl, hx2⟩))
  go_ret
  exact ⟨rfl, HX2.out.trans hx2⟩

set_option maxRecDepth 100000 in
set_option maxHeartbeats 2000000 in
theorem divideSays_walk (n : Int) (w : World) (_ : I64 n) : Calls Try.prog 3 #[.int .i64 n] w (Says (.bool true) w) := by
  by_cases h : n < 1 ∨ 1000000 < n
  · have HN := Lib.hid h
    rcases h with h | h
    all_goals
      go_enter Try.func3, Try.ntmps3
      go_wp2_with (first
        | (go_at_call 12; (with_reducible refine (divisors_no _ _ HN.out).mono ?_); rintro e w1 ⟨rfl, hw1⟩)
        | (go_at_call 13; (with_reducible refine (phi_no _ _ HN.out).mono ?_); rintro e w2 ⟨rfl, hw2⟩)
        | (go_at_call 14; (with_reducible refine (moebius_no _ _ HN.out).mono ?_); rintro e w3 ⟨rfl, hw3⟩))
      go_ret
      exact ⟨rfl, (by repeat (first | assumption | exact Ex.refl _ | refine Ex.trans ?_ (by assumption)))⟩
  · obtain ⟨N, rfl⟩ : ∃ N : Nat, n = N := ⟨n.toNat, by omega⟩
    have h1 : 1 ≤ N := by omega
    have h2 : N ≤ 1000000 := by omega
    have HD := Lib.hid fun w => divisors_reads N w h1 h2
    have HP := Lib.hid fun w => phi_of N w h1 h2
    have HM := Lib.hid fun w => moebius_of N w h1 h2
    have HO := Lib.hid fun w => divisorsOf_any N w h1 h2
    have HQ := Lib.hid fun w => phiOf_any N w h1 h2
    have HR := Lib.hid fun w => moebiusOf_any N w h1 h2
    have HL := Lib.hid (dvZ_len_le h2)
    obtain ⟨p, hp⟩ : ∃ p, ph N = p := ⟨_, rfl⟩
    obtain ⟨m, hm⟩ : ∃ m, mu N = m := ⟨_, rfl⟩
    have hEQ : ∀ (w : World) (a b : Option Addr) (ca cb : Nat), Reads w .i64 a (dvZ N) → Reads w .i64 b (dvZ N) → Calls Try.prog 15 #[.slice a (dvZ N).length ca, .slice b (dvZ N).length cb] w (Says (.bool true) w) := fun w a b ca cb r1 r2 =>
      ints_equal (dvZ N) (dvZ N) a b ca cb w (by have := HL.out; unfold maxLen; omega) (by have := HL.out; unfold maxLen; omega) r1 r2 true (by simp)
    obtain ⟨D, hD⟩ : ∃ D, dvZ N = D := ⟨_, rfl⟩
    rw [hp] at HP HQ
    rw [hm] at HM HR
    rw [hD] at HD HO HL hEQ
    have HE := Lib.hid hEQ
    clear hp hm hD hEQ h
    go_enter Try.func3, Try.ntmps3
    go_wp2_with (first
      | (go_at_call 12; (with_reducible refine (HD.out _).mono ?_); rintro e w1 ⟨a, cap, rfl, hr, hw1⟩)
      | (go_at_call 13; (with_reducible refine (HP.out _).mono ?_); rintro e w2 ⟨rfl, hw2⟩)
      | (go_at_call 14; (with_reducible refine (HM.out _).mono ?_); rintro e w3 ⟨rfl, hw3⟩)
      | (go_at_call 16; (with_reducible refine (HO.out _).mono ?_); rintro e w4 ⟨v, rfl, hrow, hw4⟩
         obtain ⟨a2, cap2, hv, _, hr2, _⟩ := hrow.out.reads
         subst hv
         have HR1 := Lib.hid (hr.out.ex (show Ex w1 w4 from (by repeat (first | assumption | exact Ex.refl _ | refine Ex.trans ?_ (by assumption)))))
         have HR2 := Lib.hid hr2
         clear hr2)
      | (go_at_call 15; (with_reducible refine (HE.out _ _ _ _ _ HR1.out HR2.out).mono ?_); rintro e w5 ⟨rfl, hw5⟩)
      | (go_at_call 17; (with_reducible refine (HQ.out _).mono ?_); rintro e w6 ⟨rfl, hw6⟩)
      | (go_at_call 18; (with_reducible refine (HR.out _).mono ?_); rintro e w7 ⟨rfl, hw7⟩))
    go_ret
    exact ⟨by simp, (by repeat (first | assumption | exact Ex.refl _ | refine Ex.trans ?_ (by assumption)))⟩

theorem phi_dv {n : Nat} (h2 : n ≤ 1000000) {d : Nat} (hn : 1 ≤ n) (hd : d ∈ dv n) : 1 ≤ d ∧ d ≤ 1000000 := by
  have h3 := (mem_dv hn).mp hd
  have := Nat.le_of_dvd hn h3.2
  omega

theorem sm_take (G : Nat → Int) (n : Nat) {t : Nat} (h : t < (dv n).length) : sm G ((dv n).take (t + 1)) = sm G ((dv n).take t) + G (dat n t) := by
  rw [List.take_succ_eq_append_getElem h, sm_append, dat_eq h]
  simp [sm]

theorem sm_take_bound {G : Nat → Int} {n : Nat} (t : Nat) (hn : n ≤ 1000000) (hG : ∀ d ∈ dv n, -1000000 ≤ G d ∧ G d ≤ 1000000) : -1000000000000 ≤ sm G ((dv n).take t) ∧ sm G ((dv n).take t) ≤ 1000000000000 := by
  have h := sm_le (F := G) (B := 1000000) (l := (dv n).take t) (fun d hd => hG d (List.mem_of_mem_take hd))
  have h4 := dv_length n
  have h2 : ((dv n).take t).length ≤ 1000000 := by
    rw [List.length_take]
    omega
  omega

theorem dvZ_nth2 {n t : Nat} (h : t < (dv n).length) : nth (dvZ n) t = (dat n t : Int) := by rw [dvZ_nth h, dat_eq h]

theorem fac_12' : Fac ((12 : Nat) : Int) [(2, 2), (3, 1)] := by
  refine ⟨⟨by decide, by decide, fun d h1 h2 => by omega⟩, by decide, 3, by decide, by decide, by decide, ⟨by decide, by decide, fun d h1 h2 h3 => ?_⟩, by decide, 1, by decide, by decide, by decide, rfl⟩
  have : d = 2 := by omega
  subst this
  revert h3; decide

theorem ph_12 : ph 12 = 4 := by
  rw [ph_fac fac_12' (by omega)]; decide

theorem phi_at12 (w : World) : Calls Try.prog 13 #[.int .i64 12] w (Says (.tuple #[.int .i64 4, .int .i64 0]) w) := by
  have := phi_of 12 w (by omega) (by omega)
  rw [ph_12] at this
  exact this

theorem gauss_end {n : Nat} {S : Int} (hn : 1 ≤ n) (h : S = sm ph (dv n)) : S = (n : Int) := by rw [h, gauss_sum hn]

set_option maxRecDepth 100000 in
set_option maxHeartbeats 2000000 in
theorem divideGauss_walk (n : Int) (w : World) (_ : I64 n) : Calls Try.prog 6 #[.int .i64 n] w (Says (.bool true) w) := by
  have H12 := Lib.hid phi_at12
  by_cases h : n < 1 ∨ 1000000 < n
  · have HN := Lib.hid h
    clear h
    go_enter Try.func6, Try.ntmps6
    go_wp2_with (first
      | (go_at_call 13; (with_reducible refine (H12.out _).mono ?_); rintro e w1 ⟨rfl, hw1⟩)
      | (go_at_call 26; (with_reducible refine (divides_yes _).mono ?_); rintro e w2 ⟨rfl, hw2⟩)
      | (go_at_call 12; (with_reducible refine (divisors_no _ _ HN.out).mono ?_); rintro e w3 ⟨rfl, hw3⟩))
    go_ret
    exact ⟨rfl, (by repeat (first | assumption | exact Ex.refl _ | refine Ex.trans ?_ (by assumption)))⟩
  · obtain ⟨N, rfl⟩ : ∃ N : Nat, n = N := ⟨n.toNat, by omega⟩
    have h1 : 1 ≤ N := by omega
    have h2 : N ≤ 1000000 := by omega
    have HD := Lib.hid fun w => divisors_reads N w h1 h2
    have HG : Hid (∀ d ∈ dv N, -1000000 ≤ ph d ∧ ph d ≤ 1000000) := Lib.hid fun d hd => by
      have h3 := phi_dv h2 h1 hd
      have h4 := ph_bound h3.1
      omega
    have HSM := Lib.hid fun t => sm_take_bound (G := ph) (n := N) t h2 HG.out
    have HST := Lib.hid fun t => sm_take ph N (t := t)
    have HP := Lib.hid fun t (ht : t < (dv N).length) (w : World) => phi_of (dat N t) w (phi_dv h2 h1 (by rw [dat_eq ht]; exact List.getElem_mem ht)).1 (phi_dv h2 h1 (by rw [dat_eq ht]; exact List.getElem_mem ht)).2
    have HGt : Hid (∀ t, t < (dv N).length → -1000000 ≤ ph (dat N t) ∧ ph (dat N t) ≤ 1000000) := Lib.hid fun t ht => by rw [dat_eq ht]; exact HG.out _ (List.getElem_mem ht)
    have HNT := Lib.hid fun t => dvZ_nth2 (n := N) (t := t)
    have hL2 : (dv N).length ≤ 1000000 := by have := dv_length N; omega
    have HZ := Lib.hid (dvZ_length N)
    have HTA : Hid ((dv N).take (dv N).length = dv N) := Lib.hid (List.take_length)
    clear h
    go_enter Try.func6, Try.ntmps6
    go_wp2_with (first
      | (go_at_call 13; (with_reducible refine (H12.out _).mono ?_); rintro e w1 ⟨rfl, hw1⟩)
      | (go_at_call 26; (with_reducible refine (divides_yes _).mono ?_); rintro e w2 ⟨rfl, hw2⟩)
      | (go_at_call 12; (with_reducible refine (HD.out _).mono ?_); rintro e w3 ⟨a, cap, rfl, hr, hw3⟩; rw [HZ.out]))
    have HX3 : Hid (Ex w w3) := Lib.hid (by repeat (first | assumption | exact Ex.refl _ | refine Ex.trans ?_ (by assumption)))
    obtain ⟨L, hL⟩ : ∃ L, (dv N).length = L := ⟨_, rfl⟩
    rw [hL] at HST HP HGt HNT hL2 HZ HTA ⊢
    clear hL
    go_loopg [7, 38] L (fun k v7 v38 x => ∃ (t : Nat) (S : Int), t ≤ L ∧ v38 = .int .i64 t ∧ v7 = .int .i64 S ∧ Hid (S = sm ph ((dv N).take t)) ∧ Hid (k = L - t) ∧ Ex w3 x)
    case atStart => exact ⟨0, 0, by omega, rfl, rfl, Lib.hid (by simp [sm]), Lib.hid rfl, Ex.refl _⟩
    case round =>
      obtain ⟨t, S, ht, rfl, rfl, hS, hk, hx⟩ := hrel
      have HWr := Lib.hid hx
      by_cases hlt : t < L
      · rcases hr.out with hn | ⟨b, off, rfl, hc⟩
        · have := HZ.out
          rw [hn] at this
          simp at this
          omega
        have hct := hx.cell (hc t (by have := HZ.out; omega))
        rw [HNT.out t hlt] at hct
        have s1 := HSM.out t
        rw [← hS.out] at s1
        obtain ⟨s1, s2⟩ := s1
        obtain ⟨g1, g2⟩ := HGt.out t hlt
        have HS1 := Lib.hid (HST.out t hlt)
        have HPt := Lib.hid (HP.out t hlt)
        obtain ⟨D, hD⟩ : ∃ D, dat N t = D := ⟨_, rfl⟩
        rw [hD] at hct g1 g2 HPt HS1
        obtain ⟨p, hp⟩ : ∃ p, ph D = p := ⟨_, rfl⟩
        rw [hp] at g1 g2 HPt HS1
        clear hc hD hp
        go_wp2_with (go_at_call 13; (with_reducible refine (HPt.out _).mono ?_); rintro e w4 ⟨rfl, hw4⟩)
        go_roundg (L - (t + 1))
        case measure => have := hk.out; omega
        case rel => exact ⟨t + 1, S + p, by omega, by go_num, rfl, Lib.hid (by rw [HS1.out, hS.out]), Lib.hid rfl, HWr.out.trans hw4⟩
      · have e : t = L := by omega
        subst e
        have hS2 := hS.out
        rw [HTA.out] at hS2
        rcases gauss_end h1 hS2 with hE
        all_goals
          clear hS2
          go_wp2
          go_ret
          exact ⟨by first | rfl | simp, HX3.out.trans HWr.out⟩

theorem fac_30 : Fac ((30 : Nat) : Int) [(2, 1), (3, 1), (5, 1)] := by
  refine ⟨⟨by decide, by decide, fun d h1 h2 => by omega⟩, by decide, 15, by decide, by decide, by decide, ⟨by decide, by decide, fun d h1 h2 h3 => ?_⟩, by decide, 5, by decide, by decide, by decide, ⟨by decide, by decide, fun d h1 h2 h3 => ?_⟩, by decide, 1, by decide, by decide, by decide, rfl⟩
  · have : d = 2 := by omega
    subst this
    revert h3; decide
  · have : d = 2 ∨ d = 3 ∨ d = 4 := by omega
    rcases this with rfl | rfl | rfl <;> (revert h3; decide)

theorem mu_30 : mu 30 = -1 := by
  rw [mu_fac fac_30 (by omega)]; decide

theorem mu_at30 (w : World) : Calls Try.prog 14 #[.int .i64 30] w (Says (.tuple #[.int .i64 (-1), .int .i64 0]) w) := by
  have := moebius_of 30 w (by omega) (by omega)
  rw [mu_30] at this
  exact this

theorem none_end {n : Nat} {S : Int} (hn : 1 ≤ n) (h : S = sm mu (dv n)) : (n = 1 ∧ S = 1) ∨ ((1 : Int) < (n : Int) ∧ ((n : Int) == 1) = false ∧ S = 0) := by
  rw [h, moebius_sum hn]
  by_cases h1 : n = 1
  · exact .inl ⟨h1, if_pos h1⟩
  · exact .inr ⟨by omega, by simp; omega, if_neg h1⟩

set_option maxRecDepth 100000 in
set_option maxHeartbeats 2000000 in
theorem divideNone_walk (n : Int) (w : World) (_ : I64 n) : Calls Try.prog 7 #[.int .i64 n] w (Says (.bool true) w) := by
  have H12 := Lib.hid mu_at30
  by_cases h : n < 1 ∨ 1000000 < n
  · have HN := Lib.hid h
    clear h
    go_enter Try.func7, Try.ntmps7
    go_wp2_with (first
      | (go_at_call 14; (with_reducible refine (H12.out _).mono ?_); rintro e w1 ⟨rfl, hw1⟩)
      | (go_at_call 26; (with_reducible refine (divides_yes _).mono ?_); rintro e w2 ⟨rfl, hw2⟩)
      | (go_at_call 12; (with_reducible refine (divisors_no _ _ HN.out).mono ?_); rintro e w3 ⟨rfl, hw3⟩))
    go_ret
    exact ⟨rfl, (by repeat (first | assumption | exact Ex.refl _ | refine Ex.trans ?_ (by assumption)))⟩
  · obtain ⟨N, rfl⟩ : ∃ N : Nat, n = N := ⟨n.toNat, by omega⟩
    have h1 : 1 ≤ N := by omega
    have h2 : N ≤ 1000000 := by omega
    have HD := Lib.hid fun w => divisors_reads N w h1 h2
    have HG : Hid (∀ d ∈ dv N, -1000000 ≤ mu d ∧ mu d ≤ 1000000) := Lib.hid fun d hd => by
      have h3 := phi_dv h2 h1 hd
      have h4 := mu_bound d
      omega
    have HSM := Lib.hid fun t => sm_take_bound (G := mu) (n := N) t h2 HG.out
    have HST := Lib.hid fun t => sm_take mu N (t := t)
    have HP := Lib.hid fun t (ht : t < (dv N).length) (w : World) => moebius_of (dat N t) w (phi_dv h2 h1 (by rw [dat_eq ht]; exact List.getElem_mem ht)).1 (phi_dv h2 h1 (by rw [dat_eq ht]; exact List.getElem_mem ht)).2
    have HGt : Hid (∀ t, t < (dv N).length → -1000000 ≤ mu (dat N t) ∧ mu (dat N t) ≤ 1000000) := Lib.hid fun t ht => by rw [dat_eq ht]; exact HG.out _ (List.getElem_mem ht)
    have HNT := Lib.hid fun t => dvZ_nth2 (n := N) (t := t)
    have hL2 : (dv N).length ≤ 1000000 := by have := dv_length N; omega
    have HZ := Lib.hid (dvZ_length N)
    have HTA : Hid ((dv N).take (dv N).length = dv N) := Lib.hid (List.take_length)
    clear h
    go_enter Try.func7, Try.ntmps7
    go_wp2_with (first
      | (go_at_call 14; (with_reducible refine (H12.out _).mono ?_); rintro e w1 ⟨rfl, hw1⟩)
      | (go_at_call 26; (with_reducible refine (divides_yes _).mono ?_); rintro e w2 ⟨rfl, hw2⟩)
      | (go_at_call 12; (with_reducible refine (HD.out _).mono ?_); rintro e w3 ⟨a, cap, rfl, hr, hw3⟩; rw [HZ.out]))
    have HX3 : Hid (Ex w w3) := Lib.hid (by repeat (first | assumption | exact Ex.refl _ | refine Ex.trans ?_ (by assumption)))
    obtain ⟨L, hL⟩ : ∃ L, (dv N).length = L := ⟨_, rfl⟩
    rw [hL] at HST HP HGt HNT hL2 HZ HTA ⊢
    clear hL
    go_loopg [7, 38] L (fun k v7 v38 x => ∃ (t : Nat) (S : Int), t ≤ L ∧ v38 = .int .i64 t ∧ v7 = .int .i64 S ∧ Hid (S = sm mu ((dv N).take t)) ∧ Hid (k = L - t) ∧ Ex w3 x)
    case atStart => exact ⟨0, 0, by omega, rfl, rfl, Lib.hid (by simp [sm]), Lib.hid rfl, Ex.refl _⟩
    case round =>
      obtain ⟨t, S, ht, rfl, rfl, hS, hk, hx⟩ := hrel
      have HWr := Lib.hid hx
      by_cases hlt : t < L
      · rcases hr.out with hn | ⟨b, off, rfl, hc⟩
        · have := HZ.out
          rw [hn] at this
          simp at this
          omega
        have hct := hx.cell (hc t (by have := HZ.out; omega))
        rw [HNT.out t hlt] at hct
        have s1 := HSM.out t
        rw [← hS.out] at s1
        obtain ⟨s1, s2⟩ := s1
        obtain ⟨g1, g2⟩ := HGt.out t hlt
        have HS1 := Lib.hid (HST.out t hlt)
        have HPt := Lib.hid (HP.out t hlt)
        obtain ⟨D, hD⟩ : ∃ D, dat N t = D := ⟨_, rfl⟩
        rw [hD] at hct g1 g2 HPt HS1
        obtain ⟨p, hp⟩ : ∃ p, mu D = p := ⟨_, rfl⟩
        rw [hp] at g1 g2 HPt HS1
        clear hc hD hp
        go_wp2_with (go_at_call 14; (with_reducible refine (HPt.out _).mono ?_); rintro e w4 ⟨rfl, hw4⟩)
        go_roundg (L - (t + 1))
        case measure => have := hk.out; omega
        case rel => exact ⟨t + 1, S + p, by omega, by go_num, rfl, Lib.hid (by rw [HS1.out, hS.out]), Lib.hid rfl, HWr.out.trans hw4⟩
      · have e : t = L := by omega
        subst e
        have hS2 := hS.out
        rw [HTA.out] at hS2
        rcases none_end h1 hS2 with ⟨rfl, rfl⟩ | ⟨hn1, hn2, rfl⟩
        all_goals
          clear hS2
          go_wp2
          go_ret
          exact ⟨by first | rfl | simp, HX3.out.trans HWr.out⟩

end Go.Proofs.Ytjjcollpfgafeaa
