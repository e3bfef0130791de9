/-
  ReedWrong, by contracts.
-/
import Derived.Test.YthlnbomapfjphaaReAny
import Derived.Test.YthlnbomapfjphaaGnu
namespace Go.Proofs.Ythlnbomapfjphaa
open Go.RowKit
open Gf

theorem bi_full : ∀ n, n ≤ 20 → ∀ i, i < n → bi (2 ^ n - 1) i = 1 := by decide +kernel
theorem cnt_full {H : Nat → Bool} : ∀ {n : Nat}, (∀ i, i < n → H i = true) → cnt H n = n
  | 0, _ => rfl
  | n + 1, h => by rw [cnt_succ, if_pos (h n (by omega)), cnt_full (n := n) fun i hi => h i (by omega)]
/-- A row of which one byte is another is none, where there are more than at first. -/
theorem cr_wrong {F : Nat → E} {k n p : Nat} {T : E} (hn : n ≤ 20) (hk : k < n) (hp : p < n) (hT : T ≠ 0) (G : Nat → E) :
    ∃ i, i < n ∧ updF (cr k F) p (cr k F p + T) i ≠ cr k G i := by
  refine Classical.byContradiction fun hc => ?_
  have hall : ∀ i, i < n → updF (cr k F) p (cr k F p + T) i = cr k G i := fun i hi => Classical.byContradiction fun h => hc ⟨i, hi, h⟩
  have hal := cr_alike (F := F) (G := G) (k := k) (n := n) (by omega) (by omega) (L := (List.range n).erase p) (List.nodup_range.erase p) (by
    rw [List.length_erase_of_mem (List.mem_range.mpr hp), List.length_range]; omega) (fun i hi => by
    have h1 := (List.nodup_range.mem_erase_iff).mp hi
    have h2 := List.mem_range.mp h1.2
    have h3 := hall i h2
    unfold updF at h3
    rw [if_neg h1.1] at h3
    exact ⟨h2, h3⟩) p
  have h3 := hall p hp
  unfold updF at h3
  rw [if_pos rfl, ← hal] at h3
  have h4 := congrArg (fun x => cr k F p + x) h3
  simp only [← E.add_assoc, E.add_self] at h4
  exact hT (by rw [← h4, E.zero_add])

theorem pw_u32 {N : Nat} (h : N ≤ 20) : ((2 : Int) ^ N - 1) % 4294967296 = ((2 ^ N - 1 : Nat) : Int) := by
  have h1 : 1 ≤ 2 ^ N := Nat.one_le_two_pow
  have h2 : 2 ^ N ≤ 2 ^ 20 := Nat.pow_le_pow_right (by omega) h
  have h3 : ((2 ^ N - 1 : Nat) : Int) = (2 : Int) ^ N - 1 := by rw [Int.natCast_sub h1, Int.natCast_pow]; rfl
  rw [← h3]
  omega

set_option maxRecDepth 100000 in
set_option maxHeartbeats 4000000 in
theorem reedWrong_of (HP : RePutC) (HM : MendC) (a : Option Addr) (la ca : Nat) (z : List Int) (n at' by' : Int) (w : World) (ha : IsInts .u8 1 w a la ca z) (hn : I64 n) (_ : I64 at') (hby : 0 ≤ by' ∧ by' ≤ 255) :
    Calls Try.prog 7 #[.slice a la ca, .int .i64 n, .int .i64 at', .int .u8 by'] w (Says (.bool true) w) := by
  have HY := Lib.hid fun w => rows_yes HP w
  by_cases h1 : rpE la n = 0
  · obtain ⟨a1, a2, a3⟩ := rpE_zero.mp h1
    obtain ⟨N, rfl⟩ : ∃ N : Nat, n = (N : Int) := ⟨n.toNat, by omega⟩
    have hca := ha.2.1
    have hca2 : ca ≤ 9223372036854775807 := by have := ha.2.2.1; omega
    have hlaN : la ≤ N := by omega
    have hN : N ≤ 20 := by omega
    have HPA := Lib.hid fun w2 (k : Ex w w2) => HP.own (k := la) (n := N) a1 (by omega) (by omega) hca hca2 ((ha.vecF a1).ex k)
    obtain ⟨F, hF⟩ : ∃ F : Nat → E, (fun k => eo (nth z k)) = F := ⟨_, rfl⟩
    rw [hF] at HPA
    by_cases h2 : N = la
    · subst h2
      have q1 : ((N : Int) == (N : Int)) = true := by simp
      clear ha hn HM HP h1 hF
      go_enter Try.func7, Try.ntmps7
      go_wp2_with (first
        | (go_at_call 20; (with_reducible refine (HY.out _).mono ?_); rintro e w1 ⟨rfl, hw1⟩)
        | (go_at_call 13; (with_reducible refine (HPA.out _ hw1).mono ?_); rintro e w2 ⟨g2, c2, rfl, hc2, hR2, _, hw2⟩
           have hx2 := hw1.trans hw2
           clear HPA))
      go_ret
      exact ⟨rfl, hx2⟩
    have q1 : ((N : Int) == (la : Int)) = false := by simp; omega
    by_cases h3 : by' = 0
    · subst h3
      clear ha hn HM HP h1 hF
      go_enter Try.func7, Try.ntmps7
      go_wp2_with (first
        | (go_at_call 20; (with_reducible refine (HY.out _).mono ?_); rintro e w1 ⟨rfl, hw1⟩)
        | (go_at_call 13; (with_reducible refine (HPA.out _ hw1).mono ?_); rintro e w2 ⟨g2, c2, rfl, hc2, hR2, _, hw2⟩
           have hx2 := hw1.trans hw2
           clear HPA))
      go_ret
      exact ⟨rfl, hx2⟩
    have q2 : (by' == 0) = false := by simpa using h3
    have q3 : ((N : Int) != (N : Int)) = false := by simp
    have HWI := Lib.hid fun w2 => within_any at' N w2 (by omega) (by omega)
    obtain ⟨P, hP⟩ : ∃ P : Nat, at' % (N : Int) = (P : Int) := ⟨(at' % (N : Int)).toNat, by have := Int.emod_nonneg at' (b := (N : Int)) (by omega); omega⟩
    have hPN : P < N := by have := Int.emod_lt_of_pos at' (b := (N : Int)) (by omega); omega
    rw [hP] at HWI
    obtain ⟨T, hT⟩ : ∃ T : E, eo by' = T := ⟨_, rfl⟩
    have hTv : by' = ((T.v : Nat) : Int) := by rw [← hT]; exact (eo_v hby.1 hby.2).symm
    have hT0 : T ≠ 0 := by
      intro h
      rw [h] at hTv
      exact h3 hTv
    subst hTv
    have HXY : Hid (bits .xor .u8 (((cr la F P).v : Nat) : Int) ((T.v : Nat) : Int) = (((cr la F P + T).v : Nat) : Int)) := Lib.hid (xor_u8_nat _ _ (cr la F P).lt T.lt)
    have hfull : ∀ i, i < N → sH (2 ^ N - 1) i = true := fun i hi => by unfold sH; exact decide_eq_true (bi_full N hN i hi)
    have hSb : 2 ^ N - 1 < 4294967296 := by
      have : 2 ^ N ≤ 2 ^ 20 := Nat.pow_le_pow_right (by omega) hN
      omega
    have HCE : Hid (∀ a2 c2 w2 v, ReadsF w2 a2 N (updF (cr la F) P (cr la F P + T)) → v = ((2 ^ N - 1 : Nat) : Int) → Calls Try.prog 21 #[.slice a2 N c2, .int .u32 v] w2 (Cels N (sH (2 ^ N - 1)) (sB (2 ^ N - 1) (updF (cr la F) P (cr la F P + T))) w2)) := Lib.hid fun a2 c2 w2 v h e => by subst e; exact cells_any _ N a2 c2 _ w2 hSb hN h
    have HSU := Lib.hid fun a2 c2 w2 (h1 : N ≤ c2) (h2 : c2 ≤ 9223372036854775807) (h3 : ReadsC w2 a2 N (sH (2 ^ N - 1)) (sB (2 ^ N - 1) (updF (cr la F) P (cr la F P + T)))) => HM.sum h1 h2 h3 (sB_lt _ _) hN a1 hlaN (by rw [cnt_full hfull]; exact hlaN) (fun G => by
      obtain ⟨i, hi, hne⟩ := cr_wrong (F := F) (k := la) (n := N) (p := P) (T := T) hN (by omega) hPN hT0 G
      exact ⟨i, hi, hfull i hi, by rw [sB_at (hfull i hi)]; exact fun h => hne (E.ext h)⟩)
    obtain ⟨H, hH⟩ : ∃ H, sH (2 ^ N - 1) = H := ⟨_, rfl⟩
    obtain ⟨B, hB⟩ : ∃ B, sB (2 ^ N - 1) (updF (cr la F) P (cr la F P + T)) = B := ⟨_, rfl⟩
    rw [hH, hB] at HCE HSU
    have HPW : Hid (2 ^ N ≤ 2 ^ 20) := Lib.hid (Nat.pow_le_pow_right (by omega) hN)
    have Xl := (cr la F P).lt
    have Tl := T.lt
    have HRS := Lib.hid fun w2 g (h : RowB w2 g N (cr la F)) => h.set hPN (cr la F P + T)
    clear ha hn HM HP h1 hF hH hB hT hT0 hP hfull h3
    go_enter Try.func7, Try.ntmps7
    go_upto_region 6 with (first
      | (go_at_call 20; (with_reducible refine (HY.out _).mono ?_); rintro e w1 ⟨rfl, hw1⟩)
      | (go_at_call 13; (with_reducible refine (HPA.out _ hw1).mono ?_); rintro e w2 ⟨g2, c2, rfl, hc2, hR2, _, hw2⟩
         have hx2 := hw1.trans hw2
         clear HPA))
    have HR3 := Lib.hid (HRS.out _ _ hR2.out.2)
    have HX3 := Lib.hid (hx2.setCell (p := ⟨g2, P, none⟩) (by have := hR2.out.1; have := hw1.size; show w.heap.size ≤ g2; omega) (.int .u8 (((cr la F P + T).v : Nat) : Int)))
    have r0 := hR2.out.2.1 P hPN
    have r1 := hR2.out.2.2 P
    have hxy := HXY.out
    go_upto_region 7 with (go_at_call 24; (with_reducible refine (HWI.out _).mono ?_); rintro e w' ⟨rfl, rfl⟩)
    generalize w2.setCell ⟨g2, P, none⟩ (.int .u8 (((cr la F P + T).v : Nat) : Int)) = w5 at *
    have HRF : Hid (ReadsF w5 (some ⟨g2, 0, none⟩) N (updF (cr la F) P (cr la F P + T))) := Lib.hid ⟨g2, 0, rfl, fun k hk => by rw [Nat.zero_add]; exact HR3.out.1 k hk⟩
    have HPV := Lib.hid (pw_u32 hN)
    go_wp2_with (first
      | (go_at_call 21; (with_reducible refine (HCE.out _ _ _ _ HRF.out HPV.out).mono ?_); rintro e w3 ⟨a3, c3, rfl, hc3, hR3, hw3⟩
         have hx3 := HX3.out.trans hw3
         clear HCE)
      | (go_at_call 14; (with_reducible refine (HSU.out _ _ _ hc3.out.1 hc3.out.2 hR3.out).mono ?_); rintro e w4 ⟨a4, c4, rfl, hw4⟩
         have hx4 := hx3.trans hw4))
    go_ret
    exact ⟨rfl, hx4⟩
  · have HPA := Lib.hid fun w2 (k : Ex w w2) => HP.not (ha.ex k) (wf_int' hn) h1
    obtain ⟨t, ht⟩ : ∃ t, rpE la n = t := ⟨_, rfl⟩
    rw [ht] at HPA h1
    have q2 : (t != 0) = true := by simpa using h1
    clear ha hn HP HM h1 ht
    go_enter Try.func7, Try.ntmps7
    go_wp2_with (first
      | (go_at_call 20; (with_reducible refine (HY.out _).mono ?_); rintro e w1 ⟨rfl, hw1⟩)
      | (go_at_call 13; (with_reducible refine (HPA.out _ hw1).mono ?_); rintro e w2 ⟨a2, c2, rfl, hw2⟩
         have hx2 := hw1.trans hw2
         clear HPA))
    go_ret
    exact ⟨rfl, hx2⟩

end Go.Proofs.Ythlnbomapfjphaa
