/-
  WelchBack, by contracts.
-/
import Derived.Test.YtjccpfpldbjcbaaWeKeep
import Derived.Test.YtjccpfpldbjcbaaGnu
import Derived.Test.YtjccpfpldbjcbaaCloneB
import Derived.Deep.CutRange
import Derived.Deep.DeepCutAuto
namespace Go.Proofs.Ytjccpfpldbjcbaa
open Go.RowKit
open Gf

/-- One byte more turned: one difference more at most. -/
theorem ms_updF (F V : Nat → E) (p : Nat) (x : E) : ∀ n, ms F (updF V p x) (List.range n) ≤ ms F V (List.range n) + (if p < n then 1 else 0)
  | 0 => by simp [ms]
  | n + 1 => by
    have ih := ms_updF F V p x n
    have a1 := ms_snoc F (updF V p x) n
    have a2 := ms_snoc F V n
    by_cases e : n = p
    · have hA : ¬ p < n := by omega
      have hB : p < n + 1 := by omega
      rw [if_neg hA] at ih
      rw [if_pos hB]
      have h1 : (if (F n).v = (updF V p x n).v then 0 else 1) ≤ 1 := by split <;> decide
      omega
    · have e2 : updF V p x n = V n := by unfold updF; rw [if_neg e]
      rw [e2] at a1
      by_cases hp : p < n
      · have hB : p < n + 1 := by omega
        rw [if_pos hp] at ih
        rw [if_pos hB]
        omega
      · have hB : ¬ p < n + 1 := by omega
        rw [if_neg hp] at ih
        rw [if_neg hB]
        omega

theorem RowB.moB {w w2 : World} {g C c : Nat} {F : Nat → E} (h : RowB w g C F) (hC : 1 ≤ C) (hm : Mo1 c w w2) (hne : g ≠ c) : RowB w2 g C F :=
  ⟨fun k hk => hm.cell (h.1 k hk) hne, fun k => (hm.frozen (a := ⟨g, k, none⟩) (World.block_lt_of_cell? w ⟨g, 0, none⟩ (h.1 0 (by omega))) hne).trans (h.2 k)⟩

set_option maxRecDepth 100000 in
set_option maxHeartbeats 4000000 in
theorem welchBack_of (HP : RePutC) (HM : WeMendC) (a : Option Addr) (la ca : Nat) (z : List Int) (n : Int) (c : Option Addr) (lc cc : Nat) (y : List Int) (b : Option Addr) (lb cb : Nat) (x : List Int) (w : World)
    (ha : IsInts .u8 1 w a la ca z) (hn : I64 n) (hc : IsInts .i64 8 w c lc cc y) (hb : IsInts .u8 1 w b lb cb x) :
    Calls Try.prog 4 #[.slice a la ca, .int .i64 n, .slice c lc cc, .slice b lb cb] w (Says (.bool true) w) := by
  have HY := Lib.hid fun w => welches_yes HP HM w
  by_cases h1 : rpE la n = 0
  · obtain ⟨a1, a2, a3⟩ := rpE_zero.mp h1
    obtain ⟨N, rfl⟩ : ∃ N : Nat, n = (N : Int) := ⟨n.toNat, by omega⟩
    have hca := ha.2.1
    have hca2 : ca ≤ 9223372036854775807 := by have := ha.2.2.1; omega
    have hlaN : la ≤ N := by omega
    have hN : N ≤ 20 := by omega
    have hla : la ≤ 140737488351232 := by have := ha.2.2.1; omega
    have hlb : lb ≤ 140737488351232 := by have := hb.2.1; have := hb.2.2.1; omega
    have hlc : lc ≤ 140737488351232 := by have := hc.2.1; have := hc.2.2.1; omega
    have hlcc : lc ≤ cc := hc.2.1
    have hcc : cc ≤ 140737488351232 := by have := hc.2.2.1; omega
    have HPA := Lib.hid fun w2 (k : Ex w w2) => HP.own (k := la) (n := N) a1 (by omega) (by omega) hca hca2 ((ha.vecF a1).ex k)
    obtain ⟨D0, hD0⟩ : ∃ F : Nat → E, (fun k => eo (nth z k)) = F := ⟨_, rfl⟩
    rw [hD0] at HPA
    obtain ⟨f, hf1, hf2⟩ := cr_pr D0 (k := la) (by omega)
    have q3 : ((N : Int) != (N : Int)) = false := by simp
    by_cases h2 : 12 < N
    · clear ha hn hb hc HP HM h1 hD0
      go_enter Try.func4, Try.ntmps4
      go_wp2_with (first
        | (go_at_call 11; (with_reducible refine (HY.out _).mono ?_); rintro e w1 ⟨rfl, hw1⟩)
        | (go_at_call 12; (with_reducible refine (HPA.out _ hw1).mono ?_); rintro e w2 ⟨g2, c2, rfl, hc2, hR2, _, hw2⟩))
      go_ret
      exact ⟨rfl, hw1.trans hw2⟩
    obtain ⟨E0, hE0⟩ : ∃ E0 : Nat, (N - la) / 2 = E0 := ⟨_, rfl⟩
    have hq1 : ((N : Int) - (la : Int)) / 2 = (E0 : Int) := by omega
    have hq2 : Int.tdiv ((N : Int) - (la : Int)) 2 = (E0 : Int) := by rw [Int.tdiv_eq_ediv_of_nonneg (by omega)]; exact hq1
    obtain ⟨T, hT⟩ : ∃ T, min (min lc lb) E0 = T := ⟨_, rfl⟩
    have hTT : T ≤ lc ∧ T ≤ lb ∧ T ≤ E0 := by omega
    have HME : Hid (∀ V, 2 * ms (cr la D0) V (List.range N) + la ≤ N → ∀ a2 c2 w2, N ≤ c2 → c2 ≤ 9223372036854775807 → ReadsF w2 a2 N V → Calls Try.prog 7 #[.slice a2 N c2, .int .i64 (la : Int)] w2 (VecM N (cr la D0) (ms (cr la D0) V (List.range N)) w2)) := Lib.hid fun V hV a2 c2 w2 g1 g2 g3 => by
      have e : (fun t => pv f (bn t)) = cr la D0 := hf2
      have := HM.some (V := V) (f := f) a1 hlaN (by omega) g1 g2 g3 ⟨hf1, by rw [e]; exact hV⟩
      rwa [hf2] at this
    obtain ⟨R, hR⟩ : ∃ R, cr la D0 = R := ⟨_, rfl⟩
    rw [hR] at HPA HME
    have HCL := Lib.hid fun g c w (h : RowB w g N R) => clone_bytes R N g 0 c w (by omega) (by omega) (fun k hk => by rw [Nat.zero_add]; exact h.1 k hk)
    have HEQ := Lib.hid fun a2 c2 a3 c3 w2 (h1 : ReadsF w2 a2 N R) (h2 : ReadsF w2 a3 N R) => equal_rows (ca := c2) (cb := c3) (by omega) h1 h2
    have HC := Lib.hid hc
    have HB := Lib.hid hb
    have HWI := Lib.hid fun at' w2 => within_any at' N w2 (by omega) (by omega)
    have HTM := Lib.hid hT
    have HE9 := Lib.hid hE0
    clear ha hn hb hc HP HM h1 hD0 hR hf1 hf2 hT
    go_enter Try.func4, Try.ntmps4
    go_upto_region 7 with (first
      | (go_at_call 11; (with_reducible refine (HY.out _).mono ?_); rintro e w1 ⟨rfl, hw1⟩)
      | (go_at_call 12; (with_reducible refine (HPA.out _ hw1).mono ?_); rintro e w2 ⟨g2, c2, rfl, hc2, hR2, _, hw2⟩)
      | (go_at_call 13; (with_reducible refine (HCL.out _ _ _ hR2.out.2).mono ?_); rintro e w3 ⟨v3, rfl, hr3, hw3⟩))
    obtain ⟨g3, c3, rfl, hg31, hg32, hc31, hc32, hrb3⟩ := hr3.out.rowB (by omega)
    unfold maxLen at hc32
    have HX3 := Lib.hid ((hw1.trans hw2).trans hw3)
    have HR2 : Hid (RowB w3 g2 N R) := Lib.hid (hR2.out.2.ex (by omega) hw3)
    have HR3 := Lib.hid hrb3
    have hg2 : g2 < w2.heap.size := World.block_lt_of_cell? w2 ⟨g2, 0, none⟩ (hR2.out.2.1 0 (by omega))
    have hg3 : w.heap.size ≤ g3 := by have := hw1.size; have := hw2.size; omega
    have hne : g3 ≠ g2 := by omega
    clear hr3 hrb3 hw1 hw2 hw3 hR2 HCL HPA HY
    have hcn : c = none → lc = 0 ∧ cc = 0 := fun h => by have := HC.out.2.2.2.2.1 h; omega
    go_cut [58, 59, 60] (fun v58 v59 v60 wx => v58 = .slice c T cc ∧ v59 = .int .i64 (T : Int) ∧ v60 = .int .i64 0 ∧ w3 = wx)
    case first =>
      have HTT := HTM.out
      clear HTM HE9 HME HEQ HWI HB HR2 HR3 HX3
      cases c with
      | none =>
        obtain ⟨rfl, rfl⟩ := hcn rfl
        obtain rfl : T = 0 := by omega
        clear hcn HC
        by_cases g2 : E0 < 0
        · omega
        · go_wp2
          go_meet
          exact ⟨rfl, rfl, rfl, rfl⟩
      | some ad =>
        clear hcn HC
        by_cases g1 : lb < lc
        · by_cases g2 : E0 < lb
          · obtain rfl : T = E0 := by omega
            clear HTT
            go_wp2
            go_meet
            exact ⟨rfl, rfl, rfl, rfl⟩
          · obtain rfl : T = lb := by omega
            clear HTT
            go_wp2
            go_meet
            exact ⟨rfl, rfl, rfl, rfl⟩
        · by_cases g2 : E0 < lc
          · obtain rfl : T = E0 := by omega
            clear HTT
            go_wp2
            go_meet
            exact ⟨rfl, rfl, rfl, rfl⟩
          · obtain rfl : T = lc := by omega
            clear HTT
            go_wp2
            go_meet
            exact ⟨rfl, rfl, rfl, rfl⟩
    case rest =>
    obtain ⟨rfl, rfl, rfl, rfl⟩ := hcut
    have HMSU : Hid (∀ V p e, p < N → ms R (updF V p e) (List.range N) ≤ ms R V (List.range N) + 1) := Lib.hid fun V p e h => by
      have := ms_updF R V p e N
      rwa [if_pos h] at this
    have HMS0 : Hid (ms R R (List.range N) ≤ 0) := Lib.hid (by unfold ms; simp)
    have hT9 := hTT.2.2
    clear hcn
    go_wp2
    go_loopg [60] T (fun m v60 wr => ∃ (i : Nat) (V : Nat → E), i ≤ T ∧ v60 = .int .i64 (i : Int) ∧ Hid (RowB wr g3 N V) ∧ Hid (ms R V (List.range N) ≤ i) ∧ Hid (m = T - i) ∧ Hid (Mo1 g3 w3 wr))
    case atStart => exact ⟨0, R, by omega, rfl, HR3, HMS0, Lib.hid rfl, Lib.hid (Mo1.refl _ _)⟩
    case round =>
      obtain ⟨i, V, hi, rfl, hV, hmv, hm, hmo⟩ := hrel
      have hX := Mo1.ex HX3.out hmo.out hg3
      have hR := HR2.out.moB (by omega) hmo.out hne.symm
      by_cases hlt : i < T
      · rcases HC.out.2.2.2.1 with hn0 | ⟨gc, oc, rfl, hcc2⟩
        · have := HC.out.1; rw [hn0] at this; simp at this; omega
        rcases HB.out.2.2.2.1 with hn0 | ⟨gb, ob, rfl, hbb2⟩
        · have := HB.out.1; rw [hn0] at this; simp at this; omega
        have pc := hX.cell (hcc2 i (by have := HC.out.1; omega))
        have pb := hX.cell (hbb2 i (by have := HB.out.1; omega))
        have hxb := wf_u8 (HB.out.2.2.2.2.2 _ (nth_mem (xs := x) (i := i) (by have := HB.out.1; omega)))
        obtain ⟨X, hXe⟩ : ∃ X : E, eo (nth x i) = X := ⟨_, rfl⟩
        have hXv : nth x i = ((X.v : Nat) : Int) := by rw [← hXe]; exact (eo_v hxb.1 hxb.2).symm
        rw [hXv] at pb
        have hyb := wf_i64 (HC.out.2.2.2.2.2 _ (nth_mem (xs := y) (i := i) (by have := HC.out.1; omega)))
        obtain ⟨at', hat⟩ : ∃ at', nth y i = at' := ⟨_, rfl⟩
        rw [hat] at pc hyb
        obtain ⟨P, hP⟩ : ∃ P : Nat, at' % (N : Int) = (P : Int) := ⟨(at' % (N : Int)).toNat, by have := Int.emod_nonneg at' (b := (N : Int)) (by omega); omega⟩
        have hPN : P < N := by have := Int.emod_lt_of_pos at' (b := (N : Int)) (by omega); omega
        have hwi := HWI.out at'
        rw [hP] at hwi
        have HW1 := Lib.hid hwi
        have HXY := xor_u8_nat (R P).v X.v (R P).lt X.lt
        have HXY2 : bits .xor .u8 (((R P).v : Nat) : Int) ((X.v : Nat) : Int) = (((R P + X).v : Nat) : Int) := HXY
        have hmu := HMSU.out V P (R P + X) hPN
        have HMU : Hid (ms R (updF V P (R P + X)) (List.range N) ≤ i + 1) := Lib.hid (by have := hmv.out; omega)
        have pr1 := hR.1 P hPN
        have pf := hV.out.2 P
        have pv1 := hV.out.1 P hPN
        have Rl := (R P).lt
        have Xl := X.lt
        have Sl := (R P + X).lt
        obtain ⟨S, hS⟩ : ∃ S, R P + X = S := ⟨_, rfl⟩
        rw [hS] at HXY2 HMU Sl
        obtain ⟨r, hr⟩ : ∃ r, R P = r := ⟨_, rfl⟩
        rw [hr] at HXY2 pr1 Rl
        have k1 : ∀ x' : Kp (fun w2 => Ex wr w2), x'.val.cell? ⟨g2, P, none⟩ = some (.int .u8 ((r.v : Nat) : Int)) := fun x' => x'.ok.cell pr1
        have k2 : ∀ x' : Kp (fun w2 => Ex wr w2), x'.val.cell? ⟨gb, ob + i, none⟩ = some (.int .u8 ((X.v : Nat) : Int)) := fun x' => x'.ok.cell pb
        haveI : Nonempty (Kp (fun w2 => Ex wr w2)) := ⟨⟨wr, Ex.refl wr⟩⟩
        have hd : Ex wr wr.drew := (Ex.refl wr).drew
        clear hwi HXY hmu hXe hXv hxb hr hS pr1 pb hR hX hcc2 hbb2 hat hP
        go_wp2
        refine wp_region_scrT (fun w2 => ∃ x : Kp (fun w2 => Ex wr w2), w2 = x.val) 16 (.take 0 (.take 1 (.take 2 (.take 4 (.take 5 (.take 6 (.take 10 (.take 11 (.take 12 (.take 13 (.one 3 (.one 7 (.take 8 (.take 9 (.take 14 (.take 15 (.fin))))))))))))))))) (by kernel_rfl) (by kernel_rfl) (by intro _ _ d _ _ h; cases d <;> exact h) ⟨⟨_, (by exact hd)⟩, rfl⟩ ?_
        generalize wr.drew = wd at hd ⊢
        simp only [fillS, List.getD_cons_zero, List.getD_cons_succ]
        repeat' (first
          | ((with_reducible refine wpScr_pure ?_); go_big_quiet_step (fail); (with_reducible refine scrQ_on ?_))
          | ((with_reducible refine wpScr_turn ?_); intro K hK; go_wp2_with (first | fail |(go_at_call 14; (with_reducible refine (HW1.out _).mono ?_); rintro e w' ⟨rfl, rfl⟩)); refine hK _ _ ⟨⟨_, (by exact hd)⟩, rfl⟩ ?_; clear hK K)
          | (with_reducible refine wpScr_two ?_ ?_)
          | (with_reducible refine wpScr_three ?_ ?_ ?_)
          | (with_reducible refine wpScr_nil ?_))
        all_goals simp only [tailQ, List.drop_succ_cons, List.drop_zero]
        have pv2 := hd.cell pv1
        have hfz := (hV.out.ex (by omega) hd).2 P
        have HVN : Hid (RowB (wd.setCell ⟨g3, P, none⟩ (.int .u8 ((S.v : Nat) : Int))) g3 N (updF V P S)) := Lib.hid ((hV.out.ex (by omega) hd).set hPN S)
        have HMN : Hid (Mo1 g3 w3 (wd.setCell ⟨g3, P, none⟩ (.int .u8 ((S.v : Nat) : Int)))) := Lib.hid ((hmo.out.trans (Mo1.of hd)).set P _)
        clear k1 k2 pv1 pf
        go_wp2
        go_roundg (T - (i + 1))
        case measure => have := hm.out; omega
        case rel => exact ⟨i + 1, updF V P S, by omega, by go_num, HVN, HMU, Lib.hid rfl, HMN⟩
      · have e : i = T := by omega
        subst e
        have HVF : Hid (ReadsF wr (some ⟨g3, 0, none⟩) N V) := Lib.hid ⟨g3, 0, rfl, fun k hk => by rw [Nat.zero_add]; exact hV.out.1 k hk⟩
        have HRF : Hid (ReadsF wr (some ⟨g2, 0, none⟩) N R) := Lib.hid ⟨g2, 0, rfl, fun k hk => by rw [Nat.zero_add]; exact hR.1 k hk⟩
        have hm9 := hmv.out
        have hE9 := HE9.out
        have HME2 := Lib.hid (HME.out V (by omega))
        have HMS := Lib.hid fun j => ms_snoc V R j
        have HMC := Lib.hid (ms_comm R V (List.range N))
        have HXr := Lib.hid hX
        have HVC := Lib.hid hV.out.1
        have HRC := Lib.hid hR.1
        clear HMSU HMS0 HWI HC HB HME hV hR hX hmo hm hmv HR2 HR3 HX3 HE9 HTM hE0 hE9 hm9
        rename World => wq
        go_wp2
        go_loopg [14, 84] N (fun m v14 v84 wr => ∃ j d : Nat, j ≤ N ∧ d ≤ j ∧ v14 = .int .i64 (d : Int) ∧ v84 = .int .i64 (j : Int) ∧ Hid (d = ms V R (List.range j)) ∧ Hid (m = N - j) ∧ Ex wq wr)
        case atStart => exact ⟨0, 0, by omega, by omega, rfl, rfl, Lib.hid rfl, Lib.hid rfl, Ex.refl _⟩
        case round =>
          obtain ⟨j, d, hj, hdj, rfl, rfl, hdm, hm, hx⟩ := hrel
          by_cases hjn : j < N
          · have p1 := hx.cell (HVC.out j hjn)
            have p2 := hx.cell (HRC.out j hjn)
            have hst := HMS.out j
            have ul := (V j).lt
            have vl := (R j).lt
            obtain ⟨u, hue⟩ : ∃ u, (V j).v = u := ⟨_, rfl⟩
            obtain ⟨v, hve⟩ : ∃ v, (R j).v = v := ⟨_, rfl⟩
            rw [hue] at p1 ul hst
            rw [hve] at p2 vl hst
            rw [← hdm.out] at hst
            have c0 : ∀ x' : Wo wr, x'.val.cell? ⟨g3, j, none⟩ = some (.int .u8 (u : Int)) := so_cell p1
            have c1 : ∀ x' : Wo wr, x'.val.cell? ⟨g2, j, none⟩ = some (.int .u8 (v : Int)) := so_cell p2
            by_cases hxy : u = v
            · subst hxy
              have HST : Hid (d = ms V R (List.range (j + 1))) := Lib.hid (by rw [hst, if_pos rfl]; rfl)
              clear hst hue hve p1 p2
              go_wp2
              refine wp_region_wo (by kernel_rfl) (by kernel_rfl) ?_
              repeat (go_big_quiet_step (fail))
              refine wpQuiet_nil ?_
              rintro _ ⟨⟨w5, hw5⟩, rfl⟩
              go_wp2
              go_roundg (N - (j + 1))
              case measure => have := hm.out; omega
              case rel => exact ⟨j + 1, d, by omega, by omega, rfl, by go_num, HST, Lib.hid rfl, hx.trans hw5⟩
            · have HST : Hid (d + 1 = ms V R (List.range (j + 1))) := Lib.hid (by rw [hst, if_neg hxy])
              have g0 : ((u : Int) != (v : Int)) = true := bne_iff_ne.mpr (by omega)
              clear hst hue hve p1 p2
              go_wp2
              refine wp_region_wo (by kernel_rfl) (by kernel_rfl) ?_
              repeat (go_big_quiet_step (fail))
              refine wpQuiet_nil ?_
              rintro _ ⟨⟨w5, hw5⟩, rfl⟩
              go_wp2
              go_roundg (N - (j + 1))
              case measure => have := hm.out; omega
              case rel => exact ⟨j + 1, d + 1, by omega, by omega, by go_num, by go_num, HST, Lib.hid rfl, hx.trans hw5⟩
          · have e : j = N := by omega
            subst e
            have hM : ms R V (List.range j) = d := by rw [HMC.out, ← hdm.out]
            rw [hM] at HME2
            go_wp2_with (first
              | (go_at_call 7; (with_reducible refine (HME2.out _ _ _ (by omega) (by omega) (HVF.out.ex hx)).mono ?_); rintro e w5 ⟨a5, c5, rfl, hc5, hr5, hw5⟩)
              | (go_at_call 10; (with_reducible refine (HEQ.out _ _ _ _ _ hr5.out (HRF.out.ex (hx.trans hw5))).mono ?_); rintro e w6 ⟨rfl, hw6⟩))
            go_ret
            exact ⟨rfl, ((HXr.out.trans hx).trans hw5).trans hw6⟩
  · have HPA := Lib.hid fun w2 (k : Ex w w2) => HP.not (ha.ex k) (wf_int' hn) h1
    obtain ⟨t, ht⟩ : ∃ t, rpE la n = t := ⟨_, rfl⟩
    rw [ht] at HPA h1
    have q2 : (t != 0) = true := by simpa using h1
    clear ha hn hb hc HP HM h1 ht
    go_enter Try.func4, Try.ntmps4
    go_wp2_with (first
      | (go_at_call 11; (with_reducible refine (HY.out _).mono ?_); rintro e w1 ⟨rfl, hw1⟩)
      | (go_at_call 12; (with_reducible refine (HPA.out _ hw1).mono ?_); rintro e w2 ⟨a2, c2, rfl, hw2⟩))
    go_ret
    exact ⟨rfl, hw1.trans hw2⟩

end Go.Proofs.Ytjccpfpldbjcbaa
