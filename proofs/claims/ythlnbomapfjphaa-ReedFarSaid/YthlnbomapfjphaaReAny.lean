/-
  What reed.Mend answers, as a structure of contracts; ReedAny.
-/
import Derived.Test.YthlnbomapfjphaaReD
import Derived.Test.YthlnbomapfjphaaReSums
import Derived.Test.YthlnbomapfjphaaReCells
namespace Go.Proofs.Ythlnbomapfjphaa
open Go.RowKit
open Gf

theorem sB_lt (s : Nat) (F : Nat → E) (i : Nat) : sB s F i < 256 := by
  unfold sB
  split
  · exact (F i).lt
  · omega
theorem sB_at {s : Nat} {F : Nat → E} {i : Nat} (h : sH s i = true) : sB s F i = (F i).v := by
  unfold sH at h
  unfold sB
  rw [if_pos (of_decide_eq_true h)]

set_option maxRecDepth 100000 in
set_option maxHeartbeats 4000000 in
theorem reedAny_of (HP : RePutC) (HM : MendC) (a : Option Addr) (la ca : Nat) (z : List Int) (n s : Int) (w : World) (ha : IsInts .u8 1 w a la ca z) (hn : I64 n) (hs : 0 ≤ s ∧ s ≤ 4294967295) :
    Calls Try.prog 4 #[.slice a la ca, .int .i64 n, .int .u32 s] w (Says (.bool true) w) := by
  have HY := Lib.hid fun w => rows_yes HP w
  by_cases h1 : rpE la n = 0
  · obtain ⟨a1, a2, a3⟩ := rpE_zero.mp h1
    obtain ⟨N, rfl⟩ : ∃ N : Nat, n = (N : Int) := ⟨n.toNat, by omega⟩
    obtain ⟨S, rfl⟩ : ∃ S : Nat, s = (S : Int) := ⟨s.toNat, by omega⟩
    have hca := ha.2.1
    have hca2 : ca ≤ 9223372036854775807 := by have := ha.2.2.1; omega
    have hlaN : la ≤ N := by omega
    have hN : N ≤ 20 := by omega
    have HPA := Lib.hid fun w2 (k : Ex w w2) => HP.ok (k := la) (n := N) a1 (by omega) (by omega) hca hca2 ((ha.vecF a1).ex k)
    obtain ⟨F, hF⟩ : ∃ F : Nat → E, (fun k => eo (nth z k)) = F := ⟨_, rfl⟩
    rw [hF] at HPA
    have hzz : bl (cr la F) la = z := by
      have e1 : bl (cr la F) la = bl F la := by
        unfold bl
        exact List.map_congr_left fun i hi => by rw [cr_at (by omega) (List.mem_range.mp hi)]
      rw [e1, ← hF, ← ha.1]
      exact bl_of fun x hx => wf_u8 (ha.2.2.2.2.2 x hx)
    have HCE := Lib.hid fun a2 c2 w2 (h : ReadsF w2 a2 N (cr la F)) => cells_any (cr la F) N a2 c2 S w2 (by omega) hN h
    have HRD : Hid (∀ w2, Ex w w2 → Reads w2 .u8 a z) := Lib.hid fun w2 k => ha.2.2.2.1.ex k
    have hzl := ha.1
    have HE1 : Hid (∀ w2 a2 c2 a3 c3, ReadsF w2 a2 N (cr la F) → ReadsF w2 a3 N (cr la F) → Calls Try.prog 15 #[.slice a2 N c2, .slice a3 N c3] w2 (Says (.bool true) w2)) := Lib.hid fun w2 a2 c2 a3 c3 h2 h3 => by
      have := bytes_equal _ _ a2 a3 c2 c3 w2 (by rw [bl_length]; unfold maxLen; omega) (by rw [bl_length]; unfold maxLen; omega) h2.reads h3.reads true (by simp)
      rw [bl_length] at this
      exact this
    have HE2 : Hid (∀ w2 a2 c2, Ex w w2 → ReadsF w2 a2 N (cr la F) → Calls Try.prog 15 #[.slice a2 la c2, .slice a la ca] w2 (Says (.bool true) w2)) := Lib.hid fun w2 a2 c2 k h2 => by
      have h3 : ReadsF w2 a2 la (cr la F) := by
        obtain ⟨b, off, e, h⟩ := h2
        exact ⟨b, off, e, fun k hk => h k (by omega)⟩
      have := bytes_equal _ z a2 a c2 ca w2 (by rw [bl_length]; unfold maxLen; omega) (by rw [hzl]; unfold maxLen; omega) h3.reads (HRD.out w2 k) true (by rw [hzz]; simp)
      rw [bl_length, hzl] at this
      exact this
    have HCL := Lib.hid (cnt_le (sH S))
    have HCS := Lib.hid (cnt_succ (sH S))
    have HOK := Lib.hid fun a2 c2 w2 (h1 : N ≤ c2) (h2 : c2 ≤ 9223372036854775807) (h3 : ReadsC w2 a2 N (sH S) (sB S (cr la F))) (h4 : la ≤ cnt (sH S) N) => HM.ok h1 h2 h3 (sB_lt S _) hN a1 hlaN h4 (fun i _ h => sB_at h)
    have HFEW := Lib.hid fun a2 c2 w2 (h1 : N ≤ c2) (h2 : c2 ≤ 9223372036854775807) (h3 : ReadsC w2 a2 N (sH S) (sB S (cr la F))) (h4 : cnt (sH S) N < la) => HM.few h1 h2 h3 (sB_lt S _) hN a1 hlaN h4
    obtain ⟨H, hH⟩ : ∃ H, sH S = H := ⟨_, rfl⟩
    obtain ⟨B, hB⟩ : ∃ B, sB S (cr la F) = B := ⟨_, rfl⟩
    rw [hH] at HCE HCL HCS HOK HFEW
    rw [hB] at HCE HOK HFEW
    obtain ⟨R, hR⟩ : ∃ R, cr la F = R := ⟨_, rfl⟩
    rw [hR] at HPA HCE HE1 HE2 HOK
    have hc0 : cnt H 0 = 0 := rfl
    have hS : S < 4294967296 := by omega
    clear ha hn HM HP h1 hF hzz HRD hzl hH hB hR hs
    go_enter Try.func4, Try.ntmps4
    by_cases h4 : cnt H N < la
    · have p1 : decide ((cnt H N : Int) < (la : Int)) = true := decide_eq_true (by omega)
      go_wp2_with (first
        | (go_at_call 20; (with_reducible refine (HY.out _).mono ?_); rintro e w1 ⟨rfl, hw1⟩)
        | (go_at_call 13; (with_reducible refine (HPA.out _ hw1).mono ?_); rintro e w2 ⟨a2, c2, rfl, hc2, hR2, hw2⟩
           have hx2 := hw1.trans hw2
           clear HPA)
        | (go_at_call 21; (with_reducible refine (HCE.out _ _ _ hR2.out).mono ?_); rintro e w3 ⟨a3, c3, rfl, hc3, hR3, hw3⟩
           have hx3 := hx2.trans hw3
           clear HCE)
        | (go_at_call 14; (with_reducible refine (HFEW.out _ _ _ hc3.out.1 hc3.out.2 hR3.out h4).mono ?_); rintro e w4 ⟨a4, c4, rfl, hw4⟩
           have hx4 := hx3.trans hw4))
      rcases hR3.out with h0 | ⟨b, off, rfl, hcc⟩
      · omega
      have HCC : Hid (∀ i, i < N → w4.cell? ⟨b, off + i * 2, none⟩ = some (.bool (H i)) ∧ w4.cell? ⟨b, off + i * 2 + 1, none⟩ = some (.int .u8 (B i : Int))) := Lib.hid fun i hi => ⟨hw4.cell (hcc i hi).1, hw4.cell (hcc i hi).2⟩
      clear hcc hR3
      go_loopg [12, 40] N (fun k v12 v40 wr => ∃ j : Nat, j ≤ N ∧ v12 = .int .i64 (cnt H j : Int) ∧ v40 = .int .i64 (j : Int) ∧ Hid (k = N - j) ∧ Ex w4 wr)
      case atStart => exact ⟨0, by omega, by rw [hc0]; rfl, rfl, Lib.hid rfl, Ex.refl _⟩
      case round =>
        obtain ⟨j, hj, rfl, rfl, hk, hx⟩ := hrel
        have hcl := HCL.out j
        by_cases hlt : j < N
        · have hcs := HCS.out j
          have k0 := hx.cell (HCC.out j hlt).1
          have k1 := hx.cell (HCC.out j hlt).2
          have HCN := Lib.hid (Cel.new 36 wr (H j) (B j : Int))
          have d0 := HCN.out.c0
          have d1 := HCN.out.c1
          have HC0 := Lib.hid (Cel.new 36 wr false 0)
          have e0 := HC0.out.c0
          have e1 := HC0.out.c1
          have f0 := HC0.out.free 0
          have f1 := HC0.out.free 1
          obtain ⟨y, hy⟩ : ∃ y, B j = y := ⟨_, rfl⟩
          rw [hy] at k1 d0 d1 HCN
          have HX1 := Lib.hid (hx.alloc (.cells #[.bool (H j), .int .u8 (y : Int)] 36))
          clear hy
          cases hh : H j
          · rw [hh] at k0 d0 d1 hcs HX1 HCN
            rw [if_neg (by simp)] at hcs
            have hcs := Lib.hid hcs
            clear hh
            go_wp2
            go_roundg (N - (j + 1))
            case measure => have := hk.out; omega
            case rel => exact ⟨j + 1, by omega, by rw [hcs.out], by go_num, Lib.hid rfl, HX1.out⟩
          · rw [hh] at k0 d0 d1 hcs HX1 HCN
            rw [if_pos rfl] at hcs
            have hcs := Lib.hid hcs
            clear hh
            go_wp2
            go_roundg (N - (j + 1))
            case measure => have := hk.out; omega
            case rel => exact ⟨j + 1, by omega, by rw [hcs.out]; go_num, by go_num, Lib.hid rfl, HX1.out⟩
        · have e : j = N := by omega
          subst e
          go_wp2
          go_ret
          exact ⟨rfl, hx4.trans hx⟩
    · have p1 : decide ((cnt H N : Int) < (la : Int)) = false := decide_eq_false (by omega)
      have h5 : la ≤ cnt H N := by omega
      go_wp2_with (first
        | (go_at_call 20; (with_reducible refine (HY.out _).mono ?_); rintro e w1 ⟨rfl, hw1⟩)
        | (go_at_call 13; (with_reducible refine (HPA.out _ hw1).mono ?_); rintro e w2 ⟨a2, c2, rfl, hc2, hR2, hw2⟩
           have hx2 := hw1.trans hw2
           clear HPA)
        | (go_at_call 21; (with_reducible refine (HCE.out _ _ _ hR2.out).mono ?_); rintro e w3 ⟨a3, c3, rfl, hc3, hR3, hw3⟩
           have hx3 := hx2.trans hw3
           clear HCE)
        | (go_at_call 14; (with_reducible refine (HOK.out _ _ _ hc3.out.1 hc3.out.2 hR3.out h5).mono ?_); rintro e w4 ⟨a4, c4, rfl, hc4, hR4, hw4⟩
           have hx4 := hx3.trans hw4))
      have hR2 := Lib.hid (hR2.out.ex (hw3.trans hw4))
      have hq2 : la ≤ c2 := by have := hc2.out.1; omega
      rcases hR3.out with h0 | ⟨b, off, rfl, hcc⟩
      · omega
      have HCC : Hid (∀ i, i < N → w4.cell? ⟨b, off + i * 2, none⟩ = some (.bool (H i)) ∧ w4.cell? ⟨b, off + i * 2 + 1, none⟩ = some (.int .u8 (B i : Int))) := Lib.hid fun i hi => ⟨hw4.cell (hcc i hi).1, hw4.cell (hcc i hi).2⟩
      clear hcc hR3
      go_loopg [12, 40] N (fun k v12 v40 wr => ∃ j : Nat, j ≤ N ∧ v12 = .int .i64 (cnt H j : Int) ∧ v40 = .int .i64 (j : Int) ∧ Hid (k = N - j) ∧ Ex w4 wr)
      case atStart => exact ⟨0, by omega, by rw [hc0]; rfl, rfl, Lib.hid rfl, Ex.refl _⟩
      case round =>
        obtain ⟨j, hj, rfl, rfl, hk, hx⟩ := hrel
        have hcl := HCL.out j
        by_cases hlt : j < N
        · have hcs := HCS.out j
          have k0 := hx.cell (HCC.out j hlt).1
          have k1 := hx.cell (HCC.out j hlt).2
          have HCN := Lib.hid (Cel.new 36 wr (H j) (B j : Int))
          have d0 := HCN.out.c0
          have d1 := HCN.out.c1
          have HC0 := Lib.hid (Cel.new 36 wr false 0)
          have e0 := HC0.out.c0
          have e1 := HC0.out.c1
          have f0 := HC0.out.free 0
          have f1 := HC0.out.free 1
          obtain ⟨y, hy⟩ : ∃ y, B j = y := ⟨_, rfl⟩
          rw [hy] at k1 d0 d1 HCN
          have HX1 := Lib.hid (hx.alloc (.cells #[.bool (H j), .int .u8 (y : Int)] 36))
          clear hy
          cases hh : H j
          · rw [hh] at k0 d0 d1 hcs HX1 HCN
            rw [if_neg (by simp)] at hcs
            have hcs := Lib.hid hcs
            clear hh
            go_wp2
            go_roundg (N - (j + 1))
            case measure => have := hk.out; omega
            case rel => exact ⟨j + 1, by omega, by rw [hcs.out], by go_num, Lib.hid rfl, HX1.out⟩
          · rw [hh] at k0 d0 d1 hcs HX1 HCN
            rw [if_pos rfl] at hcs
            have hcs := Lib.hid hcs
            clear hh
            go_wp2
            go_roundg (N - (j + 1))
            case measure => have := hk.out; omega
            case rel => exact ⟨j + 1, by omega, by rw [hcs.out]; go_num, by go_num, Lib.hid rfl, HX1.out⟩
        · have e : j = N := by omega
          subst e
          go_wp2_with (first
            | (go_at_call 15; (with_reducible refine (HE1.out _ _ _ _ _ (hR4.out.ex hx) (hR2.out.ex hx)).mono ?_); rintro e w5 ⟨rfl, hw5⟩
               clear HE1)
            | (go_at_call 15; (with_reducible refine (HE2.out _ _ _ (hx4.trans (hx.trans hw5)) (hR2.out.ex (hx.trans hw5))).mono ?_); rintro e w6 ⟨rfl, hw6⟩))
          go_ret
          exact ⟨rfl, hx4.trans (hx.trans (hw5.trans hw6))⟩
  · have HPA := Lib.hid fun w2 (k : Ex w w2) => HP.not (ha.ex k) (wf_int' hn) h1
    obtain ⟨t, ht⟩ : ∃ t, rpE la n = t := ⟨_, rfl⟩
    rw [ht] at HPA h1
    have q2 : (t != 0) = true := by simpa using h1
    clear ha hn HP HM h1 ht
    go_enter Try.func4, Try.ntmps4
    go_wp2_with (first
      | (go_at_call 20; (with_reducible refine (HY.out _).mono ?_); rintro e w1 ⟨rfl, hw1⟩)
      | (go_at_call 13; (with_reducible refine (HPA.out _ hw1).mono ?_); rintro e w2 ⟨a2, c2, rfl, hw2⟩
         have hx2 := hw1.trans hw2
         clear HPA))
    go_ret
    exact ⟨rfl, hx2⟩

end Go.Proofs.Ythlnbomapfjphaa
