/-
  wholekeep.welches; WelchTells, by contracts.
-/
import Derived.Test.YtjccpfpldbjcbaaGwe
namespace Go.Proofs.Ytjccpfpldbjcbaa
open Go.RowKit
open Gf

def e8 : E := ⟨8, by decide⟩
theorem ms_578 : ms (cr 2 l57) (updF (cr 2 l57) 2 e8) (List.range 4) = 1 := by decide +kernel
theorem cr_pr (F : Nat → E) {k : Nat} (hk : k ≤ 256) : ∃ f : List E, f.length ≤ k ∧ pr f = cr k F := by
  obtain ⟨f, h1, _, h3⟩ := cr_poly F hk
  exact ⟨f, h1, funext fun t => (h3 t).symm⟩
/-- A polynomial's row is that of its own first values. -/
theorem cr_own {f : List E} {k : Nat} (hk : k ≤ 256) (hf : f.length ≤ k) : cr k (pr f) = pr f := funext fun t => cr_of hk hf (fun _ _ => rfl) t

set_option maxRecDepth 100000 in
set_option maxHeartbeats 1000000 in
theorem welches_yes (HP : RePutC) (HM : WeMendC) (w : World) : Calls Try.prog 11 #[] w (Says (.bool true) w) := by
  obtain ⟨f, hf1, hf2⟩ := cr_pr l57 (k := 2) (by decide)
  have hnf : NearF 4 2 (updF (cr 2 l57) 2 e8) f := ⟨hf1, by
    have e : (fun t => pv f (bn t)) = cr 2 l57 := hf2
    rw [e, ms_578]
    decide⟩
  have hms : ms (pr f) (updF (cr 2 l57) 2 e8) (List.range 4) = 1 := by rw [hf2]; exact ms_578
  have HPU : Hid (Calls Try.prog 12 #[.slice (some ⟨w.heap.size, 0, none⟩) 2 2, .int .i64 4] (w.alloc (.cells #[.int .u8 5, .int .u8 7] 5)) (VecO 4 (cr 2 l57) (w.alloc (.cells #[.int .u8 5, .int .u8 7] 5)))) := Lib.hid (HP.own (F := l57) (k := 2) (n := 4) (a := some ⟨w.heap.size, 0, none⟩) (ca := 2) (w := w.alloc (.cells #[.int .u8 5, .int .u8 7] 5)) (by decide) (by decide) (by decide) (by decide) (by decide) (lit_57 w 5))
  have HME : Hid (∀ a c w, 4 ≤ c → c ≤ 9223372036854775807 → ReadsF w a 4 (updF (cr 2 l57) 2 e8) → Calls Try.prog 7 #[.slice a 4 c, .int .i64 2] w (VecM 4 (cr 2 l57) 1 w)) := Lib.hid fun a c w h1 h2 h => by
    have := HM.some (k := 2) (a := a) (ca := c) (w := w) (by decide) (by decide) (by decide) h1 h2 h hnf
    rw [hms, hf2] at this
    exact this
  have h2v := cr_57.2.2
  clear HP HM hnf hms hf1 hf2
  go_enter Try.func11, Try.ntmps11
  go_upto_region 4 with (go_at_call 12; (with_reducible refine (HPU.out).mono ?_); rintro e w1 ⟨g, c, rfl, hc, hR, _, hw1⟩)
  have r0 := hR.out.2.1 2 (by decide)
  have r1 := hR.out.2.2 2
  rw [h2v] at r0
  have hg : w.heap.size ≤ g := by have := hR.out.1; simp at this; omega
  have hx1 : Ex w w1 := ((Ex.refl w).alloc _).trans hw1
  have HX2 := Lib.hid (hx1.setCell (p := ⟨g, 2, none⟩) hg (.int .u8 8))
  have HR2 : Hid (RowB (w1.setCell ⟨g, 2, none⟩ (.int .u8 8)) g 4 (updF (cr 2 l57) 2 e8)) := Lib.hid (hR.out.2.set (by decide) e8)
  have hxy : bits .xor .u8 1 9 = 8 := by decide +kernel
  go_upto_region 6 with fail
  generalize w1.setCell ⟨g, 2, none⟩ (.int .u8 8) = w2 at *
  have HRF : Hid (ReadsF w2 (some ⟨g, 0, none⟩) 4 (updF (cr 2 l57) 2 e8)) := Lib.hid ⟨g, 0, rfl, fun k hk => by rw [Nat.zero_add]; exact HR2.out.1 k hk⟩
  go_wp2_with (go_at_call 7; (with_reducible refine (HME.out _ _ _ hc.out.1 hc.out.2 HRF.out).mono ?_); rintro e w3 ⟨a3, c3, rfl, hc3, hr3, hw3⟩
               obtain ⟨b3, o3, rfl, hq3⟩ := hr3.out
               have q3 := hq3 2 (by decide)
               rw [h2v] at q3
               clear hq3)
  go_ret
  exact ⟨rfl, HX2.out.trans hw3⟩

set_option maxRecDepth 100000 in
set_option maxHeartbeats 2000000 in
theorem welchTells_of (HP : RePutC) (HM : WeMendC) (a : Option Addr) (la ca : Nat) (z : List Int) (k : Int) (w : World) (ha : IsInts .u8 1 w a la ca z) (hk : I64 k) :
    Calls Try.prog 5 #[.slice a la ca, .int .i64 k] w (Says (.bool true) w) := by
  have HY := Lib.hid fun w => welches_yes HP HM w
  have hca := ha.2.1
  have hca2 : ca ≤ 9223372036854775807 := by have := ha.2.2.1; omega
  have hla : la ≤ 140737488351232 := by have := ha.2.2.1; omega
  have hno : ∀ er, er ≠ 0 → (∀ w2, Ex w w2 → Calls Try.prog 7 #[.slice a la ca, .int .i64 k] w2 (Nil3 er w2)) → Calls Try.prog 5 #[.slice a la ca, .int .i64 k] w (Says (.bool true) w) := fun er he hme => by
    have HME := Lib.hid hme
    have g0 : (er != 0) = true := bne_iff_ne.mpr he
    clear HP HM hme ha hk
    go_enter Try.func5, Try.ntmps5
    go_wp2_with (first
      | (go_at_call 11; (with_reducible refine (HY.out _).mono ?_); rintro e w1 ⟨rfl, hw1⟩)
      | (go_at_call 7; (with_reducible refine (HME.out _ hw1).mono ?_); rintro e w2 ⟨a2, c2, rfl, hw2⟩))
    go_ret
    exact ⟨rfl, hw1.trans hw2⟩
  by_cases h0 : weE la k = 0
  · obtain ⟨n1, n2, n3⟩ := weE_zero.mp h0
    obtain ⟨K, rfl⟩ : ∃ K : Nat, k = (K : Int) := ⟨k.toNat, by omega⟩
    have hv := ha.vecF (by omega)
    obtain ⟨V, hV⟩ : ∃ V, (fun i => eo (nth z i)) = V := ⟨_, rfl⟩
    rw [hV] at hv
    by_cases hf : ∃ f, NearF la K V f
    · obtain ⟨f, hf⟩ := hf
      have HME := Lib.hid fun w2 (h : Ex w w2) => HM.some (by omega) (by omega) (by omega) hca hca2 (hv.ex h) hf
      have HV := Lib.hid fun w2 (h : Ex w w2) => hv.ex h
      have hpo := cr_own (f := f) (k := K) (by omega) hf.1
      have HPU : Hid (∀ a2 c2 w2, K ≤ c2 → c2 ≤ 9223372036854775807 → ReadsF w2 a2 la (pr f) → Calls Try.prog 12 #[.slice a2 K c2, .int .i64 (la : Int)] w2 (Vec2 la (pr f) w2)) := Lib.hid fun a2 c2 w2 h1 h2 h3 => by
        have h4 : ReadsF w2 a2 K (pr f) := by
          obtain ⟨b, off, e, h⟩ := h3
          exact ⟨b, off, e, fun k hk => h k (by omega)⟩
        have := HP.ok (k := K) (n := la) (by omega) (by omega) (by omega) h1 h2 h4
        rwa [hpo] at this
      have HEQ := Lib.hid fun a2 c2 a3 c3 w2 (h1 : ReadsF w2 a2 la (pr f)) (h2 : ReadsF w2 a3 la (pr f)) => equal_rows (ca := c2) (cb := c3) (by omega) h1 h2
      have hmb := ms_le (pr f) V la
      have hm2 := hf.2
      have hmc := ms_comm (pr f) V (List.range la)
      have HMS := Lib.hid fun i => ms_snoc V (pr f) i
      obtain ⟨F, hF⟩ : ∃ F, pr f = F := ⟨_, rfl⟩
      have e0 : (fun t => pv f (bn t)) = F := hF
      rw [e0] at hm2
      rw [hF] at HME HPU HEQ hmb hmc HMS
      obtain ⟨M, hM⟩ : ∃ M, ms F V (List.range la) = M := ⟨_, rfl⟩
      rw [hM] at HME hmb hm2 hmc
      have HMC := Lib.hid hmc
      clear hf hV hv HP HM hno ha hk h0 hmc hM hF e0 hpo
      go_enter Try.func5, Try.ntmps5
      go_upto_region 7 with (first
        | (go_at_call 11; (with_reducible refine (HY.out _).mono ?_); rintro e w1 ⟨rfl, hw1⟩)
        | (go_at_call 7; (with_reducible refine (HME.out _ hw1).mono ?_); rintro e w2 ⟨a2, c2, rfl, hc2, hr2, hw2⟩
           have hx2 := hw1.trans hw2
           obtain ⟨b2, o2, rfl, hq2⟩ := hr2.out
           have hc2' := hc2.out)
        | (go_at_call 12; (with_reducible refine (HPU.out _ _ _ (by omega) hc2.out.2 hr2.out).mono ?_); rintro e w3 ⟨a3, c3, rfl, hc3, hr3, hw3⟩
           have hx3 := hx2.trans hw3))
      obtain ⟨bA, oA, rfl, hA⟩ := HV.out w3 hx3
      have HA := Lib.hid hA
      have HB : Hid (∀ j, j < la → w3.cell? ⟨b2, o2 + j, none⟩ = some (.int .u8 (((F j).v : Nat) : Int))) := Lib.hid fun j hj => hw3.cell (hq2 j hj)
      have HR2 := Lib.hid (hr2.out.ex hw3)
      have HX3 := Lib.hid hx3
      clear hA hq2 HV HPU HME HY hw1 hw2 hw3 hx2 hx3 hr2
      go_wp2
      go_loopg [10, 62] la (fun m v10 v62 wr => ∃ i d : Nat, i ≤ la ∧ d ≤ i ∧ v10 = .int .i64 (d : Int) ∧ v62 = .int .i64 (i : Int) ∧ Hid (d = ms V F (List.range i)) ∧ Hid (m = la - i) ∧ Ex w3 wr)
      case atStart => exact ⟨0, 0, by omega, by omega, rfl, rfl, Lib.hid rfl, Lib.hid rfl, Ex.refl _⟩
      case round =>
        obtain ⟨i, d, hi, hd, rfl, rfl, hdm, hm, hx⟩ := hrel
        by_cases hlt : i < la
        · have p1 := hx.cell (HA.out i hlt)
          have p2 := hx.cell (HB.out i hlt)
          have hst := HMS.out i
          have ul := (V i).lt
          have vl := (F i).lt
          obtain ⟨x, hxe⟩ : ∃ x, (V i).v = x := ⟨_, rfl⟩
          obtain ⟨y, hye⟩ : ∃ y, (F i).v = y := ⟨_, rfl⟩
          rw [hxe] at p1 ul hst
          rw [hye] at p2 vl hst
          rw [← hdm.out] at hst
          have c0 : ∀ x' : Wo wr, x'.val.cell? ⟨bA, oA + i, none⟩ = some (.int .u8 (x : Int)) := so_cell p1
          have c1 : ∀ x' : Wo wr, x'.val.cell? ⟨b2, o2 + i, none⟩ = some (.int .u8 (y : Int)) := so_cell p2
          by_cases hxy : x = y
          · subst hxy
            have HST : Hid (d = ms V F (List.range (i + 1))) := Lib.hid (by rw [hst, if_pos rfl]; rfl)
            clear hst hxe hye p1 p2
            go_wp2
            refine wp_region_wo (by kernel_rfl) (by kernel_rfl) ?_
            repeat (go_big_quiet_step (fail))
            refine wpQuiet_nil ?_
            rintro _ ⟨⟨w5, hw5⟩, rfl⟩
            go_wp2
            go_roundg (la - (i + 1))
            case measure => have := hm.out; omega
            case rel => exact ⟨i + 1, d, by omega, by omega, rfl, by go_num, HST, Lib.hid rfl, hx.trans hw5⟩
          · have HST : Hid (d + 1 = ms V F (List.range (i + 1))) := Lib.hid (by rw [hst, if_neg hxy])
            have g0 : ((x : Int) != (y : Int)) = true := bne_iff_ne.mpr (by omega)
            clear hst hxe hye p1 p2
            go_wp2
            refine wp_region_wo (by kernel_rfl) (by kernel_rfl) ?_
            repeat (go_big_quiet_step (fail))
            refine wpQuiet_nil ?_
            rintro _ ⟨⟨w5, hw5⟩, rfl⟩
            go_wp2
            go_roundg (la - (i + 1))
            case measure => have := hm.out; omega
            case rel => exact ⟨i + 1, d + 1, by omega, by omega, by go_num, by go_num, HST, Lib.hid rfl, hx.trans hw5⟩
        · have e : i = la := by omega
          subst e
          obtain rfl : d = M := by rw [hdm.out, ← HMC.out]
          have gq : decide (2 * (d : Int) ≤ (i : Int) - (K : Int)) = true := decide_eq_true (by omega)
          go_wp2_with (go_at_call 10; (with_reducible refine (HEQ.out _ _ _ _ _ (hr3.out.ex hx) (HR2.out.ex hx)).mono ?_); rintro e w6 ⟨rfl, hw6⟩)
          go_ret
          exact ⟨rfl, (HX3.out.trans hx).trans hw6⟩
    · exact hno 4 (by decide) fun w2 h => HM.none (by omega) (by omega) (by omega) hca hca2 (hv.ex h) fun f h => hf ⟨f, h⟩
  · exact hno _ h0 fun w2 h => HM.no ha.1 hca hca2 (ha.2.2.2.1.ex h) (fun x hx => wf_u8 (ha.2.2.2.2.2 x hx)) (wf_int' hk) h0

end Go.Proofs.Ytjccpfpldbjcbaa
