/-
  TopHamming, by contracts.
-/
import Derived.Test.YthlnbomapfjphaaDoorTpBase
import Derived.Test.YthlnbomapfjphaaDoorHmRef
import Derived.Test.YthlnbomapfjphaaDoorLnD
import Derived.Test.YthlnbomapfjphaaDoorLnDual
import Derived.Deep.CutRange
import Derived.Deep.DeepCutAuto
namespace Go.Proofs.YthlnbomapfjphaaDoor
open Go.RowKit
open Ln Hm

namespace Hm
/-- Eight bits of data: a word of twelve. -/
theorem en_eight_all : ∀ d : Fin 256, en d.val < 4096 := by decide +kernel
theorem en_eight {d : Nat} (h : d < 256) : en d < 2 ^ 12 := en_eight_all ⟨d, h⟩
theorem sy_sums : ∀ {l : List Nat}, (∀ x ∈ l, sy 15 x = 0) → ∀ w ∈ sums l, sy 15 w = 0 := by
  intro l
  induction l with
  | nil =>
    intro _ w hw
    rw [sums, List.mem_singleton] at hw
    subst hw
    exact sy_zero 15
  | cons x l ih =>
    intro h w hw
    have ih2 := ih fun b hb => h b (List.mem_cons_of_mem _ hb)
    rcases mem_sums.mp hw with h1 | h1
    · exact ih2 w h1
    · have h2 := ih2 _ h1
      rw [sy_xor, h x List.mem_cons_self, Nat.zero_xor] at h2
      exact h2
/-- The words of some data. -/
def ew (z : List Int) : List Nat := z.map fun x => en (x.toNat % 256)
theorem ew_length (z : List Int) : (ew z).length = z.length := by simp [ew]
theorem ew_take {z : List Int} {i : Nat} {x : Nat} (hi : i < z.length) (hx : nth z i = (x : Int)) : il (ew (z.take i)) ++ [((en (x % 256) : Nat) : Int)] = il (ew (z.take (i + 1))) := by
  have e : z[i] = (x : Int) := by rw [← hx, nth_eq hi]
  unfold ew il
  rw [List.take_add_one, List.getElem?_eq_getElem hi, List.map_append, List.map_append, e]
  rfl
theorem ew_facts (z : List Int) : ∀ x ∈ ew z, x < 2 ^ 12 ∧ sy 15 x = 0 := by
  intro x hx
  obtain ⟨y, _, rfl⟩ := List.mem_map.mp hx
  have : y.toNat % 256 < 256 := Nat.mod_lt _ (by decide)
  exact ⟨en_eight this, (en_ok (by omega)).2.1⟩
end Hm

theorem info_tw : (Tryd.prog.info? 39).map (fun i => (i.zero, i.size, i.bytes)) = some (some (.int .u16 0), 1, 2) := by kernel_rfl

set_option maxRecDepth 100000 in
set_option maxHeartbeats 4000000 in
theorem topHamming_of (HP : RePutC) (HPU : PutC) (HGE : GetC) (HW : WordsC) (HB : BaseC) (HF : FarC) (a : Option Addr) (la ca : Nat) (z : List Int) (w : World) (ha : IsInts .u16 2 w a la ca z) (hT : HmT w) :
    Calls Tryd.prog 4 #[.slice a la ca] w (Says (.bool true) w) := by
  have HY := Lib.hid fun w => works_yes HP w
  by_cases h4 : 4 < la
  · clear ha
    go_enter Tryd.func4, Tryd.ntmps4
    go_wp2_with (go_at_call 8; (with_reducible refine (HY.out _).mono ?_); rintro e w2 ⟨rfl, hw2⟩)
    go_ret
    exact ⟨rfl, (by repeat (first | assumption | exact Ex.refl _ | refine Ex.trans ?_ (by assumption)))⟩
  obtain ⟨k1, k2, k3, k4, _, k6⟩ := ha
  have HR : Hid (∀ i, i < la → ∃ (g o x : Nat), a = some ⟨g, o, none⟩ ∧ w.cell? ⟨g, o + i, none⟩ = some (.int .u16 (x : Int)) ∧ x < 65536 ∧ nth z i = (x : Int)) := Lib.hid fun i hi => by
    have hx := wf_u16 (k6 _ (nth_mem (show i < z.length by omega)))
    rcases k4 with h | ⟨g, o, h1, h2⟩
    · rw [h] at k1; have : la = 0 := k1.symm; omega
    · exact ⟨g, o, (nth z i).toNat, h1, by rw [h2 i (by omega)]; congr 2; omega, by omega, by omega⟩
  have HPU2 : Hid (∀ (x : Nat) (w : World), x < 65536 → HmT w → Calls Tryd.prog 16 #[.int .u16 (bits .and .u16 (x : Int) 255)] w (Says (.tuple #[.int .u16 ((en (x % 256) : Nat) : Int), .int .i64 0]) w)) := Lib.hid fun x w hx hT => by
    have h := and_u16_nat x 255 hx (by decide)
    rw [show x &&& 255 = x % 2 ^ 8 from Nat.and_two_pow_sub_one_eq_mod x 8] at h
    have h' : bits .and .u16 (x : Int) 255 = ((x % 256 : Nat) : Int) := h
    rw [h']
    exact HPU.ok (by have : x % 256 < 256 := Nat.mod_lt _ (by decide)
                     omega) hT
  have HT : Hid (∀ i x : Nat, i < la → nth z i = (x : Int) → il (ew (z.take i)) ++ [((en (x % 256) : Nat) : Int)] = il (ew (z.take (i + 1)))) := Lib.hid fun i x hi hx => ew_take (by omega) hx
  have hll : (ew z).length = la := by rw [ew_length]; exact k1
  have hle : ∀ i, (il (ew (z.take i))).length ≤ la := fun i => by rw [il_length, ew_length, List.length_take]; omega
  have HLE := Lib.hid hle
  have hta : z.take la = z := by rw [← k1]; exact List.take_length
  have hf := ew_facts z
  obtain ⟨l, hl⟩ : ∃ l, ew z = l := ⟨_, rfl⟩
  have HTA : Hid (il (ew (z.take la)) = il l) := Lib.hid (by rw [hta, hl])
  rw [hl] at hll hf
  have hlt : ∀ x ∈ l, x < 2 ^ 12 := fun x hx => (hf x hx).1
  have hcd := cw_cd hlt
  have hsy : ∀ x ∈ cw 12 l, sy 15 x = 0 := fun x hx => sy_sums (fun y hy => (hf y hy).2) x ((mem_cw hlt).mp hx)
  have hW64 := cw_64 hll (by omega) hlt
  have hbw := bs_words hcd (by omega)
  have hfar : ∃ D E : Int, Hid (∀ (w2 : World) (a2 : Option Addr) (c2 : Nat), la ≤ c2 → c2 ≤ 9223372036854775807 → Reads w2 .u16 a2 (il l) → Calls Tryd.prog 20 #[.int .i64 12, .slice a2 la c2] w2 (Says (.tuple #[.int .i64 D, .int .i64 E]) w2)) ∧ ((E = 4 ∧ (bs (cw 12 l)).length = 0) ∨ (E = 0 ∧ 3 ≤ D)) := by
    by_cases h1 : (cw 12 l).length ≤ 1
    · have hp := List.length_pos_of_mem hcd.zero
      refine ⟨0, 4, Lib.hid fun w2 a2 c2 h5 h6 h7 => HF.one (n := 12) (by omega) (by omega) hll (by omega) h5 h6 hlt h1 h7, .inl ⟨rfl, ?_⟩⟩
      refine Classical.byContradiction fun hc => ?_
      have : 2 ^ 1 ≤ 2 ^ (bs (cw 12 l)).length := Nat.pow_le_pow_right (by decide) (by omega)
      omega
    · obtain ⟨d, hd⟩ := far_some hcd (by omega)
      refine ⟨d, 0, Lib.hid fun w2 a2 c2 h5 h6 h7 => HF.ok (n := 12) (by omega) (by omega) hll (by omega) h5 h6 hlt hd h7, .inr ⟨rfl, ?_⟩⟩
      obtain ⟨_, _, v, hv, hv0, hvd⟩ := hd
      have h3 := three (n := 15) (by have := hcd.lt v hv; omega) (hsy v hv) hv0
      rw [on_up 12 15 v (hcd.lt v hv) (by omega), hvd] at h3
      omega
  obtain ⟨D, E, HFA, hDE⟩ := hfar
  have HWO : Hid (∀ (w2 : World) (a2 : Option Addr) (c2 : Nat), la ≤ c2 → c2 ≤ 9223372036854775807 → Reads w2 .u16 a2 (il l) → Calls Tryd.prog 17 #[.int .i64 12, .slice a2 la c2] w2 (Vec3 .u16 (cw 12 l).length (il (cw 12 l)) w2)) := Lib.hid fun w2 a2 c2 h5 h6 h7 => HW.ok (n := 12) (by omega) (by omega) hll (by omega) h5 h6 hlt rfl (il_length _) h7
  have HBA : Hid (∀ (w2 : World) (a2 : Option Addr) (c2 : Nat), la ≤ c2 → c2 ≤ 9223372036854775807 → Reads w2 .u16 a2 (il l) → Calls Tryd.prog 18 #[.int .i64 12, .slice a2 la c2] w2 (Vec3 .u16 (bs (cw 12 l)).length (il (bs (cw 12 l))) w2)) := Lib.hid fun w2 a2 c2 h5 h6 h7 => HB.ok (n := 12) (by omega) (by omega) hll (by omega) h5 h6 hlt rfl (il_length _) h7
  have hS := cw_small (n := 12) (by omega) hlt
  obtain ⟨W, hWW⟩ : ∃ W, cw 12 l = W := ⟨_, rfl⟩
  rw [hWW] at hcd hsy hW64 hbw HWO HBA hDE hS
  obtain ⟨N, hN⟩ : ∃ N, W.length = N := ⟨_, rfl⟩
  obtain ⟨K, hK⟩ : ∃ K, (bs W).length = K := ⟨_, rfl⟩
  rw [hN, hK] at hbw
  rw [hN] at HWO hW64
  rw [hK] at HBA hDE
  have hK6 : K ≤ 6 := by
    refine Classical.byContradiction fun hc => ?_
    have : 2 ^ 7 ≤ 2 ^ K := Nat.pow_le_pow_right (by decide) (by omega)
    omega
  have HPW : Hid (wrap64 ((2 : Int) ^ K) = (N : Int)) := Lib.hid (by
    rw [show ((2 : Int) ^ K) = ((2 ^ K : Nat) : Int) by rw [Int.natCast_pow]; rfl, ← hbw]
    exact IntWalk.wrap64_in _ (by omega))
  have HGT : Hid (∀ i, i < N → (nth (il W) i = ((W.getD i 0 : Nat) : Int)) ∧ ∀ w, HmT w → Calls Tryd.prog 19 #[.int .u16 ((W.getD i 0 : Nat) : Int)] w (fun e w2 => ∃ y : Int, e = .returned (.tuple #[.int .u16 y, .int .i64 0, .int .i64 0]) ∧ Ex w w2)) := Lib.hid fun i hi => by
    have e : W.getD i 0 = W[i]'(by omega) := by rw [List.getD_eq_getElem?_getD, List.getElem?_eq_getElem (by omega)]; rfl
    refine ⟨by rw [il_nth (by omega), e], fun w hT => ?_⟩
    rw [e]
    have hm : W[i]'(by omega) ∈ W := List.getElem_mem _
    refine (HGE.ok (w := w) (by have := hcd.lt _ hm; omega) hT).mono ?_
    rintro e2 w2 ⟨rfl, hw⟩
    rw [hsy _ hm]
    exact ⟨_, rfl, hw⟩
  have HZL : Hid (z.length = la) := Lib.hid k1
  have HNL : Hid ((il W).length = N) := Lib.hid (by rw [il_length]; exact hN)
  have hN1 : 1 ≤ N := by rw [← hN]; exact List.length_pos_of_mem hcd.zero
  have h12 : ((12 : Nat) : Int) = 12 := rfl
  clear k1 k2 k3 k4 k6 HPU HGE HW HB HF hle hta hl hf hlt hcd hsy hbw hS hWW hN hK hll
  go_enter Tryd.func4, Tryd.ntmps4
  go_upto_region 4 with (go_at_call 8; (with_reducible refine (HY.out _).mono ?_); rintro e w2 ⟨rfl, hw2⟩)
  go_wp2
  go_loopg [3, 29] la (fun k v3 v29 wr => ∃ (i : Nat) (v : Value), i ≤ la ∧ v3 = v ∧ v29 = .int .i64 (i : Int) ∧ Hid (Row 39 .u16 wr w.heap.size v (il (ew (z.take i)))) ∧ Hid (k = la - i) ∧ Ex w wr)
  case atStart => exact ⟨0, _, by omega, rfl, rfl, Lib.hid (Row.nil _ _ _ _), Lib.hid rfl, hw2⟩
  case round =>
    obtain ⟨i, v, hi, rfl, rfl, hRow, hk, hx⟩ := hrel
    by_cases hlt : i < la
    · obtain ⟨g, o, x, rfl, hc, hx16, hnx⟩ := HR.out i hlt
      have q1 := hx.cell hc
      have HPX := Lib.hid fun w hT => HPU2.out x w hx16 hT
      have HTX := Lib.hid (HT.out i x hlt hnx)
      have HLI := Lib.hid (HLE.out i)
      obtain ⟨y, hy⟩ : ∃ y, en (x % 256) = y := ⟨_, rfl⟩
      rw [hy] at HPX HTX
      clear hc hnx hy
      go_upto_region 10 with (go_at_call 16; (with_reducible refine (HPX.out _ (hT.ex (by repeat (first | assumption | exact Ex.refl _ | refine Ex.trans ?_ (by assumption))))).mono ?_); rintro e w3 ⟨rfl, hw3⟩)
      have c1 := box_one w3 (.int .u16 (y : Int)) 39
      have HXw := Lib.hid ((hx.trans hw3).alloc (.cells #[.int .u16 (y : Int)] 39))
      have HRA := Lib.hid ((hRow.out.ex hw3).ex ((Ex.refl w3).alloc (.cells #[.int .u16 (y : Int)] 39)))
      go_wp2_with (at_builtin; go_loud (refine wpList_append_int rfl _ _ 38 rfl w.heap.size 39 .u16 2 Tryd.underlying38 info_tw _ (il (ew (z.take i))) rfl HRA.out (y : Int) w3.heap.size rfl c1 (by have := HLI.out; unfold maxLen; omega) (by have := HLI.out; omega) HXw.out.size ?_)
                   intro v1 w4 hown4 hgrow4 hat4
                   have HX4 := Lib.hid (HRA.out.grown HXw.out hgrow4)
                   rw [HTX.out] at hown4
                   have HR4 := Lib.hid hown4
                   clear hown4 hgrow4 hat4 c1)
      go_roundg (la - (i + 1))
      case measure => have := hk.out; omega
      case rel => exact ⟨i + 1, _, by omega, rfl, by go_num, HR4, Lib.hid rfl, HX4.out⟩
    · have e : i = la := by omega
      subst e
      have hRr := hRow.out
      rw [HTA.out] at hRr
      have hil : (il l).length = i := by have := congrArg List.length HTA.out; rw [← this, il_length, ew_length, List.length_take]; have := HZL.out; omega
      obtain ⟨a2, c2, rfl, hcap, hrd⟩ := hRr.hands hil
      have gN : ((N : Int) != wrap64 ((2 : Int) ^ K)) = false := by rw [HPW.out]; simp
      clear hRr hil hRow HTA HT HPU2 HR HLE HPW hw2
      go_upto_region 16 with (first
        | (go_at_call 17; (with_reducible refine (HWO.out _ _ _ hcap.out.1 hcap.out.2 hrd.out).mono ?_); rintro e w3 ⟨a3, c3, rfl, hc3, hR3, hw3⟩
           have HRd3 := Lib.hid (hrd.out.ex hw3))
        | (go_at_call 18; (with_reducible refine (HBA.out _ _ _ hcap.out.1 hcap.out.2 HRd3.out).mono ?_); rintro e w4 ⟨a4, c4, rfl, hc4, hR4, hw4⟩
           have HRd4 := Lib.hid (HRd3.out.ex hw4)
           have HR34 := Lib.hid (hR3.out.ex hw4))
        | (go_at_call 9; refine (tgood_zeros 2 (by omega) _ rfl _ _).mono ?_; rintro e w5 ⟨rfl, hw5⟩
           have HRd5 := Lib.hid (HRd4.out.ex hw5)
           have HR35 := Lib.hid (HR34.out.ex hw5)))
      have HX5 := Lib.hid (((hx.trans hw3).trans hw4).trans hw5)
      clear hx hw3 hw4 hw5 HRd3 HRd4 HR34 hrd hR3 hR4
      rcases HR35.out with h | ⟨gW, oW, rfl, hcW⟩
      · have := congrArg List.length h
        rw [HNL.out] at this
        have : N = 0 := this
        omega
      have HCW : Hid (∀ j, j < N → w5.cell? ⟨gW, oW + j, none⟩ = some (.int .u16 ((W.getD j 0 : Nat) : Int))) := Lib.hid fun j hj => by
        rw [hcW j (by rw [HNL.out]; exact hj), (HGT.out j hj).1]
      clear hcW HR35
      have HX0 := Lib.hid (Ex.refl w5)
      go_wp2
      go_loopg [71] N (fun k v71 wr => ∃ j : Nat, j ≤ N ∧ v71 = .int .i64 (j : Int) ∧ Hid (k = N - j) ∧ Ex w5 wr)
      case atStart => exact ⟨0, by omega, rfl, Lib.hid rfl, HX0.out⟩
      case round =>
        obtain ⟨j, hj, rfl, hk2, hx⟩ := hrel
        rename World => wq
        by_cases hjt : j < N
        · have q1 := hx.cell (HCW.out j hjt)
          have HG := Lib.hid (HGT.out j hjt).2
          obtain ⟨y, hy⟩ : ∃ y, W.getD j 0 = y := ⟨_, rfl⟩
          rw [hy] at q1 HG
          clear hy
          go_wp2_with (go_at_call 19; (with_reducible refine (HG.out _ (hT.ex (HX5.out.trans hx))).mono ?_); rintro e w6 ⟨y6, rfl, hw6⟩)
          go_roundg (N - (j + 1))
          case measure => have := hk2.out; omega
          case rel => exact ⟨j + 1, by omega, by go_num, Lib.hid rfl, hx.trans hw6⟩
        · have e : j = N := by omega
          subst e
          have HRd6 := Lib.hid (HRd5.out.ex hx)
          rcases hDE with ⟨rfl, rfl⟩ | ⟨rfl, hD⟩
          · go_wp2_with (go_at_call 20; (with_reducible refine (HFA.out _ _ _ hcap.out.1 hcap.out.2 HRd6.out).mono ?_); rintro e w6 ⟨rfl, hw6⟩)
            go_ret
            exact ⟨rfl, (HX5.out.trans hx).trans hw6⟩
          · go_wp2_with (go_at_call 20; (with_reducible refine (HFA.out _ _ _ hcap.out.1 hcap.out.2 HRd6.out).mono ?_); rintro e w6 ⟨rfl, hw6⟩)
            go_ret
            exact ⟨rfl, (HX5.out.trans hx).trans hw6⟩

end Go.Proofs.YthlnbomapfjphaaDoor
