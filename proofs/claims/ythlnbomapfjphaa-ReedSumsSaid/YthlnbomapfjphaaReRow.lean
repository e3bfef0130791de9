/-
  Package reed: a multiple of a row is added to another; a row times x and a point.
-/
import Derived.Test.YthlnbomapfjphaaGfw
import Derived.Test.YthlnbomapfjphaaMixT
import Derived.Test.YthlnbomapfjphaaGso
import Derived.Test.YthlnbomapfjphaaRowB
import Derived.Test.YthlnbomapfjphaaCopyAt
import Derived.Test.YthlnbomapfjphaaReThru
import Derived.Test.YthlnbomapfjphaaGro
namespace Go.Proofs.Ythlnbomapfjphaa
open Go.RowKit
open Gf

set_option maxRecDepth 100000 in
set_option maxHeartbeats 1000000 in
theorem rAdd_any (F H : Nat → E) (f : E) (N C g c1 b c2 : Nat) (w : World) (hC : 1 ≤ C) (hN : C ≤ N) (hN2 : N ≤ 100) (hF : RowB w g N F) (hH : ∀ k, k < C → w.cell? ⟨b, k, none⟩ = some (.int .u8 (((H k).v : Nat) : Int))) (hne : b ≠ g) :
    Calls Try.prog 99 #[.slice (some ⟨g, 0, none⟩) N c1, .slice (some ⟨b, 0, none⟩) C c2, .int .u8 ((f.v : Nat) : Int)] w (fun e w2 => e = .returned (.tuple #[]) ∧ Hid (Mo1 g w w2) ∧ Hid (RowB w2 g N (fun k => F k + if k < C then H k * f else 0))) := by
  have HH := Lib.hid hH
  have HF := Lib.hid hF
  have fl := f.lt
  clear hF hH
  go_enter Try.func99, Try.ntmps99
  go_wp2
  go_loopg [10] C (fun k v10 wr => ∃ i : Nat, i ≤ C ∧ v10 = .int .i64 (i : Int) ∧ Hid (RowB wr g N (fun k => F k + if k < i then H k * f else 0)) ∧ Hid (k = C - i) ∧ Hid (Mo1 g w wr))
  case atStart => exact ⟨0, by omega, rfl, Lib.hid (HF.out.congr fun k _ => by rw [if_neg (by omega), E.add_zero]), Lib.hid rfl, Lib.hid (Mo1.refl _ _)⟩
  case round =>
    obtain ⟨i, hi, rfl, hR, hk, hm⟩ := hrel
    by_cases hlt : i < C
    · have hiN : i < N := by omega
      have q1 : wr.cell? ⟨g, i, none⟩ = some (.int .u8 (((F i).v : Nat) : Int)) := by
        have := hR.out.1 i hiN
        dsimp only at this
        rwa [if_neg (by omega), E.add_zero] at this
      have q2 := hm.out.cell (HH.out i hlt) hne
      obtain ⟨X, hX⟩ : ∃ X, F i = X := ⟨_, rfl⟩
      obtain ⟨Y, hY⟩ : ∃ Y, H i = Y := ⟨_, rfl⟩
      have HN : Hid (∀ k, updF (fun k => F k + if k < i then H k * f else 0) i (X + f * Y) k = F k + if k < i + 1 then H k * f else 0) := Lib.hid fun k => by
        unfold updF
        by_cases e : k = i
        · subst e; rw [if_pos rfl, if_pos (by omega), hX, hY, E.mul_comm]
        · rw [if_neg e]
          show F k + (if k < i then H k * f else 0) = _
          by_cases e2 : k < i
          · rw [if_pos e2, if_pos (by omega)]
          · rw [if_neg e2, if_neg (by omega)]
      rw [hX] at q1
      rw [hY] at q2
      have Xl := X.lt
      have Yl := Y.lt
      have HT := Lib.hid fun w => fmul_any f.v Y.v w f.lt Y.lt
      have XX := xor_u8_nat X.v (gm f.v Y.v) X.lt (gm_lt f.lt)
      have k1 : ∀ x : Kp (fun w2 => Ex wr w2), x.val.cell? ⟨g, i, none⟩ = some (.int .u8 ((X.v : Nat) : Int)) := fun x => x.ok.cell q1
      haveI : Nonempty (Kp (fun w2 => Ex wr w2)) := ⟨⟨wr, Ex.refl wr⟩⟩
      have hd : Ex wr wr.drew := (Ex.refl wr).drew
      clear hX hY q1
      go_wp2
      refine wp_region_scrT (fun w2 => ∃ x : Kp (fun w2 => Ex wr w2), w2 = x.val) 9 (.take 0 (.take 1 (.take 2 (.take 3 (.take 4 (.take 5 (.one 6 (.take 7 (.take 8 (.fin)))))))))) (by kernel_rfl) (by kernel_rfl) (by intro _ _ d _ _ h; cases d <;> exact h) ⟨⟨_, (by first | exact hd | exact hd.trans hw6)⟩, rfl⟩ ?_
      simp only [fillS, List.getD_cons_zero, List.getD_cons_succ]
      repeat' (first
        | ((with_reducible refine wpScr_pure ?_); go_big_quiet_step (fail); (with_reducible refine scrQ_on ?_))
        | ((with_reducible refine wpScr_turn ?_); intro K hK; go_wp2_with (first | fail |(go_at_call 22; (with_reducible refine (HT.out _).mono ?_); rintro e w6 ⟨rfl, hw6⟩)); refine hK _ _ ⟨⟨_, (by first | exact hd | exact hd.trans hw6)⟩, rfl⟩ ?_; clear hK K)
        | (with_reducible refine wpScr_two ?_ ?_)
        | (with_reducible refine wpScr_three ?_ ?_ ?_)
        | (with_reducible refine wpScr_nil ?_))
      all_goals simp only [tailQ, List.drop_succ_cons, List.drop_zero]
      have HXW := Lib.hid (hd.trans hw6)
      have HR6 := Lib.hid (hR.out.ex (by omega) HXW.out)
      have c6 := HXW.out.cell (k1 ⟨wr, Ex.refl wr⟩)
      have f6 := HR6.out.2 i
      clear k1
      go_wp2
      go_roundg (C - (i + 1))
      case measure => have := hk.out; omega
      case rel => exact ⟨i + 1, by omega, by go_num, Lib.hid ((HR6.out.set hiN (X + f * Y)).congr fun k _ => HN.out k), Lib.hid rfl, Lib.hid ((hm.out.trans (Mo1.of HXW.out)).set i _)⟩
    · have e : C = i := by omega
      subst e
      have HE := hR
      clear hR
      go_wp2
      go_end0
      exact ⟨rfl, hm, HE⟩

theorem bl_fl (F : Nat → E) (n : Nat) : bl F n = fl n fun i => (((F i).v : Nat) : Int) := rfl
theorem info_u8R : (Try.prog.info? 5).map (fun i => (i.zero, i.size, i.bytes)) = some (some (.int .u8 0), 1, 1) := by kernel_rfl

set_option maxRecDepth 100000 in
set_option maxHeartbeats 1000000 in
theorem rTimes_any (H : Nat → E) (f : E) (C b c2 : Nat) (w : World) (hC : 1 ≤ C) (hC2 : C ≤ 50) (hH : ∀ k, k < C → w.cell? ⟨b, k, none⟩ = some (.int .u8 (((H k).v : Nat) : Int))) :
    Calls Try.prog 100 #[.slice (some ⟨b, 0, none⟩) C c2, .int .u8 ((f.v : Nat) : Int)] w (fun e w2 => ∃ g, e = .returned (.slice (some ⟨g, 0, none⟩) (C + 1) (C + 1)) ∧ Hid (w.heap.size ≤ g ∧ RowB w2 g (C + 1) (fun j => (if 1 ≤ j ∧ j < C + 1 then H (j - 1) else 0) + if j < C then H j * f else 0)) ∧ Ex w w2) := by
  have HH := Lib.hid hH
  have hbw : b < w.heap.size := World.block_lt_of_cell? w _ (hH 0 (by omega))
  have hne : b ≠ w.heap.size := by omega
  clear hH
  go_enter Try.func100, Try.ntmps100
  go_wp2_with (first
    | (at_make; refine wpList_make_ints rfl _ _ 22 rfl w.heap.size 5 .u8 1 Try.underlying22 info_u8R _ _ (C + 1) rfl rfl (by omega) (by unfold maxLen; omega) (Nat.le_refl _) ?_; intro w2 hown2 hgrow2
       have HX2 := Lib.hid (ex_grown (Ex.refl w) hgrow2 fun k hk => by cases hk)
       have HR2 : Hid (Row 5 .u8 w2 w.heap.size (.slice (some ⟨w.heap.size, 0, none⟩) (C + 1) (C + 1)) (fl (C + 1) fun _ => 0)) := Lib.hid (by rw [← fl_zero]; exact hown2)
       have HSRC : Hid (∀ j, j < C → w2.cell? ⟨b, 0 + j, none⟩ = some (.int .u8 ((fun j => (((H j).v : Nat) : Int) : Nat → Int) j))) := Lib.hid fun j hj => by rw [Nat.zero_add]; exact HX2.out.cell (HH.out j hj)
       clear hown2 hgrow2)
    | (refine wpList_copy_at rfl _ _ 22 22 rfl w.heap.size 5 .u8 Try.underlying22 (by kernel_rfl) w.heap.size (C + 1) (C + 1) 1 (fun _ => 0) C C rfl (by omega) b 0 C c2 rfl C (by have e : Nat.min C C = C := Nat.min_self C; exact e.symm) (fun j => (((H j).v : Nat) : Int)) HSRC.out HR2.out ?_; intro w3 hown3 hgrow3
       have HX3 := Lib.hid (HR2.out.grown HX2.out hgrow3)
       have HB3 : Hid (RowB w3 w.heap.size (C + 1) (fun t => if 1 ≤ t ∧ t < C + 1 then H (t - 1) else 0)) := Lib.hid (by
         have e : (fl (C + 1) fun t => if 1 ≤ t ∧ t < 1 + C then (((H (t - 1)).v : Nat) : Int) else 0) = bl (fun t => if 1 ≤ t ∧ t < C + 1 then H (t - 1) else 0) (C + 1) := by
           rw [bl_fl]
           refine fl_congr fun t _ => ?_
           by_cases h : 1 ≤ t ∧ t < C + 1
           · rw [if_pos h, if_pos (by omega)]
           · rw [if_neg h, if_neg (by omega)]; rfl
         rw [e] at hown3
         obtain ⟨g, c, he, _, _, _, _, hb⟩ := hown3.rowB (by omega)
         simp only [Value.slice.injEq, Option.some.injEq, Addr.mk.injEq, and_true] at he
         rw [he.1]
         exact hb)
       have HH3 : Hid (∀ k, k < C → w3.cell? ⟨b, k, none⟩ = some (.int .u8 (((H k).v : Nat) : Int))) := Lib.hid fun k hk => HX3.out.cell (HH.out k hk)
       clear hown3 hgrow3)
    | (go_at_call 99; (with_reducible refine (rAdd_any _ H f (C + 1) C w.heap.size (C + 1) b c2 w3 hC (by omega) (by omega) HB3.out HH3.out hne).mono ?_); rintro e w4 ⟨rfl, hm4, hr4⟩))
  go_ret
  exact ⟨_, rfl, Lib.hid ⟨Nat.le_refl _, hr4.out⟩, hm4.out.ex HX3.out (Nat.le_refl _)⟩

end Go.Proofs.Ythlnbomapfjphaa
