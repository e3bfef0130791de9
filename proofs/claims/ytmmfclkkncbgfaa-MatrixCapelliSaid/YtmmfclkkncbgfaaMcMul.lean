/-
  Mul of package matrix, and two tables side by side.
-/
import Derived.Test.YtmmfclkkncbgfaaMcRows
namespace Go.Proofs.Ytmmfclkkncbgfaa
open Go.RowKit
open Gf

theorem sg_last' (F : Nat → E) (k : Nat) : sg F (List.range (k + 1)) = sg F (List.range k) + F k := by
  rw [List.range_succ, sg_append]
  show _ + (F k + 0) = _
  rw [E.add_zero]

set_option maxRecDepth 100000 in
set_option maxHeartbeats 2000000 in
theorem mmul_ok {A B : Nat → Nat → E} {R K C : Nat} {a b : Option Addr} {ca cb : Nat} {w : World} (hR : 1 ≤ R) (hR2 : R ≤ 12) (hK : 1 ≤ K) (hK2 : K ≤ 12) (hC : 1 ≤ C) (hC2 : C ≤ 12) (ha : ReadsT w a R K A) (hb : ReadsT w b K C B) :
    Calls Try.prog 10 #[.slice a R ca, .slice b K cb] w (Tab2 R C (mm A B K) w) := by
  obtain ⟨bA, oA, bA0, oA0, cA0, rfl, hA0, hA0c, hA0m, _⟩ := ha.at (r := 0) (by omega)
  obtain ⟨bB, oB, bB0, oB0, cB0, rfl, hB0, hB0c, hB0m, _⟩ := hb.at (r := 0) (by omega)
  rw [Nat.add_zero] at hA0 hB0
  have HA := Lib.hid ha
  have HB := Lib.hid hb
  have HCA := Lib.hid (mcheck_ok hR hR2 hK hK2 ha ca)
  have HCB := Lib.hid fun w2 (k : Ex w w2) => mcheck_ok hK hK2 hC hC2 (hb.ex k) cb
  clear ha hb
  go_enter Try.func10, Try.ntmps10
  go_wp2_with (first
    | (go_at_call 14; (with_reducible refine (HCA.out).mono ?_); rintro e w1 ⟨rfl, hw1⟩; clear HCA)
    | (go_at_call 14; (with_reducible refine (HCB.out _ hw1).mono ?_); rintro e w2 ⟨rfl, hw2⟩
       have hxw := hw1.trans hw2
       have hA2 := hxw.cell hA0
       have hB2 := hxw.cell hB0)
    | (at_make; refine wpList_make_values rfl _ _ 22 rfl w2.heap.size 32 (.slice none 0 0) rfl 24 Try.underlying22 info_bytes _ _ R rfl rfl (by omega) (by unfold maxLen; omega) (Nat.le_refl _) ?_; intro w6 hown6 hgrow6
       have HP6 := Lib.hid (OwnP.start (by simp) hown6 C (mm A B K))
       have HX6 := Lib.hid (ex_grown (Ex.refl w2) hgrow6 fun k hk => by cases hk)
       clear hown6 hgrow6))
  have HXW := Lib.hid hxw
  clear hA2 hB2 hw1 hw2 hxw
  go_loopg [35] R (fun k vi wr => ∃ i : Nat, i ≤ R ∧ vi = .int .i64 (i : Int) ∧ Hid (OwnP 32 wr w2.heap.size w2.heap.size R C i (mm A B K)) ∧ Hid (k = R - i) ∧ Ex w2 wr)
  case atStart => exact ⟨0, by omega, rfl, HP6, Lib.hid rfl, HX6.out⟩
  case round =>
    obtain ⟨i, hi, rfl, hP, hk, hx⟩ := hrel
    clear HP6 HX6
    by_cases hlt : i < R
    · obtain ⟨bA2, oA2, bAi, oAi, cAi, eA, hAi, hAic, hAim, hAik⟩ := HA.out.at hlt
      obtain ⟨rfl, rfl⟩ : bA = bA2 ∧ oA = oA2 := by have := congrArg (fun x => (x.getD ⟨0, 0, none⟩ : Addr)) eA; simp at this; exact this
      have hxx := HXW.out.trans hx
      have q1 := hxx.cell hAi
      have q2 := hxx.cell hB0
      have HAIK := Lib.hid hAik
      clear eA hAi hAik
      go_upto_region 14 with 
        (at_make; refine wpList_make_ints rfl _ _ 32 rfl wr.heap.size 5 .u8 1 Try.underlying32 info_u8 _ _ C rfl rfl (by omega) (by unfold maxLen; omega) (Nat.le_refl _) ?_; intro w7 hown7 hgrow7
         have HX7 := Lib.hid (ex_grown (Ex.refl wr) hgrow7 fun k hk => by cases hk)
         have HR7 : Hid (Row 5 .u8 w7 wr.heap.size (.slice (some ⟨wr.heap.size, 0, none⟩) C C) (bl (fun _ => 0) C)) := Lib.hid (by
           rw [show bl (fun _ => (0 : E)) C = List.replicate C 0 from by
             unfold bl
             refine List.eq_replicate_iff.mpr ⟨by simp, fun b hb => ?_⟩
             obtain ⟨_, _, rfl⟩ := List.mem_map.mp hb
             rfl]
           exact hown7)
         obtain ⟨⟨u8, c8⟩, f8, g1, _⟩ := (hP.out.ex HX7.out).cell hlt
         clear hown7 hgrow7)
      have HP8 := Lib.hid (hP.out.set HX7.out HR7.out hC hlt hx.size)
      have HX8 := Lib.hid ((hx.trans HX7.out).setCell (p := ⟨w2.heap.size, i, none⟩) (Nat.le_refl _) (.slice (some ⟨wr.heap.size, 0, none⟩) C C))
      obtain ⟨w8, hw8⟩ : ∃ w8, w7.setCell ⟨w2.heap.size, i, none⟩ (.slice (some ⟨wr.heap.size, 0, none⟩) C C) = w8 := ⟨_, rfl⟩
      rw [hw8] at HP8 HX8
      clear HR7 c8 f8 hP hx q1 q2 HX7
      go_wp2
      rename World => wo
      go_loopg [50] K (fun k2 vk wr => ∃ kk : Nat, kk ≤ K ∧ vk = .int .i64 (kk : Int) ∧ Hid (OwnP 32 wr w2.heap.size w2.heap.size R C (i + 1) (fun r j => if r = i then sg (fun k => A i k * B k j) (List.range kk) else mm A B K r j)) ∧ Hid (k2 = K - kk) ∧ Ex w2 wr)
      case atStart => exact ⟨0, by omega, rfl, HP8, Lib.hid rfl, HX8.out⟩
      case round =>
        obtain ⟨kk, hkk, rfl, hQ, hk2, hx2⟩ := hrel
        clear HP8 HX8
        by_cases hlt2 : kk < K
        · obtain ⟨bB2, oB2, bBk, oBk, cBk, eB, hBk, hBkc, hBkm, hBkk⟩ := HB.out.at hlt2
          obtain ⟨rfl, rfl⟩ : bB = bB2 ∧ oB = oB2 := by have := congrArg (fun x => (x.getD ⟨0, 0, none⟩ : Addr)) eB; simp at this; exact this
          have hxx2 := HXW.out.trans hx2
          have q1 := hxx2.cell (HAIK.out kk hlt2)
          have q2 := hxx2.cell hBk
          obtain ⟨X, hX⟩ : ∃ X, A i kk = X := ⟨_, rfl⟩
          obtain ⟨gr, c, l1, l2, l3, l4, l5, l6, l7⟩ := hQ.out.lend (Nat.lt_succ_self i) (by omega)
          have HAM : Hid (∀ w3, Ex wr w3 → Calls Try.prog 29 #[.slice (some ⟨gr, 0, none⟩) C c, .slice (some ⟨bBk, oBk, none⟩) C cBk, .int .u8 ((X.v : Nat) : Int)] w3 (fun e w5 => e = .returned (.tuple #[]) ∧ Hid (OwnP 32 w5 w2.heap.size w2.heap.size R C (i + 1) (fun r j => if r = i then sg (fun k => A i k * B k j) (List.range (kk + 1)) else mm A B K r j)) ∧ Ex w2 w5)) := Lib.hid fun w3 hx3 => by
            have hQ3 := hQ.out.ex hx3
            obtain ⟨gr2, c2, m1, m2, m3, m4, m5, m6, m7⟩ := hQ3.lend (Nat.lt_succ_self i) (by omega)
            have e1 := (hx3.cell l1).symm.trans m1
            simp only [Option.some.injEq, Value.slice.injEq, Addr.mk.injEq, and_true, true_and] at e1
            obtain ⟨rfl, rfl⟩ := e1
            have hne : bBk ≠ gr := by
              have h1 := World.block_lt_of_cell? w ⟨bBk, oBk + 0, none⟩ (hBkk 0 (by omega))
              have h2 := HXW.out.size
              have h3 : bBk < w.heap.size := h1
              omega
            refine (addMultiple_any _ (B kk) X C gr c bBk oBk cBk w3 hC (by omega) m6 (fun k hk => (hxx2.trans hx3).cell (hBkk k hk)) hne).mono ?_
            rintro e w5 ⟨rfl, hm, hF⟩
            refine ⟨rfl, Lib.hid ((m7 _ _ hm.out hF.out).congr fun r _ j _ => ?_), Mo1.ex (hx2.trans hx3) hm.out l4⟩
            by_cases e : r = i
            · rw [if_pos e, if_pos e, if_pos rfl, sg_last', ← hX, E.mul_comm (B kk j)]
            · rw [if_neg e, if_neg e, if_neg e]
          have k1 : ∀ x : Kp (fun w2 => Ex wr w2), x.val.cell? ⟨w2.heap.size, i, none⟩ = some (.slice (some ⟨gr, 0, none⟩) C c) := fun x => x.ok.cell l1
          have k2 : ∀ x : Kp (fun w2 => Ex wr w2), x.val.cell? ⟨bB, oB + kk, none⟩ = some (.slice (some ⟨bBk, oBk, none⟩) C cBk) := fun x => x.ok.cell q2
          haveI : Nonempty (Kp (fun w2 => Ex wr w2)) := ⟨⟨wr, Ex.refl wr⟩⟩
          have hd : Ex wr wr.drew := (Ex.refl wr).drew
          rw [hX] at q1
          clear eB hBk hBkk q2 l6 l7 l1 hX hQ
          go_wp2
          refine wp_region_scrT (fun w2 => ∃ x : Kp (fun w2 => Ex wr w2), w2 = x.val) 9 (.take 0 (.take 1 (.take 2 (.take 3 (.take 4 (.take 5 (.take 6 (.take 7 (.take 8 (.fin)))))))))) (by kernel_rfl) (by kernel_rfl) (by intro _ _ d _ _ h; cases d <;> exact h) ⟨⟨_, (by exact hd)⟩, rfl⟩ ?_
          simp only [fillS, List.getD_cons_zero, List.getD_cons_succ]
          repeat' (first
            | ((with_reducible refine wpScr_pure ?_); go_big_quiet_step (fail); (with_reducible refine scrQ_on ?_))
            | ((with_reducible refine wpScr_turn ?_); intro K hK; go_wp2_with (first | fail |fail); refine hK _ _ ⟨⟨_, (by exact hd)⟩, rfl⟩ ?_; clear hK K)
            | (with_reducible refine wpScr_two ?_ ?_)
            | (with_reducible refine wpScr_three ?_ ?_ ?_)
            | (with_reducible refine wpScr_nil ?_))
          all_goals simp only [tailQ, List.drop_succ_cons, List.drop_zero]
          clear k1 k2
          go_wp2_with (go_at_call 29; (with_reducible refine (HAM.out _ hd).mono ?_); rintro e w8 ⟨rfl, HW8, hx8⟩)
          go_roundg (K - (kk + 1))
          case measure => have := hk2.out; omega
          case rel => exact ⟨kk + 1, by omega, by go_num, HW8, Lib.hid rfl, hx8⟩
        · have e : kk = K := by omega
          subst e
          go_wp2
          go_roundg (R - (i + 1))
          case measure => have := hk.out; omega
          case rel => exact ⟨i + 1, by omega, by go_num, Lib.hid (hQ.out.congr fun r _ j _ => by
            by_cases e : r = i
            · rw [if_pos e, e]; rfl
            · rw [if_neg e]), Lib.hid rfl, hx2⟩
    · have e : R = i := by omega
      subst e
      have HT := Lib.hid (hP.out.readsT hR)
      have HXE := Lib.hid (HXW.out.trans hx)
      clear hP hx
      go_wp2
      go_ret2
      exact ⟨_, _, rfl, Lib.hid ⟨Nat.le_refl _, by omega⟩, HT, HXE.out⟩

end Go.Proofs.Ytmmfclkkncbgfaa
