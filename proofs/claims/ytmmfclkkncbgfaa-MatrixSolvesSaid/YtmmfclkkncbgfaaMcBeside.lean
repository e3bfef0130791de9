/-
  Two tables side by side; errors of Mul.
-/
import Derived.Test.YtmmfclkkncbgfaaMcMul
namespace Go.Proofs.Ytmmfclkkncbgfaa
open Go.RowKit
open Gf

/-- A, and B right of it. -/
def sideBy (A B : Nat → Nat → E) (C : Nat) : Nat → Nat → E := fun i j => if j < C then A i j else B i (j - C)
theorem sideBy_row (A B : Nat → Nat → E) (C D i : Nat) : bl (A i) C ++ bl (B i) D = bl (sideBy A B C i) (C + D) := by
  unfold bl
  rw [List.range_add, List.map_append, List.map_map]
  congr 1
  · refine List.map_congr_left fun k hk => ?_
    have := List.mem_range.mp hk
    unfold sideBy
    rw [if_pos this]
  · refine List.map_congr_left fun k _ => ?_
    show _ = (((sideBy A B C i (C + k)).v : Nat) : Int)
    unfold sideBy
    rw [if_neg (by omega), Nat.add_sub_cancel_left]

theorem bl_reads {w : World} {F : Nat → E} {b o C : Nat} (h : ∀ k, k < C → w.cell? ⟨b, o + k, none⟩ = some (.int .u8 (((F k).v : Nat) : Int))) : Reads w .u8 (some ⟨b, o, none⟩) (bl F C) :=
  .inr ⟨b, o, rfl, fun j hj => by rw [bl_length] at hj; rw [bl_nth hj]; exact h j hj⟩

set_option maxRecDepth 100000 in
set_option maxHeartbeats 2000000 in
theorem beside_any {A B : Nat → Nat → E} {R C D : Nat} {a b : Option Addr} {ca cb : Nat} {w : World} (hR : 1 ≤ R) (hR2 : R ≤ 20) (hC : 1 ≤ C) (hC2 : C ≤ 20) (_ : 1 ≤ D) (hD2 : D ≤ 20) (ha : ReadsT w a R C A) (hb : ReadsT w b R D B) :
    Calls Try.prog 40 #[.slice a R ca, .slice b R cb] w (Made R (C + D) (sideBy A B C) w) := by
  obtain ⟨bA, oA, _, _, _, rfl, _⟩ := ha.at (r := 0) (by omega)
  obtain ⟨bB, oB, _, _, _, rfl, _⟩ := hb.at (r := 0) (by omega)
  have HA := Lib.hid ha
  have HB := Lib.hid hb
  clear ha hb
  go_enter Try.func40, Try.ntmps40
  go_wp2_with (at_make; refine wpList_make_values rfl _ _ 22 rfl w.heap.size 32 (.slice none 0 0) rfl 24 Try.underlying22 info_bytes _ _ R rfl rfl (by omega) (by unfold maxLen; omega) (Nat.le_refl _) ?_; intro w6 hown6 hgrow6
               have HP6 := Lib.hid (OwnP.start (by simp) hown6 (C + D) (sideBy A B C))
               have HX6 := Lib.hid (ex_grown (Ex.refl w) hgrow6 fun k hk => by cases hk)
               clear hown6 hgrow6)
  go_loopg [12] R (fun k vi wr => ∃ i : Nat, i ≤ R ∧ vi = .int .i64 (i : Int) ∧ Hid (OwnP 32 wr w.heap.size w.heap.size R (C + D) i (sideBy A B C)) ∧ Hid (k = R - i) ∧ Ex w wr)
  case atStart => exact ⟨0, by omega, rfl, HP6, Lib.hid rfl, HX6.out⟩
  case round =>
    obtain ⟨i, hi, rfl, hP, hk, hx⟩ := hrel
    clear HP6 HX6
    by_cases hlt : i < R
    · obtain ⟨bA2, oA2, bAi, oAi, cAi, eA, hAi, hAic, hAim, hAik⟩ := HA.out.at hlt
      obtain ⟨rfl, rfl⟩ : bA = bA2 ∧ oA = oA2 := by have := congrArg (fun x => (x.getD ⟨0, 0, none⟩ : Addr)) eA; simp at this; exact this
      obtain ⟨bB2, oB2, bBi, oBi, cBi, eB, hBi, hBic, hBim, hBik⟩ := HB.out.at hlt
      obtain ⟨rfl, rfl⟩ : bB = bB2 ∧ oB = oB2 := by have := congrArg (fun x => (x.getD ⟨0, 0, none⟩ : Addr)) eB; simp at this; exact this
      have k1 : ∀ x : Kp (fun w2 => Ex wr w2), x.val.cell? ⟨bA, oA + i, none⟩ = some (.slice (some ⟨bAi, oAi, none⟩) C cAi) := fun x => x.ok.cell (hx.cell hAi)
      have k2 : ∀ x : Kp (fun w2 => Ex wr w2), x.val.cell? ⟨bB, oB + i, none⟩ = some (.slice (some ⟨bBi, oBi, none⟩) D cBi) := fun x => x.ok.cell (hx.cell hBi)
      have HCC : Hid (∀ w2, Ex wr w2 → Calls Try.prog 48 #[.slice (some ⟨w2.heap.size, 0, none⟩) 2 2] (w2.alloc (.cells #[.slice (some ⟨bAi, oAi, none⟩) C cAi, .slice (some ⟨bBi, oBi, none⟩) D cBi] 32)) (fun e w3 => ∃ v : Value, e = .returned v ∧ Hid (Row 5 .u8 w3 w2.heap.size v (bl (sideBy A B C i) (C + D))) ∧ Ex w2 w3)) := Lib.hid fun w2 k =>
        concat_bytes_at (bl (A i) C) (bl (B i) D) _ C D w2.heap.size _ _ cAi cBi w2 (sideBy_row A B C D i) rfl (bl_length _ _) (bl_length _ _) (by omega) (by omega) (bl_reads fun k2 hk2 => (hx.trans k).cell (hAik k2 hk2)) (bl_reads fun k2 hk2 => (hx.trans k).cell (hBik k2 hk2)) (fun h => by cases h) (fun h => by cases h)
      haveI : Nonempty (Kp (fun w2 => Ex wr w2)) := ⟨⟨wr, Ex.refl wr⟩⟩
      have hd : Ex wr wr.drew := (Ex.refl wr).drew
      clear eA hAi hAik eB hBi hBik
      go_wp2
      refine wp_region_scrT (fun w2 => ∃ x : Kp (fun w2 => Ex wr w2), w2 = x.val) 13 (.take 0 (.take 1 (.take 2 (.take 3 (.take 4 (.take 5 (.take 6 (.take 7 (.take 8 (.take 9 (.one 10 (.one 11 (.take 12 (.fin)))))))))))))) (by kernel_rfl) (by kernel_rfl) (by intro _ _ d _ _ h; cases d <;> exact h) ⟨⟨_, (by first | exact hd | exact hd.trans hw7 | exact hd.alloc _)⟩, rfl⟩ ?_
      generalize wr.drew = wd at hd ⊢
      simp only [fillS, List.getD_cons_zero, List.getD_cons_succ]
      repeat' (first
        | ((with_reducible refine wpScr_pure ?_); go_big_quiet_step (fail); (with_reducible refine scrQ_on ?_))
        | ((with_reducible refine wpScr_turn ?_); intro K hK; go_wp2_with (first | fail |(go_at_call 48; (with_reducible refine (HCC.out _ hd).mono ?_); rintro e w7 ⟨v7, rfl, hrow7, hw7⟩)); refine hK _ _ ⟨⟨_, (by first | exact hd | exact hd.trans hw7 | exact hd.alloc _)⟩, rfl⟩ ?_; clear hK K)
        | (with_reducible refine wpScr_two ?_ ?_)
        | (with_reducible refine wpScr_three ?_ ?_ ?_)
        | (with_reducible refine wpScr_nil ?_))
      all_goals simp only [tailQ, List.drop_succ_cons, List.drop_zero]
      have HX7 := Lib.hid (hd.trans hw7)
      have HR7 := Lib.hid (hrow7.out.less hd.size)
      obtain ⟨⟨u8, c8⟩, f8, g1, _⟩ := (hP.out.ex HX7.out).cell hlt
      obtain ⟨ar8, cr8, e8, _⟩ := HR7.out.reads
      rw [bl_length] at e8
      subst e8
      clear k1 k2
      go_wp2
      go_roundg (R - (i + 1))
      case measure => have := hk.out; omega
      case rel => exact ⟨i + 1, by omega, by go_num, Lib.hid ((hP.out.set HX7.out HR7.out (by omega) hlt hx.size).congr fun r _ k _ => by by_cases h : r = i <;> simp [h]), Lib.hid rfl, (hx.trans HX7.out).setCell (p := ⟨w.heap.size, i, none⟩) (Nat.le_refl _) _⟩
    · have e : R = i := by omega
      subst e
      have HT := Lib.hid (hP.out.readsT hR)
      clear hP
      go_wp2
      go_ret
      exact ⟨_, rfl, HT, hx⟩

set_option maxHeartbeats 1000000 in
theorem mmul_no {m n : List (List Int)} {a b : Option Addr} {la ca lb cb : Nat} {w : World} (ha : IsMat .u8 w a la ca m) (hb : IsMat .u8 w b lb cb n) (h : mulE m n ≠ 0) :
    Calls Try.prog 10 #[.slice a la ca, .slice b lb cb] w (Nil2 (mulE m n) w) := by
  have HCA := Lib.hid (checkC.any ha)
  have HCB := Lib.hid fun w2 (k : Ex w w2) => checkC.any (hb.ex k)
  by_cases h1 : tabE m = 0
  · by_cases h2 : tabE n = 0
    · have he : mulE m n = 3 := by
        unfold mulE at h ⊢
        rw [if_neg (by simpa using h1), if_neg (by simpa using h2)] at h ⊢
        by_cases h3 : n.length ≠ colsM m
        · rw [if_pos h3]
        · rw [if_neg h3] at h; exact absurd rfl h
      have hne : lb ≠ colsM m := by
        rw [← hb.1]
        intro h3
        exact h (mulE_zero.mpr ⟨h1, h2, h3⟩)
      obtain ⟨s1, s2, s3, s4, s5⟩ := ha.ok h1
      obtain ⟨bA, oA, bA0, oA0, cA0, rfl, hA0, hA0c, hA0m, _⟩ := s5.at (r := 0) (by omega)
      rw [Nat.add_zero] at hA0
      obtain ⟨L, hL⟩ : ∃ L, colsM m = L := ⟨_, rfl⟩
      rw [hL] at hA0 hA0c s4 s3 hne
      have q2 : ((lb : Int) != (L : Int)) = true := by simp; omega
      have t5 := hb.2.1
      have t6 := hb.2.2.1
      rw [he]
      rw [h1] at HCA
      rw [h2] at HCB
      clear he h s5 hL ha hb
      go_enter Try.func10, Try.ntmps10
      go_wp2_with (first
        | (go_at_call 14; (with_reducible refine (HCA.out).mono ?_); rintro e w1 ⟨rfl, hw1⟩; clear HCA)
        | (go_at_call 14; (with_reducible refine (HCB.out _ hw1).mono ?_); rintro e w2 ⟨rfl, hw2⟩
           have hxw := hw1.trans hw2
           have hA2 := hxw.cell hA0))
      go_ret2
      exact ⟨_, _, rfl, hxw⟩
    · have he : mulE m n = tabE n := by unfold mulE; rw [if_neg (by simpa using h1), if_pos h2]
      rw [he]
      rw [h1] at HCA
      obtain ⟨t, ht⟩ : ∃ t, tabE n = t := ⟨_, rfl⟩
      rw [ht] at HCB h2 ⊢
      have q2 : (t != 0) = true := by simpa using h2
      clear ht he h ha hb
      go_enter Try.func10, Try.ntmps10
      go_wp2_with (first
        | (go_at_call 14; (with_reducible refine (HCA.out).mono ?_); rintro e w1 ⟨rfl, hw1⟩; clear HCA)
        | (go_at_call 14; (with_reducible refine (HCB.out _ hw1).mono ?_); rintro e w2 ⟨rfl, hw2⟩))
      go_ret2
      exact ⟨_, _, rfl, hw1.trans hw2⟩
  · have he : mulE m n = tabE m := by unfold mulE; rw [if_pos h1]
    rw [he]
    obtain ⟨t, ht⟩ : ∃ t, tabE m = t := ⟨_, rfl⟩
    rw [ht] at HCA h1 ⊢
    have q2 : (t != 0) = true := by simpa using h1
    clear ht he h ha hb HCB
    go_enter Try.func10, Try.ntmps10
    go_wp2_with (go_at_call 14; (with_reducible refine (HCA.out).mono ?_); rintro e w1 ⟨rfl, hw1⟩; clear HCA)
    go_ret2
    exact ⟨_, _, rfl, hw1⟩
theorem mulC : MulC := ⟨mmul_no, mmul_ok⟩

end Go.Proofs.Ytmmfclkkncbgfaa
