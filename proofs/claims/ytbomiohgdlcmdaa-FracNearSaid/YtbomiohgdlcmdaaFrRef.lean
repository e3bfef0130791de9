/-
  The document's own answer: what is nearest, of all; in lowest terms.
-/
import Derived.Test.YtbomiohgdlcmdaaFrSums
import Derived.Test.YtbomiohgdlcmdaaGcdOf
import Derived.Deep.CutRange
import Derived.Deep.DeepCutAuto
import Derived.RegionTactic
import Derived.BigRegion
import Derived.Test.YtbomiohgdlcmdaaMixP
namespace Go.Proofs.Ytbomiohgdlcmdaa
open Go.RowKit
open Eu Fr

theorem tdiv_at {a b : Int} (h : 0 ≤ a) : a.tdiv b = a / b := Int.tdiv_eq_ediv_of_nonneg h

set_option maxHeartbeats 1000000 in
theorem lowest_any (a b : Int) (w : World) (a0 : 0 ≤ a) (a1 : a ≤ 1000000000000000) (b0 : 1 ≤ b) (b1 : b ≤ 1000000) :
    Calls Try.prog 28 #[.agg #[.int .i64 a, .int .i64 b]] w (Says (.agg #[.int .i64 (a / G a b), .int .i64 (b / G a b)]) w) := by
  have HX := Lib.hid (((Ex.refl w).alloc (.cells #[.int .i64 a, .int .i64 b] 23)).alloc (.cells #[.int .i64 0, .int .i64 0] 23))
  have HA : Hid (Two 23 ((w.alloc (.cells #[.int .i64 a, .int .i64 b] 23)).alloc (.cells #[.int .i64 0, .int .i64 0] 23)) w.heap.size a b) := Lib.hid ((Two.at rfl).ex ((Ex.refl _).alloc _))
  have HB : Hid (Two 23 ((w.alloc (.cells #[.int .i64 a, .int .i64 b] 23)).alloc (.cells #[.int .i64 0, .int .i64 0] 23)) (w.heap.size + 1) 0 0) := Lib.hid (Two.at (by simp))
  have hg := G_pos (a := a) (b := b) (.inr (by omega))
  have HG := Lib.hid fun w => gcdOf_any a b w (by omega) (by omega) (by omega) (by omega)
  obtain ⟨g, hgg⟩ : ∃ g, G a b = g := ⟨_, rfl⟩
  rw [hgg] at hg HG
  rw [hgg]
  clear hgg
  have g0 : g ≠ 0 := by omega
  have t1 := tdiv_at (b := g) a0
  have t2 : b.tdiv g = b / g := tdiv_at (by omega)
  have d1 := Int.ediv_nonneg (a := a) (b := g) (by omega) (by omega)
  have d2 := Int.ediv_le_self (a := a) g (by omega)
  have d3 := Int.ediv_nonneg (a := b) (b := g) (by omega) (by omega)
  have d4 := Int.ediv_le_self (a := b) g (by omega)
  go_enter Try.func28, Try.ntmps28
  go_wp2_with (
    (go_at_call 35; (with_reducible refine (HG.out _).mono ?_); rintro e w2 ⟨rfl, hw2⟩
     have HA2 := Lib.hid (HA.out.ex hw2)
     have HB2 := Lib.hid (HB.out.ex hw2)
     have ca0 := HA2.out.c0
     have ca1 := HA2.out.c1
     have caf0 := HA2.out.free 0
     have caf1 := HA2.out.free 1
     have cb0 := HB2.out.c0
     have cb1 := HB2.out.c1
     have cbf0 := HB2.out.free 0
     have cbf1 := HB2.out.free 1
     ))
  have e1 : w.heap.size ≠ w.heap.size + 1 := by omega
  have e2 : w.heap.size + 1 ≠ w.heap.size := by omega
  go_region
  go_wp2
  (try simp only [Exit.inBlock, Exit.then])
  refine bodyPost_ret (res_two rfl _ _ _ _ _ _ rfl ((HB2.out.set).ex (Ex.refl _).drew) Try.underlying23 (by kernel_rfl)) rfl ?_
  exact ⟨rfl, ((HX.out.trans hw2).set2 (by omega) _ _).drew⟩

theorem near_round {P Q a b c d : Int} {q : Int} (hQ : 1 ≤ Q) (hq : 2 ≤ q) (hl : Best P Q (q - 1) a b) (hh : Best (-P) Q (q - 1) (-c) d) :
    (a * q < P * q / Q * b → Best P Q q (P * q / Q) q) ∧ (¬ a * q < P * q / Q * b → Best P Q q a b) ∧
    ((P * q + Q - 1) / Q * d < c * q → Best (-P) Q q (-((P * q + Q - 1) / Q)) q) ∧ (¬ (P * q + Q - 1) / Q * d < c * q → Best (-P) Q q (-c) d) := by
  have e : q - 1 + 1 = q := by omega
  have hc : -((P * q + Q - 1) / Q) = -P * q / Q := by rw [ceil_neg hQ, Int.neg_neg, Int.neg_mul]
  have t1 := best_take hQ hl (by omega)
  have t2 := best_keep hQ hl
  have t3 := best_take hQ hh (by omega)
  have t4 := best_keep hQ hh
  rw [e] at t1 t2 t3 t4
  rw [← hc] at t3 t4
  rw [Int.neg_mul, Int.neg_mul] at t3 t4
  exact ⟨t1, t2, fun h => t3 (by omega), fun h => t4 (by omega)⟩

theorem near_first {P Q : Int} (hQ : 1 ≤ Q) : Best P Q 1 (P / Q) 1 ∧ Best (-P) Q 1 (-((P + Q - 1) / Q)) 1 := by
  refine ⟨best_one hQ, ?_⟩
  rw [ceil_neg hQ, Int.neg_neg]
  exact best_one hQ

theorem high_lowest {P Q N c d : Int} (h : Best (-P) Q N (-c) d) : IsHigh P Q N (c / G c d) (d / G c d) := by
  have := h.lowest.1
  rw [G_neg] at this
  unfold IsHigh
  rwa [Int.neg_ediv_of_dvd (G_dvd_left c d)] at this

/-- What NearOf answers. -/
def NearOfSays (P Q m : Int) (w : World) (e : Ending) (w2 : World) : Prop :=
  ∃ a b c d, IsLow P Q m a b ∧ IsHigh P Q m c d ∧ Says (.tuple #[.agg #[.int .i64 a, .int .i64 b], .agg #[.int .i64 c, .int .i64 d]]) w e w2

set_option maxRecDepth 100000 in
set_option maxHeartbeats 4000000 in
theorem nearOf_ok (P Q m : Int) (w : World) (h : OkFr P Q) (m1 : 1 ≤ m) (m2 : m ≤ 1000000) :
    Calls Try.prog 16 #[.agg #[.int .i64 P, .int .i64 Q], .int .i64 m] w (NearOfSays P Q m w) := by
  obtain ⟨w0, hw0⟩ : ∃ w0, w0 = ((w.alloc (.cells #[.int .i64 P, .int .i64 Q] 23)).alloc (.cells #[.int .i64 0, .int .i64 0] 23)).alloc (.cells #[.int .i64 0, .int .i64 0] 23) := ⟨_, rfl⟩
  have HW0 := Lib.hid hw0
  have HX : Hid (Ex w w0) := Lib.hid (by rw [hw0]; exact ((Ex.refl w).alloc _).alloc _ |>.alloc _)
  have HV : Hid (Two 23 w0 w.heap.size P Q) := Lib.hid (by rw [hw0]; exact ((Two.at rfl).ex ((Ex.refl _).alloc _)).ex ((Ex.refl _).alloc _))
  have HA : Hid (Two 23 w0 (w.heap.size + 1) 0 0) := Lib.hid (by rw [hw0]; exact (Two.at (by simp)).ex ((Ex.refl _).alloc _))
  have HB : Hid (Two 23 w0 (w.heap.size + 1 + 1) 0 0) := Lib.hid (by rw [hw0]; exact Two.at (by simp))
  have HSZ : Hid (w0.heap.size = w.heap.size + 1 + 1 + 1) := Lib.hid (by rw [hw0]; simp)
  have HFIRST := Lib.hid (near_first (P := P) (Q := Q) h.1)
  clear hw0
  obtain ⟨h1, h2, h3, h4⟩ := h
  have t1 := tdiv_at (b := Q) h3
  have t2 : (P + Q - 1).tdiv Q = (P + Q - 1) / Q := tdiv_at (by omega)
  have d1 := Int.ediv_nonneg (a := P) (b := Q) (by omega) (by omega)
  have d2 := Int.ediv_le_self (a := P) Q (by omega)
  have d3 := Int.ediv_nonneg (a := P + Q - 1) (b := Q) (by omega) (by omega)
  have d4 := Int.ediv_le_self (a := P + Q - 1) Q (by omega)
  have q0 : Q ≠ 0 := by omega
  go_enter Try.func16, Try.ntmps16
  go_upto_region 1 with (fail)
  have HE := HW0.out
  rw [← HE]
  clear HE
  have s0 := HV.out.lt
  have s1 := HA.out.lt
  have s2 := HB.out.lt
  go_cut [6, 7] (fun v6 v7 wx => ∃ b6 b7 : Nat, v6 = .pointer (some ⟨b6, 0, none⟩) ∧ v7 = .pointer (some ⟨b7, 0, none⟩) ∧ w0.heap.size ≤ b6 ∧ w0.heap.size ≤ b7 ∧ b6 ≠ b7 ∧ b7 ≠ b6 ∧ Hid (Two 23 wx b6 (P / Q) 1) ∧ Hid (Two 23 wx b7 ((P + Q - 1) / Q) 1) ∧ Ex w0 wx)
  case first =>
    haveI : Nonempty (Kp (fun x => Two 23 x w.heap.size P Q)) := ⟨⟨w0, HV.out⟩⟩
    have qv0 : ∀ x : Kp (fun x => Two 23 x w.heap.size P Q), x.val.cell? ⟨w.heap.size, 0, none⟩ = some (.int .i64 P) := fun x => x.ok.c0
    have qv1 : ∀ x : Kp (fun x => Two 23 x w.heap.size P Q), x.val.cell? ⟨w.heap.size, 1, none⟩ = some (.int .i64 Q) := fun x => x.ok.c1
    refine wp_region_scr (fun w2 => ∃ x : Kp (fun x => Two 23 x w.heap.size P Q), w2 = x.val) (.take 0 (.take 1 (.take 2 (.take 3 (.take 4 (.take 5 (.take 6 (.take 7 (.take 8 (.take 9 (.take 10 (.take 11 (.take 12 (.take 13 (.take 14 (.take 15 (.two 16 (.one 17 (.one 18 (.one 19 (.fin)))) 17 (.one 16 (.one 18 (.one 19 (.fin))))))))))))))))))))) (by kernel_rfl) (by kernel_rfl) (by intro _ _ d _ _ h; cases d <;> exact h) ⟨⟨_, (by repeat (first | exact HV.out | refine Two.ex ?_ ((Ex.refl _).alloc _) | refine Two.ex ?_ (Ex.refl _).drew | refine Two.off ?_ (by omega)))⟩, rfl⟩ ?_
    simp only [fillS, List.getD_cons_zero, List.getD_cons_succ]
    repeat' (first
      | ((with_reducible refine wpScr_pure ?_); go_big_quiet_step (fail); (with_reducible refine scrQ_on ?_))
      | ((with_reducible refine wpScr_turn ?_); intro K hK; go_wp2_with (first | fail); refine hK _ _ ⟨⟨_, (by repeat (first | exact HV.out | refine Two.ex ?_ ((Ex.refl _).alloc _) | refine Two.ex ?_ (Ex.refl _).drew | refine Two.off ?_ (by omega)))⟩, rfl⟩ ?_; clear hK K)
      | (with_reducible refine wpScr_two ?_ ?_)
      | (with_reducible refine wpScr_nil ?_))
    all_goals go_wp2
    all_goals go_meet
    all_goals first
      | exact ⟨_, _, rfl, rfl, by omega, by omega, by omega, by omega, Lib.hid (((Two.at (by simp)).ex ((Ex.refl _).alloc _)).ex (Ex.refl _).drew), Lib.hid ((Two.at (by simp)).ex (Ex.refl _).drew), (((Ex.refl _).alloc _).alloc _).drew⟩
      | exact ⟨_, _, rfl, rfl, by omega, by omega, by omega, by omega, Lib.hid ((Two.at (by simp)).ex (Ex.refl _).drew), Lib.hid (((Two.at (by simp)).ex ((Ex.refl _).alloc _)).ex (Ex.refl _).drew), (((Ex.refl _).alloc _).alloc _).drew⟩
  case rest =>
    obtain ⟨b6, b7, rfl, rfl, g6, g7, g67, g76, h6, h7, hx0⟩ := hcut
    rename World => w1
    clear t1 t2
    go_wp2
    go_loopg [8] (m - 1).toNat (fun k v8 wr => ∃ (q a b c d : Int), 2 ≤ q ∧ q ≤ m + 1 ∧ v8 = .int .i64 q ∧ Hid (k = (m + 1 - q).toNat) ∧ 0 ≤ a ∧ a ≤ 1000000000000 ∧ 1 ≤ b ∧ b ≤ 1000000 ∧ 0 ≤ c ∧ c ≤ 2000000000000 ∧ 1 ≤ d ∧ d ≤ 1000000 ∧ Hid (Best P Q (q - 1) a b) ∧ Hid (Best (-P) Q (q - 1) (-c) d) ∧ Hid (Two 23 wr b6 a b) ∧ Hid (Two 23 wr b7 c d) ∧ Ex w0 wr)
    case atStart => exact ⟨2, _, _, _, _, by omega, by omega, rfl, Lib.hid (by omega), d1, by omega, by omega, by omega, d3, by omega, by omega, by omega, Lib.hid HFIRST.out.1, Lib.hid HFIRST.out.2, h6, h7, hx0⟩
    case round =>
      obtain ⟨q, a, b, c, d, q1, q2, rfl, hk, a0, a1, b0, b1, c0, c1, d5, d6, hL, hH, H6, H7, hx⟩ := hrel
      clear d1 d2 d3 d4
      have HVr := Lib.hid (HV.out.ex hx)
      by_cases hq : q ≤ m
      · have hrnd := near_round h1 q1 hL.out hH.out
        have HR := Lib.hid hrnd
        have n0 : 0 ≤ P * q := Int.mul_nonneg h3 (by omega)
        have n1 : P * q ≤ 1000000 * q := Int.mul_le_mul_of_nonneg_right h4 (by omega)
        have t1 : (P * q).tdiv Q = P * q / Q := tdiv_at n0
        have t2 : (P * q + Q - 1).tdiv Q = (P * q + Q - 1) / Q := tdiv_at (by omega)
        have d1 := Int.ediv_nonneg (a := P * q) (b := Q) n0 (by omega)
        have d2 := Int.ediv_le_self (a := P * q) Q n0
        have d3 := Int.ediv_nonneg (a := P * q + Q - 1) (b := Q) (by omega) (by omega)
        have d4 := Int.ediv_le_self (a := P * q + Q - 1) Q (by omega)
        obtain ⟨F, hF⟩ : ∃ F, P * q / Q = F := ⟨_, rfl⟩
        obtain ⟨H, hH2⟩ : ∃ F, (P * q + Q - 1) / Q = F := ⟨_, rfl⟩
        rw [hF] at t1 d1 d2 HR
        rw [hH2] at t2 d3 d4 HR
        clear hrnd hF hH2
        go_upto_region 5 with (fail)
        go_cut [9, 10] (fun v9 v10 wx => ∃ b9 b10 : Nat, v9 = .pointer (some ⟨b9, 0, none⟩) ∧ v10 = .pointer (some ⟨b10, 0, none⟩) ∧ wr.heap.size ≤ b9 ∧ wr.heap.size ≤ b10 ∧ Hid (Two 23 wx b9 F q) ∧ Hid (Two 23 wx b10 H q) ∧ Ex wr wx)
        case first =>
          haveI : Nonempty (Kp (fun x => Two 23 x w.heap.size P Q)) := ⟨⟨wr, HVr.out⟩⟩
          have qv0 : ∀ x : Kp (fun x => Two 23 x w.heap.size P Q), x.val.cell? ⟨w.heap.size, 0, none⟩ = some (.int .i64 P) := fun x => x.ok.c0
          have qv1 : ∀ x : Kp (fun x => Two 23 x w.heap.size P Q), x.val.cell? ⟨w.heap.size, 1, none⟩ = some (.int .i64 Q) := fun x => x.ok.c1
          have s4 := HVr.out.lt
          refine wp_region_scr (fun w2 => ∃ x : Kp (fun x => Two 23 x w.heap.size P Q), w2 = x.val) (.take 0 (.take 1 (.take 2 (.take 3 (.take 4 (.take 5 (.take 6 (.take 7 (.take 8 (.take 9 (.take 10 (.take 11 (.take 12 (.take 13 (.take 14 (.take 15 (.take 16 (.take 17 (.take 18 (.take 19 (.take 20 (.take 21 (.two 22 (.one 23 (.one 24 (.one 25 (.fin)))) 23 (.one 22 (.one 24 (.one 25 (.fin))))))))))))))))))))))))))) (by kernel_rfl) (by kernel_rfl) (by intro _ _ d _ _ h; cases d <;> exact h) ⟨⟨_, (by repeat (first | exact HVr.out | refine Two.ex ?_ ((Ex.refl _).alloc _) | refine Two.ex ?_ (Ex.refl _).drew | refine Two.off ?_ (by omega)))⟩, rfl⟩ ?_
          simp only [fillS, List.getD_cons_zero, List.getD_cons_succ]
          repeat' (first
            | ((with_reducible refine wpScr_pure ?_); go_big_quiet_step (fail); (with_reducible refine scrQ_on ?_))
            | ((with_reducible refine wpScr_turn ?_); intro K hK; go_wp2_with (first | fail); refine hK _ _ ⟨⟨_, (by repeat (first | exact HVr.out | refine Two.ex ?_ ((Ex.refl _).alloc _) | refine Two.ex ?_ (Ex.refl _).drew | refine Two.off ?_ (by omega)))⟩, rfl⟩ ?_; clear hK K)
            | (with_reducible refine wpScr_two ?_ ?_)
            | (with_reducible refine wpScr_nil ?_))
          all_goals go_wp2
          all_goals go_meet
          all_goals first
            | exact ⟨_, _, rfl, rfl, by omega, by omega, Lib.hid (((Two.at (by simp)).ex ((Ex.refl _).alloc _)).ex (Ex.refl _).drew), Lib.hid ((Two.at (by simp)).ex (Ex.refl _).drew), (((Ex.refl _).alloc _).alloc _).drew⟩
            | exact ⟨_, _, rfl, rfl, by omega, by omega, Lib.hid ((Two.at (by simp)).ex (Ex.refl _).drew), Lib.hid (((Two.at (by simp)).ex ((Ex.refl _).alloc _)).ex (Ex.refl _).drew), (((Ex.refl _).alloc _).alloc _).drew⟩
        case rest =>
          obtain ⟨b9, b10, rfl, rfl, g9, g10, h9, h10, hx9⟩ := hcut
          rename World => w9
          have h6s := H6.out.lt
          have h7s := H7.out.lt
          have H69 := Lib.hid (H6.out.ex hx9)
          have H79 := Lib.hid (H7.out.ex hx9)
          have n1 : b6 ≠ b9 := by omega
          have n2 : b6 ≠ b10 := by omega
          have n3 : b7 ≠ b9 := by omega
          have n4 : b7 ≠ b10 := by omega
          have n5 : b9 ≠ b6 := by omega
          have n6 : b10 ≠ b6 := by omega
          have n7 : b9 ≠ b7 := by omega
          have n8 : b10 ≠ b7 := by omega
          have ca0 := h9.out.c0
          have ca1 := h9.out.c1
          have caf0 := h9.out.free 0
          have caf1 := h9.out.free 1
          have cb0 := h10.out.c0
          have cb1 := h10.out.c1
          have cbf0 := h10.out.free 0
          have cbf1 := h10.out.free 1
          have cc0 := H69.out.c0
          have cc1 := H69.out.c1
          have ccf0 := H69.out.free 0
          have ccf1 := H69.out.free 1
          have cd0 := H79.out.c0
          have cd1 := H79.out.c1
          have cdf0 := H79.out.free 0
          have cdf1 := H79.out.free 1
          have x1 : 0 ≤ F * b := Int.mul_nonneg d1 (by omega)
          have x2 : F * b ≤ F * 1000000 := Int.mul_le_mul_of_nonneg_left b1 d1
          have y1 : 0 ≤ a * q := Int.mul_nonneg a0 (by omega)
          have y2 : a * q ≤ 1000000000000 * q := Int.mul_le_mul_of_nonneg_right a1 (by omega)
          have x3 : 0 ≤ H * d := Int.mul_nonneg d3 (by omega)
          have x4 : H * d ≤ H * 1000000 := Int.mul_le_mul_of_nonneg_left d6 d3
          have y3 : 0 ≤ c * q := Int.mul_nonneg c0 (by omega)
          have y4 : c * q ≤ 2000000000000 * q := Int.mul_le_mul_of_nonneg_right c1 (by omega)
          have eq1 : q + 1 - 1 = q := by omega
          by_cases k1 : a * q < F * b
          · by_cases k2 : H * d < c * q
            · go_wp2
              go_roundg (m + 1 - (q + 1)).toNat
              case measure => have := hk.out; omega
              case rel => exact ⟨q + 1, _, _, _, _, by omega, by omega, by go_num, Lib.hid rfl, by omega, by omega, by omega, by omega, by omega, by omega, by omega, by omega, Lib.hid (by rw [eq1]; exact HR.out.1 k1), Lib.hid (by rw [eq1]; exact HR.out.2.2.1 k2), Lib.hid (((H69.out).set).off2 (by omega)), Lib.hid (((H79.out).off2 (by omega)).set), ((hx.trans hx9).set2 (by omega) _ _).set2 (by omega) _ _⟩
            · go_wp2
              go_roundg (m + 1 - (q + 1)).toNat
              case measure => have := hk.out; omega
              case rel => exact ⟨q + 1, _, _, _, _, by omega, by omega, by go_num, Lib.hid rfl, by omega, by omega, by omega, by omega, by omega, by omega, by omega, by omega, Lib.hid (by rw [eq1]; exact HR.out.1 k1), Lib.hid (by rw [eq1]; exact HR.out.2.2.2 k2), Lib.hid ((H69.out).set), Lib.hid ((H79.out).off2 (by omega)), (hx.trans hx9).set2 (by omega) _ _⟩
          · by_cases k2 : H * d < c * q
            · go_wp2
              go_roundg (m + 1 - (q + 1)).toNat
              case measure => have := hk.out; omega
              case rel => exact ⟨q + 1, _, _, _, _, by omega, by omega, by go_num, Lib.hid rfl, by omega, by omega, by omega, by omega, by omega, by omega, by omega, by omega, Lib.hid (by rw [eq1]; exact HR.out.2.1 k1), Lib.hid (by rw [eq1]; exact HR.out.2.2.1 k2), Lib.hid ((H69.out).off2 (by omega)), Lib.hid ((H79.out).set), ((hx.trans hx9)).set2 (by omega) _ _⟩
            · go_wp2
              go_roundg (m + 1 - (q + 1)).toNat
              case measure => have := hk.out; omega
              case rel => exact ⟨q + 1, _, _, _, _, by omega, by omega, by go_num, Lib.hid rfl, by omega, by omega, by omega, by omega, by omega, by omega, by omega, by omega, Lib.hid (by rw [eq1]; exact HR.out.2.1 k1), Lib.hid (by rw [eq1]; exact HR.out.2.2.2 k2), Lib.hid (H69.out), Lib.hid (H79.out), (hx.trans hx9)⟩
      · obtain rfl : q = m + 1 := by omega
        have e : m + 1 - 1 = m := by omega
        have HL := Lib.hid (hL.out.lowest.1)
        have HH := Lib.hid (high_lowest hH.out)
        rw [e] at HL HH
        have K1 := Lib.hid fun w => lowest_any a b w a0 (by omega) b0 b1
        have K2 := Lib.hid fun w => lowest_any c d w c0 (by omega) d5 d6
        have HA2 := Lib.hid (HA.out.ex hx)
        have HB2 := Lib.hid (HB.out.ex hx)
        go_wp2
        have hx2 : Ex wr wr.drew := (Ex.refl _).drew
        have KC : Hid (Ex wr wr.drew) := Lib.hid hx2
        haveI : Nonempty (Kp (fun x => Two 23 x b6 a b ∧ Two 23 x b7 c d)) := ⟨⟨wr, H6.out, H7.out⟩⟩
        have q0 : ∀ x : Kp (fun x => Two 23 x b6 a b ∧ Two 23 x b7 c d), x.val.cell? ⟨b6, 0, none⟩ = some (.int .i64 a) := fun x => x.ok.1.c0
        have q1 : ∀ x : Kp (fun x => Two 23 x b6 a b ∧ Two 23 x b7 c d), x.val.cell? ⟨b6, 1, none⟩ = some (.int .i64 b) := fun x => x.ok.1.c1
        have q2 : ∀ x : Kp (fun x => Two 23 x b6 a b ∧ Two 23 x b7 c d), x.val.cell? ⟨b7, 0, none⟩ = some (.int .i64 c) := fun x => x.ok.2.c0
        have q3 : ∀ x : Kp (fun x => Two 23 x b6 a b ∧ Two 23 x b7 c d), x.val.cell? ⟨b7, 1, none⟩ = some (.int .i64 d) := fun x => x.ok.2.c1
        refine wp_region_scr (fun w2 => ∃ x : Kp (fun x => Two 23 x b6 a b ∧ Two 23 x b7 c d), w2 = x.val) (.take 0 (.take 2 (.one 1 (.one 3 (.one 4 (.one 5 (.fin))))))) (by kernel_rfl) (by kernel_rfl) (by intro _ _ d _ _ h; cases d <;> exact h) ⟨⟨_, (by constructor <;> repeat (first | exact H6.out.ex KC.out | exact H7.out.ex KC.out | refine Two.off ?_ (by omega)))⟩, rfl⟩ ?_
        simp only [fillS, List.getD_cons_zero, List.getD_cons_succ]
        repeat' (first
          | ((with_reducible refine wpScr_pure ?_); go_big_quiet_step (fail); (with_reducible refine scrQ_on ?_))
          | ((with_reducible refine wpScr_turn ?_); intro K hK; go_wp2_with (first | fail |(go_at_call 28; (with_reducible refine (K1.out _).mono ?_); rintro e2 w3 ⟨rfl, hw3⟩; have hy3 : Ex wr w3 := hx2.trans hw3; have KC : Hid (Ex wr w3) := Lib.hid hy3; clear K1) | (go_at_call 28; (with_reducible refine (K2.out _).mono ?_); rintro e2 w4 ⟨rfl, hw4⟩; have hy4 : Ex wr w4 := hy3.trans hw4; have KC : Hid (Ex wr w4) := Lib.hid hy4; have HA4 := Lib.hid (HA2.out.ex hy4); have HB4 := Lib.hid (HB2.out.ex hy4); have ca0 := HA4.out.c0; have ca1 := HA4.out.c1; have caf0 := HA4.out.free 0; have caf1 := HA4.out.free 1; have cb0 := HB4.out.c0; have cb1 := HB4.out.c1; have cbf0 := HB4.out.free 0; have cbf1 := HB4.out.free 1; clear K2)); refine hK _ _ ⟨⟨_, (by constructor <;> repeat (first | exact H6.out.ex KC.out | exact H7.out.ex KC.out | refine Two.off ?_ (by omega)))⟩, rfl⟩ ?_; clear hK K)
          | (with_reducible refine wpScr_two ?_ ?_)
          | (with_reducible refine wpScr_nil ?_))
        go_wp2
        (try simp only [Exit.inBlock, Exit.then])
        refine bodyPost_ret (res_twos rfl _ _ _ _ _ _ _ _ _ rfl ((HA4.out.set).off2 (by omega)) rfl (((HB4.out.off2 (by omega)).set)) Try.underlying23 (by kernel_rfl)) rfl ?_
        exact ⟨_, _, _, _, HL.out, HH.out, rfl, (((HX.out.trans hx).trans hy4).set2 (by omega) _ _).set2 (by omega) _ _⟩

end Go.Proofs.Ytbomiohgdlcmdaa
