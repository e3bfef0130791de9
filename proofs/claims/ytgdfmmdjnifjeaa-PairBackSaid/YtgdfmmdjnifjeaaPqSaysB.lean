/-
  PairSays, by contracts: what is left, and the whole.
-/
import Derived.Test.YtgdfmmdjnifjeaaPqSays
namespace Go.Proofs.Ytgdfmmdjnifjeaa
open Go.RowKit
open Gf By Pq

set_option maxRecDepth 100000 in
set_option maxHeartbeats 4000000 in
theorem pairSays_q (HP : PrPutC) (HM : PrMendC) (a : Option Addr) (la ca : Nat) (ss : List ByteArray) (p q : ByteArray) (b : Option Addr) (lb cb : Nat) (z : List Int) (w : World) (ha : IsStrs w a la ca ss) (hb : IsInts .i64 8 w b lb cb z) (h0 : pqE ss ≠ 0) :
    Calls Try.prog 3 #[.slice a la ca, .string p, .string q, .slice b lb cb] w (Says (.bool true) w) := by
  have hla2 : la ≤ 140737488351232 := by have := ha.2.1; have := ha.2.2.1; omega
  have hat : ∀ {w2 : World}, Ex w w2 → IsStrs w2 a la ca ss := fun k => ⟨ha.1, ha.2.1, ha.2.2.1, ha.2.2.2.1.ex k, ha.2.2.2.2⟩
  have HPU := Lib.hid (HP.no ha h0)
  have HPO := Lib.hid fun w2 (k : Ex w w2) => pairOf_no ss a la ca w2 ha.1 hla2 (ha.2.2.2.1.ex k) h0
  have HME := Lib.hid fun w2 (k : Ex w w2) => HM.bad (p := p) (q := q) (hat k) (hb.ex k) h0
  have h3 := pqE_three ss
  have hgE := By.eql ByteArray.empty ByteArray.empty
  rw [decide_eq_true rfl] at hgE
  have HA0 : Hid (∀ w2, Ex w w2 → True) := Lib.hid fun _ _ => True.intro
  generalize pqE ss = E at *
  clear HP HM ha hb hat
  rcases h3 with e | e | e
  · exact absurd e h0
  · subst e
    go_enter Try.func3, Try.ntmps3
    go_wp2_with (first
    | (go_at_call 7; (with_reducible refine (HPU.out).mono ?_); rintro e w1 ⟨rfl, hw1⟩)
    | (go_at_call 8; (with_reducible refine (HME.out _ hw1).mono ?_); rintro e w2 ⟨am, cm, rfl, hw2⟩
       have hx2 := hw1.trans hw2)
    | (go_at_call 9; (with_reducible refine (HPO.out _ hx2).mono ?_); rintro e w3 ⟨rfl, hw3⟩
       have hx3 := hx2.trans hw3
       have q0 := HA0.out _ hx3)
        | fail)
    go_ret
    exact ⟨by simp, hx3⟩
  · subst e
    go_enter Try.func3, Try.ntmps3
    go_wp2_with (first
    | (go_at_call 7; (with_reducible refine (HPU.out).mono ?_); rintro e w1 ⟨rfl, hw1⟩)
    | (go_at_call 8; (with_reducible refine (HME.out _ hw1).mono ?_); rintro e w2 ⟨am, cm, rfl, hw2⟩
       have hx2 := hw1.trans hw2)
    | (go_at_call 9; (with_reducible refine (HPO.out _ hx2).mono ?_); rintro e w3 ⟨rfl, hw3⟩
       have hx3 := hx2.trans hw3
       have q0 := HA0.out _ hx3)
        | fail)
    go_ret
    exact ⟨by simp, hx3⟩

set_option maxRecDepth 100000 in
set_option maxHeartbeats 4000000 in
theorem pairSays_n (HP : PrPutC) (HM : PrMendC) (a : Option Addr) (la ca n : Nat) (ss : List ByteArray) (p q : ByteArray) (b : Option Addr) (lb cb : Nat) (z : List Int) (w : World) (ha : IsStrs w a la ca ss) (hb : IsInts .i64 8 w b lb cb z) (hB : Blk ss la n) (hmd : mdE la n p q z = 0) (hno : ∀ ms, ¬ MendTo la n ss p q z ms) :
    Calls Try.prog 3 #[.slice a la ca, .string p, .string q, .slice b lb cb] w (Says (.bool true) w) := by
  have hca := ha.2.1
  have hca2 : ca ≤ 9223372036854775807 := by have := ha.2.2.1; omega
  have hcb2 : cb ≤ 9223372036854775807 := by have := hb.2.2.1; omega
  have hlb2 : lb ≤ 140737488351232 := by have := hb.2.1; have := hb.2.2.1; omega
  have hl1 := hB.2.1
  have hl10 := hB.2.2.1
  have HPU := Lib.hid (HP.ok hB hca hca2 ha.2.2.2.1)
  have HPO := Lib.hid fun w2 (k : Ex w w2) => pairOf_ok ss a la ca n w2 hB (ha.2.2.2.1.ex k)
  have HME := Lib.hid fun w2 (k : Ex w w2) => HM.none (w := w2) hB hca hca2 (ha.2.2.2.1.ex k) hb.1 hb.2.1 hcb2 (hb.2.2.2.1.ex k) (fun x hx => wf_i64 (hb.2.2.2.2.2 x hx)) hmd hno
  have hs0 := hB.2.2.2.2 0 (by omega)
  have HZL : Hid (z.length = lb) := Lib.hid hb.1
  have HZC : Hid (∀ w2, Ex w w2 → 0 < lb → ∃ gZ oZ, b = some ⟨gZ, oZ, none⟩ ∧ ∀ j, j < lb → w2.cell? ⟨gZ, oZ + j, none⟩ = some (.int .i64 (nth z j))) := Lib.hid fun w2 k h => by
    rcases hb.2.2.2.1.ex k with e | ⟨gZ, oZ, e, hc⟩
    · have := hb.1; rw [e] at this; exact absurd this (by simp; omega)
    · exact ⟨gZ, oZ, e, fun j hj => hc j (by have := hb.1; omega)⟩
  have hm2 := hmd
  have hfront : p.size = n ∧ q.size = n ∧ lb ≤ 2 ∧ lostE la z = 0 := by
    unfold mdE at hm2
    by_cases h : p.size ≠ n ∨ q.size ≠ n
    · rw [if_pos h] at hm2; cases hm2
    · rw [if_neg h] at hm2
      refine ⟨by omega, by omega, ?_, hm2⟩
      match z, hb.1, hm2 with
      | _ :: _ :: _ :: _, _, e => cases e
      | [], e, _ => simp at e; omega
      | [_], e, _ => simp at e; omega
      | [_, _], e, _ => simp at e; omega
  obtain ⟨h1, h2, h3, h4⟩ := hfront
  have hlb1 : lb ≤ 1 := by
    match z, hb.1, hmd, hno with
    | [], e, _, _ => simp at e; omega
    | [_], e, _, _ => simp at e; omega
    | [_, _], _, hm, hn => obtain ⟨ms, hms⟩ := mend_two hB hm; exact absurd hms (hn ms)
    | _ :: _ :: _ :: _, e, _, _ => simp at e; omega
  rcases ha.2.2.2.1 with h | ⟨gA, oA, rfl, hA⟩
  · have := hB.1; rw [h] at this; exact absurd this (by simp; omega)
  have HMN := Lib.hid fun w2 (k : Ex w w2) => mendable_no ss (some ⟨gA, oA, none⟩) la ca n p q z b lb cb w2 hB (ha.2.2.2.1.ex k) (fun h => by cases h) hb.1 hlb1 (hb.2.2.2.1.ex k) hmd hno
  have HA0 : Hid (∀ w2, Ex w w2 → w2.cell? ⟨gA, oA, none⟩ = some (.string (nthS ss 0))) := Lib.hid fun w2 k => by
    have := k.cell (hA 0 (by have := hB.1; omega))
    rwa [Nat.add_zero] at this
  have hgP := By.eql (tP n ss) (tP n ss)
  have hgQ := By.eql (tQ n ss) (tQ n ss)
  rw [decide_eq_true rfl] at hgP hgQ
  obtain ⟨W, hW⟩ : ∃ W : Nat → Int, W = fun i => lostE la (z.take i) := ⟨_, rfl⟩
  have HW0 : Hid ((0 : Int) = W 0) := Lib.hid (by rw [hW]; rfl)
  have HWE : Hid (W lb = 0) := Lib.hid (by rw [hW, ← h4, ← HZL.out]; show lostE la (z.take z.length) = _; rw [List.take_length])
  have HST : Hid (LSteps la z W) := Lib.hid (by rw [hW]; exact steps_lost la z (by have := HZL.out; omega))
  have gl : decide (2 < (lb : Int)) = false := decide_eq_false (by omega)
  generalize tP n ss = P at *
  generalize tQ n ss = Q at *
  generalize hS0 : nthS ss 0 = s0 at *
  clear HP HM ha hb hB hA hm2 hmd hno hW hS0 h4 h3 hlb1
  go_enter Try.func3, Try.ntmps3
  go_upto_region 13 with (first
  | (go_at_call 7; (with_reducible refine (HPU.out).mono ?_); rintro e w1 ⟨rfl, hw1⟩)
  | (go_at_call 8; (with_reducible refine (HME.out _ hw1).mono ?_); rintro e w2 ⟨am, cm, rfl, hw2⟩
     have hx2 := hw1.trans hw2)
  | (go_at_call 9; (with_reducible refine (HPO.out _ hx2).mono ?_); rintro e w3 ⟨rfl, hw3⟩
     have hx3 := hx2.trans hw3
     have q0 := HA0.out _ hx3)
      | fail)
  have HX3 := Lib.hid hx3
  have HW3 := Lib.hid hw3
  clear hw1 hw2 hw3 hx2 hx3
  go_loopg [16, 89] lb (fun m v16 v89 wr => ∃ i : Nat, i ≤ lb ∧ v16 = .int .i64 (W i) ∧ v89 = .int .i64 (i : Int) ∧ Hid (m = lb - i) ∧ w3 = wr)
  case atStart => exact ⟨0, by omega, congrArg (Value.int .i64) HW0.out, rfl, Lib.hid rfl, rfl⟩
  case round =>
    obtain ⟨i, hi, rfl, rfl, hm, rfl⟩ := hrel
    by_cases hlt : i < lb
    · obtain ⟨gZ, oZ, rfl, hcZ⟩ := HZC.out w3 HX3.out (by omega)
      have c1 := hcZ i hlt
      have c0 := hcZ 0 (by omega)
      rw [Nat.add_zero] at c0
      have hst := HST.out.step i (by have := HZL.out; omega)
      obtain ⟨x, hx⟩ : ∃ x, nth z i = x := ⟨_, rfl⟩
      obtain ⟨x0, hx0⟩ : ∃ x0, nth z 0 = x0 := ⟨_, rfl⟩
      rw [hx] at c1 hst
      rw [hx0] at c0 hst
      obtain ⟨Wi, hWi⟩ : ∃ Wi, W i = Wi := ⟨_, rfl⟩
      have HXX : Hid (i = 0 → x = x0) := Lib.hid fun e => by rw [← hx, ← hx0, e]
      rw [hWi] at hst ⊢
      clear hcZ hx hx0
      rcases hst with ⟨s1, s2⟩ | ⟨s1, s2, s3⟩ | ⟨s1, s2, s3, s4, s5, s6⟩ | ⟨s1, s2, s3, s4, s5⟩
      · have g1 : (Wi == 0) = false := beq_eq_false_iff_ne.mpr s1
        have HS2 := Lib.hid s2.symm
        clear s2
        go_wp2
        go_roundg (lb - (i + 1))
        case measure => have := hm.out; omega
        case rel => exact ⟨i + 1, by omega, congrArg (Value.int .i64) HS2.out, by go_num, Lib.hid rfl, rfl⟩
      · subst s1
        have HS3 := Lib.hid s3.symm
        clear s3 hWi
        by_cases s4 : x < 0
        · have g2 : decide (x < 0) = true := decide_eq_true s4
          go_wp2
          go_roundg (lb - (i + 1))
          case measure => have := hm.out; omega
          case rel => exact ⟨i + 1, by omega, congrArg (Value.int .i64) HS3.out, by go_num, Lib.hid rfl, rfl⟩
        · have g2 : decide (x < 0) = false := decide_eq_false s4
          have g3 : decide ((la : Int) ≤ x) = true := decide_eq_true (by omega)
          go_wp2
          go_roundg (lb - (i + 1))
          case measure => have := hm.out; omega
          case rel => exact ⟨i + 1, by omega, congrArg (Value.int .i64) HS3.out, by go_num, Lib.hid rfl, rfl⟩
      · subst s1 s5
        have g2 : decide (x < 0) = false := decide_eq_false (by omega)
        have g3 : decide ((la : Int) ≤ x) = false := decide_eq_false (by omega)
        have g4 : decide (0 < (i : Int)) = true := decide_eq_true (by omega)
        have HS3 := Lib.hid s6.symm
        clear s6 hWi
        go_wp2
        go_roundg (lb - (i + 1))
        case measure => have := hm.out; omega
        case rel => exact ⟨i + 1, by omega, congrArg (Value.int .i64) HS3.out, by go_num, Lib.hid rfl, rfl⟩
      · subst s1
        have g2 : decide (x < 0) = false := decide_eq_false (by omega)
        have g3 : decide ((la : Int) ≤ x) = false := decide_eq_false (by omega)
        have HS3 := Lib.hid s5.symm
        clear s5 hWi
        by_cases i0 : i = 0
        · obtain rfl := HXX.out i0
          subst i0
          clear s4 HXX c1
          go_wp2
          go_roundg (lb - (0 + 1))
          case measure => have := hm.out; omega
          case rel => exact ⟨0 + 1, by omega, congrArg (Value.int .i64) HS3.out, by go_num, Lib.hid rfl, rfl⟩
        · have g4 : decide (0 < (i : Int)) = true := decide_eq_true (by omega)
          have g5 : (x == x0) = false := beq_eq_false_iff_ne.mpr (by rcases s4 with h | h; exact absurd h i0; exact h)
          go_wp2
          go_roundg (lb - (i + 1))
          case measure => have := hm.out; omega
          case rel => exact ⟨i + 1, by omega, congrArg (Value.int .i64) HS3.out, by go_num, Lib.hid rfl, rfl⟩
    · have e : i = lb := by omega
      subst e
      have g1 : decide ((i : Int) < (i : Int)) = false := decide_eq_false (by omega)
      obtain ⟨Ew, hEw⟩ : ∃ Ew, W i = Ew := ⟨_, rfl⟩
      have hE := HWE.out
      rw [hEw] at hE ⊢
      subst hE
      go_wp2_with (go_at_call 11; (with_reducible refine (HMN.out _ HX3.out).mono ?_); rintro e w4 ⟨rfl, hw4⟩)
      go_ret
      exact ⟨by simp, HX3.out.trans hw4⟩

set_option maxRecDepth 100000 in
set_option maxHeartbeats 4000000 in
theorem pairSays_y (HP : PrPutC) (HM : PrMendC) (a : Option Addr) (la ca n : Nat) (ss : List ByteArray) (p q : ByteArray) (b : Option Addr) (lb cb : Nat) (z : List Int) (w : World) (ha : IsStrs w a la ca ss) (hb : IsInts .i64 8 w b lb cb z) (hB : Blk ss la n) (hmd : mdE la n p q z = 0) (ms : List ByteArray) (hms : MendTo la n ss p q z ms) :
    Calls Try.prog 3 #[.slice a la ca, .string p, .string q, .slice b lb cb] w (Says (.bool true) w) := by
  have hca := ha.2.1
  have hca2 : ca ≤ 9223372036854775807 := by have := ha.2.2.1; omega
  have hcb2 : cb ≤ 9223372036854775807 := by have := hb.2.2.1; omega
  have hlb2 : lb ≤ 140737488351232 := by have := hb.2.1; have := hb.2.2.1; omega
  have hl1 := hB.2.1
  have hl10 := hB.2.2.1
  have HPU := Lib.hid (HP.ok hB hca hca2 ha.2.2.2.1)
  have HPO := Lib.hid fun w2 (k : Ex w w2) => pairOf_ok ss a la ca n w2 hB (ha.2.2.2.1.ex k)
  have HME := Lib.hid fun w2 (k : Ex w w2) => HM.some (w := w2) hB hca hca2 (ha.2.2.2.1.ex k) hb.1 hb.2.1 hcb2 (hb.2.2.2.1.ex k) (fun x hx => wf_i64 (hb.2.2.2.2.2 x hx)) hmd hms
  have hs0 := hB.2.2.2.2 0 (by omega)
  have HZL : Hid (z.length = lb) := Lib.hid hb.1
  have HZC : Hid (∀ w2, Ex w w2 → 0 < lb → ∃ gZ oZ, b = some ⟨gZ, oZ, none⟩ ∧ ∀ j, j < lb → w2.cell? ⟨gZ, oZ + j, none⟩ = some (.int .i64 (nth z j))) := Lib.hid fun w2 k h => by
    rcases hb.2.2.2.1.ex k with e | ⟨gZ, oZ, e, hc⟩
    · have := hb.1; rw [e] at this; exact absurd this (by simp; omega)
    · exact ⟨gZ, oZ, e, fun j hj => hc j (by have := hb.1; omega)⟩
  have hm2 := hmd
  have hfront : p.size = n ∧ q.size = n ∧ lb ≤ 2 ∧ lostE la z = 0 := by
    unfold mdE at hm2
    by_cases h : p.size ≠ n ∨ q.size ≠ n
    · rw [if_pos h] at hm2; cases hm2
    · rw [if_neg h] at hm2
      refine ⟨by omega, by omega, ?_, hm2⟩
      match z, hb.1, hm2 with
      | _ :: _ :: _ :: _, _, e => cases e
      | [], e, _ => simp at e; omega
      | [_], e, _ => simp at e; omega
      | [_, _], e, _ => simp at e; omega
  obtain ⟨h1, h2, h3, h4⟩ := hfront
  rcases ha.2.2.2.1 with h | ⟨gA, oA, rfl, hA⟩
  · have := hB.1; rw [h] at this; exact absurd this (by simp; omega)
  have HA0 : Hid (∀ w2, Ex w w2 → w2.cell? ⟨gA, oA, none⟩ = some (.string (nthS ss 0))) := Lib.hid fun w2 k => by
    have := k.cell (hA 0 (by have := hB.1; omega))
    rwa [Nat.add_zero] at this
  have HAA : Hid (∀ w2, Ex w w2 → ∀ k, k < la → w2.cell? ⟨gA, oA + k, none⟩ = some (.string (nthS ss k))) := Lib.hid fun w2 h k hk => h.cell (hA k (by have := hB.1; omega))
  have HPM := Lib.hid fun (am : Option Addr) (cm : Nat) (w2 : World) (k : ReadsS w2 am ms) => pairOf_ok ms am la cm n w2 hms.1 k
  rw [hms.2.1, hms.2.2.1] at HPM
  have HMB := Lib.hid hms
  have HCT := Lib.hid fun (w2 : World) (k : Ex w w2) (x : Int) (hx : x ∈ z) => intx_contains x z b cb lb w2 hb.1 (by omega) (hb.2.2.2.1.ex k) true (by simp [hx])
  have hgp := By.eql p p
  have hgq := By.eql q q
  rw [decide_eq_true rfl] at hgp hgq
  have hgP := By.eql (tP n ss) (tP n ss)
  have hgQ := By.eql (tQ n ss) (tQ n ss)
  rw [decide_eq_true rfl] at hgP hgQ
  obtain ⟨W, hW⟩ : ∃ W : Nat → Int, W = fun i => lostE la (z.take i) := ⟨_, rfl⟩
  have HW0 : Hid ((0 : Int) = W 0) := Lib.hid (by rw [hW]; rfl)
  have HWE : Hid (W lb = 0) := Lib.hid (by rw [hW, ← h4, ← HZL.out]; show lostE la (z.take z.length) = _; rw [List.take_length])
  have HST : Hid (LSteps la z W) := Lib.hid (by rw [hW]; exact steps_lost la z (by have := HZL.out; omega))
  have gl : decide (2 < (lb : Int)) = false := decide_eq_false (by omega)
  generalize tP n ss = P at *
  generalize tQ n ss = Q at *
  generalize hS0 : nthS ss 0 = s0 at *
  clear HP HM ha hb hA hm2 hmd hms hW hS0 h4 h3 hB
  go_enter Try.func3, Try.ntmps3
  go_upto_region 13 with (first
  | (go_at_call 7; (with_reducible refine (HPU.out).mono ?_); rintro e w1 ⟨rfl, hw1⟩)
  | (go_at_call 8; (with_reducible refine (HME.out _ hw1).mono ?_); rintro e w2 ⟨am, cm, rfl, HCM, HRM, hw2⟩
     have hx2 := hw1.trans hw2)
  | (go_at_call 9; (with_reducible refine (HPO.out _ hx2).mono ?_); rintro e w3 ⟨rfl, hw3⟩
     have hx3 := hx2.trans hw3
     have q0 := HA0.out _ hx3)
      | fail)
  have HX3 := Lib.hid hx3
  have HW3 := Lib.hid hw3
  clear hw1 hw2 hw3 hx2 hx3
  go_loopg [16, 89] lb (fun m v16 v89 wr => ∃ i : Nat, i ≤ lb ∧ v16 = .int .i64 (W i) ∧ v89 = .int .i64 (i : Int) ∧ Hid (m = lb - i) ∧ w3 = wr)
  case atStart => exact ⟨0, by omega, congrArg (Value.int .i64) HW0.out, rfl, Lib.hid rfl, rfl⟩
  case round =>
    obtain ⟨i, hi, rfl, rfl, hm, rfl⟩ := hrel
    by_cases hlt : i < lb
    · obtain ⟨gZ, oZ, rfl, hcZ⟩ := HZC.out w3 HX3.out (by omega)
      have c1 := hcZ i hlt
      have c0 := hcZ 0 (by omega)
      rw [Nat.add_zero] at c0
      have hst := HST.out.step i (by have := HZL.out; omega)
      obtain ⟨x, hx⟩ : ∃ x, nth z i = x := ⟨_, rfl⟩
      obtain ⟨x0, hx0⟩ : ∃ x0, nth z 0 = x0 := ⟨_, rfl⟩
      rw [hx] at c1 hst
      rw [hx0] at c0 hst
      obtain ⟨Wi, hWi⟩ : ∃ Wi, W i = Wi := ⟨_, rfl⟩
      have HXX : Hid (i = 0 → x = x0) := Lib.hid fun e => by rw [← hx, ← hx0, e]
      rw [hWi] at hst ⊢
      clear hcZ hx hx0
      rcases hst with ⟨s1, s2⟩ | ⟨s1, s2, s3⟩ | ⟨s1, s2, s3, s4, s5, s6⟩ | ⟨s1, s2, s3, s4, s5⟩
      · have g1 : (Wi == 0) = false := beq_eq_false_iff_ne.mpr s1
        have HS2 := Lib.hid s2.symm
        clear s2
        go_wp2
        go_roundg (lb - (i + 1))
        case measure => have := hm.out; omega
        case rel => exact ⟨i + 1, by omega, congrArg (Value.int .i64) HS2.out, by go_num, Lib.hid rfl, rfl⟩
      · subst s1
        have HS3 := Lib.hid s3.symm
        clear s3 hWi
        by_cases s4 : x < 0
        · have g2 : decide (x < 0) = true := decide_eq_true s4
          go_wp2
          go_roundg (lb - (i + 1))
          case measure => have := hm.out; omega
          case rel => exact ⟨i + 1, by omega, congrArg (Value.int .i64) HS3.out, by go_num, Lib.hid rfl, rfl⟩
        · have g2 : decide (x < 0) = false := decide_eq_false s4
          have g3 : decide ((la : Int) ≤ x) = true := decide_eq_true (by omega)
          go_wp2
          go_roundg (lb - (i + 1))
          case measure => have := hm.out; omega
          case rel => exact ⟨i + 1, by omega, congrArg (Value.int .i64) HS3.out, by go_num, Lib.hid rfl, rfl⟩
      · subst s1 s5
        have g2 : decide (x < 0) = false := decide_eq_false (by omega)
        have g3 : decide ((la : Int) ≤ x) = false := decide_eq_false (by omega)
        have g4 : decide (0 < (i : Int)) = true := decide_eq_true (by omega)
        have HS3 := Lib.hid s6.symm
        clear s6 hWi
        go_wp2
        go_roundg (lb - (i + 1))
        case measure => have := hm.out; omega
        case rel => exact ⟨i + 1, by omega, congrArg (Value.int .i64) HS3.out, by go_num, Lib.hid rfl, rfl⟩
      · subst s1
        have g2 : decide (x < 0) = false := decide_eq_false (by omega)
        have g3 : decide ((la : Int) ≤ x) = false := decide_eq_false (by omega)
        have HS3 := Lib.hid s5.symm
        clear s5 hWi
        by_cases i0 : i = 0
        · obtain rfl := HXX.out i0
          subst i0
          clear s4 HXX c1
          go_wp2
          go_roundg (lb - (0 + 1))
          case measure => have := hm.out; omega
          case rel => exact ⟨0 + 1, by omega, congrArg (Value.int .i64) HS3.out, by go_num, Lib.hid rfl, rfl⟩
        · have g4 : decide (0 < (i : Int)) = true := decide_eq_true (by omega)
          have g5 : (x == x0) = false := beq_eq_false_iff_ne.mpr (by rcases s4 with h | h; exact absurd h i0; exact h)
          go_wp2
          go_roundg (lb - (i + 1))
          case measure => have := hm.out; omega
          case rel => exact ⟨i + 1, by omega, congrArg (Value.int .i64) HS3.out, by go_num, Lib.hid rfl, rfl⟩
    · have e : i = lb := by omega
      subst e
      have g1 : decide ((i : Int) < (i : Int)) = false := decide_eq_false (by omega)
      obtain ⟨Ew, hEw⟩ : ∃ Ew, W i = Ew := ⟨_, rfl⟩
      have hE := HWE.out
      rw [hEw] at hE ⊢
      subst hE
      have HPMW := Lib.hid (HPM.out am cm _ (HRM.out.ex HW3.out))
      have HCM2 := HCM.out
      clear HCM
      go_upto_region 27 with (go_at_call 9; (with_reducible refine (HPMW.out).mono ?_); rintro e w4 ⟨rfl, hw4⟩)
      have HX4 := Lib.hid (HX3.out.trans hw4)
      have HR4 := Lib.hid (HRM.out.ex (HW3.out.trans hw4))
      clear HPMW hw4
      rcases HR4.out with h | ⟨gM, oM, rfl, hM⟩
      · have := HMB.out.1.1; rw [h] at this; exact absurd this (by simp; omega)
      have HMC : Hid (∀ k, k < la → w4.cell? ⟨gM, oM + k, none⟩ = some (.string (nthS ms k))) := Lib.hid fun k hk => hM k (by have := HMB.out.1.1; omega)
      clear hM HR4
      go_loopg [159] la (fun m v159 wr => ∃ t : Nat, t ≤ la ∧ v159 = .int .i64 (t : Int) ∧ Hid (m = la - t) ∧ Ex w4 wr)
      case atStart => exact ⟨0, by omega, rfl, Lib.hid rfl, Ex.refl _⟩
      case round =>
        obtain ⟨t, ht, rfl, hm, hx⟩ := hrel
        by_cases hlt : t < la
        · have q1 := hx.cell (HMC.out t hlt)
          have q2 := HAA.out _ (HX4.out.trans hx) t hlt
          have HNE : Hid (nthS ms t ≠ nthS ss t → (t : Int) ∈ z) := Lib.hid fun h => by
            by_cases hz : (t : Int) ∈ z
            · exact hz
            · exact absurd (HMB.out.2.2.2 t hlt hz) h
          have hq := By.eql (nthS ms t) (nthS ss t)
          generalize nthS ms t = A at *
          generalize nthS ss t = B at *
          by_cases hAB : A = B
          · subst hAB
            rw [decide_eq_true rfl] at hq
            have q1 := cell_wo q1
            have q2 := cell_wo q2
            clear HNE
            go_wp2
            refine wp_region_wo (by kernel_rfl) (by kernel_rfl) ?_
            repeat (go_big_quiet_step (fail))
            refine wpQuiet_nil ?_
            rintro _ ⟨⟨w5, hw5⟩, rfl⟩
            go_wp2
            go_roundg (la - (t + 1))
            case measure => have := hm.out; omega
            case rel => exact ⟨t + 1, by omega, by go_num, Lib.hid rfl, hx.trans hw5⟩
          · rw [decide_eq_false hAB] at hq
            have hct := HCT.out _ (HX4.out.trans hx) (t : Int) (HNE.out hAB)
            have HC2 := Lib.hid fun (w2 : World) (k : Ex wr w2) => HCT.out _ ((HX4.out.trans hx).trans k) (t : Int) (HNE.out hAB)
            have q1 := cell_wo q1
            have q2 := cell_wo q2
            clear hAB HNE hct
            go_wp2
            refine wp_region_wo (by kernel_rfl) (by kernel_rfl) ?_
            repeat (go_big_quiet_step ((go_at_call 10; exact says_wo (HC2.out _ (Wo.ex _)))))
            refine wpQuiet_nil ?_
            rintro _ ⟨⟨w5, hw5⟩, rfl⟩
            go_wp2
            go_roundg (la - (t + 1))
            case measure => have := hm.out; omega
            case rel => exact ⟨t + 1, by omega, by go_num, Lib.hid rfl, hx.trans hw5⟩
        · have e2 : t = la := by omega
          subst e2
          have g0 : decide ((t : Int) < (t : Int)) = false := decide_eq_false (by omega)
          go_wp2
          go_ret
          exact ⟨by simp, HX4.out.trans hx⟩

theorem pairSays_of (HP : PrPutC) (HM : PrMendC) (a : Option Addr) (la ca : Nat) (ss : List ByteArray) (p q : ByteArray) (b : Option Addr) (lb cb : Nat) (z : List Int) (w : World) (ha : IsStrs w a la ca ss) (_ : p.size ≤ maxLen) (_ : q.size ≤ maxLen) (hb : IsInts .i64 8 w b lb cb z) :
    Calls Try.prog 3 #[.slice a la ca, .string p, .string q, .slice b lb cb] w (Says (.bool true) w) := by
  by_cases h0 : pqE ss = 0
  · have hB := pqE_zero.mp h0
    rw [ha.1] at hB
    by_cases hm : mdE la (nthS ss 0).size p q z = 0
    · by_cases hs : ∃ ms, MendTo la (nthS ss 0).size ss p q z ms
      · obtain ⟨ms, hs⟩ := hs
        exact pairSays_y HP HM a la ca _ ss p q b lb cb z w ha hb hB hm ms hs
      · exact pairSays_n HP HM a la ca _ ss p q b lb cb z w ha hb hB hm (fun ms h => hs ⟨ms, h⟩)
    · exact pairSays_e HP HM a la ca _ ss p q b lb cb z w ha hb hB hm
  · exact pairSays_q HP HM a la ca ss p q b lb cb z w ha hb h0

end Go.Proofs.Ytgdfmmdjnifjeaa
