/-
  Package pair: Put, Mend.
-/
import Derived.Test.YtgdfmmdjnifjeaaPqCode
import Derived.Test.YtgdfmmdjnifjeaaMixT
namespace Go.Proofs.Ytgdfmmdjnifjeaa
open Go.RowKit
open Gf By Pq

set_option maxRecDepth 100000 in
set_option maxHeartbeats 2000000 in
theorem prPutC : PrPutC where
  no := fun {ss a la ca w} hs h0 => by
    have HK := Lib.hid (pcheck_any ss a la ca w hs.1 (by have := hs.2.1; have := hs.2.2.1; omega) hs.2.2.2.1)
    generalize pqE ss = E at HK h0 ⊢
    have g0 : (E != 0) = true := bne_iff_ne.mpr h0
    clear hs
    go_enter Try.func7, Try.ntmps7
    go_wp2_with (go_at_call 18; (with_reducible refine (HK.out).mono ?_); rintro e w1 ⟨rfl, hw1⟩)
    go_ret3
    exact ⟨rfl, hw1⟩
  ok := fun {ss a L n ca w} hb hca hca2 hr => by
    have HK := Lib.hid (pcheck_any ss a L ca w hb.1 (by have := hb.2.2.1; omega) hr)
    rw [hb.zero] at HK
    obtain ⟨hl, hl1, hl10, hn64, hsz⟩ := hb
    have HZ := Lib.hid fun w => pzeros_any n w hn64
    rcases hr with h | ⟨g, o, rfl, hcell⟩
    · rw [h] at hl; exact absurd hl (by simp; omega)
    have HC : Hid (∀ i, i < L → w.cell? ⟨g, o + i, none⟩ = some (.string (nthS ss i)) ∧ (nthS ss i).size = n) := Lib.hid fun i hi => ⟨hcell i (by omega), hsz i hi⟩
    have q0 := (HC.out 0 (by omega)).1
    have hn := (HC.out 0 (by omega)).2
    rw [Nat.add_zero] at q0
    obtain ⟨s0, hs0⟩ : ∃ s0, nthS ss 0 = s0 := ⟨_, rfl⟩
    rw [hs0] at q0 hn
    have HL := Lib.hid hl
    have HP0 : Hid (zer n = tP n (ss.take 0)) := Lib.hid rfl
    have HQ0 : Hid (zer n = tQ n (ss.take 0)) := Lib.hid rfl
    have HPL : Hid (tP n (ss.take L) = tP n ss) := Lib.hid (by rw [← hl, List.take_length])
    have HQL : Hid (tQ n (ss.take L) = tQ n ss) := Lib.hid (by rw [← hl, List.take_length])
    rw [← HPL.out, ← HQL.out]
    clear hcell hsz hs0 hl HPL HQL
    generalize zer n = Z at HZ HP0 HQ0
    go_enter Try.func7, Try.ntmps7
    go_upto_region 4 with (go_at_call 18; (with_reducible refine (HK.out).mono ?_); rintro e w1 ⟨rfl, hw1⟩)
    have q1 := hw1.cell q0
    go_wp2_with (go_at_call 19; (with_reducible refine (HZ.out _).mono ?_); rintro e w2 ⟨rfl, hw2⟩)
    have HX2 := Lib.hid (hw1.trans hw2)
    clear q0 q1 hw1 hw2 HK HZ
    go_loopg [6, 7, 25] L (fun k v6 v7 v25 wr => ∃ i : Nat, i ≤ L ∧ v6 = .string (tP n (ss.take i)) ∧ v7 = .string (tQ n (ss.take i)) ∧ v25 = .int .i64 (i : Int) ∧ Hid (k = L - i) ∧ Ex w wr)
    case atStart => exact ⟨0, by omega, by rw [HP0.out], by rw [HQ0.out], rfl, Lib.hid rfl, HX2.out⟩
    case round =>
      obtain ⟨i, hi, rfl, rfl, rfl, hk, hx⟩ := hrel
      by_cases hlt : i < L
      · obtain ⟨q1, hsi⟩ := HC.out i hlt
        have q2 := hx.cell q1
        have HPN := Lib.hid (tP_next (n := n) (i := i) (ss := ss) (by have := HL.out; omega))
        have HQN := Lib.hid (tQ_next (n := n) (i := i) (ss := ss) (by have := HL.out; omega))
        have hps : (tP n (ss.take i)).size = n := byt_size _ _
        have hqs : (tQ n (ss.take i)).size = n := byt_size _ _
        obtain ⟨P, hP⟩ : ∃ P, tP n (ss.take i) = P := ⟨_, rfl⟩
        obtain ⟨Q, hQ⟩ : ∃ Q, tQ n (ss.take i) = Q := ⟨_, rfl⟩
        obtain ⟨s, hse⟩ : ∃ s, nthS ss i = s := ⟨_, rfl⟩
        rw [hP, hse] at HPN
        rw [hQ, hse] at HQN
        rw [hP] at hps
        rw [hQ] at hqs
        rw [hse] at q1 q2 hsi
        have HS1 := Lib.hid fun w => psum_one P s n w hps hsi hn64
        have HS2 := Lib.hid fun w => psum_any Q s (tw i) n w hqs hsi hn64
        rw [← HPN.out] at HS1
        rw [← HQN.out] at HS2
        have HPW : Hid (∀ w, Calls Try.prog 20 #[.int .u8 2, .int .i64 (i : Int)] w (Says (.tuple #[.int .u8 (((tw i).v : Nat) : Int), .int .i64 0]) w)) := Lib.hid fun w => fpow_ok 2 i w (by decide) (by omega)
        obtain ⟨P2, hP2⟩ : ∃ P2, tP n (ss.take (i + 1)) = P2 := ⟨_, rfl⟩
        obtain ⟨Q2, hQ2⟩ : ∃ Q2, tQ n (ss.take (i + 1)) = Q2 := ⟨_, rfl⟩
        rw [hP2] at HS1
        rw [hQ2] at HS2
        have htl := (tw i).lt
        obtain ⟨t, ht⟩ : ∃ t, (tw i).v = t := ⟨_, rfl⟩
        rw [ht] at HS2 HPW htl
        have HP2 := Lib.hid hP2
        have HQ2 := Lib.hid hQ2
        rw [hP, hQ]
        clear hP hQ hse HPN HQN hP2 hQ2 ht
        go_wp2_with (first
          | (go_at_call 20; (with_reducible refine (HPW.out _).mono ?_); rintro e w3 ⟨rfl, hw3⟩; clear HPW)
          | (go_at_call 21; (with_reducible refine (HS1.out _).mono ?_); rintro e w4 ⟨rfl, hw4⟩; clear HS1)
          | (go_at_call 21; (with_reducible refine (HS2.out _).mono ?_); rintro e w5 ⟨rfl, hw5⟩; clear HS2))
        go_roundg (L - (i + 1))
        case measure => have := hk.out; omega
        case rel => exact ⟨i + 1, by omega, by rw [HP2.out], by rw [HQ2.out], by go_num, Lib.hid rfl, ((hx.trans hw3).trans hw4).trans hw5⟩
      · have e : i = L := by omega
        subst e
        go_wp2
        go_ret3
        exact ⟨rfl, hx⟩

set_option maxRecDepth 100000 in
set_option maxHeartbeats 2000000 in
theorem pfirst_any (p q : ByteArray) (i k n : Nat) (w : World) (hp : p.size = n) (hq : q.size = n) (hn : n ≤ 64) (hi : i < 10) (hk : k < 10) (hik : i ≠ k) :
    Calls Try.prog 34 #[.string p, .string q, .int .i64 (i : Int), .int .i64 (k : Int)] w (Says (.tuple #[.string (fst2 p q n i k), .int .i64 0]) w) := by
  have HI : Hid (∀ w, Calls Try.prog 20 #[.int .u8 2, .int .i64 (i : Int)] w (Says (.tuple #[.int .u8 (((tw i).v : Nat) : Int), .int .i64 0]) w)) := Lib.hid fun w => fpow_ok 2 i w (by decide) (by omega)
  have HK : Hid (∀ w, Calls Try.prog 20 #[.int .u8 2, .int .i64 (k : Int)] w (Says (.tuple #[.int .u8 (((tw k).v : Nat) : Int), .int .i64 0]) w)) := Lib.hid fun w => fpow_ok 2 k w (by decide) (by omega)
  have hne := tw_ne hi hk hik
  have HV : Hid (∀ w, Calls Try.prog 41 #[.int .u8 (((tw i + tw k : E).v : Nat) : Int)] w (Says (.tuple #[.int .u8 (((tw i + tw k : E).inv.v : Nat) : Int), .int .i64 0]) w)) := Lib.hid fun w => finv_ok (tw i + tw k : E).v w (tw i + tw k : E).lt fun e => hne (E.ext e)
  have HZ := Lib.hid fun w => pzeros_any n w hn
  have HS1 := Lib.hid fun w => psum_any q p (tw k) n w hq hp hn
  have HS2 := Lib.hid fun w => psum_any (zer n) (smt q p (tw k) n) (tw i + tw k : E).inv n w (zer_size n) (smt_size _ _ _ _) hn
  have hxo := xor_u8_nat (tw i).v (tw k).v (tw i).lt (tw k).lt
  have HXX : Hid (((tw i + tw k : E).v) = (tw i).v ^^^ (tw k).v) := Lib.hid rfl
  rw [← HXX.out] at hxo
  have l1 := (tw i).lt
  have l2 := (tw k).lt
  have l3 := (tw i + tw k : E).lt
  have l4 := (tw i + tw k : E).inv.lt
  have hR : fst2 p q n i k = smt (zer n) (smt q p (tw k) n) (tw i + tw k).inv n := rfl
  rw [hR]
  generalize smt (zer n) (smt q p (tw k) n) (tw i + tw k : E).inv n = R at HS2 ⊢
  generalize smt q p (tw k) n = R1 at HS1 HS2
  generalize zer n = Z at HZ HS2
  generalize (tw i + tw k : E).inv.v = d4 at HV HS2 l4
  generalize (tw i + tw k : E).v = d3 at HV hxo l3 HXX
  generalize (tw i).v = d1 at HI hxo l1 HXX
  generalize (tw k).v = d2 at HK hxo l2 HXX HS1
  clear hne hR HXX
  go_enter Try.func34, Try.ntmps34
  go_wp2_with (first
    | (go_at_call 20; (with_reducible refine (HI.out _).mono ?_); rintro e w3 ⟨rfl, hw3⟩; clear HI)
    | (go_at_call 20; (with_reducible refine (HK.out _).mono ?_); rintro e w4 ⟨rfl, hw4⟩; clear HK)
    | (go_at_call 41; (with_reducible refine (HV.out _).mono ?_); rintro e w5 ⟨rfl, hw5⟩; clear HV)
    | (go_at_call 19; (with_reducible refine (HZ.out _).mono ?_); rintro e w6 ⟨rfl, hw6⟩; clear HZ)
    | (go_at_call 21; (with_reducible refine (HS1.out _).mono ?_); rintro e w7 ⟨rfl, hw7⟩; clear HS1)
    | (go_at_call 21; (with_reducible refine (HS2.out _).mono ?_); rintro e w8 ⟨rfl, hw8⟩; clear HS2))
  go_ret2
  exact ⟨rfl, ((((hw3.trans hw4).trans hw5).trans hw6).trans hw7).trans hw8⟩

/-- Blocks of one's own, and no error. -/
def MdOwn (ms : List ByteArray) (w : World) (e : Ending) (w2 : World) : Prop := ∃ v, e = .returned (.tuple #[v, .int .i64 0]) ∧ Hid (RowS 9 w2 w.heap.size v ms) ∧ Ex w w2

set_option maxRecDepth 100000 in
set_option maxHeartbeats 2000000 in
theorem pmend0 (ss : List ByteArray) (a : Option Addr) (L n ca : Nat) (p q : ByteArray) (b : Option Addr) (cb : Nat) (w : World) (hB : Blk ss L n) (hr : ReadsS w a ss) (hp : p.size = n) (hq : q.size = n) :
    Calls Try.prog 23 #[.slice a L ca, .string p, .string q, .slice b 0 cb] w (MdOwn ss w) := by
  have hn := hB.2.2.2.1
  have hl10 := hB.2.2.1
  have hnil : a = none → ca = 0 := fun h => by
    subst h
    rcases hr with h | ⟨_, _, h, _⟩
    · have := hB.1; have := hB.2.1; rw [h] at *; simp at *; omega
    · cases h
  have HCE := Lib.hid (clone_strs ss a L ca w hB.1 (by omega) hr hnil)
  have HS1 := Lib.hid fun w => psum_one p (tP n ss) n w hp (byt_size _ _) hn
  have HS2 := Lib.hid fun w => psum_one q (tQ n ss) n w hq (byt_size _ _) hn
  have HB := Lib.hid hB
  clear hr hnil hp hq hB
  go_enter Try.func23, Try.ntmps23
  go_upto_region 2 with (go_at_call 14; (with_reducible refine (HCE.out).mono ?_); rintro e w5 ⟨v5, rfl, hrow5, hw5⟩)
  obtain ⟨a5, c5, rfl, hc5, hr5, _⟩ := hrow5.out.hands HB.out.1
  have HP5 := Lib.hid (prPutC.ok HB.out hc5.out.1 hc5.out.2 hr5.out)
  generalize tP n ss = P at HP5 HS1
  generalize tQ n ss = Q at HP5 HS2
  generalize smt p P 1 n = X at HS1
  generalize smt q Q 1 n = Y at HS2
  go_wp2
  refine wp_loop_rounds 1 ?_
  rw [rounds_succ]
  go_wp2_with (first
    | (go_at_call 7; (with_reducible refine (HP5.out).mono ?_); rintro e w6 ⟨rfl, hw6⟩; clear HP5)
    | (go_at_call 21; (with_reducible refine (HS1.out _).mono ?_); rintro e w7 ⟨rfl, hw7⟩; clear HS1)
    | (go_at_call 21; (with_reducible refine (HS2.out _).mono ?_); rintro e w8 ⟨rfl, hw8⟩; clear HS2))
  go_ret2
  exact ⟨_, rfl, Lib.hid (hrow5.out.ex ((hw6.trans hw7).trans hw8)), ((hw5.trans hw6).trans hw7).trans hw8⟩

set_option maxRecDepth 100000 in
set_option maxHeartbeats 2000000 in
theorem pmend1 (ss : List ByteArray) (a : Option Addr) (L n ca i : Nat) (p q : ByteArray) (b : Option Addr) (cb : Nat) (w : World) (hB : Blk ss L n) (hr : ReadsS w a ss) (hp : p.size = n) (hq : q.size = n)
    (hrz : Reads w .i64 b [(i : Int)]) (hi : i < L) :
    Calls Try.prog 23 #[.slice a L ca, .string p, .string q, .slice b 1 cb] w (MdOwn (md1 n ss p i) w) := by
  have hn := hB.2.2.2.1
  have hl10 := hB.2.2.1
  have hnil : a = none → ca = 0 := fun h => by
    subst h
    rcases hr with h | ⟨_, _, h, _⟩
    · have := hB.1; have := hB.2.1; rw [h] at *; simp at *; omega
    · cases h
  have HCE := Lib.hid (clone_strs ss a L ca w hB.1 (by omega) hr hnil)
  have HZ := Lib.hid fun w => pzeros_any n w hn
  have HB0 := Lib.hid hB
  have HB := Lib.hid (hB.set hi (zer_size n))
  have HS1 := Lib.hid fun w => psum_one p (tP n (ss.set i (zer n))) n w hp (byt_size _ _) hn
  have HS2 := Lib.hid fun w => psum_one q (tQ n (ss.set i (zer n))) n w hq (byt_size _ _) hn
  have HSX := smt_size p (tP n (ss.set i (zer n))) 1 n
  rcases hrz with h | ⟨gZ, oZ, rfl, hcZ⟩
  · cases h
  have HIZ : Hid (∀ w2, Ex w w2 → w2.cell? ⟨gZ, oZ, none⟩ = some (.int .i64 (i : Int))) := Lib.hid fun w2 k => by
    have := k.cell (hcZ 0 (by simp))
    rwa [Nat.add_zero] at this
  have HM : Hid (md1 n ss p i = (ss.set i (zer n)).set i (smt p (tP n (ss.set i (zer n))) 1 n)) := Lib.hid rfl
  clear hr hnil hq hB hcZ
  go_enter Try.func23, Try.ntmps23
  go_upto_region 2 with (go_at_call 14; (with_reducible refine (HCE.out).mono ?_); rintro e w5 ⟨v5, rfl, hrow5, hw5⟩)
  obtain ⟨g5, c5, rfl, hb5, hg5, hc5a, hc5b, _, _⟩ := hrow5.out.flat (by have := HB0.out.1; omega)
  rw [HB0.out.1] at hrow5 hc5a ⊢
  have HB5 := Lib.hid hb5
  have k5 := HIZ.out w5 hw5
  clear hb5
  go_wp2
  refine wp_loop_rounds 2 ?_
  rw [rounds_succ]
  go_upto_region 6 with (go_at_call 19; (with_reducible refine (HZ.out _).mono ?_); rintro e w6 ⟨rfl, hw6⟩; have ha6 := (hrow5.out.ex hw6).at HB0.out.1.symm hi; have c6 := ha6.1; have f6 := ha6.2)
  have HR7 := Lib.hid ((hrow5.out.ex hw6).set HB0.out.1.symm i (zer n)).1
  have HX7 := Lib.hid ((hw5.trans hw6).setCell (p := ⟨g5, i, none⟩) HB5.out (.string (zer n)))
  generalize ss.set i (zer n) = s0 at HR7 HB HS1 HS2 HSX HM
  generalize zer n = Z at HR7 HX7 ⊢
  obtain ⟨w7, hw7⟩ : ∃ w7, w6.setCell ⟨g5, i, none⟩ (.string Z) = w7 := ⟨_, rfl⟩
  rw [hw7] at HR7 HX7 ⊢
  obtain ⟨a9, c9, hv9, hc9, hr9, _⟩ := HR7.out.hands HB.out.1
  simp only [Value.slice.injEq, true_and] at hv9
  obtain ⟨rfl, rfl⟩ := hv9
  have HP7 := Lib.hid (prPutC.ok HB.out hc9.out.1 hc9.out.2 hr9.out)
  generalize tP n s0 = P at HP7 HS1 HSX HM
  generalize tQ n s0 = Q at HP7 HS2
  generalize smt p P 1 n = X at HS1 HSX HM
  generalize smt q Q 1 n = Y at HS2
  clear hw7 ha6 c6 f6 k5 hrow5
  go_wp2
  rw [rounds_succ]
  go_upto_region 13 with (first
    | (go_at_call 7; (with_reducible refine (HP7.out).mono ?_); rintro e w8 ⟨rfl, hw8⟩; clear HP7)
    | (go_at_call 21; (with_reducible refine (HS1.out _).mono ?_); rintro e w9 ⟨rfl, hw9⟩; clear HS1)
    | (go_at_call 21; (with_reducible refine (HS2.out _).mono ?_); rintro e w10 ⟨rfl, hw10⟩; clear HS2))
  have HX10 := Lib.hid (((HX7.out.trans hw8).trans hw9).trans hw10)
  have HR10 := Lib.hid (HR7.out.ex ((hw8.trans hw9).trans hw10))
  have k10 := HIZ.out w10 HX10.out
  have ha10 := HR10.out.at HB.out.1.symm hi
  have c10 := ha10.1
  have f10 := ha10.2
  go_wp2
  go_ret2
  exact ⟨_, rfl, Lib.hid (by rw [HM.out]; exact (HR10.out.set HB.out.1.symm i X).1), HX10.out.setCell (p := ⟨g5, i, none⟩) HB5.out _⟩

set_option maxRecDepth 100000 in
set_option maxHeartbeats 4000000 in
theorem pmend2 (ss : List ByteArray) (a : Option Addr) (L n ca i k : Nat) (p q : ByteArray) (b : Option Addr) (cb : Nat) (w : World) (hB : Blk ss L n) (hr : ReadsS w a ss) (hp : p.size = n) (hq : q.size = n)
    (hrz : Reads w .i64 b [(i : Int), (k : Int)]) (hi : i < L) (hk : k < L) (hik : i ≠ k) :
    Calls Try.prog 23 #[.slice a L ca, .string p, .string q, .slice b 2 cb] w (MdOwn (md2 n ss p q i k) w) := by
  have hn := hB.2.2.2.1
  have hl10 := hB.2.2.1
  have hnil : a = none → ca = 0 := fun h => by
    subst h
    rcases hr with h | ⟨_, _, h, _⟩
    · have := hB.1; have := hB.2.1; rw [h] at *; simp at *; omega
    · cases h
  have HCE := Lib.hid (clone_strs ss a L ca w hB.1 (by omega) hr hnil)
  have HZ := Lib.hid fun w => pzeros_any n w hn
  have HB0 := Lib.hid hB
  have HBi := Lib.hid (hB.set hi (zer_size n))
  have HB := Lib.hid (HBi.out.set hk (zer_size n))
  have HS1 := Lib.hid fun w => psum_one p (tP n ((ss.set i (zer n)).set k (zer n))) n w hp (byt_size _ _) hn
  have HS2 := Lib.hid fun w => psum_one q (tQ n ((ss.set i (zer n)).set k (zer n))) n w hq (byt_size _ _) hn
  have HSX := smt_size p (tP n ((ss.set i (zer n)).set k (zer n))) 1 n
  have HSY := smt_size q (tQ n ((ss.set i (zer n)).set k (zer n))) 1 n
  have HF := Lib.hid fun w => pfirst_any (smt p (tP n ((ss.set i (zer n)).set k (zer n))) 1 n) (smt q (tQ n ((ss.set i (zer n)).set k (zer n))) 1 n) i k n w HSX HSY hn (by omega) (by omega) hik
  have HS3 := Lib.hid fun w => psum_one (smt p (tP n ((ss.set i (zer n)).set k (zer n))) 1 n) (fst2 (smt p (tP n ((ss.set i (zer n)).set k (zer n))) 1 n) (smt q (tQ n ((ss.set i (zer n)).set k (zer n))) 1 n) n i k) n w HSX (smt_size _ _ _ _) hn
  rcases hrz with h | ⟨gZ, oZ, rfl, hcZ⟩
  · cases h
  have HIZ : Hid (∀ w2, Ex w w2 → w2.cell? ⟨gZ, oZ, none⟩ = some (.int .i64 (i : Int)) ∧ w2.cell? ⟨gZ, oZ + 1, none⟩ = some (.int .i64 (k : Int))) := Lib.hid fun w2 h => by
    have h0 := h.cell (hcZ 0 (by simp))
    rw [Nat.add_zero] at h0
    exact ⟨h0, h.cell (hcZ 1 (by simp))⟩
  have HM : Hid (md2 n ss p q i k = (((ss.set i (zer n)).set k (zer n)).set i (fst2 (smt p (tP n ((ss.set i (zer n)).set k (zer n))) 1 n) (smt q (tQ n ((ss.set i (zer n)).set k (zer n))) 1 n) n i k)).set k
    (smt (smt p (tP n ((ss.set i (zer n)).set k (zer n))) 1 n) (fst2 (smt p (tP n ((ss.set i (zer n)).set k (zer n))) 1 n) (smt q (tQ n ((ss.set i (zer n)).set k (zer n))) 1 n) n i k) 1 n)) := Lib.hid rfl
  clear hr hnil hq hB hcZ
  go_enter Try.func23, Try.ntmps23
  go_upto_region 2 with (go_at_call 14; (with_reducible refine (HCE.out).mono ?_); rintro e w5 ⟨v5, rfl, hrow5, hw5⟩)
  obtain ⟨g5, c5, rfl, hb5, hg5, hc5a, hc5b, _, _⟩ := hrow5.out.flat (by have := HB0.out.1; omega)
  rw [HB0.out.1] at hrow5 hc5a ⊢
  have HB5 := Lib.hid hb5
  have k5 := (HIZ.out w5 hw5).1
  clear hb5
  go_wp2
  refine wp_loop_rounds 3 ?_
  rw [rounds_succ]
  go_upto_region 6 with (go_at_call 19; (with_reducible refine (HZ.out _).mono ?_); rintro e w6 ⟨rfl, hw6⟩; have ha6 := (hrow5.out.ex hw6).at HB0.out.1.symm hi; have c6 := ha6.1; have f6 := ha6.2)
  have HR7 := Lib.hid ((hrow5.out.ex hw6).set HB0.out.1.symm i (zer n)).1
  have HX7 := Lib.hid ((hw5.trans hw6).setCell (p := ⟨g5, i, none⟩) HB5.out (.string (zer n)))
  obtain ⟨w7, hw7⟩ : ∃ w7, w6.setCell ⟨g5, i, none⟩ (.string (zer n)) = w7 := ⟨_, rfl⟩
  rw [hw7] at HR7 HX7 ⊢
  have k7 := (HIZ.out w7 HX7.out).2
  clear hw7 ha6 c6 f6 k5 hrow5 hw5 hw6
  go_wp2
  rw [rounds_succ]
  go_upto_region 6 with (go_at_call 19; (with_reducible refine (HZ.out _).mono ?_); rintro e w8 ⟨rfl, hw8⟩; have ha8 := (HR7.out.ex hw8).at HBi.out.1.symm hk; have c8 := ha8.1; have f8 := ha8.2)
  have HR9 := Lib.hid ((HR7.out.ex hw8).set HBi.out.1.symm k (zer n)).1
  have HX9 := Lib.hid ((HX7.out.trans hw8).setCell (p := ⟨g5, k, none⟩) HB5.out (.string (zer n)))
  generalize (ss.set i (zer n)).set k (zer n) = s0 at HR9 HB HS1 HS2 HS3 HF HSX HSY HM
  generalize zer n = Z at HR9 HX9 ⊢
  obtain ⟨w9, hw9⟩ : ∃ w9, w8.setCell ⟨g5, k, none⟩ (.string Z) = w9 := ⟨_, rfl⟩
  rw [hw9] at HR9 HX9 ⊢
  obtain ⟨a9, c9, hv9, hc9, hr9, _⟩ := HR9.out.hands HB.out.1
  simp only [Value.slice.injEq, true_and] at hv9
  obtain ⟨rfl, rfl⟩ := hv9
  have HP9 := Lib.hid (prPutC.ok HB.out hc9.out.1 hc9.out.2 hr9.out)
  generalize tP n s0 = P at HP9 HS1 HS3 HF HSX HM
  generalize tQ n s0 = Q at HP9 HS2 HS3 HF HSY HM
  generalize smt p P 1 n = X at HS1 HS3 HF HSX HM
  generalize smt q Q 1 n = Y at HS2 HS3 HF HSY HM
  have HGS : Hid ((fst2 X Y n i k).size = n) := Lib.hid (smt_size _ _ _ _)
  generalize fst2 X Y n i k = G at HS3 HF HM HGS
  generalize smt X G 1 n = V at HS3 HM
  clear hw9 ha8 c8 f8 k7
  go_wp2
  rw [rounds_succ]
  go_upto_region 15 with (first
    | (go_at_call 7; (with_reducible refine (HP9.out).mono ?_); rintro e w10 ⟨rfl, hw10⟩; clear HP9)
    | (go_at_call 21; (with_reducible refine (HS1.out _).mono ?_); rintro e w11 ⟨rfl, hw11⟩; clear HS1)
    | (go_at_call 21; (with_reducible refine (HS2.out _).mono ?_); rintro e w12 ⟨rfl, hw12⟩; clear HS2))
  have HX12 := Lib.hid (((HX9.out.trans hw10).trans hw11).trans hw12)
  have HR12 := Lib.hid (HR9.out.ex ((hw10.trans hw11).trans hw12))
  have k0 : ∀ x : Wo w12, x.val.cell? ⟨gZ, oZ, none⟩ = some (.int .i64 (i : Int)) := fun x => (HIZ.out x.val (HX12.out.trans x.ex)).1
  have k1 : ∀ x : Wo w12, x.val.cell? ⟨gZ, oZ + 1, none⟩ = some (.int .i64 (k : Int)) := fun x => (HIZ.out x.val (HX12.out.trans x.ex)).2
  clear hw10 hw11 hw12
  refine wp_region_wo (by kernel_rfl) (by kernel_rfl) ?_
  repeat (go_big_quiet_step ((go_at_call 34; exact says_wo (HF.out _))))
  refine wpQuiet_nil ?_
  rintro _ ⟨⟨w13, hw13⟩, rfl⟩
  rename World => w13
  have HX13 := Lib.hid (HX12.out.trans hw13)
  have HR13 := Lib.hid (HR12.out.ex hw13)
  clear k0 k1
  go_upto_region 18 with fail
  have hd : Ex w13 w13.drew := (Ex.refl w13).drew
  have j0 : ∀ x : Kp (fun w2 : World => Ex w w2), x.val.cell? ⟨gZ, oZ, none⟩ = some (.int .i64 (i : Int)) := fun x => (HIZ.out x.val x.ok).1
  have j1 : ∀ x : Kp (fun w2 : World => Ex w w2), x.val.cell? ⟨gZ, oZ + 1, none⟩ = some (.int .i64 (k : Int)) := fun x => (HIZ.out x.val x.ok).2
  haveI : Nonempty (Kp (fun w2 : World => Ex w w2)) := ⟨⟨w, Ex.refl _⟩⟩
  have HXd := Lib.hid (HX13.out.trans hd)
  have HRd := Lib.hid (HR13.out.ex hd)
  refine wp_region_scr (fun w2 => ∃ x : Kp (fun w2 : World => Ex w w2), w2 = x.val) (.take 0 (.take 1 (.take 2 (.take 3 (.take 4 (.take 5 (.take 6 (.take 7 (.take 8 (.take 9 (.take 10 (.one 11 (.take 12 (.one 13 (.take 14 (.one 15 (.fin))))))))))))))))) (by kernel_rfl) (by kernel_rfl) (by intro _ _ d _ _ h; cases d <;> exact h) ⟨⟨_, (by first | exact HXd.out | exact HX14.out | exact HX15.out | exact HX16.out)⟩, rfl⟩ ?_
  generalize w13.drew = wd at hd HXd HRd ⊢
  simp only [fillS, List.getD_cons_zero, List.getD_cons_succ]
  repeat' (first
    | ((with_reducible refine wpScr_pure ?_); go_big_quiet_step (fail); (with_reducible refine scrQ_on ?_))
    | ((with_reducible refine wpScr_turn ?_); intro K hK; go_wp2_with (first | fail |(go_at_call 21; (with_reducible refine (HS3.out _).mono ?_); rintro e w14 ⟨rfl, hw14⟩; have HX14 := Lib.hid (HXd.out.trans hw14); have HR14 := Lib.hid (HRd.out.ex hw14); have ha14 := HR14.out.at HB.out.1.symm hi; have c14 := ha14.1; have f14 := ha14.2; have HBG := Lib.hid (HB.out.set hi HGS.out); have HR15 := Lib.hid (HR14.out.set HB.out.1.symm i G).1; have ha15 := HR15.out.at HBG.out.1.symm hk; have c15 := ha15.1; have f15 := ha15.2; have HX15 := Lib.hid (HX14.out.setCell (p := ⟨g5, i, none⟩) HB5.out (.string G)); have HR16 := Lib.hid (HR15.out.set HBG.out.1.symm k V).1; have HX16 := Lib.hid (HX15.out.setCell (p := ⟨g5, k, none⟩) HB5.out (.string V)))); refine hK _ _ ⟨⟨_, (by first | exact HXd.out | exact HX14.out | exact HX15.out | exact HX16.out)⟩, rfl⟩ ?_; clear hK K)
    | (with_reducible refine wpScr_two ?_ ?_)
    | (with_reducible refine wpScr_three ?_ ?_ ?_)
    | (with_reducible refine wpScr_nil ?_))
  clear j0 j1 ha14 ha15
  go_wp2
  go_ret2
  exact ⟨_, rfl, Lib.hid (by rw [HM.out]; exact HR16.out), HX16.out⟩

end Go.Proofs.Ytgdfmmdjnifjeaa
