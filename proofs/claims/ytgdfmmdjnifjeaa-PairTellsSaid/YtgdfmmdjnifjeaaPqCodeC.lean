/-
  Package pair: Mend, whole.
-/
import Derived.Test.YtgdfmmdjnifjeaaPqCodeB
namespace Go.Proofs.Ytgdfmmdjnifjeaa
open Go.RowKit
open Gf By Pq

/-- What is mended, and that nothing else can be. -/
theorem md_some {ss : List ByteArray} {a : Option Addr} {L n ca : Nat} {p q : ByteArray} {z : List Int} {b : Option Addr} {lb cb : Nat} {w : World} (hB : Blk ss L n) (hr : ReadsS w a ss) (hz : z.length = lb) (hrz : Reads w .i64 b z) (hm : mdE L n p q z = 0) :
    ∃ ms, (∀ w2, Ex w w2 → Calls Try.prog 23 #[.slice a L ca, .string p, .string q, .slice b lb cb] w2 (MdOwn ms w2)) ∧ Blk ms L n ∧ (∀ k, k < L → (k : Int) ∉ z → nthS ms k = nthS ss k) ∧ ∀ ms', MendTo L n ss p q z ms' → ms' = ms := by
  have hs : p.size = n ∧ q.size = n ∧ lostE L z = 0 := by
    unfold mdE at hm
    by_cases h : p.size ≠ n ∨ q.size ≠ n
    · rw [if_pos h] at hm; cases hm
    · rw [if_neg h] at hm; exact ⟨by omega, by omega, hm⟩
  obtain ⟨h1, h2, h3⟩ := hs
  subst hz
  match z, h3, hrz with
  | [], _, _ => exact ⟨ss, fun w2 hx => pmend0 ss a L n ca p q b cb w2 hB (hr.ex hx) h1 h2, hB, fun _ _ _ => rfl, fun ms hms => md0_is hB hms⟩
  | [x], h3, hrz =>
    have e : lostE L [x] = if x < 0 ∨ (L : Int) ≤ x then 1 else 0 := rfl
    rw [e] at h3
    have hx : ¬ (x < 0 ∨ (L : Int) ≤ x) := fun h => by rw [if_pos h] at h3; cases h3
    obtain ⟨i, rfl⟩ : ∃ i : Nat, x = (i : Int) := ⟨x.toNat, by omega⟩
    have hi : i < L := by omega
    exact ⟨md1 n ss p i, fun w2 hx => pmend1 ss a L n ca i p q b cb w2 hB (hr.ex hx) h1 h2 (hrz.ex hx) hi, md1_blk p hB hi, fun t _ ht => md1_but p hB hi t ht, fun ms hms => md1_is hB hi hms⟩
  | [x, y], h3, hrz =>
    have e2 : lostE L [x, y] = if x < 0 ∨ (L : Int) ≤ x then 1 else if y < 0 ∨ (L : Int) ≤ y then 1 else if y = x then 6 else 0 := rfl
    rw [e2] at h3
    have hx : ¬ (x < 0 ∨ (L : Int) ≤ x) := fun h => by rw [if_pos h] at h3; cases h3
    rw [if_neg hx] at h3
    have hy : ¬ (y < 0 ∨ (L : Int) ≤ y) := fun h => by rw [if_pos h] at h3; cases h3
    rw [if_neg hy] at h3
    have hxy : ¬ y = x := fun h => by rw [if_pos h] at h3; cases h3
    obtain ⟨i, rfl⟩ : ∃ i : Nat, x = (i : Int) := ⟨x.toNat, by omega⟩
    obtain ⟨k, rfl⟩ : ∃ k : Nat, y = (k : Int) := ⟨y.toNat, by omega⟩
    have hi : i < L := by omega
    have hk : k < L := by omega
    have hik : i ≠ k := by omega
    exact ⟨md2 n ss p q i k, fun w2 hx => pmend2 ss a L n ca i k p q b cb w2 hB (hr.ex hx) h1 h2 (hrz.ex hx) hi hk hik, md2_blk p q hB hi hk, fun t _ ht => md2_but p q hB hi hk t ht, fun ms hms => md2_is hB hi hk hik hms⟩
  | _ :: _ :: _ :: _, h3, _ => cases h3

set_option maxRecDepth 100000 in
set_option maxHeartbeats 2000000 in
/-- Where the form is right: what is mended, or ErrSum. -/
theorem pMend_any {ss ms : List ByteArray} {a : Option Addr} {L n ca : Nat} {p q : ByteArray} {z : List Int} {b : Option Addr} {lb cb : Nat} {w : World} (hB : Blk ss L n) (hr : ReadsS w a ss) (hz : z.length = lb) (hlc : lb ≤ cb) (hcb : cb ≤ 9223372036854775807) (hrz : Reads w .i64 b z) (hi : ∀ x ∈ z, I64 x) (hm : mdE L n p q z = 0)
    (HMD : ∀ w2, Ex w w2 → Calls Try.prog 23 #[.slice a L ca, .string p, .string q, .slice b lb cb] w2 (MdOwn ms w2)) (hBm : Blk ms L n) :
    Calls Try.prog 8 #[.slice a L ca, .string p, .string q, .slice b lb cb] w (fun e w2 => if tP n ms = p ∧ tQ n ms = q then MdOwn ms w e w2 else Says (.tuple #[.slice none 0 0, .int .i64 8]) w e w2) := by
  have hs : p.size = n ∧ q.size = n ∧ lostE L z = 0 := by
    unfold mdE at hm
    by_cases h : p.size ≠ n ∨ q.size ≠ n
    · rw [if_pos h] at hm; cases hm
    · rw [if_neg h] at hm; exact ⟨by omega, by omega, hm⟩
  obtain ⟨hps, hqs, h3⟩ := hs
  have hl10 := hB.2.2.1
  have hl1 := hB.2.1
  have HK := Lib.hid (pcheck_any ss a L ca w hB.1 (by omega) hr)
  rw [hB.zero] at HK
  have HLO := Lib.hid fun w2 (hx : Ex w w2) => plost_any z b lb cb L w2 hz hlc hcb (hrz.ex hx) hi hl10
  rw [h3] at HLO
  have HME := Lib.hid HMD
  have HBM := Lib.hid hBm
  have hs0 := hB.2.2.2.2 0 (by omega)
  rcases hr with h | ⟨gA, oA, rfl, hA⟩
  · have := hB.1; rw [h] at this; exact absurd this (by simp; omega)
  have HA0 : Hid (∀ w2, Ex w w2 → w2.cell? ⟨gA, oA, none⟩ = some (.string (nthS ss 0))) := Lib.hid fun w2 k => by
    have := k.cell (hA 0 (by have := hB.1; omega))
    rwa [Nat.add_zero] at this
  generalize nthS ss 0 = s0 at HA0 hs0
  have hg1 := By.eql (tP n ms) p
  have hg2 := By.eql (tQ n ms) q
  have HPU := Lib.hid fun (a2 : Option Addr) (c2 : Nat) (w2 : World) (h1 : L ≤ c2) (h2 : c2 ≤ 9223372036854775807) (h3 : ReadsS w2 a2 ms) => prPutC.ok (ca := c2) hBm h1 h2 h3
  have hg : ((tP n ms = p ∧ tQ n ms = q) ∧ ((tP n ms).toList == p.toList) = true ∧ ((tQ n ms).toList == q.toList) = true) ∨ (¬ (tP n ms = p ∧ tQ n ms = q) ∧ (((tP n ms).toList == p.toList) = false ∨ (((tP n ms).toList == p.toList) = true ∧ ((tQ n ms).toList == q.toList) = false))) := by
    rw [hg1, hg2]
    by_cases e1 : tP n ms = p
    · by_cases e2 : tQ n ms = q
      · exact .inl ⟨⟨e1, e2⟩, decide_eq_true e1, decide_eq_true e2⟩
      · exact .inr ⟨fun h => e2 h.2, .inr ⟨decide_eq_true e1, decide_eq_false e2⟩⟩
    · exact .inr ⟨fun h => e1 h.1, .inl (decide_eq_false e1)⟩
  clear hg1 hg2 hA HMD hBm hrz hi hm h3 hB
  have hif : ∀ e w2, ((tP n ms = p ∧ tQ n ms = q) → MdOwn ms w e w2) → (¬ (tP n ms = p ∧ tQ n ms = q) → Says (.tuple #[.slice none 0 0, .int .i64 8]) w e w2) → (if tP n ms = p ∧ tQ n ms = q then MdOwn ms w e w2 else Says (.tuple #[.slice none 0 0, .int .i64 8]) w e w2) := fun e w2 h1 h2 => by
    by_cases h : tP n ms = p ∧ tQ n ms = q
    · rw [if_pos h]; exact h1 h
    · rw [if_neg h]; exact h2 h
  refine Calls.mono ?_ (fun e w2 (h : ((tP n ms = p ∧ tQ n ms = q) → MdOwn ms w e w2) ∧ (¬ (tP n ms = p ∧ tQ n ms = q) → Says (.tuple #[.slice none 0 0, .int .i64 8]) w e w2)) => hif e w2 h.1 h.2)
  clear hif
  generalize hPd : tP n ms = P at *
  generalize hQd : tQ n ms = Q at *
  clear hPd hQd
  go_enter Try.func8, Try.ntmps8
  go_upto_region 4 with (go_at_call 18; (with_reducible refine (HK.out).mono ?_); rintro e w1 ⟨rfl, hw1⟩)
  have k1 := HA0.out w1 hw1
  go_upto_region 12 with (first
    | (go_at_call 22; (with_reducible refine (HLO.out _ hw1).mono ?_); rintro e w2 ⟨rfl, hw2⟩)
    | (go_at_call 23; (with_reducible refine (HME.out _ (hw1.trans hw2)).mono ?_); rintro e w3 ⟨v3, rfl, hrow, hw3⟩; obtain ⟨a3, c3, hv3, hc3, hr3, _⟩ := hrow.out.hands HBM.out.1; subst hv3))
  have HP3 := Lib.hid (HPU.out a3 c3 w3 hc3.out.1 hc3.out.2 hr3.out)
  have HX3 := Lib.hid ((hw1.trans hw2).trans hw3)
  rcases hg with ⟨hy, g1, g2⟩ | ⟨hy, g1 | ⟨g1, g2⟩⟩
  · go_wp2_with (go_at_call 7; (with_reducible refine (HP3.out).mono ?_); rintro e w4 ⟨rfl, hw4⟩)
    go_ret2
    exact ⟨fun _ => ⟨_, rfl, Lib.hid ((hrow.out.ex hw4).less (hw1.trans hw2).size), HX3.out.trans hw4⟩, fun h => absurd hy h⟩
  · go_wp2_with (go_at_call 7; (with_reducible refine (HP3.out).mono ?_); rintro e w4 ⟨rfl, hw4⟩)
    go_ret2
    exact ⟨fun h => absurd h hy, fun _ => ⟨rfl, HX3.out.trans hw4⟩⟩
  · go_wp2_with (go_at_call 7; (with_reducible refine (HP3.out).mono ?_); rintro e w4 ⟨rfl, hw4⟩)
    go_ret2
    exact ⟨fun h => absurd h hy, fun _ => ⟨rfl, HX3.out.trans hw4⟩⟩

set_option maxRecDepth 100000 in
set_option maxHeartbeats 2000000 in
theorem prMendC : PrMendC where
  bad := fun {ss a la ca p q z b lb cb w} hs hz h0 => by
    have HK := Lib.hid (pcheck_any ss a la ca w hs.1 (by have := hs.2.1; have := hs.2.2.1; omega) hs.2.2.2.1)
    generalize pqE ss = E at HK h0 ⊢
    have g0 : (E != 0) = true := bne_iff_ne.mpr h0
    clear hs hz
    go_enter Try.func8, Try.ntmps8
    go_wp2_with (go_at_call 18; (with_reducible refine (HK.out).mono ?_); rintro e w1 ⟨rfl, hw1⟩)
    go_ret2
    exact ⟨_, _, rfl, hw1⟩
  no := fun {ss a L n ca p q z b lb cb w} hB hca hca2 hr hz hlc hcb hrz hi hmd => by
    have hl10 := hB.2.2.1
    have hl1 := hB.2.1
    have HK := Lib.hid (pcheck_any ss a L ca w hB.1 (by omega) hr)
    rw [hB.zero] at HK
    have HLO := Lib.hid fun w2 (hx : Ex w w2) => plost_any z b lb cb L w2 hz hlc (by omega) (hrz.ex hx) hi hl10
    have hs0 := hB.2.2.2.2 0 (by omega)
    rcases hr with h | ⟨gA, oA, rfl, hA⟩
    · have := hB.1; rw [h] at this; exact absurd this (by simp; omega)
    have HA0 : Hid (∀ w2, Ex w w2 → w2.cell? ⟨gA, oA, none⟩ = some (.string (nthS ss 0))) := Lib.hid fun w2 k => by
      have := k.cell (hA 0 (by have := hB.1; omega))
      rwa [Nat.add_zero] at this
    generalize nthS ss 0 = s0 at HA0 hs0
    have hfront : (p.size ≠ n ∧ mdE L n p q z = 3) ∨ (p.size = n ∧ q.size ≠ n ∧ mdE L n p q z = 3) ∨ (p.size = n ∧ q.size = n ∧ mdE L n p q z = lostE L z ∧ (lostE L z != 0) = true) := by
      unfold mdE at hmd ⊢
      by_cases h1 : p.size = n
      · by_cases h2 : q.size = n
        · rw [if_neg (by omega)] at hmd ⊢
          exact .inr (.inr ⟨h1, h2, rfl, bne_iff_ne.mpr hmd⟩)
        · exact .inr (.inl ⟨h1, h2, by rw [if_pos (.inr h2)]⟩)
      · exact .inl ⟨h1, by rw [if_pos (.inl h1)]⟩
    clear hA hB hrz hi hmd
    rcases hfront with ⟨h1, h2⟩ | ⟨h1, h2, h3⟩ | ⟨h1, h2, h3, h4⟩
    · rw [h2]
      go_enter Try.func8, Try.ntmps8
      go_upto_region 4 with (go_at_call 18; (with_reducible refine (HK.out).mono ?_); rintro e w1 ⟨rfl, hw1⟩)
      have k1 := HA0.out w1 hw1
      have g1 : ((p.size : Int) != (n : Int)) = true := bne_iff_ne.mpr (by omega)
      go_wp2
      go_ret2
      exact ⟨_, _, rfl, hw1⟩
    · rw [h3]
      go_enter Try.func8, Try.ntmps8
      go_upto_region 4 with (go_at_call 18; (with_reducible refine (HK.out).mono ?_); rintro e w1 ⟨rfl, hw1⟩)
      have k1 := HA0.out w1 hw1
      have g1 : ((q.size : Int) != (n : Int)) = true := bne_iff_ne.mpr (by omega)
      go_wp2
      go_ret2
      exact ⟨_, _, rfl, hw1⟩
    · rw [h3]
      generalize lostE L z = E at HLO h4 ⊢
      go_enter Try.func8, Try.ntmps8
      go_upto_region 4 with (go_at_call 18; (with_reducible refine (HK.out).mono ?_); rintro e w1 ⟨rfl, hw1⟩)
      have k1 := HA0.out w1 hw1
      go_wp2_with (go_at_call 22; (with_reducible refine (HLO.out _ hw1).mono ?_); rintro e w2 ⟨rfl, hw2⟩)
      go_ret2
      exact ⟨_, _, rfl, hw1.trans hw2⟩
  some := fun {ss ms a L n ca p q z b lb cb w} hB hca hca2 hr hz hlc hcb hrz hi hmd hms => by
    obtain ⟨ms', h1, h2, h3, h4⟩ := md_some (ca := ca) (cb := cb) hB hr hz hrz hmd
    have e := h4 ms hms
    subst e
    refine (pMend_any hB hr hz hlc hcb hrz hi hmd h1 h2).mono fun e w2 h => ?_
    rw [if_pos ⟨hms.2.1, hms.2.2.1⟩] at h
    obtain ⟨v, rfl, hrow, hx⟩ := h
    obtain ⟨a2, c2, rfl, hc, hrd, _⟩ := hrow.out.hands h2.1
    exact ⟨a2, c2, rfl, hc, hrd, hx⟩
  none := fun {ss a L n ca p q z b lb cb w} hB hca hca2 hr hz hlc hcb hrz hi hmd hno => by
    obtain ⟨ms', h1, h2, h3, h4⟩ := md_some (ca := ca) (cb := cb) hB hr hz hrz hmd
    refine (pMend_any hB hr hz hlc hcb hrz hi hmd h1 h2).mono fun e w2 h => ?_
    rw [if_neg (fun k => hno ms' ⟨h2, k.1, k.2, h3⟩)] at h
    exact ⟨_, _, h.1, h.2⟩
/-- Where nothing is lost: blocks of one's own. -/
theorem pMend_own {ss : List ByteArray} {a : Option Addr} {L n ca : Nat} {w : World} (hB : Blk ss L n) (hr : ReadsS w a ss) : Calls Try.prog 8 #[.slice a L ca, .string (tP n ss), .string (tQ n ss), .slice none 0 0] w (MdOwn ss w) := by
  have hmd : mdE L n (tP n ss) (tQ n ss) [] = 0 := by
    unfold mdE
    rw [if_neg]
    · rfl
    · have h1 : (tP n ss).size = n := byt_size _ _
      have h2 : (tQ n ss).size = n := byt_size _ _
      omega
  have hrz : Reads w .i64 none [] := .inl rfl
  refine (pMend_any (ca := ca) (cb := 0) (ms := ss) hB hr rfl (Nat.le_refl _) (by omega) hrz (fun x hx => by cases hx) hmd (fun w2 hx => pmend0 ss a L n ca _ _ none 0 w2 hB (hr.ex hx) (byt_size _ _) (byt_size _ _)) hB).mono fun e w2 h => ?_
  rwa [if_pos ⟨rfl, rfl⟩] at h

end Go.Proofs.Ytgdfmmdjnifjeaa
