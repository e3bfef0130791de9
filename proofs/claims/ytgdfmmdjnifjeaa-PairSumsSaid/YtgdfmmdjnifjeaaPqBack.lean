/-
  PairBack, by contracts.
-/
import Derived.Test.YtgdfmmdjnifjeaaPqSums
import Derived.Test.YtgdfmmdjnifjeaaShelf
namespace Go.Proofs.Ytgdfmmdjnifjeaa
open Go.RowKit
open Gf By Pq

/-- So many times one byte. -/
def repT (c : UInt8) (n : Nat) : ByteArray := ⟨(Lib.repeatL [c] n).toArray⟩
theorem repT_size (c : UInt8) (n : Nat) : (repT c n).size = n := by
  show (Lib.repeatL [c] n).toArray.size = n
  rw [List.size_toArray, Lib.repeatL_length]
  simp
theorem repeat_any (c : UInt8) (n : Nat) (w : World) (hn : n ≤ 1000) : Calls Try.prog 15 #[.string ⟨#[c]⟩, .int .i64 (n : Int)] w (Says (.string (repT c n)) w) :=
  (Try.strings_Repeat ⟨#[c]⟩ n w (by omega) (by show 1 * n ≤ _; omega)).mono fun _ _ ⟨he, hx⟩ => ⟨he, hx⟩

namespace Pq
theorem Blk.set {ss : List ByteArray} {L n j : Nat} {s : ByteArray} (h : Blk ss L n) (hj : j < L) (hs : s.size = n) : Blk (ss.set j s) L n := by
  obtain ⟨h1, h2, h3, h4, h5⟩ := h
  refine ⟨by rw [List.length_set]; exact h1, h2, h3, h4, fun i hi => ?_⟩
  rw [nthS_set (by omega)]
  by_cases e : i = j
  · rw [if_pos e]; exact hs
  · rw [if_neg e]; exact h5 i hi
end Pq

theorem box_two (w : World) (u v : Value) (T : TypeId) : (w.alloc (.cells #[u, v] T)).cell? ⟨w.heap.size, 0, none⟩ = some u ∧ (w.alloc (.cells #[u, v] T)).cell? ⟨w.heap.size, 1, none⟩ = some v := by
  have := heap_alloc_new w (.cells #[u, v] T)
  unfold World.cell?
  simp only [this]
  simp
theorem RowS.at {e : TypeId} {w : World} {base g n cap x : Nat} {ss : List ByteArray} (h : RowS e w base (.slice (some ⟨g, 0, none⟩) n cap) ss) (hn : n = ss.length) (hx : x < n) : w.cell? ⟨g, x, none⟩ = some (.string (nthS ss x)) ∧ w.frozen? ⟨g, x, none⟩ = false := by
  obtain ⟨g2, c2, h1, _, _, _, _, h2, h3⟩ := h.flat (by omega)
  simp only [Value.slice.injEq, Option.some.injEq, Addr.mk.injEq, and_true] at h1
  obtain ⟨rfl, _⟩ := h1
  exact ⟨h2 x (by omega), h3 x⟩

set_option maxRecDepth 100000 in
set_option maxHeartbeats 4000000 in
theorem pairBack_of (HP : PrPutC) (HM : PrMendC) (a : Option Addr) (la ca : Nat) (ss : List ByteArray) (i k : Int) (W : ByteArray) (w : World) (ha : IsStrs w a la ca ss) (_ : I64 i) (_ : I64 k) (_ : W.size ≤ maxLen) :
    Calls Try.prog 4 #[.slice a la ca, .int .i64 i, .int .i64 k, .string W] w (Says (.bool true) w) := by
  have HY := Lib.hid fun w => pairs_yes HP w
  have hca := ha.2.1
  have hca2 : ca ≤ 9223372036854775807 := by have := ha.2.2.1; omega
  have hat : ∀ {w2 : World}, Ex w w2 → IsStrs w2 a la ca ss := fun k => ⟨ha.1, ha.2.1, ha.2.2.1, ha.2.2.2.1.ex k, ha.2.2.2.2⟩
  by_cases h0 : pqE ss = 0
  · have hB := pqE_zero.mp h0
    rw [ha.1] at hB
    obtain ⟨n, hn⟩ : ∃ n, (nthS ss 0).size = n := ⟨_, rfl⟩
    rw [hn] at hB
    have hl1 := hB.2.1
    have hl10 := hB.2.2.1
    have hn64 := hB.2.2.2.1
    have HPU := Lib.hid fun w2 (k : Ex w w2) => HP.ok hB hca hca2 (hat k).2.2.2.1
    have HSS := Lib.hid fun w2 (k : Ex w w2) => (hat k).2.2.2.1
    have hWi := fun w => within_any i (la : Int) w (by omega) (by omega)
    have hWk := fun w => within_any k (la : Int) w (by omega) (by omega)
    have a0 := Int.emod_nonneg i (b := (la : Int)) (by omega)
    have a1 := Int.emod_lt_of_pos i (b := (la : Int)) (by omega)
    have b0 := Int.emod_nonneg k (b := (la : Int)) (by omega)
    have b1 := Int.emod_lt_of_pos k (b := (la : Int)) (by omega)
    obtain ⟨I, hI⟩ : ∃ I : Nat, i % (la : Int) = (I : Int) := ⟨(i % (la : Int)).toNat, by omega⟩
    obtain ⟨K, hK⟩ : ∃ K : Nat, k % (la : Int) = (K : Int) := ⟨(k % (la : Int)).toNat, by omega⟩
    rw [hI] at hWi a0 a1
    rw [hK] at hWk b0 b1
    have HWI := Lib.hid hWi
    have HWK := Lib.hid hWk
    have hIl : I < la := by omega
    have hKl : K < la := by omega
    rcases ha.2.2.2.1 with h | ⟨gA, oA, rfl, hA⟩
    · have := ha.1; rw [h] at this; exact absurd this (by simp; omega)
    have HA0 := Lib.hid fun w2 (k : Ex w w2) => k.cell (hA 0 (by have := ha.1; omega))
    clear hWi hWk hI hK a0 a1 b0 b1 hA
    go_enter Try.func4, Try.ntmps4
    go_upto_region 6 with (first
      | (go_at_call 12; (with_reducible refine (HY.out _).mono ?_); rintro e w1 ⟨rfl, hw1⟩)
      | (go_at_call 7; (with_reducible refine (HPU.out _ hw1).mono ?_); rintro e w2 ⟨rfl, hw2⟩
         have hx2 := hw1.trans hw2))
    go_upto_region 7 with (first
      | (go_at_call 13; (with_reducible refine (HWI.out _).mono ?_); rintro e w3 ⟨rfl, rfl⟩; clear HWI)
      | (go_at_call 13; (with_reducible refine (HWK.out _).mono ?_); rintro e w4 ⟨rfl, rfl⟩))
    have hsP := tP_size n ss
    have hsQ := tQ_size n ss
    by_cases hIK : I = K
    · subst hIK
      have HMZ : Hid (mdE la n (tP n ss) (tQ n ss) [(I : Int)] = 0) := Lib.hid (by
        unfold mdE
        rw [if_neg (by omega)]
        show (if (I : Int) < 0 ∨ (la : Int) ≤ (I : Int) then (1 : Int) else 0) = 0
        rw [if_neg (by omega)])
      have HI64 : Hid (∀ x ∈ [(I : Int)], I64 x) := Lib.hid fun x hx => by
        rw [List.mem_singleton.mp hx]
        unfold I64; omega
      have HCE : Hid (∀ w2, Ex w w2 → Calls Try.prog 14 #[.slice (some ⟨gA, oA, none⟩) la ca] w2 (fun e w3 => ∃ v, e = .returned v ∧ Hid (RowS 9 w3 w2.heap.size v ss) ∧ Ex w2 w3)) := Lib.hid fun w2 k => clone_strs ss _ la ca w2 hB.1 (by omega) (HSS.out w2 k) (fun h => by cases h)
      have hbx := box_two w2 (.int .i64 (I : Int)) (.int .i64 (I : Int)) 3
      have HXL := Lib.hid (hx2.alloc (.cells #[.int .i64 (I : Int), .int .i64 (I : Int)] 3))
      obtain ⟨c0, c1⟩ := hbx
      go_upto_region 11 with (go_at_call 14; (with_reducible refine (HCE.out _ HXL.out).mono ?_); rintro e w5 ⟨v5, rfl, hrow5, hw5⟩)
      obtain ⟨g5, c5, rfl, hb5, hg5, hc5a, hc5b, _, _⟩ := hrow5.out.flat (by have := hB.1; omega)
      rw [hB.1] at hrow5 hc5a ⊢
      obtain ⟨gl, hgl⟩ : ∃ gl, w2.heap.size = gl := ⟨_, rfl⟩
      rw [hgl] at c0 c1 ⊢
      have hbl : (w2.alloc (.cells #[.int .i64 (I : Int), .int .i64 (I : Int)] 3)).heap.size ≤ g5 := hb5
      obtain ⟨wl, hwl⟩ : ∃ wl, w2.alloc (.cells #[.int .i64 (I : Int), .int .i64 (I : Int)] 3) = wl := ⟨_, rfl⟩
      rw [hwl] at c0 c1 hbl hw5 HXL hrow5
      have HBL := Lib.hid hbl
      have HLZ : Hid (∀ j, j < 1 → wl.cell? ⟨gl, j, none⟩ = some (.int .i64 (nth [(I : Int)] j)) ∧ ∃ x : Nat, x < la ∧ nth [(I : Int)] j = (x : Int)) := Lib.hid fun j hj => by
        rcases (show j = 0 ∨ (j = 1 ∧ 1 < 1) by omega) with rfl | ⟨rfl, h2⟩
        · exact ⟨c0, I, hIl, rfl⟩
        · first | exact absurd h2 (by decide) | exact ⟨c1, I, hKl, rfl⟩
      have HB0 : Hid (Blk ss la n) := Lib.hid hB
      have HXW := Lib.hid hw5
      clear c0 c1 hb5 hg5 hbl hwl hgl HCE hw5 hx2 hw1 hw2
      go_wp2
      go_loopg [63] 1 (fun m v63 wr => ∃ (j : Nat) (l : List ByteArray), j ≤ 1 ∧ v63 = .int .i64 (j : Int) ∧ Hid (RowS 9 wr wl.heap.size (.slice (some ⟨g5, 0, none⟩) la c5) l) ∧ Hid (Blk l la n) ∧ Hid (∀ t, t < la → (∀ q, q < j → nth [(I : Int)] q ≠ (t : Int)) → nthS l t = nthS ss t) ∧ Hid (m = 1 - j) ∧ Ex wl wr)
      case atStart => exact ⟨0, ss, by omega, rfl, hrow5, HB0, Lib.hid fun _ _ _ => rfl, Lib.hid rfl, HXW.out⟩
      case round =>
        obtain ⟨j, l, hj, rfl, hRow, hBl, hEq, hm, hx⟩ := hrel
        by_cases hlt : j < 1
        · obtain ⟨hcj, x, hxl, hzx⟩ := HLZ.out j hlt
          rw [hzx] at hcj
          have q1 := hx.cell hcj
          have q0 := HA0.out wr (HXL.out.trans hx)
          rw [Nat.add_zero] at q0
          have hs0 := HB0.out.2.2.2.2 0 (by omega)
          have HRE := Lib.hid fun w => repeat_any 63 n w (by omega)
          have HEQ2 : Hid (∀ (s : ByteArray) t, t < la → (∀ q, q < j + 1 → nth [(I : Int)] q ≠ (t : Int)) → nthS (l.set x s) t = nthS ss t) := Lib.hid fun s t ht hq => by
            rw [nthS_set (by have := hBl.out.1; omega), if_neg (fun e => hq j (by omega) (by rw [hzx, e]))]
            exact hEq.out t ht fun q hq2 => hq q (by omega)
          have HLL := Lib.hid hBl.out.1
          have HA8 : Hid (∀ w8, Ex wl w8 → w8.cell? ⟨gA, oA, none⟩ = some (.string (nthS ss 0))) := Lib.hid fun w8 k => by
            have := HA0.out w8 (HXL.out.trans k)
            rwa [Nat.add_zero] at this
          obtain ⟨s0, hse⟩ : ∃ s0, nthS ss 0 = s0 := ⟨_, rfl⟩
          rw [hse] at q0 hs0 HA8
          clear hcj hzx hse
          go_upto_region 15 with (go_at_call 15; (with_reducible refine (HRE.out _).mono ?_); rintro e w7 ⟨rfl, hw7⟩
                                  have HR7 := Lib.hid (hRow.out.ex hw7)
                                  have ha7 := HR7.out.at HLL.out.symm hxl
                                  have c7 := ha7.1
                                  have f7 := ha7.2)
          have HR8 := Lib.hid (HR7.out.set HLL.out.symm x (repT 63 n)).1
          have hx8 : Ex wl (w7.setCell ⟨g5, x, none⟩ (.string (repT 63 n))) := (hx.trans hw7).setCell HBL.out _
          have HX8 := Lib.hid hx8
          have HB8 := Lib.hid (hBl.out.set hxl (repT_size 63 n))
          have HE8 := Lib.hid (HEQ2.out (repT 63 n))
          have HL8 : Hid ((l.set x (repT 63 n)).length = la) := Lib.hid HB8.out.1
          clear HR7 ha7 c7 f7 hw7 hx8 q0 q1 hRow hx
          generalize w7.setCell ⟨g5, x, none⟩ (.string (repT 63 n)) = w8 at *
          obtain ⟨l8, hl8⟩ : ∃ l8, l.set x (repT 63 n) = l8 := ⟨_, rfl⟩
          rw [hl8] at HR8 HB8 HE8 HL8
          have q8 := HA8.out w8 HX8.out
          by_cases hWn : W.size = n
          · have ha8 := HR8.out.at HL8.out.symm hxl
            have c8 := ha8.1
            have f8 := ha8.2
            have HR9 := Lib.hid (HR8.out.set HL8.out.symm x W).1
            have HX9 := Lib.hid (HX8.out.setCell (p := ⟨g5, x, none⟩) HBL.out (.string W))
            have HB9 := Lib.hid (HB8.out.set hxl hWn)
            have HE9 : Hid (∀ t, t < la → (∀ q, q < j + 1 → nth [(I : Int)] q ≠ (t : Int)) → nthS (l8.set x W) t = nthS ss t) := Lib.hid fun t ht hq => by
              rw [← hl8, List.set_set]
              exact HEQ2.out W t ht hq
            clear ha8 hl8
            go_wp2
            go_roundg (1 - (j + 1))
            case measure => have := hm.out; omega
            case rel => exact ⟨j + 1, _, by omega, by go_num, HR9, HB9, HE9, Lib.hid rfl, HX9.out⟩
          · have g1 : ((W.size : Int) == (n : Int)) = false := beq_eq_false_iff_ne.mpr (by omega)
            clear hl8
            go_wp2
            go_roundg (1 - (j + 1))
            case measure => have := hm.out; omega
            case rel => exact ⟨j + 1, _, by omega, by go_num, HR8, HB8, HE8, Lib.hid rfl, HX8.out⟩
        · have e : j = 1 := by omega
          have HMD : Hid (MendTo la n l (tP n ss) (tQ n ss) [(I : Int)] ss) := Lib.hid ⟨HB0.out, rfl, rfl, fun t ht hn => (hEq.out t ht fun q hq e2 => hn (by rw [← e2]; exact nth_mem (by rw [e] at hq; exact hq))).symm⟩
          have HRZ : Hid (Reads wr .i64 (some ⟨gl, 0, none⟩) [(I : Int)]) := Lib.hid (.inr ⟨gl, 0, rfl, fun q hq => by rw [Nat.zero_add]; exact hx.cell (HLZ.out q hq).1⟩)
          obtain ⟨a9, c9, hv9, hc9, hr9, _⟩ := hRow.out.hands hBl.out.1
          simp only [Value.slice.injEq, true_and] at hv9
          obtain ⟨rfl, rfl⟩ := hv9
          have HME := Lib.hid (HM.some (lb := 1) (cb := 2) hBl.out hc9.out.1 hc9.out.2 hr9.out rfl (by decide) (by decide) HRZ.out HI64.out HMZ.out HMD.out)
          have HSR := Lib.hid fun w2 (k : Ex wr w2) => HSS.out w2 (HXL.out.trans (hx.trans k))
          have HEC := Lib.hid fun a2 c2 w2 (h1 : ReadsS w2 a2 ss) (h2 : ReadsS w2 (some ⟨gA, oA, none⟩) ss) => equal_strs ss a2 _ la c2 ca w2 HB0.out.1 (by omega) h1 h2
          have HXR := Lib.hid (HXL.out.trans hx)
          clear HMD HRZ hRow hBl hEq hr9 hc9
          go_wp2_with (first
            | (go_at_call 8; (with_reducible refine (HME.out).mono ?_); rintro e w6 ⟨a6, c6, rfl, hc6, hr6, hw6⟩)
            | (go_at_call 16; (with_reducible refine (HEC.out _ _ _ hr6.out (HSR.out _ hw6)).mono ?_); rintro e w7 ⟨rfl, hw7⟩))
          go_ret
          exact ⟨rfl, (HXR.out.trans hw6).trans hw7⟩
    · have g9 : ((I : Int) == (K : Int)) = false := beq_eq_false_iff_ne.mpr (by omega)
      have HMZ : Hid (mdE la n (tP n ss) (tQ n ss) [(I : Int), (K : Int)] = 0) := Lib.hid (by
        unfold mdE
        rw [if_neg (by omega)]
        show (if (I : Int) < 0 ∨ (la : Int) ≤ (I : Int) then (1 : Int) else if (K : Int) < 0 ∨ (la : Int) ≤ (K : Int) then 1 else if (K : Int) = (I : Int) then 6 else 0) = 0
        rw [if_neg (by omega), if_neg (by omega), if_neg (by omega)])
      have HI64 : Hid (∀ x ∈ [(I : Int), (K : Int)], I64 x) := Lib.hid fun x hx => by
        rcases List.mem_cons.mp hx with rfl | hx
        · unfold I64; omega
        · rw [List.mem_singleton.mp hx]
          unfold I64; omega
      have HCE : Hid (∀ w2, Ex w w2 → Calls Try.prog 14 #[.slice (some ⟨gA, oA, none⟩) la ca] w2 (fun e w3 => ∃ v, e = .returned v ∧ Hid (RowS 9 w3 w2.heap.size v ss) ∧ Ex w2 w3)) := Lib.hid fun w2 k => clone_strs ss _ la ca w2 hB.1 (by omega) (HSS.out w2 k) (fun h => by cases h)
      have hbx := box_two w2 (.int .i64 (I : Int)) (.int .i64 (K : Int)) 3
      have HXL := Lib.hid (hx2.alloc (.cells #[.int .i64 (I : Int), .int .i64 (K : Int)] 3))
      obtain ⟨c0, c1⟩ := hbx
      go_upto_region 11 with (go_at_call 14; (with_reducible refine (HCE.out _ HXL.out).mono ?_); rintro e w5 ⟨v5, rfl, hrow5, hw5⟩)
      obtain ⟨g5, c5, rfl, hb5, hg5, hc5a, hc5b, _, _⟩ := hrow5.out.flat (by have := hB.1; omega)
      rw [hB.1] at hrow5 hc5a ⊢
      obtain ⟨gl, hgl⟩ : ∃ gl, w2.heap.size = gl := ⟨_, rfl⟩
      rw [hgl] at c0 c1 ⊢
      have hbl : (w2.alloc (.cells #[.int .i64 (I : Int), .int .i64 (K : Int)] 3)).heap.size ≤ g5 := hb5
      obtain ⟨wl, hwl⟩ : ∃ wl, w2.alloc (.cells #[.int .i64 (I : Int), .int .i64 (K : Int)] 3) = wl := ⟨_, rfl⟩
      rw [hwl] at c0 c1 hbl hw5 HXL hrow5
      have HBL := Lib.hid hbl
      have HLZ : Hid (∀ j, j < 2 → wl.cell? ⟨gl, j, none⟩ = some (.int .i64 (nth [(I : Int), (K : Int)] j)) ∧ ∃ x : Nat, x < la ∧ nth [(I : Int), (K : Int)] j = (x : Int)) := Lib.hid fun j hj => by
        rcases (show j = 0 ∨ (j = 1 ∧ 1 < 2) by omega) with rfl | ⟨rfl, h2⟩
        · exact ⟨c0, I, hIl, rfl⟩
        · first | exact absurd h2 (by decide) | exact ⟨c1, K, hKl, rfl⟩
      have HB0 : Hid (Blk ss la n) := Lib.hid hB
      have HXW := Lib.hid hw5
      clear c0 c1 hb5 hg5 hbl hwl hgl HCE hw5 hx2 hw1 hw2
      go_wp2
      go_loopg [63] 2 (fun m v63 wr => ∃ (j : Nat) (l : List ByteArray), j ≤ 2 ∧ v63 = .int .i64 (j : Int) ∧ Hid (RowS 9 wr wl.heap.size (.slice (some ⟨g5, 0, none⟩) la c5) l) ∧ Hid (Blk l la n) ∧ Hid (∀ t, t < la → (∀ q, q < j → nth [(I : Int), (K : Int)] q ≠ (t : Int)) → nthS l t = nthS ss t) ∧ Hid (m = 2 - j) ∧ Ex wl wr)
      case atStart => exact ⟨0, ss, by omega, rfl, hrow5, HB0, Lib.hid fun _ _ _ => rfl, Lib.hid rfl, HXW.out⟩
      case round =>
        obtain ⟨j, l, hj, rfl, hRow, hBl, hEq, hm, hx⟩ := hrel
        by_cases hlt : j < 2
        · obtain ⟨hcj, x, hxl, hzx⟩ := HLZ.out j hlt
          rw [hzx] at hcj
          have q1 := hx.cell hcj
          have q0 := HA0.out wr (HXL.out.trans hx)
          rw [Nat.add_zero] at q0
          have hs0 := HB0.out.2.2.2.2 0 (by omega)
          have HRE := Lib.hid fun w => repeat_any 63 n w (by omega)
          have HEQ2 : Hid (∀ (s : ByteArray) t, t < la → (∀ q, q < j + 1 → nth [(I : Int), (K : Int)] q ≠ (t : Int)) → nthS (l.set x s) t = nthS ss t) := Lib.hid fun s t ht hq => by
            rw [nthS_set (by have := hBl.out.1; omega), if_neg (fun e => hq j (by omega) (by rw [hzx, e]))]
            exact hEq.out t ht fun q hq2 => hq q (by omega)
          have HLL := Lib.hid hBl.out.1
          have HA8 : Hid (∀ w8, Ex wl w8 → w8.cell? ⟨gA, oA, none⟩ = some (.string (nthS ss 0))) := Lib.hid fun w8 k => by
            have := HA0.out w8 (HXL.out.trans k)
            rwa [Nat.add_zero] at this
          obtain ⟨s0, hse⟩ : ∃ s0, nthS ss 0 = s0 := ⟨_, rfl⟩
          rw [hse] at q0 hs0 HA8
          clear hcj hzx hse
          go_upto_region 15 with (go_at_call 15; (with_reducible refine (HRE.out _).mono ?_); rintro e w7 ⟨rfl, hw7⟩
                                  have HR7 := Lib.hid (hRow.out.ex hw7)
                                  have ha7 := HR7.out.at HLL.out.symm hxl
                                  have c7 := ha7.1
                                  have f7 := ha7.2)
          have HR8 := Lib.hid (HR7.out.set HLL.out.symm x (repT 63 n)).1
          have hx8 : Ex wl (w7.setCell ⟨g5, x, none⟩ (.string (repT 63 n))) := (hx.trans hw7).setCell HBL.out _
          have HX8 := Lib.hid hx8
          have HB8 := Lib.hid (hBl.out.set hxl (repT_size 63 n))
          have HE8 := Lib.hid (HEQ2.out (repT 63 n))
          have HL8 : Hid ((l.set x (repT 63 n)).length = la) := Lib.hid HB8.out.1
          clear HR7 ha7 c7 f7 hw7 hx8 q0 q1 hRow hx
          generalize w7.setCell ⟨g5, x, none⟩ (.string (repT 63 n)) = w8 at *
          obtain ⟨l8, hl8⟩ : ∃ l8, l.set x (repT 63 n) = l8 := ⟨_, rfl⟩
          rw [hl8] at HR8 HB8 HE8 HL8
          have q8 := HA8.out w8 HX8.out
          by_cases hWn : W.size = n
          · have ha8 := HR8.out.at HL8.out.symm hxl
            have c8 := ha8.1
            have f8 := ha8.2
            have HR9 := Lib.hid (HR8.out.set HL8.out.symm x W).1
            have HX9 := Lib.hid (HX8.out.setCell (p := ⟨g5, x, none⟩) HBL.out (.string W))
            have HB9 := Lib.hid (HB8.out.set hxl hWn)
            have HE9 : Hid (∀ t, t < la → (∀ q, q < j + 1 → nth [(I : Int), (K : Int)] q ≠ (t : Int)) → nthS (l8.set x W) t = nthS ss t) := Lib.hid fun t ht hq => by
              rw [← hl8, List.set_set]
              exact HEQ2.out W t ht hq
            clear ha8 hl8
            go_wp2
            go_roundg (2 - (j + 1))
            case measure => have := hm.out; omega
            case rel => exact ⟨j + 1, _, by omega, by go_num, HR9, HB9, HE9, Lib.hid rfl, HX9.out⟩
          · have g1 : ((W.size : Int) == (n : Int)) = false := beq_eq_false_iff_ne.mpr (by omega)
            clear hl8
            go_wp2
            go_roundg (2 - (j + 1))
            case measure => have := hm.out; omega
            case rel => exact ⟨j + 1, _, by omega, by go_num, HR8, HB8, HE8, Lib.hid rfl, HX8.out⟩
        · have e : j = 2 := by omega
          have HMD : Hid (MendTo la n l (tP n ss) (tQ n ss) [(I : Int), (K : Int)] ss) := Lib.hid ⟨HB0.out, rfl, rfl, fun t ht hn => (hEq.out t ht fun q hq e2 => hn (by rw [← e2]; exact nth_mem (by rw [e] at hq; exact hq))).symm⟩
          have HRZ : Hid (Reads wr .i64 (some ⟨gl, 0, none⟩) [(I : Int), (K : Int)]) := Lib.hid (.inr ⟨gl, 0, rfl, fun q hq => by rw [Nat.zero_add]; exact hx.cell (HLZ.out q hq).1⟩)
          obtain ⟨a9, c9, hv9, hc9, hr9, _⟩ := hRow.out.hands hBl.out.1
          simp only [Value.slice.injEq, true_and] at hv9
          obtain ⟨rfl, rfl⟩ := hv9
          have HME := Lib.hid (HM.some (lb := 2) (cb := 2) hBl.out hc9.out.1 hc9.out.2 hr9.out rfl (by decide) (by decide) HRZ.out HI64.out HMZ.out HMD.out)
          have HSR := Lib.hid fun w2 (k : Ex wr w2) => HSS.out w2 (HXL.out.trans (hx.trans k))
          have HEC := Lib.hid fun a2 c2 w2 (h1 : ReadsS w2 a2 ss) (h2 : ReadsS w2 (some ⟨gA, oA, none⟩) ss) => equal_strs ss a2 _ la c2 ca w2 HB0.out.1 (by omega) h1 h2
          have HXR := Lib.hid (HXL.out.trans hx)
          clear HMD HRZ hRow hBl hEq hr9 hc9
          go_wp2_with (first
            | (go_at_call 8; (with_reducible refine (HME.out).mono ?_); rintro e w6 ⟨a6, c6, rfl, hc6, hr6, hw6⟩)
            | (go_at_call 16; (with_reducible refine (HEC.out _ _ _ hr6.out (HSR.out _ hw6)).mono ?_); rintro e w7 ⟨rfl, hw7⟩))
          go_ret
          exact ⟨rfl, (HXR.out.trans hw6).trans hw7⟩
  · have HPU := Lib.hid fun w2 (k : Ex w w2) => HP.no (hat k) h0
    have g0 : (pqE ss != 0) = true := bne_iff_ne.mpr h0
    generalize pqE ss = E at *
    clear hat ha
    go_enter Try.func4, Try.ntmps4
    go_wp2_with (first
      | (go_at_call 12; (with_reducible refine (HY.out _).mono ?_); rintro e w1 ⟨rfl, hw1⟩)
      | (go_at_call 7; (with_reducible refine (HPU.out _ hw1).mono ?_); rintro e w2 ⟨rfl, hw2⟩))
    go_ret
    exact ⟨rfl, hw1.trans hw2⟩

end Go.Proofs.Ytgdfmmdjnifjeaa
