/-
  PairTells, by contracts.
-/
import Derived.Test.YtgdfmmdjnifjeaaPqBack
namespace Go.Proofs.Ytgdfmmdjnifjeaa
open Go.RowKit
open Gf By Pq

namespace Pq
theorem col_set (ss : List ByteArray) (i : Nat) (s : ByteArray) (j : Nat) : col (ss.set i s) j = (col ss j).set i (be s j) := by unfold col; rw [List.map_set]
theorem nthS_ext {ss tt : List ByteArray} (h : ss.length = tt.length) (he : ∀ k, k < ss.length → nthS ss k = nthS tt k) : ss = tt := by
  apply List.ext_getElem h
  intro k a b
  have := he k a
  rwa [nthS_eq a, nthS_eq b] at this
theorem tP_col {n j : Nat} {ss tt : List ByteArray} (hj : j < n) (h : tP n ss = tP n tt) : pE (col ss j) = pE (col tt j) := by
  have := congrArg (be · j) h
  unfold tP at this
  rwa [be_byt hj, be_byt hj] at this
theorem tQ_col {n j : Nat} {ss tt : List ByteArray} (hj : j < n) (h : tQ n ss = tQ n tt) : qE 0 (col ss j) = qE 0 (col tt j) := by
  have := congrArg (be · j) h
  unfold tQ at this
  rwa [be_byt hj, be_byt hj] at this
/-- One block that is wrong, none lost: nothing mends it. -/
theorem tells_none {L n i j : Nat} {ss ms : List ByteArray} {s : ByteArray} {q : ByteArray} (hb : Blk ss L n) (hi : i < L) (hj : j < n) (hne : be s j ≠ be (nthS ss i) j) : ¬ MendTo L n (ss.set i s) (tP n ss) q [] ms := by
  rintro ⟨h1, h2, _, h4⟩
  have e : ms = ss.set i s := nthS_ext (by rw [h1.1, List.length_set, hb.1]) fun k hk => h4 k (by have := h1.1; omega) (by simp)
  subst e
  have h5 := tP_col hj h2
  rw [col_set] at h5
  have hl : i < (col ss j).length := by rw [col_length, hb.1]; exact hi
  have h6 := pair_one hl h5
  rw [col_get] at h6
  exact hne h6
/-- One that is wrong, another lost: nothing mends it. -/
theorem tells_other {L n i j k : Nat} {ss ms : List ByteArray} {s : ByteArray} (hb : Blk ss L n) (hi : i < L) (hk : k < L) (hik : i ≠ k) (hj : j < n) (hne : be s j ≠ be (nthS ss i) j) : ¬ MendTo L n (ss.set i s) (tP n ss) (tQ n ss) [(k : Int)] ms := by
  rintro ⟨h1, h2, h3, h4⟩
  have e : ms = (ss.set i s).set k (nthS ms k) := nthS_ext (by rw [h1.1, List.length_set, List.length_set, hb.1]) fun t ht => by
    have htL : t < L := by have := h1.1; omega
    rw [nthS_set (by rw [List.length_set, hb.1]; exact hk)]
    by_cases e2 : t = k
    · rw [if_pos e2, e2]
    · rw [if_neg e2]
      exact h4 t htL (by simp; omega)
  rw [e] at h2 h3
  have h5 := tP_col hj h2
  have h6 := tQ_col hj h3
  rw [col_set, col_set] at h5 h6
  have hl : (col ss j).length = L := by rw [col_length, hb.1]
  have := hb.2.2.1
  exact pair_tells (l := col ss j) (by omega) (by omega) (by omega) hik (a := be s j) (by rw [col_get]; exact hne) h5 h6
end Pq

set_option maxRecDepth 100000 in
set_option maxHeartbeats 4000000 in
theorem pairTells_of (HP : PrPutC) (HM : PrMendC) (a : Option Addr) (la ca : Nat) (ss : List ByteArray) (i k at' by' : Int) (w : World) (ha : IsStrs w a la ca ss) (_ : I64 i) (_ : I64 k) (_ : I64 at') (hby : 0 ≤ by' ∧ by' ≤ 255) :
    Calls Try.prog 6 #[.slice a la ca, .int .i64 i, .int .i64 k, .int .i64 at', .int .u8 by'] w (Says (.bool true) w) := by
  have HY := Lib.hid fun w => pairs_yes HP w
  have hca := ha.2.1
  have hca2 : ca ≤ 9223372036854775807 := by have := ha.2.2.1; omega
  have hla : la ≤ 140737488351232 := by have := ha.2.2.1; omega
  have hat : ∀ {w2 : World}, Ex w w2 → IsStrs w2 a la ca ss := fun k => ⟨ha.1, ha.2.1, ha.2.2.1, ha.2.2.2.1.ex k, ha.2.2.2.2⟩
  by_cases h0 : pqE ss = 0
  · have hB := pqE_zero.mp h0
    rw [ha.1] at hB
    obtain ⟨n, hn⟩ : ∃ n, (nthS ss 0).size = n := ⟨_, rfl⟩
    rw [hn] at hB
    have hl1 := hB.2.1
    have hl10 := hB.2.2.1
    have hn64 := hB.2.2.2.1
    have HPU := Lib.hid fun w2 (k : Ex w w2) => HP.ok hB hca hca2 (hat k).2.2.2.1
    have HSS := Lib.hid fun w2 (k : Ex w w2) => (hat k).2.2.2.1
    rcases ha.2.2.2.1 with h | ⟨gA, oA, rfl, hA⟩
    · have := ha.1; rw [h] at this; exact absurd this (by simp; omega)
    have HA0 : Hid (∀ w2, Ex w w2 → w2.cell? ⟨gA, oA, none⟩ = some (.string (nthS ss 0))) := Lib.hid fun w2 (k : Ex w w2) => by
      have := k.cell (hA 0 (by have := ha.1; omega))
      rwa [Nat.add_zero] at this
    have HS0 : Hid ((nthS ss 0).size = n) := Lib.hid hn
    by_cases hgo : 2 ≤ la ∧ n ≠ 0 ∧ by' ≠ 0
    · obtain ⟨g2, g3, g4⟩ := hgo
      have hWi := fun w => within_any i (la : Int) w (by omega) (by omega)
      have hWk := fun w => within_any k (la : Int) w (by omega) (by omega)
      have hWa := fun w => within_any at' (n : Int) w (by omega) (by omega)
      have a0 := Int.emod_nonneg i (b := (la : Int)) (by omega)
      have a1 := Int.emod_lt_of_pos i (b := (la : Int)) (by omega)
      have b0 := Int.emod_nonneg k (b := (la : Int)) (by omega)
      have b1 := Int.emod_lt_of_pos k (b := (la : Int)) (by omega)
      have d0 := Int.emod_nonneg at' (b := (n : Int)) (by omega)
      have d1 := Int.emod_lt_of_pos at' (b := (n : Int)) (by omega)
      obtain ⟨I, hI⟩ : ∃ I : Nat, i % (la : Int) = (I : Int) := ⟨(i % (la : Int)).toNat, by omega⟩
      obtain ⟨K, hK⟩ : ∃ K : Nat, k % (la : Int) = (K : Int) := ⟨(k % (la : Int)).toNat, by omega⟩
      obtain ⟨J, hJ⟩ : ∃ J : Nat, at' % (n : Int) = (J : Int) := ⟨(at' % (n : Int)).toNat, by omega⟩
      rw [hI] at hWi a0 a1
      rw [hK] at hWk b0 b1
      rw [hJ] at hWa d0 d1
      have HWI : Hid (∀ x : Wo w, Calls Try.prog 13 #[.int .i64 i, .int .i64 (la : Int)] x.val (Says (.int .i64 (I : Int)) x.val)) := Lib.hid fun x => says_same (hWi x.val)
      have HWK : Hid (∀ x : Wo w, Calls Try.prog 13 #[.int .i64 k, .int .i64 (la : Int)] x.val (Says (.int .i64 (K : Int)) x.val)) := Lib.hid fun x => says_same (hWk x.val)
      have HWA : Hid (∀ x : Wo w, Calls Try.prog 13 #[.int .i64 at', .int .i64 (n : Int)] x.val (Says (.int .i64 (J : Int)) x.val)) := Lib.hid fun x => says_same (hWa x.val)
      have hIl : I < la := by omega
      have hKl : K < la := by omega
      have hJn : J < n := by omega
      obtain ⟨b, hbv⟩ : ∃ b : E, by' = ((b.v : Nat) : Int) := ⟨⟨by'.toNat, by omega⟩, by show by' = ((by'.toNat : Nat) : Int); omega⟩
      subst hbv
      have hb0 : b ≠ 0 := fun e => g4 (by rw [e]; rfl)
      have hb1 := b.lt
      have hgl : decide ((la : Int) < 2) = false := decide_eq_false (by omega)
      have hgn : ((n : Int) == 0) = false := beq_eq_false_iff_ne.mpr (by omega)
      have hgb : (((b.v : Nat) : Int) == 0) = false := beq_eq_false_iff_ne.mpr g4
      have HBK : Hid (Blk ss la n) := Lib.hid hB
      have hsP := tP_size n ss
      have hsQ := tQ_size n ss
      clear hWi hWk hWa hI hK hJ a0 a1 b0 b1 d0 d1 hA hat ha hn h0
      obtain ⟨p, hp⟩ : ∃ p, tP n ss = p := ⟨_, rfl⟩
      obtain ⟨q, hq⟩ : ∃ q, tQ n ss = q := ⟨_, rfl⟩
      have HPD := Lib.hid hp
      have HQD := Lib.hid hq
      rw [hp] at HPU hsP
      rw [hq] at HPU hsQ
      clear hp hq
      go_enter Try.func6, Try.ntmps6
      go_upto_region 6 with (first
        | (go_at_call 12; (with_reducible refine (HY.out _).mono ?_); rintro e w1 ⟨rfl, hw1⟩)
        | (go_at_call 7; (with_reducible refine (HPU.out _ hw1).mono ?_); rintro e w2 ⟨rfl, hw2⟩
           have q0 := HA0.out w2 (hw1.trans hw2)
           have hs0 := HS0.out))
      have hx2 := hw1.trans hw2
      have q0' : ∀ x : Wo w2, x.val.cell? ⟨gA, oA, none⟩ = some (.string (nthS ss 0)) := fun x => HA0.out x.val (hx2.trans x.ex)
      have HI2 : Hid (∀ x : Wo w2, Calls Try.prog 13 #[.int .i64 i, .int .i64 (la : Int)] x.val (Says (.int .i64 (I : Int)) x.val)) := Lib.hid fun x => HWI.out ⟨x.val, hx2.trans x.ex⟩
      have HK2 : Hid (∀ x : Wo w2, Calls Try.prog 13 #[.int .i64 k, .int .i64 (la : Int)] x.val (Says (.int .i64 (K : Int)) x.val)) := Lib.hid fun x => HWK.out ⟨x.val, hx2.trans x.ex⟩
      have HJ2 : Hid (∀ x : Wo w2, Calls Try.prog 13 #[.int .i64 at', .int .i64 (n : Int)] x.val (Says (.int .i64 (J : Int)) x.val)) := Lib.hid fun x => HWA.out ⟨x.val, hx2.trans x.ex⟩
      clear q0 HWI HWK HWA
      obtain ⟨s0, hse⟩ : ∃ s0, nthS ss 0 = s0 := ⟨_, rfl⟩
      rw [hse] at q0' hs0
      clear hse
      refine wp_region_wo (by kernel_rfl) (by kernel_rfl) ?_
      repeat (go_big_quiet_step ((go_at_call 13; first | exact says_wo (HI2.out _) | exact says_wo (HK2.out _) | exact says_wo (HJ2.out _))))
      refine wpQuiet_nil ?_
      rintro _ ⟨⟨w3, hw3⟩, rfl⟩
      rename World => w3
      have HCE := Lib.hid (clone_strs ss (some ⟨gA, oA, none⟩) la ca w3 HBK.out.1 (by omega) (HSS.out w3 (hx2.trans hw3)) (fun h => by cases h))
      clear q0' hs0 HI2 HK2 HJ2
      go_upto_region 8 with (go_at_call 14; (with_reducible refine (HCE.out).mono ?_); rintro e w5 ⟨v5, rfl, hrow5, hw5⟩)
      obtain ⟨g5, c5, rfl, hb5, hg5, hc5a, hc5b, _, _⟩ := hrow5.out.flat (by have := HBK.out.1; omega)
      rw [HBK.out.1] at hrow5 hc5a ⊢
      have HX3 := Lib.hid (hx2.trans hw3)
      have HB5 : Hid (w3.heap.size ≤ g5) := Lib.hid hb5
      have ha5 := hrow5.out.at HBK.out.1.symm hIl
      have c5c := ha5.1
      have hsI := HBK.out.2.2.2.2 I hIl
      obtain ⟨sI, hsIe⟩ : ∃ sI, nthS ss I = sI := ⟨_, rfl⟩
      have HSI := Lib.hid hsIe
      rw [hsIe] at c5c hsI
      obtain ⟨w6, cap, hcv, hx6, hown, hcap⟩ := conv_to sI w5
      have hown6 : Hid (OwnB w6 w5.heap.size sI.size (be sI)) := hown
      rw [hsI] at hcv hcap hown6
      have hcap' := hcap
      obtain ⟨g6, hg6⟩ : ∃ g6, w5.heap.size = g6 := ⟨_, rfl⟩
      rw [hg6] at hcv hown6
      have HG6 : Hid (w3.heap.size ≤ g6 ∧ w5.heap.size ≤ g6) := Lib.hid ⟨by rw [← hg6]; exact hw5.size, by omega⟩
      have HX6 := Lib.hid (hw5.trans hx6.out)
      have HR5 : Hid (RowS 9 w5 w3.heap.size (.slice (some ⟨g5, 0, none⟩) la c5) ss) := Lib.hid hrow5.out
      clear hown hrow5 ha5 hg6 hcap hb5 hg5 hsIe
      go_upto_region 9 with fail
      have o1 := (hown6.out J hJn).1
      have o2 := (hown6.out J hJn).2
      have hxo := xor_u8_nat (be sI J).v b.v (be sI J).lt b.lt
      have hxs : (be sI J).v ^^^ b.v = (be sI J + b : E).v := rfl
      rw [hxs] at hxo
      have HOW := Lib.hid (hown6.out.set hJn (be sI J + b))
      have HX7 := Lib.hid (HX6.out.setCell (p := ⟨g6, J, none⟩) HG6.out.1 (.int .u8 (((be sI J + b : E).v : Nat) : Int)))
      have HX57 := Lib.hid (hx6.out.setCell (p := ⟨g6, J, none⟩) HG6.out.2 (.int .u8 (((be sI J + b : E).v : Nat) : Int)))
      have HNE : Hid (be (byt (updF (be sI) J (be sI J + b)) n) J ≠ be (nthS ss I) J) := Lib.hid (by
        rw [be_byt hJn, HSI.out]
        unfold updF
        rw [if_pos rfl]
        intro e
        have := congrArg (be sI J + ·) e
        rw [← E.add_assoc, E.add_self, E.zero_add] at this
        exact hb0 this)
      have f1 := (be sI J).lt
      have f3 := (be sI J + b : E).lt
      obtain ⟨S, hS⟩ : ∃ S, byt (updF (be sI) J (be sI J + b)) n = S := ⟨_, rfl⟩
      have hSs : S.size = n := by rw [← hS]; exact byt_size _ _
      have HBA : Hid (∀ w, OwnB w g6 n (updF (be sI) J (be sI J + b)) → (convert 38 9 (.slice (some ⟨g6, 0, none⟩) n cap)).run Try.prog w = .ok (.string S) w) := Lib.hid fun w h => by rw [← hS]; exact h.back cap
      rw [hS] at HNE
      obtain ⟨z, hz⟩ : ∃ z, (be sI J + b : E).v = z := ⟨_, rfl⟩
      obtain ⟨y, hy⟩ : ∃ y, (be sI J).v = y := ⟨_, rfl⟩
      obtain ⟨bn, hbn⟩ : ∃ bn, b.v = bn := ⟨_, rfl⟩
      rw [hz] at HOW HX7 HX57 hxo f3
      rw [hy] at o1 hxo f1
      rw [hbn] at hxo hb1 ⊢
      clear hxs hS hz hy hcv hown6
      go_upto_region 10 with fail
      obtain ⟨w7, hw7⟩ : ∃ w7, w6.setCell ⟨g6, J, none⟩ (.int .u8 (z : Int)) = w7 := ⟨_, rfl⟩
      rw [hw7] at HOW HX7 HX57 ⊢
      have hcvb := HBA.out w7 HOW.out
      have HR7 := Lib.hid (HR5.out.ex HX57.out)
      have ha7 := HR7.out.at HBK.out.1.symm hIl
      have c7 := ha7.1
      have f7 := ha7.2
      have HR8 := Lib.hid (HR7.out.set HBK.out.1.symm I S).1
      have HX8 := Lib.hid (HX7.out.setCell (p := ⟨g5, I, none⟩) HB5.out (.string S))
      have HB8 := Lib.hid (HBK.out.set hIl hSs)
      clear ha7 HR7 HOW HX57 HX7 o1 o2 hw7
      go_upto_region 11 with fail
      obtain ⟨w8, hw8⟩ : ∃ w8, w7.setCell ⟨g5, I, none⟩ (.string S) = w8 := ⟨_, rfl⟩
      rw [hw8] at HR8 HX8 ⊢
      obtain ⟨a9, c9, hv9, hc9, hr9, _⟩ := HR8.out.hands HB8.out.1
      simp only [Value.slice.injEq, true_and] at hv9
      obtain ⟨rfl, rfl⟩ := hv9
      have HN0 := Lib.hid fun ms => tells_none (ms := ms) (q := tQ n ss) HBK.out hIl hJn HNE.out
      rw [HPD.out, HQD.out] at HN0
      have HMD0 : Hid (mdE la n p q [] = 0) := Lib.hid (by unfold mdE; rw [if_neg (by omega)]; rfl)
      have HMD1 : Hid (mdE la n p q [(K : Int)] = 0) := Lib.hid (by
        unfold mdE
        rw [if_neg (by omega)]
        show (if (K : Int) < 0 ∨ (la : Int) ≤ (K : Int) then (1 : Int) else 0) = 0
        rw [if_neg (by omega)])
      have HI64 : Hid (∀ x ∈ [(K : Int)], I64 x) := Lib.hid fun x hx => by
        rw [List.mem_singleton.mp hx]
        unfold I64; omega
      have HME := Lib.hid (HM.none (b := none) (lb := 0) (cb := 0) (z := []) HB8.out hc9.out.1 hc9.out.2 hr9.out rfl (by decide) (by decide) (.inl rfl) (fun x h => by cases h) HMD0.out HN0.out)
      have HX8w := Lib.hid (HX3.out.trans HX8.out)
      clear c7 f7 hw8 hcvb HR8 HN0
      go_upto_region 14 with (go_at_call 8; (with_reducible refine (HME.out).mono ?_); rintro e w9 ⟨an, cn, rfl, hw9⟩)
      have HL9 : Hid (Reads (w9.alloc (.cells #[.int .i64 (K : Int)] 3)) .i64 (some ⟨w9.heap.size, 0, none⟩) [(K : Int)]) := Lib.hid (.inr ⟨_, 0, rfl, fun j hj => by
        have : j = 0 := by simp at hj; omega
        subst this
        exact box_one w9 _ _⟩)
      have HX9 := Lib.hid (hw9.alloc (.cells #[.int .i64 (K : Int)] 3))
      have HR9 := Lib.hid (hr9.out.ex HX9.out)
      have HX9w := Lib.hid (HX8w.out.trans HX9.out)
      by_cases hIK : I = K
      · subst hIK
        have HMT : Hid (MendTo la n (ss.set I S) p q [(I : Int)] ss) := Lib.hid ⟨HBK.out, HPD.out, HQD.out, fun t ht hn => by
          rw [nthS_set (by have := HBK.out.1; omega), if_neg (fun e => hn (by rw [e]; exact List.mem_singleton.mpr rfl))]⟩
        have HM2 := Lib.hid (HM.some (lb := 1) (cb := 1) HB8.out hc9.out.1 hc9.out.2 HR9.out rfl (by decide) (by decide) HL9.out HI64.out HMD1.out HMT.out)
        have HEC := Lib.hid fun a2 c2 w2 (h1 : ReadsS w2 a2 ss) (h2 : ReadsS w2 (some ⟨gA, oA, none⟩) ss) => equal_strs ss a2 _ la c2 ca w2 HBK.out.1 (by omega) h1 h2
        go_wp2_with (first
          | (go_at_call 8; (with_reducible refine (HM2.out).mono ?_); rintro e w10 ⟨a10, c10, rfl, hc10, hr10, hw10⟩)
          | (go_at_call 16; (with_reducible refine (HEC.out _ _ _ hr10.out (HSS.out _ (HX9w.out.trans hw10))).mono ?_); rintro e w11 ⟨rfl, hw11⟩))
        go_ret
        exact ⟨rfl, (HX9w.out.trans hw10).trans hw11⟩
      · have HN1 := Lib.hid fun ms => tells_other (ms := ms) HBK.out hIl hKl hIK hJn HNE.out
        rw [HPD.out, HQD.out] at HN1
        have HM2 := Lib.hid (HM.none (lb := 1) (cb := 1) HB8.out hc9.out.1 hc9.out.2 HR9.out rfl (by decide) (by decide) HL9.out HI64.out HMD1.out HN1.out)
        have gik : ((I : Int) == (K : Int)) = false := beq_eq_false_iff_ne.mpr (by omega)
        clear HN1
        go_wp2_with (go_at_call 8; (with_reducible refine (HM2.out).mono ?_); rintro e w10 ⟨a10, c10, rfl, hw10⟩)
        go_ret
        exact ⟨rfl, HX9w.out.trans hw10⟩
    · have hfar : la < 2 ∨ (2 ≤ la ∧ n = 0) ∨ (2 ≤ la ∧ n ≠ 0 ∧ by' = 0) := by
        by_cases e1 : 2 ≤ la
        · by_cases e2 : n = 0
          · exact .inr (.inl ⟨e1, e2⟩)
          · exact .inr (.inr ⟨e1, e2, Classical.byContradiction fun e3 => hgo ⟨e1, e2, e3⟩⟩)
        · exact .inl (by omega)
      have hs0 := hn
      clear hat ha HP HM hB h0 hgo hA HSS hn HS0
      generalize nthS ss 0 = s0 at hs0 HA0
      generalize tP n ss = p at HPU
      generalize tQ n ss = q at HPU
      rcases hfar with h1 | ⟨h1, h2⟩ | ⟨h1, h2, h3⟩
      · have g0 : decide ((la : Int) < 2) = true := decide_eq_true (by omega)
        go_enter Try.func6, Try.ntmps6
        go_wp2_with (first
          | (go_at_call 12; (with_reducible refine (HY.out _).mono ?_); rintro e w1 ⟨rfl, hw1⟩)
          | (go_at_call 7; (with_reducible refine (HPU.out _ hw1).mono ?_); rintro e w2 ⟨rfl, hw2⟩))
        go_ret
        exact ⟨rfl, hw1.trans hw2⟩
      · have g0 : decide ((la : Int) < 2) = false := decide_eq_false (by omega)
        subst h2
        go_enter Try.func6, Try.ntmps6
        go_wp2_with (first
          | (go_at_call 12; (with_reducible refine (HY.out _).mono ?_); rintro e w1 ⟨rfl, hw1⟩)
          | (go_at_call 7; (with_reducible refine (HPU.out _ hw1).mono ?_); rintro e w2 ⟨rfl, hw2⟩
             have q0 := HA0.out w2 (hw1.trans hw2)))
        go_ret
        exact ⟨rfl, hw1.trans hw2⟩
      · have g0 : decide ((la : Int) < 2) = false := decide_eq_false (by omega)
        have g1 : ((n : Int) == 0) = false := beq_eq_false_iff_ne.mpr (by omega)
        subst h3
        go_enter Try.func6, Try.ntmps6
        go_wp2_with (first
          | (go_at_call 12; (with_reducible refine (HY.out _).mono ?_); rintro e w1 ⟨rfl, hw1⟩)
          | (go_at_call 7; (with_reducible refine (HPU.out _ hw1).mono ?_); rintro e w2 ⟨rfl, hw2⟩
             have q0 := HA0.out w2 (hw1.trans hw2)))
        go_ret
        exact ⟨rfl, hw1.trans hw2⟩
  · have HPU := Lib.hid fun w2 (k : Ex w w2) => HP.no (hat k) h0
    have g0 : (pqE ss != 0) = true := bne_iff_ne.mpr h0
    generalize pqE ss = E at *
    clear hat ha
    go_enter Try.func6, Try.ntmps6
    go_wp2_with (first
      | (go_at_call 12; (with_reducible refine (HY.out _).mono ?_); rintro e w1 ⟨rfl, hw1⟩)
      | (go_at_call 7; (with_reducible refine (HPU.out _ hw1).mono ?_); rintro e w2 ⟨rfl, hw2⟩))
    go_ret
    exact ⟨rfl, hw1.trans hw2⟩

end Go.Proofs.Ytgdfmmdjnifjeaa
