/-
  PairSums, by contracts.
-/
import Derived.Test.YtgdfmmdjnifjeaaPqC
namespace Go.Proofs.Ytgdfmmdjnifjeaa
open Go.RowKit
open Gf By Pq

namespace Pq
/-- Blocks, block by block together. -/
def cl (n : Nat) (ss tt : List ByteArray) (L : Nat) : List ByteArray := (List.range L).map fun k => bothT (nthS ss k) (nthS tt k) n
theorem cl_length (n : Nat) (ss tt : List ByteArray) (L : Nat) : (cl n ss tt L).length = L := by simp [cl]
theorem cl_nth {n : Nat} {ss tt : List ByteArray} {L k : Nat} (h : k < L) : nthS (cl n ss tt L) k = bothT (nthS ss k) (nthS tt k) n := by
  rw [nthS_eq (by rw [cl_length]; exact h)]
  simp [cl]
theorem cl_snoc (n : Nat) (ss tt : List ByteArray) (L : Nat) : strV (cl n ss tt L) ++ [.string (bothT (nthS ss L) (nthS tt L) n)] = strV (cl n ss tt (L + 1)) := by
  unfold cl strV
  rw [List.range_succ, List.map_append, List.map_append]
  rfl
theorem bothT_size (s t : ByteArray) (n : Nat) : (bothT s t n).size = n := byt_size _ _
theorem cl_blk {ss tt : List ByteArray} {L n : Nat} (h : Blk ss L n) : Blk (cl n ss tt L) L n :=
  ⟨cl_length _ _ _ _, h.2.1, h.2.2.1, h.2.2.2.1, fun i hi => by rw [cl_nth hi]; exact bothT_size _ _ _⟩
theorem col_cl {ss tt : List ByteArray} {L n i : Nat} (h1 : ss.length = L) (h2 : tt.length = L) (hi : i < n) : col (cl n ss tt L) i = List.zipWith (· + ·) (col ss i) (col tt i) := by
  apply List.ext_getElem
  · rw [col_length, cl_length, List.length_zipWith, col_length, col_length, h1, h2, Nat.min_self]
  · intro k a b
    have hk : k < L := by rwa [col_length, cl_length] at a
    rw [col_get, List.getElem_zipWith, col_get, col_get, cl_nth hk]
    exact be_byt hi
theorem tP_cl {ss tt : List ByteArray} {L n : Nat} (h1 : ss.length = L) (h2 : tt.length = L) : tP n (cl n ss tt L) = bothT (tP n ss) (tP n tt) n := by
  unfold tP bothT
  refine byt_congr fun j hj => ?_
  rw [be_byt hj, be_byt hj, col_cl h1 h2 hj, pE_add _ _ (by rw [col_length, col_length, h1, h2])]
theorem tQ_cl {ss tt : List ByteArray} {L n : Nat} (h1 : ss.length = L) (h2 : tt.length = L) : tQ n (cl n ss tt L) = bothT (tQ n ss) (tQ n tt) n := by
  unfold tQ bothT
  refine byt_congr fun j hj => ?_
  rw [be_byt hj, be_byt hj, col_cl h1 h2 hj, qE_add _ _ 0 (by rw [col_length, col_length, h1, h2])]
theorem tP_size (n : Nat) (ss : List ByteArray) : (tP n ss).size = n := byt_size _ _
theorem tQ_size (n : Nat) (ss : List ByteArray) : (tQ n ss).size = n := byt_size _ _
end Pq

set_option maxRecDepth 100000 in
set_option maxHeartbeats 4000000 in
theorem pairSums_of (HP : PrPutC) (a : Option Addr) (la ca : Nat) (ss : List ByteArray) (b : Option Addr) (lb cb : Nat) (tt : List ByteArray) (w : World) (ha : IsStrs w a la ca ss) (hb : IsStrs w b lb cb tt) :
    Calls Try.prog 5 #[.slice a la ca, .slice b lb cb] w (Says (.bool true) w) := by
  have HY := Lib.hid fun w => pairs_yes HP w
  have hca := ha.2.1
  have hcb := hb.2.1
  have hca2 : ca ≤ 9223372036854775807 := by have := ha.2.2.1; omega
  have hcb2 : cb ≤ 9223372036854775807 := by have := hb.2.2.1; omega
  have hat : ∀ {w2 : World}, Ex w w2 → IsStrs w2 a la ca ss := fun k => ⟨ha.1, ha.2.1, ha.2.2.1, ha.2.2.2.1.ex k, ha.2.2.2.2⟩
  have hbt : ∀ {w2 : World}, Ex w w2 → IsStrs w2 b lb cb tt := fun k => ⟨hb.1, hb.2.1, hb.2.2.1, hb.2.2.2.1.ex k, hb.2.2.2.2⟩
  -- what Put answers, in one
  have put : ∀ {zs : List ByteArray} {c : Option Addr} {lc cc : Nat}, (∀ {w2 : World}, Ex w w2 → IsStrs w2 c lc cc zs) → ∀ w2, Ex w w2 → Calls Try.prog 7 #[.slice c lc cc] w2 (fun e w3 => ∃ p q : ByteArray, e = .returned (.tuple #[.string p, .string q, .int .i64 (pqE zs)]) ∧ Hid (pqE zs = 0 → p = tP (nthS zs 0).size zs ∧ q = tQ (nthS zs 0).size zs) ∧ Ex w2 w3) := fun {zs c lc cc} hz w2 k => by
    by_cases h0 : pqE zs = 0
    · have hbk := pqE_zero.mp h0
      have h := hz k
      rw [h.1] at hbk
      refine (HP.ok hbk h.2.1 (by have := h.2.2.1; omega) h.2.2.2.1).mono ?_
      rintro e w3 ⟨rfl, hw⟩
      exact ⟨_, _, by rw [h0], Lib.hid fun _ => ⟨rfl, rfl⟩, hw⟩
    · refine (HP.no (hz k) h0).mono ?_
      rintro e w3 ⟨rfl, hw⟩
      exact ⟨_, _, rfl, Lib.hid fun h => absurd h h0, hw⟩
  have HPA := Lib.hid (put hat)
  have HPB := Lib.hid (put hbt)
  by_cases hgo : pqE ss = 0 ∧ pqE tt = 0 ∧ la = lb ∧ (nthS ss 0).size = (nthS tt 0).size
  · obtain ⟨e1, e2, rfl, e4⟩ := hgo
    have b1 := pqE_zero.mp e1
    have b2 := pqE_zero.mp e2
    rw [ha.1] at b1
    rw [hb.1] at b2
    rw [e1] at HPA
    rw [e2] at HPB
    rw [← e4] at b2 HPB
    obtain ⟨n, hn⟩ : ∃ n, (nthS ss 0).size = n := ⟨_, rfl⟩
    rw [hn] at b1 b2 HPA HPB
    have HPC := Lib.hid fun (a3 : Option Addr) (c3 : Nat) (w2 : World) (h1 : la ≤ c3) (h2 : c3 ≤ 9223372036854775807) (h : ReadsS w2 a3 (cl n ss tt la)) => HP.ok (cl_blk (tt := tt) b1) h1 h2 h
    rw [tP_cl b1.1 b2.1, tQ_cl b1.1 b2.1] at HPC
    have HB1 := Lib.hid (both_any (tP n ss) (tP n tt) n · (tP_size n ss) (tP_size n tt) (by have := b1.2.2.2.1; omega))
    have HB2 := Lib.hid (both_any (tQ n ss) (tQ n tt) n · (tQ_size n ss) (tQ_size n tt) (by have := b1.2.2.2.1; omega))
    have hP1 := tP_size n ss
    have hP2 := tP_size n tt
    have hQ1 := tQ_size n ss
    have hQ2 := tQ_size n tt
    have hl1 := b1.2.1
    have hl10 := b1.2.2.1
    have hn64 := b1.2.2.2.1
    have HBO : Hid (∀ i, i < la → ∀ w, Calls Try.prog 17 #[.string (nthS ss i), .string (nthS tt i)] w (Says (.string (bothT (nthS ss i) (nthS tt i) n)) w)) := Lib.hid fun i hi w => both_any _ _ n w (b1.2.2.2.2 i hi) (b2.2.2.2.2 i hi) (by omega)
    rcases ha.2.2.2.1 with h | ⟨gA, oA, rfl, hA⟩
    · have := b1.1; rw [h] at this; exact absurd this (by simp; omega)
    rcases hb.2.2.2.1 with h | ⟨gB, oB, rfl, hB⟩
    · have := b2.1; rw [h] at this; exact absurd this (by simp; omega)
    rw [b1.1] at hA
    rw [b2.1] at hB
    have HA := Lib.hid hA
    have HB := Lib.hid hB
    have hsA := b1.2.2.2.2 0 (by omega)
    have hsB := b2.2.2.2.2 0 (by omega)
    have HSN := Lib.hid (cl_snoc n ss tt)
    have HCL := Lib.hid (cl_length n ss tt)
    have g0 : ((la : Int) == 0) = false := beq_eq_false_iff_ne.mpr (by omega)
    obtain ⟨pA, hpA⟩ : ∃ x, tP n ss = x := ⟨_, rfl⟩
    obtain ⟨pB, hpB⟩ : ∃ x, tP n tt = x := ⟨_, rfl⟩
    obtain ⟨qA, hqA⟩ : ∃ x, tQ n ss = x := ⟨_, rfl⟩
    obtain ⟨qB, hqB⟩ : ∃ x, tQ n tt = x := ⟨_, rfl⟩
    rw [hpA] at HPA HB1 hP1 HPC
    rw [hpB] at HPB HB1 hP2 HPC
    rw [hqA] at HPA HB2 hQ1 HPC
    rw [hqB] at HPB HB2 hQ2 HPC
    clear put hat hbt ha hb HP b1 b2 hA hB e1 e2 e4 hpA hpB hqA hqB
    have q0 : ∀ x : Wo w, x.val.cell? ⟨gA, oA, none⟩ = some (.string (nthS ss 0)) := fun x => x.ex.cell (HA.out 0 (by omega))
    have q1 : ∀ x : Wo w, x.val.cell? ⟨gB, oB, none⟩ = some (.string (nthS tt 0)) := fun x => x.ex.cell (HB.out 0 (by omega))
    have Q0 := Lib.hid q0
    have Q1 := Lib.hid q1
    clear q0 q1 hn
    generalize nthS ss 0 = s0 at hsA Q0
    generalize nthS tt 0 = t0 at hsB Q1
    go_enter Try.func5, Try.ntmps5
    go_upto_region 5 with (first
      | (go_at_call 12; (with_reducible refine (HY.out _).mono ?_); rintro e w1 ⟨rfl, hw1⟩)
      | (go_at_call 7; (with_reducible refine (HPA.out _ hw1).mono ?_); rintro e w2 ⟨p, q, rfl, hpq, hw2⟩
         have hx2 := hw1.trans hw2
         clear HPA)
      | (go_at_call 7; (with_reducible refine (HPB.out _ hx2).mono ?_); rintro e w3 ⟨r, s, rfl, hrs, hw3⟩
         have hx3 := hx2.trans hw3))
    obtain ⟨rfl, rfl⟩ := hpq.out trivial
    obtain ⟨rfl, rfl⟩ := hrs.out trivial
    have q0 : ∀ x : Wo w3, x.val.cell? ⟨gA, oA, none⟩ = some (.string s0) := fun x => Q0.out ⟨x.val, hx3.trans x.ex⟩
    have q1 : ∀ x : Wo w3, x.val.cell? ⟨gB, oB, none⟩ = some (.string t0) := fun x => Q1.out ⟨x.val, hx3.trans x.ex⟩
    refine wp_region_wo (by kernel_rfl) (by kernel_rfl) ?_
    repeat (go_big_quiet_step (fail))
    refine wpQuiet_nil ?_
    rintro _ ⟨⟨w5, hw5⟩, rfl⟩
    have HX5 := Lib.hid (hx3.trans hw5)
    clear hw1 hw2 hw3 hw5 hx2 hx3 q0 q1 hpq hrs Q0 Q1
    go_wp2
    go_loopg [11, 61] la (fun k v11 v61 wr => ∃ (i : Nat) (v : Value), i ≤ la ∧ v11 = v ∧ v61 = .int .i64 (i : Int) ∧ Hid (RowS 9 wr w.heap.size v (cl n ss tt i)) ∧ Hid (k = la - i) ∧ Ex w wr)
    case atStart => exact ⟨0, _, by omega, rfl, rfl, Lib.hid (RowS.nil _ _ _), Lib.hid rfl, HX5.out⟩
    case round =>
      obtain ⟨i, v, hi, rfl, rfl, hRow, hk, hx⟩ := hrel
      by_cases hlt : i < la
      · have hd : Ex w wr.drew := hx.drew
        haveI : Nonempty (Kp (fun w2 : World => Ex w w2)) := ⟨⟨w, Ex.refl _⟩⟩
        have c0 : ∀ x : Kp (fun w2 : World => Ex w w2), x.val.cell? ⟨gA, oA + i, none⟩ = some (.string (nthS ss i)) := fun x => x.ok.cell (HA.out i hlt)
        have c1 : ∀ x : Kp (fun w2 : World => Ex w w2), x.val.cell? ⟨gB, oB + i, none⟩ = some (.string (nthS tt i)) := fun x => x.ok.cell (HB.out i hlt)
        have HBi := Lib.hid (HBO.out i hlt)
        have HSi := Lib.hid (HSN.out i)
        have hli := strV_length (cl n ss tt i)
        rw [HCL.out] at hli
        obtain ⟨sI, hsI⟩ : ∃ x, nthS ss i = x := ⟨_, rfl⟩
        obtain ⟨tI, htI⟩ : ∃ x, nthS tt i = x := ⟨_, rfl⟩
        rw [hsI] at c0 HBi HSi
        rw [htI] at c1 HBi HSi
        obtain ⟨uI, huI⟩ : ∃ x, bothT sI tI n = x := ⟨_, rfl⟩
        rw [huI] at HBi HSi
        have HRow0 : Hid (RowV 9 wr.drew w.heap.size u11 (strV (cl n ss tt i))) := Lib.hid (RowV.ex hRow.out (Ex.refl wr).drew)
        obtain ⟨us, hus⟩ : ∃ us, strV (cl n ss tt i) = us := ⟨_, rfl⟩
        rw [hus] at HRow0 HSi hli
        clear hsI htI huI hus hRow
        go_wp2
        refine wp_region_scr (fun w2 => ∃ x : Kp (fun w2 : World => Ex w w2), w2 = x.val) (.take 0 (.take 1 (.take 2 (.take 3 (.take 4 (.take 5 (.take 6 (.take 7 (.take 8 (.one 9 (.one 10 (.one 11 (.take 12 (.fin)))))))))))))) (by kernel_rfl) (by kernel_rfl) (by intro _ _ d _ _ h; cases d <;> exact h) ⟨⟨_, (by first | exact hd | exact hd.trans hw6 | exact (hd.trans hw6).alloc _ | exact HXW.out)⟩, rfl⟩ ?_
        generalize wr.drew = wd at hd HRow0 ⊢
        simp only [fillS, List.getD_cons_zero, List.getD_cons_succ]
        repeat' (first
          | ((with_reducible refine wpScr_pure ?_); go_big_quiet_step (fail); (with_reducible refine scrQ_on ?_))
          | ((with_reducible refine wpScr_turn ?_); intro K hK; go_wp2_with (first | fail |(go_at_call 17; (with_reducible refine (HBi.out _).mono ?_); rintro e w6 ⟨rfl, hw6⟩) | (at_builtin; refine wpList_append_value rfl _ _ 22 rfl w.heap.size 9 _ 16 Try.underlying22 info_str rfl u11 us rfl (RowV.ex HRow0.out (hw6.alloc (.cells #[.string uI] 9))) (.string uI) rfl w6.heap.size rfl (box_one w6 _ _) (by unfold maxLen; omega) (by omega) ((hd.trans hw6).alloc (.cells #[.string uI] 9)).size ?_; intro v7 w7 hown7 hgrow7 hat7; have HXW := Lib.hid (RowV.grown (RowV.ex HRow0.out (hw6.alloc (.cells #[.string uI] 9))) ((hd.trans hw6).alloc (.cells #[.string uI] 9)) hgrow7))); refine hK _ _ ⟨⟨_, (by first | exact hd | exact hd.trans hw6 | exact (hd.trans hw6).alloc _ | exact HXW.out)⟩, rfl⟩ ?_; clear hK K)
          | (with_reducible refine wpScr_two ?_ ?_)
          | (with_reducible refine wpScr_three ?_ ?_ ?_)
          | (with_reducible refine wpScr_nil ?_))
        rw [HSi.out] at hown7
        have HR7 : Hid (RowS 9 w7 w.heap.size v7 (cl n ss tt (i + 1))) := Lib.hid hown7
        clear hown7 hgrow7 hat7 c0 c1
        go_wp2
        go_roundg (la - (i + 1))
        case measure => have := hk.out; omega
        case rel => exact ⟨i + 1, _, by omega, rfl, by go_num, HR7, Lib.hid rfl, HXW.out⟩
      · have e : la = i := by omega
        subst e
        obtain ⟨a9, c9, rfl, hc9, hr9, _⟩ := hRow.out.hands (HCL.out la)
        have g1 : decide ((la : Int) < (la : Int)) = false := decide_eq_false (by omega)
        go_upto_region 14 with (go_at_call 7; (with_reducible refine (HPC.out _ _ _ hc9.out.1 hc9.out.2 hr9.out).mono ?_); rintro e w8 ⟨rfl, hw8⟩)
        have g2 := By.eql (bothT p r n) (bothT p r n)
        have g3 := By.eql (bothT q s n) (bothT q s n)
        rw [decide_eq_true rfl] at g2 g3
        go_wp2_with (first
          | (go_at_call 17; (with_reducible refine (HB1.out _).mono ?_); rintro e w9 ⟨rfl, hw9⟩; clear HB1)
          | (go_at_call 17; (with_reducible refine (HB2.out _).mono ?_); rintro e w10 ⟨rfl, hw10⟩))
        go_ret
        exact ⟨rfl, ((hx.trans hw8).trans hw9).trans hw10⟩
  · have hfar : (pqE ss ≠ 0) ∨ (pqE ss = 0 ∧ pqE tt ≠ 0) ∨ (pqE ss = 0 ∧ pqE tt = 0 ∧ la ≠ lb) ∨ (pqE ss = 0 ∧ pqE tt = 0 ∧ la = lb ∧ (nthS ss 0).size ≠ (nthS tt 0).size) := by
      by_cases h1 : pqE ss = 0
      · by_cases h2 : pqE tt = 0
        · by_cases h3 : la = lb
          · exact .inr (.inr (.inr ⟨h1, h2, h3, fun h4 => hgo ⟨h1, h2, h3, h4⟩⟩))
          · exact .inr (.inr (.inl ⟨h1, h2, h3⟩))
        · exact .inr (.inl ⟨h1, h2⟩)
      · exact .inl h1
    have hlz : la ≤ 140737488351232 ∧ lb ≤ 140737488351232 := by have := ha.2.2.1; have := hb.2.2.1; omega
    have HFI : Hid (pqE ss = 0 → pqE tt = 0 → la = lb → 1 ≤ la ∧ (∀ w2, Ex w w2 → ∃ gA oA, a = some ⟨gA, oA, none⟩ ∧ w2.cell? ⟨gA, oA, none⟩ = some (.string (nthS ss 0))) ∧ ∀ w2, Ex w w2 → ∃ gB oB, b = some ⟨gB, oB, none⟩ ∧ w2.cell? ⟨gB, oB, none⟩ = some (.string (nthS tt 0))) := Lib.hid fun h1 h2 h3 => by
      have b1 := pqE_zero.mp h1
      have b2 := pqE_zero.mp h2
      have l1 := b1.2.1
      have l2 := b2.2.1
      refine ⟨by have := ha.1; omega, fun w2 k => ?_, fun w2 k => ?_⟩
      · rcases ha.2.2.2.1 with h | ⟨gA, oA, rfl, hA⟩
        · rw [h] at l1; exact absurd l1 (by decide)
        · exact ⟨gA, oA, rfl, k.cell (hA 0 (by omega))⟩
      · rcases hb.2.2.2.1 with h | ⟨gB, oB, rfl, hB⟩
        · rw [h] at l2; exact absurd l2 (by decide)
        · exact ⟨gB, oB, rfl, k.cell (hB 0 (by omega))⟩
    clear put hat hbt ha hb HP hgo
    go_enter Try.func5, Try.ntmps5
    go_upto_region 5 with (first
      | (go_at_call 12; (with_reducible refine (HY.out _).mono ?_); rintro e w1 ⟨rfl, hw1⟩)
      | (go_at_call 7; (with_reducible refine (HPA.out _ hw1).mono ?_); rintro e w2 ⟨p, q, rfl, _, hw2⟩
         have hx2 := hw1.trans hw2
         clear HPA)
      | (go_at_call 7; (with_reducible refine (HPB.out _ hx2).mono ?_); rintro e w3 ⟨r, s, rfl, _, hw3⟩
         have hx3 := hx2.trans hw3))
    obtain ⟨E1, hE1⟩ : ∃ E, pqE ss = E := ⟨_, rfl⟩
    obtain ⟨E2, hE2⟩ : ∃ E, pqE tt = E := ⟨_, rfl⟩
    rw [hE1] at hfar HFI ⊢
    rw [hE2] at hfar HFI ⊢
    rcases hfar with h1 | ⟨h1, h2⟩ | ⟨h1, h2, h3⟩ | ⟨h1, h2, h3, h4⟩
    · have g0 : (E1 != 0) = true := bne_iff_ne.mpr h1
      clear hE1 hE2 h1
      refine wp_region_wo (by kernel_rfl) (by kernel_rfl) ?_
      repeat (go_big_quiet_step (fail))
      refine wpQuiet_nil ?_
      rintro _ ⟨⟨w5, hw5⟩, rfl⟩
      go_wp2
      go_ret
      exact ⟨rfl, hx3.trans hw5⟩
    · have g0 : (E2 != 0) = true := bne_iff_ne.mpr h2
      subst h1
      clear hE1 hE2 h2
      refine wp_region_wo (by kernel_rfl) (by kernel_rfl) ?_
      repeat (go_big_quiet_step (fail))
      refine wpQuiet_nil ?_
      rintro _ ⟨⟨w5, hw5⟩, rfl⟩
      go_wp2
      go_ret
      exact ⟨rfl, hx3.trans hw5⟩
    · have g0 : ((la : Int) != (lb : Int)) = true := bne_iff_ne.mpr (by omega)
      subst h1 h2
      clear hE1 hE2 h3
      refine wp_region_wo (by kernel_rfl) (by kernel_rfl) ?_
      repeat (go_big_quiet_step (fail))
      refine wpQuiet_nil ?_
      rintro _ ⟨⟨w5, hw5⟩, rfl⟩
      go_wp2
      go_ret
      exact ⟨rfl, hx3.trans hw5⟩
    · subst h1 h2 h3
      obtain ⟨hl1, hA, hB⟩ := HFI.out rfl rfl rfl
      obtain ⟨gA, oA, rfl, hA2⟩ := hA w3 hx3
      obtain ⟨gB, oB, rfl, hB2⟩ := hB w3 hx3
      have q0 : ∀ x : Wo w3, x.val.cell? ⟨gA, oA, none⟩ = some (.string (nthS ss 0)) := fun x => x.ex.cell hA2
      have q1 : ∀ x : Wo w3, x.val.cell? ⟨gB, oB, none⟩ = some (.string (nthS tt 0)) := fun x => x.ex.cell hB2
      have g0 : ((la : Int) == 0) = false := beq_eq_false_iff_ne.mpr (by omega)
      have g1 : (((nthS ss 0).size : Int) != ((nthS tt 0).size : Int)) = true := bne_iff_ne.mpr (by omega)
      clear hE1 hE2 h4 hA hB hA2 hB2 HFI
      generalize nthS ss 0 = s0 at *
      generalize nthS tt 0 = t0 at *
      refine wp_region_wo (by kernel_rfl) (by kernel_rfl) ?_
      repeat (go_big_quiet_step (fail))
      refine wpQuiet_nil ?_
      rintro _ ⟨⟨w5, hw5⟩, rfl⟩
      go_wp2
      go_ret
      exact ⟨rfl, hx3.trans hw5⟩

end Go.Proofs.Ytgdfmmdjnifjeaa
