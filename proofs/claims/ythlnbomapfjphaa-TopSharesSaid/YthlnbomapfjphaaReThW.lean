/-
  Package reed: the polynomial through the first k cells.
-/
import Derived.Test.YthlnbomapfjphaaReAt
import Derived.Test.YthlnbomapfjphaaReRow
import Derived.Deep.CutRange
import Derived.Deep.DeepCutAuto
namespace Go.Proofs.Ythlnbomapfjphaa
open Go.RowKit
open Gf

/-- What through answers where there are enough. -/
def ThrO (H : Nat → Bool) (B : Nat → Nat) (n k : Nat) (w : World) (e : Ending) (w2 : World) : Prop :=
  ∃ (g c : Nat) (F Z : Nat → E) (m : Nat), e = .returned (.tuple #[.slice (some ⟨g, 0, none⟩) k c, .int .i64 0]) ∧ Hid (RowB w2 g k F) ∧ Hid (Thr H B k n F Z m) ∧ Ex w w2

set_option maxRecDepth 100000 in
set_option maxHeartbeats 4000000 in
theorem rThrough_any (H : Nat → Bool) (B : Nat → Nat) (n k ca : Nat) (a : Option Addr) (w : World) (hk : 1 ≤ k) (hkn : k ≤ n) (hn : n ≤ 20) (hB : ∀ i, B i < 256) (hr : ReadsC w a n H B) :
    Calls Try.prog 52 #[.slice a n ca, .int .i64 (k : Int)] w (fun e w2 => (cnt H n < k → Says (.tuple #[.slice none 0 0, .int .i64 9]) w e w2) ∧ (k ≤ cnt H n → ThrO H B n k w e w2)) := by
  rcases hr with h0 | ⟨b, off, rfl, hcc⟩
  · omega
  have HCC := Lib.hid hcc
  have HCL := Lib.hid (cnt_le H)
  have HBB := Lib.hid hB
  clear hcc hB
  go_enter Try.func52, Try.ntmps52
  go_wp2_with (at_make; refine wpList_make_ints rfl _ _ 22 rfl w.heap.size 5 .u8 1 Try.underlying22 info_u8R _ _ k rfl rfl (by omega) (by unfold maxLen; omega) (Nat.le_refl _) ?_; intro w2 hown2 hgrow2
               have HX2 := Lib.hid (ex_grown (Ex.refl w) hgrow2 fun k hk => by cases hk)
               have HF2 : Hid (RowB w2 w.heap.size k (fun _ => 0)) := Lib.hid (by
                 have e : List.replicate k (0 : Int) = bl (fun _ => 0) k := by rw [bl_fl, fl_zero]; rfl
                 rw [e] at hown2
                 obtain ⟨g, c, he, _, _, _, _, hb⟩ := hown2.rowB hk
                 simp only [Value.slice.injEq, Option.some.injEq, Addr.mk.injEq, and_true] at he
                 rw [he.1]
                 exact hb)
               clear hown2 hgrow2)
  have hg2 : w.heap.size < w2.heap.size := World.block_lt_of_cell? w2 ⟨w.heap.size, 0, none⟩ (HF2.out.1 0 (by omega))
  have HX3 := Lib.hid (HX2.out.alloc (.cells #[.int .u8 1] 5))
  have HF3 := Lib.hid (HF2.out.ex hk ((Ex.refl w2).alloc (.cells #[.int .u8 1] 5)))
  have HZ3 : Hid (∀ j, j < 0 + 1 → (w2.alloc (.cells #[.int .u8 1] 5)).cell? ⟨w2.heap.size, j, none⟩ = some (.int .u8 ((((fun _ => 1 : Nat → E) j).v : Nat) : Int))) := Lib.hid fun j hj => by
    obtain rfl : j = 0 := by omega
    rw [World.cell?_alloc_new]; rfl
  have HT3 := Lib.hid (Thr.start H B k (fun _ => 0) (Z := fun _ => 1) rfl)
  obtain ⟨g, hg⟩ : ∃ g, w.heap.size = g := ⟨_, rfl⟩
  obtain ⟨gz0, hgz0⟩ : ∃ g, w2.heap.size = g := ⟨_, rfl⟩
  rw [hgz0] at hg2 HZ3
  have hne0 : gz0 ≠ g := by omega
  have hwg : w.heap.size ≤ g := by omega
  rw [hg] at HF3
  rw [hgz0]
  obtain ⟨w3, hw3⟩ : ∃ w3, w2.alloc (.cells #[.int .u8 1] 5) = w3 := ⟨_, rfl⟩
  rw [hw3] at HX3 HF3 HZ3 ⊢
  clear HX2 HF2 hw3 hgz0 hg2
  rw [hg]
  clear hg
  go_loopg [7, 8, 19] n (fun t v7 v8 v19 wr => ∃ (i gz cz m : Nat) (F Z : Nat → E), i ≤ n ∧ v7 = .slice (some ⟨gz, 0, none⟩) (m + 1) cz ∧ v8 = .int .i64 (m : Int) ∧ v19 = .int .i64 (i : Int) ∧ gz ≠ g ∧ Hid (RowB wr g k F) ∧ Hid (∀ j, j < m + 1 → wr.cell? ⟨gz, j, none⟩ = some (.int .u8 (((Z j).v : Nat) : Int))) ∧ Hid (Thr H B k i F Z m) ∧ Hid (t = n - i) ∧ Ex w wr)
  case atStart => exact ⟨0, gz0, 1, 0, _, _, by omega, rfl, rfl, rfl, hne0, HF3, HZ3, HT3, Lib.hid rfl, HX3.out⟩
  case round =>
    obtain ⟨i, gz, cz, m, F, Z, hi, rfl, rfl, rfl, hne, hF, hZ, hT, ht, hx⟩ := hrel
    have hmk : m ≤ k := by have := hT.out.1; omega
    by_cases hlt : i < n
    · have k0 := hx.cell (HCC.out i hlt).1
      have k1 := hx.cell (HCC.out i hlt).2
      have HCN := Lib.hid (Cel.new 36 wr (H i) (B i : Int))
      have d0 := HCN.out.c0
      have d1 := HCN.out.c1
      have HC0 := Lib.hid (Cel.new 36 wr false 0)
      have e0 := HC0.out.c0
      have e1 := HC0.out.c1
      have f0 := HC0.out.free 0
      have f1 := HC0.out.free 1
      have hb := HBB.out i
      obtain ⟨y, hy⟩ : ∃ y, B i = y := ⟨_, rfl⟩
      rw [hy] at k1 d1 HCN hb
      have HX1 := Lib.hid (hx.alloc (.cells #[.bool (H i), .int .u8 (y : Int)] 36))
      have HXa : Hid (Ex wr (wr.alloc (.cells #[.bool (H i), .int .u8 (y : Int)] 36))) := Lib.hid ((Ex.refl wr).alloc _)
      have HY := Lib.hid hy
      clear hy
      cases hh : H i
      · rw [hh] at k0 d0 d1 HX1 HXa HCN
        have HF4 := Lib.hid (hF.out.ex hk HXa.out)
        have HZ4 : Hid (∀ j, j < m + 1 → (wr.alloc (.cells #[.bool false, .int .u8 (y : Int)] 36)).cell? ⟨gz, j, none⟩ = some (.int .u8 (((Z j).v : Nat) : Int))) := Lib.hid fun j hj => HXa.out.cell (hZ.out j hj)
        have HT4 := Lib.hid (hT.out.skip (.inl hh))
        clear hh hF hZ hT HXa HT3 HF3 HZ3
        go_wp2
        go_roundg (n - (i + 1))
        case measure => have := ht.out; omega
        case rel => exact ⟨i + 1, gz, cz, m, F, Z, by omega, rfl, rfl, by go_num, hne, HF4, HZ4, HT4, Lib.hid rfl, HX1.out⟩
      · rw [hh] at k0 d0 d1 HX1 HXa HCN
        by_cases hmk2 : m = k
        · have HF4 := Lib.hid (hF.out.ex hk HXa.out)
          have HZ4 : Hid (∀ j, j < m + 1 → (wr.alloc (.cells #[.bool true, .int .u8 (y : Int)] 36)).cell? ⟨gz, j, none⟩ = some (.int .u8 (((Z j).v : Nat) : Int))) := Lib.hid fun j hj => HXa.out.cell (hZ.out j hj)
          have HT4 := Lib.hid (hT.out.skip (.inr hmk2))
          subst hmk2
          clear hh hF hZ hT HXa
          go_wp2
          go_roundg (n - (i + 1))
          case measure => have := ht.out; omega
          case rel => exact ⟨i + 1, gz, cz, m, F, Z, by omega, rfl, rfl, by go_num, hne, HF4, HZ4, HT4, Lib.hid rfl, HX1.out⟩
        · have p1 : ((m : Int) == (k : Int)) = false := beq_eq_false_iff_ne.mpr (by omega)
          have hi256 : i < 256 := by omega
          have hnot := hT.out.not hi256
          have hbi : (((bn i).v : Nat) : Int) = (i : Int) := by rw [bn_v hi256]
          obtain ⟨V, hV⟩ : ∃ V, pv (lst Z (m + 1)) (bn i) = V := ⟨_, rfl⟩
          obtain ⟨P, hP⟩ : ∃ P, pv (lst F k) (bn i) = P := ⟨_, rfl⟩
          have HAZ : Hid (∀ w2, Ex wr w2 → Calls Try.prog 53 #[.slice (some ⟨gz, 0, none⟩) (m + 1) cz, .int .u8 (i : Int)] w2 (Says (.int .u8 ((V.v : Nat) : Int)) w2)) := Lib.hid fun w2 h => by
            have := reAt_any Z (m + 1) cz (some ⟨gz, 0, none⟩) (bn i) w2 (by omega) (by omega) ⟨gz, 0, rfl, fun j hj => by rw [Nat.zero_add]; exact h.cell (hZ.out j hj)⟩
            rw [hV, hbi] at this
            exact this
          have HAF : Hid (∀ c w2, Ex wr w2 → Calls Try.prog 53 #[.slice (some ⟨g, 0, none⟩) k c, .int .u8 (i : Int)] w2 (Says (.int .u8 ((P.v : Nat) : Int)) w2)) := Lib.hid fun c w2 h => by
            have := reAt_any F k c (some ⟨g, 0, none⟩) (bn i) w2 hk (by omega) ⟨g, 0, rfl, fun j hj => by rw [Nat.zero_add]; exact h.cell (hF.out.1 j hj)⟩
            rw [hP, hbi] at this
            exact this
          have Vl := V.lt
          have Pl := P.lt
          have hV0 : V.v ≠ 0 := fun e => hnot (by rw [hV]; exact E.ext e)
          have HIN := Lib.hid fun w2 => finv_ok V.v w2 V.lt hV0
          obtain ⟨T, hT0⟩ : ∃ T, (bn (B i) + P) * V.inv = T := ⟨_, rfl⟩
          have HMU : Hid (∀ w2, Calls Try.prog 22 #[.int .u8 (bits .xor .u8 (y : Int) ((P.v : Nat) : Int)), .int .u8 ((gi V.v : Nat) : Int)] w2 (Says (.int .u8 ((T.v : Nat) : Int)) w2)) := Lib.hid fun w2 => by
            rw [xor_u8_nat y P.v hb P.lt]
            have := fmul_any (y ^^^ P.v) (gi V.v) w2 (xor_lt hb P.lt) (gi_lt V.lt)
            rw [show gm (y ^^^ P.v) (gi V.v) = T.v from by rw [← hT0, ← bn_v hb, ← HY.out]; rfl] at this
            exact this
          go_upto_region 12 with (first
            | (go_at_call 53; (with_reducible refine (HAZ.out _ HXa.out).mono ?_); rintro e w5 ⟨rfl, hw5⟩)
            | (go_at_call 97; (with_reducible refine (HIN.out _).mono ?_); rintro e w6 ⟨rfl, hw6⟩))
          have hx6 : Ex wr w6 := (HXa.out.trans hw5).trans hw6
          have k1 : ∀ x : Kp (fun w2 => Ex w6 w2), x.val.cell? ⟨wr.heap.size, 1, none⟩ = some (.int .u8 (y : Int)) := fun x => x.ok.cell ((hw5.trans hw6).cell d1)
          haveI : Nonempty (Kp (fun w2 => Ex w6 w2)) := ⟨⟨w6, Ex.refl w6⟩⟩
          have hd : Ex w6 w6.drew := (Ex.refl w6).drew
          have hgw : g < wr.heap.size := World.block_lt_of_cell? wr ⟨g, 0, none⟩ (hF.out.1 0 (by omega))
          refine wp_region_scrT (fun w2 => ∃ x : Kp (fun w2 => Ex w6 w2), w2 = x.val) 10 (.take 0 (.take 1 (.take 2 (.take 3 (.take 4 (.take 5 (.take 8 (.one 6 (.take 7 (.one 9 (.fin))))))))))) (by kernel_rfl) (by kernel_rfl) (by intro _ _ d _ _ h; cases d <;> exact h) ⟨⟨_, (by first | exact hd | exact hd.trans hw7 | exact (hd.trans hw7).trans hw8)⟩, rfl⟩ ?_
          generalize w6.drew = wd at hd ⊢
          simp only [fillS, List.getD_cons_zero, List.getD_cons_succ]
          repeat' (first
            | ((with_reducible refine wpScr_pure ?_); go_big_quiet_step (fail); (with_reducible refine scrQ_on ?_))
            | ((with_reducible refine wpScr_turn ?_); intro K hK; go_wp2_with (first | fail |(go_at_call 53; (with_reducible refine (HAF.out _ _ (hx6.trans hd)).mono ?_); rintro e w7 ⟨rfl, hw7⟩) | (go_at_call 22; (with_reducible refine (HMU.out _).mono ?_); rintro e w8 ⟨rfl, hw8⟩)); refine hK _ _ ⟨⟨_, (by first | exact hd | exact hd.trans hw7 | exact (hd.trans hw7).trans hw8)⟩, rfl⟩ ?_; clear hK K)
            | (with_reducible refine wpScr_two ?_ ?_)
            | (with_reducible refine wpScr_three ?_ ?_ ?_)
            | (with_reducible refine wpScr_nil ?_))
          all_goals simp only [tailQ, List.drop_succ_cons, List.drop_zero]
          have HX8 := Lib.hid (((hx6.trans hd).trans hw7).trans hw8)
          have HF8 := Lib.hid (hF.out.ex hk HX8.out)
          have HZ8 : Hid (∀ j, j < m + 1 → w8.cell? ⟨gz, j, none⟩ = some (.int .u8 (((Z j).v : Nat) : Int))) := Lib.hid fun j hj => HX8.out.cell (hZ.out j hj)
          have HTI : Hid (∀ w9, (∀ j, j < m + 1 → w9.cell? ⟨gz, j, none⟩ = some (.int .u8 (((Z j).v : Nat) : Int))) → Calls Try.prog 100 #[.slice (some ⟨gz, 0, none⟩) (m + 1) cz, .int .u8 (i : Int)] w9 (fun e w2 => ∃ g, e = .returned (.slice (some ⟨g, 0, none⟩) (m + 1 + 1) (m + 1 + 1)) ∧ Hid (w9.heap.size ≤ g ∧ RowB w2 g (m + 1 + 1) (fun j => (if 1 ≤ j ∧ j < m + 1 + 1 then Z (j - 1) else 0) + if j < m + 1 then Z j * bn i else 0)) ∧ Ex w9 w2)) := Lib.hid fun w9 h => by
            have := rTimes_any Z (bn i) (m + 1) gz cz w9 (by omega) (by omega) h
            rw [hbi] at this
            exact this
          have HM9 := Lib.hid (rAdd_any F Z T k (m + 1) g k gz cz w8 (by omega) (by omega) (by omega) HF8.out HZ8.out hne)
          clear k1 HAF HAZ HIN HMU hw5 hw6 hw7 hw8 hd hx6
          go_wp2_with (first
            | (go_at_call 99; (with_reducible refine (HM9.out).mono ?_); rintro e w9 ⟨rfl, hm9, hr9⟩
               have HZ9 : Hid (∀ j, j < m + 1 → w9.cell? ⟨gz, j, none⟩ = some (.int .u8 (((Z j).v : Nat) : Int))) := Lib.hid fun j hj => hm9.out.cell (HZ8.out j hj) hne)
            | (go_at_call 100; (with_reducible refine (HTI.out _ HZ9.out).mono ?_); rintro e w10 ⟨g2, rfl, hr10, hw10⟩))
          have hs9 : wr.heap.size ≤ w9.heap.size := Nat.le_trans HX8.out.size hm9.out.size
          have hgg : g2 ≠ g := by have := hr10.out.1; omega
          have HX10 := Lib.hid ((hm9.out.ex (hx.trans HX8.out) hwg).trans hw10)
          have HT10 : Hid (Thr H B k (i + 1) (fun j => F j + if j < m + 1 then Z j * T else 0) (fun j => (if 1 ≤ j ∧ j < m + 1 + 1 then Z (j - 1) else 0) + if j < m + 1 then Z j * bn i else 0) (m + 1)) := Lib.hid (hT.out.step hi256 hh (by omega) _ _ (fun j _ => by rw [hP, hV, hT0]) fun _ _ => rfl)
          go_roundg (n - (i + 1))
          case measure => have := ht.out; omega
          case rel => exact ⟨i + 1, g2, m + 1 + 1, m + 1, _, _, by omega, rfl, by go_num, by go_num, hgg, Lib.hid (hr9.out.ex hk hw10), Lib.hid hr10.out.2.1, HT10, Lib.hid rfl, HX10.out⟩
    · have e : i = n := by omega
      subst e
      have hm := hT.out.1
      have hcl := HCL.out i
      clear HF3 HZ3 HT3 HX3
      by_cases hc : m < k
      · have hm2 := Lib.hid hm
        clear hm
        go_wp2
        go_ret2
        exact ⟨fun _ => ⟨rfl, hx⟩, fun h => by have := hm2.out; omega⟩
      · have hm2 := Lib.hid hm
        clear hm
        go_wp2
        go_ret2
        exact ⟨fun h => by have := hm2.out; omega, fun _ => ⟨g, k, F, Z, m, rfl, hF, hT, hx⟩⟩

end Go.Proofs.Ythlnbomapfjphaa
