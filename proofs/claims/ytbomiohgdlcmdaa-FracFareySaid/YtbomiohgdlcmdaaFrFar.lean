/-
  FracFarey, walked.
-/
import Derived.Test.YtbomiohgdlcmdaaFrGoW
import Derived.Test.YtbomiohgdlcmdaaDvPhi
import Derived.Test.YtbomiohgdlcmdaaSmall
namespace Go.Proofs.Ytbomiohgdlcmdaa
open Go.RowKit
open Eu Fr Dd

theorem sumc_all : (List.range 30).all (fun n => decide (2 ≤ sumc (n + 1)) && decide (sumc (n + 1) ≤ 1000)) = true := by decide +kernel
theorem sumc_at {n : Nat} (h1 : 1 ≤ n) (h2 : n ≤ 30) : 2 ≤ sumc n ∧ sumc n ≤ 1000 := by
  have := List.all_eq_true.mp sumc_all (n - 1) (List.mem_range.mpr (by omega))
  rw [show n - 1 + 1 = n by omega, Bool.and_eq_true] at this
  exact ⟨of_decide_eq_true this.1, of_decide_eq_true this.2⟩

theorem zz_nth {l : List (Nat × Nat)} {i : Nat} (h : i < l.length) : nthR (zz l) i = ((l[i].1 : Int), (l[i].2 : Int)) := by
  rw [nthR_eq (by rw [zz_length]; exact h)]
  simp [zz]

theorem FL3 : zz (FLn 3) = [(0, 1), (1, 3), (1, 2), (2, 3), (1, 1)] := by decide +kernel

theorem farey_3 (w : World) : Calls Try.prog 13 #[.int .i64 3] w (fun e w2 => ∃ a cap, e = .returned (.tuple #[.slice a 5 cap, .int .i64 0]) ∧ Hid (ReadsR w2 a [(0, 1), (1, 3), (1, 2), (2, 3), (1, 1)]) ∧ Ex w w2) := by
  refine (farey_ok 3 w (by decide) (by decide)).mono ?_
  rintro e w2 ⟨v, rfl, hR, hx⟩
  have h := hR.out
  rw [FL3] at h
  obtain ⟨a, cap, rfl, _, hr, _⟩ := h.reads
  exact ⟨a, cap, rfl, Lib.hid hr, hx⟩

theorem fracs_lit (w : World) (T : TypeId) (a : Option Addr) (ca : Nat) (h : ReadsR w a [(0, 1), (1, 3), (1, 2), (2, 3), (1, 1)]) :
    Calls Try.prog 14 #[.slice a 5 ca, .slice (some ⟨w.heap.size, 0, none⟩) 5 5] (w.alloc (.cells #[.int .i64 0, .int .i64 1, .int .i64 1, .int .i64 3, .int .i64 1, .int .i64 2, .int .i64 2, .int .i64 3, .int .i64 1, .int .i64 1] T)) (Says (.bool true) w) := by
  have hr := rowR_new T w w.heap.size (Nat.le_refl _) [(0, 1), (1, 3), (1, 2), (2, 3), (1, 1)] #[.int .i64 0, .int .i64 1, .int .i64 1, .int .i64 3, .int .i64 1, .int .i64 2, .int .i64 2, .int .i64 3, .int .i64 1, .int .i64 1] rfl (by unfold maxLen; simp)
  obtain ⟨a2, c2, e2, _, h2, _⟩ := hr.reads
  simp only [Value.slice.injEq] at e2
  obtain ⟨rfl, _, rfl⟩ := e2
  refine (fracs_equal [(0, 1), (1, 3), (1, 2), (2, 3), (1, 1)] a _ ca _ _ (by simp) (h.ex ((Ex.refl w).alloc _)) h2).mono ?_
  rintro e w2 ⟨rfl, hx⟩
  exact ⟨rfl, ((Ex.refl w).alloc _).trans hx⟩

/-- The pair at place i. -/
def nn (l : List (Nat × Nat)) (i : Nat) : Nat × Nat := l.getD i (0, 0)
theorem nn_eq {l : List (Nat × Nat)} {i : Nat} (h : i < l.length) : nn l i = l[i] := by
  unfold nn; rw [List.getD_eq_getElem?_getD, List.getElem?_eq_getElem h]; rfl

/-- What a row says of places side by side. -/
theorem row_facts {n : Nat} (h1 : 1 ≤ n) (h2 : n ≤ 30) :
    (∀ i, i < (FLn n).length → nthR (zz (FLn n)) i = (((nn (FLn n) i).1 : Int), ((nn (FLn n) i).2 : Int)) ∧ (nn (FLn n) i).1 ≤ 30 ∧ (nn (FLn n) i).2 ≤ 30) ∧
    (∀ i, i + 1 < (FLn n).length → ((nn (FLn n) (i + 1)).1 : Int) * ((nn (FLn n) i).2 : Int) - ((nn (FLn n) i).1 : Int) * ((nn (FLn n) (i + 1)).2 : Int) = 1) ∧
    (∀ i, i + 2 < (FLn n).length → (((nn (FLn n) i).1 : Int) + ((nn (FLn n) (i + 2)).1 : Int)) * ((nn (FLn n) (i + 1)).2 : Int) = (((nn (FLn n) i).2 : Int) + ((nn (FLn n) (i + 2)).2 : Int)) * ((nn (FLn n) (i + 1)).1 : Int)) := by
  obtain ⟨f1, f2, f3, _, _⟩ := FLn_facts h1 h2
  refine ⟨fun i hi => ?_, fun i hi => ?_, fun i hi => ?_⟩
  · rw [zz_nth hi, nn_eq hi]
    have := f3 _ (List.getElem_mem hi)
    exact ⟨rfl, by omega, by omega⟩
  · have := f1 i hi
    rw [nn_eq hi, nn_eq (i := i) (by omega)]
    rw [← Int.natCast_mul, ← Int.natCast_mul]
    omega
  · have := f2 i hi
    rw [nn_eq hi, nn_eq (i := i) (by omega), nn_eq (i := i + 1) (by omega)]
    rw [← Int.natCast_add, ← Int.natCast_add, ← Int.natCast_mul, ← Int.natCast_mul]
    omega

theorem mul_30 {a b : Nat} {x y : Nat} (h : a ≤ x) (k : b ≤ y) : 0 ≤ (a : Int) * (b : Int) ∧ (a : Int) * (b : Int) ≤ ((x * y : Nat) : Int) := by
  rw [← Int.natCast_mul]
  have := Nat.mul_le_mul h k
  omega

theorem sumc_step {q : Nat} (h1 : 1 ≤ q) : sumc q = sumc (q - 1) + phc q := by
  obtain ⟨k, rfl⟩ : ∃ k, q = k + 1 := ⟨q - 1, by omega⟩
  rfl

set_option maxRecDepth 100000 in
set_option maxHeartbeats 8000000 in
theorem fracFarey_walk (n0 : Int) (w : World) (_ : I64 n0) : Calls Try.prog 8 #[.int .i64 n0] w (Says (.bool true) w) := by
  have k1 := Int.emod_nonneg n0 (b := 30) (by omega)
  have k2 := Int.emod_lt_of_pos n0 (b := 30) (by omega)
  obtain ⟨n, hn⟩ : ∃ n : Nat, 1 + n0 % 30 = (n : Int) := ⟨(1 + n0 % 30).toNat, by omega⟩
  have h1 : 1 ≤ n := by omega
  have h2 : n ≤ 30 := by omega
  obtain ⟨J, hJ⟩ : ∃ J : Int, n0 % 30 = J := ⟨_, rfl⟩
  rw [hJ] at k1 k2 hn
  obtain ⟨_, _, _, _, f5⟩ := FLn_facts h1 h2
  obtain ⟨f3, f1, f2⟩ := row_facts h1 h2
  obtain ⟨s1, s2⟩ := sumc_at h1 h2
  have H1 := Lib.hid farey_3
  have H2 := Lib.hid fracs_lit
  have H3 := Lib.hid fun w => farey_ok n w h1 h2
  obtain ⟨L, hL⟩ : ∃ L, (FLn n).length = L := ⟨_, rfl⟩
  have HF1 := Lib.hid f1
  have HF2 := Lib.hid f2
  have HF3 := Lib.hid f3
  have hLs : L = sumc n := by omega
  have hL2 : 2 ≤ L := by omega
  have hL3 : L ≤ 1000 := by omega
  have HLL := Lib.hid hL
  have HLS := Lib.hid hLs
  have g1 : ¬ (L : Int) < 2 := by omega
  have n1 : (1 : Int) ≤ (n : Int) := by omega
  have n2 : (n : Int) ≤ 30 := by omega
  clear f1 f2 f3 f5 s1 s2 hLs hL
  go_enter Try.func8, Try.ntmps8
  go_wp2_with (first
    | (go_at_call 13; (with_reducible refine (H1.out _).mono ?_); rintro e w1 ⟨a1, c1, rfl, hr1, hw1⟩)
    | (go_at_call 14; (with_reducible refine (H2.out _ _ _ _ hr1.out).mono ?_); rintro e w2 ⟨rfl, hw2⟩)
    | (go_at_call 20; (with_reducible refine (within_any n0 30 _ (by omega) (by omega)).mono ?_); rintro e w' ⟨rfl, rfl⟩; rw [hJ])
    | (go_at_call 13; (with_reducible refine (H3.out _).mono ?_); rintro e w3 ⟨v, rfl, hr3, hw3⟩
       obtain ⟨a3, c3, rfl, _, hrd, _⟩ := hr3.out.reads
       have HRD := Lib.hid hrd
       clear hrd
       rw [zz_length, HLL.out]))
  rcases HRD.out with h0 | ⟨b, off, rfl, hcell⟩
  · exfalso
    have := HLL.out
    rw [← zz_length, h0] at this
    simp at this
    omega
  have HCELL := Lib.hid hcell
  have HX3 : Hid (Ex w w3) := Lib.hid ((hw1.trans hw2).trans hw3)
  clear hcell
  go_loopg [7] (L - 1) (fun k v7 wr => ∃ i : Nat, 1 ≤ i ∧ i ≤ L ∧ v7 = .int .i64 i ∧ Hid (k = L - i) ∧ Ex w3 wr)
  case atStart => exact ⟨1, by omega, by omega, rfl, Lib.hid rfl, Ex.refl _⟩
  case round =>
    obtain ⟨i, hi1, hi, rfl, hk, hw⟩ := hrel
    by_cases hlt : i < L
    · obtain ⟨j, hj⟩ : ∃ j, i = j + 1 := ⟨i - 1, by omega⟩
      have hjL : j < L := by omega
      have gj : (i : Int) - 1 = (j : Int) := by omega
      have ai := HF3.out i (by rw [HLL.out]; exact hlt)
      have aj := HF3.out j (by rw [HLL.out]; exact hjL)
      have d1 := HF1.out j (by rw [HLL.out]; omega)
      have ci := HCELL.out i (by rw [zz_length, HLL.out]; exact hlt)
      have cj := HCELL.out j (by rw [zz_length, HLL.out]; exact hjL)
      rw [← hj] at d1
      rw [ai.1] at ci
      rw [aj.1] at cj
      have HMED : Hid (∀ m, j = m + 1 → m < L ∧ (((nn (FLn n) m).1 : Int) + ((nn (FLn n) i).1 : Int)) * ((nn (FLn n) j).2 : Int) = (((nn (FLn n) m).2 : Int) + ((nn (FLn n) i).2 : Int)) * ((nn (FLn n) j).1 : Int)) := Lib.hid fun m hm => by
        have := HF2.out m (by rw [HLL.out]; omega)
        rw [show m + 2 = i by omega, show m + 1 = j by omega] at this
        exact ⟨by omega, this⟩
      obtain ⟨P1, hP1⟩ : ∃ P, (nn (FLn n) i).1 = P := ⟨_, rfl⟩
      obtain ⟨Q1, hQ1⟩ : ∃ P, (nn (FLn n) i).2 = P := ⟨_, rfl⟩
      obtain ⟨P0, hP0⟩ : ∃ P, (nn (FLn n) j).1 = P := ⟨_, rfl⟩
      obtain ⟨Q0, hQ0⟩ : ∃ P, (nn (FLn n) j).2 = P := ⟨_, rfl⟩
      rw [hP1, hQ1] at ai ci HMED d1
      rw [hP0, hQ0] at aj cj HMED d1
      have b1 := ai.2.1
      have b2 := ai.2.2
      have b3 := aj.2.1
      have b4 := aj.2.2
      clear hP1 hQ1 hP0 hQ0 ai aj
      have y1 : (0 : Int) ≤ (i : Int) := by omega
      have y2 : (i : Int) < (L : Int) := by omega
      have y3 : (0 : Int) ≤ (j : Int) := by omega
      have y4 : (j : Int) < (L : Int) := by omega
      have q1 : ∀ x : Wo wr, x.val.cell? ⟨b, off + i * 2, none⟩ = some (.int .i64 P1) := fun x => x.ex.cell (hw.cell ci.1)
      have q2 : ∀ x : Wo wr, x.val.cell? ⟨b, off + i * 2 + 1, none⟩ = some (.int .i64 Q1) := fun x => x.ex.cell (hw.cell ci.2)
      have q3 : ∀ x : Wo wr, x.val.cell? ⟨b, off + j * 2, none⟩ = some (.int .i64 P0) := fun x => x.ex.cell (hw.cell cj.1)
      have q4 : ∀ x : Wo wr, x.val.cell? ⟨b, off + j * 2 + 1, none⟩ = some (.int .i64 Q0) := fun x => x.ex.cell (hw.cell cj.2)
      have z1 := mul_30 b1 b4
      have z2 := mul_30 b3 b2
      obtain ⟨z1, z3⟩ := z1
      obtain ⟨z2, z4⟩ := z2
      have HIJ : Hid (i = j + 1) := Lib.hid hj
      have HCI := Lib.hid ci
      have HCJ := Lib.hid cj
      have g2 : ((P1 : Int) * (Q0 : Int) - (P0 : Int) * (Q1 : Int) != 1) = false := by rw [d1]; rfl
      clear hj ci cj
      go_wp2
      refine wp_region_wo (by kernel_rfl) (by kernel_rfl) ?_
      repeat (go_big_quiet_step (fail))
      refine wpQuiet_nil ?_
      rintro _ ⟨⟨w5, hw5⟩, rfl⟩
      go_wp2
      rename World => w5
      clear q1 q2 q3 q4 g2 d1 z1 z2 z3 z4
      by_cases hj0 : j = 0
      · have g3 : decide (1 < (i : Int)) = false := decide_eq_false (by have := HIJ.out; omega)
        refine wp_region_wo (by kernel_rfl) (by kernel_rfl) ?_
        repeat (go_big_quiet_step (fail))
        refine wpQuiet_nil ?_
        rintro _ ⟨⟨w6, hw6⟩, rfl⟩
        go_wp2
        go_roundg (L - (i + 1))
        case measure => have := hk.out; omega
        case rel => exact ⟨i + 1, by omega, by omega, by go_num, Lib.hid rfl, (hw.trans hw5).trans hw6⟩
      · obtain ⟨m, hm⟩ : ∃ m, j = m + 1 := ⟨j - 1, by omega⟩
        obtain ⟨m1, m2⟩ := HMED.out m hm
        have cm := HCELL.out m (by rw [zz_length, HLL.out]; exact m1)
        have am := HF3.out m (by rw [HLL.out]; exact m1)
        rw [am.1] at cm
        obtain ⟨P2, hP2⟩ : ∃ P, (nn (FLn n) m).1 = P := ⟨_, rfl⟩
        obtain ⟨Q2, hQ2⟩ : ∃ P, (nn (FLn n) m).2 = P := ⟨_, rfl⟩
        rw [hP2, hQ2] at cm m2 am
        have b5 := am.2.1
        have b6 := am.2.2
        clear hP2 hQ2 am
        have g3 : decide (1 < (i : Int)) = true := decide_eq_true (by have := HIJ.out; omega)
        have gm : (i : Int) - 2 = (m : Int) := by have := HIJ.out; omega
        have y5 : (0 : Int) ≤ (m : Int) := by omega
        have y6 : (m : Int) < (L : Int) := by omega
        have z1 := mul_30 (a := P2 + P1) (b := Q0) (x := 60) (y := 30) (by omega) b4
        have z2 := mul_30 (a := Q2 + Q1) (b := P0) (x := 60) (y := 30) (by omega) b3
        rw [Int.natCast_add] at z1 z2
        obtain ⟨z1, z3⟩ := z1
        obtain ⟨z2, z4⟩ := z2
        have g4 : (((P2 : Int) + (P1 : Int)) * (Q0 : Int) != ((Q2 : Int) + (Q1 : Int)) * (P0 : Int)) = false := by rw [m2]; simp
        have q1 : ∀ x : Wo w5, x.val.cell? ⟨b, off + i * 2, none⟩ = some (.int .i64 P1) := fun x => x.ex.cell ((hw.trans hw5).cell HCI.out.1)
        have q2 : ∀ x : Wo w5, x.val.cell? ⟨b, off + i * 2 + 1, none⟩ = some (.int .i64 Q1) := fun x => x.ex.cell ((hw.trans hw5).cell HCI.out.2)
        have q3 : ∀ x : Wo w5, x.val.cell? ⟨b, off + j * 2, none⟩ = some (.int .i64 P0) := fun x => x.ex.cell ((hw.trans hw5).cell HCJ.out.1)
        have q4 : ∀ x : Wo w5, x.val.cell? ⟨b, off + j * 2 + 1, none⟩ = some (.int .i64 Q0) := fun x => x.ex.cell ((hw.trans hw5).cell HCJ.out.2)
        have q5 : ∀ x : Wo w5, x.val.cell? ⟨b, off + m * 2, none⟩ = some (.int .i64 P2) := fun x => x.ex.cell ((hw.trans hw5).cell cm.1)
        have q6 : ∀ x : Wo w5, x.val.cell? ⟨b, off + m * 2 + 1, none⟩ = some (.int .i64 Q2) := fun x => x.ex.cell ((hw.trans hw5).cell cm.2)
        clear m2 cm hm hj0
        refine wp_region_wo (by kernel_rfl) (by kernel_rfl) ?_
        repeat (go_big_quiet_step (fail))
        refine wpQuiet_nil ?_
        rintro _ ⟨⟨w6, hw6⟩, rfl⟩
        go_wp2
        go_roundg (L - (i + 1))
        case measure => have := hk.out; omega
        case rel => exact ⟨i + 1, by omega, by omega, by go_num, Lib.hid rfl, (hw.trans hw5).trans hw6⟩
    · obtain rfl : i = L := by omega
      go_wp2
      go_loopg [8, 9] n (fun k v8 v9 wr => ∃ (q : Nat) (c : Int), 1 ≤ q ∧ q ≤ n + 1 ∧ v9 = .int .i64 q ∧ v8 = .int .i64 c ∧ 0 ≤ c ∧ c ≤ 1000 ∧ Hid (c = (sumc (q - 1) : Nat)) ∧ Hid (k = n + 1 - q) ∧ Ex w wr)
      case atStart => exact ⟨1, 1, by omega, by omega, rfl, rfl, by omega, by omega, Lib.hid rfl, Lib.hid rfl, HX3.out.trans hw⟩
      case round =>
        obtain ⟨q, c, q1, q2, rfl, rfl, c0, c1, hc, hk2, hx⟩ := hrel
        by_cases hq : q ≤ n
        · have HP := Lib.hid fun w => phi_of q w q1 (by omega)
          have hp := ph_phc q q1 (by omega)
          rw [hp] at HP
          have hs := sumc_step q1
          have hs2 := (sumc_at q1 (by omega : q ≤ 30)).2
          obtain ⟨d, hd⟩ : ∃ d, phc q = d := ⟨_, rfl⟩
          rw [hd] at HP hs
          have e1 : c + (d : Int) ≤ 1000 := by have := hc.out; omega
          have HC2 : Hid (c + (d : Int) = ((sumc q : Nat) : Int)) := Lib.hid (by have := hc.out; omega)
          clear hp hs hs2 hd
          go_wp2_with (
            (go_at_call 21; (with_reducible refine (HP.out _).mono ?_); rintro e w6 ⟨rfl, hw6⟩))
          go_roundg (n + 1 - (q + 1))
          case measure => have := hk2.out; omega
          case rel => exact ⟨q + 1, c + d, by omega, by omega, by go_num, rfl, by omega, e1, Lib.hid (by rw [Nat.add_sub_cancel]; exact HC2.out), Lib.hid rfl, hx.trans hw6⟩
        · obtain rfl : q = n + 1 := by omega
          have hcc : c = (i : Int) := by have := hc.out; rw [Nat.add_sub_cancel, ← HLS.out] at this; exact this
          subst hcc
          go_wp2
          go_ret
          exact ⟨by first | rfl | (simp; done) | (simp; omega), hx⟩

end Go.Proofs.Ytbomiohgdlcmdaa
