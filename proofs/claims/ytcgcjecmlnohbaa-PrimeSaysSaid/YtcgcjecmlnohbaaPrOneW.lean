/-
  PrimeOne, walked.
-/
import Derived.Test.YtcgcjecmlnohbaaPrOne
namespace Go.Proofs.Ytcgcjecmlnohbaa
open Go.RowKit
open Pr

theorem factor_reads (n : Int) (w : World) (h1 : 1 ≤ n) (h2 : n ≤ 1000000) :
    Calls Try.prog 10 #[.int .i64 n] w (fun e w2 => ∃ (a : Option Addr) (cap : Nat) (l : List (Int × Nat)), e = .returned (.tuple #[.slice a l.length cap, .int .i64 0]) ∧ Hid (Fac n l) ∧ Hid (l.length ≤ 1000000) ∧ Hid (ReadsP w2 a cap l) ∧ Ex w w2) := by
  refine (factor_ok n w h1 h2).mono ?_
  rintro e w2 ⟨v, rfl, l, hF, hl, hown, hx⟩
  obtain ⟨a, cap, rfl, hr⟩ := ReadsP.own hown
  exact ⟨a, cap, l, rfl, Lib.hid hF, Lib.hid hl, Lib.hid hr, hx⟩

theorem reads_twelve (w : World) : ReadsP (w.alloc (.cells #[.int .i64 2, .int .i64 2, .int .i64 3, .int .i64 1] 32)) (some ⟨w.heap.size, 0, none⟩) 2 [(2, 2), (3, 1)] := by
  have hb : (w.alloc (.cells #[.int .i64 2, .int .i64 2, .int .i64 3, .int .i64 1] 32)).heap[w.heap.size]? = some (.cells #[.int .i64 2, .int .i64 2, .int .i64 3, .int .i64 1] 32 (0, 0)) := heap_alloc_new _ _
  refine .inr ⟨_, rfl, fun i hi => ?_⟩
  rw [cell_of_row _ _ _ _ _ _ hb, cell_of_row _ _ _ _ _ _ hb]
  match i, hi with
  | 0, _ => exact ⟨rfl, rfl⟩
  | 1, _ => exact ⟨rfl, rfl⟩

theorem pow_gt {q : Int} (h : 2 ≤ q) (k : Nat) : (k : Int) + 1 ≤ q ^ k := by
  induction k with
  | zero => simp
  | succ k ih =>
    rw [Int.pow_succ]
    have : q ^ k * 2 ≤ q ^ k * q := Int.mul_le_mul_of_nonneg_left h (by omega)
    omega

theorem fac_k {n : Int} {l : List (Int × Nat)} (h : Fac n l) (hn : 1 ≤ n) {p : Int} {k : Nat} (hm : (p, k) ∈ l) : (k : Int) ≤ n ∧ 2 ≤ p ∧ p ≤ n := by
  induction l generalizing n with
  | nil => cases hm
  | cons x l ih =>
    obtain ⟨q, j⟩ := x
    obtain ⟨hq, hj, m, hm1, hn', hnd, hF⟩ := h
    have hp := pow_gt hq.1 j
    have h1 : q ^ j * 1 ≤ q ^ j * m := Int.mul_le_mul_of_nonneg_left hm1 (by omega)
    have h2 : 1 * m ≤ q ^ j * m := Int.mul_le_mul_of_nonneg_right (by omega) (by omega)
    rcases List.mem_cons.mp hm with h3 | h3
    · obtain ⟨rfl, rfl⟩ := Prod.mk.inj h3
      have := hq.le hn
      have := hq.1
      omega
    · have := ih hF hm1 h3
      omega

theorem cnt_take_le (p : Int) (l : List (Int × Nat)) (j : Nat) : cnt p (l.take j) ≤ cnt p l := by
  have h := cnt_append p (l.take j) (l.drop j)
  rw [List.take_append_drop] at h
  omega

theorem cnt_take_succ (p : Int) (l : List (Int × Nat)) (j : Nat) (h : j < l.length) : cnt p (l.take (j + 1)) = cnt p (l.take j) + (if (nthP l j).1 = p then (nthP l j).2 else 0) := by
  rw [List.take_add_one, List.getElem?_eq_getElem h, cnt_append, nthP_eq h]
  obtain ⟨q, k⟩ := l[j]
  simp [cnt]

theorem concat_lit (x y c : List (Int × Nat)) (a1 a2 : Option Addr) (k1 k2 n : Nat) (w : World) (hc : x ++ y = c) (hn : w.heap.size = n) (hx : x.length ≤ 1000000) (hy : y.length ≤ 1000000) (r1 : ReadsP w a1 k1 x) (r2 : ReadsP w a2 k2 y) :
    Calls Try.prog 17 #[.slice (some ⟨n, 0, none⟩) 2 2] (w.alloc (.cells #[.slice a1 x.length k1, .slice a2 y.length k2] 27))
      (fun e w2 => ∃ (a : Option Addr) (k : Nat), e = .returned (.slice a c.length k) ∧ Hid (ReadsP w2 a k c) ∧ Ex w w2) := by
  subst hc; subst hn
  have hb : (w.alloc (.cells #[.slice a1 x.length k1, .slice a2 y.length k2] 27)).heap[w.heap.size]? = some (.cells #[.slice a1 x.length k1, .slice a2 y.length k2] 27 (0, 0)) := heap_alloc_new _ _
  refine (concat_two x y a1 a2 k1 k2 w.heap.size _ hx hy (cell_two0 hb) (cell_two1 hb) (r1.ex ((Ex.refl w).alloc _)) (r2.ex ((Ex.refl w).alloc _))).mono ?_
  rintro e w2 ⟨v, rfl, hown, hx2⟩
  obtain ⟨a, k, rfl, hr⟩ := ReadsP.own hown
  exact ⟨a, k, rfl, Lib.hid hr, ((Ex.refl w).alloc _).trans hx2⟩

set_option maxRecDepth 100000 in
set_option maxHeartbeats 2000000 in
theorem primeOne_walk (a b : Int) (w : World) (_ : I64 a) (_ : I64 b) : Calls Try.prog 6 #[.int .i64 a, .int .i64 b] w (Says (.bool true) w) := by
  obtain ⟨A, hA⟩ : ∃ A : Int, 1 + a % 1000 = A := ⟨_, rfl⟩
  obtain ⟨B, hB⟩ : ∃ B : Int, 1 + b % 1000 = B := ⟨_, rfl⟩
  have a1 : 1 ≤ A := by omega
  have a2 : A ≤ 1000 := by omega
  have b1 : 1 ≤ B := by omega
  have b2 : B ≤ 1000 := by omega
  have c2 : A * B ≤ 1000000 := by have := Eu.mul_le (a := A) (b := B) (A := 1000) (B := 1000) (by omega) (by omega) (by omega) (by omega); omega
  have c1 : 1 ≤ A * B := by have : 1 * B ≤ A * B := Int.mul_le_mul_of_nonneg_right a1 (by omega)
                            omega
  go_enter Try.func6, Try.ntmps6
  go_wp2_with (first
    | (go_at_call 13; refine (within_any _ _ _ (by omega) (by omega)).mono ?_; rintro e w' ⟨rfl, rfl⟩)
    | (go_at_call 10; (with_reducible refine (factor_reads 12 _ (by omega) (by omega)).mono ?_); rintro e w0 ⟨ad0, k0, l0, rfl, hF0, hl0, hr0, hx0⟩; obtain rfl := fac_12 hF0.out; clear hF0 hl0)
    | (go_at_call 10; (with_reducible refine (factor_reads A _ (by omega) (by omega)).mono ?_); rintro e w2 ⟨adx, kx, x, rfl, hFx, hlx, hrx, hxx⟩)
    | (go_at_call 10; (with_reducible refine (factor_reads B _ (by omega) (by omega)).mono ?_); rintro e w3 ⟨ady, ky, y, rfl, hFy, hly, hry, hxy⟩)
    | (go_at_call 10; (with_reducible refine (factor_reads (A * B) _ (by omega) (by omega)).mono ?_); rintro e w4 ⟨adz, kz, z, rfl, hFz, hlz, hrz, hxz⟩)
    | (go_at_call 15; refine (powers_equal [(2, 2), (3, 1)] ad0 _ k0 _ _ (by decide) (hr0.out.ex ((Ex.refl w0).alloc _)) (reads_twelve w0)).mono ?_; rintro e w1 ⟨rfl, hx1⟩)
    | (go_at_call 16; refine (good_zeros 3 (by omega) _ rfl _ _).mono ?_; rintro e w5 ⟨rfl, hx5⟩))
  have HXx := Lib.hid (hrx.out.ex (hxy.trans (hxz.trans hx5)))
  have HXy := Lib.hid (hry.out.ex (hxz.trans hx5))
  have HXz := Lib.hid (hrz.out.ex hx5)
  have HW : Hid (Ex w w5) := hx0.trans (((Ex.refl w0).alloc _).trans (hx1.trans (hxx.trans (hxy.trans (hxz.trans hx5)))))
  clear hrx hry hrz hr0 hx0 hx1 hxx hxy hxz hx5
  obtain ⟨c, hc⟩ : ∃ c, x ++ y = c := ⟨_, rfl⟩
  have HC := Lib.hid hc
  have hcl : c.length ≤ 2000000 := by
    have h1 := hlx.out
    have h2 := hly.out
    rw [← hc, List.length_append]; omega
  clear hc
  have hzl := hlz.out
  go_loopg [65] z.length (fun k v65 wr => ∃ i : Nat, i ≤ z.length ∧ v65 = .int .i64 i ∧ Hid (k = z.length - i) ∧ Ex w5 wr)
  case atStart => exact ⟨0, Nat.zero_le _, rfl, Lib.hid rfl, Ex.refl _⟩
  case round =>
    obtain ⟨i, hi, rfl, hk, hw⟩ := hrel
    by_cases hlt : i < z.length
    · rcases (HXz.out.ex hw) with ⟨rfl, rfl, rfl⟩ | ⟨gz, rfl, hcz⟩
      · exact absurd hlt (Nat.not_lt_zero _)
      have hz0 := (hcz i hlt).1
      have hz1 := (hcz i hlt).2
      clear hcz
      have hcnt : Hid (cnt (nthP z i).1 c = (nthP z i).2) := by
        rw [← HC.out]; exact gauss hFx.out hFy.out hFz.out (nthP_mem hlt)
      have hb := fac_k (p := (nthP z i).1) (k := (nthP z i).2) hFz.out c1 (nthP_mem hlt)
      obtain ⟨bk, bp, bq⟩ := hb
      generalize nthP z i = pz at *
      obtain ⟨P, K⟩ := pz
      simp only at hz0 hz1 hcnt bk bp bq
      have HCC := Lib.hid (concat_lit x y c adx ady kx ky (wr.heap.size + 1) (wr.alloc (.cells #[.int .i64 P, .int .i64 (K : Nat)] 32)) HC.out (by simp) hlx.out hly.out (HXx.out.ex (hw.alloc _)) (HXy.out.ex (hw.alloc _)))
      go_wp2_with (
        (go_at_call 17; refine (HCC.out).mono ?_; rintro e w6 ⟨adc, kc, rfl, hrc, hx6⟩))
      have hb : (wr.alloc (.cells #[.int .i64 P, .int .i64 (K : Nat)] 32)).heap[wr.heap.size]? = some (.cells #[.int .i64 P, .int .i64 (K : Nat)] 32 (0, 0)) := heap_alloc_new _ _
      have HP0 := Lib.hid (hx6.cell (cell_two0 hb))
      have HP1 := Lib.hid (hx6.cell (cell_two1 hb))
      have HX6 := Lib.hid ((hw.alloc _).trans hx6)
      clear HCC hb hx6 hz0 hz1
      go_loopg [15, 74] c.length (fun k v15 v74 wr2 => ∃ j : Nat, j ≤ c.length ∧ v15 = .int .i64 (cnt P (c.take j) : Nat) ∧ v74 = .int .i64 j ∧ Hid (k = c.length - j) ∧ Ex w6 wr2)
      case atStart => exact ⟨0, Nat.zero_le _, rfl, rfl, Lib.hid rfl, Ex.refl _⟩
      case round =>
        obtain ⟨j, hj, rfl, rfl, hk2, hw2⟩ := hrel
        by_cases hjt : j < c.length
        · rcases (hrc.out.ex hw2) with ⟨rfl, rfl, rfl⟩ | ⟨gc, rfl, hcc⟩
          · exact absurd hjt (Nat.not_lt_zero _)
          have hc0 := (hcc j hjt).1
          have hc1 := (hcc j hjt).2
          clear hcc
          have hp0 := (hw2.alloc (.cells #[.int .i64 (nthP c j).1, .int .i64 ((nthP c j).2 : Nat)] 32)).cell HP0.out
          have ht := cnt_take_le P c (j + 1)
          have hs := cnt_take_succ P c j hjt
          rw [hcnt.out] at ht
          by_cases he : (nthP c j).1 = P
          · rw [if_pos he] at hs
            have hs2 : ((cnt P (c.take j) : Nat) : Int) + ((nthP c j).2 : Nat) = (cnt P (c.take (j + 1)) : Nat) := by rw [hs]; simp
            have hs3 : ((cnt P (c.take (j + 1)) : Nat) : Int) ≤ 1000000 := by omega
            have he2 : ((nthP c j).1 == P) = true := by simp [he]
            have HE := Lib.hid he
            have HS := Lib.hid hs2
            clear he hs hs2 ht
            have hs4 : 0 ≤ ((cnt P (c.take j) : Nat) : Int) + ((nthP c j).2 : Nat) := by omega
            have hs5 : ((cnt P (c.take j) : Nat) : Int) + ((nthP c j).2 : Nat) ≤ 1000000 := by rw [HS.out]; exact hs3
            go_wp2
            go_roundg (c.length - (j + 1))
            case measure => have := hk2.out; omega
            case rel => exact ⟨j + 1, by omega, by rw [← HS.out], by go_num, Lib.hid rfl, hw2.alloc _⟩
          · rw [if_neg he, Nat.add_zero] at hs
            have he2 : ((nthP c j).1 == P) = false := by simp [he]
            have HE := Lib.hid he
            have HS := Lib.hid hs
            clear he hs ht
            go_wp2
            go_roundg (c.length - (j + 1))
            case measure => have := hk2.out; omega
            case rel => exact ⟨j + 1, by omega, by simp [HS.out], by go_num, Lib.hid rfl, hw2.alloc _⟩
        · have e : j = c.length := by omega
          subst e
          have hp1 := hw2.cell HP1.out
          have hn : cnt P (c.take c.length) = K := by rw [List.take_length]; exact hcnt.out
          rw [hn]
          clear hn
          go_wp2
          go_roundg (z.length - (i + 1))
          case measure => have := hk.out; omega
          case rel => exact ⟨i + 1, by omega, by go_num, Lib.hid rfl, HX6.out.trans hw2⟩
    · have e : i = z.length := by omega
      subst e
      have HCC := Lib.hid (concat_lit x y c adx ady kx ky wr.heap.size wr HC.out rfl hlx.out hly.out (HXx.out.ex hw) (HXy.out.ex hw))
      go_wp2_with (
        (go_at_call 17; refine (HCC.out).mono ?_; rintro e w6 ⟨adc, kc, rfl, hrc, hx6⟩))
      have HX6 := Lib.hid (hw.trans hx6)
      clear HCC hx6
      go_loopg [98] c.length (fun k v98 wr2 => ∃ j : Nat, j ≤ c.length ∧ v98 = .int .i64 j ∧ Hid (k = c.length - j) ∧ Ex w6 wr2)
      case atStart => exact ⟨0, Nat.zero_le _, rfl, Lib.hid rfl, Ex.refl _⟩
      case round =>
        obtain ⟨j, hj, rfl, hk2, hw2⟩ := hrel
        by_cases hjt : j < c.length
        · rcases (hrc.out.ex hw2) with ⟨rfl, rfl, rfl⟩ | ⟨gc, rfl, hcc⟩
          · exact absurd hjt (Nat.not_lt_zero _)
          have hc0 := (hcc j hjt).1
          have hc1 := (hcc j hjt).2
          clear hcc
          have hb : (wr.alloc (.cells #[.int .i64 (nthP c j).1, .int .i64 ((nthP c j).2 : Nat)] 32)).heap[wr.heap.size]? = some (.cells #[.int .i64 (nthP c j).1, .int .i64 ((nthP c j).2 : Nat)] 32 (0, 0)) := heap_alloc_new _ _
          have hany : z.any (fun p => p.1 == (nthP c j).1) = true := by
            have hm : ((nthP c j).1, (nthP c j).2) ∈ x ++ y := by rw [HC.out]; exact nthP_mem hjt
            obtain ⟨k, hk⟩ := gauss_has hFx.out hFy.out hFz.out hm
            exact List.any_eq_true.mpr ⟨_, hk, by simp⟩
          have HI := Lib.hid (powers_contains 19 #[.pointer (some ⟨wr.heap.size, 0, none⟩)] (fun p => p.1 == (nthP c j).1) z adz kz (wr.alloc (.cells #[.int .i64 (nthP c j).1, .int .i64 ((nthP c j).2 : Nat)] 32)) (by omega) (HXz.out.ex (HX6.out.trans (hw2.alloc _))) entered_same (fun p _ w7 hw7 => same_any p wr.heap.size (nthP c j).1 w7 (hw7.cell (cell_two0 hb))))
          rw [hany] at HI
          clear hb hany
          go_wp2_with (
            (go_at_call 18; refine (HI.out).mono ?_; rintro e w8 ⟨rfl, hw8⟩))
          go_roundg (c.length - (j + 1))
          case measure => have := hk2.out; omega
          case rel => exact ⟨j + 1, by omega, by go_num, Lib.hid rfl, (hw2.alloc _).trans hw8⟩
        · go_wp2
          go_ret
          exact ⟨rfl, HW.out.trans (HX6.out.trans hw2)⟩

end Go.Proofs.Ytcgcjecmlnohbaa
