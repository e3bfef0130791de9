/-
  Several texts in one:
  - The sort of the library at uint16: the partial insertion sort.
  - The sort of the library at uint16: the pivot, breaking patterns.
  - The sort of the library at uint16: breaking patterns.
-/
import Derived.Test.YthlnbomapfjphaaDoorGs6
import Derived.Deep.CutBlock
import Derived.Test.YthlnbomapfjphaaDoorGso
import Derived.Deep.CutRange
import Derived.Deep.DeepCutAuto
namespace Go.Proofs.YthlnbomapfjphaaDoor
open Go.RowKit
open So

theorem so16_snoc {a i : Nat} {H : Nat → Int} (h : Sd a (i + 1) H) (hl : ¬ H (i + 1) < H i) : Sd a (i + 2) H := fun p q h1 h2 h3 => by
  by_cases e : q = i + 1
  · subst e
    by_cases e2 : p = i + 1
    · rw [e2]; exact Int.le_refl _
    · have := h p i h1 (by omega) (by omega)
      omega
  · exact h p q h1 h2 (by omega)
theorem so16_low {a i r s : Nat} {H : Nat → Int} (h : Sd a i H) (hr : i ≤ r) (hs : i ≤ s) : Sd a i (fun k => H (sx r s k)) := fun p q h1 h2 h3 => by
  show H (sx r s p) ≤ H (sx r s q)
  rw [sx_o (by omega) (by omega), sx_o (by omega) (by omega)]
  exact h p q h1 h2 h3

/-- What the partial insertion sort answers. -/
def so16_Part (a b g N : Nat) (F : Nat → Int) (w : World) (e : Ending) (w2 : World) : Prop := ∃ t : Bool, e = .returned (.bool t) ∧ Hid (∃ H, RowN .u16 w2 g N H ∧ Pm a b F H ∧ (t = true → Sd a b H)) ∧ Hid (Mo1 g w w2)

set_option maxRecDepth 100000 in
set_option maxHeartbeats 4000000 in
theorem so16_partial (F : Nat → Int) (g N cap a b : Nat) (w : World) (hN : N ≤ 4096) (hab : a < b) (hb : b ≤ N) (hpre : Pre a b F) (hF : RowN .u16 w g N F) :
    Calls Tryd.prog 73 #[.slice (some ⟨g, 0, none⟩) N cap, .int .i64 (a : Int), .int .i64 (b : Int)] w (so16_Part a b g N F w) := by
  have HF := Lib.hid hF
  have HPRE := Lib.hid hpre
  clear hF hpre
  go_enter Tryd.func73, Tryd.ntmps73
  go_wp2
  go_loopg [7, 8, 9, 10] 5 (fun k v7 v8 v9 v10 wr => ∃ (c i : Nat) (H : Nat → Int), c ≤ 5 ∧ a ≤ i ∧ i + 1 ≤ b ∧ v7 = .int .i64 ((i + 1 : Nat) : Int) ∧ v8 = .int .i64 (c : Int) ∧ Hid (RowN .u16 wr g N H) ∧ Hid (Pm a b F H) ∧ Hid (Sd a (i + 1) H) ∧ Hid (k = 5 - c) ∧ Hid (Mo1 g w wr))
  case atStart => exact ⟨0, a, F, by omega, by omega, by omega, by go_num, rfl, HF, Lib.hid (Pm.refl _ _ _), Lib.hid (Sd.small F (by omega)), Lib.hid rfl, Lib.hid (Mo1.refl _ _)⟩
  case round =>
    obtain ⟨c, i, H, hc, hi, hib, rfl, rfl, hR, hP, hS, hk, hm⟩ := hrel
    clear HF
    by_cases hlt : c < 5
    · rename World => wo
      have z5 : decide ((c : Int) < 5) = true := decide_eq_true (by omega)
      have HWO := Lib.hid (Ex.refl wo)
      go_upto_block 2 with fail
      go_cut [7] (fun v7 wx => ∃ i' : Nat, v7 = .int .i64 ((i' + 1 : Nat) : Int) ∧ a ≤ i' ∧ i' + 1 ≤ b ∧ Hid (Sd a (i' + 1) H) ∧ Hid (i' + 1 = b ∨ H (i' + 1) < H i') ∧ Ex wo wx)
      case first =>
        go_wp2
        go_loopg [7] b (fun k v7 wr => ∃ i' : Nat, v7 = .int .i64 ((i' + 1 : Nat) : Int) ∧ a ≤ i' ∧ i' + 1 ≤ b ∧ Hid (Sd a (i' + 1) H) ∧ Hid (k = b - i' ∨ k = b) ∧ Ex wo wr)
        case atStart => exact ⟨i, by first | rfl | go_num, hi, hib, hS, Lib.hid (.inr rfl), HWO.out⟩
        case round =>
          obtain ⟨i', rfl, hi1, hi2, hS', hk', hx'⟩ := hrel
          by_cases hle : i' + 1 < b
          · have z1 : decide (((i' + 1 : Nat) : Int) < (b : Int)) = true := decide_eq_true (by omega)
            have z2 : decide ((i' : Int) + 1 < (b : Int)) = true := decide_eq_true (by omega)
            obtain ⟨x, hx⟩ : ∃ x, H (i' + 1) = x := ⟨_, rfl⟩
            obtain ⟨y, hy⟩ : ∃ y, H i' = y := ⟨_, rfl⟩
            have HRr := hR.out.ex (by omega) hx'
            have k1 := so_cell (show wr.cell? ⟨g, i' + 1, none⟩ = some (.int .u16 x) by rw [← hx]; exact HRr.1 (i' + 1) (by omega))
            have k2 := so_cell (show wr.cell? ⟨g, i', none⟩ = some (.int .u16 y) by rw [← hy]; exact HRr.1 i' (by omega))
            have HLL := Lib.hid fun w => so16_less x y w
            by_cases hxy : x < y
            · rw [decide_eq_true hxy] at HLL
              have HE : Hid (i' + 1 = b ∨ H (i' + 1) < H i') := Lib.hid (.inr (by rw [hx, hy]; exact hxy))
              clear hx hy HRr
              go_wp2
              refine wp_region_wo (by kernel_rfl) (by kernel_rfl) ?_
              repeat (go_big_quiet_step ((go_at_call 74; exact says_wo (HLL.out _))))
              refine wpQuiet_nil ?_
              rintro _ ⟨⟨w3, hw3⟩, rfl⟩
              clear k1 k2
              go_wp2
              go_meet
              exact ⟨i', by first | rfl | go_num, hi1, hi2, hS', HE, hx'.trans hw3⟩
            · rw [decide_eq_false hxy] at HLL
              have HS2 := Lib.hid (so16_snoc hS'.out (by rw [hx, hy]; exact hxy))
              clear hx hy HRr
              go_wp2
              refine wp_region_wo (by kernel_rfl) (by kernel_rfl) ?_
              repeat (go_big_quiet_step ((go_at_call 74; exact says_wo (HLL.out _))))
              refine wpQuiet_nil ?_
              rintro _ ⟨⟨w3, hw3⟩, rfl⟩
              clear k1 k2
              go_wp2
              go_roundg (b - (i' + 1))
              case measure => have := hk'.out; omega
              case rel => exact ⟨i' + 1, by go_num, by omega, by omega, HS2, Lib.hid (.inl rfl), hx'.trans hw3⟩
          · have z1 : decide (((i' + 1 : Nat) : Int) < (b : Int)) = false := decide_eq_false (by omega)
            have z2 : decide ((i' : Int) + 1 < (b : Int)) = false := decide_eq_false (by omega)
            have HE : Hid (i' + 1 = b ∨ H (i' + 1) < H i') := Lib.hid (.inl (by omega))
            go_wp2
            refine wp_region_wo (by kernel_rfl) (by kernel_rfl) ?_
            repeat (go_big_quiet_step (fail))
            refine wpQuiet_nil ?_
            rintro _ ⟨⟨w3, hw3⟩, rfl⟩
            go_wp2
            go_meet
            exact ⟨i', by first | rfl | go_num, hi1, hi2, hS', HE, hx'.trans hw3⟩
      case rest =>
      obtain ⟨m, rfl, hi1, hi2, hS', HE, hxo⟩ := hcut
      rename World => w4
      have HR4 := Lib.hid (hR.out.ex (by omega) hxo)
      have HM4 := Lib.hid (hm.out.trans (Mo1.of hxo))
      clear hR hm hS HWO
      by_cases hend : m + 1 = b
      · have z0 : (((m + 1 : Nat) : Int) == (b : Int)) = true := by simp; omega
        have z9 : ((m : Int) + 1 == (b : Int)) = true := by simp; omega
        have HSB : Hid (Sd a b H) := Lib.hid (by rw [← hend]; exact hS'.out)
        go_wp2
        go_ret
        exact ⟨true, rfl, Lib.hid ⟨H, HR4.out, hP.out, fun _ => HSB.out⟩, HM4⟩
      · have hHE := HE.out.resolve_left hend
        have z0 : (((m + 1 : Nat) : Int) == (b : Int)) = false := by simp; omega
        have z9 : ((m : Int) + 1 == (b : Int)) = false := by simp; omega
        by_cases h50 : b - a < 50
        · have HFIN : Hid (∃ K, RowN .u16 w4 g N K ∧ Pm a b F K ∧ (false = true → Sd a b K)) := Lib.hid ⟨H, HR4.out, hP.out, fun h => by cases h⟩
          go_wp2
          go_ret
          exact ⟨false, rfl, HFIN, HM4⟩
        · have HP5 := Lib.hid (hP.out.trans (Pm.swap H (r := m + 1) (s := m) (by omega) (by omega) (by omega) (by omega)))
          have HS5 : Hid (Sd a m (fun k => H (sx (m + 1) m k))) := Lib.hid (so16_low (fun p q h1 h2 h3 => hS'.out p q h1 h2 (by omega)) (by omega) (by omega))
          obtain ⟨x, hx⟩ : ∃ x, H (m + 1) = x := ⟨_, rfl⟩
          obtain ⟨y, hy⟩ : ∃ y, H m = y := ⟨_, rfl⟩
          have c1 : w4.cell? ⟨g, (m + 1), none⟩ = some (.int .u16 x) := by rw [← hx]; exact HR4.out.1 (m + 1) (by omega)
          have c2 : w4.cell? ⟨g, m, none⟩ = some (.int .u16 y) := by rw [← hy]; exact HR4.out.1 m (by omega)
          have f1 := HR4.out.2 (m + 1)
          have f2 := HR4.out.2 m
          have c3 : (w4.setCell ⟨g, (m + 1), none⟩ (.int .u16 y)).cell? ⟨g, m, none⟩ = some (.int .u16 y) := by rw [← hy]; exact HR4.out.mid (by omega)
          have HSW : Hid (RowN .u16 (((w4.setCell ⟨g, (m + 1), none⟩ (.int .u16 y)).setCell ⟨g, m, none⟩ (.int .u16 x))).drew g N (fun k => H (sx (m + 1) m k))) := Lib.hid (by
            rw [← hx, ← hy]
            exact (HR4.out.swap (by omega) (by omega)).ex (by omega) (Ex.refl _).drew)
          have HMW := Lib.hid (((HM4.out.set (m + 1) (.int .u16 y)).set m (.int .u16 x)).trans (Mo1.of (Ex.refl _).drew))
          clear hx hy hHE
          go_wp2
          go_region
          all_goals go_upto_region 12 with fail
          have z50 : decide ((b : Int) - (a : Int) < 50) = false := decide_eq_false (by omega)
          obtain ⟨w6, hw6⟩ : ∃ w6, ((w4.setCell ⟨g, m + 1, none⟩ (.int .u16 y)).setCell ⟨g, m, none⟩ (.int .u16 x)).drew = w6 := ⟨_, rfl⟩
          rw [hw6] at HSW HMW
          rw [hw6]
          obtain ⟨G, hG⟩ : ∃ G, (fun k => H (sx (m + 1) m k)) = G := ⟨_, rfl⟩
          rw [hG] at HSW HP5 HS5
          clear hw6 hG c1 c2 c3 f1 f2 HR4 HM4 hS' HE hP
          by_cases h2 : a + 1 ≤ m
          · have z2 : decide (((m + 1 : Nat) : Int) - (a : Int) < 2) = false := decide_eq_false (by omega)
            have HI0 := Lib.hid (Ins.start HS5.out)
            go_wp2
            go_loopg [9] m (fun k v9 wr => ∃ (j : Nat) (K : Nat → Int), v9 = .int .i64 (j : Int) ∧ a ≤ j ∧ j ≤ m ∧ Hid (RowN .u16 wr g N K) ∧ Hid (Pm a b F K) ∧ Hid (Ins a m j K) ∧ Hid (k = j) ∧ Hid (Mo1 g w wr))
            case atStart => exact ⟨m, G, by first | rfl | go_num, by omega, Nat.le_refl _, HSW, HP5, HI0, Lib.hid rfl, HMW⟩
            case round =>
              obtain ⟨j, K, rfl, hj1, hj2, hR7, hP7, hI7, hk7, hm7⟩ := hrel
              clear HSW HP5 HI0 HMW HS5
              by_cases hj0 : j = 0
              · have HS8 := Lib.hid (hI7.out.stop hj2 (.inl (by omega)))
                subst hj0
                have HRK := hR7
                have HPK := hP7
                have HSK := HS8
                have HMK := hm7
                by_cases h2 : m + 3 ≤ b
                · have z2 : decide ((b : Int) - ((m + 1 : Nat) : Int) < 2) = false := decide_eq_false (by omega)
                  go_wp2
                  go_loopg [10] b (fun k v10 wr => ∃ (n : Nat) (K : Nat → Int), v10 = .int .i64 ((n + 1 : Nat) : Int) ∧ m + 1 ≤ n ∧ n + 1 ≤ b ∧ Hid (RowN .u16 wr g N K) ∧ Hid (Pm a b F K) ∧ Hid (Sd a (m + 1) K) ∧ Hid (k = b - n ∨ k = b) ∧ Hid (Mo1 g w wr))
                  case atStart => exact ⟨m + 1, K, by first | rfl | go_num, by omega, by omega, HRK, HPK, HSK, Lib.hid (.inr rfl), HMK⟩
                  case round =>
                    obtain ⟨n, K, rfl, hj1, hj2, hR7, hP7, hS7, hk7, hm7⟩ := hrel
                    clear HRK HPK HSK HMK
                    by_cases hle : n + 1 < b
                    · have z3 : decide (((n + 1 : Nat) : Int) < (b : Int)) = true := decide_eq_true (by omega)
                      obtain ⟨x, hx⟩ : ∃ x, K (n + 1) = x := ⟨_, rfl⟩
                      obtain ⟨y, hy⟩ : ∃ y, K n = y := ⟨_, rfl⟩
                      have k1 := so_cell (show wr.cell? ⟨g, n + 1, none⟩ = some (.int .u16 x) by rw [← hx]; exact hR7.out.1 (n + 1) (by omega))
                      have k2 := so_cell (show wr.cell? ⟨g, n, none⟩ = some (.int .u16 y) by rw [← hy]; exact hR7.out.1 n (by omega))
                      have HLL := Lib.hid fun w => so16_less x y w
                      by_cases hxy : x < y
                      · rw [decide_eq_true hxy] at HLL
                        have HS8 := Lib.hid (so16_low hS7.out (r := n + 1) (s := n) (by omega) (by omega))
                        have HP8 := Lib.hid (hP7.out.trans (Pm.swap K (r := n + 1) (s := n) (by omega) (by omega) (by omega) (by omega)))
                        clear hx hy
                        go_wp2
                        refine wp_region_wo (by kernel_rfl) (by kernel_rfl) ?_
                        repeat (go_big_quiet_step ((go_at_call 74; exact says_wo (HLL.out _))))
                        refine wpQuiet_nil ?_
                        rintro _ ⟨⟨w3, hw3⟩, rfl⟩
                        rename World => w7
                        have HR8 := Lib.hid (hR7.out.ex (by omega) hw3)
                        have HM8 := Lib.hid (hm7.out.trans (Mo1.of hw3))
                        clear k1 k2
                        obtain ⟨x, hx⟩ : ∃ x, K (n + 1) = x := ⟨_, rfl⟩
                        obtain ⟨y, hy⟩ : ∃ y, K n = y := ⟨_, rfl⟩
                        have c1 : w7.cell? ⟨g, (n + 1), none⟩ = some (.int .u16 x) := by rw [← hx]; exact HR8.out.1 (n + 1) (by omega)
                        have c2 : w7.cell? ⟨g, n, none⟩ = some (.int .u16 y) := by rw [← hy]; exact HR8.out.1 n (by omega)
                        have f1 := HR8.out.2 (n + 1)
                        have f2 := HR8.out.2 n
                        have c3 : (w7.setCell ⟨g, (n + 1), none⟩ (.int .u16 y)).cell? ⟨g, n, none⟩ = some (.int .u16 y) := by rw [← hy]; exact HR8.out.mid (by omega)
                        have HSW : Hid (RowN .u16 (((w7.setCell ⟨g, (n + 1), none⟩ (.int .u16 y)).setCell ⟨g, n, none⟩ (.int .u16 x))).drew g N (fun k => K (sx (n + 1) n k))) := Lib.hid (by
                          rw [← hx, ← hy]
                          exact (HR8.out.swap (by omega) (by omega)).ex (by omega) (Ex.refl _).drew)
                        have HMW := Lib.hid (((HM8.out.set (n + 1) (.int .u16 y)).set n (.int .u16 x)).trans (Mo1.of (Ex.refl _).drew))
                        clear hx hy
                        go_wp2
                        go_region
                        all_goals go_wp2
                        go_roundg (b - (n + 1))
                        case measure => have := hk7.out; omega
                        case rel => exact ⟨n + 1, _, by first | rfl | go_num, by omega, by omega, HSW, HP8, HS8, Lib.hid (.inl rfl), HMW⟩
                      · rw [decide_eq_false hxy] at HLL
                        clear hx hy
                        go_wp2
                        refine wp_region_wo (by kernel_rfl) (by kernel_rfl) ?_
                        repeat (go_big_quiet_step ((go_at_call 74; exact says_wo (HLL.out _))))
                        refine wpQuiet_nil ?_
                        rintro _ ⟨⟨w3, hw3⟩, rfl⟩
                        rename World => w7
                        have HR8 := Lib.hid (hR7.out.ex (by omega) hw3)
                        have HM8 := Lib.hid (hm7.out.trans (Mo1.of hw3))
                        clear k1 k2
                        go_wp2
                        go_roundg (5 - (c + 1))
                        case measure => have := hk.out; omega
                        case rel => exact ⟨c + 1, m, K, by omega, by omega, by omega, by first | rfl | go_num, by go_num, HR8, hP7, hS7, Lib.hid rfl, HM8⟩
                    · have z3 : decide (((n + 1 : Nat) : Int) < (b : Int)) = false := decide_eq_false (by omega)
                      go_wp2
                      go_roundg (5 - (c + 1))
                      case measure => have := hk.out; omega
                      case rel => exact ⟨c + 1, m, K, by omega, by omega, by omega, by first | rfl | go_num, by go_num, hR7, hP7, hS7, Lib.hid rfl, hm7⟩
                · first
                  | (exfalso; omega)
                  | (have z2 : decide ((b : Int) - ((m + 1 : Nat) : Int) < 2) = true := decide_eq_true (by omega)
                     go_wp2
                     go_roundg (5 - (c + 1))
                     case measure => have := hk.out; omega
                     case rel => exact ⟨c + 1, m, K, by omega, by omega, by omega, by first | rfl | go_num, by go_num, HRK, HPK, HSK, Lib.hid rfl, HMK⟩)
              · obtain ⟨n, rfl⟩ : ∃ n, j = n + 1 := ⟨j - 1, by omega⟩
                have z3 : decide (((n + 1 : Nat) : Int) < 1) = false := decide_eq_false (by omega)
                obtain ⟨x, hx⟩ : ∃ x, K (n + 1) = x := ⟨_, rfl⟩
                obtain ⟨y, hy⟩ : ∃ y, K n = y := ⟨_, rfl⟩
                have k1 := so_cell (show wr.cell? ⟨g, n + 1, none⟩ = some (.int .u16 x) by rw [← hx]; exact hR7.out.1 (n + 1) (by omega))
                have k2 := so_cell (show wr.cell? ⟨g, n, none⟩ = some (.int .u16 y) by rw [← hy]; exact hR7.out.1 n (by omega))
                have HLL := Lib.hid fun w => so16_less x y w
                by_cases hxy : x < y
                · have hna : a ≤ n := by
                    refine Nat.le_of_not_lt fun hc => ?_
                    have e : a = n + 1 := by omega
                    rcases HPRE.out.pm hP7.out with h | h
                    · omega
                    · have := h a (Nat.le_refl _) (by omega)
                      rw [e, hx, show n + 1 - 1 = n by omega, hy] at this
                      omega
                  rw [decide_eq_true hxy] at HLL
                  have HI8 := Lib.hid (hI7.out.step hna (by omega) (by rw [hx, hy]; exact hxy))
                  have HP8 := Lib.hid (hP7.out.trans (Pm.swap K (r := n + 1) (s := n) (by omega) (by omega) (by omega) (by omega)))
                  clear hx hy
                  go_wp2
                  refine wp_region_wo (by kernel_rfl) (by kernel_rfl) ?_
                  repeat (go_big_quiet_step ((go_at_call 74; exact says_wo (HLL.out _))))
                  refine wpQuiet_nil ?_
                  rintro _ ⟨⟨w3, hw3⟩, rfl⟩
                  rename World => w7
                  have HR8 := Lib.hid (hR7.out.ex (by omega) hw3)
                  have HM8 := Lib.hid (hm7.out.trans (Mo1.of hw3))
                  clear k1 k2
                  obtain ⟨x, hx⟩ : ∃ x, K (n + 1) = x := ⟨_, rfl⟩
                  obtain ⟨y, hy⟩ : ∃ y, K n = y := ⟨_, rfl⟩
                  have c1 : w7.cell? ⟨g, (n + 1), none⟩ = some (.int .u16 x) := by rw [← hx]; exact HR8.out.1 (n + 1) (by omega)
                  have c2 : w7.cell? ⟨g, n, none⟩ = some (.int .u16 y) := by rw [← hy]; exact HR8.out.1 n (by omega)
                  have f1 := HR8.out.2 (n + 1)
                  have f2 := HR8.out.2 n
                  have c3 : (w7.setCell ⟨g, (n + 1), none⟩ (.int .u16 y)).cell? ⟨g, n, none⟩ = some (.int .u16 y) := by rw [← hy]; exact HR8.out.mid (by omega)
                  have HSW : Hid (RowN .u16 (((w7.setCell ⟨g, (n + 1), none⟩ (.int .u16 y)).setCell ⟨g, n, none⟩ (.int .u16 x))).drew g N (fun k => K (sx (n + 1) n k))) := Lib.hid (by
                    rw [← hx, ← hy]
                    exact (HR8.out.swap (by omega) (by omega)).ex (by omega) (Ex.refl _).drew)
                  have HMW := Lib.hid (((HM8.out.set (n + 1) (.int .u16 y)).set n (.int .u16 x)).trans (Mo1.of (Ex.refl _).drew))
                  clear hx hy
                  go_wp2
                  go_region
                  all_goals go_wp2
                  go_roundg n
                  case measure => have := hk7.out; omega
                  case rel => exact ⟨n, _, by first | rfl | go_num, hna, by omega, HSW, HP8, HI8, Lib.hid rfl, HMW⟩
                · have HS8 := Lib.hid (hI7.out.stop hj2 (by
                    by_cases e : n + 1 = a
                    · exact .inl e
                    · exact .inr ⟨by omega, by rw [show n + 1 - 1 = n by omega, hx, hy]; exact hxy⟩))
                  rw [decide_eq_false hxy] at HLL
                  clear hx hy
                  go_wp2
                  refine wp_region_wo (by kernel_rfl) (by kernel_rfl) ?_
                  repeat (go_big_quiet_step ((go_at_call 74; exact says_wo (HLL.out _))))
                  refine wpQuiet_nil ?_
                  rintro _ ⟨⟨w3, hw3⟩, rfl⟩
                  rename World => w7
                  have HR8 := Lib.hid (hR7.out.ex (by omega) hw3)
                  have HM8 := Lib.hid (hm7.out.trans (Mo1.of hw3))
                  clear k1 k2
                  have HRK := HR8
                  have HPK := hP7
                  have HSK := HS8
                  have HMK := HM8
                  by_cases h2 : m + 3 ≤ b
                  · have z2 : decide ((b : Int) - ((m + 1 : Nat) : Int) < 2) = false := decide_eq_false (by omega)
                    go_wp2
                    go_loopg [10] b (fun k v10 wr => ∃ (n : Nat) (K : Nat → Int), v10 = .int .i64 ((n + 1 : Nat) : Int) ∧ m + 1 ≤ n ∧ n + 1 ≤ b ∧ Hid (RowN .u16 wr g N K) ∧ Hid (Pm a b F K) ∧ Hid (Sd a (m + 1) K) ∧ Hid (k = b - n ∨ k = b) ∧ Hid (Mo1 g w wr))
                    case atStart => exact ⟨m + 1, K, by first | rfl | go_num, by omega, by omega, HRK, HPK, HSK, Lib.hid (.inr rfl), HMK⟩
                    case round =>
                      obtain ⟨n, K, rfl, hj1, hj2, hR7, hP7, hS7, hk7, hm7⟩ := hrel
                      clear HRK HPK HSK HMK
                      by_cases hle : n + 1 < b
                      · have z3 : decide (((n + 1 : Nat) : Int) < (b : Int)) = true := decide_eq_true (by omega)
                        obtain ⟨x, hx⟩ : ∃ x, K (n + 1) = x := ⟨_, rfl⟩
                        obtain ⟨y, hy⟩ : ∃ y, K n = y := ⟨_, rfl⟩
                        have k1 := so_cell (show wr.cell? ⟨g, n + 1, none⟩ = some (.int .u16 x) by rw [← hx]; exact hR7.out.1 (n + 1) (by omega))
                        have k2 := so_cell (show wr.cell? ⟨g, n, none⟩ = some (.int .u16 y) by rw [← hy]; exact hR7.out.1 n (by omega))
                        have HLL := Lib.hid fun w => so16_less x y w
                        by_cases hxy : x < y
                        · rw [decide_eq_true hxy] at HLL
                          have HS8 := Lib.hid (so16_low hS7.out (r := n + 1) (s := n) (by omega) (by omega))
                          have HP8 := Lib.hid (hP7.out.trans (Pm.swap K (r := n + 1) (s := n) (by omega) (by omega) (by omega) (by omega)))
                          clear hx hy
                          go_wp2
                          refine wp_region_wo (by kernel_rfl) (by kernel_rfl) ?_
                          repeat (go_big_quiet_step ((go_at_call 74; exact says_wo (HLL.out _))))
                          refine wpQuiet_nil ?_
                          rintro _ ⟨⟨w3, hw3⟩, rfl⟩
                          rename World => w7
                          have HR8 := Lib.hid (hR7.out.ex (by omega) hw3)
                          have HM8 := Lib.hid (hm7.out.trans (Mo1.of hw3))
                          clear k1 k2
                          obtain ⟨x, hx⟩ : ∃ x, K (n + 1) = x := ⟨_, rfl⟩
                          obtain ⟨y, hy⟩ : ∃ y, K n = y := ⟨_, rfl⟩
                          have c1 : w7.cell? ⟨g, (n + 1), none⟩ = some (.int .u16 x) := by rw [← hx]; exact HR8.out.1 (n + 1) (by omega)
                          have c2 : w7.cell? ⟨g, n, none⟩ = some (.int .u16 y) := by rw [← hy]; exact HR8.out.1 n (by omega)
                          have f1 := HR8.out.2 (n + 1)
                          have f2 := HR8.out.2 n
                          have c3 : (w7.setCell ⟨g, (n + 1), none⟩ (.int .u16 y)).cell? ⟨g, n, none⟩ = some (.int .u16 y) := by rw [← hy]; exact HR8.out.mid (by omega)
                          have HSW : Hid (RowN .u16 (((w7.setCell ⟨g, (n + 1), none⟩ (.int .u16 y)).setCell ⟨g, n, none⟩ (.int .u16 x))).drew g N (fun k => K (sx (n + 1) n k))) := Lib.hid (by
                            rw [← hx, ← hy]
                            exact (HR8.out.swap (by omega) (by omega)).ex (by omega) (Ex.refl _).drew)
                          have HMW := Lib.hid (((HM8.out.set (n + 1) (.int .u16 y)).set n (.int .u16 x)).trans (Mo1.of (Ex.refl _).drew))
                          clear hx hy
                          go_wp2
                          go_region
                          all_goals go_wp2
                          go_roundg (b - (n + 1))
                          case measure => have := hk7.out; omega
                          case rel => exact ⟨n + 1, _, by first | rfl | go_num, by omega, by omega, HSW, HP8, HS8, Lib.hid (.inl rfl), HMW⟩
                        · rw [decide_eq_false hxy] at HLL
                          clear hx hy
                          go_wp2
                          refine wp_region_wo (by kernel_rfl) (by kernel_rfl) ?_
                          repeat (go_big_quiet_step ((go_at_call 74; exact says_wo (HLL.out _))))
                          refine wpQuiet_nil ?_
                          rintro _ ⟨⟨w3, hw3⟩, rfl⟩
                          rename World => w7
                          have HR8 := Lib.hid (hR7.out.ex (by omega) hw3)
                          have HM8 := Lib.hid (hm7.out.trans (Mo1.of hw3))
                          clear k1 k2
                          go_wp2
                          go_roundg (5 - (c + 1))
                          case measure => have := hk.out; omega
                          case rel => exact ⟨c + 1, m, K, by omega, by omega, by omega, by first | rfl | go_num, by go_num, HR8, hP7, hS7, Lib.hid rfl, HM8⟩
                      · have z3 : decide (((n + 1 : Nat) : Int) < (b : Int)) = false := decide_eq_false (by omega)
                        go_wp2
                        go_roundg (5 - (c + 1))
                        case measure => have := hk.out; omega
                        case rel => exact ⟨c + 1, m, K, by omega, by omega, by omega, by first | rfl | go_num, by go_num, hR7, hP7, hS7, Lib.hid rfl, hm7⟩
                  · first
                    | (exfalso; omega)
                    | (have z2 : decide ((b : Int) - ((m + 1 : Nat) : Int) < 2) = true := decide_eq_true (by omega)
                       go_wp2
                       go_roundg (5 - (c + 1))
                       case measure => have := hk.out; omega
                       case rel => exact ⟨c + 1, m, K, by omega, by omega, by omega, by first | rfl | go_num, by go_num, HRK, HPK, HSK, Lib.hid rfl, HMK⟩)
          · have z2 : decide (((m + 1 : Nat) : Int) - (a : Int) < 2) = true := decide_eq_true (by omega)
            have HS8 : Hid (Sd a (m + 1) G) := Lib.hid (Sd.small G (by omega))
            have HRK := HSW
            have HPK := HP5
            have HSK := HS8
            have HMK := HMW
            by_cases h2 : m + 3 ≤ b
            · have z2 : decide ((b : Int) - ((m + 1 : Nat) : Int) < 2) = false := decide_eq_false (by omega)
              go_wp2
              go_loopg [10] b (fun k v10 wr => ∃ (n : Nat) (K : Nat → Int), v10 = .int .i64 ((n + 1 : Nat) : Int) ∧ m + 1 ≤ n ∧ n + 1 ≤ b ∧ Hid (RowN .u16 wr g N K) ∧ Hid (Pm a b F K) ∧ Hid (Sd a (m + 1) K) ∧ Hid (k = b - n ∨ k = b) ∧ Hid (Mo1 g w wr))
              case atStart => exact ⟨m + 1, G, by first | rfl | go_num, by omega, by omega, HRK, HPK, HSK, Lib.hid (.inr rfl), HMK⟩
              case round =>
                obtain ⟨n, K, rfl, hj1, hj2, hR7, hP7, hS7, hk7, hm7⟩ := hrel
                clear HRK HPK HSK HMK
                by_cases hle : n + 1 < b
                · have z3 : decide (((n + 1 : Nat) : Int) < (b : Int)) = true := decide_eq_true (by omega)
                  obtain ⟨x, hx⟩ : ∃ x, K (n + 1) = x := ⟨_, rfl⟩
                  obtain ⟨y, hy⟩ : ∃ y, K n = y := ⟨_, rfl⟩
                  have k1 := so_cell (show wr.cell? ⟨g, n + 1, none⟩ = some (.int .u16 x) by rw [← hx]; exact hR7.out.1 (n + 1) (by omega))
                  have k2 := so_cell (show wr.cell? ⟨g, n, none⟩ = some (.int .u16 y) by rw [← hy]; exact hR7.out.1 n (by omega))
                  have HLL := Lib.hid fun w => so16_less x y w
                  by_cases hxy : x < y
                  · rw [decide_eq_true hxy] at HLL
                    have HS8 := Lib.hid (so16_low hS7.out (r := n + 1) (s := n) (by omega) (by omega))
                    have HP8 := Lib.hid (hP7.out.trans (Pm.swap K (r := n + 1) (s := n) (by omega) (by omega) (by omega) (by omega)))
                    clear hx hy
                    go_wp2
                    refine wp_region_wo (by kernel_rfl) (by kernel_rfl) ?_
                    repeat (go_big_quiet_step ((go_at_call 74; exact says_wo (HLL.out _))))
                    refine wpQuiet_nil ?_
                    rintro _ ⟨⟨w3, hw3⟩, rfl⟩
                    rename World => w7
                    have HR8 := Lib.hid (hR7.out.ex (by omega) hw3)
                    have HM8 := Lib.hid (hm7.out.trans (Mo1.of hw3))
                    clear k1 k2
                    obtain ⟨x, hx⟩ : ∃ x, K (n + 1) = x := ⟨_, rfl⟩
                    obtain ⟨y, hy⟩ : ∃ y, K n = y := ⟨_, rfl⟩
                    have c1 : w7.cell? ⟨g, (n + 1), none⟩ = some (.int .u16 x) := by rw [← hx]; exact HR8.out.1 (n + 1) (by omega)
                    have c2 : w7.cell? ⟨g, n, none⟩ = some (.int .u16 y) := by rw [← hy]; exact HR8.out.1 n (by omega)
                    have f1 := HR8.out.2 (n + 1)
                    have f2 := HR8.out.2 n
                    have c3 : (w7.setCell ⟨g, (n + 1), none⟩ (.int .u16 y)).cell? ⟨g, n, none⟩ = some (.int .u16 y) := by rw [← hy]; exact HR8.out.mid (by omega)
                    have HSW : Hid (RowN .u16 (((w7.setCell ⟨g, (n + 1), none⟩ (.int .u16 y)).setCell ⟨g, n, none⟩ (.int .u16 x))).drew g N (fun k => K (sx (n + 1) n k))) := Lib.hid (by
                      rw [← hx, ← hy]
                      exact (HR8.out.swap (by omega) (by omega)).ex (by omega) (Ex.refl _).drew)
                    have HMW := Lib.hid (((HM8.out.set (n + 1) (.int .u16 y)).set n (.int .u16 x)).trans (Mo1.of (Ex.refl _).drew))
                    clear hx hy
                    go_wp2
                    go_region
                    all_goals go_wp2
                    go_roundg (b - (n + 1))
                    case measure => have := hk7.out; omega
                    case rel => exact ⟨n + 1, _, by first | rfl | go_num, by omega, by omega, HSW, HP8, HS8, Lib.hid (.inl rfl), HMW⟩
                  · rw [decide_eq_false hxy] at HLL
                    clear hx hy
                    go_wp2
                    refine wp_region_wo (by kernel_rfl) (by kernel_rfl) ?_
                    repeat (go_big_quiet_step ((go_at_call 74; exact says_wo (HLL.out _))))
                    refine wpQuiet_nil ?_
                    rintro _ ⟨⟨w3, hw3⟩, rfl⟩
                    rename World => w7
                    have HR8 := Lib.hid (hR7.out.ex (by omega) hw3)
                    have HM8 := Lib.hid (hm7.out.trans (Mo1.of hw3))
                    clear k1 k2
                    go_wp2
                    go_roundg (5 - (c + 1))
                    case measure => have := hk.out; omega
                    case rel => exact ⟨c + 1, m, K, by omega, by omega, by omega, by first | rfl | go_num, by go_num, HR8, hP7, hS7, Lib.hid rfl, HM8⟩
                · have z3 : decide (((n + 1 : Nat) : Int) < (b : Int)) = false := decide_eq_false (by omega)
                  go_wp2
                  go_roundg (5 - (c + 1))
                  case measure => have := hk.out; omega
                  case rel => exact ⟨c + 1, m, K, by omega, by omega, by omega, by first | rfl | go_num, by go_num, hR7, hP7, hS7, Lib.hid rfl, hm7⟩
            · first
              | (exfalso; omega)
              | (have z2 : decide ((b : Int) - ((m + 1 : Nat) : Int) < 2) = true := decide_eq_true (by omega)
                 go_wp2
                 go_roundg (5 - (c + 1))
                 case measure => have := hk.out; omega
                 case rel => exact ⟨c + 1, m, G, by omega, by omega, by omega, by first | rfl | go_num, by go_num, HRK, HPK, HSK, Lib.hid rfl, HMK⟩)
    · have HFIN : Hid (∃ K, RowN .u16 wr g N K ∧ Pm a b F K ∧ (false = true → Sd a b K)) := Lib.hid ⟨H, hR.out, hP.out, fun h => by cases h⟩
      go_wp2
      go_ret
      exact ⟨false, rfl, HFIN, hm⟩

end Go.Proofs.YthlnbomapfjphaaDoor

namespace Go.Proofs.YthlnbomapfjphaaDoor
open Go.RowKit
open So

/-- What order2 answers. -/
def so16_Two (x y bs s : Nat) (w : World) (e : Ending) (w2 : World) : Prop := ∃ u v t : Nat, e = .returned (.tuple #[.int .i64 (u : Int), .int .i64 (v : Int)]) ∧ Hid ((u = x ∧ v = y) ∨ (u = y ∧ v = x)) ∧ t ≤ s + 1 ∧ Hid (SoCell .i64 w2 bs (t : Int)) ∧ Hid (Mo1 bs w w2)

set_option maxRecDepth 100000 in
set_option maxHeartbeats 1000000 in
theorem so16_order2 (F : Nat → Int) (g N cap x y bs s : Nat) (w : World) (hx : x < N) (hy : y < N) (_ : N ≤ 4096) (hs : s ≤ 1000) (hF : RowN .u16 w g N F) (hc : SoCell .i64 w bs (s : Int)) :
    Calls Tryd.prog 93 #[.slice (some ⟨g, 0, none⟩) N cap, .int .i64 (x : Int), .int .i64 (y : Int), .pointer (some ⟨bs, 0, none⟩)] w (so16_Two x y bs s w) := by
  obtain ⟨u, hu⟩ : ∃ u, F x = u := ⟨_, rfl⟩
  obtain ⟨v, hv⟩ : ∃ v, F y = v := ⟨_, rfl⟩
  have k1 := so_cell (show w.cell? ⟨g, x, none⟩ = some (.int .u16 u) by rw [← hu]; exact hF.1 x hx)
  have k2 := so_cell (show w.cell? ⟨g, y, none⟩ = some (.int .u16 v) by rw [← hv]; exact hF.1 y hy)
  have HC := Lib.hid hc
  have HLL := Lib.hid fun w => so16_less v u w
  have HA : Hid ((x = x ∧ y = y) ∨ (x = y ∧ y = x)) := Lib.hid (.inl ⟨rfl, rfl⟩)
  clear hF hc hu hv
  by_cases hxy : v < u
  · rw [decide_eq_true hxy] at HLL
    go_enter Tryd.func93, Tryd.ntmps93
    go_wp2
    refine wp_region_wo (by kernel_rfl) (by kernel_rfl) ?_
    repeat (go_big_quiet_step ((go_at_call 74; exact says_wo (HLL.out _))))
    refine wpQuiet_nil ?_
    rintro _ ⟨⟨w3, hw3⟩, rfl⟩
    rename World => w3
    obtain ⟨s1, hs1⟩ : ∃ s1, s + 1 = s1 := ⟨_, rfl⟩
    have HC3 := Lib.hid (HC.out.ex hw3)
    have c3 := HC3.out.1
    have f3 := HC3.out.2
    have HC4 : Hid (SoCell .i64 (w3.setCell ⟨bs, 0, none⟩ (.int .i64 (s1 : Int))) bs (s1 : Int)) := Lib.hid (HC3.out.set _)
    have HM4 := Lib.hid ((Mo1.of hw3).set (g := bs) 0 (.int .i64 (s1 : Int)))
    have hz : (s : Int) + 1 = (s1 : Int) := by omega
    clear k1 k2
    go_wp2
    go_ret2
    exact ⟨y, x, s1, rfl, Lib.hid (.inr ⟨rfl, rfl⟩), by omega, HC4, HM4⟩
  · rw [decide_eq_false hxy] at HLL
    go_enter Tryd.func93, Tryd.ntmps93
    go_wp2
    refine wp_region_wo (by kernel_rfl) (by kernel_rfl) ?_
    repeat (go_big_quiet_step ((go_at_call 74; exact says_wo (HLL.out _))))
    refine wpQuiet_nil ?_
    rintro _ ⟨⟨w3, hw3⟩, rfl⟩
    have HC3 := Lib.hid (HC.out.ex hw3)
    have HM3 := Lib.hid (Mo1.of (g := bs) hw3)
    clear k1 k2
    go_wp2
    go_ret2
    exact ⟨x, y, s, rfl, Lib.hid (.inl ⟨rfl, rfl⟩), by omega, HC3, HM3⟩

/-- What the median answers. -/
def so16_Med (p : Nat → Prop) (bs s : Nat) (w : World) (e : Ending) (w2 : World) : Prop := ∃ u t : Nat, e = .returned (.int .i64 (u : Int)) ∧ Hid (p u) ∧ t ≤ s + 3 ∧ Hid (SoCell .i64 w2 bs (t : Int)) ∧ Hid (Mo1 bs w w2)

set_option maxRecDepth 100000 in
set_option maxHeartbeats 1000000 in
theorem so16_median (F : Nat → Int) (g N cap x y z bs s : Nat) (w : World) (p : Nat → Prop) (hx : x < N) (hy : y < N) (hz : z < N) (px : p x) (py : p y) (pz : p z) (hN : N ≤ 4096) (hs : s ≤ 900) (hF : RowN .u16 w g N F) (hc : SoCell .i64 w bs (s : Int)) (hne : g ≠ bs) :
    Calls Tryd.prog 88 #[.slice (some ⟨g, 0, none⟩) N cap, .int .i64 (x : Int), .int .i64 (y : Int), .int .i64 (z : Int), .pointer (some ⟨bs, 0, none⟩)] w (so16_Med p bs s w) := by
  have HO := Lib.hid fun x y s w h1 h2 h3 h4 h5 => so16_order2 F g N cap x y bs s w h1 h2 hN h3 h4 h5
  have HF := Lib.hid hF
  have HC := Lib.hid hc
  have HXX : Hid (∀ u, u = x ∨ u = y ∨ u = z → u < N ∧ p u) := Lib.hid fun u h => by
    rcases h with rfl | rfl | rfl
    · exact ⟨hx, px⟩
    · exact ⟨hy, py⟩
    · exact ⟨hz, pz⟩
  clear hF hc px py pz
  go_enter Tryd.func88, Tryd.ntmps88
  go_upto_region 2 with (go_at_call 93; (with_reducible refine (HO.out x y s _ hx hy (by omega) HF.out HC.out).mono ?_); rintro e w1 ⟨u1, v1, t1, rfl, ho1, ht1, hc1, hm1⟩)
  have HF1 := Lib.hid (HF.out.mo (by omega) hm1.out hne)
  have hv1 : v1 < N := by rcases ho1.out with h | h <;> omega
  have hu1 : u1 < N := by rcases ho1.out with h | h <;> omega
  go_upto_region 3 with (go_at_call 93; (with_reducible refine (HO.out v1 z t1 _ hv1 hz (by omega) HF1.out hc1.out).mono ?_); rintro e w2 ⟨u2, v2, t2, rfl, ho2, ht2, hc2, hm2⟩)
  have HF2 := Lib.hid (HF1.out.mo (by omega) hm2.out hne)
  have hu2 : u2 < N := by rcases ho2.out with h | h <;> omega
  go_wp2_with (go_at_call 93; (with_reducible refine (HO.out u1 u2 t2 _ hu1 hu2 (by omega) HF2.out hc2.out).mono ?_); rintro e w3 ⟨u3, v3, t3, rfl, ho3, ht3, hc3, hm3⟩)
  have HPV : Hid (p v3) := Lib.hid (HXX.out v3 (by
    have h1 := ho1.out
    have h2 := ho2.out
    have h3 := ho3.out
    omega)).2
  have HM : Hid (Mo1 bs w w3) := Lib.hid ((hm1.out.trans hm2.out).trans hm3.out)
  go_ret
  exact ⟨v3, t3, rfl, HPV, by omega, hc3, HM⟩

set_option maxHeartbeats 1000000 in
theorem so16_adjacent (F : Nat → Int) (g N cap y bs s : Nat) (w : World) (p : Nat → Prop) (h1 : 1 ≤ y) (hy : y + 1 < N) (px : p (y - 1)) (py : p y) (pz : p (y + 1)) (hN : N ≤ 4096) (hs : s ≤ 900) (hF : RowN .u16 w g N F) (hc : SoCell .i64 w bs (s : Int)) (hne : g ≠ bs) :
    Calls Tryd.prog 87 #[.slice (some ⟨g, 0, none⟩) N cap, .int .i64 (y : Int), .pointer (some ⟨bs, 0, none⟩)] w (so16_Med p bs s w) := by
  obtain ⟨m, rfl⟩ : ∃ m, y = m + 1 := ⟨y - 1, by omega⟩
  have HM := Lib.hid (so16_median F g N cap m (m + 1) (m + 1 + 1) bs s w p (by omega) (by omega) (by omega) px py pz hN hs hF hc hne)
  rw [show ((m + 1 + 1 : Nat) : Int) = (m : Int) + 1 + 1 by omega, show ((m + 1 : Nat) : Int) = (m : Int) + 1 by omega] at HM
  clear hF hc px py pz
  go_enter Tryd.func87, Tryd.ntmps87
  go_wp2_with (go_at_call 88; (with_reducible refine (HM.out).mono ?_); rintro e w1 ⟨u1, t1, rfl, hp1, ht1, hc1, hm1⟩)
  go_ret
  exact ⟨u1, t1, rfl, hp1, by omega, hc1, hm1⟩

/-- What choosePivot answers. -/
def so16_Piv (a b : Nat) (w : World) (e : Ending) (w2 : World) : Prop := ∃ (j : Nat) (h : Int), e = .returned (.tuple #[.int .i64 (j : Int), .int .i64 h]) ∧ a ≤ j ∧ j < b ∧ Hid (h = 0 ∨ h = 1 ∨ h = 2) ∧ Ex w w2

set_option maxRecDepth 100000 in
set_option maxHeartbeats 2000000 in
theorem so16_pivot (F : Nat → Int) (g N cap a b : Nat) (w : World) (hN : N ≤ 4096) (hab : a + 12 < b) (hb : b ≤ N) (hF : RowN .u16 w g N F) :
    Calls Tryd.prog 71 #[.slice (some ⟨g, 0, none⟩) N cap, .int .i64 (a : Int), .int .i64 (b : Int)] w (so16_Piv a b w) := by
  obtain ⟨l, hl⟩ : ∃ l, b - a = l := ⟨_, rfl⟩
  have hlz : (b : Int) - (a : Int) = (l : Int) := by omega
  obtain ⟨q, hq⟩ : ∃ q, l / 4 = q := ⟨_, rfl⟩
  have hqz : (l : Int) / 4 = (q : Int) := by omega
  obtain ⟨i, hi⟩ : ∃ i, a + q = i := ⟨_, rfl⟩
  have hiz : (a : Int) + (q : Int) = (i : Int) := by omega
  obtain ⟨j, hj⟩ : ∃ j, a + q * 2 = j := ⟨_, rfl⟩
  have hjz : (a : Int) + (q : Int) * 2 = (j : Int) := by omega
  obtain ⟨k, hk⟩ : ∃ k, a + q * 3 = k := ⟨_, rfl⟩
  have hkz : (a : Int) + (q : Int) * 3 = (k : Int) := by omega
  have hgl : g < w.heap.size := World.block_lt_of_cell? w ⟨g, 0, none⟩ (hF.1 0 (by omega))
  have HXA := Lib.hid ((Ex.refl w).alloc (.cells #[.int .i64 0] 3))
  have HF := Lib.hid (hF.ex (by omega) HXA.out)
  have HC : Hid (SoCell .i64 (w.alloc (.cells #[.int .i64 0] 3)) w.heap.size ((0 : Nat) : Int)) := Lib.hid (SoCell.new .i64 w 0 3)
  obtain ⟨bs, hbs⟩ : ∃ bs, w.heap.size = bs := ⟨_, rfl⟩
  have HBS := Lib.hid hbs
  have HMD := Lib.hid fun x y z s w h1 h2 h3 h4 h5 h6 h7 h8 h9 => so16_median F g N cap x y z bs s w (fun u => a ≤ u ∧ u < b) h1 h2 h3 h4 h5 h6 hN h7 h8 h9
  have HAD := Lib.hid fun y s w h1 h2 h3 h4 h5 h6 h7 h8 h9 => so16_adjacent F g N cap y bs s w (fun u => a ≤ u ∧ u < b) h1 h2 h3 h4 h5 hN h6 h7 h8 h9
  rw [hbs] at HC
  have hne : g ≠ bs := by omega
  have HSZ : Hid (bs < (w.alloc (.cells #[.int .i64 0] 3)).heap.size) := Lib.hid (by rw [World.size_alloc]; omega)
  clear hF hgl
  by_cases h50 : 50 ≤ l
  · have z5 : decide ((50 : Int) ≤ (l : Int)) = true := decide_eq_true (by omega)
    go_enter Tryd.func71, Tryd.ntmps71
    go_upto_region 9 with (go_at_call 87; (with_reducible refine (HAD.out i 0 _ (by omega) (by omega) (by omega) (by omega) (by omega) (by omega) HF.out HC.out hne).mono ?_); rintro e w1 ⟨u1, t1, rfl, hp1, ht1, hc1, hm1⟩)
    have HF1 := Lib.hid (HF.out.mo (by omega) hm1.out hne)
    go_upto_region 10 with (go_at_call 87; (with_reducible refine (HAD.out j t1 _ (by omega) (by omega) (by omega) (by omega) (by omega) (by omega) HF1.out hc1.out hne).mono ?_); rintro e w2 ⟨u2, t2, rfl, hp2, ht2, hc2, hm2⟩)
    have HF2 := Lib.hid (HF1.out.mo (by omega) hm2.out hne)
    go_upto_region 11 with (go_at_call 87; (with_reducible refine (HAD.out k t2 _ (by omega) (by omega) (by omega) (by omega) (by omega) (by omega) HF2.out hc2.out hne).mono ?_); rintro e w3 ⟨u3, t3, rfl, hp3, ht3, hc3, hm3⟩)
    have HF3 := Lib.hid (HF2.out.mo (by omega) hm3.out hne)
    have b1 := hp1.out
    have b2 := hp2.out
    have b3 := hp3.out
    go_upto_region 12 with (go_at_call 88; (with_reducible refine (HMD.out u1 u2 u3 t3 _ (by omega) (by omega) (by omega) b1 b2 b3 (by omega) HF3.out hc3.out hne).mono ?_); rintro e w4 ⟨u4, t4, rfl, hp4, ht4, hc4, hm40⟩)
    have hm4 := Lib.hid (((hm1.out.trans hm2.out).trans hm3.out).trans hm40.out)
    obtain ⟨HPJ1, HPJ2⟩ := hp4.out
    have HX5 : Hid (Ex w w4) := Lib.hid (Mo1.ex HXA.out hm4.out (by rw [HBS.out]; exact Nat.le_refl _))
    have c4 := hc4.out.1
    by_cases e0 : t4 = 0
    · subst e0
      go_wp2
      go_ret2
      exact ⟨u4, _, rfl, HPJ1, HPJ2, Lib.hid (.inr (.inl rfl)), HX5.out⟩
    · have z0 : ((t4 : Int) == 0) = false := by simp; omega
      by_cases e1 : t4 = 12
      · subst e1
        go_wp2
        go_ret2
        exact ⟨u4, _, rfl, HPJ1, HPJ2, Lib.hid (.inr (.inr rfl)), HX5.out⟩
      · have z1 : ((t4 : Int) == 12) = false := by simp; omega
        go_wp2
        go_ret2
        exact ⟨u4, _, rfl, HPJ1, HPJ2, Lib.hid (.inl rfl), HX5.out⟩
  · have z5 : decide ((50 : Int) ≤ (l : Int)) = false := decide_eq_false (by omega)
    go_enter Tryd.func71, Tryd.ntmps71
    go_upto_region 12 with (go_at_call 88; (with_reducible refine (HMD.out i j k 0 _ (by omega) (by omega) (by omega) (by omega) (by omega) (by omega) (by omega) HF.out HC.out hne).mono ?_); rintro e w4 ⟨u4, t4, rfl, hp4, ht4, hc4, hm4⟩)
    obtain ⟨HPJ1, HPJ2⟩ := hp4.out
    have HX5 : Hid (Ex w w4) := Lib.hid (Mo1.ex HXA.out hm4.out (by rw [HBS.out]; exact Nat.le_refl _))
    have c4 := hc4.out.1
    by_cases e0 : t4 = 0
    · subst e0
      go_wp2
      go_ret2
      exact ⟨u4, _, rfl, HPJ1, HPJ2, Lib.hid (.inr (.inl rfl)), HX5.out⟩
    · have z0 : ((t4 : Int) == 0) = false := by simp; omega
      by_cases e1 : t4 = 12
      · subst e1
        go_wp2
        go_ret2
        exact ⟨u4, _, rfl, HPJ1, HPJ2, Lib.hid (.inr (.inr rfl)), HX5.out⟩
      · have z1 : ((t4 : Int) == 12) = false := by simp; omega
        go_wp2
        go_ret2
        exact ⟨u4, _, rfl, HPJ1, HPJ2, Lib.hid (.inl rfl), HX5.out⟩

end Go.Proofs.YthlnbomapfjphaaDoor

namespace Go.Proofs.YthlnbomapfjphaaDoor
open Go.RowKit
open So

set_option maxRecDepth 100000 in
set_option maxHeartbeats 2000000 in
theorem so16_break (F : Nat → Int) (g N cap a b : Nat) (w : World) (hN : N ≤ 250) (hab : a + 12 < b) (hb : b ≤ N) (hF : RowN .u16 w g N F) :
    Calls Tryd.prog 70 #[.slice (some ⟨g, 0, none⟩) N cap, .int .i64 (a : Int), .int .i64 (b : Int)] w (so16_To a b g N F (fun _ => True) w) := by
  obtain ⟨l, hl⟩ : ∃ l, b - a = l := ⟨_, rfl⟩
  have hlz : (b : Int) - (a : Int) = (l : Int) := by omega
  obtain ⟨q, hq⟩ : ∃ q, l / 4 = q := ⟨_, rfl⟩
  have hqz : (l : Int) / 4 = (q : Int) := by omega
  obtain ⟨i0, hi0⟩ : ∃ i0, a + q * 2 - 1 = i0 := ⟨_, rfl⟩
  have hiz : (a : Int) + (q : Int) * 2 = (i0 : Int) + 1 := by omega
  have hgl : g < w.heap.size := World.block_lt_of_cell? w ⟨g, 0, none⟩ (hF.1 0 (by omega))
  have HNP := Lib.hid fun w => nextPower_any l w (by omega)
  have hLB := lenB_of l (by omega)
  generalize 2 ^ Lib.bitLen l = M at HNP hLB
  obtain ⟨hL1, hL2, _⟩ := hLB
  have hL3 := hL2 (by omega)
  obtain ⟨m1, hm1⟩ : ∃ m1, M - 1 = m1 := ⟨_, rfl⟩
  have hmz : (M : Int) - 1 = (m1 : Int) := by omega
  have HXA := Lib.hid ((Ex.refl w).alloc (.cells #[.int .u64 (l : Int)] 110))
  have HF := Lib.hid (hF.ex (by omega) HXA.out)
  have HC : Hid (SoCell .u64 (w.alloc (.cells #[.int .u64 (l : Int)] 110)) w.heap.size (l : Int)) := Lib.hid (SoCell.new .u64 w (l : Int) 110)
  obtain ⟨bs, hbs⟩ : ∃ bs, w.heap.size = bs := ⟨_, rfl⟩
  have HBS := Lib.hid hbs
  rw [hbs] at HC
  have hne : g ≠ bs := by omega
  clear hF hgl hL2
  go_enter Tryd.func70, Tryd.ntmps70
  go_wp2_with (go_at_call 85; (with_reducible refine (HNP.out _).mono ?_); rintro e w2 ⟨rfl, hw2⟩)
  have HF2 := Lib.hid (HF.out.ex (by omega) hw2)
  have HC2 := Lib.hid (HC.out.ex hw2)
  have HM2 : Hid (Mo1 g w w2) := Lib.hid (Mo1.of (HXA.out.trans hw2))
  go_loopg [9, 10] 3 (fun k v9 v10 wr => ∃ (i : Nat) (G : Nat → Int) (r : Int), i0 ≤ i ∧ i ≤ i0 + 3 ∧ v9 = .int .i64 (i : Int) ∧ Hid (RowN .u16 wr g N G) ∧ Hid (Pm a b F G) ∧ Hid (SoCell .u64 wr bs r) ∧ Hid (k = i0 + 3 - i) ∧ Hid (Mo1 g w wr))
  case atStart => exact ⟨i0, F, (l : Int), by omega, by omega, by go_num, HF2, Lib.hid (Pm.refl _ _ _), HC2, Lib.hid (by omega), HM2⟩
  case round =>
    obtain ⟨i, G, r, hi1, hi2, rfl, hR, hP, hC, hk, hm⟩ := hrel
    clear HF2 HC2 HM2
    by_cases hlt : i < i0 + 3
    · have HNX := Lib.hid (next_any r bs wr hC.out)
      go_upto_region 8 with (go_at_call 86; (with_reducible refine (HNX.out).mono ?_); rintro e w5 ⟨r5, rfl, hr5, hc5, hm5⟩
                             obtain ⟨c, hcz, hcl⟩ := and_u64_le r5 m1 hr5 (by omega))
      have HR5 := Lib.hid (hR.out.mo (by omega) hm5.out hne)
      have HM5 := Lib.hid (hm.out.new hm5.out (by rw [HBS.out]; exact Nat.le_refl _))
      by_cases hle : l ≤ c
      · obtain ⟨d, hd⟩ : ∃ d, c - l = d := ⟨_, rfl⟩
        have hdz : (c : Int) - (l : Int) = (d : Int) := by omega
        have HPb := Lib.hid (hP.out.trans (Pm.swap G (r := i) (s := a + d) (by omega) (by omega) (by omega) (by omega)))
        obtain ⟨x, hx⟩ : ∃ x, G i = x := ⟨_, rfl⟩
        obtain ⟨y, hy⟩ : ∃ y, G (a + d) = y := ⟨_, rfl⟩
        have c1 : w5.cell? ⟨g, i, none⟩ = some (.int .u16 x) := by rw [← hx]; exact HR5.out.1 i (by omega)
        have c2 : w5.cell? ⟨g, (a + d), none⟩ = some (.int .u16 y) := by rw [← hy]; exact HR5.out.1 (a + d) (by omega)
        have f1 := HR5.out.2 i
        have f2 := HR5.out.2 (a + d)
        have c3 : (w5.setCell ⟨g, i, none⟩ (.int .u16 y)).cell? ⟨g, (a + d), none⟩ = some (.int .u16 y) := by rw [← hy]; exact HR5.out.mid (by omega)
        have HSW : Hid (RowN .u16 (((w5.setCell ⟨g, i, none⟩ (.int .u16 y)).setCell ⟨g, (a + d), none⟩ (.int .u16 x))).drew g N (fun k => G (sx i (a + d) k))) := Lib.hid (by
          rw [← hx, ← hy]
          exact (HR5.out.swap (by omega) (by omega)).ex (by omega) (Ex.refl _).drew)
        have HMW := Lib.hid (((HM5.out.set i (.int .u16 y)).set (a + d) (.int .u16 x)).trans (Mo1.of (Ex.refl _).drew))
        have HC6 : Hid (SoCell .u64 (((w5.setCell ⟨g, i, none⟩ (.int .u16 y)).setCell ⟨g, a + d, none⟩ (.int .u16 x))).drew bs (r5 : Int)) := Lib.hid ((hc5.out.mo (((Mo1.refl g w5).set i _).set (a + d) _) (Ne.symm hne)).ex (Ex.refl _).drew)
        clear hx hy
        go_wp2
        go_region
        all_goals go_wp2
        go_roundg (i0 + 3 - (i + 1))
        case measure => have := hk.out; omega
        case rel => exact ⟨i + 1, _, r5, by omega, by omega, by go_num, HSW, HPb, HC6, Lib.hid rfl, HMW⟩
      · skip
        have HPb := Lib.hid (hP.out.trans (Pm.swap G (r := i) (s := a + c) (by omega) (by omega) (by omega) (by omega)))
        obtain ⟨x, hx⟩ : ∃ x, G i = x := ⟨_, rfl⟩
        obtain ⟨y, hy⟩ : ∃ y, G (a + c) = y := ⟨_, rfl⟩
        have c1 : w5.cell? ⟨g, i, none⟩ = some (.int .u16 x) := by rw [← hx]; exact HR5.out.1 i (by omega)
        have c2 : w5.cell? ⟨g, (a + c), none⟩ = some (.int .u16 y) := by rw [← hy]; exact HR5.out.1 (a + c) (by omega)
        have f1 := HR5.out.2 i
        have f2 := HR5.out.2 (a + c)
        have c3 : (w5.setCell ⟨g, i, none⟩ (.int .u16 y)).cell? ⟨g, (a + c), none⟩ = some (.int .u16 y) := by rw [← hy]; exact HR5.out.mid (by omega)
        have HSW : Hid (RowN .u16 (((w5.setCell ⟨g, i, none⟩ (.int .u16 y)).setCell ⟨g, (a + c), none⟩ (.int .u16 x))).drew g N (fun k => G (sx i (a + c) k))) := Lib.hid (by
          rw [← hx, ← hy]
          exact (HR5.out.swap (by omega) (by omega)).ex (by omega) (Ex.refl _).drew)
        have HMW := Lib.hid (((HM5.out.set i (.int .u16 y)).set (a + c) (.int .u16 x)).trans (Mo1.of (Ex.refl _).drew))
        have HC6 : Hid (SoCell .u64 (((w5.setCell ⟨g, i, none⟩ (.int .u16 y)).setCell ⟨g, a + c, none⟩ (.int .u16 x))).drew bs (r5 : Int)) := Lib.hid ((hc5.out.mo (((Mo1.refl g w5).set i _).set (a + c) _) (Ne.symm hne)).ex (Ex.refl _).drew)
        clear hx hy
        go_wp2
        go_region
        all_goals go_wp2
        go_roundg (i0 + 3 - (i + 1))
        case measure => have := hk.out; omega
        case rel => exact ⟨i + 1, _, r5, by omega, by omega, by go_num, HSW, HPb, HC6, Lib.hid rfl, HMW⟩
    · go_wp2
      go_end0
      exact ⟨rfl, Lib.hid ⟨G, hR.out, hP.out, True.intro⟩, hm⟩

end Go.Proofs.YthlnbomapfjphaaDoor
