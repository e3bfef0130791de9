/-
  Several texts in one:
  - The sort of the library at uint16: comparing, the insertion sort, the heap sort.
  - The sort of the library at uint16: the heap sort.
  - The sort of the library at uint16: the heap sort, turning round, two partitions.
  - The sort of the library at uint16: turning round, the partition by the least.
  - The sort of the library at uint16: the partition.
-/
import Derived.Test.YthlnbomapfjphaaDoorGso
import Derived.RegionTactic
import Derived.BigRegion
import Derived.Deep.CutRange
import Derived.Deep.DeepCutAuto
import Derived.Deep.CutBlock
namespace Go.Proofs.YthlnbomapfjphaaDoor
open Go.RowKit
open So

theorem so16_nan (x : Int) (w : World) : Calls Tryd.prog 89 #[.int .u16 x] w (Says (.bool false) w) := by
  go_enter Tryd.func89, Tryd.ntmps89
  go_wp2
  go_ret
  exact ⟨by simp, Ex.refl _⟩

theorem so16_less (x y : Int) (w : World) : Calls Tryd.prog 74 #[.int .u16 x, .int .u16 y] w (Says (.bool (decide (x < y))) w) := by
  have H := Lib.hid fun x w => so16_nan x w
  go_enter Tryd.func74, Tryd.ntmps74
  go_wp2_with (go_at_call 89; (with_reducible refine (H.out _ _).mono ?_); rintro e w2 ⟨rfl, hw2⟩)
  go_ret
  exact ⟨by simp, hw2⟩

/-- What a step of the sort answers: the row in another order on [a, b). -/
def so16_To (a b g N : Nat) (F : Nat → Int) (Q : (Nat → Int) → Prop) (w : World) (e : Ending) (w2 : World) : Prop := e = .returned (.tuple #[]) ∧ Hid (∃ H, RowN .u16 w2 g N H ∧ Pm a b F H ∧ Q H) ∧ Hid (Mo1 g w w2)

set_option maxRecDepth 100000 in
set_option maxHeartbeats 2000000 in
theorem so16_insertion (F : Nat → Int) (g N cap a b : Nat) (w : World) (hN : N ≤ 4096) (hab : a ≤ b) (hb : b ≤ N) (hF : RowN .u16 w g N F) :
    Calls Tryd.prog 68 #[.slice (some ⟨g, 0, none⟩) N cap, .int .i64 (a : Int), .int .i64 (b : Int)] w (so16_To a b g N F (Sd a b) w) := by
  have HF := Lib.hid hF
  have HL := Lib.hid fun x y w => so16_less x y w
  clear hF
  go_enter Tryd.func68, Tryd.ntmps68
  go_wp2
  go_loopg [6, 7] (b + 1 - (a + 1)) (fun k v6 v7 wr => ∃ (i : Nat) (H : Nat → Int), a + 1 ≤ i ∧ (i ≤ b ∨ i = a + 1) ∧ v6 = .int .i64 (i : Int) ∧ Hid (RowN .u16 wr g N H) ∧ Hid (Pm a b F H) ∧ Hid (Sd a i H) ∧ Hid (k = b + 1 - i) ∧ Hid (Mo1 g w wr))
  case atStart => exact ⟨a + 1, F, by omega, .inr rfl, by go_num, HF, Lib.hid (Pm.refl _ _ _), Lib.hid (Sd.small F (by omega)), Lib.hid rfl, Lib.hid (Mo1.refl _ _)⟩
  case round =>
    obtain ⟨i, H, hi1, hi2, rfl, hR, hP, hS, hk, hm⟩ := hrel
    clear HF
    by_cases hlt : i < b
    · have HI0 := Lib.hid (Ins.start hS.out)
      rename World => wo
      go_wp2
      go_loopg [7] i (fun k2 v7 wr => ∃ (j : Nat) (G : Nat → Int), a ≤ j ∧ j ≤ i ∧ v7 = .int .i64 (j : Int) ∧ Hid (RowN .u16 wr g N G) ∧ Hid (Pm a b F G) ∧ Hid (Ins a i j G) ∧ Hid (k2 = j) ∧ Hid (Mo1 g w wr))
      case atStart => exact ⟨i, H, by omega, Nat.le_refl _, rfl, hR, hP, HI0, Lib.hid rfl, hm⟩
      case round =>
        obtain ⟨j, G, hj1, hj2, rfl, hR2, hP2, hI, hk2, hm2⟩ := hrel
        clear hR hP HI0 hm hS
        by_cases hja : j = a
        · have z1 : decide ((a : Int) < (j : Int)) = false := decide_eq_false (by omega)
          have HS2 := Lib.hid (hI.out.stop hj2 (.inl hja))
          clear hI
          go_wp2
          refine wp_region_wo (by kernel_rfl) (by kernel_rfl) ?_
          repeat (go_big_quiet_step (fail))
          refine wpQuiet_nil ?_
          rintro _ ⟨⟨w3, hw3⟩, rfl⟩
          rename World => w3
          have HR3 := Lib.hid (hR2.out.ex (by omega) hw3)
          have HM3 := Lib.hid (hm2.out.trans (Mo1.of hw3))
          go_wp2
          go_roundg (b + 1 - (i + 1))
          case measure => have := hk.out; omega
          case rel => exact ⟨i + 1, G, by omega, .inl (by omega), by go_num, HR3, hP2, HS2, Lib.hid rfl, HM3⟩
        · obtain ⟨m, rfl⟩ : ∃ m, j = m + 1 := ⟨j - 1, by omega⟩
          have z1 : decide ((a : Int) < ((m + 1 : Nat) : Int)) = true := decide_eq_true (by omega)
          have z2 : decide ((a : Int) < (m : Int) + 1) = true := decide_eq_true (by omega)
          obtain ⟨x, hx⟩ : ∃ x, G (m + 1) = x := ⟨_, rfl⟩
          obtain ⟨y, hy⟩ : ∃ y, G m = y := ⟨_, rfl⟩
          have q1 : wr.cell? ⟨g, m + 1, none⟩ = some (.int .u16 x) := by rw [← hx]; exact hR2.out.1 (m + 1) (by omega)
          have q2 : wr.cell? ⟨g, m, none⟩ = some (.int .u16 y) := by rw [← hy]; exact hR2.out.1 m (by omega)
          have k1 := so_cell q1
          have k2 := so_cell q2
          have HLL := Lib.hid fun w => so16_less x y w
          by_cases hxy : x < y
          · rw [decide_eq_true hxy] at HLL
            have HS2 := Lib.hid (hI.out.step (by omega) (by omega) (by rw [hx, hy]; exact hxy))
            have HP3 := Lib.hid (hP2.out.trans (Pm.swap G (r := m + 1) (s := m) (by omega) (by omega) (by omega) (by omega)))
            clear hI q1 q2
            go_wp2
            refine wp_region_wo (by kernel_rfl) (by kernel_rfl) ?_
            repeat (go_big_quiet_step ((go_at_call 74; exact says_wo (HLL.out _))))
            refine wpQuiet_nil ?_
            rintro _ ⟨⟨w3, hw3⟩, rfl⟩
            rename World => w3
            have HR3 := Lib.hid (hR2.out.ex (by omega) hw3)
            have HM3 := Lib.hid (hm2.out.trans (Mo1.of hw3))
            have c1 : w3.cell? ⟨g, m + 1, none⟩ = some (.int .u16 x) := by rw [← hx]; exact HR3.out.1 (m + 1) (by omega)
            have c2 : w3.cell? ⟨g, m, none⟩ = some (.int .u16 y) := by rw [← hy]; exact HR3.out.1 m (by omega)
            have f1 := HR3.out.2 (m + 1)
            have f2 := HR3.out.2 m
            have c3 : (w3.setCell ⟨g, m + 1, none⟩ (.int .u16 y)).cell? ⟨g, m, none⟩ = some (.int .u16 y) := by rw [← hy]; exact HR3.out.mid (by omega)
            have HSW : Hid (RowN .u16 (((w3.setCell ⟨g, m + 1, none⟩ (.int .u16 y)).setCell ⟨g, m, none⟩ (.int .u16 x))).drew g N (fun k => G (sx (m + 1) m k))) := Lib.hid (by
              rw [← hx, ← hy]
              exact (HR3.out.swap (by omega) (by omega)).ex (by omega) (Ex.refl _).drew)
            have HMW := Lib.hid (((HM3.out.set (m + 1) (.int .u16 y)).set m (.int .u16 x)).trans (Mo1.of (Ex.refl _).drew))
            clear k1 k2 hx hy
            go_wp2
            go_region
            all_goals go_wp2
            go_roundg m
            case measure => have := hk2.out; omega
            case rel => exact ⟨m, _, by omega, by omega, by go_num, HSW, HP3, HS2, Lib.hid rfl, HMW⟩
          · rw [decide_eq_false hxy] at HLL
            have HS2 := Lib.hid (hI.out.stop hj2 (.inr ⟨by omega, by rw [show m + 1 - 1 = m by omega, hx, hy]; exact hxy⟩))
            clear hI q1 q2 hx hy
            go_wp2
            refine wp_region_wo (by kernel_rfl) (by kernel_rfl) ?_
            repeat (go_big_quiet_step ((go_at_call 74; exact says_wo (HLL.out _))))
            refine wpQuiet_nil ?_
            rintro _ ⟨⟨w3, hw3⟩, rfl⟩
            rename World => w3
            have HR3 := Lib.hid (hR2.out.ex (by omega) hw3)
            have HM3 := Lib.hid (hm2.out.trans (Mo1.of hw3))
            clear k1 k2
            go_wp2
            go_roundg (b + 1 - (i + 1))
            case measure => have := hk.out; omega
            case rel => exact ⟨i + 1, G, by omega, .inl (by omega), by go_num, HR3, hP2, HS2, Lib.hid rfl, HM3⟩
    · have HS2 : Hid (Sd a b H) := Lib.hid fun p q h1 h2 h3 => hS.out p q h1 h2 (by omega)
      clear hS
      go_wp2
      go_end0
      exact ⟨rfl, Lib.hid ⟨H, hR.out, hP.out, HS2.out⟩, hm⟩

end Go.Proofs.YthlnbomapfjphaaDoor

namespace Go.Proofs.YthlnbomapfjphaaDoor
open Go.RowKit
open So

set_option maxRecDepth 100000 in
set_option maxHeartbeats 2000000 in
theorem so16_sift (F : Nat → Int) (g N cap lo hi f : Nat) (w : World) (hN : N ≤ 4096) (hlo : lo < hi ∨ hi = lo) (hb : f + hi ≤ N) (hF : RowN .u16 w g N F) (hp : Hp f (lo + 1) hi F) (h1 : 1 ≤ N) :
    Calls Tryd.prog 84 #[.slice (some ⟨g, 0, none⟩) N cap, .int .i64 (lo : Int), .int .i64 (hi : Int), .int .i64 (f : Int)] w (so16_To (f + lo) (f + hi) g N F (Hp f lo hi) w) := by
  have HF := Lib.hid hF
  have HSF := Lib.hid (Sf.start hp)
  clear hF hp
  go_enter Tryd.func84, Tryd.ntmps84
  go_wp2
  go_loopg [8, 9] (hi + 1 - lo) (fun k v8 v9 wr => ∃ (r : Nat) (G : Nat → Int), lo ≤ r ∧ (r < hi ∨ r = lo) ∧ v8 = .int .i64 (r : Int) ∧ Hid (RowN .u16 wr g N G) ∧ Hid (Pm (f + lo) (f + hi) F G) ∧ Hid (Sf f lo hi r G) ∧ Hid (k = hi + 1 - r) ∧ Hid (Mo1 g w wr))
  case atStart => exact ⟨lo, F, by omega, .inr rfl, rfl, HF, Lib.hid (Pm.refl _ _ _), HSF, Lib.hid rfl, Lib.hid (Mo1.refl _ _)⟩
  case round =>
    obtain ⟨r, G, hr1, hr2, rfl, hR, hP, hI, hk, hm⟩ := hrel
    clear HF HSF
    by_cases hlt : 2 * r + 1 < hi
    · obtain ⟨c, hc⟩ : ∃ c, 2 * r + 1 = c := ⟨_, rfl⟩
      have hci : 2 * (r : Int) + 1 = (c : Int) := by omega
      have HC := Lib.hid hc
      by_cases hlt3 : c + 1 < hi
      · have z1 : decide ((c : Int) + 1 < (hi : Int)) = true := decide_eq_true (by omega)
        obtain ⟨u, hu⟩ : ∃ u, G (f + c) = u := ⟨_, rfl⟩
        obtain ⟨v, hv⟩ : ∃ v, G (f + c + 1) = v := ⟨_, rfl⟩
        have p1 := so_cell (show wr.cell? ⟨g, f + c, none⟩ = some (.int .u16 u) by rw [← hu]; exact hR.out.1 (f + c) (by omega))
        have p2 := so_cell (show wr.cell? ⟨g, f + c + 1, none⟩ = some (.int .u16 v) by rw [← hv]; exact hR.out.1 (f + c + 1) (by omega))
        have HLU := Lib.hid fun w => so16_less u v w
        by_cases huv : u < v
        · rw [decide_eq_true huv] at HLU
          have hch : c + 1 = 2 * r + 1 ∨ c + 1 = 2 * r + 2 := by omega
          have hlt2 := hlt3
          have hmax : Hid (∀ e, (e = 2 * r + 1 ∨ e = 2 * r + 2) → e < hi → G (f + e) ≤ G (f + (c + 1))) := Lib.hid fun e he _ => by
            rw [show f + (c + 1) = f + c + 1 by omega, hv]
            rcases he with he | he
            · rw [he, hc, hu]; omega
            · rw [he, show f + (2 * r + 2) = f + c + 1 by omega, hv]; exact Int.le_refl _
          clear hu hv hc
          go_wp2
          refine wp_region_wo (by kernel_rfl) (by kernel_rfl) ?_
          repeat (go_big_quiet_step ((go_at_call 74; exact says_wo (HLU.out _))))
          refine wpQuiet_nil ?_
          rintro _ ⟨⟨w3, hw3⟩, rfl⟩
          rename World => w3
          have HR3 := Lib.hid (hR.out.ex (by omega) hw3)
          have HM3 := Lib.hid (hm.out.trans (Mo1.of hw3))
          clear p1 p2
          go_upto_region 5 with fail
          obtain ⟨x, hx⟩ : ∃ x, G (f + r) = x := ⟨_, rfl⟩
          obtain ⟨y, hy⟩ : ∃ y, G (f + (c + 1)) = y := ⟨_, rfl⟩
          have q1 : w3.cell? ⟨g, f + r, none⟩ = some (.int .u16 x) := by rw [← hx]; exact HR3.out.1 (f + r) (by omega)
          have q2 : w3.cell? ⟨g, f + (c + 1), none⟩ = some (.int .u16 y) := by rw [← hy]; exact HR3.out.1 (f + (c + 1)) (by omega)
          have k1 := so_cell q1
          have k2 := so_cell q2
          have HLL := Lib.hid fun w => so16_less x y w
          by_cases hxy : x < y
          · rw [decide_eq_true hxy] at HLL
            have HS2 := Lib.hid (hI.out.step (by omega) hch hlt2 (by rw [hx, hy]; exact hxy) hmax.out)
            have HP3 := Lib.hid (hP.out.trans (Pm.swap G (r := f + r) (s := f + (c + 1)) (by omega) (by omega) (by omega) (by omega)))
            clear hI q1 q2 hch
            go_wp2
            refine wp_region_wo (by kernel_rfl) (by kernel_rfl) ?_
            repeat (go_big_quiet_step ((go_at_call 74; exact says_wo (HLL.out _))))
            refine wpQuiet_nil ?_
            rintro _ ⟨⟨w4, hw4⟩, rfl⟩
            rename World => w4
            have HR4 := Lib.hid (HR3.out.ex (by omega) hw4)
            have HM4 := Lib.hid (HM3.out.trans (Mo1.of hw4))
            have c1 : w4.cell? ⟨g, f + r, none⟩ = some (.int .u16 x) := by rw [← hx]; exact HR4.out.1 (f + r) (by omega)
            have c2 : w4.cell? ⟨g, f + (c + 1), none⟩ = some (.int .u16 y) := by rw [← hy]; exact HR4.out.1 (f + (c + 1)) (by omega)
            have f1 := HR4.out.2 (f + r)
            have f2 := HR4.out.2 (f + (c + 1))
            have c3 : (w4.setCell ⟨g, f + r, none⟩ (.int .u16 y)).cell? ⟨g, f + (c + 1), none⟩ = some (.int .u16 y) := by rw [← hy]; exact HR4.out.mid (by omega)
            have HSW : Hid (RowN .u16 (((w4.setCell ⟨g, f + r, none⟩ (.int .u16 y)).setCell ⟨g, f + (c + 1), none⟩ (.int .u16 x))).drew g N (fun k => G (sx (f + r) (f + (c + 1)) k))) := Lib.hid (by
              rw [← hx, ← hy]
              exact (HR4.out.swap (by omega) (by omega)).ex (by omega) (Ex.refl _).drew)
            have HMW := Lib.hid (((HM4.out.set (f + r) (.int .u16 y)).set (f + (c + 1)) (.int .u16 x)).trans (Mo1.of (Ex.refl _).drew))
            clear k1 k2 hx hy
            go_wp2
            go_region
            all_goals go_wp2
            go_roundg (hi + 1 - (c + 1))
            case measure => have := hk.out; omega
            case rel => exact ⟨(c + 1), _, by omega, .inl hlt2, rfl, HSW, HP3, HS2, Lib.hid rfl, HMW⟩
          · rw [decide_eq_false hxy] at HLL
            have HS2 := Lib.hid (hI.out.stop fun c hc hh => by
              have := hmax.out c hc hh
              rw [hy] at this
              rw [hx]
              omega)
            clear hI q1 q2 hx hy hch
            go_wp2
            refine wp_region_wo (by kernel_rfl) (by kernel_rfl) ?_
            repeat (go_big_quiet_step ((go_at_call 74; exact says_wo (HLL.out _))))
            refine wpQuiet_nil ?_
            rintro _ ⟨⟨w4, hw4⟩, rfl⟩
            rename World => w4
            have HR4 := Lib.hid (HR3.out.ex (by omega) hw4)
            have HM4 := Lib.hid (HM3.out.trans (Mo1.of hw4))
            clear k1 k2
            go_wp2
            go_end0
            exact ⟨rfl, Lib.hid ⟨G, HR4.out, hP.out, HS2.out⟩, HM4⟩
        · rw [decide_eq_false huv] at HLU
          have hch : c = 2 * r + 1 ∨ c = 2 * r + 2 := by omega
          have hlt2 : c < hi := by omega
          have hmax : Hid (∀ e, (e = 2 * r + 1 ∨ e = 2 * r + 2) → e < hi → G (f + e) ≤ G (f + c)) := Lib.hid fun e he _ => by
            rw [hu]
            rcases he with he | he
            · rw [he, hc, hu]; exact Int.le_refl _
            · rw [he, show f + (2 * r + 2) = f + c + 1 by omega, hv]; omega
          clear hu hv hc
          go_wp2
          refine wp_region_wo (by kernel_rfl) (by kernel_rfl) ?_
          repeat (go_big_quiet_step ((go_at_call 74; exact says_wo (HLU.out _))))
          refine wpQuiet_nil ?_
          rintro _ ⟨⟨w3, hw3⟩, rfl⟩
          rename World => w3
          have HR3 := Lib.hid (hR.out.ex (by omega) hw3)
          have HM3 := Lib.hid (hm.out.trans (Mo1.of hw3))
          clear p1 p2
          go_upto_region 5 with fail
          obtain ⟨x, hx⟩ : ∃ x, G (f + r) = x := ⟨_, rfl⟩
          obtain ⟨y, hy⟩ : ∃ y, G (f + c) = y := ⟨_, rfl⟩
          have q1 : w3.cell? ⟨g, f + r, none⟩ = some (.int .u16 x) := by rw [← hx]; exact HR3.out.1 (f + r) (by omega)
          have q2 : w3.cell? ⟨g, f + c, none⟩ = some (.int .u16 y) := by rw [← hy]; exact HR3.out.1 (f + c) (by omega)
          have k1 := so_cell q1
          have k2 := so_cell q2
          have HLL := Lib.hid fun w => so16_less x y w
          by_cases hxy : x < y
          · rw [decide_eq_true hxy] at HLL
            have HS2 := Lib.hid (hI.out.step (by omega) hch hlt2 (by rw [hx, hy]; exact hxy) hmax.out)
            have HP3 := Lib.hid (hP.out.trans (Pm.swap G (r := f + r) (s := f + c) (by omega) (by omega) (by omega) (by omega)))
            clear hI q1 q2 hch
            go_wp2
            refine wp_region_wo (by kernel_rfl) (by kernel_rfl) ?_
            repeat (go_big_quiet_step ((go_at_call 74; exact says_wo (HLL.out _))))
            refine wpQuiet_nil ?_
            rintro _ ⟨⟨w4, hw4⟩, rfl⟩
            rename World => w4
            have HR4 := Lib.hid (HR3.out.ex (by omega) hw4)
            have HM4 := Lib.hid (HM3.out.trans (Mo1.of hw4))
            have c1 : w4.cell? ⟨g, f + r, none⟩ = some (.int .u16 x) := by rw [← hx]; exact HR4.out.1 (f + r) (by omega)
            have c2 : w4.cell? ⟨g, f + c, none⟩ = some (.int .u16 y) := by rw [← hy]; exact HR4.out.1 (f + c) (by omega)
            have f1 := HR4.out.2 (f + r)
            have f2 := HR4.out.2 (f + c)
            have c3 : (w4.setCell ⟨g, f + r, none⟩ (.int .u16 y)).cell? ⟨g, f + c, none⟩ = some (.int .u16 y) := by rw [← hy]; exact HR4.out.mid (by omega)
            have HSW : Hid (RowN .u16 (((w4.setCell ⟨g, f + r, none⟩ (.int .u16 y)).setCell ⟨g, f + c, none⟩ (.int .u16 x))).drew g N (fun k => G (sx (f + r) (f + c) k))) := Lib.hid (by
              rw [← hx, ← hy]
              exact (HR4.out.swap (by omega) (by omega)).ex (by omega) (Ex.refl _).drew)
            have HMW := Lib.hid (((HM4.out.set (f + r) (.int .u16 y)).set (f + c) (.int .u16 x)).trans (Mo1.of (Ex.refl _).drew))
            clear k1 k2 hx hy
            go_wp2
            go_region
            all_goals go_wp2
            go_roundg (hi + 1 - c)
            case measure => have := hk.out; omega
            case rel => exact ⟨c, _, by omega, .inl hlt2, rfl, HSW, HP3, HS2, Lib.hid rfl, HMW⟩
          · rw [decide_eq_false hxy] at HLL
            have HS2 := Lib.hid (hI.out.stop fun c hc hh => by
              have := hmax.out c hc hh
              rw [hy] at this
              rw [hx]
              omega)
            clear hI q1 q2 hx hy hch
            go_wp2
            refine wp_region_wo (by kernel_rfl) (by kernel_rfl) ?_
            repeat (go_big_quiet_step ((go_at_call 74; exact says_wo (HLL.out _))))
            refine wpQuiet_nil ?_
            rintro _ ⟨⟨w4, hw4⟩, rfl⟩
            rename World => w4
            have HR4 := Lib.hid (HR3.out.ex (by omega) hw4)
            have HM4 := Lib.hid (HM3.out.trans (Mo1.of hw4))
            clear k1 k2
            go_wp2
            go_end0
            exact ⟨rfl, Lib.hid ⟨G, HR4.out, hP.out, HS2.out⟩, HM4⟩
      · have z1 : decide ((c : Int) + 1 < (hi : Int)) = false := decide_eq_false (by omega)
        have hch : c = 2 * r + 1 ∨ c = 2 * r + 2 := by omega
        have hlt2 : c < hi := by omega
        have hmax : Hid (∀ e, (e = 2 * r + 1 ∨ e = 2 * r + 2) → e < hi → G (f + e) ≤ G (f + c)) := Lib.hid fun e he _ => by
          rcases he with he | he
          · rw [he, hc]; exact Int.le_refl _
          · omega
        clear hc
        go_wp2
        refine wp_region_wo (by kernel_rfl) (by kernel_rfl) ?_
        repeat (go_big_quiet_step (fail))
        refine wpQuiet_nil ?_
        rintro _ ⟨⟨w3, hw3⟩, rfl⟩
        rename World => w3
        have HR3 := Lib.hid (hR.out.ex (by omega) hw3)
        have HM3 := Lib.hid (hm.out.trans (Mo1.of hw3))
        go_upto_region 5 with fail
        obtain ⟨x, hx⟩ : ∃ x, G (f + r) = x := ⟨_, rfl⟩
        obtain ⟨y, hy⟩ : ∃ y, G (f + c) = y := ⟨_, rfl⟩
        have q1 : w3.cell? ⟨g, f + r, none⟩ = some (.int .u16 x) := by rw [← hx]; exact HR3.out.1 (f + r) (by omega)
        have q2 : w3.cell? ⟨g, f + c, none⟩ = some (.int .u16 y) := by rw [← hy]; exact HR3.out.1 (f + c) (by omega)
        have k1 := so_cell q1
        have k2 := so_cell q2
        have HLL := Lib.hid fun w => so16_less x y w
        by_cases hxy : x < y
        · rw [decide_eq_true hxy] at HLL
          have HS2 := Lib.hid (hI.out.step (by omega) hch hlt2 (by rw [hx, hy]; exact hxy) hmax.out)
          have HP3 := Lib.hid (hP.out.trans (Pm.swap G (r := f + r) (s := f + c) (by omega) (by omega) (by omega) (by omega)))
          clear hI q1 q2 hch
          go_wp2
          refine wp_region_wo (by kernel_rfl) (by kernel_rfl) ?_
          repeat (go_big_quiet_step ((go_at_call 74; exact says_wo (HLL.out _))))
          refine wpQuiet_nil ?_
          rintro _ ⟨⟨w4, hw4⟩, rfl⟩
          rename World => w4
          have HR4 := Lib.hid (HR3.out.ex (by omega) hw4)
          have HM4 := Lib.hid (HM3.out.trans (Mo1.of hw4))
          have c1 : w4.cell? ⟨g, f + r, none⟩ = some (.int .u16 x) := by rw [← hx]; exact HR4.out.1 (f + r) (by omega)
          have c2 : w4.cell? ⟨g, f + c, none⟩ = some (.int .u16 y) := by rw [← hy]; exact HR4.out.1 (f + c) (by omega)
          have f1 := HR4.out.2 (f + r)
          have f2 := HR4.out.2 (f + c)
          have c3 : (w4.setCell ⟨g, f + r, none⟩ (.int .u16 y)).cell? ⟨g, f + c, none⟩ = some (.int .u16 y) := by rw [← hy]; exact HR4.out.mid (by omega)
          have HSW : Hid (RowN .u16 (((w4.setCell ⟨g, f + r, none⟩ (.int .u16 y)).setCell ⟨g, f + c, none⟩ (.int .u16 x))).drew g N (fun k => G (sx (f + r) (f + c) k))) := Lib.hid (by
            rw [← hx, ← hy]
            exact (HR4.out.swap (by omega) (by omega)).ex (by omega) (Ex.refl _).drew)
          have HMW := Lib.hid (((HM4.out.set (f + r) (.int .u16 y)).set (f + c) (.int .u16 x)).trans (Mo1.of (Ex.refl _).drew))
          clear k1 k2 hx hy
          go_wp2
          go_region
          all_goals go_wp2
          go_roundg (hi + 1 - c)
          case measure => have := hk.out; omega
          case rel => exact ⟨c, _, by omega, .inl hlt2, rfl, HSW, HP3, HS2, Lib.hid rfl, HMW⟩
        · rw [decide_eq_false hxy] at HLL
          have HS2 := Lib.hid (hI.out.stop fun c hc hh => by
            have := hmax.out c hc hh
            rw [hy] at this
            rw [hx]
            omega)
          clear hI q1 q2 hx hy hch
          go_wp2
          refine wp_region_wo (by kernel_rfl) (by kernel_rfl) ?_
          repeat (go_big_quiet_step ((go_at_call 74; exact says_wo (HLL.out _))))
          refine wpQuiet_nil ?_
          rintro _ ⟨⟨w4, hw4⟩, rfl⟩
          rename World => w4
          have HR4 := Lib.hid (HR3.out.ex (by omega) hw4)
          have HM4 := Lib.hid (HM3.out.trans (Mo1.of hw4))
          clear k1 k2
          go_wp2
          go_end0
          exact ⟨rfl, Lib.hid ⟨G, HR4.out, hP.out, HS2.out⟩, HM4⟩
    · have HS2 := Lib.hid (hI.out.stop fun c hc hh => by omega)
      clear hI
      go_wp2
      go_end0
      exact ⟨rfl, Lib.hid ⟨G, hR.out, hP.out, HS2.out⟩, hm⟩

end Go.Proofs.YthlnbomapfjphaaDoor

namespace Go.Proofs.YthlnbomapfjphaaDoor
open Go.RowKit
open So

set_option maxRecDepth 100000 in
set_option maxHeartbeats 2000000 in
theorem so16_heap (F : Nat → Int) (g N cap a b : Nat) (w : World) (hN : N ≤ 4096) (hab : a < b) (hb : b ≤ N) (hF : RowN .u16 w g N F) :
    Calls Tryd.prog 69 #[.slice (some ⟨g, 0, none⟩) N cap, .int .i64 (a : Int), .int .i64 (b : Int)] w (so16_To a b g N F (Sd a b) w) := by
  obtain ⟨hi, hhi⟩ : ∃ hi, b - a = hi := ⟨_, rfl⟩
  have hhz : (b : Int) - (a : Int) = (hi : Int) := by omega
  obtain ⟨q, hqq⟩ : ∃ q, (hi - 1) / 2 = q := ⟨_, rfl⟩
  have HQ : Hid (((hi : Int) - 1) / 2 = (q : Int)) := Lib.hid (by omega)
  have hqh : q < hi := by omega
  have hbe : a + hi = b := by omega
  have HF := Lib.hid hF
  have HS1 := Lib.hid fun F lo hi w h1 h2 h3 h4 => so16_sift F g N cap lo hi a w hN h1 h2 h3 h4 (by omega)
  have HP0 : Hid (Hp a (q + 1) hi F) := Lib.hid fun i h1 c hc hh => by omega
  clear hF hhi hqq
  go_enter Tryd.func69, Tryd.ntmps69
  go_wp2
  go_loopg [9] (q + 1) (fun k v9 wr => ∃ (m : Nat) (H : Nat → Int), m ≤ hi ∧ v9 = .int .i64 ((m : Int) - 1) ∧ Hid (RowN .u16 wr g N H) ∧ Hid (Pm a b F H) ∧ Hid (Hp a m hi H) ∧ Hid (k = m) ∧ Hid (Mo1 g w wr))
  case atStart => exact ⟨q + 1, F, by omega, by rw [HQ.out]; go_num, HF, Lib.hid (Pm.refl _ _ _), HP0, Lib.hid rfl, Lib.hid (Mo1.refl _ _)⟩
  case round =>
    obtain ⟨m, H, hm1, rfl, hR, hP, hH, hk, hm⟩ := hrel
    clear HF HP0
    by_cases hlt : m = 0
    · subst hlt
      have HPo := Lib.hid (Po.start hH.out)
      have hneg : ((0 : Nat) : Int) - 1 = -1 := by omega
      clear hH
      go_wp2
      go_loopg [10] hi (fun k v10 wr => ∃ (m : Nat) (H : Nat → Int), m ≤ hi ∧ v10 = .int .i64 ((m : Int) - 1) ∧ Hid (RowN .u16 wr g N H) ∧ Hid (Pm a b F H) ∧ Hid (Po a m hi H) ∧ Hid (k = m) ∧ Hid (Mo1 g w wr))
      case atStart => exact ⟨hi, H, by omega, by go_num, hR, hP, HPo, Lib.hid rfl, hm⟩
      case round =>
        obtain ⟨m, G, hm2, rfl, hR2, hP2, hPo, hk2, hmm⟩ := hrel
        clear HPo hR hP hm
        by_cases hlt2 : m = 0
        · subst hlt2
          have HD := Lib.hid hPo.out.done
          rw [hbe] at HD
          clear hPo
          go_wp2
          go_end0
          exact ⟨rfl, Lib.hid ⟨G, hR2.out, hP2.out, HD.out⟩, hmm⟩
        · obtain ⟨n, rfl⟩ : ∃ n, m = n + 1 := ⟨m - 1, by omega⟩
          have hz : ((n + 1 : Nat) : Int) - 1 = (n : Int) := by omega
          obtain ⟨x, hx⟩ : ∃ x, G a = x := ⟨_, rfl⟩
          obtain ⟨y, hy⟩ : ∃ y, G (a + n) = y := ⟨_, rfl⟩
          have c1 : wr.cell? ⟨g, a, none⟩ = some (.int .u16 x) := by rw [← hx]; exact hR2.out.1 a (by omega)
          have c2 : wr.cell? ⟨g, a + n, none⟩ = some (.int .u16 y) := by rw [← hy]; exact hR2.out.1 (a + n) (by omega)
          have f1 := hR2.out.2 a
          have f2 := hR2.out.2 (a + n)
          have c3 : (wr.setCell ⟨g, a, none⟩ (.int .u16 y)).cell? ⟨g, a + n, none⟩ = some (.int .u16 y) := by rw [← hy]; exact hR2.out.mid (by omega)
          have HSW : Hid (RowN .u16 (((wr.setCell ⟨g, a, none⟩ (.int .u16 y)).setCell ⟨g, a + n, none⟩ (.int .u16 x))).drew g N (fun k => G (sx a (a + n) k))) := Lib.hid (by
            rw [← hx, ← hy]
            exact (hR2.out.swap (by omega) (by omega)).ex (by omega) (Ex.refl _).drew)
          have HMW := Lib.hid (((hmm.out.set a (.int .u16 y)).set (a + n) (.int .u16 x)).trans (Mo1.of (Ex.refl _).drew))
          have HP3 := Lib.hid (hP2.out.trans (Pm.swap G (r := a) (s := a + n) (by omega) (by omega) (by omega) (by omega)))
          have HCL : Hid (∀ w3, RowN .u16 w3 g N (fun k => G (sx a (a + n) k)) → Mo1 g w w3 → Calls Tryd.prog 84 #[.slice (some ⟨g, 0, none⟩) N cap, .int .i64 0, .int .i64 (n : Int), .int .i64 (a : Int)] w3 (fun e w4 => e = .returned (.tuple #[]) ∧ Hid (∃ K, RowN .u16 w4 g N K ∧ Pm a b F K ∧ Po a n hi K) ∧ Hid (Mo1 g w w4))) := Lib.hid fun w3 h3 h4 => by
            refine (HS1.out _ 0 n w3 (by omega) (by omega) h3 hPo.out.half).mono ?_
            rintro e w4 ⟨rfl, hq, hm4⟩
            obtain ⟨K, k1, k2, k3⟩ := hq.out
            exact ⟨rfl, Lib.hid ⟨K, k1, HP3.out.trans (k2.mono (by omega) (by omega)), hPo.out.step k2 k3⟩, Lib.hid (h4.trans hm4.out)⟩
          clear hx hy
          go_wp2
          go_region
          all_goals go_wp2_with (go_at_call 84; (with_reducible refine (HCL.out _ HSW.out HMW.out).mono ?_); rintro e w4 ⟨rfl, hq4, hm4⟩)
          obtain ⟨K, k1, k2, k3⟩ := hq4.out
          have K1 := Lib.hid k1
          have K2 := Lib.hid k2
          have K3 := Lib.hid k3
          clear hq4 k1 k2 k3
          go_roundg n
          case measure => have := hk2.out; omega
          case rel => exact ⟨n, K, by omega, by go_num, K1, K2, K3, Lib.hid rfl, hm4⟩
    · obtain ⟨n, rfl⟩ : ∃ n, m = n + 1 := ⟨m - 1, by omega⟩
      have hz : ((n + 1 : Nat) : Int) - 1 = (n : Int) := by omega
      have HCL : Hid (Calls Tryd.prog 84 #[.slice (some ⟨g, 0, none⟩) N cap, .int .i64 (n : Int), .int .i64 (hi : Int), .int .i64 (a : Int)] wr (fun e w4 => e = .returned (.tuple #[]) ∧ Hid (∃ K, RowN .u16 w4 g N K ∧ Pm a b F K ∧ Hp a n hi K) ∧ Hid (Mo1 g w w4))) := Lib.hid (by
        refine (HS1.out _ n hi wr (by omega) (by omega) hR.out hH.out).mono ?_
        rintro e w4 ⟨rfl, hq, hm4⟩
        obtain ⟨K, k1, k2, k3⟩ := hq.out
        exact ⟨rfl, Lib.hid ⟨K, k1, hP.out.trans (k2.mono (by omega) (by omega)), k3⟩, Lib.hid (hm.out.trans hm4.out)⟩)
      go_wp2_with (go_at_call 84; (with_reducible refine (HCL.out).mono ?_); rintro e w4 ⟨rfl, hq4, hm4⟩)
      obtain ⟨K, k1, k2, k3⟩ := hq4.out
      have K1 := Lib.hid k1
      have K2 := Lib.hid k2
      have K3 := Lib.hid k3
      clear hq4 k1 k2 k3
      go_roundg n
      case measure => have := hk.out; omega
      case rel => exact ⟨n, K, by omega, by go_num, K1, K2, K3, Lib.hid rfl, hm4⟩

end Go.Proofs.YthlnbomapfjphaaDoor

namespace Go.Proofs.YthlnbomapfjphaaDoor
open Go.RowKit
open So

set_option maxRecDepth 100000 in
set_option maxHeartbeats 2000000 in
theorem so16_reverse (F : Nat → Int) (g N cap a b : Nat) (w : World) (hN : N ≤ 4096) (hab : a < b) (hb : b ≤ N) (hF : RowN .u16 w g N F) :
    Calls Tryd.prog 72 #[.slice (some ⟨g, 0, none⟩) N cap, .int .i64 (a : Int), .int .i64 (b : Int)] w (so16_To a b g N F (fun _ => True) w) := by
  have HF := Lib.hid hF
  clear hF
  go_enter Tryd.func72, Tryd.ntmps72
  go_wp2
  go_loopg [6, 7] b (fun k v6 v7 wr => ∃ (i j : Nat) (H : Nat → Int), a ≤ i ∧ j < b ∧ i ≤ j + 1 ∧ v6 = .int .i64 (i : Int) ∧ v7 = .int .i64 (j : Int) ∧ Hid (RowN .u16 wr g N H) ∧ Hid (Pm a b F H) ∧ Hid (k = j + 1 - i ∨ k = b) ∧ Hid (Mo1 g w wr))
  case atStart => exact ⟨a, b - 1, F, by omega, by omega, by omega, rfl, by go_num, HF, Lib.hid (Pm.refl _ _ _), Lib.hid (.inr rfl), Lib.hid (Mo1.refl _ _)⟩
  case round =>
    obtain ⟨i, j, H, hi, hj, hij, rfl, rfl, hR, hP, hk, hm⟩ := hrel
    clear HF
    by_cases hlt : i < j
    · obtain ⟨n, rfl⟩ : ∃ n, j = n + 1 := ⟨j - 1, by omega⟩
      have HP3 := Lib.hid (hP.out.trans (Pm.swap H (r := i) (s := n + 1) (by omega) (by omega) (by omega) (by omega)))
      obtain ⟨x, hx⟩ : ∃ x, H i = x := ⟨_, rfl⟩
      obtain ⟨y, hy⟩ : ∃ y, H (n + 1) = y := ⟨_, rfl⟩
      have c1 : wr.cell? ⟨g, i, none⟩ = some (.int .u16 x) := by rw [← hx]; exact hR.out.1 i (by omega)
      have c2 : wr.cell? ⟨g, (n + 1), none⟩ = some (.int .u16 y) := by rw [← hy]; exact hR.out.1 (n + 1) (by omega)
      have f1 := hR.out.2 i
      have f2 := hR.out.2 (n + 1)
      have c3 : (wr.setCell ⟨g, i, none⟩ (.int .u16 y)).cell? ⟨g, (n + 1), none⟩ = some (.int .u16 y) := by rw [← hy]; exact hR.out.mid (by omega)
      have HSW : Hid (RowN .u16 (((wr.setCell ⟨g, i, none⟩ (.int .u16 y)).setCell ⟨g, (n + 1), none⟩ (.int .u16 x))).drew g N (fun k => H (sx i (n + 1) k))) := Lib.hid (by
        rw [← hx, ← hy]
        exact (hR.out.swap (by omega) (by omega)).ex (by omega) (Ex.refl _).drew)
      have HMW := Lib.hid (((hm.out.set i (.int .u16 y)).set (n + 1) (.int .u16 x)).trans (Mo1.of (Ex.refl _).drew))
      clear hx hy
      go_wp2
      go_region
      all_goals go_wp2
      go_roundg (n + 1 - (i + 1))
      case measure => have := hk.out; omega
      case rel => exact ⟨i + 1, n, _, by omega, by omega, by omega, by go_num, by go_num, HSW, HP3, Lib.hid (.inl rfl), HMW⟩
    · go_wp2
      go_end0
      exact ⟨rfl, Lib.hid ⟨H, hR.out, hP.out, True.intro⟩, hm⟩

set_option maxRecDepth 100000 in
set_option maxHeartbeats 4000000 in
theorem so16_partEqual (F : Nat → Int) (g N cap a b p : Nat) (w : World) (hN : N ≤ 4096) (hap : a ≤ p) (hpb : p < b) (hb : b ≤ N) (hF : RowN .u16 w g N F) :
    Calls Tryd.prog 75 #[.slice (some ⟨g, 0, none⟩) N cap, .int .i64 (a : Int), .int .i64 (b : Int), .int .i64 (p : Int)] w (fun e w2 => ∃ m : Nat, e = .returned (.int .i64 (m : Int)) ∧ a < m ∧ m ≤ b ∧ Hid (∃ H, RowN .u16 w2 g N H ∧ Pm a b F H ∧ (∀ k, a ≤ k → k < m → H k ≤ F p) ∧ ∀ k, m ≤ k → k < b → F p < H k) ∧ Hid (Mo1 g w w2)) := by
  have HF := Lib.hid hF
  have HM0 := Lib.hid (Mo1.refl g w)
  have HP0 := Lib.hid (Pm.swap F (r := a) (s := p) (a := a) (b := b) (by omega) (by omega) (by omega) (by omega))
  have HG0 : Hid ((fun k => F (sx a p k)) a = F p) := Lib.hid (congrArg F (sx_r a p))
  obtain ⟨x, hx⟩ : ∃ x, F a = x := ⟨_, rfl⟩
  obtain ⟨y, hy⟩ : ∃ y, F p = y := ⟨_, rfl⟩
  have c1 : w.cell? ⟨g, a, none⟩ = some (.int .u16 x) := by rw [← hx]; exact HF.out.1 a (by omega)
  have c2 : w.cell? ⟨g, p, none⟩ = some (.int .u16 y) := by rw [← hy]; exact HF.out.1 p (by omega)
  have f1 := HF.out.2 a
  have f2 := HF.out.2 p
  have c3 : (w.setCell ⟨g, a, none⟩ (.int .u16 y)).cell? ⟨g, p, none⟩ = some (.int .u16 y) := by rw [← hy]; exact HF.out.mid (by omega)
  have HSW : Hid (RowN .u16 (((w.setCell ⟨g, a, none⟩ (.int .u16 y)).setCell ⟨g, p, none⟩ (.int .u16 x))).drew g N (fun k => F (sx a p k))) := Lib.hid (by
    rw [← hx, ← hy]
    exact (HF.out.swap (by omega) (by omega)).ex (by omega) (Ex.refl _).drew)
  have HMW := Lib.hid (((HM0.out.set a (.int .u16 y)).set p (.int .u16 x)).trans (Mo1.of (Ex.refl _).drew))
  clear hF hx hy
  go_enter Tryd.func75, Tryd.ntmps75
  go_wp2
  go_region
  all_goals go_wp2
  clear c1 c2 c3 f1 f2
  go_loopg [9, 10] (b + 1) (fun k v9 v10 wr => ∃ (i j : Nat) (G : Nat → Int), a < i ∧ i ≤ j + 1 ∧ j < b ∧ v9 = .int .i64 (i : Int) ∧ v10 = .int .i64 (j : Int) ∧ Hid (RowN .u16 wr g N G) ∧ Hid (Pm a b F G) ∧ Hid (Pq a b i j G) ∧ Hid (G a = F p) ∧ Hid (k = j + 1 - i ∨ k = b + 1) ∧ Hid (Mo1 g w wr))
  case atStart => exact ⟨a + 1, b - 1, _, by omega, by omega, by omega, by go_num, by go_num, HSW, HP0, Lib.hid ⟨fun k h1 h2 => by omega, fun k h1 h2 => by omega⟩, HG0, Lib.hid (.inr rfl), HMW⟩
  case round =>
    obtain ⟨i, j, G, hi, hij, hj, rfl, rfl, hR, hP, hQ, hG, hk, hm⟩ := hrel
    clear HSW HP0 HG0 HMW HF HM0
    rename World => wo
    have HWO := Lib.hid (Ex.refl wo)
    obtain ⟨pv, hpv⟩ : ∃ pv, G a = pv := ⟨_, rfl⟩
    go_upto_block 2 with fail
    go_cut [9] (fun v9 wx => ∃ i' : Nat, v9 = .int .i64 (i' : Int) ∧ i ≤ i' ∧ i' ≤ j + 1 ∧ Hid (Pq a b i' j G) ∧ Hid (j < i' ∨ G a < G i') ∧ Ex wo wx)
    case first =>
      go_wp2
      go_loopg [9] (j + 1 - i) (fun k v9 wr => ∃ i' : Nat, v9 = .int .i64 (i' : Int) ∧ i ≤ i' ∧ i' ≤ j + 1 ∧ Hid (Pq a b i' j G) ∧ Hid (k = j + 1 - i') ∧ Ex wo wr)
      case atStart => exact ⟨i, rfl, by omega, by omega, hQ, Lib.hid rfl, HWO.out⟩
      case round =>
        obtain ⟨i', rfl, hi1, hi2, hQ', hk', hx'⟩ := hrel
        by_cases hle : i' ≤ j
        · have z1 : decide ((i' : Int) ≤ (j : Int)) = true := decide_eq_true (by omega)
          obtain ⟨y, hy⟩ : ∃ y, G i' = y := ⟨_, rfl⟩
          have HRr := hR.out.ex (by omega) hx'
          have k1 := so_cell (show wr.cell? ⟨g, a, none⟩ = some (.int .u16 pv) by rw [← hpv]; exact HRr.1 a (by omega))
          have k2 := so_cell (show wr.cell? ⟨g, i', none⟩ = some (.int .u16 y) by rw [← hy]; exact HRr.1 i' (by omega))
          have HLL := Lib.hid fun w => so16_less pv y w
          by_cases hxy : pv < y
          · rw [decide_eq_true hxy] at HLL
            have HE : Hid (j < i' ∨ G a < G i') := Lib.hid (.inr (by rw [hpv, hy]; exact hxy))
            clear hy HRr
            go_wp2
            refine wp_region_wo (by kernel_rfl) (by kernel_rfl) ?_
            repeat (go_big_quiet_step ((go_at_call 74; exact says_wo (HLL.out _))))
            refine wpQuiet_nil ?_
            rintro _ ⟨⟨w3, hw3⟩, rfl⟩
            clear k1 k2
            go_wp2
            go_meet
            exact ⟨i', rfl, hi1, hi2, hQ', HE, hx'.trans hw3⟩
          · rw [decide_eq_false hxy] at HLL
            have HQ2 : Hid (Pq a b (i' + 1) j G) := Lib.hid ⟨fun k h1 h2 => by
              by_cases e : k = i'
              · rw [e, hpv, hy]; omega
              · exact hQ'.out.low k h1 (by omega), hQ'.out.high⟩
            clear hy HRr
            go_wp2
            refine wp_region_wo (by kernel_rfl) (by kernel_rfl) ?_
            repeat (go_big_quiet_step ((go_at_call 74; exact says_wo (HLL.out _))))
            refine wpQuiet_nil ?_
            rintro _ ⟨⟨w3, hw3⟩, rfl⟩
            clear k1 k2
            go_wp2
            go_roundg (j + 1 - (i' + 1))
            case measure => have := hk'.out; omega
            case rel => exact ⟨i' + 1, by go_num, by omega, by omega, HQ2, Lib.hid rfl, hx'.trans hw3⟩
        · have z1 : decide ((i' : Int) ≤ (j : Int)) = false := decide_eq_false (by omega)
          have HE : Hid (j < i' ∨ G a < G i') := Lib.hid (.inl (by omega))
          go_wp2
          refine wp_region_wo (by kernel_rfl) (by kernel_rfl) ?_
          repeat (go_big_quiet_step (fail))
          refine wpQuiet_nil ?_
          rintro _ ⟨⟨w3, hw3⟩, rfl⟩
          go_wp2
          go_meet
          exact ⟨i', rfl, hi1, hi2, hQ', HE, hx'.trans hw3⟩
    case rest =>
    obtain ⟨i', rfl, hi1, hi2, hQ', HE, hxo⟩ := hcut
    rename World => w4
    clear hQ
    go_upto_block 4 with fail
    go_cut [10] (fun v10 wx => ∃ j' : Nat, v10 = .int .i64 (j' : Int) ∧ i' ≤ j' + 1 ∧ j' ≤ j ∧ Hid (Pq a b i' j' G) ∧ Hid (j' < i' ∨ (G a < G i' ∧ G j' ≤ G a)) ∧ Ex wo wx)
    case first =>
      go_wp2
      go_loopg [10] (j + 1) (fun k v10 wr => ∃ j' : Nat, v10 = .int .i64 (j' : Int) ∧ i' ≤ j' + 1 ∧ j' ≤ j ∧ Hid (Pq a b i' j' G) ∧ Hid (k = j' + 1) ∧ Ex wo wr)
      case atStart => exact ⟨j, rfl, by omega, by omega, hQ', Lib.hid rfl, hxo⟩
      case round =>
        obtain ⟨j', rfl, hj1, hj2, hQ2, hk', hx'⟩ := hrel
        by_cases hle : i' ≤ j'
        · obtain ⟨n, rfl⟩ : ∃ n, j' = n + 1 := ⟨j' - 1, by omega⟩
          have z1 : decide ((i' : Int) ≤ ((n + 1 : Nat) : Int)) = true := decide_eq_true (by omega)
          have z2 : decide ((i' : Int) ≤ (n : Int) + 1) = true := decide_eq_true (by omega)
          obtain ⟨y, hy⟩ : ∃ y, G (n + 1) = y := ⟨_, rfl⟩
          have HRr := hR.out.ex (by omega) hx'
          have k1 := so_cell (show wr.cell? ⟨g, a, none⟩ = some (.int .u16 pv) by rw [← hpv]; exact HRr.1 a (by omega))
          have k2 := so_cell (show wr.cell? ⟨g, n + 1, none⟩ = some (.int .u16 y) by rw [← hy]; exact HRr.1 (n + 1) (by omega))
          have HLL := Lib.hid fun w => so16_less pv y w
          by_cases hxy : pv < y
          · rw [decide_eq_true hxy] at HLL
            have HQ3 : Hid (Pq a b i' n G) := Lib.hid ⟨hQ2.out.low, fun k h1 h2 => by
              by_cases e : k = n + 1
              · rw [e, hpv, hy]; exact hxy
              · exact hQ2.out.high k (by omega) h2⟩
            clear hy HRr
            go_wp2
            refine wp_region_wo (by kernel_rfl) (by kernel_rfl) ?_
            repeat (go_big_quiet_step ((go_at_call 74; exact says_wo (HLL.out _))))
            refine wpQuiet_nil ?_
            rintro _ ⟨⟨w3, hw3⟩, rfl⟩
            clear k1 k2
            go_wp2
            go_roundg (n + 1)
            case measure => have := hk'.out; omega
            case rel => exact ⟨n, by go_num, by omega, by omega, HQ3, Lib.hid rfl, hx'.trans hw3⟩
          · rw [decide_eq_false hxy] at HLL
            have HE2 : Hid (n + 1 < i' ∨ (G a < G i' ∧ G (n + 1) ≤ G a)) := Lib.hid (.inr ⟨HE.out.resolve_left (by omega), by rw [hpv, hy]; omega⟩)
            clear hy HRr
            go_wp2
            refine wp_region_wo (by kernel_rfl) (by kernel_rfl) ?_
            repeat (go_big_quiet_step ((go_at_call 74; exact says_wo (HLL.out _))))
            refine wpQuiet_nil ?_
            rintro _ ⟨⟨w3, hw3⟩, rfl⟩
            clear k1 k2
            go_wp2
            go_meet
            exact ⟨n + 1, rfl, by omega, hj2, hQ2, HE2, hx'.trans hw3⟩
        · have z1 : decide ((i' : Int) ≤ (j' : Int)) = false := decide_eq_false (by omega)
          have HE2 : Hid (j' < i' ∨ (G a < G i' ∧ G j' ≤ G a)) := Lib.hid (.inl (by omega))
          go_wp2
          refine wp_region_wo (by kernel_rfl) (by kernel_rfl) ?_
          repeat (go_big_quiet_step (fail))
          refine wpQuiet_nil ?_
          rintro _ ⟨⟨w3, hw3⟩, rfl⟩
          go_wp2
          go_meet
          exact ⟨j', rfl, by omega, hj2, hQ2, HE2, hx'.trans hw3⟩
    case rest =>
    obtain ⟨j', rfl, hi3, hj2, hQ', HE, hxo⟩ := hcut
    rename World => w5
    have HR5 := Lib.hid (hR.out.ex (by omega) hxo)
    have HM5 := Lib.hid (hm.out.trans (Mo1.of hxo))
    clear hR hm HWO
    by_cases hlt : j' < i'
    · have HFIN : Hid (∃ H, RowN .u16 w5 g N H ∧ Pm a b F H ∧ (∀ k, a ≤ k → k < i' → H k ≤ F p) ∧ ∀ k, i' ≤ k → k < b → F p < H k) := Lib.hid ⟨G, HR5.out, hP.out, fun k h1 h2 => by
        rw [← hG.out]
        by_cases e : k = a
        · rw [e]; exact Int.le_refl _
        · exact hQ'.out.low k (by omega) h2, fun k h1 h2 => by rw [← hG.out]; exact hQ'.out.high k (by omega) h2⟩
      go_wp2
      go_ret
      exact ⟨i', rfl, by omega, by omega, HFIN, HM5⟩
    · have hE2 : G a < G i' ∧ G j' ≤ G a := by
        rcases HE.out with h | h
        · omega
        · exact h
      obtain ⟨n, rfl⟩ : ∃ n, j' = n + 1 := ⟨j' - 1, by omega⟩
      have hne : i' ≠ n + 1 := fun e => by rw [e] at hE2; omega
      have HQ3 := Lib.hid (hQ'.out.swap (by omega) (by omega) hE2.1 hE2.2)
      have HG3 : Hid ((fun k => G (sx i' (n + 1) k)) a = F p) := Lib.hid (by
        show G (sx i' (n + 1) a) = F p
        rw [sx_o (by omega) (by omega)]
        exact hG.out)
      have HP3 := Lib.hid (hP.out.trans (Pm.swap G (r := i') (s := n + 1) (by omega) (by omega) (by omega) (by omega)))
      obtain ⟨x, hx⟩ : ∃ x, G i' = x := ⟨_, rfl⟩
      obtain ⟨y, hy⟩ : ∃ y, G (n + 1) = y := ⟨_, rfl⟩
      have c1 : w5.cell? ⟨g, i', none⟩ = some (.int .u16 x) := by rw [← hx]; exact HR5.out.1 i' (by omega)
      have c2 : w5.cell? ⟨g, (n + 1), none⟩ = some (.int .u16 y) := by rw [← hy]; exact HR5.out.1 (n + 1) (by omega)
      have f1 := HR5.out.2 i'
      have f2 := HR5.out.2 (n + 1)
      have c3 : (w5.setCell ⟨g, i', none⟩ (.int .u16 y)).cell? ⟨g, (n + 1), none⟩ = some (.int .u16 y) := by rw [← hy]; exact HR5.out.mid (by omega)
      have HSW : Hid (RowN .u16 (((w5.setCell ⟨g, i', none⟩ (.int .u16 y)).setCell ⟨g, (n + 1), none⟩ (.int .u16 x))).drew g N (fun k => G (sx i' (n + 1) k))) := Lib.hid (by
        rw [← hx, ← hy]
        exact (HR5.out.swap (by omega) (by omega)).ex (by omega) (Ex.refl _).drew)
      have HMW := Lib.hid (((HM5.out.set i' (.int .u16 y)).set (n + 1) (.int .u16 x)).trans (Mo1.of (Ex.refl _).drew))
      clear hx hy hE2 hpv
      go_wp2
      go_region
      all_goals go_wp2
      go_roundg (n + 1 - (i' + 1))
      case measure => have := hk.out; omega
      case rel => exact ⟨i' + 1, n, _, by omega, by omega, by omega, by go_num, by go_num, HSW, HP3, HQ3, HG3, Lib.hid (.inl rfl), HMW⟩

end Go.Proofs.YthlnbomapfjphaaDoor

namespace Go.Proofs.YthlnbomapfjphaaDoor
open Go.RowKit
open So

set_option maxRecDepth 100000 in
set_option maxHeartbeats 4000000 in
theorem so16_part (F : Nat → Int) (g N cap a b p : Nat) (w : World) (hN : N ≤ 4096) (hap : a ≤ p) (hpb : p < b) (hb : b ≤ N) (hF : RowN .u16 w g N F) :
    Calls Tryd.prog 76 #[.slice (some ⟨g, 0, none⟩) N cap, .int .i64 (a : Int), .int .i64 (b : Int), .int .i64 (p : Int)] w (fun e w2 => ∃ (m : Nat) (t : Bool), e = .returned (.tuple #[.int .i64 (m : Int), .bool t]) ∧ a ≤ m ∧ m < b ∧ Hid (∃ H, RowN .u16 w2 g N H ∧ Pm a b F H ∧ (∀ k, a ≤ k → k < m → H k < H m) ∧ ∀ k, m < k → k < b → H m ≤ H k) ∧ Hid (Mo1 g w w2)) := by
  obtain ⟨jb, rfl⟩ : ∃ j, b = j + 1 := ⟨b - 1, by omega⟩
  have HF := Lib.hid hF
  have HM0 := Lib.hid (Mo1.refl g w)
  have HP0 := Lib.hid (Pm.swap F (r := a) (s := p) (a := a) (b := jb + 1) (by omega) (by omega) (by omega) (by omega))
  obtain ⟨x, hx⟩ : ∃ x, F a = x := ⟨_, rfl⟩
  obtain ⟨y, hy⟩ : ∃ y, F p = y := ⟨_, rfl⟩
  have c1 : w.cell? ⟨g, a, none⟩ = some (.int .u16 x) := by rw [← hx]; exact HF.out.1 a (by omega)
  have c2 : w.cell? ⟨g, p, none⟩ = some (.int .u16 y) := by rw [← hy]; exact HF.out.1 p (by omega)
  have f1 := HF.out.2 a
  have f2 := HF.out.2 p
  have c3 : (w.setCell ⟨g, a, none⟩ (.int .u16 y)).cell? ⟨g, p, none⟩ = some (.int .u16 y) := by rw [← hy]; exact HF.out.mid (by omega)
  have HSW : Hid (RowN .u16 (((w.setCell ⟨g, a, none⟩ (.int .u16 y)).setCell ⟨g, p, none⟩ (.int .u16 x))).drew g N (fun k => F (sx a p k))) := Lib.hid (by
    rw [← hx, ← hy]
    exact (HF.out.swap (by omega) (by omega)).ex (by omega) (Ex.refl _).drew)
  have HMW := Lib.hid (((HM0.out.set a (.int .u16 y)).set p (.int .u16 x)).trans (Mo1.of (Ex.refl _).drew))
  clear hF hx hy
  go_enter Tryd.func76, Tryd.ntmps76
  go_wp2
  go_region
  all_goals go_upto_block 0 with fail
  clear c1 c2 c3 f1 f2
  obtain ⟨w1, hw1⟩ : ∃ w1, ((w.setCell ⟨g, a, none⟩ (.int .u16 y)).setCell ⟨g, p, none⟩ (.int .u16 x)).drew = w1 := ⟨_, rfl⟩
  rw [hw1] at HSW HMW
  rw [hw1]
  obtain ⟨G, hG⟩ : ∃ G, (fun k => F (sx a p k)) = G := ⟨_, rfl⟩
  rw [hG] at HSW HP0
  clear hw1 hG HF HM0
  have hR := HSW
  have hP := HP0
  have hm := HMW
  have hQ : Hid (Pa a (jb + 1) (a + 1) jb G) := Lib.hid ⟨fun k h1 h2 => by omega, fun k h1 h2 => by omega⟩
  clear HSW HP0 HMW
  rename World => wo
  have HWO := Lib.hid (Ex.refl wo)
  obtain ⟨pv, hpv⟩ : ∃ pv, G a = pv := ⟨_, rfl⟩
  go_upto_block 0 with fail
  go_cut [10] (fun v10 wx => ∃ i' : Nat, v10 = .int .i64 (i' : Int) ∧ (a + 1) ≤ i' ∧ i' ≤ jb + 1 ∧ Hid (Pa a (jb + 1) i' jb G) ∧ Hid (jb < i' ∨ G a ≤ G i') ∧ Ex wo wx)
  case first =>
    go_wp2
    go_loopg [10] (jb + 1 - (a + 1)) (fun k v10 wr => ∃ i' : Nat, v10 = .int .i64 (i' : Int) ∧ (a + 1) ≤ i' ∧ i' ≤ jb + 1 ∧ Hid (Pa a (jb + 1) i' jb G) ∧ Hid (k = jb + 1 - i') ∧ Ex wo wr)
    case atStart => exact ⟨(a + 1), by first | rfl | go_num, by omega, by omega, hQ, Lib.hid rfl, HWO.out⟩
    case round =>
      obtain ⟨i', rfl, hi1, hi2, hQ', hk', hx'⟩ := hrel
      by_cases hle : i' ≤ jb
      · have z1 : decide ((i' : Int) ≤ (jb : Int)) = true := decide_eq_true (by omega)
        obtain ⟨y, hy⟩ : ∃ y, G i' = y := ⟨_, rfl⟩
        have HRr := hR.out.ex (by omega) hx'
        have k1 := so_cell (show wr.cell? ⟨g, a, none⟩ = some (.int .u16 pv) by rw [← hpv]; exact HRr.1 a (by omega))
        have k2 := so_cell (show wr.cell? ⟨g, i', none⟩ = some (.int .u16 y) by rw [← hy]; exact HRr.1 i' (by omega))
        have HLL := Lib.hid fun w => so16_less y pv w
        by_cases hxy : y < pv
        · rw [decide_eq_true hxy] at HLL
          have HQ2 : Hid (Pa a (jb + 1) (i' + 1) jb G) := Lib.hid ⟨fun k h1 h2 => by
            by_cases e : k = i'
            · rw [e, hpv, hy]; exact hxy
            · exact hQ'.out.low k h1 (by omega), hQ'.out.high⟩
          clear hy HRr
          go_wp2
          refine wp_region_wo (by kernel_rfl) (by kernel_rfl) ?_
          repeat (go_big_quiet_step ((go_at_call 74; exact says_wo (HLL.out _))))
          refine wpQuiet_nil ?_
          rintro _ ⟨⟨w3, hw3⟩, rfl⟩
          clear k1 k2
          go_wp2
          go_roundg (jb + 1 - (i' + 1))
          case measure => have := hk'.out; omega
          case rel => exact ⟨i' + 1, by go_num, by omega, by omega, HQ2, Lib.hid rfl, hx'.trans hw3⟩
        · rw [decide_eq_false hxy] at HLL
          have HE : Hid (jb < i' ∨ G a ≤ G i') := Lib.hid (.inr (by rw [hpv, hy]; omega))
          clear hy HRr
          go_wp2
          refine wp_region_wo (by kernel_rfl) (by kernel_rfl) ?_
          repeat (go_big_quiet_step ((go_at_call 74; exact says_wo (HLL.out _))))
          refine wpQuiet_nil ?_
          rintro _ ⟨⟨w3, hw3⟩, rfl⟩
          clear k1 k2
          go_wp2
          go_meet
          exact ⟨i', rfl, hi1, hi2, hQ', HE, hx'.trans hw3⟩
      · have z1 : decide ((i' : Int) ≤ (jb : Int)) = false := decide_eq_false (by omega)
        have HE : Hid (jb < i' ∨ G a ≤ G i') := Lib.hid (.inl (by omega))
        go_wp2
        refine wp_region_wo (by kernel_rfl) (by kernel_rfl) ?_
        repeat (go_big_quiet_step (fail))
        refine wpQuiet_nil ?_
        rintro _ ⟨⟨w3, hw3⟩, rfl⟩
        go_wp2
        go_meet
        exact ⟨i', rfl, hi1, hi2, hQ', HE, hx'.trans hw3⟩
  case rest =>
  obtain ⟨i', rfl, hi1, hi2, hQ', HE, hxo⟩ := hcut
  rename World => w4
  clear hQ
  go_upto_block 2 with fail
  go_cut [11] (fun v11 wx => ∃ j' : Nat, v11 = .int .i64 (j' : Int) ∧ i' ≤ j' + 1 ∧ j' ≤ jb ∧ Hid (Pa a (jb + 1) i' j' G) ∧ Hid (j' < i' ∨ (G a ≤ G i' ∧ G j' < G a)) ∧ Ex wo wx)
  case first =>
    go_wp2
    go_loopg [11] (jb + 1) (fun k v11 wr => ∃ j' : Nat, v11 = .int .i64 (j' : Int) ∧ i' ≤ j' + 1 ∧ j' ≤ jb ∧ Hid (Pa a (jb + 1) i' j' G) ∧ Hid (k = j' + 1) ∧ Ex wo wr)
    case atStart => exact ⟨jb, by first | rfl | go_num, by omega, by omega, hQ', Lib.hid rfl, hxo⟩
    case round =>
      obtain ⟨j', rfl, hj1, hj2, hQ2, hk', hx'⟩ := hrel
      by_cases hle : i' ≤ j'
      · obtain ⟨n, rfl⟩ : ∃ n, j' = n + 1 := ⟨j' - 1, by omega⟩
        have z1 : decide ((i' : Int) ≤ ((n + 1 : Nat) : Int)) = true := decide_eq_true (by omega)
        have z2 : decide ((i' : Int) ≤ (n : Int) + 1) = true := decide_eq_true (by omega)
        obtain ⟨y, hy⟩ : ∃ y, G (n + 1) = y := ⟨_, rfl⟩
        have HRr := hR.out.ex (by omega) hx'
        have k1 := so_cell (show wr.cell? ⟨g, a, none⟩ = some (.int .u16 pv) by rw [← hpv]; exact HRr.1 a (by omega))
        have k2 := so_cell (show wr.cell? ⟨g, n + 1, none⟩ = some (.int .u16 y) by rw [← hy]; exact HRr.1 (n + 1) (by omega))
        have HLL := Lib.hid fun w => so16_less y pv w
        by_cases hxy : y < pv
        · rw [decide_eq_true hxy] at HLL
          have HE2 : Hid (n + 1 < i' ∨ (G a ≤ G i' ∧ G (n + 1) < G a)) := Lib.hid (.inr ⟨HE.out.resolve_left (by omega), by rw [hpv, hy]; exact hxy⟩)
          clear hy HRr
          go_wp2
          refine wp_region_wo (by kernel_rfl) (by kernel_rfl) ?_
          repeat (go_big_quiet_step ((go_at_call 74; exact says_wo (HLL.out _))))
          refine wpQuiet_nil ?_
          rintro _ ⟨⟨w3, hw3⟩, rfl⟩
          clear k1 k2
          go_wp2
          go_meet
          exact ⟨n + 1, rfl, by omega, hj2, hQ2, HE2, hx'.trans hw3⟩
        · rw [decide_eq_false hxy] at HLL
          have HQ3 : Hid (Pa a (jb + 1) i' n G) := Lib.hid ⟨hQ2.out.low, fun k h1 h2 => by
            by_cases e : k = n + 1
            · rw [e, hpv, hy]; omega
            · exact hQ2.out.high k (by omega) h2⟩
          clear hy HRr
          go_wp2
          refine wp_region_wo (by kernel_rfl) (by kernel_rfl) ?_
          repeat (go_big_quiet_step ((go_at_call 74; exact says_wo (HLL.out _))))
          refine wpQuiet_nil ?_
          rintro _ ⟨⟨w3, hw3⟩, rfl⟩
          clear k1 k2
          go_wp2
          go_roundg (n + 1)
          case measure => have := hk'.out; omega
          case rel => exact ⟨n, by go_num, by omega, by omega, HQ3, Lib.hid rfl, hx'.trans hw3⟩
      · have z1 : decide ((i' : Int) ≤ (j' : Int)) = false := decide_eq_false (by omega)
        have HE2 : Hid (j' < i' ∨ (G a ≤ G i' ∧ G j' < G a)) := Lib.hid (.inl (by omega))
        go_wp2
        refine wp_region_wo (by kernel_rfl) (by kernel_rfl) ?_
        repeat (go_big_quiet_step (fail))
        refine wpQuiet_nil ?_
        rintro _ ⟨⟨w3, hw3⟩, rfl⟩
        go_wp2
        go_meet
        exact ⟨j', rfl, by omega, hj2, hQ2, HE2, hx'.trans hw3⟩
  case rest =>
  obtain ⟨j', rfl, hi3, hj2, hQ', HE, hxo⟩ := hcut
  rename World => w5
  have HR5 := Lib.hid (hR.out.ex (by omega) hxo)
  have HM5 := Lib.hid (hm.out.trans (Mo1.of hxo))
  clear hR hm HWO
  by_cases hlt : j' < i'
  · skip
    have HPE := Lib.hid (hP.out.trans (Pm.swap G (r := j') (s := a) (by omega) (by omega) (by omega) (by omega)))
    have HDN := Lib.hid (hQ'.out.done (by omega) (by omega))
    obtain ⟨x, hx⟩ : ∃ x, G j' = x := ⟨_, rfl⟩
    obtain ⟨y, hy⟩ : ∃ y, G a = y := ⟨_, rfl⟩
    have c1 : w5.cell? ⟨g, j', none⟩ = some (.int .u16 x) := by rw [← hx]; exact HR5.out.1 j' (by omega)
    have c2 : w5.cell? ⟨g, a, none⟩ = some (.int .u16 y) := by rw [← hy]; exact HR5.out.1 a (by omega)
    have f1 := HR5.out.2 j'
    have f2 := HR5.out.2 a
    have c3 : (w5.setCell ⟨g, j', none⟩ (.int .u16 y)).cell? ⟨g, a, none⟩ = some (.int .u16 y) := by rw [← hy]; exact HR5.out.mid (by omega)
    have HSW : Hid (RowN .u16 (((w5.setCell ⟨g, j', none⟩ (.int .u16 y)).setCell ⟨g, a, none⟩ (.int .u16 x))).drew g N (fun k => G (sx j' a k))) := Lib.hid (by
      rw [← hx, ← hy]
      exact (HR5.out.swap (by omega) (by omega)).ex (by omega) (Ex.refl _).drew)
    have HMW := Lib.hid (((HM5.out.set j' (.int .u16 y)).set a (.int .u16 x)).trans (Mo1.of (Ex.refl _).drew))
    have HFIN : Hid (∃ H, RowN .u16 (((w5.setCell ⟨g, j', none⟩ (.int .u16 y)).setCell ⟨g, a, none⟩ (.int .u16 x))).drew g N H ∧ Pm a (jb + 1) F H ∧ (∀ k, a ≤ k → k < j' → H k < H j') ∧ ∀ k, j' < k → k < (jb + 1) → H j' ≤ H k) := Lib.hid ⟨_, HSW.out, HPE.out, HDN.out.1, HDN.out.2⟩
    clear hx hy hpv
    go_wp2
    go_region
    all_goals go_wp2
    go_ret2
    exact ⟨j', _, rfl, by omega, by omega, HFIN, HMW⟩
  · have hE2 : G a ≤ G i' ∧ G j' < G a := HE.out.resolve_left hlt
    have hne : i' ≠ j' := fun e => by rw [e] at hE2; omega
    obtain ⟨n, rfl⟩ : ∃ n, j' = n + 1 := ⟨j' - 1, by omega⟩
    have HQ3 := Lib.hid (hQ'.out.swap (by omega) (by omega) hE2.1 hE2.2)
    have HP3 := Lib.hid (hP.out.trans (Pm.swap G (r := i') (s := n + 1) (by omega) (by omega) (by omega) (by omega)))
    obtain ⟨x, hx⟩ : ∃ x, G i' = x := ⟨_, rfl⟩
    obtain ⟨y, hy⟩ : ∃ y, G (n + 1) = y := ⟨_, rfl⟩
    have c1 : w5.cell? ⟨g, i', none⟩ = some (.int .u16 x) := by rw [← hx]; exact HR5.out.1 i' (by omega)
    have c2 : w5.cell? ⟨g, (n + 1), none⟩ = some (.int .u16 y) := by rw [← hy]; exact HR5.out.1 (n + 1) (by omega)
    have f1 := HR5.out.2 i'
    have f2 := HR5.out.2 (n + 1)
    have c3 : (w5.setCell ⟨g, i', none⟩ (.int .u16 y)).cell? ⟨g, (n + 1), none⟩ = some (.int .u16 y) := by rw [← hy]; exact HR5.out.mid (by omega)
    have HSW : Hid (RowN .u16 (((w5.setCell ⟨g, i', none⟩ (.int .u16 y)).setCell ⟨g, (n + 1), none⟩ (.int .u16 x))).drew g N (fun k => G (sx i' (n + 1) k))) := Lib.hid (by
      rw [← hx, ← hy]
      exact (HR5.out.swap (by omega) (by omega)).ex (by omega) (Ex.refl _).drew)
    have HMW := Lib.hid (((HM5.out.set i' (.int .u16 y)).set (n + 1) (.int .u16 x)).trans (Mo1.of (Ex.refl _).drew))
    clear hx hy hE2 hpv hP HR5 HM5
    go_wp2
    go_region
    all_goals go_wp2
    go_loopg [10, 11] (jb + 2) (fun k v10 v11 wr => ∃ (i j : Nat) (G : Nat → Int), a < i ∧ i ≤ j + 1 ∧ j < jb + 1 ∧ v10 = .int .i64 (i : Int) ∧ v11 = .int .i64 (j : Int) ∧ Hid (RowN .u16 wr g N G) ∧ Hid (Pm a (jb + 1) F G) ∧ Hid (Pa a (jb + 1) i j G) ∧ Hid (k = j + 1 - i ∨ k = jb + 2) ∧ Hid (Mo1 g w wr))
    case atStart => exact ⟨i' + 1, n, _, by omega, by omega, by omega, by go_num, by go_num, HSW, HP3, HQ3, Lib.hid (.inr rfl), HMW⟩
    case round =>
      clear hQ' HE hxo c1 c2 c3 f1 f2
      obtain ⟨i, j, G, hi, hij, hj, rfl, rfl, hR, hP, hQ, hk, hm⟩ := hrel
      clear HSW HP3 HQ3 HMW
      rename World => wo
      have HWO := Lib.hid (Ex.refl wo)
      obtain ⟨pv, hpv⟩ : ∃ pv, G a = pv := ⟨_, rfl⟩
      go_upto_block 6 with fail
      go_cut [10] (fun v10 wx => ∃ i' : Nat, v10 = .int .i64 (i' : Int) ∧ i ≤ i' ∧ i' ≤ j + 1 ∧ Hid (Pa a (jb + 1) i' j G) ∧ Hid (j < i' ∨ G a ≤ G i') ∧ Ex wo wx)
      case first =>
        go_wp2
        go_loopg [10] (j + 1 - i) (fun k v10 wr => ∃ i' : Nat, v10 = .int .i64 (i' : Int) ∧ i ≤ i' ∧ i' ≤ j + 1 ∧ Hid (Pa a (jb + 1) i' j G) ∧ Hid (k = j + 1 - i') ∧ Ex wo wr)
        case atStart => exact ⟨i, by first | rfl | go_num, by omega, by omega, hQ, Lib.hid rfl, HWO.out⟩
        case round =>
          obtain ⟨i', rfl, hi1, hi2, hQ', hk', hx'⟩ := hrel
          by_cases hle : i' ≤ j
          · have z1 : decide ((i' : Int) ≤ (j : Int)) = true := decide_eq_true (by omega)
            obtain ⟨y, hy⟩ : ∃ y, G i' = y := ⟨_, rfl⟩
            have HRr := hR.out.ex (by omega) hx'
            have k1 := so_cell (show wr.cell? ⟨g, a, none⟩ = some (.int .u16 pv) by rw [← hpv]; exact HRr.1 a (by omega))
            have k2 := so_cell (show wr.cell? ⟨g, i', none⟩ = some (.int .u16 y) by rw [← hy]; exact HRr.1 i' (by omega))
            have HLL := Lib.hid fun w => so16_less y pv w
            by_cases hxy : y < pv
            · rw [decide_eq_true hxy] at HLL
              have HQ2 : Hid (Pa a (jb + 1) (i' + 1) j G) := Lib.hid ⟨fun k h1 h2 => by
                by_cases e : k = i'
                · rw [e, hpv, hy]; exact hxy
                · exact hQ'.out.low k h1 (by omega), hQ'.out.high⟩
              clear hy HRr
              go_wp2
              refine wp_region_wo (by kernel_rfl) (by kernel_rfl) ?_
              repeat (go_big_quiet_step ((go_at_call 74; exact says_wo (HLL.out _))))
              refine wpQuiet_nil ?_
              rintro _ ⟨⟨w3, hw3⟩, rfl⟩
              clear k1 k2
              go_wp2
              go_roundg (j + 1 - (i' + 1))
              case measure => have := hk'.out; omega
              case rel => exact ⟨i' + 1, by go_num, by omega, by omega, HQ2, Lib.hid rfl, hx'.trans hw3⟩
            · rw [decide_eq_false hxy] at HLL
              have HE : Hid (j < i' ∨ G a ≤ G i') := Lib.hid (.inr (by rw [hpv, hy]; omega))
              clear hy HRr
              go_wp2
              refine wp_region_wo (by kernel_rfl) (by kernel_rfl) ?_
              repeat (go_big_quiet_step ((go_at_call 74; exact says_wo (HLL.out _))))
              refine wpQuiet_nil ?_
              rintro _ ⟨⟨w3, hw3⟩, rfl⟩
              clear k1 k2
              go_wp2
              go_meet
              exact ⟨i', rfl, hi1, hi2, hQ', HE, hx'.trans hw3⟩
          · have z1 : decide ((i' : Int) ≤ (j : Int)) = false := decide_eq_false (by omega)
            have HE : Hid (j < i' ∨ G a ≤ G i') := Lib.hid (.inl (by omega))
            go_wp2
            refine wp_region_wo (by kernel_rfl) (by kernel_rfl) ?_
            repeat (go_big_quiet_step (fail))
            refine wpQuiet_nil ?_
            rintro _ ⟨⟨w3, hw3⟩, rfl⟩
            go_wp2
            go_meet
            exact ⟨i', rfl, hi1, hi2, hQ', HE, hx'.trans hw3⟩
      case rest =>
      obtain ⟨i', rfl, hi1, hi2, hQ', HE, hxo⟩ := hcut
      rename World => w4
      clear hQ
      go_upto_block 8 with fail
      go_cut [11] (fun v11 wx => ∃ j' : Nat, v11 = .int .i64 (j' : Int) ∧ i' ≤ j' + 1 ∧ j' ≤ j ∧ Hid (Pa a (jb + 1) i' j' G) ∧ Hid (j' < i' ∨ (G a ≤ G i' ∧ G j' < G a)) ∧ Ex wo wx)
      case first =>
        go_wp2
        go_loopg [11] (j + 1) (fun k v11 wr => ∃ j' : Nat, v11 = .int .i64 (j' : Int) ∧ i' ≤ j' + 1 ∧ j' ≤ j ∧ Hid (Pa a (jb + 1) i' j' G) ∧ Hid (k = j' + 1) ∧ Ex wo wr)
        case atStart => exact ⟨j, by first | rfl | go_num, by omega, by omega, hQ', Lib.hid rfl, hxo⟩
        case round =>
          obtain ⟨j', rfl, hj1, hj2, hQ2, hk', hx'⟩ := hrel
          by_cases hle : i' ≤ j'
          · obtain ⟨n, rfl⟩ : ∃ n, j' = n + 1 := ⟨j' - 1, by omega⟩
            have z1 : decide ((i' : Int) ≤ ((n + 1 : Nat) : Int)) = true := decide_eq_true (by omega)
            have z2 : decide ((i' : Int) ≤ (n : Int) + 1) = true := decide_eq_true (by omega)
            obtain ⟨y, hy⟩ : ∃ y, G (n + 1) = y := ⟨_, rfl⟩
            have HRr := hR.out.ex (by omega) hx'
            have k1 := so_cell (show wr.cell? ⟨g, a, none⟩ = some (.int .u16 pv) by rw [← hpv]; exact HRr.1 a (by omega))
            have k2 := so_cell (show wr.cell? ⟨g, n + 1, none⟩ = some (.int .u16 y) by rw [← hy]; exact HRr.1 (n + 1) (by omega))
            have HLL := Lib.hid fun w => so16_less y pv w
            by_cases hxy : y < pv
            · rw [decide_eq_true hxy] at HLL
              have HE2 : Hid (n + 1 < i' ∨ (G a ≤ G i' ∧ G (n + 1) < G a)) := Lib.hid (.inr ⟨HE.out.resolve_left (by omega), by rw [hpv, hy]; exact hxy⟩)
              clear hy HRr
              go_wp2
              refine wp_region_wo (by kernel_rfl) (by kernel_rfl) ?_
              repeat (go_big_quiet_step ((go_at_call 74; exact says_wo (HLL.out _))))
              refine wpQuiet_nil ?_
              rintro _ ⟨⟨w3, hw3⟩, rfl⟩
              clear k1 k2
              go_wp2
              go_meet
              exact ⟨n + 1, rfl, by omega, hj2, hQ2, HE2, hx'.trans hw3⟩
            · rw [decide_eq_false hxy] at HLL
              have HQ3 : Hid (Pa a (jb + 1) i' n G) := Lib.hid ⟨hQ2.out.low, fun k h1 h2 => by
                by_cases e : k = n + 1
                · rw [e, hpv, hy]; omega
                · exact hQ2.out.high k (by omega) h2⟩
              clear hy HRr
              go_wp2
              refine wp_region_wo (by kernel_rfl) (by kernel_rfl) ?_
              repeat (go_big_quiet_step ((go_at_call 74; exact says_wo (HLL.out _))))
              refine wpQuiet_nil ?_
              rintro _ ⟨⟨w3, hw3⟩, rfl⟩
              clear k1 k2
              go_wp2
              go_roundg (n + 1)
              case measure => have := hk'.out; omega
              case rel => exact ⟨n, by go_num, by omega, by omega, HQ3, Lib.hid rfl, hx'.trans hw3⟩
          · have z1 : decide ((i' : Int) ≤ (j' : Int)) = false := decide_eq_false (by omega)
            have HE2 : Hid (j' < i' ∨ (G a ≤ G i' ∧ G j' < G a)) := Lib.hid (.inl (by omega))
            go_wp2
            refine wp_region_wo (by kernel_rfl) (by kernel_rfl) ?_
            repeat (go_big_quiet_step (fail))
            refine wpQuiet_nil ?_
            rintro _ ⟨⟨w3, hw3⟩, rfl⟩
            go_wp2
            go_meet
            exact ⟨j', rfl, by omega, hj2, hQ2, HE2, hx'.trans hw3⟩
      case rest =>
      obtain ⟨j', rfl, hi3, hj2, hQ', HE, hxo⟩ := hcut
      rename World => w5
      have HR5 := Lib.hid (hR.out.ex (by omega) hxo)
      have HM5 := Lib.hid (hm.out.trans (Mo1.of hxo))
      clear hR hm HWO
      by_cases hlt : j' < i'
      · skip
        have HPE := Lib.hid (hP.out.trans (Pm.swap G (r := j') (s := a) (by omega) (by omega) (by omega) (by omega)))
        have HDN := Lib.hid (hQ'.out.done (by omega) (by omega))
        obtain ⟨x, hx⟩ : ∃ x, G j' = x := ⟨_, rfl⟩
        obtain ⟨y, hy⟩ : ∃ y, G a = y := ⟨_, rfl⟩
        have c1 : w5.cell? ⟨g, j', none⟩ = some (.int .u16 x) := by rw [← hx]; exact HR5.out.1 j' (by omega)
        have c2 : w5.cell? ⟨g, a, none⟩ = some (.int .u16 y) := by rw [← hy]; exact HR5.out.1 a (by omega)
        have f1 := HR5.out.2 j'
        have f2 := HR5.out.2 a
        have c3 : (w5.setCell ⟨g, j', none⟩ (.int .u16 y)).cell? ⟨g, a, none⟩ = some (.int .u16 y) := by rw [← hy]; exact HR5.out.mid (by omega)
        have HSW : Hid (RowN .u16 (((w5.setCell ⟨g, j', none⟩ (.int .u16 y)).setCell ⟨g, a, none⟩ (.int .u16 x))).drew g N (fun k => G (sx j' a k))) := Lib.hid (by
          rw [← hx, ← hy]
          exact (HR5.out.swap (by omega) (by omega)).ex (by omega) (Ex.refl _).drew)
        have HMW := Lib.hid (((HM5.out.set j' (.int .u16 y)).set a (.int .u16 x)).trans (Mo1.of (Ex.refl _).drew))
        have HFIN : Hid (∃ H, RowN .u16 (((w5.setCell ⟨g, j', none⟩ (.int .u16 y)).setCell ⟨g, a, none⟩ (.int .u16 x))).drew g N H ∧ Pm a (jb + 1) F H ∧ (∀ k, a ≤ k → k < j' → H k < H j') ∧ ∀ k, j' < k → k < (jb + 1) → H j' ≤ H k) := Lib.hid ⟨_, HSW.out, HPE.out, HDN.out.1, HDN.out.2⟩
        clear hx hy hpv
        go_wp2
        go_region
        all_goals go_wp2
        go_ret2
        exact ⟨j', _, rfl, by omega, by omega, HFIN, HMW⟩
      · have hE2 : G a ≤ G i' ∧ G j' < G a := HE.out.resolve_left hlt
        have hne : i' ≠ j' := fun e => by rw [e] at hE2; omega
        obtain ⟨n, rfl⟩ : ∃ n, j' = n + 1 := ⟨j' - 1, by omega⟩
        have HQ3 := Lib.hid (hQ'.out.swap (by omega) (by omega) hE2.1 hE2.2)
        have HP3 := Lib.hid (hP.out.trans (Pm.swap G (r := i') (s := n + 1) (by omega) (by omega) (by omega) (by omega)))
        obtain ⟨x, hx⟩ : ∃ x, G i' = x := ⟨_, rfl⟩
        obtain ⟨y, hy⟩ : ∃ y, G (n + 1) = y := ⟨_, rfl⟩
        have c1 : w5.cell? ⟨g, i', none⟩ = some (.int .u16 x) := by rw [← hx]; exact HR5.out.1 i' (by omega)
        have c2 : w5.cell? ⟨g, (n + 1), none⟩ = some (.int .u16 y) := by rw [← hy]; exact HR5.out.1 (n + 1) (by omega)
        have f1 := HR5.out.2 i'
        have f2 := HR5.out.2 (n + 1)
        have c3 : (w5.setCell ⟨g, i', none⟩ (.int .u16 y)).cell? ⟨g, (n + 1), none⟩ = some (.int .u16 y) := by rw [← hy]; exact HR5.out.mid (by omega)
        have HSW : Hid (RowN .u16 (((w5.setCell ⟨g, i', none⟩ (.int .u16 y)).setCell ⟨g, (n + 1), none⟩ (.int .u16 x))).drew g N (fun k => G (sx i' (n + 1) k))) := Lib.hid (by
          rw [← hx, ← hy]
          exact (HR5.out.swap (by omega) (by omega)).ex (by omega) (Ex.refl _).drew)
        have HMW := Lib.hid (((HM5.out.set i' (.int .u16 y)).set (n + 1) (.int .u16 x)).trans (Mo1.of (Ex.refl _).drew))
        clear hx hy hE2 hpv
        go_wp2
        go_region
        all_goals go_wp2
        go_roundg (n + 1 - (i' + 1))
        case measure => have := hk.out; omega
        case rel => exact ⟨i' + 1, n, _, by omega, by omega, by omega, by go_num, by go_num, HSW, HP3, HQ3, Lib.hid (.inl rfl), HMW⟩

end Go.Proofs.YthlnbomapfjphaaDoor
