/-
  Package chinese, walked: add.
-/
import Derived.Test.YthlnbomapfjphaaChWalks
namespace Go.Proofs.Ythlnbomapfjphaa
open Go.RowKit
open Eu Rs Ch

theorem wo_cell {w : World} {q : Addr} {v : Value} (h : w.cell? q = some v) (x : Wo w) : x.val.cell? q = some v := x.ex.cell h

theorem gcd_left (M m g : Int) (h : G M m = g) (hm : 1 ≤ m) (hm2 : m ≤ 1000) : ∀ w, Calls Try.prog 31 #[.int .i64 (M % m), .int .i64 m] w (Says (.tuple #[.int .i64 g, .int .i64 0]) w) := fun w => by
  have c1 := Int.emod_nonneg M (b := m) (by omega)
  have c2 := Int.emod_lt_of_pos M (b := m) (by omega)
  have := gcd_ok (M % m) m w (by omega) (by omega) (by omega) (by omega)
  rw [G_mod, h] at this
  exact this

set_option maxHeartbeats 1000000 in
theorem add_no (n M r m : Int) (w : World) (hM : 1 ≤ M) (hM2 : M ≤ 1000000000000000) (hn : 0 ≤ n) (hn2 : n < M) (hm : 1 ≤ m) (hm2 : m ≤ 1000) (hr : 0 ≤ r) (hr2 : r < m) (hd : ¬ G M m ∣ r - n) :
    Calls Try.prog 77 #[.int .i64 n, .int .i64 M, .agg #[.int .i64 r, .int .i64 m]] w (Says (.tuple #[.int .i64 0, .int .i64 0, .int .i64 4]) w) := by
  have hg := G_pos (a := M) (b := m) (.inl (by omega))
  have hgm := Int.le_of_dvd (by omega) (G_dvd_right M m)
  have c1 := Int.emod_nonneg M (b := m) (by omega)
  have c2 := Int.emod_lt_of_pos M (b := m) (by omega)
  obtain ⟨g, hge⟩ : ∃ g, G M m = g := ⟨_, rfl⟩
  have HG := Lib.hid (gcd_left M m g hge hm hm2)
  rw [hge] at hg hgm hd
  have hT : ((r - n).tmod g != 0) = true := by
    have : (r - n).tmod g ≠ 0 := fun h => hd (Int.dvd_of_tmod_eq_zero h)
    simpa using this
  clear hge hd
  go_enter Try.func77, Try.ntmps77
  go_wp2
  have hc0 := wo_cell (w := w.alloc (.cells #[.int .i64 r, .int .i64 m] 58)) (cell_two0 (heap_alloc_new _ _))
  have hc1 := wo_cell (w := w.alloc (.cells #[.int .i64 r, .int .i64 m] 58)) (cell_two1 (heap_alloc_new _ _))
  refine wp_region_wo (by kernel_rfl) (by kernel_rfl) ?_
  repeat (go_big_quiet_step ((go_at_call 31; exact says_wo (HG.out _))))
  refine wpQuiet_nil ?_
  rintro _ ⟨⟨w4, hw4⟩, rfl⟩
  have hc4 := hw4.cell (cell_two0 (heap_alloc_new _ _))
  have hc5 := hw4.cell (cell_two1 (heap_alloc_new _ _))
  clear hc0 hc1
  go_wp2
  go_returns
  exact ⟨rfl, ((Ex.refl w).alloc _).trans hw4⟩

/-- What add says where both fit. -/
def AddSays (n M r m B : Int) (w : World) (e : Ending) (w2 : World) : Prop :=
  ∃ k : Int, 0 ≤ k ∧ k < B ∧ Hid (m ∣ n + M * k - r) ∧ Says (.tuple #[.int .i64 (n + M * k), .int .i64 (M * B), .int .i64 0]) w e w2

set_option maxHeartbeats 1000000 in
theorem add_yes (n M r m : Int) (w : World) (hM : 1 ≤ M) (hM2 : M ≤ 1000000000000000) (hn : 0 ≤ n) (hn2 : n < M) (hm : 1 ≤ m) (hm2 : m ≤ 1000) (hr : 0 ≤ r) (hr2 : r < m) (hd : G M m ∣ r - n) :
    Calls Try.prog 77 #[.int .i64 n, .int .i64 M, .agg #[.int .i64 r, .int .i64 m]] w (AddSays n M r m (m / G M m) w) := by
  have hg := G_pos (a := M) (b := m) (.inl (by omega))
  have hgm := Int.le_of_dvd (by omega) (G_dvd_right M m)
  have c1 := Int.emod_nonneg M (b := m) (by omega)
  have c2 := Int.emod_lt_of_pos M (b := m) (by omega)
  have HMET : Hid (∀ x, x * (M / G M m) % (m / G M m) = 1 % (m / G M m) → m ∣ n + M * ((r - n) / G M m * x % (m / G M m)) - r) := Lib.hid fun x hx => met hM hd hx
  have b1 : 1 ≤ m / G M m := Int.ediv_pos_of_pos_of_dvd (by omega) (by omega) (G_dvd_right M m)
  have b2 : m / G M m ≤ m := Int.ediv_le_self _ (by omega)
  have a1 : 1 ≤ M / G M m := Int.ediv_pos_of_pos_of_dvd (by omega) (by omega) (G_dvd_left M m)
  have a2 : M / G M m ≤ M := Int.ediv_le_self _ (by omega)
  have hAB := G_div (M := M) (m := m) hM
  obtain ⟨g, hge⟩ : ∃ g, G M m = g := ⟨_, rfl⟩
  have HG := Lib.hid (gcd_left M m g hge hm hm2)
  rw [hge] at hg hgm hd HMET b1 b2 a1 a2 hAB
  rw [hge]
  obtain ⟨B, hB⟩ : ∃ B, m / g = B := ⟨_, rfl⟩
  obtain ⟨A, hA⟩ : ∃ A, M / g = A := ⟨_, rfl⟩
  rw [hB] at hAB b1 b2 HMET
  rw [hA] at hAB a1 a2 HMET
  rw [hB]
  obtain ⟨d, hde⟩ : ∃ d, r - n = d := ⟨_, rfl⟩
  rw [hde] at hd HMET
  obtain ⟨e, he⟩ := hd
  have hq1 : d.tdiv g = e := by rw [he, Int.mul_tdiv_cancel_left _ (by omega)]
  have hq2 : d / g = e := by rw [he, Int.mul_ediv_cancel_left _ (by omega)]
  have hT : d.tmod g = 0 := by rw [he]; exact Int.mul_tmod_right _ _
  rw [hq2] at HMET
  have d1 : -1000000000000000 ≤ d := by omega
  have d2 : d ≤ 1000 := by omega
  have hb2 := abs_le_mul (b := g) (y := e) (by omega)
  rw [← he] at hb2
  obtain ⟨e1, e2⟩ : -1000000000000000 ≤ e ∧ e ≤ 1000000000000000 := by omega
  have HAB := Lib.hid hAB
  clear hge he hq2 hb2 hAB
  go_enter Try.func77, Try.ntmps77
  go_wp2
  have hc0 := wo_cell (w := w.alloc (.cells #[.int .i64 r, .int .i64 m] 58)) (cell_two0 (heap_alloc_new _ _))
  have hc1 := wo_cell (w := w.alloc (.cells #[.int .i64 r, .int .i64 m] 58)) (cell_two1 (heap_alloc_new _ _))
  refine wp_region_wo (by kernel_rfl) (by kernel_rfl) ?_
  repeat (go_big_quiet_step ((go_at_call 31; exact says_wo (HG.out _))))
  refine wpQuiet_nil ?_
  rintro _ ⟨⟨w4, hw4⟩, rfl⟩
  have hc4 := hw4.cell (cell_two0 (heap_alloc_new _ _))
  have hc5 := hw4.cell (cell_two1 (heap_alloc_new _ _))
  clear hc0 hc1
  go_wp2_with (first
    | (go_at_call 34; refine (inverse_ok _ _ _ (by omega) (by omega) HAB.out).mono ?_; rintro e w5 ⟨x, x0, x1, HX, rfl, hw5⟩; have hc6 := hw5.cell hc4; have hex := abs_mul_le (a := e) (b := x) (B := 1000000000000000) (C := 1000) (by omega) (by omega) (by omega) (by omega); obtain ⟨ex1, ex2⟩ := hex; have HM := Lib.hid (HMET.out x HX.out); have k0 := Int.emod_nonneg (e * x) (b := B) (by omega); have k1 := Int.emod_lt_of_pos (e * x) (b := B) (by omega))
    | (go_at_call 86; refine (of_ok _ _ _ (by omega) (by omega)).mono ?_; rintro e w6 ⟨rfl, hw6⟩; obtain ⟨mk1, mk2⟩ := Eu.mul_le (a := M) (b := e * x % B) (A := 1000000000000000) (B := 1000) (by omega) (by omega) (by omega) (by omega); obtain ⟨mb1, mb2⟩ := Eu.mul_le (a := M) (b := B) (A := 1000000000000000) (B := 1000) (by omega) (by omega) (by omega) (by omega)))
  go_returns
  exact ⟨e * x % B, k0, k1, HM, rfl, (((((Ex.refl w).alloc _).trans hw4).trans hw5).trans hw6)⟩

end Go.Proofs.Ythlnbomapfjphaa
