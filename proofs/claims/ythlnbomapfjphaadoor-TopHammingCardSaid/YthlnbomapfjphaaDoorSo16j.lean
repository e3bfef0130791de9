/-
  slices.Compact at uint16.
-/
import Derived.Test.YthlnbomapfjphaaDoorGso
import Derived.RegionTactic
import Derived.BigRegion
namespace Go.Proofs.YthlnbomapfjphaaDoor
open Go.RowKit
open So

theorem so16_zero (w : World) : (zeroValue 39).run Tryd.prog w = .ok (.int .u16 0) w := by kernel_rfl

theorem so16_start {F : Nat → Int} {p : Nat} (h : ∀ i, i < p → F (i + 1) ≠ F i) (he : F (p + 1) = F p) : Cp F F (p + 2) (p + 1) := by
  have e := cl_all (F := F) (p + 1) fun i hi => h i (by omega)
  refine ⟨by rw [cl_same he, e]; simp, fun i hi => ?_, fun i _ => rfl, by omega⟩
  rw [cl_same he, e, List.getD_eq_getElem?_getD]
  simp [hi]

/-- What Compact answers. -/
def so16_Cpd (F : Nat → Int) (g N cap : Nat) (w : World) (e : Ending) (w2 : World) : Prop := ∃ M : Nat, e = .returned (.slice (some ⟨g, 0, none⟩) M cap) ∧ M ≤ N ∧ Hid ((cl F N).length = M) ∧ Hid (∀ i, i < M → w2.cell? ⟨g, i, none⟩ = some (.int .u16 ((cl F N).getD i 0))) ∧ Hid (Mo1 g w w2)

set_option maxRecDepth 100000 in
set_option maxHeartbeats 2000000 in
theorem so16_compact (F : Nat → Int) (g N cap : Nat) (w : World) (hN : N ≤ 4096) (h1 : 1 ≤ N) (hcap : N ≤ cap) (_ : cap ≤ 9223372036854775807) (hF : RowN .u16 w g N F) :
    Calls Tryd.prog 41 #[.slice (some ⟨g, 0, none⟩) N cap] w (so16_Cpd F g N cap w) := by
  have HF := Lib.hid hF
  have HALL : Hid ((∀ i, i + 1 < N → F (i + 1) ≠ F i) → (cl F N).length = N ∧ ∀ w2, RowN .u16 w2 g N F → ∀ i, i < N → w2.cell? ⟨g, i, none⟩ = some (.int .u16 ((cl F N).getD i 0))) := Lib.hid fun h => by
    have e := cl_all N h
    refine ⟨by rw [e]; simp, fun w2 hr i hi => ?_⟩
    rw [e, List.getD_eq_getElem?_getD, hr.1 i hi]
    simp [hi]
  clear hF
  by_cases h2 : N < 2
  · have HN := HALL.out fun i hi => by omega
    have HA := Lib.hid HN.1
    have HB := Lib.hid (HN.2 w HF.out)
    clear HN HALL
    go_enter Tryd.func41, Tryd.ntmps41
    go_wp2
    go_ret
    exact ⟨N, rfl, Nat.le_refl _, HA, HB, Lib.hid (Mo1.refl _ _)⟩
  · go_enter Tryd.func41, Tryd.ntmps41
    go_wp2
    go_loopg [3, 4, 5] N (fun k v3 v4 v5 wr => ∃ c p : Nat, v3 = .int .i64 (c : Int) ∧ Hid (c = p + 1) ∧ c ≤ N ∧ 1 ≤ c ∧ Hid (∀ i, i < p → F (i + 1) ≠ F i) ∧ Hid (k = N - p) ∧ Ex w wr)
    case atStart => exact ⟨1, 0, rfl, Lib.hid rfl, by omega, by omega, Lib.hid fun i hi => by omega, Lib.hid rfl, Ex.refl _⟩
    case round =>
      obtain ⟨c, p, rfl, hcp, hcN, hc1, hd, hk, hx⟩ := hrel
      by_cases hlt : c < N
      · obtain ⟨x, hxx⟩ : ∃ x, F c = x := ⟨_, rfl⟩
        obtain ⟨y, hy⟩ : ∃ y, F p = y := ⟨_, rfl⟩
        have hR := HF.out.ex h1 hx
        have hpz : (c : Int) - 1 = (p : Int) := by have := hcp.out; omega
        have k1 := so_cell (show wr.cell? ⟨g, c, none⟩ = some (.int .u16 x) by rw [← hxx]; exact hR.1 c hlt)
        have k2 := so_cell (show wr.cell? ⟨g, p, none⟩ = some (.int .u16 y) by rw [← hy]; exact hR.1 p (by have := hcp.out; omega))
        have hpl : p < N := by have := hcp.out; omega
        by_cases hxy : x = y
        · have HST : Hid (Cp F F (c + 1) c) := Lib.hid (by
            have := so16_start hd.out (by rw [← hcp.out, hxx, hy]; exact hxy)
            rw [← hcp.out] at this
            rw [show p + 2 = c + 1 by have := hcp.out; omega] at this
            exact this)
          have hbx : (x == y) = true := by simpa using hxy
          have hne1 : cap ≠ c := by omega
          clear hxx hy hxy hR
          go_wp2
          refine wp_region_wo (by kernel_rfl) (by kernel_rfl) ?_
          repeat (go_big_quiet_step (fail))
          refine wpQuiet_nil ?_
          rintro _ ⟨⟨w3, hw3⟩, rfl⟩
          rename World => w3
          have HR3 := Lib.hid (HF.out.ex h1 (hx.trans hw3))
          have HM3 : Hid (Mo1 g w w3) := Lib.hid (Mo1.of (hx.trans hw3))
          clear k1 k2
          go_wp2
          rename World => wo
          go_loopg [3, 5] N (fun k v3 v5 wr => ∃ (q kk : Nat) (H : Nat → Int), v3 = .int .i64 (kk : Int) ∧ v5 = .int .i64 ((q + 1 : Nat) : Int) ∧ c + q + 1 ≤ N ∧ kk < c + q + 1 ∧ Hid (Cp F H (c + q + 1) kk) ∧ Hid (RowN .u16 wr g N H) ∧ Hid (k = N - q) ∧ Hid (Mo1 g w wr))
          case atStart => exact ⟨0, c, F, rfl, by first | rfl | go_num, by omega, by omega, HST, HR3, Lib.hid rfl, HM3⟩
          case round =>
            obtain ⟨q, kk, H, rfl, rfl, hq1, hkk, hC, hRr, hk2, hm⟩ := hrel
            clear HST HR3 HM3
            by_cases hlt2 : c + q + 1 < N
            · obtain ⟨u, hu⟩ : ∃ u, F (c + q + 1) = u := ⟨_, rfl⟩
              obtain ⟨v, hv⟩ : ∃ v, F (c + q) = v := ⟨_, rfl⟩
              have z2 : ((q : Int) + 1 < ((N - c : Nat) : Int)) := by omega
              have c1 : wr.cell? ⟨g, c + (q + 1), none⟩ = some (.int .u16 u) := by rw [← hu, ← hC.out.high (c + q + 1) (by omega)]; exact hRr.out.1 (c + q + 1) (by omega)
              have c2 : wr.cell? ⟨g, c + q, none⟩ = some (.int .u16 v) := by rw [← hv, ← hC.out.high (c + q) (by omega)]; exact hRr.out.1 (c + q) (by omega)
              have k1 := so_cell c1
              have k2 := so_cell c2
              by_cases huv : u = v
              · have HC2 := Lib.hid (hC.out.skip (by rw [hu, hv]; exact huv))
                have hbu : (u != v) = false := by simpa using huv
                clear hu hv huv c1 c2
                go_wp2
                refine wp_region_wo (by kernel_rfl) (by kernel_rfl) ?_
                repeat (go_big_quiet_step (fail))
                refine wpQuiet_nil ?_
                rintro _ ⟨⟨w4, hw4⟩, rfl⟩
                rename World => w4
                have HR4 := Lib.hid (hRr.out.ex h1 hw4)
                have HM4 := Lib.hid (hm.out.trans (Mo1.of hw4))
                clear k1 k2
                go_wp2
                go_roundg (N - (q + 1))
                case measure => have := hk2.out; omega
                case rel => exact ⟨q + 1, kk, H, rfl, by first | rfl | go_num, by omega, by omega, HC2, HR4, Lib.hid rfl, HM4⟩
              · have HC2 := Lib.hid (hC.out.keep (by rw [hu, hv]; exact huv))
                have hbu : (u != v) = true := by simpa using huv
                have HU := Lib.hid hu
                clear hu hv huv c1 c2
                go_wp2
                refine wp_region_wo (by kernel_rfl) (by kernel_rfl) ?_
                repeat (go_big_quiet_step (fail))
                refine wpQuiet_nil ?_
                rintro _ ⟨⟨w4, hw4⟩, rfl⟩
                rename World => w4
                have HR4 := Lib.hid (hRr.out.ex h1 hw4)
                have HM4 := Lib.hid (hm.out.trans (Mo1.of hw4))
                have d1 := k1 ⟨w4, hw4⟩
                have d2 := HR4.out.1 kk (by omega)
                have d3 := HR4.out.2 kk
                have HR5 : Hid (RowN .u16 (w4.setCell ⟨g, kk, none⟩ (.int .u16 u)) g N (fun i => if i = kk then F (c + q + 1) else H i)) := Lib.hid ⟨fun i hi => by
                  by_cases e : i = kk
                  · subst e
                    rw [World.cell?_setCell_same _ _ _ (HR4.out.1 i hi)]
                    show _ = some (Value.int .u16 (if i = i then F (c + q + 1) else H i))
                    rw [if_pos rfl, HU.out]
                  · rw [World.cell?_setCell_other _ _ _ _ (addr_ne' (.inr (Ne.symm e)))]
                    show _ = some (Value.int .u16 (if i = kk then F (c + q + 1) else H i))
                    rw [if_neg e]
                    exact HR4.out.1 i hi, fun i => by rw [World.frozen?_setCell]; exact HR4.out.2 i⟩
                have HM5 := Lib.hid (HM4.out.set kk (.int .u16 u))
                clear k1 k2
                go_wp2
                go_roundg (N - (q + 1))
                case measure => have := hk2.out; omega
                case rel => exact ⟨q + 1, kk + 1, _, by first | rfl | go_num, by first | rfl | go_num, by omega, by omega, HC2, HR5, Lib.hid rfl, HM5⟩
            · have e : c + q + 1 = N := by omega
              have z2 : ¬ ((q : Int) + 1 < ((N - c : Nat) : Int)) := by omega
              have hne2 : cap ≠ kk := by omega
              have hcl : ∀ ty, (Builtin.clear_ #[38] ty #[.slice (some ⟨g, kk, none⟩) (N - kk) (cap - kk)]).run Tryd.prog wr = .ok (.tuple #[]) (wr.setCells g kk (List.replicate (N - kk) (.int .u16 0))) :=
                fun ty => Lib.run_clear_slice wr 38 39 ty (.int .u16 0) Tryd.underlying38 so16_zero rfl rfl g kk (N - kk) (cap - kk) (by omega) (fun j hj => by rw [hRr.out.1 (kk + j) (by omega)]; rfl) (fun j _ => hRr.out.2 (kk + j))
              have HLEN : Hid ((cl F N).length = kk) := Lib.hid (by rw [← e]; exact hC.out.len)
              have HCEL : Hid (∀ i, i < kk → (wr.setCells g kk (List.replicate (N - kk) (.int .u16 0))).cell? ⟨g, i, none⟩ = some (.int .u16 ((cl F N).getD i 0))) := Lib.hid fun i hi => by
                rw [World.cell?_setCells_out g _ _ _ _ (fun _ _ => .inl hi), hRr.out.1 i (by omega), hC.out.low i hi, e]
              have HM6 := Lib.hid (hm.out.trans (mo1_setCells g (List.replicate (N - kk) (.int .u16 0)) kk wr))
              clear hRr hC hm
              go_wp2_with (simp only [hcl])
              go_ret
              exact ⟨kk, rfl, by omega, HLEN, HCEL, HM6⟩
        · have HD2 : Hid (∀ i, i < c → F (i + 1) ≠ F i) := Lib.hid fun i hi => by
            by_cases e : i = p
            · rw [e, ← hcp.out, hxx, hy]; exact hxy
            · exact hd.out i (by have := hcp.out; omega)
          have hbx : (x == y) = false := by simpa using hxy
          clear hxx hy hxy hR
          go_wp2
          refine wp_region_wo (by kernel_rfl) (by kernel_rfl) ?_
          repeat (go_big_quiet_step (fail))
          refine wpQuiet_nil ?_
          rintro _ ⟨⟨w3, hw3⟩, rfl⟩
          clear k1 k2
          go_wp2
          go_roundg (N - c)
          case measure => have := hk.out; omega
          case rel => exact ⟨c + 1, c, by go_num, Lib.hid rfl, by omega, by omega, HD2, Lib.hid rfl, hx.trans hw3⟩
      · have HN := HALL.out fun i hi => hd.out i (by have := hcp.out; omega)
        have HA := Lib.hid HN.1
        have HB := Lib.hid (HN.2 wr (HF.out.ex h1 hx))
        clear HN HALL
        go_wp2
        go_ret
        exact ⟨N, rfl, Nat.le_refl _, HA, HB, Lib.hid (Mo1.of hx)⟩

end Go.Proofs.YthlnbomapfjphaaDoor
