/-
  The variable `reduced` in memory: rows, pivots' columns, the product; what stores leave of it.
-/
import Derived.Test.YtmmfclkkncbgfaaMcMath
import Derived.Test.YtmmfclkkncbgfaaMcCheck
import Derived.RegionTactic
import Derived.BigRegion
namespace Go.Proofs.Ytmmfclkkncbgfaa
open Go.RowKit
open Gf

/-- Numbers of a list as ints. -/
def intsOf (l : List Nat) : List Int := l.map fun (x : Nat) => ((x : Nat) : Int)
theorem intsOf_length (l : List Nat) : (intsOf l).length = l.length := by simp [intsOf]
theorem intsOf_snoc (l : List Nat) (x : Nat) : intsOf l ++ [((x : Nat) : Int)] = intsOf (l ++ [x]) := by simp [intsOf]

structure RedW (w : World) (base b G R C : Nat) (gs cs : Nat → Nat) (lv : Value) (L : List Int) (d : E) (M : Nat → Nat → E) : Prop where
  rows : w.cell? ⟨b, 0, none⟩ = some (.slice (some ⟨G, 0, none⟩) R R)
  leads : w.cell? ⟨b, 1, none⟩ = some lv
  dv : w.cell? ⟨b, 2, none⟩ = some (.int .u8 ((d.v : Nat) : Int))
  fr : ∀ k, w.frozen? ⟨b, k, none⟩ = false
  grid : Grid w base G R C gs cs M
  row : Row 3 .i64 w base lv L
  bG : b ≠ G
  bg : ∀ r, r < R → gs r ≠ b
  lb : lv.ownBlock ≠ some b
  lG : lv.ownBlock ≠ some G
  lg : ∀ r, r < R → lv.ownBlock ≠ some (gs r)
  le : base ≤ b

theorem RedW.lt {w : World} {base b G R C : Nat} {gs cs : Nat → Nat} {lv : Value} {L : List Int} {d : E} {M : Nat → Nat → E} (h : RedW w base b G R C gs cs lv L d M) : b < w.heap.size := World.block_lt_of_cell? w ⟨b, 0, none⟩ h.rows

theorem RedW.ex {w w2 : World} {base b G R C : Nat} {gs cs : Nat → Nat} {lv : Value} {L : List Int} {d : E} {M : Nat → Nat → E} (h : RedW w base b G R C gs cs lv L d M) (hR : 1 ≤ R) (hC : 1 ≤ C) (hx : Ex w w2) : RedW w2 base b G R C gs cs lv L d M where
  rows := hx.cell h.rows
  leads := hx.cell h.leads
  dv := hx.cell h.dv
  fr k := (Below.frozen (p := ⟨b, k, none⟩) hx h.lt).trans (h.fr k)
  grid := h.grid.ex hR hC hx
  row := h.row.ex hx
  bG := h.bG
  bg := h.bg
  lb := h.lb
  lG := h.lG
  lg := h.lg
  le := h.le

theorem RedW.mo {w w2 : World} {base b G R C g : Nat} {gs cs gs2 cs2 : Nat → Nat} {lv : Value} {L : List Int} {d : E} {M M2 : Nat → Nat → E} (h : RedW w base b G R C gs cs lv L d M) (hm : Mo1 g w w2) (hgb : g ≠ b) (hgl : lv.ownBlock ≠ some g)
    (hG : Grid w2 base G R C gs2 cs2 M2) (hs : ∀ r, r < R → ∃ s, s < R ∧ gs2 r = gs s) : RedW w2 base b G R C gs2 cs2 lv L d M2 where
  rows := hm.cell h.rows (Ne.symm hgb)
  leads := hm.cell h.leads (Ne.symm hgb)
  dv := hm.cell h.dv (Ne.symm hgb)
  fr k := (hm.frozen (a := ⟨b, k, none⟩) h.lt (Ne.symm hgb)).trans (h.fr k)
  grid := hG
  row := h.row.kept hm (.inr hgl)
  bG := h.bG
  bg r hr := by obtain ⟨s, h1, h2⟩ := hs r hr; rw [h2]; exact h.bg s h1
  lb := h.lb
  lG := h.lG
  lg r hr := by obtain ⟨s, h1, h2⟩ := hs r hr; rw [h2]; exact h.lg s h1
  le := h.le

theorem RedW.swap {w : World} {base b G R C : Nat} {gs cs : Nat → Nat} {lv : Value} {L : List Int} {d : E} {M : Nat → Nat → E} (h : RedW w base b G R C gs cs lv L d M) {r s : Nat} (hr : r < R) (hs : s < R) :
    RedW ((w.setCell ⟨G, r, none⟩ (.slice (some ⟨gs s, 0, none⟩) C (cs s))).setCell ⟨G, s, none⟩ (.slice (some ⟨gs r, 0, none⟩) C (cs r))) base b G R C (swp gs r s) (swp cs r s) lv L d (fun i j => M (sw r s i) j) :=
  h.mo (((Mo1.refl G w).set r _).set s _) (Ne.symm h.bG) h.lG (h.grid.swap hr hs) fun i hi => ⟨sw r s i, sw_lt hr hs hi, swp_sw gs r s i⟩

theorem RedW.rowTo {w w2 : World} {base b G R C : Nat} {gs cs : Nat → Nat} {lv : Value} {L : List Int} {d : E} {M : Nat → Nat → E} {F : Nat → E} (h : RedW w base b G R C gs cs lv L d M) {r : Nat} (hr : r < R) (hC : 1 ≤ C) (hm : Mo1 (gs r) w w2) (hF : RowB w2 (gs r) C F) :
    RedW w2 base b G R C gs cs lv L d (fun i => if i = r then F else M i) := h.mo hm (h.bg r hr) (h.lg r hr) (h.grid.rowTo hr hC hm hF) fun s hs => ⟨s, hs, rfl⟩

theorem RedW.congr {w : World} {base b G R C : Nat} {gs cs : Nat → Nat} {lv : Value} {L : List Int} {d : E} {M N : Nat → Nat → E} (h : RedW w base b G R C gs cs lv L d M) (he : ∀ r, r < R → ∀ k, k < C → M r k = N r k) : RedW w base b G R C gs cs lv L d N :=
  { h with grid := h.grid.congr he }

theorem setCell_mo (w : World) (g i : Nat) (u : Value) : Mo1 g w (w.setCell ⟨g, i, none⟩ u) := (Mo1.refl g w).set i u

/-- A store to a field. -/
theorem RedW.push {w w2 : World} {base b G R C : Nat} {gs cs : Nat → Nat} {lv lv2 : Value} {L L2 : List Int} {d : E} {M : Nat → Nat → E} (h : RedW w base b G R C gs cs lv L d M) (hR : 1 ≤ R) (hC : 1 ≤ C) (hg : w.grownBy w2 lv.ownBlock) (hrow : Row 3 .i64 w2 base lv2 L2) (ho : lv2.ownBlock = lv.ownBlock ∨ lv2.ownBlock = some w.heap.size) :
    RedW (w2.setCell ⟨b, 1, none⟩ lv2) base b G R C gs cs lv2 L2 d M := by
  have hb := h.lt
  have hGl : G < w.heap.size := World.block_lt_of_cell? w ⟨G, 0, none⟩ (h.grid.outer 0 (by omega))
  have hgl : ∀ r, r < R → gs r < w.heap.size := fun r hr => World.block_lt_of_cell? w ⟨gs r, 0, none⟩ (h.grid.inner r hr 0 (by omega))
  have hcell : ∀ {c i : Nat} {u : Value}, w.cell? ⟨c, i, none⟩ = some u → lv.ownBlock ≠ some c → w2.cell? ⟨c, i, none⟩ = some u := fun hc hn => World.grownBy.cell hg hc (Ne.symm hn)
  have hfz : ∀ {c i : Nat}, c < w.heap.size → lv.ownBlock ≠ some c → w2.frozen? ⟨c, i, none⟩ = w.frozen? ⟨c, i, none⟩ := fun hc hn => World.grownBy.frozen_far hg _ hc (Ne.symm hn)
  have hne : ∀ c, c < w.heap.size → lv.ownBlock ≠ some c → lv2.ownBlock ≠ some c := fun c hc hn => by
    rcases ho with e | e
    · rw [e]; exact hn
    · rw [e]; intro e2; have := Option.some.inj e2; omega
  have hlb := hne b hb h.lb
  refine ⟨?_, ?_, ?_, fun k => ?_, ?_, ?_, h.bG, h.bg, hlb, hne G hGl h.lG, fun r hr => hne _ (hgl r hr) (h.lg r hr), h.le⟩
  · rw [World.cell?_setCell_other _ _ _ _ (addr_ne (.inr (by decide)))]; exact hcell h.rows h.lb
  · exact World.cell?_setCell_same _ _ _ (hcell h.leads h.lb)
  · rw [World.cell?_setCell_other _ _ _ _ (addr_ne (.inr (by decide)))]; exact hcell h.dv h.lb
  · rw [World.frozen?_setCell]; exact (hfz hb h.lb).trans (h.fr k)
  · refine ⟨fun r hr => ?_, fun r => ?_, fun r hr k hk => ?_, fun r hr k => ?_, h.grid.apart, h.grid.far, h.grid.le, h.grid.leG, h.grid.cap⟩
    · rw [World.cell?_setCell_other _ _ _ _ (addr_ne (.inl h.bG))]; exact hcell (h.grid.outer r hr) h.lG
    · rw [World.frozen?_setCell]; exact (hfz hGl h.lG).trans (h.grid.outerFree r)
    · rw [World.cell?_setCell_other _ _ _ _ (addr_ne (.inl (h.bg r hr).symm))]; exact hcell (h.grid.inner r hr k hk) (h.lg r hr)
    · rw [World.frozen?_setCell]; exact (hfz (hgl r hr) (h.lg r hr)).trans (h.grid.free r hr k)
  · exact hrow.kept (setCell_mo w2 b 1 lv2) (.inr hlb)

theorem RedW.divTo {w : World} {base b G R C : Nat} {gs cs : Nat → Nat} {lv : Value} {L : List Int} {d : E} {M : Nat → Nat → E} (h : RedW w base b G R C gs cs lv L d M) (f : E) : RedW (w.setCell ⟨b, 2, none⟩ (.int .u8 ((f.v : Nat) : Int))) base b G R C gs cs lv L f M where
  rows := by rw [World.cell?_setCell_other _ _ _ _ (addr_ne (.inr (by decide)))]; exact h.rows
  leads := by rw [World.cell?_setCell_other _ _ _ _ (addr_ne (.inr (by decide)))]; exact h.leads
  dv := World.cell?_setCell_same _ _ _ h.dv
  fr k := by rw [World.frozen?_setCell]; exact h.fr k
  grid := by
    refine ⟨fun r hr => ?_, fun r => ?_, fun r hr k hk => ?_, fun r hr k => ?_, h.grid.apart, h.grid.far, h.grid.le, h.grid.leG, h.grid.cap⟩
    · rw [World.cell?_setCell_other _ _ _ _ (addr_ne (.inl h.bG))]; exact h.grid.outer r hr
    · rw [World.frozen?_setCell]; exact h.grid.outerFree r
    · rw [World.cell?_setCell_other _ _ _ _ (addr_ne (.inl (h.bg r hr).symm))]; exact h.grid.inner r hr k hk
    · rw [World.frozen?_setCell]; exact h.grid.free r hr k
  row := h.row.kept (setCell_mo w b 2 _) (.inr h.lb)
  bG := h.bG
  bg := h.bg
  lb := h.lb
  lG := h.lG
  lg := h.lg
  le := h.le

theorem entered_lead : Entered Try.prog 50 := fun _ _ => by kernel_rfl

set_option maxHeartbeats 400000 in
theorem lead1_any (g C cap bx c : Nat) (X : E) (w : World) (hc : c < C) (_ : C ≤ 100) (h1 : w.cell? ⟨g, c, none⟩ = some (.int .u8 ((X.v : Nat) : Int))) (h2 : w.cell? ⟨bx, 0, none⟩ = some (.int .i64 (c : Int))) (b : Bool) (hb : b = decide (X.v ≠ 0)) :
    Calls Try.prog 50 (#[.slice (some ⟨g, 0, none⟩) C cap] ++ #[.pointer (some ⟨bx, 0, none⟩)]) w (Says (.bool b) w) := by
  have e : (((X.v : Nat) : Int) != 0) = b := by
    rw [hb]
    by_cases h0 : X.v = 0
    · rw [h0]; rfl
    · rw [decide_eq_true h0]
      simp; omega
  have xl := X.lt
  clear hb
  go_enter Try.func50, Try.ntmps50
  go_wp2
  go_ret
  exact ⟨by rw [← e]; simp, Ex.refl _⟩

end Go.Proofs.Ytmmfclkkncbgfaa
