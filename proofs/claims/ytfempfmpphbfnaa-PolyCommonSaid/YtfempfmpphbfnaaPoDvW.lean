/-
  Package poly: divide, Div.
-/
import Derived.Test.YtfempfmpphbfnaaPoMul
import Derived.Test.YtfempfmpphbfnaaRsWalks
import Derived.Test.YtfempfmpphbfnaaBiMod
import Derived.StillTailTactics
namespace Go.Proofs.Ytfempfmpphbfnaa
open Go.RowKit
open Pr Po

theorem inv_dvd {p x a : Int} (hp : 2 ≤ p) (h : x * a % p = 1 % p) : p ∣ x * a - 1 := by
  have h1 := Int.mul_ediv_add_emod (x * a) p
  have h2 : (1 : Int) % p = 1 := Int.emod_eq_of_lt (by omega) (by omega)
  exact ⟨x * a / p, by omega⟩

theorem inv_last (p : Int) (g : List Int) (w : World) (hp : Prm p) (hp9 : p ≤ 997) (hg : Po.Can p g) (h0 : g ≠ []) :
    Calls Try.prog 53 #[.int .i64 (nth g (g.length - 1)), .int .i64 p] w (fun e w2 => ∃ v : Int, 1 ≤ v ∧ v < p ∧ Hid (p ∣ v * nth g (g.length - 1) - 1) ∧ Says (.tuple #[.int .i64 v, .int .i64 0]) w e w2) := by
  have p2 := hp.1
  refine (inverse_ok _ p w (by omega) (by omega) (Bi.prm_G hp (can_last hp hg h0))).mono ?_
  rintro e w2 ⟨x, x0, x1, hx, hs⟩
  have hd := inv_dvd p2 hx.out
  refine ⟨x, ?_, x1, Lib.hid hd, hs⟩
  refine Decidable.byContradiction fun hc => ?_
  have : x = 0 := by omega
  subst this
  obtain ⟨k, hk⟩ := hd
  have h1 : p ∣ 1 := ⟨-k, by rw [Int.mul_neg]; omega⟩
  have := Int.le_of_dvd (by omega) h1
  omega

/-- Two rows of one's own, apart. -/
def Rows2 (q r : List Int) (w : World) (e : Ending) (w2 : World) : Prop :=
  ∃ v u, e = .returned (.tuple #[v, u, .int .i64 0]) ∧ Hid (Row 3 .i64 w2 w.heap.size v q) ∧ Hid (Row 3 .i64 w2 w.heap.size u r) ∧ Hid (v.ownBlock = none ∨ u.ownBlock = none ∨ u.ownBlock ≠ v.ownBlock) ∧ Ex w w2

set_option maxRecDepth 100000 in
set_option maxHeartbeats 4000000 in
theorem divide_short (p : Int) (f g : List Int) (a b : Option Addr) (ca cb : Nat) (w : World) (hr : Reads w .i64 a f) (hnil : a = none → ca = 0) (hr2 : Reads w .i64 b g) (hp : Prm p) (hp9 : p ≤ 997) (hf : Po.Can p f) (hg : Po.Can p g) (hl : f.length < g.length) (hl2 : g.length ≤ 60) :
    Calls Try.prog 39 #[.int .i64 p, .slice a f.length ca, .slice b g.length cb] w (Rows2 [] f w) := by
  have hg0 : g ≠ [] := fun e => by rw [e] at hl; simp at hl
  have HI := Lib.hid fun w2 => inv_last p g w2 hp hp9 hg hg0
  have HCL := Lib.hid fun w2 (hx : Ex w w2) => clone_ints f a ca w2 (by omega) (hr.ex hx) hnil
  have HLM : Hid (f.length ≤ 1000) := Lib.hid (by omega)
  have HSH : Hid (short f = f) := Lib.hid (can_short hf)
  rcases hr2 with hn | ⟨bg, og, rfl, hc⟩
  · exact absurd hn hg0
  obtain ⟨M, hM⟩ : ∃ M, g.length = M + 1 := ⟨g.length - 1, by omega⟩
  rw [hM] at hc HI hl hl2 ⊢
  rw [Nat.add_sub_cancel] at HI
  have hcl := hc M (by omega)
  obtain ⟨J, hJ⟩ : ∃ J, f.length = J := ⟨_, rfl⟩
  obtain ⟨X, hX⟩ : ∃ X, nth g M = X := ⟨_, rfl⟩
  rw [hX] at HI hcl
  rw [hJ] at HCL hl ⊢
  clear hr hnil hp hf hg hg0 hc hX hJ hM
  by_cases he : J = M
  · subst he
    have h0 : (J : Int) - ((J : Int) + 1) + 1 = 0 := by omega
    have hd : decide ((0 : Int) < 0) = false := rfl
    go_enter Try.func39, Try.ntmps39
    go_wp2_with (first
      | (go_at_call 53; (with_reducible refine (HI.out _).mono ?_); rintro e w1 ⟨v, v1, v2, _, rfl, hw1⟩)
      | (go_at_call 33; (with_reducible refine (HCL.out _ hw1).mono ?_); rintro e w2 ⟨u, rfl, hrow2, hx2⟩
         have HX2 := Lib.hid hx2
         have HR2 := Lib.hid hrow2.out
         clear hrow2 hx2)
      | (at_make; refine wpList_make_ints rfl _ _ 22 rfl w2.heap.size 3 .i64 8 Try.underlying22 info_int _ _ 0 rfl rfl (by omega) (by unfold maxLen; omega) (Nat.le_refl _) ?_; intro w3 hown3 hgrow3
         have HX3 : Hid (Ex w2 w3) := Lib.hid (ex_grown (Ex.refl w2) hgrow3 (by intro k hk; cases hk))
         have HR3 : Hid (Row 3 .i64 w3 w2.heap.size (.slice (some ⟨w2.heap.size, 0, none⟩) 0 0) []) := Lib.hid hown3
         clear hown3 hgrow3))
    have HX1 := Lib.hid hw1
    go_loopg [13] 0 (fun k vSLOT x => vSLOT = .int .i64 (-1) ∧ Ex w3 x)
    case atStart => exact ⟨rfl, Ex.refl _⟩
    case round =>
      obtain ⟨rfl, hx⟩ := hrel
      have HT := Lib.hid (trim_row _ _ _ wr ((HR2.out.ex HX3.out).ex hx) HLM.out)
      go_wp2_with (go_at_call 37; (with_reducible refine (HT.out).mono ?_); rintro e w5 ⟨u5, rfl, hu, hob, hw5⟩)
      go_returns
      refine ⟨.slice (some ⟨w2.heap.size, 0, none⟩) 0 0, u5, rfl, Lib.hid ?_, Lib.hid ?_, Lib.hid (.inr ?_), HX1.out.trans (HX2.out.trans (HX3.out.trans (hx.trans hw5)))⟩
      · exact ((HR3.out.ex (hx.trans hw5)).less (Nat.le_trans HX1.out.size HX2.out.size))
      · rw [← HSH.out]; exact hu.out.less HX1.out.size
      · cases hj : u5.ownBlock with
        | none => exact .inl rfl
        | some j =>
          refine .inr fun he => ?_
          have h1 := (HR2.out.lt j (by rw [← hob, hj])).2
          have h2 : some j = some w2.heap.size := he
          have h3 := Option.some.inj h2
          omega
  · have h0 : (J : Int) - ((M : Int) + 1) + 1 < 0 := by omega
    have hd : decide ((J : Int) - ((M : Int) + 1) + 1 < 0) = true := decide_eq_true h0
    go_enter Try.func39, Try.ntmps39
    go_wp2_with (first
      | (go_at_call 53; (with_reducible refine (HI.out _).mono ?_); rintro e w1 ⟨v, v1, v2, _, rfl, hw1⟩)
      | (go_at_call 33; (with_reducible refine (HCL.out _ hw1).mono ?_); rintro e w2 ⟨u, rfl, hrow2, hx2⟩
         have HX2 := Lib.hid hx2
         have HR2 := Lib.hid hrow2.out
         clear hrow2 hx2)
      | (at_make; refine wpList_make_ints rfl _ _ 22 rfl w2.heap.size 3 .i64 8 Try.underlying22 info_int _ _ 0 rfl rfl (by omega) (by unfold maxLen; omega) (Nat.le_refl _) ?_; intro w3 hown3 hgrow3
         have HX3 : Hid (Ex w2 w3) := Lib.hid (ex_grown (Ex.refl w2) hgrow3 (by intro k hk; cases hk))
         have HR3 : Hid (Row 3 .i64 w3 w2.heap.size (.slice (some ⟨w2.heap.size, 0, none⟩) 0 0) []) := Lib.hid hown3
         clear hown3 hgrow3))
    have HX1 := Lib.hid hw1
    go_loopg [13] 0 (fun k vSLOT x => vSLOT = .int .i64 (-1) ∧ Ex w3 x)
    case atStart => exact ⟨rfl, Ex.refl _⟩
    case round =>
      obtain ⟨rfl, hx⟩ := hrel
      have HT := Lib.hid (trim_row _ _ _ wr ((HR2.out.ex HX3.out).ex hx) HLM.out)
      go_wp2_with (go_at_call 37; (with_reducible refine (HT.out).mono ?_); rintro e w5 ⟨u5, rfl, hu, hob, hw5⟩)
      go_returns
      refine ⟨.slice (some ⟨w2.heap.size, 0, none⟩) 0 0, u5, rfl, Lib.hid ?_, Lib.hid ?_, Lib.hid (.inr ?_), HX1.out.trans (HX2.out.trans (HX3.out.trans (hx.trans hw5)))⟩
      · exact ((HR3.out.ex (hx.trans hw5)).less (Nat.le_trans HX1.out.size HX2.out.size))
      · rw [← HSH.out]; exact hu.out.less HX1.out.size
      · cases hj : u5.ownBlock with
        | none => exact .inl rfl
        | some j =>
          refine .inr fun he => ?_
          have h1 := (HR2.out.lt j (by rw [← hob, hj])).2
          have h2 : some j = some w2.heap.size := he
          have h3 := Option.some.inj h2
          omega

end Go.Proofs.Ytfempfmpphbfnaa
