/-
  The document's polynomials: Remain, Common.
-/
import Derived.Test.YtlpnopliblaknaaDoorGpb
namespace Go.Proofs.YtlpnopliblaknaaDoor
open Go.RowKit
open Pr Po

theorem rem_step {p b : Int} {f g q2 f2 : List Int} (hp : 0 < p) (hD : Dv p f g q2 f2) (h0 : g ≠ []) (hle : g.length ≤ f2.length) (hb : p ∣ b * nth g (g.length - 1) - 1) :
    ∃ q3, Dv p f g q3 (red p (plus f2 (-b * nth f2 (f2.length - 1)) g (f2.length - g.length))) ∧ (red p (plus f2 (-b * nth f2 (f2.length - 1)) g (f2.length - g.length))).length < f2.length := by
  have l0 := List.length_pos_iff.mpr h0
  have e1 : -b * nth f2 (f2.length - 1) = -(b * nth f2 (f2.length - 1)) := Int.neg_mul _ _
  rw [e1]
  refine ⟨_, (dv_step hD (b * nth f2 (f2.length - 1)) (f2.length - g.length)).cg (Cg.refl p _) (cg_red p _), ?_⟩
  refine step_less hp (List.length_pos_iff.mp (by omega)) h0 hle ?_
  have : p ∣ nth f2 (f2.length - 1) * (b * nth g (g.length - 1) - 1) := Int.dvd_mul_of_dvd_right hb
  rw [Int.mul_sub, Int.mul_one] at this
  rw [show b * nth f2 (f2.length - 1) * c g (g.length - 1) - c f2 (f2.length - 1) = nth f2 (f2.length - 1) * (b * nth g (g.length - 1)) - nth f2 (f2.length - 1) by
    rw [show c g (g.length - 1) = nth g (g.length - 1) from rfl, show c f2 (f2.length - 1) = nth f2 (f2.length - 1) from rfl]; grind]
  exact this

theorem inv_mod {p v Y : Int} (p2 : 2 ≤ p) (h : p ∣ v * Y - 1) : v * Y % p = 1 := by
  have h1 : v * Y % p = 1 % p := Int.emod_eq_emod_iff_emod_sub_eq_zero.mpr (Int.emod_eq_zero_of_dvd h)
  rw [h1]
  exact Int.emod_eq_of_lt (by omega) (by omega)

set_option maxRecDepth 100000 in
set_option maxHeartbeats 400000 in
theorem refRemain_any (p : Int) (f g : List Int) (a b : Option Addr) (ca cb : Nat) (w : World) (hp : Prm p) (p9 : p ≤ 997) (hf : Po.Can p f) (hg : Po.Can p g) (h0 : g ≠ []) (hl : f.length ≤ 300) (hl2 : g.length ≤ 100)
    (hr : Reads w .i64 a f) (hnil : a = none → ca = 0) (hcap : f.length ≤ ca) (hc9 : ca ≤ 9223372036854775807) (hr2 : Reads w .i64 b g) (q r : List Int) (hD : IsDv p f g q r) :
    Calls Tryd.prog 19 #[.int .i64 p, .slice a f.length ca, .slice b g.length cb] w (Row1 r w) := by
  have p2 := hp.1
  have h1p : (1 : Int) % p = 1 := Int.emod_eq_of_lt (by omega) (by omega)
  have HSH := Lib.hid (refShort_any f a ca w (by omega) hr hnil hcap hc9)
  rw [can_short hf] at HSH
  have HRG := Lib.hid fun w2 (hx : Ex w w2) => hr2.ex hx
  obtain ⟨M, hM⟩ : ∃ M, g.length = M + 1 := ⟨g.length - 1, by have := List.length_pos_iff.mpr h0; omega⟩
  obtain ⟨v, v1, v2, hv⟩ := last_inv hp hg h0
  rw [hM, Nat.add_sub_cancel] at hv
  have hvm := inv_mod p2 hv
  have HST : Hid (∀ (b : Int) (f2 q2 : List Int) (D : Nat), Dv p f g q2 f2 → f2.length = M + D + 1 → b * nth g M % p = 1 →
      ∃ q3, Dv p f g q3 (red p (plus f2 (-b * nth f2 (M + D)) g D)) ∧ (red p (plus f2 (-b * nth f2 (M + D)) g D)).length < M + D + 1) := Lib.hid fun b f2 q2 D hD hl hb => by
    have hd : p ∣ b * nth g M - 1 := ⟨b * nth g M / p, by have := Int.mul_ediv_add_emod (b * nth g M) p; omega⟩
    have := rem_step (b := b) (by omega) hD h0 (by omega) (by rw [hM, Nat.add_sub_cancel]; exact hd)
    rw [hl, Nat.add_sub_cancel, show M + D + 1 - g.length = D by omega] at this
    exact this
  have HDN : Hid (∀ f2 q2, Dv p f g q2 f2 → Po.Can p f2 → f2.length < M + 1 → f2 = r) := Lib.hid fun f2 q2 h1 h2 h3 =>
    (IsDv.uniq hp hg h0 ⟨can_red (by omega) q2, h2, by omega, h1.red⟩ hD).2
  have HPL : Hid (∀ (f2 : List Int) (D : Nat) (a2 : Option Addr) (c2 : Nat) (w2 : World) (t hi : Int), Ex w w2 → f2.length = M + D + 1 → M + D + 1 ≤ 300 → Po.Can p f2 → Reads w2 .i64 a2 f2 → (a2 = none → c2 = 0) → -1000000 ≤ t → t ≤ 1000000 → hi = D →
      Calls Tryd.prog 32 #[.int .i64 p, .slice a2 (M + D + 1) c2, .int .i64 t, .slice b (M + 1) cb, .int .i64 hi] w2 (Row1 (red p (plus f2 t g D)) w2)) := by
    refine Lib.hid fun f2 D a2 c2 w2 t hi hx e1 e2 hc hr3 hn t1 t2 e3 => ?_
    subst e3
    have := refPlus_any p t f2 g D a2 b c2 cb w2 (by omega) p9 t1 t2 hc.bnd hg.bnd (by omega) (by omega) (by omega) hr3 hn (hr2.ex hx)
    rw [e1, hM] at this
    exact this
  have HS0 := Lib.hid (dv_start p f g)
  have HCF := Lib.hid hf
  obtain ⟨Y, hY⟩ : ∃ Y, nth g M = Y := ⟨_, rfl⟩
  have yb := hg.bnd.at (by omega) M
  rw [hY] at HST hvm yb
  obtain ⟨y0, y1⟩ := yb
  have HKM := Lib.hid hM
  rw [hM] at hl2 ⊢
  have HCELL : Hid (∀ w2, Ex w w2 → ∃ bg og, b = some ⟨bg, og, none⟩ ∧ w2.cell? ⟨bg, og + M, none⟩ = some (.int .i64 Y)) := Lib.hid fun w2 hx => by
    rcases HRG.out _ hx with hn | ⟨bg, og, h1, hc⟩
    · exact absurd hn h0
    · exact ⟨bg, og, h1, by rw [← hY]; exact hc M (by omega)⟩
  have HVM := Lib.hid hvm
  have HL := Lib.hid hl
  clear hp hf hg hr hnil hcap hc9 hr2 hD hv hM hY h0 hvm hl
  go_enter Tryd.func19, Tryd.ntmps19
  go_wp2_with (first
    | (go_at_call 20; (with_reducible refine (HSH.out).mono ?_); rintro e w1 ⟨u, rfl, hu, hw1⟩
       obtain ⟨a2, c2, rfl, _, _, _⟩ := hu.out.reads))
  go_loopg [7] (v - 1).toNat (fun k v7 wr => ∃ b : Int, 1 ≤ b ∧ b ≤ v ∧ v7 = .int .i64 b ∧ Hid (k = (v - b).toNat) ∧ Ex w1 wr)
  case atStart => exact ⟨1, by omega, by omega, rfl, Lib.hid rfl, Ex.refl _⟩
  case round =>
    obtain ⟨b2, b0, b1, rfl, hk, hx⟩ := hrel
    obtain ⟨bg, og, rfl, hcell⟩ := HCELL.out wr (hw1.trans hx)
    obtain ⟨q0, q1⟩ := Eu.mul_le (a := b2) (b := Y) (A := 997) (B := 997) (by omega) (by omega) (by omega) (by omega)
    have c0 : ∀ x : Wo wr, x.val.cell? ⟨bg, og + M, none⟩ = some (.int .i64 Y) := fun x => x.ex.cell hcell
    obtain ⟨Z, hZ⟩ : ∃ Z, b2 * Y % p = Z := ⟨_, rfl⟩
    by_cases hz : Z = 1
    · have g0 : (Z != 1) = false := by simp [hz]
      have HZ := Lib.hid (hZ.trans hz)
      clear hz
      go_wp2
      refine wp_region_wo (by kernel_rfl) (by kernel_rfl) ?_
      repeat (go_big_quiet_step (fail))
      refine wpQuiet_nil ?_
      rintro _ ⟨⟨w3, hw3⟩, rfl⟩
      rename World => w3
      simp only [h1p]
      go_wp2
      clear g0 hZ c0 hcell q0 q1
      obtain ⟨B, hB⟩ : ∃ B, -b2 = B := ⟨_, rfl⟩
      have HX3 : Hid (Ex w1 w3) := Lib.hid (by repeat (first | assumption | exact Ex.refl _ | refine Ex.trans ?_ (by assumption)))
      have HU3 := Lib.hid (hu.out.ex HX3.out)
      have HX0 := Lib.hid (hw1.trans HX3.out)
      have B0 : -996 ≤ B := by omega
      have B1 : B ≤ 0 := by omega
      have HB := Lib.hid hB
      clear hx hk hu hw1 b0 b1 HX3 HSH
      go_loopg [1] f.length (fun k v1 wr => ∃ (f2 q2 : List Int) (a2 : Option Addr) (c2 : Nat), v1 = .slice a2 f2.length c2 ∧ Hid (Po.Can p f2) ∧ f2.length ≤ 300 ∧ Hid (Row 3 .i64 wr w.heap.size (.slice a2 f2.length c2) f2) ∧ Hid (Dv p f g q2 f2) ∧ Hid (k = f2.length) ∧ Ex w wr)
      case atStart => exact ⟨f, [], a2, c2, rfl, HCF, HL.out, HU3, HS0, Lib.hid rfl, HX0.out⟩
      case round =>
        obtain ⟨f2, q2, a2, c2, rfl, hcf, hl, hR, hD, hk, hx⟩ := hrel
        by_cases hlt : f2.length < M + 1
        · have he := HDN.out f2 q2 hD.out hcf.out hlt
          subst he
          have hlI : ¬ ((M : Int) + 1 ≤ (f2.length : Int)) := by omega
          go_wp2
          go_ret
          exact ⟨_, rfl, hR, hx⟩
        · obtain ⟨D, hDl⟩ : ∃ D, f2.length = M + D + 1 := ⟨f2.length - (M + 1), by omega⟩
          obtain ⟨q3, d3, l3⟩ := HST.out b2 f2 q2 D hD.out hDl HZ.out
          rw [HB.out] at d3 l3
          obtain ⟨X, hX⟩ : ∃ X, nth f2 (M + D) = X := ⟨_, rfl⟩
          have xb := hcf.out.bnd.at (by omega) (M + D)
          rw [hX] at d3 l3 xb
          obtain ⟨x0, x1⟩ := xb
          obtain ⟨m0, m1⟩ := Eu.abs_mul_le (a := B) (b := X) (B := 996) (C := 997) (by omega) (by omega) (by omega) (by omega)
          rcases hR.out.form with ⟨_, f4⟩ | ⟨bo, cp2, f1, _, _, _, _, fc, _⟩
          · rw [f4] at hDl
            simp at hDl
          simp only [Value.slice.injEq, true_and] at f1
          obtain ⟨rfl, rfl⟩ := f1
          have fcell := fc (M + D) (by omega)
          rw [hX] at fcell
          have hnl : (some (⟨bo, 0, none⟩ : Addr)) = none → c2 = 0 := fun h => by cases h
          have HPL2 := Lib.hid fun t hi => HPL.out f2 D (some ⟨bo, 0, none⟩) c2 wr t hi hx hDl (by omega) hcf.out hR.out.read hnl
          have HD3 := Lib.hid d3
          have HL3 := Lib.hid l3
          rw [hDl] at hk hl ⊢
          have hlI : ((M : Int) + 1 ≤ (M : Int) + (D : Int) + 1) := by omega
          clear hlt d3 l3 hX fc hDl hnl
          go_wp2_with (go_at_call 32; (with_reducible refine (HPL2.out _ _ (by omega) (by omega) (by omega)).mono ?_); rintro e w5 ⟨u, rfl, hu, hw5⟩)
          obtain ⟨a6, c6, rfl, _, _, _⟩ := hu.out.reads
          go_roundg ((red p (plus f2 (B * X) g D)).length)
          case measure => have := hk.out; have := HL3.out; omega
          case rel => exact ⟨_, q3, a6, c6, rfl, Lib.hid (can_red (by omega) _), by have := HL3.out; omega, Lib.hid (hu.out.less hx.size), HD3, Lib.hid rfl, hx.trans hw5⟩
    · have g0 : (Z != 1) = true := by simpa using hz
      have hlt : b2 ≠ v := fun h => hz (by rw [← hZ, h]; exact HVM.out)
      clear hz
      go_wp2
      refine wp_region_wo (by kernel_rfl) (by kernel_rfl) ?_
      repeat (go_big_quiet_step (fail))
      refine wpQuiet_nil ?_
      rintro _ ⟨⟨w3, hw3⟩, rfl⟩
      go_wp2
      go_roundg (v - (b2 + 1)).toNat
      case measure => have := hk.out; omega
      case rel => exact ⟨b2 + 1, by omega, by omega, by go_num, Lib.hid rfl, (by repeat (first | assumption | exact Ex.refl _ | refine Ex.trans ?_ (by assumption)))⟩

end Go.Proofs.YtlpnopliblaknaaDoor
