/-
  The document's polynomials: Common.
-/
import Derived.Test.YtfempfmpphbfnaaPoRem
namespace Go.Proofs.Ytfempfmpphbfnaa
open Go.RowKit
open Pr Po

theorem row1_nil (w : World) : Row1 [] w (.returned (.slice none 0 0)) w := ⟨_, rfl, Lib.hid (Row.nil _ _ _ _), Ex.refl _⟩

set_option maxRecDepth 100000 in
set_option maxHeartbeats 400000 in
theorem refCommon_last (p : Int) (f : List Int) (a b : Option Addr) (ca cb : Nat) (w : World) (d : List Int) (hp : Prm p) (p9 : p ≤ 997) (hf : Po.Can p f) (hl : f.length ≤ 100) (hr : Reads w .i64 a f) (hd : IsG p d f []) :
    Calls Try.prog 26 #[.int .i64 p, .slice a f.length ca, .slice b 0 cb] w (Row1 d w) := by
  have p2 := hp.1
  by_cases h0 : f = []
  · subst h0
    obtain rfl := hd.zero hp
    rw [List.length_nil]
    clear hr hl hf hd
    go_enter Try.func26, Try.ntmps26
    go_wp2
    go_ret
    exact row1_nil _
  · have h1p : (1 : Int) % p = 1 := Int.emod_eq_of_lt (by omega) (by omega)
    obtain ⟨M, hM⟩ : ∃ M, f.length = M + 1 := ⟨f.length - 1, by have := List.length_pos_iff.mpr h0; omega⟩
    obtain ⟨v, v1, v2, hv⟩ := last_inv hp hf h0
    rw [hM, Nat.add_sub_cancel] at hv
    have HVM := Lib.hid (inv_mod p2 hv)
    have HE : Hid (∀ b, 1 ≤ b → b < p → b * nth f M % p = 1 → red p (mul [b] f) = d) := Lib.hid fun b h1 h2 hb => by
      have hd2 : p ∣ b * nth f (f.length - 1) - 1 := by
        rw [hM, Nat.add_sub_cancel]
        exact ⟨b * nth f M / p, by have := Int.mul_ediv_add_emod (b * nth f M) p; omega⟩
      exact (isG_mon hp hf h0 h1 h2 hd2).uniq hp hd
    have HPR : Hid (∀ (x : Int) (w2 : World), 0 ≤ x → x < p → Ex w w2 → Calls Try.prog 20 #[.int .i64 p, .slice (some ⟨w2.heap.size, 0, none⟩) 1 1, .slice a (M + 1) ca] (w2.alloc (.cells #[.int .i64 x] 3)) (Row1 (red p (mul [x] f)) (w2.alloc (.cells #[.int .i64 x] 3)))) := Lib.hid fun x w2 x0 x1 hx => by
      have := refProduct_any p [x] f (some ⟨w2.heap.size, 0, none⟩) a 1 ca (w2.alloc (.cells #[.int .i64 x] 3)) (by omega) p9 (fun y hy => by simp at hy; omega) hf.bnd (by simp) hl (reads_new .i64 [x] _ rfl _ _) (hr.ex (hx.alloc _))
      rw [hM] at this
      exact this
    obtain ⟨Y, hY⟩ : ∃ Y, nth f M = Y := ⟨_, rfl⟩
    have yb := hf.bnd.at (by omega) M
    rw [hY] at HVM HE yb
    obtain ⟨y0, y1⟩ := yb
    have HCELL : Hid (∀ w2, Ex w w2 → ∃ bg og, a = some ⟨bg, og, none⟩ ∧ w2.cell? ⟨bg, og + M, none⟩ = some (.int .i64 Y)) := Lib.hid fun w2 hx => by
      rcases hr.ex hx with hn | ⟨bg, og, h1, hc⟩
      · exact absurd hn h0
      · exact ⟨bg, og, h1, by rw [← hY]; exact hc M (by omega)⟩
    rw [hM] at hl ⊢
    have hb0 : ((M : Int) + 1 == 0) = false := by simp; omega
    clear hp hf hr hd hv hM hY h0
    go_enter Try.func26, Try.ntmps26
    go_wp2
    go_loopg [7] (v - 1).toNat (fun k v7 wr => ∃ b : Int, 1 ≤ b ∧ b ≤ v ∧ v7 = .int .i64 b ∧ Hid (k = (v - b).toNat) ∧ Ex w wr)
    case atStart => exact ⟨1, by omega, by omega, rfl, Lib.hid rfl, Ex.refl _⟩
    case round =>
      obtain ⟨b2, b0, b1, rfl, hk, hx⟩ := hrel
      obtain ⟨bg, og, rfl, hcell⟩ := HCELL.out wr hx
      obtain ⟨q0, q1⟩ := Eu.mul_le (a := b2) (b := Y) (A := 997) (B := 997) (by omega) (by omega) (by omega) (by omega)
      have c0 : ∀ x : Wo wr, x.val.cell? ⟨bg, og + M, none⟩ = some (.int .i64 Y) := fun x => x.ex.cell hcell
      obtain ⟨Z, hZ⟩ : ∃ Z, b2 * Y % p = Z := ⟨_, rfl⟩
      by_cases hz : Z = 1
      · have g0 : (Z != 1) = false := by simp [hz]
        have HZ := Lib.hid (hZ.trans hz)
        clear hz
        go_wp2
        refine wp_region_wo (by kernel_rfl) (by kernel_rfl) ?_
        repeat (go_big_quiet_step (fail))
        refine wpQuiet_nil ?_
        rintro _ ⟨⟨w3, hw3⟩, rfl⟩
        rename World => w3
        have HX3 : Hid (Ex w w3) := Lib.hid (by repeat (first | assumption | exact Ex.refl _ | refine Ex.trans ?_ (by assumption)))
        have hb2 : b2 % p = b2 := Int.emod_eq_of_lt (by omega) (by omega)
        have HPR3 := Lib.hid (HPR.out b2 w3 (by omega) (by omega) HX3.out)
        clear g0 hZ c0 hcell q0 q1
        go_wp2_with (go_at_call 20; (with_reducible refine (HPR3.out).mono ?_); rintro e w5 ⟨u, rfl, hu, hw5⟩)
        go_ret
        refine ⟨_, rfl, Lib.hid ?_, (HX3.out.alloc _).trans hw5⟩
        rw [← HE.out b2 (by omega) (by omega) HZ.out]
        exact hu.out.less (HX3.out.alloc _).size
      · have g0 : (Z != 1) = true := by simpa using hz
        have hlt : b2 ≠ v := fun h => hz (by rw [← hZ, h]; exact HVM.out)
        clear hz
        go_wp2
        refine wp_region_wo (by kernel_rfl) (by kernel_rfl) ?_
        repeat (go_big_quiet_step (fail))
        refine wpQuiet_nil ?_
        rintro _ ⟨⟨w3, hw3⟩, rfl⟩
        go_wp2
        go_roundg (v - (b2 + 1)).toNat
        case measure => have := hk.out; omega
        case rel => exact ⟨b2 + 1, by omega, by omega, by go_num, Lib.hid rfl, (by repeat (first | assumption | exact Ex.refl _ | refine Ex.trans ?_ (by assumption)))⟩

set_option maxRecDepth 100000 in
set_option maxHeartbeats 400000 in
theorem refCommon_any (p : Int) (hp : Prm p) (p9 : p ≤ 997) : ∀ (n : Nat) (f g : List Int) (a b : Option Addr) (ca cb : Nat) (w : World) (d : List Int), g.length ≤ n → Po.Can p f → Po.Can p g → f.length ≤ 100 → g.length ≤ 100 →
    Reads w .i64 a f → (a = none → ca = 0) → f.length ≤ ca → ca ≤ 9223372036854775807 → Reads w .i64 b g → (b = none → cb = 0) → g.length ≤ cb → cb ≤ 9223372036854775807 → IsG p d f g →
    Calls Try.prog 26 #[.int .i64 p, .slice a f.length ca, .slice b g.length cb] w (Row1 d w) := by
  intro n
  induction n with
  | zero =>
    intro f g a b ca cb w d hn hf hg hl hl2 hr hnil hcap hc9 hr2 hnil2 hcap2 hc92 hd
    have h0 : g = [] := List.length_eq_zero_iff.mp (by omega)
    subst h0
    exact refCommon_last p f a b ca cb w d hp p9 hf hl hr hd
  | succ n ih =>
    intro f g a b ca cb w d hn hf hg hl hl2 hr hnil hcap hc9 hr2 hnil2 hcap2 hc92 hd
    by_cases h0 : g = []
    · subst h0
      exact refCommon_last p f a b ca cb w d hp p9 hf hl hr hd
    · obtain ⟨q, r, hD⟩ := dv_some hp hf hg h0
      have HRM := Lib.hid (refRemain_any p f g a b ca cb w hp p9 hf hg h0 hl hl2 hr hnil hcap hc9 hr2 q r hD)
      have HIH : Hid (∀ (w2 : World) (v : Option Addr) (m c2 : Nat), Ex w w2 → m = r.length → Row 3 .i64 w2 w.heap.size (.slice v m c2) r → Calls Try.prog 26 #[.int .i64 p, .slice b g.length cb, .slice v m c2] w2 (Row1 d w2)) := Lib.hid fun w2 v m c2 hx em hrow => by
        subst em
        have hf3 := hrow.form
        have hcc : r.length ≤ c2 ∧ c2 ≤ 9223372036854775807 ∧ (v = none → c2 = 0) := by
          rcases hf3 with ⟨f1, f2⟩ | ⟨bo, cp2, f1, _, _, fc1, fc2, _, _⟩
          · simp only [Value.slice.injEq] at f1
            exact ⟨by omega, by omega, fun _ => f1.2.2⟩
          · simp only [Value.slice.injEq, true_and] at f1
            unfold maxLen at fc2
            exact ⟨by omega, by omega, fun h => by rw [f1.1] at h; cases h⟩
        exact ih g r b v cb c2 w2 d (by have := hD.2.2.1; omega) hg hD.2.1 hl2 (by have := hD.2.2.1; omega) (hr2.ex hx) hnil2 hcap2 hc92 hrow.read hcc.2.2 hcc.1 hcc.2.1 (hd.next hp hg hD.2.1 hD.2.2.2)
      obtain ⟨K, hK⟩ : ∃ K, g.length = K := ⟨_, rfl⟩
      have k0 := List.length_pos_iff.mpr h0
      rw [hK] at HRM HIH k0 hl2 ⊢
      have hb0 : ((K : Int) == 0) = false := by simp; omega
      clear ih hf hg hr hnil hcap hc9 hr2 hnil2 hcap2 hc92 hd hD h0 hK hn
      go_enter Try.func26, Try.ntmps26
      go_wp2_with (first
        | (go_at_call 21; (with_reducible refine (HRM.out).mono ?_); rintro e w3 ⟨u, rfl, hu, hw3⟩
           obtain ⟨a6, c6, rfl, _, _, _⟩ := hu.out.reads
           have HC6 := Lib.hid (HIH.out w3 a6 _ c6 hw3 rfl hu.out))
        | (go_at_call 26; (with_reducible refine (HC6.out).mono ?_); rintro e w4 ⟨u, rfl, hu4, hw4⟩))
      go_ret
      exact ⟨_, rfl, Lib.hid (hu4.out.less hw3.size), hw3.trans hw4⟩

end Go.Proofs.Ytfempfmpphbfnaa
