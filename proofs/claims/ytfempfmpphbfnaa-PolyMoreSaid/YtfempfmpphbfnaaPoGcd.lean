/-
  Package poly: monic, Gcd.
-/
import Derived.Test.YtfempfmpphbfnaaPoDvL
namespace Go.Proofs.Ytfempfmpphbfnaa
open Go.RowKit
open Pr Po

theorem rowed_nil {w w2 : World} (h : Ex w w2) : Rowed [] w (.returned (.tuple #[.slice none 0 0, .int .i64 0])) w2 := ⟨_, rfl, Lib.hid (Row.nil _ _ _ _), h⟩

set_option maxRecDepth 100000 in
set_option maxHeartbeats 4000000 in
theorem monic_ok (p : Int) (f : List Int) (a : Option Addr) (ca : Nat) (w : World) (hr : Reads w .i64 a f) (hp : Prm p) (hp9 : p ≤ 997) (hf : Po.Can p f) (hl : f.length ≤ 60) (d : List Int) (hd : IsG p d f []) :
    Calls Try.prog 45 #[.int .i64 p, .slice a f.length ca] w (Rowed d w) := by
  have p2 := hp.1
  by_cases h0 : f = []
  · subst h0
    obtain rfl := hd.zero hp
    rw [List.length_nil]
    clear hr hl hf hd
    go_enter Try.func45, Try.ntmps45
    go_wp2
    go_ret2
    exact rowed_nil (Ex.refl _)
  · have HI := Lib.hid fun w2 => inv_last p f w2 hp hp9 hf h0
    have HRF := Lib.hid fun w2 (hx : Ex w w2) => hr.ex hx
    have HFB := Lib.hid hf.bnd
    obtain ⟨M, hM⟩ : ∃ M, f.length = M + 1 := ⟨f.length - 1, by have := List.length_pos_iff.mpr h0; omega⟩
    have HEND : Hid (∀ v, 1 ≤ v → v < p → p ∣ v * nth f M - 1 → fl (M + 1) (addm p (fun _ => 0) 0 v f f.length) = d) := Lib.hid fun v v1 v2 hv => by
      have e1 : red p (mul [v] f) = d := (isG_mon hp hf h0 v1 v2 (by rw [hM, Nat.add_sub_cancel]; exact hv)).uniq hp hd
      rw [← e1]
      refine row_red (by omega) (bnd_fl (addm_bnd (by omega) fun _ _ => by omega)) ((addm_cg (by omega)).trans (Cg.of_eq fun i => ?_)) (by rw [fl_length, mon_len hp hf h0 v1 v2]; omega)
      rw [one_c, c_plus]
      have hz : c (fl (M + 1) fun _ => 0) i = 0 := by
        by_cases hi : i < M + 1
        · exact c_fl hi
        · exact c_fl_over (by omega)
      rw [hz]
      simp
    rcases hr with hn2 | ⟨bf, of_, rfl, hc⟩
    · exact absurd hn2 h0
    have HKM := Lib.hid hM
    rw [hM] at hc HI hl ⊢
    rw [Nat.add_sub_cancel] at HI
    have hcl := hc M (by omega)
    obtain ⟨X, hX⟩ : ∃ X, nth f M = X := ⟨_, rfl⟩
    rw [hX] at HI hcl HEND
    have hb : ((M : Int) + 1 == 0) = false := by simp; omega
    clear hp hf h0 hc hX hM hd
    go_enter Try.func45, Try.ntmps45
    go_wp2_with (first
      | (go_at_call 53; (with_reducible refine (HI.out _).mono ?_); rintro e w1 ⟨v, v1, v2, HV, rfl, hw1⟩)
      | (at_make; refine wpList_make_ints rfl _ _ 22 rfl w1.heap.size 3 .i64 8 Try.underlying22 info_int _ _ (M + 1) rfl rfl (by omega) (by unfold maxLen; omega) (Nat.le_refl _) ?_; intro w3 hown3 hgrow3
         have HX3 : Hid (Ex w1 w3) := Lib.hid (ex_grown (Ex.refl w1) hgrow3 (by intro k hk; cases hk))
         have HA := Lib.hid fun (hrg : Reads w1 .i64 (some ⟨bf, of_, none⟩) f) => addMul_row p v (fun _ => 0) (M + 1) (M + 1) w1.heap.size 0 f (some ⟨bf, of_, none⟩) ca w1.heap.size w1 w3 (by omega) hp9 (by omega) (by omega) (fun _ _ => by omega) HFB.out (by have := HKM.out; omega) (by omega) HX3.out hrg (Nat.le_refl _) (by rw [fl_zero] at hown3; exact hown3)
         rw [HKM.out, Nat.sub_zero] at HA
         clear hown3 hgrow3)
      | (go_at_call 38; (with_reducible refine (HA.out (HRF.out _ hw1)).mono ?_); rintro e w6 ⟨rfl, hrow6, hg6⟩))
    go_ret2
    have HE := HEND.out v v1 v2 HV.out
    rw [HKM.out] at HE
    refine ⟨_, rfl, Lib.hid ?_, hw1.trans (ex_grown HX3.out hg6.out (by intro k hk; cases hk; exact Nat.le_refl _))⟩
    rw [← HE]
    exact hrow6.out.less hw1.size

set_option maxRecDepth 100000 in
set_option maxHeartbeats 2000000 in
theorem pgcd_no (p : Int) (f g : List Int) (a b : Option Addr) (ca cb : Nat) (w : World) (hl : f.length ≤ maxLen) (hr : Reads w .i64 a f) (hl2 : g.length ≤ maxLen) (hr2 : Reads w .i64 b g) (h : bothE p f g ≠ 0) :
    Calls Try.prog 23 #[.int .i64 p, .slice a f.length ca, .slice b g.length cb] w (Says (.tuple #[.slice none 0 0, .int .i64 (bothE p f g)]) w) := by
  have HC := Lib.hid (both_any p f g a b ca cb w hl hr hl2 hr2)
  obtain ⟨c, hc⟩ : ∃ c, bothE p f g = c := ⟨_, rfl⟩
  rw [hc] at HC h ⊢
  have hb : (c != 0) = true := by simpa using h
  clear hl hr hl2 hr2 h hc
  go_enter Try.func23, Try.ntmps23
  go_wp2_with (go_at_call 36; (with_reducible refine (HC.out).mono ?_); rintro e w2 ⟨rfl, hw2⟩)
  go_ret2
  exact ⟨rfl, hw2⟩

set_option maxRecDepth 100000 in
set_option maxHeartbeats 4000000 in
theorem pgcd_ok (p : Int) (f g : List Int) (a b : Option Addr) (ca cb : Nat) (w : World) (hr : Reads w .i64 a f) (hnil : a = none → ca = 0) (hr2 : Reads w .i64 b g) (hnil2 : b = none → cb = 0) (h : bothE p f g = 0) (d : List Int) (hd : IsG p d f g) :
    Calls Try.prog 23 #[.int .i64 p, .slice a f.length ca, .slice b g.length cb] w (Rowed d w) := by
  obtain ⟨hp, hp9, hl, hcf, hl2, hcg⟩ := bothE_zero.mp h
  have HC := Lib.hid (both_any p f g a b ca cb w (by unfold maxLen; omega) hr (by unfold maxLen; omega) hr2)
  rw [h] at HC
  have HP := Lib.hid hp
  have HR := Lib.hid fun w2 (hx : Ex w w2) => hr.ex hx
  have HR2 := Lib.hid fun w2 (hx : Ex w w2) => hr2.ex hx
  have HN := Lib.hid hnil
  have HN2 := Lib.hid hnil2
  have HCF := Lib.hid hcf
  have HCG := Lib.hid hcg
  have HD := Lib.hid hd
  have HL := Lib.hid hl
  have HL2 := Lib.hid hl2
  clear hr hr2 hnil hnil2 h hp hcf hcg hd
  go_enter Try.func23, Try.ntmps23
  go_wp2_with (go_at_call 36; (with_reducible refine (HC.out).mono ?_); rintro e w1 ⟨rfl, hw1⟩)
  go_loopg [1, 2] g.length (fun k v1 v2 x => ∃ (f2 g2 : List Int) (a2 b2 : Option Addr) (c2 d2 : Nat), v1 = .slice a2 f2.length c2 ∧ v2 = .slice b2 g2.length d2 ∧ Hid (Po.Can p f2) ∧ Hid (Po.Can p g2) ∧ f2.length ≤ 40 ∧ g2.length ≤ 40 ∧ Hid (Reads x .i64 a2 f2) ∧ Hid (Reads x .i64 b2 g2) ∧ Hid (a2 = none → c2 = 0) ∧ Hid (b2 = none → d2 = 0) ∧ Hid (IsG p d f2 g2) ∧ Hid (k = g2.length) ∧ Ex w x)
  case atStart => exact ⟨f, g, a, b, ca, cb, rfl, rfl, HCF, HCG, HL.out, HL2.out, Lib.hid (HR.out _ hw1), Lib.hid (HR2.out _ hw1), HN, HN2, HD, Lib.hid rfl, hw1⟩
  case round =>
    obtain ⟨f2, g2, a2, b2, c2, d2, rfl, rfl, hcf, hcg, hl, hl2, hr, hr2, hn, hn2, hG, hk, hx⟩ := hrel
    by_cases h0 : g2 = []
    · subst h0
      have HM := Lib.hid (monic_ok p f2 a2 c2 wr hr.out HP.out hp9 hcf.out (by omega) d hG.out)
      have hg : decide ((0 : Int) < (([] : List Int).length : Int)) = false := rfl
      clear hl
      go_wp2_with (go_at_call 45; (with_reducible refine (HM.out).mono ?_); rintro e w2 ⟨v, rfl, hrow, hw2⟩)
      go_ret2
      exact ⟨v, rfl, Lib.hid (hrow.out.less hx.size), hx.trans hw2⟩
    · have hk0 := List.length_pos_iff.mpr h0
      obtain ⟨q, r, hDv⟩ := dv_some HP.out hcf.out hcg.out h0
      have HDV := Lib.hid (divide_ok p f2 g2 a2 b2 c2 d2 wr hr.out hn.out hr2.out HP.out hp9 hcf.out hcg.out h0 (by omega) (by omega) q r hDv)
      have HG2 := Lib.hid (hG.out.next HP.out hcg.out hDv.2.1 hDv.2.2.2)
      have HCR := Lib.hid hDv.2.1
      have hrl := hDv.2.2.1
      clear hDv h0
      obtain ⟨K, hK⟩ : ∃ K, g2.length = K := ⟨_, rfl⟩
      have HK := Lib.hid hK
      rw [hK] at hk0 HDV hk hrl hl2 ⊢
      have hg : decide ((0 : Int) < (K : Int)) = true := decide_eq_true (by omega)
      clear hK
      go_wp2_with (first
        | (go_at_call 39; (with_reducible refine (HDV.out).mono ?_); rintro e w2 ⟨v, u, rfl, hq, hr3, _, hw2⟩
           obtain ⟨ad, cp, rfl, _, hr4, hnil4⟩ := hr3.out.reads
           have HR4 := Lib.hid hr4
           have HN4 := Lib.hid hnil4
           clear hr4 hnil4))
      go_roundg r.length
      case measure => have := hk.out; omega
      case rel => exact ⟨g2, r, b2, ad, d2, cp, by rw [HK.out], rfl, hcg, HCR, by have := HK.out; omega, by omega, Lib.hid (hr2.out.ex hw2), HR4, hn2, HN4, HG2, Lib.hid rfl, hx.trans hw2⟩

end Go.Proofs.Ytfempfmpphbfnaa
