/-
  Package irred: irreducible, Is.
-/
import Derived.Test.YtimehaolaeedhaaIrRaise
import Derived.Test.YtimehaolaeedhaaGpa
namespace Go.Proofs.Ytimehaolaeedhaa
open Go.RowKit
open Pr Po

theorem irr_small {p : Int} {f : List Int} (hf : Po.Can p f) (hl : f.length = 2) : Irr p f := ⟨hf, by omega, fun g _ h1 h2 => by omega⟩
theorem irr_not {p : Int} {f : List Int} (hl : f.length < 2) : ¬ Irr p f := fun h => by have := h.2.1; omega

/-- So far nothing in common. -/
def NoneYet (p : Int) (q : Nat) (D : List Int) (i : Nat) : Prop := ∀ j g d, 1 ≤ j → j ≤ i → Cf p D (fx q j) g → IsG p d D g → d.length ≤ 1

theorem NoneYet.step {p : Int} {q : Nat} {D g d : List Int} {i : Nat} (hp : Prm p) (h : NoneYet p q D i) (hc : Cf p D (fx q (i + 1)) g) (hd : IsG p d D g) (hl : d.length ≤ 1) : NoneYet p q D (i + 1) := by
  intro j g2 d2 h1 h2 hc2 hd2
  by_cases e : j = i + 1
  · subst e
    have : IsG p d2 D g := hd2.alike (hc2.symm.trans hc)
    rw [this.uniq hp hd]; exact hl
  · exact h j g2 d2 h1 (by omega) hc2 hd2

theorem NoneYet.done {p : Int} {q : Nat} {D : List Int} {n m : Nat} (hp : Prm p) (hq : (q : Int) = p) (mD : Mo p n D) (hn : 1 ≤ n) (hm : n ≤ 2 * m + 1) (h : NoneYet p q D m) : Irr p D := by
  subst hq
  refine Classical.byContradiction fun hc => ?_
  obtain ⟨i, h1, h2, h3⟩ := rabin_no hp mD hn hc
  have p2 := hp.1
  obtain ⟨d, hd⟩ := isG_some hp (red q (fx q i)).length D (red q (fx q i)) (Nat.le_refl _) mD.1 (can_red (by omega) _)
  have hcf : Cf (q : Int) D (fx q i) (red q (fx q i)) := cf_of (cg_red _ _).symm
  have := h3 _ d hcf hd
  have := h i _ d h1 (by omega) hcf hd
  omega

theorem fx_next {p : Int} {q i : Nat} {D R R2 : List Int} (h : Cf p D (pwl xx (q ^ i)) R) (h2 : Cf p D (pwl R q) R2) : Cf p D (pwl xx (q ^ (i + 1))) R2 := by
  rw [Nat.pow_succ]
  exact (cf_of (pwl_mul xx (q ^ i) q).symm).trans ((pwl_cf h q).trans h2)

theorem fx_red {p : Int} {q i : Nat} {D R : List Int} (h : Cf p D (pwl xx (q ^ i)) R) : Cf p D (fx q i) (red p (add R [0, -1])) := by
  refine Cf.trans ?_ (cf_of (cg_red p _).symm)
  refine Di.cg h (Cg.of_eq fun j => ?_)
  unfold fx
  simp only [c_add, c_sc]
  omega

theorem h_start {p : Int} {D : List Int} (q L : Nat) (hL : 1 ≤ L) : Cf p D (pwl xx (q ^ 0)) ((List.replicate (L + 1) 0).set 1 1) := by
  refine cf_of (Cg.of_eq fun i => ?_)
  rw [Nat.pow_zero, pwl_xx]
  show _ = ((List.replicate (L + 1) (0 : Int)).set 1 1).getD i 0
  rw [List.getD_eq_getElem?_getD]
  by_cases h : i = 1
  · subst h
    rw [if_pos rfl, List.getElem?_set_self (by simp; omega)]
    rfl
  · rw [if_neg h, List.getElem?_set_ne (by omega), List.getElem?_replicate]
    split <;> rfl

set_option maxRecDepth 100000 in
set_option maxHeartbeats 4000000 in
theorem irreducible_any (p : Int) (q : Nat) (f : List Int) (a : Option Addr) (N ca : Nat) (w : World) (hp : Prm p) (hq : (q : Int) = p) (p9 : p ≤ 997) (hf : Po.Can p f) (hN : f.length = N) (hl : N ≤ 40) (hr : Reads w .i64 a f) (hnil : a = none → ca = 0) (b : Bool) (hb : b = true ↔ Irr p f) :
    Calls Try.prog 27 #[.int .i64 p, .slice a N ca] w (Says (.tuple #[.bool b, .int .i64 0]) w) := by
  by_cases h2 : N ≤ 2
  · have hb2 : b = decide (N = 2) := by
      by_cases e : N = 2
      · rw [hb.mpr (irr_small hf (by omega))]; simp [e]
      · have : b ≠ true := fun h => irr_not (by omega) (hb.mp h)
        simp [e, this]
    subst hb2
    clear hb hf hr hnil hN
    have h3 : N = 0 ∨ N = 1 ∨ N = 2 := by omega
    rcases h3 with rfl | rfl | rfl
    · go_enter Try.func27, Try.ntmps27
      go_wp2
      go_ret2
      exact ⟨rfl, Ex.refl _⟩
    · go_enter Try.func27, Try.ntmps27
      go_wp2
      go_ret2
      exact ⟨rfl, Ex.refl _⟩
    · go_enter Try.func27, Try.ntmps27
      go_wp2
      go_ret2
      exact ⟨rfl, Ex.refl _⟩
  · obtain ⟨L, rfl⟩ : ∃ L, N = L + 2 := ⟨N - 2, by omega⟩
    have hL : 1 ≤ L := by omega
    have p2 := hp.1
    have hf0 : f ≠ [] := fun e => by rw [e] at hN; simp at hN
    obtain ⟨D, hD⟩ := isG_some hp ([] : List Int).length f [] (Nat.le_refl _) hf (Can.nil p)
    have hDl : D.length = L + 2 := by
      obtain ⟨v, v1, v2, hv⟩ := last_inv hp hf hf0
      rw [hD.uniq hp (isG_mon hp hf hf0 v1 v2 hv), mon_len hp hf hf0 v1 v2, hN]
    have hD0 : D ≠ [] := fun e => by rw [e] at hDl; simp at hDl
    have mD : Mo p (L + 1) D := by
      have := mon_mo hD.mon hD0
      rwa [hDl, show L + 2 - 1 = L + 1 by omega] at this
    have hbD : b = true ↔ Irr p D := by rw [hb, irr_both hp mD.1 hf (by omega) hD.l]
    have HG1 : Hid (Calls Try.prog 24 #[.int .i64 p, .slice a (L + 2) ca, .slice none 0 0] w (Rowed D w)) := Lib.hid (by
      have := pgcd_ok p f [] a none ca 0 w hr hnil (.inl rfl) (fun _ => rfl) (bothE_zero.mpr ⟨hp, p9, by omega, hf, by simp, Can.nil p⟩) D hD
      rw [hN] at this
      exact this)
    have HRS : Hid (∀ (R : List Int) (ad ah : Option Addr) (cd ch : Nat) (w2 : World), R.length = L + 1 → Bnd p R → Reads w2 .i64 ad D → Reads w2 .i64 ah R → Calls Try.prog 46 #[.int .i64 p, .slice ad (L + 2) cd, .slice ah (L + 1) ch] w2 (Raised p q D R (L + 1) w2)) := Lib.hid fun R ad ah cd ch w2 h1 h2 h3 h4 =>
      raise_ok p q L (L + 2) D R ad ah cd ch w2 hp hq p9 mD hDl hL (by omega) h1 h2 h3 h4
    have HWX : Hid (∀ (R : List Int) (ah : Option Addr) (ch : Nat) (w2 : World), R.length = L + 1 → Bnd p R → Reads w2 .i64 ah R → (ah = none → ch = 0) → Calls Try.prog 47 #[.int .i64 p, .slice ah (L + 1) ch] w2 (Row1 (red p (add R [0, -1])) w2)) := Lib.hid fun R ah ch w2 h1 h2 h3 h4 =>
      without_ok p R ah (L + 1) ch w2 p2 p9 h1 (by omega) (by omega) h2 h3 h4
    have HGC : Hid (∀ (R : List Int), R.length = L + 1 → ∃ d, IsG p d D (red p (add R [0, -1])) ∧ ∀ (ad ag : Option Addr) (cd cg : Nat) (w2 : World), Reads w2 .i64 ad D → (ad = none → cd = 0) → Reads w2 .i64 ag (red p (add R [0, -1])) → (ag = none → cg = 0) → Calls Try.prog 24 #[.int .i64 p, .slice ad (L + 2) cd, .slice ag (red p (add R [0, -1])).length cg] w2 (Rowed d w2)) := Lib.hid fun R h1 => by
      have hc := can_red (p := p) (by omega) (add R [0, -1])
      have hln : (red p (add R [0, -1])).length ≤ 40 := by
        have e1 := red_length p (add R [0, -1])
        rw [add_length, h1] at e1
        simp at e1
        omega
      obtain ⟨d, hd⟩ := isG_some hp (red p (add R [0, -1])).length D _ (Nat.le_refl _) mD.1 hc
      refine ⟨d, hd, fun ad ag cd cg w2 k1 k2 k3 k4 => ?_⟩
      have := pgcd_ok p D _ ad ag cd cg w2 k1 k2 k3 k4 (bothE_zero.mpr ⟨hp, p9, by omega, mD.1, hln, hc⟩) d hd
      rw [hDl] at this
      exact this
    have HNX : Hid (∀ R R2 i, Cf p D (pwl xx (q ^ i)) R → Cf p D (pwl R q) R2 → Cf p D (pwl xx (q ^ (i + 1))) R2 ∧ Cf p D (fx q (i + 1)) (red p (add R2 [0, -1]))) := Lib.hid fun R R2 i h1 h2 => ⟨fx_next h1 h2, fx_red (fx_next h1 h2)⟩
    have HSP : Hid (∀ g d i, NoneYet p q D i → Cf p D (fx q (i + 1)) g → IsG p d D g → d.length ≤ 1 → NoneYet p q D (i + 1)) := Lib.hid fun g d i h1 h2 h3 h4 => h1.step hp h2 h3 h4
    have HYS : Hid (∀ i, L + 1 ≤ 2 * i + 1 → NoneYet p q D i → b = true) := Lib.hid fun i h1 h2 => hbD.mpr (h2.done hp hq mD (by omega) h1)
    have HNO : Hid (∀ g d i, 1 ≤ i → i < L + 1 → Cf p D (fx q i) g → IsG p d D g → 1 < d.length → b = false) := Lib.hid fun g d i h1 h2 h3 h4 h5 => by
      have : b ≠ true := fun h => by
        subst hq
        have := rabin_yes hp (hbD.mp h) mD h1 h2 h3 h4
        omega
      simpa using this
    have H0 : Hid (Cf p D (pwl xx (q ^ 0)) ((List.replicate (L + 1) 0).set 1 1)) := Lib.hid (h_start q L hL)
    have HB0 : Hid (Bnd p ((List.replicate (L + 1) (0 : Int)).set 1 1)) := Lib.hid fun x hx => by
      rcases List.mem_or_eq_of_mem_set hx with h1 | h1
      · have := List.eq_of_mem_replicate h1; omega
      · omega
    have HL0 : Hid (((List.replicate (L + 1) (0 : Int)).set 1 1).length = L + 1) := Lib.hid (by simp)
    have HN0 : Hid (NoneYet p q D 0) := Lib.hid fun j g d h1 h2 => by omega
    have HDL := Lib.hid hDl
    clear hp hq hf hr hnil hN hb hbD mD hD hD0 hDl hf0 h2
    obtain ⟨S0, hS0⟩ : ∃ S0, (List.replicate (L + 1) (0 : Int)).set 1 1 = S0 := ⟨_, rfl⟩
    have HS0 := Lib.hid hS0
    rw [hS0] at H0 HB0 HL0
    clear hS0
    obtain ⟨M, hM⟩ : ∃ M, (L + 1) / 2 = M := ⟨_, rfl⟩
    have HMI : Hid (((L : Int) + 2 - 1) / 2 = (M : Int)) := Lib.hid (by omega)
    have HM := Lib.hid hM
    clear hM
    go_enter Try.func27, Try.ntmps27
    go_wp2_with (first
      | (go_at_call 24; (with_reducible refine (HG1.out).mono ?_); rintro e w1 ⟨v1, rfl, hrow1, hw1⟩
         obtain ⟨ad, cd, rfl, _, hrd, hnd⟩ := hrow1.out.reads
         have HRD := Lib.hid hrd
         have HND := Lib.hid hnd
         rw [HDL.out]
         clear hrow1 hrd hnd)
      | (at_make
         refine wpList_make_ints rfl _ _ 22 rfl w1.heap.size 3 .i64 8 Try.underlying22 info_int _ _ (L + 1) (int_eq (by omega)) (int_eq (by omega)) (by omega) (by unfold maxLen; omega) (Nat.le_refl _) ?_
         intro w3 hown3 hgrow3
         have hx3 : Ex w1 w3 := ex_grown (Ex.refl w1) hgrow3 (by intro k hk; cases hk)
         obtain ⟨_, _, hcf, hfr⟩ := (show Row 3 .i64 w3 w1.heap.size (.slice (some ⟨w1.heap.size, 0, none⟩) (L + 1) (L + 1)) (fl (L + 1) fun _ => 0) by rw [← fl_zero]; exact hown3).flat
         have hf1 := hfr 1
         have hc1 := hcf 1 (by omega)
         have HSS := hown3.set (by simp) 1 1
         rw [HS0.out] at HSS
         have HR4 := Lib.hid HSS.1.read
         have HX4 := Lib.hid (ex_grown hx3 HSS.2 (by intro k hk; cases hk; exact Nat.le_refl _))
         clear hown3 hgrow3 hx3 hcf hfr HSS))
    go_loopg [8, 35] M (fun k v8 v35 wr => ∃ (i : Nat) (R : List Int) (ah : Option Addr) (ch : Nat), i ≤ M ∧ v8 = .slice ah (L + 1) ch ∧ v35 = .int .i64 i ∧ Hid (R.length = L + 1) ∧ Hid (Bnd p R) ∧ Hid (Cf p D (pwl xx (q ^ i)) R) ∧ Hid (NoneYet p q D i) ∧ Hid (Reads wr .i64 ah R) ∧ Hid (ah = none → ch = 0) ∧ Hid (k = M - i) ∧ Ex w1 wr)
    case atStart => exact ⟨0, S0, _, _, by omega, rfl, rfl, HL0, HB0, H0, HN0, HR4, Lib.hid (by intro h; cases h), Lib.hid rfl, HX4.out⟩
    case round =>
      obtain ⟨i, R, ah, ch, hi, rfl, rfl, hRl, hRB, hRC, hNY, hRR, hRn, hk, hx⟩ := hrel
      by_cases hlt : i < M
      · have hlt2 : (i : Int) < ((L : Int) + 2 - 1) / 2 := by rw [HMI.out]; omega
        have hiL : i < L := by have := HM.out; omega
        have HT := Lib.hid (HRS.out R ad ah cd ch wr hRl.out hRB.out (HRD.out.ex hx) hRR.out)
        go_wp2_with (first
          | (go_at_call 46; (with_reducible refine (HT.out).mono ?_); rintro e w5 ⟨v5, R2, rfl, hrow5, hl5, hB5, hC5, hw5⟩
             obtain ⟨a5, c5, rfl, _, hr5, hn5⟩ := hrow5.out.reads
             rw [hl5.out]
             obtain ⟨hC6, hC7⟩ := HNX.out R R2 i hRC.out hC5.out
             obtain ⟨d, hd, hgc⟩ := HGC.out R2 hl5.out
             have HC6 := Lib.hid hC6
             have HC7 := Lib.hid hC7
             have HD := Lib.hid hd
             have HGG := Lib.hid hgc
             have HR5 := Lib.hid hr5
             have HN5 := Lib.hid hn5
             have HX5 := Lib.hid (hx.trans hw5)
             have HT2 := Lib.hid (HWX.out R2 a5 c5 w5 hl5.out hB5.out hr5 hn5)
             clear hrow5 hr5 hn5 hC6 hC7 hd hgc hC5)
          | (go_at_call 47; (with_reducible refine (HT2.out).mono ?_); rintro e w6 ⟨v6, rfl, hrow6, hw6⟩
             obtain ⟨a6, c6, rfl, _, hr6, hn6⟩ := hrow6.out.reads
             have HT3 := Lib.hid (HGG.out ad a6 cd c6 w6 (HRD.out.ex (HX5.out.trans hw6)) HND.out hr6 hn6)
             have HX6 := Lib.hid (HX5.out.trans hw6)
             have HR6 := Lib.hid (HR5.out.ex hw6)
             clear hrow6 hr6 hn6)
          | (go_at_call 24; (with_reducible refine (HT3.out).mono ?_); rintro e w7 ⟨v7, rfl, hrow7, hw7⟩
             obtain ⟨a7, c7, rfl, _, _, _⟩ := hrow7.out.reads
             have HX7 := Lib.hid (HX6.out.trans hw7)
             have HR7 := Lib.hid (HR6.out.ex hw7)
             obtain ⟨Z, hZ⟩ : ∃ Z, d.length = Z := ⟨_, rfl⟩
             have HZ := Lib.hid hZ
             rw [hZ]
             clear hrow7 hZ))
        · have HF := Lib.hid (HNO.out _ d (i + 1) (by omega) (by omega) HC7.out HD.out (by rw [HZ.out]; omega))
          go_ret2
          exact ⟨by rw [HF.out]; rfl, hw1.trans HX7.out⟩
        · have HY := Lib.hid (HSP.out _ d i hNY.out HC7.out HD.out (by rw [HZ.out]; omega))
          go_roundg (M - (i + 1))
          case measure => have := hk.out; omega
          case rel => exact ⟨i + 1, R2, a5, c5, by omega, rfl, by go_num, hl5, hB5, HC6, HY, HR7, HN5, Lib.hid rfl, HX7.out⟩
      · have e : i = M := by omega
        subst e
        have HF := Lib.hid (HYS.out i (by have := HM.out; omega) hNY.out)
        have hnl : ¬ ((i : Int) < ((L : Int) + 2 - 1) / 2) := by rw [HMI.out]; omega
        go_wp2
        go_ret2
        exact ⟨by rw [HF.out]; rfl, hw1.trans hx⟩

end Go.Proofs.Ytimehaolaeedhaa
