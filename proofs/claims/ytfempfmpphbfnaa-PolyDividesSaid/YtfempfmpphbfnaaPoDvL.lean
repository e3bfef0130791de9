/-
  Package poly: divide where there are steps to take; Div.
-/
import Derived.Test.YtfempfmpphbfnaaPoDvW
namespace Go.Proofs.Ytfempfmpphbfnaa
open Go.RowKit
open Pr Po

set_option maxRecDepth 100000 in
set_option maxHeartbeats 4000000 in
theorem divide_long (p : Int) (f g : List Int) (a b : Option Addr) (ca cb : Nat) (w : World) (hr : Reads w .i64 a f) (hnil : a = none → ca = 0) (hr2 : Reads w .i64 b g) (hp : Prm p) (hp9 : p ≤ 997) (hf : Po.Can p f) (hg : Po.Can p g) (hg0 : g ≠ []) (hl : g.length ≤ f.length) (hl2 : f.length ≤ 60) (q r : List Int) (hD : IsDv p f g q r) :
    Calls Try.prog 39 #[.int .i64 p, .slice a f.length ca, .slice b g.length cb] w (Rows2 q r w) := by
  have p2 := hp.1
  have hf0 : f ≠ [] := fun e => by
    have := List.length_pos_iff.mpr hg0
    rw [e, List.length_nil] at hl
    omega
  have HI := Lib.hid fun w2 => inv_last p g w2 hp hp9 hg hg0
  have HCL := Lib.hid fun w2 (hx : Ex w w2) => clone_ints f a ca w2 (by omega) (hr.ex hx) hnil
  have HRG := Lib.hid fun w2 (hx : Ex w w2) => hr2.ex hx
  have HGB := Lib.hid hg.bnd
  obtain ⟨M, hM⟩ : ∃ M, g.length = M + 1 := ⟨g.length - 1, by have := List.length_pos_iff.mpr hg0; omega⟩
  obtain ⟨J, hJ⟩ : ∃ J, f.length = J := ⟨_, rfl⟩
  obtain ⟨n, hn⟩ : ∃ n, n + M = J := ⟨J - M, by omega⟩
  have HBEG : Hid (DvI p f g n J (fun _ => 0) (nth f) n) := Lib.hid (by
    have := DvI.begin (p := p) (g := g) (n := n) (by omega) hf.bnd (by omega)
    rwa [hJ] at this)
  have HSTEP : Hid (∀ v i Q R, p ∣ v * nth g M - 1 → i < n → DvI p f g n J Q R (i + 1) → DvI p f g n J (upd Q i (R (i + M) * v % p)) (addm p R i (p - R (i + M) * v % p) g g.length) i) := Lib.hid fun v i Q R hv hi hd => by
    have := hd.step (v := v) (by omega) hg0 (by rw [hM, Nat.add_sub_cancel]; exact hv) hi (by omega)
    rwa [show i + g.length - 1 = i + M by omega] at this
  have HDONE : Hid (∀ Q R, DvI p f g n J Q R 0 → fl n Q = q ∧ short (fl J R) = r) := Lib.hid fun Q R hd => by
    rw [← hJ] at hd ⊢
    have := hd.done hp hf hg0 (by omega)
    exact this.uniq hp hg hg0 hD
  rcases hr2 with hn2 | ⟨bg, og, rfl, hc⟩
  · exact absurd hn2 hg0
  have HKM := Lib.hid hM
  have HFR : Hid (f = fl J (nth f)) := Lib.hid (by rw [← hJ]; exact (fl_of f).symm)
  rw [hM] at hc HI hl ⊢
  rw [Nat.add_sub_cancel] at HI
  have hcl := hc M (by omega)
  obtain ⟨X, hX⟩ : ∃ X, nth g M = X := ⟨_, rfl⟩
  rw [hX] at HI hcl HSTEP
  have HJJ := Lib.hid hJ
  have HF0 := Lib.hid hf0
  rw [hJ] at HCL hl hl2 ⊢
  have h0 : (J : Int) - ((M : Int) + 1) + 1 = (n : Int) := by omega
  have hd : decide ((n : Int) < 0) = false := decide_eq_false (by omega)
  have hJb : J ≤ 60 := hl2
  have hnJ : n + M = J := hn
  clear hr hnil hp hf hg hg0 hc hX hJ hM hD hf0 hn
  go_enter Try.func39, Try.ntmps39
  go_wp2_with (first
    | (go_at_call 53; (with_reducible refine (HI.out _).mono ?_); rintro e w1 ⟨v, v1, v2, HV, rfl, hw1⟩)
    | (go_at_call 33; (with_reducible refine (HCL.out _ hw1).mono ?_); rintro e w2 ⟨u, rfl, hrow2, hx2⟩
       rcases hrow2.out.form with ⟨_, hz⟩ | ⟨br, cr, rfl, hb1, hb2, hc1, hc2, _, _⟩
       · exact absurd hz HF0.out
       rw [HJJ.out] at hc1 ⊢
       have HX2 := Lib.hid hx2
       have HR2 : Hid (Row 3 .i64 w2 w1.heap.size (.slice (some ⟨br, 0, none⟩) J cr) (fl J (nth f))) := Lib.hid (by rw [← HFR.out, ← HJJ.out]; exact hrow2.out)
       have HB1 := Lib.hid hb1
       have HB2 := Lib.hid hb2
       unfold maxLen at hc2
       clear hrow2 hx2 hb1 hb2)
    | (at_make; refine wpList_make_ints rfl _ _ 22 rfl w1.heap.size 3 .i64 8 Try.underlying22 info_int _ _ n rfl rfl (by omega) (by unfold maxLen; omega) HX2.out.size ?_; intro w3 hown3 hgrow3
       have HX3 : Hid (Ex w2 w3) := Lib.hid (ex_grown (Ex.refl w2) hgrow3 (by intro k hk; cases hk))
       have HR3 : Hid (Row 3 .i64 w3 w1.heap.size (.slice (some ⟨w2.heap.size, 0, none⟩) n n) (fl n fun _ => 0)) := Lib.hid (by rw [fl_zero] at hown3; exact hown3)
       have HBQ : Hid (w1.heap.size ≤ w2.heap.size) := Lib.hid HX2.out.size
       clear hown3 hgrow3))
  have HX1 := Lib.hid hw1
  have HRR := Lib.hid (HR2.out.ex HX3.out)
  have HX13 := Lib.hid (HX2.out.trans HX3.out)
  obtain ⟨bq, hbq⟩ : ∃ bq, w2.heap.size = bq := ⟨_, rfl⟩
  rw [hbq] at HR3 HB2 HBQ ⊢
  have HNE : Hid (br ≠ bq) := Lib.hid (by have := HB2.out; omega)
  clear HR2 HX3 hbq HX2 HB2
  have vb : 1 ≤ v ∧ v < p := ⟨v1, v2⟩
  have HLOOP : Hid (∃ m : Nat, m ≤ n ∧ (n : Int) - 1 = (m : Int) - 1 ∧ m = n) := Lib.hid ⟨n, Nat.le_refl _, rfl, rfl⟩
  clear HLOOP
  go_loopg [13] n (fun k vSLOT x => ∃ (m : Nat) (Q R : Nat → Int), m ≤ n ∧ ((m = 0 ∧ vSLOT = .int .i64 (-1)) ∨ ∃ i : Nat, m = i + 1 ∧ vSLOT = .int .i64 i) ∧ Hid (DvI p f g n J Q R m) ∧ Hid (Row 3 .i64 x w1.heap.size (.slice (some ⟨bq, 0, none⟩) n n) (fl n Q)) ∧ Hid (Row 3 .i64 x w1.heap.size (.slice (some ⟨br, 0, none⟩) J cr) (fl J R)) ∧ Hid (k = m) ∧ Ex w1 x)
  case atStart =>
    refine ⟨n, _, _, Nat.le_refl _, ?_, HBEG, HR3, HRR, Lib.hid rfl, HX13.out⟩
    by_cases hz : n = 0
    · left; refine ⟨hz, ?_⟩; subst hz; rfl
    · right; exact ⟨n - 1, by omega, by first | (congr 1; omega) | go_num⟩
  case round =>
    rename World => wo
    obtain ⟨m, Q, R, hm, hv, hDI, hRQ, hRR, hk, hx⟩ := hrel
    rcases hv with ⟨rfl, rfl⟩ | ⟨i, rfl, rfl⟩
    · have HE := Lib.hid (HDONE.out Q R hDI.out)
      have HT := Lib.hid (trim_row _ _ _ wo hRR.out (by rw [fl_length]; omega))
      go_wp2_with (go_at_call 37; (with_reducible refine (HT.out).mono ?_); rintro e w5 ⟨u5, rfl, hu, hob, hw5⟩)
      go_returns
      refine ⟨.slice (some ⟨bq, 0, none⟩) n n, u5, rfl, Lib.hid ?_, Lib.hid ?_, Lib.hid (.inr (.inr ?_)), HX1.out.trans (hx.trans hw5)⟩
      · rw [← HE.out.1]; exact (hRQ.out.ex hw5).less HX1.out.size
      · rw [← HE.out.2]; exact hu.out.less HX1.out.size
      · rw [hob]
        intro he
        exact HNE.out (Option.some.inj he)
    · have hin : i < n := by omega
      have hDI2 := hDI.out
      obtain ⟨_, _, hcq, hfq⟩ := hRQ.out.flat
      obtain ⟨_, _, hcr, hfr⟩ := hRR.out.flat
      have hci := hcr (i + M) (by omega)
      have hfi := hfq i
      have hqi := hcq i hin
      obtain ⟨y0, y1⟩ := hDI2.r (i + M) (by omega)
      have HNX := Lib.hid (HSTEP.out v i Q R HV.out hin hDI2)
      have HRB := Lib.hid hDI2.r
      obtain ⟨Y, hY⟩ : ∃ Y, R (i + M) = Y := ⟨_, rfl⟩
      rw [hY] at hci y0 y1 HNX
      have mm := mul_bound (A := 997) (B := 997) y0 (by omega) (by omega : 0 ≤ v) (by omega)
      obtain ⟨mm0, mm1⟩ := mm
      have z0 := Int.emod_nonneg (Y * v) (b := p) (by omega)
      have z1 := Int.emod_lt_of_pos (Y * v) (b := p) (by omega)
      have HS0 := hRQ.out.flset i (Y * v % p)
      obtain ⟨w3', hw3'⟩ : ∃ w3', wo.setCell ⟨bq, i, none⟩ (.int .i64 (Y * v % p)) = w3' := ⟨_, rfl⟩
      rw [hw3'] at HS0
      have HW3 := Lib.hid hw3'
      have HX4 := Lib.hid (ex_grown hx HS0.2 (by intro k hk; cases hk; exact HBQ.out))
      have HRR4 := Lib.hid (hRR.out.kept HS0.2 (.inr (by simp only [Value.ownBlock]; intro he; exact HNE.out (Option.some.inj he))))
      have HRQ4 := Lib.hid HS0.1
      clear hcq hcr hfq hfr hY HS0 hDI2 hw3'
      have e1 : (i : Int) + ((M : Int) + 1) - 1 = ((i + M : Nat) : Int) := by omega
      go_wp2
      rw [HW3.out]
      have HX5 := Lib.hid HX4.out.drew
      have HRR5 := Lib.hid (HRR4.out.ex (Ex.refl _).drew)
      have HRQ5 := Lib.hid (HRQ4.out.ex (Ex.refl _).drew)
      obtain ⟨_, _, hcq0, _⟩ := HRQ4.out.flat
      have hq0 := hcq0 i hin
      rw [upd_at] at hq0
      obtain ⟨Z, hZ⟩ : ∃ Z, Y * v % p = Z := ⟨_, rfl⟩
      rw [hZ] at hq0 z0 z1 HNX HRQ5
      have hiJ : i ≤ J := by omega
      clear hcq0 hci hfi hqi mm0 mm1
      go_still_tail 11, (by kernel_rfl)
      change wpList _ _ _ _ _ w3'.drew
      obtain ⟨_, _, hcq1, _⟩ := HRQ5.out.flat
      have hq1 := hcq1 i hin
      rw [upd_at] at hq1
      generalize w3'.drew = w4 at *
      have HA := Lib.hid fun (hrg : Reads w1 .i64 (some ⟨bg, og, none⟩) g) => addMul_row p (p - Z) R J cr br i g (some ⟨bg, og, none⟩) cb w1.heap.size w1 w4 (by omega) hp9 (by omega) (by omega) HRB.out HGB.out (by have := HKM.out; omega) (by omega) HX5.out hrg HB1.out HRR5.out
      rw [HKM.out] at HA
      rw [HKM.out] at HNX
      go_wp2_with (go_at_call 38; (with_reducible refine (HA.out (HRG.out _ HX1.out)).mono ?_); rintro e w6 ⟨rfl, hrow6, hg6⟩)
      have HRQ6 := Lib.hid (HRQ5.out.kept hg6.out (.inr (by simp only [Value.ownBlock]; intro he; exact HNE.out (Option.some.inj he).symm)))
      have HX6 := Lib.hid (ex_grown HX5.out hg6.out (by intro k hk; cases hk; exact HB1.out))
      go_roundg i
      case measure => have := hk.out; omega
      case rel =>
        refine ⟨i, _, _, by omega, ?_, HNX, HRQ6, hrow6, Lib.hid rfl, HX6.out⟩
        cases i with
        | zero => left; exact ⟨rfl, by first | rfl | go_num⟩
        | succ i => right; exact ⟨i, rfl, by first | rfl | go_num⟩

theorem divide_ok (p : Int) (f g : List Int) (a b : Option Addr) (ca cb : Nat) (w : World) (hr : Reads w .i64 a f) (hnil : a = none → ca = 0) (hr2 : Reads w .i64 b g) (hp : Prm p) (hp9 : p ≤ 997) (hf : Po.Can p f) (hg : Po.Can p g) (hg0 : g ≠ []) (hl : f.length ≤ 60) (hl2 : g.length ≤ 60) (q r : List Int) (hD : IsDv p f g q r) :
    Calls Try.prog 39 #[.int .i64 p, .slice a f.length ca, .slice b g.length cb] w (Rows2 q r w) := by
  by_cases h : f.length < g.length
  · have hs : IsDv p f g [] f := ⟨Po.Can.nil p, hf, h, dv_start p f g⟩
    obtain ⟨rfl, rfl⟩ := hs.uniq hp hg hg0 hD
    exact divide_short p f g a b ca cb w hr hnil hr2 hp hp9 hf hg h hl2
  · exact divide_long p f g a b ca cb w hr hnil hr2 hp hp9 hf hg hg0 (by omega) hl q r hD

set_option maxRecDepth 100000 in
set_option maxHeartbeats 2000000 in
theorem div_no (p : Int) (f g : List Int) (a b : Option Addr) (ca cb : Nat) (w : World) (hl : f.length ≤ maxLen) (hr : Reads w .i64 a f) (hl2 : g.length ≤ maxLen) (hr2 : Reads w .i64 b g) (h : bothE p f g ≠ 0) :
    Calls Try.prog 13 #[.int .i64 p, .slice a f.length ca, .slice b g.length cb] w (Says (.tuple #[.slice none 0 0, .slice none 0 0, .int .i64 (bothE p f g)]) w) := by
  have HC := Lib.hid (both_any p f g a b ca cb w hl hr hl2 hr2)
  obtain ⟨c, hc⟩ : ∃ c, bothE p f g = c := ⟨_, rfl⟩
  rw [hc] at HC h ⊢
  have hb : (c != 0) = true := by simpa using h
  clear hl hr hl2 hr2 h hc
  go_enter Try.func13, Try.ntmps13
  go_wp2_with (go_at_call 36; (with_reducible refine (HC.out).mono ?_); rintro e w2 ⟨rfl, hw2⟩)
  go_returns
  exact ⟨rfl, hw2⟩

set_option maxRecDepth 100000 in
set_option maxHeartbeats 2000000 in
theorem div_zero (p : Int) (f : List Int) (a b : Option Addr) (ca cb : Nat) (w : World) (hr : Reads w .i64 a f) (h : bothE p f [] = 0) :
    Calls Try.prog 13 #[.int .i64 p, .slice a f.length ca, .slice b 0 cb] w (Says (.tuple #[.slice none 0 0, .slice none 0 0, .int .i64 5]) w) := by
  obtain ⟨_, _, hl, _, _, _⟩ := bothE_zero.mp h
  have HC := Lib.hid (both_any p f [] a b ca cb w (by unfold maxLen; omega) hr (by unfold maxLen; simp) (.inl rfl))
  rw [h, List.length_nil] at HC
  obtain ⟨J, hJ⟩ : ∃ J, f.length = J := ⟨_, rfl⟩
  rw [hJ] at HC ⊢
  clear hr h hl hJ
  go_enter Try.func13, Try.ntmps13
  go_wp2_with (go_at_call 36; (with_reducible refine (HC.out).mono ?_); rintro e w2 ⟨rfl, hw2⟩)
  go_returns
  exact ⟨rfl, hw2⟩

set_option maxRecDepth 100000 in
set_option maxHeartbeats 2000000 in
theorem div_ok (p : Int) (f g : List Int) (a b : Option Addr) (ca cb : Nat) (w : World) (hr : Reads w .i64 a f) (hnil : a = none → ca = 0) (hr2 : Reads w .i64 b g) (h : bothE p f g = 0) (hg0 : g ≠ []) (q r : List Int) (hD : IsDv p f g q r) :
    Calls Try.prog 13 #[.int .i64 p, .slice a f.length ca, .slice b g.length cb] w (Rows2 q r w) := by
  obtain ⟨hp, hp9, hl, hcf, hl2, hcg⟩ := bothE_zero.mp h
  have HC := Lib.hid (both_any p f g a b ca cb w (by unfold maxLen; omega) hr (by unfold maxLen; omega) hr2)
  have HD := Lib.hid fun w2 (hx : Ex w w2) => divide_ok p f g a b ca cb w2 (hr.ex hx) hnil (hr2.ex hx) hp hp9 hcf hcg hg0 (by omega) (by omega) q r hD
  rw [h] at HC
  have hk := List.length_pos_iff.mpr hg0
  obtain ⟨J, hJ⟩ : ∃ J, f.length = J := ⟨_, rfl⟩
  obtain ⟨K, hK⟩ : ∃ K, g.length = K := ⟨_, rfl⟩
  rw [hJ] at HC HD hl ⊢
  rw [hK] at HC HD hk hl2 ⊢
  have hb2 : ((K : Int) == 0) = false := by simp; omega
  clear hr hr2 h hg0 hJ hK hp hcf hcg hnil hD
  go_enter Try.func13, Try.ntmps13
  go_wp2_with (first
    | (go_at_call 36; (with_reducible refine (HC.out).mono ?_); rintro e w1 ⟨rfl, hw1⟩)
    | (go_at_call 39; (with_reducible refine (HD.out _ hw1).mono ?_); rintro e w2 ⟨v, u, rfl, hq, hr, hne, hw2⟩))
  go_returns
  exact ⟨v, u, rfl, Lib.hid (hq.out.less hw1.size), Lib.hid (hr.out.less hw1.size), hne, hw1.trans hw2⟩

end Go.Proofs.Ytfempfmpphbfnaa
