/-
  PolySays, walked.
-/
import Derived.Test.YtfempfmpphbfnaaPoDivs
import Derived.Test.YtfempfmpphbfnaaPoRem
namespace Go.Proofs.Ytfempfmpphbfnaa
open Go.RowKit
open Pr Po

def Slc2c (q r : List Int) (N M : Nat) (w : World) (e : Ending) (w2 : World) : Prop := ∃ a2 c2 a3 c3, e = .returned (.tuple #[.slice a2 N c2, .slice a3 M c3, .int .i64 0]) ∧ Hid (Reads w2 .i64 a2 q) ∧ Hid (a2 = none → c2 = 0) ∧ Hid (N ≤ c2 ∧ c2 ≤ 9223372036854775807) ∧ Hid (Reads w2 .i64 a3 r) ∧ Hid (a3 = none → c3 = 0) ∧ Ex w w2

theorem row_caps {e : TypeId} {k : IntKind} {w : World} {base n c : Nat} {a : Option Addr} {xs : List Int} (h : Row e k w base (.slice a n c) xs) : n ≤ c ∧ c ≤ 9223372036854775807 := by
  rcases h.form with ⟨f1, f2⟩ | ⟨bo, cp2, f1, _, _, fc1, fc2, _, _⟩
  · simp only [Value.slice.injEq] at f1
    omega
  · simp only [Value.slice.injEq] at f1
    unfold maxLen at fc2
    omega

theorem Rows2.slcc {q r : List Int} {N M : Nat} {w w2 : World} {e : Ending} (k : Rows2 q r w e w2) (hN : q.length = N) (hM : r.length = M) : Slc2c q r N M w e w2 := by
  obtain ⟨v, u, rfl, hrow, hrow2, _, hx⟩ := k
  obtain ⟨a2, c2, rfl, _, hr, hn⟩ := hrow.out.reads
  obtain ⟨a3, c3, rfl, _, hr3, hn3⟩ := hrow2.out.reads
  have hc := row_caps hrow.out
  rw [hN] at hc
  exact ⟨a2, c2, a3, c3, by rw [hN, hM], Lib.hid hr, Lib.hid hn, Lib.hid hc, Lib.hid hr3, Lib.hid hn3, hx⟩

theorem sameS {f : List Int} {L : Nat} (hL : f.length = L) (hl : L ≤ 1000) (w : World) (a b : Option Addr) (ca cb : Nat) (h1 : Reads w .i64 a f) (h2 : Reads w .i64 b f) :
    Calls Try.prog 18 #[.slice a L ca, .slice b L cb] w (Says (.bool true) w) := by
  have HE := Lib.hid (eqS hL hl w a b ca cb h1 h2)
  clear h1 h2 hL hl
  go_enter Try.func18, Try.ntmps18
  go_wp2_with (go_at_call 31; (with_reducible refine (HE.out).mono ?_); rintro e w2 ⟨rfl, hw2⟩)
  go_ret
  exact ⟨rfl, hw2⟩

theorem red_plus_one {p : Int} (hp : 0 < p) (f g : List Int) : red p (plus f 1 g 0) = red p (add f g) := red_cg hp (Cg.of_eq (plus_one f g))

set_option maxRecDepth 100000 in
set_option maxHeartbeats 1000000 in
theorem polySays_z (p : Int) (a1 : Option Addr) (c1 : Nat) (f : List Int) (a2 : Option Addr) (c2 : Nat) (g : List Int) (w : World) (hr1 : Reads w .i64 a1 f) (hn1 : a1 = none → c1 = 0) (hr2 : Reads w .i64 a2 g) (hB : bothE p f g = 0) (h0 : g = []) :
    Calls Try.prog 3 #[.int .i64 p, .slice a1 f.length c1, .slice a2 g.length c2] w (Says (.bool true) w) := by
  obtain ⟨hp, hp9, lf, cf, lg, cg⟩ := bothE_zero.mp hB
  have p2 := hp.1
  have HFI := Lib.hid fun w2 => field_any p w2
  have HFE := Lib.hid fun w2 => fieldErr_any p w2
  have HCH := Lib.hid fun w2 (hx : Ex w w2) => pcheck_any p f a1 c1 w2 (by unfold maxLen; omega) (hr1.ex hx)
  have HP1 := Lib.hid fun w2 (hx : Ex w w2) => polyErr_any p f a1 c1 w2 (by unfold maxLen; omega) (hr1.ex hx)
  have HP2 := Lib.hid fun w2 (hx : Ex w w2) => polyErr_any p g a2 c2 w2 (by unfold maxLen; omega) (hr2.ex hx)
  rw [fieldE_zero.mpr ⟨hp, hp9⟩] at HFI HFE
  rw [polyE_zero.mpr ⟨hp, hp9, lf, cf⟩] at HCH HP1
  rw [polyE_zero.mpr ⟨hp, hp9, lg, cg⟩] at HP2
  have sl := red_length p (add f g)
  rw [add_length] at sl
  obtain ⟨S, hS⟩ : ∃ S, red p (add f g) = S := ⟨_, rfl⟩
  obtain ⟨NS, hNS⟩ : ∃ NS, S.length = NS := ⟨_, rfl⟩
  rw [hS, hNS] at sl
  have HA := Lib.hid fun w2 (hx : Ex w w2) => addS hp hp9 cf cg rfl rfl lf lg hS hNS w2 a1 a2 c1 c2 (hr1.ex hx) (hr2.ex hx)
  have HPL : Hid (∀ w2, Ex w w2 → Calls Try.prog 19 #[.int .i64 p, .slice a1 f.length c1, .int .i64 1, .slice a2 g.length c2, .int .i64 0] w2 (Slc1 S NS w2)) := Lib.hid fun w2 hx => by
    have := refPlus_any p 1 f g 0 a1 a2 c1 c2 w2 (by omega) hp9 (by omega) (by omega) cf.bnd cg.bnd (by omega) (by omega) (by omega) (hr1.ex hx) hn1 (hr2.ex hx)
    rw [red_plus_one (by omega), hS] at this
    exact this.mono fun e w3 k => Row1.slc k hNS
  have HS1 := Lib.hid (sameS hNS (by omega))
  have HRF := Lib.hid fun w2 (hx : Ex w w2) => hr1.ex hx
  have hfit : f = [] ∨ g = [] ∨ f.length + g.length ≤ 41 := .inr (.inl h0)
  have ml := prod_len p f g f.length
  rw [List.take_length] at ml
  obtain ⟨M, hM⟩ : ∃ M, red p (mul f g) = M := ⟨_, rfl⟩
  obtain ⟨NM, hNM⟩ : ∃ NM, M.length = NM := ⟨_, rfl⟩
  rw [hM, hNM] at ml
  have HPR : Hid (∀ w2, Ex w w2 → Calls Try.prog 20 #[.int .i64 p, .slice a1 f.length c1, .slice a2 g.length c2] w2 (Slc1 M NM w2)) := Lib.hid fun w2 hx => by
    have := refProduct_any p f g a1 a2 c1 c2 w2 (by omega) hp9 cf.bnd cg.bnd (by omega) (by omega) (hr1.ex hx) (hr2.ex hx)
    rw [hM] at this
    exact this.mono fun e w3 k => Row1.slc k hNM
  have HS2 := Lib.hid (sameS hNM (by omega))
  have HM : Hid (∀ w2, Ex w w2 → Calls Try.prog 12 #[.int .i64 p, .slice a1 f.length c1, .slice a2 g.length c2] w2 (Slc M NM w2)) := Lib.hid fun w2 hx => by
    have := mul_ok p f g a1 a2 c1 c2 w2 (hr1.ex hx) (hr2.ex hx) hB hfit
    rw [hM] at this
    exact this.mono fun e w3 k => Rowed.slc k hNM
  subst h0
  have HD := Lib.hid fun w2 (hx : Ex w w2) => div_zero p f a1 a2 c1 c2 w2 (hr1.ex hx) hB
  obtain ⟨LF, hLF⟩ : ∃ LF, f.length = LF := ⟨_, rfl⟩
  rw [hLF] at HCH HP1 HA HPL HPR HM HD lf ml sl ⊢
  simp only [List.length_nil] at HP2 HA HPL HPR HM ml sl ⊢
  clear hr1 hr2 hB hp cf cg hS hNS hM hNM hfit hLF hn1
  by_cases hF : LF = 0
  · subst hF
    go_enter Try.func3, Try.ntmps3
    go_wp2_with (first
      | (go_at_call 11; (with_reducible refine (HA.out _ (by repeat (first | assumption | exact Ex.refl _ | refine Ex.trans ?_ (by assumption)))).mono ?_); rintro e w1 ⟨b1, d1, rfl, hr1, hn1, hw1⟩)
      | (go_at_call 14; (with_reducible refine (HFI.out _).mono ?_); rintro e w4 ⟨rfl, hw4⟩)
      | (go_at_call 15; (with_reducible refine (HFE.out _).mono ?_); rintro e w5 ⟨rfl, hw5⟩)
      | (go_at_call 16; (with_reducible refine (HCH.out _ (by repeat (first | assumption | exact Ex.refl _ | refine Ex.trans ?_ (by assumption)))).mono ?_); rintro e w6 ⟨rfl, hw6⟩)
      | (go_at_call 17; (with_reducible refine (HP1.out _ (by repeat (first | assumption | exact Ex.refl _ | refine Ex.trans ?_ (by assumption)))).mono ?_); rintro e w7 ⟨rfl, hw7⟩)
      | (go_at_call 17; (with_reducible refine (HP2.out _ (by repeat (first | assumption | exact Ex.refl _ | refine Ex.trans ?_ (by assumption)))).mono ?_); rintro e w8 ⟨rfl, hw8⟩)
      | (go_at_call 19; (with_reducible refine (HPL.out _ (by repeat (first | assumption | exact Ex.refl _ | refine Ex.trans ?_ (by assumption)))).mono ?_); rintro e w9 ⟨b9, d9, rfl, hr9, hn9, hw9⟩)
      | (go_at_call 18; (with_reducible refine (HS1.out _ _ _ _ _ (hr1.out.ex (by repeat (first | assumption | exact Ex.refl _ | refine Ex.trans ?_ (by assumption)))) (hr9.out.ex (by repeat (first | assumption | exact Ex.refl _ | refine Ex.trans ?_ (by assumption))))).mono ?_); rintro e w10 ⟨rfl, hw10⟩)
      | (go_at_call 12; (with_reducible refine (HM.out _ (by repeat (first | assumption | exact Ex.refl _ | refine Ex.trans ?_ (by assumption)))).mono ?_); rintro e w2 ⟨b2, d2, rfl, hr2, hn2, hw2⟩) | (go_at_call 20; (with_reducible refine (HPR.out _ (by repeat (first | assumption | exact Ex.refl _ | refine Ex.trans ?_ (by assumption)))).mono ?_); rintro e w11 ⟨b11, d11, rfl, hr11, hn11, hw11⟩) | (go_at_call 18; (with_reducible refine (HS2.out _ _ _ _ _ (hr2.out.ex (by repeat (first | assumption | exact Ex.refl _ | refine Ex.trans ?_ (by assumption)))) (hr11.out.ex (by repeat (first | assumption | exact Ex.refl _ | refine Ex.trans ?_ (by assumption))))).mono ?_); rintro e w12 ⟨rfl, hw12⟩) | (go_at_call 13; (with_reducible refine (HD.out _ (by repeat (first | assumption | exact Ex.refl _ | refine Ex.trans ?_ (by assumption)))).mono ?_); rintro e w3 ⟨rfl, hw3⟩))
    go_ret
    exact ⟨rfl, (by repeat (first | assumption | exact Ex.refl _ | refine Ex.trans ?_ (by assumption)))⟩
  · have hF0 : (0 : Int) < (LF : Int) := by omega
    go_enter Try.func3, Try.ntmps3
    go_wp2_with (first
      | (go_at_call 11; (with_reducible refine (HA.out _ (by repeat (first | assumption | exact Ex.refl _ | refine Ex.trans ?_ (by assumption)))).mono ?_); rintro e w1 ⟨b1, d1, rfl, hr1, hn1, hw1⟩)
      | (go_at_call 14; (with_reducible refine (HFI.out _).mono ?_); rintro e w4 ⟨rfl, hw4⟩)
      | (go_at_call 15; (with_reducible refine (HFE.out _).mono ?_); rintro e w5 ⟨rfl, hw5⟩)
      | (go_at_call 16; (with_reducible refine (HCH.out _ (by repeat (first | assumption | exact Ex.refl _ | refine Ex.trans ?_ (by assumption)))).mono ?_); rintro e w6 ⟨rfl, hw6⟩)
      | (go_at_call 17; (with_reducible refine (HP1.out _ (by repeat (first | assumption | exact Ex.refl _ | refine Ex.trans ?_ (by assumption)))).mono ?_); rintro e w7 ⟨rfl, hw7⟩)
      | (go_at_call 17; (with_reducible refine (HP2.out _ (by repeat (first | assumption | exact Ex.refl _ | refine Ex.trans ?_ (by assumption)))).mono ?_); rintro e w8 ⟨rfl, hw8⟩)
      | (go_at_call 19; (with_reducible refine (HPL.out _ (by repeat (first | assumption | exact Ex.refl _ | refine Ex.trans ?_ (by assumption)))).mono ?_); rintro e w9 ⟨b9, d9, rfl, hr9, hn9, hw9⟩)
      | (go_at_call 18; (with_reducible refine (HS1.out _ _ _ _ _ (hr1.out.ex (by repeat (first | assumption | exact Ex.refl _ | refine Ex.trans ?_ (by assumption)))) (hr9.out.ex (by repeat (first | assumption | exact Ex.refl _ | refine Ex.trans ?_ (by assumption))))).mono ?_); rintro e w10 ⟨rfl, hw10⟩)
      | (go_at_call 12; (with_reducible refine (HM.out _ (by repeat (first | assumption | exact Ex.refl _ | refine Ex.trans ?_ (by assumption)))).mono ?_); rintro e w2 ⟨b2, d2, rfl, hr2, hn2, hw2⟩) | (go_at_call 20; (with_reducible refine (HPR.out _ (by repeat (first | assumption | exact Ex.refl _ | refine Ex.trans ?_ (by assumption)))).mono ?_); rintro e w11 ⟨b11, d11, rfl, hr11, hn11, hw11⟩) | (go_at_call 18; (with_reducible refine (HS2.out _ _ _ _ _ (hr2.out.ex (by repeat (first | assumption | exact Ex.refl _ | refine Ex.trans ?_ (by assumption)))) (hr11.out.ex (by repeat (first | assumption | exact Ex.refl _ | refine Ex.trans ?_ (by assumption))))).mono ?_); rintro e w12 ⟨rfl, hw12⟩) | (go_at_call 13; (with_reducible refine (HD.out _ (by repeat (first | assumption | exact Ex.refl _ | refine Ex.trans ?_ (by assumption)))).mono ?_); rintro e w3 ⟨rfl, hw3⟩))
    go_ret
    exact ⟨rfl, (by repeat (first | assumption | exact Ex.refl _ | refine Ex.trans ?_ (by assumption)))⟩

set_option maxRecDepth 100000 in
set_option maxHeartbeats 1000000 in
theorem polySays_fit (p : Int) (a1 : Option Addr) (c1 : Nat) (f : List Int) (a2 : Option Addr) (c2 : Nat) (g : List Int) (w : World) (hc1 : f.length ≤ c1) (hb1 : c1 ≤ 9223372036854775807) (hr1 : Reads w .i64 a1 f) (hn1 : a1 = none → c1 = 0) (hr2 : Reads w .i64 a2 g) (hB : bothE p f g = 0) (h0 : g ≠ []) (hfit : f = [] ∨ g = [] ∨ f.length + g.length ≤ 41) :
    Calls Try.prog 3 #[.int .i64 p, .slice a1 f.length c1, .slice a2 g.length c2] w (Says (.bool true) w) := by
  obtain ⟨hp, hp9, lf, cf, lg, cg⟩ := bothE_zero.mp hB
  have p2 := hp.1
  have HFI := Lib.hid fun w2 => field_any p w2
  have HFE := Lib.hid fun w2 => fieldErr_any p w2
  have HCH := Lib.hid fun w2 (hx : Ex w w2) => pcheck_any p f a1 c1 w2 (by unfold maxLen; omega) (hr1.ex hx)
  have HP1 := Lib.hid fun w2 (hx : Ex w w2) => polyErr_any p f a1 c1 w2 (by unfold maxLen; omega) (hr1.ex hx)
  have HP2 := Lib.hid fun w2 (hx : Ex w w2) => polyErr_any p g a2 c2 w2 (by unfold maxLen; omega) (hr2.ex hx)
  rw [fieldE_zero.mpr ⟨hp, hp9⟩] at HFI HFE
  rw [polyE_zero.mpr ⟨hp, hp9, lf, cf⟩] at HCH HP1
  rw [polyE_zero.mpr ⟨hp, hp9, lg, cg⟩] at HP2
  have sl := red_length p (add f g)
  rw [add_length] at sl
  obtain ⟨S, hS⟩ : ∃ S, red p (add f g) = S := ⟨_, rfl⟩
  obtain ⟨NS, hNS⟩ : ∃ NS, S.length = NS := ⟨_, rfl⟩
  rw [hS, hNS] at sl
  have HA := Lib.hid fun w2 (hx : Ex w w2) => addS hp hp9 cf cg rfl rfl lf lg hS hNS w2 a1 a2 c1 c2 (hr1.ex hx) (hr2.ex hx)
  have HPL : Hid (∀ w2, Ex w w2 → Calls Try.prog 19 #[.int .i64 p, .slice a1 f.length c1, .int .i64 1, .slice a2 g.length c2, .int .i64 0] w2 (Slc1 S NS w2)) := Lib.hid fun w2 hx => by
    have := refPlus_any p 1 f g 0 a1 a2 c1 c2 w2 (by omega) hp9 (by omega) (by omega) cf.bnd cg.bnd (by omega) (by omega) (by omega) (hr1.ex hx) hn1 (hr2.ex hx)
    rw [red_plus_one (by omega), hS] at this
    exact this.mono fun e w3 k => Row1.slc k hNS
  have HS1 := Lib.hid (sameS hNS (by omega))
  have HRF := Lib.hid fun w2 (hx : Ex w w2) => hr1.ex hx
  have ml := prod_len p f g f.length
  rw [List.take_length] at ml
  obtain ⟨M, hM⟩ : ∃ M, red p (mul f g) = M := ⟨_, rfl⟩
  obtain ⟨NM, hNM⟩ : ∃ NM, M.length = NM := ⟨_, rfl⟩
  rw [hM, hNM] at ml
  have HPR : Hid (∀ w2, Ex w w2 → Calls Try.prog 20 #[.int .i64 p, .slice a1 f.length c1, .slice a2 g.length c2] w2 (Slc1 M NM w2)) := Lib.hid fun w2 hx => by
    have := refProduct_any p f g a1 a2 c1 c2 w2 (by omega) hp9 cf.bnd cg.bnd (by omega) (by omega) (hr1.ex hx) (hr2.ex hx)
    rw [hM] at this
    exact this.mono fun e w3 k => Row1.slc k hNM
  have HS2 := Lib.hid (sameS hNM (by omega))
  have HM : Hid (∀ w2, Ex w w2 → Calls Try.prog 12 #[.int .i64 p, .slice a1 f.length c1, .slice a2 g.length c2] w2 (Slc M NM w2)) := Lib.hid fun w2 hx => by
    have := mul_ok p f g a1 a2 c1 c2 w2 (hr1.ex hx) (hr2.ex hx) hB hfit
    rw [hM] at this
    exact this.mono fun e w3 k => Rowed.slc k hNM
  have lg0 := List.length_pos_iff.mpr h0
  obtain ⟨Q, R, hDv⟩ := dv_some hp cf cg h0
  obtain ⟨NQ, hNQ⟩ : ∃ NQ, Q.length = NQ := ⟨_, rfl⟩
  obtain ⟨NR, hNR⟩ : ∃ NR, R.length = NR := ⟨_, rfl⟩
  have hrl := hDv.2.2.1
  have hql : NQ ≤ 41 := by
    rcases dv_len hp cg h0 hDv with h | h
    · rw [h] at hNQ; simp at hNQ; omega
    · omega
  rw [hNR] at hrl
  have HD : Hid (∀ w2, Ex w w2 → Calls Try.prog 13 #[.int .i64 p, .slice a1 f.length c1, .slice a2 g.length c2] w2 (Slc2c Q R NQ NR w2)) := Lib.hid fun w2 hx =>
    (div_ok p f g a1 a2 c1 c2 w2 (hr1.ex hx) hn1 (hr2.ex hx) hB h0 Q R hDv).mono fun e w3 k => Rows2.slcc k hNQ hNR
  have HR : Hid (∀ w2, Ex w w2 → Calls Try.prog 21 #[.int .i64 p, .slice a1 f.length c1, .slice a2 g.length c2] w2 (Slc1 R NR w2)) := Lib.hid fun w2 hx =>
    (refRemain_any p f g a1 a2 c1 c2 w2 hp hp9 cf cg h0 (by omega) (by omega) (hr1.ex hx) hn1 hc1 hb1 (hr2.ex hx) Q R hDv).mono fun e w3 k => Row1.slc k hNR
  have HS3 := Lib.hid (sameS hNR (by omega))
  have xl := prod_len p Q g Q.length
  rw [List.take_length] at xl
  obtain ⟨X, hX⟩ : ∃ X, red p (mul Q g) = X := ⟨_, rfl⟩
  obtain ⟨NX, hNX⟩ : ∃ NX, X.length = NX := ⟨_, rfl⟩
  have hXb : Bnd p X := by rw [← hX]; exact (can_red (by omega) _).bnd
  have hXf : red p (add X R) = f := by rw [← hX]; exact dv_back (by omega) cf hDv
  rw [hX, hNX, hNQ] at xl
  have HX : Hid (∀ (w2 : World) (b : Option Addr) (d : Nat), Ex w w2 → Reads w2 .i64 b Q → Calls Try.prog 20 #[.int .i64 p, .slice b NQ d, .slice a2 g.length c2] w2 (Slc1 X NX w2)) := Lib.hid fun w2 b d hx hrb => by
    have := refProduct_any p Q g b a2 d c2 w2 (by omega) hp9 hDv.1.bnd cg.bnd (by omega) (by omega) hrb (hr2.ex hx)
    rw [hX, hNQ] at this
    exact this.mono fun e w3 k => Row1.slc k hNX
  have HY : Hid (∀ (w2 : World) (b b' : Option Addr) (d d' : Nat), Reads w2 .i64 b X → (b = none → d = 0) → Reads w2 .i64 b' R → Calls Try.prog 19 #[.int .i64 p, .slice b NX d, .int .i64 1, .slice b' NR d', .int .i64 0] w2 (Slc1 f f.length w2)) := Lib.hid fun w2 b b' d d' hrb hnb hrb' => by
    have := refPlus_any p 1 X R 0 b b' d d' w2 (by omega) hp9 (by omega) (by omega) hXb hDv.2.1.bnd (by omega) (by omega) (by omega) hrb hnb hrb'
    rw [red_plus_one (by omega), hXf, hNX, hNR] at this
    exact this.mono fun e w3 k => Row1.slc k rfl
  have HS4 := Lib.hid (sameS (f := f) rfl (by omega))
  have HSH : Hid (∀ (w2 : World) (b : Option Addr) (d : Nat), Reads w2 .i64 b Q → (b = none → d = 0) → NQ ≤ d ∧ d ≤ 9223372036854775807 → Calls Try.prog 22 #[.slice b NQ d] w2 (Slc1 Q NQ w2)) := Lib.hid fun w2 b d hrb hnb hcb => by
    have := refShort_any Q b d w2 (by omega) hrb hnb (by omega) hcb.2
    rw [can_short hDv.1, hNQ] at this
    exact this.mono fun e w3 k => Row1.slc k hNQ
  have HS5 := Lib.hid (sameS hNQ (by omega))
  have hfit2 : f.length = 0 ∨ f.length + g.length ≤ 41 := by
    rcases hfit with h | h | h
    · exact .inl (by rw [h]; rfl)
    · exact absurd h h0
    · exact .inr h
  obtain ⟨LF, hLF⟩ : ∃ LF, f.length = LF := ⟨_, rfl⟩
  obtain ⟨LG, hLG⟩ : ∃ LG, g.length = LG := ⟨_, rfl⟩
  rw [hLF] at HCH HP1 HA HPL HPR HM HD HR HY HS4 lf ml sl hfit2 ⊢
  rw [hLG] at HP2 HA HPL HPR HM HD HR HX lg lg0 ml sl xl hrl hfit2 ⊢
  have hG0 : (0 : Int) < (LG : Int) := by omega
  have hGb : ((LG : Int) == 0) = false := by simp; omega
  have hrI : (NR : Int) < (LG : Int) := by omega
  clear hr1 hr2 hB hp cf cg hS hNS hM hNM hfit hLF hLG hc1 hn1 hDv hNQ hNR hX hNX hXb hXf h0
  by_cases hF : LF = 0
  · subst hF
    clear hfit2
    go_enter Try.func3, Try.ntmps3
    go_wp2_with (first
      | (go_at_call 11; (with_reducible refine (HA.out _ (by repeat (first | assumption | exact Ex.refl _ | refine Ex.trans ?_ (by assumption)))).mono ?_); rintro e w1 ⟨b1, d1, rfl, hr1, hn1, hw1⟩)
      | (go_at_call 14; (with_reducible refine (HFI.out _).mono ?_); rintro e w4 ⟨rfl, hw4⟩)
      | (go_at_call 15; (with_reducible refine (HFE.out _).mono ?_); rintro e w5 ⟨rfl, hw5⟩)
      | (go_at_call 16; (with_reducible refine (HCH.out _ (by repeat (first | assumption | exact Ex.refl _ | refine Ex.trans ?_ (by assumption)))).mono ?_); rintro e w6 ⟨rfl, hw6⟩)
      | (go_at_call 17; (with_reducible refine (HP1.out _ (by repeat (first | assumption | exact Ex.refl _ | refine Ex.trans ?_ (by assumption)))).mono ?_); rintro e w7 ⟨rfl, hw7⟩)
      | (go_at_call 17; (with_reducible refine (HP2.out _ (by repeat (first | assumption | exact Ex.refl _ | refine Ex.trans ?_ (by assumption)))).mono ?_); rintro e w8 ⟨rfl, hw8⟩)
      | (go_at_call 19; (with_reducible refine (HPL.out _ (by repeat (first | assumption | exact Ex.refl _ | refine Ex.trans ?_ (by assumption)))).mono ?_); rintro e w9 ⟨b9, d9, rfl, hr9, hn9, hw9⟩)
      | (go_at_call 18; (with_reducible refine (HS1.out _ _ _ _ _ (hr1.out.ex (by repeat (first | assumption | exact Ex.refl _ | refine Ex.trans ?_ (by assumption)))) (hr9.out.ex (by repeat (first | assumption | exact Ex.refl _ | refine Ex.trans ?_ (by assumption))))).mono ?_); rintro e w10 ⟨rfl, hw10⟩)
      | (go_at_call 12; (with_reducible refine (HM.out _ (by repeat (first | assumption | exact Ex.refl _ | refine Ex.trans ?_ (by assumption)))).mono ?_); rintro e w2 ⟨b2, d2, rfl, hr2, hn2, hw2⟩) | (go_at_call 20; (with_reducible refine (HPR.out _ (by repeat (first | assumption | exact Ex.refl _ | refine Ex.trans ?_ (by assumption)))).mono ?_); rintro e w11 ⟨b11, d11, rfl, hr11, hn11, hw11⟩) | (go_at_call 18; (with_reducible refine (HS2.out _ _ _ _ _ (hr2.out.ex (by repeat (first | assumption | exact Ex.refl _ | refine Ex.trans ?_ (by assumption)))) (hr11.out.ex (by repeat (first | assumption | exact Ex.refl _ | refine Ex.trans ?_ (by assumption))))).mono ?_); rintro e w12 ⟨rfl, hw12⟩) | (go_at_call 13; (with_reducible refine (HD.out _ (by repeat (first | assumption | exact Ex.refl _ | refine Ex.trans ?_ (by assumption)))).mono ?_); rintro e w3 ⟨b3, d3, b4, d4, rfl, hr3, hn3, hc3, hr4, hn4, hw3⟩) | (go_at_call 21; (with_reducible refine (HR.out _ (by repeat (first | assumption | exact Ex.refl _ | refine Ex.trans ?_ (by assumption)))).mono ?_); rintro e w13 ⟨b13, d13, rfl, hr13, hn13, hw13⟩) | (go_at_call 18; (with_reducible refine (HS3.out _ _ _ _ _ (hr4.out.ex (by repeat (first | assumption | exact Ex.refl _ | refine Ex.trans ?_ (by assumption)))) (hr13.out.ex (by repeat (first | assumption | exact Ex.refl _ | refine Ex.trans ?_ (by assumption))))).mono ?_); rintro e w14 ⟨rfl, hw14⟩) | (go_at_call 20; (with_reducible refine (HX.out _ _ _ (by repeat (first | assumption | exact Ex.refl _ | refine Ex.trans ?_ (by assumption))) (hr3.out.ex (by repeat (first | assumption | exact Ex.refl _ | refine Ex.trans ?_ (by assumption))))).mono ?_); rintro e w15 ⟨b15, d15, rfl, hr15, hn15, hw15⟩) | (go_at_call 19; (with_reducible refine (HY.out _ _ _ _ _ (hr15.out.ex (by repeat (first | assumption | exact Ex.refl _ | refine Ex.trans ?_ (by assumption)))) hn15.out (hr4.out.ex (by repeat (first | assumption | exact Ex.refl _ | refine Ex.trans ?_ (by assumption))))).mono ?_); rintro e w16 ⟨b16, d16, rfl, hr16, hn16, hw16⟩) | (go_at_call 18; (with_reducible refine (HS4.out _ _ _ _ _ (hr16.out.ex (by repeat (first | assumption | exact Ex.refl _ | refine Ex.trans ?_ (by assumption)))) (HRF.out _ (show Ex w w16 from (by repeat (first | assumption | exact Ex.refl _ | refine Ex.trans ?_ (by assumption)))))).mono ?_); rintro e w17 ⟨rfl, hw17⟩) | (go_at_call 22; (with_reducible refine (HSH.out _ _ _ (hr3.out.ex (by repeat (first | assumption | exact Ex.refl _ | refine Ex.trans ?_ (by assumption)))) hn3.out hc3.out).mono ?_); rintro e w18 ⟨b18, d18, rfl, hr18, hn18, hw18⟩) | (go_at_call 18; (with_reducible refine (HS5.out _ _ _ _ _ (hr3.out.ex (by repeat (first | assumption | exact Ex.refl _ | refine Ex.trans ?_ (by assumption)))) (hr18.out.ex (by repeat (first | assumption | exact Ex.refl _ | refine Ex.trans ?_ (by assumption))))).mono ?_); rintro e w19 ⟨rfl, hw19⟩))
    go_ret
    exact ⟨rfl, (by repeat (first | assumption | exact Ex.refl _ | refine Ex.trans ?_ (by assumption)))⟩
  · have hF0 : (0 : Int) < (LF : Int) := by omega
    have hs : ¬ (41 : Int) < (LF : Int) + (LG : Int) := by omega
    go_enter Try.func3, Try.ntmps3
    go_wp2_with (first
      | (go_at_call 11; (with_reducible refine (HA.out _ (by repeat (first | assumption | exact Ex.refl _ | refine Ex.trans ?_ (by assumption)))).mono ?_); rintro e w1 ⟨b1, d1, rfl, hr1, hn1, hw1⟩)
      | (go_at_call 14; (with_reducible refine (HFI.out _).mono ?_); rintro e w4 ⟨rfl, hw4⟩)
      | (go_at_call 15; (with_reducible refine (HFE.out _).mono ?_); rintro e w5 ⟨rfl, hw5⟩)
      | (go_at_call 16; (with_reducible refine (HCH.out _ (by repeat (first | assumption | exact Ex.refl _ | refine Ex.trans ?_ (by assumption)))).mono ?_); rintro e w6 ⟨rfl, hw6⟩)
      | (go_at_call 17; (with_reducible refine (HP1.out _ (by repeat (first | assumption | exact Ex.refl _ | refine Ex.trans ?_ (by assumption)))).mono ?_); rintro e w7 ⟨rfl, hw7⟩)
      | (go_at_call 17; (with_reducible refine (HP2.out _ (by repeat (first | assumption | exact Ex.refl _ | refine Ex.trans ?_ (by assumption)))).mono ?_); rintro e w8 ⟨rfl, hw8⟩)
      | (go_at_call 19; (with_reducible refine (HPL.out _ (by repeat (first | assumption | exact Ex.refl _ | refine Ex.trans ?_ (by assumption)))).mono ?_); rintro e w9 ⟨b9, d9, rfl, hr9, hn9, hw9⟩)
      | (go_at_call 18; (with_reducible refine (HS1.out _ _ _ _ _ (hr1.out.ex (by repeat (first | assumption | exact Ex.refl _ | refine Ex.trans ?_ (by assumption)))) (hr9.out.ex (by repeat (first | assumption | exact Ex.refl _ | refine Ex.trans ?_ (by assumption))))).mono ?_); rintro e w10 ⟨rfl, hw10⟩)
      | (go_at_call 12; (with_reducible refine (HM.out _ (by repeat (first | assumption | exact Ex.refl _ | refine Ex.trans ?_ (by assumption)))).mono ?_); rintro e w2 ⟨b2, d2, rfl, hr2, hn2, hw2⟩) | (go_at_call 20; (with_reducible refine (HPR.out _ (by repeat (first | assumption | exact Ex.refl _ | refine Ex.trans ?_ (by assumption)))).mono ?_); rintro e w11 ⟨b11, d11, rfl, hr11, hn11, hw11⟩) | (go_at_call 18; (with_reducible refine (HS2.out _ _ _ _ _ (hr2.out.ex (by repeat (first | assumption | exact Ex.refl _ | refine Ex.trans ?_ (by assumption)))) (hr11.out.ex (by repeat (first | assumption | exact Ex.refl _ | refine Ex.trans ?_ (by assumption))))).mono ?_); rintro e w12 ⟨rfl, hw12⟩) | (go_at_call 13; (with_reducible refine (HD.out _ (by repeat (first | assumption | exact Ex.refl _ | refine Ex.trans ?_ (by assumption)))).mono ?_); rintro e w3 ⟨b3, d3, b4, d4, rfl, hr3, hn3, hc3, hr4, hn4, hw3⟩) | (go_at_call 21; (with_reducible refine (HR.out _ (by repeat (first | assumption | exact Ex.refl _ | refine Ex.trans ?_ (by assumption)))).mono ?_); rintro e w13 ⟨b13, d13, rfl, hr13, hn13, hw13⟩) | (go_at_call 18; (with_reducible refine (HS3.out _ _ _ _ _ (hr4.out.ex (by repeat (first | assumption | exact Ex.refl _ | refine Ex.trans ?_ (by assumption)))) (hr13.out.ex (by repeat (first | assumption | exact Ex.refl _ | refine Ex.trans ?_ (by assumption))))).mono ?_); rintro e w14 ⟨rfl, hw14⟩) | (go_at_call 20; (with_reducible refine (HX.out _ _ _ (by repeat (first | assumption | exact Ex.refl _ | refine Ex.trans ?_ (by assumption))) (hr3.out.ex (by repeat (first | assumption | exact Ex.refl _ | refine Ex.trans ?_ (by assumption))))).mono ?_); rintro e w15 ⟨b15, d15, rfl, hr15, hn15, hw15⟩) | (go_at_call 19; (with_reducible refine (HY.out _ _ _ _ _ (hr15.out.ex (by repeat (first | assumption | exact Ex.refl _ | refine Ex.trans ?_ (by assumption)))) hn15.out (hr4.out.ex (by repeat (first | assumption | exact Ex.refl _ | refine Ex.trans ?_ (by assumption))))).mono ?_); rintro e w16 ⟨b16, d16, rfl, hr16, hn16, hw16⟩) | (go_at_call 18; (with_reducible refine (HS4.out _ _ _ _ _ (hr16.out.ex (by repeat (first | assumption | exact Ex.refl _ | refine Ex.trans ?_ (by assumption)))) (HRF.out _ (show Ex w w16 from (by repeat (first | assumption | exact Ex.refl _ | refine Ex.trans ?_ (by assumption)))))).mono ?_); rintro e w17 ⟨rfl, hw17⟩) | (go_at_call 22; (with_reducible refine (HSH.out _ _ _ (hr3.out.ex (by repeat (first | assumption | exact Ex.refl _ | refine Ex.trans ?_ (by assumption)))) hn3.out hc3.out).mono ?_); rintro e w18 ⟨b18, d18, rfl, hr18, hn18, hw18⟩) | (go_at_call 18; (with_reducible refine (HS5.out _ _ _ _ _ (hr3.out.ex (by repeat (first | assumption | exact Ex.refl _ | refine Ex.trans ?_ (by assumption)))) (hr18.out.ex (by repeat (first | assumption | exact Ex.refl _ | refine Ex.trans ?_ (by assumption))))).mono ?_); rintro e w19 ⟨rfl, hw19⟩))
    go_ret
    exact ⟨rfl, (by repeat (first | assumption | exact Ex.refl _ | refine Ex.trans ?_ (by assumption)))⟩

set_option maxRecDepth 100000 in
set_option maxHeartbeats 1000000 in
theorem polySays_big (p : Int) (a1 : Option Addr) (c1 : Nat) (f : List Int) (a2 : Option Addr) (c2 : Nat) (g : List Int) (w : World) (hc1 : f.length ≤ c1) (hb1 : c1 ≤ 9223372036854775807) (hr1 : Reads w .i64 a1 f) (hn1 : a1 = none → c1 = 0) (hr2 : Reads w .i64 a2 g) (hB : bothE p f g = 0) (h0 : g ≠ []) (h00 : f ≠ []) (hfit : 41 < f.length + g.length) :
    Calls Try.prog 3 #[.int .i64 p, .slice a1 f.length c1, .slice a2 g.length c2] w (Says (.bool true) w) := by
  obtain ⟨hp, hp9, lf, cf, lg, cg⟩ := bothE_zero.mp hB
  have p2 := hp.1
  have HFI := Lib.hid fun w2 => field_any p w2
  have HFE := Lib.hid fun w2 => fieldErr_any p w2
  have HCH := Lib.hid fun w2 (hx : Ex w w2) => pcheck_any p f a1 c1 w2 (by unfold maxLen; omega) (hr1.ex hx)
  have HP1 := Lib.hid fun w2 (hx : Ex w w2) => polyErr_any p f a1 c1 w2 (by unfold maxLen; omega) (hr1.ex hx)
  have HP2 := Lib.hid fun w2 (hx : Ex w w2) => polyErr_any p g a2 c2 w2 (by unfold maxLen; omega) (hr2.ex hx)
  rw [fieldE_zero.mpr ⟨hp, hp9⟩] at HFI HFE
  rw [polyE_zero.mpr ⟨hp, hp9, lf, cf⟩] at HCH HP1
  rw [polyE_zero.mpr ⟨hp, hp9, lg, cg⟩] at HP2
  have sl := red_length p (add f g)
  rw [add_length] at sl
  obtain ⟨S, hS⟩ : ∃ S, red p (add f g) = S := ⟨_, rfl⟩
  obtain ⟨NS, hNS⟩ : ∃ NS, S.length = NS := ⟨_, rfl⟩
  rw [hS, hNS] at sl
  have HA := Lib.hid fun w2 (hx : Ex w w2) => addS hp hp9 cf cg rfl rfl lf lg hS hNS w2 a1 a2 c1 c2 (hr1.ex hx) (hr2.ex hx)
  have HPL : Hid (∀ w2, Ex w w2 → Calls Try.prog 19 #[.int .i64 p, .slice a1 f.length c1, .int .i64 1, .slice a2 g.length c2, .int .i64 0] w2 (Slc1 S NS w2)) := Lib.hid fun w2 hx => by
    have := refPlus_any p 1 f g 0 a1 a2 c1 c2 w2 (by omega) hp9 (by omega) (by omega) cf.bnd cg.bnd (by omega) (by omega) (by omega) (hr1.ex hx) hn1 (hr2.ex hx)
    rw [red_plus_one (by omega), hS] at this
    exact this.mono fun e w3 k => Row1.slc k hNS
  have HS1 := Lib.hid (sameS hNS (by omega))
  have HRF := Lib.hid fun w2 (hx : Ex w w2) => hr1.ex hx
  have lg0 := List.length_pos_iff.mpr h0
  obtain ⟨Q, R, hDv⟩ := dv_some hp cf cg h0
  obtain ⟨NQ, hNQ⟩ : ∃ NQ, Q.length = NQ := ⟨_, rfl⟩
  obtain ⟨NR, hNR⟩ : ∃ NR, R.length = NR := ⟨_, rfl⟩
  have hrl := hDv.2.2.1
  have hql : NQ ≤ 41 := by
    rcases dv_len hp cg h0 hDv with h | h
    · rw [h] at hNQ; simp at hNQ; omega
    · omega
  rw [hNR] at hrl
  have HD : Hid (∀ w2, Ex w w2 → Calls Try.prog 13 #[.int .i64 p, .slice a1 f.length c1, .slice a2 g.length c2] w2 (Slc2c Q R NQ NR w2)) := Lib.hid fun w2 hx =>
    (div_ok p f g a1 a2 c1 c2 w2 (hr1.ex hx) hn1 (hr2.ex hx) hB h0 Q R hDv).mono fun e w3 k => Rows2.slcc k hNQ hNR
  have HR : Hid (∀ w2, Ex w w2 → Calls Try.prog 21 #[.int .i64 p, .slice a1 f.length c1, .slice a2 g.length c2] w2 (Slc1 R NR w2)) := Lib.hid fun w2 hx =>
    (refRemain_any p f g a1 a2 c1 c2 w2 hp hp9 cf cg h0 (by omega) (by omega) (hr1.ex hx) hn1 hc1 hb1 (hr2.ex hx) Q R hDv).mono fun e w3 k => Row1.slc k hNR
  have HS3 := Lib.hid (sameS hNR (by omega))
  have xl := prod_len p Q g Q.length
  rw [List.take_length] at xl
  obtain ⟨X, hX⟩ : ∃ X, red p (mul Q g) = X := ⟨_, rfl⟩
  obtain ⟨NX, hNX⟩ : ∃ NX, X.length = NX := ⟨_, rfl⟩
  have hXb : Bnd p X := by rw [← hX]; exact (can_red (by omega) _).bnd
  have hXf : red p (add X R) = f := by rw [← hX]; exact dv_back (by omega) cf hDv
  rw [hX, hNX, hNQ] at xl
  have HX : Hid (∀ (w2 : World) (b : Option Addr) (d : Nat), Ex w w2 → Reads w2 .i64 b Q → Calls Try.prog 20 #[.int .i64 p, .slice b NQ d, .slice a2 g.length c2] w2 (Slc1 X NX w2)) := Lib.hid fun w2 b d hx hrb => by
    have := refProduct_any p Q g b a2 d c2 w2 (by omega) hp9 hDv.1.bnd cg.bnd (by omega) (by omega) hrb (hr2.ex hx)
    rw [hX, hNQ] at this
    exact this.mono fun e w3 k => Row1.slc k hNX
  have HY : Hid (∀ (w2 : World) (b b' : Option Addr) (d d' : Nat), Reads w2 .i64 b X → (b = none → d = 0) → Reads w2 .i64 b' R → Calls Try.prog 19 #[.int .i64 p, .slice b NX d, .int .i64 1, .slice b' NR d', .int .i64 0] w2 (Slc1 f f.length w2)) := Lib.hid fun w2 b b' d d' hrb hnb hrb' => by
    have := refPlus_any p 1 X R 0 b b' d d' w2 (by omega) hp9 (by omega) (by omega) hXb hDv.2.1.bnd (by omega) (by omega) (by omega) hrb hnb hrb'
    rw [red_plus_one (by omega), hXf, hNX, hNR] at this
    exact this.mono fun e w3 k => Row1.slc k rfl
  have HS4 := Lib.hid (sameS (f := f) rfl (by omega))
  have HSH : Hid (∀ (w2 : World) (b : Option Addr) (d : Nat), Reads w2 .i64 b Q → (b = none → d = 0) → NQ ≤ d ∧ d ≤ 9223372036854775807 → Calls Try.prog 22 #[.slice b NQ d] w2 (Slc1 Q NQ w2)) := Lib.hid fun w2 b d hrb hnb hcb => by
    have := refShort_any Q b d w2 (by omega) hrb hnb (by omega) hcb.2
    rw [can_short hDv.1, hNQ] at this
    exact this.mono fun e w3 k => Row1.slc k hNQ
  have HS5 := Lib.hid (sameS hNQ (by omega))
  have HM := Lib.hid fun w2 (hx : Ex w w2) => mul_large p f g a1 a2 c1 c2 w2 (hr1.ex hx) (hr2.ex hx) hB h00 h0 hfit
  obtain ⟨LF, hLF⟩ : ∃ LF, f.length = LF := ⟨_, rfl⟩
  obtain ⟨LG, hLG⟩ : ∃ LG, g.length = LG := ⟨_, rfl⟩
  rw [hLF] at HCH HP1 HA HPL HM HD HR HY HS4 lf sl hfit ⊢
  rw [hLG] at HP2 HA HPL HM HD HR HX lg lg0 sl xl hrl hfit ⊢
  have hG0 : (0 : Int) < (LG : Int) := by omega
  have hF0 : (0 : Int) < (LF : Int) := by omega
  have hGb : ((LG : Int) == 0) = false := by simp; omega
  have hrI : (NR : Int) < (LG : Int) := by omega
  have hs : (41 : Int) < (LF : Int) + (LG : Int) := by omega
  clear hr1 hr2 hB hp cf cg hS hNS hLF hLG hc1 hn1 hDv hNQ hNR hX hNX hXb hXf h0 h00
  · have hF1 := hF0
    go_enter Try.func3, Try.ntmps3
    go_wp2_with (first
      | (go_at_call 11; (with_reducible refine (HA.out _ (by repeat (first | assumption | exact Ex.refl _ | refine Ex.trans ?_ (by assumption)))).mono ?_); rintro e w1 ⟨b1, d1, rfl, hr1, hn1, hw1⟩)
      | (go_at_call 14; (with_reducible refine (HFI.out _).mono ?_); rintro e w4 ⟨rfl, hw4⟩)
      | (go_at_call 15; (with_reducible refine (HFE.out _).mono ?_); rintro e w5 ⟨rfl, hw5⟩)
      | (go_at_call 16; (with_reducible refine (HCH.out _ (by repeat (first | assumption | exact Ex.refl _ | refine Ex.trans ?_ (by assumption)))).mono ?_); rintro e w6 ⟨rfl, hw6⟩)
      | (go_at_call 17; (with_reducible refine (HP1.out _ (by repeat (first | assumption | exact Ex.refl _ | refine Ex.trans ?_ (by assumption)))).mono ?_); rintro e w7 ⟨rfl, hw7⟩)
      | (go_at_call 17; (with_reducible refine (HP2.out _ (by repeat (first | assumption | exact Ex.refl _ | refine Ex.trans ?_ (by assumption)))).mono ?_); rintro e w8 ⟨rfl, hw8⟩)
      | (go_at_call 19; (with_reducible refine (HPL.out _ (by repeat (first | assumption | exact Ex.refl _ | refine Ex.trans ?_ (by assumption)))).mono ?_); rintro e w9 ⟨b9, d9, rfl, hr9, hn9, hw9⟩)
      | (go_at_call 18; (with_reducible refine (HS1.out _ _ _ _ _ (hr1.out.ex (by repeat (first | assumption | exact Ex.refl _ | refine Ex.trans ?_ (by assumption)))) (hr9.out.ex (by repeat (first | assumption | exact Ex.refl _ | refine Ex.trans ?_ (by assumption))))).mono ?_); rintro e w10 ⟨rfl, hw10⟩)
      | (go_at_call 12; (with_reducible refine (HM.out _ (by repeat (first | assumption | exact Ex.refl _ | refine Ex.trans ?_ (by assumption)))).mono ?_); rintro e w2 ⟨rfl, hw2⟩) | (go_at_call 13; (with_reducible refine (HD.out _ (by repeat (first | assumption | exact Ex.refl _ | refine Ex.trans ?_ (by assumption)))).mono ?_); rintro e w3 ⟨b3, d3, b4, d4, rfl, hr3, hn3, hc3, hr4, hn4, hw3⟩) | (go_at_call 21; (with_reducible refine (HR.out _ (by repeat (first | assumption | exact Ex.refl _ | refine Ex.trans ?_ (by assumption)))).mono ?_); rintro e w13 ⟨b13, d13, rfl, hr13, hn13, hw13⟩) | (go_at_call 18; (with_reducible refine (HS3.out _ _ _ _ _ (hr4.out.ex (by repeat (first | assumption | exact Ex.refl _ | refine Ex.trans ?_ (by assumption)))) (hr13.out.ex (by repeat (first | assumption | exact Ex.refl _ | refine Ex.trans ?_ (by assumption))))).mono ?_); rintro e w14 ⟨rfl, hw14⟩) | (go_at_call 20; (with_reducible refine (HX.out _ _ _ (by repeat (first | assumption | exact Ex.refl _ | refine Ex.trans ?_ (by assumption))) (hr3.out.ex (by repeat (first | assumption | exact Ex.refl _ | refine Ex.trans ?_ (by assumption))))).mono ?_); rintro e w15 ⟨b15, d15, rfl, hr15, hn15, hw15⟩) | (go_at_call 19; (with_reducible refine (HY.out _ _ _ _ _ (hr15.out.ex (by repeat (first | assumption | exact Ex.refl _ | refine Ex.trans ?_ (by assumption)))) hn15.out (hr4.out.ex (by repeat (first | assumption | exact Ex.refl _ | refine Ex.trans ?_ (by assumption))))).mono ?_); rintro e w16 ⟨b16, d16, rfl, hr16, hn16, hw16⟩) | (go_at_call 18; (with_reducible refine (HS4.out _ _ _ _ _ (hr16.out.ex (by repeat (first | assumption | exact Ex.refl _ | refine Ex.trans ?_ (by assumption)))) (HRF.out _ (show Ex w w16 from (by repeat (first | assumption | exact Ex.refl _ | refine Ex.trans ?_ (by assumption)))))).mono ?_); rintro e w17 ⟨rfl, hw17⟩) | (go_at_call 22; (with_reducible refine (HSH.out _ _ _ (hr3.out.ex (by repeat (first | assumption | exact Ex.refl _ | refine Ex.trans ?_ (by assumption)))) hn3.out hc3.out).mono ?_); rintro e w18 ⟨b18, d18, rfl, hr18, hn18, hw18⟩) | (go_at_call 18; (with_reducible refine (HS5.out _ _ _ _ _ (hr3.out.ex (by repeat (first | assumption | exact Ex.refl _ | refine Ex.trans ?_ (by assumption)))) (hr18.out.ex (by repeat (first | assumption | exact Ex.refl _ | refine Ex.trans ?_ (by assumption))))).mono ?_); rintro e w19 ⟨rfl, hw19⟩))
    go_ret
    exact ⟨rfl, (by repeat (first | assumption | exact Ex.refl _ | refine Ex.trans ?_ (by assumption)))⟩

set_option maxRecDepth 100000 in
set_option maxHeartbeats 1000000 in
theorem polySays_walk (p : Int) (a1 : Option Addr) (l1 c1 : Nat) (f : List Int) (a2 : Option Addr) (l2 c2 : Nat) (g : List Int) (w : World)
    (_ : I64 p) (h1 : IsInts .i64 8 w a1 l1 c1 f) (h2 : IsInts .i64 8 w a2 l2 c2 g) :
    Calls Try.prog 3 #[.int .i64 p, .slice a1 l1 c1, .slice a2 l2 c2] w (Says (.bool true) w) := by
  obtain ⟨rfl, hc1, hb1, hr1, hn1, _⟩ := h1
  obtain ⟨rfl, hc2, hb2, hr2, _, _⟩ := h2
  by_cases hB : bothE p f g = 0
  · by_cases h0 : g = []
    · exact polySays_z p a1 c1 f a2 c2 g w hr1 hn1 hr2 hB h0
    · by_cases hfit : f = [] ∨ g = [] ∨ f.length + g.length ≤ 41
      · exact polySays_fit p a1 c1 f a2 c2 g w hc1 (by omega) hr1 hn1 hr2 hB h0 hfit
      · exact polySays_big p a1 c1 f a2 c2 g w hc1 (by omega) hr1 hn1 hr2 hB h0 (fun h => hfit (.inl h)) (by omega)
  have m1 : f.length ≤ maxLen := by unfold maxLen; omega
  have m2 : g.length ≤ maxLen := by unfold maxLen; omega
  have HFI := Lib.hid fun w2 => field_any p w2
  have HFE := Lib.hid fun w2 => fieldErr_any p w2
  have HCH := Lib.hid fun w2 (hx : Ex w w2) => pcheck_any p f a1 c1 w2 m1 (hr1.ex hx)
  have HP1 := Lib.hid fun w2 (hx : Ex w w2) => polyErr_any p f a1 c1 w2 m1 (hr1.ex hx)
  have HP2 := Lib.hid fun w2 (hx : Ex w w2) => polyErr_any p g a2 c2 w2 m2 (hr2.ex hx)
  obtain ⟨E, hE⟩ : ∃ E, fieldE p = E := ⟨_, rfl⟩
  rw [hE] at HFI HFE
  have HA := Lib.hid fun w2 (hx : Ex w w2) => add_no p f g a1 a2 c1 c2 w2 m1 (hr1.ex hx) m2 (hr2.ex hx) hB
  have HM := Lib.hid fun w2 (hx : Ex w w2) => mul_no p f g a1 a2 c1 c2 w2 m1 (hr1.ex hx) m2 (hr2.ex hx) hB
  have HD := Lib.hid fun w2 (hx : Ex w w2) => div_no p f g a1 a2 c1 c2 w2 m1 (hr1.ex hx) m2 (hr2.ex hx) hB
  have hbe : bothE p f g = if polyE p f ≠ 0 then polyE p f else polyE p g := rfl
  obtain ⟨B, hBB⟩ : ∃ B, bothE p f g = B := ⟨_, rfl⟩
  obtain ⟨A1, hA1⟩ : ∃ A1, polyE p f = A1 := ⟨_, rfl⟩
  obtain ⟨A2, hA2⟩ : ∃ A2, polyE p g = A2 := ⟨_, rfl⟩
  obtain ⟨LF, hLF⟩ : ∃ LF, f.length = LF := ⟨_, rfl⟩
  obtain ⟨LG, hLG⟩ : ∃ LG, g.length = LG := ⟨_, rfl⟩
  rw [hBB, hA1, hA2] at hbe
  rw [hBB] at hB HA HM HD
  rw [hA1] at HCH HP1
  rw [hA2] at HP2
  rw [hLF, hLG] at HA HM HD
  rw [hLF] at HCH HP1 ⊢
  rw [hLG] at HP2 ⊢
  clear hE hA1 hA2 hLF hLG hBB m1 m2 hr1 hr2
  by_cases hz : A1 = 0
  · rw [if_neg (by simpa using hz)] at hbe
    subst hbe
    subst hz
    have hb : (B != 0) = true := by simpa using hB
    go_enter Try.func3, Try.ntmps3
    go_wp2_with (first
      | (go_at_call 14; (with_reducible refine (HFI.out _).mono ?_); rintro e w4 ⟨rfl, hw4⟩)
      | (go_at_call 15; (with_reducible refine (HFE.out _).mono ?_); rintro e w5 ⟨rfl, hw5⟩)
      | (go_at_call 16; (with_reducible refine (HCH.out _ (by repeat (first | assumption | exact Ex.refl _ | refine Ex.trans ?_ (by assumption)))).mono ?_); rintro e w6 ⟨rfl, hw6⟩)
      | (go_at_call 17; (with_reducible refine (HP1.out _ (by repeat (first | assumption | exact Ex.refl _ | refine Ex.trans ?_ (by assumption)))).mono ?_); rintro e w7 ⟨rfl, hw7⟩)
      | (go_at_call 17; (with_reducible refine (HP2.out _ (by repeat (first | assumption | exact Ex.refl _ | refine Ex.trans ?_ (by assumption)))).mono ?_); rintro e w8 ⟨rfl, hw8⟩)
      | (go_at_call 11; (with_reducible refine (HA.out _ (by repeat (first | assumption | exact Ex.refl _ | refine Ex.trans ?_ (by assumption)))).mono ?_); rintro e w1 ⟨rfl, hw1⟩) | (go_at_call 12; (with_reducible refine (HM.out _ (by repeat (first | assumption | exact Ex.refl _ | refine Ex.trans ?_ (by assumption)))).mono ?_); rintro e w2 ⟨rfl, hw2⟩) | (go_at_call 13; (with_reducible refine (HD.out _ (by repeat (first | assumption | exact Ex.refl _ | refine Ex.trans ?_ (by assumption)))).mono ?_); rintro e w3 ⟨rfl, hw3⟩))
    go_ret
    exact ⟨rfl, (by repeat (first | assumption | exact Ex.refl _ | refine Ex.trans ?_ (by assumption)))⟩
  · rw [if_pos hz] at hbe
    subst hbe
    have hb : (B != 0) = true := by simpa using hB
    have hb2 : (B == 0) = false := by simpa using hB
    go_enter Try.func3, Try.ntmps3
    go_wp2_with (first
      | (go_at_call 14; (with_reducible refine (HFI.out _).mono ?_); rintro e w4 ⟨rfl, hw4⟩)
      | (go_at_call 15; (with_reducible refine (HFE.out _).mono ?_); rintro e w5 ⟨rfl, hw5⟩)
      | (go_at_call 16; (with_reducible refine (HCH.out _ (by repeat (first | assumption | exact Ex.refl _ | refine Ex.trans ?_ (by assumption)))).mono ?_); rintro e w6 ⟨rfl, hw6⟩)
      | (go_at_call 17; (with_reducible refine (HP1.out _ (by repeat (first | assumption | exact Ex.refl _ | refine Ex.trans ?_ (by assumption)))).mono ?_); rintro e w7 ⟨rfl, hw7⟩)
      | (go_at_call 17; (with_reducible refine (HP2.out _ (by repeat (first | assumption | exact Ex.refl _ | refine Ex.trans ?_ (by assumption)))).mono ?_); rintro e w8 ⟨rfl, hw8⟩)
      | (go_at_call 11; (with_reducible refine (HA.out _ (by repeat (first | assumption | exact Ex.refl _ | refine Ex.trans ?_ (by assumption)))).mono ?_); rintro e w1 ⟨rfl, hw1⟩) | (go_at_call 12; (with_reducible refine (HM.out _ (by repeat (first | assumption | exact Ex.refl _ | refine Ex.trans ?_ (by assumption)))).mono ?_); rintro e w2 ⟨rfl, hw2⟩) | (go_at_call 13; (with_reducible refine (HD.out _ (by repeat (first | assumption | exact Ex.refl _ | refine Ex.trans ?_ (by assumption)))).mono ?_); rintro e w3 ⟨rfl, hw3⟩))
    go_ret
    exact ⟨rfl, (by repeat (first | assumption | exact Ex.refl _ | refine Ex.trans ?_ (by assumption)))⟩

end Go.Proofs.Ytfempfmpphbfnaa
