/-
  The laws of package hamming, by contracts.
-/
import Derived.Test.YtehonbailaomeaaDoorHmRef
import Derived.Test.YtehonbailaomeaaDoorLnOnes
import Derived.Test.YtehonbailaomeaaDoorGnu
namespace Go.Proofs.YtehonbailaomeaaDoor
open Go.RowKit
open Ln Hm

namespace Hm
theorem fl_some {k : Nat} (h : k ≠ 0) : Hm.fl k = 2 ^ (k - 1) := by unfold Hm.fl; rw [if_neg h]
theorem fl_none : Hm.fl 0 = 0 := rfl
theorem fl_small {k : Nat} (h : k ≤ 15) : Hm.fl k < 32768 := fl_lt (n := 15) h
/-- Turned, and what the places tell. -/
theorem sy_turn {w k : Nat} (hs : sy 15 w = 0) (hk : k ≤ 15) : sy 15 (w ^^^ Hm.fl k) = k := by rw [sy_xor, hs, Nat.zero_xor, sy_fl hk]
theorem turn_back (w k : Nat) : w ^^^ k ^^^ k = w := by rw [Nat.xor_assoc, Nat.xor_self, Nat.xor_zero]
theorem mended (v : Nat) : sy 15 (v ^^^ Hm.fl (sy 15 v)) = 0 := (mend (by have := sy_small v; omega)).mpr rfl
theorem xor_small {a b : Nat} (ha : a < 32768) (hb : b < 32768) : a ^^^ b < 32768 := Nat.xor_lt_two_pow (n := 15) ha hb
end Hm

/-- A bit turned, as the code turns it. -/
theorem turn_u16 {w k : Nat} (hw : w < 65536) (hk : k < 15) : bits .xor .u16 (w : Int) (IntKind.u16.wrap ((2 : Int) ^ k)) = ((w ^^^ Hm.fl (k + 1) : Nat) : Int) := by
  have hp : 2 ^ k < 2 ^ 15 := Nat.pow_lt_pow_right (by decide) hk
  rw [fl_some (by omega), Nat.add_sub_cancel, show ((2 : Int) ^ k) = ((2 ^ k : Nat) : Int) by rw [Int.natCast_pow]; rfl]
  generalize 2 ^ k = p at hp ⊢
  rw [IntWalk.u16_in (p : Int) (by omega)]
  exact xor_u16_nat w p hw (by omega)

theorem hammings_yes (HP : PutC) (w : World) (hT : HmT w) : Calls Tryd.prog 11 #[] w (Says (.bool true) w) := by
  have H1 : Hid (∀ w, HmT w → Calls Tryd.prog 7 #[.int .u16 1] w (Says (.tuple #[.int .u16 7, .int .i64 0]) w)) := Lib.hid fun w => by
    have := HP.ok (d := 1) (w := w) (by omega)
    rwa [show en 1 = 7 by decide +kernel] at this
  go_enter Tryd.func11, Tryd.ntmps11
  go_wp2_with (go_at_call 7; (with_reducible refine (H1.out _ (hT.ex (by repeat (first | assumption | exact Ex.refl _ | refine Ex.trans ?_ (by assumption))))).mono ?_); rintro e w1 ⟨rfl, hw1⟩)
  go_ret
  exact ⟨rfl, hw1⟩

set_option maxRecDepth 100000 in
set_option maxHeartbeats 1000000 in
theorem hammingOne_of (HP : PutC) (HG : GetC) (d at' : Int) (w : World) (hd : 0 ≤ d ∧ d ≤ 65535) (_ : I64 at') (hT : HmT w) :
    Calls Tryd.prog 4 #[.int .u16 d, .int .i64 at'] w (Says (.bool true) w) := by
  have HY := Lib.hid fun w => hammings_yes HP w
  obtain ⟨d, rfl⟩ : ∃ n : Nat, d = (n : Int) := ⟨d.toNat, by omega⟩
  have hm : bits .and .u16 (d : Int) 2047 = ((d % 2048 : Nat) : Int) := by
    have := and_u16_nat d 2047 (by omega) (by decide)
    rw [mask_11] at this
    exact this
  obtain ⟨D, hD⟩ : ∃ D, d % 2048 = D := ⟨_, rfl⟩
  have hDl : D < 2048 := by omega
  rw [hD] at hm
  obtain ⟨K, hK⟩ : ∃ K : Nat, at' % 16 = (K : Int) := ⟨(at' % 16).toNat, by omega⟩
  have hK15 : K ≤ 15 := by omega
  have HW : Hid (∀ w, Calls Tryd.prog 12 #[.int .i64 at', .int .i64 16] w (fun e w' => e = .returned (.int .i64 (K : Int)) ∧ w = w')) := Lib.hid fun w => by
    have := within_any at' 16 w (by omega) (by omega)
    rwa [hK] at this
  obtain ⟨e1, e2, e3⟩ := en_ok hDl
  have HPU := Lib.hid fun w => HP.ok (d := D) (w := w) hDl
  have hv := xor_small e1 (fl_small hK15)
  have hg := fun w => HG.ok (v := en D ^^^ Hm.fl K) (w := w) hv
  rw [sy_turn e2 hK15, turn_back, e3] at hg
  have HGE := Lib.hid hg
  have HGZ := Lib.hid (good_zeros 2 (by omega) #[.int .i64 0, .int .i64 0] rfl 23)
  have e16 : en D < 65536 := by omega
  clear hg hd hD hK HP HG hv e2 e3
  have HM := Lib.hid hm
  by_cases h0 : K = 0
  · subst h0
    rw [fl_none, Nat.xor_zero] at HGE
    obtain ⟨E, hE⟩ : ∃ E, en D = E := ⟨_, rfl⟩
    rw [hE] at HPU HGE e16
    have HGE2 : Hid (∀ w, HmT w → Calls Tryd.prog 8 #[.int .u16 (E : Int)] w (Says (.tuple #[.int .u16 (D : Int), .int .i64 0, .int .i64 0]) w)) := HGE
    have HW2 : Hid (∀ w, Calls Tryd.prog 12 #[.int .i64 at', .int .i64 16] w (fun e w' => e = .returned (.int .i64 0) ∧ w = w')) := HW
    clear HGE HW hE
    go_enter Tryd.func4, Tryd.ntmps4
    go_wp2_with (first
      | (go_at_call 11; (with_reducible refine (HY.out _ (hT.ex (by repeat (first | assumption | exact Ex.refl _ | refine Ex.trans ?_ (by assumption))))).mono ?_); rintro e w1 ⟨rfl, hw1⟩)
      | (go_at_call 12; (with_reducible refine (HW2.out _).mono ?_); rintro e w2 ⟨rfl, rfl⟩)
      | (go_at_call 7; (with_reducible refine (HPU.out _ (hT.ex (by repeat (first | assumption | exact Ex.refl _ | refine Ex.trans ?_ (by assumption))))).mono ?_); rintro e w3 ⟨rfl, hw3⟩)
      | (go_at_call 8; (with_reducible refine (HGE2.out _ (hT.ex (by repeat (first | assumption | exact Ex.refl _ | refine Ex.trans ?_ (by assumption))))).mono ?_); rintro e w4 ⟨rfl, hw4⟩)
      | (go_at_call 13; (refine (HGZ.out _).mono ?_); rintro e w5 ⟨rfl, hw5⟩))
    go_ret
    exact ⟨by simp, ((hw1.trans hw3).trans hw4).trans hw5⟩
  · obtain ⟨k, rfl⟩ : ∃ k, K = k + 1 := ⟨K - 1, by omega⟩
    have ht := turn_u16 e16 (show k < 15 by omega)
    rw [← ht] at HGE
    obtain ⟨E, hE⟩ : ∃ E, en D = E := ⟨_, rfl⟩
    rw [hE] at HPU HGE
    clear hE ht
    go_enter Tryd.func4, Tryd.ntmps4
    go_wp2_with (first
      | (go_at_call 11; (with_reducible refine (HY.out _ (hT.ex (by repeat (first | assumption | exact Ex.refl _ | refine Ex.trans ?_ (by assumption))))).mono ?_); rintro e w1 ⟨rfl, hw1⟩)
      | (go_at_call 12; (with_reducible refine (HW.out _).mono ?_); rintro e w2 ⟨rfl, rfl⟩)
      | (go_at_call 7; (with_reducible refine (HPU.out _ (hT.ex (by repeat (first | assumption | exact Ex.refl _ | refine Ex.trans ?_ (by assumption))))).mono ?_); rintro e w3 ⟨rfl, hw3⟩)
      | (go_at_call 8; (with_reducible refine (HGE.out _ (hT.ex (by repeat (first | assumption | exact Ex.refl _ | refine Ex.trans ?_ (by assumption))))).mono ?_); rintro e w4 ⟨rfl, hw4⟩)
      | (go_at_call 13; (refine (HGZ.out _).mono ?_); rintro e w5 ⟨rfl, hw5⟩))
    go_ret
    exact ⟨by simp, ((hw1.trans hw3).trans hw4).trans hw5⟩

set_option maxRecDepth 100000 in
set_option maxHeartbeats 1000000 in
theorem hammingFar_of (HP : PutC) (a b : Int) (w : World) (ha : 0 ≤ a ∧ a ≤ 65535) (hb : 0 ≤ b ∧ b ≤ 65535) (hT : HmT w) :
    Calls Tryd.prog 5 #[.int .u16 a, .int .u16 b] w (Says (.bool true) w) := by
  have HY := Lib.hid fun w => hammings_yes HP w
  obtain ⟨a, rfl⟩ : ∃ n : Nat, a = (n : Int) := ⟨a.toNat, by omega⟩
  obtain ⟨b, rfl⟩ : ∃ n : Nat, b = (n : Int) := ⟨b.toNat, by omega⟩
  have hm : ∀ d : Nat, d < 65536 → bits .and .u16 (d : Int) 2047 = ((d % 2048 : Nat) : Int) := fun d hd => by
    have := and_u16_nat d 2047 hd (by decide)
    rw [mask_11] at this
    exact this
  have hma := hm a (by omega)
  have hmb := hm b (by omega)
  clear hm
  obtain ⟨A, hA⟩ : ∃ A, a % 2048 = A := ⟨_, rfl⟩
  obtain ⟨B, hB⟩ : ∃ B, b % 2048 = B := ⟨_, rfl⟩
  have hAl : A < 2048 := by omega
  have hBl : B < 2048 := by omega
  rw [hA] at hma
  rw [hB] at hmb
  obtain ⟨x1, x2, x3⟩ := en_ok hAl
  obtain ⟨y1, y2, y3⟩ := en_ok hBl
  have hx := en_xor hAl hBl
  have hABl : A ^^^ B < 2048 := Nat.xor_lt_two_pow (n := 11) hAl hBl
  have hthree : A ≠ B → 3 ≤ on 16 (en A ^^^ en B) := fun hne => by
    have hl := xor_small x1 y1
    rw [on_up 15 16 _ hl (by omega)]
    refine three hl (by rw [sy_xor, x2, y2]; rfl) fun e => hne ?_
    have := congrArg (· ^^^ en B) e
    simp [Nat.xor_assoc] at this
    rw [← x3, ← y3, this]
  have HPA := Lib.hid fun w => HP.ok (d := A) (w := w) hAl
  have HPB := Lib.hid fun w => HP.ok (d := B) (w := w) hBl
  have HPX : Hid (∀ w, HmT w → Calls Tryd.prog 7 #[.int .u16 (bits .xor .u16 (A : Int) (B : Int))] w (Says (.tuple #[.int .u16 ((en A ^^^ en B : Nat) : Int), .int .i64 0]) w)) := Lib.hid fun w => by
    rw [xor_u16_nat A B (by omega) (by omega), ← hx]
    exact HP.ok hABl
  obtain ⟨X, hX⟩ : ∃ X, en A = X := ⟨_, rfl⟩
  obtain ⟨Y, hY⟩ : ∃ Y, en B = Y := ⟨_, rfl⟩
  rw [hX] at HPA HPX x1 hthree
  rw [hY] at HPB HPX y1 hthree
  have hxy := xor_u16_nat X Y (by omega) (by omega)
  have hxl := xor_small x1 y1
  have HON : Hid (∀ w, Calls Tryd.prog 14 #[.int .i64 (wrap64 (bits .xor .u16 (X : Int) (Y : Int)))] w (Says (.int .i64 ((on 16 (X ^^^ Y) : Nat) : Int)) w)) := Lib.hid fun w => by
    rw [hxy, IntWalk.wrap64_in _ (by omega)]
    exact ones_any _ w (by omega)
  have g1 : (((X ^^^ Y : Nat) : Int) == bits .xor .u16 (X : Int) (Y : Int)) = true := by rw [hxy]; exact beq_self_eq_true _
  obtain ⟨Z, hZ⟩ : ∃ Z, X ^^^ Y = Z := ⟨_, rfl⟩
  obtain ⟨o, ho⟩ : ∃ o, on 16 Z = o := ⟨_, rfl⟩
  rw [hZ] at HPX HON g1 hthree hxl
  rw [ho] at HON hthree
  have HGZ := Lib.hid (good_zeros 3 (by omega) #[.int .i64 0, .int .i64 0, .int .i64 0] rfl 23)
  have hob : o ≤ 16 := by rw [← ho]; exact on_le 16 Z
  clear hA hB hx hX hY hZ ho hxy HP ha hb x2 x3 y2 y3
  by_cases hne : A = B
  · subst hne
    clear hthree
    go_enter Tryd.func5, Tryd.ntmps5
    go_wp2_with (first
      | (go_at_call 11; (with_reducible refine (HY.out _ (hT.ex (by repeat (first | assumption | exact Ex.refl _ | refine Ex.trans ?_ (by assumption))))).mono ?_); rintro e w1 ⟨rfl, hw1⟩)
      | (go_at_call 7; (with_reducible refine (HPA.out _ (hT.ex (by repeat (first | assumption | exact Ex.refl _ | refine Ex.trans ?_ (by assumption))))).mono ?_); rintro e w3 ⟨rfl, hw3⟩; clear HPA)
      | (go_at_call 7; (with_reducible refine (HPB.out _ (hT.ex (by repeat (first | assumption | exact Ex.refl _ | refine Ex.trans ?_ (by assumption))))).mono ?_); rintro e w4 ⟨rfl, hw4⟩; clear HPB)
      | (go_at_call 7; (with_reducible refine (HPX.out _ (hT.ex (by repeat (first | assumption | exact Ex.refl _ | refine Ex.trans ?_ (by assumption))))).mono ?_); rintro e w5 ⟨rfl, hw5⟩)
      | (go_at_call 13; (refine (HGZ.out _).mono ?_); rintro e w6 ⟨rfl, hw6⟩))
    go_ret
    exact ⟨by simp, (((hw1.trans hw3).trans hw4).trans hw5).trans hw6⟩
  · have h3 := hthree hne
    have g2 : ((A : Int) == (B : Int)) = false := beq_eq_false_iff_ne.mpr (by omega)
    have g3 : decide (3 ≤ (o : Int)) = true := decide_eq_true (by omega)
    clear hthree hne
    go_enter Tryd.func5, Tryd.ntmps5
    go_wp2_with (first
      | (go_at_call 11; (with_reducible refine (HY.out _ (hT.ex (by repeat (first | assumption | exact Ex.refl _ | refine Ex.trans ?_ (by assumption))))).mono ?_); rintro e w1 ⟨rfl, hw1⟩)
      | (go_at_call 7; (with_reducible refine (HPA.out _ (hT.ex (by repeat (first | assumption | exact Ex.refl _ | refine Ex.trans ?_ (by assumption))))).mono ?_); rintro e w3 ⟨rfl, hw3⟩; clear HPA)
      | (go_at_call 7; (with_reducible refine (HPB.out _ (hT.ex (by repeat (first | assumption | exact Ex.refl _ | refine Ex.trans ?_ (by assumption))))).mono ?_); rintro e w4 ⟨rfl, hw4⟩; clear HPB)
      | (go_at_call 7; (with_reducible refine (HPX.out _ (hT.ex (by repeat (first | assumption | exact Ex.refl _ | refine Ex.trans ?_ (by assumption))))).mono ?_); rintro e w5 ⟨rfl, hw5⟩)
      | (go_at_call 13; (refine (HGZ.out _).mono ?_); rintro e w6 ⟨rfl, hw6⟩)
      | (go_at_call 14; (with_reducible refine (HON.out _).mono ?_); rintro e w7 ⟨rfl, hw7⟩))
    go_ret
    exact ⟨by simp, ((((hw1.trans hw3).trans hw4).trans hw5).trans hw6).trans hw7⟩

set_option maxRecDepth 100000 in
set_option maxHeartbeats 1000000 in
theorem hammingAll_of (HP : PutC) (HG : GetC) (v : Int) (w : World) (hv : 0 ≤ v ∧ v ≤ 65535) (hT : HmT w) :
    Calls Tryd.prog 6 #[.int .u16 v] w (Says (.bool true) w) := by
  have HY := Lib.hid fun w => hammings_yes HP w
  obtain ⟨v, rfl⟩ : ∃ n : Nat, v = (n : Int) := ⟨v.toNat, by omega⟩
  have hm : bits .and .u16 (v : Int) 32767 = ((v % 32768 : Nat) : Int) := by
    have := and_u16_nat v 32767 (by omega) (by decide)
    rw [mask_15] at this
    exact this
  obtain ⟨V, hV⟩ : ∃ V, v % 32768 = V := ⟨_, rfl⟩
  have hVl : V < 32768 := by omega
  rw [hV] at hm
  have hS := sy_small V
  have hr := mended V
  have hg := fun w => HG.ok (v := V) (w := w) hVl
  obtain ⟨S, hSS⟩ : ∃ S, sy 15 V = S := ⟨_, rfl⟩
  rw [hSS] at hS hr hg
  have hCl := xor_small hVl (fl_small (show S ≤ 15 by omega))
  have hback := turn_back V (Hm.fl S)
  obtain ⟨C, hC⟩ : ∃ C, V ^^^ Hm.fl S = C := ⟨_, rfl⟩
  rw [hC] at hr hg hCl hback
  have hD := dt_lt pl C
  have hen := en_one hCl hr rfl
  obtain ⟨D, hDD⟩ : ∃ D, dt pl C = D := ⟨_, rfl⟩
  rw [hDD] at hg hD hen
  have HGE := Lib.hid hg
  have hD2 : D < 2048 := hD
  have hp := fun w => HP.ok (d := D) (w := w) hD2
  rw [← hen] at hp
  have HPU := Lib.hid hp
  have HGZ := Lib.hid (good_zeros 2 (by omega) #[.int .i64 0, .int .i64 0] rfl 23)
  have hv2 : v < 65536 := by omega
  clear hg hp HP HG hV hSS hr hC hDD hen hD hv
  by_cases h0 : S = 0
  · subst h0
    rw [fl_none, Nat.xor_zero] at hback
    subst hback
    have HGE2 : Hid (∀ w, HmT w → Calls Tryd.prog 8 #[.int .u16 (C : Int)] w (Says (.tuple #[.int .u16 (D : Int), .int .i64 0, .int .i64 0]) w)) := HGE
    clear HGE
    go_enter Tryd.func6, Tryd.ntmps6
    go_wp2_with (first
      | (go_at_call 11; (with_reducible refine (HY.out _ (hT.ex (by repeat (first | assumption | exact Ex.refl _ | refine Ex.trans ?_ (by assumption))))).mono ?_); rintro e w1 ⟨rfl, hw1⟩)
      | (go_at_call 8; (with_reducible refine (HGE2.out _ (hT.ex (by repeat (first | assumption | exact Ex.refl _ | refine Ex.trans ?_ (by assumption))))).mono ?_); rintro e w2 ⟨rfl, hw2⟩)
      | (go_at_call 7; (with_reducible refine (HPU.out _ (hT.ex (by repeat (first | assumption | exact Ex.refl _ | refine Ex.trans ?_ (by assumption))))).mono ?_); rintro e w3 ⟨rfl, hw3⟩)
      | (go_at_call 13; (refine (HGZ.out _).mono ?_); rintro e w5 ⟨rfl, hw5⟩))
    go_ret
    exact ⟨by simp, ((hw1.trans hw2).trans hw3).trans hw5⟩
  · obtain ⟨k, rfl⟩ : ∃ k, S = k + 1 := ⟨S - 1, by omega⟩
    have ht := turn_u16 (show C < 65536 by omega) (show k < 15 by omega)
    rw [hback] at ht
    have g1 : (bits .xor .u16 (C : Int) (IntKind.u16.wrap ((2 : Int) ^ k)) == (V : Int)) = true := by rw [ht]; exact beq_self_eq_true _
    have HT := Lib.hid ht
    clear ht hback
    go_enter Tryd.func6, Tryd.ntmps6
    go_wp2_with (first
      | (go_at_call 11; (with_reducible refine (HY.out _ (hT.ex (by repeat (first | assumption | exact Ex.refl _ | refine Ex.trans ?_ (by assumption))))).mono ?_); rintro e w1 ⟨rfl, hw1⟩)
      | (go_at_call 8; (with_reducible refine (HGE.out _ (hT.ex (by repeat (first | assumption | exact Ex.refl _ | refine Ex.trans ?_ (by assumption))))).mono ?_); rintro e w2 ⟨rfl, hw2⟩)
      | (go_at_call 7; (with_reducible refine (HPU.out _ (hT.ex (by repeat (first | assumption | exact Ex.refl _ | refine Ex.trans ?_ (by assumption))))).mono ?_); rintro e w3 ⟨rfl, hw3⟩)
      | (go_at_call 13; (refine (HGZ.out _).mono ?_); rintro e w5 ⟨rfl, hw5⟩))
    go_ret
    exact ⟨by simp, ((hw1.trans hw2).trans hw3).trans hw5⟩

set_option maxRecDepth 100000 in
set_option maxHeartbeats 2000000 in
theorem hammingSays_of (HP : PutC) (HG : GetC) (d v : Int) (w : World) (hd : 0 ≤ d ∧ d ≤ 65535) (hv : 0 ≤ v ∧ v ≤ 65535) (hT : HmT w) :
    Calls Tryd.prog 3 #[.int .u16 d, .int .u16 v] w (Says (.bool true) w) := by
  obtain ⟨d, rfl⟩ : ∃ n : Nat, d = (n : Int) := ⟨d.toNat, by omega⟩
  obtain ⟨v, rfl⟩ : ∃ n : Nat, v = (n : Int) := ⟨v.toNat, by omega⟩
  by_cases h1 : 2048 ≤ d
  · have HPU := Lib.hid fun w => HP.no (d := d) (w := w) h1 (by omega)
    have g1 : decide (2047 < (d : Int)) = true := decide_eq_true (by omega)
    have HRI := Lib.hid True.intro
    have HDA := Lib.hid True.intro
    clear HP
    by_cases hw2 : 32768 ≤ v
    · have HGE := Lib.hid fun w => HG.no (v := v) (w := w) hw2 (by omega)
      have g2 : decide (32767 < (v : Int)) = true := decide_eq_true (by omega)
      clear HG
      go_enter Tryd.func3, Tryd.ntmps3
      go_wp2_with (first
        | (go_at_call 7; (with_reducible refine (HPU.out _ (hT.ex (by repeat (first | assumption | exact Ex.refl _ | refine Ex.trans ?_ (by assumption))))).mono ?_); rintro e w1 ⟨rfl, hw1⟩)
        | (go_at_call 8; (with_reducible refine (HGE.out _ (hT.ex (by repeat (first | assumption | exact Ex.refl _ | refine Ex.trans ?_ (by assumption))))).mono ?_); rintro e w2 ⟨rfl, hw2⟩)
        | (go_at_call 9; (with_reducible refine (HRI.out _).mono ?_); rintro e w3 ⟨rfl, hw3⟩)
        | (go_at_call 10; (with_reducible refine (HDA.out _).mono ?_); rintro e w4 ⟨rfl, hw4⟩))
      go_ret
      exact ⟨by simp, hw1.trans hw2⟩
    · have hvl : v < 32768 := by omega
      have g2 : decide (32767 < (v : Int)) = false := decide_eq_false (by omega)
      have hg := fun w => HG.ok (v := v) (w := w) hvl
      have hS := sy_small v
      obtain ⟨S, hSS⟩ : ∃ S, sy 15 v = S := ⟨_, rfl⟩
      have HSS := Lib.hid hSS
      rw [hSS] at hg hS
      have HRK : Hid (∀ k w, k ≤ 15 → Calls Tryd.prog 9 #[.int .u16 ((v ^^^ Hm.fl k : Nat) : Int)] w (Says (.bool (decide (k = S))) w)) := Lib.hid fun k w hk => by
        refine rightWord_any _ w (by have := xor_small hvl (fl_small hk); omega) _ ?_
        rw [← hSS]
        exact decide_eq_decide.mpr (mend hk)
      have HDK : Hid (∀ w, Calls Tryd.prog 10 #[.int .u16 ((v ^^^ Hm.fl S : Nat) : Int)] w (Says (.int .u16 ((dt pl (v ^^^ Hm.fl S) : Nat) : Int)) w)) := Lib.hid fun w => dataOf_any _ w (by have := xor_small hvl (fl_small (show S ≤ 15 by omega)); omega)
      obtain ⟨E, hE⟩ : ∃ E, dt pl (v ^^^ Hm.fl S) = E := ⟨_, rfl⟩
      rw [hE] at hg HDK
      have HGE := Lib.hid hg
      clear hg HG hSS hE
      go_enter Tryd.func3, Tryd.ntmps3
      go_wp2_with (first
        | (go_at_call 7; (with_reducible refine (HPU.out _ (hT.ex (by repeat (first | assumption | exact Ex.refl _ | refine Ex.trans ?_ (by assumption))))).mono ?_); rintro e w1 ⟨rfl, hw1⟩)
        | (go_at_call 8; (with_reducible refine (HGE.out _ (hT.ex (by repeat (first | assumption | exact Ex.refl _ | refine Ex.trans ?_ (by assumption))))).mono ?_); rintro e w2 ⟨rfl, hw2⟩)
        | (go_at_call 9; (with_reducible refine (HRI.out _).mono ?_); rintro e w3 ⟨rfl, hw3⟩)
        | (go_at_call 10; (with_reducible refine (HDA.out _).mono ?_); rintro e w4 ⟨rfl, hw4⟩))
      have HX := Lib.hid (hw1.trans hw2)
      go_loopg [60] S (fun k v60 wr => ∃ i : Nat, i ≤ S ∧ v60 = .int .i64 (i : Int) ∧ Hid (k = S - i) ∧ Ex w wr)
      case atStart => exact ⟨0, by omega, rfl, Lib.hid rfl, HX.out⟩
      case round =>
        obtain ⟨i, hi, rfl, hk, hx⟩ := hrel
        by_cases hiS : i = S
        · subst hiS
          have hr := fun w => HRK.out i w (by omega)
          rw [decide_eq_true rfl] at hr
          by_cases h0 : i = 0
          · subst h0
            rw [fl_none, Nat.xor_zero] at hr HDK
            have HR := Lib.hid hr
            have HD0 : Hid (∀ w, Calls Tryd.prog 10 #[.int .u16 (v : Int)] w (Says (.int .u16 (E : Int)) w)) := HDK
            clear hr HDK
            go_wp2_with (first
              | (go_at_call 9; (with_reducible refine (HR.out _).mono ?_); rintro e w7 ⟨rfl, hw7⟩)
              | (go_at_call 10; (with_reducible refine (HD0.out _).mono ?_); rintro e w8 ⟨rfl, hw8⟩))
            go_ret
            exact ⟨by simp, (hx.trans hw7).trans hw8⟩
          · obtain ⟨k, rfl⟩ : ∃ k, i = k + 1 := ⟨i - 1, by omega⟩
            have ht := turn_u16 (show v < 65536 by omega) (show k < 15 by omega)
            rw [← ht] at hr HDK
            have HR := Lib.hid hr
            clear hr ht h0
            go_wp2_with (first
              | (go_at_call 9; (with_reducible refine (HR.out _).mono ?_); rintro e w7 ⟨rfl, hw7⟩)
              | (go_at_call 10; (with_reducible refine (HDK.out _).mono ?_); rintro e w8 ⟨rfl, hw8⟩))
            go_ret
            exact ⟨by simp, (hx.trans hw7).trans hw8⟩
        · have hr := fun w => HRK.out i w (by omega)
          rw [decide_eq_false hiS] at hr
          by_cases h0 : i = 0
          · subst h0
            rw [fl_none, Nat.xor_zero] at hr
            have HR := Lib.hid hr
            clear hr
            go_wp2_with (go_at_call 9; (with_reducible refine (HR.out _).mono ?_); rintro e w7 ⟨rfl, hw7⟩)
            go_roundg (S - (0 + 1))
            case measure => have := hk.out; omega
            case rel => exact ⟨1, by omega, by go_num, Lib.hid rfl, hx.trans hw7⟩
          · obtain ⟨k, rfl⟩ : ∃ k, i = k + 1 := ⟨i - 1, by omega⟩
            have ht := turn_u16 (show v < 65536 by omega) (show k < 15 by omega)
            rw [← ht] at hr
            have HR := Lib.hid hr
            clear hr ht h0
            go_wp2_with (go_at_call 9; (with_reducible refine (HR.out _).mono ?_); rintro e w7 ⟨rfl, hw7⟩)
            go_roundg (S - (k + 1 + 1))
            case measure => have := hk.out; omega
            case rel => exact ⟨k + 1 + 1, by omega, by go_num, Lib.hid rfl, hx.trans hw7⟩
  · have hdl : d < 2048 := by omega
    obtain ⟨e1, e2, e3⟩ := en_ok hdl
    have HPU := Lib.hid fun w => HP.ok (d := d) (w := w) hdl
    have HRI := Lib.hid fun w => rightWord_any (en d) w (by omega) true (decide_eq_true e2)
    have hda := fun w => dataOf_any (en d) w (by omega)
    rw [e3] at hda
    have HDA := Lib.hid hda
    obtain ⟨X, hX⟩ : ∃ X, en d = X := ⟨_, rfl⟩
    rw [hX] at HPU HRI HDA e1
    have g1 : decide (2047 < (d : Int)) = false := decide_eq_false (by omega)
    have g3 : decide (32767 < (X : Int)) = false := decide_eq_false (by omega)
    clear HP hda hX e2 e3
    by_cases hw2 : 32768 ≤ v
    · have HGE := Lib.hid fun w => HG.no (v := v) (w := w) hw2 (by omega)
      have g2 : decide (32767 < (v : Int)) = true := decide_eq_true (by omega)
      clear HG
      go_enter Tryd.func3, Tryd.ntmps3
      go_wp2_with (first
        | (go_at_call 7; (with_reducible refine (HPU.out _ (hT.ex (by repeat (first | assumption | exact Ex.refl _ | refine Ex.trans ?_ (by assumption))))).mono ?_); rintro e w1 ⟨rfl, hw1⟩)
        | (go_at_call 8; (with_reducible refine (HGE.out _ (hT.ex (by repeat (first | assumption | exact Ex.refl _ | refine Ex.trans ?_ (by assumption))))).mono ?_); rintro e w2 ⟨rfl, hw2⟩)
        | (go_at_call 9; (with_reducible refine (HRI.out _).mono ?_); rintro e w3 ⟨rfl, hw3⟩)
        | (go_at_call 10; (with_reducible refine (HDA.out _).mono ?_); rintro e w4 ⟨rfl, hw4⟩))
      go_ret
      exact ⟨by simp, ((hw1.trans hw2).trans hw3).trans hw4⟩
    · have hvl : v < 32768 := by omega
      have g2 : decide (32767 < (v : Int)) = false := decide_eq_false (by omega)
      have hg := fun w => HG.ok (v := v) (w := w) hvl
      have hS := sy_small v
      obtain ⟨S, hSS⟩ : ∃ S, sy 15 v = S := ⟨_, rfl⟩
      have HSS := Lib.hid hSS
      rw [hSS] at hg hS
      have HRK : Hid (∀ k w, k ≤ 15 → Calls Tryd.prog 9 #[.int .u16 ((v ^^^ Hm.fl k : Nat) : Int)] w (Says (.bool (decide (k = S))) w)) := Lib.hid fun k w hk => by
        refine rightWord_any _ w (by have := xor_small hvl (fl_small hk); omega) _ ?_
        rw [← hSS]
        exact decide_eq_decide.mpr (mend hk)
      have HDK : Hid (∀ w, Calls Tryd.prog 10 #[.int .u16 ((v ^^^ Hm.fl S : Nat) : Int)] w (Says (.int .u16 ((dt pl (v ^^^ Hm.fl S) : Nat) : Int)) w)) := Lib.hid fun w => dataOf_any _ w (by have := xor_small hvl (fl_small (show S ≤ 15 by omega)); omega)
      obtain ⟨E, hE⟩ : ∃ E, dt pl (v ^^^ Hm.fl S) = E := ⟨_, rfl⟩
      rw [hE] at hg HDK
      have HGE := Lib.hid hg
      clear hg HG hSS hE
      go_enter Tryd.func3, Tryd.ntmps3
      go_wp2_with (first
        | (go_at_call 7; (with_reducible refine (HPU.out _ (hT.ex (by repeat (first | assumption | exact Ex.refl _ | refine Ex.trans ?_ (by assumption))))).mono ?_); rintro e w1 ⟨rfl, hw1⟩)
        | (go_at_call 8; (with_reducible refine (HGE.out _ (hT.ex (by repeat (first | assumption | exact Ex.refl _ | refine Ex.trans ?_ (by assumption))))).mono ?_); rintro e w2 ⟨rfl, hw2⟩)
        | (go_at_call 9; (with_reducible refine (HRI.out _).mono ?_); rintro e w3 ⟨rfl, hw3⟩)
        | (go_at_call 10; (with_reducible refine (HDA.out _).mono ?_); rintro e w4 ⟨rfl, hw4⟩))
      have HX := Lib.hid (((hw1.trans hw2).trans hw3).trans hw4)
      go_loopg [60] S (fun k v60 wr => ∃ i : Nat, i ≤ S ∧ v60 = .int .i64 (i : Int) ∧ Hid (k = S - i) ∧ Ex w wr)
      case atStart => exact ⟨0, by omega, rfl, Lib.hid rfl, HX.out⟩
      case round =>
        obtain ⟨i, hi, rfl, hk, hx⟩ := hrel
        by_cases hiS : i = S
        · subst hiS
          have hr := fun w => HRK.out i w (by omega)
          rw [decide_eq_true rfl] at hr
          by_cases h0 : i = 0
          · subst h0
            rw [fl_none, Nat.xor_zero] at hr HDK
            have HR := Lib.hid hr
            have HD0 : Hid (∀ w, Calls Tryd.prog 10 #[.int .u16 (v : Int)] w (Says (.int .u16 (E : Int)) w)) := HDK
            clear hr HDK
            go_wp2_with (first
              | (go_at_call 9; (with_reducible refine (HR.out _).mono ?_); rintro e w7 ⟨rfl, hw7⟩)
              | (go_at_call 10; (with_reducible refine (HD0.out _).mono ?_); rintro e w8 ⟨rfl, hw8⟩))
            go_ret
            exact ⟨by simp, (hx.trans hw7).trans hw8⟩
          · obtain ⟨k, rfl⟩ : ∃ k, i = k + 1 := ⟨i - 1, by omega⟩
            have ht := turn_u16 (show v < 65536 by omega) (show k < 15 by omega)
            rw [← ht] at hr HDK
            have HR := Lib.hid hr
            clear hr ht h0
            go_wp2_with (first
              | (go_at_call 9; (with_reducible refine (HR.out _).mono ?_); rintro e w7 ⟨rfl, hw7⟩)
              | (go_at_call 10; (with_reducible refine (HDK.out _).mono ?_); rintro e w8 ⟨rfl, hw8⟩))
            go_ret
            exact ⟨by simp, (hx.trans hw7).trans hw8⟩
        · have hr := fun w => HRK.out i w (by omega)
          rw [decide_eq_false hiS] at hr
          by_cases h0 : i = 0
          · subst h0
            rw [fl_none, Nat.xor_zero] at hr
            have HR := Lib.hid hr
            clear hr
            go_wp2_with (go_at_call 9; (with_reducible refine (HR.out _).mono ?_); rintro e w7 ⟨rfl, hw7⟩)
            go_roundg (S - (0 + 1))
            case measure => have := hk.out; omega
            case rel => exact ⟨1, by omega, by go_num, Lib.hid rfl, hx.trans hw7⟩
          · obtain ⟨k, rfl⟩ : ∃ k, i = k + 1 := ⟨i - 1, by omega⟩
            have ht := turn_u16 (show v < 65536 by omega) (show k < 15 by omega)
            rw [← ht] at hr
            have HR := Lib.hid hr
            clear hr ht h0
            go_wp2_with (go_at_call 9; (with_reducible refine (HR.out _).mono ?_); rintro e w7 ⟨rfl, hw7⟩)
            go_roundg (S - (k + 1 + 1))
            case measure => have := hk.out; omega
            case rel => exact ⟨k + 1 + 1, by omega, by go_num, Lib.hid rfl, hx.trans hw7⟩

end Go.Proofs.YtehonbailaomeaaDoor
