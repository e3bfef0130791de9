/-
  The document's ChooseMod, walked: digit by digit, by rows of sums.
-/
import Derived.Test.YtjgkpfkiflhkaaaBiWalks
import Derived.Test.YtjgkpfkiflhkaaaFl
import Derived.RegionTactic
import Derived.BigRegion
namespace Go.Proofs.Ytjgkpfkiflhkaaa
open Go.RowKit
open Eu Pr Rs Bi

theorem mod_digit {p : Nat} (hp : Prm p) {a b : Nat} {o C : Int} (h : o * (ch a b : Int) % p = C % p) :
    o * ((ch (a % p) (b % p) : Int) % p) % p * (ch (a / p) (b / p) : Int) % p = C % p := by
  rw [← h, mul_emod_left, Int.mul_assoc, same_mul (p := (p : Int)) (a := o) (b := o) rfl (c := ((ch (a % p) (b % p) : Int) % p) * (ch (a / p) (b / p) : Int)) (d := (ch a b : Int))]
  rw [mul_emod_left, Int.mul_comm, ← lucasZ hp]

set_option maxRecDepth 100000 in
set_option maxHeartbeats 4000000 in
theorem chooseMod_any (n k p : Nat) (w : World) (h : OkB n k p) :
    Calls Try.prog 13 #[.int .i64 n, .int .i64 k, .int .i64 p] w (Says (.int .i64 ((ch n k : Int) % (p : Int))) w) := by
  obtain ⟨h1, h2, h3, h4, h5, hp⟩ := h
  have h6 := hp.1
  have HP := Lib.hid hp
  obtain ⟨C, hC⟩ : ∃ C : Int, (ch n k : Int) = C := ⟨_, rfl⟩
  have HI0 : Hid ((1 : Int) * (ch n k : Int) % p = C % p) := Lib.hid (by rw [hC, Int.one_mul])
  rw [hC]
  clear hp hC
  go_enter Try.func13, Try.ntmps13
  go_wp2
  go_loopg [0, 1, 7] n (fun m v0 v1 v7 x => ∃ (a b : Nat) (o : Int), a ≤ n ∧ b ≤ a ∧ 0 ≤ o ∧ o < p ∧ v0 = .int .i64 a ∧ v1 = .int .i64 b ∧ v7 = .int .i64 o ∧ Hid (o * (ch a b : Int) % p = C % p) ∧ Hid (m = a) ∧ Ex w x)
  case atStart => exact ⟨n, k, 1, by omega, by omega, by omega, by omega, rfl, rfl, rfl, HI0, Lib.hid rfl, Ex.refl _⟩
  case round =>
    rename World => wo
    obtain ⟨a, b, o, ha, hb, o0, o1, rfl, rfl, rfl, hI, hm, hx⟩ := hrel
    by_cases h0 : 0 < a
    · obtain ⟨A, hA⟩ : ∃ A, a % p = A := ⟨_, rfl⟩
      obtain ⟨B, hB⟩ : ∃ B, b % p = B := ⟨_, rfl⟩
      have eA : (a : Int) % (p : Int) = (A : Int) := by rw [← hA]; exact (Int.natCast_emod a p).symm
      have eB : (b : Int) % (p : Int) = (B : Int) := by rw [← hB]; exact (Int.natCast_emod b p).symm
      have lA : A < p := by rw [← hA]; exact Nat.mod_lt _ (by omega)
      have lB : B < p := by rw [← hB]; exact Nat.mod_lt _ (by omega)
      have HA := Lib.hid hA
      have HB := Lib.hid hB
      clear hA hB
      have gb : (decide ((0 : Int) < (a : Int)) || decide ((0 : Int) < (b : Int))) = true := by rw [decide_eq_true (by omega)]; rfl
      have HF0 : Hid (∀ t, t < p → upd (fun _ => (0 : Int)) 0 1 t = (ch 0 t : Int) % (p : Int)) := Lib.hid fun t ht => by
        match t with
        | 0 => rw [upd_at, ch_zero]; exact (Int.emod_eq_of_lt (by omega) (by omega)).symm
        | t + 1 => rw [upd_ne (by omega), ch_big 0 (t + 1) (by omega)]; rfl
      go_wp2_with (
        (at_make; refine wpList_make_ints rfl _ _ 34 rfl wo.heap.size 3 .i64 8 Try.underlying34 info_int _ _ p rfl rfl (by omega) (by unfold maxLen; omega) (Nat.le_refl _) ?_; intro w2 hown2 hgrow2
         have HX2 : Hid (Ex w w2) := Lib.hid (ex_grown hx hgrow2 (by intro k hk; cases hk))
         have HR2 : Hid (Row 3 .i64 w2 wo.heap.size (.slice (some ⟨wo.heap.size, 0, none⟩) p p) (fl p fun _ => 0)) := Lib.hid (by rw [fl_zero] at hown2; exact hown2)
         obtain ⟨_, _, hcf, hfr⟩ := HR2.out.flat
         have hc0 := hcf 0 (by omega)
         have hf0 := hfr 0
         have HS0 := HR2.out.flset 0 1
         have HX3 := Lib.hid (ex_grown HX2.out HS0.2 (by intro k hk; cases hk; exact hx.size))
         have HS := Lib.hid HS0.1
         clear hown2 hgrow2 hcf hfr HS0))
      obtain ⟨q, hq⟩ : ∃ q, wo.heap.size = q := ⟨_, rfl⟩
      have HQ : Hid (w.heap.size ≤ q) := Lib.hid (by rw [← hq]; exact hx.size)
      rw [hq] at HX3 HS ⊢
      clear hc0 hf0 hq HR2 HX2
      go_loopg [23] A (fun m v23 x => ∃ (j : Nat) (F : Nat → Int), j ≤ A ∧ v23 = .int .i64 j ∧ Hid (∀ t, t < p → F t = (ch j t : Int) % (p : Int)) ∧ Hid (Row 3 .i64 x q (.slice (some ⟨q, 0, none⟩) p p) (fl p F)) ∧ Hid (m = A - j) ∧ Ex w x)
      case atStart => exact ⟨0, _, by omega, rfl, HF0, HS, Lib.hid rfl, HX3.out⟩
      case round =>
        rename World => wi
        obtain ⟨j, F, hj, rfl, hF, hR, hm2, hy⟩ := hrel
        by_cases hlt : j < A
        · obtain ⟨P, hP⟩ : ∃ P, p = P + 1 := ⟨p - 1, by omega⟩
          have hPP : (p : Int) - 1 = (P : Int) := by omega
          have HPP := Lib.hid hP
          clear hP
          have HHI : Hid (∀ t, P < t → t < p → F t = (ch (j + 1) t : Int) % (p : Int)) := Lib.hid fun t h1 h2 => by have := HPP.out; omega
          have HLO : Hid (∀ t, t ≤ P → F t = (ch j t : Int) % (p : Int)) := Lib.hid fun t h1 => hF.out t (by have := HPP.out; omega)
          go_wp2
          go_loopg [9] P (fun m v9 y => ∃ (i : Nat) (H : Nat → Int), i ≤ P ∧ v9 = .int .i64 i ∧ Hid (∀ t, t ≤ i → H t = (ch j t : Int) % (p : Int)) ∧ Hid (∀ t, i < t → t < p → H t = (ch (j + 1) t : Int) % (p : Int)) ∧ Hid (Row 3 .i64 y q (.slice (some ⟨q, 0, none⟩) p p) (fl p H)) ∧ Hid (m = i) ∧ Ex w y)
          case atStart => exact ⟨P, F, by omega, rfl, HLO, HHI, hR, Lib.hid rfl, hy⟩
          case round =>
            obtain ⟨i, H, hi, rfl, hL, hG, hRi, hm3, hz⟩ := hrel
            by_cases h0i : 0 < i
            · obtain ⟨e, rfl⟩ : ∃ e, i = e + 1 := ⟨i - 1, by omega⟩
              have hep : e + 1 < p := by have := HPP.out; omega
              obtain ⟨_, _, hcf, hfr⟩ := hRi.out.flat
              have hc1 := hcf (e + 1) hep
              have hc2 := hcf e (by omega)
              have hf1 := hfr (e + 1)
              have hX0 := hL.out (e + 1) (Nat.le_refl _)
              have hY0 := hL.out e (by omega)
              have x0 := Int.emod_nonneg (ch j (e + 1) : Int) (b := (p : Int)) (by omega)
              have x1 := Int.emod_lt_of_pos (ch j (e + 1) : Int) (b := (p : Int)) (by omega)
              have y0 := Int.emod_nonneg (ch j e : Int) (b := (p : Int)) (by omega)
              have y1 := Int.emod_lt_of_pos (ch j e : Int) (b := (p : Int)) (by omega)
              rw [← hX0] at x0 x1
              rw [← hY0] at y0 y1
              have hz0 := row_step (p := (p : Int)) (j := j) (i := e + 1) (x := H (e + 1)) (y := H e) (by omega) hX0 (by rw [Nat.add_sub_cancel, hY0])
              have d0 := Int.emod_nonneg (H (e + 1) + H e) (b := (p : Int)) (by omega)
              have d1 := Int.emod_lt_of_pos (H (e + 1) + H e) (b := (p : Int)) (by omega)
              have HS0 := hRi.out.flset (e + 1) ((H (e + 1) + H e) % (p : Int))
              have HX4 := Lib.hid (ex_grown hz HS0.2 (by intro k hk; cases hk; exact HQ.out))
              have HS := Lib.hid HS0.1
              have HL2 : Hid (∀ t, t ≤ e → upd H (e + 1) ((H (e + 1) + H e) % (p : Int)) t = (ch j t : Int) % (p : Int)) := Lib.hid fun t ht => by rw [upd_ne (by omega)]; exact hL.out t (by omega)
              have HG2 : Hid (∀ t, e < t → t < p → upd H (e + 1) ((H (e + 1) + H e) % (p : Int)) t = (ch (j + 1) t : Int) % (p : Int)) := Lib.hid fun t h1 h2 => by
                by_cases he : t = e + 1
                · subst he; rw [upd_at]; exact hz0
                · rw [upd_ne he]; exact hG.out t (by omega) h2
              obtain ⟨X, hX⟩ : ∃ X, H (e + 1) = X := ⟨_, rfl⟩
              obtain ⟨Y, hY⟩ : ∃ Y, H e = Y := ⟨_, rfl⟩
              rw [hX] at hc1 x0 x1 d0 d1 HX4 HS HL2 HG2
              rw [hY] at hc2 y0 y1 d0 d1 HX4 HS HL2 HG2
              clear hcf hfr hX0 hY0 hz0 hX hY HS0
              go_wp2
              go_region
              go_wp2
              go_roundg e
              case measure => have := hm3.out; omega
              case rel => exact ⟨e, _, by omega, by first | rfl | go_num, HL2, HG2, HS, Lib.hid rfl, HX4.out.drew⟩
            · obtain rfl : i = 0 := by omega
              go_wp2
              go_roundg (A - (j + 1))
              case measure => have := hm2.out; omega
              case rel => exact ⟨j + 1, H, by omega, by go_num, Lib.hid (fun t ht => by
                match t with
                | 0 => rw [hL.out 0 (Nat.le_refl _), ch_zero, ch_zero]
                | t + 1 => exact hG.out (t + 1) (by omega) ht), hRi, Lib.hid rfl, hz⟩
        · have e : j = A := by omega
          subst e
          obtain ⟨_, _, hcf, hfr⟩ := hR.out.flat
          have hcB := hcf B lB
          have hFB := hF.out B lB
          have x0 := Int.emod_nonneg (ch j B : Int) (b := (p : Int)) (by omega)
          have x1 := Int.emod_lt_of_pos (ch j B : Int) (b := (p : Int)) (by omega)
          have HI2 : Hid (o * (F B) % p * (ch (a / p) (b / p) : Int) % p = C % p) := Lib.hid (by
            have := mod_digit HP.out hI.out
            rw [HA.out, HB.out] at this
            rw [hFB]; exact this)
          rw [← hFB] at x0 x1
          obtain ⟨X, hX⟩ : ∃ X, F B = X := ⟨_, rfl⟩
          rw [hX] at hcB x0 x1 HI2
          clear hcf hfr hFB hX
          obtain ⟨m1a, m1b⟩ := Eu.mul_le (a := o) (b := X) (A := 1000000) (B := 1000000) (by omega) (by omega) (by omega) (by omega)
          have d1 := Int.emod_nonneg (o * X) (b := (p : Int)) (by omega)
          have d2 := Int.emod_lt_of_pos (o * X) (b := (p : Int)) (by omega)
          have hlt2 := Nat.div_lt_self h0 (show 1 < p by omega)
          have hle2 : b / p ≤ a / p := Nat.div_le_div_right hb
          have eq1 : (a : Int) / (p : Int) = ((a / p : Nat) : Int) := (Int.natCast_ediv a p).symm
          have eq2 : (b : Int) / (p : Int) = ((b / p : Nat) : Int) := (Int.natCast_ediv b p).symm
          obtain ⟨a2, ha2⟩ : ∃ q, a / p = q := ⟨_, rfl⟩
          obtain ⟨b2, hb2⟩ : ∃ q, b / p = q := ⟨_, rfl⟩
          rw [ha2, hb2] at HI2 hle2
          rw [ha2] at hlt2 eq1
          rw [hb2] at eq2
          clear ha2 hb2
          go_wp2
          go_region
          go_wp2
          go_roundg a2
          case measure => have := hm.out; omega
          case rel => exact ⟨a2, b2, _, by omega, by omega, d1, d2, by first | rfl | go_num, by first | rfl | go_num, rfl, HI2, Lib.hid rfl, hy.drew⟩
    · obtain rfl : a = 0 := by omega
      obtain rfl : b = 0 := by omega
      have HE : Hid (o = C % (p : Int)) := Lib.hid (by
        have := hI.out
        rw [ch_zero, show ((1 : Nat) : Int) = 1 from rfl, Int.mul_one, Int.emod_eq_of_lt o0 o1] at this
        exact this)
      go_wp2
      go_ret
      exact ⟨by rw [← HE.out]; rfl, hx⟩

end Go.Proofs.Ytjgkpfkiflhkaaa
