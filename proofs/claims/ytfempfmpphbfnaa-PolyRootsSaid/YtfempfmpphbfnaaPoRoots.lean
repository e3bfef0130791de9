/-
  PolyRoots, walked.
-/
import Derived.Test.YtfempfmpphbfnaaPoVals
namespace Go.Proofs.Ytfempfmpphbfnaa
open Go.RowKit
open Pr Po

theorem can_two {p c : Int} (hp : 2 ≤ p) (h0 : 0 ≤ c) (h1 : c < p) : Po.Can p [c, 1] := ⟨fun x hx => by simp at hx; omega, fun _ => (by decide : (1 : Int) ≠ 0)⟩

theorem mul_two (q : List Int) (b : Int) (i : Nat) : c (mul q [b, 1]) i = b * c q i + pre (c q) i := by
  have h1 : ∀ j, c (mul q [1]) j = c q j := fun j => by
    rw [c_mul_right]
    have : pre (c (mul q [])) j = 0 := by
      cases j with
      | zero => rfl
      | succ j => exact c_mul_nil_right q j
    rw [this]
    omega
  rw [c_mul_right]
  have : pre (c (mul q [1])) i = pre (c q) i := by
    cases i with
    | zero => rfl
    | succ i => exact h1 i
  rw [this]

theorem ruf_dv {p x b : Int} (hp : Prm p) (F : List Int) (hb : p ∣ b + x) : IsDv p F [b, 1] (red p (ruf x F)) (short [ev F x % p]) := by
  have p2 := hp.1
  have y0 := Int.emod_nonneg (ev F x) (b := p) (by omega)
  have y1 := Int.emod_lt_of_pos (ev F x) (show 0 < p by omega)
  refine ⟨can_red (by omega) _, short_can fun z hz => by simp at hz; omega, ?_, Dv.cg (q := ruf x F) (r := [ev F x % p]) ?_ (cg_red p _) (cg_short p _)⟩
  · have := short_length [ev F x % p]
    simp only [List.length_cons, List.length_nil] at this ⊢
    omega
  · intro i
    rw [c_add, mul_two, ruf_c x F i]
    have h1 : p ∣ (b + x) * c (ruf x F) i := Int.dvd_mul_of_dvd_left hb
    rw [Int.add_mul] at h1
    have h2 : p ∣ c [ev F x % p] i - (if i = 0 then ev F x else 0) := by
      cases i with
      | zero =>
        rw [if_pos rfl]
        have := Int.mul_ediv_add_emod (ev F x) p
        exact ⟨-(ev F x / p), by rw [Int.mul_neg]; show ev F x % p - ev F x = _; omega⟩
      | succ i =>
        rw [if_neg (by omega), c_succ, c_nil]
        exact Int.dvd_zero p
    have := Int.dvd_add h1 h2
    rwa [show b * c (ruf x F) i + pre (c (ruf x F)) i + c [ev F x % p] i - (pre (c (ruf x F)) i - x * c (ruf x F) i + (if i = 0 then ev F x else 0)) = b * c (ruf x F) i + x * c (ruf x F) i + (c [ev F x % p] i - (if i = 0 then ev F x else 0)) by omega]

/-- The roots below i. -/
def rts (p : Int) (F : List Int) (i : Nat) : List Nat := (List.range i).filter fun k => decide (ev F (k : Int) % p = 0)
theorem rts_succ (p : Int) (F : List Int) (i : Nat) : (rts p F (i + 1)).length = (rts p F i).length + if ev F (i : Int) % p = 0 then 1 else 0 := by
  unfold rts
  rw [List.range_succ, List.filter_append, List.length_append]
  by_cases h : ev F (i : Int) % p = 0
  · rw [if_pos h, List.filter_cons_of_pos (by simpa using h)]; rfl
  · rw [if_neg h, List.filter_cons_of_neg (by simpa using h)]; rfl
theorem rts_le {p : Int} {F : List Int} {J P : Nat} (hp : Prm p) (hF : Po.Can p F) (hJ : F.length = J + 1) (hP : (P : Int) = p) : (rts p F P).length ≤ J := by
  have := roots_le hp J F (by omega) (fun h => can_last hp hF (by intro h0; rw [h0] at hJ; simp at hJ) (h _)) ((rts p F P).map fun k : Nat => (k : Int)) ?_ ?_
  · rwa [List.length_map] at this
  · unfold rts
    exact List.Pairwise.map _ (fun a b h => by omega) (List.nodup_range.filter _)
  · intro x hx
    simp only [rts, List.mem_map, List.mem_filter, List.mem_range, decide_eq_true_eq] at hx
    obtain ⟨k, ⟨h1, h2⟩, rfl⟩ := hx
    exact ⟨by omega, by omega, Int.dvd_of_emod_eq_zero h2⟩

theorem one_cell {w : World} {b : Option Addr} {y : Int} (h : Reads w .i64 b [y]) : ∃ g o, b = some ⟨g, o, none⟩ ∧ w.cell? ⟨g, o, none⟩ = some (.int .i64 y) := by
  rcases h with h | ⟨g, o, h1, h2⟩
  · cases h
  · exact ⟨g, o, h1, h2 0 (by simp)⟩

set_option maxRecDepth 100000 in
set_option maxHeartbeats 1000000 in
theorem polyRoots_walk (n : Int) (a1 : Option Addr) (l1 c1 : Nat) (z1 : List Int) (x : Int) (w : World)
    (_ : I64 n) (h1 : IsInts .i64 8 w a1 l1 c1 z1) (_ : I64 x) :
    Calls Try.prog 7 #[.int .i64 n, .slice a1 l1 c1, .int .i64 x] w (Says (.bool true) w) := by
  obtain ⟨p, hp, p9, hfo⟩ := fieldOf_some n
  have p2 := hp.1
  obtain ⟨F, LF, lF, mF, cF, hF⟩ := polyL hp p9 30 30 rfl (by omega) h1
  obtain ⟨P, hP⟩ : ∃ P : Nat, (P : Int) = p := ⟨p.toNat, by omega⟩
  have m0 := Int.emod_nonneg x (b := p) (by omega)
  have m1 := Int.emod_lt_of_pos x (show 0 < p by omega)
  have HWI : Hid (∀ (e : Int) (w2 : World), e = p → Calls Try.prog 32 #[.int .i64 x, .int .i64 e] w2 (fun e w' => e = .returned (.int .i64 (x % p)) ∧ w2 = w')) := Lib.hid fun e w2 he => by
    subst he
    exact within_any x e w2 (by omega) (by omega)
  have hmx : (if (1 : Int) < p then p else 1) = p := by split <;> omega
  obtain ⟨X, hX⟩ : ∃ X, x % p = X := ⟨_, rfl⟩
  rw [hX] at m0 m1 HWI
  have b0 := Int.emod_nonneg (p - X) (b := p) (by omega)
  have b1 := Int.emod_lt_of_pos (p - X) (show 0 < p by omega)
  have hbx : p ∣ (p - X) % p + X := by
    have := Int.mul_ediv_add_emod (p - X) p
    exact ⟨1 - (p - X) / p, by rw [Int.mul_sub, Int.mul_one]; omega⟩
  obtain ⟨B, hB⟩ : ∃ B, (p - X) % p = B := ⟨_, rfl⟩
  rw [hB] at b0 b1 hbx
  obtain ⟨y, ey, y0, y1, hy⟩ := atL hp p9 cF lF (by omega) X
  have hD := ruf_dv hp F hbx
  rw [ey] at hD
  have HD : Hid (∀ (w2 : World) (a : Option Addr) (ca : Nat), Reads w2 .i64 a F → (a = none → ca = 0) → Calls Try.prog 13 #[.int .i64 p, .slice a LF ca, .slice (some ⟨w2.heap.size, 0, none⟩) 2 2] (w2.alloc (.cells #[.int .i64 B, .int .i64 1] 3)) (Slc2 (red p (ruf X F)) (short [y]) (red p (ruf X F)).length (short [y]).length (w2.alloc (.cells #[.int .i64 B, .int .i64 1] 3)))) := Lib.hid fun w2 a ca hr hn =>
    divS hp p9 cF (can_two p2 b0 b1) lF rfl (by omega) (by simp) (by simp) hD rfl rfl _ _ _ _ _ (hr.ex ((Ex.refl _).alloc _)) hn (reads_new .i64 [B, 1] _ rfl _ _)
  have HPO := Lib.hid polys_yes
  have HFO := Lib.hid hfo
  have HF := Lib.hid hF
  have HAX := Lib.hid hy
  have HAT : Hid (∀ (t : Int) (w2 : World) (a : Option Addr) (ca : Nat), Reads w2 .i64 a F → Calls Try.prog 24 #[.int .i64 p, .slice a LF ca, .int .i64 t] w2 (Says (.tuple #[.int .i64 (ev F t % p), .int .i64 0]) w2)) := Lib.hid fun t w2 a ca hr => by
    obtain ⟨u, eu, _, _, hu⟩ := atL hp p9 cF lF (by omega) t
    rw [eu]
    exact hu w2 a ca hr
  obtain ⟨C, hC⟩ : ∃ C : Nat → Nat, ∀ i, (rts p F i).length = C i := ⟨_, fun _ => rfl⟩
  have HC0 : Hid (C 0 = 0) := Lib.hid (by rw [← hC]; rfl)
  have HCS : Hid (∀ i : Nat, C (i + 1) = C i + if ev F (i : Int) % p = 0 then 1 else 0) := Lib.hid fun i => by rw [← hC, ← hC]; exact rts_succ p F i
  have HCL : Hid (∀ i : Nat, C i ≤ i) := Lib.hid fun i => by
    rw [← hC]
    have := List.length_filter_le (fun k : Nat => decide (ev F (k : Int) % p = 0)) (List.range i)
    rw [List.length_range] at this
    exact this
  have HLE : Hid (∀ J, LF = J + 1 → C P ≤ J) := Lib.hid fun J hJ => by rw [← hC]; exact rts_le hp cF (lF.trans hJ) hP
  by_cases hz : LF = 0
  · subst hz
    obtain rfl : F = [] := List.length_eq_zero_iff.mp lF
    obtain rfl : y = 0 := by rw [← ey]; simp [ev]
    have es : short [0] = [] := rfl
    rw [es] at HD
    simp only [List.length_nil] at HD
    clear h1 hfo hF hp hD hy cF lF hC hX ey es hbx
    go_enter Try.func7, Try.ntmps7
    go_wp2_with (first
      | (go_at_call 27; (with_reducible refine (HPO.out _).mono ?_); rintro e w1 ⟨rfl, hw1⟩)
      | (go_at_call 28; (with_reducible refine (HFO.out _).mono ?_); rintro e w2 ⟨rfl, hw2⟩)
      | (go_at_call 29; (with_reducible refine (HF.out _ (by repeat (first | assumption | exact Ex.refl _ | refine Ex.trans ?_ (by assumption)))).mono ?_); rintro e w3 ⟨b3, d3, rfl, hr3, hn3, hw3⟩)
      | (go_at_call 32; (with_reducible refine (HWI.out _ _ (by first | omega | (split <;> omega))).mono ?_); rintro e w' ⟨rfl, rfl⟩)
      | (go_at_call 24; (with_reducible refine (HAX.out _ _ _ (hr3.out.ex (by repeat (first | assumption | exact Ex.refl _ | refine Ex.trans ?_ (by assumption))))).mono ?_); rintro e w4 ⟨rfl, hw4⟩
         have HX4 : Hid (Ex w3 w4) := Lib.hid (by repeat (first | assumption | exact Ex.refl _ | refine Ex.trans ?_ (by assumption))))
      | (go_at_call 13; (with_reducible refine (HD.out _ _ _ (hr3.out.ex HX4.out) hn3.out).mono ?_); rintro e w5 ⟨b5, d5, b6, d6, rfl, _, _, hr6, hn6, hw5⟩
         have HX5 : Hid (Ex w3 w5) := Lib.hid ((HX4.out.alloc _).trans hw5)
         clear hw5 hw4)
      | (go_at_call 30; refine (good_zeros 2 (by omega) _ rfl _ _).mono ?_; rintro e w6 ⟨rfl, hw6⟩
         have HX6 : Hid (Ex w3 w6) := Lib.hid (HX5.out.trans hw6)
         skip))
    have hx3 : Ex w w3 := (by repeat (first | assumption | exact Ex.refl _ | refine Ex.trans ?_ (by assumption)))
    go_ret
    exact ⟨rfl, hx3.trans HX6.out⟩
  obtain ⟨J, rfl⟩ : ∃ J, LF = J + 1 := ⟨LF - 1, by omega⟩
  have hg0 : ((J : Int) + 1 == 0) = false := by simp; omega
  by_cases hy0 : y = 0
  · have es : short [y] = [] := by rw [hy0]; rfl
    rw [es] at HD
    subst hy0
    simp only [List.length_nil] at HD
    clear h1 hfo hF hp hD hy cF lF hC hX ey es hbx hz
    go_enter Try.func7, Try.ntmps7
    go_wp2_with (first
      | (go_at_call 27; (with_reducible refine (HPO.out _).mono ?_); rintro e w1 ⟨rfl, hw1⟩)
      | (go_at_call 28; (with_reducible refine (HFO.out _).mono ?_); rintro e w2 ⟨rfl, hw2⟩)
      | (go_at_call 29; (with_reducible refine (HF.out _ (by repeat (first | assumption | exact Ex.refl _ | refine Ex.trans ?_ (by assumption)))).mono ?_); rintro e w3 ⟨b3, d3, rfl, hr3, hn3, hw3⟩)
      | (go_at_call 32; (with_reducible refine (HWI.out _ _ (by first | omega | (split <;> omega))).mono ?_); rintro e w' ⟨rfl, rfl⟩)
      | (go_at_call 24; (with_reducible refine (HAX.out _ _ _ (hr3.out.ex (by repeat (first | assumption | exact Ex.refl _ | refine Ex.trans ?_ (by assumption))))).mono ?_); rintro e w4 ⟨rfl, hw4⟩
         have HX4 : Hid (Ex w3 w4) := Lib.hid (by repeat (first | assumption | exact Ex.refl _ | refine Ex.trans ?_ (by assumption))))
      | (go_at_call 13; (with_reducible refine (HD.out _ _ _ (hr3.out.ex HX4.out) hn3.out).mono ?_); rintro e w5 ⟨b5, d5, b6, d6, rfl, _, _, hr6, hn6, hw5⟩
         have HX5 : Hid (Ex w3 w5) := Lib.hid ((HX4.out.alloc _).trans hw5)
         clear hw5 hw4)
      | (go_at_call 30; refine (good_zeros 2 (by omega) _ rfl _ _).mono ?_; rintro e w6 ⟨rfl, hw6⟩
         have HX6 : Hid (Ex w3 w6) := Lib.hid (HX5.out.trans hw6)
         skip))
    have HCNT := Lib.hid (HLE.out J rfl)
    have hx3 : Ex w w3 := (by repeat (first | assumption | exact Ex.refl _ | refine Ex.trans ?_ (by assumption)))
    have HX0 := Lib.hid (hx3.trans HX6.out)
    have HRF := Lib.hid (hr3.out.ex HX6.out)
    clear hr3 hx3 HX6 hw1 hw2 hw3
    go_loopg [14, 84] P (fun k v14 v84 wr => ∃ i : Nat, i ≤ P ∧ v84 = .int .i64 i ∧ v14 = .int .i64 ((C i : Nat) : Int) ∧ Hid (k = P - i) ∧ Ex w6 wr)
    case atStart => exact ⟨0, by omega, rfl, by rw [HC0.out]; rfl, Lib.hid rfl, Ex.refl _⟩
    case round =>
      obtain ⟨i, hi, rfl, rfl, hk, hx⟩ := hrel
      by_cases hlt : i < P
      · have hAi := HAT.out (i : Int) wr
        obtain ⟨U, hU⟩ : ∃ U, ev F (i : Int) % p = U := ⟨_, rfl⟩
        have hci := HCS.out i
        have hcl := HCL.out i
        rw [hU] at hAi hci
        have HAi := Lib.hid hAi
        have hltI : (i : Int) < p := by omega
        by_cases hu : U = 0
        · rw [if_pos hu] at hci
          subst hu
          have HCI := Lib.hid hci
          clear hAi hU hci
          go_wp2_with (go_at_call 24; (with_reducible refine (HAi.out _ _ (HRF.out.ex hx)).mono ?_); rintro e w7 ⟨rfl, hw7⟩)
          go_roundg (P - (i + 1))
          case measure => have := hk.out; omega
          case rel => exact ⟨i + 1, by omega, by go_num, by rw [HCI.out]; go_num, Lib.hid rfl, hx.trans hw7⟩
        · rw [if_neg hu] at hci
          have gu : (U == 0) = false := by simpa using hu
          have HCI := Lib.hid hci
          clear hAi hU hci
          go_wp2_with (go_at_call 24; (with_reducible refine (HAi.out _ _ (HRF.out.ex hx)).mono ?_); rintro e w7 ⟨rfl, hw7⟩)
          go_roundg (P - (i + 1))
          case measure => have := hk.out; omega
          case rel => exact ⟨i + 1, by omega, by go_num, by rw [HCI.out]; go_num, Lib.hid rfl, hx.trans hw7⟩
      · have e : i = P := by omega
        subst e
        have hltI : ¬ ((i : Int) < p) := by omega
        have hle := HCNT.out
        have hleI : ((C i : Nat) : Int) ≤ (J : Int) := by omega
        go_wp2
        go_ret
        exact ⟨by simp, HX0.out.trans hx⟩
  · have es : short [y] = [y] := by simp [short, hy0]
    rw [es] at HD
    simp only [List.length_cons, List.length_nil] at HD
    clear h1 hfo hF hp hD hy cF lF hC hX ey es hbx hz
    go_enter Try.func7, Try.ntmps7
    go_wp2_with (first
      | (go_at_call 27; (with_reducible refine (HPO.out _).mono ?_); rintro e w1 ⟨rfl, hw1⟩)
      | (go_at_call 28; (with_reducible refine (HFO.out _).mono ?_); rintro e w2 ⟨rfl, hw2⟩)
      | (go_at_call 29; (with_reducible refine (HF.out _ (by repeat (first | assumption | exact Ex.refl _ | refine Ex.trans ?_ (by assumption)))).mono ?_); rintro e w3 ⟨b3, d3, rfl, hr3, hn3, hw3⟩)
      | (go_at_call 32; (with_reducible refine (HWI.out _ _ (by first | omega | (split <;> omega))).mono ?_); rintro e w' ⟨rfl, rfl⟩)
      | (go_at_call 24; (with_reducible refine (HAX.out _ _ _ (hr3.out.ex (by repeat (first | assumption | exact Ex.refl _ | refine Ex.trans ?_ (by assumption))))).mono ?_); rintro e w4 ⟨rfl, hw4⟩
         have HX4 : Hid (Ex w3 w4) := Lib.hid (by repeat (first | assumption | exact Ex.refl _ | refine Ex.trans ?_ (by assumption))))
      | (go_at_call 13; (with_reducible refine (HD.out _ _ _ (hr3.out.ex HX4.out) hn3.out).mono ?_); rintro e w5 ⟨b5, d5, b6, d6, rfl, _, _, hr6, hn6, hw5⟩
         have HX5 : Hid (Ex w3 w5) := Lib.hid ((HX4.out.alloc _).trans hw5)
         clear hw5 hw4)
      | (go_at_call 30; refine (good_zeros 2 (by omega) _ rfl _ _).mono ?_; rintro e w6 ⟨rfl, hw6⟩
         have HX6 : Hid (Ex w3 w6) := Lib.hid (HX5.out.trans hw6)
         obtain ⟨g7, o7, hb7, hc7⟩ := one_cell (hr6.out.ex hw6); subst hb7))
    have HCNT := Lib.hid (HLE.out J rfl)
    have hx3 : Ex w w3 := (by repeat (first | assumption | exact Ex.refl _ | refine Ex.trans ?_ (by assumption)))
    have HX0 := Lib.hid (hx3.trans HX6.out)
    have HRF := Lib.hid (hr3.out.ex HX6.out)
    clear hr3 hx3 HX6 hw1 hw2 hw3
    go_loopg [14, 84] P (fun k v14 v84 wr => ∃ i : Nat, i ≤ P ∧ v84 = .int .i64 i ∧ v14 = .int .i64 ((C i : Nat) : Int) ∧ Hid (k = P - i) ∧ Ex w6 wr)
    case atStart => exact ⟨0, by omega, rfl, by rw [HC0.out]; rfl, Lib.hid rfl, Ex.refl _⟩
    case round =>
      obtain ⟨i, hi, rfl, rfl, hk, hx⟩ := hrel
      by_cases hlt : i < P
      · have hAi := HAT.out (i : Int) wr
        obtain ⟨U, hU⟩ : ∃ U, ev F (i : Int) % p = U := ⟨_, rfl⟩
        have hci := HCS.out i
        have hcl := HCL.out i
        rw [hU] at hAi hci
        have HAi := Lib.hid hAi
        have hltI : (i : Int) < p := by omega
        by_cases hu : U = 0
        · rw [if_pos hu] at hci
          subst hu
          have HCI := Lib.hid hci
          clear hAi hU hci
          go_wp2_with (go_at_call 24; (with_reducible refine (HAi.out _ _ (HRF.out.ex hx)).mono ?_); rintro e w7 ⟨rfl, hw7⟩)
          go_roundg (P - (i + 1))
          case measure => have := hk.out; omega
          case rel => exact ⟨i + 1, by omega, by go_num, by rw [HCI.out]; go_num, Lib.hid rfl, hx.trans hw7⟩
        · rw [if_neg hu] at hci
          have gu : (U == 0) = false := by simpa using hu
          have HCI := Lib.hid hci
          clear hAi hU hci
          go_wp2_with (go_at_call 24; (with_reducible refine (HAi.out _ _ (HRF.out.ex hx)).mono ?_); rintro e w7 ⟨rfl, hw7⟩)
          go_roundg (P - (i + 1))
          case measure => have := hk.out; omega
          case rel => exact ⟨i + 1, by omega, by go_num, by rw [HCI.out]; go_num, Lib.hid rfl, hx.trans hw7⟩
      · have e : i = P := by omega
        subst e
        have hltI : ¬ ((i : Int) < p) := by omega
        have hle := HCNT.out
        have hleI : ((C i : Nat) : Int) ≤ (J : Int) := by omega
        go_wp2
        go_ret
        exact ⟨by simp, HX0.out.trans hx⟩

end Go.Proofs.Ytfempfmpphbfnaa
