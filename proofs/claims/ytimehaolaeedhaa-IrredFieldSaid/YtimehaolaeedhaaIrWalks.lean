/-
  Package irred: power, countMonic, monic, shift, raise, withoutX.
-/
import Derived.Test.YtimehaolaeedhaaIrRab
import Derived.Test.YtimehaolaeedhaaGpa
import Derived.Test.YtimehaolaeedhaaGro
import Derived.Laws.CopyOwn
import Derived.RegionTactic
import Derived.BigRegion
namespace Go.Proofs.Ytimehaolaeedhaa
open Go.RowKit
open Pr Po

theorem pow_grows {p : Int} (hp : 1 ≤ p) {i n : Nat} (h : i ≤ n) : p ^ i ≤ p ^ n := by
  obtain ⟨k, rfl⟩ : ∃ k, n = i + k := ⟨n - i, by omega⟩
  have h0 : ∀ j, 1 ≤ p ^ j := fun j => by have := Int.pow_pos (n := p) (m := j) (by omega); omega
  rw [Int.pow_add]
  have := Int.mul_le_mul_of_nonneg_left (h0 k) (show 0 ≤ p ^ i by have := h0 i; omega)
  rwa [Int.mul_one] at this

/-- What power answers. -/
def pwE (p : Int) (n : Nat) : Int := if 1000000 < p ^ n then 2 else 0
def pwV (p : Int) (n : Nat) : Int := if 1000000 < p ^ n then 0 else p ^ n

set_option maxHeartbeats 1000000 in
theorem power_any (p : Int) (n : Nat) (w : World) (p1 : 1 ≤ p) (p9 : p ≤ 997) (hn : n ≤ 1000000) : Calls Try.prog 26 #[.int .i64 p, .int .i64 n] w (Says (.tuple #[.int .i64 (pwV p n), .int .i64 (pwE p n)]) w) := by
  have HS := Lib.hid fun i => Int.pow_succ p i
  have HG := Lib.hid fun i (h : i ≤ n) => pow_grows p1 h
  have HV : Hid (p ^ n ≤ 1000000 → pwV p n = p ^ n ∧ pwE p n = 0) := Lib.hid fun h => by
    unfold pwV pwE
    rw [if_neg (by omega), if_neg (by omega)]
    exact ⟨rfl, rfl⟩
  have HW : Hid (1000000 < p ^ n → pwV p n = 0 ∧ pwE p n = 2) := Lib.hid fun h => by
    unfold pwV pwE
    rw [if_pos h, if_pos h]
    exact ⟨rfl, rfl⟩
  have H0 : Hid (p ^ 0 = 1) := Lib.hid (Int.pow_zero p)
  obtain ⟨V, hV⟩ : ∃ V, pwV p n = V := ⟨_, rfl⟩
  obtain ⟨E, hE⟩ : ∃ E, pwE p n = E := ⟨_, rfl⟩
  rw [hV, hE] at HV HW ⊢
  clear hV hE
  go_enter Try.func26, Try.ntmps26
  go_wp2
  go_loopg [6, 8] n (fun k v6 v8 wr => ∃ (i : Nat) (x : Int), i ≤ n ∧ 1 ≤ x ∧ x ≤ 1000000 ∧ v6 = .int .i64 x ∧ v8 = .int .i64 i ∧ Hid (x = p ^ i) ∧ Hid (k = n - i) ∧ Ex w wr)
  case atStart => exact ⟨0, 1, by omega, by omega, by omega, rfl, rfl, Lib.hid H0.out.symm, Lib.hid rfl, Ex.refl _⟩
  case round =>
    obtain ⟨i, x, hi, x1, x9, rfl, rfl, hx, hk, hw⟩ := hrel
    by_cases hlt : i < n
    · obtain ⟨m0, m1⟩ := mul_bound (a := x) (b := p) (A := 1000000) (B := 997) (by omega) x9 (by omega) p9
      have HN : Hid (x * p = p ^ (i + 1)) := Lib.hid (by rw [HS.out, hx.out])
      have hpos := Int.mul_pos (a := x) (b := p) (by omega) (by omega)
      obtain ⟨y, hy⟩ : ∃ y, x * p = y := ⟨_, rfl⟩
      have HY := Lib.hid hy
      rw [hy] at HN m0 m1 hpos
      by_cases hl : 1000000 < y
      · have HB := Lib.hid (HW.out (by have := HG.out (i + 1) (by omega); have := HN.out; omega))
        go_wp2
        go_ret2
        exact ⟨by rw [HB.out.1, HB.out.2]; rfl, hw⟩
      · go_wp2
        go_roundg (n - (i + 1))
        case measure => have := hk.out; omega
        case rel => exact ⟨i + 1, y, by omega, by omega, by omega, rfl, by go_num, HN, Lib.hid rfl, hw⟩
    · have e : i = n := by omega
      subst e
      have HB := Lib.hid (HV.out (by rw [← hx.out]; exact x9))
      go_wp2
      go_ret2
      exact ⟨by rw [HB.out.1, HB.out.2, ← hx.out]; rfl, hw⟩

/-- What countMonic answers. -/
def cmE (p n : Int) : Int := if fieldE p ≠ 0 then 1 else if n < 1 ∨ 40 ≤ n then 1 else pwE p n.toNat
def cmV (p n : Int) : Int := if cmE p n = 0 then p ^ n.toNat else 0

theorem cmE_zero {p n : Int} : cmE p n = 0 ↔ Prm p ∧ p ≤ 997 ∧ 1 ≤ n ∧ n < 40 ∧ p ^ n.toNat ≤ 1000000 := by
  unfold cmE pwE
  by_cases h1 : fieldE p = 0
  · rw [if_neg (by simpa using h1)]
    have hp := fieldE_zero.mp h1
    by_cases h2 : n < 1 ∨ 40 ≤ n
    · rw [if_pos h2]
      exact ⟨fun h => by simp at h, fun h => by omega⟩
    · rw [if_neg h2]
      by_cases h3 : 1000000 < p ^ n.toNat
      · rw [if_pos h3]
        exact ⟨fun h => by simp at h, fun h => by omega⟩
      · rw [if_neg h3]
        exact ⟨fun _ => ⟨hp.1, hp.2, by omega, by omega, by omega⟩, fun _ => rfl⟩
  · rw [if_pos h1]
    exact ⟨fun h => by simp at h, fun h => absurd (fieldE_zero.mpr ⟨h.1, h.2.1⟩) h1⟩
theorem cmE_bound (p n : Int) : 0 ≤ cmE p n ∧ cmE p n ≤ 2 := by
  unfold cmE pwE
  repeat' split <;> omega

set_option maxHeartbeats 1000000 in
theorem countMonic_any (p n : Int) (w : World) (hn : I64 n) : Calls Try.prog 28 #[.int .i64 p, .int .i64 n] w (Says (.tuple #[.int .i64 (cmV p n), .int .i64 (cmE p n)]) w) := by
  have HF := Lib.hid (field_any p w)
  obtain ⟨n0, n1⟩ := hn
  by_cases h1 : fieldE p = 0
  · rw [h1] at HF
    obtain ⟨hp, p9⟩ := fieldE_zero.mp h1
    have p2 := hp.1
    have g1 : ((0 : Int) != 0) = false := rfl
    by_cases h2 : n < 1
    · have HE : Hid (cmE p n = 1) := Lib.hid (by unfold cmE; rw [if_neg (by simpa using h1), if_pos (.inl h2)])
      have HV : Hid (cmV p n = 0) := Lib.hid (by unfold cmV; rw [HE.out]; rfl)
      rw [HE.out, HV.out]
      clear hp h1
      go_enter Try.func28, Try.ntmps28
      go_wp2_with (go_at_call 45; (with_reducible refine (HF.out).mono ?_); rintro e w1 ⟨rfl, hw1⟩)
      go_ret2
      exact ⟨rfl, hw1⟩
    by_cases h3 : 40 ≤ n
    · have HE : Hid (cmE p n = 1) := Lib.hid (by unfold cmE; rw [if_neg (by simpa using h1), if_pos (.inr h3)])
      have HV : Hid (cmV p n = 0) := Lib.hid (by unfold cmV; rw [HE.out]; rfl)
      rw [HE.out, HV.out]
      clear hp h1
      go_enter Try.func28, Try.ntmps28
      go_wp2_with (go_at_call 45; (with_reducible refine (HF.out).mono ?_); rintro e w1 ⟨rfl, hw1⟩)
      go_ret2
      exact ⟨rfl, hw1⟩
    · obtain ⟨m, rfl⟩ : ∃ m : Nat, n = m := ⟨n.toNat, by omega⟩
      have HE : Hid (cmE p m = pwE p m) := Lib.hid (by unfold cmE; rw [if_neg (by simpa using h1), if_neg (by omega), Int.toNat_natCast])
      have HV : Hid (cmV p m = pwV p m) := Lib.hid (by
        unfold cmV pwV
        rw [HE.out]
        unfold pwE
        by_cases h4 : 1000000 < p ^ m
        · rw [if_pos h4, if_pos h4, if_neg (by decide)]
        · rw [if_neg h4, if_neg h4, if_pos rfl, Int.toNat_natCast])
      rw [HE.out, HV.out]
      have HP := Lib.hid fun w2 => power_any p m w2 (by omega) p9 (by omega)
      clear hp h1 HE HV
      obtain ⟨V, hV⟩ : ∃ V, pwV p m = V := ⟨_, rfl⟩
      obtain ⟨E, hE⟩ : ∃ E, pwE p m = E := ⟨_, rfl⟩
      rw [hV, hE] at HP ⊢
      clear hV hE
      go_enter Try.func28, Try.ntmps28
      go_wp2_with (first
        | (go_at_call 45; (with_reducible refine (HF.out).mono ?_); rintro e w1 ⟨rfl, hw1⟩)
        | (go_at_call 26; (with_reducible refine (HP.out _).mono ?_); rintro e w2 ⟨rfl, hw2⟩))
      go_ret2
      exact ⟨rfl, hw1.trans hw2⟩
  · have e1 : fieldE p = 1 := (fieldE_two p).resolve_left h1
    have HE : Hid (cmE p n = 1) := Lib.hid (by unfold cmE; rw [if_pos h1])
    have HV : Hid (cmV p n = 0) := Lib.hid (by unfold cmV; rw [HE.out]; rfl)
    rw [HE.out, HV.out]
    rw [e1] at HF
    clear h1 e1
    go_enter Try.func28, Try.ntmps28
    go_wp2_with (go_at_call 45; (with_reducible refine (HF.out).mono ?_); rintro e w1 ⟨rfl, hw1⟩)
    go_ret2
    exact ⟨rfl, hw1⟩

/-- A digit. -/
def dgt (q x t : Nat) : Nat := x / q ^ t % q
theorem nth_dg (q : Nat) : ∀ n x t, t < n → nth (dg q n x) t = (dgt q x t : Nat) := by
  intro n
  induction n with
  | zero => intro x t h; omega
  | succ n ih =>
    intro x t h
    cases t with
    | zero => show ((x % q : Nat) : Int) = _; unfold dgt; rw [Nat.pow_zero, Nat.div_one]
    | succ t =>
      show c (((x % q : Nat) : Int) :: dg q n (x / q)) (t + 1) = _
      rw [c_succ]
      have := ih (x / q) t (by omega)
      rw [c_nth, this]
      unfold dgt
      rw [Nat.div_div_eq_div_mul, Nat.pow_succ, Nat.mul_comm]

theorem mo_fl (q n x : Nat) : mo q n x = fl (n + 1) fun t => if t < n then ((dgt q x t : Nat) : Int) else 1 := by
  refine c_ext (by rw [fl_length]; simp [mo, dg_length]) fun i => ?_
  unfold mo
  by_cases h : i < n
  · rw [c_fl (by omega), if_pos h, ← nth_dg q n x i h]
    show (dg q n x ++ [1]).getD i 0 = (dg q n x).getD i 0
    rw [List.getD_eq_getElem?_getD, List.getD_eq_getElem?_getD, List.getElem?_append_left (by rw [dg_length]; exact h)]
  · by_cases e : i = n
    · subst e
      rw [c_fl (by omega), if_neg (by omega)]
      show (dg q i x ++ [1]).getD i 0 = 1
      rw [List.getD_eq_getElem?_getD, List.getElem?_append_right (by rw [dg_length]; exact Nat.le_refl _), dg_length, Nat.sub_self]
      rfl
    · rw [c_over (by simp [dg_length]; omega), c_fl_over (by omega)]

/-- The digits so far. -/
def dfl (q x i : Nat) (t : Nat) : Int := if t < i then ((dgt q x t : Nat) : Int) else 0
theorem dfl_zero (q x : Nat) : dfl q x 0 = fun _ => 0 := by funext t; exact if_neg (by omega)
theorem dfl_step (q x i : Nat) : upd (dfl q x i) i ((dgt q x i : Nat) : Int) = dfl q x (i + 1) := by
  funext t
  unfold dfl upd
  by_cases h : t = i
  · subst h; rw [if_pos rfl, if_pos (by omega)]
  · rw [if_neg h]
    show (if t < i then _ else _) = _
    by_cases h2 : t < i
    · rw [if_pos h2, if_pos (by omega)]
    · rw [if_neg h2, if_neg (by omega)]
theorem dfl_end (q x n : Nat) : fl (n + 1) (upd (dfl q x n) n 1) = mo q n x := by
  rw [mo_fl]
  refine fl_congr fun t ht => ?_
  unfold dfl upd
  by_cases h : t = n
  · subst h; rw [if_pos rfl, if_neg (by omega)]
  · rw [if_neg h]
    show (if t < n then _ else _) = _
    rw [if_pos (by omega), if_pos (by omega)]

set_option maxRecDepth 100000 in
set_option maxHeartbeats 2000000 in
theorem imonic_ok (q n x : Nat) (w : World) (q1 : 1 ≤ q) (q9 : q ≤ 997) (hn : n ≤ 100) (hx : x ≤ 1000000) : Calls Try.prog 29 #[.int .i64 q, .int .i64 n, .int .i64 x] w (Row1 (mo q n x) w) := by
  have HE := Lib.hid (dfl_end q x n)
  have HST := Lib.hid fun i => dfl_step q x i
  have HD : Hid (∀ i, ((x / q ^ i : Nat) : Int) % (q : Int) = ((dgt q x i : Nat) : Int)) := Lib.hid fun i => by unfold dgt; rw [Int.natCast_emod]
  have HQ : Hid (∀ i, ((x / q ^ i : Nat) : Int) / (q : Int) = ((x / q ^ (i + 1) : Nat) : Int)) := Lib.hid fun i => by rw [Nat.pow_succ, ← Nat.div_div_eq_div_mul]; exact (Int.natCast_ediv (x / q ^ i) q).symm
  have HB : Hid (∀ i, ((x / q ^ i : Nat) : Int) ≤ 1000000) := Lib.hid fun i => by
    have := Nat.div_le_self x (q ^ i)
    omega
  have H0 : Hid (((x / q ^ 0 : Nat) : Int) = x) := Lib.hid (by rw [Nat.pow_zero, Nat.div_one])
  obtain ⟨p, hp⟩ : ∃ p : Int, (q : Int) = p := ⟨_, rfl⟩
  have p1 : 1 ≤ p := by omega
  have p9 : p ≤ 997 := by omega
  rw [hp] at HD HQ ⊢
  obtain ⟨Y, hY⟩ : ∃ Y : Nat → Int, (fun i => ((x / q ^ i : Nat) : Int)) = Y := ⟨_, rfl⟩
  have eY : ∀ i, ((x / q ^ i : Nat) : Int) = Y i := fun i => congrFun hY i
  have HY0 : Hid (∀ i, 0 ≤ Y i) := Lib.hid fun i => by rw [← eY]; exact Int.natCast_nonneg _
  simp only [eY] at HD HQ HB H0
  rw [← H0.out]
  clear eY hY hp hx q9 q1
  go_enter Try.func29, Try.ntmps29
  go_wp2_with (first
    | (at_make; refine wpList_make_ints rfl _ _ 22 rfl w.heap.size 3 .i64 8 Try.underlying22 info_int _ _ (n + 1) rfl rfl (by omega) (by unfold maxLen; omega) (Nat.le_refl _) ?_; intro w3 hown3 hgrow3
       have HX3 : Hid (Ex w w3) := Lib.hid (ex_grown (Ex.refl w) hgrow3 (by intro k hk; cases hk))
       have HR3 : Hid (Row 3 .i64 w3 w.heap.size (.slice (some ⟨w.heap.size, 0, none⟩) (n + 1) (n + 1)) (fl (n + 1) (dfl q x 0))) := Lib.hid (by rw [dfl_zero, ← fl_zero]; exact hown3)
       clear hown3 hgrow3))
  obtain ⟨b0, hb0⟩ : ∃ b0, w.heap.size = b0 := ⟨_, rfl⟩
  have HB0 := Lib.hid hb0
  rw [hb0] at HR3 ⊢
  clear hb0
  go_loopg [2, 13] n (fun k v2 v13 wr => ∃ i : Nat, i ≤ n ∧ v2 = .int .i64 (Y i) ∧ v13 = .int .i64 i ∧ Hid (Row 3 .i64 wr b0 (.slice (some ⟨b0, 0, none⟩) (n + 1) (n + 1)) (fl (n + 1) (dfl q x i))) ∧ Hid (k = n - i) ∧ Ex w wr)
  case atStart => exact ⟨0, by omega, rfl, rfl, HR3, Lib.hid rfl, HX3.out⟩
  case round =>
    obtain ⟨i, hi, rfl, rfl, hR, hk, hw⟩ := hrel
    by_cases hlt : i < n
    · have y0 := HY0.out i
      have y1 := HB.out i
      have hD := HD.out i
      have HQ2 := Lib.hid (HQ.out i)
      have HS0 := hR.out.flset i ((dgt q x i : Nat) : Int)
      rw [HST.out i] at HS0
      obtain ⟨_, _, _, hfr⟩ := hR.out.flat
      have hfi := hfr i
      obtain ⟨d, hd⟩ : ∃ d : Int, ((dgt q x i : Nat) : Int) = d := ⟨_, rfl⟩
      rw [hd] at hD HS0
      have HS1 := Lib.hid HS0.1
      have HS2 := Lib.hid (ex_grown hw HS0.2 (by intro k hk; cases hk; rw [HB0.out]; exact Nat.le_refl _))
      obtain ⟨y, hy⟩ : ∃ y, Y i = y := ⟨_, rfl⟩
      rw [hy] at y0 y1 hD HQ2 ⊢
      rw [← hD] at HS1 HS2
      clear hfr HS0 hd hD
      have q0 := Int.emod_nonneg y (b := p) (by omega)
      have q1 := Int.emod_lt_of_pos y (b := p) (by omega)
      have q2 := Int.ediv_nonneg (a := y) (b := p) (by omega) (by omega)
      go_wp2
      go_roundg (n - (i + 1))
      case measure => have := hk.out; omega
      case rel => exact ⟨i + 1, by omega, by rw [← HQ2.out], by go_num, HS1, Lib.hid rfl, HS2.out⟩
    · have e : i = n := by omega
      subst e
      have HS0 := hR.out.flset i 1
      rw [HE.out] at HS0
      obtain ⟨_, _, _, hfr⟩ := hR.out.flat
      have hfi := hfr i
      have HS1 := Lib.hid HS0.1
      have HS2 := Lib.hid (ex_grown hw HS0.2 (by intro k hk; cases hk; rw [HB0.out]; exact Nat.le_refl _))
      clear hfr HS0
      go_wp2
      go_ret
      exact ⟨_, rfl, by rw [HB0.out]; exact HS1, HS2.out⟩

end Go.Proofs.Ytimehaolaeedhaa
