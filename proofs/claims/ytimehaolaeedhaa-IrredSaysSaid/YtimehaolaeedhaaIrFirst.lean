/-
  Package irred: Is, First, Count.
-/
import Derived.Test.YtimehaolaeedhaaIrIs
import Derived.Test.YtimehaolaeedhaaLiftW
namespace Go.Proofs.Ytimehaolaeedhaa
open Go.RowKit
open Pr Po Dd

/-- What Is says is wrong. -/
def isE (p : Int) (f : List Int) : Int := if polyE p f ≠ 0 then polyE p f else pwE p (f.length / 2 + 1)

theorem pwE_zero {p : Int} {n : Nat} : pwE p n = 0 ↔ p ^ n ≤ 1000000 := by
  unfold pwE
  by_cases h : 1000000 < p ^ n
  · rw [if_pos h]; exact ⟨fun h => by simp at h, fun h => by omega⟩
  · rw [if_neg h]; exact ⟨fun _ => by omega, fun _ => rfl⟩
theorem pwE_two (p : Int) (n : Nat) : pwE p n = 0 ∨ pwE p n = 2 := by unfold pwE; split <;> simp

theorem isE_zero {p : Int} {f : List Int} : isE p f = 0 ↔ polyE p f = 0 ∧ p ^ (f.length / 2 + 1) ≤ 1000000 := by
  unfold isE
  by_cases h : polyE p f = 0
  · rw [if_neg (by simpa using h), pwE_zero]
    exact ⟨fun h2 => ⟨h, h2⟩, fun h2 => h2.2⟩
  · rw [if_pos h]
    exact ⟨fun h2 => absurd h2 h, fun h2 => absurd h2.1 h⟩
theorem isE_bound (p : Int) (f : List Int) : 0 ≤ isE p f ∧ isE p f ≤ 3 := by
  unfold isE
  have := polyE_bound p f
  rcases pwE_two p (f.length / 2 + 1) with h | h <;> split <;> omega

set_option maxRecDepth 100000 in
set_option maxHeartbeats 1000000 in
theorem is_any (p : Int) (f : List Int) (a : Option Addr) (N ca : Nat) (w : World) (hN : f.length = N) (hl : N ≤ maxLen) (hr : Reads w .i64 a f) (hnil : a = none → ca = 0) (b : Bool) (h0 : isE p f ≠ 0 → b = false) (h1 : isE p f = 0 → (b = true ↔ Irr p f)) :
    Calls Try.prog 7 #[.int .i64 p, .slice a N ca] w (Says (.tuple #[.bool b, .int .i64 (isE p f)]) w) := by
  have HC := Lib.hid (pcheck_any p f a ca w (by omega) hr)
  rw [hN] at HC
  by_cases hP : polyE p f = 0
  · obtain ⟨hp, p9, hl2, hf⟩ := polyE_zero.mp hP
    have p2 := hp.1
    rw [hP] at HC
    have HPW : Hid (∀ (x : Int) (w2 : World), x = (N : Int) / 2 + 1 → Calls Try.prog 26 #[.int .i64 p, .int .i64 x] w2 (Says (.tuple #[.int .i64 (pwV p (N / 2 + 1)), .int .i64 (pwE p (N / 2 + 1))]) w2)) := Lib.hid fun x w2 hx => by
      rw [show x = ((N / 2 + 1 : Nat) : Int) by omega]
      exact power_any p (N / 2 + 1) w2 (by omega) p9 (by omega)
    have hE : isE p f = pwE p (N / 2 + 1) := by unfold isE; rw [if_neg (by simpa using hP), hN]
    obtain ⟨V, hV⟩ : ∃ V, pwV p (N / 2 + 1) = V := ⟨_, rfl⟩
    rw [hV] at HPW
    clear hV
    by_cases hE0 : isE p f = 0
    · have hb := h1 hE0
      have hqe : ∃ q : Nat, (q : Int) = p := ⟨p.toNat, by omega⟩
      obtain ⟨q, hq⟩ := hqe
      have HI := Lib.hid fun w2 (hx : Ex w w2) => irreducible_any p q f a N ca w2 hp hq p9 hf hN (by omega) (hr.ex hx) hnil b hb
      rw [← hE] at HPW
      rw [hE0] at HPW ⊢
      have hn40 : N ≤ 40 := by omega
      clear h0 h1 hP hp hf hr hnil hN hE hE0 hb hq hl hl2
      go_enter Try.func7, Try.ntmps7
      go_wp2_with (first
        | (go_at_call 25; (with_reducible refine (HC.out).mono ?_); rintro e w1 ⟨rfl, hw1⟩)
        | (go_at_call 26; (with_reducible refine (HPW.out _ _ (by omega)).mono ?_); rintro e w2 ⟨rfl, hw2⟩)
        | (go_at_call 27; (with_reducible refine (HI.out _ (hw1.trans hw2)).mono ?_); rintro e w3 ⟨rfl, hw3⟩))
      go_ret2
      exact ⟨rfl, (hw1.trans hw2).trans hw3⟩
    · have hb := h0 hE0
      have hE2 : isE p f = 2 := by
        rcases pwE_two p (N / 2 + 1) with h | h
        · exact absurd (hE.trans h) hE0
        · exact hE.trans h
      rw [← hE, hE2] at HPW
      rw [hE2, hb]
      have hn40 : N ≤ 40 := by omega
      clear h0 h1 hP hp hf hr hnil hN hE hE0 hb hl hl2 hE2
      go_enter Try.func7, Try.ntmps7
      go_wp2_with (first
        | (go_at_call 25; (with_reducible refine (HC.out).mono ?_); rintro e w1 ⟨rfl, hw1⟩)
        | (go_at_call 26; (with_reducible refine (HPW.out _ _ (by omega)).mono ?_); rintro e w2 ⟨rfl, hw2⟩))
      go_ret2
      exact ⟨rfl, hw1.trans hw2⟩
  · have hE : isE p f = polyE p f := by unfold isE; rw [if_pos hP]
    have hb := h0 (by rw [hE]; exact hP)
    rw [hE, hb]
    obtain ⟨c, hc⟩ : ∃ c, polyE p f = c := ⟨_, rfl⟩
    rw [hc] at HC hP ⊢
    have hne : (c != 0) = true := by simpa using hP
    clear h0 h1 hr hnil hN hE hb hc hl hP
    go_enter Try.func7, Try.ntmps7
    go_wp2_with (go_at_call 25; (with_reducible refine (HC.out).mono ?_); rintro e w1 ⟨rfl, hw1⟩)
    go_ret2
    exact ⟨rfl, hw1⟩

theorem cmV_zero {p n : Int} (h : cmE p n = 0) : cmV p n = p ^ n.toNat := by unfold cmV; rw [if_pos h]
theorem cmV_no {p n : Int} (h : cmE p n ≠ 0) : cmV p n = 0 := by unfold cmV; rw [if_neg h]

set_option maxRecDepth 100000 in
set_option maxHeartbeats 1000000 in
theorem first_no (p n : Int) (w : World) (hn : I64 n) (h : cmE p n ≠ 0) : Calls Try.prog 8 #[.int .i64 p, .int .i64 n] w (Says (.tuple #[.slice none 0 0, .int .i64 (cmE p n)]) w) := by
  have HC := Lib.hid (countMonic_any p n w hn)
  obtain ⟨c, hc⟩ : ∃ c, cmE p n = c := ⟨_, rfl⟩
  obtain ⟨V, hV⟩ : ∃ V, cmV p n = V := ⟨_, rfl⟩
  rw [hc] at HC h ⊢
  rw [hV] at HC
  have hne : (c != 0) = true := by simpa using h
  clear hn hc hV h
  go_enter Try.func8, Try.ntmps8
  go_wp2_with (go_at_call 28; (with_reducible refine (HC.out).mono ?_); rintro e w1 ⟨rfl, hw1⟩)
  go_ret2
  exact ⟨rfl, hw1⟩

set_option maxRecDepth 100000 in
set_option maxHeartbeats 2000000 in
theorem first_ok (p : Int) (q n x : Nat) (w : World) (hq : (q : Int) = p) (h : cmE p n = 0) (hx : x < q ^ n) (hI : Irr p (mo q n x)) (hno : ∀ y, y < x → ¬ Irr p (mo q n y)) :
    Calls Try.prog 8 #[.int .i64 p, .int .i64 n] w (Rowed (mo q n x) w) := by
  subst hq
  obtain ⟨hp, p9, n1, n4, hle⟩ := cmE_zero.mp h
  have p2 := hp.1
  have HC := Lib.hid (countMonic_any (q : Int) n w (by unfold I64; omega))
  rw [cmV_zero h, h] at HC
  rw [Int.toNat_natCast] at hle HC
  have HM := Lib.hid fun y w2 (hy : y ≤ 1000000) => imonic_ok q n y w2 (by omega) (by omega) (by omega) hy
  have HML := Lib.hid fun y => (mo_is hp n y).2.1
  have HIR := Lib.hid fun y b (a : Option Addr) ca w2 (h1 : Reads w2 .i64 a (mo q n y)) (h2 : a = none → ca = 0) (h3 : b = true ↔ Irr (q : Int) (mo q n y)) => irreducible_any (q : Int) q (mo q n y) a (n + 1) ca w2 hp rfl p9 (mo_is hp n y).1 (mo_is hp n y).2.1 (by omega) h1 h2 b h3
  have HNO := Lib.hid fun y (hy : y < x) => (show (false = true ↔ Irr (q : Int) (mo q n y)) from ⟨fun h => by simp at h, fun h => absurd h (hno y hy)⟩)
  have HYS := Lib.hid hI
  have hxI : (x : Int) < (q : Int) ^ n := by
    have : ((x : Nat) : Int) < ((q ^ n : Nat) : Int) := by omega
    rwa [Int.natCast_pow] at this
  obtain ⟨V, hV⟩ : ∃ V, (q : Int) ^ n = V := ⟨_, rfl⟩
  rw [hV] at HC hxI hle
  obtain ⟨p, hpq⟩ : ∃ p : Int, (q : Int) = p := ⟨_, rfl⟩
  rw [hpq] at HC HM HIR HNO HYS ⊢
  clear h hp hI hno hV hpq hx
  go_enter Try.func8, Try.ntmps8
  go_wp2_with (go_at_call 28; (with_reducible refine (HC.out).mono ?_); rintro e w1 ⟨rfl, hw1⟩)
  go_loopg [22] (x + 1) (fun k v22 wr => ∃ i : Nat, i ≤ x ∧ v22 = .int .i64 i ∧ Hid (k = x + 1 - i) ∧ Ex w wr)
  case atStart => exact ⟨0, by omega, rfl, Lib.hid rfl, hw1⟩
  case round =>
    obtain ⟨i, hi, rfl, hk, hw⟩ := hrel
    have hiV : (i : Int) < V := by omega
    have HMI := Lib.hid (HM.out i wr (by omega))
    by_cases hlt : i < x
    · have HB := Lib.hid (HNO.out i hlt)
      go_wp2_with (first
        | (go_at_call 29; (with_reducible refine (HMI.out).mono ?_); rintro e w5 ⟨v5, rfl, hrow5, hw5⟩
           obtain ⟨a5, c5, rfl, _, hr5, hn5⟩ := hrow5.out.reads
           rw [HML.out]
           have HT := Lib.hid (HIR.out i false a5 c5 w5 hr5 hn5 HB.out)
           clear hrow5 hr5 hn5)
        | (go_at_call 27; (with_reducible refine (HT.out).mono ?_); rintro e w6 ⟨rfl, hw6⟩))
      go_roundg (x + 1 - (i + 1))
      case measure => have := hk.out; omega
      case rel => exact ⟨i + 1, by omega, by go_num, Lib.hid rfl, (hw.trans hw5).trans hw6⟩
    · have e : i = x := by omega
      subst e
      go_wp2_with (first
        | (go_at_call 29; (with_reducible refine (HMI.out).mono ?_); rintro e w5 ⟨v5, rfl, hrow5, hw5⟩
           obtain ⟨a5, c5, rfl, _, hr5, hn5⟩ := hrow5.out.reads
           rw [HML.out] at hrow5 ⊢
           have HT := Lib.hid (HIR.out i true a5 c5 w5 hr5 hn5 ⟨fun _ => HYS.out, fun _ => rfl⟩)
           clear hr5 hn5)
        | (go_at_call 27; (with_reducible refine (HT.out).mono ?_); rintro e w6 ⟨rfl, hw6⟩))
      go_ret2
      exact ⟨_, rfl, Lib.hid ((hrow5.out.ex hw6).less hw.size), (hw.trans hw5).trans hw6⟩

/-- How many there are of each degree, so many times. -/
noncomputable def irs (q : Nat) (t : Nat) : Int := ((t + 1 : Nat) : Int) * ((ir q (t + 1)).length : Int)

theorem lower_pows {q N : Nat} (hp : Prm q) : lowerL (fl N fun t => (q : Int) ^ (t + 1)) = fl N (irs q) := by
  rw [← lower_lift (fl N (irs q))]
  congr 1
  unfold liftL
  rw [fl_length]
  refine fl_congr fun t ht => ?_
  have h := gauss_many hp (n := t + 1) (by omega)
  rw [Int.natCast_pow] at h
  rw [← h]
  refine (sm_dv_congr (L := N) (fun d d1 d2 => ?_) (by omega) (by omega)).symm
  rw [at1_fl d1 d2]
  unfold irs
  rw [show d - 1 + 1 = d by omega]

theorem pfl_step (p : Int) (i : Nat) : upd (fun t => if t < i then p ^ (t + 1) else 0) i (p ^ (i + 1)) = fun t => if t < i + 1 then p ^ (t + 1) else 0 := by
  funext t
  unfold upd
  by_cases h : t = i
  · subst h; rw [if_pos rfl, if_pos (by omega)]
  · rw [if_neg h]
    show (if t < i then _ else _) = _
    by_cases h2 : t < i
    · rw [if_pos h2, if_pos (by omega)]
    · rw [if_neg h2, if_neg (by omega)]

set_option maxRecDepth 100000 in
set_option maxHeartbeats 1000000 in
theorem count_no (p n : Int) (w : World) (hn : I64 n) (h : cmE p n ≠ 0) : Calls Try.prog 9 #[.int .i64 p, .int .i64 n] w (Says (.tuple #[.int .i64 0, .int .i64 (cmE p n)]) w) := by
  have HC := Lib.hid (countMonic_any p n w hn)
  obtain ⟨c, hc⟩ : ∃ c, cmE p n = c := ⟨_, rfl⟩
  obtain ⟨V, hV⟩ : ∃ V, cmV p n = V := ⟨_, rfl⟩
  rw [hc] at HC h ⊢
  rw [hV] at HC
  have hne : (c != 0) = true := by simpa using h
  clear hn hc hV h
  go_enter Try.func9, Try.ntmps9
  go_wp2_with (go_at_call 28; (with_reducible refine (HC.out).mono ?_); rintro e w1 ⟨rfl, hw1⟩)
  go_ret2
  exact ⟨rfl, hw1⟩

set_option maxRecDepth 100000 in
set_option maxHeartbeats 2000000 in
theorem count_ok (p : Int) (q n : Nat) (w : World) (hq : (q : Int) = p) (h : cmE p n = 0) : Calls Try.prog 9 #[.int .i64 p, .int .i64 n] w (Says (.tuple #[.int .i64 ((ir q n).length : Int), .int .i64 0]) w) := by
  subst hq
  obtain ⟨hp, p9, n1, n4, hle⟩ := cmE_zero.mp h
  have p2 := hp.1
  have HC := Lib.hid (countMonic_any (q : Int) n w (by unfold I64; omega))
  rw [cmV_zero h, h] at HC
  rw [Int.toNat_natCast] at hle HC
  have HG : Hid (∀ i, i ≤ n → 1 ≤ (q : Int) ^ i ∧ (q : Int) ^ i ≤ 1000000) := Lib.hid fun i hi => by
    have h1 := pow_grows (p := (q : Int)) (by omega) hi
    have h2 := Int.pow_pos (n := (q : Int)) (m := i) (by omega)
    omega
  have HS := Lib.hid fun i => Int.pow_succ (q : Int) i
  have HST := Lib.hid fun i => pfl_step (q : Int) i
  have HZ : Hid ((fun t => if t < 0 then (q : Int) ^ (t + 1) else 0) = fun _ => (0 : Int)) := Lib.hid (by funext t; exact if_neg (by omega))
  have HEN : Hid (fl n (fun t => if t < n then (q : Int) ^ (t + 1) else 0) = fl n fun t => (q : Int) ^ (t + 1)) := Lib.hid (fl_congr fun t ht => if_pos ht)
  have HLW : Hid (∀ (a : Option Addr) (ca : Nat) (w2 : World), Reads w2 .i64 a (fl n fun t => (q : Int) ^ (t + 1)) → (a = none → ca = 0) → Calls Try.prog 30 #[.slice a n ca] w2 (Rowed (fl n (irs q)) w2)) := Lib.hid fun a ca w2 h1 h2 => by
    have := lower_of (fl n fun t => (q : Int) ^ (t + 1)) a ca w2 h1 h2 (dchk_zero.mpr ⟨by rw [fl_length]; omega, fun x hx => by
      unfold fl at hx
      obtain ⟨t, ht, rfl⟩ := List.mem_map.mp hx
      have := HG.out (t + 1) (by have := List.mem_range.mp ht; omega)
      omega⟩)
    rw [fl_length, lower_pows hp] at this
    exact this
  have hmany := many_le hp (n := n) (by omega)
  rw [Int.natCast_pow] at hmany
  have HDV : Hid (irs q (n - 1) / (n : Int) = ((ir q n).length : Int)) := Lib.hid (by
    unfold irs
    rw [show n - 1 + 1 = n by omega]
    exact Int.mul_ediv_cancel_left _ (by omega))
  have HLB : Hid (0 ≤ irs q (n - 1) ∧ irs q (n - 1) ≤ 1000000) := Lib.hid (by
    have e : irs q (n - 1) = (n : Int) * ((ir q n).length : Int) := by unfold irs; rw [show n - 1 + 1 = n by omega]
    rw [e]
    exact ⟨Int.mul_nonneg (by omega) (by omega), by omega⟩)
  have H0 : Hid ((q : Int) ^ 0 = 1) := Lib.hid (Int.pow_zero _)
  obtain ⟨Z, hZ⟩ : ∃ Z : Int, ((ir q n).length : Int) = Z := ⟨_, rfl⟩
  rw [hZ] at HDV ⊢
  obtain ⟨p, hpq⟩ : ∃ p : Int, (q : Int) = p := ⟨_, rfl⟩
  rw [hpq] at HC HG HS HST HZ HEN HLW H0 p9 p2 ⊢
  clear h hp hle hmany hZ hpq
  obtain ⟨V, hV⟩ : ∃ V, p ^ n = V := ⟨_, rfl⟩
  rw [hV] at HC
  clear hV
  go_enter Try.func9, Try.ntmps9
  go_wp2_with (first
    | (go_at_call 28; (with_reducible refine (HC.out).mono ?_); rintro e w1 ⟨rfl, hw1⟩)
    | (at_make; refine wpList_make_ints rfl _ _ 22 rfl w1.heap.size 3 .i64 8 Try.underlying22 info_int _ _ n rfl rfl (by omega) (by unfold maxLen; omega) (Nat.le_refl _) ?_; intro w3 hown3 hgrow3
       have HX3 : Hid (Ex w1 w3) := Lib.hid (ex_grown (Ex.refl w1) hgrow3 (by intro k hk; cases hk))
       have HR3 : Hid (Row 3 .i64 w3 w1.heap.size (.slice (some ⟨w1.heap.size, 0, none⟩) n n) (fl n fun t => if t < 0 then p ^ (t + 1) else 0)) := Lib.hid (by rw [HZ.out, ← fl_zero]; exact hown3)
       clear hown3 hgrow3))
  obtain ⟨b0, hb0⟩ : ∃ b0, w1.heap.size = b0 := ⟨_, rfl⟩
  have HB0 := Lib.hid hb0
  rw [hb0] at HR3 ⊢
  clear hb0
  go_loopg [9, 26] n (fun k v9 v26 wr => ∃ (i : Nat) (x : Int), i ≤ n ∧ 1 ≤ x ∧ x ≤ 1000000 ∧ v9 = .int .i64 x ∧ v26 = .int .i64 i ∧ Hid (x = p ^ i) ∧ Hid (Row 3 .i64 wr b0 (.slice (some ⟨b0, 0, none⟩) n n) (fl n fun t => if t < i then p ^ (t + 1) else 0)) ∧ Hid (k = n - i) ∧ Ex w1 wr)
  case atStart => exact ⟨0, 1, by omega, by omega, by omega, rfl, rfl, Lib.hid H0.out.symm, HR3, Lib.hid rfl, HX3.out⟩
  case round =>
    obtain ⟨i, x, hi, x1, x9, rfl, rfl, hx, hR, hk, hw⟩ := hrel
    by_cases hlt : i < n
    · have HN : Hid (x * p = p ^ (i + 1)) := Lib.hid (by rw [HS.out, hx.out])
      obtain ⟨y1, y9⟩ := HG.out (i + 1) (by omega)
      have HS0 := hR.out.flset i (p ^ (i + 1))
      rw [HST.out] at HS0
      obtain ⟨_, _, hcf, hfr⟩ := hR.out.flat
      have hci := hcf i hlt
      have hfi := hfr i
      rw [← HN.out] at HS0 y1 y9
      have HS1 := Lib.hid HS0.1
      have HS2 := Lib.hid (ex_grown hw HS0.2 (by intro k hk; cases hk; rw [HB0.out]; exact Nat.le_refl _))
      clear hcf hfr HS0
      go_wp2
      go_roundg (n - (i + 1))
      case measure => have := hk.out; omega
      case rel => exact ⟨i + 1, x * p, by omega, y1, y9, rfl, by go_num, HN, HS1, Lib.hid rfl, HS2.out⟩
    · have e : i = n := by omega
      subst e
      have hR2 := hR.out
      rw [HEN.out] at hR2
      have HT := Lib.hid (HLW.out (some ⟨b0, 0, none⟩) i wr hR2.read (fun h => by cases h))
      clear hR2
      go_wp2_with (first
        | (go_at_call 30; (with_reducible refine (HT.out).mono ?_); rintro e w5 ⟨v5, rfl, hrow5, hw5⟩
           rcases hrow5.out.form with ⟨_, h1⟩ | ⟨g, cap, rfl, _, _, _, _, hc, _⟩
           · have := congrArg List.length h1; rw [fl_length] at this; simp at this; omega
           rw [fl_length] at hc ⊢
           have hcn := hc (i - 1) (by omega)
           rw [fl_nth (by omega)] at hcn
           clear hc hrow5
           obtain ⟨b1, b2⟩ := HLB.out
           have hd := HDV.out
           obtain ⟨u, hu⟩ : ∃ u, irs q (i - 1) = u := ⟨_, rfl⟩
           rw [hu] at hcn b1 b2 hd
           have HU := Lib.hid hd
           clear hd hu
           have q0 := Int.ediv_nonneg (a := u) (b := (i : Int)) b1 (by omega)))
      go_ret2
      exact ⟨by rw [HU.out]; rfl, (hw1.trans hw).trans hw5⟩

end Go.Proofs.Ytimehaolaeedhaa
