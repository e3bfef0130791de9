/-
  Package hamming as it landed: bit, sum, spread, gather, Put, Get; its two tables.
-/
import Derived.Test.YthlnbomapfjphaaDoorHmRef
import Derived.Test.YthlnbomapfjphaaDoorLnBit
import Derived.Deep.CutRange
namespace Go.Proofs.YthlnbomapfjphaaDoor
open Go.RowKit
open Ln Hm

namespace Hm
theorem and_fl (v i : Nat) : v &&& Hm.fl (i + 1) = 2 ^ i * bt i v := by
  unfold Hm.fl
  rw [if_neg (by omega), Nat.add_sub_cancel]
  have hb : v.testBit i = decide (bt i v = 1) := Nat.testBit_eq_decide_div_mod_eq
  apply Nat.eq_of_testBit_eq
  intro j
  rw [Nat.testBit_and, Nat.testBit_two_pow]
  by_cases h : i = j
  · subst h
    rw [hb]
    rcases bt_two i v with e | e <;> rw [e] <;> simp
  · rcases bt_two i v with e | e <;> rw [e] <;> simp [h]
theorem or_fl {v i : Nat} (h : bt i v = 0) : v ||| Hm.fl (i + 1) = v ^^^ Hm.fl (i + 1) := by
  have h2 := and_fl v i
  rw [h, Nat.mul_zero] at h2
  apply Nat.eq_of_testBit_eq
  intro j
  have h3 := congrArg (Nat.testBit · j) h2
  simp only [Nat.testBit_and, Nat.zero_testBit] at h3
  rw [Nat.testBit_or, Nat.testBit_xor]
  revert h3
  cases v.testBit j <;> cases (Hm.fl (i + 1)).testBit j <;> simp
theorem ly_snoc : ∀ (l : List Nat) (a d : Nat), ly (l ++ [a]) d = ly l d ^^^ (d / 2 ^ l.length % 2) * 2 ^ (a - 1) := by
  intro l
  induction l with
  | nil => intro a d; simp [ly]
  | cons b l ih =>
    intro a d
    rw [List.cons_append, ly, ih, ly, List.length_cons, Nat.div_div_eq_div_mul, Nat.pow_succ, Nat.mul_comm 2, Nat.xor_assoc]
/-- The parity bits as the code puts them. -/
def py : List Nat → Nat → Nat
  | [], _ => 0
  | a :: l, s => (if s &&& a = 0 then 0 else Hm.fl a) ^^^ py l s
def pp : List Nat := [1, 2, 4, 8]
theorem py_all : ∀ s < 16, py pp s = pb s := by decide +kernel
theorem py_step : ∀ i < 4, ∀ s < 16, py (pp.take (i + 1)) s = py (pp.take i) s ^^^ (if s &&& pp.getD i 0 = 0 then 0 else Hm.fl (pp.getD i 0)) := by decide +kernel
theorem py_clear : ∀ i < 4, ∀ s < 16, bt (pp.getD i 0 - 1) (py (pp.take i) s) = 0 ∧ py (pp.take i) s < 32768 := by decide +kernel
theorem pp_at : ∀ i < 4, 1 ≤ pp.getD i 0 ∧ pp.getD i 0 ≤ 8 ∧ ∀ a ∈ pl, a - 1 ≠ pp.getD i 0 - 1 := by decide +kernel
theorem pl_at : ∀ i < 11, 1 ≤ pl.getD i 0 ∧ pl.getD i 0 ≤ 15 ∧ (∀ a ∈ pl.take i, a - 1 ≠ pl.getD i 0 - 1) ∧ pl.take (i + 1) = pl.take i ++ [pl.getD i 0] ∧ (pl.take i).length = i := by decide +kernel
theorem pl_small : ∀ i, ∀ a ∈ pl.take i, a - 1 < 15 := fun i a ha => (by decide : ∀ a ∈ pl, a - 1 < 15) a (List.mem_of_mem_take ha)
end Hm

theorem bit_any (k : Nat) (w : World) (hk : k ≤ 15) : Calls Tryd.prog 38 #[.int .i64 (k : Int)] w (Says (.int .u16 ((Hm.fl k : Nat) : Int)) w) := by
  have HF : Hid (IntKind.u16.wrap ((2 : Int) ^ k) / 2 = ((Hm.fl k : Nat) : Int)) := Lib.hid (by
    have h : 2 ^ k ≤ 2 ^ 15 := Nat.pow_le_pow_right (by decide) hk
    rw [show ((2 : Int) ^ k) = ((2 ^ k : Nat) : Int) by rw [Int.natCast_pow]; rfl, IntWalk.u16_in _ (by generalize 2 ^ k = q at h; omega)]
    unfold Hm.fl
    split
    · rename_i e; subst e; rfl
    · obtain ⟨j, rfl⟩ : ∃ j, k = j + 1 := ⟨k - 1, by omega⟩
      rw [Nat.add_sub_cancel, Nat.pow_succ]
      omega)
  go_enter Tryd.func38, Tryd.ntmps38
  go_wp2
  go_ret
  exact ⟨congrArg (fun x => Ending.returned (Value.int .u16 x)) HF.out, Ex.refl _⟩

set_option maxHeartbeats 1000000 in
theorem hsum_any (v : Nat) (w : World) (hv : v < 65536) : Calls Tryd.prog 37 #[.int .u16 (v : Int)] w (Says (.int .i64 ((sy 15 v : Nat) : Int)) w) := by
  go_enter Tryd.func37, Tryd.ntmps37
  go_wp2
  go_loopg [3, 4] 15 (fun k v3 v4 wr => ∃ i x : Nat, i ≤ 15 ∧ x < 16 ∧ v3 = .int .i64 (x : Int) ∧ v4 = .int .i64 ((i : Int) + 1) ∧ Hid (x = sy i v) ∧ Hid (k = 15 - i) ∧ Ex w wr)
  case atStart => exact ⟨0, 0, by omega, by omega, rfl, by go_num, Lib.hid rfl, Lib.hid rfl, Ex.refl _⟩
  case round =>
    obtain ⟨i, x, hi, hx, rfl, rfl, hs, hk, hx0⟩ := hrel
    by_cases hlt : i < 15
    · have HB : Hid (∀ w, Calls Tryd.prog 38 #[.int .i64 ((i : Int) + 1)] w (Says (.int .u16 ((Hm.fl (i + 1) : Nat) : Int)) w)) := Lib.hid fun w => bit_any (i + 1) w (by omega)
      have hf := fl_lt (n := 15) (k := i + 1) (by omega)
      have ha := and_u16_nat v (Hm.fl (i + 1)) hv (by omega)
      rw [and_fl] at ha
      have hlt2 := sy_lt (i + 1) 4 v (by omega)
      have hp : 0 < 2 ^ i := Nat.pow_pos (by decide)
      rcases bt_two i v with e | e
      · rw [e, Nat.mul_zero] at ha
        have HST : Hid (x = sy (i + 1) v) := Lib.hid (by rw [sy, e, Nat.mul_zero, Nat.xor_zero]; exact hs.out)
        clear e hp
        go_wp2_with (go_at_call 38; (with_reducible refine (HB.out _).mono ?_); rintro e w1 ⟨rfl, hw1⟩)
        go_roundg (15 - (i + 1))
        case measure => have := hk.out; omega
        case rel => exact ⟨i + 1, x, by omega, hx, rfl, by go_num, HST, Lib.hid rfl, hx0.trans hw1⟩
      · rw [e, Nat.mul_one] at ha
        have hne : (((2 ^ i : Nat) : Int) == 0) = false := beq_eq_false_iff_ne.mpr (by omega)
        have hX := xor_int_nat x (i + 1) (by omega) (by omega)
        have HST : Hid (x ^^^ (i + 1) = sy (i + 1) v) := Lib.hid (by rw [sy, e, Nat.mul_one, hs.out])
        rw [← HST.out] at hlt2
        obtain ⟨y, hy⟩ : ∃ y, x ^^^ (i + 1) = y := ⟨_, rfl⟩
        rw [hy] at hX HST hlt2
        rw [Int.natCast_add] at hX
        generalize 2 ^ i = q at ha hne
        clear e hp hy
        go_wp2_with (go_at_call 38; (with_reducible refine (HB.out _).mono ?_); rintro e w1 ⟨rfl, hw1⟩)
        go_roundg (15 - (i + 1))
        case measure => have := hk.out; omega
        case rel => exact ⟨i + 1, y, by omega, hlt2, by first | rfl | (exact congrArg (Value.int .i64) hX), by go_num, HST, Lib.hid rfl, hx0.trans hw1⟩
    · have g1 : decide ((i : Int) + 1 ≤ 15) = false := decide_eq_false (by omega)
      have HS : Hid (x = sy 15 v) := Lib.hid (by rw [hs.out, show i = 15 by omega])
      go_wp2
      go_ret
      exact ⟨by rw [HS.out]; rfl, hx0⟩

set_option maxRecDepth 100000 in
set_option maxHeartbeats 4000000 in
theorem spread_any (d : Nat) (w : World) (hd : d < 65536) (hT : HmT w) : Calls Tryd.prog 36 #[.int .u16 (d : Int)] w (Says (.int .u16 ((ly pl d : Nat) : Int)) w) := by
  have c0 : w.cell? ⟨1, 0, none⟩ = some (.int .i64 3) := hT.2 0 (by omega)
  have c1 : w.cell? ⟨1, 1, none⟩ = some (.int .i64 5) := hT.2 1 (by omega)
  have c2 : w.cell? ⟨1, 2, none⟩ = some (.int .i64 6) := hT.2 2 (by omega)
  have c3 : w.cell? ⟨1, 3, none⟩ = some (.int .i64 7) := hT.2 3 (by omega)
  have c4 : w.cell? ⟨1, 4, none⟩ = some (.int .i64 9) := hT.2 4 (by omega)
  have c5 : w.cell? ⟨1, 5, none⟩ = some (.int .i64 10) := hT.2 5 (by omega)
  have c6 : w.cell? ⟨1, 6, none⟩ = some (.int .i64 11) := hT.2 6 (by omega)
  have c7 : w.cell? ⟨1, 7, none⟩ = some (.int .i64 12) := hT.2 7 (by omega)
  have c8 : w.cell? ⟨1, 8, none⟩ = some (.int .i64 13) := hT.2 8 (by omega)
  have c9 : w.cell? ⟨1, 9, none⟩ = some (.int .i64 14) := hT.2 9 (by omega)
  have c10 : w.cell? ⟨1, 10, none⟩ = some (.int .i64 15) := hT.2 10 (by omega)
  go_enter Tryd.func36, Tryd.ntmps36
  go_wp2
  go_loopg [3, 7] 11 (fun k v3 v7 wr => ∃ i x : Nat, i ≤ 11 ∧ x < 32768 ∧ v3 = .int .u16 (x : Int) ∧ v7 = .int .i64 (i : Int) ∧ Hid (x = ly (pl.take i) d) ∧ Hid (k = 11 - i) ∧ Ex w wr)
  case atStart => exact ⟨0, 0, by omega, by omega, rfl, rfl, Lib.hid rfl, Lib.hid rfl, Ex.refl _⟩
  case round =>
    obtain ⟨i, x, hi, hx, rfl, rfl, hs, hk, hx0⟩ := hrel
    by_cases hlt : i < 11
    ·
      have hidx : ∀ w, Sem.run Tryd.prog (Instr.index 81 (.agg #[.int .i64 3, .int .i64 5, .int .i64 6, .int .i64 7, .int .i64 9, .int .i64 10, .int .i64 11, .int .i64 12, .int .i64 13, .int .i64 14, .int .i64 15]) (.int .i64 ((i : Nat) : Int))) w = .ok (.int .i64 ((pl.getD i 0 : Nat) : Int)) w := fun w => by
        rcases (show i = 0 ∨ i = 1 ∨ i = 2 ∨ i = 3 ∨ i = 4 ∨ i = 5 ∨ i = 6 ∨ i = 7 ∨ i = 8 ∨ i = 9 ∨ i = 10 by omega) with e | e | e | e | e | e | e | e | e | e | e <;> subst e <;> kernel_rfl
      obtain ⟨n1, n2, n3, n4, n5⟩ := pl_at i hlt
      have hb := bt_u16 i d hd
      have hcl := bt_ly (pl.take i) d (pl.getD i 0 - 1) n3
      have hsn := ly_snoc (pl.take i) (pl.getD i 0) d
      rw [← n4, n5, ← hs.out] at hsn
      rw [← hs.out] at hcl
      obtain ⟨a, ha⟩ : ∃ a, pl.getD i 0 = a + 1 := ⟨pl.getD i 0 - 1, by omega⟩
      rw [ha] at hidx hcl hsn n1 n2
      rw [Nat.add_sub_cancel] at hcl hsn
      clear n3 n4 n5 ha
      change ly (pl.take (i + 1)) d = x ^^^ (bt i d) * 2 ^ a at hsn
      have HSN := Lib.hid hsn
      clear hsn
      rcases bt_two i d with e | e
      · rw [e] at hb HSN
        have HST : Hid (x = ly (pl.take (i + 1)) d) := Lib.hid (by rw [HSN.out, Nat.zero_mul, Nat.xor_zero])
        clear e hcl HSN
        go_wp2
        go_roundg (11 - (i + 1))
        case measure => have := hk.out; omega
        case rel => exact ⟨i + 1, x, by omega, hx, rfl, by go_num, HST, Lib.hid rfl, hx0⟩
      · rw [e] at hb HSN
        have hfl := fl_lt (n := 15) (k := a + 1) (by omega)
        have hor := or_u16_nat x (Hm.fl (a + 1)) (by omega) (by omega)
        rw [or_fl hcl] at hor
        have hxl : x ^^^ Hm.fl (a + 1) < 32768 := Nat.xor_lt_two_pow (n := 15) hx hfl
        have HST : Hid (x ^^^ Hm.fl (a + 1) = ly (pl.take (i + 1)) d) := Lib.hid (by rw [HSN.out, Nat.one_mul]; unfold Hm.fl; rw [if_neg (by omega), Nat.add_sub_cancel])
        have HB : Hid (∀ w, Calls Tryd.prog 38 #[.int .i64 ((a : Int) + 1)] w (Says (.int .u16 ((Hm.fl (a + 1) : Nat) : Int)) w)) := Lib.hid fun w => bit_any (a + 1) w (by omega)
        obtain ⟨y, hy⟩ : ∃ y, x ^^^ Hm.fl (a + 1) = y := ⟨_, rfl⟩
        rw [hy] at hor hxl HST
        clear e hcl HSN hy
        go_wp2_with (go_at_call 38; (with_reducible refine (HB.out _).mono ?_); rintro e w1 ⟨rfl, hw1⟩)
        go_roundg (11 - (i + 1))
        case measure => have := hk.out; omega
        case rel => exact ⟨i + 1, y, by omega, hxl, by first | rfl | (exact congrArg (Value.int .u16) hor), by go_num, HST, Lib.hid rfl, hx0.trans hw1⟩
    · have e : i = 11 := by omega
      subst e
      have HE := Lib.hid hs.out
      go_wp2
      go_ret
      exact ⟨by rw [HE.out]; rfl, hx0⟩

set_option maxRecDepth 100000 in
set_option maxHeartbeats 4000000 in
theorem gather_any (v : Nat) (w : World) (hv : v < 65536) (hT : HmT w) : Calls Tryd.prog 43 #[.int .u16 (v : Int)] w (Says (.int .u16 ((dt pl v : Nat) : Int)) w) := by
  have c0 : w.cell? ⟨1, 0, none⟩ = some (.int .i64 3) := hT.2 0 (by omega)
  have c1 : w.cell? ⟨1, 1, none⟩ = some (.int .i64 5) := hT.2 1 (by omega)
  have c2 : w.cell? ⟨1, 2, none⟩ = some (.int .i64 6) := hT.2 2 (by omega)
  have c3 : w.cell? ⟨1, 3, none⟩ = some (.int .i64 7) := hT.2 3 (by omega)
  have c4 : w.cell? ⟨1, 4, none⟩ = some (.int .i64 9) := hT.2 4 (by omega)
  have c5 : w.cell? ⟨1, 5, none⟩ = some (.int .i64 10) := hT.2 5 (by omega)
  have c6 : w.cell? ⟨1, 6, none⟩ = some (.int .i64 11) := hT.2 6 (by omega)
  have c7 : w.cell? ⟨1, 7, none⟩ = some (.int .i64 12) := hT.2 7 (by omega)
  have c8 : w.cell? ⟨1, 8, none⟩ = some (.int .i64 13) := hT.2 8 (by omega)
  have c9 : w.cell? ⟨1, 9, none⟩ = some (.int .i64 14) := hT.2 9 (by omega)
  have c10 : w.cell? ⟨1, 10, none⟩ = some (.int .i64 15) := hT.2 10 (by omega)
  go_enter Tryd.func43, Tryd.ntmps43
  go_wp2
  go_loopg [3, 7] 11 (fun k v3 v7 wr => ∃ i x : Nat, i ≤ 11 ∧ x < 2 ^ i ∧ v3 = .int .u16 (x : Int) ∧ v7 = .int .i64 (i : Int) ∧ Hid (x = dt (pl.take i) v) ∧ Hid (k = 11 - i) ∧ Ex w wr)
  case atStart => exact ⟨0, 0, by omega, by decide, rfl, rfl, Lib.hid rfl, Lib.hid rfl, Ex.refl _⟩
  case round =>
    obtain ⟨i, x, hi, hx, rfl, rfl, hs, hk, hx0⟩ := hrel
    by_cases hlt : i < 11
    ·
      have hidx : ∀ w, Sem.run Tryd.prog (Instr.index 81 (.agg #[.int .i64 3, .int .i64 5, .int .i64 6, .int .i64 7, .int .i64 9, .int .i64 10, .int .i64 11, .int .i64 12, .int .i64 13, .int .i64 14, .int .i64 15]) (.int .i64 ((i : Nat) : Int))) w = .ok (.int .i64 ((pl.getD i 0 : Nat) : Int)) w := fun w => by
        rcases (show i = 0 ∨ i = 1 ∨ i = 2 ∨ i = 3 ∨ i = 4 ∨ i = 5 ∨ i = 6 ∨ i = 7 ∨ i = 8 ∨ i = 9 ∨ i = 10 by omega) with e | e | e | e | e | e | e | e | e | e | e <;> subst e <;> kernel_rfl
      obtain ⟨n1, n2, n3, n4, n5⟩ := pl_at i hlt
      have hsn := dt_snoc (pl.take i) (pl.getD i 0) v
      rw [← n4, n5, ← hs.out] at hsn
      obtain ⟨a, ha⟩ : ∃ a, pl.getD i 0 = a + 1 := ⟨pl.getD i 0 - 1, by omega⟩
      rw [ha] at hidx hsn n1 n2
      rw [Nat.add_sub_cancel] at hsn
      clear n3 n4 n5 ha
      have HSN := Lib.hid hsn
      have hfl := fl_lt (n := 15) (k := a + 1) (by omega)
      have hand := and_u16_nat v (Hm.fl (a + 1)) hv (by omega)
      rw [and_fl] at hand
      have HB : Hid (∀ w, Calls Tryd.prog 38 #[.int .i64 ((a : Int) + 1)] w (Says (.int .u16 ((Hm.fl (a + 1) : Nat) : Int)) w)) := Lib.hid fun w => bit_any (a + 1) w (by omega)
      have hp : 2 ^ i ≤ 2 ^ 10 := Nat.pow_le_pow_right (by decide) (by omega)
      have hpa : 0 < 2 ^ a := Nat.pow_pos (by decide)
      clear hsn
      rcases bt_two a v with e | e
      · rw [e, Nat.mul_zero] at hand HSN
        have HST : Hid (x = dt (pl.take (i + 1)) v) := Lib.hid (by rw [HSN.out, Nat.add_zero])
        have hx2 : x < 2 ^ (i + 1) := by rw [Nat.pow_succ]; omega
        clear e HSN hx hpa hfl
        go_wp2_with (go_at_call 38; (with_reducible refine (HB.out _).mono ?_); rintro e w1 ⟨rfl, hw1⟩)
        go_roundg (11 - (i + 1))
        case measure => have := hk.out; omega
        case rel => exact ⟨i + 1, x, by omega, hx2, rfl, by go_num, HST, Lib.hid rfl, hx0.trans hw1⟩
      · rw [e, Nat.mul_one] at hand HSN
        have hne : (((2 ^ a : Nat) : Int) == 0) = false := beq_eq_false_iff_ne.mpr (by omega)
        have hor : bits .or .u16 (x : Int) (IntKind.u16.wrap ((2 : Int) ^ i)) = ((x + 2 ^ i : Nat) : Int) := by
          rw [show ((2 : Int) ^ i) = ((2 ^ i : Nat) : Int) by rw [Int.natCast_pow]; rfl, IntWalk.u16_in _ (by generalize 2 ^ i = q at hp; omega), or_u16_nat x (2 ^ i) (by omega) (by omega)]
          have := Nat.two_pow_add_eq_or_of_lt hx 1
          rw [Nat.mul_one, Nat.or_comm, Nat.add_comm] at this
          rw [this]
        have HST : Hid (x + 2 ^ i = dt (pl.take (i + 1)) v) := Lib.hid HSN.out.symm
        have hx2 : x + 2 ^ i < 2 ^ (i + 1) := by rw [Nat.pow_succ]; omega
        have hor2 := Lib.hid hor
        clear hor
        obtain ⟨y, hy⟩ : ∃ y, x + 2 ^ i = y := ⟨_, rfl⟩
        rw [hy] at hor2 HST hx2
        generalize 2 ^ a = q at hand hne
        clear e HSN hy hx hpa hfl
        go_wp2_with (go_at_call 38; (with_reducible refine (HB.out _).mono ?_); rintro e w1 ⟨rfl, hw1⟩)
        go_roundg (11 - (i + 1))
        case measure => have := hk.out; omega
        case rel => exact ⟨i + 1, y, by omega, hx2, by first | rfl | (exact congrArg (Value.int .u16) hor2.out), by go_num, HST, Lib.hid rfl, hx0.trans hw1⟩
    · have e : i = 11 := by omega
      subst e
      have HE := Lib.hid hs.out
      go_wp2
      go_ret
      exact ⟨by rw [HE.out]; rfl, hx0⟩

set_option maxRecDepth 100000 in
theorem putC_no {d : Nat} {w : World} (h : 2048 ≤ d) (hd : d < 65536) : Calls Tryd.prog 16 #[.int .u16 (d : Int)] w (Says (.tuple #[.int .u16 0, .int .i64 1]) w) := by
  have HL := Lib.hid fun w => len16_any d w hd
  have hl := len_iff hd 11
  obtain ⟨L, hL⟩ : ∃ L, Lib.bitLen d = L := ⟨_, rfl⟩
  rw [hL] at HL hl
  have g1 : decide (11 < (L : Int)) = true := decide_eq_true (by omega)
  clear hL hl
  go_enter Tryd.func16, Tryd.ntmps16
  go_wp2_with (go_at_call 35; (with_reducible refine (HL.out _).mono ?_); rintro e w1 ⟨rfl, hw1⟩)
  go_ret2
  exact ⟨rfl, hw1⟩

set_option maxRecDepth 100000 in
set_option maxHeartbeats 4000000 in
theorem putC_ok {d : Nat} {w : World} (h : d < 2048) (hT : HmT w) : Calls Tryd.prog 16 #[.int .u16 (d : Int)] w (Says (.tuple #[.int .u16 ((en d : Nat) : Int), .int .i64 0]) w) := by
  have HL := Lib.hid fun w => len16_any d w (by omega)
  have hl := len_iff (show d < 65536 by omega) 11
  obtain ⟨L, hL⟩ : ∃ L, Lib.bitLen d = L := ⟨_, rfl⟩
  rw [hL] at HL hl
  have g1 : decide (11 < (L : Int)) = false := decide_eq_false (by omega)
  clear hL hl
  have hWl := ly_lt (n := 15) pl d (by decide)
  have hSl := sy_small (ly pl d)
  have HSP : Hid (∀ w, HmT w → Calls Tryd.prog 36 #[.int .u16 (d : Int)] w (Says (.int .u16 ((ly pl d : Nat) : Int)) w)) := Lib.hid fun w hT => spread_any d w (by omega) hT
  have HSU := Lib.hid fun w => hsum_any (ly pl d) w (by omega)
  have HCL : ∀ i, i < 4 → bt (pp.getD i 0 - 1) (ly pl d) = 0 := fun i hi => bt_ly pl d _ (pp_at i hi).2.2
  have HEN : Hid (ly pl d ^^^ py pp (sy 15 (ly pl d)) = en d) := Lib.hid (by rw [py_all _ hSl]; rfl)
  obtain ⟨W, hW⟩ : ∃ W, ly pl d = W := ⟨_, rfl⟩
  rw [hW] at HSP HSU hWl HCL HEN hSl
  obtain ⟨s, hs⟩ : ∃ s, sy 15 W = s := ⟨_, rfl⟩
  rw [hs] at HSU HEN hSl
  obtain ⟨E, hE⟩ : ∃ E, en d = E := ⟨_, rfl⟩
  rw [hE] at HEN ⊢
  clear hW hs hE
  have HCL := Lib.hid HCL
  go_enter Tryd.func16, Tryd.ntmps16
  go_upto_region 5 with (first
    | (go_at_call 35; (with_reducible refine (HL.out _).mono ?_); rintro e w1 ⟨rfl, hw1⟩)
    | (go_at_call 36; (with_reducible refine (HSP.out _ (hT.ex (by assumption))).mono ?_); rintro e w2 ⟨rfl, hw2⟩)
    | (go_at_call 37; (with_reducible refine (HSU.out _).mono ?_); rintro e w3 ⟨rfl, hw3⟩))
  have hx3 := (hw1.trans hw2).trans hw3
  obtain ⟨c0, c1, c2, c3⟩ := (hT.ex hx3).1
  have HX := Lib.hid hx3
  clear hw1 hw2 hw3 hx3
  go_wp2
  go_loopg [4, 16] 4 (fun k v4 v16 wr => ∃ i x : Nat, i ≤ 4 ∧ x < 32768 ∧ v4 = .int .u16 (x : Int) ∧ v16 = .int .i64 (i : Int) ∧ Hid (x = W ^^^ py (pp.take i) s) ∧ Hid (k = 4 - i) ∧ Ex w wr)
  case atStart => exact ⟨0, W, by omega, by omega, rfl, rfl, Lib.hid (Nat.xor_zero W).symm, Lib.hid rfl, HX.out⟩
  case round =>
    obtain ⟨i, x, hi, hx, rfl, rfl, hs, hk, hx0⟩ := hrel
    by_cases hlt : i < 4
    ·
      have hidx : ∀ w, Sem.run Tryd.prog (Instr.index 61 (.agg #[.int .i64 1, .int .i64 2, .int .i64 4, .int .i64 8]) (.int .i64 ((i : Nat) : Int))) w = .ok (.int .i64 ((pp.getD i 0 : Nat) : Int)) w := fun w => by
        rcases (show i = 0 ∨ i = 1 ∨ i = 2 ∨ i = 3 by omega) with e | e | e | e <;> subst e <;> kernel_rfl
      obtain ⟨n1, n2, n3⟩ := pp_at i hlt
      have hcl := HCL.out i hlt
      obtain ⟨m1, m2⟩ := py_clear i hlt s hSl
      have hst := py_step i hlt s hSl
      have hbx : bt (pp.getD i 0 - 1) x = 0 := by rw [hs.out, bt_xor, hcl, m1]
      obtain ⟨a, ha⟩ : ∃ a, pp.getD i 0 = a + 1 := ⟨pp.getD i 0 - 1, by omega⟩
      rw [ha] at hidx hbx hst n1 n2
      rw [Nat.add_sub_cancel] at hbx
      have hand : bits .and .i64 (s : Int) ((a : Int) + 1) = ((s &&& (a + 1) : Nat) : Int) := and_int_nat s (a + 1) (by omega) (by omega)
      clear n3 hcl m1 m2 ha
      have HB : Hid (∀ w, Calls Tryd.prog 38 #[.int .i64 ((a : Int) + 1)] w (Says (.int .u16 ((Hm.fl (a + 1) : Nat) : Int)) w)) := Lib.hid fun w => bit_any (a + 1) w (by omega)
      obtain ⟨z, hz⟩ : ∃ z, s &&& (a + 1) = z := ⟨_, rfl⟩
      rw [hz] at hand hst
      by_cases h0 : z = 0
      · rw [if_pos h0, Nat.xor_zero] at hst
        have HST : Hid (x = W ^^^ py (pp.take (i + 1)) s) := Lib.hid (by rw [hst]; exact hs.out)
        subst h0
        clear hst hz hbx
        go_wp2_with (go_at_call 38; (with_reducible refine (HB.out _).mono ?_); rintro e w1 ⟨rfl, hw1⟩)
        go_roundg (4 - (i + 1))
        case measure => have := hk.out; omega
        case rel => exact ⟨i + 1, x, by omega, hx, rfl, by go_num, HST, Lib.hid rfl, hx0⟩
      · rw [if_neg h0] at hst
        have hne : ((z : Int) == 0) = false := beq_eq_false_iff_ne.mpr (by omega)
        have hfl := fl_lt (n := 15) (k := a + 1) (by omega)
        have hor := or_u16_nat x (Hm.fl (a + 1)) (by omega) (by omega)
        rw [or_fl hbx] at hor
        have hxl : x ^^^ Hm.fl (a + 1) < 32768 := Nat.xor_lt_two_pow (n := 15) hx hfl
        have HST : Hid (x ^^^ Hm.fl (a + 1) = W ^^^ py (pp.take (i + 1)) s) := Lib.hid (by rw [hst, ← Nat.xor_assoc, hs.out])
        obtain ⟨y, hy⟩ : ∃ y, x ^^^ Hm.fl (a + 1) = y := ⟨_, rfl⟩
        rw [hy] at hor hxl HST
        clear hst hz hbx hy h0
        go_wp2_with (go_at_call 38; (with_reducible refine (HB.out _).mono ?_); rintro e w1 ⟨rfl, hw1⟩)
        go_roundg (4 - (i + 1))
        case measure => have := hk.out; omega
        case rel => exact ⟨i + 1, y, by omega, hxl, by first | rfl | (exact congrArg (Value.int .u16) hor), by go_num, HST, Lib.hid rfl, hx0.trans hw1⟩
    · have e : i = 4 := by omega
      subst e
      have HE : Hid (x = E) := Lib.hid (by rw [hs.out]; exact HEN.out)
      go_wp2
      go_ret2
      exact ⟨by rw [HE.out]; rfl, hx0⟩

set_option maxRecDepth 100000 in
theorem getC_no {v : Nat} {w : World} (h : 32768 ≤ v) (hv : v < 65536) : Calls Tryd.prog 19 #[.int .u16 (v : Int)] w (Says (.tuple #[.int .u16 0, .int .i64 0, .int .i64 1]) w) := by
  have HL := Lib.hid fun w => len16_any v w hv
  have hl := len_iff hv 15
  obtain ⟨L, hL⟩ : ∃ L, Lib.bitLen v = L := ⟨_, rfl⟩
  rw [hL] at HL hl
  have g1 : decide (15 < (L : Int)) = true := decide_eq_true (by omega)
  clear hL hl
  go_enter Tryd.func19, Tryd.ntmps19
  go_wp2_with (go_at_call 35; (with_reducible refine (HL.out _).mono ?_); rintro e w1 ⟨rfl, hw1⟩)
  go_ret3
  exact ⟨rfl, hw1⟩

set_option maxRecDepth 100000 in
set_option maxHeartbeats 4000000 in
theorem getC_ok {v : Nat} {w : World} (h : v < 32768) (hT : HmT w) : Calls Tryd.prog 19 #[.int .u16 (v : Int)] w (Says (.tuple #[.int .u16 ((dt pl (v ^^^ Hm.fl (sy 15 v)) : Nat) : Int), .int .i64 ((sy 15 v : Nat) : Int), .int .i64 0]) w) := by
  have HL := Lib.hid fun w => len16_any v w (by omega)
  have hl := len_iff (show v < 65536 by omega) 15
  obtain ⟨L, hL⟩ : ∃ L, Lib.bitLen v = L := ⟨_, rfl⟩
  rw [hL] at HL hl
  have g1 : decide (15 < (L : Int)) = false := decide_eq_false (by omega)
  clear hL hl
  have hSl := sy_small v
  have HSU := Lib.hid fun w => hsum_any v w (by omega)
  obtain ⟨s, hs⟩ : ∃ s, sy 15 v = s := ⟨_, rfl⟩
  rw [hs] at HSU hSl ⊢
  clear hs
  have HB := Lib.hid fun w => bit_any s w (by omega)
  have hfl := fl_lt (n := 15) (k := s) (by omega)
  have hxl : v ^^^ Hm.fl s < 32768 := Nat.xor_lt_two_pow (n := 15) h hfl
  have hX := xor_u16_nat v (Hm.fl s) (by omega) (by omega)
  have HG : Hid (∀ w, HmT w → Calls Tryd.prog 43 #[.int .u16 ((v ^^^ Hm.fl s : Nat) : Int)] w (Says (.int .u16 ((dt pl (v ^^^ Hm.fl s) : Nat) : Int)) w)) := Lib.hid fun w hT => gather_any _ w (by omega) hT
  obtain ⟨y, hy⟩ : ∃ y, v ^^^ Hm.fl s = y := ⟨_, rfl⟩
  rw [hy] at hX HG ⊢
  clear hy hxl
  obtain ⟨o, ho⟩ : ∃ o, dt pl y = o := ⟨_, rfl⟩
  rw [ho] at HG ⊢
  clear ho
  go_enter Tryd.func19, Tryd.ntmps19
  go_wp2_with (first
    | (go_at_call 35; (with_reducible refine (HL.out _).mono ?_); rintro e w1 ⟨rfl, hw1⟩)
    | (go_at_call 37; (with_reducible refine (HSU.out _).mono ?_); rintro e w3 ⟨rfl, hw3⟩)
    | (go_at_call 38; (with_reducible refine (HB.out _).mono ?_); rintro e w4 ⟨rfl, hw4⟩)
    | (go_at_call 43; (with_reducible refine (HG.out _ (hT.ex (by repeat (first | assumption | exact Ex.refl _ | refine Ex.trans ?_ (by assumption))))).mono ?_); rintro e w5 ⟨rfl, hw5⟩))
  go_ret3
  exact ⟨rfl, ((hw1.trans hw3).trans hw4).trans hw5⟩

theorem putC : PutC := ⟨fun h hd _ => putC_no h hd, fun h hT => putC_ok h hT⟩

theorem getC : GetC := ⟨fun h hv _ => getC_no h hv, fun h hT => getC_ok h hT⟩

end Go.Proofs.YthlnbomapfjphaaDoor
