/-
  What package hamming answers, as structures of contracts; wholeref.RightWord and DataOf; wholekeep.hammings.
-/
import Derived.Test.YtehonbailaomeaaDoorHmMath
import Derived.Test.YtehonbailaomeaaDoorU16
namespace Go.Proofs.YtehonbailaomeaaDoor
open Go.RowKit
open Ln Hm

/-- What package hamming's tables hold. -/
def HmT (w : World) : Prop :=
  (w.cell? ⟨0, 0, none⟩ = some (.int .i64 1) ∧ w.cell? ⟨0, 1, none⟩ = some (.int .i64 2) ∧ w.cell? ⟨0, 2, none⟩ = some (.int .i64 4) ∧ w.cell? ⟨0, 3, none⟩ = some (.int .i64 8)) ∧
  ∀ j, j < 11 → w.cell? ⟨1, j, none⟩ = some (.int .i64 ((pl.getD j 0 : Nat) : Int))

theorem HmT.ex {w w2 : World} (h : HmT w) (hx : Ex w w2) : HmT w2 := ⟨⟨hx.cell h.1.1, hx.cell h.1.2.1, hx.cell h.1.2.2.1, hx.cell h.1.2.2.2⟩, fun j hj => hx.cell (h.2 j hj)⟩

structure PutC : Prop where
  no : ∀ {d : Nat} {w : World}, 2048 ≤ d → d < 65536 → HmT w → Calls Tryd.prog 7 #[.int .u16 (d : Int)] w (Says (.tuple #[.int .u16 0, .int .i64 1]) w)
  ok : ∀ {d : Nat} {w : World}, d < 2048 → HmT w → Calls Tryd.prog 7 #[.int .u16 (d : Int)] w (Says (.tuple #[.int .u16 ((en d : Nat) : Int), .int .i64 0]) w)

structure GetC : Prop where
  no : ∀ {v : Nat} {w : World}, 32768 ≤ v → v < 65536 → HmT w → Calls Tryd.prog 8 #[.int .u16 (v : Int)] w (Says (.tuple #[.int .u16 0, .int .i64 0, .int .i64 1]) w)
  ok : ∀ {v : Nat} {w : World}, v < 32768 → HmT w → Calls Tryd.prog 8 #[.int .u16 (v : Int)] w (Says (.tuple #[.int .u16 ((dt pl (v ^^^ Hm.fl (sy 15 v)) : Nat) : Int), .int .i64 ((sy 15 v : Nat) : Int), .int .i64 0]) w)

namespace Hm
theorem dt_snoc : ∀ (l : List Nat) (a w : Nat), dt (l ++ [a]) w = dt l w + 2 ^ l.length * bt (a - 1) w := by
  intro l
  induction l with
  | nil => intro a w; simp [dt]
  | cons b l ih =>
    intro a w
    rw [List.cons_append, dt, ih, dt, List.length_cons, Nat.pow_succ, Nat.mul_add, ← Nat.mul_assoc, Nat.mul_comm 2 (2 ^ l.length), Nat.add_assoc]
theorem sy_small (v : Nat) : sy 15 v < 16 := sy_lt 15 4 v (by decide)
theorem mask_11 (a : Nat) : a &&& 2047 = a % 2048 := Nat.and_two_pow_sub_one_eq_mod a 11
theorem mask_15 (a : Nat) : a &&& 32767 = a % 32768 := Nat.and_two_pow_sub_one_eq_mod a 15
end Hm

theorem xor_int_nat (a b : Nat) (ha : a < 9223372036854775808) (hb : b < 9223372036854775808) : bits .xor .i64 (a : Int) (b : Int) = ((a ^^^ b : Nat) : Int) := by
  have hx : a ^^^ b < 2 ^ 63 := Nat.xor_lt_two_pow (by omega) (by omega)
  show IntKind.i64.wrap ((BitVec.ofInt 64 (a : Int) ^^^ BitVec.ofInt 64 (b : Int)).toNat : Int) = _
  rw [BitVec.toNat_xor, nat_int a ha, nat_int b hb]
  exact IntWalk.i64_in _ (by omega)

set_option maxHeartbeats 1000000 in
theorem rightWord_any (v : Nat) (w : World) (hv : v < 65536) (r : Bool) (hr : decide (sy 15 v = 0) = r) : Calls Tryd.prog 9 #[.int .u16 (v : Int)] w (Says (.bool r) w) := by
  have HR := Lib.hid hr
  clear hr
  go_enter Tryd.func9, Tryd.ntmps9
  go_wp2
  go_loopg [3, 5] 15 (fun k v3 v5 wr => ∃ i x : Nat, i ≤ 15 ∧ x < 16 ∧ v3 = .int .i64 (x : Int) ∧ v5 = .int .i64 (i : Int) ∧ Hid (x = sy i v) ∧ Hid (k = 15 - i) ∧ w = wr)
  case atStart => exact ⟨0, 0, by omega, by omega, rfl, rfl, Lib.hid rfl, Lib.hid rfl, rfl⟩
  case round =>
    obtain ⟨i, x, hi, hx, rfl, rfl, hs, hk, rfl⟩ := hrel
    by_cases hlt : i < 15
    · have hb := bt_u16 i v hv
      have hb2 : bt i v ≤ 1 := by have := bt_two i v; omega
      obtain ⟨b, hbb⟩ : ∃ b, bt i v = b := ⟨_, rfl⟩
      rw [hbb] at hb hb2
      have hm : (i + 1) * b ≤ 15 := by
        rcases (show b = 0 ∨ b = 1 by omega) with e | e <;> rw [e] <;> omega
      have HST : Hid (x ^^^ (i + 1) * b = sy (i + 1) v) := Lib.hid (by rw [sy, hbb, hs.out])
      have hlt2 := sy_lt (i + 1) 4 v (by omega)
      rw [← HST.out] at hlt2
      have HT : Hid (bits .xor .i64 (x : Int) (wrap64 (((i : Int) + 1) * wrap64 (bits .and .u16 ((v : Int) / 2 ^ i) 1))) = ((x ^^^ (i + 1) * b : Nat) : Int)) := Lib.hid (by
        rw [hb, IntWalk.wrap64_in (b : Int) (by omega), show ((i : Int) + 1) * (b : Int) = (((i + 1) * b : Nat) : Int) by rw [Int.natCast_mul]; rfl, IntWalk.wrap64_in _ (by omega)]
        exact xor_int_nat _ _ (by omega) (by omega))
      clear hb hbb
      go_wp2
      go_roundg (15 - (i + 1))
      case measure => have := hk.out; omega
      case rel =>
        refine ⟨i + 1, _, by omega, hlt2, ?_, by go_num, HST, Lib.hid rfl, rfl⟩
        exact congrArg (Value.int .i64) HT.out
    · have e : i = 15 := by omega
      subst e
      have g1 : ((x : Int) == 0) = r := by
        rw [← HR.out, ← hs.out]
        by_cases h : x = 0
        · subst h; rfl
        · rw [decide_eq_false h]; exact beq_eq_false_iff_ne.mpr (by omega)
      go_wp2
      go_ret
      exact ⟨rfl, Ex.refl _⟩

theorem shl_u16 (b i : Nat) (h : b * 2 ^ i < 65536) : IntKind.u16.wrap ((b : Int) * 2 ^ i) = ((b * 2 ^ i : Nat) : Int) := by
  rw [show (b : Int) * 2 ^ i = ((b * 2 ^ i : Nat) : Int) by rw [Int.natCast_mul, Int.natCast_pow]; rfl]
  exact IntWalk.u16_in _ (by omega)
/-- One data bit more. -/
theorem dt_bit {i o a v : Nat} (hi : i < 11) (ho : o = dt (pl.take i) v) (ha : pl.take (i + 1) = pl.take i ++ [a]) (hv : v < 65536) :
    bits .or .u16 (o : Int) (IntKind.u16.wrap (bits .and .u16 ((v : Int) / 2 ^ (a - 1)) 1 * 2 ^ i)) = ((dt (pl.take (i + 1)) v : Nat) : Int) ∧ dt (pl.take (i + 1)) v < 2 ^ (i + 1) := by
  have hl : (pl.take i).length = i := by rw [List.length_take]; show min i 11 = i; omega
  have hl2 : (pl.take (i + 1)).length = i + 1 := by rw [List.length_take]; show min (i + 1) 11 = i + 1; omega
  have h1 := dt_lt (pl.take i) v
  have h2 := dt_lt (pl.take (i + 1)) v
  rw [hl2] at h2
  rw [hl, ← ho] at h1
  have hp : 2 ^ i ≤ 2 ^ 10 := Nat.pow_le_pow_right (by decide) (by omega)
  have hb2 := bt_two (a - 1) v
  have hm : bt (a - 1) v * 2 ^ i < 65536 := by
    generalize 2 ^ i = q at hp ⊢
    rcases hb2 with e | e <;> rw [e] <;> omega
  refine ⟨?_, h2⟩
  rw [bt_u16 (a - 1) v hv, shl_u16 _ _ hm, ha, dt_snoc, hl, ← ho, or_u16_nat _ _ (by omega) hm]
  rw [Nat.mul_comm (2 ^ i), Nat.or_comm, Nat.mul_comm (bt (a - 1) v), ← Nat.two_pow_add_eq_or_of_lt h1, Nat.add_comm]

set_option maxRecDepth 100000 in
set_option maxHeartbeats 4000000 in
theorem dataOf_any (v : Nat) (w : World) (hv : v < 65536) : Calls Tryd.prog 10 #[.int .u16 (v : Int)] w (Says (.int .u16 ((dt pl v : Nat) : Int)) w) := by
  go_enter Tryd.func10, Tryd.ntmps10
  go_wp2
  go_loopg [3, 7] 11 (fun k v3 v7 wr => ∃ i o : Nat, i ≤ 11 ∧ o < 65536 ∧ v3 = .int .u16 (o : Int) ∧ v7 = .int .i64 (i : Int) ∧ Hid (o = dt (pl.take i) v) ∧ Hid (k = 11 - i) ∧ w = wr)
  case atStart => exact ⟨0, 0, by omega, by omega, rfl, rfl, Lib.hid rfl, Lib.hid rfl, rfl⟩
  case round =>
    obtain ⟨i, o, hi, ho, rfl, rfl, hs, hk, rfl⟩ := hrel
    by_cases hlt : i < 11
    · have hi11 : i = 0 ∨ i = 1 ∨ i = 2 ∨ i = 3 ∨ i = 4 ∨ i = 5 ∨ i = 6 ∨ i = 7 ∨ i = 8 ∨ i = 9 ∨ i = 10 := by omega
      rcases hi11 with rfl | rfl | rfl | rfl | rfl | rfl | rfl | rfl | rfl | rfl | rfl
      · have HD := Lib.hid (dt_bit (i := 0) (a := 3) (by omega) hs.out rfl hv)
        have hidx : ∀ w, Sem.run Tryd.prog (Instr.index 39 (.agg #[.int .i64 3, .int .i64 5, .int .i64 6, .int .i64 7, .int .i64 9, .int .i64 10, .int .i64 11, .int .i64 12, .int .i64 13, .int .i64 14, .int .i64 15]) (.int .i64 0)) w = .ok (.int .i64 3) w := fun w => by kernel_rfl
        go_wp2_with (simp only [hidx])
        go_roundg (11 - (0 + 1))
        case measure => have := hk.out; omega
        case rel => exact ⟨1, dt (pl.take 1) v, by omega, by have h : dt (pl.take 1) v < 2 ^ 1 := HD.out.2; omega, congrArg (Value.int .u16) (by
          have h := HD.out.1
          rw [show (2 : Int) ^ 0 = 1 from rfl, Int.mul_one] at h
          exact h), by go_num, Lib.hid rfl, Lib.hid rfl, rfl⟩
      · have HD := Lib.hid (dt_bit (i := 1) (a := 5) (by omega) hs.out rfl hv)
        have hidx : ∀ w, Sem.run Tryd.prog (Instr.index 39 (.agg #[.int .i64 3, .int .i64 5, .int .i64 6, .int .i64 7, .int .i64 9, .int .i64 10, .int .i64 11, .int .i64 12, .int .i64 13, .int .i64 14, .int .i64 15]) (.int .i64 1)) w = .ok (.int .i64 5) w := fun w => by kernel_rfl
        go_wp2_with (simp only [hidx])
        go_roundg (11 - (1 + 1))
        case measure => have := hk.out; omega
        case rel => exact ⟨2, _, by omega, by have := HD.out.2; omega, congrArg (Value.int .u16) HD.out.1, by go_num, Lib.hid rfl, Lib.hid rfl, rfl⟩
      · have HD := Lib.hid (dt_bit (i := 2) (a := 6) (by omega) hs.out rfl hv)
        have hidx : ∀ w, Sem.run Tryd.prog (Instr.index 39 (.agg #[.int .i64 3, .int .i64 5, .int .i64 6, .int .i64 7, .int .i64 9, .int .i64 10, .int .i64 11, .int .i64 12, .int .i64 13, .int .i64 14, .int .i64 15]) (.int .i64 2)) w = .ok (.int .i64 6) w := fun w => by kernel_rfl
        go_wp2_with (simp only [hidx])
        go_roundg (11 - (2 + 1))
        case measure => have := hk.out; omega
        case rel => exact ⟨3, _, by omega, by have := HD.out.2; omega, congrArg (Value.int .u16) HD.out.1, by go_num, Lib.hid rfl, Lib.hid rfl, rfl⟩
      · have HD := Lib.hid (dt_bit (i := 3) (a := 7) (by omega) hs.out rfl hv)
        have hidx : ∀ w, Sem.run Tryd.prog (Instr.index 39 (.agg #[.int .i64 3, .int .i64 5, .int .i64 6, .int .i64 7, .int .i64 9, .int .i64 10, .int .i64 11, .int .i64 12, .int .i64 13, .int .i64 14, .int .i64 15]) (.int .i64 3)) w = .ok (.int .i64 7) w := fun w => by kernel_rfl
        go_wp2_with (simp only [hidx])
        go_roundg (11 - (3 + 1))
        case measure => have := hk.out; omega
        case rel => exact ⟨4, _, by omega, by have := HD.out.2; omega, congrArg (Value.int .u16) HD.out.1, by go_num, Lib.hid rfl, Lib.hid rfl, rfl⟩
      · have HD := Lib.hid (dt_bit (i := 4) (a := 9) (by omega) hs.out rfl hv)
        have hidx : ∀ w, Sem.run Tryd.prog (Instr.index 39 (.agg #[.int .i64 3, .int .i64 5, .int .i64 6, .int .i64 7, .int .i64 9, .int .i64 10, .int .i64 11, .int .i64 12, .int .i64 13, .int .i64 14, .int .i64 15]) (.int .i64 4)) w = .ok (.int .i64 9) w := fun w => by kernel_rfl
        go_wp2_with (simp only [hidx])
        go_roundg (11 - (4 + 1))
        case measure => have := hk.out; omega
        case rel => exact ⟨5, _, by omega, by have := HD.out.2; omega, congrArg (Value.int .u16) HD.out.1, by go_num, Lib.hid rfl, Lib.hid rfl, rfl⟩
      · have HD := Lib.hid (dt_bit (i := 5) (a := 10) (by omega) hs.out rfl hv)
        have hidx : ∀ w, Sem.run Tryd.prog (Instr.index 39 (.agg #[.int .i64 3, .int .i64 5, .int .i64 6, .int .i64 7, .int .i64 9, .int .i64 10, .int .i64 11, .int .i64 12, .int .i64 13, .int .i64 14, .int .i64 15]) (.int .i64 5)) w = .ok (.int .i64 10) w := fun w => by kernel_rfl
        go_wp2_with (simp only [hidx])
        go_roundg (11 - (5 + 1))
        case measure => have := hk.out; omega
        case rel => exact ⟨6, _, by omega, by have := HD.out.2; omega, congrArg (Value.int .u16) HD.out.1, by go_num, Lib.hid rfl, Lib.hid rfl, rfl⟩
      · have HD := Lib.hid (dt_bit (i := 6) (a := 11) (by omega) hs.out rfl hv)
        have hidx : ∀ w, Sem.run Tryd.prog (Instr.index 39 (.agg #[.int .i64 3, .int .i64 5, .int .i64 6, .int .i64 7, .int .i64 9, .int .i64 10, .int .i64 11, .int .i64 12, .int .i64 13, .int .i64 14, .int .i64 15]) (.int .i64 6)) w = .ok (.int .i64 11) w := fun w => by kernel_rfl
        go_wp2_with (simp only [hidx])
        go_roundg (11 - (6 + 1))
        case measure => have := hk.out; omega
        case rel => exact ⟨7, _, by omega, by have := HD.out.2; omega, congrArg (Value.int .u16) HD.out.1, by go_num, Lib.hid rfl, Lib.hid rfl, rfl⟩
      · have HD := Lib.hid (dt_bit (i := 7) (a := 12) (by omega) hs.out rfl hv)
        have hidx : ∀ w, Sem.run Tryd.prog (Instr.index 39 (.agg #[.int .i64 3, .int .i64 5, .int .i64 6, .int .i64 7, .int .i64 9, .int .i64 10, .int .i64 11, .int .i64 12, .int .i64 13, .int .i64 14, .int .i64 15]) (.int .i64 7)) w = .ok (.int .i64 12) w := fun w => by kernel_rfl
        go_wp2_with (simp only [hidx])
        go_roundg (11 - (7 + 1))
        case measure => have := hk.out; omega
        case rel => exact ⟨8, _, by omega, by have := HD.out.2; omega, congrArg (Value.int .u16) HD.out.1, by go_num, Lib.hid rfl, Lib.hid rfl, rfl⟩
      · have HD := Lib.hid (dt_bit (i := 8) (a := 13) (by omega) hs.out rfl hv)
        have hidx : ∀ w, Sem.run Tryd.prog (Instr.index 39 (.agg #[.int .i64 3, .int .i64 5, .int .i64 6, .int .i64 7, .int .i64 9, .int .i64 10, .int .i64 11, .int .i64 12, .int .i64 13, .int .i64 14, .int .i64 15]) (.int .i64 8)) w = .ok (.int .i64 13) w := fun w => by kernel_rfl
        go_wp2_with (simp only [hidx])
        go_roundg (11 - (8 + 1))
        case measure => have := hk.out; omega
        case rel => exact ⟨9, _, by omega, by have := HD.out.2; omega, congrArg (Value.int .u16) HD.out.1, by go_num, Lib.hid rfl, Lib.hid rfl, rfl⟩
      · have HD := Lib.hid (dt_bit (i := 9) (a := 14) (by omega) hs.out rfl hv)
        have hidx : ∀ w, Sem.run Tryd.prog (Instr.index 39 (.agg #[.int .i64 3, .int .i64 5, .int .i64 6, .int .i64 7, .int .i64 9, .int .i64 10, .int .i64 11, .int .i64 12, .int .i64 13, .int .i64 14, .int .i64 15]) (.int .i64 9)) w = .ok (.int .i64 14) w := fun w => by kernel_rfl
        go_wp2_with (simp only [hidx])
        go_roundg (11 - (9 + 1))
        case measure => have := hk.out; omega
        case rel => exact ⟨10, _, by omega, by have := HD.out.2; omega, congrArg (Value.int .u16) HD.out.1, by go_num, Lib.hid rfl, Lib.hid rfl, rfl⟩
      · have HD := Lib.hid (dt_bit (i := 10) (a := 15) (by omega) hs.out rfl hv)
        have hidx : ∀ w, Sem.run Tryd.prog (Instr.index 39 (.agg #[.int .i64 3, .int .i64 5, .int .i64 6, .int .i64 7, .int .i64 9, .int .i64 10, .int .i64 11, .int .i64 12, .int .i64 13, .int .i64 14, .int .i64 15]) (.int .i64 10)) w = .ok (.int .i64 15) w := fun w => by kernel_rfl
        go_wp2_with (simp only [hidx])
        go_roundg (11 - (10 + 1))
        case measure => have := hk.out; omega
        case rel => exact ⟨11, _, by omega, by have := HD.out.2; omega, congrArg (Value.int .u16) HD.out.1, by go_num, Lib.hid rfl, Lib.hid rfl, rfl⟩
    · have e : i = 11 := by omega
      subst e
      have HE := Lib.hid hs.out
      go_wp2
      go_ret
      exact ⟨by rw [HE.out]; rfl, Ex.refl _⟩

end Go.Proofs.YtehonbailaomeaaDoor
