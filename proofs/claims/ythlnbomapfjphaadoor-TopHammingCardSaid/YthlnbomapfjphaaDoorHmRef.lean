/-
  What package hamming answers, as structures of contracts; wholeref.RightWord and DataOf; wholekeep.hammings.
-/
import Derived.Test.YthlnbomapfjphaaDoorHmMath
import Derived.Test.YthlnbomapfjphaaDoorU16
namespace Go.Proofs.YthlnbomapfjphaaDoor
open Go.RowKit
open Ln Hm

/-- What package hamming's tables hold. -/
def HmT (w : World) : Prop :=
  (w.cell? ⟨0, 0, none⟩ = some (.int .i64 1) ∧ w.cell? ⟨0, 1, none⟩ = some (.int .i64 2) ∧ w.cell? ⟨0, 2, none⟩ = some (.int .i64 4) ∧ w.cell? ⟨0, 3, none⟩ = some (.int .i64 8)) ∧
  ∀ j, j < 11 → w.cell? ⟨1, j, none⟩ = some (.int .i64 ((pl.getD j 0 : Nat) : Int))

theorem HmT.ex {w w2 : World} (h : HmT w) (hx : Ex w w2) : HmT w2 := ⟨⟨hx.cell h.1.1, hx.cell h.1.2.1, hx.cell h.1.2.2.1, hx.cell h.1.2.2.2⟩, fun j hj => hx.cell (h.2 j hj)⟩

structure PutC : Prop where
  no : ∀ {d : Nat} {w : World}, 2048 ≤ d → d < 65536 → HmT w → Calls Tryd.prog 16 #[.int .u16 (d : Int)] w (Says (.tuple #[.int .u16 0, .int .i64 1]) w)
  ok : ∀ {d : Nat} {w : World}, d < 2048 → HmT w → Calls Tryd.prog 16 #[.int .u16 (d : Int)] w (Says (.tuple #[.int .u16 ((en d : Nat) : Int), .int .i64 0]) w)

structure GetC : Prop where
  no : ∀ {v : Nat} {w : World}, 32768 ≤ v → v < 65536 → HmT w → Calls Tryd.prog 19 #[.int .u16 (v : Int)] w (Says (.tuple #[.int .u16 0, .int .i64 0, .int .i64 1]) w)
  ok : ∀ {v : Nat} {w : World}, v < 32768 → HmT w → Calls Tryd.prog 19 #[.int .u16 (v : Int)] w (Says (.tuple #[.int .u16 ((dt pl (v ^^^ Hm.fl (sy 15 v)) : Nat) : Int), .int .i64 ((sy 15 v : Nat) : Int), .int .i64 0]) w)

namespace Hm
theorem dt_snoc : ∀ (l : List Nat) (a w : Nat), dt (l ++ [a]) w = dt l w + 2 ^ l.length * bt (a - 1) w := by
  intro l
  induction l with
  | nil => intro a w; simp [dt]
  | cons b l ih =>
    intro a w
    rw [List.cons_append, dt, ih, dt, List.length_cons, Nat.pow_succ, Nat.mul_add, ← Nat.mul_assoc, Nat.mul_comm 2 (2 ^ l.length), Nat.add_assoc]
theorem sy_small (v : Nat) : sy 15 v < 16 := sy_lt 15 4 v (by decide)
theorem mask_11 (a : Nat) : a &&& 2047 = a % 2048 := Nat.and_two_pow_sub_one_eq_mod a 11
theorem mask_15 (a : Nat) : a &&& 32767 = a % 32768 := Nat.and_two_pow_sub_one_eq_mod a 15
end Hm

theorem xor_int_nat (a b : Nat) (ha : a < 9223372036854775808) (hb : b < 9223372036854775808) : bits .xor .i64 (a : Int) (b : Int) = ((a ^^^ b : Nat) : Int) := by
  have hx : a ^^^ b < 2 ^ 63 := Nat.xor_lt_two_pow (by omega) (by omega)
  show IntKind.i64.wrap ((BitVec.ofInt 64 (a : Int) ^^^ BitVec.ofInt 64 (b : Int)).toNat : Int) = _
  rw [BitVec.toNat_xor, nat_int a ha, nat_int b hb]
  exact IntWalk.i64_in _ (by omega)


theorem shl_u16 (b i : Nat) (h : b * 2 ^ i < 65536) : IntKind.u16.wrap ((b : Int) * 2 ^ i) = ((b * 2 ^ i : Nat) : Int) := by
  rw [show (b : Int) * 2 ^ i = ((b * 2 ^ i : Nat) : Int) by rw [Int.natCast_mul, Int.natCast_pow]; rfl]
  exact IntWalk.u16_in _ (by omega)
/-- One data bit more. -/
theorem dt_bit {i o a v : Nat} (hi : i < 11) (ho : o = dt (pl.take i) v) (ha : pl.take (i + 1) = pl.take i ++ [a]) (hv : v < 65536) :
    bits .or .u16 (o : Int) (IntKind.u16.wrap (bits .and .u16 ((v : Int) / 2 ^ (a - 1)) 1 * 2 ^ i)) = ((dt (pl.take (i + 1)) v : Nat) : Int) ∧ dt (pl.take (i + 1)) v < 2 ^ (i + 1) := by
  have hl : (pl.take i).length = i := by rw [List.length_take]; show min i 11 = i; omega
  have hl2 : (pl.take (i + 1)).length = i + 1 := by rw [List.length_take]; show min (i + 1) 11 = i + 1; omega
  have h1 := dt_lt (pl.take i) v
  have h2 := dt_lt (pl.take (i + 1)) v
  rw [hl2] at h2
  rw [hl, ← ho] at h1
  have hp : 2 ^ i ≤ 2 ^ 10 := Nat.pow_le_pow_right (by decide) (by omega)
  have hb2 := bt_two (a - 1) v
  have hm : bt (a - 1) v * 2 ^ i < 65536 := by
    generalize 2 ^ i = q at hp ⊢
    rcases hb2 with e | e <;> rw [e] <;> omega
  refine ⟨?_, h2⟩
  rw [bt_u16 (a - 1) v hv, shl_u16 _ _ hm, ha, dt_snoc, hl, ← ho, or_u16_nat _ _ (by omega) hm]
  rw [Nat.mul_comm (2 ^ i), Nat.or_comm, Nat.mul_comm (bt (a - 1) v), ← Nat.two_pow_add_eq_or_of_lt h1, Nat.add_comm]


end Go.Proofs.YthlnbomapfjphaaDoor
