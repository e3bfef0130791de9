/-
  math/bits: the length and the ones of a word of sixteen bits.
-/
import Derived.Test.YthlnbomapfjphaaDoorU16
import Derived.Test.YthlnbomapfjphaaDoorGro
import Derived.Lib.Tables
import Derived.Lib.BitFns
import Derived.BigQuiet
namespace Go.Proofs.YthlnbomapfjphaaDoor
open Go.RowKit
open Ln

namespace Ln
theorem len_top : ∀ (k x : Nat), Top k x → x < 2 ^ 64 → Lib.bitLen x = k + 1 := by
  intro k
  induction k with
  | zero =>
    rintro x ⟨h1, h2⟩ _
    have : x = 1 := by omega
    subst this
    decide
  | succ k ih =>
    rintro x ⟨h1, h2⟩ hx
    rw [Nat.pow_succ] at h1 h2
    have hp : 0 < 2 ^ k := Nat.pow_pos (by decide)
    rw [Lib.bitLen_half x (by omega) hx, ih (x / 2) ⟨by omega, by omega⟩ (by omega)]
    omega
theorem len_zero : Lib.bitLen 0 = 0 := by decide
theorem len_iff {x : Nat} (hx : x < 65536) (n : Nat) : Lib.bitLen x ≤ n ↔ x < 2 ^ n := by
  by_cases h0 : x = 0
  · subst h0
    rw [len_zero]
    exact ⟨fun _ => Nat.pow_pos (by decide), fun _ => Nat.zero_le _⟩
  · obtain ⟨k, hk⟩ := top_some h0
    rw [len_top k x hk (by omega)]
    constructor
    · intro h
      exact Nat.lt_of_lt_of_le hk.2 (Nat.pow_le_pow_right (by decide) h)
    · intro h
      exact hk.lt h
theorem len_is {x : Nat} (hx : x < 65536) (k : Nat) : Lib.bitLen x = k + 1 ↔ Top k x := by
  constructor
  · intro h
    by_cases h0 : x = 0
    · subst h0; rw [len_zero] at h; omega
    · obtain ⟨j, hj⟩ := top_some h0
      have := len_top j x hj (by omega)
      have e : j = k := by omega
      exact e ▸ hj
  · intro h; exact len_top k x h (by omega)
theorem len_le16 {x : Nat} (hx : x < 65536) : Lib.bitLen x ≤ 16 := (len_iff hx 16).mpr hx

theorem on_cut16 : ∀ a b x, on (a + b) x = on a x + on b (x / 2 ^ a) := by
  intro a
  induction a with
  | zero => intro b x; rw [Nat.zero_add, Nat.pow_zero, Nat.div_one, on, Nat.zero_add]
  | succ a ih =>
    intro b x
    rw [show a + 1 + b = (a + b) + 1 by omega, on, on, ih, Nat.div_div_eq_div_mul, Nat.pow_succ, Nat.mul_comm 2]
    omega
theorem on_mod : ∀ a x, on a (x % 2 ^ a) = on a x := by
  intro a
  induction a with
  | zero => intro x; rfl
  | succ a ih =>
    intro x
    rw [on, on, Nat.pow_succ, Nat.mul_comm, Nat.mod_mul_right_mod, Nat.mod_mul_right_div_self, ih]
theorem pop_fin : ∀ n : Fin 256, Lib.pop8 (n.val : Int) = ((on 8 n.val : Nat) : Int) := by decide +kernel
theorem on_two (x : Nat) : on 16 x = on 8 (x / 256) + on 8 (x % 256) := by
  have h1 : on 16 x = on 8 x + on 8 (x / 256) := on_cut16 8 8 x
  have h2 : on 8 (x % 256) = on 8 x := on_mod 8 x
  omega
end Ln

set_option maxRecDepth 1000000 in
set_option maxHeartbeats 32000000 in
theorem len16_any (n : Nat) (w : World) (h : n < 65536) : Calls Tryd.prog 35 #[.int .u16 (n : Int)] w (Says (.int .i64 (Lib.bitLen n : Int)) w) := by
  obtain ⟨q, hq, hq8⟩ : ∃ q : Nat, q < 256 ∧ (n < 256 → q = n ∧ Lib.bitLen n = Lib.bitLen q) ∧ (256 ≤ n → q = n / 256 ∧ Lib.bitLen n = 8 + Lib.bitLen q) := by
    by_cases h1 : n < 256
    · exact ⟨n, h1, fun _ => ⟨rfl, rfl⟩, fun h => by omega⟩
    · exact ⟨n / 256, by omega, fun h => by omega, fun h2 => ⟨rfl, Lib.bitLen_shift8 n h2 (by omega)⟩⟩
  have he : Lib.len8 (q : Int) = (Lib.bitLen q : Int) := Lib.len8_eq ⟨q, hq⟩
  have hb : Lib.bitLen q ≤ 8 := Lib.bitLen_le8 ⟨q, hq⟩
  have HI : ∀ w, (Instr.index 9 (.string Lib.len8tab) (.int .u8 (q : Int))).run Tryd.prog w = .ok (.int .u8 (Lib.len8 (q : Int))) w := fun w => Lib.run_index_len8tab w 9 .u8 (q : Int) Tryd.underlying9 (by omega) (by omega)
  rw [he] at HI
  obtain ⟨L, hL⟩ : ∃ L, Lib.bitLen q = L := ⟨_, rfl⟩
  obtain ⟨M, hM⟩ : ∃ M, Lib.bitLen n = M := ⟨_, rfl⟩
  rw [hL] at HI hb hq8
  rw [hM] at hq8 ⊢
  clear he hL hM
  obtain ⟨e1, e2⟩ := hq8
  by_cases h1 : n < 256
  · obtain ⟨e3, e4⟩ := e1 h1
    subst e3
    have x1 : (q : Int) ≤ 255 := by omega
    have x0 : (0 : Int) ≤ (q : Int) := by omega
    have HM : Hid (M = L) := Lib.hid e4
    clear h hq e1 e2 h1 e4
    generalize (q : Int) = x at HI x0 x1 ⊢
    rw [HM.out]
    go_enter Tryd.func35, Tryd.ntmps35
    conv in (ByteArray.mk _) => tactic => exact (show _ = Lib.len8tab by kernel_rfl)
    generalize Lib.len8tab = D at HI ⊢
    go_wp2
    go_ret
    exact ⟨rfl, Ex.refl _⟩
  · obtain ⟨e3, e4⟩ := e2 (by omega)
    have HX : Hid ((n : Int) / 256 = (q : Int)) := Lib.hid (by omega)
    have x1 : (n : Int) / 256 ≤ 255 := by omega
    have x0 : (0 : Int) ≤ (n : Int) / 256 := by omega
    have x2 : 256 ≤ (n : Int) := by omega
    have x3 : (n : Int) ≤ 65535 := by omega
    rw [← HX.out] at HI
    rw [e4]
    clear e1 e2 h1 h hq e3 e4 HX
    generalize (n : Int) = x at HI x0 x1 x2 x3 ⊢
    go_enter Tryd.func35, Tryd.ntmps35
    conv in (ByteArray.mk _) => tactic => exact (show _ = Lib.len8tab by kernel_rfl)
    generalize Lib.len8tab = D at HI ⊢
    go_wp2
    go_ret
    exact ⟨by simp, Ex.refl _⟩

set_option maxRecDepth 1000000 in
set_option maxHeartbeats 32000000 in
theorem ones16_any (n : Nat) (w : World) (h : n < 65536) : Calls Tryd.prog 58 #[.int .u16 (n : Int)] w (Says (.int .i64 ((on 16 n : Nat) : Int)) w) := by
  obtain ⟨q, hq⟩ : ∃ q, n / 256 = q := ⟨_, rfl⟩
  obtain ⟨r, hr⟩ : ∃ r, n % 256 = r := ⟨_, rfl⟩
  have h1 : q < 256 := by omega
  have h2 : r < 256 := by omega
  have he := pop_fin ⟨q, h1⟩
  have he2 := pop_fin ⟨r, h2⟩
  have hb := on_le 8 q
  have hb2 := on_le 8 r
  have ht := on_two n
  rw [hq, hr] at ht
  have HI : ∀ w, (Instr.index 9 (.string Lib.pop8tab) (.int .u16 (q : Int))).run Tryd.prog w = .ok (.int .u8 (Lib.pop8 (q : Int))) w := fun w => Lib.run_index_pop8tab w 9 .u16 (q : Int) Tryd.underlying9 (by omega) (by omega)
  have HJ : ∀ w, (Instr.index 9 (.string Lib.pop8tab) (.int .u16 (r : Int))).run Tryd.prog w = .ok (.int .u8 (Lib.pop8 (r : Int))) w := fun w => Lib.run_index_pop8tab w 9 .u16 (r : Int) Tryd.underlying9 (by omega) (by omega)
  have HA : bits .and .u16 (n : Int) 255 = (r : Int) := by
    have := and_u16_nat n 255 h (by decide)
    rw [show n &&& 255 = n % 2 ^ 8 from Nat.and_two_pow_sub_one_eq_mod n 8] at this
    rw [← hr]
    exact this
  have HQ : (n : Int) / 256 = (q : Int) := by omega
  dsimp only at he he2
  rw [he] at HI
  rw [he2] at HJ
  rw [ht]
  generalize on 8 q = a at HI hb ⊢
  generalize on 8 r = b at HJ hb2 ⊢
  have x1 : (q : Int) ≤ 255 := by omega
  have x0 : (0 : Int) ≤ (q : Int) := by omega
  have y1 : (r : Int) ≤ 255 := by omega
  have y0 : (0 : Int) ≤ (r : Int) := by omega
  have z1 : (n : Int) ≤ 65535 := by omega
  have z0 : (0 : Int) ≤ (n : Int) := by omega
  clear he he2 h h1 h2 ht hq hr
  generalize (q : Int) = x at HI HQ x0 x1 ⊢
  generalize (r : Int) = y at HJ HA y0 y1 ⊢
  generalize (n : Int) = z at HA HQ z0 z1 ⊢
  go_enter Tryd.func58, Tryd.ntmps58
  conv in (ByteArray.mk _) => tactic => exact (show _ = Lib.pop8tab by kernel_rfl)
  conv in (ByteArray.mk _) => tactic => exact (show _ = Lib.pop8tab by kernel_rfl)
  generalize Lib.pop8tab = D at HI HJ ⊢
  go_wp2
  refine wp_region_wo (by kernel_rfl) (by kernel_rfl) ?_
  repeat (go_big_quiet_step (fail))
  refine wpQuiet_nil ?_
  rintro _ ⟨⟨w2, hw2⟩, rfl⟩
  go_wp2
  go_ret
  exact ⟨by simp, hw2⟩

end Go.Proofs.YthlnbomapfjphaaDoor
