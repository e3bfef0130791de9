/-
  wholeref.lowest and wholeref.Hangs: how long the shortest rule is.
-/
import Derived.Test.YtebijjigjlcjdaaMyD
import Derived.Lib.TrailingZeros
import Derived.Laws.Bits64b
namespace Go.Proofs.Ytebijjigjlcjdaa
open Go.RowKit
open My

namespace My
/-- The lowest bit, as the code asks for it. -/
theorem low_and {r p : Nat} (h : Low r p) (hr : r < 2 ^ 64) : r &&& (2 ^ 64 - r) = 2 ^ p ∧ p < 64 := by
  have h0 : r ≠ 0 := fun e => by rw [e] at h; have := h.1; rw [Nat.zero_testBit] at this; cases this
  obtain ⟨h1, h2⟩ := Lib.lowest_bit 64 r h0 hr
  have hk : Low r (Lib.ctz 64 r) := by
    refine ⟨?_, fun k hk => ?_⟩
    · have := congrArg (Nat.testBit · (Lib.ctz 64 r)) h1
      simp only [Nat.testBit_and, Nat.testBit_two_pow_self, Bool.and_eq_true] at this
      exact this.1
    · obtain ⟨m, hm, _⟩ := Lib.ctzFrom_spec 64 r (by omega) hr
      have e : Lib.ctz 64 r = Lib.ctzFrom 64 r := by
        unfold Lib.ctz
        simp [h0]
      rw [hm, ← e, Nat.testBit_two_pow_mul]
      have : ¬ Lib.ctz 64 r ≤ k := by omega
      simp [this]
  have e := hk.tell h
  rw [e] at h1 h2
  exact ⟨h1, h2⟩
theorem and_pow (x p : Nat) : x &&& 2 ^ p = if x.testBit p = true then 2 ^ p else 0 := by
  apply Nat.eq_of_testBit_eq
  intro j
  rw [Nat.testBit_and, Nat.testBit_two_pow]
  by_cases h : p = j
  · subst h
    cases hx : x.testBit p
    · simp
    · simp
  · cases hx : x.testBit p
    · simp [h]
    · simp [h]
/-- A row on its way: bit n is what comes, the others what was. -/
def ro (s : Nat → Bool) (n i : Nat) : Nat → Nat
  | 0 => (s i).toNat * 2 ^ n
  | k + 1 => ro s n i k ||| (s (i - 1 - k)).toNat * 2 ^ k
theorem bit_at (b : Bool) (n j : Nat) : (b.toNat * 2 ^ n).testBit j = (b && decide (n = j)) := by
  cases b
  · simp
  · rw [Bool.toNat_true, Nat.one_mul, Nat.testBit_two_pow, Bool.true_and]
theorem ro_bits (s : Nat → Bool) (n i : Nat) : ∀ k, k ≤ n → ∀ j, (ro s n i k).testBit j = if j = n then s i else if j < k then s (i - 1 - j) else false := by
  intro k
  induction k with
  | zero =>
    intro _ j
    rw [ro, bit_at]
    by_cases h : j = n
    · rw [if_pos h, h]; simp
    · rw [if_neg h, if_neg (by omega)]
      simp only [Bool.and_eq_false_iff, decide_eq_false_iff_not]
      exact .inr fun e => h e.symm
  | succ k ih =>
    intro hk j
    rw [ro, Nat.testBit_or, ih (by omega) j, bit_at]
    by_cases h : j = n
    · rw [if_pos h, if_pos h]
      have : ¬ k = j := by omega
      simp [this]
    · rw [if_neg h, if_neg h]
      by_cases h2 : j < k
      · rw [if_pos h2, if_pos (by omega)]
        have : ¬ k = j := by omega
        simp [this]
      · rw [if_neg h2]
        by_cases h3 : k = j
        · subst h3
          rw [if_pos (by omega)]
          simp
        · rw [if_neg (by omega)]
          simp [h3]
theorem ro_lt (s : Nat → Bool) (n i k : Nat) (hk : k ≤ n) : ro s n i k < 2 ^ (n + 1) := by
  refine Nat.lt_pow_two_of_testBit _ fun j hj => ?_
  rw [ro_bits s n i k hk j, if_neg (by omega), if_neg (by omega)]
theorem ro_eq (s : Nat → Bool) (n i : Nat) : IsEq s n i (ro s n i n) := by
  refine ⟨ro_lt s n i n (Nat.le_refl _), ?_, fun k hk => ?_⟩
  · rw [ro_bits s n i n (Nat.le_refl _), if_pos rfl]
  · rw [ro_bits s n i n (Nat.le_refl _), if_neg (by omega), if_pos hk]
theorem rd_append : ∀ (l m : List (Nat × Nat)) (w : Nat), rd (l ++ m) w = rd m (rd l w) := by
  intro l
  induction l with
  | nil => intro m w; rfl
  | cons e l ih => intro m w; rw [List.cons_append, rd, rd, ih]
theorem rd_take {L : List (Nat × Nat)} {t : Nat} (h : t < L.length) (w : Nat) : rd (L.take (t + 1)) w = if (rd (L.take t) w).testBit (L[t]).2 = true then rd (L.take t) w ^^^ (L[t]).1 else rd (L.take t) w := by
  rw [List.take_add_one, List.getElem?_eq_getElem h, rd_append]
  simp only [Option.toList, rd]
theorem bw_nat (b : Bool) : bw b = ((b.toNat : Nat) : Int) := by cases b <;> rfl
end My

theorem shl_bit (b : Bool) (k : Nat) (hk : k < 64) : IntKind.u64.wrap (bw b * 2 ^ k) = ((b.toNat * 2 ^ k : Nat) : Int) := by
  have hp : 2 ^ k ≤ 2 ^ 63 := Nat.pow_le_pow_right (by decide) (by omega)
  rw [bw_nat, show ((2 : Int) ^ k) = ((2 ^ k : Nat) : Int) by rw [Int.natCast_pow]; rfl, ← Int.natCast_mul]
  refine IntWalk.u64_in _ ?_
  generalize 2 ^ k = q at hp
  cases b
  · simp
  · simp; omega

set_option maxHeartbeats 1000000 in
theorem lowest_any (r p : Nat) (w : World) (h : Low r p) (hr : r < 2 ^ 64) : Calls Try.prog 24 #[.int .u64 (r : Int)] w (Says (.int .u64 ((2 ^ p : Nat) : Int)) w) := by
  obtain ⟨h1, h2⟩ := low_and h hr
  have h0 : r ≠ 0 := fun e => by rw [e] at h; have := h.1; rw [Nat.zero_testBit] at this; cases this
  have hb : (2 ^ 64 : Nat) = 18446744073709551616 := rfl
  rw [hb] at h1 hr
  have HA : Hid (bits .and .u64 (r : Int) (IntKind.u64.wrap (-(r : Int))) = ((2 ^ p : Nat) : Int)) := Lib.hid (by
    have e1 : IntKind.u64.wrap (-(r : Int)) = ((18446744073709551616 - r : Nat) : Int) := by rw [IntKind.wrap_u64]; omega
    rw [e1, bits_and_u64_nat r _ hr (by omega), h1])
  obtain ⟨P, hP⟩ : ∃ P, 2 ^ p = P := ⟨_, rfl⟩
  rw [hP] at HA ⊢
  clear h h1 h2 hP
  go_enter Try.func24, Try.ntmps24
  go_wp2
  go_ret
  exact ⟨congrArg (fun x => Ending.returned (Value.int .u64 x)) HA.out, Ex.refl _⟩

theorem xor_u64_nat (a b : Nat) (ha : a < 2 ^ 64) (hb : b < 2 ^ 64) : bits .xor .u64 (a : Int) (b : Int) = ((a ^^^ b : Nat) : Int) := by
  have hx : a ^^^ b < 2 ^ 64 := Nat.xor_lt_two_pow ha hb
  have h1 : (BitVec.ofInt 64 (a : Int)).toNat = a := by
    rw [BitVec.ofInt_natCast, BitVec.toNat_ofNat]; exact Nat.mod_eq_of_lt (by omega)
  have h2 : (BitVec.ofInt 64 (b : Int)).toNat = b := by
    rw [BitVec.ofInt_natCast, BitVec.toNat_ofNat]; exact Nat.mod_eq_of_lt (by omega)
  show IntKind.u64.wrap ((BitVec.ofInt 64 (a : Int) ^^^ BitVec.ofInt 64 (b : Int)).toNat : Int) = _
  rw [BitVec.toNat_xor, h1, h2, IntKind.wrap_u64]
  omega
namespace My
/-- The rows as Go's numbers. -/
def rl (P : List (Nat × Nat)) : List Int := P.map fun e => ((e.1 : Nat) : Int)
theorem rl_length (P : List (Nat × Nat)) : (rl P).length = P.length := by unfold rl; rw [List.length_map]
theorem rl_nth {P : List (Nat × Nat)} {t : Nat} (h : t < P.length) : nth (rl P) t = ((P[t].1 : Nat) : Int) := by
  rw [nth_eq (by rw [rl_length]; exact h)]
  simp [rl]
theorem rl_snoc (P : List (Nat × Nat)) (x p : Nat) : rl (P ++ [(x, p)]) = rl P ++ [(x : Int)] := by unfold rl; rw [List.map_append]; rfl
end My

theorem info_u64 : (Try.prog.info? 44).map (fun i => (i.zero, i.size, i.bytes)) = some (some (.int .u64 0), 1, 8) := by kernel_rfl

set_option maxRecDepth 100000 in
set_option maxHeartbeats 4000000 in
theorem hangs_any (B : Nat → Bool) (L M : Nat) (a : Option Addr) (ca : Nat) (w : World) (hL : L ≤ 60) (ha : ReadsB w a L B) (hex : ∃ q, Gen B q M L) (hmin : ∀ N q, Gen B q N L → M ≤ N) :
    Calls Try.prog 11 #[.slice a L ca] w (Says (.int .i64 (M : Int)) w) := by
  have hML : M ≤ L := hmin L (fun _ => false) (Gen.full _ _ _)
  have HA := Lib.hid ha
  have HEX := Lib.hid hex
  have HMIN := Lib.hid hmin
  clear ha hex hmin
  go_enter Try.func11, Try.ntmps11
  go_wp2
  go_loopg [13] L (fun k v13 wr => ∃ n : Nat, n ≤ L ∧ n ≤ M ∧ v13 = .int .i64 (n : Int) ∧ Hid (k = L - n) ∧ Ex w wr)
  case atStart => exact ⟨0, by omega, by omega, rfl, Lib.hid rfl, Ex.refl _⟩
  case round =>
    obtain ⟨n, hn, hnM, rfl, hk, hx⟩ := hrel
    by_cases hlt : n < L
    · rcases HA.out with h0 | ⟨gA, oA, rfl, hA⟩
      · exact absurd hlt (by omega)
      have HA2 := Lib.hid hA
      have HX := Lib.hid hx
      have hp60 : 2 ^ (n + 1) ≤ 2 ^ 60 := Nat.pow_le_pow_right (by decide) (by omega)
      have HP60 := Lib.hid hp60
      rename World => wo
      clear hA hx hp60
      go_wp2
      go_loopg [4, 5, 6] (L - n) (fun m v4 v5 v6 wr => ∃ (i : Nat) (P : List (Nat × Nat)) (ok : Bool) (v : Value), n ≤ i ∧ i ≤ L ∧ P.length ≤ i ∧ v4 = v ∧ v5 = .bool ok ∧ v6 = .int .i64 (i : Int) ∧ Hid (Row 44 .u64 wr w.heap.size v (rl P)) ∧ Hid (ok = true ↔ ∀ e ∈ P, e.1 ≠ 2 ^ n) ∧ Hid (Hang B n i P) ∧ Hid (m = L - i) ∧ Ex w wr)
      case atStart => exact ⟨n, [], true, _, by omega, by omega, by simp, rfl, rfl, rfl, Lib.hid (Row.nil _ _ _ _), Lib.hid (by simp), Lib.hid (Hang.start B n), Lib.hid rfl, HX.out⟩
      case round =>
        obtain ⟨i, P, ok, v, hni, hiL, hPl, rfl, rfl, rfl, hRow, hok, hHg, hm, hx⟩ := hrel
        by_cases hil : i < L
        · have HA3 := Lib.hid fun j hj => hx.cell (HA2.out j hj)
          have HX2 := Lib.hid hx
          have pI := HA3.out i hil
          have HS0 := Lib.hid (shl_bit (B i) n (by omega))
          have hu := bw_two (B i)
          obtain ⟨u, hue⟩ : ∃ u, bw (B i) = u := ⟨_, rfl⟩
          rw [hue] at pI HS0 hu
          obtain ⟨u0, u1⟩ := hu
          clear hx hue
          rename World => wz
          go_wp2
          go_loopg [7, 31] n (fun m v7 v31 wr => ∃ k x : Nat, k ≤ n ∧ x < 18446744073709551616 ∧ v7 = .int .u64 (x : Int) ∧ v31 = .int .i64 (k : Int) ∧ Hid (x = ro B n i k) ∧ Hid (m = n - k) ∧ wz = wr)
          case atStart => exact ⟨0, _, by omega, by have := ro_lt B n i 0 (by omega); have := HP60.out; rw [ro] at *; omega, congrArg (Value.int .u64) HS0.out, rfl, Lib.hid rfl, Lib.hid rfl, rfl⟩
          case round =>
            obtain ⟨k, x, hkn, hxl, rfl, rfl, hxr, hm2, rfl⟩ := hrel
            by_cases hkt : k < n
            · obtain ⟨t, ht⟩ : ∃ t, i - 1 - k = t := ⟨_, rfl⟩
              have p2 := HA3.out t (by omega)
              have ht2 : (i : Int) - 1 - (k : Int) = (t : Int) := by omega
              have hsh := shl_bit (B t) k (by omega)
              have hu := bw_two (B t)
              have hlow := ro_lt B n i (k + 1) (by omega)
              have hro : ro B n i (k + 1) = x ||| (B t).toNat * 2 ^ k := by rw [ro, ← hxr.out, ht]
              rw [hro] at hlow
              have hm64 : (B t).toNat * 2 ^ k < 18446744073709551616 := by
                have h1 : (B t).toNat ≤ 1 := Bool.toNat_le _
                have h2 : 2 ^ k ≤ 2 ^ 60 := Nat.pow_le_pow_right (by decide) (by omega)
                have := Nat.mul_le_mul h1 h2
                omega
              have HOR : Hid (bits .or .u64 (x : Int) (IntKind.u64.wrap (bw (B t) * 2 ^ k)) = ((x ||| (B t).toNat * 2 ^ k : Nat) : Int)) := Lib.hid (by rw [hsh]; exact bits_or_u64_nat x _ hxl hm64)
              obtain ⟨y, hy⟩ : ∃ y, x ||| (B t).toNat * 2 ^ k = y := ⟨_, rfl⟩
              rw [hy] at HOR hlow hro
              obtain ⟨u', hue⟩ : ∃ u, bw (B t) = u := ⟨_, rfl⟩
              rw [hue] at p2 HOR hu
              obtain ⟨u0', u1'⟩ := hu
              have HRO := Lib.hid hro.symm
              have hy64 : y < 18446744073709551616 := by have := HP60.out; omega
              clear hsh hlow hro hm64 hy hue ht
              go_wp2
              go_roundg (n - (k + 1))
              case measure => have := hm2.out; omega
              case rel => exact ⟨k + 1, y, by omega, hy64, congrArg (Value.int .u64) HOR.out, by go_num, HRO, Lib.hid rfl, rfl⟩
            · have e : n = k := by omega
              subst e
              have hxk := ro_lt B n i n (by omega)
              rw [← hxr.out] at hxk
              have HEQ : Hid (IsEq B n i x) := Lib.hid (by rw [hxr.out]; exact ro_eq B n i)
              have HXK := Lib.hid hxk
              obtain ⟨a2, c2, rfl, hcap, hrd⟩ := hRow.out.hands (rl_length P)
              have HGD := Lib.hid hHg.out.good
              clear hxk hxr hm2
              rename World => wy
              go_wp2
              go_loopg [7, 49] P.length (fun m v7 v49 wr => ∃ t y : Nat, t ≤ P.length ∧ y < 18446744073709551616 ∧ v7 = .int .u64 (y : Int) ∧ v49 = .int .i64 (t : Int) ∧ Hid (y = rd (P.take t) x) ∧ Hid (m = P.length - t) ∧ Ex wy wr)
              case atStart => exact ⟨0, x, by omega, hxl, rfl, rfl, Lib.hid rfl, Lib.hid rfl, Ex.refl _⟩
              case round =>
                obtain ⟨t, y, htP, hyl, rfl, rfl, hyr, hm3, hx3⟩ := hrel
                by_cases htt : t < P.length
                · rcases hrd.out with h0 | ⟨gR, oR, rfl, hcR⟩
                  · have := congrArg List.length h0
                    rw [rl_length] at this
                    exact absurd htt (by rw [this]; exact Nat.not_lt_zero _)
                  have p3 := hx3.cell (hcR t (by rw [rl_length]; exact htt))
                  rw [rl_nth htt] at p3
                  have hmem : P[t] ∈ P := List.getElem_mem _
                  have hLow := HGD.out.low _ hmem
                  have hsm := HGD.out.small _ hmem
                  have hst := rd_take htt x
                  rw [← hyr.out] at hst
                  obtain ⟨r, hr⟩ : ∃ r, P[t].1 = r := ⟨_, rfl⟩
                  obtain ⟨q, hq⟩ : ∃ q, P[t].2 = q := ⟨_, rfl⟩
                  rw [hr] at p3 hLow hsm hst
                  rw [hq] at hLow hst
                  have hr64 : r < 18446744073709551616 := by have := HP60.out; omega
                  have HLO := Lib.hid fun w => lowest_any r q w hLow hr64
                  have hq64 := (low_and hLow hr64).2
                  have hpq : 2 ^ q ≤ 2 ^ 63 := Nat.pow_le_pow_right (by decide) (by omega)
                  have hpq0 : 0 < 2 ^ q := Nat.pow_pos (by decide)
                  have hand := bits_and_u64_nat y (2 ^ q) hyl (by omega)
                  rw [and_pow] at hand
                  have hxo := xor_u64_nat y r hyl hr64
                  have hxl2 : y ^^^ r < 2 ^ 64 := Nat.xor_lt_two_pow hyl hr64
                  clear hcR hmem hLow hsm hr hq hq64
                  cases hb : y.testBit q
                  · rw [hb] at hst hand
                    have HST : Hid (y = rd (P.take (t + 1)) x) := Lib.hid hst.symm
                    rw [if_neg (by simp)] at hand
                    generalize 2 ^ q = Q at HLO hand hpq hpq0
                    clear hst hxo hxl2 hb
                    go_wp2_with (go_at_call 24; (with_reducible refine (HLO.out _).mono ?_); rintro e w7 ⟨rfl, hw7⟩)
                    go_roundg (P.length - (t + 1))
                    case measure => have := hm3.out; omega
                    case rel => exact ⟨t + 1, y, by omega, hyl, rfl, by go_num, HST, Lib.hid rfl, hx3.trans hw7⟩
                  · rw [hb] at hst hand
                    have HST : Hid (y ^^^ r = rd (P.take (t + 1)) x) := Lib.hid hst.symm
                    rw [if_pos rfl] at hand
                    obtain ⟨y2, hy2⟩ : ∃ y2, y ^^^ r = y2 := ⟨_, rfl⟩
                    rw [hy2] at HST hxo hxl2
                    generalize 2 ^ q = Q at HLO hand hpq hpq0
                    have hQ : ((Q : Int) == 0) = false := beq_eq_false_iff_ne.mpr (by omega)
                    clear hst hb hy2
                    go_wp2_with (go_at_call 24; (with_reducible refine (HLO.out _).mono ?_); rintro e w7 ⟨rfl, hw7⟩)
                    go_roundg (P.length - (t + 1))
                    case measure => have := hm3.out; omega
                    case rel => exact ⟨t + 1, y2, by omega, hxl2, by first | rfl | (exact congrArg (Value.int .u64) hxo), by go_num, HST, Lib.hid rfl, hx3.trans hw7⟩
                · have hy : y = rd P x := by rw [hyr.out, show t = P.length by omega, List.take_length]
                  have hys : y < 2 ^ (n + 1) := by rw [hy]; exact rd_small P x HGD.out HXK.out
                  have hsh : IntKind.u64.wrap ((2 : Int) ^ n) = ((2 ^ n : Nat) : Int) := by
                    have := shl_bit true n (by omega)
                    rw [Bool.toNat_true, Nat.one_mul] at this
                    rw [← this]
                    show _ = IntKind.u64.wrap ((1 : Int) * 2 ^ n)
                    rw [Int.one_mul]
                  have g0 : decide ((t : Int) < (P.length : Int)) = false := decide_eq_false (by omega)
                  have HXY := Lib.hid (HX2.out.trans hx3)
                  have HRY : Hid (Row 44 .u64 wr w.heap.size (.slice a2 P.length c2) (rl P)) := Lib.hid (hRow.out.ex hx3)
                  by_cases hy0 : y = 0
                  · have HH : Hid (Hang B n (i + 1) P) := Lib.hid (hHg.out.stay hni HEQ.out (by rw [← hy, hy0]))
                    subst hy0
                    have hp0 : 0 < 2 ^ n := Nat.pow_pos (by decide)
                    generalize 2 ^ n = Z at hsh hp0
                    have g1 : (((0 : Nat) : Int) == (Z : Int)) = false := beq_eq_false_iff_ne.mpr (by omega)
                    have g1' : ((0 : Int) == (Z : Int)) = false := g1
                    clear hy hys hyr hp0
                    go_wp2
                    go_roundg (L - (i + 1))
                    case measure => have := hm.out; omega
                    case rel => exact ⟨i + 1, P, ok, _, by omega, by omega, by omega, rfl, rfl, by go_num, HRY, hok, HH, Lib.hid rfl, HXY.out⟩
                  · obtain ⟨q, _, hLow⟩ := low_some hy0 hys
                    have HH : Hid (Hang B n (i + 1) (P ++ [(y, q)])) := Lib.hid (by
                      have := hHg.out.snoc (p := q) hni HEQ.out (by rw [← hy]; exact hLow)
                      rwa [← hy] at this)
                    have hne0 : ((y : Int) == 0) = false := beq_eq_false_iff_ne.mpr (by omega)
                    have HSN := Lib.hid (rl_snoc P y q)
                    have HPL : Hid ((P ++ [(y, q)]).length ≤ i + 1) := Lib.hid (by rw [List.length_append]; simp; omega)
                    have c1 := box_one wr (.int .u64 (y : Int)) 44
                    have HXw := Lib.hid (HXY.out.alloc (.cells #[.int .u64 (y : Int)] 44))
                    have HRA := Lib.hid (HRY.out.ex ((Ex.refl wr).alloc (.cells #[.int .u64 (y : Int)] 44)))
                    have hll := rl_length P
                    by_cases hyn : y = 2 ^ n
                    · have HOK : Hid (false = true ↔ ∀ e ∈ P ++ [(y, q)], e.1 ≠ 2 ^ n) := Lib.hid ⟨fun h => (by cases h), fun h => absurd hyn (h (y, q) (by simp))⟩
                      rw [← hyn] at hsh
                      clear hy hys hyr hLow hyn
                      go_wp2_with (at_builtin; refine wpList_append_int rfl _ _ 43 rfl w.heap.size 44 .u64 8 Try.underlying43 info_u64 _ (rl P) rfl HRA.out (y : Int) wr.heap.size rfl c1 (by unfold maxLen; omega) (by omega) HXw.out.size ?_
                                   intro v1 w4 hown4 hgrow4 hat4
                                   have HX4 := Lib.hid (HRA.out.grown HXw.out hgrow4)
                                   rw [← HSN.out] at hown4
                                   have HR4 := Lib.hid hown4
                                   clear hown4 hgrow4 hat4 c1)
                      go_roundg (L - (i + 1))
                      case measure => have := hm.out; omega
                      case rel => exact ⟨i + 1, P ++ [(y, q)], false, _, by omega, by omega, HPL.out, rfl, rfl, by go_num, HR4, HOK, HH, Lib.hid rfl, HX4.out⟩
                    · have HOK : Hid (ok = true ↔ ∀ e ∈ P ++ [(y, q)], e.1 ≠ 2 ^ n) := Lib.hid ⟨fun h e he => by
                        rcases List.mem_append.mp he with h1 | h1
                        · exact hok.out.mp h e h1
                        · rw [List.mem_singleton.mp h1]; exact hyn, fun h => hok.out.mpr fun e he => h e (List.mem_append_left _ he)⟩
                      generalize 2 ^ n = Z at hsh hyn
                      have g1 : ((y : Int) == (Z : Int)) = false := beq_eq_false_iff_ne.mpr (by omega)
                      clear hy hys hyr hLow hyn
                      go_wp2_with (at_builtin; refine wpList_append_int rfl _ _ 43 rfl w.heap.size 44 .u64 8 Try.underlying43 info_u64 _ (rl P) rfl HRA.out (y : Int) wr.heap.size rfl c1 (by unfold maxLen; omega) (by omega) HXw.out.size ?_
                                   intro v1 w4 hown4 hgrow4 hat4
                                   have HX4 := Lib.hid (HRA.out.grown HXw.out hgrow4)
                                   rw [← HSN.out] at hown4
                                   have HR4 := Lib.hid hown4
                                   clear hown4 hgrow4 hat4 c1)
                      go_roundg (L - (i + 1))
                      case measure => have := hm.out; omega
                      case rel => exact ⟨i + 1, P ++ [(y, q)], ok, _, by omega, by omega, HPL.out, rfl, rfl, by go_num, HR4, HOK, HH, Lib.hid rfl, HX4.out⟩
        · have e : L = i := by omega
          have HD := hHg.out.done
          rw [← e] at HD
          have g0 : decide ((i : Int) < (L : Int)) = false := decide_eq_false (by omega)
          cases ok
          · have hnM2 : n ≠ M := fun e2 => by
              obtain ⟨q, hq⟩ := HEX.out
              have := hok.out.mpr (HD.mp ⟨q, by rw [e2]; exact hq⟩)
              cases this
            clear HD e
            go_wp2
            go_roundg (L - (n + 1))
            case measure => have := hk.out; omega
            case rel => exact ⟨n + 1, by omega, by omega, by go_num, Lib.hid rfl, hx⟩
          · obtain ⟨q, hq⟩ := HD.mpr (hok.out.mp rfl)
            have hnM2 : M = n := by have := HMIN.out n q hq; omega
            subst hnM2
            clear HD e hq
            go_wp2
            go_ret
            exact ⟨rfl, hx⟩
    · have e : M = L := by omega
      subst e
      have g0 : decide ((n : Int) < (M : Int)) = false := decide_eq_false (by omega)
      go_wp2
      go_ret
      exact ⟨rfl, hx⟩

end Go.Proofs.Ytebijjigjlcjdaa
