/-
  Bits in memory; what package massey answers, as a structure of contracts; wholeref.BitsErr, Makes.
-/
import Derived.Test.YtebijjigjlcjdaaMyHang
import Derived.Test.YtebijjigjlcjdaaGgd
import Derived.Test.YtebijjigjlcjdaaGro
import Derived.Test.YtebijjigjlcjdaaGrb
namespace Go.Proofs.Ytebijjigjlcjdaa
open Go.RowKit
open My

namespace My
/-- A bit as a number. -/
def bw (b : Bool) : Int := if b then 1 else 0
theorem bw_two (b : Bool) : 0 ≤ bw b ∧ bw b ≤ 1 := by cases b <;> decide
theorem bw_inj {a b : Bool} (h : bw a = bw b) : a = b := by cases a <;> cases b <;> first | rfl | (exact absurd h (by decide))
/-- Bytes as bits. -/
def bf (z : List Int) (i : Nat) : Bool := decide (nth z i = 1)
theorem bw_bf {z : List Int} {i : Nat} (h0 : 0 ≤ nth z i) (h1 : nth z i ≤ 1) : nth z i = bw (bf z i) := by
  unfold bf
  rcases (show nth z i = 0 ∨ nth z i = 1 by omega) with e | e <;> rw [e] <;> rfl
/-- The error of Check. -/
def myE (z : List Int) : Int := if 60 < z.length then 2 else if anyP (fun i => decide (1 < nth z i)) z.length then 1 else 0
theorem myE_zero {z : List Int} : myE z = 0 ↔ z.length ≤ 60 ∧ ∀ i, i < z.length → nth z i ≤ 1 := by
  unfold myE
  by_cases h : 60 < z.length
  · rw [if_pos h]; exact ⟨fun h => (by cases h), fun h => by omega⟩
  · rw [if_neg h]
    by_cases h2 : anyP (fun i => decide (1 < nth z i)) z.length = true
    · rw [if_pos h2]
      obtain ⟨k, hk, hp⟩ := anyP_iff.mp h2
      exact ⟨fun h => (by cases h), fun h3 => by have := h3.2 k hk; have := of_decide_eq_true hp; omega⟩
    · rw [if_neg h2]
      refine ⟨fun _ => ⟨by omega, fun i hi => ?_⟩, fun _ => rfl⟩
      refine Int.not_lt.mp fun hc => h2 (anyP_yes hi (decide_eq_true hc))
theorem myE_three (z : List Int) : (myE z = 0) ∨ (60 < z.length ∧ myE z = 2) ∨ (z.length ≤ 60 ∧ myE z = 1) := by
  unfold myE
  by_cases h : 60 < z.length
  · rw [if_pos h]; exact .inr (.inl ⟨h, rfl⟩)
  · rw [if_neg h]
    by_cases h2 : anyP (fun i => decide (1 < nth z i)) z.length = true
    · rw [if_pos h2]; exact .inr (.inr ⟨by omega, rfl⟩)
    · rw [if_neg h2]; exact .inl rfl
theorem and_bw (a b : Bool) : bits .and .u8 (bw a) (bw b) = bw (a && b) := by cases a <;> cases b <;> decide +kernel
theorem xor_bw (a b : Bool) : bits .xor .u8 (bw a) (bw b) = bw (xor a b) := by cases a <;> cases b <;> decide +kernel
theorem step_bw (x a b : Bool) : bits .xor .u8 (bw x) (bits .and .u8 (bw a) (bw b)) = bw (xor (a && b) x) := by rw [and_bw, xor_bw, Bool.xor_comm]
theorem Gen.full (s r : Nat → Bool) (n : Nat) : Gen s r n n := fun i h1 h2 => by omega
/-- Bits that are one below n make the same of rules. -/
theorem nx_congr {s t r q : Nat → Bool} {L i n : Nat} (hL : L ≤ i) (hi : i ≤ n) (h : ∀ k, k < n → s k = t k) (hr : ∀ k, k < L → r k = q k) : nx s r L i = nx t q L i := by
  unfold nx
  exact xs_congr L fun k hk => by rw [hr k hk, h (i - 1 - k) (by omega)]
theorem Gen.congr {s t r q : Nat → Bool} {L n : Nat} (h : ∀ k, k < n → s k = t k) (hr : ∀ k, k < L → r k = q k) (hG : Gen s r L n) : Gen t q L n := fun i h1 h2 => by
  rw [← h i h2, hG i h1 h2]
  exact nx_congr h1 (by omega) h hr
end My

/-- The slice at a holds these bits, n of them. -/
def ReadsB (w : World) (a : Option Addr) (n : Nat) (B : Nat → Bool) : Prop := n = 0 ∨ ∃ b off, a = some ⟨b, off, none⟩ ∧ ∀ i, i < n → w.cell? ⟨b, off + i, none⟩ = some (.int .u8 (bw (B i)))
theorem ReadsB.ex {w w2 : World} {a : Option Addr} {n : Nat} {B : Nat → Bool} (h : ReadsB w a n B) (hx : Ex w w2) : ReadsB w2 a n B := by
  rcases h with h | ⟨b, off, h1, h2⟩
  · exact .inl h
  · exact .inr ⟨b, off, h1, fun i hi => hx.cell (h2 i hi)⟩
theorem ReadsB.congr {w : World} {a : Option Addr} {n : Nat} {B C : Nat → Bool} (h : ReadsB w a n B) (he : ∀ i, i < n → B i = C i) : ReadsB w a n C := by
  rcases h with h | ⟨b, off, h1, h2⟩
  · exact .inl h
  · exact .inr ⟨b, off, h1, fun i hi => by rw [← he i hi]; exact h2 i hi⟩
theorem ReadsB.less {w : World} {a : Option Addr} {n m : Nat} {B : Nat → Bool} (h : ReadsB w a n B) (hm : m ≤ n) : ReadsB w a m B := by
  rcases h with h | ⟨b, off, h1, h2⟩
  · exact .inl (by omega)
  · exact .inr ⟨b, off, h1, fun i hi => h2 i (by omega)⟩
theorem ReadsB.of {w : World} {a : Option Addr} {n : Nat} {z : List Int} (h : Reads w .u8 a z) (hn : z.length = n) (hb : ∀ i, i < n → 0 ≤ nth z i ∧ nth z i ≤ 1) : ReadsB w a n (bf z) := by
  rcases h with h | ⟨b, off, h1, h2⟩
  · exact .inl (by rw [← hn, h]; rfl)
  · exact .inr ⟨b, off, h1, fun i hi => by rw [h2 i (by omega), bw_bf (hb i hi).1 (hb i hi).2]⟩
theorem ReadsB.fl {w : World} {a : Option Addr} {n : Nat} {B : Nat → Bool} (h : Reads w .u8 a (fl n fun t => bw (B t))) : ReadsB w a n B := by
  rcases h with h | ⟨b, off, h1, h2⟩
  · have := congrArg List.length h
    rw [fl_length] at this
    exact .inl this
  · exact .inr ⟨b, off, h1, fun i hi => by rw [h2 i (by rw [fl_length]; exact hi), fl_nth hi]⟩
theorem ReadsB.reads {w : World} {a : Option Addr} {n : Nat} {B : Nat → Bool} (h : ReadsB w a n B) : Reads w .u8 a (Go.Proofs.Ytebijjigjlcjdaa.fl n fun t => bw (B t)) := by
  rcases h with rfl | ⟨b, off, h1, h2⟩
  · exact .inl rfl
  · exact .inr ⟨b, off, h1, fun i hi => by rw [fl_length] at hi; rw [h2 i hi, fl_nth hi]⟩
/-- Bits that came in. -/
theorem IsInts.bits {w : World} {a : Option Addr} {la ca : Nat} {z : List Int} (h : IsInts .u8 1 w a la ca z) (h0 : myE z = 0) : la ≤ 60 ∧ ReadsB w a la (bf z) := by
  obtain ⟨e1, _, _, e4, _, e6⟩ := h
  obtain ⟨h1, h2⟩ := myE_zero.mp h0
  refine ⟨by omega, ReadsB.of e4 e1 fun i hi => ⟨?_, h2 i (by omega)⟩⟩
  exact (wf_u8 (e6 _ (nth_mem (show i < z.length by omega)))).1

/-- The rule that is told of some bits. -/
def RuleOf (B : Nat → Bool) (L : Nat) (w : World) (e : Ending) (w2 : World) : Prop :=
  ∃ (M : Nat) (R : Nat → Bool) (a2 : Option Addr) (c2 : Nat), e = .returned (.tuple #[.slice a2 M c2, .int .i64 0]) ∧ Hid (M ≤ c2 ∧ c2 ≤ 9223372036854775807) ∧ Hid (ReadsB w2 a2 M R) ∧ Hid (Gen B R M L) ∧ Hid (∀ N q, Gen B q N L → M ≤ N) ∧ Ex w w2

/-- The error of Next. -/
def nxE (z y : List Int) : Int := if myE z ≠ 0 then myE z else if myE y ≠ 0 then myE y else if z.length < y.length then 7 else 0
theorem nxE_zero {z y : List Int} : nxE z y = 0 ↔ myE z = 0 ∧ myE y = 0 ∧ y.length ≤ z.length := by
  unfold nxE
  by_cases h : myE z ≠ 0
  · rw [if_pos h]; exact ⟨fun h2 => absurd h2 h, fun h2 => absurd h2.1 h⟩
  · rw [if_neg h]
    by_cases h2 : myE y ≠ 0
    · rw [if_pos h2]; exact ⟨fun h3 => absurd h3 h2, fun h3 => absurd h3.2.1 h2⟩
    · rw [if_neg h2]
      by_cases h3 : z.length < y.length
      · rw [if_pos h3]; exact ⟨fun h => (by cases h), fun h => by omega⟩
      · rw [if_neg h3]; exact ⟨fun _ => ⟨by simpa using h, by simpa using h2, by omega⟩, fun _ => rfl⟩

structure MyRuleC : Prop where
  no : ∀ {z : List Int} {a : Option Addr} {la ca : Nat} {w : World}, IsInts .u8 1 w a la ca z → myE z ≠ 0 → Calls Try.prog 8 #[.slice a la ca] w (Nil2 (myE z) w)
  ok : ∀ {B : Nat → Bool} {a : Option Addr} {L ca : Nat} {w : World}, L ≤ 60 → L ≤ ca → ca ≤ 9223372036854775807 → ReadsB w a L B → Calls Try.prog 8 #[.slice a L ca] w (RuleOf B L w)

structure MyNextC : Prop where
  no : ∀ {z y : List Int} {a b : Option Addr} {la ca lb cb : Nat} {w : World}, IsInts .u8 1 w a la ca z → IsInts .u8 1 w b lb cb y → nxE z y ≠ 0 → Calls Try.prog 7 #[.slice a la ca, .slice b lb cb] w (Says (.tuple #[.int .u8 0, .int .i64 (nxE z y)]) w)
  ok : ∀ {B R : Nat → Bool} {a b : Option Addr} {L ca M cb : Nat} {w : World}, L ≤ 60 → L ≤ ca → ca ≤ 9223372036854775807 → M ≤ L → M ≤ cb → cb ≤ 9223372036854775807 → ReadsB w a L B → ReadsB w b M R → Calls Try.prog 7 #[.slice a L ca, .slice b M cb] w (Says (.tuple #[.int .u8 (bw (nx B R M L)), .int .i64 0]) w)

structure MyCheckC : Prop where
  all : ∀ {z : List Int} {a : Option Addr} {la ca : Nat} {w : World}, IsInts .u8 1 w a la ca z → Calls Try.prog 10 #[.slice a la ca] w (Says (.int .i64 (myE z)) w)

theorem gt1_any (x : Int) (w : World) : Calls Try.prog 23 #[.int .u8 x] w (Says (.bool (decide (1 < x))) w) := by
  go_enter Try.func23, Try.ntmps23
  go_wp2
  go_ret
  exact .same

theorem entered_gt1 : Entered Try.prog 23 := fun _ _ => by kernel_rfl

theorem bitsErr_any (z : List Int) (a : Option Addr) (la ca : Nat) (w : World) (h1 : z.length = la) (hl : la ≤ maxLen) (hr : Reads w .u8 a z) : Calls Try.prog 9 #[.slice a la ca] w (Says (.int .i64 (myE z)) w) := by
  have HCF : Hid (∀ w2, Ex w w2 → Calls Try.prog 22 #[.slice a la ca, .func (.func 23) #[] #[]] w2 (Says (.bool (anyP (fun i => decide (1 < nth z i)) la)) w2)) := Lib.hid fun w2 k => by
    refine byts_contains 23 #[] (fun i => decide (1 < nth z i)) (fun i => .int .u8 (nth z i)) la a ca w2 hl ?_ entered_gt1 fun i hi w6 k6 => gt1_any _ w6
    rcases hr.ex k with h | ⟨b, off, h2, h3⟩
    · exact .inl (by rw [← h1, h]; rfl)
    · exact .inr ⟨b, off, h2, fun i hi => h3 i (by omega)⟩
  unfold myE
  rw [h1]
  have hl' : la ≤ 9223372036854775807 := by unfold maxLen at hl; omega
  clear hr h1 hl
  by_cases h60 : 60 < la
  · rw [if_pos h60]
    clear HCF
    go_enter Try.func9, Try.ntmps9
    go_wp2
    go_ret
    exact .same
  · rw [if_neg h60]
    cases hp : anyP (fun i => decide (1 < nth z i)) la
    · rw [hp] at HCF
      go_enter Try.func9, Try.ntmps9
      go_wp2_with (go_at_call 22; (with_reducible refine (HCF.out _ (Ex.refl _)).mono ?_); rintro e w2 ⟨rfl, hw2⟩)
      go_ret
      exact ⟨rfl, hw2⟩
    · rw [hp] at HCF
      go_enter Try.func9, Try.ntmps9
      go_wp2_with (go_at_call 22; (with_reducible refine (HCF.out _ (Ex.refl _)).mono ?_); rintro e w2 ⟨rfl, hw2⟩)
      go_ret
      exact ⟨rfl, hw2⟩

set_option maxHeartbeats 2000000 in
theorem makes_any (B R : Nat → Bool) (L M : Nat) (a b : Option Addr) (ca cb : Nat) (w : World) (hL : L ≤ 1000) (hM : M ≤ 1000) (ha : ReadsB w a L B) (hb : ReadsB w b M R) (r : Bool) (hr : r = true ↔ Gen B R M L) :
    Calls Try.prog 12 #[.slice a L ca, .slice b M cb] w (Says (.bool r) w) := by
  have HR : Hid (r = true ↔ Gen B R M L) := Lib.hid hr
  have HA := Lib.hid ha
  have HB := Lib.hid hb
  clear hr ha hb
  go_enter Try.func12, Try.ntmps12
  go_wp2
  go_loopg [5] (L - M) (fun k v5 wr => ∃ i : Nat, M ≤ i ∧ (i ≤ L ∨ i = M) ∧ v5 = .int .i64 (i : Int) ∧ Hid (Gen B R M i) ∧ Hid (k = L - i) ∧ Ex w wr)
  case atStart => exact ⟨M, Nat.le_refl _, .inr rfl, rfl, Lib.hid (Gen.full _ _ _), Lib.hid rfl, Ex.refl _⟩
  case round =>
    obtain ⟨i, hMi, hi, rfl, hG, hk, hx⟩ := hrel
    by_cases hlt : i < L
    · rcases HA.out with h0 | ⟨gA, oA, rfl, hA⟩
      · exact absurd hlt (by omega)
      have HA2 := Lib.hid fun j hj => hx.cell (hA j hj)
      have HB2 := Lib.hid (HB.out.ex hx)
      have HX := Lib.hid hx
      rename World => wo
      have pI := HA2.out i hlt
      clear hA hx
      go_wp2
      go_loopg [6, 19] M (fun m v6 v19 wr => ∃ (j : Nat) (x : Bool), j ≤ M ∧ v6 = .int .u8 (bw x) ∧ v19 = .int .i64 (j : Int) ∧ Hid (x = xs (fun t => R t && B (i - 1 - t)) j) ∧ Hid (m = M - j) ∧ wo = wr)
      case atStart => exact ⟨0, false, by omega, rfl, rfl, Lib.hid rfl, Lib.hid rfl, rfl⟩
      case round =>
        obtain ⟨j, x, hj, rfl, rfl, hxs, hm, rfl⟩ := hrel
        by_cases hjt : j < M
        · rcases HB2.out with h0 | ⟨gB, oB, rfl, hB⟩
          · exact absurd hjt (by omega)
          have p1 := hB j hjt
          obtain ⟨t, ht⟩ : ∃ t, i - 1 - j = t := ⟨_, rfl⟩
          have p2 := HA2.out t (by omega)
          have ht2 : (i : Int) - 1 - (j : Int) = (t : Int) := by omega
          have hst := step_bw x (R j) (B t)
          have HXS : Hid (xor (R j && B t) x = xs (fun t => R t && B (i - 1 - t)) (j + 1)) := Lib.hid (by rw [xs, hxs.out, ht])
          obtain ⟨y, hy⟩ : ∃ y, xor (R j && B t) x = y := ⟨_, rfl⟩
          rw [hy] at hst HXS
          have HST := Lib.hid hst
          obtain ⟨u, hu⟩ : ∃ u, bw (R j) = u := ⟨_, rfl⟩
          obtain ⟨v, hv⟩ : ∃ v, bw (B t) = v := ⟨_, rfl⟩
          rw [hu] at p1 HST
          rw [hv] at p2 HST
          clear hB hst hy hu hv ht
          go_wp2
          go_roundg (M - (j + 1))
          case measure => have := hm.out; omega
          case rel => exact ⟨j + 1, y, by omega, by first | rfl | (exact congrArg (Value.int .u8) HST.out), by go_num, HXS, Lib.hid rfl, rfl⟩
        · have e : j = M := by omega
          subst e
          have hnx : x = nx B R j i := hxs.out
          by_cases he : x = B i
          · have hq : (bw x == bw (B i)) = true := by rw [he]; exact beq_self_eq_true _
            have HG2 : Hid (Gen B R j (i + 1)) := Lib.hid (hG.out.next fun _ => by rw [← he]; exact hnx)
            clear hnx he hxs
            go_wp2
            go_roundg (L - (i + 1))
            case measure => have := hk.out; omega
            case rel => exact ⟨i + 1, by omega, .inl (by omega), by go_num, HG2, Lib.hid rfl, HX.out⟩
          · have hq : (bw x == bw (B i)) = false := beq_eq_false_iff_ne.mpr fun h => he (bw_inj h)
            have hrf : r = false := by
              cases hc : r
              · rfl
              · exact absurd (by rw [hnx]; exact (HR.out.mp hc i hMi hlt).symm) he
            subst hrf
            clear hnx he hxs
            go_wp2
            go_ret
            exact ⟨rfl, HX.out⟩
    · have hrt : r = true := HR.out.mpr (hG.out.less (by omega))
      subst hrt
      have g1 : decide ((i : Int) < (L : Int)) = false := decide_eq_false (by omega)
      go_wp2
      go_ret
      exact ⟨rfl, hx⟩

end Go.Proofs.Ytebijjigjlcjdaa
