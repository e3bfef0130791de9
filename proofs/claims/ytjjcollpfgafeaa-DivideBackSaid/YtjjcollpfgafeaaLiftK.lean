/-
  DivideBack, DivideLifts, walked.
-/
import Derived.Test.YtjjcollpfgafeaaLiftW
import Derived.Test.YtjjcollpfgafeaaEqual
import Derived.Test.YtjjcollpfgafeaaDvRef
import Derived.Test.YtjjcollpfgafeaaDvKeep
import Derived.Test.YtjjcollpfgafeaaOpen
namespace Go.Proofs.Ytjjcollpfgafeaa
open Go.RowKit
open Eu Pr Rs Dd

theorem lift_reads (f : List Int) (a : Option Addr) (cap : Nat) (w : World) (hr : Reads w .i64 a f) (h : dchk f = 0) :
    Calls Try.prog 19 #[.slice a f.length cap] w (fun e w2 => ∃ a2 cap2, e = .returned (.tuple #[.slice a2 f.length cap2, .int .i64 0]) ∧ Hid (Reads w2 .i64 a2 (liftL f)) ∧ Hid (a2 = none → cap2 = 0) ∧ Ex w w2) := by
  refine (lift_of f a cap w hr h).mono ?_
  rintro e w2 ⟨v, rfl, hrow, hx⟩
  obtain ⟨a2, cap2, rfl, _, hr2, hn⟩ := hrow.out.reads
  exact ⟨a2, cap2, by rw [liftL_length], Lib.hid hr2, Lib.hid hn, hx⟩

theorem lower_reads (f : List Int) (a : Option Addr) (cap : Nat) (w : World) (hr : Reads w .i64 a f) (hnil : a = none → cap = 0) (h : dchk f = 0) :
    Calls Try.prog 20 #[.slice a f.length cap] w (fun e w2 => ∃ a2 cap2, e = .returned (.tuple #[.slice a2 f.length cap2, .int .i64 0]) ∧ Hid (Reads w2 .i64 a2 (lowerL f)) ∧ Hid (a2 = none → cap2 = 0) ∧ Ex w w2) := by
  refine (lower_of f a cap w hr hnil h).mono ?_
  rintro e w2 ⟨v, rfl, hrow, hx⟩
  obtain ⟨a2, cap2, rfl, _, hr2, hn⟩ := hrow.out.reads
  exact ⟨a2, cap2, by rw [lowerL_length], Lib.hid hr2, Lib.hid hn, hx⟩

theorem dchk_one {f : List Int} (h : f.length ≤ 60) (h0 : dchk f ≠ 0) : dchk f = 1 := by
  unfold dchk at *
  rw [if_neg (by omega)] at *
  split
  · rfl
  · rename_i h1
    rw [if_neg h1] at h0
    exact absurd rfl h0

theorem lift_1234 : liftL [1, 2, 3, 4] = [1, 3, 4, 7] := by decide

theorem lift_at1234 (w : World) : Calls Try.prog 19 #[.slice (some ⟨w.heap.size, 0, none⟩) 4 4] (w.alloc (.cells #[.int .i64 1, .int .i64 2, .int .i64 3, .int .i64 4] 3))
    (fun e w2 => ∃ a2 cap2, e = .returned (.tuple #[.slice a2 4 cap2, .int .i64 0]) ∧ Hid (Reads w2 .i64 a2 [1, 3, 4, 7]) ∧ Ex (w.alloc (.cells #[.int .i64 1, .int .i64 2, .int .i64 3, .int .i64 4] 3)) w2) := by
  refine (lift_reads [1, 2, 3, 4] _ 4 _ (reads_new .i64 [1, 2, 3, 4] _ rfl _ _) (by decide)).mono ?_
  rintro e w2 ⟨a2, cap2, rfl, hr, _, hx⟩
  rw [lift_1234] at hr
  exact ⟨a2, cap2, rfl, hr, hx⟩

theorem equal_same (f : List Int) (hl : f.length ≤ maxLen) (w : World) (a b : Option Addr) (ca cb : Nat) (h1 : Reads w .i64 a f) (h2 : Reads w .i64 b f) :
    Calls Try.prog 15 #[.slice a f.length ca, .slice b f.length cb] w (Says (.bool true) w) :=
  ints_equal f f a b ca cb w hl hl h1 h2 true (by simp)

set_option maxRecDepth 100000 in
set_option maxHeartbeats 4000000 in
theorem divideBack_walk (a : Option Addr) (len cap : Nat) (z : List Int) (w : World) (h : IsInts .i64 8 w a len cap z) : Calls Try.prog 9 #[.slice a len cap] w (Says (.bool true) w) := by
  obtain ⟨hlen, hle, hcap, hr, hnil, _⟩ := h
  have hm : z.length ≤ maxLen := by unfold maxLen; omega
  have H12 := Lib.hid lift_at1234
  have HE4 : Hid (∀ (w : World) (a b : Option Addr) (ca cb : Nat), Reads w .i64 a [1, 3, 4, 7] → Reads w .i64 b [1, 3, 4, 7] → Calls Try.prog 15 #[.slice a 4 ca, .slice b 4 cb] w (Says (.bool true) w)) := Lib.hid (equal_same [1, 3, 4, 7] (by decide))
  by_cases h0 : dchk z = 0
  · have HA := Lib.hid fun w2 (hx : Ex w w2) => lift_reads z a cap w2 (hr.ex hx) h0
    have HB := Lib.hid fun w2 (hx : Ex w w2) => lower_reads z a cap w2 (hr.ex hx) hnil h0
    have HEZ := Lib.hid (equal_same z hm)
    have HZ := Lib.hid fun w2 (hx : Ex w w2) => hr.ex hx
    have h60 := (dchk_zero.mp h0).1
    have hnl : ∀ (w2 : World) (b : Option Addr) (d : Nat) (c : Int), dchk (liftL z) = c → c ≠ 0 → Reads w2 .i64 b (liftL z) → Calls Try.prog 20 #[.slice b z.length d] w2 (Says (.tuple #[.slice none 0 0, .int .i64 1]) w2) := fun w2 b d c h1 h2 h3 => by
      have := lower_no (liftL z) b d w2 (by rw [liftL_length]; exact hm) h3 (by rw [h1]; exact h2)
      rw [dchk_one (by rw [liftL_length]; exact h60) (by rw [h1]; exact h2), liftL_length] at this
      exact this
    have hnu : ∀ (w2 : World) (b : Option Addr) (d : Nat) (c : Int), dchk (lowerL z) = c → c ≠ 0 → Reads w2 .i64 b (lowerL z) → Calls Try.prog 19 #[.slice b z.length d] w2 (Says (.tuple #[.slice none 0 0, .int .i64 1]) w2) := fun w2 b d c h1 h2 h3 => by
      have := lift_no (lowerL z) b d w2 (by rw [lowerL_length]; exact hm) h3 (by rw [h1]; exact h2)
      rw [dchk_one (by rw [lowerL_length]; exact h60) (by rw [h1]; exact h2), lowerL_length] at this
      exact this
    have hyl : dchk (liftL z) = 0 → ∀ (w2 : World) (b : Option Addr) (d : Nat), (b = none → d = 0) → Reads w2 .i64 b (liftL z) →
        Calls Try.prog 20 #[.slice b z.length d] w2 (fun e w3 => ∃ a2 cap2, e = .returned (.tuple #[.slice a2 z.length cap2, .int .i64 0]) ∧ Hid (Reads w3 .i64 a2 z) ∧ Ex w2 w3) := fun h1 w2 b d hn h3 => by
      have := lower_reads (liftL z) b d w2 h3 hn h1
      rw [lower_lift, liftL_length] at this
      exact this.mono fun e w3 ⟨a2, c2, h, h4, _, h5⟩ => ⟨a2, c2, h, h4, h5⟩
    have hyu : dchk (lowerL z) = 0 → ∀ (w2 : World) (b : Option Addr) (d : Nat), Reads w2 .i64 b (lowerL z) →
        Calls Try.prog 19 #[.slice b z.length d] w2 (fun e w3 => ∃ a2 cap2, e = .returned (.tuple #[.slice a2 z.length cap2, .int .i64 0]) ∧ Hid (Reads w3 .i64 a2 z) ∧ Ex w2 w3) := fun h1 w2 b d h3 => by
      have := lift_reads (lowerL z) b d w2 h3 h1
      rw [lift_lower, lowerL_length] at this
      exact this.mono fun e w3 ⟨a2, c2, h, h4, _, h5⟩ => ⟨a2, c2, h, h4, h5⟩
    have HNL := Lib.hid hnl
    have HNU := Lib.hid hnu
    have HYL := Lib.hid hyl
    have HYU := Lib.hid hyu
    obtain ⟨L, hL⟩ : ∃ L, z.length = L := ⟨_, rfl⟩
    obtain ⟨U, hU⟩ : ∃ U, liftL z = U := ⟨_, rfl⟩
    obtain ⟨D, hD⟩ : ∃ D, lowerL z = D := ⟨_, rfl⟩
    rw [hL] at HA HB HEZ HNL HNU HYL HYU hm hlen h60
    rw [hU] at HA HNL HYL
    rw [hD] at HB HNU HYU
    subst hlen
    clear hnl hnu hyl hyu hL hU hD hr h0
    by_cases hu : dchk U = 0
    · by_cases hd : dchk D = 0
      · have HL1 := Lib.hid (HYL.out hu)
        have HU1 := Lib.hid (HYU.out hd)
        clear hu hd
        go_enter Try.func9, Try.ntmps9
        go_wp2_with (first
          | (go_at_call 19; (with_reducible refine (H12.out _).mono ?_); rintro e w1 ⟨b1, d1, rfl, hr1, hw1⟩
             have HR1 := Lib.hid (hr1.out.ex ((Ex.refl w1).alloc (.cells #[.int .i64 1, .int .i64 3, .int .i64 4, .int .i64 7] 3)))
             have HR2 : Hid (Reads (w1.alloc (.cells #[.int .i64 1, .int .i64 3, .int .i64 4, .int .i64 7] 3)) .i64 (some ⟨w1.heap.size, 0, none⟩) [1, 3, 4, 7]) := Lib.hid (reads_new .i64 [1, 3, 4, 7] _ rfl _ _)
             have hx1 : Ex w w1 := ((Ex.refl w).alloc _).trans hw1
             have hx2 := hx1.alloc (.cells #[.int .i64 1, .int .i64 3, .int .i64 4, .int .i64 7] 3)
             clear hr1 hw1)
          | (go_at_call 15; (with_reducible refine (HE4.out _ _ _ _ _ HR1.out HR2.out).mono ?_); rintro e w2 ⟨rfl, hw2⟩)
          | (go_at_call 19; (with_reducible refine (HA.out _ (by repeat (first | assumption | exact Ex.refl _ | refine Ex.trans ?_ (by assumption)))).mono ?_); rintro e w3 ⟨b3, d3, rfl, hr3, hn3, hw3⟩) | (go_at_call 20; (with_reducible refine (HL1.out _ _ _ hn3.out hr3.out).mono ?_); rintro e w4 ⟨b4, d4, rfl, hr4, hw4⟩) | (go_at_call 20; (with_reducible refine (HB.out _ (by repeat (first | assumption | exact Ex.refl _ | refine Ex.trans ?_ (by assumption)))).mono ?_); rintro e w5 ⟨b5, d5, rfl, hr5, hn5, hw5⟩) | (go_at_call 19; (with_reducible refine (HU1.out _ _ _ hr5.out).mono ?_); rintro e w6 ⟨b6, d6, rfl, hr6, hw6⟩) | (go_at_call 15; (with_reducible refine (HEZ.out _ _ _ _ _ (hr4.out.ex (show Ex w4 w6 from (by repeat (first | assumption | exact Ex.refl _ | refine Ex.trans ?_ (by assumption))))) (HZ.out _ (show Ex w w6 from (by repeat (first | assumption | exact Ex.refl _ | refine Ex.trans ?_ (by assumption)))))).mono ?_); rintro e w7 ⟨rfl, hw7⟩) | (go_at_call 15; (with_reducible refine (HEZ.out _ _ _ _ _ (hr6.out.ex (show Ex w6 w7 from (by repeat (first | assumption | exact Ex.refl _ | refine Ex.trans ?_ (by assumption))))) (HZ.out _ (show Ex w w7 from (by repeat (first | assumption | exact Ex.refl _ | refine Ex.trans ?_ (by assumption)))))).mono ?_); rintro e w8 ⟨rfl, hw8⟩))
        go_ret
        exact ⟨rfl, (by repeat (first | assumption | exact Ex.refl _ | refine Ex.trans ?_ (by assumption)))⟩
      · have HL1 := Lib.hid (HYL.out hu)
        have HU1 := Lib.hid fun w2 b d => HNU.out w2 b d _ rfl hd
        clear hu hd
        go_enter Try.func9, Try.ntmps9
        go_wp2_with (first
          | (go_at_call 19; (with_reducible refine (H12.out _).mono ?_); rintro e w1 ⟨b1, d1, rfl, hr1, hw1⟩
             have HR1 := Lib.hid (hr1.out.ex ((Ex.refl w1).alloc (.cells #[.int .i64 1, .int .i64 3, .int .i64 4, .int .i64 7] 3)))
             have HR2 : Hid (Reads (w1.alloc (.cells #[.int .i64 1, .int .i64 3, .int .i64 4, .int .i64 7] 3)) .i64 (some ⟨w1.heap.size, 0, none⟩) [1, 3, 4, 7]) := Lib.hid (reads_new .i64 [1, 3, 4, 7] _ rfl _ _)
             have hx1 : Ex w w1 := ((Ex.refl w).alloc _).trans hw1
             have hx2 := hx1.alloc (.cells #[.int .i64 1, .int .i64 3, .int .i64 4, .int .i64 7] 3)
             clear hr1 hw1)
          | (go_at_call 15; (with_reducible refine (HE4.out _ _ _ _ _ HR1.out HR2.out).mono ?_); rintro e w2 ⟨rfl, hw2⟩)
          | (go_at_call 19; (with_reducible refine (HA.out _ (by repeat (first | assumption | exact Ex.refl _ | refine Ex.trans ?_ (by assumption)))).mono ?_); rintro e w3 ⟨b3, d3, rfl, hr3, hn3, hw3⟩) | (go_at_call 20; (with_reducible refine (HL1.out _ _ _ hn3.out hr3.out).mono ?_); rintro e w4 ⟨b4, d4, rfl, hr4, hw4⟩) | (go_at_call 20; (with_reducible refine (HB.out _ (by repeat (first | assumption | exact Ex.refl _ | refine Ex.trans ?_ (by assumption)))).mono ?_); rintro e w5 ⟨b5, d5, rfl, hr5, hn5, hw5⟩) | (go_at_call 19; (with_reducible refine (HU1.out _ _ _ hr5.out).mono ?_); rintro e w6 ⟨rfl, hw6⟩) | (go_at_call 15; (with_reducible refine (HEZ.out _ _ _ _ _ (hr4.out.ex (show Ex w4 w6 from (by repeat (first | assumption | exact Ex.refl _ | refine Ex.trans ?_ (by assumption))))) (HZ.out _ (show Ex w w6 from (by repeat (first | assumption | exact Ex.refl _ | refine Ex.trans ?_ (by assumption)))))).mono ?_); rintro e w7 ⟨rfl, hw7⟩))
        go_ret
        exact ⟨rfl, (by repeat (first | assumption | exact Ex.refl _ | refine Ex.trans ?_ (by assumption)))⟩
    · by_cases hd : dchk D = 0
      · have HL1 := Lib.hid fun w2 b d => HNL.out w2 b d _ rfl hu
        have HU1 := Lib.hid (HYU.out hd)
        clear hu hd
        go_enter Try.func9, Try.ntmps9
        go_wp2_with (first
          | (go_at_call 19; (with_reducible refine (H12.out _).mono ?_); rintro e w1 ⟨b1, d1, rfl, hr1, hw1⟩
             have HR1 := Lib.hid (hr1.out.ex ((Ex.refl w1).alloc (.cells #[.int .i64 1, .int .i64 3, .int .i64 4, .int .i64 7] 3)))
             have HR2 : Hid (Reads (w1.alloc (.cells #[.int .i64 1, .int .i64 3, .int .i64 4, .int .i64 7] 3)) .i64 (some ⟨w1.heap.size, 0, none⟩) [1, 3, 4, 7]) := Lib.hid (reads_new .i64 [1, 3, 4, 7] _ rfl _ _)
             have hx1 : Ex w w1 := ((Ex.refl w).alloc _).trans hw1
             have hx2 := hx1.alloc (.cells #[.int .i64 1, .int .i64 3, .int .i64 4, .int .i64 7] 3)
             clear hr1 hw1)
          | (go_at_call 15; (with_reducible refine (HE4.out _ _ _ _ _ HR1.out HR2.out).mono ?_); rintro e w2 ⟨rfl, hw2⟩)
          | (go_at_call 19; (with_reducible refine (HA.out _ (by repeat (first | assumption | exact Ex.refl _ | refine Ex.trans ?_ (by assumption)))).mono ?_); rintro e w3 ⟨b3, d3, rfl, hr3, hn3, hw3⟩) | (go_at_call 20; (with_reducible refine (HL1.out _ _ _ hr3.out).mono ?_); rintro e w4 ⟨rfl, hw4⟩) | (go_at_call 20; (with_reducible refine (HB.out _ (by repeat (first | assumption | exact Ex.refl _ | refine Ex.trans ?_ (by assumption)))).mono ?_); rintro e w5 ⟨b5, d5, rfl, hr5, hn5, hw5⟩) | (go_at_call 19; (with_reducible refine (HU1.out _ _ _ hr5.out).mono ?_); rintro e w6 ⟨b6, d6, rfl, hr6, hw6⟩) | (go_at_call 15; (with_reducible refine (HEZ.out _ _ _ _ _ hr6.out (HZ.out _ (show Ex w w6 from (by repeat (first | assumption | exact Ex.refl _ | refine Ex.trans ?_ (by assumption)))))).mono ?_); rintro e w8 ⟨rfl, hw8⟩))
        go_ret
        exact ⟨rfl, (by repeat (first | assumption | exact Ex.refl _ | refine Ex.trans ?_ (by assumption)))⟩
      · have HL1 := Lib.hid fun w2 b d => HNL.out w2 b d _ rfl hu
        have HU1 := Lib.hid fun w2 b d => HNU.out w2 b d _ rfl hd
        clear hu hd
        go_enter Try.func9, Try.ntmps9
        go_wp2_with (first
          | (go_at_call 19; (with_reducible refine (H12.out _).mono ?_); rintro e w1 ⟨b1, d1, rfl, hr1, hw1⟩
             have HR1 := Lib.hid (hr1.out.ex ((Ex.refl w1).alloc (.cells #[.int .i64 1, .int .i64 3, .int .i64 4, .int .i64 7] 3)))
             have HR2 : Hid (Reads (w1.alloc (.cells #[.int .i64 1, .int .i64 3, .int .i64 4, .int .i64 7] 3)) .i64 (some ⟨w1.heap.size, 0, none⟩) [1, 3, 4, 7]) := Lib.hid (reads_new .i64 [1, 3, 4, 7] _ rfl _ _)
             have hx1 : Ex w w1 := ((Ex.refl w).alloc _).trans hw1
             have hx2 := hx1.alloc (.cells #[.int .i64 1, .int .i64 3, .int .i64 4, .int .i64 7] 3)
             clear hr1 hw1)
          | (go_at_call 15; (with_reducible refine (HE4.out _ _ _ _ _ HR1.out HR2.out).mono ?_); rintro e w2 ⟨rfl, hw2⟩)
          | (go_at_call 19; (with_reducible refine (HA.out _ (by repeat (first | assumption | exact Ex.refl _ | refine Ex.trans ?_ (by assumption)))).mono ?_); rintro e w3 ⟨b3, d3, rfl, hr3, hn3, hw3⟩) | (go_at_call 20; (with_reducible refine (HL1.out _ _ _ hr3.out).mono ?_); rintro e w4 ⟨rfl, hw4⟩) | (go_at_call 20; (with_reducible refine (HB.out _ (by repeat (first | assumption | exact Ex.refl _ | refine Ex.trans ?_ (by assumption)))).mono ?_); rintro e w5 ⟨b5, d5, rfl, hr5, hn5, hw5⟩) | (go_at_call 19; (with_reducible refine (HU1.out _ _ _ hr5.out).mono ?_); rintro e w6 ⟨rfl, hw6⟩))
        go_ret
        exact ⟨rfl, (by repeat (first | assumption | exact Ex.refl _ | refine Ex.trans ?_ (by assumption)))⟩
  · · · have HA := Lib.hid fun w2 (hx : Ex w w2) => lift_no z a cap w2 hm (hr.ex hx) h0
        obtain ⟨L, hL⟩ : ∃ L, z.length = L := ⟨_, rfl⟩
        obtain ⟨c, hc⟩ : ∃ c, dchk z = c := ⟨_, rfl⟩
        rw [hc] at HA h0
        rw [hL] at HA hlen
        subst hlen
        have hb : (c != 0) = true := by simpa using h0
        clear h0 hL hc hr
        go_enter Try.func9, Try.ntmps9
        go_wp2_with (first
          | (go_at_call 19; (with_reducible refine (H12.out _).mono ?_); rintro e w1 ⟨b1, d1, rfl, hr1, hw1⟩
             have HR1 := Lib.hid (hr1.out.ex ((Ex.refl w1).alloc (.cells #[.int .i64 1, .int .i64 3, .int .i64 4, .int .i64 7] 3)))
             have HR2 : Hid (Reads (w1.alloc (.cells #[.int .i64 1, .int .i64 3, .int .i64 4, .int .i64 7] 3)) .i64 (some ⟨w1.heap.size, 0, none⟩) [1, 3, 4, 7]) := Lib.hid (reads_new .i64 [1, 3, 4, 7] _ rfl _ _)
             have hx1 : Ex w w1 := ((Ex.refl w).alloc _).trans hw1
             have hx2 := hx1.alloc (.cells #[.int .i64 1, .int .i64 3, .int .i64 4, .int .i64 7] 3)
             clear hr1 hw1)
          | (go_at_call 15; (with_reducible refine (HE4.out _ _ _ _ _ HR1.out HR2.out).mono ?_); rintro e w2 ⟨rfl, hw2⟩)
          | (go_at_call 19; (with_reducible refine (HA.out _ (by repeat (first | assumption | exact Ex.refl _ | refine Ex.trans ?_ (by assumption)))).mono ?_); rintro e w3 ⟨rfl, hw3⟩))
        go_ret
        exact ⟨rfl, (by repeat (first | assumption | exact Ex.refl _ | refine Ex.trans ?_ (by assumption)))⟩

theorem bigB_badV (z : List Int) : z.any bigB = z.any badV := rfl

theorem divisorsOf_reads (k : Nat) (w : World) (h2 : k < 60) :
    Calls Try.prog 16 #[.int .i64 ((k : Int) + 1)] w (fun e w2 => ∃ a cap, e = .returned (.slice a (dv (k + 1)).length cap) ∧ Hid (Reads w2 .i64 a (dvZ (k + 1))) ∧ Ex w w2) := by
  have := divisorsOf_any (k + 1) w (by omega) (by omega)
  rw [Int.natCast_add] at this
  refine this.mono ?_
  rintro e w2 ⟨v, rfl, hrow, hx⟩
  obtain ⟨a, cap, rfl, _, hr, _⟩ := hrow.out.reads
  exact ⟨a, cap, by rw [dvZ_length], Lib.hid hr, hx⟩

theorem sm_take_any {G : Nat → Int} {n B : Int} {m : Nat} (t : Nat) (hB : 0 ≤ B) (hn : n = B * 60) (hm : m ≤ 60) (hG : ∀ d ∈ dv m, -B ≤ G d ∧ G d ≤ B) : -n ≤ sm G ((dv m).take t) ∧ sm G ((dv m).take t) ≤ n := by
  have h := sm_le (F := G) (B := B) (l := (dv m).take t) (fun d hd => hG d (List.mem_of_mem_take hd))
  have h4 := dv_length m
  have h2 : ((dv m).take t).length ≤ 60 := by
    rw [List.length_take]
    omega
  have h5 : B * (((dv m).take t).length : Int) ≤ B * 60 := Int.mul_le_mul_of_nonneg_left (by omega) hB
  omega

set_option maxRecDepth 100000 in
set_option maxHeartbeats 4000000 in
theorem divideLifts_walk (a : Option Addr) (len cap : Nat) (z : List Int) (w : World) (h : IsInts .i64 8 w a len cap z) : Calls Try.prog 4 #[.slice a len cap] w (Says (.bool true) w) := by
  obtain ⟨hlen, hle, hcap, hr, hnil, _⟩ := h
  have hm : z.length ≤ maxLen := by unfold maxLen; omega
  by_cases h60 : 60 < z.length
  · · · have hc : dchk z = 2 := if_pos h60
        have HA := Lib.hid fun w2 (hx : Ex w w2) => lift_no z a cap w2 hm (hr.ex hx) (by rw [hc]; decide)
        have HB := Lib.hid fun w2 (hx : Ex w w2) => lower_no z a cap w2 hm (hr.ex hx) (by rw [hc]; decide)
        have HG : Hid (∀ w2, Ex w w2 → Calls Try.prog 21 #[.slice a z.length cap] w2 (Says (.bool (z.any badV)) w2)) := Lib.hid fun w2 (hx : Ex w w2) => big_any z a cap w2 hm (hr.ex hx)
        obtain ⟨L, hL⟩ : ∃ L, z.length = L := ⟨_, rfl⟩
        rw [hc] at HA HB
        rw [hL] at HA HB HG hlen h60
        subst hlen
        clear hL hc hr
        go_enter Try.func4, Try.ntmps4
        go_wp2_with (first
          | (go_at_call 19; (with_reducible refine (HA.out _ (by repeat (first | assumption | exact Ex.refl _ | refine Ex.trans ?_ (by assumption)))).mono ?_); rintro e w1 ⟨rfl, hw1⟩)
          | (go_at_call 20; (with_reducible refine (HB.out _ (by repeat (first | assumption | exact Ex.refl _ | refine Ex.trans ?_ (by assumption)))).mono ?_); rintro e w2 ⟨rfl, hw2⟩)
          | (go_at_call 21; (with_reducible refine (HG.out _ (by repeat (first | assumption | exact Ex.refl _ | refine Ex.trans ?_ (by assumption)))).mono ?_); rintro e w3 ⟨rfl, hw3⟩))
        go_ret
        exact ⟨rfl, (by repeat (first | assumption | exact Ex.refl _ | refine Ex.trans ?_ (by assumption)))⟩
  · by_cases hb : z.any badV = true
    · · have hc : dchk z = 1 := by unfold dchk; rw [if_neg h60, if_pos hb]
        clear hle hcap
        have HA := Lib.hid fun w2 (hx : Ex w w2) => lift_no z a cap w2 hm (hr.ex hx) (by rw [hc]; decide)
        have HB := Lib.hid fun w2 (hx : Ex w w2) => lower_no z a cap w2 hm (hr.ex hx) (by rw [hc]; decide)
        have HG : Hid (∀ w2, Ex w w2 → Calls Try.prog 21 #[.slice a z.length cap] w2 (Says (.bool (z.any badV)) w2)) := Lib.hid fun w2 (hx : Ex w w2) => big_any z a cap w2 hm (hr.ex hx)
        obtain ⟨L, hL⟩ : ∃ L, z.length = L := ⟨_, rfl⟩
        rw [hc] at HA HB
        rw [hL] at HA HB HG hlen h60
        subst hlen
        clear hL hc hr
        go_enter Try.func4, Try.ntmps4
        go_wp2_with (first
          | (go_at_call 19; (with_reducible refine (HA.out _ (by repeat (first | assumption | exact Ex.refl _ | refine Ex.trans ?_ (by assumption)))).mono ?_); rintro e w1 ⟨rfl, hw1⟩)
          | (go_at_call 20; (with_reducible refine (HB.out _ (by repeat (first | assumption | exact Ex.refl _ | refine Ex.trans ?_ (by assumption)))).mono ?_); rintro e w2 ⟨rfl, hw2⟩)
          | (go_at_call 21; (with_reducible refine (HG.out _ (by repeat (first | assumption | exact Ex.refl _ | refine Ex.trans ?_ (by assumption)))).mono ?_); rintro e w3 ⟨rfl, hw3⟩))
        go_ret
        exact ⟨rfl, (by repeat (first | assumption | exact Ex.refl _ | refine Ex.trans ?_ (by assumption)))⟩
    · have h0 : dchk z = 0 := by unfold dchk; rw [if_neg h60, if_neg hb]
      have hb2 : z.any badV = false := by simpa using hb
      have HA := Lib.hid fun w2 (hx : Ex w w2) => lift_reads z a cap w2 (hr.ex hx) h0
      have HB := Lib.hid fun w2 (hx : Ex w w2) => lower_reads z a cap w2 (hr.ex hx) hnil h0
      have HG : Hid (∀ w2, Ex w w2 → Calls Try.prog 21 #[.slice a z.length cap] w2 (Says (.bool false) w2)) := Lib.hid fun w2 (hx : Ex w w2) => by
        have := big_any z a cap w2 hm (hr.ex hx)
        rwa [bigB_badV, hb2] at this
      have HDV := Lib.hid divisorsOf_reads
      have HZR := Lib.hid fun w2 (hx : Ex w w2) => hr.ex hx
      obtain ⟨_, hv⟩ := dchk_zero.mp h0
      have hF := at1_bound hv
      have hFN : ∀ t, nth z t = at1 z (t + 1) := fun t => by unfold at1; rw [Nat.add_sub_cancel]
      have hUN : ∀ t, t < z.length → nth (liftL z) t = sm (at1 z) (dv (t + 1)) := fun t ht => fl_nth ht
      have hDN : ∀ t, t < z.length → nth (lowerL z) t = undo (at1 z) (t + 1) := fun t ht => fl_nth ht
      have hUL := liftL_length z
      have hDL := lowerL_length z
      obtain ⟨F, hFd⟩ : ∃ F, at1 z = F := ⟨_, rfl⟩
      obtain ⟨U, hU⟩ : ∃ U, liftL z = U := ⟨_, rfl⟩
      obtain ⟨D, hD⟩ : ∃ D, lowerL z = D := ⟨_, rfl⟩
      rw [hFd] at hF hUN hDN
      simp only [hFd] at hFN
      rw [hU] at HA hUL
      simp only [hU] at hUN
      rw [hD] at HB hDL
      simp only [hD] at hDN
      obtain ⟨L, hL⟩ : ∃ L, z.length = L := ⟨_, rfl⟩
      have HLL := Lib.hid hL
      rw [hL] at HA HB HG hlen h60 hUN hDN hUL hDL
      have HF := Lib.hid hF
      have HFN := Lib.hid hFN
      have HUN := Lib.hid hUN
      have HDN := Lib.hid hDN
      have HUL := Lib.hid hUL
      have HDL := Lib.hid hDL
      subst hlen
      have hL60 : L ≤ 60 := by omega
      clear hF hFN hUN hDN hUL hDL hL hU hD hFd hr h0 hb hb2 hnil hm h60 hv
      go_enter Try.func4, Try.ntmps4
      go_wp2_with (first
        | (go_at_call 19; (with_reducible refine (HA.out _ (by repeat (first | assumption | exact Ex.refl _ | refine Ex.trans ?_ (by assumption)))).mono ?_); rintro e w1 ⟨b1, d1, rfl, hr1, hn1, hw1⟩)
        | (go_at_call 20; (with_reducible refine (HB.out _ (by repeat (first | assumption | exact Ex.refl _ | refine Ex.trans ?_ (by assumption)))).mono ?_); rintro e w2 ⟨b2, d2, rfl, hr2, hn2, hw2⟩)
        | (go_at_call 21; (with_reducible refine (HG.out _ (by repeat (first | assumption | exact Ex.refl _ | refine Ex.trans ?_ (by assumption)))).mono ?_); rintro e w3 ⟨rfl, hw3⟩))
      have HR1 : Hid (Reads w3 .i64 b1 U) := Lib.hid (hr1.out.ex (hw2.trans hw3))
      have HR2 : Hid (Reads w3 .i64 b2 D) := Lib.hid (hr2.out.ex hw3)
      have HW : Hid (Ex w w3) := Lib.hid (by repeat (first | assumption | exact Ex.refl _ | refine Ex.trans ?_ (by assumption)))
      have HRZ : Hid (Reads w3 .i64 a z) := Lib.hid (HZR.out _ HW.out)
      go_loopg [68] L (fun m v68 x => ∃ (k : Nat), k ≤ L ∧ v68 = .int .i64 k ∧ Hid (m = L - k) ∧ Ex w3 x)
      case atStart => exact ⟨0, by omega, rfl, Lib.hid rfl, Ex.refl _⟩
      case round =>
        rename World => wo
        obtain ⟨k, hk, rfl, hmk, hx⟩ := hrel
        by_cases hlt : k < L
        · rcases HR1.out with hn | ⟨g1, o1, rfl, hc1⟩
          · have := HUL.out; rw [hn] at this; simp at this; omega
          rcases HR2.out with hn | ⟨g2, o2, rfl, hc2⟩
          · have := HDL.out; rw [hn] at this; simp at this; omega
          rcases HRZ.out with hn | ⟨g3, o3, rfl, hc3⟩
          · have := HLL.out; rw [hn] at this; simp at this; omega
          have HC1 := Lib.hid hc1
          have HC2 := Lib.hid hc2
          have HC3 := Lib.hid hc3
          clear hc1 hc2 hc3
          have HBD : Hid (∀ d ∈ dv (k + 1), 1 ≤ d ∧ d ≤ L) := Lib.hid fun d hd => by
            have h1 := (mem_dv (by omega)).mp hd
            have := Nat.le_of_dvd (by omega) h1.2
            omega
          have HSA := Lib.hid fun t => sm_take_any (G := F) (n := 60000000000) (B := 1000000000) (m := k + 1) t (by omega) (by omega) (by omega) (fun d _ => HF.out d)
          have HSB := Lib.hid fun t => sm_take_any (G := undo F) (n := 3600000000000) (B := 60000000000) (m := k + 1) t (by omega) (by omega) (by omega) (fun d hd => undo_bound HF.out (by have := HBD.out d hd; omega))
          have HTA := Lib.hid fun t => sm_take F (k + 1) (t := t)
          have HTB := Lib.hid fun t => sm_take (undo F) (k + 1) (t := t)
          have HDT : Hid (∀ t, t < (dv (k + 1)).length → 1 ≤ dat (k + 1) t ∧ dat (k + 1) t ≤ L) := Lib.hid fun t ht => by rw [dat_eq ht]; exact HBD.out _ (List.getElem_mem ht)
          have HNT := Lib.hid fun t => dvZ_nth2 (n := k + 1) (t := t)
          have HZL := Lib.hid (dvZ_length (k + 1))
          have HFA : Hid ((dv (k + 1)).take (dv (k + 1)).length = dv (k + 1)) := Lib.hid List.take_length
          have HUS := Lib.hid (undo_sum F (n := k + 1) (by omega))
          have HUk := Lib.hid (HUN.out k hlt)
          have cu := HC1.out k (by have := HUL.out; omega)
          have cz := HC3.out k (by have := HLL.out; omega)
          rw [HUk.out] at cu
          rw [HFN.out k] at cz
          have HCU := Lib.hid cu
          have HCZ := Lib.hid cz
          have hk60 : k < 60 := by omega
          clear cu cz
          have hM : (dv (k + 1)).length ≤ 60 := by have := dv_length (k + 1); omega
          go_wp2_with (go_at_call 16; (with_reducible refine (HDV.out k _ hk60).mono ?_); rintro e w4 ⟨b4, d4, rfl, hr4, hw4⟩)
          have HX4 := Lib.hid (hx.trans hw4)
          obtain ⟨M, hMM⟩ : ∃ M, (dv (k + 1)).length = M := ⟨_, rfl⟩
          rw [hMM] at HTA HTB HDT HNT HZL HFA hM ⊢
          clear hMM hw4
          go_loopg [9, 10, 75] M (fun m v9 v10 v75 y => ∃ (t : Nat) (A B : Int), t ≤ M ∧ v75 = .int .i64 t ∧ v9 = .int .i64 A ∧ v10 = .int .i64 B ∧ Hid (A = sm F ((dv (k + 1)).take t)) ∧ Hid (B = sm (undo F) ((dv (k + 1)).take t)) ∧ Hid (m = M - t) ∧ Ex w4 y)
          case atStart => exact ⟨0, 0, 0, by omega, rfl, rfl, rfl, Lib.hid (by simp [sm]), Lib.hid (by simp [sm]), Lib.hid rfl, Ex.refl _⟩
          case round =>
            obtain ⟨t, A, B, ht, rfl, rfl, rfl, hA, hB, hmt, hy⟩ := hrel
            have HY := Lib.hid (HX4.out.trans hy)
            by_cases htl : t < M
            · rcases hr4.out with hn | ⟨g4, o4, rfl, hc4⟩
              · have := HZL.out; rw [hn] at this; simp at this; omega
              have ct := hy.cell (hc4 t (by have := HZL.out; omega))
              rw [HNT.out t htl] at ct
              obtain ⟨d1', d2'⟩ := HDT.out t htl
              have sa := HSA.out t
              have sb := HSB.out t
              rw [← hA.out] at sa
              rw [← hB.out] at sb
              have HTA1 := Lib.hid (HTA.out t htl)
              have HTB1 := Lib.hid (HTB.out t htl)
              obtain ⟨E, hE⟩ : ∃ E, dat (k + 1) t = E := ⟨_, rfl⟩
              rw [hE] at ct d1' d2' HTA1 HTB1
              have cz := HY.out.cell (HC3.out (E - 1) (by have := HLL.out; omega))
              have cd := HY.out.cell (HC2.out (E - 1) (by have := HDL.out; omega))
              rw [HFN.out, show E - 1 + 1 = E by omega] at cz
              rw [HDN.out _ (by omega), show E - 1 + 1 = E by omega] at cd
              have fb := HF.out E
              have ub := undo_bound HF.out (n := E) (by omega)
              obtain ⟨X, hX⟩ : ∃ X, F E = X := ⟨_, rfl⟩
              obtain ⟨Y, hY⟩ : ∃ Y, undo F E = Y := ⟨_, rfl⟩
              rw [hX] at cz fb HTA1
              rw [hY] at cd ub HTB1
              obtain ⟨sa1, sa2⟩ := sa
              obtain ⟨sb1, sb2⟩ := sb
              obtain ⟨fb1, fb2⟩ := fb
              obtain ⟨ub1, ub2⟩ := ub
              clear hc4 hE hX hY
              go_wp2
              go_roundg (M - (t + 1))
              case measure => have := hmt.out; omega
              case rel => exact ⟨t + 1, A + X, B + Y, by omega, by go_num, rfl, rfl, Lib.hid (by rw [HTA1.out, hA.out]), Lib.hid (by rw [HTB1.out, hB.out]), Lib.hid rfl, hy⟩
            · have e : t = M := by omega
              subst e
              have hA2 : sm F (dv (k + 1)) = A := by rw [hA.out, HFA.out]
              have hB2 : F (k + 1) = B := by rw [← HUS.out, hB.out, HFA.out]
              have cu := HY.out.cell HCU.out
              have cz := HY.out.cell HCZ.out
              rw [hA2] at cu
              rw [hB2] at cz
              clear hA2 hB2
              go_wp2
              go_roundg (L - (k + 1))
              case measure => have := hmk.out; omega
              case rel => exact ⟨k + 1, by omega, by go_num, Lib.hid rfl, HY.out⟩
        · have e : k = L := by omega
          subst e
          go_wp2
          go_ret
          exact ⟨rfl, HW.out.trans hx⟩

end Go.Proofs.Ytjjcollpfgafeaa
