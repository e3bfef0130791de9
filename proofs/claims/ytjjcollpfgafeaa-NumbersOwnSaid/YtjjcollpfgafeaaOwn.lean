/-
  NumbersOwn, walked: what comes of lists of numbers is its own memory.
-/
import Derived.Test.YtjjcollpfgafeaaLiftK
import Derived.Test.YtjjcollpfgafeaaChJoin
import Derived.Test.YtjjcollpfgafeaaChRev
namespace Go.Proofs.Ytjjcollpfgafeaa
open Go.RowKit
open Eu Pr Rs Dd Ch

set_option maxHeartbeats 1000000 in
theorem rests_equal (xs : List (Int × Int)) (a b : Option Addr) (ca cb : Nat) (w : World) (hl : xs.length * 16 ≤ 140737488355328) (hr : ReadsR w a xs) (hr2 : ReadsR w b xs) :
    Calls Try.prog 33 #[.slice a xs.length ca, .slice b xs.length cb] w (Says (.bool true) w) := by
  have HC := Lib.hid hr
  have HD := Lib.hid hr2
  clear hr hr2
  go_enter Try.func33, Try.ntmps33
  go_wp2
  go_loopg [13] xs.length (fun k v13 wr => ∃ i : Nat, i ≤ xs.length ∧ v13 = .int .i64 i ∧ Hid (k = xs.length - i) ∧ Ex w wr)
  case atStart => exact ⟨0, Nat.zero_le _, rfl, Lib.hid rfl, Ex.refl _⟩
  case round =>
    obtain ⟨i, hi, rfl, hk, hw⟩ := hrel
    by_cases hlt : i < xs.length
    · have i1 : (0 : Int) ≤ (i : Int) := by omega
      have i2 : (i : Int) < (xs.length : Int) := by omega
      rcases HC.out with h0 | ⟨g, o, rfl, hc⟩
      · rw [h0] at hlt; exact absurd hlt (Nat.not_lt_zero _)
      rcases HD.out with h0 | ⟨g2, o2, rfl, hd⟩
      · rw [h0] at hlt; exact absurd hlt (Nat.not_lt_zero _)
      have hc0 : ∀ x : Wo wr, x.val.cell? ⟨g, o + i * 2, none⟩ = some (.int .i64 (nthR xs i).1) := fun x => x.ex.cell (hw.cell (hc i hlt).1)
      have hc1 : ∀ x : Wo wr, x.val.cell? ⟨g, o + i * 2 + 1, none⟩ = some (.int .i64 (nthR xs i).2) := fun x => x.ex.cell (hw.cell (hc i hlt).2)
      have hd0 : ∀ x : Wo wr, x.val.cell? ⟨g2, o2 + i * 2, none⟩ = some (.int .i64 (nthR xs i).1) := fun x => x.ex.cell (hw.cell (hd i hlt).1)
      have hd1 : ∀ x : Wo wr, x.val.cell? ⟨g2, o2 + i * 2 + 1, none⟩ = some (.int .i64 (nthR xs i).2) := fun x => x.ex.cell (hw.cell (hd i hlt).2)
      clear hc hd
      go_wp2
      refine wp_region_wo (by kernel_rfl) (by kernel_rfl) ?_
      repeat (go_big_quiet_step (fail))
      refine wpQuiet_nil ?_
      rintro _ ⟨⟨w3, hw3⟩, rfl⟩
      clear hc0 hc1 hd0 hd1
      go_wp2
      go_roundg (xs.length - (i + 1))
      case measure => have := hk.out; omega
      case rel => exact ⟨i + 1, by omega, by go_num, Lib.hid rfl, hw.trans hw3⟩
    · have e : i = xs.length := by omega
      have hnl : ¬ ((i : Int) < (xs.length : Int)) := by omega
      go_wp2
      go_ret
      exact ⟨rfl, hw⟩

set_option maxHeartbeats 1000000 in
theorem spoil_int (x : Int) (base : Nat) (v : Value) (xs : List Int) (w : World) (hown : Row 3 .i64 w base v xs) :
    Calls Try.prog 32 #[v, .int .i64 x] w (fun e w2 => e = .returned (.tuple #[]) ∧ w.grownBy w2 v.ownBlock) := by
  rcases hown.2 with ⟨rfl, _⟩ | ⟨g, cap, cur, rfl, hb, hgg, h1, h2, h3, _⟩
  · go_enter Try.func32, Try.ntmps32
    go_wp2
    go_loopg [11] 0 (fun _ v11 wr => v11 = .int .i64 0 ∧ w = wr)
    case atStart => exact ⟨rfl, rfl⟩
    case round =>
      obtain ⟨rfl, rfl⟩ := hrel
      go_wp2
      go_end0
      exact ⟨rfl, rfl, rfl, rfl, Nat.le_refl _, fun _ _ _ => rfl⟩
  · have HO : Hid (w.ownsRow base 3 1 (.slice (some ⟨g, 0, none⟩) cap cap) cap cur.toList) := Lib.hid ⟨by simp [h3], .inr ⟨g, cap, cur, rfl, hb, hgg, Nat.le_refl _, h2, h3, by rw [List.take_of_length_le (by simp [h3])]⟩⟩
    have h63 : cap ≤ 9223372036854775807 := by unfold maxLen at h2; omega
    clear hown hgg h3 h2
    go_enter Try.func32, Try.ntmps32
    go_wp2
    go_loopg [11] cap (fun k v11 wr => ∃ (i : Nat) (ys : List Value), i ≤ cap ∧ v11 = .int .i64 i ∧ Hid (wr.ownsRow base 3 1 (.slice (some ⟨g, 0, none⟩) cap cap) cap ys) ∧ Hid (w.grownBy wr (some g)) ∧ Hid (k = cap - i))
    case atStart => exact ⟨0, _, by omega, rfl, HO, Lib.hid ⟨rfl, rfl, rfl, Nat.le_refl _, fun _ _ _ => rfl⟩, Lib.hid rfl⟩
    case round =>
      obtain ⟨i, ys, hi, rfl, hO, hG, hk⟩ := hrel
      by_cases hlt : i < cap
      · have hyl : ys.length = cap := by have := hO.out.1; omega
        have hc := World.ownsRow.cellAt hO.out i (by omega)
        rw [List.getElem?_eq_getElem (by omega)] at hc
        have hf := World.ownsRow.frozenAt hO.out i
        obtain ⟨y, hy⟩ : ∃ y, ys[i]'(by omega) = y := ⟨_, rfl⟩
        rw [hy] at hc
        have s1 := World.ownsRow.stored hO.out i (.int .i64 x)
        have HS := Lib.hid s1.1
        have HG2 := Lib.hid (hG.out.trans s1.2)
        clear hy s1
        go_wp2
        go_roundg (cap - (i + 1))
        case measure => have := hk.out; omega
        case rel => exact ⟨i + 1, _, by omega, by go_num, HS, HG2, Lib.hid rfl⟩
      · have e : i = cap := by omega
        subst e
        go_wp2
        go_end0
        exact ⟨rfl, hG.out⟩

/-- Lift's answer as a row of its own, whatever it says. -/
theorem lift_any (f : List Int) (a : Option Addr) (cap : Nat) (w : World) (hl : f.length ≤ maxLen) (hr : Reads w .i64 a f) :
    Calls Try.prog 19 #[.slice a f.length cap] w (fun e w2 => ∃ v xs, e = .returned (.tuple #[v, .int .i64 (dchk f)]) ∧ Hid (Row 3 .i64 w2 w.heap.size v xs) ∧ Ex w w2) := by
  by_cases h : dchk f = 0
  · rw [h]
    refine (lift_of f a cap w hr h).mono ?_
    rintro e w2 ⟨v, rfl, hrow, hx⟩
    exact ⟨v, _, rfl, hrow, hx⟩
  · refine (lift_no f a cap w hl hr h).mono ?_
    rintro e w2 ⟨rfl, hx⟩
    exact ⟨_, [], rfl, Lib.hid (Row.nil _ _ _ _), hx⟩

theorem lower_any (f : List Int) (a : Option Addr) (cap : Nat) (w : World) (hl : f.length ≤ maxLen) (hr : Reads w .i64 a f) (hnil : a = none → cap = 0) :
    Calls Try.prog 20 #[.slice a f.length cap] w (fun e w2 => ∃ v xs, e = .returned (.tuple #[v, .int .i64 (dchk f)]) ∧ Hid (Row 3 .i64 w2 w.heap.size v xs) ∧ Ex w w2) := by
  by_cases h : dchk f = 0
  · rw [h]
    refine (lower_of f a cap w hr hnil h).mono ?_
    rintro e w2 ⟨v, rfl, hrow, hx⟩
    exact ⟨v, _, rfl, hrow, hx⟩
  · refine (lower_no f a cap w hl hr h).mono ?_
    rintro e w2 ⟨rfl, hx⟩
    exact ⟨_, [], rfl, Lib.hid (Row.nil _ _ _ _), hx⟩

/-- What stands apart of a row may be written. -/
theorem ne_later {e : TypeId} {k : IntKind} {w w2 : World} {b : Nat} {v u : Value} {xs ys : List Int} (h : Row e k w b v xs) (g : Row e k w2 w.heap.size u ys) : u.ownBlock = none ∨ u.ownBlock ≠ v.ownBlock := by
  cases hu : u.ownBlock with
  | none => exact .inl rfl
  | some j =>
    refine .inr fun he => ?_
    have h1 := (g.lt j hu).1
    have h2 := (h.lt j he.symm).2
    omega

set_option maxRecDepth 100000 in
set_option maxHeartbeats 4000000 in
theorem numbersOwn_walk (a : Option Addr) (len cap : Nat) (z : List Int) (a2 : Option Addr) (len2 cap2 : Nat) (l : List (Int × Int)) (w : World) (h : IsInts .i64 8 w a len cap z) (h2 : IsPairs w a2 len2 cap2 l) :
    Calls Try.prog 11 #[.slice a len cap, .slice a2 len2 cap2] w (Says (.bool true) w) := by
  obtain ⟨hlen, hle, hcap, hr, hnil, _⟩ := h
  obtain ⟨hlen2, hle2, hcap2, hr2, hnil2, _⟩ := h2
  have hm : z.length ≤ maxLen := by unfold maxLen; omega
  obtain ⟨jx, jM, je, hJ⟩ := jn_some l
  have HJ := Lib.hid (fun w2 (hx : Ex w w2) => join_any l jx jM je a2 cap2 w2 (by omega) (hr2.ex hx) hJ)
  have HCF : Hid (∀ w2, Ex w w2 → Calls Try.prog 29 #[.slice a z.length cap] w2 (fun e w3 => ∃ b d, e = .returned (.slice b z.length d) ∧ Hid (Reads w3 .i64 b z) ∧ Ex w2 w3)) := Lib.hid fun w2 hx => by
    refine (clone_ints z a cap w2 (by omega) (hr.ex hx) hnil).mono ?_
    rintro e w3 ⟨v, rfl, hrow, hx3⟩
    obtain ⟨b, d, rfl, _, hr3, _⟩ := hrow.out.reads
    exact ⟨b, d, rfl, Lib.hid hr3, hx3⟩
  have HCL : Hid (∀ w2, Ex w w2 → Calls Try.prog 30 #[.slice a2 l.length cap2] w2 (fun e w3 => ∃ b d, e = .returned (.slice b l.length d) ∧ Hid (ReadsR w3 b l) ∧ Ex w2 w3)) := Lib.hid fun w2 hx => by
    refine (clone_rests l a2 cap2 w2 (by omega) (hr2.ex hx) (fun hn => ⟨List.length_eq_zero_iff.mp (by have := hnil2 hn; omega), hnil2 hn⟩)).mono ?_
    rintro e w3 ⟨v, rfl, hrow, hx3⟩
    obtain ⟨b, d, rfl, _, hr3, _⟩ := hrow.out.reads
    exact ⟨b, d, rfl, Lib.hid hr3, hx3⟩
  have HA := Lib.hid fun w2 (hx : Ex w w2) => lift_any z a cap w2 hm (hr.ex hx)
  have HB := Lib.hid fun w2 (hx : Ex w w2) => lower_any z a cap w2 hm (hr.ex hx) hnil
  have HSP := Lib.hid fun base v xs w2 (hown : Row 3 .i64 w2 base v xs) => spoil_int (-7) base v xs w2 hown
  have HEF := Lib.hid (equal_same z hm)
  have HEL := Lib.hid fun w2 b c cb cc (r1 : ReadsR w2 b l) (r2 : ReadsR w2 c l) => rests_equal l b c cb cc w2 (by omega) r1 r2
  have HZF := Lib.hid fun w2 (hx : Ex w w2) => hr.ex hx
  have HZL := Lib.hid fun w2 (hx : Ex w w2) => hr2.ex hx
  by_cases h0 : dchk z = 0
  · · · have HA2 := Lib.hid fun w2 (hx : Ex w w2) => lift_reads z a cap w2 (hr.ex hx) h0
        have HU : Hid (z.length ≠ 0 → nth (liftL z) 0 = nth z 0) := Lib.hid fun hn => by
          have e1 : nth (liftL z) 0 = sm (at1 z) (dv (0 + 1)) := fl_nth (by omega)
          have e2 : dv (0 + 1) = [1] := by decide
          rw [e1, e2]
          simp [sm, at1]
        have HUL := Lib.hid (liftL_length z)
        obtain ⟨U, hU⟩ : ∃ U, liftL z = U := ⟨_, rfl⟩
        obtain ⟨L, hL⟩ : ∃ L, z.length = L := ⟨_, rfl⟩
        have HLL := Lib.hid hL
        obtain ⟨K, hK⟩ : ∃ K, l.length = K := ⟨_, rfl⟩
        rw [hU] at HU HUL HA2
        rw [hL] at HCF HA HB HEF HA2 HUL hlen HU
        rw [hK] at HJ HCL HEL hlen2
        rw [h0] at HA HB
        subst hlen
        subst hlen2
        clear hr hr2 h0 hU hL hK hnil hnil2 hm hJ
        go_enter Try.func11, Try.ntmps11
        go_wp2_with (first
          | (go_at_call 26; (with_reducible refine (divides_yes _).mono ?_); rintro e w1 ⟨rfl, hw1⟩)
          | (go_at_call 28; (with_reducible refine (joins_yes _).mono ?_); rintro e w2 ⟨rfl, hw2⟩)
          | (go_at_call 29; (with_reducible refine (HCF.out _ (by repeat (first | assumption | exact Ex.refl _ | refine Ex.trans ?_ (by assumption)))).mono ?_); rintro e w3 ⟨b3, d3, rfl, hr3, hw3⟩)
          | (go_at_call 30; (with_reducible refine (HCL.out _ (by repeat (first | assumption | exact Ex.refl _ | refine Ex.trans ?_ (by assumption)))).mono ?_); rintro e w4 ⟨b4, d4, rfl, hr4, hw4⟩
             have hx4 : Ex w w4 := (by repeat (first | assumption | exact Ex.refl _ | refine Ex.trans ?_ (by assumption)))
             have HR3 := Lib.hid (hr3.out.ex hw4)
             have HX4 := Lib.hid hx4
             clear hw1 hw2 hw3 hw4 hx4 hr3)
          | (go_at_call 19; (with_reducible refine (HA.out _ HX4.out).mono ?_); rintro e w5 ⟨v5, x5, rfl, hr5, hw5⟩
             have HX5 := Lib.hid (HX4.out.trans hw5)
             clear HA)
          | (go_at_call 20; (with_reducible refine (HB.out _ HX5.out).mono ?_); rintro e w6 ⟨v6, x6, rfl, hr6, hw6⟩
             have HX6 := Lib.hid (HX5.out.trans hw6))
          | (go_at_call 31; (with_reducible refine (HJ.out _ HX6.out).mono ?_); rintro e w7 ⟨rfl, hw7⟩
             have HR5 := Lib.hid ((hr5.out.ex hw6).ex hw7)
             have HR6 := Lib.hid (hr6.out.ex hw7)
             have HX47 := Lib.hid ((hw5.trans hw6).trans hw7)
             have HNE := Lib.hid (ne_later hr5.out hr6.out)
             have HSZ5 := Lib.hid hw5.size
             clear hw5 hw6 hw7 hr6)
          | (go_at_call 32; (with_reducible refine (HSP.out _ _ _ _ HR5.out).mono ?_); rintro e w8 ⟨rfl, hg8⟩
             have HX48 := Lib.hid (HR5.out.grown HX47.out hg8)
             have HR68 := Lib.hid (HR6.out.kept hg8 HNE.out)
             clear hg8 HR5)
          | (go_at_call 32; (with_reducible refine (HSP.out _ _ _ _ HR68.out).mono ?_); rintro e w9 ⟨rfl, hg9⟩
             have HX49 := Lib.hid ((HR68.out.less HSZ5.out).grown HX48.out hg9)
             have hx9 : Ex w w9 := HX4.out.trans HX49.out
             have HX9 := Lib.hid hx9
             have HR9 := Lib.hid (HR3.out.ex HX49.out)
             have HRL9 := Lib.hid (hr4.out.ex HX49.out)
             clear hg9 HR68 hx9)
          | (go_at_call 15; (with_reducible refine (HEF.out _ _ _ _ _ (HZF.out _ HX9.out) HR9.out).mono ?_); rintro e w10 ⟨rfl, hw10⟩
             have HX10 := Lib.hid (HX9.out.trans hw10)
             have HRL10 := Lib.hid (HRL9.out.ex hw10)
             clear hw10)
          | (go_at_call 33; (with_reducible refine (HEL.out _ _ _ _ _ (HZL.out _ HX10.out) HRL10.out).mono ?_); rintro e w11 ⟨rfl, hw11⟩
             have HX11 := Lib.hid (HX10.out.trans hw11)
             clear hw11)
          | (go_at_call 19; (with_reducible refine (HA2.out _ HX11.out).mono ?_); rintro e w12 ⟨b12, d12, rfl, hr12, _, hw12⟩; have HX12 := Lib.hid (HX11.out.trans hw12); clear hw12))
        by_cases hL0 : L = 0
        · have g1 : ((L : Int) == 0) = true := by simp [hL0]
          clear hL0
          refine wp_region_wo (by kernel_rfl) (by kernel_rfl) ?_
          repeat (go_big_quiet_step (fail))
          refine wpQuiet_nil ?_
          rintro _ ⟨⟨w13, hw13⟩, rfl⟩
          go_wp2
          go_ret
          exact ⟨rfl, HX12.out.trans hw13⟩
        · rcases hr12.out with hn | ⟨g4, o4, rfl, hc4⟩
          · have := HUL.out; rw [hn] at this; simp at this; omega
          rcases (HZF.out _ HX12.out) with hn | ⟨g5, o5, rfl, hc5⟩
          · have := HLL.out; rw [hn] at this; simp at this; omega
          have g1 : ((L : Int) == 0) = false := by simp; omega
          have q1 : ∀ x : Wo w12, x.val.cell? ⟨g4, o4, none⟩ = some (.int .i64 (nth U 0)) := fun x => x.ex.cell (hc4 0 (by have := HUL.out; omega))
          have q2 : ∀ x : Wo w12, x.val.cell? ⟨g5, o5, none⟩ = some (.int .i64 (nth z 0)) := fun x => x.ex.cell (hc5 0 (by have := HLL.out; omega))
          have i1 : (0 : Int) < (L : Int) := by omega
          have i2 : 0 < L := by omega
          rw [HU.out hL0] at q1
          obtain ⟨X, hX⟩ : ∃ X, nth z 0 = X := ⟨_, rfl⟩
          rw [hX] at q1 q2
          clear hc4 hc5 hL0 hX
          refine wp_region_wo (by kernel_rfl) (by kernel_rfl) ?_
          repeat (go_big_quiet_step (fail))
          refine wpQuiet_nil ?_
          rintro _ ⟨⟨w13, hw13⟩, rfl⟩
          go_wp2
          go_ret
          exact ⟨by simp, HX12.out.trans hw13⟩
  · · · have HA2 := Lib.hid fun w2 (hx : Ex w w2) => lift_no z a cap w2 hm (hr.ex hx) h0
        obtain ⟨c, hc⟩ : ∃ c, dchk z = c := ⟨_, rfl⟩
        obtain ⟨L, hL⟩ : ∃ L, z.length = L := ⟨_, rfl⟩
        obtain ⟨K, hK⟩ : ∃ K, l.length = K := ⟨_, rfl⟩
        rw [hc] at HA HB HA2 h0
        rw [hL] at HCF HA HB HEF HA2 hlen
        rw [hK] at HJ HCL HEL hlen2
        subst hlen
        subst hlen2
        have hcb : (c != 0) = true := by simpa using h0
        clear hr hr2 h0 hL hK hnil hnil2 hm hJ hc
        go_enter Try.func11, Try.ntmps11
        go_wp2_with (first
          | (go_at_call 26; (with_reducible refine (divides_yes _).mono ?_); rintro e w1 ⟨rfl, hw1⟩)
          | (go_at_call 28; (with_reducible refine (joins_yes _).mono ?_); rintro e w2 ⟨rfl, hw2⟩)
          | (go_at_call 29; (with_reducible refine (HCF.out _ (by repeat (first | assumption | exact Ex.refl _ | refine Ex.trans ?_ (by assumption)))).mono ?_); rintro e w3 ⟨b3, d3, rfl, hr3, hw3⟩)
          | (go_at_call 30; (with_reducible refine (HCL.out _ (by repeat (first | assumption | exact Ex.refl _ | refine Ex.trans ?_ (by assumption)))).mono ?_); rintro e w4 ⟨b4, d4, rfl, hr4, hw4⟩
             have hx4 : Ex w w4 := (by repeat (first | assumption | exact Ex.refl _ | refine Ex.trans ?_ (by assumption)))
             have HR3 := Lib.hid (hr3.out.ex hw4)
             have HX4 := Lib.hid hx4
             clear hw1 hw2 hw3 hw4 hx4 hr3)
          | (go_at_call 19; (with_reducible refine (HA.out _ HX4.out).mono ?_); rintro e w5 ⟨v5, x5, rfl, hr5, hw5⟩
             have HX5 := Lib.hid (HX4.out.trans hw5)
             clear HA)
          | (go_at_call 20; (with_reducible refine (HB.out _ HX5.out).mono ?_); rintro e w6 ⟨v6, x6, rfl, hr6, hw6⟩
             have HX6 := Lib.hid (HX5.out.trans hw6))
          | (go_at_call 31; (with_reducible refine (HJ.out _ HX6.out).mono ?_); rintro e w7 ⟨rfl, hw7⟩
             have HR5 := Lib.hid ((hr5.out.ex hw6).ex hw7)
             have HR6 := Lib.hid (hr6.out.ex hw7)
             have HX47 := Lib.hid ((hw5.trans hw6).trans hw7)
             have HNE := Lib.hid (ne_later hr5.out hr6.out)
             have HSZ5 := Lib.hid hw5.size
             clear hw5 hw6 hw7 hr6)
          | (go_at_call 32; (with_reducible refine (HSP.out _ _ _ _ HR5.out).mono ?_); rintro e w8 ⟨rfl, hg8⟩
             have HX48 := Lib.hid (HR5.out.grown HX47.out hg8)
             have HR68 := Lib.hid (HR6.out.kept hg8 HNE.out)
             clear hg8 HR5)
          | (go_at_call 32; (with_reducible refine (HSP.out _ _ _ _ HR68.out).mono ?_); rintro e w9 ⟨rfl, hg9⟩
             have HX49 := Lib.hid ((HR68.out.less HSZ5.out).grown HX48.out hg9)
             have hx9 : Ex w w9 := HX4.out.trans HX49.out
             have HX9 := Lib.hid hx9
             have HR9 := Lib.hid (HR3.out.ex HX49.out)
             have HRL9 := Lib.hid (hr4.out.ex HX49.out)
             clear hg9 HR68 hx9)
          | (go_at_call 15; (with_reducible refine (HEF.out _ _ _ _ _ (HZF.out _ HX9.out) HR9.out).mono ?_); rintro e w10 ⟨rfl, hw10⟩
             have HX10 := Lib.hid (HX9.out.trans hw10)
             have HRL10 := Lib.hid (HRL9.out.ex hw10)
             clear hw10)
          | (go_at_call 33; (with_reducible refine (HEL.out _ _ _ _ _ (HZL.out _ HX10.out) HRL10.out).mono ?_); rintro e w11 ⟨rfl, hw11⟩
             have HX11 := Lib.hid (HX10.out.trans hw11)
             clear hw11)
          | (go_at_call 19; (with_reducible refine (HA2.out _ HX11.out).mono ?_); rintro e w12 ⟨rfl, hw12⟩; have HX12 := Lib.hid (HX11.out.trans hw12); clear hw12))
        have g0 : (c == c) = true := by simp
        refine wp_region_wo (by kernel_rfl) (by kernel_rfl) ?_
        repeat (go_big_quiet_step (fail))
        refine wpQuiet_nil ?_
        rintro _ ⟨⟨w13, hw13⟩, rfl⟩
        go_wp2
        go_ret
        exact ⟨rfl, HX12.out.trans hw13⟩

end Go.Proofs.Ytjjcollpfgafeaa
