/-
  Package secret: checkJoin, Join.
-/
import Derived.Test.YtnpmifjndccfaaaSeWalks
namespace Go.Proofs.Ytnpmifjndccfaaa
open Go.RowKit
open Eu Pr Po Rs

/-- What is wrong with points as shares. -/
def joinE (p : Int) (l : List (Int × Int)) : Int := if ptE p l ≠ 0 then ptE p l else if l.length = 0 then 9 else if hasP l 0 = true then 1 else 0
theorem joinE_pts {p : Int} {l : List (Int × Int)} (h : ptE p l ≠ 0) : joinE p l = ptE p l := if_pos h
theorem joinE_few {p : Int} {l : List (Int × Int)} (h : ptE p l = 0) (h2 : l.length = 0) : joinE p l = 9 := by unfold joinE; rw [if_neg (by simpa using h), if_pos h2]
theorem joinE_at0 {p : Int} {l : List (Int × Int)} (h : ptE p l = 0) (h2 : l.length ≠ 0) : joinE p l = if hasP l 0 = true then 1 else 0 := by unfold joinE; rw [if_neg (by simpa using h), if_neg h2]
theorem joinE_zero {p : Int} {l : List (Int × Int)} : joinE p l = 0 ↔ ptE p l = 0 ∧ l.length ≠ 0 ∧ hasP l 0 = false := by
  unfold joinE
  by_cases h1 : ptE p l = 0
  · rw [if_neg (by simpa using h1)]
    by_cases h2 : l.length = 0
    · rw [if_pos h2]; simp [h2]
    · rw [if_neg h2]
      cases hasP l 0 <;> simp [h1, h2]
  · rw [if_pos h1]
    exact ⟨fun h => absurd h h1, fun h => h.1⟩

set_option maxRecDepth 100000 in
set_option maxHeartbeats 2000000 in
theorem checkJoin_any (p : Int) (l : List (Int × Int)) (a : Option Addr) (cap : Nat) (w : World) (hcap : l.length ≤ cap) (hl : l.length ≤ 140737488355328) (hr : ReadsR w a l) :
    Calls Try.prog 30 #[.int .i64 p, .slice a l.length cap] w (Says (.int .i64 (joinE p l)) w) := by
  have HC := Lib.hid fun w2 (hx : Ex w w2) => ptCheck_any p l a cap w2 hcap hl (hr.ex hx)
  by_cases h0 : ptE p l = 0
  · rw [h0] at HC
    by_cases h1 : l.length = 0
    · have HE := Lib.hid (joinE_few h0 h1)
      clear hr h0
      rw [h1] at HC ⊢
      go_enter Try.func30, Try.ntmps30
      go_wp2_with (go_at_call 50; (with_reducible refine (HC.out _ (Ex.refl _)).mono ?_); rintro e w2 ⟨rfl, hw2⟩)
      go_ret
      exact ⟨by rw [HE.out]; rfl, hw2⟩
    · have HE := Lib.hid (joinE_at0 h0 h1)
      have hb : ((l.length : Int) == 0) = false := by simp; exact fun h => h1 (by rw [h]; rfl)
      have HR := Lib.hid fun w2 (hx : Ex w w2) => hr.ex hx
      have HNE : Hid (∀ i, i < l.length → l ≠ []) := Lib.hid fun i hi h => by rw [h] at hi; simp at hi
      have HY := Lib.hid fun (i : Nat) (h : i < l.length) (h2 : px l i = 0) => hasP_yes h h2
      have HN := Lib.hid fun (h : ∀ j, j < l.length → px l j ≠ 0) => hasP_no h
      obtain ⟨L, hL⟩ : ∃ L, l.length = L := ⟨_, rfl⟩
      have HL := Lib.hid hL
      rw [hL] at HC HNE HY HN hb hl ⊢
      have hlpos : L ≠ 0 := by rw [← hL]; exact h1
      clear hr h0 h1 hL
      go_enter Try.func30, Try.ntmps30
      go_wp2_with (go_at_call 50; (with_reducible refine (HC.out _ (Ex.refl _)).mono ?_); rintro e w2 ⟨rfl, hw2⟩)
      go_loopg [19] L (fun k vSLOT x => ∃ i : Nat, i ≤ L ∧ vSLOT = .int .i64 i ∧ Hid (∀ j, j < i → px l j ≠ 0) ∧ Hid (k = L - i) ∧ Ex w x)
      case atStart => exact ⟨0, by omega, rfl, Lib.hid (fun j hj => absurd hj (Nat.not_lt_zero _)), Lib.hid rfl, hw2⟩
      case round =>
        obtain ⟨i, hi, rfl, hn, hk, hx⟩ := hrel
        by_cases hlt : i < L
        · rcases HR.out _ hx with hno | ⟨b, off, rfl, hc⟩
          · exact absurd hno (HNE.out i hlt)
          have hc0 := (hc i (by have := HL.out; omega)).1
          have hc1 := (hc i (by have := HL.out; omega)).2
          have HYi := Lib.hid (HY.out i hlt)
          have HNX : Hid (px l i ≠ 0 → ∀ j, j < i + 1 → px l j ≠ 0) := Lib.hid fun h j hj => by
            rcases Nat.lt_succ_iff_lt_or_eq.mp hj with h2 | h2
            · exact hn.out j h2
            · rw [h2]; exact h
          unfold px at HYi HNX
          obtain ⟨q, hq⟩ : ∃ q, nthR l i = q := ⟨_, rfl⟩
          rw [hq] at hc0 hc1 HYi HNX
          obtain ⟨u, v⟩ := q
          simp only at hc0 hc1 HYi HNX
          clear hc hq
          by_cases hu : u = 0
          · have HE2 : Hid (joinE p l = 1) := Lib.hid (by rw [HE.out, if_pos (HYi.out hu)])
            subst hu
            go_wp2
            go_ret
            exact ⟨by rw [HE2.out]; rfl, hx.alloc _⟩
          · have hb2 : (u == 0) = false := by simpa using hu
            have HNN := Lib.hid (HNX.out hu)
            clear hu
            go_wp2
            go_roundg (L - (i + 1))
            case measure => have := hk.out; omega
            case rel => exact ⟨i + 1, by omega, by go_num, HNN, Lib.hid rfl, hx.alloc _⟩
        · have e : i = L := by omega
          subst e
          have HE2 : Hid (joinE p l = 0) := Lib.hid (by rw [HE.out, HN.out hn.out]; rfl)
          go_wp2
          go_ret
          exact ⟨by rw [HE2.out]; rfl, hx⟩
  · have HE := Lib.hid (joinE_pts h0)
    obtain ⟨c, hc⟩ : ∃ c, ptE p l = c := ⟨_, rfl⟩
    rw [hc] at HC HE h0
    have hb : (c != 0) = true := by simpa using h0
    clear hr h0 hc
    go_enter Try.func30, Try.ntmps30
    go_wp2_with (go_at_call 50; (with_reducible refine (HC.out _ (Ex.refl _)).mono ?_); rintro e w2 ⟨rfl, hw2⟩)
    go_ret
    exact ⟨by rw [HE.out]; rfl, hw2⟩

set_option maxRecDepth 100000 in
set_option maxHeartbeats 2000000 in
theorem join_no (p : Int) (l : List (Int × Int)) (a : Option Addr) (cap : Nat) (w : World) (hcap : l.length ≤ cap) (hl : l.length ≤ 140737488355328) (hr : ReadsR w a l) (h : joinE p l ≠ 0) :
    Calls Try.prog 8 #[.int .i64 p, .slice a l.length cap] w (Says (.tuple #[.int .i64 0, .int .i64 (joinE p l)]) w) := by
  have HC := Lib.hid (checkJoin_any p l a cap w hcap hl hr)
  obtain ⟨c, hc⟩ : ∃ c, joinE p l = c := ⟨_, rfl⟩
  rw [hc] at HC h ⊢
  have hb : (c != 0) = true := by simpa using h
  clear hl hr h hc
  go_enter Try.func8, Try.ntmps8
  go_wp2_with (go_at_call 30; (with_reducible refine (HC.out).mono ?_); rintro e w2 ⟨rfl, hw2⟩)
  go_ret2
  exact ⟨rfl, hw2⟩

set_option maxRecDepth 100000 in
set_option maxHeartbeats 2000000 in
theorem join_ok (p : Int) (l : List (Int × Int)) (F : List Int) (a : Option Addr) (cap : Nat) (w : World) (hcap : l.length ≤ cap) (hr : ReadsR w a l) (h : joinE p l = 0) (hF : IsTh p l l.length F) :
    Calls Try.prog 8 #[.int .i64 p, .slice a l.length cap] w (Says (.tuple #[.int .i64 (ev F 0 % p), .int .i64 0]) w) := by
  have h0 := (joinE_zero.mp h).1
  obtain ⟨hp, p9, l12, _⟩ := ptE_zero.mp h0
  have HC := Lib.hid (checkJoin_any p l a cap w hcap (by omega) hr)
  rw [h] at HC
  have HA := Lib.hid fun w2 (hx : Ex w w2) => ptAt_ok p l F 0 a cap w2 hcap (hr.ex hx) h0 hF
  obtain ⟨y, hy⟩ : ∃ y, ev F 0 % p = y := ⟨_, rfl⟩
  rw [hy] at HA ⊢
  clear hr h hF h0 hp hy
  go_enter Try.func8, Try.ntmps8
  go_wp2_with (first
    | (go_at_call 30; (with_reducible refine (HC.out).mono ?_); rintro e w2 ⟨rfl, hw2⟩)
    | (go_at_call 31; (with_reducible refine (HA.out _ hw2).mono ?_); rintro e w3 ⟨rfl, hw3⟩))
  go_ret2
  exact ⟨rfl, hw2.trans hw3⟩

set_option maxHeartbeats 1000000 in
theorem points_equal (xs : List (Int × Int)) (a b : Option Addr) (ca cb : Nat) (w : World) (hl : xs.length * 16 ≤ 140737488355328) (hr : ReadsR w a xs) (hr2 : ReadsR w b xs) :
    Calls Try.prog 38 #[.slice a xs.length ca, .slice b xs.length cb] w (Says (.bool true) w) := by
  have HC := Lib.hid hr
  have HD := Lib.hid hr2
  clear hr hr2
  go_enter Try.func38, Try.ntmps38
  go_wp2
  go_loopg [13] xs.length (fun k v13 wr => ∃ i : Nat, i ≤ xs.length ∧ v13 = .int .i64 i ∧ Hid (k = xs.length - i) ∧ Ex w wr)
  case atStart => exact ⟨0, Nat.zero_le _, rfl, Lib.hid rfl, Ex.refl _⟩
  case round =>
    obtain ⟨i, hi, rfl, hk, hw⟩ := hrel
    by_cases hlt : i < xs.length
    · have i1 : (0 : Int) ≤ (i : Int) := by omega
      have i2 : (i : Int) < (xs.length : Int) := by omega
      rcases HC.out with h0 | ⟨g, o, rfl, hc⟩
      · rw [h0] at hlt; exact absurd hlt (Nat.not_lt_zero _)
      rcases HD.out with h0 | ⟨g2, o2, rfl, hd⟩
      · rw [h0] at hlt; exact absurd hlt (Nat.not_lt_zero _)
      have hc0 : ∀ x : Wo wr, x.val.cell? ⟨g, o + i * 2, none⟩ = some (.int .i64 (nthR xs i).1) := fun x => x.ex.cell (hw.cell (hc i hlt).1)
      have hc1 : ∀ x : Wo wr, x.val.cell? ⟨g, o + i * 2 + 1, none⟩ = some (.int .i64 (nthR xs i).2) := fun x => x.ex.cell (hw.cell (hc i hlt).2)
      have hd0 : ∀ x : Wo wr, x.val.cell? ⟨g2, o2 + i * 2, none⟩ = some (.int .i64 (nthR xs i).1) := fun x => x.ex.cell (hw.cell (hd i hlt).1)
      have hd1 : ∀ x : Wo wr, x.val.cell? ⟨g2, o2 + i * 2 + 1, none⟩ = some (.int .i64 (nthR xs i).2) := fun x => x.ex.cell (hw.cell (hd i hlt).2)
      clear hc hd
      go_wp2
      refine wp_region_wo (by kernel_rfl) (by kernel_rfl) ?_
      repeat (go_big_quiet_step (fail))
      refine wpQuiet_nil ?_
      rintro _ ⟨⟨w3, hw3⟩, rfl⟩
      clear hc0 hc1 hd0 hd1
      go_wp2
      go_roundg (xs.length - (i + 1))
      case measure => have := hk.out; omega
      case rel => exact ⟨i + 1, by omega, by go_num, Lib.hid rfl, hw.trans hw3⟩
    · have e : i = xs.length := by omega
      have hnl : ¬ ((i : Int) < (xs.length : Int)) := by omega
      go_wp2
      go_ret
      exact ⟨rfl, hw⟩

end Go.Proofs.Ytnpmifjndccfaaa
