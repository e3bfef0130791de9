/-
  Package points: inRange, hasX, Check; the document's errors.
-/
import Derived.Test.YtfdhhiibhkepaaaPtMath
import Derived.Test.YtfdhhiibhkepaaaMix
namespace Go.Proofs.Ytfdhhiibhkepaaa
open Go.RowKit
open Pr Po

set_option maxHeartbeats 400000 in
theorem ptIn_yes (p x : Int) (w : World) (h : outB p x = false) : Calls Try.prog 32 #[.int .i64 p, .int .i64 x] w (fun e w' => e = .returned (.bool true) ∧ w = w') := by
  obtain ⟨h0, h1⟩ := outB_no.mp h
  clear h
  go_enter Try.func32, Try.ntmps32
  go_wp2
  go_ret
  exact ⟨rfl, rfl⟩

set_option maxHeartbeats 400000 in
theorem ptIn_no (p x : Int) (w : World) (h : outB p x = true) : Calls Try.prog 32 #[.int .i64 p, .int .i64 x] w (fun e w' => e = .returned (.bool false) ∧ w = w') := by
  by_cases h0 : x < 0
  · clear h
    go_enter Try.func32, Try.ntmps32
    go_wp2
    go_ret
    exact ⟨by first | rfl | (simp; done) | (simp; omega), rfl⟩
  · have h1 : p ≤ x := by
      refine Decidable.byContradiction fun hc => ?_
      rw [outB_no.mpr ⟨by omega, by omega⟩] at h
      cases h
    have h2 : 0 ≤ x := by omega
    clear h h0
    go_enter Try.func32, Try.ntmps32
    go_wp2
    go_ret
    exact ⟨by first | rfl | (simp; done) | (simp; omega), rfl⟩

theorem hasP_no {l : List (Int × Int)} {x : Int} (h : ∀ j, j < l.length → px l j ≠ x) : hasP l x = false := by
  unfold hasP
  rw [List.any_eq_false]
  intro a ha
  obtain ⟨j, hj, rfl⟩ := List.getElem_of_mem ha
  have := h j hj
  unfold px at this
  rw [nthR_eq hj] at this
  simpa using this
theorem hasP_yes {l : List (Int × Int)} {x : Int} {j : Nat} (hj : j < l.length) (h : px l j = x) : hasP l x = true :=
  List.any_eq_true.mpr ⟨_, nthR_mem hj, by simpa [px] using h⟩

set_option maxHeartbeats 1000000 in
theorem hasX_any (l : List (Int × Int)) (n : Nat) (x : Int) (a : Option Addr) (cap : Nat) (w : World) (hn : l.length = n) (hl : n ≤ 1000) (hr : ReadsR w a l) :
    Calls Try.prog 33 #[.slice a n cap, .int .i64 x] w (Says (.bool (hasP l x)) w) := by
  subst hn
  rcases hr with rfl | ⟨b, off, rfl, hc⟩
  · have e : hasP [] x = false := rfl
    rw [e]
    go_enter Try.func33, Try.ntmps33
    go_wp2
    refine wp_loop_rounds 1 ?_
    rw [rounds_succ]
    go_wp2
    go_ret
    exact .same
  · have HC := Lib.hid hc
    clear hc
    go_enter Try.func33, Try.ntmps33
    go_wp2
    go_loopg [9] l.length (fun k v9 wr => ∃ i : Nat, i ≤ l.length ∧ v9 = .int .i64 i ∧ Hid (k = l.length - i) ∧ Hid (∀ j, j < i → px l j ≠ x) ∧ Ex w wr)
    case atStart => exact ⟨0, Nat.zero_le _, rfl, Lib.hid rfl, Lib.hid (fun j hj => absurd hj (Nat.not_lt_zero _)), Ex.refl _⟩
    case round =>
      obtain ⟨i, hi, rfl, hk, hn, hw⟩ := hrel
      by_cases hlt : i < l.length
      · have hc0 := hw.cell (HC.out i hlt).1
        have hc1 := hw.cell (HC.out i hlt).2
        have HY : Hid (px l i = x → hasP l x = true) := Lib.hid (hasP_yes hlt)
        have HN : Hid (px l i ≠ x → ∀ j, j < i + 1 → px l j ≠ x) := Lib.hid fun h j hj => by
          rcases Nat.lt_succ_iff_lt_or_eq.mp hj with h2 | h2
          · exact hn.out j h2
          · rw [h2]; exact h
        unfold px at HY HN
        obtain ⟨q, hq⟩ : ∃ q, nthR l i = q := ⟨_, rfl⟩
        rw [hq] at hc0 hc1 HY HN
        obtain ⟨u, v⟩ := q
        simp only at hc0 hc1 HY HN
        clear hq
        by_cases hx : u = x
        · have HE := Lib.hid (HY.out hx)
          subst hx
          go_wp2
          go_ret
          exact ⟨by rw [HE.out]; rfl, (hw.alloc _)⟩
        · have hb : (u == x) = false := by simpa using hx
          have HE := Lib.hid (HN.out hx)
          clear hx
          go_wp2
          go_roundg (l.length - (i + 1))
          case measure => have := hk.out; omega
          case rel => exact ⟨i + 1, by omega, by go_num, Lib.hid rfl, Lib.hid HE.out, hw.alloc _⟩
      · have e : i = l.length := by omega
        subst e
        have HE := Lib.hid (hasP_no hn.out)
        go_wp2
        go_ret
        exact ⟨by rw [HE.out]; rfl, hw⟩

theorem ptE_field {p : Int} {l : List (Int × Int)} (h : fieldE p = 1) : ptE p l = 1 := by unfold ptE; rw [if_pos (by rw [h]; decide)]
theorem ptE_large {p : Int} {l : List (Int × Int)} (h : fieldE p = 0) (hl : 12 < l.length) : ptE p l = 2 := by unfold ptE; rw [if_neg (by rw [h]; decide), if_pos hl]
theorem ptE_scan {p : Int} {l : List (Int × Int)} (h : fieldE p = 0) (hl : l.length ≤ 12) : ptE p l = ptS p l l.length := by unfold ptE; rw [if_neg (by rw [h]; decide), if_neg (by omega)]

/-- What the loops are told of point i. -/
theorem scan_bad {p : Int} {l : List (Int × Int)} {i : Nat} (h : fieldE p = 0) (hl : l.length ≤ 12) (hi : i < l.length) (h0 : ptS p l i = 0) (hb : outB p (px l i) = true ∨ outB p (py l i) = true) : ptE p l = 1 := by
  rw [ptE_scan h hl]
  exact ptS_stop (k := i + 1) (by rw [ptS_next h0, if_pos hb]) (by decide) _ (by omega)
theorem scan_there {p : Int} {l : List (Int × Int)} {i : Nat} (h : fieldE p = 0) (hl : l.length ≤ 12) (hi : i < l.length) (h0 : ptS p l i = 0) (h1 : outB p (px l i) = false) (h2 : outB p (py l i) = false) (hb : hasP (l.take i) (px l i) = true) : ptE p l = 6 := by
  rw [ptE_scan h hl]
  exact ptS_stop (k := i + 1) (by rw [ptS_next h0, if_neg (by rw [h1, h2]; simp), if_pos hb]) (by decide) _ (by omega)
theorem scan_next {p : Int} {l : List (Int × Int)} {i : Nat} (h0 : ptS p l i = 0) (h1 : outB p (px l i) = false) (h2 : outB p (py l i) = false) (hb : hasP (l.take i) (px l i) = false) : ptS p l (i + 1) = 0 := by
  rw [ptS_next h0, if_neg (by rw [h1, h2]; simp), if_neg (by rw [hb]; decide)]

set_option maxRecDepth 100000 in
set_option maxHeartbeats 2000000 in
theorem ptCheck_any (p : Int) (l : List (Int × Int)) (a : Option Addr) (cap : Nat) (w : World) (hcap : l.length ≤ cap) (hl : l.length ≤ 140737488355328) (hr : ReadsR w a l) :
    Calls Try.prog 10 #[.int .i64 p, .slice a l.length cap] w (Says (.int .i64 (ptE p l)) w) := by
  have HF := Lib.hid fun w2 => field_any p w2
  rcases fieldE_two p with h1 | h1
  · rw [h1] at HF
    by_cases h6 : 12 < l.length
    · have HE := Lib.hid (ptE_large h1 h6)
      clear hr h1
      go_enter Try.func10, Try.ntmps10
      go_wp2_with (go_at_call 31; (with_reducible refine (HF.out _).mono ?_); rintro e w2 ⟨rfl, hw2⟩)
      go_ret
      exact ⟨by rw [HE.out]; rfl, hw2⟩
    · have H1 := Lib.hid h1
      have h7 : l.length ≤ 12 := by omega
      have HR := Lib.hid hr
      have HH := Lib.hid fun (i : Nat) (x : Int) (w2 : World) (hi : i ≤ l.length) (hx : Ex w w2) => hasX_any (l.take i) i x a cap w2 (by rw [List.length_take]; omega) (by omega) ((hr.take i).ex hx)
      have HEND : Hid (ptS p l l.length = 0 → ptE p l = 0) := Lib.hid fun h => by rw [ptE_scan h1 h7, h]
      clear hr h6 h1
      go_enter Try.func10, Try.ntmps10
      go_wp2_with (go_at_call 31; (with_reducible refine (HF.out _).mono ?_); rintro e w2 ⟨rfl, hw2⟩)
      go_loopg [18] l.length (fun k vSLOT x => ∃ i : Nat, i ≤ l.length ∧ vSLOT = .int .i64 i ∧ Hid (ptS p l i = 0) ∧ Hid (k = l.length - i) ∧ Ex w x)
      case atStart => exact ⟨0, by omega, rfl, Lib.hid rfl, Lib.hid rfl, hw2⟩
      case round =>
        obtain ⟨i, hi, rfl, hS, hk, hx⟩ := hrel
        by_cases hlt : i < l.length
        · rcases HR.out with hn | ⟨b, off, rfl, hc⟩
          · rw [hn] at hlt; exact absurd hlt (Nat.not_lt_zero _)
          have hc0 := hx.cell (hc i hlt).1
          have hc1 := hx.cell (hc i hlt).2
          have HB := Lib.hid (scan_bad H1.out h7 hlt hS.out)
          have HT := Lib.hid (scan_there H1.out h7 hlt hS.out)
          have HN := Lib.hid (scan_next (l := l) (i := i) hS.out)
          have HXi := Lib.hid fun w2 hx2 => HH.out i (px l i) w2 hi hx2
          unfold px at HB HT HN HXi
          unfold py at HB HT HN
          obtain ⟨q, hq⟩ : ∃ q, nthR l i = q := ⟨_, rfl⟩
          rw [hq] at hc0 hc1 HB HT HN HXi
          obtain ⟨u, v⟩ := q
          simp only at hc0 hc1 HB HT HN HXi
          clear hq hc
          have hic : i ≤ cap := by omega
          cases hu : outB p u
          · cases hv : outB p v
            · have HU := Lib.hid hu
              have HV := Lib.hid hv
              obtain ⟨c, hc⟩ : ∃ c, hasP (l.take i) u = c := ⟨_, rfl⟩
              rw [hc] at HXi
              have HC := Lib.hid hc
              clear hu hv hc
              have hxa := hx.alloc (.cells #[.int .i64 u, .int .i64 v] 33)
              have HXQ := Lib.hid fun x : Wo (wr.alloc (.cells #[.int .i64 u, .int .i64 v] 33)) => HXi.out _ (hxa.trans x.ex)
              have q0 : ∀ x : Wo (wr.alloc (.cells #[.int .i64 u, .int .i64 v] 33)), x.val.cell? ⟨wr.heap.size, 0, none⟩ = some (.int .i64 u) := fun x => x.ex.cell (by simp)
              go_wp2_with (first
                | (go_at_call 32; (with_reducible refine (ptIn_yes p u _ HU.out).mono ?_); rintro e w' ⟨rfl, rfl⟩)
                | (go_at_call 32; (with_reducible refine (ptIn_yes p v _ HV.out).mono ?_); rintro e w' ⟨rfl, rfl⟩))
              refine wp_region_wo (by kernel_rfl) (by kernel_rfl) ?_
              repeat (go_big_quiet_step ((go_at_call 33; exact says_wo (HXQ.out _))))
              refine wpQuiet_nil ?_
              rintro _ ⟨⟨w4, hw4⟩, rfl⟩
              have hx4 := hxa.trans hw4
              clear q0
              cases c
              · have HE := Lib.hid (HN.out HU.out HV.out HC.out)
                go_wp2
                go_roundg (l.length - (i + 1))
                case measure => have := hk.out; omega
                case rel => exact ⟨i + 1, by omega, by go_num, HE, Lib.hid rfl, hx4⟩
              · have HE := Lib.hid (HT.out HU.out HV.out HC.out)
                go_wp2
                go_ret
                exact ⟨by rw [HE.out]; rfl, hx4⟩
            · have HE := Lib.hid (HB.out (.inr hv))
              have HU := Lib.hid hu
              have HV := Lib.hid hv
              clear hu hv
              go_wp2_with (first
                | (go_at_call 32; (with_reducible refine (ptIn_yes p u _ HU.out).mono ?_); rintro e w' ⟨rfl, rfl⟩)
                | (go_at_call 32; (with_reducible refine (ptIn_no p v _ HV.out).mono ?_); rintro e w' ⟨rfl, rfl⟩))
              go_ret
              exact ⟨by rw [HE.out]; rfl, hx.alloc _⟩
          · have HE := Lib.hid (HB.out (.inl hu))
            have HU := Lib.hid hu
            clear hu
            go_wp2_with (go_at_call 32; (with_reducible refine (ptIn_no p u _ HU.out).mono ?_); rintro e w' ⟨rfl, rfl⟩)
            go_ret
            exact ⟨by rw [HE.out]; rfl, hx.alloc _⟩
        · have e : i = l.length := by omega
          subst e
          have HE := Lib.hid (HEND.out hS.out)
          go_wp2
          go_ret
          exact ⟨by rw [HE.out]; rfl, hx⟩
  · rw [h1] at HF
    have HE := Lib.hid (ptE_field (l := l) h1)
    clear hr h1
    go_enter Try.func10, Try.ntmps10
    go_wp2_with (go_at_call 31; (with_reducible refine (HF.out _).mono ?_); rintro e w2 ⟨rfl, hw2⟩)
    go_ret
    exact ⟨by rw [HE.out]; rfl, hw2⟩

end Go.Proofs.Ytfdhhiibhkepaaa
