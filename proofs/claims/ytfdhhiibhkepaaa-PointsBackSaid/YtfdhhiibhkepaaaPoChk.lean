/-
  Package poly: Field, Check, checkBoth; and the document's errors.
-/
import Derived.Test.YtfdhhiibhkepaaaPrWalks
import Derived.Test.YtfdhhiibhkepaaaPoMore
namespace Go.Proofs.Ytfdhhiibhkepaaa
open Go.RowKit
open Pr Po

/-- Field's error. -/
def fieldE (p : Int) : Int := if pb p = true ∧ p ≤ 997 then 0 else 1
theorem fieldE_zero {p : Int} : fieldE p = 0 ↔ Prm p ∧ p ≤ 997 := by
  unfold fieldE
  by_cases h : pb p = true ∧ p ≤ 997
  · rw [if_pos h]; exact ⟨fun _ => ⟨(pb_iff p).mp h.1, h.2⟩, fun _ => rfl⟩
  · rw [if_neg h]; exact ⟨fun h2 => by simp at h2, fun h2 => absurd ⟨(pb_iff p).mpr h2.1, h2.2⟩ h⟩
theorem fieldE_two (p : Int) : fieldE p = 0 ∨ fieldE p = 1 := by unfold fieldE; split <;> simp

def outB (p x : Int) : Bool := decide (x < 0) || decide (p ≤ x)
theorem outB_no {p x : Int} : outB p x = false ↔ 0 ≤ x ∧ x < p := by unfold outB; simp
theorem outB_yes {p x : Int} (h : x < 0 ∨ p ≤ x) : outB p x = true := by unfold outB; simp; exact h
theorem any_out {p : Int} {f : List Int} : f.any (outB p) = false ↔ Bnd p f := by
  rw [List.any_eq_false]
  exact ⟨fun h x hx => outB_no.mp (by simpa using h x hx), fun h x hx => by rw [outB_no.mpr (h x hx)]; simp⟩

/-- Check's error. -/
def polyE (p : Int) (f : List Int) : Int := if fieldE p ≠ 0 then 1 else if 40 < f.length then 2 else if f.any (outB p) = true then 1 else if f ≠ [] ∧ nth f (f.length - 1) = 0 then 3 else 0
/-- That of the first, or else that of the second. -/
def bothE (p : Int) (f g : List Int) : Int := if polyE p f ≠ 0 then polyE p f else polyE p g

theorem polyE_zero {p : Int} {f : List Int} : polyE p f = 0 ↔ Prm p ∧ p ≤ 997 ∧ f.length ≤ 40 ∧ Po.Can p f := by
  unfold polyE
  by_cases h1 : fieldE p = 0
  · rw [if_neg (by simpa using h1)]
    have hp := fieldE_zero.mp h1
    by_cases h2 : 40 < f.length
    · rw [if_pos h2]; simp; omega
    · rw [if_neg h2]
      by_cases h3 : f.any (outB p) = true
      · rw [if_pos h3]
        constructor
        · intro h; simp at h
        · rintro ⟨_, _, _, h⟩
          rw [any_out.mpr h.1] at h3
          cases h3
      · rw [if_neg h3]
        have hB := any_out.mp (by simpa using h3)
        by_cases h4 : f ≠ [] ∧ nth f (f.length - 1) = 0
        · rw [if_pos h4]
          constructor
          · intro h; simp at h
          · rintro ⟨_, _, _, h⟩
            exact absurd h4.2 (h.2 h4.1)
        · rw [if_neg h4]
          exact ⟨fun _ => ⟨hp.1, hp.2, by omega, hB, fun hn hz => h4 ⟨hn, hz⟩⟩, fun _ => rfl⟩
  · rw [if_pos h1]
    constructor
    · intro h; simp at h
    · rintro ⟨h2, h3, _⟩
      exact absurd (fieldE_zero.mpr ⟨h2, h3⟩) h1
theorem polyE_bound (p : Int) (f : List Int) : 0 ≤ polyE p f ∧ polyE p f ≤ 3 := by unfold polyE; repeat' split <;> omega
theorem bothE_zero {p : Int} {f g : List Int} : bothE p f g = 0 ↔ Prm p ∧ p ≤ 997 ∧ f.length ≤ 40 ∧ Po.Can p f ∧ g.length ≤ 40 ∧ Po.Can p g := by
  unfold bothE
  by_cases h : polyE p f = 0
  · rw [if_neg (by simpa using h), polyE_zero]
    have h1 := polyE_zero.mp h
    exact ⟨fun h2 => ⟨h1.1, h1.2.1, h1.2.2.1, h1.2.2.2, h2.2.2⟩, fun h2 => ⟨h1.1, h1.2.1, h2.2.2.2.2⟩⟩
  · rw [if_pos h]
    exact ⟨fun h2 => absurd h2 h, fun h2 => absurd (polyE_zero.mpr ⟨h2.1, h2.2.1, h2.2.2.1, h2.2.2.2.1⟩) h⟩
theorem bothE_bound (p : Int) (f g : List Int) : 0 ≤ bothE p f g ∧ bothE p f g ≤ 3 := by unfold bothE; split <;> exact polyE_bound _ _

set_option maxHeartbeats 400000 in
theorem field_any (p : Int) (w : World) : Calls Try.prog 31 #[.int .i64 p] w (Says (.int .i64 (fieldE p)) w) := by
  by_cases h : p < 0 ∨ 1000000 < p
  · have HE : Hid (fieldE p = 1) := Lib.hid (by
      unfold fieldE
      rw [if_neg]
      rintro ⟨h1, h2⟩
      have := ((pb_iff p).mp h1).1
      omega)
    have HC := Lib.hid fun w2 => is_no p w2 h
    clear h
    go_enter Try.func31, Try.ntmps31
    go_wp2_with (go_at_call 52; (with_reducible refine (HC.out _).mono ?_); rintro e w2 ⟨rfl, hw2⟩)
    go_ret
    exact ⟨by rw [HE.out]; rfl, hw2⟩
  · have HC := Lib.hid fun w2 => is_ok p w2 (by omega) (by omega)
    clear h
    cases hb : pb p
    · have HE : Hid (fieldE p = 1) := Lib.hid (by unfold fieldE; rw [if_neg (by simp [hb])])
      rw [hb] at HC
      clear hb
      go_enter Try.func31, Try.ntmps31
      go_wp2_with (go_at_call 52; (with_reducible refine (HC.out _).mono ?_); rintro e w2 ⟨rfl, hw2⟩)
      go_ret
      exact ⟨by rw [HE.out]; rfl, hw2⟩
    · rw [hb] at HC
      by_cases h9 : 997 < p
      · have HE : Hid (fieldE p = 1) := Lib.hid (by unfold fieldE; rw [if_neg (by omega)])
        clear hb
        go_enter Try.func31, Try.ntmps31
        go_wp2_with (go_at_call 52; (with_reducible refine (HC.out _).mono ?_); rintro e w2 ⟨rfl, hw2⟩)
        go_ret
        exact ⟨by rw [HE.out]; rfl, hw2⟩
      · have HE : Hid (fieldE p = 0) := Lib.hid (by unfold fieldE; rw [if_pos ⟨hb, by omega⟩])
        clear hb
        go_enter Try.func31, Try.ntmps31
        go_wp2_with (go_at_call 52; (with_reducible refine (HC.out _).mono ?_); rintro e w2 ⟨rfl, hw2⟩)
        go_ret
        exact ⟨by rw [HE.out]; rfl, hw2⟩

set_option maxHeartbeats 400000 in
theorem fieldErr_any (p : Int) (w : World) : Calls Try.prog 30 #[.int .i64 p] w (Says (.int .i64 (fieldE p)) w) := by
  by_cases h2 : p < 2
  · have HE : Hid (fieldE p = 1) := Lib.hid (by
      unfold fieldE
      rw [if_neg]
      rintro ⟨h1, _⟩
      have := ((pb_iff p).mp h1).1
      omega)
    go_enter Try.func30, Try.ntmps30
    go_wp2
    go_ret
    exact ⟨by rw [HE.out]; rfl, Ex.refl _⟩
  · by_cases h9 : 997 < p
    · have HE : Hid (fieldE p = 1) := Lib.hid (by unfold fieldE; rw [if_neg (by omega)])
      go_enter Try.func30, Try.ntmps30
      go_wp2
      go_ret
      exact ⟨by rw [HE.out]; rfl, Ex.refl _⟩
    · have HC := Lib.hid fun w2 => refPrime_ok p w2 (by omega)
      cases hb : pb p
      · have HE : Hid (fieldE p = 1) := Lib.hid (by unfold fieldE; rw [if_neg (by simp [hb])])
        rw [hb] at HC
        clear hb
        go_enter Try.func30, Try.ntmps30
        go_wp2_with (go_at_call 39; (with_reducible refine (HC.out _).mono ?_); rintro e w2 ⟨rfl, hw2⟩)
        go_ret
        exact ⟨by rw [HE.out]; rfl, hw2⟩
      · have HE : Hid (fieldE p = 0) := Lib.hid (by unfold fieldE; rw [if_pos ⟨hb, by omega⟩])
        rw [hb] at HC
        clear hb
        go_enter Try.func30, Try.ntmps30
        go_wp2_with (go_at_call 39; (with_reducible refine (HC.out _).mono ?_); rintro e w2 ⟨rfl, hw2⟩)
        go_ret
        exact ⟨by rw [HE.out]; rfl, hw2⟩

set_option maxRecDepth 100000 in
set_option maxHeartbeats 1000000 in
theorem pcheck_any (p : Int) (f : List Int) (a : Option Addr) (cap : Nat) (w : World) (hl : f.length ≤ maxLen) (hr : Reads w .i64 a f) :
    Calls Try.prog 49 #[.int .i64 p, .slice a f.length cap] w (Says (.int .i64 (polyE p f)) w) := by
  unfold maxLen at hl
  have HF := Lib.hid fun w2 => field_any p w2
  have HR := Lib.hid hr
  rcases fieldE_two p with h1 | h1
  · rw [h1] at HF
    by_cases h6 : 40 < f.length
    · have HE : Hid (polyE p f = 2) := Lib.hid (by unfold polyE; rw [if_neg (by simpa using h1), if_pos h6])
      have hb : decide ((40 : Int) < (f.length : Int)) = true := decide_eq_true (by omega)
      clear hr h1
      go_enter Try.func49, Try.ntmps49
      go_wp2_with (go_at_call 31; (with_reducible refine (HF.out _).mono ?_); rintro e w2 ⟨rfl, hw2⟩)
      go_ret
      exact ⟨by rw [HE.out]; rfl, hw2⟩
    · have H1 : Hid (f.any (outB p) = true → polyE p f = 1) := Lib.hid fun h => by unfold polyE; rw [if_neg (by simpa using h1), if_neg h6, if_pos h]
      have H3 : Hid (f.any (outB p) = false → f ≠ [] → nth f (f.length - 1) = 0 → polyE p f = 3) := Lib.hid fun h hn hz => by unfold polyE; rw [if_neg (by simpa using h1), if_neg h6, if_neg (by rw [h]; decide), if_pos ⟨hn, hz⟩]
      have H0 : Hid (f.any (outB p) = false → (f ≠ [] → nth f (f.length - 1) ≠ 0) → polyE p f = 0) := Lib.hid fun h hz => by unfold polyE; rw [if_neg (by simpa using h1), if_neg h6, if_neg (by rw [h]; decide), if_neg (fun hc => hz hc.1 hc.2)]
      have h7 : f.length ≤ 40 := by omega
      have hpb : p ≤ 997 := (fieldE_zero.mp h1).2
      have hp2 : 2 ≤ p := (fieldE_zero.mp h1).1.1
      clear hr h6 h1
      go_enter Try.func49, Try.ntmps49
      go_wp2_with (go_at_call 31; (with_reducible refine (HF.out _).mono ?_); rintro e w2 ⟨rfl, hw2⟩)
      go_loopg [18] f.length (fun k vSLOT x => ∃ (t : Nat), t ≤ f.length ∧ vSLOT = .int .i64 t ∧ Hid (∀ j, j < t → outB p (nth f j) = false) ∧ Hid (k = f.length - t) ∧ Ex w x)
      case atStart => exact ⟨0, by omega, rfl, Lib.hid (fun j hj => absurd hj (Nat.not_lt_zero _)), Lib.hid rfl, hw2⟩
      case round =>
        obtain ⟨t, ht, rfl, hB, hk, hx⟩ := hrel
        by_cases hlt : t < f.length
        · rcases (HR.out.ex hx) with hn | ⟨b, off, rfl, hc⟩
          · rw [hn] at hlt; exact absurd hlt (Nat.not_lt_zero _)
          have hct := hc t hlt
          have HB1 : Hid (outB p (nth f t) = true → polyE p f = 1) := Lib.hid fun h => H1.out (List.any_eq_true.mpr ⟨_, nth_mem hlt, h⟩)
          have HB0 : Hid (outB p (nth f t) = false → ∀ j, j < t + 1 → outB p (nth f j) = false) := Lib.hid fun h j hj => by
            rcases Nat.lt_succ_iff_lt_or_eq.mp hj with h2 | h2
            · exact hB.out j h2
            · rw [h2]; exact h
          obtain ⟨x, hxx⟩ : ∃ x, nth f t = x := ⟨_, rfl⟩
          rw [hxx] at hct HB1 HB0
          clear hc hxx
          by_cases x1 : x < 0
          · have HE := Lib.hid (HB1.out (outB_yes (.inl x1)))
            go_wp2
            go_ret
            exact ⟨by rw [HE.out]; rfl, hx⟩
          · by_cases x2 : p ≤ x
            · have HE := Lib.hid (HB1.out (outB_yes (.inr x2)))
              have g1 : decide (x < 0) = false := by simpa using x1
              go_wp2
              go_ret
              exact ⟨by rw [HE.out]; rfl, hx⟩
            · have HE := Lib.hid (HB0.out (outB_no.mpr (by omega)))
              have g1 : decide (x < 0) = false := by simpa using x1
              have g2 : decide (p ≤ x) = false := by simpa using x2
              go_wp2
              go_roundg (f.length - (t + 1))
              case measure => have := hk.out; omega
              case rel => exact ⟨t + 1, by omega, by go_num, HE, Lib.hid rfl, hx⟩
        · have e : t = f.length := by omega
          have HA : Hid (f.any (outB p) = false) := Lib.hid (by
            rw [List.any_eq_false]
            intro y hy
            obtain ⟨j, hj, rfl⟩ := List.getElem_of_mem hy
            have := hB.out j (by omega)
            rw [nth_eq hj] at this
            simp [this])
          have hnl : ¬ ((t : Int) < (f.length : Int)) := by omega
          by_cases h0 : f = []
          · have HE := Lib.hid (H0.out HA.out (fun h => absurd h0 h))
            have hl0 : f.length = 0 := by rw [h0]; rfl
            have hg : decide ((0 : Int) < (f.length : Int)) = false := decide_eq_false (by omega)
            clear h0
            go_wp2
            go_ret
            exact ⟨by rw [HE.out]; rfl, hx⟩
          · have hl0 : 0 < f.length := List.length_pos_iff.mpr h0
            have hg : decide ((0 : Int) < (f.length : Int)) = true := decide_eq_true (by omega)
            rcases (HR.out.ex hx) with hn | ⟨b, off, rfl, hc⟩
            · exact absurd hn h0
            have hct := hc (f.length - 1) (by omega)
            have HZ : Hid (nth f (f.length - 1) = 0 → polyE p f = 3) := Lib.hid (H3.out HA.out h0)
            have HN : Hid (nth f (f.length - 1) ≠ 0 → polyE p f = 0) := Lib.hid fun h => H0.out HA.out (fun _ => h)
            obtain ⟨x, hxx⟩ : ∃ x, nth f (f.length - 1) = x := ⟨_, rfl⟩
            rw [hxx] at hct HZ HN
            subst e
            obtain ⟨M, hM⟩ : ∃ M, f.length = M + 1 := ⟨f.length - 1, by omega⟩
            rw [hM] at hct hg hnl hl0 hl h7 ⊢
            rw [Nat.add_sub_cancel] at hct
            clear hc hxx h0 hM ht hlt hB hk
            by_cases hz : x = 0
            · have HE := Lib.hid (HZ.out hz)
              subst hz
              go_wp2
              go_ret
              exact ⟨by rw [HE.out]; rfl, hx⟩
            · have HE := Lib.hid (HN.out hz)
              have g1 : (x == 0) = false := by simpa using hz
              go_wp2
              go_ret
              exact ⟨by rw [HE.out]; rfl, hx⟩
  · rw [h1] at HF
    have HE : Hid (polyE p f = 1) := Lib.hid (by unfold polyE; rw [if_pos (by rw [h1]; decide)])
    clear hr h1
    go_enter Try.func49, Try.ntmps49
    go_wp2_with (go_at_call 31; (with_reducible refine (HF.out _).mono ?_); rintro e w2 ⟨rfl, hw2⟩)
    go_ret
    exact ⟨by rw [HE.out]; rfl, hw2⟩

set_option maxHeartbeats 400000 in
theorem both_any (p : Int) (f g : List Int) (a b : Option Addr) (ca cb : Nat) (w : World) (hl : f.length ≤ maxLen) (hr : Reads w .i64 a f) (hl2 : g.length ≤ maxLen) (hr2 : Reads w .i64 b g) :
    Calls Try.prog 42 #[.int .i64 p, .slice a f.length ca, .slice b g.length cb] w (Says (.int .i64 (bothE p f g)) w) := by
  have HF := Lib.hid (pcheck_any p f a ca w hl hr)
  have HG := Lib.hid fun w2 (hx : Ex w w2) => pcheck_any p g b cb w2 hl2 (hr2.ex hx)
  clear hr hr2 hl hl2
  by_cases h : polyE p f = 0
  · have HE : Hid (bothE p f g = polyE p g) := Lib.hid (if_neg (by simpa using h))
    rw [h] at HF
    clear h
    go_enter Try.func42, Try.ntmps42
    go_wp2_with (first
      | (go_at_call 49; (with_reducible refine (HF.out).mono ?_); rintro e w2 ⟨rfl, hw2⟩)
      | (go_at_call 49; (with_reducible refine (HG.out _ hw2).mono ?_); rintro e w3 ⟨rfl, hw3⟩))
    go_ret
    exact ⟨by rw [HE.out]; rfl, hw2.trans hw3⟩
  · have HE : Hid (bothE p f g = polyE p f) := Lib.hid (if_pos h)
    obtain ⟨c, hc⟩ : ∃ c, polyE p f = c := ⟨_, rfl⟩
    rw [hc] at HF HE h
    have hb : (c != 0) = true := by simpa using h
    clear h hc
    go_enter Try.func42, Try.ntmps42
    go_wp2_with (go_at_call 49; (with_reducible refine (HF.out).mono ?_); rintro e w2 ⟨rfl, hw2⟩)
    go_ret
    exact ⟨by rw [HE.out]; rfl, hw2⟩

set_option maxHeartbeats 400000 in
theorem outOne_any (p x : Int) (b : Nat) (w : World) (hc : w.cell? ⟨b, 0, none⟩ = some (.int .i64 p)) :
    Calls Try.prog 35 #[.int .i64 x, .pointer (some ⟨b, 0, none⟩)] w (Says (.bool (outB p x)) w) := by
  by_cases h1 : x < 0
  · have HE := Lib.hid (outB_yes (p := p) (.inl h1))
    go_enter Try.func35, Try.ntmps35
    go_wp2
    go_ret
    exact ⟨by rw [HE.out]; rfl, Ex.refl _⟩
  · by_cases h2 : p ≤ x
    · have HE := Lib.hid (outB_yes (.inr h2))
      go_enter Try.func35, Try.ntmps35
      go_wp2
      go_ret
      exact ⟨by rw [HE.out]; simp, Ex.refl _⟩
    · have HE := Lib.hid (outB_no.mpr (by omega : 0 ≤ x ∧ x < p))
      go_enter Try.func35, Try.ntmps35
      go_wp2
      go_ret
      exact ⟨by rw [HE.out]; simp, Ex.refl _⟩

theorem entered_out : Entered Try.prog 35 := fun _ _ => by kernel_rfl

set_option maxRecDepth 100000 in
set_option maxHeartbeats 1000000 in
theorem polyErr_any (p : Int) (f : List Int) (a : Option Addr) (cap : Nat) (w : World) (hl : f.length ≤ maxLen) (hr : Reads w .i64 a f) :
    Calls Try.prog 11 #[.int .i64 p, .slice a f.length cap] w (Says (.int .i64 (polyE p f)) w) := by
  have hxa := (Ex.refl w).alloc (.cells #[.int .i64 p] 3)
  have hb1 : (w.alloc (.cells #[.int .i64 p] 3)).cell? ⟨w.heap.size, 0, none⟩ = some (.int .i64 p) := by
    have := heap_alloc_new w (.cells #[.int .i64 p] 3)
    unfold World.cell?
    simp only [this]
    simp
  have HF := Lib.hid fun w2 => fieldErr_any p w2
  have HC := Lib.hid fun w2 (hx : Ex (w.alloc (.cells #[.int .i64 p] 3)) w2) => ints_contains 35 #[.pointer (some ⟨w.heap.size, 0, none⟩)] (outB p) f a cap w2 hl (hr.ex (hxa.trans hx)) entered_out
    (fun x _ w3 hx3 => outOne_any p x _ w3 ((hx.trans hx3).cell hb1))
  have HR := Lib.hid hr
  have HXA := Lib.hid hxa
  unfold maxLen at hl
  clear hxa
  rcases fieldE_two p with h1 | h1
  · rw [h1] at HF
    by_cases h6 : 40 < f.length
    · have HE : Hid (polyE p f = 2) := Lib.hid (by unfold polyE; rw [if_neg (by simpa using h1), if_pos h6])
      have hb : decide ((40 : Int) < (f.length : Int)) = true := decide_eq_true (by omega)
      clear hr h1 HC
      go_enter Try.func11, Try.ntmps11
      go_wp2_with (go_at_call 30; (with_reducible refine (HF.out _).mono ?_); rintro e w2 ⟨rfl, hw2⟩)
      go_ret
      exact ⟨by rw [HE.out]; rfl, HXA.out.trans hw2⟩
    · cases hany : f.any (outB p)
      · rw [hany] at HC
        by_cases h0 : f = []
        · have HE : Hid (polyE p f = 0) := Lib.hid (by unfold polyE; rw [if_neg (by simpa using h1), if_neg h6, if_neg (by rw [hany]; decide), if_neg (fun h => h.1 h0)])
          subst h0
          rw [show ([] : List Int).length = 0 from rfl] at HC hl ⊢
          clear hr h1 hany h6
          go_enter Try.func11, Try.ntmps11
          go_wp2_with (first
            | (go_at_call 30; (with_reducible refine (HF.out _).mono ?_); rintro e w2 ⟨rfl, hw2⟩)
            | (go_at_call 34; (with_reducible refine (HC.out _ hw2).mono ?_); rintro e w3 ⟨rfl, hw3⟩))
          go_ret
          exact ⟨by rw [HE.out]; rfl, HXA.out.trans (hw2.trans hw3)⟩
        · have hl0 : 0 < f.length := List.length_pos_iff.mpr h0
          have hg : decide ((0 : Int) < (f.length : Int)) = true := decide_eq_true (by omega)
          rcases hr with hn | ⟨b, off, rfl, hc⟩
          · exact absurd hn h0
          have HCT : Hid (∀ w2, Ex w w2 → w2.cell? ⟨b, off + (f.length - 1), none⟩ = some (.int .i64 (nth f (f.length - 1)))) := Lib.hid fun w2 hx => hx.cell (hc (f.length - 1) (by omega))
          have HZ : Hid (nth f (f.length - 1) = 0 → polyE p f = 3) := Lib.hid fun h => by unfold polyE; rw [if_neg (by simpa using h1), if_neg h6, if_neg (by rw [hany]; decide), if_pos ⟨h0, h⟩]
          have HN : Hid (nth f (f.length - 1) ≠ 0 → polyE p f = 0) := Lib.hid fun h => by unfold polyE; rw [if_neg (by simpa using h1), if_neg h6, if_neg (by rw [hany]; decide), if_neg (fun hc => h hc.2)]
          obtain ⟨x, hxx⟩ : ∃ x, nth f (f.length - 1) = x := ⟨_, rfl⟩
          rw [hxx] at HCT HZ HN
          obtain ⟨M, hM⟩ : ∃ M, f.length = M + 1 := ⟨f.length - 1, by omega⟩
          rw [hM] at HCT HC hg hl0 hl h6 ⊢
          rw [Nat.add_sub_cancel] at HCT
          clear hc hxx h0 h1 hany hM
          by_cases hz : x = 0
          · have HE := Lib.hid (HZ.out hz)
            subst hz
            go_enter Try.func11, Try.ntmps11
            go_wp2_with (first
              | (go_at_call 30; (with_reducible refine (HF.out _).mono ?_); rintro e w2 ⟨rfl, hw2⟩)
              | (go_at_call 34; (with_reducible refine (HC.out _ hw2).mono ?_); rintro e w3 ⟨rfl, hw3⟩; have hct := HCT.out _ (HXA.out.trans (hw2.trans hw3))))
            go_ret
            exact ⟨by rw [HE.out]; rfl, HXA.out.trans (hw2.trans hw3)⟩
          · have HE := Lib.hid (HN.out hz)
            have g1 : (x == 0) = false := by simpa using hz
            go_enter Try.func11, Try.ntmps11
            go_wp2_with (first
              | (go_at_call 30; (with_reducible refine (HF.out _).mono ?_); rintro e w2 ⟨rfl, hw2⟩)
              | (go_at_call 34; (with_reducible refine (HC.out _ hw2).mono ?_); rintro e w3 ⟨rfl, hw3⟩; have hct := HCT.out _ (HXA.out.trans (hw2.trans hw3))))
            go_ret
            exact ⟨by rw [HE.out]; rfl, HXA.out.trans (hw2.trans hw3)⟩
      · rw [hany] at HC
        have HE : Hid (polyE p f = 1) := Lib.hid (by unfold polyE; rw [if_neg (by simpa using h1), if_neg h6, if_pos hany])
        clear hr h1 hany
        go_enter Try.func11, Try.ntmps11
        go_wp2_with (first
          | (go_at_call 30; (with_reducible refine (HF.out _).mono ?_); rintro e w2 ⟨rfl, hw2⟩)
          | (go_at_call 34; (with_reducible refine (HC.out _ hw2).mono ?_); rintro e w3 ⟨rfl, hw3⟩))
        go_ret
        exact ⟨by rw [HE.out]; rfl, HXA.out.trans (hw2.trans hw3)⟩
  · rw [h1] at HF
    have HE : Hid (polyE p f = 1) := Lib.hid (by unfold polyE; rw [if_pos (by rw [h1]; decide)])
    clear hr h1 HC
    go_enter Try.func11, Try.ntmps11
    go_wp2_with (go_at_call 30; (with_reducible refine (HF.out _).mono ?_); rintro e w2 ⟨rfl, hw2⟩)
    go_ret
    exact ⟨by rw [HE.out]; rfl, HXA.out.trans hw2⟩

end Go.Proofs.Ytfdhhiibhkepaaa
