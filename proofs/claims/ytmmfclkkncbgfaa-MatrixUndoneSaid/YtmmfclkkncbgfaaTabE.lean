/-
  wholeref: TableErr; tables of bytes as functions.
-/
import Derived.Test.YtmmfclkkncbgfaaTab
namespace Go.Proofs.Ytmmfclkkncbgfaa
open Go.RowKit
open Gf

/-- A number as an element of the field. -/
def eo (x : Int) : E := ⟨x.toNat % 256, Nat.mod_lt _ (by decide)⟩
theorem eo_v {x : Int} (h0 : 0 ≤ x) (h1 : x ≤ 255) : (((eo x).v : Nat) : Int) = x := by
  show ((x.toNat % 256 : Nat) : Int) = x
  omega
/-- The entries. -/
def tbl (m : List (List Int)) (r k : Nat) : E := eo (nth (rowM m r) k)

/-- The slice at a reads as R rows of C bytes. -/
def ReadsT (w : World) (a : Option Addr) (R C : Nat) (M : Nat → Nat → E) : Prop :=
  ∃ b off, a = some ⟨b, off, none⟩ ∧ ∀ r, r < R → ∃ br orr c, w.cell? ⟨b, off + r, none⟩ = some (.slice (some ⟨br, orr, none⟩) C c) ∧ C ≤ c ∧ c ≤ maxLen ∧ ∀ k, k < C → w.cell? ⟨br, orr + k, none⟩ = some (.int .u8 (((M r k).v : Nat) : Int))
theorem ReadsT.ex {w w2 : World} {a : Option Addr} {R C : Nat} {M : Nat → Nat → E} (h : ReadsT w a R C M) (hx : Ex w w2) : ReadsT w2 a R C M := by
  obtain ⟨b, off, h1, h2⟩ := h
  refine ⟨b, off, h1, fun r hr => ?_⟩
  obtain ⟨br, orr, c, k1, k2, k3, k4⟩ := h2 r hr
  exact ⟨br, orr, c, hx.cell k1, k2, k3, fun k hk => hx.cell (k4 k hk)⟩
theorem ReadsT.congr {w : World} {a : Option Addr} {R C : Nat} {M N : Nat → Nat → E} (h : ReadsT w a R C M) (he : ∀ r, r < R → ∀ k, k < C → M r k = N r k) : ReadsT w a R C N := by
  obtain ⟨b, off, h1, h2⟩ := h
  refine ⟨b, off, h1, fun r hr => ?_⟩
  obtain ⟨br, orr, c, k1, k2, k3, k4⟩ := h2 r hr
  exact ⟨br, orr, c, k1, k2, k3, fun k hk => by rw [← he r hr k hk]; exact k4 k hk⟩

/-- The error of a table. -/
def tabE (m : List (List Int)) : Int :=
  if m.length = 0 ∨ 12 < m.length ∨ (rowM m 0).length = 0 ∨ 12 < (rowM m 0).length then 2
  else if anyP (fun r => (rowM m r).length != (rowM m 0).length) m.length then 3 else 0
theorem tabE_zero {m : List (List Int)} : tabE m = 0 ↔ 1 ≤ m.length ∧ m.length ≤ 12 ∧ 1 ≤ (rowM m 0).length ∧ (rowM m 0).length ≤ 12 ∧ ∀ r, r < m.length → (rowM m r).length = (rowM m 0).length := by
  unfold tabE
  by_cases h : m.length = 0 ∨ 12 < m.length ∨ (rowM m 0).length = 0 ∨ 12 < (rowM m 0).length
  · rw [if_pos h]
    constructor
    · intro h; cases h
    · intro h2; omega
  · rw [if_neg h]
    constructor
    · intro h2
      by_cases h3 : anyP (fun r => (rowM m r).length != (rowM m 0).length) m.length = true
      · rw [if_pos h3] at h2; cases h2
      · refine ⟨by omega, by omega, by omega, by omega, fun r hr => ?_⟩
        exact Decidable.byContradiction fun hc => h3 (anyP_yes hr (by simpa using hc))
    · rintro ⟨_, _, _, _, h4⟩
      rw [if_neg]
      intro h3
      obtain ⟨k, hk, h5⟩ := anyP_iff.mp h3
      simp [h4 k hk] at h5
theorem tabE_is (m : List (List Int)) : tabE m = 0 ∨ tabE m = 2 ∨ tabE m = 3 := by
  unfold tabE
  split
  · exact .inr (.inl rfl)
  · split
    · exact .inr (.inr rfl)
    · exact .inl rfl

/-- A table that came in, with no error. -/
theorem IsMat.tab {w : World} {a : Option Addr} {len cap : Nat} {m : List (List Int)} (h : IsMat .u8 w a len cap m) (h0 : tabE m = 0) : ReadsT w a len (rowM m 0).length (tbl m) := by
  obtain ⟨h1, h2, h3, h4, h5, h6⟩ := h
  obtain ⟨e1, e2, e3, e4, e5⟩ := tabE_zero.mp h0
  rcases h4 with h4 | ⟨b, off, g1, g2⟩
  · rw [h4] at e1; simp at e1
  · refine ⟨b, off, g1, fun r hr => ?_⟩
    obtain ⟨ar, c, k1, k2, k3, k4, k5⟩ := g2 r (by omega)
    have hl := e5 r (by omega)
    rcases k2 with k2 | ⟨br, orr, k6, k7⟩
    · rw [k2] at hl; simp at hl; omega
    · subst k6
      rw [hl] at k1 k3 k7
      refine ⟨br, orr, c, k1, k3, k4, fun k hk => ?_⟩
      have hb := (h6 _ (rowM_mem (by omega : r < m.length))).1 _ (nth_mem (xs := rowM m r) (i := k) (by omega))
      have hb2 := wf_u8 hb
      unfold tbl
      rw [eo_v hb2.1 hb2.2]
      exact k7 k hk

theorem int_bne (x y : Nat) : ((x : Int) != (y : Int)) = (x != y) := by
  rw [Bool.eq_iff_iff]
  simp
  omega
theorem cell_fresh1 (w : World) (x : Value) (t : TypeId) : (w.alloc (.cells #[x] t)).cell? ⟨w.heap.size, 0, none⟩ = some x := by simp

theorem unlike_any (ar : Option Addr) (L c : Nat) (t : Addr) (a : Option Addr) (len cap : Nat) (b off : Nat) (a0 : Option Addr) (L0 c0 : Nat) (w : World) (ha : a = some ⟨b, off, none⟩) (h1 : 1 ≤ len)
    (hb : w.cell? t = some (.slice a len cap)) (hc : w.cell? ⟨b, off, none⟩ = some (.slice a0 L0 c0)) :
    Calls Try.prog 33 (#[.slice ar L c] ++ #[.pointer (some t)]) w (Says (.bool (L != L0)) w) := by
  subst ha
  go_enter Try.func33, Try.ntmps33
  go_wp2
  go_ret
  exact ⟨by rw [← int_bne]; rfl, Ex.refl _⟩
theorem entered_unlike : Entered Try.prog 33 := fun _ _ => by kernel_rfl

set_option maxRecDepth 100000 in
set_option maxHeartbeats 1000000 in
theorem tableErr_any (m : List (List Int)) (a : Option Addr) (len cap : Nat) (w : World) (hm : m.length = len) (hl : len ≤ maxLen) (hr : ReadsM .u8 w a m) (hrow : ∀ r ∈ m, r.length ≤ maxLen) :
    Calls Try.prog 13 #[.slice a len cap] w (Says (.int .i64 (tabE m)) w) := by
  have hl' := hl
  unfold maxLen at hl
  by_cases h1 : len = 0
  · have e : tabE m = 2 := by unfold tabE; rw [if_pos (.inl (hm.trans h1))]
    rw [e]
    subst h1
    clear hr hrow e hm
    go_enter Try.func13, Try.ntmps13
    go_wp2
    go_ret
    exact ⟨rfl, (Ex.refl _).alloc _⟩
  by_cases h2 : 12 < len
  · have e : tabE m = 2 := by unfold tabE; rw [if_pos (.inr (.inl (by omega)))]
    rw [e]
    clear hr hrow e hm
    go_enter Try.func13, Try.ntmps13
    go_wp2
    go_ret
    exact ⟨rfl, (Ex.refl _).alloc _⟩
  rcases hr with h0 | ⟨b, off, rfl, hc⟩
  · rw [h0] at hm; exact absurd hm.symm h1
  obtain ⟨a0, c0, k1, _, k3, k4, _⟩ := hc 0 (by omega)
  rw [Nat.add_zero] at k1
  obtain ⟨L0, hL0⟩ : ∃ L, (rowM m 0).length = L := ⟨_, rfl⟩
  have hL0m : L0 ≤ maxLen := by rw [← hL0]; exact hrow _ (rowM_mem (by omega))
  rw [hL0] at k1 k3
  have kx := ((Ex.refl w).alloc (.cells #[.slice (some ⟨b, off, none⟩) len cap] 22)).cell k1
  have hbx := cell_fresh1 w (.slice (some ⟨b, off, none⟩) len cap) 22
  by_cases h3 : L0 = 0 ∨ 12 < L0
  · have e : tabE m = 2 := by unfold tabE; rw [if_pos (by rw [hL0]; omega)]
    rw [e]
    clear e hm hL0 hL0m hrow hc k1 hl'
    rcases h3 with rfl | h3
    · go_enter Try.func13, Try.ntmps13
      go_wp2
      go_ret
      exact ⟨rfl, (Ex.refl _).alloc _⟩
    · unfold maxLen at k4
      go_enter Try.func13, Try.ntmps13
      go_wp2
      go_ret
      exact ⟨rfl, (Ex.refl _).alloc _⟩
  · have e : tabE m = if anyP (fun r => (rowM m r).length != L0) len then 3 else 0 := by
      unfold tabE; rw [if_neg (by rw [hL0, hm]; omega), hL0, hm]
    obtain ⟨us, hus⟩ : ∃ us : Nat → Value, ∀ r, r < len → w.cell? ⟨b, off + r, none⟩ = some (us r) ∧ ∃ ar c, us r = .slice ar (rowM m r).length c :=
      ⟨fun r => (w.cell? ⟨b, off + r, none⟩).getD undef, fun r hr => by
        obtain ⟨ar, c, g1, _⟩ := hc r (by omega)
        exact ⟨by show _ = some ((w.cell? _).getD undef); rw [g1]; rfl, ar, c, by show (w.cell? _).getD undef = _; rw [g1]; rfl⟩⟩
    have hx := (Ex.refl w).alloc (.cells #[.slice (some ⟨b, off, none⟩) len cap] 22)
    have HI := Lib.hid (slcs_contains 33 #[.pointer (some ⟨w.heap.size, 0, none⟩)] (fun r => (rowM m r).length != L0) us len (some ⟨b, off, none⟩) cap (w.alloc (.cells #[.slice (some ⟨b, off, none⟩) len cap] 22)) hl'
      (.inr ⟨b, off, rfl, fun i hi => hx.cell (hus i hi).1⟩) entered_unlike (fun i hi w2 hx2 => by
        obtain ⟨ar, c, e2⟩ := (hus i hi).2
        rw [e2]
        exact unlike_any ar _ c _ _ len cap b off a0 L0 c0 w2 rfl (by omega) (hx2.cell hbx) (hx2.cell kx)))
    obtain ⟨V, hV⟩ : ∃ V, anyP (fun r => (rowM m r).length != L0) len = V := ⟨_, rfl⟩
    rw [hV] at e HI
    rw [e]
    clear hV
    cases V
    all_goals
      first | rw [if_neg (by decide)] | rw [if_pos rfl]
      clear e hm hL0 hL0m hrow hc k1 hl' hus
      unfold maxLen at k4
      have z1 : ((len : Int) == 0) = false := by simp; omega
      have z2 : decide ((12 : Int) < (len : Int)) = false := decide_eq_false (by omega)
      have z3 : ((L0 : Int) == 0) = false := by simp; omega
      have z4 : decide ((12 : Int) < (L0 : Int)) = false := decide_eq_false (by omega)
      go_enter Try.func13, Try.ntmps13
      go_wp2_with (go_at_call 32; (with_reducible refine (HI.out).mono ?_); rintro e w2 ⟨rfl, hw2⟩)
      go_ret
      exact ⟨rfl, hx.trans hw2⟩

end Go.Proofs.Ytmmfclkkncbgfaa
