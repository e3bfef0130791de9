/-
  TablesOwn's tools: slices.Clone at any bytes; rows that came in, as values; what Mul, Inverse and Put answer, whatever came in.
-/
import Derived.Test.YthlnbomapfjphaaTbMul
import Derived.Test.YthlnbomapfjphaaTbCat
import Derived.Test.YthlnbomapfjphaaGre
import Derived.Test.YthlnbomapfjphaaTpBase
namespace Go.Proofs.Ythlnbomapfjphaa
open Go.RowKit
open Gf

set_option maxHeartbeats 1000000 in
theorem clone_any {xs : List Int} {L c : Nat} {a : Option Addr} {w : World} (hL : xs.length = L) (hb : L ≤ 1048576) (hr : Reads w .u8 a xs) (hnil : a = none → c = 0) :
    Calls Try.prog 27 #[.slice a L c] w (fun e w2 => ∃ a2 c2, e = .returned (.slice a2 L c2) ∧ Hid (L ≤ c2 ∧ c2 ≤ maxLen ∧ (a2 = none → c2 = 0)) ∧ Hid (Reads w2 .u8 a2 xs) ∧ Hid (∀ p, a2 = some p → w.heap.size ≤ p.block ∧ p.block < w2.heap.size) ∧ Ex w w2) := by
  have q22 : ∀ (w : World) (a : Option Addr) (n c n' c' : Nat), (binOp .eql 22 (.slice a n c) (.slice none n' c')).run Try.prog w = .ok (.bool a.isNone) w := fun w a n c n' c' => Lib.run_eql_slice_nil w _ _ a n c n' c' Try.underlying22
  cases a with
  | none =>
    have hx : xs = [] := by
      rcases hr with h | ⟨_, _, h, _⟩
      · exact h
      · cases h
    subst hx
    subst hL
    have hc := hnil rfl
    subst hc
    have HR := Lib.hid hr
    clear hr hnil
    go_enter Try.func27, Try.ntmps27
    go_wp2
    go_ret
    exact ⟨none, 0, rfl, Lib.hid ⟨Nat.le_refl _, Nat.zero_le _, fun _ => rfl⟩, HR, Lib.hid (fun p h => by cases h), Ex.refl _⟩
  | some p =>
    have HX := Lib.hid ((Ex.refl w).alloc (.cells #[] 5))
    have HR := Lib.hid (hr.ex HX.out)
    have HO : Hid (Row 5 .u8 (w.alloc (.cells #[] 5)) w.heap.size (.slice (some ⟨w.heap.size, 0, none⟩) 0 0) []) := Lib.hid (row_new 5 .u8 w w.heap.size (Nat.le_refl _) [] #[] rfl (by simp))
    have HL := Lib.hid hL
    clear hr hL hnil
    go_enter Try.func27, Try.ntmps27
    go_wp2_with (
      (at_builtin; refine wpList_append_ints rfl _ _ 22 rfl w.heap.size 5 .u8 1 Try.underlying22 info_u8 _ [] rfl HO.out (some p) c xs (by rw [HL.out]; rfl) (by intro h; cases h) HR.out (by rw [HL.out]; simp; unfold maxLen; omega) (by rw [HL.out]; simp; omega) HX.out.size ?_; intro v' w3 hown3 hgrow3 _))
    have hx3 := HO.out.grown HX.out hgrow3
    have hown4 : Row 5 .u8 w3 w.heap.size v' xs := by simpa using hown3
    rcases hown4.form with ⟨rfl, h0⟩ | ⟨g, cap, rfl, g1, g2, h1, h2, hc, _⟩
    · have : L = 0 := by rw [← HL.out, h0]; rfl
      subst this
      go_ret
      exact ⟨none, 0, rfl, Lib.hid ⟨Nat.le_refl _, Nat.zero_le _, fun _ => rfl⟩, Lib.hid (.inl h0), Lib.hid (fun p h => by cases h), hx3⟩
    · rw [HL.out] at h1 ⊢
      go_ret
      exact ⟨_, cap, rfl, Lib.hid ⟨h1, h2, fun h => by cases h⟩, Lib.hid (.inr ⟨g, 0, rfl, fun i hi => by rw [Nat.zero_add]; exact hc i hi⟩), Lib.hid (fun p h => by cases h; exact ⟨g1, g2⟩), hx3⟩

theorem Reads.kept {k : IntKind} {w w2 : World} {a : Option Addr} {xs : List Int} {own : Option Nat} (h : Reads w k a xs) (hg : w.grownBy w2 own) (ha : ∀ p, a = some p → some p.block ≠ own) : Reads w2 k a xs := by
  rcases h with h | ⟨b, off, rfl, hc⟩
  · exact .inl h
  · exact .inr ⟨b, off, rfl, fun i hi => hg.cell (hc i hi) (ha ⟨b, off, none⟩ rfl)⟩
/-- Rows that lie apart of a block. -/
def Ap (w : World) (us : List Value) (own : Option Nat) : Prop := ∀ r, r < us.length → ∀ p n c, nthV us r = .slice (some p) n c → some p.block ≠ own ∧ p.block < w.heap.size
theorem Slcs.kept {k : IntKind} {w w2 : World} {us : List Value} {m : List (List Int)} {own : Option Nat} (h : Slcs k w us m) (hg : w.grownBy w2 own) (ha : Ap w us own) : Slcs k w2 us m := by
  refine ⟨h.1, fun r hr => ?_⟩
  obtain ⟨ar, c, h1, h2, h3⟩ := h.2 r hr
  refine ⟨ar, c, h1, h2.kept hg fun p hp => ?_, h3⟩
  subst hp
  exact (ha r (by rw [h.1]; exact hr) p _ c h1).1
theorem Ap.nil (w : World) (own : Option Nat) : Ap w [] own := fun _ hr => absurd hr (Nat.not_lt_zero _)
theorem Ap.ex {w w2 : World} {us : List Value} {own : Option Nat} (h : Ap w us own) (hs : w.heap.size ≤ w2.heap.size) : Ap w2 us own := fun r hr p n c e => ⟨(h r hr p n c e).1, Nat.lt_of_lt_of_le (h r hr p n c e).2 hs⟩
theorem Ap.snoc {w : World} {us : List Value} {own : Option Nat} (h : Ap w us own) {a : Option Addr} {L c : Nat} (ha : ∀ p, a = some p → some p.block ≠ own ∧ p.block < w.heap.size) : Ap w (us ++ [.slice a L c]) own := fun r hr p n c2 e => by
  rw [nthV_snoc] at e
  by_cases h1 : r < us.length
  · rw [if_pos h1] at e
    exact h r h1 p n c2 e
  · rw [List.length_append] at hr
    have hr2 : r < us.length + 1 := hr
    rw [if_neg h1, if_pos (by omega)] at e
    simp only [Value.slice.injEq] at e
    exact ha p e.1
/-- The row moves: into a block that is new. -/
theorem Ap.moved {w : World} {us : List Value} {own own2 : Option Nat} (h : Ap w us own) (hb : own2 = own ∨ own2 = some w.heap.size) : Ap w us own2 := fun r hr p n c e => by
  obtain ⟨h1, h2⟩ := h r hr p n c e
  refine ⟨?_, h2⟩
  rcases hb with hb | hb
  · rw [hb]; exact h1
  · rw [hb]; intro e2; have := Option.some.inj e2; omega

theorem RowV.hands {e : TypeId} {w : World} {base n : Nat} {v : Value} {us : List Value} (h : RowV e w base v us) (hn : us.length = n) : ∃ a c, v = .slice a n c ∧ Hid (ReadsV w a n (nthV us)) := by
  subst hn
  rcases h.form with ⟨rfl, h0⟩ | ⟨g, cap, rfl, _, _, _, _, hc, _⟩
  · subst h0
    exact ⟨none, 0, rfl, Lib.hid (.inl rfl)⟩
  · exact ⟨_, cap, rfl, Lib.hid (.inr ⟨g, 0, rfl, fun i hi => by rw [Nat.zero_add]; exact hc i hi⟩)⟩
/-- The rows of what Mul or Inverse answers. -/
theorem tabRows {K c lo hi : Nat} {a : Option Addr} {w : World} (h : (K = 0 ∧ a = none ∧ c = 0) ∨ (1 ≤ K ∧ Fulls w lo hi a K)) : ∃ us : List Value, us.length = K ∧ Slis us ∧ ReadsV w a K (nthV us) ∧ (∀ r, r < K → Full w lo hi (nthV us r)) ∧ (a = none → c = 0) := by
  rcases h with ⟨rfl, rfl, rfl⟩ | ⟨h1, g, off, rfl, hr⟩
  · exact ⟨[], rfl, fun u hu => (by cases hu), .inl rfl, fun r hr => absurd hr (Nat.not_lt_zero _), fun _ => rfl⟩
  · refine ⟨(List.range K).map fun r => (w.cell? ⟨g, off + r, none⟩).getD undef, by simp, fun u hu => ?_, .inr ⟨g, off, rfl, fun r hr2 => ?_⟩, fun r hr2 => ?_, fun h => by cases h⟩
    · obtain ⟨r, hr2, rfl⟩ := List.mem_map.mp hu
      obtain ⟨v, k1, g2, n, c2, rfl, _⟩ := hr r (List.mem_range.mp hr2)
      rw [k1]; rfl
    · obtain ⟨v, k1, _⟩ := hr r hr2
      rw [nthV_eq (by simpa using hr2)]
      simp [k1]
    · obtain ⟨v, k1, k2⟩ := hr r hr2
      rw [nthV_eq (by simpa using hr2)]
      simp only [List.getElem_map, List.getElem_range, k1, Option.getD_some]
      exact k2
theorem nthV_append {x y : List Value} {r : Nat} : nthV (x ++ y) r = if r < x.length then nthV x r else nthV y (r - x.length) := by
  unfold nthV
  by_cases h : r < x.length
  · rw [if_pos h, List.getD_eq_getElem?_getD, List.getD_eq_getElem?_getD, List.getElem?_append_left h]
  · rw [if_neg h, List.getD_eq_getElem?_getD, List.getD_eq_getElem?_getD, List.getElem?_append_right (by omega)]

/-- A table that came in: its rows as values. -/
theorem IsMat.vals {w : World} {a : Option Addr} {len cap : Nat} {m : List (List Int)} (h : IsMat .u8 w a len cap m) : ∃ us : List Value, us.length = len ∧ Slis us ∧ ReadsV w a len (nthV us) ∧ Slcs .u8 w us m := by
  obtain ⟨h1, _, _, h4, _, _⟩ := h
  rcases h4 with rfl | ⟨b, off, rfl, hc⟩
  · have : len = 0 := h1.symm
    subst this
    exact ⟨[], rfl, fun u hu => (by cases hu), .inl rfl, Slcs.nil _ _⟩
  · refine ⟨(List.range len).map fun r => (w.cell? ⟨b, off + r, none⟩).getD undef, by simp, fun u hu => ?_, .inr ⟨b, off, rfl, fun r hr => ?_⟩, by simp [h1], fun r hr => ?_⟩
    · obtain ⟨r, hr, rfl⟩ := List.mem_map.mp hu
      obtain ⟨ar, c, k1, _⟩ := hc r (by rw [h1]; exact List.mem_range.mp hr)
      rw [k1]; rfl
    · obtain ⟨ar, c, k1, _⟩ := hc r (by omega)
      rw [nthV_eq (by simpa using hr)]
      simp [k1]
    · obtain ⟨ar, c, k1, k2, k3, k4, k5⟩ := hc r (by omega)
      rw [nthV_eq (by simp; omega)]
      simp only [List.getElem_map, List.getElem_range, k1, Option.getD_some]
      exact ⟨ar, c, rfl, k2, k3, k4, k5⟩

end Go.Proofs.Ythlnbomapfjphaa
