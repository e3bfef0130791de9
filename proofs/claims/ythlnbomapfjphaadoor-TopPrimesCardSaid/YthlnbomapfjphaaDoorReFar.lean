/-
  What reed.Put answers, as a structure of contracts; wholekeep.rows; ReedFar.
-/
import Derived.Test.YthlnbomapfjphaaDoorReMath
import Derived.Test.YthlnbomapfjphaaDoorTbFull
import Derived.Test.YthlnbomapfjphaaDoorVecF
import Derived.Test.YthlnbomapfjphaaDoorRowB
import Derived.Test.YthlnbomapfjphaaDoorAns
import Derived.Test.YthlnbomapfjphaaDoorGtb
import Derived.Test.YthlnbomapfjphaaDoorGro
import Derived.Deep.CutRange
import Derived.Deep.DeepCutAuto
namespace Go.Proofs.YthlnbomapfjphaaDoor
open Go.RowKit
open Gf

/-- The error of Put. -/
def rpE (l : Nat) (n : Int) : Int := if l = 0 ∨ 20 < l then 2 else if n < l ∨ 20 < n then 1 else 0
theorem rpE_zero {l : Nat} {n : Int} : rpE l n = 0 ↔ 1 ≤ l ∧ (l : Int) ≤ n ∧ n ≤ 20 := by
  unfold rpE
  by_cases h : l = 0 ∨ 20 < l
  · rw [if_pos h]; exact ⟨fun h => (by cases h), fun h => by omega⟩
  · rw [if_neg h]
    by_cases h2 : n < l ∨ 20 < n
    · rw [if_pos h2]; exact ⟨fun h => (by cases h), fun h => by omega⟩
    · rw [if_neg h2]; exact ⟨fun _ => by omega, fun _ => rfl⟩

/-- A row of one's own, that may be stored into, and no error. -/
def VecO (n : Nat) (F : Nat → E) (w : World) (e : Ending) (w2 : World) : Prop := ∃ g c2, e = .returned (.tuple #[.slice (some ⟨g, 0, none⟩) n c2, .int .i64 0]) ∧ Hid (n ≤ c2 ∧ c2 ≤ 9223372036854775807) ∧ Hid (w.heap.size ≤ g ∧ RowB w2 g n F) ∧ Hid (Full w2 w.heap.size w2.heap.size (.slice (some ⟨g, 0, none⟩) n c2)) ∧ Ex w w2
theorem VecO.vec {n : Nat} {F : Nat → E} {w : World} {e : Ending} {w2 : World} (h : VecO n F w e w2) : Vec2 n F w e w2 := by
  obtain ⟨g, c2, h1, h2, h3, _, h4⟩ := h
  exact ⟨_, c2, h1, h2, Lib.hid ⟨g, 0, rfl, fun k hk => by rw [Nat.zero_add]; exact h3.out.2.1 k hk⟩, h4⟩

structure RePutC : Prop where
  nil : ∀ {z : List Int} {a : Option Addr} {la ca : Nat} {n : Int} {w : World}, z.length = la → la ≤ ca → ca ≤ 9223372036854775807 → Reads w .u8 a z → (∀ x ∈ z, 0 ≤ x ∧ x ≤ 255) → (Lit.int .i64 n).wf = true → rpE la n ≠ 0 → Calls Tryd.prog 25 #[.slice a la ca, .int .i64 n] w (Says (.tuple #[.slice none 0 0, .int .i64 (rpE la n)]) w)
  own : ∀ {F : Nat → E} {k n : Nat} {a : Option Addr} {ca : Nat} {w : World}, 1 ≤ k → k ≤ n → n ≤ 20 → k ≤ ca → ca ≤ 9223372036854775807 → ReadsF w a k F → Calls Tryd.prog 25 #[.slice a k ca, .int .i64 (n : Int)] w (VecO n (cr k F) w)

theorem RePutC.no (HP : RePutC) {z : List Int} {a : Option Addr} {la ca : Nat} {n : Int} {w : World} (h1 : z.length = la) (h2 : la ≤ ca) (h3 : ca ≤ 9223372036854775807) (h4 : Reads w .u8 a z) (h5 : ∀ x ∈ z, 0 ≤ x ∧ x ≤ 255) (h6 : (Lit.int .i64 n).wf = true) (h7 : rpE la n ≠ 0) : Calls Tryd.prog 25 #[.slice a la ca, .int .i64 n] w (Nil2 (rpE la n) w) :=
  (HP.nil h1 h2 h3 h4 h5 h6 h7).mono fun _ _ ⟨he, hx⟩ => ⟨none, 0, he, hx⟩

theorem RePutC.ok (HP : RePutC) {F : Nat → E} {k n : Nat} {a : Option Addr} {ca : Nat} {w : World} (h1 : 1 ≤ k) (h2 : k ≤ n) (h3 : n ≤ 20) (h4 : k ≤ ca) (h5 : ca ≤ 9223372036854775807) (h6 : ReadsF w a k F) : Calls Tryd.prog 25 #[.slice a k ca, .int .i64 (n : Int)] w (Vec2 n (cr k F) w) :=
  (HP.own h1 h2 h3 h4 h5 h6).mono fun _ _ h => h.vec

theorem RePutC.not (HP : RePutC) {z : List Int} {a : Option Addr} {la ca : Nat} {n : Int} {w : World} (h : IsInts .u8 1 w a la ca z) (hn : (Lit.int .i64 n).wf = true) (h0 : rpE la n ≠ 0) : Calls Tryd.prog 25 #[.slice a la ca, .int .i64 n] w (Nil2 (rpE la n) w) :=
  HP.no h.1 h.2.1 (by have := h.2.2.1; omega) h.2.2.2.1 (fun x hx => wf_u8 (h.2.2.2.2.2 x hx)) hn h0
theorem wf_int' {n : Int} (h : I64 n) : (Lit.int .i64 n).wf = true := by
  have h1 : IntKind.i64.min = -9223372036854775808 := rfl
  have h2 : IntKind.i64.max = 9223372036854775807 := rfl
  obtain ⟨h3, h4⟩ := h
  simp [Lit.wf, h1, h2]
  omega
/-- A row of bytes that came in. -/
theorem IsInts.vecF {w : World} {a : Option Addr} {len cap : Nat} {z : List Int} (h : IsInts .u8 1 w a len cap z) (h1 : 1 ≤ len) : ReadsF w a len (fun k => eo (nth z k)) := by
  obtain ⟨e1, _, _, e4, _, e6⟩ := h
  rcases e4 with e4 | ⟨b, off, rfl, hc⟩
  · rw [e4] at e1; simp at e1; omega
  · refine ⟨b, off, rfl, fun k hk => ?_⟩
    have hb := wf_u8 (e6 _ (nth_mem (xs := z) (i := k) (by omega)))
    rw [eo_v hb.1 hb.2]
    exact hc k (by omega)

/-- {5, 7} -/
def l57 : Nat → E := fun k => if k = 0 then ⟨5, by decide⟩ else ⟨7, by decide⟩
theorem cr_57 : (cr 2 l57 0).v = 5 ∧ (cr 2 l57 1).v = 7 ∧ (cr 2 l57 2).v = 1 := by decide +kernel
theorem lit_57 (w : World) (T : TypeId) : ReadsF (w.alloc (.cells #[.int .u8 5, .int .u8 7] T)) (some ⟨w.heap.size, 0, none⟩) 2 l57 := by
  refine ⟨w.heap.size, 0, rfl, fun k hk => ?_⟩
  rw [Nat.zero_add, World.cell?_alloc_new]
  have hk : k = 0 ∨ k = 1 := by omega
  rcases hk with rfl | rfl <;> rfl



end Go.Proofs.YthlnbomapfjphaaDoor
