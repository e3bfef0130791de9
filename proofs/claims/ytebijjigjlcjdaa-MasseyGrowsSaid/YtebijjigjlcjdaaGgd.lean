/-
  Several texts in one:
  - What package grid answers, as structures of contracts.
  - slices.Index, slices.Contains and slices.ContainsFunc at bytes.
  - Package grid: what Powers and Crossed answer.
  - Package grid: Powers and Crossed.
-/
import Derived.Test.YtebijjigjlcjdaaMatW
import Derived.Test.YtebijjigjlcjdaaGms
import Derived.Test.YtebijjigjlcjdaaGpv
import Derived.Test.YtebijjigjlcjdaaGro
import Derived.Test.YtebijjigjlcjdaaGtb
import Derived.Test.YtebijjigjlcjdaaGmd
namespace Go.Proofs.Ytebijjigjlcjdaa
open Go.RowKit
open Gf

/-- A row's bytes. -/
def rwb (z : List Int) (i : Nat) : E := eo (nth z i)
/-- The error of a row whose bytes must be unlike. -/
def unE (z : List Int) : Int := if z.length = 0 ∨ 12 < z.length then 2 else if z.Nodup then 0 else 6
def powE (z : List Int) (n : Int) : Int := if unE z ≠ 0 then unE z else if n < 1 ∨ 12 < n then 1 else 0
def crE (y z : List Int) : Int := if unE y ≠ 0 then unE y else if unE z ≠ 0 then unE z else if ∃ x ∈ z, x ∈ y then 6 else 0

theorem unE_zero {z : List Int} : unE z = 0 ↔ 1 ≤ z.length ∧ z.length ≤ 12 ∧ z.Nodup := by
  unfold unE
  by_cases h : z.length = 0 ∨ 12 < z.length
  · rw [if_pos h]
    exact ⟨fun h => (by cases h), fun ⟨h1, h2, _⟩ => by omega⟩
  · rw [if_neg h]
    by_cases h2 : z.Nodup
    · rw [if_pos h2]; exact ⟨fun _ => ⟨by omega, by omega, h2⟩, fun _ => rfl⟩
    · rw [if_neg h2]; exact ⟨fun h => (by cases h), fun h => absurd h.2.2 h2⟩
theorem powE_zero {z : List Int} {n : Int} : powE z n = 0 ↔ unE z = 0 ∧ 1 ≤ n ∧ n ≤ 12 := by
  unfold powE
  by_cases h : unE z = 0
  · rw [if_neg (by simpa using h)]
    by_cases h2 : n < 1 ∨ 12 < n
    · rw [if_pos h2]; exact ⟨fun h => (by cases h), fun h => by omega⟩
    · rw [if_neg h2]; exact ⟨fun _ => ⟨h, by omega, by omega⟩, fun _ => rfl⟩
  · rw [if_pos h]; exact ⟨fun e => absurd e h, fun e => absurd e.1 h⟩
theorem crE_zero {y z : List Int} : crE y z = 0 ↔ unE y = 0 ∧ unE z = 0 ∧ ∀ x ∈ z, x ∉ y := by
  unfold crE
  by_cases h : unE y = 0
  · rw [if_neg (by simpa using h)]
    by_cases h1 : unE z = 0
    · rw [if_neg (by simpa using h1)]
      by_cases h2 : ∃ x ∈ z, x ∈ y
      · rw [if_pos h2]
        refine ⟨fun h => (by cases h), fun h => ?_⟩
        obtain ⟨x, h3, h4⟩ := h2
        exact absurd h4 (h.2.2 x h3)
      · rw [if_neg h2]; exact ⟨fun _ => ⟨h, h1, fun x h3 h4 => h2 ⟨x, h3, h4⟩⟩, fun _ => rfl⟩
    · rw [if_pos h1]; exact ⟨fun e => absurd e h1, fun e => absurd e.2.1 h1⟩
  · rw [if_pos h]; exact ⟨fun e => absurd e h, fun e => absurd e.1 h⟩

theorem len_wf {n : Nat} (h : n ≤ 140737488351232) : (Lit.int .i64 (n : Int)).wf = true := by
  have h1 : IntKind.i64.min = -9223372036854775808 := rfl
  have h2 : IntKind.i64.max = 9223372036854775807 := rfl
  simp [Lit.wf, h1, h2]
  omega
theorem IsInts.byte {w : World} {a : Option Addr} {len cap : Nat} {z : List Int} (h : IsInts .u8 1 w a len cap z) {i : Nat} (hi : i < z.length) : 0 ≤ nth z i ∧ nth z i ≤ 255 := wf_u8 (h.2.2.2.2.2 _ (nth_mem hi))
theorem IsInts.rwb_v {w : World} {a : Option Addr} {len cap : Nat} {z : List Int} (h : IsInts .u8 1 w a len cap z) {i : Nat} (hi : i < z.length) : (((rwb z i).v : Nat) : Int) = nth z i := eo_v (h.byte hi).1 (h.byte hi).2
/-- Unlike numbers, unlike bytes. -/
theorem IsInts.unlike {w : World} {a : Option Addr} {len cap : Nat} {z : List Int} (h : IsInts .u8 1 w a len cap z) (hn : z.Nodup) : ∀ i k, k < i → i < len → rwb z i ≠ rwb z k := fun i k hk hi e => by
  have hl := h.1
  have e1 := h.rwb_v (i := i) (by omega)
  have e2 := h.rwb_v (i := k) (by omega)
  rw [e] at e1
  have e3 : nth z i = nth z k := e1.symm.trans e2
  rw [nth_eq (by omega), nth_eq (by omega)] at e3
  have := (List.getElem_inj hn).mp e3
  omega
theorem IsInts.vec {w : World} {a : Option Addr} {len cap : Nat} {z : List Int} (h : IsInts .u8 1 w a len cap z) (h1 : 1 ≤ len) : ReadsF w a len (rwb z) := h.row h1

end Go.Proofs.Ytebijjigjlcjdaa

namespace Go.Proofs.Ytebijjigjlcjdaa
open Go.RowKit

set_option maxHeartbeats 400000 in
theorem byts_contains (f : FuncId) (cs : Array Value) (p : Nat → Bool) (us : Nat → Value) (n : Nat) (a : Option Addr) (cap : Nat) (w : World) (hl : n ≤ maxLen) (hr : ReadsV w a n us) (hf : Entered Try.prog f) (hp : SaysAt Try.prog f cs p n us w) :
    Calls Try.prog 22 #[.slice a n cap, .func (.func f) #[] cs] w (Says (.bool (anyP p n)) w) := by
  have HI := Lib.hid (byts_index f cs p us n a cap w hl hr hf hp)
  clear hr hp
  go_enter Try.func22, Try.ntmps22
  go_wp2_with ((go_at_call 29; refine (HI.out).mono ?_; rintro e w2 ⟨rfl, hw2⟩))
  go_ret
  exact ⟨rfl, hw2⟩

end Go.Proofs.Ytebijjigjlcjdaa

namespace Go.Proofs.Ytebijjigjlcjdaa
open Go.RowKit
open Gf

end Go.Proofs.Ytebijjigjlcjdaa

namespace Go.Proofs.Ytebijjigjlcjdaa
open Go.RowKit
open Gf

theorem cell_box (w : World) (v : Value) (T : TypeId) : (w.alloc (.cells #[v] T)).cell? ⟨w.heap.size, 0, none⟩ = some v := by
  have := heap_alloc_new w (.cells #[v] T)
  unfold World.cell?
  simp only [this]
  simp

end Go.Proofs.Ytebijjigjlcjdaa
