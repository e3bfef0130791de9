/-
  MatrixCapelli, walked.
-/
import Derived.Test.YthlnbomapfjphaaMatW
import Derived.Test.YthlnbomapfjphaaWide
import Derived.Test.YthlnbomapfjphaaMxCap
namespace Go.Proofs.Ythlnbomapfjphaa
open Go.RowKit
open Gf

/-- A row of bytes that came in. -/
theorem IsInts.row {w : World} {a : Option Addr} {len cap : Nat} {z : List Int} (h : IsInts .u8 1 w a len cap z) (h1 : 1 ≤ len) : ReadsF w a len (fun k => eo (nth z k)) := by
  obtain ⟨e1, _, _, e4, _, e6⟩ := h
  rcases e4 with e4 | ⟨b, off, rfl, hc⟩
  · rw [e4] at e1; simp at e1; omega
  · refine ⟨b, off, rfl, fun k hk => ?_⟩
    have hb := wf_u8 (e6 _ (nth_mem (xs := z) (i := k) (by omega)))
    rw [eo_v hb.1 hb.2]
    exact hc k (by omega)

theorem solE_is {m : List (List Int)} {l : Nat} (h : solE m l ≠ 0) : solE m l = 2 ∨ solE m l = 3 := by
  unfold solE at h ⊢
  rcases tabE_is m with e | e | e
  · rw [if_neg (by simpa using e)] at h ⊢
    by_cases h2 : l ≠ m.length
    · rw [if_pos h2]; exact .inr rfl
    · rw [if_neg h2] at h; exact absurd rfl h
  · rw [if_pos (by rw [e]; decide), e]; exact .inl rfl
  · rw [if_pos (by rw [e]; decide), e]; exact .inr rfl

def lit41 : Nat → E := fun k => if k = 0 then ⟨4, by decide⟩ else 1
def lit61 : Nat → E := fun k => if k = 0 then ⟨6, by decide⟩ else 1
theorem sol_some : Solves (litM [[1, 2], [0, 1]]) 2 2 lit41 lit61 := fun i hi => by
  have : i = 0 ∨ i = 1 := by omega
  rcases this with rfl | rfl <;> exact E.ext (by decide)
theorem sol_one {X : Nat → E} (h : Solves (litM [[1, 2], [0, 1]]) 2 2 lit41 X) : X 0 = ⟨6, by decide⟩ ∧ X 1 = 1 := by
  have h0 := h 0 (by omega)
  have h1 := h 1 (by omega)
  have e : ∀ i, sg (fun k => litM [[1, 2], [0, 1]] i k * X k) (List.range 2) = litM [[1, 2], [0, 1]] i 0 * X 0 + litM [[1, 2], [0, 1]] i 1 * X 1 := fun i => by
    show _ + (_ + 0) = _
    rw [E.add_zero]
  rw [e] at h0 h1
  rw [show litM [[1, 2], [0, 1]] 1 0 = 0 from E.ext (by decide), show litM [[1, 2], [0, 1]] 1 1 = 1 from E.ext (by decide), E.zero_mul, E.zero_add, E.one_mul] at h1
  have h1 : X 1 = 1 := h1
  rw [show litM [[1, 2], [0, 1]] 0 0 = 1 from E.ext (by decide), E.one_mul, h1, E.mul_one] at h0
  refine ⟨?_, h1⟩
  have h2 := congrArg (fun x => x + litM [[1, 2], [0, 1]] 0 1) h0
  rw [E.add_assoc, E.add_self, E.add_zero] at h2
  rw [h2]
  exact E.ext (by decide)

theorem wid_row (A : Nat → Nat → E) (F : Nat → E) (C i : Nat) : bl (A i) C ++ [(((F i).v : Nat) : Int)] = bl (wid A F C i) (C + 1) := by
  rw [← bl_snoc, show wid A F C i C = F i from if_pos rfl]
  congr 1
  unfold bl
  refine List.map_congr_left fun k hk => ?_
  have := List.mem_range.mp hk
  unfold wid
  rw [if_neg (by omega)]

theorem two_cells (w : World) (x y : Int) (T : TypeId) (F : Nat → E) (h0 : (((F 0).v : Nat) : Int) = x) (h1 : (((F 1).v : Nat) : Int) = y) : ReadsF (w.alloc (.cells #[.int .u8 x, .int .u8 y] T)) (some ⟨w.heap.size, 0, none⟩) 2 F :=
  ⟨_, 0, rfl, fun k hk => by
    rw [Nat.zero_add, World.cell?_alloc_new]
    have : k = 0 ∨ k = 1 := by omega
    rcases this with rfl | rfl
    · rw [h0]; rfl
    · rw [h1]; rfl⟩


theorem eq_lit (X : Nat → E) (h0 : X 0 = ⟨6, by decide⟩) (h1 : X 1 = 1) (b1 o1 c1 : Nat) (w : World) (h : ∀ k, k < 2 → w.cell? ⟨b1, o1 + k, none⟩ = some (.int .u8 (((X k).v : Nat) : Int))) :
    Calls Try.prog 15 #[.slice (some ⟨b1, o1, none⟩) 2 c1, .slice (some ⟨w.heap.size, 0, none⟩) 2 2] (w.alloc (.cells #[.int .u8 6, .int .u8 1] 5)) (Says (.bool true) w) := by
  have hx := (Ex.refl w).alloc (.cells #[.int .u8 6, .int .u8 1] 5)
  obtain ⟨b, off, e, hc⟩ := two_cells w 6 1 5 X (by rw [h0]; rfl) (by rw [h1]; rfl)
  simp only [Option.some.injEq, Addr.mk.injEq, and_true] at e
  obtain ⟨rfl, rfl⟩ := e
  exact (sameBytes_any X 2 (by omega) b1 o1 w.heap.size 0 c1 2 _ (fun k hk => hx.cell (h k hk)) hc).mono fun e w2 ⟨k1, k2⟩ => ⟨k1, hx.trans k2⟩


end Go.Proofs.Ythlnbomapfjphaa
