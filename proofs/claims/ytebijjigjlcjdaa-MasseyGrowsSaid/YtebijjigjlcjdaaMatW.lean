/-
  wholekeep: tables; literal tables.
-/
import Derived.Test.YtebijjigjlcjdaaGmj
import Derived.Test.YtebijjigjlcjdaaGmk
import Derived.Test.YtebijjigjlcjdaaGro
namespace Go.Proofs.Ytebijjigjlcjdaa
open Go.RowKit
open Gf

/-- {{a, b}, {c, d}} -/
theorem lit22 (w : World) (a b c d : Nat) (T T2 : TypeId) (ha : a < 256) (hb : b < 256) (hc : c < 256) (hd : d < 256) :
    ReadsT (((w.alloc (.cells #[.int .u8 (a : Int), .int .u8 (b : Int)] T)).alloc (.cells #[.int .u8 (c : Int), .int .u8 (d : Int)] T)).alloc (.cells #[.slice (some ⟨w.heap.size, 0, none⟩) 2 2, .slice (some ⟨w.heap.size + 1, 0, none⟩) 2 2] T2)) (some ⟨w.heap.size + 2, 0, none⟩) 2 2 (litM [[a, b], [c, d]]) := by
  have s1 : (w.alloc (.cells #[.int .u8 (a : Int), .int .u8 (b : Int)] T)).heap.size = w.heap.size + 1 := World.size_alloc _ _
  have s2 : ((w.alloc (.cells #[.int .u8 (a : Int), .int .u8 (b : Int)] T)).alloc (.cells #[.int .u8 (c : Int), .int .u8 (d : Int)] T)).heap.size = w.heap.size + 2 := by rw [World.size_alloc, s1]
  have o := fun i => World.cell?_alloc_new ((w.alloc (.cells #[.int .u8 (a : Int), .int .u8 (b : Int)] T)).alloc (.cells #[.int .u8 (c : Int), .int .u8 (d : Int)] T)) #[.slice (some ⟨w.heap.size, 0, none⟩) 2 2, .slice (some ⟨w.heap.size + 1, 0, none⟩) 2 2] T2 i
  rw [s2] at o
  have x3 := (Ex.refl ((w.alloc (.cells #[.int .u8 (a : Int), .int .u8 (b : Int)] T)).alloc (.cells #[.int .u8 (c : Int), .int .u8 (d : Int)] T))).alloc (.cells #[.slice (some ⟨w.heap.size, 0, none⟩) 2 2, .slice (some ⟨w.heap.size + 1, 0, none⟩) 2 2] T2)
  have x2 := ((Ex.refl (w.alloc (.cells #[.int .u8 (a : Int), .int .u8 (b : Int)] T))).alloc (.cells #[.int .u8 (c : Int), .int .u8 (d : Int)] T)).trans x3
  refine readsT_two (o 0) (by omega) (by unfold maxLen; omega) (fun k hk => x2.cell ?_) (o 1) (by omega) (by unfold maxLen; omega) fun k hk => x3.cell ?_
  · rw [World.cell?_alloc_new]
    have hk : k = 0 ∨ k = 1 := by omega
    rcases hk with rfl | rfl
    · show some (Value.int .u8 (a : Int)) = some (.int .u8 ((a % 256 : Nat) : Int)); rw [Nat.mod_eq_of_lt ha]
    · show some (Value.int .u8 (b : Int)) = some (.int .u8 ((b % 256 : Nat) : Int)); rw [Nat.mod_eq_of_lt hb]
  · rw [← s1, World.cell?_alloc_new]
    have hk : k = 0 ∨ k = 1 := by omega
    rcases hk with rfl | rfl
    · show some (Value.int .u8 (c : Int)) = some (.int .u8 ((c % 256 : Nat) : Int)); rw [Nat.mod_eq_of_lt hc]
    · show some (Value.int .u8 (d : Int)) = some (.int .u8 ((d % 256 : Nat) : Int)); rw [Nat.mod_eq_of_lt hd]

theorem det_1234 : (det (litM [[1, 2], [3, 4]]) 2).v = 2 := by decide
theorem rk_1224 : Rk (litM [[1, 2], [2, 4]]) (List.range 2) (List.range 2) 1 := by
  have h := (Elim.start (litM [[1, 2], [2, 4]]) 2 2).step (k := 0) (by omega) (by omega) (fun h => by have := congrArg E.v h; revert this; decide) (fun i => litM [[1, 2], [2, 4]] i 0 * (litM [[1, 2], [2, 4]] 0 0).inv) (fun _ => rfl) (N := fun i j => if 0 < i then litM [[1, 2], [2, 4]] i j + litM [[1, 2], [2, 4]] i 0 * (litM [[1, 2], [2, 4]] 0 0).inv * litM [[1, 2], [2, 4]] 0 j else litM [[1, 2], [2, 4]] i j) fun i _ j _ => rfl
  have h2 := h.skip fun j hj => by
    have hj : j = 0 ∨ j = 1 := by omega
    rcases hj with rfl | rfl
    · exact E.ext (by decide +kernel)
    · exact E.ext (by decide +kernel)
  exact h2.rank

end Go.Proofs.Ytebijjigjlcjdaa
