/-
  GridCauchy, walked.
-/
import Derived.Test.YteaehaebhpcfeaaGdD
import Derived.Test.YteaehaebhpcfeaaGdValues
import Derived.Test.YteaehaebhpcfeaaGfw
import Derived.Test.YteaehaebhpcfeaaGtb
namespace Go.Proofs.Yteaehaebhpcfeaa
open Go.RowKit
open Gf

theorem bi_u16 (a i : Nat) (ha : a < 65536) : bits .and .u16 ((a : Int) / 2 ^ i) 1 = ((bi a i : Nat) : Int) := by
  have h : a / 2 ^ i < 65536 := Nat.lt_of_le_of_lt (Nat.div_le_self _ _) ha
  have hn : (BitVec.ofInt 16 ((a / 2 ^ i : Nat) : Int)).toNat = a / 2 ^ i := by
    rw [BitVec.ofInt_natCast, BitVec.toNat_ofNat]; exact Nat.mod_eq_of_lt (by omega)
  have h1 : (BitVec.ofInt 16 ((1 : Nat) : Int)).toNat = 1 := by decide
  have key : bits .and .u16 ((a / 2 ^ i : Nat) : Int) ((1 : Nat) : Int) = ((a / 2 ^ i &&& 1 : Nat) : Int) := by
    show IntKind.u16.wrap ((BitVec.ofInt 16 ((a / 2 ^ i : Nat) : Int) &&& BitVec.ofInt 16 ((1 : Nat) : Int)).toNat : Int) = _
    rw [BitVec.toNat_and, hn, h1]
    have : a / 2 ^ i &&& 1 < 2 ^ 1 := Nat.and_lt_two_pow _ (by omega)
    exact IntWalk.u16_in _ (by omega)
  rw [Int.natCast_ediv, Int.natCast_pow, Nat.and_one_is_mod] at key
  exact key

/-- The places that m's bits choose, below n. -/
def slc (m n : Nat) : List Nat := (List.range n).filter fun i => bi m i == 1
theorem slc_yes {m n : Nat} (h : bi m n = 1) : slc m (n + 1) = slc m n ++ [n] := by unfold slc; rw [List.range_succ, List.filter_append]; simp [h]
theorem slc_no {m n : Nat} (h : bi m n = 0) : slc m (n + 1) = slc m n := by unfold slc; rw [List.range_succ, List.filter_append]; simp [h]
theorem slc_le (m n : Nat) : (slc m n).length ≤ n := by
  have := List.length_filter_le (fun i => bi m i == 1) (List.range n)
  rw [List.length_range] at this
  exact this
theorem slc_pre (m n : Nat) : ∀ d, slc m n <+: slc m (n + d) := fun d => by
  induction d with
  | zero => exact List.prefix_refl _
  | succ d ih =>
    rcases bi_cases m (n + d) with h | h
    · rw [show n + (d + 1) = n + d + 1 by omega, slc_no h]; exact ih
    · rw [show n + (d + 1) = n + d + 1 by omega, slc_yes h]; exact ih.trans (List.prefix_append _ _)
theorem slc_at {m n t : Nat} (h : bi m t = 1) (ht : t < n) : (slc m n).getD (slc m t).length 0 = t ∧ (slc m t).length < (slc m n).length := by
  obtain ⟨d, rfl⟩ : ∃ d, n = t + 1 + d := ⟨n - (t + 1), by omega⟩
  obtain ⟨l, hl⟩ := slc_pre m (t + 1) d
  rw [← hl, slc_yes h]
  constructor
  · rw [List.getD_eq_getElem?_getD, List.append_assoc, List.getElem?_append_right (Nat.le_refl _)]
    simp
  · simp
theorem slc_lt {m n i : Nat} (h : i < (slc m n).length) : (slc m n).getD i 0 < n := by
  rw [List.getD_eq_getElem?_getD, List.getElem?_eq_getElem h]
  have := List.getElem_mem h
  exact List.mem_range.mp (List.mem_filter.mp this).1
theorem slc_up {m n i k : Nat} (hk : k < i) (h : i < (slc m n).length) : (slc m n).getD k 0 < (slc m n).getD i 0 := by
  have hp : (slc m n).Pairwise (· < ·) := List.Pairwise.filter _ List.pairwise_lt_range
  rw [List.getD_eq_getElem?_getD, List.getD_eq_getElem?_getD, List.getElem?_eq_getElem h, List.getElem?_eq_getElem (by omega)]
  exact List.pairwise_iff_getElem.mp hp k i (by omega) h hk
theorem map_bl (G : Nat → E) (l : List Nat) : l.map (fun k => (((G k).v : Nat) : Int)) = bl (fun i => G (l.getD i 0)) l.length := by
  refine List.ext_getElem (by simp [bl]) fun i h1 h2 => ?_
  have hi : i < l.length := by simpa using h1
  simp [bl, hi]

theorem OwnT.empty {e : TypeId} {w : World} {base : Nat} {v : Value} {C : Nat} {M : Nat → Nat → E} (h : OwnT e w base v C 0 M) : ∃ a c, v = .slice a 0 c := by
  obtain ⟨us, gs, h1, h2, _⟩ := h
  have hus : us = [] := List.length_eq_zero_iff.mp h1
  subst hus
  rcases h2.form with ⟨rfl, _⟩ | ⟨g, cap, rfl, _⟩
  · exact ⟨_, _, rfl⟩
  · exact ⟨_, _, rfl⟩

/-- The rows' headers cut down to n, as far as i. -/
structure Cut (w : World) (G n i C : Nat) (gs cs : Nat → Nat) (M : Nat → Nat → E) : Prop where
  outer : ∀ r, r < n → w.cell? ⟨G, r, none⟩ = some (.slice (some ⟨gs r, 0, none⟩) (if r < i then n else C) (cs r))
  free : ∀ r, w.frozen? ⟨G, r, none⟩ = false
  inner : ∀ r, r < n → ∀ k, k < n → w.cell? ⟨gs r, k, none⟩ = some (.int .u8 (((M r k).v : Nat) : Int))
  far : ∀ r, r < n → gs r ≠ G
  cap : ∀ r, r < n → C ≤ cs r ∧ cs r ≤ 9223372036854775807
theorem Cut.start {w : World} {base G R C n : Nat} {gs cs : Nat → Nat} {M : Nat → Nat → E} (h : Grid w base G R C gs cs M) (hR : n ≤ R) (hC : n ≤ C) : Cut w G n 0 C gs cs M where
  outer r hr := by rw [if_neg (by omega)]; exact h.outer r (by omega)
  free := h.outerFree
  inner r hr k hk := h.inner r (by omega) k (by omega)
  far r hr := h.far r (by omega)
  cap r hr := h.cap r (by omega)
theorem Cut.step {w : World} {G n i C : Nat} {gs cs : Nat → Nat} {M : Nat → Nat → E} (h : Cut w G n i C gs cs M) (hi : i < n) : Cut (w.setCell ⟨G, i, none⟩ (.slice (some ⟨gs i, 0, none⟩) n (cs i))) G n (i + 1) C gs cs M where
  outer r hr := by
    by_cases e : r = i
    · subst e
      rw [World.cell?_setCell_same _ _ _ (h.outer r hr), if_pos (by omega)]
    · rw [World.cell?_setCell_other _ _ _ _ (addr_ne (.inr fun e2 => e e2.symm)), h.outer r hr]
      by_cases e2 : r < i
      · rw [if_pos e2, if_pos (by omega)]
      · rw [if_neg e2, if_neg (by omega)]
  free r := by rw [World.frozen?_setCell]; exact h.free r
  inner r hr k hk := by rw [World.cell?_setCell_other _ _ _ _ (addr_ne (.inl (h.far r hr).symm))]; exact h.inner r hr k hk
  far := h.far
  cap := h.cap
theorem Cut.done {w : World} {G n C : Nat} {gs cs : Nat → Nat} {M : Nat → Nat → E} (h : Cut w G n n C gs cs M) (hn : n ≤ C) : ReadsT w (some ⟨G, 0, none⟩) n n M :=
  ⟨G, 0, rfl, fun r hr => ⟨gs r, 0, cs r, by rw [Nat.zero_add, h.outer r hr, if_pos hr], by have := (h.cap r hr).1; omega, (h.cap r hr).2, fun k hk => by rw [Nat.zero_add]; exact h.inner r hr k hk⟩⟩

/-- {2} and {3}. -/
theorem crossed_lit (HC : CrossC) (w : World) (T : TypeId) :
    Calls Try.prog 8 #[.slice (some ⟨w.heap.size, 0, none⟩) 1 1, .slice (some ⟨w.heap.size + 1, 0, none⟩) 1 1] ((w.alloc (.cells #[.int .u8 2] T)).alloc (.cells #[.int .u8 3] T)) (Tab2 1 1 (litM [[1]]) w) := by
  have s1 : (w.alloc (.cells #[.int .u8 2] T)).heap.size = w.heap.size + 1 := World.size_alloc _ _
  have hA := (one_cell w 2 T (litM [[2]] 0) rfl).ex ((Ex.refl _).alloc (.cells #[.int .u8 3] T))
  have hB := one_cell (w.alloc (.cells #[.int .u8 2] T)) 3 T (litM [[3]] 0) rfl
  rw [s1] at hB
  refine (HC.ok (F := litM [[2]] 0) (H := litM [[3]] 0) (L := 1) (K := 1) (by omega) (by omega) (by omega) (by omega) (by omega) (by omega) (by omega) (by omega) (fun i k h1 h2 => by omega) (fun i k h1 h2 => by omega) (fun i k h1 h2 => ?_) hA hB).mono fun e w2 ⟨a2, c2, h1, h2, h3, h4⟩ => ⟨a2, c2, h1, h2, Lib.hid (h3.out.congr fun r hr k hk => ?_), (((Ex.refl w).alloc _).alloc _).trans h4⟩
  · obtain rfl : i = 0 := by omega
    obtain rfl : k = 0 := by omega
    exact fun e => by have := congrArg E.v e; revert this; decide
  · obtain rfl : r = 0 := by omega
    obtain rfl : k = 0 := by omega
    exact E.ext (by decide +kernel)
/-- {{a}} -/
theorem lit11 (w : World) (a : Nat) (T T2 : TypeId) (ha : a < 256) :
    ReadsT ((w.alloc (.cells #[.int .u8 (a : Int)] T)).alloc (.cells #[.slice (some ⟨w.heap.size, 0, none⟩) 1 1] T2)) (some ⟨w.heap.size + 1, 0, none⟩) 1 1 (litM [[a]]) := by
  have s1 : (w.alloc (.cells #[.int .u8 (a : Int)] T)).heap.size = w.heap.size + 1 := World.size_alloc _ _
  have o := fun i => World.cell?_alloc_new (w.alloc (.cells #[.int .u8 (a : Int)] T)) #[.slice (some ⟨w.heap.size, 0, none⟩) 1 1] T2 i
  rw [s1] at o
  have x2 := (Ex.refl (w.alloc (.cells #[.int .u8 (a : Int)] T))).alloc (.cells #[.slice (some ⟨w.heap.size, 0, none⟩) 1 1] T2)
  refine readsT_one (o 0) (by omega) (by unfold maxLen; omega) fun k hk => x2.cell ?_
  rw [World.cell?_alloc_new]
  obtain rfl : k = 0 := by omega
  show some (Value.int .u8 (a : Int)) = some (.int .u8 ((a % 256 : Nat) : Int)); rw [Nat.mod_eq_of_lt ha]

end Go.Proofs.Yteaehaebhpcfeaa
