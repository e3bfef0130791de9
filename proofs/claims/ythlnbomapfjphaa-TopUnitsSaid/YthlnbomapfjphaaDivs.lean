/-
  The document's own divisors (wholeref.DivisorsOf), walked; its powers (PowOf), its Coprime.
-/
import Derived.Test.YthlnbomapfjphaaRev
import Derived.Test.YthlnbomapfjphaaGnu
import Derived.Test.YthlnbomapfjphaaGma
import Derived.Test.YthlnbomapfjphaaGcdOf
import Derived.Test.YthlnbomapfjphaaGro
namespace Go.Proofs.Ythlnbomapfjphaa
open Go.RowKit
open Eu Rs

/-- The divisors of n below d. -/
def lowL (n d : Nat) : List Int := ((List.range' 1 (d - 1)).filter fun e => n % e == 0).map Int.ofNat
/-- n by each divisor below d that is less than n by it. -/
def highL (n d : Nat) : List Int := ((List.range' 1 (d - 1)).filter fun e => n % e == 0 && decide (e * e < n)).map fun e => ((n / e : Nat) : Int)

theorem range_snoc (d : Nat) (h : 1 ≤ d) : List.range' 1 (d + 1 - 1) = List.range' 1 (d - 1) ++ [d] := by
  obtain ⟨d, rfl⟩ : ∃ e, d = e + 1 := ⟨d - 1, by omega⟩
  rw [Nat.add_sub_cancel, Nat.add_sub_cancel, List.range'_concat]
  simp [Nat.add_comm]

theorem lowL_yes {n d : Nat} (h : 1 ≤ d) (hd : n % d = 0) : lowL n (d + 1) = lowL n d ++ [(d : Int)] := by
  unfold lowL; rw [range_snoc d h, List.filter_append]; simp [hd]
theorem lowL_no {n d : Nat} (h : 1 ≤ d) (hd : n % d ≠ 0) : lowL n (d + 1) = lowL n d := by
  unfold lowL; rw [range_snoc d h, List.filter_append]; simp [hd]
theorem highL_yes {n d : Nat} (h : 1 ≤ d) (hd : n % d = 0) (hl : d * d < n) : highL n (d + 1) = highL n d ++ [((n / d : Nat) : Int)] := by
  unfold highL; rw [range_snoc d h, List.filter_append]; simp [hd, hl]
theorem highL_no {n d : Nat} (h : 1 ≤ d) (hd : ¬ (n % d = 0 ∧ d * d < n)) : highL n (d + 1) = highL n d := by
  unfold highL; rw [range_snoc d h, List.filter_append]
  have : (n % d == 0 && decide (d * d < n)) = false := by simpa using hd
  simp [this]
theorem lowL_one (n : Nat) : lowL n 1 = [] := rfl
theorem highL_one (n : Nat) : highL n 1 = [] := rfl
theorem lowL_length (n d : Nat) : (lowL n d).length ≤ d - 1 := by
  unfold lowL; rw [List.length_map]; exact Nat.le_trans (List.length_filter_le _ _) (by simp)
theorem highL_length (n d : Nat) : (highL n d).length ≤ d - 1 := by
  unfold highL; rw [List.length_map]; exact Nat.le_trans (List.length_filter_le _ _) (by simp)

/-- The divisors as the document's road lists them; r is the first number whose square is beyond n. -/
def divsAt (n r : Nat) : List Int := lowL n r ++ (highL n r).reverse

theorem divsAt_mem {n r : Nat} {x : Int} (hn : 1 ≤ n) (h : x ∈ divsAt n r) : ∃ d : Nat, x = d ∧ d ∣ n ∧ 1 ≤ d := by
  unfold divsAt lowL highL at h
  simp only [List.mem_append, List.mem_reverse, List.mem_map, List.mem_filter, List.mem_range', Bool.and_eq_true, beq_iff_eq] at h
  rcases h with ⟨d, ⟨_, h1⟩, rfl⟩ | ⟨d, ⟨⟨i, hi, rfl⟩, h1, _⟩, rfl⟩
  · have h2 := Nat.dvd_of_mod_eq_zero h1
    exact ⟨d, rfl, h2, Nat.pos_of_dvd_of_pos h2 hn⟩
  · have h2 := Nat.dvd_of_mod_eq_zero h1
    exact ⟨_, rfl, Nat.div_dvd_of_dvd h2, Nat.div_pos (Nat.le_of_dvd hn h2) (by omega)⟩

theorem cell_new1 (w : World) (x : Value) (t : TypeId) : (w.alloc (.cells #[x] t)).cell? ⟨w.heap.size, 0, none⟩ = some x := by simp

/-- Two rows of our own that lie apart. -/
def ApartV (v u : Value) : Prop := v.ownBlock = none ∨ u.ownBlock = none ∨ v.ownBlock ≠ u.ownBlock

theorem ApartV.left {v u v' : Value} {w : World} (h : ApartV v u) (hv : v'.ownBlock = v.ownBlock ∨ v'.ownBlock = some w.heap.size) (hu : ∀ b, u.ownBlock = some b → b < w.heap.size) : ApartV v' u := by
  unfold ApartV at *
  rcases hv with hv | hv
  · rw [hv]; exact h
  · rw [hv]
    cases hb : u.ownBlock with
    | none => exact .inr (.inl rfl)
    | some b => refine .inr (.inr fun e => ?_); have := hu b hb; simp at e; omega
theorem ApartV.symm {v u : Value} (h : ApartV v u) : ApartV u v := by
  unfold ApartV at *
  rcases h with h | h | h
  · exact .inr (.inl h)
  · exact .inl h
  · exact .inr (.inr (Ne.symm h))
theorem ApartV.ne {v u : Value} {w w2 : World} {e : TypeId} {k : IntKind} {base : Nat} {xs : List Int} (h : ApartV v u) (hr : Row e k w base v xs) (hg : w.grownBy w2 u.ownBlock) : Row e k w2 base v xs := by
  rcases h with h | h | h
  · exact hr.kept hg (.inl h)
  · cases hv : v.ownBlock with
    | none => exact hr.kept hg (.inl hv)
    | some b => exact hr.kept hg (.inr (by rw [hv, h]; simp))
  · exact hr.kept hg (.inr h)

end Go.Proofs.Ythlnbomapfjphaa
