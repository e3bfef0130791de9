/-
  wholeref.AllWords.
-/
import Derived.Test.YthlnbomapfjphaaDoorLnErr
import Derived.Test.YthlnbomapfjphaaDoorRowOld
import Derived.Test.YthlnbomapfjphaaDoorSo16i
import Derived.Test.YthlnbomapfjphaaDoorSo16j
namespace Go.Proofs.YthlnbomapfjphaaDoor
open Go.RowKit
open Ln So

/-- The sums by the first s sets. -/
def wks (l : List Nat) (L s : Nat) : List Nat := (List.range s).map fun s => wk l s L
theorem wks_snoc (l : List Nat) (L s : Nat) : il (wks l L s) ++ [((wk l s L : Nat) : Int)] = il (wks l L (s + 1)) := by
  unfold wks il
  rw [List.range_succ, List.map_append, List.map_append]
  rfl
theorem wks_length (l : List Nat) (L s : Nat) : (wks l L s).length = s := by simp [wks]
theorem wk_small {l : List Nat} (hl : ∀ x ∈ l, x < 65536) (s : Nat) : ∀ k, k ≤ l.length → wk l s k < 65536 := by
  intro k
  induction k with
  | zero => intro _; rw [wk]; decide
  | succ k ih =>
    intro hk
    rw [wk]
    have h1 := ih (by omega)
    have h2 : l.getD k 0 * (s / 2 ^ k % 2) < 65536 := by
      have h3 : l.getD k 0 < 65536 := by
        rw [List.getD_eq_getElem?_getD, List.getElem?_eq_getElem (by omega)]
        exact hl _ (List.getElem_mem _)
      rcases Nat.mod_two_eq_zero_or_one (s / 2 ^ k) with e | e <;> rw [e] <;> omega
    have : wk l s k ^^^ l.getD k 0 * (s / 2 ^ k % 2) < 2 ^ 16 := Nat.xor_lt_two_pow (by omega) (by omega)
    omega
theorem wks_mem {l : List Nat} {w : Nat} : w ∈ wks l l.length (2 ^ l.length) ↔ w ∈ sums l := by
  unfold wks
  rw [List.mem_map, mem_wk]
  exact ⟨fun ⟨s, h1, h2⟩ => ⟨s, List.mem_range.mp h1, h2⟩, fun ⟨s, h1, h2⟩ => ⟨s, List.mem_range.mpr h1, h2⟩⟩

/-- In order and compacted, they are the words. -/
theorem cl_words {n : Nat} {l : List Nat} {H : Nat → Int} {N : Nat} (hl : ∀ x ∈ l, x < 2 ^ n) (hN : N = 2 ^ l.length) (hp : Pm 0 N (nth (il (wks l l.length N))) H) (hs : Sd 0 N H) : cl H N = il (cw n l) := by
  have hmem : ∀ v, v ∈ cl H N ↔ v ∈ il (wks l l.length N) := fun v => by
    rw [cl_mem]
    obtain ⟨σ, τ, h1, h2, h3, h4⟩ := hp
    have hlen : (il (wks l l.length N)).length = N := by rw [il_length, wks_length]
    have hσ : ∀ i, i < N → σ i < N := fun i hi => by
      rcases Nat.lt_or_ge (σ i) N with h | h
      · exact h
      · have := h4 (σ i) (.inr h)
        have e : σ i = i := by have := congrArg τ this; rw [h3, h3] at this; exact this
        omega
    have hτ : ∀ i, i < N → τ i < N := fun i hi => by
      rcases Nat.lt_or_ge (τ i) N with h | h
      · exact h
      · have := h4 (τ i) (.inr h)
        rw [h2] at this
        omega
    constructor
    · rintro ⟨i, hi, rfl⟩
      rw [h1]
      exact nth_mem (by rw [hlen]; exact hσ i hi)
    · intro hv
      obtain ⟨i, hi, rfl⟩ := List.getElem_of_mem hv
      rw [hlen] at hi
      exact ⟨τ i, hτ i hi, by rw [h1, h2, nth_eq]⟩
  have hlt := cl_lt N hs
  have hnn : ∀ x ∈ cl H N, 0 ≤ x := fun x hx => by
    obtain ⟨y, _, rfl⟩ := List.mem_map.mp ((hmem x).mp hx)
    exact Int.natCast_nonneg y
  have e := il_nl hnn
  rw [← e]
  rw [cw_of (n := n) (W := nl (cl H N)) hl]
  · refine List.pairwise_map.mpr (hlt.imp_of_mem fun {a b} ha hb h => ?_)
    have := hnn a ha
    have := hnn b hb
    omega
  · intro w
    rw [← wks_mem, ← hN]
    constructor
    · intro h
      obtain ⟨x, hx, rfl⟩ := List.mem_map.mp h
      obtain ⟨y, hy, rfl⟩ := List.mem_map.mp ((hmem x).mp hx)
      exact hy
    · intro h
      have : (w : Int) ∈ cl H N := (hmem _).mpr (List.mem_map.mpr ⟨w, h, rfl⟩)
      exact List.mem_map.mpr ⟨(w : Int), this, rfl⟩


end Go.Proofs.YthlnbomapfjphaaDoor
