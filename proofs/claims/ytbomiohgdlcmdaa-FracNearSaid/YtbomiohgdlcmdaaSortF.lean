/-
  slices.SortFunc at rows of fractions: how a row stands as the shelf's contract has it, before and after; fractions by their worth, in lowest terms.
-/
import Derived.Test.YtbomiohgdlcmdaaRests
import Derived.Test.YtbomiohgdlcmdaaFrFarey
import Derived.Shelf.SlSortCmp.NoneTotal
namespace Go.Proofs.Ytbomiohgdlcmdaa
open Go.RowKit Go.Sort
open Fr Eu Ch

/-- A fraction from 0 to 1 with a denominator to 30, in lowest terms. -/
abbrev Fr1 : Type := { x : Int × Int // 1 ≤ x.2 ∧ x.2 ≤ 30 ∧ 0 ≤ x.1 ∧ x.1 ≤ 30 ∧ G x.1 x.2 = 1 }
instance : Inhabited Fr1 := ⟨⟨(0, 1), by decide⟩⟩
def encF (x : Fr1) : List Value := [.int .i64 x.1.1, .int .i64 x.1.2]
/-- What the row's order asks. -/
def cmpF (x y : Fr1) : Int := x.1.1 * y.1.2 - y.1.1 * x.1.2

theorem encF_len (x : Fr1) : (encF x).length = 2 := rfl
theorem encF_one (x : Fr1) : ∀ v ∈ encF x, v.oneCell' = true := fun v hv => by
  simp [encF] at hv
  rcases hv with rfl | rfl <;> rfl

theorem ltF (x y : Fr1) : ltOf cmpF x y = decide (x.1.1 * y.1.2 < y.1.1 * x.1.2) := by
  unfold ltOf cmpF
  rw [decide_eq_decide]
  omega

theorem swo_irrefl (x : Fr1) : ltOf cmpF x x = false := by rw [ltF]; simp

theorem swo_trans (x y z : Fr1) (h1 : ltOf cmpF x y = true) (h2 : ltOf cmpF y z = true) : ltOf cmpF x z = true := by
  rw [ltF] at *
  have h1 := of_decide_eq_true h1
  have h2 := of_decide_eq_true h2
  exact decide_eq_true (cross_lt x.2.1 y.2.1 z.2.1 h1 h2)

theorem swo_ntrans (x y z : Fr1) (h1 : ltOf cmpF x y = false) (h2 : ltOf cmpF y z = false) : ltOf cmpF x z = false := by
  rw [ltF] at *
  have h1 := of_decide_eq_false h1
  have h2 := of_decide_eq_false h2
  have := cross_le z.2.1 y.2.1 x.2.1 (Int.not_lt.mp h2) (Int.not_lt.mp h1)
  exact decide_eq_false (Int.not_lt.mpr this)

theorem swoF : SWO (ltOf cmpF) := ⟨swo_irrefl, swo_trans, swo_ntrans⟩

theorem partsF (x y : Fr1) (h1 : ltOf cmpF x y = false) (h2 : ltOf cmpF y x = false) : x = y := by
  rw [ltF] at h1 h2
  have h1 := of_decide_eq_false h1
  have h2 := of_decide_eq_false h2
  have := lowest_uniq x.2.2.2.2.2 y.2.2.2.2.2 x.2.1 y.2.1 (by omega)
  exact Subtype.ext (Prod.ext this.1 this.2)

/-- The fractions of a row. -/
def vals (d : Array Fr1) : List (Int × Int) := d.toList.map Subtype.val

theorem vals_len (d : Array Fr1) : (vals d).length = d.size := by simp [vals]
theorem vals_nth {d : Array Fr1} {i : Nat} (h : i < d.size) : nthR (vals d) i = (d[i]!).1 := by
  rw [nthR_eq (by rw [vals_len]; exact h)]
  simp [vals, h]

theorem flat_nth {d : Array Fr1} {t : Nat} (h : t < d.size * 2) : (flatK encF 2 d)[t]! = if t % 2 = 0 then .int .i64 (nthR (vals d) (t / 2)).1 else .int .i64 (nthR (vals d) (t / 2)).2 := by
  rw [get_flatK _ _ _ _ h, vals_nth (by omega)]
  rcases Nat.mod_two_eq_zero_or_one t with e | e
  · rw [e]; rfl
  · rw [e]; rfl

theorem rcs_nth {l : List (Int × Int)} {t : Nat} (h : t < l.length * 2) : (rcs l)[t]? = some (if t % 2 = 0 then .int .i64 (nthR l (t / 2)).1 else .int .i64 (nthR l (t / 2)).2) := by
  have h2 := rcs_at l (t / 2) (by omega)
  rcases Nat.mod_two_eq_zero_or_one t with e | e
  · rw [show t / 2 * 2 = t by omega] at h2
    rw [if_pos e]; exact h2.1
  · rw [show t / 2 * 2 + 1 = t by omega] at h2
    rw [if_neg (by omega)]; exact h2.2

theorem flat_list (d : Array Fr1) : (flatK encF 2 d).toList = rcs (vals d) := by
  apply List.ext_getElem?
  intro t
  by_cases h : t < d.size * 2
  · rw [rcs_nth (by rw [vals_len]; exact h)]
    have := flat_nth h
    rw [Array.getElem?_toList]
    have hs : t < (flatK encF 2 d).size := by rw [size_flatK]; exact h
    rw [Array.getElem?_eq_getElem hs, ← this]
    rw [getElem!_pos (flatK encF 2 d) t hs]
  · rw [List.getElem?_eq_none (by simp; omega), List.getElem?_eq_none (by rw [rcs_length, vals_len]; omega)]

/-- A row of fractions, as the contract has it. -/
theorem holdsF {e : TypeId} {w : World} {base g n cap : Nat} {d : Array Fr1} (h : RowR e w base (.slice (some ⟨g, 0, none⟩) n cap) (vals d)) : HoldsK encF 2 w g 0 d := by
  rcases h.form with ⟨h1, _⟩ | ⟨g2, cap2, h1, _, _, _, _, hc, hf⟩
  · simp at h1
  simp only [Value.slice.injEq, Option.some.injEq, Addr.mk.injEq, and_true] at h1
  obtain ⟨rfl, _⟩ := h1
  intro j hj
  rw [size_flatK] at hj
  have h2 := hc (j / 2) (by rw [vals_len]; omega)
  rw [Nat.zero_add]
  refine ⟨?_, hf j⟩
  show _ = some ((flatK encF 2 d)[j]!)
  rw [flat_nth hj]
  rcases Nat.mod_two_eq_zero_or_one j with e | e
  · rw [show j / 2 * 2 = j by omega] at h2
    rw [if_pos e]; exact h2.1
  · rw [show j / 2 * 2 + 1 = j by omega] at h2
    rw [if_neg (by omega)]; exact h2.2

theorem grownByF {w : World} {g n : Nat} {os : Array Obj} (d : Array Fr1) : w.grownBy (sortWorldK encF 2 w g 0 n d os) (some g) := by
  refine ⟨rfl, rfl, rfl, by simp [sortWorldK, putRowK, putRow, mapBlock, Sort.ahead, grow], fun k hk hne => ?_⟩
  unfold sortWorldK
  rw [heap_grow_old _ _ (by simpa [putRowK, putRow, mapBlock, Sort.ahead] using hk)]
  have : g ≠ k := fun e => hne (by rw [e])
  simp [putRowK, putRow, mapBlock, Sort.ahead, Array.getElem?_modify, this]

/-- .. and behind the sort. -/
theorem sortedF {e : TypeId} {w : World} {base g cap n : Nat} {os : Array Obj} {l : List (Int × Int)} {d : Array Fr1} (h : RowR e w base (.slice (some ⟨g, 0, none⟩) l.length cap) l) (hl : d.size = l.length) :
    RowR e (sortWorldK encF 2 w g 0 n d os) base (.slice (some ⟨g, 0, none⟩) (vals d).length cap) (vals d) := by
  rcases h.2 with ⟨h1, _⟩ | ⟨g2, cap2, cur, h1, hb, hgg, c1, c2, c3, c4⟩
  · simp at h1
  simp only [Value.slice.injEq, Option.some.injEq, Addr.mk.injEq, and_true, true_and] at h1
  obtain ⟨rfl, rfl⟩ := h1
  have hg : g < w.heap.size := (Array.getElem?_eq_some_iff.1 hgg).1
  have hh : (sortWorldK encF 2 w g 0 n d os).heap[g]? = some (.cells (putCells id 0 (flatK encF 2 d) cur) e (0, 0)) := by
    unfold sortWorldK
    rw [heap_grow_old _ _ (by simpa [putRowK, putRow, mapBlock, Sort.ahead] using hg)]
    simp [putRowK, putRow, mapBlock, Sort.ahead, Array.getElem?_modify, hgg, onCells]
  unfold RowR
  refine ⟨by rw [rcs_length], .inr ⟨g, cap, _, rfl, hb, hh, by rw [vals_len, hl]; exact c1, c2, by simp [putCells, c3], ?_⟩⟩
  rw [vals_len, ← flat_list]
  apply List.ext_getElem?
  intro j
  by_cases hj : j < d.size * 2
  · rw [List.getElem?_take_of_lt hj, Array.getElem?_toList, Array.getElem?_toList]
    have hs : j < (flatK encF 2 d).size := by rw [size_flatK]; exact hj
    have hcs : j < cur.size := by omega
    simp [putCells, hj, hcs]
  · rw [List.getElem?_take_eq_none (by omega), List.getElem?_eq_none (by simp; omega)]

/-- All fractions, by denominators. -/
theorem prs_fr1 {n : Nat} (h : n ≤ 30) : ∃ d : Array Fr1, vals d = (prs n).map fun x => ((x.1 : Int), (x.2 : Int)) := by
  have hm : ∀ x ∈ prs n, 1 ≤ (x.2 : Int) ∧ (x.2 : Int) ≤ 30 ∧ 0 ≤ (x.1 : Int) ∧ (x.1 : Int) ≤ 30 ∧ G (x.1 : Int) (x.2 : Int) = 1 := fun x hx => by
    obtain ⟨h1, h2, h3, h4⟩ := prs_mem.mp hx
    refine ⟨by omega, by omega, by omega, by omega, ?_⟩
    unfold G
    rw [Int.gcd_natCast_natCast, h4]; rfl
  generalize prs n = l at hm
  induction l with
  | nil => exact ⟨#[], rfl⟩
  | cons x l ih =>
    obtain ⟨d, hd⟩ := ih fun y hy => hm y (List.mem_cons_of_mem _ hy)
    refine ⟨(⟨((x.1 : Int), (x.2 : Int)), hm x List.mem_cons_self⟩ :: d.toList).toArray, ?_⟩
    simp only [vals, List.map_cons] at hd ⊢
    rw [hd]

/-- FAREY's row. -/
def FL (n : Nat) : List (Int × Int) := (FLn n).map fun x => ((x.1 : Int), (x.2 : Int))

/-- What the sort hands back is FAREY's row. -/
theorem sort_FL {n : Nat} (h1 : 1 ≤ n) (h2 : n ≤ 30) {d : Array Fr1} (hd : vals d = (prs n).map fun x => ((x.1 : Int), (x.2 : Int))) :
    vals (d.toList.mergeSort fun x y => !(ltOf cmpF) y x).toArray = FL n := by
  have hp := List.mergeSort_perm d.toList (fun x y => !(ltOf cmpF) y x)
  have hs := List.pairwise_mergeSort (le := fun x y => !(ltOf cmpF) y x) (fun a b c hab hbc => by
    simp only [Bool.not_eq_true'] at *
    exact swoF.ntrans _ _ _ hbc hab) (fun a b => by
    by_cases h : ltOf cmpF a b = true
    · have : ltOf cmpF b a = false := by
        rw [ltF] at *
        have := of_decide_eq_true h
        exact decide_eq_false (by omega)
      simp [this]
    · simp only [Bool.not_eq_true] at h
      simp [h]) d.toList
  generalize d.toList.mergeSort (fun x y => !(ltOf cmpF) y x) = m at hp hs ⊢
  have hpv : (m.map Subtype.val).Perm ((prs n).map fun x => ((x.1 : Int), (x.2 : Int))) := by rw [← hd]; exact hp.map _
  obtain ⟨k, hk⟩ : ∃ k : List (Nat × Nat), m.map Subtype.val = k.map fun x => ((x.1 : Int), (x.2 : Int)) := by
    clear hs hpv hp hd
    induction m with
    | nil => exact ⟨[], rfl⟩
    | cons x m ih =>
      obtain ⟨k, hk⟩ := ih
      refine ⟨(x.1.1.toNat, x.1.2.toNat) :: k, ?_⟩
      rw [List.map_cons, List.map_cons, hk]
      have a1 := x.2.1
      have a2 := x.2.2.2.1
      congr 1
      exact Prod.ext (by simp; omega) (by simp; omega)
  have inj : ∀ a b : Nat × Nat, ((a.1 : Int), (a.2 : Int)) = ((b.1 : Int), (b.2 : Int)) → a = b := fun a b h => by
    simp only [Prod.mk.injEq] at h
    exact Prod.ext (by omega) (by omega)
  have hkp : k.Perm (prs n) := by
    rw [hk] at hpv
    have := hpv.map fun x : Int × Int => (x.1.toNat, x.2.toNat)
    simpa [List.map_map, Function.comp_def] using this
  have hks : k.Pairwise fun a b => a.1 * b.2 ≤ b.1 * a.2 := by
    have h3 : (m.map Subtype.val).Pairwise fun a b : Int × Int => a.1 * b.2 ≤ b.1 * a.2 := by
      rw [List.pairwise_map]
      refine hs.imp fun {a b} h => ?_
      simp only [Bool.not_eq_true'] at h
      rw [ltF] at h
      have := of_decide_eq_false h
      omega
    rw [hk, List.pairwise_map] at h3
    refine h3.imp fun {a b} h => ?_
    have e1 : (a.1 : Int) * (b.2 : Int) = ((a.1 * b.2 : Nat) : Int) := (Int.natCast_mul _ _).symm
    have e2 : (b.1 : Int) * (a.2 : Int) = ((b.1 * a.2 : Nat) : Int) := (Int.natCast_mul _ _).symm
    simp only [e1, e2] at h
    omega
  show m.map Subtype.val = FL n
  rw [hk, FLn_uniq h1 h2 hkp hks]
  rfl

end Go.Proofs.Ytbomiohgdlcmdaa
