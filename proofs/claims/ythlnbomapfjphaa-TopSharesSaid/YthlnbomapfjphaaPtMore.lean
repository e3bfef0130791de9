/-
  PointsMore, walked: one more point, the others from behind.
-/
import Derived.Test.YthlnbomapfjphaaGpt
import Derived.Test.YthlnbomapfjphaaGpr
import Derived.RangeFuncBox
namespace Go.Proofs.Ythlnbomapfjphaa
open Go.RowKit
open Eu Pr Po Rs

theorem pts_iff {p : Int} {l : List (Int × Int)} : Pts p l l.length ↔ (∀ a ∈ l, (0 ≤ a.1 ∧ a.1 < p) ∧ 0 ≤ a.2 ∧ a.2 < p) ∧ (l.map (·.1)).Nodup := by
  constructor
  · intro h
    refine ⟨fun a ha => ?_, ?_⟩
    · obtain ⟨j, hj, rfl⟩ := List.getElem_of_mem ha
      have := h.1 j hj
      unfold px py at this
      rwa [nthR_eq hj] at this
    · rw [List.Nodup, List.pairwise_iff_getElem]
      intro i j hi hj hij
      simp only [List.length_map] at hi hj
      have := h.2 i j hi hj (by omega)
      unfold px at this
      rw [nthR_eq hi, nthR_eq hj] at this
      simpa using this
  · rintro ⟨h1, h2⟩
    refine ⟨fun i hi => ?_, fun i j hi hj hne => ?_⟩
    · unfold px py
      exact h1 _ (nthR_mem hi)
    · rw [List.Nodup, List.pairwise_iff_getElem] at h2
      unfold px
      rw [nthR_eq hi, nthR_eq hj]
      rcases Nat.lt_or_gt_of_ne hne with h | h
      · have := h2 i j (by simpa using hi) (by simpa using hj) h
        simpa using this
      · have := h2 j i (by simpa using hj) (by simpa using hi) h
        exact fun e => this (by simpa using e.symm)

theorem th_iff {p : Int} {l : List (Int × Int)} {f : List Int} : IsTh p l l.length f ↔ Po.Can p f ∧ f.length ≤ l.length ∧ ∀ a ∈ l, p ∣ ev f a.1 - a.2 := by
  constructor
  · rintro ⟨h1, h2, h3⟩
    refine ⟨h1, h2, fun a ha => ?_⟩
    obtain ⟨j, hj, rfl⟩ := List.getElem_of_mem ha
    have := h3 j hj
    unfold px py at this
    rwa [nthR_eq hj] at this
  · rintro ⟨h1, h2, h3⟩
    exact ⟨h1, h2, fun i hi => h3 _ (nthR_mem hi)⟩

theorem nthR_front {l m : List (Int × Int)} {i : Nat} (h : i < l.length) : nthR (l ++ m) i = nthR l i := by
  rw [nthR_eq (by rw [List.length_append]; omega), nthR_eq h, List.getElem_append_left h]
theorem nthR_last {l : List (Int × Int)} {q : Int × Int} : nthR (l ++ [q]) l.length = q := by
  rw [nthR_eq (by simp)]; simp
theorem Pts.front {p : Int} {l m : List (Int × Int)} (h : Pts p l l.length) : Pts p (l ++ m) l.length := by
  refine ⟨fun i hi => ?_, fun i j hi hj hne => ?_⟩
  · have := h.1 i hi
    unfold px py at *
    rwa [nthR_front hi]
  · have := h.2 i j hi hj hne
    unfold px at *
    rwa [nthR_front hi, nthR_front hj]

theorem nodup_rev {l : List Int} (h : l.Nodup) : l.reverse.Nodup := by
  rw [List.Nodup, List.pairwise_reverse]
  exact List.Pairwise.imp (fun h e => h e.symm) h

theorem Pts.rev {p : Int} {l : List (Int × Int)} (h : Pts p l l.length) : Pts p l.reverse l.reverse.length := by
  rw [pts_iff] at h ⊢
  refine ⟨fun a ha => h.1 a (List.mem_reverse.mp ha), ?_⟩
  rw [List.map_reverse]
  exact nodup_rev h.2

/-- One point more than there may be. -/
theorem more_large {p : Int} {l : List (Int × Int)} {q : Int × Int} (h : ptE p l = 0) (hl : l.length = 12) : ptE p (l.reverse ++ [q]) = 2 := by
  obtain ⟨hp, p9, _, _⟩ := ptE_zero.mp h
  exact ptE_large (fieldE_zero.mpr ⟨hp, p9⟩) (by simp [hl])

theorem more_there {p : Int} {l : List (Int × Int)} {q : Int × Int} (h : ptE p l = 0) (hl : l.length < 12) (q1 : 0 ≤ q.1 ∧ q.1 < p) (q2 : 0 ≤ q.2 ∧ q.2 < p) (hh : hasP l q.1 = true) : ptE p (l.reverse ++ [q]) = 6 := by
  obtain ⟨hp, p9, _, hP⟩ := ptE_zero.mp h
  have e1 : px (l.reverse ++ [q]) l.reverse.length = q.1 := by unfold px; rw [nthR_last]
  have e2 : py (l.reverse ++ [q]) l.reverse.length = q.2 := by unfold py; rw [nthR_last]
  refine scan_there (i := l.reverse.length) (fieldE_zero.mpr ⟨hp, p9⟩) (by simp; omega) (by simp) ((ptS_zero _ (by simp)).mpr hP.rev.front) (by rw [e1]; exact outB_no.mpr q1) (by rw [e2]; exact outB_no.mpr q2) ?_
  rw [e1, List.take_left' rfl]
  unfold hasP at hh ⊢
  rw [List.any_reverse]
  exact hh

theorem more_ok {p : Int} {l : List (Int × Int)} {q : Int × Int} {F : List Int} (h : ptE p l = 0) (hF : IsTh p l l.length F) (hl : l.length < 12) (q1 : 0 ≤ q.1 ∧ q.1 < p) (hq : q.2 = ev F q.1 % p) (hh : hasP l q.1 = false) :
    ptE p (l.reverse ++ [q]) = 0 ∧ IsTh p (l.reverse ++ [q]) (l.reverse ++ [q]).length F := by
  obtain ⟨hp, p9, _, hP⟩ := ptE_zero.mp h
  have p2 := hp.1
  rw [ptE_zero]
  rw [th_iff] at hF ⊢
  rw [pts_iff] at hP ⊢
  refine ⟨⟨hp, p9, by simp; omega, fun a ha => ?_, ?_⟩, hF.1, by simp; omega, fun a ha => ?_⟩
  · rcases List.mem_append.mp ha with ha | ha
    · exact hP.1 a (List.mem_reverse.mp ha)
    · obtain rfl : a = q := by simpa using ha
      exact ⟨q1, by rw [hq]; exact ⟨Int.emod_nonneg _ (by omega), Int.emod_lt_of_pos _ (by omega)⟩⟩
  · rw [List.map_append, List.map_reverse, List.nodup_append]
    refine ⟨nodup_rev hP.2, by simp, fun x hx y hy => ?_⟩
    have hy : y = q.1 := by simpa using hy
    subst hy
    intro e
    subst e
    obtain ⟨b, hb, hbx⟩ := List.mem_map.mp (List.mem_reverse.mp hx)
    unfold hasP at hh
    rw [List.any_eq_false] at hh
    exact hh b hb (by simpa using hbx)
  · rcases List.mem_append.mp ha with ha | ha
    · exact hF.2.2 a (List.mem_reverse.mp ha)
    · obtain rfl : a = q := by simpa using ha
      rw [hq]
      have := Int.dvd_neg.mpr (dvd_mod p (ev F a.1))
      rwa [Int.neg_sub] at this

theorem more_any {p : Int} {l : List (Int × Int)} {F : List Int} {x y : Int} (h : ptE p l = 0) (hF : IsTh p l l.length F) (hy : y = ev F x % p) (hh : hasP l x = true) : (l.any fun a => a.1 == x && a.2 == y) = true := by
  obtain ⟨hp, p9, _, hP⟩ := ptE_zero.mp h
  rw [th_iff] at hF
  rw [pts_iff] at hP
  unfold hasP at hh
  obtain ⟨a, ha, hx⟩ := List.any_eq_true.mp hh
  have hx : a.1 = x := by simpa using hx
  refine List.any_eq_true.mpr ⟨a, ha, ?_⟩
  have h1 := emod_of_dvd (hF.2.2 a ha)
  have h2 := hP.1 a ha
  rw [hx] at h1
  rw [hx, hy, h1, Int.emod_eq_of_lt h2.2.1 h2.2.2]
  simp




theorem set_grown (w : World) (b : Nat) (v : Value) : w.grownBy (w.setCell ⟨b, 0, none⟩ v) (some b) := ⟨rfl, rfl, rfl, by simp, fun k _ hne => ex_set w k b _ (fun h => hne (by rw [h]))⟩

theorem row_past {e : TypeId} {k : IntKind} {w : World} {base b : Nat} {v : Value} {xs : List Int} (h : Row e k w base v xs) (hb : b < base) (u : Value) : Row e k (w.setCell ⟨b, 0, none⟩ u) base v xs :=
  h.kept (set_grown w b u) (by
    cases hv : v.ownBlock with
    | none => exact .inl rfl
    | some j =>
      refine .inr fun e => ?_
      have := (h.lt j hv).1
      have := Option.some.inj e
      omega)

theorem RowR.read {e : TypeId} {w : World} {base n cap : Nat} {a : Option Addr} {l : List (Int × Int)} (h : RowR e w base (.slice a n cap) l) : ReadsR w a l := by
  obtain ⟨a2, cap2, h1, _, h2, _⟩ := h.reads
  simp only [Value.slice.injEq] at h1
  rw [h1.1]; exact h2

end Go.Proofs.Ythlnbomapfjphaa
