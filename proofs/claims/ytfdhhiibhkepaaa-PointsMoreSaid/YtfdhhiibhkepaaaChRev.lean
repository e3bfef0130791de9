/-
  slices.Clone and slices.Reverse at slices of congruences.
-/
import Derived.Test.YtfdhhiibhkepaaaRests
import Derived.RegionTactic
import Derived.BigRegion
import Derived.Lib.SliceRun
namespace Go.Proofs.Ytfdhhiibhkepaaa
open Go.RowKit
open Ch

/-- xs, turned from both ends as far as i. -/
def revToR (xs : List (Int × Int)) (i : Nat) : List (Int × Int) := (List.range xs.length).map fun t => if t < i ∨ xs.length < t + i + 1 then nthR xs (xs.length - 1 - t) else nthR xs t

theorem revToR_length (xs : List (Int × Int)) (i : Nat) : (revToR xs i).length = xs.length := by simp [revToR]
theorem revToR_at {xs : List (Int × Int)} {i t : Nat} (h : t < xs.length) : nthR (revToR xs i) t = if t < i ∨ xs.length < t + i + 1 then nthR xs (xs.length - 1 - t) else nthR xs t := by
  rw [nthR_eq (by rw [revToR_length]; exact h)]
  simp [revToR]
theorem listR_nth {xs ys : List (Int × Int)} (hl : xs.length = ys.length) (h : ∀ t, t < xs.length → nthR xs t = nthR ys t) : xs = ys := by
  apply List.ext_getElem hl
  intro t h1 h2
  have := h t h1
  rwa [nthR_eq h1, nthR_eq h2] at this
theorem nthR_set {xs : List (Int × Int)} {j t : Nat} {x : Int × Int} (h : t < xs.length) : nthR (xs.set j x) t = if t = j then x else nthR xs t := by
  rw [nthR_eq (by simpa using h), List.getElem_set, nthR_eq h]
  by_cases e : j = t
  · simp [e]
  · rw [if_neg e, if_neg (Ne.symm e)]
theorem revToR_zero (xs : List (Int × Int)) : revToR xs 0 = xs := listR_nth (revToR_length _ _) fun t h => by
  rw [revToR_length] at h
  rw [revToR_at h, if_neg (by omega)]
theorem nthR_reverse {xs : List (Int × Int)} {t : Nat} (h : t < xs.length) : nthR xs.reverse t = nthR xs (xs.length - 1 - t) := by
  rw [nthR_eq (by simpa using h), List.getElem_reverse, nthR_eq (by omega)]
theorem revToR_end {xs : List (Int × Int)} {i : Nat} (h : xs.length ≤ 2 * i + 1) : revToR xs i = xs.reverse := listR_nth (by simp [revToR_length]) fun t ht => by
  rw [revToR_length] at ht
  rw [revToR_at ht, nthR_reverse ht]
  by_cases h1 : t < i ∨ xs.length < t + i + 1
  · rw [if_pos h1]
  · rw [if_neg h1]; congr 1; omega
theorem revToR_step {xs : List (Int × Int)} {i j : Nat} (h : i + j + 1 = xs.length) (hij : i < j) : ((revToR xs i).set i (nthR xs j)).set j (nthR xs i) = revToR xs (i + 1) := listR_nth (by simp [revToR_length]) fun t ht => by
  simp only [List.length_set, revToR_length] at ht
  rw [nthR_set (by simpa [revToR_length] using ht), nthR_set (by rw [revToR_length]; exact ht), revToR_at ht, revToR_at ht]
  by_cases e : t = j
  · subst e
    rw [if_pos rfl, if_pos (by omega)]; congr 1; omega
  · rw [if_neg e]
    by_cases e2 : t = i
    · subst e2
      rw [if_pos rfl, if_pos (by omega)]; congr 1; omega
    · rw [if_neg e2]
      by_cases h1 : t < i ∨ xs.length < t + i + 1
      · rw [if_pos h1, if_pos (by omega)]
      · rw [if_neg h1, if_neg (by omega)]

theorem rcs_set (l : List (Int × Int)) (j : Nat) (x : Int × Int) (h : j < l.length) : ((rcs l).set (j * 2) (.int .i64 x.1)).set (j * 2 + 1) (.int .i64 x.2) = rcs (l.set j x) := by
  induction l generalizing j with
  | nil => cases h
  | cons y l ih =>
    have e : rcs (y :: l) = .int .i64 y.1 :: .int .i64 y.2 :: rcs l := rfl
    match j with
    | 0 => rfl
    | j + 1 =>
      rw [e, show (j + 1) * 2 = j * 2 + 1 + 1 by omega, show j * 2 + 1 + 1 + 1 = (j * 2 + 1) + 1 + 1 by omega]
      simp only [List.set_cons_succ]
      rw [ih j (by simpa using h)]
      rfl

theorem RowR.set {e : TypeId} {w : World} {base g n cap : Nat} {l : List (Int × Int)} (h : RowR e w base (.slice (some ⟨g, 0, none⟩) n cap) l) (hn : n = l.length) (j : Nat) (x : Int × Int) (hj : j < l.length) :
    RowR e ((w.setCell ⟨g, j * 2, none⟩ (.int .i64 x.1)).setCell ⟨g, j * 2 + 1, none⟩ (.int .i64 x.2)) base (.slice (some ⟨g, 0, none⟩) n cap) (l.set j x) ∧
      w.grownBy ((w.setCell ⟨g, j * 2, none⟩ (.int .i64 x.1)).setCell ⟨g, j * 2 + 1, none⟩ (.int .i64 x.2)) (some g) := by
  subst hn
  have s1 := World.ownsRow.stored h (j * 2) (.int .i64 x.1)
  have s2 := World.ownsRow.stored s1.1 (j * 2 + 1) (.int .i64 x.2)
  refine ⟨?_, s1.2.trans s2.2⟩
  unfold RowR
  rw [List.length_set, ← rcs_set l j x hj]
  exact s2.1



theorem info_points2 : (Try.prog.info? 33).map (fun i => (i.zero, i.size, i.bytes)) = some (some (.agg #[.int .i64 0, .int .i64 0]), 2, 16) := by kernel_rfl

set_option maxHeartbeats 1000000 in
theorem clone_points (l : List (Int × Int)) (a : Option Addr) (cap : Nat) (w : World) (hl : l.length * 16 ≤ 140737488355328) (hr : ReadsR w a l) (hnil : a = none → l = [] ∧ cap = 0) :
    Calls Try.prog 23 #[.slice a l.length cap] w (fun e w2 => ∃ v, e = .returned v ∧ Hid (RowR 33 w2 w.heap.size v l) ∧ Ex w w2) := by
  cases a with
  | none =>
    obtain ⟨rfl, rfl⟩ := hnil rfl
    have q22 : ∀ (w : World) (a : Option Addr) (n c n' c' : Nat), (binOp .eql 22 (.slice a n c) (.slice none n' c')).run Try.prog w = .ok (.bool a.isNone) w := fun w a n c n' c' => Lib.run_eql_slice_nil w _ _ a n c n' c' Try.underlying22
    go_enter Try.func23, Try.ntmps23
    go_wp2
    go_ret
    exact ⟨_, rfl, Lib.hid (RowR.nil _ _ _), Ex.refl _⟩
  | some p =>
    obtain ⟨i0, hi, hz0, hz1, hz2⟩ := info_parts info_points2
    have HI := Lib.hid hi
    have HZ0 := Lib.hid hz0
    have HZ1 := Lib.hid hz1
    have HZ2 := Lib.hid hz2
    have HN : Hid (∀ (j : Nat) (u : Value), (rcs l)[j]? = some u → (w.alloc (.cells #[] 33)).cell? (p.add j) = some u) := Lib.hid fun j u hj => by
      have hjl : j < l.length * 2 := by rw [← rcs_length]; exact (List.getElem?_eq_some_iff.mp hj).1
      rcases hr with rfl | ⟨b, off, hp, hc⟩
      · simp at hjl
      · cases hp
        rw [add_none]
        have h1 := hc (j / 2) (by omega)
        have h2 := rcs_at l (j / 2) (by omega)
        refine ((Ex.refl w).alloc _).cell ?_
        rcases Nat.mod_two_eq_zero_or_one j with hm | hm
        · have e2 : j / 2 * 2 = j := by omega
          rw [e2] at h1 h2
          rw [h1.1, ← h2.1, hj]
        · have e2 : j / 2 * 2 + 1 = j := by omega
          rw [Nat.add_assoc, e2] at h1
          rw [e2] at h2
          rw [h1.2, ← h2.2, hj]
    have HX := Lib.hid ((Ex.refl w).alloc (.cells #[] 33))
    clear hi hz0 hz1 hz2 hr hnil
    have q22 : ∀ (w : World) (a : Option Addr) (n c n' c' : Nat), (binOp .eql 22 (.slice a n c) (.slice none n' c')).run Try.prog w = .ok (.bool a.isNone) w := fun w a n c n' c' => Lib.run_eql_slice_nil w _ _ a n c n' c' Try.underlying22
    go_enter Try.func23, Try.ntmps23
    go_wp2_with (
      (at_builtin; refine wpList_append_own _ rfl _ _ 22 rfl w.heap.size 33 i0 _ 2 16 Try.underlying22 HI.out HZ0.out HZ1.out HZ2.out rfl (by decide) _ _ _ rfl (World.ownsRow_made w #[] 0 (Nat.le_refl _) (Nat.zero_le _) rfl) p l.length cap (rcs l) rfl (rcs_length l) HN.out (rcs_one l) (by unfold maxLen; omega) (by omega) HX.out.size ?_; intro v' w3 hown3 hgrow3 _))
    go_ret
    exact ⟨v', rfl, Lib.hid (by unfold RowR; simpa using hown3), ex_grown HX.out hgrow3 (fun k hk => by
      have h2 : some w.heap.size = some k := hk
      cases h2
      exact Nat.le_refl _)⟩


set_option maxHeartbeats 1000000 in
theorem reverse_points (e : TypeId) (base : Nat) (v : Value) (xs : List (Int × Int)) (w : World) (hown : RowR e w base v xs) (hl : xs.length ≤ 4611686018427387904) :
    Calls Try.prog 24 #[v] w (fun e2 w2 => e2 = .returned (.tuple #[]) ∧ RowR e w2 base v xs.reverse ∧ w.grownBy w2 v.ownBlock) := by
  rcases hown.form with ⟨rfl, rfl⟩ | ⟨g, cap, rfl, hg1, hg2, hc1, hc2, hc, hf⟩
  · go_enter Try.func24, Try.ntmps24
    go_wp2
    go_loopg [2, 3] 0 (fun _ v2 v3 wr => v2 = .int .i64 0 ∧ v3 = .int .i64 (-1) ∧ w = wr)
    case atStart => exact ⟨rfl, rfl, rfl⟩
    case round =>
      obtain ⟨rfl, rfl, rfl⟩ := hrel
      go_wp2
      go_end0
      exact ⟨rfl, hown, ⟨rfl, rfl, rfl, Nat.le_refl _, fun _ _ _ => rfl⟩⟩
  · clear hc hf
    have HO := Lib.hid hown
    clear hown
    obtain ⟨n, hn⟩ : ∃ n, n = xs.length := ⟨_, rfl⟩
    have HN := Lib.hid hn
    rw [← hn] at hl hc1
    have HO2 : Hid (RowR e w base (.slice (some ⟨g, 0, none⟩) n cap) (revToR xs 0)) := Lib.hid (by rw [revToR_zero, hn]; exact HO.out)
    rw [← hn]
    clear HO hn
    go_enter Try.func24, Try.ntmps24
    go_wp2
    go_loopg [2, 3] n (fun k v2 v3 wr => ∃ (i : Nat), 2 * i ≤ n ∧ v2 = .int .i64 i ∧ v3 = .int .i64 ((n : Int) - 1 - i) ∧ Hid (RowR e wr base (.slice (some ⟨g, 0, none⟩) n cap) (revToR xs i)) ∧ Hid (w.grownBy wr (some g)) ∧ Hid (k = n - i))
    case atStart => exact ⟨0, by omega, rfl, int_eq (by omega), HO2, Lib.hid ⟨rfl, rfl, rfl, Nat.le_refl _, fun _ _ _ => rfl⟩, Lib.hid (by omega)⟩
    case round =>
      obtain ⟨i, hi, rfl, rfl, hR, hG, hk⟩ := hrel
      by_cases hlt : (i : Int) < (n : Int) - 1 - i
      · obtain ⟨j, hj⟩ : ∃ j : Nat, (n : Int) - 1 - i = j := ⟨n - 1 - i, by omega⟩
        rw [hj] at hlt ⊢
        have hij : i < j := by omega
        have hjn : i + j + 1 = n := by omega
        have hlen : (revToR xs i).length = n := by rw [revToR_length]; exact HN.out.symm
        have F := hR.out.form
        rw [hlen] at F
        rcases F with ⟨F1, _⟩ | ⟨g2, cap2, F1, _, _, _, _, hc, hf⟩
        · simp at F1
        simp only [Value.slice.injEq, Option.some.injEq, Addr.mk.injEq, and_true, true_and] at F1
        obtain ⟨rfl, rfl⟩ := F1
        obtain ⟨ci, ci2⟩ := hc i (by omega)
        obtain ⟨cj, cj2⟩ := hc j (by omega)
        have fi := hf (i * 2)
        have fj := hf (j * 2)
        have fi2 := hf (i * 2 + 1)
        have fj2 := hf (j * 2 + 1)
        have e1 : nthR (revToR xs i) i = nthR xs i := by rw [revToR_at (by have := HN.out; omega), if_neg (by have := HN.out; omega)]
        have e2 : nthR (revToR xs i) j = nthR xs j := by rw [revToR_at (by have := HN.out; omega), if_neg (by have := HN.out; omega)]
        rw [e1] at ci ci2
        rw [e2] at cj cj2
        have s1 := hR.out.set hlen.symm i (nthR xs j) (by rw [hlen]; omega)
        have s2 := s1.1.set (by rw [List.length_set]; exact hlen.symm) j (nthR xs i) (by rw [List.length_set, hlen]; omega)
        rw [revToR_step (by rw [← HN.out]; exact hjn) hij] at s2
        have HS := Lib.hid (And.intro s2.1 ((hG.out.trans s1.2).trans s2.2))
        clear s1 s2
        obtain ⟨X, hX⟩ : ∃ X, nthR xs i = X := ⟨_, rfl⟩
        obtain ⟨Y, hY⟩ : ∃ Y, nthR xs j = Y := ⟨_, rfl⟩
        rw [hX] at ci ci2
        rw [hY] at cj cj2
        rw [hX, hY] at HS
        have HJ := Lib.hid hjn
        have HJ2 : Hid ((n : Int) - 1 - i = j) := Lib.hid hj
        obtain ⟨X1, X2⟩ := X
        obtain ⟨Y1, Y2⟩ := Y
        simp only at ci ci2 cj cj2
        clear hc hf e1 e2 hX hY hlen hj
        go_wp2
        go_region
        go_wp2
        go_roundg (n - (i + 1))
        case measure => have := hk.out; omega
        case rel => exact ⟨i + 1, by omega, by go_num, int_eq (by have := HJ2.out; omega), Lib.hid HS.out.1, Lib.hid ⟨HS.out.2.os, HS.out.2.tape, HS.out.2.output, HS.out.2.size, HS.out.2.block⟩, Lib.hid rfl⟩
      · have HS : Hid (RowR e wr base (.slice (some ⟨g, 0, none⟩) n cap) xs.reverse) := Lib.hid (by rw [← revToR_end (i := i) (by have := HN.out; omega)]; exact hR.out)
        go_wp2
        go_end0
        exact ⟨rfl, HS.out, hG.out⟩

end Go.Proofs.Ytfdhhiibhkepaaa
