/-
  slices.Reverse at []int, over a row of our own.
-/
import Derived.Test.YtimehaolaeedhaaGro
import Derived.RegionTactic
import Derived.BigRegion
namespace Go.Proofs.Ytimehaolaeedhaa
open Go.RowKit

/-- xs, turned from both ends as far as i. -/
def revTo (xs : List Int) (i : Nat) : List Int := (List.range xs.length).map fun t => if t < i ∨ xs.length < t + i + 1 then nth xs (xs.length - 1 - t) else nth xs t

theorem revTo_length (xs : List Int) (i : Nat) : (revTo xs i).length = xs.length := by simp [revTo]
theorem revTo_at {xs : List Int} {i t : Nat} (h : t < xs.length) : nth (revTo xs i) t = if t < i ∨ xs.length < t + i + 1 then nth xs (xs.length - 1 - t) else nth xs t := by
  rw [nth_eq (by rw [revTo_length]; exact h)]
  simp [revTo]
theorem list_nth {xs ys : List Int} (hl : xs.length = ys.length) (h : ∀ t, t < xs.length → nth xs t = nth ys t) : xs = ys := by
  apply List.ext_getElem hl
  intro t h1 h2
  have := h t h1
  rwa [nth_eq h1, nth_eq h2] at this
theorem nth_set {xs : List Int} {j t : Nat} {x : Int} (h : t < xs.length) : nth (xs.set j x) t = if t = j then x else nth xs t := by
  rw [nth_eq (by simpa using h), List.getElem_set, nth_eq h]
  by_cases e : j = t
  · simp [e]
  · rw [if_neg e, if_neg (Ne.symm e)]
theorem revTo_zero (xs : List Int) : revTo xs 0 = xs := list_nth (revTo_length _ _) fun t h => by
  rw [revTo_length] at h
  rw [revTo_at h, if_neg (by omega)]
theorem nth_reverse {xs : List Int} {t : Nat} (h : t < xs.length) : nth xs.reverse t = nth xs (xs.length - 1 - t) := by
  rw [nth_eq (by simpa using h), List.getElem_reverse, nth_eq (by omega)]
theorem revTo_end {xs : List Int} {i : Nat} (h : xs.length ≤ 2 * i + 1) : revTo xs i = xs.reverse := list_nth (by simp [revTo_length]) fun t ht => by
  rw [revTo_length] at ht
  rw [revTo_at ht, nth_reverse ht]
  by_cases h1 : t < i ∨ xs.length < t + i + 1
  · rw [if_pos h1]
  · rw [if_neg h1]; congr 1; omega
theorem revTo_step {xs : List Int} {i j : Nat} (h : i + j + 1 = xs.length) (hij : i < j) : ((revTo xs i).set i (nth xs j)).set j (nth xs i) = revTo xs (i + 1) := list_nth (by simp [revTo_length]) fun t ht => by
  simp only [List.length_set, revTo_length] at ht
  rw [nth_set (by simpa [revTo_length] using ht), nth_set (by rw [revTo_length]; exact ht), revTo_at ht, revTo_at ht]
  by_cases e : t = j
  · subst e
    rw [if_pos rfl, if_pos (by omega)]; congr 1; omega
  · rw [if_neg e]
    by_cases e2 : t = i
    · subst e2
      rw [if_pos rfl, if_pos (by omega)]; congr 1; omega
    · rw [if_neg e2]
      by_cases h1 : t < i ∨ xs.length < t + i + 1
      · rw [if_pos h1, if_pos (by omega)]
      · rw [if_neg h1, if_neg (by omega)]

set_option maxHeartbeats 1000000 in
theorem reverse_int (e : TypeId) (base : Nat) (v : Value) (xs : List Int) (w : World) (hown : Row e .i64 w base v xs) (hl : xs.length ≤ 4611686018427387904) :
    Calls Try.prog 52 #[v] w (fun e2 w2 => e2 = .returned (.tuple #[]) ∧ Row e .i64 w2 base v xs.reverse ∧ w.grownBy w2 v.ownBlock) := by
  rcases hown.form with ⟨rfl, rfl⟩ | ⟨g, cap, rfl, hg1, hg2, hc1, hc2, hc, hf⟩
  · go_enter Try.func52, Try.ntmps52
    go_wp2
    go_loopg [2, 3] 0 (fun _ v2 v3 wr => v2 = .int .i64 0 ∧ v3 = .int .i64 (-1) ∧ w = wr)
    case atStart => exact ⟨rfl, rfl, rfl⟩
    case round =>
      obtain ⟨rfl, rfl, rfl⟩ := hrel
      go_wp2
      go_end0
      exact ⟨rfl, hown, ⟨rfl, rfl, rfl, Nat.le_refl _, fun _ _ _ => rfl⟩⟩
  · clear hc hf
    have HO := Lib.hid hown
    clear hown
    obtain ⟨n, hn⟩ : ∃ n, n = xs.length := ⟨_, rfl⟩
    have HN := Lib.hid hn
    rw [← hn] at hl hc1
    have HO2 : Hid (Row e .i64 w base (.slice (some ⟨g, 0, none⟩) n cap) (revTo xs 0)) := Lib.hid (by rw [revTo_zero, hn]; exact HO.out)
    rw [← hn]
    clear HO hn
    go_enter Try.func52, Try.ntmps52
    go_wp2
    go_loopg [2, 3] n (fun k v2 v3 wr => ∃ (i : Nat), 2 * i ≤ n ∧ v2 = .int .i64 i ∧ v3 = .int .i64 ((n : Int) - 1 - i) ∧ Hid (Row e .i64 wr base (.slice (some ⟨g, 0, none⟩) n cap) (revTo xs i)) ∧ Hid (w.grownBy wr (some g)) ∧ Hid (k = n - i))
    case atStart => exact ⟨0, by omega, rfl, int_eq (by omega), HO2, Lib.hid ⟨rfl, rfl, rfl, Nat.le_refl _, fun _ _ _ => rfl⟩, Lib.hid (by omega)⟩
    case round =>
      obtain ⟨i, hi, rfl, rfl, hR, hG, hk⟩ := hrel
      by_cases hlt : (i : Int) < (n : Int) - 1 - i
      · obtain ⟨j, hj⟩ : ∃ j : Nat, (n : Int) - 1 - i = j := ⟨n - 1 - i, by omega⟩
        rw [hj] at hlt ⊢
        have hij : i < j := by omega
        have hjn : i + j + 1 = n := by omega
        have hlen : (revTo xs i).length = n := by rw [revTo_length]; exact HN.out.symm
        have F := hR.out.form
        rw [hlen] at F
        rcases F with ⟨F1, _⟩ | ⟨g2, cap2, F1, _, _, _, _, hc, hf⟩
        · simp at F1
        simp only [Value.slice.injEq, Option.some.injEq, Addr.mk.injEq, and_true, true_and] at F1
        obtain ⟨rfl, rfl⟩ := F1
        have ci := hc i (by omega)
        have cj := hc j (by omega)
        have fi := hf i
        have fj := hf j
        have e1 : nth (revTo xs i) i = nth xs i := by rw [revTo_at (by have := HN.out; omega), if_neg (by have := HN.out; omega)]
        have e2 : nth (revTo xs i) j = nth xs j := by rw [revTo_at (by have := HN.out; omega), if_neg (by have := HN.out; omega)]
        rw [e1] at ci
        rw [e2] at cj
        obtain ⟨X, hX⟩ : ∃ X, nth xs i = X := ⟨_, rfl⟩
        obtain ⟨Y, hY⟩ : ∃ Y, nth xs j = Y := ⟨_, rfl⟩
        have HS : Hid (Row e .i64 ((wr.setCell ⟨g, i, none⟩ (.int .i64 Y)).setCell ⟨g, j, none⟩ (.int .i64 X)) base (.slice (some ⟨g, 0, none⟩) n cap) (revTo xs (i + 1))) := Lib.hid (by
          have s1 := (hR.out.set hlen.symm i Y).1
          have s2 := (s1.set (by rw [List.length_set]; exact hlen.symm) j X).1
          rw [← hX, ← hY, revTo_step (by rw [← HN.out]; exact hjn) hij] at s2
          rw [← hX, ← hY]
          exact s2)
        have HG2 : Hid (w.grownBy ((wr.setCell ⟨g, i, none⟩ (.int .i64 Y)).setCell ⟨g, j, none⟩ (.int .i64 X)) (some g)) := Lib.hid (by
          have s1 := hR.out.set hlen.symm i Y
          have s2 := (s1.1.set (by rw [List.length_set]; exact hlen.symm) j X).2
          exact (hG.out.trans s1.2).trans s2)
        rw [hX] at ci
        rw [hY] at cj
        have HJ := Lib.hid hjn
        have HJ2 : Hid ((n : Int) - 1 - i = j) := Lib.hid hj
        clear hc hf e1 e2 hX hY hlen hj
        go_wp2
        go_region
        go_wp2
        go_roundg (n - (i + 1))
        case measure => have := hk.out; omega
        case rel => exact ⟨i + 1, by omega, by go_num, int_eq (by have := HJ2.out; omega), HS, Lib.hid ⟨HG2.out.os, HG2.out.tape, HG2.out.output, HG2.out.size, HG2.out.block⟩, Lib.hid rfl⟩
      · have HS : Hid (Row e .i64 wr base (.slice (some ⟨g, 0, none⟩) n cap) xs.reverse) := Lib.hid (by rw [← revTo_end (i := i) (by have := HN.out; omega)]; exact hR.out)
        go_wp2
        go_end0
        exact ⟨rfl, HS.out, hG.out⟩

end Go.Proofs.Ytimehaolaeedhaa
