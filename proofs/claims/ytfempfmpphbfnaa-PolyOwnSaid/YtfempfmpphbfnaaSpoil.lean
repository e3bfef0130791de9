/-
  spoil at ints; rows apart.
-/
import Derived.Test.YtfempfmpphbfnaaRows2
namespace Go.Proofs.Ytfempfmpphbfnaa
open Go.RowKit

set_option maxHeartbeats 1000000 in
theorem spoil_int (x : Int) (base : Nat) (v : Value) (xs : List Int) (w : World) (hown : Row 3 .i64 w base v xs) :
    Calls Try.prog 34 #[v, .int .i64 x] w (fun e w2 => e = .returned (.tuple #[]) ∧ w.grownBy w2 v.ownBlock) := by
  rcases hown.2 with ⟨rfl, _⟩ | ⟨g, cap, cur, rfl, hb, hgg, h1, h2, h3, _⟩
  · go_enter Try.func34, Try.ntmps34
    go_wp2
    go_loopg [11] 0 (fun _ v11 wr => v11 = .int .i64 0 ∧ w = wr)
    case atStart => exact ⟨rfl, rfl⟩
    case round =>
      obtain ⟨rfl, rfl⟩ := hrel
      go_wp2
      go_end0
      exact ⟨rfl, rfl, rfl, rfl, Nat.le_refl _, fun _ _ _ => rfl⟩
  · have HO : Hid (w.ownsRow base 3 1 (.slice (some ⟨g, 0, none⟩) cap cap) cap cur.toList) := Lib.hid ⟨by simp [h3], .inr ⟨g, cap, cur, rfl, hb, hgg, Nat.le_refl _, h2, h3, by rw [List.take_of_length_le (by simp [h3])]⟩⟩
    have h63 : cap ≤ 9223372036854775807 := by unfold maxLen at h2; omega
    clear hown hgg h3 h2
    go_enter Try.func34, Try.ntmps34
    go_wp2
    go_loopg [11] cap (fun k v11 wr => ∃ (i : Nat) (ys : List Value), i ≤ cap ∧ v11 = .int .i64 i ∧ Hid (wr.ownsRow base 3 1 (.slice (some ⟨g, 0, none⟩) cap cap) cap ys) ∧ Hid (w.grownBy wr (some g)) ∧ Hid (k = cap - i))
    case atStart => exact ⟨0, _, by omega, rfl, HO, Lib.hid ⟨rfl, rfl, rfl, Nat.le_refl _, fun _ _ _ => rfl⟩, Lib.hid rfl⟩
    case round =>
      obtain ⟨i, ys, hi, rfl, hO, hG, hk⟩ := hrel
      by_cases hlt : i < cap
      · have hyl : ys.length = cap := by have := hO.out.1; omega
        have hc := World.ownsRow.cellAt hO.out i (by omega)
        rw [List.getElem?_eq_getElem (by omega)] at hc
        have hf := World.ownsRow.frozenAt hO.out i
        obtain ⟨y, hy⟩ : ∃ y, ys[i]'(by omega) = y := ⟨_, rfl⟩
        rw [hy] at hc
        have s1 := World.ownsRow.stored hO.out i (.int .i64 x)
        have HS := Lib.hid s1.1
        have HG2 := Lib.hid (hG.out.trans s1.2)
        clear hy s1
        go_wp2
        go_roundg (cap - (i + 1))
        case measure => have := hk.out; omega
        case rel => exact ⟨i + 1, _, by omega, by go_num, HS, HG2, Lib.hid rfl⟩
      · have e : i = cap := by omega
        subst e
        go_wp2
        go_end0
        exact ⟨rfl, hG.out⟩

/-- What stands apart of a row may be written. -/
theorem ne_later {e : TypeId} {k : IntKind} {w w2 : World} {b : Nat} {v u : Value} {xs ys : List Int} (h : Row e k w b v xs) (g : Row e k w2 w.heap.size u ys) : u.ownBlock = none ∨ u.ownBlock ≠ v.ownBlock := by
  cases hu : u.ownBlock with
  | none => exact .inl rfl
  | some j =>
    refine .inr fun he => ?_
    have h1 := (g.lt j hu).1
    have h2 := (h.lt j he.symm).2
    omega

theorem ne_before {e : TypeId} {k : IntKind} {w w2 : World} {b : Nat} {v u : Value} {xs ys : List Int} (h : Row e k w b v xs) (g : Row e k w2 w.heap.size u ys) : v.ownBlock = none ∨ v.ownBlock ≠ u.ownBlock := by
  rcases ne_later h g with h1 | h1
  · rw [h1]
    cases v.ownBlock with
    | none => exact .inl rfl
    | some j => exact .inr fun h => by cases h
  · exact .inr fun h => h1 h.symm

end Go.Proofs.Ytfempfmpphbfnaa
